/-
  The contract of spoorbook.Same at bytes: are two lists the same?
-/
import Derived.Test.YtbmgeomndfodpaaMem
import Derived.Deep.QuietTactic
import Derived.BigQuiet
namespace Go.Proofs.Ytbmgeomndfodpaa
open Go.RowKit Go.Mem

def eqL {α : Type} [DecidableEq α] (xs ys : List α) : Bool := decide (xs = ys)
theorem eqL_self {α : Type} [DecidableEq α] (xs : List α) : eqL xs xs = true := decide_eq_true rfl
theorem eqL_ne {α : Type} [DecidableEq α] {xs ys : List α} (h : xs ≠ ys) : eqL xs ys = false := decide_eq_false h

theorem u8_ne {x y : UInt8} (h : x ≠ y) : ((x.toNat : Int) != (y.toNat : Int)) = true := by
  rw [bne_iff_ne]; intro e; exact h (UInt8.toNat.inj (by omega))

set_option maxHeartbeats 400000 in
theorem sameB_calls (A B : Option Addr) (n m c1 c2 : Nat) (xs ys : List UInt8) (w : World) (hx : xs.length = n) (hy : ys.length = m) (hn : n ≤ 9223372036854775807) (hm : m ≤ 9223372036854775807) (hA : Sl w A (xs.map B8)) (hB : Sl w B (ys.map B8)) :
    Calls Try.prog 27 #[.slice A n c1, .slice B m c2] w fun e w' => e = .returned (.bool (eqL xs ys)) ∧ ∃ q, w' = w.drewN q := by
  subst hx hy
  by_cases hnm : xs.length = ys.length
  · have hne : ((xs.length : Int) != (ys.length : Int)) = false := by rw [hnm]; simp
    go_enter Try.func27, Try.ntmps27
    have HN := Lib.hid hnm
    clear hnm
    go_wp2
    go_loopw [5] (fun i wr => ∃ (k : Nat), k ≤ xs.length ∧ i = .int .i64 k ∧ Hid (xs.take k = ys.take k) ∧ ∃ q, wr = w.drewN q) (fun i _ => xs.length - (intOf i).toNat)
    case atStart => exact ⟨0, Nat.zero_le _, rfl, rfl, 0, rfl⟩
    case round =>
      obtain ⟨k, hk, rfl, HE, q, rfl⟩ := hrel
      clear hne
      by_cases hlt : k < xs.length
      · have hlt2 : k < ys.length := by rw [← HN.out]; exact hlt
        obtain ⟨b, o, rfl, hca⟩ := hA.byte hlt
        obtain ⟨b2, o2, rfl, hcb⟩ := hB.byte hlt2
        by_cases hxy : xs[k] = ys[k]
        · have HX : Hid (xs.take (k + 1) = ys.take (k + 1)) := by
            show _ = _
            rw [List.take_succ_eq_append_getElem hlt, List.take_succ_eq_append_getElem hlt2, HE.out, hxy]
          rw [hxy] at hca
          clear hxy
          generalize ys[k] = y at hca hcb
          have hb : ((y.toNat : Int) != (y.toNat : Int)) = false := by simp
          go_wp2_with fail
          go_quiet (fail)
          go_wp2_with fail
          go_roundw
          case rel => exact ⟨k + 1, by omega, by go_num, HX, _, rfl⟩
          case measure => simp [intOf]; omega
        · have HF : Hid (eqL xs ys = false) := eqL_ne fun e => hxy (by subst e; rfl)
          have hb := u8_ne hxy
          generalize xs[k] = x at hca hb
          generalize ys[k] = y at hcb hb
          clear hxy
          go_wp2_with fail
          go_quiet (fail)
          go_wp2_with fail
          go_ret
          exact ⟨by rw [HF.out]; rfl, _, World.drewN_drewN ..⟩
      · have HF : Hid (eqL xs ys = true) := by
          have h1 := HE.out
          rw [List.take_of_length_le (by omega), List.take_of_length_le (by have := HN.out; omega)] at h1
          exact decide_eq_true h1
        go_wp2_with fail
        go_ret
        exact ⟨by rw [HF.out]; rfl, _, rfl⟩
  · have hne : ((xs.length : Int) != (ys.length : Int)) = true := by rw [bne_iff_ne]; omega
    have HF : Hid (eqL xs ys = false) := eqL_ne fun e => hnm (by rw [e])
    clear hnm
    go_enter Try.func27, Try.ntmps27
    go_wp2
    go_ret
    exact ⟨by rw [HF.out]; rfl, 0, rfl⟩
end Go.Proofs.Ytbmgeomndfodpaa
