/-
  The contract of spoorbook.Same at texts: are two lists the same?
-/
import Derived.Test.YtbmgeomndfodpaaSameB
namespace Go.Proofs.Ytbmgeomndfodpaa
open Go.RowKit Go.Mem

theorem text_ne {x y : ByteArray} (h : x ≠ y) : (!(x.toList == y.toList)) = true := by
  rw [Bool.not_eq_true', beq_eq_false_iff_ne]
  intro e
  rw [ByteArray.toList_eq, ByteArray.toList_eq] at e
  exact h (ByteArray.ext (Array.ext' e))
theorem _root_.Go.Mem.Sl.text {w : World} {A : Option Addr} {zs : List ByteArray} (h : Sl w A (zs.map Value.string)) {k : Nat} (hk : k < zs.length) : ∃ b o, A = some ⟨b, o, none⟩ ∧ w.cell? ⟨b, o + k, none⟩ = some (.string zs[k]) := by
  obtain ⟨b, o, e, hc⟩ := h.at_ (k := k) (by simpa using hk)
  rw [List.getElem_map] at hc
  exact ⟨b, o, e, hc⟩

set_option maxHeartbeats 400000 in
theorem sameS_calls (A B : Option Addr) (n m c1 c2 : Nat) (xs ys : List ByteArray) (w : World) (hx : xs.length = n) (hy : ys.length = m) (hn : n ≤ 9223372036854775807) (hm : m ≤ 9223372036854775807) (hA : Sl w A (xs.map Value.string)) (hB : Sl w B (ys.map Value.string)) :
    Calls Try.prog 39 #[.slice A n c1, .slice B m c2] w fun e w' => e = .returned (.bool (eqL xs ys)) ∧ ∃ q, w' = w.drewN q := by
  subst hx hy
  by_cases hnm : xs.length = ys.length
  · have hne : ((xs.length : Int) != (ys.length : Int)) = false := by rw [hnm]; simp
    go_enter Try.func39, Try.ntmps39
    have HN := Lib.hid hnm
    clear hnm
    go_wp2
    go_loopw [5] (fun i wr => ∃ (k : Nat), k ≤ xs.length ∧ i = .int .i64 k ∧ Hid (xs.take k = ys.take k) ∧ ∃ q, wr = w.drewN q) (fun i _ => xs.length - (intOf i).toNat)
    case atStart => exact ⟨0, Nat.zero_le _, rfl, rfl, 0, rfl⟩
    case round =>
      obtain ⟨k, hk, rfl, HE, q, rfl⟩ := hrel
      clear hne
      by_cases hlt : k < xs.length
      · have hlt2 : k < ys.length := by rw [← HN.out]; exact hlt
        obtain ⟨b, o, rfl, hca⟩ := (hA.text hlt)
        obtain ⟨b2, o2, rfl, hcb⟩ := (hB.text hlt2)
        by_cases hxy : xs[k] = ys[k]
        · have HX : Hid (xs.take (k + 1) = ys.take (k + 1)) := by
            show _ = _
            rw [List.take_succ_eq_append_getElem hlt, List.take_succ_eq_append_getElem hlt2, HE.out, hxy]
          rw [hxy] at hca
          clear hxy
          generalize ys[k] = y at hca hcb
          have hb : (!(y.toList == y.toList)) = false := by simp
          go_wp2_with fail
          go_quiet (fail)
          go_wp2_with fail
          go_roundw
          case rel => exact ⟨k + 1, by omega, by go_num, HX, _, rfl⟩
          case measure => simp [intOf]; omega
        · have HF : Hid (eqL xs ys = false) := eqL_ne fun e => hxy (by subst e; rfl)
          have hb : (!(xs[k].toList == ys[k].toList)) = true := text_ne hxy
          generalize xs[k] = x at hca hb
          generalize ys[k] = y at hcb hb
          clear hxy
          go_wp2_with fail
          go_quiet (fail)
          go_wp2_with fail
          go_ret
          exact ⟨by rw [HF.out]; rfl, _, World.drewN_drewN ..⟩
      · have HF : Hid (eqL xs ys = true) := by
          have h1 := HE.out
          rw [List.take_of_length_le (by omega), List.take_of_length_le (by have := HN.out; omega)] at h1
          exact decide_eq_true h1
        go_wp2_with fail
        go_ret
        exact ⟨by rw [HF.out]; rfl, _, rfl⟩
  · have hne : ((xs.length : Int) != (ys.length : Int)) = true := by rw [bne_iff_ne]; omega
    have HF : Hid (eqL xs ys = false) := eqL_ne fun e => hnm (by rw [e])
    clear hnm
    go_enter Try.func39, Try.ntmps39
    go_wp2
    go_ret
    exact ⟨by rw [HF.out]; rfl, 0, rfl⟩
