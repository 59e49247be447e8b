/-
  The contract of utf.start.
-/
import Derived.Test.YtepmnhlfjidhjaaUtfShape
namespace Go.Proofs.Ytepmnhlfjidhjaa
open Go.RowKit Go.Mem

theorem Sl.byteAt {w : World} {b o : Nat} {bs : List UInt8} (h : Sl w (some ⟨b, o, none⟩) (bs.map B8)) {k : Nat} (hk : k < bs.length) : w.cell? ⟨b, o + k, none⟩ = some (.int .u8 (bs[k].toNat : Int)) := by
  obtain ⟨b2, o2, e, hc⟩ := h.byte hk
  obtain ⟨rfl, rfl⟩ : b = b2 ∧ o = o2 := by injection e with e; injection e with e1 e2; exact ⟨e1, e2⟩
  exact hc
theorem startU_none {bs : List UInt8} (hb : 0 < bs.length) (h : (shapeU (bs[0]'hb).toNat).1 = 0) : startU bs = -1 := by
  unfold startU
  rw [List.getElem?_eq_getElem hb]
  exact if_pos h
theorem startU_some {bs : List UInt8} (hb : 0 < bs.length) (h : (shapeU (bs[0]'hb).toNat).1 ≠ 0) : tailU bs (shapeU (bs[0]'hb).toNat).1 ((shapeU (bs[0]'hb).toNat).1 - 1) 1 (shapeU (bs[0]'hb).toNat).2.1 (shapeU (bs[0]'hb).toNat).2.2 = startU bs := by
  unfold startU
  rw [List.getElem?_eq_getElem hb]
  exact (if_neg h).symm

set_option maxRecDepth 100000 in
set_option maxHeartbeats 1600000 in
theorem start_calls (bs : List UInt8) (A : Option Addr) (n c : Nat) (w : World) (hl : bs.length = n) (hpos : 0 < n) (hmax : n ≤ 9223372036854775807) (hs : Sl w A (bs.map B8)) :
    Calls Try.prog 89 #[.slice A n c] w fun e w' => e = .returned (.int .i64 (startU bs)) ∧ w = w' := by
  subst hl
  obtain ⟨b, o, rfl, hc0⟩ := hs.byte hpos
  rw [Nat.add_zero] at hc0
  have HS := Lib.hid (shape_calls (bs[0]'hpos).toNat w)
  have hlen : (0 : Int) < (bs.length : Int) := by omega
  have h4 := shapeU_le (bs[0]'hpos).toNat
  have hR0 := Lib.hid (@startU_none bs hpos)
  have hR1 := Lib.hid (@startU_some bs hpos)
  generalize shapeU (bs[0]'hpos).toNat = sh at HS h4 hR0 hR1
  generalize startU bs = R at hR0 hR1 ⊢
  obtain ⟨N, lo, hi⟩ := sh
  simp only at h4
  go_enter Try.func89, Try.ntmps89
  go_wp2_with fail
  refine HS.out.mono ?_
  rintro e w1 ⟨rfl, rfl⟩
  by_cases hN : N = 0
  · obtain rfl : R = -1 := hR0.out hN
    subst hN
    have hb : (((0 : Nat) : Int) == 0) = true := by decide
    clear hR0 hR1 HS
    go_wp2_with fail
    go_ret
    exact ⟨rfl, rfl⟩
  · have hr : Hid (tailU bs N (N - 1) 1 lo hi = R) := (show _ = _ from hR1.out hN)
    have hb : ((N : Int) == 0) = false := beq_eq_false_iff_ne.2 (by omega)
    clear hR0 hR1 HS
    go_wp2_with fail
    go_loopw [4, 5, 6] (fun l h k wr => ∃ (i f lo hi : Nat), l = .int .u8 lo ∧ h = .int .u8 hi ∧ k = .int .i64 i ∧ i + f = N ∧ i ≤ bs.length ∧ Hid (tailU bs N f i lo hi = R) ∧ wr = w) (fun _ _ k _ => N - (intOf k).toNat)
    case atStart => exact ⟨1, N - 1, lo, hi, rfl, rfl, rfl, by omega, by omega, hr, rfl⟩
    case round =>
      clear hr
      obtain ⟨i, f, lo, hi, rfl, rfl, rfl, hif, hil, hr, hw⟩ := hrel
      subst hw
      cases f with
      | zero =>
        obtain rfl : i = N := by omega
        obtain rfl : (i : Int) = R := hr.out
        clear hr
        go_wp2_with fail
        go_ret
        exact ⟨rfl, rfl⟩
      | succ f =>
        have hlt : i < N := by omega
        by_cases hie : i = bs.length
        · have hb2 : ((i : Int) == (bs.length : Int)) = true := beq_iff_eq.2 (by omega)
          obtain rfl : 0 = R := by
            have h := hr.out
            unfold tailU at h
            rw [List.getElem?_eq_none (by omega)] at h
            exact h
          clear hr hie
          go_wp2_with fail
          go_ret
          exact ⟨rfl, rfl⟩
        · have hb2 : ((i : Int) == (bs.length : Int)) = false := beq_eq_false_iff_ne.2 (by omega)
          have hi2 : i < bs.length := by omega
          have i0 : (0 : Int) ≤ (i : Int) := Int.natCast_nonneg _
          have i1 : (i : Int) < (bs.length : Int) := by omega
          have hci := Sl.byteAt hs hi2
          have h := hr.out
          unfold tailU at h
          rw [List.getElem?_eq_getElem hi2] at h
          simp only at h
          clear hr
          generalize (bs[i]'hi2).toNat = x at hci h
          by_cases hlo : x < lo
          · obtain rfl : -1 = R := by rw [if_pos (.inl hlo)] at h; exact h
            have hd : decide (x < lo) = true := decide_eq_true hlo
            clear h
            go_wp2_with fail
            go_ret
            exact ⟨rfl, rfl⟩
          · by_cases hhi : hi < x
            · obtain rfl : -1 = R := by rw [if_pos (.inr hhi)] at h; exact h
              have hd : decide (x < lo) = false := decide_eq_false hlo
              have hd2 : decide (hi < x) = true := decide_eq_true hhi
              clear h
              go_wp2_with fail
              go_ret
              exact ⟨rfl, rfl⟩
            · rw [if_neg (by omega)] at h
              have hr2 := Lib.hid h
              have hd : decide (x < lo) = false := decide_eq_false hlo
              have hd2 : decide (hi < x) = false := decide_eq_false hhi
              clear h
              go_wp2_with fail
              go_roundw
              case rel => exact ⟨i + 1, f, 128, 191, rfl, rfl, by go_num, by omega, by omega, hr2, trivial⟩
              case measure => simp [intOf]; omega
end Go.Proofs.Ytepmnhlfjidhjaa
