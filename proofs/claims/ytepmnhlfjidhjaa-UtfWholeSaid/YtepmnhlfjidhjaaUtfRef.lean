/-
  The contracts of spoorref7.need, second, fits (written by gen/mkutf3.py).
-/
import Derived.Test.YtepmnhlfjidhjaaUtfValue
import Derived.Deep.QuietTactic
namespace Go.Proofs.Ytepmnhlfjidhjaa
open Go.RowKit Go.Mem

theorem quietEq2 {P : Program} {f : FuncId} {args : Array Value} {w : World} {n : Nat} {v : Value} (h : Calls P f args (w.drewN n) fun e w' => e = .returned v ∧ w.drewN n = w') : Calls P f args (w.drewN n) fun e w'' => e = .returned v ∧ ∃ m, w'' = w.drewN m :=
  h.mono fun _ _ ⟨he, hm⟩ => ⟨he, n, hm.symm⟩
set_option maxHeartbeats 1600000 in
theorem need_calls (x : Nat) (w : World) : Calls Try.prog 127 #[.int .u8 (x : Int)] w fun e w' => e = .returned (.int .i64 ((shapeU x).1 : Int)) ∧ w = w' := by
  by_cases h127 : x ≤ 127
  · have hs : (shapeU x).1 = 1 := by unfold shapeU; (repeat' split) <;> first | rfl | (exfalso; omega)
    rw [hs]
    have d0 : decide ((x : Int) < 128) = true := decide_eq_true (by omega)
    have d1 : decide ((194 : Int) ≤ (x : Int)) = false := decide_eq_false (by omega)
    have d2 : decide ((x : Int) ≤ 223) = true := decide_eq_true (by omega)
    have d3 : decide ((224 : Int) ≤ (x : Int)) = false := decide_eq_false (by omega)
    have d4 : decide ((x : Int) ≤ 239) = true := decide_eq_true (by omega)
    have d5 : decide ((240 : Int) ≤ (x : Int)) = false := decide_eq_false (by omega)
    have d6 : decide ((x : Int) ≤ 244) = true := decide_eq_true (by omega)
    clear hs h127
    go_enter Try.func127, Try.ntmps127
    go_wp2_with fail
    go_ret
    exact ⟨rfl, rfl⟩
  by_cases h193 : x ≤ 193
  · have hs : (shapeU x).1 = 0 := by unfold shapeU; (repeat' split) <;> first | rfl | (exfalso; omega)
    rw [hs]
    have d0 : decide ((x : Int) < 128) = false := decide_eq_false (by omega)
    have d1 : decide ((194 : Int) ≤ (x : Int)) = false := decide_eq_false (by omega)
    have d2 : decide ((x : Int) ≤ 223) = true := decide_eq_true (by omega)
    have d3 : decide ((224 : Int) ≤ (x : Int)) = false := decide_eq_false (by omega)
    have d4 : decide ((x : Int) ≤ 239) = true := decide_eq_true (by omega)
    have d5 : decide ((240 : Int) ≤ (x : Int)) = false := decide_eq_false (by omega)
    have d6 : decide ((x : Int) ≤ 244) = true := decide_eq_true (by omega)
    clear hs h127 h193
    go_enter Try.func127, Try.ntmps127
    go_wp2_with fail
    go_ret
    exact ⟨rfl, rfl⟩
  by_cases h223 : x ≤ 223
  · have hs : (shapeU x).1 = 2 := by unfold shapeU; (repeat' split) <;> first | rfl | (exfalso; omega)
    rw [hs]
    have d0 : decide ((x : Int) < 128) = false := decide_eq_false (by omega)
    have d1 : decide ((194 : Int) ≤ (x : Int)) = true := decide_eq_true (by omega)
    have d2 : decide ((x : Int) ≤ 223) = true := decide_eq_true (by omega)
    have d3 : decide ((224 : Int) ≤ (x : Int)) = false := decide_eq_false (by omega)
    have d4 : decide ((x : Int) ≤ 239) = true := decide_eq_true (by omega)
    have d5 : decide ((240 : Int) ≤ (x : Int)) = false := decide_eq_false (by omega)
    have d6 : decide ((x : Int) ≤ 244) = true := decide_eq_true (by omega)
    clear hs h127 h193 h223
    go_enter Try.func127, Try.ntmps127
    go_wp2_with fail
    go_ret
    exact ⟨rfl, rfl⟩
  by_cases h239 : x ≤ 239
  · have hs : (shapeU x).1 = 3 := by unfold shapeU; (repeat' split) <;> first | rfl | (exfalso; omega)
    rw [hs]
    have d0 : decide ((x : Int) < 128) = false := decide_eq_false (by omega)
    have d1 : decide ((194 : Int) ≤ (x : Int)) = true := decide_eq_true (by omega)
    have d2 : decide ((x : Int) ≤ 223) = false := decide_eq_false (by omega)
    have d3 : decide ((224 : Int) ≤ (x : Int)) = true := decide_eq_true (by omega)
    have d4 : decide ((x : Int) ≤ 239) = true := decide_eq_true (by omega)
    have d5 : decide ((240 : Int) ≤ (x : Int)) = false := decide_eq_false (by omega)
    have d6 : decide ((x : Int) ≤ 244) = true := decide_eq_true (by omega)
    clear hs h127 h193 h223 h239
    go_enter Try.func127, Try.ntmps127
    go_wp2_with fail
    go_ret
    exact ⟨rfl, rfl⟩
  by_cases h244 : x ≤ 244
  · have hs : (shapeU x).1 = 4 := by unfold shapeU; (repeat' split) <;> first | rfl | (exfalso; omega)
    rw [hs]
    have d0 : decide ((x : Int) < 128) = false := decide_eq_false (by omega)
    have d1 : decide ((194 : Int) ≤ (x : Int)) = true := decide_eq_true (by omega)
    have d2 : decide ((x : Int) ≤ 223) = false := decide_eq_false (by omega)
    have d3 : decide ((224 : Int) ≤ (x : Int)) = true := decide_eq_true (by omega)
    have d4 : decide ((x : Int) ≤ 239) = false := decide_eq_false (by omega)
    have d5 : decide ((240 : Int) ≤ (x : Int)) = true := decide_eq_true (by omega)
    have d6 : decide ((x : Int) ≤ 244) = true := decide_eq_true (by omega)
    clear hs h127 h193 h223 h239 h244
    go_enter Try.func127, Try.ntmps127
    go_wp2_with fail
    go_ret
    exact ⟨rfl, rfl⟩
  · have hs : (shapeU x).1 = 0 := by unfold shapeU; (repeat' split) <;> first | rfl | (exfalso; omega)
    rw [hs]
    have d0 : decide ((x : Int) < 128) = false := decide_eq_false (by omega)
    have d1 : decide ((194 : Int) ≤ (x : Int)) = true := decide_eq_true (by omega)
    have d2 : decide ((x : Int) ≤ 223) = false := decide_eq_false (by omega)
    have d3 : decide ((224 : Int) ≤ (x : Int)) = true := decide_eq_true (by omega)
    have d4 : decide ((x : Int) ≤ 239) = false := decide_eq_false (by omega)
    have d5 : decide ((240 : Int) ≤ (x : Int)) = true := decide_eq_true (by omega)
    have d6 : decide ((x : Int) ≤ 244) = false := decide_eq_false (by omega)
    clear hs h127 h193 h223 h239 h244
    go_enter Try.func127, Try.ntmps127
    go_wp2_with fail
    go_ret
    exact ⟨rfl, rfl⟩
def secU (x : Nat) : Nat × Nat := if x = 224 then (160, 191) else if x = 237 then (128, 159) else if x = 240 then (144, 191) else if x = 244 then (128, 143) else (128, 191)
theorem secU_shape (x : Nat) : (shapeU x).1 < 2 ∨ (shapeU x).2 = secU x := by
  unfold shapeU secU
  repeat' split
  all_goals first | (right; rfl) | (left; decide) | (exfalso; omega)
set_option maxHeartbeats 1600000 in
theorem second_calls (x d : Nat) (v : Bool) (w : World) (hv : v = (decide ((secU x).1 ≤ d) && decide (d ≤ (secU x).2))) : Calls Try.prog 128 #[.int .u8 (x : Int), .int .u8 (d : Int)] w fun e w' => e = .returned (.bool v) ∧ w = w' := by
  by_cases h224 : x = 224
  · have hs : secU x = (160, 191) := by unfold secU; exact if_pos h224
    rw [hs] at hv
    simp only at hv
    have e224 : ((x : Int) == 224) = true := beq_iff_eq.2 (by omega)
    clear hs  h224
    by_cases g0 : d < 160
    · have a1 : decide ((160 : Int) ≤ (d : Int)) = false := decide_eq_false (by omega)
      obtain rfl : v = false := by rw [hv]; simp; omega
      clear g0
      clear hv
      go_enter Try.func128, Try.ntmps128
      go_wp2_with fail
      go_ret
      exact ⟨rfl, rfl⟩
    by_cases g1 : 191 < d
    · have a1 : decide ((160 : Int) ≤ (d : Int)) = true := decide_eq_true (by omega)
      have a2 : decide ((d : Int) ≤ 191) = false := decide_eq_false (by omega)
      obtain rfl : v = false := by rw [hv]; simp; omega
      clear g0 g1
      clear hv
      go_enter Try.func128, Try.ntmps128
      go_wp2_with fail
      go_ret
      exact ⟨rfl, rfl⟩
    · have a1 : decide ((160 : Int) ≤ (d : Int)) = true := decide_eq_true (by omega)
      have a2 : decide ((d : Int) ≤ 191) = true := decide_eq_true (by omega)
      obtain rfl : v = true := by rw [hv]; simp; omega
      clear g0 g1
      clear hv
      go_enter Try.func128, Try.ntmps128
      go_wp2_with fail
      go_ret
      exact ⟨rfl, rfl⟩
  by_cases h237 : x = 237
  · have hs : secU x = (128, 159) := by unfold secU; rw [if_neg h224]; exact if_pos h237
    rw [hs] at hv
    simp only at hv
    have e224 : ((x : Int) == 224) = false := beq_eq_false_iff_ne.2 (by omega)
    have e237 : ((x : Int) == 237) = true := beq_iff_eq.2 (by omega)
    clear hs h224 h237
    by_cases g0 : d < 128
    · have a1 : decide ((128 : Int) ≤ (d : Int)) = false := decide_eq_false (by omega)
      obtain rfl : v = false := by rw [hv]; simp; omega
      clear g0
      clear hv
      go_enter Try.func128, Try.ntmps128
      go_wp2_with fail
      go_ret
      exact ⟨rfl, rfl⟩
    by_cases g1 : 159 < d
    · have a1 : decide ((128 : Int) ≤ (d : Int)) = true := decide_eq_true (by omega)
      have a2 : decide ((d : Int) ≤ 159) = false := decide_eq_false (by omega)
      obtain rfl : v = false := by rw [hv]; simp; omega
      clear g0 g1
      clear hv
      go_enter Try.func128, Try.ntmps128
      go_wp2_with fail
      go_ret
      exact ⟨rfl, rfl⟩
    · have a1 : decide ((128 : Int) ≤ (d : Int)) = true := decide_eq_true (by omega)
      have a2 : decide ((d : Int) ≤ 159) = true := decide_eq_true (by omega)
      obtain rfl : v = true := by rw [hv]; simp; omega
      clear g0 g1
      clear hv
      go_enter Try.func128, Try.ntmps128
      go_wp2_with fail
      go_ret
      exact ⟨rfl, rfl⟩
  by_cases h240 : x = 240
  · have hs : secU x = (144, 191) := by unfold secU; rw [if_neg h224]; rw [if_neg h237]; exact if_pos h240
    rw [hs] at hv
    simp only at hv
    have e224 : ((x : Int) == 224) = false := beq_eq_false_iff_ne.2 (by omega)
    have e237 : ((x : Int) == 237) = false := beq_eq_false_iff_ne.2 (by omega)
    have e240 : ((x : Int) == 240) = true := beq_iff_eq.2 (by omega)
    clear hs h224 h237 h240
    by_cases g0 : d < 144
    · have a1 : decide ((144 : Int) ≤ (d : Int)) = false := decide_eq_false (by omega)
      obtain rfl : v = false := by rw [hv]; simp; omega
      clear g0
      clear hv
      go_enter Try.func128, Try.ntmps128
      go_wp2_with fail
      go_ret
      exact ⟨rfl, rfl⟩
    by_cases g1 : 191 < d
    · have a1 : decide ((144 : Int) ≤ (d : Int)) = true := decide_eq_true (by omega)
      have a2 : decide ((d : Int) ≤ 191) = false := decide_eq_false (by omega)
      obtain rfl : v = false := by rw [hv]; simp; omega
      clear g0 g1
      clear hv
      go_enter Try.func128, Try.ntmps128
      go_wp2_with fail
      go_ret
      exact ⟨rfl, rfl⟩
    · have a1 : decide ((144 : Int) ≤ (d : Int)) = true := decide_eq_true (by omega)
      have a2 : decide ((d : Int) ≤ 191) = true := decide_eq_true (by omega)
      obtain rfl : v = true := by rw [hv]; simp; omega
      clear g0 g1
      clear hv
      go_enter Try.func128, Try.ntmps128
      go_wp2_with fail
      go_ret
      exact ⟨rfl, rfl⟩
  by_cases h244 : x = 244
  · have hs : secU x = (128, 143) := by unfold secU; rw [if_neg h224]; rw [if_neg h237]; rw [if_neg h240]; exact if_pos h244
    rw [hs] at hv
    simp only at hv
    have e224 : ((x : Int) == 224) = false := beq_eq_false_iff_ne.2 (by omega)
    have e237 : ((x : Int) == 237) = false := beq_eq_false_iff_ne.2 (by omega)
    have e240 : ((x : Int) == 240) = false := beq_eq_false_iff_ne.2 (by omega)
    have e244 : ((x : Int) == 244) = true := beq_iff_eq.2 (by omega)
    clear hs h224 h237 h240 h244
    by_cases g0 : d < 128
    · have a1 : decide ((128 : Int) ≤ (d : Int)) = false := decide_eq_false (by omega)
      obtain rfl : v = false := by rw [hv]; simp; omega
      clear g0
      clear hv
      go_enter Try.func128, Try.ntmps128
      go_wp2_with fail
      go_ret
      exact ⟨rfl, rfl⟩
    by_cases g1 : 143 < d
    · have a1 : decide ((128 : Int) ≤ (d : Int)) = true := decide_eq_true (by omega)
      have a2 : decide ((d : Int) ≤ 143) = false := decide_eq_false (by omega)
      obtain rfl : v = false := by rw [hv]; simp; omega
      clear g0 g1
      clear hv
      go_enter Try.func128, Try.ntmps128
      go_wp2_with fail
      go_ret
      exact ⟨rfl, rfl⟩
    · have a1 : decide ((128 : Int) ≤ (d : Int)) = true := decide_eq_true (by omega)
      have a2 : decide ((d : Int) ≤ 143) = true := decide_eq_true (by omega)
      obtain rfl : v = true := by rw [hv]; simp; omega
      clear g0 g1
      clear hv
      go_enter Try.func128, Try.ntmps128
      go_wp2_with fail
      go_ret
      exact ⟨rfl, rfl⟩
  · have hs : secU x = (128, 191) := by unfold secU; rw [if_neg h224]; rw [if_neg h237]; rw [if_neg h240]; exact if_neg h244
    rw [hs] at hv
    simp only at hv
    have e224 : ((x : Int) == 224) = false := beq_eq_false_iff_ne.2 (by omega)
    have e237 : ((x : Int) == 237) = false := beq_eq_false_iff_ne.2 (by omega)
    have e240 : ((x : Int) == 240) = false := beq_eq_false_iff_ne.2 (by omega)
    have e244 : ((x : Int) == 244) = false := beq_eq_false_iff_ne.2 (by omega)
    clear hs h224 h237 h240 h244
    by_cases g0 : d < 128
    · have a1 : decide ((128 : Int) ≤ (d : Int)) = false := decide_eq_false (by omega)
      obtain rfl : v = false := by rw [hv]; simp; omega
      clear g0
      clear hv
      go_enter Try.func128, Try.ntmps128
      go_wp2_with fail
      go_ret
      exact ⟨rfl, rfl⟩
    by_cases g1 : 191 < d
    · have a1 : decide ((128 : Int) ≤ (d : Int)) = true := decide_eq_true (by omega)
      have a2 : decide ((d : Int) ≤ 191) = false := decide_eq_false (by omega)
      obtain rfl : v = false := by rw [hv]; simp; omega
      clear g0 g1
      clear hv
      go_enter Try.func128, Try.ntmps128
      go_wp2_with fail
      go_ret
      exact ⟨rfl, rfl⟩
    · have a1 : decide ((128 : Int) ≤ (d : Int)) = true := decide_eq_true (by omega)
      have a2 : decide ((d : Int) ≤ 191) = true := decide_eq_true (by omega)
      obtain rfl : v = true := by rw [hv]; simp; omega
      clear g0 g1
      clear hv
      go_enter Try.func128, Try.ntmps128
      go_wp2_with fail
      go_ret
      exact ⟨rfl, rfl⟩
/-- what fits tells -/
def fitsU (bs : List UInt8) : Nat × Nat := match bs[0]? with
  | none => (0, 0)
  | some b => if startU bs = -1 then (0, 0) else if startU bs = 0 then (bs.length, (shapeU b.toNat).1) else ((shapeU b.toNat).1, (shapeU b.toNat).1)

set_option maxRecDepth 100000 in
set_option maxHeartbeats 3200000 in
theorem fits_calls (bs : List UInt8) (A : Option Addr) (n c : Nat) (w : World) (hl : bs.length = n) (hmax : n ≤ 9223372036854775807) (hs : Sl w A (bs.map B8)) :
    Calls Try.prog 90 #[.slice A n c] w fun e w' => e = .returned (.tuple #[.int .i64 ((fitsU bs).1 : Int), .int .i64 ((fitsU bs).2 : Int)]) ∧ ∃ q, w' = w.drewN q := by
  subst hl
  generalize hF : fitsU bs = F
  by_cases hpos : 0 < bs.length
  · obtain ⟨b, o, rfl, hc0⟩ := hs.byte hpos
    rw [Nat.add_zero] at hc0
    have hlen : (0 : Int) < (bs.length : Int) := by omega
    have hlb : ((bs.length : Int) == 0) = false := beq_eq_false_iff_ne.2 (by omega)
    unfold fitsU at hF
    rw [List.getElem?_eq_getElem hpos] at hF
    simp only at hF
    have hR0 := @startU_none bs hpos
    have hR1 := @startU_some bs hpos
    have hsec := secU_shape (bs[0]'hpos).toNat
    have HN := Lib.hid (fun (W : World) => need_calls (bs[0]'hpos).toNat W)
    have HSC := Lib.hid (fun (W : World) (d : Nat) (v : Bool) (h) => second_calls (bs[0]'hpos).toNat d v W h)
    have h4 := shapeU_le (bs[0]'hpos).toNat
    generalize hsh : shapeU (bs[0]'hpos).toNat = sh at hF hR0 hR1 hsec HN h4
    obtain ⟨N, lo0, hi0⟩ := sh
    generalize startU bs = R at hF hR0 hR1
    generalize secU (bs[0]'hpos).toNat = S at hsec HSC
    obtain ⟨slo, shi⟩ := S
    clear hsh
    generalize (bs[0]'hpos).toNat = x0 at HN HSC hc0
    simp only at hF hR0 hR1 hsec h4 HN HSC
    by_cases hN0 : N = 0
    · rw [if_pos (hR0 hN0)] at hF
      subst hF
      have hnb : ((N : Int) == 0) = true := beq_iff_eq.2 (by omega)
      clear hR0 hR1 hsec hN0
      go_enter Try.func90, Try.ntmps90
      go_wp2_with fail
      refine (HN.out _).mono ?_
      rintro e w1 ⟨rfl, rfl⟩
      go_wp2_with fail
      go_ret2
      exact ⟨rfl, 0, rfl⟩
    · have hnb : ((N : Int) == 0) = false := beq_eq_false_iff_ne.2 (by omega)
      have hr := Lib.hid (hR1 hN0)
      have HF := Lib.hid hF
      have HSEC := Lib.hid hsec
      clear hR0 hR1 hF hsec
      go_enter Try.func90, Try.ntmps90
      go_wp2_with fail
      refine (HN.out _).mono ?_
      rintro e w1 ⟨rfl, rfl⟩
      go_wp2_with fail
      refine (HN.out _).mono ?_
      rintro e w1 ⟨rfl, rfl⟩
      go_wp2_with fail
      go_loopw [5] (fun k wr => ∃ (i f lo hi q : Nat), k = .int .i64 i ∧ i + f = N ∧ 1 ≤ i ∧ i ≤ bs.length ∧ Hid (i = 1 → (lo, hi) = (lo0, hi0)) ∧ Hid (1 < i → lo = 128 ∧ hi = 191) ∧ Hid (tailU bs N f i lo hi = R) ∧ wr = w.drewN q) (fun k _ => N - (intOf k).toNat)
      case atStart => exact ⟨1, N - 1, lo0, hi0, 0, rfl, by omega, Nat.le_refl _, by omega, (show _ → _ from fun _ => rfl), (show _ → _ from fun h => absurd h (by decide)), hr, rfl⟩
      case round =>
        clear hr
        obtain ⟨i, f, lo, hi, q, rfl, hif, hi1, hil, HL, HL2, hr, hw⟩ := hrel
        have hsr : Sl wr (some ⟨b, o, none⟩) (bs.map B8) := by rw [hw]; exact hs.drewN q
        have hc0r : wr.cell? ⟨b, o, none⟩ = some (.int .u8 (x0 : Int)) := by rw [hw]; exact hc0
        have HW := Lib.hid hw
        clear hw
        cases f with
        | zero =>
          obtain rfl : i = N := by omega
          have hR := hr.out
          unfold tailU at hR
          have hF := HF.out
          rw [← hR, if_neg (by omega), if_neg (by omega)] at hF
          subst hF
          have hd : decide (bs.length < i) = false := decide_eq_false (by omega)
          clear hr hR HF HL HL2 HSEC
          go_wp2_with fail
          go_ret2
          exact ⟨rfl, q, HW.out⟩
        | succ f =>
          have hlt : i < N := by omega
          by_cases hie : i = bs.length
          · have hR : R = 0 := by
              have h := hr.out
              unfold tailU at h
              rw [List.getElem?_eq_none (by omega)] at h
              exact h.symm
            have hF := HF.out
            rw [hR, if_neg (by decide), if_pos rfl] at hF
            subst hF
            have hd : decide (bs.length < N) = true := decide_eq_true (by omega)
            clear hr hR HF HL HL2 HSEC
            go_wp2_with fail
            go_ret2
            exact ⟨rfl, q, HW.out⟩
          · have hi2 : i < bs.length := by omega
            have i0 : (0 : Int) ≤ (i : Int) := Int.natCast_nonneg _
            have i1 : (i : Int) < (bs.length : Int) := by omega
            have hci := Sl.byteAt hsr hi2
            have h := hr.out
            unfold tailU at h
            rw [List.getElem?_eq_getElem hi2] at h
            simp only at h
            clear hr
            by_cases he1 : i = 1
            · have hb1 : ((i : Int) == 1) = true := beq_iff_eq.2 (by omega)
              have hb2 : decide ((1 : Int) < (i : Int)) = false := decide_eq_false (by omega)
              have i2 : (1 : Int) < (bs.length : Int) := by omega
              have hlh := HL.out he1
              have hse := HSEC.out
              have hlo : (lo, hi) = (slo, shi) := by rcases hse with h | h; (· omega); (· rw [hlh, h])
              obtain ⟨rfl, rfl⟩ : lo = slo ∧ hi = shi := by injection hlo with a b; exact ⟨a, b⟩
              have hci1 : wr.cell? ⟨b, o + 1, none⟩ = some (.int .u8 ((bs[i]'hi2).toNat : Int)) := by rw [← he1]; exact hci
              generalize (bs[i]'hi2).toNat = d at hci hci1 h
              clear hlh hse hlo hci
              by_cases hdd : d < lo ∨ hi < d
              · rw [if_pos hdd] at h
                have hF := HF.out
                rw [← h, if_pos rfl] at hF
                subst hF
                have HS2 := Lib.hid (fun (W : World) => HSC.out W d false (by symm; simp; omega))
                clear h hdd HF HL HL2 HSEC HSC he1
                go_wp2_with fail
                go_quiet ((go_at_call 128; exact quietEq2 (HS2.out _)))
                go_wp2_with fail
                go_ret2
                exact ⟨rfl, _, by rw [HW.out, World.drewN_drewN]⟩
              · rw [if_neg hdd] at h
                have hr2 := Lib.hid h
                have HS2 := Lib.hid (fun (W : World) => HSC.out W d true (by symm; simp; omega))
                clear h hdd HL HL2 HSEC he1
                go_wp2_with fail
                go_quiet ((go_at_call 128; exact quietEq2 (HS2.out _)))
                go_wp2_with fail
                go_roundw
                case rel => exact ⟨i + 1, f, 128, 191, _, by go_num, by omega, by omega, by omega, (show _ → _ from fun h => by omega), (show _ → _ from fun _ => ⟨rfl, rfl⟩), hr2, by rw [HW.out, World.drewN_drewN]⟩
                case measure => simp [intOf]; omega
            · have hb1 : ((i : Int) == 1) = false := beq_eq_false_iff_ne.2 (by omega)
              have hb2 : decide ((1 : Int) < (i : Int)) = true := decide_eq_true (by omega)
              obtain ⟨rfl, rfl⟩ := HL2.out (by omega)
              generalize (bs[i]'hi2).toNat = d at hci h
              by_cases hdl : d < 128
              · rw [if_pos (.inl hdl)] at h
                have hF := HF.out
                rw [← h, if_pos rfl] at hF
                subst hF
                have hd1 : decide ((d : Int) < 128) = true := decide_eq_true (by omega)
                clear h hdl HF HL HL2 HSEC HSC he1
                go_wp2_with fail
                go_quiet (fail)
                go_wp2_with fail
                go_ret2
                exact ⟨rfl, _, by rw [HW.out, World.drewN_drewN]⟩
              · have hd1 : decide ((d : Int) < 128) = false := decide_eq_false (by omega)
                by_cases hdh : 191 < d
                · rw [if_pos (.inr hdh)] at h
                  have hF := HF.out
                  rw [← h, if_pos rfl] at hF
                  subst hF
                  have hd2 : decide ((191 : Int) < (d : Int)) = true := decide_eq_true (by omega)
                  clear h hdl hdh HF HL HL2 HSEC HSC he1
                  go_wp2_with fail
                  go_quiet (fail)
                  go_wp2_with fail
                  go_ret2
                  exact ⟨rfl, _, by rw [HW.out, World.drewN_drewN]⟩
                · rw [if_neg (by omega)] at h
                  have hr2 := Lib.hid h
                  have hd2 : decide ((191 : Int) < (d : Int)) = false := decide_eq_false (by omega)
                  clear h hdl hdh HL HL2 HSEC he1
                  go_wp2_with fail
                  go_quiet (fail)
                  go_wp2_with fail
                  go_roundw
                  case rel => exact ⟨i + 1, f, 128, 191, _, by go_num, by omega, by omega, by omega, (show _ → _ from fun h => by omega), (show _ → _ from fun _ => ⟨rfl, rfl⟩), hr2, by rw [HW.out, World.drewN_drewN]⟩
                  case measure => simp [intOf]; omega
  · have he : bs = [] := List.eq_nil_of_length_eq_zero (by omega)
    subst he
    have hlb : ((([] : List UInt8).length : Nat) : Int) = 0 := rfl
    obtain rfl : (0, 0) = F := hF
    go_enter Try.func90, Try.ntmps90
    go_wp2_with fail
    go_ret2
    exact ⟨rfl, 0, rfl⟩
end Go.Proofs.Ytepmnhlfjidhjaa
