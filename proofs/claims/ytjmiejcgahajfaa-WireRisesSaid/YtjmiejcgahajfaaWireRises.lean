/-
  WireRises: the bytes of a greater number stand behind those of a lesser one.
-/
import Derived.Test.YtjmiejcgahajfaaWireRuns
import Derived.Test.YtjmiejcgahajfaaWireLex
import Derived.Deep.RegionWith
namespace Go.Proofs.Ytjmiejcgahajfaa
open Go.RowKit Go.Mem

set_option maxHeartbeats 4000000 in
theorem wireRises_calls (a b : Int) (w : World) (ha : -9223372036854775808 ≤ a ∧ a ≤ 9223372036854775807) (hb : -9223372036854775808 ≤ b ∧ b ≤ 9223372036854775807) :
    Calls Try.prog 9 #[.int .i64 a, .int .i64 b] w fun e w' => e = .returned (.bool true) ∧ Below w.heap.size w w' := by
  have HA := Lib.hid ha
  have HB := Lib.hid hb
  have hla : (Wire.num a.toNat).length ≤ 9 := by rw [Wire.num_length]; have := Wire.nb_le a.toNat (by omega); omega
  have hls := Lib.hid (Wire.num_less a.toNat b.toNat (by omega) (by omega))
  have hin : Hid (Wire.num a.toNat = Wire.num b.toNat ↔ a.toNat = b.toNat) := ⟨Wire.num_inj a.toNat b.toNat (by omega) (by omega), fun e => by rw [e]⟩
  have HN := Lib.hid (fun W => num_calls none 0 0 [] a W rfl ha Sl.nil (by decide))
  have HM := Lib.hid (fun W => num_calls none 0 0 [] b W rfl hb Sl.nil (by decide))
  generalize hl1 : Wire.num a.toNat = l1 at hla hls hin HN
  generalize hl2 : Wire.num b.toNat = l2 at hls hin HM
  clear ha hb hl1 hl2
  go_enter Try.func9, Try.ntmps9
  go_wp2_with fail
  go_region_with (first
    | (refine (HN.out _).mono ?_
       rintro e w1 ⟨D1, n1, c1, rfl, o1, b1⟩
       have k1 := fun W (q : Q w1 W) => run_conv_str (P := Try.prog) W 23 9 5 Try.underlying23 Try.underlying5 Try.underlying9 D1 n1 c1 _ (OwnB.bytes o1) (o1.sl.q q)
       have k1a := k1 w1 (Q.refl _)
       have k1b := fun m => k1 (w1.drewN m) (Q.drewN _ m)
       replace b1 : Below w.heap.size w w1 := (below_drewN (Below.refl _ w) 1).trans b1
       clear k1)
    | (refine (HM.out _).mono ?_
       rintro e w2 ⟨D2, n2, c2, rfl, o2, b2⟩
       have k1 := fun W (q : Q w2 W) => run_conv_str (P := Try.prog) W 23 9 5 Try.underlying23 Try.underlying5 Try.underlying9 D1 n1 c1 _ (OwnB.bytes o1) ((o1.sl.below b2).q q)
       have k2 := fun W (q : Q w2 W) => run_conv_str (P := Try.prog) W 23 9 5 Try.underlying23 Try.underlying5 Try.underlying9 D2 n2 c2 _ (OwnB.bytes o2) (o2.sl.q q)
       clear k1a k1b
       have k1a := k1 w2 (Q.refl _)
       have k1b := fun m => k1 (w2.drewN m) (Q.drewN _ m)
       have k2a := k2 w2 (Q.refl _)
       have k2b := fun m => k2 (w2.drewN m) (Q.drewN _ m)
       have b3 := b1.trans (b2.mono b1.size)
       clear k1 k2 b2 o1 o2))
  all_goals clear k1a k1b k2a k2b
  all_goals have hl9 : (l1.length : Int) ≤ 9 := by omega
  all_goals
    by_cases ht : a.toNat < b.toNat
    · have e1 : Op.bytesLess l1 l2 = true := by rw [hls.out]; exact decide_eq_true ht
      have e2 : (l1 == l2) = false := beq_eq_false_iff_ne.2 (fun e => by have := hin.out.1 e; omega)
      by_cases ha : a < 0
      · by_cases hb : b < 0
        · exfalso; omega
        · have gb : decide (b < 0) = false := decide_eq_false hb
          have f1 : decide ((0 : Int) < b) = true := decide_eq_true (by omega)
          have f2 : ((0 : Int) == b) = false := beq_eq_false_iff_ne.2 (by omega)
          go_wp2_with fail
          refine (wireRuns_calls _).mono ?_
          rintro e w3 ⟨rfl, b4⟩
          go_wp2_with fail
          go_ret
          exact ⟨rfl, b3.trans (b4.mono b3.size)⟩
      · by_cases hb : b < 0
        · exfalso; omega
        · have ga : decide (a < 0) = false := decide_eq_false ha
          have gb : decide (b < 0) = false := decide_eq_false hb
          have f1 : decide (a < b) = true := decide_eq_true (by omega)
          have f2 : (a == b) = false := beq_eq_false_iff_ne.2 (by omega)
          go_wp2_with fail
          refine (wireRuns_calls _).mono ?_
          rintro e w3 ⟨rfl, b4⟩
          go_wp2_with fail
          go_ret
          exact ⟨rfl, b3.trans (b4.mono b3.size)⟩
    · by_cases hu : a.toNat = b.toNat
      · have e1 : Op.bytesLess l1 l2 = false := by rw [hls.out]; exact decide_eq_false (by omega)
        obtain rfl := hin.out.2 hu
        by_cases ha : a < 0
        · by_cases hb : b < 0
          · go_wp2_with fail
            refine (wireRuns_calls _).mono ?_
            rintro e w3 ⟨rfl, b4⟩
            go_wp2_with fail
            go_ret
            exact ⟨rfl, b3.trans (b4.mono b3.size)⟩
          · have gb : decide (b < 0) = false := decide_eq_false hb
            have f1 : decide ((0 : Int) < b) = false := decide_eq_false (by omega)
            have f2 : ((0 : Int) == b) = true := beq_iff_eq.2 (by omega)
            go_wp2_with fail
            refine (wireRuns_calls _).mono ?_
            rintro e w3 ⟨rfl, b4⟩
            go_wp2_with fail
            go_ret
            exact ⟨rfl, b3.trans (b4.mono b3.size)⟩
        · by_cases hb : b < 0
          · have ga : decide (a < 0) = false := decide_eq_false ha
            have f1 : decide (a < (0 : Int)) = false := decide_eq_false (by omega)
            have f2 : (a == (0 : Int)) = true := beq_iff_eq.2 (by omega)
            go_wp2_with fail
            refine (wireRuns_calls _).mono ?_
            rintro e w3 ⟨rfl, b4⟩
            go_wp2_with fail
            go_ret
            exact ⟨rfl, b3.trans (b4.mono b3.size)⟩
          · have ga : decide (a < 0) = false := decide_eq_false ha
            have gb : decide (b < 0) = false := decide_eq_false hb
            have f1 : decide (a < b) = false := decide_eq_false (by omega)
            have f2 : (a == b) = true := beq_iff_eq.2 (by omega)
            go_wp2_with fail
            refine (wireRuns_calls _).mono ?_
            rintro e w3 ⟨rfl, b4⟩
            go_wp2_with fail
            go_ret
            exact ⟨rfl, b3.trans (b4.mono b3.size)⟩
      · have e1 : Op.bytesLess l1 l2 = false := by rw [hls.out]; exact decide_eq_false (by omega)
        have e2 : (l1 == l2) = false := beq_eq_false_iff_ne.2 (fun e => by have := hin.out.1 e; omega)
        by_cases ha : a < 0
        · by_cases hb : b < 0
          · exfalso; omega
          · exfalso; omega
        · by_cases hb : b < 0
          · have ga : decide (a < 0) = false := decide_eq_false ha
            have f1 : decide (a < (0 : Int)) = false := decide_eq_false (by omega)
            have f2 : (a == (0 : Int)) = false := beq_eq_false_iff_ne.2 (by omega)
            go_wp2_with fail
            refine (wireRuns_calls _).mono ?_
            rintro e w3 ⟨rfl, b4⟩
            go_wp2_with fail
            go_ret
            exact ⟨rfl, b3.trans (b4.mono b3.size)⟩
          · have ga : decide (a < 0) = false := decide_eq_false ha
            have gb : decide (b < 0) = false := decide_eq_false hb
            have f1 : decide (a < b) = false := decide_eq_false (by omega)
            have f2 : (a == b) = false := beq_eq_false_iff_ne.2 (by omega)
            go_wp2_with fail
            refine (wireRuns_calls _).mono ?_
            rintro e w3 ⟨rfl, b4⟩
            go_wp2_with fail
            go_ret
            exact ⟨rfl, b3.trans (b4.mono b3.size)⟩
end Go.Proofs.Ytjmiejcgahajfaa
