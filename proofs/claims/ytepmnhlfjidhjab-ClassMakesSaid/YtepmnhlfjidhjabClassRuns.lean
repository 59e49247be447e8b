/-
  ClassRuns, its walk.
-/
import Derived.Test.YtepmnhlfjidhjabClassOk
import Derived.Test.YtepmnhlfjidhjabClassRight
import Derived.Test.YtepmnhlfjidhjabClassSame
namespace Go.Proofs.Ytepmnhlfjidhjab
open Go.RowKit Go.Mem

theorem in32_of {l : List (Int × Int)} (h : l.all (fun g => decide ((-2147483648 ≤ g.1 ∧ g.1 ≤ 2147483647) ∧ -2147483648 ≤ g.2 ∧ g.2 ≤ 2147483647)) = true) : In32 l := fun g hg => by
  have := List.all_eq_true.1 h g hg
  rw [decide_eq_true_iff] at this
  exact this
theorem cr1 : Cls.mkR [(99, 102), (97, 98), (120, 119), (101, 107)] = [(97, 107)] := by decide +kernel
theorem cr2 : Cls.mkR [(-5, 2), (53248, 57345), (1114111, 2097152)] = [(0, 2), (53248, 55295), (57344, 57345), (1114111, 1114111)] := by decide +kernel
theorem cr3 : Cls.mkR [] = [] := by decide +kernel
theorem cr4 : Cls.nt [] = [(0, 55295), (57344, 1114111)] := by decide +kernel
theorem cr5 : Cls.bt [(97, 107)] [(103, 122)] = [(103, 107)] := by decide +kernel

theorem stepB {a b c : World} (h : Below a.heap.size a b) (k : Below b.heap.size b c) : Below a.heap.size a c := h.trans (k.mono h.size)

set_option maxRecDepth 100000 in
set_option maxHeartbeats 3200000 in
theorem classRuns_calls (w : World) :
    Calls Try.prog 6 #[] w fun e w' => e = .returned (.bool true) ∧ Below w.heap.size w w' := by
  have hb0 := (Below.refl w.heap.size w).alloc (Nat.le_refl _) (.cells #[.int .i32 99, .int .i32 102, .int .i32 97, .int .i32 98, .int .i32 120, .int .i32 119, .int .i32 101, .int .i32 107] 61)
  have HM := Lib.hid (make_ok [(99, 102), (97, 98), (120, 119), (101, 107)] (some ⟨w.heap.size, 0, none⟩) 4 4 (w.alloc (.cells #[.int .i32 99, .int .i32 102, .int .i32 97, .int .i32 98, .int .i32 120, .int .i32 119, .int .i32 101, .int .i32 107] 61)) rfl (by decide) (in32_of (by decide)) (Sl.new rfl rfl))
  rw [cr1] at HM
  unfold RangesEnd at HM
  go_enter Try.func6, Try.ntmps6
  go_wp2_with fail
  refine HM.out.mono ?_
  rintro e w1 ⟨D1, c1, rfl, o1, b1⟩
  have B1 := stepB hb0 b1
  have HO1 := Lib.hid (o1.mono (Nat.zero_le _))
  clear HM hb0 b1 o1
  have hb2 := (Below.refl w1.heap.size w1).alloc (Nat.le_refl _) (.cells #[.int .i32 (-5), .int .i32 2, .int .i32 53248, .int .i32 57345, .int .i32 1114111, .int .i32 2097152] 61)
  have HM := Lib.hid (make_ok [(-5, 2), (53248, 57345), (1114111, 2097152)] (some ⟨w1.heap.size, 0, none⟩) 3 3 (w1.alloc (.cells #[.int .i32 (-5), .int .i32 2, .int .i32 53248, .int .i32 57345, .int .i32 1114111, .int .i32 2097152] 61)) rfl (by decide) (in32_of (by decide)) (Sl.new rfl rfl))
  rw [cr2] at HM
  unfold RangesEnd at HM
  go_wp2_with fail
  refine HM.out.mono ?_
  rintro e w2 ⟨D2, c2, rfl, o2, b2⟩
  have hb3 := stepB hb2 b2
  have B2 := stepB B1 hb3
  have HO2 := Lib.hid (o2.mono (Nat.zero_le _))
  have HO12 := Lib.hid (HO1.out.below hb3)
  clear HM hb2 b2 o2 HO1 B1 hb3
  have hb4 := (Below.refl w2.heap.size w2).alloc (Nat.le_refl _) (.cells #[.int .i32 97, .int .i32 107] 61)
  have HS1 := Lib.hid (sameR_true D1 (some ⟨w2.heap.size, 0, none⟩) 1 1 c1 1 [(97, 107)] (w2.alloc (.cells #[.int .i32 97, .int .i32 107] 61)) rfl rfl (by decide) (HO12.out.below hb4).sl (Sl.new rfl rfl))
  go_wp2_with fail
  refine HS1.out.mono ?_
  rintro e w3 ⟨rfl, q3, hq3⟩
  have b3 : Below w2.heap.size w2 w3 := by rw [hq3]; exact below_drewN hb4 _
  have HM := Lib.hid (make_ok [] none 0 0 w3 rfl (by decide) (in32_of (by decide)) Sl.nil)
  rw [cr3] at HM
  unfold RangesEnd at HM
  clear hq3 hb4 HS1
  go_wp2_with fail
  refine HM.out.mono ?_
  rintro e w4 ⟨D4, c4, rfl, _, b4⟩
  have b5 := stepB b3 b4
  have HM := Lib.hid (not_ok [] none 0 0 w4 rfl (by decide) (in32_of (by decide)) Sl.nil)
  rw [cr4] at HM
  unfold RangesEnd at HM
  clear b3 b4
  go_wp2_with fail
  refine HM.out.mono ?_
  rintro e w5 ⟨D5, c5, rfl, o5, b6⟩
  have b7 := stepB b5 b6
  have hb8 := (Below.refl w5.heap.size w5).alloc (Nat.le_refl _) (.cells #[.int .i32 0, .int .i32 55295, .int .i32 57344, .int .i32 1114111] 61)
  have HS1 := Lib.hid (sameR_true D5 (some ⟨w5.heap.size, 0, none⟩) 2 2 c5 2 [(0, 55295), (57344, 1114111)] (w5.alloc (.cells #[.int .i32 0, .int .i32 55295, .int .i32 57344, .int .i32 1114111] 61)) rfl rfl (by decide) (o5.below hb8).sl (Sl.new rfl rfl))
  clear HM b5 b6 o5
  go_wp2_with fail
  refine HS1.out.mono ?_
  rintro e w6 ⟨rfl, q6, hq6⟩
  have b9 : Below w5.heap.size w5 w6 := by rw [hq6]; exact below_drewN hb8 _
  have b10 := stepB b7 b9
  have HO16 := Lib.hid (HO12.out.below b10)
  have HO26 := Lib.hid (HO2.out.below b10)
  have B6 := stepB B2 b10
  clear hq6 hb8 HS1 b7 b9 HO12 HO2 b10 B2
  have hb11 := (Below.refl w6.heap.size w6).alloc (Nat.le_refl _) (.cells #[.int .i32 0, .int .i32 2, .int .i32 53248, .int .i32 55295, .int .i32 57344, .int .i32 57345, .int .i32 1114111, .int .i32 1114111] 61)
  have HS1 := Lib.hid (sameR_true D2 (some ⟨w6.heap.size, 0, none⟩) 4 4 c2 4 [(0, 2), (53248, 55295), (57344, 57345), (1114111, 1114111)] (w6.alloc (.cells #[.int .i32 0, .int .i32 2, .int .i32 53248, .int .i32 55295, .int .i32 57344, .int .i32 57345, .int .i32 1114111, .int .i32 1114111] 61)) rfl rfl (by decide) (HO26.out.below hb11).sl (Sl.new rfl rfl))
  go_wp2_with fail
  refine HS1.out.mono ?_
  rintro e w7 ⟨rfl, q7, hq7⟩
  have b12 : Below w6.heap.size w6 w7 := by rw [hq7]; exact below_drewN hb11 _
  have HO17 := Lib.hid (HO16.out.below b12)
  have B7 := stepB B6 b12
  clear hq7 hb11 HS1 b12 HO16 HO26 B6
  have hb13 := (Below.refl w7.heap.size w7).alloc (Nat.le_refl _) (.cells #[.int .i32 103, .int .i32 122] 61)
  have HM := Lib.hid (both_ok [(97, 107)] [(103, 122)] D1 (some ⟨w7.heap.size, 0, none⟩) 1 1 c1 1 (w7.alloc (.cells #[.int .i32 103, .int .i32 122] 61)) rfl (by decide) (in32_of (by decide)) (HO17.out.below hb13).sl rfl (by decide) (in32_of (by decide)) (Sl.new rfl rfl))
  rw [cr5] at HM
  unfold RangesEnd at HM
  go_wp2_with fail
  refine HM.out.mono ?_
  rintro e w8 ⟨D8, c8, rfl, o8, b14⟩
  have b15 := stepB hb13 b14
  have hb16 := (Below.refl w8.heap.size w8).alloc (Nat.le_refl _) (.cells #[.int .i32 103, .int .i32 107] 61)
  have HS1 := Lib.hid (sameR_true D8 (some ⟨w8.heap.size, 0, none⟩) 1 1 c8 1 [(103, 107)] (w8.alloc (.cells #[.int .i32 103, .int .i32 107] 61)) rfl rfl (by decide) (o8.below hb16).sl (Sl.new rfl rfl))
  clear HM hb13 b14 o8
  go_wp2_with fail
  refine HS1.out.mono ?_
  rintro e w9 ⟨rfl, q9, hq9⟩
  have b17 : Below w8.heap.size w8 w9 := by rw [hq9]; exact below_drewN hb16 _
  have b18 := stepB b15 b17
  have HO19 := Lib.hid (HO17.out.below b18)
  have B9 := stepB B7 b18
  clear hq9 hb16 HS1 b15 b17 HO17 b18 B7
  have HH := Lib.hid (has_calls D1 1 c1 [(97, 107)] 98 w9 rfl (by decide) HO19.out.sl)
  rw [show hasR [(97, 107)] 98 = true by decide] at HH
  go_wp2_with fail
  refine HH.out.mono ?_
  rintro e w10 ⟨rfl, b19⟩
  have HH2 := Lib.hid (has_calls D1 1 c1 [(97, 107)] 108 w10 rfl (by decide) (HO19.out.below b19).sl)
  rw [show hasR [(97, 107)] 108 = false by decide] at HH2
  clear HH
  go_wp2_with fail
  refine HH2.out.mono ?_
  rintro e w11 ⟨rfl, b20⟩
  have b21 := stepB b19 b20
  have HH := Lib.hid (right_calls D1 1 c1 [(97, 107)] w11 rfl (by decide) (in32_of (by decide)) (HO19.out.below b21).sl)
  rw [show Cls.rightZ 0 [(97, 107)] = true by decide] at HH
  clear HH2
  go_wp2_with fail
  refine HH.out.mono ?_
  rintro e w12 ⟨rfl, b22⟩
  have B12 := stepB B9 (stepB b21 b22)
  clear HH b21 b22 HO19 B9 b19 b20
  go_wp2_with fail
  go_ret
  exact ⟨rfl, B12⟩
end Go.Proofs.Ytepmnhlfjidhjab
