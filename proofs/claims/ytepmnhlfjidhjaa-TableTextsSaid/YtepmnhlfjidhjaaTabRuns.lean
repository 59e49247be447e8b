/-
  TableRuns, its walk.
-/
import Derived.Test.YtepmnhlfjidhjaaTabSI
import Derived.Test.YtepmnhlfjidhjaaSameS
namespace Go.Tab
theorem at_of {α : Type} {lt : α → α → Bool} {ks : List α} {x : α} {i : Nat} (h : (decide (i ≤ ks.length) && ((ks.take i).all (fun k => lt k x) && (ks.drop i).all (fun k => !lt k x))) = true) : At lt ks x i := by
  rw [Bool.and_eq_true, Bool.and_eq_true, decide_eq_true_iff, List.all_eq_true, List.all_eq_true] at h
  obtain ⟨h1, h2, h3⟩ := h
  refine ⟨h1, fun t k ht hk => h2 k ?_, fun t k ht hk => ?_⟩
  · exact List.mem_iff_getElem?.2 ⟨t, by rw [List.getElem?_take, if_pos ht]; exact hk⟩
  · have := h3 k (List.mem_iff_getElem?.2 ⟨t - i, by rw [List.getElem?_drop, show i + (t - i) = t by omega]; exact hk⟩)
    simpa using this
theorem rising_of {α : Type} {lt : α → α → Bool} {ks : List α} (h : ks.Pairwise fun a b => lt a b = true) : Rising lt ks := h
end Go.Tab
namespace Go.Proofs.Ytepmnhlfjidhjaa
open Go.RowKit Go.Mem Go.Proofs

set_option maxRecDepth 100000 in
set_option maxHeartbeats 3200000 in
theorem tableRuns_calls (w : World) :
    Calls Try.prog 9 #[] w fun e w' => e = .returned (.bool true) ∧ Below w.heap.size w w' := by
  go_enter Try.func9, Try.ntmps9
  go_wp2_with fail
  refine (newSI_calls w).mono ?_
  rintro e w1 ⟨rfl, tt, bb⟩
  have H := Lib.hid tt
  have B := bb
  clear tt bb
  have HC := Lib.hid (setSI_new w.heap.size w.heap.size none none [] [] (⟨#[98]⟩ : ByteArray) 1 0 w1 H.out (Tab.rising_of (by decide +kernel)) (Tab.at_of (by decide +kernel)) (by decide) (by decide) B.size)
  unfold TEndsSI at HC
  go_wp2_with fail
  refine HC.out.mono ?_
  rintro e w2 ⟨rfl, D2, V2, tt, _, _, _, bb⟩
  replace H := Lib.hid (show TbSI w2 w.heap.size w.heap.size D2 V2 [(⟨#[98]⟩ : ByteArray)] [(1 : Int)] from tt)
  replace B := B.trans bb
  clear HC tt bb
  have HC := Lib.hid (setSI_new w.heap.size w.heap.size D2 V2 [(⟨#[98]⟩ : ByteArray)] [(1 : Int)] (⟨#[97]⟩ : ByteArray) 2 0 w2 H.out (Tab.rising_of (by decide +kernel)) (Tab.at_of (by decide +kernel)) (by decide) (by decide) B.size)
  unfold TEndsSI at HC
  go_wp2_with fail
  refine HC.out.mono ?_
  rintro e w3 ⟨rfl, D3, V3, tt, _, _, _, bb⟩
  replace H := Lib.hid (show TbSI w3 w.heap.size w.heap.size D3 V3 [(⟨#[97]⟩ : ByteArray), (⟨#[98]⟩ : ByteArray)] [(2 : Int), (1 : Int)] from tt)
  replace B := B.trans bb
  clear HC tt bb
  have HC := Lib.hid (setSI_old w.heap.size w.heap.size D3 V3 [(⟨#[97]⟩ : ByteArray), (⟨#[98]⟩ : ByteArray)] [(2 : Int), (1 : Int)] (⟨#[98]⟩ : ByteArray) 3 1 w3 H.out (Tab.rising_of (by decide +kernel)) (Tab.at_of (by decide +kernel)) (by decide) (by decide))
  unfold TEndsSI at HC
  go_wp2_with fail
  refine HC.out.mono ?_
  rintro e w4 ⟨rfl, D4, V4, tt, _, _, _, bb⟩
  replace H := Lib.hid (show TbSI w4 w.heap.size w.heap.size D4 V4 [(⟨#[97]⟩ : ByteArray), (⟨#[98]⟩ : ByteArray)] [(2 : Int), (3 : Int)] from tt)
  replace B := B.trans bb
  clear HC tt bb
  have HC := Lib.hid (keysSI_calls w.heap.size w.heap.size D4 V4 [(⟨#[97]⟩ : ByteArray), (⟨#[98]⟩ : ByteArray)] [(2 : Int), (3 : Int)] w4 H.out (by decide))
  unfold KeysEndSI at HC
  go_wp2_with fail
  refine HC.out.mono ?_
  rintro e w5 ⟨Dk, ck, rfl, ok, bb⟩
  replace H := Lib.hid (H.out.below bb)
  replace B := B.trans (bb.mono B.size)
  clear HC bb
  have ba := (Below.refl w5.heap.size w5).alloc (Nat.le_refl _) (.cells #[.string ⟨#[97]⟩, .string ⟨#[98]⟩] 9)
  have HC := Lib.hid (sameS_calls Dk (some ⟨w5.heap.size, 0, none⟩) 2 2 ck 2 [(⟨#[97]⟩ : ByteArray), (⟨#[98]⟩ : ByteArray)] [(⟨#[97]⟩ : ByteArray), (⟨#[98]⟩ : ByteArray)] (w5.alloc (.cells #[.string ⟨#[97]⟩, .string ⟨#[98]⟩] 9)) rfl rfl (by decide) (by decide) (ok.below ba).sl (Sl.new rfl rfl))
  rw [eqL_self] at HC
  clear ok
  go_wp2_with fail
  refine HC.out.mono ?_
  rintro e w6 ⟨rfl, qs, hq⟩
  have bb : Below w5.heap.size w5 w6 := by rw [hq]; exact below_drewN ba _
  replace H := Lib.hid (H.out.below bb)
  replace B := B.trans (bb.mono B.size)
  clear HC bb ba hq
  have HC := Lib.hid (getSI_calls w.heap.size w.heap.size D4 V4 [(⟨#[97]⟩ : ByteArray), (⟨#[98]⟩ : ByteArray)] [(2 : Int), (3 : Int)] (⟨#[98]⟩ : ByteArray) 1 w6 H.out (Tab.rising_of (by decide +kernel)) (Tab.at_of (by decide +kernel)) (by decide))
  rw [if_pos (by decide), show decide ([(⟨#[97]⟩ : ByteArray), (⟨#[98]⟩ : ByteArray)][1]? = some (⟨#[98]⟩ : ByteArray)) = true by decide] at HC
  go_wp2_with fail
  refine HC.out.mono ?_
  rintro e w7 ⟨rfl, q7, hq⟩
  replace H : Hid (TbSI w7 w.heap.size w.heap.size D4 V4 [(⟨#[97]⟩ : ByteArray), (⟨#[98]⟩ : ByteArray)] [(2 : Int), (3 : Int)]) := (show TbSI _ _ _ _ _ _ _ from by rw [hq]; exact H.out.drewN _)
  replace B : Below w.heap.size w w7 := by rw [hq]; exact below_drewN B _
  clear HC hq
  have HC := Lib.hid (atSI_in w.heap.size w.heap.size D4 V4 [(⟨#[97]⟩ : ByteArray), (⟨#[98]⟩ : ByteArray)] [(2 : Int), (3 : Int)] 0 (⟨#[97]⟩ : ByteArray) 2 w7 H.out rfl rfl)
  go_wp2_with fail
  refine HC.out.mono ?_
  rintro e w8 ⟨rfl, q8, hq⟩
  replace H : Hid (TbSI w8 w.heap.size w.heap.size D4 V4 [(⟨#[97]⟩ : ByteArray), (⟨#[98]⟩ : ByteArray)] [(2 : Int), (3 : Int)]) := (show TbSI _ _ _ _ _ _ _ from by rw [hq]; exact H.out.drewN _)
  replace B : Below w.heap.size w w8 := by rw [hq]; exact below_drewN B _
  clear HC hq
  have HC := Lib.hid (atSI_out w.heap.size w.heap.size D4 V4 [(⟨#[97]⟩ : ByteArray), (⟨#[98]⟩ : ByteArray)] [(2 : Int), (3 : Int)] 2 w8 H.out (by decide))
  go_wp2_with fail
  refine HC.out.mono ?_
  rintro e w9 ⟨rfl, q9, hq⟩
  replace H : Hid (TbSI w9 w.heap.size w.heap.size D4 V4 [(⟨#[97]⟩ : ByteArray), (⟨#[98]⟩ : ByteArray)] [(2 : Int), (3 : Int)]) := (show TbSI _ _ _ _ _ _ _ from by rw [hq]; exact H.out.drewN _)
  replace B : Below w.heap.size w w9 := by rw [hq]; exact below_drewN B _
  clear HC hq
  have HC := Lib.hid (leastSI_calls w.heap.size w.heap.size D4 V4 [(⟨#[97]⟩ : ByteArray), (⟨#[98]⟩ : ByteArray)] [(2 : Int), (3 : Int)] (⟨#[98]⟩ : ByteArray) 1 w9 H.out (Tab.rising_of (by decide +kernel)) (Tab.at_of (by decide +kernel)) (by decide))
  go_wp2_with fail
  refine HC.out.mono ?_
  rintro e w10 ⟨rfl, q10, hq⟩
  replace H : Hid (TbSI w10 w.heap.size w.heap.size D4 V4 [(⟨#[97]⟩ : ByteArray), (⟨#[98]⟩ : ByteArray)] [(2 : Int), (3 : Int)]) := (show TbSI _ _ _ _ _ _ _ from by rw [hq]; exact H.out.drewN _)
  replace B : Below w.heap.size w w10 := by rw [hq]; exact below_drewN B _
  clear HC hq
  have HC := Lib.hid (leastSI_calls w.heap.size w.heap.size D4 V4 [(⟨#[97]⟩ : ByteArray), (⟨#[98]⟩ : ByteArray)] [(2 : Int), (3 : Int)] (⟨#[122]⟩ : ByteArray) 2 w10 H.out (Tab.rising_of (by decide +kernel)) (Tab.at_of (by decide +kernel)) (by decide))
  go_wp2_with fail
  refine HC.out.mono ?_
  rintro e w11 ⟨rfl, q11, hq⟩
  replace H : Hid (TbSI w11 w.heap.size w.heap.size D4 V4 [(⟨#[97]⟩ : ByteArray), (⟨#[98]⟩ : ByteArray)] [(2 : Int), (3 : Int)]) := (show TbSI _ _ _ _ _ _ _ from by rw [hq]; exact H.out.drewN _)
  replace B : Below w.heap.size w w11 := by rw [hq]; exact below_drewN B _
  clear HC hq
  have HC := Lib.hid (delSI_no w.heap.size w.heap.size D4 V4 [(⟨#[97]⟩ : ByteArray), (⟨#[98]⟩ : ByteArray)] [(2 : Int), (3 : Int)] (⟨#[113]⟩ : ByteArray) 2 w11 H.out (Tab.rising_of (by decide +kernel)) (Tab.at_of (by decide +kernel)) (by decide) (by decide))
  go_wp2_with fail
  refine HC.out.mono ?_
  rintro e w12 ⟨rfl, q12, hq⟩
  replace H : Hid (TbSI w12 w.heap.size w.heap.size D4 V4 [(⟨#[97]⟩ : ByteArray), (⟨#[98]⟩ : ByteArray)] [(2 : Int), (3 : Int)]) := (show TbSI _ _ _ _ _ _ _ from by rw [hq]; exact H.out.drewN _)
  replace B : Below w.heap.size w w12 := by rw [hq]; exact below_drewN B _
  clear HC hq
  have HC := Lib.hid (delSI_yes w.heap.size w.heap.size D4 V4 [(⟨#[97]⟩ : ByteArray), (⟨#[98]⟩ : ByteArray)] [(2 : Int), (3 : Int)] (⟨#[97]⟩ : ByteArray) 0 w12 H.out (Tab.rising_of (by decide +kernel)) (Tab.at_of (by decide +kernel)) (by decide) (by decide) B.size)
  unfold TEndsSI at HC
  go_wp2_with fail
  refine HC.out.mono ?_
  rintro e w13 ⟨rfl, D13, V13, tt, _, _, _, bb⟩
  replace H := Lib.hid (show TbSI w13 w.heap.size w.heap.size D13 V13 [(⟨#[98]⟩ : ByteArray)] [(3 : Int)] from tt)
  replace B := B.trans bb
  clear HC tt bb
  have HC := Lib.hid (lenSI_calls w.heap.size w.heap.size D13 V13 [(⟨#[98]⟩ : ByteArray)] [(3 : Int)] w13 H.out)
  go_wp2_with fail
  refine HC.out.mono ?_
  rintro e wz ⟨rfl, hz⟩
  obtain rfl := hz.symm
  clear HC hz
  go_wp2_with fail
  go_ret
  exact ⟨rfl, B⟩
end Go.Proofs.Ytepmnhlfjidhjaa
