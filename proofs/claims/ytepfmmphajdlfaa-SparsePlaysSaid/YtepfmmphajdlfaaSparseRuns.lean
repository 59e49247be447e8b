/-
  SparseRuns: chapter 5's runs: the call answers true.
-/
import Derived.Test.YtepfmmphajdlfaaSetS
namespace Go.Proofs.Ytepfmmphajdlfaa
open Go.RowKit Go.Mem

theorem saddSC (B p g size c : Nat) (L : Option Addr) (xs : List (Nat × ByteArray)) (j : Nat) (ji : Int) (x : ByteArray) (w : World) (h : StS w B p g size L c xs) (hji : (j : Int) = ji) (hj : j < size) (hm : membS xs ji = false) :
    Calls Try.prog 47 #[.pointer (some ⟨p, 0, none⟩), .int .i64 ji, .string x] w (SEndsS w B p g size L (.bool true) (xs ++ [(j, x)])) := by
  subst hji; exact saddS_ok B p g size c L xs j x w h hj hm
theorem below_setS {B p g size c : Nat} {L L' : Option Addr} {xs : List (Nat × ByteArray)} {a w w' : World} (hb : Below B a w) (h : StS w B p g size L c xs) (f : SFr p g L L' w w') : Below B a w' :=
  below_sfr hb f h.low.1 h.low.2 (OwnB.low_ h.own) (Nat.le_of_lt (Nat.lt_of_le_of_lt h.low.1 h.obj.lt))
theorem below_setI {B p g size c : Nat} {L L' : Option Addr} {xs : List (Nat × Int)} {a w w' : World} (hb : Below B a w) (h : StI w B p g size L c xs) (f : SFr p g L L' w w') : Below B a w' :=
  below_sfr hb f h.low.1 h.low.2 (OwnB.low_ h.own) (Nat.le_of_lt (Nat.lt_of_le_of_lt h.low.1 h.obj.lt))

set_option maxRecDepth 100000 in
set_option maxHeartbeats 1600000 in
theorem sparseRuns_calls (w : World) : Calls Try.prog 9 #[] w fun e w' => e = .returned (.bool true) ∧ Below w.heap.size w w' := by
  go_enter Try.func9, Try.ntmps9
  go_wp2_with fail
  refine (snewS_ok 3 w (by decide)).mono ?_
  unfold NewStS
  rintro e w1 ⟨p, g, rfl, h1, B1⟩
  go_wp2_with fail
  refine (saddSC _ p g 3 0 none [] 2 2 ⟨#[97]⟩ _ h1 rfl (by decide) (by decide)).mono ?_
  unfold SEndsS
  rintro e w2 ⟨L2, c2, rfl, h2, f2⟩
  have B2 := below_setS B1 h1 f2
  clear h1 f2 B1
  go_wp2_with fail
  refine (saddSC _ p g 3 c2 L2 _ 0 0 ⟨#[98]⟩ _ h2 rfl (by decide) (by decide)).mono ?_
  unfold SEndsS
  rintro e w3 ⟨L3, c3, rfl, h3, f3⟩
  have B3 := below_setS B2 h2 f3
  clear h2 f3 B2
  go_wp2_with fail
  refine (saddS_no _ p g 3 c3 L3 _ 2 ⟨#[99]⟩ _ h3 (by decide)).mono ?_
  unfold SEndsS
  rintro e w4 ⟨L4, c4, rfl, h4, f4⟩
  have B4 := below_setS B3 h3 f4
  clear h3 f4 B3
  go_wp2_with fail
  refine (saddS_no _ p g 3 c4 L4 _ 3 ⟨#[100]⟩ _ h4 (by decide)).mono ?_
  unfold SEndsS
  rintro e w5 ⟨L5, c5, rfl, h5, f5⟩
  have B5 := below_setS B4 h4 f5
  clear h4 f5 B4
  go_wp2_with fail
  refine (satS_calls _ p g 3 c5 L5 _ 0 _ h5).mono ?_
  unfold SQuietS
  rintro e w6 ⟨rfl, q6, rfl⟩
  have h6 := h5.drewN q6
  have B6 := below_drewN B5 q6
  clear h5 B5
  generalize w5.drewN q6 = w6 at h6 B6 ⊢
  simp only [rowVS, rowS]
  go_wp2_with fail
  refine (satS_calls _ p g 3 c5 L5 _ 1 _ h6).mono ?_
  unfold SQuietS
  rintro e w7 ⟨rfl, q7, rfl⟩
  have h7 := h6.drewN q7
  have B7 := below_drewN B6 q7
  clear h6 B6
  generalize w6.drewN q7 = w7 at h7 B7 ⊢
  simp only [rowVS, rowS]
  go_wp2_with fail
  refine (sclearS_calls _ p g 3 c5 L5 _ _ h7).mono ?_
  unfold SEndsS
  rintro e w8 ⟨L8, c8, rfl, h8, f8⟩
  have B8 := below_setS B7 h7 f8
  clear h7 f8 B7
  go_wp2_with fail
  refine (hasS_calls _ p g 3 c8 L8 [] 2 _ h8).mono ?_
  rintro e w9 ⟨rfl, rfl⟩
  rw [show membS [] 2 = false from rfl]
  go_wp2_with fail
  refine (slenS_calls _ p g 3 c8 L8 [] _ h8).mono ?_
  rintro e w9 ⟨rfl, rfl⟩
  go_wp2_with fail
  refine (saddSC _ p g 3 c8 L8 [] 2 2 ⟨#[101]⟩ _ h8 rfl (by decide) (by decide)).mono ?_
  unfold SEndsS
  rintro e w10 ⟨L10, c10, rfl, h10, f10⟩
  have B10 := below_setS B8 h8 f10
  clear h8 f10 B8
  go_wp2_with fail
  refine (sgetS_calls _ p g 3 c10 L10 _ 2 _ h10).mono ?_
  unfold SQuietS
  rintro e w11 ⟨rfl, q11, rfl⟩
  have h11 := h10.drewN q11
  have B11 := below_drewN B10 q11
  clear h10 B10
  rw [show membS ([] ++ [(2, ⟨#[101]⟩)]) 2 = true by decide, show getS ([] ++ [(2, ⟨#[101]⟩)]) 2 = ⟨#[101]⟩ from rfl]
  generalize w10.drewN q11 = w11 at h11 B11 ⊢
  go_wp2_with fail
  refine (snewI_bad (-1) _ (by decide)).mono ?_
  rintro e w12 ⟨rfl, rfl⟩
  go_wp2_with fail
  refine (ssizeS_calls _ p g 3 c10 L10 _ _ h11).mono ?_
  rintro e w12 ⟨rfl, rfl⟩
  go_wp2_with fail
  go_ret
  exact ⟨rfl, B11⟩
end Go.Proofs.Ytepfmmphajdlfaa
