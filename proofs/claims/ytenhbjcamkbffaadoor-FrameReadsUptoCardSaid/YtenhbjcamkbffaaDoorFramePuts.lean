/-
  FramePuts, its walk.
-/
import Derived.Test.YtenhbjcamkbffaaDoorFrameRuns
import Derived.Test.YtenhbjcamkbffaaDoorRoomyB
import Derived.Test.YtenhbjcamkbffaaDoorIntactB
namespace Go.Proofs.YtenhbjcamkbffaaDoor
open Go.RowKit Go.Mem

theorem stepB {a b c : World} (h : Below a.heap.size a b) (k : Below b.heap.size b c) : Below a.heap.size a c := h.trans (k.mono h.size)
theorem roomy_sl {w : World} {g : Nat} {bs : List UInt8} {m : UInt8} (K : Blk w g 5 (rowB bs m 80)) : Sl w (some ⟨g, 0, none⟩) (bs.map B8) := by
  have h := K.sl.take bs.length
  unfold rowB at h
  rw [List.take_append_of_le_length (by simp), List.take_of_length_le (by simp)] at h
  exact h
def TrueEnds (w : World) (e : Ending) (w' : World) : Prop := e = .returned (.bool true) ∧ Below w.heap.size w w'

set_option maxRecDepth 100000 in
set_option maxHeartbeats 3200000 in
theorem framePuts_calls (A E : Option Addr) (n m c d : Nat) (bs ps : List UInt8) (w : World) (hT : Tabs w) (hl : bs.length = n) (hn : n ≤ 1048576) (hs : Sl w A (bs.map B8)) (hl2 : ps.length = m) (hm : m ≤ 1048576) (hp : Sl w E (ps.map B8)) :
    Calls Tryd.prog 8 #[.slice A n c, .slice E m d] w fun e w' => e = .returned (.bool true) ∧ Below w.heap.size w w' := by
  subst hl hl2
  have HT := Lib.hid hT
  have HS := Lib.hid hs
  have HP := Lib.hid hp
  clear hT hs hp
  go_enter Tryd.func8, Tryd.ntmps8
  go_wp2_with fail
  refine (roomyB_calls A bs.length c bs 5 w rfl (by omega) HS.out).mono ?_
  rintro e w1 ⟨rfl, b1, K1⟩
  have HK1 := Lib.hid K1
  clear K1
  go_wp2_with fail
  refine (roomyB_calls E ps.length d ps 6 w1 rfl (by omega) (HP.out.below b1)).mono ?_
  rintro e w2 ⟨rfl, b2, K2⟩
  have HK2 := Lib.hid K2
  have HK12 := Lib.hid (HK1.out.below b2 HK1.out.lt)
  have B2 := stepB b1 b2
  have HT2 := Lib.hid (HT.out.below B2)
  have HS2 := Lib.hid (HS.out.below B2)
  have HP2 := Lib.hid (HP.out.below B2)
  clear b1 b2 K2 HK1 HT HS HP
  generalize w1.heap.size = g1 at *
  have j1 : (bs.length : Int) ≤ (bs.length : Int) + 80 := by omega
  have j2 : (ps.length : Int) ≤ (ps.length : Int) + 80 := by omega
  have j3 : (0 : Int) ≤ (bs.length : Int) := by omega
  have j4 : (0 : Int) ≤ (ps.length : Int) := by omega
  have HPut : Hid (∀ W : World, Below w2.heap.size w2 W → Calls Tryd.prog 19 #[.slice (some ⟨w.heap.size, 0, none⟩) bs.length (bs.length + 80), .slice (some ⟨g1, 0, none⟩) ps.length (ps.length + 80)] W (AppEnds W W.heap.size (bs ++ Frm.frm ps).length (bs ++ Frm.frm ps))) :=
    (show ∀ W : World, _ from fun W hW => put_calls _ _ bs.length ps.length _ _ bs ps W (HT2.out.below hW) rfl (by omega) ((roomy_sl HK12.out).below hW) rfl (by omega) ((roomy_sl HK2.out).below hW))
  have HRef : Hid (∀ W : World, Below w2.heap.size w2 W → Calls Tryd.prog 23 #[.slice A bs.length c, .slice E ps.length d] W (AppEnds W W.heap.size (bs ++ Frm.frm ps).length (bs ++ Frm.frm ps))) :=
    (show ∀ W : World, _ from fun W hW => refFrame_calls A E bs.length ps.length c d bs ps W rfl (by omega) (HS2.out.below hW) rfl (by omega) (HP2.out.below hW))
  have HI1 : Hid (∀ W : World, Below w2.heap.size w2 W → Calls Tryd.prog 17 #[.slice (some ⟨w.heap.size, 0, none⟩) (bs.length + 80) (bs.length + 80), .slice A bs.length c, .int .u8 5] W (TrueEnds W)) :=
    (show ∀ W : World, _ from fun W hW => (intactB_calls _ A bs.length (bs.length + 80) (bs.length + 80) c bs 5 W rfl rfl (by omega) (HK12.out.below hW HK12.out.lt).sl (HS2.out.below hW) (Nat.le_refl _)).mono (fun e w' h => ⟨h.1, by obtain ⟨_, q, rfl⟩ := h; exact below_drewN (Below.refl _ _) q⟩))
  have HI2 : Hid (∀ W : World, Below w2.heap.size w2 W → Calls Tryd.prog 17 #[.slice (some ⟨g1, 0, none⟩) (ps.length + 80) (ps.length + 80), .slice E ps.length d, .int .u8 6] W (TrueEnds W)) :=
    (show ∀ W : World, _ from fun W hW => (intactB_calls _ E ps.length (ps.length + 80) (ps.length + 80) d ps 6 W rfl rfl (by omega) (HK2.out.below hW HK2.out.lt).sl (HP2.out.below hW) (Nat.le_refl _)).mono (fun e w' h => ⟨h.1, by obtain ⟨_, q, rfl⟩ := h; exact below_drewN (Below.refl _ _) q⟩))
  have HRu : Hid (∀ W : World, Below w2.heap.size w2 W → Calls Tryd.prog 7 #[] W (TrueEnds W)) := (show ∀ W : World, _ from fun W hW => frameRuns_calls W (HT2.out.below hW))
  have HLEN : Hid (∀ l, l = bs ++ Frm.frm ps → l.length ≤ 9223372036854775807) := (show ∀ l, _ from fun l h => by
    rw [h, List.length_append]
    by_cases hb : ps.length = 0 ∨ 262144 < ps.length
    · rw [Frm.frm_no hb]; simp; omega
    · rw [Frm.frm_length hb]; omega)
  have hlen := HLEN.out _ rfl
  generalize bs ++ Frm.frm ps = fr at *
  have HSame : Hid (∀ (W : World) (D1 D2 : Option Addr) (c1 c2 : Nat), Sl W D1 (fr.map B8) → Sl W D2 (fr.map B8) → Calls Tryd.prog 22 #[.slice D1 fr.length c1, .slice D2 fr.length c2] W (TrueEnds W)) :=
    (show ∀ _ _ _ _ _, _ from fun W D1 D2 c1 c2 h1 h2 => (sameB_calls D1 D2 fr.length fr.length c1 c2 fr fr W rfl rfl hlen hlen h1 h2).mono (fun e w' h => ⟨by rw [h.1, eqL_self], by obtain ⟨_, q, rfl⟩ := h; exact below_drewN (Below.refl _ _) q⟩))
  have hB0 := Below.refl w2.heap.size w2
  clear HK2 HK12 HT2 HS2 HP2 HLEN
  go_wp2_with fail
  go_region_held3 (fun w' => Below w2.heap.size w2 w') (first | (exact hBz) | (exact hBz.drew) | (exact hB0.drew)) (first | (go_at_call 19; (with_reducible refine (HPut.out _ (by first | exact hBz | exact hBz.drew | exact hB0.drew | exact hB0)).mono ?_); unfold AppEnds; rintro e w5 ⟨D1, c1, rfl, o1, hb5⟩; have hBz := stepB (by first | exact hBz | exact hBz.drew | exact hB0.drew | exact hB0) hb5) | (go_at_call 23; (with_reducible refine (HRef.out _ (by first | exact hBz | exact hBz.drew | exact hB0.drew | exact hB0)).mono ?_); unfold AppEnds; rintro e w6 ⟨D2, c2, rfl, o2, hb6⟩; have hBz := stepB (by first | exact hBz | exact hBz.drew | exact hB0.drew | exact hB0) hb6; have o16 := OwnB.below (w := w5) o1 ⟨hb6.os, hb6.tape, hb6.output, hb6.size, hb6.block⟩) | (go_at_call 22; (with_reducible refine (HSame.out _ D1 D2 c1 c2 (by exact o16.sl) (by exact o2.sl)).mono ?_); unfold TrueEnds; rintro e w7 ⟨rfl, hb7⟩; have hBz := stepB (by first | exact hBz | exact hBz.drew | exact hB0.drew | exact hB0) hb7) | (go_at_call 17; (with_reducible refine (HI1.out _ (by first | exact hBz | exact hBz.drew | exact hB0.drew | exact hB0)).mono ?_); unfold TrueEnds; rintro e w8 ⟨rfl, hb8⟩; have hBz := stepB (by first | exact hBz | exact hBz.drew | exact hB0.drew | exact hB0) hb8) | (go_at_call 17; (with_reducible refine (HI2.out _ (by first | exact hBz | exact hBz.drew | exact hB0.drew | exact hB0)).mono ?_); unfold TrueEnds; rintro e w9 ⟨rfl, hb9⟩; have hBz := stepB (by first | exact hBz | exact hBz.drew | exact hB0.drew | exact hB0) hb9) | (go_at_call 7; (with_reducible refine (HRu.out _ (by first | exact hBz | exact hBz.drew | exact hB0.drew | exact hB0)).mono ?_); unfold TrueEnds; rintro e w10 ⟨rfl, hb10⟩; have hBz := stepB (by first | exact hBz | exact hBz.drew | exact hB0.drew | exact hB0) hb10))
  go_wp2_with fail
  go_ret
  exact ⟨rfl, B2.trans (hBz.mono B2.size)⟩
end Go.Proofs.YtenhbjcamkbffaaDoor
