/-
  IdentTells, its walk.
-/
import Derived.Test.YtenhbjcamkbffaaDoorIdentRuns
import Derived.Test.YtenhbjcamkbffaaDoorRoomyB
import Derived.Test.YtenhbjcamkbffaaDoorIntactB
namespace Go.Proofs.YtenhbjcamkbffaaDoor
open Go.RowKit Go.Mem

theorem stepB {a b c : World} (h : Below a.heap.size a b) (k : Below b.heap.size b c) : Below a.heap.size a c := h.trans (k.mono h.size)

set_option maxRecDepth 100000 in
set_option maxHeartbeats 3200000 in
theorem identTells_calls (n : Int) (c : BitVec 32) (at_ size : Int) (A : Option Addr) (l1 c1 : Nat) (xs : List UInt8) (B : Option Addr) (l2 c2 : Nat) (bs : List UInt8) (w : World) (hT : Tabs w)
    (hl1 : xs.length = l1) (hn1 : l1 ≤ 140737488355328) (hc1 : l1 ≤ c1) (hs1 : Sl w A (xs.map B8)) (hl2 : bs.length = l2) (hn2 : l2 ≤ 140737488355328) (hc2 : l2 ≤ c2) (hs2 : Sl w B (bs.map B8)) :
    Calls Tryd.prog 4 #[.agg #[.int .i64 n, .int .u32 (c.toNat : Int)], .int .i64 at_, .int .i64 size, .slice A l1 c1, .slice B l2 c2] w fun e w' => e = .returned (.bool true) ∧ Below w.heap.size w w' := by
  subst hl1 hl2
  go_enter Tryd.func4, Tryd.ntmps4
  have hx := Blk.new w 24 #[.int .i64 n, .int .u32 (c.toNat : Int)]
  have hb0 := (Below.refl w.heap.size w).alloc (Nat.le_refl _) (.cells #[.int .i64 n, .int .u32 (c.toNat : Int)] 24)
  have hz0 : (w.alloc (.cells #[.int .i64 n, .int .u32 (c.toNat : Int)] 24)).heap.size = w.heap.size + 1 := by simp
  go_wp2_with fail
  generalize w.alloc (.cells #[.int .i64 n, .int .u32 (c.toNat : Int)] 24) = w0 at *
  have HZ0 := Lib.hid hz0
  have HX0 := Lib.hid hx
  clear hz0 hx
  refine (roomyB_calls B bs.length c2 bs 21 w0 rfl hn2 (hs2.below hb0)).mono ?_
  rintro e w1 ⟨rfl, b1, K1⟩
  have B1 := hb0.trans (b1.mono (by rw [HZ0.out]; omega))
  have HX1 := Lib.hid (HX0.out.below b1 (by rw [HZ0.out]; omega))
  have HK1 := Lib.hid K1
  have hg1 : Sl w1 (some ⟨w0.heap.size, 0, none⟩) (bs.map B8) := by
    have h := K1.sl.take bs.length
    unfold rowB at h
    rw [List.take_append_of_le_length (by simp), List.take_of_length_le (by simp)] at h
    exact h
  have HG1 := Lib.hid hg1
  clear hb0 b1 K1 hg1
  go_wp2_with fail
  refine (refHead_calls A xs.length c1 xs w1 rfl (by omega) hc1 (hs1.below B1)).mono ?_
  unfold HeadEnds
  rintro e w2 ⟨rfl, b2⟩
  have B2 := B1.trans (b2.mono B1.size)
  have HX2 := Lib.hid (HX1.out.below b2 (HX1.out.lt))
  have HK2 := Lib.hid (HK1.out.below b2 HK1.out.lt)
  have HG2 := Lib.hid (HG1.out.below b2)
  clear HX1 HK1 HG1 B1 b2
  rw [show headV xs = .agg #[.int .i64 ((xs.take 16).length : Int), .int .u32 ((Crc.crc 0#32 (xs.take 16)).toNat : Int)] from rfl]
  have HVV : Hid (headV xs = .agg #[.int .i64 ((xs.take 16).length : Int), .int .u32 ((Crc.crc 0#32 (xs.take 16)).toNat : Int)]) := (show _ = _ from rfl)
  generalize hm : (xs.take 16).length = m at HVV
  generalize hcc : Crc.crc 0#32 (xs.take 16) = cc at HVV
  clear hm hcc
  go_wp2_with fail
  have HE3 := Lib.hid (Blk.new w2 24 #[.int .i64 (m : Int), .int .u32 (cc.toNat : Int)])
  have hb3 := (Below.refl w2.heap.size w2).alloc (Nat.le_refl _) (.cells #[.int .i64 (m : Int), .int .u32 (cc.toNat : Int)] 24)
  have HX3 := Lib.hid (HX2.out.below hb3 (HX2.out.lt))
  have HK3 := Lib.hid (HK2.out.below hb3 HK2.out.lt)
  have HG3 := Lib.hid (HG2.out.below hb3)
  have B3 := B2.trans (hb3.mono B2.size)
  clear HX2 HK2 HG2 B2 hb3
  generalize w2.alloc (.cells #[.int .i64 (m : Int), .int .u32 (cc.toNat : Int)] 24) = w3 at *
  have HT3 := Lib.hid (hT.below B3)
  have HA3 := Lib.hid (hs1.below B3)
  have HB3 := Lib.hid (hs2.below B3)
  have x0 := HX3.out.cell 0
  have x1 := HX3.out.cell 1
  have e0 := HE3.out.cell 0
  have e1 := HE3.out.cell 1
  simp only [List.getElem?_cons_zero, List.getElem?_cons_succ] at x0 x1 e0 e1
  have HH : Hid (∀ W : World, Below w3.heap.size w3 W → Calls Tryd.prog 12 #[.slice A xs.length c1] W (fun e w' => e = .returned (.agg #[.int .i64 (m : Int), .int .u32 (cc.toNat : Int)]) ∧ Below W.heap.size W w')) :=
    (show ∀ W : World, _ from fun W hW => (head_calls A xs.length c1 xs W rfl (by omega) hc1 (HT3.out.below hW) (HA3.out.below hW)).mono (fun e w' h => ⟨by rw [h.1, HVV.out], h.2⟩))
  have HS1 : Hid (∀ W : World, Below w3.heap.size w3 W → Calls Tryd.prog 13 #[.agg #[.int .i64 n, .int .u32 (c.toNat : Int)], .int .i64 at_, .int .i64 size, .slice (some ⟨w0.heap.size, 0, none⟩) bs.length (bs.length + 80)] W (HeldEnds W (sameH n c at_ size bs))) :=
    (show ∀ W : World, _ from fun W hW => same_calls n c at_ size _ bs.length (bs.length + 80) bs W rfl (by omega) (by omega) (HT3.out.below hW) (HG3.out.below hW))
  have HS2 : Hid (∀ W : World, Below w3.heap.size w3 W → Calls Tryd.prog 16 #[.agg #[.int .i64 n, .int .u32 (c.toNat : Int)], .int .i64 at_, .int .i64 size, .slice B bs.length c2] W (HeldEnds W (sameH n c at_ size bs))) :=
    (show ∀ W : World, _ from fun W hW => refSame_calls n c at_ size B bs.length c2 bs W rfl (by omega) (by omega) (HB3.out.below hW))
  have HS3 : Hid (∀ W : World, Below w3.heap.size w3 W → Calls Tryd.prog 13 #[.agg #[.int .i64 (m : Int), .int .u32 (cc.toNat : Int)], .int .i64 at_, .int .i64 size, .slice (some ⟨w0.heap.size, 0, none⟩) bs.length (bs.length + 80)] W (HeldEnds W (sameH m cc at_ size bs))) :=
    (show ∀ W : World, _ from fun W hW => same_calls m cc at_ size _ bs.length (bs.length + 80) bs W rfl (by omega) (by omega) (HT3.out.below hW) (HG3.out.below hW))
  have HS4 : Hid (∀ W : World, Below w3.heap.size w3 W → Calls Tryd.prog 16 #[.agg #[.int .i64 (m : Int), .int .u32 (cc.toNat : Int)], .int .i64 at_, .int .i64 size, .slice B bs.length c2] W (HeldEnds W (sameH m cc at_ size bs))) :=
    (show ∀ W : World, _ from fun W hW => refSame_calls m cc at_ size B bs.length c2 bs W rfl (by omega) (by omega) (HB3.out.below hW))
  have HIn : Hid (∀ W : World, Below w3.heap.size w3 W → Calls Tryd.prog 17 #[.slice (some ⟨w0.heap.size, 0, none⟩) (bs.length + 80) (bs.length + 80), .slice B bs.length c2, .int .u8 21] W (HeldEnds W true)) :=
    (show ∀ W : World, _ from fun W hW => (intactB_calls _ B bs.length (bs.length + 80) (bs.length + 80) c2 bs 21 W rfl rfl (by omega) (HK3.out.below hW HK3.out.lt).sl (HB3.out.below hW) (Nat.le_refl _)).mono (fun e w' h => ⟨h.1, by obtain ⟨_, q, rfl⟩ := h; exact below_drewN (Below.refl _ _) q⟩))
  have HRu : Hid (∀ W : World, Below w3.heap.size w3 W → Calls Tryd.prog 3 #[] W (HeldEnds W true)) := (show ∀ W : World, _ from fun W hW => identRuns_calls W (HT3.out.below hW))
  generalize sameH n c at_ size bs = v1 at HS1 HS2
  generalize sameH m cc at_ size bs = v2 at HS3 HS4
  have hB0 := Below.refl w3.heap.size w3
  clear HX3 HK3 HG3 HE3 HT3 HA3 HB3 hs1 hs2 hT HVV
  go_region_held3 (fun w' => Below w3.heap.size w3 w' ∧ w'.cell? ⟨w.heap.size, 0, none⟩ = some (.int .i64 n) ∧ w'.cell? ⟨w.heap.size, 1, none⟩ = some (.int .u32 (c.toNat : Int)) ∧ w'.cell? ⟨w2.heap.size, 0, none⟩ = some (.int .i64 (m : Int)) ∧ w'.cell? ⟨w2.heap.size, 1, none⟩ = some (.int .u32 (cc.toNat : Int))) (first | (exact ⟨hBz, keep_below hBz x0, keep_below hBz x1, keep_below hBz e0, keep_below hBz e1⟩) | (exact ⟨hBz.drew, keep_below hBz.drew x0, keep_below hBz.drew x1, keep_below hBz.drew e0, keep_below hBz.drew e1⟩) | (exact ⟨hB0.drew, x0, x1, e0, e1⟩)) (first | (go_at_call 12; (with_reducible refine (HH.out _ (by first | exact hBz | exact hBz.drew | exact hB0.drew | exact hB0)).mono ?_); rintro e wz ⟨rfl, hbz⟩; have hBz := stepB (by first | exact hBz | exact hBz.drew | exact hB0.drew | exact hB0) hbz) | (go_at_call 13; (with_reducible refine (HS1.out _ (by first | exact hBz | exact hBz.drew | exact hB0.drew | exact hB0)).mono ?_); rintro e wz ⟨rfl, hbz⟩; have hBz := stepB (by first | exact hBz | exact hBz.drew | exact hB0.drew | exact hB0) hbz) | (go_at_call 16; (with_reducible refine (HS2.out _ (by first | exact hBz | exact hBz.drew | exact hB0.drew | exact hB0)).mono ?_); rintro e wz ⟨rfl, hbz⟩; have hBz := stepB (by first | exact hBz | exact hBz.drew | exact hB0.drew | exact hB0) hbz) | (go_at_call 13; (with_reducible refine (HS3.out _ (by first | exact hBz | exact hBz.drew | exact hB0.drew | exact hB0)).mono ?_); rintro e wz ⟨rfl, hbz⟩; have hBz := stepB (by first | exact hBz | exact hBz.drew | exact hB0.drew | exact hB0) hbz) | (go_at_call 16; (with_reducible refine (HS4.out _ (by first | exact hBz | exact hBz.drew | exact hB0.drew | exact hB0)).mono ?_); rintro e wz ⟨rfl, hbz⟩; have hBz := stepB (by first | exact hBz | exact hBz.drew | exact hB0.drew | exact hB0) hbz) | (go_at_call 17; (with_reducible refine (HIn.out _ (by first | exact hBz | exact hBz.drew | exact hB0.drew | exact hB0)).mono ?_); rintro e wz ⟨rfl, hbz⟩; have hBz := stepB (by first | exact hBz | exact hBz.drew | exact hB0.drew | exact hB0) hbz) | (go_at_call 3; (with_reducible refine (HRu.out _ (by first | exact hBz | exact hBz.drew | exact hB0.drew | exact hB0)).mono ?_); rintro e wz ⟨rfl, hbz⟩; have hBz := stepB (by first | exact hBz | exact hBz.drew | exact hB0.drew | exact hB0) hbz))
  go_wp2_with fail
  go_ret
  exact ⟨rfl, B3.trans (hBz.mono B3.size)⟩
end Go.Proofs.YtenhbjcamkbffaaDoor
