/-
  SumRuns: chapter 1's runs: the call answers true.
-/
import Derived.Test.YtjmiejcgahajfaaDoorSumObj
namespace Go.Proofs.YtjmiejcgahajfaaDoor
open Go.RowKit Go.Mem

set_option maxHeartbeats 800000 in
theorem sumRuns_calls (w : World) (hT : Tabs w) : Calls Tryd.prog 3 #[] w fun e w' => e = .returned (.bool true) ∧ Below w.heap.size w w' := by
  have kc := conv_bytes (P := Tryd.prog) 26 5 Tryd.underlying26 Tryd.underlying5
  have kcd := conv_bytesD (P := Tryd.prog) 26 5 Tryd.underlying26 Tryd.underlying5
  go_enter Tryd.func3, Tryd.ntmps3
  go_wp2_with fail
  have hb1 : Below w.heap.size w ((w.alloc (.cells #[.int .u32 0] 24)).alloc (.cells #[.int .u8 49, .int .u8 50, .int .u8 51, .int .u8 52, .int .u8 53] 5 (5, 6))) := ((Below.refl _ _).alloc (Nat.le_refl _) _).alloc (by simp) _
  refine (add_calls w.heap.size 0 0#32 _ 5 5 [49, 50, 51, 52, 53] _ rfl (by decide) (hT.below hb1) (Sl.new (by simp) rfl) (by go_simp) (by go_simp)).mono ?_
  rintro e w1 ⟨rfl, c1, f1, g1⟩
  have z1 : w.heap.size + 2 ≤ w1.heap.size := by have := g1.size; simpa using this
  have B1 := below_grown hb1 g1 (by simp; omega) (Nat.le_refl _)
  clear hb1 g1
  generalize hk1 : Crc.crc 0#32 [49, 50, 51, 52, 53] = k1 at c1
  have HK1 := Lib.hid hk1
  clear hk1
  go_wp2_with fail
  have hb2 : Below w.heap.size w (w1.alloc (.cells #[.int .u8 54, .int .u8 55, .int .u8 56, .int .u8 57] 5 (4, 5))) := B1.alloc (by omega) _
  refine (add_calls w.heap.size 0 k1 _ 4 4 [54, 55, 56, 57] _ rfl (by decide) (hT.below hb2) (Sl.new rfl rfl) ((World.cell?_alloc_past _ _ _ (by omega)).trans c1) ((World.frozen?_alloc_past _ _ _ (by omega)).trans f1)).mono ?_
  rintro e w2 ⟨rfl, c2, f2, g2⟩
  have z2 : w.heap.size + 3 ≤ w2.heap.size := by have := g2.size; simp at this; omega
  have B2 := below_grown hb2 g2 (by simp; omega) (Nat.le_refl _)
  clear hb2 g2 c1 f1 B1
  have hk2 : Crc.crc k1 [54, 55, 56, 57] = 0xe3069283#32 := by rw [← HK1.out]; decide +kernel
  rw [hk2] at c2
  clear hk2
  have hT2 := hT.below B2
  have L2 : w.heap.size < w2.heap.size := by omega
  go_wp2_with fail
  have hb3 : Below w2.heap.size w2 ((w2.alloc (.cells #[.int .u8 49, .int .u8 50, .int .u8 51, .int .u8 52, .int .u8 53, .int .u8 54, .int .u8 55, .int .u8 56, .int .u8 57] 5 (9, 10))).alloc (.cells #[.slice (some ⟨w2.heap.size, 0, none⟩) 9 9] 26)) := ((Below.refl _ _).alloc (Nat.le_refl _) _).alloc (by simp) _
  refine (toQ (of_calls _ 1 1 [⟨some ⟨w2.heap.size, 0, none⟩, 9, [49, 50, 51, 52, 53, 54, 55, 56, 57]⟩] _ rfl (by decide) (hT2.below hb3) (Sl.new (by simp) rfl) (by
    intro p hp
    obtain rfl := List.mem_singleton.1 hp
    exact ⟨by simp, (Sl.new rfl rfl).alloc _⟩))).mono ?_
  rintro e w3 ⟨rfl, q3⟩
  rw [show Crc.crcs 0#32 (List.map Part.bs [⟨some ⟨w2.heap.size, 0, none⟩, 9, [49, 50, 51, 52, 53, 54, 55, 56, 57]⟩]) = 0xe3069283#32 from
    (show Crc.crcs 0#32 [[49, 50, 51, 52, 53, 54, 55, 56, 57]] = 0xe3069283#32 by decide +kernel)]
  have B3 : Below w.heap.size w w3 := B2.trans ((hb3.mono (by omega)).trans (q3.below _))
  have c3 : w3.cell? ⟨w.heap.size, 0, none⟩ = some (.int .u32 3808858755) := (q3.cell _).trans (cell_alloc (cell_alloc c2 _) _)
  have L3 : w.heap.size < w3.heap.size := lt_of_cell c3
  have hT3 := hT.below B3
  clear hT2 hb3 q3 c2 f2 B2 L2 z2
  go_wp2_with fail
  have hb4 : Below w3.heap.size w3 (((w3.alloc (.cells #[.int .u8 49, .int .u8 50, .int .u8 51, .int .u8 52] 5 (4, 5))).alloc (.cells #[.int .u8 53, .int .u8 54, .int .u8 55, .int .u8 56, .int .u8 57] 5 (5, 6))).alloc (.cells #[.slice (some ⟨w3.heap.size, 0, none⟩) 4 4, .slice (some ⟨w3.heap.size + 1, 0, none⟩) 5 5] 26)) := (((Below.refl _ _).alloc (Nat.le_refl _) _).alloc (by simp) _).alloc (by simp; omega) _
  refine (toQ (of_calls _ 2 2 [⟨some ⟨w3.heap.size, 0, none⟩, 4, [49, 50, 51, 52]⟩, ⟨some ⟨w3.heap.size + 1, 0, none⟩, 5, [53, 54, 55, 56, 57]⟩] _ rfl (by decide) (hT3.below hb4) (Sl.new (by simp) rfl) (by
    intro p hp
    rcases List.mem_cons.1 hp with rfl | hp
    · exact ⟨by simp, ((Sl.new rfl rfl).alloc _).alloc _⟩
    · obtain rfl := List.mem_singleton.1 hp
      exact ⟨by simp, (Sl.new (by simp) rfl).alloc _⟩))).mono ?_
  rintro e w4 ⟨rfl, q4⟩
  rw [show Crc.crcs 0#32 (List.map Part.bs [⟨some ⟨w3.heap.size, 0, none⟩, 4, [49, 50, 51, 52]⟩, ⟨some ⟨w3.heap.size + 1, 0, none⟩, 5, [53, 54, 55, 56, 57]⟩]) = 0xe3069283#32 from
    (show Crc.crcs 0#32 [[49, 50, 51, 52], [53, 54, 55, 56, 57]] = 0xe3069283#32 by decide +kernel)]
  have B4 : Below w.heap.size w w4 := B3.trans ((hb4.mono (by omega)).trans (q4.below _))
  have c4 : w4.cell? ⟨w.heap.size, 0, none⟩ = some (.int .u32 3808858755) := (q4.cell _).trans (cell_alloc (cell_alloc (cell_alloc c3 _) _) _)
  have hT4 := hT.below B4
  clear hT3 hb4 q4 c3 B3 L3
  go_wp2_with fail
  refine (toQ (of_calls none 0 0 [] _ rfl (by decide) hT4 Sl.nil (by intro p hp; cases hp))).mono ?_
  rintro e w5 ⟨rfl, q5⟩
  rw [show Crc.crcs 0#32 (List.map Part.bs []) = 0#32 from rfl]
  have B5 := B4.trans (q5.below _)
  have c5 := (q5.cell _).trans c4
  have hT5 := hT.below B5
  clear hT4 q5 c4 B4
  go_wp2_with fail
  refine (toQ (on_calls 0#32 none 0 0 [] _ rfl (by decide) hT5 Sl.nil)).mono ?_
  rintro e w6 ⟨rfl, q6⟩
  rw [show Crc.crc 0#32 [] = 0#32 from Crc.crc_nil _]
  have B6 := B5.trans (q6.below _)
  have c6 := (q6.cell _).trans c5
  clear hT5 q6 c5 B5
  go_wp2_with fail
  refine (value_calls w.heap.size 0 3808858755 _ c6).mono ?_
  rintro e w7 ⟨rfl, rfl⟩
  go_wp2_with fail
  go_ret
  exact ⟨rfl, B6⟩
end Go.Proofs.YtjmiejcgahajfaaDoor
