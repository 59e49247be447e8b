/-
  IdentRuns: chapter 26's runs: the call answers true.
-/
import Derived.Test.YtenhbjcamkbffaaDoorIdent
import Derived.Test.YtenhbjcamkbffaaDoorIdentRef
import Derived.Test.YtenhbjcamkbffaaDoorMakeB
namespace Go.Proofs.YtenhbjcamkbffaaDoor
open Go.RowKit Go.Mem

theorem Tabs.q {w w' : World} (h : Tabs w) (hq : Q w w') : Tabs w' := h.keep fun _ _ _ => hq.cell _
set_option maxRecDepth 100000 in
set_option maxHeartbeats 1600000 in
theorem identRuns_calls (w : World) (hT : Tabs w) : Calls Tryd.prog 3 #[] w fun e w' => e = .returned (.bool true) ∧ Below w.heap.size w w' := by
  have hfd : ∀ (a b : Value) (w : World), (Instr.field 24 (.agg #[a, b]) 0).run Tryd.prog w = .ok a w := fun _ _ _ => by kernel_rfl
  have kc := conv_bytes (P := Tryd.prog) 26 5 Tryd.underlying26 Tryd.underlying5
  have kcd := conv_bytesD (P := Tryd.prog) 26 5 Tryd.underlying26 Tryd.underlying5
  go_enter Tryd.func3, Tryd.ntmps3
  go_wp2_with fail
  have hb1 := (Below.refl w.heap.size w).alloc (Nat.le_refl _) (.cells #[.int .u8 97, .int .u8 98] 5 (2, 3))
  refine (head_calls (some ⟨w.heap.size, 0, none⟩) 2 2 [97, 98] _ rfl (by decide) (by decide) (hT.below hb1) (Sl.new rfl rfl)).mono ?_
  unfold HeadEnds
  rintro e w1 ⟨rfl, b1⟩
  have B1 := hb1.trans (b1.mono (by simp))
  have HT1 := Lib.hid (hT.below B1)
  rw [show headV [97, 98] = .agg #[.int .i64 2, .int .u32 ((Crc.crc 0#32 [97, 98]).toNat : Int)] from rfl]
  generalize hc : Crc.crc 0#32 [97, 98] = c
  have HC := Lib.hid hc
  clear hb1 b1 hc hT
  go_wp2_with fail
  have hp := Blk.new w1 24 #[.int .i64 2, .int .u32 (c.toNat : Int)]
  have B2 := B1.alloc B1.size (.cells #[.int .i64 2, .int .u32 (c.toNat : Int)] 24)
  have hmk : ∀ u : World, (Instr.makeSlice 26 (.int .i64 20) (.int .i64 20)).run Tryd.prog u = .ok (.slice (some ⟨u.heap.size, 0, none⟩) 20 20) (u.alloc (.cells (zerosB 20) 5)) := mkB 20 20 (by decide) (by decide)
  have HP := Lib.hid hp
  have HT2 := Lib.hid (HT1.out.below ((Below.refl _ _).alloc (Nat.le_refl _) (.cells #[.int .i64 2, .int .u32 (c.toNat : Int)] 24)))
  have hle := B1.size
  clear hp B1 HT1
  generalize w1.alloc (.cells #[.int .i64 2, .int .u32 (c.toNat : Int)] 24) = w2 at *
  refine (head_calls none 0 0 [] _ rfl (by decide) (by decide) HT2.out Sl.nil).mono ?_
  unfold HeadEnds
  rintro e w3 ⟨rfl, b3⟩
  rw [show headV [] = .agg #[.int .i64 0, .int .u32 0] from by unfold headV; rw [show ([] : List UInt8).take 16 = [] from rfl, Crc.crc_nil]; rfl]
  have HP3 := Lib.hid (HP.out.below b3 HP.out.lt)
  have B3 := B2.trans (b3.mono B2.size)
  have HT3 := Lib.hid (HT2.out.below b3)
  clear HP B2 HT2 b3
  go_wp2_with fail
  have hb4 := (Below.refl w3.heap.size w3).alloc (Nat.le_refl _) (.cells (zerosB 20) 5)
  refine (head_calls (some ⟨w3.heap.size, 0, none⟩) 20 20 (List.replicate 20 0) _ rfl (by decide) (by decide) (HT3.out.below hb4) (Sl.new rfl (zerosB_map 20).symm)).mono ?_
  unfold HeadEnds
  rintro e w4 ⟨rfl, b4⟩
  rw [show headV (List.replicate 20 0) = .agg #[.int .i64 16, .int .u32 ((Crc.crc 0#32 (List.replicate 16 0)).toNat : Int)] from rfl]
  have HP4 := Lib.hid ((HP3.out.alloc (.cells (zerosB 20) 5)).below b4 (by have := HP3.out.lt; simp; omega))
  have B4 := B3.trans ((hb4.trans (b4.mono (by simp))).mono B3.size)
  have HT4 := Lib.hid ((HT3.out.below hb4).below b4)
  clear HP3 B3 HT3 b4 hb4
  generalize Crc.crc 0#32 (List.replicate 16 0) = c2
  have p0 := HP4.out.cell 0
  have p1 := HP4.out.cell 1
  simp only [List.getElem?_cons_zero, List.getElem?_cons_succ] at p0 p1
  go_wp2_with fail
  have hb5 := (Below.refl w4.heap.size w4).alloc (Nat.le_refl _) (.cells #[.int .u8 97, .int .u8 98, .int .u8 99] 5 (3, 4))
  refine (same_calls 2 c 2 3 (some ⟨w4.heap.size, 0, none⟩) 3 3 [97, 98, 99] _ rfl (by decide) (by decide) (HT4.out.below hb5) (Sl.new rfl rfl)).mono ?_
  unfold HeldEnds
  rintro e w5 ⟨rfl, b5⟩
  rw [show sameH 2 c 2 3 [97, 98, 99] = true from by rw [← HC.out]; decide +kernel]
  have HP5 := Lib.hid ((HP4.out.alloc (.cells #[.int .u8 97, .int .u8 98, .int .u8 99] 5 (3, 4))).below b5 (by have := HP4.out.lt; simp; omega))
  have B5 := B4.trans ((hb5.trans (b5.mono (by simp))).mono B4.size)
  have HT5 := Lib.hid ((HT4.out.below hb5).below b5)
  clear HP4 B4 HT4 b5 hb5 p0 p1
  have p0 := HP5.out.cell 0
  have p1 := HP5.out.cell 1
  simp only [List.getElem?_cons_zero, List.getElem?_cons_succ] at p0 p1
  go_wp2_with fail
  have hb6 := (Below.refl w5.heap.size w5).alloc (Nat.le_refl _) (.cells #[.int .u8 97] 5 (1, 2))
  refine (same_calls 2 c 2 1 (some ⟨w5.heap.size, 0, none⟩) 1 1 [97] _ rfl (by decide) (by decide) (HT5.out.below hb6) (Sl.new rfl rfl)).mono ?_
  unfold HeldEnds
  rintro e w6 ⟨rfl, b6⟩
  rw [show sameH 2 c 2 1 [97] = false from by rw [← HC.out]; decide +kernel]
  have HP6 := Lib.hid ((HP5.out.alloc (.cells #[.int .u8 97] 5 (1, 2))).below b6 (by have := HP5.out.lt; simp; omega))
  have B6 := B5.trans ((hb6.trans (b6.mono (by simp))).mono B5.size)
  have HT6 := Lib.hid ((HT5.out.below hb6).below b6)
  clear HP5 B5 HT5 b6 hb6 p0 p1
  have p0 := HP6.out.cell 0
  have p1 := HP6.out.cell 1
  simp only [List.getElem?_cons_zero, List.getElem?_cons_succ] at p0 p1
  go_wp2_with fail
  have hb7 := (Below.refl w6.heap.size w6).alloc (Nat.le_refl _) (.cells #[.int .u8 97, .int .u8 120] 5 (2, 3))
  refine (same_calls 2 c 1 2 (some ⟨w6.heap.size, 0, none⟩) 2 2 [97, 120] _ rfl (by decide) (by decide) (HT6.out.below hb7) (Sl.new rfl rfl)).mono ?_
  unfold HeldEnds
  rintro e w7 ⟨rfl, b7⟩
  rw [show sameH 2 c 1 2 [97, 120] = false from by rw [← HC.out]; decide +kernel]
  have B7 := B6.trans ((hb7.trans (b7.mono (by simp))).mono B6.size)
  have HT7 := Lib.hid ((HT6.out.below hb7).below b7)
  clear HP6 B6 HT6 b7 hb7 p0 p1
  go_wp2_with fail
  refine (head_calls none 0 0 [] _ rfl (by decide) (by decide) HT7.out Sl.nil).mono ?_
  unfold HeadEnds
  rintro e w8 ⟨rfl, b8⟩
  rw [show headV [] = .agg #[.int .i64 0, .int .u32 0] from by unfold headV; rw [show ([] : List UInt8).take 16 = [] from rfl, Crc.crc_nil]; rfl]
  have B8 := B7.trans (b8.mono B7.size)
  have HT8 := Lib.hid (HT7.out.below b8)
  clear HT7 B7 b8
  go_wp2_with fail
  refine (same_calls 0 0#32 0 0 none 0 0 [] _ rfl (by decide) (by decide) HT8.out Sl.nil).mono ?_
  unfold HeldEnds
  rintro e w9 ⟨rfl, b9⟩
  rw [show sameH 0 0#32 0 0 [] = true from by decide +kernel]
  have B9 := B8.trans (b9.mono B8.size)
  clear HT8 B8 b9
  go_wp2_with fail
  go_ret
  exact ⟨rfl, B9⟩
end Go.Proofs.YtenhbjcamkbffaaDoor
