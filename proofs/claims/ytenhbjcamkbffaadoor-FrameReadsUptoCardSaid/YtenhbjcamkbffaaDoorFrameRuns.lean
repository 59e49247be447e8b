/-
  FrameRuns: chapter 23's runs: the call answers true.
-/
import Derived.Test.YtenhbjcamkbffaaDoorFrameScan
import Derived.Test.YtenhbjcamkbffaaDoorConv
namespace Go.Proofs.YtenhbjcamkbffaaDoor
open Go.RowKit Go.Mem

theorem ab_ok : ¬ (([97, 98] : List UInt8).length = 0 ∨ 262144 < ([97, 98] : List UInt8).length) := by decide
theorem ab_next : nextF (Frm.frm [97, 98]) 0 = ([97, 98], 10, 0) := by
  have h := Frm.front_frm ab_ok []
  rw [List.append_nil] at h
  unfold nextF
  rw [List.drop_zero, h]; rfl
theorem ab_cut : nextF ((Frm.frm [97, 98]).take 9) 0 = ([], 0, 3) :=
  nextF_err (by rw [List.drop_zero]; exact Frm.front_frm_cut ab_ok 9 (by decide)) (by decide)
theorem zero_next : nextF (List.replicate 8 0) 0 = ([], 0, 4) := nextF_err (by decide +kernel) (by decide)
theorem ab_scan : Frm.scan (Frm.frm [97, 98] ++ Frm.frm [97, 98] ++ [0]) = ([[97, 98], [97, 98]], 20) := by
  have h := Frm.scan_frms [[97, 98], [97, 98]] [0] (by intro p hp; simp at hp; subst hp; exact ab_ok) (by decide)
  have e : (([[97, 98], [97, 98]] : List (List UInt8)).map Frm.frm).flatten = Frm.frm [97, 98] ++ Frm.frm [97, 98] := by simp
  rw [e] at h
  rw [h]
  simp [Frm.frm_length ab_ok]

theorem ab_nextF {F : List UInt8} (h : Frm.frm [97, 98] = F) : nextF F 0 = ([97, 98], 10, 0) := by rw [← h]; exact ab_next
theorem ab_cutF {F : List UInt8} (h : Frm.frm [97, 98] = F) : nextF (F.take 9) 0 = ([], 0, 3) := by rw [← h]; exact ab_cut
theorem ab_scanF {F : List UInt8} (h : Frm.frm [97, 98] = F) : Frm.scan (F ++ F ++ [0]) = ([[97, 98], [97, 98]], 20) := by rw [← h]; exact ab_scan
set_option maxRecDepth 100000 in
set_option maxHeartbeats 3200000 in
theorem frameRuns_calls (w : World) (hT : Tabs w) : Calls Tryd.prog 7 #[] w fun e w' => e = .returned (.bool true) ∧ Below w.heap.size w w' := by
  obtain ⟨i0, hi, hz0, hz1, hz2⟩ := info_parts infoU8
  have kc := conv_bytes (P := Tryd.prog) 26 5 Tryd.underlying26 Tryd.underlying5
  have HT := Lib.hid hT
  clear hT
  go_enter Tryd.func7, Tryd.ntmps7
  go_wp2_with fail
  have hb1 := (Below.refl w.heap.size w).alloc (Nat.le_refl _) (.cells #[.int .u8 97, .int .u8 98] 5 (2, 3))
  refine (put_calls none (some ⟨w.heap.size, 0, none⟩) 0 2 0 2 [] [97, 98] _ (HT.out.below hb1) rfl (by decide) Sl.nil rfl (by decide) (Sl.new rfl rfl)).mono ?_
  unfold AppEnds
  rintro e w1 ⟨D1, c1, rfl, o1, b1⟩
  rw [List.nil_append] at o1 ⊢
  have hfl : (Frm.frm [97, 98]).length = 10 := Frm.frm_length ab_ok
  rw [hfl] at o1 ⊢
  have B1 := hb1.trans (b1.mono (by simp))
  have HO1 := Lib.hid (o1.mono (B' := w.heap.size) (by simp))
  have hc1 := o1.le
  have HFL := Lib.hid hfl
  generalize hF : Frm.frm [97, 98] = F at *
  have HF := Lib.hid hF
  clear hb1 b1 o1 hfl hF kc
  go_wp2_with fail
  refine (next_calls D1 10 c1 F 0 w1 (HT.out.below B1) HFL.out hc1 (by decide) (by decide) HO1.out.sl).mono ?_
  rw [ab_nextF HF.out]
  unfold NextEnds
  rintro e w2 ⟨D2, c2, rfl, o2, b2⟩
  have B2 := B1.trans (b2.mono B1.size)
  have HO12 := Lib.hid (HO1.out.below b2)
  have HO2 := Lib.hid (o2.mono B1.size)
  clear HO1 B1 o2 b2
  have hmk : ∀ u : World, (Instr.makeSlice 26 (.int .i64 8) (.int .i64 8)).run Tryd.prog u = .ok (.slice (some ⟨u.heap.size, 0, none⟩) 8 8) (u.alloc (.cells (zerosB 8) 5)) := mkB 8 8 (by decide) (by decide)
  go_wp2_with fail
  have hb3 := (Below.refl w2.heap.size w2).alloc (Nat.le_refl _) (.cells (zerosB 8) 5)
  refine (next_calls (some ⟨w2.heap.size, 0, none⟩) 8 8 (List.replicate 8 0) 0 _ (HT.out.below (B2.alloc B2.size _)) rfl (by decide) (by decide) (by decide) (Sl.new rfl (zerosB_map 8).symm)).mono ?_
  rw [zero_next]
  unfold NextEnds
  rintro e w3 ⟨D3, c3, rfl, _, b3⟩
  have b23 := hb3.trans (b3.mono (by simp))
  have B3 := B2.trans (b23.mono B2.size)
  have HO13 := Lib.hid (HO12.out.below b23)
  have HO23 := Lib.hid (HO2.out.below b23)
  clear HO12 HO2 B2 b3 b23 hb3 hmk
  have hc9 : (9 : Int) ≤ (c1 : Int) := by omega
  have hs9 : Hid (Sl w3 D1 ((F.take 9).map B8)) := (show Sl _ _ _ by rw [List.map_take]; exact HO13.out.sl.take 9)
  go_wp2_with fail
  refine (next_calls D1 9 c1 (F.take 9) 0 w3 (HT.out.below B3) (by rw [List.length_take, HFL.out]; rfl) (by omega) (by decide) (by decide) hs9.out).mono ?_
  rw [ab_cutF HF.out]
  unfold NextEnds
  rintro e w4 ⟨D4, c4, rfl, _, b4⟩
  have B4 := B3.trans (b4.mono B3.size)
  have HO14 := Lib.hid (HO13.out.below b4)
  have HO24 := Lib.hid (HO23.out.below b4)
  clear HO13 HO23 B3 b4 hs9
  have hb5 := B4.alloc B4.size (.cells #[] 5)
  have HSR1 : Hid (∀ W : World, Sl W D1 (F.map B8) → Src Tryd.prog 1 26 (.slice D1 10 c1) 10 (F.map B8) W) := (show ∀ W : World, _ from fun W hW => srcSl Tryd.underlying26 (by simpa using HFL.out) hW (bytes_one _))
  have HS5 := Lib.hid (HSR1.out _ (HO14.out.sl.alloc (.cells #[] 5)))
  have hle4 := B4.size
  have HOE := Lib.hid (OwnB.empty (W := w4) (e := 5) (sz := 1) (g := w4.heap.size) (B := w4.heap.size) rfl (Nat.le_refl _))
  have hb5' := (Below.refl w4.heap.size w4).alloc (Nat.le_refl _) (.cells #[] 5)
  go_wp2_with (at_builtin; refine wpList_append_ownK (o := ⟨some 41, _, _, _, _, _⟩) rfl (.tmp 39) (.tmp 40) 26 26 rfl 5 i0 (.int .u8 0) 1 1 Tryd.underlying26 hi hz0 hz1 hz2 rfl w4.heap.size (some ⟨w4.heap.size, 0, none⟩) 0 0 [] rfl HOE.out (.slice D1 10 c1) rfl 10 (F.map B8) HS5.out (by decide) (by decide) w4 hb5' (by simp) ?_)
  intro w6 D6 c6 HO6 HK6 hb6 hsz6
  have HS6 := Lib.hid (HSR1.out _ (HO14.out.sl.below hb6))
  clear HS5 HOE HK6 hb5 hb5' hsz6
  go_wp2_with (at_builtin; refine wpList_append_ownK (o := ⟨some 43, _, _, _, _, _⟩) rfl (.tmp 41) (.tmp 42) 26 26 rfl 5 i0 (.int .u8 0) 1 1 Tryd.underlying26 hi hz0 hz1 hz2 rfl w4.heap.size D6 10 c6 _ rfl HO6.out (.slice D1 10 c1) rfl 10 (F.map B8) HS6.out (by decide) (by decide) w4 hb6 hb6.size ?_)
  intro w7 D7 c7 HO7 HK7 hb7 hsz7
  have HO8 := Lib.hid (HO7.out.alloc (.cells #[.int .u8 0] 5))
  have hb7s := hb7.size
  have HS8 : Hid (Src Tryd.prog 1 26 (.slice (some ⟨w7.heap.size, 0, none⟩) 1 1) 1 (([0] : List UInt8).map B8) (w7.alloc (.cells #[.int .u8 0] 5))) := Lib.hid (srcSl Tryd.underlying26 rfl (Sl.new rfl rfl) (bytes_one _))
  clear HS6 HK7 HO6 hsz7 hb6
  go_wp2_with (at_builtin; refine wpList_append_ownK (o := ⟨some 45, _, _, _, _, _⟩) rfl (.tmp 43) (.tmp 44) 26 26 rfl 5 i0 (.int .u8 0) 1 1 Tryd.underlying26 hi hz0 hz1 hz2 rfl w4.heap.size D7 20 c7 _ rfl HO8.out (.slice (some ⟨w7.heap.size, 0, none⟩) 1 1) rfl 1 (([0] : List UInt8).map B8) HS8.out (by decide) (by decide) w4 (hb7.alloc hb7s _) (by simp; omega) ?_)
  intro w8 D8 c8 HO9 HK8 hb8 hsz8
  have HSX : Hid (Sl w8 D8 ((F ++ F ++ [0]).map B8)) := (show Sl _ _ _ by simpa [List.map_append] using HO9.out.sl)
  have hc8 := HO9.out.le
  have B8' := B4.trans (hb8.mono B4.size)
  have HLX : Hid ((F ++ F ++ [0]).length = 21) := (show _ = _ by simp only [List.length_append, HFL.out]; rfl)
  have HO28 := Lib.hid (HO24.out.below hb8)
  clear HO9 HK8 HO8 HS8 HO24 HO7 hb7 hb8 hsz8 hb7s HSR1 HO14
  go_wp2_with fail
  refine (scan_calls D8 21 c8 (F ++ F ++ [0]) w8 (HT.out.below B8') HLX.out hc8 (by decide) HSX.out).mono ?_
  unfold ScanEnds
  rw [ab_scanF HF.out]
  rintro e w9 ⟨D9, m9, c9, rfl, p9, b9⟩
  have B9 := B8'.trans (b9.mono B8'.size)
  have HO29 := Lib.hid (HO28.out.below b9)
  have hm9 := p9.len
  obtain rfl : m9 = 2 := hm9.symm
  obtain ⟨qs, hq1, hq2, hq3⟩ := p9
  obtain ⟨q0, q1, rfl⟩ : ∃ q0 q1 : Part, qs = [q0, q1] := by
    match qs, hq1 with
    | [q0, q1], _ => exact ⟨q0, q1, rfl⟩
  have hb1 : q1.bs = [97, 98] := by simp at hq1; exact hq1.2
  have h1 := hq3 q1 (by simp)
  rw [hb1] at h1
  obtain ⟨bb, oo, rfl, hcell⟩ := hq2.sl.at_ (k := 1) (by simp)
  have hcell2 : w9.cell? ⟨bb, oo + 1, none⟩ = some (.slice q1.A 2 q1.cap) := by
    rw [hcell]; simp [Part.cell, hb1]
  have hcv1 := conv_str (P := Tryd.prog) w9 26 9 5 Tryd.underlying26 Tryd.underlying5 Tryd.underlying9 D2 2 c2 [97, 98] rfl HO29.out.sl
  have hcv2 := conv_str (P := Tryd.prog) w9 26 9 5 Tryd.underlying26 Tryd.underlying5 Tryd.underlying9 q1.A 2 q1.cap [97, 98] rfl h1.sl
  have hS : S8 [97, 98] = .string ⟨#[97, 98]⟩ := rfl
  rw [hS] at hcv1 hcv2
  generalize q1.A = A1 at *
  generalize q1.cap = k1 at *
  clear hS hcell hq1 hq2 hq3 hb1 h1 HO28 HO29 HSX HLX B8' hm9 b9
  go_wp2_with fail
  go_ret
  exact ⟨rfl, B9⟩
end Go.Proofs.YtenhbjcamkbffaaDoor
