/-
  FrameReads, its walk.
-/
import Derived.Test.YtenhbjcamkbffaaDoorFramePuts
import Derived.Test.YtenhbjcamkbffaaDoorFrameLists
namespace Go.Proofs.YtenhbjcamkbffaaDoor
open Go.RowKit Go.Mem

/-- a byte that is stored in a slice of bytes of the call's own, or elsewhere -/
theorem OwnB.setAny {w : World} {B : Nat} {t : TypeId} {A : Option Addr} {n c : Nat} {xs : List UInt8} (h : OwnB w B t 1 A n c (xs.map B8)) (g j : Nat) (y : UInt8) : ∃ xs' : List UInt8, xs'.length = xs.length ∧ OwnB (w.setCell ⟨g, j, none⟩ (B8 y)) B t 1 A n c (xs'.map B8) := by
  obtain ⟨h1, h2, h3⟩ := h
  rw [List.length_map] at h1
  rcases h3 with h3 | ⟨g3, sp, hd, hg, hb, hc⟩
  · exact ⟨xs, rfl, by rw [List.length_map]; exact h1, h2, .inl h3⟩
  · by_cases e : g = g3
    · subst e
      have h4 := hb.set_ j (B8 y)
      by_cases hj : j < xs.length
      · rw [List.set_append_left _ _ (by simpa using hj), ← List.map_set] at h4
        exact ⟨xs.set j y, by simp, by rw [List.length_map, List.length_set]; exact h1, h2, .inr ⟨g, sp, hd, hg, h4, hc⟩⟩
      · rw [List.set_append_right _ _ (by simpa using hj)] at h4
        exact ⟨xs, rfl, by rw [List.length_map]; exact h1, h2, .inr ⟨g, _, hd, hg, h4, by rw [List.length_set]; exact hc⟩⟩
    · exact ⟨xs, rfl, by rw [List.length_map]; exact h1, h2, .inr ⟨g3, sp, hd, hg, hb.far (p := ⟨g, j, none⟩) (fun h => e h.symm) _, hc⟩⟩
theorem OwnB.shape2 {w : World} {B : Nat} {t : TypeId} {D : Option Addr} {n cap : Nat} {pre : List Value} (h : OwnB w B t 1 D n cap pre) (hp : 0 < n) : ∃ g, D = some ⟨g, 0, none⟩ ∧ B ≤ g ∧ (∃ cs, Blk w g t cs) ∧ ∀ k, k < pre.length → w.cell? ⟨g, k, none⟩ = pre[k]? ∧ w.frozen? ⟨g, k, none⟩ = false := by
  obtain ⟨h1, h2, h3⟩ := h
  rcases h3 with ⟨_, h, _⟩ | ⟨g, sp, hd, hg, hb, hc⟩
  · omega
  · exact ⟨g, hd, hg, ⟨_, hb⟩, fun k hk => ⟨by rw [hb.cell, List.getElem?_append_left hk], hb.frozen k⟩⟩
/-- a list of slices of bytes of the call's own: how long they are -/
def Writ (w : World) (B : Nat) (D : Option Addr) (m c : Nat) (qs : List Part) : Prop :=
  OwnB w B 26 1 D m c (qs.map Part.cell) ∧ ∀ q ∈ qs, ∃ xs : List UInt8, xs.length = q.bs.length ∧ OwnB w B 5 1 q.A q.bs.length q.cap (xs.map B8)
theorem Writ.set {w : World} {B : Nat} {D : Option Addr} {m c : Nat} {qs : List Part} (h : Writ w B D m c qs) {g j : Nat} {t : TypeId} {cs : List Value} (hb : Blk w g t cs) (ht : 26 ≠ t) (y : UInt8) : Writ (w.setCell ⟨g, j, none⟩ (B8 y)) B D m c qs := by
  refine ⟨h.1.only hb ht (grown_setCell w g j _ 0), fun q hq => ?_⟩
  obtain ⟨xs, h1, h2⟩ := h.2 q hq
  obtain ⟨xs', h3, h4⟩ := OwnB.setAny h2 g j y
  exact ⟨xs', by omega, h4⟩
theorem front_len (r : List UInt8) : (Frm.front r).1.length ≤ r.length := by
  unfold Frm.front
  repeat' split
  all_goals simp [List.length_take, List.length_drop]
  all_goals omega
theorem nextF_len (bs : List UInt8) (k : Nat) : (nextF bs k).1.length ≤ bs.length := by
  have h := front_len (bs.drop k)
  rw [List.length_drop] at h
  show (Frm.front (bs.drop k)).1.length ≤ _
  omega
theorem flip255 (x : UInt8) : bits .xor .u8 (x.toNat : Int) 255 = ((x ^^^ 255).toNat : Int) := by
  rw [show (255 : Int) = ((255 : Nat) : Int) from rfl, u8_xor_nat _ _ x.toNat_lt (by decide), UInt8.toNat_xor]; rfl

set_option maxRecDepth 100000 in
set_option maxHeartbeats 6400000 in
theorem frameReads_calls (A : Option Addr) (n c : Nat) (bs : List UInt8) (at_ : Int) (w : World) (hT : Tabs w) (hl : bs.length = n) (hn : n ≤ 1048576) (hc : n ≤ c) (hs : Sl w A (bs.map B8)) :
    Calls Tryd.prog 9 #[.slice A n c, .int .i64 at_] w fun e w' => e = .returned (.bool true) ∧ Below w.heap.size w w' := by
  subst hl
  have HT := Lib.hid hT
  have HS := Lib.hid hs
  clear hT hs
  go_enter Tryd.func9, Tryd.ntmps9
  go_wp2_with fail
  refine (roomyB_calls A bs.length c bs 0 w rfl (by omega) HS.out).mono ?_
  rintro e w1 ⟨rfl, b1, K1⟩
  have HK1 := Lib.hid K1
  have hg1 := K1.lt
  clear K1
  have j1 : (bs.length : Int) ≤ (bs.length : Int) + 80 := by omega
  have j3 : (0 : Int) ≤ (bs.length : Int) := by omega
  obtain ⟨V, HV1, HN, HR⟩ : ∃ V : List UInt8 × Int × Nat, V.1.length ≤ 1048576 ∧ Hid (∀ W : World, Below w1.heap.size w1 W → Calls Tryd.prog 20 #[.slice (some ⟨w.heap.size, 0, none⟩) bs.length (bs.length + 80), .int .i64 at_] W (NextEnds W V)) ∧ Hid (∀ W : World, Below w1.heap.size w1 W → Calls Tryd.prog 24 #[.slice A bs.length c, .int .i64 at_] W (NextEnds W V)) := by
    by_cases hat : at_ < 0 ∨ (bs.length : Int) < at_
    · exact ⟨([], 0, 1), Nat.zero_le _, (show ∀ W : World, _ from fun W _ => next_bad _ _ _ at_ W hat), (show ∀ W : World, _ from fun W _ => refNext_bad _ _ _ at_ W hat)⟩
    · obtain ⟨k, rfl⟩ := Int.eq_ofNat_of_zero_le (show 0 ≤ at_ by omega)
      have hk : k ≤ bs.length := by omega
      exact ⟨nextF bs k, by have := nextF_len bs k; omega, (show ∀ W : World, _ from fun W hW => next_calls _ _ _ bs k W ((HT.out.below b1).below hW) rfl (by omega) (by omega) hk ((roomy_sl HK1.out).below hW)), (show ∀ W : World, _ from fun W hW => refNext_calls A _ c bs k W rfl hc (by omega) hk ((HS.out.below b1).below hW))⟩
  have HSC : Hid (∀ W : World, Below w1.heap.size w1 W → Calls Tryd.prog 21 #[.slice (some ⟨w.heap.size, 0, none⟩) bs.length (bs.length + 80)] W (ScanEnds W bs)) := (show ∀ W : World, _ from fun W hW => scan_calls _ _ _ bs W ((HT.out.below b1).below hW) rfl (by omega) (by omega) ((roomy_sl HK1.out).below hW))
  have HRS : Hid (∀ W : World, Below w1.heap.size w1 W → Calls Tryd.prog 25 #[.slice A bs.length c] W (ScanEnds W bs)) := (show ∀ W : World, _ from fun W hW => refScan_calls A _ c bs W rfl hc (by omega) ((HS.out.below b1).below hW))
  have hB0 := Below.refl w1.heap.size w1
  unfold NextEnds at HN HR
  unfold ScanEnds at HSC HRS
  obtain ⟨v1, v2, v3⟩ := V
  generalize hsc : Frm.scan bs = sc at HSC HRS
  obtain ⟨ls, le⟩ := sc
  have hls := Frm.scan_le bs
  rw [hsc] at hls
  obtain ⟨s1, s2, s3⟩ := hls
  simp only at s1 s2 s3 HN HR HSC HRS HV1
  clear hsc
  go_wp2_with fail
  refine (HN.out w1 hB0).mono ?_
  rintro e w2 ⟨D1, c1, rfl, o1, b2⟩
  go_wp2_with fail
  refine (HR.out w2 b2).mono ?_
  rintro e w3 ⟨D2, c2, rfl, o2, b3⟩
  have B3 := stepB b2 b3
  have HO1 := Lib.hid (o1.below b3)
  have HO2 := Lib.hid o2
  clear o1 o2 HN HR
  go_wp2_with fail
  refine (HSC.out w3 B3).mono ?_
  rintro e w4 ⟨D3, m, c3, rfl, p3, b4⟩
  have B4 := stepB B3 b4
  have HP3 := Lib.hid p3
  have HO1 := Lib.hid (HO1.out.below b4)
  have HO2 := Lib.hid (HO2.out.below b4)
  clear p3 HSC
  go_wp2_with fail
  refine (HRS.out w4 B4).mono ?_
  rintro e w5 ⟨D4, m4, c4, rfl, p4, b5⟩
  have B5 := stepB B4 b5
  have hm := HP3.out.len
  obtain rfl : m4 = m := by have := p4.len; omega
  obtain ⟨qs4, a1, a2, a3⟩ := p4
  obtain ⟨qs3, d1, d2, d3⟩ := HP3.out.below b5
  have hq3 : qs3.length = m4 := by have := d2.len; rw [List.length_map] at this; omega
  have hq4 : qs4.length = m4 := by have := a2.len; rw [List.length_map] at this; omega
  have hln : ∀ p ∈ qs3, p.bs.length ≤ 9223372036854775807 := fun p hp => by
    have := s3 p.bs (by rw [← d1]; exact List.mem_map.2 ⟨p, hp, rfl⟩)
    omega
  have HSame := Lib.hid (sameB_calls D1 D2 v1.length v1.length c1 c2 v1 v1 w5 rfl rfl (by omega) (by omega) (HO1.out.below b5).sl (HO2.out.below b5).sl)
  rw [eqL_self] at HSame
  have HLI : Hid (∀ q, Calls Tryd.prog 26 #[.slice D3 m4 c3, .slice D4 m4 c4] (w5.drewN q) fun e w' => e = .returned (.bool true) ∧ ∃ j, w' = (w5.drewN q).drewN j) := (show ∀ _, _ from fun q => lists_true D3 D4 m4 c3 c4 qs3 qs4 (w5.drewN q) hq3 hq4 (by omega) (by rw [d1, a1]) d2.sl a2.sl (fun p hp => (d3 p hp).sl) (fun p hp => (a3 p hp).sl) hln)
  obtain ⟨B, hB1, hW⟩ : ∃ B, w.heap.size < B ∧ Writ w5 B D3 m4 c3 qs3 := ⟨w3.heap.size, by have := B3.size; omega, d2, fun q hq => ⟨q.bs, rfl, d3 q hq⟩⟩
  have HW := Lib.hid hW
  have HK5 := Lib.hid (HK1.out.below B5 HK1.out.lt)
  have BB := b1.trans (B5.mono b1.size)
  have HQ3 := Lib.hid hq3
  have HLN := Lib.hid hln
  have hne1 : (v2 != v2) = false := by simp
  have hne2 : ((v3 : Int) != (v3 : Int)) = false := by simp
  have hne3 : ((le : Int) != (le : Int)) = false := by simp
  have hm20 : m4 ≤ 1048576 := by omega
  clear a1 a2 a3 d1 d2 d3 hq3 hq4 hln hW HO1 HO2 HP3 b2 b3 b4 b5 B3 B4 B5 hm HRS s1 s2 s3 HK1 hB0 hg1
  go_wp2_with fail
  refine HSame.out.mono ?_
  rintro e w6 ⟨rfl, q6, rfl⟩
  go_wp2_with fail
  refine (HLI.out q6).mono ?_
  rintro e w7 ⟨rfl, q7, rfl⟩
  have HW7 : Hid (Writ ((w5.drewN q6).drewN q7) B D3 m4 c3 qs3) := (show Writ _ _ _ _ _ _ from HW.out)
  have HK7 : Hid (Blk ((w5.drewN q6).drewN q7) w.heap.size 5 (rowB bs 0 80)) := (show Blk _ _ _ _ from HK5.out)
  have B7 : Below w.heap.size w ((w5.drewN q6).drewN q7) := below_drewN (below_drewN BB q6) q7
  clear HSame HLI HW HK5 HV1
  go_wp2_with fail
  go_loopw [17, 18] (fun s17 _ wr => ∃ (i : Nat), s17 = .int .i64 i ∧ i ≤ m4 ∧ Hid (Writ wr B D3 m4 c3 qs3) ∧ Hid (Blk wr w.heap.size 5 (rowB bs 0 80)) ∧ Below w.heap.size w wr) (fun s _ _ => m4 - (intOf s).toNat)
  case atStart => exact ⟨0, rfl, Nat.zero_le _, HW7, HK7, below_drewN BB _⟩
  case round =>
    obtain ⟨i, rfl, him, HW, HK, hB⟩ := hrel
    clear HW7 HK7 B7 BB
    by_cases hlt : i < m4
    · obtain ⟨q, hq⟩ : ∃ q, qs3[i]? = some q := ⟨_, List.getElem?_eq_getElem (by rw [HQ3.out]; exact hlt)⟩
      have hqm : q ∈ qs3 := List.mem_of_getElem? hq
      have hqb := HLN.out q hqm
      have HQM : Hid (∀ W, Writ W B D3 m4 c3 qs3 → ∃ xs : List UInt8, xs.length = q.bs.length ∧ OwnB W B 5 1 q.A q.bs.length q.cap (xs.map B8)) := (show ∀ _, _ from fun W h => h.2 q hqm)
      have HQI : Hid ((qs3.map Part.cell)[i]? = some (.slice q.A q.bs.length q.cap)) := (show _ = _ by rw [List.getElem?_map, hq]; rfl)
      generalize q.bs.length = L at *
      generalize q.A = Aq at *
      generalize q.cap = zq at *
      obtain ⟨bD, oD, hD, _⟩ := HW.out.1.sl i _ HQI.out
      subst hD
      have i0 : (0 : Int) ≤ (i : Int) := by omega
      have i1 : (i : Int) < (m4 : Int) := by omega
      clear hq hqm
      go_wp2_with fail
      go_loopw [18] (fun s wx => ∃ (j : Nat), s = .int .i64 j ∧ j ≤ L ∧ Hid (Writ wx B (some ⟨bD, oD, none⟩) m4 c3 qs3) ∧ Hid (Blk wx w.heap.size 5 (rowB bs 0 80)) ∧ Below w.heap.size w wx) (fun s _ => L - (intOf s).toNat)
      case atStart => exact ⟨0, rfl, Nat.zero_le _, HW, HK, hB⟩
      case round =>
        obtain ⟨j, rfl, hjL, HW2, HK2, hB2⟩ := hrel
        clear HW HK hB
        obtain ⟨b', o', hD, x1⟩ := HW2.out.1.sl i _ HQI.out
        cases hD
        have j0 : (0 : Int) ≤ (j : Int) := by omega
        by_cases hjl : j < L
        · obtain ⟨xs, hxl, hown⟩ := HQM.out _ HW2.out
          obtain ⟨g2, rfl, hg2, ⟨cs, hblk⟩, hcell⟩ := OwnB.shape2 hown (by omega)
          obtain ⟨y0, f0⟩ := hcell j (by rw [List.length_map]; omega)
          rw [List.getElem?_map, List.getElem?_eq_getElem (by omega)] at y0
          simp only [Option.map_some, B8] at y0
          have fl := flip255 (xs[j]'(by omega))
          generalize xs[j]'(by omega) = x at y0 fl
          generalize x ^^^ 255 = y at fl
          have j1 : (j : Int) < (L : Int) := by omega
          have HWN : Hid (Writ (wr.setCell ⟨g2, j, none⟩ (.int .u8 (y.toNat : Int))) B (some ⟨bD, oD, none⟩) m4 c3 qs3) := (show Writ _ _ _ _ _ _ from HW2.out.set hblk (by decide) y)
          have HKN : Hid (Blk (wr.setCell ⟨g2, j, none⟩ (.int .u8 (y.toNat : Int))) w.heap.size 5 (rowB bs 0 80)) := (show Blk _ _ _ _ from HK2.out.far (p := ⟨g2, j, none⟩) (by show w.heap.size ≠ g2; omega) _)
          have HBN := Lib.hid (hB2.setCell (p := ⟨g2, j, none⟩) (by show w.heap.size ≤ g2; omega) (.int .u8 (y.toNat : Int)))
          clear hown hcell hblk hxl hB2
          go_wp2_with fail
          go_roundw
          case rel => exact ⟨j + 1, by go_num, by omega, HWN, HKN, HBN.out⟩
          case measure => simp [intOf]; omega
        · have j1 : ¬ (j : Int) < (L : Int) := by omega
          go_wp2_with fail
          go_roundw
          case rel => exact ⟨i + 1, by go_num, by omega, HW2, HK2, hB2⟩
          case measure => simp [intOf]; omega
    · have i1 : ¬ (i : Int) < (m4 : Int) := by omega
      go_wp2_with fail
      refine (intactB_calls _ A bs.length (bs.length + 80) (bs.length + 80) c bs 0 wr rfl rfl (by omega) HK.out.sl (HS.out.below hB) (Nat.le_refl _)).mono ?_
      rintro e w8 ⟨rfl, q8, rfl⟩
      go_wp2_with fail
      refine (frameRuns_calls _ (HT.out.below (below_drewN hB q8))).mono ?_
      rintro e w9 ⟨rfl, b9⟩
      go_wp2_with fail
      go_ret
      exact ⟨rfl, (below_drewN hB q8).trans (b9.mono hB.size)⟩
end Go.Proofs.YtenhbjcamkbffaaDoor
