/-
  The contracts of frame.Scan and of the document's own Scan (written by gen/framescan.py).
-/
import Derived.Test.YtenhbjcamkbffaaDoorFrameRef
namespace Go.Proofs.YtenhbjcamkbffaaDoor
open Go.RowKit Go.Mem

theorem infoS : (Tryd.prog.info? 26).map (fun i => (i.zero, i.size, i.bytes)) = some (some (.slice none 0 0), 1, 24) := by kernel_rfl
/-- a list of slices of bytes, all of the call's own -/
def PL (w : World) (B : Nat) (D : Option Addr) (m c : Nat) (ps : List (List UInt8)) : Prop :=
  ∃ qs : List Part, qs.map Part.bs = ps ∧ OwnB w B 26 1 D m c (qs.map Part.cell) ∧ ∀ q ∈ qs, OwnB w B 5 1 q.A q.bs.length q.cap (q.bs.map B8)
theorem PL.nil (w : World) (B : Nat) : PL w B none 0 0 [] := ⟨[], rfl, OwnB.nil _ _ _ _, fun q h => by cases h⟩
theorem PL.below {w w' : World} {B m c : Nat} {D : Option Addr} {ps : List (List UInt8)} (h : PL w B D m c ps) (hb : Below w.heap.size w w') : PL w' B D m c ps := by
  obtain ⟨qs, h1, h2, h3⟩ := h
  exact ⟨qs, h1, h2.below hb, fun q hq => (h3 q hq).below hb⟩
theorem PL.mono {w : World} {B B' m c : Nat} {D : Option Addr} {ps : List (List UInt8)} (h : PL w B D m c ps) (hB : B' ≤ B) : PL w B' D m c ps := by
  obtain ⟨qs, h1, h2, h3⟩ := h
  exact ⟨qs, h1, h2.mono hB, fun q hq => (h3 q hq).mono hB⟩
theorem PL.len {w : World} {B m c : Nat} {D : Option Addr} {ps : List (List UInt8)} (h : PL w B D m c ps) : ps.length = m := by
  obtain ⟨qs, h1, h2, _⟩ := h
  have := h2.len
  rw [← h1]; simpa using this
theorem PL.le {w : World} {B m c : Nat} {D : Option Addr} {ps : List (List UInt8)} (h : PL w B D m c ps) : m ≤ c := h.choose_spec.2.1.le
def ScanEnds (w : World) (bs : List UInt8) (e : Ending) (w' : World) : Prop := ∃ (D : Option Addr) (m c : Nat), e = .returned (.tuple #[.slice D m c, .int .i64 ((Frm.scan bs).2 : Int)]) ∧ PL w' w.heap.size D m c (Frm.scan bs).1 ∧ Below w.heap.size w w'

set_option maxRecDepth 100000 in
set_option maxHeartbeats 3200000 in
theorem scan_calls (A : Option Addr) (n c : Nat) (bs : List UInt8) (w : World) (hT : Tabs w) (hl : bs.length = n) (hc : n ≤ c) (hn : n ≤ 100000000) (hs : Sl w A (bs.map B8)) :
    Calls Tryd.prog 21 #[.slice A n c] w (ScanEnds w bs) := by
  subst hl
  obtain ⟨i0, hi, hz0, hz1, hz2⟩ := info_parts infoS
  have HN : Hid (∀ (W : World) (k : Nat), k ≤ bs.length → Below w.heap.size w W → Calls Tryd.prog 20 #[.slice A bs.length c, .int .i64 (k : Int)] W (NextEnds W (nextF bs k))) :=
    (show ∀ _ _, _ from fun W k hk hW => next_calls A bs.length c bs k W (hT.below hW) rfl hc (by omega) hk (hs.below hW))
  clear hs
  go_enter Tryd.func21, Tryd.ntmps21
  go_wp2_with fail
  have HP0 : Hid (PL w w.heap.size none 0 0 []) := Lib.hid (PL.nil w w.heap.size)
  have HE0 : Hid (Frm.scan bs = ([] ++ (Frm.scan (bs.drop 0)).1, 0 + (Frm.scan (bs.drop 0)).2)) := (show _ = _ by simp)
  go_loopw [4, 5, 6, 7, 8] (fun l a _ _ _ wr => ∃ (D : Option Addr) (m cD k : Nat) (ps : List (List UInt8)), l = .slice D m cD ∧ a = .int .i64 k ∧ k ≤ bs.length ∧ m ≤ k ∧ Hid (PL wr w.heap.size D m cD ps) ∧ Hid (Frm.scan bs = (ps ++ (Frm.scan (bs.drop k)).1, k + (Frm.scan (bs.drop k)).2)) ∧ Below w.heap.size w wr) (fun _ a _ _ _ _ => bs.length - (intOf a).toNat)
  case atStart => exact ⟨none, 0, 0, 0, [], rfl, rfl, Nat.zero_le _, Nat.le_refl _, HP0, HE0, Below.refl _ _⟩
  case round =>
    clear HP0 HE0
    obtain ⟨D, m, cD, k, ps, rfl, rfl, hk, hmk, HP, HE, hB⟩ := hrel
    have HC := Lib.hid (HN.out wr k hk hB)
    by_cases hok : (Frm.front (bs.drop k)).2.2 = 0
    · have hle := Frm.front_le _ hok
      have HV : Hid (nextF bs k = ((Frm.front (bs.drop k)).1, (k : Int) + ((Frm.front (bs.drop k)).2.1 : Int), 0)) := (show _ = _ by unfold nextF; rw [hok]; simp)
      rw [List.length_drop] at hle
      have HS : Hid (Frm.scan bs = ((ps ++ [(Frm.front (bs.drop k)).1]) ++ (Frm.scan (bs.drop (k + (Frm.front (bs.drop k)).2.1))).1, (k + (Frm.front (bs.drop k)).2.1) + (Frm.scan (bs.drop (k + (Frm.front (bs.drop k)).2.1))).2)) := (show _ = _ by
        rw [HE.out, Frm.scan_more hok, List.drop_drop]
        simp only [List.append_assoc, List.singleton_append, Nat.add_assoc])
      rw [HV.out] at HC
      generalize (Frm.front (bs.drop k)).1 = pl at *
      generalize (Frm.front (bs.drop k)).2.1 = z at *
      clear hok HV HE
      go_wp2_with fail
      refine HC.out.mono ?_
      unfold NextEnds
      rintro e w2 ⟨D2, c2, rfl, o2, b2⟩
      have HP2 := Lib.hid (HP.out.below b2)
      have hB2 := hB.trans (b2.mono hB.size)
      have HO2 := Lib.hid (o2.mono hB.size)
      obtain ⟨qs, hq1, hq2, hq3⟩ := HP2.out
      have HQ1 := Lib.hid hq1
      have HX := Lib.hid (hq2.alloc (.cells #[.slice D2 pl.length c2] 26))
      have HQ3 := Lib.hid hq3
      have hB2s := hB2.size
      have HSR : Hid (Src Tryd.prog 1 39 (.slice (some ⟨w2.heap.size, 0, none⟩) 1 1) 1 [Value.slice D2 pl.length c2] (w2.alloc (.cells #[.slice D2 pl.length c2] 26))) :=
        Lib.hid (srcSl Tryd.underlying39 rfl (Sl.new rfl rfl) (by intro u hu; rw [List.mem_singleton.1 hu]; rfl))
      clear HC HP HP2 hB o2 b2 hq1 hq2 hq3
      go_wp2_with (at_builtin; refine wpList_append_ownK (o := ⟨some 23, _, _, _, _, _⟩) rfl (.tmp 20) (.tmp 22) 39 39 rfl 26 i0 (.slice none 0 0) 1 24 Tryd.underlying39 hi hz0 hz1 hz2 rfl w.heap.size D m cD (qs.map Part.cell) rfl HX.out (.slice (some ⟨w2.heap.size, 0, none⟩) 1 1) rfl 1 [Value.slice D2 pl.length c2] HSR.out (by omega) (by omega) w (hB2.alloc hB2s _) (by simp; omega) ?_)
      intro w3 D3 c3 HO3 HK3 hb3 hsz3
      have HP3 : Hid (PL w3 w.heap.size D3 (m + 1) c3 (ps ++ [pl])) := (show PL _ _ _ _ _ _ from ⟨qs ++ [⟨D2, c2, pl⟩], by rw [List.map_append, HQ1.out]; rfl, by rw [List.map_append]; exact HO3.out, fun q hq => by
        rcases List.mem_append.1 hq with h | h
        · exact HK3.out.own_ne HX.out ((HQ3.out q h).alloc _) (by decide)
        · obtain rfl := List.mem_singleton.1 h
          exact HK3.out.own_ne HX.out (HO2.out.alloc _) (by decide)⟩)
      clear HO3 HK3 HX HSR HQ1 HQ3 HO2 hsz3 hB2 hB2s
      go_wp2_with fail
      go_roundw
      case rel => exact ⟨D3, m + 1, c3, k + z, ps ++ [pl], rfl, by go_num, by omega, by omega, HP3, HS, hb3⟩
      case measure => simp [intOf]; omega
    · have HFin : Hid (Frm.scan bs = (ps, k)) := (show _ = _ by rw [HE.out, Frm.scan_stop hok]; simp)
      have hne : (((Frm.front (bs.drop k)).2.2 : Int) != 0) = true := by rw [bne_iff_ne]; omega
      have HV : Hid (∃ x y, nextF bs k = (x, y, (Frm.front (bs.drop k)).2.2)) := (show ∃ _ _, _ from ⟨_, _, rfl⟩)
      obtain ⟨x, y, hxy⟩ := HV.out
      rw [hxy] at HC
      generalize (Frm.front (bs.drop k)).2.2 = er at *
      clear hok HE HV hxy
      go_wp2_with fail
      refine HC.out.mono ?_
      unfold NextEnds
      rintro e w2 ⟨D2, c2, rfl, o2, b2⟩
      have HEnd : Hid (ScanEnds w bs (.returned (.tuple #[.slice D m cD, .int .i64 (k : Int)])) w2) := (show ScanEnds _ _ _ _ from ⟨D, m, cD, by rw [HFin.out], by rw [HFin.out]; exact HP.out.below b2, hB.trans (b2.mono hB.size)⟩)
      clear HP o2 b2 hB HC
      go_wp2_with fail
      go_ret2
      exact HEnd.out

set_option maxRecDepth 100000 in
set_option maxHeartbeats 3200000 in
theorem refScan_calls (A : Option Addr) (n c : Nat) (bs : List UInt8) (w : World) (hl : bs.length = n) (hc : n ≤ c) (hn : n ≤ 100000000) (hs : Sl w A (bs.map B8)) :
    Calls Tryd.prog 25 #[.slice A n c] w (ScanEnds w bs) := by
  subst hl
  obtain ⟨i0, hi, hz0, hz1, hz2⟩ := info_parts infoS
  have HN : Hid (∀ (W : World) (k : Nat), k ≤ bs.length → Below w.heap.size w W → Calls Tryd.prog 24 #[.slice A bs.length c, .int .i64 (k : Int)] W (NextEnds W (nextF bs k))) :=
    (show ∀ _ _, _ from fun W k hk hW => refNext_calls A bs.length c bs k W rfl hc (by omega) hk (hs.below hW))
  clear hs
  go_enter Tryd.func25, Tryd.ntmps25
  go_wp2_with fail
  have HP0 : Hid (PL w w.heap.size none 0 0 []) := Lib.hid (PL.nil w w.heap.size)
  have HE0 : Hid (Frm.scan bs = ([] ++ (Frm.scan (bs.drop 0)).1, 0 + (Frm.scan (bs.drop 0)).2)) := (show _ = _ by simp)
  go_loopw [4, 5, 6, 7, 8] (fun l a _ _ _ wr => ∃ (D : Option Addr) (m cD k : Nat) (ps : List (List UInt8)), l = .slice D m cD ∧ a = .int .i64 k ∧ k ≤ bs.length ∧ m ≤ k ∧ Hid (PL wr w.heap.size D m cD ps) ∧ Hid (Frm.scan bs = (ps ++ (Frm.scan (bs.drop k)).1, k + (Frm.scan (bs.drop k)).2)) ∧ Below w.heap.size w wr) (fun _ a _ _ _ _ => bs.length - (intOf a).toNat)
  case atStart => exact ⟨none, 0, 0, 0, [], rfl, rfl, Nat.zero_le _, Nat.le_refl _, HP0, HE0, Below.refl _ _⟩
  case round =>
    clear HP0 HE0
    obtain ⟨D, m, cD, k, ps, rfl, rfl, hk, hmk, HP, HE, hB⟩ := hrel
    have HC := Lib.hid (HN.out wr k hk hB)
    by_cases hok : (Frm.front (bs.drop k)).2.2 = 0
    · have hle := Frm.front_le _ hok
      have HV : Hid (nextF bs k = ((Frm.front (bs.drop k)).1, (k : Int) + ((Frm.front (bs.drop k)).2.1 : Int), 0)) := (show _ = _ by unfold nextF; rw [hok]; simp)
      rw [List.length_drop] at hle
      have HS : Hid (Frm.scan bs = ((ps ++ [(Frm.front (bs.drop k)).1]) ++ (Frm.scan (bs.drop (k + (Frm.front (bs.drop k)).2.1))).1, (k + (Frm.front (bs.drop k)).2.1) + (Frm.scan (bs.drop (k + (Frm.front (bs.drop k)).2.1))).2)) := (show _ = _ by
        rw [HE.out, Frm.scan_more hok, List.drop_drop]
        simp only [List.append_assoc, List.singleton_append, Nat.add_assoc])
      rw [HV.out] at HC
      generalize (Frm.front (bs.drop k)).1 = pl at *
      generalize (Frm.front (bs.drop k)).2.1 = z at *
      clear hok HV HE
      go_wp2_with fail
      refine HC.out.mono ?_
      unfold NextEnds
      rintro e w2 ⟨D2, c2, rfl, o2, b2⟩
      have HP2 := Lib.hid (HP.out.below b2)
      have hB2 := hB.trans (b2.mono hB.size)
      have HO2 := Lib.hid (o2.mono hB.size)
      obtain ⟨qs, hq1, hq2, hq3⟩ := HP2.out
      have HQ1 := Lib.hid hq1
      have HX := Lib.hid (hq2.alloc (.cells #[.slice D2 pl.length c2] 26))
      have HQ3 := Lib.hid hq3
      have hB2s := hB2.size
      have HSR : Hid (Src Tryd.prog 1 39 (.slice (some ⟨w2.heap.size, 0, none⟩) 1 1) 1 [Value.slice D2 pl.length c2] (w2.alloc (.cells #[.slice D2 pl.length c2] 26))) :=
        Lib.hid (srcSl Tryd.underlying39 rfl (Sl.new rfl rfl) (by intro u hu; rw [List.mem_singleton.1 hu]; rfl))
      clear HC HP HP2 hB o2 b2 hq1 hq2 hq3
      go_wp2_with (at_builtin; refine wpList_append_ownK (o := ⟨some 23, _, _, _, _, _⟩) rfl (.tmp 20) (.tmp 22) 39 39 rfl 26 i0 (.slice none 0 0) 1 24 Tryd.underlying39 hi hz0 hz1 hz2 rfl w.heap.size D m cD (qs.map Part.cell) rfl HX.out (.slice (some ⟨w2.heap.size, 0, none⟩) 1 1) rfl 1 [Value.slice D2 pl.length c2] HSR.out (by omega) (by omega) w (hB2.alloc hB2s _) (by simp; omega) ?_)
      intro w3 D3 c3 HO3 HK3 hb3 hsz3
      have HP3 : Hid (PL w3 w.heap.size D3 (m + 1) c3 (ps ++ [pl])) := (show PL _ _ _ _ _ _ from ⟨qs ++ [⟨D2, c2, pl⟩], by rw [List.map_append, HQ1.out]; rfl, by rw [List.map_append]; exact HO3.out, fun q hq => by
        rcases List.mem_append.1 hq with h | h
        · exact HK3.out.own_ne HX.out ((HQ3.out q h).alloc _) (by decide)
        · obtain rfl := List.mem_singleton.1 h
          exact HK3.out.own_ne HX.out (HO2.out.alloc _) (by decide)⟩)
      clear HO3 HK3 HX HSR HQ1 HQ3 HO2 hsz3 hB2 hB2s
      go_wp2_with fail
      go_roundw
      case rel => exact ⟨D3, m + 1, c3, k + z, ps ++ [pl], rfl, by go_num, by omega, by omega, HP3, HS, hb3⟩
      case measure => simp [intOf]; omega
    · have HFin : Hid (Frm.scan bs = (ps, k)) := (show _ = _ by rw [HE.out, Frm.scan_stop hok]; simp)
      have hne : (((Frm.front (bs.drop k)).2.2 : Int) != 0) = true := by rw [bne_iff_ne]; omega
      have HV : Hid (∃ x y, nextF bs k = (x, y, (Frm.front (bs.drop k)).2.2)) := (show ∃ _ _, _ from ⟨_, _, rfl⟩)
      obtain ⟨x, y, hxy⟩ := HV.out
      rw [hxy] at HC
      generalize (Frm.front (bs.drop k)).2.2 = er at *
      clear hok HE HV hxy
      go_wp2_with fail
      refine HC.out.mono ?_
      unfold NextEnds
      rintro e w2 ⟨D2, c2, rfl, o2, b2⟩
      have HEnd : Hid (ScanEnds w bs (.returned (.tuple #[.slice D m cD, .int .i64 (k : Int)])) w2) := (show ScanEnds _ _ _ _ from ⟨D, m, cD, by rw [HFin.out], by rw [HFin.out]; exact HP.out.below b2, hB.trans (b2.mono hB.size)⟩)
      clear HP o2 b2 hB HC
      go_wp2_with fail
      go_ret2
      exact HEnd.out
end Go.Proofs.YtenhbjcamkbffaaDoor
