/-
  FrameBack, its walk.
-/
import Derived.Test.YtenhbjcamkbffaaDoorFrameRuns
import Derived.Test.YtenhbjcamkbffaaDoorFrameLists
import Derived.Test.YtenhbjcamkbffaaDoorWithin
namespace Go.Frm
/-- frames one behind the other -/
def fl (ls : List (List UInt8)) : List UInt8 := (ls.map frm).flatten
def ends (ls : List (List UInt8)) : List Nat := (List.range ls.length).map fun j => (fl (ls.take (j + 1))).length
theorem fl_snoc (ls : List (List UInt8)) (l : List UInt8) : fl (ls ++ [l]) = fl ls ++ frm l := by simp [fl]
theorem fl_app (xs ys : List (List UInt8)) : fl (xs ++ ys) = fl xs ++ fl ys := by simp [fl]
theorem fl_cons (l : List UInt8) (ls : List (List UInt8)) : fl (l :: ls) = frm l ++ fl ls := by simp [fl]
theorem ends_length (ls : List (List UInt8)) : (ends ls).length = ls.length := by simp [ends]
theorem ends_snoc (ls : List (List UInt8)) (l : List UInt8) : ends (ls ++ [l]) = ends ls ++ [(fl (ls ++ [l])).length] := by
  unfold ends
  rw [List.length_append, List.length_singleton, List.range_succ, List.map_append]
  congr 1
  · refine List.map_congr_left fun j hj => ?_
    rw [List.take_append_of_le_length (by have := List.mem_range.1 hj; omega)]
  · simp [List.take_of_length_le]
theorem ends_at {ls : List (List UInt8)} {j : Nat} (hj : j < ls.length) : (ends ls)[j]? = some (fl (ls.take (j + 1))).length := by
  unfold ends
  rw [List.getElem?_map, List.getElem?_range hj]; rfl
theorem scan_at {ls : List (List UInt8)} {n k : Nat} (hv : ∀ l ∈ ls, ¬ (l.length = 0 ∨ 262144 < l.length)) (hn : n ≤ ls.length) (h1 : (fl (ls.take n)).length ≤ k) (h2 : n < ls.length → k < (fl (ls.take (n + 1))).length) : scan ((fl ls).take k) = (ls.take n, (fl (ls.take n)).length) := by
  have e1 : fl ls = fl (ls.take n) ++ fl (ls.drop n) := by
    rw [← fl_app, List.take_append_drop]
  have e2 : (fl ls).take k = fl (ls.take n) ++ (fl (ls.drop n)).take (k - (fl (ls.take n)).length) := by
    rw [e1, List.take_append, List.take_of_length_le h1]
  rw [e2]
  refine scan_frms (ls.take n) _ (fun l hl => hv l (List.mem_of_mem_take hl)) ?_
  by_cases hlt : n < ls.length
  · have hc := h2 hlt
    have hx := hv _ (List.getElem_mem hlt)
    rw [List.take_succ_eq_append_getElem hlt, fl_snoc, List.length_append, frm_length hx] at hc
    have e3 : ls.drop n = ls[n] :: ls.drop (n + 1) := List.drop_eq_getElem_cons hlt
    have e4 : fl (ls.drop n) = frm ls[n] ++ fl (ls.drop (n + 1)) := by rw [e3, fl_cons]
    rw [e4, List.take_append_of_le_length (by rw [frm_length hx]; omega), front_frm_cut hx _ (by omega)]
    decide
  · have e3 : ls.drop n = [] := List.drop_eq_nil_of_le (by omega)
    have e4 : (fl (ls.drop n)).take (k - (fl (ls.take n)).length) = [] := by rw [e3]; simp [fl]
    rw [e4]
    exact front_nil
end Go.Frm
namespace Go.Proofs.YtenhbjcamkbffaaDoor
open Go.RowKit Go.Mem

theorem infoI8 : (Tryd.prog.info? 3).map (fun i => (i.zero, i.size, i.bytes)) = some (some (.int .i64 0), 1, 8) := by kernel_rfl
def I8 (n : Nat) : Value := .int .i64 (n : Int)

set_option maxRecDepth 100000 in
set_option maxHeartbeats 6400000 in
theorem frameBack_calls (A : Option Addr) (n c : Nat) (ps : List Part) (a : Int) (w : World) (hT : Tabs w) (hl : ps.length = n) (_hn : n ≤ 9223372036854775807) (hs : Sl w A (ps.map Part.cell)) (hp : ∀ p ∈ ps, p.bs.length ≤ 9223372036854775807 ∧ Sl w p.A (p.bs.map B8)) (ha : -9223372036854775808 ≤ a ∧ a ≤ 9223372036854775807) :
    Calls Tryd.prog 10 #[.slice A n c, .int .i64 a] w fun e w' => e = .returned (.bool true) ∧ Below w.heap.size w w' := by
  obtain ⟨iI, hiI, hzI0, hzI1, hzI2⟩ := info_parts infoI8
  obtain ⟨iS, hiS, hzS0, hzS1, hzS2⟩ := info_parts infoS
  have HT := Lib.hid hT
  have HS := Lib.hid hs
  have HP := Lib.hid hp
  have HL := Lib.hid hl
  clear hT hs hp hl
  go_enter Tryd.func10, Tryd.ntmps10
  go_wp2_with fail
  go_loopw [5, 6, 7, 8, 9] (fun s5 s6 s7 s8 _ wr => ∃ (D5 : Option Addr) (N c5 : Nat) (D6 : Option Addr) (c6 : Nat) (D7 : Option Addr) (c7 m i : Nat) (qs : List Part), s5 = .slice D5 N c5 ∧ s6 = .slice D6 m c6 ∧ s7 = .slice D7 m c7 ∧ s8 = .int .i64 i ∧ i ≤ n ∧ i ≤ 20 ∧ m ≤ i ∧ N ≤ i * 262152 ∧
    Hid (OwnB wr w.heap.size 5 1 D5 N c5 ((Frm.fl (qs.map Part.bs)).map B8)) ∧ Hid (OwnB wr w.heap.size 3 1 D6 m c6 ((Frm.ends (qs.map Part.bs)).map I8)) ∧ Hid (OwnB wr w.heap.size 26 1 D7 m c7 (qs.map Part.cell)) ∧
    Hid (∀ q ∈ qs, ¬ (q.bs.length = 0 ∨ 262144 < q.bs.length) ∧ Sl w q.A (q.bs.map B8)) ∧ Below w.heap.size w wr) (fun _ _ _ i _ _ => n - (intOf i).toNat)
  case atStart => exact ⟨none, 0, 0, none, 0, none, 0, 0, 0, [], rfl, rfl, rfl, rfl, Nat.zero_le _, Nat.zero_le _, Nat.le_refl _, Nat.zero_le _, (show OwnB _ _ _ _ _ _ _ _ from OwnB.nil _ _ _ _), (show OwnB _ _ _ _ _ _ _ _ from OwnB.nil _ _ _ _), (show OwnB _ _ _ _ _ _ _ _ from OwnB.nil _ _ _ _), (show ∀ _ ∈ _, _ from fun q hq => by cases hq), Below.refl _ _⟩
  case round =>
    obtain ⟨D5, N, c5, D6, c6, D7, c7, m, i, qs, rfl, rfl, rfl, rfl, hin, hi20, hmi, hNi, HO5, HO6, HO7, HV, hB⟩ := hrel
    by_cases hgo : i < n ∧ i < 20
    · obtain ⟨hlt, hl20⟩ := hgo
      have k1 : (i : Int) < (n : Int) := by omega
      have k2 : (i : Int) < 20 := by omega
      have k0 : (0 : Int) ≤ (i : Int) := by omega
      have hx : i < ps.length := by rw [HL.out]; exact hlt
      obtain ⟨b, o, rfl, h0⟩ := HS.out.at_ (k := i) (by rw [List.length_map]; exact hx)
      have hq := HP.out _ (List.getElem_mem hx)
      rw [List.getElem_map] at h0
      generalize ps[i] = q at h0 hq
      obtain ⟨A1, z1, l⟩ := q
      simp only [Part.cell] at h0
      obtain ⟨hql, hqs⟩ := hq
      simp only at hql hqs
      have x1 := keep_below hB h0
      have hN5 : (Frm.fl (qs.map Part.bs)).length = N := by have := HO5.out.len; rw [List.length_map] at this; omega
      have HPut := Lib.hid (put_calls D5 A1 N l.length c5 z1 (Frm.fl (qs.map Part.bs)) l wr (HT.out.below hB) hN5 (by omega) HO5.out.sl rfl (by omega) (hqs.below hB))
      have H0 := Lib.hid h0
      have HQS := Lib.hid hqs
      by_cases hbad : l.length = 0 ∨ 262144 < l.length
      · rw [Frm.frm_no hbad, List.append_nil, hN5] at HPut
        have r1 : i + 1 ≤ n := by omega
        have r2 : i + 1 ≤ 20 := by omega
        have r3 : m ≤ i + 1 := by omega
        have r4 : N ≤ (i + 1) * 262152 := Nat.le_trans hNi (Nat.mul_le_mul_right _ (Nat.le_succ i))
        have R4 := Lib.hid r4
        clear r4 hN5 hbad h0 hqs HO5
        go_wp2_with fail
        refine HPut.out.mono ?_
        unfold AppEnds
        rintro e w2 ⟨D2, c2, rfl, o2, b2⟩
        have hB2 := hB.trans (b2.mono hB.size)
        have HN5 := Lib.hid (o2.mono hB.size)
        have HN6 := Lib.hid (HO6.out.below b2)
        have HN7 := Lib.hid (HO7.out.below b2)
        clear o2 b2 HO6 HO7 x1 hB HPut
        go_wp2_with fail
        go_roundw
        case rel => exact ⟨D2, N, c2, D6, c6, D7, c7, m, i + 1, qs, rfl, rfl, rfl, by go_num, r1, r2, r3, R4.out, HN5, HN6, HN7, HV, hB2⟩
        case measure => simp [intOf]; omega
      · have hok : 0 < l.length ∧ l.length ≤ 262144 := by omega
        have HNL : Hid ((Frm.fl (qs.map Part.bs) ++ Frm.frm l).length = N + 8 + l.length) := (show _ = _ by rw [List.length_append, Frm.frm_length hbad, hN5]; omega)
        rw [HNL.out] at HPut
        obtain ⟨Z, hZ⟩ : ∃ Z, N + 8 + l.length = Z := ⟨_, rfl⟩
        rw [hZ] at HPut HNL
        have hZ1 : N + 8 ≤ Z := by omega
        have hZ2 : Z ≤ N + 8 + l.length := by omega
        have HV2 : Hid (∀ q ∈ qs ++ [(⟨A1, z1, l⟩ : Part)], ¬ (q.bs.length = 0 ∨ 262144 < q.bs.length) ∧ Sl w q.A (q.bs.map B8)) := (show ∀ _ ∈ _, _ from fun q hq => by
          rcases List.mem_append.1 hq with h | h
          · exact HV.out q h
          · obtain rfl := List.mem_singleton.1 h
            exact ⟨hbad, HQS.out⟩)
        have HMB : Hid ((qs ++ [(⟨A1, z1, l⟩ : Part)]).map Part.bs = qs.map Part.bs ++ [l]) := (show _ = _ by simp)
        have HMC : Hid ((qs ++ [(⟨A1, z1, l⟩ : Part)]).map Part.cell = qs.map Part.cell ++ [.slice A1 l.length z1]) := (show _ = _ by simp [Part.cell])
        clear hN5 hbad h0 hqs HO5 hZ
        go_wp2_with fail
        refine HPut.out.mono ?_
        unfold AppEnds
        rintro e w2 ⟨D2, c2, rfl, o2, b2⟩
        have hB2 := hB.trans (b2.mono hB.size)
        have hB2s := hB2.size
        have HX6 := Lib.hid ((HO6.out.below b2).alloc (.cells #[.int .i64 (Z : Int)] 3))
        have HX5 := Lib.hid ((o2.mono hB.size).alloc (.cells #[.int .i64 (Z : Int)] 3))
        have HX7 := Lib.hid ((HO7.out.below b2).alloc (.cells #[.int .i64 (Z : Int)] 3))
        have HSR : Hid (Src Tryd.prog 1 47 (.slice (some ⟨w2.heap.size, 0, none⟩) 1 1) 1 [Value.int .i64 (Z : Int)] (w2.alloc (.cells #[.int .i64 (Z : Int)] 3))) :=
          Lib.hid (srcSl Tryd.underlying47 rfl (Sl.new rfl rfl) (by intro u hu; rw [List.mem_singleton.1 hu]; rfl))
        have g1 : (N : Int) < (Z : Int) := by omega
        clear o2 b2 HO6 HO7 x1 hB HPut
        go_wp2_with (at_builtin; refine wpList_append_ownK (o := ⟨some 41, _, _, _, _, _⟩) rfl (.tmp 37) (.tmp 40) 47 47 rfl 3 iI (.int .i64 0) 1 8 Tryd.underlying47 hiI hzI0 hzI1 hzI2 rfl w.heap.size D6 m c6 _ rfl HX6.out (.slice (some ⟨w2.heap.size, 0, none⟩) 1 1) rfl 1 [Value.int .i64 (Z : Int)] HSR.out (by omega) (by omega) w (hB2.alloc hB2s _) (by simp; omega) ?_)
        intro w3 D6' c6' HO6' HK3 hb3 hsz3
        have HY6 : Hid (OwnB w3 w.heap.size 3 1 D6' (m + 1) c6' ((Frm.ends (qs.map Part.bs ++ [l])).map I8)) := (show OwnB _ _ _ _ _ _ _ _ by rw [Frm.ends_snoc, List.map_append, Frm.fl_snoc, HNL.out]; exact HO6'.out)
        have HY5 : Hid (OwnB w3 w.heap.size 5 1 D2 Z c2 ((Frm.fl (qs.map Part.bs ++ [l])).map B8)) := (show OwnB _ _ _ _ _ _ _ _ by rw [Frm.fl_snoc]; exact HK3.out.own_ne HX6.out HX5.out (by decide))
        have HY7 := Lib.hid (HK3.out.own_ne HX6.out HX7.out (by decide))
        have x3 := keep_below hb3 H0.out
        have hb3s := hb3.size
        clear HO6' HK3 HX5 HX6 HX7 HSR hB2 hB2s hsz3
        have HX6 := Lib.hid (HY6.out.alloc (.cells #[.slice A1 l.length z1] 26))
        have HX5 := Lib.hid (HY5.out.alloc (.cells #[.slice A1 l.length z1] 26))
        have HX7 := Lib.hid (HY7.out.alloc (.cells #[.slice A1 l.length z1] 26))
        have HSR : Hid (Src Tryd.prog 1 39 (.slice (some ⟨w3.heap.size, 0, none⟩) 1 1) 1 [Value.slice A1 l.length z1] (w3.alloc (.cells #[.slice A1 l.length z1] 26))) :=
          Lib.hid (srcSl Tryd.underlying39 rfl (Sl.new rfl rfl) (by intro u hu; rw [List.mem_singleton.1 hu]; rfl))
        clear HY5 HY6 HY7
        go_wp2_with (at_builtin; refine wpList_append_ownK (o := ⟨some 48, _, _, _, _, _⟩) rfl (.tmp 42) (.tmp 47) 39 39 rfl 26 iS (.slice none 0 0) 1 24 Tryd.underlying39 hiS hzS0 hzS1 hzS2 rfl w.heap.size D7 m c7 _ rfl HX7.out (.slice (some ⟨w3.heap.size, 0, none⟩) 1 1) rfl 1 [Value.slice A1 l.length z1] HSR.out (by omega) (by omega) w (hb3.alloc hb3s _) (by simp; omega) ?_)
        intro w4 D7' c7' HO7' HK4 hb4 hsz4
        have HZ6 : Hid (OwnB w4 w.heap.size 3 1 D6' (m + 1) c6' ((Frm.ends ((qs ++ [(⟨A1, z1, l⟩ : Part)]).map Part.bs)).map I8)) := (show OwnB _ _ _ _ _ _ _ _ by rw [HMB.out]; exact HK4.out.own_ne HX7.out HX6.out (by decide))
        have HZ5 : Hid (OwnB w4 w.heap.size 5 1 D2 Z c2 ((Frm.fl ((qs ++ [(⟨A1, z1, l⟩ : Part)]).map Part.bs)).map B8)) := (show OwnB _ _ _ _ _ _ _ _ by rw [HMB.out]; exact HK4.out.own_ne HX7.out HX5.out (by decide))
        have HZ7 : Hid (OwnB w4 w.heap.size 26 1 D7' (m + 1) c7' ((qs ++ [(⟨A1, z1, l⟩ : Part)]).map Part.cell)) := (show OwnB _ _ _ _ _ _ _ _ by rw [HMC.out]; exact HO7'.out)
        clear HO7' HK4 HX5 HX6 HX7 HSR hb3 hb3s hsz4 x3 HMB HMC HNL
        go_wp2_with fail
        go_roundw
        case rel => exact ⟨D2, Z, c2, D6', c6', D7', c7', m + 1, i + 1, qs ++ [(⟨A1, z1, l⟩ : Part)], rfl, rfl, rfl, by go_num, by omega, by omega, by omega, by omega, HZ5, HZ6, HZ7, HV2, hb4⟩
        case measure => simp [intOf]; omega
    · have hN5 : (Frm.fl (qs.map Part.bs)).length = N := by have := HO5.out.len; rw [List.length_map] at this; omega
      have hm7 : qs.length = m := by have := HO7.out.len; rw [List.length_map] at this; omega
      have hNb : N ≤ 5243040 := Nat.le_trans hNi (Nat.mul_le_mul_right _ hi20)
      have HSCAN : Hid (∀ j k, j ≤ m → (Frm.fl ((qs.map Part.bs).take j)).length ≤ k → (j < m → k < (Frm.fl ((qs.map Part.bs).take (j + 1))).length) → Frm.scan ((Frm.fl (qs.map Part.bs)).take k) = ((qs.map Part.bs).take j, (Frm.fl ((qs.map Part.bs).take j)).length)) := (show ∀ _ _, _ from fun j k h1 h2 h3 =>
        Frm.scan_at (fun l hl => by obtain ⟨q, hq, rfl⟩ := List.mem_map.1 hl; exact (HV.out q hq).1) (by rw [List.length_map]; omega) h2 (fun h => h3 (by rw [List.length_map] at h; omega)))
      have HEND : Hid (∀ j, j < m → ((Frm.ends (qs.map Part.bs)).map I8)[j]? = some (.int .i64 ((Frm.fl ((qs.map Part.bs).take (j + 1))).length : Int))) := (show ∀ _, _ from fun j h => by
        rw [List.getElem?_map, Frm.ends_at (by rw [List.length_map]; omega)]; rfl)
      have HM7 := Lib.hid hm7
      have HF0 : Hid ((Frm.fl ((qs.map Part.bs).take 0)).length = 0) := (show _ = _ from rfl)
      have HFLK : Hid (∀ k, k ≤ N → ((Frm.fl (qs.map Part.bs)).take k).length = k) := (show ∀ _, _ from fun k h => by rw [List.length_take, hN5]; omega)
      have HTQ : Hid (∀ (qs9 : List Part) (j : Nat), qs9.map Part.bs = (qs.map Part.bs).take j → qs9.map Part.bs = (qs.take j).map Part.bs ∧ ∀ p ∈ qs9, p.bs.length ≤ 9223372036854775807) := (show ∀ _ _, _ from fun qs9 j h => ⟨by rw [h, List.map_take], fun p hp => by
        have h2 : p.bs ∈ (qs.map Part.bs).take j := by rw [← h]; exact List.mem_map.2 ⟨p, hp, rfl⟩
        obtain ⟨q, hq, he⟩ := List.mem_map.1 (List.mem_of_mem_take h2)
        have := (HV.out q hq).1
        rw [← he]; omega⟩)
      have hc5 := HO5.out.le
      have hc7 := HO7.out.le
      have hms : m ≤ 20 := by omega
      have HI := Lib.hid hNi
      rcases (show ¬ (i : Int) < (n : Int) ∨ ((i : Int) < (n : Int) ∧ ¬ (i : Int) < 20) by omega) with k1 | ⟨k1, k2⟩
      all_goals
        clear hgo hN5 hm7 hNi hmi hin hi20
        go_wp2_with fail
        refine (within_calls a 0 (N : Int) wr (by omega) (by omega) (by omega) ha).mono ?_
        rintro e w3 ⟨rfl, rfl⟩
        have hw1 := within_ge a 0 (N : Int) (by omega)
        have hw2 := within_le a 0 (N : Int) (by omega)
        obtain ⟨k, hk⟩ := Int.eq_ofNat_of_zero_le hw1
        rw [hk] at hw2 ⊢
        have hkN : k ≤ N := by omega
        clear hk hw1 hw2
        go_wp2_with fail
        go_loopw [11] (fun s wx => ∃ (j : Nat), s = .int .i64 j ∧ j ≤ m ∧ Hid ((Frm.fl ((qs.map Part.bs).take j)).length ≤ k) ∧ wx = wr) (fun s _ => m - (intOf s).toNat)
        case atStart => exact ⟨0, rfl, Nat.zero_le _, (show _ ≤ _ by rw [HF0.out]; exact Nat.zero_le _), rfl⟩
        case round =>
          obtain ⟨j, rfl, hjm, HJ, rfl⟩ := hrel
          have j0 : (0 : Int) ≤ (j : Int) := by omega
          by_cases hgo : j < m ∧ (Frm.fl ((qs.map Part.bs).take (j + 1))).length ≤ k
          · obtain ⟨hjl, hE⟩ := hgo
            obtain ⟨b6, o6, rfl, h6⟩ := HO6.out.sl j _ (HEND.out j hjl)
            have HJ2 : Hid ((Frm.fl ((qs.map Part.bs).take (j + 1))).length ≤ k) := (show _ ≤ _ from hE)
            generalize (Frm.fl ((qs.map Part.bs).take (j + 1))).length = E at h6 hE
            have j1 : (j : Int) < (m : Int) := by omega
            have j2 : (E : Int) ≤ (k : Int) := by omega
            clear hE
            go_wp2_with fail
            go_roundw
            case rel => exact ⟨j + 1, by go_num, by omega, HJ2, (by first | rfl | trivial)⟩
            case measure => simp [intOf]; omega
          · have hSC := HSCAN.out j k hjm HJ.out (by omega)
            have HSCALL := Lib.hid (scan_calls D5 k c5 ((Frm.fl (qs.map Part.bs)).take k) wr (HT.out.below hB) (HFLK.out k hkN) (by omega) (by omega) (by rw [List.map_take]; exact HO5.out.sl.take k))
            unfold ScanEnds at HSCALL
            rw [hSC] at HSCALL
            have HF : Hid (j = 0 → (Frm.fl ((qs.map Part.bs).take j)).length = 0) := (show _ → _ from fun h => by rw [h]; exact HF0.out)
            have HFE : Hid (∀ j', j = j' + 1 → ((Frm.ends (qs.map Part.bs)).map I8)[j']? = some (.int .i64 ((Frm.fl ((qs.map Part.bs).take j)).length : Int))) := (show ∀ _, _ from fun j' h => by
              have := HEND.out j' (by omega)
              rw [h]; exact this)
            clear hSC
            rcases (show (¬ j < m) ∨ (j < m ∧ ¬ (Frm.fl ((qs.map Part.bs).take (j + 1))).length ≤ k) by omega) with k8 | ⟨k8, k9⟩
            · have j1 : ¬ (j : Int) < (m : Int) := by omega
              clear hgo
              go_wp2_with fail
              refine HSCALL.out.mono ?_
              rintro e w4 ⟨D9, m9, c9, rfl, p9, b9⟩
              have B4 := hB.trans (b9.mono hB.size)
              obtain ⟨qs9, hq1, hq2, hq3⟩ := p9
              have hj9 : qs9.length = j := by
                have h1 := congrArg List.length hq1
                have h2 := HM7.out
                rw [List.length_map, List.length_take, List.length_map] at h1
                omega
              obtain rfl : m9 = j := by have h1 := hq2.len; rw [List.length_map] at h1; omega
              obtain ⟨hbs, hln⟩ := HTQ.out qs9 m9 hq1
              have HLI := Lib.hid (lists_true D9 D7 m9 c9 c7 qs9 (qs.take m9) w4 hj9 (by rw [List.length_take, HM7.out]; omega) (by omega) hbs hq2.sl (by rw [List.map_take]; exact (HO7.out.below b9).sl.take m9) (fun p hp => (hq3 p hp).sl) (fun p hp => ((HV.out p (List.mem_of_mem_take hp)).2).below B4) hln)
              generalize (Frm.fl ((qs.map Part.bs).take m9)).length = F at *
              have HB9 := Lib.hid b9
              clear hq1 hq2 hq3 hbs hln HSCALL hj9 b9
              by_cases hj : m9 = 0
              · obtain rfl : F = 0 := HF.out hj
                subst hj
                have n1 : ¬ (0 : Int) < ((0 : Nat) : Int) := by omega
                have n2 : ((0 : Nat) : Int) ≤ (c7 : Int) := by omega
                go_wp2_with fail
                refine HLI.out.mono ?_
                rintro e w5 ⟨rfl, q5, rfl⟩
                go_wp2_with fail
                refine (frameRuns_calls _ (HT.out.below (below_drewN B4 q5))).mono ?_
                rintro e w6 ⟨rfl, b6⟩
                go_wp2_with fail
                go_ret
                exact ⟨rfl, (below_drewN B4 q5).trans (b6.mono B4.size)⟩
              · obtain ⟨j', hj'⟩ : ∃ j', m9 = j' + 1 := ⟨m9 - 1, by omega⟩
                obtain ⟨b7, o7, hD6, h7⟩ := HO6.out.sl j' _ (HFE.out j' hj')
                cases hD6
                have x7 := keep_below HB9.out h7
                have n1 : (0 : Int) < (m9 : Int) := by omega
                have n2 : (m9 : Int) ≤ (c7 : Int) := by omega
                have n4 : (0 : Int) ≤ (j' : Int) := by omega
                have n5 : (j' : Int) < (m : Int) := by omega
                have n6 : (m9 : Int) - 1 = (j' : Int) := by omega
                clear h7 hj' hj
                go_wp2_with fail
                refine HLI.out.mono ?_
                rintro e w5 ⟨rfl, q5, rfl⟩
                go_wp2_with fail
                refine (frameRuns_calls _ (HT.out.below (below_drewN B4 q5))).mono ?_
                rintro e w6 ⟨rfl, b6⟩
                go_wp2_with fail
                go_ret
                exact ⟨rfl, (below_drewN B4 q5).trans (b6.mono B4.size)⟩
            · obtain ⟨b6, o6, rfl, h6⟩ := HO6.out.sl j _ (HEND.out j k8)
              clear hgo
              generalize (Frm.fl ((qs.map Part.bs).take (j + 1))).length = E at h6 k9
              have j1 : (j : Int) < (m : Int) := by omega
              have j2 : ¬ (E : Int) ≤ (k : Int) := by omega
              clear k9
              go_wp2_with fail
              refine HSCALL.out.mono ?_
              rintro e w4 ⟨D9, m9, c9, rfl, p9, b9⟩
              have B4 := hB.trans (b9.mono hB.size)
              obtain ⟨qs9, hq1, hq2, hq3⟩ := p9
              have hj9 : qs9.length = j := by
                have h1 := congrArg List.length hq1
                have h2 := HM7.out
                rw [List.length_map, List.length_take, List.length_map] at h1
                omega
              obtain rfl : m9 = j := by have h1 := hq2.len; rw [List.length_map] at h1; omega
              obtain ⟨hbs, hln⟩ := HTQ.out qs9 m9 hq1
              have HLI := Lib.hid (lists_true D9 D7 m9 c9 c7 qs9 (qs.take m9) w4 hj9 (by rw [List.length_take, HM7.out]; omega) (by omega) hbs hq2.sl (by rw [List.map_take]; exact (HO7.out.below b9).sl.take m9) (fun p hp => (hq3 p hp).sl) (fun p hp => ((HV.out p (List.mem_of_mem_take hp)).2).below B4) hln)
              generalize (Frm.fl ((qs.map Part.bs).take m9)).length = F at *
              have HB9 := Lib.hid b9
              clear hq1 hq2 hq3 hbs hln HSCALL hj9 b9
              by_cases hj : m9 = 0
              · obtain rfl : F = 0 := HF.out hj
                subst hj
                have n1 : ¬ (0 : Int) < ((0 : Nat) : Int) := by omega
                have n2 : ((0 : Nat) : Int) ≤ (c7 : Int) := by omega
                go_wp2_with fail
                refine HLI.out.mono ?_
                rintro e w5 ⟨rfl, q5, rfl⟩
                go_wp2_with fail
                refine (frameRuns_calls _ (HT.out.below (below_drewN B4 q5))).mono ?_
                rintro e w6 ⟨rfl, b6⟩
                go_wp2_with fail
                go_ret
                exact ⟨rfl, (below_drewN B4 q5).trans (b6.mono B4.size)⟩
              · obtain ⟨j', hj'⟩ : ∃ j', m9 = j' + 1 := ⟨m9 - 1, by omega⟩
                obtain ⟨b7, o7, hD6, h7⟩ := HO6.out.sl j' _ (HFE.out j' hj')
                cases hD6
                have x7 := keep_below HB9.out h7
                have n1 : (0 : Int) < (m9 : Int) := by omega
                have n2 : (m9 : Int) ≤ (c7 : Int) := by omega
                have n4 : (0 : Int) ≤ (j' : Int) := by omega
                have n5 : (j' : Int) < (m : Int) := by omega
                have n6 : (m9 : Int) - 1 = (j' : Int) := by omega
                clear h7 hj' hj
                go_wp2_with fail
                refine HLI.out.mono ?_
                rintro e w5 ⟨rfl, q5, rfl⟩
                go_wp2_with fail
                refine (frameRuns_calls _ (HT.out.below (below_drewN B4 q5))).mono ?_
                rintro e w6 ⟨rfl, b6⟩
                go_wp2_with fail
                go_ret
                exact ⟨rfl, (below_drewN B4 q5).trans (b6.mono B4.size)⟩
end Go.Proofs.YtenhbjcamkbffaaDoor
