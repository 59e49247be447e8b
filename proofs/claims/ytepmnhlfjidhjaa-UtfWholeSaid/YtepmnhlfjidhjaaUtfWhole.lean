/-
  UtfWhole, its walk.
-/
import Derived.Test.YtepmnhlfjidhjaaUtfTwo
import Derived.Test.YtepmnhlfjidhjaaUtfRun
import Derived.Deep.DeepCutAuto
namespace Go.Proofs.Ytepmnhlfjidhjaa
open Go.RowKit Go.Mem

theorem flatG_one (l : List (Nat × Nat)) : ∀ u ∈ flatG l, u.oneCell' = true := by
  intro u hu
  obtain ⟨g, _, hg⟩ := List.mem_flatMap.1 hu
  rcases List.mem_cons.1 hg with rfl | hg
  · rfl
  · rw [List.mem_singleton.1 hg]; rfl
theorem srcG {w : World} {B n c : Nat} {D : Option Addr} {l : List (Nat × Nat)} (h : OwnB w B 26 2 D n c (flatG l)) (hl : l.length = n) : Src Try.prog 2 22 (.slice D n c) n (flatG l) w :=
  srcOfSl Try.underlying22 (by rw [flatG_length, hl]) (fun e => by have : l = [] := List.eq_nil_of_length_eq_zero (by rw [hl]; exact e); rw [this]; rfl) h.sl (fun e => by have h0 := h.sl.none_nil e; have h1 := flatG_length l; rw [h0] at h1; simp at h1; omega) (flatG_one _)
/-- what holds behind j bytes -/
structure WhU (w0 w : World) (p : Nat) (L : Option Addr) (n c : Nat) (D : Option Addr) (m cD k j : Nat) (ds h : List UInt8) (T : List (Nat × Nat)) : Prop where
  d : Dec w w0.heap.size p L n c h
  own : OwnB w w0.heap.size 26 2 D m cD (flatG T)
  tl : T.length = m
  sz : szU T = k
  len : k + h.length = j
  held : h = (ds.take j).drop k
  all : allU ds = T ++ allU (h ++ ds.drop j)
  le : m ≤ k
  st : h = [] ∨ startU h = 0
  bel : Below w0.heap.size w0 w

set_option maxRecDepth 100000 in
set_option maxHeartbeats 6400000 in
theorem utfWhole_calls (A : Option Addr) (n cap : Nat) (bs : List UInt8) (w : World) (hl : bs.length = n) (hn : n ≤ 140737488355328) (hc : n ≤ cap) (hcm : cap ≤ 140737488355328) (hs : Sl w A (bs.map B8)) :
    Calls Try.prog 4 #[.slice A n cap] w fun e w' => e = .returned (.bool true) ∧ Below w.heap.size w w' := by
  subst hl
  obtain ⟨j0, hj, hy0, hy1, hy2⟩ := info_parts infoGot
  have HS := Lib.hid hs
  clear hs
  go_enter Try.func4, Try.ntmps4
  go_upto_if 12 with fail
  go_cut [0] (fun s0 wx => ∃ (N : Nat) (ds : List UInt8), s0 = .slice A N cap ∧ N ≤ 500 ∧ N ≤ cap ∧ Hid (ds.length = N) ∧ Hid (Sl wx A (ds.map B8)) ∧ wx = w)
  case first =>
    by_cases h3 : 500 < bs.length
    · have h500 : (500 : Int) ≤ (cap : Int) := by omega
      go_wp2_with fail
      go_meet
      exact ⟨500, bs.take 500, rfl, by omega, by omega, (show _ = _ by rw [List.length_take]; omega), (show Sl _ _ _ by rw [List.map_take]; exact HS.out.take 500), rfl⟩
    · go_wp2_with fail
      go_meet
      exact ⟨bs.length, bs, rfl, by omega, hc, (show _ = _ from rfl), HS, rfl⟩
  case rest =>
    obtain ⟨N, ds, rfl, hN, hNc, HN, HD, hw⟩ := hcut
    subst wc
    clear HS hn hc
    go_wp2_with fail
    refine (dnew_calls w).mono ?_
    unfold NewDec
    rintro e w1 ⟨p, rfl, d1, b1⟩
    have HT0 : Hid (WhU w w1 p none 0 0 none 0 0 0 0 ds [] []) := (show WhU _ _ _ _ _ _ _ _ _ _ _ _ _ _ from ⟨d1, OwnB.nil _ _ _ _, rfl, rfl, rfl, rfl, by simp, Nat.le_refl _, .inl rfl, b1⟩)
    clear d1 b1
    go_wp2_with fail
    go_loopw [4, 5, 6, 7, 8, 9] (fun l nn i _ _ _ wr => ∃ (L D : Option Addr) (n c m cD k j : Nat) (h : List UInt8) (T : List (Nat × Nat)), l = .slice D m cD ∧ nn = .int .i64 k ∧ i = .int .i64 j ∧ j ≤ N ∧ n ≤ 3 ∧ k ≤ j ∧ Hid (WhU w wr p L n c D m cD k j ds h T)) (fun _ _ i _ _ _ _ => N - (intOf i).toNat)
    case atStart => exact ⟨none, none, 0, 0, 0, 0, 0, 0, [], [], rfl, rfl, rfl, Nat.zero_le _, by omega, Nat.le_refl _, HT0⟩
    case round =>
      clear HT0
      obtain ⟨L, D, n, c, m, cD, k, j, h, T, rfl, rfl, rfl, hjN, hn3, hkj, HT⟩ := hrel
      have hmk := HT.out.le
      by_cases hlt : j < N
      · have hjl : j < ds.length := by rw [HN.out]; exact hlt
        obtain ⟨b, o, rfl, hca⟩ := (HD.out.below HT.out.bel).byte hjl
        have HSTEP : Hid (allU (h ++ ds.drop j) = (loopU (h ++ [ds[j]])).2 ++ allU ((loopU (h ++ [ds[j]])).1 ++ ds.drop (j + 1)) ∧ h ++ [ds[j]] = (ds.take (j + 1)).drop k) := (show _ ∧ _ from ⟨by rw [← allU_loop, List.append_assoc, List.singleton_append, ← List.drop_eq_getElem_cons hjl], by
          rw [List.take_succ_eq_append_getElem hjl, List.drop_append_of_le_length (by rw [List.length_take]; omega), ← HT.out.held]⟩)
        generalize ds[j] = x at hca HSTEP
        have hheld := loopU_held (h ++ [x])
        have hsz := loopU_size (h ++ [x])
        have hend := loopU_end (h ++ [x])
        have HC := Lib.hid (byteC w.heap.size p n c L h x _ rfl (loopU (h ++ [x])) rfl wr HT.out.d (by omega) HT.out.bel.size)
        generalize loopU (h ++ [x]) = R at HSTEP hheld hsz HC hend
        have i0 : (0 : Int) ≤ (j : Int) := Int.natCast_nonneg _
        have i1 : (j : Int) < (N : Int) := by omega
        have HSZ := Lib.hid hsz
        have HEND := Lib.hid hend
        clear hsz hend
        go_wp2_with fail
        refine HC.out.mono ?_
        unfold ByteEnds
        rintro e w2 ⟨L2, D2, n2, c2, m2, cD2, rfl, hm2, _, d2, o2, f2⟩
        have HD2 := Lib.hid d2
        have HO2 := Lib.hid o2
        have HO := Lib.hid (OwnB.dfr HT.out.own HT.out.d f2)
        have HM2 := Lib.hid hm2
        have hB2 := below_dfr HT.out.bel HT.out.d f2 HT.out.bel.size
        have hm24 : m2 ≤ 4 := by
          have h1 := HSZ.out
          have h2 := HT.out.d.len
          rw [List.length_append, List.length_singleton] at h1
          rw [hm2]; omega
        have hk2 : szU R.2 ≤ 4 := by
          have h1 := HSZ.out
          have h2 := HT.out.d.len
          rw [List.length_append, List.length_singleton] at h1
          omega
        clear hca d2 o2 f2 hm2
        go_wp2_with fail
        go_loopw [5, 8] (fun nn i wx => ∃ q : Nat, q ≤ m2 ∧ i = .int .i64 q ∧ nn = .int .i64 ((k + szU (R.2.take q) : Nat) : Int) ∧ wx = w2) (fun _ i _ => m2 - (intOf i).toNat)
        case atStart => exact ⟨0, Nat.zero_le _, rfl, rfl, rfl⟩
        case round =>
          obtain ⟨q, hq, rfl, rfl, hwx⟩ := hrel
          subst hwx
          by_cases hqm : q < m2
          · have hql : q < R.2.length := by rw [← HM2.out]; exact hqm
            have hr : R.2[q]? = some R.2[q] := List.getElem?_eq_getElem hql
            obtain ⟨b2, o2', rfl, k0, k1⟩ := Sl.got HO2.out.sl hr
            have HSS : Hid (szU (R.2.take (q + 1)) = szU (R.2.take q) + R.2[q].2) := (show _ = _ by rw [List.take_succ_eq_append_getElem hql, szU_app]; simp [szU])
            have hle : szU (R.2.take (q + 1)) ≤ szU R.2 := by
              conv => rhs; rw [← List.take_append_drop (q + 1) R.2, szU_app]
              omega
            generalize R.2[q] = g at k0 k1 HSS hr
            have hsum := HSS.out
            have i2 : (0 : Int) ≤ (q : Int) := Int.natCast_nonneg _
            have i3 : (q : Int) < (m2 : Int) := by omega
            have hg2 : g.2 ≤ 4 := by omega
            have hsl : szU (R.2.take q) ≤ 4 := by omega
            generalize szU (R.2.take q) = s1 at *
            clear hsum hr k0
            go_wp2_with fail
            go_roundw
            case rel => exact ⟨q + 1, by omega, by go_num, (by rw [HSS.out]; congr 1; omega), trivial⟩
            case measure => simp [intOf]; omega
          · obtain rfl : q = m2 := by omega
            have htq : R.2.take q = R.2 := List.take_of_length_le (by rw [HM2.out]; exact Nat.le_refl _)
            rw [htq]
            have HSTEPA := Lib.hid HSTEP.out.1
            have HSTEPB := Lib.hid HSTEP.out.2
            have HSRC := Lib.hid (srcG HO2.out HM2.out.symm)
            have hto : T.length = m := HT.out.tl
            clear htq HSTEP
            go_wp2_with (at_builtin; refine wpList_append_ownK (o := ⟨some 45, _, _, _, _, _⟩) rfl (.tmp 43) (.tmp 44) 22 22 rfl 26 j0 (.agg #[.int .i32 0, Value.int .i64 0]) 2 16 Try.underlying22 hj hy0 hy1 hy2 rfl w.heap.size D m cD (flatG T) rfl HO.out (.slice D2 q cD2) rfl q (flatG R.2) HSRC.out (by omega) (by omega) w hB2 hB2.size ?_)
            intro w3 D3 c3 HO3 HK3 hb3 hsz3
            have HO4 : Hid (OwnB w3 w.heap.size 26 2 D3 (m + q) c3 (flatG (T ++ R.2))) := (show OwnB _ _ _ _ _ _ _ _ by rw [flatG_app]; exact HO3.out)
            have HD3 := Lib.hid (HD2.out.kept HK3.out HO.out)
            have hn2 := HD2.out.len
            have hsz := HSZ.out
            have hhl := HT.out.len
            have hrl : R.2.length ≤ szU R.2 := hsz.2.2
            rw [List.length_append, List.length_singleton] at hsz
            have hkz : k + szU R.2 + n2 = j + 1 := by omega
            have HR1 : Hid (R.1 = (ds.take (j + 1)).drop (k + szU R.2)) := (show _ = _ by rw [hsz.2.1, HSTEPB.out, List.drop_drop])
            have HALL : Hid (allU ds = (T ++ R.2) ++ allU (R.1 ++ ds.drop (j + 1))) := (show _ = _ by rw [HT.out.all, HSTEPA.out, List.append_assoc])
            have HTL : Hid ((T ++ R.2).length = m + q) := (show _ = _ by rw [List.length_append, HT.out.tl, HM2.out])
            have HSU : Hid (szU (T ++ R.2) = k + szU R.2) := (show _ = _ by rw [szU_app, HT.out.sz])
            have hmq : m + q ≤ k + szU R.2 := by have := HM2.out; omega
            clear HO3 HK3 HO HO2 HD2 HT HSRC HSTEPA HSTEPB hsz hhl hsz3 hB2 hrl
            generalize szU R.2 = z at *
            have HN2 := Lib.hid hn2
            have hrl3 : R.1.length ≤ 3 := by omega
            have hkz2 : k + z + R.1.length = j + 1 := by omega
            have HKZ := Lib.hid hkz2
            have hkz1 : (k : Int) + (z : Int) + (R.1.length : Int) = (j : Int) + 1 := by omega
            have hb1 : (((k : Int) + (z : Int) + (R.1.length : Int)) != ((j : Int) + 1)) = false := by rw [hkz1]; simp
            have i5 : (k : Int) + (z : Int) ≤ (j : Int) + 1 := by omega
            have i6 : (j : Int) + 1 ≤ (cap : Int) := by omega
            have hsub : j + 1 - (k + z) = R.1.length := by omega
            have HSUB := Lib.hid hsub
            have hR0 : Hid (¬ k + z < cap → R.1 = []) := (show _ → _ from fun h => List.eq_nil_of_length_eq_zero (by omega))
            have HCU : Hid (k + z < cap → Sl w3 (some ⟨b, o + (k + z), none⟩) (R.1.map B8)) := (show _ → _ from fun h => by
              have h2 := ((HD.out.below hb3).take (j + 1)).cut (k := k + z) (cap := cap) (by rw [List.length_take, List.length_map, HN.out]; omega)
              rw [← List.map_take, ← List.map_drop, ← HR1.out, if_neg (by omega)] at h2
              simpa only [Option.map_some, Addr.add_lit] using h2)
            have hn23 : n2 ≤ 3 := by omega
            clear hn2 hkz hkz1 hsub hkz2
            by_cases hkc : k + z < cap
            all_goals
              first
                | (have hcut := Lib.hid (HCU.out hkc); have i4 : (k : Int) + (z : Int) < (cap : Int) := (by omega))
                | (have hcut : Hid (R.1 = []) := Lib.hid (hR0.out hkc); obtain rfl : k + z = cap := (by omega); clear hkc)
              clear HCU hR0
              go_wp2_with fail
              refine (held_calls w.heap.size p n2 c2 L2 R.1 w3 HD3.out (by omega)).mono ?_
              unfold HeldEnds
              rintro e w4 ⟨D4, c4, rfl, o4, b4⟩
              have HD4 := Lib.hid (HD3.out.below b4)
              have HO5 := Lib.hid (HO4.out.below b4)
              have hB4 := hb3.trans (b4.mono hb3.size)
              have hs4 := o4.sl
              first
                | have hcut4 := Lib.hid (hcut.out.below b4)
                | skip
              clear HD3 HO4 hb3 b4 o4
              go_wp2_with fail
              rw [HSUB.out]
              refine (sameB_calls D4 _ R.1.length R.1.length c4 _ R.1 R.1 w4 rfl rfl (by omega) (by omega) hs4 (by first | exact hcut4.out | (rw [hcut.out]; exact Sl.nil))).mono ?_
              rintro e w5 ⟨rfl, q5, rfl⟩
              rw [eqL_self]
              have HFIN : Hid (WhU w (w4.drewN q5) p L2 n2 c2 D3 (m + q) c3 (k + z) (j + 1) ds R.1 (T ++ R.2)) := (show WhU _ _ _ _ _ _ _ _ _ _ _ _ _ _ from ⟨HD4.out.drewN q5, HO5.out.drewN q5, HTL.out, HSU.out, HKZ.out, HR1.out, HALL.out, hmq, HEND.out, below_drewN hB4 q5⟩)
              clear HD4 HO5 hB4 hs4 hcut HR1 HALL HTL HSU HKZ HSUB
              go_wp2_with fail
              go_roundw
              case rel => exact ⟨L2, D3, n2, c2, m + q, c3, k + z, j + 1, R.1, T ++ R.2, rfl, by go_num, by go_num, by omega, by omega, by omega, HFIN⟩
              case measure => simp [intOf]; omega
      · obtain rfl : j = N := by omega
        have hdj : ds.drop j = [] := List.drop_eq_nil_of_le (by rw [HN.out]; exact Nat.le_refl _)
        have HALL : Hid (allU ds = T ++ List.replicate n (65533, 1)) := (show _ = _ by
          rw [HT.out.all, hdj, List.append_nil, allU_held h HT.out.st, ← HT.out.d.len])
        have HE := Lib.hid (end_calls w.heap.size p n c L h wr HT.out.d (by omega))
        have HO := Lib.hid HT.out.own
        have HDO := Lib.hid HT.out.d.obj
        have hlow := HT.out.d.low
        have hB := HT.out.bel
        have HTL := Lib.hid HT.out.tl
        clear hdj HT
        go_wp2_with fail
        refine HE.out.mono ?_
        unfold EndEnds
        rintro e w2 ⟨D2, cD2, rfl, _, o2, g2⟩
        have HO2 := Lib.hid (HO.out.only HDO.out (by decide) g2)
        have hB2 := below_only hB g2 hB.size hlow
        have HSRC := Lib.hid (srcG o2 (by rw [List.length_replicate]))
        clear HE HO HDO o2 g2 hB
        go_wp2_with (at_builtin; refine wpList_append_ownK (o := ⟨some 73, _, _, _, _, _⟩) rfl (.tmp 70) (.tmp 72) 22 22 rfl 26 j0 (.agg #[.int .i32 0, Value.int .i64 0]) 2 16 Try.underlying22 hj hy0 hy1 hy2 rfl w.heap.size D m cD (flatG T) rfl HO2.out (.slice D2 n cD2) rfl n (flatG (List.replicate n (65533, 1))) HSRC.out (by omega) (by omega) w hB2 hB2.size ?_)
        intro w3 D3 c3 HO3 HK3 hb3 hsz3
        have HO4 : Hid (OwnB w3 w.heap.size 26 2 D3 (m + n) c3 (flatG (allU ds))) := (show OwnB _ _ _ _ _ _ _ _ by rw [HALL.out, flatG_app]; exact HO3.out)
        have HLL : Hid ((allU ds).length = m + n) := (show _ = _ by rw [HALL.out, List.length_append, HTL.out, List.length_replicate])
        have HS3 := Lib.hid (HD.out.below hb3)
        clear HO2 HSRC hB2 HO3 HK3 hsz3 HALL HTL
        go_wp2_with fail
        refine (all_calls ds A j cap w3 HN.out (by omega) hNc (by omega) HS3.out).mono ?_
        unfold AllEnds
        rintro e w4 ⟨D4, m4, c4, rfl, hm4, hm5, o4, b4⟩
        have HO5 := Lib.hid (HO4.out.below b4)
        have hB4 := hb3.trans (b4.mono hb3.size)
        have HO6 := Lib.hid o4
        have HM4 := Lib.hid hm4
        have hmb : m4 ≤ 1000000 := by have := HN.out; omega
        clear HO4 HS3 hb3 b4 o4 hm4 hm5
        go_wp2_with fail
        refine (sameG_true D3 D4 (m + n) m4 c3 c4 (allU ds) w4 HLL.out HM4.out.symm (by omega) HO5.out.sl HO6.out.sl).mono ?_
        rintro e w5 ⟨rfl, q5, rfl⟩
        have hB5 := below_drewN hB4 q5
        clear HO5 HO6 hB4
        go_wp2_with fail
        refine (utfRuns_calls _).mono ?_
        rintro e w6 ⟨rfl, b6⟩
        go_wp2_with fail
        go_ret
        exact ⟨rfl, hB5.trans (b6.mono hB5.size)⟩
end Go.Proofs.Ytepmnhlfjidhjaa
