/-
  The contract of yard's Rename.
-/
import Derived.Test.YtbmgeomndfodpaaYardDel
namespace Go.Proofs.Ytbmgeomndfodpaa
open Go.RowKit Go.Mem Go.Proofs

theorem renameM_bad {s t : ByteArray} {m : List MF} (h : rightB t = false) : renameNo s t m = 14 ∧ renameM s t m = m := by
  have h1 : renameNo s t m = 14 := by unfold renameNo; rw [if_pos h]
  refine ⟨h1, ?_⟩
  unfold renameM; rw [if_neg (by rw [h1]; decide)]
theorem renameM_none {s t : ByteArray} {m : List MF} (h : rightB t = true) (hf : findM s m = none) : renameNo s t m = 7 ∧ renameM s t m = m := by
  have h1 : renameNo s t m = 7 := by unfold renameNo; rw [if_neg (by rw [h]; decide), hf]
  refine ⟨h1, ?_⟩
  unfold renameM; rw [if_neg (by rw [h1]; decide)]
theorem renameM_ok {s t : ByteArray} {m : List MF} {i : Nat} {x : MF} (hg : Gd m) (hr : rightB t = true) (h : findM s m = some i) (hx : m[i]? = some x) (hn : x.name = s) : renameNo s t m = 0 ∧ Gd (dropM s t m) ∧ ∃ j, (dropM s t m)[j]? = some x ∧ renameM s t m = (dropM s t m).set j { x with name := t } := by
  have h1 : renameNo s t m = 0 := by unfold renameNo; rw [if_neg (by rw [hr]; decide), h]
  have hd : Gd (dropM s t m) := by
    unfold dropM
    split
    · exact hg
    · exact hg.remove
  have hj : ∃ j : Nat, (dropM s t m)[j]? = some x := by
    unfold dropM
    split
    · exact ⟨i, hx⟩
    · next hne =>
      unfold removeM
      cases hk : findM t m with
      | none => exact ⟨i, hx⟩
      | some k =>
        obtain ⟨z, hz, hzn, _⟩ := findM_some hk
        have hik : i ≠ k := by
          rintro rfl
          rw [hx] at hz; injection hz with hz; subst hz
          exact hne (hn.symm.trans hzn)
        rcases Nat.lt_or_ge i k with h2 | h2
        · exact ⟨i, by show (m.eraseIdx k)[_]? = _; rw [del_get, if_pos h2]; exact hx⟩
        · exact ⟨i - 1, by show (m.eraseIdx k)[_]? = _; rw [del_get, if_neg (by omega), show i - 1 + 1 = i by omega]; exact hx⟩
  obtain ⟨j, hj⟩ := hj
  refine ⟨h1, hd, j, hj, ?_⟩
  have hf := hd.find hj
  rw [hn] at hf
  unfold renameM
  rw [if_pos h1]
  generalize dropM s t m = m1 at *
  unfold nameM
  simp only [hf, getD_some hj]
theorem other_no {s t : ByteArray} {m : List MF} {i : Nat} {x : MF} (hg : Gd m) (hx : m[i]? = some x) (hn : x.name = s) (hne : s ≠ t) : ¬ nameNo t m = x.ino := by
  cases hk : findM t m with
  | none => rw [(findM_none hk).1]; have := (hg.ino x (List.mem_of_getElem? hx)).1; omega
  | some k =>
    obtain ⟨z, hz, hzn, h3⟩ := findM_some hk
    rw [h3]
    intro e
    have hik : i ≠ k := by
      rintro rfl
      rw [hx] at hz; injection hz with hz; subst hz
      exact hne (hn.symm.trans hzn)
    have h4 : (m.map MF.ino)[i]? = some x.ino := by rw [List.getElem?_map, hx]; rfl
    have h5 : (m.map MF.ino)[k]? = some z.ino := by rw [List.getElem?_map, hz]; rfl
    rcases Nat.lt_or_gt_of_ne hik with h6 | h6
    · have := hg.r.get h6 h4 h5; simp [ltI] at this; omega
    · have := hg.r.get h6 h5 h4; simp [ltI] at this; omega
set_option maxRecDepth 100000 in
set_option maxHeartbeats 3200000 in
theorem rename_calls {w : World} {B y : Nat} {m : List MF} {tk : List (Int × Int)} {S : Nat → Prop} (h : YS w B y m tk S) (hg : Gd m) (s t : ByteArray) (ht : t.size ≤ 9223372036854775807) (hBw : B ≤ w.heap.size) :
    Calls Try.prog 17 #[.pointer (some ⟨y, 0, none⟩), .string s, .string t] w (YEnds w B y (.int .i64 (renameNo s t m)) (renameM s t m) tk S) := by
  obtain ⟨pF, pT, DK, DV, DK2, DV2, vs, h, hS⟩ := h
  have HSf := Lib.hid hS
  clear hS
  have hlen := hg.len
  have hm : m.length ≤ 1000000 := by omega
  have HR := Lib.hid (right_calls t w ht)
  have HY := Lib.hid h
  cases hr : rightB t with
  | false =>
    obtain ⟨e1, e2⟩ := renameM_bad (s := s) (m := m) hr
    rw [e1, e2]
    rw [hr] at HR
    obtain rfl := HSf.out
    clear h hg
    go_enter Try.func17, Try.ntmps17
    go_wp2_with fail
    refine HR.out.mono ?_
    rintro e w1 ⟨rfl, q, rfl⟩
    go_wp2_with fail
    go_ret
    exact YEnds.same (HY.out.below (below_drewN (Below.refl _ _) q)) (below_drewN (Below.refl _ _) q) hBw
  | true =>
    rw [hr] at HR
    have HN := Lib.hid (fun q => (show Yd (w.drewN q) B y m tk pF pT DK DV DK2 DV2 vs from h.below (below_drewN (Below.refl _ _) q)).named_calls hm s)
    have HN2 := Lib.hid (fun W (hW : Yd W B y m tk pF pT DK DV DK2 DV2 vs) => hW.named_calls hm t)
    cases hf : findM s m with
    | none =>
      obtain ⟨e1, e2⟩ := renameM_none hr hf
      rw [e1, e2]
      rw [(findM_none hf).1] at HN
      obtain rfl := HSf.out
      generalize nameNo t m = other at *
      clear h hg HY
      go_enter Try.func17, Try.ntmps17
      go_wp2_with fail
      refine HR.out.mono ?_
      rintro e w1 ⟨rfl, q, rfl⟩
      have HN1 := Lib.hid (HN.out q)
      clear HN HR
      go_wp2_with fail
      refine HN1.out.mono ?_
      rintro e w2 ⟨rfl, h2, b2⟩
      have HN3 := Lib.hid (HN2.out w2 h2)
      have HB2 := Lib.hid (show Below w.heap.size w w2 from (below_drewN (Below.refl w.heap.size w) q).trans b2)
      clear h2 b2 HN1 HN2
      go_wp2_with fail
      refine HN3.out.mono ?_
      rintro e w3 ⟨rfl, h3, b3⟩
      have H3 := Lib.hid h3
      have HB3 := Lib.hid (show Below w.heap.size w w3 from HB2.out.trans (b3.mono HB2.out.size))
      clear h3 b3 HN3 HB2
      go_wp2_with fail
      go_ret
      exact YEnds.same H3.out HB3.out hBw
    | some i =>
      obtain ⟨x, hx, hxn, hno⟩ := findM_some hf
      obtain ⟨e1, hg1, j, hj, e2⟩ := renameM_ok hg hr hf hx hxn
      rw [e1, e2]
      rw [hno] at HN
      have hz : ¬ x.ino = 0 := by have := (hg.ino x (List.mem_of_getElem? hx)).1; omega
      by_cases hst : s = t
      · have hd : dropM s t m = m := if_pos hst
        rw [hd] at hg1 hj ⊢
        have hno2 : nameNo t m = x.ino := by rw [← hst]; exact hno
        rw [hno2] at HN2
        clear h hg HY hd e1 e2 hno hno2 hf hxn hst hx
        go_enter Try.func17, Try.ntmps17
        go_wp2_with fail
        refine HR.out.mono ?_
        rintro e w1 ⟨rfl, q, rfl⟩
        have HN1 := Lib.hid (HN.out q)
        clear HN HR
        go_wp2_with fail
        refine HN1.out.mono ?_
        rintro e w2 ⟨rfl, h2, b2⟩
        have HN3 := Lib.hid (HN2.out w2 h2)
        have HB2 := Lib.hid (show Below w.heap.size w w2 from (below_drewN (Below.refl w.heap.size w) q).trans b2)
        clear h2 b2 HN1 HN2
        go_wp2_with fail
        refine HN3.out.mono ?_
        rintro e w4 ⟨rfl, h3, b3⟩
        have hb4 : Below w.heap.size w w4 := HB2.out.trans (b3.mono HB2.out.size)
        have H4 := Lib.hid h3
        have HB4 := Lib.hid (show Below B w w4 from hb4.mono hBw)
        have HS4 := Lib.hid hb4.size
        have HF4 : Hid (Fp w w4 S (FootY pF pT y DK DV DK2 DV2 vs)) := (show Fp _ _ _ _ from by rw [HSf.out]; exact Fp.of_below hb4 _)
        clear h3 b3 HN3 HB2 hb4 HSf
        have hil : j < vs.length := by rw [H4.out.len]; exact (List.getElem?_eq_some_iff.1 hj).1
        obtain ⟨f, hfv⟩ : ∃ f, vs[j]? = some f := ⟨vs[j], List.getElem?_eq_getElem hil⟩
        obtain ⟨o1, o2, o3⟩ := H4.out.own j f x hfv hj
        have HG := Lib.hid (H4.out.get_calls hm hj hfv)
        have HO : Hid (∀ W, Yd W B y m tk pF pT DK DV DK2 DV2 vs → OwnB W B 5 1 f.d f.n f.c (x.data.map B8)) := (show ∀ W, _ from fun W hW => (hW.own j f x hfv hj).2.2)
        have HAP : Hid (∀ k g, k ≠ j → vs[k]? = some g → ∀ b, f.d = some ⟨b, 0, none⟩ → g.d ≠ some ⟨b, 0, none⟩) := (show ∀ k g, _ from fun k g hk hg => H4.out.ap j k f g (fun e => hk e.symm) hfv hg)
        have HFV := Lib.hid hfv
        have HX := Lib.hid hj
        have HL := Lib.hid o2
        have c0 := H4.out.b.cell 0
        simp only [List.getElem?_cons_zero] at c0
        obtain ⟨f1, f2, f3, f4⟩ := f
        unfold Fl.val at HG
        clear hfv hj o1 o2 o3 hil hg1
        go_wp2_with fail
        refine HG.out.mono ?_
        rintro e w5 ⟨rfl, h5, b5⟩
        have hbn := Blk.new w5 91 #[.string f1, .slice f2 f3 f4]
        have n0 := hbn.cell 0
        have n1 := hbn.cell 1
        have q0 := hbn.frozen 0
        simp only [List.getElem?_cons_zero, List.getElem?_cons_succ] at n0 n1
        have h6 := (h5.below ((Below.refl _ _).alloc (Nat.le_refl _) (.cells #[.string f1, .slice f2 f3 f4] 91)))
        have hV : DV ≠ some ⟨w5.heap.size, 0, none⟩ := fun e => by
          obtain ⟨_, _, t2, _⟩ := h5.f
          have := (own_ltN t2.v e).1; omega
        have hfb : w4.heap.size ≤ w5.heap.size := b5.size
        have hB6 : Below w4.heap.size w4 (w5.alloc (.cells #[.string f1, .slice f2 f3 f4] 91)) := b5.alloc hfb _
        go_upto_region 9 with fail
        generalize w5.alloc (.cells #[.string f1, .slice f2 f3 f4] 91) = w6 at *
        generalize hfbe : w5.heap.size = fb at *
        have hset := hbn.set_ 0 (.string t)
        have hbut := (h6.but j).fresh hbn hV 0 (.string t)
        have hs4 := HS4.out
        have HS := Lib.hid (hbut.set_ends (w := w) (x := { x with name := t }) (f := ⟨t, f2, f3, f4⟩) HX.out rfl rfl HL.out ((HO.out _ h6).farN (own_ne_blkN (HO.out _ h6) hbn (by decide)) _) HAP.out hm (HB4.out.trans ((hB6.mono (by omega)).setCell (p := ⟨fb, 0, none⟩) (by show B ≤ fb; omega) _)) hBw (HF4.out.trans (fp_fresh hB6 hfb 0 _ HFV.out rfl)) (.int .i64 0))
        have g0 := hset.cell 0
        have g1 := hset.cell 1
        have cy := hbut.b.cell 0
        simp only [List.set_cons_zero, List.getElem?_cons_zero, List.getElem?_cons_succ] at g0 g1 cy
        clear c0 HG h5 b5 hbn hset h6 hbut hV HO HAP HX HL HFV hB6 hfbe H4 HB4 HF4 HS4 hs4 hfb
        go_upto_region 10 with fail
        generalize w6.setCell ⟨fb, 0, none⟩ (.string t) = w7 at *
        have cy' : (w7.drewN 1).cell? ⟨y, 0, none⟩ = some (.pointer (some ⟨pF, 0, none⟩)) := cy
        have g0' : (w7.drewN 1).cell? ⟨fb, 0, none⟩ = some (.string t) := g0
        have g1' : (w7.drewN 1).cell? ⟨fb, 1, none⟩ = some (.slice f2 f3 f4) := g1
        go_region_with (go_at_call 52; refine HS.out.mono ?_; rintro e w8 ⟨rfl, HFin⟩)
        all_goals
          go_wp2_with fail
          go_ret
          exact HFin.out
      · have hd : dropM s t m = removeM t m := if_neg hst
        rw [hd] at hg1 hj ⊢
        have hne := other_no hg hx hxn hst
        have HDel := Lib.hid (fun W (hW : Yd W B y m tk pF pT DK DV DK2 DV2 vs) (hB : B ≤ W.heap.size) => hW.del_calls hg t hB)
        have hlen1 := hg1.len
        generalize removeM t m = m1 at *
        generalize nameNo t m = other at *
        generalize (findM t m).isSome = bt at *
        have hm1 : m1.length ≤ 1000000 := by omega
        clear h hg HY hd e1 e2 hno hf hxn hst hx hm hlen hlen1
        go_enter Try.func17, Try.ntmps17
        go_wp2_with fail
        refine HR.out.mono ?_
        rintro e w1 ⟨rfl, q, rfl⟩
        have HN1 := Lib.hid (HN.out q)
        clear HN HR
        go_wp2_with fail
        refine HN1.out.mono ?_
        rintro e w2 ⟨rfl, h2, b2⟩
        have HN3 := Lib.hid (HN2.out w2 h2)
        have HB2 := Lib.hid (show Below w.heap.size w w2 from (below_drewN (Below.refl w.heap.size w) q).trans b2)
        clear h2 b2 HN1 HN2
        go_wp2_with fail
        refine HN3.out.mono ?_
        rintro e w3 ⟨rfl, h3, b3⟩
        have hb3 : Below w.heap.size w w3 := HB2.out.trans (b3.mono HB2.out.size)
        have HD3 := Lib.hid (HDel.out w3 h3 (Nat.le_trans hBw hb3.size))
        have c0 := h3.b.cell 0
        simp only [List.getElem?_cons_zero] at c0
        have HB3 := Lib.hid hb3
        clear h3 b3 HN3 HB2 hb3 HDel
        go_wp2_with fail
        refine HD3.out.mono ?_
        rintro e w4 ⟨rfl, DK', DV', vs', h4, f4, b4⟩
        have H4 := Lib.hid h4
        have HB4 := Lib.hid (show Below B w w4 from (HB3.out.mono hBw).trans b4)
        have HS4 := Lib.hid (Nat.le_trans HB3.out.size b4.size)
        have HF4 : Hid (Fp w w4 S (FootY pF pT y DK' DV' DK2 DV2 vs')) := (show Fp _ _ _ _ from by rw [HSf.out]; exact (Fp.of_below HB3.out _).trans f4)
        clear h4 f4 b4 HD3 HB3 c0 HSf
        have hil : j < vs'.length := by rw [H4.out.len]; exact (List.getElem?_eq_some_iff.1 hj).1
        obtain ⟨f, hfv⟩ : ∃ f, vs'[j]? = some f := ⟨vs'[j], List.getElem?_eq_getElem hil⟩
        obtain ⟨o1, o2, o3⟩ := H4.out.own j f x hfv hj
        have HG := Lib.hid (H4.out.get_calls hm1 hj hfv)
        have HO : Hid (∀ W, Yd W B y m1 tk pF pT DK' DV' DK2 DV2 vs' → OwnB W B 5 1 f.d f.n f.c (x.data.map B8)) := (show ∀ W, _ from fun W hW => (hW.own j f x hfv hj).2.2)
        have HAP : Hid (∀ k g, k ≠ j → vs'[k]? = some g → ∀ b, f.d = some ⟨b, 0, none⟩ → g.d ≠ some ⟨b, 0, none⟩) := (show ∀ k g, _ from fun k g hk hg => H4.out.ap j k f g (fun e => hk e.symm) hfv hg)
        have HFV := Lib.hid hfv
        have HX := Lib.hid hj
        have HL := Lib.hid o2
        have c0 := H4.out.b.cell 0
        simp only [List.getElem?_cons_zero] at c0
        obtain ⟨f1, f2, f3, f4⟩ := f
        unfold Fl.val at HG
        clear hfv hj o1 o2 o3 hil hg1
        go_wp2_with fail
        refine HG.out.mono ?_
        rintro e w5 ⟨rfl, h5, b5⟩
        have hbn := Blk.new w5 91 #[.string f1, .slice f2 f3 f4]
        have n0 := hbn.cell 0
        have n1 := hbn.cell 1
        have q0 := hbn.frozen 0
        simp only [List.getElem?_cons_zero, List.getElem?_cons_succ] at n0 n1
        have h6 := (h5.below ((Below.refl _ _).alloc (Nat.le_refl _) (.cells #[.string f1, .slice f2 f3 f4] 91)))
        have hV : DV' ≠ some ⟨w5.heap.size, 0, none⟩ := fun e => by
          obtain ⟨_, _, t2, _⟩ := h5.f
          have := (own_ltN t2.v e).1; omega
        have hfb : w4.heap.size ≤ w5.heap.size := b5.size
        have hB6 : Below w4.heap.size w4 (w5.alloc (.cells #[.string f1, .slice f2 f3 f4] 91)) := b5.alloc hfb _
        go_upto_region 9 with fail
        generalize w5.alloc (.cells #[.string f1, .slice f2 f3 f4] 91) = w6 at *
        generalize hfbe : w5.heap.size = fb at *
        have hset := hbn.set_ 0 (.string t)
        have hbut := (h6.but j).fresh hbn hV 0 (.string t)
        have hs4 := HS4.out
        have HS := Lib.hid (hbut.set_ends (w := w) (x := { x with name := t }) (f := ⟨t, f2, f3, f4⟩) HX.out rfl rfl HL.out ((HO.out _ h6).farN (own_ne_blkN (HO.out _ h6) hbn (by decide)) _) HAP.out hm1 (HB4.out.trans ((hB6.mono (by omega)).setCell (p := ⟨fb, 0, none⟩) (by show B ≤ fb; omega) _)) hBw (HF4.out.trans (fp_fresh hB6 hfb 0 _ HFV.out rfl)) (.int .i64 0))
        have g0 := hset.cell 0
        have g1 := hset.cell 1
        have cy := hbut.b.cell 0
        simp only [List.set_cons_zero, List.getElem?_cons_zero, List.getElem?_cons_succ] at g0 g1 cy
        clear c0 HG h5 b5 hbn hset h6 hbut hV HO HAP HX HL HFV hB6 hfbe H4 HB4 HF4 HS4 hs4 hfb
        go_upto_region 10 with fail
        generalize w6.setCell ⟨fb, 0, none⟩ (.string t) = w7 at *
        have cy' : (w7.drewN 1).cell? ⟨y, 0, none⟩ = some (.pointer (some ⟨pF, 0, none⟩)) := cy
        have g0' : (w7.drewN 1).cell? ⟨fb, 0, none⟩ = some (.string t) := g0
        have g1' : (w7.drewN 1).cell? ⟨fb, 1, none⟩ = some (.slice f2 f3 f4) := g1
        go_region_with (go_at_call 52; refine HS.out.mono ?_; rintro e w8 ⟨rfl, HFin⟩)
        all_goals
          go_wp2_with fail
          go_ret
          exact HFin.out
end Go.Proofs.Ytbmgeomndfodpaa
