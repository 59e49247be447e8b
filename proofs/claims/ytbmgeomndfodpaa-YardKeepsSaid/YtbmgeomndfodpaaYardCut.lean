/-
  The contract of yard's Cut.
-/
import Derived.Test.YtbmgeomndfodpaaYardAppend
namespace Go.Proofs.Ytbmgeomndfodpaa
open Go.RowKit Go.Mem Go.Proofs

theorem own_front {w : World} {B : Nat} {e : TypeId} {D : Option Addr} {k c n : Nat} {pre : List Value} (h : OwnB w B e 1 D k c pre) (hn : n ≤ k) : OwnB w B e 1 D n c (pre.take n) := by
  obtain ⟨h1, h2, h3⟩ := h
  refine ⟨by rw [List.length_take]; omega, by omega, ?_⟩
  rcases h3 with ⟨h3, h4, h5⟩ | ⟨g, sp, hd, hg, hb, hc⟩
  · exact .inl ⟨h3, by omega, h5⟩
  · refine .inr ⟨g, pre.drop n ++ sp, hd, hg, ?_, ?_⟩
    · rw [← List.append_assoc, List.take_append_drop]; exact hb
    · simp only [List.length_append, List.length_drop] at hc ⊢; omega
section
variable {w w3 w5 : World} {B y : Nat} {m : List MF} {tk : List (Int × Int)} {pF pT : Nat} {DK DV DK2 DV2 : Option Addr} {vs : List Fl} {i : Nat}
/-- a cell of a fresh block turns -/
theorem But.fresh (h : But w3 B y m tk pF pT DK DV DK2 DV2 vs i) {fb : Nat} {cs : List Value} (hb : Blk w3 fb 91 cs) (hV : DV ≠ some ⟨fb, 0, none⟩) (o : Nat) (u : Value) : But (w3.setCell ⟨fb, o, none⟩ u) B y m tk pF pT DK DV DK2 DV2 vs i := h.keep (D := some ⟨fb, 0, none⟩) (fun g t cs e hb2 => .inr (by
    injection e with e'; injection e' with e'
    subst e'
    refine ⟨?_, hV⟩
    unfold Blk at hb hb2
    rw [hb] at hb2
    injection hb2 with hb2; injection hb2 with _ hb2
    exact hb2.symm)) (fun j g hj hgv b e hgd => by
      injection e with e'; injection e' with e'
      subst e'
      obtain ⟨z, hz⟩ : ∃ z, m[j]? = some z := ⟨m[j]'(by have := (List.getElem?_eq_some_iff.1 hgv).1; rw [h.len] at this; exact this), List.getElem?_eq_getElem _⟩
      exact own_ne_blkN (h.own j g z hj hgv hz).2.2 hb (by decide) hgd) (fun g hg hne => Below.heap_setCell w3 ⟨fb, o, none⟩ _ g (fun e => hne (by simp only at e; rw [e])))
/-- Set at an old key, at the end of a call on the yard -/
theorem But.set_ends (h : But w5 B y m tk pF pT DK DV DK2 DV2 vs i) {x x0 : MF} (hx : m[i]? = some x0) (hino : x.ino = x0.ino) {f : Fl} (hn : f.name = x.name) (hl : f.n = x.data.length) (ho : OwnB w5 B 5 1 f.d f.n f.c (x.data.map B8)) (hap : ∀ j g, j ≠ i → vs[j]? = some g → ∀ b, f.d = some ⟨b, 0, none⟩ → g.d ≠ some ⟨b, 0, none⟩) (hm : m.length ≤ 1000000) (hb : Below B w w5) (hBw : B ≤ w.heap.size) {S : Nat → Prop} (hfp : Fp w w5 S (FootY pF pT y DK DV DK2 DV2 (vs.set i f))) (v : Value) :
    Calls Try.prog 52 #[.pointer (some ⟨pF, 0, none⟩), .int .i64 x0.ino, .agg #[.string f.name, .slice f.d f.n f.c]] (w5.drewN 1) fun e w' => e = .returned (.bool false) ∧ Hid (YEnds w B y v (m.set i x) tk S (.returned v) w') := by
  refine ((h.below (below_drewN (Below.refl _ _) 1)).set_calls hx hino hn hl (ho.drewN 1) hap hm (Nat.le_trans hBw hb.size)).mono ?_
  rintro e w7 ⟨rfl, DK', DV', hyd, hfp2, hbb⟩
  exact ⟨rfl, (show YEnds _ _ _ _ _ _ _ _ _ from ⟨rfl, _, ⟨_, _, _, _, _, _, _, hyd, rfl⟩, (hfp.trans (Fp.of_below (below_drewN (Below.refl _ _) 1) _)).trans hfp2, (below_drewN hb 1).trans hbb⟩)⟩
/-- the step to a file put together in a fresh block -/
theorem fp_fresh (hb : Below w.heap.size w w3) {fb : Nat} (hfb : w.heap.size ≤ fb) (o : Nat) (u : Value) {f f0 : Fl} (hf0 : vs[i]? = some f0) (hd : f.d = f0.d) : Fp w (w3.setCell ⟨fb, o, none⟩ u) (FootY pF pT y DK DV DK2 DV2 vs) (FootY pF pT y DK DV DK2 DV2 (vs.set i f)) :=
  ⟨by have := hb.size; simp [World.setCell]; omega, fun g hg _ => (Below.heap_setCell w3 ⟨fb, o, none⟩ _ g (by simp only; omega)).trans (hb.block g hg), fun g hg hs => foot_set hf0 (n := w.heap.size) (fun g _ e => by rw [← hd]; exact e) hg hs⟩
end
theorem cutNo_none {s : ByteArray} {n : Int} {m : List MF} (h : findM s m = none) : cutNo s n m = 7 ∧ cutM s n m = m := by
  unfold cutNo cutM; rw [h]; exact ⟨rfl, rfl⟩
theorem cutNo_bad {s : ByteArray} {n : Int} {m : List MF} {i : Nat} {x : MF} (h : findM s m = some i) (hx : m[i]? = some x) (hl : n < 0 ∨ (x.data.length : Int) < n) : cutNo s n m = 1 ∧ cutM s n m = m := by
  unfold cutNo cutM; simp only [h, getD_some hx]; rw [if_pos hl, if_pos hl]; exact ⟨rfl, rfl⟩
theorem cutNo_ok {s : ByteArray} {n : Int} {m : List MF} {i : Nat} {x : MF} (h : findM s m = some i) (hx : m[i]? = some x) (hl : ¬ (n < 0 ∨ (x.data.length : Int) < n)) : cutNo s n m = 0 ∧ cutM s n m = m.set i { x with data := x.data.take n.toNat } := by
  unfold cutNo cutM; simp only [h, getD_some hx]; rw [if_neg hl, if_neg hl]; exact ⟨rfl, rfl⟩
set_option maxRecDepth 100000 in
set_option maxHeartbeats 1600000 in
theorem cut_calls {w : World} {B y : Nat} {m : List MF} {tk : List (Int × Int)} {S : Nat → Prop} (h : YS w B y m tk S) (hg : Gd m) (s : ByteArray) (n : Int) (hBw : B ≤ w.heap.size) :
    Calls Try.prog 23 #[.pointer (some ⟨y, 0, none⟩), .string s, .int .i64 n] w (YEnds w B y (.int .i64 (cutNo s n m)) (cutM s n m) tk S) := by
  obtain ⟨pF, pT, DK, DV, DK2, DV2, vs, h, rfl⟩ := h
  have hlen := hg.len
  have hm : m.length ≤ 1000000 := by omega
  have HN := Lib.hid (h.named_calls hm s)
  cases hf : findM s m with
  | none =>
    obtain ⟨e1, e2⟩ := cutNo_none (n := n) hf
    rw [e1, e2]
    rw [(findM_none hf).1] at HN
    clear h hg
    go_enter Try.func23, Try.ntmps23
    go_wp2_with fail
    refine HN.out.mono ?_
    rintro e w1 ⟨rfl, h1, b1⟩
    have H1 := Lib.hid h1
    clear h1
    go_wp2_with fail
    go_ret
    exact YEnds.same H1.out b1 hBw
  | some i =>
    obtain ⟨x, hx, hxn, hno⟩ := findM_some hf
    rw [hno] at HN
    have hil : i < vs.length := by rw [h.len]; exact findM_lt hf
    obtain ⟨f, hfv⟩ : ∃ f, vs[i]? = some f := ⟨vs[i], List.getElem?_eq_getElem hil⟩
    obtain ⟨o1, o2, o3⟩ := h.own i f x hfv hx
    have hz : ¬ x.ino = 0 := by have := (hg.ino x (List.mem_of_getElem? hx)).1; omega
    have hmx := hg.mx x (List.mem_of_getElem? hx)
    have HG := Lib.hid (fun W (hW : Yd W B y m tk pF pT DK DV DK2 DV2 vs) => hW.get_calls hm hx hfv)
    have HO : Hid (∀ W, Yd W B y m tk pF pT DK DV DK2 DV2 vs → OwnB W B 5 1 f.d f.n f.c (x.data.map B8)) := (show ∀ W, _ from fun W hW => (hW.own i f x hfv hx).2.2)
    have HAP : Hid (∀ j g, j ≠ i → vs[j]? = some g → ∀ b, f.d = some ⟨b, 0, none⟩ → g.d ≠ some ⟨b, 0, none⟩) := (show ∀ j g, _ from fun j g hj hg => h.ap i j f g (fun e => hj e.symm) hfv hg)
    have HFV := Lib.hid hfv
    have HX := Lib.hid hx
    have HGd := Lib.hid hg
    by_cases hbad : n < 0 ∨ (x.data.length : Int) < n
    · obtain ⟨e1, e2⟩ := cutNo_bad hf hx hbad
      rw [e1, e2]
      have hgt : n < 0 ∨ (0 ≤ n ∧ ¬ n < 0 ∧ (f.n : Int) < n) := by omega
      obtain ⟨f1, f2, f3, f4⟩ := f
      simp only at hgt
      unfold Fl.val at HG
      clear h hg hf hx hfv o1 o2 o3 hbad HO HAP e1 e2 hmx hil
      generalize x.ino = no at *
      rcases hgt with hgt | ⟨_, hgt, hgt2⟩
      all_goals
        go_enter Try.func23, Try.ntmps23
        go_wp2_with fail
        refine HN.out.mono ?_
        rintro e w1 ⟨rfl, h1, b1⟩
        have HG1 := Lib.hid (HG.out w1 h1)
        have c0 := h1.b.cell 0
        simp only [List.getElem?_cons_zero] at c0
        have B1 := Lib.hid b1
        clear HG h1 HN b1
        go_wp2_with fail
        refine HG1.out.mono ?_
        rintro e w2 ⟨rfl, h2, b2⟩
        have H2 := Lib.hid h2
        have B2 := Lib.hid (show Below w.heap.size w w2 from B1.out.trans (b2.mono B1.out.size))
        have hbn := Blk.new w2 91 #[.string f1, .slice f2 f3 f4]
        have n1 := hbn.cell 1
        simp only [List.getElem?_cons_zero, List.getElem?_cons_succ] at n1
        clear c0 B1 HG1 h2 b2 hbn
        go_wp2_with fail
        go_ret
        exact YEnds.same (H2.out.below ((Below.refl _ _).alloc (Nat.le_refl _) _)) (B2.out.alloc B2.out.size _) hBw
    · obtain ⟨e1, e2⟩ := cutNo_ok hf hx hbad
      rw [e1, e2]
      obtain ⟨k, rfl⟩ : ∃ k : Nat, n = (k : Int) := ⟨n.toNat, by omega⟩
      have hk : k ≤ f.n := by omega
      have hk0 : (0 : Int) ≤ (k : Int) := by omega
      have hk00 : ¬ (k : Int) < 0 := by omega
      have hk1 : ¬ (f.n : Int) < (k : Int) := by omega
      have hk2 : (k : Int) ≤ (f.n : Int) := by omega
      have hcap := o3.le
      have hk3 : (f.n : Int) ≤ (f.c : Int) := by omega
      have hk4 : (k : Int) ≤ (f.c : Int) := by omega
      have HL := Lib.hid (show k = (x.data.take k).length from by rw [List.length_take]; omega)
      have HXN := Lib.hid (show f.name = x.name from o1)
      obtain ⟨f1, f2, f3, f4⟩ := f
      simp only at hk hk1 hk2 hk3 hk4
      unfold Fl.val at HG
      have HK := Lib.hid hk
      clear h hg hf hx hfv o1 o2 o3 hbad e1 e2 hmx hil hk hcap
      rw [Int.toNat_natCast]
      go_enter Try.func23, Try.ntmps23
      go_wp2_with fail
      refine HN.out.mono ?_
      rintro e w1 ⟨rfl, h1, b1⟩
      have HG1 := Lib.hid (HG.out w1 h1)
      have c0 := h1.b.cell 0
      simp only [List.getElem?_cons_zero] at c0
      have B1 := Lib.hid b1
      clear HG h1 HN b1
      go_wp2_with fail
      refine HG1.out.mono ?_
      rintro e w2 ⟨rfl, h2, b2⟩
      have H2 := Lib.hid h2
      have B2 := Lib.hid (show Below w.heap.size w w2 from B1.out.trans (b2.mono B1.out.size))
      have hbn := Blk.new w2 91 #[.string f1, .slice f2 f3 f4]
      have n0 := hbn.cell 0
      have n1 := hbn.cell 1
      have q1 := hbn.frozen 1
      simp only [List.getElem?_cons_zero, List.getElem?_cons_succ] at n0 n1
      have h3 := (H2.out.below ((Below.refl _ _).alloc (Nat.le_refl _) (.cells #[.string f1, .slice f2 f3 f4] 91)))
      have hV : DV ≠ some ⟨w2.heap.size, 0, none⟩ := fun e => by
        obtain ⟨_, _, t2, _⟩ := H2.out.f
        have := (own_ltN t2.v e).1; omega
      have hfb : w.heap.size ≤ w2.heap.size := B2.out.size
      have hB3 : Below w.heap.size w (w2.alloc (.cells #[.string f1, .slice f2 f3 f4] 91)) := B2.out.alloc hfb _
      go_upto_region 7 with fail
      generalize w2.alloc (.cells #[.string f1, .slice f2 f3 f4] 91) = w3 at *
      generalize hfbe : w2.heap.size = fb at *
      have hset := hbn.set_ 1 (.slice f2 k f4)
      have hbut := (h3.but i).fresh hbn hV 1 (.slice f2 k f4)
      have HS := Lib.hid (hbut.set_ends (w := w) (x := { x with data := x.data.take k }) (f := ⟨f1, f2, k, f4⟩) HX.out rfl HXN.out HL.out (by
        have := own_front (HO.out _ h3) HK.out
        rw [← List.map_take] at this
        exact this.farN (own_ne_blkN this hbn (by decide)) _) HAP.out hm ((hB3.mono hBw).setCell (p := ⟨fb, 1, none⟩) (by show B ≤ fb; omega) _) hBw (fp_fresh hB3 hfb 1 _ HFV.out rfl) (.int .i64 0))
      have g0 := hset.cell 0
      have g1 := hset.cell 1
      have cy := hbut.b.cell 0
      simp only [List.set_cons_zero, List.set_cons_succ, List.getElem?_cons_zero, List.getElem?_cons_succ] at g0 g1 cy
      clear c0 B1 HG1 h2 b2 hbn hset h3 hbut hV HO HAP HX HXN HL HK HFV H2 B2 hB3 hfbe
      go_upto_region 8 with fail
      generalize w3.setCell ⟨fb, 1, none⟩ (.slice f2 k f4) = w5 at *
      have cy' : (w5.drewN 1).cell? ⟨y, 0, none⟩ = some (.pointer (some ⟨pF, 0, none⟩)) := cy
      have g0' : (w5.drewN 1).cell? ⟨fb, 0, none⟩ = some (.string f1) := g0
      have g1' : (w5.drewN 1).cell? ⟨fb, 1, none⟩ = some (.slice f2 k f4) := g1
      go_region_with (go_at_call 52; refine HS.out.mono ?_; rintro e w6 ⟨rfl, HFin⟩)
      all_goals
        go_wp2_with fail
        go_ret
        exact HFin.out
end Go.Proofs.Ytbmgeomndfodpaa
