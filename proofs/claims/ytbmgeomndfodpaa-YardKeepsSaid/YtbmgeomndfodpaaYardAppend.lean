/-
  The contract of yard's Append.
-/
import Derived.Test.YtbmgeomndfodpaaYardPut
namespace Go.Proofs.Ytbmgeomndfodpaa
open Go.RowKit Go.Mem Go.Proofs

theorem infoU8 : (Try.prog.info? 5).map (fun i => (i.zero, i.size, i.bytes)) = some (some (.int .u8 0), 1, 1) := by kernel_rfl
theorem appendNo_none {s : ByteArray} {p : List UInt8} {m : List MF} (h : findM s m = none) : appendNo s p m = 7 ∧ appendM s p m = m := by
  unfold appendNo appendM; rw [h]; exact ⟨rfl, rfl⟩
theorem appendNo_full {s : ByteArray} {p : List UInt8} {m : List MF} {i : Nat} {x : MF} (h : findM s m = some i) (hx : m[i]? = some x) (hl : 65536 < x.data.length + p.length) : appendNo s p m = 9 ∧ appendM s p m = m := by
  unfold appendNo appendM; simp only [h, getD_some hx]; rw [if_pos hl, if_pos hl]; exact ⟨rfl, rfl⟩
theorem appendNo_ok {s : ByteArray} {p : List UInt8} {m : List MF} {i : Nat} {x : MF} (h : findM s m = some i) (hx : m[i]? = some x) (hl : ¬ 65536 < x.data.length + p.length) : appendNo s p m = 0 ∧ appendM s p m = m.set i { x with data := x.data ++ p } := by
  unfold appendNo appendM; simp only [h, getD_some hx]; rw [if_neg hl, if_neg hl]; exact ⟨rfl, rfl⟩
theorem YEnds.same {w w' : World} {B y : Nat} {v : Value} {m : List MF} {tk : List (Int × Int)} {pF pT : Nat} {DK DV DK2 DV2 : Option Addr} {vs : List Fl} (h : Yd w' B y m tk pF pT DK DV DK2 DV2 vs) (hb : Below w.heap.size w w') (hB : B ≤ w.heap.size) : YEnds w B y v m tk (FootY pF pT y DK DV DK2 DV2 vs) (.returned v) w' :=
  ⟨rfl, _, ⟨_, _, _, _, _, _, _, h, rfl⟩, Fp.of_below hb _, hb.mono hB⟩
/-- the file's place in the table -/
theorem Yd.get_calls {w : World} {B y : Nat} {m : List MF} {tk : List (Int × Int)} {pF pT : Nat} {DK DV DK2 DV2 : Option Addr} {vs : List Fl} (h : Yd w B y m tk pF pT DK DV DK2 DV2 vs) (hm : m.length ≤ 1000000) {i : Nat} {x : MF} {f : Fl} (hx : m[i]? = some x) (hf : vs[i]? = some f) :
    Calls Try.prog 54 #[.pointer (some ⟨pF, 0, none⟩), .int .i64 x.ino] w fun e w' => e = .returned (.tuple #[f.val, .bool true]) ∧ Yd w' B y m tk pF pT DK DV DK2 DV2 vs ∧ Below w.heap.size w w' := by
  have hk : (m.map MF.ino)[i]? = some x.ino := by rw [List.getElem?_map, hx]; rfl
  refine (getIF_calls B pF DK DV (m.map MF.ino) vs x.ino i w h.f h.rf (Tab.At.of_get ordI h.rf hk) (by rw [List.length_map]; exact hm)).mono ?_
  unfold GetEndsIF
  rw [if_pos hk, decide_eq_true hk, List.getD_eq_getElem?_getD, hf]
  rintro e w' ⟨rfl, hb⟩
  exact ⟨rfl, h.below hb, hb⟩
set_option maxRecDepth 100000 in
set_option maxHeartbeats 1600000 in
theorem append_calls {w : World} {B y : Nat} {m : List MF} {tk : List (Int × Int)} {S : Nat → Prop} (h : YS w B y m tk S) (hg : Gd m) (s : ByteArray) (A : Option Addr) (n c : Nat) (p : List UInt8) (hl : p.length = n) (hp : Sl w A (p.map B8)) (hBw : B ≤ w.heap.size) :
    Calls Try.prog 16 #[.pointer (some ⟨y, 0, none⟩), .string s, .slice A n c] w (YEnds w B y (.int .i64 (appendNo s p m)) (appendM s p m) tk S) := by
  obtain ⟨pF, pT, DK, DV, DK2, DV2, vs, h, rfl⟩ := h
  have hlen := hg.len
  have hm : m.length ≤ 1000000 := by omega
  have HN := Lib.hid (h.named_calls hm s)
  have HSR : Hid (∀ W : World, Below w.heap.size w W → Src Try.prog 1 27 (.slice A n c) n (p.map B8) W) := (show ∀ W : World, _ from fun W hW => srcSl Try.underlying27 (by simpa using hl) (hp.below hW) (bytes_one _))
  have HP := Lib.hid hl
  cases hf : findM s m with
  | none =>
    obtain ⟨e1, e2⟩ := appendNo_none (p := p) hf
    rw [e1, e2]
    rw [(findM_none hf).1] at HN
    clear h hp hg
    go_enter Try.func16, Try.ntmps16
    go_wp2_with fail
    refine HN.out.mono ?_
    rintro e w1 ⟨rfl, h1, b1⟩
    have H1 := Lib.hid h1
    clear h1
    go_wp2_with fail
    go_ret
    exact YEnds.same H1.out b1 hBw
  | some i =>
    obtain ⟨x, hx, hxn, hno⟩ := findM_some hf
    rw [hno] at HN
    have hil : i < vs.length := by rw [h.len]; exact findM_lt hf
    obtain ⟨f, hfv⟩ : ∃ f, vs[i]? = some f := ⟨vs[i], List.getElem?_eq_getElem hil⟩
    obtain ⟨o1, o2, o3⟩ := h.own i f x hfv hx
    have hz : ¬ x.ino = 0 := by have := (hg.ino x (List.mem_of_getElem? hx)).1; omega
    have hmx := hg.mx x (List.mem_of_getElem? hx)
    have HG := Lib.hid (fun W (hW : Yd W B y m tk pF pT DK DV DK2 DV2 vs) => hW.get_calls hm hx hfv)
    have HO : Hid (∀ W, Yd W B y m tk pF pT DK DV DK2 DV2 vs → OwnB W B 5 1 f.d f.n f.c (x.data.map B8)) := (show ∀ W, _ from fun W hW => (hW.own i f x hfv hx).2.2)
    have HAP : Hid (∀ j g, j ≠ i → vs[j]? = some g → ∀ b, f.d = some ⟨b, 0, none⟩ → g.d ≠ some ⟨b, 0, none⟩) := (show ∀ j g, _ from fun j g hj hg => h.ap i j f g (fun e => hj e.symm) hfv hg)
    have HFV := Lib.hid hfv
    have HX := Lib.hid hx
    have HGd := Lib.hid hg
    have ho2 : (f.n : Int) ≤ 65536 := by omega
    have hw : IntKind.i64.wrap (65536 - (f.n : Int)) = 65536 - (f.n : Int) := by rw [IntKind.wrap_i64]; omega
    by_cases hfull : 65536 < x.data.length + p.length
    · obtain ⟨e1, e2⟩ := appendNo_full hf hx hfull
      rw [e1, e2]
      have hgt : (65536 - (f.n : Int)) < (n : Int) := by omega
      obtain ⟨f1, f2, f3, f4⟩ := f
      simp only at hgt hw ho2
      unfold Fl.val at HG
      clear h hp hg HP hf hx hfv o1 o2 o3 hfull HO HAP e1 e2 hmx hil
      generalize x.ino = no at *
      go_enter Try.func16, Try.ntmps16
      go_wp2_with fail
      refine HN.out.mono ?_
      rintro e w1 ⟨rfl, h1, b1⟩
      have HG1 := Lib.hid (HG.out w1 h1)
      have c0 := h1.b.cell 0
      simp only [List.getElem?_cons_zero] at c0
      have B1 := Lib.hid b1
      clear HG h1 HN b1
      go_wp2_with fail
      refine HG1.out.mono ?_
      rintro e w2 ⟨rfl, h2, b2⟩
      have H2 := Lib.hid h2
      have B2 := Lib.hid (show Below w.heap.size w w2 from B1.out.trans (b2.mono B1.out.size))
      have hbn := Blk.new w2 91 #[.string f1, .slice f2 f3 f4]
      have n1 := hbn.cell 1
      simp only [List.getElem?_cons_zero, List.getElem?_cons_succ] at n1
      clear c0 B1 HG1 h2 b2 hbn
      go_wp2_with fail
      go_ret
      exact YEnds.same (H2.out.below ((Below.refl _ _).alloc (Nat.le_refl _) _)) (B2.out.alloc B2.out.size _) hBw
    · obtain ⟨e1, e2⟩ := appendNo_ok hf hx hfull
      rw [e1, e2]
      have hgt : ¬ (65536 - (f.n : Int)) < (n : Int) := by omega
      have hk1 : f.n + n ≤ 65536 := by omega
      have HO2 := Lib.hid o2
      have HXN := Lib.hid (show f.name = x.name from o1)
      obtain ⟨f1, f2, f3, f4⟩ := f
      simp only at hgt hw ho2 hk1
      unfold Fl.val at HG
      clear h hp hg hf hx hfv o1 o2 o3 hfull e1 e2 hmx hil
      go_enter Try.func16, Try.ntmps16
      go_wp2_with fail
      refine HN.out.mono ?_
      rintro e w1 ⟨rfl, h1, b1⟩
      have HG1 := Lib.hid (HG.out w1 h1)
      have c0 := h1.b.cell 0
      simp only [List.getElem?_cons_zero] at c0
      have B1 := Lib.hid b1
      clear HG h1 HN b1
      go_wp2_with fail
      refine HG1.out.mono ?_
      rintro e w2 ⟨rfl, h2, b2⟩
      have H2 := Lib.hid h2
      have B2 := Lib.hid (show Below w.heap.size w w2 from B1.out.trans (b2.mono B1.out.size))
      have hbn := Blk.new w2 91 #[.string f1, .slice f2 f3 f4]
      have n0 := hbn.cell 0
      have n1 := hbn.cell 1
      have q1 := hbn.frozen 1
      simp only [List.getElem?_cons_zero, List.getElem?_cons_succ] at n0 n1
      have HBN := Lib.hid hbn
      clear c0 B1 HG1 h2 b2 hbn
      have hw3 : B ≤ (w2.alloc (.cells #[.string f1, .slice f2 f3 f4] 91)).heap.size := by have := B2.out.size; simp; omega
      have hB3 : Below w.heap.size w (w2.alloc (.cells #[.string f1, .slice f2 f3 f4] 91)) := B2.out.alloc B2.out.size _
      have h3 := (H2.out.below ((Below.refl _ _).alloc (Nat.le_refl _) (.cells #[.string f1, .slice f2 f3 f4] 91)))
      have hnd : ∀ g t cs, some (⟨w2.heap.size, 0, none⟩ : Addr) = some ⟨g, 0, none⟩ → Blk (w2.alloc (.cells #[.string f1, .slice f2 f3 f4] 91)) g t cs → t = 91 ∧ DV ≠ some ⟨g, 0, none⟩ := fun g t cs e hb => by
        injection e with e; injection e with e; subst e
        refine ⟨?_, fun e => ?_⟩
        · have h1 := HBN.out
          unfold Blk at h1 hb
          rw [h1] at hb
          injection hb with hb; injection hb with _ hb
          exact hb.symm
        · obtain ⟨_, _, t2, _⟩ := H2.out.f
          have := (own_ltN t2.v e).1; omega
      have HND := Lib.hid hnd
      have hfb : w.heap.size ≤ w2.heap.size := B2.out.size
      have hsz3 : w2.heap.size < (w2.alloc (.cells #[.string f1, .slice f2 f3 f4] 91)).heap.size := by simp
      have HH3 := Lib.hid h3
      have HB3 := Lib.hid hB3
      have HSR3 := Lib.hid (HSR.out _ hB3)
      have HO3 := Lib.hid (HO.out _ h3)
      obtain ⟨i0, hi, hz0, hz1, hz2⟩ := info_parts infoU8
      clear HSR HO h3 hB3 hnd H2 B2
      go_upto_region 7 with fail
      generalize w2.alloc (.cells #[.string f1, .slice f2 f3 f4] 91) = w3 at *
      generalize w2.heap.size = fb at *
      go_wp2_with (at_builtin; refine wpList_append_ownK (o := ⟨some 34, _, _, _, _, _⟩) rfl (.tmp 32) (.tmp 33) 27 27 rfl 5 i0 (.int .u8 0) 1 1 Try.underlying27 hi hz0 hz1 hz2 rfl B f2 f3 f4 (x.data.map B8) rfl HO3.out (.slice A n c) rfl n (p.map B8) HSR3.out (by omega) (by omega) w3 (Below.refl _ _) hw3 ?_)
      intro w4 D4 c4 HO4 HK4 hb4 hs4
      have hbn4 := HK4.out.blk_ne HO3.out HBN.out (by decide)
      clear n0 n1 q1
      have n0 := hbn4.cell 0
      have n1 := hbn4.cell 1
      have q1 := hbn4.frozen 1
      simp only [List.getElem?_cons_zero, List.getElem?_cons_succ] at n0 n1
      have hset := hbn4.set_ 1 (.slice D4 (f3 + n) c4)
      have hFin : Hid (Calls Try.prog 52 #[.pointer (some ⟨pF, 0, none⟩), .int .i64 x.ino, .agg #[.string f1, .slice D4 (f3 + n) c4]] ((w4.setCell ⟨fb, 1, none⟩ (.slice D4 (f3 + n) c4)).drewN 1) fun e w5 => e = .returned (.bool false) ∧ Hid (YEnds w B y (.int .i64 0) (m.set i { x with data := x.data ++ p }) tk (FootY pF pT y DK DV DK2 DV2 vs) (.returned (.int .i64 0)) w5)) ∧ (w4.setCell ⟨fb, 1, none⟩ (.slice D4 (f3 + n) c4)).cell? ⟨y, 0, none⟩ = some (.pointer (some ⟨pF, 0, none⟩)) := (show _ ∧ _ from by
        have hbut3 := HH3.out.but i
        have hbut4 : But w4 B y m tk pF pT DK DV DK2 DV2 vs i := hbut3.keep (D := f2) (fun g t cs e hb => .inl (by
          have ho := HO3.out
          rw [e] at ho
          by_cases ht : t = 5
          · exact ht
          · exact absurd e (own_ne_blkN HO3.out hb (fun e => ht e.symm)))) HAP.out HK4.out.1
        have hbut5 : But (w4.setCell ⟨fb, 1, none⟩ (.slice D4 (f3 + n) c4)) B y m tk pF pT DK DV DK2 DV2 vs i := hbut4.keep (D := some ⟨fb, 0, none⟩) (fun g t cs e hb => .inr (by
          injection e with e'; injection e' with e'
          subst e'
          refine ⟨?_, (HND.out fb _ _ rfl HBN.out).2⟩
          have h1 := hbn4
          unfold Blk at h1 hb
          rw [h1] at hb
          injection hb with hb; injection hb with _ hb
          exact hb.symm)) (fun j g hj hgv b e hgd => by
            injection e with e'; injection e' with e'
            subst e'
            obtain ⟨z, hz⟩ : ∃ z, m[j]? = some z := ⟨m[j]'(by have := (List.getElem?_eq_some_iff.1 hgv).1; rw [hbut3.len] at this; exact this), List.getElem?_eq_getElem _⟩
            exact own_ne_blkN (hbut4.own j g z hj hgv hz).2.2 hbn4 (by decide) hgd) (fun g hg hne => Below.heap_setCell w4 ⟨fb, 1, none⟩ _ g (fun e => hne (by simp only at e; rw [e])))
        have hbut6 := hbut5.below (below_drewN (Below.refl _ _) 1)
        have hb5 : Below w.heap.size w w3 := HB3.out
        have ho6 : OwnB ((w4.setCell ⟨fb, 1, none⟩ (.slice D4 (f3 + n) c4)).drewN 1) B 5 1 D4 (f3 + n) c4 ((x.data ++ p).map B8) := by
          rw [List.map_append]
          exact (HO4.out.farN (own_ne_blkN HO4.out hbn4 (by decide)) _).drewN 1
        have hap6 : ∀ j g, j ≠ i → vs[j]? = some g → ∀ b, D4 = some ⟨b, 0, none⟩ → g.d ≠ some ⟨b, 0, none⟩ := fun j g hj hgv => by
          obtain ⟨z, hz⟩ : ∃ z, m[j]? = some z := ⟨m[j]'(by have := (List.getElem?_eq_some_iff.1 hgv).1; rw [hbut3.len] at this; exact this), List.getElem?_eq_getElem _⟩
          exact HK4.out.apart (hbut3.own j g z hj hgv hz).2.2 (fun b hb => HAP.out j g hj hgv b hb)
        have hs5 : (w4.setCell ⟨fb, 1, none⟩ (.slice D4 (f3 + n) c4)).heap.size = w4.heap.size := by simp [World.setCell]
        have hs6 : ((w4.setCell ⟨fb, 1, none⟩ (.slice D4 (f3 + n) c4)).drewN 1).heap.size = w4.heap.size := hs5
        have hB6 : Below B w ((w4.setCell ⟨fb, 1, none⟩ (.slice D4 (f3 + n) c4)).drewN 1) := (hb5.mono hBw).trans (below_drewN (hb4.setCell (p := ⟨fb, 1, none⟩) (by
          show B ≤ fb; omega) _) 1)
        refine ⟨?_, hbut5.b.cell 0⟩
        refine (hbut6.set_calls (x := { x with data := x.data ++ p }) (f := ⟨f1, D4, f3 + n, c4⟩) HX.out rfl (by simp only; exact HXN.out) (by simp only [List.length_append]; rw [HP.out]; have h2 : f3 = x.data.length := HO2.out; omega) ho6 hap6 hm (by omega)).mono ?_
        rintro e w7 ⟨rfl, DK', DV', hyd, hfp, hbb⟩
        refine ⟨rfl, (show YEnds _ _ _ _ _ _ _ _ _ from ⟨rfl, _, ⟨_, _, _, _, _, _, _, hyd, rfl⟩, Fp.trans (w' := ((w4.setCell ⟨fb, 1, none⟩ (.slice D4 (f3 + n) c4)).drewN 1)) ⟨?_, fun g hg hs => ?_, fun g hg hs => ?_⟩ hfp, hB6.trans hbb⟩)⟩
        · rw [hs6]; have := hb5.size; omega
        · have h1 : f2 ≠ some ⟨g, 0, none⟩ := fun e => hs (.inr (.inr (.inr (.inr (.inr (.inr (.inr ⟨_, List.mem_of_getElem? HFV.out, e⟩)))))))
          have h2 : g < w3.heap.size := Nat.lt_of_lt_of_le hg hb5.size
          exact (Below.heap_setCell w4 ⟨fb, 1, none⟩ _ g (by simp only; omega)).trans ((HK4.out.1 g h2 h1).trans (hb5.block g hg))
        · exact foot_set HFV.out (n := w.heap.size) (fun g hg e => by
            simp only at e
            rcases HK4.out.2 with h1 | h1
            · rw [← h1]; exact e
            · rw [h1] at e; injection e with e; injection e with e; have := hb5.size; omega) hg hs)
      obtain ⟨HSet0, cy⟩ := hFin
      have HSet := HSet0.out
      have g0 := hset.cell 0
      have g1 := hset.cell 1
      simp only [List.set_cons_zero, List.set_cons_succ, List.getElem?_cons_zero, List.getElem?_cons_succ] at g0 g1
      have cy' : ((w4.setCell ⟨fb, 1, none⟩ (.slice D4 (f3 + n) c4)).drewN 1).cell? ⟨y, 0, none⟩ = some (.pointer (some ⟨pF, 0, none⟩)) := cy
      have g0' : ((w4.setCell ⟨fb, 1, none⟩ (.slice D4 (f3 + n) c4)).drewN 1).cell? ⟨fb, 0, none⟩ = some (.string f1) := g0
      have g1' : ((w4.setCell ⟨fb, 1, none⟩ (.slice D4 (f3 + n) c4)).drewN 1).cell? ⟨fb, 1, none⟩ = some (.slice D4 (f3 + n) c4) := g1
      have HS := Lib.hid HSet
      clear HSet0 HSet hset HO4 HK4 hb4 hs4 hbn4 HH3 HB3 HND HAP HX HXN HFV HO2 HBN HSR3 HO3
      go_upto_region 8 with fail
      generalize w4.setCell ⟨fb, 1, none⟩ (.slice D4 (f3 + n) c4) = w5 at *
      go_region_with (go_at_call 52; refine HS.out.mono ?_; rintro e w6 ⟨rfl, HFin⟩)
      all_goals
        go_wp2_with fail
        go_ret
        exact HFin.out
end Go.Proofs.Ytbmgeomndfodpaa
