/-
  The contracts of a table's methods: keys int, values int.
-/
import Derived.Test.YtbmgeomndfodpaaTabW
import Derived.Test.YtbmgeomndfodpaaTabLib2
import Derived.BigQuiet
namespace Go.Proofs.Ytbmgeomndfodpaa
open Go.RowKit Go.Mem Go.Proofs

def TbII (w : World) (B p : Nat) (DK DV : Option Addr) (ks : List Int) (vs : List Int) : Prop := ∃ cK cV, T0 w B 126 3 3 p DK ks.length cK (ks.map (Value.int .i64)) DV vs.length cV (vs.map (Value.int .i64)) ∧ ks.length = vs.length
theorem TbII.below {w w' : World} {B p : Nat} {DK DV : Option Addr} {ks : List Int} {vs : List Int} (h : TbII w B p DK DV ks vs) (hb : Below w.heap.size w w') : TbII w' B p DK DV ks vs := by
  obtain ⟨a, b, h1, h2⟩ := h; exact ⟨a, b, h1.below hb, h2⟩
theorem TbII.drewN {w : World} {B p : Nat} {DK DV : Option Addr} {ks : List Int} {vs : List Int} (h : TbII w B p DK DV ks vs) (q : Nat) : TbII (w.drewN q) B p DK DV ks vs := by
  obtain ⟨a, b, h1, h2⟩ := h; exact ⟨a, b, h1.drewN q, h2⟩
theorem TbII.mono {w : World} {B B' p : Nat} {DK DV : Option Addr} {ks : List Int} {vs : List Int} (h : TbII w B p DK DV ks vs) (hB : B' ≤ B) : TbII w B' p DK DV ks vs := by
  obtain ⟨a, b, h1, h2⟩ := h; exact ⟨a, b, h1.mono hB, h2⟩
/-- what a call on a table ends in -/
def TEndsII (w : World) (B p : Nat) (DK DV : Option Addr) (v : Value) (ks : List Int) (vs : List Int) (e : Ending) (w' : World) : Prop := e = .returned v ∧ ∃ DK' DV', TbII w' B p DK' DV' ks vs ∧ Kp w w' p DK DV ∧ Nw w DK DK' ∧ Nw w DV DV' ∧ Below B w w'
theorem oneKII (ks : List Int) : ∀ u ∈ ks.map (Value.int .i64), u.oneCell' = true := by intro u hu; obtain ⟨_, _, rfl⟩ := List.mem_map.1 hu; rfl
theorem oneVII (vs : List Int) : ∀ u ∈ vs.map (Value.int .i64), u.oneCell' = true := by intro u hu; obtain ⟨_, _, rfl⟩ := List.mem_map.1 hu; rfl

set_option maxRecDepth 100000 in
theorem newII_calls (w : World) : Calls Try.prog 48 #[] w fun e w' => e = .returned (.pointer (some ⟨w.heap.size, 0, none⟩)) ∧ TbII w' w.heap.size w.heap.size none none [] [] ∧ Below w.heap.size w w' := by
  have HFin : Hid (TbII (w.alloc (.cells #[.slice none 0 0, .slice none 0 0] 126)) w.heap.size w.heap.size none none [] []) := (show TbII _ _ _ _ _ _ _ from ⟨0, 0, ⟨Blk.new w 126 #[.slice none 0 0, .slice none 0 0], OwnB.nil _ _ _ _, OwnB.nil _ _ _ _, by decide, by decide, Nat.le_refl _, fun g h => by cases h⟩, rfl⟩)
  go_enter Try.func48, Try.ntmps48
  go_wp2_with fail
  go_ret
  exact ⟨rfl, HFin.out, (Below.refl _ _).alloc (Nat.le_refl _) _⟩

set_option maxRecDepth 100000 in
theorem getII_calls (B p : Nat) (DK DV : Option Addr) (ks : List Int) (vs : List Int) (k : Int) (i : Nat) (w : World) (h : TbII w B p DK DV ks vs) (hr : Tab.Rising ltI ks) (hat : Tab.At ltI ks k i) (hn : ks.length ≤ 1000000) :
    Calls Try.prog 60 #[.pointer (some ⟨p, 0, none⟩), (Value.int .i64) k] w fun e w' => e = .returned (.tuple #[if ks[i]? = some k then (Value.int .i64) (vs.getD i 0) else .int .i64 0, .bool (decide (ks[i]? = some k))]) ∧ ∃ q, w' = w.drewN q := by
  obtain ⟨cK, cV, h, heq⟩ := h
  have c0 := h.b.cell 0
  have c1 := h.b.cell 1
  simp only [List.getElem?_cons_zero, List.getElem?_cons_succ] at c0 c1
  have HS := Lib.hid (searchI_calls B DK ks.length cK ks k i w h.k hr hat hn)
  by_cases hf : ks[i]? = some k
  · have hil : i < vs.length := by have := (List.getElem?_eq_some_iff.1 hf).1; omega
    rw [decide_eq_true hf] at HS
    rw [decide_eq_true hf, if_pos hf]
    obtain ⟨g, o, rfl, hc⟩ := h.v.sl.at_ (k := i) (by simpa using hil)
    rw [List.getElem_map] at hc
    have hgd : vs.getD i 0 = vs[i] := by simp [List.getD, hil]
    rw [hgd]
    generalize vs[i] = v at *
    have i0 : (0 : Int) ≤ (i : Int) := by omega
    have i1 : (i : Int) < (vs.length : Int) := by omega
    clear hgd heq hf h hr hat hil
    generalize vs.length = m at *
    generalize ks.length = n at *
    go_enter Try.func60, Try.ntmps60
    go_wp2_with fail
    refine HS.out.mono ?_
    rintro e w1 ⟨rfl, q, rfl⟩
    go_wp2_with fail
    go_ret2
    exact ⟨rfl, _, rfl⟩
  · rw [decide_eq_false hf] at HS
    rw [decide_eq_false hf, if_neg hf]
    clear heq h hr hat hf
    generalize vs.length = m at *
    generalize ks.length = n at *
    go_enter Try.func60, Try.ntmps60
    go_wp2_with fail
    refine HS.out.mono ?_
    rintro e w1 ⟨rfl, q, rfl⟩
    go_wp2_with fail
    go_ret2
    exact ⟨rfl, _, rfl⟩

set_option maxRecDepth 100000 in
set_option maxHeartbeats 1600000 in
theorem setII_old (B p : Nat) (DK DV : Option Addr) (ks : List Int) (vs : List Int) (k : Int) (v : Int) (i : Nat) (w : World) (h : TbII w B p DK DV ks vs) (hr : Tab.Rising ltI ks) (hat : Tab.At ltI ks k i) (hn : ks.length ≤ 1000000) (hf : ks[i]? = some k) :
    Calls Try.prog 59 #[.pointer (some ⟨p, 0, none⟩), (Value.int .i64) k, (Value.int .i64) v] w (TEndsII w B p DK DV (.bool false) ks (vs.set i v)) := by
  obtain ⟨cK, cV, h, heq⟩ := h
  have c0 := h.b.cell 0
  have c1 := h.b.cell 1
  simp only [List.getElem?_cons_zero, List.getElem?_cons_succ] at c0 c1
  have HS := Lib.hid (searchI_calls B DK ks.length cK ks k i w h.k hr hat hn)
  rw [decide_eq_true hf] at HS
  have hil : i < vs.length := by have := (List.getElem?_eq_some_iff.1 hf).1; omega
  rcases h.v.2.2 with ⟨_, h0, _⟩ | ⟨g, sp, hd, hgB, hb, hcap⟩
  · omega
  · subst hd
    have gj : w.cell? ⟨g, i, none⟩ = some ((Value.int .i64) vs[i]) := by rw [hb.cell, List.getElem?_append_left (by simpa using hil), List.getElem?_map, List.getElem?_eq_getElem hil]; rfl
    have fj := hb.frozen i
    generalize vs[i] = old at gj
    have HT : Hid (∀ q, TEndsII w B p DK (some ⟨g, 0, none⟩) (.bool false) ks (vs.set i v) (.returned (.bool false)) ((w.drewN q).setCell ⟨g, i, none⟩ ((Value.int .i64) v))) := (show ∀ q, _ from fun q => by
      obtain ⟨h1, h2⟩ := (h.drewN q).putV (by decide) rfl hil ((Value.int .i64) v)
      rw [← List.map_set] at h1
      refine ⟨rfl, DK, some ⟨g, 0, none⟩, ⟨cK, cV, by rw [List.length_set]; exact h1, by rw [List.length_set]; exact heq⟩, h2, Nw.refl _ _, Nw.refl _ _, (below_drewN (Below.refl B w) q).setCell (p := ⟨g, i, none⟩) hgB _⟩)
    have i0 : (0 : Int) ≤ (i : Int) := by omega
    have i1 : (i : Int) < (vs.length : Int) := by omega
    clear heq hf h hr hat hil hb hcap
    generalize hks : ks.length = n at *
    clear hks
    generalize hvl : vs.length = m at *
    clear hvl
    go_enter Try.func59, Try.ntmps59
    go_wp2_with fail
    refine HS.out.mono ?_
    rintro e w1 ⟨rfl, q, rfl⟩
    go_wp2_with fail
    go_ret
    exact HT.out q

theorem ins_mapII {α : Type} (F : α → Value) (l : List α) (i : Nat) (x : α) : (l.map F).take i ++ ([F x] ++ (l.map F).drop i) = (l.take i ++ x :: l.drop i).map F := by
  rw [← List.map_take, ← List.map_drop]; simp
theorem ins_lengthII {α : Type} (l : List α) (i : Nat) (x : α) (h : i ≤ l.length) : (l.take i ++ x :: l.drop i).length = l.length + 1 := by simp; omega

set_option maxRecDepth 100000 in
set_option maxHeartbeats 1600000 in
theorem setII_new (B p : Nat) (DK DV : Option Addr) (ks : List Int) (vs : List Int) (k : Int) (v : Int) (i : Nat) (w : World) (h : TbII w B p DK DV ks vs) (hr : Tab.Rising ltI ks) (hat : Tab.At ltI ks k i) (hn : ks.length ≤ 100000) (hf : ks[i]? ≠ some k) (hBw : B ≤ w.heap.size) :
    Calls Try.prog 59 #[.pointer (some ⟨p, 0, none⟩), (Value.int .i64) k, (Value.int .i64) v] w (TEndsII w B p DK DV (.bool true) (ks.take i ++ k :: ks.drop i) (vs.take i ++ v :: vs.drop i)) := by
  obtain ⟨cK, cV, h, heq⟩ := h
  have c0 := h.b.cell 0
  have c1 := h.b.cell 1
  simp only [List.getElem?_cons_zero, List.getElem?_cons_succ] at c0 c1
  have HS := Lib.hid (searchI_calls B DK ks.length cK ks k i w h.k hr hat (by omega))
  rw [decide_eq_false hf] at HS
  have hil := hat.1
  have HH := Lib.hid h
  have hnV : vs.length ≤ 100000 := by omega
  have hiV : i ≤ vs.length := by omega
  have HLK := Lib.hid (ins_lengthII ks i k hil)
  have HLV := Lib.hid (ins_lengthII vs i v hiV)
  have HMK := Lib.hid (ins_mapII (Value.int .i64) ks i k)
  have HMV := Lib.hid (ins_mapII (Value.int .i64) vs i v)
  have HEQ := Lib.hid heq
  clear hf hr hat h heq
  go_enter Try.func59, Try.ntmps59
  go_wp2_with fail
  refine HS.out.mono ?_
  rintro e w1 ⟨rfl, q, hq⟩
  have h1 : T0 w1 B 126 3 3 p DK ks.length cK (ks.map (Value.int .i64)) DV vs.length cV (vs.map (Value.int .i64)) := by rw [hq]; exact HH.out.drewN q
  have b1 : Below B w w1 := by rw [hq]; exact below_drewN (Below.refl _ _) q
  have z1 : w1.heap.size = w.heap.size := by rw [hq]; rfl
  have k1 : Kp w w1 p DK DV := by rw [hq]; exact Kp.refl _ _ _ _
  have hA := h1.below ((Below.refl _ _).alloc (Nat.le_refl _) (.cells #[(Value.int .i64) k] 3))
  have d0 := h1.b.cell 0
  have d1 := h1.b.cell 1
  simp only [List.getElem?_cons_zero, List.getElem?_cons_succ] at d0 d1
  have HI := Lib.hid (insertI_calls B DK ks.length cK i (ks.map (Value.int .i64)) ((Value.int .i64) k) w1.heap.size w1 (w1.alloc (.cells #[(Value.int .i64) k] 3)) hA.k hil (by omega) hA.mxk (Blk.new w1 3 #[(Value.int .i64) k]) (fun e => by have := (own_lt h1.k e).1; omega) (oneKII ks) rfl ((Below.refl B w1).alloc (by omega) _) (by simp; omega))
  rw [HMK.out] at HI
  unfold InsEndsI at HI
  rw [List.length_map, HLK.out] at HI
  have HA := Lib.hid hA
  have B1 : B ≤ w1.heap.size := by omega
  have HK1 := Lib.hid k1
  have HZ1 := Lib.hid z1
  clear hq h1 hA HS c0 c1 k1 z1
  go_wp2_with fail
  refine HI.out.mono ?_
  rintro e w2 ⟨D2, c2, rfl, o2, kp2, b2, s2, m2⟩
  obtain ⟨t3, kp3, nw3⟩ := HA.out.setK (by decide) (by decide) kp2 o2 m2
  have hb2 := kp2.blk HA.out.b (own_ne_blk HA.out.k HA.out.b (by decide))
  have e0 := hb2.cell 0
  have e1 := hb2.cell 1
  have f0 := hb2.frozen 0
  simp only [List.getElem?_cons_zero, List.getElem?_cons_succ] at e0 e1
  have hs3 : (w2.setCell ⟨p, 0, none⟩ (.slice D2 (ks.length + 1) c2)).heap.size = w2.heap.size := by simp [World.setCell]
  have b3 : Below B w1 (w2.setCell ⟨p, 0, none⟩ (.slice D2 (ks.length + 1) c2)) := b2.setCell (p := ⟨p, 0, none⟩) HA.out.pB _
  have hB2 : B ≤ w2.heap.size := by simp at s2; omega
  have s2' : w1.heap.size ≤ w2.heap.size := by simp at s2; omega
  have HT3 := Lib.hid t3
  have kpA : Kp w1 (w2.setCell ⟨p, 0, none⟩ (.slice D2 (ks.length + 1) c2)) p DK DV := (Kp.of_below ((Below.refl _ _).alloc (Nat.le_refl _) _)).trans kp3 (by simp) (Nw.refl _ _) (Nw.refl _ _)
  have nwA : Nw w1 DK D2 := by
    rcases nw3 with h1 | ⟨g, h1, h2⟩
    · exact .inl h1
    · exact .inr ⟨g, h1, by simp at h2; omega⟩
  have HKA := Lib.hid kpA
  have HNA := Lib.hid nwA
  have hB' := t3.below ((Below.refl _ _).alloc (Nat.le_refl _) (.cells #[(Value.int .i64) v] 3))
  have hbv : Blk ((w2.setCell ⟨p, 0, none⟩ (.slice D2 (ks.length + 1) c2)).alloc (.cells #[(Value.int .i64) v] 3)) w2.heap.size 3 [(Value.int .i64) v] := by have := Blk.new (w2.setCell ⟨p, 0, none⟩ (.slice D2 (ks.length + 1) c2)) 3 #[(Value.int .i64) v]; rw [hs3] at this; exact this
  have HI2 := Lib.hid (insertI_calls B DV vs.length cV i (vs.map (Value.int .i64)) ((Value.int .i64) v) w2.heap.size w1 ((w2.setCell ⟨p, 0, none⟩ (.slice D2 (ks.length + 1) c2)).alloc (.cells #[(Value.int .i64) v] 3)) hB'.v hiV (by omega) hB'.mxv hbv (fun e => by have := (own_lt t3.v e).1; rw [hs3] at this; omega) (oneVII vs) rfl (b3.alloc (by rw [hs3]; omega) _) (by simp; omega))
  rw [HMV.out] at HI2
  unfold InsEndsI at HI2
  rw [List.length_map, HLV.out] at HI2
  have HB' := Lib.hid hB'
  have HS3 := Lib.hid hs3
  clear HI o2 kp2 b2 s2 m2 t3 kp3 nw3 hb2 b3 kpA nwA hB' hbv d0 d1 hs3
  go_wp2_with fail
  refine HI2.out.mono ?_
  rintro e w4 ⟨D4, c4, rfl, o4, kp4, b4, s4, m4⟩
  obtain ⟨t5, kp5, nw5⟩ := HB'.out.setV (by decide) (by decide) kp4 o4 m4
  have hb4 := kp4.blk HB'.out.b (own_ne_blk HB'.out.v HB'.out.b (by decide))
  have g1 := hb4.cell 1
  have f1 := hb4.frozen 1
  simp only [List.getElem?_cons_zero, List.getElem?_cons_succ] at g1
  have hs3 := HS3.out
  have z1 := HZ1.out
  have HFin : Hid (TEndsII w B p DK DV (.bool true) (ks.take i ++ k :: ks.drop i) (vs.take i ++ v :: vs.drop i) (.returned (.bool true)) (w4.setCell ⟨p, 1, none⟩ (.slice D4 (vs.length + 1) c4))) := (show TEndsII _ _ _ _ _ _ _ _ _ _ from by
    refine ⟨rfl, D2, D4, ⟨c2, c4, by rw [HLK.out, HLV.out]; exact t5, by rw [HLK.out, HLV.out, HEQ.out]⟩, ?_, ?_, ?_, b1.trans (b4.setCell (p := ⟨p, 1, none⟩) HB'.out.pB _)⟩
    · refine HK1.out.trans (w' := w1) (HKA.out.trans (w' := w2.setCell ⟨p, 0, none⟩ (.slice D2 (ks.length + 1) c2)) ((Kp.of_below ((Below.refl _ _).alloc (Nat.le_refl _) _)).trans kp5 (by simp) (Nw.refl _ _) (Nw.refl _ _)) (by rw [hs3]; omega) HNA.out (Nw.refl _ _)) (by omega) (Nw.refl _ _) (Nw.refl _ _)
    · rcases HNA.out with h1 | ⟨g, h1, h2⟩
      · exact .inl h1
      · exact .inr ⟨g, h1, by omega⟩
    · rcases nw5 with h1 | ⟨g, h1, h2⟩
      · exact .inl h1
      · exact .inr ⟨g, h1, by simp at h2; omega⟩)
  clear HI2 o4 kp4 b4 s4 m4 t5 kp5 nw5 hb4 hs3 z1
  go_wp2_with fail
  go_ret
  exact HFin.out

end Go.Proofs.Ytbmgeomndfodpaa
