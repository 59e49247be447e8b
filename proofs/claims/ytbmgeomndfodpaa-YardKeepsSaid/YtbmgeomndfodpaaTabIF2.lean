/-
  The contracts of a table's methods, keys int, values files: Get and Set.
-/
import Derived.Test.YtbmgeomndfodpaaTabIF
import Derived.Laws.ResultCell
import Derived.Deep.DeepCutAuto
import Derived.Deep.QuietTactic
namespace Go.Proofs.Ytbmgeomndfodpaa
open Go.RowKit Go.Mem Go.Proofs

def zFl : Fl := ⟨⟨#[]⟩, none, 0, 0⟩
/-- what Get tells -/
def GetEndsIF (w : World) (ks : List Int) (vs : List Fl) (k : Int) (i : Nat) (e : Ending) (w' : World) : Prop := e = .returned (.tuple #[(if ks[i]? = some k then vs.getD i zFl else zFl).val, .bool (decide (ks[i]? = some k))]) ∧ Below w.heap.size w w'
set_option maxRecDepth 100000 in
set_option maxHeartbeats 1600000 in
theorem getIF_calls (B p : Nat) (DK DV : Option Addr) (ks : List Int) (vs : List Fl) (k : Int) (i : Nat) (w : World) (h : TbIF w B p DK DV ks vs) (hr : Tab.Rising ltI ks) (hat : Tab.At ltI ks k i) (hn : ks.length ≤ 1000000) :
    Calls Try.prog 54 #[.pointer (some ⟨p, 0, none⟩), .int .i64 k] w (GetEndsIF w ks vs k i) := by
  have hal := (Below.refl w.heap.size w).alloc (Nat.le_refl _) (.cells #[.string ⟨#[]⟩, .slice none 0 0] 91)
  have hbx := Blk.new w 91 #[.string ⟨#[]⟩, .slice none 0 0]
  have h1 := h.below hal
  obtain ⟨cK, cV, h2, heq⟩ := h1
  have HS := Lib.hid (searchI_calls B DK ks.length cK ks k i _ h2.k hr hat hn)
  have hb := h2.b
  by_cases hf : ks[i]? = some k
  · have hil : i < vs.length := by have := (List.getElem?_eq_some_iff.1 hf).1; omega
    rw [decide_eq_true hf] at HS
    have HG := Lib.hid (show ∀ e w', e = .returned (.tuple #[(vs[i]).val, .bool true]) ∧ Below w.heap.size w w' → GetEndsIF w ks vs k i e w' from fun e w' h => by
      unfold GetEndsIF; rw [if_pos hf, decide_eq_true hf, show vs.getD i zFl = vs[i] by simp [List.getD, hil]]; exact h)
    rcases h2.v.2.2 with ⟨_, h0, _⟩ | ⟨g, sp, hd, hgB, hv, hcap⟩
    · omega
    subst hd
    obtain ⟨f0, f1⟩ := flatF_at (List.getElem?_eq_getElem hil)
    have hc0 := hv.cell (i * 2)
    have hc1 := hv.cell (i * 2 + 1)
    rw [List.getElem?_append_left (by rw [flatF_len]; omega), f0] at hc0
    rw [List.getElem?_append_left (by rw [flatF_len]; omega), f1] at hc1
    generalize vs[i] = v at *
    obtain ⟨v1, v2, v3, v4⟩ := v
    simp only at hc0 hc1
    have i0 : (0 : Int) ≤ (i : Int) := by omega
    have i1 : (i : Int) < (vs.length : Int) := by omega
    refine Calls.mono ?_ HG.out
    clear f0 f1 hcap hgB HG heq hf h hr hat hil h2 hv
    generalize vs.length = m at *
    generalize ks.length = n at *
    go_enter Try.func54, Try.ntmps54
    go_upto_region 1 with fail
    have HB := Lib.hid hal
    clear hal
    generalize w.alloc (.cells #[.string ⟨#[]⟩, .slice none 0 0] 91) = w1 at *
    have c0 := hb.cell 0
    have c1 := hb.cell 1
    have b0 := hbx.cell 0
    have b1 := hbx.cell 1
    have q0 := hbx.frozen 0
    have q1 := hbx.frozen 1
    simp only [List.getElem?_cons_zero, List.getElem?_cons_succ] at c0 c1 b0 b1
    go_wp2_with fail
    refine HS.out.mono ?_
    rintro e w2 ⟨rfl, q, rfl⟩
    go_wp2_with fail
    have HBX := Lib.hid (((hbx.drewN q).set_ 0 (.string v1)).set_ 1 (.slice v2 v3 v4))
    have HFin : Hid (Below w.heap.size w (((w1.drewN q).setCell ⟨w.heap.size, 0, none⟩ (.string v1)).setCell ⟨w.heap.size, 1, none⟩ (.slice v2 v3 v4))) := (show Below _ _ _ from ((below_drewN HB.out _).setCell (Nat.le_refl _) _).setCell (Nat.le_refl _) _)
    generalize ((w1.drewN q).setCell ⟨w.heap.size, 0, none⟩ (.string v1)).setCell ⟨w.heap.size, 1, none⟩ (.slice v2 v3 v4) = w2 at *
    clear b0 b1 q0 q1 c0 c1 hc0 hc1 HS hb hbx
    have b0 := HBX.out.cell 0
    have b1 := HBX.out.cell 1
    simp only [List.set_cons_zero, List.set_cons_succ, List.getElem?_cons_zero, List.getElem?_cons_succ] at b0 b1
    (try simp only [Exit.inBlock, Exit.then])
    refine bodyPost_ret (v := .tuple #[(⟨v1, v2, v3, v4⟩ : Fl).val, .bool true]) ?_ rfl ⟨rfl, HFin.out⟩
    rw [results_cell_tmp rfl]
    unfold Fl.val
    go_simp
  · rw [decide_eq_false hf] at HS
    have HG := Lib.hid (show ∀ e w', e = .returned (.tuple #[zFl.val, .bool false]) ∧ Below w.heap.size w w' → GetEndsIF w ks vs k i e w' from fun e w' h => by
      unfold GetEndsIF; rw [if_neg hf, decide_eq_false hf]; exact h)
    refine Calls.mono ?_ HG.out
    clear HG heq hf h hr hat h2
    generalize vs.length = m at *
    generalize ks.length = n at *
    go_enter Try.func54, Try.ntmps54
    go_upto_region 1 with fail
    have HB := Lib.hid hal
    clear hal
    have hsz : (w.alloc (.cells #[.string ⟨#[]⟩, .slice none 0 0] 91)).heap.size = w.heap.size + 1 := by simp
    generalize w.alloc (.cells #[.string ⟨#[]⟩, .slice none 0 0] 91) = w1 at *
    have c0 := hb.cell 0
    have b0 := hbx.cell 0
    have b1 := hbx.cell 1
    have q0 := hbx.frozen 0
    have q1 := hbx.frozen 1
    simp only [List.getElem?_cons_zero, List.getElem?_cons_succ] at c0 b0 b1
    go_wp2_with fail
    refine HS.out.mono ?_
    rintro e w2 ⟨rfl, q, rfl⟩
    go_upto_region 4 with fail
    have hbn : Blk ((w1.drewN q).alloc (.cells #[.string ⟨#[]⟩, .slice none 0 0] 91)) (w.heap.size + 1) 91 [.string ⟨#[]⟩, .slice none 0 0] := by
      have := Blk.new (w1.drewN q) 91 #[.string ⟨#[]⟩, .slice none 0 0]
      rw [show (w1.drewN q).heap.size = w.heap.size + 1 from hsz] at this; exact this
    have hbx3 := (hbx.drewN q).alloc (.cells #[.string ⟨#[]⟩, .slice none 0 0] 91)
    have hB3 : Below w.heap.size w ((w1.drewN q).alloc (.cells #[.string ⟨#[]⟩, .slice none 0 0] 91)) := (below_drewN HB.out q).alloc (by show _ ≤ w1.heap.size; omega) _
    generalize (w1.drewN q).alloc (.cells #[.string ⟨#[]⟩, .slice none 0 0] 91) = w3 at *
    clear b0 b1 q0 q1 c0
    have b0 := hbx3.cell 0
    have b1 := hbx3.cell 1
    have q0 := hbx3.frozen 0
    have q1 := hbx3.frozen 1
    have n0 := hbn.cell 0
    have n1 := hbn.cell 1
    simp only [List.getElem?_cons_zero, List.getElem?_cons_succ] at b0 b1 n0 n1
    have HBX := Lib.hid ((hbx3.set_ 0 (.string ⟨#[]⟩)).set_ 1 (.slice none 0 0))
    have HFin : Hid (Below w.heap.size w ((w3.setCell ⟨w.heap.size, 0, none⟩ (.string ⟨#[]⟩)).setCell ⟨w.heap.size, 1, none⟩ (.slice none 0 0))) := (show Below _ _ _ from (hB3.setCell (Nat.le_refl _) _).setCell (Nat.le_refl _) _)
    clear hB3
    go_wp2_with fail
    generalize (w3.setCell ⟨w.heap.size, 0, none⟩ (.string ⟨#[]⟩)).setCell ⟨w.heap.size, 1, none⟩ (.slice none 0 0) = w2 at *
    clear b0 b1 q0 q1 n0 n1 HS hb hbx hbx3 hbn
    have b0 := HBX.out.cell 0
    have b1 := HBX.out.cell 1
    simp only [List.set_cons_zero, List.set_cons_succ, List.getElem?_cons_zero, List.getElem?_cons_succ] at b0 b1
    (try simp only [Exit.inBlock, Exit.then])
    refine bodyPost_ret (v := .tuple #[zFl.val, .bool false]) ?_ rfl ⟨rfl, HFin.out⟩
    rw [results_cell_tmp rfl]
    unfold Fl.val zFl
    go_simp

set_option maxRecDepth 100000 in
set_option maxHeartbeats 1600000 in
theorem setIF_old (B p : Nat) (DK DV : Option Addr) (ks : List Int) (vs : List Fl) (k : Int) (v : Fl) (i : Nat) (w : World) (h : TbIF w B p DK DV ks vs) (hr : Tab.Rising ltI ks) (hat : Tab.At ltI ks k i) (hn : ks.length ≤ 1000000) (hf : ks[i]? = some k) (hBw : B ≤ w.heap.size) :
    Calls Try.prog 52 #[.pointer (some ⟨p, 0, none⟩), (Value.int .i64) k, v.val] w (TEndsIF w B p DK DV (.bool false) ks (vs.set i v)) := by
  obtain ⟨v1, v2, v3, v4⟩ := v
  have hal := (Below.refl B w).alloc hBw (.cells #[.string v1, .slice v2 v3 v4] 91)
  have hal' := (Below.refl w.heap.size w).alloc (Nat.le_refl _) (.cells #[.string v1, .slice v2 v3 v4] 91)
  have hbx := Blk.new w 91 #[.string v1, .slice v2 v3 v4]
  have h1 := h.below hal'
  obtain ⟨cK, cV, h2, heq⟩ := h1
  have HS := Lib.hid (searchI_calls B DK ks.length cK ks k i _ h2.k hr hat hn)
  rw [decide_eq_true hf] at HS
  have hil : i < vs.length := by have := (List.getElem?_eq_some_iff.1 hf).1; omega
  rcases h2.v.2.2 with ⟨_, h0, _⟩ | ⟨g, sp, hd, hgB, hv, hcap⟩
  · omega
  · subst hd
    have hb := h2.b
    obtain ⟨f0, f1⟩ := flatF_at (List.getElem?_eq_getElem hil)
    have gj := hv.cell (i * 2)
    have gj1 := hv.cell (i * 2 + 1)
    rw [List.getElem?_append_left (by rw [flatF_len]; omega), f0] at gj
    rw [List.getElem?_append_left (by rw [flatF_len]; omega), f1] at gj1
    have fj := hv.frozen (i * 2)
    have fj1 := hv.frozen (i * 2 + 1)
    generalize vs[i] = old at gj gj1
    have hgl : g < w.heap.size := by
      obtain ⟨_, _, h3, _⟩ := h
      exact (own_ltN h3.v rfl).1
    have HT : Hid (∀ q, TEndsIF w B p DK (some ⟨g, 0, none⟩) (.bool false) ks (vs.set i ⟨v1, v2, v3, v4⟩) (.returned (.bool false)) ((((w.alloc (.cells #[.string v1, .slice v2 v3 v4] 91)).drewN q).setCell ⟨g, i * 2, none⟩ (.string v1)).setCell ⟨g, i * 2 + 1, none⟩ (.slice v2 v3 v4))) := (show ∀ q, _ from fun q => by
      obtain ⟨t1, t2⟩ := (h2.drewN q).putV (by decide) rfl (i := i * 2) (by omega) (.string v1)
      obtain ⟨t3, t4⟩ := t1.putV (by decide) rfl (i := i * 2 + 1) (by omega) (.slice v2 v3 v4)
      rw [flatF_set hil ⟨v1, v2, v3, v4⟩] at t3
      refine ⟨rfl, DK, some ⟨g, 0, none⟩, ⟨cK, cV, by rw [List.length_set]; exact t3, by rw [List.length_set]; exact heq⟩, ?_, Nw.refl _ _, Nw.refl _ _, ((below_drewN hal q).setCell (p := ⟨g, i * 2, none⟩) hgB _).setCell (p := ⟨g, i * 2 + 1, none⟩) hgB _⟩
      exact (Kp.of_below hal').trans (w' := w.alloc (.cells #[.string v1, .slice v2 v3 v4] 91)) (t2.trans t4 (by simp [World.setCell]) (Nw.refl _ _) (Nw.refl _ _)) (by simp) (Nw.refl _ _) (Nw.refl _ _))
    have i0 : (0 : Int) ≤ (i : Int) := by omega
    have i1 : (i : Int) < (vs.length : Int) := by omega
    clear heq hf h hr hat hil hcap h2 hv f0 f1 hal
    unfold Fl.val
    generalize hks : ks.length = n at *
    clear hks
    generalize hvl : vs.length = m at *
    clear hvl
    go_enter Try.func52, Try.ntmps52
    go_upto_region 1 with fail
    generalize w.alloc (.cells #[.string v1, .slice v2 v3 v4] 91) = w1 at *
    have c0 := hb.cell 0
    have c1 := hb.cell 1
    have b0 := hbx.cell 0
    have b1 := hbx.cell 1
    simp only [List.getElem?_cons_zero, List.getElem?_cons_succ] at c0 c1 b0 b1
    go_wp2_with fail
    refine HS.out.mono ?_
    rintro e w2 ⟨rfl, q, rfl⟩
    go_wp2_with fail
    go_region
    go_wp2_with fail
    go_ret
    exact HT.out (q + 1)

theorem ins_mapIF {α : Type} (F : α → Value) (l : List α) (i : Nat) (x : α) : (l.map F).take i ++ ([F x] ++ (l.map F).drop i) = (l.take i ++ x :: l.drop i).map F := by
  rw [← List.map_take, ← List.map_drop]; simp
theorem ins_lengthIF {α : Type} (l : List α) (i : Nat) (x : α) (h : i ≤ l.length) : (l.take i ++ x :: l.drop i).length = l.length + 1 := by simp; omega

set_option maxRecDepth 100000 in
set_option maxHeartbeats 1600000 in
theorem setIF_new (B p : Nat) (DK DV : Option Addr) (ks : List Int) (vs : List Fl) (k : Int) (v : Fl) (i : Nat) (w : World) (h : TbIF w B p DK DV ks vs) (hr : Tab.Rising ltI ks) (hat : Tab.At ltI ks k i) (hn : ks.length ≤ 100000) (hf : ks[i]? ≠ some k) (hBw : B ≤ w.heap.size) :
    Calls Try.prog 52 #[.pointer (some ⟨p, 0, none⟩), (Value.int .i64) k, v.val] w (TEndsIF w B p DK DV (.bool true) (ks.take i ++ k :: ks.drop i) (vs.take i ++ v :: vs.drop i)) := by
  obtain ⟨v1, v2, v3, v4⟩ := v
  have hal := (Below.refl B w).alloc hBw (.cells #[.string v1, .slice v2 v3 v4] 91)
  have hal' := (Below.refl w.heap.size w).alloc (Nat.le_refl _) (.cells #[.string v1, .slice v2 v3 v4] 91)
  have hbx := Blk.new w 91 #[.string v1, .slice v2 v3 v4]
  have hsb : (w.alloc (.cells #[.string v1, .slice v2 v3 v4] 91)).heap.size = w.heap.size + 1 := by simp
  have hpl : p < w.heap.size := by obtain ⟨_, _, h3, _⟩ := h; exact h3.b.lt
  have h1 := h.below hal'
  clear h
  obtain ⟨cK, cV, h, heq⟩ := h1
  have HS := Lib.hid (searchI_calls B DK ks.length cK ks k i _ h.k hr hat (by omega))
  rw [decide_eq_false hf] at HS
  have hil := hat.1
  have HH := Lib.hid h
  have hnV : vs.length ≤ 100000 := by omega
  have hiV : i ≤ vs.length := by omega
  have HLK := Lib.hid (ins_lengthIF ks i k hil)
  have HLV := Lib.hid (ins_lengthIF vs i (⟨v1, v2, v3, v4⟩ : Fl) hiV)
  have HMK := Lib.hid (ins_mapIF (Value.int .i64) ks i k)
  have HMV := Lib.hid (show (flatF vs).take (i * 2) ++ ([.string v1, .slice v2 v3 v4] ++ (flatF vs).drop (i * 2)) = _ from flatF_ins vs i ⟨v1, v2, v3, v4⟩)
  have HEQ := Lib.hid heq
  have hb := h.b
  clear hf hr hat h heq
  unfold Fl.val
  go_enter Try.func52, Try.ntmps52
  go_upto_region 1 with fail
  generalize hwb : w.alloc (.cells #[.string v1, .slice v2 v3 v4] 91) = wb at *
  have c0 := hb.cell 0
  have c1 := hb.cell 1
  simp only [List.getElem?_cons_zero, List.getElem?_cons_succ] at c0 c1
  go_wp2_with fail
  refine HS.out.mono ?_
  rintro e w1 ⟨rfl, q, hq⟩
  have h1 : T2 w1 B 124 3 91 p DK ks.length cK (ks.map (Value.int .i64)) DV vs.length cV (flatF vs) := by rw [hq]; exact HH.out.drewN q
  have b1 : Below B w w1 := by rw [hq]; exact below_drewN hal q
  have z1 : w1.heap.size = w.heap.size + 1 := by rw [hq]; exact hsb
  have k1 : Kp w w1 p DK DV := by rw [hq]; exact Kp.of_below (below_drewN hal' q)
  have hbx1 : Blk w1 w.heap.size 91 [.string v1, .slice v2 v3 v4] := by rw [hq]; exact hbx
  have hA := h1.below ((Below.refl _ _).alloc (Nat.le_refl _) (.cells #[(Value.int .i64) k] 3))
  have d0 := h1.b.cell 0
  have d1 := h1.b.cell 1
  simp only [List.getElem?_cons_zero, List.getElem?_cons_succ] at d0 d1
  have HI := Lib.hid (insertI_calls B DK ks.length cK i (ks.map (Value.int .i64)) ((Value.int .i64) k) w1.heap.size w1 (w1.alloc (.cells #[(Value.int .i64) k] 3)) hA.k hil (by omega) hA.mxk (Blk.new w1 3 #[(Value.int .i64) k]) (fun e => by have := (own_ltN h1.k e).1; omega) (oneKIF ks) rfl ((Below.refl B w1).alloc (by omega) _) (by simp; omega))
  rw [HMK.out] at HI
  unfold InsEndsI at HI
  rw [List.length_map, HLK.out] at HI
  have HA := Lib.hid hA
  have B1 : B ≤ w1.heap.size := by omega
  have HK1 := Lib.hid k1
  have HZ1 := Lib.hid z1
  have hbxA := hbx1.alloc (.cells #[(Value.int .i64) k] 3)
  clear hq h1 HS c0 c1 k1 z1 hb hbx hal hal' hsb hwb
  go_wp2_with fail
  refine HI.out.mono ?_
  rintro e w2 ⟨D2, c2, rfl, o2, kp2, b2, s2, m2⟩
  obtain ⟨t3, kp3, nw3⟩ := HA.out.setK (by decide) (by decide) kp2 o2 m2
  have hb2 := kp2.blk HA.out.b (own_ne_blkN HA.out.k HA.out.b (by decide))
  have hbx2 := kp2.blk_ne hA.k hbxA (by decide)
  have hbx3 := hbx2.far (p := ⟨p, 0, none⟩) (show w.heap.size ≠ p by omega) (.slice D2 (ks.length + 1) c2)
  have x0 := hbx2.cell 0
  have x1 := hbx2.cell 1
  have hwp : w.heap.size ≠ p := by omega
  have e0 := hb2.cell 0
  have e1 := hb2.cell 1
  have f0 := hb2.frozen 0
  simp only [List.getElem?_cons_zero, List.getElem?_cons_succ] at e0 e1 x0 x1
  have hs3 : (w2.setCell ⟨p, 0, none⟩ (.slice D2 (ks.length + 1) c2)).heap.size = w2.heap.size := by simp [World.setCell]
  have b3 : Below B w1 (w2.setCell ⟨p, 0, none⟩ (.slice D2 (ks.length + 1) c2)) := b2.setCell (p := ⟨p, 0, none⟩) HA.out.pB _
  have hB2 : B ≤ w2.heap.size := by simp at s2; omega
  have s2' : w1.heap.size ≤ w2.heap.size := by simp at s2; omega
  have HT3 := Lib.hid t3
  have kpA : Kp w1 (w2.setCell ⟨p, 0, none⟩ (.slice D2 (ks.length + 1) c2)) p DK DV := (Kp.of_below ((Below.refl _ _).alloc (Nat.le_refl _) _)).trans kp3 (by simp) (Nw.refl _ _) (Nw.refl _ _)
  have nwA : Nw w1 DK D2 := by
    rcases nw3 with h1 | ⟨g, h1, h2⟩
    · exact .inl h1
    · exact .inr ⟨g, h1, by simp at h2; omega⟩
  have HKA := Lib.hid kpA
  have HNA := Lib.hid nwA
  have hs3' : ((w2.setCell ⟨p, 0, none⟩ (.slice D2 (ks.length + 1) c2)).drewN 1).heap.size = w2.heap.size := hs3
  have hB' := (t3.drewN 1).below ((Below.refl _ _).alloc (Nat.le_refl _) (.cells #[.string v1, .slice v2 v3 v4] 91))
  have hbv : Blk (((w2.setCell ⟨p, 0, none⟩ (.slice D2 (ks.length + 1) c2)).drewN 1).alloc (.cells #[.string v1, .slice v2 v3 v4] 91)) w2.heap.size 91 [.string v1, .slice v2 v3 v4] := by have := Blk.new ((w2.setCell ⟨p, 0, none⟩ (.slice D2 (ks.length + 1) c2)).drewN 1) 91 #[.string v1, .slice v2 v3 v4]; rw [hs3'] at this; exact this
  have HI2 := Lib.hid (insertF_calls B DV vs.length cV i (flatF vs) [.string v1, .slice v2 v3 v4] w2.heap.size w1 (((w2.setCell ⟨p, 0, none⟩ (.slice D2 (ks.length + 1) c2)).drewN 1).alloc (.cells #[.string v1, .slice v2 v3 v4] 91)) hB'.v hiV (by omega) hB'.mxv hbv rfl (fun e => by have := (own_ltN t3.v e).1; rw [hs3] at this; omega) (oneVIF vs) (by intro u hu; simp at hu; rcases hu with rfl | rfl <;> rfl) ((below_drewN b3 1).alloc (by rw [hs3']; omega) _) (by simp; omega))
  rw [HMV.out] at HI2
  unfold InsEndsF at HI2
  have HB' := Lib.hid hB'
  have HS3 := Lib.hid hs3
  have HI3 : Hid (Calls Try.prog 87 #[.slice DV vs.length cV, .int .i64 (i : Int), .slice (some ⟨w2.heap.size, 0, none⟩) 1 1] (((w2.setCell ⟨p, 0, none⟩ (.slice D2 (ks.length + 1) c2)).drewN 1).alloc (.cells #[.string v1, .slice v2 v3 v4] 91)) fun e w4 => ∃ D4 c4, e = .returned (.slice D4 (vs.length + 1) c4) ∧ w4.cell? ⟨p, 1, none⟩ = some (.slice DV vs.length cV) ∧ w4.frozen? ⟨p, 1, none⟩ = false ∧ Hid (TEndsIF w B p DK DV (.bool true) (ks.take i ++ k :: ks.drop i) (vs.take i ++ ⟨v1, v2, v3, v4⟩ :: vs.drop i) (.returned (.bool true)) (w4.setCell ⟨p, 1, none⟩ (.slice D4 (vs.length + 1) c4)))) := (show Calls _ _ _ _ _ from by
    refine HI2.out.mono ?_
    rintro e w4 ⟨D4, c4, rfl, o4, kp4, b4, s4, m4⟩
    obtain ⟨t5, kp5, nw5⟩ := HB'.out.setV (by decide) (by decide) kp4 o4 m4
    have hb4 := kp4.blk HB'.out.b (own_ne_blkN HB'.out.v HB'.out.b (by decide))
    have g1 := hb4.cell 1
    have f1 := hb4.frozen 1
    simp only [List.getElem?_cons_zero, List.getElem?_cons_succ] at g1
    have z1 := HZ1.out
    refine ⟨D4, c4, rfl, g1, f1, (show TEndsIF _ _ _ _ _ _ _ _ _ _ from ?_)⟩
    refine ⟨rfl, D2, D4, ⟨c2, c4, by rw [HLK.out, HLV.out]; exact t5, by rw [HLK.out, HLV.out, HEQ.out]⟩, ?_, ?_, ?_, b1.trans (b4.setCell (p := ⟨p, 1, none⟩) HB'.out.pB _)⟩
    · refine HK1.out.trans (w' := w1) (HKA.out.trans (w' := (w2.setCell ⟨p, 0, none⟩ (.slice D2 (ks.length + 1) c2))) ((Kp.of_below ((below_drewN (Below.refl (w2.setCell ⟨p, 0, none⟩ (.slice D2 (ks.length + 1) c2)).heap.size (w2.setCell ⟨p, 0, none⟩ (.slice D2 (ks.length + 1) c2))) 1).alloc (Nat.le_refl _) (.cells #[.string v1, .slice v2 v3 v4] 91))).trans kp5 (by simp) (Nw.refl _ _) (Nw.refl _ _)) (by rw [hs3]; omega) HNA.out (Nw.refl _ _)) (by omega) (Nw.refl _ _) (Nw.refl _ _)
    · rcases HNA.out with h1 | ⟨g, h1, h2⟩
      · exact .inl h1
      · exact .inr ⟨g, h1, by omega⟩
    · rcases nw5 with h1 | ⟨g, h1, h2⟩
      · exact .inl h1
      · exact .inr ⟨g, h1, by simp at h2; omega⟩)
  have y0 : (w2.setCell ⟨p, 0, none⟩ (.slice D2 (ks.length + 1) c2)).cell? ⟨w.heap.size, 0, none⟩ = some (.string v1) := hbx3.cell 0
  have y1 : (w2.setCell ⟨p, 0, none⟩ (.slice D2 (ks.length + 1) c2)).cell? ⟨w.heap.size, 1, none⟩ = some (.slice v2 v3 v4) := hbx3.cell 1
  have y2 : (w2.setCell ⟨p, 0, none⟩ (.slice D2 (ks.length + 1) c2)).cell? ⟨p, 1, none⟩ = some (.slice DV vs.length cV) := t3.b.cell 1
  have y2a : (((w2.setCell ⟨p, 0, none⟩ (.slice D2 (ks.length + 1) c2)).drewN 1).alloc (.cells #[.string v1, .slice v2 v3 v4] 91)).cell? ⟨p, 1, none⟩ = some (.slice DV vs.length cV) := cell_alloc (w := (w2.setCell ⟨p, 0, none⟩ (.slice D2 (ks.length + 1) c2)).drewN 1) y2 _
  have y2b : ((w2.setCell ⟨p, 0, none⟩ (.slice D2 (ks.length + 1) c2)).alloc (.cells #[.string v1, .slice v2 v3 v4] 91)).cell? ⟨p, 1, none⟩ = some (.slice DV vs.length cV) := cell_alloc y2 _
  clear HI2 HB' HS3 HKA HNA HK1 HZ1 HLK HLV HMK HMV HEQ HH o2 kp2 b2 s2 m2 t3 kp3 nw3 hb2 b3 kpA nwA hB' hbv d0 d1 hs3' hbxA hA hbx1 hbx3 hbx2
  go_upto_region 6 with fail
  go_region_with (go_at_call 87; refine HI3.out.mono ?_; rintro e w4 ⟨D4, c4, rfl, g1, f1, HFin⟩)
  all_goals
    go_wp2_with fail
    go_ret
    exact HFin.out

end Go.Proofs.Ytbmgeomndfodpaa
