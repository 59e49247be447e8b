/-
  The contract of spoorlaw5.step (written by gen/sparsestep.py).
-/
import Derived.Test.YtepfmmphajdlfaaSparseStep
import Derived.Deep.AppendLies
namespace Go.Mem
open Go.RowKit
section
variable {w : World} {B : Nat} {e t : TypeId} (o : Obj) {sz : Nat}
theorem emptyA2 (h : B ≤ w.heap.size) : OwnB ((w.alloc (.cells #[] e)).drew) B e sz (some ⟨w.heap.size, 0, none⟩) 0 0 [] := (OwnB.empty rfl h).drewN 1
theorem emptyB2 (h : B ≤ w.heap.size) : OwnB (((w.alloc (.cells #[] e)).alloc o).drew) B e sz (some ⟨w.heap.size, 0, none⟩) 0 0 [] := ((OwnB.empty rfl h).alloc o).drewN 1
theorem emptyC2 (h : B ≤ w.heap.size) : OwnB (((w.alloc o).alloc (.cells #[] e)).drew) B e sz (some ⟨w.heap.size + 1, 0, none⟩) 0 0 [] := (OwnB.empty (W := w.alloc o) (by simp) (by omega)).drewN 1
theorem belowA2 {a : World} (h : Below B a w) (hB : B ≤ w.heap.size) : Below B a (w.alloc o).drew := (h.alloc hB o).drew
theorem belowB2 {a : World} (h : Below B a w) (hB : B ≤ w.heap.size) (o' : Obj) : Below B a ((w.alloc o).alloc o').drew := ((h.alloc hB o).alloc (by simp; omega) o').drew
theorem blkB2 (C : Array Value) : Blk (((w.alloc o).alloc (.cells C t)).drew) (w.heap.size + 1) t C.toList := by
  have h := Blk.new (w.alloc o) t C
  simpa using h.drew
theorem blkC2 (C : Array Value) : Blk (((w.alloc (.cells C t)).alloc o).drew) w.heap.size t C.toList := ((Blk.new w t C).alloc o).drew
theorem OwnB.zero3 {sz n c : Nat} {D : Option Addr} {pre : List Value} (h : OwnB w B e sz D (0 + n) c ([] ++ pre)) : OwnB w B e sz D n c pre := by simpa using h
theorem OwnB.zero4 {sz n c : Nat} {D : Option Addr} {pre : List Value} (h : OwnB w B e sz D (0 + n) c ([] ++ pre)) : OwnB w B e sz D (0 + n) c pre := h
theorem OwnB.nil_len {sz n c : Nat} {D : Option Addr} {pre : List Value} (h : OwnB w B e sz D n c pre) (hD : D = none) : n = 0 := by
  rcases h.2.2 with ⟨_, h3, _⟩ | ⟨g, sp, hd, _⟩
  · exact h3
  · rw [hD] at hd; cases hd
end
end Go.Mem
namespace Go.Proofs.Ytepfmmphajdlfaa
open Go.RowKit Go.Mem

theorem quietEq {P : Program} {f : FuncId} {args : Array Value} {w : World} {n : Nat} {v : Value} (h : Calls P f args (w.drewN n) fun e w' => e = .returned v ∧ w.drewN n = w') : Calls P f args (w.drewN n) fun e w'' => e = .returned v ∧ ∃ m, w'' = w.drewN m :=
  h.mono fun _ _ ⟨he, hm⟩ => ⟨he, n, hm.symm⟩
theorem flatI_one (xs : List (Nat × Int)) : ∀ u ∈ flatI xs, u.oneCell' = true := by
  intro u hu
  obtain ⟨r, _, hr⟩ := List.mem_flatMap.1 hu
  rcases List.mem_cons.1 hr with rfl | hr
  · rfl
  · rw [List.mem_singleton.1 hr]; rfl
/-- a list of rows lies in no block of the set's -/
theorem OwnB.sfr5 {w w' : World} {B B2 p g size c cD k : Nat} {L L' D : Option Addr} {xs : List (Nat × Int)} {pre : List Value} (h : OwnB w B2 140 2 D k cD pre) (hs : StI w B p g size L c xs) (f : SFr p g L L' w w') : OwnB w' B2 140 2 D k cD pre := by
  obtain ⟨h1, h2, h3⟩ := h
  refine ⟨h1, h2, ?_⟩
  rcases h3 with h3 | ⟨b, sp, hd, hg, hb, hc⟩
  · exact .inl h3
  · obtain ⟨ws, hws, _⟩ := hs.wh
    exact .inr ⟨b, sp, hd, hg, (f.block b hb.lt (hb.ne_ hs.obj (by decide)) (hb.ne_ hws (by decide)) (own_ne hs.own hb (by decide))).trans hb, hc⟩
theorem infoRow5 : (Try.prog.info? 140).map (fun i => (i.zero, i.size, i.bytes)) = some (some (.agg #[.int .i64 0, Value.int .i64 0]), 2, 16) := by kernel_rfl

def SStepEnds (a : World) (B p g sz : Nat) (e : Ending) (w' : World) : Prop := ∃ (L D : Option Addr) (c n cD : Nat) (ys : List (Nat × Int)), e = .returned (.tuple #[.slice D n cD, .bool true]) ∧ n = ys.length ∧ StI w' B p g sz L c ys ∧ OwnB w' B 140 2 D n cD (flatI ys) ∧ Below B a w'
section
variable (B p g sz c : Nat) (L D : Option Addr) (cD : Nat) (xs : List (Nat × Int)) (k i x : Int) (a w : World)

set_option maxRecDepth 100000 in
set_option maxHeartbeats 3200000 in
theorem step5_clear (h : StI w B p g sz L c xs) (ho : OwnB w B 140 2 D xs.length cD (flatI xs)) (hb : Below B a w) (hBw : B ≤ w.heap.size) :
    Calls Try.prog 55 #[.pointer (some ⟨p, 0, none⟩), .slice D xs.length cD, .int .i64 (sz : Int), .agg #[.int .i64 4, .int .i64 i, .int .i64 x]] w (SStepEnds a B p g sz) := by
  have hcnt := h.count
  have hmost := h.most
  have hal : Below w.heap.size w (w.alloc (.cells #[.int .i64 4, .int .i64 i, .int .i64 x] 90)) := (Below.refl _ _).alloc (Nat.le_refl _) _
  have hBq := Blk.new w 90 #[.int .i64 4, .int .i64 i, .int .i64 x]
  have H1 := Lib.hid (h.below hal)
  have HO := Lib.hid (ho.below hal)
  have HB := Lib.hid (hb.trans (hal.mono hBw))
  obtain ⟨ws1, hws1, _⟩ := h.wh
  have n1 : w.heap.size ≠ p := Ne.symm (Nat.ne_of_lt h.obj.lt)
  have n2 : w.heap.size ≠ g := Ne.symm (Nat.ne_of_lt hws1.lt)
  have n3 : L ≠ some ⟨w.heap.size, 0, none⟩ := fun e => Nat.lt_irrefl _ (OwnB.lt_ h.own _ e)
  have hB1 : B ≤ (w.alloc (.cells #[.int .i64 4, .int .i64 i, .int .i64 x] 90)).heap.size := by simp; omega
  have HF := Lib.hid (find_calls B D xs.length cD xs i (w.alloc (.cells #[.int .i64 4, .int .i64 i, .int .i64 x] 90)) rfl (by omega) (ho.below hal))
  clear hws1 hal h ho hb
  go_enter Try.func55, Try.ntmps55
  go_wp2_with fail
  refine HF.out.mono ?_
  unfold FndEnds
  rintro e w2 ⟨v, rfl, hv, rfl⟩
  clear HF
  generalize w.alloc (.cells #[.int .i64 4, .int .i64 i, .int .i64 x] 90) = w1 at H1 HO HB hBq hB1 ⊢
  have k0 := hBq.cell 0
  have k1 := hBq.cell 1
  have k2 := hBq.cell 2
  simp only [List.getElem?_cons_zero, List.getElem?_cons_succ] at k0 k1 k2
  generalize w.heap.size = q at k0 k1 k2 n1 n2 n3 hBq hBw ⊢
  clear hBq hBw
  clear hv
  go_wp2_with fail
  refine (sclearI_calls B p g sz c L xs _ H1.out).mono ?_
  unfold SEndsI
  rintro e w3 ⟨L3, c3, rfl, h3, f3⟩
  have hb3 := below_setI HB.out H1.out f3
  have HFin : Hid (SStepEnds a B p g sz (.returned (.tuple #[.slice none 0 0, .bool true])) w3) := (show SStepEnds _ _ _ _ _ _ _ from ⟨L3, none, c3, 0, 0, [], rfl, rfl, h3, OwnB.nil _ _ _ _, hb3⟩)
  clear H1 HO HB h3 f3 hb3
  go_wp2_with fail
  go_ret2
  exact HFin.out

set_option maxRecDepth 100000 in
set_option maxHeartbeats 3200000 in
theorem step5_else (h : StI w B p g sz L c xs) (ho : OwnB w B 140 2 D xs.length cD (flatI xs)) (hb : Below B a w) (hBw : B ≤ w.heap.size) (h1 : k ≠ 1) (h2 : k ≠ 2) (h3 : k ≠ 3) (h4 : k ≠ 4) :
    Calls Try.prog 55 #[.pointer (some ⟨p, 0, none⟩), .slice D xs.length cD, .int .i64 (sz : Int), .agg #[.int .i64 k, .int .i64 i, .int .i64 x]] w (SStepEnds a B p g sz) := by
  have hcnt := h.count
  have hmost := h.most
  have hal : Below w.heap.size w (w.alloc (.cells #[.int .i64 k, .int .i64 i, .int .i64 x] 90)) := (Below.refl _ _).alloc (Nat.le_refl _) _
  have hBq := Blk.new w 90 #[.int .i64 k, .int .i64 i, .int .i64 x]
  have H1 := Lib.hid (h.below hal)
  have HO := Lib.hid (ho.below hal)
  have HB := Lib.hid (hb.trans (hal.mono hBw))
  obtain ⟨ws1, hws1, _⟩ := h.wh
  have n1 : w.heap.size ≠ p := Ne.symm (Nat.ne_of_lt h.obj.lt)
  have n2 : w.heap.size ≠ g := Ne.symm (Nat.ne_of_lt hws1.lt)
  have n3 : L ≠ some ⟨w.heap.size, 0, none⟩ := fun e => Nat.lt_irrefl _ (OwnB.lt_ h.own _ e)
  have hB1 : B ≤ (w.alloc (.cells #[.int .i64 k, .int .i64 i, .int .i64 x] 90)).heap.size := by simp; omega
  have HF := Lib.hid (find_calls B D xs.length cD xs i (w.alloc (.cells #[.int .i64 k, .int .i64 i, .int .i64 x] 90)) rfl (by omega) (ho.below hal))
  clear hws1 hal h ho hb
  go_enter Try.func55, Try.ntmps55
  go_wp2_with fail
  refine HF.out.mono ?_
  unfold FndEnds
  rintro e w2 ⟨v, rfl, hv, rfl⟩
  clear HF
  generalize w.alloc (.cells #[.int .i64 k, .int .i64 i, .int .i64 x] 90) = w1 at H1 HO HB hBq hB1 ⊢
  have k0 := hBq.cell 0
  have k1 := hBq.cell 1
  have k2 := hBq.cell 2
  simp only [List.getElem?_cons_zero, List.getElem?_cons_succ] at k0 k1 k2
  generalize w.heap.size = q at k0 k1 k2 n1 n2 n3 hBq hBw ⊢
  clear hBq hBw
  clear hv
  have e1 : (k == 1) = false := beq_eq_false_iff_ne.2 h1
  have e2 : (k == 2) = false := beq_eq_false_iff_ne.2 h2
  have e3 : (k == 3) = false := beq_eq_false_iff_ne.2 h3
  have e4 : (k == 4) = false := beq_eq_false_iff_ne.2 h4
  have HFin : Hid (SStepEnds a B p g sz (.returned (.tuple #[.slice D xs.length cD, .bool true])) w1) := (show SStepEnds _ _ _ _ _ _ _ from ⟨L, D, c, _, cD, xs, rfl, rfl, H1.out, HO.out, HB.out⟩)
  clear H1 HO HB h1 h2 h3 h4
  go_wp2_with fail
  go_ret2
  exact HFin.out

set_option maxRecDepth 100000 in
set_option maxHeartbeats 3200000 in
theorem step5_no (h : StI w B p g sz L c xs) (ho : OwnB w B 140 2 D xs.length cD (flatI xs)) (hb : Below B a w) (hBw : B ≤ w.heap.size) (hcan : canI xs sz i = false) :
    Calls Try.prog 55 #[.pointer (some ⟨p, 0, none⟩), .slice D xs.length cD, .int .i64 (sz : Int), .agg #[.int .i64 1, .int .i64 i, .int .i64 x]] w (SStepEnds a B p g sz) := by
  have hcnt := h.count
  have hmost := h.most
  have hal : Below w.heap.size w (w.alloc (.cells #[.int .i64 1, .int .i64 i, .int .i64 x] 90)) := (Below.refl _ _).alloc (Nat.le_refl _) _
  have hBq := Blk.new w 90 #[.int .i64 1, .int .i64 i, .int .i64 x]
  have H1 := Lib.hid (h.below hal)
  have HO := Lib.hid (ho.below hal)
  have HB := Lib.hid (hb.trans (hal.mono hBw))
  obtain ⟨ws1, hws1, _⟩ := h.wh
  have n1 : w.heap.size ≠ p := Ne.symm (Nat.ne_of_lt h.obj.lt)
  have n2 : w.heap.size ≠ g := Ne.symm (Nat.ne_of_lt hws1.lt)
  have n3 : L ≠ some ⟨w.heap.size, 0, none⟩ := fun e => Nat.lt_irrefl _ (OwnB.lt_ h.own _ e)
  have hB1 : B ≤ (w.alloc (.cells #[.int .i64 1, .int .i64 i, .int .i64 x] 90)).heap.size := by simp; omega
  have HF := Lib.hid (find_calls B D xs.length cD xs i (w.alloc (.cells #[.int .i64 1, .int .i64 i, .int .i64 x] 90)) rfl (by omega) (ho.below hal))
  clear hws1 hal h ho hb
  go_enter Try.func55, Try.ntmps55
  go_wp2_with fail
  refine HF.out.mono ?_
  unfold FndEnds
  rintro e w2 ⟨v, rfl, hv, rfl⟩
  clear HF
  generalize w.alloc (.cells #[.int .i64 1, .int .i64 i, .int .i64 x] 90) = w1 at H1 HO HB hBq hB1 ⊢
  have k0 := hBq.cell 0
  have k1 := hBq.cell 1
  have k2 := hBq.cell 2
  simp only [List.getElem?_cons_zero, List.getElem?_cons_succ] at k0 k1 k2
  generalize w.heap.size = q at k0 k1 k2 n1 n2 n3 hBq hBw ⊢
  clear hBq hBw
  rcases hv with ⟨rfl, hno⟩ | ⟨r, rr, rfl, hr, he, hl⟩
  · have hm := (fnd_no hno).1
    have hi : ¬ (0 ≤ i ∧ i < (sz : Int)) := fun hh => by
      unfold canI at hcan
      rw [hm, decide_eq_true hh] at hcan
      cases hcan
    clear hno hm
    by_cases h0 : 0 ≤ i
    · have hd1 : decide (0 ≤ i) = true := decide_eq_true h0
      have hd2 : decide (i < (sz : Int)) = false := decide_eq_false (by omega)
      go_wp2_with fail
      refine (saddI_no B p g sz c L xs i x _ H1.out hcan).mono ?_
      unfold SEndsI
      rintro e w3 ⟨L3, c3, rfl, h3, f3⟩
      have HFin : Hid (SStepEnds a B p g sz (.returned (.tuple #[.slice D xs.length cD, .bool true])) w3) := (show SStepEnds _ _ _ _ _ _ _ from ⟨L3, D, c3, _, cD, xs, rfl, rfl, h3, OwnB.sfr5 HO.out H1.out f3, below_setI HB.out H1.out f3⟩)
      have k0' := keep_sfr f3 k0 n1 n2 n3
      clear H1 HO HB h3 f3 k0 k1 k2
      go_wp2_with fail
      go_ret2
      exact HFin.out
    · have hd1 : decide (0 ≤ i) = false := decide_eq_false h0
      go_wp2_with fail
      refine (saddI_no B p g sz c L xs i x _ H1.out hcan).mono ?_
      unfold SEndsI
      rintro e w3 ⟨L3, c3, rfl, h3, f3⟩
      have HFin : Hid (SStepEnds a B p g sz (.returned (.tuple #[.slice D xs.length cD, .bool true])) w3) := (show SStepEnds _ _ _ _ _ _ _ from ⟨L3, D, c3, _, cD, xs, rfl, rfl, h3, OwnB.sfr5 HO.out H1.out f3, below_setI HB.out H1.out f3⟩)
      have k0' := keep_sfr f3 k0 n1 n2 n3
      clear H1 HO HB h3 f3 k0 k1 k2
      go_wp2_with fail
      go_ret2
      exact HFin.out
  · have hd1 : decide ((r : Int) < 0) = false := decide_eq_false (by omega)
    clear hr he hl
    go_wp2_with fail
    refine (saddI_no B p g sz c L xs i x _ H1.out hcan).mono ?_
    unfold SEndsI
    rintro e w3 ⟨L3, c3, rfl, h3, f3⟩
    have HFin : Hid (SStepEnds a B p g sz (.returned (.tuple #[.slice D xs.length cD, .bool true])) w3) := (show SStepEnds _ _ _ _ _ _ _ from ⟨L3, D, c3, _, cD, xs, rfl, rfl, h3, OwnB.sfr5 HO.out H1.out f3, below_setI HB.out H1.out f3⟩)
    have k0' := keep_sfr f3 k0 n1 n2 n3
    clear H1 HO HB h3 f3 k0 k1 k2
    go_wp2_with fail
    go_ret2
    exact HFin.out

set_option maxRecDepth 100000 in
set_option maxHeartbeats 3200000 in
theorem step5_add (j : Nat) (h : StI w B p g sz L c xs) (ho : OwnB w B 140 2 D xs.length cD (flatI xs)) (hb : Below B a w) (hBw : B ≤ w.heap.size) (hj : j < sz) (hm : membI xs (j : Int) = false) :
    Calls Try.prog 55 #[.pointer (some ⟨p, 0, none⟩), .slice D xs.length cD, .int .i64 (sz : Int), .agg #[.int .i64 1, .int .i64 (j : Int), .int .i64 x]] w (SStepEnds a B p g sz) := by
  have hcnt := h.count
  have hmost := h.most
  have hal : Below w.heap.size w (w.alloc (.cells #[.int .i64 1, .int .i64 (j : Int), .int .i64 x] 90)) := (Below.refl _ _).alloc (Nat.le_refl _) _
  have hBq := Blk.new w 90 #[.int .i64 1, .int .i64 (j : Int), .int .i64 x]
  have H1 := Lib.hid (h.below hal)
  have HO := Lib.hid (ho.below hal)
  have HB := Lib.hid (hb.trans (hal.mono hBw))
  obtain ⟨ws1, hws1, _⟩ := h.wh
  have n1 : w.heap.size ≠ p := Ne.symm (Nat.ne_of_lt h.obj.lt)
  have n2 : w.heap.size ≠ g := Ne.symm (Nat.ne_of_lt hws1.lt)
  have n3 : L ≠ some ⟨w.heap.size, 0, none⟩ := fun e => Nat.lt_irrefl _ (OwnB.lt_ h.own _ e)
  have hB1 : B ≤ (w.alloc (.cells #[.int .i64 1, .int .i64 (j : Int), .int .i64 x] 90)).heap.size := by simp; omega
  have HF := Lib.hid (find_calls B D xs.length cD xs (j : Int) (w.alloc (.cells #[.int .i64 1, .int .i64 (j : Int), .int .i64 x] 90)) rfl (by omega) (ho.below hal))
  clear hws1 hal h ho hb
  go_enter Try.func55, Try.ntmps55
  go_wp2_with fail
  refine HF.out.mono ?_
  unfold FndEnds
  rintro e w2 ⟨v, rfl, hv, rfl⟩
  clear HF
  generalize w.alloc (.cells #[.int .i64 1, .int .i64 (j : Int), .int .i64 x] 90) = w1 at H1 HO HB hBq hB1 ⊢
  have k0 := hBq.cell 0
  have k1 := hBq.cell 1
  have k2 := hBq.cell 2
  simp only [List.getElem?_cons_zero, List.getElem?_cons_succ] at k0 k1 k2
  generalize w.heap.size = q at k0 k1 k2 n1 n2 n3 hBq hBw ⊢
  clear hBq hBw
  rcases hv with ⟨rfl, hno⟩ | ⟨r, rr, rfl, hr, he, hl⟩
  · clear hno
    have hd1 : decide (0 ≤ (j : Int)) = true := decide_eq_true (by omega)
    have hd2 : decide ((j : Int) < (sz : Int)) = true := decide_eq_true (by omega)
    obtain ⟨i0, hi, hz0, hz1, hz2⟩ := info_parts infoRow5
    go_wp2_with fail
    refine (saddI_ok B p g sz c L xs j x _ H1.out hj hm).mono ?_
    unfold SEndsI
    rintro e w3 ⟨L3, c3, rfl, h3, f3⟩
    have H3 := Lib.hid h3
    have HO3 := Lib.hid (OwnB.sfr5 HO.out H1.out f3)
    have HB3 := Lib.hid (below_setI HB.out H1.out f3)
    have k0' := keep_sfr f3 k0 n1 n2 n3
    have k1' := keep_sfr f3 k1 n1 n2 n3
    have k2' := keep_sfr f3 k2 n1 n2 n3
    have hq : q < w3.heap.size := World.block_lt_of_cell? w3 _ k1'
    have hB3 : B ≤ w3.heap.size := Nat.le_trans hB1 f3.size
    have HN := Lib.hid (HO3.out.nil_len)
    clear H1 HO HB h3 f3 k0 k1 k2 hB1 hj hd1 hd2
    go_wp2_with fail
    go_region_held3 (fun w' => w'.cell? ⟨q, 1, none⟩ = some (.int .i64 (j : Int)) ∧ w'.cell? ⟨q, 2, none⟩ = some (.int .i64 x)) (first | (exact ⟨c4', c5'⟩) | (exact ⟨(hb5.cell (p := ⟨q, 1, none⟩) hq).trans k1', (hb5.cell (p := ⟨q, 2, none⟩) hq).trans k2'⟩) | go_keep) (first | (refine step_append_ownK (o := ⟨some 50, _, _, _, _, _⟩) (by rfl) (.tmp 48) (.tmp 49) 86 86 (by rfl) 140 i0 (.agg #[.int .i64 0, Value.int .i64 0]) 2 16 Try.underlying86 hi hz0 hz1 hz2 rfl w3.heap.size _ 0 0 [] (by rfl) (by first | exact emptyA2 (Nat.le_refl _) | exact emptyB2 _ (Nat.le_refl _) | exact emptyC2 _ (Nat.le_refl _)) (.slice D xs.length cD) (by rfl) xs.length (flatI xs) (srcOfSl Try.underlying86 (flatI_length xs) (fun e => List.eq_nil_of_length_eq_zero (by rw [flatI_length]; omega)) (by first | exact (HO3.out.sl.alloc _).drew | exact ((HO3.out.sl.alloc _).alloc _).drew) HN.out (flatI_one xs)) (by omega) (by omega) w3 (by first | exact belowA2 _ (Below.refl _ _) (Nat.le_refl _) | exact belowB2 _ (Below.refl _ _) (Nat.le_refl _) _) (by simp; try omega) ?_; intro w4 D4 c4 HO4 HK4 hb4 hsz4; have HO4' := Lib.hid HO4.out.zero3; have HO4z := Lib.hid HO4.out.zero4; have hsz4' := hb4.size; have c4' := (hb4.cell (p := ⟨q, 1, none⟩) hq).trans k1'; have c5' := (hb4.cell (p := ⟨q, 2, none⟩) hq).trans k2'; (first | (have hX := HK4.out.blk (blkB2 _ #[.int .i64 (j : Int), .int .i64 x]) (by simp)) | (have hX := HK4.out.blk (blkC2 _ #[.int .i64 (j : Int), .int .i64 x]) (by simp)) | skip)) | (refine step_append_ownK (o := ⟨some 57, _, _, _, _, _⟩) (by rfl) (.tmp 50) (.tmp 56) 86 86 (by rfl) 140 i0 (.agg #[.int .i64 0, Value.int .i64 0]) 2 16 Try.underlying86 hi hz0 hz1 hz2 rfl w3.heap.size D4 _ c4 (flatI xs) (by rfl) (by first | exact HO4'.out | exact HO4'.out.alloc _ | exact HO4z.out | exact HO4z.out.alloc _) _ (by rfl) 1 [.int .i64 (j : Int), .int .i64 x] (by first | exact srcOfSl Try.underlying86 rfl (by omega) hX.sl (fun e => by cases e) (by simp [Value.oneCell']) | exact srcOfSl Try.underlying86 rfl (by omega) (Sl.new rfl rfl) (fun e => by cases e) (by simp [Value.oneCell'])) (by omega) (by omega) w3 (by first | exact hb4 | exact hb4.alloc hsz4' _) (by first | exact hsz4' | (simp; omega)) ?_; intro w5 D5 c5 HO5 HK5 hb5 hsz5))
    all_goals
      have HFin : Hid (SStepEnds a B p g sz (.returned (.tuple #[.slice D5 (xs.length + 1) c5, .bool true])) w5) := (show SStepEnds _ _ _ _ _ _ _ from ⟨L3, D5, c3, _, c5, xs ++ [(j, x)], rfl, by simp, H3.out.below hb5, by
        have h := HO5.out.mono hB3
        rw [flatI_app]
        first | exact h | (rw [Nat.zero_add] at h; exact h), HB3.out.trans (hb5.mono hB3)⟩)
      clear HO4 HK4 hb4 hsz4 HK5 hb5 hsz5 HO5 H3 HO3 HB3 HO4' HO4z hsz4' k0' k1' k2'
      go_wp2_with fail
      go_ret2
      exact HFin.out
  · rw [(fnd_yes r rr hr he hl).1] at hm
    cases hm

set_option maxRecDepth 100000 in
set_option maxHeartbeats 3200000 in
theorem step5_get (h : StI w B p g sz L c xs) (ho : OwnB w B 140 2 D xs.length cD (flatI xs)) (hb : Below B a w) (hBw : B ≤ w.heap.size) :
    Calls Try.prog 55 #[.pointer (some ⟨p, 0, none⟩), .slice D xs.length cD, .int .i64 (sz : Int), .agg #[.int .i64 2, .int .i64 i, .int .i64 x]] w (SStepEnds a B p g sz) := by
  have hcnt := h.count
  have hmost := h.most
  have HG := Lib.hid (fun (W : World) (h : StI W B p g sz L c xs) => sgetI_calls B p g sz c L xs i W h)
  have HH := Lib.hid (fun (W : World) (h : StI W B p g sz L c xs) => hasI_calls B p g sz c L xs i W h)
  have hal : Below w.heap.size w (w.alloc (.cells #[.int .i64 2, .int .i64 i, .int .i64 x] 90)) := (Below.refl _ _).alloc (Nat.le_refl _) _
  have hBq := Blk.new w 90 #[.int .i64 2, .int .i64 i, .int .i64 x]
  have H1 := Lib.hid (h.below hal)
  have HO := Lib.hid (ho.below hal)
  have HB := Lib.hid (hb.trans (hal.mono hBw))
  obtain ⟨ws1, hws1, _⟩ := h.wh
  have n1 : w.heap.size ≠ p := Ne.symm (Nat.ne_of_lt h.obj.lt)
  have n2 : w.heap.size ≠ g := Ne.symm (Nat.ne_of_lt hws1.lt)
  have n3 : L ≠ some ⟨w.heap.size, 0, none⟩ := fun e => Nat.lt_irrefl _ (OwnB.lt_ h.own _ e)
  have hB1 : B ≤ (w.alloc (.cells #[.int .i64 2, .int .i64 i, .int .i64 x] 90)).heap.size := by simp; omega
  have HF := Lib.hid (find_calls B D xs.length cD xs i (w.alloc (.cells #[.int .i64 2, .int .i64 i, .int .i64 x] 90)) rfl (by omega) (ho.below hal))
  clear hws1 hal h ho hb
  go_enter Try.func55, Try.ntmps55
  go_wp2_with fail
  refine HF.out.mono ?_
  unfold FndEnds
  rintro e w2 ⟨v, rfl, hv, rfl⟩
  clear HF
  generalize w.alloc (.cells #[.int .i64 2, .int .i64 i, .int .i64 x] 90) = w1 at H1 HO HB hBq hB1 ⊢
  have k0 := hBq.cell 0
  have k1 := hBq.cell 1
  have k2 := hBq.cell 2
  simp only [List.getElem?_cons_zero, List.getElem?_cons_succ] at k0 k1 k2
  generalize w.heap.size = q at k0 k1 k2 n1 n2 n3 hBq hBw ⊢
  clear hBq hBw
  rcases hv with ⟨hv, hno⟩ | ⟨r, rr, rfl, hr, he, hl⟩
  · obtain ⟨m1, m2⟩ := fnd_no hno
    rw [m1] at HG
    generalize getI xs i = z at HG m2
    have hz : (z == 0) = true := beq_iff_eq.2 m2
    have hd1 : decide (v < 0) = true := decide_eq_true (by omega)
    have hd2 : decide (0 ≤ v) = false := decide_eq_false (by omega)
    rw [m1] at HH
    unfold I64 at HG
    clear hno m1 m2 hv
    go_wp2_with fail
    refine (HG.out _ H1.out).mono ?_
    unfold SQuietI
    rintro e w3 ⟨rfl, q3, rfl⟩
    have H3 := Lib.hid (H1.out.drewN q3)
    have HO3 := Lib.hid (HO.out.drewN q3)
    have HB3 := Lib.hid (below_drewN HB.out q3)
    have k1p : (w1.drewN q3).cell? ⟨q, 1, none⟩ = some (.int .i64 i) := k1
    clear H1 HO HB k0 k1 k2 hB1
    generalize w1.drewN q3 = w3 at *
    go_wp2_with fail
    go_quiet ((go_at_call_of 60 p; refine quietEq (HH.out _ (H3.out.drewN _))))
    have HFin : Hid (∀ m, SStepEnds a B p g sz (.returned (.tuple #[.slice D xs.length cD, .bool true])) (w3.drewN m)) := (show ∀ m, SStepEnds _ _ _ _ _ _ _ from fun m => ⟨L, _, c, _, cD, xs, rfl, rfl, H3.out.drewN m, HO3.out.drewN m, below_drewN HB3.out m⟩)
    clear H3 HO3 HB3
    go_wp2_with fail
    go_ret2
    exact HFin.out _
  · obtain ⟨m1, m2⟩ := fnd_yes r rr hr he hl
    rw [m1, m2] at HG
    rw [m1] at HH
    unfold I64 at HG
    have hr0 : (0 : Int) ≤ (r : Int) := Int.natCast_nonneg _
    have hrl : r < xs.length := (List.getElem?_eq_some_iff.1 hr).1
    have hr1 : (r : Int) < (xs.length : Int) := by omega
    have hd1 : decide (0 ≤ (r : Int)) = true := decide_eq_true hr0
    have hd2 : decide ((r : Int) < 0) = false := decide_eq_false (by omega)
    obtain ⟨b, o, hD, hca⟩ := HO.out.sl _ _ (flatI_at xs r rr hr).2
    subst hD
    unfold I64 at hca
    rw [← Nat.add_assoc] at hca
    clear hr he hl m1 m2
    obtain ⟨ri, rx⟩ := rr
    have hxx : (rx == rx) = true := beq_iff_eq.2 rfl
    go_wp2_with fail
    refine (HG.out _ H1.out).mono ?_
    unfold SQuietI
    rintro e w3 ⟨rfl, q3, rfl⟩
    have H3 := Lib.hid (H1.out.drewN q3)
    have HO3 := Lib.hid (HO.out.drewN q3)
    have HB3 := Lib.hid (below_drewN HB.out q3)
    have k1p : (w1.drewN q3).cell? ⟨q, 1, none⟩ = some (.int .i64 i) := k1
    have hcp : (w1.drewN q3).cell? ⟨b, o + r * 2 + 1, none⟩ = some (.int .i64 rx) := hca
    clear hca
    clear H1 HO HB k0 k1 k2 hB1
    generalize w1.drewN q3 = w3 at *
    go_wp2_with fail
    go_quiet ((go_at_call_of 60 p; refine quietEq (HH.out _ (H3.out.drewN _))))
    have HFin : Hid (∀ m, SStepEnds a B p g sz (.returned (.tuple #[.slice (some ⟨b, o, none⟩) xs.length cD, .bool true])) (w3.drewN m)) := (show ∀ m, SStepEnds _ _ _ _ _ _ _ from fun m => ⟨L, _, c, _, cD, xs, rfl, rfl, H3.out.drewN m, HO3.out.drewN m, below_drewN HB3.out m⟩)
    clear H3 HO3 HB3
    go_wp2_with fail
    go_ret2
    exact HFin.out _

set_option maxRecDepth 100000 in
set_option maxHeartbeats 3200000 in
theorem step5_at_no (h : StI w B p g sz L c xs) (ho : OwnB w B 140 2 D xs.length cD (flatI xs)) (hb : Below B a w) (hBw : B ≤ w.heap.size) (hi : ¬ (0 ≤ i ∧ i < (xs.length : Int))) :
    Calls Try.prog 55 #[.pointer (some ⟨p, 0, none⟩), .slice D xs.length cD, .int .i64 (sz : Int), .agg #[.int .i64 3, .int .i64 i, .int .i64 x]] w (SStepEnds a B p g sz) := by
  have hcnt := h.count
  have hmost := h.most
  have HA := Lib.hid (fun (W : World) (h : StI W B p g sz L c xs) => satI_calls B p g sz c L xs i W h)
  have hrow : rowI xs i = none := by
    unfold rowI
    split
    · exact List.getElem?_eq_none (by omega)
    · rfl
  rw [hrow] at HA
  simp only [rowVI] at HA
  clear hrow
  have hal : Below w.heap.size w (w.alloc (.cells #[.int .i64 3, .int .i64 i, .int .i64 x] 90)) := (Below.refl _ _).alloc (Nat.le_refl _) _
  have hBq := Blk.new w 90 #[.int .i64 3, .int .i64 i, .int .i64 x]
  have H1 := Lib.hid (h.below hal)
  have HO := Lib.hid (ho.below hal)
  have HB := Lib.hid (hb.trans (hal.mono hBw))
  obtain ⟨ws1, hws1, _⟩ := h.wh
  have n1 : w.heap.size ≠ p := Ne.symm (Nat.ne_of_lt h.obj.lt)
  have n2 : w.heap.size ≠ g := Ne.symm (Nat.ne_of_lt hws1.lt)
  have n3 : L ≠ some ⟨w.heap.size, 0, none⟩ := fun e => Nat.lt_irrefl _ (OwnB.lt_ h.own _ e)
  have hB1 : B ≤ (w.alloc (.cells #[.int .i64 3, .int .i64 i, .int .i64 x] 90)).heap.size := by simp; omega
  have HF := Lib.hid (find_calls B D xs.length cD xs i (w.alloc (.cells #[.int .i64 3, .int .i64 i, .int .i64 x] 90)) rfl (by omega) (ho.below hal))
  clear hws1 hal h ho hb
  go_enter Try.func55, Try.ntmps55
  go_wp2_with fail
  refine HF.out.mono ?_
  unfold FndEnds
  rintro e w2 ⟨v, rfl, hv, rfl⟩
  clear HF
  generalize w.alloc (.cells #[.int .i64 3, .int .i64 i, .int .i64 x] 90) = w1 at H1 HO HB hBq hB1 ⊢
  have k0 := hBq.cell 0
  have k1 := hBq.cell 1
  have k2 := hBq.cell 2
  simp only [List.getElem?_cons_zero, List.getElem?_cons_succ] at k0 k1 k2
  generalize w.heap.size = q at k0 k1 k2 n1 n2 n3 hBq hBw ⊢
  clear hBq hBw
  clear hv
  by_cases h0 : i < 0
  · have hd1 : decide (i < 0) = true := decide_eq_true h0
    go_wp2_with fail
    refine (HA.out _ H1.out).mono ?_
    unfold SQuietI
    rintro e w3 ⟨rfl, q3, rfl⟩
    have HFin : Hid (SStepEnds a B p g sz (.returned (.tuple #[.slice D xs.length cD, .bool true])) (w1.drewN q3)) := (show SStepEnds _ _ _ _ _ _ _ from ⟨L, _, c, _, cD, xs, rfl, rfl, H1.out.drewN q3, HO.out.drewN q3, below_drewN HB.out q3⟩)
    have k1p : (w1.drewN q3).cell? ⟨q, 1, none⟩ = some (.int .i64 i) := k1
    clear H1 HO HB k0 k1 k2 hB1
    generalize w1.drewN q3 = w3 at *
    go_wp2_with fail
    go_ret2
    exact HFin.out
  · have hd1 : decide (i < 0) = false := decide_eq_false h0
    have hd2 : decide ((xs.length : Int) ≤ i) = true := decide_eq_true (by omega)
    go_wp2_with fail
    refine (HA.out _ H1.out).mono ?_
    unfold SQuietI
    rintro e w3 ⟨rfl, q3, rfl⟩
    have HFin : Hid (SStepEnds a B p g sz (.returned (.tuple #[.slice D xs.length cD, .bool true])) (w1.drewN q3)) := (show SStepEnds _ _ _ _ _ _ _ from ⟨L, _, c, _, cD, xs, rfl, rfl, H1.out.drewN q3, HO.out.drewN q3, below_drewN HB.out q3⟩)
    have k1p : (w1.drewN q3).cell? ⟨q, 1, none⟩ = some (.int .i64 i) := k1
    clear H1 HO HB k0 k1 k2 hB1
    generalize w1.drewN q3 = w3 at *
    go_wp2_with fail
    go_ret2
    exact HFin.out

set_option maxRecDepth 100000 in
set_option maxHeartbeats 3200000 in
theorem step5_at (j : Nat) (h : StI w B p g sz L c xs) (ho : OwnB w B 140 2 D xs.length cD (flatI xs)) (hb : Below B a w) (hBw : B ≤ w.heap.size) (hj : j < xs.length) :
    Calls Try.prog 55 #[.pointer (some ⟨p, 0, none⟩), .slice D xs.length cD, .int .i64 (sz : Int), .agg #[.int .i64 3, .int .i64 (j : Int), .int .i64 x]] w (SStepEnds a B p g sz) := by
  have hcnt := h.count
  have hmost := h.most
  have HA := Lib.hid (fun (W : World) (h : StI W B p g sz L c xs) => satI_calls B p g sz c L xs (j : Int) W h)
  have hr : xs[j]? = some xs[j] := List.getElem?_eq_getElem hj
  have hrow : rowI xs (j : Int) = some xs[j] := by unfold rowI; rw [if_pos (Int.natCast_nonneg _)]; exact hr
  rw [hrow] at HA
  generalize xs[j] = rr at HA hr
  obtain ⟨ri, rx⟩ := rr
  simp only [rowVI] at HA
  unfold I64 at HA
  clear hrow
  have hal : Below w.heap.size w (w.alloc (.cells #[.int .i64 3, .int .i64 (j : Int), .int .i64 x] 90)) := (Below.refl _ _).alloc (Nat.le_refl _) _
  have hBq := Blk.new w 90 #[.int .i64 3, .int .i64 (j : Int), .int .i64 x]
  have H1 := Lib.hid (h.below hal)
  have HO := Lib.hid (ho.below hal)
  have HB := Lib.hid (hb.trans (hal.mono hBw))
  obtain ⟨ws1, hws1, _⟩ := h.wh
  have n1 : w.heap.size ≠ p := Ne.symm (Nat.ne_of_lt h.obj.lt)
  have n2 : w.heap.size ≠ g := Ne.symm (Nat.ne_of_lt hws1.lt)
  have n3 : L ≠ some ⟨w.heap.size, 0, none⟩ := fun e => Nat.lt_irrefl _ (OwnB.lt_ h.own _ e)
  have hB1 : B ≤ (w.alloc (.cells #[.int .i64 3, .int .i64 (j : Int), .int .i64 x] 90)).heap.size := by simp; omega
  have HF := Lib.hid (find_calls B D xs.length cD xs (j : Int) (w.alloc (.cells #[.int .i64 3, .int .i64 (j : Int), .int .i64 x] 90)) rfl (by omega) (ho.below hal))
  clear hws1 hal h ho hb
  go_enter Try.func55, Try.ntmps55
  go_wp2_with fail
  refine HF.out.mono ?_
  unfold FndEnds
  rintro e w2 ⟨v, rfl, hv, rfl⟩
  clear HF
  generalize w.alloc (.cells #[.int .i64 3, .int .i64 (j : Int), .int .i64 x] 90) = w1 at H1 HO HB hBq hB1 ⊢
  have k0 := hBq.cell 0
  have k1 := hBq.cell 1
  have k2 := hBq.cell 2
  simp only [List.getElem?_cons_zero, List.getElem?_cons_succ] at k0 k1 k2
  generalize w.heap.size = q at k0 k1 k2 n1 n2 n3 hBq hBw ⊢
  clear hBq hBw
  · clear hv
    have hj0 : (0 : Int) ≤ (j : Int) := Int.natCast_nonneg _
    have hj1 : (j : Int) < (xs.length : Int) := by omega
    have hd1 : decide ((j : Int) < 0) = false := decide_eq_false (by omega)
    have hd2 : decide ((xs.length : Int) ≤ (j : Int)) = false := decide_eq_false (by omega)
    obtain ⟨b, o, hD, hca⟩ := HO.out.sl _ _ (flatI_at xs j _ hr).1
    subst hD
    obtain ⟨b2, o2, hD2, hcb⟩ := HO.out.sl _ _ (flatI_at xs j _ hr).2
    obtain ⟨rfl, rfl⟩ : b = b2 ∧ o = o2 := by injection hD2 with e; injection e with e1 e2; exact ⟨e1, e2⟩
    unfold I64 at hcb
    rw [← Nat.add_assoc] at hcb
    have hx1 : ((ri : Int) == (ri : Int)) = true := beq_iff_eq.2 rfl
    have hx2 : (rx == rx) = true := beq_iff_eq.2 rfl
    clear hr hD2 hj
    go_wp2_with fail
    refine (HA.out _ H1.out).mono ?_
    unfold SQuietI
    rintro e w3 ⟨rfl, q3, rfl⟩
    have HFin : Hid (SStepEnds a B p g sz (.returned (.tuple #[.slice (some ⟨b, o, none⟩) xs.length cD, .bool true])) (w1.drewN q3)) := (show SStepEnds _ _ _ _ _ _ _ from ⟨L, _, c, _, cD, xs, rfl, rfl, H1.out.drewN q3, HO.out.drewN q3, below_drewN HB.out q3⟩)
    have k1p : (w1.drewN q3).cell? ⟨q, 1, none⟩ = some (.int .i64 (j : Int)) := k1
    have hcp : (w1.drewN q3).cell? ⟨b, o + j * 2, none⟩ = some (.int .i64 (ri : Int)) := hca
    have hcq : (w1.drewN q3).cell? ⟨b, o + j * 2 + 1, none⟩ = some (.int .i64 rx) := hcb
    clear hca hcb
    clear H1 HO HB k0 k1 k2 hB1
    generalize w1.drewN q3 = w3 at *
    go_wp2_with fail
    go_ret2
    exact HFin.out

theorem step5_calls (h : StI w B p g sz L c xs) (ho : OwnB w B 140 2 D xs.length cD (flatI xs)) (hb : Below B a w) (hBw : B ≤ w.heap.size) :
    Calls Try.prog 55 #[.pointer (some ⟨p, 0, none⟩), .slice D xs.length cD, .int .i64 (sz : Int), .agg #[.int .i64 k, .int .i64 i, .int .i64 x]] w (SStepEnds a B p g sz) := by
  by_cases h1 : k = 1
  · subst h1
    by_cases hc : canI xs sz i = true
    · unfold canI at hc
      rw [Bool.and_eq_true] at hc
      obtain ⟨j, rfl⟩ := Int.eq_ofNat_of_zero_le (of_decide_eq_true hc.1).1
      exact step5_add B p g sz c L D cD xs x a w j h ho hb hBw (by have := (of_decide_eq_true hc.1).2; omega) (by simpa using hc.2)
    · exact step5_no B p g sz c L D cD xs i x a w h ho hb hBw (by simpa using hc)
  by_cases h2 : k = 2
  · subst h2; exact step5_get B p g sz c L D cD xs i x a w h ho hb hBw
  by_cases h3 : k = 3
  · subst h3
    by_cases hi : 0 ≤ i ∧ i < (xs.length : Int)
    · obtain ⟨j, rfl⟩ := Int.eq_ofNat_of_zero_le hi.1
      exact step5_at B p g sz c L D cD xs x a w j h ho hb hBw (by have := hi.2; omega)
    · exact step5_at_no B p g sz c L D cD xs i x a w h ho hb hBw hi
  by_cases h4 : k = 4
  · subst h4; exact step5_clear B p g sz c L D cD xs i x a w h ho hb hBw
  exact step5_else B p g sz c L D cD xs k i x a w h ho hb hBw h1 h2 h3 h4
end
end Go.Proofs.Ytepfmmphajdlfaa
