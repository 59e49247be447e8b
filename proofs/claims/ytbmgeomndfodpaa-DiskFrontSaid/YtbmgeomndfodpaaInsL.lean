/-
  slices.Insert of one element at rows of byte slices.
-/
import Derived.Test.YtbmgeomndfodpaaApp2
import Derived.Test.YtbmgeomndfodpaaCopyN
import Derived.Shelf.Spec.SlicesInsert
import Derived.Lib.AppendZerosOnto
import Derived.Lib.Overlaps
namespace Go.Proofs.Ytbmgeomndfodpaa
open Go.RowKit Go.Mem Go.Proofs

def zL : Value := .slice none 0 0
theorem infoL : (Try.prog.info? 27).map (fun i => (i.zero, i.size, i.bytes)) = some (some zL, 1, 24) := by kernel_rfl
theorem szL : ∀ w, (Go.sizeOf 27).run Try.prog w = .ok 1 w := fun _ => by kernel_rfl
theorem shape_blkL {w : World} {g : Nat} {t : TypeId} {cs : List Value} (h : Blk w g t cs) : w.shape? g = some (t, cs.length) := by
  unfold Blk at h
  simp [World.shape?, h]
/-- what it ends in -/
def InsEndsL (w0 w : World) (B : Nat) (D : Option Addr) (n : Nat) (l : List Value) (e : Ending) (w' : World) : Prop := ∃ D' c, e = .returned (.slice D' n c) ∧ OwnB w' B 27 1 D' n c l ∧ Kept w w' D D' ∧ Below B w0 w' ∧ w.heap.size ≤ w'.heap.size ∧ c ≤ 9223372036854775807

set_option maxRecDepth 100000 in
/-- at the end -/
theorem insertL_end (B : Nat) (D : Option Addr) (n c : Nat) (pre vs : List Value) (vb : Nat) (w0 w : World) (ho : OwnB w B 27 1 D n c pre) (hn : n ≤ 1000000) (hc63 : c ≤ 9223372036854775807) (hv : Blk w vb 27 vs) (hvl : vs.length = 1) (h1v : ∀ u ∈ vs, u.oneCell' = true) (hbel : Below B w0 w) (hBs : B ≤ w.heap.size) :
    Calls Try.prog 112 #[.slice D n c, .int .i64 (n : Int), .slice (some ⟨vb, 0, none⟩) 1 1] w (InsEndsL w0 w B D (n + 1) (pre ++ vs)) := by
  obtain ⟨i, hi, hz, hsz, hby⟩ := info_parts infoL
  have hzs : zL.cells.size = 1 := rfl
  have hsrc : Src Try.prog 1 59 (.slice (some ⟨vb, 0, none⟩) 1 1) 1 vs w := srcOfSl Try.underlying59 hvl (by simp) hv.sl (by simp) h1v
  have hnc := ho.le
  have H : Hid (∀ e w', InsEndsL w0 w B D (n + 1) (pre ++ vs) e w' → InsEndsL w0 w B D (n + 1) (pre ++ vs) e w') := (show ∀ _ _, _ → _ from fun _ _ h => h)
  have hrun : ∃ D' c' w', (∀ ty, (Builtin.append_ #[59, 59] ty #[.slice D n c, .slice (some ⟨vb, 0, none⟩) 1 1]).run Try.prog w = .ok (.slice D' (n + 1) c') w') ∧ InsEndsL w0 w B D (n + 1) (pre ++ vs) (.returned (.slice D' (n + 1) c')) w' := by
    have hpl : pre.length = n := by have := ho.len; omega
    by_cases hroom : n + 1 ≤ c
    · rcases ho.2.2 with ⟨rfl, rfl, rfl⟩ | ⟨g, sp, rfl, hg, hb, hc⟩
      · omega
      · have hcell : ∀ j, j < vs.length → (w.cell? ⟨g, 0 + n * i.size + j, none⟩).isSome = true := fun j hj => by
          rw [hb.cell, hsz, List.getElem?_eq_getElem (by rw [List.length_append]; omega)]; rfl
        have hfr : ∀ j, j < vs.length → w.frozen? ⟨g, 0 + n * i.size + j, none⟩ = false := fun j _ => hb.frozen _
        have hrun := fun ty => run_append_room_src (P := Try.prog) w 59 59 ty 27 i Try.underlying59 hi g 0 n c (.slice (some ⟨vb, 0, none⟩) 1 1) 1 vs (by rw [hsz]; exact hsrc) hroom hcell hfr
        rw [hsz, Nat.zero_add, Nat.mul_one] at hrun
        obtain ⟨k1, k2, k3⟩ := heap_setCells g vs (n) w (pre ++ sp) 27 hb (by rw [List.length_append]; omega)
        have e1 : (pre ++ sp).take (n) = pre := by rw [List.take_append_of_le_length (by omega), List.take_of_length_le (by omega)]
        have e2 : (pre ++ sp).drop (n + vs.length) = sp.drop vs.length := by rw [List.drop_append, List.drop_eq_nil_of_le (by omega), List.nil_append]; congr 1; omega
        rw [e1, e2, ← List.append_assoc] at k1
        exact ⟨_, _, _, hrun, _, _, rfl, ⟨by rw [List.length_append]; omega, hroom, .inr ⟨g, _, rfl, hg, k1, by rw [List.length_drop]; omega⟩⟩, ⟨fun g' hg' hne => k2.block g' hg' (fun e => hne (by injection e with e; rw [e])), .inl rfl⟩, below_grown hbel k2 hBs hg, Nat.le_of_eq k3.symm, hc63⟩
    · have hslD : Sl w D pre := ho.sl
      have hold : (Builtin.firstCells i.size n (.slice D n c)).run Try.prog w.drew = .ok pre.toArray w.drew := by
        cases D with
        | none =>
          obtain rfl := hslD.none_nil rfl
          exact run_firstCells_none w.drew i.size n n c
        | some a =>
          refine run_firstCells_some w.drew i.size n a n c pre (by rw [hsz, Nat.mul_one]; exact hpl) (fun j u hu => ?_)
          obtain ⟨b, o, e, hc⟩ := hslD j u hu
          obtain rfl : a = ⟨b, o, none⟩ := by injection e
          rw [Addr.add_lit]; exact hc
      have hrun := fun ty => run_append_grow_src (P := Try.prog) w 59 59 ty 27 i zL Try.underlying59 hi hz D n c pre hold (.slice (some ⟨vb, 0, none⟩) 1 1) 1 vs (by rw [hsz]; exact hsrc) (by omega) (by omega) (growslice_fits (by omega) (by rw [hby]; omega))
      have hge := grownCap_ge w (n + 1) c 27
      have hmax : grownCap w (n + 1) c 27 ≤ 9223372036854775807 := grownCap_le_maxLen _ _ _ _ (by unfold maxLen; omega)
      refine ⟨_, _, _, hrun, _, _, rfl, ⟨by rw [List.length_append]; omega, hge, .inr ⟨w.heap.size, (Builtin.zeroCells zL.cells (grownCap w (n + 1) c 27 - (n + 1))).toList, rfl, hBs, ?_, ?_⟩⟩, ⟨fun g' hg' _ => Below.heap_alloc w.drew _ g' hg', .inr rfl⟩, (hbel.drew).alloc (by simpa using hBs) _, by simp, hmax⟩
      · have h1 := Blk.new w.drew 27 ((pre ++ vs).toArray ++ Builtin.zeroCells zL.cells (grownCap w (n + 1) c 27 - (n + 1)))
        simpa using h1
      · simp [Builtin.zeroCells, hzs]; omega
  obtain ⟨D', c', w1, hr, hE⟩ := hrun
  clear H ho hsrc hv
  unfold InsEndsL at *
  go_enter Try.func112, Try.ntmps112
  go_wp2_with (at_builtin; refine Lib.wpList_append_run _ rfl _ _ _ _ rfl _ _ rfl rfl _ _ (hr _) ?_)
  all_goals
    go_ret
    exact hE

theorem setRow_grownL {w : World} {g : Nat} {old : List Value} {t : TypeId} (hb : Blk w g t old) (cs : List Value) : Blk (w.setRow g cs.toArray) g t cs ∧ w.grownBy (w.setRow g cs.toArray) (some g) ∧ (w.setRow g cs.toArray).heap.size = w.heap.size :=
  ⟨setRow_heap w g _ _ t _ hb, ⟨rfl, rfl, rfl, by simp [World.setRow], fun k hk hne => setRow_other w g k _ (fun e => hne (by rw [e]))⟩, by simp [World.setRow]⟩

set_option maxRecDepth 100000 in
/-- in the midst, there being room -/
theorem insertL_shift (B : Nat) (g n c i : Nat) (pre sp vs : List Value) (vb : Nat) (w0 w : World) (hgB : B ≤ g) (hb : Blk w g 27 (pre ++ sp)) (hpl : pre.length = n) (hcap : pre.length + sp.length = c) (hin : i < n) (hroom : n + 1 ≤ c) (hn : n ≤ 1000000) (hc63 : c ≤ 9223372036854775807) (hv : Blk w vb 27 vs) (hvl : vs.length = 1) (hne : vb ≠ g) (h1 : ∀ u ∈ pre, u.oneCell' = true) (h1v : ∀ u ∈ vs, u.oneCell' = true) (hbel : Below B w0 w) (hBs : B ≤ w.heap.size) :
    Calls Try.prog 112 #[.slice (some ⟨g, 0, none⟩) n c, .int .i64 (i : Int), .slice (some ⟨vb, 0, none⟩) 1 1] w (InsEndsL w0 w B (some ⟨g, 0, none⟩) (n + 1) (pre.take (i) ++ (vs ++ pre.drop (i)))) := by
  obtain ⟨inf, hi, hz, hsz0, hby⟩ := info_parts infoL
  have hsz : (Try.prog.info? 27).map (·.size) = some 1 := by rw [hi]; simp [hsz0]
  have hov : ∀ lb cb, (callFunc 121 #[.slice (some ⟨vb, 0, none⟩) 1 1, .slice (some ⟨g, (i + 1), none⟩) lb cb]).run Try.prog w = .ok (.value (.bool false)) w := fun lb cb => by
    rw [run_callFunc_extern Try.func121 (by kernel_rfl) (by kernel_rfl) (by kernel_rfl) (e := Extern.SlicesOverlaps.overlaps #[59, 59] #[4]) (by kernel_rfl),
      Lib.run_overlaps_apart w 59 4 27 Try.underlying59 1 szL ⟨vb, 0, none⟩ ⟨g, (i + 1), none⟩ 1 1 lb cb hne 27 27 vs.length (pre ++ sp).length (shape_blkL hv) (shape_blkL hb) (by rw [List.length_append]; omega) (hv.frozen _) (hv.frozen _)]
    rfl
  have hcl : (pre ++ sp).length = c := by rw [List.length_append]; exact hcap
  -- the first copy
  obtain ⟨r1, hr1⟩ : ∃ r1, r1 = (pre ++ sp).take ((i + 1)) ++ pre.drop (i) ++ (pre ++ sp).drop ((i + 1) + (pre.drop (i)).length) := ⟨_, rfl⟩
  obtain ⟨r2, hr2⟩ : ∃ r2, r2 = r1.take (i) ++ vs ++ r1.drop (i + vs.length) := ⟨_, rfl⟩
  have hdl : (pre.drop (i)).length = (n - i) := by rw [List.length_drop, hpl]
  have hcp1 : ∀ ty dc sc, (Builtin.copy_ #[59, 59] ty #[.slice (some ⟨g, (i + 1), none⟩) (n + 1 - (i + 1)) dc, .slice (some ⟨g, i, none⟩) (n + 1 - i) sc]).run Try.prog w.drew = .ok (goInt (n - i : Nat)) (w.drew.setRow g r1.toArray) := fun ty dc sc => by
    have hmin : Nat.min (n + 1 - i) (n + 1 - (i + 1)) = n - i := by simp only [Nat.min_def]; split <;> omega
    have h := run_copy_rowN (P := Try.prog) w.drew 59 59 ty 27 g ((i + 1)) (n + 1 - (i + 1)) dc ⟨g, i, none⟩ (n + 1 - i) sc 1 (pre ++ sp).toArray 27 (pre.drop (i)) Try.underlying59 hsz hb (by rw [hdl, hmin, Nat.mul_one])
      (fun j v hj => by
        rw [List.getElem?_drop] at hj
        have hlt := (List.getElem?_eq_some_iff.1 hj).1
        rw [Addr.add_lit]
        exact (hb.drew.cell _).trans (by rw [List.getElem?_append_left hlt]; exact hj)) (by rw [List.size_toArray, hcl, hdl]; omega) (fun v hv => h1 v (List.mem_of_mem_drop hv))
    rw [hmin] at h
    rw [h, hr1]
  obtain ⟨b1, k1, s1⟩ := setRow_grownL (hb.drew : Blk w.drew g _ _) r1
  have hv1 : Blk (w.drew.setRow g r1.toArray) vb 27 vs := (k1.block vb hv.drew.lt (fun e => hne (by injection e))).trans hv
  have hr1l : r1.length = c := by simp only [hr1, List.length_append, List.length_take, List.length_drop]; omega
  obtain ⟨W1, hW1⟩ : ∃ W1, W1 = w.drew.setRow g r1.toArray := ⟨_, rfl⟩
  rw [← hW1] at hcp1 b1 k1 s1 hv1
  have hcp2 : ∀ (W : World), W.heap = W1.heap → ∀ ty dc, (Builtin.copy_ #[59, 59] ty #[.slice (some ⟨g, i, none⟩) (n + 1 - i) dc, .slice (some ⟨vb, 0, none⟩) 1 1]).run Try.prog W = .ok (goInt (1 : Nat)) (W.setRow g r2.toArray) := fun W hW ty dc => by
    have hmin : Nat.min 1 (n + 1 - i) = 1 := by simp only [Nat.min_def]; split <;> omega
    have bW : Blk W g 27 r1 := by unfold Blk; rw [hW]; exact b1
    have vW : Blk W vb 27 vs := by unfold Blk; rw [hW]; exact hv1
    have h := run_copy_rowN (P := Try.prog) W 59 59 ty 27 g (i) (n + 1 - i) dc ⟨vb, 0, none⟩ 1 1 1 r1.toArray 27 vs Try.underlying59 hsz bW (by rw [hvl, hmin])
      (fun j v hj => by rw [Addr.add_lit, Nat.zero_add]; exact (vW.cell _).trans hj) (by rw [List.size_toArray, hr1l, hvl]; omega) h1v
    rw [hmin] at h
    rw [h, hr2]
  have hfin : InsEndsL w0 w B (some ⟨g, 0, none⟩) (n + 1) (pre.take (i) ++ (vs ++ pre.drop (i))) (.returned (.slice (some ⟨g, 0, none⟩) (n + 1) c)) (W1.setRow g r2.toArray) := by
    have hl1 : (vs ++ pre.drop (i)).length = 1 + (n - i) := by rw [List.length_append, hvl, hdl]
    have e : r2 = (pre.take (i) ++ (vs ++ pre.drop (i))) ++ sp.drop 1 := by
      have a1 : (pre ++ sp).take ((i + 1)) = pre.take ((i + 1)) := List.take_append_of_le_length (by omega)
      have a2 : (pre ++ sp).drop ((i + 1) + (pre.drop (i)).length) = sp.drop 1 := by
        rw [hdl, List.drop_append, List.drop_eq_nil_of_le (by omega), List.nil_append]; congr 1; omega
      rw [hr2, hr1, a1, a2]
      have c1 : List.take (i) (pre.take ((i + 1)) ++ pre.drop (i) ++ sp.drop 1) = pre.take (i) := by
        rw [List.append_assoc, List.take_append_of_le_length (by rw [List.length_take]; omega), List.take_take]; congr 1; omega
      have c2 : List.drop (i + vs.length) (pre.take ((i + 1)) ++ pre.drop (i) ++ sp.drop 1) = pre.drop (i) ++ sp.drop 1 := by
        rw [List.append_assoc, List.drop_append, List.drop_eq_nil_of_le (by rw [List.length_take]; omega), List.nil_append, List.length_take]
        rw [show i + vs.length - min ((i + 1)) pre.length = 0 by omega, List.drop_zero]
      rw [c1, c2]; simp only [List.append_assoc]
    obtain ⟨m1, m2, m3⟩ := setRow_grownL b1 r2
    rw [e] at m1 m2 m3 ⊢
    have kk : w.grownBy (W1.setRow g ((pre.take (i) ++ (vs ++ pre.drop (i))) ++ sp.drop 1).toArray) (some g) := only_trans ⟨k1.os, k1.tape, k1.output, k1.size, k1.block⟩ m2
    refine ⟨some ⟨g, 0, none⟩, c, rfl, ⟨?_, hroom, .inr ⟨g, sp.drop 1, rfl, hgB, m1, ?_⟩⟩, ⟨fun k hk hd => kk.block k hk (fun e => hd (by injection e with e; rw [e])), .inl rfl⟩, below_grown hbel kk hBs hgB, kk.size, hc63⟩
    · rw [List.length_append, List.length_take, hl1]; omega
    · rw [List.length_drop]; omega
  unfold InsEndsL at *
  have hw1 : IntKind.i64.wrap ((i : Int) + 1) = (i : Int) + 1 := by rw [IntKind.wrap_i64]; omega
  have hw2 : IntKind.i64.wrap ((n : Int) + 1) = (n : Int) + 1 := by rw [IntKind.wrap_i64]; omega
  have hz2 : ¬ ((i : Int) = (n : Int)) := by omega
  have hb1 : (0 : Int) ≤ (i : Int) + 1 := by omega
  have hin' : i ≤ n := by omega
  have htn : ((i : Int) + 1).toNat = i + 1 := by omega
  have hb2 : ¬ (c = i + 1) := by omega
  have hb3 : (i : Int) ≤ (n : Int) := by omega
  have hb4 : ¬ (c = i) := by omega
  have hb6 : (i : Int) ≤ (n : Int) + 1 := by omega
  have hb5 : ¬ ((c : Int) < (n : Int) + 1) := by omega
  have htn2 : ((n : Int) + 1).toNat = n + 1 := by omega
  have mixed : Try.prog.follows .mixedOrders = true := by kernel_rfl
  clear hr1 hr2 hW1 s1 k1 hbel
  go_enter Try.func112, Try.ntmps112
  go_wp2_with (simp only [hov])
  go_region_law_o (refine step_copy_runI rfl _ _ 59 59 rfl (.slice (some ⟨g, (i + 1), none⟩) (n + 1 - (i + 1)) (c - (i + 1))) (.slice (some ⟨g, i, none⟩) (n + 1 - i) (c - i)) (by simp [Act.eval, Act.put]) (by simp [Act.eval, Act.put]) (hcp1 _ _ _) ?_)
  go_wp2_with (at_builtin; refine wpList_copy_runI _ rfl _ _ 59 59 rfl _ _ rfl rfl (hcp2 _ rfl _ _) ?_)
  go_ret
  exact hfin

set_option maxRecDepth 100000 in
/-- in the midst, there being no room -/
theorem insertL_grow (B : Nat) (g n c i : Nat) (pre sp vs : List Value) (vb : Nat) (w0 w : World) (hb : Blk w g 27 (pre ++ sp)) (hpl : pre.length = n) (hin : i < n) (hnc : n ≤ c) (hroom : c < n + 1) (hn : n ≤ 1000000) (hv : Blk w vb 27 vs) (hvl : vs.length = 1) (h1 : ∀ u ∈ pre, u.oneCell' = true) (h1v : ∀ u ∈ vs, u.oneCell' = true) (hbel : Below B w0 w) (hBs : B ≤ w.heap.size) :
    Calls Try.prog 112 #[.slice (some ⟨g, 0, none⟩) n c, .int .i64 (i : Int), .slice (some ⟨vb, 0, none⟩) 1 1] w (InsEndsL w0 w B (some ⟨g, 0, none⟩) (n + 1) (pre.take (i) ++ (vs ++ pre.drop (i)))) := by
  obtain ⟨inf, hi, hz, hsz0, hby⟩ := info_parts infoL
  have hsz : (Try.prog.info? 27).map (·.size) = some 1 := by rw [hi]; simp [hsz0]
  have hdl : (pre.drop (i)).length = (n - i) := by rw [List.length_drop, hpl]
  have htl : (pre.take (i)).length = i := by rw [List.length_take, hpl]; omega
  have hold : (Builtin.firstCells inf.size i (.slice (some ⟨g, 0, none⟩) i c)).run Try.prog w.drew = .ok (pre.take (i)).toArray w.drew :=
    run_firstCells_some w.drew inf.size i ⟨g, 0, none⟩ i c (pre.take (i)) (by rw [hsz0, htl, Nat.mul_one]) (fun j v hj => by
      rw [Addr.add_lit, Nat.zero_add]
      have hlt := (List.getElem?_eq_some_iff.1 hj).1
      rw [List.getElem?_take_of_lt (by omega)] at hj
      exact (hb.drew.cell _).trans (by rw [List.getElem?_append_left (by omega)]; exact hj))
  have hik : i + (n + 1 - i) = n + 1 := by omega
  have hkk : (n : Int) + 1 - (i : Int) = ((n + 1 - i : Nat) : Int) := by omega
  have hap0 := fun ty => Lib.run_append_grow_zeros (P := Try.prog) w 59 3 ty 27 inf zL .i64 .i64 Try.underlying59 Try.underlying3 hi hz (some ⟨g, 0, none⟩) i c (pre.take (i)) hold (n + 1 - i) (by omega) (by omega) (by omega) (by omega) (by rw [hby]; omega) (by rw [hby, hik]; exact growslice_fits hroom (by omega))
  rw [hik, ← hkk] at hap0
  have hge := grownCap_ge w (n + 1) c 27
  have hmax : grownCap w (n + 1) c 27 ≤ 9223372036854775807 := grownCap_le_maxLen _ _ _ _ (by unfold maxLen; omega)
  generalize grownCap w (n + 1) c 27 = G at hap0 hge hmax
  have hzl : ∀ m, (Builtin.zeroCells zL.cells m).toList.length = m := fun m => by
    have : zL.cells.size = 1 := rfl
    simp [Builtin.zeroCells, this]
  obtain ⟨Z1, hZ1⟩ : ∃ Z1, Z1 = (Builtin.zeroCells zL.cells (n + 1 - i)).toList := ⟨_, rfl⟩
  obtain ⟨Z2, hZ2⟩ : ∃ Z2, Z2 = (Builtin.zeroCells zL.cells (G - (n + 1))).toList := ⟨_, rfl⟩
  have hZ1l : Z1.length = (n + 1 - i) := by rw [hZ1, hzl]
  have hZ2l : Z2.length = (G - (n + 1)) := by rw [hZ2, hzl]
  have hrow : (pre.take (i)).toArray ++ Builtin.zeroCells zL.cells (n + 1 - i) ++ Builtin.zeroCells zL.cells (G - (n + 1)) = (pre.take (i) ++ Z1 ++ Z2).toArray := by rw [hZ1, hZ2]; simp
  rw [hrow] at hap0
  obtain ⟨N, hN⟩ : ∃ N, N = w.heap.size := ⟨_, rfl⟩
  rw [← hN] at hap0
  have hbN : Blk (w.drew.alloc (.cells (pre.take (i) ++ Z1 ++ Z2).toArray 27)) N 27 (pre.take (i) ++ Z1 ++ Z2) := by rw [hN]; exact Blk.new w.drew 27 _
  have hbg1 := hb.drew.alloc (.cells (pre.take (i) ++ Z1 ++ Z2).toArray 27)
  have hv1 := hv.drew.alloc (.cells (pre.take (i) ++ Z1 ++ Z2).toArray 27)
  have hB1 : Below B w0 (w.drew.alloc (.cells (pre.take (i) ++ Z1 ++ Z2).toArray 27)) := (hbel.drew).alloc (by simpa using hBs) _
  have hK1 : ∀ k, k < w.heap.size → (w.drew.alloc (.cells (pre.take (i) ++ Z1 ++ Z2).toArray 27)).heap[k]? = w.heap[k]? := fun k hk => Below.heap_alloc w.drew _ k hk
  have hS1 : w.heap.size ≤ (w.drew.alloc (.cells (pre.take (i) ++ Z1 ++ Z2).toArray 27)).heap.size := by simp
  generalize w.drew.alloc (.cells (pre.take (i) ++ Z1 ++ Z2).toArray 27) = W1 at hap0 hbN hbg1 hv1 hB1 hK1 hS1
  have hgN : g < N := by rw [hN]; exact hb.lt
  have hvN : vb < N := by rw [hN]; exact hv.lt
  have hBN : B ≤ N := by rw [hN]; exact hBs
  -- the copy of v
  obtain ⟨r1, hr1⟩ : ∃ r1, r1 = (pre.take (i) ++ Z1 ++ Z2).take (i) ++ vs ++ (pre.take (i) ++ Z1 ++ Z2).drop (i + vs.length) := ⟨_, rfl⟩
  have hr1l : r1.length = G := by simp only [hr1, List.length_append, List.length_take, List.length_drop]; omega
  have hcpA : ∀ ty dc, (Builtin.copy_ #[59, 59] ty #[.slice (some ⟨N, i, none⟩) (n + 1 - i) dc, .slice (some ⟨vb, 0, none⟩) 1 1]).run Try.prog W1 = .ok (goInt (1 : Nat)) (W1.setRow N r1.toArray) := fun ty dc => by
    have hmin : Nat.min 1 (n + 1 - i) = 1 := by simp only [Nat.min_def]; split <;> omega
    have h := run_copy_rowN (P := Try.prog) W1 59 59 ty 27 N (i) (n + 1 - i) dc ⟨vb, 0, none⟩ 1 1 1 (pre.take (i) ++ Z1 ++ Z2).toArray 27 vs Try.underlying59 hsz hbN (by rw [hvl, hmin])
      (fun j v hj => by rw [Addr.add_lit, Nat.zero_add]; exact (hv1.cell _).trans hj) (by simp only [List.size_toArray, List.length_append]; omega) h1v
    rw [hmin] at h
    rw [h, hr1]
  obtain ⟨b1, k1, s1⟩ := setRow_grownL hbN r1
  have hbg2 : Blk (W1.setRow N r1.toArray) g 27 (pre ++ sp) := (k1.block g hbg1.lt (fun e => by injection e with e; omega)).trans hbg1
  obtain ⟨W2, hW2⟩ : ∃ W2, W2 = W1.setRow N r1.toArray := ⟨_, rfl⟩
  rw [← hW2] at hcpA b1 k1 s1 hbg2
  obtain ⟨r2, hr2⟩ : ∃ r2, r2 = r1.take ((i + 1)) ++ pre.drop (i) ++ r1.drop ((i + 1) + (pre.drop (i)).length) := ⟨_, rfl⟩
  have hcpB : ∀ ty dc sc, (Builtin.copy_ #[59, 59] ty #[.slice (some ⟨N, (i + 1), none⟩) (n + 1 - (i + 1)) dc, .slice (some ⟨g, i, none⟩) (n - i) sc]).run Try.prog W2.drew = .ok (goInt (n - i : Nat)) (W2.drew.setRow N r2.toArray) := fun ty dc sc => by
    have hmin : Nat.min (n - i) (n + 1 - (i + 1)) = n - i := by simp only [Nat.min_def]; split <;> omega
    have h := run_copy_rowN (P := Try.prog) W2.drew 59 59 ty 27 N ((i + 1)) (n + 1 - (i + 1)) dc ⟨g, i, none⟩ (n - i) sc 1 r1.toArray 27 (pre.drop (i)) Try.underlying59 hsz b1 (by rw [hdl, hmin, Nat.mul_one])
      (fun j v hj => by
        rw [List.getElem?_drop] at hj
        have hlt := (List.getElem?_eq_some_iff.1 hj).1
        rw [Addr.add_lit]
        exact (hbg2.drew.cell _).trans (by rw [List.getElem?_append_left hlt]; exact hj)) (by rw [List.size_toArray, hr1l, hdl]; omega) (fun v hv => h1 v (List.mem_of_mem_drop hv))
    rw [hmin] at h
    rw [h, hr2]
  have hfin : InsEndsL w0 w B (some ⟨g, 0, none⟩) (n + 1) (pre.take (i) ++ (vs ++ pre.drop (i))) (.returned (.slice (some ⟨N, 0, none⟩) (n + 1) G)) (W2.drew.setRow N r2.toArray) := by
    have hl1 : (vs ++ pre.drop (i)).length = 1 + (n - i) := by rw [List.length_append, hvl, hdl]
    have e : ∃ sp', r2 = (pre.take (i) ++ (vs ++ pre.drop (i))) ++ sp' ∧ sp'.length = (G - (n + 1)) := by
      have a1 : (pre.take (i) ++ Z1 ++ Z2).take (i) = pre.take (i) := by
        rw [List.append_assoc, List.take_append_of_le_length (by omega), List.take_of_length_le (by omega)]
      rw [a1] at hr1
      have a2 : r1.take ((i + 1)) = pre.take (i) ++ vs := by
        rw [hr1, List.take_append_of_le_length (by rw [List.length_append]; omega), List.take_of_length_le (by rw [List.length_append]; omega)]
      refine ⟨r1.drop ((i + 1) + (pre.drop (i)).length), ?_, by rw [List.length_drop, hr1l, hdl]; omega⟩
      rw [hr2, a2]; simp only [List.append_assoc]
    obtain ⟨sp', e, hsp'⟩ := e
    obtain ⟨m1, m2, m3⟩ := setRow_grownL (b1.drew : Blk W2.drew N _ _) r2
    rw [e] at m1 m2 m3 ⊢
    have kb : ∀ k, k < w.heap.size → (W2.drew.setRow N ((pre.take (i) ++ (vs ++ pre.drop (i))) ++ sp').toArray).heap[k]? = w.heap[k]? := fun k hk => by
      refine (m2.block k (by show k < W2.heap.size; omega) (fun e => by injection e with e; omega)).trans ?_
      exact (k1.block k (by omega) (fun e => by injection e with e; omega)).trans (hK1 k hk)
    have ksz : w.heap.size ≤ (W2.drew.setRow N ((pre.take (i) ++ (vs ++ pre.drop (i))) ++ sp').toArray).heap.size := by rw [m3]; show _ ≤ W2.heap.size; omega
    refine ⟨some ⟨N, 0, none⟩, G, rfl, ⟨?_, hge, .inr ⟨N, sp', rfl, hBN, m1, ?_⟩⟩, ⟨fun k hk _ => kb k hk, .inr (by rw [hN])⟩, below_grown (below_grown hB1 k1 (by omega) hBN).drew m2 (by show _ ≤ W2.heap.size; omega) hBN, ksz, hmax⟩
    · rw [List.length_append, List.length_take, hl1]; omega
    · rw [hsp']; omega
  unfold InsEndsL at *
  have hw1 : IntKind.i64.wrap ((i : Int) + 1) = (i : Int) + 1 := by rw [IntKind.wrap_i64]; omega
  have hw2 : IntKind.i64.wrap ((n : Int) + 1) = (n : Int) + 1 := by rw [IntKind.wrap_i64]; omega
  have hw3 : IntKind.i64.wrap ((n : Int) + 1 - (i : Int)) = (n : Int) + 1 - (i : Int) := by rw [IntKind.wrap_i64]; omega
  have hz2 : ¬ ((i : Int) = (n : Int)) := by omega
  have hb1 : (0 : Int) ≤ (i : Int) + 1 := by omega
  have hin' : i ≤ n := by omega
  have htn : ((i : Int) + 1).toNat = i + 1 := by omega
  have hb2 : ¬ (G = i + 1) := by omega
  have hb3 : (i : Int) ≤ (n : Int) := by omega
  have hb4 : ¬ (c = i) := by omega
  have hb7 : ¬ (G = i) := by omega
  have hb8 : (i : Int) ≤ (c : Int) := by omega
  have hb6 : (i : Int) ≤ (n : Int) + 1 := by omega
  have hb5 : (c : Int) < (n : Int) + 1 := by omega
  have mixed : Try.prog.follows .mixedOrders = true := by kernel_rfl
  clear hr1 hr2 hW2 s1 k1 hbel hold hkk hik hrow hZ1 hZ2 hK1 hS1 hzl hN
  go_enter Try.func112, Try.ntmps112
  go_wp2_with (first
    | (at_builtin; refine Lib.wpList_append_run _ rfl _ _ _ _ rfl _ _ rfl rfl _ _ (hap0 _) ?_)
    | (at_builtin; refine wpList_copy_runI _ rfl _ _ 59 59 rfl _ _ rfl rfl (hcpA _ _) ?_))
  go_region_law_o (refine step_copy_runI rfl _ _ 59 59 rfl (.slice (some ⟨N, (i + 1), none⟩) (n + 1 - (i + 1)) (G - (i + 1))) (.slice (some ⟨g, i, none⟩) (n - i) (c - i)) (by simp [Act.eval, Act.put]) (by simp [Act.eval, Act.put]) (hcpB _ _ _) ?_)
  go_wp2
  go_ret
  exact hfin

/-- slices.Insert of one element, on a row of the call's own -/
theorem insertL_calls (B : Nat) (D : Option Addr) (n c i : Nat) (pre vs : List Value) (vb : Nat) (w0 w : World) (ho : OwnB w B 27 1 D n c pre) (hi : i ≤ n) (hn : n ≤ 1000000) (hc63 : c ≤ 9223372036854775807) (hv : Blk w vb 27 vs) (hvl : vs.length = 1) (hne : D ≠ some ⟨vb, 0, none⟩) (h1 : ∀ u ∈ pre, u.oneCell' = true) (h1v : ∀ u ∈ vs, u.oneCell' = true) (hbel : Below B w0 w) (hBs : B ≤ w.heap.size) :
    Calls Try.prog 112 #[.slice D n c, .int .i64 (i : Int), .slice (some ⟨vb, 0, none⟩) 1 1] w (InsEndsL w0 w B D (n + 1) (pre.take (i) ++ (vs ++ pre.drop (i)))) := by
  have hpl : pre.length = n := by have := ho.len; omega
  by_cases hin : i = n
  · subst hin
    rw [List.take_of_length_le (by omega), List.drop_eq_nil_of_le (by omega), List.append_nil]
    exact insertL_end B D i c pre vs vb w0 w ho hn hc63 hv hvl h1v hbel hBs
  · rcases ho.2.2 with ⟨_, h0, _⟩ | ⟨g, sp, rfl, hgB, hb, hcap⟩
    · omega
    · have hnc := ho.le
      by_cases hroom : n + 1 ≤ c
      · exact insertL_shift B g n c i pre sp vs vb w0 w hgB hb hpl (by omega) (by omega) hroom hn hc63 hv hvl (fun e => hne (by rw [e])) h1 h1v hbel hBs
      · exact insertL_grow B g n c i pre sp vs vb w0 w hb hpl (by omega) hnc (by omega) hn hv hvl h1 h1v hbel hBs
end Go.Proofs.Ytbmgeomndfodpaa
