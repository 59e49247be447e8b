/-
  append onto a view: a slice at the head of a block that may have more cells than the slice's capacity.
-/
import Derived.Test.YtbmgeomndfodpaaApp2
namespace Go.Mem
open Go.RowKit

/-- a slice at the head of a block; the block may go on behind its capacity -/
def Vw (w : World) (B : Nat) (e : TypeId) (sz : Nat) (D : Option Addr) (k cap : Nat) (pre : List Value) : Prop :=
  pre.length = k * sz ∧ k ≤ cap ∧ ((D = none ∧ k = 0 ∧ cap = 0) ∨ ∃ g sp, D = some ⟨g, 0, none⟩ ∧ B ≤ g ∧ Blk w g e (pre ++ sp) ∧ cap * sz ≤ k * sz + sp.length)
/-- D's block is as it was up to cell m -/
def Head (w w' : World) (D : Option Addr) (m : Nat) : Prop := ∀ g t cs, D = some ⟨g, 0, none⟩ → Blk w g t cs → ∃ cs', Blk w' g t cs' ∧ cs'.length = cs.length ∧ cs'.take m = cs.take m
section
variable {w w' w'' : World} {B : Nat} {e : TypeId} {sz : Nat} {D : Option Addr} {k cap m : Nat} {pre : List Value}
theorem Vw.nil (w : World) (B : Nat) (e : TypeId) (sz : Nat) : Vw w B e sz none 0 0 [] := ⟨by simp, Nat.le_refl _, .inl ⟨rfl, rfl, rfl⟩⟩
theorem OwnB.vw (h : OwnB w B e sz D k cap pre) : Vw w B e sz D k cap pre := by
  obtain ⟨h1, h2, h3⟩ := h
  refine ⟨h1, h2, ?_⟩
  rcases h3 with h3 | ⟨g, sp, hd, hg, hb, hc⟩
  · exact .inl h3
  · exact .inr ⟨g, sp, hd, hg, hb, Nat.le_of_eq hc.symm⟩
theorem Vw.sl (h : Vw w B e sz D k cap pre) : Sl w D pre := by
  obtain ⟨h1, _, h3⟩ := h
  rcases h3 with ⟨_, rfl, _⟩ | ⟨g, sp, rfl, _, hb, _⟩
  · have : pre = [] := List.eq_nil_of_length_eq_zero (by simpa using h1)
    subst this; exact Sl.nil
  · have h4 := hb.sl.take pre.length
    rw [List.take_append_of_le_length (Nat.le_refl _), List.take_of_length_le (Nat.le_refl _)] at h4
    exact h4
theorem Vw.lt (h : Vw w B e sz D k cap pre) {g : Nat} (hg : D = some ⟨g, 0, none⟩) : g < w.heap.size ∧ B ≤ g := by
  rcases h.2.2 with ⟨h3, _⟩ | ⟨g', sp, hd, hB, hb', _⟩
  · rw [h3] at hg; cases hg
  · rw [hd] at hg; injection hg with hg; injection hg with hg; subst hg; exact ⟨hb'.lt, hB⟩
theorem Vw.blk (h : Vw w B e sz D k cap pre) {g : Nat} (hg : D = some ⟨g, 0, none⟩) : ∃ cs, Blk w g e cs := by
  rcases h.2.2 with ⟨h3, _⟩ | ⟨g', sp, hd, hB, hb', _⟩
  · rw [h3] at hg; cases hg
  · rw [hd] at hg; injection hg with hg; injection hg with hg; subst hg; exact ⟨_, hb'⟩
theorem Vw.keep (h : Vw w B e sz D k cap pre) (hk : ∀ g, D = some ⟨g, 0, none⟩ → w'.heap[g]? = w.heap[g]?) : Vw w' B e sz D k cap pre := by
  obtain ⟨h1, h2, h3⟩ := h
  refine ⟨h1, h2, ?_⟩
  rcases h3 with h3 | ⟨g, sp, hd, hg, hb, hc⟩
  · exact .inl h3
  · exact .inr ⟨g, sp, hd, hg, (hk g hd).trans hb, hc⟩
theorem Vw.below (h : Vw w B e sz D k cap pre) (hb : Below w.heap.size w w') : Vw w' B e sz D k cap pre := h.keep fun g hg => hb.block g (h.lt hg).1
theorem Vw.mono {B' : Nat} (h : Vw w B e sz D k cap pre) (hB : B' ≤ B) : Vw w B' e sz D k cap pre := by
  obtain ⟨h1, h2, h3⟩ := h
  refine ⟨h1, h2, ?_⟩
  rcases h3 with h3 | ⟨g, sp, hd, hg, hb, hc⟩
  · exact .inl h3
  · exact .inr ⟨g, sp, hd, by omega, hb, hc⟩
/-- the block turns behind the view alone -/
theorem Vw.head (h : Vw w B e sz D k cap pre) (hh : Head w w' D m) (hm : k * sz ≤ m) : Vw w' B e sz D k cap pre := by
  obtain ⟨h1, h2, h3⟩ := h
  refine ⟨h1, h2, ?_⟩
  rcases h3 with h3 | ⟨g, sp, hd, hg, hb, hc⟩
  · exact .inl h3
  · obtain ⟨cs', b', l', t'⟩ := hh g _ _ hd hb
    have e1 : cs'.take (k * sz) = pre := by
      have := congrArg (List.take (k * sz)) t'
      rw [List.take_take, List.take_take, Nat.min_eq_left hm, List.take_append_of_le_length (by omega), List.take_of_length_le (l := pre) (by omega)] at this
      exact this
    refine .inr ⟨g, cs'.drop (k * sz), hd, hg, ?_, ?_⟩
    · have := List.take_append_drop (k * sz) cs'
      rw [e1] at this; rw [this]; exact b'
    · rw [List.length_drop, l', List.length_append]; omega
theorem Head.refl (w : World) (D : Option Addr) (m : Nat) : Head w w D m := fun _ _ cs _ hb => ⟨cs, hb, rfl, rfl⟩
theorem Head.of_below (h : Below w.heap.size w w') : Head w w' D m := fun _ _ cs _ hb => ⟨cs, hb.below h hb.lt, rfl, rfl⟩
theorem Head.trans (h : Head w w' D m) (k : Head w' w'' D m) : Head w w'' D m := fun g t cs hd hb => by
  obtain ⟨c1, b1, l1, t1⟩ := h g t cs hd hb
  obtain ⟨c2, b2, l2, t2⟩ := k g t c1 hd b1
  exact ⟨c2, b2, l2.trans l1, t2.trans t1⟩
theorem Head.of_same (h : ∀ g, D = some ⟨g, 0, none⟩ → g < w.heap.size → w'.heap[g]? = w.heap[g]?) : Head w w' D m := fun g _ cs hd hb => ⟨cs, (h g hd hb.lt).trans hb, rfl, rfl⟩
/-- a view of fewer cells; its capacity cut to them -/
theorem Vw.cut (h : Vw w B e sz D k cap pre) {n : Nat} (hn : n ≤ k) : Vw w B e sz D n n (pre.take (n * sz)) := by
  obtain ⟨h1, h2, h3⟩ := h
  have hm : n * sz ≤ k * sz := Nat.mul_le_mul_right _ hn
  refine ⟨by rw [List.length_take]; omega, Nat.le_refl _, ?_⟩
  rcases h3 with ⟨a, b, c⟩ | ⟨g, sp, hd, hg, hb, hc⟩
  · exact .inl ⟨a, by omega, by omega⟩
  · refine .inr ⟨g, pre.drop (n * sz) ++ sp, hd, hg, ?_, by omega⟩
    rw [← List.append_assoc, List.take_append_drop]; exact hb
end

/-- how the slice behind an append lies: in its place, or in a new block -/
def Lies (w w' : World) (D D' : Option Addr) (k n cap cap' : Nat) : Prop := (D' = D ∧ cap' = cap ∧ k + n ≤ cap) ∨ (D' = some ⟨w.heap.size, 0, none⟩ ∧ cap < k + n ∧ Below w.heap.size w w')
/-- a block that was the slice's to its end is so still -/
def Exact (w w' : World) (B : Nat) (e : TypeId) (sz : Nat) (D D' : Option Addr) (k cap k' cap' : Nat) (pre pre' : List Value) : Prop := OwnB w B e sz D k cap pre → OwnB w' B e sz D' k' cap' pre'
/-- append onto a view, from whatever source, there being room or not -/
theorem wp_append_vw {P : Program} {w : World} {o : Oper} {a : Act} {K : Act → World → Prop} {Q : Exit → Act → World → Prop} (s x : Operand) (t tx : TypeId)
    (ho : o.op = .call { callee := .builtin .append, args := #[s, x], argTypes := #[t, tx] }) (e : TypeId) (i : TypeInfo) (z : Value) (sz bytes : Nat) (ht : P.underlying t = some (.slice e)) (hi : P.info? e = some i) (hz : i.zero = some z) (hsz : i.size = sz) (hby : i.bytes = bytes) (hzs : z.cells.size = sz)
    (B : Nat) (D : Option Addr) (k cap : Nat) (pre : List Value) (hs : a.eval s = .slice D k cap) (hown : Vw w B e sz D k cap pre) (hc63 : cap ≤ 9223372036854775807) (v : Value) (hx : a.eval x = v) (n : Nat) (news : List Value) (hsrc : Src P sz tx v n news w)
    (h63 : k + n ≤ 140737488355328) (hbytes : (k + n) * bytes ≤ 140737488355328) (w0 : World) (hbel : Below B w0 w) (hBs : B ≤ w.heap.size)
    (h : ∀ w' D' cap', Hid (Vw w' B e sz D' (k + n) cap' (pre ++ news)) → Hid (Kept w w' D D') → Hid (Head w w' D (k * sz)) → Hid (Lies w w' D D' k n cap cap') → Hid (Exact w w' B e sz D D' k cap (k + n) cap' pre (pre ++ news)) → Below B w0 w' → w.heap.size ≤ w'.heap.size → cap' ≤ 9223372036854775807 → K (a.put o.dst (.slice D' (k + n) cap')) w') : o.wp P a w K Q := by
  have hnl : news.length = n * sz := hsrc.newsLen
  obtain ⟨hpl, hkc, hform⟩ := hown
  by_cases hroom : k + n ≤ cap
  · rcases hform with ⟨rfl, rfl, rfl⟩ | ⟨g, sp, rfl, hg, hb, hc⟩
    · obtain rfl : n = 0 := by omega
      have hn0 : news = [] := List.eq_nil_of_length_eq_zero (by simpa using hnl)
      have hp0 : pre = [] := List.eq_nil_of_length_eq_zero (by simpa using hpl)
      subst hn0 hp0
      have hrun : (Builtin.append_ #[t, tx] o.type #[.slice none 0 0, v]).run P w = .ok (.slice none 0 0) w := by
        have hcells := hsrc.cells
        rcases hsrc.kind with ⟨e', hk⟩ | hk <;> simp [Builtin.append_, run_underlying ht, run_underlying hk, sizeOf, typeInfo, hi, hsz, hsrc.len, hcells]
      unfold Oper.wp
      simp [execOp, ho, resolve, invoke, builtin, hs, hx, hrun, Result.andThen]
      exact h _ none 0 (show Vw _ _ _ _ _ _ _ _ by simpa using Vw.nil w B e sz) (show Kept _ _ _ _ from ⟨fun _ _ _ => rfl, .inl rfl⟩) (show Head _ _ _ _ from Head.refl _ _ _) (show Lies _ _ _ _ _ _ _ _ from .inl ⟨rfl, rfl, Nat.le_refl _⟩) (show Exact _ _ _ _ _ _ _ _ _ _ _ _ _ from fun _ => by simpa using OwnB.nil w B e sz) hbel (Nat.le_refl _) (by decide)
    · have hmul : (k + n) * sz ≤ cap * sz := Nat.mul_le_mul_right _ hroom
      rw [Nat.add_mul] at hmul
      have hcell : ∀ j, j < news.length → (w.cell? ⟨g, 0 + k * i.size + j, none⟩).isSome = true := fun j hj => by
        rw [hb.cell, hsz, List.getElem?_eq_getElem (by rw [List.length_append]; omega)]; rfl
      have hfr : ∀ j, j < news.length → w.frozen? ⟨g, 0 + k * i.size + j, none⟩ = false := fun j _ => hb.frozen _
      have hrun := run_append_room_src (P := P) w t tx o.type e i ht hi g 0 k cap v n news (by rw [hsz]; exact hsrc) hroom hcell hfr
      rw [hsz, Nat.zero_add] at hrun
      obtain ⟨k1, k2, k3⟩ := heap_setCells g news (k * sz) w (pre ++ sp) e hb (by rw [List.length_append]; omega)
      have e1 : (pre ++ sp).take (k * sz) = pre := by rw [List.take_append_of_le_length (by omega), List.take_of_length_le (by omega)]
      have e2 : (pre ++ sp).drop (k * sz + news.length) = sp.drop news.length := by rw [List.drop_append, List.drop_eq_nil_of_le (by omega), List.nil_append]; congr 1; omega
      rw [e1, e2, ← List.append_assoc] at k1
      unfold Oper.wp
      simp [execOp, ho, resolve, invoke, builtin, hs, hx, hrun, Result.andThen]
      refine h _ (some ⟨g, 0, none⟩) cap (show Vw _ _ _ _ _ _ _ _ from ⟨by rw [List.length_append, Nat.add_mul]; omega, hroom, .inr ⟨g, _, rfl, hg, k1, by rw [List.length_drop, Nat.add_mul]; omega⟩⟩) (show Kept _ _ _ _ from ⟨fun g' hg' hne => k2.block g' hg' (fun e => hne (by injection e with e; rw [e])), .inl rfl⟩) (show Head _ _ _ _ from ?_) (show Lies _ _ _ _ _ _ _ _ from .inl ⟨rfl, rfl, hroom⟩) (show Exact _ _ _ _ _ _ _ _ _ _ _ _ _ from ?_) (below_grown hbel k2 hBs hg) (Nat.le_of_eq k3.symm) hc63
      rotate_left
      · intro ho'
        refine ⟨by rw [List.length_append, Nat.add_mul]; omega, hroom, .inr ⟨g, _, rfl, hg, k1, ?_⟩⟩
        rcases ho'.2.2 with ⟨h4, _⟩ | ⟨g1, sp1, hd1, _, hb1, hc1⟩
        · cases h4
        · injection hd1 with hd1; injection hd1 with hd1; subst hd1
          have hsp : sp1 = sp := by
            unfold Blk at hb hb1
            rw [hb] at hb1
            injection hb1 with hb1; injection hb1 with h1 h2
            have h3 : pre ++ sp = pre ++ sp1 := by simpa using h1
            exact (List.append_cancel_left h3).symm
          subst hsp
          rw [List.length_drop, Nat.add_mul]; omega
      intro g' t' cs' hd' hb'
      injection hd' with hd'; injection hd' with hd'; subst hd'
      have hcs : t' = e ∧ cs' = pre ++ sp := by
        unfold Blk at hb hb'
        rw [hb] at hb'
        injection hb' with hb'; injection hb' with h1 h2
        exact ⟨h2.symm, by simpa using h1.symm⟩
      obtain ⟨rfl, rfl⟩ := hcs
      refine ⟨_, k1, by simp only [List.length_append, List.length_drop]; omega, ?_⟩
      rw [List.append_assoc, List.take_append_of_le_length (by omega), List.take_append_of_le_length (by omega)]
  · have hslD : Sl w D pre := Vw.sl (B := B) (e := e) ⟨hpl, hkc, hform⟩
    have hold : (Builtin.firstCells i.size k (.slice D k cap)).run P w.drew = .ok pre.toArray w.drew := by
      cases D with
      | none =>
        obtain rfl := hslD.none_nil rfl
        exact run_firstCells_none w.drew i.size k k cap
      | some a =>
        refine run_firstCells_some w.drew i.size k a k cap pre (by rw [hsz]; exact hpl) (fun j u hu => ?_)
        obtain ⟨b, o, e, hc⟩ := hslD j u hu
        obtain rfl : a = ⟨b, o, none⟩ := by injection e
        rw [Addr.add_lit]; exact hc
    have hrun := run_append_grow_src (P := P) w t tx o.type e i z ht hi hz D k cap pre hold v n news (by rw [hsz]; exact hsrc) (by omega) (by omega) (growslice_fits (by omega) (by rw [hby]; exact hbytes))
    have hge := grownCap_ge w (k + n) cap e
    have hmax : grownCap w (k + n) cap e ≤ 9223372036854775807 := grownCap_le_maxLen _ _ _ _ (by unfold maxLen; omega)
    unfold Oper.wp
    simp [execOp, ho, resolve, invoke, builtin, hs, hx, hrun, Result.andThen]
    refine h _ (some ⟨w.heap.size, 0, none⟩) (grownCap w (k + n) cap e) (show Vw _ _ _ _ _ _ _ _ from ⟨by rw [List.length_append, Nat.add_mul]; omega, hge, .inr ⟨w.heap.size, (Builtin.zeroCells z.cells (grownCap w (k + n) cap e - (k + n))).toList, rfl, hBs, ?_, ?_⟩⟩) (show Kept _ _ _ _ from ⟨fun g' hg' _ => Below.heap_alloc w.drew _ g' hg', .inr rfl⟩) (show Head _ _ _ _ from Head.of_same (fun g _ hg => Below.heap_alloc w.drew _ g hg)) (show Lies _ _ _ _ _ _ _ _ from .inr ⟨rfl, by omega, ((Below.refl _ _).drew).alloc (by simp) _⟩) (show Exact _ _ _ _ _ _ _ _ _ _ _ _ _ from fun _ => ⟨by rw [List.length_append, Nat.add_mul]; omega, hge, .inr ⟨w.heap.size, (Builtin.zeroCells z.cells (grownCap w (k + n) cap e - (k + n))).toList, rfl, hBs, ?_, ?_⟩⟩) ((hbel.drew).alloc (by simpa using hBs) _) (by simp) hmax
    all_goals first
      | (have h1 := Blk.new w.drew e ((pre ++ news).toArray ++ Builtin.zeroCells z.cells (grownCap w (k + n) cap e - (k + n)))
         simpa using h1)
      | (have := (Nat.sub_mul (grownCap w (k + n) cap e) (k + n) sz)
         have := Nat.mul_le_mul_right sz hge
         simp [Builtin.zeroCells, hzs]; omega)
theorem wpList_append_vw {P : Program} {w : World} {ops : Array Oper} {rest : List Oper} {o : Oper} {a : Act} {Q : Exit → Act → World → Prop} (hgd : o.guard = none) (s x : Operand) (t tx : TypeId)
    (ho : o.op = .call { callee := .builtin .append, args := #[s, x], argTypes := #[t, tx] }) (e : TypeId) (i : TypeInfo) (z : Value) (sz bytes : Nat) (ht : P.underlying t = some (.slice e)) (hi : P.info? e = some i) (hz : i.zero = some z) (hsz : i.size = sz) (hby : i.bytes = bytes) (hzs : z.cells.size = sz)
    (B : Nat) (D : Option Addr) (k cap : Nat) (pre : List Value) (hs : a.eval s = .slice D k cap) (hown : Vw w B e sz D k cap pre) (hc63 : cap ≤ 9223372036854775807) (v : Value) (hx : a.eval x = v) (n : Nat) (news : List Value) (hsrc : Src P sz tx v n news w)
    (h63 : k + n ≤ 140737488355328) (hbytes : (k + n) * bytes ≤ 140737488355328) (w0 : World) (hbel : Below B w0 w) (hBs : B ≤ w.heap.size)
    (h : ∀ w' D' cap', Hid (Vw w' B e sz D' (k + n) cap' (pre ++ news)) → Hid (Kept w w' D D') → Hid (Head w w' D (k * sz)) → Hid (Lies w w' D D' k n cap cap') → Hid (Exact w w' B e sz D D' k cap (k + n) cap' pre (pre ++ news)) → Below B w0 w' → w.heap.size ≤ w'.heap.size → cap' ≤ 9223372036854775807 → wpList P ops Q rest (a.put o.dst (.slice D' (k + n) cap')) w') :
    wpList P ops Q (o :: rest) a w :=
  wpList_plain hgd fun _ hK => wp_append_vw s x t tx ho e i z sz bytes ht hi hz hsz hby hzs B D k cap pre hs hown hc63 v hx n news hsrc h63 hbytes w0 hbel hBs fun w' D' c' h1 h2 h3 h4 h5 h6 h7 h8 => hK _ _ (h w' D' c' h1 h2 h3 h4 h5 h6 h7 h8)
theorem step_append_vw {P : Program} {w : World} {ops : Array Oper} {o : Oper} {a : Act} {K : Act → World → Prop} {Q : Exit → Act → World → Prop} {E : Prop} (hgd : o.guard = none) (s x : Operand) (t tx : TypeId)
    (ho : o.op = .call { callee := .builtin .append, args := #[s, x], argTypes := #[t, tx] }) (e : TypeId) (i : TypeInfo) (z : Value) (sz bytes : Nat) (ht : P.underlying t = some (.slice e)) (hi : P.info? e = some i) (hz : i.zero = some z) (hsz : i.size = sz) (hby : i.bytes = bytes) (hzs : z.cells.size = sz)
    (B : Nat) (D : Option Addr) (k cap : Nat) (pre : List Value) (hs : a.eval s = .slice D k cap) (hown : Vw w B e sz D k cap pre) (hc63 : cap ≤ 9223372036854775807) (v : Value) (hx : a.eval x = v) (n : Nat) (news : List Value) (hsrc : Src P sz tx v n news w)
    (h63 : k + n ≤ 140737488355328) (hbytes : (k + n) * bytes ≤ 140737488355328) (w0 : World) (hbel : Below B w0 w) (hBs : B ≤ w.heap.size)
    (h : ∀ w' D' cap', Hid (Vw w' B e sz D' (k + n) cap' (pre ++ news)) → Hid (Kept w w' D D') → Hid (Head w w' D (k * sz)) → Hid (Lies w w' D D' k n cap cap') → Hid (Exact w w' B e sz D D' k cap (k + n) cap' pre (pre ++ news)) → Below B w0 w' → w.heap.size ≤ w'.heap.size → cap' ≤ 9223372036854775807 → K (a.put o.dst (.slice D' (k + n) cap')) w') :
    if Region.wanted o (yielded ops a.tmps) = true then Oper.wp P o a w K Q else E := by
  have hw : Region.wanted o (yielded ops a.tmps) = true := by simp [Region.wanted, hgd]
  rw [if_pos hw]
  exact wp_append_vw s x t tx ho e i z sz bytes ht hi hz hsz hby hzs B D k cap pre hs hown hc63 v hx n news hsrc h63 hbytes w0 hbel hBs h
end Go.Mem
