/-
  append onto a slice of the call's own, with what it keeps.
-/
import Derived.Test.YtbmgeomndfodpaaObj
namespace Go.Mem
open Go.RowKit

/-- only D's block has turned; the new slice lies there or in a new block -/
def Kept (w w' : World) (D D' : Option Addr) : Prop := (∀ g, g < w.heap.size → D ≠ some ⟨g, 0, none⟩ → w'.heap[g]? = w.heap[g]?) ∧ (D' = D ∨ D' = some ⟨w.heap.size, 0, none⟩)
section
variable {w w' W : World} {D D' E : Option Addr} {p : Nat} {t e e' : TypeId} {cs : List Value}
theorem Kept.blk (h : Kept w w' D D') (hb : Blk w p t cs) (hne : D ≠ some ⟨p, 0, none⟩) : Blk w' p t cs := (h.1 p hb.lt hne).trans hb
/-- a block of another element type stays -/
theorem Kept.blk_ne {B sz k cap : Nat} {pre : List Value} (h : Kept w w' D D') (ho : OwnB w B e sz D k cap pre) (hb : Blk w p t cs) (hne : e ≠ t) : Blk w' p t cs := h.blk hb (by
  rintro rfl
  rcases ho.2.2 with ⟨h3, _⟩ | ⟨g, sp, hd, _, hb', _⟩
  · cases h3
  · obtain rfl : p = g := by injection hd with e; injection e
    exact hb'.ne_ hb hne rfl)
/-- another slice of the call's own, in another block, stays -/
theorem Kept.own {B sz k cap : Nat} {pre : List Value} (h : Kept w w' D D') (ho : OwnB w B e sz E k cap pre) (hne : ∀ g, D = some ⟨g, 0, none⟩ → E ≠ some ⟨g, 0, none⟩) : OwnB w' B e sz E k cap pre := by
  obtain ⟨h1, h2, h3⟩ := ho
  refine ⟨h1, h2, ?_⟩
  rcases h3 with h3 | ⟨g, sp, hd, hg, hb, hc⟩
  · exact .inl h3
  · exact .inr ⟨g, sp, hd, hg, h.blk hb (fun e => hne g e hd), hc⟩
/-- .. of another element type -/
theorem Kept.own_ne {B B' sz sz' k cap k' cap' : Nat} {pre pre' : List Value} (h : Kept w w' D D') (hd : OwnB w B' e' sz' D k' cap' pre') (ho : OwnB w B e sz E k cap pre) (hne : e' ≠ e) : OwnB w' B e sz E k cap pre :=
  h.own ho fun g h1 h2 => by
    rcases hd.2.2 with ⟨h3, _⟩ | ⟨g1, _, hd1, _, hb1, _⟩
    · rw [h1] at h3; cases h3
    · rcases ho.2.2 with ⟨h3, _⟩ | ⟨g2, _, hd2, _, hb2, _⟩
      · rw [h2] at h3; cases h3
      · obtain rfl : g = g1 := by rw [h1] at hd1; injection hd1 with e; injection e
        obtain rfl : g = g2 := by rw [h2] at hd2; injection hd2 with e; injection e
        exact hb1.ne_ hb2 hne rfl
/-- where the new slice lies: apart from what was apart -/
theorem Kept.apart {B sz k cap : Nat} {pre : List Value} (h : Kept w w' D D') (ho : OwnB w B e sz E k cap pre) (hne : ∀ g, D = some ⟨g, 0, none⟩ → E ≠ some ⟨g, 0, none⟩) : ∀ g, D' = some ⟨g, 0, none⟩ → E ≠ some ⟨g, 0, none⟩ := fun g h1 h2 => by
  rcases h.2 with h3 | h3
  · exact hne g (h3 ▸ h1) h2
  · rcases ho.2.2 with ⟨h4, _⟩ | ⟨g2, _, hd2, _, hb2, _⟩
    · rw [h2] at h4; cases h4
    · obtain rfl : g = g2 := by rw [h2] at hd2; injection hd2 with e; injection e
      obtain rfl : g = w.heap.size := by rw [h1] at h3; injection h3 with e; injection e
      exact Nat.lt_irrefl _ hb2.lt
end

/-- append onto a slice of the call's own, from whatever source, there being room or not -/
theorem wp_append_ownK {P : Program} {w : World} {o : Oper} {a : Act} {K : Act → World → Prop} {Q : Exit → Act → World → Prop} (s x : Operand) (t tx : TypeId)
    (ho : o.op = .call { callee := .builtin .append, args := #[s, x], argTypes := #[t, tx] }) (e : TypeId) (i : TypeInfo) (z : Value) (sz bytes : Nat) (ht : P.underlying t = some (.slice e)) (hi : P.info? e = some i) (hz : i.zero = some z) (hsz : i.size = sz) (hby : i.bytes = bytes) (hzs : z.cells.size = sz)
    (B : Nat) (D : Option Addr) (k cap : Nat) (pre : List Value) (hs : a.eval s = .slice D k cap) (hown : OwnB w B e sz D k cap pre) (v : Value) (hx : a.eval x = v) (n : Nat) (news : List Value) (hsrc : Src P sz tx v n news w)
    (h63 : k + n ≤ 140737488355328) (hbytes : (k + n) * bytes ≤ 140737488355328) (w0 : World) (hbel : Below B w0 w) (hBs : B ≤ w.heap.size)
    (h : ∀ w' D' cap', Hid (OwnB w' B e sz D' (k + n) cap' (pre ++ news)) → Hid (Kept w w' D D') → Below B w0 w' → w.heap.size ≤ w'.heap.size → K (a.put o.dst (.slice D' (k + n) cap')) w') : o.wp P a w K Q := by
  have hnl : news.length = n * sz := hsrc.newsLen
  obtain ⟨hpl, hkc, hform⟩ := hown
  by_cases hroom : k + n ≤ cap
  · rcases hform with ⟨rfl, rfl, rfl⟩ | ⟨g, sp, rfl, hg, hb, hc⟩
    · obtain rfl : n = 0 := by omega
      have hn0 : news = [] := List.eq_nil_of_length_eq_zero (by simpa using hnl)
      have hp0 : pre = [] := List.eq_nil_of_length_eq_zero (by simpa using hpl)
      subst hn0 hp0
      have hrun : (Builtin.append_ #[t, tx] o.type #[.slice none 0 0, v]).run P w = .ok (.slice none 0 0) w := by
        have hcells := hsrc.cells
        rcases hsrc.kind with ⟨e', hk⟩ | hk <;> simp [Builtin.append_, run_underlying ht, run_underlying hk, sizeOf, typeInfo, hi, hsz, hsrc.len, hcells]
      unfold Oper.wp
      simp [execOp, ho, resolve, invoke, builtin, hs, hx, hrun, Result.andThen]
      exact h _ none 0 (show OwnB _ _ _ _ _ _ _ _ by simpa using OwnB.nil w B e sz) (show Kept _ _ _ _ from ⟨fun _ _ _ => rfl, .inl rfl⟩) hbel (Nat.le_refl _)
    · have hmul : (k + n) * sz ≤ cap * sz := Nat.mul_le_mul_right _ hroom
      rw [Nat.add_mul] at hmul
      have hcell : ∀ j, j < news.length → (w.cell? ⟨g, 0 + k * i.size + j, none⟩).isSome = true := fun j hj => by
        rw [hb.cell, hsz, List.getElem?_eq_getElem (by rw [List.length_append]; omega)]; rfl
      have hfr : ∀ j, j < news.length → w.frozen? ⟨g, 0 + k * i.size + j, none⟩ = false := fun j _ => hb.frozen _
      have hrun := run_append_room_src (P := P) w t tx o.type e i ht hi g 0 k cap v n news (by rw [hsz]; exact hsrc) hroom hcell hfr
      rw [hsz, Nat.zero_add] at hrun
      obtain ⟨k1, k2, k3⟩ := heap_setCells g news (k * sz) w (pre ++ sp) e hb (by rw [List.length_append]; omega)
      have e1 : (pre ++ sp).take (k * sz) = pre := by rw [List.take_append_of_le_length (by omega), List.take_of_length_le (by omega)]
      have e2 : (pre ++ sp).drop (k * sz + news.length) = sp.drop news.length := by rw [List.drop_append, List.drop_eq_nil_of_le (by omega), List.nil_append]; congr 1; omega
      rw [e1, e2, ← List.append_assoc] at k1
      unfold Oper.wp
      simp [execOp, ho, resolve, invoke, builtin, hs, hx, hrun, Result.andThen]
      exact h _ (some ⟨g, 0, none⟩) cap (show OwnB _ _ _ _ _ _ _ _ from ⟨by rw [List.length_append, Nat.add_mul]; omega, hroom, .inr ⟨g, _, rfl, hg, k1, by rw [List.length_drop, Nat.add_mul]; omega⟩⟩) (show Kept _ _ _ _ from ⟨fun g' hg' hne => k2.block g' hg' (fun e => hne (by injection e with e; rw [e])), .inl rfl⟩) (below_grown hbel k2 hBs hg) (Nat.le_of_eq k3.symm)
  · have hslD : Sl w D pre := OwnB.sl (B := B) (e := e) ⟨hpl, hkc, hform⟩
    have hold : (Builtin.firstCells i.size k (.slice D k cap)).run P w.drew = .ok pre.toArray w.drew := by
      cases D with
      | none =>
        obtain rfl := hslD.none_nil rfl
        exact run_firstCells_none w.drew i.size k k cap
      | some a =>
        refine run_firstCells_some w.drew i.size k a k cap pre (by rw [hsz]; exact hpl) (fun j u hu => ?_)
        obtain ⟨b, o, e, hc⟩ := hslD j u hu
        obtain rfl : a = ⟨b, o, none⟩ := by injection e
        rw [Addr.add_lit]; exact hc
    have hrun := run_append_grow_src (P := P) w t tx o.type e i z ht hi hz D k cap pre hold v n news (by rw [hsz]; exact hsrc) (by omega) (by omega) (growslice_fits (by omega) (by rw [hby]; exact hbytes))
    have hge := grownCap_ge w (k + n) cap e
    unfold Oper.wp
    simp [execOp, ho, resolve, invoke, builtin, hs, hx, hrun, Result.andThen]
    refine h _ (some ⟨w.heap.size, 0, none⟩) (grownCap w (k + n) cap e) (show OwnB _ _ _ _ _ _ _ _ from ⟨by rw [List.length_append, Nat.add_mul]; omega, hge, .inr ⟨w.heap.size, (Builtin.zeroCells z.cells (grownCap w (k + n) cap e - (k + n))).toList, rfl, hBs, ?_, ?_⟩⟩) (show Kept _ _ _ _ from ⟨fun g' hg' _ => Below.heap_alloc w.drew _ g' hg', .inr rfl⟩) ((hbel.drew).alloc (by simpa using hBs) _) (by simp)
    · have h1 := Blk.new w.drew e ((pre ++ news).toArray ++ Builtin.zeroCells z.cells (grownCap w (k + n) cap e - (k + n)))
      simpa using h1
    · have : (grownCap w (k + n) cap e - (k + n)) * sz = grownCap w (k + n) cap e * sz - (k + n) * sz := Nat.sub_mul ..
      have := Nat.mul_le_mul_right sz hge
      simp [Builtin.zeroCells, hzs]; omega

/-- .. at a plain region's list -/
theorem wpList_append_ownK {P : Program} {w : World} {ops : Array Oper} {rest : List Oper} {o : Oper} {a : Act} {Q : Exit → Act → World → Prop} (hgd : o.guard = none) (s x : Operand) (t tx : TypeId)
    (ho : o.op = .call { callee := .builtin .append, args := #[s, x], argTypes := #[t, tx] }) (e : TypeId) (i : TypeInfo) (z : Value) (sz bytes : Nat) (ht : P.underlying t = some (.slice e)) (hi : P.info? e = some i) (hz : i.zero = some z) (hsz : i.size = sz) (hby : i.bytes = bytes) (hzs : z.cells.size = sz)
    (B : Nat) (D : Option Addr) (k cap : Nat) (pre : List Value) (hs : a.eval s = .slice D k cap) (hown : OwnB w B e sz D k cap pre) (v : Value) (hx : a.eval x = v) (n : Nat) (news : List Value) (hsrc : Src P sz tx v n news w)
    (h63 : k + n ≤ 140737488355328) (hbytes : (k + n) * bytes ≤ 140737488355328) (w0 : World) (hbel : Below B w0 w) (hBs : B ≤ w.heap.size)
    (h : ∀ w' D' cap', Hid (OwnB w' B e sz D' (k + n) cap' (pre ++ news)) → Hid (Kept w w' D D') → Below B w0 w' → w.heap.size ≤ w'.heap.size → wpList P ops Q rest (a.put o.dst (.slice D' (k + n) cap')) w') :
    wpList P ops Q (o :: rest) a w :=
  wpList_plain hgd fun _ hK => wp_append_ownK s x t tx ho e i z sz bytes ht hi hz hsz hby hzs B D k cap pre hs hown v hx n news hsrc h63 hbytes w0 hbel hBs fun w' D' c' h1 h2 h3 h4 => hK _ _ (h w' D' c' h1 h2 h3 h4)
/-- .. at a step of a region that draws its order -/
theorem step_append_ownK {P : Program} {w : World} {ops : Array Oper} {o : Oper} {a : Act} {K : Act → World → Prop} {Q : Exit → Act → World → Prop} {E : Prop} (hgd : o.guard = none) (s x : Operand) (t tx : TypeId)
    (ho : o.op = .call { callee := .builtin .append, args := #[s, x], argTypes := #[t, tx] }) (e : TypeId) (i : TypeInfo) (z : Value) (sz bytes : Nat) (ht : P.underlying t = some (.slice e)) (hi : P.info? e = some i) (hz : i.zero = some z) (hsz : i.size = sz) (hby : i.bytes = bytes) (hzs : z.cells.size = sz)
    (B : Nat) (D : Option Addr) (k cap : Nat) (pre : List Value) (hs : a.eval s = .slice D k cap) (hown : OwnB w B e sz D k cap pre) (v : Value) (hx : a.eval x = v) (n : Nat) (news : List Value) (hsrc : Src P sz tx v n news w)
    (h63 : k + n ≤ 140737488355328) (hbytes : (k + n) * bytes ≤ 140737488355328) (w0 : World) (hbel : Below B w0 w) (hBs : B ≤ w.heap.size)
    (h : ∀ w' D' cap', Hid (OwnB w' B e sz D' (k + n) cap' (pre ++ news)) → Hid (Kept w w' D D') → Below B w0 w' → w.heap.size ≤ w'.heap.size → K (a.put o.dst (.slice D' (k + n) cap')) w') :
    if Region.wanted o (yielded ops a.tmps) = true then Oper.wp P o a w K Q else E := by
  have hw : Region.wanted o (yielded ops a.tmps) = true := by simp [Region.wanted, hgd]
  rw [if_pos hw]
  exact wp_append_ownK s x t tx ho e i z sz bytes ht hi hz hsz hby hzs B D k cap pre hs hown v hx n news hsrc h63 hbytes w0 hbel hBs h
end Go.Mem
