/-
  append onto a slice of the call's own that begins anywhere in its block: cells of one.
-/
import Derived.Test.YtepmnhlfjidhjabApp2
namespace Go.Mem
open Go.RowKit Go

/-- the slice is the call's own: what stands ahead of it, and behind it, in its block is nobody's -/
def OwnO (w : World) (B : Nat) (e : TypeId) (D : Option Addr) (k cap : Nat) (xs : List Value) : Prop :=
  xs.length = k ∧ k ≤ cap ∧ ((D = none ∧ k = 0 ∧ cap = 0) ∨ ∃ g junk sp, D = some ⟨g, junk.length, none⟩ ∧ B ≤ g ∧ Blk w g e (junk ++ (xs ++ sp)) ∧ cap ≤ k + sp.length)
section
variable {w w' : World} {B : Nat} {e : TypeId} {D : Option Addr} {k cap : Nat} {xs : List Value}
theorem OwnO.nil (w : World) (B : Nat) (e : TypeId) : OwnO w B e none 0 0 [] := ⟨rfl, Nat.le_refl _, .inl ⟨rfl, rfl, rfl⟩⟩
theorem OwnO.keep (h : OwnO w B e D k cap xs) (hk : ∀ g o, D = some ⟨g, o, none⟩ → w'.heap[g]? = w.heap[g]?) : OwnO w' B e D k cap xs := by
  obtain ⟨h1, h2, h3⟩ := h
  refine ⟨h1, h2, ?_⟩
  rcases h3 with h3 | ⟨g, j, sp, hd, hg, hb, hc⟩
  · exact .inl h3
  · exact .inr ⟨g, j, sp, hd, hg, (hk g _ hd).trans hb, hc⟩
theorem OwnO.lt (h : OwnO w B e D k cap xs) {g o : Nat} (hd : D = some ⟨g, o, none⟩) : g < w.heap.size := by
  rcases h.2.2 with ⟨h3, _⟩ | ⟨g', j, sp, hd', hg, hb, hc⟩
  · rw [hd] at h3; cases h3
  · rw [hd] at hd'; injection hd' with e1; injection e1 with e2 _; rw [e2]; exact hb.lt
theorem OwnO.blk (h : OwnO w B e D k cap xs) {g o : Nat} (hd : D = some ⟨g, o, none⟩) : ∃ cs, Blk w g e cs := by
  rcases h.2.2 with ⟨h3, _⟩ | ⟨g', j, sp, hd', hg, hb, hc⟩
  · rw [hd] at h3; cases h3
  · rw [hd] at hd'; injection hd' with e1; injection e1 with e2 _; rw [e2]; exact ⟨_, hb⟩
theorem OwnO.below (h : OwnO w B e D k cap xs) (hb : Below w.heap.size w w') : OwnO w' B e D k cap xs := h.keep fun g _ hd => hb.block g (h.lt hd)
theorem OwnO.alloc (h : OwnO w B e D k cap xs) (o : Obj) : OwnO (w.alloc o) B e D k cap xs := h.below ((Below.refl _ _).alloc (Nat.le_refl _) o)
theorem OwnO.drewN (h : OwnO w B e D k cap xs) (n : Nat) : OwnO (w.drewN n) B e D k cap xs := h
theorem OwnO.drew (h : OwnO w B e D k cap xs) : OwnO w.drew B e D k cap xs := h
theorem OwnO.sl (h : OwnO w B e D k cap xs) : Sl w D xs := by
  obtain ⟨h1, h2, h3⟩ := h
  rcases h3 with ⟨rfl, rfl, _⟩ | ⟨g, j, sp, rfl, _, hb, _⟩
  · obtain rfl := List.eq_nil_of_length_eq_zero h1; exact Sl.nil
  · intro i v hv
    refine ⟨g, _, rfl, ?_⟩
    rw [hb.cell, List.getElem?_append_right (by omega), Nat.add_sub_cancel_left, List.getElem?_append_left (List.getElem?_eq_some_iff.1 hv).1]
    exact hv
/-- without its first element -/
theorem OwnO.tail {x : Value} (h : OwnO w B e D (k + 1) cap (x :: xs)) : OwnO w B e (if cap = 1 then D else D.map (·.add 1)) k (cap - 1) xs := by
  obtain ⟨h1, h2, h3⟩ := h
  have hl : xs.length = k := by simpa using h1
  rcases h3 with ⟨_, h4, _⟩ | ⟨g, j, sp, rfl, hg, hb, hc⟩
  · omega
  · refine ⟨hl, by omega, .inr ?_⟩
    by_cases hcap : cap = 1
    · rw [if_pos hcap]
      obtain rfl : xs = [] := List.eq_nil_of_length_eq_zero (by omega)
      exact ⟨g, j, x :: sp, rfl, hg, hb, by omega⟩
    · rw [if_neg hcap]
      refine ⟨g, j ++ [x], sp, ?_, hg, ?_, by omega⟩
      · show some (Addr.add ⟨g, j.length, none⟩ 1) = _
        rw [Addr.add_lit, List.length_append]; rfl
      · have : (j ++ [x]) ++ (xs ++ sp) = j ++ ((x :: xs) ++ sp) := by simp
        rw [this]; exact hb
end
theorem wp_append_ownO {P : Program} {w : World} {o : Oper} {a : Act} {K : Act → World → Prop} {Q : Exit → Act → World → Prop} (s x : Operand) (t tx : TypeId)
    (ho : o.op = .call { callee := .builtin .append, args := #[s, x], argTypes := #[t, tx] }) (e : TypeId) (i : TypeInfo) (z : Value) (bytes : Nat) (ht : P.underlying t = some (.slice e)) (hi : P.info? e = some i) (hz : i.zero = some z) (hsz : i.size = 1) (hby : i.bytes = bytes) (hzs : z.cells.size = 1)
    (B : Nat) (D : Option Addr) (k cap : Nat) (pre : List Value) (hs : a.eval s = .slice D k cap) (hown : OwnO w B e D k cap pre) (v : Value) (hx : a.eval x = v) (n : Nat) (news : List Value) (hsrc : Src P 1 tx v n news w)
    (h63 : k + n ≤ 140737488355328) (hbytes : (k + n) * bytes ≤ 140737488355328) (w0 : World) (hbel : Below B w0 w) (hBs : B ≤ w.heap.size)
    (h : ∀ w' D' cap', Hid (OwnO w' B e D' (k + n) cap' (pre ++ news)) → Hid (D' = D ∨ ∃ g, D' = some ⟨g, 0, none⟩ ∧ g = w.heap.size) → Hid (∀ g, g < w.heap.size → (∀ o, D ≠ some ⟨g, o, none⟩) → w'.heap[g]? = w.heap[g]?) → Below B w0 w' → w.heap.size ≤ w'.heap.size → K (a.put o.dst (.slice D' (k + n) cap')) w') : o.wp P a w K Q := by
  have hnl : news.length = n * 1 := hsrc.newsLen
  rw [Nat.mul_one] at hnl
  obtain ⟨hpl, hkc, hform⟩ := hown
  by_cases hroom : k + n ≤ cap
  · rcases hform with ⟨rfl, rfl, rfl⟩ | ⟨g, junk, sp, rfl, hg, hb, hc⟩
    · obtain rfl : n = 0 := by omega
      have hn0 : news = [] := List.eq_nil_of_length_eq_zero (by simpa using hnl)
      have hp0 : pre = [] := List.eq_nil_of_length_eq_zero (by simpa using hpl)
      subst hn0 hp0
      have hrun : (Builtin.append_ #[t, tx] o.type #[.slice none 0 0, v]).run P w = .ok (.slice none 0 0) w := by
        have hcells := hsrc.cells
        rcases hsrc.kind with ⟨e', hk⟩ | hk <;> simp [Builtin.append_, run_underlying ht, run_underlying hk, sizeOf, typeInfo, hi, hsz, hsrc.len, hcells]
      unfold Oper.wp
      simp [execOp, ho, resolve, invoke, builtin, hs, hx, hrun, Result.andThen]
      exact h _ none 0 (show OwnO _ _ _ _ _ _ _ by simpa using OwnO.nil w B e) (show _ ∨ _ from .inl rfl) (show ∀ _, _ from fun _ _ _ => rfl) hbel (Nat.le_refl _)
    · have hcell : ∀ j, j < news.length → (w.cell? ⟨g, junk.length + k * i.size + j, none⟩).isSome = true := fun j hj => by
        rw [hb.cell, hsz, List.getElem?_eq_getElem (by rw [List.length_append, List.length_append]; omega)]; rfl
      have hfr : ∀ j, j < news.length → w.frozen? ⟨g, junk.length + k * i.size + j, none⟩ = false := fun j _ => hb.frozen _
      have hrun := run_append_room_src (P := P) w t tx o.type e i ht hi g junk.length k cap v n news (by rw [hsz]; exact hsrc) hroom hcell hfr
      rw [hsz, Nat.mul_one] at hrun
      obtain ⟨k1, k2, k3⟩ := heap_setCells g news (junk.length + k) w (junk ++ (pre ++ sp)) e hb (by rw [List.length_append, List.length_append]; omega)
      have e1 : (junk ++ (pre ++ sp)).take (junk.length + k) = junk ++ pre := by rw [List.take_length_add_append, List.take_append_of_le_length (by omega), List.take_of_length_le (by omega)]
      have e2 : (junk ++ (pre ++ sp)).drop (junk.length + k + news.length) = sp.drop news.length := by
        rw [Nat.add_assoc, List.drop_append, List.drop_eq_nil_of_le (by omega), List.nil_append, Nat.add_sub_cancel_left, List.drop_append, List.drop_eq_nil_of_le (by omega), List.nil_append]; congr 1; omega
      rw [e1, e2] at k1
      unfold Oper.wp
      simp [execOp, ho, resolve, invoke, builtin, hs, hx, hrun, Result.andThen]
      exact h _ (some ⟨g, junk.length, none⟩) cap (show OwnO _ _ _ _ _ _ _ from ⟨by rw [List.length_append]; omega, hroom, .inr ⟨g, junk, sp.drop news.length, rfl, hg, by rw [List.append_assoc] at k1; simpa using k1, by rw [List.length_drop]; omega⟩⟩) (show _ ∨ _ from .inl rfl) (show ∀ _, _ from fun g' hg' hne => k2.block g' hg' (fun e => by injection e with e; subst e; exact hne _ rfl)) (below_grown hbel k2 hBs hg) (Nat.le_of_eq k3.symm)
  · have hslD : Sl w D pre := OwnO.sl (B := B) (e := e) ⟨hpl, hkc, hform⟩
    have hold : (Builtin.firstCells i.size k (.slice D k cap)).run P w.drew = .ok pre.toArray w.drew := by
      cases D with
      | none =>
        obtain rfl := hslD.none_nil rfl
        exact run_firstCells_none w.drew i.size k k cap
      | some a =>
        refine run_firstCells_some w.drew i.size k a k cap pre (by rw [hsz, Nat.mul_one]; exact hpl) (fun j u hu => ?_)
        obtain ⟨b, o, e, hc⟩ := hslD j u hu
        obtain rfl : a = ⟨b, o, none⟩ := by injection e
        rw [Addr.add_lit]; exact hc
    have hrun := run_append_grow_src (P := P) w t tx o.type e i z ht hi hz D k cap pre hold v n news (by rw [hsz]; exact hsrc) (by omega) (by omega) (growslice_fits (by omega) (by rw [hby]; exact hbytes))
    have hge := grownCap_ge w (k + n) cap e
    unfold Oper.wp
    simp [execOp, ho, resolve, invoke, builtin, hs, hx, hrun, Result.andThen]
    refine h _ (some ⟨w.heap.size, 0, none⟩) (grownCap w (k + n) cap e) (show OwnO _ _ _ _ _ _ _ from ⟨by rw [List.length_append]; omega, hge, .inr ⟨w.heap.size, [], (Builtin.zeroCells z.cells (grownCap w (k + n) cap e - (k + n))).toList, rfl, hBs, ?_, ?_⟩⟩) (show _ ∨ _ from .inr ⟨_, rfl, rfl⟩) (show ∀ _, _ from fun g' hg' _ => Below.heap_alloc w.drew _ g' hg') ((hbel.drew).alloc (by simpa using hBs) _) (by simp)
    · have h1 := Blk.new w.drew e ((pre ++ news).toArray ++ Builtin.zeroCells z.cells (grownCap w (k + n) cap e - (k + n)))
      simpa using h1
    · simp [Builtin.zeroCells, hzs]; omega
theorem step_append_ownO {P : Program} {w : World} {ops : Array Oper} {o : Oper} {a : Act} {K : Act → World → Prop} {Q : Exit → Act → World → Prop} {E : Prop} (hgd : o.guard = none) (s x : Operand) (t tx : TypeId)
    (ho : o.op = .call { callee := .builtin .append, args := #[s, x], argTypes := #[t, tx] }) (e : TypeId) (i : TypeInfo) (z : Value) (bytes : Nat) (ht : P.underlying t = some (.slice e)) (hi : P.info? e = some i) (hz : i.zero = some z) (hsz : i.size = 1) (hby : i.bytes = bytes) (hzs : z.cells.size = 1)
    (B : Nat) (D : Option Addr) (k cap : Nat) (pre : List Value) (hs : a.eval s = .slice D k cap) (hown : OwnO w B e D k cap pre) (v : Value) (hx : a.eval x = v) (n : Nat) (news : List Value) (hsrc : Src P 1 tx v n news w)
    (h63 : k + n ≤ 140737488355328) (hbytes : (k + n) * bytes ≤ 140737488355328) (w0 : World) (hbel : Below B w0 w) (hBs : B ≤ w.heap.size)
    (h : ∀ w' D' cap', Hid (OwnO w' B e D' (k + n) cap' (pre ++ news)) → Hid (D' = D ∨ ∃ g, D' = some ⟨g, 0, none⟩ ∧ g = w.heap.size) → Hid (∀ g, g < w.heap.size → (∀ o, D ≠ some ⟨g, o, none⟩) → w'.heap[g]? = w.heap[g]?) → Below B w0 w' → w.heap.size ≤ w'.heap.size → K (a.put o.dst (.slice D' (k + n) cap')) w') :
    if Region.wanted o (yielded ops a.tmps) = true then Oper.wp P o a w K Q else E := by
  rw [if_pos (by simp [Region.wanted, hgd])]
  exact wp_append_ownO s x t tx ho e i z bytes ht hi hz hsz hby hzs B D k cap pre hs hown v hx n news hsrc h63 hbytes w0 hbel hBs h
end Go.Mem
