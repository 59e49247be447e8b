/-
  append as a law for the walk: onto a block that is known whole, from whatever source, where there is room; and where it grows.
-/
import Derived.Test.YtbmgeomndfodpaaMem
import Derived.Deep.AppendSrc
namespace Go.Mem
open Go.RowKit

theorem srcOfSl {P : Program} {w : World} {size : Nat} {tx e' : TypeId} (hk : P.underlying tx = some (.slice e')) {A : Option Addr} {n c : Nat} {news : List Value} (hl : news.length = n * size) (hn0 : n = 0 → news = []) (h : Sl w A news) (hA : A = none → n = 0)
    (h1 : ∀ u ∈ news, u.oneCell' = true) : Src P size tx (.slice A n c) n news w := by
  cases A with
  | none =>
    obtain rfl := hA rfl
    obtain rfl := hn0 rfl
    exact Src.ofNil w hk c
  | some a =>
    refine Src.ofSlice w hk a n c news hl (fun j u hu => ?_) h1
    obtain ⟨b, o, e, hc⟩ := h j u hu
    obtain rfl : a = ⟨b, o, none⟩ := by injection e
    rw [Addr.add_lit]; exact hc
theorem Sl.none_nil {w : World} {A : Option Addr} {xs : List Value} (h : Sl w A xs) (hA : A = none) : xs = [] := by
  cases xs with
  | nil => rfl
  | cons x r =>
    obtain ⟨b, o, e, _⟩ := h 0 x rfl
    rw [hA] at e; cases e
/-- a slice of one-cell elements as append's source -/
theorem srcSl {P : Program} {w : World} {tx e' : TypeId} (hk : P.underlying tx = some (.slice e')) {A : Option Addr} {n c : Nat} {news : List Value} (hl : news.length = n) (h : Sl w A news) (h1 : ∀ u ∈ news, u.oneCell' = true) : Src P 1 tx (.slice A n c) n news w :=
  srcOfSl hk (by rw [Nat.mul_one]; exact hl) (fun e => List.eq_nil_of_length_eq_zero (by omega)) h (fun e => by have := h.none_nil e; subst this; exact hl.symm) h1

theorem bytes_one (bs : List UInt8) : ∀ u ∈ bs.map B8, u.oneCell' = true := by
  intro u hu; obtain ⟨_, _, rfl⟩ := List.mem_map.1 hu; rfl

theorem heap_setCells (g : Nat) : ∀ (vs : List Value) (o : Nat) (w : World) (cs : List Value) (t : TypeId), Blk w g t cs → o + vs.length ≤ cs.length → Blk (w.setCells g o vs) g t (cs.take o ++ (vs ++ cs.drop (o + vs.length))) ∧ w.grownBy (w.setCells g o vs) (some g) ∧ (w.setCells g o vs).heap.size = w.heap.size := by
  intro vs
  induction vs with
  | nil =>
    intro o w cs t h _
    refine ⟨by simpa [World.setCells] using h, World.grownBy.refl _ _, rfl⟩
  | cons v vs ih =>
    intro o w cs t h hl
    simp only [List.length_cons] at hl
    have h1 := h.set_ o v
    obtain ⟨k1, k2, k3⟩ := ih (o + 1) (w.setCell ⟨g, o, none⟩ v) _ t h1 (by simp; omega)
    have hw : w.setCells g o (v :: vs) = (w.setCell ⟨g, o, none⟩ v).setCells g (o + 1) vs := rfl
    rw [hw]
    refine ⟨?_, ?_, by rw [k3]; simp [World.setCell]⟩
    · have e : List.take (o + 1) (cs.set o v) ++ (vs ++ List.drop (o + 1 + vs.length) (cs.set o v)) = cs.take o ++ (v :: vs ++ cs.drop (o + (v :: vs).length)) := by
        rw [List.drop_set_of_lt (by omega), List.take_succ_eq_append_getElem (by simp; omega), List.take_set_of_le (by omega)]
        simp [Nat.add_assoc, Nat.add_comm 1]
      rw [← e]; exact k1
    · have g1 := grown_setCell w g o v 0
      exact ⟨k2.os.trans g1.os, k2.tape.trans g1.tape, k2.output.trans g1.output, Nat.le_trans g1.size k2.size, fun i hi hne => (k2.block i (Nat.lt_of_lt_of_le hi g1.size) hne).trans (g1.block i hi hne)⟩

/-- append where there is room -/
theorem wpList_append_blk {P : Program} {w : World} {ops : Array Oper} {rest : List Oper} {o : Oper} {a : Act} {Q : Exit → Act → World → Prop} (hgd : o.guard = none) (s x : Operand) (t tx : TypeId)
    (ho : o.op = .call { callee := .builtin .append, args := #[s, x], argTypes := #[t, tx] }) (e : TypeId) (i : TypeInfo) (ht : P.underlying t = some (.slice e)) (hi : P.info? e = some i) (hsz : i.size = 1)
    (g k cap : Nat) (cs : List Value) (hs : a.eval s = .slice (some ⟨g, 0, none⟩) k cap) (hb : Blk w g e cs) (hc : cs.length = cap) (v : Value) (hx : a.eval x = v) (n : Nat) (news : List Value) (hsrc : Src P 1 tx v n news w) (hroom : k + n ≤ cap)
    (B : Nat) (w0 : World) (hbel : Below B w0 w) (hBs : B ≤ w.heap.size) (hBg : B ≤ g)
    (h : ∀ w', Hid (Blk w' g e (cs.take k ++ (news ++ cs.drop (k + n)))) → Below B w0 w' → w'.heap.size = w.heap.size → wpList P ops Q rest (a.put o.dst (.slice (some ⟨g, 0, none⟩) (k + n) cap)) w') :
    wpList P ops Q (o :: rest) a w := by
  refine wpList_plain hgd fun K hK => ?_
  have hnl : news.length = n := by have := hsrc.newsLen; omega
  have hcell : ∀ j, j < news.length → (w.cell? ⟨g, 0 + k * i.size + j, none⟩).isSome = true := fun j hj => by
    rw [hb.cell, hsz, List.getElem?_eq_getElem (by omega)]; rfl
  have hfr : ∀ j, j < news.length → w.frozen? ⟨g, 0 + k * i.size + j, none⟩ = false := fun j _ => hb.frozen _
  have hrun := run_append_room_src (P := P) w t tx o.type e i ht hi g 0 k cap v n news (by rw [hsz]; exact hsrc) hroom hcell hfr
  rw [hsz, Nat.mul_one, Nat.zero_add] at hrun
  obtain ⟨k1, k2, k3⟩ := heap_setCells g news k w cs e hb (by omega)
  rw [hnl] at k1
  unfold Oper.wp
  simp [execOp, ho, resolve, invoke, builtin, hs, hx, hrun, Result.andThen]
  exact hK _ _ (h _ k1 (below_grown hbel k2 hBs hBg) k3)

/-- append where there is room, the cells so far told as a beginning -/
theorem wpList_append_pre {P : Program} {w : World} {ops : Array Oper} {rest : List Oper} {o : Oper} {a : Act} {Q : Exit → Act → World → Prop} (hgd : o.guard = none) (s x : Operand) (t tx : TypeId)
    (ho : o.op = .call { callee := .builtin .append, args := #[s, x], argTypes := #[t, tx] }) (e : TypeId) (i : TypeInfo) (ht : P.underlying t = some (.slice e)) (hi : P.info? e = some i) (hsz : i.size = 1)
    (g k cap : Nat) (pre spare : List Value) (hs : a.eval s = .slice (some ⟨g, 0, none⟩) k cap) (hb : Blk w g e (pre ++ spare)) (hp : pre.length = k) (hc : k + spare.length = cap) (v : Value) (hx : a.eval x = v) (n : Nat) (news : List Value) (hsrc : Src P 1 tx v n news w) (hroom : k + n ≤ cap)
    (B : Nat) (w0 : World) (hbel : Below B w0 w) (hBs : B ≤ w.heap.size) (hBg : B ≤ g)
    (h : ∀ w' spare', Hid (Blk w' g e ((pre ++ news) ++ spare')) → Hid (k + n + spare'.length = cap) → Below B w0 w' → w'.heap.size = w.heap.size → wpList P ops Q rest (a.put o.dst (.slice (some ⟨g, 0, none⟩) (k + n) cap)) w') :
    wpList P ops Q (o :: rest) a w := by
  have hnl : news.length = n := by have := hsrc.newsLen; omega
  refine wpList_append_blk hgd s x t tx ho e i ht hi hsz g k cap (pre ++ spare) hs hb (by rw [List.length_append]; omega) v hx n news hsrc hroom B w0 hbel hBs hBg (fun w' h1 h2 h3 => h w' (spare.drop n) ?_ (show _ = _ by rw [List.length_drop]; omega) h2 h3)
  have e1 : (pre ++ spare).take k = pre := by rw [List.take_append_of_le_length (by omega), List.take_of_length_le (by omega)]
  have e2 : (pre ++ spare).drop (k + n) = spare.drop n := by rw [List.drop_append, List.drop_eq_nil_of_le (by omega), List.nil_append]; congr 1; omega
  have h4 := h1.out
  rw [e1, e2, ← List.append_assoc] at h4
  exact h4

/-- append where it grows, or onto nothing: a new block -/
theorem wpList_append_new {P : Program} {w : World} {ops : Array Oper} {rest : List Oper} {o : Oper} {a : Act} {Q : Exit → Act → World → Prop} (hgd : o.guard = none) (s x : Operand) (t tx : TypeId)
    (ho : o.op = .call { callee := .builtin .append, args := #[s, x], argTypes := #[t, tx] }) (e : TypeId) (i : TypeInfo) (z : Value) (ht : P.underlying t = some (.slice e)) (hi : P.info? e = some i) (hz : i.zero = some z) (hsz : i.size = 1) (hzs : z.cells.size = 1)
    (D : Option Addr) (k cap : Nat) (olds : List Value) (hs : a.eval s = .slice D k cap) (hol : olds.length = k) (hD : Sl w D olds) (v : Value) (hx : a.eval x = v) (n : Nat) (news : List Value) (hsrc : Src P 1 tx v n news w) (hgrow : cap < k + n)
    (h63 : k + n ≤ 140737488355328) (hby : (k + n) * i.bytes ≤ 140737488355328) (B : Nat) (w0 : World) (hbel : Below B w0 w) (hBs : B ≤ w.heap.size)
    (h : ∀ w' cap' cs, k + n ≤ cap' → cs.length = cap' → Hid (cs.take (k + n) = olds ++ news) → Hid (Blk w' w.heap.size e cs) → Below B w0 w' → Hid (w'.heap.size = w.heap.size + 1) → wpList P ops Q rest (a.put o.dst (.slice (some ⟨w.heap.size, 0, none⟩) (k + n) cap')) w') :
    wpList P ops Q (o :: rest) a w := by
  refine wpList_plain hgd fun K hK => ?_
  have hnl : news.length = n := by have := hsrc.newsLen; omega
  have hold : (Builtin.firstCells i.size k (.slice D k cap)).run P w.drew = .ok olds.toArray w.drew := by
    cases D with
    | none =>
      obtain rfl := hD.none_nil rfl
      obtain rfl : k = 0 := hol.symm
      exact run_firstCells_none w.drew i.size 0 0 cap
    | some a =>
      refine run_firstCells_some w.drew i.size k a k cap olds (by rw [hsz, Nat.mul_one]; exact hol) (fun j u hu => ?_)
      obtain ⟨b, o, e, hc⟩ := hD j u hu
      obtain rfl : a = ⟨b, o, none⟩ := by injection e
      rw [Addr.add_lit]; exact hc
  have hrun := run_append_grow_src (P := P) w t tx o.type e i z ht hi hz D k cap olds hold v n news (by rw [hsz]; exact hsrc) hgrow (by omega) (growslice_fits hgrow hby)
  have hge := grownCap_ge w (k + n) cap e
  unfold Oper.wp
  simp [execOp, ho, resolve, invoke, builtin, hs, hx, hrun, Result.andThen]
  refine hK _ _ (h _ (grownCap w (k + n) cap e) ((olds ++ news) ++ (Builtin.zeroCells z.cells (grownCap w (k + n) cap e - (k + n))).toList) hge ?_ ?_ ?_ ((hbel.drew).alloc (by simpa using hBs) _) (show _ = _ by simp))
  · simp [hol, hnl, Builtin.zeroCells, hzs]; omega
  · show _ = _
    rw [List.take_append_of_le_length (by simp; omega), List.take_of_length_le (by simp; omega)]
  · have h1 := Blk.new w.drew e ((olds ++ news).toArray ++ Builtin.zeroCells z.cells (grownCap w (k + n) cap e - (k + n)))
    show Blk _ _ _ _
    simpa using h1

/-- A SLICE OF THE CALL's OWN: nil, or at the head of a block from B on, which is known whole; its first elements are 'pre'. -/
def OwnB (w : World) (B : Nat) (e : TypeId) (sz : Nat) (D : Option Addr) (k cap : Nat) (pre : List Value) : Prop :=
  pre.length = k * sz ∧ k ≤ cap ∧ ((D = none ∧ k = 0 ∧ cap = 0) ∨ ∃ g sp, D = some ⟨g, 0, none⟩ ∧ B ≤ g ∧ Blk w g e (pre ++ sp) ∧ k * sz + sp.length = cap * sz)
section
variable {w w' : World} {B : Nat} {e : TypeId} {sz : Nat} {D : Option Addr} {k cap : Nat} {pre : List Value}
theorem OwnB.nil (w : World) (B : Nat) (e : TypeId) (sz : Nat) : OwnB w B e sz none 0 0 [] := ⟨by simp, Nat.le_refl _, .inl ⟨rfl, rfl, rfl⟩⟩
theorem OwnB.empty {W : World} {g : Nat} (hg : g = W.heap.size) (hB : B ≤ g) : OwnB (W.alloc (.cells #[] e)) B e sz (some ⟨g, 0, none⟩) 0 0 [] := by
  subst hg
  exact ⟨by simp, Nat.le_refl _, .inr ⟨_, [], rfl, hB, Blk.new W e #[], by simp⟩⟩
theorem OwnB.sl (h : OwnB w B e sz D k cap pre) : Sl w D pre := by
  obtain ⟨h1, _, h3⟩ := h
  rcases h3 with ⟨_, rfl, _⟩ | ⟨g, sp, rfl, _, hb, _⟩
  · have : pre = [] := List.eq_nil_of_length_eq_zero (by simpa using h1)
    subst this; exact Sl.nil
  · have h4 := hb.sl.take pre.length
    rw [List.take_append_of_le_length (Nat.le_refl _), List.take_of_length_le (Nat.le_refl _)] at h4
    exact h4
theorem OwnB.keep (h : OwnB w B e sz D k cap pre) (hk : ∀ g, B ≤ g → g < w.heap.size → w'.heap[g]? = w.heap[g]?) : OwnB w' B e sz D k cap pre := by
  obtain ⟨h1, h2, h3⟩ := h
  refine ⟨h1, h2, ?_⟩
  rcases h3 with h3 | ⟨g, sp, hd, hg, hb, hc⟩
  · exact .inl h3
  · exact .inr ⟨g, sp, hd, hg, (hk g hg hb.lt).trans hb, hc⟩
theorem OwnB.alloc (h : OwnB w B e sz D k cap pre) (o : Obj) : OwnB (w.alloc o) B e sz D k cap pre := h.keep fun g _ hl => Below.heap_alloc w o g hl
theorem OwnB.drewN (h : OwnB w B e sz D k cap pre) (n : Nat) : OwnB (w.drewN n) B e sz D k cap pre := h
theorem OwnB.below (h : OwnB w B e sz D k cap pre) (hb : Below w.heap.size w w') : OwnB w' B e sz D k cap pre := h.keep fun g _ hl => hb.block g hl
theorem OwnB.mono {B' : Nat} (h : OwnB w B e sz D k cap pre) (hB : B' ≤ B) : OwnB w B' e sz D k cap pre := by
  obtain ⟨h1, h2, h3⟩ := h
  refine ⟨h1, h2, ?_⟩
  rcases h3 with h3 | ⟨g, sp, hd, hg, hb, hc⟩
  · exact .inl h3
  · exact .inr ⟨g, sp, hd, Nat.le_trans hB hg, hb, hc⟩
theorem OwnB.len (h : OwnB w B e sz D k cap pre) : pre.length = k * sz := h.1
theorem OwnB.le (h : OwnB w B e sz D k cap pre) : k ≤ cap := h.2.1
end

/-- append onto a slice of the call's own, from whatever source, there being room or not -/
theorem wpList_append_ownB {P : Program} {w : World} {ops : Array Oper} {rest : List Oper} {o : Oper} {a : Act} {Q : Exit → Act → World → Prop} (hgd : o.guard = none) (s x : Operand) (t tx : TypeId)
    (ho : o.op = .call { callee := .builtin .append, args := #[s, x], argTypes := #[t, tx] }) (e : TypeId) (i : TypeInfo) (z : Value) (sz bytes : Nat) (ht : P.underlying t = some (.slice e)) (hi : P.info? e = some i) (hz : i.zero = some z) (hsz : i.size = sz) (hby : i.bytes = bytes) (hzs : z.cells.size = sz)
    (B : Nat) (D : Option Addr) (k cap : Nat) (pre : List Value) (hs : a.eval s = .slice D k cap) (hown : OwnB w B e sz D k cap pre) (v : Value) (hx : a.eval x = v) (n : Nat) (news : List Value) (hsrc : Src P sz tx v n news w)
    (h63 : k + n ≤ 140737488355328) (hbytes : (k + n) * bytes ≤ 140737488355328) (w0 : World) (hbel : Below B w0 w) (hBs : B ≤ w.heap.size)
    (h : ∀ w' D' cap', Hid (OwnB w' B e sz D' (k + n) cap' (pre ++ news)) → Below B w0 w' → w.heap.size ≤ w'.heap.size → wpList P ops Q rest (a.put o.dst (.slice D' (k + n) cap')) w') :
    wpList P ops Q (o :: rest) a w := by
  refine wpList_plain hgd fun K hK => ?_
  have hnl : news.length = n * sz := hsrc.newsLen
  obtain ⟨hpl, hkc, hform⟩ := hown
  by_cases hroom : k + n ≤ cap
  · rcases hform with ⟨rfl, rfl, rfl⟩ | ⟨g, sp, rfl, hg, hb, hc⟩
    · obtain rfl : n = 0 := by omega
      have hn0 : news = [] := List.eq_nil_of_length_eq_zero (by simpa using hnl)
      have hp0 : pre = [] := List.eq_nil_of_length_eq_zero (by simpa using hpl)
      subst hn0 hp0
      have hrun : (Builtin.append_ #[t, tx] o.type #[.slice none 0 0, v]).run P w = .ok (.slice none 0 0) w := by
        have hcells := hsrc.cells
        rcases hsrc.kind with ⟨e', hk⟩ | hk <;> simp [Builtin.append_, run_underlying ht, run_underlying hk, sizeOf, typeInfo, hi, hsz, hsrc.len, hcells]
      unfold Oper.wp
      simp [execOp, ho, resolve, invoke, builtin, hs, hx, hrun, Result.andThen]
      exact hK _ _ (h _ none 0 (show OwnB _ _ _ _ _ _ _ _ by simpa using OwnB.nil w B e sz) hbel (Nat.le_refl _))
    · have hmul : (k + n) * sz ≤ cap * sz := Nat.mul_le_mul_right _ hroom
      rw [Nat.add_mul] at hmul
      have hcell : ∀ j, j < news.length → (w.cell? ⟨g, 0 + k * i.size + j, none⟩).isSome = true := fun j hj => by
        rw [hb.cell, hsz, List.getElem?_eq_getElem (by rw [List.length_append]; omega)]; rfl
      have hfr : ∀ j, j < news.length → w.frozen? ⟨g, 0 + k * i.size + j, none⟩ = false := fun j _ => hb.frozen _
      have hrun := run_append_room_src (P := P) w t tx o.type e i ht hi g 0 k cap v n news (by rw [hsz]; exact hsrc) hroom hcell hfr
      rw [hsz, Nat.zero_add] at hrun
      obtain ⟨k1, k2, k3⟩ := heap_setCells g news (k * sz) w (pre ++ sp) e hb (by rw [List.length_append]; omega)
      have e1 : (pre ++ sp).take (k * sz) = pre := by rw [List.take_append_of_le_length (by omega), List.take_of_length_le (by omega)]
      have e2 : (pre ++ sp).drop (k * sz + news.length) = sp.drop news.length := by rw [List.drop_append, List.drop_eq_nil_of_le (by omega), List.nil_append]; congr 1; omega
      rw [e1, e2, ← List.append_assoc] at k1
      unfold Oper.wp
      simp [execOp, ho, resolve, invoke, builtin, hs, hx, hrun, Result.andThen]
      exact hK _ _ (h _ (some ⟨g, 0, none⟩) cap (show OwnB _ _ _ _ _ _ _ _ from ⟨by rw [List.length_append, Nat.add_mul]; omega, hroom, .inr ⟨g, _, rfl, hg, k1, by rw [List.length_drop, Nat.add_mul]; omega⟩⟩) (below_grown hbel k2 hBs hg) (Nat.le_of_eq k3.symm))
  · have hslD : Sl w D pre := OwnB.sl (B := B) (e := e) ⟨hpl, hkc, hform⟩
    have hold : (Builtin.firstCells i.size k (.slice D k cap)).run P w.drew = .ok pre.toArray w.drew := by
      cases D with
      | none =>
        obtain rfl := hslD.none_nil rfl
        exact run_firstCells_none w.drew i.size k k cap
      | some a =>
        refine run_firstCells_some w.drew i.size k a k cap pre (by rw [hsz]; exact hpl) (fun j u hu => ?_)
        obtain ⟨b, o, e, hc⟩ := hslD j u hu
        obtain rfl : a = ⟨b, o, none⟩ := by injection e
        rw [Addr.add_lit]; exact hc
    have hrun := run_append_grow_src (P := P) w t tx o.type e i z ht hi hz D k cap pre hold v n news (by rw [hsz]; exact hsrc) (by omega) (by omega) (growslice_fits (by omega) (by rw [hby]; exact hbytes))
    have hge := grownCap_ge w (k + n) cap e
    unfold Oper.wp
    simp [execOp, ho, resolve, invoke, builtin, hs, hx, hrun, Result.andThen]
    refine hK _ _ (h _ (some ⟨w.heap.size, 0, none⟩) (grownCap w (k + n) cap e) (show OwnB _ _ _ _ _ _ _ _ from ⟨by rw [List.length_append, Nat.add_mul]; omega, hge, .inr ⟨w.heap.size, (Builtin.zeroCells z.cells (grownCap w (k + n) cap e - (k + n))).toList, rfl, hBs, ?_, ?_⟩⟩) ((hbel.drew).alloc (by simpa using hBs) _) (by simp))
    · have h1 := Blk.new w.drew e ((pre ++ news).toArray ++ Builtin.zeroCells z.cells (grownCap w (k + n) cap e - (k + n)))
      simpa using h1
    · have : (grownCap w (k + n) cap e - (k + n)) * sz = grownCap w (k + n) cap e * sz - (k + n) * sz := Nat.sub_mul ..
      have := Nat.mul_le_mul_right sz hge
      simp [Builtin.zeroCells, hzs]; omega
end Go.Mem
