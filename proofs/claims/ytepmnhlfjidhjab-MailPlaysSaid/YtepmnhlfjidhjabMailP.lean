/-
  Three boxes and what each must hold: the state of MailPlays, and what each call does to it.
-/
import Derived.Test.YtepmnhlfjidhjabMailFirst
import Derived.Test.YtepmnhlfjidhjabMailLI
import Derived.Test.YtepmnhlfjidhjabMailRuns
import Derived.Test.YtepmnhlfjidhjabAppO
import Derived.Test.YtepmnhlfjidhjabFlat
import Derived.Test.YtepmnhlfjidhjabI64
namespace Go.Proofs.Ytepmnhlfjidhjab
open Go.RowKit Go.Mem Go.Conc

/-- a box: its place, its channel, its room, what it holds, is it closed; and the list beside it -/
structure Bo where
  p : Nat
  c : Nat
  cap : Nat
  buf : List Int
  bc : Bool
  L : Option Addr
  kc : Nat
  l : List Int
  cl : Bool
def Bo.cells (e : Bo) : List Value := [.slice e.L e.l.length e.kc, .int .i64 (e.cap : Int), .bool e.cl]
def Bo.ptr (e : Bo) : Value := .pointer (some ⟨e.p, 0, none⟩)
def zc (_ : Unit) : List Value := [.slice none 0 0, .int .i64 0, .bool false]
def Bo.Ap (e f : Bo) : Prop := e.p ≠ f.p ∧ e.c ≠ f.c ∧ ∀ g o o', e.L = some ⟨g, o, none⟩ → f.L ≠ some ⟨g, o', none⟩
structure Bos (w0 W : World) (pb pw : Nat) (es : List Bo) : Prop where
  b : Blk W pb 25 (es.map Bo.ptr ++ List.replicate (3 - es.length) (.pointer none))
  w : Blk W pw 29 (es.flatMap Bo.cells ++ (List.replicate (3 - es.length) ()).flatMap zc)
  le : es.length ≤ 3
  on : ∀ (i : Nat) (e : Bo), es[i]? = some e → BoxAt W 73 e.p e.c e.cap (e.buf.map I64) e.bc ∧ OwnO W w0.heap.size 3 e.L e.l.length e.kc (e.l.map I64) ∧ w0.heap.size ≤ e.p ∧ w0.heap.size ≤ e.c
  ap : ∀ (i j : Nat) (e f : Bo), i ≠ j → es[i]? = some e → es[j]? = some f → Bo.Ap e f
  lo : w0.heap.size ≤ pb ∧ w0.heap.size ≤ pw
  bel : Below w0.heap.size w0 W
theorem blk_chan {w : World} {g c : Nat} {t : TypeId} {cs : List Value} {cap : Nat} {buf : Array Value} {a b : Bool} {s r : Nat} (h : Blk w g t cs) (hc : w.heap[c]? = some (.chan cap buf a s r b)) : g ≠ c := fun e => by
  subst e; unfold Blk at h; rw [h] at hc; injection hc with hc; cases hc
section
variable {w0 W W' : World} {pb pw : Nat} {es : List Bo}
theorem Bos.below (h : Bos w0 W pb pw es) (hb : Below W.heap.size W W') : Bos w0 W' pb pw es :=
  ⟨h.b.below hb h.b.lt, h.w.below hb h.w.lt, h.le, fun i e he => ⟨(h.on i e he).1.below hb, (h.on i e he).2.1.below hb, (h.on i e he).2.2⟩, h.ap, h.lo, h.bel.trans (hb.mono h.bel.size)⟩
theorem Bos.drewN (h : Bos w0 W pb pw es) (n : Nat) : Bos w0 (W.drewN n) pb pw es := h.below (below_drewN (Below.refl _ _) n)
theorem Bos.drew (h : Bos w0 W pb pw es) : Bos w0 W.drew pb pw es := h.drewN 1
theorem set_self {α : Type} {l : List α} {k : Nat} {x : α} (h : l[k]? = some x) (y : α) : (l.set k y)[k]? = some y := by
  rw [List.getElem?_set, if_pos rfl, if_pos (List.getElem?_eq_some_iff.1 h).1]
theorem set_at {α : Type} {l : List α} {k i : Nat} {y z : α} (h : (l.set k y)[i]? = some z) : (i = k ∧ z = y) ∨ (i ≠ k ∧ l[i]? = some z) := by
  rw [List.getElem?_set] at h
  split at h
  · rename_i e
    split at h
    · exact .inl ⟨e.symm, (Option.some.inj h).symm⟩
    · cases h
  · rename_i e; exact .inr ⟨fun h => e h.symm, h⟩
theorem set_same {α : Type} {l : List α} {k : Nat} {x : α} (h : l[k]? = some x) : l.set k x = l := by
  apply List.ext_getElem?
  intro i
  rw [List.getElem?_set]
  split
  · rename_i e; subst e; rw [if_pos (List.getElem?_eq_some_iff.1 h).1, h]
  · rfl
theorem box_keep {t : TypeId} {p c cap : Nat} {buf : List Value} {cl : Bool} (h : BoxAt W t p c cap buf cl) (hp : W'.heap[p]? = W.heap[p]?) (hc : W'.heap[c]? = W.heap[c]?) : BoxAt W' t p c cap buf cl := by
  obtain ⟨h1, ⟨s, r, h2⟩, h3⟩ := h
  exact ⟨hp.trans h1, ⟨s, r, hc.trans h2⟩, h3⟩
/-- one row turned: the others, and the two blocks, are told -/
theorem Bos.put {k : Nat} {e e' : Bo} (h : Bos w0 W pb pw es) (he : es[k]? = some e) (ep : e'.p = e.p) (ec : e'.c = e.c)
    (hb : Blk W' pb 25 (es.map Bo.ptr ++ List.replicate (3 - es.length) (.pointer none)))
    (hw : Blk W' pw 29 ((es.set k e').flatMap Bo.cells ++ (List.replicate (3 - es.length) ()).flatMap zc))
    (hbox : BoxAt W' 73 e'.p e'.c e'.cap (e'.buf.map I64) e'.bc) (hown : OwnO W' w0.heap.size 3 e'.L e'.l.length e'.kc (e'.l.map I64))
    (hoth : ∀ (i : Nat) (f : Bo), i ≠ k → es[i]? = some f → W'.heap[f.p]? = W.heap[f.p]? ∧ W'.heap[f.c]? = W.heap[f.c]? ∧ ∀ g o, f.L = some ⟨g, o, none⟩ → W'.heap[g]? = W.heap[g]?)
    (hap : ∀ (i : Nat) (f : Bo), i ≠ k → es[i]? = some f → ∀ g o o', e'.L = some ⟨g, o, none⟩ → f.L ≠ some ⟨g, o', none⟩) (hbel : Below w0.heap.size w0 W') : Bos w0 W' pb pw (es.set k e') := by
  refine ⟨?_, ?_, by rw [List.length_set]; exact h.le, fun i f hi => ?_, fun i j f f' hne hi hj => ?_, h.lo, hbel⟩
  · rw [List.length_set, List.map_set, set_same (by rw [List.getElem?_map, he]; show some (Bo.ptr e) = _; unfold Bo.ptr; rw [ep])]
    exact hb
  · rw [List.length_set]; exact hw
  · rcases set_at hi with ⟨rfl, rfl⟩ | ⟨hne, hi⟩
    · exact ⟨hbox, hown, by rw [ep]; exact (h.on _ e he).2.2.1, by rw [ec]; exact (h.on _ e he).2.2.2⟩
    · obtain ⟨k1, k2, k3⟩ := hoth i f hne hi
      obtain ⟨h1, h2, h3⟩ := h.on i f hi
      exact ⟨box_keep h1 k1 k2, h2.keep k3, h3⟩
  · rcases set_at hi with ⟨e1, e2⟩ | ⟨hni, hi'⟩
    · subst e1 e2
      rcases set_at hj with ⟨e3, _⟩ | ⟨hnj, hj'⟩
      · exact absurd e3.symm hne
      · have := h.ap _ _ e f' hne he hj'
        exact ⟨by rw [ep]; exact this.1, by rw [ec]; exact this.2.1, hap j f' hnj hj'⟩
    · rcases set_at hj with ⟨e1, e2⟩ | ⟨hnj, hj'⟩
      · subst e1 e2
        have := h.ap _ _ f e hne hi' he
        exact ⟨by rw [ep]; exact this.1, by rw [ec]; exact this.2.1, fun g o o' h1 h2 => hap i f hni hi' g o' o h2 h1⟩
      · exact h.ap i j f f' hne hi' hj'
theorem Bos.far {es : List Bo} (h : Bos w0 W pb pw es) {i : Nat} {f : Bo} (hf : es[i]? = some f) : f.p ≠ pw ∧ f.c ≠ pw ∧ f.p ≠ pb ∧ f.c ≠ pb ∧ (∀ g o, f.L = some ⟨g, o, none⟩ → g ≠ pw ∧ g ≠ pb ∧ g ≠ f.p ∧ g ≠ f.c) := by
  obtain ⟨hbx, ho, _⟩ := h.on i f hf
  obtain ⟨hp, ⟨s, r, hc⟩, _⟩ := hbx
  refine ⟨hp.ne_ h.w (by decide), Ne.symm (blk_chan h.w hc), hp.ne_ h.b (by decide), Ne.symm (blk_chan h.b hc), fun g o hg => ?_⟩
  obtain ⟨cs, hb⟩ := ho.blk hg
  exact ⟨hb.ne_ h.w (by decide), hb.ne_ h.b (by decide), hb.ne_ hp (by decide), blk_chan hb hc⟩
theorem Bos.cross {es : List Bo} (h : Bos w0 W pb pw es) {i j : Nat} {e f : Bo} (he : es[i]? = some e) (hf : es[j]? = some f) (hne : i ≠ j) : f.p ≠ e.p ∧ f.c ≠ e.c ∧ f.p ≠ e.c ∧ f.c ≠ e.p ∧ (∀ g o, f.L = some ⟨g, o, none⟩ → g ≠ e.p ∧ g ≠ e.c) := by
  obtain ⟨hbx, ho, _⟩ := h.on j f hf
  obtain ⟨hp, ⟨s, r, hc⟩, _⟩ := hbx
  obtain ⟨hbe, _, _⟩ := h.on i e he
  obtain ⟨hpe, ⟨s', r', hce⟩, _⟩ := hbe
  have ha := h.ap i j e f hne he hf
  refine ⟨Ne.symm ha.1, Ne.symm ha.2.1, blk_chan hp hce, Ne.symm (blk_chan hpe hc), fun g o hg => ?_⟩
  obtain ⟨cs, hb⟩ := ho.blk hg
  exact ⟨hb.ne_ hpe (by decide), blk_chan hb hce⟩
theorem cells_set {es : List Bo} {k q : Nat} {e e' : Bo} {v : Value} {n : Nat} (he : es[k]? = some e) (hq : q < 3) (hc : e'.cells = e.cells.set q v) : (es.flatMap Bo.cells ++ (List.replicate n ()).flatMap zc).set (k * 3 + q) v = (es.set k e').flatMap Bo.cells ++ (List.replicate n ()).flatMap zc := by
  have hk := (List.getElem?_eq_some_iff.1 he).1
  rw [List.set_append_left _ _ (by rw [flat_len (m := 3) (fun _ => rfl)]; omega), flat_set (m := 3) (fun _ => rfl) he hq hc]
theorem cells_at {es : List Bo} {k q : Nat} {e : Bo} {n : Nat} (he : es[k]? = some e) (hq : q < 3) : (es.flatMap Bo.cells ++ (List.replicate n ()).flatMap zc)[k * 3 + q]? = e.cells[q]? := by
  have hk := (List.getElem?_eq_some_iff.1 he).1
  rw [List.getElem?_append_left (by rw [flat_len (m := 3) (fun _ => rfl)]; omega), flat_at (m := 3) (fun _ => rfl) he hq]
theorem cells_same {es : List Bo} {k : Nat} {e e' : Bo} {n : Nat} (he : es[k]? = some e) (hc : e'.cells = e.cells) : (es.set k e').flatMap Bo.cells ++ (List.replicate n ()).flatMap zc = es.flatMap Bo.cells ++ (List.replicate n ()).flatMap zc := by
  rw [← cells_set (v := .slice e.L e.l.length e.kc) he (by decide : (0 : Nat) < 3) (by rw [hc]; rfl)]
  exact set_same (cells_at he (by decide : (0 : Nat) < 3))
/-- a call turned the channel of one box -/
theorem Bos.chan {k : Nat} {e : Bo} {buf : List Int} (h : Bos w0 W pb pw es) (he : es[k]? = some e) (hb : BoxAt W' 73 e.p e.c e.cap (buf.map I64) e.bc) (f : Fr [e.c] W W') : Bos w0 W' pb pw (es.set k { e with buf := buf }) := by
  obtain ⟨hbx, ho, hp, hc⟩ := h.on k e he
  obtain ⟨n1, n2, n3, n4, n5⟩ := h.far he
  have one : ∀ x, x < W.heap.size → x ≠ e.c → W'.heap[x]? = W.heap[x]? := fun x hx hn => f.block x hx (by simpa using hn)
  refine h.put (e' := { e with buf := buf }) he rfl rfl ((one _ h.b.lt (Ne.symm n4)).trans h.b) ?_ hb (ho.keep fun g o hg => one g (ho.lt hg) (n5 g o hg).2.2.2) (fun i f' hne hf => ?_) (fun i f' hne hf => (h.ap k i e f' (Ne.symm hne) he hf).2.2) (below_fr h.bel f h.bel.size (fun x hx => by rw [List.mem_singleton.1 hx]; exact hc))
  · rw [cells_same (e' := { e with buf := buf }) he rfl]; exact (one _ h.w.lt (Ne.symm n2)).trans h.w
  · obtain ⟨m1, m2, m3, m4, m5⟩ := h.cross he hf (Ne.symm hne)
    obtain ⟨hbf, hof, _⟩ := h.on i f' hf
    exact ⟨one _ hbf.plt m3, one _ hbf.clt m2, fun g o hg => one g (hof.lt hg) (m5 g o hg).2⟩
/-- a box was closed -/
theorem Bos.shut {k : Nat} {e : Bo} (h : Bos w0 W pb pw es) (he : es[k]? = some e) (hb : BoxAt W' 73 e.p e.c e.cap (e.buf.map I64) true) (f : Fr [e.p] W W') : Bos w0 W' pb pw (es.set k { e with bc := true }) := by
  obtain ⟨hbx, ho, hp, hc⟩ := h.on k e he
  obtain ⟨n1, n2, n3, n4, n5⟩ := h.far he
  have one : ∀ x, x < W.heap.size → x ≠ e.p → W'.heap[x]? = W.heap[x]? := fun x hx hn => f.block x hx (by simpa using hn)
  refine h.put (e' := { e with bc := true }) he rfl rfl ((one _ h.b.lt (Ne.symm n3)).trans h.b) ?_ hb (ho.keep fun g o hg => one g (ho.lt hg) (n5 g o hg).2.2.1) (fun i f' hne hf => ?_) (fun i f' hne hf => (h.ap k i e f' (Ne.symm hne) he hf).2.2) (below_fr h.bel f h.bel.size (fun x hx => by rw [List.mem_singleton.1 hx]; exact hp))
  · rw [cells_same (e' := { e with bc := true }) he rfl]; exact (one _ h.w.lt (Ne.symm n1)).trans h.w
  · obtain ⟨m1, m2, m3, m4, m5⟩ := h.cross he hf (Ne.symm hne)
    obtain ⟨hbf, hof, _⟩ := h.on i f' hf
    exact ⟨one _ hbf.plt m1, one _ hbf.clt m4, fun g o hg => one g (hof.lt hg) (m5 g o hg).1⟩
/-- a cell of the lists was written: closed -/
theorem Bos.mark {k : Nat} {e : Bo} (h : Bos w0 W pb pw es) (he : es[k]? = some e) : Bos w0 (W.setCell ⟨pw, k * 3 + 2, none⟩ (.bool true)) pb pw (es.set k { e with cl := true }) := by
  obtain ⟨hbx, ho, hp, hc⟩ := h.on k e he
  obtain ⟨n1, n2, n3, n4, n5⟩ := h.far he
  have f : Fr [pw] W (W.setCell ⟨pw, k * 3 + 2, none⟩ (.bool true)) := (Fr.refl _ _).set (by simp) _
  have one : ∀ x, x < W.heap.size → x ≠ pw → (W.setCell ⟨pw, k * 3 + 2, none⟩ (.bool true)).heap[x]? = W.heap[x]? := fun x hx hn => f.block x hx (by simpa using hn)
  refine h.put (e' := { e with cl := true }) he rfl rfl ((one _ h.b.lt (h.b.ne_ h.w (by decide))).trans h.b) ?_ (box_keep hbx (one _ hbx.plt n1) (one _ hbx.clt n2)) (ho.keep fun g o hg => one g (ho.lt hg) (n5 g o hg).1) (fun i f' hne hf => ?_) (fun i f' hne hf => (h.ap k i e f' (Ne.symm hne) he hf).2.2) (h.bel.setCell h.lo.2 _)
  · rw [← cells_set (e' := { e with cl := true }) (v := .bool true) he (by decide : (2 : Nat) < 3) rfl]; exact h.w.set_ _ _
  · obtain ⟨m1, m2, _, _, m5⟩ := h.far hf
    obtain ⟨hbf, hof, _⟩ := h.on i f' hf
    exact ⟨one _ hbf.plt m1, one _ hbf.clt m2, fun g o hg => one g (hof.lt hg) (m5 g o hg).1⟩
/-- a list was moved on -/
theorem Bos.cut {k : Nat} {e : Bo} {x : Int} {l : List Int} (h : Bos w0 W pb pw es) (he : es[k]? = some e) (hl : e.l = x :: l) : Bos w0 (W.setCell ⟨pw, k * 3 + 0, none⟩ (.slice (if e.kc = 1 then e.L else e.L.map (·.add 1)) l.length (e.kc - 1))) pb pw (es.set k { e with l := l, L := if e.kc = 1 then e.L else e.L.map (·.add 1), kc := e.kc - 1 }) := by
  obtain ⟨hbx, ho, hp, hc⟩ := h.on k e he
  obtain ⟨n1, n2, n3, n4, n5⟩ := h.far he
  have f : Fr [pw] W (W.setCell ⟨pw, k * 3 + 0, none⟩ (.slice (if e.kc = 1 then e.L else e.L.map (·.add 1)) l.length (e.kc - 1))) := (Fr.refl _ _).set (by simp) _
  have one : ∀ x, x < W.heap.size → x ≠ pw → (W.setCell ⟨pw, k * 3 + 0, none⟩ (.slice (if e.kc = 1 then e.L else e.L.map (·.add 1)) l.length (e.kc - 1))).heap[x]? = W.heap[x]? := fun x hx hn => f.block x hx (by simpa using hn)
  have hblk : ∀ g o, (if e.kc = 1 then e.L else e.L.map (·.add 1)) = some ⟨g, o, none⟩ → ∃ o', e.L = some ⟨g, o', none⟩ := fun g o hg => by
    split at hg
    · exact ⟨o, hg⟩
    · rcases ho.2.2 with ⟨hn, _⟩ | ⟨g', j, sp, hd, _⟩
      · rw [hn] at hg; cases hg
      · rw [hd] at hg
        have : (Addr.add ⟨g', j.length, none⟩ 1) = ⟨g, o, none⟩ := by simpa using hg
        rw [Addr.add_lit] at this
        injection this with e1 e2
        exact ⟨j.length, by rw [hd, e1]⟩
  have ho2 : OwnO W w0.heap.size 3 (if e.kc = 1 then e.L else e.L.map (·.add 1)) l.length (e.kc - 1) (l.map I64) := by
    rw [hl] at ho; exact OwnO.tail ho
  refine h.put (e' := { e with l := l, L := if e.kc = 1 then e.L else e.L.map (·.add 1), kc := e.kc - 1 }) he rfl rfl ((one _ h.b.lt (h.b.ne_ h.w (by decide))).trans h.b) ?_ (box_keep hbx (one _ hbx.plt n1) (one _ hbx.clt n2)) (ho2.keep fun g o hg => one g (ho2.lt hg) (by obtain ⟨o', h9⟩ := hblk g o hg; exact (n5 g o' h9).1)) (fun i f' hne hf => ?_) (fun i f' hne hf g o o' hg => by obtain ⟨o9, h9⟩ := hblk g o hg; exact (h.ap k i e f' (Ne.symm hne) he hf).2.2 g o9 o' h9) (h.bel.setCell h.lo.2 _)
  · rw [← cells_set (e' := { e with l := l, L := if e.kc = 1 then e.L else e.L.map (·.add 1), kc := e.kc - 1 }) (v := .slice (if e.kc = 1 then e.L else e.L.map (·.add 1)) l.length (e.kc - 1)) he (by decide : (0 : Nat) < 3) rfl]; exact h.w.set_ _ _
  · obtain ⟨m1, m2, _, _, m5⟩ := h.far hf
    obtain ⟨hbf, hof, _⟩ := h.on i f' hf
    exact ⟨one _ hbf.plt m1, one _ hbf.clt m2, fun g o hg => one g (hof.lt hg) (m5 g o hg).1⟩
/-- one was appended to a list, and the list was stored -/
theorem Bos.app {W1 : World} {k : Nat} {e : Bo} {x : Int} {D : Option Addr} {c : Nat} (h : Bos w0 W pb pw es) (he : es[k]? = some e) (ho1 : OwnO W1 w0.heap.size 3 D (e.l.length + 1) c (e.l.map I64 ++ [I64 x])) (hD : D = e.L ∨ ∃ g, D = some ⟨g, 0, none⟩ ∧ W.heap.size ≤ g) (hfr : ∀ g, g < W.heap.size → (∀ o, e.L ≠ some ⟨g, o, none⟩) → W1.heap[g]? = W.heap[g]?) (hbel : Below w0.heap.size w0 W1) (hsz : W.heap.size ≤ W1.heap.size) :
    Bos w0 (W1.setCell ⟨pw, k * 3 + 0, none⟩ (.slice D (e.l.length + 1) c)) pb pw (es.set k { e with l := e.l ++ [x], L := D, kc := c }) := by
  obtain ⟨hbx, ho, hp, hc⟩ := h.on k e he
  obtain ⟨n1, n2, n3, n4, n5⟩ := h.far he
  have f : Fr [pw] W1 (W1.setCell ⟨pw, k * 3 + 0, none⟩ (.slice D (e.l.length + 1) c)) := (Fr.refl _ _).set (by simp) _
  have one1 : ∀ x, x < W1.heap.size → x ≠ pw → (W1.setCell ⟨pw, k * 3 + 0, none⟩ (.slice D (e.l.length + 1) c)).heap[x]? = W1.heap[x]? := fun x hx hn => f.block x hx (by simpa using hn)
  have one : ∀ x, x < W.heap.size → x ≠ pw → (∀ o, e.L ≠ some ⟨x, o, none⟩) → (W1.setCell ⟨pw, k * 3 + 0, none⟩ (.slice D (e.l.length + 1) c)).heap[x]? = W.heap[x]? := fun x hx hn hL => (one1 x (by omega) hn).trans (hfr x hx hL)
  have nL : ∀ {g : Nat} {t : TypeId} {cs : List Value}, Blk W g t cs → 3 ≠ t → ∀ o, e.L ≠ some ⟨g, o, none⟩ := fun hb hne o hL => by
    obtain ⟨cs', hb'⟩ := ho.blk hL
    exact hb'.ne_ hb hne rfl
  have nC : ∀ {c : Nat} {cap : Nat} {buf : Array Value} {a b : Bool} {s r : Nat}, W.heap[c]? = some (.chan cap buf a s r b) → ∀ o, e.L ≠ some ⟨c, o, none⟩ := fun hch o hL => by
    obtain ⟨cs', hb'⟩ := ho.blk hL
    exact blk_chan hb' hch rfl
  have hw1 : Blk W1 pw 29 _ := (hfr _ h.w.lt (nL h.w (by decide))).trans h.w
  refine h.put (e' := { e with l := e.l ++ [x], L := D, kc := c }) he rfl rfl ((one _ h.b.lt (h.b.ne_ h.w (by decide)) (nL h.b (by decide))).trans h.b) ?_ (box_keep hbx (one _ hbx.plt n1 (nL hbx.1 (by decide))) (one _ hbx.clt n2 (by obtain ⟨_, ⟨s, r, hch⟩, _⟩ := hbx; exact nC hch))) ?_ (fun i f' hne hf => ?_) (fun i f' hne hf g o o' hg => ?_) (hbel.setCell h.lo.2 _)
  · rw [← cells_set (e' := { e with l := e.l ++ [x], L := D, kc := c }) (v := .slice D (e.l.length + 1) c) he (by decide : (0 : Nat) < 3) (by simp [Bo.cells])]; exact hw1.set_ _ _
  · show OwnO _ _ _ D (e.l ++ [x]).length c ((e.l ++ [x]).map I64)
    rw [List.length_append, List.map_append]
    refine ho1.keep fun g o hg => one1 g (ho1.lt hg) ?_
    obtain ⟨cs', hb'⟩ := ho1.blk hg
    exact hb'.ne_ hw1 (by decide)
  · obtain ⟨m1, m2, _, _, m5⟩ := h.far hf
    obtain ⟨hbf, hof, _⟩ := h.on i f' hf
    refine ⟨one _ hbf.plt m1 (nL hbf.1 (by decide)), one _ hbf.clt m2 (by obtain ⟨_, ⟨s, r, hch⟩, _⟩ := hbf; exact nC hch), fun g o hg => one g (hof.lt hg) (m5 g o hg).1 (fun o2 hL => (h.ap k i e f' (Ne.symm hne) he hf).2.2 g o2 o hL hg)⟩
  · show f'.L ≠ _
    rcases hD with rfl | ⟨g2, h2, h3⟩
    · exact (h.ap k i e f' (Ne.symm hne) he hf).2.2 g o o' hg
    · intro h4
      have h5 := (h.on i f' hf).2.1.lt h4
      have hg' : D = some ⟨g, o, none⟩ := hg
      rw [h2] at hg'
      injection hg' with e1
      injection e1 with e2
      omega
/-- a box was made, in its place -/
theorem Bos.grow {W2 : World} {p c room : Nat} (h : Bos w0 W pb pw es) (hl : es.length < 3) (hb : Below W.heap.size (W.setCell ⟨pw, es.length * 3 + 1, none⟩ (.int .i64 (room : Int))) W2) (hbox : BoxAt W2 73 p c room [] false) (hp : W.heap.size ≤ p) (hc : W.heap.size ≤ c) :
    Bos w0 (W2.setCell ⟨pb, es.length, none⟩ (.pointer (some ⟨p, 0, none⟩))) pb pw (es ++ [⟨p, c, room, [], false, none, 0, [], false⟩]) := by
  have hbw := h.b.ne_ h.w (by decide)
  have hw1 := (h.w.set_ (es.length * 3 + 1) (.int .i64 (room : Int))).below hb h.w.lt
  have one : ∀ x, x < W.heap.size → x ≠ pw → x ≠ pb → (W2.setCell ⟨pb, es.length, none⟩ (.pointer (some ⟨p, 0, none⟩))).heap[x]? = W.heap[x]? := fun x hx h1 h2 => by
    rw [Below.heap_setCell W2 _ _ x (by simpa using h2), hb.block x hx, Below.heap_setCell W _ _ x (by simpa using h1)]
  have hb1 : Blk W2 pb 25 _ := (h.b.far (p := ⟨pw, es.length * 3 + 1, none⟩) hbw (.int .i64 (room : Int))).below hb h.b.lt
  have hbx : BoxAt (W2.setCell ⟨pb, es.length, none⟩ (.pointer (some ⟨p, 0, none⟩))) 73 p c room [] false := by
    have hplt := h.b.lt
    exact hbox.fr ((Fr.refl [pb] W2).set (p := pb) (o := es.length) (by simp) _) (by simp; omega) (by simp; omega)
  have hn : es.length = 0 ∨ es.length = 1 ∨ es.length = 2 := by omega
  have hfl := flat_len (F := Bo.cells) (m := 3) (fun _ => rfl) es
  refine ⟨?_, ?_, by simp; omega, fun i f hi => ?_, fun i j f f' hne hi hj => ?_, h.lo, (((h.bel.setCell (p := ⟨pw, es.length * 3 + 1, none⟩) h.lo.2 _).trans (hb.mono h.bel.size))).setCell h.lo.1 _⟩
  · have h2 := hb1.set_ es.length (.pointer (some ⟨p, 0, none⟩))
    rw [List.set_append_right _ _ (by simp), List.length_map, Nat.sub_self] at h2
    rw [List.map_append, List.length_append]
    rcases hn with e | e | e <;> (rw [e] at h2 ⊢; simpa [List.replicate, Bo.ptr] using h2)
  · have h2 : Blk (W2.setCell ⟨pb, es.length, none⟩ (.pointer (some ⟨p, 0, none⟩))) pw 29 _ := hw1.far (p := ⟨pb, es.length, none⟩) (Ne.symm hbw) (.pointer (some ⟨p, 0, none⟩))
    rw [List.set_append_right _ _ (by rw [hfl]; omega), hfl, Nat.add_sub_cancel_left] at h2
    rw [List.flatMap_append, List.length_append]
    rcases hn with e | e | e <;> (rw [e] at h2 ⊢; simpa [List.replicate, zc, Bo.cells] using h2)
  · rw [List.getElem?_append] at hi
    split at hi
    · obtain ⟨k1, k2, k3, k4⟩ := h.on i f hi
      obtain ⟨n1, n2, n3, n4, n5⟩ := h.far hi
      exact ⟨box_keep k1 (one _ k1.plt n1 n3) (one _ k1.clt n2 n4), k2.keep fun g o hg => one g (k2.lt hg) (n5 g o hg).1 (n5 g o hg).2.1, k3, k4⟩
    · have hi0 : i - es.length = 0 := by
        have := (List.getElem?_eq_some_iff.1 hi).1; simp at this; omega
      rw [hi0] at hi
      obtain rfl : Bo.mk p c room [] false none 0 [] false = f := by simpa using hi
      have := h.bel.size
      exact ⟨hbx, OwnO.nil _ _ _, by show w0.heap.size ≤ p; omega, by show w0.heap.size ≤ c; omega⟩
  · have lastp : ∀ {i : Nat} {f : Bo}, (es ++ [Bo.mk p c room [] false none 0 [] false])[i]? = some f → (es[i]? = some f ∧ f.p < W.heap.size ∧ f.c < W.heap.size) ∨ (i = es.length ∧ f = Bo.mk p c room [] false none 0 [] false) := fun {i f} hi => by
      rw [List.getElem?_append] at hi
      split at hi
      · exact .inl ⟨hi, (h.on i f hi).1.plt, (h.on i f hi).1.clt⟩
      · have hi0 : i - es.length = 0 := by
          have := (List.getElem?_eq_some_iff.1 hi).1; simp at this; omega
        rw [hi0] at hi
        exact .inr ⟨by omega, by have : Bo.mk p c room [] false none 0 [] false = f := by simpa using hi
                                 exact this.symm⟩
    rcases lastp hi with ⟨a1, a2, a3⟩ | ⟨a1, a2⟩
    · rcases lastp hj with ⟨b1, b2, b3⟩ | ⟨b1, b2⟩
      · exact h.ap i j f f' hne a1 b1
      · subst b2
        exact ⟨by show f.p ≠ p; omega, by show f.c ≠ c; omega, fun g o o' _ h9 => by cases h9⟩
    · subst a2
      rcases lastp hj with ⟨b1, b2, b3⟩ | ⟨b1, b2⟩
      · exact ⟨by show p ≠ f'.p; omega, by show c ≠ f'.c; omega, fun g o o' h9 => by cases h9⟩
      · omega
theorem Bos.look {k : Nat} {e : Bo} (h : Bos w0 W pb pw es) (he : es[k]? = some e) : W.cell? ⟨pb, k, none⟩ = some (.pointer (some ⟨e.p, 0, none⟩)) ∧ W.cell? ⟨pw, k * 3, none⟩ = some (.slice e.L e.l.length e.kc) ∧ W.cell? ⟨pw, k * 3 + 1, none⟩ = some (.int .i64 (e.cap : Int)) ∧ W.cell? ⟨pw, k * 3 + 2, none⟩ = some (.bool e.cl) := by
  have hk := (List.getElem?_eq_some_iff.1 he).1
  refine ⟨?_, ?_, ?_, ?_⟩
  · rw [h.b.cell, List.getElem?_append_left (by simpa using hk), List.getElem?_map, he]; rfl
  · rw [h.w.cell]; exact cells_at (q := 0) he (by decide)
  · rw [h.w.cell]; exact cells_at (q := 1) he (by decide)
  · rw [h.w.cell]; exact cells_at (q := 2) he (by decide)
end

theorem chan_blk {w w' : World} {g p c cap : Nat} {t t' : TypeId} {cs buf : List Value} {cl : Bool} (h : Blk w g t cs) (hb : BoxAt w t' p c cap buf cl) (f : Fr [c] w w') : Blk w' g t cs := by
  obtain ⟨_, ⟨s, r, hc⟩, _⟩ := hb
  exact h.fr f (fun hm => blk_chan h hc (List.mem_singleton.1 hm))
/-- may one be sent? -/
def canM (e : Bo) : Bool := !e.bc && decide (e.buf.length < e.cap)
def SendEnd (w0 : World) (pb pw : Nat) (es : List Bo) (k : Nat) (e : Bo) (n : Int) (q : Nat) (cs : List Value) (ee : Ending) (w' : World) : Prop :=
  ee = .returned (.bool (canM e)) ∧ Bos w0 w' pb pw (es.set k { e with buf := if canM e then e.buf ++ [n] else e.buf }) ∧ Blk w' q 35 cs
theorem send_ok (w0 W : World) (pb pw : Nat) (es : List Bo) (k : Nat) (e : Bo) (n : Int) (q : Nat) (cs : List Value) (h : Bos w0 W pb pw es) (he : es[k]? = some e) (hq : Blk W q 35 cs) :
    Calls Try.prog 14 #[.pointer (some ⟨e.p, 0, none⟩), .int .i64 n] W (SendEnd w0 pb pw es k e n q cs) := by
  obtain ⟨hbx, _⟩ := h.on k e he
  unfold SendEnd
  have hself : ({ e with buf := if false = true then e.buf ++ [n] else e.buf } : Bo) = e := by simp
  by_cases hbc : e.bc = true
  · have hc : canM e = false := by unfold canM; rw [hbc]; rfl
    rw [hbc] at hbx
    refine (sendI_shut e.p e.c e.cap _ (.int .i64 n) W hbx).mono ?_
    rintro ee w' ⟨h1, rfl⟩
    rw [hc]
    refine ⟨h1, ?_, hq⟩
    rw [hself, set_same he]; exact h
  · have hbf : e.bc = false := by simpa using hbc
    have hbx0 := hbx
    rw [hbf] at hbx
    by_cases hf : e.buf.length < e.cap
    · have hc : canM e = true := by unfold canM; rw [hbf, decide_eq_true hf]; rfl
      refine (sendI_room e.p e.c e.cap _ (.int .i64 n) W hbx (by simpa using hf)).mono ?_
      rintro ee w' ⟨h1, h2, h3⟩
      rw [hc]
      refine ⟨h1, ?_, chan_blk hq hbx h3⟩
      exact h.chan (buf := e.buf ++ [n]) he (by rw [hbf, List.map_append]; exact h2) h3
    · have hc : canM e = false := by unfold canM; rw [hbf, decide_eq_false hf]; rfl
      refine (sendI_full e.p e.c e.cap _ (.int .i64 n) W hbx (by simp; omega)).mono ?_
      rintro ee w' ⟨h1, rfl⟩
      rw [hc]
      refine ⟨h1, ?_, hq⟩
      rw [hself, set_same he]; exact h
def RecvEnd (w0 : World) (pb pw : Nat) (es : List Bo) (k : Nat) (e : Bo) (ee : Ending) (w' : World) : Prop :=
  ee = .returned (.tuple #[.int .i64 (e.buf.headD 0), .bool (!e.buf.isEmpty)]) ∧ Bos w0 w' pb pw (es.set k { e with buf := e.buf.tail })
theorem recv_ok (w0 W : World) (pb pw : Nat) (es : List Bo) (k : Nat) (e : Bo) (h : Bos w0 W pb pw es) (he : es[k]? = some e) :
    Calls Try.prog 15 #[.pointer (some ⟨e.p, 0, none⟩)] W (RecvEnd w0 pb pw es k e) := by
  obtain ⟨hbx, _⟩ := h.on k e he
  unfold RecvEnd
  cases hb : e.buf with
  | nil =>
    rw [hb] at hbx
    refine (recvI_none e.p e.c e.cap e.bc W hbx).mono ?_
    rintro ee w' ⟨h1, rfl⟩
    refine ⟨h1, ?_⟩
    have : ({ e with buf := ([] : List Int).tail } : Bo) = e := by rw [List.tail_nil, ← hb]
    rw [this, set_same he]; exact h
  | cons x l =>
    rw [hb] at hbx
    refine (recvI_some e.p e.c e.cap (l.map I64) (I64 x) e.bc W hbx).mono ?_
    rintro ee w' ⟨h1, h2, h3⟩
    exact ⟨h1, h.chan (buf := l) he h2 h3⟩
def CloseEnd (w0 : World) (pb pw : Nat) (es : List Bo) (k : Nat) (e : Bo) (ee : Ending) (w' : World) : Prop :=
  ee = .returned (.tuple #[]) ∧ Bos w0 w' pb pw (es.set k { e with bc := true })
theorem close_ok (w0 W : World) (pb pw : Nat) (es : List Bo) (k : Nat) (e : Bo) (h : Bos w0 W pb pw es) (he : es[k]? = some e) :
    Calls Try.prog 16 #[.pointer (some ⟨e.p, 0, none⟩)] W (CloseEnd w0 pb pw es k e) :=
  (closeI_calls e.p e.c e.cap _ e.bc W (h.on k e he).1).mono fun _ _ ⟨h1, h2, h3⟩ => ⟨h1, h.shut he h2 h3⟩
theorem blen_ok (w0 W : World) (pb pw : Nat) (es : List Bo) (k : Nat) (e : Bo) (h : Bos w0 W pb pw es) (he : es[k]? = some e) :
    Calls Try.prog 18 #[.pointer (some ⟨e.p, 0, none⟩)] W fun ee w' => ee = .returned (.int .i64 (e.buf.length : Int)) ∧ W = w' :=
  (lenI_calls e.p e.c e.cap _ e.bc W (h.on k e he).1).mono fun _ _ ⟨h1, h2⟩ => ⟨by rw [h1, List.length_map], h2.symm⟩
theorem bclosed_ok (w0 W : World) (pb pw : Nat) (es : List Bo) (k : Nat) (e : Bo) (h : Bos w0 W pb pw es) (he : es[k]? = some e) :
    Calls Try.prog 19 #[.pointer (some ⟨e.p, 0, none⟩)] W fun ee w' => ee = .returned (.bool e.bc) ∧ W = w' :=
  (closedI_calls e.p e.c e.cap _ e.bc W (h.on k e he).1).mono fun _ _ ⟨h1, h2⟩ => ⟨h1, h2.symm⟩
theorem set_again {k : Nat} {es : List Bo} {e e1 e2 : Bo} (h : es[k]? = some e) : (es.set k e1).set k e2 = es.set k e2 ∧ (es.set k e1)[k]? = some e1 := ⟨by rw [List.set_set], set_self h e1⟩

theorem Bos.cut1 {w0 W : World} {pb pw : Nat} {es : List Bo} {k b o : Nat} {e : Bo} {x : Int} {l : List Int} (h : Bos w0 W pb pw es) (he : es[k]? = some e) (hl : e.l = x :: l) (hL : e.L = some ⟨b, o, none⟩) :
    (e.kc = 1 → l = [] ∧ Bos w0 (W.setCell ⟨pw, k * 3, none⟩ (.slice (some ⟨b, o, none⟩) 0 0)) pb pw (es.set k { e with l := l, L := some ⟨b, o, none⟩, kc := 0 })) ∧
    (e.kc ≠ 1 → Bos w0 (W.setCell ⟨pw, k * 3, none⟩ (.slice (some ⟨b, o + 1, none⟩) l.length (e.kc - 1))) pb pw (es.set k { e with l := l, L := some ⟨b, o + 1, none⟩, kc := e.kc - 1 })) := by
  have hc := h.cut he hl
  have hle := (h.on k e he).2.1.2.1
  rw [hl] at hle
  constructor
  · intro h1
    obtain rfl : l = [] := List.eq_nil_of_length_eq_zero (by simp at hle; omega)
    refine ⟨rfl, ?_⟩
    rw [if_pos h1, hL, h1] at hc
    exact hc
  · intro h1
    rw [if_neg h1, hL] at hc
    exact hc
theorem Bos.first {w0 W : World} {pb pw : Nat} {es : List Bo} {k : Nat} {e : Bo} {x : Int} {l : List Int} (h : Bos w0 W pb pw es) (he : es[k]? = some e) (hl : e.l = x :: l) : ∃ b o, e.L = some ⟨b, o, none⟩ ∧ W.cell? ⟨b, o, none⟩ = some (.int .i64 x) := by
  obtain ⟨b, o, h1, h2⟩ := (h.on k e he).2.1.sl 0 (I64 x) (by rw [hl]; rfl)
  exact ⟨b, o, h1, by rw [Nat.add_zero] at h2; exact h2⟩
theorem good_set {es : List Bo} {k : Nat} {e : Bo} (h : ∀ e ∈ es, e.buf = e.l ∧ e.bc = e.cl ∧ e.l.length ≤ e.cap ∧ e.cap ≤ 6) (he : e.buf = e.l ∧ e.bc = e.cl ∧ e.l.length ≤ e.cap ∧ e.cap ≤ 6) : ∀ f ∈ es.set k e, f.buf = f.l ∧ f.bc = f.cl ∧ f.l.length ≤ f.cap ∧ f.cap ≤ 6 := fun f hf => by
  rcases List.mem_or_eq_of_mem_set hf with h1 | h1
  · exact h f h1
  · rw [h1]; exact he
/-- which list is the first that has something -/
def FirstAt (es : List Bo) (i : Nat) (e : Bo) (x : Int) (l : List Int) : Prop := es[i]? = some e ∧ e.l = x :: l ∧ ∀ (j : Nat) (f : Bo), j < i → es[j]? = some f → f.l = []
theorem first_or (es : List Bo) : (∀ (j : Nat) (f : Bo), es[j]? = some f → f.l = []) ∨ ∃ i e x l, FirstAt es i e x l := by
  induction es with
  | nil => exact .inl fun j f h => by simp at h
  | cons g es ih =>
    cases hg : g.l with
    | cons x l => exact .inr ⟨0, g, x, l, rfl, hg, fun j f h => by omega⟩
    | nil =>
      rcases ih with ih | ⟨i, e, x, l, h1, h2, h3⟩
      · left
        intro j f h
        cases j with
        | zero => simp at h; subst h; exact hg
        | succ j => exact ih j f (by simpa using h)
      · right
        refine ⟨i + 1, e, x, l, by simpa using h1, h2, fun j f hj h => ?_⟩
        cases j with
        | zero => simp at h; subst h; exact hg
        | succ j => exact h3 j f (by omega) (by simpa using h)
def Bo.bx (e : Bo) : Bx := ⟨e.p, e.c, e.cap, e.buf.map I64, e.bc⟩
theorem bosFirst_none (w0 W : World) (pb pw : Nat) (a b c : Bo) (A : Option Addr) (cap : Nat) (h : Bos w0 W pb pw [a, b, c]) (hg : ∀ e ∈ [a, b, c], e.buf = e.l ∧ e.bc = e.cl ∧ e.l.length ≤ e.cap ∧ e.cap ≤ 6) (hn : ∀ (j : Nat) (f : Bo), [a, b, c][j]? = some f → f.l = []) (hs : Sl W A [a.ptr, .pointer none, b.ptr, c.ptr]) :
    Calls Try.prog 17 #[.slice A 4 cap] W fun e w' => e = .returned (.tuple #[.int .i64 (-1), .int .i64 0, .bool false]) ∧ W = w' := by
  have hon : ∀ b', some b' ∈ [some a.bx, none, some b.bx, some c.bx] → b'.On W ∧ b'.buf = [] := fun b' hb => by
    simp at hb
    rcases hb with rfl | rfl | rfl
    · exact ⟨(h.on 0 a rfl).1, by show a.buf.map I64 = []; rw [(hg a (by simp)).1, hn 0 a rfl]; rfl⟩
    · exact ⟨(h.on 1 b rfl).1, by show b.buf.map I64 = []; rw [(hg b (by simp)).1, hn 1 b rfl]; rfl⟩
    · exact ⟨(h.on 2 c rfl).1, by show c.buf.map I64 = []; rw [(hg c (by simp)).1, hn 2 c rfl]; rfl⟩
  exact (first_none A 4 cap [some a.bx, none, some b.bx, some c.bx] W rfl (by decide) hs (fun b' hb => (hon b' hb).1) (fun b' hb => (hon b' hb).2)).mono fun _ _ ⟨h1, h2⟩ => ⟨h1, h2.symm⟩
def placeM (i : Nat) : Nat := if i = 0 then 0 else i + 1
theorem bosFirst_at (w0 W : World) (pb pw : Nat) (a b c : Bo) (A : Option Addr) (cap i : Nat) (e : Bo) (x : Int) (l : List Int) (h : Bos w0 W pb pw [a, b, c]) (hg : ∀ e ∈ [a, b, c], e.buf = e.l ∧ e.bc = e.cl ∧ e.l.length ≤ e.cap ∧ e.cap ≤ 6) (hf : FirstAt [a, b, c] i e x l) (hs : Sl W A [a.ptr, .pointer none, b.ptr, c.ptr]) :
    Calls Try.prog 17 #[.slice A 4 cap] W fun ee w' => ee = .returned (.tuple #[.int .i64 (placeM i : Int), .int .i64 x, .bool true]) ∧ Bos w0 w' pb pw ([a, b, c].set i { e with buf := l }) := by
  obtain ⟨he, hl, hno⟩ := hf
  have hil : i < 3 := (List.getElem?_eq_some_iff.1 he).1
  have hge := hg e (List.mem_of_getElem? he)
  have hon : ∀ b', some b' ∈ [some a.bx, none, some b.bx, some c.bx] → b'.On W := fun b' hb => by
    simp at hb
    rcases hb with rfl | rfl | rfl
    · exact (h.on 0 a rfl).1
    · exact (h.on 1 b rfl).1
    · exact (h.on 2 c rfl).1
  have hem : ∀ (j : Nat) (f : Bo), j < i → [a, b, c][j]? = some f → f.bx.buf = [] := fun j f hj hf => by
    show f.buf.map I64 = []
    rw [(hg f (List.mem_of_getElem? hf)).1, hno j f hj hf]; rfl
  have hi3 : i = 0 ∨ i = 1 ∨ i = 2 := by omega
  refine (first_at A 4 cap [some a.bx, none, some b.bx, some c.bx] (placeM i) e.bx (I64 x) (l.map I64) W rfl (by decide) hs hon ?_ (by show e.buf.map I64 = _; rw [hge.1, hl]; rfl) (fun j b' hj hb => ?_)).mono ?_
  · rcases hi3 with rfl | rfl | rfl <;> (simp at he; subst he; rfl)
  · rcases hi3 with rfl | rfl | rfl
    · exact absurd hj (by simp [placeM])
    · have : j = 0 ∨ j = 1 := by simp [placeM] at hj; omega
      rcases this with rfl | rfl
      · simp at hb; subst hb; exact hem 0 a (by omega) rfl
      · simp at hb
    · have : j = 0 ∨ j = 1 ∨ j = 2 := by simp [placeM] at hj; omega
      rcases this with rfl | rfl | rfl
      · simp at hb; subst hb; exact hem 0 a (by omega) rfl
      · simp at hb
      · simp at hb; subst hb; exact hem 1 b (by omega) rfl
  · rintro ee w' ⟨h1, h2, h3⟩
    exact ⟨h1, h.chan (buf := l) he h2 h3⟩
end Go.Proofs.Ytepmnhlfjidhjab
