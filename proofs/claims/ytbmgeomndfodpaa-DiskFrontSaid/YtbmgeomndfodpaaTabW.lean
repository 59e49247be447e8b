/-
  Words for a table: a struct of two slices of its own. Nothing of the program stands in it.
-/
import Derived.Test.YtbmgeomndfodpaaApp2
import Derived.Test.YtbmgeomndfodpaaFr
namespace Go.Mem
open Go.RowKit

/-- block p holds two slices, each of its own -/
structure T0 (w : World) (B : Nat) (tt eK eV : TypeId) (p : Nat) (DK : Option Addr) (nK cK : Nat) (xK : List Value) (DV : Option Addr) (nV cV : Nat) (xV : List Value) : Prop where
  b : Blk w p tt [.slice DK nK cK, .slice DV nV cV]
  k : OwnB w B eK 1 DK nK cK xK
  v : OwnB w B eV 1 DV nV cV xV
  mxk : cK ≤ 9223372036854775807
  mxv : cV ≤ 9223372036854775807
  pB : B ≤ p
  ap : ∀ g, DK = some ⟨g, 0, none⟩ → DV ≠ some ⟨g, 0, none⟩
/-- but for the table's blocks, and what is new, nothing has turned -/
def Kp (w w' : World) (p : Nat) (DK DV : Option Addr) : Prop := ∀ g, g < w.heap.size → g ≠ p → DK ≠ some ⟨g, 0, none⟩ → DV ≠ some ⟨g, 0, none⟩ → w'.heap[g]? = w.heap[g]?
/-- the same address, or a new block -/
def Nw (w : World) (D D' : Option Addr) : Prop := D' = D ∨ ∃ g, D' = some ⟨g, 0, none⟩ ∧ w.heap.size ≤ g
section
variable {w w' w'' : World} {B : Nat} {tt eK eV e : TypeId} {p : Nat} {DK DV DK' DV' D D' D'' : Option Addr} {nK cK nV cV nK' cK' nV' cV' n c : Nat} {xK xV xK' xV' xs : List Value}
theorem Kp.refl (w : World) (p : Nat) (DK DV : Option Addr) : Kp w w p DK DV := fun _ _ _ _ _ => rfl
theorem Nw.refl (w : World) (D : Option Addr) : Nw w D D := .inl rfl
theorem Nw.trans (h : Nw w D D') (k : Nw w' D' D'') (hs : w.heap.size ≤ w'.heap.size) : Nw w D D'' := by
  rcases k with rfl | ⟨g, h1, h2⟩
  · exact h
  · exact .inr ⟨g, h1, by omega⟩
theorem Nw.ne (h : Nw w D D') {g : Nat} (hg : g < w.heap.size) (hd : D ≠ some ⟨g, 0, none⟩) : D' ≠ some ⟨g, 0, none⟩ := by
  rcases h with rfl | ⟨g', rfl, h2⟩
  · exact hd
  · intro e; injection e with e; injection e with e; omega
theorem Kp.trans (h : Kp w w' p DK DV) (k : Kp w' w'' p DK' DV') (hs : w.heap.size ≤ w'.heap.size) (nk : Nw w DK DK') (nv : Nw w DV DV') : Kp w w'' p DK DV := fun g hg hp hk hv =>
  (k g (by omega) hp (nk.ne hg hk) (nv.ne hg hv)).trans (h g hg hp hk hv)
theorem Kp.of_below (h : Below w.heap.size w w') : Kp w w' p DK DV := fun g hg _ _ _ => h.block g hg
theorem own_ne_blk (h : OwnB w B e 1 D n c xs) {t : TypeId} {cs : List Value} (hb : Blk w p t cs) (hne : e ≠ t) : D ≠ some ⟨p, 0, none⟩ := by
  rintro rfl
  rcases h.2.2 with ⟨h3, _⟩ | ⟨g, sp, hd, _, hb', _⟩
  · cases h3
  · obtain rfl : p = g := by injection hd with e; injection e
    exact hb'.ne_ hb hne rfl
theorem own_lt (h : OwnB w B e 1 D n c xs) {g : Nat} (hg : D = some ⟨g, 0, none⟩) : g < w.heap.size ∧ B ≤ g := by
  rcases h.2.2 with ⟨h3, _⟩ | ⟨g', sp, hd, hB, hb', _⟩
  · rw [h3] at hg; cases hg
  · rw [hd] at hg; injection hg with hg; injection hg with hg; subst hg; exact ⟨hb'.lt, hB⟩
theorem OwnB.far1 (h : OwnB w B e 1 D n c xs) {q o : Nat} (hne : D ≠ some ⟨q, 0, none⟩) (u : Value) : OwnB (w.setCell ⟨q, o, none⟩ u) B e 1 D n c xs := by
  obtain ⟨h1, h2, h3⟩ := h
  refine ⟨h1, h2, ?_⟩
  rcases h3 with h3 | ⟨g, sp, hd, hg, hb, hc⟩
  · exact .inl h3
  · exact .inr ⟨g, sp, hd, hg, hb.far (p := ⟨q, o, none⟩) (fun e => hne (by rw [hd, e])) u, hc⟩
theorem T0.keep (h : T0 w B tt eK eV p DK nK cK xK DV nV cV xV) (hp : w'.heap[p]? = w.heap[p]?) (hk : ∀ g, DK = some ⟨g, 0, none⟩ → w'.heap[g]? = w.heap[g]?) (hv : ∀ g, DV = some ⟨g, 0, none⟩ → w'.heap[g]? = w.heap[g]?) : T0 w' B tt eK eV p DK nK cK xK DV nV cV xV := by
  have own : ∀ {e D n c xs}, OwnB w B e 1 D n c xs → (∀ g, D = some ⟨g, 0, none⟩ → w'.heap[g]? = w.heap[g]?) → OwnB w' B e 1 D n c xs := by
    intro e D n c xs h hk
    obtain ⟨h1, h2, h3⟩ := h
    refine ⟨h1, h2, ?_⟩
    rcases h3 with h3 | ⟨g, sp, hd, hg, hb, hc⟩
    · exact .inl h3
    · exact .inr ⟨g, sp, hd, hg, (hk g hd).trans hb, hc⟩
  exact ⟨hp.trans h.b, own h.k hk, own h.v hv, h.mxk, h.mxv, h.pB, h.ap⟩
theorem T0.below (h : T0 w B tt eK eV p DK nK cK xK DV nV cV xV) (hb : Below w.heap.size w w') : T0 w' B tt eK eV p DK nK cK xK DV nV cV xV :=
  h.keep (hb.block _ h.b.lt) (fun _ hg => hb.block _ (own_lt h.k hg).1) (fun _ hg => hb.block _ (own_lt h.v hg).1)
theorem T0.drewN (h : T0 w B tt eK eV p DK nK cK xK DV nV cV xV) (q : Nat) : T0 (w.drewN q) B tt eK eV p DK nK cK xK DV nV cV xV := h.keep rfl (fun _ _ => rfl) (fun _ _ => rfl)
theorem T0.mono {B' : Nat} (h : T0 w B tt eK eV p DK nK cK xK DV nV cV xV) (hB : B' ≤ B) : T0 w B' tt eK eV p DK nK cK xK DV nV cV xV := ⟨h.b, h.k.mono hB, h.v.mono hB, h.mxk, h.mxv, Nat.le_trans hB h.pB, h.ap⟩
/-- another thing's doing -/
theorem T0.kp {q : Nat} {EK EV : Option Addr} (h : T0 w B tt eK eV p DK nK cK xK DV nV cV xV) (k : Kp w w' q EK EV) (h1 : p ≠ q) (h2 : EK ≠ some ⟨p, 0, none⟩) (h3 : EV ≠ some ⟨p, 0, none⟩)
    (hk : ∀ g, DK = some ⟨g, 0, none⟩ → g ≠ q ∧ EK ≠ some ⟨g, 0, none⟩ ∧ EV ≠ some ⟨g, 0, none⟩) (hv : ∀ g, DV = some ⟨g, 0, none⟩ → g ≠ q ∧ EK ≠ some ⟨g, 0, none⟩ ∧ EV ≠ some ⟨g, 0, none⟩) : T0 w' B tt eK eV p DK nK cK xK DV nV cV xV :=
  h.keep (k _ h.b.lt h1 h2 h3) (fun g hg => k _ (own_lt h.k hg).1 (hk g hg).1 (hk g hg).2.1 (hk g hg).2.2) (fun g hg => k _ (own_lt h.v hg).1 (hv g hg).1 (hv g hg).2.1 (hv g hg).2.2)
/-- new keys -/
theorem T0.setK (h : T0 w B tt eK eV p DK nK cK xK DV nV cV xV) (htK : eK ≠ tt) (htV : eV ≠ tt) (k : Kept w w' DK DK') (ho : OwnB w' B eK 1 DK' nK' cK' xK') (hm : cK' ≤ 9223372036854775807) :
    T0 (w'.setCell ⟨p, 0, none⟩ (.slice DK' nK' cK')) B tt eK eV p DK' nK' cK' xK' DV nV cV xV ∧ Kp w (w'.setCell ⟨p, 0, none⟩ (.slice DK' nK' cK')) p DK DV ∧ Nw w DK DK' := by
  have hb' := k.blk h.b (own_ne_blk h.k h.b htK)
  have hv' := k.own h.v h.ap
  have hap := k.apart h.v h.ap
  refine ⟨⟨?_, ho.far1 (own_ne_blk ho hb' htK) _, hv'.far1 (own_ne_blk hv' hb' htV) _, hm, h.mxv, h.pB, hap⟩, fun g hg hp hk _ => ?_, ?_⟩
  · exact hb'.set_ 0 (.slice DK' nK' cK')
  · exact (Below.heap_setCell w' ⟨p, 0, none⟩ _ g hp).trans (k.1 g hg hk)
  · rcases k.2 with h1 | h1
    · exact .inl h1
    · exact .inr ⟨_, h1, Nat.le_refl _⟩
/-- new values -/
theorem T0.setV (h : T0 w B tt eK eV p DK nK cK xK DV nV cV xV) (htK : eK ≠ tt) (htV : eV ≠ tt) (k : Kept w w' DV DV') (ho : OwnB w' B eV 1 DV' nV' cV' xV') (hm : cV' ≤ 9223372036854775807) :
    T0 (w'.setCell ⟨p, 1, none⟩ (.slice DV' nV' cV')) B tt eK eV p DK nK cK xK DV' nV' cV' xV' ∧ Kp w (w'.setCell ⟨p, 1, none⟩ (.slice DV' nV' cV')) p DK DV ∧ Nw w DV DV' := by
  have hb' := k.blk h.b (own_ne_blk h.v h.b htV)
  have hapr : ∀ g, DV = some ⟨g, 0, none⟩ → DK ≠ some ⟨g, 0, none⟩ := fun g h1 h2 => h.ap g h2 h1
  have hk' := k.own h.k hapr
  have hap := k.apart h.k hapr
  refine ⟨⟨?_, hk'.far1 (own_ne_blk hk' hb' htK) _, ho.far1 (own_ne_blk ho hb' htV) _, h.mxk, hm, h.pB, fun g h1 h2 => hap g h2 h1⟩, fun g hg hp _ hv => ?_, ?_⟩
  · exact hb'.set_ 1 (.slice DV' nV' cV')
  · exact (Below.heap_setCell w' ⟨p, 1, none⟩ _ g hp).trans (k.1 g hg hv)
  · rcases k.2 with h1 | h1
    · exact .inl h1
    · exact .inr ⟨_, h1, Nat.le_refl _⟩
/-- one value turned -/
theorem T0.putV (h : T0 w B tt eK eV p DK nK cK xK DV nV cV xV) (htV : eV ≠ tt) {g i : Nat} (hg : DV = some ⟨g, 0, none⟩) (hi : i < nV) (u : Value) :
    T0 (w.setCell ⟨g, i, none⟩ u) B tt eK eV p DK nK cK xK DV nV cV (xV.set i u) ∧ Kp w (w.setCell ⟨g, i, none⟩ u) p DK DV := by
  have hpg : p ≠ g := fun e => own_ne_blk h.v h.b htV (by rw [hg, e])
  refine ⟨⟨h.b.far (p := ⟨g, i, none⟩) hpg u, h.k.far1 (fun e => h.ap g e hg) u, ?_, h.mxk, h.mxv, h.pB, h.ap⟩, fun q hq _ _ hv => Below.heap_setCell w ⟨g, i, none⟩ u q (fun e => hv (by rw [hg]; simp only at e; rw [e]))⟩
  obtain ⟨h1, h2, h3⟩ := h.v
  have hl : xV.length = nV := by omega
  refine ⟨by rw [List.length_set]; exact h1, h2, ?_⟩
  rcases h3 with ⟨h4, _⟩ | ⟨g', sp, hd, hgB, hb, hc⟩
  · rw [h4] at hg; cases hg
  · rw [hd] at hg; injection hg with hg; injection hg with hg; subst hg
    refine .inr ⟨g', sp, hd, hgB, ?_, hc⟩
    have := hb.set_ i u
    rw [List.set_append_left _ _ (by omega)] at this
    exact this
end
end Go.Mem
