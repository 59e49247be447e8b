/-
  DiskFront's model: two files that are only appended to, and what a Back leaves of them.
-/
import Derived.Test.YtbmgeomndfodpaaDiskPre
namespace Go.Proofs.Ytbmgeomndfodpaa
open Go.RowKit Go.Mem Go.Proofs

def frF : ByteArray := ⟨#[102]⟩
def frG : ByteArray := ⟨#[103]⟩
def nmF (f : Nat) : ByteArray := if f = 0 then frF else frG
theorem nmF_ne {f f' : Nat} (h : f < 2) (h' : f' < 2) (hne : f' ≠ f) : nmF f' ≠ nmF f := by
  have h0 : frF ≠ frG := by decide
  have h1 : (f = 0 ∧ f' = 1) ∨ (f = 1 ∧ f' = 0) := by omega
  rcases h1 with ⟨rfl, rfl⟩ | ⟨rfl, rfl⟩
  · exact fun e => h0 e.symm
  · exact h0
theorem nmF_right (f : Nat) : rightD (nmF f) = true := by
  unfold nmF
  split <;> kernel_rfl
def upd {α : Type} (a : Nat → α) (f : Nat) (v : α) (g : Nat) : α := if g = f then v else a g
theorem upd_same {α : Type} (a : Nat → α) (f : Nat) (v : α) : upd a f v f = v := if_pos rfl
theorem upd_ne {α : Type} (a : Nat → α) {f g : Nat} (v : α) (h : g ≠ f) : upd a f v g = a g := if_neg h
structure Frt (k : Nat) (W : List MW) (a : Nat → List UInt8) (wv : Nat → Nat) : Prop where
  e : ∀ f, f < 2 → bytesF (nmF f) (replay [] W) = a f
  p : ∀ f, f < 2 → wv f ≤ (a f).length ∧ bytesF (nmF f) (replay [] (W.take k)) = (a f).take (wv f)
section
variable {k : Nat} {W : List MW} {a : Nat → List UInt8} {wv : Nat → Nat}
theorem take_snoc_in (W : List MW) (x : MW) (h : W.length + 1 ≤ k) : (W ++ [x]).take k = W ++ [x] ∧ W.take k = W := ⟨List.take_of_length_le (by simp; omega), List.take_of_length_le (by omega)⟩
theorem take_snoc_out (W : List MW) (x : MW) (h : ¬ W.length + 1 ≤ k) : (W ++ [x]).take k = W.take k := List.take_append_of_le_length (by omega)
theorem rise0 (W : List MW) : Tab.Rising ltS ((replay [] W).map Prod.fst) := replay_rise (M := []) List.Pairwise.nil W
theorem Frt.gro (h : Frt k W a wv) {f : Nat} (hf : f < 2) (c : List UInt8) : Frt k (W ++ [groX (nmF f) c]) (upd a f (a f ++ c)) (if W.length + 1 ≤ k then upd wv f ((a f).length + c.length) else wv) := by
  have he : ∀ f', f' < 2 → bytesF (nmF f') (replay [] (W ++ [groX (nmF f) c])) = upd a f (a f ++ c) f' := fun f' hf' => by
    rw [replay_app, groX_app, bytesF_setF _ _ _ (rise0 W)]
    by_cases h1 : f' = f
    · subst h1; rw [if_pos rfl, upd_same, h.e f' hf']
    · rw [if_neg (nmF_ne hf hf' h1), upd_ne _ _ h1, h.e f' hf']
  refine ⟨he, fun f' hf' => ?_⟩
  by_cases hk : W.length + 1 ≤ k
  · obtain ⟨e1, e2⟩ := take_snoc_in (k := k) W (groX (nmF f) c) hk
    rw [if_pos hk, e1, he f' hf']
    by_cases h1 : f' = f
    · subst h1
      rw [upd_same, upd_same]
      exact ⟨by simp, by rw [List.take_of_length_le (by simp)]⟩
    · rw [upd_ne _ _ h1, upd_ne _ _ h1]
      have := h.p f' hf'
      rw [e2, h.e f' hf'] at this
      exact this
  · rw [if_neg hk, take_snoc_out _ _ hk]
    have := h.p f' hf'
    by_cases h1 : f' = f
    · subst h1
      rw [upd_same]
      exact ⟨by simp; omega, by rw [this.2, List.take_append_of_le_length this.1]⟩
    · rw [upd_ne _ _ h1]; exact this
theorem Frt.cre (h : Frt k W a wv) {f : Nat} (hf : f < 2) (hn : getF (nmF f) (replay [] W) = none) : Frt k (W ++ [creX (nmF f)]) a wv := by
  have ha : a f = [] := by rw [← h.e f hf]; unfold bytesF; rw [hn]; rfl
  have he : ∀ f', f' < 2 → bytesF (nmF f') (replay [] (W ++ [creX (nmF f)])) = a f' := fun f' hf' => by
    rw [replay_app, creX_app, bytesF_setF _ _ _ (rise0 W)]
    by_cases h1 : f' = f
    · subst h1; rw [if_pos rfl, ha]
    · rw [if_neg (nmF_ne hf hf' h1), h.e f' hf']
  refine ⟨he, fun f' hf' => ?_⟩
  by_cases hk : W.length + 1 ≤ k
  · obtain ⟨e1, e2⟩ := take_snoc_in (k := k) W (creX (nmF f)) hk
    have := h.p f' hf'
    rw [e2, h.e f' hf'] at this
    rw [e1, he f' hf']; exact this
  · rw [take_snoc_out _ _ hk]; exact h.p f' hf'
theorem Frt.nil (k : Nat) : Frt k [] (fun _ => []) (fun _ => 0) := ⟨fun _ _ => rfl, fun f _ => ⟨Nat.le_refl _, by rw [List.take_nil]; rfl⟩⟩
end
/-- on the way through the pieces: r is to come yet -/
structure FrW (k : Nat) (f : Nat) (Wt Wc : List MW) (a : Nat → List UInt8) (p r : List UInt8) (wv : Nat → Nat) : Prop where
  e : Wc ++ (pieces r).map (groX (nmF f)) = Wt
  t : Frt k Wc (upd a f (a f ++ p.take (p.length - r.length))) wv
  r : r = p.drop (p.length - r.length)
theorem FrW.step {k f : Nat} {Wt Wc : List MW} {a : Nat → List UInt8} {p r : List UInt8} {wv : Nat → Nat} (h : FrW k f Wt Wc a p r wv) (hf : f < 2) (hr : 1 ≤ r.length) (hrp : r.length ≤ p.length) :
    FrW k f Wt (Wc ++ [groX (nmF f) (r.take 32)]) a p (r.drop 32) (if Wc.length + 1 ≤ k then upd wv f ((a f).length + min (p.length - r.length + 32) p.length) else wv) := by
  have h1 := h.t.gro hf (r.take 32)
  have hl := h.r
  have hdl : (r.drop 32).length = r.length - 32 := List.length_drop
  have htl : (r.take 32).length = min 32 r.length := List.length_take
  have hpt : p.take (p.length - (r.drop 32).length) = p.take (p.length - r.length) ++ r.take 32 := by
    obtain ⟨m, hm⟩ : ∃ m, m = p.length - r.length := ⟨_, rfl⟩
    rw [← hm] at hl ⊢
    have e1 : p.length - (r.drop 32).length = m + min 32 r.length := by rw [hdl]; omega
    rw [e1, List.take_add, ← hl]
    congr 1
    rw [List.take_eq_take_iff]; omega
  refine ⟨?_, ?_, ?_⟩
  · rw [← h.e, pieces_cons r hr]; simp
  · have e2 : upd (upd a f (a f ++ p.take (p.length - r.length))) f (upd a f (a f ++ p.take (p.length - r.length)) f ++ r.take 32) = upd a f (a f ++ p.take (p.length - (r.drop 32).length)) := by
      funext g
      by_cases hg : g = f
      · subst hg; rw [upd_same, upd_same, upd_same, hpt, List.append_assoc]
      · rw [upd_ne _ _ hg, upd_ne _ _ hg, upd_ne _ _ hg]
    have e3 : (upd a f (a f ++ p.take (p.length - r.length)) f).length + (r.take 32).length = (a f).length + min (p.length - r.length + 32) p.length := by
      rw [upd_same, List.length_append, List.length_take, htl]; omega
    rw [e2, e3] at h1
    exact h1
  · rw [hdl]
    have e4 : r.drop 32 = p.drop (p.length - r.length + 32) := by
      have := congrArg (List.drop 32) hl
      rw [List.drop_drop] at this
      exact this
    rw [e4]
    by_cases h32 : 32 ≤ r.length
    · congr 1; omega
    · rw [List.drop_eq_nil_of_le (by omega), List.drop_eq_nil_of_le (by omega)]
end Go.Proofs.Ytbmgeomndfodpaa
