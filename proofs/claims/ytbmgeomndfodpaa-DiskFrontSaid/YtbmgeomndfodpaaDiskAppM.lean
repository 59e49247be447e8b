/-
  Append's raw writes: the pieces of its bytes.
-/
import Derived.Test.YtbmgeomndfodpaaDiskOps
namespace Go.Proofs.Ytbmgeomndfodpaa
open Go.RowKit Go.Mem Go.Proofs

def pcs : Nat → List UInt8 → List (List UInt8)
  | 0, _ => []
  | n + 1, p => if p.length = 0 then [] else p.take 32 :: pcs n (p.drop 32)
theorem pcs_more : ∀ (n m : Nat) (p : List UInt8), p.length ≤ n → p.length ≤ m → pcs n p = pcs m p := by
  intro n
  induction n with
  | zero =>
    intro m p hn hm
    have : p.length = 0 := by omega
    cases m with
    | zero => rfl
    | succ m => unfold pcs; rw [if_pos this]
  | succ n ih =>
    intro m p hn hm
    cases m with
    | zero =>
      have : p.length = 0 := by omega
      unfold pcs; rw [if_pos this]
    | succ m =>
      unfold pcs
      by_cases h : p.length = 0
      · rw [if_pos h, if_pos h]
      · rw [if_neg h, if_neg h, ih m (p.drop 32) (by rw [List.length_drop]; omega) (by rw [List.length_drop]; omega)]
/-- the pieces of Chunk bytes -/
def pieces (p : List UInt8) : List (List UInt8) := pcs p.length p
theorem pieces_nil : pieces [] = [] := rfl
theorem pieces_cons (p : List UInt8) (h : 1 ≤ p.length) : pieces p = p.take 32 :: pieces (p.drop 32) := by
  unfold pieces
  obtain ⟨n, hn⟩ : ∃ n, p.length = n + 1 := ⟨p.length - 1, by omega⟩
  have hne : ¬ (p.length = 0) := by omega
  have hs : pcs p.length p = p.take 32 :: pcs n (p.drop 32) := by
    rw [hn]
    show (if p.length = 0 then [] else p.take 32 :: pcs n (p.drop 32)) = _
    rw [if_neg hne]
  rw [hs, pcs_more n (p.drop 32).length (p.drop 32) (by rw [List.length_drop]; omega) (Nat.le_refl _)]
theorem pcs_len : ∀ (n : Nat) (p : List UInt8), (pcs n p).length ≤ p.length := by
  intro n
  induction n with
  | zero => intro p; simp [pcs]
  | succ n ih =>
    intro p
    unfold pcs
    by_cases h : p.length = 0
    · rw [if_pos h]; simp
    · rw [if_neg h, List.length_cons]
      have := ih (p.drop 32)
      rw [List.length_drop] at this; omega
theorem pieces_len (p : List UInt8) : (pieces p).length ≤ p.length := pcs_len _ _
def creX (k : ByteArray) : MW := ⟨0, k, ⟨#[]⟩, 0, []⟩
def groX (k : ByteArray) (c : List UInt8) : MW := ⟨1, k, ⟨#[]⟩, 0, c⟩
theorem creX_ok (k : ByteArray) (F : FS) : (creX k).ok F := ⟨by show 0 ≤ 4; decide, fun e => absurd e (by show ¬ ((0 : Nat) = 1); decide), fun e => absurd e (by show ¬ ((0 : Nat) = 3); decide)⟩
theorem groX_ok (k : ByteArray) (c : List UInt8) (F : FS) (h1 : 1 ≤ c.length) (h2 : (bytesF k F).length + c.length ≤ 100000000) : (groX k c).ok F := ⟨by show 1 ≤ 4; decide, fun _ => ⟨h1, h2⟩, fun e => absurd e (by show ¬ ((1 : Nat) = 3); decide)⟩
theorem creX_app (k : ByteArray) (F : FS) : (creX k).app F = setF k [] F := rfl
theorem groX_app (k : ByteArray) (c : List UInt8) (F : FS) : (groX k c).app F = setF k (bytesF k F ++ c) F := rfl
theorem getF_setF {k : ByteArray} {v : List UInt8} {l : FS} (k' : ByteArray) (hr : Tab.Rising ltS (l.map Prod.fst)) : getF k' (setF k v l) = if k' = k then some v else getF k' l := by
  induction l with
  | nil =>
    unfold setF getF
    by_cases h : k' = k
    · rw [if_pos h, if_pos h.symm]
    · rw [if_neg h, if_neg (fun e => h e.symm)]; rfl
  | cons x l ih =>
    obtain ⟨h1, h2⟩ := Rising.tail hr
    unfold setF
    by_cases hl : ltS x.1 k = true
    · rw [if_pos hl]
      show (if x.1 = k' then some x.2 else getF k' (setF k v l)) = if k' = k then some v else (if x.1 = k' then some x.2 else getF k' l)
      rw [ih h1]
      by_cases h3 : x.1 = k'
      · have : k' ≠ k := fun e => by rw [h3, e, ordS.irr] at hl; cases hl
        rw [if_pos h3, if_neg this, if_pos h3]
      · rw [if_neg h3, if_neg h3]
    · rw [if_neg hl]
      by_cases he : x.1 = k
      · rw [if_pos he]
        show (if k = k' then some v else getF k' l) = if k' = k then some v else (if x.1 = k' then some x.2 else getF k' l)
        by_cases h3 : k' = k
        · rw [if_pos h3, if_pos h3.symm]
        · rw [if_neg h3, if_neg (fun e => h3 e.symm), if_neg (by rw [he]; exact fun e => h3 e.symm)]
      · rw [if_neg he]
        show (if k = k' then some v else (if x.1 = k' then some x.2 else getF k' l)) = if k' = k then some v else (if x.1 = k' then some x.2 else getF k' l)
        by_cases h3 : k' = k
        · rw [if_pos h3, if_pos h3.symm]
        · rw [if_neg h3, if_neg (fun e => h3 e.symm)]
def dappNo (k : ByteArray) (p : List UInt8) (F : FS) : Int := if rightD k = true then (if 16777216 - totF F < p.length then 9 else 0) else 14
def appC (k : ByteArray) (F : FS) : List MW := if (getF k F).isSome = true then [] else [creX k]
def dappW (k : ByteArray) (p : List UInt8) (F : FS) : List MW := if dappNo k p F = 0 then appC k F ++ (pieces p).map (groX k) else []
/-- on the way of Append: r is to be written yet -/
structure Way (K N : Nat) (M : FS) (k : ByteArray) (Wt Wc : List MW) (T : Nat) (r : List UInt8) : Prop where
  e : Wc ++ (pieces r).map (groX k) = Wt
  g : GD K N M Wc
  s : (getF k (replay M Wc)).isSome = true
  t : totF (replay M Wc) + r.length = T
theorem Way.step {K N : Nat} {M : FS} {k : ByteArray} {Wt Wc : List MW} {T : Nat} {r : List UInt8} (h : Way K N M k Wt Wc T r) (hr : 1 ≤ r.length) (hT : T ≤ 16777216) : (groX k (r.take 32)).ok (replay M Wc) ∧ Way K (N + 1) M k Wt (Wc ++ [groX k (r.take 32)]) T (r.drop 32) := by
  have hrise := replay_rise h.g.r Wc
  have hb := bytesF_le k (replay M Wc)
  have ht := h.t
  have htl : (r.take 32).length ≤ r.length := by rw [List.length_take]; omega
  have ht1 : 1 ≤ (r.take 32).length := by rw [List.length_take]; omega
  have hok := groX_ok k (r.take 32) (replay M Wc) ht1 (by omega)
  have hset := totF_set k (bytesF k (replay M Wc) ++ r.take 32) (replay M Wc) hrise
  have hbl : ((getF k (replay M Wc)).getD []).length = (bytesF k (replay M Wc)).length := rfl
  rw [hbl, List.length_append] at hset
  obtain ⟨v, hv⟩ := Option.isSome_iff_exists.1 h.s
  have hlen := setF_len_mem (v' := bytesF k (replay M Wc) ++ r.take 32) hrise hv
  have hsum : (r.take 32).length + (r.drop 32).length = r.length := by rw [← List.length_append, List.take_append_drop]
  refine ⟨hok, ?_, h.g.push hok (by rw [groX_app]; omega) (by rw [groX_app, hlen]; exact h.g.now.2), ?_, ?_⟩
  · rw [← h.e, pieces_cons r hr]; simp
  · rw [replay_app, groX_app, getF_setF k hrise, if_pos rfl]; rfl
  · rw [replay_app, groX_app]; omega
end Go.Proofs.Ytbmgeomndfodpaa
