/-
  What Append's raw writes make of the files, all of them or the first ones.
-/
import Derived.Test.YtbmgeomndfodpaaDiskE
namespace Go.Proofs.Ytbmgeomndfodpaa
open Go.RowKit Go.Mem Go.Proofs

theorem setF_set {k : ByteArray} {v v' : List UInt8} {l : FS} (hr : Tab.Rising ltS (l.map Prod.fst)) : setF k v' (setF k v l) = setF k v' l := by
  induction l with
  | nil => simp [setF, ordS.irr]
  | cons x l ih =>
    obtain ⟨h1, h2⟩ := Rising.tail hr
    by_cases hl : ltS x.1 k = true
    · have e1 : setF k v (x :: l) = x :: setF k v l := by show (if _ then _ else _) = _; rw [if_pos hl]
      have e2 : setF k v' (x :: l) = x :: setF k v' l := by show (if _ then _ else _) = _; rw [if_pos hl]
      rw [e1, e2]
      show (if _ then _ else _) = _
      rw [if_pos hl, ih h1]
    · by_cases he : x.1 = k
      · have e1 : setF k v (x :: l) = (k, v) :: l := by show (if _ then _ else _) = _; rw [if_neg hl, if_pos he]
        have e2 : setF k v' (x :: l) = (k, v') :: l := by show (if _ then _ else _) = _; rw [if_neg hl, if_pos he]
        rw [e1, e2]
        show (if ltS k k = true then _ else if k = k then _ else _) = _
        rw [if_neg (by rw [ordS.irr]; decide), if_pos rfl]
      · have e1 : setF k v (x :: l) = (k, v) :: x :: l := by show (if _ then _ else _) = _; rw [if_neg hl, if_neg he]
        have e2 : setF k v' (x :: l) = (k, v') :: x :: l := by show (if _ then _ else _) = _; rw [if_neg hl, if_neg he]
        rw [e1, e2]
        show (if ltS k k = true then _ else if k = k then _ else _) = _
        rw [if_neg (by rw [ordS.irr]; decide), if_pos rfl]
theorem setF_same {k : ByteArray} {v : List UInt8} {l : FS} (hr : Tab.Rising ltS (l.map Prod.fst)) (h : getF k l = some v) : setF k v l = l := by
  induction l with
  | nil => simp [getF] at h
  | cons x l ih =>
    obtain ⟨h1, h2⟩ := Rising.tail hr
    unfold getF at h
    unfold setF
    by_cases he : x.1 = k
    · rw [if_pos he] at h; injection h with h
      rw [if_neg (by rw [he, ordS.irr]; decide), if_pos he, ← he, ← h]
    · rw [if_neg he] at h
      have hlt : ltS x.1 k = true := (List.pairwise_cons.1 hr).1 k (List.mem_map.2 ⟨_, getF_mem h, rfl⟩)
      rw [if_pos hlt, ih h1 h]
theorem bytesF_setF (k k' : ByteArray) (v : List UInt8) {l : FS} (hr : Tab.Rising ltS (l.map Prod.fst)) : bytesF k' (setF k v l) = if k' = k then v else bytesF k' l := by
  unfold bytesF
  rw [getF_setF k' hr]
  split <;> rfl
/-- the first j pieces -/
theorem replay_pieces {k : ByteArray} {F : FS} (hr : Tab.Rising ltS (F.map Prod.fst)) (p : List UInt8) (j : Nat) (hj : 1 ≤ j) (hp : 1 ≤ p.length) : replay F (((pieces p).map (groX k)).take j) = setF k (bytesF k F ++ p.take (32 * j)) F := by
  induction j generalizing F p with
  | zero => omega
  | succ j ih =>
    rw [pieces_cons p hp, List.map_cons, List.take_succ_cons]
    have h1 : replay F (groX k (p.take 32) :: List.take j (List.map (groX k) (pieces (p.drop 32)))) = replay (setF k (bytesF k F ++ p.take 32) F) (((pieces (p.drop 32)).map (groX k)).take j) := rfl
    rw [h1]
    by_cases h2 : 1 ≤ j ∧ 1 ≤ (p.drop 32).length
    · rw [ih (rise_set hr) _ h2.1 h2.2, setF_set hr, bytesF_setF k k _ hr, if_pos rfl, List.append_assoc]
      congr 2
      have : 32 * (j + 1) = 32 + 32 * j := by omega
      rw [this, List.take_add]
    · have h3 : ((pieces (p.drop 32)).map (groX k)).take j = [] := by
        by_cases h4 : j = 0
        · subst h4; rfl
        · have : p.drop 32 = [] := List.eq_nil_of_length_eq_zero (by omega)
          rw [this, pieces_nil]; simp
      rw [h3]
      have h4 : p.take (32 * (j + 1)) = p.take 32 := by
        by_cases h5 : j = 0
        · subst h5; rfl
        · have : (p.drop 32).length = 0 := by omega
          rw [List.length_drop] at this
          rw [List.take_of_length_le (by omega), List.take_of_length_le (by omega)]
      rw [h4]; rfl
/-- all of Append's writes -/
theorem replay_append {M : FS} {W : List MW} (hr : Tab.Rising ltS ((replay M W).map Prod.fst)) {k : ByteArray} {p : List UInt8} (h : dappNo k p (replay M W) = 0) : replay M (W ++ dappW k p (replay M W)) = setF k (bytesF k (replay M W) ++ p) (replay M W) := by
  have hrep : ∀ (M : FS) (A B : List MW), replay M (A ++ B) = replay (replay M A) B := fun M A B => by unfold replay; rw [List.foldl_append]
  unfold dappW
  rw [if_pos h, hrep]
  generalize replay M W = F at *
  have hall : ∀ (F : FS), Tab.Rising ltS (F.map Prod.fst) → 1 ≤ p.length → replay F ((pieces p).map (groX k)) = setF k (bytesF k F ++ p) F := fun F hr hp => by
    have h1 := replay_pieces (k := k) hr p (p.length + 1) (by omega) hp
    have h2 := pieces_len p
    rw [List.take_of_length_le (by rw [List.length_map]; omega), List.take_of_length_le (by omega)] at h1
    exact h1
  by_cases hp : 1 ≤ p.length
  · unfold appC
    by_cases he : (getF k F).isSome = true
    · rw [if_pos he, List.nil_append]
      exact hall F hr hp
    · rw [if_neg he, hrep]
      show replay (setF k [] F) _ = _
      rw [hall _ (rise_set hr) hp, setF_set hr, bytesF_setF k k _ hr, if_pos rfl]
      have : bytesF k F = [] := by
        unfold bytesF
        cases hg : getF k F with
        | none => rfl
        | some v => rw [hg] at he; exact absurd rfl he
      rw [this]
  · have hp0 : p = [] := List.eq_nil_of_length_eq_zero (by omega)
    subst hp0
    rw [pieces_nil, List.append_nil, List.map_nil, List.append_nil]
    unfold appC
    by_cases he : (getF k F).isSome = true
    · rw [if_pos he]
      obtain ⟨v, hv⟩ := Option.isSome_iff_exists.1 he
      show F = setF k (bytesF k F) F
      rw [bytesF_some hv, setF_same hr hv]
    · rw [if_neg he]
      show setF k [] F = setF k (bytesF k F) F
      have : bytesF k F = [] := by
        unfold bytesF
        cases hg : getF k F with
        | none => rfl
        | some v => rw [hg] at he; exact absurd rfl he
      rw [this]
end Go.Proofs.Ytbmgeomndfodpaa
