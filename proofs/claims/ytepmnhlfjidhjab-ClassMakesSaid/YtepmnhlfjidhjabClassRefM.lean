/-
  Marks put in order by insertion; what goes from mark to mark. Nothing of the program stands in it.
-/
import Derived.Test.YtepmnhlfjidhjabClassM2
namespace Go.Cls

/-- the first i + 1 rise, but for the one at k, which lies below all behind it -/
def InvS (L : List Int) (i k : Nat) : Prop := ∀ a b x y, a < b → b ≤ i → b ≠ k → L[a]? = some x → L[b]? = some y → x ≤ y
/-- the first i rise -/
def Ris (L : List Int) (i : Nat) : Prop := ∀ a b x y, a < b → b < i → L[a]? = some x → L[b]? = some y → x ≤ y
theorem Ris.start {L : List Int} {i : Nat} (h : Ris L i) : InvS L i i := fun a b x y h1 h2 h3 => h a b x y h1 (by omega)
theorem Ris.one (L : List Int) : Ris L 1 := fun a b x y h1 h2 => by omega
theorem InvS.zero {L : List Int} {i : Nat} (h : InvS L i 0) : Ris L (i + 1) := fun a b x y h1 h2 => h a b x y h1 (by omega) (by omega)
theorem InvS.done {L : List Int} {i k : Nat} {u v : Int} (h : InvS L i (k + 1)) (hu : L[k]? = some u) (hv : L[k + 1]? = some v) (hle : u ≤ v) : Ris L (i + 1) := fun a b x y h1 h2 ha hb => by
  by_cases e : b = k + 1
  · subst e
    rw [hv] at hb
    obtain rfl := Option.some.inj hb
    by_cases e2 : a = k
    · subst e2; rw [hu] at ha; obtain rfl := Option.some.inj ha; exact hle
    · exact Int.le_trans (h a k x u (by omega) (by omega) (by omega) ha hu) hle
  · exact h a b x y h1 (by omega) e ha hb
def swp (L : List Int) (k : Nat) (u v : Int) : List Int := (L.set k v).set (k + 1) u
theorem swp_length (L : List Int) (k : Nat) (u v : Int) : (swp L k u v).length = L.length := by simp [swp]
theorem swp_at {L : List Int} {k : Nat} {u v : Int} (hu : L[k]? = some u) (hv : L[k + 1]? = some v) (j : Nat) : (swp L k u v)[j]? = if j = k then some v else if j = k + 1 then some u else L[j]? := by
  have h1 := (List.getElem?_eq_some_iff.1 hu).1
  have h2 := (List.getElem?_eq_some_iff.1 hv).1
  unfold swp
  rw [List.getElem?_set, List.getElem?_set, List.length_set]
  by_cases e1 : j = k
  · subst e1; rw [if_neg (by omega), if_pos rfl, if_pos h1, if_pos rfl]
  · by_cases e2 : j = k + 1
    · subst e2; rw [if_pos rfl, if_pos h2, if_neg (by omega), if_pos rfl]
    · rw [if_neg (by omega), if_neg (by omega), if_neg e1, if_neg e2]
theorem InvS.step {L : List Int} {i k : Nat} {u v : Int} (h : InvS L i (k + 1)) (hki : k + 1 ≤ i) (hu : L[k]? = some u) (hv : L[k + 1]? = some v) (hlt : v < u) : InvS (swp L k u v) i k := fun a b x y h1 h2 h3 ha hb => by
  rw [swp_at hu hv] at ha hb
  by_cases e1 : b = k + 1
  · rw [if_neg (by omega), if_pos e1] at hb
    obtain rfl := Option.some.inj hb
    by_cases e2 : a = k
    · rw [if_pos e2] at ha; obtain rfl := Option.some.inj ha; omega
    · rw [if_neg e2, if_neg (by omega)] at ha
      exact h a k x u (by omega) (by omega) (by omega) ha hu
  · rw [if_neg h3, if_neg e1] at hb
    by_cases e2 : a = k
    · rw [if_pos e2] at ha; obtain rfl := Option.some.inj ha
      exact h (k + 1) b v y (by omega) h2 e1 hv hb
    · by_cases e3 : a = k + 1
      · rw [if_neg e2, if_pos e3] at ha; obtain rfl := Option.some.inj ha
        exact h k b u y (by omega) h2 e1 hu hb
      · rw [if_neg e2, if_neg e3] at ha
        exact h a b x y h1 h2 e1 ha hb
theorem swp_mem {L : List Int} {k : Nat} {u v : Int} (hu : L[k]? = some u) (hv : L[k + 1]? = some v) (x : Int) : x ∈ swp L k u v ↔ x ∈ L := by
  rw [List.mem_iff_getElem?, List.mem_iff_getElem?]
  constructor
  · rintro ⟨j, hj⟩
    rw [swp_at hu hv] at hj
    split at hj
    · exact ⟨k + 1, hv.trans hj⟩
    · split at hj
      · exact ⟨k, hu.trans hj⟩
      · exact ⟨j, hj⟩
  · rintro ⟨j, hj⟩
    by_cases e1 : j = k
    · subst e1; exact ⟨j + 1, by rw [swp_at hu hv, if_neg (by omega), if_pos rfl]; exact hu.symm.trans hj⟩
    · by_cases e2 : j = k + 1
      · subst e2; exact ⟨k, by rw [swp_at hu hv, if_pos rfl]; exact hv.symm.trans hj⟩
      · exact ⟨j, by rw [swp_at hu hv, if_neg e1, if_neg e2]; exact hj⟩

/-- marks in order -/
structure Marks (l : List (Int × Int)) (L : List Int) : Prop where
  ris : Ris L L.length
  mem : ∀ x, x ∈ L ↔ x ∈ marks l
theorem Marks.in_ {l : List (Int × Int)} {L : List Int} (h : Marks l L) {i : Nat} {x : Int} (hx : L[i]? = some x) : 0 ≤ x ∧ x ≤ 0x110000 := marks_in ((h.mem x).1 (List.mem_of_getElem? hx))
theorem Marks.len {l : List (Int × Int)} {L : List Int} (h : Marks l L) : 0 < L.length := by
  have := (h.mem 0).2 (by simp [marks])
  cases L with
  | nil => cases this
  | cons _ _ => simp
theorem Marks.first {l : List (Int × Int)} {L : List Int} (h : Marks l L) : L[0]? = some 0 := by
  obtain ⟨x, hx⟩ : ∃ x, L[0]? = some x := ⟨L[0]'h.len, List.getElem?_eq_getElem h.len⟩
  obtain ⟨j, hj⟩ := List.mem_iff_getElem?.1 ((h.mem 0).2 (by simp [marks]))
  rw [hx]
  have h1 := h.in_ hx
  rcases Nat.eq_zero_or_pos j with rfl | hp
  · exact hx.symm.trans hj
  · have := h.ris 0 j x 0 hp (List.getElem?_eq_some_iff.1 hj).1 hx hj
    rw [show x = 0 by omega]
theorem Marks.last {l : List (Int × Int)} {L : List Int} (h : Marks l L) {i : Nat} (hi : i + 1 = L.length) : L[i]? = some 0x110000 := by
  obtain ⟨x, hx⟩ : ∃ x, L[i]? = some x := ⟨L[i]'(by omega), List.getElem?_eq_getElem (by omega)⟩
  obtain ⟨j, hj⟩ := List.mem_iff_getElem?.1 ((h.mem 0x110000).2 (by simp [marks]))
  rw [hx]
  have h1 := h.in_ hx
  have h2 := (List.getElem?_eq_some_iff.1 hj).1
  by_cases e : j = i
  · subst e; exact hx.symm.trans hj
  · have := h.ris j i _ _ (by omega) (by omega) hj hx
    rw [show x = 0x110000 by omega]
/-- no mark lies between two that stand side by side -/
theorem Marks.gap {l : List (Int × Int)} {L : List Int} (h : Marks l L) {i : Nat} {a b : Int} (ha : L[i]? = some a) (hb : L[i + 1]? = some b) : ∀ x ∈ marks l, x ≤ a ∨ b ≤ x := fun x hx => by
  obtain ⟨j, hj⟩ := List.mem_iff_getElem?.1 ((h.mem x).2 hx)
  have h1 := (List.getElem?_eq_some_iff.1 hj).1
  have h2 := (List.getElem?_eq_some_iff.1 hb).1
  rcases Nat.lt_trichotomy j i with h3 | h3 | h3
  · exact .inl (h.ris j i _ _ h3 (by omega) hj ha)
  · subst h3; rw [hj] at ha; exact .inl (by have := Option.some.inj ha; omega)
  · by_cases e : j = i + 1
    · subst e; rw [hj] at hb; exact .inr (by have := Option.some.inj hb; omega)
    · exact .inr (h.ris (i + 1) j _ _ (by omega) h1 hb hj)
theorem Marks.le {l : List (Int × Int)} {L : List Int} (h : Marks l L) {i : Nat} {a b : Int} (ha : L[i]? = some a) (hb : L[i + 1]? = some b) : a ≤ b :=
  h.ris i (i + 1) a b (by omega) (List.getElem?_eq_some_iff.1 hb).1 ha hb

/-- is the side that is asked for: in, or not in -/
def Side (y : Bool) (l : List (Int × Int)) (r : Int) : Prop := Valid r ∧ (if y then Mem l r else ¬ Mem l r)
theorem side_turns (y : Bool) (l : List (Int × Int)) (r : Int) (h0 : 0 ≤ r) : (Side y l r ↔ Side y l (r + 1)) ∨ r + 1 ∈ marks l := by
  rcases turns l r h0 with h | h
  · left; unfold Side; cases y
    · simpa using h.2
    · simpa using h.1
  · exact .inr h
theorem side_from {y : Bool} {l : List (Int × Int)} {L : List Int} (h : Marks l L) {i : Nat} {a b : Int} (ha : L[i]? = some a) (hb : L[i + 1]? = some b) : ∀ r, a ≤ r → r < b → (Side y l r ↔ Side y l a) :=
  between (side_turns y l) (h.in_ ha).1 (h.gap ha hb)
/-- the answer by one side -/
def ans (y : Bool) (l : List (Int × Int)) : List (Int × Int) := if y then mkR l else nt l
theorem ans_of {y : Bool} {l : List (Int × Int)} {acc : List (Int × Int)} (h : Acc (Side y l) 0x110000 acc) : acc = ans y l := by
  cases y
  · exact up_uniq h.up (nt_up l) fun r => by
      rw [h.mem]
      show _ ↔ Mem (nt l) r
      rw [nt_mem]
      unfold Side Valid
      simp only [Bool.false_eq_true, if_false]
      constructor
      · rintro ⟨_, h1, h2⟩; exact ⟨h1, h2⟩
      · rintro ⟨h1, h2⟩; exact ⟨by omega, h1, h2⟩
  · exact up_uniq h.up (mk_up l) fun r => by
      rw [h.mem]
      show _ ↔ Mem (mkR l) r
      rw [mk_mem]
      unfold Side Valid
      simp only [if_true]
      constructor
      · rintro ⟨_, h1, h2⟩; exact ⟨h1, h2⟩
      · rintro ⟨h1, h2⟩; exact ⟨by omega, h1, h2⟩
end Go.Cls
