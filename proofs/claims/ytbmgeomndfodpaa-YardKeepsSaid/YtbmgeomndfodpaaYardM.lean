/-
  The model of the yard: a list of files by rising numbers.
-/
import Derived.Test.YtbmgeomndfodpaaYardCreate
import Derived.Test.YtbmgeomndfodpaaTabOrd
namespace Go.Proofs.Ytbmgeomndfodpaa
open Go.Mem Go.Tab

/-- where the file with a name stands -/
def findM (s : ByteArray) : List MF → Option Nat
  | [] => none
  | x :: m => if x.name = s then some 0 else (findM s m).map (· + 1)
theorem findM_some {s : ByteArray} {m : List MF} {i : Nat} (h : findM s m = some i) : ∃ x, m[i]? = some x ∧ x.name = s ∧ nameNo s m = x.ino := by
  induction m generalizing i with
  | nil => simp [findM] at h
  | cons x m ih =>
    unfold findM at h
    unfold nameNo
    split at h
    · next hx => injection h with h; subst h; exact ⟨x, rfl, hx, by rw [if_pos hx]⟩
    · next hx =>
      obtain ⟨j, hj, rfl⟩ := Option.map_eq_some_iff.1 h
      obtain ⟨z, h1, h2, h3⟩ := ih hj
      exact ⟨z, by simpa using h1, h2, by rw [if_neg hx]; exact h3⟩
theorem findM_none {s : ByteArray} {m : List MF} (h : findM s m = none) : nameNo s m = 0 ∧ ∀ x ∈ m, x.name ≠ s := by
  induction m with
  | nil => exact ⟨rfl, fun x hx => by simp at hx⟩
  | cons x m ih =>
    unfold findM at h
    unfold nameNo
    split at h
    · cases h
    · next hx =>
      obtain ⟨h1, h2⟩ := ih (Option.map_eq_none_iff.1 h)
      refine ⟨by rw [if_neg hx]; exact h1, fun z hz => ?_⟩
      rcases List.mem_cons.1 hz with rfl | hz
      · exact hx
      · exact h2 z hz
theorem findM_lt {s : ByteArray} {m : List MF} {i : Nat} (h : findM s m = some i) : i < m.length := by
  obtain ⟨x, h1, _⟩ := findM_some h
  exact (List.getElem?_eq_some_iff.1 h1).1
/-- what holds of the yard's files at any time -/
structure Gd (m : List MF) : Prop where
  r : Rising ltI (m.map MF.ino)
  ino : ∀ x ∈ m, 1 ≤ x.ino ∧ x.ino ≤ 12
  len : m.length ≤ 12
  mx : ∀ x ∈ m, x.data.length ≤ 65536
  nm : ∀ x ∈ m, rightB x.name = true
  d : m.Pairwise fun a b => a.name ≠ b.name
theorem Gd.nil : Gd [] := ⟨List.Pairwise.nil, by simp, by simp, by simp, by simp, List.Pairwise.nil⟩
theorem Gd.find {m : List MF} (h : Gd m) {i : Nat} {x : MF} (hx : m[i]? = some x) : findM x.name m = some i := by
  have hd := h.d
  clear h
  induction m generalizing i with
  | nil => simp at hx
  | cons y m ih =>
    obtain ⟨h1, h2⟩ := List.pairwise_cons.1 hd
    cases i with
    | zero => simp at hx; subst hx; simp [findM]
    | succ i =>
      have hx' : m[i]? = some x := by simpa using hx
      unfold findM
      rw [if_neg (h1 x (List.mem_of_getElem? hx')), ih hx' h2]
      rfl
theorem Gd.no0 {m : List MF} (h : Gd m) {s : ByteArray} : nameNo s m = 0 ↔ findM s m = none := by
  constructor
  · intro h0
    cases hf : findM s m with
    | none => rfl
    | some i =>
      obtain ⟨x, h1, _, h3⟩ := findM_some hf
      have := (h.ino x (List.mem_of_getElem? h1)).1
      omega
  · intro h0; exact (findM_none h0).1
/-- how many files stand in a row, from number a on -/
def leadM (a : Int) : List MF → Nat
  | [] => 0
  | x :: m => if x.ino = a then leadM (a + 1) m + 1 else 0
theorem leadM_le (a : Int) (m : List MF) : leadM a m ≤ m.length := by
  induction m generalizing a with
  | nil => simp [leadM]
  | cons x m ih => unfold leadM; have := ih (a + 1); split <;> simp <;> omega
theorem freeFrom_none {a : Int} {ks : List Int} (h : ∀ k ∈ ks, k ≠ a) : freeFrom a ks = a := by
  induction ks with
  | nil => rfl
  | cons k ks ih =>
    have h1 : freeFrom a (k :: ks) = freeFrom (if k = a then a + 1 else a) ks := rfl
    rw [h1, if_neg (h k (by simp)), ih (fun x hx => h x (by simp [hx]))]
theorem lead_free {m : List MF} (a : Int) (hr : Rising ltI (m.map MF.ino)) (hp : ∀ x ∈ m, a ≤ x.ino) : freeFrom a (m.map MF.ino) = a + leadM a m ∧ At ltI (m.map MF.ino) (a + leadM a m) (leadM a m) ∧ (m.map MF.ino)[leadM a m]? ≠ some (a + leadM a m) := by
  induction m generalizing a with
  | nil => exact ⟨by simp [freeFrom, leadM], ⟨Nat.zero_le _, fun t k h => by simp [leadM] at h, fun t k _ h => by simp at h⟩, by simp⟩
  | cons x m ih =>
    rw [List.map_cons] at hr ⊢
    obtain ⟨h1, h2⟩ := List.pairwise_cons.1 hr
    have h1' : ∀ z ∈ m, x.ino < z.ino := fun z hz => by have := h1 z.ino (List.mem_map_of_mem hz); simpa [ltI] using this
    by_cases hx : x.ino = a
    · have hf : freeFrom a (x.ino :: m.map MF.ino) = freeFrom (a + 1) (m.map MF.ino) := by unfold freeFrom; rw [List.foldl_cons, if_pos hx]
      have hl : leadM a (x :: m) = leadM (a + 1) m + 1 := by conv => lhs; unfold leadM; rw [if_pos hx]
      obtain ⟨i1, i2, i3⟩ := ih (a + 1) h2 (fun z hz => by have := h1' z hz; omega)
      have he : a + ((leadM (a + 1) m + 1 : Nat) : Int) = a + 1 + leadM (a + 1) m := by omega
      rw [hf, hl, i1, he]
      refine ⟨rfl, ⟨by simpa using i2.1, fun t k ht hk => ?_, fun t k ht hk => ?_⟩, by simpa using i3⟩
      · cases t with
        | zero => simp at hk; simp [ltI]; omega
        | succ t => exact i2.2.1 t k (by omega) (by simpa using hk)
      · cases t with
        | zero => omega
        | succ t => exact i2.2.2 t k (by omega) (by simpa using hk)
    · have hxa : a < x.ino := by have := hp x (by simp); omega
      have hl : leadM a (x :: m) = 0 := by unfold leadM; rw [if_neg hx]
      have hgt : ∀ k ∈ x.ino :: m.map MF.ino, a < k := by
        intro k hk
        rcases List.mem_cons.1 hk with rfl | hk
        · exact hxa
        · obtain ⟨z, hz, rfl⟩ := List.mem_map.1 hk; have := h1' z hz; omega
      rw [hl]
      have he : a + ((0 : Nat) : Int) = a := by omega
      rw [he]
      refine ⟨freeFrom_none (fun k hk => by have := hgt k hk; omega), ⟨Nat.zero_le _, fun t k h => by omega, fun t k _ hk => ?_⟩, by simpa using hx⟩
      have := hgt k (List.mem_of_getElem? hk); simp [ltI]; omega
/-- Create -/
def createM (s : ByteArray) (m : List MF) : List MF := if createNo s m = 0 then m.take (leadM 1 m) ++ ⟨(leadM 1 m : Int) + 1, s, []⟩ :: m.drop (leadM 1 m) else m
theorem createNo_zero {s : ByteArray} {m : List MF} (h : createNo s m = 0) : rightB s = true ∧ nameNo s m = 0 ∧ m.length ≠ 12 := by
  unfold createNo at h
  split at h
  · cases h
  · next h1 =>
    split at h
    · cases h
    · next h2 =>
      split at h
      · cases h
      · next h3 => exact ⟨by simpa using h1, by simpa using h2, h3⟩
theorem Gd.create {s : ByteArray} {m : List MF} (h : Gd m) : Gd (createM s m) := by
  unfold createM
  split
  · next hc =>
    obtain ⟨c1, c2, c3⟩ := createNo_zero hc
    obtain ⟨f1, f2, f3⟩ := lead_free 1 h.r (fun x hx => (h.ino x hx).1)
    have hn := (findM_none (h.no0.1 c2)).2
    have hl := leadM_le 1 m
    have hlen := h.len
    have hmem : ∀ x, x ∈ m.take (leadM 1 m) ++ ⟨(leadM 1 m : Int) + 1, s, []⟩ :: m.drop (leadM 1 m) → x = ⟨(leadM 1 m : Int) + 1, s, []⟩ ∨ x ∈ m := by
      intro x hx
      rcases List.mem_append.1 hx with h | h
      · exact .inr (List.mem_of_mem_take h)
      · rcases List.mem_cons.1 h with rfl | h
        · exact .inl rfl
        · exact .inr (List.mem_of_mem_drop h)
    refine ⟨?_, fun x hx => ?_, by simp; omega, fun x hx => ?_, fun x hx => ?_, ?_⟩
    · have := h.r.ins ordI f2 f3
      rw [List.map_append, List.map_cons, List.map_take, List.map_drop, show ((leadM 1 m : Int) + 1) = 1 + (leadM 1 m : Int) by omega]
      exact this
    · rcases hmem x hx with rfl | hx
      · simp only; omega
      · exact h.ino x hx
    · rcases hmem x hx with rfl | hx
      · simp
      · exact h.mx x hx
    · rcases hmem x hx with rfl | hx
      · exact c1
      · exact h.nm x hx
    · have hd := h.d
      rw [← List.take_append_drop (leadM 1 m) m] at hd
      obtain ⟨d1, d2, d3⟩ := List.pairwise_append.1 hd
      refine List.pairwise_append.2 ⟨d1, List.pairwise_cons.2 ⟨fun z hz e => hn z (List.mem_of_mem_drop hz) e.symm, d2⟩, fun a ha b hb => ?_⟩
      rcases List.mem_cons.1 hb with rfl | hb
      · exact hn a (List.mem_of_mem_take ha)
      · exact d3 a ha b hb
  · exact h
/-- one file is turned: its number stays -/
theorem map_ino_set {m : List MF} {i : Nat} {x y : MF} (hx : m[i]? = some x) (hi : y.ino = x.ino) : (m.set i y).map MF.ino = m.map MF.ino := by
  refine List.ext_getElem? (fun j => ?_)
  rw [List.getElem?_map, List.getElem?_map, List.getElem?_set]
  split
  · next h => subst h; have := (List.getElem?_eq_some_iff.1 hx).1; rw [if_pos this, hx]; simp [hi]
  · rfl
theorem Gd.set {m : List MF} (h : Gd m) {i : Nat} {x y : MF} (hx : m[i]? = some x) (hi : y.ino = x.ino) (hm : y.data.length ≤ 65536) (hn : rightB y.name = true) (hd : ∀ j z, j ≠ i → m[j]? = some z → z.name ≠ y.name) : Gd (m.set i y) := by
  have hmem : ∀ z, z ∈ m.set i y → z = y ∨ z ∈ m := fun z hz => (List.mem_or_eq_of_mem_set hz).symm
  refine ⟨by rw [map_ino_set hx hi]; exact h.r, fun z hz => ?_, by rw [List.length_set]; exact h.len, fun z hz => ?_, fun z hz => ?_, ?_⟩
  · rcases hmem z hz with rfl | hz
    · rw [hi]; exact h.ino x (List.mem_of_getElem? hx)
    · exact h.ino z hz
  · rcases hmem z hz with rfl | hz
    · exact hm
    · exact h.mx z hz
  · rcases hmem z hz with rfl | hz
    · exact hn
    · exact h.nm z hz
  · rw [List.pairwise_iff_getElem]
    intro a b ha hb hab
    rw [List.length_set] at ha hb
    have hp := List.pairwise_iff_getElem.1 h.d a b ha hb hab
    rw [List.getElem_set, List.getElem_set]
    split
    · next e => subst e; rw [if_neg (by omega)]; exact fun e => hd b m[b] (by omega) (by simp [hb]) e.symm
    · next e =>
      split
      · next e2 => subst e2; exact hd a m[a] (by omega) (by simp [ha])
      · exact hp
theorem Gd.del {m : List MF} (h : Gd m) (i : Nat) : Gd (m.eraseIdx i) := by
  have hmem : ∀ z, z ∈ m.eraseIdx i → z ∈ m := fun z hz => List.mem_of_mem_eraseIdx hz
  have hs := List.eraseIdx_sublist m i
  exact ⟨h.r.sublist (hs.map _), fun z hz => h.ino z (hmem z hz), Nat.le_trans hs.length_le h.len, fun z hz => h.mx z (hmem z hz), fun z hz => h.nm z (hmem z hz), h.d.sublist hs⟩
/-- Append -/
def appendNo (s : ByteArray) (p : List UInt8) (m : List MF) : Int := match findM s m with
  | none => 7
  | some i => if 65536 < (m.getD i ⟨0, ⟨#[]⟩, []⟩).data.length + p.length then 9 else 0
def appendM (s : ByteArray) (p : List UInt8) (m : List MF) : List MF := match findM s m with
  | none => m
  | some i => if 65536 < (m.getD i ⟨0, ⟨#[]⟩, []⟩).data.length + p.length then m else m.set i { m.getD i ⟨0, ⟨#[]⟩, []⟩ with data := (m.getD i ⟨0, ⟨#[]⟩, []⟩).data ++ p }
theorem getD_some {m : List MF} {i : Nat} {x : MF} (h : m[i]? = some x) (d : MF) : m.getD i d = x := by rw [List.getD_eq_getElem?_getD, h]; rfl
theorem Gd.other {m : List MF} (h : Gd m) {i j : Nat} {x z : MF} (hx : m[i]? = some x) (hz : m[j]? = some z) (hj : j ≠ i) : z.name ≠ x.name := by
  intro e
  have h1 := h.find hx
  have h2 := h.find hz
  rw [e, h1] at h2
  injection h2 with h2
  exact hj h2.symm
theorem Gd.append {s : ByteArray} {p : List UInt8} {m : List MF} (h : Gd m) : Gd (appendM s p m) := by
  unfold appendM
  cases hf : findM s m with
  | none => exact h
  | some i =>
    obtain ⟨x, hx, hn, _⟩ := findM_some hf
    simp only [getD_some hx]
    split
    · exact h
    · next hl => exact h.set hx rfl (by simp; omega) (h.nm x (List.mem_of_getElem? hx)) (fun j z hj hz => Gd.other (x := x) h hx hz hj)
/-- Cut -/
def cutNo (s : ByteArray) (n : Int) (m : List MF) : Int := match findM s m with
  | none => 7
  | some i => if n < 0 ∨ ((m.getD i ⟨0, ⟨#[]⟩, []⟩).data.length : Int) < n then 1 else 0
def cutM (s : ByteArray) (n : Int) (m : List MF) : List MF := match findM s m with
  | none => m
  | some i => if n < 0 ∨ ((m.getD i ⟨0, ⟨#[]⟩, []⟩).data.length : Int) < n then m else m.set i { m.getD i ⟨0, ⟨#[]⟩, []⟩ with data := (m.getD i ⟨0, ⟨#[]⟩, []⟩).data.take n.toNat }
theorem Gd.cut {s : ByteArray} {n : Int} {m : List MF} (h : Gd m) : Gd (cutM s n m) := by
  unfold cutM
  cases hf : findM s m with
  | none => exact h
  | some i =>
    obtain ⟨x, hx, hn, _⟩ := findM_some hf
    simp only [getD_some hx]
    split
    · exact h
    · have := h.mx x (List.mem_of_getElem? hx)
      exact h.set hx rfl (by simp; omega) (h.nm x (List.mem_of_getElem? hx)) (fun j z hj hz => Gd.other (x := x) h hx hz hj)
/-- Remove -/
def removeNo (s : ByteArray) (m : List MF) : Int := match findM s m with
  | none => 7
  | some _ => 0
def removeM (s : ByteArray) (m : List MF) : List MF := match findM s m with
  | none => m
  | some i => m.eraseIdx i
theorem Gd.remove {s : ByteArray} {m : List MF} (h : Gd m) : Gd (removeM s m) := by
  unfold removeM
  cases hf : findM s m with
  | none => exact h
  | some i => exact h.del i
/-- Rename -/
def renameNo (s t : ByteArray) (m : List MF) : Int := if rightB t = false then 14 else match findM s m with
  | none => 7
  | some _ => 0
/-- the other file is no more -/
def dropM (s t : ByteArray) (m : List MF) : List MF := if s = t then m else removeM t m
def nameM (s t : ByteArray) (m : List MF) : List MF := match findM s m with
  | none => m
  | some i => m.set i { m.getD i ⟨0, ⟨#[]⟩, []⟩ with name := t }
def renameM (s t : ByteArray) (m : List MF) : List MF := if renameNo s t m = 0 then nameM s t (dropM s t m) else m
theorem removeM_names {t : ByteArray} {m : List MF} (h : Gd m) : ∀ z ∈ removeM t m, z.name ≠ t := by
  unfold removeM
  cases hf : findM t m with
  | none => exact (findM_none hf).2
  | some i =>
    obtain ⟨x, hx, rfl, _⟩ := findM_some hf
    intro z hz
    obtain ⟨j, hj⟩ := List.mem_iff_getElem?.1 hz
    rw [List.getElem?_eraseIdx] at hj
    split at hj
    · exact h.other hx hj (by omega)
    · exact h.other hx hj (by omega)
theorem Gd.rename {s t : ByteArray} {m : List MF} (h : Gd m) : Gd (renameM s t m) := by
  unfold renameM
  split
  · next hc =>
    have hr : rightB t = true := by
      unfold renameNo at hc
      split at hc
      · cases hc
      · next h => simpa using h
    have hd : Gd (dropM s t m) ∧ (s = t ∨ ∀ z ∈ dropM s t m, z.name ≠ t) := by
      unfold dropM
      split
      · next e => exact ⟨h, .inl e⟩
      · exact ⟨h.remove, .inr (removeM_names h)⟩
    obtain ⟨h1, h2⟩ := hd
    generalize dropM s t m = m1 at *
    unfold nameM
    cases hf : findM s m1 with
    | none => exact h1
    | some i =>
      obtain ⟨x, hx, hn, _⟩ := findM_some hf
      simp only [getD_some hx]
      refine h1.set hx rfl (h1.mx x (List.mem_of_getElem? hx)) hr (fun j z hj hz => ?_)
      rcases h2 with e | h2
      · have := h1.other hx hz hj; rw [hn, e] at this; exact this
      · exact h2 z (List.mem_of_getElem? hz)
  · exact h
end Go.Proofs.Ytbmgeomndfodpaa
