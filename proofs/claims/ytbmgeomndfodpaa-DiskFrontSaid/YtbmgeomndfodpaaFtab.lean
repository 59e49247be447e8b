/-
  Files in a table: names and bytes; the table's methods on them.
-/
import Derived.Test.YtbmgeomndfodpaaTabSL
import Derived.Test.YtbmgeomndfodpaaFsM
import Derived.Test.YtbmgeomndfodpaaFoot
import Derived.Test.YtbmgeomndfodpaaAppV
namespace Go.Proofs.Ytbmgeomndfodpaa
open Go.RowKit Go.Mem Go.Proofs

structure FT (w : World) (B p : Nat) (DK DV : Option Addr) (F : FS) (vs : List Sb) : Prop where
  tb : TbSL w B p DK DV (F.map Prod.fst) vs
  r : Tab.Rising ltS (F.map Prod.fst)
  vw : ∀ (i : Nat) (s : Sb) (x : ByteArray × List UInt8), vs[i]? = some s → F[i]? = some x → s.n = x.2.length ∧ s.c ≤ 9223372036854775807 ∧ Vw w B 5 1 s.d s.n s.c (x.2.map B8)
  ap : ∀ (i j : Nat) (s t : Sb), i ≠ j → vs[i]? = some s → vs[j]? = some t → ∀ g, s.d = some ⟨g, 0, none⟩ → t.d ≠ some ⟨g, 0, none⟩
section
variable {w w' : World} {B p : Nat} {DK DV : Option Addr} {F : FS} {vs : List Sb}
theorem FT.len (h : FT w B p DK DV F vs) : vs.length = F.length := by
  obtain ⟨_, _, _, he⟩ := h.tb
  rw [List.length_map] at he; exact he.symm
theorem FT.sb (h : FT w B p DK DV F vs) {i : Nat} {x : ByteArray × List UInt8} (hx : F[i]? = some x) : ∃ s, vs[i]? = some s := by
  have hi := (List.getElem?_eq_some_iff.1 hx).1
  exact ⟨vs[i]'(by rw [h.len]; exact hi), List.getElem?_eq_getElem _⟩
theorem FT.sx (h : FT w B p DK DV F vs) {i : Nat} {s : Sb} (hs : vs[i]? = some s) : ∃ x, F[i]? = some x := by
  have hi := (List.getElem?_eq_some_iff.1 hs).1
  exact ⟨F[i]'(by rw [← h.len]; exact hi), List.getElem?_eq_getElem _⟩
/-- each view, whichever -/
theorem FT.view (h : FT w B p DK DV F vs) {s : Sb} (hs : s ∈ vs) : ∃ bs : List UInt8, s.n = bs.length ∧ s.c ≤ 9223372036854775807 ∧ Vw w B 5 1 s.d s.n s.c (bs.map B8) := by
  obtain ⟨i, hi⟩ := List.mem_iff_getElem?.1 hs
  obtain ⟨x, hx⟩ := h.sx hi
  exact ⟨x.2, h.vw i s x hi hx⟩
theorem FT.keep (h : FT w B p DK DV F vs) (hp : w'.heap[p]? = w.heap[p]?) (hk : ∀ g, g < w.heap.size → DK = some ⟨g, 0, none⟩ → w'.heap[g]? = w.heap[g]?) (hv : ∀ g, g < w.heap.size → DV = some ⟨g, 0, none⟩ → w'.heap[g]? = w.heap[g]?)
    (hs : ∀ s ∈ vs, ∀ (bs : List UInt8), s.n = bs.length → Vw w B 5 1 s.d s.n s.c (bs.map B8) → Vw w' B 5 1 s.d s.n s.c (bs.map B8)) : FT w' B p DK DV F vs := by
  obtain ⟨a, b, h1, h2⟩ := h.tb
  exact ⟨⟨a, b, h1.keep hp (fun g hg => hk g (own_lt h1.k hg).1 hg) (fun g hg => hv g (own_lt h1.v hg).1 hg), h2⟩, h.r, fun i s x hi hx => by
    obtain ⟨q1, q2, q3⟩ := h.vw i s x hi hx
    exact ⟨q1, q2, hs s (List.mem_of_getElem? hi) _ q1 q3⟩, h.ap⟩
theorem FT.below (h : FT w B p DK DV F vs) (hb : Below w.heap.size w w') : FT w' B p DK DV F vs := by
  obtain ⟨a, b, h1, h2⟩ := h.tb
  exact h.keep (hb.block _ h1.b.lt) (fun g hg _ => hb.block g hg) (fun g hg _ => hb.block g hg) (fun s _ bs _ hv => hv.below hb)
theorem FT.mono {B' : Nat} (h : FT w B p DK DV F vs) (hB : B' ≤ B) : FT w B' p DK DV F vs :=
  ⟨h.tb.mono hB, h.r, fun i s x hi hx => by obtain ⟨q1, q2, q3⟩ := h.vw i s x hi hx; exact ⟨q1, q2, q3.mono hB⟩, h.ap⟩
theorem FT.lt (h : FT w B p DK DV F vs) : p < w.heap.size ∧ B ≤ p := by
  obtain ⟨a, b, h1, h2⟩ := h.tb; exact ⟨h1.b.lt, h1.pB⟩
theorem FT.ltK (h : FT w B p DK DV F vs) {g : Nat} (hg : DK = some ⟨g, 0, none⟩) : g < w.heap.size ∧ B ≤ g := by
  obtain ⟨a, b, h1, h2⟩ := h.tb; exact own_lt h1.k hg
theorem FT.ltV (h : FT w B p DK DV F vs) {g : Nat} (hg : DV = some ⟨g, 0, none⟩) : g < w.heap.size ∧ B ≤ g := by
  obtain ⟨a, b, h1, h2⟩ := h.tb; exact own_lt h1.v hg
theorem FT.blk (h : FT w B p DK DV F vs) : ∃ cs, Blk w p 134 cs := by
  obtain ⟨a, b, h1, h2⟩ := h.tb; exact ⟨_, h1.b⟩
theorem FT.blkK (h : FT w B p DK DV F vs) {g : Nat} (hg : DK = some ⟨g, 0, none⟩) : ∃ cs, Blk w g 9 cs := by
  obtain ⟨a, b, h1, h2⟩ := h.tb
  have hk := h1.k
  rw [hg] at hk; exact own_blkN hk
theorem FT.blkV (h : FT w B p DK DV F vs) {g : Nat} (hg : DV = some ⟨g, 0, none⟩) : ∃ cs, Blk w g 27 cs := by
  obtain ⟨a, b, h1, h2⟩ := h.tb
  have hk := h1.v
  rw [hg] at hk; exact own_blkN hk
/-- a block of another type than the table's own three: the table's doing leaves it -/
theorem FT.kp (h : FT w B p DK DV F vs) (k : Kp w w' p DK DV) {g : Nat} {t : TypeId} {cs : List Value} (hb : Blk w g t cs) (h1 : t ≠ 134) (h2 : t ≠ 9) (h3 : t ≠ 27) : w'.heap[g]? = w.heap[g]? := by
  obtain ⟨a, b, q, _⟩ := h.tb
  exact k _ hb.lt (hb.ne_ q.b h1) (own_ne_blk q.k hb (fun e => h2 e.symm)) (own_ne_blk q.v hb (fun e => h3 e.symm))
/-- Get, where the name is -/
theorem FT.get_yes (h : FT w B p DK DV F vs) {i : Nat} {k : ByteArray} {bs : List UInt8} {s : Sb} (hx : F[i]? = some (k, bs)) (hs : vs[i]? = some s) (hn : F.length ≤ 1000000) :
    Calls Try.prog 69 #[.pointer (some ⟨p, 0, none⟩), .string k] w fun e w' => e = .returned (.tuple #[.slice s.d s.n s.c, .bool true]) ∧ ∃ q, w' = w.drewN q := by
  have hk : (F.map Prod.fst)[i]? = some k := by rw [List.getElem?_map, hx]; rfl
  refine (getSL_calls B p DK DV _ vs k i w h.tb h.r (Tab.At.of_get ordS h.r hk) (by rw [List.length_map]; exact hn)).mono ?_
  rw [if_pos hk, decide_eq_true hk, List.getD_eq_getElem?_getD, hs]
  exact fun e w' he => he
/-- Get, where it isn't -/
theorem FT.get_no (h : FT w B p DK DV F vs) {k : ByteArray} (hk : k ∉ F.map Prod.fst) (hn : F.length ≤ 1000000) :
    Calls Try.prog 69 #[.pointer (some ⟨p, 0, none⟩), .string k] w fun e w' => e = .returned (.tuple #[.slice none 0 0, .bool false]) ∧ ∃ q, w' = w.drewN q := by
  obtain ⟨i, hat⟩ := Tab.At.ex ordS _ h.r k
  have hf : (F.map Prod.fst)[i]? ≠ some k := fun e => hk (List.mem_of_getElem? e)
  refine (getSL_calls B p DK DV _ vs k i w h.tb h.r hat (by rw [List.length_map]; exact hn)).mono ?_
  rw [if_neg hf, decide_eq_false hf]
  exact fun e w' he => he
/-- what comes of a change: where the slices are from -/
def Off (w : World) (vs0 : List Sb) (t : Sb) : Prop := t ∈ vs0 ∨ t.d = none ∨ (∃ g, t.d = some ⟨g, 0, none⟩ ∧ w.heap.size ≤ g) ∨ ∃ s ∈ vs0, t.d = s.d ∧ (t.c = t.n ∨ s.n ≤ t.n ∧ s.n < s.c)
/-- what a change of the table ends in -/
def FTE (w : World) (B p : Nat) (DK DV : Option Addr) (F : FS) (P : Sb → Prop) (e : Ending) (w' : World) : Prop := (∃ b, e = .returned (.bool b)) ∧ ∃ DK' DV' vs', FT w' B p DK' DV' F vs' ∧ (∀ t ∈ vs', P t) ∧ Kp w w' p DK DV ∧ Nw w DK DK' ∧ Nw w DV DV' ∧ Below B w w'
theorem FT.set (h : FT w B p DK DV F vs) (k : ByteArray) (s : Sb) (bs : List UInt8) (hl : s.n = bs.length) (hc : s.c ≤ 9223372036854775807) (hv : Vw w B 5 1 s.d s.n s.c (bs.map B8)) (hap : ∀ (j : Nat) (t : Sb), vs[j]? = some t → (F.map Prod.fst)[j]? ≠ some k → ∀ g : Nat, s.d = some ⟨g, 0, none⟩ → t.d ≠ some ⟨g, 0, none⟩) (hn : F.length ≤ 100000) (hBw : B ≤ w.heap.size) :
    Calls Try.prog 97 #[.pointer (some ⟨p, 0, none⟩), .string k, .slice s.d s.n s.c] w (FTE w B p DK DV (setF k bs F) (fun t => t = s ∨ t ∈ vs)) := by
  obtain ⟨i, hat⟩ := Tab.At.ex ordS _ h.r k
  have hlen := h.len
  obtain ⟨s1, s2, s3⟩ := s
  simp only at hl hc hv hap ⊢
  have hkeep : ∀ {w' : World}, Kp w w' p DK DV → ∀ (t : Sb) (n : Nat) (pre : List Value), Vw w B 5 1 t.d n t.c pre → Vw w' B 5 1 t.d n t.c pre := fun {w'} kp t n pre hv => hv.keep fun g hg => by
    obtain ⟨cs, hb⟩ := hv.blk hg
    exact h.kp kp hb (by decide) (by decide) (by decide)
  by_cases hf : (F.map Prod.fst)[i]? = some k
  · have hil : i < F.length := by have := (List.getElem?_eq_some_iff.1 hf).1; simpa using this
    refine (setSL_old B p DK DV _ vs k s1 s2 s3 i w h.tb h.r hat (by rw [List.length_map]; omega) hf).mono ?_
    rintro e w' ⟨rfl, DK', DV', tb, kp, nk, nv, bb⟩
    refine ⟨⟨_, rfl⟩, DK', DV', vs.set i ⟨s1, s2, s3⟩, ⟨?_, rise_set h.r, fun j t x hj hx => ?_, fun a b t u hab ha hb g hg => ?_⟩, fun t ht => ?_, kp, nk, nv, bb⟩
    · rw [setF_at bs hat, if_pos hf, map_set bs hf]; exact tb
    · rw [setF_at bs hat, if_pos hf] at hx
      rw [List.getElem?_set] at hj hx
      split at hj
      · next e =>
        rw [if_pos e, if_pos (by omega)] at hx
        rw [if_pos (by omega)] at hj
        injection hj with hj; injection hx with hx; subst hj; subst hx
        exact ⟨hl, hc, hkeep kp ⟨s1, s2, s3⟩ _ _ hv⟩
      · next e =>
        rw [if_neg e] at hx
        obtain ⟨q1, q2, q3⟩ := h.vw j t x hj hx
        exact ⟨q1, q2, hkeep kp t _ _ q3⟩
    · have other : ∀ (j : Nat) (u : Sb), j ≠ i → vs[j]? = some u → ∀ g : Nat, s1 = some ⟨g, 0, none⟩ → u.d ≠ some ⟨g, 0, none⟩ := fun j u hj hu => by
        refine hap j u hu (fun e => hj ?_)
        have hlt : j < F.length := by have := (List.getElem?_eq_some_iff.1 hu).1; omega
        rcases Nat.lt_trichotomy j i with h1 | h1 | h1
        · have := h.r.get h1 e hf; rw [ordS.irr] at this; cases this
        · exact h1
        · have := h.r.get h1 hf e; rw [ordS.irr] at this; cases this
      rw [List.getElem?_set] at ha hb
      split at ha
      · next e =>
        rw [if_pos (by omega)] at ha
        injection ha with ha; subst ha
        rw [if_neg (by omega)] at hb
        exact other b u (by omega) hb g hg
      · next e =>
        split at hb
        · next e2 =>
          rw [if_pos (by omega)] at hb
          injection hb with hb; subst hb
          exact fun h2 => other a t (by omega) ha g h2 hg
        · exact h.ap a b t u hab ha hb g hg
    · rcases List.mem_or_eq_of_mem_set ht with h1 | h1
      · exact .inr h1
      · exact .inl h1
  · refine (setSL_new B p DK DV _ vs k s1 s2 s3 i w h.tb h.r hat (by rw [List.length_map]; exact hn) hf hBw).mono ?_
    rintro e w' ⟨rfl, DK', DV', tb, kp, nk, nv, bb⟩
    have hil : i ≤ F.length := by have := hat.1; simpa using this
    have hno : ∀ j : Nat, (F.map Prod.fst)[j]? ≠ some k := fun j e => hf ((hat.mem ordS h.r).1 (List.mem_of_getElem? e))
    -- where a place of the new list was
    have place : ∀ {α : Type} (l : List α) (x : α) (j : Nat), i ≤ l.length → (l.take i ++ x :: l.drop i)[j]? = if j < i then l[j]? else if j = i then some x else l[j - 1]? := fun l x j hi => by
      by_cases h1 : j < i
      · rw [if_pos h1, List.getElem?_append_left (by simp; omega), List.getElem?_take, if_pos h1]
      · rw [if_neg h1, List.getElem?_append_right (by simp; omega)]
        have : j - (l.take i).length = j - i := by simp; omega
        rw [this]
        by_cases h2 : j = i
        · rw [if_pos h2, h2, Nat.sub_self]; rfl
        · rw [if_neg h2, show j - i = (j - i - 1) + 1 by omega, List.getElem?_cons_succ, List.getElem?_drop]
          congr 1; omega
    refine ⟨⟨_, rfl⟩, DK', DV', vs.take i ++ (⟨s1, s2, s3⟩ : Sb) :: vs.drop i, ⟨?_, rise_set h.r, fun j t x hj hx => ?_, fun a b t u hab ha hb g hg => ?_⟩, fun t ht => ?_, kp, nk, nv, bb⟩
    · rw [setF_at bs hat, if_neg hf, map_ins]; exact tb
    · rw [setF_at bs hat, if_neg hf, place F _ _ hil] at hx
      rw [place vs _ _ (by omega)] at hj
      split at hj
      · next e =>
        rw [if_pos e] at hx
        obtain ⟨q1, q2, q3⟩ := h.vw j t x hj hx
        exact ⟨q1, q2, hkeep kp t _ _ q3⟩
      · next e =>
        rw [if_neg e] at hx
        split at hj
        · next e2 =>
          rw [if_pos e2] at hx
          injection hj with hj; injection hx with hx; subst hj; subst hx
          exact ⟨hl, hc, hkeep kp ⟨s1, s2, s3⟩ _ _ hv⟩
        · next e2 =>
          rw [if_neg e2] at hx
          obtain ⟨q1, q2, q3⟩ := h.vw _ t x hj hx
          exact ⟨q1, q2, hkeep kp t _ _ q3⟩
    · rw [place vs _ _ (by omega)] at ha hb
      have old : ∀ (j : Nat) (t : Sb), (if j < i then vs[j]? else vs[j - 1]?) = some t → ∃ j', vs[j']? = some t ∧ j' = if j < i then j else j - 1 := fun j t h => by
        split at h
        · next e => exact ⟨j, h, by rw [if_pos e]⟩
        · next e => exact ⟨j - 1, h, by rw [if_neg e]⟩
      by_cases e1 : a = i
      · rw [if_neg (by omega), if_pos e1] at ha
        injection ha with ha; subst ha
        by_cases e3 : b < i
        · rw [if_pos e3] at hb
          exact hap b u hb (hno b) g hg
        · rw [if_neg e3, if_neg (by omega)] at hb
          exact hap _ u hb (hno _) g hg
      · by_cases e2 : b = i
        · rw [if_neg (by omega), if_pos e2] at hb
          injection hb with hb; subst hb
          by_cases e3 : a < i
          · rw [if_pos e3] at ha
            exact fun h2 => hap a t ha (hno a) g h2 hg
          · rw [if_neg e3, if_neg (by omega)] at ha
            exact fun h2 => hap _ t ha (hno _) g h2 hg
        · rw [if_neg e1] at ha
          rw [if_neg e2] at hb
          obtain ⟨a', ha', ea⟩ := old a t ha
          obtain ⟨b', hb', eb⟩ := old b u hb
          refine h.ap a' b' t u ?_ ha' hb' g hg
          intro e
          split at ea <;> split at eb <;> omega
    · rcases List.mem_append.1 ht with h1 | h1
      · exact .inr (List.mem_of_mem_take h1)
      · rcases List.mem_cons.1 h1 with h1 | h1
        · exact .inl h1
        · exact .inr (List.mem_of_mem_drop h1)
theorem FT.del (h : FT w B p DK DV F vs) (k : ByteArray) (hn : F.length ≤ 100000) (hBw : B ≤ w.heap.size) :
    Calls Try.prog 98 #[.pointer (some ⟨p, 0, none⟩), .string k] w (FTE w B p DK DV (delF k F) (fun t => t ∈ vs ∧ ∀ (i : Nat) (s : Sb), vs[i]? = some s → (F.map Prod.fst)[i]? = some k → ∀ g : Nat, s.d = some ⟨g, 0, none⟩ → t.d ≠ some ⟨g, 0, none⟩)) := by
  obtain ⟨i, hat⟩ := Tab.At.ex ordS _ h.r k
  have hlen := h.len
  have hkeep : ∀ {w' : World}, Kp w w' p DK DV → ∀ (t : Sb) (n : Nat) (pre : List Value), Vw w B 5 1 t.d n t.c pre → Vw w' B 5 1 t.d n t.c pre := fun {w'} kp t n pre hv => hv.keep fun g hg => by
    obtain ⟨cs, hb⟩ := hv.blk hg
    exact h.kp kp hb (by decide) (by decide) (by decide)
  by_cases hf : (F.map Prod.fst)[i]? = some k
  · have hil : i < F.length := by have := (List.getElem?_eq_some_iff.1 hf).1; simpa using this
    obtain ⟨v0, hv0⟩ := get_names hf
    refine (delSL_yes B p DK DV _ vs k i w h.tb h.r hat (by rw [List.length_map]; omega) hf hBw).mono ?_
    rintro e w' ⟨rfl, DK', DV', tb, kp, nk, nv, bb⟩
    have place : ∀ {α : Type} (l : List α) (j : Nat), i ≤ l.length → (l.take i ++ l.drop (i + 1))[j]? = if j < i then l[j]? else l[j + 1]? := fun l j hi => by
      by_cases h1 : j < i
      · rw [if_pos h1, List.getElem?_append_left (by simp; omega), List.getElem?_take, if_pos h1]
      · rw [if_neg h1, List.getElem?_append_right (by simp; omega), List.getElem?_drop]
        congr 1; simp; omega
    refine ⟨⟨_, rfl⟩, DK', DV', vs.take i ++ vs.drop (i + 1), ⟨?_, rise_del h.r, fun j t x hj hx => ?_, fun a b t u hab ha hb g hg => ?_⟩, fun t ht => ?_, kp, nk, nv, bb⟩
    · rw [delF_get h.r hv0, map_del]; exact tb
    · rw [delF_get h.r hv0, place F _ (by omega)] at hx
      rw [place vs _ (by omega)] at hj
      split at hj
      · next e =>
        rw [if_pos e] at hx
        obtain ⟨q1, q2, q3⟩ := h.vw j t x hj hx
        exact ⟨q1, q2, hkeep kp t _ _ q3⟩
      · next e =>
        rw [if_neg e] at hx
        obtain ⟨q1, q2, q3⟩ := h.vw _ t x hj hx
        exact ⟨q1, q2, hkeep kp t _ _ q3⟩
    · rw [place vs _ (by omega)] at ha hb
      split at ha <;> split at hb <;> exact h.ap _ _ t u (by omega) ha hb g hg
    · obtain ⟨j, hj⟩ := List.mem_iff_getElem?.1 ht
      rw [place vs _ (by omega)] at hj
      have hjj : ∃ j', j' ≠ i ∧ vs[j']? = some t := by
        split at hj
        · exact ⟨j, by omega, hj⟩
        · exact ⟨j + 1, by omega, hj⟩
      obtain ⟨j', hne, hj'⟩ := hjj
      refine ⟨List.mem_of_getElem? hj', fun i2 s hs hk2 g hg => ?_⟩
      have : i2 = i := by
        rcases Nat.lt_trichotomy i2 i with h1 | h1 | h1
        · have := h.r.get h1 hk2 hf; rw [ordS.irr] at this; cases this
        · exact h1
        · have := h.r.get h1 hf hk2; rw [ordS.irr] at this; cases this
      subst this
      exact h.ap i2 j' s t (fun e => hne e.symm) hs hj' g hg
  · have hno : k ∉ F.map Prod.fst := fun e => hf ((hat.mem ordS h.r).1 e)
    refine (delSL_no B p DK DV _ vs k i w h.tb h.r hat (by rw [List.length_map]; omega) hf).mono ?_
    rintro e w' ⟨rfl, q, rfl⟩
    have hb := below_drewN (Below.refl B w) q
    rw [delF_none hno]
    exact ⟨⟨_, rfl⟩, DK, DV, vs, h.below (below_drewN (Below.refl _ _) q), fun t ht => ⟨ht, fun i2 s _ hk2 => absurd (List.mem_of_getElem? hk2) hno⟩, Kp.of_below (below_drewN (Below.refl _ _) q), Nw.refl _ _, Nw.refl _ _, hb⟩
end
end Go.Proofs.Ytbmgeomndfodpaa
