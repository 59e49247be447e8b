/-
  Ranges of runes: the one list that rises with gaps; the gaps; how many; marks and pieces. Nothing of the program stands in it.
-/
namespace Go.Cls

/-- the runes of some ranges -/
def Mem (l : List (Int × Int)) (r : Int) : Prop := ∃ g ∈ l, g.1 ≤ r ∧ r ≤ g.2
theorem Mem.nil {r : Int} : ¬ Mem [] r := by rintro ⟨g, h, _⟩; cases h
theorem Mem.cons {g : Int × Int} {l : List (Int × Int)} {r : Int} : Mem (g :: l) r ↔ (g.1 ≤ r ∧ r ≤ g.2) ∨ Mem l r := by
  constructor
  · rintro ⟨x, h, hr⟩
    rcases List.mem_cons.1 h with rfl | h
    · exact .inl hr
    · exact .inr ⟨x, h, hr⟩
  · rintro (h | ⟨x, h, hr⟩)
    · exact ⟨g, List.mem_cons_self, h⟩
    · exact ⟨x, List.mem_cons_of_mem _ h, hr⟩
theorem Mem.app {l k : List (Int × Int)} {r : Int} : Mem (l ++ k) r ↔ Mem l r ∨ Mem k r := by
  induction l with
  | nil => simp [Mem]
  | cons g l ih => rw [List.cons_append, Mem.cons, Mem.cons, ih, or_assoc]

/-- rising, with a gap between each two, from 'lo' on -/
def Up : Int → List (Int × Int) → Prop
  | _, [] => True
  | m, g :: l => m ≤ g.1 ∧ g.1 ≤ g.2 ∧ Up (g.2 + 2) l
theorem Up.mono {m k : Int} {l : List (Int × Int)} (h : Up m l) (hk : k ≤ m) : Up k l := by
  cases l with
  | nil => trivial
  | cons g l => exact ⟨by have := h.1; omega, h.2⟩
theorem Up.low {l : List (Int × Int)} : ∀ {m : Int}, Up m l → ∀ r, Mem l r → m ≤ r := by
  induction l with
  | nil => intro m _ r h; exact absurd h Mem.nil
  | cons g l ih =>
    intro m h r hr
    obtain ⟨h1, h2, h3⟩ := h
    rcases Mem.cons.1 hr with h4 | h4
    · omega
    · have := ih h3 r h4; omega

theorem up_uniq {a : List (Int × Int)} : ∀ {b : List (Int × Int)} {m k : Int}, Up m a → Up k b → (∀ r, Mem a r ↔ Mem b r) → a = b := by
  induction a with
  | nil =>
    intro b m k _ hb h
    cases b with
    | nil => rfl
    | cons g l => exact absurd ((h g.1).2 (Mem.cons.2 (.inl ⟨Int.le_refl _, hb.2.1⟩))) Mem.nil
  | cons g a ih =>
    intro b m k ha hb h
    cases b with
    | nil => exact absurd ((h g.1).1 (Mem.cons.2 (.inl ⟨Int.le_refl _, ha.2.1⟩))) Mem.nil
    | cons f b =>
      obtain ⟨a1, a2, a3⟩ := ha
      obtain ⟨b1, b2, b3⟩ := hb
      have e1 : g.1 = f.1 := by
        have h1 := (h g.1).1 (Mem.cons.2 (.inl ⟨Int.le_refl _, a2⟩))
        have h2 := (h f.1).2 (Mem.cons.2 (.inl ⟨Int.le_refl _, b2⟩))
        have h3 : f.1 ≤ g.1 := by
          rcases Mem.cons.1 h1 with h3 | h3
          · exact h3.1
          · have := b3.low _ h3; omega
        have h4 : g.1 ≤ f.1 := by
          rcases Mem.cons.1 h2 with h3 | h3
          · exact h3.1
          · have := a3.low _ h3; omega
        omega
      have e2 : g.2 = f.2 := by
        have h3 : g.2 ≤ f.2 := by
          rcases Int.lt_or_le f.2 g.2 with h3 | h3
          · exfalso
            have h4 := (h (f.2 + 1)).1 (Mem.cons.2 (.inl ⟨by omega, by omega⟩))
            rcases Mem.cons.1 h4 with h5 | h5
            · omega
            · have := b3.low _ h5; omega
          · exact h3
        have h4 : f.2 ≤ g.2 := by
          rcases Int.lt_or_le g.2 f.2 with h3 | h3
          · exfalso
            have h4 := (h (g.2 + 1)).2 (Mem.cons.2 (.inl ⟨by omega, by omega⟩))
            rcases Mem.cons.1 h4 with h5 | h5
            · omega
            · have := a3.low _ h5; omega
          · exact h3
        omega
      obtain ⟨g1, g2⟩ := g
      obtain ⟨f1, f2⟩ := f
      simp only at e1 e2 a3 b3
      subst e1 e2
      congr 1
      refine ih a3 b3 (fun r => ?_)
      constructor
      · intro hr
        have h1 := (h r).1 (Mem.cons.2 (.inr hr))
        rcases Mem.cons.1 h1 with h2 | h2
        · have := a3.low _ hr; simp only at h2; omega
        · exact h2
      · intro hr
        have h1 := (h r).2 (Mem.cons.2 (.inr hr))
        rcases Mem.cons.1 h1 with h2 | h2
        · have := b3.low _ hr; simp only at h2; omega
        · exact h2

/-- a range behind others, the last one apart: joined to it if it touches it -/
def put (g : Int × Int) : List (Int × Int) → List (Int × Int)
  | [] => [g]
  | l => let z := l.getLast!; if g.1 ≤ z.2 + 1 then l.dropLast ++ [(z.1, max z.2 g.2)] else l ++ [g]

/-- is a number a rune? -/
def Valid (r : Int) : Prop := 0 ≤ r ∧ r ≤ 0x10ffff ∧ (r < 0xd800 ∨ 0xdfff < r)

/-- what a range has of lo .. hi -/
def part (g : Int × Int) (lo hi : Int) : List (Int × Int) := if max g.1 lo ≤ min g.2 hi then [(max g.1 lo, min g.2 hi)] else []
def parts (l : List (Int × Int)) : List (Int × Int) := l.flatMap fun g => part g 0 0xd7ff ++ part g 0xe000 0x10ffff
theorem mem_part {g : Int × Int} {lo hi r : Int} : Mem (part g lo hi) r ↔ (g.1 ≤ r ∧ r ≤ g.2) ∧ lo ≤ r ∧ r ≤ hi := by
  unfold part
  split
  · simp [Mem]; omega
  · constructor
    · intro h; exact absurd h Mem.nil
    · intro h; omega
theorem mem_parts {l : List (Int × Int)} {r : Int} : Mem (parts l) r ↔ Valid r ∧ Mem l r := by
  induction l with
  | nil => simp [parts, Mem]
  | cons g l ih =>
    have : parts (g :: l) = (part g 0 0xd7ff ++ part g 0xe000 0x10ffff) ++ parts l := by simp [parts]
    rw [this, Mem.app, Mem.app, mem_part, mem_part, ih, Mem.cons]
    unfold Valid
    constructor
    · rintro ((h | h) | h) 
      · exact ⟨by omega, .inl h.1⟩
      · exact ⟨by omega, .inl h.1⟩
      · exact ⟨h.1, .inr h.2⟩
    · rintro ⟨h, h1 | h1⟩
      · left; omega
      · exact .inr ⟨h, h1⟩
/-- each range has something -/
def Full (l : List (Int × Int)) : Prop := ∀ g ∈ l, g.1 ≤ g.2
theorem full_parts (l : List (Int × Int)) : Full (parts l) := by
  intro g hg
  obtain ⟨f, _, hf⟩ := List.mem_flatMap.1 hg
  have one : ∀ lo hi, g ∈ part f lo hi → g.1 ≤ g.2 := by
    intro lo hi h
    unfold part at h
    split at h
    · rename_i hc
      have := List.mem_singleton.1 h
      subst this; exact hc
    · cases h
  rcases List.mem_append.1 hf with h | h <;> exact one _ _ h

/-- one pass: the ranges rise by their first runes; 'z' is the last one so far -/
def joinZ (z : Int × Int) : List (Int × Int) → List (Int × Int)
  | [] => [z]
  | g :: l => if g.1 ≤ z.2 + 1 then joinZ (z.1, max z.2 g.2) l else z :: joinZ g l
def join : List (Int × Int) → List (Int × Int)
  | [] => []
  | g :: l => joinZ g l
/-- sorted by first runes, from m on -/
def Srt : Int → List (Int × Int) → Prop
  | _, [] => True
  | m, g :: l => m ≤ g.1 ∧ Srt g.1 l
theorem joinZ_ok : ∀ (l : List (Int × Int)) (z : Int × Int), z.1 ≤ z.2 → Full l → Srt z.1 l → Up z.1 (joinZ z l) ∧ ∀ r, Mem (joinZ z l) r ↔ Mem (z :: l) r := by
  intro l
  induction l with
  | nil => intro z hz _ _; exact ⟨⟨Int.le_refl _, hz, trivial⟩, fun r => Iff.rfl⟩
  | cons g l ih =>
    intro z hz hf hs
    obtain ⟨s1, s2⟩ := hs
    have hg := hf g List.mem_cons_self
    have hf' : Full l := fun x hx => hf x (List.mem_cons_of_mem _ hx)
    unfold joinZ
    split
    · rename_i hc
      have hs' : Srt z.1 l := by
        cases l with
        | nil => trivial
        | cons f l => exact ⟨by have := s2.1; omega, s2.2⟩
      obtain ⟨h1, h2⟩ := ih (z.1, max z.2 g.2) (by simp only; omega) hf' hs'
      refine ⟨h1, fun r => ?_⟩
      rw [h2, Mem.cons, Mem.cons, Mem.cons]
      simp only
      constructor
      · rintro (h | h)
        · omega
        · exact .inr (.inr h)
      · rintro (h | h | h)
        · left; omega
        · left; omega
        · exact .inr h
    · rename_i hc
      obtain ⟨h1, h2⟩ := ih g hg hf' s2
      refine ⟨⟨Int.le_refl _, hz, h1.mono (by omega)⟩, fun r => ?_⟩
      rw [Mem.cons, Mem.cons, h2]
theorem join_ok (l : List (Int × Int)) (m : Int) (hf : Full l) (hs : Srt m l) : Up m (join l) ∧ ∀ r, Mem (join l) r ↔ Mem l r := by
  cases l with
  | nil => exact ⟨trivial, fun r => Iff.rfl⟩
  | cons g l =>
    obtain ⟨h1, h2⟩ := joinZ_ok l g (hf g List.mem_cons_self) (fun x hx => hf x (List.mem_cons_of_mem _ hx)) hs.2
    exact ⟨h1.mono hs.1, h2⟩

/-- what Make answers: rising with gaps, just the runes that are in -/
structure Made (l c : List (Int × Int)) : Prop where
  up : Up 0 c
  mem : ∀ r, Mem c r ↔ Valid r ∧ Mem l r
theorem Made.uniq {l k a b : List (Int × Int)} (ha : Made l a) (hb : Made k b) (h : ∀ r, Valid r → (Mem l r ↔ Mem k r)) : a = b :=
  up_uniq ha.up hb.up fun r => by
    rw [ha.mem, hb.mem]
    constructor
    · rintro ⟨h1, h2⟩; exact ⟨h1, (h r h1).1 h2⟩
    · rintro ⟨h1, h2⟩; exact ⟨h1, (h r h1).2 h2⟩
theorem Srt.low {l : List (Int × Int)} : ∀ {m : Int}, Srt m l → ∀ g ∈ l, m ≤ g.1 := by
  induction l with
  | nil => intro m _ g hg; cases hg
  | cons f l ih =>
    intro m h g hg
    rcases List.mem_cons.1 hg with rfl | hg
    · exact h.1
    · have := ih h.2 g hg; have := h.1; omega
theorem Made.join {l s : List (Int × Int)} (hp : s.Perm (parts l)) (hs : Srt 0 s) : Made l (join s) := by
  have hf : Full s := fun g hg => full_parts l g (hp.mem_iff.1 hg)
  obtain ⟨h1, h2⟩ := join_ok s 0 hf hs
  refine ⟨h1, fun r => ?_⟩
  rw [h2, ← mem_parts]
  constructor <;> rintro ⟨g, hg, hr⟩
  · exact ⟨g, hp.mem_iff.1 hg, hr⟩
  · exact ⟨g, hp.mem_iff.2 hg, hr⟩
theorem Made.bounds {l c : List (Int × Int)} (h : Made l c) {g : Int × Int} (hg : g ∈ c) : Valid g.1 ∧ Valid g.2 ∧ g.1 ≤ g.2 := by
  have hle : ∀ (m : Int) (c : List (Int × Int)), Up m c → ∀ g ∈ c, g.1 ≤ g.2 := by
    intro m c
    induction c generalizing m with
    | nil => intro _ g hg; cases hg
    | cons f c ih =>
      intro hu g hg
      rcases List.mem_cons.1 hg with rfl | hg
      · exact hu.2.1
      · exact ih _ hu.2.2 g hg
  have := hle _ _ h.up g hg
  exact ⟨((h.mem _).1 ⟨g, hg, Int.le_refl _, this⟩).1, ((h.mem _).1 ⟨g, hg, this, Int.le_refl _⟩).1, this⟩

/-- the gaps ahead of ranges, and behind them up to the top -/
def gaps : Int → List (Int × Int) → List (Int × Int)
  | n, [] => [(n, 0x10ffff)]
  | n, g :: l => (n, g.1 - 1) :: gaps (g.2 + 1) l
theorem mem_gaps : ∀ (c : List (Int × Int)) (n : Int), Up n c → (∀ g ∈ c, g.2 ≤ 0x10ffff) → ∀ r, Mem (gaps n c) r ↔ (n ≤ r ∧ r ≤ 0x10ffff) ∧ ¬ Mem c r := by
  intro c
  induction c with
  | nil => intro n _ _ r; simp [gaps, Mem]
  | cons g c ih =>
    intro n h hb r
    obtain ⟨h1, h2, h3⟩ := h
    have hg := hb g List.mem_cons_self
    have h4 := ih (g.2 + 1) (h3.mono (by omega)) (fun f hf => hb f (List.mem_cons_of_mem _ hf)) r
    have h5 := h3.low r
    unfold gaps
    rw [Mem.cons, h4, Mem.cons]
    simp only
    constructor
    · rintro (h | ⟨h, h6⟩)
      · exact ⟨by omega, by rintro (h7 | h7); · omega
                            · have := h5 h7; omega⟩
      · exact ⟨by omega, by rintro (h7 | h7); · omega
                            · exact h6 h7⟩
    · rintro ⟨h, h6⟩
      rcases Int.lt_or_le r g.1 with h7 | h7
      · left; omega
      · right
        refine ⟨⟨?_, h.2⟩, fun h8 => h6 (.inr h8)⟩
        rcases Int.lt_or_le g.2 r with h8 | h8
        · omega
        · exact absurd (.inl ⟨h7, h8⟩) h6
theorem Made.not {l c d : List (Int × Int)} (h : Made l c) (hd : Made (gaps 0 c) d) : Up 0 d ∧ ∀ r, Mem d r ↔ Valid r ∧ ¬ Mem l r := by
  refine ⟨hd.up, fun r => ?_⟩
  rw [hd.mem, mem_gaps c 0 h.up (fun g hg => (h.bounds hg).2.1.2.1), h.mem]
  unfold Valid
  constructor
  · rintro ⟨h1, h2, h3⟩; exact ⟨h1, fun h4 => h3 ⟨h1, h4⟩⟩
  · rintro ⟨h1, h2⟩; exact ⟨h1, by omega, fun h4 => h2 h4.2⟩

/-- how many runes are in -/
def cnt : List (Int × Int) → Int
  | [] => 0
  | g :: l => g.2 - g.1 + 1 + cnt l
open Classical in
noncomputable def num (P : Int → Prop) : Nat → Int
  | 0 => 0
  | n + 1 => num P n + if P n then 1 else 0
theorem num_congr {P R : Int → Prop} (h : ∀ r, P r ↔ R r) (n : Nat) : num P n = num R n := by
  have : P = R := funext fun r => propext (h r)
  rw [this]
theorem num_none {P : Int → Prop} (n : Nat) (h : ∀ r : Int, 0 ≤ r → r < n → ¬ P r) : num P n = 0 := by
  induction n with
  | zero => rfl
  | succ n ih =>
    unfold num
    rw [ih (fun r h0 h1 => h r h0 (by omega)), if_neg (h n (by omega) (by omega))]; rfl
theorem num_or {P R : Int → Prop} (h : ∀ r, ¬ (P r ∧ R r)) (n : Nat) : num (fun r => P r ∨ R r) n = num P n + num R n := by
  induction n with
  | zero => rfl
  | succ n ih =>
    unfold num
    rw [ih]
    have := h n
    by_cases hp : P n <;> by_cases hr : R n
    · exact absurd ⟨hp, hr⟩ this
    all_goals (simp only [hp, hr, or_true, or_false, if_true, if_false]; omega)
theorem num_range (a b : Int) (h0 : 0 ≤ a) (hab : a ≤ b + 1) (n : Nat) : num (fun r => a ≤ r ∧ r ≤ b) n = min (n : Int) (b + 1) - min (n : Int) a := by
  induction n with
  | zero => unfold num; omega
  | succ n ih =>
    unfold num
    rw [ih]
    split <;> omega
theorem num_up (n : Nat) : ∀ (c : List (Int × Int)) (m : Int), 0 ≤ m → Up m c → (∀ g ∈ c, g.2 < n) → num (Mem c) n = cnt c := by
  intro c
  induction c with
  | nil => intro m _ _ _; exact num_none n fun r _ _ h => Mem.nil h
  | cons g c ih =>
    intro m hm h hb
    obtain ⟨h1, h2, h3⟩ := h
    have hg := hb g List.mem_cons_self
    have e : num (Mem (g :: c)) n = num (fun r => (g.1 ≤ r ∧ r ≤ g.2) ∨ Mem c r) n := num_congr (fun r => Mem.cons) n
    rw [e, num_or (fun r hr => by have := h3.low r hr.2; omega) n, ih (g.2 + 2) (by omega) h3 (fun f hf => hb f (List.mem_cons_of_mem _ hf)), num_range _ _ (by omega) (by omega)]
    show _ = g.2 - g.1 + 1 + cnt c
    omega
theorem made_all : Made [(0, 0x10ffff)] [(0, 0xd7ff), (0xe000, 0x10ffff)] := by
  refine ⟨by simp [Up], fun r => ?_⟩
  rw [Mem.cons, Mem.cons, Mem.cons]
  unfold Valid
  simp only [Mem]
  constructor
  · rintro (h | h | ⟨g, hg, _⟩)
    · omega
    · omega
    · cases hg
  · rintro ⟨h, h1⟩
    omega
theorem cnt_both {l c d : List (Int × Int)} (h : Made l c) (hd : Made (gaps 0 c) d) : cnt c + cnt d = 0x110000 - 0x800 := by
  obtain ⟨u, hm⟩ := h.not hd
  have h1 := num_up 0x110000 c 0 (by omega) h.up (fun g hg => by have := (h.bounds hg).2.1.2.1; omega)
  have h2 := num_up 0x110000 d 0 (by omega) hd.up (fun g hg => by have := (hd.bounds hg).2.1.2.1; omega)
  have h3 := num_up 0x110000 _ 0 (by omega) made_all.up (fun g hg => by have := (made_all.bounds hg).2.1.2.1; omega)
  have h4 := num_or (P := Mem c) (R := Mem d) (fun r hr => ((hm r).1 hr.2).2 ((h.mem r).1 hr.1).2) 0x110000
  have h5 : num (fun r => Mem c r ∨ Mem d r) 0x110000 = num (Mem [(0, 0xd7ff), (0xe000, 0x10ffff)]) 0x110000 := num_congr (fun r => by
    rw [made_all.mem, h.mem, hm]
    constructor
    · rintro (h | h) <;> exact ⟨h.1, (0, 0x10ffff), List.mem_singleton.2 rfl, h.1.1, h.1.2.1⟩
    · rintro ⟨hv, _⟩
      by_cases hl : Mem l r
      · exact .inl ⟨hv, hl⟩
      · exact .inr ⟨hv, hl⟩) _
  rw [← h1, ← h2, ← h4, h5, h3]
  decide
theorem Up.snoc {g : Int × Int} : ∀ {l : List (Int × Int)} {m : Int}, Up m l → (∀ f ∈ l, f.2 + 2 ≤ g.1) → m ≤ g.1 → g.1 ≤ g.2 → Up m (l ++ [g]) := by
  intro l
  induction l with
  | nil => intro m _ _ h1 h2; exact ⟨h1, h2, trivial⟩
  | cons f l ih => intro m h hf h1 h2; exact ⟨h.1, h.2.1, ih h.2.2 (fun x hx => hf x (List.mem_cons_of_mem _ hx)) (hf f List.mem_cons_self) h2⟩
theorem Up.unsnoc {g : Int × Int} : ∀ {l : List (Int × Int)} {m : Int}, Up m (l ++ [g]) → Up m l ∧ (∀ f ∈ l, f.2 + 2 ≤ g.1) ∧ m ≤ g.1 ∧ g.1 ≤ g.2 := by
  intro l
  induction l with
  | nil => intro m h; exact ⟨trivial, (fun f hf => by cases hf), h.1, h.2.1⟩
  | cons f l ih =>
    intro m h
    obtain ⟨h1, h2, h3⟩ := h
    obtain ⟨k1, k2, k3, k4⟩ := ih h3
    refine ⟨⟨h1, h2, k1⟩, fun x hx => ?_, by omega, k4⟩
    rcases List.mem_cons.1 hx with rfl | hx
    · omega
    · exact k2 x hx
/-- a range behind others, joined to the last one, if it touches it -/
def piece (l : List (Int × Int)) (lo hi : Int) : List (Int × Int) :=
  match l.getLast? with
  | none => l ++ [(lo, hi)]
  | some z => if z.2 + 1 = lo then l.dropLast ++ [(z.1, hi)] else l ++ [(lo, hi)]
theorem piece_nil (lo hi : Int) : piece [] lo hi = [(lo, hi)] := rfl
theorem piece_snoc (l : List (Int × Int)) (z : Int × Int) (lo hi : Int) : piece (l ++ [z]) lo hi = if z.2 + 1 = lo then l ++ [(z.1, hi)] else (l ++ [z]) ++ [(lo, hi)] := by
  unfold piece; simp
structure Acc (Q : Int → Prop) (b : Int) (acc : List (Int × Int)) : Prop where
  up : Up 0 acc
  mem : ∀ r, Mem acc r ↔ (0 ≤ r ∧ r < b) ∧ Q r
theorem Acc.no {Q : Int → Prop} {a b : Int} {acc : List (Int × Int)} (h : Acc Q a acc) (hab : a ≤ b) (hq : ∀ r, a ≤ r → r < b → ¬ Q r) : Acc Q b acc := by
  refine ⟨h.up, fun r => ?_⟩
  rw [h.mem]
  constructor
  · rintro ⟨h1, h2⟩; exact ⟨by omega, h2⟩
  · rintro ⟨h1, h2⟩
    rcases Int.lt_or_le r a with h3 | h3
    · exact ⟨⟨h1.1, h3⟩, h2⟩
    · exact absurd h2 (hq r h3 h1.2)
theorem Acc.yes {Q : Int → Prop} {a b : Int} {acc : List (Int × Int)} (h : Acc Q a acc) (h0 : 0 ≤ a) (hab : a < b) (hq : ∀ r, a ≤ r → r < b → Q r) : Acc Q b (piece acc a (b - 1)) := by
  have key : ∀ l, Up 0 l → (∀ r, Mem l r ↔ Mem acc r ∨ (a ≤ r ∧ r ≤ b - 1)) → Acc Q b l := by
    intro l hl hm
    refine ⟨hl, fun r => ?_⟩
    rw [hm, h.mem]
    constructor
    · rintro (⟨h1, h2⟩ | h1)
      · exact ⟨by omega, h2⟩
      · exact ⟨by omega, hq r h1.1 (by omega)⟩
    · rintro ⟨h1, h2⟩
      rcases Int.lt_or_le r a with h3 | h3
      · exact .inl ⟨⟨h1.1, h3⟩, h2⟩
      · exact .inr ⟨h3, by omega⟩
  rcases List.eq_nil_or_concat acc with rfl | ⟨l, z, rfl⟩
  · rw [piece_nil]
    exact key _ ⟨h0, by simp only; omega, trivial⟩ fun r => by rw [Mem.cons]; simp [Mem]
  · rw [List.concat_eq_append] at *
    have hu := h.up
    obtain ⟨u1, u2, u3, u4⟩ := hu.unsnoc
    have hz := ((h.mem z.2).1 ⟨z, by simp, u4, Int.le_refl _⟩).1
    rw [piece_snoc]
    split
    · rename_i he
      refine key _ (u1.snoc u2 u3 (by simp only; omega)) fun r => ?_
      rw [Mem.app, Mem.app, Mem.cons, Mem.cons]
      simp only
      constructor
      · rintro (h1 | h1 | h1)
        · exact .inl (.inl h1)
        · rcases Int.lt_or_le r a with h3 | h3
          · exact .inl (.inr (.inl (by omega)))
          · exact .inr (by omega)
        · exact absurd h1 Mem.nil
      · rintro ((h1 | h1 | h1) | h1)
        · exact .inl h1
        · exact .inr (.inl (by omega))
        · exact absurd h1 Mem.nil
        · exact .inr (.inl (by omega))
    · rename_i he
      refine key _ (hu.snoc (fun f hf => ?_) h0 (by simp only; omega)) fun r => ?_
      · rcases List.mem_append.1 hf with h1 | h1
        · have := u2 f h1; simp only; omega
        · have := List.mem_singleton.1 h1; subst this; simp only; omega
      · rw [Mem.app, Mem.cons]
        simp [Mem]
/-- a property that turns at marks alone is the same between two of them -/
theorem between {Q : Int → Prop} {M : List Int} (hq : ∀ r, 0 ≤ r → (Q r ↔ Q (r + 1)) ∨ r + 1 ∈ M) {a b : Int} (h0 : 0 ≤ a) (hn : ∀ x ∈ M, x ≤ a ∨ b ≤ x) : ∀ r, a ≤ r → r < b → (Q r ↔ Q a) := by
  intro r hr hb
  obtain ⟨k, rfl⟩ : ∃ k : Nat, r = a + k := ⟨(r - a).toNat, by omega⟩
  clear hr
  induction k with
  | zero => simp
  | succ k ih =>
    have h1 := ih (by omega)
    have h2 : a + ((k + 1 : Nat) : Int) = a + (k : Int) + 1 := by omega
    rw [h2] at hb ⊢
    rcases hq (a + k) (by omega) with h3 | h3
    · exact h3.symm.trans h1
    · rcases hn _ h3 with h4 | h4 <;> omega
def mark (g : Int × Int) : List Int := (if g.1 ≤ g.2 ∧ 0 ≤ g.1 ∧ g.1 ≤ 0x10ffff then [g.1] else []) ++ (if g.1 ≤ g.2 ∧ 0 ≤ g.2 ∧ g.2 < 0x10ffff then [g.2 + 1] else [])
def marks (l : List (Int × Int)) : List Int := [0, 0xd800, 0xe000, 0x110000] ++ l.flatMap mark
theorem marks_in {l : List (Int × Int)} {x : Int} (h : x ∈ marks l) : 0 ≤ x ∧ x ≤ 0x110000 := by
  rcases List.mem_append.1 h with h | h
  · simp at h; omega
  · obtain ⟨g, _, hg⟩ := List.mem_flatMap.1 h
    unfold mark at hg
    rcases List.mem_append.1 hg with h1 | h1 <;> (split at h1 <;> simp at h1; omega)
theorem turns (l : List (Int × Int)) (r : Int) (h0 : 0 ≤ r) : ((Valid r ∧ Mem l r ↔ Valid (r + 1) ∧ Mem l (r + 1)) ∧ (Valid r ∧ ¬ Mem l r ↔ Valid (r + 1) ∧ ¬ Mem l (r + 1))) ∨ r + 1 ∈ marks l := by
  by_cases hm : r + 1 ∈ marks l
  · exact .inr hm
  · left
    have hs : ∀ x, x ∈ [0, 0xd800, 0xe000, (0x110000 : Int)] → r + 1 ≠ x := fun x hx e => hm (List.mem_append_left _ (e ▸ hx))
    have h1 := hs 0xd800 (by simp)
    have h2 := hs 0xe000 (by simp)
    have h3 := hs 0x110000 (by simp)
    have hv : Valid r ↔ Valid (r + 1) := by unfold Valid; omega
    have hg : ∀ g ∈ l, Valid r → ((g.1 ≤ r ∧ r ≤ g.2) ↔ (g.1 ≤ r + 1 ∧ r + 1 ≤ g.2)) := by
      intro g hg hva
      have hk : r + 1 ∉ mark g := fun h => hm (List.mem_append_right _ (List.mem_flatMap.2 ⟨g, hg, h⟩))
      unfold mark at hk
      rw [List.mem_append, not_or] at hk
      obtain ⟨k1, k2⟩ := hk
      unfold Valid at hva
      constructor
      · intro h
        refine ⟨by omega, ?_⟩
        rcases Int.lt_or_le r g.2 with h4 | h4
        · omega
        · have e : g.2 = r := by omega
          rw [if_pos (by omega)] at k2
          exact absurd (List.mem_singleton.2 (by omega)) k2
      · intro h
        refine ⟨?_, by omega⟩
        rcases Int.lt_or_le r g.1 with h4 | h4
        · have e : g.1 = r + 1 := by omega
          rw [if_pos (by omega)] at k1
          exact absurd (List.mem_singleton.2 (by omega)) k1
        · exact h4
    have hl : Valid r → (Mem l r ↔ Mem l (r + 1)) := fun hva => by
      constructor <;> rintro ⟨g, h, hr⟩
      · exact ⟨g, h, (hg g h hva).1 hr⟩
      · exact ⟨g, h, (hg g h hva).2 hr⟩
    constructor
    · constructor
      · rintro ⟨a, b⟩; exact ⟨hv.1 a, (hl a).1 b⟩
      · rintro ⟨a, b⟩; exact ⟨hv.2 a, (hl (hv.2 a)).2 b⟩
    · constructor
      · rintro ⟨a, b⟩; exact ⟨hv.1 a, fun c => b ((hl a).2 c)⟩
      · rintro ⟨a, b⟩; exact ⟨hv.2 a, fun c => b ((hl (hv.2 a)).1 c)⟩
end Go.Cls
