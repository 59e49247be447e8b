/-
  Ranges of runes: the one answer, computed; is a list right; what rises. Nothing of the program stands in it.
-/
import Derived.Test.YtepmnhlfjidhjabClassM
namespace Go.Cls

/-- a range put where it belongs, by first runes -/
def ins (g : Int × Int) : List (Int × Int) → List (Int × Int)
  | [] => [g]
  | f :: l => if g.1 ≤ f.1 then g :: f :: l else f :: ins g l
def srt (l : List (Int × Int)) : List (Int × Int) := l.foldr ins []
theorem ins_perm (g : Int × Int) (l : List (Int × Int)) : (ins g l).Perm (g :: l) := by
  induction l with
  | nil => exact List.Perm.refl _
  | cons f l ih =>
    unfold ins
    split
    · exact List.Perm.refl _
    · exact (List.Perm.cons f ih).trans (List.Perm.swap g f l)
theorem ins_srt {g : Int × Int} : ∀ {l : List (Int × Int)} {m : Int}, Srt m l → m ≤ g.1 → Srt m (ins g l) := by
  intro l
  induction l with
  | nil => intro m _ h; exact ⟨h, trivial⟩
  | cons f l ih =>
    intro m h hg
    unfold ins
    split
    · rename_i h1; exact ⟨hg, h1, h.2⟩
    · rename_i h1; exact ⟨h.1, ih h.2 (by omega)⟩
theorem srt_ok (l : List (Int × Int)) (m : Int) (h : ∀ g ∈ l, m ≤ g.1) : Srt m (srt l) ∧ (srt l).Perm l := by
  induction l with
  | nil => exact ⟨trivial, List.Perm.refl _⟩
  | cons f l ih =>
    obtain ⟨h1, h2⟩ := ih (fun g hg => h g (List.mem_cons_of_mem _ hg))
    exact ⟨ins_srt h1 (h f List.mem_cons_self), (ins_perm f _).trans (List.Perm.cons f h2)⟩
theorem parts_low {l : List (Int × Int)} {g : Int × Int} (h : g ∈ parts l) : 0 ≤ g.1 := by
  obtain ⟨f, _, hf⟩ := List.mem_flatMap.1 h
  rcases List.mem_append.1 hf with h | h
  all_goals
    unfold part at h
    split at h
    · obtain rfl := List.mem_singleton.1 h
      simp only
      omega
    · cases h
/-- what Make answers -/
def mkR (l : List (Int × Int)) : List (Int × Int) := join (srt (parts l))
theorem made_mk (l : List (Int × Int)) : Made l (mkR l) := Made.join (srt_ok _ 0 (fun _ hg => parts_low hg)).2 (srt_ok _ 0 (fun _ hg => parts_low hg)).1
theorem Made.eq {l c : List (Int × Int)} (h : Made l c) : c = mkR l := h.uniq (made_mk l) fun _ _ => Iff.rfl

/-- is a range of runes alone, and not empty? -/
def okR (g : Int × Int) : Bool := decide (((0 ≤ g.1 ∧ g.2 ≤ 55295) ∨ (57344 ≤ g.1 ∧ g.2 ≤ 1114111)) ∧ g.1 ≤ g.2)
def rightZ : Int → List (Int × Int) → Bool
  | _, [] => true
  | m, g :: l => okR g && (decide (m ≤ g.1) && rightZ (g.2 + 2) l)
theorem rightZ_iff : ∀ (l : List (Int × Int)) (m : Int), rightZ m l = true ↔ Up m l ∧ ∀ g ∈ l, okR g = true := by
  intro l
  induction l with
  | nil => intro m; simp [rightZ, Up]
  | cons g l ih =>
    intro m
    unfold rightZ
    rw [Bool.and_eq_true, Bool.and_eq_true, ih, decide_eq_true_iff]
    constructor
    · rintro ⟨h1, h2, h3, h4⟩
      refine ⟨⟨h2, ?_, h3⟩, fun f hf => ?_⟩
      · unfold okR at h1; rw [decide_eq_true_iff] at h1; exact h1.2
      · rcases List.mem_cons.1 hf with rfl | hf
        · exact h1
        · exact h4 f hf
    · rintro ⟨⟨h1, h2, h3⟩, h4⟩
      exact ⟨h4 g List.mem_cons_self, h1, h3, fun f hf => h4 f (List.mem_cons_of_mem _ hf)⟩
theorem okR_valid {g : Int × Int} (h : okR g = true) {r : Int} (h1 : g.1 ≤ r) (h2 : r ≤ g.2) : Valid r := by
  unfold okR at h
  rw [decide_eq_true_iff] at h
  unfold Valid
  omega
/-- what is made has no range across the gap -/
theorem Made.ok {l c : List (Int × Int)} (h : Made l c) {g : Int × Int} (hg : g ∈ c) : okR g = true := by
  obtain ⟨h1, h2, h3⟩ := h.bounds hg
  unfold okR
  rw [decide_eq_true_iff]
  refine ⟨?_, h3⟩
  rcases Int.lt_or_le g.1 55296 with h4 | h4
  · rcases Int.lt_or_le 57343 g.2 with h5 | h5
    · have h6 := ((h.mem 55296).1 ⟨g, hg, by omega, by omega⟩).1
      unfold Valid at h6
      omega
    · unfold Valid at h1 h2
      omega
  · unfold Valid at h1 h2
    omega
theorem Made.right {l c : List (Int × Int)} (h : Made l c) : rightZ 0 c = true := (rightZ_iff c 0).2 ⟨h.up, fun _ hg => h.ok hg⟩
theorem right_made {l : List (Int × Int)} (h : rightZ 0 l = true) : Made l l := by
  obtain ⟨h1, h2⟩ := (rightZ_iff l 0).1 h
  refine ⟨h1, fun r => ⟨fun hr => ⟨?_, hr⟩, fun hr => hr.2⟩⟩
  obtain ⟨g, hg, h3, h4⟩ := hr
  exact okR_valid (h2 g hg) h3 h4
theorem right_mk (l : List (Int × Int)) : rightZ 0 l = decide (mkR l = l) := by
  by_cases h : mkR l = l
  · rw [decide_eq_true h]
    have := (made_mk l).right
    rw [h] at this
    exact this
  · rw [decide_eq_false h]
    cases h1 : rightZ 0 l with
    | false => rfl
    | true => exact absurd (right_made h1).eq.symm h
/-- a list that rises: the next range lies behind the last one's end and one more -/
theorem Up.next : ∀ {l : List (Int × Int)} {m : Int}, Up m l → ∀ {k : Nat} {p g : Int × Int}, l[k]? = some p → l[k + 1]? = some g → p.2 + 1 < g.1 := by
  intro l
  induction l with
  | nil => intro m _ k p g h; simp at h
  | cons f l ih =>
    intro m h k p g h1 h2
    cases k with
    | zero =>
      simp at h1
      subst h1
      cases l with
      | nil => simp at h2
      | cons q l =>
        simp at h2
        subst h2
        have := h.2.2.1
        omega
    | succ k =>
      exact ih h.2.2 (by simpa using h1) (by simpa using h2)
/-- turned round twice is what is made -/
theorem Made.twice {l c d e f : List (Int × Int)} (h1 : Made l c) (h2 : Made (gaps 0 c) d) (h3 : Made d e) (h4 : Made (gaps 0 e) f) : f = c := by
  obtain ⟨u2, m2⟩ := h1.not h2
  obtain ⟨u4, m4⟩ := h3.not h4
  refine up_uniq u4 h1.up fun r => ?_
  rw [m4, m2, h1.mem]
  constructor
  · rintro ⟨h, h5⟩
    refine ⟨h, ?_⟩
    by_cases h6 : Mem l r
    · exact h6
    · exact absurd ⟨h, h6⟩ h5
  · rintro ⟨h, h5⟩
    exact ⟨h, fun h6 => h6.2 h5⟩
/-- what Not answers -/
def nt (l : List (Int × Int)) : List (Int × Int) := mkR (gaps 0 (mkR l))
theorem nt_of {l c d : List (Int × Int)} (h1 : Made l c) (h2 : Made (gaps 0 c) d) : d = nt l := by rw [h2.eq, h1.eq]; rfl
theorem nt_up (l : List (Int × Int)) : Up 0 (nt l) := (made_mk _).up
theorem nt_mem (l : List (Int × Int)) (r : Int) : Mem (nt l) r ↔ Valid r ∧ ¬ Mem l r := ((made_mk l).not (made_mk _)).2 r
theorem nt_made (l : List (Int × Int)) : Made (gaps 0 (mkR l)) (nt l) := made_mk _
theorem mk_up (l : List (Int × Int)) : Up 0 (mkR l) := (made_mk _).up
theorem mk_mem (l : List (Int × Int)) (r : Int) : Mem (mkR l) r ↔ Valid r ∧ Mem l r := (made_mk l).mem r
theorem mk_mk (l : List (Int × Int)) : mkR (mkR l) = mkR l := up_uniq (mk_up _) (mk_up _) fun r => by rw [mk_mem, mk_mem]; exact ⟨fun h => h.2, fun h => ⟨h.1, h⟩⟩
theorem nt_nt (l : List (Int × Int)) : nt (nt l) = mkR l := up_uniq (nt_up _) (mk_up _) fun r => by
  rw [nt_mem, nt_mem, mk_mem]
  constructor
  · rintro ⟨h, h1⟩
    exact ⟨h, Classical.byContradiction fun h2 => h1 ⟨h, h2⟩⟩
  · rintro ⟨h, h1⟩
    exact ⟨h, fun h2 => h2.2 h1⟩
/-- what Both answers -/
def bt (a b : List (Int × Int)) : List (Int × Int) := nt (nt a ++ nt b)
theorem bt_mem (a b : List (Int × Int)) (r : Int) : Mem (bt a b) r ↔ Valid r ∧ Mem a r ∧ Mem b r := by
  unfold bt
  rw [nt_mem, Mem.app, nt_mem, nt_mem]
  constructor
  · rintro ⟨h, h1⟩
    refine ⟨h, ?_, ?_⟩
    · exact Classical.byContradiction fun h2 => h1 (.inl ⟨h, h2⟩)
    · exact Classical.byContradiction fun h2 => h1 (.inr ⟨h, h2⟩)
  · rintro ⟨h, h1, h2⟩
    refine ⟨h, ?_⟩
    rintro (h3 | h3)
    · exact h3.2 h1
    · exact h3.2 h2
theorem bt_comm (a b : List (Int × Int)) : bt b a = bt a b := up_uniq (nt_up _) (nt_up _) fun r => by
  show Mem (bt b a) r ↔ Mem (bt a b) r
  rw [bt_mem, bt_mem]
  constructor <;> rintro ⟨h, h1, h2⟩ <;> exact ⟨h, h2, h1⟩
theorem bt_not (l : List (Int × Int)) : bt (mkR l) (nt l) = [] := by
  have h : ∀ r, ¬ Mem (bt (mkR l) (nt l)) r := fun r h => by
    rw [bt_mem, mk_mem, nt_mem] at h
    exact h.2.2.2 h.2.1.2
  cases e : bt (mkR l) (nt l) with
  | nil => rfl
  | cons g t =>
    have hu : Up 0 (bt (mkR l) (nt l)) := nt_up _
    rw [e] at hu
    exact absurd (by rw [e]; exact Mem.cons.2 (.inl ⟨Int.le_refl _, hu.2.1⟩)) (h g.1)
theorem mk_all (l : List (Int × Int)) : mkR (mkR l ++ nt l) = [(0, 0xd7ff), (0xe000, 0x10ffff)] := up_uniq (mk_up _) made_all.up fun r => by
  rw [mk_mem, Mem.app, mk_mem, nt_mem, made_all.mem]
  constructor
  · rintro ⟨h, _⟩
    refine ⟨h, (0, 0x10ffff), List.mem_singleton.2 rfl, ?_, ?_⟩
    · exact h.1
    · exact h.2.1
  · rintro ⟨h, _⟩
    refine ⟨h, ?_⟩
    by_cases h1 : Mem l r
    · exact .inl ⟨h, h1⟩
    · exact .inr ⟨h, h1⟩
theorem cnt_all (l : List (Int × Int)) : cnt (mkR l) + cnt (nt l) = 0x110000 - 0x800 := cnt_both (made_mk l) (made_mk _)
/-- just ahead of, and just behind, a range of a list that rises with gaps nothing is in -/
theorem Up.ends {l : List (Int × Int)} : ∀ {m : Int}, Up m l → ∀ g ∈ l, ¬ Mem l (g.1 - 1) ∧ ¬ Mem l (g.2 + 1) := by
  induction l with
  | nil => intro m _ g hg; cases hg
  | cons f l ih =>
    intro m h g hg
    obtain ⟨h1, h2, h3⟩ := h
    rcases List.mem_cons.1 hg with rfl | hg
    · constructor
      · intro h4
        rcases Mem.cons.1 h4 with h5 | h5
        · omega
        · have := h3.low _ h5; omega
      · intro h4
        rcases Mem.cons.1 h4 with h5 | h5
        · omega
        · have := h3.low _ h5; omega
    · obtain ⟨k1, k2⟩ := ih h3 g hg
      have hlo := h3.low g.1
      have hle : g.1 ≤ g.2 := by
        have : ∀ (l : List (Int × Int)) (m : Int), Up m l → ∀ g ∈ l, g.1 ≤ g.2 := by
          intro l
          induction l with
          | nil => intro m _ g hg; cases hg
          | cons q l ih2 =>
            intro m hu g hg
            rcases List.mem_cons.1 hg with rfl | hg
            · exact hu.2.1
            · exact ih2 _ hu.2.2 g hg
        exact this l _ h3 g hg
      have := hlo ⟨g, hg, Int.le_refl _, hle⟩
      constructor
      · intro h4
        rcases Mem.cons.1 h4 with h5 | h5
        · omega
        · exact k1 h5
      · intro h4
        rcases Mem.cons.1 h4 with h5 | h5
        · omega
        · exact k2 h5
end Go.Cls
