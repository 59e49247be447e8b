/-
  The contracts of spoorlaw5.find and spoorlaw5.step.
-/
import Derived.Test.YtepfmmphajdlfaaSparseFresh
import Derived.Deep.AppendLies
namespace Go.Proofs.Ytepfmmphajdlfaa
open Go.RowKit Go.Mem

/-- what find answers -/
def Fnd (xs : List (Nat × Int)) (i v : Int) : Prop := (v = -1 ∧ ∀ r ∈ xs, (r.1 : Int) ≠ i) ∨ ∃ (k : Nat) (r : Nat × Int), v = (k : Int) ∧ xs[k]? = some r ∧ (r.1 : Int) = i ∧ ∀ (k' : Nat) (r' : Nat × Int), k' < k → xs[k']? = some r' → (r'.1 : Int) ≠ i
def FndEnds (w : World) (xs : List (Nat × Int)) (i : Int) (e : Ending) (w' : World) : Prop := ∃ v, e = .returned (.int .i64 v) ∧ Fnd xs i v ∧ w = w'
theorem fnd_no {xs : List (Nat × Int)} {i : Int} (h : ∀ r ∈ xs, (r.1 : Int) ≠ i) : membI xs i = false ∧ getI xs i = 0 := by
  refine ⟨?_, ?_⟩
  · rw [membI, List.any_eq_false]
    intro r hr e
    exact h r hr (beq_iff_eq.1 e)
  · unfold getI
    rw [List.find?_eq_none.2 (fun r hr e => h r hr (beq_iff_eq.1 e))]
theorem fnd_yes {xs : List (Nat × Int)} {i : Int} : ∀ (k : Nat) (r : Nat × Int), xs[k]? = some r → (r.1 : Int) = i → (∀ (k' : Nat) (r' : Nat × Int), k' < k → xs[k']? = some r' → (r'.1 : Int) ≠ i) → membI xs i = true ∧ getI xs i = r.2 := by
  induction xs with
  | nil => intro k r h; simp at h
  | cons x t ih =>
    intro k r h1 h2 h3
    cases k with
    | zero =>
      simp at h1
      subst h1
      exact ⟨by simp [membI, h2], by simp [getI, h2]⟩
    | succ k =>
      have hx : (x.1 : Int) ≠ i := h3 0 x (by omega) rfl
      obtain ⟨a, b⟩ := ih k r (by simpa using h1) h2 (fun k' r' hk hr => h3 (k' + 1) r' (by omega) (by simpa using hr))
      exact ⟨by simp [membI] at a ⊢; exact .inr a, by unfold getI at b ⊢; rw [List.find?_cons_of_neg (by simpa using hx)]; exact b⟩

set_option maxHeartbeats 800000 in
theorem find_calls (B : Nat) (L : Option Addr) (n c : Nat) (xs : List (Nat × Int)) (i : Int) (w : World) (hl : xs.length = n) (hn : n ≤ 4096) (h : OwnB w B 140 2 L n c (flatI xs)) :
    Calls Try.prog 94 #[.slice L n c, .int .i64 i] w (FndEnds w xs i) := by
  subst hl
  have hsl := h.sl
  clear h
  go_enter Try.func94, Try.ntmps94
  go_wp2_with fail
  go_loopw [5] (fun k wr => ∃ (j : Nat), j ≤ xs.length ∧ k = .int .i64 j ∧ Hid (∀ (k' : Nat) (r' : Nat × Int), k' < j → xs[k']? = some r' → (r'.1 : Int) ≠ i) ∧ wr = w) (fun k _ => xs.length - (intOf k).toNat)
  case atStart => exact ⟨0, Nat.zero_le _, rfl, (show ∀ _, _ from fun k' r' hk => absurd hk (Nat.not_lt_zero _)), rfl⟩
  case round =>
    obtain ⟨j, hj, rfl, HN, hw⟩ := hrel
    subst hw
    by_cases hlt : j < xs.length
    · obtain ⟨r, hr⟩ : ∃ r, xs[j]? = some r := ⟨_, List.getElem?_eq_getElem hlt⟩
      obtain ⟨b, o, rfl, hca⟩ := hsl _ _ (flatI_at xs j r hr).1
      have j0 : (0 : Int) ≤ (j : Int) := Int.natCast_nonneg _
      by_cases he : (r.1 : Int) = i
      · have HF : Hid (Fnd xs i (j : Int)) := (show Fnd _ _ _ from .inr ⟨j, r, rfl, hr, he, HN.out⟩)
        have hb : ((r.1 : Int) == i) = true := beq_iff_eq.2 he
        clear he hr
        go_wp2_with fail
        go_ret
        exact ⟨_, rfl, HF.out, rfl⟩
      · have hb : ((r.1 : Int) == i) = false := beq_eq_false_iff_ne.2 he
        have HN2 : Hid (∀ (k' : Nat) (r' : Nat × Int), k' < j + 1 → xs[k']? = some r' → (r'.1 : Int) ≠ i) := (show ∀ _, _ from fun k' r' hk hr' => by
          rcases Nat.lt_or_ge k' j with h1 | h1
          · exact HN.out k' r' h1 hr'
          · obtain rfl : k' = j := by omega
            rw [hr] at hr'
            injection hr' with e
            rw [← e]; exact he)
        clear he hr
        go_wp2_with fail
        go_roundw
        case rel => exact ⟨j + 1, by omega, by go_num, HN2, trivial⟩
        case measure => simp [intOf]; omega
    · obtain rfl : j = xs.length := by omega
      have HF : Hid (Fnd xs i (-1)) := (show Fnd _ _ _ from .inl ⟨rfl, fun r hr e => by
        obtain ⟨k2, hk2⟩ := List.mem_iff_getElem?.1 hr
        exact HN.out k2 r (List.getElem?_eq_some_iff.1 hk2).1 hk2 e⟩)
      go_wp2_with fail
      go_ret
      exact ⟨_, rfl, HF.out, rfl⟩
end Go.Proofs.Ytepfmmphajdlfaa
