/-
  What the laws of class share: the first forty ranges; the contracts where a list is the call's own.
-/
import Derived.Test.YtepmnhlfjidhjabClassRuns
import Derived.Test.YtepmnhlfjidhjabClassOpen
namespace Go.Proofs.Ytepmnhlfjidhjab
open Go.RowKit Go.Mem

theorem few_part {w : World} {A : Option Addr} {n : Nat} {l : List (Int × Int)} (hl : l.length = n) (hi : In32 l) (hs : Sl w A (flatR l)) : ∃ (x : List (Int × Int)) (p : Nat), min n 40 = p ∧ p ≤ 40 ∧ x.length = p ∧ In32 x ∧ Sl w A (flatR x) :=
  ⟨l.take 40, min n 40, rfl, by omega, by rw [List.length_take, hl, Nat.min_comm], few_in hi 40, few_sl hs 40⟩
theorem few_ok (A : Option Addr) (n c p : Nat) (w : World) (hc : n ≤ c) (hp : min n 40 = p) : Calls Try.prog 36 #[.slice A n c] w fun e w' => e = .returned (.slice A p c) ∧ w' = w :=
  (few_calls A n c w hc).mono (by rintro e w' ⟨h1, h2⟩; rw [hp] at h1; exact ⟨h1, h2.symm⟩)
/-- a list of the call's own, its address known no more -/
def Own (w : World) (D : Option Addr) (n c : Nat) (l : List (Int × Int)) : Prop := l.length = n ∧ ∃ B, OwnB w B 61 2 D n c (flatR l)
section
variable {w w' : World} {D : Option Addr} {n c : Nat} {l : List (Int × Int)}
theorem Own.below (h : Own w D n c l) (hb : Below w.heap.size w w') : Own w' D n c l := ⟨h.1, h.2.choose, h.2.choose_spec.below hb⟩
theorem Own.sl (h : Own w D n c l) : Sl w D (flatR l) := h.2.choose_spec.sl
theorem Own.len (h : Own w D n c l) : l.length = n := h.1
end
/-- what ends in a list of the call's own -/
def Tells (l : List (Int × Int)) (w : World) (e : Ending) (w' : World) : Prop := ∃ (D : Option Addr) (c : Nat), e = .returned (.slice D l.length c) ∧ Own w' D l.length c l ∧ Below w.heap.size w w'
theorem make_tells {l : List (Int × Int)} {A : Option Addr} {n c : Nat} {w : World} (hl : l.length = n) (hn : n ≤ 100000) (hi : In32 l) (hs : Sl w A (flatR l)) :
    Calls Try.prog 30 #[.slice A n c] w (Tells (Cls.mkR l) w) :=
  (make_ok l A n c w hl hn hi hs).mono (by unfold RangesEnd; rintro e w' ⟨D, c, h1, h2, h3⟩; exact ⟨D, c, h1, ⟨rfl, _, h2⟩, h3⟩)
theorem not_tells {l : List (Int × Int)} {A : Option Addr} {n c : Nat} {w : World} (hl : l.length = n) (hn : n ≤ 100000) (hi : In32 l) (hs : Sl w A (flatR l)) :
    Calls Try.prog 32 #[.slice A n c] w (Tells (Cls.nt l) w) :=
  (not_ok l A n c w hl hn hi hs).mono (by unfold RangesEnd; rintro e w' ⟨D, c, h1, h2, h3⟩; exact ⟨D, c, h1, ⟨rfl, _, h2⟩, h3⟩)
theorem both_tells {a b : List (Int × Int)} {A E : Option Addr} {n m c f : Nat} {w : World} (hl : a.length = n) (hn : n ≤ 10000) (hi : In32 a) (hs : Sl w A (flatR a)) (hl2 : b.length = m) (hm : m ≤ 10000) (hi2 : In32 b) (hs2 : Sl w E (flatR b)) :
    Calls Try.prog 33 #[.slice A n c, .slice E m f] w (Tells (Cls.bt a b) w) :=
  (both_ok a b A E n m c f w hl hn hi hs hl2 hm hi2 hs2).mono (by unfold RangesEnd; rintro e w' ⟨D, c, h1, h2, h3⟩; exact ⟨D, c, h1, ⟨rfl, _, h2⟩, h3⟩)
/-- what answers a Bool, and lays blocks at most -/
def Says (b : Bool) (w : World) (e : Ending) (w' : World) : Prop := e = .returned (.bool b) ∧ Below w.heap.size w w'
theorem has_says {l : List (Int × Int)} {A : Option Addr} {n c : Nat} {w : World} (r : Int) (hl : l.length = n) (hn : n ≤ 100000) (hs : Sl w A (flatR l)) :
    Calls Try.prog 34 #[.slice A n c, .int .i32 r] w (Says (hasR l r) w) := has_calls A n c l r w hl (by omega) hs
theorem same_says {A B : Option Addr} {n m c1 c2 : Nat} {l k : List (Int × Int)} {w : World} (hx : l.length = n) (hy : k.length = m) (hk : k = l) (hn : n ≤ 100000) (hA : Sl w A (flatR l)) (hB : Sl w B (flatR k)) :
    Calls Try.prog 31 #[.slice A n c1, .slice B m c2] w (Says true w) := by
  subst hk
  exact (sameR_true A B n m c1 c2 k w hx hy (by omega) hA hB).mono (by rintro e w' ⟨h1, q, h2⟩; exact ⟨h1, by rw [h2]; exact below_drewN (Below.refl _ _) q⟩)
theorem right_says {l : List (Int × Int)} {A : Option Addr} {n c : Nat} {w : World} (hl : l.length = n) (hn : n ≤ 100000) (hi : In32 l) (hs : Sl w A (flatR l)) :
    Calls Try.prog 35 #[.slice A n c] w (Says (Cls.rightZ 0 l) w) := right_calls A n c l w hl (by omega) hi hs
theorem rises_says {l : List (Int × Int)} {A : Option Addr} {n c : Nat} {w : World} (hl : l.length = n) (hn : n ≤ 100000) (hu : Cls.Up 0 l) (hr : ∀ g ∈ l, Cls.okR g = true) (hs : Sl w A (flatR l)) :
    Calls Try.prog 43 #[.slice A n c] w (Says true w) :=
  (rises_true A n c l w hl (by omega) hu hr hs).mono (by rintro e w' ⟨h1, q, h2⟩; exact ⟨h1, by rw [h2]; exact below_drewN (Below.refl _ _) q⟩)
theorem runs_says (w : World) : Calls Try.prog 6 #[] w (Says true w) := classRuns_calls w
end Go.Proofs.Ytepmnhlfjidhjab
