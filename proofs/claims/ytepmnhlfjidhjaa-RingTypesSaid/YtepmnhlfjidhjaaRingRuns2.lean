/-
  RingRuns: chapter 3's runs: the call answers true.
-/
import Derived.Test.YtepmnhlfjidhjaaRingS2
import Derived.Test.YtepmnhlfjidhjaaSameI
namespace Go.Proofs.Ytepmnhlfjidhjaa
open Go.RowKit Go.Mem

theorem putC (p g room : Nat) (xs ys : List Int) (x : Int) (b : Bool) (w : World) (h : RgI w p g room xs) (hd : decide (xs.length < room) = b) (hp : putI xs room x = ys) :
    Calls Try.prog 38 #[.pointer (some ⟨p, 0, none⟩), .int .i64 x] w (RgEndsI w p g room (.bool b) ys) := by
  have h1 := putI_calls p g room xs x w h
  rw [hd, hp] at h1; exact h1
theorem takeC (p g room : Nat) (xs ys : List Int) (x : Int) (b : Bool) (w : World) (h : RgI w p g room xs) (ha : atI xs 0 = x) (hi : inI xs 0 = b) (hy : xs.drop 1 = ys) :
    Calls Try.prog 41 #[.pointer (some ⟨p, 0, none⟩)] w (RgEndsI w p g room (.tuple #[.int .i64 x, .bool b]) ys) := by
  have h1 := takeI_calls p g room xs w h
  rw [ha, hi, hy] at h1; exact h1
theorem atC (p g room : Nat) (xs : List Int) (i x : Int) (b : Bool) (w : World) (h : RgI w p g room xs) (ha : atI xs i = x) (hi : inI xs i = b) :
    Calls Try.prog 47 #[.pointer (some ⟨p, 0, none⟩), .int .i64 i] w (Quiet2 w (.tuple #[.int .i64 x, .bool b])) := by
  have h1 := atI_calls p g room xs i w h
  rw [ha, hi] at h1; exact h1
theorem dropC (p g room : Nat) (xs ys : List Int) (n : Int) (k : Nat) (w : World) (h : RgI w p g room xs) (hn : -9223372036854775808 ≤ n ∧ n ≤ 9223372036854775807) (hk : dropI xs n = k) (hy : xs.drop k = ys) :
    Calls Try.prog 44 #[.pointer (some ⟨p, 0, none⟩), .int .i64 n] w (RgEndsI w p g room (.int .i64 (k : Int)) ys) := by
  have h1 := dropI_calls p g room xs n w h hn
  rw [hk, hy] at h1; exact h1
/-- the frame of a ring's method -/
theorem below_ring {B p g : Nat} {a w w' : World} (h : Below B a w) (f : Fr [p, g] w w') (hB : B ≤ w.heap.size) (hp : B ≤ p) (hg : B ≤ g) : Below B a w' := below_fr h f hB (fun k hk => by
  rcases List.mem_cons.1 hk with rfl | hk
  · exact hp
  · rw [List.mem_singleton.1 hk]; exact hg)

set_option maxRecDepth 100000 in
set_option maxHeartbeats 1600000 in
theorem ringRuns_calls (w : World) : Calls Try.prog 52 #[] w fun e w' => e = .returned (.bool true) ∧ Below w.heap.size w w' := by
  go_enter Try.func52, Try.ntmps52
  go_wp2_with fail
  refine (newI_ok 2 w (by decide) (by decide)).mono ?_
  unfold NewRgI
  rintro e w1 ⟨p, g, rfl, h1, hp, hg, B1⟩
  go_wp2_with fail
  refine (putC p g 2 [] [5] 5 true _ h1 (by decide) (by decide)).mono ?_
  unfold RgEndsI
  rintro e w2 ⟨rfl, h2, f2⟩
  have B2 := below_ring B1 f2 B1.size hp hg
  clear h1 f2 B1
  go_wp2_with fail
  refine (putC p g 2 [5] [5, 6] 6 true _ h2 (by decide) (by decide)).mono ?_
  unfold RgEndsI
  rintro e w3 ⟨rfl, h3, f3⟩
  have B3 := below_ring B2 f3 B2.size hp hg
  clear h2 f3 B2
  go_wp2_with fail
  refine (putC p g 2 [5, 6] [5, 6] 7 false _ h3 (by decide) (by decide)).mono ?_
  unfold RgEndsI
  rintro e w4 ⟨rfl, h4, f4⟩
  have B4 := below_ring B3 f4 B3.size hp hg
  clear h3 f4 B3
  go_wp2_with fail
  refine (takeC p g 2 [5, 6] [6] 5 true _ h4 (by decide) (by decide) rfl).mono ?_
  unfold RgEndsI
  rintro e w5 ⟨rfl, h5, f5⟩
  have B5 := below_ring B4 f5 B4.size hp hg
  clear h4 f5 B4
  go_wp2_with fail
  refine (putC p g 2 [6] [6, 8] 8 true _ h5 (by decide) (by decide)).mono ?_
  unfold RgEndsI
  rintro e w6 ⟨rfl, h6, f6⟩
  have B6 := below_ring B5 f6 B5.size hp hg
  clear h5 f6 B5
  go_wp2_with fail
  refine (listI_calls p g 2 [6, 8] _ h6).mono ?_
  unfold ListEndsI
  rintro e w7 ⟨rfl, hl, b7⟩
  have h7 := h6.below b7
  have B7 := B6.trans (b7.mono B6.size)
  have hsl := hl.sl.alloc (.cells #[.int .i64 6, .int .i64 8] 3)
  clear h6 b7 B6 hl
  generalize w6.heap.size = q at hsl
  go_wp2_with fail
  refine (sameI_calls (some ⟨q, 0, none⟩) (some ⟨w7.heap.size, 0, none⟩) 2 2 2 2 [6, 8] [6, 8] _ rfl rfl (by decide) (by decide) hsl (Sl.new rfl rfl)).mono ?_
  rintro e w8 ⟨rfl, q8, rfl⟩
  rw [eqL_self]
  have h8 := (h7.below ((Below.refl _ _).alloc (Nat.le_refl _) (.cells #[.int .i64 6, .int .i64 8] 3))).drewN q8
  have B8 := below_drewN (B7.alloc B7.size (.cells #[.int .i64 6, .int .i64 8] 3)) q8
  clear h7 B7 hsl
  generalize (w7.alloc (.cells #[.int .i64 6, .int .i64 8] 3)).drewN q8 = w8 at h8 B8 ⊢
  go_wp2_with fail
  refine (newS_bad 0 _ (by decide)).mono ?_
  rintro e w9 ⟨rfl, rfl⟩
  go_wp2_with fail
  refine (newS_bad 4097 _ (by decide)).mono ?_
  rintro e w9 ⟨rfl, rfl⟩
  go_wp2_with fail
  refine (atC p g 2 [6, 8] 2 0 false _ h8 (by decide) (by decide)).mono ?_
  unfold Quiet2
  rintro e w9 ⟨rfl, q9, rfl⟩
  have h9 := h8.drewN q9
  have B9 := below_drewN B8 q9
  clear h8 B8
  go_wp2_with fail
  refine (dropC p g 2 [6, 8] [] 9 2 _ h9 (by decide) (by decide) rfl).mono ?_
  unfold RgEndsI
  rintro e w10 ⟨rfl, h10, f10⟩
  have B10 := below_ring B9 f10 B9.size hp hg
  clear h9 f10 B9
  go_wp2_with fail
  refine (lenI_calls p g 2 [] _ h10).mono ?_
  rintro e w11 ⟨rfl, rfl⟩
  go_wp2_with fail
  go_ret
  exact ⟨rfl, B10⟩
end Go.Proofs.Ytepmnhlfjidhjaa
