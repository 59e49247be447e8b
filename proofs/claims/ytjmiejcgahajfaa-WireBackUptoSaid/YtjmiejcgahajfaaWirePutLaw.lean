/-
  The law's own 'put': an item written by the program and by the document: the same bytes, both in new memory.
-/
import Derived.Test.YtjmiejcgahajfaaWireRef
import Derived.Test.YtjmiejcgahajfaaWireList
import Derived.Test.YtjmiejcgahajfaaWireM
import Derived.Deep.RegionWith
namespace Go.Proofs.Ytjmiejcgahajfaa
open Go.RowKit Go.Mem

/-- what is new, twice -/
def PutB (w : World) (l : List UInt8) (e : Ending) (w' : World) : Prop := ∃ D1 n1 c1 D2 n2 c2, e = .returned (.tuple #[.slice D1 n1 c1, .slice D2 n2 c2]) ∧ OwnB w' w.heap.size 5 1 D1 n1 c1 (l.map B8) ∧ OwnB w' w.heap.size 5 1 D2 n2 c2 (l.map B8) ∧ Below w.heap.size w w'
/-- an item's bytes -/
def encIt (k n : Int) (s : ByteArray) (f : Bool) (zs : List Int) : List UInt8 :=
  if k = 1 ∨ k = 4 then Wire.num n.toNat else if k = 2 then Wire.num s.size ++ s.data.toList else if k = 3 then Wire.num (if f then 1 else 0) else if k = 5 then Wire.num zs.length ++ encs zs else []
def itVal (k n m : Int) (s : ByteArray) (f : Bool) (L : Option Addr) (ln lc : Nat) : Value := .agg #[.int .i64 k, .int .i64 n, .int .i64 m, .string s, .bool f, .slice L ln lc]

/-- a call that lays new bytes, in whatever world keeps what was -/
theorem FreshB.far {w W w' : World} {l : List UInt8} {e : Ending} (h : FreshB W l e w') (hb : Below w.heap.size w W) : ∃ D n c, e = .returned (.slice D n c) ∧ OwnB w' w.heap.size 5 1 D n c (l.map B8) ∧ Below w.heap.size w w' := by
  obtain ⟨D, n, c, he, ho, hb2⟩ := h
  exact ⟨D, n, c, he, ho.mono hb.size, hb.trans (hb2.mono hb.size)⟩

set_option maxHeartbeats 4000000 in
theorem putNum_calls (A : Option Addr) (n cap : Nat) (bs : List UInt8) (k x m : Int) (s : ByteArray) (f : Bool) (L : Option Addr) (ln lc : Nat) (w : World) (hl : bs.length = n) (hx : -9223372036854775808 ≤ x ∧ x ≤ 9223372036854775807) (hs : Sl w A (bs.map B8)) (hn : n + 9 ≤ 70368744177664) (hk : k = 1 ∨ k = 4) :
    Calls Try.prog 24 #[.slice A n cap, itVal k x m s f L ln lc] w (PutB w (bs ++ Wire.num x.toNat)) := by
  have H1 : Hid (∀ W, Below w.heap.size w W → Calls Try.prog 11 #[.slice A n cap, .int .i64 x] W fun e w' => ∃ D n c, e = .returned (.slice D n c) ∧ OwnB w' w.heap.size 5 1 D n c ((bs ++ Wire.num x.toNat).map B8) ∧ Below W.heap.size W w') := fun W hW => (num_calls A n cap bs x W hl hx (hs.below hW) (by omega)).mono fun e w' ⟨D, n, c, he, ho, hb⟩ => ⟨D, n, c, he, ho.mono hW.size, hb⟩
  have H2 : Hid (∀ W, Below w.heap.size w W → Calls Try.prog 38 #[.slice A n cap, .int .i64 x] W fun e w' => ∃ D n c, e = .returned (.slice D n c) ∧ OwnB w' w.heap.size 5 1 D n c ((bs ++ Wire.num x.toNat).map B8) ∧ Below W.heap.size W w') := fun W hW => (refNum_calls A n cap bs x W hl hx (hs.below hW) (by omega)).mono fun e w' ⟨D, n, c, he, ho, hb⟩ => ⟨D, n, c, he, ho.mono hW.size, hb⟩
  unfold itVal
  generalize bs ++ Wire.num x.toNat = l at H1 H2 ⊢
  clear hx
  rcases hk with rfl | rfl
  · go_enter Try.func24, Try.ntmps24
    go_wp2_with fail
    have hB0 : Below w.heap.size w (w.alloc (.cells #[.int .i64 1, .int .i64 x, .int .i64 m, .string s, .bool f, .slice L ln lc] 43)) := (Below.refl _ _).alloc (Nat.le_refl _) _
    have hc0 := (Blk.new w 43 #[.int .i64 1, .int .i64 x, .int .i64 m, .string s, .bool f, .slice L ln lc]).cell 1
    have hlt := (Blk.new w 43 #[.int .i64 1, .int .i64 x, .int .i64 m, .string s, .bool f, .slice L ln lc]).lt
    simp only [List.getElem?_cons_zero, List.getElem?_cons_succ] at hc0
    generalize w.alloc (.cells #[.int .i64 1, .int .i64 x, .int .i64 m, .string s, .bool f, .slice L ln lc] 43) = w0 at hB0 hc0 hlt ⊢
    go_region_with (first
      | (refine (H1.out _ (below_drewN hB0 1)).mono ?_
         rintro e w1 ⟨D1, n1, c1, rfl, o1, b1⟩
         have hc1 := (b1.cell (p := ⟨w.heap.size, 1, none⟩) hlt).trans hc0
         have hB1 := (below_drewN hB0 1).trans (b1.mono hB0.size)
         clear b1)
      | (refine (H2.out _ hB1).mono ?_
         rintro e w2 ⟨D2, n2, c2, rfl, o2, b2⟩
         have o1' := o1.below b2
         have hB2 := hB1.trans (b2.mono hB1.size)
         clear b2))
    all_goals clear hc0 hc1
    all_goals go_wp2_with fail
    all_goals go_ret2
    all_goals exact ⟨D1, n1, c1, D2, n2, c2, rfl, o1', o2, hB2⟩
  · go_enter Try.func24, Try.ntmps24
    go_wp2_with fail
    have hB0 : Below w.heap.size w (w.alloc (.cells #[.int .i64 4, .int .i64 x, .int .i64 m, .string s, .bool f, .slice L ln lc] 43)) := (Below.refl _ _).alloc (Nat.le_refl _) _
    have hc0 := (Blk.new w 43 #[.int .i64 4, .int .i64 x, .int .i64 m, .string s, .bool f, .slice L ln lc]).cell 1
    have hlt := (Blk.new w 43 #[.int .i64 4, .int .i64 x, .int .i64 m, .string s, .bool f, .slice L ln lc]).lt
    simp only [List.getElem?_cons_zero, List.getElem?_cons_succ] at hc0
    generalize w.alloc (.cells #[.int .i64 4, .int .i64 x, .int .i64 m, .string s, .bool f, .slice L ln lc] 43) = w0 at hB0 hc0 hlt ⊢
    go_region_with (first
      | (refine (H1.out _ (below_drewN hB0 1)).mono ?_
         rintro e w1 ⟨D1, n1, c1, rfl, o1, b1⟩
         have hc1 := (b1.cell (p := ⟨w.heap.size, 1, none⟩) hlt).trans hc0
         have hB1 := (below_drewN hB0 1).trans (b1.mono hB0.size)
         clear b1)
      | (refine (H2.out _ hB1).mono ?_
         rintro e w2 ⟨D2, n2, c2, rfl, o2, b2⟩
         have o1' := o1.below b2
         have hB2 := hB1.trans (b2.mono hB1.size)
         clear b2))
    all_goals clear hc0 hc1
    all_goals go_wp2_with fail
    all_goals go_ret2
    all_goals exact ⟨D1, n1, c1, D2, n2, c2, rfl, o1', o2, hB2⟩

set_option maxHeartbeats 4000000 in
theorem putText_calls (A : Option Addr) (n cap : Nat) (bs : List UInt8) (k x m : Int) (s : ByteArray) (f : Bool) (L : Option Addr) (ln lc : Nat) (w : World) (hl : bs.length = n) (hs : Sl w A (bs.map B8)) (hn : n + 9 + s.size ≤ 70368744177664) (hk : k = 2) :
    Calls Try.prog 24 #[.slice A n cap, itVal k x m s f L ln lc] w (PutB w (bs ++ (Wire.num s.size ++ s.data.toList))) := by
  have H1 : Hid (∀ W, Below w.heap.size w W → Calls Try.prog 12 #[.slice A n cap, .string s] W fun e w' => ∃ D n c, e = .returned (.slice D n c) ∧ OwnB w' w.heap.size 5 1 D n c ((bs ++ (Wire.num s.size ++ s.data.toList)).map B8) ∧ Below W.heap.size W w') := fun W hW => (text_calls A n cap bs s W hl (hs.below hW) (by omega) (by omega)).mono fun e w' ⟨D, n, c, he, ho, hb⟩ => ⟨D, n, c, he, ho.mono hW.size, hb⟩
  have H2 : Hid (∀ W, Below w.heap.size w W → Calls Try.prog 39 #[.slice A n cap, .string s] W fun e w' => ∃ D n c, e = .returned (.slice D n c) ∧ OwnB w' w.heap.size 5 1 D n c ((bs ++ (Wire.num s.size ++ s.data.toList)).map B8) ∧ Below W.heap.size W w') := fun W hW => (refText_calls A n cap bs s W hl (hs.below hW) (by omega)).mono fun e w' ⟨D, n, c, he, ho, hb⟩ => ⟨D, n, c, he, ho.mono hW.size, hb⟩
  unfold itVal
  generalize bs ++ (Wire.num s.size ++ s.data.toList) = l at H1 H2 ⊢
  subst hk
  go_enter Try.func24, Try.ntmps24
  go_wp2_with fail
  have hB0 : Below w.heap.size w (w.alloc (.cells #[.int .i64 2, .int .i64 x, .int .i64 m, .string s, .bool f, .slice L ln lc] 43)) := (Below.refl _ _).alloc (Nat.le_refl _) _
  have hc0 := (Blk.new w 43 #[.int .i64 2, .int .i64 x, .int .i64 m, .string s, .bool f, .slice L ln lc]).cell 3
  have hlt := (Blk.new w 43 #[.int .i64 2, .int .i64 x, .int .i64 m, .string s, .bool f, .slice L ln lc]).lt
  simp only [List.getElem?_cons_zero, List.getElem?_cons_succ] at hc0
  generalize w.alloc (.cells #[.int .i64 2, .int .i64 x, .int .i64 m, .string s, .bool f, .slice L ln lc] 43) = w0 at hB0 hc0 hlt ⊢
  go_region_with (first
    | (refine (H1.out _ (below_drewN hB0 1)).mono ?_
       rintro e w1 ⟨D1, n1, c1, rfl, o1, b1⟩
       have hc1 := (b1.cell (p := ⟨w.heap.size, 3, none⟩) hlt).trans hc0
       have hB1 := (below_drewN hB0 1).trans (b1.mono hB0.size)
       clear b1)
    | (refine (H2.out _ hB1).mono ?_
       rintro e w2 ⟨D2, n2, c2, rfl, o2, b2⟩
       have o1' := o1.below b2
       have hB2 := hB1.trans (b2.mono hB1.size)
       clear b2))
  all_goals clear hc0 hc1
  all_goals go_wp2_with fail
  all_goals go_ret2
  all_goals exact ⟨D1, n1, c1, D2, n2, c2, rfl, o1', o2, hB2⟩

set_option maxHeartbeats 4000000 in
theorem putFlag_calls (A : Option Addr) (n cap : Nat) (bs : List UInt8) (k x m : Int) (s : ByteArray) (f : Bool) (L : Option Addr) (ln lc : Nat) (w : World) (hl : bs.length = n) (hs : Sl w A (bs.map B8)) (hn : n + 9 ≤ 70368744177664) (hk : k = 3) :
    Calls Try.prog 24 #[.slice A n cap, itVal k x m s f L ln lc] w (PutB w (bs ++ Wire.num (if f then 1 else 0))) := by
  have H1 : Hid (∀ W, Below w.heap.size w W → Calls Try.prog 13 #[.slice A n cap, .bool f] W fun e w' => ∃ D n c, e = .returned (.slice D n c) ∧ OwnB w' w.heap.size 5 1 D n c ((bs ++ Wire.num (if f then 1 else 0)).map B8) ∧ Below W.heap.size W w') := fun W hW => (flag_calls A n cap bs f W hl (hs.below hW) (by omega)).mono fun e w' ⟨D, n, c, he, ho, hb⟩ => ⟨D, n, c, he, ho.mono hW.size, hb⟩
  have H2 : Hid (∀ W, Below w.heap.size w W → Calls Try.prog 40 #[.slice A n cap, .bool f] W fun e w' => ∃ D n c, e = .returned (.slice D n c) ∧ OwnB w' w.heap.size 5 1 D n c ((bs ++ Wire.num (if f then 1 else 0)).map B8) ∧ Below W.heap.size W w') := fun W hW => (refFlag_calls A n cap bs f W hl (hs.below hW) (by omega)).mono fun e w' ⟨D, n, c, he, ho, hb⟩ => ⟨D, n, c, he, ho.mono hW.size, hb⟩
  unfold itVal
  generalize bs ++ Wire.num (if f then 1 else 0) = l at H1 H2 ⊢
  subst hk
  go_enter Try.func24, Try.ntmps24
  go_wp2_with fail
  have hB0 : Below w.heap.size w (w.alloc (.cells #[.int .i64 3, .int .i64 x, .int .i64 m, .string s, .bool f, .slice L ln lc] 43)) := (Below.refl _ _).alloc (Nat.le_refl _) _
  have hc0 := (Blk.new w 43 #[.int .i64 3, .int .i64 x, .int .i64 m, .string s, .bool f, .slice L ln lc]).cell 4
  have hlt := (Blk.new w 43 #[.int .i64 3, .int .i64 x, .int .i64 m, .string s, .bool f, .slice L ln lc]).lt
  simp only [List.getElem?_cons_zero, List.getElem?_cons_succ] at hc0
  generalize w.alloc (.cells #[.int .i64 3, .int .i64 x, .int .i64 m, .string s, .bool f, .slice L ln lc] 43) = w0 at hB0 hc0 hlt ⊢
  go_region_with (first
    | (refine (H1.out _ (below_drewN hB0 1)).mono ?_
       rintro e w1 ⟨D1, n1, c1, rfl, o1, b1⟩
       have hc1 := (b1.cell (p := ⟨w.heap.size, 4, none⟩) hlt).trans hc0
       have hB1 := (below_drewN hB0 1).trans (b1.mono hB0.size)
       clear b1)
    | (refine (H2.out _ hB1).mono ?_
       rintro e w2 ⟨D2, n2, c2, rfl, o2, b2⟩
       have o1' := o1.below b2
       have hB2 := hB1.trans (b2.mono hB1.size)
       clear b2))
  all_goals clear hc0 hc1
  all_goals go_wp2_with fail
  all_goals go_ret2
  all_goals exact ⟨D1, n1, c1, D2, n2, c2, rfl, o1', o2, hB2⟩

end Go.Proofs.Ytjmiejcgahajfaa
