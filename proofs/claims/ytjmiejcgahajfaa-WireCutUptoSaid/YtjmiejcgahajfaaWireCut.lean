/-
  WireCut: a number, a text or a flag that is written, cut off anywhere, ends too early.
-/
import Derived.Test.YtjmiejcgahajfaaWireRuns
import Derived.Test.YtjmiejcgahajfaaWirePutMore
import Derived.Test.YtjmiejcgahajfaaWireBack
import Derived.Test.YtjmiejcgahajfaaWireCutM
import Derived.Test.YtjmiejcgahajfaaWithin
namespace Go.Proofs.Ytjmiejcgahajfaa
open Go.RowKit Go.Mem

set_option maxHeartbeats 4000000 in
theorem wireCutRead_calls (k x m : Int) (s : ByteArray) (f : Bool) (L : Option Addr) (ln lc : Nat) (at_ : Int) (l : List UInt8) (w : World) (hl0 : 0 < l.length) (hl1 : l.length ≤ 1048700) (hk : k ≠ 5) (hat : inI64 at_)
    (hput : ∀ W, Below w.heap.size w W → Calls Try.prog 24 #[.slice none 0 0, itVal k x m s f L ln lc] W (PutB W l))
    (hback : ∀ W p j, j < l.length → Rd W p (l.take j) 0 0 → Calls Try.prog 30 #[.pointer (some ⟨p, 0, none⟩), itVal k x m s f L ln lc] W fun e w' => ∃ b, e = .returned (.bool b) ∧ Rd w' p (l.take j) 0 3 ∧ Turned p W w') :
    Calls Try.prog 7 #[itVal k x m s f L ln lc, .int .i64 at_] w fun e w' => e = .returned (.bool true) ∧ Below w.heap.size w w' := by
  have HP := Lib.hid hput
  have HK := Lib.hid hback
  clear hput hback
  obtain ⟨j, hj, hjl⟩ : ∃ j : Nat, within at_ 0 ((l.length : Int) - 1) = (j : Int) ∧ j < l.length := by
    have h1 := within_ge at_ 0 ((l.length : Int) - 1) (by omega)
    have h2 := within_le at_ 0 ((l.length : Int) - 1) (by omega)
    exact ⟨(within at_ 0 ((l.length : Int) - 1)).toNat, by omega, by omega⟩
  have HW := Lib.hid (fun W => within_calls at_ 0 ((l.length : Int) - 1) W (by omega) (by omega) (by omega) hat)
  rw [hj] at HW
  clear hj hat
  have e5 : (k == 5) = false := beq_eq_false_iff_ne.2 hk
  clear hk
  have hB0 : Below w.heap.size w (w.alloc (.cells #[.int .i64 k, .int .i64 x, .int .i64 m, .string s, .bool f, .slice L ln lc] 43)) := (Below.refl _ _).alloc (Nat.le_refl _) _
  have hblk := Blk.new w 43 #[.int .i64 k, .int .i64 x, .int .i64 m, .string s, .bool f, .slice L ln lc]
  have hlt := hblk.lt
  have HB := Lib.hid hblk
  clear hblk
  unfold itVal at HP HK ⊢
  go_enter Try.func7, Try.ntmps7
  go_wp2_with fail
  refine (HP.out _ hB0).mono ?_
  rintro e w1 ⟨D1, n1, c1, D2, n2, c2, rfl, o1, o2, b1⟩
  have hn1 := OwnB.bytes o1
  subst hn1
  have hblk1 := HB.out.below b1 hlt
  have hB1 := hB0.trans (b1.mono hB0.size)
  have ha0 := hblk1.cell 0
  simp only [List.getElem?_cons_zero] at ha0
  have HB1 := Lib.hid hblk1
  have HO := Lib.hid o1
  have hs1 := o1.sl
  have hle1 := o1.le
  clear hblk1 o1 o2 b1 hB0 hlt HB HP
  have hl2 : ((l.length : Int) == 0) = false := beq_eq_false_iff_ne.2 (by omega)
  go_wp2_with fail
  refine (HW.out _).mono ?_
  rintro e w2 ⟨rfl, rfl⟩
  have hjc : (j : Int) ≤ (c1 : Int) := by omega
  clear HW
  go_wp2_with fail
  have htk := hs1.take j
  rw [← List.map_take] at htk
  refine (read_calls D1 j c1 (l.take j) w1 (by rw [List.length_take]; omega) htk (by omega)).mono ?_
  rintro e w2 ⟨p, rfl, hp, r2, b2⟩
  have hblk2 := HB1.out.below b2 HB1.out.lt
  have d0 := hblk2.cell 0
  have d1 := hblk2.cell 1
  have d2 := hblk2.cell 2
  have d3 := hblk2.cell 3
  have d4 := hblk2.cell 4
  have d5 := hblk2.cell 5
  simp only [List.getElem?_cons_zero, List.getElem?_cons_succ] at d0 d1 d2 d3 d4 d5
  have hp' := Nat.le_trans hB1.size hp
  have b3 := hB1.trans (b2.mono hB1.size)
  clear htk hs1 HO HB1 ha0 hB1 b2 hp hblk2 hjc hle1
  go_wp2_with fail
  refine (HK.out w2 p j hjl r2).mono ?_
  rintro e w3 ⟨bb, rfl, r3, t3⟩
  have b4 := below_grown b3 t3.1 b3.size hp'
  clear d0 d1 d2 d3 d4 d5 HK r2 b3 t3
  go_wp2_with fail
  refine (err_calls p _ 0 3 w3 r3).mono ?_
  unfold After
  rintro e w4 ⟨rfl, r4, t4⟩
  have b5 := below_grown b4 t4.1 b4.size hp'
  clear r3 b4 t4
  go_wp2_with fail
  refine (at_calls p _ 0 3 w4 r4).mono ?_
  unfold After
  rintro e w5 ⟨rfl, r5, t5⟩
  have b6 := below_grown b5 t5.1 b5.size hp'
  clear r4 b5 t5
  go_wp2_with fail
  refine (end_calls p _ 0 3 w5 r5).mono ?_
  unfold After
  rintro e w6 ⟨rfl, r6, t6⟩
  rw [show endE (l.take j) 0 3 = 3 by unfold endE; rw [if_neg (by omega)]]
  have b7 := below_grown b6 t6.1 b6.size hp'
  clear r5 b6 t6 r6
  go_wp2_with fail
  refine (wireRuns_calls _).mono ?_
  rintro e w7 ⟨rfl, b8⟩
  go_wp2_with fail
  go_ret
  exact ⟨rfl, b7.trans (b8.mono b7.size)⟩

set_option maxHeartbeats 2000000 in
/-- what is no number, no text, no flag -/
theorem wireCutSkip_calls (k x m : Int) (s : ByteArray) (f : Bool) (L : Option Addr) (ln lc : Nat) (at_ : Int) (l : List UInt8) (w : World) (hl1 : l.length ≤ 70368744177664) (hk : k = 5 ∨ (k < 1 ∨ 5 < k) ∧ l = [])
    (hput : ∀ W, Below w.heap.size w W → Calls Try.prog 24 #[.slice none 0 0, itVal k x m s f L ln lc] W (PutB W l)) :
    Calls Try.prog 7 #[itVal k x m s f L ln lc, .int .i64 at_] w fun e w' => e = .returned (.bool true) ∧ Below w.heap.size w w' := by
  have HP := Lib.hid hput
  clear hput
  have hB0 : Below w.heap.size w (w.alloc (.cells #[.int .i64 k, .int .i64 x, .int .i64 m, .string s, .bool f, .slice L ln lc] 43)) := (Below.refl _ _).alloc (Nat.le_refl _) _
  have hblk := Blk.new w 43 #[.int .i64 k, .int .i64 x, .int .i64 m, .string s, .bool f, .slice L ln lc]
  have hlt := hblk.lt
  have HB := Lib.hid hblk
  clear hblk
  unfold itVal at HP ⊢
  rcases hk with rfl | ⟨hk, rfl⟩
  · go_enter Try.func7, Try.ntmps7
    go_wp2_with fail
    refine (HP.out _ hB0).mono ?_
    rintro e w1 ⟨D1, n1, c1, D2, n2, c2, rfl, o1, o2, b1⟩
    have ha0 := (HB.out.below b1 hlt).cell 0
    simp only [List.getElem?_cons_zero] at ha0
    have hB1 := hB0.trans (b1.mono hB0.size)
    clear o1 o2 b1 hB0 hlt HB HP
    by_cases hn : n1 = 0
    · subst hn
      go_wp2_with fail
      refine (wireRuns_calls _).mono ?_
      rintro e w7 ⟨rfl, b8⟩
      go_wp2_with fail
      go_ret
      exact ⟨rfl, hB1.trans (b8.mono hB1.size)⟩
    · have hn2 : ((n1 : Int) == 0) = false := beq_eq_false_iff_ne.2 (by omega)
      go_wp2_with fail
      refine (wireRuns_calls _).mono ?_
      rintro e w7 ⟨rfl, b8⟩
      go_wp2_with fail
      go_ret
      exact ⟨rfl, hB1.trans (b8.mono hB1.size)⟩
  · by_cases hk1 : k < 1
    · have hkd : decide (k < 1) = true := decide_eq_true hk1
      go_enter Try.func7, Try.ntmps7
      go_wp2_with fail
      refine (HP.out _ hB0).mono ?_
      rintro e w1 ⟨D1, n1, c1, D2, n2, c2, rfl, o1, o2, b1⟩
      have hn1 := OwnB.bytes o1
      subst hn1
      have ha0 := (HB.out.below b1 hlt).cell 0
      simp only [List.getElem?_cons_zero] at ha0
      have hB1 := hB0.trans (b1.mono hB0.size)
      clear o1 o2 b1 hB0 hlt HB HP hk
      go_wp2_with fail
      refine (wireRuns_calls _).mono ?_
      rintro e w7 ⟨rfl, b8⟩
      go_wp2_with fail
      go_ret
      exact ⟨rfl, hB1.trans (b8.mono hB1.size)⟩
    · have hkd : decide (k < 1) = false := decide_eq_false hk1
      have hke : decide (4 < k) = true := decide_eq_true (by omega)
      go_enter Try.func7, Try.ntmps7
      go_wp2_with fail
      refine (HP.out _ hB0).mono ?_
      rintro e w1 ⟨D1, n1, c1, D2, n2, c2, rfl, o1, o2, b1⟩
      have hn1 := OwnB.bytes o1
      subst hn1
      have ha0 := (HB.out.below b1 hlt).cell 0
      simp only [List.getElem?_cons_zero] at ha0
      have hB1 := hB0.trans (b1.mono hB0.size)
      clear o1 o2 b1 hB0 hlt HB HP hk
      go_wp2_with fail
      refine (wireRuns_calls _).mono ?_
      rintro e w7 ⟨rfl, b8⟩
      go_wp2_with fail
      go_ret
      exact ⟨rfl, hB1.trans (b8.mono hB1.size)⟩
end Go.Proofs.Ytjmiejcgahajfaa
