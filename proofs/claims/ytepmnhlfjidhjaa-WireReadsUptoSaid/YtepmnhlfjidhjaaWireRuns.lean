/-
  WireRuns: chapter 2's runs: the call answers true.
-/
import Derived.Test.YtepmnhlfjidhjaaWireRead
import Derived.Test.YtepmnhlfjidhjaaWireList
import Derived.Test.YtepmnhlfjidhjaaSameB
namespace Go.Proofs.Ytepmnhlfjidhjaa
open Go.RowKit Go.Mem

/-- what is new, told as a list that is known -/
def Lit (w : World) (out : List UInt8) (k : Nat) (e : Ending) (w' : World) : Prop := ∃ D cap, e = .returned (.slice D k cap) ∧ Sl w' D (out.map B8) ∧ k ≤ cap ∧ Below w.heap.size w w'
theorem FreshB.lit {w w' : World} {l : List UInt8} {e : Ending} (h : FreshB w l e w') (out : List UInt8) (k : Nat) (hl : l = out) (hk : out.length = k) : Lit w out k e w' := by
  obtain ⟨D, n, cap, rfl, ho, hb⟩ := h
  subst hl hk
  have := OwnB.bytes ho
  subst this
  exact ⟨D, cap, rfl, ho.sl, ho.le, hb⟩
theorem sameB_self (A B : Option Addr) (n c1 c2 : Nat) (xs : List UInt8) (w : World) (hx : xs.length = n) (hn : n ≤ 9223372036854775807) (hA : Sl w A (xs.map B8)) (hB : Sl w B (xs.map B8)) :
    Calls Try.prog 20 #[.slice A n c1, .slice B n c2] w fun e w' => e = .returned (.bool true) ∧ Q w w' := by
  have h := toQ (sameB_calls A B n n c1 c2 xs xs w hx hx hn hn hA hB)
  rw [show eqL xs xs = true from by simp [eqL]] at h
  exact h

/-- another reader turns: this one stands -/
theorem Rd.apart {w w' : World} {p q : Nat} {bs cs : List UInt8} {a er a2 er2 : Nat} (h : Rd w p bs a er) (h2 : Rd w q cs a2 er2) (hne : p ≠ q) (ht : Turned q w w') : Rd w' p bs a er := by
  obtain ⟨D, c, hb, hs, hc⟩ := h.blk
  refine ⟨⟨D, c, (ht.1.block p hb.lt (fun e => hne (by injection e))).trans hb, ?_, hc⟩, h.le, h.len, h.er5⟩
  obtain ⟨D2, c2, hb2, _, _⟩ := h2.blk
  intro k u hu
  obtain ⟨b, o, e, hcl⟩ := hs k u hu
  refine ⟨b, o, e, (grown_cell ht.1 (lt_of_cell hcl) ?_).trans hcl⟩
  rintro rfl
  have h8 : ∃ n : Int, u = .int .u8 n := by
    obtain ⟨x, _, rfl⟩ := List.mem_map.1 (List.mem_of_getElem? hu)
    exact ⟨_, rfl⟩
  obtain ⟨n, rfl⟩ := h8
  rw [hb2.cell] at hcl
  match o + k, hcl with
  | 0, hcl => simp at hcl
  | 1, hcl => simp at hcl
  | 2, hcl => simp at hcl
  | (m + 3), hcl => simp at hcl

/-- chapter 2's run of a number that is refused -/
theorem numberLaw_calls (A : Option Addr) (n c e : Nat) (bs : List UInt8) (w : World) (hl : bs.length = n) (hs : Sl w A (bs.map B8)) (hn : n ≤ 70368744177664) (hd : nu bs 0 0 = (0, 0, e)) :
    Calls Try.prog 109 #[.slice A n c, .int .i64 (e : Int)] w fun e w' => e = .returned (.bool true) ∧ Below w.heap.size w w' := by
  have HD := Lib.hid hd
  clear hd
  have HR := Lib.hid (read_calls A n c bs w hl hs hn)
  go_enter Try.func109, Try.ntmps109
  go_wp2_with fail
  refine HR.out.mono ?_
  rintro e1 w1 ⟨p, rfl, hp, r1, b1⟩
  go_wp2_with fail
  refine (rnum_calls p bs 0 0 w1 r1).mono ?_
  unfold After
  rintro e2 w2 ⟨rfl, r2, t2⟩
  rw [HD.out] at r2 ⊢
  have b2 := below_grown b1 t2.1 b1.size hp
  clear b1 r1 t2
  go_wp2_with fail
  refine (err_calls p bs 0 e w2 r2).mono ?_
  unfold After
  rintro e3 w3 ⟨rfl, r3, t3⟩
  have b3 := below_grown b2 t3.1 b2.size hp
  clear b2 r2 t3
  go_wp2_with fail
  refine (at_calls p bs 0 e w3 r3).mono ?_
  unfold After
  rintro e4 w4 ⟨rfl, r4, t4⟩
  have b4 := below_grown b3 t4.1 b3.size hp
  clear b3 r3 t4
  go_wp2_with fail
  go_ret
  exact ⟨rfl, b4⟩

set_option maxHeartbeats 4000000 in
theorem wireRuns_calls (w : World) : Calls Try.prog 34 #[] w fun e w' => e = .returned (.bool true) ∧ Below w.heap.size w w' := by
  have B0 := Below.refl w.heap.size w
  go_enter Try.func34, Try.ntmps34
  go_wp2_with fail
  refine ((num_calls none 0 0 [] (0) _ rfl (by decide) Sl.nil (by decide)).mono fun _ _ h => h.lit [0] 1 (by decide) rfl).mono ?_
  rintro e w1 ⟨D1, c1, rfl, s1, -, b1⟩
  have BB1 := B0.trans (b1.mono B0.size)
  clear b1 B0
  go_wp2_with fail
  refine (sameB_self D1 (some ⟨w1.heap.size, 0, none⟩) 1 c1 1 [0] (w1.alloc (.cells #[.int .u8 0] 5)) rfl (by decide) (s1.alloc _) (Sl.new rfl rfl)).mono ?_
  rintro e v1 ⟨rfl, q1⟩
  have B1 := (BB1.alloc BB1.size (.cells #[.int .u8 0] 5)).trans (q1.below _)
  clear s1 q1 BB1
  go_wp2_with fail
  have b2' : Below w.heap.size w (v1.alloc (.cells #[.int .u8 7] 5)) := B1.alloc B1.size _
  refine ((num_calls (some ⟨v1.heap.size, 0, none⟩) 1 1 [7] (255) _ rfl (by decide) (Sl.new rfl rfl) (by decide)).mono fun _ _ h => h.lit [7, 1, 255] 3 (by decide) rfl).mono ?_
  rintro e w2 ⟨D2, c2, rfl, s2, -, b2⟩
  have BB2 := b2'.trans (b2.mono b2'.size)
  clear b2 B1 b2'
  go_wp2_with fail
  refine (sameB_self D2 (some ⟨w2.heap.size, 0, none⟩) 3 c2 3 [7, 1, 255] (w2.alloc (.cells #[.int .u8 7, .int .u8 1, .int .u8 255] 5)) rfl (by decide) (s2.alloc _) (Sl.new rfl rfl)).mono ?_
  rintro e v2 ⟨rfl, q2⟩
  have B2 := (BB2.alloc BB2.size (.cells #[.int .u8 7, .int .u8 1, .int .u8 255] 5)).trans (q2.below _)
  clear s2 q2 BB2
  go_wp2_with fail
  refine ((num_calls none 0 0 [] (256) _ rfl (by decide) Sl.nil (by decide)).mono fun _ _ h => h.lit [2, 1, 0] 3 (by decide) rfl).mono ?_
  rintro e w3 ⟨D3, c3, rfl, s3, -, b3⟩
  have BB3 := B2.trans (b3.mono B2.size)
  clear b3 B2
  go_wp2_with fail
  refine (sameB_self D3 (some ⟨w3.heap.size, 0, none⟩) 3 c3 3 [2, 1, 0] (w3.alloc (.cells #[.int .u8 2, .int .u8 1, .int .u8 0] 5)) rfl (by decide) (s3.alloc _) (Sl.new rfl rfl)).mono ?_
  rintro e v3 ⟨rfl, q3⟩
  have B3 := (BB3.alloc BB3.size (.cells #[.int .u8 2, .int .u8 1, .int .u8 0] 5)).trans (q3.below _)
  clear s3 q3 BB3
  go_wp2_with fail
  refine ((num_calls none 0 0 [] (-5) _ rfl (by decide) Sl.nil (by decide)).mono fun _ _ h => h.lit [0] 1 (by decide) rfl).mono ?_
  rintro e w4 ⟨D4, c4, rfl, s4, -, b4⟩
  have BB4 := B3.trans (b4.mono B3.size)
  clear b4 B3
  go_wp2_with fail
  refine (sameB_self D4 (some ⟨w4.heap.size, 0, none⟩) 1 c4 1 [0] (w4.alloc (.cells #[.int .u8 0] 5)) rfl (by decide) (s4.alloc _) (Sl.new rfl rfl)).mono ?_
  rintro e v4 ⟨rfl, q4⟩
  have B4 := (BB4.alloc BB4.size (.cells #[.int .u8 0] 5)).trans (q4.below _)
  clear s4 q4 BB4
  go_wp2_with fail
  refine ((text_calls none 0 0 [] ⟨#[97, 98]⟩ _ rfl Sl.nil (by decide) (by decide)).mono fun _ _ h => h.lit [1, 2, 97, 98] 4 (by decide) rfl).mono ?_
  rintro e w5 ⟨D5, c5, rfl, s5, -, b5⟩
  have BB5 := B4.trans (b5.mono B4.size)
  clear b5 B4
  go_wp2_with fail
  refine (sameB_self D5 (some ⟨w5.heap.size, 0, none⟩) 4 c5 4 [1, 2, 97, 98] (w5.alloc (.cells #[.int .u8 1, .int .u8 2, .int .u8 97, .int .u8 98] 5)) rfl (by decide) (s5.alloc _) (Sl.new rfl rfl)).mono ?_
  rintro e v5 ⟨rfl, q5⟩
  have B5 := (BB5.alloc BB5.size (.cells #[.int .u8 1, .int .u8 2, .int .u8 97, .int .u8 98] 5)).trans (q5.below _)
  clear s5 q5 BB5
  go_wp2_with fail
  refine ((flag_calls none 0 0 [] true _ rfl Sl.nil (by decide)).mono fun _ _ h => h.lit [1, 1] 2 (by decide) rfl).mono ?_
  rintro e w6 ⟨D6, c6, rfl, s6, -, b6⟩
  have BB6 := B5.trans (b6.mono B5.size)
  clear b6 B5
  go_wp2_with fail
  refine (sameB_self D6 (some ⟨w6.heap.size, 0, none⟩) 2 c6 2 [1, 1] (w6.alloc (.cells #[.int .u8 1, .int .u8 1] 5)) rfl (by decide) (s6.alloc _) (Sl.new rfl rfl)).mono ?_
  rintro e v6 ⟨rfl, q6⟩
  have B6 := (BB6.alloc BB6.size (.cells #[.int .u8 1, .int .u8 1] 5)).trans (q6.below _)
  clear s6 q6 BB6
  go_wp2_with fail
  have b7' : Below w.heap.size w (v6.alloc (.cells #[.int .i64 1, .int .i64 2] 3)) := B6.alloc B6.size _
  refine ((list_calls none (some ⟨v6.heap.size, 0, none⟩) 0 2 0 2 [] [1, 2] _ rfl rfl (by intro z hz; simp only [List.mem_cons, List.not_mem_nil, or_false] at hz; rcases hz with rfl | rfl <;> (unfold inI64; omega)) Sl.nil (Sl.new rfl rfl) (by decide)).mono fun _ _ h => h.lit [1, 2, 1, 1, 1, 2] 6 (by decide) rfl).mono ?_
  rintro e w7 ⟨D7, c7, rfl, s7, -, b7⟩
  have BB7 := b7'.trans (b7.mono b7'.size)
  clear b7 B6 b7'
  go_wp2_with fail
  refine (sameB_self D7 (some ⟨w7.heap.size, 0, none⟩) 6 c7 6 [1, 2, 1, 1, 1, 2] (w7.alloc (.cells #[.int .u8 1, .int .u8 2, .int .u8 1, .int .u8 1, .int .u8 1, .int .u8 2] 5)) rfl (by decide) (s7.alloc _) (Sl.new rfl rfl)).mono ?_
  rintro e v7 ⟨rfl, q7⟩
  have B7 := (BB7.alloc BB7.size (.cells #[.int .u8 1, .int .u8 2, .int .u8 1, .int .u8 1, .int .u8 1, .int .u8 2] 5)).trans (q7.below _)
  clear s7 q7 BB7
  go_wp2_with fail
  have b8' : Below w.heap.size w (v7.alloc (.cells #[.int .u8 1, .int .u8 0] 5)) := B7.alloc B7.size _
  refine (numberLaw_calls (some ⟨v7.heap.size, 0, none⟩) 2 2 4 [1, 0] _ rfl (Sl.new rfl rfl) (by decide) (by decide)).mono ?_
  rintro e v8 ⟨rfl, b8⟩
  have B8 := b8'.trans (b8.mono b8'.size)
  clear b8' b8 B7
  go_wp2_with fail
  have b9' : Below w.heap.size w (v8.alloc (.cells #[.int .u8 9] 5)) := B8.alloc B8.size _
  refine (numberLaw_calls (some ⟨v8.heap.size, 0, none⟩) 1 1 4 [9] _ rfl (Sl.new rfl rfl) (by decide) (by decide)).mono ?_
  rintro e v9 ⟨rfl, b9⟩
  have B9 := b9'.trans (b9.mono b9'.size)
  clear b9' b9 B8
  go_wp2_with fail
  have b10' : Below w.heap.size w (v9.alloc (.cells #[.int .u8 2, .int .u8 1] 5)) := B9.alloc B9.size _
  refine (numberLaw_calls (some ⟨v9.heap.size, 0, none⟩) 2 2 3 [2, 1] _ rfl (Sl.new rfl rfl) (by decide) (by decide)).mono ?_
  rintro e v10 ⟨rfl, b10⟩
  have B10 := b10'.trans (b10.mono b10'.size)
  clear b10' b10 B9
  go_wp2_with fail
  have b11' : Below w.heap.size w (v10.alloc (.cells #[.int .u8 8, .int .u8 128, .int .u8 0, .int .u8 0, .int .u8 0, .int .u8 0, .int .u8 0, .int .u8 0, .int .u8 0] 5)) := B10.alloc B10.size _
  refine (numberLaw_calls (some ⟨v10.heap.size, 0, none⟩) 9 9 4 [8, 128, 0, 0, 0, 0, 0, 0, 0] _ rfl (Sl.new rfl rfl) (by decide) (by decide)).mono ?_
  rintro e v11 ⟨rfl, b11⟩
  have B11 := b11'.trans (b11.mono b11'.size)
  clear b11' b11 B10
  go_wp2_with fail
  have b12' : Below w.heap.size w (v11.alloc (.cells #[.int .u8 1, .int .u8 5] 5)) := B11.alloc B11.size _
  refine (read_calls (some ⟨v11.heap.size, 0, none⟩) 2 2 [1, 5] _ rfl (Sl.new rfl rfl) (by decide)).mono ?_
  rintro e v12 ⟨p1, rfl, hp1, r1, b12⟩
  replace hp1 := Nat.le_trans b12'.size hp1
  have B12 := b12'.trans (b12.mono b12'.size)
  clear b12' b12 B11
  go_wp2_with fail
  have b13' : Below w.heap.size w (v12.alloc (.cells #[.int .u8 1, .int .u8 3, .int .u8 97] 5)) := B12.alloc B12.size _
  refine (read_calls (some ⟨v12.heap.size, 0, none⟩) 3 3 [1, 3, 97] _ rfl (Sl.new rfl rfl) (by decide)).mono ?_
  rintro e v13 ⟨p2, rfl, hp2, r2, b13⟩
  have n12 : p1 ≠ p2 := by have h1 := r1.lt; have h2 := hp2; simp at h2; omega
  replace r1 := r1.keep (((Below.refl _ _).alloc (Nat.le_refl _) (.cells #[.int .u8 1, .int .u8 3, .int .u8 97] 5)).trans (b13.mono (by simp)))
  replace hp2 := Nat.le_trans b13'.size hp2
  have B13 := b13'.trans (b13.mono b13'.size)
  clear b13' b13 B12
  go_wp2_with fail
  have b14' : Below w.heap.size w (v13.alloc (.cells #[.int .u8 0] 5)) := B13.alloc B13.size _
  refine (read_calls (some ⟨v13.heap.size, 0, none⟩) 1 1 [0] _ rfl (Sl.new rfl rfl) (by decide)).mono ?_
  rintro e v14 ⟨p3, rfl, hp3, r3, b14⟩
  have n13 : p1 ≠ p3 := by have h1 := r1.lt; have h2 := hp3; simp at h2; omega
  replace r1 := r1.keep (((Below.refl _ _).alloc (Nat.le_refl _) (.cells #[.int .u8 0] 5)).trans (b14.mono (by simp)))
  have n23 : p2 ≠ p3 := by have h1 := r2.lt; have h2 := hp3; simp at h2; omega
  replace r2 := r2.keep (((Below.refl _ _).alloc (Nat.le_refl _) (.cells #[.int .u8 0] 5)).trans (b14.mono (by simp)))
  replace hp3 := Nat.le_trans b14'.size hp3
  have B14 := b14'.trans (b14.mono b14'.size)
  clear b14' b14 B13
  go_wp2_with fail
  refine (upto_calls p1 [1, 5] 0 0 4 _ r1 (by decide)).mono ?_
  rw [show up [1, 5] 0 0 4 = (0, 0, 2) by decide]
  rintro e v15 ⟨rfl, r1', t15⟩
  replace r2 := r2.apart r1 n12.symm t15
  replace r3 := r3.apart r1 n13.symm t15
  have B15 := below_grown B14 t15.1 B14.size hp1
  clear r1 t15 B14
  have r1 := r1'
  clear r1'
  go_wp2_with fail
  refine (err_calls p1 [1, 5] 0 2 _ r1).mono ?_
  unfold After
  rintro e v16 ⟨rfl, r1', t16⟩
  replace r2 := r2.apart r1 n12.symm t16
  replace r3 := r3.apart r1 n13.symm t16
  have B16 := below_grown B15 t16.1 B15.size hp1
  clear r1 t16 B15
  have r1 := r1'
  clear r1'
  go_wp2_with fail
  refine (at_calls p1 [1, 5] 0 2 _ r1).mono ?_
  unfold After
  rintro e v17 ⟨rfl, r1', t17⟩
  replace r2 := r2.apart r1 n12.symm t17
  replace r3 := r3.apart r1 n13.symm t17
  have B17 := below_grown B16 t17.1 B16.size hp1
  clear r1 t17 B16
  have r1 := r1'
  clear r1'
  go_wp2_with fail
  refine (rtext_calls p2 [1, 3, 97] 0 0 9 _ r2 (by decide)).mono ?_
  unfold After
  rw [show tx [1, 3, 97] 0 0 9 = ([], 0, 3) by decide]
  rintro e v18 ⟨rfl, r2', t18⟩
  replace r1 := r1.apart r2 n12 t18
  replace r3 := r3.apart r2 n23.symm t18
  have B18 := below_grown B17 t18.1 B17.size hp2
  clear r2 t18 B17
  have r2 := r2'
  clear r2'
  go_wp2_with fail
  refine (err_calls p2 [1, 3, 97] 0 3 _ r2).mono ?_
  unfold After
  rintro e v19 ⟨rfl, r2', t19⟩
  replace r1 := r1.apart r2 n12 t19
  replace r3 := r3.apart r2 n23.symm t19
  have B19 := below_grown B18 t19.1 B18.size hp2
  clear r2 t19 B18
  have r2 := r2'
  clear r2'
  go_wp2_with fail
  refine (at_calls p2 [1, 3, 97] 0 3 _ r2).mono ?_
  unfold After
  rintro e v20 ⟨rfl, r2', t20⟩
  replace r1 := r1.apart r2 n12 t20
  replace r3 := r3.apart r2 n23.symm t20
  have B20 := below_grown B19 t20.1 B19.size hp2
  clear r2 t20 B19
  have r2 := r2'
  clear r2'
  go_wp2_with fail
  refine (end_calls p3 [0] 0 0 _ r3).mono ?_
  unfold After
  rw [show endE [0] 0 0 = 5 by decide]
  rintro e v21 ⟨rfl, r3', t21⟩
  replace r1 := r1.apart r3 n13 t21
  replace r2 := r2.apart r3 n23 t21
  have B21 := below_grown B20 t21.1 B20.size hp3
  clear r3 t21 B20
  have r3 := r3'
  clear r3'
  go_wp2_with fail
  refine (err_calls p3 [0] 0 5 _ r3).mono ?_
  unfold After
  rintro e v22 ⟨rfl, r3', t22⟩
  replace r1 := r1.apart r3 n13 t22
  replace r2 := r2.apart r3 n23 t22
  have B22 := below_grown B21 t22.1 B21.size hp3
  clear r3 t22 B21
  have r3 := r3'
  clear r3'
  go_wp2_with fail
  refine (at_calls p3 [0] 0 5 _ r3).mono ?_
  unfold After
  rintro e v23 ⟨rfl, r3', t23⟩
  replace r1 := r1.apart r3 n13 t23
  replace r2 := r2.apart r3 n23 t23
  have B23 := below_grown B22 t23.1 B22.size hp3
  clear r3 t23 B22
  have r3 := r3'
  clear r3'
  go_wp2_with fail
  go_ret
  exact ⟨rfl, B23⟩
end Go.Proofs.Ytepmnhlfjidhjaa
