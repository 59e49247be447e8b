/-
  An item asked of both readers: the answer is the same.
-/
import Derived.Test.YtepmnhlfjidhjaaWireBoth
import Derived.Deep.DeepCutAuto
namespace Go.Proofs.Ytepmnhlfjidhjaa
open Go.RowKit Go.Mem

section
variable {w0 W W' : World} {p q g : Nat} {bs : List UInt8} {a er a2 er2 a' er' : Nat} {cs : List Value}
theorem RW.itemR (h : RW w0 W p q bs a er a2 er2) (hb : Blk W g 53 cs) (t : Turned p W W') : Blk W' g 53 cs := by
  obtain ⟨_, _, h1, _⟩ := h.r.blk
  exact hb.only t.1 (hb.ne_ h1 (by decide))
theorem RW.itemE (h : RW w0 W p q bs a er a2 er2) (hb : Blk W g 53 cs) (t : Turned q W W') : Blk W' g 53 cs := by
  obtain ⟨_, _, h1, _⟩ := h.e.blk
  exact hb.only t.1 (hb.ne_ h1 (by decide))
theorem RW.ownE {B n c : Nat} {D : Option Addr} {xs : List Value} (h : RW w0 W p q bs a er a2 er2) (hb : OwnB W B 3 1 D n c xs) (t : Turned q W W') : OwnB W' B 3 1 D n c xs := by
  obtain ⟨_, _, h1, _⟩ := h.e.blk
  exact hb.only h1 (by decide) t.1
end
def AskEnd (w0 : World) (p q : Nat) (bs : List UInt8) (e : Ending) (w' : World) : Prop := e = .returned (.bool true) ∧ ∃ a er, RW w0 w' p q bs a er a er
theorem str_eq (x : ByteArray) : (x.toList == x.toList) = true := by simp
theorem own_len {w : World} {B n c : Nat} {e : TypeId} {D : Option Addr} {xs : List Int} (h : OwnB w B e 1 D n c (xs.map I64)) : xs.length = n := by
  have := h.len; rw [List.length_map, Nat.mul_one] at this; exact this

def StepW (w0 : World) (p q : Nat) (bs : List UInt8) (g : Nat) (cs : List Value) (v : Value) (a1 e1 a2 e2 : Nat) (e : Ending) (w' : World) : Prop := e = .returned v ∧ RW w0 w' p q bs a1 e1 a2 e2 ∧ Blk w' g 53 cs
theorem step_r {w0 W : World} {p q : Nat} {bs : List UInt8} {g : Nat} {cs : List Value} {a er a2 e2 a1 e1 : Nat} {f : FuncId} {args : Array Value} {v : Value} (h : RW w0 W p q bs a er a2 e2) (hg : Blk W g 53 cs) (hc : Calls Try.prog f args W (After p bs W v a1 e1)) : Calls Try.prog f args W (StepW w0 p q bs g cs v a1 e1 a2 e2) :=
  hc.mono fun _ _ ⟨he, hr, ht⟩ => ⟨he, h.turnR hr ht, h.itemR hg ht⟩
theorem step_e {w0 W : World} {p q : Nat} {bs : List UInt8} {g : Nat} {cs : List Value} {a er a2 e2 a1 e1 : Nat} {f : FuncId} {args : Array Value} {v : Value} (h : RW w0 W p q bs a er a2 e2) (hg : Blk W g 53 cs) (hc : Calls Try.prog f args W (AfterE q bs W v a1 e1)) : Calls Try.prog f args W (StepW w0 p q bs g cs v a er a1 e1) :=
  hc.mono fun _ _ ⟨he, hr, ht⟩ => ⟨he, h.turnE hr ht, h.itemE hg ht⟩

theorem it_len (bs : List UInt8) (a er : Nat) (m : Int) : (it bs a er m).1.length ≤ 9223372036854775807 := by
  have h1 := up_lt bs a er m
  have h2 := steps_len bs (up bs a er m).2.1 (up bs a er m).1
  unfold it
  split
  · simp
  · split
    · simp
    · split
      · simp
      · omega
def ItR (w0 : World) (p q : Nat) (bs : List UInt8) (g : Nat) (cs : List Value) (xs : List Int) (a1 e1 a2 e2 : Nat) (e : Ending) (w' : World) : Prop := ∃ D n c, e = .returned (.slice D n c) ∧ Hid (∃ B, OwnB w' B 3 1 D n c (xs.map I64)) ∧ RW w0 w' p q bs a1 e1 a2 e2 ∧ Blk w' g 53 cs
theorem items_r {w0 W : World} {p q : Nat} {bs : List UInt8} {g : Nat} {cs : List Value} {a er a2 e2 : Nat} {m : Int} (h : RW w0 W p q bs a er a2 e2) (hg : Blk W g 53 cs) (hm : -9223372036854775808 ≤ m ∧ m ≤ 9223372036854775807) (hbs : 8 * bs.length ≤ 70368744177664) :
    Calls Try.prog 101 #[.pointer (some ⟨p, 0, none⟩), .int .i64 m, .func (.func 102) #[] #[]] W (ItR w0 p q bs g cs (it bs a er m).1 (it bs a er m).2.1 (it bs a er m).2.2 a2 e2) :=
  (items_calls p bs a er m W h.r hm hbs).mono fun _ _ ⟨D, n, c, he, ho, hr, ht⟩ => ⟨D, n, c, he, (show ∃ _, _ from ⟨_, ho⟩), h.turnR hr ht, h.itemR hg ht⟩
theorem items_e {w0 W : World} {p q : Nat} {bs : List UInt8} {g : Nat} {cs : List Value} {a er a2 e2 n1 c1 : Nat} {m : Int} {D1 : Option Addr} {xs : List Value} (h : RW w0 W p q bs a er a2 e2) (hg : Blk W g 53 cs) (ho1 : ∃ B, OwnB W B 3 1 D1 n1 c1 xs) (hm : -9223372036854775808 ≤ m ∧ m ≤ 9223372036854775807) (hbs : 8 * bs.length ≤ 70368744177664) :
    Calls Try.prog 103 #[.pointer (some ⟨q, 0, none⟩), .int .i64 m] W (fun e w' => ItR w0 p q bs g cs (it bs a2 e2 m).1 a er (it bs a2 e2 m).2.1 (it bs a2 e2 m).2.2 e w' ∧ Hid (∃ B, OwnB w' B 3 1 D1 n1 c1 xs)) :=
  (reitems_calls q bs a2 e2 m W h.e hm hbs).mono fun _ _ ⟨D, n, c, he, ho, hr, ht⟩ => ⟨⟨D, n, c, he, (show ∃ _, _ from ⟨_, ho⟩), h.turnE hr ht, h.itemE hg ht⟩, (show ∃ _, _ from ⟨_, h.ownE ho1.choose_spec ht⟩)⟩
def SameEnd (w0 : World) (p q : Nat) (bs : List UInt8) (g : Nat) (cs : List Value) (a er : Nat) (e : Ending) (w' : World) : Prop := e = .returned (.bool true) ∧ RW w0 w' p q bs a er a er ∧ Blk w' g 53 cs
theorem sameW {w0 W : World} {p q : Nat} {bs : List UInt8} {g : Nat} {cs : List Value} {a er n1 c1 n2 c2 : Nat} {D1 D2 : Option Addr} {xs : List Int} (h : RW w0 W p q bs a er a er) (hg : Blk W g 53 cs) (h1 : ∃ B, OwnB W B 3 1 D1 n1 c1 (xs.map I64)) (h2 : ∃ B, OwnB W B 3 1 D2 n2 c2 (xs.map I64)) (hl : xs.length ≤ 9223372036854775807) :
    Calls Try.prog 79 #[.slice D1 n1 c1, .slice D2 n2 c2] W (SameEnd w0 p q bs g cs a er) := by
  obtain ⟨B1, o1⟩ := h1
  obtain ⟨B2, o2⟩ := h2
  have l1 := own_len o1
  have l2 := own_len o2
  refine (sameI_calls D1 D2 n1 n2 c1 c2 xs xs W l1 l2 (by omega) (by omega) o1.sl o2.sl).mono ?_
  rintro e w' ⟨he, n, rfl⟩
  rw [eqL_self] at he
  exact ⟨he, h.drewN n, hg.drewN n⟩

set_option maxRecDepth 100000 in
set_option maxHeartbeats 6400000 in
theorem ask_calls (w0 W : World) (p q : Nat) (bs : List UInt8) (a er : Nat) (i : Itm) (h : RW w0 W p q bs a er a er) (hm : inI64 i.m) (hbs : 8 * bs.length ≤ 70368744177664) :
    Calls Try.prog 31 #[.pointer (some ⟨p, 0, none⟩), .pointer (some ⟨q, 0, none⟩), .agg #[.int .i64 i.k, .int .i64 i.x, .int .i64 i.m, .string i.s, .bool i.f, .slice i.L i.ln i.lc]] W (AskEnd w0 p q bs) := by
  obtain ⟨k, x, m, s, f, L, ln, lc, zs⟩ := i
  simp only at hm ⊢
  have HM : Hid (-9223372036854775808 ≤ m ∧ m ≤ 9223372036854775807) := (show _ ∧ _ from hm)
  have H1 := Lib.hid (h.below ((Below.refl _ _).alloc (Nat.le_refl _) (.cells #[.int .i64 k, .int .i64 x, .int .i64 m, .string s, .bool f, .slice L ln lc] 53)))
  have HG := Lib.hid (Blk.new W 53 #[.int .i64 k, .int .i64 x, .int .i64 m, .string s, .bool f, .slice L ln lc])
  unfold AskEnd
  clear hm h
  by_cases k1 : k = 1
  · subst k1
    have HR := Lib.hid (fun W (h : RW w0 W p q bs a er a er) => rnum_calls p bs a er W h.r)
    have HE := Lib.hid (fun W a1 e1 (h : RW w0 W p q bs a1 e1 a er) => renum_calls q bs a er W h.e)
    unfold After at HR
    unfold AfterE at HE
    generalize nu bs a er = d at HR HE
    obtain ⟨v, a1, e1⟩ := d
    have ev : ((v : Int) == (v : Int)) = true := beq_iff_eq.2 rfl
    go_enter Try.func31, Try.ntmps31
    go_wp2_with fail
    refine (HR.out _ H1.out).mono ?_
    rintro e w1 ⟨rfl, r1, t1⟩
    have H2 := Lib.hid (H1.out.turnR r1 t1)
    clear r1 t1 H1 HR
    go_wp2_with fail
    refine (HE.out _ _ _ H2.out).mono ?_
    rintro e w2 ⟨rfl, r2, t2⟩
    have H3 := Lib.hid (H2.out.turnE r2 t2)
    clear r2 t2 H2 HE
    go_wp2_with fail
    go_ret
    exact ⟨rfl, _, _, H3.out⟩
  have n1 : (k == 1) = false := beq_eq_false_iff_ne.2 k1
  by_cases k3 : k = 3
  · subst k3
    have HR := Lib.hid (fun W (h : RW w0 W p q bs a er a er) => rflag_calls p bs a er W h.r)
    have HE := Lib.hid (fun W a1 e1 (h : RW w0 W p q bs a1 e1 a er) => reflag_calls q bs a er W h.e)
    unfold After at HR
    unfold AfterE at HE
    generalize fl bs a er = d at HR HE
    obtain ⟨v, a1, e1⟩ := d
    have ev : (v == v) = true := by cases v <;> rfl
    go_enter Try.func31, Try.ntmps31
    go_wp2_with fail
    refine (HR.out _ H1.out).mono ?_
    rintro e w1 ⟨rfl, r1, t1⟩
    have H2 := Lib.hid (H1.out.turnR r1 t1)
    clear r1 t1 H1 HR
    go_wp2_with fail
    refine (HE.out _ _ _ H2.out).mono ?_
    rintro e w2 ⟨rfl, r2, t2⟩
    have H3 := Lib.hid (H2.out.turnE r2 t2)
    clear r2 t2 H2 HE
    go_wp2_with fail
    go_ret
    exact ⟨rfl, _, _, H3.out⟩
  have n3 : (k == 3) = false := beq_eq_false_iff_ne.2 k3
  by_cases k2 : k = 2
  · subst k2
    have HR := Lib.hid (fun W g (h : RW w0 W p q bs a er a er) (hg : Blk W g 53 [.int .i64 2, .int .i64 x, .int .i64 m, .string s, .bool f, .slice L ln lc]) => step_r h hg (rtext_calls p bs a er m W h.r HM.out))
    have HE := Lib.hid (fun W g a1 e1 (h : RW w0 W p q bs a1 e1 a er) (hg : Blk W g 53 [.int .i64 2, .int .i64 x, .int .i64 m, .string s, .bool f, .slice L ln lc]) => step_e h hg (retext_calls q bs a er m W h.e HM.out))
    unfold StepW at HR HE
    generalize tx bs a er m = d at HR HE
    obtain ⟨v, a1, e1⟩ := d
    simp only at HR HE
    generalize (⟨v.toArray⟩ : ByteArray) = v at HR HE
    have ev := str_eq v
    go_enter Try.func31, Try.ntmps31
    go_upto_region 1 with fail
    generalize W.alloc (.cells #[.int .i64 2, .int .i64 x, .int .i64 m, .string s, .bool f, .slice L ln lc] 53) = W1 at *
    generalize W.heap.size = g at *
    have y0 := HG.out.cell 0
    have y2 := HG.out.cell 2
    simp only [List.getElem?_cons_zero, List.getElem?_cons_succ] at y0 y2
    go_wp2_with fail
    go_region_held3 (fun w' => w'.cell? ⟨g, 2, none⟩ = some (.int .i64 m)) (first | (exact hg2.out.cell 2) | go_keep) (first | (go_at_call 95; refine (HR.out _ _ (by first | exact H1.out | exact H1.out.drew) (by first | exact HG.out | exact HG.out.drew)).mono ?_; rintro e w1 ⟨rfl, H2, hg2⟩; replace H2 := Lib.hid H2; replace hg2 := Lib.hid hg2) | (go_at_call 96; refine (HE.out _ _ _ _ H2.out hg2.out).mono ?_; clear hg2; rintro e w2 ⟨rfl, H3, hg2⟩; replace H3 := Lib.hid H3; replace hg2 := Lib.hid hg2))
    all_goals
      go_wp2_with fail
      go_ret
      exact ⟨rfl, _, _, H3.out⟩
  have n2 : (k == 2) = false := beq_eq_false_iff_ne.2 k2
  by_cases k4 : k = 4
  · subst k4
    have HR := Lib.hid (fun W g (h : RW w0 W p q bs a er a er) (hg : Blk W g 53 [.int .i64 4, .int .i64 x, .int .i64 m, .string s, .bool f, .slice L ln lc]) => step_r h hg (upto_calls p bs a er m W h.r HM.out))
    have HE := Lib.hid (fun W g a1 e1 (h : RW w0 W p q bs a1 e1 a er) (hg : Blk W g 53 [.int .i64 4, .int .i64 x, .int .i64 m, .string s, .bool f, .slice L ln lc]) => step_e h hg (reupto_calls q bs a er m W h.e HM.out))
    unfold StepW at HR HE
    generalize up bs a er m = d at HR HE
    obtain ⟨v, a1, e1⟩ := d
    simp only at HR HE
    have ev : ((v : Int) == (v : Int)) = true := beq_iff_eq.2 rfl
    go_enter Try.func31, Try.ntmps31
    go_upto_region 1 with fail
    generalize W.alloc (.cells #[.int .i64 4, .int .i64 x, .int .i64 m, .string s, .bool f, .slice L ln lc] 53) = W1 at *
    generalize W.heap.size = g at *
    have y0 := HG.out.cell 0
    have y2 := HG.out.cell 2
    simp only [List.getElem?_cons_zero, List.getElem?_cons_succ] at y0 y2
    go_wp2_with fail
    go_region_held3 (fun w' => w'.cell? ⟨g, 2, none⟩ = some (.int .i64 m)) (first | (exact hg2.out.cell 2) | go_keep) (first | (go_at_call 99; refine (HR.out _ _ (by first | exact H1.out | exact H1.out.drew) (by first | exact HG.out | exact HG.out.drew)).mono ?_; rintro e w1 ⟨rfl, H2, hg2⟩; replace H2 := Lib.hid H2; replace hg2 := Lib.hid hg2) | (go_at_call 100; refine (HE.out _ _ _ _ H2.out hg2.out).mono ?_; clear hg2; rintro e w2 ⟨rfl, H3, hg2⟩; replace H3 := Lib.hid H3; replace hg2 := Lib.hid hg2))
    all_goals
      go_wp2_with fail
      go_ret
      exact ⟨rfl, _, _, H3.out⟩
  have n4 : (k == 4) = false := beq_eq_false_iff_ne.2 k4
  by_cases k5 : k = 5
  · subst k5
    have HR := Lib.hid (fun W g (h : RW w0 W p q bs a er a er) (hg : Blk W g 53 [.int .i64 5, .int .i64 x, .int .i64 m, .string s, .bool f, .slice L ln lc]) => items_r h hg HM.out hbs)
    have HE := Lib.hid (fun W g a1 e1 D1 n1 c1 xs (h : RW w0 W p q bs a1 e1 a er) (hg : Blk W g 53 [.int .i64 5, .int .i64 x, .int .i64 m, .string s, .bool f, .slice L ln lc]) ho1 => items_e (D1 := D1) (n1 := n1) (c1 := c1) (xs := xs) h hg ho1 HM.out hbs)
    have hil := it_len bs a er m
    unfold ItR at HR HE
    generalize it bs a er m = d at HR HE hil
    obtain ⟨v, a1, e1⟩ := d
    simp only at HR HE hil
    have HS := Lib.hid (fun W g D1 n1 c1 D2 n2 c2 (h : RW w0 W p q bs a1 e1 a1 e1) (hg : Blk W g 53 [.int .i64 5, .int .i64 x, .int .i64 m, .string s, .bool f, .slice L ln lc]) h1 h2 => sameW (D1 := D1) (n1 := n1) (c1 := c1) (D2 := D2) (n2 := n2) (c2 := c2) (xs := v) h hg h1 h2 hil)
    unfold SameEnd at HS
    clear hil
    go_enter Try.func31, Try.ntmps31
    go_upto_region 1 with fail
    generalize W.alloc (.cells #[.int .i64 5, .int .i64 x, .int .i64 m, .string s, .bool f, .slice L ln lc] 53) = W1 at *
    generalize W.heap.size = g at *
    have y0 := HG.out.cell 0
    have y2 := HG.out.cell 2
    simp only [List.getElem?_cons_zero, List.getElem?_cons_succ] at y0 y2
    go_wp2_with fail
    go_region_held3 (fun w' => w'.cell? ⟨g, 2, none⟩ = some (.int .i64 m)) (first | (exact hg2.out.cell 2) | go_keep) (first | (go_at_call 101; refine (HR.out _ _ (by first | exact H1.out | exact H1.out.drew) (by first | exact HG.out | exact HG.out.drew)).mono ?_; rintro e w1 ⟨D1, m1, c1, rfl, ho1, H2, hg2⟩; replace H2 := Lib.hid H2; replace hg2 := Lib.hid hg2) | (go_at_call 103; refine (HE.out _ _ _ _ _ _ _ _ H2.out hg2.out ho1.out).mono ?_; clear hg2 ho1; rintro e w2 ⟨⟨D2, m2, c2, rfl, ho2, H3, hg2⟩, ho1⟩; replace H3 := Lib.hid H3; replace hg2 := Lib.hid hg2) | (go_at_call 79; refine (HS.out _ _ _ _ _ _ _ _ H3.out hg2.out ho1.out ho2.out).mono ?_; clear hg2 ho1 ho2; rintro e w3 ⟨rfl, H4, hg2⟩; replace H4 := Lib.hid H4; replace hg2 := Lib.hid hg2))
    all_goals
      go_wp2_with fail
      go_ret
      exact ⟨rfl, _, _, H4.out⟩
  have n5 : (k == 5) = false := beq_eq_false_iff_ne.2 k5
  have HR := Lib.hid (fun W (h : RW w0 W p q bs a er a er) => end_calls p bs a er W h.r)
  have HE := Lib.hid (fun W a1 e1 (h : RW w0 W p q bs a1 e1 a er) => reend_calls q bs a er W h.e)
  unfold After at HR
  unfold AfterE at HE
  generalize endE bs a er = v at HR HE
  have ev : ((v : Int) == (v : Int)) = true := beq_iff_eq.2 rfl
  go_enter Try.func31, Try.ntmps31
  go_wp2_with fail
  refine (HR.out _ H1.out).mono ?_
  rintro e w1 ⟨rfl, r1, t1⟩
  have H2 := Lib.hid (H1.out.turnR r1 t1)
  clear r1 t1 H1 HR
  go_wp2_with fail
  refine (HE.out _ _ _ H2.out).mono ?_
  rintro e w2 ⟨rfl, r2, t2⟩
  have H3 := Lib.hid (H2.out.turnE r2 t2)
  clear r2 t2 H2 HE
  go_wp2_with fail
  go_ret
  exact ⟨rfl, _, _, H3.out⟩
end Go.Proofs.Ytepmnhlfjidhjaa
