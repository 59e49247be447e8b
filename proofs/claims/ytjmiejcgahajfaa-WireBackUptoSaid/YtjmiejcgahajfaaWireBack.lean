/-
  The law's own 'back': an item asked of a reader again.
-/
import Derived.Test.YtjmiejcgahajfaaWireMethods
import Derived.Test.YtjmiejcgahajfaaWirePutLaw
namespace Go.Proofs.Ytjmiejcgahajfaa
open Go.RowKit Go.Mem

/-- a block of its own beside the reader -/
theorem Turned.new {p : Nat} {w : World} (hp : p < w.heap.size) (o : Obj) : Turned p w (w.alloc o) :=
  (Turned.drew p w 0).beside ((Below.refl _ _).alloc (Nat.le_refl _) o) hp
theorem Turned.cell_far {p g o : Nat} {w w' : World} {v : Value} (h : Turned p w w') (hg : w.cell? ⟨g, o, none⟩ = some v) (hne : g ≠ p) : w'.cell? ⟨g, o, none⟩ = some v := (grown_cell h.1 (lt_of_cell hg) hne).trans hg

set_option maxHeartbeats 1000000 in
theorem backNum_calls (p : Nat) (cs : List UInt8) (a er : Nat) (x m : Int) (s : ByteArray) (f : Bool) (L : Option Addr) (ln lc : Nat) (w : World) (h : Rd w p cs a er) (hx : inI64 x) : Calls Try.prog 30 #[.pointer (some ⟨p, 0, none⟩), itVal 1 x m s f L ln lc] w (After p cs w (.bool (decide ((nu cs a er).1 = x.toNat))) (nu cs a er).2.1 (nu cs a er).2.2) := by
  have hp := h.lt
  have t0 := Turned.new hp (.cells #[.int .i64 1, .int .i64 x, .int .i64 m, .string s, .bool f, .slice L ln lc] 43)
  have r0 := h.keep ((Below.refl _ _).alloc (Nat.le_refl _) (.cells #[.int .i64 1, .int .i64 x, .int .i64 m, .string s, .bool f, .slice L ln lc] 43))
  unfold inI64 at hx
  have HU := Lib.hid (rnum_calls p cs a er _ r0)
  unfold After at HU ⊢
  unfold itVal
  generalize nu cs a er = d at HU ⊢
  obtain ⟨v, a1, e1⟩ := d
  by_cases hx0 : x < 0
  · have hb : ((v : Int) == 0) = decide (v = x.toNat) := by
      rw [show x.toNat = 0 by omega]
      by_cases hv : v = 0
      · subst hv; rfl
      · rw [decide_eq_false hv]; exact beq_eq_false_iff_ne.2 (by omega)
    have HB := Lib.hid hb
    clear hb
    go_enter Try.func30, Try.ntmps30
    go_wp2_with fail
    refine HU.out.mono ?_
    rintro e w1 ⟨rfl, r1, t1⟩
    go_wp2_with fail
    go_ret
    first
      | exact ⟨rfl, r1, t0.trans t1⟩
      | exact ⟨by rw [HB.out]; rfl, r1, t0.trans t1⟩
  · have hb : ((v : Int) == x) = decide (v = x.toNat) := by
      by_cases hv : v = x.toNat
      · rw [decide_eq_true hv]; exact beq_iff_eq.2 (by omega)
      · rw [decide_eq_false hv]; exact beq_eq_false_iff_ne.2 (by omega)
    have HB := Lib.hid hb
    clear hb
    go_enter Try.func30, Try.ntmps30
    go_wp2_with fail
    refine HU.out.mono ?_
    rintro e w1 ⟨rfl, r1, t1⟩
    go_wp2_with fail
    go_ret
    first
      | exact ⟨rfl, r1, t0.trans t1⟩
      | exact ⟨by rw [HB.out]; rfl, r1, t0.trans t1⟩

set_option maxHeartbeats 1000000 in
theorem backUpto_calls (p : Nat) (cs : List UInt8) (a er : Nat) (x m : Int) (s : ByteArray) (f : Bool) (L : Option Addr) (ln lc : Nat) (w : World) (h : Rd w p cs a er) (hx : inI64 x) : Calls Try.prog 30 #[.pointer (some ⟨p, 0, none⟩), itVal 4 x m s f L ln lc] w (After p cs w (.bool (decide ((up cs a er (x.toNat : Int)).1 = x.toNat))) (up cs a er (x.toNat : Int)).2.1 (up cs a er (x.toNat : Int)).2.2) := by
  have hp := h.lt
  have t0 := Turned.new hp (.cells #[.int .i64 4, .int .i64 x, .int .i64 m, .string s, .bool f, .slice L ln lc] 43)
  have r0 := h.keep ((Below.refl _ _).alloc (Nat.le_refl _) (.cells #[.int .i64 4, .int .i64 x, .int .i64 m, .string s, .bool f, .slice L ln lc] 43))
  unfold inI64 at hx
  have HU := Lib.hid (upto_calls p cs a er (x.toNat : Int) _ r0 (by omega))
  unfold After
  unfold itVal
  generalize up cs a er (x.toNat : Int) = d at HU ⊢
  obtain ⟨v, a1, e1⟩ := d
  by_cases hx0 : x < 0
  · have hb : ((v : Int) == 0) = decide (v = x.toNat) := by
      rw [show x.toNat = 0 by omega]
      by_cases hv : v = 0
      · subst hv; rfl
      · rw [decide_eq_false hv]; exact beq_eq_false_iff_ne.2 (by omega)
    have hxt : (x.toNat : Int) = 0 := by omega
    rw [hxt] at HU
    clear hxt
    have HB := Lib.hid hb
    clear hb
    go_enter Try.func30, Try.ntmps30
    go_wp2_with fail
    refine HU.out.mono ?_
    rintro e w1 ⟨rfl, r1, t1⟩
    go_wp2_with fail
    go_ret
    first
      | exact ⟨rfl, r1, t0.trans t1⟩
      | exact ⟨by rw [HB.out]; rfl, r1, t0.trans t1⟩
  · have hb : ((v : Int) == x) = decide (v = x.toNat) := by
      by_cases hv : v = x.toNat
      · rw [decide_eq_true hv]; exact beq_iff_eq.2 (by omega)
      · rw [decide_eq_false hv]; exact beq_eq_false_iff_ne.2 (by omega)
    have hxt : (x.toNat : Int) = x := by omega
    rw [hxt] at HU
    clear hxt
    have HB := Lib.hid hb
    clear hb
    go_enter Try.func30, Try.ntmps30
    go_wp2_with fail
    refine HU.out.mono ?_
    rintro e w1 ⟨rfl, r1, t1⟩
    go_wp2_with fail
    go_ret
    first
      | exact ⟨rfl, r1, t0.trans t1⟩
      | exact ⟨by rw [HB.out]; rfl, r1, t0.trans t1⟩

set_option maxHeartbeats 2000000 in
theorem backText_calls (p : Nat) (cs : List UInt8) (a er : Nat) (x m : Int) (s : ByteArray) (f : Bool) (L : Option Addr) (ln lc : Nat) (w : World) (h : Rd w p cs a er) (hsz : s.size ≤ 1048576) : Calls Try.prog 30 #[.pointer (some ⟨p, 0, none⟩), itVal 2 x m s f L ln lc] w (After p cs w (.bool ((tx cs a er (s.size : Int)).1 == s.toList)) (tx cs a er (s.size : Int)).2.1 (tx cs a er (s.size : Int)).2.2) := by
  have hp := h.lt
  have t0 := Turned.new hp (.cells #[.int .i64 2, .int .i64 x, .int .i64 m, .string s, .bool f, .slice L ln lc] 43)
  have r0 := h.keep ((Below.refl _ _).alloc (Nat.le_refl _) (.cells #[.int .i64 2, .int .i64 x, .int .i64 m, .string s, .bool f, .slice L ln lc] 43))
  have hc3 := (Blk.new w 43 #[.int .i64 2, .int .i64 x, .int .i64 m, .string s, .bool f, .slice L ln lc]).cell 3
  simp only [List.getElem?_cons_zero, List.getElem?_cons_succ] at hc3
  have HU := Lib.hid (fun W (r : Rd W p cs a er) => rtext_calls p cs a er (s.size : Int) W r (by omega))
  unfold After at HU ⊢
  unfold itVal
  generalize tx cs a er (s.size : Int) = d at HU ⊢
  obtain ⟨v, a1, e1⟩ := d
  by_cases hx0 : x < 0
  · go_enter Try.func30, Try.ntmps30
    go_wp2_with fail
    generalize w.alloc (.cells #[.int .i64 2, .int .i64 x, .int .i64 m, .string s, .bool f, .slice L ln lc] 43) = w0 at t0 r0 hc3 ⊢
    go_region_with (
      (refine (HU.out _ (r0.q (Q.drewN _ 1))).mono ?_
       rintro e w1 ⟨rfl, r1, t1⟩
       have t2 := (Turned.drew p w0 1).trans t1
       have hd := t2.cell_far hc3 (by omega)
       clear t1))
    all_goals go_wp2_with fail
    all_goals go_ret
    all_goals exact ⟨rfl, r1, t0.trans t2⟩
  · go_enter Try.func30, Try.ntmps30
    go_wp2_with fail
    generalize w.alloc (.cells #[.int .i64 2, .int .i64 x, .int .i64 m, .string s, .bool f, .slice L ln lc] 43) = w0 at t0 r0 hc3 ⊢
    go_region_with (
      (refine (HU.out _ (r0.q (Q.drewN _ 1))).mono ?_
       rintro e w1 ⟨rfl, r1, t1⟩
       have t2 := (Turned.drew p w0 1).trans t1
       have hd := t2.cell_far hc3 (by omega)
       clear t1))
    all_goals go_wp2_with fail
    all_goals go_ret
    all_goals exact ⟨rfl, r1, t0.trans t2⟩

set_option maxHeartbeats 2000000 in
theorem backFlag_calls (p : Nat) (cs : List UInt8) (a er : Nat) (x m : Int) (s : ByteArray) (f : Bool) (L : Option Addr) (ln lc : Nat) (w : World) (h : Rd w p cs a er) : Calls Try.prog 30 #[.pointer (some ⟨p, 0, none⟩), itVal 3 x m s f L ln lc] w (After p cs w (.bool ((fl cs a er).1 == f)) (fl cs a er).2.1 (fl cs a er).2.2) := by
  have hp := h.lt
  have t0 := Turned.new hp (.cells #[.int .i64 3, .int .i64 x, .int .i64 m, .string s, .bool f, .slice L ln lc] 43)
  have r0 := h.keep ((Below.refl _ _).alloc (Nat.le_refl _) (.cells #[.int .i64 3, .int .i64 x, .int .i64 m, .string s, .bool f, .slice L ln lc] 43))
  have hc4 := (Blk.new w 43 #[.int .i64 3, .int .i64 x, .int .i64 m, .string s, .bool f, .slice L ln lc]).cell 4
  simp only [List.getElem?_cons_zero, List.getElem?_cons_succ] at hc4
  have HU := Lib.hid (fun W (r : Rd W p cs a er) => rflag_calls p cs a er W r)
  unfold After at HU ⊢
  unfold itVal
  generalize fl cs a er = d at HU ⊢
  obtain ⟨v, a1, e1⟩ := d
  by_cases hx0 : x < 0
  · go_enter Try.func30, Try.ntmps30
    go_wp2_with fail
    generalize w.alloc (.cells #[.int .i64 3, .int .i64 x, .int .i64 m, .string s, .bool f, .slice L ln lc] 43) = w0 at t0 r0 hc4 ⊢
    go_region_with (
      (refine (HU.out _ (r0.q (Q.drewN _ 1))).mono ?_
       rintro e w1 ⟨rfl, r1, t1⟩
       have t2 := (Turned.drew p w0 1).trans t1
       have hd := t2.cell_far hc4 (by omega)
       clear t1))
    all_goals go_wp2_with fail
    all_goals go_ret
    all_goals exact ⟨rfl, r1, t0.trans t2⟩
  · go_enter Try.func30, Try.ntmps30
    go_wp2_with fail
    generalize w.alloc (.cells #[.int .i64 3, .int .i64 x, .int .i64 m, .string s, .bool f, .slice L ln lc] 43) = w0 at t0 r0 hc4 ⊢
    go_region_with (
      (refine (HU.out _ (r0.q (Q.drewN _ 1))).mono ?_
       rintro e w1 ⟨rfl, r1, t1⟩
       have t2 := (Turned.drew p w0 1).trans t1
       have hd := t2.cell_far hc4 (by omega)
       clear t1))
    all_goals go_wp2_with fail
    all_goals go_ret
    all_goals exact ⟨rfl, r1, t0.trans t2⟩

end Go.Proofs.Ytjmiejcgahajfaa
