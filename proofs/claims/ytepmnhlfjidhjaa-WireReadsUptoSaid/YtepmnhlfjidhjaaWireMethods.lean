/-
  The contracts of the further methods of wire.Reader.
-/
import Derived.Test.YtepmnhlfjidhjaaWireReader
import Derived.Test.YtepmnhlfjidhjaaApp
import Derived.Laws.IdiomStrings
namespace Go.Proofs.Ytepmnhlfjidhjaa
open Go.RowKit Go.Mem

/-- a reader's facts, opened -/
theorem Rd.open_ {w : World} {p : Nat} {bs : List UInt8} {a er : Nat} (h : Rd w p bs a er) : ∃ D c, w.cell? ⟨p, 0, none⟩ = some (.slice D bs.length c) ∧ w.cell? ⟨p, 1, none⟩ = some (.int .i64 (a : Int)) ∧ w.cell? ⟨p, 2, none⟩ = some (.int .i64 (er : Int)) ∧ w.frozen? ⟨p, 1, none⟩ = false ∧ w.frozen? ⟨p, 2, none⟩ = false ∧ Sl w D (bs.map B8) ∧ bs.length ≤ c := by
  obtain ⟨D, c, hb, h2, h3⟩ := h.blk
  have c0 := hb.cell 0
  have c1 := hb.cell 1
  have c2 := hb.cell 2
  simp only [List.getElem?_cons_zero, List.getElem?_cons_succ] at c0 c1 c2
  exact ⟨D, c, c0, c1, c2, hb.frozen 1, hb.frozen 2, h2, h3⟩

/-- what a method leaves: its answer, and the reader -/
def After (p : Nat) (bs : List UInt8) (w : World) (v : Value) (a er : Nat) : Ending → World → Prop := fun e w' => e = .returned v ∧ Rd w' p bs a er ∧ Turned p w w'

theorem err_calls (p : Nat) (bs : List UInt8) (a er : Nat) (w : World) (h : Rd w p bs a er) : Calls Try.prog 92 #[.pointer (some ⟨p, 0, none⟩)] w (After p bs w (.int .i64 (er : Int)) a er) := by
  unfold After
  obtain ⟨D, c, c0, c1, c2, f1, f2, hs, hc⟩ := h.open_
  go_enter Try.func92, Try.ntmps92
  go_wp2_with fail
  go_ret
  exact ⟨rfl, h.q (Q.drewN w 0), Turned.drew p w 0⟩

theorem at_calls (p : Nat) (bs : List UInt8) (a er : Nat) (w : World) (h : Rd w p bs a er) : Calls Try.prog 91 #[.pointer (some ⟨p, 0, none⟩)] w (After p bs w (.int .i64 (a : Int)) a er) := by
  unfold After
  obtain ⟨D, c, c0, c1, c2, f1, f2, hs, hc⟩ := h.open_
  go_enter Try.func91, Try.ntmps91
  go_wp2_with fail
  go_ret
  exact ⟨rfl, h.q (Q.drewN w 0), Turned.drew p w 0⟩

theorem fail_calls (p : Nat) (bs : List UInt8) (a er e' a' : Nat) (w : World) (h : Rd w p bs a er) (he : e' ≤ 5) (ha : a' ≤ bs.length) : Calls Try.prog 129 #[.pointer (some ⟨p, 0, none⟩), .int .i64 (e' : Int), .int .i64 (a' : Int)] w (After p bs w (.tuple #[]) a' e') := by
  unfold After
  obtain ⟨D, c, c0, c1, c2, f1, f2, hs, hc⟩ := h.open_
  go_enter Try.func129, Try.ntmps129
  go_wp2_with fail
  go_end0
  exact ⟨rfl, (h.wrong e' he).to a' ha, ((Turned.drew p w 0).set _ _).set _ _⟩

/-- Num, on the state -/
def nu (bs : List UInt8) (a er : Nat) : Nat × Nat × Nat := up bs a er 9223372036854775807
theorem rnum_calls (p : Nat) (bs : List UInt8) (a er : Nat) (w : World) (h : Rd w p bs a er) : Calls Try.prog 93 #[.pointer (some ⟨p, 0, none⟩)] w (After p bs w (.int .i64 ((nu bs a er).1 : Int)) (nu bs a er).2.1 (nu bs a er).2.2) := by
  have hu := upto_calls p bs a er 9223372036854775807 w h (by decide)
  unfold After nu
  generalize up bs a er 9223372036854775807 = d at hu
  have HU := Lib.hid hu
  clear hu
  go_enter Try.func93, Try.ntmps93
  go_wp2_with fail
  refine HU.out.mono ?_
  rintro e w1 ⟨rfl, r1, t1⟩
  go_wp2_with fail
  go_ret
  exact ⟨rfl, r1, t1⟩

/-- End, on the state -/
def endE (bs : List UInt8) (a er : Nat) : Nat := if er = 0 ∧ a < bs.length then 5 else er
theorem end_calls (p : Nat) (bs : List UInt8) (a er : Nat) (w : World) (h : Rd w p bs a er) : Calls Try.prog 32 #[.pointer (some ⟨p, 0, none⟩)] w (After p bs w (.int .i64 (endE bs a er : Int)) a (endE bs a er)) := by
  unfold After
  obtain ⟨D, c, c0, c1, c2, f1, f2, hs, hc⟩ := h.open_
  by_cases he : er = 0
  · subst he
    by_cases hlt : a < bs.length
    · have HE : Hid (endE bs a 0 = 5) := by show _ = _; unfold endE; rw [if_pos ⟨rfl, hlt⟩]
      have hi : decide ((a : Int) < (bs.length : Int)) = true := decide_eq_true (by omega)
      go_enter Try.func32, Try.ntmps32
      go_wp2_with fail
      go_quiet (fail)
      go_wp2_with fail
      go_ret
      rw [HE.out]
      exact ⟨rfl, (h.q (Q.drewN w _)).wrong 5 (by omega), (Turned.drew p w _).set _ _⟩
    · have HE : Hid (endE bs a 0 = 0) := by show _ = _; unfold endE; rw [if_neg (by omega)]
      have hi : decide ((a : Int) < (bs.length : Int)) = false := decide_eq_false (by omega)
      go_enter Try.func32, Try.ntmps32
      go_wp2_with fail
      go_quiet (fail)
      go_wp2_with fail
      go_ret
      rw [HE.out]
      exact ⟨rfl, h.q (Q.drewN w _), Turned.drew p w _⟩
  · have HE : Hid (endE bs a er = er) := by show _ = _; unfold endE; rw [if_neg (by omega)]
    have hi : ((er : Int) == 0) = false := beq_eq_false_iff_ne.2 (by omega)
    go_enter Try.func32, Try.ntmps32
    go_wp2_with fail
    go_quiet (fail)
    go_wp2_with fail
    go_ret
    rw [HE.out]
    exact ⟨rfl, h.q (Q.drewN w _), Turned.drew p w _⟩

/-- Flag, on the state -/
def fl (bs : List UInt8) (a er : Nat) : Bool × Nat × Nat := if 1 < (nu bs a er).1 then (false, a, 4) else (decide ((nu bs a er).1 = 1), (nu bs a er).2.1, (nu bs a er).2.2)
theorem rflag_calls (p : Nat) (bs : List UInt8) (a er : Nat) (w : World) (h : Rd w p bs a er) : Calls Try.prog 97 #[.pointer (some ⟨p, 0, none⟩)] w (After p bs w (.bool (fl bs a er).1) (fl bs a er).2.1 (fl bs a er).2.2) := by
  have hu := rnum_calls p bs a er w h
  obtain ⟨D, c, c0, c1, c2, f1, f2, hs, hc⟩ := h.open_
  have hfl : fl bs a er = if 1 < (nu bs a er).1 then (false, a, 4) else (decide ((nu bs a er).1 = 1), (nu bs a er).2.1, (nu bs a er).2.2) := rfl
  have hle := h.le
  unfold After at hu ⊢
  generalize nu bs a er = d at hu hfl
  generalize fl bs a er = r at hfl ⊢
  obtain ⟨v, a1, e1⟩ := d
  have HU := Lib.hid hu
  have HF := Lib.hid hfl
  clear hu hfl
  by_cases h1 : 1 < v
  · go_enter Try.func97, Try.ntmps97
    go_wp2_with fail
    refine HU.out.mono ?_
    rintro e w1 ⟨rfl, r1, t1⟩
    go_wp2_with fail
    refine (fail_calls p bs a1 e1 4 a w1 r1 (by omega) hle).mono ?_
    rintro e w2 ⟨rfl, r2, t2⟩
    go_wp2_with fail
    go_ret
    rw [HF.out, if_pos h1]
    exact ⟨rfl, r2, t1.trans t2⟩
  · have hb : ((v : Int) == 1) = decide (v = 1) := by
      by_cases hv : v = 1
      · subst hv; rfl
      · rw [decide_eq_false hv]; exact beq_eq_false_iff_ne.2 (by omega)
    go_enter Try.func97, Try.ntmps97
    go_wp2_with fail
    refine HU.out.mono ?_
    rintro e w1 ⟨rfl, r1, t1⟩
    go_wp2_with fail
    go_ret
    rw [HF.out, if_neg h1]
    exact ⟨rfl, r1, t1⟩

/-- a slice of bytes as a string -/
theorem run_conv_str {P : Program} (w : World) (src dst e : TypeId) (hs : P.underlying src = some (.slice e)) (he : P.underlying e = some (.int .u8)) (hd : P.underlying dst = some .string) (A : Option Addr) (n c : Nat) (bs : List UInt8) (hl : bs.length = n) (h : Sl w A (bs.map B8)) :
    (convert src dst (.slice A n c)).run P w = .ok (.string ⟨bs.toArray⟩) w := by
  subst hl
  cases A with
  | none =>
    have := h.none_nil rfl
    obtain rfl : bs = [] := List.map_eq_nil_iff.1 this
    show (convert src dst (.slice none 0 c)).run P w = _
    rw [run_convert_bytes_string w src dst e none 0 c hs he hd]
    simp [Conv.bytesToString]
    rfl
  | some a =>
    refine run_convert_bytes_back w src dst e a c bs hs he hd (fun j hj => ?_)
    obtain ⟨b, o, e, hc⟩ := h.byte hj
    obtain rfl : a = ⟨b, o, none⟩ := by injection e
    rw [Addr.add_lit]; exact hc

/-- Text, on the state -/
def tx (bs : List UInt8) (a er : Nat) (most : Int) : List UInt8 × Nat × Nat :=
  if (up bs a er most).2.2 ≠ 0 then ([], (up bs a er most).2.1, (up bs a er most).2.2) else if bs.length < (up bs a er most).2.1 + (up bs a er most).1 then ([], a, 3) else ((bs.drop (up bs a er most).2.1).take (up bs a er most).1, (up bs a er most).2.1 + (up bs a er most).1, 0)
theorem rtext_calls (p : Nat) (bs : List UInt8) (a er : Nat) (most : Int) (w : World) (h : Rd w p bs a er) (hm : -9223372036854775808 ≤ most ∧ most ≤ 9223372036854775807) : Calls Try.prog 95 #[.pointer (some ⟨p, 0, none⟩), .int .i64 most] w (After p bs w (.string ⟨(tx bs a er most).1.toArray⟩) (tx bs a er most).2.1 (tx bs a er most).2.2) := by
  have hu := upto_calls p bs a er most w h hm
  obtain ⟨D0, c0', c0, c1, c2, f1, f2, _, _⟩ := h.open_
  have htx : tx bs a er most = if (up bs a er most).2.2 ≠ 0 then ([], (up bs a er most).2.1, (up bs a er most).2.2) else if bs.length < (up bs a er most).2.1 + (up bs a er most).1 then ([], a, 3) else ((bs.drop (up bs a er most).2.1).take (up bs a er most).1, (up bs a er most).2.1 + (up bs a er most).1, 0) := rfl
  have hle := h.le
  have hlen := h.len
  unfold After
  generalize up bs a er most = d at hu htx
  generalize tx bs a er most = r at htx ⊢
  obtain ⟨v, a1, e1⟩ := d
  have HU := Lib.hid hu
  have HF := Lib.hid htx
  clear hu htx
  by_cases he : e1 = 0
  · subst he
    by_cases hv : bs.length < a1 + v
    · go_enter Try.func95, Try.ntmps95
      go_wp2_with fail
      refine HU.out.mono ?_
      rintro e w1 ⟨rfl, r1, t1⟩
      have hle1 := r1.le
      obtain ⟨D, c, d0, d1, d2, g1, g2, hs, hc⟩ := r1.open_
      clear c0 c1 c2 f1 f2
      have hi : decide ((bs.length : Int) - (a1 : Int) < (v : Int)) = true := decide_eq_true (by omega)
      go_wp2_with fail
      go_quiet (fail)
      go_wp2_with fail
      refine (fail_calls p bs a1 0 3 a _ (r1.q (Q.drewN w1 _)) (by omega) hle).mono ?_
      rintro e w2 ⟨rfl, r2, t2⟩
      go_wp2_with fail
      go_ret
      rw [HF.out, if_neg (by simp), if_pos hv]
      exact ⟨rfl, r2, (t1.trans (Turned.drew p w1 _)).trans t2⟩
    · go_enter Try.func95, Try.ntmps95
      go_wp2_with fail
      refine HU.out.mono ?_
      rintro e w1 ⟨rfl, r1, t1⟩
      have hle1 := r1.le
      obtain ⟨D, c, d0, d1, d2, g1, g2, hs, hc⟩ := r1.open_
      clear c0 c1 c2 f1 f2
      have hi : decide ((bs.length : Int) - (a1 : Int) < (v : Int)) = false := decide_eq_false (by omega)
      go_wp2_with fail
      go_quiet (fail)
      go_wp2_with fail
      have r2 := (r1.q (Q.drewN w1 nq)).to (a1 + v) (by omega)
      have t2 := (t1.trans (Turned.drew p w1 nq)).set 1 (.int .i64 ((a1 + v : Nat) : Int))
      rw [Int.natCast_add] at r2 t2
      generalize (w1.drewN nq).setCell ⟨p, 1, none⟩ (.int .i64 ((a1 : Int) + (v : Int))) = w2 at r2 t2 ⊢
      clear d0 d1 d2 g1 g2 hs hi t1 r1
      obtain ⟨D, c, d0, d1, d2, g1, g2, hs, hc⟩ := r2.open_
      have hw : IntKind.i64.wrap (a1 : Int) = (a1 : Int) := IntWalk.i64_in _ (by omega)
      have hz : (0 : Int) ≤ (a1 : Int) + (v : Int) := by omega
      have hmx : max ((a1 : Int) + (v : Int)) 0 = (a1 : Int) + (v : Int) := by omega
      have htn : ((a1 : Int) + (v : Int)).toNat = a1 + v := by omega
      have hlv : (a1 : Int) ≤ (a1 : Int) + (v : Int) := by omega
      have hhi : (a1 : Int) + (v : Int) ≤ (c : Int) := by omega
      rw [Int.natCast_add] at d1
      have hcut := (hs.cut (k := a1) (cap := c) (by rw [List.length_map]; omega)).take v
      rw [← List.map_drop, ← List.map_take] at hcut
      generalize hx : (bs.drop a1).take v = xs at hcut HF
      have hxl : xs.length = v := by rw [← hx, List.length_take, List.length_drop]; omega
      have HX := Lib.hid hx
      clear hx hs
      have kc := fun (W : World) (e : Q w2 W) => run_conv_str (P := Try.prog) W 24 9 5 Try.underlying24 Try.underlying5 Try.underlying9 (if c = a1 then D else D.map (·.add a1)) v (c - a1) xs hxl (hcut.q e)
      have kd := fun (n : Nat) => kc (w2.drewN n) (Q.drewN w2 n)
      go_quiet (fail)
      go_wp2_with fail
      all_goals
        go_ret
        rw [HF.out, if_neg (by simp), if_neg hv]
        exact ⟨rfl, r2.q (Q.drewN w2 _), t2.trans (Turned.drew p w2 _)⟩
  · have hi : ((e1 : Int) != 0) = true := bne_iff_ne.2 (by omega)
    go_enter Try.func95, Try.ntmps95
    go_wp2_with fail
    refine HU.out.mono ?_
    rintro e w1 ⟨rfl, r1, t1⟩
    obtain ⟨D, c, d0, d1, d2, g1, g2, hs, hc⟩ := r1.open_
    clear c0 c1 c2 f1 f2
    go_wp2_with fail
    go_ret
    rw [HF.out, if_pos he]
    exact ⟨rfl, r1, t1⟩
end Go.Proofs.Ytepmnhlfjidhjaa
