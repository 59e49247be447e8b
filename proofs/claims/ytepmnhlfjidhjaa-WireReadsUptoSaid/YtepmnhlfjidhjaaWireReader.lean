/-
  The contracts of wire.Read and of the methods of wire.Reader.
-/
import Derived.Test.YtepmnhlfjidhjaaWireRd
import Derived.Deep.QuietTactic
import Derived.BigQuiet
namespace Go.Proofs.Ytepmnhlfjidhjaa
open Go.RowKit Go.Mem

/-- the reader in block p: its bytes, where it stands, what is wrong -/
structure Rd (w : World) (p : Nat) (bs : List UInt8) (a er : Nat) : Prop where
  blk : ∃ D c, Blk w p 133 [.slice D bs.length c, .int .i64 (a : Int), .int .i64 (er : Int)] ∧ Sl w D (bs.map B8) ∧ bs.length ≤ c
  le : a ≤ bs.length
  len : bs.length ≤ 70368744177664
  er5 : er ≤ 5
theorem Rd.lt {w : World} {p : Nat} {bs : List UInt8} {a er : Nat} (h : Rd w p bs a er) : p < w.heap.size := by
  obtain ⟨D, c, hb, _⟩ := h.blk; exact hb.lt
theorem Rd.keep {w w' : World} {p : Nat} {bs : List UInt8} {a er : Nat} (h : Rd w p bs a er) (hb : Below w.heap.size w w') : Rd w' p bs a er := by
  obtain ⟨D, c, h1, h2, h3⟩ := h.blk
  exact ⟨⟨D, c, h1.below hb h1.lt, h2.below hb, h3⟩, h.le, h.len, h.er5⟩
theorem sl_apart {w : World} {p t : Nat} {x y z : Value} {D : Option Addr} {bs : List UInt8} (hb : Blk w p t [x, y, z]) (hx : ∀ n, x ≠ .int .u8 n) (hy : ∀ n, y ≠ .int .u8 n) (hz : ∀ n, z ≠ .int .u8 n) (h : Sl w D (bs.map B8)) (o : Nat) (v : Value) : Sl (w.setCell ⟨p, o, none⟩ v) D (bs.map B8) := by
  intro k u hu
  obtain ⟨b, o', e, hc⟩ := h k u hu
  refine ⟨b, o', e, ?_⟩
  rw [World.cell?_setCell_other _ _ _ _ ?_]
  · exact hc
  · intro he
    have hbp : p = b := by injection he
    subst hbp
    have h8 : ∃ n : Int, u = .int .u8 n := by
      obtain ⟨q, _, rfl⟩ := List.mem_map.1 (List.mem_of_getElem? hu)
      exact ⟨_, rfl⟩
    obtain ⟨n, rfl⟩ := h8
    rw [hb.cell] at hc
    match o' + k, hc with
    | 0, hc => simp at hc; exact hx _ hc
    | 1, hc => simp at hc; exact hy _ hc
    | 2, hc => simp at hc; exact hz _ hc
    | (m + 3), hc => simp at hc

/-- Upto, on the state -/
def up (bs : List UInt8) (a er : Nat) (most : Int) : Nat × Nat × Nat :=
  if er ≠ 0 then (0, a, er) else if (Wire.decU bs a most).2.2 ≠ 0 then (0, a, (Wire.decU bs a most).2.2) else ((Wire.decU bs a most).1, (Wire.decU bs a most).2.1, 0)
theorem decU_er5 (bs : List UInt8) (a : Nat) (m : Int) : (Wire.decU bs a m).2.2 ≤ 5 := by
  unfold Wire.decU Wire.dec
  repeat' split
  all_goals simp

/-- only block p has turned, and its first cell has not -/
def Turned (p : Nat) (w w' : World) : Prop := w.grownBy w' (some p) ∧ w'.cell? ⟨p, 0, none⟩ = w.cell? ⟨p, 0, none⟩
theorem Turned.drew (p : Nat) (w : World) (n : Nat) : Turned p w (w.drewN n) := ⟨⟨rfl, rfl, rfl, Nat.le_refl _, fun _ _ _ => rfl⟩, rfl⟩
theorem Turned.trans {p : Nat} {a b c : World} (h : Turned p a b) (k : Turned p b c) : Turned p a c := ⟨⟨k.1.os.trans h.1.os, k.1.tape.trans h.1.tape, k.1.output.trans h.1.output, Nat.le_trans h.1.size k.1.size, fun i hi hne => (k.1.block i (Nat.lt_of_lt_of_le hi h.1.size) hne).trans (h.1.block i hi hne)⟩, k.2.trans h.2⟩
theorem Turned.set {p : Nat} {a b : World} (h : Turned p a b) (o : Nat) (v : Value) (ho : o ≠ 0 := by decide) : Turned p a (b.setCell ⟨p, o, none⟩ v) :=
  h.trans ⟨grown_setCell b p o v 0, World.cell?_setCell_other _ _ _ _ (fun e => ho (congrArg Addr.off e))⟩
theorem Turned.q {p : Nat} {a b : World} (h : Q a b) : Turned p a b := ⟨⟨h.os, h.tape, h.output, by rw [h.size]; exact Nat.le_refl _, fun _ _ _ => by rw [h.heap]⟩, h.cell _⟩
/-- .. and what is new beside -/
theorem Turned.beside {p : Nat} {a b c : World} (h : Turned p a b) (hb : Below a.heap.size b c) (hp : p < a.heap.size) : Turned p a c :=
  ⟨⟨hb.os.trans h.1.os, hb.tape.trans h.1.tape, hb.output.trans h.1.output, Nat.le_trans h.1.size hb.size, fun i hi hne => (hb.block i hi).trans (h.1.block i hi hne)⟩, (hb.cell (p := ⟨p, 0, none⟩) hp).trans h.2⟩

theorem Rd.q {w w' : World} {p : Nat} {bs : List UInt8} {a er : Nat} (h : Rd w p bs a er) (hq : Q w w') : Rd w' p bs a er := by
  obtain ⟨D, c, h1, h2, h3⟩ := h.blk
  exact ⟨⟨D, c, h1.q hq, h2.q hq, h3⟩, h.le, h.len, h.er5⟩
/-- the reader stands elsewhere -/
theorem Rd.to {w : World} {p : Nat} {bs : List UInt8} {a er : Nat} (h : Rd w p bs a er) (a' : Nat) (ha : a' ≤ bs.length) : Rd (w.setCell ⟨p, 1, none⟩ (.int .i64 (a' : Int))) p bs a' er := by
  obtain ⟨D, c, h1, h2, h3⟩ := h.blk
  refine ⟨⟨D, c, ?_, sl_apart h1 (by simp) (by simp) (by simp) h2 _ _, h3⟩, ha, h.len, h.er5⟩
  have := h1.set_ 1 (.int .i64 (a' : Int))
  simpa using this
/-- the reader has another error -/
theorem Rd.wrong {w : World} {p : Nat} {bs : List UInt8} {a er : Nat} (h : Rd w p bs a er) (e' : Nat) (he : e' ≤ 5) : Rd (w.setCell ⟨p, 2, none⟩ (.int .i64 (e' : Int))) p bs a e' := by
  obtain ⟨D, c, h1, h2, h3⟩ := h.blk
  refine ⟨⟨D, c, ?_, sl_apart h1 (by simp) (by simp) (by simp) h2 _ _, h3⟩, h.le, h.len, he⟩
  have := h1.set_ 2 (.int .i64 (e' : Int))
  simpa using this

set_option maxHeartbeats 1600000 in
theorem upto_calls (p : Nat) (bs : List UInt8) (a er : Nat) (most : Int) (w : World) (h : Rd w p bs a er) (hm : -9223372036854775808 ≤ most ∧ most ≤ 9223372036854775807) :
    Calls Try.prog 99 #[.pointer (some ⟨p, 0, none⟩), .int .i64 most] w fun e w' => e = .returned (.int .i64 ((up bs a er most).1 : Int)) ∧ Rd w' p bs (up bs a er most).2.1 (up bs a er most).2.2 ∧ Turned p w w' := by
  obtain ⟨D, c, hb, hs, hc⟩ := h.blk
  have c0 := hb.cell 0
  have c1 := hb.cell 1
  have c2 := hb.cell 2
  have f1 := hb.frozen 1
  have f2 := hb.frozen 2
  simp only [List.getElem?_cons_zero, List.getElem?_cons_succ] at c0 c1 c2
  by_cases he : er = 0
  · subst he
    have hnum : ∀ W, Q w W → Calls Try.prog 130 #[.slice D bs.length c, .int .i64 (a : Int), .int .i64 most] W fun e w' => e = .returned (res3 (Wire.decU bs a most)) ∧ w' = W := fun W hW =>
      (number_calls D bs.length c bs a most W rfl h.le hc h.len (hs.q hW) hm).mono fun _ _ ⟨h1, h2⟩ => ⟨h1, h2.symm⟩
    have HNum := Lib.hid hnum
    have hup : up bs a 0 most = if (Wire.decU bs a most).2.2 ≠ 0 then (0, a, (Wire.decU bs a most).2.2) else ((Wire.decU bs a most).1, (Wire.decU bs a most).2.1, 0) := by unfold up; simp
    have HUP := Lib.hid hup
    have he5 := decU_er5 bs a most
    have hlt := Wire.decU_lt bs a most
    have hnx := Wire.decU_next bs a most
    clear hnum hup
    generalize Wire.decU bs a most = d at HNum HUP he5 hlt hnx
    obtain ⟨v, nx, e1⟩ := d
    simp only at he5 hlt hnx
    unfold res3 at HNum
    go_enter Try.func99, Try.ntmps99
    go_wp2_with fail
    go_quiet ((exact Calls.quiet_of_same (HNum.out _ (Q.drewN _ _))))
    by_cases h1 : e1 = 0
    · subst h1
      go_wp2_with fail
      go_ret
      rw [HUP.out]
      exact ⟨rfl, (h.q (Q.drewN w _)).to nx hnx, (Turned.drew p w _).set _ _⟩
    · go_wp2_with fail
      go_ret
      rw [HUP.out, if_pos h1]
      exact ⟨rfl, (h.q (Q.drewN w _)).wrong e1 he5, (Turned.drew p w _).set _ _⟩
  · have hup : up bs a er most = (0, a, er) := by unfold up; rw [if_pos he]
    have HUP := Lib.hid hup
    clear hup
    go_enter Try.func99, Try.ntmps99
    go_wp2_with fail
    go_ret
    rw [HUP.out]
    exact ⟨rfl, h.q (Q.drewN w 0), Turned.drew p w 0⟩

/-- what is new turns no reader -/
theorem Rd.stay {w wr w' : World} {p : Nat} {bs : List UInt8} {a er a' er' : Nat} (h : Rd w p bs a er) (ht : Turned p w wr) (hr : Rd wr p bs a' er') (hb : Below w.heap.size wr w') : Rd w' p bs a' er' := by
  obtain ⟨D, c, h1, h2, h3⟩ := h.blk
  obtain ⟨D', c', k1, k2, k3⟩ := hr.blk
  have c0 := h1.cell 0
  have d0 := k1.cell 0
  rw [ht.2, c0] at d0
  simp only [List.getElem?_cons_zero] at d0
  injection d0 with d0
  injection d0 with e1 _ e2
  subst e1 e2
  refine ⟨⟨D, c, (hb.block p h1.lt).trans k1, ?_, k3⟩, hr.le, hr.len, hr.er5⟩
  intro k u hu
  obtain ⟨b, o, e, hc⟩ := h2 k u hu
  obtain ⟨b', o', e', hc'⟩ := k2 k u hu
  rw [e] at e'
  injection e' with e'
  injection e' with e1 e2
  subst e1 e2
  exact ⟨b, o, e, (hb.cell (p := ⟨b, o + k, none⟩) (lt_of_cell hc)).trans hc'⟩

end Go.Proofs.Ytepmnhlfjidhjaa
