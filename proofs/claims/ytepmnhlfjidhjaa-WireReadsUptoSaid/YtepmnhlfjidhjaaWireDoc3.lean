/-
  The document's reader: Text, and the law's items by it.
-/
import Derived.Test.YtepmnhlfjidhjaaWireDoc2
import Derived.Test.YtepmnhlfjidhjaaWireItems
namespace Go.Proofs.Ytepmnhlfjidhjaa
open Go.RowKit Go.Mem

set_option maxRecDepth 100000 in
set_option maxHeartbeats 3200000 in
theorem retext_calls (p : Nat) (bs : List UInt8) (a er : Nat) (most : Int) (w : World) (h : Re w p bs a er) (hm : -9223372036854775808 ≤ most ∧ most ≤ 9223372036854775807) : Calls Try.prog 96 #[.pointer (some ⟨p, 0, none⟩), .int .i64 most] w (AfterE p bs w (.string ⟨(tx bs a er most).1.toArray⟩) (tx bs a er most).2.1 (tx bs a er most).2.2) := by
  have hu := reupto_calls p bs a er most w h hm
  obtain ⟨D0, c0', c0, c1, c2, f1, f2, _, _⟩ := h.open_
  have htx : tx bs a er most = if (up bs a er most).2.2 ≠ 0 then ([], (up bs a er most).2.1, (up bs a er most).2.2) else if bs.length < (up bs a er most).2.1 + (up bs a er most).1 then ([], a, 3) else ((bs.drop (up bs a er most).2.1).take (up bs a er most).1, (up bs a er most).2.1 + (up bs a er most).1, 0) := rfl
  have hle := h.le
  have hlen := h.len
  have hvl : (up bs a er most).1 < 9223372036854775808 := by
    unfold up
    split
    · simp
    · split
      · simp
      · exact Wire.decU_lt bs a most
  unfold AfterE at hu ⊢
  generalize up bs a er most = d at hu htx hvl
  generalize tx bs a er most = r at htx ⊢
  obtain ⟨v, a1, e1⟩ := d
  have HU := Lib.hid hu
  have HF := Lib.hid htx
  simp only at hvl
  clear hu htx
  by_cases he : e1 = 0
  · subst he
    by_cases hv : bs.length < a1 + v
    · go_enter Try.func96, Try.ntmps96
      go_wp2_with fail
      refine HU.out.mono ?_
      rintro e w1 ⟨rfl, r1, t1⟩
      have hle1 := r1.le
      obtain ⟨D, c, d0, d1, d2, g1, g2, hs, hc⟩ := r1.open_
      clear c0 c1 c2 f1 f2
      have e1 : IntKind.i64.wrap ((bs.length : Int) - (a1 : Int)) = (bs.length : Int) - (a1 : Int) := IntWalk.i64_in _ (by omega)
      have hi : decide ((bs.length : Int) - (a1 : Int) < (v : Int)) = true := decide_eq_true (by omega)
      have HR := Lib.hid (fun n => ((r1.q (Q.drewN w1 n)).wrong 3 (by decide)).to a hle)
      have HT := Lib.hid (fun n => (((t1.trans (Turned.drew p w1 n)).set 2 (.int .i64 3)).set 1 (.int .i64 (a : Int))))
      clear r1 t1 hs
      go_wp2_with fail
      go_quiet (fail)
      go_wp2_with fail
      go_ret
      rw [HF.out, if_neg (by simp), if_pos hv]
      exact ⟨rfl, HR.out _, HT.out _⟩
    · go_enter Try.func96, Try.ntmps96
      go_wp2_with fail
      refine HU.out.mono ?_
      rintro e w1 ⟨rfl, r1, t1⟩
      have hle1 := r1.le
      obtain ⟨D, c, d0, d1, d2, g1, g2, hs, hc⟩ := r1.open_
      clear c0 c1 c2 f1 f2
      have e1 : IntKind.i64.wrap ((bs.length : Int) - (a1 : Int)) = (bs.length : Int) - (a1 : Int) := IntWalk.i64_in _ (by omega)
      have hi : decide ((bs.length : Int) - (a1 : Int) < (v : Int)) = false := decide_eq_false (by omega)
      have HR1 := Lib.hid r1
      have HT1 := Lib.hid t1
      have HS1 := Lib.hid hs
      clear r1 t1 hs
      go_wp2_with fail
      go_quiet (fail)
      have r2 := HR1.out.q (Q.drewN w1 nq)
      have t2 := HT1.out.trans (Turned.drew p w1 nq)
      have hs2 : Sl (w1.drewN nq) D (bs.map B8) := HS1.out
      have HR2 := Lib.hid r2
      have HT2 := Lib.hid t2
      clear d0 d1 d2 g1 g2 r2 t2 HR1 HT1 HS1 e1 hi
      generalize w1.drewN nq = w2 at *
      obtain ⟨D', c', d0, d1, d2, g1, g2, hs3, hc3⟩ := HR2.out.open_
      have hw : IntKind.i64.wrap (a1 : Int) = (a1 : Int) := IntWalk.i64_in _ (by omega)
      have hw2 : IntKind.i64.wrap ((a1 : Int) + (v : Int)) = (a1 : Int) + (v : Int) := IntWalk.i64_in _ (by omega)
      have hz : (0 : Int) ≤ (a1 : Int) + (v : Int) := by omega
      have htn : ((a1 : Int) + (v : Int)).toNat = a1 + v := by omega
      have hlv : (a1 : Int) ≤ (a1 : Int) + (v : Int) := by omega
      have hhi : (a1 : Int) + (v : Int) ≤ (c' : Int) := by omega
      have hcut := (hs3.cut (k := a1) (cap := c') (by rw [List.length_map]; omega)).take v
      rw [← List.map_drop, ← List.map_take] at hcut
      generalize hx : (bs.drop a1).take v = xs at hcut HF
      have hxl : xs.length = v := by rw [← hx, List.length_take, List.length_drop]; omega
      clear hx hs2 hs3 hc
      have kc := fun (W : World) (e : Q w2 W) => run_conv_str (P := Try.prog) W 24 9 5 Try.underlying24 Try.underlying5 Try.underlying9 (if c' = a1 then D' else D'.map (·.add a1)) v (c' - a1) xs hxl (hcut.q e)
      have kd := fun (n : Nat) => kc (w2.drewN n) (Q.drewN w2 n)
      have HFin : Hid (∀ n, Re ((w2.drewN n).setCell ⟨p, 1, none⟩ (.int .i64 ((a1 : Int) + (v : Int)))) p bs (a1 + v) 0 ∧ Turned p w ((w2.drewN n).setCell ⟨p, 1, none⟩ (.int .i64 ((a1 : Int) + (v : Int))))) := (show ∀ _, _ from fun n => by
        have r := (HR2.out.q (Q.drewN w2 n)).to (a1 + v) (by omega)
        have t := (HT2.out.trans (Turned.drew p w2 n)).set 1 (.int .i64 ((a1 + v : Nat) : Int))
        rw [Int.natCast_add] at r t
        exact ⟨r, t⟩)
      clear HR2 HT2 hcut
      go_wp2_with fail
      go_quiet (fail)
      clear kc kd
      go_wp2_with fail
      all_goals
        go_ret
        rw [HF.out, if_neg (by simp), if_neg hv]
        exact ⟨rfl, (HFin.out _).1, (HFin.out _).2⟩
  · have hi : ((e1 : Int) == 0) = false := beq_eq_false_iff_ne.2 (by omega)
    have hi2 : ((e1 : Int) != 0) = true := bne_iff_ne.2 (by omega)
    go_enter Try.func96, Try.ntmps96
    go_wp2_with fail
    refine HU.out.mono ?_
    rintro e w1 ⟨rfl, r1, t1⟩
    obtain ⟨D, c, d0, d1, d2, g1, g2, hs, hc⟩ := r1.open_
    have HR1 := Lib.hid r1
    have HT1 := Lib.hid t1
    clear c0 c1 c2 f1 f2 r1 t1
    go_wp2_with fail
    go_quiet (fail)
    go_wp2_with fail
    go_ret
    rw [HF.out, if_pos he]
    exact ⟨rfl, HR1.out.q (Q.drewN w1 _), HT1.out.trans (Turned.drew p w1 _)⟩
end Go.Proofs.Ytepmnhlfjidhjaa
