/-
  The contract of wire.Items of numbers.
-/
import Derived.Test.YtepmnhlfjidhjaaWireRead
import Derived.Test.YtepmnhlfjidhjaaWireList
namespace Go.Proofs.Ytepmnhlfjidhjaa
open Go.RowKit Go.Mem

theorem gets_calls (p : Nat) (bs : List UInt8) (a er : Nat) (w : World) (h : Rd w p bs a er) : Calls Try.prog 102 #[.pointer (some ⟨p, 0, none⟩)] w (After p bs w (.int .i64 ((nu bs a er).1 : Int)) (nu bs a er).2.1 (nu bs a er).2.2) := by
  have hu := rnum_calls p bs a er w h
  unfold After at hu ⊢
  generalize nu bs a er = d at hu
  have HU := Lib.hid hu
  clear hu
  go_enter Try.func102, Try.ntmps102
  go_wp2_with fail
  refine HU.out.mono ?_
  rintro e w1 ⟨rfl, r1, t1⟩
  go_wp2_with fail
  go_ret
  exact ⟨rfl, r1, t1⟩

/-- j numbers, one behind the other, until one is wrong -/
def steps (bs : List UInt8) (a : Nat) : Nat → List Int × Nat × Nat
  | 0 => ([], a, 0)
  | j + 1 => if (steps bs a j).2.2 ≠ 0 then steps bs a j else ((steps bs a j).1 ++ [((nu bs (steps bs a j).2.1 0).1 : Int)], (nu bs (steps bs a j).2.1 0).2.1, (nu bs (steps bs a j).2.1 0).2.2)
/-- Items, on the state -/
def it (bs : List UInt8) (a er : Nat) (most : Int) : List Int × Nat × Nat :=
  if (up bs a er most).2.2 ≠ 0 then ([], (up bs a er most).2.1, (up bs a er most).2.2)
  else if bs.length < (up bs a er most).2.1 + (up bs a er most).1 then ([], a, 3)
  else if (steps bs (up bs a er most).2.1 (up bs a er most).1).2.2 ≠ 0 then ([], (steps bs (up bs a er most).2.1 (up bs a er most).1).2)
  else steps bs (up bs a er most).2.1 (up bs a er most).1
theorem steps_stop (bs : List UInt8) (a j : Nat) (h : (steps bs a j).2.2 ≠ 0) : ∀ k, steps bs a (j + k) = steps bs a j := by
  intro k
  induction k with
  | zero => rfl
  | succ k ih =>
    show (if (steps bs a (j + k)).2.2 ≠ 0 then steps bs a (j + k) else _) = _
    rw [ih, if_pos h]
theorem steps_len (bs : List UInt8) (a : Nat) : ∀ j, (steps bs a j).1.length ≤ j
  | 0 => Nat.le_refl _
  | j + 1 => by
    have := steps_len bs a j
    unfold steps
    split
    · omega
    · simp; omega
theorem infoInt : (Try.prog.info? 3).map (fun i => (i.zero, i.size, i.bytes)) = some (some (.int .i64 0), 1, 8) := by kernel_rfl
theorem ints_one (zs : List Int) : ∀ u ∈ zs.map I64, u.oneCell' = true := by
  intro u hu; obtain ⟨_, _, rfl⟩ := List.mem_map.1 hu; rfl

set_option maxHeartbeats 2000000 in
theorem items_calls (p : Nat) (bs : List UInt8) (a er : Nat) (most : Int) (w : World) (h : Rd w p bs a er) (hm : -9223372036854775808 ≤ most ∧ most ≤ 9223372036854775807) (hbs : 8 * bs.length ≤ 70368744177664) :
    Calls Try.prog 101 #[.pointer (some ⟨p, 0, none⟩), .int .i64 most, .func (.func 102) #[] #[]] w fun e w' => ∃ D n c, e = .returned (.slice D n c) ∧ OwnB w' w.heap.size 3 1 D n c ((it bs a er most).1.map I64) ∧ Rd w' p bs (it bs a er most).2.1 (it bs a er most).2.2 ∧ Turned p w w' := by
  obtain ⟨i0, hi, hz0, hz1, hz2⟩ := info_parts infoInt
  have hu := upto_calls p bs a er most w h hm
  obtain ⟨D0, c0', c0, c1, c2, f1, f2, _, _⟩ := h.open_
  have hit : it bs a er most = if (up bs a er most).2.2 ≠ 0 then ([], (up bs a er most).2.1, (up bs a er most).2.2) else if bs.length < (up bs a er most).2.1 + (up bs a er most).1 then ([], a, 3) else if (steps bs (up bs a er most).2.1 (up bs a er most).1).2.2 ≠ 0 then ([], (steps bs (up bs a er most).2.1 (up bs a er most).1).2) else steps bs (up bs a er most).2.1 (up bs a er most).1 := rfl
  have hle := h.le
  generalize up bs a er most = d at hu hit
  generalize it bs a er most = r at hit ⊢
  obtain ⟨v, a1, e1⟩ := d
  have HU := Lib.hid hu
  have HF := Lib.hid hit
  clear hu hit
  by_cases he : e1 = 0
  · subst he
    by_cases hv : bs.length < a1 + v
    · go_enter Try.func101, Try.ntmps101
      go_wp2_with fail
      refine HU.out.mono ?_
      rintro e w1 ⟨rfl, r1, t1⟩
      have hle1 := r1.le
      obtain ⟨D, c, d0, d1, d2, g1, g2, hs, hc⟩ := r1.open_
      clear c0 c1 c2 f1 f2
      have hi2 : decide ((bs.length : Int) - (a1 : Int) < (v : Int)) = true := decide_eq_true (by omega)
      go_wp2_with fail
      go_quiet (fail)
      go_wp2_with fail
      refine (fail_calls p bs a1 0 3 a _ (r1.q (Q.drewN w1 _)) (by omega) hle).mono ?_
      rintro e w2 ⟨rfl, r2, t2⟩
      go_wp2_with fail
      go_ret
      rw [HF.out, if_neg (by simp), if_pos hv]
      exact ⟨none, 0, 0, rfl, OwnB.nil _ _ _ _, r2, (t1.trans (Turned.drew p w1 _)).trans t2⟩
    · go_enter Try.func101, Try.ntmps101
      go_wp2_with fail
      refine HU.out.mono ?_
      rintro e w1 ⟨rfl, r1, t1⟩
      have hle1 := r1.le
      obtain ⟨D, c, d0, d1, d2, g1, g2, hs, hc⟩ := r1.open_
      clear c0 c1 c2 f1 f2
      have hi2 : decide ((bs.length : Int) - (a1 : Int) < (v : Int)) = false := decide_eq_false (by omega)
      go_wp2_with fail
      go_quiet (fail)
      clear d0 d1 d2 g1 g2 hs hc
      go_wp2_with fail
      have hpw := h.lt
      have HR := Lib.hid h
      have r1q := r1.q (Q.drewN w1 nq)
      have t1q := t1.trans (Turned.drew p w1 nq)
      clear h t1 r1 hi2
      go_loopw [9, 10] (fun l i wr => ∃ (j : Nat) (D : Option Addr) (N c : Nat), j ≤ v ∧ i = .int .i64 j ∧ l = .slice D N c ∧ Hid (OwnB wr w.heap.size 3 1 D N c ((steps bs a1 j).1.map I64)) ∧ Rd wr p bs (steps bs a1 j).2.1 (steps bs a1 j).2.2 ∧ Turned p w wr) (fun _ i _ => v - (intOf i).toNat)
      case atStart => exact ⟨0, none, 0, 0, Nat.zero_le _, rfl, rfl, OwnB.nil _ _ _ _, r1q, t1q⟩
      case round =>
        obtain ⟨j, D, N, c, hj, rfl, rfl, HO, hr, ht⟩ := hrel
        clear r1q t1q
        have hNl : (steps bs a1 j).1.length = N := by have := HO.out.len; rw [List.length_map, Nat.mul_one] at this; exact this
        have hNj : N ≤ j := by rw [← hNl]; exact steps_len bs a1 j
        by_cases hs0 : (steps bs a1 j).2.2 = 0
        · by_cases hlt : j < v
          · have HS : Hid (steps bs a1 (j + 1) = ((steps bs a1 j).1 ++ [((nu bs (steps bs a1 j).2.1 0).1 : Int)], (nu bs (steps bs a1 j).2.1 0).2.1, (nu bs (steps bs a1 j).2.1 0).2.2)) := by
              show (if (steps bs a1 j).2.2 ≠ 0 then steps bs a1 j else _) = _
              rw [if_neg (by omega)]
            rw [hs0] at hr
            generalize (steps bs a1 j).1 = zs at HO hNl HS
            generalize (steps bs a1 j).2.1 = a2 at hr HS
            obtain ⟨E, ce, d0, d1, d2, g1, g2, hs, hc⟩ := hr.open_
            clear hs hs0
            have HG := Lib.hid (gets_calls p bs a2 0 wr hr)
            generalize nu bs a2 0 = dd at HG HS
            obtain ⟨x, a3, e3⟩ := dd
            go_wp2_with fail
            refine HG.out.mono ?_
            unfold After
            rintro e w2 ⟨rfl, r2, t2⟩
            clear d0 d1 d2 g1 g2 hr
            have HO2 : OwnB w2 w.heap.size 3 1 D N c (zs.map I64) := HO.out.keep fun g hg hl => t2.1.block g hl (fun e => by injection e with e; omega)
            have ht2 := ht.trans t2
            have hz2' := ht2.1.size
            clear HO ht t2 HG
            go_wp2_with (at_builtin; refine wpList_append_ownB (o := ⟨some 55, _, _, _, _, _⟩) rfl (.tmp 50) (.tmp 54) 51 51 rfl 3 i0 (.int .i64 0) 1 8 Try.underlying51 hi hz0 hz1 hz2 rfl w.heap.size D N c (zs.map I64) rfl (HO2.alloc _) (.slice (some ⟨w2.heap.size, 0, none⟩) 1 1) rfl 1 ([(x : Int)].map I64) (srcSl Try.underlying51 rfl (Sl.new rfl rfl) (ints_one _)) (by omega) (by omega) w2 ((Below.refl _ _).alloc hz2' _) (by simp; omega) ?_)
            intro w3 D3 c3 HO3 hb3 hsz3
            have hr3 := HR.out.stay ht2 r2 hb3
            have ht3 := ht2.beside hb3 hpw
            have HO4 : Hid (OwnB w3 w.heap.size 3 1 D3 (N + 1) c3 ((zs ++ [(x : Int)]).map I64)) := by show OwnB _ _ _ _ _ _ _ _; rw [List.map_append]; exact HO3.out
            clear r2 ht2 hz2' hb3 hsz3 HO2 HO3
            go_wp2_with fail
            go_roundw
            case rel => exact ⟨j + 1, D3, N + 1, c3, by omega, by go_num, rfl, by rw [HS.out]; exact HO4, by rw [HS.out]; exact hr3, ht3⟩
            case measure => simp [intOf]; omega
          · obtain rfl : j = v := by omega
            have HS : Hid (r = steps bs a1 j) := by
              show _ = _
              rw [HF.out, if_neg (by simp), if_neg hv, if_neg (by omega)]
            rw [hs0] at hr
            obtain ⟨E, ce, d0, d1, d2, g1, g2, hs, hc⟩ := hr.open_
            clear hs
            go_wp2_with fail
            go_ret
            rw [HS.out]
            exact ⟨D, N, c, rfl, HO.out, by rw [hs0]; exact hr.q (Q.drewN _ 0), ht⟩
        · have HS : Hid (r = ([], (steps bs a1 j).2)) := by
            show _ = _
            have hk := steps_stop bs a1 j hs0 (v - j)
            rw [show j + (v - j) = v by omega] at hk
            rw [HF.out, if_neg (by simp), if_neg hv, hk, if_pos hs0]
          generalize (steps bs a1 j).2 = s2 at hr HS hs0
          obtain ⟨a3, e3⟩ := s2
          have hne : ((e3 : Int) != 0) = true := bne_iff_ne.2 (by simp only at hs0; omega)
          have hnq : ((e3 : Int) == 0) = false := beq_eq_false_iff_ne.2 (by simp only at hs0; omega)
          obtain ⟨E, ce, d0, d1, d2, g1, g2, hs, hc⟩ := hr.open_
          clear hs hs0
          by_cases hlt : j < v
          · go_wp2_with fail
            go_ret
            rw [HS.out]
            exact ⟨none, 0, 0, rfl, OwnB.nil _ _ _ _, hr.q (Q.drewN _ 0), ht⟩
          · go_wp2_with fail
            go_ret
            rw [HS.out]
            exact ⟨none, 0, 0, rfl, OwnB.nil _ _ _ _, hr.q (Q.drewN _ 0), ht⟩
  · have hi2 : ((e1 : Int) != 0) = true := bne_iff_ne.2 (by omega)
    go_enter Try.func101, Try.ntmps101
    go_wp2_with fail
    refine HU.out.mono ?_
    rintro e w1 ⟨rfl, r1, t1⟩
    obtain ⟨D, c, d0, d1, d2, g1, g2, hs, hc⟩ := r1.open_
    clear c0 c1 c2 f1 f2
    go_wp2_with fail
    go_ret
    rw [HF.out, if_pos he]
    exact ⟨none, 0, 0, rfl, OwnB.nil _ _ _ _, r1, t1⟩
end Go.Proofs.Ytepmnhlfjidhjaa
