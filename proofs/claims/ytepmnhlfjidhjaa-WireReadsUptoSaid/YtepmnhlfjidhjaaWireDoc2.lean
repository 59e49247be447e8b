/-
  The document's reader: Upto, Flag, End, Text.
-/
import Derived.Test.YtepmnhlfjidhjaaWireDoc
namespace Go.Proofs.Ytepmnhlfjidhjaa
open Go.RowKit Go.Mem

theorem nu_err (bs : List UInt8) (a er : Nat) (h : (nu bs a er).2.2 ≠ 0) : (nu bs a er).1 = 0 := by
  unfold nu up at *
  split at h
  · rename_i h1; rw [if_pos h1]
  · rename_i h1
    rw [if_neg h1]
    split at h
    · rename_i h2; rw [if_pos h2]
    · exact absurd rfl h
theorem up_nu (bs : List UInt8) (a er : Nat) (most : Int) : up bs a er most = if (nu bs a er).2.2 = 0 ∧ most < ((nu bs a er).1 : Int) then (0, a, 2) else nu bs a er := by
  unfold nu up
  by_cases h1 : er ≠ 0
  · rw [if_pos h1, if_pos h1, if_neg (by intro h; exact h1 h.1)]
  · rw [if_neg h1, if_neg h1, Wire.decU_max]
    unfold Wire.decU
    by_cases h2 : (Wire.dec bs a).2.2 ≠ 0
    · rw [if_pos h2, if_pos h2]
      rw [if_neg (by intro h; exact h2 h.1)]
    · rw [if_neg h2, if_neg h2]
      by_cases h3 : most < ((Wire.dec bs a).1 : Int)
      · rw [if_pos h3, if_pos (by decide), if_pos ⟨rfl, h3⟩]
      · rw [if_neg h3, if_neg h2, if_neg (by intro h; exact h3 h.2)]
theorem nu_lt (bs : List UInt8) (a er : Nat) : (nu bs a er).1 < 9223372036854775808 := by
  unfold nu up
  split
  · simp
  · split
    · simp
    · have := Wire.decU_lt bs a 9223372036854775807; exact this

set_option maxRecDepth 100000 in
set_option maxHeartbeats 3200000 in
theorem reupto_calls (p : Nat) (bs : List UInt8) (a er : Nat) (most : Int) (w : World) (h : Re w p bs a er) (_hm : -9223372036854775808 ≤ most ∧ most ≤ 9223372036854775807) : Calls Try.prog 100 #[.pointer (some ⟨p, 0, none⟩), .int .i64 most] w (AfterE p bs w (.int .i64 ((up bs a er most).1 : Int)) (up bs a er most).2.1 (up bs a er most).2.2) := by
  have hu := renum_calls p bs a er w h
  have hup := up_nu bs a er most
  obtain ⟨D, c, c0, c1, c2, f1, f2, hs, hc⟩ := h.open_
  have hle := h.le
  have hnl := nu_lt bs a er
  unfold AfterE at hu ⊢
  generalize nu bs a er = d at hu hup hnl
  generalize up bs a er most = r at hup ⊢
  obtain ⟨v, a1, e1⟩ := d
  have HU := Lib.hid hu
  have HF := Lib.hid hup
  simp only at hnl
  clear hu hup
  by_cases he : e1 = 0
  · subst he
    by_cases hv : most < (v : Int)
    · go_enter Try.func100, Try.ntmps100
      go_wp2_with fail
      refine HU.out.mono ?_
      rintro e w1 ⟨rfl, r1, t1⟩
      obtain ⟨D, c, d0, d1, d2, g1, g2, hs, hc⟩ := r1.open_
      have r3 := (r1.wrong 2 (by decide)).to a hle
      have t3 := (t1.set 2 (.int .i64 2)).set 1 (.int .i64 (a : Int))
      have HR := Lib.hid r3
      have HT := Lib.hid t3
      clear c0 c1 c2 f1 f2 r1 t1 r3 t3
      go_wp2_with fail
      go_ret
      rw [HF.out, if_pos (by simp; omega)]
      exact ⟨rfl, HR.out, HT.out⟩
    · have hd : decide (most < (v : Int)) = false := decide_eq_false hv
      go_enter Try.func100, Try.ntmps100
      go_wp2_with fail
      refine HU.out.mono ?_
      rintro e w1 ⟨rfl, r1, t1⟩
      obtain ⟨D, c, d0, d1, d2, g1, g2, hs, hc⟩ := r1.open_
      clear c0 c1 c2 f1 f2
      go_wp2_with fail
      go_ret
      rw [HF.out, if_neg (by simp; omega)]
      exact ⟨rfl, r1, t1⟩
  · have hi : ((e1 : Int) == 0) = false := beq_eq_false_iff_ne.2 (by omega)
    go_enter Try.func100, Try.ntmps100
    go_wp2_with fail
    refine HU.out.mono ?_
    rintro e w1 ⟨rfl, r1, t1⟩
    obtain ⟨D, c, d0, d1, d2, g1, g2, hs, hc⟩ := r1.open_
    clear c0 c1 c2 f1 f2
    go_wp2_with fail
    go_ret
    rw [HF.out, if_neg (by simp; omega)]
    exact ⟨rfl, r1, t1⟩

set_option maxRecDepth 100000 in
set_option maxHeartbeats 3200000 in
theorem reflag_calls (p : Nat) (bs : List UInt8) (a er : Nat) (w : World) (h : Re w p bs a er) : Calls Try.prog 98 #[.pointer (some ⟨p, 0, none⟩)] w (AfterE p bs w (.bool (fl bs a er).1) (fl bs a er).2.1 (fl bs a er).2.2) := by
  have hu := renum_calls p bs a er w h
  have hfl : fl bs a er = if 1 < (nu bs a er).1 then (false, a, 4) else (decide ((nu bs a er).1 = 1), (nu bs a er).2.1, (nu bs a er).2.2) := rfl
  have hne := nu_err bs a er
  obtain ⟨D, c, c0, c1, c2, f1, f2, hs, hc⟩ := h.open_
  have hle := h.le
  unfold AfterE at hu ⊢
  generalize nu bs a er = d at hu hfl hne
  generalize fl bs a er = r at hfl ⊢
  obtain ⟨v, a1, e1⟩ := d
  have HU := Lib.hid hu
  have HF := Lib.hid hfl
  simp only at hne
  have HN := Lib.hid hne
  clear hu hfl hne
  by_cases h1 : 1 < v
  · obtain rfl : e1 = 0 := by
      rcases Nat.eq_zero_or_pos e1 with h | h
      · exact h
      · have := HN.out (by omega); omega
    have hd : decide ((1 : Int) < (v : Int)) = true := decide_eq_true (by omega)
    clear HN
    go_enter Try.func98, Try.ntmps98
    go_wp2_with fail
    refine HU.out.mono ?_
    rintro e w1 ⟨rfl, r1, t1⟩
    obtain ⟨D, c, d0, d1, d2, g1, g2, hs, hc⟩ := r1.open_
    have r3 := (r1.wrong 4 (by decide)).to a hle
    have t3 := (t1.set 2 (.int .i64 4)).set 1 (.int .i64 (a : Int))
    have HR := Lib.hid r3
    have HT := Lib.hid t3
    clear c0 c1 c2 f1 f2 r1 t1 r3 t3
    go_wp2_with fail
    go_ret
    rw [HF.out, if_pos h1]
    exact ⟨rfl, HR.out, HT.out⟩
  · have hd : decide ((1 : Int) < (v : Int)) = false := decide_eq_false (by omega)
    have hb : ((v : Int) == 1) = decide (v = 1) := by
      by_cases hv : v = 1
      · subst hv; rfl
      · rw [decide_eq_false hv]; exact beq_eq_false_iff_ne.2 (by omega)
    clear HN
    by_cases he : e1 = 0
    all_goals
      first
        | (subst he)
        | (have hi : ((e1 : Int) == 0) = false := beq_eq_false_iff_ne.2 (by omega))
      go_enter Try.func98, Try.ntmps98
      go_wp2_with fail
      refine HU.out.mono ?_
      rintro e w1 ⟨rfl, r1, t1⟩
      obtain ⟨D, c, d0, d1, d2, g1, g2, hs, hc⟩ := r1.open_
      clear c0 c1 c2 f1 f2
      go_wp2_with fail
      go_ret
      rw [HF.out, if_neg h1]
      exact ⟨rfl, r1, t1⟩

set_option maxRecDepth 100000 in
set_option maxHeartbeats 3200000 in
theorem reend_calls (p : Nat) (bs : List UInt8) (a er : Nat) (w : World) (h : Re w p bs a er) : Calls Try.prog 33 #[.pointer (some ⟨p, 0, none⟩)] w (AfterE p bs w (.int .i64 (endE bs a er : Int)) a (endE bs a er)) := by
  unfold AfterE
  obtain ⟨D, c, c0, c1, c2, f1, f2, hs, hc⟩ := h.open_
  have HH := Lib.hid h
  by_cases he : er = 0
  · subst he
    by_cases hlt : a < bs.length
    · have HE : Hid (endE bs a 0 = 5) := by show _ = _; unfold endE; rw [if_pos ⟨rfl, hlt⟩]
      have hi : decide ((a : Int) < (bs.length : Int)) = true := decide_eq_true (by omega)
      have hin : decide (a < bs.length) = true := decide_eq_true hlt
      clear h
      go_enter Try.func33, Try.ntmps33
      go_wp2_with fail
      go_quiet (fail)
      go_wp2_with fail
      go_ret
      rw [HE.out]
      exact ⟨rfl, (HH.out.q (Q.drewN w _)).wrong 5 (by omega), (Turned.drew p w _).set _ _⟩
    · have HE : Hid (endE bs a 0 = 0) := by show _ = _; unfold endE; rw [if_neg (by omega)]
      have hi : decide ((a : Int) < (bs.length : Int)) = false := decide_eq_false (by omega)
      have hin : decide (a < bs.length) = false := decide_eq_false hlt
      clear h
      go_enter Try.func33, Try.ntmps33
      go_wp2_with fail
      go_quiet (fail)
      go_wp2_with fail
      go_ret
      rw [HE.out]
      exact ⟨rfl, HH.out.q (Q.drewN w _), Turned.drew p w _⟩
  · have HE : Hid (endE bs a er = er) := by show _ = _; unfold endE; rw [if_neg (by omega)]
    have hi : ((er : Int) == 0) = false := beq_eq_false_iff_ne.2 (by omega)
    clear h
    go_enter Try.func33, Try.ntmps33
    go_wp2_with fail
    go_quiet (fail)
    go_wp2_with fail
    go_ret
    rw [HE.out]
    exact ⟨rfl, HH.out.q (Q.drewN w _), Turned.drew p w _⟩
end Go.Proofs.Ytepmnhlfjidhjaa
