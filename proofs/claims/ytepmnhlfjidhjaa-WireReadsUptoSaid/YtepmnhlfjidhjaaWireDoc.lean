/-
  The document's reader.
-/
import Derived.Test.YtepmnhlfjidhjaaWireMethods
import Derived.Deep.QuietTactic
import Derived.BigQuiet
import Derived.IntWalk
import Derived.Lib.Hide
namespace Go.Proofs.Ytepmnhlfjidhjaa
open Go.RowKit Go.Mem

structure Re (w : World) (p : Nat) (bs : List UInt8) (a er : Nat) : Prop where
  blk : ∃ D c, Blk w p 135 [.slice D bs.length c, .int .i64 (a : Int), .int .i64 (er : Int)] ∧ Sl w D (bs.map B8) ∧ bs.length ≤ c
  le : a ≤ bs.length
  len : bs.length ≤ 70368744177664
  er5 : er ≤ 5
theorem Re.lt {w : World} {p : Nat} {bs : List UInt8} {a er : Nat} (h : Re w p bs a er) : p < w.heap.size := by
  obtain ⟨D, c, hb, _⟩ := h.blk; exact hb.lt
theorem Re.keep {w w' : World} {p : Nat} {bs : List UInt8} {a er : Nat} (h : Re w p bs a er) (hb : Below w.heap.size w w') : Re w' p bs a er := by
  obtain ⟨D, c, h1, h2, h3⟩ := h.blk
  exact ⟨⟨D, c, h1.below hb h1.lt, h2.below hb, h3⟩, h.le, h.len, h.er5⟩
theorem Re.q {w w' : World} {p : Nat} {bs : List UInt8} {a er : Nat} (h : Re w p bs a er) (hq : Q w w') : Re w' p bs a er := by
  obtain ⟨D, c, h1, h2, h3⟩ := h.blk
  exact ⟨⟨D, c, h1.q hq, h2.q hq, h3⟩, h.le, h.len, h.er5⟩
/-- the reader stands elsewhere -/
theorem Re.to {w : World} {p : Nat} {bs : List UInt8} {a er : Nat} (h : Re w p bs a er) (a' : Nat) (ha : a' ≤ bs.length) : Re (w.setCell ⟨p, 1, none⟩ (.int .i64 (a' : Int))) p bs a' er := by
  obtain ⟨D, c, h1, h2, h3⟩ := h.blk
  refine ⟨⟨D, c, ?_, sl_apart h1 (by simp) (by simp) (by simp) h2 _ _, h3⟩, ha, h.len, h.er5⟩
  have := h1.set_ 1 (.int .i64 (a' : Int))
  simpa using this
/-- the reader has another error -/
theorem Re.wrong {w : World} {p : Nat} {bs : List UInt8} {a er : Nat} (h : Re w p bs a er) (e' : Nat) (he : e' ≤ 5) : Re (w.setCell ⟨p, 2, none⟩ (.int .i64 (e' : Int))) p bs a e' := by
  obtain ⟨D, c, h1, h2, h3⟩ := h.blk
  refine ⟨⟨D, c, ?_, sl_apart h1 (by simp) (by simp) (by simp) h2 _ _, h3⟩, h.le, h.len, he⟩
  have := h1.set_ 2 (.int .i64 (e' : Int))
  simpa using this

/-- a reader's facts, opened -/
theorem Re.open_ {w : World} {p : Nat} {bs : List UInt8} {a er : Nat} (h : Re w p bs a er) : ∃ D c, w.cell? ⟨p, 0, none⟩ = some (.slice D bs.length c) ∧ w.cell? ⟨p, 1, none⟩ = some (.int .i64 (a : Int)) ∧ w.cell? ⟨p, 2, none⟩ = some (.int .i64 (er : Int)) ∧ w.frozen? ⟨p, 1, none⟩ = false ∧ w.frozen? ⟨p, 2, none⟩ = false ∧ Sl w D (bs.map B8) ∧ bs.length ≤ c := by
  obtain ⟨D, c, hb, h2, h3⟩ := h.blk
  have c0 := hb.cell 0
  have c1 := hb.cell 1
  have c2 := hb.cell 2
  simp only [List.getElem?_cons_zero, List.getElem?_cons_succ] at c0 c1 c2
  exact ⟨D, c, c0, c1, c2, hb.frozen 1, hb.frozen 2, h2, h3⟩

/-- what a method leaves: its answer, and the reader -/
def AfterE (p : Nat) (bs : List UInt8) (w : World) (v : Value) (a er : Nat) : Ending → World → Prop := fun e w' => e = .returned v ∧ Re w' p bs a er ∧ Turned p w w'

theorem Re.stay {w wr w' : World} {p : Nat} {bs : List UInt8} {a er a' er' : Nat} (h : Re w p bs a er) (ht : Turned p w wr) (hr : Re wr p bs a' er') (hb : Below w.heap.size wr w') : Re w' p bs a' er' := by
  obtain ⟨D, c, h1, h2, h3⟩ := h.blk
  obtain ⟨D', c', k1, k2, k3⟩ := hr.blk
  have c0 := h1.cell 0
  have d0 := k1.cell 0
  rw [ht.2, c0] at d0
  simp only [List.getElem?_cons_zero] at d0
  injection d0 with d0
  injection d0 with e1 _ e2
  subst e1 e2
  refine ⟨⟨D, c, (hb.block p h1.lt).trans k1, ?_, k3⟩, hr.le, hr.len, hr.er5⟩
  intro k u hu
  obtain ⟨b, o, e, hc⟩ := h2 k u hu
  obtain ⟨b', o', e', hc'⟩ := k2 k u hu
  rw [e] at e'
  injection e' with e'
  injection e' with e1 e2
  subst e1 e2
  exact ⟨b, o, e, (hb.cell (p := ⟨b, o + k, none⟩) (lt_of_cell hc)).trans hc'⟩


theorem or_byteI (v y : Nat) (hv : v < 36028797018963968) (hy : y < 256) : bits .or .i64 ((v : Int) * 256) (y : Int) = ((v * 256 + y : Nat) : Int) := by
  have e : (v : Int) * 256 = ((v * 256 : Nat) : Int) := by simp
  rw [e]
  show IntKind.i64.wrap ((BitVec.ofInt 64 ((v * 256 : Nat) : Int) ||| BitVec.ofInt 64 (y : Int)).toNat : Int) = _
  rw [BitVec.toNat_or, BitVec.toNat_ofInt, BitVec.toNat_ofInt]
  have e1 : (((v * 256 : Nat) : Int) % ((2 ^ 64 : Nat) : Int)).toNat = v * 256 := by omega
  have e2 : ((y : Int) % ((2 ^ 64 : Nat) : Int)).toNat = y := by omega
  rw [e1, e2, nat_join 8 _ _ (by omega) (by omega)]
  exact IntWalk.i64_in _ (by omega)
theorem val_top (x : UInt8) (l : List UInt8) (hl : l.length ≤ 7) (hx : l.length = 7 → x.toNat ≤ 127) : Wire.val (x :: l) < 9223372036854775808 := by
  rw [Wire.val_cons]
  have h1 := Wire.val_lt l
  have h2 := x.toNat_lt
  have hc : l.length = 0 ∨ l.length = 1 ∨ l.length = 2 ∨ l.length = 3 ∨ l.length = 4 ∨ l.length = 5 ∨ l.length = 6 ∨ l.length = 7 := by omega
  rcases hc with e | e | e | e | e | e | e | e
  all_goals
    rw [e] at h1 ⊢
    first
      | (have h3 := hx e; omega)
      | omega
set_option maxRecDepth 100000 in
set_option maxHeartbeats 3200000 in
theorem renum_calls (p : Nat) (bs : List UInt8) (a er : Nat) (w : World) (h : Re w p bs a er) : Calls Try.prog 94 #[.pointer (some ⟨p, 0, none⟩)] w (AfterE p bs w (.int .i64 ((nu bs a er).1 : Int)) (nu bs a er).2.1 (nu bs a er).2.2) := by
  unfold AfterE
  obtain ⟨D, c, c0, c1, c2, f1, f2, hs, hc⟩ := h.open_
  have hle := h.le
  have hlen := h.len
  have h5 := h.er5
  have HH := Lib.hid h
  clear h
  by_cases her : er = 0
  · subst her
    have HNu : Hid (nu bs a 0 = if (Wire.dec bs a).2.2 ≠ 0 then (0, a, (Wire.dec bs a).2.2) else ((Wire.dec bs a).1, (Wire.dec bs a).2.1, 0)) := (show _ = _ from by unfold nu up; rw [if_neg (by simp), Wire.decU_max])
    by_cases h0 : bs.length ≤ a
    · have hr : Hid (nu bs a 0 = (0, a, 3)) := (show _ = _ from by rw [HNu.out]; unfold Wire.dec; rw [if_pos h0]; rfl)
      have d0 : decide ((bs.length : Int) ≤ (a : Int)) = true := decide_eq_true (by omega)
      clear HNu
      go_enter Try.func94, Try.ntmps94
      go_wp2_with fail
      go_quiet (fail)
      go_wp2_with fail
      go_ret
      rw [hr.out]
      exact ⟨rfl, (HH.out.q (Q.drewN w nq)).wrong 3 (by decide), (Turned.drew p w nq).set _ _⟩
    · have hlt : a < bs.length := by omega
      have d0 : decide ((bs.length : Int) ≤ (a : Int)) = false := decide_eq_false (by omega)
      have d0n : decide (bs.length ≤ a) = false := decide_eq_false (by omega)
      obtain ⟨b, o, rfl, hca⟩ := hs.byte hlt
      have hg : bs.getD a 0 = bs[a] := by simp [List.getD, hlt]
      have hx255 : (bs[a]).toNat ≤ 255 := by have := (bs[a]).toNat_lt; omega
      have hgk : (bs.getD a 0).toNat = (bs[a]).toNat := by rw [hg]
      generalize (bs[a]).toNat = k at hca hgk hx255
      have HX := Lib.hid hgk
      clear hgk hg h0
      have a0 : (0 : Int) ≤ (a : Int) := by omega
      have a1 : (a : Int) < (bs.length : Int) := by omega
      have e1 : IntKind.i64.wrap ((bs.length : Int) - (a : Int)) = (bs.length : Int) - (a : Int) := IntWalk.i64_in _ (by omega)
      have e2 : IntKind.i64.wrap ((bs.length : Int) - (a : Int) - 1) = (bs.length : Int) - (a : Int) - 1 := IntWalk.i64_in _ (by omega)
      have HE1 := Lib.hid e1
      have HE2 := Lib.hid e2
      clear e1 e2
      by_cases h8 : 8 < k
      · have hr : Hid (nu bs a 0 = (0, a, 4)) := (show _ = _ from by rw [HNu.out]; unfold Wire.dec; rw [HX.out, if_neg (show ¬ bs.length ≤ a by omega), if_pos h8]; rfl)
        clear HNu
        go_enter Try.func94, Try.ntmps94
        go_wp2_with fail
        go_quiet (fail)
        go_wp2_with fail
        go_quiet (fail)
        go_wp2_with fail
        go_ret
        rw [hr.out]
        exact ⟨rfl, (HH.out.q (Q.drewN w _)).wrong 4 (by decide), (Turned.drew p w _).set _ _⟩
      · by_cases hsh : bs.length < a + 1 + k
        · have hr : Hid (nu bs a 0 = (0, a, 3)) := (show _ = _ from by rw [HNu.out]; unfold Wire.dec; rw [HX.out, if_neg (show ¬ bs.length ≤ a by omega), if_neg h8, if_pos hsh]; rfl)
          have d1 : decide ((bs.length : Int) - (a : Int) - 1 < (k : Int)) = true := decide_eq_true (by omega)
          have d8 : decide ((8 : Int) < (k : Int)) = false := decide_eq_false (by omega)
          have e1 := HE1.out
          have e2 := HE2.out
          clear HNu
          go_enter Try.func94, Try.ntmps94
          go_wp2_with fail
          go_quiet (fail)
          go_wp2_with fail
          go_quiet (fail)
          go_wp2_with fail
          go_quiet (fail)
          go_wp2_with fail
          go_ret
          rw [hr.out]
          exact ⟨rfl, (HH.out.q (Q.drewN w _)).wrong 3 (by decide), (Turned.drew p w _).set _ _⟩
        · have d1 : decide ((bs.length : Int) - (a : Int) - 1 < (k : Int)) = false := decide_eq_false (by omega)
          have d8 : decide ((8 : Int) < (k : Int)) = false := decide_eq_false (by omega)
          have hcells : ∀ j, j < k → w.cell? ⟨b, o + (a + 1 + j), none⟩ = some (.int .u8 ((((bs.drop (a + 1)).take k).getD j 0).toNat : Int)) := fun j hj => by
            obtain ⟨b', o', e, hc⟩ := hs.byte (k := a + 1 + j) (by omega)
            obtain ⟨rfl, rfl⟩ : b = b' ∧ o = o' := by injection e with e; injection e with e1 e2; exact ⟨e1, e2⟩
            have e2 : ((bs.drop (a + 1)).take k).getD j 0 = bs[a + 1 + j]'(by omega) := by
              simp [List.getD, hj, show a + 1 + j < bs.length by omega]
            rw [e2, ← hc]
          have hll : ((bs.drop (a + 1)).take k).length = k := by rw [List.length_take, List.length_drop]; omega
          have HD0 : Hid (nu bs a 0 = if (0 < k ∧ ((bs.drop (a + 1)).take k).getD 0 0 = 0) ∨ 2 ^ 63 ≤ Wire.val ((bs.drop (a + 1)).take k) then (0, a, 4) else (Wire.val ((bs.drop (a + 1)).take k), a + 1 + k, 0)) := (show _ = _ from by
            have hg1 : 0 < k → bs.getD (a + 1) 0 = ((bs.drop (a + 1)).take k).getD 0 0 := fun h => by
              simp [List.getD, h, show a + 1 < bs.length by omega]
            rw [HNu.out]
            unfold Wire.dec
            rw [HX.out, if_neg (show ¬ bs.length ≤ a by omega), if_neg h8, if_neg hsh]
            by_cases hk : 0 < k
            · rw [hg1 hk]; split <;> simp
            · obtain rfl : k = 0 := by omega
              simp [Wire.val])
          generalize (bs.drop (a + 1)).take k = l at hcells hll HD0
          have HCE := Lib.hid hcells
          have HLL := Lib.hid hll
          clear HNu hcells hll hs
          have hk8 : k ≤ 8 := by omega
          -- the first byte decides
          have HT : Hid ((0 < k ∧ l.getD 0 0 = 0) ∨ (k = 8 ∧ l.getD 0 0 ≠ 0 ∧ 127 < (l.getD 0 0).toNat) ∨ ((0 < k → l.getD 0 0 ≠ 0) ∧ (k = 8 → (l.getD 0 0).toNat ≤ 127))) := (show _ ∨ _ from by
            by_cases q1 : 0 < k ∧ l.getD 0 0 = 0
            · exact .inl q1
            · by_cases q2 : k = 8 ∧ 127 < (l.getD 0 0).toNat
              · exact .inr (.inl ⟨q2.1, fun h => q1 ⟨by omega, h⟩, q2.2⟩)
              · exact .inr (.inr ⟨fun h h2 => q1 ⟨h, h2⟩, fun h => by
                  rcases Nat.lt_or_ge 127 (l.getD 0 0).toNat with h3 | h3
                  · exact absurd ⟨h, h3⟩ q2
                  · exact h3⟩))
          have HVal : Hid (k = 8 → 127 < (l.getD 0 0).toNat → 2 ^ 63 ≤ Wire.val l) := (show _ → _ → _ from fun h1 h2 => by
            match l, HLL.out with
            | [], h => rw [h1] at h; cases h
            | x :: r, h =>
              have hr : r.length = 7 := by simp at h; omega
              have h3 : 127 < x.toNat := by simpa [List.getD] using h2
              rw [Wire.val_cons, hr]
              have : (256 : Nat) ^ 7 = 72057594037927936 := by decide
              rw [this]
              omega)
          have HVlt : Hid ((k = 8 → (l.getD 0 0).toNat ≤ 127) → ∀ j, j ≤ k → Wire.val (l.take j) < 9223372036854775808) := (show _ → ∀ _, _ from fun h1 j hj => by
            match l, HLL.out with
            | [], h => simp [Wire.val]
            | x :: r, h =>
              cases j with
              | zero => simp [Wire.val]
              | succ j =>
                rw [List.take_succ_cons]
                have hr : r.length + 1 = k := by simpa using h
                refine val_top x (r.take j) (by rw [List.length_take]; omega) (fun h7 => ?_)
                rw [List.length_take] at h7
                simpa [List.getD] using h1 (by omega))
          have z0 : ((a : Int) + 1).toNat = a + 1 := by omega
          have z1 : (0 : Int) ≤ (a : Int) + 1 := by omega
          have e1 := HE1.out
          have e2 := HE2.out
          have e3 : IntKind.i64.wrap ((a : Int) + 1) = (a : Int) + 1 := IntWalk.i64_in _ (by omega)
          rcases HT.out with hbad | hbad | hgood
          · have hr : Hid (nu bs a 0 = (0, a, 4)) := (show _ = _ from by rw [HD0.out, if_pos (.inl hbad)])
            obtain ⟨hk0, hy⟩ := hbad
            have cy := HCE.out 0 hk0
            rw [hy, Nat.add_zero] at cy
            have dz : decide ((0 : Int) < (k : Int)) = true := decide_eq_true (by omega)
            have dzn : decide (0 < k) = true := decide_eq_true (by omega)
            have ey : (((0 : UInt8).toNat : Int) == 0) = true := rfl
            have z2 : (a : Int) + 1 < (bs.length : Int) := by omega
            clear HD0 HCE HT HVal HVlt hy HX
            go_enter Try.func94, Try.ntmps94
            go_wp2_with fail
            go_quiet (fail)
            go_wp2_with fail
            go_quiet (fail)
            go_wp2_with fail
            go_quiet (fail)
            go_wp2_with fail
            go_quiet (fail)
            go_wp2_with fail
            go_ret
            rw [hr.out]
            exact ⟨rfl, (HH.out.q (Q.drewN w _)).wrong 4 (by decide), (Turned.drew p w _).set _ _⟩
          · have hr : Hid (nu bs a 0 = (0, a, 4)) := (show _ = _ from by rw [HD0.out, if_pos (.inr (HVal.out hbad.1 hbad.2.2))])
            obtain ⟨hk8', hy, hy2⟩ := hbad
            have cy := HCE.out 0 (by omega)
            rw [Nat.add_zero] at cy
            have hyn : (l.getD 0 0).toNat ≠ 0 := fun h => hy (UInt8.toNat.inj h)
            generalize (l.getD 0 0).toNat = y at cy hy2 hyn
            have dz : decide ((0 : Int) < (k : Int)) = true := decide_eq_true (by omega)
            have dzn : decide (0 < k) = true := decide_eq_true (by omega)
            have ey : ((y : Int) == 0) = false := beq_eq_false_iff_ne.2 (by omega)
            have dy : decide ((127 : Int) < (y : Int)) = true := decide_eq_true (by omega)
            have e8 : ((k : Int) == 8) = true := beq_iff_eq.2 (by omega)
            have z2 : (a : Int) + 1 < (bs.length : Int) := by omega
            clear HD0 HCE HT HVal HVlt hy hyn hk8' HX
            go_enter Try.func94, Try.ntmps94
            go_wp2_with fail
            go_quiet (fail)
            go_wp2_with fail
            go_quiet (fail)
            go_wp2_with fail
            go_quiet (fail)
            go_wp2_with fail
            go_quiet (fail)
            go_wp2_with fail
            go_ret
            rw [hr.out]
            exact ⟨rfl, (HH.out.q (Q.drewN w _)).wrong 4 (by decide), (Turned.drew p w _).set _ _⟩
          · have hvl := HVlt.out hgood.2
            have hv63 : Wire.val l < 9223372036854775808 := by
              have := hvl k (Nat.le_refl _)
              rwa [List.take_of_length_le (Nat.le_of_eq HLL.out)] at this
            have hr : Hid (nu bs a 0 = (Wire.val l, a + 1 + k, 0)) := (show _ = _ from by
              rw [HD0.out, if_neg]
              rintro (⟨h1, h2⟩ | h1)
              · exact hgood.1 h1 h2
              · omega)
            have HVL := Lib.hid hvl
            have HTo : Hid (∀ W, Q w W → Re (W.setCell ⟨p, 1, none⟩ (.int .i64 ((a : Int) + 1 + (k : Int)))) p bs (a + 1 + k) 0) := (show ∀ _, _ from fun W hW => by
              have := (HH.out.q hW).to (a + 1 + k) (by omega)
              rw [show ((a + 1 + k : Nat) : Int) = (a : Int) + 1 + (k : Int) by omega] at this
              exact this)
            have HCY : Hid (0 < k → ∃ y : Nat, w.cell? ⟨b, o + (a + 1), none⟩ = some (.int .u8 (y : Int)) ∧ ((y : Int) == 0) = false ∧ (k = 8 → decide ((127 : Int) < (y : Int)) = false)) := (show _ → ∃ _, _ from fun h => ⟨(l.getD 0 0).toNat, by have := HCE.out 0 h; rw [Nat.add_zero] at this; exact this, beq_eq_false_iff_ne.2 (fun h2 => hgood.1 h (UInt8.toNat.inj (by show _ = 0; omega))), fun h8 => decide_eq_false (by have := hgood.2 h8; omega)⟩)
            have hkk : k = 0 ∨ (0 < k ∧ k ≠ 8) ∨ k = 8 := by omega
            clear HD0 HT HVal HVlt hgood hvl HX
            rcases hkk with hk | ⟨hk, hk2⟩ | hk
            · have dz : decide ((0 : Int) < (k : Int)) = false := decide_eq_false (by omega)
              have dzn : decide (0 < k) = false := decide_eq_false (by omega)
              have e8 : ((k : Int) == 8) = false := beq_eq_false_iff_ne.2 (by omega)
              clear hk HCY
              go_enter Try.func94, Try.ntmps94
              go_wp2_with fail
              go_quiet (fail)
              go_wp2_with fail
              go_quiet (fail)
              go_wp2_with fail
              go_quiet (fail)
              go_wp2_with fail
              go_quiet (fail)
              go_wp2_with fail
              go_loopw [4, 5] (fun v i wr => ∃ (j : Nat), j ≤ k ∧ i = .int .i64 j ∧ v = .int .i64 ((Wire.val (l.take j) : Nat) : Int) ∧ Q w wr) (fun _ i _ => k - (intOf i).toNat)
              case atStart => exact ⟨0, Nat.zero_le _, rfl, rfl, (show Q w _ from ⟨rfl, rfl, rfl, rfl⟩)⟩
              case round =>
                obtain ⟨j, hj, rfl, rfl, hq⟩ := hrel
                replace c0 := (hq.cell _).trans c0
                replace c1 := (hq.cell _).trans c1
                replace f1 := (hq.frozen _).trans f1
                by_cases hlt2 : j < k
                · have hcj := (hq.cell _).trans (HCE.out j hlt2)
                  have hjl : j < l.length := by rw [HLL.out]; exact hlt2
                  have HV : Hid (Wire.val (l.take (j + 1)) = Wire.val (l.take j) * 256 + (l.getD j 0).toNat) := (show _ = _ from by
                    rw [List.take_succ_eq_append_getElem hjl]
                    unfold Wire.val
                    rw [List.foldl_append]
                    simp [List.getD, hjl])
                  have hv1 := HVL.out (j + 1) (by omega)
                  rw [HV.out] at hv1
                  generalize (l.getD j 0) = yj at hcj HV hv1
                  generalize Wire.val (l.take j) = v at HV hv1
                  have hy : yj.toNat < 256 := yj.toNat_lt
                  have hor := Lib.hid (or_byteI v yj.toNat (by omega) hy)
                  have j0 : (0 : Int) ≤ (j : Int) := by omega
                  have e4 : IntKind.i64.wrap ((a : Int) + 1 + (j : Int)) = (a : Int) + 1 + (j : Int) := IntWalk.i64_in _ (by omega)
                  have z3 : (0 : Int) ≤ (a : Int) + 1 + (j : Int) := by omega
                  have z4 : (a : Int) + 1 + (j : Int) < (bs.length : Int) := by omega
                  have z5 : ((a : Int) + 1 + (j : Int)).toNat = a + 1 + j := by omega
                  have e5 : IntKind.i64.wrap ((v : Int) * 256) = (v : Int) * 256 := IntWalk.i64_in _ (by omega)
                  have dj : decide ((j : Int) < (k : Int)) = true := decide_eq_true (by omega)
                  go_wp2_with fail
                  go_quiet (fail)
                  go_wp2_with fail
                  go_roundw
                  case rel => exact ⟨j + 1, by omega, by go_num, by rw [HV.out, ← hor.out], (show Q w (wr.drewN _) from ⟨hq.1, hq.2, hq.3, hq.4⟩)⟩
                  case measure => simp [intOf]; omega
                · obtain rfl : j = k := by omega
                  have hfull : l.take j = l := List.take_of_length_le (by rw [HLL.out]; exact Nat.le_refl _)
                  rw [hfull]
                  have e6 : IntKind.i64.wrap ((a : Int) + 1 + (j : Int)) = (a : Int) + 1 + (j : Int) := IntWalk.i64_in _ (by omega)
                  clear hfull
                  go_wp2_with fail
                  go_ret
                  rw [hr.out]
                  exact ⟨rfl, HTo.out _ hq, (Turned.q hq).set _ _⟩
            · obtain ⟨y, cy, ey, _⟩ := HCY.out hk
              have dz : decide ((0 : Int) < (k : Int)) = true := decide_eq_true (by omega)
              have dzn : decide (0 < k) = true := decide_eq_true (by omega)
              have e8 : ((k : Int) == 8) = false := beq_eq_false_iff_ne.2 (by omega)
              have z2 : (a : Int) + 1 < (bs.length : Int) := by omega
              clear hk hk2 HCY
              go_enter Try.func94, Try.ntmps94
              go_wp2_with fail
              go_quiet (fail)
              go_wp2_with fail
              go_quiet (fail)
              go_wp2_with fail
              go_quiet (fail)
              go_wp2_with fail
              go_quiet (fail)
              go_wp2_with fail
              go_loopw [4, 5] (fun v i wr => ∃ (j : Nat), j ≤ k ∧ i = .int .i64 j ∧ v = .int .i64 ((Wire.val (l.take j) : Nat) : Int) ∧ Q w wr) (fun _ i _ => k - (intOf i).toNat)
              case atStart => exact ⟨0, Nat.zero_le _, rfl, rfl, (show Q w _ from ⟨rfl, rfl, rfl, rfl⟩)⟩
              case round =>
                obtain ⟨j, hj, rfl, rfl, hq⟩ := hrel
                replace c0 := (hq.cell _).trans c0
                replace c1 := (hq.cell _).trans c1
                replace f1 := (hq.frozen _).trans f1
                by_cases hlt2 : j < k
                · have hcj := (hq.cell _).trans (HCE.out j hlt2)
                  have hjl : j < l.length := by rw [HLL.out]; exact hlt2
                  have HV : Hid (Wire.val (l.take (j + 1)) = Wire.val (l.take j) * 256 + (l.getD j 0).toNat) := (show _ = _ from by
                    rw [List.take_succ_eq_append_getElem hjl]
                    unfold Wire.val
                    rw [List.foldl_append]
                    simp [List.getD, hjl])
                  have hv1 := HVL.out (j + 1) (by omega)
                  rw [HV.out] at hv1
                  generalize (l.getD j 0) = yj at hcj HV hv1
                  generalize Wire.val (l.take j) = v at HV hv1
                  have hy : yj.toNat < 256 := yj.toNat_lt
                  have hor := Lib.hid (or_byteI v yj.toNat (by omega) hy)
                  have j0 : (0 : Int) ≤ (j : Int) := by omega
                  have e4 : IntKind.i64.wrap ((a : Int) + 1 + (j : Int)) = (a : Int) + 1 + (j : Int) := IntWalk.i64_in _ (by omega)
                  have z3 : (0 : Int) ≤ (a : Int) + 1 + (j : Int) := by omega
                  have z4 : (a : Int) + 1 + (j : Int) < (bs.length : Int) := by omega
                  have z5 : ((a : Int) + 1 + (j : Int)).toNat = a + 1 + j := by omega
                  have e5 : IntKind.i64.wrap ((v : Int) * 256) = (v : Int) * 256 := IntWalk.i64_in _ (by omega)
                  have dj : decide ((j : Int) < (k : Int)) = true := decide_eq_true (by omega)
                  go_wp2_with fail
                  go_quiet (fail)
                  go_wp2_with fail
                  go_roundw
                  case rel => exact ⟨j + 1, by omega, by go_num, by rw [HV.out, ← hor.out], (show Q w (wr.drewN _) from ⟨hq.1, hq.2, hq.3, hq.4⟩)⟩
                  case measure => simp [intOf]; omega
                · obtain rfl : j = k := by omega
                  have hfull : l.take j = l := List.take_of_length_le (by rw [HLL.out]; exact Nat.le_refl _)
                  rw [hfull]
                  have e6 : IntKind.i64.wrap ((a : Int) + 1 + (j : Int)) = (a : Int) + 1 + (j : Int) := IntWalk.i64_in _ (by omega)
                  clear hfull
                  go_wp2_with fail
                  go_ret
                  rw [hr.out]
                  exact ⟨rfl, HTo.out _ hq, (Turned.q hq).set _ _⟩
            · obtain ⟨y, cy, ey, dy'⟩ := HCY.out (by omega)
              have dy := dy' hk
              have dz : decide ((0 : Int) < (k : Int)) = true := decide_eq_true (by omega)
              have dzn : decide (0 < k) = true := decide_eq_true (by omega)
              have e8 : ((k : Int) == 8) = true := beq_iff_eq.2 (by omega)
              have z2 : (a : Int) + 1 < (bs.length : Int) := by omega
              clear hk dy' HCY
              go_enter Try.func94, Try.ntmps94
              go_wp2_with fail
              go_quiet (fail)
              go_wp2_with fail
              go_quiet (fail)
              go_wp2_with fail
              go_quiet (fail)
              go_wp2_with fail
              go_quiet (fail)
              go_wp2_with fail
              go_loopw [4, 5] (fun v i wr => ∃ (j : Nat), j ≤ k ∧ i = .int .i64 j ∧ v = .int .i64 ((Wire.val (l.take j) : Nat) : Int) ∧ Q w wr) (fun _ i _ => k - (intOf i).toNat)
              case atStart => exact ⟨0, Nat.zero_le _, rfl, rfl, (show Q w _ from ⟨rfl, rfl, rfl, rfl⟩)⟩
              case round =>
                obtain ⟨j, hj, rfl, rfl, hq⟩ := hrel
                replace c0 := (hq.cell _).trans c0
                replace c1 := (hq.cell _).trans c1
                replace f1 := (hq.frozen _).trans f1
                by_cases hlt2 : j < k
                · have hcj := (hq.cell _).trans (HCE.out j hlt2)
                  have hjl : j < l.length := by rw [HLL.out]; exact hlt2
                  have HV : Hid (Wire.val (l.take (j + 1)) = Wire.val (l.take j) * 256 + (l.getD j 0).toNat) := (show _ = _ from by
                    rw [List.take_succ_eq_append_getElem hjl]
                    unfold Wire.val
                    rw [List.foldl_append]
                    simp [List.getD, hjl])
                  have hv1 := HVL.out (j + 1) (by omega)
                  rw [HV.out] at hv1
                  generalize (l.getD j 0) = yj at hcj HV hv1
                  generalize Wire.val (l.take j) = v at HV hv1
                  have hy : yj.toNat < 256 := yj.toNat_lt
                  have hor := Lib.hid (or_byteI v yj.toNat (by omega) hy)
                  have j0 : (0 : Int) ≤ (j : Int) := by omega
                  have e4 : IntKind.i64.wrap ((a : Int) + 1 + (j : Int)) = (a : Int) + 1 + (j : Int) := IntWalk.i64_in _ (by omega)
                  have z3 : (0 : Int) ≤ (a : Int) + 1 + (j : Int) := by omega
                  have z4 : (a : Int) + 1 + (j : Int) < (bs.length : Int) := by omega
                  have z5 : ((a : Int) + 1 + (j : Int)).toNat = a + 1 + j := by omega
                  have e5 : IntKind.i64.wrap ((v : Int) * 256) = (v : Int) * 256 := IntWalk.i64_in _ (by omega)
                  have dj : decide ((j : Int) < (k : Int)) = true := decide_eq_true (by omega)
                  go_wp2_with fail
                  go_quiet (fail)
                  go_wp2_with fail
                  go_roundw
                  case rel => exact ⟨j + 1, by omega, by go_num, by rw [HV.out, ← hor.out], (show Q w (wr.drewN _) from ⟨hq.1, hq.2, hq.3, hq.4⟩)⟩
                  case measure => simp [intOf]; omega
                · obtain rfl : j = k := by omega
                  have hfull : l.take j = l := List.take_of_length_le (by rw [HLL.out]; exact Nat.le_refl _)
                  rw [hfull]
                  have e6 : IntKind.i64.wrap ((a : Int) + 1 + (j : Int)) = (a : Int) + 1 + (j : Int) := IntWalk.i64_in _ (by omega)
                  clear hfull
                  go_wp2_with fail
                  go_ret
                  rw [hr.out]
                  exact ⟨rfl, HTo.out _ hq, (Turned.q hq).set _ _⟩
  · have hr : Hid (nu bs a er = (0, a, er)) := (show _ = _ from by unfold nu up; rw [if_pos her])
    have d0 : ((er : Int) != 0) = true := by simp; omega
    clear her
    go_enter Try.func94, Try.ntmps94
    go_wp2_with fail
    go_ret
    rw [hr.out]
    exact ⟨rfl, HH.out, Turned.drew p w 0⟩
end Go.Proofs.Ytepmnhlfjidhjaa
