/-
  The law's own 'back', for every item that was written there.
-/
import Derived.Test.YtjmiejcgahajfaaWireBack
import Derived.Test.YtjmiejcgahajfaaWirePutAny
import Derived.Test.YtjmiejcgahajfaaWireAt
import Derived.BigQuiet
import Derived.Deep.QuietTactic
namespace Go.Proofs.Ytjmiejcgahajfaa
open Go.RowKit Go.Mem

theorem it_at (bs r : List UInt8) (a : Nat) (zs : List Int) (ha : a ≤ bs.length) (hz : ∀ z ∈ zs, inI64 z) (hl : zs.length < 2 ^ 63) (h : bs.drop a = (Wire.num zs.length ++ encs zs) ++ r) : it bs a 0 (zs.length : Int) = (zs.map (fun z => (z.toNat : Int)), a + (Wire.num zs.length ++ encs zs).length, 0) := by
  have h' : bs.drop a = Wire.num zs.length ++ (encs zs ++ r) := by rw [h, List.append_assoc]
  have hle := len_at h' (by rw [Wire.num_length]; omega)
  have hd := drop_at h'
  rw [Wire.num_length] at hle hd
  have hst := steps_at bs zs _ r hle hz hd zs.length (Nat.le_refl _)
  rw [List.take_of_length_le (Nat.le_refl _)] at hst
  have hlen : a + (Wire.nb zs.length + 1) + zs.length ≤ bs.length := by
    have h1 := congrArg List.length hd
    rw [List.length_drop, List.length_append] at h1
    have h2 : zs.length ≤ (encs zs).length := by
      clear hst hd h' h hz hl h1 hle
      induction zs with
      | nil => exact Nat.zero_le _
      | cons z zs ih =>
        have : encs (z :: zs) = Wire.num z.toNat ++ encs zs := by unfold encs; rw [List.flatMap_cons]
        rw [this, List.length_append, Wire.num_length, List.length_cons]
        omega
    omega
  unfold it
  rw [up_at bs _ a _ _ ha hl (Int.le_refl _) h', if_neg (by simp), if_neg (show ¬ bs.length < a + (Wire.nb zs.length + 1) + zs.length by omega)]
  simp only [hst]
  rw [if_neg (by simp), List.length_append, Wire.num_length, Nat.add_assoc]

set_option maxHeartbeats 1000000 in
theorem backNone_calls (p : Nat) (cs : List UInt8) (a er : Nat) (k x m : Int) (s : ByteArray) (f : Bool) (L : Option Addr) (ln lc : Nat) (w : World) (h : Rd w p cs a er) (hk : k ≠ 1 ∧ k ≠ 2 ∧ k ≠ 3 ∧ k ≠ 4 ∧ k ≠ 5) : Calls Try.prog 30 #[.pointer (some ⟨p, 0, none⟩), itVal k x m s f L ln lc] w (After p cs w (.bool true) a er) := by
  obtain ⟨h1, h2, h3, h4, h5⟩ := hk
  have e1 : (k == 1) = false := beq_eq_false_iff_ne.2 h1
  have e2 : (k == 2) = false := beq_eq_false_iff_ne.2 h2
  have e3 : (k == 3) = false := beq_eq_false_iff_ne.2 h3
  have e4 : (k == 4) = false := beq_eq_false_iff_ne.2 h4
  have e5 : (k == 5) = false := beq_eq_false_iff_ne.2 h5
  clear h1 h2 h3 h4 h5
  have hp := h.lt
  have t0 := Turned.new hp (.cells #[.int .i64 k, .int .i64 x, .int .i64 m, .string s, .bool f, .slice L ln lc] 43)
  have r0 := h.keep ((Below.refl _ _).alloc (Nat.le_refl _) (.cells #[.int .i64 k, .int .i64 x, .int .i64 m, .string s, .bool f, .slice L ln lc] 43))
  unfold itVal After
  by_cases hx0 : x < 0
  · go_enter Try.func30, Try.ntmps30
    go_wp2_with fail
    go_ret
    exact ⟨rfl, r0, t0⟩
  · go_enter Try.func30, Try.ntmps30
    go_wp2_with fail
    go_ret
    exact ⟨rfl, r0, t0⟩

set_option maxHeartbeats 2000000 in
theorem backList_calls (p : Nat) (cs : List UInt8) (a : Nat) (x m : Int) (s : ByteArray) (f : Bool) (L : Option Addr) (lc : Nat) (zs : List Int) (w : World) (h : Rd w p cs a 0) (hcs : 8 * cs.length ≤ 70368744177664) (hL : Sl w L (zs.map I64)) (hLp : ∀ (b o : Nat), L = some ⟨b, o, none⟩ → 0 < zs.length → b ≠ p) (hz : ∀ z ∈ zs, inI64 z) (hzl : zs.length ≤ lc) (hlc : lc ≤ 1048576) (a2 : Nat) (hit : it cs a 0 (zs.length : Int) = (zs.map (fun z => (z.toNat : Int)), a2, 0)) :
    Calls Try.prog 30 #[.pointer (some ⟨p, 0, none⟩), itVal 5 x m s f L zs.length lc] w (After p cs w (.bool true) a2 0) := by
  have hp := h.lt
  have hL0 : Sl (w.alloc (.cells #[.int .i64 5, .int .i64 x, .int .i64 m, .string s, .bool f, .slice L zs.length lc] 43)) L (zs.map I64) := hL.alloc _
  have t0 := Turned.new hp (.cells #[.int .i64 5, .int .i64 x, .int .i64 m, .string s, .bool f, .slice L zs.length lc] 43)
  have r0 := h.keep ((Below.refl _ _).alloc (Nat.le_refl _) (.cells #[.int .i64 5, .int .i64 x, .int .i64 m, .string s, .bool f, .slice L zs.length lc] 43))
  have hc5 := (Blk.new w 43 #[.int .i64 5, .int .i64 x, .int .i64 m, .string s, .bool f, .slice L zs.length lc]).cell 5
  simp only [List.getElem?_cons_zero, List.getElem?_cons_succ] at hc5
  have HU := Lib.hid (items_calls p cs a 0 (zs.length : Int) _ r0 (by omega) hcs)
  have HL := Lib.hid hL0
  have HZ := Lib.hid hz
  have HLp := Lib.hid hLp
  clear hL hL0 hz hLp
  rw [hit] at HU
  clear hit
  unfold itVal After
  by_cases hx0 : x < 0
  · go_enter Try.func30, Try.ntmps30
    go_wp2_with fail
    refine HU.out.mono ?_
    rintro e w1 ⟨D, N, c, rfl, o1, r1, t1⟩
    have hN := o1.len
    simp only [List.length_map, Nat.mul_one] at hN
    subst hN
    have hc1 := t1.cell_far hc5 (by omega)
    have hle := o1.le
    have HO := Lib.hid o1.sl
    have HL1 : Hid (Sl w1 L (zs.map I64)) := by
      intro q u hu
      obtain ⟨b, o, e, hcell⟩ := HL.out q u hu
      have hq : q < zs.length := by have := (List.getElem?_eq_some_iff.1 hu).1; simpa using this
      exact ⟨b, o, e, t1.cell_far hcell (HLp.out b o e (by omega))⟩
    have tt := t0.trans t1
    clear HU HL o1 hc5 t0 r0 t1 h
    go_wp2_with fail
    go_loopw [7] (fun i wr => ∃ (q : Nat) (n : Nat), q ≤ zs.length ∧ i = .int .i64 q ∧ wr = w1.drewN n) (fun i _ => zs.length - (intOf i).toNat)
    case atStart => exact ⟨0, 0, Nat.zero_le _, rfl, rfl⟩
    case round =>
      obtain ⟨q, nn, hq, rfl, rfl⟩ := hrel
      by_cases hlt : q < zs.length
      · obtain ⟨g, og, rfl, hcd⟩ := HO.out.at_ (k := q) (by simpa using hlt)
        obtain ⟨b, ob, rfl, hcl⟩ := HL1.out.at_ (k := q) (by simpa using hlt)
        simp only [List.getElem_map] at hcd hcl
        generalize zs[q] = z at hcd hcl
        unfold I64 at hcd hcl
        have hdl : decide ((q : Int) < (zs.length : Int)) = true := decide_eq_true (by omega)
        have hql : (q : Int) < (zs.length : Int) := by omega
        by_cases hz0 : 0 ≤ z
        · rw [show ((z.toNat : Nat) : Int) = z by omega] at hcd
          have hne : (z != z) = false := by simp
          go_wp2_with fail
          go_quiet (fail)
          go_wp2_with fail
          go_roundw
          case rel => exact ⟨q + 1, _, by omega, by go_num, rfl⟩
          case measure => simp [intOf]; omega
        · rw [show ((z.toNat : Nat) : Int) = 0 by omega] at hcd
          have hne : ((0 : Int) != z) = true := bne_iff_ne.2 (by omega)
          have hge : decide (0 ≤ z) = false := decide_eq_false hz0
          go_wp2_with fail
          go_quiet (fail)
          go_wp2_with fail
          go_roundw
          case rel => exact ⟨q + 1, _, by omega, by go_num, rfl⟩
          case measure => simp [intOf]; omega
      · have hdl : decide ((q : Int) < (zs.length : Int)) = false := decide_eq_false (by omega)
        go_wp2_with fail
        go_ret
        exact ⟨rfl, r1.q (Q.drewN w1 _), tt.trans (Turned.drew p w1 _)⟩
  · go_enter Try.func30, Try.ntmps30
    go_wp2_with fail
    refine HU.out.mono ?_
    rintro e w1 ⟨D, N, c, rfl, o1, r1, t1⟩
    have hN := o1.len
    simp only [List.length_map, Nat.mul_one] at hN
    subst hN
    have hc1 := t1.cell_far hc5 (by omega)
    have hle := o1.le
    have HO := Lib.hid o1.sl
    have HL1 : Hid (Sl w1 L (zs.map I64)) := by
      intro q u hu
      obtain ⟨b, o, e, hcell⟩ := HL.out q u hu
      have hq : q < zs.length := by have := (List.getElem?_eq_some_iff.1 hu).1; simpa using this
      exact ⟨b, o, e, t1.cell_far hcell (HLp.out b o e (by omega))⟩
    have tt := t0.trans t1
    clear HU HL o1 hc5 t0 r0 t1 h
    go_wp2_with fail
    go_loopw [7] (fun i wr => ∃ (q : Nat) (n : Nat), q ≤ zs.length ∧ i = .int .i64 q ∧ wr = w1.drewN n) (fun i _ => zs.length - (intOf i).toNat)
    case atStart => exact ⟨0, 0, Nat.zero_le _, rfl, rfl⟩
    case round =>
      obtain ⟨q, nn, hq, rfl, rfl⟩ := hrel
      by_cases hlt : q < zs.length
      · obtain ⟨g, og, rfl, hcd⟩ := HO.out.at_ (k := q) (by simpa using hlt)
        obtain ⟨b, ob, rfl, hcl⟩ := HL1.out.at_ (k := q) (by simpa using hlt)
        simp only [List.getElem_map] at hcd hcl
        generalize zs[q] = z at hcd hcl
        unfold I64 at hcd hcl
        have hdl : decide ((q : Int) < (zs.length : Int)) = true := decide_eq_true (by omega)
        have hql : (q : Int) < (zs.length : Int) := by omega
        by_cases hz0 : 0 ≤ z
        · rw [show ((z.toNat : Nat) : Int) = z by omega] at hcd
          have hne : (z != z) = false := by simp
          go_wp2_with fail
          go_quiet (fail)
          go_wp2_with fail
          go_roundw
          case rel => exact ⟨q + 1, _, by omega, by go_num, rfl⟩
          case measure => simp [intOf]; omega
        · rw [show ((z.toNat : Nat) : Int) = 0 by omega] at hcd
          have hne : ((0 : Int) != z) = true := bne_iff_ne.2 (by omega)
          have hge : decide (0 ≤ z) = false := decide_eq_false hz0
          go_wp2_with fail
          go_quiet (fail)
          go_wp2_with fail
          go_roundw
          case rel => exact ⟨q + 1, _, by omega, by go_num, rfl⟩
          case measure => simp [intOf]; omega
      · have hdl : decide ((q : Int) < (zs.length : Int)) = false := decide_eq_false (by omega)
        go_wp2_with fail
        go_ret
        exact ⟨rfl, r1.q (Q.drewN w1 _), tt.trans (Turned.drew p w1 _)⟩

/-- an item that was written there is read back -/
theorem backAny_calls (p : Nat) (bs r : List UInt8) (a : Nat) (i : Itm) (w : World) (h : Rd w p bs a 0) (hok : i.Ok w) (hcs : 8 * bs.length ≤ 70368744177664) (hLp : ∀ (b o : Nat), i.L = some ⟨b, o, none⟩ → 0 < i.zs.length → b ≠ p) (hd : bs.drop a = i.enc ++ r) :
    Calls Try.prog 30 #[.pointer (some ⟨p, 0, none⟩), i.val] w (After p bs w (.bool true) (a + i.enc.length) 0) := by
  obtain ⟨k, x, m, s, f, L, ln, lc, zs⟩ := i
  obtain ⟨hok, hsm⟩ := hok
  simp only at hok hsm hLp
  have hx : inI64 x := hok.n
  have hx' : -9223372036854775808 ≤ x ∧ x ≤ 9223372036854775807 := hx
  have hlc := hok.le
  have ha := h.le
  have hln := hok.len
  subst hln
  show Calls Try.prog 30 #[.pointer (some ⟨p, 0, none⟩), itVal k x m s f L zs.length lc] w (After p bs w (.bool true) (a + (encIt k x s f zs).length) 0)
  have hd' : bs.drop a = encIt k x s f zs ++ r := hd
  clear hd
  unfold encIt at hd' ⊢
  by_cases h1 : k = 1
  · subst h1
    rw [if_pos (Or.inl rfl)] at hd' ⊢
    have hb := backNum_calls p bs a 0 x m s f L zs.length lc w h hx
    rw [nu_at bs r a x.toNat ha (by omega) hd'] at hb
    rw [Wire.num_length]
    simpa using hb
  by_cases h4 : k = 4
  · subst h4
    rw [if_pos (Or.inr rfl)] at hd' ⊢
    have hb := backUpto_calls p bs a 0 x m s f L zs.length lc w h hx
    rw [up_at bs r a x.toNat _ ha (by omega) (Int.le_refl _) hd'] at hb
    rw [Wire.num_length]
    simpa using hb
  rw [if_neg (by omega)] at hd' ⊢
  by_cases h2 : k = 2
  · subst h2
    rw [if_pos rfl] at hd' ⊢
    have hsl : s.data.toList.length = s.size := Array.length_toList
    have hb := backText_calls p bs a 0 x m s f L zs.length lc w h (by omega)
    rw [← hsl] at hd' hb ⊢
    rw [tx_at bs s.data.toList r a ha (by omega) hd', ByteArray.toList_eq] at hb
    simpa using hb
  rw [if_neg h2] at hd' ⊢
  by_cases h3 : k = 3
  · subst h3
    rw [if_pos rfl] at hd' ⊢
    have hb := backFlag_calls p bs a 0 x m s f L zs.length lc w h
    rw [fl_at bs r a f ha hd'] at hb
    rw [Wire.num_length]
    simpa using hb
  rw [if_neg h3] at hd' ⊢
  by_cases h5 : k = 5
  · subst h5
    rw [if_pos rfl] at hd' ⊢
    exact backList_calls p bs a x m s f L lc zs w h hcs hok.sl hLp hok.ints hlc (by omega) _ (it_at bs r a zs ha hok.ints (by omega) hd')
  · rw [if_neg h5]
    exact backNone_calls p bs a 0 k x m s f L zs.length lc w h ⟨h1, h2, h3, h4, h5⟩
end Go.Proofs.Ytjmiejcgahajfaa
