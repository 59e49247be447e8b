/-
  The contracts of utf.value and utf.front (written by gen/mkutf2.py).
-/
import Derived.Test.YtepmnhlfjidhjaaUtfStart
import Derived.Test.YtepmnhlfjidhjaaObj
import Derived.Laws.Bits
namespace Go.Proofs.Ytepmnhlfjidhjaa
open Go.RowKit Go.Mem

def valN : List UInt8 → Nat
  | [] => 0
  | [b] => b.toNat
  | b :: r => r.foldl (fun v c => v * 64 + c.toNat % 64) (b.toNat % (if r.length = 1 then 32 else if r.length = 2 then 16 else 8))
theorem valN_cons (x : UInt8) (r : List UInt8) (h : 0 < r.length) : valN (x :: r) = r.foldl (fun v c => v * 64 + c.toNat % 64) (x.toNat % (if r.length = 1 then 32 else if r.length = 2 then 16 else 8)) := by
  cases r with
  | nil => simp at h
  | cons y t => rfl

set_option maxRecDepth 100000 in
set_option maxHeartbeats 3200000 in
theorem value_calls (bs : List UInt8) (A : Option Addr) (n c : Nat) (w : World) (hl : bs.length = n) (hpos : 0 < n) (hmax : n ≤ 4) (hc : n ≤ c) (hs : Sl w A (bs.map B8)) :
    Calls Try.prog 125 #[.slice A n c] w fun e w' => e = .returned (.int .i32 (valN bs : Int)) ∧ w = w' := by
  subst hl
  obtain ⟨b, o, rfl, hc0⟩ := hs.byte hpos
  rw [Nat.add_zero] at hc0
  have hlen : (0 : Int) < (bs.length : Int) := by omega
  obtain ⟨x, r, rfl⟩ : ∃ x r, bs = x :: r := by cases bs with | nil => simp at hpos | cons x r => exact ⟨x, r, rfl⟩
  have hx := x.toNat_lt
  by_cases h0 : r.length = 0
  · obtain rfl := List.eq_nil_of_length_eq_zero h0
    have hb1 : (((([x] : List UInt8).length : Nat) : Int) == 1) = true := by simp
    have hV : valN [x] = x.toNat := rfl
    rw [hV]
    simp only [List.length_cons, List.length_nil, List.getElem_cons_zero] at *
    generalize x.toNat = xn at hc0 hx ⊢
    clear hs hV
    go_enter Try.func125, Try.ntmps125
    go_wp2_with fail
    go_ret
    exact ⟨rfl, rfl⟩
  by_cases h : r.length = 1
  · have hV := valN_cons x r (by omega)
    rw [if_pos h] at hV
    simp only [List.length_cons, List.getElem_cons_zero] at *
    generalize valN (x :: r) = V at hV ⊢
    have hb0 : (((r.length + 1 : Nat) : Int) == 1) = false := beq_eq_false_iff_ne.2 (by omega)
    have hb1 : (((r.length + 1 : Nat) : Int) == 2) = true := beq_iff_eq.2 (by omega)
    have HV := Lib.hid hV
    clear hV h0
    generalize x.toNat = xn at hc0 hx HV
    go_enter Try.func125, Try.ntmps125
    go_wp2_with fail
    go_loopw [3, 5, 36] (fun v _ k wr => ∃ (j vn : Nat), v = .int .i32 vn ∧ k = .int .i64 j ∧ j ≤ r.length ∧ vn < 32 * 64 ^ j ∧ Hid (V = (r.drop j).foldl (fun v c => v * 64 + c.toNat % 64) vn) ∧ wr = w) (fun _ _ k _ => r.length - (intOf k).toNat)
    case atStart => exact ⟨0, xn % 32, by simp, rfl, by omega, by omega, HV, rfl⟩
    case round =>
      clear HV
      obtain ⟨j, vn, rfl, rfl, hj, hv, HV, hw⟩ := hrel
      subst hw
      by_cases hjl : j < r.length
      · have hcy := Sl.byteAt hs (k := j + 1) (by simpa using hjl)
        rw [List.getElem_cons_succ, show o + (j + 1) = o + 1 + j by omega] at hcy
        have hV2 := HV.out
        rw [List.drop_eq_getElem_cons hjl, List.foldl_cons] at hV2
        have HV2 := Lib.hid hV2
        clear hV2 HV
        have hy := (r[j]'hjl).toNat_lt
        generalize (r[j]'hjl).toNat = y at hcy hy HV2
        have hv2 : vn < 32 * 4096 := Nat.lt_of_lt_of_le hv (Nat.mul_le_mul_left _ (Nat.le_trans (Nat.pow_le_pow_right (by decide) (show j ≤ 2 by omega)) (by decide)))
        have hv3 : vn * 64 + y % 64 < 32 * 64 ^ (j + 1) := by rw [Nat.pow_succ]; generalize 64 ^ j = q at hv; omega
        have HV3 := Lib.hid hv3
        have i0 : (0 : Int) ≤ (j : Int) := Int.natCast_nonneg _
        have i1 : (j : Int) < (r.length : Int) := by omega
        clear hv hv3
        go_wp2_with fail
        go_roundw
        case rel => exact ⟨j + 1, vn * 64 + y % 64, by simp, by go_num, by omega, HV3.out, HV2, trivial⟩
        case measure => simp [intOf]; omega
      · obtain rfl : j = r.length := by omega
        have hV2 := HV.out
        rw [List.drop_length, List.foldl_nil] at hV2
        subst hV2
        clear HV hv
        go_wp2_with fail
        go_ret
        exact ⟨rfl, rfl⟩
  by_cases h : r.length = 2
  · have hV := valN_cons x r (by omega)
    rw [if_neg (by omega), if_pos h] at hV
    simp only [List.length_cons, List.getElem_cons_zero] at *
    generalize valN (x :: r) = V at hV ⊢
    have hb0 : (((r.length + 1 : Nat) : Int) == 1) = false := beq_eq_false_iff_ne.2 (by omega)
    have hb1 : (((r.length + 1 : Nat) : Int) == 2) = false := beq_eq_false_iff_ne.2 (by omega)
    have hb2 : (((r.length + 1 : Nat) : Int) == 3) = true := beq_iff_eq.2 (by omega)
    have HV := Lib.hid hV
    clear hV h0
    generalize x.toNat = xn at hc0 hx HV
    go_enter Try.func125, Try.ntmps125
    go_wp2_with fail
    go_loopw [3, 5, 36] (fun v _ k wr => ∃ (j vn : Nat), v = .int .i32 vn ∧ k = .int .i64 j ∧ j ≤ r.length ∧ vn < 16 * 64 ^ j ∧ Hid (V = (r.drop j).foldl (fun v c => v * 64 + c.toNat % 64) vn) ∧ wr = w) (fun _ _ k _ => r.length - (intOf k).toNat)
    case atStart => exact ⟨0, xn % 16, by simp, rfl, by omega, by omega, HV, rfl⟩
    case round =>
      clear HV
      obtain ⟨j, vn, rfl, rfl, hj, hv, HV, hw⟩ := hrel
      subst hw
      by_cases hjl : j < r.length
      · have hcy := Sl.byteAt hs (k := j + 1) (by simpa using hjl)
        rw [List.getElem_cons_succ, show o + (j + 1) = o + 1 + j by omega] at hcy
        have hV2 := HV.out
        rw [List.drop_eq_getElem_cons hjl, List.foldl_cons] at hV2
        have HV2 := Lib.hid hV2
        clear hV2 HV
        have hy := (r[j]'hjl).toNat_lt
        generalize (r[j]'hjl).toNat = y at hcy hy HV2
        have hv2 : vn < 16 * 4096 := Nat.lt_of_lt_of_le hv (Nat.mul_le_mul_left _ (Nat.le_trans (Nat.pow_le_pow_right (by decide) (show j ≤ 2 by omega)) (by decide)))
        have hv3 : vn * 64 + y % 64 < 16 * 64 ^ (j + 1) := by rw [Nat.pow_succ]; generalize 64 ^ j = q at hv; omega
        have HV3 := Lib.hid hv3
        have i0 : (0 : Int) ≤ (j : Int) := Int.natCast_nonneg _
        have i1 : (j : Int) < (r.length : Int) := by omega
        clear hv hv3
        go_wp2_with fail
        go_roundw
        case rel => exact ⟨j + 1, vn * 64 + y % 64, by simp, by go_num, by omega, HV3.out, HV2, trivial⟩
        case measure => simp [intOf]; omega
      · obtain rfl : j = r.length := by omega
        have hV2 := HV.out
        rw [List.drop_length, List.foldl_nil] at hV2
        subst hV2
        clear HV hv
        go_wp2_with fail
        go_ret
        exact ⟨rfl, rfl⟩
  have h : r.length = 3 := by simp only [List.length_cons] at hmax; omega
  · have hV := valN_cons x r (by omega)
    rw [if_neg (by omega), if_neg (by omega)] at hV
    simp only [List.length_cons, List.getElem_cons_zero] at *
    generalize valN (x :: r) = V at hV ⊢
    have hb0 : (((r.length + 1 : Nat) : Int) == 1) = false := beq_eq_false_iff_ne.2 (by omega)
    have hb1 : (((r.length + 1 : Nat) : Int) == 2) = false := beq_eq_false_iff_ne.2 (by omega)
    have hb2 : (((r.length + 1 : Nat) : Int) == 3) = false := beq_eq_false_iff_ne.2 (by omega)
    have HV := Lib.hid hV
    clear hV h0
    generalize x.toNat = xn at hc0 hx HV
    go_enter Try.func125, Try.ntmps125
    go_wp2_with fail
    go_loopw [3, 5, 36] (fun v _ k wr => ∃ (j vn : Nat), v = .int .i32 vn ∧ k = .int .i64 j ∧ j ≤ r.length ∧ vn < 8 * 64 ^ j ∧ Hid (V = (r.drop j).foldl (fun v c => v * 64 + c.toNat % 64) vn) ∧ wr = w) (fun _ _ k _ => r.length - (intOf k).toNat)
    case atStart => exact ⟨0, xn % 8, by simp, rfl, by omega, by omega, HV, rfl⟩
    case round =>
      clear HV
      obtain ⟨j, vn, rfl, rfl, hj, hv, HV, hw⟩ := hrel
      subst hw
      by_cases hjl : j < r.length
      · have hcy := Sl.byteAt hs (k := j + 1) (by simpa using hjl)
        rw [List.getElem_cons_succ, show o + (j + 1) = o + 1 + j by omega] at hcy
        have hV2 := HV.out
        rw [List.drop_eq_getElem_cons hjl, List.foldl_cons] at hV2
        have HV2 := Lib.hid hV2
        clear hV2 HV
        have hy := (r[j]'hjl).toNat_lt
        generalize (r[j]'hjl).toNat = y at hcy hy HV2
        have hv2 : vn < 8 * 4096 := Nat.lt_of_lt_of_le hv (Nat.mul_le_mul_left _ (Nat.le_trans (Nat.pow_le_pow_right (by decide) (show j ≤ 2 by omega)) (by decide)))
        have hv3 : vn * 64 + y % 64 < 8 * 64 ^ (j + 1) := by rw [Nat.pow_succ]; generalize 64 ^ j = q at hv; omega
        have HV3 := Lib.hid hv3
        have i0 : (0 : Int) ≤ (j : Int) := Int.natCast_nonneg _
        have i1 : (j : Int) < (r.length : Int) := by omega
        clear hv hv3
        go_wp2_with fail
        go_roundw
        case rel => exact ⟨j + 1, vn * 64 + y % 64, by simp, by go_num, by omega, HV3.out, HV2, trivial⟩
        case measure => simp [intOf]; omega
      · obtain rfl : j = r.length := by omega
        have hV2 := HV.out
        rw [List.drop_length, List.foldl_nil] at hV2
        subst hV2
        clear HV hv
        go_wp2_with fail
        go_ret
        exact ⟨rfl, rfl⟩

/-- the first rune of bytes, and of how many it is -/
def frontU (bs : List UInt8) : Nat × Nat := if startU bs < 1 then (65533, 1) else (valN (bs.take (startU bs).toNat), (startU bs).toNat)
theorem frontU_pos (bs : List UInt8) : 1 ≤ (frontU bs).2 := by
  unfold frontU
  split
  · exact Nat.le_refl _
  · simp only; omega
theorem frontU_le (bs : List UInt8) (hb : 0 < bs.length) : (frontU bs).2 ≤ bs.length ∧ (frontU bs).2 ≤ 4 := by
  unfold frontU
  split
  · simp only; omega
  · rcases startU_cases bs hb with h | ⟨h, _⟩ | ⟨n, h, h2⟩ <;> simp only <;> omega
def GotV (g : Nat × Nat) : Value := .agg #[.int .i32 (g.1 : Int), .int .i64 (g.2 : Int)]
def FrontEnds (w : World) (g : Nat × Nat) (e : Ending) (w' : World) : Prop := e = .returned (GotV g) ∧ Below w.heap.size w w'

set_option maxRecDepth 100000 in
set_option maxHeartbeats 1600000 in
theorem front_calls (bs : List UInt8) (A : Option Addr) (n c : Nat) (w : World) (hl : bs.length = n) (hpos : 0 < n) (hmax : n ≤ 9223372036854775807) (hc : n ≤ c) (hs : Sl w A (bs.map B8)) :
    Calls Try.prog 88 #[.slice A n c] w (FrontEnds w (frontU bs)) := by
  subst hl
  have hal : Below w.heap.size w (w.alloc (.cells #[.int .i32 0, .int .i64 0] 26)) := (Below.refl _ _).alloc (Nat.le_refl _) _
  have hBq := Blk.new w 26 #[.int .i32 0, .int .i64 0]
  have hs1 := hs.below hal
  have HST := Lib.hid (start_calls bs A bs.length c _ rfl hpos hmax hs1)
  have hcs := startU_cases bs hpos
  generalize hF : frontU bs = F
  unfold frontU at hF
  by_cases h1 : startU bs < 1
  · rw [if_pos h1] at hF
    subst hF
    have hd : decide (startU bs < 1) = true := decide_eq_true h1
    generalize startU bs = R at HST hd
    clear hcs h1 hs1
    go_enter Try.func88, Try.ntmps88
    go_wp2_with fail
    refine HST.out.mono ?_
    rintro e w1 ⟨rfl, rfl⟩
    go_wp2_with fail
    exact bodyPost_ret (v := .agg #[.int .i32 65533, .int .i64 1]) (by simp [results, Try.results88, go_sem]) rfl ⟨rfl, (Below.refl _ _).alloc (Nat.le_refl _) _⟩
  · rw [if_neg h1] at hF
    subst hF
    rcases hcs with h | ⟨h, _⟩ | ⟨m, h, h2, h3, h4, h5⟩
    · omega
    · omega
    · have hV := Lib.hid (value_calls (bs.take m) A m c (w.alloc (.cells #[.int .i32 0, .int .i64 0] 26)) (by rw [List.length_take]; omega) h2 h3 (by omega) (by rw [List.map_take]; exact hs1.take m))
      rw [h] at HST ⊢
      rw [show (m : Int).toNat = m from rfl]
      have hd : decide ((m : Int) < 1) = false := decide_eq_false (by omega)
      have m0 : (0 : Int) ≤ (m : Int) := Int.natCast_nonneg _
      have m1 : (m : Int) ≤ (c : Int) := by omega
      generalize valN (bs.take m) = V at hV ⊢
      clear h1 hs1 h h5
      go_enter Try.func88, Try.ntmps88
      go_wp2_with fail
      refine HST.out.mono ?_
      rintro e w1 ⟨rfl, rfl⟩
      go_wp2_with fail
      refine hV.out.mono ?_
      rintro e w1 ⟨rfl, rfl⟩
      go_wp2_with fail
      exact bodyPost_ret (v := .agg #[.int .i32 (V : Int), .int .i64 (m : Int)]) (by simp [results, Try.results88, go_sem]) rfl ⟨rfl, (Below.refl _ _).alloc (Nat.le_refl _) _⟩
end Go.Proofs.Ytepmnhlfjidhjaa
