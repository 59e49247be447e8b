/-
  The contracts of wire.Num, Text, Flag and of the law's puts.
-/
import Derived.Test.YtepmnhlfjidhjaaWirePut
namespace Go.Proofs.Ytepmnhlfjidhjaa
open Go.RowKit Go.Mem

/-- the bytes l in new memory -/
def FreshB (w : World) (l : List UInt8) (e : Ending) (w' : World) : Prop :=
  ∃ D n cap, e = .returned (.slice D n cap) ∧ OwnB w' w.heap.size 5 1 D n cap (l.map B8) ∧ Below w.heap.size w w'
theorem OwnB.bytes {w : World} {B : Nat} {l : List UInt8} {D : Option Addr} {n cap : Nat} (h : OwnB w B 5 1 D n cap (l.map B8)) : l.length = n := by
  have := h.len
  rw [List.length_map, Nat.mul_one] at this
  exact this

theorem put_fresh (A : Option Addr) (n cap : Nat) (bs : List UInt8) (x : Nat) (s : ByteArray) (w : World) (hl : bs.length = n) (hx : x < 2 ^ 63) (hs : Sl w A (bs.map B8)) (hn : n ≤ 140737488351232) (hsz : s.size ≤ 140737488351232) :
    Calls Try.prog 131 #[.slice A n cap, .int .i64 (x : Int), .string s] w (FreshB w (bs ++ (Wire.num x ++ s.data.toList))) :=
  (put_calls A n cap bs x s w hl hx hs hn hsz).mono fun e w' ⟨N, hN, he, hb, hk⟩ => by
    have hlen : (bs ++ (Wire.num x ++ s.data.toList)).length = N := by
      have : s.data.toList.length = s.size := by rw [Array.length_toList]; rfl
      rw [List.length_append, List.length_append, Wire.num_length]; omega
    refine ⟨some ⟨w.heap.size, 0, none⟩, N, N, he, ⟨by rw [List.length_map, hlen, Nat.mul_one], Nat.le_refl _, .inr ⟨_, [], rfl, Nat.le_refl _, by simpa using hk, by simp⟩⟩, hb⟩

set_option maxHeartbeats 400000 in
theorem num_calls (A : Option Addr) (n cap : Nat) (bs : List UInt8) (x : Int) (w : World) (hl : bs.length = n) (hx : -9223372036854775808 ≤ x ∧ x ≤ 9223372036854775807) (hs : Sl w A (bs.map B8)) (hn : n ≤ 140737488351232) :
    Calls Try.prog 104 #[.slice A n cap, .int .i64 x] w (FreshB w (bs ++ Wire.num x.toNat)) := by
  have hf := put_fresh A n cap bs x.toNat ByteArray.empty w hl (by omega) hs hn (by decide)
  have e0 : bs ++ (Wire.num x.toNat ++ ByteArray.empty.data.toList) = bs ++ Wire.num x.toNat := by simp
  rw [e0] at hf
  by_cases h0 : 0 ≤ x
  · obtain ⟨y, rfl⟩ := Int.eq_ofNat_of_zero_le h0
    rw [Int.toNat_natCast] at hf ⊢
    have HF := Lib.hid hf
    clear hf
    go_enter Try.func104, Try.ntmps104
    go_wp2_with fail
    refine HF.out.mono ?_
    rintro e w' ⟨D, N, c, rfl, ho, hb⟩
    go_wp2_with fail
    go_ret
    exact ⟨D, N, c, rfl, ho, hb⟩
  · have hx0 : x.toNat = 0 := by omega
    rw [hx0] at hf ⊢
    rw [show (((0 : Nat) : Int)) = 0 from rfl] at hf
    have hlt : x < 0 := by omega
    have HF := Lib.hid hf
    clear hf hx0
    go_enter Try.func104, Try.ntmps104
    go_wp2_with fail
    rw [show max x 0 = 0 by omega]
    refine HF.out.mono ?_
    rintro e w' ⟨D, N, c, rfl, ho, hb⟩
    go_wp2_with fail
    go_ret
    exact ⟨D, N, c, rfl, ho, hb⟩

set_option maxHeartbeats 400000 in
theorem text_calls (A : Option Addr) (n cap : Nat) (bs : List UInt8) (s : ByteArray) (w : World) (hl : bs.length = n) (hs : Sl w A (bs.map B8)) (hn : n ≤ 140737488351232) (hsz : s.size ≤ 140737488351232) :
    Calls Try.prog 105 #[.slice A n cap, .string s] w (FreshB w (bs ++ (Wire.num s.size ++ s.data.toList))) := by
  have HF := Lib.hid (put_fresh A n cap bs s.size s w hl (by omega) hs hn hsz)
  go_enter Try.func105, Try.ntmps105
  go_wp2_with fail
  refine HF.out.mono ?_
  rintro e w' ⟨D, N, c, rfl, ho, hb⟩
  go_wp2_with fail
  go_ret
  exact ⟨D, N, c, rfl, ho, hb⟩

set_option maxHeartbeats 400000 in
theorem flag_calls (A : Option Addr) (n cap : Nat) (bs : List UInt8) (f : Bool) (w : World) (hl : bs.length = n) (hs : Sl w A (bs.map B8)) (hn : n ≤ 140737488351232) :
    Calls Try.prog 106 #[.slice A n cap, .bool f] w (FreshB w (bs ++ Wire.num (if f then 1 else 0))) := by
  have hf := put_fresh A n cap bs (if f then 1 else 0) ByteArray.empty w hl (by split <;> omega) hs hn (by decide)
  have e0 : bs ++ (Wire.num (if f then 1 else 0) ++ ByteArray.empty.data.toList) = bs ++ Wire.num (if f then 1 else 0) := by simp
  rw [e0] at hf
  have HF := Lib.hid hf
  clear hf
  cases f
  all_goals
    go_enter Try.func106, Try.ntmps106
    go_wp2_with fail
    refine HF.out.mono ?_
    rintro e w' ⟨D, N, c, rfl, ho, hb⟩
    go_wp2_with fail
    go_ret
    exact ⟨D, N, c, rfl, ho, hb⟩

set_option maxHeartbeats 400000 in
theorem puts_calls (A : Option Addr) (n cap : Nat) (bs : List UInt8) (x : Int) (w : World) (hl : bs.length = n) (hx : -9223372036854775808 ≤ x ∧ x ≤ 9223372036854775807) (hs : Sl w A (bs.map B8)) (hn : n ≤ 140737488351232) :
    Calls Try.prog 108 #[.slice A n cap, .int .i64 x] w (FreshB w (bs ++ Wire.num x.toNat)) := by
  have HF := Lib.hid (num_calls A n cap bs x w hl hx hs hn)
  go_enter Try.func108, Try.ntmps108
  go_wp2_with fail
  refine HF.out.mono ?_
  rintro e w' ⟨D, N, c, rfl, ho, hb⟩
  go_wp2_with fail
  go_ret
  exact ⟨D, N, c, rfl, ho, hb⟩
end Go.Proofs.Ytepmnhlfjidhjaa
