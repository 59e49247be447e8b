/-
  The contracts of the document's own Num, Text and Flag.
-/
import Derived.Test.YtjmiejcgahajfaaWireEnc
namespace Go.Proofs.Ytjmiejcgahajfaa
open Go.RowKit Go.Mem

theorem ret_of {v v' : Value} (h : v = v') : Ending.returned v = Ending.returned v' := by rw [h]

set_option maxHeartbeats 1600000 in
/-- the second half: behind the sign's test -/
theorem refNum_nat (A : Option Addr) (n cap : Nat) (bs : List UInt8) (x : Nat) (a1 : Int) (w : World) (ha : a1 = (x : Int) ∨ a1 < 0 ∧ x = 0) (hl : bs.length = n) (hx : x < 2 ^ 63) (hs : Sl w A (bs.map B8)) (hn : n + 9 ≤ 70368744177664) :
    Calls Try.prog 38 #[.slice A n cap, .int .i64 a1] w (FreshB w (bs ++ Wire.num x)) := by
  subst hl
  obtain ⟨i0, hi, hz0, hz1, hz2⟩ := info_parts infoU8
  have hk8 := Wire.nb_le x hx
  have HN : Hid (Wire.num x = UInt8.ofNat (Wire.nb x) :: Wire.digs x (Wire.nb x)) := rfl
  have hb0 : Below w.heap.size w (w.alloc (.cells #[] 5)) := (Below.refl _ _).alloc (Nat.le_refl _) _
  obtain ⟨x1, hx1⟩ : ∃ x1 : Int, x1 = (x : Int) := ⟨_, rfl⟩
  have HX1 := Lib.hid hx1
  have hx1b : 0 ≤ x1 ∧ x1 ≤ 9223372036854775807 := by omega
  have ha' : a1 = x1 ∨ a1 < 0 ∧ x1 = 0 := by omega
  clear ha hx1
  obtain ⟨hx1l, hx1u⟩ := hx1b
  have HX0 : Hid (a1 = x1 ∨ x1 = 0) := by show _ ∨ _; omega
  rcases (show a1 = x1 ∨ a1 < 0 by omega) with h1 | hlt
  case' inl => subst h1; clear ha'
  case' inr => clear ha'
  all_goals
    go_enter Try.func38, Try.ntmps38
    go_wp2_with (at_builtin; refine wpList_append_ownB (o := ⟨some 11, _, _, _, _, _⟩) rfl (.tmp 9) (.tmp 10) 23 23 rfl 5 i0 (.int .u8 0) 1 1 Try.underlying23 hi hz0 hz1 hz2 rfl w.heap.size (some ⟨w.heap.size, 0, none⟩) 0 0 [] rfl (OwnB.empty rfl (Nat.le_refl _)) (.slice A bs.length cap) rfl bs.length (bs.map B8) (srcSl Try.underlying23 (by simp) (hs.alloc _) (bytes_one _)) (by omega) (by omega) w hb0 (by simp) ?_)
    intro w1 D1 c1 HO1 hb1 hz1'
    clear hz1' hb0 hs
    go_wp2_with fail
    go_loop [6, 7] (fun kk y => ∃ (j y' : Nat), kk = .int .i64 (j : Int) ∧ y = .int .i64 (y' : Int) ∧ j + Wire.nb y' = Wire.nb x ∧ y' < 2 ^ 63) (fun _ y => (intOf y).toNat)
    case atStart => exact ⟨0, x, rfl, (by have h1 := HX1.out; have h0 := HX0.out; exact congrArg (Value.int .i64) (by omega)), by omega, hx⟩
    case round =>
      obtain ⟨j, y, rfl, rfl, hjy, hy⟩ := hrel
      by_cases hy0 : 0 < y
      · have hsucc := Wire.nb_succ y (by omega) (by omega)
        have hj8 : j ≤ 8 := by omega
        have HH : Hid ((j + 1) + Wire.nb (y / 256) = Wire.nb x) := by show _ = _; omega
        clear hsucc hjy
        go_wp2_with fail
        go_round
        case rel => exact ⟨j + 1, y / 256, by go_num, congrArg (Value.int .i64) (by omega), HH.out, by omega⟩
        case measure => simp [intOf]; omega
      · obtain rfl : y = 0 := by omega
        have hjk : j = Wire.nb x := by have := Wire.nb_zero; omega
        subst hjk
        clear hjy hy0 hy
        have HK0 : Hid (x = 0 → Wire.nb x = 0) := fun h => by rw [h]; exact Wire.nb_zero
        generalize Wire.nb x = k at hk8 HN HK0
        have hbz := hb1.size
        have ek : (k : Int) % 256 = (k : Int) := by omega
        go_wp2_with (at_builtin; refine wpList_append_ownB (o := ⟨some 25, _, _, _, _, _⟩) rfl (.tmp 21) (.tmp 24) 23 23 rfl 5 i0 (.int .u8 0) 1 1 Try.underlying23 hi hz0 hz1 hz2 rfl w.heap.size D1 bs.length c1 (bs.map B8) rfl ((show OwnB _ _ _ _ _ _ _ _ by simpa using HO1.out).alloc _) (.slice (some ⟨w1.heap.size, 0, none⟩) 1 1) rfl 1 ([UInt8.ofNat k].map B8) (srcSl Try.underlying23 rfl (Sl.new rfl (by simp [B8]; omega)) (bytes_one _)) (by omega) (by omega) w (hb1.alloc hbz _) (by simp; omega) ?_)
        intro w2 D2 c2 HO2 hb2 hz2'
        clear hz2' hb1 hbz HO1 ek
        go_wp2_with fail
        go_loopw [5, 8] (fun v i wr => ∃ (j : Nat) (done : List UInt8) (D : Option Addr) (N c : Nat), done.length + j = k ∧ i = .int .i64 ((j : Int) - 1) ∧ v = .slice D N c ∧ Hid (N = bs.length + 1 + done.length) ∧ Hid (done ++ Wire.digs x j = Wire.digs x k) ∧
          Hid (OwnB wr w.heap.size 5 1 D N c ((bs ++ UInt8.ofNat k :: done).map B8)) ∧ Below w.heap.size w wr) (fun _ i _ => (intOf i + 1).toNat)
        case atStart => exact ⟨k, [], D2, _, c2, by simp, rfl, rfl, rfl, rfl, (by have h := HO2.out; show OwnB _ _ _ _ _ _ _ _; simpa using h), hb2⟩
        case round =>
          obtain ⟨j, done, D, N, c, hjk, rfl, rfl, HNl, HD, HO, hb⟩ := hrel
          clear hb2 HO2
          have hbz := hb.size
          have hNle : N + j ≤ 70368744177664 := by have := HNl.out; omega
          cases j with
          | succ j =>
            have e0 : (((j + 1 : Nat) : Int) - 1) = (j : Int) := by omega
            rw [e0]
            go_wp2_with (at_builtin; refine wpList_append_ownB (o := ⟨some 39, _, _, _, _, _⟩) rfl (.tmp 32) (.tmp 38) 23 23 rfl 5 i0 (.int .u8 0) 1 1 Try.underlying23 hi hz0 hz1 hz2 rfl w.heap.size D N c ((bs ++ UInt8.ofNat k :: done).map B8) rfl (HO.out.alloc _) (.slice (some ⟨wr.heap.size, 0, none⟩) 1 1) rfl 1 ([UInt8.ofNat (x / 256 ^ j)].map B8) (srcSl Try.underlying23 rfl (Sl.new rfl (by rw [digit_cell]; have h1 := HX1.out; have h0 := HX0.out; have hk0 := HK0.out; first | (rw [h1]; done) | (rw [← h1]; done) | (exfalso; have hx0 : x = 0 := (by omega); have hk1 := hk0 hx0; omega))) (bytes_one _)) (by omega) (by omega) w (hb.alloc hbz _) (by simp; omega) ?_)
            intro w5 D5 c5 HO5 hb5 hz5
            have HO6 : Hid (OwnB w5 w.heap.size 5 1 D5 (N + 1) c5 ((bs ++ UInt8.ofNat k :: (done ++ [UInt8.ofNat (x / 256 ^ j)])).map B8)) := by
              have h := HO5.out
              show OwnB _ _ _ _ _ _ _ _
              simpa using h
            have HD6 : Hid ((done ++ [UInt8.ofNat (x / 256 ^ j)]) ++ Wire.digs x j = Wire.digs x k) := by
              show _ = _
              rw [← HD.out, Wire.digs_succ]; simp
            clear hz5 HO5 HO hb HD hbz
            go_wp2_with fail
            go_roundw
            case rel => exact ⟨j, done ++ [UInt8.ofNat (x / 256 ^ j)], D5, N + 1, c5, by simp; omega, rfl, rfl, (show _ = _ by have := HNl.out; simp; omega), HD6, HO6, hb5⟩
            case measure => simp [intOf]
          | zero =>
            have e0 : (((0 : Nat) : Int) - 1) = -1 := rfl
            rw [e0]
            have HO6 : Hid (OwnB wr w.heap.size 5 1 D N c ((bs ++ Wire.num x).map B8)) := by
              have h := HO.out
              have hd := HD.out
              have hk : done.length = k := by omega
              rw [show Wire.digs x 0 = [] from rfl, List.append_nil] at hd
              rw [HN.out, ← hd]
              exact h
            clear HO HD
            go_wp2_with fail
            go_ret
            exact ⟨D, N, c, rfl, HO6.out, hb⟩

theorem refNum_calls (A : Option Addr) (n cap : Nat) (bs : List UInt8) (x : Int) (w : World) (hl : bs.length = n) (hx : -9223372036854775808 ≤ x ∧ x ≤ 9223372036854775807) (hs : Sl w A (bs.map B8)) (hn : n + 9 ≤ 70368744177664) :
    Calls Try.prog 38 #[.slice A n cap, .int .i64 x] w (FreshB w (bs ++ Wire.num x.toNat)) :=
  refNum_nat A n cap bs x.toNat x w (by omega) hl (by omega) hs hn

set_option maxHeartbeats 800000 in
theorem refText_calls (A : Option Addr) (n cap : Nat) (bs : List UInt8) (s : ByteArray) (w : World) (hl : bs.length = n) (hs : Sl w A (bs.map B8)) (hn : n + 9 + s.size ≤ 70368744177664) :
    Calls Try.prog 39 #[.slice A n cap, .string s] w (FreshB w (bs ++ (Wire.num s.size ++ s.data.toList))) := by
  obtain ⟨i0, hi, hz0, hz1, hz2⟩ := info_parts infoU8
  have HF := Lib.hid (refNum_calls A n cap bs s.size w hl (by omega) hs (by omega))
  have hnl : (bs ++ Wire.num ((s.size : Nat) : Int).toNat).length ≤ n + 9 := by
    have := Wire.nb_le s.size (by omega)
    rw [Int.toNat_natCast, List.length_append, Wire.num_length]; omega
  go_enter Try.func39, Try.ntmps39
  go_wp2_with fail
  refine HF.out.mono ?_
  rintro e w1 ⟨D1, N1, c1, rfl, ho1, hb1⟩
  have hN1 : N1 ≤ n + 9 := by have := OwnB.bytes ho1; omega
  have HO1 := Lib.hid ho1
  clear ho1 hnl
  have hbz := hb1.size
  go_wp2_with (at_builtin; refine wpList_append_ownB (o := ⟨some 10, _, _, _, _, _⟩) rfl (.tmp 8) (.tmp 9) 23 9 rfl 5 i0 (.int .u8 0) 1 1 Try.underlying23 hi hz0 hz1 hz2 rfl w.heap.size D1 N1 c1 ((bs ++ Wire.num ((s.size : Nat) : Int).toNat).map B8) rfl HO1.out (.string s) rfl s.size (byteCells s) (Src.ofString _ Try.underlying9 s) (by omega) (by omega) w hb1 hbz ?_)
  intro w2 D2 c2 HO2 hb2 hz2'
  clear hz2'
  go_wp2_with fail
  go_ret
  refine ⟨D2, _, c2, rfl, ?_, hb2⟩
  have h := HO2.out
  have e : (bs ++ (Wire.num s.size ++ s.data.toList)).map B8 = (bs ++ Wire.num s.size).map B8 ++ byteCells s := by
    rw [← List.append_assoc, List.map_append (l₁ := bs ++ Wire.num s.size)]; rfl
  rw [e]
  simpa using h

set_option maxHeartbeats 400000 in
theorem refFlag_calls (A : Option Addr) (n cap : Nat) (bs : List UInt8) (f : Bool) (w : World) (hl : bs.length = n) (hs : Sl w A (bs.map B8)) (hn : n + 9 ≤ 70368744177664) :
    Calls Try.prog 40 #[.slice A n cap, .bool f] w (FreshB w (bs ++ Wire.num (if f then 1 else 0))) := by
  cases f
  · have HF := Lib.hid (refNum_calls A n cap bs 0 w hl (by omega) hs hn)
    go_enter Try.func40, Try.ntmps40
    go_wp2_with fail
    refine HF.out.mono ?_
    rintro e w' ⟨D, N, c, rfl, ho, hb⟩
    go_wp2_with fail
    go_ret
    exact ⟨D, N, c, rfl, ho, hb⟩
  · have HF := Lib.hid (refNum_calls A n cap bs 1 w hl (by omega) hs hn)
    go_enter Try.func40, Try.ntmps40
    go_wp2_with fail
    refine HF.out.mono ?_
    rintro e w' ⟨D, N, c, rfl, ho, hb⟩
    go_wp2_with fail
    go_ret
    exact ⟨D, N, c, rfl, ho, hb⟩
end Go.Proofs.Ytjmiejcgahajfaa
