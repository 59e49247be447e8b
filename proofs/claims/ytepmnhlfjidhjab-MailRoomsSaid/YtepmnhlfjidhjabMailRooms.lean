/-
  MailRooms, its walk.
-/
import Derived.Test.YtepmnhlfjidhjabMailRuns
import Derived.Test.YtepmnhlfjidhjabMailS
namespace Go.Proofs.Ytepmnhlfjidhjab
open Go.RowKit Go.Mem Go.Conc

set_option maxRecDepth 100000 in
set_option maxHeartbeats 3200000 in
theorem mailRooms_calls (room : Int) (w : World) :
    Calls Try.prog 4 #[.int .i64 room] w fun e w' => e = .returned (.bool true) ∧ Below w.heap.size w w' := by
  by_cases hbad : room < 1 ∨ 4096 < room
  · have HN := Lib.hid (newS_bad room hbad w)
    by_cases h1 : room < 1
    all_goals
      first
        | (have hd1 : decide (room < 1) = true := decide_eq_true h1)
        | (have hd1 : decide (room < 1) = false := decide_eq_false h1
           have hd2 : decide (4096 < room) = true := decide_eq_true (by omega))
      clear hbad
      go_enter Try.func4, Try.ntmps4
      go_wp2_with fail
      refine HN.out.mono ?_
      rintro e w1 ⟨rfl, hw⟩
      obtain rfl := hw.symm
      clear hw HN
      go_wp2_with fail
      refine (mailRuns_calls _).mono ?_
      rintro e w2 ⟨rfl, b2⟩
      go_wp2_with fail
      go_ret
      exact ⟨rfl, b2⟩
  · have hd1 : decide (room < 1) = false := decide_eq_false (by omega)
    have hd2 : decide (4096 < room) = false := decide_eq_false (by omega)
    obtain ⟨n, rfl⟩ : ∃ n : Nat, room = n := ⟨room.toNat, by omega⟩
    have hn1 : 1 ≤ n := by omega
    have hn2 : n ≤ 4096 := by omega
    have HN := Lib.hid (newS_ok n hn1 hn2 w)
    unfold NewS at HN
    clear hbad
    go_enter Try.func4, Try.ntmps4
    go_wp2_with fail
    refine HN.out.mono ?_
    rintro e w1 ⟨p, c, rfl, bx, lp, lc, bb⟩
    have HB := Lib.hid bx
    have B := bb
    clear HN bx bb
    go_wp2_with fail
    go_loopw [5] (fun s5 wr => ∃ (k : Nat), k ≤ n ∧ s5 = .int .i64 k ∧ Hid (BoxAt wr 79 p c n (List.replicate k (.string ⟨#[120]⟩)) false) ∧ Below w.heap.size w wr) (fun s _ => n - (intOf s).toNat)
    case atStart => exact ⟨0, Nat.zero_le _, rfl, HB, B⟩
    case round =>
      clear HB B hd1 hd2
      obtain ⟨k, hk, rfl, HB, B⟩ := hrel
      by_cases hlt : k < n
      · have HC := Lib.hid (sendS_room p c n (List.replicate k (.string ⟨#[120]⟩)) (.string ⟨#[120]⟩) wr HB.out (by simpa using hlt))
        have i1 : (k : Int) < (n : Int) := by omega
        go_wp2_with fail
        refine HC.out.mono ?_
        rintro e w2 ⟨rfl, bx, fx⟩
        have HB2 : Hid (BoxAt w2 79 p c n (List.replicate (k + 1) (.string ⟨#[120]⟩)) false) := (show BoxAt _ _ _ _ _ _ _ from by rw [List.replicate_succ']; exact bx)
        have B2 := below_fr B fx B.size (by simp; omega)
        clear HC bx fx HB B
        go_wp2_with fail
        go_roundw
        case rel => exact ⟨k + 1, by omega, by go_num, HB2, B2⟩
        case measure => simp [intOf]; omega
      · obtain rfl : k = n := by omega
        have HC := Lib.hid (sendS_full p c k (List.replicate k (.string ⟨#[120]⟩)) (.string ⟨#[121]⟩) wr HB.out (by simp))
        go_wp2_with fail
        refine HC.out.mono ?_
        rintro e w2 ⟨rfl, hw⟩
        obtain rfl := hw.symm
        clear HC hw
        have HC := Lib.hid (lenS_calls p c k (List.replicate k (.string ⟨#[120]⟩)) false wr HB.out)
        rw [List.length_replicate] at HC
        go_wp2_with fail
        refine HC.out.mono ?_
        rintro e w2 ⟨rfl, hw⟩
        obtain rfl := hw.symm
        clear HC hw
        obtain ⟨m, rfl⟩ : ∃ m, k = m + 1 := ⟨k - 1, by omega⟩
        have HC := Lib.hid (recvS_some p c (m + 1) (List.replicate m (.string ⟨#[120]⟩)) (.string ⟨#[120]⟩) false wr (by have := HB.out; rw [List.replicate_succ] at this; exact this))
        go_wp2_with fail
        refine HC.out.mono ?_
        rintro e w3 ⟨rfl, bx, fx⟩
        have B2 := below_fr B fx B.size (by simp; omega)
        have HC2 := Lib.hid (sendS_room p c (m + 1) (List.replicate m (.string ⟨#[120]⟩)) (.string ⟨#[122]⟩) w3 bx (by simp))
        clear HC bx fx HB B
        go_wp2_with fail
        refine HC2.out.mono ?_
        rintro e w4 ⟨rfl, bx, fx⟩
        have B3 := below_fr B2 fx B2.size (by simp; omega)
        have HC := Lib.hid (sendS_full p c (m + 1) (List.replicate m (.string ⟨#[120]⟩) ++ [.string ⟨#[122]⟩]) (.string ⟨#[121]⟩) w4 bx (by simp))
        clear HC2 bx fx B2
        go_wp2_with fail
        refine HC.out.mono ?_
        rintro e w5 ⟨rfl, hw⟩
        obtain rfl := hw.symm
        clear HC hw
        go_wp2_with fail
        refine (mailRuns_calls _).mono ?_
        rintro e w6 ⟨rfl, b6⟩
        have B4 := stepB B3 b6
        go_wp2_with fail
        go_ret
        exact ⟨rfl, B4⟩
end Go.Proofs.Ytepmnhlfjidhjab
