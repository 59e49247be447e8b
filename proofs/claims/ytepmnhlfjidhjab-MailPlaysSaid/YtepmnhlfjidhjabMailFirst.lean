/-
  The contracts of First.
-/
import Derived.Test.YtepmnhlfjidhjabMailI
import Derived.Test.YtepmnhlfjidhjabMailI2
namespace Go.Proofs.Ytepmnhlfjidhjab
open Go.RowKit Go.Mem Go.Conc

/-- a box of numbers: its place, its channel, its room, what it holds, is it closed? -/
structure Bx where
  p : Nat
  c : Nat
  cap : Nat
  buf : List Value
  cl : Bool
def Bx.On (w : World) (b : Bx) : Prop := BoxAt w 73 b.p b.c b.cap b.buf b.cl
def cellX : Option Bx → Value
  | none => .pointer none
  | some b => .pointer (some ⟨b.p, 0, none⟩)
/-- what First tells where box b at place j is the first that has something -/
def FirstEnds (w : World) (j : Nat) (b : Bx) (v : Value) (rest : List Value) (e : Ending) (w' : World) : Prop := e = .returned (.tuple #[.int .i64 (j : Int), v, .bool true]) ∧ BoxAt w' 73 b.p b.c b.cap rest b.cl ∧ Fr [b.c] w w'

set_option maxRecDepth 100000 in
set_option maxHeartbeats 1600000 in
theorem first_at (A : Option Addr) (n cap : Nat) (bs : List (Option Bx)) (j : Nat) (b : Bx) (v : Value) (rest : List Value) (w : World) (hl : bs.length = n) (hn : n ≤ 1000) (hs : Sl w A (bs.map cellX)) (hon : ∀ b', some b' ∈ bs → b'.On w)
    (hj : bs[j]? = some (some b)) (hb : b.buf = v :: rest) (hno : ∀ i b', i < j → bs[i]? = some (some b') → b'.buf = []) :
    Calls Try.prog 17 #[.slice A n cap] w (FirstEnds w j b v rest) := by
  subst hl
  have hjl : j < bs.length := (List.getElem?_eq_some_iff.1 hj).1
  have HS := Lib.hid hs
  have HON := Lib.hid hon
  have HJ := Lib.hid hj
  have HB := Lib.hid hb
  have HNO := Lib.hid hno
  clear hs hon hj hb hno
  go_enter Try.func17, Try.ntmps17
  go_wp2_with fail
  go_loopw [5, 6, 7, 8, 12] (fun _ _ _ _ i wr => ∃ (k : Nat), k ≤ j ∧ i = .int .i64 k ∧ wr = w) (fun _ _ _ _ i _ => bs.length - (intOf i).toNat)
  case atStart => exact ⟨0, Nat.zero_le _, rfl, rfl⟩
  case round =>
    obtain ⟨k, hk, rfl, hw⟩ := hrel
    obtain rfl := hw.symm
    clear hw
    have hkl : k < bs.length := by omega
    have hcell := HS.out.at_ (k := k) (by simpa using hkl)
    obtain ⟨g, o, rfl, hc⟩ := hcell
    rw [List.getElem_map] at hc
    have HK := Lib.hid (List.getElem?_eq_getElem hkl)
    generalize bs[k] = x at hc HK
    have i0 : (0 : Int) ≤ (k : Int) := by omega
    have i1 : (k : Int) < (bs.length : Int) := by omega
    by_cases hkj : k = j
    · subst hkj
      obtain rfl : x = some b := by have h1 := HK.out; rw [HJ.out] at h1; injection h1 with h1; exact h1.symm
      simp only [cellX] at hc
      have HR := Lib.hid (recvI_some b.p b.c b.cap rest v b.cl w (by have := HON.out b (List.mem_iff_getElem?.2 ⟨_, HJ.out⟩); unfold Bx.On at this; rw [HB.out] at this; exact this))
      clear HK
      go_wp2_with fail
      refine HR.out.mono ?_
      rintro e w2 ⟨rfl, b2, f2⟩
      have HF := Lib.hid (show FirstEnds w k b v rest (.returned (.tuple #[.int .i64 (k : Int), v, .bool true])) w2 from ⟨rfl, b2, f2⟩)
      clear HR b2 f2
      go_wp2_with fail
      go_ret3
      exact HF.out
    · cases x with
      | none =>
        simp only [cellX] at hc
        go_wp2_with fail
        go_roundw
        case rel => exact ⟨k + 1, by omega, by go_num, trivial⟩
        case measure => simp [intOf]; omega
      | some b' =>
        simp only [cellX] at hc
        have hbe := HNO.out k b' (by omega) HK.out
        have HR := Lib.hid (recvI_none b'.p b'.c b'.cap b'.cl w (by have := HON.out b' (List.mem_iff_getElem?.2 ⟨_, HK.out⟩); unfold Bx.On at this; rw [hbe] at this; exact this))
        clear hbe HK
        go_wp2_with fail
        refine HR.out.mono ?_
        rintro e w2 ⟨rfl, hw2⟩
        obtain rfl := hw2.symm
        clear HR hw2
        go_wp2_with fail
        go_roundw
        case rel => exact ⟨k + 1, by omega, by go_num, trivial⟩
        case measure => simp [intOf]; omega

set_option maxRecDepth 100000 in
set_option maxHeartbeats 1600000 in
theorem first_none (A : Option Addr) (n cap : Nat) (bs : List (Option Bx)) (w : World) (hl : bs.length = n) (hn : n ≤ 1000) (hs : Sl w A (bs.map cellX)) (hon : ∀ b', some b' ∈ bs → b'.On w)
    (hno : ∀ b', some b' ∈ bs → b'.buf = []) :
    Calls Try.prog 17 #[.slice A n cap] w fun e w' => e = .returned (.tuple #[.int .i64 (-1), .int .i64 0, .bool false]) ∧ w' = w := by
  subst hl
  have HS := Lib.hid hs
  have HON := Lib.hid hon
  have HNO := Lib.hid hno
  clear hs hon hno
  go_enter Try.func17, Try.ntmps17
  go_wp2_with fail
  go_loopw [5, 6, 7, 8, 12] (fun _ _ _ _ i wr => ∃ (k : Nat), k ≤ bs.length ∧ i = .int .i64 k ∧ wr = w) (fun _ _ _ _ i _ => bs.length - (intOf i).toNat)
  case atStart => exact ⟨0, Nat.zero_le _, rfl, rfl⟩
  case round =>
    obtain ⟨k, hk, rfl, hw⟩ := hrel
    obtain rfl := hw.symm
    clear hw
    by_cases hkl : k < bs.length
    · have hcell := HS.out.at_ (k := k) (by simpa using hkl)
      obtain ⟨g, o, rfl, hc⟩ := hcell
      rw [List.getElem_map] at hc
      have HK := Lib.hid (List.getElem?_eq_getElem hkl)
      generalize bs[k] = x at hc HK
      have i0 : (0 : Int) ≤ (k : Int) := by omega
      have i1 : (k : Int) < (bs.length : Int) := by omega
      cases x with
      | none =>
        simp only [cellX] at hc
        go_wp2_with fail
        go_roundw
        case rel => exact ⟨k + 1, by omega, by go_num, trivial⟩
        case measure => simp [intOf]; omega
      | some b' =>
        simp only [cellX] at hc
        have hmem : some b' ∈ bs := List.mem_iff_getElem?.2 ⟨_, HK.out⟩
        have hbe := HNO.out b' hmem
        have HR := Lib.hid (recvI_none b'.p b'.c b'.cap b'.cl w (by have := HON.out b' hmem; unfold Bx.On at this; rw [hbe] at this; exact this))
        clear hbe HK hmem
        go_wp2_with fail
        refine HR.out.mono ?_
        rintro e w2 ⟨rfl, hw2⟩
        obtain rfl := hw2.symm
        clear HR hw2
        go_wp2_with fail
        go_roundw
        case rel => exact ⟨k + 1, by omega, by go_num, trivial⟩
        case measure => simp [intOf]; omega
    · go_wp2_with fail
      go_ret3
      exact ⟨rfl, rfl⟩
set_option maxRecDepth 100000 in
theorem firstS_nil (w : World) :
    Calls Try.prog 44 #[.slice none 0 0] w fun e w' => e = .returned (.tuple #[.int .i64 (-1), .string ⟨#[]⟩, .bool false]) ∧ w' = w := by
  go_enter Try.func44, Try.ntmps44
  go_wp2_with fail
  go_loopw [12] (fun i wr => i = .int .i64 0 ∧ wr = w) (fun _ _ => 0)
  case atStart => exact ⟨rfl, rfl⟩
  case round =>
    obtain ⟨rfl, hw⟩ := hrel
    obtain rfl := hw.symm
    clear hw
    go_wp2_with fail
    go_ret3
    exact ⟨rfl, rfl⟩
end Go.Proofs.Ytepmnhlfjidhjab
