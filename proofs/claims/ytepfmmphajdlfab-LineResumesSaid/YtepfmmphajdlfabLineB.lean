/-
  Runs that came in; the contract of spoorlaw8.bytes: some bytes, no more than so many.
-/
import Derived.Test.YtepfmmphajdlfabLine
import Derived.Test.YtepfmmphajdlfabStructs
import Derived.Test.YtepfmmphajdlfabWithin
import Derived.Deep.QuietTactic
import Derived.BigQuiet
namespace Go.Proofs.Ytepfmmphajdlfab
open Go.ChangeShapes Go.WideShapes Go.RowKit Go.Mem Go.Law

structure Run where
  c : UInt8
  n : Int
def Run.cells (r : Run) : List Value := [.int .u8 (r.c.toNat : Int), .int .i64 r.n]
def Run.ok (r : Run) : Prop := -9223372036854775808 ≤ r.n ∧ r.n ≤ 9223372036854775807

theorem open_runs {H : Type} {enc : TypeId × Value → H} {W : World} {v : Value} {d : DataW H} {ps : List MemPlace} {b0 : Nat} (hv : Value.okWide Try.prog W .any b0 53 v) (h : DataW.Trod enc Try.prog W 0 (fun _ => true) true 53 v d ps) :
    ∃ (A : Option Addr) (n c : Nat) (rs : List Run), v = .slice A n c ∧ rs.length = n ∧ n ≤ c ∧ c ≤ maxLen ∧ RowsAt W A 2 (rs.map Run.cells) ∧ ∀ r ∈ rs, r.ok :=
  open_structs Run.cells Run.ok Try.underlying53 (by kernel_rfl) (by decide) (fun _ => rfl) (fun fuel cs x hf => by
    obtain ⟨a, b, rfl, w0, w1⟩ := ints2_of_trod Try.underlying73 rfl rfl Try.underlying5 Try.underlying3 (by kernel_rfl) (by kernel_rfl) (by kernel_rfl) hf
    obtain ⟨u, rfl⟩ := u8_of_wf w0
    exact ⟨⟨u, b⟩, rfl, i64_of_wf w1⟩) hv h

theorem infoByte : (Try.prog.info? 5).map (fun i => (i.zero, i.size, i.bytes)) = some (some (.int .u8 0), 1, 1) := by kernel_rfl

/-- some bytes of the call's own -/
def SomeBytes (w : World) (most : Nat) (e : Ending) (w' : World) : Prop := ∃ (D : Option Addr) (n c : Nat) (bs : List UInt8), e = .returned (.slice D n c) ∧ OwnB w' w.heap.size 5 1 D n c (bs.map B8) ∧ n ≤ most ∧ Below w.heap.size w w'

set_option maxHeartbeats 1600000 in
theorem bytes_calls (A : Option Addr) (n cap most : Nat) (rs : List Run) (w : World) (hl : rs.length = n) (hn : n ≤ 9223372036854775807) (hs : RowsAt w A 2 (rs.map Run.cells)) (hok : ∀ r ∈ rs, r.ok) (hm : most ≤ 1500) :
    Calls Try.prog 32 #[.slice A n cap, .int .i64 (most : Int)] w (SomeBytes w most) := by
  subst hl
  obtain ⟨i0, hi, hz0, hz1, hz2⟩ := info_parts infoByte
  go_enter Try.func32, Try.ntmps32
  go_wp2_with fail
  go_loopw [5, 6, 7, 8] (fun b i n k wr => ∃ (j N c : Nat) (D : Option Addr) (bs : List UInt8), j ≤ rs.length ∧ i = .int .i64 j ∧ b = .slice D N c ∧ Hid (OwnB wr w.heap.size 5 1 D N c (bs.map B8)) ∧ N ≤ most ∧ Below w.heap.size w wr) (fun _ i _ _ _ => rs.length - (intOf i).toNat)
  case atStart => exact ⟨0, 0, 0, none, [], Nat.zero_le _, rfl, rfl, OwnB.nil _ _ _ _, Nat.zero_le _, Below.refl _ _⟩
  case round =>
    obtain ⟨j, N, c, D, bs, hj, rfl, rfl, HO, hN, hB⟩ := hrel
    obtain ⟨wo, rfl⟩ : ∃ wo : World, wo = wr := ⟨_, rfl⟩
    by_cases hlt : j < rs.length
    · obtain ⟨b, o, rfl, hc0, hc1⟩ := (hs.below hB).two (k := j) (List.getElem?_eq_getElem hlt) rfl
      have hr := hok _ (List.getElem_mem hlt)
      generalize rs[j] = r at hc0 hc1 hr
      have hw0 := within_ge r.n 0 220 (by decide)
      have hw1 := within_le r.n 0 220 (by decide)
      go_wp2_with fail
      refine (within_calls r.n 0 220 _ (by decide) (by decide) (by decide) hr).mono ?_
      rintro e w1 ⟨rfl, rfl⟩
      generalize within r.n 0 220 = q at hw0 hw1
      obtain ⟨q, rfl⟩ := Int.eq_ofNat_of_zero_le hw0
      go_wp2_with fail
      clear hc1
      have hc2 := hc0
      clear hc0
      go_loopw [5, 8] (fun b k w2 => ∃ (i N c : Nat) (D : Option Addr) (bs : List UInt8), i ≤ q ∧ k = .int .i64 i ∧ b = .slice D N c ∧ Hid (OwnB w2 w.heap.size 5 1 D N c (bs.map B8)) ∧ N ≤ most ∧ Below w.heap.size w w2) (fun _ k _ => q - (intOf k).toNat)
      case atStart => exact ⟨0, N, c, D, bs, Nat.zero_le _, rfl, rfl, HO, hN, hB⟩
      case round =>
        clear HO hN hc2 hB
        obtain ⟨i, N, c, D, bs, hiq, rfl, rfl, HO, hN, hB⟩ := hrel
        have hsz := hB.size
        by_cases hiq2 : i < q
        · by_cases hNm : N < most
          · have hg : decide ((N : Int) < (most : Int)) = true := decide_eq_true (by omega)
            obtain ⟨b2, o2, e2, hc0, hc1⟩ := (hs.below hB).two (k := j) (List.getElem?_eq_getElem hlt) rfl
            obtain ⟨rfl, rfl⟩ : b = b2 ∧ o = o2 := by injection e2 with e; injection e with e1 e2; exact ⟨e1, e2⟩
            clear e2 hc1
            generalize rs[j] = r at hc0
            go_wp2_with (at_builtin; refine wpList_append_ownB (o := ⟨some 39, _, _, _, _, _⟩) rfl (.tmp 32) (.tmp 38) 24 24 rfl 5 i0 (.int .u8 0) 1 1 Try.underlying24 hi hz0 hz1 hz2 rfl w.heap.size D N c (bs.map B8) rfl (HO.out.alloc _) (.slice (some ⟨wr.heap.size, 0, none⟩) 1 1) rfl 1 ([r.c].map B8) (srcSl Try.underlying24 rfl (Sl.new rfl rfl) (bytes_one _)) (by omega) (by omega) w (hB.alloc hsz _) (by simp; omega) ?_)
            intro w3 D3 c3 HO3 hb3 hsz3
            clear HO hB hsz hc0
            have HO4 : Hid (OwnB w3 w.heap.size 5 1 D3 (N + 1) c3 ((bs ++ [r.c]).map B8)) := by show OwnB _ _ _ _ _ _ _ _; rw [List.map_append]; exact HO3.out
            clear HO3
            go_wp2_with fail
            go_roundw
            case rel => exact ⟨i + 1, N + 1, c3, D3, bs ++ [r.c], by omega, by go_num, rfl, HO4, by omega, hb3⟩
            case measure => simp [intOf]; omega
          · have hg : decide ((N : Int) < (most : Int)) = false := decide_eq_false (by omega)
            go_wp2_with fail
            go_roundw
            case rel => exact ⟨j + 1, N, c, D, bs, by omega, by go_num, rfl, HO, hN, hB⟩
            case measure => simp [intOf]; omega
        · have hg : decide ((i : Int) < (q : Int)) = false := decide_eq_false (by omega)
          go_wp2_with fail
          go_roundw
          case rel => exact ⟨j + 1, N, c, D, bs, by omega, by go_num, rfl, HO, hN, hB⟩
          case measure => simp [intOf]; omega
    · go_wp2_with fail
      go_ret
      exact ⟨D, N, c, bs, rfl, HO.out, hN, hB⟩
end Go.Proofs.Ytepfmmphajdlfab
