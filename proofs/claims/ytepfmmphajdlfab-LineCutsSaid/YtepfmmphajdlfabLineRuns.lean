/-
  LineRuns: chapter 8's runs: the call answers true.
-/
import Derived.Test.YtepfmmphajdlfabLineCut
import Derived.Test.YtepfmmphajdlfabSameS
namespace Go.Proofs.Ytepfmmphajdlfab
open Go.RowKit Go.Mem

set_option maxRecDepth 100000 in
set_option maxHeartbeats 1600000 in
theorem lineRuns_calls (w : World) : Calls Try.prog 8 #[] w fun e w' => e = .returned (.bool true) ∧ Below w.heap.size w w' := by
  have kc := conv_bytes (P := Try.prog) 24 5 Try.underlying24 Try.underlying5
  go_enter Try.func8, Try.ntmps8
  go_wp2_with fail
  refine (splNew_calls w).mono ?_
  rintro e w1 ⟨rfl, hp, hb⟩
  go_wp2_with fail
  refine (splNew_calls w1).mono ?_
  rintro e w2 ⟨rfl, hq, hb2⟩
  have hp2 := hp.below hb2 hp.lt
  have hne : w.heap.size ≠ w1.heap.size := Nat.ne_of_lt hp.lt
  have hB := hb.trans (hb2.mono hb.size)
  have hle := hb.size
  clear hp hb hb2
  generalize w1.heap.size = q at hq hne hle
  go_wp2_with fail
  refine (splByteC w.heap.size 0 false 97 97 1 false 1 1 _ rfl (by decide) rfl (by decide) hp2).mono ?_
  rintro e w3 ⟨rfl, hp3, ho⟩
  have hq3 := hq.only ho (Ne.symm hne)
  have hB3 := below_only hB ho hB.size (Nat.le_refl _)
  clear hp2 hq hB ho
  go_wp2_with fail
  refine (splByteC w.heap.size 1 false 10 10 0 false 2 2 _ rfl (by decide) rfl (by decide) hp3).mono ?_
  rintro e w4 ⟨rfl, hp4, ho⟩
  have hq4 := hq3.only ho (Ne.symm hne)
  have hB4 := below_only hB3 ho hB3.size (Nat.le_refl _)
  clear hp3 hq3 hB3 ho
  go_wp2_with fail
  refine (splByteC w.heap.size 0 false 98 98 1 false 1 1 _ rfl (by decide) rfl (by decide) hp4).mono ?_
  rintro e w5 ⟨rfl, hp5, ho⟩
  have hq5 := hq4.only ho (Ne.symm hne)
  have hB5 := below_only hB4 ho hB4.size (Nat.le_refl _)
  clear hp4 hq4 hB4 ho
  go_wp2_with fail
  refine (splLen_calls w.heap.size 1 false _ hp5).mono ?_
  rintro e w6 ⟨rfl, rfl⟩
  clear hp5
  go_wp2_with fail
  go_loopw [3] (fun i wr => ∃ (k : Nat), k ≤ 200 ∧ i = .int .i64 k ∧ Spl wr q k false ∧ Below w.heap.size w wr) (fun i _ => 200 - (intOf i).toNat)
  case atStart => exact ⟨0, by decide, rfl, hq5, hB5⟩
  case round =>
    clear hq5 hB5
    obtain ⟨k, hk, rfl, hp, hB⟩ := hrel
    by_cases hlt : k < 200
    · have hst : Line.step k false 97 = (k + 1, false, 1) := by unfold Line.step; rw [if_neg (by decide), if_neg (by decide), if_neg (by omega)]
      have HC := splByteC q k false 97 97 (k + 1) false 1 1 wr rfl hst rfl hk hp
      clear hst
      go_wp2_with fail
      refine HC.mono ?_
      rintro e w2 ⟨rfl, hp2, ho⟩
      have hB2 := below_only hB ho hB.size hle
      clear HC hp hB ho
      go_wp2_with fail
      go_roundw
      case rel => exact ⟨k + 1, by omega, by go_num, hp2, hB2⟩
      case measure => simp [intOf]; omega
    · obtain rfl : k = 200 := by omega
      go_wp2_with fail
      refine (splByteC q 200 false 97 97 0 true 3 3 _ rfl (by decide) rfl (by decide) hp).mono ?_
      rintro e w3 ⟨rfl, hp3, ho⟩
      have hB3 := below_only hB ho hB.size hle
      clear hp hB ho
      go_wp2_with fail
      refine (splLong_calls q 0 true _ hp3).mono ?_
      rintro e w6 ⟨rfl, rfl⟩
      go_wp2_with fail
      refine (splByteC q 0 true 97 97 0 true 4 4 _ rfl (by decide) rfl (by decide) hp3).mono ?_
      rintro e w4 ⟨rfl, hp4, ho⟩
      have hB4 := below_only hB3 ho hB3.size hle
      clear hp3 hB3 ho
      go_wp2_with fail
      refine (splByteC q 0 true 10 10 0 false 5 5 _ rfl (by decide) rfl (by decide) hp4).mono ?_
      rintro e w5 ⟨rfl, hp5, ho⟩
      have hB5 := below_only hB4 ho hB4.size hle
      clear hp4 hB4 ho
      go_wp2_with fail
      refine (splByteC q 0 false 97 97 1 false 1 1 _ rfl (by decide) rfl (by decide) hp5).mono ?_
      rintro e w6 ⟨rfl, hp6, ho⟩
      have hB6 := below_only hB5 ho hB5.size hle
      clear hp5 hB5 ho
      go_wp2_with fail
      refine (splLen_calls q 1 false _ hp6).mono ?_
      rintro e w7 ⟨rfl, rfl⟩
      clear hp6
      go_wp2_with fail
      refine (splOf_bad 201 false _ (by decide)).mono ?_
      rintro e w7 ⟨rfl, rfl⟩
      go_wp2_with fail
      refine (splOf_bad 3 true _ (by decide)).mono ?_
      rintro e w7 ⟨rfl, rfl⟩
      go_wp2_with fail
      refine (cut_calls _ 7 7 [97, 10, 10, 98, 99, 10, 100] _ rfl (by decide) (by decide) (Sl.new rfl rfl)).mono ?_
      unfold TextsEnd
      rintro e w7 ⟨D, N, c, rfl, HO, hb7⟩
      rw [show (Line.cuts [97, 10, 10, 98, 99, 10, 100] 7).out = [[97], [], [98, 99]] by decide] at HO
      have hB7 := (hB6.alloc hB6.size (.cells #[.int .u8 97, .int .u8 10, .int .u8 10, .int .u8 98, .int .u8 99, .int .u8 10, .int .u8 100] 5 (7, 8))).trans (hb7.mono (by simp; have := hB6.size; omega))
      have hN : N = 3 := by have := HO.len; simpa using this.symm
      subst hN
      have hsl := HO.sl
      clear HO hb7 hB6
      go_wp2_with fail
      have hs2 := hsl.alloc (.cells #[.string ⟨#[97]⟩, .string ⟨#[]⟩, .string ⟨#[98, 99]⟩] 9)
      rw [S8_map] at hs2
      refine (sameS_calls D (some ⟨w7.heap.size, 0, none⟩) 3 3 c 3 [⟨#[97]⟩, ⟨#[]⟩, ⟨#[98, 99]⟩] [⟨#[97]⟩, ⟨#[]⟩, ⟨#[98, 99]⟩] _ rfl rfl (by decide) (by decide) hs2 (Sl.new rfl rfl)).mono ?_
      rintro e w8 ⟨rfl, q8, rfl⟩
      rw [eqL_self]
      have hB8 := below_drewN (hB7.alloc hB7.size (.cells #[.string ⟨#[97]⟩, .string ⟨#[]⟩, .string ⟨#[98, 99]⟩] 9)) q8
      clear hs2 hsl
      go_wp2_with fail
      go_ret
      exact ⟨rfl, hB8⟩
end Go.Proofs.Ytepfmmphajdlfab
