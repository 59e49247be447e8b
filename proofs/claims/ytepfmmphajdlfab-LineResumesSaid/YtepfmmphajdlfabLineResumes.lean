/-
  LineResumes, its walk.
-/
import Derived.Test.YtepfmmphajdlfabLineB
import Derived.Test.YtepfmmphajdlfabLineRuns
import Derived.Test.YtepfmmphajdlfabKeep
import Derived.Deep.RegionHeld3
namespace Go.Line
theorem step_long (n : Nat) (l : Bool) (c : UInt8) (h : l = true → n = 0) : (step n l c).2.1 = true → (step n l c).1 = 0 := by
  unfold step
  repeat' split
  all_goals simp
  all_goals exact h ‹_›
end Go.Line
namespace Go.Proofs.Ytepfmmphajdlfab
open Go.RowKit Go.Mem Go.Law

theorem ofBad_not {n : Nat} {l : Bool} (hn : n ≤ 200) (h : l = true → n = 0) : ofBad (n : Int) l = false := by
  unfold ofBad
  have h1 : decide ((n : Int) < 0) = false := decide_eq_false (by omega)
  have h2 : decide ((200 : Int) < n) = false := decide_eq_false (by omega)
  rw [h1, h2]
  cases l
  · rfl
  · have := h rfl; subst this; rfl

set_option maxRecDepth 100000 in
set_option maxHeartbeats 3200000 in
theorem lineResumes_calls (A : Option Addr) (n cap : Nat) (rs : List Run) (at_ m : Int) (long : Bool) (w : World) (hl : rs.length = n) (hn : n ≤ 9223372036854775807) (hs : RowsAt w A 2 (rs.map Run.cells)) (hok : ∀ r ∈ rs, r.ok)
    (hat : -9223372036854775808 ≤ at_ ∧ at_ ≤ 9223372036854775807) (hm : -9223372036854775808 ≤ m ∧ m ≤ 9223372036854775807) :
    Calls Try.prog 10 #[.slice A n cap, .int .i64 at_, .int .i64 m, .bool long] w fun e w' => e = .returned (.bool true) ∧ Below w.heap.size w w' := by
  have HB0 := Lib.hid (bytes_calls A n cap 900 rs w hl hn hs hok (by decide))
  clear hs hok hn hl
  go_enter Try.func10, Try.ntmps10
  go_wp2_with fail
  refine HB0.out.mono ?_
  unfold SomeBytes
  rintro e w1 ⟨D, N, c, bs, rfl, HO0, hN, hb1⟩
  have HNl : Hid (bs.length = N) := by have := HO0.len; rw [List.length_map, Nat.mul_one] at this; exact this
  go_wp2_with fail
  refine (splNew_calls w1).mono ?_
  rintro e w2 ⟨rfl, hp0, hb2⟩
  go_wp2_with fail
  refine (splNew_calls w2).mono ?_
  rintro e w3 ⟨rfl, hq, hb3⟩
  have hp := hp0.below hb3 hp0.lt
  have hne : w1.heap.size ≠ w2.heap.size := Nat.ne_of_lt hp0.lt
  have hB0 := (hb1.trans (hb2.mono hb1.size)).trans (hb3.mono (Nat.le_trans hb1.size hb2.size))
  have hle1 := hb1.size
  have hle2 := Nat.le_trans hb1.size hb2.size
  have HO1 := Lib.hid ((HO0.below hb2).below hb3)
  clear HB0 HO0 hb1 hb2 hb3 hp0
  generalize w1.heap.size = p at hp hne hle1
  generalize w2.heap.size = q at hq hne hle2
  go_wp2_with fail
  refine (within_calls at_ 0 N _ (by decide) (by omega) (by omega) hat).mono ?_
  rintro e w4 ⟨rfl, rfl⟩
  have hk0 := within_ge at_ 0 N (by omega)
  generalize within at_ 0 N = kk at hk0
  obtain ⟨kk, rfl⟩ := Int.eq_ofNat_of_zero_le hk0
  go_wp2_with fail
  have HL0 := Lib.hid (show (false = true → (0 : Nat) = 0) from fun _ => rfl)
  go_loopw [10, 13, 14, 15] (fun sp i _ _ wr => ∃ (j n p : Nat) (l : Bool), j ≤ N ∧ n ≤ 200 ∧ Hid (l = true → n = 0) ∧ i = .int .i64 j ∧ sp = .pointer (some ⟨p, 0, none⟩) ∧ p ≠ q ∧ w.heap.size ≤ p ∧ Spl wr p n l ∧ Spl wr q n l ∧ Hid (OwnB wr w.heap.size 5 1 D N c (bs.map B8)) ∧ Below w.heap.size w wr) (fun _ i _ _ _ => N - (intOf i).toNat)
  case atStart => exact ⟨0, 0, p, false, Nat.zero_le _, Nat.zero_le _, HL0, rfl, rfl, hne, hle1, hp, hq, HO1, hB0⟩
  case round =>
    clear hp hq hne hle1 HO1 hB0
    obtain ⟨j, n, p, l, hj, hn, HL, rfl, rfl, hne, hle1, hp, hq, HO, hB⟩ := hrel
    by_cases hlt : j < N
    · obtain ⟨b, o, rfl, hca⟩ := HO.out.sl.byte (k := j) (by have := HNl.out; omega)
      have hcb : ∀ w' : World, OwnB w' w.heap.size 5 1 (some ⟨b, o, none⟩) N c (bs.map B8) → w'.cell? ⟨b, o + j, none⟩ = some (.int .u8 ((bs[j]'(by have := HNl.out; omega)).toNat : Int)) := fun w' h => by
        obtain ⟨b', o', e, hc⟩ := h.sl.byte (k := j) (by have := HNl.out; omega)
        obtain ⟨rfl, rfl⟩ : b = b' ∧ o = o' := by injection e with e; injection e with e1 e2; exact ⟨e1, e2⟩
        exact hc
      generalize bs[j]'(by have := HNl.out; omega) = u at hca hcb
      have HCB := Lib.hid hcb
      have i0 : (0 : Int) ≤ (j : Int) := Int.natCast_nonneg _
      have i1 : (j : Int) < (N : Int) := by omega
      have HSpl := fun (p : Nat) (W : World) (h : Spl W p n l) => splByte_calls p n l u W hn h
      have hn1 := Line.step_le n l u hn
      have HL1 := Lib.hid (Line.step_long n l u HL.out)
      generalize Line.step n l u = r at HSpl hn1 HL1
      obtain ⟨n1, l1, k1⟩ := r
      have HS := Lib.hid HSpl
      simp only at hn1 HL1
      clear hcb HSpl
      by_cases hjk : j = kk
      · subst hjk
        have hbad := ofBad_not hn HL.out
        go_wp2_with fail
        refine (splLen_calls p n l _ hp).mono ?_
        rintro e w4 ⟨rfl, rfl⟩
        go_wp2_with fail
        refine (splLong_calls p n l _ hp).mono ?_
        rintro e w4 ⟨rfl, rfl⟩
        go_wp2_with fail
        refine (splOf_ok n l _ hbad).mono ?_
        rintro e w4 ⟨rfl, hx, hbx⟩
        have hq4 := hq.below hbx hq.lt
        have HO4 := Lib.hid (HO.out.below hbx)
        have hB4 := hB.trans (hbx.mono hB.size)
        have hne4 : wr.heap.size ≠ q := Ne.symm (Nat.ne_of_lt hq.lt)
        have hle4 := hB.size
        clear hp hq HO hB hbx hne hle1 hbad hca
        generalize wr.heap.size = g at hx hne4 hle4 ⊢
        have hp := hx
        have hq := hq4
        have HO := HO4
        have hB := hB4
        have hne := hne4
        have hle1 := hle4
        clear hx hq4 HO4 hB4 hne4 hle4
        have hca := HCB.out _ HO.out
        have hbp := HO.out.ne_ hp (by decide)
        have hbq := HO.out.ne_ hq (by decide)
        go_wp2_with fail
        go_region_held3 (fun w' => w'.cell? ⟨b, o + j, none⟩ = some (.int .u8 (u.toNat : Int))) (first | (exact keep_only ho6 hca hbp) | (exact keep_only ho7 (keep_only ho6 hca hbp) hbq) | go_keep) (first | (go_at_call_of 26 g; refine (HS.out g _ (by exact hp)).mono ?_; unfold ByteEnds; rintro e w6 ⟨rfl, hp6, ho6⟩; have hq6 : Spl w6 q n l := Blk.only (w := w4) hq ⟨ho6.os, ho6.tape, ho6.output, ho6.size, ho6.block⟩ (Ne.symm hne)) | (go_at_call_of 26 q; refine (HS.out q _ (by exact hq6)).mono ?_; unfold ByteEnds; rintro e w7 ⟨rfl, hq7, ho7⟩; have hp7 : Spl w7 g n1 l1 := Blk.only (w := w6) hp6 ⟨ho7.os, ho7.tape, ho7.output, ho7.size, ho7.block⟩ hne) | (go_at_call_of 27 g; refine (splLen_calls g _ _ _ (by exact hp7)).mono ?_; rintro e w8 ⟨rfl, rfl⟩) | (go_at_call_of 27 q; refine (splLen_calls q _ _ _ (by exact hq7)).mono ?_; rintro e w8 ⟨rfl, rfl⟩) | (go_at_call_of 28 g; refine (splLong_calls g _ _ _ (by exact hp7)).mono ?_; rintro e w8 ⟨rfl, rfl⟩) | (go_at_call_of 28 q; refine (splLong_calls q _ _ _ (by exact hq7)).mono ?_; rintro e w8 ⟨rfl, rfl⟩))
        have ho6' : w4.grownBy w6 (some g) := ⟨ho6.os, ho6.tape, ho6.output, ho6.size, ho6.block⟩
        have ho7' : w6.grownBy w7 (some q) := ⟨ho7.os, ho7.tape, ho7.output, ho7.size, ho7.block⟩
        have HO7 := Lib.hid ((HO.out.only hp (by decide) ho6').only hq6 (by decide) ho7')
        have hB6 := below_only hB ho6' hB.size hle1
        have hB7 := below_only hB6 ho7' hB6.size hle2
        clear ho6 ho6' ho7 ho7' hp hq hp6 hq6 HO hB hB6 hca HS HCB hbp hbq
        go_wp2_with fail
        go_roundw
        case rel => exact ⟨j + 1, n1, g, l1, by omega, hn1, HL1, by go_num, rfl, hne, hle1, hp7, hq7, HO7, hB7⟩
        case measure => simp [intOf]; omega
      · have hjk2 : ((j : Int) == (kk : Int)) = false := beq_eq_false_iff_ne.2 (by omega)
        clear hca
        have hca := HCB.out _ HO.out
        have hbp := HO.out.ne_ hp (by decide)
        have hbq := HO.out.ne_ hq (by decide)
        go_wp2_with fail
        go_region_held3 (fun w' => w'.cell? ⟨b, o + j, none⟩ = some (.int .u8 (u.toNat : Int))) (first | (exact keep_only ho6 hca hbp) | (exact keep_only ho7 (keep_only ho6 hca hbp) hbq) | go_keep) (first | (go_at_call_of 26 p; refine (HS.out p _ (by exact hp)).mono ?_; unfold ByteEnds; rintro e w6 ⟨rfl, hp6, ho6⟩; have hq6 : Spl w6 q n l := Blk.only (w := wr) hq ⟨ho6.os, ho6.tape, ho6.output, ho6.size, ho6.block⟩ (Ne.symm hne)) | (go_at_call_of 26 q; refine (HS.out q _ (by exact hq6)).mono ?_; unfold ByteEnds; rintro e w7 ⟨rfl, hq7, ho7⟩; have hp7 : Spl w7 p n1 l1 := Blk.only (w := w6) hp6 ⟨ho7.os, ho7.tape, ho7.output, ho7.size, ho7.block⟩ hne) | (go_at_call_of 27 p; refine (splLen_calls p _ _ _ (by exact hp7)).mono ?_; rintro e w8 ⟨rfl, rfl⟩) | (go_at_call_of 27 q; refine (splLen_calls q _ _ _ (by exact hq7)).mono ?_; rintro e w8 ⟨rfl, rfl⟩) | (go_at_call_of 28 p; refine (splLong_calls p _ _ _ (by exact hp7)).mono ?_; rintro e w8 ⟨rfl, rfl⟩) | (go_at_call_of 28 q; refine (splLong_calls q _ _ _ (by exact hq7)).mono ?_; rintro e w8 ⟨rfl, rfl⟩))
        have ho6' : wr.grownBy w6 (some p) := ⟨ho6.os, ho6.tape, ho6.output, ho6.size, ho6.block⟩
        have ho7' : w6.grownBy w7 (some q) := ⟨ho7.os, ho7.tape, ho7.output, ho7.size, ho7.block⟩
        have HO7 := Lib.hid ((HO.out.only hp (by decide) ho6').only hq6 (by decide) ho7')
        have hB6 := below_only hB ho6' hB.size hle1
        have hB7 := below_only hB6 ho7' hB6.size hle2
        clear ho6 ho6' ho7 ho7' hp hq hp6 hq6 HO hB hB6 hca HS HCB hbp hbq
        go_wp2_with fail
        go_roundw
        case rel => exact ⟨j + 1, n1, p, l1, by omega, hn1, HL1, by go_num, rfl, hne, hle1, hp7, hq7, HO7, hB7⟩
        case measure => simp [intOf]; omega
    · obtain rfl : j = N := by omega
      clear hp hq HO HL hk0
      obtain ⟨hm1, hm2⟩ := hm
      by_cases h1 : m < 0
      · have hbad : ofBad m long = true := by unfold ofBad; rw [decide_eq_true h1]; rfl
        have hd1 : decide (m < 0) = true := decide_eq_true h1
        go_wp2_with fail
        refine (splOf_bad m long _ hbad).mono ?_
        rintro e w4 ⟨rfl, rfl⟩
        go_wp2_with fail
        refine (lineRuns_calls _).mono ?_
        rintro e w5 ⟨rfl, hb5⟩
        go_wp2_with fail
        go_ret
        exact ⟨rfl, hB.trans (hb5.mono hB.size)⟩
      · have hd1 : decide (m < 0) = false := decide_eq_false h1
        have h1' : 0 ≤ m := by omega
        by_cases h2 : 200 < m
        · have hbad : ofBad m long = true := by unfold ofBad; rw [decide_eq_true h2, Bool.or_true]; rfl
          have hd2 : decide (200 < m) = true := decide_eq_true h2
          go_wp2_with fail
          refine (splOf_bad m long _ hbad).mono ?_
          rintro e w4 ⟨rfl, rfl⟩
          go_wp2_with fail
          refine (lineRuns_calls _).mono ?_
          rintro e w5 ⟨rfl, hb5⟩
          go_wp2_with fail
          go_ret
          exact ⟨rfl, hB.trans (hb5.mono hB.size)⟩
        · have hd2 : decide (200 < m) = false := decide_eq_false h2
          cases long
          · have hbad : ofBad m false = false := by unfold ofBad; rw [hd1, hd2]; rfl
            go_wp2_with fail
            refine (splOf_ok m false _ hbad).mono ?_
            rintro e w4 ⟨rfl, hx, hbx⟩
            have hB4 := hB.trans (hbx.mono hB.size)
            obtain ⟨mm, rfl⟩ := Int.eq_ofNat_of_zero_le h1'
            clear hbx hB
            go_wp2_with fail
            refine (splLen_calls _ mm false _ hx).mono ?_
            rintro e w5 ⟨rfl, rfl⟩
            go_wp2_with fail
            refine (splLong_calls _ mm false _ hx).mono ?_
            rintro e w5 ⟨rfl, rfl⟩
            go_wp2_with fail
            refine (lineRuns_calls _).mono ?_
            rintro e w5 ⟨rfl, hb5⟩
            go_wp2_with fail
            go_ret
            exact ⟨rfl, hB4.trans (hb5.mono hB4.size)⟩
          · by_cases h3 : m = 0
            · subst h3
              have hbad : ofBad 0 true = false := rfl
              go_wp2_with fail
              refine (splOf_ok 0 true _ hbad).mono ?_
              rintro e w4 ⟨rfl, hx, hbx⟩
              have hB4 := hB.trans (hbx.mono hB.size)
              clear hbx hB
              go_wp2_with fail
              refine (splLen_calls _ 0 true _ hx).mono ?_
              rintro e w5 ⟨rfl, rfl⟩
              go_wp2_with fail
              refine (splLong_calls _ 0 true _ hx).mono ?_
              rintro e w5 ⟨rfl, rfl⟩
              go_wp2_with fail
              refine (lineRuns_calls _).mono ?_
              rintro e w5 ⟨rfl, hb5⟩
              go_wp2_with fail
              go_ret
              exact ⟨rfl, hB4.trans (hb5.mono hB4.size)⟩
            · have hb0 : (m != 0) = true := bne_iff_ne.2 h3
              have hbad : ofBad m true = true := by unfold ofBad; rw [hd1, hd2, decide_eq_true h3]; rfl
              go_wp2_with fail
              refine (splOf_bad m true _ hbad).mono ?_
              rintro e w4 ⟨rfl, rfl⟩
              go_wp2_with fail
              refine (lineRuns_calls _).mono ?_
              rintro e w5 ⟨rfl, hb5⟩
              go_wp2_with fail
              go_ret
              exact ⟨rfl, hB.trans (hb5.mono hB.size)⟩
end Go.Proofs.Ytepfmmphajdlfab
