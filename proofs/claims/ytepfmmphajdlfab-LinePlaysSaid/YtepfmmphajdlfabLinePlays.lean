/-
  LinePlays, its walk.
-/
import Derived.Test.YtepfmmphajdlfabLineB
import Derived.Test.YtepfmmphajdlfabLineRuns
import Derived.Test.YtepfmmphajdlfabKeep
import Derived.Deep.RegionHeld3
namespace Go.Proofs.Ytepfmmphajdlfab
open Go.RowKit Go.Mem Go.Law

set_option maxHeartbeats 3200000 in
theorem linePlays_calls (A : Option Addr) (n cap : Nat) (rs : List Run) (w : World) (hl : rs.length = n) (hn : n ≤ 9223372036854775807) (hs : RowsAt w A 2 (rs.map Run.cells)) (hok : ∀ r ∈ rs, r.ok) :
    Calls Try.prog 9 #[.slice A n cap] w fun e w' => e = .returned (.bool true) ∧ Below w.heap.size w w' := by
  have HB0 := Lib.hid (bytes_calls A n cap 1500 rs w hl hn hs hok (by decide))
  clear hs hok hn hl
  go_enter Try.func9, Try.ntmps9
  go_wp2_with fail
  refine HB0.out.mono ?_
  unfold SomeBytes
  rintro e w1 ⟨D, N, c, bs, rfl, HO0, hN, hb1⟩
  have HNl : Hid (bs.length = N) := by have := HO0.len; rw [List.length_map, Nat.mul_one] at this; exact this
  go_wp2_with fail
  refine (splNew_calls w1).mono ?_
  rintro e w2 ⟨rfl, hp0, hb2⟩
  have hB0 := hb1.trans (hb2.mono hb1.size)
  have hle := hb1.size
  have HO1 := Lib.hid (HO0.below hb2)
  have hp1 := hp0.alloc (.cells #[.int .i64 0, .bool false] 56)
  have hB1 := hB0.alloc hB0.size (.cells #[.int .i64 0, .bool false] 56)
  have HO2 := Lib.hid (HO1.out.alloc (.cells #[.int .i64 0, .bool false] 56))
  have hr1 : Blk (w2.alloc (.cells #[.int .i64 0, .bool false] 56)) w2.heap.size 56 [.int .i64 0, .bool false] := Blk.new _ _ _
  have hle2 := hB0.size
  clear HB0 HO0 hb1 hb2 HO1 hp0 hB0
  go_wp2_with fail
  go_loopw [6, 7, 8] (fun i _ _ wr => ∃ (j n : Nat) (l : Bool), j ≤ N ∧ n ≤ 200 ∧ i = .int .i64 j ∧ Spl wr w1.heap.size n l ∧ Blk wr w2.heap.size 56 [.int .i64 (n : Int), .bool l] ∧ Hid (OwnB wr w.heap.size 5 1 D N c (bs.map B8)) ∧ Below w.heap.size w wr) (fun i _ _ _ => N - (intOf i).toNat)
  case atStart => exact ⟨0, 0, false, Nat.zero_le _, Nat.zero_le _, rfl, hp1, hr1, HO2, hB1⟩
  case round =>
    clear hp1 hr1 HO2 hB1
    obtain ⟨j, n, l, hj, hn, rfl, hp, hr, HO, hB⟩ := hrel
    by_cases hlt : j < N
    · obtain ⟨b, o, rfl, hca⟩ := HO.out.sl.byte (k := j) (by have := HNl.out; omega)
      have hcb : ∀ w' : World, OwnB w' w.heap.size 5 1 (some ⟨b, o, none⟩) N c (bs.map B8) → w'.cell? ⟨b, o + j, none⟩ = some (.int .u8 ((bs[j]'(by have := HNl.out; omega)).toNat : Int)) := fun w' h => by
        obtain ⟨b', o', e, hc⟩ := h.sl.byte (k := j) (by have := HNl.out; omega)
        obtain ⟨rfl, rfl⟩ : b = b' ∧ o = o' := by injection e with e; injection e with e1 e2; exact ⟨e1, e2⟩
        exact hc
      generalize bs[j]'(by have := HNl.out; omega) = u at hca hcb
      have HCB := Lib.hid hcb
      have r0 := hr.cell 0
      have r1 := hr.cell 1
      simp only [List.getElem?_cons_zero, List.getElem?_cons_succ] at r0 r1
      have i0 : (0 : Int) ≤ (j : Int) := Int.natCast_nonneg _
      have i1 : (j : Int) < (N : Int) := by omega
      have HRef := fun W => refByte_calls n l u W hn
      have HSpl := fun (W : World) (h : Spl W w1.heap.size n l) => splByte_calls w1.heap.size n l u W hn h
      have hn1 := Line.step_le n l u hn
      generalize Line.step n l u = r at HRef HSpl hn1
      obtain ⟨n1, l1, k1⟩ := r
      have HR := Lib.hid HRef
      have HS := Lib.hid HSpl
      simp only at hn1
      clear hcb HRef HSpl
      have ne0 := World.new_ne wr _ r0
      have ne1 := World.new_ne wr _ hca
      go_wp2_with fail
      go_region_held3 (fun w' => w'.cell? ⟨w2.heap.size, 0, none⟩ = some (.int .i64 (n : Int)) ∧ w'.cell? ⟨w2.heap.size, 1, none⟩ = some (.bool l) ∧ w'.cell? ⟨b, o + j, none⟩ = some (.int .u8 (u.toNat : Int))) (first | (exact ⟨keep_below hb3 (by assumption), keep_below hb3 (by assumption), keep_below hb3 (by assumption)⟩) | (exact ⟨cell_alloc (keep_below hb3 r0) _, cell_alloc (keep_below hb3 r1) _, cell_alloc (keep_below hb3 hca) _⟩) | (exact ⟨keep_below hb3 (cell_alloc r0 _), keep_below hb3 (cell_alloc r1 _), keep_below hb3 (cell_alloc hca _)⟩) | (exact ⟨keep_set2 (keep_below hb3 (cell_alloc r0 _)) (Ne.symm ne0), keep_set2 (keep_below hb3 (cell_alloc r1 _)) (Ne.symm ne0), keep_set2 (keep_below hb3 (cell_alloc hca _)) (Ne.symm ne1)⟩) | go_keep) (first | (go_at_call 33; refine (HR.out _).mono ?_; rintro e w3 ⟨rfl, hb3⟩; (try (have kb := blk_after (w := wr) hb3; have k0 : w3.cell? ⟨wr.heap.size, 0, none⟩ = some (.int .i64 0) := kb.cell 0; have k1 : w3.cell? ⟨wr.heap.size, 1, none⟩ = some (.bool false) := kb.cell 1; have f0 : w3.frozen? ⟨wr.heap.size, 0, none⟩ = false := kb.frozen 0; have f1 : w3.frozen? ⟨wr.heap.size, 1, none⟩ = false := kb.frozen 1))))
      · have hb3' : Below wr.heap.size wr w3 := ⟨hb3.os, hb3.tape, hb3.output, hb3.size, hb3.block⟩
        have hp4 := (hp.below hb3' hp.lt).alloc (.cells #[.int .i64 (n1 : Int), .bool l1] 56)
        have hr4 := (hr.below hb3' hr.lt).alloc (.cells #[.int .i64 (n1 : Int), .bool l1] 56)
        have h74 : Blk (w3.alloc (.cells #[.int .i64 (n1 : Int), .bool l1] 56)) w3.heap.size 56 [.int .i64 (n1 : Int), .bool l1] := Blk.new _ _ _
        have HO4 := Lib.hid ((HO.out.below hb3').alloc (.cells #[.int .i64 (n1 : Int), .bool l1] 56))
        have hB3 := hB.trans (hb3'.mono hB.size)
        have hB4 := hB3.alloc hB3.size (.cells #[.int .i64 (n1 : Int), .bool l1] 56)
        have hg7 : w2.heap.size ≠ w3.heap.size := Nat.ne_of_lt (hr.below hb3' hr.lt).lt
        clear hb3 hb3' hB3 hp hr hB HO hca r0 r1 ne0 ne1 HR
        generalize w3.alloc (.cells #[.int .i64 (n1 : Int), .bool l1] 56) = w4 at hp4 hr4 h74 HO4 hB4 ⊢
        generalize w3.heap.size = g7 at h74 hg7 ⊢
        have t0 := hr4.cell 0
        have t1 := hr4.cell 1
        have x0 := h74.cell 0
        have x1 := h74.cell 1
        have tf0 := hr4.frozen 0
        have tf1 := hr4.frozen 1
        simp only [List.getElem?_cons_zero, List.getElem?_cons_succ] at t0 t1 x0 x1
        have hr5 := (hr4.set_ 0 (.int .i64 (n1 : Int))).set_ 1 (.bool l1)
        have hne := hp4.ne_ hr4 (by decide)
        have hp5 := (hp4.far (p := ⟨w2.heap.size, 0, none⟩) hne (.int .i64 (n1 : Int))).far (p := ⟨w2.heap.size, 1, none⟩) hne (.bool l1)
        have ho5 := only_set (only_set (only_refl w4 w2.heap.size) 0 (.int .i64 (n1 : Int))) 1 (.bool l1)
        have HO5 := Lib.hid (HO4.out.only hr4 (by decide) ho5)
        have hB5 := below_only hB4 ho5 hB4.size hle2
        simp only [List.set_cons_zero, List.set_cons_succ] at hr5
        clear ho5 HO4 hB4 hp4 hr4 h74
        go_wp2_with fail
        clear t0 t1 x0 x1 tf0 tf1
        generalize (w4.setCell ⟨w2.heap.size, 0, none⟩ (.int .i64 (n1 : Int))).setCell ⟨w2.heap.size, 1, none⟩ (.bool l1) = w5 at hp5 hr5 HO5 hB5 ⊢
        have r0 := hr5.cell 0
        have r1 := hr5.cell 1
        simp only [List.getElem?_cons_zero, List.getElem?_cons_succ] at r0 r1
        have hca := HCB.out _ HO5.out
        have hbp := HO5.out.ne_ hp5 (by decide)
        go_region_held3 (fun w' => w'.cell? ⟨w2.heap.size, 0, none⟩ = some (.int .i64 (n1 : Int)) ∧ w'.cell? ⟨w2.heap.size, 1, none⟩ = some (.bool l1) ∧ w'.cell? ⟨b, o + j, none⟩ = some (.int .u8 (u.toNat : Int))) (first | (exact ⟨keep_only ho6 r0 (Ne.symm hne), keep_only ho6 r1 (Ne.symm hne), keep_only ho6 hca hbp⟩) | go_keep) (first | (go_at_call 26; refine (HS.out _ (by exact hp5)).mono ?_; unfold ByteEnds; rintro e w6 ⟨rfl, hp6, ho6⟩) | (go_at_call 27; refine (splLen_calls _ _ _ _ (by exact hp6)).mono ?_; rintro e w7 ⟨rfl, rfl⟩) | (go_at_call 28; refine (splLong_calls _ _ _ _ (by exact hp6)).mono ?_; rintro e w7 ⟨rfl, rfl⟩))
        have ho6' : w5.grownBy w6 (some w1.heap.size) := ⟨ho6.os, ho6.tape, ho6.output, ho6.size, ho6.block⟩
        have hr6 := hr5.only ho6' (Ne.symm hne)
        have HO6 := Lib.hid (HO5.out.only hp5 (by decide) ho6')
        have hB6 := below_only hB5 ho6' hB5.size hle
        clear ho6 ho6' hr5 HO5 hB5 hp5 r0 r1 hca HS HCB hbp
        go_wp2_with fail
        go_roundw
        case rel => exact ⟨j + 1, n1, l1, by omega, hn1, by go_num, hp6, hr6, HO6, hB6⟩
        case measure => simp [intOf]; omega
      · rename_i k1
        have hb3' : Below (wr.heap.size + 1) (wr.alloc (.cells #[.int .i64 0, .bool false] 56)) w3 := ⟨hb3.os, hb3.tape, hb3.output, by have := hb3.size; simpa using this, fun k hk => hb3.block k (by simpa using hk)⟩
        have hp3 := (hp.alloc (.cells #[.int .i64 0, .bool false] 56)).below hb3' (Nat.lt_succ_of_lt hp.lt)
        have hr3 := (hr.alloc (.cells #[.int .i64 0, .bool false] 56)).below hb3' (Nat.lt_succ_of_lt hr.lt)
        have hp4 := (hp3.far (p := ⟨wr.heap.size, 0, none⟩) (Nat.ne_of_lt hp.lt) (.int .i64 (n1 : Int))).far (p := ⟨wr.heap.size, 1, none⟩) (Nat.ne_of_lt hp.lt) (.bool l1)
        have hr4 := (hr3.far (p := ⟨wr.heap.size, 0, none⟩) (Nat.ne_of_lt hr.lt) (.int .i64 (n1 : Int))).far (p := ⟨wr.heap.size, 1, none⟩) (Nat.ne_of_lt hr.lt) (.bool l1)
        have h74 := (kb.set_ 0 (.int .i64 (n1 : Int))).set_ 1 (.bool l1)
        have ho := only_set (only_set (only_refl w3 wr.heap.size) 0 (.int .i64 (n1 : Int))) 1 (.bool l1)
        have HO3 : OwnB w3 w.heap.size 5 1 (some ⟨b, o, none⟩) N c (bs.map B8) := (HO.out.alloc (.cells #[.int .i64 0, .bool false] 56)).below (by simpa using hb3')
        have HO4 := Lib.hid (HO3.only kb (by decide) ho)
        have hB3 := (hB.alloc hB.size (.cells #[.int .i64 0, .bool false] 56)).trans (hb3'.mono (Nat.le_succ_of_le hB.size))
        have hB4 := below_only hB3 ho hB3.size hB.size
        have hg7 : w2.heap.size ≠ wr.heap.size := Nat.ne_of_lt hr.lt
        simp only [List.set_cons_zero, List.set_cons_succ] at h74
        clear hb3 hb3' hB3 hp hr hB HO hca r0 r1 ne0 ne1 HR ho HO3 kb k0 k1 f0 f1 hp3 hr3
        generalize (w3.setCell ⟨wr.heap.size, 0, none⟩ (.int .i64 (n1 : Int))).setCell ⟨wr.heap.size, 1, none⟩ (.bool l1) = w4 at hp4 hr4 h74 HO4 hB4 ⊢
        generalize wr.heap.size = g7 at h74 hg7 ⊢
        have t0 := hr4.cell 0
        have t1 := hr4.cell 1
        have x0 := h74.cell 0
        have x1 := h74.cell 1
        have tf0 := hr4.frozen 0
        have tf1 := hr4.frozen 1
        simp only [List.getElem?_cons_zero, List.getElem?_cons_succ] at t0 t1 x0 x1
        have hr5 := (hr4.set_ 0 (.int .i64 (n1 : Int))).set_ 1 (.bool l1)
        have hne := hp4.ne_ hr4 (by decide)
        have hp5 := (hp4.far (p := ⟨w2.heap.size, 0, none⟩) hne (.int .i64 (n1 : Int))).far (p := ⟨w2.heap.size, 1, none⟩) hne (.bool l1)
        have ho5 := only_set (only_set (only_refl w4 w2.heap.size) 0 (.int .i64 (n1 : Int))) 1 (.bool l1)
        have HO5 := Lib.hid (HO4.out.only hr4 (by decide) ho5)
        have hB5 := below_only hB4 ho5 hB4.size hle2
        simp only [List.set_cons_zero, List.set_cons_succ] at hr5
        clear ho5 HO4 hB4 hp4 hr4 h74
        go_wp2_with fail
        clear t0 t1 x0 x1 tf0 tf1
        generalize (w4.setCell ⟨w2.heap.size, 0, none⟩ (.int .i64 (n1 : Int))).setCell ⟨w2.heap.size, 1, none⟩ (.bool l1) = w5 at hp5 hr5 HO5 hB5 ⊢
        have r0 := hr5.cell 0
        have r1 := hr5.cell 1
        simp only [List.getElem?_cons_zero, List.getElem?_cons_succ] at r0 r1
        have hca := HCB.out _ HO5.out
        have hbp := HO5.out.ne_ hp5 (by decide)
        go_region_held3 (fun w' => w'.cell? ⟨w2.heap.size, 0, none⟩ = some (.int .i64 (n1 : Int)) ∧ w'.cell? ⟨w2.heap.size, 1, none⟩ = some (.bool l1) ∧ w'.cell? ⟨b, o + j, none⟩ = some (.int .u8 (u.toNat : Int))) (first | (exact ⟨keep_only ho6 r0 (Ne.symm hne), keep_only ho6 r1 (Ne.symm hne), keep_only ho6 hca hbp⟩) | go_keep) (first | (go_at_call 26; refine (HS.out _ (by exact hp5)).mono ?_; unfold ByteEnds; rintro e w6 ⟨rfl, hp6, ho6⟩) | (go_at_call 27; refine (splLen_calls _ _ _ _ (by exact hp6)).mono ?_; rintro e w7 ⟨rfl, rfl⟩) | (go_at_call 28; refine (splLong_calls _ _ _ _ (by exact hp6)).mono ?_; rintro e w7 ⟨rfl, rfl⟩))
        have ho6' : w5.grownBy w6 (some w1.heap.size) := ⟨ho6.os, ho6.tape, ho6.output, ho6.size, ho6.block⟩
        have hr6 := hr5.only ho6' (Ne.symm hne)
        have HO6 := Lib.hid (HO5.out.only hp5 (by decide) ho6')
        have hB6 := below_only hB5 ho6' hB5.size hle
        clear ho6 ho6' hr5 HO5 hB5 hp5 r0 r1 hca HS HCB hbp
        go_wp2_with fail
        go_roundw
        case rel => exact ⟨j + 1, n1, l1, by omega, hn1, by go_num, hp6, hr6, HO6, hB6⟩
        case measure => simp [intOf]; omega
    · obtain rfl : j = N := by omega
      clear hp hr HO
      go_wp2_with fail
      refine (lineRuns_calls wr).mono ?_
      rintro e w3 ⟨rfl, hb3⟩
      go_wp2_with fail
      go_ret
      exact ⟨rfl, hB.trans (hb3.mono hB.size)⟩
end Go.Proofs.Ytepfmmphajdlfab
