/-
  YardFull: a file has MaxFile bytes at most.
-/
import Derived.Test.YtbmgeomndfodpaaYardRuns
import Derived.Test.YtbmgeomndfodpaaWithin
import Derived.Test.YtbmgeomndfodpaaMakeB
namespace Go.Proofs.Ytbmgeomndfodpaa
open Go.RowKit Go.Mem Go.Proofs

def nF : ByteArray := ⟨#[102]⟩
theorem slOfBlk {w : World} {g : Nat} {t : TypeId} {cs : List Value} (h : Blk w g t cs) : Sl w (some ⟨g, 0, none⟩) cs := fun j u hu => ⟨g, 0, rfl, by rw [Nat.zero_add, h.cell]; exact hu⟩
theorem oneFind (data : List UInt8) : findM nF [⟨1, nF, data⟩] = some 0 := by simp [findM]
theorem oneApp (data p : List UInt8) : appendNo nF p [⟨1, nF, data⟩] = (if 65536 < data.length + p.length then 9 else 0) ∧ appendM nF p [⟨1, nF, data⟩] = if 65536 < data.length + p.length then [⟨1, nF, data⟩] else [⟨1, nF, data ++ p⟩] := by
  unfold appendNo appendM
  rw [oneFind]
  exact ⟨rfl, rfl⟩
theorem oneCut (data : List UInt8) (k : Nat) (hk : k ≤ data.length) : cutNo nF (k : Int) [⟨1, nF, data⟩] = 0 ∧ cutM nF (k : Int) [⟨1, nF, data⟩] = [⟨1, nF, data.take k⟩] := by
  have h : ¬ ((k : Int) < 0 ∨ (data.length : Int) < (k : Int)) := by omega
  unfold cutNo cutM
  rw [oneFind]
  exact ⟨if_neg h, if_neg h⟩
theorem oneNew : createNo nF [] = 0 ∧ createM nF [] = [⟨1, nF, []⟩] := ⟨by kernel_rfl, by kernel_rfl⟩
theorem oneFnd (data : List UInt8) : findV nF [⟨1, nF, data⟩] = .agg #[.int .i64 1, .string nF, .int .i64 (data.length : Int)] ∧ (findM nF [⟨1, nF, data⟩]).isSome = true := by
  unfold findV
  rw [oneFind]
  exact ⟨rfl, rfl⟩
set_option maxRecDepth 100000 in
set_option maxHeartbeats 3200000 in
theorem yardFull_calls (size cut : Int) (w : World) (hsz : -9223372036854775808 ≤ size ∧ size ≤ 9223372036854775807) (hct : -9223372036854775808 ≤ cut ∧ cut ≤ 9223372036854775807) : Calls Try.prog 7 #[.int .i64 size, .int .i64 cut] w fun e w' => e = .returned (.bool true) ∧ Below w.heap.size w w' := by
  have HCT := Lib.hid hct
  have HW1 := Lib.hid (fun W => within_calls size 1 5000 W (by decide) (by decide) (by decide) hsz)
  have hn1 := within_ge size 1 5000 (by decide)
  have hn2 := within_le size 1 5000 (by decide)
  generalize within size 1 5000 = z at *
  obtain ⟨n, rfl⟩ : ∃ n : Nat, z = (n : Int) := ⟨z.toNat, by omega⟩
  have hn1' : 1 ≤ n := by omega
  have hn2' : n ≤ 5000 := by omega
  clear hn1 hn2 hsz hct
  go_enter Try.func7, Try.ntmps7
  go_wp2_with fail
  refine (newV w).mono ?_
  rintro e w1 ⟨y, S1, rfl, h1, b1⟩
  go_wp2_with fail
  refine (createV h1 nF oneNew.1 oneNew.2 (by decide)).mono ?_
  rintro e w2 ⟨rfl, S2, h2, _, b2⟩
  have B2 := b1.trans b2
  clear h1 b1 b2
  go_wp2_with fail
  refine (HW1.out w2).mono ?_
  rintro e w3 ⟨rfl, rfl⟩
  have mk := mkB n n (Nat.le_refl _) (by omega)
  have hbn := Blk.new w2 5 (zerosB n)
  have hnS : ¬ S2 w2.heap.size := fun e => by have := (h2.s.lt _ e).2; omega
  have HV3 := Lib.hid (h2.alloc (.cells (zerosB n) 5))
  have HB3 := Lib.hid (B2.alloc B2.size (.cells (zerosB n) 5))
  rw [zerosB_map] at hbn
  have HBN := Lib.hid hbn
  have HNS := Lib.hid hnS
  clear h2 B2 HW1 hbn hnS
  go_upto_region 6 with fail
  generalize w2.alloc (.cells (zerosB n) 5) = w3 at *
  generalize w2.heap.size = pb at *
  clear mk
  go_wp2_with fail
  go_loopw [8, 9] (fun v i wr => ∃ (k a : Nat) (data : List UInt8) (S : Nat → Prop), k ≤ 80 ∧ i = .int .i64 k ∧ v = .int .i64 (a : Int) ∧ Hid (data.length = a) ∧ a ≤ 65536 ∧ Hid (YV wr w.heap.size y [⟨1, nF, data⟩] [] S) ∧ Hid (Blk wr pb 5 ((List.replicate n (0 : UInt8)).map B8)) ∧ Hid (¬ S pb) ∧ Hid (Below w.heap.size w wr)) (fun _ i _ => 80 - (intOf i).toNat)
  case atStart => exact ⟨0, 0, [], S2, by decide, rfl, rfl, (show _ = _ from rfl), by decide, HV3, HBN, HNS, HB3⟩
  case round =>
    obtain ⟨k, a, data, S, hk, rfl, rfl, HD, ha, HY, HBK, HNP, HBW⟩ := hrel
    clear HV3 HBN HNS HB3
    have hs0 := HBW.out.size
    by_cases hlt : k < 80
    · have i0 : (0 : Int) ≤ (k : Int) := by omega
      have i1 : (k : Int) < 80 := by omega
      have hw1 : IntKind.i64.wrap ((k : Int) + 1) = (k : Int) + 1 := by rw [IntKind.wrap_i64]; omega
      have hw2 : IntKind.i64.wrap ((a : Int) + (n : Int)) = (a : Int) + (n : Int) := by rw [IntKind.wrap_i64]; omega
      by_cases hfit : 65536 < a + n
      · have g1 : ¬ (a : Int) + (n : Int) ≤ 65536 := by omega
        have e1 := oneApp data (List.replicate n 0)
        rw [List.length_replicate, HD.out, if_pos hfit, if_pos hfit] at e1
        have HA := Lib.hid (appendV HY.out nF (some ⟨pb, 0, none⟩) n n (List.replicate n 0) e1.1 e1.2 List.length_replicate (slOfBlk HBK.out))
        have hdl : Hid (data.length = a) := (show _ = _ from HD.out)
        clear e1 hs0
        go_wp2_with fail
        refine HA.out.mono ?_
        rintro e w4 ⟨rfl, S4, h4, f4, b4⟩
        have hbk4 : Blk w4 pb 5 ((List.replicate n (0 : UInt8)).map B8) := (f4.k pb HBK.out.lt HNP.out).trans HBK.out
        have hnp4 : ¬ S4 pb := fun e => HNP.out (f4.n pb HBK.out.lt e)
        have HBW4 := Lib.hid (HBW.out.trans b4)
        have HK4 := Lib.hid hbk4
        have HN4 := Lib.hid hnp4
        have HY4 := Lib.hid h4
        clear HA HY HBK HNP HBW h4 f4 b4 hbk4 hnp4 HD
        by_cases h40 : k = 40
        · subst h40
          have HWI := Lib.hid (fun W => within_calls cut 0 ((a : Nat) : Int) W (by decide) (by omega) (by omega) HCT.out)
          have hz1 := within_ge cut 0 ((a : Nat) : Int) (by omega)
          have hz2 := within_le cut 0 ((a : Nat) : Int) (by omega)
          generalize within cut 0 ((a : Nat) : Int) = z at *
          obtain ⟨q, rfl⟩ : ∃ q : Nat, z = (q : Int) := ⟨z.toNat, by omega⟩
          have hq : q ≤ a := by omega
          have hq2 : q ≤ 65536 := by omega
          have e2 := oneCut data q (by rw [hdl.out]; exact hq)
          have HC := Lib.hid (cutV HY4.out nF (q : Int) e2.1 e2.2)
          have HDQ := Lib.hid (show (data.take q).length = q from by rw [List.length_take, hdl.out]; omega)
          clear e2 hz1 hz2 HY4 hdl hq
          go_wp2_with fail
          refine (HWI.out w4).mono ?_
          rintro e w5 ⟨rfl, rfl⟩
          go_wp2_with fail
          refine HC.out.mono ?_
          rintro e w6 ⟨rfl, S6, h6, f6, b6⟩
          have hbk6 : Blk w6 pb 5 ((List.replicate n (0 : UInt8)).map B8) := (f6.k pb HK4.out.lt HN4.out).trans HK4.out
          have hnp6 : ¬ S6 pb := fun e => HN4.out (f6.n pb HK4.out.lt e)
          have HBW6 := Lib.hid (HBW4.out.trans b6)
          have HK6 := Lib.hid hbk6
          have HN6 := Lib.hid hnp6
          have HY6 := Lib.hid h6
          clear HC h6 f6 b6 hbk6 hnp6 HK4 HN4 HBW4 HWI
          go_wp2_with fail
          exact ⟨⟨40 + 1, q, data.take q, S6, by omega, rfl, rfl, HDQ, hq2, HY6, HK6, HN6, HBW6⟩, by simp [intOf]⟩
        · have h40' : ¬ (k : Int) = 40 := by omega
          go_wp2_with fail
          exact ⟨⟨k + 1, a, data, S4, hlt, rfl, rfl, hdl, ha, HY4, HK4, HN4, HBW4⟩, by simp [intOf]; omega⟩
      · have g1 : (a : Int) + (n : Int) ≤ 65536 := by omega
        have e1 := oneApp data (List.replicate n 0)
        rw [List.length_replicate, HD.out, if_neg hfit, if_neg hfit] at e1
        have HA := Lib.hid (appendV HY.out nF (some ⟨pb, 0, none⟩) n n (List.replicate n 0) e1.1 e1.2 List.length_replicate (slOfBlk HBK.out))
        have hdl : Hid ((data ++ List.replicate n 0).length = (a + n)) := (show _ = _ from by rw [List.length_append, List.length_replicate, HD.out])
        clear e1 hs0
        go_wp2_with fail
        refine HA.out.mono ?_
        rintro e w4 ⟨rfl, S4, h4, f4, b4⟩
        have hbk4 : Blk w4 pb 5 ((List.replicate n (0 : UInt8)).map B8) := (f4.k pb HBK.out.lt HNP.out).trans HBK.out
        have hnp4 : ¬ S4 pb := fun e => HNP.out (f4.n pb HBK.out.lt e)
        have HBW4 := Lib.hid (HBW.out.trans b4)
        have HK4 := Lib.hid hbk4
        have HN4 := Lib.hid hnp4
        have HY4 := Lib.hid h4
        clear HA HY HBK HNP HBW h4 f4 b4 hbk4 hnp4 HD
        by_cases h40 : k = 40
        · subst h40
          have HWI := Lib.hid (fun W => within_calls cut 0 (((a + n) : Nat) : Int) W (by decide) (by omega) (by omega) HCT.out)
          have hz1 := within_ge cut 0 (((a + n) : Nat) : Int) (by omega)
          have hz2 := within_le cut 0 (((a + n) : Nat) : Int) (by omega)
          generalize within cut 0 (((a + n) : Nat) : Int) = z at *
          obtain ⟨q, rfl⟩ : ∃ q : Nat, z = (q : Int) := ⟨z.toNat, by omega⟩
          have hq : q ≤ (a + n) := by omega
          have hq2 : q ≤ 65536 := by omega
          have e2 := oneCut (data ++ List.replicate n 0) q (by rw [hdl.out]; exact hq)
          have HC := Lib.hid (cutV HY4.out nF (q : Int) e2.1 e2.2)
          have HDQ := Lib.hid (show ((data ++ List.replicate n 0).take q).length = q from by rw [List.length_take, hdl.out]; omega)
          clear e2 hz1 hz2 HY4 hdl hq
          rw [Int.natCast_add] at HWI
          go_wp2_with fail
          refine (HWI.out w4).mono ?_
          rintro e w5 ⟨rfl, rfl⟩
          go_wp2_with fail
          refine HC.out.mono ?_
          rintro e w6 ⟨rfl, S6, h6, f6, b6⟩
          have hbk6 : Blk w6 pb 5 ((List.replicate n (0 : UInt8)).map B8) := (f6.k pb HK4.out.lt HN4.out).trans HK4.out
          have hnp6 : ¬ S6 pb := fun e => HN4.out (f6.n pb HK4.out.lt e)
          have HBW6 := Lib.hid (HBW4.out.trans b6)
          have HK6 := Lib.hid hbk6
          have HN6 := Lib.hid hnp6
          have HY6 := Lib.hid h6
          clear HC h6 f6 b6 hbk6 hnp6 HK4 HN4 HBW4 HWI
          go_wp2_with fail
          exact ⟨⟨40 + 1, q, (data ++ List.replicate n 0).take q, S6, by omega, rfl, rfl, HDQ, hq2, HY6, HK6, HN6, HBW6⟩, by simp [intOf]⟩
        · have h40' : ¬ (k : Int) = 40 := by omega
          go_wp2_with fail
          exact ⟨⟨k + 1, (a + n), (data ++ List.replicate n 0), S4, hlt, rfl, by rw [Int.natCast_add], hdl, by omega, HY4, HK4, HN4, HBW4⟩, by simp [intOf]; omega⟩
    · have i1 : ¬ (k : Int) < 80 := by omega
      have e2 := oneFnd data
      rw [HD.out] at e2
      have HF := Lib.hid (fndV HY.out nF e2.1 e2.2)
      clear e2 HY HBK HNP HD
      go_wp2_with fail
      refine HF.out.mono ?_
      rintro e w4 ⟨rfl, _, b4⟩
      have hbn := Blk.new w4 31 #[.int .i64 1, .string nF, .int .i64 (a : Int)]
      have n2 := hbn.cell 2
      simp only [List.getElem?_cons_zero, List.getElem?_cons_succ] at n2
      have HB4 := Lib.hid ((HBW.out.trans (b4.mono hs0)).alloc (HBW.out.trans (b4.mono hs0)).size (.cells #[.int .i64 1, .string nF, .int .i64 (a : Int)] 31))
      clear HF b4 HBW hs0 hbn
      go_wp2_with fail
      refine (yardRuns_calls _).mono ?_
      rintro e w5 ⟨rfl, b5⟩
      have HB5 := Lib.hid (HB4.out.trans (b5.mono HB4.out.size))
      clear b5 HB4 n2
      go_wp2_with fail
      go_ret
      exact ⟨rfl, HB5.out⟩
end Go.Proofs.Ytbmgeomndfodpaa
