/-
  WireBack: what is written is read back, whatever stands behind it.
-/
import Derived.Test.YtjmiejcgahajfaaWireRuns
import Derived.Test.YtjmiejcgahajfaaWireBackAny
import Derived.Test.YtjmiejcgahajfaaWireWrites
namespace Go.Proofs.Ytjmiejcgahajfaa
open Go.RowKit Go.Mem

set_option maxHeartbeats 4000000 in
theorem wireBack_calls (M T : Option Addr) (mn mc tn tc : Nat) (its : List Itm) (ts : List UInt8) (w : World) (hm : its.length = mn) (hmn : mn ≤ mc) (hM : Its w M its) (hit : ∀ i ∈ its, i.Ok w) (ht : ts.length = tn) (hT : Sl w T (ts.map B8)) (htn : tn ≤ 1048576) (h100 : mn ≤ 100) :
    Calls Try.prog 6 #[.slice M mn mc, .slice T tn tc] w fun e w' => e = .returned (.bool true) ∧ Below w.heap.size w w' := by
  subst hm ht
  have HM := Lib.hid hM
  have HI := Lib.hid hit
  have HT := Lib.hid hT
  clear hM hit hT
  have hd0 : decide ((100 : Int) < (its.length : Int)) = false := decide_eq_false (by omega)
  go_enter Try.func6, Try.ntmps6
  go_wp2_with fail
  have HE : Hid (∀ j (h : j < its.length), (its.take (j + 1)).flatMap Itm.enc = (its.take j).flatMap Itm.enc ++ its[j].enc) := fun j h => by
    rw [List.take_succ_eq_append_getElem h, List.flatMap_append, List.flatMap_singleton]
  go_loopw [5, 6] (fun v i wr => ∃ (j : Nat) (D : Option Addr) (N c : Nat), j ≤ its.length ∧ i = .int .i64 j ∧ v = .slice D N c ∧ Hid (OwnB wr w.heap.size 5 1 D N c (((its.take j).flatMap Itm.enc).map B8)) ∧ N ≤ 20000000 * j ∧ Below w.heap.size w wr) (fun _ i _ => its.length - (intOf i).toNat)
  case atStart => exact ⟨0, none, 0, 0, Nat.zero_le _, rfl, rfl, OwnB.nil _ _ _ _, Nat.zero_le _, Below.refl _ _⟩
  case round =>
    obtain ⟨j, D, N, c, hj, rfl, rfl, HO, hN, hb⟩ := hrel
    by_cases hji : j < its.length
    · obtain ⟨b, o, rfl, hcs⟩ := (HM.out.below hb) j its[j] (List.getElem?_eq_getElem hji)
      have hok : its[j].Ok wr := ⟨(HI.out _ (List.getElem_mem hji)).1.keep hb, (HI.out _ (List.getElem_mem hji)).2⟩
      have q0 := hcs 0 _ rfl
      rw [Nat.add_zero] at q0
      have q1 := hcs 1 _ rfl
      have q2 := hcs 2 _ rfl
      have q3 := hcs 3 _ rfl
      have q4 := hcs 4 _ rfl
      have q5 := hcs 5 _ rfl
      have hel := Itm.enc_len hok
      have HJ := Lib.hid (HE.out j hji)
      have HP := Lib.hid (putAny_calls D N c ((its.take j).flatMap Itm.enc) its[j] wr (OwnB.bytes HO.out) HO.out.sl (by omega) hok)
      generalize its[j] = it at hel HP HJ q0 q1 q2 q3 q4 q5
      unfold Itm.val itVal at HP
      clear hok hcs
      have hd1 : decide ((j : Int) < (its.length : Int)) = true := decide_eq_true (by omega)
      have hjz : (j : Int) < (its.length : Int) := by omega
      go_wp2_with fail
      refine HP.out.mono ?_
      rintro e w2 ⟨D1, n1, c1, D2, n2, c2, rfl, o1, o2, b2⟩
      have hn1 := OwnB.bytes o1
      rw [List.length_append, OwnB.bytes HO.out] at hn1
      have HO2 : Hid (OwnB w2 w.heap.size 5 1 D1 n1 c1 (((its.take (j + 1)).flatMap Itm.enc).map B8)) := by
        rw [HJ.out]; exact o1.mono hb.size
      have hb2 := hb.trans (b2.mono hb.size)
      clear q0 q1 q2 q3 q4 q5 o1 o2 b2 HP HO hb
      go_wp2_with fail
      go_roundw
      case rel => exact ⟨j + 1, D1, n1, c1, by omega, by go_num, rfl, HO2, by omega, hb2⟩
      case measure => simp [intOf]; omega
    · obtain rfl : j = its.length := by omega
      rw [List.take_of_length_le (Nat.le_refl _)] at HO
      obtain ⟨i0, hi, hz0, hz1, hz2⟩ := info_parts infoU8
      have hNl := OwnB.bytes HO.out
      have hHL : Hid (∀ j (h : j < its.length), its.flatMap Itm.enc = (its.take j).flatMap Itm.enc ++ (its[j].enc ++ (its.drop (j + 1)).flatMap Itm.enc)) := fun j h => by
        have e3 : its = its.take j ++ its[j] :: its.drop (j + 1) := by rw [← List.drop_eq_getElem_cons h, List.take_append_drop]
        calc its.flatMap Itm.enc = (its.take j ++ its[j] :: its.drop (j + 1)).flatMap Itm.enc := by rw [← e3]
          _ = _ := by rw [List.flatMap_append, List.flatMap_cons]
      have hfull : (its.take its.length).flatMap Itm.enc = its.flatMap Itm.enc := by rw [List.take_of_length_le (Nat.le_refl _)]
      have HFU := Lib.hid hfull
      clear hfull
      have hd1 : decide ((its.length : Int) < (its.length : Int)) = false := decide_eq_false (by omega)
      have hbz := hb.size
      go_wp2_with (at_builtin; refine wpList_append_ownB (o := ⟨some 35, _, _, _, _, _⟩) rfl (.tmp 33) (.tmp 34) 23 23 rfl 5 i0 (.int .u8 0) 1 1 Try.underlying23 hi hz0 hz1 hz2 rfl w.heap.size D N c ((its.flatMap Itm.enc).map B8) rfl HO.out (.slice T ts.length tc) rfl ts.length (ts.map B8) (srcSl Try.underlying23 (by rw [List.length_map]) (HT.out.below hb) (bytes_one _)) (by omega) (by omega) w hb hbz ?_)
      intro w3 D3 c3 HO3 hb3 hsz3
      have hs3 : Sl w3 D3 ((its.flatMap Itm.enc ++ ts).map B8) := by rw [List.map_append]; exact HO3.out.sl
      clear HO3 HO hb hbz hsz3
      go_wp2_with fail
      refine (read_calls D3 (N + ts.length) c3 (its.flatMap Itm.enc ++ ts) w3 (by rw [List.length_append, hNl]) hs3 (by omega)).mono ?_
      rintro e w4 ⟨p, rfl, hp, r4, b4⟩
      have hp' := Nat.le_trans hb3.size hp
      have hb4 := hb3.trans (b4.mono hb3.size)
      clear hs3 b4 hp hb3
      go_wp2_with fail
      go_loopw [9] (fun i wr => ∃ (j : Nat), j ≤ its.length ∧ i = .int .i64 j ∧ Rd wr p (its.flatMap Itm.enc ++ ts) ((its.take j).flatMap Itm.enc).length 0 ∧ Below w.heap.size w wr) (fun i _ => its.length - (intOf i).toNat)
      case atStart => exact ⟨0, Nat.zero_le _, rfl, r4, hb4⟩
      case round =>
        obtain ⟨j, hj, rfl, hr, hb⟩ := hrel
        clear r4 hb4 hd1
        by_cases hji : j < its.length
        · obtain ⟨b, o, rfl, hcs⟩ := (HM.out.below hb) j its[j] (List.getElem?_eq_getElem hji)
          have hokw := HI.out _ (List.getElem_mem hji)
          have hok : its[j].Ok wr := ⟨hokw.1.keep hb, hokw.2⟩
          have q0 := hcs 0 _ rfl
          rw [Nat.add_zero] at q0
          have q1 := hcs 1 _ rfl
          have q2 := hcs 2 _ rfl
          have q3 := hcs 3 _ rfl
          have q4 := hcs 4 _ rfl
          have q5 := hcs 5 _ rfl
          have HJ := Lib.hid (HE.out j hji)
          have hdr : (its.flatMap Itm.enc ++ ts).drop ((its.take j).flatMap Itm.enc).length = its[j].enc ++ ((its.drop (j + 1)).flatMap Itm.enc ++ ts) := by
            rw [hHL.out j hji, List.append_assoc, List.append_assoc, List.drop_left]
          have HB := Lib.hid (backAny_calls p _ _ _ its[j] wr hr hok (by rw [List.length_append, hNl]; omega) (fun b' o' e' h0 => by
            obtain ⟨b2, o2, e2, hc2⟩ := hokw.1.sl.at_ (k := 0) (by simpa using h0)
            rw [e'] at e2
            injection e2 with e2
            injection e2 with e2 _
            have h3 : b2 < w.heap.size := lt_of_cell hc2
            omega) hdr)
          generalize its[j] = it at HB HJ q0 q1 q2 q3 q4 q5
          unfold Itm.val itVal After at HB
          clear hok hcs hokw hdr
          have hd1 : decide ((j : Int) < (its.length : Int)) = true := decide_eq_true (by omega)
          have hjz : (j : Int) < (its.length : Int) := by omega
          go_wp2_with fail
          refine HB.out.mono ?_
          rintro e w5 ⟨rfl, r5, t5⟩
          have hb5 := below_grown hb t5.1 hb.size hp'
          clear q0 q1 q2 q3 q4 q5 HB hr t5 hb
          go_wp2_with fail
          refine (err_calls p _ _ 0 w5 r5).mono ?_
          unfold After
          rintro e w6 ⟨rfl, r6, t6⟩
          have hb6 := below_grown hb5 t6.1 hb5.size hp'
          clear r5 t6 hb5
          go_wp2_with fail
          go_roundw
          case rel => exact ⟨j + 1, by omega, by go_num, by rw [HJ.out, List.length_append]; exact r6, hb6⟩
          case measure => simp [intOf]; omega
        · obtain rfl : j = its.length := by omega
          rw [HFU.out, hNl] at hr
          have hd1 : decide ((its.length : Int) < (its.length : Int)) = false := decide_eq_false (by omega)
          go_wp2_with fail
          refine (at_calls p _ _ 0 wr hr).mono ?_
          unfold After
          rintro e w5 ⟨rfl, r5, t5⟩
          have hb5 := below_grown hb t5.1 hb.size hp'
          clear hr t5 hb
          go_wp2_with fail
          refine (end_calls p _ _ 0 w5 r5).mono ?_
          unfold After
          rintro e w6 ⟨rfl, r6, t6⟩
          have hb6 := below_grown hb5 t6.1 hb5.size hp'
          clear r5 t6 hb5
          by_cases ht0 : ts.length = 0
          · have hE : endE (its.flatMap Itm.enc ++ ts) N 0 = 0 := by unfold endE; rw [if_neg (by rw [List.length_append, hNl]; omega)]
            rw [hE] at r6 ⊢
            have hz : ((ts.length : Int) == 0) = true := beq_iff_eq.2 (by omega)
            go_wp2_with fail
            refine (wireRuns_calls _).mono ?_
            rintro e w7 ⟨rfl, b8⟩
            go_wp2_with fail
            go_ret
            exact ⟨rfl, hb6.trans (b8.mono hb6.size)⟩
          · have hE : endE (its.flatMap Itm.enc ++ ts) N 0 = 5 := by unfold endE; rw [if_pos (by rw [List.length_append, hNl]; omega)]
            rw [hE] at r6 ⊢
            have hz : ((ts.length : Int) == 0) = false := beq_eq_false_iff_ne.2 (by omega)
            go_wp2_with fail
            refine (at_calls p _ _ 5 w6 r6).mono ?_
            unfold After
            rintro e w7 ⟨rfl, r7, t7⟩
            have hb7 := below_grown hb6 t7.1 hb6.size hp'
            clear r6 t7 hb6
            go_wp2_with fail
            refine (wireRuns_calls _).mono ?_
            rintro e w8 ⟨rfl, b8⟩
            go_wp2_with fail
            go_ret
            exact ⟨rfl, hb7.trans (b8.mono hb7.size)⟩

set_option maxHeartbeats 4000000 in
theorem wireBackLong_calls (M T : Option Addr) (mn mc tn tc : Nat) (its : List Itm) (ts : List UInt8) (w : World) (hm : its.length = 100) (hmn : mn ≤ mc) (hmc : mc ≤ 9223372036854775807) (hM : Its w M its) (hit : ∀ i ∈ its, i.Ok w) (ht : ts.length = tn) (hT : Sl w T (ts.map B8)) (htn : tn ≤ 1048576) (h100 : 100 < mn) :
    Calls Try.prog 6 #[.slice M mn mc, .slice T tn tc] w fun e w' => e = .returned (.bool true) ∧ Below w.heap.size w w' := by
  subst ht
  have HM := Lib.hid hM
  have HI := Lib.hid hit
  have HT := Lib.hid hT
  have HLEN := Lib.hid hm
  clear hM hit hT hm
  have hd0 : decide ((100 : Int) < (mn : Int)) = true := decide_eq_true (by omega)
  have hz100 : (100 : Int) ≤ (mc : Int) := by omega
  go_enter Try.func6, Try.ntmps6
  go_wp2_with fail
  rw [← HLEN.out]
  have h100' : its.length ≤ 100 := Nat.le_of_eq HLEN.out
  clear HLEN hd0 hz100
  have HE : Hid (∀ j (h : j < its.length), (its.take (j + 1)).flatMap Itm.enc = (its.take j).flatMap Itm.enc ++ its[j].enc) := fun j h => by
    rw [List.take_succ_eq_append_getElem h, List.flatMap_append, List.flatMap_singleton]
  go_loopw [5, 6] (fun v i wr => ∃ (j : Nat) (D : Option Addr) (N c : Nat), j ≤ its.length ∧ i = .int .i64 j ∧ v = .slice D N c ∧ Hid (OwnB wr w.heap.size 5 1 D N c (((its.take j).flatMap Itm.enc).map B8)) ∧ N ≤ 20000000 * j ∧ Below w.heap.size w wr) (fun _ i _ => its.length - (intOf i).toNat)
  case atStart => exact ⟨0, none, 0, 0, Nat.zero_le _, rfl, rfl, OwnB.nil _ _ _ _, Nat.zero_le _, Below.refl _ _⟩
  case round =>
    obtain ⟨j, D, N, c, hj, rfl, rfl, HO, hN, hb⟩ := hrel
    by_cases hji : j < its.length
    · obtain ⟨b, o, rfl, hcs⟩ := (HM.out.below hb) j its[j] (List.getElem?_eq_getElem hji)
      have hok : its[j].Ok wr := ⟨(HI.out _ (List.getElem_mem hji)).1.keep hb, (HI.out _ (List.getElem_mem hji)).2⟩
      have q0 := hcs 0 _ rfl
      rw [Nat.add_zero] at q0
      have q1 := hcs 1 _ rfl
      have q2 := hcs 2 _ rfl
      have q3 := hcs 3 _ rfl
      have q4 := hcs 4 _ rfl
      have q5 := hcs 5 _ rfl
      have hel := Itm.enc_len hok
      have HJ := Lib.hid (HE.out j hji)
      have HP := Lib.hid (putAny_calls D N c ((its.take j).flatMap Itm.enc) its[j] wr (OwnB.bytes HO.out) HO.out.sl (by omega) hok)
      generalize its[j] = it at hel HP HJ q0 q1 q2 q3 q4 q5
      unfold Itm.val itVal at HP
      clear hok hcs
      have hd1 : decide ((j : Int) < (its.length : Int)) = true := decide_eq_true (by omega)
      have hjz : (j : Int) < (its.length : Int) := by omega
      go_wp2_with fail
      refine HP.out.mono ?_
      rintro e w2 ⟨D1, n1, c1, D2, n2, c2, rfl, o1, o2, b2⟩
      have hn1 := OwnB.bytes o1
      rw [List.length_append, OwnB.bytes HO.out] at hn1
      have HO2 : Hid (OwnB w2 w.heap.size 5 1 D1 n1 c1 (((its.take (j + 1)).flatMap Itm.enc).map B8)) := by
        rw [HJ.out]; exact o1.mono hb.size
      have hb2 := hb.trans (b2.mono hb.size)
      clear q0 q1 q2 q3 q4 q5 o1 o2 b2 HP HO hb
      go_wp2_with fail
      go_roundw
      case rel => exact ⟨j + 1, D1, n1, c1, by omega, by go_num, rfl, HO2, by omega, hb2⟩
      case measure => simp [intOf]; omega
    · obtain rfl : j = its.length := by omega
      rw [List.take_of_length_le (Nat.le_refl _)] at HO
      obtain ⟨i0, hi, hz0, hz1, hz2⟩ := info_parts infoU8
      have hNl := OwnB.bytes HO.out
      have hHL : Hid (∀ j (h : j < its.length), its.flatMap Itm.enc = (its.take j).flatMap Itm.enc ++ (its[j].enc ++ (its.drop (j + 1)).flatMap Itm.enc)) := fun j h => by
        have e3 : its = its.take j ++ its[j] :: its.drop (j + 1) := by rw [← List.drop_eq_getElem_cons h, List.take_append_drop]
        calc its.flatMap Itm.enc = (its.take j ++ its[j] :: its.drop (j + 1)).flatMap Itm.enc := by rw [← e3]
          _ = _ := by rw [List.flatMap_append, List.flatMap_cons]
      have hfull : (its.take its.length).flatMap Itm.enc = its.flatMap Itm.enc := by rw [List.take_of_length_le (Nat.le_refl _)]
      have HFU := Lib.hid hfull
      clear hfull
      have hd1 : decide ((its.length : Int) < (its.length : Int)) = false := decide_eq_false (by omega)
      have hbz := hb.size
      go_wp2_with (at_builtin; refine wpList_append_ownB (o := ⟨some 35, _, _, _, _, _⟩) rfl (.tmp 33) (.tmp 34) 23 23 rfl 5 i0 (.int .u8 0) 1 1 Try.underlying23 hi hz0 hz1 hz2 rfl w.heap.size D N c ((its.flatMap Itm.enc).map B8) rfl HO.out (.slice T ts.length tc) rfl ts.length (ts.map B8) (srcSl Try.underlying23 (by rw [List.length_map]) (HT.out.below hb) (bytes_one _)) (by omega) (by omega) w hb hbz ?_)
      intro w3 D3 c3 HO3 hb3 hsz3
      have hs3 : Sl w3 D3 ((its.flatMap Itm.enc ++ ts).map B8) := by rw [List.map_append]; exact HO3.out.sl
      clear HO3 HO hb hbz hsz3
      go_wp2_with fail
      refine (read_calls D3 (N + ts.length) c3 (its.flatMap Itm.enc ++ ts) w3 (by rw [List.length_append, hNl]) hs3 (by omega)).mono ?_
      rintro e w4 ⟨p, rfl, hp, r4, b4⟩
      have hp' := Nat.le_trans hb3.size hp
      have hb4 := hb3.trans (b4.mono hb3.size)
      clear hs3 b4 hp hb3
      go_wp2_with fail
      go_loopw [9] (fun i wr => ∃ (j : Nat), j ≤ its.length ∧ i = .int .i64 j ∧ Rd wr p (its.flatMap Itm.enc ++ ts) ((its.take j).flatMap Itm.enc).length 0 ∧ Below w.heap.size w wr) (fun i _ => its.length - (intOf i).toNat)
      case atStart => exact ⟨0, Nat.zero_le _, rfl, r4, hb4⟩
      case round =>
        obtain ⟨j, hj, rfl, hr, hb⟩ := hrel
        clear r4 hb4 hd1
        by_cases hji : j < its.length
        · obtain ⟨b, o, rfl, hcs⟩ := (HM.out.below hb) j its[j] (List.getElem?_eq_getElem hji)
          have hokw := HI.out _ (List.getElem_mem hji)
          have hok : its[j].Ok wr := ⟨hokw.1.keep hb, hokw.2⟩
          have q0 := hcs 0 _ rfl
          rw [Nat.add_zero] at q0
          have q1 := hcs 1 _ rfl
          have q2 := hcs 2 _ rfl
          have q3 := hcs 3 _ rfl
          have q4 := hcs 4 _ rfl
          have q5 := hcs 5 _ rfl
          have HJ := Lib.hid (HE.out j hji)
          have hdr : (its.flatMap Itm.enc ++ ts).drop ((its.take j).flatMap Itm.enc).length = its[j].enc ++ ((its.drop (j + 1)).flatMap Itm.enc ++ ts) := by
            rw [hHL.out j hji, List.append_assoc, List.append_assoc, List.drop_left]
          have HB := Lib.hid (backAny_calls p _ _ _ its[j] wr hr hok (by rw [List.length_append, hNl]; omega) (fun b' o' e' h0 => by
            obtain ⟨b2, o2, e2, hc2⟩ := hokw.1.sl.at_ (k := 0) (by simpa using h0)
            rw [e'] at e2
            injection e2 with e2
            injection e2 with e2 _
            have h3 : b2 < w.heap.size := lt_of_cell hc2
            omega) hdr)
          generalize its[j] = it at HB HJ q0 q1 q2 q3 q4 q5
          unfold Itm.val itVal After at HB
          clear hok hcs hokw hdr
          have hd1 : decide ((j : Int) < (its.length : Int)) = true := decide_eq_true (by omega)
          have hjz : (j : Int) < (its.length : Int) := by omega
          go_wp2_with fail
          refine HB.out.mono ?_
          rintro e w5 ⟨rfl, r5, t5⟩
          have hb5 := below_grown hb t5.1 hb.size hp'
          clear q0 q1 q2 q3 q4 q5 HB hr t5 hb
          go_wp2_with fail
          refine (err_calls p _ _ 0 w5 r5).mono ?_
          unfold After
          rintro e w6 ⟨rfl, r6, t6⟩
          have hb6 := below_grown hb5 t6.1 hb5.size hp'
          clear r5 t6 hb5
          go_wp2_with fail
          go_roundw
          case rel => exact ⟨j + 1, by omega, by go_num, by rw [HJ.out, List.length_append]; exact r6, hb6⟩
          case measure => simp [intOf]; omega
        · obtain rfl : j = its.length := by omega
          rw [HFU.out, hNl] at hr
          have hd1 : decide ((its.length : Int) < (its.length : Int)) = false := decide_eq_false (by omega)
          go_wp2_with fail
          refine (at_calls p _ _ 0 wr hr).mono ?_
          unfold After
          rintro e w5 ⟨rfl, r5, t5⟩
          have hb5 := below_grown hb t5.1 hb.size hp'
          clear hr t5 hb
          go_wp2_with fail
          refine (end_calls p _ _ 0 w5 r5).mono ?_
          unfold After
          rintro e w6 ⟨rfl, r6, t6⟩
          have hb6 := below_grown hb5 t6.1 hb5.size hp'
          clear r5 t6 hb5
          by_cases ht0 : ts.length = 0
          · have hE : endE (its.flatMap Itm.enc ++ ts) N 0 = 0 := by unfold endE; rw [if_neg (by rw [List.length_append, hNl]; omega)]
            rw [hE] at r6 ⊢
            have hz : ((ts.length : Int) == 0) = true := beq_iff_eq.2 (by omega)
            go_wp2_with fail
            refine (wireRuns_calls _).mono ?_
            rintro e w7 ⟨rfl, b8⟩
            go_wp2_with fail
            go_ret
            exact ⟨rfl, hb6.trans (b8.mono hb6.size)⟩
          · have hE : endE (its.flatMap Itm.enc ++ ts) N 0 = 5 := by unfold endE; rw [if_pos (by rw [List.length_append, hNl]; omega)]
            rw [hE] at r6 ⊢
            have hz : ((ts.length : Int) == 0) = false := beq_eq_false_iff_ne.2 (by omega)
            go_wp2_with fail
            refine (at_calls p _ _ 5 w6 r6).mono ?_
            unfold After
            rintro e w7 ⟨rfl, r7, t7⟩
            have hb7 := below_grown hb6 t7.1 hb6.size hp'
            clear r6 t7 hb6
            go_wp2_with fail
            refine (wireRuns_calls _).mono ?_
            rintro e w8 ⟨rfl, b8⟩
            go_wp2_with fail
            go_ret
            exact ⟨rfl, hb7.trans (b8.mono hb7.size)⟩

theorem wireBackAll_calls (M T : Option Addr) (mn mc tn tc : Nat) (its : List Itm) (ts : List UInt8) (w : World) (hm : its.length = mn) (hmn : mn ≤ mc) (hmc : mc ≤ 9223372036854775807) (hM : Its w M its) (hit : ∀ i ∈ its, i.Ok w) (ht : ts.length = tn) (hT : Sl w T (ts.map B8)) (htn : tn ≤ 1048576) :
    Calls Try.prog 6 #[.slice M mn mc, .slice T tn tc] w fun e w' => e = .returned (.bool true) ∧ Below w.heap.size w w' := by
  by_cases h : mn ≤ 100
  · exact wireBack_calls M T mn mc tn tc its ts w hm hmn hM hit ht hT htn h
  · refine wireBackLong_calls M T mn mc tn tc (its.take 100) ts w (by rw [List.length_take]; omega) hmn hmc (fun j i hj => hM j i ?_) (fun i hi => hit i (List.mem_of_mem_take hi)) ht hT htn (by omega)
    have hj1 : j < (its.take 100).length := (List.getElem?_eq_some_iff.1 hj).1
    rw [List.length_take] at hj1
    rw [List.getElem?_take, if_pos (by omega)] at hj
    exact hj
end Go.Proofs.Ytjmiejcgahajfaa
