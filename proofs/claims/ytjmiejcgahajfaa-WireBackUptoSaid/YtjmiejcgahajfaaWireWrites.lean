/-
  WireWrites: any things written behind any bytes, which stay.
-/
import Derived.Test.YtjmiejcgahajfaaWireRuns
import Derived.Test.YtjmiejcgahajfaaWirePutAny
import Derived.Test.YtjmiejcgahajfaaIntactB
import Derived.Deep.RegionWith
namespace Go.Proofs.Ytjmiejcgahajfaa
open Go.RowKit Go.Mem

/-- items as they lie in memory -/
def Its (w : World) (M : Option Addr) (its : List Itm) : Prop := ∀ (j : Nat) (i : Itm), its[j]? = some i → ∃ b o, M = some ⟨b, o, none⟩ ∧ ∀ (q : Nat) (v : Value), i.cells[q]? = some v → w.cell? ⟨b, o + j * 6 + q, none⟩ = some v
theorem Its.below {w w' : World} {M : Option Addr} {its : List Itm} (h : Its w M its) (hb : Below w.heap.size w w') : Its w' M its := by
  intro j i hi
  obtain ⟨b, o, hM, hc⟩ := h j i hi
  exact ⟨b, o, hM, fun q v hv => (hb.cell (p := ⟨b, o + j * 6 + q, none⟩) (lt_of_cell (hc q v hv))).trans (hc q v hv)⟩

set_option maxHeartbeats 4000000 in
theorem wireWrites_calls (A : Option Addr) (n c : Nat) (bs : List UInt8) (M : Option Addr) (mn mc : Nat) (its : List Itm) (w : World) (hl : bs.length = n) (hn : n ≤ 1048576) (hs : Sl w A (bs.map B8)) (hm : its.length = mn) (hmn : mn ≤ mc) (hM : Its w M its) (hit : ∀ i ∈ its, i.Ok w) :
    Calls Try.prog 4 #[.slice A n c, .slice M mn mc] w fun e w' => e = .returned (.bool true) ∧ Below w.heap.size w w' := by
  subst hl hm
  have HR := Lib.hid (roomyB_calls A bs.length c bs 91 w rfl (by omega) hs)
  go_enter Try.func4, Try.ntmps4
  go_wp2_with fail
  refine HR.out.mono ?_
  rintro e w1 ⟨rfl, b1, k1⟩
  have hF := k1.sl
  have hlt1 := k1.lt
  have HS := Lib.hid (hs.below b1)
  have HM := Lib.hid (hM.below b1)
  have HI : Hid (∀ i ∈ its, i.Ok w1) := fun i h => ⟨(hit i h).1.keep b1, (hit i h).2⟩
  have HF := Lib.hid hF
  clear hs hM hit HR k1 hF
  go_wp2_with fail
  go_loopw [6] (fun i wr => ∃ (j : Nat), j ≤ its.length ∧ j ≤ 100 ∧ i = .int .i64 j ∧ Below w1.heap.size w1 wr) (fun i _ => 101 - (intOf i).toNat)
  case atStart => exact ⟨0, Nat.zero_le _, Nat.zero_le _, rfl, Below.refl _ _⟩
  case round =>
    obtain ⟨j, hj, hj100, rfl, hb⟩ := hrel
    by_cases hgo : j < its.length ∧ j < 100
    · obtain ⟨hji, hj1⟩ := hgo
      obtain ⟨b, o, rfl, hcs⟩ := (HM.out.below hb) j its[j] (List.getElem?_eq_getElem hji)
      have hok : its[j].Ok wr := ⟨(HI.out _ (List.getElem_mem hji)).1.keep hb, (HI.out _ (List.getElem_mem hji)).2⟩
      have q0 := hcs 0 _ rfl
      rw [Nat.add_zero] at q0
      have q1 := hcs 1 _ rfl
      have q2 := hcs 2 _ rfl
      have q3 := hcs 3 _ rfl
      have q4 := hcs 4 _ rfl
      have q5 := hcs 5 _ rfl
      have hsF : Sl wr (some ⟨w.heap.size, 0, none⟩) (bs.map B8) := by
        have h := (HF.out.below hb).take bs.length
        unfold rowB at h
        rw [List.take_append_of_le_length (by simp), List.take_of_length_le (by simp)] at h
        exact h
      have HP := Lib.hid (fun W (q : Q wr W) => putAny_calls (some ⟨w.heap.size, 0, none⟩) bs.length (bs.length + 80) bs its[j] W rfl (hsF.q q) (by omega) ⟨hok.1.keep (q.below _), hok.2⟩)
      have hel := Itm.enc_len hok
      generalize its[j] = it at hel HP q0 q1 q2 q3 q4 q5
      unfold Itm.val itVal at HP
      clear hok hcs hsF
      have hd1 : decide ((j : Int) < (its.length : Int)) = true := decide_eq_true (by omega)
      have hd2 : decide ((j : Int) < 100) = true := decide_eq_true (by omega)
      have hjz : (j : Int) < (its.length : Int) := by omega
      go_wp2_with fail
      have hbs := hb.size
      go_region_with (
        (refine (HP.out _ (show Q wr wr.drew from ⟨rfl, rfl, rfl, rfl⟩)).mono ?_
         rintro e w2 ⟨D1, n1, c1, D2, n2, c2, rfl, o1, o2, b2⟩
         have hb2 := (below_drewN hb 1).trans (b2.mono hb.size)))
      all_goals clear q0 q1 q2 q3 q4 q5
      all_goals have HO1 := Lib.hid o1
      all_goals have HO2 := Lib.hid o2
      all_goals have hn1 := OwnB.bytes o1
      all_goals have hn2 := OwnB.bytes o2
      all_goals clear o1 o2 HP hb
      all_goals
        have hll : (bs ++ it.enc).length ≤ 9223372036854775807 := by rw [List.length_append]; omega
        clear hel
        generalize bs ++ it.enc = l at hn1 hn2 HO1 HO2 hll
        subst hn1
        subst hn2
        have hbz : w1.heap.size ≤ wr.heap.size := by assumption
        go_wp2_with fail
        refine (sameB_self D1 D2 l.length c1 c2 l w2 rfl hll HO1.out.sl HO2.out.sl).mono ?_
        rintro e w3 ⟨rfl, q3⟩
        have HO3 : Hid (OwnB w3 w1.heap.size 5 1 D1 l.length c1 (l.map B8)) := (HO1.out.mono hbz).below (q3.below _)
        have hb3 := hb2.trans (q3.below _)
        clear HO1 HO2 q3 hb2
        go_wp2_with fail
        go_loopw [9] (fun k wr2 => ∃ (q : Nat) (ys : List UInt8), q ≤ l.length ∧ k = .int .i64 q ∧ Hid (OwnB wr2 w1.heap.size 5 1 D1 l.length c1 (ys.map B8)) ∧ Hid (ys.length = l.length) ∧ Below w1.heap.size w1 wr2) (fun k _ => l.length - (intOf k).toNat)
        case atStart => exact ⟨0, l, Nat.zero_le _, rfl, HO3, rfl, hb3⟩
        case round =>
          obtain ⟨q, ys, hq, rfl, HO, HL, hbb⟩ := hrel
          clear HO3 hb3
          by_cases hql : q < l.length
          · have hqy : q < ys.length := by have := HL.out; omega
            have ho : OwnB wr w1.heap.size 5 1 D1 l.length c1 (ys.map B8) := HO.out
            obtain ⟨g, rfl, hg, hcell⟩ := OwnB.shape ho (by rw [List.length_map]; omega)
            obtain ⟨hcq, hfq⟩ := hcell q (by rw [List.length_map]; exact hqy)
            clear hcell
            rw [List.getElem?_map, List.getElem?_eq_getElem hqy] at hcq
            have hy := ys[q].toNat_lt
            have HV : Hid ((ys.set q (UInt8.ofNat (255 - ys[q].toNat))).map B8 = (ys.map B8).set q (.int .u8 (255 - (ys[q].toNat : Int)))) := by
              show _ = _
              rw [List.map_set]
              congr 1
              unfold B8
              congr 1
              rw [UInt8.toNat_ofNat']
              omega
            have HO2 : Hid (OwnB (wr.setCell ⟨g, q, none⟩ (.int .u8 (255 - (ys[q].toNat : Int)))) w1.heap.size 5 1 (some ⟨g, 0, none⟩) l.length c1 ((ys.map B8).set q (.int .u8 (255 - (ys[q].toNat : Int))))) := OwnB.setByte ho q (by rw [List.length_map]; exact hqy) _
            have hB2 := below_grown hbb (grown_setCell wr g q (.int .u8 (255 - (ys[q].toNat : Int))) 0) hbb.size hg
            rw [← HV.out] at HO2
            generalize ys.set q (UInt8.ofNat (255 - ys[q].toNat)) = ys2 at HO2 HV
            have HL2 : Hid (ys2.length = l.length) := by
              have h := congrArg List.length HV.out
              simp only [List.length_map, List.length_set] at h
              exact h.trans HL.out
            generalize hyq : ys[q].toNat = y at hcq hy HO2 HV hB2
            unfold B8 at hcq
            simp only [Option.map_some, hyq] at hcq
            clear HV HO HL hbb ho hyq
            have hwy : IntKind.u8.wrap (255 - (y : Int)) = 255 - (y : Int) := IntWalk.u8_in _ (by omega)
            go_wp2_with fail
            go_roundw
            case rel => exact ⟨q + 1, ys2, by omega, by go_num, HO2, HL2, hB2⟩
            case measure => simp [intOf]; omega
          · go_wp2_with fail
            go_roundw
            case rel => exact ⟨j + 1, by omega, by omega, by go_num, hbb⟩
            case measure => simp [intOf]; omega
    · by_cases h1 : j < its.length
      · have hd1 : decide ((j : Int) < (its.length : Int)) = true := decide_eq_true (by omega)
        have hd2 : decide ((j : Int) < 100) = false := decide_eq_false (by omega)
        go_wp2_with fail
        refine (toQ (intactB_calls (some ⟨w.heap.size, 0, none⟩) A bs.length (bs.length + 80) (bs.length + 80) c bs 91 wr rfl rfl (by omega) (HF.out.below hb) (HS.out.below hb) (Nat.le_refl _))).mono ?_
        rintro e w5 ⟨rfl, q5⟩
        have hb5 := (b1.trans (hb.mono b1.size)).trans (q5.below _)
        clear q5 hb
        go_wp2_with fail
        refine (wireRuns_calls _).mono ?_
        rintro e w6 ⟨rfl, b6⟩
        go_wp2_with fail
        go_ret
        exact ⟨rfl, hb5.trans (b6.mono hb5.size)⟩
      · have hd1 : decide ((j : Int) < (its.length : Int)) = false := decide_eq_false (by omega)
        go_wp2_with fail
        refine (toQ (intactB_calls (some ⟨w.heap.size, 0, none⟩) A bs.length (bs.length + 80) (bs.length + 80) c bs 91 wr rfl rfl (by omega) (HF.out.below hb) (HS.out.below hb) (Nat.le_refl _))).mono ?_
        rintro e w5 ⟨rfl, q5⟩
        have hb5 := (b1.trans (hb.mono b1.size)).trans (q5.below _)
        clear q5 hb
        go_wp2_with fail
        refine (wireRuns_calls _).mono ?_
        rintro e w6 ⟨rfl, b6⟩
        go_wp2_with fail
        go_ret
        exact ⟨rfl, hb5.trans (b6.mono hb5.size)⟩
end Go.Proofs.Ytjmiejcgahajfaa
