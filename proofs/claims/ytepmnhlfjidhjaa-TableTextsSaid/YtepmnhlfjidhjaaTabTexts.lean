/-
  TableTexts, its walk.
-/
import Derived.Test.YtepmnhlfjidhjaaTabTwo
import Derived.Test.YtepmnhlfjidhjaaTabRises
import Derived.Deep.CutBlock
namespace Go.Proofs.Ytepmnhlfjidhjaa
open Go.RowKit Go.Mem Go.Proofs Go.Law Go.Tab

theorem str_same (x : ByteArray) : (!(x.toList == x.toList)) = false := by simp

set_option maxRecDepth 100000 in
set_option maxHeartbeats 12800000 in
theorem tableTexts_calls (A : Option Addr) (n cap : Nat) (rs : List Ask4) (w : World) (hl : rs.length = n) (hn : n ≤ 9223372036854775807) (hs : RowsAt w A 3 (rs.map Ask4.cells)) (hok : ∀ r ∈ rs, r.ok) :
    Calls Try.prog 12 #[.slice A n cap] w fun e w' => e = .returned (.bool true) ∧ Below w.heap.size w w' := by
  subst hl
  have HS := Lib.hid hs
  have HOK := Lib.hid hok
  clear hs hok
  go_enter Try.func12, Try.ntmps12
  go_wp2_with fail
  refine (newII_calls w).mono ?_
  rintro e w1 ⟨rfl, t1, b1⟩
  have HT1 := Lib.hid t1
  have HB1 := Lib.hid b1
  clear t1 b1
  go_wp2_with fail
  refine (newSS_calls w1).mono ?_
  rintro e w2 ⟨rfl, t2, b2⟩
  have HR : Hid (PP w w2 w.heap.size w1.heap.size [] [] [] []) := (show PP _ _ _ _ _ _ _ _ from ⟨none, none, none, none, HT1.out.below b2, t2.mono HB1.out.size, stepB HB1.out b2⟩)
  have HG : Hid (Good [] []) := (show Good _ _ from ⟨List.Pairwise.nil, (fun _ h => by cases h), (fun _ h => by cases h), rfl⟩)
  clear HT1 HB1 t2 b2
  generalize w1.heap.size = pb at *
  go_upto_block 0 with fail
  go_cut [5, 6, 7, 8, 9, 10, 11] from 23 to 114 (fun _ _ _ _ _ _ _ wx => ∃ (ks vs : List Int), Hid (PP w wx w.heap.size pb ks vs ks vs) ∧ Hid (Good ks vs) ∧ ks.length ≤ 150)
  case first =>
    go_wp2_with fail
    go_loopw [5, 6, 7, 8, 9, 10, 11] (fun s5 _ _ _ _ _ _ wr => ∃ (i : Nat) (ks vs : List Int), i ≤ rs.length ∧ i ≤ 150 ∧ s5 = .int .i64 i ∧ Hid (PP w wr w.heap.size pb ks vs ks vs) ∧ Hid (Good ks vs) ∧ ks.length ≤ i) (fun s _ _ _ _ _ _ _ => 150 - (intOf s).toNat)
    case atStart => exact ⟨0, [], [], Nat.zero_le _, Nat.zero_le _, rfl, HR, HG, Nat.le_refl _⟩
    case round =>
      clear HR HG
      obtain ⟨i, ks, vs, hi, hi2, rfl, HR, HG, hkl⟩ := hrel
      by_cases hin : i < rs.length ∧ i < 150
      · obtain ⟨hlt, h150⟩ := hin
        have hd3 : decide ((i : Int) < 150) = true := decide_eq_true (by omega)
        have i0 : (0 : Int) ≤ (i : Int) := by omega
        have i1 : (i : Int) < (rs.length : Int) := by omega
        have HO := Lib.hid (HOK.out _ (List.getElem_mem hlt))
        obtain ⟨gz, oz, ez, x0, x1, x2⟩ := three HS.out hlt
        subst ez
        have HX0 := Lib.hid x0
        have HX2 := Lib.hid x2
        replace x0 := keepW HR.out.bel x0
        replace x1 := keepW HR.out.bel x1
        clear x2
        generalize rs[i] = r at *
        obtain ⟨ra, rk, rv⟩ := r
        simp only at x0 x1 HX0 HX2
        have HK : Hid (R64 rk) := (show R64 _ from HO.out.2.1)
        have HV : Hid (R64 rv) := (show R64 _ from HO.out.2.2)
        clear HO
        go_wp2_with fail
        refine (text_calls rk HK.out.1 HK.out.2 wr).mono ?_
        rintro e w3 ⟨rfl, b3⟩
        have HP := Lib.hid (HR.out.below b3)
        replace x0 := keepW HP.out.bel HX0.out
        have x2 := keepW HP.out.bel HX2.out
        clear HR b3 x1
        by_cases h1 : ra = 1
        · subst h1
          obtain ⟨b, ks', vs', g1, g2, g3, g4, g5, hA, hB⟩ := set_two w w.heap.size pb ks vs rk rv HG.out.r HG.out.k HG.out.v HK.out HV.out (by omega) HG.out.e
          have HA := Lib.hid hA
          have HB := Lib.hid hB
          have HG2 : Hid (Good ks' vs') := (show Good _ _ from ⟨g1, g2, g3, g5⟩)
          have HTX := Lib.hid (text_calls rv HV.out.1 HV.out.2)
          have P0 := Lib.hid (HP.out.drewN 1)
          have e1 : (b != b) = false := by cases b <;> rfl
          clear hA hB g1 g2 g3 g5 HP HG HK HV HX0
          unfold PEnds at HA HB
          go_wp2_with fail
          go_region_held3 (fun w' => w'.cell? ⟨gz, oz + i * 3 + 2, none⟩ = some (.int .i64 rv)) (first | (with_reducible exact keepW pA.out.bel HX2.out) | (with_reducible exact keepW pB.out.bel HX2.out) | (with_reducible exact keepW pT.out.bel HX2.out) | go_keep) (first | (go_at_call 67; refine (HA.out _ _ _ (by first | with_reducible exact pB.out | with_reducible exact pT.out | exact P0.out)).mono ?_; rintro e wA ⟨rfl, pA⟩; replace pA := Lib.hid pA) | (go_at_call 73; refine (HB.out _ _ _ (by first | with_reducible exact pA.out | with_reducible exact pT.out)).mono ?_; rintro e wB ⟨rfl, pB⟩; replace pB := Lib.hid pB) | (go_at_call 72; refine (HTX.out _).mono ?_; rintro e wT ⟨rfl, bT⟩; (first | (have pT := Lib.hid (pA.out.below bT)) | (have pT := Lib.hid (P0.out.below bT))); clear bT))
          all_goals
            clear HA HB HTX P0 x0 x2 HX2
            go_wp2_with fail
            go_roundw
            case rel => exact ⟨i + 1, ks', vs', by omega, by omega, by go_num, by first | exact pA | exact pB, HG2, by omega⟩
            case measure => simp [intOf]; omega
        have hn1 : (ra == 1) = false := beq_eq_false_iff_ne.2 h1
        by_cases h3 : ra = 3
        · subst h3
          obtain ⟨b, ks', vs', g1, g2, g3, g4, g5, hA, hB⟩ := del_two w w.heap.size pb ks vs rk HG.out.r HG.out.k HG.out.v HK.out (by omega) HG.out.e
          have HA := Lib.hid (hA w3 _ _ HP.out)
          have HB := Lib.hid hB
          have HG2 : Hid (Good ks' vs') := (show Good _ _ from ⟨g1, g2, g3, g5⟩)
          have e1 : (b != b) = false := by cases b <;> rfl
          clear hA hB g1 g2 g3 g5 HP HG HK HV HX0 HX2 x2
          unfold PEnds at HA HB
          go_wp2_with fail
          refine HA.out.mono ?_
          rintro e wA ⟨rfl, pA⟩
          have HB' := Lib.hid (HB.out wA _ _ pA)
          clear HA HB pA
          go_wp2_with fail
          refine HB'.out.mono ?_
          rintro e wB ⟨rfl, pB⟩
          have HPB := Lib.hid pB
          clear HB' pB
          go_wp2_with fail
          go_roundw
          case rel => exact ⟨i + 1, ks', vs', by omega, by omega, by go_num, HPB, HG2, by omega⟩
          case measure => simp [intOf]; omega
        · have hn3 : (ra == 3) = false := beq_eq_false_iff_ne.2 h3
          obtain ⟨j, hat⟩ := At.ex ordI ks HG.out.r rk
          obtain ⟨hLA, hLB⟩ := least_two (w0 := w) (pa := w.heap.size) (pb := pb) HG.out hat HK.out (by omega)
          have HLA := Lib.hid hLA
          have HLB := Lib.hid hLB
          have e3 : ((j : Int) != (j : Int)) = false := by simp
          by_cases hf : ks[j]? = some rk
          · obtain ⟨v0, r0, hA, hB⟩ := get_found (w0 := w) (pa := w.heap.size) (pb := pb) HG.out hat HK.out (by omega) hf
            have HA := Lib.hid (hA w3 HP.out)
            have HB := Lib.hid hB
            have HTX := Lib.hid (text_calls v0 r0.1 r0.2)
            have e4 := str_same (txt v0)
            clear hA hB hLA hLB hat hf r0 HK HV HX0 HX2 x2 h1 h3
            go_wp2_with fail
            refine HA.out.mono ?_
            rintro e wa ⟨rfl, qa, hqa⟩
            have HPa : Hid (PP w wa w.heap.size pb ks vs ks vs) := (show PP _ _ _ _ _ _ _ _ from by rw [hqa]; exact HP.out.drewN _)
            clear HA HP hqa
            go_wp2_with fail
            refine (HB.out _ HPa.out).mono ?_
            rintro e wb ⟨rfl, qb, hqb⟩
            have HPb : Hid (PP w wb w.heap.size pb ks vs ks vs) := (show PP _ _ _ _ _ _ _ _ from by rw [hqb]; exact HPa.out.drewN _)
            clear HB HPa hqb
            go_wp2_with fail
            refine (HTX.out wb).mono ?_
            rintro e wt ⟨rfl, bt⟩
            have HPt := Lib.hid (HPb.out.below bt)
            clear HPb bt HTX
            go_wp2_with fail
            refine (HLA.out _ HPt.out).mono ?_
            rintro e wl ⟨rfl, ql, hql⟩
            have HPl : Hid (PP w wl w.heap.size pb ks vs ks vs) := (show PP _ _ _ _ _ _ _ _ from by rw [hql]; exact HPt.out.drewN _)
            clear HPt hql HLA
            go_wp2_with fail
            refine (HLB.out _ HPl.out).mono ?_
            rintro e wm ⟨rfl, qm, hqm⟩
            have HPm : Hid (PP w wm w.heap.size pb ks vs ks vs) := (show PP _ _ _ _ _ _ _ _ from by rw [hqm]; exact HPl.out.drewN _)
            clear HPl hqm HLB
            go_wp2_with fail
            go_roundw
            case rel => exact ⟨i + 1, ks, vs, by omega, by omega, by go_num, HPm, HG, by omega⟩
            case measure => simp [intOf]; omega
          · obtain ⟨hA, hB⟩ := get_none (w0 := w) (pa := w.heap.size) (pb := pb) HG.out hat HK.out (by omega) hf
            have HA := Lib.hid (hA w3 HP.out)
            have HB := Lib.hid hB
            clear hA hB hLA hLB hat hf HK HV HX0 HX2 x2 h1 h3
            go_wp2_with fail
            refine HA.out.mono ?_
            rintro e wa ⟨rfl, qa, hqa⟩
            have HPa : Hid (PP w wa w.heap.size pb ks vs ks vs) := (show PP _ _ _ _ _ _ _ _ from by rw [hqa]; exact HP.out.drewN _)
            clear HA HP hqa
            go_wp2_with fail
            refine (HB.out _ HPa.out).mono ?_
            rintro e wb ⟨rfl, qb, hqb⟩
            have HPt : Hid (PP w wb w.heap.size pb ks vs ks vs) := (show PP _ _ _ _ _ _ _ _ from by rw [hqb]; exact HPa.out.drewN _)
            clear HB HPa hqb
            go_wp2_with fail
            refine (HLA.out _ HPt.out).mono ?_
            rintro e wl ⟨rfl, ql, hql⟩
            have HPl : Hid (PP w wl w.heap.size pb ks vs ks vs) := (show PP _ _ _ _ _ _ _ _ from by rw [hql]; exact HPt.out.drewN _)
            clear HPt hql HLA
            go_wp2_with fail
            refine (HLB.out _ HPl.out).mono ?_
            rintro e wm ⟨rfl, qm, hqm⟩
            have HPm : Hid (PP w wm w.heap.size pb ks vs ks vs) := (show PP _ _ _ _ _ _ _ _ from by rw [hqm]; exact HPl.out.drewN _)
            clear HPl hqm HLB
            go_wp2_with fail
            go_roundw
            case rel => exact ⟨i + 1, ks, vs, by omega, by omega, by go_num, HPm, HG, by omega⟩
            case measure => simp [intOf]; omega
      · by_cases hlt : i < rs.length
        all_goals
          first
            | (have hd4 : decide ((i : Int) < 150) = false := decide_eq_false (by omega))
            | skip
          clear hin
          go_wp2_with fail
          go_meet
          exact ⟨ks, vs, HR, HG, by omega⟩
  case rest =>
    clear HR HG HS HOK
    obtain ⟨ks, vs, HR, HG, hkl⟩ := hcut
    obtain ⟨DK, DV, EK, EV, hII, hSS, hB⟩ := HR.out
    have HKA := Lib.hid (keysII_calls w.heap.size w.heap.size DK DV ks vs wc hII (by omega))
    have HSS := Lib.hid hSS
    have HB := Lib.hid hB
    unfold KeysEndII at HKA
    clear hII hSS hB HR
    go_wp2_with fail
    refine HKA.out.mono ?_
    rintro e w5 ⟨Dk, ck, rfl, o5, b5⟩
    have HO5 := Lib.hid o5
    have HB5 := Lib.hid (stepB HB.out b5)
    have HKB := Lib.hid (keysSS_calls w.heap.size pb EK EV (ks.map txt) (vs.map txt) w5 (HSS.out.below b5) (by simp; omega))
    unfold KeysEndSS at HKB
    rw [List.length_map] at HKB
    clear o5 b5 HKA HSS HB
    go_wp2_with fail
    refine HKB.out.mono ?_
    rintro e w6 ⟨De, ce, rfl, o6, b6⟩
    have HO6 := Lib.hid o6
    replace HO5 := Lib.hid (HO5.out.below b6)
    have HB6 := Lib.hid (stepB HB5.out b6)
    have e1 : ((ks.length : Int) != (ks.length : Int)) = false := by simp
    clear HKB o6 b6 HB5
    go_wp2_with fail
    go_loopw [14] (fun s14 wq => ∃ (j : Nat), j ≤ ks.length ∧ s14 = .int .i64 j ∧ Below w6.heap.size w6 wq) (fun s _ => ks.length - (intOf s).toNat)
    case atStart => exact ⟨0, Nat.zero_le _, rfl, Below.refl _ _⟩
    case round =>
      obtain ⟨j, hj, rfl, B⟩ := hrel
      by_cases hlt : j < ks.length
      · obtain ⟨gk, ok, rfl, kc⟩ := HO5.out.sl.at_ (k := j) (by simpa using hlt)
        obtain ⟨ge, oe, rfl, ec⟩ := HO6.out.sl.at_ (k := j) (by simpa using hlt)
        rw [List.getElem_map] at kc
        rw [List.getElem_map, List.getElem_map] at ec
        have HK : Hid (R64 ks[j]) := (show R64 _ from HG.out.k _ (List.getElem_mem hlt))
        have j0 : (0 : Int) ≤ (j : Int) := by omega
        have j1 : (j : Int) < (ks.length : Int) := by omega
        generalize ks[j] = k at *
        have HKC := Lib.hid kc
        have HEC := Lib.hid ec
        replace kc := keepW B kc
        replace ec := keepW B ec
        have HTX := Lib.hid (text_calls k HK.out.1 HK.out.2)
        have e4 := str_same (txt k)
        clear HK
        go_wp2_with fail
        go_region_held3 (fun w' => w'.cell? ⟨gk, ok + j, none⟩ = some (.int .i64 k) ∧ w'.cell? ⟨ge, oe + j, none⟩ = some (.string (txt k))) (first | (with_reducible exact ⟨keepW bT HKC.out, keepW bT HEC.out⟩) | go_keep) (first | (go_at_call 72; refine (HTX.out _).mono ?_; rintro e wT ⟨rfl, bT0⟩; have bT : Below w6.heap.size w6 wT := stepB B.drew bT0; clear bT0))
        all_goals
          clear HTX HKC HEC kc ec B
          go_wp2_with fail
          go_roundw
          case rel => exact ⟨j + 1, by omega, by go_num, bT⟩
          case measure => simp [intOf]; omega
      · have B7 := stepB HB6.out B
        clear B HB6 HO5 HO6 HG
        go_wp2_with fail
        refine (tableRuns_calls wr).mono ?_
        rintro e w10 ⟨rfl, b10⟩
        have B10 := stepB B7 b10
        go_wp2_with fail
        go_ret
        exact ⟨rfl, B10⟩
end Go.Proofs.Ytepmnhlfjidhjaa
