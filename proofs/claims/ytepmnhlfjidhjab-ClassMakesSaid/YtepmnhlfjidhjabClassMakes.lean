/-
  ClassMakes, its walk.
-/
import Derived.Test.YtepmnhlfjidhjabClassRef3
namespace Go.Proofs.Ytepmnhlfjidhjab
open Go.RowKit Go.Mem

set_option maxRecDepth 100000 in
set_option maxHeartbeats 6400000 in
theorem classMakes_calls (A : Option Addr) (n c : Nat) (l : List (Int × Int)) (w : World) (hl : l.length = n) (hn : n ≤ c) (hi : In32 l) (hs : Sl w A (flatR l)) :
    Calls Try.prog 7 #[.slice A n c] w fun e w' => e = .returned (.bool true) ∧ Below w.heap.size w w' := by
  obtain ⟨x, p, hp, hp40, hxl, hxi, hxs⟩ := few_part hl hi hs
  have HF := Lib.hid (few_ok A n c p w hn hp)
  have HXI := Lib.hid hxi
  have HXL := Lib.hid hxl
  have HXS := Lib.hid hxs
  have HR := Lib.hid (roomyR_calls A p c x 7 5 w hxl (by omega) hxs)
  unfold RoomEnds at HR
  rw [hxl] at HR
  clear hl hi hs hp hxi hxl hxs
  go_enter Try.func7, Try.ntmps7
  go_wp2_with fail
  refine HF.out.mono ?_
  rintro e w0 ⟨rfl, rfl⟩
  go_wp2_with fail
  refine HR.out.mono ?_
  rintro e w1 ⟨rfl, hB1, hfull⟩
  have HFull := Lib.hid hfull
  have HB1 := Lib.hid hB1
  have hfl := hfull.lt
  have HOwn : Hid (Sl w1 (some ⟨w0.heap.size + 1, 0, none⟩) (flatR x)) := (show Sl _ _ _ from by
    have h := hfull.sl.take (x.length * 2)
    unfold rowM at h
    rw [flatR_app, List.take_append_of_le_length (by rw [flatR_length]; exact Nat.le_refl _), List.take_of_length_le (by rw [flatR_length]; exact Nat.le_refl _)] at h
    exact h)
  have HX1 := Lib.hid (HXS.out.below hB1)
  clear hfull hB1 HF HR
  generalize w0.heap.size + 1 = gf at *
  have HMk := Lib.hid (make_ok x (some ⟨gf, 0, none⟩) p (p + 80) w1 HXL.out (by omega) HXI.out HOwn.out)
  unfold RangesEnd at HMk
  have p0 : (0 : Int) ≤ (p : Int) := by omega
  have p1 : p ≤ p + 80 := by omega
  go_wp2_with fail
  refine HMk.out.mono ?_
  rintro e w2 ⟨D, ca, rfl, ho, hB2⟩
  have hml := Cls.mkR_len x
  have hnl := Cls.nt_len x
  rw [HXL.out] at hml hnl
  have HX2 := Lib.hid ((HXS.out.below HB1.out).below hB2)
  have HOwn2 := Lib.hid (HOwn.out.below hB2)
  have HFull2 := Lib.hid (HFull.out.below hB2 hfl)
  have HO := Lib.hid ho
  have HB2 := Lib.hid hB2
  have HNt := Lib.hid (not_ok x (some ⟨gf, 0, none⟩) p (p + 80) w2 HXL.out (by omega) HXI.out HOwn2.out)
  unfold RangesEnd at HNt
  clear hB2 ho HMk HOwn
  go_wp2_with fail
  refine HNt.out.mono ?_
  rintro e w3 ⟨E, ce, rfl, ho3, hB3⟩
  have HX3 := Lib.hid (HX2.out.below hB3)
  have HOwn3 := Lib.hid (HOwn2.out.below hB3)
  have HFull3 := Lib.hid (HFull2.out.below hB3 (Nat.lt_of_lt_of_le hfl HB2.out.size))
  have HO3 := Lib.hid (HO.out.below hB3)
  have HE3 := Lib.hid ho3.sl
  have HB3 : Hid (Below w1.heap.size w1 w3) := (show Below _ _ _ from HB2.out.trans (hB3.mono HB2.out.size))
  clear hB3 ho3 HNt HX2 HOwn2 HFull2 HO HB2
  -- what all six calls leave
  have HRM := Lib.hid (fun W (hW : Below w3.heap.size w3 W) => refMake_calls A p c x W HXL.out (by omega) (HX3.out.below hW) HXI.out)
  have HRN := Lib.hid (fun W (hW : Below w3.heap.size w3 W) => refNot_calls A p c x W HXL.out (by omega) (HX3.out.below hW) HXI.out)
  have HRR := Lib.hid (fun W (hW : Below w3.heap.size w3 W) => refRight_calls A p c x W HXL.out (by omega) (HX3.out.below hW) HXI.out)
  have HCR := Lib.hid (fun W (hW : Below w3.heap.size w3 W) => right_says (c := p + 80) HXL.out (by omega) HXI.out (HOwn3.out.below hW))
  have HCA := Lib.hid (fun W (hW : Below w3.heap.size w3 W) => right_says (c := ca) (n := (Cls.mkR x).length) (w := W) rfl (by omega) (mk_in x) (HO3.out.sl.below hW))
  have HCE := Lib.hid (fun W (hW : Below w3.heap.size w3 W) => right_says (c := ce) (n := (Cls.nt x).length) (w := W) rfl (by omega) (nt_in x) (HE3.out.below hW))
  have r1 := (Cls.made_mk x).right
  have r2 := (Cls.nt_made x).right
  rw [r1] at HCA
  rw [r2] at HCE
  unfold AnsEnd RangesEnd at HRM HRN
  unfold Says at HRR HCR HCA HCE
  have a1 : Cls.ans true x = Cls.mkR x := rfl
  have a2 : Cls.ans false x = Cls.nt x := rfl
  rw [a1] at HRM
  rw [a2] at HRN
  clear r1 r2 a1 a2
  have HS1 := Lib.hid (fun W D2 c2 (h1 : Sl W D (flatR (Cls.mkR x))) (h2 : Sl W D2 (flatR (Cls.mkR x))) => same_says (A := D) (B := D2) (c1 := ca) (c2 := c2) (w := W) (n := (Cls.mkR x).length) (m := (Cls.mkR x).length) rfl rfl rfl (by omega) h1 h2)
  have HS2 := Lib.hid (fun W D2 c2 (h1 : Sl W E (flatR (Cls.nt x))) (h2 : Sl W D2 (flatR (Cls.nt x))) => same_says (A := E) (B := D2) (c1 := ce) (c2 := c2) (w := W) (n := (Cls.nt x).length) (m := (Cls.nt x).length) rfl rfl rfl (by omega) h1 h2)
  unfold Says at HS1 HS2
  generalize Cls.mkR x = mk at *
  generalize Cls.nt x = nt at *
  generalize Cls.rightZ 0 x = rz at *
  generalize hm1 : mk.length = lm at *
  generalize hm2 : nt.length = ln at *
  have HM1 := Lib.hid hm1
  clear hm1 hm2
  have e1 : (rz != rz) = false := by cases rz <;> rfl
  go_wp2_with fail
  refine (HRM.out w3 (Below.refl _ _)).mono ?_
  rintro e w4 ⟨D4, c4, rfl, ho4, hB4⟩
  have HH := Lib.hid (HS1.out w4 D4 c4 (HO3.out.sl.below hB4) ho4.sl)
  have B4 := Lib.hid hB4
  clear HRM HS1 ho4 hB4
  go_wp2_with fail
  refine HH.out.mono ?_
  rintro e w5 ⟨rfl, hB5⟩
  have B5 := Lib.hid (B4.out.trans (hB5.mono B4.out.size))
  clear HH B4 hB5
  go_wp2_with fail
  refine (HRN.out w5 B5.out).mono ?_
  rintro e w6 ⟨D6, c6, rfl, ho6, hB6⟩
  have B6 := Lib.hid (B5.out.trans (hB6.mono B5.out.size))
  have HH := Lib.hid (HS2.out w6 D6 c6 (HE3.out.below B6.out) ho6.sl)
  clear HRN HS2 ho6 hB6 B5
  go_wp2_with fail
  refine HH.out.mono ?_
  rintro e w7 ⟨rfl, hB7⟩
  have B7 := Lib.hid (B6.out.trans (hB7.mono B6.out.size))
  clear HH B6 hB7
  go_wp2_with fail
  refine (HCR.out w7 B7.out).mono ?_
  rintro e w8 ⟨rfl, hB8⟩
  have B8' := Lib.hid (B7.out.trans (hB8.mono B7.out.size))
  clear HCR B7 hB8
  go_wp2_with fail
  refine (HRR.out w8 B8'.out).mono ?_
  rintro e w9 ⟨rfl, hB9⟩
  have B9 := Lib.hid (B8'.out.trans (hB9.mono B8'.out.size))
  clear HRR B8' hB9
  go_wp2_with fail
  refine (HCA.out w9 B9.out).mono ?_
  rintro e wa ⟨rfl, hBa⟩
  have Ba := Lib.hid (B9.out.trans (hBa.mono B9.out.size))
  clear HCA B9 hBa
  go_wp2_with fail
  refine (HCE.out wa Ba.out).mono ?_
  rintro e wb ⟨rfl, hBb⟩
  have Bb := Lib.hid (Ba.out.trans (hBb.mono Ba.out.size))
  clear HCE Ba hBb
  have HOb : Hid (∃ k : List (Int × Int), k.length = lm ∧ OwnB wb w1.heap.size 61 2 D lm ca (flatR k)) := (show ∃ _, _ from ⟨mk, HM1.out, HO3.out.below Bb.out⟩)
  have BB : Hid (Below w1.heap.size w1 wb) := (show Below _ _ _ from HB3.out.trans (Bb.out.mono HB3.out.size))
  clear HO3 HB3 Bb HE3
  have hm1 : -2147483648 ≤ (-1 : Int) := by decide
  clear HX3 HOwn3 HFull3 HM1 e1 hnl
  go_wp2_with fail
  go_loopw [7] (fun i wr => ∃ (k : Nat), k ≤ lm ∧ i = .int .i64 k ∧ Hid (∃ r : List (Int × Int), r.length = lm ∧ OwnB wr w1.heap.size 61 2 D lm ca (flatR r)) ∧ Below w1.heap.size w1 wr) (fun i _ => lm - (intOf i).toNat)
  case atStart => exact ⟨0, Nat.zero_le _, rfl, HOb, BB.out⟩
  case round =>
    clear HOb BB
    obtain ⟨k, hk, rfl, HR, hB⟩ := hrel
    by_cases hlt : k < lm
    · obtain ⟨r, hr, ho⟩ := HR.out
      have hle := ho.le
      obtain ⟨g, sp, rfl, hg, hbk, hc⟩ := ho.2.2.resolve_left (fun h => by omega)
      have hat := flatR_at r k _ (List.getElem?_eq_getElem (by omega))
      have c0 := hbk.cell (k * 2)
      have c1 := hbk.cell (k * 2 + 1)
      rw [List.getElem?_append_left (by rw [flatR_length]; omega), hat.1] at c0
      rw [List.getElem?_append_left (by rw [flatR_length]; omega), hat.2] at c1
      have f0 := hbk.frozen (k * 2)
      have f1 := hbk.frozen (k * 2 + 1)
      have HS : Hid (∃ r : List (Int × Int), r.length = lm ∧ OwnB ((wr.setCell ⟨g, k * 2, none⟩ (.int .i32 (-1))).setCell ⟨g, k * 2 + 1, none⟩ (.int .i32 (-1))) w1.heap.size 61 2 (some ⟨g, 0, none⟩) lm ca (flatR r)) := (show ∃ _, _ from by
        refine ⟨r.set k (-1, -1), by rw [List.length_set]; exact hr, ?_, hle, .inr ⟨g, sp, rfl, hg, ?_, hc⟩⟩
        · rw [flatR_length, List.length_set, hr]
        · have h := (hbk.set_ (k * 2) (.int .i32 (-1))).set_ (k * 2 + 1) (.int .i32 (-1))
          rw [List.set_append_left _ _ (by rw [flatR_length]; omega), List.set_append_left _ _ (by rw [List.length_set, flatR_length]; omega), flatR_setAt] at h
          exact h)
      have hB9 : Below w1.heap.size w1 ((wr.setCell ⟨g, k * 2, none⟩ (.int .i32 (-1))).setCell ⟨g, k * 2 + 1, none⟩ (.int .i32 (-1))) := (hB.setCell hg _).setCell hg _
      generalize r[k]'(by omega) = z at *
      clear hat hbk ho hc hr HR hB
      go_wp2_with fail
      go_roundw
      case rel => exact ⟨k + 1, by omega, by go_num, HS, hB9⟩
      case measure => simp [intOf]; omega
    · have HI := Lib.hid (intactR_calls (some ⟨gf, 0, none⟩) A p (p + 80) (p + 80) c x 7 5 wr HXL.out rfl (by omega) (HFull.out.below hB hfl).sl (HX1.out.below hB) (Nat.le_refl _))
      unfold IntactSays at HI
      have BB := Lib.hid (HB1.out.trans (hB.mono HB1.out.size))
      clear HR HFull HX1 HB1 hB
      go_wp2_with fail
      refine HI.out.mono ?_
      rintro e w5 ⟨rfl, hB5⟩
      have B5 := Lib.hid (BB.out.trans (hB5.mono BB.out.size))
      have HRn := Lib.hid (runs_says w5)
      unfold Says at HRn
      clear HI BB hB5
      go_wp2_with fail
      refine HRn.out.mono ?_
      rintro e w6 ⟨rfl, hB6⟩
      have B6 := B5.out.trans (hB6.mono B5.out.size)
      go_wp2_with fail
      go_ret
      exact ⟨rfl, B6⟩
end Go.Proofs.Ytepmnhlfjidhjab
