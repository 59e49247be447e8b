/-
  ClassRises, its walk.
-/
import Derived.Test.YtepmnhlfjidhjabClassFewM
import Derived.Test.YtepmnhlfjidhjabApp3
namespace Go.Proofs.Ytepmnhlfjidhjab
open Go.RowKit Go.Mem

set_option maxRecDepth 100000 in
set_option maxHeartbeats 3200000 in
theorem classRises_calls (A E : Option Addr) (n1 n2 k1 k2 : Nat) (la lb : List (Int × Int)) (w : World) (hl : la.length = n1) (hn : n1 ≤ k1) (hi : In32 la) (hs : Sl w A (flatR la)) (hl2 : lb.length = n2) (hn2 : n2 ≤ k2) (hi2 : In32 lb) (hs2 : Sl w E (flatR lb)) :
    Calls Try.prog 9 #[.slice A n1 k1, .slice E n2 k2] w fun e w' => e = .returned (.bool true) ∧ Below w.heap.size w w' := by
  obtain ⟨ir, hir, hzr0, hzr1, hzr2⟩ := info_parts infoR
  obtain ⟨a, p, hp, hp40, hal, hai, has⟩ := few_part hl hi hs
  obtain ⟨b, q, hq, hq40, hbl, hbi, hbs⟩ := few_part hl2 hi2 hs2
  have HF := Lib.hid (few_ok A n1 k1 p w hn hp)
  have HF2 := Lib.hid (few_ok E n2 k2 q w hn2 hq)
  have HAI := Lib.hid hai
  have HAL := Lib.hid hal
  have HAS := Lib.hid has
  have HBI := Lib.hid hbi
  have HBL := Lib.hid hbl
  have HBS := Lib.hid hbs
  clear hl hi hs hp hai hal has hl2 hi2 hs2 hq hbl hbi hbs
  go_enter Try.func9, Try.ntmps9
  go_wp2_with fail
  refine HF.out.mono ?_
  rintro e w0 ⟨rfl, rfl⟩
  go_wp2_with fail
  refine HF2.out.mono ?_
  rintro e w0' ⟨rfl, rfl⟩
  have HM := Lib.hid (make_tells (c := k1) HAL.out (by omega) HAI.out HAS.out)
  have hml := Cls.mkR_len a
  have hnl := Cls.nt_len a
  have hnb := Cls.nt_len b
  have hcl := Cls.bt_len a b
  have hcl2 := Cls.bt_len b a
  rw [HAL.out] at hml hnl hcl hcl2
  rw [HBL.out] at hnb hcl hcl2
  unfold Tells at HM
  -- what is known of the lists
  have HMU := Lib.hid (Cls.mk_up a)
  have HNU := Lib.hid (Cls.nt_up a)
  have HCU : Hid (Cls.Up 0 (Cls.bt a b)) := (show Cls.Up _ _ from Cls.nt_up _)
  have HMO : Hid (∀ g ∈ Cls.mkR a, Cls.okR g = true) := (show ∀ g ∈ _, _ from fun g hg => (Cls.made_mk a).ok hg)
  have HNO : Hid (∀ g ∈ Cls.nt a, Cls.okR g = true) := (show ∀ g ∈ _, _ from fun g hg => (Cls.nt_made a).ok hg)
  have HCO : Hid (∀ g ∈ Cls.bt a b, Cls.okR g = true) := (show ∀ g ∈ _, _ from fun g hg => (Cls.nt_made _).ok hg)
  have HMI := Lib.hid (mk_in a)
  have HNI := Lib.hid (nt_in a)
  have HNBI := Lib.hid (nt_in b)
  have HCI := Lib.hid (bt_in a b)
  have HMM := Lib.hid (Cls.mk_mk a)
  have HNN := Lib.hid (Cls.nt_nt a)
  have HBC := Lib.hid (Cls.bt_comm a b)
  have HBT : Hid (Cls.nt (Cls.nt a ++ Cls.nt b) = Cls.bt a b) := (show _ = _ from rfl)
  have HN0 : Hid (∀ W : World, Below w0'.heap.size w0' W → Calls Try.prog 32 #[.slice A p k1] W (Tells (Cls.nt a) W)) := (show ∀ W : World, _ from fun W hW => not_tells HAL.out (by omega) HAI.out (HAS.out.below hW))
  have HN1 : Hid (∀ W : World, Below w0'.heap.size w0' W → Calls Try.prog 32 #[.slice E q k2] W (Tells (Cls.nt b) W)) := (show ∀ W : World, _ from fun W hW => not_tells HBL.out (by omega) HBI.out (HBS.out.below hW))
  have HB0 : Hid (∀ W : World, Below w0'.heap.size w0' W → Calls Try.prog 33 #[.slice A p k1, .slice E q k2] W (Tells (Cls.bt a b) W)) := (show ∀ W : World, _ from fun W hW => both_tells HAL.out (by omega) HAI.out (HAS.out.below hW) HBL.out (by omega) HBI.out (HBS.out.below hW))
  have HB1 : Hid (∀ W : World, Below w0'.heap.size w0' W → Calls Try.prog 33 #[.slice E q k2, .slice A p k1] W (Tells (Cls.bt b a) W)) := (show ∀ W : World, _ from fun W hW => both_tells HBL.out (by omega) HBI.out (HBS.out.below hW) HAL.out (by omega) HAI.out (HAS.out.below hW))
  unfold Tells at HN0 HN1 HB0 HB1
  generalize Cls.mkR a = m at *
  generalize Cls.nt a = t at *
  generalize Cls.nt b = u at *
  generalize Cls.bt a b = x at *
  generalize Cls.bt b a = y at *
  obtain ⟨ml, hmlen⟩ : ∃ k, m.length = k := ⟨_, rfl⟩
  obtain ⟨tl, htlen⟩ : ∃ k, t.length = k := ⟨_, rfl⟩
  obtain ⟨ul, hulen⟩ : ∃ k, u.length = k := ⟨_, rfl⟩
  obtain ⟨xl, hxlen⟩ : ∃ k, x.length = k := ⟨_, rfl⟩
  obtain ⟨yl, hylen⟩ : ∃ k, y.length = k := ⟨_, rfl⟩
  rw [hmlen] at hml HM
  rw [htlen] at hnl HN0
  rw [hulen] at hnb HN1
  rw [hxlen] at hcl HB0
  rw [hylen] at hcl2 HB1
  have HML := Lib.hid hmlen
  have HTL := Lib.hid htlen
  have HUL := Lib.hid hulen
  have HXL := Lib.hid hxlen
  have HYL := Lib.hid hylen
  clear HAL HAI HAS HBL HBI HBS hmlen htlen hulen hxlen hylen HF HF2
  go_wp2_with fail
  refine HM.out.mono ?_
  rintro e w1 ⟨D1, c1, rfl, o1, b1⟩
  have HN := Lib.hid (HN0.out w1 b1)
  have B1 := b1
  have HO1 := Lib.hid o1
  clear HM o1 b1
  go_wp2_with fail
  refine HN.out.mono ?_
  rintro e w2 ⟨D2, c2, rfl, o2, b2⟩
  have B2 := stepB B1 b2
  have HB := Lib.hid (HB0.out w2 B2)
  replace HO1 := Lib.hid (HO1.out.below b2)
  have HO2 := Lib.hid o2
  clear HN o2 b2 B1
  go_wp2_with fail
  refine HB.out.mono ?_
  rintro e w3 ⟨D3, c3, rfl, o3, b3⟩
  have B3 := stepB B2 b3
  replace HO1 := Lib.hid (HO1.out.below b3)
  replace HO2 := Lib.hid (HO2.out.below b3)
  have HO3 := Lib.hid o3
  have HR := Lib.hid (rises_says (c := c1) HML.out (by omega) HMU.out HMO.out HO1.out.sl)
  unfold Says at HR
  clear HB HB0 o3 b3 B2
  go_wp2_with fail
  refine HR.out.mono ?_
  rintro e w4 ⟨rfl, b4⟩
  have B4 := stepB B3 b4
  replace HO1 := Lib.hid (HO1.out.below b4)
  replace HO2 := Lib.hid (HO2.out.below b4)
  replace HO3 := Lib.hid (HO3.out.below b4)
  replace HR := Lib.hid (rises_says (c := c2) HTL.out (by omega) HNU.out HNO.out HO2.out.sl)
  unfold Says at HR
  clear b4 B3
  go_wp2_with fail
  refine HR.out.mono ?_
  rintro e w5 ⟨rfl, b5⟩
  have B5 := stepB B4 b5
  replace HO1 := Lib.hid (HO1.out.below b5)
  replace HO2 := Lib.hid (HO2.out.below b5)
  replace HO3 := Lib.hid (HO3.out.below b5)
  replace HR := Lib.hid (rises_says (c := c3) HXL.out (by omega) HCU.out HCO.out HO3.out.sl)
  unfold Says at HR
  clear b5 B4
  go_wp2_with fail
  refine HR.out.mono ?_
  rintro e w6 ⟨rfl, b6⟩
  have B6 := stepB B5 b6
  replace HO1 := Lib.hid (HO1.out.below b6)
  replace HO2 := Lib.hid (HO2.out.below b6)
  replace HO3 := Lib.hid (HO3.out.below b6)
  have HM := Lib.hid (make_tells (c := c1) HML.out (by omega) HMI.out HO1.out.sl)
  rw [HMM.out] at HM
  unfold Tells at HM
  rw [HML.out] at HM
  clear b6 B5 HR
  go_wp2_with fail
  refine HM.out.mono ?_
  rintro e w7 ⟨D7, c7, rfl, o7, b7⟩
  have B7 := stepB B6 b7
  replace HO1 := Lib.hid (HO1.out.below b7)
  replace HO2 := Lib.hid (HO2.out.below b7)
  replace HO3 := Lib.hid (HO3.out.below b7)
  have HS := Lib.hid (same_says (c1 := c7) (c2 := c1) HML.out HML.out rfl (by omega) o7.sl HO1.out.sl)
  unfold Says at HS
  clear b7 B6 HM o7
  go_wp2_with fail
  refine HS.out.mono ?_
  rintro e w8 ⟨rfl, b8⟩
  have B8 := stepB B7 b8
  replace HO1 := Lib.hid (HO1.out.below b8)
  replace HO2 := Lib.hid (HO2.out.below b8)
  replace HO3 := Lib.hid (HO3.out.below b8)
  have HM := Lib.hid (not_tells (c := c2) HTL.out (by omega) HNI.out HO2.out.sl)
  rw [HNN.out] at HM
  unfold Tells at HM
  rw [HML.out] at HM
  clear b8 B7 HS
  go_wp2_with fail
  refine HM.out.mono ?_
  rintro e w9 ⟨D9, c9, rfl, o9, b9⟩
  have B9 := stepB B8 b9
  replace HO1 := Lib.hid (HO1.out.below b9)
  replace HO3 := Lib.hid (HO3.out.below b9)
  have HS := Lib.hid (same_says (c1 := c9) (c2 := c1) HML.out HML.out rfl (by omega) o9.sl HO1.out.sl)
  unfold Says at HS
  clear b9 B8 HM o9 HO2
  go_wp2_with fail
  refine HS.out.mono ?_
  rintro e w10 ⟨rfl, b10⟩
  have B10 := stepB B9 b10
  replace HO3 := Lib.hid (HO3.out.below b10)
  clear b10 B9 HS HO1
  -- either := append(append([]Range{}, Not(a)...), Not(b)...)
  have ha := (Below.refl w10.heap.size w10).alloc (Nat.le_refl _) (.cells #[] 61)
  have HX : Hid (OwnB (w10.alloc (.cells #[] 61)) w10.heap.size 61 2 (some ⟨w10.heap.size, 0, none⟩) 0 0 (flatR [])) := (show OwnB _ _ _ _ _ _ _ _ from OwnB.empty rfl (Nat.le_refl _))
  have HN := Lib.hid (HN0.out _ (stepB B10 ha))
  clear HN0
  go_wp2_with fail
  refine HN.out.mono ?_
  rintro e w11 ⟨D11, c11, rfl, o11, b11⟩
  have b12 := stepB ha b11
  have hs12 := b12.size
  replace HX := Lib.hid (HX.out.below b11)
  have HR := Lib.hid (srcR (c := c11) o11.sl HTL.out)
  clear ha b11 o11 HN
  go_wp2_with (at_builtin; refine wpList_append_ownK (o := ⟨some 50, _, _, _, _, _⟩) rfl (.tmp 47) (.tmp 49) 58 58 rfl 61 ir (.agg #[.int .i32 0, Value.int .i32 0]) 2 8 Try.underlying58 hir hzr0 hzr1 hzr2 rfl w10.heap.size (some ⟨w10.heap.size, 0, none⟩) 0 0 (flatR []) rfl HX.out (.slice D11 tl c11) rfl tl (flatR t) HR.out (by omega) (by omega) w10 b12 hs12 ?_)
  intro w12 D12 c12 HO12 _ hb12 _
  have HX2 : Hid (OwnB w12 w10.heap.size 61 2 D12 tl c12 (flatR t)) := (show OwnB _ _ _ _ _ _ _ _ from HO12.out)
  have HN := Lib.hid (HN1.out _ (stepB B10 hb12))
  clear HX HR HO12 b12 hs12 HN1
  go_wp2_with fail
  refine HN.out.mono ?_
  rintro e w13 ⟨D13, c13, rfl, o13, b13⟩
  have b14 := stepB hb12 b13
  have hs14 := b14.size
  have HX := Lib.hid (HX2.out.below b13)
  have HR := Lib.hid (srcR (c := c13) o13.sl HUL.out)
  clear b13 o13 HN HX2 hb12
  go_wp2_with (at_builtin; refine wpList_append_ownK (o := ⟨some 53, _, _, _, _, _⟩) rfl (.tmp 50) (.tmp 52) 58 58 rfl 61 ir (.agg #[.int .i32 0, Value.int .i32 0]) 2 8 Try.underlying58 hir hzr0 hzr1 hzr2 rfl w10.heap.size D12 tl c12 (flatR t) rfl HX.out (.slice D13 ul c13) rfl ul (flatR u) HR.out (by omega) (by omega) w10 b14 hs14 ?_)
  intro w14 D14 c14 HO14 _ hb14 _
  have HX2 : Hid (OwnB w14 w10.heap.size 61 2 D14 (tl + ul) c14 (flatR (t ++ u))) := (show OwnB _ _ _ _ _ _ _ _ from by rw [flatR_app]; exact HO14.out)
  have HM := Lib.hid (not_tells (c := c14) (n := tl + ul) (by rw [List.length_append, HTL.out, HUL.out]) (by omega) (in_app HNI.out HNBI.out) HX2.out.sl)
  rw [HBT.out] at HM
  unfold Tells at HM
  rw [HXL.out] at HM
  have B14 := stepB B10 hb14
  replace HO3 := Lib.hid (HO3.out.below hb14)
  clear HX HR HO14 b14 hs14 HX2 B10 hb14
  go_wp2_with fail
  refine HM.out.mono ?_
  rintro e w15 ⟨D15, c15, rfl, o15, b15⟩
  have B15 := stepB B14 b15
  replace HO3 := Lib.hid (HO3.out.below b15)
  have HS := Lib.hid (same_says (c1 := c15) (c2 := c3) HXL.out HXL.out rfl (by omega) o15.sl HO3.out.sl)
  unfold Says at HS
  clear b15 B14 HM o15
  go_wp2_with fail
  refine HS.out.mono ?_
  rintro e w16 ⟨rfl, b16⟩
  have B16 := stepB B15 b16
  replace HO3 := Lib.hid (HO3.out.below b16)
  have HM := Lib.hid (HB1.out _ B16)
  clear b16 B15 HS HB1
  go_wp2_with fail
  refine HM.out.mono ?_
  rintro e w17 ⟨D17, c17, rfl, o17, b17⟩
  have B17 := stepB B16 b17
  replace HO3 := Lib.hid (HO3.out.below b17)
  have HS := Lib.hid (same_says (c1 := c17) (c2 := c3) HYL.out HXL.out HBC.out.symm (by omega) o17.sl HO3.out.sl)
  unfold Says at HS
  clear b17 B16 HM o17
  go_wp2_with fail
  refine HS.out.mono ?_
  rintro e w18 ⟨rfl, b18⟩
  have B18 := stepB B17 b18
  clear b18 B17 HS HO3
  go_wp2_with fail
  refine (runs_says w18).mono ?_
  unfold Says
  rintro e w19 ⟨rfl, b19⟩
  have B19 := stepB B18 b19
  go_wp2_with fail
  go_ret
  exact ⟨rfl, B19⟩
end Go.Proofs.Ytepmnhlfjidhjab
