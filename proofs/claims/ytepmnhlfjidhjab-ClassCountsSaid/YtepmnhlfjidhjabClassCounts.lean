/-
  ClassCounts, its walk.
-/
import Derived.Test.YtepmnhlfjidhjabClassFewM
import Derived.Test.YtepmnhlfjidhjabApp3
namespace Go.Proofs.Ytepmnhlfjidhjab
open Go.RowKit Go.Mem

theorem cnt_at {m : List (Int × Int)} {k : Nat} (h : k < m.length) : Cls.cnt (m.drop k) = m[k].2 - m[k].1 + 1 + Cls.cnt (m.drop (k + 1)) := by
  rw [List.drop_eq_getElem_cons h]; rfl

set_option maxRecDepth 100000 in
set_option maxHeartbeats 3200000 in
theorem classCounts_calls (A : Option Addr) (n c : Nat) (l : List (Int × Int)) (w : World) (hl : l.length = n) (hn : n ≤ c) (hm : c ≤ 9223372036854775807) (hi : In32 l) (hs : Sl w A (flatR l)) :
    Calls Try.prog 11 #[.slice A n c] w fun e w' => e = .returned (.bool true) ∧ Below w.heap.size w w' := by
  obtain ⟨ir, hir, hzr0, hzr1, hzr2⟩ := info_parts infoR
  obtain ⟨x, p, hp, hp40, hxl, hxi, hxs⟩ := few_part hl hi hs
  have HF := Lib.hid (few_ok A n c p w hn hp)
  have HXI := Lib.hid hxi
  have HXL := Lib.hid hxl
  have HXS := Lib.hid hxs
  clear hl hi hs hp hxi hxl hxs
  go_enter Try.func11, Try.ntmps11
  go_wp2_with fail
  refine HF.out.mono ?_
  rintro e w0 ⟨rfl, rfl⟩
  have HM := Lib.hid (make_tells (c := c) HXL.out (by omega) HXI.out HXS.out)
  have hml := Cls.mkR_len x
  have hnl := Cls.nt_len x
  rw [HXL.out] at hml hnl
  unfold Tells at HM
  have HC := Lib.hid (Cls.cnt_all x)
  have HBN := Lib.hid (Cls.bt_not x)
  have HMA := Lib.hid (Cls.mk_all x)
  have HMI := Lib.hid (mk_in x)
  have HNI := Lib.hid (nt_in x)
  have HMB : Hid (∀ g ∈ Cls.mkR x, 0 ≤ g.1 ∧ g.1 ≤ g.2 ∧ g.2 ≤ 1114111) := (show ∀ g ∈ _, _ from fun g hg => by have := (Cls.made_mk x).bounds hg; unfold Cls.Valid at this; omega)
  have HNB : Hid (∀ g ∈ Cls.nt x, 0 ≤ g.1 ∧ g.1 ≤ g.2 ∧ g.2 ≤ 1114111) := (show ∀ g ∈ _, _ from fun g hg => by have := (Cls.nt_made x).bounds hg; unfold Cls.Valid at this; omega)
  have HN0 : Hid (∀ W : World, Below w0.heap.size w0 W → Calls Try.prog 32 #[.slice A p c] W (Tells (Cls.nt x) W)) := (show ∀ W : World, _ from fun W hW => not_tells HXL.out (by omega) HXI.out (HXS.out.below hW))
  unfold Tells at HN0
  generalize Cls.mkR x = m at *
  generalize Cls.nt x = t at *
  obtain ⟨ml, hmlen⟩ : ∃ k, m.length = k := ⟨_, rfl⟩
  obtain ⟨tl, htlen⟩ : ∃ k, t.length = k := ⟨_, rfl⟩
  rw [hmlen] at hml HM
  rw [htlen] at hnl HN0
  have HML := Lib.hid hmlen
  have HTL := Lib.hid htlen
  clear HXL HXI HXS hmlen htlen HF
  go_wp2_with fail
  refine HM.out.mono ?_
  rintro e w1 ⟨D1, c1, rfl, o1, b1⟩
  have HN := Lib.hid (HN0.out w1 b1)
  have B1 := b1
  have HO1 := Lib.hid o1
  clear HM HN0 o1 b1
  go_wp2_with fail
  refine HN.out.mono ?_
  rintro e w2 ⟨D2, c2, rfl, o2, b2⟩
  have B2 := stepB B1 b2
  have HO1' := Lib.hid (HO1.out.below b2)
  have HO2 := Lib.hid o2
  clear HO1 HN o2 b2 B1
  go_wp2_with fail
  go_loopw [3, 6] (fun s3 s6 wr => ∃ (k : Nat) (z : Int), k ≤ ml ∧ s3 = .int .i64 z ∧ s6 = .int .i64 k ∧ Hid (Cls.cnt m = z + Cls.cnt (m.drop k)) ∧ 0 ≤ z ∧ z ≤ 1114112 * (k : Int) ∧ ∃ q, wr = w2.drewN q) (fun _ s _ => ml - (intOf s).toNat)
  case atStart => exact ⟨0, 0, Nat.zero_le _, rfl, rfl, (show _ = _ by rw [List.drop_zero]; omega), by omega, by omega, 0, rfl⟩
  case round =>
    obtain ⟨k, z, hk, rfl, rfl, HZ, hz0, hz1, q, hq⟩ := hrel
    have HQ2 : Hid (∀ m, wr.drewN m = w2.drewN (q + m)) := (show ∀ m, _ from fun m => by rw [hq, World.drewN_drewN])
    have hbq : Below w2.heap.size w2 wr := by rw [hq]; exact below_drewN (Below.refl _ _) q
    clear hq
    by_cases hlt : k < ml
    · have hlm : k < m.length := by rw [HML.out]; exact hlt
      obtain ⟨b, o, rfl, y1, y2⟩ := Sl.range (HO1'.out.below hbq).sl (List.getElem?_eq_getElem hlm)
      have hg := HMB.out _ (List.getElem_mem hlm)
      have hcn := cnt_at hlm
      generalize m[k] = g at *
      obtain ⟨g1, g2⟩ := g
      simp only at y1 y2 hg hcn
      have HZ2 : Hid (Cls.cnt m = (z + g2 - g1 + 1) + Cls.cnt (m.drop (k + 1))) := (show _ = _ by rw [HZ.out, hcn]; omega)
      have i0 : (0 : Int) ≤ (k : Int) := by omega
      have i1 : (k : Int) < (ml : Int) := by omega
      clear hcn HZ hbq
      go_wp2_with fail
      go_big_quiet (fail)
      go_wp2_with fail
      go_roundw
      case rel => exact ⟨k + 1, z + g2 - g1 + 1, by omega, rfl, by go_num, HZ2, by omega, by omega, _, HQ2.out _⟩
      case measure => simp [intOf]; omega
    · obtain rfl : k = ml := by omega
      have hcz : Cls.cnt m = z := by have := HZ.out; rw [List.drop_eq_nil_of_le (by rw [HML.out]; exact Nat.le_refl _), show Cls.cnt [] = 0 from rfl] at this; omega
      have HCZ := Lib.hid hcz
      have HO3 := Lib.hid (HO1'.out.below hbq)
      have HO4 := Lib.hid (HO2.out.below hbq)
      have B3 := stepB B2 hbq
      clear HZ hcz HQ2 hbq HO1' HO2 B2
      generalize wr = w3 at *
      go_wp2_with fail
      go_loopw [3, 7] (fun s3 s7 wx => ∃ (j : Nat) (y : Int), j ≤ tl ∧ s3 = .int .i64 y ∧ s7 = .int .i64 j ∧ Hid (z + Cls.cnt t = y + Cls.cnt (t.drop j)) ∧ 0 ≤ y ∧ y ≤ 1114112 * (k : Int) + 1114112 * (j : Int) ∧ ∃ q, wx = w3.drewN q) (fun _ s _ => tl - (intOf s).toNat)
      case atStart => exact ⟨0, z, Nat.zero_le _, rfl, rfl, (show _ = _ by rw [List.drop_zero]), by omega, by omega, 0, rfl⟩
      case round =>
        obtain ⟨j, y, hj, rfl, rfl, HY, hy0, hy1, q, hq⟩ := hrel
        have HQ2 : Hid (∀ m, wr.drewN m = w3.drewN (q + m)) := (show ∀ m, _ from fun m => by rw [hq, World.drewN_drewN])
        have hbq : Below w3.heap.size w3 wr := by rw [hq]; exact below_drewN (Below.refl _ _) q
        clear hq
        by_cases hlt2 : j < tl
        · have hlm : j < t.length := by rw [HTL.out]; exact hlt2
          obtain ⟨b, o, rfl, y1, y2⟩ := Sl.range (HO4.out.below hbq).sl (List.getElem?_eq_getElem hlm)
          have hg := HNB.out _ (List.getElem_mem hlm)
          have hcn := cnt_at hlm
          generalize t[j] = g at *
          obtain ⟨g1, g2⟩ := g
          simp only at y1 y2 hg hcn
          have HY2 : Hid (z + Cls.cnt t = (y + g2 - g1 + 1) + Cls.cnt (t.drop (j + 1))) := (show _ = _ by rw [HY.out, hcn]; omega)
          have i0 : (0 : Int) ≤ (j : Int) := by omega
          have i1 : (j : Int) < (tl : Int) := by omega
          clear hcn HY hbq
          go_wp2_with fail
          go_big_quiet (fail)
          go_wp2_with fail
          go_roundw
          case rel => exact ⟨j + 1, y + g2 - g1 + 1, by omega, rfl, by go_num, HY2, by omega, by omega, _, HQ2.out _⟩
          case measure => simp [intOf]; omega
        · obtain rfl : j = tl := by omega
          have hy : y = 1112064 := by
            have h1 := HY.out
            rw [List.drop_eq_nil_of_le (by rw [HTL.out]; exact Nat.le_refl _), show Cls.cnt [] = 0 from rfl] at h1
            have h2 := HC.out
            have h3 := HCZ.out
            omega
          subst hy
          have HO5 := Lib.hid (HO3.out.below hbq)
          have HO6 := Lib.hid (HO4.out.below hbq)
          have B4 := stepB B3 hbq
          have HB := Lib.hid (both_tells HML.out (by omega) HMI.out HO5.out.sl HTL.out (by omega) HNI.out HO6.out.sl (c := c1) (f := c2))
          rw [HBN.out] at HB
          unfold Tells at HB
          clear HY HQ2 hbq HO3 HO4 B3
          go_wp2_with fail
          refine HB.out.mono ?_
          rintro e w5 ⟨D5, c5, rfl, _, b5⟩
          have B5 := stepB B4 b5
          have HO7 := Lib.hid (HO5.out.below b5)
          have HO8 := Lib.hid (HO6.out.below b5)
          have ha := (Below.refl w5.heap.size w5).alloc (Nat.le_refl _) (.cells #[] 61)
          have HX : Hid (OwnB (w5.alloc (.cells #[] 61)) w5.heap.size 61 2 (some ⟨w5.heap.size, 0, none⟩) 0 0 (flatR [])) := (show OwnB _ _ _ _ _ _ _ _ from OwnB.empty rfl (Nat.le_refl _))
          have HR := Lib.hid (srcR (c := c1) (HO7.out.below ha).sl HML.out)
          have has : w5.heap.size ≤ (w5.alloc (.cells #[] 61)).heap.size := by simp
          clear HB HO5 HO6 b5 B4
          go_wp2_with (at_builtin; refine wpList_append_ownG (o := ⟨some 70, _, _, _, _, _⟩) (by rfl) (.tmp 68) (.tmp 69) 58 58 rfl 61 ir (.agg #[.int .i32 0, Value.int .i32 0]) 2 8 Try.underlying58 hir hzr0 hzr1 hzr2 rfl w5.heap.size (some ⟨w5.heap.size, 0, none⟩) 0 0 (flatR []) rfl HX.out (.slice D1 k c1) rfl k (flatR m) HR.out (by omega) (by omega) w5 ha has ?_)
          intro w6 D6 c6 HO9 _ hb6 _
          have HO10 : Hid (OwnB w6 w5.heap.size 61 2 D6 k c6 (flatR m)) := (show OwnB _ _ _ _ _ _ _ _ from HO9.out)
          have HR := Lib.hid (srcR (c := c2) (HO8.out.below hb6).sl HTL.out)
          clear HX HO9 has ha
          have hs6 := hb6.size
          go_wp2_with (at_builtin; refine wpList_append_ownG (o := ⟨some 72, _, _, _, _, _⟩) (by rfl) (.tmp 70) (.tmp 71) 58 58 rfl 61 ir (.agg #[.int .i32 0, Value.int .i32 0]) 2 8 Try.underlying58 hir hzr0 hzr1 hzr2 rfl w5.heap.size D6 k c6 (flatR m) rfl HO10.out (.slice D2 j c2) rfl j (flatR t) HR.out (by omega) (by omega) w5 hb6 hs6 ?_)
          intro w7 D7 c7 HO11 _ hb7 _
          have HO12 : Hid (OwnB w7 w5.heap.size 61 2 D7 (k + j) c7 (flatR (m ++ t))) := (show OwnB _ _ _ _ _ _ _ _ from by rw [flatR_app]; exact HO11.out)
          have HM := Lib.hid (make_tells (c := c7) (n := k + j) (by rw [List.length_append, HML.out, HTL.out]) (by omega) (in_app HMI.out HNI.out) HO12.out.sl)
          rw [HMA.out] at HM
          unfold Tells at HM
          have B7 := stepB B5 hb7
          clear HO10 HO11 HR hb6 hs6 HO12 B5
          go_wp2_with fail
          refine HM.out.mono ?_
          rintro e w8 ⟨D8, c8, rfl, _, b8⟩
          have B8 := stepB B7 b8
          clear HM b8 B7
          go_wp2_with fail
          refine (runs_says w8).mono ?_
          unfold Says
          rintro e w9 ⟨rfl, b9⟩
          have B9 := stepB B8 b9
          go_wp2_with fail
          go_ret
          exact ⟨rfl, B9⟩
end Go.Proofs.Ytepmnhlfjidhjab
