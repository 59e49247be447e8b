/-
  ClassEnds, its walk.
-/
import Derived.Test.YtepmnhlfjidhjabClassFewM
namespace Go.Proofs.Ytepmnhlfjidhjab
open Go.RowKit Go.Mem

theorem keepB {w w' : World} {a : Addr} {v : Value} (hb : Below w.heap.size w w') (h : w.cell? a = some v) : w'.cell? a = some v := (hb.cell (lt_of_cell h)).trans h
theorem valid_says (r : Int) (v : Bool) (w : World) (h : validR r = v) : Calls Try.prog 42 #[.int .i32 r] w (Says v w) :=
  (valid_calls r w).mono (by rintro e w' ⟨h1, h2⟩; rw [h] at h1; subst h2; exact ⟨h1, Below.refl _ _⟩)
theorem hasR_false {l : List (Int × Int)} {r : Int} (h : ¬ Cls.Mem l r) : hasR l r = false := by
  cases e : hasR l r with
  | false => rfl
  | true => exact absurd ((hasR_mem l r).1 e) h

set_option maxRecDepth 100000 in
set_option maxHeartbeats 3200000 in
theorem classEnds_calls (A : Option Addr) (n c : Nat) (l : List (Int × Int)) (w : World) (hl : l.length = n) (hn : n ≤ c) (hi : In32 l) (hs : Sl w A (flatR l)) :
    Calls Try.prog 10 #[.slice A n c] w fun e w' => e = .returned (.bool true) ∧ Below w.heap.size w w' := by
  obtain ⟨x, p, hp, hp40, hxl, hxi, hxs⟩ := few_part hl hi hs
  have HF := Lib.hid (few_ok A n c p w hn hp)
  have HXI := Lib.hid hxi
  have HXL := Lib.hid hxl
  have HXS := Lib.hid hxs
  clear hl hi hs hp hxi hxl hxs
  go_enter Try.func10, Try.ntmps10
  go_wp2_with fail
  refine HF.out.mono ?_
  rintro e w0 ⟨rfl, rfl⟩
  have HM := Lib.hid (make_tells (c := c) HXL.out (by omega) HXI.out HXS.out)
  have hml := Cls.mkR_len x
  rw [HXL.out] at hml
  unfold Tells at HM
  have HMB : Hid (∀ g ∈ Cls.mkR x, 0 ≤ g.1 ∧ g.1 ≤ g.2 ∧ g.2 ≤ 1114111) := (show ∀ g ∈ _, _ from fun g hg => by have := (Cls.made_mk x).bounds hg; unfold Cls.Valid at this; omega)
  have HE : Hid (∀ g ∈ Cls.mkR x, hasR x g.1 = true ∧ hasR x g.2 = true ∧ hasR (Cls.mkR x) (g.1 - 1) = false ∧ hasR (Cls.mkR x) (g.2 + 1) = false ∧ (validR (g.1 - 1) = true → hasR x (g.1 - 1) = false) ∧ (validR (g.2 + 1) = true → hasR x (g.2 + 1) = false)) := (show ∀ g ∈ _, _ from fun g hg => by
    have hb := (Cls.made_mk x).bounds hg
    have he := (Cls.mk_up x).ends g hg
    refine ⟨(hasR_mem _ _).2 ((Cls.mk_mem x _).1 ⟨g, hg, Int.le_refl _, hb.2.2⟩).2, (hasR_mem _ _).2 ((Cls.mk_mem x _).1 ⟨g, hg, hb.2.2, Int.le_refl _⟩).2, hasR_false he.1, hasR_false he.2, fun hv => hasR_false fun hm => he.1 ((Cls.mk_mem x _).2 ⟨(validR_iff _).1 hv, hm⟩), fun hv => hasR_false fun hm => he.2 ((Cls.mk_mem x _).2 ⟨(validR_iff _).1 hv, hm⟩)⟩)
  have HMI := Lib.hid (mk_in x)
  generalize Cls.mkR x = m at *
  obtain ⟨ml, hmlen⟩ : ∃ k, m.length = k := ⟨_, rfl⟩
  rw [hmlen] at hml HM
  have HML := Lib.hid hmlen
  clear hmlen HF
  go_wp2_with fail
  refine HM.out.mono ?_
  rintro e w1 ⟨D1, c1, rfl, o1, b1⟩
  have B1 := b1
  have HO1 := Lib.hid o1
  replace HXS := Lib.hid (HXS.out.below b1)
  clear HM o1 b1
  go_wp2_with fail
  go_loopw [4] (fun s4 wr => ∃ (k : Nat), k ≤ ml ∧ s4 = .int .i64 k ∧ Below w1.heap.size w1 wr) (fun s _ => ml - (intOf s).toNat)
  case atStart => exact ⟨0, Nat.zero_le _, rfl, Below.refl _ _⟩
  case round =>
    obtain ⟨k, hk, rfl, hB⟩ := hrel
    by_cases hlt : k < ml
    · have hlm : k < m.length := by rw [HML.out]; exact hlt
      obtain ⟨b, o, rfl, y1, y2⟩ := Sl.range (HO1.out.below hB).sl (List.getElem?_eq_getElem hlm)
      have hg := HMB.out _ (List.getElem_mem hlm)
      have he := HE.out _ (List.getElem_mem hlm)
      generalize m[k] = g at *
      obtain ⟨g1, g2⟩ := g
      simp only at y1 y2 hg he
      obtain ⟨he1, he2, he3, he4, he5, he6⟩ := he
      have HE1 := Lib.hid he1
      have HE2 := Lib.hid he2
      have HE3 := Lib.hid he3
      have HE4 := Lib.hid he4
      have HE5 := Lib.hid he5
      have HE6 := Lib.hid he6
      have i0 : (0 : Int) ≤ (k : Int) := by omega
      have i1 : (k : Int) < (ml : Int) := by omega
      clear he1 he2 he3 he4 he5 he6 hlm
      have HH := Lib.hid (has_says (c := c) g1 HXL.out (by omega) (HXS.out.below hB))
      rw [HE1.out] at HH
      unfold Says at HH
      go_wp2_with fail
      refine HH.out.mono ?_
      rintro e v1 ⟨rfl, d1⟩
      replace hB := hB.trans (d1.mono hB.size)
      replace y1 := keepB d1 y1
      replace y2 := keepB d1 y2
      clear HH d1
      have HH := Lib.hid (has_says (c := c) g2 HXL.out (by omega) (HXS.out.below hB))
      rw [HE2.out] at HH
      unfold Says at HH
      go_wp2_with fail
      refine HH.out.mono ?_
      rintro e v2 ⟨rfl, d2⟩
      replace hB := hB.trans (d2.mono hB.size)
      replace y1 := keepB d2 y1
      replace y2 := keepB d2 y2
      clear HH d2
      have HH := Lib.hid (has_says (c := c1) (g1 - 1) HML.out (by omega) (HO1.out.below hB).sl)
      rw [HE3.out] at HH
      unfold Says at HH
      go_wp2_with fail
      refine HH.out.mono ?_
      rintro e v3 ⟨rfl, d3⟩
      replace hB := hB.trans (d3.mono hB.size)
      replace y1 := keepB d3 y1
      replace y2 := keepB d3 y2
      clear HH d3
      have HH := Lib.hid (has_says (c := c1) (g2 + 1) HML.out (by omega) (HO1.out.below hB).sl)
      rw [HE4.out] at HH
      unfold Says at HH
      go_wp2_with fail
      refine HH.out.mono ?_
      rintro e v4 ⟨rfl, d4⟩
      replace hB := hB.trans (d4.mono hB.size)
      replace y1 := keepB d4 y1
      replace y2 := keepB d4 y2
      clear HH d4
      cases hv1 : validR (g1 - 1)
      · have HV1 := Lib.hid hv1
        clear hv1
        have HH := Lib.hid (valid_says (g1 - 1) false v4 HV1.out)
        unfold Says at HH
        go_wp2_with fail
        refine HH.out.mono ?_
        rintro e v5 ⟨rfl, d5⟩
        replace hB := hB.trans (d5.mono hB.size)
        replace y1 := keepB d5 y1
        replace y2 := keepB d5 y2
        clear HH d5
        cases hv2 : validR (g2 + 1)
        · have HV2 := Lib.hid hv2
          clear hv2
          have HH := Lib.hid (valid_says (g2 + 1) false v5 HV2.out)
          unfold Says at HH
          go_wp2_with fail
          refine HH.out.mono ?_
          rintro e v7 ⟨rfl, d7⟩
          replace hB := hB.trans (d7.mono hB.size)
          replace y1 := keepB d7 y1
          replace y2 := keepB d7 y2
          clear HH d7
          go_wp2_with fail
          go_roundw
          case rel => exact ⟨k + 1, by omega, by go_num, hB⟩
          case measure => simp [intOf]; omega
        · have HV2 := Lib.hid hv2
          clear hv2
          have HH := Lib.hid (valid_says (g2 + 1) true v5 HV2.out)
          unfold Says at HH
          go_wp2_with fail
          refine HH.out.mono ?_
          rintro e v7 ⟨rfl, d7⟩
          replace hB := hB.trans (d7.mono hB.size)
          replace y1 := keepB d7 y1
          replace y2 := keepB d7 y2
          clear HH d7
          have HH := Lib.hid (has_says (c := c) (g2 + 1) HXL.out (by omega) (HXS.out.below hB))
          rw [HE6.out HV2.out] at HH
          unfold Says at HH
          go_wp2_with fail
          refine HH.out.mono ?_
          rintro e v8 ⟨rfl, d8⟩
          replace hB := hB.trans (d8.mono hB.size)
          replace y1 := keepB d8 y1
          replace y2 := keepB d8 y2
          clear HH d8
          go_wp2_with fail
          go_roundw
          case rel => exact ⟨k + 1, by omega, by go_num, hB⟩
          case measure => simp [intOf]; omega
      · have HV1 := Lib.hid hv1
        clear hv1
        have HH := Lib.hid (valid_says (g1 - 1) true v4 HV1.out)
        unfold Says at HH
        go_wp2_with fail
        refine HH.out.mono ?_
        rintro e v5 ⟨rfl, d5⟩
        replace hB := hB.trans (d5.mono hB.size)
        replace y1 := keepB d5 y1
        replace y2 := keepB d5 y2
        clear HH d5
        have HH := Lib.hid (has_says (c := c) (g1 - 1) HXL.out (by omega) (HXS.out.below hB))
        rw [HE5.out HV1.out] at HH
        unfold Says at HH
        go_wp2_with fail
        refine HH.out.mono ?_
        rintro e v6 ⟨rfl, d6⟩
        replace hB := hB.trans (d6.mono hB.size)
        replace y1 := keepB d6 y1
        replace y2 := keepB d6 y2
        clear HH d6
        cases hv2 : validR (g2 + 1)
        · have HV2 := Lib.hid hv2
          clear hv2
          have HH := Lib.hid (valid_says (g2 + 1) false v6 HV2.out)
          unfold Says at HH
          go_wp2_with fail
          refine HH.out.mono ?_
          rintro e v7 ⟨rfl, d7⟩
          replace hB := hB.trans (d7.mono hB.size)
          replace y1 := keepB d7 y1
          replace y2 := keepB d7 y2
          clear HH d7
          go_wp2_with fail
          go_roundw
          case rel => exact ⟨k + 1, by omega, by go_num, hB⟩
          case measure => simp [intOf]; omega
        · have HV2 := Lib.hid hv2
          clear hv2
          have HH := Lib.hid (valid_says (g2 + 1) true v6 HV2.out)
          unfold Says at HH
          go_wp2_with fail
          refine HH.out.mono ?_
          rintro e v7 ⟨rfl, d7⟩
          replace hB := hB.trans (d7.mono hB.size)
          replace y1 := keepB d7 y1
          replace y2 := keepB d7 y2
          clear HH d7
          have HH := Lib.hid (has_says (c := c) (g2 + 1) HXL.out (by omega) (HXS.out.below hB))
          rw [HE6.out HV2.out] at HH
          unfold Says at HH
          go_wp2_with fail
          refine HH.out.mono ?_
          rintro e v8 ⟨rfl, d8⟩
          replace hB := hB.trans (d8.mono hB.size)
          replace y1 := keepB d8 y1
          replace y2 := keepB d8 y2
          clear HH d8
          go_wp2_with fail
          go_roundw
          case rel => exact ⟨k + 1, by omega, by go_num, hB⟩
          case measure => simp [intOf]; omega
    · have B2 := stepB B1 hB
      clear HO1 HXS
      go_wp2_with fail
      refine (runs_says _).mono ?_
      unfold Says
      rintro e w9 ⟨rfl, b9⟩
      have B9 := stepB B2 b9
      go_wp2_with fail
      go_ret
      exact ⟨rfl, B9⟩
end Go.Proofs.Ytepmnhlfjidhjab
