/-
  ClassMembers, its walk.
-/
import Derived.Test.YtepmnhlfjidhjabClassEnds
import Derived.Test.YtepmnhlfjidhjabApp3
namespace Go.Proofs.Ytepmnhlfjidhjab
open Go.RowKit Go.Mem

theorem bool_iff {a b : Bool} (h : a = true ↔ b = true) : a = b := by cases a <;> cases b <;> simp_all
theorem hasR_mk (l : List (Int × Int)) (r : Int) : hasR (Cls.mkR l) r = (validR r && hasR l r) := bool_iff (by rw [hasR_mem, Cls.mk_mem, Bool.and_eq_true, validR_iff, hasR_mem])
theorem hasR_nt (l : List (Int × Int)) (r : Int) : hasR (Cls.nt l) r = (validR r && !hasR l r) := bool_iff (by
  rw [hasR_mem, Cls.nt_mem, Bool.and_eq_true, validR_iff]
  cases h : hasR l r with
  | true => have := (hasR_mem l r).1 h; simp [this]
  | false => have : ¬ Cls.Mem l r := fun hm => by rw [(hasR_mem l r).2 hm] at h; cases h
             simp [this])
theorem hasR_bt (a b : List (Int × Int)) (r : Int) : hasR (Cls.bt a b) r = (validR r && (hasR a r && hasR b r)) := bool_iff (by rw [hasR_mem, Cls.bt_mem, Bool.and_eq_true, Bool.and_eq_true, validR_iff, hasR_mem, hasR_mem])
theorem hasR_app (a b : List (Int × Int)) (r : Int) : hasR (a ++ b) r = (hasR a r || hasR b r) := by simp [hasR]
theorem hasR_at {m : List (Int × Int)} {k : Nat} (r : Int) (h : k < m.length) : hasR (m.drop k) r = ((decide (m[k].1 ≤ r) && decide (r ≤ m[k].2)) || hasR (m.drop (k + 1)) r) := by
  rw [List.drop_eq_getElem_cons h]; rfl

set_option maxRecDepth 100000 in
set_option maxHeartbeats 12800000 in
theorem classMembers_calls (A E : Option Addr) (n1 n2 k1 k2 : Nat) (la lb : List (Int × Int)) (r : Int) (w : World) (hl : la.length = n1) (hn : n1 ≤ k1) (hi : In32 la) (hs : Sl w A (flatR la)) (hl2 : lb.length = n2) (hn2 : n2 ≤ k2) (hi2 : In32 lb) (hs2 : Sl w E (flatR lb)) :
    Calls Try.prog 8 #[.slice A n1 k1, .slice E n2 k2, .int .i32 r] w fun e w' => e = .returned (.bool true) ∧ Below w.heap.size w w' := by
  obtain ⟨ir, hir, hzr0, hzr1, hzr2⟩ := info_parts infoR
  obtain ⟨a, p, hp, hp40, hal, hai, has⟩ := few_part hl hi hs
  obtain ⟨b, q, hq, hq40, hbl, hbi, hbs⟩ := few_part hl2 hi2 hs2
  have HF := Lib.hid (few_ok A n1 k1 p w hn hp)
  have HF2 := Lib.hid (few_ok E n2 k2 q w hn2 hq)
  have HAI := Lib.hid hai
  have HAL := Lib.hid hal
  have HAS := Lib.hid has
  have HBI := Lib.hid hbi
  have HBL := Lib.hid hbl
  have HBS := Lib.hid hbs
  clear hl hi hs hp hai hal has hl2 hi2 hs2 hq hbl hbi hbs
  go_enter Try.func8, Try.ntmps8
  go_wp2_with fail
  refine HF.out.mono ?_
  rintro e w0 ⟨rfl, rfl⟩
  go_wp2_with fail
  refine HF2.out.mono ?_
  rintro e w1 ⟨rfl, rfl⟩
  clear HF HF2
  go_wp2_with fail
  go_loopw [7, 9] (fun s7 s9 wr => ∃ (k : Nat) (X : Bool), k ≤ p ∧ s7 = .bool X ∧ s9 = .int .i64 k ∧ Hid (hasR a r = (X || hasR (a.drop k) r)) ∧ wr = w1) (fun _ s _ => p - (intOf s).toNat)
  case atStart => exact ⟨0, false, Nat.zero_le _, rfl, rfl, (show _ = _ by rw [List.drop_zero]; rfl), rfl⟩
  case round =>
    obtain ⟨k, X, hk, rfl, rfl, HX, hw⟩ := hrel
    obtain rfl := hw.symm
    clear hw
    by_cases hlt : k < p
    · have hlm : k < a.length := by rw [HAL.out]; exact hlt
      obtain ⟨b0, o0, rfl, y1, y2⟩ := Sl.range HAS.out (List.getElem?_eq_getElem hlm)
      have hat := hasR_at r hlm
      generalize a[k] = g at *
      obtain ⟨g1, g2⟩ := g
      simp only at y1 y2 hat
      have i0 : (0 : Int) ≤ (k : Int) := by omega
      have i1 : (k : Int) < (p : Int) := by omega
      cases X
      · by_cases h1 : g1 ≤ r
        · by_cases h2 : r ≤ g2
          · have HX2 : Hid (hasR a r = (true || hasR (a.drop (k + 1)) r)) := (show _ = _ by rw [HX.out, hat, decide_eq_true h1, decide_eq_true h2]; rfl)
            clear hat HX
            go_wp2_with fail
            go_roundw
            case rel => exact ⟨k + 1, _, by omega, rfl, by go_num, HX2, trivial⟩
            case measure => simp [intOf]; omega
          · have HX2 : Hid (hasR a r = (false || hasR (a.drop (k + 1)) r)) := (show _ = _ by rw [HX.out, hat, decide_eq_true h1, decide_eq_false h2]; rfl)
            have hd2 : decide (r ≤ g2) = false := decide_eq_false h2
            clear hat HX
            go_wp2_with fail
            go_roundw
            case rel => exact ⟨k + 1, _, by omega, rfl, by go_num, HX2, trivial⟩
            case measure => simp [intOf]; omega
        · have HX2 : Hid (hasR a r = (false || hasR (a.drop (k + 1)) r)) := (show _ = _ by rw [HX.out, hat, decide_eq_false h1]; rfl)
          have hd1 : decide (g1 ≤ r) = false := decide_eq_false h1
          clear hat HX
          go_wp2_with fail
          go_roundw
          case rel => exact ⟨k + 1, _, by omega, rfl, by go_num, HX2, trivial⟩
          case measure => simp [intOf]; omega
      · have HX2 : Hid (hasR a r = (true || hasR (a.drop (k + 1)) r)) := (show _ = _ by rw [HX.out]; rfl)
        clear hat HX
        go_wp2_with fail
        go_roundw
        case rel => exact ⟨k + 1, _, by omega, rfl, by go_num, HX2, trivial⟩
        case measure => simp [intOf]; omega
    · obtain rfl : k = p := by omega
      have HXE : Hid (hasR a r = X) := (show _ = _ by rw [HX.out, List.drop_eq_nil_of_le (by rw [HAL.out]; exact Nat.le_refl _)]; simp [hasR])
      clear HX
      go_wp2_with fail
      go_loopw [8, 10] (fun s8 s10 wx => ∃ (j : Nat) (Y : Bool), j ≤ q ∧ s8 = .bool Y ∧ s10 = .int .i64 j ∧ Hid (hasR b r = (Y || hasR (b.drop j) r)) ∧ wx = w1) (fun _ s _ => q - (intOf s).toNat)
      case atStart => exact ⟨0, false, Nat.zero_le _, rfl, rfl, (show _ = _ by rw [List.drop_zero]; rfl), rfl⟩
      case round =>
        obtain ⟨j, Y, hj, rfl, rfl, HY, hw⟩ := hrel
        obtain rfl := hw.symm
        clear hw
        by_cases hlt2 : j < q
        · have hlm : j < b.length := by rw [HBL.out]; exact hlt2
          obtain ⟨b0, o0, rfl, y1, y2⟩ := Sl.range HBS.out (List.getElem?_eq_getElem hlm)
          have hat := hasR_at r hlm
          generalize b[j] = g at *
          obtain ⟨g1, g2⟩ := g
          simp only at y1 y2 hat
          have i0 : (0 : Int) ≤ (j : Int) := by omega
          have i1 : (j : Int) < (q : Int) := by omega
          cases Y
          · by_cases h1 : g1 ≤ r
            · by_cases h2 : r ≤ g2
              · have HX2 : Hid (hasR b r = (true || hasR (b.drop (j + 1)) r)) := (show _ = _ by rw [HY.out, hat, decide_eq_true h1, decide_eq_true h2]; rfl)
                clear hat HY
                go_wp2_with fail
                go_roundw
                case rel => exact ⟨j + 1, _, by omega, rfl, by go_num, HX2, trivial⟩
                case measure => simp [intOf]; omega
              · have HX2 : Hid (hasR b r = (false || hasR (b.drop (j + 1)) r)) := (show _ = _ by rw [HY.out, hat, decide_eq_true h1, decide_eq_false h2]; rfl)
                have hd2 : decide (r ≤ g2) = false := decide_eq_false h2
                clear hat HY
                go_wp2_with fail
                go_roundw
                case rel => exact ⟨j + 1, _, by omega, rfl, by go_num, HX2, trivial⟩
                case measure => simp [intOf]; omega
            · have HX2 : Hid (hasR b r = (false || hasR (b.drop (j + 1)) r)) := (show _ = _ by rw [HY.out, hat, decide_eq_false h1]; rfl)
              have hd1 : decide (g1 ≤ r) = false := decide_eq_false h1
              clear hat HY
              go_wp2_with fail
              go_roundw
              case rel => exact ⟨j + 1, _, by omega, rfl, by go_num, HX2, trivial⟩
              case measure => simp [intOf]; omega
          · have HX2 : Hid (hasR b r = (true || hasR (b.drop (j + 1)) r)) := (show _ = _ by rw [HY.out]; rfl)
            clear hat HY
            go_wp2_with fail
            go_roundw
            case rel => exact ⟨j + 1, _, by omega, rfl, by go_num, HX2, trivial⟩
            case measure => simp [intOf]; omega
        · obtain rfl : j = q := by omega
          have HYE : Hid (hasR b r = Y) := (show _ = _ by rw [HY.out, List.drop_eq_nil_of_le (by rw [HBL.out]; exact Nat.le_refl _)]; simp [hasR])
          clear HY
          have E1 := hasR_mk a r
          have E2 := hasR_nt a r
          have E3 := hasR_bt a b r
          have E4 := hasR_mk (a ++ b) r
          rw [hasR_app] at E4
          obtain ⟨V, hV⟩ : ∃ V, validR r = V := ⟨_, rfl⟩
          rw [hV, HXE.out] at E1 E2
          rw [hV, HXE.out, HYE.out] at E3 E4
          have HV := Lib.hid hV
          have hml := Cls.mkR_len a
          have hnl := Cls.nt_len a
          have hcl := Cls.bt_len a b
          have hjl := Cls.mkR_len (a ++ b)
          rw [HAL.out] at hml hnl hcl
          rw [List.length_append, HAL.out, HBL.out] at hjl
          rw [HBL.out] at hcl
          clear hV
          cases X <;> cases Y <;> cases V
          all_goals
            simp only [Bool.true_and, Bool.false_and, Bool.not_true, Bool.not_false, Bool.and_true, Bool.and_false, Bool.true_or, Bool.or_true, Bool.or_false, Bool.false_or, Bool.and_self, Bool.or_self] at E1 E2 E3 E4
            have HE1 := Lib.hid E1
            have HE2 := Lib.hid E2
            have HE3 := Lib.hid E3
            have HE4 := Lib.hid E4
            clear E1 E2 E3 E4
            have HH := Lib.hid (has_says (c := k1) r HAL.out (by omega) HAS.out)
            rw [HXE.out] at HH
            unfold Says at HH
            go_wp2_with fail
            refine HH.out.mono ?_
            rintro e w4 ⟨rfl, b4⟩
            have B4 := b4
            have HH2 := Lib.hid (has_says (c := k2) r HBL.out (by omega) (HBS.out.below B4))
            rw [HYE.out] at HH2
            unfold Says at HH2
            clear HH b4
            go_wp2_with fail
            refine HH2.out.mono ?_
            rintro e w5 ⟨rfl, b5⟩
            have B5 := stepB B4 b5
            have ha := (Below.refl w5.heap.size w5).alloc (Nat.le_refl _) (.cells #[] 61)
            have HX : Hid (OwnB (w5.alloc (.cells #[] 61)) w5.heap.size 61 2 (some ⟨w5.heap.size, 0, none⟩) 0 0 (flatR [])) := (show OwnB _ _ _ _ _ _ _ _ from OwnB.empty rfl (Nat.le_refl _))
            have HR := Lib.hid (srcR (c := k1) ((HAS.out.below B5).below ha) HAL.out)
            have has : w5.heap.size ≤ (w5.alloc (.cells #[] 61)).heap.size := by simp
            clear HH2 b5 B4
            go_wp2_with (at_builtin; refine wpList_append_ownK (o := ⟨some 80, _, _, _, _, _⟩) rfl (.tmp 78) (.tmp 79) 58 58 rfl 61 ir (.agg #[.int .i32 0, Value.int .i32 0]) 2 8 Try.underlying58 hir hzr0 hzr1 hzr2 rfl w5.heap.size (some ⟨w5.heap.size, 0, none⟩) 0 0 (flatR []) rfl HX.out (.slice A k k1) rfl k (flatR a) HR.out (by omega) (by omega) w5 ha has ?_)
            intro w6 D6 c6 HO6 _ hb6 _
            have HX2 : Hid (OwnB w6 w5.heap.size 61 2 D6 k c6 (flatR a)) := (show OwnB _ _ _ _ _ _ _ _ from HO6.out)
            have HR := Lib.hid (srcR (c := k2) ((HBS.out.below B5).below hb6) HBL.out)
            have hs6 := hb6.size
            clear HX HO6 ha has
            go_wp2_with (at_builtin; refine wpList_append_ownK (o := ⟨some 82, _, _, _, _, _⟩) rfl (.tmp 80) (.tmp 81) 58 58 rfl 61 ir (.agg #[.int .i32 0, Value.int .i32 0]) 2 8 Try.underlying58 hir hzr0 hzr1 hzr2 rfl w5.heap.size D6 k c6 (flatR a) rfl HX2.out (.slice E j k2) rfl j (flatR b) HR.out (by omega) (by omega) w5 hb6 hs6 ?_)
            intro w7 D7 c7 HO7 _ hb7 _
            have HX : Hid (OwnB w7 w5.heap.size 61 2 D7 (k + j) c7 (flatR (a ++ b))) := (show OwnB _ _ _ _ _ _ _ _ from by rw [flatR_app]; exact HO7.out)
            have HM := Lib.hid (make_tells (c := c7) (n := k + j) (by rw [List.length_append, HAL.out, HBL.out]) (by omega) (in_app HAI.out HBI.out) HX.out.sl)
            unfold Tells at HM
            have B7 := stepB B5 hb7
            clear HX HX2 HR HO7 hb6 hs6 B5
            generalize hjn : Cls.mkR (a ++ b) = jn at *
            clear hjn
            obtain ⟨jl, hjln⟩ : ∃ k, jn.length = k := ⟨_, rfl⟩
            rw [hjln] at hjl HM
            have HJL := Lib.hid hjln
            clear hjln hb7
            go_wp2_with fail
            refine HM.out.mono ?_
            rintro e w8 ⟨D8, c8, rfl, o8, b8⟩
            have B8 := stepB B7 b8
            have HOJ := Lib.hid o8
            have HH := Lib.hid (valid_says r _ w8 HV.out)
            unfold Says at HH
            clear HM b8 o8 B7
            go_wp2_with fail
            refine HH.out.mono ?_
            rintro e w9 ⟨rfl, b9⟩
            have B9 := stepB B8 b9
            replace HOJ := Lib.hid (HOJ.out.below b9)
            have HM := Lib.hid (make_tells (c := k1) HAL.out (by omega) HAI.out (HAS.out.below B9))
            unfold Tells at HM
            clear HH b9 B8
            go_wp2_with fail
            refine HM.out.mono ?_
            rintro e w10 ⟨D10, c10, rfl, o10, b10⟩
            have B10 := stepB B9 b10
            replace HOJ := Lib.hid (HOJ.out.below b10)
            have HH := Lib.hid (has_says (c := c10) r rfl (by omega) o10.sl)
            rw [HE1.out] at HH
            unfold Says at HH
            clear HM b10 o10 B9
            go_wp2_with fail
            refine HH.out.mono ?_
            rintro e w11 ⟨rfl, b11⟩
            have B11 := stepB B10 b11
            replace HOJ := Lib.hid (HOJ.out.below b11)
            have HM := Lib.hid (not_tells (c := k1) HAL.out (by omega) HAI.out (HAS.out.below B11))
            unfold Tells at HM
            clear HH b11 B10
            go_wp2_with fail
            refine HM.out.mono ?_
            rintro e w12 ⟨D12, c12, rfl, o12, b12⟩
            have B12 := stepB B11 b12
            replace HOJ := Lib.hid (HOJ.out.below b12)
            have HH := Lib.hid (has_says (c := c12) r rfl (by omega) o12.sl)
            rw [HE2.out] at HH
            unfold Says at HH
            clear HM b12 o12 B11
            go_wp2_with fail
            refine HH.out.mono ?_
            rintro e w13 ⟨rfl, b13⟩
            have B13 := stepB B12 b13
            replace HOJ := Lib.hid (HOJ.out.below b13)
            have HM := Lib.hid (both_tells (c := k1) (f := k2) HAL.out (by omega) HAI.out (HAS.out.below B13) HBL.out (by omega) HBI.out (HBS.out.below B13))
            unfold Tells at HM
            clear HH b13 B12
            go_wp2_with fail
            refine HM.out.mono ?_
            rintro e w14 ⟨D14, c14, rfl, o14, b14⟩
            have B14 := stepB B13 b14
            replace HOJ := Lib.hid (HOJ.out.below b14)
            have HH := Lib.hid (has_says (c := c14) r rfl (by omega) o14.sl)
            rw [HE3.out] at HH
            unfold Says at HH
            clear HM b14 o14 B13
            go_wp2_with fail
            refine HH.out.mono ?_
            rintro e w15 ⟨rfl, b15⟩
            have B15 := stepB B14 b15
            replace HOJ := Lib.hid (HOJ.out.below b15)
            have HH := Lib.hid (has_says (c := c8) r HJL.out (by omega) HOJ.out.sl)
            rw [HE4.out] at HH
            unfold Says at HH
            clear b15 B14
            go_wp2_with fail
            refine HH.out.mono ?_
            rintro e w16 ⟨rfl, b16⟩
            have B16 := stepB B15 b16
            clear HOJ HH b16 B15
            go_wp2_with fail
            refine (runs_says w16).mono ?_
            unfold Says
            rintro e w17 ⟨rfl, b17⟩
            have B17 := stepB B16 b17
            go_wp2_with fail
            go_ret
            exact ⟨rfl, B17⟩
end Go.Proofs.Ytepmnhlfjidhjab
