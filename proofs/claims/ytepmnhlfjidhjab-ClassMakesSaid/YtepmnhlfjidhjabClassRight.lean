/-
  The contracts of class.Right and spoorlaw9.rises.
-/
import Derived.Test.YtepmnhlfjidhjabClassFew
import Derived.Test.YtepmnhlfjidhjabClassM2
import Derived.Lib.QuietBelow
namespace Go.Proofs.Ytepmnhlfjidhjab
open Go.RowKit Go.Mem Go.Sort

set_option maxRecDepth 100000 in
set_option maxHeartbeats 1000000 in
theorem right_calls (A : Option Addr) (n c : Nat) (l : List (Int × Int)) (w : World) (hl : l.length = n) (hn : n ≤ 1000000) (hi : In32 l) (hs : Sl w A (flatR l)) :
    Calls Try.prog 35 #[.slice A n c] w fun e w' => e = .returned (.bool (Cls.rightZ 0 l)) ∧ Below w.heap.size w w' := by
  subst hl
  have HS := Lib.hid hs
  have HI := Lib.hid hi
  clear hs hi
  have HH0 : Hid (Cls.rightZ 0 l = Cls.rightZ 0 (l.drop 0)) := (show _ = _ from rfl)
  go_enter Try.func35, Try.ntmps35
  go_wp2_with fail
  go_loopw [3, 4, 7] (fun _ _ i wr => ∃ (k : Nat) (m : Int), k ≤ l.length ∧ i = .int .i64 k ∧ Hid (Cls.rightZ 0 l = Cls.rightZ m (l.drop k)) ∧ Hid ((k = 0 ∧ m = 0) ∨ ∃ (j : Nat) (p : Int × Int), k = j + 1 ∧ l[j]? = some p ∧ m = p.2 + 2 ∧ 0 ≤ p.2 ∧ p.2 ≤ 1114111) ∧ Below w.heap.size w wr) (fun _ _ i _ => l.length - (intOf i).toNat)
  case atStart => exact ⟨0, 0, Nat.zero_le _, rfl, HH0, (show _ ∨ _ from .inl ⟨rfl, rfl⟩), Below.refl _ _⟩
  case round =>
    clear HH0
    obtain ⟨k, m, hk, rfl, HH, HP, hB⟩ := hrel
    by_cases hlt : k < l.length
    · have hdr := List.drop_eq_getElem_cons hlt
      obtain ⟨b, o, rfl, c1, c2⟩ := Sl.range (HS.out.below hB) (List.getElem?_eq_getElem hlt)
      have HHN : Hid (Cls.rightZ m (l.drop k) = (Cls.okR l[k] && (decide (m ≤ l[k].1) && Cls.rightZ (l[k].2 + 2) (l.drop (k + 1))))) := (show _ = _ by rw [hdr]; rfl)
      have HG0 := Lib.hid (List.getElem?_eq_getElem hlt)
      have hg := HI.out _ (List.getElem_mem hlt)
      generalize l[k] = g at *
      obtain ⟨g1, g2⟩ := g
      simp only at c1 c2 HHN hg
      have i0 : (0 : Int) ≤ (k : Int) := by omega
      have i1 : (k : Int) < (l.length : Int) := by omega
      have hB2 := hB.alloc hB.size (.cells #[.int .i32 g1, .int .i32 g2] 61)
      have hsB2 := hB2.size
      have hG := Blk.new wr 61 #[.int .i32 g1, .int .i32 g2]
      have y1 := cell_regrown (show _ = some (Value.int .i32 g1) from hG.cell 0)
      have y2 := cell_regrown (show _ = some (Value.int .i32 g2) from hG.cell 1)
      obtain ⟨v, hv⟩ : ∃ v, Cls.okR (g1, g2) = v := ⟨_, rfl⟩
      have HRn : Hid (∀ (d : Nat) (os : Array Obj), Calls Try.prog 49 #[.agg #[.int .i32 g1, .int .i32 g2]] (grow (redrawn (wr.alloc (.cells #[.int .i32 g1, .int .i32 g2] 61)) d) os) fun e w'' => e = .returned (.bool v) ∧ ∃ p : Regrown, w'' = grow (redrawn (wr.alloc (.cells #[.int .i32 g1, .int .i32 g2] 61)) p.d) p.os) := (show ∀ (d : Nat) (os : Array Obj), _ from fun d os => by
        rw [← hv]; exact Calls.regrown_of ((runes_calls g1 g2 _).mono (by rintro e w' ⟨h1, rfl⟩; exact ⟨h1, (Below.refl _ _).alloc (Nat.le_refl _) _⟩)))
      rw [hv] at HHN
      have HV := Lib.hid hv
      have HBF : Hid (∀ d os, Below w.heap.size w (grow (redrawn (wr.alloc (.cells #[.int .i32 g1, .int .i32 g2] 61)) d) os)) := (show ∀ _ _, _ from fun d os => hB2.trans ((below_regrown _ d os).mono hsB2))
      have HSB := Lib.hid (HS.out.below (hB.trans ((Below.refl _ _).mono hB.size)))
      clear hdr hB2 hsB2 hG hv
      cases v
      · have HF : Hid (Cls.rightZ 0 l = false) := (show _ = _ by rw [HH.out, HHN.out]; rfl)
        clear HH HHN HP HSB hB HG0
        go_wp2_with fail
        refine wp_region_quiet_below (by kernel_rfl) (by kernel_rfl) ?_
        repeat (go_big_quiet_step (exact HRn.out _ _))
        refine wpQuiet_nil ?_
        intro _ hw'
        obtain ⟨⟨dq, osq⟩, hw''⟩ := hw'
        subst hw''
        go_wp2_with fail
        go_ret
        exact ⟨by rw [HF.out]; rfl, HBF.out _ _⟩
      · have hok : 0 ≤ g1 ∧ 0 ≤ g2 ∧ g2 ≤ 1114111 := by
          have h := HV.out
          unfold Cls.okR at h
          rw [decide_eq_true_iff] at h
          omega
        rcases HP.out with ⟨rfl, rfl⟩ | ⟨j, p, rfl, hp, rfl, p0, p1⟩
        · have HN : Hid (Cls.rightZ 0 l = Cls.rightZ (g2 + 2) (l.drop (0 + 1))) := (show _ = _ by rw [HH.out, HHN.out, decide_eq_true hok.1]; rfl)
          have HP2 : Hid ((0 + 1 = 0 ∧ g2 + 2 = 0) ∨ ∃ (j : Nat) (p : Int × Int), 0 + 1 = j + 1 ∧ l[j]? = some p ∧ g2 + 2 = p.2 + 2 ∧ 0 ≤ p.2 ∧ p.2 ≤ 1114111) := (show _ ∨ _ from .inr ⟨0, (g1, g2), rfl, HG0.out, rfl, hok.2.1, hok.2.2⟩)
          simp only [Nat.zero_mul, Nat.add_zero] at c1 c2
          clear HH HHN HP HV hok HG0 HSB hB
          go_wp2_with fail
          refine wp_region_quiet_below (by kernel_rfl) (by kernel_rfl) ?_
          repeat (go_big_quiet_step (exact HRn.out _ _))
          refine wpQuiet_nil ?_
          intro _ hw'
          obtain ⟨⟨dq, osq⟩, hw''⟩ := hw'
          subst hw''
          go_wp2_with fail
          go_roundw
          case rel => exact ⟨0 + 1, _, by omega, by go_num, HN, HP2, HBF.out _ _⟩
          case measure => simp [intOf]; omega
        · obtain ⟨b2, o2, e2, x1, x2⟩ := Sl.range HSB.out hp
          obtain ⟨rfl, rfl⟩ : b2 = b ∧ o2 = o := by injection e2 with e2; injection e2 with e2 e3; exact ⟨e2.symm, e3.symm⟩
          have x3 := cell_regrown (cell_alloc x2 (.cells #[.int .i32 g1, .int .i32 g2] 61))
          have HP2 : Hid ((j + 1 + 1 = 0 ∧ g2 + 2 = 0) ∨ ∃ (j2 : Nat) (p : Int × Int), j + 1 + 1 = j2 + 1 ∧ l[j2]? = some p ∧ g2 + 2 = p.2 + 2 ∧ 0 ≤ p.2 ∧ p.2 ≤ 1114111) := (show _ ∨ _ from .inr ⟨j + 1, (g1, g2), rfl, HG0.out, rfl, hok.2.1, hok.2.2⟩)
          have e32 : IntKind.i32.wrap (p.2 + 1) = p.2 + 1 := IntWalk.i32_in _ (by omega)
          have j0 : (0 : Int) ≤ (j : Int) := by omega
          have j1 : (j : Int) < (l.length : Int) := by omega
          have j2 : (0 : Int) < (j : Int) + 1 := by omega
          by_cases hle : g1 ≤ p.2 + 1
          · have HF : Hid (Cls.rightZ 0 l = false) := (show _ = _ by rw [HH.out, HHN.out, decide_eq_false (by omega)]; rfl)
            generalize p.2 = p2 at *
            clear HH HHN HP HSB hB HG0 e2 x1 x2 hp p0 p1 HP2 HV hok
            go_wp2_with fail
            refine wp_region_quiet_below (by kernel_rfl) (by kernel_rfl) ?_
            repeat (go_big_quiet_step (exact HRn.out _ _))
            refine wpQuiet_nil ?_
            intro _ hw'
            obtain ⟨⟨dq, osq⟩, hw''⟩ := hw'
            subst hw''
            go_wp2_with fail
            go_ret
            exact ⟨by rw [HF.out]; rfl, HBF.out _ _⟩
          · have HN : Hid (Cls.rightZ 0 l = Cls.rightZ (g2 + 2) (l.drop (j + 1 + 1))) := (show _ = _ by rw [HH.out, HHN.out, decide_eq_true (by omega)]; rfl)
            have hdl : decide (g1 ≤ p.2 + 1) = false := decide_eq_false hle
            generalize p.2 = p2 at *
            clear HH HHN HP HSB hB HG0 e2 x1 x2 hp p0 p1 HV hok
            go_wp2_with fail
            refine wp_region_quiet_below (by kernel_rfl) (by kernel_rfl) ?_
            repeat (go_big_quiet_step (exact HRn.out _ _))
            refine wpQuiet_nil ?_
            intro _ hw'
            obtain ⟨⟨dq, osq⟩, hw''⟩ := hw'
            subst hw''
            go_wp2_with fail
            go_roundw
            case rel => exact ⟨j + 1 + 1, _, by omega, by go_num, HN, HP2, HBF.out _ _⟩
            case measure => simp [intOf]; omega
    · have HF : Hid (Cls.rightZ 0 l = true) := (show _ = _ by rw [HH.out, List.drop_eq_nil_of_le (by omega)]; rfl)
      go_wp2_with fail
      go_ret
      exact ⟨by rw [HF.out]; rfl, hB⟩

set_option maxRecDepth 100000 in
set_option maxHeartbeats 1000000 in
theorem rises_true (A : Option Addr) (n c : Nat) (l : List (Int × Int)) (w : World) (hl : l.length = n) (hn : n ≤ 1000000) (hu : Cls.Up 0 l) (hr : ∀ g ∈ l, Cls.okR g = true) (hs : Sl w A (flatR l)) :
    Calls Try.prog 43 #[.slice A n c] w fun e w' => e = .returned (.bool true) ∧ ∃ q, w' = w.drewN q := by
  subst hl
  have HS := Lib.hid hs
  have HR := Lib.hid hr
  have HU := Lib.hid hu
  clear hs hr hu
  go_enter Try.func43, Try.ntmps43
  go_wp2_with fail
  go_loopw [3] (fun i wr => ∃ (k : Nat), k ≤ l.length ∧ i = .int .i64 k ∧ ∃ q, wr = w.drewN q) (fun i _ => l.length - (intOf i).toNat)
  case atStart => exact ⟨0, Nat.zero_le _, rfl, 0, rfl⟩
  case round =>
    obtain ⟨k, hk, rfl, q, hq⟩ := hrel
    have HSw : Hid (Sl wr A (flatR l)) := (show Sl _ _ _ by rw [hq]; exact HS.out.drewN q)
    have HQ2 : Hid (∀ m, wr.drewN m = w.drewN (q + m)) := (show ∀ m, _ from fun m => by rw [hq, World.drewN_drewN])
    have HQ := Lib.hid hq
    clear hq
    by_cases hlt : k < l.length
    · obtain ⟨b, o, rfl, c1, c2⟩ := Sl.range HSw.out (List.getElem?_eq_getElem hlt)
      have hg := HR.out _ (List.getElem_mem hlt)
      have HG0 := Lib.hid (List.getElem?_eq_getElem hlt)
      generalize l[k] = g at *
      obtain ⟨g1, g2⟩ := g
      unfold Cls.okR at hg
      rw [decide_eq_true_iff] at hg
      simp only at c1 c2 hg
      have i0 : (0 : Int) ≤ (k : Int) := by omega
      have i1 : (k : Int) < (l.length : Int) := by omega
      have hgl : decide (g2 < g1) = false := decide_eq_false (by omega)
      have hv1 : validR g1 = true := decide_eq_true (by omega)
      have hv2 : validR g2 = true := decide_eq_true (by omega)
      have HV1 : Hid (∀ W : World, Calls Try.prog 42 #[.int .i32 g1] W fun e w' => e = .returned (.bool true) ∧ w' = W) := (show ∀ W : World, _ from fun W => by rw [← hv1]; exact (valid_calls g1 W).mono (by rintro e w' ⟨h1, h2⟩; exact ⟨h1, h2.symm⟩))
      have HV2 : Hid (∀ W : World, Calls Try.prog 42 #[.int .i32 g2] W fun e w' => e = .returned (.bool true) ∧ w' = W) := (show ∀ W : World, _ from fun W => by rw [← hv2]; exact (valid_calls g2 W).mono (by rintro e w' ⟨h1, h2⟩; exact ⟨h1, h2.symm⟩))
      have hB3 : g1 < 55296 → decide (57343 < g2) = false := fun h => decide_eq_false (by omega)
      clear hv1 hv2
      match k, hlt, HG0, i0, i1, c1, c2, hk with
      | 0, hlt, HG0, i0, i1, c1, c2, hk =>
        simp only [Nat.zero_mul, Nat.add_zero] at c1 c2
        by_cases h5 : g1 < 55296
        all_goals
          first
          | (have h6 := hB3 h5
             have h7 : decide (g1 < 55296) = true := decide_eq_true h5)
          | (have h7 : decide (g1 < 55296) = false := decide_eq_false h5)
          clear hB3 hg HG0 h5
          go_wp2_with fail
          go_big_quiet (first | (with_reducible exact Calls.quiet_of_same (HV1.out _)) | (with_reducible exact Calls.quiet_of_same (HV2.out _)))
          go_wp2_with fail
          go_roundw
          case rel => exact ⟨0 + 1, by omega, by go_num, _, HQ2.out _⟩
          case measure => simp [intOf]; omega
      | j + 1, hlt, HG0, i0, i1, c1, c2, hk =>
        have hjl : j < l.length := by omega
        have hp0 := List.getElem?_eq_getElem hjl
        have hnx := Cls.Up.next HU.out hp0 HG0.out
        have hp := HR.out _ (List.getElem_mem hjl)
        obtain ⟨b2, o2, e2, x1, x2⟩ := Sl.range HSw.out hp0
        obtain ⟨rfl, rfl⟩ : b2 = b ∧ o2 = o := by injection e2 with e2; injection e2 with e2 e3; exact ⟨e2.symm, e3.symm⟩
        generalize l[j] = p at *
        obtain ⟨p1, p2⟩ := p
        unfold Cls.okR at hp
        rw [decide_eq_true_iff] at hp
        simp only at hp hnx x1 x2
        have e32 : IntKind.i32.wrap (p2 + 1) = p2 + 1 := IntWalk.i32_in _ (by omega)
        have j0 : (0 : Int) ≤ (j : Int) := by omega
        have j1 : (j : Int) < (l.length : Int) := by omega
        have j2 : (0 : Int) < (j : Int) + 1 := by omega
        have j3 : (0 : Int) ≤ (j : Int) + 1 := by omega
        have j4 : (j : Int) + 1 < (l.length : Int) := by omega
        have hdl : decide (g1 ≤ p2 + 1) = false := decide_eq_false (by omega)
        by_cases h5 : g1 < 55296
        all_goals
          first
          | (have h6 := hB3 h5
             have h7 : decide (g1 < 55296) = true := decide_eq_true h5)
          | (have h7 : decide (g1 < 55296) = false := decide_eq_false h5)
          clear hB3 hg HG0 h5 hp hnx hp0 e2 x1
          go_wp2_with fail
          go_big_quiet (first | (with_reducible exact Calls.quiet_of_same (HV1.out _)) | (with_reducible exact Calls.quiet_of_same (HV2.out _)))
          go_wp2_with fail
          go_roundw
          case rel => exact ⟨j + 1 + 1, by omega, by go_num, _, HQ2.out _⟩
          case measure => simp [intOf]; omega
    · go_wp2_with fail
      go_ret
      exact ⟨rfl, _, HQ.out⟩
end Go.Proofs.Ytepmnhlfjidhjab
