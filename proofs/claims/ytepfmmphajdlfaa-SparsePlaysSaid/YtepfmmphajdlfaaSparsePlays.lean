/-
  SparsePlays, its walk.
-/
import Derived.Test.YtepfmmphajdlfaaSparseStep2
import Derived.Test.YtepfmmphajdlfaaStructs
namespace Go.Proofs.Ytepfmmphajdlfaa
open Go.ChangeShapes Go.WideShapes Go.RowKit Go.Mem Go.Law

set_option maxRecDepth 100000 in
set_option maxHeartbeats 3200000 in
theorem sparsePlays_calls (size : Int) (A : Option Addr) (n cap : Nat) (rs : List Ask5) (w : World) (hl : rs.length = n) (hn : n ≤ 9223372036854775807) (hs : RowsAt w A 3 (rs.map Ask5.cells)) (_hok : ∀ r ∈ rs, r.ok) :
    Calls Try.prog 10 #[.int .i64 size, .slice A n cap] w fun e w' => e = .returned (.bool true) ∧ Below w.heap.size w w' := by
  subst hl
  clear _hok
  by_cases hbad : size < 0 ∨ 4096 < size
  · have HN := Lib.hid (snewI_bad size w hbad)
    by_cases h1 : size < 0
    all_goals
      first
        | (have hd1 : decide (size < 0) = true := decide_eq_true h1)
        | (have hd1 : decide (size < 0) = false := decide_eq_false h1
           have hd2 : decide (4096 < size) = true := decide_eq_true (by omega))
      clear hbad hs
      go_enter Try.func10, Try.ntmps10
      go_wp2_with fail
      refine HN.out.mono ?_
      rintro e w1 ⟨rfl, rfl⟩
      go_wp2_with fail
      refine (sparseRuns_calls _).mono ?_
      rintro e w1 ⟨rfl, b1⟩
      go_wp2_with fail
      go_ret
      exact ⟨rfl, b1⟩
  · have hd1 : decide (size < 0) = false := decide_eq_false (by omega)
    have hd2 : decide (4096 < size) = false := decide_eq_false (by omega)
    obtain ⟨sz, rfl⟩ := Int.eq_ofNat_of_zero_le (show 0 ≤ size by omega)
    have HN := Lib.hid (snewI_ok sz w (by omega))
    clear hbad
    go_enter Try.func10, Try.ntmps10
    go_wp2_with fail
    refine HN.out.mono ?_
    unfold NewStI
    rintro e w1 ⟨p, g, rfl, h1, b1⟩
    have H1 := Lib.hid h1
    have HO1 := Lib.hid (OwnB.nil w1 w.heap.size 140 2)
    clear h1 HN
    go_wp2_with fail
    go_loopw [7, 8, 9] (fun l ok i wr => ∃ (j N cD c : Nat) (L D : Option Addr) (xs : List (Nat × Int)), j ≤ rs.length ∧ i = .int .i64 j ∧ l = .slice D N cD ∧ ok = .bool true ∧ N = xs.length ∧ Hid (StI wr w.heap.size p g sz L c xs) ∧ Hid (OwnB wr w.heap.size 140 2 D N cD (flatI xs)) ∧ Below w.heap.size w wr) (fun _ _ i _ => rs.length - (intOf i).toNat)
    case atStart => exact ⟨0, 0, 0, 0, none, none, [], Nat.zero_le _, rfl, rfl, rfl, rfl, H1, HO1, b1⟩
    case round =>
      clear H1 HO1 b1
      obtain ⟨j, N, cD, c, L, D, xs, hj, rfl, rfl, rfl, hN, H, HO, hB⟩ := hrel
      subst hN
      by_cases hin : j < rs.length ∧ j < 200
      · obtain ⟨hlt, h200⟩ := hin
        have hd3 : decide ((j : Int) < 200) = true := decide_eq_true (by omega)
        obtain ⟨b, o, rfl, hc0, hc1, hc2⟩ := (hs.below hB).three (k := j) (List.getElem?_eq_getElem hlt) rfl
        generalize rs[j] = a at hc0 hc1 hc2
        have HST := Lib.hid (step5_calls w.heap.size p g sz c L D cD xs a.k a.i a.x w wr H.out HO.out hB hB.size)
        clear H HO
        go_wp2_with fail
        refine HST.out.mono ?_
        unfold SStepEnds
        rintro e w2 ⟨L2, D2, c2, N2, cD2, ys, rfl, hN2, h2, o2, hB2⟩
        have H2 := Lib.hid h2
        have HO2 := Lib.hid o2
        have hcnt := h2.count
        have hmost := h2.most
        clear HST hc0 hc1 hc2 hB h2 o2
        subst hN2
        have hne : ((ys.length : Int) != (ys.length : Int)) = false := by simp
        go_wp2_with fail
        refine (slenI_calls _ p g sz c2 L2 ys _ H2.out).mono ?_
        rintro e w3 ⟨rfl, rfl⟩
        go_wp2_with fail
        refine (ssizeI_calls _ p g sz c2 L2 ys _ H2.out).mono ?_
        rintro e w3 ⟨rfl, rfl⟩
        go_wp2_with fail
        go_roundw
        case rel => exact ⟨j + 1, _, cD2, c2, L2, D2, ys, by omega, by go_num, rfl, rfl, rfl, H2, HO2, hB2⟩
        case measure => simp [intOf]; omega
      · have hd3 : ¬ j < rs.length ∨ ¬ j < 200 := by omega
        clear hin H HO
        by_cases hlt : j < rs.length
        all_goals
          first
            | (have hd4 : decide ((j : Int) < 200) = false := decide_eq_false (by omega))
            | skip
          clear hd3
          go_wp2_with fail
          refine (sparseRuns_calls _).mono ?_
          rintro e w5 ⟨rfl, b5⟩
          go_wp2_with fail
          go_ret
          exact ⟨rfl, hB.trans (b5.mono hB.size)⟩
end Go.Proofs.Ytepfmmphajdlfaa
