/-
  RingPlays, its walk.
-/
import Derived.Test.YtepfmmphajdlfaaRingStep2
import Derived.Test.YtepfmmphajdlfaaStructs
namespace Go.Proofs.Ytepfmmphajdlfaa
open Go.ChangeShapes Go.WideShapes Go.RowKit Go.Mem Go.Law

set_option maxRecDepth 100000 in
theorem open_asks3 {H : Type} {enc : TypeId × Value → H} {W : World} {v : Value} {d : DataW H} {ps : List MemPlace} {b0 : Nat} (hv : Value.okWide Try.prog W .any b0 53 v) (h : DataW.Trod enc Try.prog W 0 (fun _ => true) true 53 v d ps) :
    ∃ (A : Option Addr) (n c : Nat) (rs : List Ask), v = .slice A n c ∧ rs.length = n ∧ n ≤ c ∧ c ≤ maxLen ∧ RowsAt W A 2 (rs.map Ask.cells) ∧ ∀ r ∈ rs, r.ok :=
  open_structs Ask.cells Ask.ok Try.underlying53 (by kernel_rfl) (by decide) (fun _ => rfl) (fun fuel cs x hf => by
    obtain ⟨a, b, rfl, w0, w1⟩ := ints2_of_trod Try.underlying57 rfl rfl Try.underlying3 Try.underlying3 (by kernel_rfl) (by kernel_rfl) (by kernel_rfl) hf
    exact ⟨⟨a, b⟩, rfl, i64_of_wf w0, i64_of_wf w1⟩) hv h

set_option maxRecDepth 100000 in
set_option maxHeartbeats 3200000 in
theorem ringPlays_calls (room : Int) (A : Option Addr) (n cap : Nat) (rs : List Ask) (w : World) (hl : rs.length = n) (hn : n ≤ 9223372036854775807) (hs : RowsAt w A 2 (rs.map Ask.cells)) (hok : ∀ r ∈ rs, r.ok) :
    Calls Try.prog 5 #[.int .i64 room, .slice A n cap] w fun e w' => e = .returned (.bool true) ∧ Below w.heap.size w w' := by
  subst hl
  by_cases hbad : room < 1 ∨ 4096 < room
  · have HN := Lib.hid (newI_bad room w hbad)
    by_cases h1 : room < 1
    all_goals
      first
        | (have hd1 : decide (room < 1) = true := decide_eq_true h1)
        | (have hd1 : decide (room < 1) = false := decide_eq_false h1
           have hd2 : decide (4096 < room) = true := decide_eq_true (by omega))
      clear hbad hs hok
      go_enter Try.func5, Try.ntmps5
      go_wp2_with fail
      refine HN.out.mono ?_
      rintro e w1 ⟨rfl, rfl⟩
      go_wp2_with fail
      refine (ringRuns_calls _).mono ?_
      rintro e w1 ⟨rfl, b1⟩
      go_wp2_with fail
      go_ret
      exact ⟨rfl, b1⟩
  · have hd1 : decide (room < 1) = false := decide_eq_false (by omega)
    have hd2 : decide (4096 < room) = false := decide_eq_false (by omega)
    obtain ⟨room, rfl⟩ := Int.eq_ofNat_of_zero_le (show 0 ≤ room by omega)
    have HN := Lib.hid (newI_ok room w (by omega) (by omega))
    clear hbad
    go_enter Try.func5, Try.ntmps5
    go_wp2_with fail
    refine HN.out.mono ?_
    unfold NewRgI
    rintro e w1 ⟨p, g, rfl, h1, hp, hg, B1⟩
    have hb1 : Hid (Beside w1 p g [] none 0 0) := (show Beside w1 p g [] none 0 0 from ⟨Sl.nil, rfl, Nat.le_refl _, (fun _ _ _ e => by cases e), (fun _ => rfl)⟩)
    have h1' := Lib.hid h1
    clear h1
    go_wp2_with fail
    go_loopw [7, 8, 9] (fun l ok i wr => ∃ (j N c : Nat) (L : Option Addr) (xs : List Int), j ≤ rs.length ∧ i = .int .i64 j ∧ l = .slice L N c ∧ ok = .bool true ∧ Hid (RgI wr p g room xs) ∧ Hid (Beside wr p g xs L N c) ∧ Below w.heap.size w wr) (fun _ _ i _ => rs.length - (intOf i).toNat)
    case atStart => exact ⟨0, 0, 0, none, [], Nat.zero_le _, rfl, rfl, rfl, h1', hb1, B1⟩
    case round =>
      clear h1' hb1 B1
      obtain ⟨j, N, c, L, xs, hj, rfl, rfl, rfl, H, HBs, hB⟩ := hrel
      by_cases hin : j < rs.length ∧ j < 200
      · obtain ⟨hlt, h200⟩ := hin
        have hd3 : decide ((j : Int) < 200) = true := decide_eq_true (by omega)
        obtain ⟨b, o, rfl, hc0, hc1⟩ := (hs.below hB).two (k := j) (List.getElem?_eq_getElem hlt) rfl
        have hr := hok _ (List.getElem_mem hlt)
        generalize rs[j] = a at hc0 hc1 hr
        obtain ⟨ys, hst⟩ := step_calls p g room xs L N c a wr H.out HBs.out hr
        have HST := Lib.hid hst
        clear hst hr
        go_wp2_with fail
        refine HST.out.mono ?_
        unfold StepEnds
        rintro e w2 ⟨L2, N2, c2, rfl, hbs2, h2, f2⟩
        have hB2 := below_ring hB f2 hB.size hp hg
        have HL2 := Lib.hid hbs2.len
        have HBs2 := Lib.hid hbs2
        have hle2 := h2.le
        have hm2 := h2.most
        clear HST HBs H hc0 hc1 hB f2 hbs2
        have hN2 : N2 ≤ 4096 := by have := HL2.out; omega
        go_wp2_with fail
        refine (lenI_calls p g room ys _ h2).mono ?_
        rintro e w3 ⟨rfl, rfl⟩
        rw [HL2.out]
        go_wp2_with fail
        refine (roomI_calls p g room ys _ h2).mono ?_
        rintro e w3 ⟨rfl, rfl⟩
        go_wp2_with fail
        refine (listI_calls p g room ys _ h2).mono ?_
        unfold ListEndsI
        rintro e w3 ⟨rfl, hl3, b3⟩
        have H3 := Lib.hid (h2.below b3)
        have HBs3 := Lib.hid (HBs2.out.fr (Fr.of_below b3))
        have hB3 := hB2.trans (b3.mono hB2.size)
        have hsl := hl3.sl
        have hsl2 := HBs3.out.sl
        clear h2 HBs2 hl3 b3 hB2
        generalize w2.heap.size = q at hsl
        rw [HL2.out]
        go_wp2_with fail
        refine (sameI_calls (some ⟨q, 0, none⟩) L2 N2 N2 N2 c2 ys ys _ HL2.out HL2.out (by omega) (by omega) hsl hsl2).mono ?_
        rintro e w4 ⟨rfl, q4, rfl⟩
        rw [eqL_self]
        have H4 := Lib.hid (H3.out.drewN q4)
        have HBs4 := Lib.hid (HBs3.out.fr ((Fr.refl _ _).drewN q4))
        have hB4 := below_drewN hB3 q4
        clear hsl hsl2 H3 HBs3 hB3
        go_wp2_with fail
        go_roundw
        case rel => exact ⟨j + 1, N2, c2, L2, ys, by omega, by go_num, rfl, rfl, H4, HBs4, hB4⟩
        case measure => simp [intOf]; omega
      · have hd3 : ¬ j < rs.length ∨ ¬ j < 200 := by omega
        clear hin H HBs
        by_cases hlt : j < rs.length
        all_goals
          first
            | (have hd4 : decide ((j : Int) < 200) = false := decide_eq_false (by omega))
            | skip
          clear hd3
          go_wp2_with fail
          refine (ringRuns_calls _).mono ?_
          rintro e w5 ⟨rfl, b5⟩
          go_wp2_with fail
          go_ret
          exact ⟨rfl, hB.trans (b5.mono hB.size)⟩
end Go.Proofs.Ytepfmmphajdlfaa
