/-
  RingOrder, its walk.
-/
import Derived.Test.YtepfmmphajdlfaaRingStep2
import Derived.Test.YtepfmmphajdlfaaWithin
import Derived.Deep.DeepCutAuto
namespace Go.Proofs.Ytepfmmphajdlfaa
open Go.RowKit Go.Mem

def Ap (D E : Option Addr) : Prop := ∀ g, D = some ⟨g, 0, none⟩ → E ≠ some ⟨g, 0, none⟩
theorem Ap.symm {D E : Option Addr} (h : Ap D E) : Ap E D := fun g h1 h2 => h g h2 h1
/-- what was put, what was taken, and what the ring holds -/
structure Inv (w0 : World) (B p g room : Nat) (w : World) (D : Option Addr) (N c : Nat) (E : Option Addr) (M d : Nat) (ps ts xs : List Int) : Prop where
  ring : RgI w p g room xs
  put : OwnB w B 3 1 D N c (ps.map I64)
  took : OwnB w B 3 1 E M d (ts.map I64)
  ap : Ap D E
  eq : ps = ts ++ xs
  bel : Below w0.heap.size w0 w
  size : B ≤ w.heap.size
  pg : p < B ∧ g < B ∧ w0.heap.size ≤ p ∧ w0.heap.size ≤ g ∧ w0.heap.size ≤ B
section
variable {w0 w w' : World} {B p g room N c M d : Nat} {D E : Option Addr} {ps ts xs : List Int}
theorem Inv.lenN (h : Inv w0 B p g room w D N c E M d ps ts xs) : ps.length = N := by have := h.put.len; rw [List.length_map, Nat.mul_one] at this; exact this
theorem Inv.lenM (h : Inv w0 B p g room w D N c E M d ps ts xs) : ts.length = M := by have := h.took.len; rw [List.length_map, Nat.mul_one] at this; exact this
theorem OwnB.ringfr {D : Option Addr} {k cap : Nat} {pre : List Value} (h : OwnB w B 3 1 D k cap pre) (f : Fr [p, g] w w') (hp : p < B) (hg : g < B) : OwnB w' B 3 1 D k cap pre :=
  h.fr f (fun g' hd hm => by
    have := h.lies (bs := [p, g]) (fun b hb => by simp at hb; omega) _ _ _ hd
    exact this hm)
/-- the ring has turned -/
theorem Inv.turn {xs' : List Int} (h : Inv w0 B p g room w D N c E M d ps ts xs) (hr : RgI w' p g room xs') (f : Fr [p, g] w w') (hps : ps = ts ++ xs') : Inv w0 B p g room w' D N c E M d ps ts xs' := by
  obtain ⟨h1, h2, h3, h4, h5⟩ := h.pg
  exact ⟨hr, OwnB.ringfr h.put f h1 h2, OwnB.ringfr h.took f h1 h2, h.ap, hps, below_ring h.bel f h.bel.size h3 h4, Nat.le_trans h.size f.size, h.pg⟩
end
/-- one is put on the list of what was put: the ring has it already -/
structure InvP (w0 : World) (B p g room : Nat) (w : World) (D : Option Addr) (N c : Nat) (E : Option Addr) (M d : Nat) (ps ts xs : List Int) (x : Int) : Prop where
  ring : RgI w p g room (xs ++ [x])
  put : OwnB w B 3 1 D N c (ps.map I64)
  took : OwnB w B 3 1 E M d (ts.map I64)
  ap : Ap D E
  eq : ps = ts ++ xs
  bel : Below w0.heap.size w0 w
  size : B ≤ w.heap.size
  pg : p < B ∧ g < B ∧ w0.heap.size ≤ p ∧ w0.heap.size ≤ g ∧ w0.heap.size ≤ B

set_option maxRecDepth 100000 in
set_option maxHeartbeats 3200000 in
theorem ringOrder_calls (room : Int) (A T : Option Addr) (n cap m tcap : Nat) (ls tk : List Int) (w : World) (hroom : -9223372036854775808 ≤ room ∧ room ≤ 9223372036854775807) (hl : ls.length = n) (hn : n ≤ 9223372036854775807) (hs : Sl w A (ls.map I64))
    (htl : tk.length = m) (hm : m ≤ 9223372036854775807) (ht : Sl w T (tk.map I64)) (htk : ∀ z ∈ tk, -9223372036854775808 ≤ z ∧ z ≤ 9223372036854775807) :
    Calls Try.prog 6 #[.int .i64 room, .slice A n cap, .slice T m tcap] w fun e w' => e = .returned (.bool true) ∧ Below w.heap.size w w' := by
  subst hl htl
  obtain ⟨i0, hi, hz0, hz1, hz2⟩ := info_parts infoRI
  have hr0 := within_ge room 1 50 (by decide)
  have hr1 := within_le room 1 50 (by decide)
  have HW := Lib.hid (within_calls room 1 50 w (by decide) (by decide) (by decide) hroom)
  generalize within room 1 50 = rr at hr0 hr1 HW
  obtain ⟨rr, rfl⟩ := Int.eq_ofNat_of_zero_le (show 0 ≤ rr by omega)
  clear hroom
  go_enter Try.func6, Try.ntmps6
  go_wp2_with fail
  refine HW.out.mono ?_
  rintro e w0 ⟨rfl, rfl⟩
  go_wp2_with fail
  refine (newI_ok rr w (by omega) (by omega)).mono ?_
  unfold NewRgI
  rintro e w1 ⟨p, g, rfl, h1, hp, hg, b1⟩
  have hlt1 := h1.lt
  have HI : Hid (Inv w w1.heap.size p g rr w1 none 0 0 none 0 0 [] [] []) := (show Inv _ _ _ _ _ _ _ _ _ _ _ _ _ _ _ from ⟨h1, OwnB.nil _ _ _ _, OwnB.nil _ _ _ _, (fun _ e => by cases e), rfl, b1, Nat.le_refl _, hlt1.1, hlt1.2, hp, hg, b1.size⟩)
  have hsB := b1.size
  clear h1 HW b1
  generalize w1.heap.size = B at hlt1 HI hsB
  go_wp2_with fail
  go_loopw [9, 10, 11, 12, 13, 14] (fun pl tl i _ _ _ wr => ∃ (j N c M d : Nat) (D E : Option Addr) (ps ts xs : List Int), j ≤ ls.length ∧ j ≤ 300 ∧ i = .int .i64 j ∧ pl = .slice D N c ∧ tl = .slice E M d ∧ N ≤ j ∧ Hid (Inv w B p g rr wr D N c E M d ps ts xs)) (fun _ _ i _ _ _ _ => 300 - (intOf i).toNat)
  case atStart => exact ⟨0, 0, 0, 0, 0, none, none, [], [], [], Nat.zero_le _, Nat.zero_le _, rfl, rfl, rfl, Nat.le_refl _, HI⟩
  case round =>
    clear HI
    obtain ⟨j, N, c, M, d, D, E, ps, ts, xs, hj, hj3, rfl, rfl, rfl, hNj, HI⟩ := hrel
    by_cases hin : j < ls.length ∧ j < 300
    · obtain ⟨hlt, h30⟩ := hin
      have hd3 : decide ((j : Int) < 300) = true := decide_eq_true (by omega)
      obtain ⟨b, o, rfl, hca⟩ := (hs.below HI.out.bel).int hlt
      have hcb : ∀ w' : World, Below w.heap.size w w' → w'.cell? ⟨b, o + j, none⟩ = some (.int .i64 ls[j]) := fun w' h => by
        obtain ⟨b', o', e, hc⟩ := (hs.below h).int hlt
        obtain ⟨rfl, rfl⟩ : b = b' ∧ o = o' := by injection e with e; injection e with e1 e2; exact ⟨e1, e2⟩
        exact hc
      generalize ls[j] = x at hca hcb
      have HCB := Lib.hid hcb
      clear hcb
      have hP0 := putI_calls p g rr xs x wr HI.out.ring
      generalize hbb : decide (xs.length < rr) = bb at hP0
      have HBB := Lib.hid hbb
      have HP := Lib.hid hP0
      clear hbb hP0
      go_wp2_with fail
      refine HP.out.mono ?_
      unfold RgEndsI
      rintro e w3 ⟨rfl, h3, f3⟩
      go_upto_if 45 with fail
      go_cut [9] (fun s9 wx => ∃ (D' : Option Addr) (N' c' : Nat) (ps' xs' : List Int), s9 = .slice D' N' c' ∧ N' ≤ j + 1 ∧ Hid (Inv w B p g rr wx D' N' c' E M d ps' ts xs'))
      case first =>
        cases bb
        rotate_left
        · have hroom : xs.length < rr := of_decide_eq_true HBB.out
          have hput : putI xs rr x = xs ++ [x] := if_pos hroom
          rw [hput] at h3
          have hpg := HI.out.pg
          have hP3 := OwnB.ringfr HI.out.put f3 hpg.1 hpg.2.1
          have hT3 := OwnB.ringfr HI.out.took f3 hpg.1 hpg.2.1
          have hB3 := below_ring HI.out.bel f3 HI.out.bel.size hpg.2.2.1 hpg.2.2.2.1
          have hsz3 := Nat.le_trans HI.out.size f3.size
          have hca3 := HCB.out _ hB3
          have HH3 := Lib.hid h3
          have HP3 := Lib.hid hP3
          have HT3 := Lib.hid hT3
          have hNN := HI.out.lenN
          have HEQ := Lib.hid HI.out.eq
          have HAP := Lib.hid HI.out.ap
          have hpg1 := hpg.1
          have hpg2 := hpg.2.1
          have HPG := Lib.hid hpg
          clear hput hca HP f3 h3 HI hP3 hT3 hNN hpg hroom
          go_wp2_with (at_builtin; refine wpList_append_ownK (o := ⟨some 52, _, _, _, _, _⟩) rfl (.tmp 46) (.tmp 51) 32 32 rfl 3 i0 (.int .i64 0) 1 8 Try.underlying32 hi hz0 hz1 hz2 rfl B D N c (ps.map I64) rfl (HP3.out.alloc _) (.slice (some ⟨w3.heap.size, 0, none⟩) 1 1) rfl 1 ([x].map I64) (srcSl Try.underlying32 rfl (Sl.new rfl rfl) (I64_one _)) (by omega) (by omega) w3 ((Below.refl _ _).alloc hsz3 _) (by simp; omega) ?_)
          intro w4 D4 c4 HP4 HK4 hb4 hsz4
          have HH4 := Lib.hid (HH3.out.belowB hb4 hpg1 hpg2)
          have HT4 := Lib.hid (HK4.out.own (HT3.out.alloc _) HAP.out)
          have HA4 : Ap D4 E := HK4.out.apart (HT3.out.alloc _) HAP.out
          have HP5 : Hid (OwnB w4 B 3 1 D4 (N + 1) c4 ((ps ++ [x]).map I64)) := by show OwnB _ _ _ _ _ _ _ _; rw [List.map_append]; exact HP4.out
          have hI4 : Hid (Inv w B p g rr w4 D4 (N + 1) c4 E M d (ps ++ [x]) ts (xs ++ [x])) := (show Inv _ _ _ _ _ _ _ _ _ _ _ _ _ _ _ from ⟨HH4.out, HP5.out, HT4.out, HA4, by rw [HEQ.out, List.append_assoc], hB3.trans (hb4.mono (by have := HPG.out; omega)), Nat.le_trans hsz3 hb4.size, HPG.out⟩)
          clear HH3 HP3 HT3 HAP HP4 HK4 hb4 hsz4 HH4 HT4 HA4 HP5 hB3 hca3 HPG HEQ
          go_wp2_with fail
          go_meet
          exact ⟨D4, N + 1, c4, ps ++ [x], xs ++ [x], rfl, by omega, hI4⟩
        · have hroom : ¬ xs.length < rr := of_decide_eq_false HBB.out
          have hput : putI xs rr x = xs := if_neg hroom
          rw [hput] at h3
          have hxr : (xs.length : Int) = (rr : Int) := by have := HI.out.ring.le; omega
          have HXR := Lib.hid hxr
          have hI3 := Lib.hid (HI.out.turn h3 f3 HI.out.eq)
          clear HP f3 hput hxr hca HI
          go_wp2_with fail
          refine (lenI_calls p g rr xs _ h3).mono ?_
          rintro e w4 ⟨rfl, rfl⟩
          rw [HXR.out]
          go_wp2_with fail
          go_meet
          exact ⟨D, N, c, ps, xs, rfl, by omega, hI3⟩
      case rest =>
        obtain ⟨D, N, c, ps, xs, rfl, hN1, HI⟩ := hcut
        clear hca HP HBB h3 f3
        go_upto_if 60 with fail
        go_cut [12] (fun s12 wx => ∃ q : Nat, q ≤ 3 ∧ s12 = .int .i64 q ∧ wx = wc)
        case first =>
          by_cases hjt : j < tk.length
          · obtain ⟨b2, o2, rfl, hcq⟩ := (ht.below HI.out.bel).int hjt
            have hzz := htk _ (List.getElem_mem hjt)
            generalize tk[j] = z at hcq hzz
            have hw0 := within_ge z 0 3 (by decide)
            have hw1 := within_le z 0 3 (by decide)
            go_wp2_with fail
            refine (within_calls z 0 3 _ (by decide) (by decide) (by decide) hzz).mono ?_
            rintro e w4 ⟨rfl, rfl⟩
            generalize within z 0 3 = zz at hw0 hw1
            obtain ⟨zz, rfl⟩ := Int.eq_ofNat_of_zero_le hw0
            go_wp2_with fail
            go_meet
            exact ⟨zz, by omega, rfl, rfl⟩
          · go_wp2_with fail
            go_meet
            exact ⟨0, by omega, rfl, rfl⟩
        case rest =>
          obtain ⟨q, hq, rfl, hw⟩ := hcut
          subst hw
          go_wp2_with fail
          go_loopw [10, 12, 13, 14] (fun tl k _ _ wr => ∃ (q M d : Nat) (E : Option Addr) (ts xs : List Int), q ≤ 3 ∧ k = .int .i64 q ∧ tl = .slice E M d ∧ Hid (Inv w B p g rr wr D N c E M d ps ts xs)) (fun _ k _ _ _ => (intOf k).toNat)
          case atStart => exact ⟨q, M, d, E, ts, xs, hq, rfl, rfl, HI⟩
          case round =>
            clear HI hq
            obtain ⟨q, M, d, E, ts, xs, hq, rfl, rfl, HI⟩ := hrel
            cases q with
            | zero =>
              go_wp2_with fail
              go_roundw
              case rel => exact ⟨j + 1, N, c, M, d, D, E, ps, ts, xs, by omega, by omega, by go_num, rfl, rfl, hN1, HI⟩
              case measure => simp [intOf]; omega
            | succ q =>
              cases xs with
              | nil =>
                have HT := Lib.hid (takeC p g rr [] [] 0 false wr HI.out.ring (by decide) (by decide) rfl)
                go_wp2_with fail
                refine HT.out.mono ?_
                unfold RgEndsI
                rintro e w4 ⟨rfl, h4, f4⟩
                have HI4 := Lib.hid (HI.out.turn h4 f4 HI.out.eq)
                clear HI HT h4 f4
                go_wp2_with fail
                go_roundw
                case rel => exact ⟨j + 1, N, c, M, d, D, E, ps, ts, [], by omega, by omega, by go_num, rfl, rfl, hN1, HI4⟩
                case measure => simp [intOf]; omega
              | cons x r =>
                have HT := Lib.hid (takeC p g rr (x :: r) r x true wr HI.out.ring (by unfold atI; rw [if_pos (by simp)]; rfl) (decide_eq_true (by simp)) rfl)
                go_wp2_with fail
                refine HT.out.mono ?_
                unfold RgEndsI
                rintro e w4 ⟨rfl, h4, f4⟩
                have hpg := HI.out.pg
                have HP3 := Lib.hid (OwnB.ringfr HI.out.put f4 hpg.1 hpg.2.1)
                have HT3 := Lib.hid (OwnB.ringfr HI.out.took f4 hpg.1 hpg.2.1)
                have hB3 := below_ring HI.out.bel f4 HI.out.bel.size hpg.2.2.1 hpg.2.2.2.1
                have hsz3 := Nat.le_trans HI.out.size f4.size
                have HH3 := Lib.hid h4
                have hMl : M + 1 ≤ N := by
                  have e1 := HI.out.lenN
                  have e2 := HI.out.lenM
                  have e3 := HI.out.eq
                  rw [e3] at e1; simp at e1; omega
                have HEQ := Lib.hid HI.out.eq
                have HAP := Lib.hid HI.out.ap
                have hpg1 := hpg.1
                have hpg2 := hpg.2.1
                have HPG := Lib.hid hpg
                clear HI HT h4 f4 hpg
                skip
                go_wp2_with (at_builtin; refine wpList_append_ownK (o := ⟨some 80, _, _, _, _, _⟩) rfl (.tmp 77) (.tmp 79) 32 32 rfl 3 i0 (.int .i64 0) 1 8 Try.underlying32 hi hz0 hz1 hz2 rfl B E M d (ts.map I64) rfl (HT3.out.alloc _) (.slice (some ⟨w4.heap.size, 0, none⟩) 1 1) rfl 1 ([x].map I64) (srcSl Try.underlying32 rfl (Sl.new rfl rfl) (I64_one _)) (by omega) (by omega) w4 ((Below.refl _ _).alloc hsz3 _) (by simp; omega) ?_)
                intro w5 E5 d5 HT4 HK4 hb4 hsz4
                have HH4 := HH3.out.belowB hb4 hpg1 hpg2
                have HP4 := HK4.out.own (HP3.out.alloc _) (Ap.symm HAP.out)
                have HA4 : Ap E5 D := HK4.out.apart (HP3.out.alloc _) (Ap.symm HAP.out)
                have HT5 : OwnB w5 B 3 1 E5 (M + 1) d5 ((ts ++ [x]).map I64) := by rw [List.map_append]; exact HT4.out
                have HI4 : Hid (Inv w B p g rr w5 D N c E5 (M + 1) d5 ps (ts ++ [x]) r) := (show Inv _ _ _ _ _ _ _ _ _ _ _ _ _ _ _ from ⟨HH4, HP4, HT5, Ap.symm HA4, by rw [HEQ.out, List.append_assoc]; rfl, hB3.trans (hb4.mono (by have := HPG.out; omega)), Nat.le_trans hsz3 hb4.size, HPG.out⟩)
                clear HH3 HP3 HT3 HAP HT4 HK4 hb4 hsz4 HH4 HP4 HA4 HT5 hB3 HPG HEQ
                go_wp2_with fail
                go_roundw
                case rel => exact ⟨q, M + 1, d5, E5, ts ++ [x], r, by omega, by go_num, by go_num, HI4⟩
                case measure => simp [intOf]
    · by_cases hlt : j < ls.length
      · have hd4 : decide ((j : Int) < 300) = false := decide_eq_false (by omega)
        clear hin
        go_wp2_with fail
        go_loopw [10, 15, 16] (fun tl _ _ wr => ∃ (M d : Nat) (E : Option Addr) (ts xs : List Int), tl = .slice E M d ∧ Hid (Inv w B p g rr wr D N c E M d ps ts xs)) (fun tl _ _ _ => match tl with | .slice _ n _ => N - n | _ => 0)
        case atStart => exact ⟨M, d, E, ts, xs, rfl, HI⟩
        case round =>
          clear HI
          obtain ⟨M, d, E, ts, xs, rfl, HI⟩ := hrel
          cases xs with
          | nil =>
            have HT := Lib.hid (takeC p g rr [] [] 0 false wr HI.out.ring (by decide) (by decide) rfl)
            go_wp2_with fail
            refine HT.out.mono ?_
            unfold RgEndsI
            rintro e w4 ⟨rfl, h4, f4⟩
            have HI4 := Lib.hid (HI.out.turn h4 f4 HI.out.eq)
            clear HI HT h4 f4
            go_wp2_with fail
            have HSm := Lib.hid (show ps = ts by have := HI4.out.eq; simpa using this)
            have hNb : N ≤ 300 := (by omega)
            have hMN : M = N := by have e1 := HI4.out.lenN; have e2 := HI4.out.lenM; have e3 := HSm.out; rw [e3] at e1; omega
            refine (sameI_calls D E N M c d ps ts _ HI4.out.lenN HI4.out.lenM (by omega) (by omega) HI4.out.put.sl HI4.out.took.sl).mono ?_
            rintro e w5 ⟨rfl, q5, rfl⟩
            rw [HSm.out, eqL_self]
            have hr5 := HI4.out.ring.drewN q5
            have hB5 := below_drewN HI4.out.bel q5
            clear HI4 HSm
            go_wp2_with fail
            refine (lenI_calls p g rr [] _ hr5).mono ?_
            rintro e w6 ⟨rfl, rfl⟩
            go_wp2_with fail
            refine (ringRuns_calls _).mono ?_
            rintro e w8 ⟨rfl, b8⟩
            go_wp2_with fail
            go_ret
            exact ⟨rfl, hB5.trans (b8.mono hB5.size)⟩
          | cons x r =>
            have HT := Lib.hid (takeC p g rr (x :: r) r x true wr HI.out.ring (by unfold atI; rw [if_pos (by simp)]; rfl) (decide_eq_true (by simp)) rfl)
            go_wp2_with fail
            refine HT.out.mono ?_
            unfold RgEndsI
            rintro e w4 ⟨rfl, h4, f4⟩
            have hpg := HI.out.pg
            have HP3 := Lib.hid (OwnB.ringfr HI.out.put f4 hpg.1 hpg.2.1)
            have HT3 := Lib.hid (OwnB.ringfr HI.out.took f4 hpg.1 hpg.2.1)
            have hB3 := below_ring HI.out.bel f4 HI.out.bel.size hpg.2.2.1 hpg.2.2.2.1
            have hsz3 := Nat.le_trans HI.out.size f4.size
            have HH3 := Lib.hid h4
            have hMl : M + 1 ≤ N := by
              have e1 := HI.out.lenN
              have e2 := HI.out.lenM
              have e3 := HI.out.eq
              rw [e3] at e1; simp at e1; omega
            have HEQ := Lib.hid HI.out.eq
            have HAP := Lib.hid HI.out.ap
            have hpg1 := hpg.1
            have hpg2 := hpg.2.1
            have HPG := Lib.hid hpg
            clear HI HT h4 f4 hpg
            have hcmp : decide ((N : Int) < (M : Int)) = false := decide_eq_false (by omega)
            go_wp2_with (at_builtin; refine wpList_append_ownK (o := ⟨some 107, _, _, _, _, _⟩) rfl (.tmp 104) (.tmp 106) 32 32 rfl 3 i0 (.int .i64 0) 1 8 Try.underlying32 hi hz0 hz1 hz2 rfl B E M d (ts.map I64) rfl (HT3.out.alloc _) (.slice (some ⟨w4.heap.size, 0, none⟩) 1 1) rfl 1 ([x].map I64) (srcSl Try.underlying32 rfl (Sl.new rfl rfl) (I64_one _)) (by omega) (by omega) w4 ((Below.refl _ _).alloc hsz3 _) (by simp; omega) ?_)
            intro w5 E5 d5 HT4 HK4 hb4 hsz4
            have HH4 := HH3.out.belowB hb4 hpg1 hpg2
            have HP4 := HK4.out.own (HP3.out.alloc _) (Ap.symm HAP.out)
            have HA4 : Ap E5 D := HK4.out.apart (HP3.out.alloc _) (Ap.symm HAP.out)
            have HT5 : OwnB w5 B 3 1 E5 (M + 1) d5 ((ts ++ [x]).map I64) := by rw [List.map_append]; exact HT4.out
            have HI4 : Hid (Inv w B p g rr w5 D N c E5 (M + 1) d5 ps (ts ++ [x]) r) := (show Inv _ _ _ _ _ _ _ _ _ _ _ _ _ _ _ from ⟨HH4, HP4, HT5, Ap.symm HA4, by rw [HEQ.out, List.append_assoc]; rfl, hB3.trans (hb4.mono (by have := HPG.out; omega)), Nat.le_trans hsz3 hb4.size, HPG.out⟩)
            clear HH3 HP3 HT3 HAP HT4 HK4 hb4 hsz4 HH4 HP4 HA4 HT5 hB3 HPG HEQ
            go_wp2_with fail
            go_roundw
            case rel => exact ⟨M + 1, d5, E5, ts ++ [x], r, by go_num, HI4⟩
            case measure => simp; omega
      · clear hin
        go_wp2_with fail
        go_loopw [10, 15, 16] (fun tl _ _ wr => ∃ (M d : Nat) (E : Option Addr) (ts xs : List Int), tl = .slice E M d ∧ Hid (Inv w B p g rr wr D N c E M d ps ts xs)) (fun tl _ _ _ => match tl with | .slice _ n _ => N - n | _ => 0)
        case atStart => exact ⟨M, d, E, ts, xs, rfl, HI⟩
        case round =>
          clear HI
          obtain ⟨M, d, E, ts, xs, rfl, HI⟩ := hrel
          cases xs with
          | nil =>
            have HT := Lib.hid (takeC p g rr [] [] 0 false wr HI.out.ring (by decide) (by decide) rfl)
            go_wp2_with fail
            refine HT.out.mono ?_
            unfold RgEndsI
            rintro e w4 ⟨rfl, h4, f4⟩
            have HI4 := Lib.hid (HI.out.turn h4 f4 HI.out.eq)
            clear HI HT h4 f4
            go_wp2_with fail
            have HSm := Lib.hid (show ps = ts by have := HI4.out.eq; simpa using this)
            have hNb : N ≤ 300 := (by omega)
            have hMN : M = N := by have e1 := HI4.out.lenN; have e2 := HI4.out.lenM; have e3 := HSm.out; rw [e3] at e1; omega
            refine (sameI_calls D E N M c d ps ts _ HI4.out.lenN HI4.out.lenM (by omega) (by omega) HI4.out.put.sl HI4.out.took.sl).mono ?_
            rintro e w5 ⟨rfl, q5, rfl⟩
            rw [HSm.out, eqL_self]
            have hr5 := HI4.out.ring.drewN q5
            have hB5 := below_drewN HI4.out.bel q5
            clear HI4 HSm
            go_wp2_with fail
            refine (lenI_calls p g rr [] _ hr5).mono ?_
            rintro e w6 ⟨rfl, rfl⟩
            go_wp2_with fail
            refine (ringRuns_calls _).mono ?_
            rintro e w8 ⟨rfl, b8⟩
            go_wp2_with fail
            go_ret
            exact ⟨rfl, hB5.trans (b8.mono hB5.size)⟩
          | cons x r =>
            have HT := Lib.hid (takeC p g rr (x :: r) r x true wr HI.out.ring (by unfold atI; rw [if_pos (by simp)]; rfl) (decide_eq_true (by simp)) rfl)
            go_wp2_with fail
            refine HT.out.mono ?_
            unfold RgEndsI
            rintro e w4 ⟨rfl, h4, f4⟩
            have hpg := HI.out.pg
            have HP3 := Lib.hid (OwnB.ringfr HI.out.put f4 hpg.1 hpg.2.1)
            have HT3 := Lib.hid (OwnB.ringfr HI.out.took f4 hpg.1 hpg.2.1)
            have hB3 := below_ring HI.out.bel f4 HI.out.bel.size hpg.2.2.1 hpg.2.2.2.1
            have hsz3 := Nat.le_trans HI.out.size f4.size
            have HH3 := Lib.hid h4
            have hMl : M + 1 ≤ N := by
              have e1 := HI.out.lenN
              have e2 := HI.out.lenM
              have e3 := HI.out.eq
              rw [e3] at e1; simp at e1; omega
            have HEQ := Lib.hid HI.out.eq
            have HAP := Lib.hid HI.out.ap
            have hpg1 := hpg.1
            have hpg2 := hpg.2.1
            have HPG := Lib.hid hpg
            clear HI HT h4 f4 hpg
            have hcmp : decide ((N : Int) < (M : Int)) = false := decide_eq_false (by omega)
            go_wp2_with (at_builtin; refine wpList_append_ownK (o := ⟨some 107, _, _, _, _, _⟩) rfl (.tmp 104) (.tmp 106) 32 32 rfl 3 i0 (.int .i64 0) 1 8 Try.underlying32 hi hz0 hz1 hz2 rfl B E M d (ts.map I64) rfl (HT3.out.alloc _) (.slice (some ⟨w4.heap.size, 0, none⟩) 1 1) rfl 1 ([x].map I64) (srcSl Try.underlying32 rfl (Sl.new rfl rfl) (I64_one _)) (by omega) (by omega) w4 ((Below.refl _ _).alloc hsz3 _) (by simp; omega) ?_)
            intro w5 E5 d5 HT4 HK4 hb4 hsz4
            have HH4 := HH3.out.belowB hb4 hpg1 hpg2
            have HP4 := HK4.out.own (HP3.out.alloc _) (Ap.symm HAP.out)
            have HA4 : Ap E5 D := HK4.out.apart (HP3.out.alloc _) (Ap.symm HAP.out)
            have HT5 : OwnB w5 B 3 1 E5 (M + 1) d5 ((ts ++ [x]).map I64) := by rw [List.map_append]; exact HT4.out
            have HI4 : Hid (Inv w B p g rr w5 D N c E5 (M + 1) d5 ps (ts ++ [x]) r) := (show Inv _ _ _ _ _ _ _ _ _ _ _ _ _ _ _ from ⟨HH4, HP4, HT5, Ap.symm HA4, by rw [HEQ.out, List.append_assoc]; rfl, hB3.trans (hb4.mono (by have := HPG.out; omega)), Nat.le_trans hsz3 hb4.size, HPG.out⟩)
            clear HH3 HP3 HT3 HAP HT4 HK4 hb4 hsz4 HH4 HP4 HA4 HT5 hB3 HPG HEQ
            go_wp2_with fail
            go_roundw
            case rel => exact ⟨M + 1, d5, E5, ts ++ [x], r, by go_num, HI4⟩
            case measure => simp; omega
end Go.Proofs.Ytepfmmphajdlfaa
