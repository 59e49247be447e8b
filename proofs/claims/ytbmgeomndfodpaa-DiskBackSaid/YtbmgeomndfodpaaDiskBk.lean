/-
  DiskBack: Back of all changes nothing; Back of n and then the same calls.
-/
import Derived.Test.YtbmgeomndfodpaaDiskPair
import Derived.Test.YtbmgeomndfodpaaDiskAsk
import Derived.Test.YtbmgeomndfodpaaWithin
import Derived.Deep.CutBlock
namespace Go.Proofs.Ytbmgeomndfodpaa
open Go.RowKit Go.Mem Go.Proofs Go.Law

/-- the first t of the two disks have W', the others W -/
def PT (K N : Nat) (w0 w : World) (d e bp t : Nat) (W W' : List MW) : Prop := PairD K N w0 w d e [] [] (if 1 ≤ t then W' else W) (if 2 ≤ t then W' else W) (fun g => g = bp) ∧ Blk w bp 63 [.pointer (some ⟨d, 0, none⟩), .pointer (some ⟨e, 0, none⟩)]
theorem PT.drewN {K N : Nat} {w0 w : World} {d e bp t : Nat} {W W' : List MW} (h : PT K N w0 w d e bp t W W') (q : Nat) : PT K N w0 (w.drewN q) d e bp t W W' := ⟨h.1.below (below_drewN (Below.refl _ _) q), h.2⟩
/-- one call on the t-th -/
theorem PT.step {K N c : Nat} {w0 w : World} {d e bp t : Nat} {W W' : List MW} (h : PT K N w0 w d e bp t W W') (ht : t < 2) {f : FuncId} (args : Nat → Array Value) {v : Value}
    (hc : ∀ K N x w1 S, DV K N w1 w0.heap.size x [] W S → K + 1 ≤ 90000 → N + c ≤ 100000000000 → Below w0.heap.size w0 w1 → Calls Try.prog f (args x) w1 (DE (K + 1) (N + c) w1 w0.heap.size x v [] W' S)) (hK : K + 1 ≤ 90000) (hN : N + c ≤ 100000000000) :
    Calls Try.prog f (args (if t = 0 then d else e)) w fun en w' => en = .returned v ∧ PT (K + 1) (N + c) w0 w' d e bp (t + 1) W W' := by
  obtain ⟨hp, hb⟩ := h
  have hbw : Below w0.heap.size w0 w := by obtain ⟨_, _, _, _, _, h4, _⟩ := hp; exact h4
  have h01 : t = 0 ∨ t = 1 := by omega
  rcases h01 with rfl | rfl
  · refine (hp.left (by omega) (by omega) (fun S hd => hc K N d w S hd hK hN hbw)).mono ?_
    rintro en w' ⟨rfl, h2, hk⟩
    exact ⟨rfl, h2, (hk.out bp rfl).trans hb⟩
  · refine (hp.swap.left (by omega) (by omega) (fun S hd => hc K N e w S hd hK hN hbw)).mono ?_
    rintro en w' ⟨rfl, h2, hk⟩
    exact ⟨rfl, h2.swap, (hk.out bp rfl).trans hb⟩
theorem PT.same {K N c : Nat} {w0 w : World} {d e bp t : Nat} {W : List MW} (h : PT K N w0 w d e bp t W W) (t' : Nat) : PT (K + 1) (N + c) w0 w d e bp t' W W := by
  obtain ⟨h1, h2⟩ := h
  refine ⟨?_, h2⟩
  simp only [ite_self] at h1 ⊢
  exact h1.mono (by omega) (by omega)
theorem DE.mono {K N K' N' : Nat} {w : World} {B d : Nat} {v : Value} {M : FS} {W : List MW} {S : Nat → Prop} {e : Ending} {w' : World} (h : DE K N w B d v M W S e w') (hK : K ≤ K') (hN : N ≤ N') : DE K' N' w B d v M W S e w' := by
  obtain ⟨h1, S', h2, h3, h4⟩ := h
  exact ⟨h1, S', h2.mono hK hN, h3, h4⟩
set_option maxRecDepth 100000 in
set_option maxHeartbeats 6400000 in
theorem diskBack_calls (A0 : Option Addr) (n0 c0 : Nat) (rs0 : List Ask5) (a : Int) (w : World) (hl0 : rs0.length = n0) (hs0 : RowsAt w A0 5 (rs0.map Ask5.cells)) (hok0 : ∀ r ∈ rs0, r.Ok w) (ha : -9223372036854775808 ≤ a ∧ a ≤ 9223372036854775807) : Calls Try.prog 11 #[.slice A0 n0 c0, .int .i64 a] w fun e w' => e = .returned (.bool true) ∧ Below w.heap.size w w' := by
  have HROW : Hid (∀ j (h : j < rs0.length), rs0[j].Ok w) := (show ∀ j h, _ from fun j h => hok0 _ (List.getElem_mem h))
  have HCELL : Hid (∀ W : World, Below w.heap.size w W → ∀ (j : Nat) (r : Ask5), rs0[j]? = some r → ∃ b o, A0 = some ⟨b, o, none⟩ ∧ W.cell? ⟨b, o + j * 5, none⟩ = some (.int .i64 r.kind) ∧ W.cell? ⟨b, o + j * 5 + 1, none⟩ = some (.int .i64 r.n) ∧ W.cell? ⟨b, o + j * 5 + 2, none⟩ = some (.string r.name) ∧ W.cell? ⟨b, o + j * 5 + 3, none⟩ = some (.string r.to_) ∧ W.cell? ⟨b, o + j * 5 + 4, none⟩ = some (.slice r.A r.data.length r.c)) := (show ∀ W : World, _ from fun W hW j r hr => by
    obtain ⟨b, o, e, q0, q1, q2, q3, q4⟩ := RowsAt.five5 hs0 hr
    have kp : ∀ {x v}, w.cell? ⟨b, x, none⟩ = some v → W.cell? ⟨b, x, none⟩ = some v := fun {x v} h => (hW.cell (p := ⟨b, x, none⟩) (lt_of_cell h)).trans h
    exact ⟨b, o, e, kp q0, kp q1, kp q2, kp q3, kp q4⟩)
  have HL0 := Lib.hid hl0
  clear hs0 hok0 hl0
  go_enter Try.func11, Try.ntmps11
  go_wp2_with fail
  refine (dnew_calls w).mono ?_
  rintro e w1 ⟨d, S1, rfl, h1, b1⟩
  go_wp2_with fail
  refine (dnew_calls w1).mono ?_
  rintro e w2 ⟨e2, S2, rfl, h2, b2⟩
  have HP2 : Hid (PairD 0 0 w w2 d e2 [] [] [] [] (fun _ => False)) := (show PairD _ _ _ _ _ _ _ _ _ _ _ from ⟨S1, S2, h1.below b2, h2.low b1.size, fun g p q => by have := (h1.y.lt g p).2; have := (h2.y.lt g q).1; omega, b1.trans (b2.mono b1.size), fun g hg => hg.elim⟩)
  clear h1 b1 h2 b2
  go_upto_block 0 with fail
  go_cut [7, 9] from 22 to 111 (fun s7 s9 wx => ∃ W, Hid (PairD 90 2000000000 w wx d e2 [] [] W W (fun _ => False)))
  case first =>
    go_wp2_with fail
    go_loopw [7, 9] (fun s7 _ wr => ∃ (j : Nat) (W : List MW), j ≤ 40 ∧ j ≤ n0 ∧ s7 = .int .i64 j ∧ Hid (PairD (2 * j) (2 * j * 16777217) w wr d e2 [] [] W W (fun _ => False))) (fun s7 _ _ => 40 - (intOf s7).toNat)
    case atStart => exact ⟨0, [], by decide, Nat.zero_le _, rfl, HP2⟩
    case round =>
      obtain ⟨j, W, hj, hjn, rfl, HP⟩ := hrel
      by_cases hin : j < n0 ∧ j < 40
      · obtain ⟨hlt, h40⟩ := hin
        have i0 : (0 : Int) ≤ (j : Int) := by omega
        have i1 : (j : Int) < (n0 : Int) := by omega
        have i2 : (j : Int) < 40 := by omega
        have hw1 : IntKind.i64.wrap ((j : Int) + 1) = (j : Int) + 1 := by rw [IntKind.wrap_i64]; omega
        have hjl : j < rs0.length := by rw [HL0.out]; exact hlt
        have hbw : Below w.heap.size w wr := by obtain ⟨_, _, _, _, _, h4, _⟩ := HP.out; exact h4
        obtain ⟨b, o, eA, q0, q1, q2, q3, q4⟩ := HCELL.out wr hbw j rs0[j] (List.getElem?_eq_getElem hjl)
        have HOK := Lib.hid (HROW.out j hjl)
        have HRJ := Lib.hid (List.getElem?_eq_getElem hjl)
        have HNX : Hid (PairD (2 * (j + 1)) (2 * (j + 1) * 16777217) w wr d e2 [] [] W W (fun _ => False)) := (show PairD _ _ _ _ _ _ _ _ _ _ _ from HP.out.mono (by omega) (by omega))
        generalize rs0[j] = r at *
        obtain ⟨r1, r2, r3, r4, r5, r6, r7⟩ := r
        simp only at q0 q1 q2 q3 q4
        obtain ⟨dn, hdn⟩ : ∃ dn, r7.length = dn := ⟨_, rfl⟩
        have HDN := Lib.hid hdn
        rw [hdn] at q4
        clear hdn hbw
        subst eA
        by_cases hbig : 300 < dn
        · have g1 : (300 : Int) < (dn : Int) := by omega
          go_wp2_with fail
          exact ⟨⟨j + 1, W, by omega, by omega, by simp, HNX⟩, by simp [intOf]; omega⟩
        · have g1 : ¬ (300 : Int) < (dn : Int) := by omega
          by_cases hk4 : 4 < r1
          · go_wp2_with fail
            exact ⟨⟨j + 1, W, by omega, by omega, by simp, HNX⟩, by simp [intOf]; omega⟩
          · have g2 : ¬ (4 : Int) < r1 := hk4
            clear HNX
            -- what the call makes of the writes
            obtain ⟨W', hW'⟩ : ∃ W', W' = (if r1 = 1 then W ++ dappW r3 r7 (replay [] W) else if r1 = 2 then W ++ drenW r3 r4 (replay [] W) else if r1 = 3 then W ++ dcutW r3 r2 (replay [] W) else if r1 = 4 then W ++ dremW r3 (replay [] W) else W) := ⟨_, rfl⟩
            have HW' := Lib.hid hW'
            clear hW'
            have HPT : Hid (PT (2 * j + 0) ((2 * j + 0) * 16777217) w (wr.alloc (.cells #[.pointer (some ⟨d, 0, none⟩), .pointer (some ⟨e2, 0, none⟩)] 63)) d e2 wr.heap.size 0 W W') := (show PT _ _ _ _ _ _ _ _ _ _ from ⟨HP.out.more (fun g hg => by subst hg; exact ⟨Nat.le_refl _, by simp⟩) ((Below.refl _ _).alloc (Nat.le_refl _) _), Blk.new wr 63 #[.pointer (some ⟨d, 0, none⟩), .pointer (some ⟨e2, 0, none⟩)]⟩)
            clear HP
            have HQA : Hid (∀ (x : Nat) (v : Value), wr.cell? ⟨b, x, none⟩ = some v → (wr.alloc (.cells #[.pointer (some ⟨d, 0, none⟩), .pointer (some ⟨e2, 0, none⟩)] 63)).cell? ⟨b, x, none⟩ = some v) := (show ∀ x v, _ from fun x v h => cell_alloc h _)
            have a0 := HQA.out _ _ q0
            have a1 := HQA.out _ _ q1
            have a2 := HQA.out _ _ q2
            have a3 := HQA.out _ _ q3
            have a4 := HQA.out _ _ q4
            clear HQA
            go_upto_block 2 with fail
            clear q0 q1 q2 q3 q4
            generalize wr.alloc (.cells #[.pointer (some ⟨d, 0, none⟩), .pointer (some ⟨e2, 0, none⟩)] 63) = wa at *
            generalize wr.heap.size = bp at *
            go_wp2_with fail
            go_loopw [9, 51] (fun _ s51 wq => ∃ (t : Nat), t ≤ 2 ∧ s51 = .int .i64 t ∧ Hid (PT (2 * j + t) ((2 * j + t) * 16777217) w wq d e2 bp t W W')) (fun _ s51 _ => 2 - (intOf s51).toNat)
            case atStart => exact ⟨0, by decide, rfl, HPT⟩
            case round =>
              obtain ⟨t, ht, rfl, HT⟩ := hrel
              clear HPT
              by_cases ht2 : t < 2
              · have t0 : (0 : Int) ≤ (t : Int) := by omega
                have t1 : (t : Int) < 2 := by omega
                have hw2 : IntKind.i64.wrap ((t : Int) + 1) = (t : Int) + 1 := by rw [IntKind.wrap_i64]; omega
                have hbq : Below w.heap.size w wr := by obtain ⟨_, _, _, _, _, h4, _⟩ := HT.out.1; exact h4
                obtain ⟨b', o', eA, q0, q1, q2, q3, q4⟩ := HCELL.out wr hbq j _ HRJ.out
                injection eA with eA
                injection eA with eA1 eA2
                subst eA1
                subst eA2
                simp only at q0 q1 q2 q3 q4
                rw [HDN.out] at q4
                obtain ⟨xp, hxp⟩ : ∃ xp, (if t = 0 then d else e2) = xp := ⟨_, rfl⟩
                have px : wr.cell? ⟨bp, t, none⟩ = some (.pointer (some ⟨xp, 0, none⟩)) := by
                  have h01 : t = 0 ∨ t = 1 := by omega
                  rcases h01 with rfl | rfl
                  · rw [← hxp]; exact HT.out.2.cell 0
                  · rw [← hxp]; exact HT.out.2.cell 1
                have HXP := Lib.hid hxp
                clear hxp hbq
                have hkk : r1 = 1 ∨ r1 = 2 ∨ r1 = 3 ∨ r1 = 4 ∨ (¬ r1 = 1 ∧ ¬ r1 = 2 ∧ ¬ r1 = 3 ∧ ¬ r1 = 4) := by omega
                rcases hkk with rfl | rfl | rfl | rfl | ⟨x1, x2, x3, x4⟩
                · have hW2 := HW'.out
                  rw [if_pos rfl] at hW2
                  have HC : Hid (Calls Try.prog 34 #[.pointer (some ⟨xp, 0, none⟩), .string r3, .slice r5 dn r6] (wr.drewN 1) fun en w' => en = .returned (.int .i64 (dappNo r3 r7 (replay [] W))) ∧ Hid (PT (2 * j + (t + 1)) ((2 * j + (t + 1)) * 16777217) w w' d e2 bp (t + 1) W W')) := (show Calls _ _ _ _ _ from by
                    rw [← HXP.out]
                    refine ((HT.out.drewN 1).step (c := 16777217) (v := .int .i64 (dappNo r3 r7 (replay [] W))) (by omega) (fun x => #[.pointer (some ⟨x, 0, none⟩), .string r3, .slice r5 dn r6]) (fun K N x w1 S hd hK hN hb => ?_) (by omega) (by omega)).mono ?_
                    · exact dappendW hd r3 r5 dn r6 r7 rfl hW2.symm HDN.out HOK.out.sl hb HOK.out.name rfl rfl hK hN
                    · rintro en w' ⟨rfl, h⟩
                      refine ⟨rfl, (show PT _ _ _ _ _ _ _ _ _ _ from ?_)⟩
                      have e1 : (2 * j + (t + 1)) * 16777217 = (2 * j + t) * 16777217 + 16777217 := by omega
                      rw [e1]
                      exact h)
                  clear HT hW2
                  go_upto_region 13 with fail
                  go_region_with (go_at_call 34; refine HC.out.mono ?_; rintro en w4 ⟨rfl, HT4⟩)
                  all_goals
                    go_wp2_with fail
                    exact ⟨⟨t + 1, by omega, by simp, HT4⟩, by simp [intOf]; omega⟩
                · have hW2 := HW'.out
                  rw [if_neg (by decide), if_pos rfl] at hW2
                  have HC : Hid (Calls Try.prog 36 #[.pointer (some ⟨xp, 0, none⟩), .string r3, .string r4] (wr.drewN 1) fun en w' => en = .returned (.int .i64 (drenNo r3 r4 (replay [] W))) ∧ Hid (PT (2 * j + (t + 1)) ((2 * j + (t + 1)) * 16777217) w w' d e2 bp (t + 1) W W')) := (show Calls _ _ _ _ _ from by
                    rw [← HXP.out]
                    refine ((HT.out.drewN 1).step (c := 16777217) (v := .int .i64 (drenNo r3 r4 (replay [] W))) (by omega) (fun x => #[.pointer (some ⟨x, 0, none⟩), .string r3, .string r4]) (fun K N x w1 S hd hK hN hb => ?_) (by omega) (by omega)).mono ?_
                    · exact (drenameV hd r3 r4 rfl hW2.symm HOK.out.to_ (by omega) rfl (by omega)).mono fun _ _ h => h.mono (by omega) (by omega)
                    · rintro en w' ⟨rfl, h⟩
                      refine ⟨rfl, (show PT _ _ _ _ _ _ _ _ _ _ from ?_)⟩
                      have e1 : (2 * j + (t + 1)) * 16777217 = (2 * j + t) * 16777217 + 16777217 := by omega
                      rw [e1]
                      exact h)
                  clear HT hW2
                  go_upto_region 15 with fail
                  go_region_with (go_at_call 36; refine HC.out.mono ?_; rintro en w4 ⟨rfl, HT4⟩)
                  all_goals
                    go_wp2_with fail
                    exact ⟨⟨t + 1, by omega, by simp, HT4⟩, by simp [intOf]; omega⟩
                · have hW2 := HW'.out
                  rw [if_neg (by decide), if_neg (by decide), if_pos rfl] at hW2
                  have HC : Hid (Calls Try.prog 42 #[.pointer (some ⟨xp, 0, none⟩), .string r3, .int .i64 r2] (wr.drewN 1) fun en w' => en = .returned (.int .i64 (dcutNo r3 r2 (replay [] W))) ∧ Hid (PT (2 * j + (t + 1)) ((2 * j + (t + 1)) * 16777217) w w' d e2 bp (t + 1) W W')) := (show Calls _ _ _ _ _ from by
                    rw [← HXP.out]
                    refine ((HT.out.drewN 1).step (c := 16777217) (v := .int .i64 (dcutNo r3 r2 (replay [] W))) (by omega) (fun x => #[.pointer (some ⟨x, 0, none⟩), .string r3, .int .i64 r2]) (fun K N x w1 S hd hK hN hb => ?_) (by omega) (by omega)).mono ?_
                    · exact (dcutV hd r3 r2 rfl hW2.symm (by omega) rfl (by omega)).mono fun _ _ h => h.mono (by omega) (by omega)
                    · rintro en w' ⟨rfl, h⟩
                      refine ⟨rfl, (show PT _ _ _ _ _ _ _ _ _ _ from ?_)⟩
                      have e1 : (2 * j + (t + 1)) * 16777217 = (2 * j + t) * 16777217 + 16777217 := by omega
                      rw [e1]
                      exact h)
                  clear HT hW2
                  go_upto_region 17 with fail
                  go_region_with (go_at_call 42; refine HC.out.mono ?_; rintro en w4 ⟨rfl, HT4⟩)
                  all_goals
                    go_wp2_with fail
                    exact ⟨⟨t + 1, by omega, by simp, HT4⟩, by simp [intOf]; omega⟩
                · have hW2 := HW'.out
                  rw [if_neg (by decide), if_neg (by decide), if_neg (by decide), if_pos rfl] at hW2
                  have HC : Hid (Calls Try.prog 43 #[.pointer (some ⟨xp, 0, none⟩), .string r3] wr fun en w' => en = .returned (.int .i64 (dremNo r3 (replay [] W))) ∧ Hid (PT (2 * j + (t + 1)) ((2 * j + (t + 1)) * 16777217) w w' d e2 bp (t + 1) W W')) := (show Calls _ _ _ _ _ from by
                    rw [← HXP.out]
                    refine ((HT.out).step (c := 16777217) (v := .int .i64 (dremNo r3 (replay [] W))) (by omega) (fun x => #[.pointer (some ⟨x, 0, none⟩), .string r3]) (fun K N x w1 S hd hK hN hb => ?_) (by omega) (by omega)).mono ?_
                    · exact (dremoveV hd r3 rfl hW2.symm (by omega) rfl (by omega)).mono fun _ _ h => h.mono (by omega) (by omega)
                    · rintro en w' ⟨rfl, h⟩
                      refine ⟨rfl, (show PT _ _ _ _ _ _ _ _ _ _ from ?_)⟩
                      have e1 : (2 * j + (t + 1)) * 16777217 = (2 * j + t) * 16777217 + 16777217 := by omega
                      rw [e1]
                      exact h)
                  clear HT hW2
                  go_wp2_with fail
                  refine HC.out.mono ?_
                  rintro en w4 ⟨rfl, HT4⟩
                  go_wp2_with fail
                  exact ⟨⟨t + 1, by omega, by simp, HT4⟩, by simp [intOf]; omega⟩
                · have hW2 := HW'.out
                  rw [if_neg x1, if_neg x2, if_neg x3, if_neg x4] at hW2
                  have HT4 : Hid (PT (2 * j + (t + 1)) ((2 * j + (t + 1)) * 16777217) w wr d e2 bp (t + 1) W W') := (show PT _ _ _ _ _ _ _ _ _ _ from by
                    have e1 : (2 * j + (t + 1)) * 16777217 = (2 * j + t) * 16777217 + 16777217 := by omega
                    rw [e1]
                    have h := HT.out
                    rw [hW2] at h ⊢
                    exact h.same (t + 1))
                  clear HT hW2
                  go_wp2_with fail
                  exact ⟨⟨t + 1, by omega, by simp, HT4⟩, by simp [intOf]; omega⟩
              · obtain rfl : t = 2 := by omega
                have HNX : Hid (PairD (2 * (j + 1)) (2 * (j + 1) * 16777217) w wr d e2 [] [] W' W' (fun _ => False)) := (show PairD _ _ _ _ _ _ _ _ _ _ _ from (HT.out.1.less (fun g hg => hg.elim)).mono (by omega) (by omega))
                clear HT
                go_wp2_with fail
                exact ⟨⟨j + 1, W', by omega, by omega, by simp, HNX⟩, by simp [intOf]; omega⟩
      · have HX : Hid (PairD 90 2000000000 w wr d e2 [] [] W W (fun _ => False)) := (show PairD _ _ _ _ _ _ _ _ _ _ _ from HP.out.mono (by omega) (by omega))
        clear HP
        have hout : (¬ (j : Int) < (n0 : Int)) ∨ ((j : Int) < (n0 : Int) ∧ ¬ (j : Int) < 40) := by omega
        rcases hout with h1 | ⟨h1, h2⟩
        all_goals
          go_wp2_with fail
          go_meet
          exact ⟨W, HX⟩
  case rest =>
    obtain ⟨w3, hnm⟩ : ∃ W, W = wc := ⟨_, rfl⟩
    subst hnm
    clear HP2
    obtain ⟨W, HP⟩ := hcut
    obtain ⟨Sd, Se, h1, h2, h3, h4, _⟩ := HP.out
    have H1 := Lib.hid h1
    have H2 := Lib.hid h2
    have H3 := Lib.hid h3
    have H4 := Lib.hid h4
    clear HP h1 h2 h3 h4
    -- the names, the bytes, the writes of the first
    obtain ⟨ls, hls⟩ : ∃ ls, ls = (replay [] W).map Prod.fst := ⟨_, rfl⟩
    obtain ⟨ln, hln⟩ : ∃ ln, ln = ls.length := ⟨_, rfl⟩
    obtain ⟨tt, htt⟩ : ∃ tt, tt = totF (replay [] W) := ⟨_, rfl⟩
    obtain ⟨wl, hwl⟩ : ∃ wl, wl = W.length := ⟨_, rfl⟩
    have HLS := Lib.hid hls
    have HLN := Lib.hid hln
    have HTT := Lib.hid htt
    have HWL := Lib.hid hwl
    have hlnm : ln ≤ 90 := by rw [hln, hls, List.length_map]; exact H1.out.g.now.2
    have hwlm : wl ≤ 2000000000 := by rw [hwl]; exact H1.out.g.n
    clear hls hln htt hwl
    go_wp2_with fail
    refine (dnamesV H1.out (by decide) HLS.out.symm HLN.out.symm).mono ?_
    rintro e w4 ⟨D4, c4, rfl, o4, h4, b4⟩
    have H14 := Lib.hid h4
    have H24 := Lib.hid (H2.out.below b4)
    have H4' := Lib.hid (show Below w.heap.size w w4 from H4.out.trans (b4.mono H4.out.size))
    have HSD : Hid (∀ g, D4 = some ⟨g, 0, none⟩ → ¬ Sd g ∧ ¬ Se g ∧ w.heap.size ≤ g) := (show ∀ g, _ from fun g hg => by
      have q1 := (own_ltN o4 hg).2
      exact ⟨fun e => by have := (H1.out.y.lt g e).2; omega, fun e => by have := (H2.out.y.lt g e).2; omega, Nat.le_trans H4.out.size q1⟩)
    have HO4 : Hid (OwnB w4 w.heap.size 9 1 D4 ln c4 (ls.map Value.string)) := (show OwnB _ _ _ _ _ _ _ _ from o4.mono H4.out.size)
    clear o4 h4 b4 H1 H2 H4
    go_wp2_with fail
    refine (dtotalV H14.out HTT.out.symm (by decide)).mono ?_
    rintro e w5 ⟨rfl, q5, hq5⟩
    have H15 : Hid (DV 90 2000000000 w5 w.heap.size d [] W Sd) := (show DV _ _ _ _ _ _ _ _ from by rw [hq5]; exact H14.out.drewN q5)
    have H25 : Hid (DV 90 2000000000 w5 w.heap.size e2 [] W Se) := (show DV _ _ _ _ _ _ _ _ from by rw [hq5]; exact H24.out.drewN q5)
    have H5' : Hid (Below w.heap.size w w5) := (show Below _ _ _ from by rw [hq5]; exact below_drewN H4'.out q5)
    have HO5 : Hid (OwnB w5 w.heap.size 9 1 D4 ln c4 (ls.map Value.string)) := (show OwnB _ _ _ _ _ _ _ _ from by rw [hq5]; exact HO4.out.drewN q5)
    clear H14 H24 H4' HO4 hq5
    go_wp2_with fail
    refine (dcountV H15.out HWL.out.symm).mono ?_
    rintro e w6 ⟨rfl, rfl⟩
    have HBA : Hid (replay [] (W.take (backN (wl : Int) W.length)) = replay [] W) := (show _ = _ from by
      rw [← HWL.out]
      have : backN (wl : Int) wl = wl := by unfold backN; omega
      rw [this, HWL.out, List.take_length])
    go_wp2_with fail
    refine (dbackV H15.out (wl : Int) HBA.out (by decide) (by decide)).mono ?_
    rintro e w7 ⟨rfl, S7, h7, f7, b7⟩
    have H17 := Lib.hid h7
    have H27 : Hid (DV 90 2000000000 w7 w.heap.size e2 [] W Se) := (show DV _ _ _ _ _ _ _ _ from H25.out.keep f7.sz (fun g hg hs => f7.k g hg (fun e => H3.out g e hs)))
    have HO7 : Hid (OwnB w7 w.heap.size 9 1 D4 ln c4 (ls.map Value.string)) := (show OwnB _ _ _ _ _ _ _ _ from own_keepN HO5.out (fun g hg => f7.k g (own_ltN HO5.out hg).1 (HSD.out g hg).1))
    have H7' := Lib.hid (show Below w.heap.size w w7 from H5'.out.trans b7)
    have HD7 : Hid (∀ g, S7 g → ¬ Se g) := (show ∀ g, _ from fun g a b => H3.out g (f7.n g (H25.out.y.lt g b).2 a) b)
    clear h7 f7 b7 H15 H25 H5' HO5 HBA H3
    go_wp2_with fail
    refine (dnamesV H17.out (by decide) (l := ls) (n := ln) HLS.out.symm HLN.out.symm).mono ?_
    rintro e w8 ⟨D8, c8, rfl, o8, h8, b8⟩
    have H18 := Lib.hid h8
    have H28 := Lib.hid (H27.out.below b8)
    have HO8 := Lib.hid (HO7.out.below b8)
    have H8' := Lib.hid (show Below w.heap.size w w8 from H7'.out.trans (b8.mono H7'.out.size))
    have HSm := Lib.hid (sameS_calls D8 D4 ln ln c8 c4 ls ls w8 HLN.out.symm HLN.out.symm (by omega) (by omega) o8.sl HO8.out.sl)
    rw [eqL_self] at HSm
    clear o8 h8 b8 H17 H27 HO7 H7'
    go_wp2_with fail
    refine HSm.out.mono ?_
    rintro e w9 ⟨rfl, q9, hq9⟩
    have H19 : Hid (DV 90 0 w9 w.heap.size d (replay [] W) [] S7) := (show DV _ _ _ _ _ _ _ _ from by rw [hq9]; exact H18.out.drewN q9)
    have H29 : Hid (DV 90 2000000000 w9 w.heap.size e2 [] W Se) := (show DV _ _ _ _ _ _ _ _ from by rw [hq9]; exact H28.out.drewN q9)
    have H9' : Hid (Below w.heap.size w w9) := (show Below _ _ _ from by rw [hq9]; exact below_drewN H8'.out q9)
    have HO9 : Hid (OwnB w9 w.heap.size 9 1 D4 ln c4 (ls.map Value.string)) := (show OwnB _ _ _ _ _ _ _ _ from by rw [hq9]; exact HO8.out.drewN q9)
    clear H18 H28 H8' HO8 HSm hq9
    go_wp2_with fail
    refine (dtotalV H19.out HTT.out.symm (by decide)).mono ?_
    rintro e w10 ⟨rfl, q10, hq10⟩
    have H110 : Hid (DV 90 0 w10 w.heap.size d (replay [] W) [] S7) := (show DV _ _ _ _ _ _ _ _ from by rw [hq10]; exact H19.out.drewN q10)
    have H210 : Hid (DV 90 2000000000 w10 w.heap.size e2 [] W Se) := (show DV _ _ _ _ _ _ _ _ from by rw [hq10]; exact H29.out.drewN q10)
    have H10' : Hid (Below w.heap.size w w10) := (show Below _ _ _ from by rw [hq10]; exact below_drewN H9'.out q10)
    have HO10 : Hid (OwnB w10 w.heap.size 9 1 D4 ln c4 (ls.map Value.string)) := (show OwnB _ _ _ _ _ _ _ _ from by rw [hq10]; exact HO9.out.drewN q10)
    clear H19 H29 H9' HO9 hq10
    go_wp2_with fail
    refine (dcountV H110.out (n := 0) rfl).mono ?_
    rintro e w11 ⟨rfl, rfl⟩
    -- the second, cut at k
    have HWi := Lib.hid (within_calls a 0 (wl : Int) w11 (by omega) (by omega) (by omega) ha)
    obtain ⟨k, hk⟩ : ∃ k : Nat, within a 0 (wl : Int) = (k : Int) ∧ k ≤ wl := ⟨(within a 0 (wl : Int)).toNat, by have e1 := within_ge a 0 (wl : Int) (by omega); have e2 := within_le a 0 (wl : Int) (by omega); omega⟩
    rw [hk.1] at HWi
    have hkl := hk.2
    clear hk H110
    go_wp2_with fail
    refine HWi.out.mono ?_
    rintro e w12 ⟨rfl, rfl⟩
    clear HWi
    have HBK : Hid (backN (k : Int) W.length = k) := (show _ = _ from by rw [← HWL.out]; unfold backN; omega)
    by_cases hkw : k = wl
    · subst hkw
      have HM : Hid (replay [] (W.take (backN (k : Int) W.length)) = replay [] W) := (show _ = _ from by rw [HBK.out, HWL.out, List.take_length])
      clear HBK hkl
      go_wp2_with fail
      refine (dbackV H210.out (k : Int) HM.out (by decide) (by decide)).mono ?_
      rintro e w13 ⟨rfl, S13, h13, f13, b13⟩
      have H13 := Lib.hid h13
      have HO13 : Hid (OwnB w13 w.heap.size 9 1 D4 ln c4 (ls.map Value.string)) := (show OwnB _ _ _ _ _ _ _ _ from own_keepN HO10.out (fun g hg => f13.k g (own_ltN HO10.out hg).1 (HSD.out g hg).2.1))
      have H13' := Lib.hid (show Below w.heap.size w w13 from H10'.out.trans b13)
      clear h13 f13 b13 H210 HO10 H10' HM
      go_wp2_with fail
      refine (dnamesV H13.out (by decide) (l := ls) (n := ln) HLS.out.symm HLN.out.symm).mono ?_
      rintro e w14 ⟨D14, c14, rfl, o14, h14, b14⟩
      have H14 := Lib.hid h14
      have HO14 := Lib.hid (HO13.out.below b14)
      have H14' := Lib.hid (show Below w.heap.size w w14 from H13'.out.trans (b14.mono H13'.out.size))
      have HSm := Lib.hid (sameS_calls D14 D4 ln ln c14 c4 ls ls w14 HLN.out.symm HLN.out.symm (by omega) (by omega) o14.sl HO14.out.sl)
      rw [eqL_self] at HSm
      clear o14 h14 b14 H13 HO13 H13'
      go_wp2_with fail
      refine HSm.out.mono ?_
      rintro e w15 ⟨rfl, q15, hq15⟩
      have H15 : Hid (DV 90 0 w15 w.heap.size e2 (replay [] W) [] S13) := (show DV _ _ _ _ _ _ _ _ from by rw [hq15]; exact H14.out.drewN q15)
      have H15' : Hid (Below w.heap.size w w15) := (show Below _ _ _ from by rw [hq15]; exact below_drewN H14'.out q15)
      clear H14 H14' HO14 HSm hq15
      go_wp2_with fail
      refine (dtotalV H15.out HTT.out.symm (by decide)).mono ?_
      rintro e w16 ⟨rfl, q16, hq16⟩
      have H16' : Hid (Below w.heap.size w w16) := (show Below _ _ _ from by rw [hq16]; exact below_drewN H15'.out q16)
      clear H15 H15' hq16
      go_wp2_with fail
      refine (diskRuns_calls w16).mono ?_
      rintro e w17 ⟨rfl, b17⟩
      go_wp2_with fail
      go_ret
      exact ⟨rfl, H16'.out.trans (b17.mono H16'.out.size)⟩
    · have gk : ¬ (k : Int) = (wl : Int) := by omega
      clear hkw
      go_wp2_with fail
      refine (dbackV H210.out (k : Int) rfl (by decide) (by decide)).mono ?_
      rintro e w13 ⟨rfl, S13, h13, f13, b13⟩
      have H13 := Lib.hid h13
      have H13' := Lib.hid (show Below w.heap.size w w13 from H10'.out.trans b13)
      clear h13 f13 b13 H210 HO10 H10'
      by_cases hk0 : 0 < k
      · have g0 : (0 : Int) < (k : Int) := by omega
        go_wp2_with fail
        refine (dcountV H13.out (n := 0) rfl).mono ?_
        rintro e w16 ⟨rfl, rfl⟩
        go_wp2_with fail
        refine (diskRuns_calls w16).mono ?_
        rintro e w17 ⟨rfl, b17⟩
        go_wp2_with fail
        go_ret
        exact ⟨rfl, H13'.out.trans (b17.mono H13'.out.size)⟩
      · obtain rfl : k = 0 := by omega
        have hnm : (replay (replay [] (W.take (backN ((0 : Nat) : Int) W.length))) []).map Prod.fst = [] := by rw [HBK.out]; rfl
        have HNm := Lib.hid (dnamesV H13.out (by decide) (l := []) (n := 0) hnm rfl)
        clear hnm HBK
        go_wp2_with fail
        refine HNm.out.mono ?_
        rintro e w14 ⟨D14, c14, rfl, o14, h14, b14⟩
        have H14 := Lib.hid h14
        have H14' := Lib.hid (show Below w.heap.size w w14 from H13'.out.trans (b14.mono H13'.out.size))
        clear o14 h14 b14 H13 H13' HNm
        go_wp2_with fail
        refine (dcountV H14.out (n := 0) rfl).mono ?_
        rintro e w16 ⟨rfl, rfl⟩
        go_wp2_with fail
        refine (diskRuns_calls w16).mono ?_
        rintro e w17 ⟨rfl, b17⟩
        go_wp2_with fail
        go_ret
        exact ⟨rfl, H14'.out.trans (b17.mono H14'.out.size)⟩
end Go.Proofs.Ytbmgeomndfodpaa
