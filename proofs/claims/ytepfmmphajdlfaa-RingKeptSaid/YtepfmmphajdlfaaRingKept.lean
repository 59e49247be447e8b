/-
  RingKept, its walk.
-/
import Derived.Test.YtepfmmphajdlfaaRingStep2
namespace Go.Proofs.Ytepfmmphajdlfaa
open Go.RowKit Go.Mem

theorem RgI.only {w w' : World} {p g room q : Nat} {xs : List Int} (h : RgI w p g room xs) (o : w.grownBy w' (some q)) (hp : p ≠ q) (hg : g ≠ q) : RgI w' p g room xs :=
  h.fr (bs := [q]) (Fr.of_only o (by simp)) (by simp [hp]) (by simp [hg])
theorem RgI.fr2 {w w' : World} {p g p' g' room : Nat} {xs : List Int} (h : RgI w p g room xs) (f : Fr [p', g'] w w') (h1 : p ≠ p') (h2 : p ≠ g') (h3 : g ≠ p') (h4 : g ≠ g') : RgI w' p g room xs :=
  h.fr f (by simp [h1, h2]) (by simp [h3, h4])

set_option maxRecDepth 100000 in
set_option maxHeartbeats 3200000 in
theorem ringKept_calls (A : Option Addr) (n cap : Nat) (ls : List Int) (w : World) (hl : ls.length = n) (hn : n ≤ 9223372036854775807) (hs : Sl w A (ls.map I64)) :
    Calls Try.prog 8 #[.slice A n cap] w fun e w' => e = .returned (.bool true) ∧ Below w.heap.size w w' := by
  subst hl
  obtain ⟨i0, hi, hz0, hz1, hz2⟩ := info_parts infoRI
  go_enter Try.func8, Try.ntmps8
  go_wp2_with fail
  refine (newI_ok 30 w (by decide) (by decide)).mono ?_
  unfold NewRgI
  rintro e w1 ⟨p, g, rfl, h1, hp, hg, b1⟩
  have hlt1 := h1.lt
  go_wp2_with fail
  refine (newI_ok 30 w1 (by decide) (by decide)).mono ?_
  unfold NewRgI
  rintro e w2 ⟨p2, g2, rfl, h2, hp2, hg2, b2⟩
  have hlt2 := h2.lt
  have h1' := Lib.hid (h1.below b2)
  have h2' := Lib.hid h2
  have hB0 := b1.trans (b2.mono b1.size)
  have hsz1 := b1.size
  have hsz2 := b2.size
  have e1 : p ≠ p2 := by omega
  have e2 : p ≠ g2 := by omega
  have e3 : g ≠ p2 := by omega
  have e4 : g ≠ g2 := by omega
  clear h1 h2 b1 b2
  generalize hB : w2.heap.size = B at *
  have HBB := Lib.hid hB
  clear hB
  have hBle : B ≤ w2.heap.size := Nat.le_of_eq HBB.out.symm
  go_wp2_with fail
  go_loopw [7, 8] (fun l i wr => ∃ (j N c : Nat) (D : Option Addr), j ≤ ls.length ∧ j ≤ 30 ∧ i = .int .i64 j ∧ l = .slice D N c ∧ Hid (RgI wr p g 30 (ls.take j)) ∧ Hid (RgI wr p2 g2 30 (ls.take j)) ∧ Hid (OwnB wr B 3 1 D N c ((ls.take j).map I64)) ∧ Below w.heap.size w wr ∧ B ≤ wr.heap.size) (fun _ i _ => 30 - (intOf i).toNat)
  case atStart => exact ⟨0, 0, 0, none, Nat.zero_le _, Nat.zero_le _, rfl, rfl, h1', h2', OwnB.nil _ _ _ _, hB0, hBle⟩
  case round =>
    clear h1' h2' hB0 hBle
    obtain ⟨j, N, c, D, hj, hj30, rfl, rfl, H1, H2, HD, hB, hBle⟩ := hrel
    have HNl := Lib.hid (show (ls.take j).length = N by have := HD.out.len; rw [List.length_map, Nat.mul_one] at this; exact this)
    have HLj := Lib.hid (show (ls.take j).length = j by rw [List.length_take]; omega)
    have hNj : N = j := by have := HNl.out; have := HLj.out; omega
    subst hNj
    clear HNl
    by_cases hin : N < ls.length ∧ N < 30
    · obtain ⟨hlt, h30⟩ := hin
      have hd3 : decide ((N : Int) < 30) = true := decide_eq_true (by omega)
      obtain ⟨b, o, rfl, hca⟩ := (hs.below hB).int hlt
      have hcb : ∀ w' : World, Below w.heap.size w w' → w'.cell? ⟨b, o + N, none⟩ = some (.int .i64 ls[N]) := fun w' h => by
        obtain ⟨b', o', e, hc⟩ := (hs.below h).int hlt
        obtain ⟨rfl, rfl⟩ : b = b' ∧ o = o' := by injection e with e; injection e with e1 e2; exact ⟨e1, e2⟩
        exact hc
      have HT := Lib.hid (show ls.take (N + 1) = ls.take N ++ [ls[N]] by rw [List.take_succ_eq_append_getElem hlt])
      generalize ls[N] = x at hca hcb HT
      generalize ls.take N = xs at H1 H2 HD HLj HT
      have hpx : putI xs 30 x = xs ++ [x] := if_pos (by have := HLj.out; omega)
      have hdx : decide (xs.length < 30) = true := decide_eq_true (by have := HLj.out; omega)
      have HCB := Lib.hid hcb
      have HP := Lib.hid (fun (p g : Nat) (W : World) (h : RgI W p g 30 xs) => putC p g 30 xs (xs ++ [x]) x true W h hdx hpx)
      clear hcb hpx hdx
      go_wp2_with fail
      refine (HP.out p g wr H1.out).mono ?_
      unfold RgEndsI
      rintro e w3 ⟨rfl, h3, f3⟩
      have hB3 := below_ring hB f3 hB.size hp hg
      have H23 := Lib.hid (H2.out.fr2 f3 (Ne.symm e1) (Ne.symm e3) (Ne.symm e2) (Ne.symm e4))
      have HD3 := Lib.hid (HD.out.fr f3 (fun g' hd hm => by
        have := HD.out.lies (bs := [p, g]) (fun b hb => by simp at hb; omega) _ _ _ hd
        exact this hm))
      have hBle3 := Nat.le_trans hBle f3.size
      have hca3 := HCB.out _ hB3
      have H13 := Lib.hid h3
      clear H1 H2 HD hca hB f3 h3 hBle
      go_wp2_with fail
      refine (HP.out p2 g2 w3 H23.out).mono ?_
      unfold RgEndsI
      rintro e w4 ⟨rfl, h4, f4⟩
      have hB4 := below_ring hB3 f4 hB3.size (by omega) (by omega)
      have H14 := Lib.hid (H13.out.fr2 f4 e1 e2 e3 e4)
      have HD4 := Lib.hid (HD3.out.fr f4 (fun g' hd hm => by
        have := HD3.out.lies (bs := [p2, g2]) (fun b hb => by simp at hb; omega) _ _ _ hd
        exact this hm))
      have hBle4 := Nat.le_trans hBle3 f4.size
      have hca4 := HCB.out _ hB4
      have H24 := Lib.hid h4
      clear H13 H23 HD3 hca3 hB3 f4 h4 hBle3 HP
      go_wp2_with (at_builtin; refine wpList_append_ownK (o := ⟨some 61, _, _, _, _, _⟩) rfl (.tmp 55) (.tmp 60) 32 32 rfl 3 i0 (.int .i64 0) 1 8 Try.underlying32 hi hz0 hz1 hz2 rfl B D N c (xs.map I64) rfl (HD4.out.alloc _) (.slice (some ⟨w4.heap.size, 0, none⟩) 1 1) rfl 1 ([x].map I64) (srcSl Try.underlying32 rfl (Sl.new rfl rfl) (I64_one _)) (by omega) (by omega) w4 ((Below.refl _ _).alloc hBle4 _) (by simp; omega) ?_)
      intro w5 D5 c5 HD5 HK5 hb5 hsz5
      have H15 := Lib.hid (H14.out.belowB hb5 (by omega) (by omega))
      have H25 := Lib.hid (H24.out.belowB hb5 (by omega) (by omega))
      have hB5 := hB4.trans (hb5.mono (by omega))
      have HD6 : Hid (OwnB w5 B 3 1 D5 (N + 1) c5 ((xs ++ [x]).map I64)) := by show OwnB _ _ _ _ _ _ _ _; rw [List.map_append]; exact HD5.out
      have hBle5 := Nat.le_trans hBle4 hb5.size
      clear H14 H24 HD4 HD5 HK5 hb5 hsz5 hB4 hca4
      go_wp2_with fail
      go_roundw
      case rel => exact ⟨N + 1, N + 1, c5, D5, by omega, by omega, by go_num, by go_num, by rw [HT.out]; exact H15, by rw [HT.out]; exact H25, by rw [HT.out]; exact HD6, hB5, hBle5⟩
      case measure => simp [intOf]; omega
    · by_cases hlt : N < ls.length
      · have hd4 : decide ((N : Int) < 30) = false := decide_eq_false (by omega)
        clear hin
        have hsz30 : N ≤ 30 := hj30
        generalize ls.take N = xs at H1 H2 HD HLj
        have hws := hB.size
        go_wp2_with fail
        refine (listI_calls p g 30 xs wr H1.out).mono ?_
        unfold ListEndsI
        rintro e w3 ⟨rfl, hl3, b3⟩
        have H13 := Lib.hid (H1.out.below b3)
        have H23 := Lib.hid (H2.out.below b3)
        have HD3 := Lib.hid (HD.out.below b3)
        have hB3 := hB.trans (b3.mono hws)
        have hBle3 := Nat.le_trans hBle b3.size
        have H1lt := H1.out.lt
        have H2lt := H2.out.lt
        have hDq : ∀ g', D = some ⟨g', 0, none⟩ → g' ≠ wr.heap.size := fun g' hd => by
          rcases HD.out.2.2 with ⟨h3, _⟩ | ⟨g3, _, hd3, _, hb3, _⟩
          · rw [hd] at h3; cases h3
          · have h4 := hb3.lt
            obtain rfl : g' = g3 := by rw [hd] at hd3; injection hd3 with e; injection e
            omega
        have HDQ := Lib.hid hDq
        have HL3 := Lib.hid (show ∃ zs : List Int, zs.length = N ∧ Blk w3 wr.heap.size 3 (zs.map I64) from ⟨xs, HLj.out, hl3⟩)
        rw [HLj.out]
        clear H1 H2 HD hB b3 hl3 hDq
        generalize wr.heap.size = q at HL3 HDQ H1lt H2lt hws hBle ⊢
        go_wp2_with fail
        go_loopw [10] (fun i wx => ∃ (k : Nat), k ≤ N ∧ i = .int .i64 k ∧ Hid (∃ zs : List Int, zs.length = N ∧ Blk wx q 3 (zs.map I64)) ∧ Fr [q] w3 wx) (fun i _ => N - (intOf i).toNat)
        case atStart => exact ⟨0, Nat.zero_le _, rfl, HL3, Fr.refl _ _⟩
        case round =>
          clear HL3
          obtain ⟨k, hk, rfl, HZ, hf⟩ := hrel
          by_cases hkN : k < N
          · obtain ⟨zs, hzl, hz⟩ := HZ.out
            have ck := hz.cell k
            have fk := hz.frozen k
            rw [List.getElem?_map, List.getElem?_eq_getElem (by omega), Option.map_some] at ck
            unfold I64 at ck
            generalize zs[k]'(by omega) = y at ck
            have hset : ∀ v : Int, ∃ zs' : List Int, zs'.length = N ∧ Blk (wr.setCell ⟨q, k, none⟩ (.int .i64 v)) q 3 (zs'.map I64) := fun v => ⟨zs.set k v, by rw [List.length_set]; exact hzl, by rw [List.map_set]; exact hz.set_ k (.int .i64 v)⟩
            have HS := Lib.hid hset
            have hfs : ∀ v : Value, Fr [q] w3 (wr.setCell ⟨q, k, none⟩ v) := fun v => hf.set (by simp) v
            have HFS := Lib.hid hfs
            have k0 : (0 : Int) ≤ (k : Int) := Int.natCast_nonneg _
            clear hset hfs hz hzl HZ hf
            go_wp2_with fail
            go_roundw
            case rel => exact ⟨k + 1, by omega, by go_num, HS.out _, HFS.out _⟩
            case measure => simp [intOf]; omega
          · have hwr : Hid (RgI wr p g 30 xs) := (show RgI _ _ _ _ _ from H13.out.fr hf (by simp; omega) (by simp; omega))
            have hwr2 : Hid (RgI wr p2 g2 30 xs) := (show RgI _ _ _ _ _ from H23.out.fr hf (by simp; omega) (by simp; omega))
            have HD4 := Lib.hid (HD3.out.fr hf (fun g' hd => by simp [HDQ.out g' hd]))
            have hB4 := below_fr hB3 hf hB3.size (fun k hk => by rw [List.mem_singleton.1 hk]; exact hws)
            have hd3 := dropI_calls p2 g2 30 xs 3 wr hwr2.out (by decide)
            have HDr := Lib.hid hd3
            clear H13 H23 HD3 HZ hf hB3 hd3
            go_wp2_with fail
            refine HDr.out.mono ?_
            unfold RgEndsI
            rintro e w5 ⟨rfl, _, f5⟩
            have H15 := Lib.hid (hwr.out.fr2 f5 e1 e2 e3 e4)
            have HD5 := Lib.hid (HD4.out.fr f5 (fun g' hd hm => by
              have := HD4.out.lies (bs := [p2, g2]) (fun b hb => by simp at hb; omega) _ _ _ hd
              exact this hm))
            have hB5 := below_ring hB4 f5 hB4.size (by omega) (by omega)
            clear HDr hwr hwr2 HD4 hB4 f5
            go_wp2_with fail
            refine (listI_calls p g 30 xs _ H15.out).mono ?_
            unfold ListEndsI
            rintro e w6 ⟨rfl, hl6, b6⟩
            have hsa := hl6.sl
            have hsd := HD5.out.sl.below b6
            have hB6 := hB5.trans (b6.mono hB5.size)
            rw [HLj.out]
            clear H15 HD5 hl6 b6 hB5
            generalize w5.heap.size = q6 at hsa
            go_wp2_with fail
            refine (sameI_calls (some ⟨q6, 0, none⟩) D N N N c xs xs _ HLj.out HLj.out (by omega) (by omega) hsa hsd).mono ?_
            rintro e w7 ⟨rfl, q7, rfl⟩
            rw [eqL_self]
            have hB7 := below_drewN hB6 q7
            clear hsa hsd hB6
            go_wp2_with fail
            refine (ringRuns_calls _).mono ?_
            rintro e w8 ⟨rfl, b8⟩
            go_wp2_with fail
            go_ret
            exact ⟨rfl, hB7.trans (b8.mono hB7.size)⟩
      · clear hin
        have hsz30 : N ≤ 30 := hj30
        generalize ls.take N = xs at H1 H2 HD HLj
        have hws := hB.size
        go_wp2_with fail
        refine (listI_calls p g 30 xs wr H1.out).mono ?_
        unfold ListEndsI
        rintro e w3 ⟨rfl, hl3, b3⟩
        have H13 := Lib.hid (H1.out.below b3)
        have H23 := Lib.hid (H2.out.below b3)
        have HD3 := Lib.hid (HD.out.below b3)
        have hB3 := hB.trans (b3.mono hws)
        have hBle3 := Nat.le_trans hBle b3.size
        have H1lt := H1.out.lt
        have H2lt := H2.out.lt
        have hDq : ∀ g', D = some ⟨g', 0, none⟩ → g' ≠ wr.heap.size := fun g' hd => by
          rcases HD.out.2.2 with ⟨h3, _⟩ | ⟨g3, _, hd3, _, hb3, _⟩
          · rw [hd] at h3; cases h3
          · have h4 := hb3.lt
            obtain rfl : g' = g3 := by rw [hd] at hd3; injection hd3 with e; injection e
            omega
        have HDQ := Lib.hid hDq
        have HL3 := Lib.hid (show ∃ zs : List Int, zs.length = N ∧ Blk w3 wr.heap.size 3 (zs.map I64) from ⟨xs, HLj.out, hl3⟩)
        rw [HLj.out]
        clear H1 H2 HD hB b3 hl3 hDq
        generalize wr.heap.size = q at HL3 HDQ H1lt H2lt hws hBle ⊢
        go_wp2_with fail
        go_loopw [10] (fun i wx => ∃ (k : Nat), k ≤ N ∧ i = .int .i64 k ∧ Hid (∃ zs : List Int, zs.length = N ∧ Blk wx q 3 (zs.map I64)) ∧ Fr [q] w3 wx) (fun i _ => N - (intOf i).toNat)
        case atStart => exact ⟨0, Nat.zero_le _, rfl, HL3, Fr.refl _ _⟩
        case round =>
          clear HL3
          obtain ⟨k, hk, rfl, HZ, hf⟩ := hrel
          by_cases hkN : k < N
          · obtain ⟨zs, hzl, hz⟩ := HZ.out
            have ck := hz.cell k
            have fk := hz.frozen k
            rw [List.getElem?_map, List.getElem?_eq_getElem (by omega), Option.map_some] at ck
            unfold I64 at ck
            generalize zs[k]'(by omega) = y at ck
            have hset : ∀ v : Int, ∃ zs' : List Int, zs'.length = N ∧ Blk (wr.setCell ⟨q, k, none⟩ (.int .i64 v)) q 3 (zs'.map I64) := fun v => ⟨zs.set k v, by rw [List.length_set]; exact hzl, by rw [List.map_set]; exact hz.set_ k (.int .i64 v)⟩
            have HS := Lib.hid hset
            have hfs : ∀ v : Value, Fr [q] w3 (wr.setCell ⟨q, k, none⟩ v) := fun v => hf.set (by simp) v
            have HFS := Lib.hid hfs
            have k0 : (0 : Int) ≤ (k : Int) := Int.natCast_nonneg _
            clear hset hfs hz hzl HZ hf
            go_wp2_with fail
            go_roundw
            case rel => exact ⟨k + 1, by omega, by go_num, HS.out _, HFS.out _⟩
            case measure => simp [intOf]; omega
          · have hwr : Hid (RgI wr p g 30 xs) := (show RgI _ _ _ _ _ from H13.out.fr hf (by simp; omega) (by simp; omega))
            have hwr2 : Hid (RgI wr p2 g2 30 xs) := (show RgI _ _ _ _ _ from H23.out.fr hf (by simp; omega) (by simp; omega))
            have HD4 := Lib.hid (HD3.out.fr hf (fun g' hd => by simp [HDQ.out g' hd]))
            have hB4 := below_fr hB3 hf hB3.size (fun k hk => by rw [List.mem_singleton.1 hk]; exact hws)
            have hd3 := dropI_calls p2 g2 30 xs 3 wr hwr2.out (by decide)
            have HDr := Lib.hid hd3
            clear H13 H23 HD3 HZ hf hB3 hd3
            go_wp2_with fail
            refine HDr.out.mono ?_
            unfold RgEndsI
            rintro e w5 ⟨rfl, _, f5⟩
            have H15 := Lib.hid (hwr.out.fr2 f5 e1 e2 e3 e4)
            have HD5 := Lib.hid (HD4.out.fr f5 (fun g' hd hm => by
              have := HD4.out.lies (bs := [p2, g2]) (fun b hb => by simp at hb; omega) _ _ _ hd
              exact this hm))
            have hB5 := below_ring hB4 f5 hB4.size (by omega) (by omega)
            clear HDr hwr hwr2 HD4 hB4 f5
            go_wp2_with fail
            refine (listI_calls p g 30 xs _ H15.out).mono ?_
            unfold ListEndsI
            rintro e w6 ⟨rfl, hl6, b6⟩
            have hsa := hl6.sl
            have hsd := HD5.out.sl.below b6
            have hB6 := hB5.trans (b6.mono hB5.size)
            rw [HLj.out]
            clear H15 HD5 hl6 b6 hB5
            generalize w5.heap.size = q6 at hsa
            go_wp2_with fail
            refine (sameI_calls (some ⟨q6, 0, none⟩) D N N N c xs xs _ HLj.out HLj.out (by omega) (by omega) hsa hsd).mono ?_
            rintro e w7 ⟨rfl, q7, rfl⟩
            rw [eqL_self]
            have hB7 := below_drewN hB6 q7
            clear hsa hsd hB6
            go_wp2_with fail
            refine (ringRuns_calls _).mono ?_
            rintro e w8 ⟨rfl, b8⟩
            go_wp2_with fail
            go_ret
            exact ⟨rfl, hB7.trans (b8.mono hB7.size)⟩
end Go.Proofs.Ytepfmmphajdlfaa
