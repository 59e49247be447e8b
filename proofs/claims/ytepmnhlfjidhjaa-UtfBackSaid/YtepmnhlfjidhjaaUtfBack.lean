/-
  UtfBack, its walk.
-/
import Derived.Test.YtepmnhlfjidhjaaUtfBackM
import Derived.Test.YtepmnhlfjidhjaaUtfGo
import Derived.Laws.Runes
import Derived.Laws.Concat
import Derived.Deep.DeepCutAuto
import Derived.Deep.QuietTactic
import Derived.BigQuiet
namespace Go.Proofs.Ytepmnhlfjidhjaa
open Go.RowKit Go.Mem

theorem text_app (a b : ByteArray) : (a ++ b).data.toList = a.data.toList ++ b.data.toList := by
  rw [ByteArray.data_append, Array.toList_append]
theorem size_list (x : ByteArray) (l : List UInt8) (h : x.data.toList = l) : x.size = l.length := by rw [← h]; exact Array.length_toList.symm
theorem encN_le (R : Nat) (hv : Utf8.valid (R : Int) = true) : (encN R).length ≤ 4 := by
  rw [encN_length R hv]
  repeat' split
  all_goals omega
theorem conv_rune (R : Int) (u : World) : (convert 21 9 (.int .i32 R)).run Try.prog u = .ok (.string (Utf8.encode R)) u :=
  run_convert_int_string u 21 9 .i32 R (by rw [Try.underlying21]; rfl) Try.underlying9

set_option maxRecDepth 100000 in
set_option maxHeartbeats 6400000 in
theorem utfBack_calls (A : Option Addr) (n cap : Nat) (bs : List UInt8) (w : World) (hl : bs.length = n) (hn : n ≤ 140737488355328) (hc : n ≤ cap) (hcm : cap ≤ 140737488355328) (hs : Sl w A (bs.map B8)) :
    Calls Try.prog 6 #[.slice A n cap] w fun e w' => e = .returned (.bool true) ∧ Below w.heap.size w w' := by
  subst hl
  have HS := Lib.hid hs
  clear hs
  go_enter Try.func6, Try.ntmps6
  go_upto_if 10 with fail
  go_cut [0] (fun s0 wx => ∃ (N : Nat) (ds : List UInt8), s0 = .slice A N cap ∧ N ≤ 300 ∧ N ≤ cap ∧ Hid (ds.length = N) ∧ Hid (Sl wx A (ds.map B8)) ∧ wx = w)
  case first =>
    by_cases h3 : 300 < bs.length
    · have h500 : (300 : Int) ≤ (cap : Int) := by omega
      go_wp2_with fail
      go_meet
      exact ⟨300, bs.take 300, rfl, by omega, by omega, (show _ = _ by rw [List.length_take]; omega), (show Sl _ _ _ by rw [List.map_take]; exact HS.out.take 300), rfl⟩
    · go_wp2_with fail
      go_meet
      exact ⟨bs.length, bs, rfl, by omega, hc, (show _ = _ from rfl), HS, rfl⟩
  case rest =>
    obtain ⟨N, ds, rfl, hN, hNc, HN, HD, hw⟩ := hcut
    subst wc
    clear HS hn hc
    have HA := Lib.hid (all_calls ds A N cap w HN.out (by omega) hNc (by omega) HD.out)
    unfold AllEnds at HA
    have HG := Lib.hid (all_good ds)
    have hdl := HN.out
    generalize allU ds = l at HA HG
    go_wp2_with fail
    refine HA.out.mono ?_
    rintro e w2 ⟨D, m, cD, rfl, hm, hm2, o2, b2⟩
    have hm3 : m ≤ 300 := by omega
    have HS := Lib.hid o2.sl
    have HM : Hid (l.length = m) := (show _ = _ from hm.symm)
    have hB2 := b2
    clear hm hm2 o2 b2 HA hdl HN HD
    go_wp2_with fail
    go_loopw [4, 5] (fun s4 s5 wx => ∃ (acc : ByteArray) (i : Nat), s4 = .string acc ∧ s5 = .int .i64 i ∧ i ≤ m ∧ acc.size ≤ 4 * i ∧ Hid (acc.data.toList = encsU (l.take i)) ∧ wx = w2) (fun _ s _ => m - (intOf s).toNat)
    case atStart => exact ⟨⟨#[]⟩, 0, rfl, rfl, Nat.zero_le _, Nat.zero_le _, (show _ = _ from rfl), rfl⟩
    case round =>
      obtain ⟨acc, i, rfl, rfl, him, hsz, HE, rfl⟩ := hrel
      have i0 : (0 : Int) ≤ (i : Int) := by omega
      by_cases hlt : i < m
      · have hil : i < l.length := by rw [HM.out]; exact hlt
        have hk0 : l[i]? = some l[i] := List.getElem?_eq_getElem hil
        have hg := HG.out _ (List.getElem_mem hil)
        have htk : l.take (i + 1) = l.take i ++ [l[i]] := List.take_succ_eq_append_getElem hil
        generalize l[i] = g at hk0 hg htk
        obtain ⟨R, N⟩ := g
        obtain ⟨b, o, rfl, x1, _⟩ := Sl.got HS.out hk0
        have hel := encode_list R hg.1
        have hez : (Utf8.encode (R : Int)).size ≤ 4 := by rw [size_list _ _ hel]; exact encN_le R hg.1
        have hcv := conv_rune (R : Int)
        generalize Utf8.encode (R : Int) = E at hel hez hcv
        have hsum : acc.size + E.size ≤ 9223372036854775807 := by omega
        have HEN : Hid ((acc ++ E).data.toList = encsU (l.take (i + 1))) := (show _ = _ by rw [htk, encsU_snoc, text_app, HE.out, hel])
        have hsz2 : (acc ++ E).size ≤ 4 * (i + 1) := by rw [ByteArray.size_append]; omega
        have i1 : (i : Int) < (m : Int) := by omega
        have hadd : ¬ (acc.size + E.size > 9223372036854775807) := by omega
        clear hk0 hg htk hel hsum hil
        go_wp2_with fail
        go_roundw
        case rel => exact ⟨acc ++ E, i + 1, rfl, by go_num, by omega, hsz2, HEN, (by first | rfl | trivial)⟩
        case measure => simp [intOf]; omega
      · obtain rfl : i = m := by omega
        have hacc : acc.data.toList = encsU l := by rw [HE.out, List.take_of_length_le (by rw [HM.out]; exact Nat.le_refl _)]
        obtain ⟨c, W, kc, hc, hcm, hsl, hb⟩ := bytes_of wr acc
        have hcM := hcm (by unfold maxLen; omega)
        unfold maxLen at hcM
        have hl0 : (encsU l).length = acc.size := by rw [← hacc]; exact Array.length_toList
        rw [hacc] at hsl
        have HA := Lib.hid (all_calls (encsU l) (some ⟨wr.heap.size, 0, none⟩) acc.size c W hl0 (by omega) hc (by omega) hsl)
        unfold AllEnds at HA
        rw [all_encs l HG.out, List.length_map, HM.out] at HA
        have HSW := Lib.hid (HS.out.below hb)
        have hBW := hB2.trans (hb.mono hB2.size)
        clear hacc hcm hcM hsl hb hl0 HE
        go_wp2_with fail
        refine HA.out.mono ?_
        rintro e w4 ⟨D4, m4, c4, rfl, rfl, _, o4, b4⟩
        have HS4 := Lib.hid (HSW.out.below b4)
        have HT4 := Lib.hid o4.sl
        have hB4 := hBW.trans (b4.mono hBW.size)
        have hne : ((m4 : Int) != (m4 : Int)) = false := by simp
        clear o4 b4 HA kc hBW HSW HS hB2
        go_wp2_with fail
        go_loopw [7] (fun s7 wx => ∃ (i : Nat), s7 = .int .i64 i ∧ i ≤ m4 ∧ ∃ q, wx = w4.drewN q) (fun s _ => m4 - (intOf s).toNat)
        case atStart => exact ⟨0, rfl, Nat.zero_le _, 0, rfl⟩
        case round =>
          obtain ⟨i, rfl, him2, q, hq⟩ := hrel
          have i0 : (0 : Int) ≤ (i : Int) := by omega
          clear hne
          by_cases hlt : i < m4
          · have hil : i < l.length := by rw [HM.out]; exact hlt
            have hk0 : l[i]? = some l[i] := List.getElem?_eq_getElem hil
            have hg := HG.out _ (List.getElem_mem hil)
            generalize l[i] = g at hk0 hg
            obtain ⟨R, N⟩ := g
            have hk2 : (l.map fun g => (g.1, (encN g.1).length))[i]? = some (R, (encN R).length) := by rw [List.getElem?_map, hk0]; rfl
            have hS : Sl wr D (flatG l) := by rw [hq]; exact HS4.out.drewN q
            have hT : Sl wr D4 (flatG (l.map fun g => (g.1, (encN g.1).length))) := by rw [hq]; exact HT4.out.drewN q
            obtain ⟨b, o, rfl, x1, x2⟩ := Sl.got hS hk0
            obtain ⟨b4, o4, rfl, y1, y2⟩ := Sl.got hT hk2
            obtain ⟨hv, hor⟩ := hg
            simp only at hv hor
            have hez := size_list _ _ (encode_list R hv)
            have hcv := conv_rune (R : Int)
            generalize Utf8.encode (R : Int) = E at hez hcv
            have hl3 : R = 65533 → (encN R).length = 3 := fun h => by rw [encN_length R hv, h]; decide
            generalize (encN R).length = L at y2 hez hor hl3
            have e1 : ((R : Int) != (R : Int)) = false := by simp
            have e2 : ((L : Int) != (E.size : Int)) = false := by rw [hez]; simp
            have i1 : (i : Int) < (m4 : Int) := by omega
            have HQ := Lib.hid hq
            clear hk0 hk2 hS hT hez hv hq hil
            by_cases hNL : N = L
            · subst hNL
              have e3 : ((N : Int) != (N : Int)) = false := by simp
              clear hor hl3
              go_wp2_with fail
              go_quiet (fail)
              go_wp2_with fail
              go_roundw
              case rel => exact ⟨i + 1, by go_num, by omega, q + _, by rw [HQ.out, World.drewN_drewN]⟩
              case measure => simp [intOf]; omega
            · obtain ⟨rfl, rfl⟩ : R = 65533 ∧ N = 1 := by rcases hor with h | h; exact absurd h hNL; exact h
              obtain rfl : L = 3 := hl3 rfl
              clear hor hl3 hNL
              go_wp2_with fail
              go_quiet (fail)
              go_wp2_with fail
              go_roundw
              case rel => exact ⟨i + 1, by go_num, by omega, q + _, by rw [HQ.out, World.drewN_drewN]⟩
              case measure => simp [intOf]; omega
          · go_wp2_with fail
            refine (utfRuns_calls _).mono ?_
            rintro e w5 ⟨rfl, b5⟩
            have hB5 : Below w.heap.size w (w4.drewN q) := below_drewN hB4 q
            go_wp2_with fail
            go_ret
            exact ⟨rfl, hB5.trans (b5.mono hB5.size)⟩
end Go.Proofs.Ytepmnhlfjidhjaa
