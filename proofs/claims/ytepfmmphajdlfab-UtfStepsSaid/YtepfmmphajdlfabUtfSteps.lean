/-
  UtfSteps, its walk.
-/
import Derived.Test.YtepfmmphajdlfabUtfRuns
import Derived.Test.YtepfmmphajdlfabUtfRefByte
namespace Go.Proofs.Ytepfmmphajdlfab
open Go.RowKit Go.Mem

theorem OwnB.dfr {w w' : World} {B B2 p n c k cap sz : Nat} {L L' D : Option Addr} {h : List UInt8} {pre : List Value} (o : OwnB w B2 26 sz D k cap pre) (d : Dec w B p L n c h) (f : DFr p L L' w w') : OwnB w' B2 26 sz D k cap pre := by
  obtain ⟨h1, h2, h3⟩ := o
  refine ⟨h1, h2, ?_⟩
  rcases h3 with h3 | ⟨b, sp, hd, hg, hb, hc⟩
  · exact .inl h3
  · refine .inr ⟨b, sp, hd, hg, (f.block b hb.lt (hb.ne_ d.obj (by decide)) (fun e => ?_)).trans hb, hc⟩
    rcases d.own.2.2 with ⟨e2, _⟩ | ⟨g, sp2, e2, _, hb2, _⟩
    · rw [e] at e2; cases e2
    · rw [e] at e2; injection e2 with e2; injection e2 with e3; subst e3; exact (hb.ne_ hb2 (by decide)) rfl
theorem Sl.dfr {w w' : World} {p : Nat} {L L' A : Option Addr} {xs : List Value} (h : Sl w A xs) (f : DFr p L L' w w') (ha : ∀ b o s, A = some ⟨b, o, s⟩ → b < w.heap.size ∧ b ≠ p ∧ L ≠ some ⟨b, 0, none⟩) : Sl w' A xs := fun k v hv => by
  obtain ⟨b, o, e, hc⟩ := h k v hv
  obtain ⟨h1, h2, h3⟩ := ha b o none e
  exact ⟨b, o, e, (World.cell?_of_block (a := ⟨b, o + k, none⟩) (f.block b h1 h2 h3)).trans hc⟩

set_option maxRecDepth 100000 in
set_option maxHeartbeats 3200000 in
theorem utfSteps_calls (A : Option Addr) (n cap : Nat) (bs : List UInt8) (w : World) (hl : bs.length = n) (hn : n ≤ 9223372036854775807) (hs : Sl w A (bs.map B8)) :
    Calls Try.prog 4 #[.slice A n cap] w fun e w' => e = .returned (.bool true) ∧ Below w.heap.size w w' := by
  subst hl
  go_enter Try.func4, Try.ntmps4
  go_wp2_with fail
  refine (dnew_calls w).mono ?_
  unfold NewDec
  rintro e w1 ⟨p, rfl, d1, b1⟩
  have HD1 := Lib.hid d1
  clear d1
  go_wp2_with fail
  go_loopw [4, 5, 6] (fun hh k _ wr => ∃ (A' L : Option Addr) (j n1 c1 n2 c2 : Nat) (h : List UInt8), hh = .slice A' n1 c1 ∧ k = .int .i64 j ∧ j ≤ bs.length ∧ Hid (n1 = h.length) ∧ Hid (n2 = h.length) ∧ n1 ≤ 3 ∧ n2 ≤ 3 ∧ Hid (Sl wr A' (h.map B8)) ∧ Hid (Dec wr w.heap.size p L n2 c2 h) ∧ Below w.heap.size w wr) (fun _ k _ _ => bs.length - (intOf k).toNat)
  case atStart => exact ⟨none, none, 0, 0, 0, 0, 0, [], rfl, rfl, Nat.zero_le _, (show _ = _ from rfl), (show _ = _ from rfl), by omega, by omega, (show Sl _ _ _ from Sl.nil), HD1, b1⟩
  case round =>
    clear HD1 b1
    obtain ⟨A', L, j, n1, c1, n2, c2, h, rfl, rfl, hj, HN1, HN2, h3, h4, HS, HD, hB⟩ := hrel
    by_cases hin : j < bs.length ∧ j < 500
    · obtain ⟨hlt, h500⟩ := hin
      have hd3 : decide ((j : Int) < 500) = true := decide_eq_true (by omega)
      obtain ⟨b, o, rfl, hca⟩ := (hs.below hB).byte hlt
      have hcs : ∀ W : World, Below w.heap.size w W → W.cell? ⟨b, o + j, none⟩ = some (.int .u8 ((bs[j]'hlt).toNat : Int)) := fun W hW => Sl.byteAt (hs.below hW) hlt
      generalize bs[j]'hlt = x at hca hcs
      have HCS := Lib.hid hcs
      have HRB := Lib.hid (refByte_calls A' n1 c1 h x wr HN1.out.symm (by omega) HS.out)
      have hheld := loopU_held (h ++ [x])
      have i0 : (0 : Int) ≤ (j : Int) := Int.natCast_nonneg _
      have i1 : (j : Int) < (bs.length : Int) := by omega
      generalize hR : loopU (h ++ [x]) = R at HRB hheld
      have HRR := Lib.hid hR
      clear hR hcs HS HN1
      go_wp2_with fail
      refine HRB.out.mono ?_
      unfold RefByteEnds
      rintro e w2 ⟨D1, D2, m1, cc1, m2, cc2, rfl, hm1, hm2, hm3, hs1, ha1, ho2, b2⟩
      have HDr := Lib.hid HD.out
      have hpr : p < wr.heap.size := HD.out.obj.lt
      have hLr := HD.out.own.lt2
      have HD2 := Lib.hid (HD.out.below b2)
      have hB2 := hB.trans (b2.mono hB.size)
      have hc2 := HCS.out w2 hB2
      have HM1 := Lib.hid hm1
      have HM2 := Lib.hid hm2
      have HS1 := Lib.hid hs1
      have HA1 := Lib.hid ha1
      have HO2 := Lib.hid ho2
      have HLr := Lib.hid hLr
      clear HRB HD HDr hB b2 hca hm1 hm2 hs1 ha1 ho2 hLr
      have hm1' : m1 ≤ 3 := by rw [HM1.out]; exact hheld
      go_wp2_with fail
      refine (byteC w.heap.size p n2 c2 L h x _ rfl R HRR.out w2 HD2.out (by omega) hB2.size).mono ?_
      unfold ByteEnds
      rintro e w3 ⟨L3, D3, n3, c3, m3, cD3, rfl, hm4, _, hd3', ho3, hf3⟩
      have HM4 := Lib.hid hm4
      clear hm4
      have HS3 := Lib.hid (Sl.dfr HS1.out hf3 (fun bb oo ss e => ⟨(HA1.out bb oo ss e).2, fun e2 => by have := (HA1.out bb oo ss e).1; omega, fun e2 => by have h5 := (HA1.out bb oo ss e).1; have h6 := HLr.out bb e2; omega⟩))
      have HO3 := Lib.hid (OwnB.dfr HO2.out HD2.out hf3)
      have hB3 := below_dfr hB2 HD2.out hf3 hB2.size
      have HD3 := Lib.hid hd3'
      have hs3 := ho3.sl
      have hs2 := HO3.out.sl
      have HN3 := Lib.hid hd3'.len
      have hn3 : n3 ≤ 3 := by rw [hd3'.len]; exact hheld
      clear HS1 HO2 HD2 hB2 hd3' ho3 hf3 HA1 HLr hc2 HN2 HRR HO3
      go_wp2_with fail
      refine (sameG_true D3 D2 m3 m2 cD3 cc2 R.2 w3 HM4.out.symm HM2.out.symm (by omega) hs3 hs2).mono ?_
      rintro e w4 ⟨rfl, q4, rfl⟩
      have HS4 := Lib.hid (HS3.out.drewN q4)
      have HD4 := Lib.hid (HD3.out.drewN q4)
      have hB4 := below_drewN hB3 q4
      clear HS3 HD3 hB3 hs3 hs2
      generalize w3.drewN q4 = w4 at *
      go_wp2_with fail
      refine (held_calls w.heap.size p n3 c3 L3 R.1 w4 HD4.out (by omega)).mono ?_
      unfold HeldEnds
      rintro e w5 ⟨D5, c5, rfl, ho5, b5⟩
      have HS5 := Lib.hid (HS4.out.below b5)
      have HD5 := Lib.hid (HD4.out.below b5)
      have hB5 := hB4.trans (b5.mono hB4.size)
      have hs5 := ho5.sl
      clear HS4 HD4 hB4 b5 ho5
      go_wp2_with fail
      refine (sameB_calls D5 D1 R.1.length m1 c5 cc1 R.1 R.1 w5 rfl HM1.out.symm (by omega) (by omega) hs5 HS5.out).mono ?_
      rintro e w6 ⟨rfl, q6, rfl⟩
      rw [eqL_self]
      have HS6 := Lib.hid (HS5.out.drewN q6)
      have HD6 := Lib.hid (HD5.out.drewN q6)
      have hB6 := below_drewN hB5 q6
      clear HS5 HD5 hB5 hs5
      generalize w5.drewN q6 = w6 at *
      go_wp2_with fail
      go_roundw
      case rel => exact ⟨D1, L3, j + 1, m1, cc1, n3, c3, R.1, rfl, by go_num, by omega, HM1, HN3, hm1', hn3, HS6, HD6, hB6⟩
      case measure => simp [intOf]; omega
    · have hd3 : ¬ j < bs.length ∨ ¬ j < 500 := by omega
      have hnn : n1 = n2 := HN1.out.trans HN2.out.symm
      subst hnn
      have HE := Lib.hid (fun (W : World) (hd : Dec W w.heap.size p L n1 c2 h) => end_calls w.heap.size p n1 c2 L h W hd (by omega))
      have hlow := HD.out.low
      clear hin HS HN1 HN2
      by_cases hlt : j < bs.length
      all_goals
        first
          | (have hd4 : decide ((j : Int) < 500) = false := decide_eq_false (by omega))
          | skip
        clear hd3
        go_wp2_with fail
        refine (HE.out _ HD.out).mono ?_
        unfold EndEnds
        rintro e w2 ⟨D2, cD2, rfl, d2, o2, g2⟩
        have HD2 := Lib.hid d2
        have HO2 := Lib.hid (o2.mono hB.size)
        have hB2 := below_only hB g2 hB.size hlow
        clear HE HD hB d2 o2 g2
        go_wp2_with fail
        refine (held_calls w.heap.size p 0 0 none [] w2 HD2.out (by decide)).mono ?_
        unfold HeldEnds
        rintro e w3 ⟨D3, c3, rfl, _, b3⟩
        have HD3 := Lib.hid (HD2.out.below b3)
        have HO3 := Lib.hid (HO2.out.below b3)
        have hB3 := hB2.trans (b3.mono hB2.size)
        clear HD2 HO2 hB2 b3
        go_wp2_with fail
        refine (end_calls w.heap.size p 0 0 none [] w3 HD3.out (by decide)).mono ?_
        unfold EndEnds
        rintro e w4 ⟨D4, cD4, rfl, _, _, g4⟩
        have HO4 := Lib.hid (HO3.out.only HD3.out.obj (by decide) g4)
        have hB4 := below_only hB3 g4 hB3.size hlow
        clear HD3 HO3 hB3 g4
        go_wp2_with fail
        go_loopw [8] (fun k wx => ∃ (i : Nat), k = .int .i64 i ∧ i ≤ n1 ∧ wx = w4) (fun k _ => n1 - (intOf k).toNat)
        case atStart => exact ⟨0, rfl, Nat.zero_le _, rfl⟩
        case round =>
          obtain ⟨i, rfl, hi, hwx⟩ := hrel
          subst hwx
          by_cases hi2 : i < n1
          · have hr : (List.replicate n1 ((65533 : Nat), (1 : Nat)))[i]? = some (65533, 1) := by rw [List.getElem?_replicate, if_pos hi2]
            obtain ⟨b, o, rfl, k0, k1⟩ := Sl.got HO4.out.sl hr
            have k0' : wr.cell? ⟨b, o + i * 2, none⟩ = some (.int .i32 65533) := k0
            have k1' : wr.cell? ⟨b, o + i * 2 + 1, none⟩ = some (.int .i64 1) := k1
            have i0 : (0 : Int) ≤ (i : Int) := Int.natCast_nonneg _
            have i1 : (i : Int) < (n1 : Int) := by omega
            clear hr k0 k1
            go_wp2_with fail
            go_roundw
            case rel => exact ⟨i + 1, by go_num, by omega, trivial⟩
            case measure => simp [intOf]; omega
          · clear HO4
            go_wp2_with fail
            refine (utfRuns_calls _).mono ?_
            rintro e w6 ⟨rfl, b6⟩
            go_wp2_with fail
            go_ret
            exact ⟨rfl, hB4.trans (b6.mono hB4.size)⟩
end Go.Proofs.Ytepfmmphajdlfab
