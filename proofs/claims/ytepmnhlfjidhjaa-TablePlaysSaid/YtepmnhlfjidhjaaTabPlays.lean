/-
  TablePlays, its walk.
-/
import Derived.Test.YtepmnhlfjidhjaaTabStep4
import Derived.Test.YtepmnhlfjidhjaaTabStep5
import Derived.Test.YtepmnhlfjidhjaaTabRises
import Derived.Deep.CutBlock
namespace Go.Proofs.Ytepmnhlfjidhjaa
open Go.RowKit Go.Mem Go.Proofs Go.Law

theorem step_calls (B p m c : Nat) (DK DV D : Option Addr) (ps : List (Int × Int)) (d k v : Int) (w : World) (h : StP w B p DK DV D c ps) (hm : ps.length ≤ m) (hm2 : m ≤ 1000) (hB : B ≤ w.heap.size) :
    Calls Try.prog 63 #[.pointer (some ⟨p, 0, none⟩), .slice D ps.length c, .agg #[.int .i64 d, .int .i64 k, .int .i64 v]] w (StEnds w B p (m + 1)) := by
  obtain ⟨i, hat⟩ := Tab.At.ex ordI (ps.map (·.1)) h.r k
  by_cases h1 : d = 1
  · subst h1
    by_cases hf : (ps.map (·.1))[i]? = some k
    · exact step_setOld B p m c i DK DV D ps k v w h hat hm hm2 hB hf
    · exact step_setNew B p m c i DK DV D ps k v w h hat hm hm2 hB hf
  by_cases h2 : d = 2
  · subst h2
    by_cases hf : (ps.map (·.1))[i]? = some k
    · exact step_getIn B p m c i DK DV D ps k v w h hat hm hm2 hB hf
    · exact step_getOut B p m c i DK DV D ps k v w h hat hm hm2 hB hf
  by_cases h3 : d = 3
  · subst h3
    by_cases hf : (ps.map (·.1))[i]? = some k
    · exact step_delIn B p m c i DK DV D ps k v w h hat hm hm2 hB hf
    · exact step_delOut B p m c i DK DV D ps k v w h hat hm hm2 hB hf
  by_cases h4 : d = 4
  · subst h4
    by_cases hn : k < 0
    · exact step_atNeg B p m c i DK DV D ps k v w h hat hm hm2 hB hn
    by_cases hb : (ps.length : Int) ≤ k
    · exact step_atBig B p m c i DK DV D ps k v w h hat hm hm2 hB hb
    · obtain ⟨j, rfl⟩ := Int.eq_ofNat_of_zero_le (Int.not_lt.1 hn)
      exact step_atIn B p m c i DK DV D ps j v w h hat hm hm2 hB (by omega)
  by_cases h5 : d = 5
  · subst h5
    exact step_least B p m c i DK DV D ps k v w h hat hm hm2 hB
  · exact step_other B p m c i DK DV D ps d k v w h hat hm hm2 hB h1 h2 h3 h4 h5

set_option maxRecDepth 100000 in
set_option maxHeartbeats 6400000 in
theorem tablePlays_calls (A : Option Addr) (n cap : Nat) (rs : List Ask4) (w : World) (hl : rs.length = n) (hn : n ≤ 9223372036854775807) (hs : RowsAt w A 3 (rs.map Ask4.cells)) :
    Calls Try.prog 10 #[.slice A n cap] w fun e w' => e = .returned (.bool true) ∧ Below w.heap.size w w' := by
  subst hl
  have HS := Lib.hid hs
  clear hs
  go_enter Try.func10, Try.ntmps10
  go_wp2_with fail
  refine (newII_calls w).mono ?_
  rintro e w1 ⟨rfl, tt, bb⟩
  have HR : Hid (StP w1 w.heap.size w.heap.size none none none 0 []) := (show StP _ _ _ _ _ _ _ _ from ⟨tt, List.Pairwise.nil, OwnB.nil _ _ _ _⟩)
  have B := bb
  clear tt bb
  go_upto_block 0 with fail
  go_cut [4, 5, 6] from 12 to 40 (fun s4 s5 s6 wx => ∃ (D DK DV : Option Addr) (c : Nat) (ps : List (Int × Int)), s4 = .slice D ps.length c ∧ Hid (StP wx w.heap.size w.heap.size DK DV D c ps) ∧ ps.length ≤ 200 ∧ Below w.heap.size w wx)
  case first =>
    go_wp2_with fail
    go_loopw [4, 5, 6] (fun s4 s5 s6 wr => ∃ (i : Nat) (D DK DV : Option Addr) (c : Nat) (ps : List (Int × Int)), i ≤ rs.length ∧ i ≤ 200 ∧ s4 = .slice D ps.length c ∧ s5 = .bool true ∧ s6 = .int .i64 i ∧ Hid (StP wr w.heap.size w.heap.size DK DV D c ps) ∧ ps.length ≤ i ∧ Below w.heap.size w wr) (fun _ _ s _ => 200 - (intOf s).toNat)
    case atStart => exact ⟨0, none, none, none, 0, [], Nat.zero_le _, Nat.zero_le _, rfl, rfl, rfl, HR, Nat.le_refl _, B⟩
    case round =>
      clear HR B
      obtain ⟨i, D, DK, DV, c, ps, hi, hi2, rfl, rfl, rfl, HR, hpl, B⟩ := hrel
      by_cases hin : i < rs.length ∧ i < 200
      · obtain ⟨hlt, h200⟩ := hin
        have hd3 : decide ((i : Int) < 200) = true := decide_eq_true (by omega)
        have i0 : (0 : Int) ≤ (i : Int) := by omega
        have i1 : (i : Int) < (rs.length : Int) := by omega
        obtain ⟨gz, oz, ez, x0, x1, x2⟩ := three HS.out hlt
        subst ez
        replace x0 := keepW B x0
        replace x1 := keepW B x1
        replace x2 := keepW B x2
        generalize rs[i] = r at *
        obtain ⟨ra, rk, rv⟩ := r
        simp only at x0 x1 x2
        have HC := Lib.hid (step_calls w.heap.size w.heap.size i c DK DV D ps ra rk rv wr HR.out hpl (by omega) B.size)
        unfold StEnds at HC
        clear HR hpl
        go_wp2_with fail
        refine HC.out.mono ?_
        rintro e w2 ⟨D2, n2, c2, DK2, DV2, ps2, rfl, rfl, h2, hl2, b2⟩
        have HR2 := Lib.hid h2
        have B2 : Below w.heap.size w w2 := B.trans b2
        have HL := Lib.hid (lenII_calls w.heap.size w.heap.size DK2 DV2 (ps2.map (·.1)) (ps2.map (·.2)) w2 h2.t)
        rw [List.length_map] at HL
        have e1 : ((ps2.length : Int) != (ps2.length : Int)) = false := by simp
        clear HC h2 b2 x0 x1 x2 B
        go_wp2_with fail
        refine HL.out.mono ?_
        rintro e w3 ⟨rfl, hw3⟩
        obtain rfl := hw3.symm
        clear HL hw3
        go_wp2_with fail
        go_roundw
        case rel => exact ⟨i + 1, D2, DK2, DV2, c2, ps2, by omega, by omega, rfl, rfl, by go_num, HR2, hl2, B2⟩
        case measure => simp [intOf]; omega
      · by_cases hlt : i < rs.length
        all_goals
          first
            | (have hd4 : decide ((i : Int) < 200) = false := decide_eq_false (by omega))
            | skip
          clear hin
          go_wp2_with fail
          go_meet
          exact ⟨D, DK, DV, c, ps, rfl, HR, by omega, B⟩
  case rest =>
    clear HR B HS
    obtain ⟨D, DK, DV, c, ps, rfl, HR, hpl, B⟩ := hcut
    have HK := Lib.hid (keysII_calls w.heap.size w.heap.size DK DV (ps.map (·.1)) (ps.map (·.2)) wc HR.out.t (by simp; omega))
    unfold KeysEndII at HK
    rw [List.length_map] at HK
    have e1 : ((ps.length : Int) != (ps.length : Int)) = false := by simp
    go_wp2_with fail
    refine HK.out.mono ?_
    rintro e w5 ⟨Dk, ck, rfl, o5, b5⟩
    have HO := Lib.hid o5
    have HP := Lib.hid (HR.out.o.below b5)
    have B5 := stepB B b5
    clear HK o5 b5 B HR
    go_wp2_with fail
    go_loopw [8] (fun s8 wq => ∃ (j : Nat), j ≤ ps.length ∧ s8 = .int .i64 j ∧ ∃ q, wq = w5.drewN q) (fun s _ => ps.length - (intOf s).toNat)
    case atStart => exact ⟨0, Nat.zero_le _, rfl, 0, rfl⟩
    case round =>
      obtain ⟨j, hj, rfl, q, hq⟩ := hrel
      by_cases hlt : j < ps.length
      · obtain ⟨r, hr⟩ : ∃ r, ps[j]? = some r := ⟨_, List.getElem?_eq_getElem hlt⟩
        obtain ⟨gz, oz, rfl, hc, _⟩ := rowP (HP.out.drewN q).sl hr
        obtain ⟨gk, ok, rfl, kc⟩ := (HO.out.drewN q).sl j (.int .i64 r.1) (by simp [hr])
        rw [← hq] at hc kc
        have j0 : (0 : Int) ≤ (j : Int) := by omega
        have j1 : (j : Int) < (ps.length : Int) := by omega
        have e2 : (r.1 != r.1) = false := by simp
        have HQ : Hid (∀ m, wr.drewN m = w5.drewN (q + m)) := (show ∀ m, _ from fun m => by rw [hq, World.drewN_drewN])
        clear hr hq
        go_wp2_with fail
        go_big_quiet (fail)
        go_wp2_with fail
        go_roundw
        case rel => exact ⟨j + 1, by omega, by go_num, _, HQ.out _⟩
        case measure => simp [intOf]; omega
      · have B6 : Below w.heap.size w wr := by rw [hq]; exact below_drewN B5 _
        clear hq
        go_wp2_with fail
        refine (tableRuns_calls wr).mono ?_
        rintro e w10 ⟨rfl, b10⟩
        have B10 := stepB B6 b10
        go_wp2_with fail
        go_ret
        exact ⟨rfl, B10⟩
end Go.Proofs.Ytepmnhlfjidhjaa
