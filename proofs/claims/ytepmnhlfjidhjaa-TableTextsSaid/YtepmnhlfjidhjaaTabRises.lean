/-
  TableRises, its walk.
-/
import Derived.Test.YtepmnhlfjidhjaaTabAny
import Derived.Test.YtepmnhlfjidhjaaTabOpen
import Derived.Test.YtepmnhlfjidhjaaTabRuns
import Derived.Deep.RegionHeld3
namespace Go.Proofs.Ytepmnhlfjidhjaa
open Go.RowKit Go.Mem Go.Proofs Go.Law

theorem three {w : World} {A : Option Addr} {rs : List Ask4} (h : RowsAt w A 3 (rs.map Ask4.cells)) {k : Nat} (hk : k < rs.length) : ∃ b o, A = some ⟨b, o, none⟩ ∧ w.cell? ⟨b, o + k * 3, none⟩ = some (.int .i64 rs[k].a) ∧ w.cell? ⟨b, o + k * 3 + 1, none⟩ = some (.int .i64 rs[k].k) ∧ w.cell? ⟨b, o + k * 3 + 2, none⟩ = some (.int .i64 rs[k].v) :=
  RowsAt.three h (List.getElem?_eq_getElem hk) rfl
theorem stepB {a b c : World} (h : Below a.heap.size a b) (k : Below b.heap.size b c) : Below a.heap.size a c := h.trans (k.mono h.size)
theorem keepW {w w' : World} {a : Addr} {v : Value} (hb : Below w.heap.size w w') (h : w.cell? a = some v) : w'.cell? a = some v := (hb.cell (lt_of_cell h)).trans h

set_option maxRecDepth 100000 in
set_option maxHeartbeats 6400000 in
theorem tableRises_calls (A : Option Addr) (n cap : Nat) (rs : List Ask4) (kk : Int) (w : World) (hl : rs.length = n) (hn : n ≤ 9223372036854775807) (hs : RowsAt w A 3 (rs.map Ask4.cells)) :
    Calls Try.prog 11 #[.slice A n cap, .int .i64 kk] w fun e w' => e = .returned (.bool true) ∧ Below w.heap.size w w' := by
  subst hl
  have HS := Lib.hid hs
  clear hs
  go_enter Try.func11, Try.ntmps11
  go_wp2_with fail
  refine (newII_calls w).mono ?_
  rintro e w1 ⟨rfl, tt, bb⟩
  have HR : Hid (Ri w1 w.heap.size w.heap.size 0 [] []) := (show Ri _ _ _ _ _ _ from ⟨none, none, tt, List.Pairwise.nil, Nat.le_refl _, rfl⟩)
  have B := bb
  clear tt bb
  go_wp2_with fail
  go_loopw [6] (fun s6 wr => ∃ (i : Nat) (ks vs : List Int), i ≤ rs.length ∧ i ≤ 200 ∧ s6 = .int .i64 i ∧ Hid (Ri wr w.heap.size w.heap.size i ks vs) ∧ Below w.heap.size w wr) (fun s _ => 200 - (intOf s).toNat)
  case atStart => exact ⟨0, [], [], Nat.zero_le _, Nat.zero_le _, rfl, HR, B⟩
  case round =>
    clear HR B
    obtain ⟨i, ks, vs, hi, hi2, rfl, HR, B⟩ := hrel
    by_cases hin : i < rs.length ∧ i < 200
    · obtain ⟨hlt, h200⟩ := hin
      have hd3 : decide ((i : Int) < 200) = true := decide_eq_true (by omega)
      have i0 : (0 : Int) ≤ (i : Int) := by omega
      have i1 : (i : Int) < (rs.length : Int) := by omega
      obtain ⟨gz, oz, ez, x0, x1, x2⟩ := three HS.out hlt
      subst ez
      have HX1 := Lib.hid x1
      have HX2 := Lib.hid x2
      replace x0 := keepW B x0
      replace x1 := keepW B x1
      replace x2 := keepW B x2
      generalize rs[i] = r at *
      obtain ⟨ra, rk, rv⟩ := r
      simp only at x0 x1 x2 HX1 HX2
      by_cases h3 : ra = 3
      · subst h3
        have HC := Lib.hid (del_ri w.heap.size w.heap.size i ks vs rk wr HR.out (by omega) B.size)
        unfold RiEnds at HC
        go_wp2_with fail
        refine HC.out.mono ?_
        rintro e w2 ⟨bo, ks2, vs2, rfl, h2, b2⟩
        have HR2 := Lib.hid h2
        have B2 := B.trans b2
        clear HC HR B h2 b2
        go_wp2_with fail
        go_roundw
        case rel => exact ⟨i + 1, ks2, vs2, by omega, by omega, by go_num, HR2, B2⟩
        case measure => simp [intOf]; omega
      · have hne : (ra == 3) = false := beq_eq_false_iff_ne.2 h3
        have HC : Hid (∀ W : World, Below w.heap.size w W → Ri W w.heap.size w.heap.size i ks vs → Calls Try.prog 67 #[.pointer (some ⟨w.heap.size, 0, none⟩), .int .i64 rk, .int .i64 rv] W (RiEnds W w.heap.size w.heap.size (i + 1))) := (show ∀ W : World, _ from fun W hb hr => set_ri w.heap.size w.heap.size i ks vs rk rv W hr (by omega) hb.size)
        have HRD := Lib.hid (HR.out.drewN 1)
        go_wp2_with fail
        go_region_held3 (fun w' => w'.cell? ⟨gz, oz + i * 3 + 1, none⟩ = some (.int .i64 rk) ∧ w'.cell? ⟨gz, oz + i * 3 + 2, none⟩ = some (.int .i64 rv)) (first | (exact ⟨keepW (B.drew.trans b2) HX1.out, keepW (B.drew.trans b2) HX2.out⟩) | go_keep) (first | (go_at_call 67; refine (HC.out _ (by exact B.drew) (by exact HRD.out)).mono ?_; unfold RiEnds; rintro e w2 ⟨bo, ks2, vs2, rfl, h2, b2⟩))
        have HR2 := Lib.hid h2
        have B2 : Below w.heap.size w w2 := B.drew.trans b2
        clear HC HR B h2 b2 HRD
        go_wp2_with fail
        go_roundw
        case rel => exact ⟨i + 1, ks2, vs2, by omega, by omega, by go_num, HR2, B2⟩
        case measure => simp [intOf]; omega
    · by_cases hlt : i < rs.length
      all_goals
        first
          | (have hd4 : decide ((i : Int) < 200) = false := decide_eq_false (by omega))
          | skip
        clear hin
        obtain ⟨DK, DV, tb, hri, hkl, hkv⟩ := HR.out
        have HC := Lib.hid (keysII_calls w.heap.size w.heap.size DK DV ks vs wr tb (by omega))
        unfold KeysEndII at HC
        have HT := Lib.hid tb
        have HRI := Lib.hid hri
        have HKV := Lib.hid hkv
        have hkl2 : ks.length ≤ 200 := by omega
        clear tb hri hkv HR hkl
        go_wp2_with fail
        refine HC.out.mono ?_
        rintro e w5 ⟨Dk, ck, rfl, o5, b5⟩
        replace HT := Lib.hid (HT.out.below b5)
        have HO := Lib.hid o5
        have B5 := stepB B b5
        clear HC o5 b5 B
        go_wp2_with fail
        go_loopw [8, 9, 10, 11, 12, 13, 14] (fun s8 s9 _ _ _ _ _ wr => ∃ (j c : Nat), j ≤ ks.length ∧ c ≤ j ∧ s8 = .int .i64 c ∧ s9 = .int .i64 j ∧ Hid (c = (ks.take j).countP (fun a => ltI a kk)) ∧ ∃ q, wr = w5.drewN q) (fun _ s _ _ _ _ _ _ => ks.length - (intOf s).toNat)
        case atStart => exact ⟨0, 0, Nat.zero_le _, Nat.le_refl _, rfl, rfl, (show _ = _ from rfl), 0, rfl⟩
        case round =>
        obtain ⟨j, c, hj, hcj, rfl, rfl, HC, q, hq⟩ := hrel
        have HTw := Lib.hid (show TbII wr w.heap.size w.heap.size DK DV ks vs by rw [hq]; exact HT.out.drewN _)
        have HOw := Lib.hid (show Sl wr Dk (ks.map (Value.int .i64)) by rw [hq]; exact HO.out.sl.drewN _)
        have HQ := Lib.hid hq
        clear hq
        by_cases hjl : j < ks.length
        · have hvl : j < vs.length := by rw [← HKV.out]; exact hjl
          have HK := Lib.hid (List.getElem?_eq_getElem hjl)
          have HV := Lib.hid (List.getElem?_eq_getElem hvl)
          have HTK := Lib.hid (List.take_succ_eq_append_getElem hjl)
          have HVD : Hid (vs.getD j 0 = vs[j]) := (show _ = _ by simp [List.getD, hvl])
          obtain ⟨gk, ok, ek, kc⟩ := HOw.out.at_ (k := j) (by simpa using hjl)
          rw [List.getElem_map] at kc
          subst ek
          have j0 : (0 : Int) ≤ (j : Int) := by omega
          have j1 : (j : Int) < (ks.length : Int) := by omega
          generalize ks[j] = k at *
          generalize vs[j] = v at *
          have HA := Lib.hid (atII_in w.heap.size w.heap.size DK DV ks vs j k v wr HTw.out HK.out HV.out)
          cases j with
          | zero =>
            simp only [Nat.add_zero] at kc
            go_wp2_with fail
            refine HA.out.mono ?_
            rintro e w6 ⟨rfl, q6, hq6⟩
            have H6 := Lib.hid (show TbII w6 w.heap.size w.heap.size DK DV ks vs by rw [hq6]; exact HTw.out.drewN _)
            have kc6 : w6.cell? ⟨gk, ok, none⟩ = some (.int .i64 k) := by rw [hq6]; exact kc
            skip
            have HG := Lib.hid (getII_calls w.heap.size w.heap.size DK DV ks vs k 0 w6 H6.out HRI.out (Tab.At.self ordI HRI.out HK.out) (by omega))
            rw [if_pos HK.out, decide_eq_true HK.out, HVD.out] at HG
            have hq62 : ∃ q, w6 = w5.drewN q := ⟨q + q6, by rw [hq6, HQ.out, World.drewN_drewN]⟩
            clear hq6 HA kc 
            go_wp2_with fail
            refine HG.out.mono ?_
            rintro e w7 ⟨rfl, q7, hq7⟩
            have H7 := Lib.hid (show TbII w7 w.heap.size w.heap.size DK DV ks vs by rw [hq7]; exact H6.out.drewN _)
            have kc7 : w7.cell? ⟨gk, ok, none⟩ = some (.int .i64 k) := by rw [hq7]; exact kc6
            skip
            obtain ⟨q5, hq5⟩ : ∃ q, w7 = w5.drewN q := by obtain ⟨qa, ha⟩ := hq62; exact ⟨qa + q7, by rw [hq7, ha, World.drewN_drewN]⟩
            have HQ2 : Hid (∀ m, w7.drewN m = w5.drewN (q5 + m)) := (show ∀ m, _ from fun m => by rw [hq5, World.drewN_drewN])
            have HL : Hid (∀ q, Calls Try.prog 70 #[.pointer (some ⟨w.heap.size, 0, none⟩), .int .i64 k] (w7.drewN q) fun e w' => e = .returned (.int .i64 ((0 : Nat) : Int)) ∧ ∃ m, w' = (w7.drewN q).drewN m) := (show ∀ q, _ from fun q => leastII_calls w.heap.size w.heap.size DK DV ks vs k 0 (w7.drewN q) (H7.out.drewN q) HRI.out (Tab.At.self ordI HRI.out HK.out) (by omega))
            have e1 : ((k : Int) != k) = false := by simp
            have e2 : ((v : Int) != v) = false := by simp
            skip
            clear hq7 hq62 hq5 HG kc6 
            go_wp2_with fail
            go_big_quiet (exact Calls.quiet_of (HL.out _))
            by_cases hlk : k < kk
            · have HC2 : Hid (c + 1 = (ks.take (0 + 1)).countP (fun a => ltI a kk)) := (show _ = _ by rw [HTK.out, List.countP_append, ← HC.out]; simp [ltI, hlk])
              go_wp2_with fail
              go_roundw
              case rel => exact ⟨0 + 1, c + 1, by omega, by omega, by go_num, by go_num, HC2, _, HQ2.out _⟩
              case measure => simp [intOf]; omega
            · have HC2 : Hid (c = (ks.take (0 + 1)).countP (fun a => ltI a kk)) := (show _ = _ by rw [HTK.out, List.countP_append, ← HC.out]; simp [ltI, hlk])
              have hdk : decide (k < kk) = false := decide_eq_false hlk
              go_wp2_with fail
              go_roundw
              case rel => exact ⟨0 + 1, c, by omega, by omega, rfl, by go_num, HC2, _, HQ2.out _⟩
              case measure => simp [intOf]; omega
          | succ jj =>
            have hjj : jj < ks.length := by omega
            obtain ⟨gk2, ok2, ek2, pc⟩ := HOw.out.at_ (k := jj) (by simpa using hjj)
            obtain ⟨rfl, rfl⟩ : gk = gk2 ∧ ok = ok2 := by injection ek2 with e; injection e with e1 e2; exact ⟨e1, e2⟩
            rw [List.getElem_map] at pc
            have hpk := HRI.out.get (Nat.lt_succ_self jj) (List.getElem?_eq_getElem hjj) HK.out
            generalize ks[jj] = pk at pc hpk
            have hdp : decide (k ≤ pk) = false := by unfold ltI at hpk; rw [decide_eq_true_iff] at hpk; exact decide_eq_false (by omega)
            have jj0 : (0 : Int) ≤ (jj : Int) := by omega
            have jj1 : (jj : Int) < (ks.length : Int) := by omega
            have jj2 : (0 : Int) < (jj : Int) + 1 := by omega
            have jj3 : (0 : Int) ≤ (jj : Int) + 1 := by omega
            have jj4 : (jj : Int) + 1 < (ks.length : Int) := by omega
            clear hpk ek2 hjj
            go_wp2_with fail
            refine HA.out.mono ?_
            rintro e w6 ⟨rfl, q6, hq6⟩
            have H6 := Lib.hid (show TbII w6 w.heap.size w.heap.size DK DV ks vs by rw [hq6]; exact HTw.out.drewN _)
            have kc6 : w6.cell? ⟨gk, ok + (jj + 1), none⟩ = some (.int .i64 k) := by rw [hq6]; exact kc
            have pc6 : w6.cell? ⟨gk, ok + jj, none⟩ = some (.int .i64 pk) := by rw [hq6]; exact pc
            have HG := Lib.hid (getII_calls w.heap.size w.heap.size DK DV ks vs k (jj + 1) w6 H6.out HRI.out (Tab.At.self ordI HRI.out HK.out) (by omega))
            rw [if_pos HK.out, decide_eq_true HK.out, HVD.out] at HG
            have hq62 : ∃ q, w6 = w5.drewN q := ⟨q + q6, by rw [hq6, HQ.out, World.drewN_drewN]⟩
            clear hq6 HA kc pc
            go_wp2_with fail
            refine HG.out.mono ?_
            rintro e w7 ⟨rfl, q7, hq7⟩
            have H7 := Lib.hid (show TbII w7 w.heap.size w.heap.size DK DV ks vs by rw [hq7]; exact H6.out.drewN _)
            have kc7 : w7.cell? ⟨gk, ok + (jj + 1), none⟩ = some (.int .i64 k) := by rw [hq7]; exact kc6
            have pc7 : w7.cell? ⟨gk, ok + jj, none⟩ = some (.int .i64 pk) := by rw [hq7]; exact pc6
            obtain ⟨q5, hq5⟩ : ∃ q, w7 = w5.drewN q := by obtain ⟨qa, ha⟩ := hq62; exact ⟨qa + q7, by rw [hq7, ha, World.drewN_drewN]⟩
            have HQ2 : Hid (∀ m, w7.drewN m = w5.drewN (q5 + m)) := (show ∀ m, _ from fun m => by rw [hq5, World.drewN_drewN])
            have HL : Hid (∀ q, Calls Try.prog 70 #[.pointer (some ⟨w.heap.size, 0, none⟩), .int .i64 k] (w7.drewN q) fun e w' => e = .returned (.int .i64 ((jj + 1 : Nat) : Int)) ∧ ∃ m, w' = (w7.drewN q).drewN m) := (show ∀ q, _ from fun q => leastII_calls w.heap.size w.heap.size DK DV ks vs k (jj + 1) (w7.drewN q) (H7.out.drewN q) HRI.out (Tab.At.self ordI HRI.out HK.out) (by omega))
            have e1 : ((k : Int) != k) = false := by simp
            have e2 : ((v : Int) != v) = false := by simp
            have e3 : ((jj : Int) + 1 != (jj : Int) + 1) = false := by simp
            clear hq7 hq62 hq5 HG kc6 pc6
            go_wp2_with fail
            go_big_quiet (exact Calls.quiet_of (HL.out _))
            by_cases hlk : k < kk
            · have HC2 : Hid (c + 1 = (ks.take (jj + 1 + 1)).countP (fun a => ltI a kk)) := (show _ = _ by rw [HTK.out, List.countP_append, ← HC.out]; simp [ltI, hlk])
              go_wp2_with fail
              go_roundw
              case rel => exact ⟨jj + 1 + 1, c + 1, by omega, by omega, by go_num, by go_num, HC2, _, HQ2.out _⟩
              case measure => simp [intOf]; omega
            · have HC2 : Hid (c = (ks.take (jj + 1 + 1)).countP (fun a => ltI a kk)) := (show _ = _ by rw [HTK.out, List.countP_append, ← HC.out]; simp [ltI, hlk])
              have hdk : decide (k < kk) = false := decide_eq_false hlk
              go_wp2_with fail
              go_roundw
              case rel => exact ⟨jj + 1 + 1, c, by omega, by omega, rfl, by go_num, HC2, _, HQ2.out _⟩
              case measure => simp [intOf]; omega
        · obtain rfl : j = ks.length := by omega
          obtain ⟨ik, hat⟩ := Tab.At.ex ordI ks HRI.out kk
          have hce : c = ik := by rw [HC.out, List.take_of_length_le (Nat.le_refl _)]; exact hat.count
          subst hce
          have HLn := Lib.hid (lenII_calls w.heap.size w.heap.size DK DV ks vs wr HTw.out)
          have HLs := Lib.hid (leastII_calls w.heap.size w.heap.size DK DV ks vs kk c wr HTw.out HRI.out hat (by omega))
          have B6 : Below w.heap.size w wr := by rw [HQ.out]; exact below_drewN B5 _
          have e1 : ((ks.length : Int) == (ks.length : Int)) = true := by simp
          have e2 : ((c : Int) == (c : Int)) = true := by simp
          clear hat HC HTw HOw HT HO HQ
          go_wp2_with fail
          refine HLn.out.mono ?_
          rintro e w8 ⟨rfl, hw8⟩
          obtain rfl := hw8.symm
          clear HLn hw8
          go_wp2_with fail
          refine HLs.out.mono ?_
          rintro e w9 ⟨rfl, q9, hq9⟩
          have B9 : Below w.heap.size w w9 := by rw [hq9]; exact below_drewN B6 _
          clear HLs hq9 B6
          go_wp2_with fail
          refine (tableRuns_calls w9).mono ?_
          rintro e w10 ⟨rfl, b10⟩
          have B10 := stepB B9 b10
          go_wp2_with fail
          go_ret
          exact ⟨rfl, B10⟩
end Go.Proofs.Ytepmnhlfjidhjaa
