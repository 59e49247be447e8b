/-
  YardInos: behind any calls no two files have one name or one number, and a new number is the least that is free.
-/
import Derived.Test.YtbmgeomndfodpaaYardRuns
import Derived.Test.YtbmgeomndfodpaaYardAsk
import Derived.Deep.CutBlock
namespace Go.Proofs.Ytbmgeomndfodpaa
open Go.RowKit Go.Mem Go.Proofs Go.Law

theorem filesM_at {m : List MF} {i : Nat} (hi : i < m.length) : (filesM m)[i]? = some (m[i].ino, m[i].name, (m[i].data.length : Int)) := by
  unfold filesM; rw [List.getElem?_map, List.getElem?_eq_getElem hi]; rfl
theorem filesM_len (m : List MF) : (filesM m).length = m.length := by unfold filesM; rw [List.length_map]
theorem Gd.name_ne {m : List MF} (h : Gd m) {k i : Nat} (hk : k < i) (hi : i < m.length) : (m[k].name.toList == m[i].name.toList) = false := by
  have := List.pairwise_iff_getElem.1 h.d k i (by omega) hi hk
  rw [Lib.toList_data, Lib.toList_data]
  exact beq_false_of_ne (fun e => this (by
    generalize m[k].name = v1 at *
    generalize m[i].name = s at *
    obtain ⟨a⟩ := v1; obtain ⟨b⟩ := s; exact congrArg ByteArray.mk (Array.toList_inj.1 e)))
theorem Gd.ino_lt {m : List MF} (h : Gd m) {k i : Nat} (hk : k < i) (hi : i < m.length) : m[k].ino < m[i].ino := by
  have := h.r.get hk (a := m[k].ino) (b := m[i].ino) (by rw [List.getElem?_map, List.getElem?_eq_getElem (by omega)]; rfl) (by rw [List.getElem?_map, List.getElem?_eq_getElem hi]; rfl)
  simpa [ltI] using this
theorem findV_agg (s : ByteArray) (m : List MF) : ∃ (a : Int) (b : ByteArray) (c : Int), findV s m = .agg #[.int .i64 a, .string b, .int .i64 c] := by
  unfold findV
  cases findM s m with
  | none => exact ⟨_, _, _, rfl⟩
  | some i => exact ⟨_, _, _, rfl⟩
theorem create_told {s : ByteArray} {m : List MF} (h : Gd m) (h0 : createNo s m = 0) : (findM s m).isSome = false ∧ findV s (createM s m) = .agg #[.int .i64 (1 + (leadM 1 m : Int)), .string s, .int .i64 0] ∧ (findM s (createM s m)).isSome = true ∧ (filesM (createM s m)).length = m.length + 1 := by
  obtain ⟨c1, c2, c3⟩ := createNo_zero h0
  have hm : createM s m = m.take (leadM 1 m) ++ ⟨(leadM 1 m : Int) + 1, s, []⟩ :: m.drop (leadM 1 m) := if_pos h0
  have hg := h.create (s := s)
  have hl := leadM_le 1 m
  have hx : (createM s m)[leadM 1 m]? = some ⟨(leadM 1 m : Int) + 1, s, []⟩ := by
    rw [hm, ins_get _ _ _ _ hl, if_neg (by omega), if_pos rfl]
  have hf := hg.find hx
  refine ⟨by rw [h.no0.1 c2]; rfl, ?_, ?_, ?_⟩
  · unfold findV
    simp only at hf
    rw [hf]
    simp only [getD_some hx]
    unfold toldM
    rw [show ((leadM 1 m : Int) + 1) = 1 + (leadM 1 m : Int) by omega]; rfl
  · simp only at hf; rw [hf]; rfl
  · rw [filesM_len, hm]; simp; omega
theorem create_not {s : ByteArray} {m : List MF} (h0 : createNo s m ≠ 0) : createM s m = m ∧ (createNo s m = 9 → m.length = 12) := by
  refine ⟨if_neg h0, fun h9 => ?_⟩
  unfold createNo at h9
  split at h9
  · cases h9
  · split at h9
    · cases h9
    · split at h9
      · assumption
      · cases h9
set_option maxRecDepth 100000 in
set_option maxHeartbeats 6400000 in
theorem yardInos_calls (A0 : Option Addr) (n0 c0 : Nat) (rs : List Ask7) (name : ByteArray) (w : World) (hl0 : rs.length = n0) (hs0 : RowsAt w A0 7 (rs.map Ask7.cells)) (hok : ∀ r ∈ rs, r.Ok w) (hnm : name.size ≤ 9223372036854775807) :
    Calls Try.prog 6 #[.slice A0 n0 c0, .string name] w fun e w' => e = .returned (.bool true) ∧ Below w.heap.size w w' := by
  have HS0 := Lib.hid hs0
  have HP0 := Lib.hid hok
  have HL0 := Lib.hid hl0
  have HNM := Lib.hid hnm
  clear hs0 hok hl0 hnm
  go_enter Try.func6, Try.ntmps6
  go_wp2_with fail
  refine (newV w).mono ?_
  rintro e w1 ⟨y, S1, rfl, h1, b1⟩
  have HY := Lib.hid h1
  have HB := Lib.hid b1
  clear h1 b1
  go_upto_block 0 with fail
  go_cut [6, 7] from 20 to 68 (fun s6 s7 wx => ∃ (m : List MF) (S : Nat → Prop), Hid (YV wx w.heap.size y m [] S) ∧ Hid (Below w.heap.size w wx))
  case first =>
    go_wp2_with fail
    go_loopw [6] (fun s6 wr => ∃ (j : Nat) (m : List MF) (S : Nat → Prop), j ≤ 100 ∧ j ≤ n0 ∧ s6 = .int .i64 j ∧ Hid (YV wr w.heap.size y m [] S) ∧ Hid (Below w.heap.size w wr)) (fun s6 _ => 100 - (intOf s6).toNat)
    case atStart => exact ⟨0, [], S1, by decide, Nat.zero_le _, rfl, HY, HB⟩
    case round =>
      clear HY HB
      obtain ⟨j, m, S, hj, hjn, rfl, HY, HB⟩ := hrel
      by_cases hlt : j < 100 ∧ j < n0
      · obtain ⟨hlt1, hlt2⟩ := hlt
        have i1 : (0 : Int) ≤ (j : Int) := by omega
        have i2 : (j : Int) < 100 := by omega
        have i3 : (j : Int) < (n0 : Int) := by omega
        have hw1 : IntKind.i64.wrap ((j : Int) + 1) = (j : Int) + 1 := by rw [IntKind.wrap_i64]; omega
        have hpj : j < rs.length := by rw [HL0.out]; exact hlt2
        obtain ⟨pb, po, e0, k0, k1, k2, k3, k4, k5, k6⟩ := RowsAt.seven (HS0.out.below HB.out) (List.getElem?_eq_getElem hpj)
        have HOK := Lib.hid (HP0.out rs[j] (List.getElem_mem hpj))
        generalize rs[j] = r at *
        obtain ⟨r1, r2, r3, r4, r5, r6, r7, r8, r9⟩ := r
        simp only at k0 k1 k2 k3 k4 k5 k6
        subst e0
        have hbn := Blk.new wr 48 #[.int .i64 r1, .int .i64 r2, .int .i64 r3, .int .i64 r4, .string r5, .string r6, .slice r7 r9.length r8]
        have n0' := hbn.cell 0
        have n4 := hbn.cell 4
        have n5 := hbn.cell 5
        have n6 := hbn.cell 6
        simp only [List.getElem?_cons_zero, List.getElem?_cons_succ] at n0' n4 n5 n6
        have hbsz := HB.out.size
        have HY2 := Lib.hid (HY.out.alloc (.cells #[.int .i64 r1, .int .i64 r2, .int .i64 r3, .int .i64 r4, .string r5, .string r6, .slice r7 r9.length r8] 48))
        have HB2 := Lib.hid (HB.out.alloc hbsz (.cells #[.int .i64 r1, .int .i64 r2, .int .i64 r3, .int .i64 r4, .string r5, .string r6, .slice r7 r9.length r8] 48))
        have HSL : Hid (Sl w r7 (r9.map B8)) := (show Sl _ _ _ from HOK.out.sl)
        have HN5 : Hid (r5.size ≤ 9223372036854775807) := (show _ ≤ _ from HOK.out.name)
        have HN6 : Hid (r6.size ≤ 9223372036854775807) := (show _ ≤ _ from HOK.out.to_)
        obtain ⟨dn, hdn⟩ : ∃ dn, r9.length = dn := ⟨_, rfl⟩
        have HDN := Lib.hid hdn
        rw [hdn] at k6 n0' n4 n5 n6 HY2 HB2 hbn
        clear HY HB HOK hdn hbsz
        go_upto_region 8 with fail
        generalize wr.alloc (.cells #[.int .i64 r1, .int .i64 r2, .int .i64 r3, .int .i64 r4, .string r5, .string r6, .slice r7 dn r8] 48) = w3 at *
        clear k0 k1 k2 k3 k4 k5 k6 hbn
        generalize wr.heap.size = ab at *
        by_cases hbig : 2000 < dn
        · have g1 : (2000 : Int) < (dn : Int) := by omega
          go_wp2_with fail
          exact ⟨⟨j + 1, m, S, by omega, by omega, rfl, HY2, HB2⟩, by simp [intOf]; omega⟩
        · have g1 : ¬ (2000 : Int) < (dn : Int) := by omega
          have hk : r1 = 1 ∨ r1 = 2 ∨ r1 = 3 ∨ r1 = 5 ∨ (¬ r1 = 1 ∧ ¬ r1 = 2 ∧ ¬ r1 = 3 ∧ ¬ r1 = 5) := by omega
          rcases hk with rfl | rfl | rfl | rfl | ⟨x1, x2, x3, x5⟩
          · have HC := Lib.hid (createV HY2.out r5 rfl rfl HN5.out)
            go_wp2_with fail
            refine HC.out.mono ?_
            rintro e w4 ⟨rfl, S4, h4, _, b4⟩
            have HY4 := Lib.hid h4
            have HB4 := Lib.hid (HB2.out.trans b4)
            generalize createM r5 m = m4 at *
            generalize createNo r5 m = no at *
            clear HC h4 b4 HY2 HB2 n0' n4 n5 n6
            go_wp2_with fail
            exact ⟨⟨j + 1, m4, S4, by omega, by omega, rfl, HY4, HB4⟩, by simp [intOf]; omega⟩
          · have HC := Lib.hid (appendV HY2.out r5 r7 dn r8 r9 rfl rfl HDN.out (HSL.out.below HB2.out))
            go_wp2_with fail
            refine HC.out.mono ?_
            rintro e w4 ⟨rfl, S4, h4, _, b4⟩
            have HY4 := Lib.hid h4
            have HB4 := Lib.hid (HB2.out.trans b4)
            generalize appendM r5 r9 m = m4 at *
            generalize appendNo r5 r9 m = no at *
            clear HC h4 b4 HY2 HB2 n0' n4 n5 n6
            go_wp2_with fail
            exact ⟨⟨j + 1, m4, S4, by omega, by omega, rfl, HY4, HB4⟩, by simp [intOf]; omega⟩
          · have HC := Lib.hid (renameV HY2.out r5 r6 rfl rfl HN6.out)
            go_wp2_with fail
            refine HC.out.mono ?_
            rintro e w4 ⟨rfl, S4, h4, _, b4⟩
            have HY4 := Lib.hid h4
            have HB4 := Lib.hid (HB2.out.trans b4)
            generalize renameM r5 r6 m = m4 at *
            generalize renameNo r5 r6 m = no at *
            clear HC h4 b4 HY2 HB2 n0' n4 n5 n6
            go_wp2_with fail
            exact ⟨⟨j + 1, m4, S4, by omega, by omega, rfl, HY4, HB4⟩, by simp [intOf]; omega⟩
          · have HC := Lib.hid (removeV HY2.out r5 rfl rfl)
            go_wp2_with fail
            refine HC.out.mono ?_
            rintro e w4 ⟨rfl, S4, h4, _, b4⟩
            have HY4 := Lib.hid h4
            have HB4 := Lib.hid (HB2.out.trans b4)
            generalize removeM r5 m = m4 at *
            generalize removeNo r5 m = no at *
            clear HC h4 b4 HY2 HB2 n0' n4 n5 n6
            go_wp2_with fail
            exact ⟨⟨j + 1, m4, S4, by omega, by omega, rfl, HY4, HB4⟩, by simp [intOf]; omega⟩
          · go_wp2_with fail
            exact ⟨⟨j + 1, m, S, by omega, by omega, rfl, HY2, HB2⟩, by simp [intOf]; omega⟩
      · have hout : (¬ (j : Int) < (n0 : Int)) ∨ ((j : Int) < (n0 : Int) ∧ ¬ (j : Int) < 100) := by omega
        rcases hout with h1 | ⟨h1, h2⟩
        all_goals
          go_wp2_with fail
          go_meet
          exact ⟨m, S, HY, HB⟩
  case rest =>
    clear HY HB
    obtain ⟨w3, hnm⟩ : ∃ W, W = wc := ⟨_, rfl⟩
    subst hnm
    obtain ⟨m, S, HY, HB⟩ := hcut
    have HF := Lib.hid (filesV HY.out rfl (filesM_len m))
    have HSLT : Hid (∀ g, S g → g < w3.heap.size) := (show ∀ g, _ from fun g hS => (HY.out.s.lt g hS).2)
    have HG := Lib.hid HY.out.g
    obtain ⟨ln, hln⟩ : ∃ ln, m.length = ln := ⟨_, rfl⟩
    have hln12 : ln ≤ 12 := by have := HG.out.len; omega
    have HLN := Lib.hid hln
    rw [hln] at HF
    clear hln
    go_wp2_with fail
    refine HF.out.mono ?_
    rintro e w4 ⟨D, c, rfl, o4, h4, b4⟩
    have HSL : Hid (Sl w4 D (flatG (filesM m))) := (show Sl _ _ _ from o4.sl)
    have HO4 := Lib.hid o4
    have HY4 := Lib.hid h4
    have HB4 : Hid (Below w.heap.size w w4) := (show Below _ _ _ from HB.out.trans (b4.mono HB.out.size))
    clear HF o4 h4 b4 HY HB
    go_wp2_with fail
    go_loopw [9, 10] (fun s9 s10 wr => ∃ (i : Nat), i ≤ ln ∧ s10 = .int .i64 i ∧ s9 = .int .i64 (freeFrom 1 ((m.map MF.ino).take i)) ∧ ∃ q, wr = w4.drewN q) (fun _ s10 _ => ln - (intOf s10).toNat)
    case atStart => exact ⟨0, Nat.zero_le _, rfl, rfl, 0, rfl⟩
    case round =>
      obtain ⟨i, hi, rfl, rfl, q, hq⟩ := hrel
      have HQ := Lib.hid hq
      by_cases hlt : i < ln
      · have hil : i < m.length := by rw [HLN.out]; exact hlt
        have hsl : Sl wr D (flatG (filesM m)) := by rw [hq]; exact fun j u hu => HSL.out j u hu
        obtain ⟨b, o, eD, k0, k1, k2⟩ := Sl.file hsl (filesM_at hil)
        have hgi := HG.out.ino m[i] (List.getElem_mem hil)
        have HNE : Hid (∀ k (hk : k < i) (h : k < m.length), (m[k].name.toList == m[i].name.toList) = false) := (show ∀ k, _ from fun k hk h => HG.out.name_ne hk hil)
        have HN := Lib.hid (show freeFrom 1 ((m.map MF.ino).take (i + 1)) = if m[i].ino = freeFrom 1 ((m.map MF.ino).take i) then freeFrom 1 ((m.map MF.ino).take i) + 1 else freeFrom 1 ((m.map MF.ino).take i) from by
          rw [List.take_add_one, List.getElem?_map, List.getElem?_eq_getElem hil]; exact freeFrom_snoc 1 _ _)
        have hfl := freeFrom_le ((m.map MF.ino).take i) 1
        rw [List.length_take] at hfl
        have hpr : i = 0 ∨ ∃ p, i = p + 1 ∧ ∃ x : Int, wr.cell? ⟨b, o + p * 3, none⟩ = some (.int .i64 x) ∧ ¬ m[i].ino ≤ x := by
          cases i with
          | zero => exact .inl rfl
          | succ p =>
            refine .inr ⟨p, rfl, m[p].ino, ?_, by have := HG.out.ino_lt (k := p) (by omega) hil; omega⟩
            obtain ⟨b', o', eD', p0, _⟩ := Sl.file hsl (filesM_at (i := p) (by omega))
            rw [eD] at eD'; injection eD' with eD'; injection eD' with e1 e2
            rw [e1, e2]; exact p0
        generalize freeFrom 1 ((m.map MF.ino).take i) = fr at *
        generalize m[i].ino = x0 at *
        generalize hxn : m[i].name = x1 at *
        generalize (m[i].data.length : Int) = x2 at *
        subst eD
        have i1 : (0 : Int) ≤ (i : Int) := by omega
        have i2 : (i : Int) < (ln : Int) := by omega
        have hw1 : IntKind.i64.wrap ((i : Int) + 1) = (i : Int) + 1 := by rw [IntKind.wrap_i64]; omega
        have hw2 : IntKind.i64.wrap (fr + 1) = fr + 1 := by rw [IntKind.wrap_i64]; omega
        have d1 : decide (x0 < 1) = false := decide_eq_false (by omega)
        have d2 : decide ((12 : Int) < x0) = false := decide_eq_false (by omega)
        have HSR := Lib.hid hsl
        have HC1 := Lib.hid k1
        have HC0 := Lib.hid k0
        clear hsl hgi hfl hxn hq k2 k1
        rcases hpr with h0 | ⟨p, hp, x, hx, hle⟩
        · have d3 : decide ((0 : Int) < (i : Int)) = false := decide_eq_false (by omega)
          have d3' : decide (0 < i) = false := decide_eq_false (by omega)
          have HI0 := Lib.hid h0
          clear h0
          go_wp2_with fail
          go_big_quiet (fail)
          go_wp2_with fail
          go_loopw [11] (fun s11 wq => ∃ (k : Nat), k ≤ i ∧ s11 = .int .i64 k ∧ ∃ q2, wq = wr.drewN q2) (fun s _ => i - (intOf s).toNat)
          case atStart => exact ⟨0, Nat.zero_le _, rfl, _, rfl⟩
          case round =>
            obtain ⟨k, hk, rfl, q2, hq2⟩ := hrel
            have hsl2 : Sl wr (some ⟨b, o, none⟩) (flatG (filesM m)) := by rw [hq2]; exact fun j u hu => HSR.out j u hu
            have k1 : wr.cell? ⟨b, o + i * 3 + 1, none⟩ = some (.string x1) := by rw [hq2]; exact HC1.out
            have k0 : wr.cell? ⟨b, o + i * 3, none⟩ = some (.int .i64 x0) := by rw [hq2]; exact HC0.out
            have HQ2 := Lib.hid hq2
            clear hq2
            by_cases hlk : k < i
            · have hkl : k < m.length := by rw [HLN.out]; omega
              obtain ⟨b2, o2, e2, _, n1, _⟩ := Sl.file hsl2 (filesM_at hkl)
              have hne := HNE.out k hlk hkl
              generalize m[k].name = xk at *
              injection e2 with e2
              injection e2 with e2 e3
              subst e2 e3
              have j1 : (0 : Int) ≤ (k : Int) := by omega
              have j2 : (k : Int) < (ln : Int) := by omega
              have j3 : (k : Int) < (i : Int) := by omega
              have hwk : IntKind.i64.wrap ((k : Int) + 1) = (k : Int) + 1 := by rw [IntKind.wrap_i64]; omega
              clear hsl2 k0
              go_wp2_with fail
              go_big_quiet (fail)
              go_wp2_with fail
              exact ⟨⟨k + 1, by omega, rfl, _, by rw [HQ2.out, World.drewN_drewN]⟩, by simp [intOf]; omega⟩
            · have j3 : ¬ (k : Int) < (i : Int) := by omega
              clear hsl2 k1
              by_cases he : x0 = fr
              · have e5 := HN.out
                rw [if_pos he] at e5
                have HE5 := Lib.hid e5
                subst he
                clear e5 HN
                go_wp2_with fail
                exact ⟨⟨i + 1, by omega, rfl, by rw [HE5.out], _, by rw [HQ2.out, HQ.out, World.drewN_drewN]⟩, by simp [intOf]; omega⟩
              · have e5 := HN.out
                rw [if_neg he] at e5
                have HE5 := Lib.hid e5
                clear e5 HN
                go_wp2_with fail
                exact ⟨⟨i + 1, by omega, rfl, by rw [HE5.out], _, by rw [HQ2.out, HQ.out, World.drewN_drewN]⟩, by simp [intOf]; omega⟩
        · have d3 : decide ((0 : Int) < (i : Int)) = true := decide_eq_true (by omega)
          have d3' : decide (0 < i) = true := decide_eq_true (by omega)
          have d4 : decide (x0 ≤ x) = false := decide_eq_false hle
          have hwp : IntKind.i64.wrap ((i : Int) - 1) = (p : Int) := by rw [IntKind.wrap_i64]; omega
          have j1 : (0 : Int) ≤ (p : Int) := by omega
          have j2 : (p : Int) < (ln : Int) := by omega
          have HI0 := Lib.hid hp
          clear hp hle
          go_wp2_with fail
          go_big_quiet (fail)
          go_wp2_with fail
          go_loopw [11] (fun s11 wq => ∃ (k : Nat), k ≤ i ∧ s11 = .int .i64 k ∧ ∃ q2, wq = wr.drewN q2) (fun s _ => i - (intOf s).toNat)
          case atStart => exact ⟨0, Nat.zero_le _, rfl, _, rfl⟩
          case round =>
            obtain ⟨k, hk, rfl, q2, hq2⟩ := hrel
            have hsl2 : Sl wr (some ⟨b, o, none⟩) (flatG (filesM m)) := by rw [hq2]; exact fun j u hu => HSR.out j u hu
            have k1 : wr.cell? ⟨b, o + i * 3 + 1, none⟩ = some (.string x1) := by rw [hq2]; exact HC1.out
            have k0 : wr.cell? ⟨b, o + i * 3, none⟩ = some (.int .i64 x0) := by rw [hq2]; exact HC0.out
            have HQ2 := Lib.hid hq2
            clear hq2
            by_cases hlk : k < i
            · have hkl : k < m.length := by rw [HLN.out]; omega
              obtain ⟨b2, o2, e2, _, n1, _⟩ := Sl.file hsl2 (filesM_at hkl)
              have hne := HNE.out k hlk hkl
              generalize m[k].name = xk at *
              injection e2 with e2
              injection e2 with e2 e3
              subst e2 e3
              have j1 : (0 : Int) ≤ (k : Int) := by omega
              have j2 : (k : Int) < (ln : Int) := by omega
              have j3 : (k : Int) < (i : Int) := by omega
              have hwk : IntKind.i64.wrap ((k : Int) + 1) = (k : Int) + 1 := by rw [IntKind.wrap_i64]; omega
              clear hsl2 k0
              go_wp2_with fail
              go_big_quiet (fail)
              go_wp2_with fail
              exact ⟨⟨k + 1, by omega, rfl, _, by rw [HQ2.out, World.drewN_drewN]⟩, by simp [intOf]; omega⟩
            · have j3 : ¬ (k : Int) < (i : Int) := by omega
              clear hsl2 k1
              by_cases he : x0 = fr
              · have e5 := HN.out
                rw [if_pos he] at e5
                have HE5 := Lib.hid e5
                subst he
                clear e5 HN
                go_wp2_with fail
                exact ⟨⟨i + 1, by omega, rfl, by rw [HE5.out], _, by rw [HQ2.out, HQ.out, World.drewN_drewN]⟩, by simp [intOf]; omega⟩
              · have e5 := HN.out
                rw [if_neg he] at e5
                have HE5 := Lib.hid e5
                clear e5 HN
                go_wp2_with fail
                exact ⟨⟨i + 1, by omega, rfl, by rw [HE5.out], _, by rw [HQ2.out, HQ.out, World.drewN_drewN]⟩, by simp [intOf]; omega⟩
      · have i2 : ¬ (i : Int) < (ln : Int) := by omega
        have he : freeFrom 1 ((m.map MF.ino).take i) = 1 + (leadM 1 m : Int) := by
          rw [List.take_of_length_le (by rw [List.length_map, HLN.out]; omega)]
          exact (lead_free 1 HG.out.r (fun x hx => (HG.out.ino x hx).1)).1
        rw [he]
        have HYr : Hid (YV wr w.heap.size y m [] S) := (show YV _ _ _ _ _ _ from by rw [hq]; exact HY4.out.drewN q)
        have HBr : Hid (Below w.heap.size w wr) := (show Below _ _ _ from by rw [hq]; exact below_drewN HB4.out q)
        have HOr : Hid (OwnB wr w3.heap.size 31 3 D ln c (flatG (filesM m))) := (show OwnB _ _ _ _ _ _ _ _ from by rw [hq]; exact HO4.out.drewN q)
        obtain ⟨v1, v2, v3, hv⟩ := findV_agg name m
        obtain ⟨fb, hfb⟩ : ∃ fb, (findM name m).isSome = fb := ⟨_, rfl⟩
        have HF1 := Lib.hid (fndV HYr.out name hv hfb)
        have HV := Lib.hid hv
        have HFB := Lib.hid hfb
        clear he hq HY4 HB4 HO4 HSL HQ hv hfb
        go_wp2_with fail
        refine HF1.out.mono ?_
        rintro e w5 ⟨rfl, h5, b5⟩
        have HY5 := Lib.hid (h5.alloc (.cells #[.int .i64 v1, .string v2, .int .i64 v3] 31))
        have HB5 : Hid (Below w.heap.size w (w5.alloc (.cells #[.int .i64 v1, .string v2, .int .i64 v3] 31))) := (show Below _ _ _ from (HBr.out.trans (b5.mono HBr.out.size)).alloc (HBr.out.trans (b5.mono HBr.out.size)).size _)
        have HO5 := Lib.hid ((HOr.out.below b5).alloc (.cells #[.int .i64 v1, .string v2, .int .i64 v3] 31))
        clear HF1 HYr HBr HOr h5 b5
        have HS3 : Hid (∀ g, D = some ⟨g, 0, none⟩ → ¬ S g) := (show ∀ g, _ from fun g hg hS => by
          have h1 := (own_ltN HO5.out hg).2
          have h2 := HSLT.out g hS
          omega)
        go_upto_region 33 with fail
        generalize w5.alloc (.cells #[.int .i64 v1, .string v2, .int .i64 v3] 31) = w6 at *
        generalize w5.heap.size = fb1 at *
        by_cases h0 : createNo name m = 0
        · obtain ⟨t1, t2, t3, t4⟩ := create_told HG.out h0
          obtain rfl : fb = false := by rw [← HFB.out]; exact t1
          have HC := Lib.hid (createV HY5.out name h0 rfl HNM.out)
          have HT2 := Lib.hid t2
          have HT3 := Lib.hid t3
          have HT4 : Hid ((filesM (createM name m)).length = ln + 1) := (show _ = _ from by rw [t4, HLN.out])
          generalize leadM 1 m = ld at *
          generalize createM name m = m2 at *
          have hw3 : IntKind.i64.wrap ((ln : Int) + 1) = (ln : Int) + 1 := by rw [IntKind.wrap_i64]; omega
          clear t1 t2 t3 t4 h0 HFB HV HY5 i2
          go_wp2_with fail
          refine HC.out.mono ?_
          rintro e w7 ⟨rfl, S7, h7, _, b7⟩
          have HF2 := Lib.hid (fndV h7 name HT2.out HT3.out)
          have HB7 := Lib.hid (HB5.out.trans b7)
          clear HC h7 b7 HB5 HO5 HS3
          go_wp2_with fail
          refine HF2.out.mono ?_
          rintro e w8 ⟨rfl, h8, b8⟩
          have hbn := Blk.new w8 31 #[.int .i64 (1 + (ld : Int)), .string name, .int .i64 0]
          have HFL := Lib.hid (filesV (h8.alloc (.cells #[.int .i64 (1 + (ld : Int)), .string name, .int .i64 0] 31)) rfl HT4.out)
          have HB8 : Hid (Below w.heap.size w (w8.alloc (.cells #[.int .i64 (1 + (ld : Int)), .string name, .int .i64 0] 31))) := (show Below _ _ _ from (HB7.out.trans (b8.mono HB7.out.size)).alloc (HB7.out.trans (b8.mono HB7.out.size)).size _)
          have n0 := hbn.cell 0
          have n2 := hbn.cell 2
          simp only [List.getElem?_cons_zero, List.getElem?_cons_succ] at n0 n2
          clear HF2 HB7 h8 b8 hbn
          go_upto_region 35 with fail
          generalize w8.alloc (.cells #[.int .i64 (1 + (ld : Int)), .string name, .int .i64 0] 31) = w9 at *
          generalize w8.heap.size = fb2 at *
          go_wp2_with fail
          refine HFL.out.mono ?_
          rintro e w10 ⟨D2, c2, rfl, _, _, b10⟩
          have HB10 : Hid (Below w.heap.size w w10) := (show Below _ _ _ from HB8.out.trans (b10.mono HB8.out.size))
          clear HFL HB8 b10 n0 n2
          go_wp2_with fail
          refine (yardRuns_calls _).mono ?_
          rintro e w11 ⟨rfl, b11⟩
          have HB11 := Lib.hid (HB10.out.trans (b11.mono HB10.out.size))
          clear b11 HB10
          go_wp2_with fail
          go_ret
          exact ⟨rfl, HB11.out⟩
        · obtain ⟨t1, t2⟩ := create_not h0
          have HC := Lib.hid (createV HY5.out name rfl t1 HNM.out)
          have hno : createNo name m ≠ 0 ∧ (ln = 12 ∨ createNo name m ≠ 9) := ⟨h0, by
            by_cases h9 : createNo name m = 9
            · exact .inl (by rw [← HLN.out]; exact t2 h9)
            · exact .inr h9⟩
          have HFLN : Hid ((filesM m).length = ln) := (show _ = _ from by rw [filesM_len, HLN.out])
          generalize createNo name m = no at *
          generalize leadM 1 m = ld at *
          obtain ⟨hno0, hno9⟩ := hno
          clear t1 t2 h0 HY5 i2
          go_wp2_with fail
          refine HC.out.mono ?_
          rintro e w7 ⟨rfl, S7, h7, f7, b7⟩
          have ho7 := own_keepN HO5.out (fun g hg => f7.k g (own_ltN HO5.out hg).1 (HS3.out g hg))
          have HF2 := Lib.hid (fndV h7 name HV.out HFB.out)
          have HB7 := Lib.hid (HB5.out.trans b7)
          have HO7 := Lib.hid ho7
          clear HC h7 b7 HB5 HO5 HS3 f7 ho7
          go_wp2_with fail
          refine HF2.out.mono ?_
          rintro e w8 ⟨rfl, h8, b8⟩
          have HFL := Lib.hid (filesV (h8.alloc (.cells #[.int .i64 v1, .string v2, .int .i64 v3] 31)) rfl HFLN.out)
          have HB8 : Hid (Below w.heap.size w (w8.alloc (.cells #[.int .i64 v1, .string v2, .int .i64 v3] 31))) := (show Below _ _ _ from (HB7.out.trans (b8.mono HB7.out.size)).alloc (HB7.out.trans (b8.mono HB7.out.size)).size _)
          have HO8 := Lib.hid ((HO7.out.below b8).alloc (.cells #[.int .i64 v1, .string v2, .int .i64 v3] 31))
          clear HF2 HB7 h8 b8 HO7
          go_upto_region 35 with fail
          generalize w8.alloc (.cells #[.int .i64 v1, .string v2, .int .i64 v3] 31) = w9 at *
          generalize w8.heap.size = fb2 at *
          have hcase : (ln = 12) ∨ (¬ ln = 12 ∧ ¬ no = 9) := by
            rcases hno9 with h | h
            · exact .inl h
            · by_cases h12 : ln = 12
              · exact .inl h12
              · exact .inr ⟨h12, h⟩
          clear hno9
          have hbb : (fb == fb) = true := by cases fb <;> rfl
          have hbb' : decide (fb = fb) = true := decide_eq_true rfl
          rcases hcase with h12 | ⟨h12, h9⟩
          · subst h12
            clear hbb'
            go_wp2_with fail
            refine HFL.out.mono ?_
            rintro e w10 ⟨D2, c2, rfl, o10, _, b10⟩
            have HB10 : Hid (Below w.heap.size w w10) := (show Below _ _ _ from HB8.out.trans (b10.mono HB8.out.size))
            have HSM := Lib.hid (sameG_true D2 D _ _ c2 c (filesM m) w10 HFLN.out HFLN.out (by omega) o10.sl (HO8.out.below b10).sl)
            clear HFL HB8 b10 o10 HO8
            go_wp2_with fail
            refine HSM.out.mono ?_
            rintro e w11 ⟨rfl, q11, hq11⟩
            have HB11 : Hid (Below w.heap.size w w11) := (show Below _ _ _ from by rw [hq11]; exact below_drewN HB10.out q11)
            clear hq11 HSM HB10
            go_wp2_with fail
            refine (yardRuns_calls _).mono ?_
            rintro e w12 ⟨rfl, b12⟩
            have HB12 := Lib.hid (HB11.out.trans (b12.mono HB11.out.size))
            clear b12 HB11
            go_wp2_with fail
            go_ret
            exact ⟨rfl, HB12.out⟩
          · have x2 : ¬ (ln : Int) = 12 := by omega
            have y1 : ((ln : Int) == 12) = false := beq_false_of_ne x2
            have y2 : (no != 9) = true := bne_iff_ne.2 h9
            clear hbb' x2 h12 h9
            go_wp2_with fail
            refine HFL.out.mono ?_
            rintro e w10 ⟨D2, c2, rfl, o10, _, b10⟩
            have HB10 : Hid (Below w.heap.size w w10) := (show Below _ _ _ from HB8.out.trans (b10.mono HB8.out.size))
            have HSM := Lib.hid (sameG_true D2 D _ _ c2 c (filesM m) w10 HFLN.out HFLN.out (by omega) o10.sl (HO8.out.below b10).sl)
            clear HFL HB8 b10 o10 HO8
            go_wp2_with fail
            refine HSM.out.mono ?_
            rintro e w11 ⟨rfl, q11, hq11⟩
            have HB11 : Hid (Below w.heap.size w w11) := (show Below _ _ _ from by rw [hq11]; exact below_drewN HB10.out q11)
            clear hq11 HSM HB10
            go_wp2_with fail
            refine (yardRuns_calls _).mono ?_
            rintro e w12 ⟨rfl, b12⟩
            have HB12 := Lib.hid (HB11.out.trans (b12.mono HB11.out.size))
            clear b12 HB11
            go_wp2_with fail
            go_ret
            exact ⟨rfl, HB12.out⟩
end Go.Proofs.Ytbmgeomndfodpaa
