/-
  The contracts of the document's own Frame and Next.
-/
import Derived.Test.YtenhbjcamkbffaaDoorFrameNext
import Derived.Deep.DeepCutAuto
namespace Go.Proofs.YtenhbjcamkbffaaDoor
open Go.RowKit Go.Mem

theorem quietEq {P : Program} {f : FuncId} {args : Array Value} {w : World} {n : Nat} {v : Value} (h : Calls P f args (w.drewN n) fun e w' => e = .returned v ∧ w.drewN n = w') : Calls P f args (w.drewN n) fun e w'' => e = .returned v ∧ ∃ m, w'' = w.drewN m :=
  h.mono fun _ _ ⟨he, hm⟩ => ⟨he, n, hm.symm⟩

set_option maxRecDepth 100000 in
set_option maxHeartbeats 3200000 in
theorem refFrame_calls (A E : Option Addr) (n m c d : Nat) (bs ps : List UInt8) (w : World) (hl : bs.length = n) (hn : n ≤ 20000000) (hs : Sl w A (bs.map B8)) (hl2 : ps.length = m) (hm : m ≤ 20000000) (hp : Sl w E (ps.map B8)) :
    Calls Tryd.prog 23 #[.slice A n c, .slice E m d] w (AppEnds w w.heap.size (bs ++ Frm.frm ps).length (bs ++ Frm.frm ps)) := by
  subst hl hl2
  obtain ⟨i0, hi, hz0, hz1, hz2⟩ := info_parts infoU8
  have HS1 : Hid (∀ W : World, Below w.heap.size w W → Src Tryd.prog 1 26 (.slice A bs.length c) bs.length (bs.map B8) W) := (show ∀ W : World, _ from fun W hW => srcSl Tryd.underlying26 (by simp) (hs.below hW) (bytes_one bs))
  have HS2 : Hid (∀ W : World, Below w.heap.size w W → Src Tryd.prog 1 26 (.slice E ps.length d) ps.length (ps.map B8) W) := (show ∀ W : World, _ from fun W hW => srcSl Tryd.underlying26 (by simp) (hp.below hW) (bytes_one ps))
  have HP := Lib.hid hp
  have hb1' := (Below.refl w.heap.size w).alloc (Nat.le_refl _) (.cells #[] 5)
  clear hs hp
  by_cases hbad : ps.length = 0 ∨ 262144 < ps.length
  · have HFR : Hid ((bs ++ Frm.frm ps) = bs) := (show _ = _ by rw [Frm.frm_no hbad, List.append_nil])
    rw [HFR.out]
    have hcase : ps.length = 0 ∨ (ps.length ≠ 0 ∧ 262144 < ps.length) := by omega
    clear hbad
    rcases hcase with h0 | ⟨h0, h1⟩
    all_goals
      first
        | (have hb0 : ((ps.length : Int) == 0) = true := beq_iff_eq.2 (by omega)
           have H0 := Lib.hid h0
           clear h0)
        | (have hb0 : ((ps.length : Int) == 0) = false := beq_eq_false_iff_ne.2 (by omega)
           have hb1 : decide ((262144 : Int) < (ps.length : Int)) = true := decide_eq_true (by omega))
      go_enter Tryd.func23, Tryd.ntmps23
      go_wp2_with (at_builtin; refine wpList_append_ownK (o := ⟨some 9, _, _, _, _, _⟩) rfl (.tmp 7) (.tmp 8) 26 26 rfl 5 i0 (.int .u8 0) 1 1 Tryd.underlying26 hi hz0 hz1 hz2 rfl w.heap.size (some ⟨w.heap.size, 0, none⟩) 0 0 [] rfl (OwnB.empty rfl (Nat.le_refl _)) (.slice A bs.length c) rfl bs.length (bs.map B8) (HS1.out _ hb1') (by omega) (by omega) w hb1' (by simp) ?_)
      intro w3 D3 c3 HO3 HK3 hb3 hsz3
      have HFin : Hid (AppEnds w w.heap.size bs.length bs (.returned (.slice D3 bs.length c3)) w3) := (show AppEnds _ _ _ _ _ _ from ⟨D3, c3, rfl, by simpa using HO3.out, hb3⟩)
      clear HO3 HK3 hb3 hsz3 HS1 HS2
      go_wp2_with fail
      go_ret
      first | exact HFin.out | (simpa using HFin.out)
  · have HFR : Hid (Frm.frm ps = Frm.word4 ps.length ++ (Frm.word4 (Crc.crc 0#32 (Frm.word4 ps.length ++ ps)).toNat ++ ps)) := Lib.hid (Frm.frm_yes hbad)
    have hb0 : ((ps.length : Int) == 0) = false := beq_eq_false_iff_ne.2 (by omega)
    have hb1 : decide ((262144 : Int) < (ps.length : Int)) = false := decide_eq_false (by omega)
    clear hbad
    go_enter Tryd.func23, Tryd.ntmps23
    go_wp2_with (at_builtin; refine wpList_append_ownK (o := ⟨some 9, _, _, _, _, _⟩) rfl (.tmp 7) (.tmp 8) 26 26 rfl 5 i0 (.int .u8 0) 1 1 Tryd.underlying26 hi hz0 hz1 hz2 rfl w.heap.size (some ⟨w.heap.size, 0, none⟩) 0 0 [] rfl (OwnB.empty rfl (Nat.le_refl _)) (.slice A bs.length c) rfl bs.length (bs.map B8) (HS1.out _ hb1') (by omega) (by omega) w hb1' (by simp) ?_)
    intro w2 D2 c2 HO2 HK2 hb2 hsz2
    have HO2' : Hid (OwnB w2 w.heap.size 5 1 D2 bs.length c2 (bs.map B8)) := (show OwnB _ _ _ _ _ _ _ _ by simpa using HO2.out)
    clear HO2 HK2 hsz2 hb1' HS1
    go_wp2_with fail
    refine (four_calls ps.length w2).mono ?_
    unfold AppEnds
    rintro e w3 ⟨D3, c3, rfl, o3, b3⟩
    have HO3 := Lib.hid (HO2'.out.below b3)
    have hB3 := hb2.trans (b3.mono hb2.size)
    have hs3 := o3.sl
    have HS3 : Hid (Src Tryd.prog 1 26 (.slice D3 4 c3) 4 ((Frm.word4 ps.length).map B8) w3) := Lib.hid (srcSl Tryd.underlying26 rfl hs3 (bytes_one _))
    have HA : Hid (∀ g, D2 = some ⟨g, 0, none⟩ → D3 ≠ some ⟨g, 0, none⟩) := (show ∀ g, _ from fun g h1 h2 => by
      rcases HO2'.out.2.2 with ⟨h3, _⟩ | ⟨g2, _, h3, _, hb, _⟩
      · rw [h1] at h3; cases h3
      · rcases o3.2.2 with ⟨h4, _⟩ | ⟨g3, _, h4, hg, _, _⟩
        · rw [h2] at h4; cases h4
        · rw [h1] at h3; injection h3 with h3; injection h3 with h3
          rw [h2] at h4; injection h4 with h4; injection h4 with h4
          have := hb.lt; omega)
    have HO33 := Lib.hid (o3.mono (Nat.le_trans hb2.size (Nat.le_refl _)))
    clear HO2' o3 b3 hs3 hb2
    go_wp2_with (at_builtin; refine wpList_append_ownK (o := ⟨some 24, _, _, _, _, _⟩) rfl (.tmp 22) (.tmp 23) 26 26 rfl 5 i0 (.int .u8 0) 1 1 Tryd.underlying26 hi hz0 hz1 hz2 rfl w.heap.size D2 bs.length c2 (bs.map B8) rfl HO3.out (.slice D3 4 c3) rfl 4 ((Frm.word4 ps.length).map B8) HS3.out (by omega) (by omega) w hB3 hB3.size ?_)
    intro w4 D4 c4 HO4 HK4 hb4 hsz4
    have HO43 := Lib.hid (HK4.out.own HO33.out HA.out)
    have HS4 : Hid (Sl w4 D3 ((Frm.word4 ps.length).map B8)) := Lib.hid HO43.out.sl
    have HP4 := Lib.hid (HP.out.below hb4)
    have HO44 : Hid (OwnB w4 w.heap.size 5 1 D4 (bs.length + 4) c4 ((bs ++ Frm.word4 ps.length).map B8)) := (show OwnB _ _ _ _ _ _ _ _ by rw [List.map_append]; exact HO4.out)
    clear HO3 HS3 HA HO33 hB3 HO4 HK4 hsz4 HO43
    go_wp2_with fail
    refine (refOn_calls 0#32 D3 4 c3 (Frm.word4 ps.length) w4 rfl (by decide) HS4.out).mono ?_
    rintro e w5 ⟨rfl, rfl⟩
    go_wp2_with fail
    refine (refOn_calls _ E ps.length d ps w4 rfl (by omega) HP4.out).mono ?_
    rintro e w5 ⟨rfl, rfl⟩
    rw [← Crc.crc_append]
    clear HS4 HP4
    go_wp2_with fail
    generalize hcc : (Crc.crc 0#32 (Frm.word4 ps.length ++ ps)).toNat = cc at *
    refine (four_calls cc w4).mono ?_
    unfold AppEnds
    rintro e w6 ⟨D6, c6, rfl, o6, b6⟩
    have HO6 := Lib.hid (HO44.out.below b6)
    have hB6 := hb4.trans (b6.mono hb4.size)
    have HS6 : Hid (Src Tryd.prog 1 26 (.slice D6 4 c6) 4 ((Frm.word4 cc).map B8) w6) := Lib.hid (srcSl Tryd.underlying26 rfl o6.sl (bytes_one _))
    clear hcc HO44 o6 b6 hb4
    go_wp2_with (at_builtin; refine wpList_append_ownK (o := ⟨some 31, _, _, _, _, _⟩) rfl (.tmp 24) (.tmp 30) 26 26 rfl 5 i0 (.int .u8 0) 1 1 Tryd.underlying26 hi hz0 hz1 hz2 rfl w.heap.size D4 (bs.length + 4) c4 _ rfl HO6.out (.slice D6 4 c6) rfl 4 ((Frm.word4 cc).map B8) HS6.out (by omega) (by omega) w hB6 hB6.size ?_)
    intro w7 D7 c7 HO7 HK7 hb7 hsz7
    clear HO6 HS6 hB6 HK7 hsz7
    go_wp2_with (at_builtin; refine wpList_append_ownK (o := ⟨some 34, _, _, _, _, _⟩) rfl (.tmp 32) (.tmp 33) 26 26 rfl 5 i0 (.int .u8 0) 1 1 Tryd.underlying26 hi hz0 hz1 hz2 rfl w.heap.size D7 (bs.length + 4 + 4) c7 _ rfl HO7.out (.slice E ps.length d) rfl ps.length (ps.map B8) (HS2.out _ hb7) (by omega) (by omega) w hb7 hb7.size ?_)
    intro w8 D8 c8 HO8 HK8 hb8 hsz8
    have HLEN : Hid ((bs ++ Frm.frm ps).length = bs.length + 4 + 4 + ps.length) := (show _ = _ by rw [HFR.out]; simp only [List.length_append, Frm.word4_length]; omega)
    have HFin : Hid (AppEnds w w.heap.size (bs ++ Frm.frm ps).length (bs ++ Frm.frm ps) (.returned (.slice D8 (bs.length + 4 + 4 + ps.length) c8)) w8) := (show AppEnds _ _ _ _ _ _ from ⟨D8, c8, by rw [HLEN.out], by rw [HLEN.out, HFR.out]; simpa [List.append_assoc] using HO8.out, hb8⟩)
    clear HO8 HK8 hb8 hsz8 HO7 hb7 HS2
    go_wp2_with fail
    go_ret
    first | exact HFin.out | (simpa using HFin.out)

theorem at_j (k L j : Nat) (hk : (k : Int) ≤ 140737488355328) (hj : j < 8) (hL : 8 ≤ L) : IntKind.i64.wrap ((k : Int) + (j : Int)) = (k : Int) + (j : Int) ∧ ((k : Int) + (j : Int)).toNat = k + j ∧ (0 : Int) ≤ (k : Int) + (j : Int) ∧ (k : Int) + (j : Int) < (k : Int) + (L : Int) :=
  ⟨IntWalk.i64_in _ (by omega), by omega, by omega, by omega⟩
set_option maxHeartbeats 1600000 in
theorem refNext_bad (A : Option Addr) (n c : Nat) (at_ : Int) (w : World) (h : at_ < 0 ∨ (n : Int) < at_) :
    Calls Tryd.prog 24 #[.slice A n c, .int .i64 at_] w (NextEnds w ([], 0, 1)) := by
  have HFin := Lib.hid (NextEnds.err (w := w) 1 (Below.refl _ _))
  rcases h with h | h
  · go_enter Tryd.func24, Tryd.ntmps24
    go_wp2_with fail
    go_ret3
    exact HFin.out
  · go_enter Tryd.func24, Tryd.ntmps24
    go_wp2_with fail
    go_ret3
    exact HFin.out

set_option maxRecDepth 100000 in
set_option maxHeartbeats 3200000 in
theorem refNext_calls (A : Option Addr) (n c : Nat) (bs : List UInt8) (k : Nat) (w : World) (hl : bs.length = n) (hc : n ≤ c) (hcm : n ≤ 140737488355328) (hk : k ≤ n) (hs : Sl w A (bs.map B8)) :
    Calls Tryd.prog 24 #[.slice A n c, .int .i64 (k : Int)] w (NextEnds w (nextF bs k)) := by
  subst hl
  have HLD : Hid ((bs.drop k).length = bs.length - k) := (show _ = _ from List.length_drop)
  have hk0 : (0 : Int) ≤ (k : Int) := by omega
  have hk1 : (k : Int) ≤ (bs.length : Int) := by omega
  by_cases hsh : bs.length - k < 8
  · have HV := Lib.hid (nextF_err (Frm.front_short (r := bs.drop k) (by rw [HLD.out]; exact hsh)) (by decide))
    have HFin := Lib.hid (NextEnds.err (w := w) 3 (Below.refl _ _))
    have hsh2 : (bs.length : Int) - (k : Int) < 8 := by omega
    go_enter Tryd.func24, Tryd.ntmps24
    go_wp2_with fail
    go_ret3
    rw [HV.out]; exact HFin.out
  · obtain ⟨b, o, rfl, hz9⟩ := hs.byte (k := k) (by omega)
    clear hz9
    obtain ⟨L, hL⟩ : ∃ L, bs.length = k + L := ⟨bs.length - k, by omega⟩
    obtain ⟨C, rfl⟩ : ∃ C, c = k + C := ⟨c - k, by omega⟩
    have hsr := Sl.cutAt hs hc (k := k) (by omega)
    have HNF : Hid (nextF bs k = ((Frm.front (bs.drop k)).1, (if (Frm.front (bs.drop k)).2.2 = 0 then (k : Int) + ((Frm.front (bs.drop k)).2.1 : Int) else 0), (Frm.front (bs.drop k)).2.2)) := (show _ = _ from rfl)
    have HNE : Hid (∀ e, Frm.front (bs.drop k) = ([], 0, e) → e ≠ 0 → nextF bs k = ([], 0, e)) := (show ∀ _, _ from fun e h1 h2 => nextF_err h1 h2)
    rw [hL] at hc hk hsh HLD hcm ⊢
    have hrl : (bs.drop k).length = L := by rw [HLD.out]; omega
    generalize bs.drop k = r at *
    have HRL := Lib.hid hrl
    have hL8 : 8 ≤ L := by omega
    have hLC : L ≤ C := by omega
    have HSR := Lib.hid hsr
    have hkm : (k : Int) ≤ 140737488355328 := by omega
    have hLm : (L : Int) ≤ 140737488355328 := by omega
    clear hs hL hc hk hsh HLD hcm hsr hk1 hrl
    have HX : Hid (∀ j, (hj : j < 8) → w.cell? ⟨b, o + (k + j), none⟩ = some (.int .u8 ((r[j]'(by rw [HRL.out]; omega)).toNat : Int))) := (show ∀ _, _ from fun j hj => by
      have h := Go.Proofs.YtenhbjcamkbffaaDoor.Sl.byteAt HSR.out (k := j) (by rw [HRL.out]; omega)
      rw [Nat.add_assoc] at h; exact h)
    have hV := Frm.unword_lt r
    obtain ⟨x0, x1, x2, x3, x4, x5, x6, x7, r2, hr8⟩ : ∃ x0 x1 x2 x3 x4 x5 x6 x7 r2, r = x0 :: x1 :: x2 :: x3 :: x4 :: x5 :: x6 :: x7 :: r2 := by
      have h8 : 8 ≤ r.length := by rw [HRL.out]; exact hL8
      match r, h8 with
      | x0 :: x1 :: x2 :: x3 :: x4 :: x5 :: x6 :: x7 :: r2, _ => exact ⟨x0, x1, x2, x3, x4, x5, x6, x7, r2, rfl⟩
    have q0 := HX.out 0 (by decide)
    have q1 := HX.out 1 (by decide)
    have q2 := HX.out 2 (by decide)
    have q3 := HX.out 3 (by decide)
    have q4 := HX.out 4 (by decide)
    have q5 := HX.out 5 (by decide)
    have q6 := HX.out 6 (by decide)
    have q7 := HX.out 7 (by decide)
    simp only [hr8, List.getElem_cons_zero, List.getElem_cons_succ, Nat.add_zero] at q0 q1 q2 q3 q4 q5 q6 q7
    have HV1 : Hid (Frm.unword r = x0.toNat * 16777216 + x1.toNat * 65536 + x2.toNat * 256 + x3.toNat) := (show _ = _ by rw [hr8]; rfl)
    have HV2 : Hid (Frm.unword (r.drop 4) = x4.toNat * 16777216 + x5.toNat * 65536 + x6.toNat * 256 + x7.toNat) := (show _ = _ by rw [hr8]; rfl)
    have l0 := x0.toNat_lt
    have l1 := x1.toNat_lt
    have l2 := x2.toNat_lt
    have l3 := x3.toNat_lt
    have l4 := x4.toNat_lt
    have l5 := x5.toNat_lt
    have l6 := x6.toNat_lt
    have l7 := x7.toNat_lt
    obtain ⟨s1, s2, _, o1, o2, o3⟩ := word_ors x0.toNat x1.toNat x2.toNat x3.toNat l0 l1 l2 l3
    obtain ⟨s4, s5, ⟨o4, o5, o6⟩, _⟩ := word_ors x4.toNat x5.toNat x6.toNat x7.toNat l4 l5 l6 l7
    rw [← HV1.out] at o3
    rw [← HV2.out] at o6
    clear HX hr8 HV1 HV2
    have hLk : (8 : Int) ≤ (L : Int) := by omega
    have z0 : ¬ (k : Int) + (L : Int) - (k : Int) < 8 := by omega
    by_cases hform : Frm.unword r = 0 ∨ 262144 < Frm.unword r
    · have HV := Lib.hid (HNE.out 4 (Frm.front_form (by rw [HRL.out]; omega) hform) (by decide))
      generalize Frm.unword r = V at *
      clear hV l4 l5 l6 l7 o4 o5 o6 q4 q5 q6 q7
      rcases Nat.eq_zero_or_pos V with h0 | h0
      · have hb0 : ((V : Int) == 0) = true := beq_iff_eq.2 (by omega)
        have H0 := Lib.hid h0
        clear h0 hform
        have m0 : (k : Int) < (k : Int) + (L : Int) := by omega
        obtain ⟨a1, t1, n1, m1⟩ := at_j k L 1 hkm (by decide) hL8
        obtain ⟨a2, t2, n2, m2⟩ := at_j k L 2 hkm (by decide) hL8
        obtain ⟨a3, t3, n3, m3⟩ := at_j k L 3 hkm (by decide) hL8
        go_enter Tryd.func24, Tryd.ntmps24
        go_wp2_with fail
        go_quiet (fail)
        go_wp2_with fail
        have HFin := Lib.hid (fun q => NextEnds.err (w := w) 4 (below_drewN (Below.refl _ _) q))
        go_ret3
        rw [HV.out]; exact HFin.out _
      · have hb0 : ((V : Int) == 0) = false := beq_eq_false_iff_ne.2 (by omega)
        have hb1 : decide ((262144 : Int) < (V : Int)) = true := decide_eq_true (by omega)
        clear hform
        have m0 : (k : Int) < (k : Int) + (L : Int) := by omega
        obtain ⟨a1, t1, n1, m1⟩ := at_j k L 1 hkm (by decide) hL8
        obtain ⟨a2, t2, n2, m2⟩ := at_j k L 2 hkm (by decide) hL8
        obtain ⟨a3, t3, n3, m3⟩ := at_j k L 3 hkm (by decide) hL8
        go_enter Tryd.func24, Tryd.ntmps24
        go_wp2_with fail
        go_quiet (fail)
        go_wp2_with fail
        have HFin := Lib.hid (fun q => NextEnds.err (w := w) 4 (below_drewN (Below.refl _ _) q))
        go_ret3
        rw [HV.out]; exact HFin.out _
    · by_cases hcut : L - 8 < Frm.unword r
      · have HV := Lib.hid (HNE.out 3 (Frm.front_cut (by rw [HRL.out]; omega) hform (by rw [HRL.out]; exact hcut)) (by decide))
        generalize Frm.unword r = V at *
        have hb0 : ((V : Int) == 0) = false := beq_eq_false_iff_ne.2 (by omega)
        have hb1 : decide ((262144 : Int) < (V : Int)) = false := decide_eq_false (by omega)
        have hb2 : (k : Int) + (L : Int) - (k : Int) - 8 < (V : Int) := by omega
        have hV2 : (V : Int) ≤ 262144 := by omega
        clear hV hform hcut l4 l5 l6 l7 o4 o5 o6 q4 q5 q6 q7
        have m0 : (k : Int) < (k : Int) + (L : Int) := by omega
        obtain ⟨a1, t1, n1, m1⟩ := at_j k L 1 hkm (by decide) hL8
        obtain ⟨a2, t2, n2, m2⟩ := at_j k L 2 hkm (by decide) hL8
        obtain ⟨a3, t3, n3, m3⟩ := at_j k L 3 hkm (by decide) hL8
        go_enter Tryd.func24, Tryd.ntmps24
        go_wp2_with fail
        go_quiet (fail)
        go_wp2_with fail
        have HFin := Lib.hid (fun q => NextEnds.err (w := w) 3 (below_drewN (Below.refl _ _) q))
        go_ret3
        rw [HV.out]; exact HFin.out _
      · have hs8 := Sl.cutAt HSR.out (cap := C) (k := 8) (by rw [HRL.out]; exact hLC) (by omega)
        have HX4 : Hid (Sl w (some ⟨b, o + k, none⟩) ((r.take 4).map B8)) := (show Sl _ _ _ by rw [List.map_take]; exact HSR.out.take 4)
        have HX8 : Hid (Sl w (some ⟨b, o + (k + 8), none⟩) (((r.drop 8).take (Frm.unword r)).map B8)) := (show Sl _ _ _ by rw [List.map_take, ← Nat.add_assoc]; exact hs8.take _)
        have HL4 : Hid ((r.take 4).length = 4) := (show _ = _ by rw [List.length_take, HRL.out]; omega)
        have HL8 : Hid (((r.drop 8).take (Frm.unword r)).length = Frm.unword r) := (show _ = _ by rw [List.length_take, List.length_drop, HRL.out]; omega)
        have HSRC : Hid (∀ X : World, Below w.heap.size w X → Src Tryd.prog 1 26 (.slice (some ⟨b, o + (k + 8), none⟩) (Frm.unword r) (k + C - (k + 8))) (Frm.unword r) (((r.drop 8).take (Frm.unword r)).map B8) X) :=
          (show ∀ _, _ from fun X hX => srcSl Tryd.underlying26 (by simpa using HL8.out) (HX8.out.below hX) (bytes_one _))
        have HON1 := Lib.hid (fun q cap => refOn_calls 0#32 (some ⟨b, o + k, none⟩) 4 cap (r.take 4) (w.drewN q) HL4.out (by decide) HX4.out)
        have HON2 := Lib.hid (fun q cap => refOn_calls (Crc.crc 0#32 (r.take 4)) (some ⟨b, o + (k + 8), none⟩) (Frm.unword r) cap ((r.drop 8).take (Frm.unword r)) (w.drewN q) HL8.out (by omega) HX8.out)
        have HCC : Hid (Crc.crc (Crc.crc 0#32 (r.take 4)) ((r.drop 8).take (Frm.unword r)) = Crc.crc 0#32 (r.take 4 ++ (r.drop 8).take (Frm.unword r))) := (show _ = _ by rw [Crc.crc_append])
        rw [HCC.out] at HON2
        obtain ⟨i0, hi, hz0, hz1, hz2⟩ := info_parts infoU8
        by_cases hsum : (Crc.crc 0#32 (r.take 4 ++ (r.drop 8).take (Frm.unword r))).toNat = Frm.unword (r.drop 4)
        · have HV0 := Frm.front_ok (by rw [HRL.out]; omega) hform (by rw [HRL.out]; exact hcut) hsum
          have HV : Hid (nextF bs k = ((r.drop 8).take (Frm.unword r), (k : Int) + ((8 + Frm.unword r : Nat) : Int), 0)) := (show _ = _ by rw [HNF.out, HV0]; rfl)
          have hne : (((Crc.crc 0#32 (r.take 4 ++ (r.drop 8).take (Frm.unword r))).toNat : Int) != (Frm.unword (r.drop 4) : Int)) = false := by rw [hsum]; simp
          clear HV0
          generalize Crc.crc 0#32 (r.take 4 ++ (r.drop 8).take (Frm.unword r)) = cc at hne HON2
          generalize Frm.unword (r.drop 4) = U at hne o6
          generalize (r.drop 8).take (Frm.unword r) = pl at *
          generalize Crc.crc 0#32 (r.take 4) = c4 at HON1 HON2
          generalize Frm.unword r = V at *
          have hb0 : ((V : Int) == 0) = false := beq_eq_false_iff_ne.2 (by omega)
          have hb1 : decide ((262144 : Int) < (V : Int)) = false := decide_eq_false (by omega)
          have hb2 : ¬ (k : Int) + (L : Int) - (k : Int) - 8 < (V : Int) := by omega
          have hV2 : (V : Int) ≤ 262144 := by omega
          have hVC : V ≤ 262144 := by omega
          have hV3 : (k : Int) + 8 + (V : Int) ≤ (k : Int) + (C : Int) := by omega
          have hV4 : (k : Int) + 8 ≤ (k : Int) + 8 + (V : Int) := by omega
          have hV5 : (k : Int) + 4 ≤ (k : Int) + (C : Int) := by omega
          have hV6 : (k : Int) ≤ (k : Int) + 4 := by omega
          have hC9 : ¬ k + C = k + 8 := by omega
          have hC0 : ¬ C = 0 := by omega
          have hC8 : ¬ C = 8 := by omega
          have m0 : (k : Int) < (k : Int) + (L : Int) := by omega
          have hsub : k + 8 + V - (k + 8) = V := by omega
          have HSUB := Lib.hid hsub
          clear hsub
          clear hform hV hcut hsum hs8 HSR HCC HX4 HX8
          go_enter Tryd.func24, Tryd.ntmps24
          go_upto_region 10 with fail
          go_cut [7] (fun s7 wx => s7 = .int .i64 (V : Int) ∧ ∃ q, wx = w.drewN q)
          case first =>
            obtain ⟨a1, t1, n1, m1⟩ := at_j k L 1 hkm (by decide) hL8
            obtain ⟨a2, t2, n2, m2⟩ := at_j k L 2 hkm (by decide) hL8
            obtain ⟨a3, t3, n3, m3⟩ := at_j k L 3 hkm (by decide) hL8
            clear o4 o5 o6 q4 q5 q6 q7 HON1 HON2 HSRC
            go_wp2_with fail
            go_quiet (fail)
            go_wp2_with fail
            go_meet
            exact ⟨rfl, _, rfl⟩
          case rest =>
            obtain ⟨rfl, q, hw⟩ := hcut
            subst hw
            clear o1 o2 o3 q0 q1 q2 q3 l0 l1 l2 l3
            obtain ⟨a4, t4, n4, m4⟩ := at_j k L 4 hkm (by decide) hL8
            obtain ⟨a5, t5, n5, m5⟩ := at_j k L 5 hkm (by decide) hL8
            obtain ⟨a6, t6, n6, m6⟩ := at_j k L 6 hkm (by decide) hL8
            obtain ⟨a7, t7, n7, m7⟩ := at_j k L 7 hkm (by decide) hL8
            have hsub := HSUB.out
            go_wp2_with fail
            go_quiet (fail)
            clear a4 t4 n4 m4 a5 t5 n5 m5 a6 t6 n6 m6 a7 t7 n7 m7 o4 o5 o6 q4 q5 q6 q7
            go_wp2_with fail
            refine (HON1.out _ _).mono ?_
            rintro e w2 ⟨rfl, rfl⟩
            go_wp2_with fail
            refine (HON2.out _ _).mono ?_
            rintro e w2 ⟨rfl, rfl⟩
            have hbel : ∀ q, Below w.heap.size w (w.drewN q) := fun q => below_drewN (Below.refl _ _) q
            have HBE := Lib.hid (fun q => (hbel q).alloc (hbel q).size (.cells #[] 5))
            have HSR := Lib.hid (fun q => HSRC.out _ (HBE.out q))
            clear hbel HSRC
            go_wp2_with (at_builtin; refine wpList_append_ownK (o := ⟨some 115, _, _, _, _, _⟩) rfl (.tmp 113) (.tmp 114) 26 26 rfl 5 i0 (.int .u8 0) 1 1 Tryd.underlying26 hi hz0 hz1 hz2 rfl w.heap.size (some ⟨w.heap.size, 0, none⟩) 0 0 [] rfl (OwnB.empty rfl (Nat.le_refl _)) (.slice (some ⟨b, o + (k + 8), none⟩) V (k + C - (k + 8))) rfl V (pl.map B8) (HSR.out _) (by omega) (by omega) w (HBE.out _) (HBE.out _).size ?_)
            intro w3 D3 c3 HO3 HK3 hb3 hsz3
            have HO4 : Hid (OwnB w3 w.heap.size 5 1 D3 V c3 (pl.map B8)) := (show OwnB _ _ _ _ _ _ _ _ by simpa using HO3.out)
            have HFin : Hid (NextEnds w (nextF bs k) (.returned (.tuple #[.slice D3 V c3, .int .i64 ((k : Int) + 8 + (V : Int)), .int .i64 0])) w3) := (show NextEnds _ _ _ _ from ⟨D3, c3, by rw [HV.out]; simp only [HL8.out]; rw [show ((k : Int) + ((8 + V : Nat) : Int)) = (k : Int) + 8 + (V : Int) by omega]; rfl, by rw [HV.out]; simp only [HL8.out]; exact HO4.out, hb3⟩)
            clear HO3 HK3 hb3 hsz3 HO4 HSR HBE
            go_wp2_with fail
            go_ret3
            exact HFin.out
        · have HV := Lib.hid (HNE.out 6 (Frm.front_sum (by rw [HRL.out]; omega) hform (by rw [HRL.out]; exact hcut) hsum) (by decide))
          have hne : (((Crc.crc 0#32 (r.take 4 ++ (r.drop 8).take (Frm.unword r))).toNat : Int) != (Frm.unword (r.drop 4) : Int)) = true := by rw [bne_iff_ne]; omega
          generalize Crc.crc 0#32 (r.take 4 ++ (r.drop 8).take (Frm.unword r)) = cc at hne HON2
          generalize Frm.unword (r.drop 4) = U at hne o6
          generalize (r.drop 8).take (Frm.unword r) = pl at *
          generalize Crc.crc 0#32 (r.take 4) = c4 at HON1 HON2
          generalize Frm.unword r = V at *
          have hb0 : ((V : Int) == 0) = false := beq_eq_false_iff_ne.2 (by omega)
          have hb1 : decide ((262144 : Int) < (V : Int)) = false := decide_eq_false (by omega)
          have hb2 : ¬ (k : Int) + (L : Int) - (k : Int) - 8 < (V : Int) := by omega
          have hV2 : (V : Int) ≤ 262144 := by omega
          have hVC : V ≤ 262144 := by omega
          have hV3 : (k : Int) + 8 + (V : Int) ≤ (k : Int) + (C : Int) := by omega
          have hV4 : (k : Int) + 8 ≤ (k : Int) + 8 + (V : Int) := by omega
          have hV5 : (k : Int) + 4 ≤ (k : Int) + (C : Int) := by omega
          have hV6 : (k : Int) ≤ (k : Int) + 4 := by omega
          have hC9 : ¬ k + C = k + 8 := by omega
          have hC0 : ¬ C = 0 := by omega
          have hC8 : ¬ C = 8 := by omega
          have m0 : (k : Int) < (k : Int) + (L : Int) := by omega
          have hsub : k + 8 + V - (k + 8) = V := by omega
          have HSUB := Lib.hid hsub
          clear hsub
          clear hform hV hcut hsum hs8 HSR HCC HX4 HX8
          go_enter Tryd.func24, Tryd.ntmps24
          go_upto_region 10 with fail
          go_cut [7] (fun s7 wx => s7 = .int .i64 (V : Int) ∧ ∃ q, wx = w.drewN q)
          case first =>
            obtain ⟨a1, t1, n1, m1⟩ := at_j k L 1 hkm (by decide) hL8
            obtain ⟨a2, t2, n2, m2⟩ := at_j k L 2 hkm (by decide) hL8
            obtain ⟨a3, t3, n3, m3⟩ := at_j k L 3 hkm (by decide) hL8
            clear o4 o5 o6 q4 q5 q6 q7 HON1 HON2 HSRC
            go_wp2_with fail
            go_quiet (fail)
            go_wp2_with fail
            go_meet
            exact ⟨rfl, _, rfl⟩
          case rest =>
            obtain ⟨rfl, q, hw⟩ := hcut
            subst hw
            clear o1 o2 o3 q0 q1 q2 q3 l0 l1 l2 l3
            obtain ⟨a4, t4, n4, m4⟩ := at_j k L 4 hkm (by decide) hL8
            obtain ⟨a5, t5, n5, m5⟩ := at_j k L 5 hkm (by decide) hL8
            obtain ⟨a6, t6, n6, m6⟩ := at_j k L 6 hkm (by decide) hL8
            obtain ⟨a7, t7, n7, m7⟩ := at_j k L 7 hkm (by decide) hL8
            have hsub := HSUB.out
            go_wp2_with fail
            go_quiet (fail)
            clear a4 t4 n4 m4 a5 t5 n5 m5 a6 t6 n6 m6 a7 t7 n7 m7 o4 o5 o6 q4 q5 q6 q7
            go_wp2_with fail
            refine (HON1.out _ _).mono ?_
            rintro e w2 ⟨rfl, rfl⟩
            go_wp2_with fail
            refine (HON2.out _ _).mono ?_
            rintro e w2 ⟨rfl, rfl⟩
            have hbel : ∀ q, Below w.heap.size w (w.drewN q) := fun q => below_drewN (Below.refl _ _) q
            have HFin := Lib.hid (fun q => NextEnds.err (w := w) 6 (hbel q))
            go_wp2_with fail
            go_ret3
            rw [HV.out]; exact HFin.out _
end Go.Proofs.YtenhbjcamkbffaaDoor
