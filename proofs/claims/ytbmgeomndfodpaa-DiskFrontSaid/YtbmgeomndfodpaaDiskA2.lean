/-
  The disk's raw writes, a kind each: what apply makes of the files.
-/
import Derived.Test.YtbmgeomndfodpaaDiskA
import Derived.Test.YtbmgeomndfodpaaInfoU8
namespace Go.Proofs.Ytbmgeomndfodpaa
open Go.RowKit Go.Mem Go.Proofs

set_option maxRecDepth 100000 in
theorem clip_calls (D : Option Addr) (n c : Nat) (w : World) (hc : n ≤ c) : Calls Try.prog 99 #[.slice D n c] w fun e w' => e = .returned (.slice D n n) ∧ ∃ q, w' = w.drewN q := by
  have i0 : (0 : Int) ≤ (n : Int) := by omega
  have i1 : (n : Int) ≤ (c : Int) := by omega
  cases D with
  | none =>
    go_enter Try.func99, Try.ntmps99
    go_wp2_with fail
    go_ret
    exact ⟨rfl, 0, rfl⟩
  | some a =>
    go_enter Try.func99, Try.ntmps99
    go_wp2_with fail
    go_ret
    exact ⟨rfl, 0, rfl⟩
/-- behind an append onto a file's bytes -/
structure Apd (w W : World) (B : Nat) (s : Sb) (pre : List Value) (n : Nat) (D : Option Addr) (c : Nat) : Prop where
  v : Vw W B 5 1 D (s.n + n) c pre
  k : Kept w W s.d D
  h : Head w W s.d (s.n * 1)
  l : Lies w W s.d D s.n n s.c c
  b : Below B w W
  m : c ≤ 9223372036854775807
section
variable {w W w' : World} {B p d : Nat} {DK DV D : Option Addr} {F : FS} {vs : List Sb} {c1 c2 : Value} {s : Sb} {pre : List Value} {n c : Nat} {k : ByteArray} {b : Bool}
theorem Apd.drewN (h : Apd w W B s pre n D c) (q : Nat) : Apd w (W.drewN q) B s pre n D c := by
  refine ⟨h.v, h.k, h.h, ?_, below_drewN h.b q, h.m⟩
  rcases h.l with h1 | ⟨h1, h2, h3⟩
  · exact .inl h1
  · exact .inr ⟨h1, h2, below_drewN h3 q⟩
theorem Apd.undrew (h : Apd w.drew W B s pre n D c) : Apd w W B s pre n D c := by
  refine ⟨h.v, h.k, h.h, ?_, ⟨h.b.os, h.b.tape, h.b.output, h.b.size, h.b.block⟩, h.m⟩
  rcases h.l with h1 | ⟨h1, h2, h3⟩
  · exact .inl h1
  · exact .inr ⟨h1, h2, ⟨h3.os, h3.tape, h3.output, h3.size, h3.block⟩⟩
theorem FT.grow (h : FT w B p DK DV F vs) (hg : Gets F vs k s b) (a : Apd w W B s pre n D c) : FT W B p DK DV F vs := by
  have hu : ∀ g, s.d = some ⟨g, 0, none⟩ → ∃ cs, Blk w g 5 cs := fun g hd => (h.gview hg).2.2.blk hd
  have other : ∀ {g : Nat} {t : TypeId} {cs : List Value}, Blk w g t cs → t ≠ 5 → W.heap[g]? = w.heap[g]? := fun {g t cs} hb ht => a.k.1 g hb.lt (fun e => by
    obtain ⟨cs', hb'⟩ := hu g e
    exact hb'.ne_ hb (fun e => ht e.symm) rfl)
  obtain ⟨_, hpb⟩ := h.blk
  refine h.keep (other hpb (by decide)) (fun g _ hk => ?_) (fun g _ hv => ?_) (fun t ht bs hl hv => ?_)
  · obtain ⟨_, hb⟩ := h.blkK hk; exact other hb (by decide)
  · obtain ⟨_, hb⟩ := h.blkV hv; exact other hb (by decide)
  · by_cases he : ∃ g, t.d = some ⟨g, 0, none⟩ ∧ s.d = some ⟨g, 0, none⟩
    · obtain ⟨g, h1, h2⟩ := he
      rcases hg with ⟨rfl, i, x, hx, hs⟩ | ⟨rfl, rfl, hk⟩
      · obtain ⟨j, hj⟩ := List.mem_iff_getElem?.1 ht
        have hij : i = j := Classical.byContradiction fun e => h.ap i j s t e hs hj g h2 h1
        subst hij
        rw [hj] at hs; injection hs with hs; subst hs
        exact hv.head a.h (Nat.le_refl _)
      · cases h2
    · refine hv.keep fun g hd => a.k.1 g (hv.lt hd).1 (fun e => he ⟨g, hd, e⟩)
theorem Apd.mid {w0 : World} (hb : Below w0.heap.size w0 w) (hB : B ≤ w0.heap.size) (h : FT w B p DK DV F vs) (hg : Gets F vs k s b) (a : Apd w W B s pre n D c) (hn : 1 ≤ n) : ∃ X m, Mid w0 W B p DK DV DK DV X m ∧ (X = none ∨ ∃ s ∈ vs, X = s.d ∧ m = s.n ∧ s.n < s.c) ∧ ∀ g, X = some ⟨g, 0, none⟩ → ∃ cs, Blk w g 5 cs := by
  have hb0 : Below B w0 W := (hb.mono hB).trans a.b
  rcases a.l with ⟨h1, h2, h3⟩ | ⟨h1, h2, h3⟩
  · have hsz : w0.heap.size ≤ W.heap.size := hb0.size
    have hd : Head w0 W s.d s.n := Head.trans (Head.of_below hb) (by have := a.h; rwa [Nat.mul_one] at this)
    rcases hg with ⟨rfl, i, x, hx, hs⟩ | ⟨rfl, rfl, hk⟩
    · refine ⟨s.d, s.n, ⟨hd, fun g hg _ _ _ hX => (a.k.1 g (Nat.lt_of_lt_of_le hg hb.size) hX).trans (hb.block g hg), hsz, Nw.refl _ _, Nw.refl _ _, hb0⟩, .inr ⟨s, List.mem_of_getElem? hs, rfl, rfl, by omega⟩, fun g hd => ?_⟩
      exact (h.vw i s _ hs hx).2.2.blk hd
    · simp only at h3; omega
  · exact ⟨none, 0, Mid.of_below (hb.trans (h3.mono hb.size)) hB, .inl rfl, fun g hg => by cases hg⟩
end
set_option maxRecDepth 100000 in
set_option maxHeartbeats 3200000 in
theorem apply_remove {w : World} {B p d : Nat} {DK DV : Option Addr} {F : FS} {vs : List Sb} {c1 c2 : Value} (h : FT w B p DK DV F vs) (hd : Blk w d 116 [.pointer (some ⟨p, 0, none⟩), c1, c2]) (k t : ByteArray) (n : Int) (s : Sb) (hn : F.length ≤ 90000) (hBw : B ≤ w.heap.size) :
    Calls Try.prog 72 #[.pointer (some ⟨d, 0, none⟩), .agg (wcells 4 k t n s)] w (ApE w B p DK DV vs (delF k F)) := by
  obtain ⟨s1, b, hg⟩ := gets_ex h.len k
  obtain ⟨sd, sn, sc⟩ := s
  obtain ⟨gd, gn, gc⟩ := s1
  unfold wcells
  have hal := (Below.refl w.heap.size w).alloc (Nat.le_refl _) (.cells #[.int .i64 4, .string k, .string t, .int .i64 n, .slice sd sn sc] 119)
  have hbx := Blk.new w 119 #[.int .i64 4, .string k, .string t, .int .i64 n, .slice sd sn sc]
  have hd1 := hd.below hal hd.lt
  have h1 := h.below hal
  have HG := Lib.hid (fun q => (h1.below (below_drewN (Below.refl _ _) q)).get hg (by omega))
  have H1 := Lib.hid h1
  have HW := Lib.hid hal
  clear h h1 hal
  go_enter Try.func72, Try.ntmps72
  go_upto_region 1 with fail
  generalize w.alloc (.cells #[.int .i64 4, .string k, .string t, .int .i64 n, .slice sd sn sc] 119) = w1 at *
  have c0 := hd1.cell 0
  have b0 := hbx.cell 0
  have b1 := hbx.cell 1
  simp only [List.getElem?_cons_zero, List.getElem?_cons_succ] at c0 b0 b1
  go_quiet ((exact Calls.quiet_of (HG.out _)))
  have hd2 := hd1.drewN nq
  have hbx2 := hbx.drewN nq
  have h2 := H1.out.below (below_drewN (Below.refl _ _) nq)
  have hbw := below_drewN HW.out nq
  have hwb : w.heap.size < w1.heap.size := hbx.lt
  clear HG H1 HW c0 b0 b1 hd1 hbx
  generalize w1.drewN nq = w2 at *
  have c0 := hd2.cell 0
  have b0 := hbx2.cell 0
  have b1 := hbx2.cell 1
  have b2 := hbx2.cell 2
  have b3 := hbx2.cell 3
  have b4 := hbx2.cell 4
  simp only [List.getElem?_cons_zero, List.getElem?_cons_succ] at c0 b0 b1 b2 b3 b4
  have HS : Hid (Calls Try.prog 98 #[.pointer (some ⟨p, 0, none⟩), .string k] (w2.drewN 1) fun e w' => ∃ b, e = .returned (.bool b) ∧ Hid (ApE w B p DK DV vs (delF k F) (.returned (.tuple #[])) w')) := (show Calls _ _ _ _ _ from by
    have hbd := below_drewN hbw 1
    have h3 := h2.below (below_drewN (Below.refl _ _) 1)
    have hB3 : B ≤ (w2.drewN 1).heap.size := Nat.le_trans hBw hbd.size
    refine (h3.del k (by omega) hB3).mono fun e w' he => ?_
    exact he.ape (Mid.of_below hbd hBw) h3 (.inl rfl) (fun g hg => by cases hg) (fun t ht => .inl ht.1))
  clear h2 hbw b2 b3 b4
  go_upto_region 13 with fail
  go_region_with (go_at_call 98; refine HS.out.mono ?_; rintro e w3 ⟨bb, rfl, HFin⟩)
  all_goals
    go_wp2_with fail
    go_end0
    exact HFin.out
set_option maxRecDepth 100000 in
set_option maxHeartbeats 3200000 in
theorem apply_cut {w : World} {B p d : Nat} {DK DV : Option Addr} {F : FS} {vs : List Sb} {c1 c2 : Value} (h : FT w B p DK DV F vs) (hd : Blk w d 116 [.pointer (some ⟨p, 0, none⟩), c1, c2]) (k t : ByteArray) (n : Nat) (s : Sb) (hnl : n ≤ (bytesF k F).length) (hn : F.length ≤ 90000) (hBw : B ≤ w.heap.size) :
    Calls Try.prog 72 #[.pointer (some ⟨d, 0, none⟩), .agg (wcells 3 k t (n : Int) s)] w (ApE w B p DK DV vs (setF k ((bytesF k F).take n) F)) := by
  obtain ⟨s1, b, hg⟩ := gets_ex h.len k
  obtain ⟨sd, sn, sc⟩ := s
  obtain ⟨gd, gn, gc⟩ := s1
  unfold wcells
  have hal := (Below.refl w.heap.size w).alloc (Nat.le_refl _) (.cells #[.int .i64 3, .string k, .string t, .int .i64 (n : Int), .slice sd sn sc] 119)
  have hbx := Blk.new w 119 #[.int .i64 3, .string k, .string t, .int .i64 (n : Int), .slice sd sn sc]
  have hd1 := hd.below hal hd.lt
  have h1 := h.below hal
  have HG := Lib.hid (fun q => (h1.below (below_drewN (Below.refl _ _) q)).get hg (by omega))
  have H1 := Lib.hid h1
  have HW := Lib.hid hal
  obtain ⟨HV1, HV2, HV3⟩ := h.gview hg
  simp only at HV1 HV2
  have hgcn : gn ≤ gc := HV3.2.1
  clear h h1 hal
  go_enter Try.func72, Try.ntmps72
  go_upto_region 1 with fail
  generalize w.alloc (.cells #[.int .i64 3, .string k, .string t, .int .i64 (n : Int), .slice sd sn sc] 119) = w1 at *
  have c0 := hd1.cell 0
  have b0 := hbx.cell 0
  have b1 := hbx.cell 1
  simp only [List.getElem?_cons_zero, List.getElem?_cons_succ] at c0 b0 b1
  go_quiet ((exact Calls.quiet_of (HG.out _)))
  have hd2 := hd1.drewN nq
  have hbx2 := hbx.drewN nq
  have h2 := H1.out.below (below_drewN (Below.refl _ _) nq)
  have hbw := below_drewN HW.out nq
  have hwb : w.heap.size < w1.heap.size := hbx.lt
  clear HG H1 HW c0 b0 b1 hd1 hbx
  generalize w1.drewN nq = w2 at *
  have c0 := hd2.cell 0
  have b0 := hbx2.cell 0
  have b1 := hbx2.cell 1
  have b2 := hbx2.cell 2
  have b3 := hbx2.cell 3
  have b4 := hbx2.cell 4
  simp only [List.getElem?_cons_zero, List.getElem?_cons_succ] at c0 b0 b1 b2 b3 b4
  have i0 : (0 : Int) ≤ (n : Int) := by omega
  have i1 : (n : Int) ≤ (gc : Int) := by omega
  have HC := Lib.hid (fun q => clip_calls gd n gc (w2.drewN q) (by omega))
  have HS : Hid (∀ q, Calls Try.prog 97 #[.pointer (some ⟨p, 0, none⟩), .string k, .slice gd n n] (w2.drewN q) fun e w' => ∃ b, e = .returned (.bool b) ∧ Hid (ApE w B p DK DV vs (setF k ((bytesF k F).take n) F) (.returned (.tuple #[])) w')) := (show ∀ q, _ from fun q => by
    have hbd := below_drewN hbw q
    have h3 := h2.below (below_drewN (Below.refl _ _) q)
    have hB3 : B ≤ (w2.drewN q).heap.size := Nat.le_trans hBw hbd.size
    obtain ⟨q1, q2, q3⟩ := h3.gview hg
    simp only at q1 q2 q3
    have hv := q3.cut (n := n) (by omega)
    rw [Nat.mul_one, ← List.map_take] at hv
    refine (h3.set k ⟨gd, n, n⟩ ((bytesF k F).take n) (by show n = _; rw [List.length_take]; omega) (by show n ≤ _; omega) hv (fun j t hj hne g he => h3.gap hg j t hj hne g he) (by omega) hB3).mono fun e w' he => ?_
    exact he.ape (Mid.of_below hbd hBw) h3 (.inl rfl) (fun g hg => by cases hg) (fun t ht => by
      rcases ht with rfl | ht
      · rcases hg.mem with hm | hm
        · exact .inr (.inr (.inr ⟨_, hm, rfl, .inl rfl⟩))
        · exact .inr (.inl hm)
      · exact .inl ht))
  clear h2 hbw b2 b4 HV1 HV2 HV3 hnl
  go_upto_region 11 with fail
  go_region_with (first | (go_at_call 99; refine (HC.out _).mono ?_; rintro e w3 ⟨rfl, q3, rfl⟩) | (go_at_call 97; refine (HS.out _).mono ?_; rintro e w3 ⟨bb, rfl, HFin⟩))
  all_goals
    go_wp2_with fail
    go_end0
    exact HFin.out
set_option maxRecDepth 100000 in
set_option maxHeartbeats 3200000 in
theorem apply_rename {w : World} {B p d : Nat} {DK DV : Option Addr} {F : FS} {vs : List Sb} {c1 c2 : Value} (h : FT w B p DK DV F vs) (hd : Blk w d 116 [.pointer (some ⟨p, 0, none⟩), c1, c2]) (k t : ByteArray) (n : Int) (s : Sb) (hn : F.length ≤ 90000) (hBw : B ≤ w.heap.size) :
    Calls Try.prog 72 #[.pointer (some ⟨d, 0, none⟩), .agg (wcells 2 k t n s)] w (ApE w B p DK DV vs (setF t (bytesF k F) (delF k F))) := by
  obtain ⟨s1, b, hg⟩ := gets_ex h.len k
  obtain ⟨sd, sn, sc⟩ := s
  obtain ⟨gd, gn, gc⟩ := s1
  unfold wcells
  have hal := (Below.refl w.heap.size w).alloc (Nat.le_refl _) (.cells #[.int .i64 2, .string k, .string t, .int .i64 n, .slice sd sn sc] 119)
  have hbx := Blk.new w 119 #[.int .i64 2, .string k, .string t, .int .i64 n, .slice sd sn sc]
  have hd1 := hd.below hal hd.lt
  have h1 := h.below hal
  have HG := Lib.hid (fun q => (h1.below (below_drewN (Below.refl _ _) q)).get hg (by omega))
  have H1 := Lib.hid h1
  have HW := Lib.hid hal
  clear h h1 hal
  go_enter Try.func72, Try.ntmps72
  go_upto_region 1 with fail
  generalize w.alloc (.cells #[.int .i64 2, .string k, .string t, .int .i64 n, .slice sd sn sc] 119) = w1 at *
  have c0 := hd1.cell 0
  have b0 := hbx.cell 0
  have b1 := hbx.cell 1
  simp only [List.getElem?_cons_zero, List.getElem?_cons_succ] at c0 b0 b1
  go_quiet ((exact Calls.quiet_of (HG.out _)))
  have hd2 := hd1.drewN nq
  have hbx2 := hbx.drewN nq
  have h2 := H1.out.below (below_drewN (Below.refl _ _) nq)
  have hbw := below_drewN HW.out nq
  have hwb : w.heap.size < w1.heap.size := hbx.lt
  clear HG H1 HW c0 b0 b1 hd1 hbx
  generalize w1.drewN nq = w2 at *
  have c0 := hd2.cell 0
  have b0 := hbx2.cell 0
  have b1 := hbx2.cell 1
  have b2 := hbx2.cell 2
  have b3 := hbx2.cell 3
  have b4 := hbx2.cell 4
  simp only [List.getElem?_cons_zero, List.getElem?_cons_succ] at c0 b0 b1 b2 b3 b4
  have HS : Hid (Calls Try.prog 98 #[.pointer (some ⟨p, 0, none⟩), .string k] (w2.drewN 1) fun e w' => ∃ b, e = .returned (.bool b) ∧ Hid (w'.cell? ⟨d, 0, none⟩ = some (.pointer (some ⟨p, 0, none⟩)) ∧ w'.cell? ⟨w.heap.size, 2, none⟩ = some (.string t)) ∧ Hid (Calls Try.prog 97 #[.pointer (some ⟨p, 0, none⟩), .string t, .slice gd gn gc] (w'.drewN 1) fun e w' => ∃ b, e = .returned (.bool b) ∧ Hid (ApE w B p DK DV vs (setF t (bytesF k F) (delF k F)) (.returned (.tuple #[])) w'))) := (show Calls _ _ _ _ _ from by
    have hbd := below_drewN hbw 1
    have h3 := h2.below (below_drewN (Below.refl _ _) 1)
    have hB3 : B ≤ (w2.drewN 1).heap.size := Nat.le_trans hBw hbd.size
    obtain ⟨q1, q2, q3⟩ := h3.gview hg
    simp only at q1 q2 q3
    refine (h3.del k (by omega) hB3).mono fun e w4 he => ?_
    obtain ⟨⟨bb, rfl⟩, DK4, DV4, vs4, f4, p4, kp4, nk4, nv4, bb4⟩ := he
    have e1 := (h3.kp kp4 (hd2.drewN 1) (by decide) (by decide) (by decide)).trans (hd2.drewN 1)
    have e2 := (h3.kp kp4 (hbx2.drewN 1) (by decide) (by decide) (by decide)).trans (hbx2.drewN 1)
    refine ⟨bb, rfl, (show _ ∧ _ from ⟨Blk.cell (show Blk w4 d _ _ from e1) 0, Blk.cell (show Blk w4 w.heap.size _ _ from e2) 2⟩), (show Calls _ _ _ _ _ from ?_)⟩
    have f5 := f4.below (below_drewN (Below.refl _ _) 1)
    have hv5 : Vw (w4.drewN 1) B 5 1 gd gn gc ((bytesF k F).map B8) := q3.keep fun g hg => by
      obtain ⟨cs, hb⟩ := q3.blk hg
      exact h3.kp kp4 hb (by decide) (by decide) (by decide)
    have mid : Mid w (w4.drewN 1) B p DK DV DK4 DV4 none 0 := (Mid.of_below hbd hBw).then (fun g hg => by cases hg) h3 kp4 nk4 nv4 (below_drewN bb4 1)
    refine (f5.set t ⟨gd, gn, gc⟩ (bytesF k F) q1 q2 hv5 (fun j u hj _ g he => ?_) (by have := delF_len k F; omega) (Nat.le_trans hB3 bb4.size)).mono fun e w' he => ?_
    · rcases hg with ⟨rfl, i, x, hx, hs⟩ | ⟨rfl, e0, hk⟩
      · exact (p4 u (List.mem_of_getElem? hj)).2 i _ hs (by rw [List.getElem?_map, hx]; rfl) g he
      · injection e0 with e0; simp only at he; rw [e0] at he; cases he
    · exact he.ape mid f5 (.inl rfl) (fun g hg => by cases hg) (fun u hu => by
        rcases hu with rfl | hu
        · rcases hg.mem with hm | hm
          · exact .inl hm
          · exact .inr (.inl hm)
        · exact .inl (p4 u hu).1))
  clear h2 hbw b3 b4
  go_upto_region 8 with fail
  go_region_with (go_at_call 98; refine HS.out.mono ?_; rintro e w3 ⟨bb, rfl, HC3, HS3⟩)
  all_goals
    clear c0 b2
    obtain ⟨c0, b2⟩ := HC3.out
    go_upto_region 9 with fail
    go_region_with (go_at_call 97; refine HS3.out.mono ?_; rintro e w4 ⟨bb4, rfl, HFin⟩)
    all_goals
      go_wp2_with fail
      go_end0
      exact HFin.out
set_option maxRecDepth 100000 in
set_option maxHeartbeats 3200000 in
theorem apply_grow {w : World} {B p d : Nat} {DK DV : Option Addr} {F : FS} {vs : List Sb} {c1 c2 : Value} (h : FT w B p DK DV F vs) (hd : Blk w d 116 [.pointer (some ⟨p, 0, none⟩), c1, c2]) (k t : ByteArray) (n : Int) (s : Sb) (data : List UInt8) (hdl : data.length = s.n) (hs1 : 1 ≤ s.n) (hsl : Sl w s.d (data.map B8)) (hbig : (bytesF k F).length + s.n ≤ 100000000) (hn : F.length ≤ 90000) (hBw : B ≤ w.heap.size) :
    Calls Try.prog 72 #[.pointer (some ⟨d, 0, none⟩), .agg (wcells 1 k t n s)] w (ApE w B p DK DV vs (setF k (bytesF k F ++ data) F)) := by
  obtain ⟨s1, b, hg⟩ := gets_ex h.len k
  obtain ⟨sd, sn, sc⟩ := s
  obtain ⟨gd, gn, gc⟩ := s1
  unfold wcells
  have hal := (Below.refl w.heap.size w).alloc (Nat.le_refl _) (.cells #[.int .i64 1, .string k, .string t, .int .i64 n, .slice sd sn sc] 119)
  have hbx := Blk.new w 119 #[.int .i64 1, .string k, .string t, .int .i64 n, .slice sd sn sc]
  have hd1 := hd.below hal hd.lt
  have h1 := h.below hal
  have HG := Lib.hid (fun q => (h1.below (below_drewN (Below.refl _ _) q)).get hg (by omega))
  have H1 := Lib.hid h1
  have HW := Lib.hid hal
  have HSL := Lib.hid hsl
  have HF0 := Lib.hid h
  simp only at hs1 hdl hbig
  clear hsl
  clear h h1 hal
  go_enter Try.func72, Try.ntmps72
  go_upto_region 1 with fail
  generalize w.alloc (.cells #[.int .i64 1, .string k, .string t, .int .i64 n, .slice sd sn sc] 119) = w1 at *
  have c0 := hd1.cell 0
  have b0 := hbx.cell 0
  have b1 := hbx.cell 1
  simp only [List.getElem?_cons_zero, List.getElem?_cons_succ] at c0 b0 b1
  go_quiet ((exact Calls.quiet_of (HG.out _)))
  have hd2 := hd1.drewN nq
  have hbx2 := hbx.drewN nq
  have h2 := H1.out.below (below_drewN (Below.refl _ _) nq)
  have hbw := below_drewN HW.out nq
  have hwb : w.heap.size < w1.heap.size := hbx.lt
  clear HG H1 HW c0 b0 b1 hd1 hbx
  generalize w1.drewN nq = w2 at *
  have c0 := hd2.cell 0
  have b0 := hbx2.cell 0
  have b1 := hbx2.cell 1
  have b2 := hbx2.cell 2
  have b3 := hbx2.cell 3
  have b4 := hbx2.cell 4
  simp only [List.getElem?_cons_zero, List.getElem?_cons_succ] at c0 b0 b1 b2 b3 b4
  obtain ⟨i0, hi, hz0, hz1, hz2⟩ := info_parts infoU8
  have HSR : Hid (∀ W : World, Below w.heap.size w W → Src Try.prog 1 27 (.slice sd sn sc) sn (data.map B8) W) := (show ∀ W : World, _ from fun W hW => srcSl Try.underlying27 (by rw [List.length_map]; exact hdl) (HSL.out.below hW) (bytes_one data))
  have HBW := Lib.hid hbw
  obtain ⟨q1, q2, q3⟩ := h2.gview hg
  simp only at q1 q2 q3
  have HV := Lib.hid q3
  have hBw2 : B ≤ w2.heap.size := Nat.le_trans hBw hbw.size
  have HSet : Hid (∀ W D c, Apd w2 W B ⟨gd, gn, gc⟩ ((bytesF k F).map B8 ++ data.map B8) sn D c → Calls Try.prog 97 #[.pointer (some ⟨p, 0, none⟩), .string k, .slice D (gn + sn) c] W fun e w' => ∃ b, e = .returned (.bool b) ∧ Hid (w'.cell? ⟨d, 0, none⟩ = some (.pointer (some ⟨p, 0, none⟩)) ∧ w'.cell? ⟨w.heap.size, 1, none⟩ = some (.string k) ∧ w'.cell? ⟨w.heap.size, 4, none⟩ = some (.slice sd sn sc)) ∧ Hid (ApE w B p DK DV vs (setF k (bytesF k F ++ data) F) (.returned (.tuple #[])) w')) := (show ∀ W D c, _ from fun W D c a => by
    obtain ⟨X, m, mid, hX, hXb⟩ := a.mid hbw hBw h2 hg hs1
    have f3 := h2.grow hg a
    have hB3 : B ≤ W.heap.size := Nat.le_trans hBw2 a.b.size
    have v3 := a.v
    rw [← List.map_append] at v3
    refine (f3.set k ⟨D, gn + sn, c⟩ (bytesF k F ++ data) (by show gn + sn = _; rw [List.length_append]; omega) a.m v3 (fun j u hj hne g he => ?_) (by omega) hB3).mono fun e w' he => ?_
    · rcases a.k.2 with e1 | e1
      · exact h2.gap hg j u hj hne g (by simp only at he e1 ⊢; rw [← e1]; exact he)
      · intro e2
        simp only at he
        rw [e1] at he; injection he with he; injection he with he
        obtain ⟨bs, _, _, hv⟩ := h2.view (List.mem_of_getElem? hj)
        have := (hv.lt e2).1
        omega
    · obtain ⟨bb, rfl, hA⟩ := he.ape mid f3 hX (fun g hg => by
        rcases hX with rfl | ⟨s, hs, rfl, _, _⟩
        · cases hg
        · obtain ⟨bs, _, _, hv⟩ := HF0.out.view hs
          exact hv.blk hg) (fun u hu => by
        rcases hu with rfl | hu
        · rcases a.l with ⟨l1, l2, l3⟩ | ⟨l1, l2, l3⟩
          · simp only at l1 l2 l3
            rcases hg.mem with hm | hm
            · exact .inr (.inr (.inr ⟨_, hm, l1, .inr ⟨by show gn ≤ gn + sn; omega, by show gn < gc; omega⟩⟩))
            · exact .inr (.inl (by simp only at hm ⊢; rw [l1]; exact hm))
          · exact .inr (.inr (.inl ⟨_, l1, hbw.size⟩))
        · exact .inl hu)
      obtain ⟨_, DK4, DV4, vs4, f4, p4, kp4, nk4, nv4, bb4⟩ := he
      have eo : ∀ {g : Nat} {t : TypeId} {cs : List Value}, Blk w2 g t cs → t ≠ 5 → t ≠ 134 → t ≠ 9 → t ≠ 27 → Blk w' g t cs := fun {g t cs} hb t1 t2 t3 t4 => by
        have hW : Blk W g t cs := (a.k.1 g hb.lt (fun e => by
          obtain ⟨cs', hb'⟩ := q3.blk e
          exact hb'.ne_ hb (fun e => t1 e.symm) rfl)).trans hb
        exact (f3.kp kp4 hW t2 t3 t4).trans hW
      exact ⟨bb, rfl, (show _ ∧ _ ∧ _ from ⟨(eo hd2 (by decide) (by decide) (by decide) (by decide)).cell 0, (eo hbx2 (by decide) (by decide) (by decide) (by decide)).cell 1, (eo hbx2 (by decide) (by decide) (by decide) (by decide)).cell 4⟩), hA⟩)
  have HCel : Hid (∀ W D c, Apd w2 W B ⟨gd, gn, gc⟩ ((bytesF k F).map B8 ++ data.map B8) sn D c → W.cell? ⟨d, 0, none⟩ = some (.pointer (some ⟨p, 0, none⟩)) ∧ W.cell? ⟨w.heap.size, 1, none⟩ = some (.string k) ∧ W.cell? ⟨w.heap.size, 4, none⟩ = some (.slice sd sn sc)) := (show ∀ W D c, _ from fun W D c a => by
      have eo : ∀ {g : Nat} {t : TypeId} {cs : List Value}, Blk w2 g t cs → t ≠ 5 → Blk W g t cs := fun {g t cs} hb t1 => (a.k.1 g hb.lt (fun e => by
          obtain ⟨cs', hb'⟩ := q3.blk e
          exact hb'.ne_ hb (fun e => t1 e.symm) rfl)).trans hb
      exact ⟨(eo hd2 (by decide)).cell 0, (eo hbx2 (by decide)).cell 1, (eo hbx2 (by decide)).cell 4⟩)
  have hk1 : gn + sn ≤ 100000000 := by omega
  clear h2 hbw b2 b3 q3 hwb q1 hbig hdl
  go_upto_region 6 with fail
  go_region_held3 (fun w' => w'.cell? ⟨d, 0, none⟩ = some (.pointer (some ⟨p, 0, none⟩)) ∧ w'.cell? ⟨w.heap.size, 1, none⟩ = some (.string k) ∧ w'.cell? ⟨w.heap.size, 4, none⟩ = some (.slice sd sn sc)) (first | (exact HC4.out) | (exact HC3.out) | (exact ⟨c0, b1, b4⟩) | go_keep) (first | (refine step_append_vw (o := ⟨some 38, _, _, _, _, _⟩) (by rfl) (.tmp 35) (.tmp 37) 27 27 (by rfl) 5 i0 (.int .u8 0) 1 1 Try.underlying27 hi hz0 hz1 hz2 rfl B gd gn gc ((bytesF k F).map B8) (by rfl) (by exact HV.out) q2 (.slice sd sn sc) (by rfl) sn (data.map B8) (HSR.out _ (by first | exact HBW.out | exact HBW.out.drew)) (by omega) (by omega) _ (Below.refl _ _) (by exact hBw2) ?_; intro w3 D3 c3 HV3 HK3 HH3 HL3 HE3 hb3 hs3 hm3; have HA3 := Lib.hid (show Apd w2 w3 B ⟨gd, gn, gc⟩ ((bytesF k F).map B8 ++ data.map B8) sn D3 c3 from by first | exact ⟨HV3.out, HK3.out, HH3.out, HL3.out, hb3, hm3⟩ | exact Apd.undrew ⟨HV3.out, HK3.out, HH3.out, HL3.out, hb3, hm3⟩); have HC3 := Lib.hid (HCel.out _ _ _ HA3.out)) | (go_at_call 97; (with_reducible refine (HSet.out _ _ _ (by first | exact HA3.out | exact HA3.out.drewN 1)).mono ?_); rintro e w4 ⟨bb, rfl, HC4, HFin⟩))
  go_wp2_with fail
  go_end0
  exact HFin.out
end Go.Proofs.Ytbmgeomndfodpaa
