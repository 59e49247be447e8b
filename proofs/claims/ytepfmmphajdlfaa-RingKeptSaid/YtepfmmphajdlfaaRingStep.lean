/-
  The contract of spoorlaw3.step: a ring, held against a list.
-/
import Derived.Test.YtepfmmphajdlfaaRingRuns
import Derived.Test.YtepfmmphajdlfaaApp2
namespace Go.Mem
open Go.RowKit
/-- the slice lies in none of these blocks -/
def Lies (bs : List Nat) (L : Option Addr) : Prop := ∀ b o s, L = some ⟨b, o, s⟩ → b ∉ bs
theorem Sl.fr {bs : List Nat} {w w' : World} {L : Option Addr} {xs : List Value} (h : Sl w L xs) (f : Fr bs w w') (hl : Lies bs L) : Sl w' L xs := fun k v hv => by
  obtain ⟨b, o, e, hc⟩ := h k v hv
  exact ⟨b, o, e, (World.cell?_of_block (a := ⟨b, o + k, none⟩) (f.block b (lt_of_cell hc) (hl b o none e))).trans hc⟩
theorem Lies.cut {bs : List Nat} {L : Option Addr} (h : Lies bs L) (c k : Nat) : Lies bs (if c = k then L else L.map (·.add k)) := fun b o s e => by
  split at e
  · exact h b o s e
  · cases L with
    | none => cases e
    | some a =>
      obtain ⟨b', o', s'⟩ := a
      have e1 : (Addr.add ⟨b', o', s'⟩ k) = ⟨b, o, s⟩ := by injection e
      have e2 : (Addr.add ⟨b', o', s'⟩ k).block = b' := by unfold Addr.add; split <;> rfl
      rw [e1] at e2
      have e3 : b = b' := e2
      rw [e3]; exact h b' o' s' rfl
end Go.Mem
namespace Go.Proofs.Ytepfmmphajdlfaa
open Go.RowKit Go.Mem

/-- a list beside a ring -/
structure Beside (w : World) (p g : Nat) (xs : List Int) (L : Option Addr) (n c : Nat) : Prop where
  sl : Sl w L (xs.map I64)
  len : xs.length = n
  le : n ≤ c
  lies : Lies [p, g] L
  nil : L = none → c = 0
def StepEnds (w : World) (p g room : Nat) (ys : List Int) (e : Ending) (w' : World) : Prop := ∃ (L : Option Addr) (n c : Nat), e = .returned (.tuple #[.slice L n c, .bool true]) ∧ Beside w' p g ys L n c ∧ RgI w' p g room ys ∧ Fr [p, g] w w'
theorem Beside.fr {w w' : World} {p g n c : Nat} {xs : List Int} {L : Option Addr} (h : Beside w p g xs L n c) (f : Fr [p, g] w w') : Beside w' p g xs L n c := ⟨h.sl.fr f h.lies, h.len, h.le, h.lies, h.nil⟩

theorem RgI.drew {w : World} {p g room : Nat} {xs : List Int} (h : RgI w p g room xs) : RgI w.drew p g room xs := h.fr (bs := []) ((Fr.refl _ _).drew) List.not_mem_nil List.not_mem_nil

section
variable (p g room : Nat) (xs : List Int) (L : Option Addr) (n c : Nat) (k x : Int) (w : World)
set_option maxRecDepth 100000 in
set_option maxHeartbeats 1600000 in
theorem step_else (h : RgI w p g room xs) (hb : Beside w p g xs L n c) (h1 : k ≠ 1) (h2 : k ≠ 2) (h3 : k ≠ 3) (h4 : k ≠ 4) :
    Calls Try.prog 33 #[.pointer (some ⟨p, 0, none⟩), .slice L n c, .int .i64 (room : Int), .agg #[.int .i64 k, .int .i64 x]] w (StepEnds w p g room xs) := by
  have k1 : (k == 1) = false := beq_eq_false_iff_ne.2 h1
  have k2 : (k == 2) = false := beq_eq_false_iff_ne.2 h2
  have k3 : (k == 3) = false := beq_eq_false_iff_ne.2 h3
  have k4 : (k == 4) = false := beq_eq_false_iff_ne.2 h4
  have hfr : Fr [p, g] w (w.alloc (.cells #[.int .i64 k, .int .i64 x] 57)) := (Fr.refl _ _).alloc _
  go_enter Try.func33, Try.ntmps33
  go_wp2_with fail
  go_ret2
  exact ⟨L, n, c, rfl, hb.fr hfr, h.below ((Below.refl _ _).alloc (Nat.le_refl _) _), hfr⟩

set_option maxRecDepth 100000 in
set_option maxHeartbeats 1600000 in
theorem step_at (h : RgI w p g room xs) (hb : Beside w p g xs L n c) (hx : -9223372036854775808 ≤ x ∧ x ≤ 9223372036854775807) :
    Calls Try.prog 33 #[.pointer (some ⟨p, 0, none⟩), .slice L n c, .int .i64 (room : Int), .agg #[.int .i64 3, .int .i64 x]] w (StepEnds w p g room xs) := by
  have hw1 : Below w.heap.size w (w.alloc (.cells #[.int .i64 3, .int .i64 x] 57)) := (Below.refl _ _).alloc (Nat.le_refl _) _
  have hfr : Fr [p, g] w (w.alloc (.cells #[.int .i64 3, .int .i64 x] 57)) := (Fr.refl _ _).alloc _
  have h' := h.below hw1
  have hle := h.le
  have hmost := h.most
  obtain ⟨hx1, hx2⟩ := hx
  obtain ⟨hsl, rfl, hlc, hli, hnil⟩ := hb
  by_cases hin : 0 ≤ x ∧ x < (xs.length : Int)
  · obtain ⟨j, rfl⟩ := Int.eq_ofNat_of_zero_le hin.1
    have hj : j < xs.length := by have := hin.2; omega
    have ha : atI xs (j : Int) = xs[j] := by unfold atI; rw [if_pos hin]; simp [List.getD, hj]
    have HA := Lib.hid (atC p g room xs (j : Int) xs[j] true _ h' ha (decide_eq_true hin))
    obtain ⟨b, o, rfl, hca⟩ := hsl.int hj
    have hd1 : decide ((j : Int) < 0) = false := decide_eq_false (by omega)
    have hd2 : decide ((xs.length : Int) ≤ (j : Int)) = false := decide_eq_false (by omega)
    have HSl := Lib.hid hsl
    have hca1 := cell_alloc hca (.cells #[.int .i64 3, .int .i64 (j : Int)] 57)
    clear hin ha hsl hca
    generalize xs[j] = y at HA hca1
    go_enter Try.func33, Try.ntmps33
    go_wp2_with fail
    refine HA.out.mono ?_
    unfold Quiet2
    rintro e w2 ⟨rfl, q, rfl⟩
    have f2 := hfr.drewN q
    go_wp2_with fail
    go_ret2
    exact ⟨some ⟨b, o, none⟩, xs.length, c, rfl, ⟨HSl.out.fr f2 hli, rfl, hlc, hli, hnil⟩, h'.drewN q, f2⟩
  · have ha : atI xs x = 0 := if_neg hin
    have HA := Lib.hid (atC p g room xs x 0 false _ h' ha (decide_eq_false hin))
    have HSl := Lib.hid hsl
    clear ha hsl
    by_cases h0 : x < 0
    all_goals
      first
        | (have hd1 : decide (x < 0) = true := decide_eq_true h0)
        | (have hd1 : decide (x < 0) = false := decide_eq_false h0
           have hd2 : decide ((xs.length : Int) ≤ x) = true := decide_eq_true (by omega))
      clear hin
      go_enter Try.func33, Try.ntmps33
      go_wp2_with fail
      refine HA.out.mono ?_
      unfold Quiet2
      rintro e w2 ⟨rfl, q, rfl⟩
      have f2 := hfr.drewN q
      go_wp2_with fail
      go_ret2
      exact ⟨L, xs.length, c, rfl, ⟨HSl.out.fr f2 hli, rfl, hlc, hli, hnil⟩, h'.drewN q, f2⟩

set_option maxRecDepth 100000 in
set_option maxHeartbeats 1600000 in
theorem step_take (h : RgI w p g room xs) (hb : Beside w p g xs L n c) :
    Calls Try.prog 33 #[.pointer (some ⟨p, 0, none⟩), .slice L n c, .int .i64 (room : Int), .agg #[.int .i64 2, .int .i64 x]] w (StepEnds w p g room (xs.drop 1)) := by
  have hw1 : Below w.heap.size w (w.alloc (.cells #[.int .i64 2, .int .i64 x] 57)) := (Below.refl _ _).alloc (Nat.le_refl _) _
  have hfr : Fr [p, g] w (w.alloc (.cells #[.int .i64 2, .int .i64 x] 57)) := (Fr.refl _ _).alloc _
  have h' := h.below hw1
  have hle := h.le
  have hmost := h.most
  obtain ⟨hsl, rfl, hlc, hli, hnil⟩ := hb
  by_cases hlen : 0 < xs.length
  · have ha : atI xs 0 = xs[0] := by unfold atI; rw [if_pos (by omega)]; simp [List.getD, hlen]
    have HT := Lib.hid (takeC p g room xs (xs.drop 1) xs[0] true _ h' ha (decide_eq_true (by omega)) rfl)
    have hcut := hsl.cut (k := 1) (cap := c) (by rw [List.length_map]; exact hlc)
    rw [← List.map_drop] at hcut
    have hli2 := hli.cut c 1
    obtain ⟨b, o, rfl, hca⟩ := hsl.int hlen
    have hca1 : ∀ w' : World, Sl w' (some ⟨b, o, none⟩) (xs.map I64) → w'.cell? ⟨b, o, none⟩ = some (.int .i64 xs[0]) := fun w' h => by
      obtain ⟨b', o', e, hc⟩ := h.int hlen
      obtain ⟨rfl, rfl⟩ : b = b' ∧ o = o' := by injection e with e; injection e with e1 e2; exact ⟨e1, e2⟩
      exact hc
    generalize xs[0] = y at HT hca1
    have HCA := Lib.hid hca1
    have HSl := Lib.hid hsl
    have HCut := Lib.hid hcut
    have hd0 : ((xs.length : Int) == 0) = false := beq_eq_false_iff_ne.2 (by omega)
    have hi0 : (0 : Int) < (xs.length : Int) := by omega
    have hi1 : (1 : Int) ≤ (xs.length : Int) := by omega
    have HXL := Lib.hid (show (xs.drop 1).length = xs.length - 1 by rw [List.length_drop])
    clear ha hsl hca hca1 hcut
    by_cases hc1 : c = 1
    all_goals
      first
        | (subst hc1; rw [if_pos rfl] at HCut hli2)
        | (rw [if_neg hc1] at HCut hli2
           have hcn : (1 : Int) < (c : Int) := by omega)
      (try simp only [Option.map_some, Addr.add_lit] at HCut hli2)
      go_enter Try.func33, Try.ntmps33
      go_wp2_with fail
      refine HT.out.mono ?_
      unfold RgEndsI
      rintro e w2 ⟨rfl, h2, f2⟩
      have f3 := hfr.trans f2
      have hs3 := HSl.out.fr f3 hli
      have hc3 := HCA.out _ hs3
      have HC3 := Lib.hid (HCut.out.fr f3 hli2)
      clear f2 hs3 HCut HSl HCA
      go_wp2_with fail
      go_quiet (fail)
      go_wp2_with fail
      go_ret2
      exact ⟨_, _, _, rfl, ⟨HC3.out.drewN _, by have := HXL.out; omega, by omega, hli2, fun e => by cases e⟩, h2.drewN _, f3.drewN _⟩
  · obtain rfl : xs = [] := List.eq_nil_of_length_eq_zero (by omega)
    have HT := Lib.hid (takeC p g room [] [] 0 false _ h' (by decide) (by decide) rfl)
    have HSl := Lib.hid hsl
    clear hsl
    go_enter Try.func33, Try.ntmps33
    go_wp2_with fail
    refine HT.out.mono ?_
    unfold RgEndsI
    rintro e w2 ⟨rfl, h2, f2⟩
    have f3 := hfr.trans f2
    go_wp2_with fail
    go_ret2
    exact ⟨L, 0, c, rfl, ⟨HSl.out.fr f3 hli, rfl, hlc, hli, hnil⟩, h2, f3⟩

set_option maxRecDepth 100000 in
set_option maxHeartbeats 1600000 in
theorem step_drop (h : RgI w p g room xs) (hb : Beside w p g xs L n c) (hx : -9223372036854775808 ≤ x ∧ x ≤ 9223372036854775807) :
    Calls Try.prog 33 #[.pointer (some ⟨p, 0, none⟩), .slice L n c, .int .i64 (room : Int), .agg #[.int .i64 4, .int .i64 x]] w (StepEnds w p g room (xs.drop (dropI xs x))) := by
  have hw1 : Below w.heap.size w (w.alloc (.cells #[.int .i64 4, .int .i64 x] 57)) := (Below.refl _ _).alloc (Nat.le_refl _) _
  have hfr : Fr [p, g] w (w.alloc (.cells #[.int .i64 4, .int .i64 x] 57)) := (Fr.refl _ _).alloc _
  have h' := h.below hw1
  have hlt := h.lt
  have hle := h.le
  have hmost := h.most
  obtain ⟨hsl, rfl, hlc, hli, hnil⟩ := hb
  have hm := dropI_le xs x
  have HDr := Lib.hid (fun (W : World) (hW : RgI W p g room xs) => dropI_calls p g room xs x W hW hx)
  have HM := Lib.hid (show (dropI xs x : Int) = min (max 0 x) (xs.length : Int) by unfold dropI; omega)
  obtain ⟨hx1, hx2⟩ := hx
  generalize dropI xs x = m at hm HDr HM ⊢
  have hcut := hsl.cut (k := m) (cap := c) (by rw [List.length_map]; exact hlc)
  rw [← List.map_drop] at hcut
  have hli2 := hli.cut c m
  have hnil2 : (if c = m then L else L.map (·.add m)) = none → c - m = 0 := fun e => by
    split at e
    · omega
    · cases L with
      | none => have := hnil rfl; omega
      | some a => cases e
  have HXL := Lib.hid (show (xs.drop m).length = xs.length - m by rw [List.length_drop])
  by_cases hcm : c = m
  all_goals
    first
      | (rw [if_pos hcm] at hcut hli2 hnil2; have hcm2 := hcm.symm; clear hcm; subst hcm2)
      | (rw [if_neg hcm] at hcut hli2 hnil2
         have hcn : (m : Int) < (c : Int) := by omega)
    have HN2 := Lib.hid hnil2
    have HCut := Lib.hid hcut
    clear hsl hcut hli hnil2 hnil
    go_enter Try.func33, Try.ntmps33
    go_upto_if 108 with fail
    go_cut [15] (fun s wx => s = .int .i64 (max 0 x) ∧ wx = w.alloc (.cells #[.int .i64 4, .int .i64 x] 57))
    case first =>
      by_cases h0 : x < 0
      all_goals
        go_wp2_with fail
        go_meet
        exact ⟨congrArg (Value.int .i64) (by omega), rfl⟩
    case rest =>
      obtain ⟨rfl, hw⟩ := hcut
      subst hw
      go_upto_if 112 with fail
      go_cut [15] (fun s wx => s = .int .i64 (m : Int) ∧ wx = w.alloc (.cells #[.int .i64 4, .int .i64 x] 57))
      case first =>
        by_cases h0 : (xs.length : Int) < max 0 x
        all_goals
          go_wp2_with fail
          go_meet
          exact ⟨congrArg (Value.int .i64) (by have := HM.out; omega), rfl⟩
      case rest =>
        obtain ⟨rfl, hw⟩ := hcut
        subst hw
        have c1 : (w.alloc (.cells #[.int .i64 4, .int .i64 x] 57)).cell? ⟨w.heap.size, 1, none⟩ = some (.int .i64 x) := by go_simp
        have hn1 : w.heap.size ≠ p := Nat.ne_of_gt hlt.1
        have hn2 : w.heap.size ≠ g := Nat.ne_of_gt hlt.2
        have i0 : (0 : Int) ≤ (m : Int) := Int.natCast_nonneg _
        have i1 : (m : Int) ≤ (xs.length : Int) := by omega
        first
          | (have i2 : (m : Int) ≤ (c : Int) := by omega)
          | skip
        have hnn : w.heap.size ∉ [p, g] := by simp [hn1, hn2]
        have hmm : ((m : Int) == (m : Int)) = true := by simp
        have hh := Lib.hid h'.drew
        clear h h'
        go_wp2_with fail
        go_region_held3 (fun w' => w'.cell? ⟨w.heap.size, 1, none⟩ = some (.int .i64 x)) (first | (exact keep_fr f2 c1 hnn) | go_keep) (first | (go_at_call 31; refine (HDr.out _ (by exact hh.out)).mono ?_; unfold RgEndsI; rintro e w2 ⟨rfl, h2, f2⟩))
        have f3 : Fr [p, g] w w2 := hfr.trans ⟨f2.os, f2.tape, f2.output, f2.size, f2.block⟩
        have HC3 := Lib.hid (HCut.out.fr f3 hli2)
        clear HCut f2 c1
        go_wp2_with fail
        go_ret2
        exact ⟨_, _, _, rfl, ⟨HC3.out, by have := HXL.out; omega, by omega, hli2, fun e => by have := HN2.out e; omega⟩, h2, f3⟩
end
end Go.Proofs.Ytepfmmphajdlfaa
