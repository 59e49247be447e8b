/-
  The contract of spoorlaw3.step, a Put; and of all calls.
-/
import Derived.Test.YtepfmmphajdlfaaRingStep
import Derived.Deep.AppendLies
namespace Go.Mem
open Go.RowKit
section
variable {w : World} {B : Nat} {e t : TypeId} (x : Value) (o : Obj)
theorem emptyA (h : B ≤ w.heap.size) : OwnB ((w.alloc (.cells #[] e)).drew) B e 1 (some ⟨w.heap.size, 0, none⟩) 0 0 [] := (OwnB.empty rfl h).drewN 1
theorem emptyB (h : B ≤ w.heap.size) : OwnB (((w.alloc (.cells #[] e)).alloc o).drew) B e 1 (some ⟨w.heap.size, 0, none⟩) 0 0 [] := ((OwnB.empty rfl h).alloc o).drewN 1
theorem emptyC (h : B ≤ w.heap.size) : OwnB (((w.alloc o).alloc (.cells #[] e)).drew) B e 1 (some ⟨w.heap.size + 1, 0, none⟩) 0 0 [] := (OwnB.empty (W := w.alloc o) (by simp) (by omega)).drewN 1
theorem belowA {a : World} (h : Below B a w) (hB : B ≤ w.heap.size) : Below B a (w.alloc o).drew := (h.alloc hB o).drew
theorem belowB {a : World} (h : Below B a w) (hB : B ≤ w.heap.size) (o' : Obj) : Below B a ((w.alloc o).alloc o').drew := ((h.alloc hB o).alloc (by simp; omega) o').drew
theorem blkB : Blk (((w.alloc o).alloc (.cells #[x] t)).drew) (w.heap.size + 1) t [x] := by
  have h := Blk.new (w.alloc o) t #[x]
  simpa using h.drew
theorem blkC : Blk (((w.alloc (.cells #[x] t)).alloc o).drew) w.heap.size t [x] := ((Blk.new w t #[x]).alloc o).drew
theorem OwnB.zero2 {sz n c : Nat} {D : Option Addr} {pre : List Value} (h : OwnB w B e sz D (0 + n) c ([] ++ pre)) : OwnB w B e sz D (0 + n) c pre := h
theorem OwnB.zero {sz n c : Nat} {D : Option Addr} {pre : List Value} (h : OwnB w B e sz D (0 + n) c ([] ++ pre)) : OwnB w B e sz D n c pre := by simpa using h
end
end Go.Mem
namespace Go.Proofs.Ytepfmmphajdlfaa
open Go.RowKit Go.Mem
section
variable (p g room : Nat) (xs : List Int) (L : Option Addr) (n c : Nat) (k x : Int) (w : World)

theorem _root_.Go.Mem.OwnB.lies {w : World} {B sz k cap : Nat} {e : TypeId} {D : Option Addr} {pre : List Value} {bs : List Nat} (h : OwnB w B e sz D k cap pre) (hb : ∀ b, b ∈ bs → b < B) : Lies bs D := fun b o s e hm => by
  rcases h.2.2 with ⟨h3, _⟩ | ⟨g, sp, hd, hg, _⟩
  · rw [e] at h3; cases h3
  · have h4 := hb b hm
    obtain rfl : b = g := by rw [e] at hd; injection hd with e1; injection e1
    omega
theorem _root_.Go.Mem.OwnB.nil_cap {w : World} {B sz k cap : Nat} {e : TypeId} {D : Option Addr} {pre : List Value} (h : OwnB w B e sz D k cap pre) (hD : D = none) : cap = 0 := by
  rcases h.2.2 with ⟨_, _, h3⟩ | ⟨g, sp, hd, _⟩
  · exact h3
  · rw [hD] at hd; cases hd
theorem RgI.belowB {w w' : World} {p g room B : Nat} {xs : List Int} (h : RgI w p g room xs) (hb : Below B w w') (hp : p < B) (hg : g < B) : RgI w' p g room xs := by
  obtain ⟨f, cs, h1, h2, h3, h4⟩ := h.body
  exact ⟨⟨f, cs, h1, h2.below hb hp, h3.below hb hg, h4⟩, h.le, h.most⟩
theorem I64_one (zs : List Int) : ∀ u ∈ zs.map I64, u.oneCell' = true := by
  intro u hu; obtain ⟨_, _, rfl⟩ := List.mem_map.1 hu; rfl

set_option maxRecDepth 100000 in
set_option maxHeartbeats 3200000 in
theorem step_put (h : RgI w p g room xs) (hb : Beside w p g xs L n c) :
    Calls Try.prog 33 #[.pointer (some ⟨p, 0, none⟩), .slice L n c, .int .i64 (room : Int), .agg #[.int .i64 1, .int .i64 x]] w (StepEnds w p g room (putI xs room x)) := by
  have hw1 : Below w.heap.size w (w.alloc (.cells #[.int .i64 1, .int .i64 x] 57)) := (Below.refl _ _).alloc (Nat.le_refl _) _
  have hfr : Fr [p, g] w (w.alloc (.cells #[.int .i64 1, .int .i64 x] 57)) := (Fr.refl _ _).alloc _
  have h' := h.below hw1
  have hlt := h.lt
  have hle := h.le
  have hmost := h.most
  obtain ⟨hsl, rfl, hlc, hli, hnil⟩ := hb
  have HP := Lib.hid (putI_calls p g room xs x _ h')
  have HSl := Lib.hid hsl
  clear hsl
  by_cases hroom : xs.length < room
  · have hd : decide (xs.length < room) = true := decide_eq_true hroom
    have hge : decide ((room : Int) ≤ (xs.length : Int)) = false := decide_eq_false (by omega)
    have HPL := Lib.hid (show putI xs room x = xs ++ [x] from if_pos hroom)
    rw [hd] at HP
    rw [HPL.out] at HP ⊢
    clear hd hw1 h h'
    obtain ⟨i0, hi, hz0, hz1, hz2⟩ := info_parts infoRI
    have hnp : w.heap.size ∉ [p, g] := by simp [Nat.ne_of_gt hlt.1, Nat.ne_of_gt hlt.2]
    go_enter Try.func33, Try.ntmps33
    go_wp2_with fail
    refine HP.out.mono ?_
    unfold RgEndsI
    rintro e w2 ⟨rfl, h2, f2⟩
    have f3 := hfr.trans f2
    have hsz2 : w.heap.size + 1 ≤ w2.heap.size := by have := f2.size; simpa using this
    have c1 : w2.cell? ⟨w.heap.size, 1, none⟩ = some (.int .i64 x) := keep_fr f2 (by go_simp) hnp
    have hs2 := HSl.out.fr f3 hli
    clear HSl HP f2 hfr
    go_wp2_with fail
    go_region_held3 (fun w' => w'.cell? ⟨w.heap.size, 1, none⟩ = some (.int .i64 x)) (first | exact c3' | (exact (hb4.cell (p := ⟨w.heap.size, 1, none⟩) (Nat.lt_succ_self _)).trans c1) | go_keep) (first | (refine step_append_ownK (o := ⟨some 33, _, _, _, _, _⟩) (by rfl) (.tmp 31) (.tmp 32) 32 32 (by rfl) 3 i0 (.int .i64 0) 1 8 Try.underlying32 hi hz0 hz1 hz2 rfl (w.heap.size + 1) _ 0 0 [] (by rfl) (by first | exact emptyA hsz2 | exact emptyB _ hsz2 | exact emptyC _ hsz2) (.slice L xs.length c) (by rfl) xs.length (xs.map I64) (srcSl Try.underlying32 (by simp) (by first | exact (hs2.alloc _).drew | exact ((hs2.alloc _).alloc _).drew) (I64_one _)) (by omega) (by omega) w2 (by first | exact belowA _ (Below.refl _ _) hsz2 | exact belowB _ (Below.refl _ _) hsz2 _) (by simp; omega) ?_; intro w3 D3 c3 HO3 HK3 hb3 hsz3; have HO3' := Lib.hid HO3.out.zero; have HO3z : Hid (OwnB w3 (w.heap.size + 1) 3 1 D3 (0 + xs.length) c3 (xs.map I64)) := HO3.out.zero2; have hsz3' := Nat.le_trans hsz2 hb3.size; have c3' := (hb3.cell (p := ⟨w.heap.size, 1, none⟩) (Nat.lt_succ_self _)).trans c1; (first | (have hX := HK3.out.blk (blkB (.int .i64 x) _) (by simp)) | (have hX := HK3.out.blk (blkC (.int .i64 x) _) (by simp)) | skip)) | (refine step_append_ownK (o := ⟨some 37, _, _, _, _, _⟩) (by rfl) (.tmp 33) (.tmp 36) 32 32 (by rfl) 3 i0 (.int .i64 0) 1 8 Try.underlying32 hi hz0 hz1 hz2 rfl (w.heap.size + 1) D3 _ c3 (xs.map I64) (by rfl) (by first | exact HO3'.out | exact HO3'.out.alloc _ | exact HO3z.out) _ (by rfl) 1 ([x].map I64) (by first | exact srcSl Try.underlying32 rfl hX.sl (I64_one _) | exact srcSl Try.underlying32 rfl (Sl.new rfl rfl) (I64_one _)) (by omega) (by omega) w2 (by first | exact hb3 | exact hb3.alloc hsz3' _) (by first | exact hsz3' | (simp; omega)) ?_; intro w4 D4 c4 HO4 HK4 hb4 hsz4))
    all_goals
      have HO5 : Hid (OwnB w4 (w.heap.size + 1) 3 1 D4 (xs.length + 1) c4 ((xs ++ [x]).map I64)) := by show OwnB _ _ _ _ _ _ _ _; simpa using HO4.out
      have h5 := h2.belowB hb4 (by omega) (by omega)
      have f5 : Fr [p, g] w w4 := ⟨hb4.os.trans f3.os, hb4.tape.trans f3.tape, hb4.output.trans f3.output, Nat.le_trans f3.size hb4.size, fun k hk hn => (hb4.block k (by omega)).trans (f3.block k hk hn)⟩
      have hl5 : Lies [p, g] D4 := HO5.out.lies (fun b hb => by
        rcases List.mem_cons.1 hb with rfl | hb
        · omega
        · rw [List.mem_singleton.1 hb]; omega)
      clear HO3 HK3 hb3 hsz3 HK4 hb4 hsz4 HO4 h2 f3 c1 c3' hs2 HO3' HO3z
      go_wp2_with fail
      go_ret2
      exact ⟨D4, xs.length + 1, c4, rfl, ⟨HO5.out.sl, by simp, HO5.out.le, hl5, HO5.out.nil_cap⟩, h5, f5⟩
  · have hd : decide (xs.length < room) = false := decide_eq_false hroom
    have hge : decide ((room : Int) ≤ (xs.length : Int)) = true := decide_eq_true (by omega)
    have HPL := Lib.hid (show putI xs room x = xs from if_neg hroom)
    rw [hd] at HP
    rw [HPL.out] at HP ⊢
    clear hd hw1 h h'
    go_enter Try.func33, Try.ntmps33
    go_wp2_with fail
    refine HP.out.mono ?_
    unfold RgEndsI
    rintro e w2 ⟨rfl, h2, f2⟩
    have f3 := hfr.trans f2
    go_wp2_with fail
    go_ret2
    exact ⟨L, xs.length, c, rfl, ⟨HSl.out.fr f3 hli, rfl, hlc, hli, hnil⟩, h2, f3⟩
end

/-- a call, on the list -/
structure Ask where
  k : Int
  n : Int
def Ask.cells (a : Ask) : List Value := [.int .i64 a.k, .int .i64 a.n]
def Ask.ok (a : Ask) : Prop := (-9223372036854775808 ≤ a.k ∧ a.k ≤ 9223372036854775807) ∧ -9223372036854775808 ≤ a.n ∧ a.n ≤ 9223372036854775807
theorem step_calls (p g room : Nat) (xs : List Int) (L : Option Addr) (n c : Nat) (a : Ask) (w : World) (h : RgI w p g room xs) (hb : Beside w p g xs L n c) (ha : a.ok) :
    ∃ ys, Calls Try.prog 33 #[.pointer (some ⟨p, 0, none⟩), .slice L n c, .int .i64 (room : Int), .agg #[.int .i64 a.k, .int .i64 a.n]] w (StepEnds w p g room ys) := by
  obtain ⟨k, x⟩ := a
  by_cases h1 : k = 1
  · subst h1; exact ⟨_, step_put p g room xs L n c x w h hb⟩
  by_cases h2 : k = 2
  · subst h2; exact ⟨_, step_take p g room xs L n c x w h hb⟩
  by_cases h3 : k = 3
  · subst h3; exact ⟨_, step_at p g room xs L n c x w h hb ha.2⟩
  by_cases h4 : k = 4
  · subst h4; exact ⟨_, step_drop p g room xs L n c x w h hb ha.2⟩
  exact ⟨_, step_else p g room xs L n c k x w h hb h1 h2 h3 h4⟩
end Go.Proofs.Ytepfmmphajdlfaa
