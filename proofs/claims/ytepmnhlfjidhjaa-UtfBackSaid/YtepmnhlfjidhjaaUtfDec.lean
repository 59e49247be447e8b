/-
  The decoder: what it holds; New, Of, Held, Byte.
-/
import Derived.Test.YtepmnhlfjidhjaaUtfAll
import Derived.Test.YtepmnhlfjidhjaaKeep
import Derived.StillTailTactics
import Derived.Deep.AppendLies
namespace Go.Mem
open Go.RowKit
/-- the front of what is known whole -/
theorem OwnB.front {w : World} {B k cap : Nat} {e : TypeId} {D : Option Addr} {pre : List Value} (h : OwnB w B e 1 D k cap pre) : OwnB w B e 1 D 0 cap [] := by
  obtain ⟨h1, h2, h3⟩ := h
  refine ⟨rfl, Nat.zero_le _, ?_⟩
  rcases h3 with ⟨a, b, c⟩ | ⟨g, sp, hd, hg, hb, hc⟩
  · exact .inl ⟨a, rfl, c⟩
  · refine .inr ⟨g, pre ++ sp, hd, hg, hb, ?_⟩
    rw [List.length_append]; simp at hc h1 ⊢; omega
end Go.Mem
namespace Go.Proofs.Ytepmnhlfjidhjaa
open Go.RowKit Go.Mem

/-- what is held, and what is told, of bytes that came -/
def loopU (h : List UInt8) : List UInt8 × List (Nat × Nat) := if _hh : h = [] ∨ startU h = 0 then (h, []) else ((loopU (h.drop (frontU h).2)).1, frontU h :: (loopU (h.drop (frontU h).2)).2)
termination_by h.length
decreasing_by
  all_goals
    have := frontU_pos h
    have : 0 < h.length := List.length_pos_iff.2 (fun e => _hh (.inl e))
    rw [List.length_drop]; omega
theorem loopU_stop {h : List UInt8} (hh : h = [] ∨ startU h = 0) : loopU h = (h, []) := by rw [loopU]; exact dif_pos hh
theorem loopU_more {h : List UInt8} (hh : ¬ (h = [] ∨ startU h = 0)) : loopU h = ((loopU (h.drop (frontU h).2)).1, frontU h :: (loopU (h.drop (frontU h).2)).2) := by rw [loopU]; exact dif_neg hh
theorem loopU_held (h : List UInt8) : (loopU h).1.length ≤ 3 := by
  generalize hn : h.length = n
  induction n using Nat.strongRecOn generalizing h with
  | _ n ih =>
    by_cases hh : h = [] ∨ startU h = 0
    · rw [loopU_stop hh]
      rcases hh with rfl | h0
      · simp
      · by_cases hp : 0 < h.length
        · rcases startU_cases h hp with e | ⟨_, e⟩ | ⟨k, e, e1, _⟩
          · omega
          · exact e
          · omega
        · simp only; omega
    · rw [loopU_more hh]
      have h1 := frontU_pos h
      have h2 : 0 < h.length := List.length_pos_iff.2 (fun e => hh (.inl e))
      exact ih (h.drop (frontU h).2).length (by rw [List.length_drop]; omega) _ rfl

/-- a decoder in the blocks p and L's -/
structure Dec (w : World) (B p : Nat) (L : Option Addr) (n c : Nat) (h : List UInt8) : Prop where
  obj : Blk w p 128 [.slice L n c]
  own : OwnB w B 5 1 L n c (h.map B8)
  len : n = h.length
  low : B ≤ p
theorem Dec.below {w w' : World} {B p n c : Nat} {L : Option Addr} {h : List UInt8} (d : Dec w B p L n c h) (hb : Below w.heap.size w w') : Dec w' B p L n c h := ⟨d.obj.below hb d.obj.lt, d.own.below hb, d.len, d.low⟩
theorem Dec.drewN {w : World} {B p n c : Nat} {L : Option Addr} {h : List UInt8} (d : Dec w B p L n c h) (q : Nat) : Dec (w.drewN q) B p L n c h := ⟨d.obj, d.own, d.len, d.low⟩
/-- what a decoder's method may turn -/
structure DFr (p : Nat) (L L' : Option Addr) (w w' : World) : Prop where
  os : w'.os = w.os
  tape : w'.tape = w.tape
  output : w'.output = w.output
  size : w.heap.size ≤ w'.heap.size
  block : ∀ k, k < w.heap.size → k ≠ p → L ≠ some ⟨k, 0, none⟩ → w'.heap[k]? = w.heap[k]?
  lies : L' = L ∨ ∃ k, L' = some ⟨k, 0, none⟩ ∧ w.heap.size ≤ k
theorem DFr.refl (p : Nat) (L : Option Addr) (w : World) : DFr p L L w w := ⟨rfl, rfl, rfl, Nat.le_refl _, fun _ _ _ _ => rfl, .inl rfl⟩
theorem DFr.trans {p : Nat} {L L' L'' : Option Addr} {a b c : World} (h : DFr p L L' a b) (k : DFr p L' L'' b c) : DFr p L L'' a c :=
  ⟨k.os.trans h.os, k.tape.trans h.tape, k.output.trans h.output, Nat.le_trans h.size k.size, fun i hi hp hL => (k.block i (Nat.lt_of_lt_of_le hi h.size) hp (by
      rcases h.lies with e | ⟨g, e, hg⟩
      · rw [e]; exact hL
      · rw [e]; intro e2; injection e2 with e2; injection e2 with e3; omega)).trans (h.block i hi hp hL), by
    rcases k.lies with e | ⟨g, e, hg⟩
    · rw [e]; exact h.lies
    · exact .inr ⟨g, e, Nat.le_trans h.size hg⟩⟩
theorem DFr.of_below {p : Nat} {L : Option Addr} {w w' : World} (h : Below w.heap.size w w') : DFr p L L w w' := ⟨h.os, h.tape, h.output, h.size, fun i hi _ _ => h.block i hi, .inl rfl⟩
theorem DFr.drewN {p : Nat} {L L' : Option Addr} {w w' : World} (h : DFr p L L' w w') (n : Nat) : DFr p L L' w (w'.drewN n) := ⟨h.os, h.tape, h.output, h.size, h.block, h.lies⟩
theorem below_dfr {B p : Nat} {L L' : Option Addr} {a w w' : World} {n c : Nat} {h : List UInt8} (hb : Below B a w) (d : Dec w B p L n c h) (f : DFr p L L' w w') (hB : B ≤ w.heap.size) : Below B a w' :=
  hb.trans ⟨f.os, f.tape, f.output, f.size, fun k hk => f.block k (Nat.lt_of_lt_of_le hk hB) (by have := d.low; omega) (fun e => by
    rcases d.own.2.2 with ⟨e2, _⟩ | ⟨g, _, e2, hg, _⟩
    · rw [e] at e2; cases e2
    · rw [e] at e2; injection e2 with e2; injection e2 with e3; omega)⟩
theorem infoU8 : (Try.prog.info? 5).map (fun i => (i.zero, i.size, i.bytes)) = some (some (.int .u8 0), 1, 1) := by kernel_rfl

def NewDec (w : World) (e : Ending) (w' : World) : Prop := ∃ p, e = .returned (.pointer (some ⟨p, 0, none⟩)) ∧ Dec w' w.heap.size p none 0 0 [] ∧ Below w.heap.size w w'
set_option maxHeartbeats 800000 in
theorem dnew_calls (w : World) : Calls Try.prog 17 #[] w (NewDec w) := by
  go_enter Try.func17, Try.ntmps17
  go_wp2_with fail
  go_ret
  exact ⟨_, rfl, ⟨Blk.new w _ _, OwnB.nil _ _ _ _, rfl, Nat.le_refl _⟩, (Below.refl _ _).alloc (Nat.le_refl _) _⟩

def HeldEnds (w : World) (h : List UInt8) (e : Ending) (w' : World) : Prop := ∃ (D : Option Addr) (c : Nat), e = .returned (.slice D h.length c) ∧ OwnB w' w.heap.size 5 1 D h.length c (h.map B8) ∧ Below w.heap.size w w'
set_option maxHeartbeats 800000 in
theorem held_calls (B p n c : Nat) (L : Option Addr) (h : List UInt8) (w : World) (d : Dec w B p L n c h) (hn : n ≤ 4398046511104) :
    Calls Try.prog 19 #[.pointer (some ⟨p, 0, none⟩)] w (HeldEnds w h) := by
  have c0 := d.obj.cell 0
  simp only [List.getElem?_cons_zero] at c0
  have hsl := d.own.sl
  have hl := d.len
  subst hl
  obtain ⟨i0, hi, hz0, hz1, hz2⟩ := info_parts infoU8
  clear d
  go_enter Try.func19, Try.ntmps19
  go_wp2_with (at_builtin; refine wpList_append_ownK (o := ⟨some 7, _, _, _, _, _⟩) rfl (.const (.slice none 0 0)) (.tmp 6) 24 24 rfl 5 i0 (.int .u8 0) 1 1 Try.underlying24 hi hz0 hz1 hz2 rfl w.heap.size none 0 0 [] rfl (OwnB.nil _ _ _ _) (.slice L h.length c) rfl h.length (h.map B8) (srcSl Try.underlying24 (by simp) hsl (bytes_one h)) (by omega) (by omega) w (Below.refl _ _) (Nat.le_refl _) ?_)
  intro w3 D3 c3 HO3 HK3 hb3 hsz3
  have HFin : Hid (HeldEnds w h (.returned (.slice D3 h.length c3)) w3) := (show HeldEnds _ _ _ _ from ⟨D3, c3, rfl, by simpa using HO3.out, hb3⟩)
  clear HO3 HK3 hb3 hsz3
  go_wp2_with fail
  go_ret
  first | exact HFin.out | (simpa using HFin.out)

def OfEnds (w : World) (h : List UInt8) (e : Ending) (w' : World) : Prop := ∃ p L c, e = .returned (.tuple #[.pointer (some ⟨p, 0, none⟩), .int .i64 0]) ∧ Dec w' w.heap.size p L h.length c h ∧ Below w.heap.size w w'
set_option maxHeartbeats 1600000 in
theorem of_bad (h : List UInt8) (A : Option Addr) (n c : Nat) (w : World) (hl : h.length = n) (hmax : n ≤ 9223372036854775807) (hs : Sl w A (h.map B8)) (hp : 0 < n) (hb : startU h ≠ 0) :
    Calls Try.prog 24 #[.slice A n c] w fun e w' => e = .returned (.tuple #[.pointer none, .int .i64 4]) ∧ w = w' := by
  subst hl
  have HST := Lib.hid (start_calls h A h.length c w rfl hp (by omega) hs)
  have hd1 : decide ((0 : Int) < (h.length : Int)) = true := decide_eq_true (by omega)
  generalize startU h = R at HST hb
  have hd2 : (R != 0) = true := by simpa using hb
  clear hb hs
  go_enter Try.func24, Try.ntmps24
  go_wp2_with fail
  refine HST.out.mono ?_
  rintro e w1 ⟨rfl, rfl⟩
  go_wp2_with fail
  go_ret2
  exact ⟨rfl, rfl⟩
set_option maxHeartbeats 1600000 in
theorem of_ok (h : List UInt8) (A : Option Addr) (n c : Nat) (w : World) (hl : h.length = n) (hmax : n ≤ 4398046511104) (hs : Sl w A (h.map B8)) (hb : n = 0 ∨ startU h = 0) :
    Calls Try.prog 24 #[.slice A n c] w (OfEnds w h) := by
  subst hl
  obtain ⟨i0, hi, hz0, hz1, hz2⟩ := info_parts infoU8
  by_cases hp : 0 < h.length
  · have HST := Lib.hid (start_calls h A h.length c w rfl hp (by omega) hs)
    rw [show startU h = 0 from by rcases hb with e | e <;> first | exact e | omega] at HST
    have hd1 : decide ((0 : Int) < (h.length : Int)) = true := decide_eq_true (by omega)
    clear hb
    go_enter Try.func24, Try.ntmps24
    go_wp2_with fail
    refine HST.out.mono ?_
    rintro e w1 ⟨rfl, rfl⟩
    go_wp2_with (at_builtin; refine wpList_append_ownK (o := ⟨some 13, _, _, _, _, _⟩) rfl (.const (.slice none 0 0)) (.tmp 12) 24 24 rfl 5 i0 (.int .u8 0) 1 1 Try.underlying24 hi hz0 hz1 hz2 rfl w.heap.size none 0 0 [] rfl (OwnB.nil _ _ _ _) (.slice A h.length c) rfl h.length (h.map B8) (srcSl Try.underlying24 (by simp) hs (bytes_one h)) (by omega) (by omega) w (Below.refl _ _) (Nat.le_refl _) ?_)
    intro w3 D3 c3 HO3 HK3 hb3 hsz3
    have HFin : Hid (OfEnds w h (.returned (.tuple #[.pointer (some ⟨w3.heap.size, 0, none⟩), .int .i64 0])) (w3.alloc (.cells #[.slice D3 h.length c3] 128))) := (show OfEnds _ _ _ _ from ⟨_, D3, c3, rfl, ⟨Blk.new _ _ _, OwnB.alloc (by simpa using HO3.out) _, rfl, hb3.size⟩, hb3.alloc hb3.size _⟩)
    clear HO3 HK3 hb3 hsz3
    go_wp2_with fail
    go_ret2
    first | exact HFin.out | (simpa using HFin.out)
  · have hd1 : decide ((0 : Int) < (h.length : Int)) = false := decide_eq_false (by omega)
    clear hb
    go_enter Try.func24, Try.ntmps24
    go_wp2_with (at_builtin; refine wpList_append_ownK (o := ⟨some 13, _, _, _, _, _⟩) rfl (.const (.slice none 0 0)) (.tmp 12) 24 24 rfl 5 i0 (.int .u8 0) 1 1 Try.underlying24 hi hz0 hz1 hz2 rfl w.heap.size none 0 0 [] rfl (OwnB.nil _ _ _ _) (.slice A h.length c) rfl h.length (h.map B8) (srcSl Try.underlying24 (by simp) hs (bytes_one h)) (by omega) (by omega) w (Below.refl _ _) (Nat.le_refl _) ?_)
    intro w3 D3 c3 HO3 HK3 hb3 hsz3
    have HFin : Hid (OfEnds w h (.returned (.tuple #[.pointer (some ⟨w3.heap.size, 0, none⟩), .int .i64 0])) (w3.alloc (.cells #[.slice D3 h.length c3] 128))) := (show OfEnds _ _ _ _ from ⟨_, D3, c3, rfl, ⟨Blk.new _ _ _, OwnB.alloc (by simpa using HO3.out) _, rfl, hb3.size⟩, hb3.alloc hb3.size _⟩)
    clear HO3 HK3 hb3 hsz3
    go_wp2_with fail
    go_ret2
    first | exact HFin.out | (simpa using HFin.out)
end Go.Proofs.Ytepmnhlfjidhjaa
