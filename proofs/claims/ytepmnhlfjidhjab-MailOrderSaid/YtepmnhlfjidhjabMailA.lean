/-
  The contracts of a box of pairs.
-/
import Derived.Test.YtepmnhlfjidhjabMailB
namespace Go.Proofs.Ytepmnhlfjidhjab
open Go.RowKit Go.Mem Go.Conc

theorem fr3 (w : World) (z : Nat) (a b : Value) : Fr [z] w ((w.setCell ⟨z, 0, none⟩ a).setCell ⟨z, 1, none⟩ b) := ((Fr.refl _ _).set (by simp) a).set (by simp) b

set_option maxRecDepth 100000 in
theorem sendA_room (p c cap : Nat) (buf : List Value) (x y : Int) (w : World) (h : BoxAt w 82 p c cap buf false) (hf : buf.length < cap) :
    Calls Try.prog 27 #[.pointer (some ⟨p, 0, none⟩), .agg #[.int .i64 x, .int .i64 y]] w fun e w' => e = .returned (.bool true) ∧ BoxAt w' 82 p c cap (buf ++ [.agg #[.int .i64 x, .int .i64 y]]) false ∧ Fr [c] w w' := by
  have h0 := h.below ((Below.refl _ w).alloc (Nat.le_refl _) (.cells #[.int .i64 x, .int .i64 y] 53))
  have c0 := h0.cell0
  have c1 := h0.cell1
  have c2 := (Blk.new w 53 #[.int .i64 x, .int .i64 y]).cell 0
  have c3 := (Blk.new w 53 #[.int .i64 x, .int .i64 y]).cell 1
  simp only [List.getElem?_cons_zero, List.getElem?_cons_succ] at c2 c3
  have hF0 : Fr [c] w (w.alloc (.cells #[.int .i64 x, .int .i64 y] 53)) := (Fr.refl _ _).alloc _
  have h1 := h0
  obtain ⟨_, ⟨s, r, hc⟩, _⟩ := h0
  refine calls_of_loneTo fun cs => ?_
  have e : Frame.enter Try.prog 27 #[.pointer (some ⟨p, 0, none⟩), .agg #[.int .i64 x, .int .i64 y]] .normal = (base 27).at ⟨#[.pointer (some ⟨p, 0, none⟩), .agg #[.int .i64 x, .int .i64 y], undef, undef, undef, undef, undef, undef, undef, undef, undef, undef, undef, undef, undef, undef, undef], []⟩ [.code (Try.f27.body.getD .skip)] := by
    simp [Frame.enter, Frame.at, Try.func27, base, Try.f27]
  rw [e]
  refine LoneTo.goes (n := 28) ?_
  simp only [Try.f27, Option.getD_some]
  s_c stepG_seq
  s_reg
  s_op
  s_op
  s_c stepG_region_end
  s_c stepG_seq
  s_c stepG_seq
  s_reg
  s_op
  s_op
  s_op
  s_op
  s_c stepG_region_end
  s_cond false
  s_c stepG_skip
  s_c stepG_seq
  s_c stepG_seq
  s_reg
  s_op
  s_op
  s_op
  s_op
  s_c stepG_region_end
  s_reg
  s_op
  s_c stepG_region_end
  s_c stepG_seq
  s_reg
  s_stop
  refine LoneTo.step (step_lone_select_send_room (c := c) (cap := cap) (buf := buf.toArray) (s := s) (r := r) (tm := false) (stepG_comm (cases := #[scase c (.agg #[.int .i64 x, .int .i64 y]) (.agg #[.int .i64 0, .int .i64 0])]) (blocking := false) (shape := .select) (w' := w.alloc (.cells #[.int .i64 x, .int .i64 y] 53)) rfl rfl (by decide) (by simp [go_sem, execOp, scase, Act.eval])) hc (by simpa using hf)) ?_
  rw [Frame.finish_at]
  walk_nrm
  refine LoneTo.goes (n := 10) ?_
  s_op
  s_op
  s_c stepG_region_end
  s_c stepG_block
  s_cond true
  s_c stepG_seq
  s_reg
  s_op
  s_c stepG_region_end
  s_c stepG_ret'
  s_stop
  refine LoneTo.done ⟨.returned (.bool true), _, rfl, ⟨rfl, ?_⟩, rfl, rfl, rfl, rfl, _, Try.func27, by simp [results, Try.f27, Frame.at]⟩
  exact ⟨h1.chan (by simp; omega) (by simp), hF0.trans (fr_setChan _ _ _ _ _ _)⟩

set_option maxRecDepth 100000 in
theorem sendA_full (p c cap : Nat) (buf : List Value) (x y : Int) (w : World) (h : BoxAt w 82 p c cap buf false) (hf : cap ≤ buf.length) :
    Calls Try.prog 27 #[.pointer (some ⟨p, 0, none⟩), .agg #[.int .i64 x, .int .i64 y]] w fun e w' => e = .returned (.bool false) ∧ BoxAt w' 82 p c cap buf false ∧ Fr [c] w w' := by
  have h0 := h.below ((Below.refl _ w).alloc (Nat.le_refl _) (.cells #[.int .i64 x, .int .i64 y] 53))
  have c0 := h0.cell0
  have c1 := h0.cell1
  have c2 := (Blk.new w 53 #[.int .i64 x, .int .i64 y]).cell 0
  have c3 := (Blk.new w 53 #[.int .i64 x, .int .i64 y]).cell 1
  simp only [List.getElem?_cons_zero, List.getElem?_cons_succ] at c2 c3
  have hF0 : Fr [c] w (w.alloc (.cells #[.int .i64 x, .int .i64 y] 53)) := (Fr.refl _ _).alloc _
  have h1 := h0
  obtain ⟨_, ⟨s, r, hc⟩, _⟩ := h0
  refine calls_of_loneTo fun cs => ?_
  have e : Frame.enter Try.prog 27 #[.pointer (some ⟨p, 0, none⟩), .agg #[.int .i64 x, .int .i64 y]] .normal = (base 27).at ⟨#[.pointer (some ⟨p, 0, none⟩), .agg #[.int .i64 x, .int .i64 y], undef, undef, undef, undef, undef, undef, undef, undef, undef, undef, undef, undef, undef, undef, undef], []⟩ [.code (Try.f27.body.getD .skip)] := by
    simp [Frame.enter, Frame.at, Try.func27, base, Try.f27]
  rw [e]
  refine LoneTo.goes (n := 28) ?_
  simp only [Try.f27, Option.getD_some]
  s_c stepG_seq
  s_reg
  s_op
  s_op
  s_c stepG_region_end
  s_c stepG_seq
  s_c stepG_seq
  s_reg
  s_op
  s_op
  s_op
  s_op
  s_c stepG_region_end
  s_cond false
  s_c stepG_skip
  s_c stepG_seq
  s_c stepG_seq
  s_reg
  s_op
  s_op
  s_op
  s_op
  s_c stepG_region_end
  s_reg
  s_op
  s_c stepG_region_end
  s_c stepG_seq
  s_reg
  s_stop
  refine LoneTo.step (step_lone_select_send_full (c := c) (cap := cap) (buf := buf.toArray) (s := s) (r := r) (tm := false) (stepG_comm (cases := #[scase c (.agg #[.int .i64 x, .int .i64 y]) (.agg #[.int .i64 0, .int .i64 0])]) (blocking := false) (shape := .select) (w' := w.alloc (.cells #[.int .i64 x, .int .i64 y] 53)) rfl rfl (by decide) (by simp [go_sem, execOp, scase, Act.eval])) hc (by simpa using hf)) ?_
  rw [Frame.finish_at]
  walk_nrm
  refine LoneTo.goes (n := 10) ?_
  s_op
  s_op
  s_c stepG_region_end
  s_c stepG_block
  s_cond false
  s_c stepG_seq
  s_reg
  s_op
  s_c stepG_region_end
  s_c stepG_ret'
  s_stop
  refine LoneTo.done ⟨.returned (.bool false), _, rfl, ⟨rfl, ?_⟩, rfl, rfl, rfl, rfl, _, Try.func27, by simp [results, Try.f27, Frame.at]⟩
  exact ⟨h1, hF0⟩

set_option maxRecDepth 100000 in
theorem sendA_shut (p c cap : Nat) (buf : List Value) (x y : Int) (w : World) (h : BoxAt w 82 p c cap buf true) :
    Calls Try.prog 27 #[.pointer (some ⟨p, 0, none⟩), .agg #[.int .i64 x, .int .i64 y]] w fun e w' => e = .returned (.bool false) ∧ BoxAt w' 82 p c cap buf true ∧ Fr [c] w w' := by
  have h0 := h.below ((Below.refl _ w).alloc (Nat.le_refl _) (.cells #[.int .i64 x, .int .i64 y] 53))
  have c0 := h0.cell0
  have c1 := h0.cell1
  have c2 := (Blk.new w 53 #[.int .i64 x, .int .i64 y]).cell 0
  have c3 := (Blk.new w 53 #[.int .i64 x, .int .i64 y]).cell 1
  simp only [List.getElem?_cons_zero, List.getElem?_cons_succ] at c2 c3
  have hF0 : Fr [c] w (w.alloc (.cells #[.int .i64 x, .int .i64 y] 53)) := (Fr.refl _ _).alloc _
  have h1 := h0
  obtain ⟨_, ⟨s, r, hc⟩, _⟩ := h0
  refine calls_of_loneTo fun cs => ?_
  have e : Frame.enter Try.prog 27 #[.pointer (some ⟨p, 0, none⟩), .agg #[.int .i64 x, .int .i64 y]] .normal = (base 27).at ⟨#[.pointer (some ⟨p, 0, none⟩), .agg #[.int .i64 x, .int .i64 y], undef, undef, undef, undef, undef, undef, undef, undef, undef, undef, undef, undef, undef, undef, undef], []⟩ [.code (Try.f27.body.getD .skip)] := by
    simp [Frame.enter, Frame.at, Try.func27, base, Try.f27]
  rw [e]
  refine LoneTo.goes (n := 19) ?_
  simp only [Try.f27, Option.getD_some]
  s_c stepG_seq
  s_reg
  s_op
  s_op
  s_c stepG_region_end
  s_c stepG_seq
  s_c stepG_seq
  s_reg
  s_op
  s_op
  s_op
  s_op
  s_c stepG_region_end
  s_cond true
  s_c stepG_seq
  s_reg
  s_op
  s_c stepG_region_end
  s_c stepG_ret'
  s_stop
  refine LoneTo.done ⟨.returned (.bool false), _, rfl, ⟨rfl, ?_⟩, rfl, rfl, rfl, rfl, _, Try.func27, by simp [results, Try.f27, Frame.at]⟩
  exact ⟨h1, hF0⟩

set_option maxRecDepth 100000 in
theorem recvA_some (p c cap : Nat) (buf : List Value) (x y : Int) (cl : Bool) (w : World) (h : BoxAt w 82 p c cap (.agg #[.int .i64 x, .int .i64 y] :: buf) cl) :
    Calls Try.prog 29 #[.pointer (some ⟨p, 0, none⟩)] w fun e w' => e = .returned (.tuple #[.agg #[.int .i64 x, .int .i64 y], .bool true]) ∧ BoxAt w' 82 p c cap buf cl ∧ Fr [c] w w' := by
  have h0 := h.below ((Below.refl _ w).alloc (Nat.le_refl _) (.cells #[.int .i64 0, .int .i64 0] 53))
  have c0 := h0.cell0
  have c1 := h0.cell1
  have hF0 : Fr [c] w (w.alloc (.cells #[.int .i64 0, .int .i64 0] 53)) := (Fr.refl _ _).alloc _
  have h1 := h0
  obtain ⟨_, ⟨s, r, hc⟩, hcap⟩ := h0
  refine calls_of_loneTo fun cs => ?_
  have e : Frame.enter Try.prog 29 #[.pointer (some ⟨p, 0, none⟩)] .normal = (base 29).at ⟨#[.pointer (some ⟨p, 0, none⟩), undef, undef, undef, undef, undef, undef, undef, undef, undef, undef, undef, undef, undef, undef, undef], []⟩ [.code (Try.f29.body.getD .skip)] := by
    simp [Frame.enter, Frame.at, Try.func29, base, Try.f29]
  rw [e]
  refine LoneTo.goes (n := 14) ?_
  simp only [Try.f29, Option.getD_some]
  s_c stepG_seq
  s_reg
  s_op
  s_op
  s_c stepG_region_end
  s_c stepG_seq
  s_reg
  s_op
  s_op
  s_op
  s_op
  s_c stepG_region_end
  s_c stepG_seq
  s_reg
  s_stop
  refine LoneTo.step (step_lone_select_recv_buf (c := c) (cap := cap) (buf := (.agg #[.int .i64 x, .int .i64 y] :: buf).toArray) (closed := false) (z := (.agg #[.int .i64 0, .int .i64 0])) (s := s) (r := r) (tm := false) (stepG_comm (cases := #[rcase c (.agg #[.int .i64 0, .int .i64 0])]) (blocking := false) (shape := .select) (w' := w.alloc (.cells #[.int .i64 0, .int .i64 0] 53)) rfl rfl (by decide) (by simp [go_sem, execOp, rcase, Act.eval])) hc (by simp)) ?_
  rw [Frame.finish_at]
  walk_nrm
  have h2 : BoxAt ((w.alloc (.cells #[.int .i64 0, .int .i64 0] 53)).setChan c cap ((List.toArray (.agg #[.int .i64 x, .int .i64 y] :: buf)).extract 1 (List.toArray (.agg #[.int .i64 x, .int .i64 y] :: buf)).size) false s (r + 1) false) 82 p c cap buf cl := h1.chan (by simp at hcap; omega) (by simp)
  have hF2 : Fr [c] w ((w.alloc (.cells #[.int .i64 0, .int .i64 0] 53)).setChan c cap ((List.toArray (.agg #[.int .i64 x, .int .i64 y] :: buf)).extract 1 (List.toArray (.agg #[.int .i64 x, .int .i64 y] :: buf)).size) false s (r + 1) false) := hF0.trans (fr_setChan _ _ _ _ _ _)
  have hblk : Blk ((w.alloc (.cells #[.int .i64 0, .int .i64 0] 53)).setChan c cap ((List.toArray (.agg #[.int .i64 x, .int .i64 y] :: buf)).extract 1 (List.toArray (.agg #[.int .i64 x, .int .i64 y] :: buf)).size) false s (r + 1) false) w.heap.size 53 [.int .i64 0, .int .i64 0] := (Blk.new w 53 #[.int .i64 0, .int .i64 0]).fr (fr_setChan _ _ _ _ _ _) (by have := h.clt; simp; omega)
  have hpn : p ≠ w.heap.size := by have := h.plt; omega
  have hcn : c ≠ w.heap.size := by have := h.clt; omega
  have hsz : ((w.alloc (.cells #[.int .i64 0, .int .i64 0] 53)).setChan c cap ((List.toArray (.agg #[.int .i64 x, .int .i64 y] :: buf)).extract 1 (List.toArray (.agg #[.int .i64 x, .int .i64 y] :: buf)).size) false s (r + 1) false).heap.size = w.heap.size + 1 := by rw [size_setChan]; simp
  generalize ((w.alloc (.cells #[.int .i64 0, .int .i64 0] 53)).setChan c cap ((List.toArray (.agg #[.int .i64 x, .int .i64 y] :: buf)).extract 1 (List.toArray (.agg #[.int .i64 x, .int .i64 y] :: buf)).size) false s (r + 1) false) = w2 at *
  have d0 := hblk.cell 0
  have d1 := hblk.cell 1
  have g0 := hblk.frozen 0
  have g1 := hblk.frozen 1
  simp only [List.getElem?_cons_zero, List.getElem?_cons_succ] at d0 d1
  generalize hz : w.heap.size = z at *
  refine LoneTo.goes (n := 18) ?_
  s_op
  s_op
  s_c stepG_region_end
  s_c stepG_block
  s_cond true
  s_c stepG_seq
  s_reg
  s_op
  s_op
  s_op
  s_c stepG_region_end
  s_c stepG_seq
  s_reg
  s_op
  s_op
  s_op
  s_c stepG_region_end
  s_c stepG_ret'
  s_stop
  refine LoneTo.done ⟨.returned (.tuple #[.agg #[.int .i64 x, .int .i64 y], .bool true]), _, rfl, ⟨rfl, ?_⟩, rfl, rfl, rfl, rfl, _, Try.func29, ?_⟩
  · refine ⟨(h2.fr (fr3 _ _ _ _) (by simpa using hpn) (by simpa using hcn)).below ((Below.refl _ _).alloc (Nat.le_refl _) _), ?_⟩
    have f3 := (fr3 w2 z (.int .i64 x) (.int .i64 y)).alloc (.cells #[.int .i64 x, .int .i64 y] 53)
    exact ⟨f3.os.trans hF2.os, f3.tape.trans hF2.tape, f3.output.trans hF2.output, Nat.le_trans hF2.size f3.size, fun k hk hn => (f3.block k (Nat.lt_of_lt_of_le hk hF2.size) (by simp; omega)).trans (hF2.block k hk hn)⟩
  · have k0 : Blk _ z 53 [.int .i64 x, .int .i64 y] := (((hblk.set_ 0 (.int .i64 x)).set_ 1 (.int .i64 y)).alloc (.cells #[.int .i64 x, .int .i64 y] 53))
    have k1 := k0.cell 0
    have k2 := k0.cell 1
    simp only [List.getElem?_cons_zero, List.getElem?_cons_succ] at k1 k2
    simp [results, Try.f29, Frame.at, go_sem, k1, k2]
set_option maxRecDepth 100000 in
theorem recvA_none (p c cap : Nat) (cl : Bool) (w : World) (h : BoxAt w 82 p c cap [] cl) :
    Calls Try.prog 29 #[.pointer (some ⟨p, 0, none⟩)] w fun e w' => e = .returned (.tuple #[.agg #[.int .i64 0, .int .i64 0], .bool false]) ∧ BoxAt w' 82 p c cap [] cl ∧ Fr [c] w w' := by
  have h0 := h.below ((Below.refl _ w).alloc (Nat.le_refl _) (.cells #[.int .i64 0, .int .i64 0] 53))
  have c0 := h0.cell0
  have c1 := h0.cell1
  have hF0 : Fr [c] w (w.alloc (.cells #[.int .i64 0, .int .i64 0] 53)) := (Fr.refl _ _).alloc _
  have h1 := h0
  obtain ⟨_, ⟨s, r, hc⟩, hcap⟩ := h0
  refine calls_of_loneTo fun cs => ?_
  have e : Frame.enter Try.prog 29 #[.pointer (some ⟨p, 0, none⟩)] .normal = (base 29).at ⟨#[.pointer (some ⟨p, 0, none⟩), undef, undef, undef, undef, undef, undef, undef, undef, undef, undef, undef, undef, undef, undef, undef], []⟩ [.code (Try.f29.body.getD .skip)] := by
    simp [Frame.enter, Frame.at, Try.func29, base, Try.f29]
  rw [e]
  refine LoneTo.goes (n := 14) ?_
  simp only [Try.f29, Option.getD_some]
  s_c stepG_seq
  s_reg
  s_op
  s_op
  s_c stepG_region_end
  s_c stepG_seq
  s_reg
  s_op
  s_op
  s_op
  s_op
  s_c stepG_region_end
  s_c stepG_seq
  s_reg
  s_stop
  refine LoneTo.step (step_lone_select_default (c := c) (cap := cap) (z := (.agg #[.int .i64 0, .int .i64 0])) (s := s) (r := r) (tm := false) (stepG_comm (cases := #[rcase c (.agg #[.int .i64 0, .int .i64 0])]) (blocking := false) (shape := .select) (w' := w.alloc (.cells #[.int .i64 0, .int .i64 0] 53)) rfl rfl (by decide) (by simp [go_sem, execOp, rcase, Act.eval])) hc) ?_
  rw [Frame.finish_at]
  walk_nrm
  have h2 := h1
  have hF2 := hF0
  have hblk := Blk.new w 53 #[.int .i64 0, .int .i64 0]
  have hpn : p ≠ w.heap.size := by have := h.plt; omega
  have hcn : c ≠ w.heap.size := by have := h.clt; omega
  have hsz : (w.alloc (.cells #[.int .i64 0, .int .i64 0] 53)).heap.size = w.heap.size + 1 := by simp
  clear hF0 h1 hc c0 c1 hcap
  generalize (w.alloc (.cells #[.int .i64 0, .int .i64 0] 53)) = w2 at *
  have d0 := hblk.cell 0
  have d1 := hblk.cell 1
  have g0 := hblk.frozen 0
  have g1 := hblk.frozen 1
  simp only [List.getElem?_cons_zero, List.getElem?_cons_succ] at d0 d1
  generalize hz : w.heap.size = z at *
  refine LoneTo.goes (n := 16) ?_
  s_op
  s_op
  s_c stepG_region_end
  s_c stepG_block
  s_cond false
  s_c stepG_seq
  s_reg
  s_op
  s_c stepG_region_end
  s_c stepG_seq
  s_reg
  s_op
  s_op
  s_op
  s_c stepG_region_end
  s_c stepG_ret'
  s_stop
  refine LoneTo.done ⟨.returned (.tuple #[.agg #[.int .i64 0, .int .i64 0], .bool false]), _, rfl, ⟨rfl, ?_⟩, rfl, rfl, rfl, rfl, _, Try.func29, ?_⟩
  · refine ⟨(h2.fr (fr3 _ _ _ _) (by simpa using hpn) (by simpa using hcn)).below ((Below.refl _ _).alloc (Nat.le_refl _) _), ?_⟩
    have f3 := (fr3 w2 z (.int .i64 0) (.int .i64 0)).alloc (.cells #[.int .i64 0, .int .i64 0] 53)
    exact ⟨f3.os.trans hF2.os, f3.tape.trans hF2.tape, f3.output.trans hF2.output, Nat.le_trans hF2.size f3.size, fun k hk hn => (f3.block k (Nat.lt_of_lt_of_le hk hF2.size) (by simp; omega)).trans (hF2.block k hk hn)⟩
  · have k0 : Blk _ z 53 [.int .i64 0, .int .i64 0] := (((hblk.set_ 0 (.int .i64 0)).set_ 1 (.int .i64 0)).alloc (.cells #[.int .i64 0, .int .i64 0] 53))
    have k1 := k0.cell 0
    have k2 := k0.cell 1
    simp only [List.getElem?_cons_zero, List.getElem?_cons_succ] at k1 k2
    simp [results, Try.f29, Frame.at, go_sem, k1, k2]
end Go.Proofs.Ytepmnhlfjidhjab
