/-
  The contracts of New, Len, Close, Closed of a box of numbers.
-/
import Derived.Test.YtepmnhlfjidhjabMailB
namespace Go.Proofs.Ytepmnhlfjidhjab
open Go.RowKit Go.Mem Go.Conc

theorem bytesCI : ∃ i, Try.prog.info? 3 = some i ∧ i.bytes = 8 := by
  have h : (Try.prog.info? 3).map (·.bytes) = some 8 := by kernel_rfl
  obtain ⟨i, hi, hb⟩ := Option.map_eq_some_iff.1 h
  exact ⟨i, hi, hb⟩
theorem mkCI (n : Nat) (hn : n ≤ 4096) (w : World) : (Instr.makeChan 71 (.int .i64 (n : Int))).run Try.prog w = .ok (.chan (some w.heap.size)) (w.alloc (.chan n #[] false 0 0 false)) := by
  obtain ⟨i, hi, hb⟩ := bytesCI
  exact run_makeChan (P := Try.prog) (w := w) Try.underlying71 hi .i64 n (by omega) (by rw [hb]; omega)

/-- a new box -/
def NewI (w : World) (n : Nat) (e : Ending) (w' : World) : Prop := ∃ p c, e = .returned (.tuple #[.pointer (some ⟨p, 0, none⟩), .int .i64 0]) ∧ BoxAt w' 73 p c n [] false ∧ w.heap.size ≤ p ∧ w.heap.size ≤ c ∧ Below w.heap.size w w'
set_option maxRecDepth 100000 in
theorem newI_ok (n : Nat) (h1 : 1 ≤ n) (h2 : n ≤ 4096) (w : World) :
    Calls Try.prog 13 #[.int .i64 (n : Int)] w (NewI w n) := by
  have hmk := mkCI n h2
  have d1 : decide ((n : Int) < 1) = false := decide_eq_false (by omega)
  have d2 : decide (4096 < (n : Int)) = false := decide_eq_false (by omega)
  have HFin : Hid (NewI w n (.returned (.tuple #[.pointer (some ⟨w.heap.size + 1, 0, none⟩), .int .i64 0])) ((w.alloc (.chan n #[] false 0 0 false)).alloc (.cells #[.chan (some w.heap.size), .bool false] 73))) := (show NewI _ _ _ _ from by
    refine ⟨w.heap.size + 1, w.heap.size, rfl, ⟨?_, ⟨0, 0, ?_⟩, by simp⟩, by omega, Nat.le_refl _, ((Below.refl _ w).alloc (Nat.le_refl _) _).alloc (by simp) _⟩
    · have h := Blk.new (w.alloc (.chan n #[] false 0 0 false)) 73 #[.chan (some w.heap.size), .bool false]
      simpa using h
    · rw [Below.heap_alloc _ _ _ (by simp)]
      show (w.heap.push _)[w.heap.size]? = _
      simp)
  clear h1 h2
  go_enter Try.func13, Try.ntmps13
  go_wp2_with fail
  go_ret2
  exact HFin.out
set_option maxRecDepth 100000 in
theorem newI_bad (n : Int) (h : n < 1 ∨ 4096 < n) (w : World) :
    Calls Try.prog 13 #[.int .i64 n] w fun e w' => e = .returned (.tuple #[.pointer none, .int .i64 1]) ∧ w' = w := by
  by_cases h1 : n < 1
  · have d1 : decide (n < 1) = true := decide_eq_true h1
    clear h
    go_enter Try.func13, Try.ntmps13
    go_wp2_with fail
    go_ret2
    exact ⟨rfl, rfl⟩
  · have d1 : decide (n < 1) = false := decide_eq_false h1
    have d2 : decide (4096 < n) = true := decide_eq_true (by omega)
    clear h
    go_enter Try.func13, Try.ntmps13
    go_wp2_with fail
    go_ret2
    exact ⟨rfl, rfl⟩

set_option maxRecDepth 100000 in
theorem closeI_calls (p c cap : Nat) (buf : List Value) (cl : Bool) (w : World) (h : BoxAt w 73 p c cap buf cl) :
    Calls Try.prog 16 #[.pointer (some ⟨p, 0, none⟩)] w fun e w' => e = .returned (.tuple #[]) ∧ BoxAt w' 73 p c cap buf true ∧ Fr [p] w w' := by
  have c1 := h.cell1
  have f1 := h.1.frozen 1
  have HFin : Hid (BoxAt (w.setCell ⟨p, 1, none⟩ (.bool true)) 73 p c cap buf true ∧ Fr [p] w (w.setCell ⟨p, 1, none⟩ (.bool true))) := (show _ ∧ _ from by
    have hf : Fr [p] w (w.setCell ⟨p, 1, none⟩ (.bool true)) := (Fr.refl _ _).set (by simp) _
    have hne := h.ne
    have hlt := h.clt
    refine ⟨⟨h.1.set_ 1 (.bool true), ?_, h.2.2⟩, hf⟩
    obtain ⟨_, ⟨s, r, hc⟩, _⟩ := h
    exact ⟨s, r, (hf.block c hlt (by simpa using Ne.symm hne)).trans hc⟩)
  clear h
  go_enter Try.func16, Try.ntmps16
  go_wp2_with fail
  go_end0
  exact ⟨rfl, HFin.out⟩
set_option maxRecDepth 100000 in
theorem closedI_calls (p c cap : Nat) (buf : List Value) (cl : Bool) (w : World) (h : BoxAt w 73 p c cap buf cl) :
    Calls Try.prog 19 #[.pointer (some ⟨p, 0, none⟩)] w fun e w' => e = .returned (.bool cl) ∧ w' = w := by
  have c1 := h.cell1
  clear h
  go_enter Try.func19, Try.ntmps19
  go_wp2_with fail
  go_ret
  exact ⟨rfl, rfl⟩
end Go.Proofs.Ytepmnhlfjidhjab
