/-
  'make([]byte, l, c)': a new block of zeros.
-/
import Derived.Test.YtbmgeomndfodpaaMem
import Derived.Laws.MakeOwn
namespace Go.Proofs.Ytbmgeomndfodpaa
open Go.RowKit Go.Mem
theorem infoMB : (Try.prog.info? 5).map (fun i => (i.zero, i.size, i.bytes)) = some (some (.int .u8 0), 1, 1) := by kernel_rfl
/-- zeros -/
def zerosB (n : Nat) : Array Value := (List.replicate n (Value.int .u8 0)).toArray
theorem zerosB_list (n : Nat) : (zerosB n).toList = List.replicate n (Value.int .u8 0) := rfl
theorem zerosB_map (n : Nat) : (zerosB n).toList = (List.replicate n (0 : UInt8)).map B8 := by rw [List.map_replicate]; rfl
theorem made_zeros (n : Nat) : madeCells (Value.int .u8 0).cells (n * 1) = zerosB n := by
  apply Array.ext'
  rw [zerosB_list]
  apply List.ext_getElem
  · simp [madeCells]
  · intro i h1 h2; simp [madeCells, Value.cells, Nat.mod_one]
theorem mkB (l c : Nat) (hlc : l ≤ c) (hc : c ≤ 140737488355328) (u : World) : (Instr.makeSlice 27 (.int .i64 (l : Int)) (.int .i64 (c : Int))).run Try.prog u =
      .ok (.slice (some ⟨u.heap.size, 0, none⟩) l c) (u.alloc (.cells (zerosB c) 5)) := by
  obtain ⟨i0, hi, hz0, hz1, hz2⟩ := info_parts infoMB
  have h := run_make (P := Try.prog) u 27 5 i0 (Value.int .u8 0) Try.underlying27 hi hz0 .i64 .i64 (l : Int) (c : Int) (by omega) (by omega) (by rw [hz2]; omega) (by omega)
  rw [Int.toNat_natCast, Int.toNat_natCast, hz1, made_zeros] at h
  exact h
end Go.Proofs.Ytbmgeomndfodpaa
