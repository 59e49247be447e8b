/-
  What the laws of layer 1 share: from the listed tables to the walks' fact; the world of the witness.
-/
import Derived.Test.YtenhbjcamkbffaaDoorOn
import Derived.ProofKit
import Derived.OpenShut
import Derived.Deep.DeepHandedRow
import Derived.Lib.LaidTab
import Derived.LaidMore
import Derived.Stop.LaidErr
namespace Go.Proofs.YtenhbjcamkbffaaDoor
open Go.ChangeShapes Go.WideShapes Go.ChangeAt Go.RowKit Go.Mem

theorem gLow : Tryd.prog.globalNamed "spoor/sum.low" = some 0 := by kernel_rfl
theorem gHigh : Tryd.prog.globalNamed "spoor/sum.high" = some 1 := by kernel_rfl
theorem gLowT : (Tryd.prog.globals[0]?).map (·.type) = some 56 := by kernel_rfl
theorem gHighT : (Tryd.prog.globals[1]?).map (·.type) = some 56 := by kernel_rfl
theorem cellsT : Tryd.prog.cellsOf 56 = 16 := by kernel_rfl
theorem cellsE : Tryd.prog.cellsOf 22 = 1 := by kernel_rfl
def lowC : Array Int := #[0, 4067132163, 3778769143, 324072436, 3348797215, 904991772, 648144872, 3570033899, 2329499855, 2024987596, 1809983544, 2575936315, 1296289744, 3207089363, 2893594407, 1578318884]
def highC : Array Int := #[0, 274646895, 549293790, 820201905, 1098587580, 1361435347, 1640403810, 1905808397, 2197175160, 2460548119, 2722870694, 2987750089, 3280807620, 3553878443, 3811616794, 4084100981]
def lowL : List Int := (List.range 16).map fun j => ((Crc.low j).toNat : Int)
def highL : List Int := (List.range 16).map fun j => ((Crc.high j).toNat : Int)
theorem low_eq {H : Type} : (Rows.laid_spoor_sum_low : DataW H) = Lib.tabData .u32 lowL := by
  have h : lowL = [0, 4067132163, 3778769143, 324072436, 3348797215, 904991772, 648144872, 3570033899, 2329499855, 2024987596, 1809983544, 2575936315, 1296289744, 3207089363, 2893594407, 1578318884] := by decide +kernel
  rw [h]; rfl
theorem high_eq {H : Type} : (Rows.laid_spoor_sum_high : DataW H) = Lib.tabData .u32 highL := by
  have h : highL = [0, 274646895, 549293790, 820201905, 1098587580, 1361435347, 1640403810, 1905808397, 2197175160, 2460548119, 2722870694, 2987750089, 3280807620, 3553878443, 3811616794, 4084100981] := by decide +kernel
  rw [h]; rfl
theorem lowL_at (j : Nat) (hj : j < 16) : lowL.getD j 0 = ((Crc.low j).toNat : Int) := by simp [lowL, List.getD, hj]
theorem highL_at (j : Nat) (hj : j < 16) : highL.getD j 0 = ((Crc.high j).toNat : Int) := by simp [highL, List.getD, hj]

theorem tabs_of {W : World} (h : laidMetH Tryd.prog [("spoor/sum.low", Rows.laid_spoor_sum_low), ("spoor/sum.high", Rows.laid_spoor_sum_high)] W) : Tabs W := by
  rw [low_eq, high_eq] at h
  have h1 := Lib.tabIs_of_head gLow gLowT Tryd.underlying56 Tryd.underlying22 cellsE cellsT h
  have h2 := Lib.tabIs_of_head gHigh gHighT Tryd.underlying56 Tryd.underlying22 cellsE cellsT (laidMet.tail h)
  exact ⟨fun j hj => by rw [← lowL_at j hj]; exact h1.cell gLow j (by simpa [lowL] using hj), fun j hj => by rw [← highL_at j hj]; exact h2.cell gHigh j (by simpa [highL] using hj)⟩

/-- a block's cells laid -/
def layC (cs : Array Value) : Obj → Obj
  | .cells _ t frozen => .cells cs t frozen
  | o => o
/-- A WORLD FOR THE WITNESSES: the settled one, the two tables holding what their initialisers lay. -/
noncomputable def laidWorld (os : Os) : World :=
  { World.holding Tryd.prog os ⟨#[], #[], []⟩ with heap := ((World.holding Tryd.prog os ⟨#[], #[], []⟩).heap.modify 0 (layC (lowC.map (Value.int .u32)))).modify 1 (layC (highC.map (Value.int .u32))) }
end Go.Proofs.YtenhbjcamkbffaaDoor
