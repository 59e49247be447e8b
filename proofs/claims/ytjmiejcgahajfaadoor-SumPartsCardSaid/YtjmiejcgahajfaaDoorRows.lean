/-
  NARROWER THAN 'FOR EVERY INPUT', by the rows' own cells (each row's printed sentence says how): SumRuns: laid · SumTells: laid · SumParts: laid · SumAdds: laid · SumBursts: laid.
  DERIVED. THE GIVEN ROWS OF THIS SEAT. 5 by the template 'for every input the law returns true; each argument reads behind the call as it read before'; 0 by the template 'total and deterministic' (their statements: YtjmiejcgahajfaaDoorTotals.lean).
  GIVEN WITH THE SEED: the statements are not yours to turn. If you find one false, say at which input.
  Laid BY PROGRAM, IN A SANDBOX (cutbox-rows.mjs): the forced cells as the released guide's own fill.sh prints them over the translation 949aee8f6613dfdd… (all of the seat's roots in one cut). By AI agents, Wed Nov 11 2026. No macro, syntax, notation, axiom, sorry.
-/
import Derived.Test.YtjmiejcgahajfaaDoorChecked
import GoSem.Claim
import GoSem.ClaimJoined
import GoSem.ClaimMapViews
import Derived.JoinedTies
import Derived.KernelRfl
namespace Go.Proofs.YtjmiejcgahajfaaDoor
/- THE CELL 'sum', in the pinned program and in every row, IS THE sha256 OF THE DUMP (.gsa) THAT YtjmiejcgahajfaaDoorProg.lean LOADS. Nothing in Lean hashes anything: it is a label: what it is worth is what the hold of that sum in a sandbox is worth. -/
noncomputable def Tryd.pinned : Pinned := { name := "ytjmiejcgahajfaadoor", sum := "949aee8f6613dfdd7c523dbb9d521c91bdf1a19330484010b3aef36276328bcf", checked := Tryd.checked }
namespace Rows
def none {H : Type} : Left H := { results := [], args := [] }

/- WHAT THE LISTED PACKAGE-LEVEL VARIABLES READ AS WHEN THE CALL BEGINS. Each datum BY PROGRAM (the guide's laid-datum.mjs) off the statement by which the dump's own 'gosem.cut.vars' lays the variable. In a bare row this is a premise. The card (YtjmiejcgahajfaaDoorCards.lean) ties it to the program's text. -/
def laid_spoor_sum_low {H : Type} : DataW H := .agg [.lit (.int .u32 0), .lit (.int .u32 4067132163), .lit (.int .u32 3778769143), .lit (.int .u32 324072436), .lit (.int .u32 3348797215), .lit (.int .u32 904991772), .lit (.int .u32 648144872), .lit (.int .u32 3570033899), .lit (.int .u32 2329499855), .lit (.int .u32 2024987596), .lit (.int .u32 1809983544), .lit (.int .u32 2575936315), .lit (.int .u32 1296289744), .lit (.int .u32 3207089363), .lit (.int .u32 2893594407), .lit (.int .u32 1578318884)]
def laid_spoor_sum_high {H : Type} : DataW H := .agg [.lit (.int .u32 0), .lit (.int .u32 274646895), .lit (.int .u32 549293790), .lit (.int .u32 820201905), .lit (.int .u32 1098587580), .lit (.int .u32 1361435347), .lit (.int .u32 1640403810), .lit (.int .u32 1905808397), .lit (.int .u32 2197175160), .lit (.int .u32 2460548119), .lit (.int .u32 2722870694), .lit (.int .u32 2987750089), .lit (.int .u32 3280807620), .lit (.int .u32 3553878443), .lit (.int .u32 3811616794), .lit (.int .u32 4084100981)]

/-- 'spoorlaw1.SumRuns': WHATEVER THE INPUT: true; the input reads as it did. -/
def sumRunsSpec : ChangeSpec := { name := "sumRuns", fn := fun _ => fun
  | [] => { results := [.lit (.bool true)], args := [] }
  | _ => none }
def sumRunsRow : OpenClaim := { program := "ytjmiejcgahajfaadoor", sum := "949aee8f6613dfdd7c523dbb9d521c91bdf1a19330484010b3aef36276328bcf", func := "spoor/spoorlaw1.SumRuns", spec := "sumRuns", named := ["spoor/sum.low", "spoor/sum.high"], apart := false, laid := [("spoor/sum.low", laid_spoor_sum_low), ("spoor/sum.high", laid_spoor_sum_high)] }
def SumRunsSaid : Prop := sumRunsRow.holds Tryd.pinned (OpenSpec.ofChange sumRunsSpec)

/-- ITS FALSE NEIGHBOUR: 'it returns false'. Refute it at one input. -/
def sumRunsWrong : ChangeSpec := { name := "sumRuns", fn := fun _ => fun
  | [] => { results := [.lit (.bool false)], args := [] }
  | _ => none }
def SumRunsWrongFalsely : Prop := sumRunsRow.holds Tryd.pinned (OpenSpec.ofChange sumRunsWrong)

/-- 'spoorlaw1.SumTells': WHATEVER THE INPUT: true; the input reads as it did. -/
def sumTellsSpec : ChangeSpec := { name := "sumTells", fn := fun _ => fun
  | [d1, d2, d3] => { results := [.lit (.bool true)], args := [d1, d2, d3] }
  | _ => none }
def sumTellsRow : OpenClaim := { program := "ytjmiejcgahajfaadoor", sum := "949aee8f6613dfdd7c523dbb9d521c91bdf1a19330484010b3aef36276328bcf", func := "spoor/spoorlaw1.SumTells", spec := "sumTells", named := ["spoor/sum.low", "spoor/sum.high"], apart := false, laid := [("spoor/sum.low", laid_spoor_sum_low), ("spoor/sum.high", laid_spoor_sum_high)] }
def SumTellsSaid : Prop := sumTellsRow.holds Tryd.pinned (OpenSpec.ofChange sumTellsSpec)

/-- ITS FALSE NEIGHBOUR: 'it returns false'. Refute it at one input. -/
def sumTellsWrong : ChangeSpec := { name := "sumTells", fn := fun _ => fun
  | [d1, d2, d3] => { results := [.lit (.bool false)], args := [d1, d2, d3] }
  | _ => none }
def SumTellsWrongFalsely : Prop := sumTellsRow.holds Tryd.pinned (OpenSpec.ofChange sumTellsWrong)

/-- 'spoorlaw1.SumParts': WHATEVER THE INPUT: true; the input reads as it did. -/
def sumPartsSpec : ChangeSpec := { name := "sumParts", fn := fun _ => fun
  | [d1, d2, d3] => { results := [.lit (.bool true)], args := [d1, d2, d3] }
  | _ => none }
def sumPartsRow : OpenClaim := { program := "ytjmiejcgahajfaadoor", sum := "949aee8f6613dfdd7c523dbb9d521c91bdf1a19330484010b3aef36276328bcf", func := "spoor/spoorlaw1.SumParts", spec := "sumParts", named := ["spoor/sum.low", "spoor/sum.high"], apart := false, laid := [("spoor/sum.low", laid_spoor_sum_low), ("spoor/sum.high", laid_spoor_sum_high)] }
def SumPartsSaid : Prop := sumPartsRow.holds Tryd.pinned (OpenSpec.ofChange sumPartsSpec)

/-- ITS FALSE NEIGHBOUR: 'it returns false'. Refute it at one input. -/
def sumPartsWrong : ChangeSpec := { name := "sumParts", fn := fun _ => fun
  | [d1, d2, d3] => { results := [.lit (.bool false)], args := [d1, d2, d3] }
  | _ => none }
def SumPartsWrongFalsely : Prop := sumPartsRow.holds Tryd.pinned (OpenSpec.ofChange sumPartsWrong)

/-- 'spoorlaw1.SumAdds': WHATEVER THE INPUT: true; the input reads as it did. -/
def sumAddsSpec : ChangeSpec := { name := "sumAdds", fn := fun _ => fun
  | [d] => { results := [.lit (.bool true)], args := [d] }
  | _ => none }
def sumAddsRow : OpenClaim := { program := "ytjmiejcgahajfaadoor", sum := "949aee8f6613dfdd7c523dbb9d521c91bdf1a19330484010b3aef36276328bcf", func := "spoor/spoorlaw1.SumAdds", spec := "sumAdds", named := ["spoor/sum.low", "spoor/sum.high"], apart := false, laid := [("spoor/sum.low", laid_spoor_sum_low), ("spoor/sum.high", laid_spoor_sum_high)] }
def SumAddsSaid : Prop := sumAddsRow.holds Tryd.pinned (OpenSpec.ofChange sumAddsSpec)

/-- ITS FALSE NEIGHBOUR: 'it returns false'. Refute it at one input. -/
def sumAddsWrong : ChangeSpec := { name := "sumAdds", fn := fun _ => fun
  | [d] => { results := [.lit (.bool false)], args := [d] }
  | _ => none }
def SumAddsWrongFalsely : Prop := sumAddsRow.holds Tryd.pinned (OpenSpec.ofChange sumAddsWrong)

/-- 'spoorlaw1.SumBursts': WHATEVER THE INPUT: true; the input reads as it did. -/
def sumBurstsSpec : ChangeSpec := { name := "sumBursts", fn := fun _ => fun
  | [d1, d2, d3] => { results := [.lit (.bool true)], args := [d1, d2, d3] }
  | _ => none }
def sumBurstsRow : OpenClaim := { program := "ytjmiejcgahajfaadoor", sum := "949aee8f6613dfdd7c523dbb9d521c91bdf1a19330484010b3aef36276328bcf", func := "spoor/spoorlaw1.SumBursts", spec := "sumBursts", named := ["spoor/sum.low", "spoor/sum.high"], apart := false, laid := [("spoor/sum.low", laid_spoor_sum_low), ("spoor/sum.high", laid_spoor_sum_high)] }
def SumBurstsSaid : Prop := sumBurstsRow.holds Tryd.pinned (OpenSpec.ofChange sumBurstsSpec)

/-- ITS FALSE NEIGHBOUR: 'it returns false'. Refute it at one input. -/
def sumBurstsWrong : ChangeSpec := { name := "sumBursts", fn := fun _ => fun
  | [d1, d2, d3] => { results := [.lit (.bool false)], args := [d1, d2, d3] }
  | _ => none }
def SumBurstsWrongFalsely : Prop := sumBurstsRow.holds Tryd.pinned (OpenSpec.ofChange sumBurstsWrong)

/- THE SECOND FORM. 'bulk': how many values and letters a reading holds, each counted each time it is reached (what is shared counts as often as it is met; a slice's spare places count too). A statement '..UptoSaid' is the law's where the arguments, and the package variables that the reading takes, are together of bulk at most 1048576: NARROWER than '..Said'. Prove '..Said' where nothing that the law and all that it calls make is longer than what came in: it says more and counts as full. Else prove '..UptoSaid'. A law counts once. -/
mutual
def uptoBulk {H : Type} : DataW H → Nat
  | .lit (.string bytes) => bytes.length + 1
  | .lit _ => 1
  | .nil => 1
  | .ptr d => uptoBulk d + 1
  | .slice elems spare => uptoBulkAll elems + uptoBulkAll spare + 1
  | .agg parts => uptoBulkAll parts + 1
  | .iface _ d => uptoBulk d + 1
  | .map entries => uptoBulkEntries entries + 1
  | .held _ => 1
def uptoBulkAll {H : Type} : List (DataW H) → Nat
  | [] => 0
  | d :: r => uptoBulk d + uptoBulkAll r
def uptoBulkEntries {H : Type} : List (Lit × DataW H) → Nat
  | [] => 0
  | x :: r => uptoBulkEntry x + uptoBulkEntries r
def uptoBulkEntry {H : Type} : Lit × DataW H → Nat
  | (.string bytes, d) => bytes.length + uptoBulk d + 1
  | (_, d) => uptoBulk d + 1
 end
def uptoSmall : (H : Type) → List (DataW H) → Bool := fun _ ds => decide (uptoBulkAll ds ≤ 1048576)
def OpenSpec.upto (s : _root_.Go.ChangeSpec) : _root_.Go.OpenSpec := { _root_.Go.OpenSpec.ofChange s with cond := some uptoSmall }

/-- 'spoorlaw1.SumRuns', WHERE WHAT IT READS IS OF BULK AT MOST 1048576: true; the input reads as it did. -/
def sumRunsUptoRow : OpenClaim := { program := "ytjmiejcgahajfaadoor", sum := "949aee8f6613dfdd7c523dbb9d521c91bdf1a19330484010b3aef36276328bcf", func := "spoor/spoorlaw1.SumRuns", spec := "sumRuns", named := ["spoor/sum.low", "spoor/sum.high"], apart := false, laid := [("spoor/sum.low", laid_spoor_sum_low), ("spoor/sum.high", laid_spoor_sum_high)], narrowed := true }
def SumRunsUptoSaid : Prop := sumRunsUptoRow.holds Tryd.pinned (OpenSpec.upto sumRunsSpec)

/-- 'spoorlaw1.SumTells', WHERE WHAT IT READS IS OF BULK AT MOST 1048576: true; the input reads as it did. -/
def sumTellsUptoRow : OpenClaim := { program := "ytjmiejcgahajfaadoor", sum := "949aee8f6613dfdd7c523dbb9d521c91bdf1a19330484010b3aef36276328bcf", func := "spoor/spoorlaw1.SumTells", spec := "sumTells", named := ["spoor/sum.low", "spoor/sum.high"], apart := false, laid := [("spoor/sum.low", laid_spoor_sum_low), ("spoor/sum.high", laid_spoor_sum_high)], narrowed := true }
def SumTellsUptoSaid : Prop := sumTellsUptoRow.holds Tryd.pinned (OpenSpec.upto sumTellsSpec)

/-- 'spoorlaw1.SumParts', WHERE WHAT IT READS IS OF BULK AT MOST 1048576: true; the input reads as it did. -/
def sumPartsUptoRow : OpenClaim := { program := "ytjmiejcgahajfaadoor", sum := "949aee8f6613dfdd7c523dbb9d521c91bdf1a19330484010b3aef36276328bcf", func := "spoor/spoorlaw1.SumParts", spec := "sumParts", named := ["spoor/sum.low", "spoor/sum.high"], apart := false, laid := [("spoor/sum.low", laid_spoor_sum_low), ("spoor/sum.high", laid_spoor_sum_high)], narrowed := true }
def SumPartsUptoSaid : Prop := sumPartsUptoRow.holds Tryd.pinned (OpenSpec.upto sumPartsSpec)

/-- 'spoorlaw1.SumAdds', WHERE WHAT IT READS IS OF BULK AT MOST 1048576: true; the input reads as it did. -/
def sumAddsUptoRow : OpenClaim := { program := "ytjmiejcgahajfaadoor", sum := "949aee8f6613dfdd7c523dbb9d521c91bdf1a19330484010b3aef36276328bcf", func := "spoor/spoorlaw1.SumAdds", spec := "sumAdds", named := ["spoor/sum.low", "spoor/sum.high"], apart := false, laid := [("spoor/sum.low", laid_spoor_sum_low), ("spoor/sum.high", laid_spoor_sum_high)], narrowed := true }
def SumAddsUptoSaid : Prop := sumAddsUptoRow.holds Tryd.pinned (OpenSpec.upto sumAddsSpec)

/-- 'spoorlaw1.SumBursts', WHERE WHAT IT READS IS OF BULK AT MOST 1048576: true; the input reads as it did. -/
def sumBurstsUptoRow : OpenClaim := { program := "ytjmiejcgahajfaadoor", sum := "949aee8f6613dfdd7c523dbb9d521c91bdf1a19330484010b3aef36276328bcf", func := "spoor/spoorlaw1.SumBursts", spec := "sumBursts", named := ["spoor/sum.low", "spoor/sum.high"], apart := false, laid := [("spoor/sum.low", laid_spoor_sum_low), ("spoor/sum.high", laid_spoor_sum_high)], narrowed := true }
def SumBurstsUptoSaid : Prop := sumBurstsUptoRow.holds Tryd.pinned (OpenSpec.upto sumBurstsSpec)

end Rows
end Go.Proofs.YtjmiejcgahajfaaDoor
