/-
  NARROWER THAN 'FOR EVERY INPUT', by the rows' own cells (each row's printed sentence says how): IdentRuns: laid · IdentTells: laid · IdentGrows: laid · IdentTurned: laid · FrameRuns: laid · FramePuts: laid · FrameReads: laid · FrameBack: laid · FrameTurned: laid.
  DERIVED. THE GIVEN ROWS OF THIS SEAT. 9 by the template 'for every input the law returns true; each argument reads behind the call as it read before'; 0 by the template 'total and deterministic' (their statements: YtenhbjcamkbffaaDoorTotals.lean).
  GIVEN WITH THE SEED: the statements are not yours to turn. If you find one false, say at which input.
  Laid BY PROGRAM, IN A SANDBOX (cutbox-rows.mjs): the forced cells as the released guide's own fill.sh prints them over the translation 191e7014a2736461… (all of the seat's roots in one cut). By AI agents, Wed Nov 11 2026. No macro, syntax, notation, axiom, sorry.
-/
import Derived.Test.YtenhbjcamkbffaaDoorChecked
import GoSem.Claim
import GoSem.ClaimJoined
import GoSem.ClaimMapViews
import Derived.JoinedTies
import Derived.KernelRfl
namespace Go.Proofs.YtenhbjcamkbffaaDoor
/- THE CELL 'sum', in the pinned program and in every row, IS THE sha256 OF THE DUMP (.gsa) THAT YtenhbjcamkbffaaDoorProg.lean LOADS. Nothing in Lean hashes anything: it is a label: what it is worth is what the hold of that sum in a sandbox is worth. -/
noncomputable def Tryd.pinned : Pinned := { name := "ytenhbjcamkbffaadoor", sum := "191e7014a27364615ca2bf49b31e19096de27601d16852730a112b2cb685d4c4", checked := Tryd.checked }
namespace Rows
def none {H : Type} : Left H := { results := [], args := [] }

/- WHAT THE LISTED PACKAGE-LEVEL VARIABLES READ AS WHEN THE CALL BEGINS. Each datum BY PROGRAM (the guide's laid-datum.mjs) off the statement by which the dump's own 'gosem.cut.vars' lays the variable. In a bare row this is a premise. The card (YtenhbjcamkbffaaDoorCards.lean) ties it to the program's text. -/
def laid_spoor_sum_low {H : Type} : DataW H := .agg [.lit (.int .u32 0), .lit (.int .u32 4067132163), .lit (.int .u32 3778769143), .lit (.int .u32 324072436), .lit (.int .u32 3348797215), .lit (.int .u32 904991772), .lit (.int .u32 648144872), .lit (.int .u32 3570033899), .lit (.int .u32 2329499855), .lit (.int .u32 2024987596), .lit (.int .u32 1809983544), .lit (.int .u32 2575936315), .lit (.int .u32 1296289744), .lit (.int .u32 3207089363), .lit (.int .u32 2893594407), .lit (.int .u32 1578318884)]
def laid_spoor_sum_high {H : Type} : DataW H := .agg [.lit (.int .u32 0), .lit (.int .u32 274646895), .lit (.int .u32 549293790), .lit (.int .u32 820201905), .lit (.int .u32 1098587580), .lit (.int .u32 1361435347), .lit (.int .u32 1640403810), .lit (.int .u32 1905808397), .lit (.int .u32 2197175160), .lit (.int .u32 2460548119), .lit (.int .u32 2722870694), .lit (.int .u32 2987750089), .lit (.int .u32 3280807620), .lit (.int .u32 3553878443), .lit (.int .u32 3811616794), .lit (.int .u32 4084100981)]

/-- 'spoorlaw26.IdentRuns': WHATEVER THE INPUT: true; the input reads as it did. -/
def identRunsSpec : ChangeSpec := { name := "identRuns", fn := fun _ => fun
  | [] => { results := [.lit (.bool true)], args := [] }
  | _ => none }
def identRunsRow : OpenClaim := { program := "ytenhbjcamkbffaadoor", sum := "191e7014a27364615ca2bf49b31e19096de27601d16852730a112b2cb685d4c4", func := "spoor/spoorlaw26.IdentRuns", spec := "identRuns", named := ["spoor/sum.low", "spoor/sum.high"], apart := false, laid := [("spoor/sum.low", laid_spoor_sum_low), ("spoor/sum.high", laid_spoor_sum_high)] }
def IdentRunsSaid : Prop := identRunsRow.holds Tryd.pinned (OpenSpec.ofChange identRunsSpec)

/-- ITS FALSE NEIGHBOUR: 'it returns false'. Refute it at one input. -/
def identRunsWrong : ChangeSpec := { name := "identRuns", fn := fun _ => fun
  | [] => { results := [.lit (.bool false)], args := [] }
  | _ => none }
def IdentRunsWrongFalsely : Prop := identRunsRow.holds Tryd.pinned (OpenSpec.ofChange identRunsWrong)

/-- 'spoorlaw26.IdentTells': WHATEVER THE INPUT: true; the input reads as it did. -/
def identTellsSpec : ChangeSpec := { name := "identTells", fn := fun _ => fun
  | [d1, d2, d3, d4, d5] => { results := [.lit (.bool true)], args := [d1, d2, d3, d4, d5] }
  | _ => none }
def identTellsRow : OpenClaim := { program := "ytenhbjcamkbffaadoor", sum := "191e7014a27364615ca2bf49b31e19096de27601d16852730a112b2cb685d4c4", func := "spoor/spoorlaw26.IdentTells", spec := "identTells", named := ["spoor/sum.low", "spoor/sum.high"], apart := false, laid := [("spoor/sum.low", laid_spoor_sum_low), ("spoor/sum.high", laid_spoor_sum_high)] }
def IdentTellsSaid : Prop := identTellsRow.holds Tryd.pinned (OpenSpec.ofChange identTellsSpec)

/-- ITS FALSE NEIGHBOUR: 'it returns false'. Refute it at one input. -/
def identTellsWrong : ChangeSpec := { name := "identTells", fn := fun _ => fun
  | [d1, d2, d3, d4, d5] => { results := [.lit (.bool false)], args := [d1, d2, d3, d4, d5] }
  | _ => none }
def IdentTellsWrongFalsely : Prop := identTellsRow.holds Tryd.pinned (OpenSpec.ofChange identTellsWrong)

/-- 'spoorlaw26.IdentGrows': WHATEVER THE INPUT: true; the input reads as it did. -/
def identGrowsSpec : ChangeSpec := { name := "identGrows", fn := fun _ => fun
  | [d1, d2, d3, d4, d5] => { results := [.lit (.bool true)], args := [d1, d2, d3, d4, d5] }
  | _ => none }
def identGrowsRow : OpenClaim := { program := "ytenhbjcamkbffaadoor", sum := "191e7014a27364615ca2bf49b31e19096de27601d16852730a112b2cb685d4c4", func := "spoor/spoorlaw26.IdentGrows", spec := "identGrows", named := ["spoor/sum.low", "spoor/sum.high"], apart := false, laid := [("spoor/sum.low", laid_spoor_sum_low), ("spoor/sum.high", laid_spoor_sum_high)] }
def IdentGrowsSaid : Prop := identGrowsRow.holds Tryd.pinned (OpenSpec.ofChange identGrowsSpec)

/-- ITS FALSE NEIGHBOUR: 'it returns false'. Refute it at one input. -/
def identGrowsWrong : ChangeSpec := { name := "identGrows", fn := fun _ => fun
  | [d1, d2, d3, d4, d5] => { results := [.lit (.bool false)], args := [d1, d2, d3, d4, d5] }
  | _ => none }
def IdentGrowsWrongFalsely : Prop := identGrowsRow.holds Tryd.pinned (OpenSpec.ofChange identGrowsWrong)

/-- 'spoorlaw26.IdentTurned': WHATEVER THE INPUT: true; the input reads as it did. -/
def identTurnedSpec : ChangeSpec := { name := "identTurned", fn := fun _ => fun
  | [d1, d2, d3] => { results := [.lit (.bool true)], args := [d1, d2, d3] }
  | _ => none }
def identTurnedRow : OpenClaim := { program := "ytenhbjcamkbffaadoor", sum := "191e7014a27364615ca2bf49b31e19096de27601d16852730a112b2cb685d4c4", func := "spoor/spoorlaw26.IdentTurned", spec := "identTurned", named := ["spoor/sum.low", "spoor/sum.high"], apart := false, laid := [("spoor/sum.low", laid_spoor_sum_low), ("spoor/sum.high", laid_spoor_sum_high)] }
def IdentTurnedSaid : Prop := identTurnedRow.holds Tryd.pinned (OpenSpec.ofChange identTurnedSpec)

/-- ITS FALSE NEIGHBOUR: 'it returns false'. Refute it at one input. -/
def identTurnedWrong : ChangeSpec := { name := "identTurned", fn := fun _ => fun
  | [d1, d2, d3] => { results := [.lit (.bool false)], args := [d1, d2, d3] }
  | _ => none }
def IdentTurnedWrongFalsely : Prop := identTurnedRow.holds Tryd.pinned (OpenSpec.ofChange identTurnedWrong)

/-- 'spoorlaw23.FrameRuns': WHATEVER THE INPUT: true; the input reads as it did. -/
def frameRunsSpec : ChangeSpec := { name := "frameRuns", fn := fun _ => fun
  | [] => { results := [.lit (.bool true)], args := [] }
  | _ => none }
def frameRunsRow : OpenClaim := { program := "ytenhbjcamkbffaadoor", sum := "191e7014a27364615ca2bf49b31e19096de27601d16852730a112b2cb685d4c4", func := "spoor/spoorlaw23.FrameRuns", spec := "frameRuns", named := ["spoor/sum.low", "spoor/sum.high"], apart := false, laid := [("spoor/sum.low", laid_spoor_sum_low), ("spoor/sum.high", laid_spoor_sum_high)] }
def FrameRunsSaid : Prop := frameRunsRow.holds Tryd.pinned (OpenSpec.ofChange frameRunsSpec)

/-- ITS FALSE NEIGHBOUR: 'it returns false'. Refute it at one input. -/
def frameRunsWrong : ChangeSpec := { name := "frameRuns", fn := fun _ => fun
  | [] => { results := [.lit (.bool false)], args := [] }
  | _ => none }
def FrameRunsWrongFalsely : Prop := frameRunsRow.holds Tryd.pinned (OpenSpec.ofChange frameRunsWrong)

/-- 'spoorlaw23.FramePuts': WHATEVER THE INPUT: true; the input reads as it did. -/
def framePutsSpec : ChangeSpec := { name := "framePuts", fn := fun _ => fun
  | [d1, d2] => { results := [.lit (.bool true)], args := [d1, d2] }
  | _ => none }
def framePutsRow : OpenClaim := { program := "ytenhbjcamkbffaadoor", sum := "191e7014a27364615ca2bf49b31e19096de27601d16852730a112b2cb685d4c4", func := "spoor/spoorlaw23.FramePuts", spec := "framePuts", named := ["spoor/sum.low", "spoor/sum.high"], apart := false, laid := [("spoor/sum.low", laid_spoor_sum_low), ("spoor/sum.high", laid_spoor_sum_high)] }
def FramePutsSaid : Prop := framePutsRow.holds Tryd.pinned (OpenSpec.ofChange framePutsSpec)

/-- ITS FALSE NEIGHBOUR: 'it returns false'. Refute it at one input. -/
def framePutsWrong : ChangeSpec := { name := "framePuts", fn := fun _ => fun
  | [d1, d2] => { results := [.lit (.bool false)], args := [d1, d2] }
  | _ => none }
def FramePutsWrongFalsely : Prop := framePutsRow.holds Tryd.pinned (OpenSpec.ofChange framePutsWrong)

/-- 'spoorlaw23.FrameReads': WHATEVER THE INPUT: true; the input reads as it did. -/
def frameReadsSpec : ChangeSpec := { name := "frameReads", fn := fun _ => fun
  | [d1, d2] => { results := [.lit (.bool true)], args := [d1, d2] }
  | _ => none }
def frameReadsRow : OpenClaim := { program := "ytenhbjcamkbffaadoor", sum := "191e7014a27364615ca2bf49b31e19096de27601d16852730a112b2cb685d4c4", func := "spoor/spoorlaw23.FrameReads", spec := "frameReads", named := ["spoor/sum.low", "spoor/sum.high"], apart := false, laid := [("spoor/sum.low", laid_spoor_sum_low), ("spoor/sum.high", laid_spoor_sum_high)] }
def FrameReadsSaid : Prop := frameReadsRow.holds Tryd.pinned (OpenSpec.ofChange frameReadsSpec)

/-- ITS FALSE NEIGHBOUR: 'it returns false'. Refute it at one input. -/
def frameReadsWrong : ChangeSpec := { name := "frameReads", fn := fun _ => fun
  | [d1, d2] => { results := [.lit (.bool false)], args := [d1, d2] }
  | _ => none }
def FrameReadsWrongFalsely : Prop := frameReadsRow.holds Tryd.pinned (OpenSpec.ofChange frameReadsWrong)

/-- 'spoorlaw23.FrameBack': WHATEVER THE INPUT: true; the input reads as it did. -/
def frameBackSpec : ChangeSpec := { name := "frameBack", fn := fun _ => fun
  | [d1, d2] => { results := [.lit (.bool true)], args := [d1, d2] }
  | _ => none }
def frameBackRow : OpenClaim := { program := "ytenhbjcamkbffaadoor", sum := "191e7014a27364615ca2bf49b31e19096de27601d16852730a112b2cb685d4c4", func := "spoor/spoorlaw23.FrameBack", spec := "frameBack", named := ["spoor/sum.low", "spoor/sum.high"], apart := false, laid := [("spoor/sum.low", laid_spoor_sum_low), ("spoor/sum.high", laid_spoor_sum_high)] }
def FrameBackSaid : Prop := frameBackRow.holds Tryd.pinned (OpenSpec.ofChange frameBackSpec)

/-- ITS FALSE NEIGHBOUR: 'it returns false'. Refute it at one input. -/
def frameBackWrong : ChangeSpec := { name := "frameBack", fn := fun _ => fun
  | [d1, d2] => { results := [.lit (.bool false)], args := [d1, d2] }
  | _ => none }
def FrameBackWrongFalsely : Prop := frameBackRow.holds Tryd.pinned (OpenSpec.ofChange frameBackWrong)

/-- 'spoorlaw23.FrameTurned': WHATEVER THE INPUT: true; the input reads as it did. -/
def frameTurnedSpec : ChangeSpec := { name := "frameTurned", fn := fun _ => fun
  | [d1, d2, d3, d4] => { results := [.lit (.bool true)], args := [d1, d2, d3, d4] }
  | _ => none }
def frameTurnedRow : OpenClaim := { program := "ytenhbjcamkbffaadoor", sum := "191e7014a27364615ca2bf49b31e19096de27601d16852730a112b2cb685d4c4", func := "spoor/spoorlaw23.FrameTurned", spec := "frameTurned", named := ["spoor/sum.low", "spoor/sum.high"], apart := false, laid := [("spoor/sum.low", laid_spoor_sum_low), ("spoor/sum.high", laid_spoor_sum_high)] }
def FrameTurnedSaid : Prop := frameTurnedRow.holds Tryd.pinned (OpenSpec.ofChange frameTurnedSpec)

/-- ITS FALSE NEIGHBOUR: 'it returns false'. Refute it at one input. -/
def frameTurnedWrong : ChangeSpec := { name := "frameTurned", fn := fun _ => fun
  | [d1, d2, d3, d4] => { results := [.lit (.bool false)], args := [d1, d2, d3, d4] }
  | _ => none }
def FrameTurnedWrongFalsely : Prop := frameTurnedRow.holds Tryd.pinned (OpenSpec.ofChange frameTurnedWrong)

/- THE SECOND FORM. 'bulk': how many values and letters a reading holds, each counted each time it is reached (what is shared counts as often as it is met; a slice's spare places count too). A statement '..UptoSaid' is the law's where the arguments, and the package variables that the reading takes, are together of bulk at most 1048576: NARROWER than '..Said'. Prove '..Said' where nothing that the law and all that it calls make is longer than what came in: it says more and counts as full. Else prove '..UptoSaid'. A law counts once. -/
mutual
def uptoBulk {H : Type} : DataW H → Nat
  | .lit (.string bytes) => bytes.length + 1
  | .lit _ => 1
  | .nil => 1
  | .ptr d => uptoBulk d + 1
  | .slice elems spare => uptoBulkAll elems + uptoBulkAll spare + 1
  | .agg parts => uptoBulkAll parts + 1
  | .iface _ d => uptoBulk d + 1
  | .map entries => uptoBulkEntries entries + 1
  | .held _ => 1
def uptoBulkAll {H : Type} : List (DataW H) → Nat
  | [] => 0
  | d :: r => uptoBulk d + uptoBulkAll r
def uptoBulkEntries {H : Type} : List (Lit × DataW H) → Nat
  | [] => 0
  | x :: r => uptoBulkEntry x + uptoBulkEntries r
def uptoBulkEntry {H : Type} : Lit × DataW H → Nat
  | (.string bytes, d) => bytes.length + uptoBulk d + 1
  | (_, d) => uptoBulk d + 1
 end
def uptoSmall : (H : Type) → List (DataW H) → Bool := fun _ ds => decide (uptoBulkAll ds ≤ 1048576)
def OpenSpec.upto (s : _root_.Go.ChangeSpec) : _root_.Go.OpenSpec := { _root_.Go.OpenSpec.ofChange s with cond := some uptoSmall }

/-- 'spoorlaw26.IdentRuns', WHERE WHAT IT READS IS OF BULK AT MOST 1048576: true; the input reads as it did. -/
def identRunsUptoRow : OpenClaim := { program := "ytenhbjcamkbffaadoor", sum := "191e7014a27364615ca2bf49b31e19096de27601d16852730a112b2cb685d4c4", func := "spoor/spoorlaw26.IdentRuns", spec := "identRuns", named := ["spoor/sum.low", "spoor/sum.high"], apart := false, laid := [("spoor/sum.low", laid_spoor_sum_low), ("spoor/sum.high", laid_spoor_sum_high)], narrowed := true }
def IdentRunsUptoSaid : Prop := identRunsUptoRow.holds Tryd.pinned (OpenSpec.upto identRunsSpec)

/-- 'spoorlaw26.IdentTells', WHERE WHAT IT READS IS OF BULK AT MOST 1048576: true; the input reads as it did. -/
def identTellsUptoRow : OpenClaim := { program := "ytenhbjcamkbffaadoor", sum := "191e7014a27364615ca2bf49b31e19096de27601d16852730a112b2cb685d4c4", func := "spoor/spoorlaw26.IdentTells", spec := "identTells", named := ["spoor/sum.low", "spoor/sum.high"], apart := false, laid := [("spoor/sum.low", laid_spoor_sum_low), ("spoor/sum.high", laid_spoor_sum_high)], narrowed := true }
def IdentTellsUptoSaid : Prop := identTellsUptoRow.holds Tryd.pinned (OpenSpec.upto identTellsSpec)

/-- 'spoorlaw26.IdentGrows', WHERE WHAT IT READS IS OF BULK AT MOST 1048576: true; the input reads as it did. -/
def identGrowsUptoRow : OpenClaim := { program := "ytenhbjcamkbffaadoor", sum := "191e7014a27364615ca2bf49b31e19096de27601d16852730a112b2cb685d4c4", func := "spoor/spoorlaw26.IdentGrows", spec := "identGrows", named := ["spoor/sum.low", "spoor/sum.high"], apart := false, laid := [("spoor/sum.low", laid_spoor_sum_low), ("spoor/sum.high", laid_spoor_sum_high)], narrowed := true }
def IdentGrowsUptoSaid : Prop := identGrowsUptoRow.holds Tryd.pinned (OpenSpec.upto identGrowsSpec)

/-- 'spoorlaw26.IdentTurned', WHERE WHAT IT READS IS OF BULK AT MOST 1048576: true; the input reads as it did. -/
def identTurnedUptoRow : OpenClaim := { program := "ytenhbjcamkbffaadoor", sum := "191e7014a27364615ca2bf49b31e19096de27601d16852730a112b2cb685d4c4", func := "spoor/spoorlaw26.IdentTurned", spec := "identTurned", named := ["spoor/sum.low", "spoor/sum.high"], apart := false, laid := [("spoor/sum.low", laid_spoor_sum_low), ("spoor/sum.high", laid_spoor_sum_high)], narrowed := true }
def IdentTurnedUptoSaid : Prop := identTurnedUptoRow.holds Tryd.pinned (OpenSpec.upto identTurnedSpec)

/-- 'spoorlaw23.FrameRuns', WHERE WHAT IT READS IS OF BULK AT MOST 1048576: true; the input reads as it did. -/
def frameRunsUptoRow : OpenClaim := { program := "ytenhbjcamkbffaadoor", sum := "191e7014a27364615ca2bf49b31e19096de27601d16852730a112b2cb685d4c4", func := "spoor/spoorlaw23.FrameRuns", spec := "frameRuns", named := ["spoor/sum.low", "spoor/sum.high"], apart := false, laid := [("spoor/sum.low", laid_spoor_sum_low), ("spoor/sum.high", laid_spoor_sum_high)], narrowed := true }
def FrameRunsUptoSaid : Prop := frameRunsUptoRow.holds Tryd.pinned (OpenSpec.upto frameRunsSpec)

/-- 'spoorlaw23.FramePuts', WHERE WHAT IT READS IS OF BULK AT MOST 1048576: true; the input reads as it did. -/
def framePutsUptoRow : OpenClaim := { program := "ytenhbjcamkbffaadoor", sum := "191e7014a27364615ca2bf49b31e19096de27601d16852730a112b2cb685d4c4", func := "spoor/spoorlaw23.FramePuts", spec := "framePuts", named := ["spoor/sum.low", "spoor/sum.high"], apart := false, laid := [("spoor/sum.low", laid_spoor_sum_low), ("spoor/sum.high", laid_spoor_sum_high)], narrowed := true }
def FramePutsUptoSaid : Prop := framePutsUptoRow.holds Tryd.pinned (OpenSpec.upto framePutsSpec)

/-- 'spoorlaw23.FrameReads', WHERE WHAT IT READS IS OF BULK AT MOST 1048576: true; the input reads as it did. -/
def frameReadsUptoRow : OpenClaim := { program := "ytenhbjcamkbffaadoor", sum := "191e7014a27364615ca2bf49b31e19096de27601d16852730a112b2cb685d4c4", func := "spoor/spoorlaw23.FrameReads", spec := "frameReads", named := ["spoor/sum.low", "spoor/sum.high"], apart := false, laid := [("spoor/sum.low", laid_spoor_sum_low), ("spoor/sum.high", laid_spoor_sum_high)], narrowed := true }
def FrameReadsUptoSaid : Prop := frameReadsUptoRow.holds Tryd.pinned (OpenSpec.upto frameReadsSpec)

/-- 'spoorlaw23.FrameBack', WHERE WHAT IT READS IS OF BULK AT MOST 1048576: true; the input reads as it did. -/
def frameBackUptoRow : OpenClaim := { program := "ytenhbjcamkbffaadoor", sum := "191e7014a27364615ca2bf49b31e19096de27601d16852730a112b2cb685d4c4", func := "spoor/spoorlaw23.FrameBack", spec := "frameBack", named := ["spoor/sum.low", "spoor/sum.high"], apart := false, laid := [("spoor/sum.low", laid_spoor_sum_low), ("spoor/sum.high", laid_spoor_sum_high)], narrowed := true }
def FrameBackUptoSaid : Prop := frameBackUptoRow.holds Tryd.pinned (OpenSpec.upto frameBackSpec)

/-- 'spoorlaw23.FrameTurned', WHERE WHAT IT READS IS OF BULK AT MOST 1048576: true; the input reads as it did. -/
def frameTurnedUptoRow : OpenClaim := { program := "ytenhbjcamkbffaadoor", sum := "191e7014a27364615ca2bf49b31e19096de27601d16852730a112b2cb685d4c4", func := "spoor/spoorlaw23.FrameTurned", spec := "frameTurned", named := ["spoor/sum.low", "spoor/sum.high"], apart := false, laid := [("spoor/sum.low", laid_spoor_sum_low), ("spoor/sum.high", laid_spoor_sum_high)], narrowed := true }
def FrameTurnedUptoSaid : Prop := frameTurnedUptoRow.holds Tryd.pinned (OpenSpec.upto frameTurnedSpec)

end Rows
end Go.Proofs.YtenhbjcamkbffaaDoor
