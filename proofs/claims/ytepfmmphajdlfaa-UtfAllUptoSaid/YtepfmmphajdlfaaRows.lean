/-
  No cell of these rows narrows 'for every input' (looked for: loops, veiled, ifaces, maps, wideKeys, modest, calm, conditions, laid).
  DERIVED. THE GIVEN ROWS OF THIS SEAT. 12 by the template 'for every input the law returns true; each argument reads behind the call as it read before'; 0 by the template 'total and deterministic' (their statements: YtepfmmphajdlfaaTotals.lean).
  GIVEN WITH THE SEED: the statements are not yours to turn. If you find one false, say at which input.
  Laid BY PROGRAM, IN A SANDBOX (cutbox-rows.mjs): the forced cells as the released guide's own fill.sh prints them over the translation 0911559f427376c2… (all of the seat's roots in one cut). By AI agents, Wed Nov 11 2026. No macro, syntax, notation, axiom, sorry.
-/
import Derived.Test.YtepfmmphajdlfaaChecked
import GoSem.Claim
import GoSem.ClaimJoined
import GoSem.ClaimMapViews
import Derived.JoinedTies
import Derived.KernelRfl
namespace Go.Proofs.Ytepfmmphajdlfaa
/- THE CELL 'sum', in the pinned program and in every row, IS THE sha256 OF THE DUMP (.gsa) THAT YtepfmmphajdlfaaProg.lean LOADS. Nothing in Lean hashes anything: it is a label: what it is worth is what the hold of that sum in a sandbox is worth. -/
noncomputable def Try.pinned : Pinned := { name := "ytepfmmphajdlfaa", sum := "0911559f427376c25fa6e128732980bfad36693616d7b304801f8fa3719fe5dd", checked := Try.checked }
namespace Rows
def none {H : Type} : Left H := { results := [], args := [] }

/-- 'spoorlaw2.WireReads': WHATEVER THE INPUT: true; the input reads as it did. -/
def wireReadsSpec : ChangeSpec := { name := "wireReads", fn := fun _ => fun
  | [d1, d2] => { results := [.lit (.bool true)], args := [d1, d2] }
  | _ => none }
def wireReadsRow : OpenClaim := { program := "ytepfmmphajdlfaa", sum := "0911559f427376c25fa6e128732980bfad36693616d7b304801f8fa3719fe5dd", func := "spoor/spoorlaw2.WireReads", spec := "wireReads", unfollowed := true, recurses := true, apart := false }
def WireReadsSaid : Prop := wireReadsRow.holds Try.pinned (OpenSpec.ofChange wireReadsSpec)

/-- ITS FALSE NEIGHBOUR: 'it returns false'. Refute it at one input. -/
def wireReadsWrong : ChangeSpec := { name := "wireReads", fn := fun _ => fun
  | [d1, d2] => { results := [.lit (.bool false)], args := [d1, d2] }
  | _ => none }
def WireReadsWrongFalsely : Prop := wireReadsRow.holds Try.pinned (OpenSpec.ofChange wireReadsWrong)

/-- 'spoorlaw3.RingRuns': WHATEVER THE INPUT: true; the input reads as it did. -/
def ringRunsSpec : ChangeSpec := { name := "ringRuns", fn := fun _ => fun
  | [] => { results := [.lit (.bool true)], args := [] }
  | _ => none }
def ringRunsRow : OpenClaim := { program := "ytepfmmphajdlfaa", sum := "0911559f427376c25fa6e128732980bfad36693616d7b304801f8fa3719fe5dd", func := "spoor/spoorlaw3.RingRuns", spec := "ringRuns", apart := false }
def RingRunsSaid : Prop := ringRunsRow.holds Try.pinned (OpenSpec.ofChange ringRunsSpec)

/-- ITS FALSE NEIGHBOUR: 'it returns false'. Refute it at one input. -/
def ringRunsWrong : ChangeSpec := { name := "ringRuns", fn := fun _ => fun
  | [] => { results := [.lit (.bool false)], args := [] }
  | _ => none }
def RingRunsWrongFalsely : Prop := ringRunsRow.holds Try.pinned (OpenSpec.ofChange ringRunsWrong)

/-- 'spoorlaw3.RingPlays': WHATEVER THE INPUT: true; the input reads as it did. -/
def ringPlaysSpec : ChangeSpec := { name := "ringPlays", fn := fun _ => fun
  | [d1, d2] => { results := [.lit (.bool true)], args := [d1, d2] }
  | _ => none }
def ringPlaysRow : OpenClaim := { program := "ytepfmmphajdlfaa", sum := "0911559f427376c25fa6e128732980bfad36693616d7b304801f8fa3719fe5dd", func := "spoor/spoorlaw3.RingPlays", spec := "ringPlays", apart := false }
def RingPlaysSaid : Prop := ringPlaysRow.holds Try.pinned (OpenSpec.ofChange ringPlaysSpec)

/-- ITS FALSE NEIGHBOUR: 'it returns false'. Refute it at one input. -/
def ringPlaysWrong : ChangeSpec := { name := "ringPlays", fn := fun _ => fun
  | [d1, d2] => { results := [.lit (.bool false)], args := [d1, d2] }
  | _ => none }
def RingPlaysWrongFalsely : Prop := ringPlaysRow.holds Try.pinned (OpenSpec.ofChange ringPlaysWrong)

/-- 'spoorlaw3.RingOrder': WHATEVER THE INPUT: true; the input reads as it did. -/
def ringOrderSpec : ChangeSpec := { name := "ringOrder", fn := fun _ => fun
  | [d1, d2, d3] => { results := [.lit (.bool true)], args := [d1, d2, d3] }
  | _ => none }
def ringOrderRow : OpenClaim := { program := "ytepfmmphajdlfaa", sum := "0911559f427376c25fa6e128732980bfad36693616d7b304801f8fa3719fe5dd", func := "spoor/spoorlaw3.RingOrder", spec := "ringOrder", apart := false }
def RingOrderSaid : Prop := ringOrderRow.holds Try.pinned (OpenSpec.ofChange ringOrderSpec)

/-- ITS FALSE NEIGHBOUR: 'it returns false'. Refute it at one input. -/
def ringOrderWrong : ChangeSpec := { name := "ringOrder", fn := fun _ => fun
  | [d1, d2, d3] => { results := [.lit (.bool false)], args := [d1, d2, d3] }
  | _ => none }
def RingOrderWrongFalsely : Prop := ringOrderRow.holds Try.pinned (OpenSpec.ofChange ringOrderWrong)

/-- 'spoorlaw3.RingTypes': WHATEVER THE INPUT: true; the input reads as it did. -/
def ringTypesSpec : ChangeSpec := { name := "ringTypes", fn := fun _ => fun
  | [d1, d2] => { results := [.lit (.bool true)], args := [d1, d2] }
  | _ => none }
def ringTypesRow : OpenClaim := { program := "ytepfmmphajdlfaa", sum := "0911559f427376c25fa6e128732980bfad36693616d7b304801f8fa3719fe5dd", func := "spoor/spoorlaw3.RingTypes", spec := "ringTypes", apart := false }
def RingTypesSaid : Prop := ringTypesRow.holds Try.pinned (OpenSpec.ofChange ringTypesSpec)

/-- ITS FALSE NEIGHBOUR: 'it returns false'. Refute it at one input. -/
def ringTypesWrong : ChangeSpec := { name := "ringTypes", fn := fun _ => fun
  | [d1, d2] => { results := [.lit (.bool false)], args := [d1, d2] }
  | _ => none }
def RingTypesWrongFalsely : Prop := ringTypesRow.holds Try.pinned (OpenSpec.ofChange ringTypesWrong)

/-- 'spoorlaw3.RingKept': WHATEVER THE INPUT: true; the input reads as it did. -/
def ringKeptSpec : ChangeSpec := { name := "ringKept", fn := fun _ => fun
  | [d] => { results := [.lit (.bool true)], args := [d] }
  | _ => none }
def ringKeptRow : OpenClaim := { program := "ytepfmmphajdlfaa", sum := "0911559f427376c25fa6e128732980bfad36693616d7b304801f8fa3719fe5dd", func := "spoor/spoorlaw3.RingKept", spec := "ringKept", apart := false }
def RingKeptSaid : Prop := ringKeptRow.holds Try.pinned (OpenSpec.ofChange ringKeptSpec)

/-- ITS FALSE NEIGHBOUR: 'it returns false'. Refute it at one input. -/
def ringKeptWrong : ChangeSpec := { name := "ringKept", fn := fun _ => fun
  | [d] => { results := [.lit (.bool false)], args := [d] }
  | _ => none }
def RingKeptWrongFalsely : Prop := ringKeptRow.holds Try.pinned (OpenSpec.ofChange ringKeptWrong)

/-- 'spoorlaw5.SparseRuns': WHATEVER THE INPUT: true; the input reads as it did. -/
def sparseRunsSpec : ChangeSpec := { name := "sparseRuns", fn := fun _ => fun
  | [] => { results := [.lit (.bool true)], args := [] }
  | _ => none }
def sparseRunsRow : OpenClaim := { program := "ytepfmmphajdlfaa", sum := "0911559f427376c25fa6e128732980bfad36693616d7b304801f8fa3719fe5dd", func := "spoor/spoorlaw5.SparseRuns", spec := "sparseRuns", apart := false }
def SparseRunsSaid : Prop := sparseRunsRow.holds Try.pinned (OpenSpec.ofChange sparseRunsSpec)

/-- ITS FALSE NEIGHBOUR: 'it returns false'. Refute it at one input. -/
def sparseRunsWrong : ChangeSpec := { name := "sparseRuns", fn := fun _ => fun
  | [] => { results := [.lit (.bool false)], args := [] }
  | _ => none }
def SparseRunsWrongFalsely : Prop := sparseRunsRow.holds Try.pinned (OpenSpec.ofChange sparseRunsWrong)

/-- 'spoorlaw5.SparsePlays': WHATEVER THE INPUT: true; the input reads as it did. -/
def sparsePlaysSpec : ChangeSpec := { name := "sparsePlays", fn := fun _ => fun
  | [d1, d2] => { results := [.lit (.bool true)], args := [d1, d2] }
  | _ => none }
def sparsePlaysRow : OpenClaim := { program := "ytepfmmphajdlfaa", sum := "0911559f427376c25fa6e128732980bfad36693616d7b304801f8fa3719fe5dd", func := "spoor/spoorlaw5.SparsePlays", spec := "sparsePlays", apart := false }
def SparsePlaysSaid : Prop := sparsePlaysRow.holds Try.pinned (OpenSpec.ofChange sparsePlaysSpec)

/-- ITS FALSE NEIGHBOUR: 'it returns false'. Refute it at one input. -/
def sparsePlaysWrong : ChangeSpec := { name := "sparsePlays", fn := fun _ => fun
  | [d1, d2] => { results := [.lit (.bool false)], args := [d1, d2] }
  | _ => none }
def SparsePlaysWrongFalsely : Prop := sparsePlaysRow.holds Try.pinned (OpenSpec.ofChange sparsePlaysWrong)

/-- 'spoorlaw5.SparseFresh': WHATEVER THE INPUT: true; the input reads as it did. -/
def sparseFreshSpec : ChangeSpec := { name := "sparseFresh", fn := fun _ => fun
  | [d1, d2, d3] => { results := [.lit (.bool true)], args := [d1, d2, d3] }
  | _ => none }
def sparseFreshRow : OpenClaim := { program := "ytepfmmphajdlfaa", sum := "0911559f427376c25fa6e128732980bfad36693616d7b304801f8fa3719fe5dd", func := "spoor/spoorlaw5.SparseFresh", spec := "sparseFresh", apart := false }
def SparseFreshSaid : Prop := sparseFreshRow.holds Try.pinned (OpenSpec.ofChange sparseFreshSpec)

/-- ITS FALSE NEIGHBOUR: 'it returns false'. Refute it at one input. -/
def sparseFreshWrong : ChangeSpec := { name := "sparseFresh", fn := fun _ => fun
  | [d1, d2, d3] => { results := [.lit (.bool false)], args := [d1, d2, d3] }
  | _ => none }
def SparseFreshWrongFalsely : Prop := sparseFreshRow.holds Try.pinned (OpenSpec.ofChange sparseFreshWrong)

/-- 'spoorlaw5.SparseOrder': WHATEVER THE INPUT: true; the input reads as it did. -/
def sparseOrderSpec : ChangeSpec := { name := "sparseOrder", fn := fun _ => fun
  | [d] => { results := [.lit (.bool true)], args := [d] }
  | _ => none }
def sparseOrderRow : OpenClaim := { program := "ytepfmmphajdlfaa", sum := "0911559f427376c25fa6e128732980bfad36693616d7b304801f8fa3719fe5dd", func := "spoor/spoorlaw5.SparseOrder", spec := "sparseOrder", apart := false }
def SparseOrderSaid : Prop := sparseOrderRow.holds Try.pinned (OpenSpec.ofChange sparseOrderSpec)

/-- ITS FALSE NEIGHBOUR: 'it returns false'. Refute it at one input. -/
def sparseOrderWrong : ChangeSpec := { name := "sparseOrder", fn := fun _ => fun
  | [d] => { results := [.lit (.bool false)], args := [d] }
  | _ => none }
def SparseOrderWrongFalsely : Prop := sparseOrderRow.holds Try.pinned (OpenSpec.ofChange sparseOrderWrong)

/-- 'spoorlaw7.UtfRuns': WHATEVER THE INPUT: true; the input reads as it did. -/
def utfRunsSpec : ChangeSpec := { name := "utfRuns", fn := fun _ => fun
  | [] => { results := [.lit (.bool true)], args := [] }
  | _ => none }
def utfRunsRow : OpenClaim := { program := "ytepfmmphajdlfaa", sum := "0911559f427376c25fa6e128732980bfad36693616d7b304801f8fa3719fe5dd", func := "spoor/spoorlaw7.UtfRuns", spec := "utfRuns", apart := false }
def UtfRunsSaid : Prop := utfRunsRow.holds Try.pinned (OpenSpec.ofChange utfRunsSpec)

/-- ITS FALSE NEIGHBOUR: 'it returns false'. Refute it at one input. -/
def utfRunsWrong : ChangeSpec := { name := "utfRuns", fn := fun _ => fun
  | [] => { results := [.lit (.bool false)], args := [] }
  | _ => none }
def UtfRunsWrongFalsely : Prop := utfRunsRow.holds Try.pinned (OpenSpec.ofChange utfRunsWrong)

/-- 'spoorlaw7.UtfAll': WHATEVER THE INPUT: true; the input reads as it did. -/
def utfAllSpec : ChangeSpec := { name := "utfAll", fn := fun _ => fun
  | [d] => { results := [.lit (.bool true)], args := [d] }
  | _ => none }
def utfAllRow : OpenClaim := { program := "ytepfmmphajdlfaa", sum := "0911559f427376c25fa6e128732980bfad36693616d7b304801f8fa3719fe5dd", func := "spoor/spoorlaw7.UtfAll", spec := "utfAll", apart := false }
def UtfAllSaid : Prop := utfAllRow.holds Try.pinned (OpenSpec.ofChange utfAllSpec)

/-- ITS FALSE NEIGHBOUR: 'it returns false'. Refute it at one input. -/
def utfAllWrong : ChangeSpec := { name := "utfAll", fn := fun _ => fun
  | [d] => { results := [.lit (.bool false)], args := [d] }
  | _ => none }
def UtfAllWrongFalsely : Prop := utfAllRow.holds Try.pinned (OpenSpec.ofChange utfAllWrong)

/- THE SECOND FORM. 'bulk': how many values and letters a reading holds, each counted each time it is reached (what is shared counts as often as it is met; a slice's spare places count too). A statement '..UptoSaid' is the law's where the arguments, and the package variables that the reading takes, are together of bulk at most 1048576: NARROWER than '..Said'. Prove '..Said' where nothing that the law and all that it calls make is longer than what came in: it says more and counts as full. Else prove '..UptoSaid'. A law counts once. -/
mutual
def uptoBulk {H : Type} : DataW H → Nat
  | .lit (.string bytes) => bytes.length + 1
  | .lit _ => 1
  | .nil => 1
  | .ptr d => uptoBulk d + 1
  | .slice elems spare => uptoBulkAll elems + uptoBulkAll spare + 1
  | .agg parts => uptoBulkAll parts + 1
  | .iface _ d => uptoBulk d + 1
  | .map entries => uptoBulkEntries entries + 1
  | .held _ => 1
def uptoBulkAll {H : Type} : List (DataW H) → Nat
  | [] => 0
  | d :: r => uptoBulk d + uptoBulkAll r
def uptoBulkEntries {H : Type} : List (Lit × DataW H) → Nat
  | [] => 0
  | x :: r => uptoBulkEntry x + uptoBulkEntries r
def uptoBulkEntry {H : Type} : Lit × DataW H → Nat
  | (.string bytes, d) => bytes.length + uptoBulk d + 1
  | (_, d) => uptoBulk d + 1
 end
def uptoSmall : (H : Type) → List (DataW H) → Bool := fun _ ds => decide (uptoBulkAll ds ≤ 1048576)
def OpenSpec.upto (s : _root_.Go.ChangeSpec) : _root_.Go.OpenSpec := { _root_.Go.OpenSpec.ofChange s with cond := some uptoSmall }

/-- 'spoorlaw2.WireReads', WHERE WHAT IT READS IS OF BULK AT MOST 1048576: true; the input reads as it did. -/
def wireReadsUptoRow : OpenClaim := { program := "ytepfmmphajdlfaa", sum := "0911559f427376c25fa6e128732980bfad36693616d7b304801f8fa3719fe5dd", func := "spoor/spoorlaw2.WireReads", spec := "wireReads", unfollowed := true, recurses := true, apart := false, narrowed := true }
def WireReadsUptoSaid : Prop := wireReadsUptoRow.holds Try.pinned (OpenSpec.upto wireReadsSpec)

/-- 'spoorlaw3.RingRuns', WHERE WHAT IT READS IS OF BULK AT MOST 1048576: true; the input reads as it did. -/
def ringRunsUptoRow : OpenClaim := { program := "ytepfmmphajdlfaa", sum := "0911559f427376c25fa6e128732980bfad36693616d7b304801f8fa3719fe5dd", func := "spoor/spoorlaw3.RingRuns", spec := "ringRuns", apart := false, narrowed := true }
def RingRunsUptoSaid : Prop := ringRunsUptoRow.holds Try.pinned (OpenSpec.upto ringRunsSpec)

/-- 'spoorlaw3.RingPlays', WHERE WHAT IT READS IS OF BULK AT MOST 1048576: true; the input reads as it did. -/
def ringPlaysUptoRow : OpenClaim := { program := "ytepfmmphajdlfaa", sum := "0911559f427376c25fa6e128732980bfad36693616d7b304801f8fa3719fe5dd", func := "spoor/spoorlaw3.RingPlays", spec := "ringPlays", apart := false, narrowed := true }
def RingPlaysUptoSaid : Prop := ringPlaysUptoRow.holds Try.pinned (OpenSpec.upto ringPlaysSpec)

/-- 'spoorlaw3.RingOrder', WHERE WHAT IT READS IS OF BULK AT MOST 1048576: true; the input reads as it did. -/
def ringOrderUptoRow : OpenClaim := { program := "ytepfmmphajdlfaa", sum := "0911559f427376c25fa6e128732980bfad36693616d7b304801f8fa3719fe5dd", func := "spoor/spoorlaw3.RingOrder", spec := "ringOrder", apart := false, narrowed := true }
def RingOrderUptoSaid : Prop := ringOrderUptoRow.holds Try.pinned (OpenSpec.upto ringOrderSpec)

/-- 'spoorlaw3.RingTypes', WHERE WHAT IT READS IS OF BULK AT MOST 1048576: true; the input reads as it did. -/
def ringTypesUptoRow : OpenClaim := { program := "ytepfmmphajdlfaa", sum := "0911559f427376c25fa6e128732980bfad36693616d7b304801f8fa3719fe5dd", func := "spoor/spoorlaw3.RingTypes", spec := "ringTypes", apart := false, narrowed := true }
def RingTypesUptoSaid : Prop := ringTypesUptoRow.holds Try.pinned (OpenSpec.upto ringTypesSpec)

/-- 'spoorlaw3.RingKept', WHERE WHAT IT READS IS OF BULK AT MOST 1048576: true; the input reads as it did. -/
def ringKeptUptoRow : OpenClaim := { program := "ytepfmmphajdlfaa", sum := "0911559f427376c25fa6e128732980bfad36693616d7b304801f8fa3719fe5dd", func := "spoor/spoorlaw3.RingKept", spec := "ringKept", apart := false, narrowed := true }
def RingKeptUptoSaid : Prop := ringKeptUptoRow.holds Try.pinned (OpenSpec.upto ringKeptSpec)

/-- 'spoorlaw5.SparseRuns', WHERE WHAT IT READS IS OF BULK AT MOST 1048576: true; the input reads as it did. -/
def sparseRunsUptoRow : OpenClaim := { program := "ytepfmmphajdlfaa", sum := "0911559f427376c25fa6e128732980bfad36693616d7b304801f8fa3719fe5dd", func := "spoor/spoorlaw5.SparseRuns", spec := "sparseRuns", apart := false, narrowed := true }
def SparseRunsUptoSaid : Prop := sparseRunsUptoRow.holds Try.pinned (OpenSpec.upto sparseRunsSpec)

/-- 'spoorlaw5.SparsePlays', WHERE WHAT IT READS IS OF BULK AT MOST 1048576: true; the input reads as it did. -/
def sparsePlaysUptoRow : OpenClaim := { program := "ytepfmmphajdlfaa", sum := "0911559f427376c25fa6e128732980bfad36693616d7b304801f8fa3719fe5dd", func := "spoor/spoorlaw5.SparsePlays", spec := "sparsePlays", apart := false, narrowed := true }
def SparsePlaysUptoSaid : Prop := sparsePlaysUptoRow.holds Try.pinned (OpenSpec.upto sparsePlaysSpec)

/-- 'spoorlaw5.SparseFresh', WHERE WHAT IT READS IS OF BULK AT MOST 1048576: true; the input reads as it did. -/
def sparseFreshUptoRow : OpenClaim := { program := "ytepfmmphajdlfaa", sum := "0911559f427376c25fa6e128732980bfad36693616d7b304801f8fa3719fe5dd", func := "spoor/spoorlaw5.SparseFresh", spec := "sparseFresh", apart := false, narrowed := true }
def SparseFreshUptoSaid : Prop := sparseFreshUptoRow.holds Try.pinned (OpenSpec.upto sparseFreshSpec)

/-- 'spoorlaw5.SparseOrder', WHERE WHAT IT READS IS OF BULK AT MOST 1048576: true; the input reads as it did. -/
def sparseOrderUptoRow : OpenClaim := { program := "ytepfmmphajdlfaa", sum := "0911559f427376c25fa6e128732980bfad36693616d7b304801f8fa3719fe5dd", func := "spoor/spoorlaw5.SparseOrder", spec := "sparseOrder", apart := false, narrowed := true }
def SparseOrderUptoSaid : Prop := sparseOrderUptoRow.holds Try.pinned (OpenSpec.upto sparseOrderSpec)

/-- 'spoorlaw7.UtfRuns', WHERE WHAT IT READS IS OF BULK AT MOST 1048576: true; the input reads as it did. -/
def utfRunsUptoRow : OpenClaim := { program := "ytepfmmphajdlfaa", sum := "0911559f427376c25fa6e128732980bfad36693616d7b304801f8fa3719fe5dd", func := "spoor/spoorlaw7.UtfRuns", spec := "utfRuns", apart := false, narrowed := true }
def UtfRunsUptoSaid : Prop := utfRunsUptoRow.holds Try.pinned (OpenSpec.upto utfRunsSpec)

/-- 'spoorlaw7.UtfAll', WHERE WHAT IT READS IS OF BULK AT MOST 1048576: true; the input reads as it did. -/
def utfAllUptoRow : OpenClaim := { program := "ytepfmmphajdlfaa", sum := "0911559f427376c25fa6e128732980bfad36693616d7b304801f8fa3719fe5dd", func := "spoor/spoorlaw7.UtfAll", spec := "utfAll", apart := false, narrowed := true }
def UtfAllUptoSaid : Prop := utfAllUptoRow.holds Try.pinned (OpenSpec.upto utfAllSpec)

end Rows
end Go.Proofs.Ytepfmmphajdlfaa
