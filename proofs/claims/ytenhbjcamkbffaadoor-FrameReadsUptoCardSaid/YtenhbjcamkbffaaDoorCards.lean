/-
  DERIVED. GIVEN WITH THE SEED: THE CARDS: each row of YtenhbjcamkbffaaDoorRows.lean that lists a variable, with what it lists TIED to the program's text (the seventh form; the later family's looks); each row that meets fmt, with fmt's text TOLD by the authors' own Lean function (tested against real Go, not proved from fmt's source: count such statements apart). THE CARD IS WHAT COUNTS. Prove the row's statement (the work); the ties are given (YtenhbjcamkbffaaDoorTie.lean); close each card by the builder's one call (the guide's Derived/Test/ToyasCard.lean, 'card_holds'). Laid BY PROGRAM, IN A SANDBOX (cutbox-door.mjs). By AI agents, Wed Nov 11 2026. No macro, syntax, notation, axiom, sorry.
-/
import Derived.Test.YtenhbjcamkbffaaDoorRows
import GoSem.ClaimSeven
namespace Go.Proofs.YtenhbjcamkbffaaDoor
namespace Rows

/-- THE TIED CARD OF 'spoorlaw26.IdentRuns'. -/
def identRunsCard : Claim7 := { stood := { row := identRunsRow, standIns := [], harness := (true, "4ababc52d10e598ed7fdd030fe837f4e38bc640eab6cdb60a25b481f487aa35d"), looks := false }, kinds := [], alts := [], laidByText := true, laidKinds := [.data, .data], laidTests := true, laidLooks := .later }
def IdentRunsCardSaid : Prop := Claim7.holds Tryd.pinned (.plain (OpenSpec.ofChange identRunsSpec)) identRunsCard

/-- THE TIED CARD OF 'spoorlaw26.IdentTells'. -/
def identTellsCard : Claim7 := { stood := { row := identTellsRow, standIns := [], harness := (true, "4ababc52d10e598ed7fdd030fe837f4e38bc640eab6cdb60a25b481f487aa35d"), looks := false }, kinds := [], alts := [], laidByText := true, laidKinds := [.data, .data], laidTests := true, laidLooks := .later }
def IdentTellsCardSaid : Prop := Claim7.holds Tryd.pinned (.plain (OpenSpec.ofChange identTellsSpec)) identTellsCard

/-- THE TIED CARD OF 'spoorlaw26.IdentGrows'. -/
def identGrowsCard : Claim7 := { stood := { row := identGrowsRow, standIns := [], harness := (true, "4ababc52d10e598ed7fdd030fe837f4e38bc640eab6cdb60a25b481f487aa35d"), looks := false }, kinds := [], alts := [], laidByText := true, laidKinds := [.data, .data], laidTests := true, laidLooks := .later }
def IdentGrowsCardSaid : Prop := Claim7.holds Tryd.pinned (.plain (OpenSpec.ofChange identGrowsSpec)) identGrowsCard

/-- THE TIED CARD OF 'spoorlaw26.IdentTurned'. -/
def identTurnedCard : Claim7 := { stood := { row := identTurnedRow, standIns := [], harness := (true, "4ababc52d10e598ed7fdd030fe837f4e38bc640eab6cdb60a25b481f487aa35d"), looks := false }, kinds := [], alts := [], laidByText := true, laidKinds := [.data, .data], laidTests := true, laidLooks := .later }
def IdentTurnedCardSaid : Prop := Claim7.holds Tryd.pinned (.plain (OpenSpec.ofChange identTurnedSpec)) identTurnedCard

/-- THE TIED CARD OF 'spoorlaw23.FrameRuns'. -/
def frameRunsCard : Claim7 := { stood := { row := frameRunsRow, standIns := [], harness := (true, "4ababc52d10e598ed7fdd030fe837f4e38bc640eab6cdb60a25b481f487aa35d"), looks := false }, kinds := [], alts := [], laidByText := true, laidKinds := [.data, .data], laidTests := true, laidLooks := .later }
def FrameRunsCardSaid : Prop := Claim7.holds Tryd.pinned (.plain (OpenSpec.ofChange frameRunsSpec)) frameRunsCard

/-- THE TIED CARD OF 'spoorlaw23.FramePuts'. -/
def framePutsCard : Claim7 := { stood := { row := framePutsRow, standIns := [], harness := (true, "4ababc52d10e598ed7fdd030fe837f4e38bc640eab6cdb60a25b481f487aa35d"), looks := false }, kinds := [], alts := [], laidByText := true, laidKinds := [.data, .data], laidTests := true, laidLooks := .later }
def FramePutsCardSaid : Prop := Claim7.holds Tryd.pinned (.plain (OpenSpec.ofChange framePutsSpec)) framePutsCard

/-- THE TIED CARD OF 'spoorlaw23.FrameReads'. -/
def frameReadsCard : Claim7 := { stood := { row := frameReadsRow, standIns := [], harness := (true, "4ababc52d10e598ed7fdd030fe837f4e38bc640eab6cdb60a25b481f487aa35d"), looks := false }, kinds := [], alts := [], laidByText := true, laidKinds := [.data, .data], laidTests := true, laidLooks := .later }
def FrameReadsCardSaid : Prop := Claim7.holds Tryd.pinned (.plain (OpenSpec.ofChange frameReadsSpec)) frameReadsCard

/-- THE TIED CARD OF 'spoorlaw23.FrameBack'. -/
def frameBackCard : Claim7 := { stood := { row := frameBackRow, standIns := [], harness := (true, "4ababc52d10e598ed7fdd030fe837f4e38bc640eab6cdb60a25b481f487aa35d"), looks := false }, kinds := [], alts := [], laidByText := true, laidKinds := [.data, .data], laidTests := true, laidLooks := .later }
def FrameBackCardSaid : Prop := Claim7.holds Tryd.pinned (.plain (OpenSpec.ofChange frameBackSpec)) frameBackCard

/-- THE TIED CARD OF 'spoorlaw23.FrameTurned'. -/
def frameTurnedCard : Claim7 := { stood := { row := frameTurnedRow, standIns := [], harness := (true, "4ababc52d10e598ed7fdd030fe837f4e38bc640eab6cdb60a25b481f487aa35d"), looks := false }, kinds := [], alts := [], laidByText := true, laidKinds := [.data, .data], laidTests := true, laidLooks := .later }
def FrameTurnedCardSaid : Prop := Claim7.holds Tryd.pinned (.plain (OpenSpec.ofChange frameTurnedSpec)) frameTurnedCard

/-- THE SECOND FORM's CARD OF 'spoorlaw26.IdentRuns'. -/
def identRunsUptoCard : Claim7 := { stood := { row := identRunsUptoRow, standIns := [], harness := (true, "4ababc52d10e598ed7fdd030fe837f4e38bc640eab6cdb60a25b481f487aa35d"), looks := false }, kinds := [], alts := [], laidByText := true, laidKinds := [.data, .data], laidTests := true, laidLooks := .later }
def IdentRunsUptoCardSaid : Prop := Claim7.holds Tryd.pinned (.plain (OpenSpec.upto identRunsSpec)) identRunsUptoCard

/-- THE SECOND FORM's CARD OF 'spoorlaw26.IdentTells'. -/
def identTellsUptoCard : Claim7 := { stood := { row := identTellsUptoRow, standIns := [], harness := (true, "4ababc52d10e598ed7fdd030fe837f4e38bc640eab6cdb60a25b481f487aa35d"), looks := false }, kinds := [], alts := [], laidByText := true, laidKinds := [.data, .data], laidTests := true, laidLooks := .later }
def IdentTellsUptoCardSaid : Prop := Claim7.holds Tryd.pinned (.plain (OpenSpec.upto identTellsSpec)) identTellsUptoCard

/-- THE SECOND FORM's CARD OF 'spoorlaw26.IdentGrows'. -/
def identGrowsUptoCard : Claim7 := { stood := { row := identGrowsUptoRow, standIns := [], harness := (true, "4ababc52d10e598ed7fdd030fe837f4e38bc640eab6cdb60a25b481f487aa35d"), looks := false }, kinds := [], alts := [], laidByText := true, laidKinds := [.data, .data], laidTests := true, laidLooks := .later }
def IdentGrowsUptoCardSaid : Prop := Claim7.holds Tryd.pinned (.plain (OpenSpec.upto identGrowsSpec)) identGrowsUptoCard

/-- THE SECOND FORM's CARD OF 'spoorlaw26.IdentTurned'. -/
def identTurnedUptoCard : Claim7 := { stood := { row := identTurnedUptoRow, standIns := [], harness := (true, "4ababc52d10e598ed7fdd030fe837f4e38bc640eab6cdb60a25b481f487aa35d"), looks := false }, kinds := [], alts := [], laidByText := true, laidKinds := [.data, .data], laidTests := true, laidLooks := .later }
def IdentTurnedUptoCardSaid : Prop := Claim7.holds Tryd.pinned (.plain (OpenSpec.upto identTurnedSpec)) identTurnedUptoCard

/-- THE SECOND FORM's CARD OF 'spoorlaw23.FrameRuns'. -/
def frameRunsUptoCard : Claim7 := { stood := { row := frameRunsUptoRow, standIns := [], harness := (true, "4ababc52d10e598ed7fdd030fe837f4e38bc640eab6cdb60a25b481f487aa35d"), looks := false }, kinds := [], alts := [], laidByText := true, laidKinds := [.data, .data], laidTests := true, laidLooks := .later }
def FrameRunsUptoCardSaid : Prop := Claim7.holds Tryd.pinned (.plain (OpenSpec.upto frameRunsSpec)) frameRunsUptoCard

/-- THE SECOND FORM's CARD OF 'spoorlaw23.FramePuts'. -/
def framePutsUptoCard : Claim7 := { stood := { row := framePutsUptoRow, standIns := [], harness := (true, "4ababc52d10e598ed7fdd030fe837f4e38bc640eab6cdb60a25b481f487aa35d"), looks := false }, kinds := [], alts := [], laidByText := true, laidKinds := [.data, .data], laidTests := true, laidLooks := .later }
def FramePutsUptoCardSaid : Prop := Claim7.holds Tryd.pinned (.plain (OpenSpec.upto framePutsSpec)) framePutsUptoCard

/-- THE SECOND FORM's CARD OF 'spoorlaw23.FrameReads'. -/
def frameReadsUptoCard : Claim7 := { stood := { row := frameReadsUptoRow, standIns := [], harness := (true, "4ababc52d10e598ed7fdd030fe837f4e38bc640eab6cdb60a25b481f487aa35d"), looks := false }, kinds := [], alts := [], laidByText := true, laidKinds := [.data, .data], laidTests := true, laidLooks := .later }
def FrameReadsUptoCardSaid : Prop := Claim7.holds Tryd.pinned (.plain (OpenSpec.upto frameReadsSpec)) frameReadsUptoCard

/-- THE SECOND FORM's CARD OF 'spoorlaw23.FrameBack'. -/
def frameBackUptoCard : Claim7 := { stood := { row := frameBackUptoRow, standIns := [], harness := (true, "4ababc52d10e598ed7fdd030fe837f4e38bc640eab6cdb60a25b481f487aa35d"), looks := false }, kinds := [], alts := [], laidByText := true, laidKinds := [.data, .data], laidTests := true, laidLooks := .later }
def FrameBackUptoCardSaid : Prop := Claim7.holds Tryd.pinned (.plain (OpenSpec.upto frameBackSpec)) frameBackUptoCard

/-- THE SECOND FORM's CARD OF 'spoorlaw23.FrameTurned'. -/
def frameTurnedUptoCard : Claim7 := { stood := { row := frameTurnedUptoRow, standIns := [], harness := (true, "4ababc52d10e598ed7fdd030fe837f4e38bc640eab6cdb60a25b481f487aa35d"), looks := false }, kinds := [], alts := [], laidByText := true, laidKinds := [.data, .data], laidTests := true, laidLooks := .later }
def FrameTurnedUptoCardSaid : Prop := Claim7.holds Tryd.pinned (.plain (OpenSpec.upto frameTurnedSpec)) frameTurnedUptoCard
end Rows
end Go.Proofs.YtenhbjcamkbffaaDoor
