/-
  DERIVED. GIVEN WITH THE SEED: THE CARDS: each row of YtmjgjgkclebljaaDoorRows.lean that lists a variable, with what it lists TIED to the program's text (the seventh form; the later family's looks); each row that meets fmt, with fmt's text TOLD by the authors' own Lean function (tested against real Go, not proved from fmt's source: count such statements apart). THE CARD IS WHAT COUNTS. Prove the row's statement (the work); the ties are given (YtmjgjgkclebljaaDoorTie.lean); close each card by the builder's one call (the guide's Derived/Test/ToyasCard.lean, 'card_holds'). Laid BY PROGRAM, IN A SANDBOX (cutbox-door.mjs). By AI agents, Wed Nov 11 2026. No macro, syntax, notation, axiom, sorry.
-/
import Derived.Test.YtmjgjgkclebljaaDoorRows
import GoSem.ClaimSeven
namespace Go.Proofs.YtmjgjgkclebljaaDoor
namespace Rows

/-- THE TIED CARD OF 'reedpipelaw18.LaneNames'. -/
def laneNamesCard : Claim7 := { stood := { row := laneNamesRow, standIns := [], harness := (true, "cc74a3982c533b6e23b4e7fdd58ef5f6ecd219cfbbce1840650798967e51feb6"), looks := false }, kinds := [], alts := [], laidByText := true, laidKinds := [.data], laidTests := true, laidLooks := .later }
def LaneNamesCardSaid : Prop := Claim7.holds Tryd.pinned (.plain (OpenSpec.ofChange laneNamesSpec)) laneNamesCard

/-- THE TIED CARD OF 'reedpipelaw18.LaneTells'. -/
def laneTellsCard : Claim7 := { stood := { row := laneTellsRow, standIns := [], harness := (true, "cc74a3982c533b6e23b4e7fdd58ef5f6ecd219cfbbce1840650798967e51feb6"), looks := false }, kinds := [], alts := [], laidByText := true, laidKinds := [.data], laidTests := true, laidLooks := .later }
def LaneTellsCardSaid : Prop := Claim7.holds Tryd.pinned (.plain (OpenSpec.ofChange laneTellsSpec)) laneTellsCard

/-- THE TIED CARD OF 'reedpipelaw18.LaneZero'. -/
def laneZeroCard : Claim7 := { stood := { row := laneZeroRow, standIns := [], harness := (true, "cc74a3982c533b6e23b4e7fdd58ef5f6ecd219cfbbce1840650798967e51feb6"), looks := false }, kinds := [], alts := [], laidByText := true, laidKinds := [.data], laidTests := true, laidLooks := .later }
def LaneZeroCardSaid : Prop := Claim7.holds Tryd.pinned (.plain (OpenSpec.ofChange laneZeroSpec)) laneZeroCard

/-- THE TIED CARD OF 'reedpipelaw18.LaneTurns'. -/
def laneTurnsCard : Claim7 := { stood := { row := laneTurnsRow, standIns := [], harness := (true, "cc74a3982c533b6e23b4e7fdd58ef5f6ecd219cfbbce1840650798967e51feb6"), looks := false }, kinds := [], alts := [], laidByText := true, laidKinds := [.data], laidTests := true, laidLooks := .later }
def LaneTurnsCardSaid : Prop := Claim7.holds Tryd.pinned (.plain (OpenSpec.ofChange laneTurnsSpec)) laneTurnsCard

/-- THE TIED CARD OF 'reedpipelaw18.LaneBooks'. -/
def laneBooksCard : Claim7 := { stood := { row := laneBooksRow, standIns := [], harness := (true, "cc74a3982c533b6e23b4e7fdd58ef5f6ecd219cfbbce1840650798967e51feb6"), looks := false }, kinds := [], alts := [], laidByText := true, laidKinds := [.data], laidTests := true, laidLooks := .later }
def LaneBooksCardSaid : Prop := Claim7.holds Tryd.pinned (.plain (OpenSpec.ofChange laneBooksSpec)) laneBooksCard

/-- THE TIED CARD OF 'reedpipelaw18.LaneSplits'. -/
def laneSplitsCard : Claim7 := { stood := { row := laneSplitsRow, standIns := [], harness := (true, "cc74a3982c533b6e23b4e7fdd58ef5f6ecd219cfbbce1840650798967e51feb6"), looks := false }, kinds := [], alts := [], laidByText := true, laidKinds := [.data], laidTests := true, laidLooks := .later }
def LaneSplitsCardSaid : Prop := Claim7.holds Tryd.pinned (.plain (OpenSpec.ofChange laneSplitsSpec)) laneSplitsCard

/-- THE SECOND FORM's CARD OF 'reedpipelaw18.LaneNames'. -/
def laneNamesUptoCard : Claim7 := { stood := { row := laneNamesUptoRow, standIns := [], harness := (true, "cc74a3982c533b6e23b4e7fdd58ef5f6ecd219cfbbce1840650798967e51feb6"), looks := false }, kinds := [], alts := [], laidByText := true, laidKinds := [.data], laidTests := true, laidLooks := .later }
def LaneNamesUptoCardSaid : Prop := Claim7.holds Tryd.pinned (.plain (OpenSpec.upto laneNamesSpec)) laneNamesUptoCard

/-- THE SECOND FORM's CARD OF 'reedpipelaw18.LaneTells'. -/
def laneTellsUptoCard : Claim7 := { stood := { row := laneTellsUptoRow, standIns := [], harness := (true, "cc74a3982c533b6e23b4e7fdd58ef5f6ecd219cfbbce1840650798967e51feb6"), looks := false }, kinds := [], alts := [], laidByText := true, laidKinds := [.data], laidTests := true, laidLooks := .later }
def LaneTellsUptoCardSaid : Prop := Claim7.holds Tryd.pinned (.plain (OpenSpec.upto laneTellsSpec)) laneTellsUptoCard

/-- THE SECOND FORM's CARD OF 'reedpipelaw18.LaneZero'. -/
def laneZeroUptoCard : Claim7 := { stood := { row := laneZeroUptoRow, standIns := [], harness := (true, "cc74a3982c533b6e23b4e7fdd58ef5f6ecd219cfbbce1840650798967e51feb6"), looks := false }, kinds := [], alts := [], laidByText := true, laidKinds := [.data], laidTests := true, laidLooks := .later }
def LaneZeroUptoCardSaid : Prop := Claim7.holds Tryd.pinned (.plain (OpenSpec.upto laneZeroSpec)) laneZeroUptoCard

/-- THE SECOND FORM's CARD OF 'reedpipelaw18.LaneTurns'. -/
def laneTurnsUptoCard : Claim7 := { stood := { row := laneTurnsUptoRow, standIns := [], harness := (true, "cc74a3982c533b6e23b4e7fdd58ef5f6ecd219cfbbce1840650798967e51feb6"), looks := false }, kinds := [], alts := [], laidByText := true, laidKinds := [.data], laidTests := true, laidLooks := .later }
def LaneTurnsUptoCardSaid : Prop := Claim7.holds Tryd.pinned (.plain (OpenSpec.upto laneTurnsSpec)) laneTurnsUptoCard

/-- THE SECOND FORM's CARD OF 'reedpipelaw18.LaneBooks'. -/
def laneBooksUptoCard : Claim7 := { stood := { row := laneBooksUptoRow, standIns := [], harness := (true, "cc74a3982c533b6e23b4e7fdd58ef5f6ecd219cfbbce1840650798967e51feb6"), looks := false }, kinds := [], alts := [], laidByText := true, laidKinds := [.data], laidTests := true, laidLooks := .later }
def LaneBooksUptoCardSaid : Prop := Claim7.holds Tryd.pinned (.plain (OpenSpec.upto laneBooksSpec)) laneBooksUptoCard

/-- THE SECOND FORM's CARD OF 'reedpipelaw18.LaneSplits'. -/
def laneSplitsUptoCard : Claim7 := { stood := { row := laneSplitsUptoRow, standIns := [], harness := (true, "cc74a3982c533b6e23b4e7fdd58ef5f6ecd219cfbbce1840650798967e51feb6"), looks := false }, kinds := [], alts := [], laidByText := true, laidKinds := [.data], laidTests := true, laidLooks := .later }
def LaneSplitsUptoCardSaid : Prop := Claim7.holds Tryd.pinned (.plain (OpenSpec.upto laneSplitsSpec)) laneSplitsUptoCard
end Rows
end Go.Proofs.YtmjgjgkclebljaaDoor
