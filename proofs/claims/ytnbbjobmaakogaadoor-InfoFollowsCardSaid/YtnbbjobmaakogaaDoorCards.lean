/-
  DERIVED. GIVEN WITH THE SEED: THE CARDS: each row of YtnbbjobmaakogaaDoorRows.lean that lists a variable, with what it lists TIED to the program's text (the seventh form; the later family's looks); each row that meets fmt, with fmt's text TOLD by the authors' own Lean function (tested against real Go, not proved from fmt's source: count such statements apart). THE CARD IS WHAT COUNTS. Prove the row's statement (the work); the ties are given (YtnbbjobmaakogaaDoorTie.lean); close each card by the builder's one call (the guide's Derived/Test/ToyasCard.lean, 'card_holds'). Laid BY PROGRAM, IN A SANDBOX (cutbox-door.mjs). By AI agents, Wed Nov 11 2026. No macro, syntax, notation, axiom, sorry.
-/
import Derived.Test.YtnbbjobmaakogaaDoorRows
import GoSem.ClaimSeven
namespace Go.Proofs.YtnbbjobmaakogaaDoor
namespace Rows

/-- THE TIED CARD OF 'reedpipelaw10.InfoFollows'. -/
def infoFollowsCard : Claim7 := { stood := { row := infoFollowsRow, standIns := [], harness := (true, "b369b38d164aa9c2ba63d1c2241a6056a63725deb6c62e99306e938ce4869592"), looks := false }, kinds := [], alts := [], laidByText := true, laidKinds := [.data], laidTests := true, laidLooks := .later }
def InfoFollowsCardSaid : Prop := Claim7.holds Tryd.pinned (.plain (OpenSpec.ofChange infoFollowsSpec)) infoFollowsCard

/-- THE SECOND FORM's CARD OF 'reedpipelaw10.InfoFollows'. -/
def infoFollowsUptoCard : Claim7 := { stood := { row := infoFollowsUptoRow, standIns := [], harness := (true, "b369b38d164aa9c2ba63d1c2241a6056a63725deb6c62e99306e938ce4869592"), looks := false }, kinds := [], alts := [], laidByText := true, laidKinds := [.data], laidTests := true, laidLooks := .later }
def InfoFollowsUptoCardSaid : Prop := Claim7.holds Tryd.pinned (.plain (OpenSpec.upto infoFollowsSpec)) infoFollowsUptoCard
end Rows
end Go.Proofs.YtnbbjobmaakogaaDoor
