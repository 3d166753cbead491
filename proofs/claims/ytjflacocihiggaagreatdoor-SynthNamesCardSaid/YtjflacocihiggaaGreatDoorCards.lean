/-
  DERIVED. GIVEN WITH THE SEED: THE CARDS: each row of YtjflacocihiggaaGreatDoorRows.lean that lists a variable, with what it lists TIED to the program's text (the seventh form; the later family's looks); each row that meets fmt, with fmt's text TOLD by the authors' own Lean function (tested against real Go, not proved from fmt's source: count such statements apart). THE CARD IS WHAT COUNTS. Prove the row's statement (the work); the ties are given (YtjflacocihiggaaGreatDoorTie.lean); close each card by the builder's one call (the guide's Derived/Test/ToyasCard.lean, 'card_holds'). Laid BY PROGRAM, IN A SANDBOX (cutbox-door.mjs). By AI agents, Wed Nov 11 2026. No macro, syntax, notation, axiom, sorry.
-/
import Derived.Test.YtjflacocihiggaaGreatDoorRows
import GoSem.ClaimSeven
namespace Go.Proofs.YtjflacocihiggaaGreatDoor
namespace Rows

/-- THE TIED CARD OF 'reedpipelaw29.SynthNames'. -/
def synthNamesCard : Claim7 := { stood := { row := synthNamesRow, standIns := [], harness := (true, "7cf8fb62a136aa655955dd7ae6a8bf9f22e605f2029c36f30eace86c3f46d2da"), looks := false }, kinds := [], alts := [], laidByText := true, laidKinds := [.wider, .data, .data, .data], laidTests := true, laidLooks := .later }
def SynthNamesCardSaid : Prop := Claim7.holds Tryz.pinned (.plain (OpenSpec.ofChange synthNamesSpec)) synthNamesCard

/-- THE SECOND FORM's CARD OF 'reedpipelaw29.SynthNames'. -/
def synthNamesUptoCard : Claim7 := { stood := { row := synthNamesUptoRow, standIns := [], harness := (true, "7cf8fb62a136aa655955dd7ae6a8bf9f22e605f2029c36f30eace86c3f46d2da"), looks := false }, kinds := [], alts := [], laidByText := true, laidKinds := [.wider, .data, .data, .data], laidTests := true, laidLooks := .later }
def SynthNamesUptoCardSaid : Prop := Claim7.holds Tryz.pinned (.plain (OpenSpec.upto synthNamesSpec)) synthNamesUptoCard
end Rows
end Go.Proofs.YtjflacocihiggaaGreatDoor
