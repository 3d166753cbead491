/-
  DERIVED. GIVEN WITH THE SEED: THE CARDS: each row of YtnonffppnngjgaaGreatDoorRows.lean that lists a variable, with what it lists TIED to the program's text (the seventh form; the later family's looks); each row that meets fmt, with fmt's text TOLD by the authors' own Lean function (tested against real Go, not proved from fmt's source: count such statements apart). THE CARD IS WHAT COUNTS. Prove the row's statement (the work); the ties are given (YtnonffppnngjgaaGreatDoorTie.lean); close each card by the builder's one call (the guide's Derived/Test/ToyasCard.lean, 'card_holds'). Laid BY PROGRAM, IN A SANDBOX (cutbox-door.mjs). By AI agents, Wed Nov 11 2026. No macro, syntax, notation, axiom, sorry.
-/
import Derived.Test.YtnonffppnngjgaaGreatDoorRows
import GoSem.ClaimSeven
namespace Go.Proofs.YtnonffppnngjgaaGreatDoor
namespace Rows

/-- THE TIED CARD OF 'reedpipelaw23.RawNames'. -/
def rawNamesCard : Claim7 := { stood := { row := rawNamesRow, standIns := [], harness := (true, "10a2d4806957dd917b4abde5191302ceece6f7b964949facc725e9a35dfd875c"), looks := false }, kinds := [], alts := [], laidByText := true, laidKinds := [.wider, .data, .data], laidTests := true, laidLooks := .later }
def RawNamesCardSaid : Prop := Claim7.holds Tryz.pinned (.plain (OpenSpec.ofChange rawNamesSpec)) rawNamesCard

/-- THE TIED CARD OF 'reedpipelaw24.MendNames'. -/
def mendNamesCard : Claim7 := { stood := { row := mendNamesRow, standIns := [], harness := (true, "10a2d4806957dd917b4abde5191302ceece6f7b964949facc725e9a35dfd875c"), looks := false }, kinds := [], alts := [], laidByText := true, laidKinds := [.wider, .data, .data, .data], laidTests := true, laidLooks := .later }
def MendNamesCardSaid : Prop := Claim7.holds Tryz.pinned (.plain (OpenSpec.ofChange mendNamesSpec)) mendNamesCard

/-- THE TIED CARD OF 'reedpipelaw25.AdtsNames'. -/
def adtsNamesCard : Claim7 := { stood := { row := adtsNamesRow, standIns := [], harness := (true, "10a2d4806957dd917b4abde5191302ceece6f7b964949facc725e9a35dfd875c"), looks := false }, kinds := [], alts := [], laidByText := true, laidKinds := [.wider, .data, .data, .data], laidTests := true, laidLooks := .later }
def AdtsNamesCardSaid : Prop := Claim7.holds Tryz.pinned (.plain (OpenSpec.ofChange adtsNamesSpec)) adtsNamesCard

/-- THE TIED CARD OF 'reedpipelaw26.SyncNames'. -/
def syncNamesCard : Claim7 := { stood := { row := syncNamesRow, standIns := [], harness := (true, "10a2d4806957dd917b4abde5191302ceece6f7b964949facc725e9a35dfd875c"), looks := false }, kinds := [], alts := [], laidByText := true, laidKinds := [.wider, .data, .data], laidTests := true, laidLooks := .later }
def SyncNamesCardSaid : Prop := Claim7.holds Tryz.pinned (.plain (OpenSpec.ofChange syncNamesSpec)) syncNamesCard

/-- THE SECOND FORM's CARD OF 'reedpipelaw23.RawNames'. -/
def rawNamesUptoCard : Claim7 := { stood := { row := rawNamesUptoRow, standIns := [], harness := (true, "10a2d4806957dd917b4abde5191302ceece6f7b964949facc725e9a35dfd875c"), looks := false }, kinds := [], alts := [], laidByText := true, laidKinds := [.wider, .data, .data], laidTests := true, laidLooks := .later }
def RawNamesUptoCardSaid : Prop := Claim7.holds Tryz.pinned (.plain (OpenSpec.upto rawNamesSpec)) rawNamesUptoCard

/-- THE SECOND FORM's CARD OF 'reedpipelaw24.MendNames'. -/
def mendNamesUptoCard : Claim7 := { stood := { row := mendNamesUptoRow, standIns := [], harness := (true, "10a2d4806957dd917b4abde5191302ceece6f7b964949facc725e9a35dfd875c"), looks := false }, kinds := [], alts := [], laidByText := true, laidKinds := [.wider, .data, .data, .data], laidTests := true, laidLooks := .later }
def MendNamesUptoCardSaid : Prop := Claim7.holds Tryz.pinned (.plain (OpenSpec.upto mendNamesSpec)) mendNamesUptoCard

/-- THE SECOND FORM's CARD OF 'reedpipelaw25.AdtsNames'. -/
def adtsNamesUptoCard : Claim7 := { stood := { row := adtsNamesUptoRow, standIns := [], harness := (true, "10a2d4806957dd917b4abde5191302ceece6f7b964949facc725e9a35dfd875c"), looks := false }, kinds := [], alts := [], laidByText := true, laidKinds := [.wider, .data, .data, .data], laidTests := true, laidLooks := .later }
def AdtsNamesUptoCardSaid : Prop := Claim7.holds Tryz.pinned (.plain (OpenSpec.upto adtsNamesSpec)) adtsNamesUptoCard

/-- THE SECOND FORM's CARD OF 'reedpipelaw26.SyncNames'. -/
def syncNamesUptoCard : Claim7 := { stood := { row := syncNamesUptoRow, standIns := [], harness := (true, "10a2d4806957dd917b4abde5191302ceece6f7b964949facc725e9a35dfd875c"), looks := false }, kinds := [], alts := [], laidByText := true, laidKinds := [.wider, .data, .data], laidTests := true, laidLooks := .later }
def SyncNamesUptoCardSaid : Prop := Claim7.holds Tryz.pinned (.plain (OpenSpec.upto syncNamesSpec)) syncNamesUptoCard
end Rows
end Go.Proofs.YtnonffppnngjgaaGreatDoor
