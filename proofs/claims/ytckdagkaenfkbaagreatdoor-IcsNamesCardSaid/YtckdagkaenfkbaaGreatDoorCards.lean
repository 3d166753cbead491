/-
  DERIVED. GIVEN WITH THE SEED: THE CARDS: each row of YtckdagkaenfkbaaGreatDoorRows.lean that lists a variable, with what it lists TIED to the program's text (the seventh form; the later family's looks); each row that meets fmt, with fmt's text TOLD by the authors' own Lean function (tested against real Go, not proved from fmt's source: count such statements apart). THE CARD IS WHAT COUNTS. Prove the row's statement (the work); the ties are given (YtckdagkaenfkbaaGreatDoorTie.lean); close each card by the builder's one call (the guide's Derived/Test/ToyasCard.lean, 'card_holds'). Laid BY PROGRAM, IN A SANDBOX (cutbox-door.mjs). By AI agents, Wed Nov 11 2026. No macro, syntax, notation, axiom, sorry.
-/
import Derived.Test.YtckdagkaenfkbaaGreatDoorRows
import GoSem.ClaimSeven
namespace Go.Proofs.YtckdagkaenfkbaaGreatDoor
namespace Rows

/-- THE TIED CARD OF 'reedpipelaw22.IcsNames'. -/
def icsNamesCard : Claim7 := { stood := { row := icsNamesRow, standIns := [], harness := (true, "328005074b12a45f6fb344a5c5e38e8e6198ab5e597d8ebada048b02eedcef69"), looks := false }, kinds := [], alts := [], laidByText := true, laidKinds := [.wider, .data, .data], laidTests := true, laidLooks := .later }
def IcsNamesCardSaid : Prop := Claim7.holds Tryz.pinned (.plain (OpenSpec.ofChange icsNamesSpec)) icsNamesCard

/-- THE TIED CARD OF 'reedpipelaw22.IcsPuts'. -/
def icsPutsCard : Claim7 := { stood := { row := icsPutsRow, standIns := [], harness := (true, "328005074b12a45f6fb344a5c5e38e8e6198ab5e597d8ebada048b02eedcef69"), looks := false }, kinds := [], alts := [], laidByText := true, laidKinds := [.wider, .data, .data], laidTests := true, laidLooks := .later }
def IcsPutsCardSaid : Prop := Claim7.holds Tryz.pinned (.plain (OpenSpec.ofChange icsPutsSpec)) icsPutsCard

/-- THE TIED CARD OF 'reedpipelaw22.IcsGets'. -/
def icsGetsCard : Claim7 := { stood := { row := icsGetsRow, standIns := [], harness := (true, "328005074b12a45f6fb344a5c5e38e8e6198ab5e597d8ebada048b02eedcef69"), looks := false }, kinds := [], alts := [], laidByText := true, laidKinds := [.wider, .data], laidTests := true, laidLooks := .later }
def IcsGetsCardSaid : Prop := Claim7.holds Tryz.pinned (.plain (OpenSpec.ofChange icsGetsSpec)) icsGetsCard

/-- THE TIED CARD OF 'reedpipelaw22.IcsBack'. -/
def icsBackCard : Claim7 := { stood := { row := icsBackRow, standIns := [], harness := (true, "328005074b12a45f6fb344a5c5e38e8e6198ab5e597d8ebada048b02eedcef69"), looks := false }, kinds := [], alts := [], laidByText := true, laidKinds := [.wider, .data, .data], laidTests := true, laidLooks := .later }
def IcsBackCardSaid : Prop := Claim7.holds Tryz.pinned (.plain (OpenSpec.ofChange icsBackSpec)) icsBackCard

/-- THE TIED CARD OF 'reedpipelaw22.IcsOnce'. -/
def icsOnceCard : Claim7 := { stood := { row := icsOnceRow, standIns := [], harness := (true, "328005074b12a45f6fb344a5c5e38e8e6198ab5e597d8ebada048b02eedcef69"), looks := false }, kinds := [], alts := [], laidByText := true, laidKinds := [.wider, .data, .data], laidTests := true, laidLooks := .later }
def IcsOnceCardSaid : Prop := Claim7.holds Tryz.pinned (.plain (OpenSpec.ofChange icsOnceSpec)) icsOnceCard

/-- THE TIED CARD OF 'reedpipelaw22.IcsCommon'. -/
def icsCommonCard : Claim7 := { stood := { row := icsCommonRow, standIns := [], harness := (true, "328005074b12a45f6fb344a5c5e38e8e6198ab5e597d8ebada048b02eedcef69"), looks := false }, kinds := [], alts := [], laidByText := true, laidKinds := [.wider, .data, .data], laidTests := true, laidLooks := .later }
def IcsCommonCardSaid : Prop := Claim7.holds Tryz.pinned (.plain (OpenSpec.ofChange icsCommonSpec)) icsCommonCard

/-- THE SECOND FORM's CARD OF 'reedpipelaw22.IcsNames'. -/
def icsNamesUptoCard : Claim7 := { stood := { row := icsNamesUptoRow, standIns := [], harness := (true, "328005074b12a45f6fb344a5c5e38e8e6198ab5e597d8ebada048b02eedcef69"), looks := false }, kinds := [], alts := [], laidByText := true, laidKinds := [.wider, .data, .data], laidTests := true, laidLooks := .later }
def IcsNamesUptoCardSaid : Prop := Claim7.holds Tryz.pinned (.plain (OpenSpec.upto icsNamesSpec)) icsNamesUptoCard

/-- THE SECOND FORM's CARD OF 'reedpipelaw22.IcsPuts'. -/
def icsPutsUptoCard : Claim7 := { stood := { row := icsPutsUptoRow, standIns := [], harness := (true, "328005074b12a45f6fb344a5c5e38e8e6198ab5e597d8ebada048b02eedcef69"), looks := false }, kinds := [], alts := [], laidByText := true, laidKinds := [.wider, .data, .data], laidTests := true, laidLooks := .later }
def IcsPutsUptoCardSaid : Prop := Claim7.holds Tryz.pinned (.plain (OpenSpec.upto icsPutsSpec)) icsPutsUptoCard

/-- THE SECOND FORM's CARD OF 'reedpipelaw22.IcsGets'. -/
def icsGetsUptoCard : Claim7 := { stood := { row := icsGetsUptoRow, standIns := [], harness := (true, "328005074b12a45f6fb344a5c5e38e8e6198ab5e597d8ebada048b02eedcef69"), looks := false }, kinds := [], alts := [], laidByText := true, laidKinds := [.wider, .data], laidTests := true, laidLooks := .later }
def IcsGetsUptoCardSaid : Prop := Claim7.holds Tryz.pinned (.plain (OpenSpec.upto icsGetsSpec)) icsGetsUptoCard

/-- THE SECOND FORM's CARD OF 'reedpipelaw22.IcsBack'. -/
def icsBackUptoCard : Claim7 := { stood := { row := icsBackUptoRow, standIns := [], harness := (true, "328005074b12a45f6fb344a5c5e38e8e6198ab5e597d8ebada048b02eedcef69"), looks := false }, kinds := [], alts := [], laidByText := true, laidKinds := [.wider, .data, .data], laidTests := true, laidLooks := .later }
def IcsBackUptoCardSaid : Prop := Claim7.holds Tryz.pinned (.plain (OpenSpec.upto icsBackSpec)) icsBackUptoCard

/-- THE SECOND FORM's CARD OF 'reedpipelaw22.IcsOnce'. -/
def icsOnceUptoCard : Claim7 := { stood := { row := icsOnceUptoRow, standIns := [], harness := (true, "328005074b12a45f6fb344a5c5e38e8e6198ab5e597d8ebada048b02eedcef69"), looks := false }, kinds := [], alts := [], laidByText := true, laidKinds := [.wider, .data, .data], laidTests := true, laidLooks := .later }
def IcsOnceUptoCardSaid : Prop := Claim7.holds Tryz.pinned (.plain (OpenSpec.upto icsOnceSpec)) icsOnceUptoCard

/-- THE SECOND FORM's CARD OF 'reedpipelaw22.IcsCommon'. -/
def icsCommonUptoCard : Claim7 := { stood := { row := icsCommonUptoRow, standIns := [], harness := (true, "328005074b12a45f6fb344a5c5e38e8e6198ab5e597d8ebada048b02eedcef69"), looks := false }, kinds := [], alts := [], laidByText := true, laidKinds := [.wider, .data, .data], laidTests := true, laidLooks := .later }
def IcsCommonUptoCardSaid : Prop := Claim7.holds Tryz.pinned (.plain (OpenSpec.upto icsCommonSpec)) icsCommonUptoCard
end Rows
end Go.Proofs.YtckdagkaenfkbaaGreatDoor
