/-
  DERIVED. GIVEN WITH THE SEED: THE CARDS: each row of YtfeoafcghjpapaaDoorRows.lean that lists a variable, with what it lists TIED to the program's text (the seventh form; the later family's looks); each row that meets fmt, with fmt's text TOLD by the authors' own Lean function (tested against real Go, not proved from fmt's source: count such statements apart). THE CARD IS WHAT COUNTS. Prove the row's statement (the work); the ties are given (YtfeoafcghjpapaaDoorTie.lean); close each card by the builder's one call (the guide's Derived/Test/ToyasCard.lean, 'card_holds'). Laid BY PROGRAM, IN A SANDBOX (cutbox-door.mjs). By AI agents, Wed Nov 11 2026. No macro, syntax, notation, axiom, sorry.
-/
import Derived.Test.YtfeoafcghjpapaaDoorRows
import GoSem.ClaimSeven
namespace Go.Proofs.YtfeoafcghjpapaaDoor
namespace Rows

/-- THE TIED CARD OF 'reedpipelaw20.ScaleNames'. -/
def scaleNamesCard : Claim7 := { stood := { row := scaleNamesRow, standIns := [], harness := (true, "5849681a0d268a0ca459d67c23521a631ae5bfa09bfbc89fa2156e8a750222ea"), looks := false }, kinds := [], alts := [], laidByText := true, laidKinds := [.wider], laidTests := true, laidLooks := .later }
def ScaleNamesCardSaid : Prop := Claim7.holds Tryd.pinned (.plain (OpenSpec.ofChange scaleNamesSpec)) scaleNamesCard

/-- THE TIED CARD OF 'reedpipelaw20.ScaleTells'. -/
def scaleTellsCard : Claim7 := { stood := { row := scaleTellsRow, standIns := [], harness := (true, "5849681a0d268a0ca459d67c23521a631ae5bfa09bfbc89fa2156e8a750222ea"), looks := false }, kinds := [], alts := [], laidByText := true, laidKinds := [.wider], laidTests := true, laidLooks := .later }
def ScaleTellsCardSaid : Prop := Claim7.holds Tryd.pinned (.plain (OpenSpec.ofChange scaleTellsSpec)) scaleTellsCard

/-- THE TIED CARD OF 'reedpipelaw20.ScaleBack'. -/
def scaleBackCard : Claim7 := { stood := { row := scaleBackRow, standIns := [], harness := (true, "5849681a0d268a0ca459d67c23521a631ae5bfa09bfbc89fa2156e8a750222ea"), looks := false }, kinds := [], alts := [], laidByText := true, laidKinds := [.wider], laidTests := true, laidLooks := .later }
def ScaleBackCardSaid : Prop := Claim7.holds Tryd.pinned (.plain (OpenSpec.ofChange scaleBackSpec)) scaleBackCard

/-- THE TIED CARD OF 'reedpipelaw20.ScaleCuts'. -/
def scaleCutsCard : Claim7 := { stood := { row := scaleCutsRow, standIns := [], harness := (true, "5849681a0d268a0ca459d67c23521a631ae5bfa09bfbc89fa2156e8a750222ea"), looks := false }, kinds := [], alts := [], laidByText := true, laidKinds := [.wider], laidTests := true, laidLooks := .later }
def ScaleCutsCardSaid : Prop := Claim7.holds Tryd.pinned (.plain (OpenSpec.ofChange scaleCutsSpec)) scaleCutsCard

/-- THE TIED CARD OF 'reedpipelaw20.ScaleFlat'. -/
def scaleFlatCard : Claim7 := { stood := { row := scaleFlatRow, standIns := [], harness := (true, "5849681a0d268a0ca459d67c23521a631ae5bfa09bfbc89fa2156e8a750222ea"), looks := false }, kinds := [], alts := [], laidByText := true, laidKinds := [.wider], laidTests := true, laidLooks := .later }
def ScaleFlatCardSaid : Prop := Claim7.holds Tryd.pinned (.plain (OpenSpec.ofChange scaleFlatSpec)) scaleFlatCard

/-- THE TIED CARD OF 'reedpipelaw21.TnsbitsNames'. -/
def tnsbitsNamesCard : Claim7 := { stood := { row := tnsbitsNamesRow, standIns := [], harness := (true, "5849681a0d268a0ca459d67c23521a631ae5bfa09bfbc89fa2156e8a750222ea"), looks := false }, kinds := [], alts := [], laidByText := true, laidKinds := [.data], laidTests := true, laidLooks := .later }
def TnsbitsNamesCardSaid : Prop := Claim7.holds Tryd.pinned (.plain (OpenSpec.ofChange tnsbitsNamesSpec)) tnsbitsNamesCard

/-- THE TIED CARD OF 'reedpipelaw21.TnsbitsBack'. -/
def tnsbitsBackCard : Claim7 := { stood := { row := tnsbitsBackRow, standIns := [], harness := (true, "5849681a0d268a0ca459d67c23521a631ae5bfa09bfbc89fa2156e8a750222ea"), looks := false }, kinds := [], alts := [], laidByText := true, laidKinds := [.data], laidTests := true, laidLooks := .later }
def TnsbitsBackCardSaid : Prop := Claim7.holds Tryd.pinned (.plain (OpenSpec.ofChange tnsbitsBackSpec)) tnsbitsBackCard

/-- THE TIED CARD OF 'reedpipelaw21.TnsbitsNone'. -/
def tnsbitsNoneCard : Claim7 := { stood := { row := tnsbitsNoneRow, standIns := [], harness := (true, "5849681a0d268a0ca459d67c23521a631ae5bfa09bfbc89fa2156e8a750222ea"), looks := false }, kinds := [], alts := [], laidByText := true, laidKinds := [.data], laidTests := true, laidLooks := .later }
def TnsbitsNoneCardSaid : Prop := Claim7.holds Tryd.pinned (.plain (OpenSpec.ofChange tnsbitsNoneSpec)) tnsbitsNoneCard

/-- THE TIED CARD OF 'reedpipelaw21.TnsbitsNarrow'. -/
def tnsbitsNarrowCard : Claim7 := { stood := { row := tnsbitsNarrowRow, standIns := [], harness := (true, "5849681a0d268a0ca459d67c23521a631ae5bfa09bfbc89fa2156e8a750222ea"), looks := false }, kinds := [], alts := [], laidByText := true, laidKinds := [.data], laidTests := true, laidLooks := .later }
def TnsbitsNarrowCardSaid : Prop := Claim7.holds Tryd.pinned (.plain (OpenSpec.ofChange tnsbitsNarrowSpec)) tnsbitsNarrowCard

/-- THE SECOND FORM's CARD OF 'reedpipelaw20.ScaleNames'. -/
def scaleNamesUptoCard : Claim7 := { stood := { row := scaleNamesUptoRow, standIns := [], harness := (true, "5849681a0d268a0ca459d67c23521a631ae5bfa09bfbc89fa2156e8a750222ea"), looks := false }, kinds := [], alts := [], laidByText := true, laidKinds := [.wider], laidTests := true, laidLooks := .later }
def ScaleNamesUptoCardSaid : Prop := Claim7.holds Tryd.pinned (.plain (OpenSpec.upto scaleNamesSpec)) scaleNamesUptoCard

/-- THE SECOND FORM's CARD OF 'reedpipelaw20.ScaleTells'. -/
def scaleTellsUptoCard : Claim7 := { stood := { row := scaleTellsUptoRow, standIns := [], harness := (true, "5849681a0d268a0ca459d67c23521a631ae5bfa09bfbc89fa2156e8a750222ea"), looks := false }, kinds := [], alts := [], laidByText := true, laidKinds := [.wider], laidTests := true, laidLooks := .later }
def ScaleTellsUptoCardSaid : Prop := Claim7.holds Tryd.pinned (.plain (OpenSpec.upto scaleTellsSpec)) scaleTellsUptoCard

/-- THE SECOND FORM's CARD OF 'reedpipelaw20.ScaleBack'. -/
def scaleBackUptoCard : Claim7 := { stood := { row := scaleBackUptoRow, standIns := [], harness := (true, "5849681a0d268a0ca459d67c23521a631ae5bfa09bfbc89fa2156e8a750222ea"), looks := false }, kinds := [], alts := [], laidByText := true, laidKinds := [.wider], laidTests := true, laidLooks := .later }
def ScaleBackUptoCardSaid : Prop := Claim7.holds Tryd.pinned (.plain (OpenSpec.upto scaleBackSpec)) scaleBackUptoCard

/-- THE SECOND FORM's CARD OF 'reedpipelaw20.ScaleCuts'. -/
def scaleCutsUptoCard : Claim7 := { stood := { row := scaleCutsUptoRow, standIns := [], harness := (true, "5849681a0d268a0ca459d67c23521a631ae5bfa09bfbc89fa2156e8a750222ea"), looks := false }, kinds := [], alts := [], laidByText := true, laidKinds := [.wider], laidTests := true, laidLooks := .later }
def ScaleCutsUptoCardSaid : Prop := Claim7.holds Tryd.pinned (.plain (OpenSpec.upto scaleCutsSpec)) scaleCutsUptoCard

/-- THE SECOND FORM's CARD OF 'reedpipelaw20.ScaleFlat'. -/
def scaleFlatUptoCard : Claim7 := { stood := { row := scaleFlatUptoRow, standIns := [], harness := (true, "5849681a0d268a0ca459d67c23521a631ae5bfa09bfbc89fa2156e8a750222ea"), looks := false }, kinds := [], alts := [], laidByText := true, laidKinds := [.wider], laidTests := true, laidLooks := .later }
def ScaleFlatUptoCardSaid : Prop := Claim7.holds Tryd.pinned (.plain (OpenSpec.upto scaleFlatSpec)) scaleFlatUptoCard

/-- THE SECOND FORM's CARD OF 'reedpipelaw21.TnsbitsNames'. -/
def tnsbitsNamesUptoCard : Claim7 := { stood := { row := tnsbitsNamesUptoRow, standIns := [], harness := (true, "5849681a0d268a0ca459d67c23521a631ae5bfa09bfbc89fa2156e8a750222ea"), looks := false }, kinds := [], alts := [], laidByText := true, laidKinds := [.data], laidTests := true, laidLooks := .later }
def TnsbitsNamesUptoCardSaid : Prop := Claim7.holds Tryd.pinned (.plain (OpenSpec.upto tnsbitsNamesSpec)) tnsbitsNamesUptoCard

/-- THE SECOND FORM's CARD OF 'reedpipelaw21.TnsbitsBack'. -/
def tnsbitsBackUptoCard : Claim7 := { stood := { row := tnsbitsBackUptoRow, standIns := [], harness := (true, "5849681a0d268a0ca459d67c23521a631ae5bfa09bfbc89fa2156e8a750222ea"), looks := false }, kinds := [], alts := [], laidByText := true, laidKinds := [.data], laidTests := true, laidLooks := .later }
def TnsbitsBackUptoCardSaid : Prop := Claim7.holds Tryd.pinned (.plain (OpenSpec.upto tnsbitsBackSpec)) tnsbitsBackUptoCard

/-- THE SECOND FORM's CARD OF 'reedpipelaw21.TnsbitsNone'. -/
def tnsbitsNoneUptoCard : Claim7 := { stood := { row := tnsbitsNoneUptoRow, standIns := [], harness := (true, "5849681a0d268a0ca459d67c23521a631ae5bfa09bfbc89fa2156e8a750222ea"), looks := false }, kinds := [], alts := [], laidByText := true, laidKinds := [.data], laidTests := true, laidLooks := .later }
def TnsbitsNoneUptoCardSaid : Prop := Claim7.holds Tryd.pinned (.plain (OpenSpec.upto tnsbitsNoneSpec)) tnsbitsNoneUptoCard

/-- THE SECOND FORM's CARD OF 'reedpipelaw21.TnsbitsNarrow'. -/
def tnsbitsNarrowUptoCard : Claim7 := { stood := { row := tnsbitsNarrowUptoRow, standIns := [], harness := (true, "5849681a0d268a0ca459d67c23521a631ae5bfa09bfbc89fa2156e8a750222ea"), looks := false }, kinds := [], alts := [], laidByText := true, laidKinds := [.data], laidTests := true, laidLooks := .later }
def TnsbitsNarrowUptoCardSaid : Prop := Claim7.holds Tryd.pinned (.plain (OpenSpec.upto tnsbitsNarrowSpec)) tnsbitsNarrowUptoCard
end Rows
end Go.Proofs.YtfeoafcghjpapaaDoor
