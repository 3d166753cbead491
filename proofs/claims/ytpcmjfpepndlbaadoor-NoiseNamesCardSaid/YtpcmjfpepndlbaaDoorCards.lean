/-
  DERIVED. GIVEN WITH THE SEED: THE CARDS: each row of YtpcmjfpepndlbaaDoorRows.lean that lists a variable, with what it lists TIED to the program's text (the seventh form; the later family's looks); each row that meets fmt, with fmt's text TOLD by the authors' own Lean function (tested against real Go, not proved from fmt's source: count such statements apart). THE CARD IS WHAT COUNTS. Prove the row's statement (the work); the ties are given (YtpcmjfpepndlbaaDoorTie.lean); close each card by the builder's one call (the guide's Derived/Test/ToyasCard.lean, 'card_holds'). Laid BY PROGRAM, IN A SANDBOX (cutbox-door.mjs). By AI agents, Wed Nov 11 2026. No macro, syntax, notation, axiom, sorry.
-/
import Derived.Test.YtpcmjfpepndlbaaDoorRows
import GoSem.ClaimSeven
namespace Go.Proofs.YtpcmjfpepndlbaaDoor
namespace Rows

/-- THE TIED CARD OF 'reedpipelaw07.PowerNames'. -/
def powerNamesCard : Claim7 := { stood := { row := powerNamesRow, standIns := [], harness := (true, "09d25e27d9926668cb0333f990bdc7b9ae9beee5ec63713d00b81f6da1c3efcc"), looks := false }, kinds := [], alts := [], laidByText := true, laidKinds := [.data], laidTests := true, laidLooks := .later }
def PowerNamesCardSaid : Prop := Claim7.holds Tryd.pinned (.plain (OpenSpec.ofChange powerNamesSpec)) powerNamesCard

/-- THE TIED CARD OF 'reedpipelaw08.BookNames'. -/
def bookNamesCard : Claim7 := { stood := { row := bookNamesRow, standIns := [], harness := (true, "09d25e27d9926668cb0333f990bdc7b9ae9beee5ec63713d00b81f6da1c3efcc"), looks := false }, kinds := [], alts := [], laidByText := true, laidKinds := [.wider], laidTests := true, laidLooks := .later }
def BookNamesCardSaid : Prop := Claim7.holds Tryd.pinned (.plain (OpenSpec.ofChange bookNamesSpec)) bookNamesCard

/-- THE TIED CARD OF 'reedpipelaw09.HuffNames'. -/
def huffNamesCard : Claim7 := { stood := { row := huffNamesRow, standIns := [], harness := (true, "09d25e27d9926668cb0333f990bdc7b9ae9beee5ec63713d00b81f6da1c3efcc"), looks := false }, kinds := [], alts := [], laidByText := true, laidKinds := [.wider, .data], laidTests := true, laidLooks := .later }
def HuffNamesCardSaid : Prop := Claim7.holds Tryd.pinned (.plain (OpenSpec.ofChange huffNamesSpec)) huffNamesCard

/-- THE TIED CARD OF 'reedpipelaw10.InfoNames'. -/
def infoNamesCard : Claim7 := { stood := { row := infoNamesRow, standIns := [], harness := (true, "09d25e27d9926668cb0333f990bdc7b9ae9beee5ec63713d00b81f6da1c3efcc"), looks := false }, kinds := [], alts := [], laidByText := true, laidKinds := [.data], laidTests := true, laidLooks := .later }
def InfoNamesCardSaid : Prop := Claim7.holds Tryd.pinned (.plain (OpenSpec.ofChange infoNamesSpec)) infoNamesCard

/-- THE TIED CARD OF 'reedpipelaw16.NoiseNames'. -/
def noiseNamesCard : Claim7 := { stood := { row := noiseNamesRow, standIns := [], harness := (true, "09d25e27d9926668cb0333f990bdc7b9ae9beee5ec63713d00b81f6da1c3efcc"), looks := false }, kinds := [], alts := [], laidByText := true, laidKinds := [.data], laidTests := true, laidLooks := .later }
def NoiseNamesCardSaid : Prop := Claim7.holds Tryd.pinned (.plain (OpenSpec.ofChange noiseNamesSpec)) noiseNamesCard

/-- THE TIED CARD OF 'reedpipelaw14.QuantNames'. -/
def quantNamesCard : Claim7 := { stood := { row := quantNamesRow, standIns := [], harness := (true, "09d25e27d9926668cb0333f990bdc7b9ae9beee5ec63713d00b81f6da1c3efcc"), looks := false }, kinds := [], alts := [], laidByText := true, laidKinds := [.data], laidTests := true, laidLooks := .later }
def QuantNamesCardSaid : Prop := Claim7.holds Tryd.pinned (.plain (OpenSpec.ofChange quantNamesSpec)) quantNamesCard

/-- THE SECOND FORM's CARD OF 'reedpipelaw07.PowerNames'. -/
def powerNamesUptoCard : Claim7 := { stood := { row := powerNamesUptoRow, standIns := [], harness := (true, "09d25e27d9926668cb0333f990bdc7b9ae9beee5ec63713d00b81f6da1c3efcc"), looks := false }, kinds := [], alts := [], laidByText := true, laidKinds := [.data], laidTests := true, laidLooks := .later }
def PowerNamesUptoCardSaid : Prop := Claim7.holds Tryd.pinned (.plain (OpenSpec.upto powerNamesSpec)) powerNamesUptoCard

/-- THE SECOND FORM's CARD OF 'reedpipelaw08.BookNames'. -/
def bookNamesUptoCard : Claim7 := { stood := { row := bookNamesUptoRow, standIns := [], harness := (true, "09d25e27d9926668cb0333f990bdc7b9ae9beee5ec63713d00b81f6da1c3efcc"), looks := false }, kinds := [], alts := [], laidByText := true, laidKinds := [.wider], laidTests := true, laidLooks := .later }
def BookNamesUptoCardSaid : Prop := Claim7.holds Tryd.pinned (.plain (OpenSpec.upto bookNamesSpec)) bookNamesUptoCard

/-- THE SECOND FORM's CARD OF 'reedpipelaw09.HuffNames'. -/
def huffNamesUptoCard : Claim7 := { stood := { row := huffNamesUptoRow, standIns := [], harness := (true, "09d25e27d9926668cb0333f990bdc7b9ae9beee5ec63713d00b81f6da1c3efcc"), looks := false }, kinds := [], alts := [], laidByText := true, laidKinds := [.wider, .data], laidTests := true, laidLooks := .later }
def HuffNamesUptoCardSaid : Prop := Claim7.holds Tryd.pinned (.plain (OpenSpec.upto huffNamesSpec)) huffNamesUptoCard

/-- THE SECOND FORM's CARD OF 'reedpipelaw10.InfoNames'. -/
def infoNamesUptoCard : Claim7 := { stood := { row := infoNamesUptoRow, standIns := [], harness := (true, "09d25e27d9926668cb0333f990bdc7b9ae9beee5ec63713d00b81f6da1c3efcc"), looks := false }, kinds := [], alts := [], laidByText := true, laidKinds := [.data], laidTests := true, laidLooks := .later }
def InfoNamesUptoCardSaid : Prop := Claim7.holds Tryd.pinned (.plain (OpenSpec.upto infoNamesSpec)) infoNamesUptoCard

/-- THE SECOND FORM's CARD OF 'reedpipelaw16.NoiseNames'. -/
def noiseNamesUptoCard : Claim7 := { stood := { row := noiseNamesUptoRow, standIns := [], harness := (true, "09d25e27d9926668cb0333f990bdc7b9ae9beee5ec63713d00b81f6da1c3efcc"), looks := false }, kinds := [], alts := [], laidByText := true, laidKinds := [.data], laidTests := true, laidLooks := .later }
def NoiseNamesUptoCardSaid : Prop := Claim7.holds Tryd.pinned (.plain (OpenSpec.upto noiseNamesSpec)) noiseNamesUptoCard

/-- THE SECOND FORM's CARD OF 'reedpipelaw14.QuantNames'. -/
def quantNamesUptoCard : Claim7 := { stood := { row := quantNamesUptoRow, standIns := [], harness := (true, "09d25e27d9926668cb0333f990bdc7b9ae9beee5ec63713d00b81f6da1c3efcc"), looks := false }, kinds := [], alts := [], laidByText := true, laidKinds := [.data], laidTests := true, laidLooks := .later }
def QuantNamesUptoCardSaid : Prop := Claim7.holds Tryd.pinned (.plain (OpenSpec.upto quantNamesSpec)) quantNamesUptoCard
end Rows
end Go.Proofs.YtpcmjfpepndlbaaDoor
