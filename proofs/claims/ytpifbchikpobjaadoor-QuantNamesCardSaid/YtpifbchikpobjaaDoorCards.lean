/-
  DERIVED. GIVEN WITH THE SEED: THE CARDS: each row of YtpifbchikpobjaaDoorRows.lean that lists a variable, with what it lists TIED to the program's text (the seventh form; the later family's looks); each row that meets fmt, with fmt's text TOLD by the authors' own Lean function (tested against real Go, not proved from fmt's source: count such statements apart). THE CARD IS WHAT COUNTS. Prove the row's statement (the work); the ties are given (YtpifbchikpobjaaDoorTie.lean); close each card by the builder's one call (the guide's Derived/Test/ToyasCard.lean, 'card_holds'). Laid BY PROGRAM, IN A SANDBOX (cutbox-door.mjs). By AI agents, Wed Nov 11 2026. No macro, syntax, notation, axiom, sorry.
-/
import Derived.Test.YtpifbchikpobjaaDoorRows
import GoSem.ClaimSeven
namespace Go.Proofs.YtpifbchikpobjaaDoor
namespace Rows

/-- THE TIED CARD OF 'reedpipelaw14.QuantNames'. -/
def quantNamesCard : Claim7 := { stood := { row := quantNamesRow, standIns := [], harness := (true, "76cb498223057661283f4973a522c92fc3a24a568c55d80e7498baf8202b2a43"), looks := false }, kinds := [], alts := [], laidByText := true, laidKinds := [.data], laidTests := true, laidLooks := .later }
def QuantNamesCardSaid : Prop := Claim7.holds Tryd.pinned (.plain (OpenSpec.ofChange quantNamesSpec)) quantNamesCard

/-- THE TIED CARD OF 'reedpipelaw14.QuantDoes'. -/
def quantDoesCard : Claim7 := { stood := { row := quantDoesRow, standIns := [], harness := (true, "76cb498223057661283f4973a522c92fc3a24a568c55d80e7498baf8202b2a43"), looks := false }, kinds := [], alts := [], laidByText := true, laidKinds := [.data], laidTests := true, laidLooks := .later }
def QuantDoesCardSaid : Prop := Claim7.holds Tryd.pinned (.plain (OpenSpec.ofChange quantDoesSpec)) quantDoesCard

/-- THE TIED CARD OF 'reedpipelaw14.QuantOwn'. -/
def quantOwnCard : Claim7 := { stood := { row := quantOwnRow, standIns := [], harness := (true, "76cb498223057661283f4973a522c92fc3a24a568c55d80e7498baf8202b2a43"), looks := false }, kinds := [], alts := [], laidByText := true, laidKinds := [.data], laidTests := true, laidLooks := .later }
def QuantOwnCardSaid : Prop := Claim7.holds Tryd.pinned (.plain (OpenSpec.ofChange quantOwnSpec)) quantOwnCard

/-- THE TIED CARD OF 'reedpipelaw14.QuantBack'. -/
def quantBackCard : Claim7 := { stood := { row := quantBackRow, standIns := [], harness := (true, "76cb498223057661283f4973a522c92fc3a24a568c55d80e7498baf8202b2a43"), looks := false }, kinds := [], alts := [], laidByText := true, laidKinds := [.data], laidTests := true, laidLooks := .later }
def QuantBackCardSaid : Prop := Claim7.holds Tryd.pinned (.plain (OpenSpec.ofChange quantBackSpec)) quantBackCard

/-- THE TIED CARD OF 'reedpipelaw14.QuantCoarser'. -/
def quantCoarserCard : Claim7 := { stood := { row := quantCoarserRow, standIns := [], harness := (true, "76cb498223057661283f4973a522c92fc3a24a568c55d80e7498baf8202b2a43"), looks := false }, kinds := [], alts := [], laidByText := true, laidKinds := [.data], laidTests := true, laidLooks := .later }
def QuantCoarserCardSaid : Prop := Claim7.holds Tryd.pinned (.plain (OpenSpec.ofChange quantCoarserSpec)) quantCoarserCard

/-- THE SECOND FORM's CARD OF 'reedpipelaw14.QuantNames'. -/
def quantNamesUptoCard : Claim7 := { stood := { row := quantNamesUptoRow, standIns := [], harness := (true, "76cb498223057661283f4973a522c92fc3a24a568c55d80e7498baf8202b2a43"), looks := false }, kinds := [], alts := [], laidByText := true, laidKinds := [.data], laidTests := true, laidLooks := .later }
def QuantNamesUptoCardSaid : Prop := Claim7.holds Tryd.pinned (.plain (OpenSpec.upto quantNamesSpec)) quantNamesUptoCard

/-- THE SECOND FORM's CARD OF 'reedpipelaw14.QuantDoes'. -/
def quantDoesUptoCard : Claim7 := { stood := { row := quantDoesUptoRow, standIns := [], harness := (true, "76cb498223057661283f4973a522c92fc3a24a568c55d80e7498baf8202b2a43"), looks := false }, kinds := [], alts := [], laidByText := true, laidKinds := [.data], laidTests := true, laidLooks := .later }
def QuantDoesUptoCardSaid : Prop := Claim7.holds Tryd.pinned (.plain (OpenSpec.upto quantDoesSpec)) quantDoesUptoCard

/-- THE SECOND FORM's CARD OF 'reedpipelaw14.QuantOwn'. -/
def quantOwnUptoCard : Claim7 := { stood := { row := quantOwnUptoRow, standIns := [], harness := (true, "76cb498223057661283f4973a522c92fc3a24a568c55d80e7498baf8202b2a43"), looks := false }, kinds := [], alts := [], laidByText := true, laidKinds := [.data], laidTests := true, laidLooks := .later }
def QuantOwnUptoCardSaid : Prop := Claim7.holds Tryd.pinned (.plain (OpenSpec.upto quantOwnSpec)) quantOwnUptoCard

/-- THE SECOND FORM's CARD OF 'reedpipelaw14.QuantBack'. -/
def quantBackUptoCard : Claim7 := { stood := { row := quantBackUptoRow, standIns := [], harness := (true, "76cb498223057661283f4973a522c92fc3a24a568c55d80e7498baf8202b2a43"), looks := false }, kinds := [], alts := [], laidByText := true, laidKinds := [.data], laidTests := true, laidLooks := .later }
def QuantBackUptoCardSaid : Prop := Claim7.holds Tryd.pinned (.plain (OpenSpec.upto quantBackSpec)) quantBackUptoCard

/-- THE SECOND FORM's CARD OF 'reedpipelaw14.QuantCoarser'. -/
def quantCoarserUptoCard : Claim7 := { stood := { row := quantCoarserUptoRow, standIns := [], harness := (true, "76cb498223057661283f4973a522c92fc3a24a568c55d80e7498baf8202b2a43"), looks := false }, kinds := [], alts := [], laidByText := true, laidKinds := [.data], laidTests := true, laidLooks := .later }
def QuantCoarserUptoCardSaid : Prop := Claim7.holds Tryd.pinned (.plain (OpenSpec.upto quantCoarserSpec)) quantCoarserUptoCard
end Rows
end Go.Proofs.YtpifbchikpobjaaDoor
