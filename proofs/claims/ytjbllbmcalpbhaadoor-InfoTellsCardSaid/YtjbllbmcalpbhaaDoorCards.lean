/-
  DERIVED. GIVEN WITH THE SEED: THE CARDS: each row of YtjbllbmcalpbhaaDoorRows.lean that lists a variable, with what it lists TIED to the program's text (the seventh form; the later family's looks); each row that meets fmt, with fmt's text TOLD by the authors' own Lean function (tested against real Go, not proved from fmt's source: count such statements apart). THE CARD IS WHAT COUNTS. Prove the row's statement (the work); the ties are given (YtjbllbmcalpbhaaDoorTie.lean); close each card by the builder's one call (the guide's Derived/Test/ToyasCard.lean, 'card_holds'). Laid BY PROGRAM, IN A SANDBOX (cutbox-door.mjs). By AI agents, Wed Nov 11 2026. No macro, syntax, notation, axiom, sorry.
-/
import Derived.Test.YtjbllbmcalpbhaaDoorRows
import GoSem.ClaimSeven
namespace Go.Proofs.YtjbllbmcalpbhaaDoor
namespace Rows

/-- THE TIED CARD OF 'reedpipelaw10.InfoTells'. -/
def infoTellsCard : Claim7 := { stood := { row := infoTellsRow, standIns := [], harness := (true, "1156624174538a5d29cd1f2c25efee93a68411d49330911a7c6b84155b7cf972"), looks := false }, kinds := [], alts := [], laidByText := true, laidKinds := [.data], laidTests := true, laidLooks := .later }
def InfoTellsCardSaid : Prop := Claim7.holds Tryd.pinned (.plain (OpenSpec.ofChange infoTellsSpec)) infoTellsCard

/-- THE SECOND FORM's CARD OF 'reedpipelaw10.InfoTells'. -/
def infoTellsUptoCard : Claim7 := { stood := { row := infoTellsUptoRow, standIns := [], harness := (true, "1156624174538a5d29cd1f2c25efee93a68411d49330911a7c6b84155b7cf972"), looks := false }, kinds := [], alts := [], laidByText := true, laidKinds := [.data], laidTests := true, laidLooks := .later }
def InfoTellsUptoCardSaid : Prop := Claim7.holds Tryd.pinned (.plain (OpenSpec.upto infoTellsSpec)) infoTellsUptoCard
end Rows
end Go.Proofs.YtjbllbmcalpbhaaDoor
