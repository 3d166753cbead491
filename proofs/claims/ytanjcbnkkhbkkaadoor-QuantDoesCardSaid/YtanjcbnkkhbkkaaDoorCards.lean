/-
  DERIVED. GIVEN WITH THE SEED: THE CARDS: each row of YtanjcbnkkhbkkaaDoorRows.lean that lists a variable, with what it lists TIED to the program's text (the seventh form; the later family's looks); each row that meets fmt, with fmt's text TOLD by the authors' own Lean function (tested against real Go, not proved from fmt's source: count such statements apart). THE CARD IS WHAT COUNTS. Prove the row's statement (the work); the ties are given (YtanjcbnkkhbkkaaDoorTie.lean); close each card by the builder's one call (the guide's Derived/Test/ToyasCard.lean, 'card_holds'). Laid BY PROGRAM, IN A SANDBOX (cutbox-door.mjs). By AI agents, Wed Nov 11 2026. No macro, syntax, notation, axiom, sorry.
-/
import Derived.Test.YtanjcbnkkhbkkaaDoorRows
import GoSem.ClaimSeven
namespace Go.Proofs.YtanjcbnkkhbkkaaDoor
namespace Rows

/-- THE TIED CARD OF 'reedpipelaw07.PowerDoes'. -/
def powerDoesCard : Claim7 := { stood := { row := powerDoesRow, standIns := [], harness := (true, "803ffa06ecb612b00bba16f637f8fc81c42343e71155d8621a2ebac351b2b9df"), looks := false }, kinds := [], alts := [], laidByText := true, laidKinds := [.data], laidTests := true, laidLooks := .later }
def PowerDoesCardSaid : Prop := Claim7.holds Tryd.pinned (.plain (OpenSpec.ofChange powerDoesSpec)) powerDoesCard

/-- THE TIED CARD OF 'reedpipelaw07.PowerRises'. -/
def powerRisesCard : Claim7 := { stood := { row := powerRisesRow, standIns := [], harness := (true, "803ffa06ecb612b00bba16f637f8fc81c42343e71155d8621a2ebac351b2b9df"), looks := false }, kinds := [], alts := [], laidByText := true, laidKinds := [.data], laidTests := true, laidLooks := .later }
def PowerRisesCardSaid : Prop := Claim7.holds Tryd.pinned (.plain (OpenSpec.ofChange powerRisesSpec)) powerRisesCard

/-- THE TIED CARD OF 'reedpipelaw07.PowerNearest'. -/
def powerNearestCard : Claim7 := { stood := { row := powerNearestRow, standIns := [], harness := (true, "803ffa06ecb612b00bba16f637f8fc81c42343e71155d8621a2ebac351b2b9df"), looks := false }, kinds := [], alts := [], laidByText := true, laidKinds := [.data], laidTests := true, laidLooks := .later }
def PowerNearestCardSaid : Prop := Claim7.holds Tryd.pinned (.plain (OpenSpec.ofChange powerNearestSpec)) powerNearestCard

/-- THE TIED CARD OF 'reedpipelaw07.PowerDoubles'. -/
def powerDoublesCard : Claim7 := { stood := { row := powerDoublesRow, standIns := [], harness := (true, "803ffa06ecb612b00bba16f637f8fc81c42343e71155d8621a2ebac351b2b9df"), looks := false }, kinds := [], alts := [], laidByText := true, laidKinds := [.data], laidTests := true, laidLooks := .later }
def PowerDoublesCardSaid : Prop := Claim7.holds Tryd.pinned (.plain (OpenSpec.ofChange powerDoublesSpec)) powerDoublesCard

/-- THE TIED CARD OF 'reedpipelaw16.NoiseDoes'. -/
def noiseDoesCard : Claim7 := { stood := { row := noiseDoesRow, standIns := [], harness := (true, "803ffa06ecb612b00bba16f637f8fc81c42343e71155d8621a2ebac351b2b9df"), looks := false }, kinds := [], alts := [], laidByText := true, laidKinds := [.data], laidTests := true, laidLooks := .later }
def NoiseDoesCardSaid : Prop := Claim7.holds Tryd.pinned (.plain (OpenSpec.ofChange noiseDoesSpec)) noiseDoesCard

/-- THE TIED CARD OF 'reedpipelaw16.NoiseLoud'. -/
def noiseLoudCard : Claim7 := { stood := { row := noiseLoudRow, standIns := [], harness := (true, "803ffa06ecb612b00bba16f637f8fc81c42343e71155d8621a2ebac351b2b9df"), looks := false }, kinds := [], alts := [], laidByText := true, laidKinds := [.data], laidTests := true, laidLooks := .later }
def NoiseLoudCardSaid : Prop := Claim7.holds Tryd.pinned (.plain (OpenSpec.ofChange noiseLoudSpec)) noiseLoudCard

/-- THE TIED CARD OF 'reedpipelaw16.NoiseSame'. -/
def noiseSameCard : Claim7 := { stood := { row := noiseSameRow, standIns := [], harness := (true, "803ffa06ecb612b00bba16f637f8fc81c42343e71155d8621a2ebac351b2b9df"), looks := false }, kinds := [], alts := [], laidByText := true, laidKinds := [.data], laidTests := true, laidLooks := .later }
def NoiseSameCardSaid : Prop := Claim7.holds Tryd.pinned (.plain (OpenSpec.ofChange noiseSameSpec)) noiseSameCard

/-- THE TIED CARD OF 'reedpipelaw16.NoiseDoubles'. -/
def noiseDoublesCard : Claim7 := { stood := { row := noiseDoublesRow, standIns := [], harness := (true, "803ffa06ecb612b00bba16f637f8fc81c42343e71155d8621a2ebac351b2b9df"), looks := false }, kinds := [], alts := [], laidByText := true, laidKinds := [.data], laidTests := true, laidLooks := .later }
def NoiseDoublesCardSaid : Prop := Claim7.holds Tryd.pinned (.plain (OpenSpec.ofChange noiseDoublesSpec)) noiseDoublesCard

/-- THE TIED CARD OF 'reedpipelaw14.QuantDoes'. -/
def quantDoesCard : Claim7 := { stood := { row := quantDoesRow, standIns := [], harness := (true, "803ffa06ecb612b00bba16f637f8fc81c42343e71155d8621a2ebac351b2b9df"), looks := false }, kinds := [], alts := [], laidByText := true, laidKinds := [.data], laidTests := true, laidLooks := .later }
def QuantDoesCardSaid : Prop := Claim7.holds Tryd.pinned (.plain (OpenSpec.ofChange quantDoesSpec)) quantDoesCard

/-- THE TIED CARD OF 'reedpipelaw14.QuantOwn'. -/
def quantOwnCard : Claim7 := { stood := { row := quantOwnRow, standIns := [], harness := (true, "803ffa06ecb612b00bba16f637f8fc81c42343e71155d8621a2ebac351b2b9df"), looks := false }, kinds := [], alts := [], laidByText := true, laidKinds := [.data], laidTests := true, laidLooks := .later }
def QuantOwnCardSaid : Prop := Claim7.holds Tryd.pinned (.plain (OpenSpec.ofChange quantOwnSpec)) quantOwnCard

/-- THE TIED CARD OF 'reedpipelaw14.QuantBack'. -/
def quantBackCard : Claim7 := { stood := { row := quantBackRow, standIns := [], harness := (true, "803ffa06ecb612b00bba16f637f8fc81c42343e71155d8621a2ebac351b2b9df"), looks := false }, kinds := [], alts := [], laidByText := true, laidKinds := [.data], laidTests := true, laidLooks := .later }
def QuantBackCardSaid : Prop := Claim7.holds Tryd.pinned (.plain (OpenSpec.ofChange quantBackSpec)) quantBackCard

/-- THE TIED CARD OF 'reedpipelaw14.QuantCoarser'. -/
def quantCoarserCard : Claim7 := { stood := { row := quantCoarserRow, standIns := [], harness := (true, "803ffa06ecb612b00bba16f637f8fc81c42343e71155d8621a2ebac351b2b9df"), looks := false }, kinds := [], alts := [], laidByText := true, laidKinds := [.data], laidTests := true, laidLooks := .later }
def QuantCoarserCardSaid : Prop := Claim7.holds Tryd.pinned (.plain (OpenSpec.ofChange quantCoarserSpec)) quantCoarserCard

/-- THE SECOND FORM's CARD OF 'reedpipelaw07.PowerDoes'. -/
def powerDoesUptoCard : Claim7 := { stood := { row := powerDoesUptoRow, standIns := [], harness := (true, "803ffa06ecb612b00bba16f637f8fc81c42343e71155d8621a2ebac351b2b9df"), looks := false }, kinds := [], alts := [], laidByText := true, laidKinds := [.data], laidTests := true, laidLooks := .later }
def PowerDoesUptoCardSaid : Prop := Claim7.holds Tryd.pinned (.plain (OpenSpec.upto powerDoesSpec)) powerDoesUptoCard

/-- THE SECOND FORM's CARD OF 'reedpipelaw07.PowerRises'. -/
def powerRisesUptoCard : Claim7 := { stood := { row := powerRisesUptoRow, standIns := [], harness := (true, "803ffa06ecb612b00bba16f637f8fc81c42343e71155d8621a2ebac351b2b9df"), looks := false }, kinds := [], alts := [], laidByText := true, laidKinds := [.data], laidTests := true, laidLooks := .later }
def PowerRisesUptoCardSaid : Prop := Claim7.holds Tryd.pinned (.plain (OpenSpec.upto powerRisesSpec)) powerRisesUptoCard

/-- THE SECOND FORM's CARD OF 'reedpipelaw07.PowerNearest'. -/
def powerNearestUptoCard : Claim7 := { stood := { row := powerNearestUptoRow, standIns := [], harness := (true, "803ffa06ecb612b00bba16f637f8fc81c42343e71155d8621a2ebac351b2b9df"), looks := false }, kinds := [], alts := [], laidByText := true, laidKinds := [.data], laidTests := true, laidLooks := .later }
def PowerNearestUptoCardSaid : Prop := Claim7.holds Tryd.pinned (.plain (OpenSpec.upto powerNearestSpec)) powerNearestUptoCard

/-- THE SECOND FORM's CARD OF 'reedpipelaw07.PowerDoubles'. -/
def powerDoublesUptoCard : Claim7 := { stood := { row := powerDoublesUptoRow, standIns := [], harness := (true, "803ffa06ecb612b00bba16f637f8fc81c42343e71155d8621a2ebac351b2b9df"), looks := false }, kinds := [], alts := [], laidByText := true, laidKinds := [.data], laidTests := true, laidLooks := .later }
def PowerDoublesUptoCardSaid : Prop := Claim7.holds Tryd.pinned (.plain (OpenSpec.upto powerDoublesSpec)) powerDoublesUptoCard

/-- THE SECOND FORM's CARD OF 'reedpipelaw16.NoiseDoes'. -/
def noiseDoesUptoCard : Claim7 := { stood := { row := noiseDoesUptoRow, standIns := [], harness := (true, "803ffa06ecb612b00bba16f637f8fc81c42343e71155d8621a2ebac351b2b9df"), looks := false }, kinds := [], alts := [], laidByText := true, laidKinds := [.data], laidTests := true, laidLooks := .later }
def NoiseDoesUptoCardSaid : Prop := Claim7.holds Tryd.pinned (.plain (OpenSpec.upto noiseDoesSpec)) noiseDoesUptoCard

/-- THE SECOND FORM's CARD OF 'reedpipelaw16.NoiseLoud'. -/
def noiseLoudUptoCard : Claim7 := { stood := { row := noiseLoudUptoRow, standIns := [], harness := (true, "803ffa06ecb612b00bba16f637f8fc81c42343e71155d8621a2ebac351b2b9df"), looks := false }, kinds := [], alts := [], laidByText := true, laidKinds := [.data], laidTests := true, laidLooks := .later }
def NoiseLoudUptoCardSaid : Prop := Claim7.holds Tryd.pinned (.plain (OpenSpec.upto noiseLoudSpec)) noiseLoudUptoCard

/-- THE SECOND FORM's CARD OF 'reedpipelaw16.NoiseSame'. -/
def noiseSameUptoCard : Claim7 := { stood := { row := noiseSameUptoRow, standIns := [], harness := (true, "803ffa06ecb612b00bba16f637f8fc81c42343e71155d8621a2ebac351b2b9df"), looks := false }, kinds := [], alts := [], laidByText := true, laidKinds := [.data], laidTests := true, laidLooks := .later }
def NoiseSameUptoCardSaid : Prop := Claim7.holds Tryd.pinned (.plain (OpenSpec.upto noiseSameSpec)) noiseSameUptoCard

/-- THE SECOND FORM's CARD OF 'reedpipelaw16.NoiseDoubles'. -/
def noiseDoublesUptoCard : Claim7 := { stood := { row := noiseDoublesUptoRow, standIns := [], harness := (true, "803ffa06ecb612b00bba16f637f8fc81c42343e71155d8621a2ebac351b2b9df"), looks := false }, kinds := [], alts := [], laidByText := true, laidKinds := [.data], laidTests := true, laidLooks := .later }
def NoiseDoublesUptoCardSaid : Prop := Claim7.holds Tryd.pinned (.plain (OpenSpec.upto noiseDoublesSpec)) noiseDoublesUptoCard

/-- THE SECOND FORM's CARD OF 'reedpipelaw14.QuantDoes'. -/
def quantDoesUptoCard : Claim7 := { stood := { row := quantDoesUptoRow, standIns := [], harness := (true, "803ffa06ecb612b00bba16f637f8fc81c42343e71155d8621a2ebac351b2b9df"), looks := false }, kinds := [], alts := [], laidByText := true, laidKinds := [.data], laidTests := true, laidLooks := .later }
def QuantDoesUptoCardSaid : Prop := Claim7.holds Tryd.pinned (.plain (OpenSpec.upto quantDoesSpec)) quantDoesUptoCard

/-- THE SECOND FORM's CARD OF 'reedpipelaw14.QuantOwn'. -/
def quantOwnUptoCard : Claim7 := { stood := { row := quantOwnUptoRow, standIns := [], harness := (true, "803ffa06ecb612b00bba16f637f8fc81c42343e71155d8621a2ebac351b2b9df"), looks := false }, kinds := [], alts := [], laidByText := true, laidKinds := [.data], laidTests := true, laidLooks := .later }
def QuantOwnUptoCardSaid : Prop := Claim7.holds Tryd.pinned (.plain (OpenSpec.upto quantOwnSpec)) quantOwnUptoCard

/-- THE SECOND FORM's CARD OF 'reedpipelaw14.QuantBack'. -/
def quantBackUptoCard : Claim7 := { stood := { row := quantBackUptoRow, standIns := [], harness := (true, "803ffa06ecb612b00bba16f637f8fc81c42343e71155d8621a2ebac351b2b9df"), looks := false }, kinds := [], alts := [], laidByText := true, laidKinds := [.data], laidTests := true, laidLooks := .later }
def QuantBackUptoCardSaid : Prop := Claim7.holds Tryd.pinned (.plain (OpenSpec.upto quantBackSpec)) quantBackUptoCard

/-- THE SECOND FORM's CARD OF 'reedpipelaw14.QuantCoarser'. -/
def quantCoarserUptoCard : Claim7 := { stood := { row := quantCoarserUptoRow, standIns := [], harness := (true, "803ffa06ecb612b00bba16f637f8fc81c42343e71155d8621a2ebac351b2b9df"), looks := false }, kinds := [], alts := [], laidByText := true, laidKinds := [.data], laidTests := true, laidLooks := .later }
def QuantCoarserUptoCardSaid : Prop := Claim7.holds Tryd.pinned (.plain (OpenSpec.upto quantCoarserSpec)) quantCoarserUptoCard
end Rows
end Go.Proofs.YtanjcbnkkhbkkaaDoor
