/-
  DERIVED. GIVEN WITH THE SEED: THE CARDS: each row of YteklahfgplbmcaaDoorRows.lean that lists a variable, with what it lists TIED to the program's text (the seventh form; the later family's looks); each row that meets fmt, with fmt's text TOLD by the authors' own Lean function (tested against real Go, not proved from fmt's source: count such statements apart). THE CARD IS WHAT COUNTS. Prove the row's statement (the work); the ties are given (YteklahfgplbmcaaDoorTie.lean); close each card by the builder's one call (the guide's Derived/Test/ToyasCard.lean, 'card_holds'). Laid BY PROGRAM, IN A SANDBOX (cutbox-door.mjs). By AI agents, Wed Nov 11 2026. No macro, syntax, notation, axiom, sorry.
-/
import Derived.Test.YteklahfgplbmcaaDoorRows
import GoSem.ClaimSeven
namespace Go.Proofs.YteklahfgplbmcaaDoor
namespace Rows

/-- THE TIED CARD OF 'reedpipelaw08.BookNames'. -/
def bookNamesCard : Claim7 := { stood := { row := bookNamesRow, standIns := [], harness := (true, "f1af4ae422aaa63375587ac6925b0a9350f58b80360103638922a5bd570e012e"), looks := false }, kinds := [], alts := [], laidByText := true, laidKinds := [.wider], laidTests := true, laidLooks := .later }
def BookNamesCardSaid : Prop := Claim7.holds Tryd.pinned (.plain (OpenSpec.ofChange bookNamesSpec)) bookNamesCard

/-- THE TIED CARD OF 'reedpipelaw08.BookTells'. -/
def bookTellsCard : Claim7 := { stood := { row := bookTellsRow, standIns := [], harness := (true, "f1af4ae422aaa63375587ac6925b0a9350f58b80360103638922a5bd570e012e"), looks := false }, kinds := [], alts := [], laidByText := true, laidKinds := [.wider], laidTests := true, laidLooks := .later }
def BookTellsCardSaid : Prop := Claim7.holds Tryd.pinned (.plain (OpenSpec.ofChange bookTellsSpec)) bookTellsCard

/-- THE TIED CARD OF 'reedpipelaw08.BookCodes'. -/
def bookCodesCard : Claim7 := { stood := { row := bookCodesRow, standIns := [], harness := (true, "f1af4ae422aaa63375587ac6925b0a9350f58b80360103638922a5bd570e012e"), looks := false }, kinds := [], alts := [], laidByText := true, laidKinds := [.wider], laidTests := true, laidLooks := .later }
def BookCodesCardSaid : Prop := Claim7.holds Tryd.pinned (.plain (OpenSpec.ofChange bookCodesSpec)) bookCodesCard

/-- THE TIED CARD OF 'reedpipelaw08.BookEntries'. -/
def bookEntriesCard : Claim7 := { stood := { row := bookEntriesRow, standIns := [], harness := (true, "f1af4ae422aaa63375587ac6925b0a9350f58b80360103638922a5bd570e012e"), looks := false }, kinds := [], alts := [], laidByText := true, laidKinds := [.wider], laidTests := true, laidLooks := .later }
def BookEntriesCardSaid : Prop := Claim7.holds Tryd.pinned (.plain (OpenSpec.ofChange bookEntriesSpec)) bookEntriesCard

/-- THE TIED CARD OF 'reedpipelaw08.BookPrefix'. -/
def bookPrefixCard : Claim7 := { stood := { row := bookPrefixRow, standIns := [], harness := (true, "f1af4ae422aaa63375587ac6925b0a9350f58b80360103638922a5bd570e012e"), looks := false }, kinds := [], alts := [], laidByText := true, laidKinds := [.wider], laidTests := true, laidLooks := .later }
def BookPrefixCardSaid : Prop := Claim7.holds Tryd.pinned (.plain (OpenSpec.ofChange bookPrefixSpec)) bookPrefixCard

/-- THE TIED CARD OF 'reedpipelaw08.BookShort'. -/
def bookShortCard : Claim7 := { stood := { row := bookShortRow, standIns := [], harness := (true, "f1af4ae422aaa63375587ac6925b0a9350f58b80360103638922a5bd570e012e"), looks := false }, kinds := [], alts := [], laidByText := true, laidKinds := [.wider], laidTests := true, laidLooks := .later }
def BookShortCardSaid : Prop := Claim7.holds Tryd.pinned (.plain (OpenSpec.ofChange bookShortSpec)) bookShortCard

/-- THE TIED CARD OF 'reedpipelaw08.BookRanks'. -/
def bookRanksCard : Claim7 := { stood := { row := bookRanksRow, standIns := [], harness := (true, "f1af4ae422aaa63375587ac6925b0a9350f58b80360103638922a5bd570e012e"), looks := false }, kinds := [], alts := [], laidByText := true, laidKinds := [.wider], laidTests := true, laidLooks := .later }
def BookRanksCardSaid : Prop := Claim7.holds Tryd.pinned (.plain (OpenSpec.ofChange bookRanksSpec)) bookRanksCard

/-- THE TIED CARD OF 'reedpipelaw09.HuffTells'. -/
def huffTellsCard : Claim7 := { stood := { row := huffTellsRow, standIns := [], harness := (true, "f1af4ae422aaa63375587ac6925b0a9350f58b80360103638922a5bd570e012e"), looks := false }, kinds := [], alts := [], laidByText := true, laidKinds := [.wider, .data], laidTests := true, laidLooks := .later }
def HuffTellsCardSaid : Prop := Claim7.holds Tryd.pinned (.plain (OpenSpec.ofChange huffTellsSpec)) huffTellsCard

/-- THE TIED CARD OF 'reedpipelaw09.HuffSteps'. -/
def huffStepsCard : Claim7 := { stood := { row := huffStepsRow, standIns := [], harness := (true, "f1af4ae422aaa63375587ac6925b0a9350f58b80360103638922a5bd570e012e"), looks := false }, kinds := [], alts := [], laidByText := true, laidKinds := [.wider], laidTests := true, laidLooks := .later }
def HuffStepsCardSaid : Prop := Claim7.holds Tryd.pinned (.plain (OpenSpec.ofChange huffStepsSpec)) huffStepsCard

/-- THE TIED CARD OF 'reedpipelaw09.HuffBack'. -/
def huffBackCard : Claim7 := { stood := { row := huffBackRow, standIns := [], harness := (true, "f1af4ae422aaa63375587ac6925b0a9350f58b80360103638922a5bd570e012e"), looks := false }, kinds := [], alts := [], laidByText := true, laidKinds := [.wider, .data], laidTests := true, laidLooks := .later }
def HuffBackCardSaid : Prop := Claim7.holds Tryd.pinned (.plain (OpenSpec.ofChange huffBackSpec)) huffBackCard

/-- THE TIED CARD OF 'reedpipelaw09.HuffStepBack'. -/
def huffStepBackCard : Claim7 := { stood := { row := huffStepBackRow, standIns := [], harness := (true, "f1af4ae422aaa63375587ac6925b0a9350f58b80360103638922a5bd570e012e"), looks := false }, kinds := [], alts := [], laidByText := true, laidKinds := [.wider, .data], laidTests := true, laidLooks := .later }
def HuffStepBackCardSaid : Prop := Claim7.holds Tryd.pinned (.plain (OpenSpec.ofChange huffStepBackSpec)) huffStepBackCard

/-- THE TIED CARD OF 'reedpipelaw09.HuffSigns'. -/
def huffSignsCard : Claim7 := { stood := { row := huffSignsRow, standIns := [], harness := (true, "f1af4ae422aaa63375587ac6925b0a9350f58b80360103638922a5bd570e012e"), looks := false }, kinds := [], alts := [], laidByText := true, laidKinds := [.wider, .data], laidTests := true, laidLooks := .later }
def HuffSignsCardSaid : Prop := Claim7.holds Tryd.pinned (.plain (OpenSpec.ofChange huffSignsSpec)) huffSignsCard

/-- THE SECOND FORM's CARD OF 'reedpipelaw08.BookNames'. -/
def bookNamesUptoCard : Claim7 := { stood := { row := bookNamesUptoRow, standIns := [], harness := (true, "f1af4ae422aaa63375587ac6925b0a9350f58b80360103638922a5bd570e012e"), looks := false }, kinds := [], alts := [], laidByText := true, laidKinds := [.wider], laidTests := true, laidLooks := .later }
def BookNamesUptoCardSaid : Prop := Claim7.holds Tryd.pinned (.plain (OpenSpec.upto bookNamesSpec)) bookNamesUptoCard

/-- THE SECOND FORM's CARD OF 'reedpipelaw08.BookTells'. -/
def bookTellsUptoCard : Claim7 := { stood := { row := bookTellsUptoRow, standIns := [], harness := (true, "f1af4ae422aaa63375587ac6925b0a9350f58b80360103638922a5bd570e012e"), looks := false }, kinds := [], alts := [], laidByText := true, laidKinds := [.wider], laidTests := true, laidLooks := .later }
def BookTellsUptoCardSaid : Prop := Claim7.holds Tryd.pinned (.plain (OpenSpec.upto bookTellsSpec)) bookTellsUptoCard

/-- THE SECOND FORM's CARD OF 'reedpipelaw08.BookCodes'. -/
def bookCodesUptoCard : Claim7 := { stood := { row := bookCodesUptoRow, standIns := [], harness := (true, "f1af4ae422aaa63375587ac6925b0a9350f58b80360103638922a5bd570e012e"), looks := false }, kinds := [], alts := [], laidByText := true, laidKinds := [.wider], laidTests := true, laidLooks := .later }
def BookCodesUptoCardSaid : Prop := Claim7.holds Tryd.pinned (.plain (OpenSpec.upto bookCodesSpec)) bookCodesUptoCard

/-- THE SECOND FORM's CARD OF 'reedpipelaw08.BookEntries'. -/
def bookEntriesUptoCard : Claim7 := { stood := { row := bookEntriesUptoRow, standIns := [], harness := (true, "f1af4ae422aaa63375587ac6925b0a9350f58b80360103638922a5bd570e012e"), looks := false }, kinds := [], alts := [], laidByText := true, laidKinds := [.wider], laidTests := true, laidLooks := .later }
def BookEntriesUptoCardSaid : Prop := Claim7.holds Tryd.pinned (.plain (OpenSpec.upto bookEntriesSpec)) bookEntriesUptoCard

/-- THE SECOND FORM's CARD OF 'reedpipelaw08.BookPrefix'. -/
def bookPrefixUptoCard : Claim7 := { stood := { row := bookPrefixUptoRow, standIns := [], harness := (true, "f1af4ae422aaa63375587ac6925b0a9350f58b80360103638922a5bd570e012e"), looks := false }, kinds := [], alts := [], laidByText := true, laidKinds := [.wider], laidTests := true, laidLooks := .later }
def BookPrefixUptoCardSaid : Prop := Claim7.holds Tryd.pinned (.plain (OpenSpec.upto bookPrefixSpec)) bookPrefixUptoCard

/-- THE SECOND FORM's CARD OF 'reedpipelaw08.BookShort'. -/
def bookShortUptoCard : Claim7 := { stood := { row := bookShortUptoRow, standIns := [], harness := (true, "f1af4ae422aaa63375587ac6925b0a9350f58b80360103638922a5bd570e012e"), looks := false }, kinds := [], alts := [], laidByText := true, laidKinds := [.wider], laidTests := true, laidLooks := .later }
def BookShortUptoCardSaid : Prop := Claim7.holds Tryd.pinned (.plain (OpenSpec.upto bookShortSpec)) bookShortUptoCard

/-- THE SECOND FORM's CARD OF 'reedpipelaw08.BookRanks'. -/
def bookRanksUptoCard : Claim7 := { stood := { row := bookRanksUptoRow, standIns := [], harness := (true, "f1af4ae422aaa63375587ac6925b0a9350f58b80360103638922a5bd570e012e"), looks := false }, kinds := [], alts := [], laidByText := true, laidKinds := [.wider], laidTests := true, laidLooks := .later }
def BookRanksUptoCardSaid : Prop := Claim7.holds Tryd.pinned (.plain (OpenSpec.upto bookRanksSpec)) bookRanksUptoCard

/-- THE SECOND FORM's CARD OF 'reedpipelaw09.HuffTells'. -/
def huffTellsUptoCard : Claim7 := { stood := { row := huffTellsUptoRow, standIns := [], harness := (true, "f1af4ae422aaa63375587ac6925b0a9350f58b80360103638922a5bd570e012e"), looks := false }, kinds := [], alts := [], laidByText := true, laidKinds := [.wider, .data], laidTests := true, laidLooks := .later }
def HuffTellsUptoCardSaid : Prop := Claim7.holds Tryd.pinned (.plain (OpenSpec.upto huffTellsSpec)) huffTellsUptoCard

/-- THE SECOND FORM's CARD OF 'reedpipelaw09.HuffSteps'. -/
def huffStepsUptoCard : Claim7 := { stood := { row := huffStepsUptoRow, standIns := [], harness := (true, "f1af4ae422aaa63375587ac6925b0a9350f58b80360103638922a5bd570e012e"), looks := false }, kinds := [], alts := [], laidByText := true, laidKinds := [.wider], laidTests := true, laidLooks := .later }
def HuffStepsUptoCardSaid : Prop := Claim7.holds Tryd.pinned (.plain (OpenSpec.upto huffStepsSpec)) huffStepsUptoCard

/-- THE SECOND FORM's CARD OF 'reedpipelaw09.HuffBack'. -/
def huffBackUptoCard : Claim7 := { stood := { row := huffBackUptoRow, standIns := [], harness := (true, "f1af4ae422aaa63375587ac6925b0a9350f58b80360103638922a5bd570e012e"), looks := false }, kinds := [], alts := [], laidByText := true, laidKinds := [.wider, .data], laidTests := true, laidLooks := .later }
def HuffBackUptoCardSaid : Prop := Claim7.holds Tryd.pinned (.plain (OpenSpec.upto huffBackSpec)) huffBackUptoCard

/-- THE SECOND FORM's CARD OF 'reedpipelaw09.HuffStepBack'. -/
def huffStepBackUptoCard : Claim7 := { stood := { row := huffStepBackUptoRow, standIns := [], harness := (true, "f1af4ae422aaa63375587ac6925b0a9350f58b80360103638922a5bd570e012e"), looks := false }, kinds := [], alts := [], laidByText := true, laidKinds := [.wider, .data], laidTests := true, laidLooks := .later }
def HuffStepBackUptoCardSaid : Prop := Claim7.holds Tryd.pinned (.plain (OpenSpec.upto huffStepBackSpec)) huffStepBackUptoCard

/-- THE SECOND FORM's CARD OF 'reedpipelaw09.HuffSigns'. -/
def huffSignsUptoCard : Claim7 := { stood := { row := huffSignsUptoRow, standIns := [], harness := (true, "f1af4ae422aaa63375587ac6925b0a9350f58b80360103638922a5bd570e012e"), looks := false }, kinds := [], alts := [], laidByText := true, laidKinds := [.wider, .data], laidTests := true, laidLooks := .later }
def HuffSignsUptoCardSaid : Prop := Claim7.holds Tryd.pinned (.plain (OpenSpec.upto huffSignsSpec)) huffSignsUptoCard
end Rows
end Go.Proofs.YteklahfgplbmcaaDoor
