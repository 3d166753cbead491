/-
  DERIVED. GIVEN WITH THE SEED: THE PROGRAM's TIES (one call each: nine closed facts by the kernel) AND EACH ROW's TIE, after the 31st guide's Derived/Test/Toyas{Tie, Card}.lean. No idea stands in it: it is a product of the set-up. Laid BY PROGRAM, IN A SANDBOX (cutbox-door.mjs). By AI agents, Wed Nov 11 2026. No macro, syntax, notation, axiom, sorry.
-/
import Derived.Test.YtpcmjfpepndlbaaDoorRows
import Derived.LaidByTextLater
import Derived.SevenTiedAt
import Derived.LaidSub
import Derived.LaidOnce
namespace Go.Proofs.YtpcmjfpepndlbaaDoor
open Go
set_option maxRecDepth 100000
theorem seatTie1 : Tryd.prog.laidByTextLater [("reedpipe/book.shapes", Rows.laid_reedpipe_book_shapes), ("reedpipe/huff.limits", Rows.laid_reedpipe_huff_limits), ("reedpipe/info.follows", Rows.laid_reedpipe_info_follows), ("reedpipe/power.quarters", Rows.laid_reedpipe_power_quarters)] [.wider, .data, .data, .data] true :=
  Program.laidByTextLater_by_one 45 8 49 (by kernel_rfl) (by kernel_rfl) (by kernel_rfl) (by kernel_rfl) (by kernel_rfl) (by kernel_rfl) (fun _ _ => by kernel_rfl)
theorem noOwnUnsafe : Tryd.pinned.checked.prog.headLifts.contains "ownunsafe" = false := by kernel_rfl
theorem tie : Tryd.prog.laidByTextLater [("reedpipe/power.quarters", Rows.laid_reedpipe_power_quarters)] [.data] true :=
  Program.laidByTextLater.sub seatTie1 ["reedpipe/power.quarters"] (by kernel_rfl) (by kernel_rfl)
theorem powerNames_row_tie : Rows.powerNamesRow.laidByTextAt .later Tryd.pinned [.data] true :=
  OpenClaim.laidByTextAt_later rfl rfl tie noOwnUnsafe
theorem noiseNames_row_tie : Rows.noiseNamesRow.laidByTextAt .later Tryd.pinned [.data] true :=
  OpenClaim.laidByTextAt_later rfl rfl tie noOwnUnsafe
theorem quantNames_row_tie : Rows.quantNamesRow.laidByTextAt .later Tryd.pinned [.data] true :=
  OpenClaim.laidByTextAt_later rfl rfl tie noOwnUnsafe
theorem tie2 : Tryd.prog.laidByTextLater [("reedpipe/book.shapes", Rows.laid_reedpipe_book_shapes)] [.wider] true :=
  Program.laidByTextLater.sub seatTie1 ["reedpipe/book.shapes"] (by kernel_rfl) (by kernel_rfl)
theorem bookNames_row_tie : Rows.bookNamesRow.laidByTextAt .later Tryd.pinned [.wider] true :=
  OpenClaim.laidByTextAt_later rfl rfl tie2 noOwnUnsafe
theorem tie3 : Tryd.prog.laidByTextLater [("reedpipe/book.shapes", Rows.laid_reedpipe_book_shapes), ("reedpipe/huff.limits", Rows.laid_reedpipe_huff_limits)] [.wider, .data] true :=
  Program.laidByTextLater.sub seatTie1 ["reedpipe/book.shapes", "reedpipe/huff.limits"] (by kernel_rfl) (by kernel_rfl)
theorem huffNames_row_tie : Rows.huffNamesRow.laidByTextAt .later Tryd.pinned [.wider, .data] true :=
  OpenClaim.laidByTextAt_later rfl rfl tie3 noOwnUnsafe
theorem tie4 : Tryd.prog.laidByTextLater [("reedpipe/info.follows", Rows.laid_reedpipe_info_follows)] [.data] true :=
  Program.laidByTextLater.sub seatTie1 ["reedpipe/info.follows"] (by kernel_rfl) (by kernel_rfl)
theorem infoNames_row_tie : Rows.infoNamesRow.laidByTextAt .later Tryd.pinned [.data] true :=
  OpenClaim.laidByTextAt_later rfl rfl tie4 noOwnUnsafe
theorem powerNamesUpto_row_tie : Rows.powerNamesUptoRow.laidByTextAt .later Tryd.pinned [.data] true :=
  OpenClaim.laidByTextAt_later rfl rfl tie noOwnUnsafe
theorem bookNamesUpto_row_tie : Rows.bookNamesUptoRow.laidByTextAt .later Tryd.pinned [.wider] true :=
  OpenClaim.laidByTextAt_later rfl rfl tie2 noOwnUnsafe
theorem huffNamesUpto_row_tie : Rows.huffNamesUptoRow.laidByTextAt .later Tryd.pinned [.wider, .data] true :=
  OpenClaim.laidByTextAt_later rfl rfl tie3 noOwnUnsafe
theorem infoNamesUpto_row_tie : Rows.infoNamesUptoRow.laidByTextAt .later Tryd.pinned [.data] true :=
  OpenClaim.laidByTextAt_later rfl rfl tie4 noOwnUnsafe
theorem noiseNamesUpto_row_tie : Rows.noiseNamesUptoRow.laidByTextAt .later Tryd.pinned [.data] true :=
  OpenClaim.laidByTextAt_later rfl rfl tie noOwnUnsafe
theorem quantNamesUpto_row_tie : Rows.quantNamesUptoRow.laidByTextAt .later Tryd.pinned [.data] true :=
  OpenClaim.laidByTextAt_later rfl rfl tie noOwnUnsafe
end Go.Proofs.YtpcmjfpepndlbaaDoor
