/-
  DERIVED. GIVEN WITH THE SEED: THE PROGRAM's TIES (one call each: nine closed facts by the kernel) AND EACH ROW's TIE, after the 31st guide's Derived/Test/Toyas{Tie, Card}.lean. No idea stands in it: it is a product of the set-up. Laid BY PROGRAM, IN A SANDBOX (cutbox-door.mjs). By AI agents, Wed Nov 11 2026. No macro, syntax, notation, axiom, sorry.
-/
import Derived.Test.YtjflacocihiggaaGreatDoorRows
import Derived.LaidByTextLater
import Derived.SevenTiedAt
import Derived.LaidSub
import Derived.LaidOnce
namespace Go.Proofs.YtjflacocihiggaaGreatDoor
open Go
set_option maxRecDepth 100000
theorem seatTie1 : Tryz.prog.laidByTextLater [("reedpipe/book.shapes", Rows.laid_reedpipe_book_shapes), ("reedpipe/huff.limits", Rows.laid_reedpipe_huff_limits), ("reedpipe/tnsbits.sizes", Rows.laid_reedpipe_tnsbits_sizes), ("reedpipe/power.quarters", Rows.laid_reedpipe_power_quarters)] [.wider, .data, .data, .data] true :=
  Program.laidByTextLater_by_one 43 8 49 (by kernel_rfl) (by kernel_rfl) (by kernel_rfl) (by kernel_rfl) (by kernel_rfl) (by kernel_rfl) (fun _ _ => by kernel_rfl)
theorem noOwnUnsafe : Tryz.pinned.checked.prog.headLifts.contains "ownunsafe" = false := by kernel_rfl
theorem tie : Tryz.prog.laidByTextLater [("reedpipe/book.shapes", Rows.laid_reedpipe_book_shapes), ("reedpipe/huff.limits", Rows.laid_reedpipe_huff_limits), ("reedpipe/tnsbits.sizes", Rows.laid_reedpipe_tnsbits_sizes), ("reedpipe/power.quarters", Rows.laid_reedpipe_power_quarters)] [.wider, .data, .data, .data] true :=
  Program.laidByTextLater.sub seatTie1 ["reedpipe/book.shapes", "reedpipe/huff.limits", "reedpipe/tnsbits.sizes", "reedpipe/power.quarters"] (by kernel_rfl) (by kernel_rfl)
theorem synthNames_row_tie : Rows.synthNamesRow.laidByTextAt .later Tryz.pinned [.wider, .data, .data, .data] true :=
  OpenClaim.laidByTextAt_later rfl rfl tie noOwnUnsafe
theorem synthNamesUpto_row_tie : Rows.synthNamesUptoRow.laidByTextAt .later Tryz.pinned [.wider, .data, .data, .data] true :=
  OpenClaim.laidByTextAt_later rfl rfl tie noOwnUnsafe
end Go.Proofs.YtjflacocihiggaaGreatDoor
