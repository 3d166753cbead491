/-
  DERIVED. GIVEN WITH THE SEED: THE PROGRAM's TIES (one call each: nine closed facts by the kernel) AND EACH ROW's TIE, after the 31st guide's Derived/Test/Toyas{Tie, Card}.lean. No idea stands in it: it is a product of the set-up. Laid BY PROGRAM, IN A SANDBOX (cutbox-door.mjs). By AI agents, Wed Nov 11 2026. No macro, syntax, notation, axiom, sorry.
-/
import Derived.Test.YtnonffppnngjgaaGreatDoorRows
import Derived.LaidByTextLater
import Derived.SevenTiedAt
import Derived.LaidSub
import Derived.LaidOnce
namespace Go.Proofs.YtnonffppnngjgaaGreatDoor
open Go
set_option maxRecDepth 100000
theorem seatTie1 : Tryz.prog.laidByTextLater [("reedpipe/book.shapes", Rows.laid_reedpipe_book_shapes), ("reedpipe/huff.limits", Rows.laid_reedpipe_huff_limits), ("reedpipe/info.follows", Rows.laid_reedpipe_info_follows), ("reedpipe/tnsbits.sizes", Rows.laid_reedpipe_tnsbits_sizes), ("reedpipe/adts.sizes", Rows.laid_reedpipe_adts_sizes)] [.wider, .data, .data, .data, .data] true :=
  Program.laidByTextLater_by_one 52 8 49 (by kernel_rfl) (by kernel_rfl) (by kernel_rfl) (by kernel_rfl) (by kernel_rfl) (by kernel_rfl) (fun _ _ => by kernel_rfl)
theorem noOwnUnsafe : Tryz.pinned.checked.prog.headLifts.contains "ownunsafe" = false := by kernel_rfl
theorem tie : Tryz.prog.laidByTextLater [("reedpipe/book.shapes", Rows.laid_reedpipe_book_shapes), ("reedpipe/huff.limits", Rows.laid_reedpipe_huff_limits), ("reedpipe/tnsbits.sizes", Rows.laid_reedpipe_tnsbits_sizes)] [.wider, .data, .data] true :=
  Program.laidByTextLater.sub seatTie1 ["reedpipe/book.shapes", "reedpipe/huff.limits", "reedpipe/tnsbits.sizes"] (by kernel_rfl) (by kernel_rfl)
theorem rawNames_row_tie : Rows.rawNamesRow.laidByTextAt .later Tryz.pinned [.wider, .data, .data] true :=
  OpenClaim.laidByTextAt_later rfl rfl tie noOwnUnsafe
theorem tie2 : Tryz.prog.laidByTextLater [("reedpipe/book.shapes", Rows.laid_reedpipe_book_shapes), ("reedpipe/huff.limits", Rows.laid_reedpipe_huff_limits), ("reedpipe/info.follows", Rows.laid_reedpipe_info_follows), ("reedpipe/tnsbits.sizes", Rows.laid_reedpipe_tnsbits_sizes)] [.wider, .data, .data, .data] true :=
  Program.laidByTextLater.sub seatTie1 ["reedpipe/book.shapes", "reedpipe/huff.limits", "reedpipe/info.follows", "reedpipe/tnsbits.sizes"] (by kernel_rfl) (by kernel_rfl)
theorem mendNames_row_tie : Rows.mendNamesRow.laidByTextAt .later Tryz.pinned [.wider, .data, .data, .data] true :=
  OpenClaim.laidByTextAt_later rfl rfl tie2 noOwnUnsafe
theorem tie3 : Tryz.prog.laidByTextLater [("reedpipe/book.shapes", Rows.laid_reedpipe_book_shapes), ("reedpipe/huff.limits", Rows.laid_reedpipe_huff_limits), ("reedpipe/tnsbits.sizes", Rows.laid_reedpipe_tnsbits_sizes), ("reedpipe/adts.sizes", Rows.laid_reedpipe_adts_sizes)] [.wider, .data, .data, .data] true :=
  Program.laidByTextLater.sub seatTie1 ["reedpipe/book.shapes", "reedpipe/huff.limits", "reedpipe/tnsbits.sizes", "reedpipe/adts.sizes"] (by kernel_rfl) (by kernel_rfl)
theorem adtsNames_row_tie : Rows.adtsNamesRow.laidByTextAt .later Tryz.pinned [.wider, .data, .data, .data] true :=
  OpenClaim.laidByTextAt_later rfl rfl tie3 noOwnUnsafe
theorem tie4 : Tryz.prog.laidByTextLater [("reedpipe/book.shapes", Rows.laid_reedpipe_book_shapes), ("reedpipe/tnsbits.sizes", Rows.laid_reedpipe_tnsbits_sizes), ("reedpipe/adts.sizes", Rows.laid_reedpipe_adts_sizes)] [.wider, .data, .data] true :=
  Program.laidByTextLater.sub seatTie1 ["reedpipe/book.shapes", "reedpipe/tnsbits.sizes", "reedpipe/adts.sizes"] (by kernel_rfl) (by kernel_rfl)
theorem syncNames_row_tie : Rows.syncNamesRow.laidByTextAt .later Tryz.pinned [.wider, .data, .data] true :=
  OpenClaim.laidByTextAt_later rfl rfl tie4 noOwnUnsafe
theorem rawNamesUpto_row_tie : Rows.rawNamesUptoRow.laidByTextAt .later Tryz.pinned [.wider, .data, .data] true :=
  OpenClaim.laidByTextAt_later rfl rfl tie noOwnUnsafe
theorem mendNamesUpto_row_tie : Rows.mendNamesUptoRow.laidByTextAt .later Tryz.pinned [.wider, .data, .data, .data] true :=
  OpenClaim.laidByTextAt_later rfl rfl tie2 noOwnUnsafe
theorem adtsNamesUpto_row_tie : Rows.adtsNamesUptoRow.laidByTextAt .later Tryz.pinned [.wider, .data, .data, .data] true :=
  OpenClaim.laidByTextAt_later rfl rfl tie3 noOwnUnsafe
theorem syncNamesUpto_row_tie : Rows.syncNamesUptoRow.laidByTextAt .later Tryz.pinned [.wider, .data, .data] true :=
  OpenClaim.laidByTextAt_later rfl rfl tie4 noOwnUnsafe
end Go.Proofs.YtnonffppnngjgaaGreatDoor
