/- What the rows list is the table of shapes. -/
import Derived.Test.YteklahfgplbmcaaDoorTab
import Derived.Test.YteklahfgplbmcaaDoorBkAl
import Derived.Test.YteklahfgplbmcaaDoorEvLaid
import Derived.Lib.LaidTab
import Derived.Deep.DeepHandedRow
namespace Go.Proofs.YteklahfgplbmcaaDoor.Bk
open Go Go.Ev Go.ChangeShapes Go.WideShapes Go.ChangeAt Go.RowKit

theorem sh_of {laid : List (String × DataW Unit)} {w : World} (hL : laidMetH Tryd.prog laid w) (h1 : (laid.all fun x => x.2.handleName?.isNone) = true) (h2 : Named Tryd.prog laid [(0, 83)])
    (h3 : flats E laid [(0, 83)] = some [(0, [.int .i64 4, .int .i64 (-1), .int .i64 1, .int .i64 0, .int .i64 4, .int .i64 (-1), .int .i64 1, .int .i64 1, .int .i64 4, .int .i64 0, .int .i64 2, .int .i64 0, .int .i64 4, .int .i64 0, .int .i64 2, .int .i64 1, .int .i64 2, .int .i64 (-4), .int .i64 4, .int .i64 0, .int .i64 2, .int .i64 (-4), .int .i64 4, .int .i64 1, .int .i64 2, .int .i64 0, .int .i64 7, .int .i64 1, .int .i64 2, .int .i64 0, .int .i64 7, .int .i64 2, .int .i64 2, .int .i64 0, .int .i64 12, .int .i64 1, .int .i64 2, .int .i64 0, .int .i64 12, .int .i64 2, .int .i64 2, .int .i64 0, .int .i64 16, .int .i64 2, .int .i64 1, .int .i64 (-60), .int .i64 60, .int .i64 0])]) : Sh w := by
  rw [MakeChecks.laidMetH_plain _ _ _ h1] at hL
  obtain ⟨ps, hl, _⟩ := hL
  obtain ⟨⟨c, t, fz, hc, hd⟩, _⟩ := flats_ok h2 h3 hl
  have := hd (fun _ => none)
  simp [denL, den] at this
  have hc2 : c = #[.int .i64 4, .int .i64 (-1), .int .i64 1, .int .i64 0, .int .i64 4, .int .i64 (-1), .int .i64 1, .int .i64 1, .int .i64 4, .int .i64 0, .int .i64 2, .int .i64 0, .int .i64 4, .int .i64 0, .int .i64 2, .int .i64 1, .int .i64 2, .int .i64 (-4), .int .i64 4, .int .i64 0, .int .i64 2, .int .i64 (-4), .int .i64 4, .int .i64 1, .int .i64 2, .int .i64 0, .int .i64 7, .int .i64 1, .int .i64 2, .int .i64 0, .int .i64 7, .int .i64 2, .int .i64 2, .int .i64 0, .int .i64 12, .int .i64 1, .int .i64 2, .int .i64 0, .int .i64 12, .int .i64 2, .int .i64 2, .int .i64 0, .int .i64 16, .int .i64 2, .int .i64 1, .int .i64 (-60), .int .i64 60, .int .i64 0] := by cases c; simp_all
  subst hc2
  refine ⟨(Array.getElem?_eq_some_iff.1 hc).1, fun k hk => ?_⟩
  have hk' : k = 0 ∨ k = 1 ∨ k = 2 ∨ k = 3 ∨ k = 4 ∨ k = 5 ∨ k = 6 ∨ k = 7 ∨ k = 8 ∨ k = 9 ∨ k = 10 ∨ k = 11 := by omega
  rcases hk' with rfl | rfl | rfl | rfl | rfl | rfl | rfl | rfl | rfl | rfl | rfl | rfl <;> (simp only [World.cell?, hc]; refine ⟨rfl, rfl, rfl, rfl⟩)
end Go.Proofs.YteklahfgplbmcaaDoor.Bk
