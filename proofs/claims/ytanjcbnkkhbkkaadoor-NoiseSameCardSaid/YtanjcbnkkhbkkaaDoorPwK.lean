/- Power's contracts, with the table kept. -/
import Derived.Test.YtanjcbnkkhbkkaaDoorPwP
import Derived.Test.YtanjcbnkkhbkkaaDoorTab
import Derived.Test.YtanjcbnkkhbkkaaDoorEvLaw
import Derived.Test.YtanjcbnkkhbkkaaDoorEvLaid
import Derived.Lib.LaidTab
import Derived.MakeChecks
import Derived.Lib.Hide
namespace Go.Proofs.YtanjcbnkkhbkkaaDoor.Fx
open Go Go.Ev Go.ChangeShapes Go.WideShapes Go.ChangeAt Go.RowKit

/-- The table stays, and what was there. -/
def Kp (w w' : World) : Prop := Hid (Qs w' ∧ Below w.heap.size w w')
theorem Kp.refl {w : World} (h : Qs w) : Kp w w := ⟨h, Below.refl _ _⟩
theorem Kp.on {w w1 w2 : World} (h : Kp w w1) (k : Below w1.heap.size w1 w2) : Kp w w2 := ⟨h.1.below k, belowT h.2 k⟩
theorem kp_same {f : FuncId} {args : Array Value} {w w1 : World} {v : Value} (k : Kp w w1) (h : Calls Tryd.prog f args w1 fun e w' => e = .returned v ∧ w1 = w') : Calls Tryd.prog f args w1 fun e w' => e = .returned v ∧ Kp w w' := h.mono fun _ _ ⟨a, b⟩ => ⟨a, b ▸ k⟩
theorem kp_drew {f : FuncId} {args : Array Value} {w w1 : World} {v : Value} (k : Kp w w1) (h : Calls Tryd.prog f args w1 fun e w' => e = .returned v ∧ ∃ m, w' = w1.drewN m) : Calls Tryd.prog f args w1 fun e w' => e = .returned v ∧ Kp w w' := h.mono fun _ _ ⟨a, m, b⟩ => ⟨a, k.on (b ▸ drewN_below _ m)⟩
theorem kp_below {f : FuncId} {args : Array Value} {w w1 : World} {v : Value} (k : Kp w w1) (h : Calls Tryd.prog f args w1 fun e w' => e = .returned v ∧ Below w1.heap.size w1 w') : Calls Tryd.prog f args w1 fun e w' => e = .returned v ∧ Kp w w' := h.mono fun _ _ ⟨a, b⟩ => ⟨a, k.on b⟩
theorem line_k {w w1 : World} (q : Int) (s : Int) (k : Kp w w1) : Calls Tryd.prog 17 #[.int .i64 q, .int .i64 s] w1 fun e w' => e = .returned (.tuple #[.int .i64 (FL q s), .int .i64 (EL q s)]) ∧ Kp w w' := kp_drew k (Line_ok q s w1 k.1)
theorem rline_k {w w1 : World} (q : Int) (s : Int) (k : Kp w w1) : Calls Tryd.prog 18 #[.int .i64 q, .int .i64 s] w1 fun e w' => e = .returned (.tuple #[.int .i64 (FL q s), .int .i64 (EL q s)]) ∧ Kp w w' := kp_same k (rLine_ok q s w1)
theorem quant_k {w w1 : World} (q : Int) (s : Int) (k : Kp w w1) : Calls Tryd.prog 19 #[.int .i64 q, .int .i64 s] w1 fun e w' => e = .returned (.tuple #[.int .i64 (FQ q s), .int .i64 (EQ q s)]) ∧ Kp w w' := kp_below k (Quant_ok q s w1 k.1)
theorem rquant_k {w w1 : World} (q : Int) (s : Int) (k : Kp w w1) : Calls Tryd.prog 20 #[.int .i64 q, .int .i64 s] w1 fun e w' => e = .returned (.tuple #[.int .i64 (FQ q s), .int .i64 (EQ q s)]) ∧ Kp w w' := kp_same k (rQuant_ok q s w1)
theorem four_k {w w1 : World} (q : Int) (k : Kp w w1) : Calls Tryd.prog 15 #[.int .i64 q] w1 fun e w' => e = .returned (.tuple #[.int .i64 (F4 q), .int .i64 (E4 q)]) ∧ Kp w w' := kp_same k (Four_ok q w1)
theorem rfour_k {w w1 : World} (q : Int) (k : Kp w w1) : Calls Tryd.prog 16 #[.int .i64 q] w1 fun e w' => e = .returned (.tuple #[.int .i64 (F4 q), .int .i64 (E4 q)]) ∧ Kp w w' := kp_same k (rFour_ok q w1)
theorem alive_k {w w1 : World}  (k : Kp w w1) : Calls Tryd.prog 21 #[] w1 fun e w' => e = .returned (.bool true) ∧ Kp w w' := kp_same k (alive_ok w1)

/-- What a row lists is the table. -/
theorem qs_of {laid : List (String × DataW Unit)} {w : World} (hL : laidMetH Tryd.prog laid w) (h1 : (laid.all fun x => x.2.handleName?.isNone) = true) (h2 : Named Tryd.prog laid [(0, 80)])
    (h3 : flats E laid [(0, 80)] = some [(0, [.int .i64 1073741824, .int .i64 1276901417, .int .i64 1518500250, .int .i64 1805811301])]) : Qs w := by
  rw [MakeChecks.laidMetH_plain _ _ _ h1] at hL
  obtain ⟨ps, hl, _⟩ := hL
  obtain ⟨⟨c, t, fz, hc, hd⟩, _⟩ := flats_ok h2 h3 hl
  have := hd (fun _ => none)
  simp [denL, den] at this
  have hc2 : c = #[.int .i64 1073741824, .int .i64 1276901417, .int .i64 1518500250, .int .i64 1805811301] := by cases c; simp_all
  subst hc2
  unfold Qs
  simp [World.cell?, hc]
end Go.Proofs.YtanjcbnkkhbkkaaDoor.Fx
