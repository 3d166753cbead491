/- Windows in a box of the law's own, and that info is alive. -/
import Derived.Test.YtdkbdigkimomcaaIfCon
import Derived.Test.YtdkbdigkimomcaaTab
import Derived.Test.YtdkbdigkimomcaaEvLaw
import Derived.Test.YtdkbdigkimomcaaEvOpen
import Derived.WalkKit
import Derived.Below
import Derived.ProofKit
import Derived.OpenShut
import Derived.Lib.Hide
namespace Go.Proofs.Ytdkbdigkimomcaa.If
open Go Go.Ev Go.ChangeShapes Go.WideShapes Go.ChangeAt Go.RowKit Go.Proofs.Ytdkbdigkimomcaa.Lo Go.Proofs.Ytdkbdigkimomcaa.Bd

/-- The box, and what was there. -/
def Bxi (w wk : World) (s h m : Int) (v : Value) : Prop := Hid (wk.cell? ⟨w.heap.size, 0, none⟩ = some (.int .u8 s) ∧ wk.cell? ⟨w.heap.size, 1, none⟩ = some (.int .u8 h) ∧ wk.cell? ⟨w.heap.size, 2, none⟩ = some (.int .i64 m) ∧ wk.cell? ⟨w.heap.size, 3, none⟩ = some v ∧ wk.frozen? ⟨w.heap.size, 2, none⟩ = false ∧ Below w.heap.size w wk)
theorem cell_lt {w : World} {a : Addr} {v : Value} (h : w.cell? a = some v) : a.block < w.heap.size := lt_cell h
theorem Bxi.below {w w1 w2 : World} {s h m : Int} {v : Value} (x : Bxi w w1 s h m v) (hb : Below w1.heap.size w1 w2) : Bxi w w2 s h m v := by
  obtain ⟨a, b, c, d, f, k⟩ := x.out
  have l := cell_lt a
  exact ⟨(hb.cell (p := ⟨w.heap.size, 0, none⟩) l).trans a, (hb.cell (p := ⟨w.heap.size, 1, none⟩) l).trans b, (hb.cell (p := ⟨w.heap.size, 2, none⟩) l).trans c, (hb.cell (p := ⟨w.heap.size, 3, none⟩) l).trans d, (hb.frozen (p := ⟨w.heap.size, 2, none⟩) l).trans f, belowT k hb⟩
theorem bxi (w : World) (s h m : Int) (v : Value) : Bxi w (w.alloc (.cells #[.int .u8 s, .int .u8 h, .int .i64 m, v] 24)) s h m v := by
  refine ⟨?_, ?_, ?_, ?_, ?_, box_below _ _⟩ <;> simp
theorem Bxi.set {w w1 : World} {s h m : Int} {v : Value} (x : Bxi w w1 s h m v) (n : Int) : Bxi w (w1.setCell ⟨w.heap.size, 2, none⟩ (.int .i64 n)) s h n v := by
  obtain ⟨a, b, c, d, f, k⟩ := x.out
  refine ⟨?_, ?_, ?_, ?_, ?_, k.setCell (p := ⟨w.heap.size, 2, none⟩) (Nat.le_refl _) _⟩
  · rw [World.cell?_setCell_other _ _ _ _ (by simp)]; exact a
  · rw [World.cell?_setCell_other _ _ _ _ (by simp)]; exact b
  · exact World.cell?_setCell_same _ _ _ c
  · rw [World.cell?_setCell_other _ _ _ _ (by simp)]; exact d
  · simpa using f
theorem alive_runs : (callA ((((E.up 40).up 40).up 40).up 40) 40 .nil 0 6 []).map (fun x => match x.1 with | .bool true => true | _ => false) = some true := by kernel_rfl
theorem if_alive (w : World) : Calls Try.prog 6 #[] w fun e w' => e = .returned (.bool true) ∧ Below w.heap.size w w' := by
  obtain ⟨v, h', nx', h1, h2⟩ := ran alive_runs
  subst h2
  exact call0 rfl h1 w rfl (fun _ => rfl)
/-- More bands at a greater rate. -/
theorem mny_mono_n : ∀ (b : Bool) (n : Nat), n < 12 → ∀ k : Nat, k < 12 → n ≤ k → mny n b ≤ mny k b := by decide +kernel
theorem mny_mono {r q : Int} (b : Bool) (r0 : 0 ≤ r) (h : r ≤ q) (q1 : q ≤ 11) : mny r b ≤ mny q b := by
  have := mny_mono_n b r.toNat (by omega) q.toNat (by omega) (by omega)
  rwa [show ((r.toNat : Nat) : Int) = r by omega, show ((q.toNat : Nat) : Int) = q by omega] at this
end Go.Proofs.Ytdkbdigkimomcaa.If
