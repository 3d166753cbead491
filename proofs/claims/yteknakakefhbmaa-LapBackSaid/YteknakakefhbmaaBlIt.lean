/- The iterator over a frame's windows. -/
import Derived.Test.YteknakakefhbmaaBlWin
import Derived.Test.YteknakakefhbmaaRg
import Derived.RangeFuncNested
import Derived.RangeFuncBound
import Derived.RangeFuncCalls
import Derived.RangeFuncLeaves
import Derived.RangeFuncBox
import Derived.Shelf.Abstract
import Derived.Shelf.AbstractIn
import Derived.Shelf.RegionOpen
import Derived.WalkKit
import Derived.OwnWalkIn
import Derived.TacticsInMore
import Derived.LoopNIn
import Derived.LoopIn
import Derived.Maps.AppendAt
import Derived.ProofKit
import Derived.OpenShut
import Derived.Deep.OwnRows
import Derived.Lib.Hide
namespace Go.Proofs.Yteknakakefhbmaa.Bl
open Go Go.ChangeShapes Go.WideShapes Go.ChangeAt Go.RowKit Go.Shelf Go.Proofs.Yteknakakefhbmaa.Fx Go.Proofs.Yteknakakefhbmaa.Rk Go.Proofs.Yteknakakefhbmaa.Rg

attribute [local go_sem] Oper.semAt_some

/-- What the iterator hands out: where a window lies, and its values. -/
structure WX where
  pos : Int
  row : Nat
def WX.enc (n : Nat) (x : WX) : Array Value := #[.int .i64 x.pos, .slice (some ⟨x.row, 0, none⟩) n 512]
/-- The iterator's own cells. -/
def Tw (b : Nat) (k : Nat) : Prop := b ≤ k ∧ k < b + 3
theorem _root_.Go.Boxed.of_below {W W' : World} {B : Nat} {t : TypeId} {v : Value} (h : Boxed W B t v) (hb : Below W.heap.size W W') : Boxed W' B t v := (hb.block B h.lt).trans h
/-- One window. -/
def HxL (D : Nat) (L : List Int) (_ : Nat) (x : WX) (W : World) : Prop := x.pos = 0 ∧ D < x.row ∧ W.rowIs x.row 3 512 (fun j => .int .i64 (L.getD j 0))
def HxT (D : Nat) (was shape : Int) (k : Nat) (x : WX) (W : World) : Prop := x.pos = 112 + (k : Int) * 32 ∧ D < x.row ∧ W.rowIs x.row 3 512 (fun j => .int .i64 ((wt (if k = 0 then was else shape) shape).getD j 0))

theorem maker_ok (seq was shape : Int) (w : World) : Calls Try.prog 34 #[.int .u8 seq, .int .u8 was, .int .u8 shape] w fun e w' =>
    e = .returned (.func (.func 48) #[] #[.pointer (some ⟨w.heap.size, 0, none⟩), .pointer (some ⟨w.heap.size + 1, 0, none⟩), .pointer (some ⟨w.heap.size + 2, 0, none⟩)]) ∧ Boxed w' w.heap.size 5 (.int .u8 seq) ∧ Boxed w' (w.heap.size + 1) 5 (.int .u8 was) ∧ Boxed w' (w.heap.size + 2) 5 (.int .u8 shape) ∧ w'.heap.size = w.heap.size + 3 ∧ Below w.heap.size w w' := by
  have b1 := ((Boxed.new w 5 (.int .u8 seq)).alloc (.cells #[.int .u8 was] 5)).alloc (.cells #[.int .u8 shape] 5)
  have b2 := (Boxed.new (w.alloc (.cells #[.int .u8 seq] 5)) 5 (.int .u8 was)).alloc (.cells #[.int .u8 shape] 5)
  have b3 := Boxed.new ((w.alloc (.cells #[.int .u8 seq] 5)).alloc (.cells #[.int .u8 was] 5)) 5 (.int .u8 shape)
  simp only [World.size_alloc] at b2 b3
  have hB0 : Below w.heap.size w (((w.alloc (.cells #[.int .u8 seq] 5)).alloc (.cells #[.int .u8 was] 5)).alloc (.cells #[.int .u8 shape] 5)) := (((Below.refl _ w).alloc (Nat.le_refl _) _).alloc (by simp) _).alloc (by simp; omega) _
  go_enter Try.func34, Try.ntmps34
  go_wp2
  go_ret
  exact ⟨rfl, b1, b2, b3, by simp, hB0⟩

set_option maxRecDepth 100000 in
set_option maxHeartbeats 2000000 in
theorem one_in (n : Nat) (hn : 1 ≤ n) (l b D : Nat) (hD : D = l) (seq was shape : Int) (hs : seq = 0 ∨ seq = 1 ∨ seq = 3) (hwas : was = 0 ∨ was = 1) (hshape : shape = 0 ∨ shape = 1) (J : Nat → World → Prop) (W : World) (hl : l < W.heap.size)
    (hJ : ∀ k A C, J k A → Part (Tw b) A C → J k C)
    (hY : ∀ k x W1, J k W1 → k < 1 → l < W1.heap.size → HxL D (wv seq was shape) k x W1 → YieldAt Fence.wide (n - 1) Try.prog l (WX.enc 512 x) W1 fun e W' => e = .returned (.bool true) ∧ J (k + 1) W' ∧ Keep (Tw b) W1 W' ∧ l < W'.heap.size)
    (h1 : Boxed W b 5 (.int .u8 seq)) (h2 : Boxed W (b + 1) 5 (.int .u8 was)) (h3 : Boxed W (b + 2) 5 (.int .u8 shape)) (h0 : J 0 W) :
    CallsIn Fence.wide n Try.prog 48 #[.func (.yield l) #[] #[], .pointer (some ⟨b, 0, none⟩), .pointer (some ⟨b + 1, 0, none⟩), .pointer (some ⟨b + 2, 0, none⟩)] W fun e W' => (∃ v, e = .returned v) ∧ J 1 W' := by
  have c1 := h1.cell
  have c2 := h2.cell
  have c3 := h3.cell
  have HL := Lib.hid (long_ok seq was shape W hs hwas hshape)
  have hne : (seq != 2) = true := by rcases hs with rfl | rfl | rfl <;> rfl
  have HJ := Lib.hid hJ
  have HY := Lib.hid hY
  have H0 := Lib.hid h0
  clear hJ hY h0 h1 h2 h3 hs hwas hshape
  refine callsIn_of_wp Try.func48 rfl trivial ?_ rfl
  simp only [Try.ntmps48, List.size_toArray, List.length_cons, List.length_nil, Nat.reduceAdd, Nat.reduceSub, Array.replicate_succ, Array.replicate_zero, List.push_toArray, List.append_toArray, List.nil_append, List.cons_append]
  gi_wp2_with (refine ⟨trivial, ?_⟩; gi_at_call 32; refine (callsIn_wide.2 (HL.out)).mono ?_; rintro e w1 ⟨g, rfl, hg, hr, hb⟩; obtain ⟨fn, tmps, assign, body, hy, hR⟩ := HY.out 0 ⟨0, g⟩ w1 (HJ.out 0 _ _ H0.out (Part.of_below hb)) (by omega) (Nat.lt_of_lt_of_le hl hb.size) ⟨rfl, by show D < g; omega, hr⟩; dsimp only [WX.enc] at hy; clear hr)
  refine hR.mono ?_
  rintro e W3 ⟨rfl, hJ3, _, _⟩
  gi_wp2
  refine bodyPost_ret (results_none rfl _ _ _) rfl ?_
  exact ⟨⟨_, rfl⟩, hJ3⟩

set_option maxRecDepth 100000 in
set_option maxHeartbeats 2000000 in
theorem eight_in (n : Nat) (hn : 1 ≤ n) (l b D : Nat) (hD : D = l) (was shape : Int) (hwas : was = 0 ∨ was = 1) (hshape : shape = 0 ∨ shape = 1) (J : Nat → World → Prop) (W : World) (hl : l < W.heap.size)
    (hJ : ∀ k A C, J k A → Part (Tw b) A C → J k C)
    (hY : ∀ k x W1, J k W1 → k < 8 → l < W1.heap.size → HxT D was shape k x W1 → YieldAt Fence.wide (n - 1) Try.prog l (WX.enc 64 x) W1 fun e W' => e = .returned (.bool true) ∧ J (k + 1) W' ∧ Keep (Tw b) W1 W' ∧ l < W'.heap.size)
    (h1 : Boxed W b 5 (.int .u8 2)) (h2 : Boxed W (b + 1) 5 (.int .u8 was)) (h3 : Boxed W (b + 2) 5 (.int .u8 shape)) (h0 : J 0 W) :
    CallsIn Fence.wide n Try.prog 48 #[.func (.yield l) #[] #[], .pointer (some ⟨b, 0, none⟩), .pointer (some ⟨b + 1, 0, none⟩), .pointer (some ⟨b + 2, 0, none⟩)] W fun e W' => (∃ v, e = .returned v) ∧ J 8 W' := by
  have c1 := h1.cell
  have HJ := Lib.hid hJ
  have HY := Lib.hid hY
  have H0 := Lib.hid h0
  have Hwas := Lib.hid hwas
  have Hshape := Lib.hid hshape
  clear hJ hY h0 h1 hwas hshape
  refine callsIn_of_wp Try.func48 rfl trivial ?_ rfl
  simp only [Try.ntmps48, List.size_toArray, List.length_cons, List.length_nil, Nat.reduceAdd, Nat.reduceSub, Array.replicate_succ, Array.replicate_zero, List.push_toArray, List.append_toArray, List.nil_append, List.cons_append]
  gi_wp2
  gi_loopw [14] (fun p wr => ∃ k : Nat, k ≤ 8 ∧ p = .int .i64 k ∧ Hid (J k wr) ∧ Hid (Boxed wr (b + 1) 5 (.int .u8 (if k = 0 then was else shape))) ∧ Hid (Boxed wr (b + 2) 5 (.int .u8 shape)) ∧ l < wr.heap.size) (fun p _ => 8 - (intOf p).toNat)
  case atStart => exact ⟨0, by omega, rfl, H0, Lib.hid h2, Lib.hid h3, hl⟩
  case round =>
    obtain ⟨k, hk, rfl, hJk, hb1, hb2, hlk⟩ := hrel
    by_cases hlt : k < 8
    · have c2 := hb1.out.cell
      have c3 := hb2.out.cell
      have f2 := hb1.out.frozen
      obtain ⟨V, hV⟩ : ∃ V, (if k = 0 then was else shape) = V := ⟨_, rfl⟩
      have hV2 : V = 0 ∨ V = 1 := by rw [← hV]; split; exact Hwas.out; exact Hshape.out
      have HT := Lib.hid (join_T V shape wr hV2 Hshape.out)
      rw [hV] at c2
      have HV := Lib.hid hV
      clear hV hV2
      gi_wp2_with (refine ⟨trivial, ?_⟩; gi_at_call 47; refine (callsIn_wide.2 (HT.out)).mono ?_; rintro e w1 ⟨g, rfl, hg, hr, hb⟩; obtain ⟨fn, tmps, assign, body, hy, hR⟩ := HY.out k ⟨112 + (k : Int) * 32, g⟩ w1 (HJ.out k _ _ hJk.out (Part.of_below hb)) hlt (Nat.lt_of_lt_of_le hlk hb.size) ⟨rfl, by show D < g; omega, by rw [HV.out]; exact hr⟩; dsimp only [WX.enc] at hy; have B1 := Lib.hid (hb1.out.of_below hb); have B2 := Lib.hid (hb2.out.of_below hb); clear hr hb)
      refine hR.mono ?_
      rintro e W3 ⟨rfl, hJ3, hk3, hl3⟩
      have b1 : Boxed W3 (b + 1) 5 (.int .u8 (if k = 0 then was else shape)) := (hk3.2 (b + 1) ⟨by omega, by omega⟩).trans B1.out
      have b2 : Boxed W3 (b + 2) 5 (.int .u8 shape) := (hk3.2 (b + 2) ⟨by omega, by omega⟩).trans B2.out
      have d1 := b1.cell
      have d2 := b2.cell
      have g1 := b1.frozen
      have J4 := Lib.hid (HJ.out (k + 1) _ _ hJ3 (Part.set (p := ⟨b + 1, 0, none⟩) (.int .u8 shape) (show Tw b (b + 1) from ⟨by omega, by omega⟩)))
      have b3 : Hid (Boxed (W3.setCell ⟨b + 1, 0, none⟩ (.int .u8 shape)) (b + 1) 5 (.int .u8 (if k + 1 = 0 then was else shape))) := Lib.hid (by rw [if_neg (by omega)]; exact b1.set _)
      have b4 := Lib.hid (b2.other (show b + 2 ≠ b + 1 by omega) (.int .u8 shape))
      clear hJ3 hk3 b1 b2 B1 B2 c2 c3 f2 hb1 hb2 hJk
      gi_wp2
      go_roundw
      case rel => exact ⟨k + 1, by omega, by go_num, J4, b3, b4, by simpa [World.setCell] using hl3⟩
      case measure => simp [intOf]; omega
    · obtain rfl : k = 8 := by omega
      have hJ8 := hJk.out
      clear hJk hb1 hb2
      gi_wp2
      go_end0
      exact ⟨⟨_, rfl⟩, hJ8⟩
end Go.Proofs.Yteknakakefhbmaa.Bl
