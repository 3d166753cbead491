/- Lap's pairs, and what overlaps behind a frame. -/
import Derived.Test.YteknakakefhbmaaLpCon
import Derived.Test.YteknakakefhbmaaBlUn
import Derived.Test.YteknakakefhbmaaRg2
import Derived.ChangeOld
import Derived.RangeFuncNested
import Derived.RangeFuncBound
import Derived.RangeFuncCalls
import Derived.RangeFuncLeaves
import Derived.RangeFuncBox
import Derived.Shelf.Abstract
import Derived.Shelf.AbstractIn
import Derived.Shelf.RegionOpen
import Derived.WalkKit
import Derived.OwnWalkIn
import Derived.TacticsInMore
import Derived.LoopNIn
import Derived.LoopIn
import Derived.Maps.AppendAt
import Derived.ProofKit
import Derived.OpenShut
import Derived.Deep.OwnRows
import Derived.Lib.Hide
namespace Go.Proofs.Yteknakakefhbmaa.Lp
open Go Go.ChangeShapes Go.WideShapes Go.ChangeAt Go.RowKit Go.Shelf Go.Proofs.Yteknakakefhbmaa.Fx Go.Proofs.Yteknakakefhbmaa.Rk Go.Proofs.Yteknakakefhbmaa.Rg Go.Proofs.Yteknakakefhbmaa.Mm Go.Proofs.Yteknakakefhbmaa.Md Go.Proofs.Yteknakakefhbmaa.Bl

attribute [local go_sem] Oper.semAt_some

/-- The iterator's own cells. -/
def Tp (b : Nat) (k : Nat) : Prop := b ≤ k ∧ k < b + 2
/-- What it reads. -/
def Up (b : Nat) (A C : Option Addr) (k : Nat) : Prop := Tp b k ∨ (∃ x, A = some x ∧ x.block = k) ∨ (∃ x, C = some x ∧ x.block = k)
theorem rd_keep {W W' : World} {A : Option Addr} {zs : List Int} (r : RdA W A zs) (h : ∀ x, A = some x → W'.heap[x.block]? = W.heap[x.block]?) : RdA W' A zs := fun i hi => by
  obtain ⟨b, off, e, h1, h2⟩ := r i hi
  have hb := h _ e
  refine ⟨b, off, e, ?_, (World.cell?_of_block (w := W) (a := ⟨b, off + i, none⟩) hb).trans h2⟩
  have : W'.heap[b]? = some W.heap[b] := by rw [hb]; simp [h1]
  exact (Array.getElem?_eq_some_iff.1 this).1
def encP (x : Int × Int) : Array Value := #[.int .i64 x.1, .int .i64 x.2]
def HxP (a c : List Int) (k : Nat) (x : Int × Int) (_ : World) : Prop := x = (a.getD k 0, c.getD k 0)

theorem pairs_ok (u v : Value) (hu : ∃ A n c, u = .slice A n c) (hv : ∃ A n c, v = .slice A n c) (w : World) : Calls Try.prog 42 #[u, v] w fun e w' =>
    e = .returned (.func (.func 61) #[] #[.pointer (some ⟨w.heap.size, 0, none⟩), .pointer (some ⟨w.heap.size + 1, 0, none⟩)]) ∧ Boxed w' w.heap.size 22 u ∧ Boxed w' (w.heap.size + 1) 22 v ∧ w'.heap.size = w.heap.size + 2 ∧ Below w.heap.size w w' := by
  obtain ⟨A, n, c, rfl⟩ := hu
  obtain ⟨A', n', c', rfl⟩ := hv
  have b1 := (Boxed.new w 22 (.slice A n c)).alloc (.cells #[.slice A' n' c'] 22)
  have b2 := Boxed.new (w.alloc (.cells #[.slice A n c] 22)) 22 (.slice A' n' c')
  simp only [World.size_alloc] at b2
  have hB0 : Below w.heap.size w ((w.alloc (.cells #[.slice A n c] 22)).alloc (.cells #[.slice A' n' c'] 22)) := (((Below.refl _ w).alloc (Nat.le_refl _) _).alloc (by simp) _)
  go_enter Try.func42, Try.ntmps42
  go_wp2
  go_ret
  exact ⟨rfl, b1, b2, by simp, hB0⟩

set_option maxRecDepth 100000 in
set_option maxHeartbeats 2000000 in
theorem pairs_in (n : Nat) (hn : 1 ≤ n) (l b : Nat) (A C : Option Addr) (ca m cc : Nat) (za zc : List Int) (ha : za.length = 256) (hc : zc.length = m) (hm : 256 ≤ m) (hm2 : m ≤ 1000) (W : World) (ra : RdA W A za) (rc : RdA W C zc)
    (J : Nat → World → Prop) (hl : l < W.heap.size)
    (hY : ∀ k x W1, J k W1 → k < 256 → l < W1.heap.size → HxP za zc k x W1 → YieldAt Fence.wide (n - 1) Try.prog l (encP x) W1 fun e W' => e = .returned (.bool true) ∧ J (k + 1) W' ∧ Keep (Up b A C) W1 W' ∧ l < W'.heap.size)
    (h1 : Boxed W b 22 (.slice A 256 ca)) (h2 : Boxed W (b + 1) 22 (.slice C m cc)) (h0 : J 0 W) :
    CallsIn Fence.wide n Try.prog 61 #[.func (.yield l) #[] #[], .pointer (some ⟨b, 0, none⟩), .pointer (some ⟨b + 1, 0, none⟩)] W fun e W' => (∃ v, e = .returned v) ∧ J 256 W' := by
  have c1 := h1.cell
  have HY := Lib.hid hY
  have H0 := Lib.hid h0
  have RA := Lib.hid ra
  have RC := Lib.hid rc
  have HA := Lib.hid ha
  have HC := Lib.hid hc
  clear hY h0 ra rc ha hc h1
  refine callsIn_of_wp Try.func61 rfl trivial ?_ rfl
  simp only [Try.ntmps61, List.size_toArray, List.length_cons, List.length_nil, Nat.reduceAdd, Nat.reduceSub, Array.replicate_succ, Array.replicate_zero, List.push_toArray, List.append_toArray, List.nil_append, List.cons_append]
  gi_wp2
  gi_loopw [8] (fun p wr => ∃ k : Nat, k ≤ 256 ∧ p = .int .i64 k ∧ Hid (J k wr) ∧ Hid (Boxed wr (b + 1) 22 (.slice C m cc)) ∧ Hid (RdA wr A za) ∧ Hid (RdA wr C zc) ∧ l < wr.heap.size) (fun p _ => 256 - (intOf p).toNat)
  case atStart => exact ⟨0, by omega, rfl, H0, Lib.hid h2, RA, RC, hl⟩
  case round =>
    obtain ⟨k, hk, rfl, hJk, hb2, ra, rc, hlk⟩ := hrel
    clear RA RC
    by_cases hlt : k < 256
    · have c2 := hb2.out.cell
      obtain ⟨ba, oa, rfl, _, d1⟩ := ra.out k (by rw [HA.out]; exact hlt)
      obtain ⟨bc, oc, rfl, _, d2⟩ := rc.out k (by rw [HC.out]; omega)
      obtain ⟨fn, tmps, assign, body, hy, hR⟩ := HY.out k (za.getD k 0, zc.getD k 0) wr hJk.out hlt hlk rfl
      dsimp only [encP] at hy
      have hkm : (k : Int) < m := by omega
      have HR := Lib.hid hR
      clear hR
      generalize za.getD k 0 = X at *
      generalize zc.getD k 0 = Y at *
      gi_wp2
      refine HR.out.mono ?_
      rintro e W3 ⟨rfl, hJ3, hk3, hl3⟩
      have b2 : Boxed W3 (b + 1) 22 (.slice (some ⟨bc, oc, none⟩) m cc) := (hk3.2 (b + 1) (.inl ⟨by omega, by omega⟩)).trans hb2.out
      have ra3 := Lib.hid (rd_keep ra.out (fun x e => hk3.2 _ (.inr (.inl ⟨x, e, rfl⟩))))
      have rc3 := Lib.hid (rd_keep rc.out (fun x e => hk3.2 _ (.inr (.inr ⟨x, e, rfl⟩))))
      have J3 := Lib.hid hJ3
      have B2 := Lib.hid b2
      clear hJ3 hk3 b2 c2 d1 d2
      gi_wp2
      go_roundw
      case rel => exact ⟨k + 1, by omega, by go_num, J3, B2, ra3, rc3, hl3⟩
      case measure => simp [intOf]; omega
    · obtain rfl : k = 256 := by omega
      have hJ8 := hJk.out
      clear hJk hb2 ra rc
      gi_wp2
      go_end0
      exact ⟨⟨_, rfl⟩, hJ8⟩
end Go.Proofs.Yteknakakefhbmaa.Lp
