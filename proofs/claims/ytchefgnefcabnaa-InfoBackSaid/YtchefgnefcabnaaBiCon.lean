/- What bits' iterator over a number's bits does, and what collect makes of it. -/
import Derived.RangeFuncNested
import Derived.RangeFuncBound
import Derived.RangeFuncCalls
import Derived.RangeFuncLeaves
import Derived.RangeFuncBox
import Derived.Shelf.Abstract
import Derived.Shelf.RegionOpen
import Derived.WalkKit
import Derived.OwnWalkIn
import Derived.TacticsInMore
import Derived.LoopNIn
import Derived.LoopIn
import Derived.Maps.AppendAt
import Derived.Test.YtchefgnefcabnaaMrg1
import Derived.ProofKit
import Derived.OpenShut
import Derived.Lib.Hide
namespace Go.Proofs.Ytchefgnefcabnaa.Bi
open Go Go.ChangeShapes Go.WideShapes Go.ChangeAt Go.RowKit Go.Shelf

attribute [local go_sem] Oper.semAt_some

/-! ### A number's bits, the highest one first -/
def bi (X : Int) : Nat → List Int
  | 0 => []
  | m + 1 => (X / 2 ^ m % 2) :: bi X m
theorem bi_len (X : Int) : ∀ m, (bi X m).length = m
  | 0 => rfl
  | m + 1 => by simp [bi, bi_len X m]

theorem i64_in {n : Int} (h0 : -9223372036854775808 ≤ n) (h1 : n ≤ 9223372036854775807) : IntKind.i64.wrap n = n := by rw [IntKind.wrap_i64]; omega
theorem ofInt64 {x : Int} (h0 : 0 ≤ x) (h1 : x ≤ 9223372036854775807) : (BitVec.ofInt IntKind.i64.bits x).toNat = x.toNat := by
  rw [BitVec.toNat_ofInt]
  show (x % ((2 ^ 64 : Nat) : Int)).toNat = x.toNat
  omega
theorem and_one64 {y : Int} (h0 : 0 ≤ y) (h1 : y ≤ 9223372036854775807) : bits .and .i64 y 1 = y % 2 := by
  have e : bits .and .i64 y 1 = IntKind.i64.wrap (((BitVec.ofInt IntKind.i64.bits y &&& BitVec.ofInt IntKind.i64.bits 1).toNat : Nat) : Int) := rfl
  rw [e, BitVec.toNat_and, ofInt64 h0 h1, ofInt64 (by decide) (by decide)]
  have : (y.toNat &&& (1 : Int).toNat) = y.toNat % 2 := Nat.and_one_is_mod _
  rw [this, i64_in (by omega) (by omega)]
  omega
theorem shr_bd {X : Int} (x0 : 0 ≤ X) (x1 : X ≤ 9223372036854775807) (n : Nat) : 0 ≤ X / 2 ^ n ∧ X / 2 ^ n ≤ 9223372036854775807 := by
  have p : (0 : Int) < 2 ^ n := Int.pow_pos (by decide)
  exact ⟨Int.ediv_nonneg x0 (by omega), Int.le_trans (Int.ediv_le_self _ x0) x1⟩

/-! ### The iterator -/
/-- What a round must keep. -/
def Kp (b₀ Bx : Nat) (A B : World) : Prop := Below b₀ A B ∧ B.heap[Bx]? = A.heap[Bx]?
theorem Kp.t {b₀ Bx : Nat} {A B C : World} (h : Kp b₀ Bx A B) (k : Kp b₀ Bx B C) : Kp b₀ Bx A C := ⟨h.1.trans k.1, k.2.trans h.2⟩
theorem Kp.b {b₀ Bx : Nat} {w : World} (hb : b₀ ≤ w.heap.size) (hx : Bx < w.heap.size) (W : World) (l : Nat) (o o' : Obj) (hl : w.heap.size ≤ l) (h : W.heap[l]? = some o) (hc : o.isCells = false) (hw : o.isWalk = false) : Kp b₀ Bx W (W.putObj l o') :=
  ⟨belowK_b hb W l o o' hl h hc hw, World.putObj_heap_other (by omega)⟩

set_option maxRecDepth 100000 in
set_option maxHeartbeats 1000000 in
theorem dig_in (F : Fence) (n : Nat) (h40 : F.fn 52) (hro : F.round = none) (hn : 1 ≤ n) (l Bs Bx b₀ : Nat) (X : Int) (s : Nat) (x0 : 0 ≤ X) (x1 : X ≤ 9223372036854775807) (s1 : s ≤ 63) (J Jx : List Int → World → Prop)
    (hY : ∀ pre x W, J pre W → pre.length < s → YieldAt F (n - 1) Try.prog l #[.int .u8 x] W fun e W' =>
      (e = .returned (.bool true) ∧ J (pre ++ [x]) W' ∧ Kp b₀ Bx W W') ∨ (e = .returned (.bool false) ∧ Jx (pre ++ [x]) W'))
    (W : World) (hs : Boxed W Bs 3 (.int .i64 s)) (hx : Boxed W Bx 3 (.int .i64 X)) (h0 : J [] W) :
    CallsIn F n Try.prog 52 #[.func (.yield l) #[] #[], .pointer (some ⟨Bs, 0, none⟩), .pointer (some ⟨Bx, 0, none⟩)] W fun e W' => (∃ v, e = .returned v) ∧
      ((∃ ys, ys = bi X s ∧ J ys W') ∨ (∃ pre, pre <+: bi X s ∧ Jx pre W')) := by
  have hsc := hs.cell
  refine callsIn_of_wp Try.func52 rfl h40 ?_ hro
  simp only [Try.ntmps52, List.size_toArray, List.length_cons, List.length_nil, Nat.reduceAdd, Nat.reduceSub, Array.replicate_succ, Array.replicate_zero, List.push_toArray, List.append_toArray, List.nil_append, List.cons_append]
  gi_wp2
  gi_loopw [4] (fun p wr => ∃ (pre : List Int) (m : Nat), p = .int .i64 ((m : Int) - 1) ∧ m ≤ s ∧ bi X s = pre ++ bi X m ∧ Boxed wr Bx 3 (.int .i64 X) ∧ J pre wr)
    (fun p _ => (intOf p + 1).toNat)
  case atStart =>
    exact ⟨[], s, rfl, Nat.le_refl _, rfl, hx, h0⟩
  case round =>
    obtain ⟨pre, m, rfl, hm, hL, hB, hJs⟩ := hrel
    have hBc := hB.cell
    cases m with
    | zero =>
      simp only [Int.natCast_zero, Int.zero_sub]
      gi_wp2
      go_end0
      exact ⟨⟨_, rfl⟩, .inl ⟨pre, by simpa [bi] using hL.symm, hJs⟩⟩
    | succ k =>
      rw [show ((k + 1 : Nat) : Int) - 1 = (k : Int) by omega]
      have hsb := shr_bd x0 x1 k
      have hand := and_one64 hsb.1 hsb.2
      have hlen : pre.length < s := by
        have := congrArg List.length hL
        rw [bi_len, List.length_append, bi_len] at this
        omega
      obtain ⟨d, hd⟩ : ∃ d, X / 2 ^ k % 2 = d := ⟨_, rfl⟩
      have hd0 : 0 ≤ d ∧ d ≤ 1 := by omega
      rw [hd] at hand
      obtain ⟨fn, tmps, assign, body, hy, hR⟩ := hY pre d wr hJs hlen
      have hL' : bi X s = (pre ++ [d]) ++ bi X k := by rw [hL, bi, hd]; simp
      have HL := Lib.hid hL'
      obtain ⟨e0, e1⟩ := hd0
      obtain ⟨y0, y1⟩ := hsb
      clear hL hL' hd
      gi_wp2
      refine hR.mono ?_
      rintro e W3 (⟨rfl, hJ3, hk3⟩ | ⟨rfl, hJx3⟩)
      · have hB3 : Boxed W3 Bx 3 (.int .i64 X) := hk3.2.trans hB
        gi_wp2
        go_roundw
        case rel => exact ⟨pre ++ [d], k, by go_num, by omega, HL.out, hB3, hJ3⟩
        case measure => first | (simp [intOf]; done) | (simp [intOf]; omega)
      · gi_wp2
        refine bodyPost_ret (results_none rfl _ _ _) rfl ?_
        exact ⟨⟨_, rfl⟩, .inr ⟨pre ++ [d], ⟨bi X k, HL.out.symm⟩, hJx3⟩⟩

theorem dig_stops (F : Fence) (n : Nat) (h40 : F.fn 52) (hro : F.round = none) (hn : 1 ≤ n) (Bs Bx b₀ : Nat) (X : Int) (s : Nat) (x0 : 0 ≤ X) (x1 : X ≤ 9223372036854775807) (s1 : s ≤ 63) (w : World) (hs : Boxed w Bs 3 (.int .i64 s)) (hx : Boxed w Bx 3 (.int .i64 X)) :
    SeqStopsK F n Try.prog 52 #[.pointer (some ⟨Bs, 0, none⟩), .pointer (some ⟨Bx, 0, none⟩)] (fun x : Int => #[Value.int .u8 x]) (Kp b₀ Bx) (fun ys => ys = bi X s) (fun pre => pre <+: bi X s) s w := fun l J Jx W hW _ _ hY h0 =>
  dig_in F n h40 hro hn l Bs Bx b₀ X s x0 x1 s1 J Jx hY W ((hW.block Bs hs.lt).trans hs) ((hW.block Bx hx.lt).trans hx) h0

/-! ### The maker -/
theorem dig_ok (X : Int) (s : Nat) (w : World) :
    Calls Try.prog 43 #[.int .i64 X, .int .i64 s] w fun e w' => e = .returned (.func (.func 52) #[] #[.pointer (some ⟨w.heap.size + 1, 0, none⟩), .pointer (some ⟨w.heap.size, 0, none⟩)]) ∧ Boxed w' (w.heap.size + 1) 3 (.int .i64 s) ∧ Boxed w' w.heap.size 3 (.int .i64 X) ∧ Below w.heap.size w w' := by
  have b1 := (Boxed.new w 3 (.int .i64 X)).alloc (.cells #[.int .i64 s] 3)
  have b2 := Boxed.new (w.alloc (.cells #[.int .i64 X] 3)) 3 (.int .i64 s)
  rw [World.size_alloc] at b2
  have hB0 : Below w.heap.size w ((w.alloc (.cells #[.int .i64 X] 3)).alloc (.cells #[.int .i64 s] 3)) := ((Below.refl _ w).alloc (Nat.le_refl _) _).alloc (by simp) _
  go_enter Try.func43, Try.ntmps43
  go_wp2
  go_ret
  exact ⟨rfl, b2, b1, hB0⟩

/-! ### What collect makes of it -/
theorem info5' : (Try.prog.info? 5).map (fun i => (i.zero, i.size, i.bytes)) = some (some (.int .u8 0), 1, 1) := by kernel_rfl
set_option maxRecDepth 100000 in
set_option maxHeartbeats 2000000 in
theorem col_in (F : Fence) (n : Nat) (h30 : F.fn 42) (h40 : F.fn 52) (hro : F.round = none) (hn : 3 ≤ n) (b₀ : Nat) (v0 : Value) (zs : List Int) (Bs Bx : Nat) (X : Int) (s : Nat) (x0 : 0 ≤ X) (x1 : X ≤ 9223372036854775807) (s1 : s ≤ 63) (hl : zs.length ≤ 1000000) (w : World) (hb : b₀ ≤ w.heap.size)
    (hown : w.ownsRow b₀ 5 1 v0 zs.length (zs.map (Value.int .u8))) (hs : Boxed w Bs 3 (.int .i64 s)) (hx : Boxed w Bx 3 (.int .i64 X)) :
    CallsIn F n Try.prog 42 #[v0, .func (.func 52) #[] #[.pointer (some ⟨Bs, 0, none⟩), .pointer (some ⟨Bx, 0, none⟩)]] w fun e W' => ∃ v, e = .returned v ∧ W'.ownsRow b₀ 5 1 v (zs ++ bi X s).length ((zs ++ bi X s).map (Value.int .u8)) ∧ Below b₀ w W' := by
  have h1 : 1 ≤ n := by omega
  obtain ⟨i0, hi, hz0, hz1, hz2⟩ := info_parts info5'
  refine callsIn_of_wp_marks Try.func42 rfl h30 ?_ hro
  simp only [Try.ntmps42, List.size_toArray, List.length_cons, List.length_nil, Nat.reduceAdd, Nat.reduceSub, Array.replicate_succ, Array.replicate_zero, List.push_toArray, List.append_toArray, List.nil_append, List.cons_append]
  obtain ⟨ao, lo, co, rfl⟩ : ∃ a l c, v0 = .slice a l c := by
    rcases hown.2 with ⟨rfl, _⟩ | ⟨g, cap, cur, rfl, _⟩
    · exact ⟨_, _, _, rfl⟩
    · exact ⟨_, _, _, rfl⟩
  gi_wp2
  have bO := Boxed.new w 25 (.slice ao lo co)
  have hBA : Below b₀ w (w.alloc (.cells #[.slice ao lo co] 25)) := (Below.refl _ w).alloc hb _
  have hBx := hx.lt
  refine wpIn_rangeFunc_ownG hro h1 (gf := 52) (lb := #[.pointer (some ⟨Bs, 0, none⟩), .pointer (some ⟨Bx, 0, none⟩)]) rfl h40 (enters_of Try.func52 (by kernel_rfl) rfl)
    (dig_stops F (n - 1) h40 hro (by omega) Bs Bx b₀ X s x0 x1 s1 _ (hs.alloc _) (hx.alloc _)) (fun h k => Kp.t h k) (Kp.b (by simp; omega) (by simp; omega)) (Below.refl _ _) (fun _ => rfl)
    (fun pre W => ((∃ v, Boxed W w.heap.size 25 v ∧ W.ownsRow b₀ 5 1 v (zs.length + pre.length) ((zs ++ pre).map (Value.int .u8)) ∧ True) ∧ Boxed W Bx 3 (.int .i64 X)) ∧ Below b₀ w W)
    (fun _ _ _ => False)
    (OwnFrom.and (OwnFrom.and (Own.from (holdsRow_own b₀ w.heap.size 25 5 1 (fun pre => zs.length + pre.length) (fun pre => (zs ++ pre).map (Value.int .u8)) (fun _ _ => True)) _) (Own.from (boxed_own Bx 3 (fun _ => .int .i64 X)) _)) (ownFrom_below hb (by simp; omega)))
    (fun _ _ _ _ _ hs _ _ => hs)
    ⟨⟨⟨_, bO, by simpa using hown.alloc _, trivial⟩, hx.alloc _⟩, hBA⟩
    (fun x => { tmps := #[.slice ao lo co, .func (.func 52) #[] #[.pointer (some ⟨Bs, 0, none⟩), .pointer (some ⟨Bx, 0, none⟩)], .pointer (some ⟨w.heap.size, 0, none⟩), undef, .slice none 0 0, .int .u8 x, .func (.func 52) #[] #[.pointer (some ⟨Bs, 0, none⟩), .pointer (some ⟨Bx, 0, none⟩)], .int .u8 x, undef, undef, undef, undef, undef], defers := [] }) ?assign ?body ?done ?stop
  case assign =>
    intro l x W K hK
    gi_wp2
    exact hK
  case body =>
    rintro l pre x W ⟨⟨⟨v, hv, hrow, _⟩, hxb⟩, hB⟩ hlt
    have hc := hv.cell
    have hpl : zs.length + pre.length ≤ 1000100 := by omega
    have hnr := hxb.not_row (by decide) hrow
    gi_wp2_with (gi_at_builtin; refine wpListIn_append_own _ rfl _ _ 25 rfl b₀ 5 i0 (.int .u8 0) 1 1 Try.underlying25 hi hz0 hz1 hz2 rfl (by decide) _ _ _ rfl (hrow.alloc _) ⟨W.heap.size, 0, none⟩ 1 1 [.int .u8 x] rfl rfl (cell_one_new _ _ _) (by simp [Value.oneCell']) (by unfold maxLen; omega) (by omega) (by have := hB.size; simp; omega) ?_; intro v' w1 hown' hgrow _; obtain ⟨g', cap', rfl⟩ := ownsRow_succ hown'; obtain ⟨hv1, hv2, hr2, hk2, hb2⟩ := hv.appended (by decide) hrow (Nat.le_trans hb hB.size) hb hown' hgrow; have hc1 := hv1.cell; have hf1 := hv1.frozen; have hx1 := ((hxb.alloc _).kept hgrow hnr).other (show Bx ≠ w.heap.size by omega) (.slice (some ⟨g', 0, none⟩) (zs.length + pre.length + 1) cap'))
    exact ⟨hk2.from _, ⟨hb2, hx1.trans hxb.symm⟩, ⟨⟨_, hv2, by simpa [Nat.add_assoc] using hr2, trivial⟩, hx1⟩, hB.trans hb2⟩
  case done =>
    rintro D ys W hD rfl ⟨⟨⟨v, hv, hrow, _⟩, _⟩, hB⟩ hK
    have hc := hv.cell
    gi_wp2
    refine ⟨by simp, .inl ⟨_, _, rfl, run_takeDeferred hK, ?_⟩⟩
    exact ⟨_, results_tmp rfl _ _ _, v, rfl, by have h := ownsRow_putObj hrow (.deferred none) hK rfl; rw [← List.length_append] at h; exact h, hB.trans (belowK_b (w := w) hb W D _ _ (by simp at hD; omega) hK rfl rfl)⟩
  case stop =>
    rintro D c pre W _ _ h _
    exact h.elim
theorem col_ok (b₀ : Nat) (v0 : Value) (zs : List Int) (Bs Bx : Nat) (X : Int) (s : Nat) (x0 : 0 ≤ X) (x1 : X ≤ 9223372036854775807) (s1 : s ≤ 63) (hl : zs.length ≤ 1000000) (w : World) (hb : b₀ ≤ w.heap.size)
    (hown : Cr.Own b₀ w v0 zs) (hs : Boxed w Bs 3 (.int .i64 s)) (hx : Boxed w Bx 3 (.int .i64 X)) :
    Calls Try.prog 42 #[v0, .func (.func 52) #[] #[.pointer (some ⟨Bs, 0, none⟩), .pointer (some ⟨Bx, 0, none⟩)]] w fun e W' => ∃ v, e = .returned v ∧ Cr.Own b₀ W' v (zs ++ bi X s) ∧ Below b₀ w W' :=
  callsIn_wide.1 (col_in Fence.wide 3 (by trivial) (by trivial) rfl (Nat.le_refl _) b₀ v0 zs Bs Bx X s x0 x1 s1 hl w hb hown hs hx)
end Go.Proofs.Ytchefgnefcabnaa.Bi
