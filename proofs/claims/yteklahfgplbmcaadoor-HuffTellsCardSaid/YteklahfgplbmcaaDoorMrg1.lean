/- Texts of one claim, one behind the other: BiCon, BiMath. -/
import Derived.RangeFuncNested
import Derived.RangeFuncBound
import Derived.RangeFuncCalls
import Derived.RangeFuncLeaves
import Derived.RangeFuncBox
import Derived.Shelf.Abstract
import Derived.Shelf.RegionOpen
import Derived.WalkKit
import Derived.OwnWalkIn
import Derived.TacticsInMore
import Derived.LoopNIn
import Derived.LoopIn
import Derived.Maps.AppendAt
import Derived.Test.YteklahfgplbmcaaDoorMrg0
import Derived.ProofKit
import Derived.OpenShut
import Derived.Lib.Hide
set_option linter.unusedVariables false
/- What bits' iterator over a number's bits does, and what collect makes of it. -/
namespace Go.Proofs.YteklahfgplbmcaaDoor.Bi
open Go Go.ChangeShapes Go.WideShapes Go.ChangeAt Go.RowKit Go.Shelf

attribute [local go_sem] Oper.semAt_some

/-! ### A number's bits, the highest one first -/
def bi (X : Int) : Nat → List Int
  | 0 => []
  | m + 1 => (X / 2 ^ m % 2) :: bi X m
theorem bi_len (X : Int) : ∀ m, (bi X m).length = m
  | 0 => rfl
  | m + 1 => by simp [bi, bi_len X m]

theorem i64_in {n : Int} (h0 : -9223372036854775808 ≤ n) (h1 : n ≤ 9223372036854775807) : IntKind.i64.wrap n = n := by rw [IntKind.wrap_i64]; omega
theorem ofInt64 {x : Int} (h0 : 0 ≤ x) (h1 : x ≤ 9223372036854775807) : (BitVec.ofInt IntKind.i64.bits x).toNat = x.toNat := by
  rw [BitVec.toNat_ofInt]
  show (x % ((2 ^ 64 : Nat) : Int)).toNat = x.toNat
  omega
theorem and_one64 {y : Int} (h0 : 0 ≤ y) (h1 : y ≤ 9223372036854775807) : bits .and .i64 y 1 = y % 2 := by
  have e : bits .and .i64 y 1 = IntKind.i64.wrap (((BitVec.ofInt IntKind.i64.bits y &&& BitVec.ofInt IntKind.i64.bits 1).toNat : Nat) : Int) := rfl
  rw [e, BitVec.toNat_and, ofInt64 h0 h1, ofInt64 (by decide) (by decide)]
  have : (y.toNat &&& (1 : Int).toNat) = y.toNat % 2 := Nat.and_one_is_mod _
  rw [this, i64_in (by omega) (by omega)]
  omega
theorem shr_bd {X : Int} (x0 : 0 ≤ X) (x1 : X ≤ 9223372036854775807) (n : Nat) : 0 ≤ X / 2 ^ n ∧ X / 2 ^ n ≤ 9223372036854775807 := by
  have p : (0 : Int) < 2 ^ n := Int.pow_pos (by decide)
  exact ⟨Int.ediv_nonneg x0 (by omega), Int.le_trans (Int.ediv_le_self _ x0) x1⟩

/-! ### The iterator -/
/-- What a round must keep. -/
def Kp (b₀ Bx : Nat) (A B : World) : Prop := Below b₀ A B ∧ B.heap[Bx]? = A.heap[Bx]?
theorem Kp.t {b₀ Bx : Nat} {A B C : World} (h : Kp b₀ Bx A B) (k : Kp b₀ Bx B C) : Kp b₀ Bx A C := ⟨h.1.trans k.1, k.2.trans h.2⟩
theorem Kp.b {b₀ Bx : Nat} {w : World} (hb : b₀ ≤ w.heap.size) (hx : Bx < w.heap.size) (W : World) (l : Nat) (o o' : Obj) (hl : w.heap.size ≤ l) (h : W.heap[l]? = some o) (hc : o.isCells = false) (hw : o.isWalk = false) : Kp b₀ Bx W (W.putObj l o') :=
  ⟨belowK_b hb W l o o' hl h hc hw, World.putObj_heap_other (by omega)⟩

set_option maxRecDepth 100000 in
set_option maxHeartbeats 1000000 in
theorem dig_in (F : Fence) (n : Nat) (h40 : F.fn 107) (hro : F.round = none) (hn : 1 ≤ n) (l Bs Bx b₀ : Nat) (X : Int) (s : Nat) (x0 : 0 ≤ X) (x1 : X ≤ 9223372036854775807) (s1 : s ≤ 63) (J Jx : List Int → World → Prop)
    (hY : ∀ pre x W, J pre W → pre.length < s → YieldAt F (n - 1) Tryd.prog l #[.int .u8 x] W fun e W' =>
      (e = .returned (.bool true) ∧ J (pre ++ [x]) W' ∧ Kp b₀ Bx W W') ∨ (e = .returned (.bool false) ∧ Jx (pre ++ [x]) W'))
    (W : World) (hs : Boxed W Bs 3 (.int .i64 s)) (hx : Boxed W Bx 3 (.int .i64 X)) (h0 : J [] W) :
    CallsIn F n Tryd.prog 107 #[.func (.yield l) #[] #[], .pointer (some ⟨Bs, 0, none⟩), .pointer (some ⟨Bx, 0, none⟩)] W fun e W' => (∃ v, e = .returned v) ∧
      ((∃ ys, ys = bi X s ∧ J ys W') ∨ (∃ pre, pre <+: bi X s ∧ Jx pre W')) := by
  have hsc := hs.cell
  refine callsIn_of_wp Tryd.func107 rfl h40 ?_ hro
  simp only [Tryd.ntmps107, List.size_toArray, List.length_cons, List.length_nil, Nat.reduceAdd, Nat.reduceSub, Array.replicate_succ, Array.replicate_zero, List.push_toArray, List.append_toArray, List.nil_append, List.cons_append]
  gi_wp2
  gi_loopw [4] (fun p wr => ∃ (pre : List Int) (m : Nat), p = .int .i64 ((m : Int) - 1) ∧ m ≤ s ∧ bi X s = pre ++ bi X m ∧ Boxed wr Bx 3 (.int .i64 X) ∧ J pre wr)
    (fun p _ => (intOf p + 1).toNat)
  case atStart =>
    exact ⟨[], s, rfl, Nat.le_refl _, rfl, hx, h0⟩
  case round =>
    obtain ⟨pre, m, rfl, hm, hL, hB, hJs⟩ := hrel
    have hBc := hB.cell
    cases m with
    | zero =>
      simp only [Int.natCast_zero, Int.zero_sub]
      gi_wp2
      go_end0
      exact ⟨⟨_, rfl⟩, .inl ⟨pre, by simpa [bi] using hL.symm, hJs⟩⟩
    | succ k =>
      rw [show ((k + 1 : Nat) : Int) - 1 = (k : Int) by omega]
      have hsb := shr_bd x0 x1 k
      have hand := and_one64 hsb.1 hsb.2
      have hlen : pre.length < s := by
        have := congrArg List.length hL
        rw [bi_len, List.length_append, bi_len] at this
        omega
      obtain ⟨d, hd⟩ : ∃ d, X / 2 ^ k % 2 = d := ⟨_, rfl⟩
      have hd0 : 0 ≤ d ∧ d ≤ 1 := by omega
      rw [hd] at hand
      obtain ⟨fn, tmps, assign, body, hy, hR⟩ := hY pre d wr hJs hlen
      have hL' : bi X s = (pre ++ [d]) ++ bi X k := by rw [hL, bi, hd]; simp
      have HL := Lib.hid hL'
      obtain ⟨e0, e1⟩ := hd0
      obtain ⟨y0, y1⟩ := hsb
      clear hL hL' hd
      gi_wp2
      refine hR.mono ?_
      rintro e W3 (⟨rfl, hJ3, hk3⟩ | ⟨rfl, hJx3⟩)
      · have hB3 : Boxed W3 Bx 3 (.int .i64 X) := hk3.2.trans hB
        gi_wp2
        go_roundw
        case rel => exact ⟨pre ++ [d], k, by go_num, by omega, HL.out, hB3, hJ3⟩
        case measure => first | (simp [intOf]; done) | (simp [intOf]; omega)
      · gi_wp2
        refine bodyPost_ret (results_none rfl _ _ _) rfl ?_
        exact ⟨⟨_, rfl⟩, .inr ⟨pre ++ [d], ⟨bi X k, HL.out.symm⟩, hJx3⟩⟩

theorem dig_stops (F : Fence) (n : Nat) (h40 : F.fn 107) (hro : F.round = none) (hn : 1 ≤ n) (Bs Bx b₀ : Nat) (X : Int) (s : Nat) (x0 : 0 ≤ X) (x1 : X ≤ 9223372036854775807) (s1 : s ≤ 63) (w : World) (hs : Boxed w Bs 3 (.int .i64 s)) (hx : Boxed w Bx 3 (.int .i64 X)) :
    SeqStopsK F n Tryd.prog 107 #[.pointer (some ⟨Bs, 0, none⟩), .pointer (some ⟨Bx, 0, none⟩)] (fun x : Int => #[Value.int .u8 x]) (Kp b₀ Bx) (fun ys => ys = bi X s) (fun pre => pre <+: bi X s) s w := fun l J Jx W hW _ _ hY h0 =>
  dig_in F n h40 hro hn l Bs Bx b₀ X s x0 x1 s1 J Jx hY W ((hW.block Bs hs.lt).trans hs) ((hW.block Bx hx.lt).trans hx) h0

/-! ### The maker -/
theorem dig_ok (X : Int) (s : Nat) (w : World) :
    Calls Tryd.prog 82 #[.int .i64 X, .int .i64 s] w fun e w' => e = .returned (.func (.func 107) #[] #[.pointer (some ⟨w.heap.size + 1, 0, none⟩), .pointer (some ⟨w.heap.size, 0, none⟩)]) ∧ Boxed w' (w.heap.size + 1) 3 (.int .i64 s) ∧ Boxed w' w.heap.size 3 (.int .i64 X) ∧ Below w.heap.size w w' := by
  have b1 := (Boxed.new w 3 (.int .i64 X)).alloc (.cells #[.int .i64 s] 3)
  have b2 := Boxed.new (w.alloc (.cells #[.int .i64 X] 3)) 3 (.int .i64 s)
  rw [World.size_alloc] at b2
  have hB0 : Below w.heap.size w ((w.alloc (.cells #[.int .i64 X] 3)).alloc (.cells #[.int .i64 s] 3)) := ((Below.refl _ w).alloc (Nat.le_refl _) _).alloc (by simp) _
  go_enter Tryd.func82, Tryd.ntmps82
  go_wp2
  go_ret
  exact ⟨rfl, b2, b1, hB0⟩

/-! ### What collect makes of it -/
theorem info5' : (Tryd.prog.info? 5).map (fun i => (i.zero, i.size, i.bytes)) = some (some (.int .u8 0), 1, 1) := by kernel_rfl
set_option maxRecDepth 100000 in
set_option maxHeartbeats 2000000 in
theorem col_in (F : Fence) (n : Nat) (h30 : F.fn 81) (h40 : F.fn 107) (hro : F.round = none) (hn : 3 ≤ n) (b₀ : Nat) (v0 : Value) (zs : List Int) (Bs Bx : Nat) (X : Int) (s : Nat) (x0 : 0 ≤ X) (x1 : X ≤ 9223372036854775807) (s1 : s ≤ 63) (hl : zs.length ≤ 1000000) (w : World) (hb : b₀ ≤ w.heap.size)
    (hown : w.ownsRow b₀ 5 1 v0 zs.length (zs.map (Value.int .u8))) (hs : Boxed w Bs 3 (.int .i64 s)) (hx : Boxed w Bx 3 (.int .i64 X)) :
    CallsIn F n Tryd.prog 81 #[v0, .func (.func 107) #[] #[.pointer (some ⟨Bs, 0, none⟩), .pointer (some ⟨Bx, 0, none⟩)]] w fun e W' => ∃ v, e = .returned v ∧ W'.ownsRow b₀ 5 1 v (zs ++ bi X s).length ((zs ++ bi X s).map (Value.int .u8)) ∧ Below b₀ w W' := by
  have h1 : 1 ≤ n := by omega
  obtain ⟨i0, hi, hz0, hz1, hz2⟩ := info_parts info5'
  refine callsIn_of_wp_marks Tryd.func81 rfl h30 ?_ hro
  simp only [Tryd.ntmps81, List.size_toArray, List.length_cons, List.length_nil, Nat.reduceAdd, Nat.reduceSub, Array.replicate_succ, Array.replicate_zero, List.push_toArray, List.append_toArray, List.nil_append, List.cons_append]
  obtain ⟨ao, lo, co, rfl⟩ : ∃ a l c, v0 = .slice a l c := by
    rcases hown.2 with ⟨rfl, _⟩ | ⟨g, cap, cur, rfl, _⟩
    · exact ⟨_, _, _, rfl⟩
    · exact ⟨_, _, _, rfl⟩
  gi_wp2
  have bO := Boxed.new w 28 (.slice ao lo co)
  have hBA : Below b₀ w (w.alloc (.cells #[.slice ao lo co] 28)) := (Below.refl _ w).alloc hb _
  have hBx := hx.lt
  refine wpIn_rangeFunc_ownG hro h1 (gf := 107) (lb := #[.pointer (some ⟨Bs, 0, none⟩), .pointer (some ⟨Bx, 0, none⟩)]) rfl h40 (enters_of Tryd.func107 (by kernel_rfl) rfl)
    (dig_stops F (n - 1) h40 hro (by omega) Bs Bx b₀ X s x0 x1 s1 _ (hs.alloc _) (hx.alloc _)) (fun h k => Kp.t h k) (Kp.b (by simp; omega) (by simp; omega)) (Below.refl _ _) (fun _ => rfl)
    (fun pre W => ((∃ v, Boxed W w.heap.size 28 v ∧ W.ownsRow b₀ 5 1 v (zs.length + pre.length) ((zs ++ pre).map (Value.int .u8)) ∧ True) ∧ Boxed W Bx 3 (.int .i64 X)) ∧ Below b₀ w W)
    (fun _ _ _ => False)
    (OwnFrom.and (OwnFrom.and (Own.from (holdsRow_own b₀ w.heap.size 28 5 1 (fun pre => zs.length + pre.length) (fun pre => (zs ++ pre).map (Value.int .u8)) (fun _ _ => True)) _) (Own.from (boxed_own Bx 3 (fun _ => .int .i64 X)) _)) (ownFrom_below hb (by simp; omega)))
    (fun _ _ _ _ _ hs _ _ => hs)
    ⟨⟨⟨_, bO, by simpa using hown.alloc _, trivial⟩, hx.alloc _⟩, hBA⟩
    (fun x => { tmps := #[.slice ao lo co, .func (.func 107) #[] #[.pointer (some ⟨Bs, 0, none⟩), .pointer (some ⟨Bx, 0, none⟩)], .pointer (some ⟨w.heap.size, 0, none⟩), undef, .slice none 0 0, .int .u8 x, .func (.func 107) #[] #[.pointer (some ⟨Bs, 0, none⟩), .pointer (some ⟨Bx, 0, none⟩)], .int .u8 x, undef, undef, undef, undef, undef], defers := [] }) ?assign ?body ?done ?stop
  case assign =>
    intro l x W K hK
    gi_wp2
    exact hK
  case body =>
    rintro l pre x W ⟨⟨⟨v, hv, hrow, _⟩, hxb⟩, hB⟩ hlt
    have hc := hv.cell
    have hpl : zs.length + pre.length ≤ 1000100 := by omega
    have hnr := hxb.not_row (by decide) hrow
    gi_wp2_with (gi_at_builtin; refine wpListIn_append_own _ rfl _ _ 28 rfl b₀ 5 i0 (.int .u8 0) 1 1 Tryd.underlying28 hi hz0 hz1 hz2 rfl (by decide) _ _ _ rfl (hrow.alloc _) ⟨W.heap.size, 0, none⟩ 1 1 [.int .u8 x] rfl rfl (cell_one_new _ _ _) (by simp [Value.oneCell']) (by unfold maxLen; omega) (by omega) (by have := hB.size; simp; omega) ?_; intro v' w1 hown' hgrow _; obtain ⟨g', cap', rfl⟩ := ownsRow_succ hown'; obtain ⟨hv1, hv2, hr2, hk2, hb2⟩ := hv.appended (by decide) hrow (Nat.le_trans hb hB.size) hb hown' hgrow; have hc1 := hv1.cell; have hf1 := hv1.frozen; have hx1 := ((hxb.alloc _).kept hgrow hnr).other (show Bx ≠ w.heap.size by omega) (.slice (some ⟨g', 0, none⟩) (zs.length + pre.length + 1) cap'))
    exact ⟨hk2.from _, ⟨hb2, hx1.trans hxb.symm⟩, ⟨⟨_, hv2, by simpa [Nat.add_assoc] using hr2, trivial⟩, hx1⟩, hB.trans hb2⟩
  case done =>
    rintro D ys W hD rfl ⟨⟨⟨v, hv, hrow, _⟩, _⟩, hB⟩ hK
    have hc := hv.cell
    gi_wp2
    refine ⟨by simp, .inl ⟨_, _, rfl, run_takeDeferred hK, ?_⟩⟩
    exact ⟨_, results_tmp rfl _ _ _, v, rfl, by have h := ownsRow_putObj hrow (.deferred none) hK rfl; rw [← List.length_append] at h; exact h, hB.trans (belowK_b (w := w) hb W D _ _ (by simp at hD; omega) hK rfl rfl)⟩
  case stop =>
    rintro D c pre W _ _ h _
    exact h.elim
theorem col_ok (b₀ : Nat) (v0 : Value) (zs : List Int) (Bs Bx : Nat) (X : Int) (s : Nat) (x0 : 0 ≤ X) (x1 : X ≤ 9223372036854775807) (s1 : s ≤ 63) (hl : zs.length ≤ 1000000) (w : World) (hb : b₀ ≤ w.heap.size)
    (hown : Cr.Own b₀ w v0 zs) (hs : Boxed w Bs 3 (.int .i64 s)) (hx : Boxed w Bx 3 (.int .i64 X)) :
    Calls Tryd.prog 81 #[v0, .func (.func 107) #[] #[.pointer (some ⟨Bs, 0, none⟩), .pointer (some ⟨Bx, 0, none⟩)]] w fun e W' => ∃ v, e = .returned v ∧ Cr.Own b₀ W' v (zs ++ bi X s) ∧ Below b₀ w W' :=
  callsIn_wide.1 (col_in Fence.wide 3 (by trivial) (by trivial) rfl (Nat.le_refl _) b₀ v0 zs Bs Bx X s x0 x1 s1 hl w hb hown hs hx)
end Go.Proofs.YteklahfgplbmcaaDoor.Bi

/- Bits as numbers. -/
namespace Go.Proofs.YteklahfgplbmcaaDoor.Bi
open Go Go.Proofs.YteklahfgplbmcaaDoor.Cr

def num (zs : List Int) : Int := zs.foldl (fun n d => 2 * n + d) 0
theorem num_snoc (a : List Int) (d : Int) : num (a ++ [d]) = 2 * num a + d := by unfold num; rw [List.foldl_append]; rfl
theorem fold_acc : ∀ (zs : List Int) (acc : Int), zs.foldl (fun n d => 2 * n + d) acc = acc * 2 ^ zs.length + num zs
  | [], acc => by simp [num]
  | d :: l, acc => by
    have h1 := fold_acc l (2 * acc + d)
    have h2 := fold_acc l (2 * 0 + d)
    show l.foldl _ (2 * acc + d) = _
    rw [h1, show num (d :: l) = l.foldl (fun n d => 2 * n + d) (2 * 0 + d) from rfl, h2, List.length_cons, Int.pow_succ]
    generalize (2 : Int) ^ l.length = P
    rw [Int.add_mul, Int.mul_assoc 2 acc P, show (2 * 0 + d) = d by omega, ← Int.mul_assoc acc P 2]
    omega
theorem num_append (a b : List Int) : num (a ++ b) = num a * 2 ^ b.length + num b := by
  rw [show num (a ++ b) = b.foldl (fun n d => 2 * n + d) (num a) by unfold num; rw [List.foldl_append]]
  exact fold_acc b (num a)
theorem num_bd : ∀ n (zs : List Int), zs.length = n → Bits zs → 0 ≤ num zs ∧ num zs < 2 ^ n
  | 0, zs, h, _ => by rw [List.eq_nil_of_length_eq_zero h]; decide
  | n + 1, zs, h, hb => by
    rcases List.eq_nil_or_concat zs with rfl | ⟨a, d, rfl⟩
    · simp at h
    · simp only [List.concat_eq_append] at *
      have ha : a.length = n := by simp at h; omega
      obtain ⟨h0, h1⟩ := num_bd n a ha (fun z hz => hb z (by simp [hz]))
      have hd := hb d (by simp)
      rw [num_snoc, Int.pow_succ]
      generalize (2 : Int) ^ n = P at *
      omega
theorem bi_snoc (X : Int) : ∀ m, bi X (m + 1) = bi (X / 2) m ++ [X % 2]
  | 0 => by simp [bi]
  | m + 1 => by
    have h := bi_snoc X m
    have e : X / 2 ^ (m + 1) = X / 2 / 2 ^ m := by
      rw [Int.ediv_ediv_of_nonneg (by decide), Int.pow_succ, Int.mul_comm]
    rw [bi, h, bi, e]
    rfl
theorem num_bi : ∀ (m : Nat) (X : Int), 0 ≤ X → X < 2 ^ m → num (bi X m) = X
  | 0, X, h0, h1 => by simp at h1; have : X = 0 := by omega
                       rw [this]; rfl
  | m + 1, X, h0, h1 => by
    rw [Int.pow_succ] at h1
    rw [bi_snoc, num_snoc, num_bi m (X / 2) (by omega) (by generalize (2 : Int) ^ m = P at *; omega)]
    omega
theorem bi_bits (X : Int) : ∀ m, Bits (bi X m)
  | 0 => fun z h => by cases h
  | m + 1 => fun z h => by
    simp only [bi, List.mem_cons] at h
    rcases h with rfl | h
    · omega
    · exact bi_bits X m z h
theorem bi_num : ∀ n (zs : List Int), zs.length = n → Bits zs → bi (num zs) n = zs
  | 0, zs, h, _ => by rw [List.eq_nil_of_length_eq_zero h]; rfl
  | n + 1, zs, h, hb => by
    rcases List.eq_nil_or_concat zs with rfl | ⟨a, d, rfl⟩
    · simp at h
    · simp only [List.concat_eq_append] at *
      have ha : a.length = n := by simp at h; omega
      have hd := hb d (by simp)
      rw [bi_snoc, num_snoc, show (2 * num a + d) / 2 = num a by omega, show (2 * num a + d) % 2 = d by omega, bi_num n a ha (fun z hz => hb z (by simp [hz]))]
theorem bits_append {a b : List Int} (ha : Bits a) (hb : Bits b) : Bits (a ++ b) := fun z h => by
  rcases List.mem_append.1 h with h | h
  · exact ha z h
  · exact hb z h
theorem bi_split (X : Int) (a b : Nat) (h0 : 0 ≤ X) (h1 : X < 2 ^ (a + b)) : bi X (a + b) = bi (X / 2 ^ b) a ++ bi (X % 2 ^ b) b := by
  have hp : (0 : Int) < 2 ^ b := Int.pow_pos (by decide)
  have e1 : X / 2 ^ b < 2 ^ a := by
    rw [Int.ediv_lt_iff_lt_mul hp, ← Int.pow_add]; exact h1
  have e0 : 0 ≤ X / 2 ^ b := Int.ediv_nonneg h0 (by omega)
  have e2 := Int.emod_nonneg X (show (2 : Int) ^ b ≠ 0 by omega)
  have e3 := Int.emod_lt_of_pos X hp
  have hn : num (bi (X / 2 ^ b) a ++ bi (X % 2 ^ b) b) = X := by
    rw [num_append, num_bi a _ e0 e1, num_bi b _ e2 e3, bi_len]
    have := Int.mul_ediv_add_emod X (2 ^ b)
    rw [Int.mul_comm] at this
    omega
  have := bi_num (a + b) (bi (X / 2 ^ b) a ++ bi (X % 2 ^ b) b) (by rw [List.length_append, bi_len, bi_len]) (bits_append (bi_bits _ _) (bi_bits _ _))
  rwa [hn] at this

theorem or_one64 {n d : Int} (h0 : 0 ≤ n) (h1 : n ≤ 4611686018427387903) (hd : d = 0 ∨ d = 1) : bits .or .i64 (n * 2) d = 2 * n + d := by
  have e : bits .or .i64 (n * 2) d = IntKind.i64.wrap (((BitVec.ofInt IntKind.i64.bits (n * 2) ||| BitVec.ofInt IntKind.i64.bits d).toNat : Nat) : Int) := rfl
  rw [e, BitVec.toNat_or, ofInt64 (by omega) (by omega), ofInt64 (by omega) (by omega)]
  have : ((n * 2).toNat ||| d.toNat) = (2 * n + d).toNat := by
    obtain ⟨k, rfl⟩ : ∃ k : Nat, n = k := ⟨n.toNat, by omega⟩
    rw [show ((k : Int) * 2).toNat = k * 2 by omega]
    rcases hd with rfl | rfl
    · rw [show (2 * (k : Int) + 0).toNat = k * 2 by omega]; simp
    · rw [show (2 * (k : Int) + 1).toNat = k * 2 + 1 by omega, show (1 : Int).toNat = 1 from rfl]
      have := Nat.two_pow_add_eq_or_of_lt (b := 1) (i := 1) (by decide) k
      rw [show 2 ^ 1 * k + 1 = k * 2 + 1 by omega, show 2 ^ 1 * k = k * 2 by omega] at this
      exact this.symm
  rw [this, i64_in (by omega) (by omega)]
  omega
end Go.Proofs.YteklahfgplbmcaaDoor.Bi
