/- Texts of one claim, one behind the other: BiPut, BiGet, BiSrc. -/
import Derived.Test.YteklahfgplbmcaaDoorMrg1
import Derived.WalkKit
import Derived.OwnWalk
import Derived.Laws.AppendOwn
import Derived.Laws.AppendOwnNone
import Derived.ProofKit
import Derived.OpenShut
import Derived.Lib.Hide
import Derived.RangeFuncNested
import Derived.RangeFuncBox
import Derived.Shelf.Abstract
set_option linter.unusedVariables false
/- What bits' Put does. -/
namespace Go.Proofs.YteklahfgplbmcaaDoor.Bi
open Go Go.ChangeShapes Go.WideShapes Go.ChangeAt Go.RowKit Go.Proofs.YteklahfgplbmcaaDoor.Cr

theorem pow_bd {s : Nat} (hs : s ≤ 31) : (1 : Int) ≤ 2 ^ s ∧ (2 : Int) ^ s ≤ 2147483648 := by
  have h : (2 : Int) ^ s ≤ 2 ^ 31 := by
    have := Nat.pow_le_pow_right (show 0 < 2 by omega) hs
    have h2 : ((2 ^ s : Nat) : Int) ≤ ((2 ^ 31 : Nat) : Int) := by omega
    simpa using h2
  have h1 : (0 : Int) < 2 ^ s := Int.pow_pos (by decide)
  have h3 : (2 : Int) ^ 31 = 2147483648 := by decide
  omega

theorem put_bad (v0 : Value) (X S : Int) (w : World) (h : S < 0 ∨ 31 < S ∨ X < 0 ∨ 2 ^ S.toNat ≤ X) :
    Calls Tryd.prog 51 #[v0, .int .i64 X, .int .i64 S] w fun e w' => e = .returned (.tuple #[.slice none 0 0, .int .i64 2]) ∧ w = w' := by
  by_cases h1 : S < 0
  · go_enter Tryd.func51, Tryd.ntmps51
    go_wp2
    go_ret2
    exact ⟨rfl, rfl⟩
  by_cases h2 : 31 < S
  · go_enter Tryd.func51, Tryd.ntmps51
    go_wp2
    go_ret2
    exact ⟨rfl, rfl⟩
  by_cases h3 : X < 0
  · go_enter Tryd.func51, Tryd.ntmps51
    go_wp2
    go_ret2
    exact ⟨rfl, rfl⟩
  obtain ⟨s, rfl⟩ : ∃ s : Nat, S = s := ⟨S.toNat, by omega⟩
  have h4 : 2 ^ s ≤ X := by
    have : 2 ^ ((s : Int)).toNat ≤ X := by omega
    simpa using this
  obtain ⟨p0, p1⟩ := pow_bd (s := s) (by omega)
  clear h
  go_enter Tryd.func51, Tryd.ntmps51
  go_wp2
  go_ret2
  exact ⟨rfl, rfl⟩

/-- The cells of what came in. -/
def Cl (w : World) (x : Addr) (zs : List Int) : Prop := ∀ j u, (zs.map (Value.int .u8))[j]? = some u → w.cell? (x.add j) = some u
theorem lt_of_cell {w : World} {p : Addr} {v : Value} (h : w.cell? p = some v) : p.block < w.heap.size := by
  refine Nat.not_le.1 fun hle => ?_
  have : w.heap[p.block]? = none := by simp; omega
  simp [World.cell?, this] at h
theorem Cl.below {w w' : World} {x : Addr} {zs : List Int} (h : Cl w x zs) (hb : Below w.heap.size w w') : Cl w' x zs := fun j u hu => (hb.cell (lt_of_cell (h j u hu))).trans (h j u hu)
theorem one8' (zs : List Int) : ∀ u ∈ zs.map (Value.int .u8), u.oneCell' = true := by
  intro u hu
  simp only [List.mem_map] at hu
  obtain ⟨x, _, rfl⟩ := hu
  rfl
theorem put_test {X : Int} {s : Nat} (h : X < 2 ^ s) : ¬ (2 : Int) ^ s ≤ X := by omega

set_option maxRecDepth 100000 in
set_option maxHeartbeats 1000000 in
theorem put_none (X : Int) (s : Nat) (w : World) (s1 : s ≤ 31) (x0 : 0 ≤ X) (x1 : X < 2 ^ s) :
    Calls Tryd.prog 51 #[.slice none 0 0, .int .i64 X, .int .i64 s] w fun e w' => ∃ v, e = .returned (.tuple #[v, .int .i64 0]) ∧ Cr.Own w.heap.size w' v ([] ++ bi X s) ∧ Below w.heap.size w w' := by
  obtain ⟨i0, hi, hz0, hz1, hz2⟩ := info_parts info5'
  obtain ⟨p0, p1⟩ := pow_bd s1
  have x2 : X ≤ 9223372036854775807 := by omega
  go_enter Tryd.func51, Tryd.ntmps51
  go_wp2_with (first
    | (refine wpList_make_own _ rfl _ _ 28 rfl w.heap.size 5 i0 (.int .u8 0) 1 Tryd.underlying28 hi hz0 hz1 .i64 .i64 _ s rfl rfl (by first | rfl | (simp; done) | omega) (by rw [hz2]; omega) (by unfold maxLen; omega) (Nat.le_refl _) ?_; intro w1 ho1 hg1; have hb1 : Below w.heap.size w w1 := (Below.refl _ _).grown hg1 (Nat.le_refl _) (fun k hk => by cases hk); have hs1 := hb1.size)
    | (at_builtin; refine wpList_append_own_none rfl _ (.tmp 31) 28 rfl w.heap.size 5 i0 1 Tryd.underlying28 hi _ _ _ rfl ho1 rfl ?_; have ho2 : Cr.Own w.heap.size w1 (.slice (some ⟨w.heap.size, 0, none⟩) 0 s) [] := ho1; have hb2 := hb1; have hs2 := hs1)
    | (go_at_call 82; ((with_reducible refine (dig_ok X s _).mono ?_); rintro e w3 ⟨rfl, hBs, hBx, hb3⟩; have ho3 := Cr.Own.below ho2 hb3; have hb4 := belowT hb2 hb3; have hs3 := hb4.size))
    | (go_at_call 81; ((with_reducible refine (col_ok w.heap.size _ [] _ _ X s x0 x2 (by omega) (by first | (simp; done) | omega) _ hs3 ho3 hBs hBx).mono ?_); rintro e w5 ⟨v5, rfl, ho5, hb5⟩)))
  go_ret2
  exact ⟨_, rfl, ho5, hb4.trans hb5⟩

set_option maxRecDepth 100000 in
set_option maxHeartbeats 1000000 in
theorem put_some (x : Addr) (c0 : Nat) (zs : List Int) (X : Int) (s : Nat) (w : World) (s1 : s ≤ 31) (x0 : 0 ≤ X) (x1 : X < 2 ^ s) (hl : zs.length ≤ 100000) (kb : Cl w x zs) :
    Calls Tryd.prog 51 #[.slice (some x) zs.length c0, .int .i64 X, .int .i64 s] w fun e w' => ∃ v, e = .returned (.tuple #[v, .int .i64 0]) ∧ Cr.Own w.heap.size w' v (zs ++ bi X s) ∧ Below w.heap.size w w' := by
  obtain ⟨i0, hi, hz0, hz1, hz2⟩ := info_parts info5'
  obtain ⟨p0, p1⟩ := pow_bd s1
  have x2 : X ≤ 9223372036854775807 := by omega
  have KB := Lib.hid kb
  clear kb
  go_enter Tryd.func51, Tryd.ntmps51
  go_wp2_with (first
    | (refine wpList_make_own _ rfl _ _ 28 rfl w.heap.size 5 i0 (.int .u8 0) 1 Tryd.underlying28 hi hz0 hz1 .i64 .i64 _ (zs.length + s) rfl rfl (by first | rfl | (simp; done) | omega) (by rw [hz2]; omega) (by unfold maxLen; omega) (Nat.le_refl _) ?_; intro w1 ho1 hg1; have hb1 : Below w.heap.size w w1 := (Below.refl _ _).grown hg1 (Nat.le_refl _) (fun k hk => by cases hk); have hs1 := hb1.size)
    | (at_builtin; refine wpList_append_own _ rfl _ (.tmp 31) 28 rfl w.heap.size 5 i0 (.int .u8 0) 1 1 Tryd.underlying28 hi hz0 hz1 hz2 rfl (by decide) _ _ _ rfl ho1 x zs.length c0 (zs.map (Value.int .u8)) rfl (by simp) (KB.out.below hb1) (one8' _) (by unfold maxLen; omega) (by omega) hs1 ?_; intro v2 w2 ho2' hg2 _; have ho2 : Cr.Own w.heap.size w2 v2 zs := (by unfold Cr.Own; simpa using ho2'); have hb2 : Below w.heap.size w w2 := hb1.grown hg2 hs1 (fun k hk => (ho1.lt k hk).1); have hs2 := hb2.size; clear ho2' hg2)
    | (go_at_call 82; ((with_reducible refine (dig_ok X s _).mono ?_); rintro e w3 ⟨rfl, hBs, hBx, hb3⟩; have ho3 := Cr.Own.below ho2 hb3; have hb4 := belowT hb2 hb3; have hs3 := hb4.size))
    | (go_at_call 81; ((with_reducible refine (col_ok w.heap.size _ zs _ _ X s x0 x2 (by omega) (by first | (simp; done) | omega) _ hs3 ho3 hBs hBx).mono ?_); rintro e w5 ⟨v5, rfl, ho5, hb5⟩)))
  go_ret2
  exact ⟨_, rfl, ho5, hb4.trans hb5⟩

end Go.Proofs.YteklahfgplbmcaaDoor.Bi

/- What bits' Get does. -/
namespace Go.Proofs.YteklahfgplbmcaaDoor.Bi
open Go Go.ChangeShapes Go.WideShapes Go.ChangeAt Go.RowKit Go.Proofs.YteklahfgplbmcaaDoor.Cr

theorem get_arg (a0 : Option Addr) (l0 c0 : Nat) (A S : Int) (w : World) (hl : l0 ≤ maxLen) (h : S < 0 ∨ 31 < S ∨ A < 0 ∨ (l0 : Int) < A) :
    Calls Tryd.prog 53 #[.slice a0 l0 c0, .int .i64 A, .int .i64 S] w fun e w' => e = .returned (.tuple #[.int .i64 0, .int .i64 0, .int .i64 2]) ∧ w = w' := by
  unfold maxLen at hl
  by_cases h1 : S < 0
  · go_enter Tryd.func53, Tryd.ntmps53
    go_wp2
    go_ret3
    exact ⟨rfl, rfl⟩
  by_cases h2 : 31 < S
  · go_enter Tryd.func53, Tryd.ntmps53
    go_wp2
    go_ret3
    exact ⟨rfl, rfl⟩
  by_cases h3 : A < 0
  · go_enter Tryd.func53, Tryd.ntmps53
    go_wp2
    go_ret3
    exact ⟨rfl, rfl⟩
  have h4 : (l0 : Int) < A := by omega
  clear h
  go_enter Tryd.func53, Tryd.ntmps53
  go_wp2
  go_ret3
  exact ⟨rfl, rfl⟩

theorem get_end (a0 : Option Addr) (l0 c0 : Nat) (A S : Int) (w : World) (hl : l0 ≤ maxLen) (s0 : 0 ≤ S) (s1 : S ≤ 31) (a0' : 0 ≤ A) (a1 : A ≤ l0) (h : (l0 : Int) - A < S) :
    Calls Tryd.prog 53 #[.slice a0 l0 c0, .int .i64 A, .int .i64 S] w fun e w' => e = .returned (.tuple #[.int .i64 0, .int .i64 0, .int .i64 5]) ∧ w = w' := by
  unfold maxLen at hl
  go_enter Tryd.func53, Tryd.ntmps53
  go_wp2
  go_ret3
  exact ⟨rfl, rfl⟩

theorem take_snoc {zs : List Int} {k : Nat} (h : k < zs.length) : zs.take (k + 1) = zs.take k ++ [zs.getD k 0] := by
  rw [List.take_add_one, List.getElem?_eq_getElem h]; simp [h]
theorem take_bits {zs : List Int} (h : Bits zs) (k : Nat) : Bits (zs.take k) := fun z hz => h z (List.mem_of_mem_take hz)

theorem pow31 {k : Nat} (h : k ≤ 31) : (2 : Int) ^ k ≤ 2147483648 := (pow_bd h).2

set_option maxRecDepth 100000 in
set_option maxHeartbeats 1000000 in
/-- Where there is room, over a slice that has cells. ys: what is read. -/
theorem get_room (b off n c0 at' s : Nat) (ys : List Int) (w : World) (hn : n ≤ maxLen) (hc0 : n ≤ c0) (s1 : s ≤ 31) (h : at' + s ≤ n) (hne : at' < c0) (ly : ys.length = s) (hb : b < w.heap.size) (hz : ∀ z ∈ ys, 0 ≤ z ∧ z ≤ 255)
    (hc : ∀ i, i < s → w.cell? ⟨b, off + at' + i, none⟩ = some (.int .u8 (ys.getD i 0))) :
    Calls Tryd.prog 53 #[.slice (some ⟨b, off, none⟩) n c0, .int .i64 at', .int .i64 s] w fun e w' => ((Bits ys ∧ e = .returned (.tuple #[.int .i64 (num ys), .int .i64 ((at' : Int) + s), .int .i64 0])) ∨ (¬ Bits ys ∧ e = .returned (.tuple #[.int .i64 0, .int .i64 0, .int .i64 8]))) ∧ w = w' := by
  unfold maxLen at hn
  have HC := Lib.hid hc
  have HZ := Lib.hid hz
  have LY := Lib.hid ly
  clear hc hz ly
  have hne' : ¬ c0 = at' := by omega
  go_enter Tryd.func53, Tryd.ntmps53
  go_wp2
  go_loop [6, 10, 40] (fun m d i => ∃ k : Nat, k ≤ s ∧ i = .int .i64 k ∧ m = .int .i64 (num (ys.take k)) ∧ Hid (Bits (ys.take k))) (fun _ _ i => s - (intOf i).toNat)
  case atStart => exact ⟨0, by omega, rfl, rfl, Lib.hid (fun z h => by simp at h)⟩
  case round =>
    obtain ⟨k, hk, rfl, rfl, hB⟩ := hrel
    by_cases hlt : k < s
    · have q1 := HC.out k hlt
      have hd := HZ.out (ys.getD k 0) (by simp [LY.out, hlt])
      have hts := take_snoc (zs := ys) (k := k) (by rw [LY.out]; exact hlt)
      have hnb := num_bd k (ys.take k) (by simp [LY.out]; omega) hB.out
      have hp := pow31 (k := k) (by omega)
      have hnm := num_snoc (ys.take k) (ys.getD k 0)
      rw [← hts] at hnm
      obtain ⟨d, hdd⟩ : ∃ d, ys.getD k 0 = d := ⟨_, rfl⟩
      rw [hdd] at q1 hd hts hnm
      obtain ⟨N, hN⟩ : ∃ N, num (ys.take k) = N := ⟨_, rfl⟩
      rw [hN] at hnb hnm ⊢
      have HTS := Lib.hid hts
      have HNM := Lib.hid hnm
      have HD := Lib.hid hdd
      have n0 : 0 ≤ N := hnb.1
      have n1 : N ≤ 2147483648 := by omega
      clear hts hnm hdd hN hnb hp
      obtain ⟨d0, d1⟩ := hd
      by_cases hbit : d ≤ 1
      · have hor := or_one64 (n := N) (d := d) n0 (by omega) (by omega)
        go_wp2
        go_round
        case rel => exact ⟨k + 1, by omega, by go_num, by rw [HNM.out], Lib.hid (by rw [HTS.out]; exact bits_append hB.out (fun z hz => by simp at hz; omega))⟩
        case measure => simp [intOf]; omega
      · have hbig : 1 < d := by omega
        clear hbit
        go_wp2
        go_ret3
        exact ⟨.inr ⟨fun hb => by have := hb d (by rw [← HD.out]; simp [LY.out, hlt]); omega, rfl⟩, rfl⟩
    · obtain rfl : k = s := by omega
      have ht : ys.take k = ys := List.take_of_length_le (by rw [LY.out]; omega)
      rw [ht]
      have hB2 := hB.out
      rw [ht] at hB2
      have HB2 := Lib.hid hB2
      have hnb := num_bd k ys LY.out hB2
      have hp := pow31 (k := k) (by omega)
      clear hB2 hB ht
      have n0 : 0 ≤ num ys := hnb.1
      have n1 : num ys ≤ 2147483648 := by omega
      clear hnb hp
      go_wp2
      go_ret3
      exact ⟨.inl ⟨HB2.out, rfl⟩, rfl⟩

/-- Nothing is read. -/
theorem get_zero (b off n c0 at' : Nat) (w : World) (hn : n ≤ maxLen) (hc0 : n ≤ c0) (h : at' ≤ n) :
    Calls Tryd.prog 53 #[.slice (some ⟨b, off, none⟩) n c0, .int .i64 at', .int .i64 0] w fun e w' => e = .returned (.tuple #[.int .i64 0, .int .i64 at', .int .i64 0]) ∧ w = w' := by
  unfold maxLen at hn
  by_cases hne : c0 = at'
  all_goals
    go_enter Tryd.func53, Tryd.ntmps53
    go_wp2
    go_loop [6, 10, 40] (fun m _ i => i = .int .i64 0 ∧ m = .int .i64 0) (fun _ _ _ => 0)
    case atStart => exact ⟨rfl, rfl⟩
    case round =>
      obtain ⟨rfl, rfl⟩ := hrel
      go_wp2
      go_ret3
      exact ⟨rfl, rfl⟩
theorem get_nil (w : World) :
    Calls Tryd.prog 53 #[.slice none 0 0, .int .i64 0, .int .i64 0] w fun e w' => e = .returned (.tuple #[.int .i64 0, .int .i64 0, .int .i64 0]) ∧ w = w' := by
  go_enter Tryd.func53, Tryd.ntmps53
  go_wp2
  go_loop [6, 10, 40] (fun m _ i => i = .int .i64 0 ∧ m = .int .i64 0) (fun _ _ _ => 0)
  case atStart => exact ⟨rfl, rfl⟩
  case round =>
    obtain ⟨rfl, rfl⟩ := hrel
    go_wp2
    go_ret3
    exact ⟨rfl, rfl⟩
end Go.Proofs.YteklahfgplbmcaaDoor.Bi

/- What bits' Put and Get do with what is at hand. -/
namespace Go.Proofs.YteklahfgplbmcaaDoor.Bi
open Go Go.ChangeShapes Go.WideShapes Go.ChangeAt Go.RowKit Go.Shelf
open Go.Proofs.YteklahfgplbmcaaDoor.Cr (belowT below_grown)

attribute [local go_sem] Oper.semAt_some

set_option maxRecDepth 100000 in
set_option maxHeartbeats 2000000 in
theorem col_in2 (F : Fence) (n : Nat) (h30 : F.fn 81) (h40 : F.fn 107) (hro : F.round = none) (hn : 3 ≤ n) (b₀ : Nat) (v0 : Value) (zs : List Int) (Bs Bx : Nat) (X : Int) (s : Nat) (x0 : 0 ≤ X) (x1 : X ≤ 9223372036854775807) (s1 : s ≤ 63) (hl : zs.length ≤ 1000000) (w : World) (hb : b₀ ≤ w.heap.size)
    (hown : w.ownsRow b₀ 5 1 v0 zs.length (zs.map (Value.int .u8))) (hne : v0 ≠ .slice none 0 0) (hs : Boxed w Bs 3 (.int .i64 s)) (hx : Boxed w Bx 3 (.int .i64 X)) :
    CallsIn F n Tryd.prog 81 #[v0, .func (.func 107) #[] #[.pointer (some ⟨Bs, 0, none⟩), .pointer (some ⟨Bx, 0, none⟩)]] w fun e W' => ∃ v, e = .returned v ∧ W'.ownsRow b₀ 5 1 v (zs ++ bi X s).length ((zs ++ bi X s).map (Value.int .u8)) ∧ Below b₀ w W' ∧ v ≠ .slice none 0 0 := by
  have h1 : 1 ≤ n := by omega
  obtain ⟨i0, hi, hz0, hz1, hz2⟩ := info_parts info5'
  refine callsIn_of_wp_marks Tryd.func81 rfl h30 ?_ hro
  simp only [Tryd.ntmps81, List.size_toArray, List.length_cons, List.length_nil, Nat.reduceAdd, Nat.reduceSub, Array.replicate_succ, Array.replicate_zero, List.push_toArray, List.append_toArray, List.nil_append, List.cons_append]
  obtain ⟨ao, lo, co, rfl⟩ : ∃ a l c, v0 = .slice a l c := by
    rcases hown.2 with ⟨rfl, _⟩ | ⟨g, cap, cur, rfl, _⟩
    · exact ⟨_, _, _, rfl⟩
    · exact ⟨_, _, _, rfl⟩
  gi_wp2
  have bO := Boxed.new w 28 (.slice ao lo co)
  have hBA : Below b₀ w (w.alloc (.cells #[.slice ao lo co] 28)) := (Below.refl _ w).alloc hb _
  have hBx := hx.lt
  refine wpIn_rangeFunc_ownG hro h1 (gf := 107) (lb := #[.pointer (some ⟨Bs, 0, none⟩), .pointer (some ⟨Bx, 0, none⟩)]) rfl h40 (enters_of Tryd.func107 (by kernel_rfl) rfl)
    (dig_stops F (n - 1) h40 hro (by omega) Bs Bx b₀ X s x0 x1 s1 _ (hs.alloc _) (hx.alloc _)) (fun h k => Kp.t h k) (Kp.b (by simp; omega) (by simp; omega)) (Below.refl _ _) (fun _ => rfl)
    (fun pre W => ((∃ v, Boxed W w.heap.size 28 v ∧ W.ownsRow b₀ 5 1 v (zs.length + pre.length) ((zs ++ pre).map (Value.int .u8)) ∧ v ≠ .slice none 0 0) ∧ Boxed W Bx 3 (.int .i64 X)) ∧ Below b₀ w W)
    (fun _ _ _ => False)
    (OwnFrom.and (OwnFrom.and (Own.from (holdsRow_own b₀ w.heap.size 28 5 1 (fun pre => zs.length + pre.length) (fun pre => (zs ++ pre).map (Value.int .u8)) (fun _ v => v ≠ .slice none 0 0)) _) (Own.from (boxed_own Bx 3 (fun _ => .int .i64 X)) _)) (ownFrom_below hb (by simp; omega)))
    (fun _ _ _ _ _ hs _ _ => hs)
    ⟨⟨⟨_, bO, by simpa using hown.alloc _, hne⟩, hx.alloc _⟩, hBA⟩
    (fun x => { tmps := #[.slice ao lo co, .func (.func 107) #[] #[.pointer (some ⟨Bs, 0, none⟩), .pointer (some ⟨Bx, 0, none⟩)], .pointer (some ⟨w.heap.size, 0, none⟩), undef, .slice none 0 0, .int .u8 x, .func (.func 107) #[] #[.pointer (some ⟨Bs, 0, none⟩), .pointer (some ⟨Bx, 0, none⟩)], .int .u8 x, undef, undef, undef, undef, undef], defers := [] }) ?assign ?body ?done ?stop
  case assign =>
    intro l x W K hK
    gi_wp2
    exact hK
  case body =>
    rintro l pre x W ⟨⟨⟨v, hv, hrow, _⟩, hxb⟩, hB⟩ hlt
    have hc := hv.cell
    have hpl : zs.length + pre.length ≤ 1000100 := by omega
    have hnr := hxb.not_row (by decide) hrow
    gi_wp2_with (gi_at_builtin; refine wpListIn_append_own _ rfl _ _ 28 rfl b₀ 5 i0 (.int .u8 0) 1 1 Tryd.underlying28 hi hz0 hz1 hz2 rfl (by decide) _ _ _ rfl (hrow.alloc _) ⟨W.heap.size, 0, none⟩ 1 1 [.int .u8 x] rfl rfl (cell_one_new _ _ _) (by simp [Value.oneCell']) (by unfold maxLen; omega) (by omega) (by have := hB.size; simp; omega) ?_; intro v' w1 hown' hgrow _; obtain ⟨g', cap', rfl⟩ := ownsRow_succ hown'; obtain ⟨hv1, hv2, hr2, hk2, hb2⟩ := hv.appended (by decide) hrow (Nat.le_trans hb hB.size) hb hown' hgrow; have hc1 := hv1.cell; have hf1 := hv1.frozen; have hx1 := ((hxb.alloc _).kept hgrow hnr).other (show Bx ≠ w.heap.size by omega) (.slice (some ⟨g', 0, none⟩) (zs.length + pre.length + 1) cap'))
    exact ⟨hk2.from _, ⟨hb2, hx1.trans hxb.symm⟩, ⟨⟨_, hv2, by simpa [Nat.add_assoc] using hr2, by simp⟩, hx1⟩, hB.trans hb2⟩
  case done =>
    rintro D ys W hD rfl ⟨⟨⟨v, hv, hrow, hG⟩, _⟩, hB⟩ hK
    have hc := hv.cell
    gi_wp2
    refine ⟨by simp, .inl ⟨_, _, rfl, run_takeDeferred hK, ?_⟩⟩
    exact ⟨_, results_tmp rfl _ _ _, v, rfl, by have h := ownsRow_putObj hrow (.deferred none) hK rfl; rw [← List.length_append] at h; exact h, hB.trans (belowK_b (w := w) hb W D _ _ (by simp at hD; omega) hK rfl rfl), hG⟩
  case stop =>
    rintro D c pre W _ _ h _
    exact h.elim
theorem col_ok2 (b₀ : Nat) (v0 : Value) (zs : List Int) (Bs Bx : Nat) (X : Int) (s : Nat) (x0 : 0 ≤ X) (x1 : X ≤ 9223372036854775807) (s1 : s ≤ 63) (hl : zs.length ≤ 1000000) (w : World) (hb : b₀ ≤ w.heap.size)
    (hown : Cr.Own b₀ w v0 zs) (hne : v0 ≠ .slice none 0 0) (hs : Boxed w Bs 3 (.int .i64 s)) (hx : Boxed w Bx 3 (.int .i64 X)) :
    Calls Tryd.prog 81 #[v0, .func (.func 107) #[] #[.pointer (some ⟨Bs, 0, none⟩), .pointer (some ⟨Bx, 0, none⟩)]] w fun e W' => ∃ v, e = .returned v ∧ Cr.Own b₀ W' v (zs ++ bi X s) ∧ Below b₀ w W' ∧ v ≠ .slice none 0 0 :=
  callsIn_wide.1 (col_in2 Fence.wide 3 (by trivial) (by trivial) rfl (Nat.le_refl _) b₀ v0 zs Bs Bx X s x0 x1 s1 hl w hb hown hne hs hx)
set_option maxRecDepth 100000 in
set_option maxHeartbeats 1000000 in
theorem put_none2 (X : Int) (s : Nat) (w : World) (s1 : s ≤ 31) (x0 : 0 ≤ X) (x1 : X < 2 ^ s) :
    Calls Tryd.prog 51 #[.slice none 0 0, .int .i64 X, .int .i64 s] w fun e w' => ∃ v, e = .returned (.tuple #[v, .int .i64 0]) ∧ Cr.Own w.heap.size w' v ([] ++ bi X s) ∧ Below w.heap.size w w' ∧ v ≠ .slice none 0 0 := by
  obtain ⟨i0, hi, hz0, hz1, hz2⟩ := info_parts info5'
  obtain ⟨p0, p1⟩ := pow_bd s1
  have x2 : X ≤ 9223372036854775807 := by omega
  go_enter Tryd.func51, Tryd.ntmps51
  go_wp2_with (first
    | (refine wpList_make_own _ rfl _ _ 28 rfl w.heap.size 5 i0 (.int .u8 0) 1 Tryd.underlying28 hi hz0 hz1 .i64 .i64 _ s rfl rfl (by first | rfl | (simp; done) | omega) (by rw [hz2]; omega) (by unfold maxLen; omega) (Nat.le_refl _) ?_; intro w1 ho1 hg1; have hb1 : Below w.heap.size w w1 := (Below.refl _ _).grown hg1 (Nat.le_refl _) (fun k hk => by cases hk); have hs1 := hb1.size)
    | (at_builtin; refine wpList_append_own_none rfl _ (.tmp 31) 28 rfl w.heap.size 5 i0 1 Tryd.underlying28 hi _ _ _ rfl ho1 rfl ?_; have ho2 : Cr.Own w.heap.size w1 (.slice (some ⟨w.heap.size, 0, none⟩) 0 s) [] := ho1; have hb2 := hb1; have hs2 := hs1; have hne3 : Value.slice (some ⟨w.heap.size, 0, none⟩) 0 s ≠ .slice none 0 0 := (by simp))
    | (go_at_call 82; ((with_reducible refine (dig_ok X s _).mono ?_); rintro e w3 ⟨rfl, hBs, hBx, hb3⟩; have ho3 := Cr.Own.below ho2 hb3; have hb4 := belowT hb2 hb3; have hs3 := hb4.size))
    | (go_at_call 81; ((with_reducible refine (col_ok2 w.heap.size _ [] _ _ X s x0 x2 (by omega) (by first | (simp; done) | omega) _ hs3 ho3 hne3 hBs hBx).mono ?_); rintro e w5 ⟨v5, rfl, ho5, hb5, hne5⟩)))
  go_ret2
  exact ⟨_, rfl, ho5, hb4.trans hb5, hne5⟩

set_option maxRecDepth 100000 in
set_option maxHeartbeats 1000000 in
theorem put_some2 (x : Addr) (c0 : Nat) (zs : List Int) (X : Int) (s : Nat) (w : World) (s1 : s ≤ 31) (x0 : 0 ≤ X) (x1 : X < 2 ^ s) (hl : zs.length ≤ 100000) (kb : Cl w x zs) :
    Calls Tryd.prog 51 #[.slice (some x) zs.length c0, .int .i64 X, .int .i64 s] w fun e w' => ∃ v, e = .returned (.tuple #[v, .int .i64 0]) ∧ Cr.Own w.heap.size w' v (zs ++ bi X s) ∧ Below w.heap.size w w' ∧ v ≠ .slice none 0 0 := by
  obtain ⟨i0, hi, hz0, hz1, hz2⟩ := info_parts info5'
  obtain ⟨p0, p1⟩ := pow_bd s1
  have x2 : X ≤ 9223372036854775807 := by omega
  have KB := Lib.hid kb
  clear kb
  go_enter Tryd.func51, Tryd.ntmps51
  go_wp2_with (first
    | (refine wpList_make_own _ rfl _ _ 28 rfl w.heap.size 5 i0 (.int .u8 0) 1 Tryd.underlying28 hi hz0 hz1 .i64 .i64 _ (zs.length + s) rfl rfl (by first | rfl | (simp; done) | omega) (by rw [hz2]; omega) (by unfold maxLen; omega) (Nat.le_refl _) ?_; intro w1 ho1 hg1; have hb1 : Below w.heap.size w w1 := (Below.refl _ _).grown hg1 (Nat.le_refl _) (fun k hk => by cases hk); have hs1 := hb1.size)
    | (at_builtin; refine wpList_append_own _ rfl _ (.tmp 31) 28 rfl w.heap.size 5 i0 (.int .u8 0) 1 1 Tryd.underlying28 hi hz0 hz1 hz2 rfl (by decide) _ _ _ rfl ho1 x zs.length c0 (zs.map (Value.int .u8)) rfl (by simp) (KB.out.below hb1) (one8' _) (by unfold maxLen; omega) (by omega) hs1 ?_; intro v2 w2 ho2' hg2 hnn; have hne3 : v2 ≠ .slice none 0 0 := (fun h => absurd (show Value.slice (some ⟨w.heap.size, 0, none⟩) 0 (zs.length + s) = .slice none 0 0 from (hnn.1 h).1) (by simp)); have ho2 : Cr.Own w.heap.size w2 v2 zs := (by unfold Cr.Own; simpa using ho2'); have hb2 : Below w.heap.size w w2 := hb1.grown hg2 hs1 (fun k hk => (ho1.lt k hk).1); have hs2 := hb2.size; clear ho2' hg2)
    | (go_at_call 82; ((with_reducible refine (dig_ok X s _).mono ?_); rintro e w3 ⟨rfl, hBs, hBx, hb3⟩; have ho3 := Cr.Own.below ho2 hb3; have hb4 := belowT hb2 hb3; have hs3 := hb4.size))
    | (go_at_call 81; ((with_reducible refine (col_ok2 w.heap.size _ zs _ _ X s x0 x2 (by omega) (by first | (simp; done) | omega) _ hs3 ho3 hne3 hBs hBx).mono ?_); rintro e w5 ⟨v5, rfl, ho5, hb5, hne5⟩)))
  go_ret2
  exact ⟨_, rfl, ho5, hb4.trans hb5, hne5⟩


/-! ### Bytes at hand -/
def Src8 (w : World) (v : Value) (zs : List Int) : Prop := (v = .slice none 0 0 ∧ zs = []) ∨ ∃ x c, v = .slice (some x) zs.length c ∧ Cl w x zs
theorem Src8.below {w w' : World} {v : Value} {zs : List Int} (h : Src8 w v zs) (hb : Below w.heap.size w w') : Src8 w' v zs := by
  rcases h with h | ⟨x, c, e, h⟩
  · exact .inl h
  · exact .inr ⟨x, c, e, h.below hb⟩
theorem Src8.shape {w : World} {v : Value} {zs : List Int} (h : Src8 w v zs) : ∃ a c, v = .slice a zs.length c := by
  rcases h with ⟨rfl, rfl⟩ | ⟨x, c, rfl, _⟩
  · exact ⟨_, _, rfl⟩
  · exact ⟨_, _, rfl⟩
theorem own_src {base : Nat} {w : World} {v : Value} {zs : List Int} (h : Cr.Own base w v zs) : Src8 w v zs := by
  have hcells := @World.ownsRow.cells _ _ _ _ _ _ _ h
  obtain ⟨hx, ⟨rfl, hn⟩ | ⟨g, cap, cur, rfl, hg, hh, hc, hm, hs, ht⟩⟩ := h
  · exact .inl ⟨rfl, List.eq_nil_of_length_eq_zero hn⟩
  · exact .inr ⟨⟨g, 0, none⟩, cap, rfl, fun j u hu => hcells rfl j u hu⟩
theorem grown_refl (w : World) (r : Option Nat) : w.grownBy w r := ⟨rfl, rfl, rfl, Nat.le_refl _, fun _ _ _ => rfl⟩
/-- append behind what the call itself has made, whatever lies at hand. -/
theorem wpList_append_src (w : World) {ops : Array Oper} {rest : List Oper} {o : Oper} {a : Act} {Q : Exit → Act → World → Prop} (hgd : o.guard = none) (s x : Operand)
    (ho : o.op = .call { callee := .builtin .append, args := #[s, x], argTypes := #[28, 28] }) (base : Nat) (v : Value) (xs : List Int) (hs : a.eval s = v) (hown : Cr.Own base w v xs)
    (vx : Value) (zs : List Int) (hx : a.eval x = vx) (hsrc : Src8 w vx zs) (hl : xs.length + zs.length ≤ 1000000) (hbase : base ≤ w.heap.size)
    (h : ∀ v' w', Cr.Own base w' v' (xs ++ zs) → w.grownBy w' v.ownBlock → (v ≠ .slice none 0 0 → v' ≠ .slice none 0 0) → wpList Tryd.prog ops Q rest (a.put o.dst v') w') : wpList Tryd.prog ops Q (o :: rest) a w := by
  obtain ⟨i0, hi, hz0, hz1, hz2⟩ := info_parts info5'
  rcases hsrc with ⟨rfl, rfl⟩ | ⟨y, c, rfl, hc⟩
  · exact wpList_append_own_none hgd s x 28 ho base 5 i0 1 Tryd.underlying28 hi v xs.length (xs.map (Value.int .u8)) hs hown hx (h v w (by rw [List.append_nil]; exact hown) (grown_refl _ _) (fun h => h))
  · refine wpList_append_own w hgd s x 28 ho base 5 i0 (.int .u8 0) 1 1 Tryd.underlying28 hi hz0 hz1 hz2 rfl (by decide) v xs.length (xs.map (Value.int .u8)) hs hown y zs.length c (zs.map (Value.int .u8)) hx (by simp) hc (one8' _) (by unfold maxLen; omega) (by omega) hbase fun v' w' h1 h2 h3 => h v' w' ?_ h2 (fun hn he => hn (h3.1 he).1)
    unfold Cr.Own
    rw [List.length_append, List.map_append]
    exact h1
theorem put_src {v0 : Value} {zs : List Int} (X : Int) (s : Nat) (w : World) (hsrc : Src8 w v0 zs) (hl : zs.length ≤ 100000) (s1 : s ≤ 31) (x0 : 0 ≤ X) (x1 : X < 2 ^ s) :
    Calls Tryd.prog 51 #[v0, .int .i64 X, .int .i64 s] w fun e w' => ∃ g cap, e = .returned (.tuple #[.slice (some ⟨g, 0, none⟩) (zs.length + s) cap, .int .i64 0]) ∧ Cr.Own w.heap.size w' (.slice (some ⟨g, 0, none⟩) (zs.length + s) cap) (zs ++ bi X s) ∧ Below w.heap.size w w' := by
  have key : ∀ (e : Ending) (w' : World), (∃ v, e = .returned (.tuple #[v, .int .i64 0]) ∧ Cr.Own w.heap.size w' v (zs ++ bi X s) ∧ Below w.heap.size w w' ∧ v ≠ .slice none 0 0) → ∃ g cap, e = .returned (.tuple #[.slice (some ⟨g, 0, none⟩) (zs.length + s) cap, .int .i64 0]) ∧ Cr.Own w.heap.size w' (.slice (some ⟨g, 0, none⟩) (zs.length + s) cap) (zs ++ bi X s) ∧ Below w.heap.size w w' := by
    rintro e w' ⟨v, rfl, ho, hb, hne⟩
    have ho' := ho
    obtain ⟨hx, ⟨rfl, _⟩ | ⟨g, cap, cur, rfl, _⟩⟩ := ho
    · exact absurd rfl hne
    · rw [List.length_append, bi_len] at *
      exact ⟨g, cap, rfl, ho', hb⟩
  rcases hsrc with ⟨rfl, rfl⟩ | ⟨y, c, rfl, hc⟩
  · exact (put_none2 X s w s1 x0 x1).mono key
  · exact (put_some2 y c zs X s w s1 x0 x1 hl hc).mono key

/-- Get, out of what the call itself has made. -/
theorem get_own {base : Nat} {w : World} {v : Value} {zs : List Int} (ho : Cr.Own base w v zs) (hz : ∀ z ∈ zs, 0 ≤ z ∧ z ≤ 255) (at' s : Nat) (s1 : s ≤ 31) (h : at' + s ≤ zs.length) (hb : Cr.Bits ((zs.drop at').take s)) :
    Calls Tryd.prog 53 #[v, .int .i64 at', .int .i64 s] w fun e w' => e = .returned (.tuple #[.int .i64 (num ((zs.drop at').take s)), .int .i64 ((at' : Int) + s), .int .i64 0]) ∧ w = w' := by
  have hlt := ho.lt
  have hcells := @World.ownsRow.cells _ _ _ _ _ _ _ ho
  obtain ⟨hx, ⟨rfl, hn⟩ | ⟨g, cap, cur, rfl, hg, hh, hc, hm, hs, ht⟩⟩ := ho
  · obtain rfl : zs = [] := List.eq_nil_of_length_eq_zero hn
    obtain rfl : at' = 0 := by simp at h; omega
    obtain rfl : s = 0 := by simp at h; omega
    exact get_nil w
  · by_cases h0 : s = 0
    · subst h0
      refine (get_zero g 0 zs.length cap at' w (by omega) hc (by omega)).mono ?_
      rintro e w' ⟨rfl, rfl⟩
      exact ⟨by simp [num], rfl⟩
    · have ly : ((zs.drop at').take s).length = s := by simp; omega
      refine (get_room g 0 zs.length cap at' s ((zs.drop at').take s) w (by omega) hc s1 h (by omega) ly (hlt g rfl).2 (fun z hz' => hz z (List.mem_of_mem_drop (List.mem_of_mem_take hz'))) fun i hi => ?_).mono ?_
      · have := hcells (g := g) rfl (at' + i) (.int .u8 (zs.getD (at' + i) 0)) (by simp [show at' + i < zs.length by omega])
        rw [show (⟨g, 0, none⟩ : Addr).add (at' + i) = ⟨g, 0 + at' + i, none⟩ by simp [Addr.add]; omega] at this
        rw [this]
        simp [hi, List.getElem?_drop]
      · rintro e w' ⟨⟨_, rfl⟩ | ⟨hn, _⟩, rfl⟩
        · exact ⟨rfl, rfl⟩
        · exact absurd hb hn
theorem conv_zero (w : World) (a : Option Addr) (cap : Nat) : (convert 28 9 (.slice a 0 cap)).run Tryd.prog w = .ok (.string (strOfNums [])) w := by
  cases a with
  | none => exact run_convert_bytes_nil w 28 5 Tryd.underlying28 Tryd.underlying5 0 cap 9 Tryd.underlying9
  | some x =>
    have hl : (loadCells x 0).run Tryd.prog w = .ok (([] : List Int).map (Value.int .u8)).toArray w := by
      have := run_loadCells_list (P := Tryd.prog) w x [] (fun j v hj => by simp at hj)
      simpa using this
    rw [run_convert_bytes_string w 28 9 5 _ 0 cap Tryd.underlying28 Tryd.underlying5 Tryd.underlying9, run_bytesToString w x 0 cap [] hl]
    rfl
/-- A slice's string, by its cells. -/
theorem conv_src {w : World} {v : Value} {zs : List Int} (h : Src8 w v zs) : (convert 28 9 v).run Tryd.prog w = .ok (.string (strOfNums zs)) w := by
  rcases h with ⟨rfl, rfl⟩ | ⟨x, c, rfl, hc⟩
  · exact conv_zero w none 0
  · have hl : (loadCells x zs.length).run Tryd.prog w = .ok (zs.map (Value.int .u8)).toArray w := by
      have := run_loadCells_list (P := Tryd.prog) w x (zs.map (Value.int .u8)) hc
      simpa using this
    rw [run_convert_bytes_string w 28 9 5 _ zs.length c Tryd.underlying28 Tryd.underlying5 Tryd.underlying9, run_bytesToString w x zs.length c zs hl, foldl_push_bytes]
    simp [strOfNums]
end Go.Proofs.YteklahfgplbmcaaDoor.Bi
