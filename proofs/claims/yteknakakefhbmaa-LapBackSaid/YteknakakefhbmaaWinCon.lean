import Derived.Test.YteknakakefhbmaaWinMath
import Derived.Test.YteknakakefhbmaaRootCon
import Derived.RangeFuncBox
import Derived.WalkKit
import Derived.RegionTactic
import Derived.ChangeAlike
import Derived.Deep.OwnRows
import Derived.ProofKit
import Derived.OpenShut
import Derived.Lib.Hide
namespace Go.Proofs.Yteknakakefhbmaa.Fx
open Go Go.ChangeShapes Go.WideShapes Go.ChangeAt Go.RowKit

theorem besT_step (u k : Nat) : (besT u k : Int) * u / (((k : Int) + 1) * ((k : Int) + 1) * 65536) = besT u (k + 1) := by
  have h : besT u (k + 1) = besT u k * u / ((k + 1) * (k + 1) * 65536) := rfl
  rw [h, Int.natCast_ediv, Int.natCast_mul, Int.natCast_mul, Int.natCast_mul, Int.natCast_add]; rfl
theorem sq64 {k : Nat} (h : k ≤ 63) : ((k : Int) + 1) * ((k : Int) + 1) ≤ 4096 ∧ 1 ≤ ((k : Int) + 1) * ((k : Int) + 1) := by
  have a : ((k : Int) + 1) * ((k : Int) + 1) ≤ 64 * 64 := Int.mul_le_mul (by omega) (by omega) (by omega) (by omega)
  have b : (1 : Int) * 1 ≤ ((k : Int) + 1) * ((k : Int) + 1) := Int.mul_le_mul (by omega) (by omega) (by omega) (by omega)
  exact ⟨by omega, by omega⟩
theorem bessel_ok (u X : Nat) (w : World) (hb : ∀ k, k < 63 → besT u k * u ≤ 4611686018427387904) (hX : besS u 63 = X) (hm : X ≤ 4611686018427387904) (hs : ∀ k, k ≤ 63 → besS u k ≤ X) :
    Calls Try.prog 92 #[.int .i64 u] w fun e w' => e = .returned (.int .i64 X) ∧ w = w' := by
  have HB := Lib.hid hb
  have HS := Lib.hid hs
  have HX := Lib.hid hX
  clear hb hs hX
  go_enter Try.func92, Try.ntmps92
  go_wp2
  go_loop [3, 4, 5] (fun t s i => ∃ k : Nat, k ≤ 63 ∧ t = .int .i64 (besT u k) ∧ s = .int .i64 (besS u k) ∧ i = .int .i64 ((k : Int) + 1)) (fun _ _ i => (64 - intOf i).toNat)
  case atStart => exact ⟨0, by omega, rfl, rfl, rfl⟩
  case round =>
    obtain ⟨k, hk, rfl, rfl, rfl⟩ := hrel
    by_cases hlt : k < 63
    · obtain ⟨q1, q2⟩ := sq64 (show k ≤ 63 by omega)
      have h1 := HB.out k hlt
      have h2 := HS.out k (by omega)
      have h3 := HS.out (k + 1) (by omega)
      have h4 : besS u (k + 1) = besS u k + besT u (k + 1) := rfl
      have hT : 0 ≤ (besT u k : Int) * u ∧ (besT u k : Int) * u ≤ 4611686018427387904 := ⟨Int.mul_nonneg (by omega) (by omega), by have := Int.ofNat_le.mpr h1; rwa [Int.natCast_mul] at this⟩
      obtain ⟨t0, t1⟩ := hT
      have hst := besT_step u k
      have hlo : ((k : Int) + 1 ≤ 63) := by omega
      have hS : (besS u k : Int) + besT u (k + 1) = besS u (k + 1) := by rw [h4, Int.natCast_add]
      have hw : (besS u (k + 1) : Int) ≤ 4611686018427387904 := by omega
      clear h1 h4 h2 h3
      go_wp2
      go_round
      case rel => exact ⟨k + 1, by omega, rfl, by go_num, by go_num⟩
      case measure => simp [intOf]; omega
    · have : k = 63 := by omega
      subst this
      have := HX.out
      rw [this]
      go_wp2
      go_ret
      exact ⟨rfl, rfl⟩

/-! ### A part's digits -/
theorem other_put {w : World} {a b : Nat} (v : Value) (h : a ≠ b) : (w.setCell ⟨a, 0, none⟩ v).heap[b]? = w.heap[b]? := by
  simp only [World.setCell]
  show (w.heap.modify a _)[b]? = w.heap[b]?
  rw [Array.getElem?_modify, if_neg h]
theorem digit_ok (b₀ a b L S : Nat) (w : World) (ha : b₀ ≤ a) (hne : a ≠ b) (hL : L ≤ 1152921504606846976) (hS : S ≤ 1152921504606846976) (hA : Boxed w a 3 (.int .i64 L)) (hB : Boxed w b 3 (.int .i64 S)) :
    Calls Try.prog 98 #[.pointer (some ⟨a, 0, none⟩), .pointer (some ⟨b, 0, none⟩)] w fun e w' =>
      ∃ d : Nat, e = .returned (.int .i64 d) ∧ ∃ D : Nat, Hid ((2 * L < S ∧ d = 0 ∧ D = 2 * L) ∨ (S ≤ 2 * L ∧ d = 1 ∧ D = 2 * L - S)) ∧ Boxed w' a 3 (.int .i64 D) ∧ Boxed w' b 3 (.int .i64 S) ∧ Below b₀ w w' := by
  have c1 := hA.cell
  have f1 := hA.frozen
  have a2 : Boxed (w.setCell ⟨a, 0, none⟩ (.int .i64 ((L : Int) * 2))) a 3 (.int .i64 ((L : Int) * 2)) := hA.set _
  have c2 := a2.cell
  have f2 := a2.frozen
  have b2 : Boxed (w.setCell ⟨a, 0, none⟩ (.int .i64 ((L : Int) * 2))) b 3 (.int .i64 S) := (other_put _ hne).trans hB
  have d2 := b2.cell
  have k2 : Below b₀ w (w.setCell ⟨a, 0, none⟩ (.int .i64 ((L : Int) * 2))) := (Below.refl _ _).setCell (p := ⟨a, 0, none⟩) ha _
  have l2 := Lib.hid k2
  have x2 := Lib.hid a2
  have y2 := Lib.hid b2
  clear hA hB a2 b2 k2
  by_cases h : 2 * L < S
  · have h' : (L : Int) * 2 < S := by omega
    have hh := Lib.hid h
    clear h
    go_enter Try.func98, Try.ntmps98
    go_wp2
    go_ret
    refine ⟨0, rfl, 2 * L, Lib.hid (.inl ⟨hh.out, rfl, rfl⟩), ?_, y2.out, l2.out⟩
    rw [show ((2 * L : Nat) : Int) = (L : Int) * 2 by omega]
    exact x2.out
  · have h' : ¬ (L : Int) * 2 < S := by omega
    have hh := Lib.hid h
    clear h
    go_enter Try.func98, Try.ntmps98
    go_wp2
    go_ret
    refine ⟨1, rfl, 2 * L - S, Lib.hid (.inr ⟨Nat.le_of_not_lt hh.out, rfl, rfl⟩), ?_, (other_put _ hne).trans y2.out, l2.out.setCell (p := ⟨a, 0, none⟩) ha _⟩
    rw [show ((2 * L - S : Nat) : Int) = (L : Int) * 2 - S by have := hh.out; omega]
    exact x2.out.set _

set_option maxRecDepth 100000 in
theorem part_ok (n S : Nat) (w : World) (hn : n ≤ S) (hS : S ≤ 1152921504606846976) :
    Calls Try.prog 94 #[.int .i64 n, .int .i64 S] w fun e w' => e = .returned (.int .i64 (partGo S 44 n 0)) ∧ Below w.heap.size w w' := by
  generalize hR : partGo S 44 n 0 = R
  have HR := Lib.hid hR
  clear hR
  have b1 : Boxed (w.alloc (.cells #[.int .i64 S] 3)) w.heap.size 3 (.int .i64 S) := Boxed.new _ _ _
  have b2 := Lib.hid (b1.alloc (.cells #[.int .i64 n] 3))
  have b3 : Hid (Boxed ((w.alloc (.cells #[.int .i64 S] 3)).alloc (.cells #[.int .i64 n] 3)) (w.heap.size + 1) 3 (.int .i64 n)) := by
    have := Boxed.new (w.alloc (.cells #[.int .i64 S] 3)) 3 (.int .i64 n); rw [World.size_alloc] at this; exact Lib.hid this
  have b5 : Hid (Below w.heap.size w ((w.alloc (.cells #[.int .i64 S] 3)).alloc (.cells #[.int .i64 n] 3))) := Lib.hid (((Below.refl _ _).alloc (Nat.le_refl _) _).alloc (by simp) _)
  clear b1
  go_enter Try.func94, Try.ntmps94
  go_wp2
  go_loopw [7, 10] (fun o i wr => ∃ (k L O : Nat), k ≤ 44 ∧ L ≤ S ∧ O < 2 ^ k ∧ Hid (partGo S (44 - k) L O = R) ∧ o = .int .i64 O ∧ i = .int .i64 k ∧ Hid (Boxed wr (w.heap.size + 1) 3 (.int .i64 L)) ∧ Hid (Boxed wr w.heap.size 3 (.int .i64 S)) ∧ Hid (Below w.heap.size w wr)) (fun _ i _ => (44 - intOf i).toNat)
  case atStart => exact ⟨0, n, 0, by omega, hn, by decide, HR, rfl, rfl, b3, b2, b5⟩
  case round =>
    obtain ⟨k, L, O, hk, hL, hO, hE, rfl, rfl, x1, x2, x3⟩ := hrel
    by_cases hlt : k < 44
    · have hp : 2 ^ k ≤ 2 ^ 44 := Nat.pow_le_pow_right (by decide) hk
      have hO' : O < 17592186044416 := Nat.lt_of_lt_of_le hO (by simpa using hp)
      have hp2 : 2 ^ (k + 1) = 2 * 2 ^ k := by rw [Nat.pow_succ]; omega
      have hf : 44 - k = (44 - (k + 1)) + 1 := by omega
      have hOO := Lib.hid hO
      have hpp := Lib.hid hp2
      have hff := Lib.hid hf
      clear hO hp hp2 hf
      have hsz : w.heap.size + 1 ≠ w.heap.size := by omega
      go_wp2_with (go_at_call 98; ((with_reducible refine (digit_ok w.heap.size (w.heap.size + 1) w.heap.size L S _ (by omega) (by omega) (by omega) (by omega) x1.out x2.out).mono ?_); rintro e w1 ⟨d, rfl, D, h1, y1, y2, y3⟩; have z1 := Lib.hid y1; have z2 := Lib.hid y2; have z3 := Lib.hid (x3.out.trans y3); clear y1 y2 y3; have z4 : Hid (partGo S (44 - (k + 1)) D (2 * O + d) = R) := Lib.hid (by rw [← hE.out, hff.out]; rcases h1.out with ⟨q, rfl, rfl⟩ | ⟨q, rfl, rfl⟩ <;> first | exact (partGo_lt q).symm | exact (partGo_ge (Nat.not_lt_of_le q)).symm); have hd : d ≤ 1 := (by rcases h1.out with ⟨_, rfl, _⟩ | ⟨_, rfl, _⟩ <;> omega); have hD : D ≤ S := (by rcases h1.out with ⟨_, _, rfl⟩ | ⟨_, _, rfl⟩ <;> omega)))
      go_roundw
      case rel => exact ⟨k + 1, D, 2 * O + d, by omega, hD, by rw [hpp.out]; have := hOO.out; omega, z4, by go_num, by go_num, z1, z2, z3⟩
      case measure => simp [intOf]; omega
    · have hz : k = 44 := by omega
      subst hz
      have e := hE.out
      rw [Nat.sub_self, partGo] at e
      have hb := x3.out
      clear hE
      subst e
      go_wp2
      go_ret
      exact ⟨rfl, hb⟩

theorem belowT {w w1 w2 : World} (a : Below w.heap.size w w1) (b : Below w1.heap.size w1 w2) : Below w.heap.size w w2 := a.trans (b.mono a.size)
theorem info3 : (Try.prog.info? 3).map (fun i => (i.zero, i.size, i.bytes)) = some (some (.int .i64 0), 1, 8) := by kernel_rfl
/-- A list as far as k, and noughts behind. -/
def fillF (F : Nat → Int) (k : Nat) : Nat → Value := fun j => .int .i64 (if j < k then F j else 0)
theorem fill_step {w : World} {g n k : Nat} {F : Nat → Int} {v : Int} (h : w.rowIs g 3 n (fillF F k)) (hv : v = F k) : (w.setCell ⟨g, k, none⟩ (.int .i64 v)).rowIs g 3 n (fillF F (k + 1)) := by
  refine (h.set k (.int .i64 v)).congr fun i _ => ?_
  unfold fillF
  by_cases e : i = k
  · subst e; simp [hv]
  · by_cases c : i < k
    · simp [e, c, show i < k + 1 by omega]
    · simp [e, c, show ¬ i < k + 1 by omega]
theorem fill_end {w : World} {g n : Nat} {F : Nat → Int} (h : w.rowIs g 3 n (fillF F n)) : w.rowIs g 3 n (fun j => .int .i64 (F j)) :=
  h.congr fun i hi => by unfold fillF; rw [if_pos hi]
theorem fill_made (w : World) (n : Nat) (F : Nat → Int) : (w.alloc (.cells (madeCells #[.int .i64 0] n) 3)).rowIs w.heap.size 3 n (fillF F 0) := (World.rowIs_made w (.int .i64 0) n 3).congr fun i _ => by unfold fillF; simp
theorem besS_le (u : Nat) : ∀ {k n : Nat}, k ≤ n → besS u k ≤ besS u n
  | k, 0, h => by rw [show k = 0 by omega]; exact Nat.le_refl _
  | k, n + 1, h => by
    by_cases e : k = n + 1
    · subst e; exact Nat.le_refl _
    · exact Nat.le_trans (besS_le u (k := k) (n := n) (by omega)) (by show besS u n ≤ besS u n + _; omega)
theorem uF_at {m c d k U : Nat} (h : uF m c d k = U) (hk : k ≤ m) : (c : Int) * (k : Int) * ((m : Int) - k) / (d : Int) = (U : Int) := by
  rw [← h, uF, Int.natCast_ediv, Int.natCast_mul, Int.natCast_mul, Int.natCast_sub hk]
theorem uF_bd {m c k M : Nat} (hk : k ≤ m) (hM : c * m * m ≤ M) : 0 ≤ (c : Int) * (k : Int) * ((m : Int) - k) ∧ (c : Int) * (k : Int) * ((m : Int) - k) ≤ (M : Int) := by
  have e : (c : Int) * (k : Int) * ((m : Int) - k) = ((c * k * (m - k) : Nat) : Int) := by rw [Int.natCast_mul, Int.natCast_mul, Int.natCast_sub hk]
  have b : c * k * (m - k) ≤ c * m * m := Nat.mul_le_mul (Nat.mul_le_mul_left _ hk) (by omega)
  rw [e]
  omega

set_option maxRecDepth 100000 in
set_option maxHeartbeats 2000000 in
theorem sine_l (w : World) :
    Calls Try.prog 81 #[.bool false] w fun e w' => e = .returned (.slice (some ⟨w.heap.size, 0, none⟩) 256 256) ∧ w'.rowIs w.heap.size 3 256 (fun j => .int .i64 (win_sl.getD j 0 : Nat)) ∧ Below w.heap.size w w' := by
  obtain ⟨i0, hi, hz0, hz1, hz2⟩ := info_parts info3
  have hrow := Lib.hid (fill_made w 256 (fun j => (win_sl.getD j 0 : Nat)))
  have hbm : Below w.heap.size w (w.alloc (.cells (madeCells #[.int .i64 0] 256) 3)) := (Below.refl _ _).alloc (Nat.le_refl _) _
  go_enter Try.func81, Try.ntmps81
  go_wp2_with (refine wpList_make_row _ rfl _ _ 22 rfl 3 i0 (.int .i64 0) Try.underlying22 hi hz0 hz1 rfl .i64 .i64 256 rfl rfl (by rw [hz2]; omega) (by omega) ?_)
  go_loopw [12] (fun i wr => ∃ k : Nat, k ≤ 256 ∧ i = .int .i64 k ∧ Hid (wr.rowIs w.heap.size 3 256 (fillF (fun j => (win_sl.getD j 0 : Nat)) k)) ∧ Below w.heap.size w wr) (fun i _ => 256 - (intOf i).toNat)
  case atStart => exact ⟨0, by omega, rfl, hrow, hbm⟩
  case round =>
    obtain ⟨k, hk, rfl, hR, hbel⟩ := hrel
    by_cases hlt : k < 256
    · have hg := hR.out.lt
      have hv := Lib.hid (sine_at (s := 1) win_sl 0 k sines_sl (by rw [len_sl]; exact hlt))
      obtain ⟨c1, c2⟩ := cosF_bd ((2 * ((0 : Int) + k) + 1) * 1 % 2048 - 512)
      have c1 : -1073741824 ≤ sinF ((2 * ((0 : Int) + k) + 1) * 1) := c1
      have c2 : sinF ((2 * ((0 : Int) + k) + 1) * 1) ≤ 1073741824 := c2
      have hs := tsin ((2 * ((0 : Int) + k) + 1) * 1)
      rw [show (2 * ((0 : Int) + k) + 1) * 1 = 2 * (k : Int) + 1 by omega] at hv c1 c2 hs
      generalize sinF (2 * (k : Int) + 1) = C at hv c1 c2 hs
      have hs' := Lib.hid hs
      clear hs
      go_wp2_with (first
        | (go_at_call 91; ((refine (hs'.out _).mono ?_); rintro e w1 ⟨rfl, hb1⟩; have hR5 := Lib.hid (hR.out.of_block (hb1.block _ hg)); have qo := hR5.out.cell hlt; rw [fillF, if_neg (Nat.lt_irrefl k)] at qo; have qf := hR5.out.frozen k; have hbw := Lib.hid (belowT hbel hb1)))
        | (go_at_call 43; ((with_reducible refine (round_in C 4 _ (by omega) (by omega) (by omega) (by omega)).mono ?_); rintro e w2 ⟨rfl, rfl⟩)))
      go_roundw
      case rel => exact ⟨k + 1, by omega, by go_num, Lib.hid (fill_step hR5.out hv.out), hbw.out.setCell (p := ⟨w.heap.size, k, none⟩) (Nat.le_refl _) _⟩
      case measure => simp [intOf]; omega
    · have hend : k = 256 := by omega
      subst hend
      have hF := fill_end hR.out
      clear hR
      go_wp2
      go_ret
      exact ⟨rfl, hF, hbel⟩

set_option maxRecDepth 100000 in
set_option maxHeartbeats 2000000 in
theorem sine_s (w : World) :
    Calls Try.prog 81 #[.bool true] w fun e w' => e = .returned (.slice (some ⟨w.heap.size, 0, none⟩) 32 32) ∧ w'.rowIs w.heap.size 3 32 (fun j => .int .i64 (win_ss.getD j 0 : Nat)) ∧ Below w.heap.size w w' := by
  obtain ⟨i0, hi, hz0, hz1, hz2⟩ := info_parts info3
  have hrow := Lib.hid (fill_made w 32 (fun j => (win_ss.getD j 0 : Nat)))
  have hbm : Below w.heap.size w (w.alloc (.cells (madeCells #[.int .i64 0] 32) 3)) := (Below.refl _ _).alloc (Nat.le_refl _) _
  go_enter Try.func81, Try.ntmps81
  go_wp2_with (refine wpList_make_row _ rfl _ _ 22 rfl 3 i0 (.int .i64 0) Try.underlying22 hi hz0 hz1 rfl .i64 .i64 32 rfl rfl (by rw [hz2]; omega) (by omega) ?_)
  go_loopw [12] (fun i wr => ∃ k : Nat, k ≤ 32 ∧ i = .int .i64 k ∧ Hid (wr.rowIs w.heap.size 3 32 (fillF (fun j => (win_ss.getD j 0 : Nat)) k)) ∧ Below w.heap.size w wr) (fun i _ => 32 - (intOf i).toNat)
  case atStart => exact ⟨0, by omega, rfl, hrow, hbm⟩
  case round =>
    obtain ⟨k, hk, rfl, hR, hbel⟩ := hrel
    by_cases hlt : k < 32
    · have hg := hR.out.lt
      have hv := Lib.hid (sine_at (s := 8) win_ss 0 k sines_ss (by rw [len_ss]; exact hlt))
      obtain ⟨c1, c2⟩ := cosF_bd ((2 * ((0 : Int) + k) + 1) * 8 % 2048 - 512)
      have c1 : -1073741824 ≤ sinF ((2 * ((0 : Int) + k) + 1) * 8) := c1
      have c2 : sinF ((2 * ((0 : Int) + k) + 1) * 8) ≤ 1073741824 := c2
      have hs := tsin ((2 * ((0 : Int) + k) + 1) * 8)
      rw [show (2 * ((0 : Int) + k) + 1) * 8 = (2 * (k : Int) + 1) * 8 by omega] at hv c1 c2 hs
      generalize sinF ((2 * (k : Int) + 1) * 8) = C at hv c1 c2 hs
      have hs' := Lib.hid hs
      clear hs
      go_wp2_with (first
        | (go_at_call 91; ((refine (hs'.out _).mono ?_); rintro e w1 ⟨rfl, hb1⟩; have hR5 := Lib.hid (hR.out.of_block (hb1.block _ hg)); have qo := hR5.out.cell hlt; rw [fillF, if_neg (Nat.lt_irrefl k)] at qo; have qf := hR5.out.frozen k; have hbw := Lib.hid (belowT hbel hb1)))
        | (go_at_call 43; ((with_reducible refine (round_in C 4 _ (by omega) (by omega) (by omega) (by omega)).mono ?_); rintro e w2 ⟨rfl, rfl⟩)))
      go_roundw
      case rel => exact ⟨k + 1, by omega, by go_num, Lib.hid (fill_step hR5.out hv.out), hbw.out.setCell (p := ⟨w.heap.size, k, none⟩) (Nat.le_refl _) _⟩
      case measure => simp [intOf]; omega
    · have hend : k = 32 := by omega
      subst hend
      have hF := fill_end hR.out
      clear hR
      go_wp2
      go_ret
      exact ⟨rfl, hF, hbel⟩
end Go.Proofs.Yteknakakefhbmaa.Fx
