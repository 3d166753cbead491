/- What bits' Get does. -/
import Derived.Test.YtchefgnefcabnaaBiPut
import Derived.Test.YtchefgnefcabnaaBiMath
import Derived.WalkKit
import Derived.OwnWalk
import Derived.ProofKit
import Derived.OpenShut
import Derived.Lib.Hide
namespace Go.Proofs.Ytchefgnefcabnaa.Bi
open Go Go.ChangeShapes Go.WideShapes Go.ChangeAt Go.RowKit Go.Proofs.Ytchefgnefcabnaa.Cr

theorem get_arg (a0 : Option Addr) (l0 c0 : Nat) (A S : Int) (w : World) (hl : l0 ≤ maxLen) (h : S < 0 ∨ 31 < S ∨ A < 0 ∨ (l0 : Int) < A) :
    Calls Try.prog 26 #[.slice a0 l0 c0, .int .i64 A, .int .i64 S] w fun e w' => e = .returned (.tuple #[.int .i64 0, .int .i64 0, .int .i64 2]) ∧ w = w' := by
  unfold maxLen at hl
  by_cases h1 : S < 0
  · go_enter Try.func26, Try.ntmps26
    go_wp2
    go_ret3
    exact ⟨rfl, rfl⟩
  by_cases h2 : 31 < S
  · go_enter Try.func26, Try.ntmps26
    go_wp2
    go_ret3
    exact ⟨rfl, rfl⟩
  by_cases h3 : A < 0
  · go_enter Try.func26, Try.ntmps26
    go_wp2
    go_ret3
    exact ⟨rfl, rfl⟩
  have h4 : (l0 : Int) < A := by omega
  clear h
  go_enter Try.func26, Try.ntmps26
  go_wp2
  go_ret3
  exact ⟨rfl, rfl⟩

theorem get_end (a0 : Option Addr) (l0 c0 : Nat) (A S : Int) (w : World) (hl : l0 ≤ maxLen) (s0 : 0 ≤ S) (s1 : S ≤ 31) (a0' : 0 ≤ A) (a1 : A ≤ l0) (h : (l0 : Int) - A < S) :
    Calls Try.prog 26 #[.slice a0 l0 c0, .int .i64 A, .int .i64 S] w fun e w' => e = .returned (.tuple #[.int .i64 0, .int .i64 0, .int .i64 5]) ∧ w = w' := by
  unfold maxLen at hl
  go_enter Try.func26, Try.ntmps26
  go_wp2
  go_ret3
  exact ⟨rfl, rfl⟩

theorem take_snoc {zs : List Int} {k : Nat} (h : k < zs.length) : zs.take (k + 1) = zs.take k ++ [zs.getD k 0] := by
  rw [List.take_add_one, List.getElem?_eq_getElem h]; simp [h]
theorem take_bits {zs : List Int} (h : Bits zs) (k : Nat) : Bits (zs.take k) := fun z hz => h z (List.mem_of_mem_take hz)

theorem pow31 {k : Nat} (h : k ≤ 31) : (2 : Int) ^ k ≤ 2147483648 := (pow_bd h).2

set_option maxRecDepth 100000 in
set_option maxHeartbeats 1000000 in
/-- Where there is room, over a slice that has cells. ys: what is read. -/
theorem get_room (b off n c0 at' s : Nat) (ys : List Int) (w : World) (hn : n ≤ maxLen) (hc0 : n ≤ c0) (s1 : s ≤ 31) (h : at' + s ≤ n) (hne : at' < c0) (ly : ys.length = s) (hb : b < w.heap.size) (hz : ∀ z ∈ ys, 0 ≤ z ∧ z ≤ 255)
    (hc : ∀ i, i < s → w.cell? ⟨b, off + at' + i, none⟩ = some (.int .u8 (ys.getD i 0))) :
    Calls Try.prog 26 #[.slice (some ⟨b, off, none⟩) n c0, .int .i64 at', .int .i64 s] w fun e w' => ((Bits ys ∧ e = .returned (.tuple #[.int .i64 (num ys), .int .i64 ((at' : Int) + s), .int .i64 0])) ∨ (¬ Bits ys ∧ e = .returned (.tuple #[.int .i64 0, .int .i64 0, .int .i64 8]))) ∧ w = w' := by
  unfold maxLen at hn
  have HC := Lib.hid hc
  have HZ := Lib.hid hz
  have LY := Lib.hid ly
  clear hc hz ly
  have hne' : ¬ c0 = at' := by omega
  go_enter Try.func26, Try.ntmps26
  go_wp2
  go_loop [6, 10, 40] (fun m d i => ∃ k : Nat, k ≤ s ∧ i = .int .i64 k ∧ m = .int .i64 (num (ys.take k)) ∧ Hid (Bits (ys.take k))) (fun _ _ i => s - (intOf i).toNat)
  case atStart => exact ⟨0, by omega, rfl, rfl, Lib.hid (fun z h => by simp at h)⟩
  case round =>
    obtain ⟨k, hk, rfl, rfl, hB⟩ := hrel
    by_cases hlt : k < s
    · have q1 := HC.out k hlt
      have hd := HZ.out (ys.getD k 0) (by simp [LY.out, hlt])
      have hts := take_snoc (zs := ys) (k := k) (by rw [LY.out]; exact hlt)
      have hnb := num_bd k (ys.take k) (by simp [LY.out]; omega) hB.out
      have hp := pow31 (k := k) (by omega)
      have hnm := num_snoc (ys.take k) (ys.getD k 0)
      rw [← hts] at hnm
      obtain ⟨d, hdd⟩ : ∃ d, ys.getD k 0 = d := ⟨_, rfl⟩
      rw [hdd] at q1 hd hts hnm
      obtain ⟨N, hN⟩ : ∃ N, num (ys.take k) = N := ⟨_, rfl⟩
      rw [hN] at hnb hnm ⊢
      have HTS := Lib.hid hts
      have HNM := Lib.hid hnm
      have HD := Lib.hid hdd
      have n0 : 0 ≤ N := hnb.1
      have n1 : N ≤ 2147483648 := by omega
      clear hts hnm hdd hN hnb hp
      obtain ⟨d0, d1⟩ := hd
      by_cases hbit : d ≤ 1
      · have hor := or_one64 (n := N) (d := d) n0 (by omega) (by omega)
        go_wp2
        go_round
        case rel => exact ⟨k + 1, by omega, by go_num, by rw [HNM.out], Lib.hid (by rw [HTS.out]; exact bits_append hB.out (fun z hz => by simp at hz; omega))⟩
        case measure => simp [intOf]; omega
      · have hbig : 1 < d := by omega
        clear hbit
        go_wp2
        go_ret3
        exact ⟨.inr ⟨fun hb => by have := hb d (by rw [← HD.out]; simp [LY.out, hlt]); omega, rfl⟩, rfl⟩
    · obtain rfl : k = s := by omega
      have ht : ys.take k = ys := List.take_of_length_le (by rw [LY.out]; omega)
      rw [ht]
      have hB2 := hB.out
      rw [ht] at hB2
      have HB2 := Lib.hid hB2
      have hnb := num_bd k ys LY.out hB2
      have hp := pow31 (k := k) (by omega)
      clear hB2 hB ht
      have n0 : 0 ≤ num ys := hnb.1
      have n1 : num ys ≤ 2147483648 := by omega
      clear hnb hp
      go_wp2
      go_ret3
      exact ⟨.inl ⟨HB2.out, rfl⟩, rfl⟩

/-- Nothing is read. -/
theorem get_zero (b off n c0 at' : Nat) (w : World) (hn : n ≤ maxLen) (hc0 : n ≤ c0) (h : at' ≤ n) :
    Calls Try.prog 26 #[.slice (some ⟨b, off, none⟩) n c0, .int .i64 at', .int .i64 0] w fun e w' => e = .returned (.tuple #[.int .i64 0, .int .i64 at', .int .i64 0]) ∧ w = w' := by
  unfold maxLen at hn
  by_cases hne : c0 = at'
  all_goals
    go_enter Try.func26, Try.ntmps26
    go_wp2
    go_loop [6, 10, 40] (fun m _ i => i = .int .i64 0 ∧ m = .int .i64 0) (fun _ _ _ => 0)
    case atStart => exact ⟨rfl, rfl⟩
    case round =>
      obtain ⟨rfl, rfl⟩ := hrel
      go_wp2
      go_ret3
      exact ⟨rfl, rfl⟩
theorem get_nil (w : World) :
    Calls Try.prog 26 #[.slice none 0 0, .int .i64 0, .int .i64 0] w fun e w' => e = .returned (.tuple #[.int .i64 0, .int .i64 0, .int .i64 0]) ∧ w = w' := by
  go_enter Try.func26, Try.ntmps26
  go_wp2
  go_loop [6, 10, 40] (fun m _ i => i = .int .i64 0 ∧ m = .int .i64 0) (fun _ _ _ => 0)
  case atStart => exact ⟨rfl, rfl⟩
  case round =>
    obtain ⟨rfl, rfl⟩ := hrel
    go_wp2
    go_ret3
    exact ⟨rfl, rfl⟩
end Go.Proofs.Ytchefgnefcabnaa.Bi
