/- What the document's own Put and Get do. -/
import Derived.Test.YteoljcbebiemlaaBiSrc
import Derived.WalkKit
import Derived.OwnWalk
import Derived.Laws.AppendOwn
import Derived.ProofKit
import Derived.OpenShut
import Derived.Lib.Hide
namespace Go.Proofs.Yteoljcbebiemlaa.Bi
open Go Go.ChangeShapes Go.WideShapes Go.ChangeAt Go.RowKit
open Go.Proofs.Yteoljcbebiemlaa.Cr (belowT below_grown)

theorem retI {a b : Int} (h : a = b) : Ending.returned (.int .i64 a) = .returned (.int .i64 b) := by rw [h]
theorem two_ok (s : Nat) (w : World) (s1 : s ≤ 31) : Calls Try.prog 33 #[.int .i64 s] w fun e w' => e = .returned (.int .i64 (2 ^ s)) ∧ w = w' := by
  go_enter Try.func33, Try.ntmps33
  go_wp2
  go_loop [3, 4] (fun p i => ∃ m : Nat, m ≤ s ∧ i = .int .i64 m ∧ p = .int .i64 (2 ^ m)) (fun _ i => s - (intOf i).toNat)
  case atStart => exact ⟨0, by omega, rfl, rfl⟩
  case round =>
    obtain ⟨m, hm, rfl, rfl⟩ := hrel
    by_cases hlt : m < s
    · have hp := pow_bd (s := m) (by omega)
      have hp2 : (2 : Int) * 2 ^ m = 2 ^ (m + 1) := by rw [Int.pow_succ]; omega
      have HP := Lib.hid hp2
      clear hp2
      generalize (2 : Int) ^ m = P at *
      go_wp2
      go_round
      case rel => exact ⟨m + 1, by omega, by go_num, by rw [HP.out]⟩
      case measure => simp [intOf]; omega
    · obtain rfl : m = s := by omega
      go_wp2
      go_ret
      exact ⟨rfl, rfl⟩

theorem half_bd {X : Int} {s : Nat} (x0 : 0 ≤ X) (x1 : X < 2 ^ (s + 1)) : 0 ≤ X / 2 ∧ X / 2 < 2 ^ s := by
  rw [Int.pow_succ] at x1
  generalize (2 : Int) ^ s = P at *
  omega

set_option maxRecDepth 100000 in
theorem rbits_ok : ∀ (s : Nat) (X : Int) (w : World), s ≤ 31 → 0 ≤ X → X < 2 ^ s →
    Calls Try.prog 34 #[.int .i64 X, .int .i64 s] w fun e w' => ∃ v, e = .returned v ∧ Cr.Own w.heap.size w' v (bi X s) ∧ Below w.heap.size w w'
  | 0, X, w, _, _, _ => by
    go_enter Try.func34, Try.ntmps34
    go_wp2
    go_ret
    exact ⟨_, rfl, World.ownsRow_nil w _ 5 1, Below.refl _ _⟩
  | s + 1, X, w, s1, x0, x1 => by
    obtain ⟨i0, hi, hz0, hz1, hz2⟩ := info_parts info5'
    obtain ⟨h0, h1⟩ := half_bd x0 x1
    have IH := Lib.hid (fun w => rbits_ok s (X / 2) w (by omega) h0 h1)
    have hpw := pow_bd s1
    have x2 : X ≤ 2147483648 := by omega
    have e1 : Int.tdiv X 2 = X / 2 := Int.tdiv_eq_ediv_of_nonneg x0
    have e2 : Int.tmod X 2 = X % 2 := Int.tmod_eq_emod_of_nonneg x0
    have e3 : ((s + 1 : Nat) : Int) - 1 = s := by omega
    have hne : (((s + 1 : Nat) : Int) == 0) = false := by simp; omega
    have hsn := Lib.hid (bi_snoc X s)
    obtain ⟨d, hd⟩ : ∃ d, X % 2 = d := ⟨_, rfl⟩
    have d0 : 0 ≤ d ∧ d ≤ 1 := by omega
    rw [hd] at e2 hsn
    obtain ⟨d1, d2⟩ := d0
    clear hd h0 h1 x1
    rw [show ((s + 1 : Nat) : Int) = (s : Int) + 1 by omega] at *
    have e4 : (s : Int) + 1 - 1 = s := by omega
    go_enter Try.func34, Try.ntmps34
    go_wp2_with (first
      | (go_at_call 34; ((with_reducible refine (IH.out _).mono ?_); rintro e w1 ⟨v1, rfl, ho1, hb1⟩; have hs1 := hb1.size))
      | (at_builtin; refine wpList_append_own _ rfl _ _ 22 rfl w.heap.size 5 i0 (.int .u8 0) 1 1 Try.underlying22 hi hz0 hz1 hz2 rfl (by decide) _ _ _ rfl (ho1.alloc _) ⟨w1.heap.size, 0, none⟩ 1 1 [.int .u8 d] rfl rfl ?c1 ?c2 ?c3 ?c4 ?c5 ?_))
    case c1 =>
      intro j u hj
      match j, hj with
      | 0, hj => simp at hj; subst hj; simp [Addr.add]
    case c2 => intro u hu; simp at hu; subst hu; rfl
    case c3 => rw [bi_len]; unfold maxLen; omega
    case c4 => rw [bi_len]; omega
    case c5 => simp; omega
    intro v2 w2 ho2 hg2 _
    have ho3 : Cr.Own w.heap.size w2 v2 (bi (X / 2) s ++ [d]) := by unfold Cr.Own; rw [List.length_append, List.map_append]; exact ho2
    have hb2 : Below w.heap.size w w2 := (hb1.alloc hs1 _).grown hg2 (by simp; omega) (fun k hk => (ho1.lt k hk).1)
    rw [← hsn.out] at ho3
    go_wp2
    go_ret
    exact ⟨_, rfl, ho3, hb2⟩

theorem rput_bad (v0 : Value) (X S : Int) (w : World) (h : S < 0 ∨ 31 < S ∨ X < 0 ∨ 2 ^ S.toNat ≤ X) :
    Calls Try.prog 20 #[v0, .int .i64 X, .int .i64 S] w fun e w' => e = .returned (.tuple #[.slice none 0 0, .int .i64 2]) ∧ w = w' := by
  by_cases h1 : S < 0
  · go_enter Try.func20, Try.ntmps20
    go_wp2
    go_ret2
    exact ⟨rfl, rfl⟩
  by_cases h2 : 31 < S
  · go_enter Try.func20, Try.ntmps20
    go_wp2
    go_ret2
    exact ⟨rfl, rfl⟩
  by_cases h3 : X < 0
  · go_enter Try.func20, Try.ntmps20
    go_wp2
    go_ret2
    exact ⟨rfl, rfl⟩
  obtain ⟨s, rfl⟩ : ∃ s : Nat, S = s := ⟨S.toNat, by omega⟩
  have h4 : 2 ^ s ≤ X := by
    have : 2 ^ ((s : Int)).toNat ≤ X := by omega
    simpa using this
  obtain ⟨p0, p1⟩ := pow_bd (s := s) (by omega)
  clear h
  go_enter Try.func20, Try.ntmps20
  go_wp2_with (go_at_call 33; ((with_reducible refine (two_ok s _ (by omega)).mono ?_); rintro e w1 ⟨rfl, rfl⟩))
  go_ret2
  exact ⟨rfl, rfl⟩

set_option maxRecDepth 100000 in
theorem rput_src {v0 : Value} {zs : List Int} (X : Int) (s : Nat) (w : World) (hsrc : Src8 w v0 zs) (hl : zs.length ≤ 100000) (s1 : s ≤ 31) (x0 : 0 ≤ X) (x1 : X < 2 ^ s) :
    Calls Try.prog 20 #[v0, .int .i64 X, .int .i64 s] w fun e w' => ∃ v, e = .returned (.tuple #[v, .int .i64 0]) ∧ Cr.Own w.heap.size w' v (zs ++ bi X s) ∧ Below w.heap.size w w' := by
  have RS := Lib.hid hsrc
  obtain ⟨a, c, rfl⟩ := hsrc.shape
  have HN := Lib.hid (World.ownsRow_nil w w.heap.size 5 1)
  have HB := Lib.hid (fun w => rbits_ok s X w s1 x0 x1)
  have hpw := pow_bd s1
  have hlen := bi_len X s
  clear hsrc
  go_enter Try.func20, Try.ntmps20
  go_wp2_with (first
    | (go_at_call 33; ((with_reducible refine (two_ok s _ s1).mono ?_); rintro e w1 ⟨rfl, rfl⟩))
    | (at_builtin; refine wpList_append_src _ rfl (.tmp 25) (.tmp 26) rfl w.heap.size _ [] rfl HN.out _ zs rfl RS.out (by simp; omega) (Nat.le_refl _) ?_; intro v2 w2 ho2 hg2 _; have hb2 := below_grown (zs := []) (Below.refl _ _) HN.out (Nat.le_refl _) hg2; have hs2 := hb2.size)
    | (go_at_call 34; ((with_reducible refine (HB.out _).mono ?_); rintro e w3 ⟨v3, rfl, ho3, hb3⟩; have ho4 := Cr.Own.below ho2 hb3; have hb4 := belowT hb2 hb3; have hs4 := hb4.size))
    | (at_builtin; refine wpList_append_src _ rfl (.tmp 28) (.tmp 31) rfl w.heap.size _ _ rfl ho4 _ (bi X s) rfl (own_src ho3) (by simp [hlen]; omega) hs4 ?_; intro v5 w5 ho5 hg5 _; have hb5 := below_grown hb4 ho4 (Nat.le_refl _) hg5))
  go_ret2
  rw [List.nil_append] at ho5
  exact ⟨_, rfl, ho5, hb5⟩

theorem rget_arg (a0 : Option Addr) (l0 c0 : Nat) (A S : Int) (w : World) (hl : l0 ≤ maxLen) (h : S < 0 ∨ 31 < S ∨ A < 0 ∨ (l0 : Int) < A) :
    Calls Try.prog 21 #[.slice a0 l0 c0, .int .i64 A, .int .i64 S] w fun e w' => e = .returned (.tuple #[.int .i64 0, .int .i64 0, .int .i64 2]) ∧ w = w' := by
  unfold maxLen at hl
  by_cases h1 : S < 0
  · go_enter Try.func21, Try.ntmps21
    go_wp2
    go_ret3
    exact ⟨rfl, rfl⟩
  by_cases h2 : 31 < S
  · go_enter Try.func21, Try.ntmps21
    go_wp2
    go_ret3
    exact ⟨rfl, rfl⟩
  by_cases h3 : A < 0
  · go_enter Try.func21, Try.ntmps21
    go_wp2
    go_ret3
    exact ⟨rfl, rfl⟩
  have h4 : (l0 : Int) < A := by omega
  clear h
  go_enter Try.func21, Try.ntmps21
  go_wp2
  go_ret3
  exact ⟨rfl, rfl⟩
theorem rget_end (a0 : Option Addr) (l0 c0 : Nat) (A S : Int) (w : World) (hl : l0 ≤ maxLen) (s0 : 0 ≤ S) (s1 : S ≤ 31) (a0' : 0 ≤ A) (a1 : A ≤ l0) (h : (l0 : Int) - A < S) :
    Calls Try.prog 21 #[.slice a0 l0 c0, .int .i64 A, .int .i64 S] w fun e w' => e = .returned (.tuple #[.int .i64 0, .int .i64 0, .int .i64 5]) ∧ w = w' := by
  unfold maxLen at hl
  go_enter Try.func21, Try.ntmps21
  go_wp2
  go_ret3
  exact ⟨rfl, rfl⟩
/-- Nothing is read. -/
theorem rget_zero (a0 : Option Addr) (l0 c0 at' : Nat) (w : World) (hl : l0 ≤ maxLen) (h : at' ≤ l0) :
    Calls Try.prog 21 #[.slice a0 l0 c0, .int .i64 at', .int .i64 0] w fun e w' => e = .returned (.tuple #[.int .i64 0, .int .i64 at', .int .i64 0]) ∧ w = w' := by
  unfold maxLen at hl
  go_enter Try.func21, Try.ntmps21
  go_wp2
  go_loop [9, 10] (fun m i => i = .int .i64 at' ∧ m = .int .i64 0) (fun _ _ => 0)
  case atStart => exact ⟨rfl, rfl⟩
  case round =>
    obtain ⟨rfl, rfl⟩ := hrel
    go_wp2
    go_ret3
    exact ⟨rfl, rfl⟩
set_option maxRecDepth 100000 in
set_option maxHeartbeats 1000000 in
theorem rget_room (b off n c0 at' s : Nat) (ys : List Int) (w : World) (hn : n ≤ maxLen) (s1 : s ≤ 31) (h : at' + s ≤ n) (ly : ys.length = s) (hz : ∀ z ∈ ys, 0 ≤ z ∧ z ≤ 255)
    (hc : ∀ i, i < s → w.cell? ⟨b, off + (at' + i), none⟩ = some (.int .u8 (ys.getD i 0))) :
    Calls Try.prog 21 #[.slice (some ⟨b, off, none⟩) n c0, .int .i64 at', .int .i64 s] w fun e w' => ((Cr.Bits ys ∧ e = .returned (.tuple #[.int .i64 (num ys), .int .i64 ((at' : Int) + s), .int .i64 0])) ∨ (¬ Cr.Bits ys ∧ e = .returned (.tuple #[.int .i64 0, .int .i64 0, .int .i64 8]))) ∧ w = w' := by
  unfold maxLen at hn
  have HC := Lib.hid hc
  have HZ := Lib.hid hz
  have LY := Lib.hid ly
  clear hc hz ly
  go_enter Try.func21, Try.ntmps21
  go_wp2
  go_loop [9, 10] (fun m i => ∃ k : Nat, k ≤ s ∧ i = .int .i64 ((at' + k : Nat) : Int) ∧ m = .int .i64 (num (ys.take k)) ∧ Hid (Cr.Bits (ys.take k))) (fun _ i => at' + s - (intOf i).toNat)
  case atStart => exact ⟨0, by omega, rfl, rfl, Lib.hid (fun z h => by simp at h)⟩
  case round =>
    obtain ⟨k, hk, rfl, rfl, hB⟩ := hrel
    by_cases hlt : k < s
    · have q1 := HC.out k hlt
      have hd := HZ.out (ys.getD k 0) (by simp [LY.out, hlt])
      have hts := take_snoc (zs := ys) (k := k) (by rw [LY.out]; exact hlt)
      have hnb := num_bd k (ys.take k) (by simp [LY.out]; omega) hB.out
      have hp := pow31 (k := k) (by omega)
      have hnm := num_snoc (ys.take k) (ys.getD k 0)
      rw [← hts] at hnm
      obtain ⟨d, hdd⟩ : ∃ d, ys.getD k 0 = d := ⟨_, rfl⟩
      rw [hdd] at q1 hd hts hnm
      obtain ⟨N, hN⟩ : ∃ N, num (ys.take k) = N := ⟨_, rfl⟩
      rw [hN] at hnb hnm ⊢
      have HTS := Lib.hid hts
      have HNM := Lib.hid hnm
      have HD := Lib.hid hdd
      have n0 : 0 ≤ N := hnb.1
      have n1 : N ≤ 2147483648 := by omega
      have hi : ((at' + k : Nat) : Int) < (at' : Int) + (s : Int) := by omega
      clear hts hnm hdd hN hnb hp
      obtain ⟨d0, d1⟩ := hd
      by_cases hz0 : d = 0
      · subst hz0
        go_wp2
        go_round
        case rel => exact ⟨k + 1, by omega, by go_num, by rw [HNM.out]; go_num, Lib.hid (by rw [HTS.out]; exact bits_append hB.out (fun z hz => by simp at hz; omega))⟩
        case measure => simp [intOf]; omega
      by_cases hz1 : d = 1
      · subst hz1
        go_wp2
        go_round
        case rel => exact ⟨k + 1, by omega, by go_num, by rw [HNM.out], Lib.hid (by rw [HTS.out]; exact bits_append hB.out (fun z hz => by simp at hz; omega))⟩
        case measure => simp [intOf]; omega
      · have t0 : (d != 0) = true := by simpa using hz0
        have t1 : (d != 1) = true := by simpa using hz1
        have HZ1 := Lib.hid hz1
        have HZ0 := Lib.hid hz0
        clear hz0 hz1
        go_wp2
        go_ret3
        exact ⟨.inr ⟨fun hb => by
          have := hb d (by rw [← HD.out]; simp [LY.out, hlt])
          rcases this with h | h
          · exact HZ0.out h
          · exact HZ1.out h, rfl⟩, rfl⟩
    · obtain rfl : k = s := by omega
      have ht : ys.take k = ys := List.take_of_length_le (by rw [LY.out]; omega)
      rw [ht]
      have hB2 := hB.out
      rw [ht] at hB2
      have HB2 := Lib.hid hB2
      have hnb := num_bd k ys LY.out hB2
      have hp := pow31 (k := k) (by omega)
      clear hB2 hB ht
      have n0 : 0 ≤ num ys := hnb.1
      have n1 : num ys ≤ 2147483648 := by omega
      clear hnb hp
      go_wp2
      go_ret3
      exact ⟨.inl ⟨HB2.out, rfl⟩, rfl⟩
end Go.Proofs.Yteoljcbebiemlaa.Bi
