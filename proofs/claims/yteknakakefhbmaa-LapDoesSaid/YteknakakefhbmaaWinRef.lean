/- What the document's own answer of window does. -/
import Derived.Test.YteknakakefhbmaaLst
import Derived.Test.YteknakakefhbmaaWinHalf
import Derived.Test.YteknakakefhbmaaRefTrig
import Derived.WalkKit
import Derived.RegionTactic
import Derived.ChangeAlike
import Derived.Laws.AppendOwn
import Derived.Deep.OwnRows
import Derived.ProofKit
import Derived.OpenShut
import Derived.Lib.Hide
namespace Go.Proofs.Yteknakakefhbmaa.Fx
open Go Go.ChangeShapes Go.WideShapes Go.ChangeAt Go.RowKit

theorem besT_step2 (u k : Nat) : (besT u k : Int) * u / (65536 * ((k : Int) + 1) * ((k : Int) + 1)) = besT u (k + 1) := by
  rw [← besT_step, Int.mul_assoc, Int.mul_comm 65536]
theorem sq64b {k : Nat} (h : k ≤ 63) : 65536 * ((k : Int) + 1) * ((k : Int) + 1) ≤ 268435456 ∧ 1 ≤ 65536 * ((k : Int) + 1) * ((k : Int) + 1) := by
  obtain ⟨a, b⟩ := sq64 h
  rw [Int.mul_assoc]
  omega

set_option maxRecDepth 100000 in
set_option maxHeartbeats 2000000 in
theorem rweight_kl (n U X : Nat) (w : World) (hn : n ≤ 256) (hU : uF 256 678231308304 4294967296 n = U) (hb : ∀ k, k < 63 → besT U k * U ≤ 4611686018427387904) (hX : besS U 63 = X) (hm : X ≤ 4611686018427387904) (hs : ∀ k, k ≤ 63 → besS U k ≤ X) :
    Calls Try.prog 77 #[.int .i64 n, .int .i64 256, .int .i64 4] w fun e w' => e = .returned (.int .i64 X) ∧ w = w' := by
  have hu : 678231308304 * (n : Int) * (256 - (n : Int)) / 4294967296 = (U : Int) := uF_at (m := 256) (c := 678231308304) (d := 4294967296) hU (show n ≤ 256 by omega)
  have pp : 0 ≤ 678231308304 * (n : Int) * (256 - (n : Int)) ∧ 678231308304 * (n : Int) * (256 - (n : Int)) ≤ 4611686018427387904 := uF_bd (m := 256) (c := 678231308304) (k := n) (M := 4611686018427387904) (show n ≤ 256 by omega) (by decide)
  obtain ⟨p1, p2⟩ := pp
  have HB := Lib.hid hb
  have HS := Lib.hid hs
  have HX := Lib.hid hX
  clear hb hs hX hU
  go_enter Try.func77, Try.ntmps77
  go_wp2
  rw [hu]
  clear hu p1 p2
  go_loop [8, 9, 10] (fun t s i => ∃ k : Nat, k ≤ 63 ∧ t = .int .i64 (besT U k) ∧ s = .int .i64 (besS U k) ∧ i = .int .i64 ((k : Int) + 1)) (fun _ _ i => (64 - intOf i).toNat)
  case atStart => exact ⟨0, by omega, rfl, rfl, rfl⟩
  case round =>
    obtain ⟨k, hk, rfl, rfl, rfl⟩ := hrel
    by_cases hlt : k < 63
    · obtain ⟨q1, q2⟩ := sq64b (show k ≤ 63 by omega)
      have h1 := HB.out k hlt
      have h2 := HS.out k (by omega)
      have h3 := HS.out (k + 1) (by omega)
      have h4 : besS U (k + 1) = besS U k + besT U (k + 1) := rfl
      have hT : 0 ≤ (besT U k : Int) * U ∧ (besT U k : Int) * U ≤ 4611686018427387904 := ⟨Int.mul_nonneg (by omega) (by omega), by have := Int.ofNat_le.mpr h1; rwa [Int.natCast_mul] at this⟩
      obtain ⟨t0, t1⟩ := hT
      have hst := besT_step2 U k
      have hlo : ((k : Int) + 1 ≤ 63) := by omega
      have hS : (besS U k : Int) + besT U (k + 1) = besS U (k + 1) := by rw [h4, Int.natCast_add]
      have hw : (besS U (k + 1) : Int) ≤ 4611686018427387904 := by omega
      clear h1 h4 h2 h3
      go_wp2
      go_round
      case rel => exact ⟨k + 1, by omega, by rw [hst], rfl, by go_num⟩
      case measure => simp [intOf]; omega
    · have : k = 63 := by omega
      subst this
      have := HX.out
      rw [this]
      go_wp2
      go_ret
      exact ⟨rfl, rfl⟩

set_option maxRecDepth 100000 in
set_option maxHeartbeats 2000000 in
theorem rweight_ks (n U X : Nat) (w : World) (hn : n ≤ 32) (hU : uF 32 1526020443684 67108864 n = U) (hb : ∀ k, k < 63 → besT U k * U ≤ 4611686018427387904) (hX : besS U 63 = X) (hm : X ≤ 4611686018427387904) (hs : ∀ k, k ≤ 63 → besS U k ≤ X) :
    Calls Try.prog 77 #[.int .i64 n, .int .i64 32, .int .i64 6] w fun e w' => e = .returned (.int .i64 X) ∧ w = w' := by
  have hu : 1526020443684 * (n : Int) * (32 - (n : Int)) / 67108864 = (U : Int) := uF_at (m := 32) (c := 1526020443684) (d := 67108864) hU (show n ≤ 32 by omega)
  have pp : 0 ≤ 1526020443684 * (n : Int) * (32 - (n : Int)) ∧ 1526020443684 * (n : Int) * (32 - (n : Int)) ≤ 4611686018427387904 := uF_bd (m := 32) (c := 1526020443684) (k := n) (M := 4611686018427387904) (show n ≤ 32 by omega) (by decide)
  obtain ⟨p1, p2⟩ := pp
  have HB := Lib.hid hb
  have HS := Lib.hid hs
  have HX := Lib.hid hX
  clear hb hs hX hU
  go_enter Try.func77, Try.ntmps77
  go_wp2
  rw [hu]
  clear hu p1 p2
  go_loop [8, 9, 10] (fun t s i => ∃ k : Nat, k ≤ 63 ∧ t = .int .i64 (besT U k) ∧ s = .int .i64 (besS U k) ∧ i = .int .i64 ((k : Int) + 1)) (fun _ _ i => (64 - intOf i).toNat)
  case atStart => exact ⟨0, by omega, rfl, rfl, rfl⟩
  case round =>
    obtain ⟨k, hk, rfl, rfl, rfl⟩ := hrel
    by_cases hlt : k < 63
    · obtain ⟨q1, q2⟩ := sq64b (show k ≤ 63 by omega)
      have h1 := HB.out k hlt
      have h2 := HS.out k (by omega)
      have h3 := HS.out (k + 1) (by omega)
      have h4 : besS U (k + 1) = besS U k + besT U (k + 1) := rfl
      have hT : 0 ≤ (besT U k : Int) * U ∧ (besT U k : Int) * U ≤ 4611686018427387904 := ⟨Int.mul_nonneg (by omega) (by omega), by have := Int.ofNat_le.mpr h1; rwa [Int.natCast_mul] at this⟩
      obtain ⟨t0, t1⟩ := hT
      have hst := besT_step2 U k
      have hlo : ((k : Int) + 1 ≤ 63) := by omega
      have hS : (besS U k : Int) + besT U (k + 1) = besS U (k + 1) := by rw [h4, Int.natCast_add]
      have hw : (besS U (k + 1) : Int) ≤ 4611686018427387904 := by omega
      clear h1 h4 h2 h3
      go_wp2
      go_round
      case rel => exact ⟨k + 1, by omega, by rw [hst], rfl, by go_num⟩
      case measure => simp [intOf]; omega
    · have : k = 63 := by omega
      subst this
      have := HX.out
      rw [this]
      go_wp2
      go_ret
      exact ⟨rfl, rfl⟩

theorem rpart_ok (n S : Nat) (w : World) (hn : n ≤ S) (hS : S ≤ 1152921504606846976) :
    Calls Try.prog 79 #[.int .i64 n, .int .i64 S] w fun e w' => e = .returned (.int .i64 (partGo S 44 n 0)) ∧ w = w' := by
  generalize hR : partGo S 44 n 0 = R
  have HR := Lib.hid hR
  clear hR
  go_enter Try.func79, Try.ntmps79
  go_wp2
  go_loop [0, 5, 6] (fun a o i => ∃ (k L O : Nat), k ≤ 44 ∧ L ≤ S ∧ O < 2 ^ k ∧ Hid (partGo S (44 - k) L O = R) ∧ a = .int .i64 L ∧ o = .int .i64 O ∧ i = .int .i64 k) (fun _ _ i => (44 - intOf i).toNat)
  case atStart => exact ⟨0, n, 0, by omega, hn, by decide, HR, rfl, rfl, rfl⟩
  case round =>
    obtain ⟨k, L, O, hk, hL, hO, hE, rfl, rfl, rfl⟩ := hrel
    by_cases hlt : k < 44
    · have hp : 2 ^ k ≤ 2 ^ 44 := Nat.pow_le_pow_right (by decide) hk
      have hO' : O < 17592186044416 := Nat.lt_of_lt_of_le hO (by simpa using hp)
      have hp2 : 2 ^ (k + 1) = 2 * 2 ^ k := by rw [Nat.pow_succ]; omega
      have hf : 44 - k = (44 - (k + 1)) + 1 := by omega
      have hOO := Lib.hid hO
      have hpp := Lib.hid hp2
      have hff := Lib.hid hf
      clear hO hp hp2 hf
      by_cases h : 2 * L < S
      · have h' : ¬ (S : Int) ≤ 2 * (L : Int) := by omega
        have z4 : Hid (partGo S (44 - (k + 1)) (2 * L) (2 * O) = R) := Lib.hid (by rw [← hE.out, hff.out]; exact (partGo_lt h).symm)
        have hL' := Lib.hid h
        clear h
        go_wp2
        go_round
        case rel => exact ⟨k + 1, 2 * L, 2 * O, by omega, by have := hL'.out; omega, by rw [hpp.out]; have := hOO.out; omega, z4, by go_num, by go_num, by go_num⟩
        case measure => simp [intOf]; omega
      · have h' : (S : Int) ≤ 2 * (L : Int) := by omega
        have z4 : Hid (partGo S (44 - (k + 1)) (2 * L - S) (2 * O + 1) = R) := Lib.hid (by rw [← hE.out, hff.out]; exact (partGo_ge h).symm)
        have hL' := Lib.hid (show S ≤ 2 * L by omega)
        clear h
        go_wp2
        go_round
        case rel => exact ⟨k + 1, 2 * L - S, 2 * O + 1, by omega, by omega, by rw [hpp.out]; have := hOO.out; omega, z4, by rw [show ((2 * L - S : Nat) : Int) = 2 * (L : Int) - S by have := hL'.out; omega], by go_num, by go_num⟩
        case measure => simp [intOf]; omega
    · have hz : k = 44 := by omega
      subst hz
      have e := hE.out
      rw [Nat.sub_self, partGo] at e
      clear hE
      subst e
      go_wp2
      go_ret
      exact ⟨rfl, rfl⟩

theorem wfact_kl (k : Nat) (hk : k ≤ 256) : ∃ X P S : Nat, Hid ((0 :: sum_kl).getD k 0 = P) ∧ Hid (sum_kl.getD k 0 = S) ∧ Hid (P + X = S) ∧ S ≤ 47853594575 ∧ P + X ≤ 47853594575 ∧ Hid (∀ w, Calls Try.prog 77 #[.int .i64 k, .int .i64 256, .int .i64 4] w fun e w' => e = .returned (.int .i64 X) ∧ w = w') := by
  obtain ⟨h1, h2⟩ := sums_at sum_kl 0 0 k sums_kl (by rw [len_sum_kl]; omega)
  rw [Nat.zero_add] at h1 h2
  have hb := sum_bd_kl (k := k) hk
  have hb2 : besS (uF 256 678231308304 4294967296 k) 63 ≤ 47853594575 := by omega
  refine ⟨besS (uF 256 678231308304 4294967296 k) 63, _, _, Lib.hid rfl, Lib.hid rfl, Lib.hid h1, hb, by rw [h1]; exact hb, Lib.hid fun w => rweight_kl k _ _ w hk rfl h2 rfl (by omega) (fun j hj => besS_le _ hj)⟩

set_option maxRecDepth 100000 in
set_option maxHeartbeats 4000000 in
theorem rkbd_kl (w : World) : Calls Try.prog 69 #[.int .i64 256, .int .i64 4] w fun e w' => ∃ v, e = .returned v ∧ Own w.heap.size w' v (LL win_kl 256) ∧ Below w.heap.size w w' := by
  obtain ⟨i0, hi, hz0, hz1, hz2⟩ := info_parts info3
  go_enter Try.func69, Try.ntmps69
  go_wp2
  go_loop [5, 6] (fun s i => ∃ k P : Nat, k ≤ 257 ∧ Hid ((0 :: sum_kl).getD k 0 = P) ∧ s = .int .i64 P ∧ i = .int .i64 k) (fun _ i => 257 - (intOf i).toNat)
  case atStart => exact ⟨0, 0, by omega, Lib.hid rfl, rfl, rfl⟩
  case round =>
    obtain ⟨k, P, hk, hP, rfl, rfl⟩ := hrel
    by_cases hlt : k < 257
    · obtain ⟨X, P', S, e1, e2, e3, e4, e5, hC⟩ := wfact_kl k (by omega)
      obtain rfl : P = P' := hP.out.symm.trans e1.out
      have hle : (k : Int) ≤ 256 := by omega
      go_wp2_with (go_at_call 77; ((with_reducible refine (hC.out _).mono ?_); rintro e w5 ⟨rfl, rfl⟩))
      go_round
      case rel => exact ⟨k + 1, S, by omega, Lib.hid e2.out, by rw [← e3.out, Int.natCast_add], by go_num⟩
      case measure => simp [intOf]; omega
    · have hend : k = 257 := by omega
      subst hend
      obtain rfl : P = 47853594575 := hP.out.symm.trans top_kl
      clear hP
      have hnil := own_nil w w.heap.size
      go_wp2
      go_loopw [7, 8, 9] (fun v s i wr => ∃ k P : Nat, k ≤ 256 ∧ Hid ((0 :: sum_kl).getD k 0 = P) ∧ s = .int .i64 P ∧ i = .int .i64 k ∧ Own w.heap.size wr v (LL win_kl k) ∧ Below w.heap.size w wr) (fun _ _ i _ => 256 - (intOf i).toNat)
      case atStart => exact ⟨0, 0, by omega, Lib.hid rfl, rfl, rfl, hnil, Below.refl _ _⟩
      case round =>
        obtain ⟨k, P, hk, hP, rfl, rfl, hown, hbel⟩ := hrel
        have hle : w.heap.size ≤ wr.heap.size := hbel.size
        by_cases hlt : k < 256
        · obtain ⟨X, P', S, e1, e2, e3, e4, e5, hC⟩ := wfact_kl k (by omega)
          obtain rfl : P = P' := hP.out.symm.trans e1.out
          obtain ⟨v1, v2, v3⟩ := vals_at sum_kl win_kl k vals_kl (by rw [len_kl]; exact hlt)
          rw [e2.out] at v1 v3
          have hV1 := Lib.hid v1
          clear v1 v2
          have eS : (P : Int) + X = (S : Nat) := by rw [← e3.out, Int.natCast_add]
          have hpt : Hid (∀ w, Calls Try.prog 79 #[.int .i64 S, .int .i64 47853594575] w fun e w' => e = .returned (.int .i64 (partGo 47853594575 44 S 0)) ∧ w = w') := Lib.hid (fun w => rpart_ok S 47853594575 w e4 (by decide))
          generalize partGo 47853594575 44 S 0 = p at v3 hV1 hpt
          have hLL := Lib.hid (LL_succ win_kl k)
          generalize win_kl.getD k 0 = V at hV1 hLL
          have hlen := LL_len win_kl k
          go_wp2_with (first
            | (go_at_call 77; ((with_reducible refine (hC.out _).mono ?_); rintro e w5 ⟨rfl, rfl⟩))
            | (go_at_call 79; ((with_reducible refine (hpt.out _).mono ?_); rintro e w5 ⟨rfl, rfl⟩))
            | (go_at_call 78; ((with_reducible refine (rroot p _ (by omega) (by omega)).mono ?_); rintro e w6 ⟨r, hr, rfl, rfl⟩; obtain rfl := sqrt_one hr hV1.out; clear hr))
            | (at_builtin; refine wpList_append_own _ rfl (.tmp 32) (.tmp 37) 22 rfl w.heap.size 3 i0 (.int .i64 0) 1 8 Try.underlying22 hi hz0 hz1 hz2 rfl (by decide) _ _ _ rfl (World.ownsRow.alloc hown _) ⟨wr.heap.size, 0, none⟩ 1 1 [.int .i64 V] rfl rfl ?c1 ?c2 ?c3 ?c4 ?c5 ?_))
          first
          | case c1 =>
              intro j u hj
              match j, hj with
              | 0, hj => simp at hj; subst hj; simp [Addr.add]
          | skip
          case c2 => intro u hu; simp at hu; subst hu; rfl
          case c3 => rw [hlen]; unfold maxLen; omega
          case c4 => first | omega | (simp; done) | (simp; omega)
          case c5 => first | omega | (simp; done) | (simp; omega)
          intro v2 w2 hown2 hgrow2 _
          have ho2 : Own w.heap.size w2 v2 (LL win_kl (k + 1)) := by rw [hLL.out]; exact own_push (by rw [hlen]; exact hown2)
          have hb2 : Below w.heap.size w w2 := below_grown (hbel.alloc hle _) (hown.alloc _) (Nat.le_refl _) hgrow2
          go_wp2
          go_roundw
          case rel => exact ⟨k + 1, S, by omega, Lib.hid e2.out, by go_num, by go_num, ho2, hb2⟩
          case measure => simp [intOf]; omega
        · have hend : k = 256 := by omega
          subst hend
          go_wp2
          go_ret
          exact ⟨_, rfl, hown, hbel⟩

theorem wfact_ks (k : Nat) (hk : k ≤ 32) : ∃ X P S : Nat, Hid ((0 :: sum_ks).getD k 0 = P) ∧ Hid (sum_ks.getD k 0 = S) ∧ Hid (P + X = S) ∧ S ≤ 2135407864823 ∧ P + X ≤ 2135407864823 ∧ Hid (∀ w, Calls Try.prog 77 #[.int .i64 k, .int .i64 32, .int .i64 6] w fun e w' => e = .returned (.int .i64 X) ∧ w = w') := by
  obtain ⟨h1, h2⟩ := sums_at sum_ks 0 0 k sums_ks (by rw [len_sum_ks]; omega)
  rw [Nat.zero_add] at h1 h2
  have hb := sum_bd_ks (k := k) hk
  have hb2 : besS (uF 32 1526020443684 67108864 k) 63 ≤ 2135407864823 := by omega
  refine ⟨besS (uF 32 1526020443684 67108864 k) 63, _, _, Lib.hid rfl, Lib.hid rfl, Lib.hid h1, hb, by rw [h1]; exact hb, Lib.hid fun w => rweight_ks k _ _ w hk rfl h2 rfl (by omega) (fun j hj => besS_le _ hj)⟩

set_option maxRecDepth 100000 in
set_option maxHeartbeats 4000000 in
theorem rkbd_ks (w : World) : Calls Try.prog 69 #[.int .i64 32, .int .i64 6] w fun e w' => ∃ v, e = .returned v ∧ Own w.heap.size w' v (LL win_ks 32) ∧ Below w.heap.size w w' := by
  obtain ⟨i0, hi, hz0, hz1, hz2⟩ := info_parts info3
  go_enter Try.func69, Try.ntmps69
  go_wp2
  go_loop [5, 6] (fun s i => ∃ k P : Nat, k ≤ 33 ∧ Hid ((0 :: sum_ks).getD k 0 = P) ∧ s = .int .i64 P ∧ i = .int .i64 k) (fun _ i => 33 - (intOf i).toNat)
  case atStart => exact ⟨0, 0, by omega, Lib.hid rfl, rfl, rfl⟩
  case round =>
    obtain ⟨k, P, hk, hP, rfl, rfl⟩ := hrel
    by_cases hlt : k < 33
    · obtain ⟨X, P', S, e1, e2, e3, e4, e5, hC⟩ := wfact_ks k (by omega)
      obtain rfl : P = P' := hP.out.symm.trans e1.out
      have hle : (k : Int) ≤ 32 := by omega
      go_wp2_with (go_at_call 77; ((with_reducible refine (hC.out _).mono ?_); rintro e w5 ⟨rfl, rfl⟩))
      go_round
      case rel => exact ⟨k + 1, S, by omega, Lib.hid e2.out, by rw [← e3.out, Int.natCast_add], by go_num⟩
      case measure => simp [intOf]; omega
    · have hend : k = 33 := by omega
      subst hend
      obtain rfl : P = 2135407864823 := hP.out.symm.trans top_ks
      clear hP
      have hnil := own_nil w w.heap.size
      go_wp2
      go_loopw [7, 8, 9] (fun v s i wr => ∃ k P : Nat, k ≤ 32 ∧ Hid ((0 :: sum_ks).getD k 0 = P) ∧ s = .int .i64 P ∧ i = .int .i64 k ∧ Own w.heap.size wr v (LL win_ks k) ∧ Below w.heap.size w wr) (fun _ _ i _ => 32 - (intOf i).toNat)
      case atStart => exact ⟨0, 0, by omega, Lib.hid rfl, rfl, rfl, hnil, Below.refl _ _⟩
      case round =>
        obtain ⟨k, P, hk, hP, rfl, rfl, hown, hbel⟩ := hrel
        have hle : w.heap.size ≤ wr.heap.size := hbel.size
        by_cases hlt : k < 32
        · obtain ⟨X, P', S, e1, e2, e3, e4, e5, hC⟩ := wfact_ks k (by omega)
          obtain rfl : P = P' := hP.out.symm.trans e1.out
          obtain ⟨v1, v2, v3⟩ := vals_at sum_ks win_ks k vals_ks (by rw [len_ks]; exact hlt)
          rw [e2.out] at v1 v3
          have hV1 := Lib.hid v1
          clear v1 v2
          have eS : (P : Int) + X = (S : Nat) := by rw [← e3.out, Int.natCast_add]
          have hpt : Hid (∀ w, Calls Try.prog 79 #[.int .i64 S, .int .i64 2135407864823] w fun e w' => e = .returned (.int .i64 (partGo 2135407864823 44 S 0)) ∧ w = w') := Lib.hid (fun w => rpart_ok S 2135407864823 w e4 (by decide))
          generalize partGo 2135407864823 44 S 0 = p at v3 hV1 hpt
          have hLL := Lib.hid (LL_succ win_ks k)
          generalize win_ks.getD k 0 = V at hV1 hLL
          have hlen := LL_len win_ks k
          go_wp2_with (first
            | (go_at_call 77; ((with_reducible refine (hC.out _).mono ?_); rintro e w5 ⟨rfl, rfl⟩))
            | (go_at_call 79; ((with_reducible refine (hpt.out _).mono ?_); rintro e w5 ⟨rfl, rfl⟩))
            | (go_at_call 78; ((with_reducible refine (rroot p _ (by omega) (by omega)).mono ?_); rintro e w6 ⟨r, hr, rfl, rfl⟩; obtain rfl := sqrt_one hr hV1.out; clear hr))
            | (at_builtin; refine wpList_append_own _ rfl (.tmp 32) (.tmp 37) 22 rfl w.heap.size 3 i0 (.int .i64 0) 1 8 Try.underlying22 hi hz0 hz1 hz2 rfl (by decide) _ _ _ rfl (World.ownsRow.alloc hown _) ⟨wr.heap.size, 0, none⟩ 1 1 [.int .i64 V] rfl rfl ?c1 ?c2 ?c3 ?c4 ?c5 ?_))
          first
          | case c1 =>
              intro j u hj
              match j, hj with
              | 0, hj => simp at hj; subst hj; simp [Addr.add]
          | skip
          case c2 => intro u hu; simp at hu; subst hu; rfl
          case c3 => rw [hlen]; unfold maxLen; omega
          case c4 => first | omega | (simp; done) | (simp; omega)
          case c5 => first | omega | (simp; done) | (simp; omega)
          intro v2 w2 hown2 hgrow2 _
          have ho2 : Own w.heap.size w2 v2 (LL win_ks (k + 1)) := by rw [hLL.out]; exact own_push (by rw [hlen]; exact hown2)
          have hb2 : Below w.heap.size w w2 := below_grown (hbel.alloc hle _) (hown.alloc _) (Nat.le_refl _) hgrow2
          go_wp2
          go_roundw
          case rel => exact ⟨k + 1, S, by omega, Lib.hid e2.out, by go_num, by go_num, ho2, hb2⟩
          case measure => simp [intOf]; omega
        · have hend : k = 32 := by omega
          subst hend
          go_wp2
          go_ret
          exact ⟨_, rfl, hown, hbel⟩

set_option maxRecDepth 100000 in
set_option maxHeartbeats 2000000 in
theorem rvals_sl (w : World) : Calls Try.prog 54 #[.int .u8 0, .bool false] w fun e w' => ∃ v, e = .returned v ∧ Own w.heap.size w' v (LL win_sl 256) ∧ Below w.heap.size w w' := by
  obtain ⟨i0, hi, hz0, hz1, hz2⟩ := info_parts info3
  have hnil := own_nil w w.heap.size
  go_enter Try.func54, Try.ntmps54
  go_wp2
  go_loopw [8, 9] (fun v i wr => ∃ k : Nat, k ≤ 256 ∧ i = .int .i64 k ∧ Own w.heap.size wr v (LL win_sl k) ∧ Below w.heap.size w wr) (fun _ i _ => 256 - (intOf i).toNat)
  case atStart => exact ⟨0, by omega, rfl, hnil, Below.refl _ _⟩
  case round =>
    obtain ⟨k, hk, rfl, hown, hbel⟩ := hrel
    have hle : w.heap.size ≤ wr.heap.size := hbel.size
    by_cases hlt : k < 256
    · have hv := sine_at (s := 1) win_sl 0 k sines_sl (by rw [len_sl]; exact hlt)
      obtain ⟨c1, c2⟩ := cosF_bd ((2 * ((0 : Int) + k) + 1) * 1 % 2048 - 512)
      have c1 : -1073741824 ≤ sinF ((2 * ((0 : Int) + k) + 1) * 1) := c1
      have c2 : sinF ((2 * ((0 : Int) + k) + 1) * 1) ≤ 1073741824 := c2
      have hs := rsin ((2 * ((0 : Int) + k) + 1) * 1)
      rw [show (2 * ((0 : Int) + k) + 1) * 1 = 2 * (k : Int) + 1 by omega] at hv c1 c2 hs
      generalize sinF (2 * (k : Int) + 1) = C at hv c1 c2 hs
      have hs' := Lib.hid hs
      have hd : Hid (∀ w, Calls Try.prog 63 #[.int .i64 C, .int .i64 4] w fun e w' => e = .returned (.int .i64 ((win_sl.getD k 0 : Nat) : Int)) ∧ w = w') := Lib.hid fun w => by rw [← hv]; exact down_in C 4 w (by omega) (by omega) (by omega) (by omega)
      clear hs hv
      have hLL := Lib.hid (LL_succ win_sl k)
      generalize win_sl.getD k 0 = V at hd hLL
      have hlen := LL_len win_sl k
      go_wp2_with (first
        | (go_at_call 70; ((refine (hs'.out _).mono ?_); rintro e w5 ⟨rfl, rfl⟩))
        | (go_at_call 63; ((with_reducible refine (hd.out _).mono ?_); rintro e w5 ⟨rfl, rfl⟩))
        | (at_builtin; refine wpList_append_own _ rfl (.tmp 21) (.tmp 29) 22 rfl w.heap.size 3 i0 (.int .i64 0) 1 8 Try.underlying22 hi hz0 hz1 hz2 rfl (by decide) _ _ _ rfl (World.ownsRow.alloc hown _) ⟨wr.heap.size, 0, none⟩ 1 1 [.int .i64 V] rfl rfl ?c1 ?c2 ?c3 ?c4 ?c5 ?_))
      first
      | case c1 =>
          intro j u hj
          match j, hj with
          | 0, hj => simp at hj; subst hj; simp [Addr.add]
      | skip
      case c2 => intro u hu; simp at hu; subst hu; rfl
      case c3 => rw [hlen]; unfold maxLen; omega
      case c4 => first | omega | (simp; done) | (simp; omega)
      case c5 => first | omega | (simp; done) | (simp; omega)
      intro v2 w2 hown2 hgrow2 _
      have ho2 : Own w.heap.size w2 v2 (LL win_sl (k + 1)) := by rw [hLL.out]; exact own_push (by rw [hlen]; exact hown2)
      have hb2 : Below w.heap.size w w2 := below_grown (hbel.alloc hle _) (hown.alloc _) (Nat.le_refl _) hgrow2
      go_wp2
      go_roundw
      case rel => exact ⟨k + 1, by omega, by go_num, ho2, hb2⟩
      case measure => simp [intOf]; omega
    · have hend : k = 256 := by omega
      subst hend
      go_wp2
      go_ret
      exact ⟨_, rfl, hown, hbel⟩

set_option maxRecDepth 100000 in
set_option maxHeartbeats 2000000 in
theorem rvals_ss (w : World) : Calls Try.prog 54 #[.int .u8 0, .bool true] w fun e w' => ∃ v, e = .returned v ∧ Own w.heap.size w' v (LL win_ss 32) ∧ Below w.heap.size w w' := by
  obtain ⟨i0, hi, hz0, hz1, hz2⟩ := info_parts info3
  have hnil := own_nil w w.heap.size
  go_enter Try.func54, Try.ntmps54
  go_wp2
  go_loopw [8, 9] (fun v i wr => ∃ k : Nat, k ≤ 32 ∧ i = .int .i64 k ∧ Own w.heap.size wr v (LL win_ss k) ∧ Below w.heap.size w wr) (fun _ i _ => 32 - (intOf i).toNat)
  case atStart => exact ⟨0, by omega, rfl, hnil, Below.refl _ _⟩
  case round =>
    obtain ⟨k, hk, rfl, hown, hbel⟩ := hrel
    have hle : w.heap.size ≤ wr.heap.size := hbel.size
    by_cases hlt : k < 32
    · have hv := sine_at (s := 8) win_ss 0 k sines_ss (by rw [len_ss]; exact hlt)
      obtain ⟨c1, c2⟩ := cosF_bd ((2 * ((0 : Int) + k) + 1) * 8 % 2048 - 512)
      have c1 : -1073741824 ≤ sinF ((2 * ((0 : Int) + k) + 1) * 8) := c1
      have c2 : sinF ((2 * ((0 : Int) + k) + 1) * 8) ≤ 1073741824 := c2
      have hs := rsin ((2 * ((0 : Int) + k) + 1) * 8)
      rw [show (2 * ((0 : Int) + k) + 1) * 8 = (2 * (k : Int) + 1) * 8 by omega] at hv c1 c2 hs
      generalize sinF ((2 * (k : Int) + 1) * 8) = C at hv c1 c2 hs
      have hs' := Lib.hid hs
      have hd : Hid (∀ w, Calls Try.prog 63 #[.int .i64 C, .int .i64 4] w fun e w' => e = .returned (.int .i64 ((win_ss.getD k 0 : Nat) : Int)) ∧ w = w') := Lib.hid fun w => by rw [← hv]; exact down_in C 4 w (by omega) (by omega) (by omega) (by omega)
      clear hs hv
      have hLL := Lib.hid (LL_succ win_ss k)
      generalize win_ss.getD k 0 = V at hd hLL
      have hlen := LL_len win_ss k
      go_wp2_with (first
        | (go_at_call 70; ((refine (hs'.out _).mono ?_); rintro e w5 ⟨rfl, rfl⟩))
        | (go_at_call 63; ((with_reducible refine (hd.out _).mono ?_); rintro e w5 ⟨rfl, rfl⟩))
        | (at_builtin; refine wpList_append_own _ rfl (.tmp 21) (.tmp 29) 22 rfl w.heap.size 3 i0 (.int .i64 0) 1 8 Try.underlying22 hi hz0 hz1 hz2 rfl (by decide) _ _ _ rfl (World.ownsRow.alloc hown _) ⟨wr.heap.size, 0, none⟩ 1 1 [.int .i64 V] rfl rfl ?c1 ?c2 ?c3 ?c4 ?c5 ?_))
      first
      | case c1 =>
          intro j u hj
          match j, hj with
          | 0, hj => simp at hj; subst hj; simp [Addr.add]
      | skip
      case c2 => intro u hu; simp at hu; subst hu; rfl
      case c3 => rw [hlen]; unfold maxLen; omega
      case c4 => first | omega | (simp; done) | (simp; omega)
      case c5 => first | omega | (simp; done) | (simp; omega)
      intro v2 w2 hown2 hgrow2 _
      have ho2 : Own w.heap.size w2 v2 (LL win_ss (k + 1)) := by rw [hLL.out]; exact own_push (by rw [hlen]; exact hown2)
      have hb2 : Below w.heap.size w w2 := below_grown (hbel.alloc hle _) (hown.alloc _) (Nat.le_refl _) hgrow2
      go_wp2
      go_roundw
      case rel => exact ⟨k + 1, by omega, by go_num, ho2, hb2⟩
      case measure => simp [intOf]; omega
    · have hend : k = 32 := by omega
      subst hend
      go_wp2
      go_ret
      exact ⟨_, rfl, hown, hbel⟩

theorem rvals_kl (w : World) : Calls Try.prog 54 #[.int .u8 1, .bool false] w fun e w' => ∃ v, e = .returned v ∧ Own w.heap.size w' v (LL win_kl 256) ∧ Below w.heap.size w w' := by
  go_enter Try.func54, Try.ntmps54
  go_wp2_with (go_at_call 69; ((with_reducible refine (rkbd_kl _).mono ?_); rintro e w1 ⟨v, rfl, ho, hb⟩))
  go_ret
  exact ⟨_, rfl, ho, hb⟩

theorem rvals_ks (w : World) : Calls Try.prog 54 #[.int .u8 1, .bool true] w fun e w' => ∃ v, e = .returned v ∧ Own w.heap.size w' v (LL win_ks 32) ∧ Below w.heap.size w w' := by
  go_enter Try.func54, Try.ntmps54
  go_wp2_with (go_at_call 69; ((with_reducible refine (rkbd_ks _).mono ?_); rintro e w1 ⟨v, rfl, ho, hb⟩))
  go_ret
  exact ⟨_, rfl, ho, hb⟩

end Go.Proofs.Yteknakakefhbmaa.Fx
