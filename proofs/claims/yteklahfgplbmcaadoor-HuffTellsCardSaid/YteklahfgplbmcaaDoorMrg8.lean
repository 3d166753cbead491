/- Texts of one claim, one behind the other: BiRef, BcBt, BcCd, BcPc. -/
import Derived.Test.YteklahfgplbmcaaDoorMrg3
import Derived.WalkKit
import Derived.OwnWalk
import Derived.Laws.AppendOwn
import Derived.ProofKit
import Derived.OpenShut
import Derived.Lib.Hide
import Derived.Test.YteklahfgplbmcaaDoorMrg4
import Derived.Laws.OwnMore
import Derived.Below
import Derived.RegionTactic
import Derived.Deep.QuietTactic
import Derived.BigQuiet
import Derived.ChangeAlike
import Derived.Deep.OwnRows
import Derived.Deep.Cut
import Derived.Laws.EntriesVeiled
import Derived.Deep.RegionHeld3
import Derived.Laws.AppendOwnNone
import Derived.Test.YteklahfgplbmcaaDoorMrg7
import Derived.Test.YteklahfgplbmcaaDoorBkCode
set_option linter.unusedVariables false
/- What the document's own Put and Get do. -/
namespace Go.Proofs.YteklahfgplbmcaaDoor.Bi
open Go Go.ChangeShapes Go.WideShapes Go.ChangeAt Go.RowKit
open Go.Proofs.YteklahfgplbmcaaDoor.Cr (belowT below_grown)

theorem retI {a b : Int} (h : a = b) : Ending.returned (.int .i64 a) = .returned (.int .i64 b) := by rw [h]
theorem two_ok (s : Nat) (w : World) (s1 : s ≤ 31) : Calls Tryd.prog 85 #[.int .i64 s] w fun e w' => e = .returned (.int .i64 (2 ^ s)) ∧ w = w' := by
  go_enter Tryd.func85, Tryd.ntmps85
  go_wp2
  go_loop [3, 4] (fun p i => ∃ m : Nat, m ≤ s ∧ i = .int .i64 m ∧ p = .int .i64 (2 ^ m)) (fun _ i => s - (intOf i).toNat)
  case atStart => exact ⟨0, by omega, rfl, rfl⟩
  case round =>
    obtain ⟨m, hm, rfl, rfl⟩ := hrel
    by_cases hlt : m < s
    · have hp := pow_bd (s := m) (by omega)
      have hp2 : (2 : Int) * 2 ^ m = 2 ^ (m + 1) := by rw [Int.pow_succ]; omega
      have HP := Lib.hid hp2
      clear hp2
      generalize (2 : Int) ^ m = P at *
      go_wp2
      go_round
      case rel => exact ⟨m + 1, by omega, by go_num, by rw [HP.out]⟩
      case measure => simp [intOf]; omega
    · obtain rfl : m = s := by omega
      go_wp2
      go_ret
      exact ⟨rfl, rfl⟩

theorem half_bd {X : Int} {s : Nat} (x0 : 0 ≤ X) (x1 : X < 2 ^ (s + 1)) : 0 ≤ X / 2 ∧ X / 2 < 2 ^ s := by
  rw [Int.pow_succ] at x1
  generalize (2 : Int) ^ s = P at *
  omega

set_option maxRecDepth 100000 in
theorem rbits_ok : ∀ (s : Nat) (X : Int) (w : World), s ≤ 31 → 0 ≤ X → X < 2 ^ s →
    Calls Tryd.prog 87 #[.int .i64 X, .int .i64 s] w fun e w' => ∃ v, e = .returned v ∧ Cr.Own w.heap.size w' v (bi X s) ∧ Below w.heap.size w w'
  | 0, X, w, _, _, _ => by
    go_enter Tryd.func87, Tryd.ntmps87
    go_wp2
    go_ret
    exact ⟨_, rfl, World.ownsRow_nil w _ 5 1, Below.refl _ _⟩
  | s + 1, X, w, s1, x0, x1 => by
    obtain ⟨i0, hi, hz0, hz1, hz2⟩ := info_parts info5'
    obtain ⟨h0, h1⟩ := half_bd x0 x1
    have IH := Lib.hid (fun w => rbits_ok s (X / 2) w (by omega) h0 h1)
    have hpw := pow_bd s1
    have x2 : X ≤ 2147483648 := by omega
    have e1 : Int.tdiv X 2 = X / 2 := Int.tdiv_eq_ediv_of_nonneg x0
    have e2 : Int.tmod X 2 = X % 2 := Int.tmod_eq_emod_of_nonneg x0
    have e3 : ((s + 1 : Nat) : Int) - 1 = s := by omega
    have hne : (((s + 1 : Nat) : Int) == 0) = false := by simp; omega
    have hsn := Lib.hid (bi_snoc X s)
    obtain ⟨d, hd⟩ : ∃ d, X % 2 = d := ⟨_, rfl⟩
    have d0 : 0 ≤ d ∧ d ≤ 1 := by omega
    rw [hd] at e2 hsn
    obtain ⟨d1, d2⟩ := d0
    clear hd h0 h1 x1
    rw [show ((s + 1 : Nat) : Int) = (s : Int) + 1 by omega] at *
    have e4 : (s : Int) + 1 - 1 = s := by omega
    go_enter Tryd.func87, Tryd.ntmps87
    go_wp2_with (first
      | (go_at_call 87; ((with_reducible refine (IH.out _).mono ?_); rintro e w1 ⟨v1, rfl, ho1, hb1⟩; have hs1 := hb1.size))
      | (at_builtin; refine wpList_append_own _ rfl _ _ 28 rfl w.heap.size 5 i0 (.int .u8 0) 1 1 Tryd.underlying28 hi hz0 hz1 hz2 rfl (by decide) _ _ _ rfl (ho1.alloc _) ⟨w1.heap.size, 0, none⟩ 1 1 [.int .u8 d] rfl rfl ?c1 ?c2 ?c3 ?c4 ?c5 ?_))
    case c1 =>
      intro j u hj
      match j, hj with
      | 0, hj => simp at hj; subst hj; simp [Addr.add]
    case c2 => intro u hu; simp at hu; subst hu; rfl
    case c3 => rw [bi_len]; unfold maxLen; omega
    case c4 => rw [bi_len]; omega
    case c5 => simp; omega
    intro v2 w2 ho2 hg2 _
    have ho3 : Cr.Own w.heap.size w2 v2 (bi (X / 2) s ++ [d]) := by unfold Cr.Own; rw [List.length_append, List.map_append]; exact ho2
    have hb2 : Below w.heap.size w w2 := (hb1.alloc hs1 _).grown hg2 (by simp; omega) (fun k hk => (ho1.lt k hk).1)
    rw [← hsn.out] at ho3
    go_wp2
    go_ret
    exact ⟨_, rfl, ho3, hb2⟩

set_option maxRecDepth 100000 in
theorem rget_arg (a0 : Option Addr) (l0 c0 : Nat) (A S : Int) (w : World) (hl : l0 ≤ maxLen) (h : S < 0 ∨ 31 < S ∨ A < 0 ∨ (l0 : Int) < A) :
    Calls Tryd.prog 88 #[.slice a0 l0 c0, .int .i64 A, .int .i64 S] w fun e w' => e = .returned (.tuple #[.int .i64 0, .int .i64 0, .int .i64 2]) ∧ w = w' := by
  unfold maxLen at hl
  by_cases h1 : S < 0
  · go_enter Tryd.func88, Tryd.ntmps88
    go_wp2
    go_ret3
    exact ⟨rfl, rfl⟩
  by_cases h2 : 31 < S
  · go_enter Tryd.func88, Tryd.ntmps88
    go_wp2
    go_ret3
    exact ⟨rfl, rfl⟩
  by_cases h3 : A < 0
  · go_enter Tryd.func88, Tryd.ntmps88
    go_wp2
    go_ret3
    exact ⟨rfl, rfl⟩
  have h4 : (l0 : Int) < A := by omega
  clear h
  go_enter Tryd.func88, Tryd.ntmps88
  go_wp2
  go_ret3
  exact ⟨rfl, rfl⟩
theorem rget_end (a0 : Option Addr) (l0 c0 : Nat) (A S : Int) (w : World) (hl : l0 ≤ maxLen) (s0 : 0 ≤ S) (s1 : S ≤ 31) (a0' : 0 ≤ A) (a1 : A ≤ l0) (h : (l0 : Int) - A < S) :
    Calls Tryd.prog 88 #[.slice a0 l0 c0, .int .i64 A, .int .i64 S] w fun e w' => e = .returned (.tuple #[.int .i64 0, .int .i64 0, .int .i64 5]) ∧ w = w' := by
  unfold maxLen at hl
  go_enter Tryd.func88, Tryd.ntmps88
  go_wp2
  go_ret3
  exact ⟨rfl, rfl⟩
/-- Nothing is read. -/
theorem rget_zero (a0 : Option Addr) (l0 c0 at' : Nat) (w : World) (hl : l0 ≤ maxLen) (h : at' ≤ l0) :
    Calls Tryd.prog 88 #[.slice a0 l0 c0, .int .i64 at', .int .i64 0] w fun e w' => e = .returned (.tuple #[.int .i64 0, .int .i64 at', .int .i64 0]) ∧ w = w' := by
  unfold maxLen at hl
  go_enter Tryd.func88, Tryd.ntmps88
  go_wp2
  go_loop [9, 10] (fun m i => i = .int .i64 at' ∧ m = .int .i64 0) (fun _ _ => 0)
  case atStart => exact ⟨rfl, rfl⟩
  case round =>
    obtain ⟨rfl, rfl⟩ := hrel
    go_wp2
    go_ret3
    exact ⟨rfl, rfl⟩
set_option maxRecDepth 100000 in
set_option maxHeartbeats 1000000 in
theorem rget_room (b off n c0 at' s : Nat) (ys : List Int) (w : World) (hn : n ≤ maxLen) (s1 : s ≤ 31) (h : at' + s ≤ n) (ly : ys.length = s) (hz : ∀ z ∈ ys, 0 ≤ z ∧ z ≤ 255)
    (hc : ∀ i, i < s → w.cell? ⟨b, off + (at' + i), none⟩ = some (.int .u8 (ys.getD i 0))) :
    Calls Tryd.prog 88 #[.slice (some ⟨b, off, none⟩) n c0, .int .i64 at', .int .i64 s] w fun e w' => ((Cr.Bits ys ∧ e = .returned (.tuple #[.int .i64 (num ys), .int .i64 ((at' : Int) + s), .int .i64 0])) ∨ (¬ Cr.Bits ys ∧ e = .returned (.tuple #[.int .i64 0, .int .i64 0, .int .i64 8]))) ∧ w = w' := by
  unfold maxLen at hn
  have HC := Lib.hid hc
  have HZ := Lib.hid hz
  have LY := Lib.hid ly
  clear hc hz ly
  go_enter Tryd.func88, Tryd.ntmps88
  go_wp2
  go_loop [9, 10] (fun m i => ∃ k : Nat, k ≤ s ∧ i = .int .i64 ((at' + k : Nat) : Int) ∧ m = .int .i64 (num (ys.take k)) ∧ Hid (Cr.Bits (ys.take k))) (fun _ i => at' + s - (intOf i).toNat)
  case atStart => exact ⟨0, by omega, rfl, rfl, Lib.hid (fun z h => by simp at h)⟩
  case round =>
    obtain ⟨k, hk, rfl, rfl, hB⟩ := hrel
    by_cases hlt : k < s
    · have q1 := HC.out k hlt
      have hd := HZ.out (ys.getD k 0) (by simp [LY.out, hlt])
      have hts := take_snoc (zs := ys) (k := k) (by rw [LY.out]; exact hlt)
      have hnb := num_bd k (ys.take k) (by simp [LY.out]; omega) hB.out
      have hp := pow31 (k := k) (by omega)
      have hnm := num_snoc (ys.take k) (ys.getD k 0)
      rw [← hts] at hnm
      obtain ⟨d, hdd⟩ : ∃ d, ys.getD k 0 = d := ⟨_, rfl⟩
      rw [hdd] at q1 hd hts hnm
      obtain ⟨N, hN⟩ : ∃ N, num (ys.take k) = N := ⟨_, rfl⟩
      rw [hN] at hnb hnm ⊢
      have HTS := Lib.hid hts
      have HNM := Lib.hid hnm
      have HD := Lib.hid hdd
      have n0 : 0 ≤ N := hnb.1
      have n1 : N ≤ 2147483648 := by omega
      have hi : ((at' + k : Nat) : Int) < (at' : Int) + (s : Int) := by omega
      clear hts hnm hdd hN hnb hp
      obtain ⟨d0, d1⟩ := hd
      by_cases hz0 : d = 0
      · subst hz0
        go_wp2
        go_round
        case rel => exact ⟨k + 1, by omega, by go_num, by rw [HNM.out]; go_num, Lib.hid (by rw [HTS.out]; exact bits_append hB.out (fun z hz => by simp at hz; omega))⟩
        case measure => simp [intOf]; omega
      by_cases hz1 : d = 1
      · subst hz1
        go_wp2
        go_round
        case rel => exact ⟨k + 1, by omega, by go_num, by rw [HNM.out], Lib.hid (by rw [HTS.out]; exact bits_append hB.out (fun z hz => by simp at hz; omega))⟩
        case measure => simp [intOf]; omega
      · have t0 : (d != 0) = true := by simpa using hz0
        have t1 : (d != 1) = true := by simpa using hz1
        have HZ1 := Lib.hid hz1
        have HZ0 := Lib.hid hz0
        clear hz0 hz1
        go_wp2
        go_ret3
        exact ⟨.inr ⟨fun hb => by
          have := hb d (by rw [← HD.out]; simp [LY.out, hlt])
          rcases this with h | h
          · exact HZ0.out h
          · exact HZ1.out h, rfl⟩, rfl⟩
    · obtain rfl : k = s := by omega
      have ht : ys.take k = ys := List.take_of_length_le (by rw [LY.out]; omega)
      rw [ht]
      have hB2 := hB.out
      rw [ht] at hB2
      have HB2 := Lib.hid hB2
      have hnb := num_bd k ys LY.out hB2
      have hp := pow31 (k := k) (by omega)
      clear hB2 hB ht
      have n0 : 0 ≤ num ys := hnb.1
      have n1 : num ys ≤ 2147483648 := by omega
      clear hnb hp
      go_wp2
      go_ret3
      exact ⟨.inl ⟨HB2.out, rfl⟩, rfl⟩
end Go.Proofs.YteklahfgplbmcaaDoor.Bi

/- The document's bits of a rank. -/
namespace Go.Proofs.YteklahfgplbmcaaDoor.BkRf
open Go Go.ChangeShapes Go.WideShapes Go.ChangeAt Go.RowKit Go.Proofs.YteklahfgplbmcaaDoor.Bk Go.Proofs.YteklahfgplbmcaaDoor.Bi Go.Proofs.YteklahfgplbmcaaDoor.Cr Go.Proofs.YteklahfgplbmcaaDoor.Fx

theorem dg_two {n : Nat} (h : ¬ n < 2) : dg n = 1 + dg (n / 2) := by rw [dg.eq_def]; simp [h]
theorem dg_one : dg 1 = 1 := by rw [dg.eq_def]; simp
set_option maxRecDepth 100000 in
theorem digits_ok : ∀ (d n : Nat) (w : World), d ≤ 12 → n < 2 ^ d → 1 ≤ n → Calls Tryd.prog 86 #[.int .i64 n] w fun e w' => e = .returned (.int .i64 (dg n : Nat)) ∧ w = w'
  | 0, n, w, _, h, h1 => by simp at h; omega
  | d + 1, n, w, hd, h, h1 => by
    by_cases h2 : n < 2
    · have : n = 1 := by omega
      subst this
      rw [dg_one]
      clear h h1 h2
      go_enter Tryd.func86, Tryd.ntmps86
      go_wp2
      go_ret
      exact ⟨rfl, rfl⟩
    · have h3 : n / 2 < 2 ^ d := by rw [Nat.pow_succ] at h; omega
      have IH := Lib.hid (fun w => digits_ok d (n / 2) w (by omega) h3 (by omega))
      have hg : dg (n / 2) ≤ d := dg_le (by omega) h3
      have e1 : Int.tdiv (n : Int) 2 = ((n / 2 : Nat) : Int) := by rw [Int.tdiv_eq_ediv_of_nonneg (by omega)]; rfl
      have h2' : ¬ (n : Int) < 2 := by omega
      have hpw : 2 ^ (d + 1) ≤ 2 ^ 12 := Nat.pow_le_pow_right (by omega) hd
      have hn : n < 4096 := by omega
      rw [dg_two h2]
      have e2 : ((1 + dg (n / 2) : Nat) : Int) = 1 + ((dg (n / 2) : Nat) : Int) := by omega
      rw [e2]
      generalize dg (n / 2) = g at *
      have hfb : n / 2 < 4096 := by omega
      generalize n / 2 = hf at *
      have hf0 : (0 : Int) ≤ (hf : Int) := Int.natCast_nonneg _
      have hf1 : (hf : Int) ≤ 4096 := by omega
      clear h h1 h2 h3 hpw e2
      go_enter Tryd.func86, Tryd.ntmps86
      go_wp2_with (go_at_call 86; ((with_reducible refine (IH.out _).mono ?_); rintro e w1 ⟨rfl, rfl⟩))
      go_ret
      exact ⟨rfl, rfl⟩
/-- An append of bytes that a call made. -/
theorem wpList_app8 (w : World) {ops : Array Oper} {rest : List Oper} {o : Oper} {a : Act} {Q : Exit → Act → World → Prop} (hgd : o.guard = none) (s x : Operand)
    (ho : o.op = .call { callee := .builtin .append, args := #[s, x], argTypes := #[28, 28] }) (base : Nat) (v : Value) (xs : List Int) (hs : a.eval s = v) (hown : Cr.Own base w v xs)
    (vx : Value) (zs : List Int) (b2 : Nat) (hx : a.eval x = vx) (hsrc : Cr.Own b2 w vx zs) (hl : xs.length + zs.length ≤ 1000000) (hbase : base ≤ w.heap.size)
    (hK : ∀ v' w', Cr.Own base w' v' (xs ++ zs) → w.grownBy w' v.ownBlock → wpList Tryd.prog ops Q rest (a.put o.dst v') w') : wpList Tryd.prog ops Q (o :: rest) a w := by
  obtain ⟨i0, hi, hz0, hz1, hz2⟩ := info_parts info5'
  have hcells := @World.ownsRow.cells _ _ _ _ _ _ _ hsrc
  obtain ⟨hx0, ⟨rfl, hn⟩ | ⟨g, cap, cur, rfl, hg, hh, hc, hm, hs2, ht⟩⟩ := hsrc
  · have hz : zs = [] := List.eq_nil_of_length_eq_zero hn
    subst hz
    refine wpList_plain hgd fun K hK' => ?_
    have hrun := run_append_owned_none (P := Tryd.prog) (w := w) base 28 o.type 5 i0 1 Tryd.underlying28 hi v xs.length (xs.map (Value.int .u8)) hown
    unfold Oper.wp
    simp [execOp, ho, resolve, invoke, builtin, hs, hx, hrun, Result.andThen]
    exact hK' _ _ (hK v w (by rw [List.append_nil]; exact hown) ⟨rfl, rfl, rfl, Nat.le_refl _, fun _ _ _ => rfl⟩)
  · refine wpList_append_own w hgd s x 28 ho base 5 i0 (.int .u8 0) 1 1 Tryd.underlying28 hi hz0 hz1 hz2 rfl (by decide) v xs.length (xs.map (Value.int .u8)) hs hown ⟨g, 0, none⟩ zs.length cap (zs.map (Value.int .u8)) hx (by simp) (fun j u hu => hcells rfl j u hu) (one8' _) (by unfold maxLen; omega) (by omega) hbase fun v' w' h1 h2 _ => hK v' w' ?_ h2
    unfold Cr.Own
    rw [List.length_append, List.map_append]
    exact h1
theorem made_own {base n : Nat} {w : World} {v : Value} (h : w.ownsRow base 5 1 v n (madeCells (Value.int .u8 0).cells (n * 1)).toList) : Cr.Own base w v (List.replicate n 0) := by
  unfold Cr.Own
  have e : (madeCells (Value.int .u8 0).cells (n * 1)).toList = (List.replicate n (0 : Int)).map (Value.int .u8) := by
    rw [List.map_replicate, Nat.mul_one]
    exact toList_madeCells_one (Value.int .u8 0) n
  rw [List.length_replicate, ← e]
  exact h
set_option maxRecDepth 100000 in
set_option maxHeartbeats 4000000 in
theorem rcode_ok (p r : Nat) (w : World) (hp : p ≤ 2) (hr : r < 289) : Calls Tryd.prog 62 #[.int .i64 r, .int .i64 p] w fun e w' => ∃ v, e = .returned v ∧ Cr.Own w.heap.size w' v (cd p r) ∧ Below w.heap.size w w' := by
  obtain ⟨i0, hi, hz0, hz1, hz2⟩ := info_parts info5'
  have H2 := Lib.hid (fun w => two_ok p w (by omega))
  obtain ⟨P, hP⟩ : ∃ P : Nat, 2 ^ p = P := ⟨_, rfl⟩
  have hPI : (2 : Int) ^ p = (P : Int) := by rw [← hP]; push_cast; rfl
  have hP1 : 1 ≤ P := by rw [← hP]; exact Nat.one_le_two_pow
  have hP4 : P ≤ 4 := by rw [← hP]; exact Nat.pow_le_pow_right (by omega) hp
  rw [hPI] at H2
  obtain ⟨q, hq⟩ : ∃ q, r / P + 1 = q := ⟨_, rfl⟩
  obtain ⟨m, hm⟩ : ∃ m, r % P = m := ⟨_, rfl⟩
  have hq1 : 1 ≤ q := by rw [← hq]; exact Nat.le_add_left 1 _
  have hq2 : q < 2 ^ 9 := by have := Nat.div_le_self r P; omega
  have hmP : m < P := by rw [← hm]; exact Nat.mod_lt _ hP1
  have HD := Lib.hid (fun w => digits_ok 9 q w (by omega) hq2 hq1)
  obtain ⟨d1, d2, d3⟩ := dg_bd q q Nat.lt_two_pow_self hq1
  have d4 := dg_le (d := 9) hq1 hq2
  obtain ⟨d, hd⟩ : ∃ d, dg q = d := ⟨_, rfl⟩
  have hcd : Hid (cd p r = (List.replicate (d - 1) 0 ++ bi (q : Int) d) ++ bi (m : Int) p) := Lib.hid (by
    unfold cd
    rw [hP, hq, hm, hd, show 2 * d - 1 = (d - 1) + d by omega, bi_zeros (q : Int) d (by omega) (by have : ((q : Nat) : Int) < ((2 ^ dg q : Nat) : Int) := Int.ofNat_lt.2 d3; rw [hd] at this; push_cast at this; exact this)])
  have HB1 := Lib.hid (fun w => rbits_ok d (q : Int) w (by omega) (by omega) (by have : ((q : Nat) : Int) < ((2 ^ dg q : Nat) : Int) := Int.ofNat_lt.2 d3; rw [hd] at this; push_cast at this; exact this))
  have hmI : (m : Int) < 2 ^ p := by rw [hPI]; omega
  have HB2 := Lib.hid (fun w => rbits_ok p (m : Int) w (by omega) (by omega) hmI)
  rw [hd] at HD d1
  have e1 : Int.tdiv (r : Int) (P : Int) = ((r / P : Nat) : Int) := by rw [Int.tdiv_eq_ediv_of_nonneg (by omega)]; rfl
  have e2 : Int.tmod (r : Int) (P : Int) = (m : Int) := by rw [Int.tmod_eq_emod_of_nonneg (by omega), ← hm]; rfl
  have e3 : ((r / P : Nat) : Int) + 1 = (q : Int) := by omega
  generalize r / P = rP at *
  have e4 : (d : Int) - 1 = ((d - 1 : Nat) : Int) := by omega
  have hPz : ¬ (P : Int) = 0 := by omega
  have hPz2 : ¬ P = 0 := by omega
  have hq512 : q < 512 := by omega
  have hd9 : d ≤ 9 := by omega
  have hrd : (rP : Int) ≤ 512 := by omega
  have hrd0 : (0 : Int) ≤ (rP : Int) := Int.natCast_nonneg _
  have lq := Lib.hid (bi_len (q : Int) d)
  have lm := Lib.hid (bi_len (m : Int) p)
  clear d2 d3 d4 hd hq hm hq2 hPI hP hmI
  go_enter Tryd.func62, Tryd.ntmps62
  go_wp2_with first
    | (go_at_call 85; ((with_reducible refine (H2.out _).mono ?_); rintro e w1 ⟨rfl, rfl⟩))
    | (go_at_call 86; ((with_reducible refine (HD.out _).mono ?_); rintro e w2 ⟨rfl, rfl⟩))
    | (refine wpList_make_full _ rfl _ _ 28 rfl w.heap.size 5 i0 (.int .u8 0) 1 Tryd.underlying28 hi hz0 hz1 .i64 .i64 _ _ (d - 1) rfl rfl rfl rfl (by rw [hz2]; omega) (by unfold maxLen; omega) (Nat.le_refl _) ?_; intro w1 ho1 hg1; have hb1 : Below w.heap.size w w1 := (Below.refl _ _).grown hg1 (Nat.le_refl _) (fun k hk => by cases hk); have hs1 := hb1.size; have ho1' := made_own ho1; clear ho1)
    | (go_at_call 87; ((with_reducible refine (HB1.out _).mono ?_); rintro e w2 ⟨v2, rfl, ho2, hb2⟩; have ho12 := Cr.Own.below ho1' hb2; have hb12 := bT hb1 hb2))
    | (at_builtin; refine wpList_app8 _ rfl (.tmp 20) (.tmp 23) rfl w.heap.size _ (List.replicate (d - 1) 0) rfl ho12 _ _ _ rfl ho2 (by rw [lq.out]; simp; omega) hb12.size ?_; intro v3 w3 ho3 hg3; have hb3 : Below w.heap.size w w3 := hb12.grown hg3 hb12.size (fun k hk => (World.ownsRow.lt ho12 k hk).1); clear ho12 hb12 ho1' ho2 hb2 hg3 hb1)
    | (go_at_call 87; ((with_reducible refine (HB2.out _).mono ?_); rintro e w4 ⟨v4, rfl, ho4, hb4⟩; have ho34 := Cr.Own.below ho3 hb4; have hb34 := bT hb3 hb4))
    | (at_builtin; refine wpList_app8 _ rfl (.tmp 25) (.tmp 30) rfl w.heap.size _ (List.replicate (d - 1) 0 ++ bi (q : Int) d) rfl ho34 _ _ _ rfl ho4 (by rw [lm.out, List.length_append, lq.out]; simp; omega) hb34.size ?_; intro v5 w5 ho5 hg5; have hb5 : Below w.heap.size w w5 := hb34.grown hg5 hb34.size (fun k hk => (World.ownsRow.lt ho34 k hk).1))
  go_ret
  exact ⟨_, rfl, by rw [hcd.out]; exact ho5, hb5⟩
end Go.Proofs.YteklahfgplbmcaaDoor.BkRf

/- The document's Code of whatever book. -/
namespace Go.Proofs.YteklahfgplbmcaaDoor.BkRf
open Go Go.ChangeShapes Go.WideShapes Go.ChangeAt Go.RowKit Go.Proofs.YteklahfgplbmcaaDoor.Bk Go.Proofs.YteklahfgplbmcaaDoor.Bi Go.Proofs.YteklahfgplbmcaaDoor.Cr Go.Proofs.YteklahfgplbmcaaDoor.Fx

noncomputable def cdX (i p : Int) (A B : List Int) (n : Int) : Int := if IsBk i p A B then (if 0 ≤ n ∧ n < (B.length : Int) then 0 else 2) else 8
noncomputable def cdL (i p : Int) (A B : List Int) (n : Int) : List Int := if IsBk i p A B then (if 0 ≤ n ∧ n < (B.length : Int) then cd p.toNat (B.getD n.toNat 0).toNat else []) else []
theorem own8_nil (base : Nat) (w : World) : Cr.Own base w (.slice none 0 0) [] := World.ownsRow_nil w _ 5 1
theorem rd_at {w : World} {a : Option Addr} {c m : Nat} {B : List Int} (h : Rd w (.slice a B.length c) B) (hm : m < B.length) : ∃ b off, a = some ⟨b, off, none⟩ ∧ b < w.heap.size ∧ w.cell? ⟨b, off + m, none⟩ = some (.int .i64 (B.getD m 0)) := by
  obtain ⟨A', cap', e, h⟩ := h.open
  cases e
  exact h m hm
theorem own8_re {base b2 : Nat} {w : World} {v : Value} {zs : List Int} (h : Cr.Own b2 w v zs) (hb : base ≤ b2) : Cr.Own base w v zs := by
  obtain ⟨hx, h | ⟨g, cap, cur, rfl, hg, h2⟩⟩ := h
  · exact ⟨hx, .inl h⟩
  · exact ⟨hx, .inr ⟨g, cap, cur, rfl, Nat.le_trans hb hg, h2⟩⟩
set_option maxRecDepth 100000 in
set_option maxHeartbeats 4000000 in
theorem rcd_any (i p n : Int) (a1 a2 : Option Addr) (c1 c2 : Nat) (A B : List Int) (w : World) (hA : A.length ≤ maxLen) (hB : B.length ≤ maxLen) (r1 : Rd w (.slice a1 A.length c1) A) (r2 : Rd w (.slice a2 B.length c2) B) :
    Calls Tryd.prog 27 #[.agg #[.int .i64 i, .int .i64 p, .slice a1 A.length c1, .slice a2 B.length c2], .int .i64 n] w fun e w' => ∃ v, e = .returned (.tuple #[v, .int .i64 (cdX i p A B n)]) ∧ Cr.Own w.heap.size w' v (cdL i p A B n) ∧ Below w.heap.size w w' := by
  have HB := Lib.hid (al w (.cells #[.int .i64 i, .int .i64 p, .slice a1 A.length c1, .slice a2 B.length c2] 24))
  have HM := Lib.hid (fun x (h : Below w.heap.size w x) => may_any i p (.slice a1 A.length c1) (.slice a2 B.length c2) A B x hA hB (r1.below h) (r2.below h))
  have HX := Lib.hid (fun x h => bx1 (w := w) (a := .int .i64 i) (b := .int .i64 p) (c := .slice a1 A.length c1) (d := .slice a2 B.length c2) (x := x) h)
  obtain ⟨p0, p1, p2, p3⟩ := HX.out _ (Below.refl _ _)
  unfold cdX cdL
  by_cases hk : IsBk i p A B
  · rw [if_pos hk, if_pos hk]
    rw [decide_eq_true hk] at HM
    have HK := Lib.hid hk
    have hlB : B.length ≤ 289 := by
      obtain ⟨id, _, h1, h2, _, _, rfl⟩ := hk
      rw [rkL_len]
      exact (facts h1 h2).2.2.2.2.2.2.2.1
    by_cases hn : 0 ≤ n ∧ n < (B.length : Int)
    · rw [if_pos hn, if_pos hn]
      obtain ⟨m, rfl⟩ : ∃ m : Nat, n = (m : Int) := ⟨n.toNat, by omega⟩
      rw [Int.toNat_natCast]
      have hm : m < B.length := by omega
      have hmI : (m : Int) < (B.length : Int) := by omega
      have HR := Lib.hid (rd_at r2 hm)
      obtain ⟨r, hr, hr289⟩ : ∃ r : Nat, B.getD m 0 = (r : Int) ∧ r < 289 := by
        obtain ⟨id, _, h1, h2, _, _, rfl⟩ := hk
        rw [rkL_len] at hm
        exact ⟨rk id m, rkL_get hm, Nat.lt_of_lt_of_le ((ord_is h1 h2).rank hm).1 (facts h1 h2).2.2.2.2.2.2.2.1⟩
      obtain ⟨q, rfl, hq⟩ : ∃ q : Nat, p = (q : Int) ∧ q ≤ 2 := by
        obtain ⟨id, _, h1, h2, rfl, _, _⟩ := hk
        exact ⟨pl id, rfl, (facts h1 h2).2.2.2.2.2.1⟩
      have HC := Lib.hid (fun w => rcode_ok q r w hq hr289)
      rw [hr] at HR ⊢
      rw [Int.toNat_natCast, Int.toNat_natCast]
      clear hk hr r1 r2 hn hA hB HK
      obtain ⟨b, off, rfl, hlb, hc⟩ := HR.out
      have KEEP : Hid (∀ W, Below w.heap.size w W → W.cell? ⟨b, off + m, none⟩ = some (.int .i64 r)) := Lib.hid fun W h => (h.cell (p := ⟨b, off + m, none⟩) hlb).trans hc
      have hm0 : (0 : Int) ≤ (m : Int) := Int.natCast_nonneg _
      clear hc hlb
      go_enter Tryd.func27, Tryd.ntmps27
      go_wp2_with (go_at_call 61; ((with_reducible refine (HM.out _ HB.out).mono ?_); rintro e w1 ⟨rfl, hb1⟩; clear p0 p1 p2 p3; have hb2 := Lib.hid (bT HB.out hb1); have hbx := Lib.hid hb1; obtain ⟨p0, p1, p2, p3⟩ := HX.out w1 hb1; have p4 := KEEP.out w1 hb2.out; clear hb1))
      have KP : Hid (∀ W, Below w1.heap.size w1 W → (W.cell? ⟨w.heap.size, 1, none⟩ = some (.int .i64 q) ∧ W.cell? ⟨w.heap.size, 3, none⟩ = some (.slice (some ⟨b, off, none⟩) B.length c2) ∧ W.cell? ⟨b, off + m, none⟩ = some (.int .i64 r)) ∧ Below w1.heap.size w1 W) := Lib.hid fun W h => ⟨⟨(HX.out W (bT hbx.out h)).2.1, (HX.out W (bT hbx.out h)).2.2.2, KEEP.out W (bT hb2.out h)⟩, h⟩
      clear HM HX HB KEEP
      go_region_held3 (fun W => (W.cell? ⟨w.heap.size, 1, none⟩ = some (.int .i64 q) ∧ W.cell? ⟨w.heap.size, 3, none⟩ = some (.slice (some ⟨b, off, none⟩) B.length c2) ∧ W.cell? ⟨b, off + m, none⟩ = some (.int .i64 r)) ∧ Below w1.heap.size w1 W) (exact KP.out _ (by first | exact Below.refl _ _ | exact (Below.refl _ _).drew | exact X1.out))
        (first
          | (go_at_call 62; ((with_reducible refine (HC.out _).mono ?_); rintro e w2 ⟨v, rfl, ho, hb⟩; have X0 := Lib.hid (‹_ ∧ Below w1.heap.size w1 _›).2; have X1 := Lib.hid (bT X0.out hb); have HO := Lib.hid ho; clear hb ho)))
      all_goals
        go_wp2
        go_ret2
        exact ⟨_, rfl, own8_re HO.out (Nat.le_trans hb2.out.size X0.out.size), bT hb2.out X1.out⟩
    · rw [if_neg hn, if_neg hn]
      have hw1 : decide (n < 0) = true ∨ decide (n < 0) = false := by cases decide (n < 0) <;> simp
      clear hk r1 r2 hA hB HK
      by_cases h0 : n < 0
      · clear hn
        go_enter Tryd.func27, Tryd.ntmps27
        go_wp2_with (go_at_call 61; ((with_reducible refine (HM.out _ HB.out).mono ?_); rintro e w1 ⟨rfl, hb1⟩; clear p0 p1 p2 p3; have hb2 := Lib.hid (bT HB.out hb1); obtain ⟨p0, p1, p2, p3⟩ := HX.out w1 hb1; clear hb1))
        go_ret2
        exact ⟨_, rfl, own8_nil _ _, hb2.out⟩
      · have h1 : (B.length : Int) ≤ n := by omega
        clear hn
        go_enter Tryd.func27, Tryd.ntmps27
        go_wp2_with (go_at_call 61; ((with_reducible refine (HM.out _ HB.out).mono ?_); rintro e w1 ⟨rfl, hb1⟩; clear p0 p1 p2 p3; have hb2 := Lib.hid (bT HB.out hb1); obtain ⟨p0, p1, p2, p3⟩ := HX.out w1 hb1; clear hb1))
        go_ret2
        exact ⟨_, rfl, own8_nil _ _, hb2.out⟩
  · rw [if_neg hk, if_neg hk]
    rw [decide_eq_false hk] at HM
    clear hk r1 r2 hA hB
    go_enter Tryd.func27, Tryd.ntmps27
    go_wp2_with (go_at_call 61; ((with_reducible refine (HM.out _ HB.out).mono ?_); rintro e w1 ⟨rfl, hb1⟩; have hb2 := Lib.hid (bT HB.out hb1); clear hb1))
    go_ret2
    exact ⟨_, rfl, own8_nil _ _, hb2.out⟩
end Go.Proofs.YteklahfgplbmcaaDoor.BkRf

/- The program's Code of whatever book. -/
namespace Go.Proofs.YteklahfgplbmcaaDoor.BkRf
open Go Go.ChangeShapes Go.WideShapes Go.ChangeAt Go.RowKit Go.Proofs.YteklahfgplbmcaaDoor.Bk Go.Proofs.YteklahfgplbmcaaDoor.Bi Go.Proofs.YteklahfgplbmcaaDoor.Cr Go.Proofs.YteklahfgplbmcaaDoor.Fx
theorem rd_RdA {w : World} {A : Option Addr} {cap : Nat} {zs : List Int} (h : Rd w (.slice A zs.length cap) zs) : RdA w A zs := by
  obtain ⟨A', cap', e, h⟩ := h.open
  cases e
  exact h
set_option maxRecDepth 100000 in
set_option maxHeartbeats 8000000 in
theorem pcg_0 (i : Int) (r n : Nat) (a1 : Option Addr) (b off c1 c2 : Nat) (A B : List Int) (w : World) (hs : Sh w)
    (HG : Hid (∀ x, Below w.heap.size w x → Sh x → Calls Tryd.prog 49 #[.agg #[.int .i64 i, .int .i64 0, .slice a1 A.length c1, .slice (some ⟨b, off, none⟩) B.length c2]] x fun e w' => e = .returned (.bool true) ∧ Below x.heap.size x w'))
    (hn : n < B.length) (hr1 : r < 289) (hlb : b < w.heap.size) (hc : w.cell? ⟨b, off + n, none⟩ = some (.int .i64 r)) :
    Calls Tryd.prog 16 #[.agg #[.int .i64 i, .int .i64 0, .slice a1 A.length c1, .slice (some ⟨b, off, none⟩) B.length c2], .int .i64 n] w fun e w' => ∃ v, e = .returned (.tuple #[v, .int .i64 0]) ∧ Cr.Own w.heap.size w' v (cd 0 r) ∧ Below w.heap.size w w' := by
  obtain ⟨q, hq⟩ : ∃ q, r / 2 ^ 0 + 1 = q := ⟨_, rfl⟩
  have hq1 : 1 ≤ q := by omega
  have hq2 : q < 512 := by omega
  obtain ⟨m, hm⟩ : ∃ m, r % 2 ^ 0 = m := ⟨_, rfl⟩
  have hm2 : m < 2 ^ 0 := by rw [← hm]; exact Nat.mod_lt _ (by decide)
  have hcd : cd 0 r = bi (q : Int) (2 * dg q - 1) ++ bi (m : Int) 0 := by unfold cd; rw [hq, hm]
  rw [hcd]
  obtain ⟨d1, d2, d3⟩ := dg_bd q q Nat.lt_two_pow_self hq1
  have d4 := dg_le (d := 9) hq1 hq2
  obtain ⟨d, hd⟩ : ∃ d, dg q = d := ⟨_, rfl⟩
  rw [hd] at d1 d2 d3 d4 ⊢
  have HLn := Lib.hid (fun w => hd ▸ len_ok q hq1 (by omega) w)
  have HP1 : Hid (∀ w, Calls Tryd.prog 51 #[.slice none 0 0, .int .i64 (q : Int), .int .i64 (2 * (d : Int) - 1)] w fun e w' => ∃ g cap, e = .returned (.tuple #[.slice (some ⟨g, 0, none⟩) (2 * d - 1) cap, .int .i64 0]) ∧ Cr.Own w.heap.size w' (.slice (some ⟨g, 0, none⟩) (2 * d - 1) cap) (bi (q : Int) (2 * d - 1)) ∧ Below w.heap.size w w') := Lib.hid fun w => by
    have := put_src (q : Int) (2 * d - 1) w (v0 := .slice none 0 0) (zs := []) (.inl ⟨rfl, rfl⟩) (by simp) (by omega) (by omega) (by
      have a : (q : Int) < 2 ^ d := by exact_mod_cast d3
      have b : (2 : Int) ^ d ≤ 2 ^ (2 * d - 1) := by exact_mod_cast Nat.pow_le_pow_right (by decide) (by omega)
      omega)
    rw [show ((2 * d - 1 : Nat) : Int) = 2 * (d : Int) - 1 by omega] at this
    simpa using this
  have HP2 : Hid (∀ w g cap, Cr.Own w.heap.size w (.slice (some ⟨g, 0, none⟩) (2 * d - 1) cap) (bi (q : Int) (2 * d - 1)) ∨ Src8 w (.slice (some ⟨g, 0, none⟩) (2 * d - 1) cap) (bi (q : Int) (2 * d - 1)) → Calls Tryd.prog 51 #[.slice (some ⟨g, 0, none⟩) (2 * d - 1) cap, .int .i64 (m : Int), .int .i64 0] w fun e w' => ∃ g cap, e = .returned (.tuple #[.slice (some ⟨g, 0, none⟩) (2 * d - 1 + 0) cap, .int .i64 0]) ∧ Cr.Own w.heap.size w' (.slice (some ⟨g, 0, none⟩) (2 * d - 1 + 0) cap) (bi (q : Int) (2 * d - 1) ++ bi (m : Int) 0) ∧ Below w.heap.size w w') := Lib.hid fun w g cap h => by
    have := put_src (m : Int) 0 w (v0 := .slice (some ⟨g, 0, none⟩) (2 * d - 1) cap) (zs := bi (q : Int) (2 * d - 1)) (h.elim own_src id_) (by rw [bi_len]; omega) (by omega) (by omega) (by exact_mod_cast hm2)
    rwa [bi_len] at this
  have HA2 : Hid (bits BinOp.and IntKind.i64 (r : Int) (IntKind.i64.wrap (IntKind.i64.wrap 1 - 1)) = (m : Int)) := Lib.hid (by
    rw [show IntKind.i64.wrap (IntKind.i64.wrap 1 - 1) = 0 from by decide, and_0 r hr1]
    first | omega | (rw [← hm]; rfl))
  have hq' : (r : Int) + 1 = (q : Int) := by omega
  have hwr : IntKind.u64.wrap (q : Int) = (q : Int) := by simp [IntKind.wrap, IntKind.bits, IntKind.signed]; omega
  have hb := al w (.cells #[.int .i64 i, .int .i64 0, .slice a1 A.length c1, .slice (some ⟨b, off, none⟩) B.length c2] 24)
  have HB := Lib.hid hb
  have hsA := Lib.hid (hs.below hb)
  have HX := Lib.hid (fun x h => bx1 (w := w) (a := .int .i64 i) (b := .int .i64 0) (c := .slice a1 A.length c1) (d := .slice (some ⟨b, off, none⟩) B.length c2) (x := x) h)
  have KR : Hid (∀ W, Below w.heap.size w W → W.cell? ⟨b, off + n, none⟩ = some (.int .i64 r)) := Lib.hid fun W h => (h.cell (p := ⟨b, off + n, none⟩) hlb).trans hc
  obtain ⟨k0, k1, k2, k3⟩ := HX.out _ (Below.refl _ _)
  have hnI : (n : Int) < (B.length : Int) := by omega
  have hn0 : (0 : Int) ≤ (n : Int) := Int.natCast_nonneg _
  have HHd := Lib.hid hd
  clear hs hc hq hm hcd hd hm2 hb hlb
  go_enter Tryd.func16, Tryd.ntmps16
  go_upto_region 9 with first
    | (go_at_call 49; ((with_reducible refine (HG.out _ HB.out hsA.out).mono ?_); rintro e w1 ⟨rfl, hb1⟩; clear k0 k1 k2 k3; obtain ⟨k0, k1, k2, k3⟩ := HX.out w1 hb1; have B1 := Lib.hid (bT HB.out hb1); have X1 := Lib.hid hb1; have hcR := KR.out w1 B1.out; clear hb1))
    | (go_at_call 50; ((with_reducible refine (HLn.out _).mono ?_); rintro e w2 ⟨rfl, rfl⟩))
    | (go_at_call 51; ((with_reducible refine (HP1.out _).mono ?_); rintro e w3 ⟨g, cap, rfl, ho3, hb3⟩; clear k0 k1 k2 k3; obtain ⟨k0, k1, k2, k3⟩ := HX.out w3 (bT X1.out hb3); have X3 := Lib.hid (bT X1.out hb3); have B3 := Lib.hid (bT B1.out hb3); clear hb3))
  have hsr := Lib.hid (own_src ho3)
  have hsrd := Lib.hid (Src8.below hsr.out (Below.refl _ w3).drew)
  clear ho3 hcR
  have KP : Hid (∀ W, Below w3.heap.size w3 W → W.cell? ⟨w.heap.size, 1, none⟩ = some (.int .i64 0)) := Lib.hid fun W h => (HX.out W (bT X3.out h)).2.1
  clear HG HX KR
  go_region_held3 (fun W => W.cell? ⟨w.heap.size, 1, none⟩ = some (.int .i64 0))
    (exact KP.out _ (by first | exact Below.refl _ _ | exact (Below.refl _ _).drew | exact X5.out))
    (first
      | (go_at_call 51; rw [HA2.out]; ((with_reducible refine (HP2.out _ _ _ (.inr hsrd.out)).mono ?_); rintro e w5 ⟨g5, cap5, rfl, ho5, hb5⟩; have X5 := Lib.hid ((Below.refl w3.heap.size w3).drew.trans hb5))))
  go_wp2
  go_ret2
  exact ⟨_, rfl, own8_re ho5 B3.out.size, B3.out.trans (X5.out.mono B3.out.size)⟩
set_option maxRecDepth 100000 in
set_option maxHeartbeats 8000000 in
theorem pcg_1 (i : Int) (r n : Nat) (a1 : Option Addr) (b off c1 c2 : Nat) (A B : List Int) (w : World) (hs : Sh w)
    (HG : Hid (∀ x, Below w.heap.size w x → Sh x → Calls Tryd.prog 49 #[.agg #[.int .i64 i, .int .i64 1, .slice a1 A.length c1, .slice (some ⟨b, off, none⟩) B.length c2]] x fun e w' => e = .returned (.bool true) ∧ Below x.heap.size x w'))
    (hn : n < B.length) (hr1 : r < 289) (hlb : b < w.heap.size) (hc : w.cell? ⟨b, off + n, none⟩ = some (.int .i64 r)) :
    Calls Tryd.prog 16 #[.agg #[.int .i64 i, .int .i64 1, .slice a1 A.length c1, .slice (some ⟨b, off, none⟩) B.length c2], .int .i64 n] w fun e w' => ∃ v, e = .returned (.tuple #[v, .int .i64 0]) ∧ Cr.Own w.heap.size w' v (cd 1 r) ∧ Below w.heap.size w w' := by
  obtain ⟨q, hq⟩ : ∃ q, r / 2 ^ 1 + 1 = q := ⟨_, rfl⟩
  have hq1 : 1 ≤ q := by omega
  have hq2 : q < 512 := by omega
  obtain ⟨m, hm⟩ : ∃ m, r % 2 ^ 1 = m := ⟨_, rfl⟩
  have hm2 : m < 2 ^ 1 := by rw [← hm]; exact Nat.mod_lt _ (by decide)
  have hcd : cd 1 r = bi (q : Int) (2 * dg q - 1) ++ bi (m : Int) 1 := by unfold cd; rw [hq, hm]
  rw [hcd]
  obtain ⟨d1, d2, d3⟩ := dg_bd q q Nat.lt_two_pow_self hq1
  have d4 := dg_le (d := 9) hq1 hq2
  obtain ⟨d, hd⟩ : ∃ d, dg q = d := ⟨_, rfl⟩
  rw [hd] at d1 d2 d3 d4 ⊢
  have HLn := Lib.hid (fun w => hd ▸ len_ok q hq1 (by omega) w)
  have HP1 : Hid (∀ w, Calls Tryd.prog 51 #[.slice none 0 0, .int .i64 (q : Int), .int .i64 (2 * (d : Int) - 1)] w fun e w' => ∃ g cap, e = .returned (.tuple #[.slice (some ⟨g, 0, none⟩) (2 * d - 1) cap, .int .i64 0]) ∧ Cr.Own w.heap.size w' (.slice (some ⟨g, 0, none⟩) (2 * d - 1) cap) (bi (q : Int) (2 * d - 1)) ∧ Below w.heap.size w w') := Lib.hid fun w => by
    have := put_src (q : Int) (2 * d - 1) w (v0 := .slice none 0 0) (zs := []) (.inl ⟨rfl, rfl⟩) (by simp) (by omega) (by omega) (by
      have a : (q : Int) < 2 ^ d := by exact_mod_cast d3
      have b : (2 : Int) ^ d ≤ 2 ^ (2 * d - 1) := by exact_mod_cast Nat.pow_le_pow_right (by decide) (by omega)
      omega)
    rw [show ((2 * d - 1 : Nat) : Int) = 2 * (d : Int) - 1 by omega] at this
    simpa using this
  have HP2 : Hid (∀ w g cap, Cr.Own w.heap.size w (.slice (some ⟨g, 0, none⟩) (2 * d - 1) cap) (bi (q : Int) (2 * d - 1)) ∨ Src8 w (.slice (some ⟨g, 0, none⟩) (2 * d - 1) cap) (bi (q : Int) (2 * d - 1)) → Calls Tryd.prog 51 #[.slice (some ⟨g, 0, none⟩) (2 * d - 1) cap, .int .i64 (m : Int), .int .i64 1] w fun e w' => ∃ g cap, e = .returned (.tuple #[.slice (some ⟨g, 0, none⟩) (2 * d - 1 + 1) cap, .int .i64 0]) ∧ Cr.Own w.heap.size w' (.slice (some ⟨g, 0, none⟩) (2 * d - 1 + 1) cap) (bi (q : Int) (2 * d - 1) ++ bi (m : Int) 1) ∧ Below w.heap.size w w') := Lib.hid fun w g cap h => by
    have := put_src (m : Int) 1 w (v0 := .slice (some ⟨g, 0, none⟩) (2 * d - 1) cap) (zs := bi (q : Int) (2 * d - 1)) (h.elim own_src id_) (by rw [bi_len]; omega) (by omega) (by omega) (by exact_mod_cast hm2)
    rwa [bi_len] at this
  have HA2 : Hid (bits BinOp.and IntKind.i64 (r : Int) (IntKind.i64.wrap (IntKind.i64.wrap 2 - 1)) = (m : Int)) := Lib.hid (by
    rw [show IntKind.i64.wrap (IntKind.i64.wrap 2 - 1) = 1 from by decide, and_1 r hr1]
    first | omega | (rw [← hm]; rfl))
  have hq' : (r : Int) / 2 + 1 = (q : Int) := by omega
  have hwr : IntKind.u64.wrap (q : Int) = (q : Int) := by simp [IntKind.wrap, IntKind.bits, IntKind.signed]; omega
  have hb := al w (.cells #[.int .i64 i, .int .i64 1, .slice a1 A.length c1, .slice (some ⟨b, off, none⟩) B.length c2] 24)
  have HB := Lib.hid hb
  have hsA := Lib.hid (hs.below hb)
  have HX := Lib.hid (fun x h => bx1 (w := w) (a := .int .i64 i) (b := .int .i64 1) (c := .slice a1 A.length c1) (d := .slice (some ⟨b, off, none⟩) B.length c2) (x := x) h)
  have KR : Hid (∀ W, Below w.heap.size w W → W.cell? ⟨b, off + n, none⟩ = some (.int .i64 r)) := Lib.hid fun W h => (h.cell (p := ⟨b, off + n, none⟩) hlb).trans hc
  obtain ⟨k0, k1, k2, k3⟩ := HX.out _ (Below.refl _ _)
  have hnI : (n : Int) < (B.length : Int) := by omega
  have hn0 : (0 : Int) ≤ (n : Int) := Int.natCast_nonneg _
  have HHd := Lib.hid hd
  clear hs hc hq hm hcd hd hm2 hb hlb
  go_enter Tryd.func16, Tryd.ntmps16
  go_upto_region 9 with first
    | (go_at_call 49; ((with_reducible refine (HG.out _ HB.out hsA.out).mono ?_); rintro e w1 ⟨rfl, hb1⟩; clear k0 k1 k2 k3; obtain ⟨k0, k1, k2, k3⟩ := HX.out w1 hb1; have B1 := Lib.hid (bT HB.out hb1); have X1 := Lib.hid hb1; have hcR := KR.out w1 B1.out; clear hb1))
    | (go_at_call 50; ((with_reducible refine (HLn.out _).mono ?_); rintro e w2 ⟨rfl, rfl⟩))
    | (go_at_call 51; ((with_reducible refine (HP1.out _).mono ?_); rintro e w3 ⟨g, cap, rfl, ho3, hb3⟩; clear k0 k1 k2 k3; obtain ⟨k0, k1, k2, k3⟩ := HX.out w3 (bT X1.out hb3); have X3 := Lib.hid (bT X1.out hb3); have B3 := Lib.hid (bT B1.out hb3); clear hb3))
  have hsr := Lib.hid (own_src ho3)
  have hsrd := Lib.hid (Src8.below hsr.out (Below.refl _ w3).drew)
  clear ho3 hcR
  have KP : Hid (∀ W, Below w3.heap.size w3 W → W.cell? ⟨w.heap.size, 1, none⟩ = some (.int .i64 1)) := Lib.hid fun W h => (HX.out W (bT X3.out h)).2.1
  clear HG HX KR
  go_region_held3 (fun W => W.cell? ⟨w.heap.size, 1, none⟩ = some (.int .i64 1))
    (exact KP.out _ (by first | exact Below.refl _ _ | exact (Below.refl _ _).drew | exact X5.out))
    (first
      | (go_at_call 51; rw [HA2.out]; ((with_reducible refine (HP2.out _ _ _ (.inr hsrd.out)).mono ?_); rintro e w5 ⟨g5, cap5, rfl, ho5, hb5⟩; have X5 := Lib.hid ((Below.refl w3.heap.size w3).drew.trans hb5))))
  go_wp2
  go_ret2
  exact ⟨_, rfl, own8_re ho5 B3.out.size, B3.out.trans (X5.out.mono B3.out.size)⟩
set_option maxRecDepth 100000 in
set_option maxHeartbeats 8000000 in
theorem pcg_2 (i : Int) (r n : Nat) (a1 : Option Addr) (b off c1 c2 : Nat) (A B : List Int) (w : World) (hs : Sh w)
    (HG : Hid (∀ x, Below w.heap.size w x → Sh x → Calls Tryd.prog 49 #[.agg #[.int .i64 i, .int .i64 2, .slice a1 A.length c1, .slice (some ⟨b, off, none⟩) B.length c2]] x fun e w' => e = .returned (.bool true) ∧ Below x.heap.size x w'))
    (hn : n < B.length) (hr1 : r < 289) (hlb : b < w.heap.size) (hc : w.cell? ⟨b, off + n, none⟩ = some (.int .i64 r)) :
    Calls Tryd.prog 16 #[.agg #[.int .i64 i, .int .i64 2, .slice a1 A.length c1, .slice (some ⟨b, off, none⟩) B.length c2], .int .i64 n] w fun e w' => ∃ v, e = .returned (.tuple #[v, .int .i64 0]) ∧ Cr.Own w.heap.size w' v (cd 2 r) ∧ Below w.heap.size w w' := by
  obtain ⟨q, hq⟩ : ∃ q, r / 2 ^ 2 + 1 = q := ⟨_, rfl⟩
  have hq1 : 1 ≤ q := by omega
  have hq2 : q < 512 := by omega
  obtain ⟨m, hm⟩ : ∃ m, r % 2 ^ 2 = m := ⟨_, rfl⟩
  have hm2 : m < 2 ^ 2 := by rw [← hm]; exact Nat.mod_lt _ (by decide)
  have hcd : cd 2 r = bi (q : Int) (2 * dg q - 1) ++ bi (m : Int) 2 := by unfold cd; rw [hq, hm]
  rw [hcd]
  obtain ⟨d1, d2, d3⟩ := dg_bd q q Nat.lt_two_pow_self hq1
  have d4 := dg_le (d := 9) hq1 hq2
  obtain ⟨d, hd⟩ : ∃ d, dg q = d := ⟨_, rfl⟩
  rw [hd] at d1 d2 d3 d4 ⊢
  have HLn := Lib.hid (fun w => hd ▸ len_ok q hq1 (by omega) w)
  have HP1 : Hid (∀ w, Calls Tryd.prog 51 #[.slice none 0 0, .int .i64 (q : Int), .int .i64 (2 * (d : Int) - 1)] w fun e w' => ∃ g cap, e = .returned (.tuple #[.slice (some ⟨g, 0, none⟩) (2 * d - 1) cap, .int .i64 0]) ∧ Cr.Own w.heap.size w' (.slice (some ⟨g, 0, none⟩) (2 * d - 1) cap) (bi (q : Int) (2 * d - 1)) ∧ Below w.heap.size w w') := Lib.hid fun w => by
    have := put_src (q : Int) (2 * d - 1) w (v0 := .slice none 0 0) (zs := []) (.inl ⟨rfl, rfl⟩) (by simp) (by omega) (by omega) (by
      have a : (q : Int) < 2 ^ d := by exact_mod_cast d3
      have b : (2 : Int) ^ d ≤ 2 ^ (2 * d - 1) := by exact_mod_cast Nat.pow_le_pow_right (by decide) (by omega)
      omega)
    rw [show ((2 * d - 1 : Nat) : Int) = 2 * (d : Int) - 1 by omega] at this
    simpa using this
  have HP2 : Hid (∀ w g cap, Cr.Own w.heap.size w (.slice (some ⟨g, 0, none⟩) (2 * d - 1) cap) (bi (q : Int) (2 * d - 1)) ∨ Src8 w (.slice (some ⟨g, 0, none⟩) (2 * d - 1) cap) (bi (q : Int) (2 * d - 1)) → Calls Tryd.prog 51 #[.slice (some ⟨g, 0, none⟩) (2 * d - 1) cap, .int .i64 (m : Int), .int .i64 2] w fun e w' => ∃ g cap, e = .returned (.tuple #[.slice (some ⟨g, 0, none⟩) (2 * d - 1 + 2) cap, .int .i64 0]) ∧ Cr.Own w.heap.size w' (.slice (some ⟨g, 0, none⟩) (2 * d - 1 + 2) cap) (bi (q : Int) (2 * d - 1) ++ bi (m : Int) 2) ∧ Below w.heap.size w w') := Lib.hid fun w g cap h => by
    have := put_src (m : Int) 2 w (v0 := .slice (some ⟨g, 0, none⟩) (2 * d - 1) cap) (zs := bi (q : Int) (2 * d - 1)) (h.elim own_src id_) (by rw [bi_len]; omega) (by omega) (by omega) (by exact_mod_cast hm2)
    rwa [bi_len] at this
  have HA2 : Hid (bits BinOp.and IntKind.i64 (r : Int) (IntKind.i64.wrap (IntKind.i64.wrap 4 - 1)) = (m : Int)) := Lib.hid (by
    rw [show IntKind.i64.wrap (IntKind.i64.wrap 4 - 1) = 3 from by decide, and_3 r hr1]
    first | omega | (rw [← hm]; rfl))
  have hq' : (r : Int) / 4 + 1 = (q : Int) := by omega
  have hwr : IntKind.u64.wrap (q : Int) = (q : Int) := by simp [IntKind.wrap, IntKind.bits, IntKind.signed]; omega
  have hb := al w (.cells #[.int .i64 i, .int .i64 2, .slice a1 A.length c1, .slice (some ⟨b, off, none⟩) B.length c2] 24)
  have HB := Lib.hid hb
  have hsA := Lib.hid (hs.below hb)
  have HX := Lib.hid (fun x h => bx1 (w := w) (a := .int .i64 i) (b := .int .i64 2) (c := .slice a1 A.length c1) (d := .slice (some ⟨b, off, none⟩) B.length c2) (x := x) h)
  have KR : Hid (∀ W, Below w.heap.size w W → W.cell? ⟨b, off + n, none⟩ = some (.int .i64 r)) := Lib.hid fun W h => (h.cell (p := ⟨b, off + n, none⟩) hlb).trans hc
  obtain ⟨k0, k1, k2, k3⟩ := HX.out _ (Below.refl _ _)
  have hnI : (n : Int) < (B.length : Int) := by omega
  have hn0 : (0 : Int) ≤ (n : Int) := Int.natCast_nonneg _
  have HHd := Lib.hid hd
  clear hs hc hq hm hcd hd hm2 hb hlb
  go_enter Tryd.func16, Tryd.ntmps16
  go_upto_region 9 with first
    | (go_at_call 49; ((with_reducible refine (HG.out _ HB.out hsA.out).mono ?_); rintro e w1 ⟨rfl, hb1⟩; clear k0 k1 k2 k3; obtain ⟨k0, k1, k2, k3⟩ := HX.out w1 hb1; have B1 := Lib.hid (bT HB.out hb1); have X1 := Lib.hid hb1; have hcR := KR.out w1 B1.out; clear hb1))
    | (go_at_call 50; ((with_reducible refine (HLn.out _).mono ?_); rintro e w2 ⟨rfl, rfl⟩))
    | (go_at_call 51; ((with_reducible refine (HP1.out _).mono ?_); rintro e w3 ⟨g, cap, rfl, ho3, hb3⟩; clear k0 k1 k2 k3; obtain ⟨k0, k1, k2, k3⟩ := HX.out w3 (bT X1.out hb3); have X3 := Lib.hid (bT X1.out hb3); have B3 := Lib.hid (bT B1.out hb3); clear hb3))
  have hsr := Lib.hid (own_src ho3)
  have hsrd := Lib.hid (Src8.below hsr.out (Below.refl _ w3).drew)
  clear ho3 hcR
  have KP : Hid (∀ W, Below w3.heap.size w3 W → W.cell? ⟨w.heap.size, 1, none⟩ = some (.int .i64 2)) := Lib.hid fun W h => (HX.out W (bT X3.out h)).2.1
  clear HG HX KR
  go_region_held3 (fun W => W.cell? ⟨w.heap.size, 1, none⟩ = some (.int .i64 2))
    (exact KP.out _ (by first | exact Below.refl _ _ | exact (Below.refl _ _).drew | exact X5.out))
    (first
      | (go_at_call 51; rw [HA2.out]; ((with_reducible refine (HP2.out _ _ _ (.inr hsrd.out)).mono ?_); rintro e w5 ⟨g5, cap5, rfl, ho5, hb5⟩; have X5 := Lib.hid ((Below.refl w3.heap.size w3).drew.trans hb5))))
  go_wp2
  go_ret2
  exact ⟨_, rfl, own8_re ho5 B3.out.size, B3.out.trans (X5.out.mono B3.out.size)⟩
set_option maxRecDepth 100000 in
set_option maxHeartbeats 4000000 in
theorem pcd_any (i p n : Int) (a1 a2 : Option Addr) (c1 c2 : Nat) (A B : List Int) (w : World) (hs : Sh w) (r1 : Rd w (.slice a1 A.length c1) A) (r2 : Rd w (.slice a2 B.length c2) B) :
    Calls Tryd.prog 16 #[.agg #[.int .i64 i, .int .i64 p, .slice a1 A.length c1, .slice a2 B.length c2], .int .i64 n] w fun e w' => ∃ v, e = .returned (.tuple #[v, .int .i64 (cdX i p A B n)]) ∧ Cr.Own w.heap.size w' v (cdL i p A B n) ∧ Below w.heap.size w w' := by
  have hb := al w (.cells #[.int .i64 i, .int .i64 p, .slice a1 A.length c1, .slice a2 B.length c2] 24)
  have HB := Lib.hid hb
  have hsA := Lib.hid (hs.below hb)
  have HM := Lib.hid (fun x (h : Below w.heap.size w x) (hs : Sh x) => gen_any i p a1 a2 c1 c2 A B x hs (rd_RdA (r1.below h)) (rd_RdA (r2.below h)))
  have HX := Lib.hid (fun x h => bx1 (w := w) (a := .int .i64 i) (b := .int .i64 p) (c := .slice a1 A.length c1) (d := .slice a2 B.length c2) (x := x) h)
  obtain ⟨p0, p1, p2, p3⟩ := HX.out _ (Below.refl _ _)
  clear hb
  unfold cdX cdL
  by_cases hk : IsBk i p A B
  · rw [if_pos hk, if_pos hk]
    rw [decide_eq_true hk] at HM
    by_cases hn : 0 ≤ n ∧ n < (B.length : Int)
    · rw [if_pos hn, if_pos hn]
      obtain ⟨m, rfl⟩ : ∃ m : Nat, n = (m : Int) := ⟨n.toNat, by omega⟩
      rw [Int.toNat_natCast]
      have hm : m < B.length := by omega
      obtain ⟨b, off, e, hlb, hc⟩ := rd_at r2 hm
      subst e
      obtain ⟨r, hr, hr289⟩ : ∃ r : Nat, B.getD m 0 = (r : Int) ∧ r < 289 := by
        obtain ⟨id, _, h1, h2, _, _, rfl⟩ := hk
        rw [rkL_len] at hm
        exact ⟨rk id m, rkL_get hm, Nat.lt_of_lt_of_le ((ord_is h1 h2).rank hm).1 (facts h1 h2).2.2.2.2.2.2.2.1⟩
      obtain ⟨q, rfl, hq⟩ : ∃ q : Nat, p = (q : Int) ∧ q ≤ 2 := by
        obtain ⟨id, _, h1, h2, rfl, _, _⟩ := hk
        exact ⟨pl id, rfl, (facts h1 h2).2.2.2.2.2.1⟩
      rw [hr] at hc ⊢
      rw [Int.toNat_natCast, Int.toNat_natCast]
      have : q = 0 ∨ q = 1 ∨ q = 2 := by omega
      rcases this with rfl | rfl | rfl
      · exact pcg_0 i r m a1 b off c1 c2 A B w hs HM hm hr289 hlb hc
      · exact pcg_1 i r m a1 b off c1 c2 A B w hs HM hm hr289 hlb hc
      · exact pcg_2 i r m a1 b off c1 c2 A B w hs HM hm hr289 hlb hc
    · rw [if_neg hn, if_neg hn]
      clear hk r1 r2 hs
      by_cases h0 : n < 0
      · clear hn
        go_enter Tryd.func16, Tryd.ntmps16
        go_wp2_with (go_at_call 49; ((with_reducible refine (HM.out _ HB.out hsA.out).mono ?_); rintro e w1 ⟨rfl, hb1⟩; clear p0 p1 p2 p3; have hb2 := Lib.hid (bT HB.out hb1); obtain ⟨p0, p1, p2, p3⟩ := HX.out w1 hb1; clear hb1))
        go_ret2
        exact ⟨_, rfl, own8_nil _ _, hb2.out⟩
      · have h1 : (B.length : Int) ≤ n := by omega
        clear hn
        go_enter Tryd.func16, Tryd.ntmps16
        go_wp2_with (go_at_call 49; ((with_reducible refine (HM.out _ HB.out hsA.out).mono ?_); rintro e w1 ⟨rfl, hb1⟩; clear p0 p1 p2 p3; have hb2 := Lib.hid (bT HB.out hb1); obtain ⟨p0, p1, p2, p3⟩ := HX.out w1 hb1; clear hb1))
        go_ret2
        exact ⟨_, rfl, own8_nil _ _, hb2.out⟩
  · rw [if_neg hk, if_neg hk]
    rw [decide_eq_false hk] at HM
    clear hk r1 r2 hs
    go_enter Tryd.func16, Tryd.ntmps16
    go_wp2_with (go_at_call 49; ((with_reducible refine (HM.out _ HB.out hsA.out).mono ?_); rintro e w1 ⟨rfl, hb1⟩; have hb2 := Lib.hid (bT HB.out hb1); clear hb1))
    go_ret2
    exact ⟨_, rfl, own8_nil _ _, hb2.out⟩

end Go.Proofs.YteklahfgplbmcaaDoor.BkRf
