/- What mdct's own functions do. -/
import Derived.Test.YteknakakefhbmaaLst
import Derived.Test.YteknakakefhbmaaMdMath
import Derived.WalkKit
import Derived.Below
import Derived.RegionTactic
import Derived.Deep.QuietTactic
import Derived.BigQuiet
import Derived.ChangeAlike
import Derived.Deep.OwnRows
import Derived.ProofKit
import Derived.OpenShut
import Derived.Lib.Hide
namespace Go.Proofs.Yteknakakefhbmaa.Md
open Go Go.ChangeShapes Go.WideShapes Go.ChangeAt Go.RowKit Go.Proofs.Yteknakakefhbmaa.Fx Go.Proofs.Yteknakakefhbmaa.Mm

theorem belowT {a b c : World} (h : Below a.heap.size a b) (k : Below b.heap.size b c) : Below a.heap.size a c := h.trans (k.mono h.size)
/-- All of a list are so many at most. -/
def InM (M : Int) (zs : List Int) : Prop := ∀ j, j < zs.length → -M ≤ zs.getD j 0 ∧ zs.getD j 0 ≤ M
theorem not_inM {M : Int} {zs : List Int} (h : ¬ InM M zs) : ∃ j, j < zs.length ∧ ¬ (-M ≤ zs.getD j 0 ∧ zs.getD j 0 ≤ M) ∧ ∀ i, i < j → -M ≤ zs.getD i 0 ∧ zs.getD i 0 ≤ M := by
  have key : ∀ n, n ≤ zs.length → (∀ i, i < n → -M ≤ zs.getD i 0 ∧ zs.getD i 0 ≤ M) ∨ ∃ j, j < zs.length ∧ ¬ (-M ≤ zs.getD j 0 ∧ zs.getD j 0 ≤ M) ∧ ∀ i, i < j → -M ≤ zs.getD i 0 ∧ zs.getD i 0 ≤ M := by
    intro n
    induction n with
    | zero => intro _; exact .inl fun i hi => by omega
    | succ n ih =>
      intro hn
      rcases ih (by omega) with a | a
      · by_cases c : -M ≤ zs.getD n 0 ∧ zs.getD n 0 ≤ M
        · exact .inl fun i hi => by
            by_cases e : i = n
            · subst e; exact c
            · exact a i (by omega)
        · exact .inr ⟨n, by omega, c, a⟩
      · exact .inr a
  rcases key zs.length (Nat.le_refl _) with a | a
  · exact absurd a h
  · exact a
theorem within_yes (A : Option Addr) (cap : Nat) (zs : List Int) (M : Int) (w : World) (hl : zs.length ≤ 1000) (h : RdA w A zs) (hM : InM M zs) (m0 : 0 ≤ M) (m1 : M ≤ 268435455) : Calls Try.prog 49 #[.slice A zs.length cap, .int .i64 M] w fun e w' => e = .returned (.bool true) ∧ w = w' := by
  have HR := Lib.hid h
  have HM := Lib.hid hM
  clear h hM
  go_enter Try.func49, Try.ntmps49
  go_wp2
  go_loop [9] (fun i => ∃ k : Nat, k ≤ zs.length ∧ i = .int .i64 k) (fun i => zs.length - (intOf i).toNat)
  case atStart => exact ⟨0, by omega, rfl⟩
  case round =>
    obtain ⟨k, hk, rfl⟩ := hrel
    by_cases hlt : k < zs.length
    · obtain ⟨b, off, rfl, hlb, c⟩ := HR.out k hlt
      obtain ⟨x0, x1⟩ := HM.out k hlt
      generalize zs.getD k 0 = X at *
      go_wp2
      go_round
      case rel => exact ⟨k + 1, by omega, by go_num⟩
      case measure => simp [intOf]; omega
    · have hlt2 : ¬ (k : Int) < zs.length := by omega
      go_wp2
      go_ret
      exact ⟨rfl, rfl⟩
theorem within_no (A : Option Addr) (cap : Nat) (zs : List Int) (M : Int) (w : World) (hl : zs.length ≤ 1000) (h : RdA w A zs) (hM : ¬ InM M zs) (m0 : 0 ≤ M) (m1 : M ≤ 268435455) : Calls Try.prog 49 #[.slice A zs.length cap, .int .i64 M] w fun e w' => e = .returned (.bool false) ∧ w = w' := by
  have HR := Lib.hid h
  obtain ⟨j, hj, hbad, hok⟩ := not_inM hM
  have HM := Lib.hid hok
  have HB := Lib.hid hbad
  clear h hM hok hbad
  go_enter Try.func49, Try.ntmps49
  go_wp2
  go_loop [9] (fun i => ∃ k : Nat, k ≤ j ∧ i = .int .i64 k) (fun i => zs.length - (intOf i).toNat)
  case atStart => exact ⟨0, by omega, rfl⟩
  case round =>
    obtain ⟨k, hk, rfl⟩ := hrel
    obtain ⟨b, off, rfl, hlb, c⟩ := HR.out k (by omega)
    have hlt : k < zs.length := by omega
    by_cases hkj : k < j
    · obtain ⟨x0, x1⟩ := HM.out k hkj
      generalize zs.getD k 0 = X at *
      go_wp2
      go_round
      case rel => exact ⟨k + 1, by omega, by go_num⟩
      case measure => simp [intOf]; omega
    · have hkj2 : k = j := by omega
      subst hkj2
      have hb := HB.out
      clear HB
      generalize zs.getD k 0 = X at *
      by_cases c1 : X < -M
      · clear hb
        go_wp2
        go_ret
        exact ⟨rfl, rfl⟩
      · have c2 : M < X := by omega
        clear hb
        go_wp2
        go_ret
        exact ⟨rfl, rfl⟩
theorem scale_ok (m s : Int) (w : World) (h : Sz m s) : Calls Try.prog 50 #[.int .i64 m] w fun e w' => e = .returned (.int .i64 s) ∧ w = w' := by
  rcases h with ⟨rfl, rfl⟩ | ⟨rfl, rfl⟩
  all_goals
    go_enter Try.func50, Try.ntmps50
    go_wp2
    go_ret
    exact ⟨rfl, rfl⟩
theorem and_i64 {x y : Int} (h0 : 0 ≤ x) (h1 : x < 2 ^ 63) (h2 : 0 ≤ y) (h3 : y < 2 ^ 63) : bits .and .i64 x y = ((x.toNat &&& y.toNat : Nat) : Int) := by
  have a1 : (BitVec.ofInt IntKind.i64.bits x).toNat = x.toNat := ofInt_nat h0 (show x < 2 ^ 64 by omega)
  have a2 : (BitVec.ofInt IntKind.i64.bits y).toNat = y.toNat := ofInt_nat h2 (show y < 2 ^ 64 by omega)
  have e : bits .and .i64 x y = IntKind.i64.wrap (((BitVec.ofInt IntKind.i64.bits x &&& BitVec.ofInt IntKind.i64.bits y).toNat : Nat) : Int) := rfl
  rw [e, BitVec.toNat_and, a1, a2]
  have : x.toNat &&& y.toNat ≤ x.toNat := Nat.and_le_left
  simp [IntKind.wrap, IntKind.bits, IntKind.signed]
  omega
theorem and_2047 {x : Int} (h0 : 0 ≤ x) (h1 : x ≤ 1099511627776) : bits .and .i64 x 2047 = x % 2048 := by
  rw [and_i64 h0 (by omega) (by omega) (by omega)]
  have : x.toNat &&& (2047 : Int).toNat = x.toNat % 2048 := Nat.and_two_pow_sub_one_eq_mod x.toNat 11
  rw [this]
  omega
/-- What the sums read. -/
def Cap (w : World) (bx bc : Nat) (s : Int) : Prop := w.cell? ⟨bx, 0, none⟩ = some (.pointer (some ⟨bc, 0, none⟩)) ∧ w.rowIs bc 79 2048 (fun j => .int .i64 (tb s j)) ∧ bx < w.heap.size
theorem Cap.below {w w' : World} {bx bc : Nat} {s : Int} (h : Cap w bx bc s) (hb : Below w.heap.size w w') : Cap w' bx bc s :=
  ⟨(hb.cell (p := ⟨bx, 0, none⟩) h.2.2).trans h.1, h.2.1.of_block (hb.block _ h.2.1.lt), Nat.lt_of_lt_of_le h.2.2 hb.size⟩
set_option maxRecDepth 100000 in
set_option maxHeartbeats 2000000 in
theorem sums_ok (A : Option Addr) (cap : Nat) (zs : List Int) (arc st s : Int) (c : Nat → Int) (bx bc : Nat) (w : World) (hl : zs.length ≤ 1000) (h : RdA w A zs) (hcap : Cap w bx bc s) (hs : s = 1 ∨ s = 8)
    (ha : ∀ j : Nat, j ≤ zs.length → 0 ≤ arc + j * st ∧ arc + j * st ≤ 1099511627776) (hm : ∀ j : Nat, j < zs.length → (arc + j * st) % (2 * s) = s ∧ c j = cosF (arc + j * st))
    (hc : ∀ j, -67108864 ≤ c j ∧ c j ≤ 67108864) (hz : InM 268435455 zs) (hd : ∀ k, k ≤ zs.length → -4611686018427387904 ≤ ds (fun n => zs.getD n 0) c k ∧ ds (fun n => zs.getD n 0) c k ≤ 4611686018427387904) :
    Calls Try.prog 68 #[.slice A zs.length cap, .int .i64 arc, .int .i64 st, .pointer (some ⟨bx, 0, none⟩)] w fun e w' => e = .returned (.int .i64 (ds (fun n => zs.getD n 0) c zs.length)) ∧ w = w' := by
  have HR := Lib.hid h
  have HZ := Lib.hid hz
  have HA := Lib.hid ha
  have HM := Lib.hid hm
  have HC := Lib.hid hc
  have HD := Lib.hid hd
  have cb := hcap.1
  have HT := Lib.hid hcap.2.1
  clear h hz ha hm hc hd hcap
  go_enter Try.func68, Try.ntmps68
  go_wp2
  go_loop [1, 8, 13] (fun a t i => ∃ k : Nat, k ≤ zs.length ∧ i = .int .i64 k ∧ a = .int .i64 (arc + k * st) ∧ t = .int .i64 (ds (fun n => zs.getD n 0) c k)) (fun _ _ i => zs.length - (intOf i).toNat)
  case atStart => exact ⟨0, by omega, rfl, by simp, rfl⟩
  case round =>
    obtain ⟨k, hk, rfl, rfl, rfl⟩ := hrel
    by_cases hlt : k < zs.length
    · obtain ⟨b, off, rfl, hlb, cz⟩ := HR.out k hlt
      obtain ⟨x0, x1⟩ := HZ.out k hlt
      obtain ⟨a0, a1⟩ := HA.out k hk
      have a23 := HA.out (k + 1) hlt
      have hnx : arc + ((k + 1 : Nat) : Int) * st = arc + (k : Int) * st + st := by rw [show ((k + 1 : Nat) : Int) = (k : Int) + 1 by omega, Int.add_mul]; omega
      rw [hnx] at a23
      obtain ⟨a2, a3⟩ := a23
      obtain ⟨m0, m1⟩ := HM.out k hlt
      have d0 := HD.out k hk
      have d1 := HD.out (k + 1) hlt
      have hds : ds (fun n => zs.getD n 0) c (k + 1) = ds (fun n => zs.getD n 0) c k + zs.getD k 0 * c k := rfl
      have hpb := prod_bd (M := 268435455) x0 x1 (HC.out k).1 (HC.out k).2
      obtain ⟨i, hi⟩ : ∃ i : Nat, (arc + (k : Int) * st) % 2048 = (i : Int) := ⟨((arc + (k : Int) * st) % 2048).toNat, by omega⟩
      have hi2 : i < 2048 := by omega
      have e1 : bits BinOp.and IntKind.i64 (arc + (k : Int) * st) 2047 = (i : Int) := by rw [and_2047 a0 a1]; exact hi
      have ct := HT.out.cell hi2
      have htb := tb_at hs m0
      rw [hi, show ((i : Int)).toNat = i by omega, ← m1] at htb
      rw [htb] at ct
      rw [hds] at d1
      have HDS := Lib.hid hds
      have HNX := Lib.hid hnx
      clear hds hnx htb m0 m1 hi
      generalize c k = C at *
      generalize zs.getD k 0 = X at *
      generalize ds (fun n => zs.getD n 0) c k = S at *
      generalize arc + (k : Int) * st = a at *
      obtain ⟨p, hp⟩ : ∃ p, X * C = p := ⟨_, rfl⟩
      rw [hp] at hpb d1 HDS
      obtain ⟨p0, p1⟩ := hpb
      obtain ⟨d2, d3⟩ := d1
      obtain ⟨d4, d5⟩ := d0
      go_wp2
      go_round
      case rel => exact ⟨k + 1, by omega, by go_num, by rw [HNX.out], by rw [HDS.out]⟩
      case measure => simp [intOf]; omega
    · have hend : k = zs.length := by omega
      have hlt2 : ¬ (k : Int) < zs.length := by omega
      rw [← hend]
      go_wp2
      go_ret
      exact ⟨rfl, rfl⟩
end Go.Proofs.Yteknakakefhbmaa.Md
