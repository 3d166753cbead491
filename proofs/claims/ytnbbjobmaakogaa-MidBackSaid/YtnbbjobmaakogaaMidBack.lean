/- What is split, and joined, is as it was, but for one. MidBack returns true, whatever the two lists, the memory and the schedule. No condition. -/
import Derived.Test.YtnbbjobmaakogaaMdOk
import Derived.WalkKit
import Derived.OwnWalk
import Derived.Deep.QuietTactic
import Derived.BigQuiet
import Derived.ProofKit
import Derived.OpenShut
import Derived.ShutString
import Derived.ChangeOld
import Derived.Below
import Derived.Lib.Hide
import Derived.Test.YtnbbjobmaakogaaLoUni
namespace Go.Proofs.Ytnbbjobmaakogaa.midBack
open Go Go.ChangeShapes Go.WideShapes Go.ChangeAt Go.RowKit Go.Proofs.Ytnbbjobmaakogaa.Lo Go.Proofs.Ytnbbjobmaakogaa.Md

theorem drewN_below (w : World) : ∀ n, Below w.heap.size w (w.drewN n)
  | 0 => Below.refl _ _
  | n + 1 => (drewN_below w n).drew
theorem num_m {a b : Int} (a0 : -268435455 ≤ a) (a1 : a ≤ 268435455) (b0 : -268435455 ≤ b) (b1 : b ≤ 268435455) : kept (half (a + b)) = (a + b + 1) / 2 := by unfold half; exact kept_same (by omega) (by omega)
theorem num_s {a b : Int} (a0 : -268435455 ≤ a) (a1 : a ≤ 268435455) (b0 : -268435455 ≤ b) (b1 : b ≤ 268435455) : kept (half (a - b)) = (a - b + 1) / 2 := by unfold half; exact kept_same (by omega) (by omega)
theorem num_x {a b : Int} (a0 : -268435455 ≤ a) (a1 : a ≤ 268435455) (b0 : -268435455 ≤ b) (b1 : b ≤ 268435455) : kept (kept (half (a + b)) + kept (half (a - b))) = if 268435455 < a + (a + b) % 2 then 268435455 else a + (a + b) % 2 := by
  rw [num_m a0 a1 b0 b1, num_s a0 a1 b0 b1, show (a + b + 1) / 2 + (a - b + 1) / 2 = a + (a + b) % 2 by omega]
  unfold kept
  rw [if_neg (by omega)]
theorem num_y {a b : Int} (a0 : -268435455 ≤ a) (a1 : a ≤ 268435455) (b0 : -268435455 ≤ b) (b1 : b ≤ 268435455) : kept (kept (half (a + b)) - kept (half (a - b))) = b := by
  rw [num_m a0 a1 b0 b1, num_s a0 a1 b0 b1, show (a + b + 1) / 2 - (a - b + 1) / 2 = b by omega]
  exact kept_same b0 b1
def Wide (a b : Int) : Prop := -268435455 ≤ a + b ∧ a + b ≤ 268435455 ∧ -268435455 ≤ a - b ∧ a - b ≤ 268435455
theorem num_p {a b : Int} (h : Wide a b) (a0 : -268435455 ≤ a) (a1 : a ≤ 268435455) : kept (half (kept (a + b) + kept (a - b))) = a := by
  obtain ⟨h0, h1, h2, h3⟩ := h
  rw [kept_same h0 h1, kept_same h2 h3]
  unfold half
  rw [show (a + b + (a - b) + 1) / 2 = a by omega]
  exact kept_same a0 a1
theorem num_q {a b : Int} (h : Wide a b) (b0 : -268435455 ≤ b) (b1 : b ≤ 268435455) : kept (half (kept (a + b) - kept (a - b))) = b := by
  obtain ⟨h0, h1, h2, h3⟩ := h
  rw [kept_same h0 h1, kept_same h2 h3]
  unfold half
  rw [show (a + b - (a - b) + 1) / 2 = b by omega]
  exact kept_same b0 b1
theorem and_odd (x : Int) : bits .and .i64 x 1 = x % 2 := by
  have e : bits .and .i64 x 1 = IntKind.i64.wrap (((BitVec.ofInt IntKind.i64.bits x &&& BitVec.ofInt IntKind.i64.bits 1).toNat : Nat) : Int) := rfl
  have h1 : (BitVec.ofInt IntKind.i64.bits x).toNat = (x % 18446744073709551616).toNat := by rw [BitVec.toNat_ofInt]; rfl
  have h2 : (BitVec.ofInt IntKind.i64.bits 1).toNat = 1 := by decide
  rw [e, BitVec.toNat_and, h1, h2, Nat.and_one_is_mod, IntKind.wrap_i64]
  omega

set_option maxRecDepth 100000 in
theorem err (l0 l1 : Nat) (a0 a1 : Option Addr) (c0 c1 : Nat) (r : Int) (w : World) (m0 : l0 ≤ 1000) (m1 : l1 ≤ 1000) (_ : 2 ≤ r) (_ : r ≤ 4)
    (hS : ∀ w1, Below w.heap.size w w1 → Calls Try.prog 22 #[.slice a0 l0 c0, .slice a1 l1 c1] w1 fun e w' => e = .returned (.tuple #[.slice none 0 0, .slice none 0 0, .int .i64 r]) ∧ Below w1.heap.size w1 w')
    (hJ : ∀ w1, Below w.heap.size w w1 → Calls Try.prog 24 #[.slice a0 l0 c0, .slice a1 l1 c1] w1 fun e w' => e = .returned (.tuple #[.slice none 0 0, .slice none 0 0, .int .i64 r]) ∧ Below w1.heap.size w1 w') :
    Calls Try.prog 8 #[.slice a0 l0 c0, .slice a1 l1 c1] w fun e w' => e = .returned (.bool true) ∧ Below w.heap.size w w' := by
  have HS := Lib.hid hS
  have HJ := Lib.hid hJ
  have r1 : (r != 0) = true := by simp; omega
  clear hS hJ
  go_enter Try.func8, Try.ntmps8
  go_wp2_with (first
    | (go_at_call 27; ((with_reducible refine (md_alive _).mono ?_); rintro e w1 ⟨rfl, hb1⟩))
    | (go_at_call 22; ((with_reducible refine (HS.out _ hb1).mono ?_); rintro e w2 ⟨rfl, hb2⟩))
    | (go_at_call 24; ((with_reducible refine (HJ.out _ (belowT hb1 hb2)).mono ?_); rintro e w3 ⟨rfl, hb3⟩)))
  go_ret
  exact ⟨rfl, belowT hb1 (belowT hb2 hb3)⟩
set_option maxRecDepth 100000 in
theorem long (a0 a1 : Option Addr) (l0 l1 c0 c1 : Nat) (w : World) (m0 : l0 ≤ maxLen) (m1 : l1 ≤ maxLen) (h : 1000 < l0 ∨ 1000 < l1) :
    Calls Try.prog 8 #[.slice a0 l0 c0, .slice a1 l1 c1] w fun e w' => e = .returned (.bool true) ∧ Below w.heap.size w w' := by
  unfold maxLen at m0 m1
  by_cases h0 : 1000 < l0
  · go_enter Try.func8, Try.ntmps8
    go_wp2_with (go_at_call 27; ((with_reducible refine (md_alive _).mono ?_); rintro e w1 ⟨rfl, hb1⟩))
    go_ret
    exact ⟨rfl, hb1⟩
  · have h1 : 1000 < l1 := by omega
    clear h
    go_enter Try.func8, Try.ntmps8
    go_wp2_with (go_at_call 27; ((with_reducible refine (md_alive _).mono ?_); rintro e w1 ⟨rfl, hb1⟩))
    go_ret
    exact ⟨rfl, hb1⟩

def mx (x y : Int) : Int := if y > x then y else x
theorem max4 (ats : Array TypeId) (ty : TypeId) (a b c d : Int) : Builtin.max_ ats ty #[.int .i64 a, .int .i64 b, .int .i64 c, .int .i64 d] = pure (.int .i64 (mx (mx (mx a b) c) d)) := by
  simp [Builtin.max_, Builtin.max2, mx]
theorem mx_le {x y M : Int} : mx x y ≤ M ↔ x ≤ M ∧ y ≤ M := by unfold mx; split <;> omega
theorem wide_of {a b : Int} (h : mx (mx (mx (a + b) (-(a + b))) (a - b)) (-(a - b)) ≤ 268435455) : Wide a b := by
  rw [mx_le, mx_le, mx_le] at h
  exact ⟨by omega, by omega, by omega, by omega⟩
def Cs (w : World) (l : List (Addr × Int)) : Prop := ∀ x ∈ l, x.1.block < w.heap.size ∧ w.cell? x.1 = some (.int .i64 x.2)
theorem Cs.below {w w' : World} {l : List (Addr × Int)} (h : Cs w l) (hb : Below w.heap.size w w') : Cs w' l := fun x hx => ⟨Nat.lt_of_lt_of_le (h x hx).1 hb.size, (hb.cell (h x hx).1).trans (h x hx).2⟩
theorem cs_nil (w : World) : Cs w [] := fun x hx => by cases hx
theorem cs_cons {w : World} {p : Addr} {v : Int} {l : List (Addr × Int)} (h1 : p.block < w.heap.size) (h2 : w.cell? p = some (.int .i64 v)) (h3 : Cs w l) : Cs w ((p, v) :: l) := fun x hx => by
  cases hx with
  | head => exact ⟨h1, h2⟩
  | tail _ h => exact h3 x h

set_option maxRecDepth 100000 in
set_option maxHeartbeats 8000000 in
theorem good (A0 A1 : Option Addr) (c0 c1 n : Nat) (za zb : List Int) (w : World) (hf : Fit za zb n) (ra : Rd w (.slice A0 n c0) za) (rb : Rd w (.slice A1 n c1) zb)
    (hsh : n ≠ 0 → ∃ b off b' off', A0 = some ⟨b, off, none⟩ ∧ A1 = some ⟨b', off', none⟩ ∧ b < w.heap.size ∧ b' < w.heap.size ∧ (∀ i, i < n → w.cell? ⟨b, off + i, none⟩ = some (.int .i64 (za.getD i 0))) ∧ (∀ i, i < n → w.cell? ⟨b', off' + i, none⟩ = some (.int .i64 (zb.getD i 0)))) :
    Calls Try.prog 8 #[.slice A0 n c0, .slice A1 n c1] w fun e w' => e = .returned (.bool true) ∧ Below w.heap.size w w' := by
  have hf' := hf
  obtain ⟨la, lb, hn, ia, ib⟩ := hf'
  have HF := Lib.hid hf
  have RA := Lib.hid ra
  have RB := Lib.hid rb
  have IA := Lib.hid ia
  have IB := Lib.hid ib
  have LA := Lib.hid la
  have LB := Lib.hid lb
  have HSh := Lib.hid hsh
  obtain ⟨m, hm⟩ : ∃ F : Nat → Int, F = fun j => kept (half (za.getD j 0 + zb.getD j 0)) := ⟨_, rfl⟩
  obtain ⟨s, hs⟩ : ∃ F : Nat → Int, F = fun j => kept (half (za.getD j 0 - zb.getD j 0)) := ⟨_, rfl⟩
  obtain ⟨l, hl⟩ : ∃ F : Nat → Int, F = fun j => kept (za.getD j 0 + zb.getD j 0) := ⟨_, rfl⟩
  obtain ⟨r, hr⟩ : ∃ F : Nat → Int, F = fun j => kept (za.getD j 0 - zb.getD j 0) := ⟨_, rfl⟩
  have HS : Hid (∀ w1, Below w.heap.size w w1 → Calls Try.prog 22 #[.slice A0 n c0, .slice A1 n c1] w1 (Two w1 n m s)) := Lib.hid fun w1 hw => by rw [hm, hs]; exact split_ok _ _ za zb n w1 hf (ra.below hw) (rb.below hw)
  have HJ : Hid (∀ w1, Below w.heap.size w w1 → Calls Try.prog 24 #[.slice A0 n c0, .slice A1 n c1] w1 (Two w1 n l r)) := Lib.hid fun w1 hw => by rw [hl, hr]; exact join_ok _ _ za zb n w1 hf (ra.below hw) (rb.below hw)
  have f1 : Fit (mk n m) (mk n s) n := ⟨mk_len _ _, mk_len _ _, hn, mk_in fun j => by rw [hm]; exact kept_bd _, mk_in fun j => by rw [hs]; exact kept_bd _⟩
  have f2 : Fit (mk n l) (mk n r) n := ⟨mk_len _ _, mk_len _ _, hn, mk_in fun j => by rw [hl]; exact kept_bd _, mk_in fun j => by rw [hr]; exact kept_bd _⟩
  have HJ2 : Hid (∀ (v v' : Value) w1, Rd w1 v (mk n m) → Rd w1 v' (mk n s) → Calls Try.prog 24 #[v, v'] w1 (Two w1 n (fun j => kept ((mk n m).getD j 0 + (mk n s).getD j 0)) (fun j => kept ((mk n m).getD j 0 - (mk n s).getD j 0)))) := Lib.hid fun v v' w1 h1 h2 => join_ok v v' _ _ n w1 f1 h1 h2
  have HS2 : Hid (∀ (v v' : Value) w1, Rd w1 v (mk n l) → Rd w1 v' (mk n r) → Calls Try.prog 22 #[v, v'] w1 (Two w1 n (fun j => kept (half ((mk n l).getD j 0 + (mk n r).getD j 0))) (fun j => kept (half ((mk n l).getD j 0 - (mk n r).getD j 0))))) := Lib.hid fun v v' w1 h1 h2 => split_ok v v' _ _ n w1 f2 h1 h2
  have HM := Lib.hid hm
  have HSs := Lib.hid hs
  have HL := Lib.hid hl
  have HR := Lib.hid hr
  clear hm hs hl hr f1 f2 hf ra rb ia ib la lb hsh
  go_enter Try.func8, Try.ntmps8
  go_wp2_with (first
    | (go_at_call 27; ((with_reducible refine (md_alive _).mono ?_); rintro e w1 ⟨rfl, hb1⟩))
    | (go_at_call 22; ((with_reducible refine (HS.out _ hb1).mono ?_); rintro e w2 ⟨gm, gs, rfl, _, rm', rs', hb2⟩; have rm := Lib.hid rm'; have rs := Lib.hid rs'; clear rm' rs'; have hb12 := belowT hb1 hb2))
    | (go_at_call 24; ((with_reducible refine (HJ.out _ hb12).mono ?_); rintro e w3 ⟨gl, gr, rfl, _, rl', rr', hb3⟩; have rl := Lib.hid rl'; have rr := Lib.hid rr'; clear rl' rr'; have hb13 := belowT hb12 hb3; have rm3 := Lib.hid (rm.out.of_block (hb3.block _ rm.out.lt)); have rs3 := Lib.hid (rs.out.of_block (hb3.block _ rs.out.lt))))
    | (go_at_call 24; ((with_reducible refine (HJ2.out _ _ _ (mk_rd rm3.out hn) (mk_rd rs3.out hn)).mono ?_); rintro e w4 ⟨gx, gy, rfl, _, rx', ry', hb4⟩; have rx := Lib.hid rx'; have ry := Lib.hid ry'; clear rx' ry'; have hb14 := belowT hb13 hb4; have rl4 := Lib.hid (rl.out.of_block (hb4.block _ rl.out.lt)); have rr4 := Lib.hid (rr.out.of_block (hb4.block _ rr.out.lt))))
    | (go_at_call 22; ((with_reducible refine (HS2.out _ _ _ (mk_rd rl4.out hn) (mk_rd rr4.out hn)).mono ?_); rintro e w5 ⟨gp, gq, rfl, _, rp', rq', hb5⟩; have rp := Lib.hid rp'; have rq := Lib.hid rq'; clear rp' rq'; have hb15 := belowT hb14 hb5; have hb35 := belowT hb4 hb5)))
  go_loopw [18, 19, 20, 21] (fun i _ _ _ wr => ∃ k : Nat, k ≤ n ∧ i = .int .i64 k ∧ Below w5.heap.size w5 wr) (fun i _ _ _ _ => n - (intOf i).toNat)
  case atStart => exact ⟨0, by omega, rfl, Below.refl _ _⟩
  case round =>
    obtain ⟨k, hk, rfl, hbel⟩ := hrel
    by_cases hlt : k < n
    · obtain ⟨B0, O0, B1, O1, rfl, rfl, kb0, kb1, cb0, cb1⟩ := HSh.out (by omega)
      have xa := IA.out (za.getD k 0) (by simp [LA.out, hlt])
      have xb := IB.out (zb.getD k 0) (by simp [LB.out, hlt])
      have hw0 := belowT hb15 hbel
      have p0 := (hw0.cell (p := ⟨B0, O0 + k, none⟩) kb0).trans (cb0 k hlt)
      have p1 := (hw0.cell (p := ⟨B1, O1 + k, none⟩) kb1).trans (cb1 k hlt)
      have s0 := Nat.lt_of_lt_of_le kb0 hw0.size
      have s1 := Nat.lt_of_lt_of_le kb1 hw0.size
      have w3r := belowT hb35 hbel
      have w4r := belowT hb5 hbel
      have R2 := rm3.out.of_block (w3r.block _ rm3.out.lt)
      have R3 := rs3.out.of_block (w3r.block _ rs3.out.lt)
      have R4 := rx.out.of_block (w4r.block _ rx.out.lt)
      have R5 := ry.out.of_block (w4r.block _ ry.out.lt)
      have R6 := rp.out.of_block (hbel.block _ rp.out.lt)
      have R7 := rq.out.of_block (hbel.block _ rq.out.lt)
      have p2 := R2.cell hlt
      have p3 := R3.cell hlt
      have p4 := R4.cell hlt
      have p5 := R5.cell hlt
      have p6 := R6.cell hlt
      have p7 := R7.cell hlt
      have em : m k = kept (half (za.getD k 0 + zb.getD k 0)) := by rw [HM.out]
      have es : s k = kept (half (za.getD k 0 - zb.getD k 0)) := by rw [HSs.out]
      have el : l k = kept (za.getD k 0 + zb.getD k 0) := by rw [HL.out]
      have er : r k = kept (za.getD k 0 - zb.getD k 0) := by rw [HR.out]
      rw [mk_at hlt, mk_at hlt] at p4 p5 p6 p7
      rw [em] at p2
      rw [es] at p3
      rw [em, es] at p4 p5
      rw [el, er] at p6 p7
      clear em es el er
      obtain ⟨a, ha⟩ : ∃ a, za.getD k 0 = a := ⟨_, rfl⟩
      obtain ⟨b, hb⟩ : ∃ b, zb.getD k 0 = b := ⟨_, rfl⟩
      rw [ha] at xa p0 p2 p3 p4 p5 p6 p7
      rw [hb] at xb p1 p2 p3 p4 p5 p6 p7
      clear ha hb cb0 cb1
      obtain ⟨a0, a1⟩ := xa
      obtain ⟨b0, b1⟩ := xb
      rw [num_x a0 a1 b0 b1] at p4
      rw [num_y a0 a1 b0 b1] at p5
      rw [num_m a0 a1 b0 b1] at p2
      rw [num_s a0 a1 b0 b1] at p3
      have hand := and_odd (a + b)
      have hP : Wide a b → kept (half (kept (a + b) + kept (a - b))) = a := fun h => num_p h a0 a1
      have hQ : Wide a b → kept (half (kept (a + b) - kept (a - b))) = b := fun h => num_q h b0 b1
      obtain ⟨o, ho⟩ : ∃ o, (a + b) % 2 = o := ⟨_, rfl⟩
      obtain ⟨X, hX⟩ : ∃ X, (if 268435455 < a + (a + b) % 2 then 268435455 else a + (a + b) % 2) = X := ⟨_, rfl⟩
      rw [hX] at p4
      rw [ho] at hand hX
      have o0 : 0 ≤ o ∧ o ≤ 1 := by omega
      obtain ⟨o1, o2⟩ := o0
      have X0 : -268435455 ≤ X ∧ X ≤ 268435455 := by rw [← hX]; split <;> omega
      obtain ⟨X1, X2⟩ := X0
      have hXn : (X != if 268435455 < a + o then 268435455 else a + o) = false := by rw [hX]; simp
      obtain ⟨P, hPP⟩ : ∃ P, kept (half (kept (a + b) + kept (a - b))) = P := ⟨_, rfl⟩
      obtain ⟨Q, hQQ⟩ : ∃ Q, kept (half (kept (a + b) - kept (a - b))) = Q := ⟨_, rfl⟩
      rw [hPP] at p6 hP
      rw [hQQ] at p7 hQ
      obtain ⟨vm, hvm⟩ : ∃ vm, (a + b + 1) / 2 = vm := ⟨_, rfl⟩
      obtain ⟨vs, hvs⟩ : ∃ vs, (a - b + 1) / 2 = vs := ⟨_, rfl⟩
      rw [hvm] at p2
      rw [hvs] at p3
      have heq : a = b → vm = a ∧ vs = 0 := by omega
      have hw1 : IntKind.i64.wrap (-(a + b)) = -(a + b) := by rw [IntKind.wrap_i64]; omega
      have hw2 : IntKind.i64.wrap (-(a - b)) = -(a - b) := by rw [IntKind.wrap_i64]; omega
      have hmax := fun ats ty => max4 ats ty (a + b) (-(a + b)) (a - b) (-(a - b))
      obtain ⟨T, hT⟩ : ∃ T, mx (mx (mx (a + b) (-(a + b))) (a - b)) (-(a - b)) = T := ⟨_, rfl⟩
      have hwd : T ≤ 268435455 → Wide a b := fun h => wide_of (by rw [hT]; exact h)
      rw [hT] at hmax
      have HWD := Lib.hid hwd
      clear hwd hT
      have HPP := Lib.hid hP
      have HQQ := Lib.hid hQ
      have HEQ := Lib.hid heq
      have C0 : Hid (Cs wr [(⟨B0, O0 + k, none⟩, a), (⟨B1, O1 + k, none⟩, b), (⟨gm, k, none⟩, vm), (⟨gs, k, none⟩, vs), (⟨gx, k, none⟩, X), (⟨gy, k, none⟩, b), (⟨gp, k, none⟩, P), (⟨gq, k, none⟩, Q)]) := Lib.hid (cs_cons s0 p0 (cs_cons s1 p1 (cs_cons R2.lt p2 (cs_cons R3.lt p3 (cs_cons R4.lt p4 (cs_cons R5.lt p5 (cs_cons R6.lt p6 (cs_cons R7.lt p7 (cs_nil _)))))))))
      have E0 : Below w5.heap.size w5 wr := hbel
      clear hP hQ heq hPP hQQ hvm hvs hX ho p0 p1 p2 p3 p4 p5 p6 p7 R2 R3 R4 R5 R6 R7 s0 s1
      have q0 := (C0.out _ (.head _)).2
      have q1 := (C0.out _ (.tail _ (.head _))).2
      have q2 := (C0.out _ (.tail _ (.tail _ (.head _)))).2
      have q3 := (C0.out _ (.tail _ (.tail _ (.tail _ (.head _))))).2
      have q4 := (C0.out _ (.tail _ (.tail _ (.tail _ (.tail _ (.head _)))))).2
      have q5 := (C0.out _ (.tail _ (.tail _ (.tail _ (.tail _ (.tail _ (.head _))))))).2
      have q6 := (C0.out _ (.tail _ (.tail _ (.tail _ (.tail _ (.tail _ (.tail _ (.head _)))))))).2
      have q7 := (C0.out _ (.tail _ (.tail _ (.tail _ (.tail _ (.tail _ (.tail _ (.tail _ (.head _))))))))).2
      by_cases he : a = b
      · obtain ⟨e1, e2⟩ := HEQ.out he
        have e3 : (a == b) = true := by simp [he]
        have e4 : (vs != 0) = false := by rw [e2]; rfl
        have e5 : (vm != a) = false := by rw [e1]; simp
        clear he e1 e2
        by_cases hw : T ≤ 268435455
        · have t1 : decide (T ≤ 268435455) = true := by simpa using hw
          have t2 : (P != a) = false := by rw [HPP.out (HWD.out hw)]; simp
          have t3 : (Q != b) = false := by rw [HQQ.out (HWD.out hw)]; simp
          go_wp2
          go_quiet (fail)
          have C1 := Lib.hid (C0.out.below (drewN_below wr nq))
          have E1 := belowT E0 (drewN_below wr nq)
          clear q0 q1 q2 q3 q4 q5 q6 q7
          generalize wr.drewN nq = u1 at *
          have q0 := (C1.out _ (.head _)).2
          have q1 := (C1.out _ (.tail _ (.head _))).2
          have q2 := (C1.out _ (.tail _ (.tail _ (.head _)))).2
          have q3 := (C1.out _ (.tail _ (.tail _ (.tail _ (.head _))))).2
          have q4 := (C1.out _ (.tail _ (.tail _ (.tail _ (.tail _ (.head _)))))).2
          have q5 := (C1.out _ (.tail _ (.tail _ (.tail _ (.tail _ (.tail _ (.head _))))))).2
          have q6 := (C1.out _ (.tail _ (.tail _ (.tail _ (.tail _ (.tail _ (.tail _ (.head _)))))))).2
          have q7 := (C1.out _ (.tail _ (.tail _ (.tail _ (.tail _ (.tail _ (.tail _ (.tail _ (.head _))))))))).2
          go_wp2
          go_quiet (fail)
          have C2 := Lib.hid (C1.out.below (drewN_below u1 nq))
          have E2 := belowT E1 (drewN_below u1 nq)
          clear q0 q1 q2 q3 q4 q5 q6 q7
          generalize u1.drewN nq = u2 at *
          have q0 := (C2.out _ (.head _)).2
          have q1 := (C2.out _ (.tail _ (.head _))).2
          have q2 := (C2.out _ (.tail _ (.tail _ (.head _)))).2
          have q3 := (C2.out _ (.tail _ (.tail _ (.tail _ (.head _))))).2
          have q4 := (C2.out _ (.tail _ (.tail _ (.tail _ (.tail _ (.head _)))))).2
          have q5 := (C2.out _ (.tail _ (.tail _ (.tail _ (.tail _ (.tail _ (.head _))))))).2
          have q6 := (C2.out _ (.tail _ (.tail _ (.tail _ (.tail _ (.tail _ (.tail _ (.head _)))))))).2
          have q7 := (C2.out _ (.tail _ (.tail _ (.tail _ (.tail _ (.tail _ (.tail _ (.tail _ (.head _))))))))).2
          go_wp2
          all_goals
            go_quiet (fail)
            have C3 := Lib.hid (C2.out.below (drewN_below u2 nq))
            have E3 := belowT E2 (drewN_below u2 nq)
            clear q0 q1 q2 q3 q4 q5 q6 q7
            generalize u2.drewN nq = u3 at *
            have q0 := (C3.out _ (.head _)).2
            have q1 := (C3.out _ (.tail _ (.head _))).2
            have q2 := (C3.out _ (.tail _ (.tail _ (.head _)))).2
            have q3 := (C3.out _ (.tail _ (.tail _ (.tail _ (.head _))))).2
            have q4 := (C3.out _ (.tail _ (.tail _ (.tail _ (.tail _ (.head _)))))).2
            have q5 := (C3.out _ (.tail _ (.tail _ (.tail _ (.tail _ (.tail _ (.head _))))))).2
            have q6 := (C3.out _ (.tail _ (.tail _ (.tail _ (.tail _ (.tail _ (.tail _ (.head _)))))))).2
            have q7 := (C3.out _ (.tail _ (.tail _ (.tail _ (.tail _ (.tail _ (.tail _ (.tail _ (.head _))))))))).2
            go_wp2
            go_quiet (fail)
            have C4 := Lib.hid (C3.out.below (drewN_below u3 nq))
            have E4 := belowT E3 (drewN_below u3 nq)
            clear q0 q1 q2 q3 q4 q5 q6 q7
            generalize u3.drewN nq = u4 at *
            have q0 := (C4.out _ (.head _)).2
            have q1 := (C4.out _ (.tail _ (.head _))).2
            have q2 := (C4.out _ (.tail _ (.tail _ (.head _)))).2
            have q3 := (C4.out _ (.tail _ (.tail _ (.tail _ (.head _))))).2
            have q4 := (C4.out _ (.tail _ (.tail _ (.tail _ (.tail _ (.head _)))))).2
            have q5 := (C4.out _ (.tail _ (.tail _ (.tail _ (.tail _ (.tail _ (.head _))))))).2
            have q6 := (C4.out _ (.tail _ (.tail _ (.tail _ (.tail _ (.tail _ (.tail _ (.head _)))))))).2
            have q7 := (C4.out _ (.tail _ (.tail _ (.tail _ (.tail _ (.tail _ (.tail _ (.tail _ (.head _))))))))).2
            go_wp2
            go_quiet (fail)
            have C5 := Lib.hid (C4.out.below (drewN_below u4 nq))
            have E5 := belowT E4 (drewN_below u4 nq)
            clear q0 q1 q2 q3 q4 q5 q6 q7
            generalize u4.drewN nq = u5 at *
            have q0 := (C5.out _ (.head _)).2
            have q1 := (C5.out _ (.tail _ (.head _))).2
            have q2 := (C5.out _ (.tail _ (.tail _ (.head _)))).2
            have q3 := (C5.out _ (.tail _ (.tail _ (.tail _ (.head _))))).2
            have q4 := (C5.out _ (.tail _ (.tail _ (.tail _ (.tail _ (.head _)))))).2
            have q5 := (C5.out _ (.tail _ (.tail _ (.tail _ (.tail _ (.tail _ (.head _))))))).2
            have q6 := (C5.out _ (.tail _ (.tail _ (.tail _ (.tail _ (.tail _ (.tail _ (.head _)))))))).2
            have q7 := (C5.out _ (.tail _ (.tail _ (.tail _ (.tail _ (.tail _ (.tail _ (.tail _ (.head _))))))))).2
            go_wp2
            go_roundw
            case rel => exact ⟨k + 1, by omega, by go_num, E5⟩
            case measure => simp [intOf]; omega
        · have t1 : decide (T ≤ 268435455) = false := by simpa using hw
          have t4 : 268435455 < T := by omega
          clear hw
          go_wp2
          go_quiet (fail)
          have C1 := Lib.hid (C0.out.below (drewN_below wr nq))
          have E1 := belowT E0 (drewN_below wr nq)
          clear q0 q1 q2 q3 q4 q5 q6 q7
          generalize wr.drewN nq = u1 at *
          have q0 := (C1.out _ (.head _)).2
          have q1 := (C1.out _ (.tail _ (.head _))).2
          have q2 := (C1.out _ (.tail _ (.tail _ (.head _)))).2
          have q3 := (C1.out _ (.tail _ (.tail _ (.tail _ (.head _))))).2
          have q4 := (C1.out _ (.tail _ (.tail _ (.tail _ (.tail _ (.head _)))))).2
          have q5 := (C1.out _ (.tail _ (.tail _ (.tail _ (.tail _ (.tail _ (.head _))))))).2
          have q6 := (C1.out _ (.tail _ (.tail _ (.tail _ (.tail _ (.tail _ (.tail _ (.head _)))))))).2
          have q7 := (C1.out _ (.tail _ (.tail _ (.tail _ (.tail _ (.tail _ (.tail _ (.tail _ (.head _))))))))).2
          go_wp2
          go_quiet (fail)
          have C2 := Lib.hid (C1.out.below (drewN_below u1 nq))
          have E2 := belowT E1 (drewN_below u1 nq)
          clear q0 q1 q2 q3 q4 q5 q6 q7
          generalize u1.drewN nq = u2 at *
          have q0 := (C2.out _ (.head _)).2
          have q1 := (C2.out _ (.tail _ (.head _))).2
          have q2 := (C2.out _ (.tail _ (.tail _ (.head _)))).2
          have q3 := (C2.out _ (.tail _ (.tail _ (.tail _ (.head _))))).2
          have q4 := (C2.out _ (.tail _ (.tail _ (.tail _ (.tail _ (.head _)))))).2
          have q5 := (C2.out _ (.tail _ (.tail _ (.tail _ (.tail _ (.tail _ (.head _))))))).2
          have q6 := (C2.out _ (.tail _ (.tail _ (.tail _ (.tail _ (.tail _ (.tail _ (.head _)))))))).2
          have q7 := (C2.out _ (.tail _ (.tail _ (.tail _ (.tail _ (.tail _ (.tail _ (.tail _ (.head _))))))))).2
          go_wp2
          all_goals
            go_quiet (fail)
            have C3 := Lib.hid (C2.out.below (drewN_below u2 nq))
            have E3 := belowT E2 (drewN_below u2 nq)
            clear q0 q1 q2 q3 q4 q5 q6 q7
            generalize u2.drewN nq = u3 at *
            have q0 := (C3.out _ (.head _)).2
            have q1 := (C3.out _ (.tail _ (.head _))).2
            have q2 := (C3.out _ (.tail _ (.tail _ (.head _)))).2
            have q3 := (C3.out _ (.tail _ (.tail _ (.tail _ (.head _))))).2
            have q4 := (C3.out _ (.tail _ (.tail _ (.tail _ (.tail _ (.head _)))))).2
            have q5 := (C3.out _ (.tail _ (.tail _ (.tail _ (.tail _ (.tail _ (.head _))))))).2
            have q6 := (C3.out _ (.tail _ (.tail _ (.tail _ (.tail _ (.tail _ (.tail _ (.head _)))))))).2
            have q7 := (C3.out _ (.tail _ (.tail _ (.tail _ (.tail _ (.tail _ (.tail _ (.tail _ (.head _))))))))).2
            go_wp2
            go_quiet (fail)
            have C4 := Lib.hid (C3.out.below (drewN_below u3 nq))
            have E4 := belowT E3 (drewN_below u3 nq)
            clear q0 q1 q2 q3 q4 q5 q6 q7
            generalize u3.drewN nq = u4 at *
            have q0 := (C4.out _ (.head _)).2
            have q1 := (C4.out _ (.tail _ (.head _))).2
            have q2 := (C4.out _ (.tail _ (.tail _ (.head _)))).2
            have q3 := (C4.out _ (.tail _ (.tail _ (.tail _ (.head _))))).2
            have q4 := (C4.out _ (.tail _ (.tail _ (.tail _ (.tail _ (.head _)))))).2
            have q5 := (C4.out _ (.tail _ (.tail _ (.tail _ (.tail _ (.tail _ (.head _))))))).2
            have q6 := (C4.out _ (.tail _ (.tail _ (.tail _ (.tail _ (.tail _ (.tail _ (.head _)))))))).2
            have q7 := (C4.out _ (.tail _ (.tail _ (.tail _ (.tail _ (.tail _ (.tail _ (.tail _ (.head _))))))))).2
            go_wp2
            go_quiet (fail)
            have C5 := Lib.hid (C4.out.below (drewN_below u4 nq))
            have E5 := belowT E4 (drewN_below u4 nq)
            clear q0 q1 q2 q3 q4 q5 q6 q7
            generalize u4.drewN nq = u5 at *
            have q0 := (C5.out _ (.head _)).2
            have q1 := (C5.out _ (.tail _ (.head _))).2
            have q2 := (C5.out _ (.tail _ (.tail _ (.head _)))).2
            have q3 := (C5.out _ (.tail _ (.tail _ (.tail _ (.head _))))).2
            have q4 := (C5.out _ (.tail _ (.tail _ (.tail _ (.tail _ (.head _)))))).2
            have q5 := (C5.out _ (.tail _ (.tail _ (.tail _ (.tail _ (.tail _ (.head _))))))).2
            have q6 := (C5.out _ (.tail _ (.tail _ (.tail _ (.tail _ (.tail _ (.tail _ (.head _)))))))).2
            have q7 := (C5.out _ (.tail _ (.tail _ (.tail _ (.tail _ (.tail _ (.tail _ (.tail _ (.head _))))))))).2
            go_wp2
            go_roundw
            case rel => exact ⟨k + 1, by omega, by go_num, E5⟩
            case measure => simp [intOf]; omega
      · have e3 : (a == b) = false := by simpa using he
        clear he
        by_cases hw : T ≤ 268435455
        · have t1 : decide (T ≤ 268435455) = true := by simpa using hw
          have t2 : (P != a) = false := by rw [HPP.out (HWD.out hw)]; simp
          have t3 : (Q != b) = false := by rw [HQQ.out (HWD.out hw)]; simp
          go_wp2
          go_quiet (fail)
          have C1 := Lib.hid (C0.out.below (drewN_below wr nq))
          have E1 := belowT E0 (drewN_below wr nq)
          clear q0 q1 q2 q3 q4 q5 q6 q7
          generalize wr.drewN nq = u1 at *
          have q0 := (C1.out _ (.head _)).2
          have q1 := (C1.out _ (.tail _ (.head _))).2
          have q2 := (C1.out _ (.tail _ (.tail _ (.head _)))).2
          have q3 := (C1.out _ (.tail _ (.tail _ (.tail _ (.head _))))).2
          have q4 := (C1.out _ (.tail _ (.tail _ (.tail _ (.tail _ (.head _)))))).2
          have q5 := (C1.out _ (.tail _ (.tail _ (.tail _ (.tail _ (.tail _ (.head _))))))).2
          have q6 := (C1.out _ (.tail _ (.tail _ (.tail _ (.tail _ (.tail _ (.tail _ (.head _)))))))).2
          have q7 := (C1.out _ (.tail _ (.tail _ (.tail _ (.tail _ (.tail _ (.tail _ (.tail _ (.head _))))))))).2
          go_wp2
          go_quiet (fail)
          have C2 := Lib.hid (C1.out.below (drewN_below u1 nq))
          have E2 := belowT E1 (drewN_below u1 nq)
          clear q0 q1 q2 q3 q4 q5 q6 q7
          generalize u1.drewN nq = u2 at *
          have q0 := (C2.out _ (.head _)).2
          have q1 := (C2.out _ (.tail _ (.head _))).2
          have q2 := (C2.out _ (.tail _ (.tail _ (.head _)))).2
          have q3 := (C2.out _ (.tail _ (.tail _ (.tail _ (.head _))))).2
          have q4 := (C2.out _ (.tail _ (.tail _ (.tail _ (.tail _ (.head _)))))).2
          have q5 := (C2.out _ (.tail _ (.tail _ (.tail _ (.tail _ (.tail _ (.head _))))))).2
          have q6 := (C2.out _ (.tail _ (.tail _ (.tail _ (.tail _ (.tail _ (.tail _ (.head _)))))))).2
          have q7 := (C2.out _ (.tail _ (.tail _ (.tail _ (.tail _ (.tail _ (.tail _ (.tail _ (.head _))))))))).2
          go_wp2
          all_goals
            go_quiet (fail)
            have C3 := Lib.hid (C2.out.below (drewN_below u2 nq))
            have E3 := belowT E2 (drewN_below u2 nq)
            clear q0 q1 q2 q3 q4 q5 q6 q7
            generalize u2.drewN nq = u3 at *
            have q0 := (C3.out _ (.head _)).2
            have q1 := (C3.out _ (.tail _ (.head _))).2
            have q2 := (C3.out _ (.tail _ (.tail _ (.head _)))).2
            have q3 := (C3.out _ (.tail _ (.tail _ (.tail _ (.head _))))).2
            have q4 := (C3.out _ (.tail _ (.tail _ (.tail _ (.tail _ (.head _)))))).2
            have q5 := (C3.out _ (.tail _ (.tail _ (.tail _ (.tail _ (.tail _ (.head _))))))).2
            have q6 := (C3.out _ (.tail _ (.tail _ (.tail _ (.tail _ (.tail _ (.tail _ (.head _)))))))).2
            have q7 := (C3.out _ (.tail _ (.tail _ (.tail _ (.tail _ (.tail _ (.tail _ (.tail _ (.head _))))))))).2
            go_wp2
            go_quiet (fail)
            have C4 := Lib.hid (C3.out.below (drewN_below u3 nq))
            have E4 := belowT E3 (drewN_below u3 nq)
            clear q0 q1 q2 q3 q4 q5 q6 q7
            generalize u3.drewN nq = u4 at *
            have q0 := (C4.out _ (.head _)).2
            have q1 := (C4.out _ (.tail _ (.head _))).2
            have q2 := (C4.out _ (.tail _ (.tail _ (.head _)))).2
            have q3 := (C4.out _ (.tail _ (.tail _ (.tail _ (.head _))))).2
            have q4 := (C4.out _ (.tail _ (.tail _ (.tail _ (.tail _ (.head _)))))).2
            have q5 := (C4.out _ (.tail _ (.tail _ (.tail _ (.tail _ (.tail _ (.head _))))))).2
            have q6 := (C4.out _ (.tail _ (.tail _ (.tail _ (.tail _ (.tail _ (.tail _ (.head _)))))))).2
            have q7 := (C4.out _ (.tail _ (.tail _ (.tail _ (.tail _ (.tail _ (.tail _ (.tail _ (.head _))))))))).2
            go_wp2
            go_quiet (fail)
            have C5 := Lib.hid (C4.out.below (drewN_below u4 nq))
            have E5 := belowT E4 (drewN_below u4 nq)
            clear q0 q1 q2 q3 q4 q5 q6 q7
            generalize u4.drewN nq = u5 at *
            have q0 := (C5.out _ (.head _)).2
            have q1 := (C5.out _ (.tail _ (.head _))).2
            have q2 := (C5.out _ (.tail _ (.tail _ (.head _)))).2
            have q3 := (C5.out _ (.tail _ (.tail _ (.tail _ (.head _))))).2
            have q4 := (C5.out _ (.tail _ (.tail _ (.tail _ (.tail _ (.head _)))))).2
            have q5 := (C5.out _ (.tail _ (.tail _ (.tail _ (.tail _ (.tail _ (.head _))))))).2
            have q6 := (C5.out _ (.tail _ (.tail _ (.tail _ (.tail _ (.tail _ (.tail _ (.head _)))))))).2
            have q7 := (C5.out _ (.tail _ (.tail _ (.tail _ (.tail _ (.tail _ (.tail _ (.tail _ (.head _))))))))).2
            go_wp2
            go_roundw
            case rel => exact ⟨k + 1, by omega, by go_num, E5⟩
            case measure => simp [intOf]; omega
        · have t1 : decide (T ≤ 268435455) = false := by simpa using hw
          have t4 : 268435455 < T := by omega
          clear hw
          go_wp2
          go_quiet (fail)
          have C1 := Lib.hid (C0.out.below (drewN_below wr nq))
          have E1 := belowT E0 (drewN_below wr nq)
          clear q0 q1 q2 q3 q4 q5 q6 q7
          generalize wr.drewN nq = u1 at *
          have q0 := (C1.out _ (.head _)).2
          have q1 := (C1.out _ (.tail _ (.head _))).2
          have q2 := (C1.out _ (.tail _ (.tail _ (.head _)))).2
          have q3 := (C1.out _ (.tail _ (.tail _ (.tail _ (.head _))))).2
          have q4 := (C1.out _ (.tail _ (.tail _ (.tail _ (.tail _ (.head _)))))).2
          have q5 := (C1.out _ (.tail _ (.tail _ (.tail _ (.tail _ (.tail _ (.head _))))))).2
          have q6 := (C1.out _ (.tail _ (.tail _ (.tail _ (.tail _ (.tail _ (.tail _ (.head _)))))))).2
          have q7 := (C1.out _ (.tail _ (.tail _ (.tail _ (.tail _ (.tail _ (.tail _ (.tail _ (.head _))))))))).2
          go_wp2
          go_quiet (fail)
          have C2 := Lib.hid (C1.out.below (drewN_below u1 nq))
          have E2 := belowT E1 (drewN_below u1 nq)
          clear q0 q1 q2 q3 q4 q5 q6 q7
          generalize u1.drewN nq = u2 at *
          have q0 := (C2.out _ (.head _)).2
          have q1 := (C2.out _ (.tail _ (.head _))).2
          have q2 := (C2.out _ (.tail _ (.tail _ (.head _)))).2
          have q3 := (C2.out _ (.tail _ (.tail _ (.tail _ (.head _))))).2
          have q4 := (C2.out _ (.tail _ (.tail _ (.tail _ (.tail _ (.head _)))))).2
          have q5 := (C2.out _ (.tail _ (.tail _ (.tail _ (.tail _ (.tail _ (.head _))))))).2
          have q6 := (C2.out _ (.tail _ (.tail _ (.tail _ (.tail _ (.tail _ (.tail _ (.head _)))))))).2
          have q7 := (C2.out _ (.tail _ (.tail _ (.tail _ (.tail _ (.tail _ (.tail _ (.tail _ (.head _))))))))).2
          go_wp2
          all_goals
            go_quiet (fail)
            have C3 := Lib.hid (C2.out.below (drewN_below u2 nq))
            have E3 := belowT E2 (drewN_below u2 nq)
            clear q0 q1 q2 q3 q4 q5 q6 q7
            generalize u2.drewN nq = u3 at *
            have q0 := (C3.out _ (.head _)).2
            have q1 := (C3.out _ (.tail _ (.head _))).2
            have q2 := (C3.out _ (.tail _ (.tail _ (.head _)))).2
            have q3 := (C3.out _ (.tail _ (.tail _ (.tail _ (.head _))))).2
            have q4 := (C3.out _ (.tail _ (.tail _ (.tail _ (.tail _ (.head _)))))).2
            have q5 := (C3.out _ (.tail _ (.tail _ (.tail _ (.tail _ (.tail _ (.head _))))))).2
            have q6 := (C3.out _ (.tail _ (.tail _ (.tail _ (.tail _ (.tail _ (.tail _ (.head _)))))))).2
            have q7 := (C3.out _ (.tail _ (.tail _ (.tail _ (.tail _ (.tail _ (.tail _ (.tail _ (.head _))))))))).2
            go_wp2
            go_quiet (fail)
            have C4 := Lib.hid (C3.out.below (drewN_below u3 nq))
            have E4 := belowT E3 (drewN_below u3 nq)
            clear q0 q1 q2 q3 q4 q5 q6 q7
            generalize u3.drewN nq = u4 at *
            have q0 := (C4.out _ (.head _)).2
            have q1 := (C4.out _ (.tail _ (.head _))).2
            have q2 := (C4.out _ (.tail _ (.tail _ (.head _)))).2
            have q3 := (C4.out _ (.tail _ (.tail _ (.tail _ (.head _))))).2
            have q4 := (C4.out _ (.tail _ (.tail _ (.tail _ (.tail _ (.head _)))))).2
            have q5 := (C4.out _ (.tail _ (.tail _ (.tail _ (.tail _ (.tail _ (.head _))))))).2
            have q6 := (C4.out _ (.tail _ (.tail _ (.tail _ (.tail _ (.tail _ (.tail _ (.head _)))))))).2
            have q7 := (C4.out _ (.tail _ (.tail _ (.tail _ (.tail _ (.tail _ (.tail _ (.tail _ (.head _))))))))).2
            go_wp2
            go_quiet (fail)
            have C5 := Lib.hid (C4.out.below (drewN_below u4 nq))
            have E5 := belowT E4 (drewN_below u4 nq)
            clear q0 q1 q2 q3 q4 q5 q6 q7
            generalize u4.drewN nq = u5 at *
            have q0 := (C5.out _ (.head _)).2
            have q1 := (C5.out _ (.tail _ (.head _))).2
            have q2 := (C5.out _ (.tail _ (.tail _ (.head _)))).2
            have q3 := (C5.out _ (.tail _ (.tail _ (.tail _ (.head _))))).2
            have q4 := (C5.out _ (.tail _ (.tail _ (.tail _ (.tail _ (.head _)))))).2
            have q5 := (C5.out _ (.tail _ (.tail _ (.tail _ (.tail _ (.tail _ (.head _))))))).2
            have q6 := (C5.out _ (.tail _ (.tail _ (.tail _ (.tail _ (.tail _ (.tail _ (.head _)))))))).2
            have q7 := (C5.out _ (.tail _ (.tail _ (.tail _ (.tail _ (.tail _ (.tail _ (.tail _ (.head _))))))))).2
            go_wp2
            go_roundw
            case rel => exact ⟨k + 1, by omega, by go_num, E5⟩
            case measure => simp [intOf]; omega
    · go_wp2
      go_ret
      exact ⟨rfl, belowT hb15 hbel⟩


theorem walk (a0 : Option Addr) (l0 c0 : Nat) (z0 : List Int) (a1 : Option Addr) (l1 c1 : Nat) (z1 : List Int) (w : World) (w0 : IsRow .i64 w a0 l0 c0 z0) (w1 : IsRow .i64 w a1 l1 c1 z1) :
    Calls Try.prog 8 #[.slice a0 l0 c0, .slice a1 l1 c1] w fun e w' => e = .returned (.bool true) ∧ Below w.heap.size w w' := by
  by_cases h : 1000 < l0 ∨ 1000 < l1
  · exact long a0 a1 l0 l1 c0 c1 w w0.le w1.le h
  obtain ⟨za, la, ra, _⟩ := w0.rd
  obtain ⟨zb, lb, rb, _⟩ := w1.rd
  subst la
  subst lb
  by_cases hf : ∃ n, Fit za zb n
  · obtain ⟨n, hf⟩ := hf
    have h1 := hf.1
    have h2 := hf.2.1
    rw [h1] at ra ⊢
    rw [h2] at rb ⊢
    refine good a0 a1 c0 c1 n za zb w hf ra rb fun hn => ?_
    rcases ra with ⟨_, _, e, _⟩ | ⟨b, off, cap, e, k2, _, _, k5⟩
    · simp only [Value.slice.injEq] at e; omega
    rcases rb with ⟨_, _, e', _⟩ | ⟨b', off', cap', e', k2', _, _, k5'⟩
    · simp only [Value.slice.injEq] at e'; omega
    simp only [Value.slice.injEq] at e e'
    rw [h1] at k5
    rw [h2] at k5'
    exact ⟨b, off, b', off', e.1, e'.1, k2, k2', k5, k5'⟩
  · obtain ⟨r, hr, hJ, hS⟩ := both_bad (.slice a0 za.length c0) (.slice a1 zb.length c1) za zb (by omega) (by omega) hf
    exact err za.length zb.length a0 a1 c0 c1 r w (by omega) (by omega) (by omega) (by omega) (fun w1 hw => hS w1 (ra.below hw) (rb.below hw)) (fun w1 hw => hJ w1 (ra.below hw) (rb.below hw))

theorem own : ownKnob Try.prog.godebug = none := by kernel_rfl
theorem laidOut : laidOutB Try.prog = true := by kernel_rfl
set_option linter.unusedVariables false
set_option maxRecDepth 100000 in
theorem lifted (os : Os) (started : os.Started) (H : Type) (enc : TypeId × Value → H) :
    ReturnsInHanded {} Try.checked os 8 .any (Rows.midBackSpec.pre6 enc Try.prog Try.f8 Rows.midBackRow.domain false) (Rows.midBackSpec.post enc Try.prog Try.f8 false true false false) := by
  refine returnsInHanded_of_change (C := Try.checked) own started (by kernel_rfl) Try.func8
    (ChangeSpec.witness6 (enc := enc) (C := Try.checked) false ⟨#[], #[.slice none 0 0, .slice none 0 0], []⟩ 8 (by kernel_rfl) (by kernel_rfl) (by kernel_rfl) (by kernel_rfl)) ?_
  intro W base args ds gs before hval0 hW hcnd _
  have hval : ∀ (j : Nat) t v, Try.f8.params[j]? = some t → args[j]? = some v → Value.okWide Try.prog W .any base t v := hval0
  have hW' := hW
  obtain ⟨p, q, hA0, hV, rfl, hfz, hnd⟩ := hW
  have hA : DataW.TrodAll enc Try.prog W 0 (fun _ => true) true Try.f8.params.toList args.toList ds p := hA0
  rw [Try.params8] at hA hval
  obtain ⟨v0, vs0, d0, ds0, p0, q0, hargs, rfl, rfl, h0, r0⟩ := trodAll_cons hA
  obtain ⟨v1, vs1, d1, ds1, p1, q1, rfl, rfl, rfl, h1, r1⟩ := trodAll_cons r0
  obtain ⟨rfl, rfl, rfl⟩ := trodAll_nil r1
  obtain rfl : args = #[v0, v1] := by cases args; simp_all
  obtain ⟨rfl, rfl⟩ := trodVars_none hV
  obtain ⟨a0, len0, cap0, rfl⟩ := okWide_slice Try.underlying22 (hval 0 22 v0 rfl rfl)
  have k0 := h0
  have lt0 : ∀ x ∈ p0, x.block < W.heap.size := by obtain ⟨m, hm⟩ := k0; exact DataW.trod_lt m _ _ _ hm
  obtain ⟨z0, w0⟩ : ∃ zs, IsRow .i64 W a0 len0 cap0 zs := by
    obtain ⟨fuel, hf⟩ := h0
    rcases open_ints Try.underlying22 Try.underlying3 (by kernel_rfl) hf with ⟨hcs, _⟩ | ⟨x, l, c, zs, hcs, _, hl, hm, hz, _, hcell, hwz⟩
    · simp [Value.cells] at hcs
      obtain ⟨rfl, rfl, rfl⟩ := hcs
      exact ⟨[], .inl ⟨rfl, rfl, rfl, rfl⟩⟩
    · simp [Value.cells] at hcs
      obtain ⟨rfl, rfl, rfl⟩ := hcs
      exact ⟨zs, .inr ⟨_, rfl, hl, hm, by simpa using hz, hcell, hwz⟩⟩
  obtain ⟨a1, len1, cap1, rfl⟩ := okWide_slice Try.underlying22 (hval 1 22 v1 rfl rfl)
  have k1 := h1
  have lt1 : ∀ x ∈ p1, x.block < W.heap.size := by obtain ⟨m, hm⟩ := k1; exact DataW.trod_lt m _ _ _ hm
  obtain ⟨z1, w1⟩ : ∃ zs, IsRow .i64 W a1 len1 cap1 zs := by
    obtain ⟨fuel, hf⟩ := h1
    rcases open_ints Try.underlying22 Try.underlying3 (by kernel_rfl) hf with ⟨hcs, _⟩ | ⟨x, l, c, zs, hcs, _, hl, hm, hz, _, hcell, hwz⟩
    · simp [Value.cells] at hcs
      obtain ⟨rfl, rfl, rfl⟩ := hcs
      exact ⟨[], .inl ⟨rfl, rfl, rfl, rfl⟩⟩
    · simp [Value.cells] at hcs
      obtain ⟨rfl, rfl, rfl⟩ := hcs
      exact ⟨zs, .inr ⟨_, rfl, hl, hm, by simpa using hz, hcell, hwz⟩⟩
  clear hA0 hval0
  refine (walk a0 len0 cap0 z0 a1 len1 cap1 z1 W w0 w1).mono fun e W' ⟨he, bel⟩ => ?_
  subst he
  exact ⟨_, rfl, _, _, _, [], _, [], hW', trodAll_mk1 (shut_bool Try.underlying4 _), (trodAll_cons_mk (Below.trod laidOut (by kernel_rfl) (of_decide_eq_true (by kernel_rfl)) k0 bel lt0) (trodAll_cons_mk (Below.trod laidOut (by kernel_rfl) (of_decide_eq_true (by kernel_rfl)) k1 bel lt1) trodAll_mk0)), rfl, bel.frame _, fun h => by cases h⟩

theorem over : Rows.midBackRow.holds Try.pinned (OpenSpec.ofChange Rows.midBackSpec) :=
  OpenClaim.holds_of_wide 8 Try.f8 rfl rfl rfl rfl rfl rfl rfl ⟨rfl, rfl, rfl, rfl, rfl⟩ rfl rfl rfl rfl rfl (by kernel_rfl) Try.func8 (by kernel_rfl)
    (of_decide_eq_true (by kernel_rfl)) (by unfold Func.isWrapper; first | (rw [if_pos (by decide +kernel)]; kernel_rfl) | (rw [if_neg (by decide +kernel)]; exact ⟨rfl, rfl⟩))
    (fun os started H enc _ => lifted os started H enc)

theorem proved : Rows.MidBackSaid := over
end Go.Proofs.Ytnbbjobmaakogaa.midBack
