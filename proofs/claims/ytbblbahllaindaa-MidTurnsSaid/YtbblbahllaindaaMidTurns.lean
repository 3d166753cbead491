/- Split turns its sides, and each place is split and joined for itself. MidTurns returns true, whatever the two lists and the place, the memory and the schedule. No condition. -/
import Derived.Test.YtbblbahllaindaaMdOk
import Derived.Test.YtbblbahllaindaaMdBad
import Derived.WalkKit
import Derived.OwnWalk
import Derived.Deep.RegionHeld3
import Derived.Deep.QuietTactic
import Derived.BigQuiet
import Derived.ProofKit
import Derived.OpenShut
import Derived.ShutString
import Derived.ChangeOld
import Derived.Below
import Derived.Lib.Hide
import Derived.Test.YtbblbahllaindaaLoRow
namespace Go.Proofs.Ytbblbahllaindaa.midTurns
open Go Go.ChangeShapes Go.WideShapes Go.ChangeAt Go.RowKit Go.Proofs.Ytbblbahllaindaa.Lo Go.Proofs.Ytbblbahllaindaa.Md

theorem drewN_below (w : World) : ∀ n, Below w.heap.size w (w.drewN n)
  | 0 => Below.refl _ _
  | n + 1 => (drewN_below w n).drew
theorem num_m {a b : Int} (a0 : -268435455 ≤ a) (a1 : a ≤ 268435455) (b0 : -268435455 ≤ b) (b1 : b ≤ 268435455) : kept (half (a + b)) = (a + b + 1) / 2 := by unfold half; exact kept_same (by omega) (by omega)
theorem num_s {a b : Int} (a0 : -268435455 ≤ a) (a1 : a ≤ 268435455) (b0 : -268435455 ≤ b) (b1 : b ≤ 268435455) : kept (half (a - b)) = (a - b + 1) / 2 := by unfold half; exact kept_same (by omega) (by omega)
def Cs (w : World) (l : List (Addr × Int)) : Prop := ∀ x ∈ l, x.1.block < w.heap.size ∧ w.cell? x.1 = some (.int .i64 x.2)
theorem Cs.below {w w' : World} {l : List (Addr × Int)} (h : Cs w l) (hb : Below w.heap.size w w') : Cs w' l := fun x hx => ⟨Nat.lt_of_lt_of_le (h x hx).1 hb.size, (hb.cell (h x hx).1).trans (h x hx).2⟩
theorem cs_nil (w : World) : Cs w [] := fun x hx => by cases hx
theorem cs_cons {w : World} {p : Addr} {v : Int} {l : List (Addr × Int)} (h1 : p.block < w.heap.size) (h2 : w.cell? p = some (.int .i64 v)) (h3 : Cs w l) : Cs w ((p, v) :: l) := fun x hx => by
  cases hx with
  | head => exact ⟨h1, h2⟩
  | tail _ h => exact h3 x h


theorem num_t {a b : Int} (a0 : -268435455 ≤ a) (a1 : a ≤ 268435455) (b0 : -268435455 ≤ b) (b1 : b ≤ 268435455) : kept (half (a - b)) + kept (half (b - a)) = 0 ∨ kept (half (a - b)) + kept (half (b - a)) = 1 := by
  rw [num_s a0 a1 b0 b1, num_s b0 b1 a0 a1]
  omega

set_option maxRecDepth 100000 in
set_option maxHeartbeats 8000000 in
theorem out (A0 A1 : Option Addr) (c0 c1 n : Nat) (at' : Int) (za zb : List Int) (w : World) (hf : Fit za zb n) (ra : Rd w (.slice A0 n c0) za) (rb : Rd w (.slice A1 n c1) zb) (hat : at' < 0 ∨ (n : Int) ≤ at') :
    Calls Try.prog 4 #[.slice A0 n c0, .slice A1 n c1, .int .i64 at'] w fun e w' => e = .returned (.bool true) ∧ Below w.heap.size w w' := by
  have hf' := hf
  obtain ⟨la, lb, hn, ia, ib⟩ := hf'
  have hg : Fit zb za n := ⟨lb, la, hn, ib, ia⟩
  have RA := Lib.hid ra
  have RB := Lib.hid rb
  have IA := Lib.hid ia
  have IB := Lib.hid ib
  have LA := Lib.hid la
  have LB := Lib.hid lb
  obtain ⟨m, hm⟩ : ∃ F : Nat → Int, F = fun j => kept (half (za.getD j 0 + zb.getD j 0)) := ⟨_, rfl⟩
  obtain ⟨s, hs⟩ : ∃ F : Nat → Int, F = fun j => kept (half (za.getD j 0 - zb.getD j 0)) := ⟨_, rfl⟩
  obtain ⟨m', hm'⟩ : ∃ F : Nat → Int, F = fun j => kept (half (zb.getD j 0 + za.getD j 0)) := ⟨_, rfl⟩
  obtain ⟨s', hs'⟩ : ∃ F : Nat → Int, F = fun j => kept (half (zb.getD j 0 - za.getD j 0)) := ⟨_, rfl⟩
  have HS : Hid (∀ w1, Below w.heap.size w w1 → Calls Try.prog 5 #[.slice A0 n c0, .slice A1 n c1] w1 (Two w1 n m s)) := Lib.hid fun w1 hw => by rw [hm, hs]; exact split_ok _ _ za zb n w1 hf (ra.below hw) (rb.below hw)
  have HT : Hid (∀ w1, Below w.heap.size w w1 → Calls Try.prog 5 #[.slice A1 n c1, .slice A0 n c0] w1 (Two w1 n m' s')) := Lib.hid fun w1 hw => by rw [hm', hs']; exact split_ok _ _ zb za n w1 hg (rb.below hw) (ra.below hw)
  have HM := Lib.hid hm
  have HSs := Lib.hid hs
  have HM' := Lib.hid hm'
  have HS' := Lib.hid hs'
  have HAt := Lib.hid hat
  clear hm hs hm' hs' hf hg ra rb ia ib la lb hat
  go_enter Try.func4, Try.ntmps4
  go_wp2_with (first
    | (go_at_call 10; ((with_reducible refine (md_alive _).mono ?_); rintro e w1 ⟨rfl, hb1⟩))
    | (go_at_call 5; have hq := hb2; clear hq; ((with_reducible refine (HT.out _ hb12).mono ?_); rintro e w3 ⟨gn, gt, rfl, _, rn', rt', hb3⟩; have rn := Lib.hid rn'; have rt := Lib.hid rt'; clear rn' rt'; have hb13 := belowT hb12 hb3; have rm3 := Lib.hid (rm.out.of_block (hb3.block _ rm.out.lt)); have rs3 := Lib.hid (rs.out.of_block (hb3.block _ rs.out.lt))))
    | (go_at_call 5; ((with_reducible refine (HS.out _ hb1).mono ?_); rintro e w2 ⟨gm, gs, rfl, _, rm', rs', hb2⟩; have rm := Lib.hid rm'; have rs := Lib.hid rs'; clear rm' rs'; have hb12 := belowT hb1 hb2)))
  go_loopw [14, 15] (fun i _ wr => ∃ k : Nat, k ≤ n ∧ i = .int .i64 k ∧ Below w3.heap.size w3 wr) (fun i _ _ => n - (intOf i).toNat)
  case atStart => exact ⟨0, by omega, rfl, Below.refl _ _⟩
  case round =>
    obtain ⟨k, hk, rfl, hbel⟩ := hrel
    by_cases hlt : k < n
    · have xa := IA.out (za.getD k 0) (by simp [LA.out, hlt])
      have xb := IB.out (zb.getD k 0) (by simp [LB.out, hlt])
      have R0 := rm3.out.of_block (hbel.block _ rm3.out.lt)
      have R1 := rn.out.of_block (hbel.block _ rn.out.lt)
      have R2 := rs3.out.of_block (hbel.block _ rs3.out.lt)
      have R3 := rt.out.of_block (hbel.block _ rt.out.lt)
      have p0 := R0.cell hlt
      have p1 := R1.cell hlt
      have p2 := R2.cell hlt
      have p3 := R3.cell hlt
      have em : m k = kept (half (za.getD k 0 + zb.getD k 0)) := by rw [HM.out]
      have es : s k = kept (half (za.getD k 0 - zb.getD k 0)) := by rw [HSs.out]
      have en : m' k = kept (half (za.getD k 0 + zb.getD k 0)) := by rw [HM'.out, Int.add_comm]
      have et : s' k = kept (half (zb.getD k 0 - za.getD k 0)) := by rw [HS'.out]
      rw [em] at p0
      rw [en] at p1
      rw [es] at p2
      rw [et] at p3
      have hsum := num_t xa.1 xa.2 xb.1 xb.2
      have kb0 := kept_bd (half (za.getD k 0 - zb.getD k 0))
      have kb1 := kept_bd (half (zb.getD k 0 - za.getD k 0))
      clear em es en et xa xb
      generalize kept (half (za.getD k 0 + zb.getD k 0)) = vm at *
      generalize kept (half (za.getD k 0 - zb.getD k 0)) = vs at *
      generalize kept (half (zb.getD k 0 - za.getD k 0)) = vt at *
      have C0 : Hid (Cs wr [(⟨gm, k, none⟩, vm), (⟨gn, k, none⟩, vm), (⟨gs, k, none⟩, vs), (⟨gt, k, none⟩, vt)]) := Lib.hid (cs_cons R0.lt p0 (cs_cons R1.lt p1 (cs_cons R2.lt p2 (cs_cons R3.lt p3 (cs_nil _)))))
      have E0 : Below w3.heap.size w3 wr := hbel
      obtain ⟨kb2, kb3⟩ := kb0
      obtain ⟨kb4, kb5⟩ := kb1
      clear p0 p1 p2 p3 R0 R1 R2 R3
      have q0 := (C0.out _ (.head _)).2
      have q1 := (C0.out _ (.tail _ (.head _))).2
      have q2 := (C0.out _ (.tail _ (.tail _ (.head _)))).2
      have q3 := (C0.out _ (.tail _ (.tail _ (.tail _ (.head _))))).2
      rcases hsum with hsum | hsum
      · have hz : vs + vt = 0 := hsum
        clear hsum
        go_wp2
        go_quiet (fail)
        have C1 := Lib.hid (C0.out.below (drewN_below wr nq))
        have E1 := belowT E0 (drewN_below wr nq)
        clear q0 q1 q2 q3
        generalize wr.drewN nq = u1 at *
        have q0 := (C1.out _ (.head _)).2
        have q1 := (C1.out _ (.tail _ (.head _))).2
        have q2 := (C1.out _ (.tail _ (.tail _ (.head _)))).2
        have q3 := (C1.out _ (.tail _ (.tail _ (.tail _ (.head _))))).2
        go_wp2
        go_quiet (fail)
        have C2 := Lib.hid (C1.out.below (drewN_below u1 nq))
        have E2 := belowT E1 (drewN_below u1 nq)
        clear q0 q1 q2 q3
        generalize u1.drewN nq = u2 at *
        have q0 := (C2.out _ (.head _)).2
        have q1 := (C2.out _ (.tail _ (.head _))).2
        have q2 := (C2.out _ (.tail _ (.tail _ (.head _)))).2
        have q3 := (C2.out _ (.tail _ (.tail _ (.tail _ (.head _))))).2
        go_wp2
        go_roundw
        case rel => exact ⟨k + 1, by omega, by go_num, E2⟩
        case measure => simp [intOf]; omega
      · have hz : vs + vt = 1 := hsum
        clear hsum
        go_wp2
        go_quiet (fail)
        have C1 := Lib.hid (C0.out.below (drewN_below wr nq))
        have E1 := belowT E0 (drewN_below wr nq)
        clear q0 q1 q2 q3
        generalize wr.drewN nq = u1 at *
        have q0 := (C1.out _ (.head _)).2
        have q1 := (C1.out _ (.tail _ (.head _))).2
        have q2 := (C1.out _ (.tail _ (.tail _ (.head _)))).2
        have q3 := (C1.out _ (.tail _ (.tail _ (.tail _ (.head _))))).2
        go_wp2
        go_quiet (fail)
        have C2 := Lib.hid (C1.out.below (drewN_below u1 nq))
        have E2 := belowT E1 (drewN_below u1 nq)
        clear q0 q1 q2 q3
        generalize u1.drewN nq = u2 at *
        have q0 := (C2.out _ (.head _)).2
        have q1 := (C2.out _ (.tail _ (.head _))).2
        have q2 := (C2.out _ (.tail _ (.tail _ (.head _)))).2
        have q3 := (C2.out _ (.tail _ (.tail _ (.tail _ (.head _))))).2
        go_wp2
        go_roundw
        case rel => exact ⟨k + 1, by omega, by go_num, E2⟩
        case measure => simp [intOf]; omega
    · have hend : k = n := by omega
      clear hlt
      have hb3r := belowT hb13 hbel
      subst hend
      by_cases h1 : at' < 0
      · go_wp2
        go_ret
        exact ⟨rfl, hb3r⟩
      · have h2 : (k : Int) ≤ at' := by have := HAt.out; omega
        go_wp2
        go_ret
        exact ⟨rfl, hb3r⟩


theorem one_rd1 (w : World) (x y : Int) : Rd ((w.alloc (.cells #[.int .i64 x] 3)).alloc (.cells #[.int .i64 y] 3)) (.slice (some ⟨w.heap.size, 0, none⟩) 1 1) [x] := by
  have h := (World.rowIs_alloc w #[.int .i64 x] 3 (fun _ => .int .i64 x) (fun i hi => by
    have : i = 0 := by simp at hi; omega
    subst this; rfl)).alloc (.cells #[.int .i64 y] 3)
  exact rd_row (f := fun _ => x) h rfl (by unfold maxLen; omega) fun j hj => by
    have : j = 0 := by omega
    subst this; rfl
theorem one_rd2 (w : World) (x y : Int) : Rd ((w.alloc (.cells #[.int .i64 x] 3)).alloc (.cells #[.int .i64 y] 3)) (.slice (some ⟨w.heap.size + 1, 0, none⟩) 1 1) [y] := by
  have h := World.rowIs_alloc (w.alloc (.cells #[.int .i64 x] 3)) #[.int .i64 y] 3 (fun _ => .int .i64 y) (fun i hi => by
    have : i = 0 := by simp at hi; omega
    subst this; rfl)
  rw [World.size_alloc] at h
  exact rd_row (f := fun _ => y) h rfl (by unfold maxLen; omega) fun j hj => by
    have : j = 0 := by omega
    subst this; rfl
theorem two_alloc (w : World) (A B : Obj) : Below w.heap.size w ((w.drew.alloc A).alloc B) := (((Below.refl w.heap.size w).drew).alloc (Nat.le_refl _) _).alloc (by simp) _

theorem two_allocd (w : World) (A B : Obj) : Below w.heap.size w ((w.alloc A).alloc B).drew := (((Below.refl w.heap.size w).alloc (Nat.le_refl _) _).alloc (by simp) _).drew
theorem wp_forget {P : Program} {c : Code} {Q : Exit → Act → World → Prop} {a : Act} {w : World} (R : Act → Act → World → Prop) (h : c.wp P (fun e a' w' => e = .normal ∧ R a a' w') a w) (k : ∀ a' w', R a a' w' → Q .normal a' w') : c.wp P Q a w :=
  Code.wp_mono (fun e a' w' q => by obtain ⟨rfl, q⟩ := q; exact k a' w' q) h
set_option maxRecDepth 100000 in
set_option maxHeartbeats 8000000 in
theorem ins (B0 O0 B1 O1 c0 c1 n j : Nat) (za zb : List Int) (w : World) (hf : Fit za zb n) (ra : Rd w (.slice (some ⟨B0, O0, none⟩) n c0) za) (rb : Rd w (.slice (some ⟨B1, O1, none⟩) n c1) zb) (hj : j < n)
    (kb0 : B0 < w.heap.size) (kb1 : B1 < w.heap.size) (cb0 : ∀ i, i < n → w.cell? ⟨B0, O0 + i, none⟩ = some (.int .i64 (za.getD i 0))) (cb1 : ∀ i, i < n → w.cell? ⟨B1, O1 + i, none⟩ = some (.int .i64 (zb.getD i 0))) :
    Calls Try.prog 4 #[.slice (some ⟨B0, O0, none⟩) n c0, .slice (some ⟨B1, O1, none⟩) n c1, .int .i64 j] w fun e w' => e = .returned (.bool true) ∧ Below w.heap.size w w' := by
  have hf' := hf
  obtain ⟨la, lb, hn, ia, ib⟩ := hf'
  have hg : Fit zb za n := ⟨lb, la, hn, ib, ia⟩
  have RA := Lib.hid ra
  have RB := Lib.hid rb
  have IA := Lib.hid ia
  have IB := Lib.hid ib
  have LA := Lib.hid la
  have LB := Lib.hid lb
  obtain ⟨m, hm⟩ : ∃ F : Nat → Int, F = fun j => kept (half (za.getD j 0 + zb.getD j 0)) := ⟨_, rfl⟩
  obtain ⟨s, hs⟩ : ∃ F : Nat → Int, F = fun j => kept (half (za.getD j 0 - zb.getD j 0)) := ⟨_, rfl⟩
  obtain ⟨m', hm'⟩ : ∃ F : Nat → Int, F = fun j => kept (half (zb.getD j 0 + za.getD j 0)) := ⟨_, rfl⟩
  obtain ⟨s', hs'⟩ : ∃ F : Nat → Int, F = fun j => kept (half (zb.getD j 0 - za.getD j 0)) := ⟨_, rfl⟩
  have HS : Hid (∀ w1, Below w.heap.size w w1 → Calls Try.prog 5 #[.slice (some ⟨B0, O0, none⟩) n c0, .slice (some ⟨B1, O1, none⟩) n c1] w1 (Two w1 n m s)) := Lib.hid fun w1 hw => by rw [hm, hs]; exact split_ok _ _ za zb n w1 hf (ra.below hw) (rb.below hw)
  have HT : Hid (∀ w1, Below w.heap.size w w1 → Calls Try.prog 5 #[.slice (some ⟨B1, O1, none⟩) n c1, .slice (some ⟨B0, O0, none⟩) n c0] w1 (Two w1 n m' s')) := Lib.hid fun w1 hw => by rw [hm', hs']; exact split_ok _ _ zb za n w1 hg (rb.below hw) (ra.below hw)
  have HM := Lib.hid hm
  have HSs := Lib.hid hs
  have HM' := Lib.hid hm'
  have HS' := Lib.hid hs'
  have HF := Lib.hid hf
  have CA := Lib.hid (cb0 j hj)
  have CB := Lib.hid (cb1 j hj)
  clear hm hs hm' hs' hf hg ra rb ia ib la lb cb0 cb1
  go_enter Try.func4, Try.ntmps4
  go_wp2_with (first
    | (go_at_call 10; ((with_reducible refine (md_alive _).mono ?_); rintro e w1 ⟨rfl, hb1⟩))
    | (go_at_call 5; have hq := hb2; clear hq; ((with_reducible refine (HT.out _ hb12).mono ?_); rintro e w3 ⟨gn, gt, rfl, _, rn', rt', hb3⟩; have rn := Lib.hid rn'; have rt := Lib.hid rt'; clear rn' rt'; have hb13 := belowT hb12 hb3; have rm3 := Lib.hid (rm.out.of_block (hb3.block _ rm.out.lt)); have rs3 := Lib.hid (rs.out.of_block (hb3.block _ rs.out.lt))))
    | (go_at_call 5; ((with_reducible refine (HS.out _ hb1).mono ?_); rintro e w2 ⟨gm, gs, rfl, _, rm', rs', hb2⟩; have rm := Lib.hid rm'; have rs := Lib.hid rs'; clear rm' rs'; have hb12 := belowT hb1 hb2)))
  go_loopw [14, 15] (fun i _ wr => ∃ k : Nat, k ≤ n ∧ i = .int .i64 k ∧ Below w3.heap.size w3 wr) (fun i _ _ => n - (intOf i).toNat)
  case atStart => exact ⟨0, by omega, rfl, Below.refl _ _⟩
  case round =>
    obtain ⟨k, hk, rfl, hbel⟩ := hrel
    by_cases hlt : k < n
    · have xa := IA.out (za.getD k 0) (by simp [LA.out, hlt])
      have xb := IB.out (zb.getD k 0) (by simp [LB.out, hlt])
      have R0 := rm3.out.of_block (hbel.block _ rm3.out.lt)
      have R1 := rn.out.of_block (hbel.block _ rn.out.lt)
      have R2 := rs3.out.of_block (hbel.block _ rs3.out.lt)
      have R3 := rt.out.of_block (hbel.block _ rt.out.lt)
      have p0 := R0.cell hlt
      have p1 := R1.cell hlt
      have p2 := R2.cell hlt
      have p3 := R3.cell hlt
      have em : m k = kept (half (za.getD k 0 + zb.getD k 0)) := by rw [HM.out]
      have es : s k = kept (half (za.getD k 0 - zb.getD k 0)) := by rw [HSs.out]
      have en : m' k = kept (half (za.getD k 0 + zb.getD k 0)) := by rw [HM'.out, Int.add_comm]
      have et : s' k = kept (half (zb.getD k 0 - za.getD k 0)) := by rw [HS'.out]
      rw [em] at p0
      rw [en] at p1
      rw [es] at p2
      rw [et] at p3
      have hsum := num_t xa.1 xa.2 xb.1 xb.2
      have kb0 := kept_bd (half (za.getD k 0 - zb.getD k 0))
      have kb1 := kept_bd (half (zb.getD k 0 - za.getD k 0))
      clear em es en et xa xb
      generalize kept (half (za.getD k 0 + zb.getD k 0)) = vm at *
      generalize kept (half (za.getD k 0 - zb.getD k 0)) = vs at *
      generalize kept (half (zb.getD k 0 - za.getD k 0)) = vt at *
      have C0 : Hid (Cs wr [(⟨gm, k, none⟩, vm), (⟨gn, k, none⟩, vm), (⟨gs, k, none⟩, vs), (⟨gt, k, none⟩, vt)]) := Lib.hid (cs_cons R0.lt p0 (cs_cons R1.lt p1 (cs_cons R2.lt p2 (cs_cons R3.lt p3 (cs_nil _)))))
      have E0 : Below w3.heap.size w3 wr := hbel
      obtain ⟨kb2, kb3⟩ := kb0
      obtain ⟨kb4, kb5⟩ := kb1
      clear p0 p1 p2 p3 R0 R1 R2 R3
      have q0 := (C0.out _ (.head _)).2
      have q1 := (C0.out _ (.tail _ (.head _))).2
      have q2 := (C0.out _ (.tail _ (.tail _ (.head _)))).2
      have q3 := (C0.out _ (.tail _ (.tail _ (.tail _ (.head _))))).2
      rcases hsum with hsum | hsum
      · have hz : vs + vt = 0 := hsum
        clear hsum
        go_wp2
        go_quiet (fail)
        have C1 := Lib.hid (C0.out.below (drewN_below wr nq))
        have E1 := belowT E0 (drewN_below wr nq)
        clear q0 q1 q2 q3
        generalize wr.drewN nq = u1 at *
        have q0 := (C1.out _ (.head _)).2
        have q1 := (C1.out _ (.tail _ (.head _))).2
        have q2 := (C1.out _ (.tail _ (.tail _ (.head _)))).2
        have q3 := (C1.out _ (.tail _ (.tail _ (.tail _ (.head _))))).2
        go_wp2
        go_quiet (fail)
        have C2 := Lib.hid (C1.out.below (drewN_below u1 nq))
        have E2 := belowT E1 (drewN_below u1 nq)
        clear q0 q1 q2 q3
        generalize u1.drewN nq = u2 at *
        have q0 := (C2.out _ (.head _)).2
        have q1 := (C2.out _ (.tail _ (.head _))).2
        have q2 := (C2.out _ (.tail _ (.tail _ (.head _)))).2
        have q3 := (C2.out _ (.tail _ (.tail _ (.tail _ (.head _))))).2
        go_wp2
        go_roundw
        case rel => exact ⟨k + 1, by omega, by go_num, E2⟩
        case measure => simp [intOf]; omega
      · have hz : vs + vt = 1 := hsum
        clear hsum
        go_wp2
        go_quiet (fail)
        have C1 := Lib.hid (C0.out.below (drewN_below wr nq))
        have E1 := belowT E0 (drewN_below wr nq)
        clear q0 q1 q2 q3
        generalize wr.drewN nq = u1 at *
        have q0 := (C1.out _ (.head _)).2
        have q1 := (C1.out _ (.tail _ (.head _))).2
        have q2 := (C1.out _ (.tail _ (.tail _ (.head _)))).2
        have q3 := (C1.out _ (.tail _ (.tail _ (.tail _ (.head _))))).2
        go_wp2
        go_quiet (fail)
        have C2 := Lib.hid (C1.out.below (drewN_below u1 nq))
        have E2 := belowT E1 (drewN_below u1 nq)
        clear q0 q1 q2 q3
        generalize u1.drewN nq = u2 at *
        have q0 := (C2.out _ (.head _)).2
        have q1 := (C2.out _ (.tail _ (.head _))).2
        have q2 := (C2.out _ (.tail _ (.tail _ (.head _)))).2
        have q3 := (C2.out _ (.tail _ (.tail _ (.tail _ (.head _))))).2
        go_wp2
        go_roundw
        case rel => exact ⟨k + 1, by omega, by go_num, E2⟩
        case measure => simp [intOf]; omega
    · have hend : k = n := by omega
      clear hlt
      have hb3r := belowT hb13 hbel
      subst hend
      have x0 := (hb3r.cell (p := ⟨B0, O0 + j, none⟩) kb0).trans CA.out
      have x1 := (hb3r.cell (p := ⟨B1, O1 + j, none⟩) kb1).trans CB.out
      obtain ⟨a, ha⟩ : ∃ a, za.getD j 0 = a := ⟨_, rfl⟩
      obtain ⟨b, hb⟩ : ∃ b, zb.getD j 0 = b := ⟨_, rfl⟩
      rw [ha] at x0
      rw [hb] at x1
      have HAa := Lib.hid ha
      have HBb := Lib.hid hb
      clear ha hb
      go_wp2
      have xa := IA.out (za.getD j 0) (by simp [LA.out, hj])
      have xb := IB.out (zb.getD j 0) (by simp [LB.out, hj])
      rw [HAa.out] at xa
      rw [HBb.out] at xb
      have f1 : Hid (Fit [a] [b] 1) := Lib.hid ⟨rfl, rfl, by omega, fun z h => by simp at h; rw [h]; exact xa, fun z h => by simp at h; rw [h]; exact xb⟩
      have kr0 : B0 < wr.heap.size := Nat.lt_of_lt_of_le kb0 hb3r.size
      have kr1 : B1 < wr.heap.size := Nat.lt_of_lt_of_le kb1 hb3r.size
      have z0 : wr.drew.cell? ⟨B0, O0 + j, none⟩ = some (.int .i64 a) := x0
      have z1 : wr.drew.cell? ⟨B1, O1 + j, none⟩ = some (.int .i64 b) := x1
      have z2 : ∀ A, (wr.drew.alloc A).cell? ⟨B0, O0 + j, none⟩ = some (.int .i64 a) := fun A => ((((Below.refl wr.heap.size wr).drew).alloc (Nat.le_refl _) A).cell (p := ⟨B0, O0 + j, none⟩) kr0).trans x0
      have z3 : ∀ A, (wr.drew.alloc A).cell? ⟨B1, O1 + j, none⟩ = some (.int .i64 b) := fun A => ((((Below.refl wr.heap.size wr).drew).alloc (Nat.le_refl _) A).cell (p := ⟨B1, O1 + j, none⟩) kr1).trans x1
      generalize decide (k ≤ j) = D1
      generalize decide ((j : Int) < 0) = D2
      have KEEP := Lib.hid (fun (W : World) (hW : Below wr.heap.size wr W) => (⟨(hW.cell (p := ⟨B0, O0 + j, none⟩) kr0).trans x0, (hW.cell (p := ⟨B1, O1 + j, none⟩) kr1).trans x1, hW⟩ : W.cell? ⟨B0, O0 + j, none⟩ = some (.int .i64 a) ∧ W.cell? ⟨B1, O1 + j, none⟩ = some (.int .i64 b) ∧ Below wr.heap.size wr W))
      have HC := Lib.hid (fun (v v' : Value) (W : World) (r : Rd W v [a]) (r' : Rd W v' [b]) => split_ok v v' [a] [b] 1 W f1.out r r')
      clear z0 z1 z2 z3
      refine wp_forget (fun ac a' w' => ∃ gx gy m1 m2 : Nat, a' = ((((((((((((((((((ac.put (some 107) (.slice (some ⟨B0, O0, none⟩) k c0)).put (some 108) (.int .i64 j)).put (some 109) (.pointer (some ⟨B0, O0 + j, none⟩))).put (some 110) (.int .i64 a)).put (some 111) (.slice (some ⟨m1, 0, none⟩) 1 1)).put (some 112) (.slice (some ⟨B1, O1, none⟩) k c1)).put (some 113) (.int .i64 j)).put (some 114) (.pointer (some ⟨B1, O1 + j, none⟩))).put (some 115) (.int .i64 b)).put (some 116) (.slice (some ⟨m2, 0, none⟩) 1 1)).put (some 117) (.tuple #[.slice (some ⟨gx, 0, none⟩) 1 1, .slice (some ⟨gy, 0, none⟩) 1 1, .int .i64 0])).put (some 106) (.tuple #[.slice (some ⟨gx, 0, none⟩) 1 1, .slice (some ⟨gy, 0, none⟩) 1 1, .int .i64 0])).put (some 118) (.slice (some ⟨gx, 0, none⟩) 1 1)).put (some 119) (.slice (some ⟨gy, 0, none⟩) 1 1)).put (some 120) (.int .i64 0)).put (some 16) (.slice (some ⟨gx, 0, none⟩) 1 1)).put (some 17) (.slice (some ⟨gy, 0, none⟩) 1 1)).put (some 18) (.int .i64 0)) ∧ (gx < w'.heap.size ∧ gy < w'.heap.size ∧ w'.cell? ⟨gx, 0, none⟩ = some (.int .i64 (kept (half (a + b)))) ∧ w'.cell? ⟨gy, 0, none⟩ = some (.int .i64 (kept (half (a - b))))) ∧ Below wr.heap.size wr w') ?_ ?_
      · go_region_held3 (fun w' => w'.cell? ⟨B0, O0 + j, none⟩ = some (.int .i64 a) ∧ w'.cell? ⟨B1, O1 + j, none⟩ = some (.int .i64 b) ∧ Below wr.heap.size wr w') (exact KEEP.out _ (by first | exact (Below.refl _ _).drew | exact ((‹_ ∧ _ ∧ Below _ _ _›).2.2).alloc ((‹_ ∧ _ ∧ Below _ _ _›).2.2).size _ | exact belowT ((‹_ ∧ _ ∧ Below _ _ _›).2.2) BB.out | exact belowT (two_allocd _ _ _) BB.out)) ((go_at_call 5; ((with_reducible refine (HC.out _ _ _ (by first | exact one_rd1 _ a b | exact one_rd2 _ b a | exact (one_rd1 _ a b).below ((Below.refl _ _).drew) | exact (one_rd2 _ b a).below ((Below.refl _ _).drew)) (by first | exact one_rd2 _ a b | exact one_rd1 _ b a | exact (one_rd2 _ a b).below ((Below.refl _ _).drew) | exact (one_rd1 _ b a).below ((Below.refl _ _).drew))).mono ?_); rintro e w9 ⟨gx, gy, rfl, _, rx', ry', hb9⟩; have cx := Lib.hid (rx'.cell (i := 0) (by decide)); have cy := Lib.hid (ry'.cell (i := 0) (by decide)); have lx := rx'.lt; have ly := ry'.lt; have BB := Lib.hid hb9; clear rx' ry' hb9)))
        all_goals
          first
            | exact ⟨rfl, gx, gy, wr.heap.size, wr.heap.size + 1, (by first | rfl | simp only [Act.put, List.setIfInBounds_toArray, List.set_cons_zero, List.set_cons_succ]), ⟨lx, ly, cx.out, cy.out⟩, belowT (two_allocd _ _ _) BB.out⟩
            | exact ⟨rfl, gx, gy, wr.heap.size + 1, wr.heap.size, (by first | rfl | simp only [Act.put, List.setIfInBounds_toArray, List.set_cons_zero, List.set_cons_succ]), ⟨lx, ly, cx.out, cy.out⟩, belowT (two_allocd _ _ _) BB.out⟩
      rintro a' w9 ⟨gx, gy, m1, m2, rfl, ⟨lx, ly, cx, cy⟩, hb9⟩
      have hb10 := belowT hb3r hb9
      have CX := Lib.hid cx
      have CY := Lib.hid cy
      clear cx cy kr0 kr1 x0 x1 KEEP HC
      simp only [Act.put, List.setIfInBounds_toArray, List.set_cons_zero, List.set_cons_succ]
      go_wp2_with (go_at_call 7; ((with_reducible refine (join_ok _ _ za zb _ _ HF.out (RA.out.below hb10) (RB.out.below hb10)).mono ?_); rintro e w11 ⟨gl, gr, rfl, _, rl', rr', hb11⟩; have rl := Lib.hid rl'; have rr := Lib.hid rr'; clear rl' rr'; have hb12' := belowT hb10 hb11; have x0 := (hb12'.cell (p := ⟨B0, O0 + j, none⟩) kb0).trans CA.out; have x1 := (hb12'.cell (p := ⟨B1, O1 + j, none⟩) kb1).trans CB.out; rw [HAa.out] at x0; rw [HBb.out] at x1))
      have kr0 : B0 < w11.heap.size := Nat.lt_of_lt_of_le kb0 hb12'.size
      have kr1 : B1 < w11.heap.size := Nat.lt_of_lt_of_le kb1 hb12'.size
      have z0 : w11.drew.cell? ⟨B0, O0 + j, none⟩ = some (.int .i64 a) := x0
      have z1 : w11.drew.cell? ⟨B1, O1 + j, none⟩ = some (.int .i64 b) := x1
      have z2 : ∀ A, (w11.drew.alloc A).cell? ⟨B0, O0 + j, none⟩ = some (.int .i64 a) := fun A => ((((Below.refl w11.heap.size w11).drew).alloc (Nat.le_refl _) A).cell (p := ⟨B0, O0 + j, none⟩) kr0).trans x0
      have z3 : ∀ A, (w11.drew.alloc A).cell? ⟨B1, O1 + j, none⟩ = some (.int .i64 b) := fun A => ((((Below.refl w11.heap.size w11).drew).alloc (Nat.le_refl _) A).cell (p := ⟨B1, O1 + j, none⟩) kr1).trans x1
      have KEEP := Lib.hid (fun (W : World) (hW : Below w11.heap.size w11 W) => (⟨(hW.cell (p := ⟨B0, O0 + j, none⟩) kr0).trans x0, (hW.cell (p := ⟨B1, O1 + j, none⟩) kr1).trans x1, hW⟩ : W.cell? ⟨B0, O0 + j, none⟩ = some (.int .i64 a) ∧ W.cell? ⟨B1, O1 + j, none⟩ = some (.int .i64 b) ∧ Below w11.heap.size w11 W))
      have HC := Lib.hid (fun (v v' : Value) (W : World) (r : Rd W v [a]) (r' : Rd W v' [b]) => join_ok v v' [a] [b] 1 W f1.out r r')
      clear z0 z1 z2 z3
      refine wp_forget (fun ac a' w' => ∃ gu gv m1 m2 : Nat, a' = ((((((((((((((((((ac.put (some 129) (.slice (some ⟨B0, O0, none⟩) k c0)).put (some 130) (.int .i64 j)).put (some 131) (.pointer (some ⟨B0, O0 + j, none⟩))).put (some 132) (.int .i64 a)).put (some 133) (.slice (some ⟨m1, 0, none⟩) 1 1)).put (some 134) (.slice (some ⟨B1, O1, none⟩) k c1)).put (some 135) (.int .i64 j)).put (some 136) (.pointer (some ⟨B1, O1 + j, none⟩))).put (some 137) (.int .i64 b)).put (some 138) (.slice (some ⟨m2, 0, none⟩) 1 1)).put (some 139) (.tuple #[.slice (some ⟨gu, 0, none⟩) 1 1, .slice (some ⟨gv, 0, none⟩) 1 1, .int .i64 0])).put (some 128) (.tuple #[.slice (some ⟨gu, 0, none⟩) 1 1, .slice (some ⟨gv, 0, none⟩) 1 1, .int .i64 0])).put (some 140) (.slice (some ⟨gu, 0, none⟩) 1 1)).put (some 141) (.slice (some ⟨gv, 0, none⟩) 1 1)).put (some 142) (.int .i64 0)).put (some 22) (.slice (some ⟨gu, 0, none⟩) 1 1)).put (some 23) (.slice (some ⟨gv, 0, none⟩) 1 1)).put (some 24) (.int .i64 0)) ∧ (gu < w'.heap.size ∧ gv < w'.heap.size ∧ w'.cell? ⟨gu, 0, none⟩ = some (.int .i64 (kept (a + b))) ∧ w'.cell? ⟨gv, 0, none⟩ = some (.int .i64 (kept (a - b)))) ∧ Below w11.heap.size w11 w') ?_ ?_
      · go_region_held3 (fun w' => w'.cell? ⟨B0, O0 + j, none⟩ = some (.int .i64 a) ∧ w'.cell? ⟨B1, O1 + j, none⟩ = some (.int .i64 b) ∧ Below w11.heap.size w11 w') (exact KEEP.out _ (by first | exact (Below.refl _ _).drew | exact ((‹_ ∧ _ ∧ Below _ _ _›).2.2).alloc ((‹_ ∧ _ ∧ Below _ _ _›).2.2).size _ | exact belowT ((‹_ ∧ _ ∧ Below _ _ _›).2.2) BB.out | exact belowT (two_allocd _ _ _) BB.out)) ((go_at_call 7; ((with_reducible refine (HC.out _ _ _ (by first | exact one_rd1 _ a b | exact one_rd2 _ b a | exact (one_rd1 _ a b).below ((Below.refl _ _).drew) | exact (one_rd2 _ b a).below ((Below.refl _ _).drew)) (by first | exact one_rd2 _ a b | exact one_rd1 _ b a | exact (one_rd2 _ a b).below ((Below.refl _ _).drew) | exact (one_rd1 _ b a).below ((Below.refl _ _).drew))).mono ?_); rintro e w13 ⟨gu, gv, rfl, _, rx', ry', hb13q⟩; have cu := Lib.hid (rx'.cell (i := 0) (by decide)); have cv := Lib.hid (ry'.cell (i := 0) (by decide)); have lu := rx'.lt; have lv := ry'.lt; have BB := Lib.hid hb13q; clear rx' ry' hb13q)))
        all_goals
          first
            | exact ⟨rfl, gu, gv, w11.heap.size, w11.heap.size + 1, (by first | rfl | simp only [Act.put, List.setIfInBounds_toArray, List.set_cons_zero, List.set_cons_succ]), ⟨lu, lv, cu.out, cv.out⟩, belowT (two_allocd _ _ _) BB.out⟩
            | exact ⟨rfl, gu, gv, w11.heap.size + 1, w11.heap.size, (by first | rfl | simp only [Act.put, List.setIfInBounds_toArray, List.set_cons_zero, List.set_cons_succ]), ⟨lu, lv, cu.out, cv.out⟩, belowT (two_allocd _ _ _) BB.out⟩
      rintro a' w13 ⟨gu, gv, m3, m4, rfl, ⟨lu, lv, cu, cv⟩, hb14⟩
      have hbe := belowT hb12' hb14
      have q0 := cu
      have q1 := cv
      have q2 := (hb14.cell (p := ⟨gx, 0, none⟩) (Nat.lt_of_lt_of_le lx hb11.size)).trans ((hb11.cell (p := ⟨gx, 0, none⟩) lx).trans CX.out)
      have q3 := (hb14.cell (p := ⟨gy, 0, none⟩) (Nat.lt_of_lt_of_le ly hb11.size)).trans ((hb11.cell (p := ⟨gy, 0, none⟩) ly).trans CY.out)
      have t0 := (rl.out.of_block (hb14.block _ rl.out.lt)).cell hj
      have t1 := (rr.out.of_block (hb14.block _ rr.out.lt)).cell hj
      have hb9e := belowT hb9 (belowT hb11 hb14)
      have R0 := rm3.out.of_block ((belowT hbel hb9e).block _ rm3.out.lt)
      have R2 := rs3.out.of_block ((belowT hbel hb9e).block _ rs3.out.lt)
      have t2 := R0.cell hj
      have t3 := R2.cell hj
      have em : m j = kept (half (a + b)) := by rw [HM.out]; dsimp only; rw [HAa.out, HBb.out]
      have es : s j = kept (half (a - b)) := by rw [HSs.out]; dsimp only; rw [HAa.out, HBb.out]
      rw [em] at t2
      rw [es] at t3
      rw [HAa.out, HBb.out] at t0 t1
      clear em es R0 R2 cu cv CX CY x0 x1 KEEP HC
      generalize kept (half (a + b)) = p at *
      generalize kept (half (a - b)) = q at *
      generalize kept (a + b) = u at *
      generalize kept (a - b) = v at *
      simp only [Act.put, List.setIfInBounds_toArray, List.set_cons_zero, List.set_cons_succ]
      go_wp2
      go_quiet (fail)
      go_wp2
      go_ret
      exact ⟨rfl, belowT hbe (drewN_below _ _)⟩

set_option maxRecDepth 100000 in
theorem long (a0 a1 : Option Addr) (l0 l1 c0 c1 : Nat) (at' : Int) (w : World) (m0 : l0 ≤ maxLen) (m1 : l1 ≤ maxLen) (h : 1000 < l0 ∨ 1000 < l1) :
    Calls Try.prog 4 #[.slice a0 l0 c0, .slice a1 l1 c1, .int .i64 at'] w fun e w' => e = .returned (.bool true) ∧ Below w.heap.size w w' := by
  unfold maxLen at m0 m1
  by_cases h0 : 1000 < l0
  · go_enter Try.func4, Try.ntmps4
    go_wp2_with (go_at_call 10; ((with_reducible refine (md_alive _).mono ?_); rintro e w1 ⟨rfl, hb1⟩))
    go_ret
    exact ⟨rfl, hb1⟩
  · have h1 : 1000 < l1 := by omega
    clear h
    go_enter Try.func4, Try.ntmps4
    go_wp2_with (go_at_call 10; ((with_reducible refine (md_alive _).mono ?_); rintro e w1 ⟨rfl, hb1⟩))
    go_ret
    exact ⟨rfl, hb1⟩
set_option maxRecDepth 100000 in
theorem err (a0 a1 : Option Addr) (c0 c1 : Nat) (at' : Int) (za zb : List Int) (w : World) (m0 : za.length ≤ 1000) (m1 : zb.length ≤ 1000) (hn : ¬ ∃ n, Fit za zb n) (ra : Rd w (.slice a0 za.length c0) za) (rb : Rd w (.slice a1 zb.length c1) zb) :
    Calls Try.prog 4 #[.slice a0 za.length c0, .slice a1 zb.length c1, .int .i64 at'] w fun e w' => e = .returned (.bool true) ∧ Below w.heap.size w w' := by
  have hn2 : ¬ ∃ n, Fit zb za n := by rintro ⟨n, h1, h2, h3, h4, h5⟩; exact hn ⟨n, h2, h1, h3, h5, h4⟩
  have HS := Lib.hid (fun w1 (hw : Below w.heap.size w w1) => split_bad _ _ za zb m0 m1 hn w1 (ra.below hw) (rb.below hw))
  have HT := fun w1 (hw : Below w.heap.size w w1) => split_bad _ _ zb za m1 m0 hn2 w1 (rb.below hw) (ra.below hw)
  rw [ce_swap zb za] at HT
  have HT := Lib.hid HT
  have hr := ce_bd za zb
  generalize ce za zb = r at *
  obtain ⟨_, _⟩ := hr
  have r1 : (r != 0) = true := by simp; omega
  clear hn hn2 ra rb
  generalize za.length = l0 at *
  generalize zb.length = l1 at *
  go_enter Try.func4, Try.ntmps4
  go_wp2_with (first
    | (go_at_call 10; ((with_reducible refine (md_alive _).mono ?_); rintro e w1 ⟨rfl, hb1⟩))
    | (go_at_call 5; have hq := hb2; clear hq; ((with_reducible refine (HT.out _ (belowT hb1 hb2)).mono ?_); rintro e w3 ⟨rfl, hb3⟩))
    | (go_at_call 5; ((with_reducible refine (HS.out _ hb1).mono ?_); rintro e w2 ⟨rfl, hb2⟩)))
  go_ret
  exact ⟨rfl, belowT hb1 (belowT hb2 hb3)⟩
theorem walk (a0 : Option Addr) (l0 c0 : Nat) (z0 : List Int) (a1 : Option Addr) (l1 c1 : Nat) (z1 : List Int) (at' : Int) (w : World) (w0 : IsRow .i64 w a0 l0 c0 z0) (w1 : IsRow .i64 w a1 l1 c1 z1) (_ : (Lit.int .i64 at').wf = true) :
    Calls Try.prog 4 #[.slice a0 l0 c0, .slice a1 l1 c1, .int .i64 at'] w fun e w' => e = .returned (.bool true) ∧ Below w.heap.size w w' := by
  by_cases h : 1000 < l0 ∨ 1000 < l1
  · exact long a0 a1 l0 l1 c0 c1 at' w w0.le w1.le h
  obtain ⟨za, la, ra, _⟩ := w0.rd
  obtain ⟨zb, lb, rb, _⟩ := w1.rd
  subst la
  subst lb
  by_cases hf : ∃ n, Fit za zb n
  · obtain ⟨n, hf⟩ := hf
    have h1 := hf.1
    have h2 := hf.2.1
    rw [h1] at ra ⊢
    rw [h2] at rb ⊢
    by_cases hat : at' < 0 ∨ (n : Int) ≤ at'
    · exact out a0 a1 c0 c1 n at' za zb w hf ra rb hat
    · obtain ⟨j, rfl⟩ : ∃ j : Nat, at' = (j : Int) := ⟨at'.toNat, by omega⟩
      have hj : j < n := by omega
      have ra' := ra
      have rb' := rb
      rcases ra with ⟨_, _, e, _⟩ | ⟨b, off, cap, e, k2, _, _, k5⟩
      · simp only [Value.slice.injEq] at e; omega
      rcases rb with ⟨_, _, e', _⟩ | ⟨b', off', cap', e', k2', _, _, k5'⟩
      · simp only [Value.slice.injEq] at e'; omega
      simp only [Value.slice.injEq] at e e'
      rw [h1] at k5
      rw [h2] at k5'
      obtain ⟨rfl, _, rfl⟩ := e
      obtain ⟨rfl, _, rfl⟩ := e'
      exact ins b off b' off' _ _ n j za zb w hf ra' rb' hj k2 k2' k5 k5'
  · exact err a0 a1 c0 c1 at' za zb w (by omega) (by omega) hf ra rb

theorem own : ownKnob Try.prog.godebug = none := by kernel_rfl
theorem laidOut : laidOutB Try.prog = true := by kernel_rfl
set_option linter.unusedVariables false
set_option maxRecDepth 100000 in
theorem lifted (os : Os) (started : os.Started) (H : Type) (enc : TypeId × Value → H) :
    ReturnsInHanded {} Try.checked os 4 .any (Rows.midTurnsSpec.pre6 enc Try.prog Try.f4 Rows.midTurnsRow.domain false) (Rows.midTurnsSpec.post enc Try.prog Try.f4 false true false false) := by
  refine returnsInHanded_of_change (C := Try.checked) own started (by kernel_rfl) Try.func4
    (ChangeSpec.witness6 (enc := enc) (C := Try.checked) false ⟨#[], #[.slice none 0 0, .slice none 0 0, .int .i64 0], []⟩ 8 (by kernel_rfl) (by kernel_rfl) (by kernel_rfl) (by kernel_rfl)) ?_
  intro W base args ds gs before hval0 hW hcnd _
  have hval : ∀ (j : Nat) t v, Try.f4.params[j]? = some t → args[j]? = some v → Value.okWide Try.prog W .any base t v := hval0
  have hW' := hW
  obtain ⟨p, q, hA0, hV, rfl, hfz, hnd⟩ := hW
  have hA : DataW.TrodAll enc Try.prog W 0 (fun _ => true) true Try.f4.params.toList args.toList ds p := hA0
  rw [Try.params4] at hA hval
  obtain ⟨v0, vs0, d0, ds0, p0, q0, hargs, rfl, rfl, h0, r0⟩ := trodAll_cons hA
  obtain ⟨v1, vs1, d1, ds1, p1, q1, rfl, rfl, rfl, h1, r1⟩ := trodAll_cons r0
  obtain ⟨v2, vs2, d2, ds2, p2, q2, rfl, rfl, rfl, h2, r2⟩ := trodAll_cons r1
  obtain ⟨rfl, rfl, rfl⟩ := trodAll_nil r2
  obtain rfl : args = #[v0, v1, v2] := by cases args; simp_all
  obtain ⟨rfl, rfl⟩ := trodVars_none hV
  obtain ⟨a0, len0, cap0, rfl⟩ := okWide_slice Try.underlying22 (hval 0 22 v0 rfl rfl)
  have k0 := h0
  have lt0 : ∀ x ∈ p0, x.block < W.heap.size := by obtain ⟨m, hm⟩ := k0; exact DataW.trod_lt m _ _ _ hm
  obtain ⟨z0, w0⟩ : ∃ zs, IsRow .i64 W a0 len0 cap0 zs := by
    obtain ⟨fuel, hf⟩ := h0
    rcases open_ints Try.underlying22 Try.underlying3 (by kernel_rfl) hf with ⟨hcs, _⟩ | ⟨x, l, c, zs, hcs, _, hl, hm, hz, _, hcell, hwz⟩
    · simp [Value.cells] at hcs
      obtain ⟨rfl, rfl, rfl⟩ := hcs
      exact ⟨[], .inl ⟨rfl, rfl, rfl, rfl⟩⟩
    · simp [Value.cells] at hcs
      obtain ⟨rfl, rfl, rfl⟩ := hcs
      exact ⟨zs, .inr ⟨_, rfl, hl, hm, by simpa using hz, hcell, hwz⟩⟩
  obtain ⟨a1, len1, cap1, rfl⟩ := okWide_slice Try.underlying22 (hval 1 22 v1 rfl rfl)
  have k1 := h1
  have lt1 : ∀ x ∈ p1, x.block < W.heap.size := by obtain ⟨m, hm⟩ := k1; exact DataW.trod_lt m _ _ _ hm
  obtain ⟨z1, w1⟩ : ∃ zs, IsRow .i64 W a1 len1 cap1 zs := by
    obtain ⟨fuel, hf⟩ := h1
    rcases open_ints Try.underlying22 Try.underlying3 (by kernel_rfl) hf with ⟨hcs, _⟩ | ⟨x, l, c, zs, hcs, _, hl, hm, hz, _, hcell, hwz⟩
    · simp [Value.cells] at hcs
      obtain ⟨rfl, rfl, rfl⟩ := hcs
      exact ⟨[], .inl ⟨rfl, rfl, rfl, rfl⟩⟩
    · simp [Value.cells] at hcs
      obtain ⟨rfl, rfl, rfl⟩ := hcs
      exact ⟨zs, .inr ⟨_, rfl, hl, hm, by simpa using hz, hcell, hwz⟩⟩
  obtain ⟨a2, rfl, rfl, rfl, w2⟩ := open_int Try.underlying3 (hval 2 3 v2 rfl rfl) h2
  clear hA0 hval0
  refine (walk a0 len0 cap0 z0 a1 len1 cap1 z1 a2 W w0 w1 w2).mono fun e W' ⟨he, bel⟩ => ?_
  subst he
  exact ⟨_, rfl, _, _, _, [], _, [], hW', trodAll_mk1 (shut_bool Try.underlying4 _), (trodAll_cons_mk (Below.trod laidOut (by kernel_rfl) (of_decide_eq_true (by kernel_rfl)) k0 bel lt0) (trodAll_cons_mk (Below.trod laidOut (by kernel_rfl) (of_decide_eq_true (by kernel_rfl)) k1 bel lt1) (trodAll_cons_mk (shut_int Try.underlying3 w2) trodAll_mk0))), rfl, bel.frame _, fun h => by cases h⟩

theorem over : Rows.midTurnsRow.holds Try.pinned (OpenSpec.ofChange Rows.midTurnsSpec) :=
  OpenClaim.holds_of_wide 4 Try.f4 rfl rfl rfl rfl rfl rfl rfl ⟨rfl, rfl, rfl, rfl, rfl⟩ rfl rfl rfl rfl rfl (by kernel_rfl) Try.func4 (by kernel_rfl)
    (of_decide_eq_true (by kernel_rfl)) (by unfold Func.isWrapper; first | (rw [if_pos (by decide +kernel)]; kernel_rfl) | (rw [if_neg (by decide +kernel)]; exact ⟨rfl, rfl⟩))
    (fun os started H enc _ => lifted os started H enc)

theorem proved : Rows.MidTurnsSaid := over
end Go.Proofs.Ytbblbahllaindaa.midTurns
