/- What was is forgotten. LapForgets returns true, whatever the arguments, the memory and the schedule. No condition. -/
import Derived.Test.YteknakakefhbmaaLpPub
import Derived.Test.YteknakakefhbmaaLpOp
import Derived.WalkKit
import Derived.Below
import Derived.RegionTactic
import Derived.Deep.QuietTactic
import Derived.BigQuiet
import Derived.ChangeAlike
import Derived.Deep.OwnRows
import Derived.Deep.RegionLaw
import Derived.ProofKit
import Derived.OpenShut
import Derived.ChangeSlices
import Derived.Lib.Hide
import Derived.Great.Walk
import Derived.ChangeKeysEq
import Derived.ChangeOld
import Derived.ShutString
namespace Go.Proofs.Yteknakakefhbmaa.lapForgets
open Go Go.ChangeShapes Go.WideShapes Go.ChangeAt Go.RowKit Go.Proofs.Yteknakakefhbmaa.Fx Go.Proofs.Yteknakakefhbmaa.Rk Go.Proofs.Yteknakakefhbmaa.Mm Go.Proofs.Yteknakakefhbmaa.Md Go.Proofs.Yteknakakefhbmaa.Bl Go.Proofs.Yteknakakefhbmaa.Lp Go.Proofs.Yteknakakefhbmaa.Cpy

theorem u8_lo {x : Int} (h : (Lit.int .u8 x).wf = true) : 0 ≤ x := by simp [Lit.wf] at h; have e : IntKind.u8.min = 0 := rfl; omega
/-- A cell of three, and a list, that are there. -/
def Bx (w : World) (g : Nat) (x y z : Value) : Prop := g < w.heap.size ∧ w.cell? ⟨g, 0, none⟩ = some x ∧ w.cell? ⟨g, 1, none⟩ = some y ∧ w.cell? ⟨g, 2, none⟩ = some z
def Lx (w : World) (g : Nat) (T : List Int) : Prop := g < w.heap.size ∧ ∀ j, j < 256 → w.cell? ⟨g, j, none⟩ = some (.int .i64 (T.getD j 0))
theorem Bx.below {w w' : World} {g : Nat} {x y z : Value} (h : Bx w g x y z) (hb : Below w.heap.size w w') : Bx w' g x y z := ⟨Nat.lt_of_lt_of_le h.1 hb.size, (hb.cell (p := ⟨g, 0, none⟩) h.1).trans h.2.1, (hb.cell (p := ⟨g, 1, none⟩) h.1).trans h.2.2.1, (hb.cell (p := ⟨g, 2, none⟩) h.1).trans h.2.2.2⟩
theorem Lx.below {w w' : World} {g : Nat} {T : List Int} (h : Lx w g T) (hb : Below w.heap.size w w') : Lx w' g T := ⟨Nat.lt_of_lt_of_le h.1 hb.size, fun j hj => (hb.cell (p := ⟨g, j, none⟩) h.1).trans (h.2 j hj)⟩
theorem Lx.rd {w : World} {g : Nat} {T : List Int} (h : Lx w g T) (hl : T.length = 256) : RdA w (some ⟨g, 0, none⟩) T := cells_rd h.1 hl h.2
theorem bx_new (w : World) (x y z : Value) : Bx (w.alloc (.cells #[x, y, z] 38)) w.heap.size x y z := ⟨by simp, (box38 w x y z).1, (box38 w x y z).2.1, (box38 w x y z).2.2⟩
theorem al_new (w : World) (o : Obj) : Below w.heap.size w (w.alloc o) := (Below.refl _ w).alloc (Nat.le_refl _) o
theorem bx_two (w : World) (x y z p q r : Value) : Bx ((w.alloc (.cells #[x, y, z] 38)).alloc (.cells #[p, q, r] 38)) (w.heap.size + 1) p q r := by
  have h := bx_new (w.alloc (.cells #[x, y, z] 38)) p q r
  rwa [show (w.alloc (.cells #[x, y, z] 38)).heap.size = w.heap.size + 1 by simp] at h
theorem clp_in (x : Int) : -32768 ≤ clp x 16 ∧ clp x 16 ≤ 32767 := by rw [clp16]; omega
set_option maxRecDepth 100000 in
set_option maxHeartbeats 8000000 in
theorem far0 (a b o t : Option Addr) (ca cb co ct : Nat) (xa xb ys zs : List Int) (sa ha sb hb q sh : Int) (w : World) (RA : RdA w a xa) (RB : RdA w b xb) (RO : RdA w o ys) (RT : RdA w t zs) (ko : ys.length ≤ co ∧ co ≤ maxLen) (kt : zs.length ≤ ct ∧ ct ≤ maxLen) (q0 : 0 ≤ q) (p0 : 0 ≤ sh) (h0 : 0 ≤ ha) (h1 : 0 ≤ hb) (n1 : 1000 < xa.length) :
    Calls Try.prog 11 #[.agg #[.slice a xa.length ca, .int .u8 sa, .int .u8 ha], .agg #[.slice b xb.length cb, .int .u8 sb, .int .u8 hb], .int .u8 q, .int .u8 sh, .slice o ys.length co, .slice t zs.length ct] w fun e w' => e = .returned (.bool true) ∧ Below w.heap.size w w' := by
  have d1 : decide (1000 < (xa.length : Int)) = true := decide_eq_true (by omega)
  clear RA RB RO RT
  go_enter Try.func11, Try.ntmps11
  go_wp2_with first
    | (go_at_call 24; ((with_reducible refine (Lp.alive_ok _).mono ?_); rintro e w4 ⟨rfl, hb4⟩; have XB := Lib.hid (((bx_new w (.slice a xa.length ca) (.int .u8 sa) (.int .u8 ha)).below (al_new _ _)).below hb4); have YB := Lib.hid ((bx_two w (.slice a xa.length ca) (.int .u8 sa) (.int .u8 ha) (.slice b xb.length cb) (.int .u8 sb) (.int .u8 hb)).below hb4); have B4 := Lib.hid (bt (bt (al_new w _) (al_new _ _)) hb4); obtain ⟨_, X0, X1, X2⟩ := XB.out; obtain ⟨_, Y0, Y1, Y2⟩ := YB.out; clear hb4))
  go_ret
  exact ⟨rfl, B4.out⟩
set_option maxRecDepth 100000 in
set_option maxHeartbeats 8000000 in
theorem far1 (a b o t : Option Addr) (ca cb co ct : Nat) (xa xb ys zs : List Int) (sa ha sb hb q sh : Int) (w : World) (RA : RdA w a xa) (RB : RdA w b xb) (RO : RdA w o ys) (RT : RdA w t zs) (ko : ys.length ≤ co ∧ co ≤ maxLen) (kt : zs.length ≤ ct ∧ ct ≤ maxLen) (q0 : 0 ≤ q) (p0 : 0 ≤ sh) (h0 : 0 ≤ ha) (h1 : 0 ≤ hb) (n1 : ¬ 1000 < xa.length) (n2 : 1000 < xb.length) :
    Calls Try.prog 11 #[.agg #[.slice a xa.length ca, .int .u8 sa, .int .u8 ha], .agg #[.slice b xb.length cb, .int .u8 sb, .int .u8 hb], .int .u8 q, .int .u8 sh, .slice o ys.length co, .slice t zs.length ct] w fun e w' => e = .returned (.bool true) ∧ Below w.heap.size w w' := by
  have d1 : decide (1000 < (xa.length : Int)) = false := decide_eq_false (by omega)
  have d2 : decide (1000 < (xb.length : Int)) = true := decide_eq_true (by omega)
  clear RA RB RO RT
  go_enter Try.func11, Try.ntmps11
  go_wp2_with first
    | (go_at_call 24; ((with_reducible refine (Lp.alive_ok _).mono ?_); rintro e w4 ⟨rfl, hb4⟩; have XB := Lib.hid (((bx_new w (.slice a xa.length ca) (.int .u8 sa) (.int .u8 ha)).below (al_new _ _)).below hb4); have YB := Lib.hid ((bx_two w (.slice a xa.length ca) (.int .u8 sa) (.int .u8 ha) (.slice b xb.length cb) (.int .u8 sb) (.int .u8 hb)).below hb4); have B4 := Lib.hid (bt (bt (al_new w _) (al_new _ _)) hb4); obtain ⟨_, X0, X1, X2⟩ := XB.out; obtain ⟨_, Y0, Y1, Y2⟩ := YB.out; clear hb4))
  go_ret
  exact ⟨rfl, B4.out⟩
set_option maxRecDepth 100000 in
set_option maxHeartbeats 8000000 in
theorem far2 (a b o t : Option Addr) (ca cb co ct : Nat) (xa xb ys zs : List Int) (sa ha sb hb q sh : Int) (w : World) (RA : RdA w a xa) (RB : RdA w b xb) (RO : RdA w o ys) (RT : RdA w t zs) (ko : ys.length ≤ co ∧ co ≤ maxLen) (kt : zs.length ≤ ct ∧ ct ≤ maxLen) (q0 : 0 ≤ q) (p0 : 0 ≤ sh) (h0 : 0 ≤ ha) (h1 : 0 ≤ hb) (n1 : ¬ 1000 < xa.length) (n2 : ¬ 1000 < xb.length) (n3 : 1000 < ys.length) :
    Calls Try.prog 11 #[.agg #[.slice a xa.length ca, .int .u8 sa, .int .u8 ha], .agg #[.slice b xb.length cb, .int .u8 sb, .int .u8 hb], .int .u8 q, .int .u8 sh, .slice o ys.length co, .slice t zs.length ct] w fun e w' => e = .returned (.bool true) ∧ Below w.heap.size w w' := by
  have d1 : decide (1000 < (xa.length : Int)) = false := decide_eq_false (by omega)
  have d2 : decide (1000 < (xb.length : Int)) = false := decide_eq_false (by omega)
  have d3 : decide (1000 < (ys.length : Int)) = true := decide_eq_true (by omega)
  clear RA RB RO RT
  go_enter Try.func11, Try.ntmps11
  go_wp2_with first
    | (go_at_call 24; ((with_reducible refine (Lp.alive_ok _).mono ?_); rintro e w4 ⟨rfl, hb4⟩; have XB := Lib.hid (((bx_new w (.slice a xa.length ca) (.int .u8 sa) (.int .u8 ha)).below (al_new _ _)).below hb4); have YB := Lib.hid ((bx_two w (.slice a xa.length ca) (.int .u8 sa) (.int .u8 ha) (.slice b xb.length cb) (.int .u8 sb) (.int .u8 hb)).below hb4); have B4 := Lib.hid (bt (bt (al_new w _) (al_new _ _)) hb4); obtain ⟨_, X0, X1, X2⟩ := XB.out; obtain ⟨_, Y0, Y1, Y2⟩ := YB.out; clear hb4))
  go_ret
  exact ⟨rfl, B4.out⟩
set_option maxRecDepth 100000 in
set_option maxHeartbeats 8000000 in
theorem far3 (a b o t : Option Addr) (ca cb co ct : Nat) (xa xb ys zs : List Int) (sa ha sb hb q sh : Int) (w : World) (RA : RdA w a xa) (RB : RdA w b xb) (RO : RdA w o ys) (RT : RdA w t zs) (ko : ys.length ≤ co ∧ co ≤ maxLen) (kt : zs.length ≤ ct ∧ ct ≤ maxLen) (q0 : 0 ≤ q) (p0 : 0 ≤ sh) (h0 : 0 ≤ ha) (h1 : 0 ≤ hb) (n1 : ¬ 1000 < xa.length) (n2 : ¬ 1000 < xb.length) (n3 : ¬ 1000 < ys.length) (n4 : 1000 < zs.length) :
    Calls Try.prog 11 #[.agg #[.slice a xa.length ca, .int .u8 sa, .int .u8 ha], .agg #[.slice b xb.length cb, .int .u8 sb, .int .u8 hb], .int .u8 q, .int .u8 sh, .slice o ys.length co, .slice t zs.length ct] w fun e w' => e = .returned (.bool true) ∧ Below w.heap.size w w' := by
  have d1 : decide (1000 < (xa.length : Int)) = false := decide_eq_false (by omega)
  have d2 : decide (1000 < (xb.length : Int)) = false := decide_eq_false (by omega)
  have d3 : decide (1000 < (ys.length : Int)) = false := decide_eq_false (by omega)
  have d4 : decide (1000 < (zs.length : Int)) = true := decide_eq_true (by omega)
  clear RA RB RO RT
  go_enter Try.func11, Try.ntmps11
  go_wp2_with first
    | (go_at_call 24; ((with_reducible refine (Lp.alive_ok _).mono ?_); rintro e w4 ⟨rfl, hb4⟩; have XB := Lib.hid (((bx_new w (.slice a xa.length ca) (.int .u8 sa) (.int .u8 ha)).below (al_new _ _)).below hb4); have YB := Lib.hid ((bx_two w (.slice a xa.length ca) (.int .u8 sa) (.int .u8 ha) (.slice b xb.length cb) (.int .u8 sb) (.int .u8 hb)).below hb4); have B4 := Lib.hid (bt (bt (al_new w _) (al_new _ _)) hb4); obtain ⟨_, X0, X1, X2⟩ := XB.out; obtain ⟨_, Y0, Y1, Y2⟩ := YB.out; clear hb4))
  go_ret
  exact ⟨rfl, B4.out⟩
set_option maxRecDepth 100000 in
set_option maxHeartbeats 8000000 in
theorem far4 (a b o t : Option Addr) (ca cb co ct : Nat) (xa xb ys zs : List Int) (sa ha sb hb q sh : Int) (w : World) (RA : RdA w a xa) (RB : RdA w b xb) (RO : RdA w o ys) (RT : RdA w t zs) (ko : ys.length ≤ co ∧ co ≤ maxLen) (kt : zs.length ≤ ct ∧ ct ≤ maxLen) (q0 : 0 ≤ q) (p0 : 0 ≤ sh) (h0 : 0 ≤ ha) (h1 : 0 ≤ hb) (n1 : ¬ 1000 < xa.length) (n2 : ¬ 1000 < xb.length) (n3 : ¬ 1000 < ys.length) (n4 : ¬ 1000 < zs.length) (n5 : ha ≠ hb) :
    Calls Try.prog 11 #[.agg #[.slice a xa.length ca, .int .u8 sa, .int .u8 ha], .agg #[.slice b xb.length cb, .int .u8 sb, .int .u8 hb], .int .u8 q, .int .u8 sh, .slice o ys.length co, .slice t zs.length ct] w fun e w' => e = .returned (.bool true) ∧ Below w.heap.size w w' := by
  have d1 : decide (1000 < (xa.length : Int)) = false := decide_eq_false (by omega)
  have d2 : decide (1000 < (xb.length : Int)) = false := decide_eq_false (by omega)
  have d3 : decide (1000 < (ys.length : Int)) = false := decide_eq_false (by omega)
  have d4 : decide (1000 < (zs.length : Int)) = false := decide_eq_false (by omega)
  have d5 : (ha != hb) = true := by simpa using n5
  clear RA RB RO RT
  go_enter Try.func11, Try.ntmps11
  go_wp2_with first
    | (go_at_call 24; ((with_reducible refine (Lp.alive_ok _).mono ?_); rintro e w4 ⟨rfl, hb4⟩; have XB := Lib.hid (((bx_new w (.slice a xa.length ca) (.int .u8 sa) (.int .u8 ha)).below (al_new _ _)).below hb4); have YB := Lib.hid ((bx_two w (.slice a xa.length ca) (.int .u8 sa) (.int .u8 ha) (.slice b xb.length cb) (.int .u8 sb) (.int .u8 hb)).below hb4); have B4 := Lib.hid (bt (bt (al_new w _) (al_new _ _)) hb4); obtain ⟨_, X0, X1, X2⟩ := XB.out; obtain ⟨_, Y0, Y1, Y2⟩ := YB.out; clear hb4))
  go_ret
  exact ⟨rfl, B4.out⟩
set_option maxRecDepth 100000 in
set_option maxHeartbeats 8000000 in
theorem badbad (a b o t : Option Addr) (ca cb co ct : Nat) (xa xb ys zs : List Int) (sa ha sb hb q sh : Int) (w : World) (RA : RdA w a xa) (RB : RdA w b xb) (RO : RdA w o ys) (RT : RdA w t zs) (ko : ys.length ≤ co ∧ co ≤ maxLen) (kt : zs.length ≤ ct ∧ ct ≤ maxLen) (q0 : 0 ≤ q) (p0 : 0 ≤ sh) (h0 : 0 ≤ ha) (h1 : 0 ≤ hb) (n1 : ¬ 1000 < xa.length) (n2 : ¬ 1000 < xb.length) (n3 : ¬ 1000 < ys.length) (n4 : ¬ 1000 < zs.length) (f1 : (¬ (nO xa sa ha q sh ys).err = 0)) (f2 : (¬ (nO xb sb ha q sh ys).err = 0)) :
    Calls Try.prog 11 #[.agg #[.slice a xa.length ca, .int .u8 sa, .int .u8 ha], .agg #[.slice b xb.length cb, .int .u8 sb, .int .u8 ha], .int .u8 q, .int .u8 sh, .slice o ys.length co, .slice t zs.length ct] w fun e w' => e = .returned (.bool true) ∧ Below w.heap.size w w' := by
  have d1 : decide (1000 < (xa.length : Int)) = false := decide_eq_false (by omega)
  have d2 : decide (1000 < (xb.length : Int)) = false := decide_eq_false (by omega)
  have d3 : decide (1000 < (ys.length : Int)) = false := decide_eq_false (by omega)
  have d4 : decide (1000 < (zs.length : Int)) = false := decide_eq_false (by omega)
  obtain ⟨T, hT⟩ : ∃ T, T = mk 256 (fun j => SL q ha sh ys (256 + j)) := ⟨_, rfl⟩
  have TL := Lib.hid (show T.length = 256 by rw [hT]; exact mk_len _ _)
  have N1 := fun (W : World) (r : RdA W a xa) (r2 : RdA W o ys) => next_O a o xa.length ca ys.length co xa ys sa ha q sh W q0 h0 p0 rfl r rfl ko.1 ko.2 r2
  obtain ⟨b1, b2, b3, b4⟩ := nO_bad f1
  obtain ⟨E1, hE1⟩ : ∃ E, E = (nO xa sa ha q sh ys).err := ⟨_, rfl⟩
  rw [← hE1] at f1
  unfold AnsN lapV at N1
  rw [b1, b2, b3, b4, ← hE1] at N1
  clear b1 b2 b3 b4 hE1
  have M1 := Lib.hid N1
  clear N1
  have N2 := fun (W : World) (r : RdA W b xb) (r2 : RdA W o ys) => next_O b o xb.length cb ys.length co xb ys sb ha q sh W q0 h0 p0 rfl r rfl ko.1 ko.2 r2
  obtain ⟨b1, b2, b3, b4⟩ := nO_bad f2
  obtain ⟨E2, hE2⟩ : ∃ E, E = (nO xb sb ha q sh ys).err := ⟨_, rfl⟩
  rw [← hE2] at f2
  unfold AnsN lapV at N2
  rw [b1, b2, b3, b4, ← hE2] at N2
  clear b1 b2 b3 b4 hE2
  have M2 := Lib.hid N2
  clear N2
  have RA := Lib.hid RA
  have RB := Lib.hid RB
  have RO := Lib.hid RO
  have RT := Lib.hid RT
  go_enter Try.func11, Try.ntmps11
  go_wp2_with first
    | (go_at_call 24; ((with_reducible refine (Lp.alive_ok _).mono ?_); rintro e w4 ⟨rfl, hb4⟩; have XB := Lib.hid (((bx_new w (.slice a xa.length ca) (.int .u8 sa) (.int .u8 ha)).below (al_new _ _)).below hb4); have YB := Lib.hid ((bx_two w (.slice a xa.length ca) (.int .u8 sa) (.int .u8 ha) (.slice b xb.length cb) (.int .u8 sb) (.int .u8 ha)).below hb4); have B4 := Lib.hid (bt (bt (al_new w _) (al_new _ _)) hb4); obtain ⟨_, X0, X1, X2⟩ := XB.out; obtain ⟨_, Y0, Y1, Y2⟩ := YB.out; clear hb4))
    | (go_at_call 22; ((with_reducible refine (M1.out w4 (RA.out.below B4.out) (RO.out.below B4.out)).mono ?_); rintro e w5 ⟨v5, u5, rfl, ho5, hp5, hb5⟩; obtain ⟨a5, c5, ev⟩ := own_shape ho5; obtain rfl : v5 = .slice a5 0 c5 := ev; dsimp only [lapV]; have S5 := Lib.hid (bt hb5 (al_new w5 (.cells #[.slice a5 0 c5, .int .u8 0, .int .u8 0] 38))); have B5 := Lib.hid (bt B4.out S5.out); have Z5 := Lib.hid (bx_new w5 (.slice a5 0 c5) (.int .u8 0) (.int .u8 0)); replace XB := Lib.hid (XB.out.below S5.out); replace YB := Lib.hid (YB.out.below S5.out); obtain ⟨_, Y0, Y1, Y2⟩ := YB.out; obtain ⟨_, U0, U1, U2⟩ := Z5.out; clear ho5 hp5 hb5))
    | (go_at_call 22; ((with_reducible refine (M2.out _ (RB.out.below B5.out) (RO.out.below B5.out)).mono ?_); rintro e w6 ⟨v6, u6, rfl, ho6, hp6, hb6⟩; obtain ⟨a6, c6, ev⟩ := own_shape ho6; obtain rfl : v6 = .slice a6 0 c6 := ev; dsimp only [lapV]; have S6 := Lib.hid (bt hb6 (al_new w6 (.cells #[.slice a6 0 c6, .int .u8 0, .int .u8 0] 38))); have B6 := Lib.hid (bt B5.out S6.out); have Z6 := Lib.hid (bx_new w6 (.slice a6 0 c6) (.int .u8 0) (.int .u8 0)); replace Z5 := Lib.hid (Z5.out.below S6.out); obtain ⟨_, U0, U1, U2⟩ := Z5.out; obtain ⟨_, V0, V1, V2⟩ := Z6.out; clear ho6 hp6 hb6))
  go_ret
  exact ⟨rfl, B6.out⟩
set_option maxRecDepth 100000 in
set_option maxHeartbeats 8000000 in
theorem goodbad (a b o t : Option Addr) (ca cb co ct : Nat) (xa xb ys zs : List Int) (sa ha sb hb q sh : Int) (w : World) (RA : RdA w a xa) (RB : RdA w b xb) (RO : RdA w o ys) (RT : RdA w t zs) (ko : ys.length ≤ co ∧ co ≤ maxLen) (kt : zs.length ≤ ct ∧ ct ≤ maxLen) (q0 : 0 ≤ q) (p0 : 0 ≤ sh) (h0 : 0 ≤ ha) (h1 : 0 ≤ hb) (n1 : ¬ 1000 < xa.length) (n2 : ¬ 1000 < xb.length) (n3 : ¬ 1000 < ys.length) (n4 : ¬ 1000 < zs.length) (f1 : (LapOK xa sa ha ∧ May q ha sh ∧ ys.length = 256 ∧ InR (-268435455) 268435455 ys)) (f2 : (¬ (nO xb sb ha q sh ys).err = 0)) :
    Calls Try.prog 11 #[.agg #[.slice a xa.length ca, .int .u8 sa, .int .u8 ha], .agg #[.slice b xb.length cb, .int .u8 sb, .int .u8 ha], .int .u8 q, .int .u8 sh, .slice o ys.length co, .slice t zs.length ct] w fun e w' => e = .returned (.bool true) ∧ Below w.heap.size w w' := by
  have d1 : decide (1000 < (xa.length : Int)) = false := decide_eq_false (by omega)
  have d2 : decide (1000 < (xb.length : Int)) = false := decide_eq_false (by omega)
  have d3 : decide (1000 < (ys.length : Int)) = false := decide_eq_false (by omega)
  have d4 : decide (1000 < (zs.length : Int)) = false := decide_eq_false (by omega)
  obtain ⟨T, hT⟩ : ∃ T, T = mk 256 (fun j => SL q ha sh ys (256 + j)) := ⟨_, rfl⟩
  have TL := Lib.hid (show T.length = 256 by rw [hT]; exact mk_len _ _)
  have N1 := fun (W : World) (r : RdA W a xa) (r2 : RdA W o ys) => next_O a o xa.length ca ys.length co xa ys sa ha q sh W q0 h0 p0 rfl r rfl ko.1 ko.2 r2
  rw [nO_good f1.1 f1.2.1 f1.2.2.1 f1.2.2.2, ← hT] at N1
  unfold AnsN lapV at N1
  dsimp only at N1
  clear f1
  have M1 := Lib.hid N1
  clear N1
  have N2 := fun (W : World) (r : RdA W b xb) (r2 : RdA W o ys) => next_O b o xb.length cb ys.length co xb ys sb ha q sh W q0 h0 p0 rfl r rfl ko.1 ko.2 r2
  obtain ⟨b1, b2, b3, b4⟩ := nO_bad f2
  obtain ⟨E2, hE2⟩ : ∃ E, E = (nO xb sb ha q sh ys).err := ⟨_, rfl⟩
  rw [← hE2] at f2
  unfold AnsN lapV at N2
  rw [b1, b2, b3, b4, ← hE2] at N2
  clear b1 b2 b3 b4 hE2
  have M2 := Lib.hid N2
  clear N2
  have RA := Lib.hid RA
  have RB := Lib.hid RB
  have RO := Lib.hid RO
  have RT := Lib.hid RT
  go_enter Try.func11, Try.ntmps11
  go_wp2_with first
    | (go_at_call 24; ((with_reducible refine (Lp.alive_ok _).mono ?_); rintro e w4 ⟨rfl, hb4⟩; have XB := Lib.hid (((bx_new w (.slice a xa.length ca) (.int .u8 sa) (.int .u8 ha)).below (al_new _ _)).below hb4); have YB := Lib.hid ((bx_two w (.slice a xa.length ca) (.int .u8 sa) (.int .u8 ha) (.slice b xb.length cb) (.int .u8 sb) (.int .u8 ha)).below hb4); have B4 := Lib.hid (bt (bt (al_new w _) (al_new _ _)) hb4); obtain ⟨_, X0, X1, X2⟩ := XB.out; obtain ⟨_, Y0, Y1, Y2⟩ := YB.out; clear hb4))
    | (go_at_call 22; ((with_reducible refine (M1.out w4 (RA.out.below B4.out) (RO.out.below B4.out)).mono ?_); rintro e w5 ⟨v5, u5, rfl, ho5, hp5, hb5⟩; obtain ⟨g5, c5, rfl, _, hl5, _, _, hc5, _⟩ := own_open ho5 TL.out (by decide); dsimp only [lapV]; have S5 := Lib.hid (bt hb5 (al_new w5 (.cells #[.slice (some ⟨g5, 0, none⟩) 256 c5, .int .u8 q, .int .u8 sh] 38))); have B5 := Lib.hid (bt B4.out S5.out); have T5 := Lib.hid ((show Lx w5 g5 _ from ⟨hl5, hc5⟩).below (al_new w5 (.cells #[.slice (some ⟨g5, 0, none⟩) 256 c5, .int .u8 q, .int .u8 sh] 38))); have Z5 := Lib.hid (bx_new w5 (.slice (some ⟨g5, 0, none⟩) 256 c5) (.int .u8 q) (.int .u8 sh)); replace XB := Lib.hid (XB.out.below S5.out); replace YB := Lib.hid (YB.out.below S5.out); obtain ⟨_, Y0, Y1, Y2⟩ := YB.out; obtain ⟨_, U0, U1, U2⟩ := Z5.out; clear ho5 hp5 hb5 hc5))
    | (go_at_call 22; ((with_reducible refine (M2.out _ (RB.out.below B5.out) (RO.out.below B5.out)).mono ?_); rintro e w6 ⟨v6, u6, rfl, ho6, hp6, hb6⟩; obtain ⟨a6, c6, ev⟩ := own_shape ho6; obtain rfl : v6 = .slice a6 0 c6 := ev; dsimp only [lapV]; have S6 := Lib.hid (bt hb6 (al_new w6 (.cells #[.slice a6 0 c6, .int .u8 0, .int .u8 0] 38))); have B6 := Lib.hid (bt B5.out S6.out); have Z6 := Lib.hid (bx_new w6 (.slice a6 0 c6) (.int .u8 0) (.int .u8 0)); replace Z5 := Lib.hid (Z5.out.below S6.out); obtain ⟨_, U0, U1, U2⟩ := Z5.out; obtain ⟨_, V0, V1, V2⟩ := Z6.out; clear ho6 hp6 hb6))
  go_ret
  exact ⟨rfl, B6.out⟩
set_option maxRecDepth 100000 in
set_option maxHeartbeats 8000000 in
theorem badgood (a b o t : Option Addr) (ca cb co ct : Nat) (xa xb ys zs : List Int) (sa ha sb hb q sh : Int) (w : World) (RA : RdA w a xa) (RB : RdA w b xb) (RO : RdA w o ys) (RT : RdA w t zs) (ko : ys.length ≤ co ∧ co ≤ maxLen) (kt : zs.length ≤ ct ∧ ct ≤ maxLen) (q0 : 0 ≤ q) (p0 : 0 ≤ sh) (h0 : 0 ≤ ha) (h1 : 0 ≤ hb) (n1 : ¬ 1000 < xa.length) (n2 : ¬ 1000 < xb.length) (n3 : ¬ 1000 < ys.length) (n4 : ¬ 1000 < zs.length) (f1 : (¬ (nO xa sa ha q sh ys).err = 0)) (f2 : (LapOK xb sb ha ∧ May q ha sh ∧ ys.length = 256 ∧ InR (-268435455) 268435455 ys)) :
    Calls Try.prog 11 #[.agg #[.slice a xa.length ca, .int .u8 sa, .int .u8 ha], .agg #[.slice b xb.length cb, .int .u8 sb, .int .u8 ha], .int .u8 q, .int .u8 sh, .slice o ys.length co, .slice t zs.length ct] w fun e w' => e = .returned (.bool true) ∧ Below w.heap.size w w' := by
  have d1 : decide (1000 < (xa.length : Int)) = false := decide_eq_false (by omega)
  have d2 : decide (1000 < (xb.length : Int)) = false := decide_eq_false (by omega)
  have d3 : decide (1000 < (ys.length : Int)) = false := decide_eq_false (by omega)
  have d4 : decide (1000 < (zs.length : Int)) = false := decide_eq_false (by omega)
  obtain ⟨T, hT⟩ : ∃ T, T = mk 256 (fun j => SL q ha sh ys (256 + j)) := ⟨_, rfl⟩
  have TL := Lib.hid (show T.length = 256 by rw [hT]; exact mk_len _ _)
  have N1 := fun (W : World) (r : RdA W a xa) (r2 : RdA W o ys) => next_O a o xa.length ca ys.length co xa ys sa ha q sh W q0 h0 p0 rfl r rfl ko.1 ko.2 r2
  obtain ⟨b1, b2, b3, b4⟩ := nO_bad f1
  obtain ⟨E1, hE1⟩ : ∃ E, E = (nO xa sa ha q sh ys).err := ⟨_, rfl⟩
  rw [← hE1] at f1
  unfold AnsN lapV at N1
  rw [b1, b2, b3, b4, ← hE1] at N1
  clear b1 b2 b3 b4 hE1
  have M1 := Lib.hid N1
  clear N1
  have N2 := fun (W : World) (r : RdA W b xb) (r2 : RdA W o ys) => next_O b o xb.length cb ys.length co xb ys sb ha q sh W q0 h0 p0 rfl r rfl ko.1 ko.2 r2
  rw [nO_good f2.1 f2.2.1 f2.2.2.1 f2.2.2.2, ← hT] at N2
  unfold AnsN lapV at N2
  dsimp only at N2
  clear f2
  have M2 := Lib.hid N2
  clear N2
  have RA := Lib.hid RA
  have RB := Lib.hid RB
  have RO := Lib.hid RO
  have RT := Lib.hid RT
  go_enter Try.func11, Try.ntmps11
  go_wp2_with first
    | (go_at_call 24; ((with_reducible refine (Lp.alive_ok _).mono ?_); rintro e w4 ⟨rfl, hb4⟩; have XB := Lib.hid (((bx_new w (.slice a xa.length ca) (.int .u8 sa) (.int .u8 ha)).below (al_new _ _)).below hb4); have YB := Lib.hid ((bx_two w (.slice a xa.length ca) (.int .u8 sa) (.int .u8 ha) (.slice b xb.length cb) (.int .u8 sb) (.int .u8 ha)).below hb4); have B4 := Lib.hid (bt (bt (al_new w _) (al_new _ _)) hb4); obtain ⟨_, X0, X1, X2⟩ := XB.out; obtain ⟨_, Y0, Y1, Y2⟩ := YB.out; clear hb4))
    | (go_at_call 22; ((with_reducible refine (M1.out w4 (RA.out.below B4.out) (RO.out.below B4.out)).mono ?_); rintro e w5 ⟨v5, u5, rfl, ho5, hp5, hb5⟩; obtain ⟨a5, c5, ev⟩ := own_shape ho5; obtain rfl : v5 = .slice a5 0 c5 := ev; dsimp only [lapV]; have S5 := Lib.hid (bt hb5 (al_new w5 (.cells #[.slice a5 0 c5, .int .u8 0, .int .u8 0] 38))); have B5 := Lib.hid (bt B4.out S5.out); have Z5 := Lib.hid (bx_new w5 (.slice a5 0 c5) (.int .u8 0) (.int .u8 0)); replace XB := Lib.hid (XB.out.below S5.out); replace YB := Lib.hid (YB.out.below S5.out); obtain ⟨_, Y0, Y1, Y2⟩ := YB.out; obtain ⟨_, U0, U1, U2⟩ := Z5.out; clear ho5 hp5 hb5))
    | (go_at_call 22; ((with_reducible refine (M2.out _ (RB.out.below B5.out) (RO.out.below B5.out)).mono ?_); rintro e w6 ⟨v6, u6, rfl, ho6, hp6, hb6⟩; obtain ⟨g6, c6, rfl, _, hl6, _, _, hc6, _⟩ := own_open ho6 TL.out (by decide); dsimp only [lapV]; have S6 := Lib.hid (bt hb6 (al_new w6 (.cells #[.slice (some ⟨g6, 0, none⟩) 256 c6, .int .u8 q, .int .u8 sh] 38))); have B6 := Lib.hid (bt B5.out S6.out); have T6 := Lib.hid ((show Lx w6 g6 _ from ⟨hl6, hc6⟩).below (al_new w6 (.cells #[.slice (some ⟨g6, 0, none⟩) 256 c6, .int .u8 q, .int .u8 sh] 38))); have Z6 := Lib.hid (bx_new w6 (.slice (some ⟨g6, 0, none⟩) 256 c6) (.int .u8 q) (.int .u8 sh)); replace Z5 := Lib.hid (Z5.out.below S6.out); obtain ⟨_, U0, U1, U2⟩ := Z5.out; obtain ⟨_, V0, V1, V2⟩ := Z6.out; clear ho6 hp6 hb6 hc6))
  go_ret
  exact ⟨rfl, B6.out⟩
set_option maxRecDepth 100000 in
set_option maxHeartbeats 8000000 in
theorem third_good (a b o t : Option Addr) (ca cb co ct : Nat) (xa xb ys zs : List Int) (sa ha sb hb q sh : Int) (w : World) (RA : RdA w a xa) (RB : RdA w b xb) (RO : RdA w o ys) (RT : RdA w t zs) (ko : ys.length ≤ co ∧ co ≤ maxLen) (kt : zs.length ≤ ct ∧ ct ≤ maxLen) (q0 : 0 ≤ q) (p0 : 0 ≤ sh) (h0 : 0 ≤ ha) (h1 : 0 ≤ hb) (n1 : ¬ 1000 < xa.length) (n2 : ¬ 1000 < xb.length) (n3 : ¬ 1000 < ys.length) (n4 : ¬ 1000 < zs.length) (f1 : (LapOK xa sa ha ∧ May q ha sh ∧ ys.length = 256 ∧ InR (-268435455) 268435455 ys)) (f2 : (LapOK xb sb ha ∧ May q ha sh ∧ ys.length = 256 ∧ InR (-268435455) 268435455 ys)) (T : List Int) (hT : T = mk 256 (fun j => SL q ha sh ys (256 + j))) (f3 : (LapOK T q sh ∧ May sh sh (q % 2) ∧ zs.length = 256 ∧ InR (-268435455) 268435455 zs)) :
    Calls Try.prog 11 #[.agg #[.slice a xa.length ca, .int .u8 sa, .int .u8 ha], .agg #[.slice b xb.length cb, .int .u8 sb, .int .u8 ha], .int .u8 q, .int .u8 sh, .slice o ys.length co, .slice t zs.length ct] w fun e w' => e = .returned (.bool true) ∧ Below w.heap.size w w' := by
  have d1 : decide (1000 < (xa.length : Int)) = false := decide_eq_false (by omega)
  have d2 : decide (1000 < (xb.length : Int)) = false := decide_eq_false (by omega)
  have d3 : decide (1000 < (ys.length : Int)) = false := decide_eq_false (by omega)
  have d4 : decide (1000 < (zs.length : Int)) = false := decide_eq_false (by omega)
  have TL := Lib.hid (show T.length = 256 by rw [hT]; exact mk_len _ _)
  have N1 := fun (W : World) (r : RdA W a xa) (r2 : RdA W o ys) => next_O a o xa.length ca ys.length co xa ys sa ha q sh W q0 h0 p0 rfl r rfl ko.1 ko.2 r2
  rw [nO_good f1.1 f1.2.1 f1.2.2.1 f1.2.2.2, ← hT] at N1
  unfold AnsN lapV at N1
  dsimp only at N1
  clear f1
  have M1 := Lib.hid N1
  clear N1
  have N2 := fun (W : World) (r : RdA W b xb) (r2 : RdA W o ys) => next_O b o xb.length cb ys.length co xb ys sb ha q sh W q0 h0 p0 rfl r rfl ko.1 ko.2 r2
  rw [nO_good f2.1 f2.2.1 f2.2.2.1 f2.2.2.2, ← hT] at N2
  unfold AnsN lapV at N2
  dsimp only at N2
  clear f2
  have M2 := Lib.hid N2
  clear N2
  have RA := Lib.hid RA
  have RB := Lib.hid RB
  have RO := Lib.hid RO
  have RT := Lib.hid RT
  have N3 := fun (g c : Nat) (W : World) (r : RdA W (some ⟨g, 0, none⟩) T) (r2 : RdA W t zs) => next_O (some ⟨g, 0, none⟩) t 256 c zs.length ct T zs q sh sh (q % 2) W p0 p0 (by omega) TL.out r rfl kt.1 kt.2 r2
  obtain ⟨U, hU⟩ : ∃ U, U = mk 256 (fun j => SL sh sh (q % 2) zs (256 + j)) := ⟨_, rfl⟩
  obtain ⟨P, hP⟩ : ∃ P, P = mk 256 (fun n => clp (rnd (T.getD n 0 + SL sh sh (q % 2) zs n) 4) 16) := ⟨_, rfl⟩
  rw [nO_good f3.1 f3.2.1 f3.2.2.1 f3.2.2.2, ← hU, ← hP] at N3
  unfold AnsN lapV at N3
  dsimp only at N3
  have UL := Lib.hid (show U.length = 256 by rw [hU]; exact mk_len _ _)
  have PL := Lib.hid (show P.length = 256 by rw [hP]; exact mk_len _ _)
  have PI := Lib.hid (fun (k : Nat) (hk : k < 256) => (by rw [hP, mk_at hk]; exact clp_in _ : -32768 ≤ P.getD k 0 ∧ P.getD k 0 ≤ 32767))
  clear f3 hU hP
  have M3 := Lib.hid N3
  clear N3 hT
  go_enter Try.func11, Try.ntmps11
  go_wp2_with first
    | (go_at_call 24; ((with_reducible refine (Lp.alive_ok _).mono ?_); rintro e w4 ⟨rfl, hb4⟩; have XB := Lib.hid (((bx_new w (.slice a xa.length ca) (.int .u8 sa) (.int .u8 ha)).below (al_new _ _)).below hb4); have YB := Lib.hid ((bx_two w (.slice a xa.length ca) (.int .u8 sa) (.int .u8 ha) (.slice b xb.length cb) (.int .u8 sb) (.int .u8 ha)).below hb4); have B4 := Lib.hid (bt (bt (al_new w _) (al_new _ _)) hb4); obtain ⟨_, X0, X1, X2⟩ := XB.out; obtain ⟨_, Y0, Y1, Y2⟩ := YB.out; clear hb4))
    | (go_at_call 22; ((with_reducible refine (M1.out w4 (RA.out.below B4.out) (RO.out.below B4.out)).mono ?_); rintro e w5 ⟨v5, u5, rfl, ho5, hp5, hb5⟩; obtain ⟨g5, c5, rfl, _, hl5, _, _, hc5, _⟩ := own_open ho5 TL.out (by decide); dsimp only [lapV]; have S5 := Lib.hid (bt hb5 (al_new w5 (.cells #[.slice (some ⟨g5, 0, none⟩) 256 c5, .int .u8 q, .int .u8 sh] 38))); have B5 := Lib.hid (bt B4.out S5.out); have T5 := Lib.hid ((show Lx w5 g5 _ from ⟨hl5, hc5⟩).below (al_new w5 (.cells #[.slice (some ⟨g5, 0, none⟩) 256 c5, .int .u8 q, .int .u8 sh] 38))); have Z5 := Lib.hid (bx_new w5 (.slice (some ⟨g5, 0, none⟩) 256 c5) (.int .u8 q) (.int .u8 sh)); replace XB := Lib.hid (XB.out.below S5.out); replace YB := Lib.hid (YB.out.below S5.out); obtain ⟨_, Y0, Y1, Y2⟩ := YB.out; obtain ⟨_, U0, U1, U2⟩ := Z5.out; clear ho5 hp5 hb5 hc5))
    | (go_at_call 22; ((with_reducible refine (M2.out _ (RB.out.below B5.out) (RO.out.below B5.out)).mono ?_); rintro e w6 ⟨v6, u6, rfl, ho6, hp6, hb6⟩; obtain ⟨g6, c6, rfl, _, hl6, _, _, hc6, _⟩ := own_open ho6 TL.out (by decide); dsimp only [lapV]; have S6 := Lib.hid (bt hb6 (al_new w6 (.cells #[.slice (some ⟨g6, 0, none⟩) 256 c6, .int .u8 q, .int .u8 sh] 38))); have B6 := Lib.hid (bt B5.out S6.out); have T6 := Lib.hid ((show Lx w6 g6 _ from ⟨hl6, hc6⟩).below (al_new w6 (.cells #[.slice (some ⟨g6, 0, none⟩) 256 c6, .int .u8 q, .int .u8 sh] 38))); have Z6 := Lib.hid (bx_new w6 (.slice (some ⟨g6, 0, none⟩) 256 c6) (.int .u8 q) (.int .u8 sh)); replace Z5 := Lib.hid (Z5.out.below S6.out); replace T5 := Lib.hid (T5.out.below S6.out); obtain ⟨_, U0, U1, U2⟩ := Z5.out; obtain ⟨_, V0, V1, V2⟩ := Z6.out; clear ho6 hp6 hb6 hc6))
    | (go_at_call 22; ((with_reducible refine (M3.out g5 c5 _ (T5.out.rd TL.out) (RT.out.below B6.out)).mono ?_); rintro e w7 ⟨v7, u7, rfl, ho7, hp7, hb7⟩; obtain ⟨g7, c7, rfl, _, hl7, _, _, hc7, _⟩ := own_open ho7 UL.out (by decide); obtain ⟨k7, e7, rfl, _, hm7, _, _, hd7, _⟩ := own_open hp7 PL.out (by decide); dsimp only [lapV]; have S7 := Lib.hid (bt hb7 (al_new w7 (.cells #[.slice (some ⟨g7, 0, none⟩) 256 c7, .int .u8 sh, .int .u8 (q % 2)] 38))); have B7 := Lib.hid (bt B6.out S7.out); have T7 := Lib.hid ((show Lx w7 g7 _ from ⟨hl7, hc7⟩).below (al_new w7 (.cells #[.slice (some ⟨g7, 0, none⟩) 256 c7, .int .u8 sh, .int .u8 (q % 2)] 38))); have P7 := Lib.hid ((show Lx w7 k7 _ from ⟨hm7, hd7⟩).below (al_new w7 (.cells #[.slice (some ⟨g7, 0, none⟩) 256 c7, .int .u8 sh, .int .u8 (q % 2)] 38))); have Z7 := Lib.hid (bx_new w7 (.slice (some ⟨g7, 0, none⟩) 256 c7) (.int .u8 sh) (.int .u8 (q % 2))); replace Z5 := Lib.hid (Z5.out.below S7.out); replace Z6 := Lib.hid (Z6.out.below S7.out); replace T5 := Lib.hid (T5.out.below S7.out); replace T6 := Lib.hid (T6.out.below S7.out); obtain ⟨_, V0, V1, V2⟩ := Z6.out; clear ho7 hp7 hb7 hc7 hd7))
    | (go_at_call 22; ((with_reducible refine (M3.out g6 c6 _ (T6.out.rd TL.out) (RT.out.below B7.out)).mono ?_); rintro e w8 ⟨v8, u8, rfl, ho8, hp8, hb8⟩; obtain ⟨g8, c8, rfl, _, hl8, _, _, hc8, _⟩ := own_open ho8 UL.out (by decide); obtain ⟨k8, e8, rfl, _, hm8, _, _, hd8, _⟩ := own_open hp8 PL.out (by decide); dsimp only [lapV]; have S8 := Lib.hid (bt hb8 (al_new w8 (.cells #[.slice (some ⟨g8, 0, none⟩) 256 c8, .int .u8 sh, .int .u8 (q % 2)] 38))); have B8 := Lib.hid (bt B7.out S8.out); have T8 := Lib.hid ((show Lx w8 g8 _ from ⟨hl8, hc8⟩).below (al_new w8 (.cells #[.slice (some ⟨g8, 0, none⟩) 256 c8, .int .u8 sh, .int .u8 (q % 2)] 38))); have P8 := Lib.hid ((show Lx w8 k8 _ from ⟨hm8, hd8⟩).below (al_new w8 (.cells #[.slice (some ⟨g8, 0, none⟩) 256 c8, .int .u8 sh, .int .u8 (q % 2)] 38))); have Z8 := Lib.hid (bx_new w8 (.slice (some ⟨g8, 0, none⟩) 256 c8) (.int .u8 sh) (.int .u8 (q % 2))); replace Z5 := Lib.hid (Z5.out.below S8.out); replace Z6 := Lib.hid (Z6.out.below S8.out); replace Z7 := Lib.hid (Z7.out.below S8.out); replace T5 := Lib.hid (T5.out.below S8.out); replace T6 := Lib.hid (T6.out.below S8.out); replace P7 := Lib.hid (P7.out.below S8.out); obtain ⟨_, U0, U1, U2⟩ := Z5.out; obtain ⟨_, V0, V1, V2⟩ := Z6.out; obtain ⟨_, Q0, Q1, Q2⟩ := Z7.out; obtain ⟨_, R0, R1, R2⟩ := Z8.out; clear ho8 hp8 hb8 hc8 hd8))
  generalize w8.alloc (.cells #[.slice (some ⟨g8, 0, none⟩) 256 c8, .int .u8 sh, .int .u8 (q % 2)] 38) = n8 at *
  clear M1 M2 M3 RA RB RO RT S5 S6 S7 S8
  go_loopw [26] (fun i wq => ∃ k : Nat, k ≤ 256 ∧ i = .int .i64 k ∧ Hid (Below n8.heap.size n8 wq)) (fun i _ => 256 - (intOf i).toNat)
  case atStart => exact ⟨0, by omega, rfl, Lib.hid (Below.refl _ _)⟩
  case round =>
    obtain ⟨k, hk, rfl, hB⟩ := hrel
    obtain ⟨_, U0, U1, U2⟩ := Z5.out.below hB.out
    obtain ⟨_, V0, V1, V2⟩ := Z6.out.below hB.out
    by_cases hlt : k < 256
    · have e1 := (T5.out.below hB.out).2 k hlt
      have e2 := (T6.out.below hB.out).2 k hlt
      generalize T.getD k 0 = X at *
      go_wp2
      go_quiet (fail)
      go_wp2
      go_roundw
      case rel => exact ⟨k + 1, by omega, by go_num, Lib.hid (hB.out.trans ((drewN_below _ _).mono hB.out.size))⟩
      case measure => simp [intOf]; omega
    · have hlt2 : ¬ (k : Int) < 256 := by omega
      go_wp2
      have P7 := Lib.hid (P7.out.below hB.out)
      have P8 := Lib.hid (P8.out.below hB.out)
      have B9 := Lib.hid (bt B8.out hB.out)
      go_loopw [27] (fun i wq => ∃ m : Nat, m ≤ 256 ∧ i = .int .i64 m ∧ Hid (Below wr.heap.size wr wq)) (fun i _ => 256 - (intOf i).toNat)
      case atStart => exact ⟨0, by omega, rfl, Lib.hid (Below.refl _ _)⟩
      case round =>
        obtain ⟨m, hk, rfl, hB⟩ := hrel
        by_cases hlt : m < 256
        · have e1 := (P7.out.below hB.out).2 m hlt
          have e2 := (P8.out.below hB.out).2 m hlt
          obtain ⟨y0, y1⟩ := PI.out m hlt
          generalize P.getD m 0 = X at *
          go_wp2
          go_quiet (fail)
          go_wp2
          go_roundw
          case rel => exact ⟨m + 1, by omega, by go_num, Lib.hid (hB.out.trans ((drewN_below _ _).mono hB.out.size))⟩
          case measure => simp [intOf]; omega
        · obtain rfl : m = 256 := by omega
          have B10 := Lib.hid (bt B9.out hB.out)
          go_wp2
          go_ret
          exact ⟨rfl, B10.out⟩
set_option maxRecDepth 100000 in
set_option maxHeartbeats 8000000 in
theorem third_bad (a b o t : Option Addr) (ca cb co ct : Nat) (xa xb ys zs : List Int) (sa ha sb hb q sh : Int) (w : World) (RA : RdA w a xa) (RB : RdA w b xb) (RO : RdA w o ys) (RT : RdA w t zs) (ko : ys.length ≤ co ∧ co ≤ maxLen) (kt : zs.length ≤ ct ∧ ct ≤ maxLen) (q0 : 0 ≤ q) (p0 : 0 ≤ sh) (h0 : 0 ≤ ha) (h1 : 0 ≤ hb) (n1 : ¬ 1000 < xa.length) (n2 : ¬ 1000 < xb.length) (n3 : ¬ 1000 < ys.length) (n4 : ¬ 1000 < zs.length) (f1 : (LapOK xa sa ha ∧ May q ha sh ∧ ys.length = 256 ∧ InR (-268435455) 268435455 ys)) (f2 : (LapOK xb sb ha ∧ May q ha sh ∧ ys.length = 256 ∧ InR (-268435455) 268435455 ys)) (T : List Int) (hT : T = mk 256 (fun j => SL q ha sh ys (256 + j))) (f3 : (¬ (nO T q sh sh (q % 2) zs).err = 0)) :
    Calls Try.prog 11 #[.agg #[.slice a xa.length ca, .int .u8 sa, .int .u8 ha], .agg #[.slice b xb.length cb, .int .u8 sb, .int .u8 ha], .int .u8 q, .int .u8 sh, .slice o ys.length co, .slice t zs.length ct] w fun e w' => e = .returned (.bool true) ∧ Below w.heap.size w w' := by
  have d1 : decide (1000 < (xa.length : Int)) = false := decide_eq_false (by omega)
  have d2 : decide (1000 < (xb.length : Int)) = false := decide_eq_false (by omega)
  have d3 : decide (1000 < (ys.length : Int)) = false := decide_eq_false (by omega)
  have d4 : decide (1000 < (zs.length : Int)) = false := decide_eq_false (by omega)
  have TL := Lib.hid (show T.length = 256 by rw [hT]; exact mk_len _ _)
  have N1 := fun (W : World) (r : RdA W a xa) (r2 : RdA W o ys) => next_O a o xa.length ca ys.length co xa ys sa ha q sh W q0 h0 p0 rfl r rfl ko.1 ko.2 r2
  rw [nO_good f1.1 f1.2.1 f1.2.2.1 f1.2.2.2, ← hT] at N1
  unfold AnsN lapV at N1
  dsimp only at N1
  clear f1
  have M1 := Lib.hid N1
  clear N1
  have N2 := fun (W : World) (r : RdA W b xb) (r2 : RdA W o ys) => next_O b o xb.length cb ys.length co xb ys sb ha q sh W q0 h0 p0 rfl r rfl ko.1 ko.2 r2
  rw [nO_good f2.1 f2.2.1 f2.2.2.1 f2.2.2.2, ← hT] at N2
  unfold AnsN lapV at N2
  dsimp only at N2
  clear f2
  have M2 := Lib.hid N2
  clear N2
  have RA := Lib.hid RA
  have RB := Lib.hid RB
  have RO := Lib.hid RO
  have RT := Lib.hid RT
  have N3 := fun (g c : Nat) (W : World) (r : RdA W (some ⟨g, 0, none⟩) T) (r2 : RdA W t zs) => next_O (some ⟨g, 0, none⟩) t 256 c zs.length ct T zs q sh sh (q % 2) W p0 p0 (by omega) TL.out r rfl kt.1 kt.2 r2
  obtain ⟨b1, b2, b3, b4⟩ := nO_bad f3
  obtain ⟨E3, hE3⟩ : ∃ E, E = (nO T q sh sh (q % 2) zs).err := ⟨_, rfl⟩
  unfold AnsN lapV at N3
  rw [b1, b2, b3, b4, ← hE3] at N3
  clear b1 b2 b3 b4 hE3 f3
  have M3 := Lib.hid N3
  clear N3 hT
  go_enter Try.func11, Try.ntmps11
  go_wp2_with first
    | (go_at_call 24; ((with_reducible refine (Lp.alive_ok _).mono ?_); rintro e w4 ⟨rfl, hb4⟩; have XB := Lib.hid (((bx_new w (.slice a xa.length ca) (.int .u8 sa) (.int .u8 ha)).below (al_new _ _)).below hb4); have YB := Lib.hid ((bx_two w (.slice a xa.length ca) (.int .u8 sa) (.int .u8 ha) (.slice b xb.length cb) (.int .u8 sb) (.int .u8 ha)).below hb4); have B4 := Lib.hid (bt (bt (al_new w _) (al_new _ _)) hb4); obtain ⟨_, X0, X1, X2⟩ := XB.out; obtain ⟨_, Y0, Y1, Y2⟩ := YB.out; clear hb4))
    | (go_at_call 22; ((with_reducible refine (M1.out w4 (RA.out.below B4.out) (RO.out.below B4.out)).mono ?_); rintro e w5 ⟨v5, u5, rfl, ho5, hp5, hb5⟩; obtain ⟨g5, c5, rfl, _, hl5, _, _, hc5, _⟩ := own_open ho5 TL.out (by decide); dsimp only [lapV]; have S5 := Lib.hid (bt hb5 (al_new w5 (.cells #[.slice (some ⟨g5, 0, none⟩) 256 c5, .int .u8 q, .int .u8 sh] 38))); have B5 := Lib.hid (bt B4.out S5.out); have T5 := Lib.hid ((show Lx w5 g5 _ from ⟨hl5, hc5⟩).below (al_new w5 (.cells #[.slice (some ⟨g5, 0, none⟩) 256 c5, .int .u8 q, .int .u8 sh] 38))); have Z5 := Lib.hid (bx_new w5 (.slice (some ⟨g5, 0, none⟩) 256 c5) (.int .u8 q) (.int .u8 sh)); replace XB := Lib.hid (XB.out.below S5.out); replace YB := Lib.hid (YB.out.below S5.out); obtain ⟨_, Y0, Y1, Y2⟩ := YB.out; obtain ⟨_, U0, U1, U2⟩ := Z5.out; clear ho5 hp5 hb5 hc5))
    | (go_at_call 22; ((with_reducible refine (M2.out _ (RB.out.below B5.out) (RO.out.below B5.out)).mono ?_); rintro e w6 ⟨v6, u6, rfl, ho6, hp6, hb6⟩; obtain ⟨g6, c6, rfl, _, hl6, _, _, hc6, _⟩ := own_open ho6 TL.out (by decide); dsimp only [lapV]; have S6 := Lib.hid (bt hb6 (al_new w6 (.cells #[.slice (some ⟨g6, 0, none⟩) 256 c6, .int .u8 q, .int .u8 sh] 38))); have B6 := Lib.hid (bt B5.out S6.out); have T6 := Lib.hid ((show Lx w6 g6 _ from ⟨hl6, hc6⟩).below (al_new w6 (.cells #[.slice (some ⟨g6, 0, none⟩) 256 c6, .int .u8 q, .int .u8 sh] 38))); have Z6 := Lib.hid (bx_new w6 (.slice (some ⟨g6, 0, none⟩) 256 c6) (.int .u8 q) (.int .u8 sh)); replace Z5 := Lib.hid (Z5.out.below S6.out); replace T5 := Lib.hid (T5.out.below S6.out); obtain ⟨_, U0, U1, U2⟩ := Z5.out; obtain ⟨_, V0, V1, V2⟩ := Z6.out; clear ho6 hp6 hb6 hc6))
    | (go_at_call 22; ((with_reducible refine (M3.out g5 c5 _ (T5.out.rd TL.out) (RT.out.below B6.out)).mono ?_); rintro e w7 ⟨v7, u7, rfl, ho7, hp7, hb7⟩; obtain ⟨a7, c7, ev⟩ := own_shape ho7; obtain rfl : v7 = .slice a7 0 c7 := ev; obtain ⟨p7, e7, eu⟩ := own_shape hp7; obtain rfl : u7 = .slice p7 0 e7 := eu; dsimp only [lapV]; have S7 := Lib.hid (bt hb7 (al_new w7 (.cells #[.slice a7 0 c7, .int .u8 0, .int .u8 0] 38))); have B7 := Lib.hid (bt B6.out S7.out); have Z7 := Lib.hid (bx_new w7 (.slice a7 0 c7) (.int .u8 0) (.int .u8 0)); replace Z5 := Lib.hid (Z5.out.below S7.out); replace Z6 := Lib.hid (Z6.out.below S7.out); replace T5 := Lib.hid (T5.out.below S7.out); replace T6 := Lib.hid (T6.out.below S7.out); obtain ⟨_, V0, V1, V2⟩ := Z6.out; clear ho7 hp7 hb7))
    | (go_at_call 22; ((with_reducible refine (M3.out g6 c6 _ (T6.out.rd TL.out) (RT.out.below B7.out)).mono ?_); rintro e w8 ⟨v8, u8, rfl, ho8, hp8, hb8⟩; obtain ⟨a8, c8, ev⟩ := own_shape ho8; obtain rfl : v8 = .slice a8 0 c8 := ev; obtain ⟨p8, e8, eu⟩ := own_shape hp8; obtain rfl : u8 = .slice p8 0 e8 := eu; dsimp only [lapV]; have S8 := Lib.hid (bt hb8 (al_new w8 (.cells #[.slice a8 0 c8, .int .u8 0, .int .u8 0] 38))); have B8 := Lib.hid (bt B7.out S8.out); have Z8 := Lib.hid (bx_new w8 (.slice a8 0 c8) (.int .u8 0) (.int .u8 0)); replace Z5 := Lib.hid (Z5.out.below S8.out); replace Z6 := Lib.hid (Z6.out.below S8.out); replace Z7 := Lib.hid (Z7.out.below S8.out); replace T5 := Lib.hid (T5.out.below S8.out); replace T6 := Lib.hid (T6.out.below S8.out); obtain ⟨_, U0, U1, U2⟩ := Z5.out; obtain ⟨_, V0, V1, V2⟩ := Z6.out; obtain ⟨_, Q0, Q1, Q2⟩ := Z7.out; obtain ⟨_, R0, R1, R2⟩ := Z8.out; clear ho8 hp8 hb8))
  generalize w8.alloc (.cells #[.slice a8 0 c8, .int .u8 0, .int .u8 0] 38) = n8 at *
  clear M1 M2 M3 RA RB RO RT S5 S6 S7 S8
  go_loopw [26] (fun i wq => ∃ k : Nat, k ≤ 256 ∧ i = .int .i64 k ∧ Hid (Below n8.heap.size n8 wq)) (fun i _ => 256 - (intOf i).toNat)
  case atStart => exact ⟨0, by omega, rfl, Lib.hid (Below.refl _ _)⟩
  case round =>
    obtain ⟨k, hk, rfl, hB⟩ := hrel
    obtain ⟨_, U0, U1, U2⟩ := Z5.out.below hB.out
    obtain ⟨_, V0, V1, V2⟩ := Z6.out.below hB.out
    by_cases hlt : k < 256
    · have e1 := (T5.out.below hB.out).2 k hlt
      have e2 := (T6.out.below hB.out).2 k hlt
      generalize T.getD k 0 = X at *
      go_wp2
      go_quiet (fail)
      go_wp2
      go_roundw
      case rel => exact ⟨k + 1, by omega, by go_num, Lib.hid (hB.out.trans ((drewN_below _ _).mono hB.out.size))⟩
      case measure => simp [intOf]; omega
    · have hlt2 : ¬ (k : Int) < 256 := by omega
      go_wp2
      have B9 := Lib.hid (bt B8.out hB.out)
      go_loopw [27] (fun i wq => i = .int .i64 0 ∧ Hid (Below wr.heap.size wr wq)) (fun i _ => 256 - (intOf i).toNat)
      case atStart => exact ⟨rfl, Lib.hid (Below.refl _ _)⟩
      case round =>
        obtain ⟨rfl, hB⟩ := hrel
        have B10 := Lib.hid (bt B9.out hB.out)
        go_wp2
        go_ret
        exact ⟨rfl, B10.out⟩
theorem caps {W : World} {a : Option Addr} {len cap : Nat} {z : List Int} (h : IsRow .i64 W a len cap z) : len ≤ cap ∧ cap ≤ maxLen := by
  rcases h with ⟨_, h1, h2, _⟩ | ⟨_, _, h1, h2, _⟩
  · subst h1 h2; unfold maxLen; omega
  · exact ⟨h1, h2⟩
theorem walk (a0 : Option Addr) (len0 cap0 : Nat) (z0 : List Int) (s0 h0 : Int) (a1 : Option Addr) (len1 cap1 : Nat) (z1 : List Int) (s1 h1 : Int) (q sh : Int) (a4 : Option Addr) (len4 cap4 : Nat) (z4 : List Int) (a5 : Option Addr) (len5 cap5 : Nat) (z5 : List Int) (W : World)
    (r0 : IsRow .i64 W a0 len0 cap0 z0) (_ : (Lit.int .u8 s0).wf = true) (g0 : (Lit.int .u8 h0).wf = true) (r1 : IsRow .i64 W a1 len1 cap1 z1) (_ : (Lit.int .u8 s1).wf = true) (g1 : (Lit.int .u8 h1).wf = true) (gq : (Lit.int .u8 q).wf = true) (gs : (Lit.int .u8 sh).wf = true) (r4 : IsRow .i64 W a4 len4 cap4 z4) (r5 : IsRow .i64 W a5 len5 cap5 z5) :
    Calls Try.prog 11 #[.agg #[.slice a0 len0 cap0, .int .u8 s0, .int .u8 h0], .agg #[.slice a1 len1 cap1, .int .u8 s1, .int .u8 h1], .int .u8 q, .int .u8 sh, .slice a4 len4 cap4, .slice a5 len5 cap5] W fun e w' => e = .returned (.bool true) ∧ Below W.heap.size W w' := by
  have ko := caps r4
  have kt := caps r5
  obtain ⟨xa, hx0, RA, _, _⟩ := row_all r0
  obtain ⟨xb, hx1, RB, _, _⟩ := row_all r1
  obtain ⟨ys, hx4, RO, _, _⟩ := row_all r4
  obtain ⟨zs, hx5, RT, _, _⟩ := row_all r5
  subst hx0 hx1 hx4 hx5
  have q0 := u8_lo gq
  have p0 := u8_lo gs
  by_cases n1 : 1000 < xa.length
  · exact far0 a0 a1 a4 a5 cap0 cap1 cap4 cap5 xa xb ys zs s0 h0 s1 h1 q sh W RA RB RO RT ko kt q0 p0 (u8_lo g0) (u8_lo g1) n1
  by_cases n2 : 1000 < xb.length
  · exact far1 a0 a1 a4 a5 cap0 cap1 cap4 cap5 xa xb ys zs s0 h0 s1 h1 q sh W RA RB RO RT ko kt q0 p0 (u8_lo g0) (u8_lo g1) n1 n2
  by_cases n3 : 1000 < ys.length
  · exact far2 a0 a1 a4 a5 cap0 cap1 cap4 cap5 xa xb ys zs s0 h0 s1 h1 q sh W RA RB RO RT ko kt q0 p0 (u8_lo g0) (u8_lo g1) n1 n2 n3
  by_cases n4 : 1000 < zs.length
  · exact far3 a0 a1 a4 a5 cap0 cap1 cap4 cap5 xa xb ys zs s0 h0 s1 h1 q sh W RA RB RO RT ko kt q0 p0 (u8_lo g0) (u8_lo g1) n1 n2 n3 n4
  by_cases n5 : h0 = h1
  · subst n5
    by_cases f1 : (nO xa s0 h0 q sh ys).err = 0
    · by_cases f2 : (nO xb s1 h0 q sh ys).err = 0
      · by_cases f3 : (nO (mk 256 (fun j => SL q h0 sh ys (256 + j))) q sh sh (q % 2) zs).err = 0
        · exact third_good a0 a1 a4 a5 cap0 cap1 cap4 cap5 xa xb ys zs s0 h0 s1 h0 q sh W RA RB RO RT ko kt q0 p0 (u8_lo g0) (u8_lo g1) n1 n2 n3 n4 (nO_err f1) (nO_err f2) _ rfl (nO_err f3)
        · exact third_bad a0 a1 a4 a5 cap0 cap1 cap4 cap5 xa xb ys zs s0 h0 s1 h0 q sh W RA RB RO RT ko kt q0 p0 (u8_lo g0) (u8_lo g1) n1 n2 n3 n4 (nO_err f1) (nO_err f2) _ rfl f3
      · exact goodbad a0 a1 a4 a5 cap0 cap1 cap4 cap5 xa xb ys zs s0 h0 s1 h0 q sh W RA RB RO RT ko kt q0 p0 (u8_lo g0) (u8_lo g1) n1 n2 n3 n4 (nO_err f1) f2
    · by_cases f2 : (nO xb s1 h0 q sh ys).err = 0
      · exact badgood a0 a1 a4 a5 cap0 cap1 cap4 cap5 xa xb ys zs s0 h0 s1 h0 q sh W RA RB RO RT ko kt q0 p0 (u8_lo g0) (u8_lo g1) n1 n2 n3 n4 f1 (nO_err f2)
      · exact badbad a0 a1 a4 a5 cap0 cap1 cap4 cap5 xa xb ys zs s0 h0 s1 h0 q sh W RA RB RO RT ko kt q0 p0 (u8_lo g0) (u8_lo g1) n1 n2 n3 n4 f1 f2
  · exact far4 a0 a1 a4 a5 cap0 cap1 cap4 cap5 xa xb ys zs s0 h0 s1 h1 q sh W RA RB RO RT ko kt q0 p0 (u8_lo g0) (u8_lo g1) n1 n2 n3 n4 n5

theorem own : ownKnob Try.prog.godebug = none := by kernel_rfl
theorem laidOut : laidOutB Try.prog = true := by kernel_rfl
set_option linter.unusedVariables false
set_option maxRecDepth 100000 in
theorem lifted (os : Os) (started : os.Started) (H : Type) (enc : TypeId × Value → H) :
    ReturnsInHanded {} Try.checked os 11 .any (Rows.lapForgetsSpec.pre6 enc Try.prog Try.f11 Rows.lapForgetsRow.domain false) (Rows.lapForgetsSpec.post enc Try.prog Try.f11 false true false false) := by
  refine returnsInHanded_of_change (C := Try.checked) own started (by kernel_rfl) Try.func11
    (ChangeSpec.witness6 (enc := enc) (C := Try.checked) false ⟨#[], #[.agg #[.slice none 0 0, .int .u8 0, .int .u8 0], .agg #[.slice none 0 0, .int .u8 0, .int .u8 0], .int .u8 0, .int .u8 0, .slice none 0 0, .slice none 0 0], []⟩ 8 (by kernel_rfl) (by kernel_rfl) (by kernel_rfl) (by kernel_rfl)) ?_
  intro W base args ds gs before hval0 hW hcnd _
  have hval : ∀ (j : Nat) t v, Try.f11.params[j]? = some t → args[j]? = some v → Value.okWide Try.prog W .any base t v := hval0
  have hW' := hW
  obtain ⟨p, q, hA0, hV, rfl, hfz, hnd⟩ := hW
  have hA : DataW.TrodAll enc Try.prog W 0 (fun _ => true) true Try.f11.params.toList args.toList ds p := hA0
  rw [Try.params11] at hA hval
  obtain ⟨v0, vs0, d0, ds0, p0, q0, hargs, rfl, rfl, h0, r0⟩ := trodAll_cons hA
  obtain ⟨v1, vs1, d1, ds1, p1, q1, rfl, rfl, rfl, h1, r1⟩ := trodAll_cons r0
  obtain ⟨v2, vs2, d2, ds2, p2, q2, rfl, rfl, rfl, h2, r2⟩ := trodAll_cons r1
  obtain ⟨v3, vs3, d3, ds3, p3, q3, rfl, rfl, rfl, h3, r3⟩ := trodAll_cons r2
  obtain ⟨v4, vs4, d4, ds4, p4, q4, rfl, rfl, rfl, h4, r4⟩ := trodAll_cons r3
  obtain ⟨v5, vs5, d5, ds5, p5, q5, rfl, rfl, rfl, h5, r5⟩ := trodAll_cons r4
  obtain ⟨rfl, rfl, rfl⟩ := trodAll_nil r5
  obtain rfl : args = #[v0, v1, v2, v3, v4, v5] := by cases args; simp_all
  obtain ⟨rfl, rfl⟩ := trodVars_none hV
  have k0 := h0
  have lt0 : ∀ x ∈ p0, x.block < W.heap.size := by obtain ⟨m, hm⟩ := k0; exact DataW.trod_lt m _ _ _ hm
  obtain ⟨a0, len0, cap0, z0, a0s, a0h, rfl, w0, w0s, w0h⟩ := open_lap Try.underlying38 rfl rfl rfl Try.underlying22 Try.underlying5 Try.underlying5 Try.underlying3 (by kernel_rfl) (by kernel_rfl) (by kernel_rfl) (by kernel_rfl) (by kernel_rfl) (hval 0 38 v0 rfl rfl) h0
  have k1 := h1
  have lt1 : ∀ x ∈ p1, x.block < W.heap.size := by obtain ⟨m, hm⟩ := k1; exact DataW.trod_lt m _ _ _ hm
  obtain ⟨a1, len1, cap1, z1, a1s, a1h, rfl, w1, w1s, w1h⟩ := open_lap Try.underlying38 rfl rfl rfl Try.underlying22 Try.underlying5 Try.underlying5 Try.underlying3 (by kernel_rfl) (by kernel_rfl) (by kernel_rfl) (by kernel_rfl) (by kernel_rfl) (hval 1 38 v1 rfl rfl) h1
  obtain ⟨a2, rfl, rfl, rfl, w2⟩ := open_int Try.underlying5 (hval 2 5 v2 rfl rfl) h2
  obtain ⟨a3, rfl, rfl, rfl, w3⟩ := open_int Try.underlying5 (hval 3 5 v3 rfl rfl) h3
  obtain ⟨a4, len4, cap4, rfl⟩ := okWide_slice Try.underlying22 (hval 4 22 v4 rfl rfl)
  have k4 := h4
  have lt4 : ∀ x ∈ p4, x.block < W.heap.size := by obtain ⟨m, hm⟩ := k4; exact DataW.trod_lt m _ _ _ hm
  obtain ⟨z4, w4⟩ : ∃ zs, IsRow .i64 W a4 len4 cap4 zs := by
    obtain ⟨fuel, hf⟩ := h4
    rcases open_ints Try.underlying22 Try.underlying3 (by kernel_rfl) hf with ⟨hcs, _⟩ | ⟨x, l, c, zs, hcs, _, hl, hm, hz, _, hcell, hwz⟩
    · simp [Value.cells] at hcs
      obtain ⟨rfl, rfl, rfl⟩ := hcs
      exact ⟨[], .inl ⟨rfl, rfl, rfl, rfl⟩⟩
    · simp [Value.cells] at hcs
      obtain ⟨rfl, rfl, rfl⟩ := hcs
      exact ⟨zs, .inr ⟨_, rfl, hl, hm, by simpa using hz, hcell, hwz⟩⟩
  obtain ⟨a5, len5, cap5, rfl⟩ := okWide_slice Try.underlying22 (hval 5 22 v5 rfl rfl)
  have k5 := h5
  have lt5 : ∀ x ∈ p5, x.block < W.heap.size := by obtain ⟨m, hm⟩ := k5; exact DataW.trod_lt m _ _ _ hm
  obtain ⟨z5, w5⟩ : ∃ zs, IsRow .i64 W a5 len5 cap5 zs := by
    obtain ⟨fuel, hf⟩ := h5
    rcases open_ints Try.underlying22 Try.underlying3 (by kernel_rfl) hf with ⟨hcs, _⟩ | ⟨x, l, c, zs, hcs, _, hl, hm, hz, _, hcell, hwz⟩
    · simp [Value.cells] at hcs
      obtain ⟨rfl, rfl, rfl⟩ := hcs
      exact ⟨[], .inl ⟨rfl, rfl, rfl, rfl⟩⟩
    · simp [Value.cells] at hcs
      obtain ⟨rfl, rfl, rfl⟩ := hcs
      exact ⟨zs, .inr ⟨_, rfl, hl, hm, by simpa using hz, hcell, hwz⟩⟩
  clear hA0 hval0
  refine (walk a0 len0 cap0 z0 a0s a0h a1 len1 cap1 z1 a1s a1h a2 a3 a4 len4 cap4 z4 a5 len5 cap5 z5 W w0 w0s w0h w1 w1s w1h w2 w3 w4 w5).mono fun e W' ⟨he, bel⟩ => ?_
  subst he
  exact ⟨_, rfl, _, _, _, [], _, [], hW', trodAll_mk1 (shut_bool Try.underlying4 _), (trodAll_cons_mk (Below.trod laidOut (by kernel_rfl) (of_decide_eq_true (by kernel_rfl)) k0 bel lt0) (trodAll_cons_mk (Below.trod laidOut (by kernel_rfl) (of_decide_eq_true (by kernel_rfl)) k1 bel lt1) (trodAll_cons_mk (shut_int Try.underlying5 w2) (trodAll_cons_mk (shut_int Try.underlying5 w3) (trodAll_cons_mk (Below.trod laidOut (by kernel_rfl) (of_decide_eq_true (by kernel_rfl)) k4 bel lt4) (trodAll_cons_mk (Below.trod laidOut (by kernel_rfl) (of_decide_eq_true (by kernel_rfl)) k5 bel lt5) trodAll_mk0)))))), rfl, bel.frame _, fun h => by cases h⟩

theorem over : Rows.lapForgetsRow.holds Try.pinned (OpenSpec.ofChange Rows.lapForgetsSpec) :=
  OpenClaim.holds_of_wide 11 Try.f11 rfl rfl rfl rfl rfl rfl rfl ⟨rfl, rfl, rfl, rfl, rfl⟩ rfl rfl rfl rfl rfl (by kernel_rfl) Try.func11 (by kernel_rfl)
    (of_decide_eq_true (by kernel_rfl)) (by unfold Func.isWrapper; first | (rw [if_pos (by decide +kernel)]; kernel_rfl) | (rw [if_neg (by decide +kernel)]; exact ⟨rfl, rfl⟩))
    (fun os started H enc _ => lifted os started H enc)

theorem proved : Rows.LapForgetsSaid := over
end Go.Proofs.Yteknakakefhbmaa.lapForgets
