/- Texts of one claim, one behind the other: QnLn, QnGt, QnOp, QnMt. -/
import Derived.Test.YtanjcbnkkhbkkaaDoorQnTl
import Derived.Test.YtanjcbnkkhbkkaaDoorQnTq
import Derived.Test.YtanjcbnkkhbkkaaDoorMrg1
import Derived.Test.YtanjcbnkkhbkkaaDoorMrg3
import Derived.WalkKit
import Derived.ProofKit
import Derived.OpenShut
import Derived.Lib.Hide
import Derived.Test.YtanjcbnkkhbkkaaDoorEvOpen
import Derived.Deep.Matrix
import Derived.Below
set_option linter.unusedVariables false
/- What quant's two calls answer. -/
namespace Go.Proofs.YtanjcbnkkhbkkaaDoor.Qn
open Go Go.ChangeShapes Go.WideShapes Go.ChangeAt Go.RowKit Go.Proofs.YtanjcbnkkhbkkaaDoor.If Go.Proofs.YtanjcbnkkhbkkaaDoor.Bd

/-- What a call is given, but for the lines. -/
structure Inp (w : World) (ga : Option Addr) (gz : List Int) (O P : Option Addr) (B S : List (List Int)) : Prop where
  gl : gz.length ≤ 100
  bl : B.length ≤ 100
  sl : S.length ≤ 100
  br : ∀ i, i < B.length → (B.getD i []).length ≤ maxLen
  sr : ∀ i, i < S.length → (S.getD i []).length ≤ maxLen
  hg : RdA w ga gz
  rB : RdR w O B
  rS : RdR w P S
theorem Inp.below {w w' : World} {ga : Option Addr} {gz : List Int} {O P : Option Addr} {B S : List (List Int)} (h : Inp w ga gz O P B S) (hb : Below w.heap.size w w') : Inp w' ga gz O P B S :=
  ⟨h.gl, h.bl, h.sl, h.br, h.sr, h.hg.below hb, h.rB.below hb, h.rS.below hb⟩
def inr (most : Int) (lz : List Int) : Prop := ∀ j, j < 256 → -most ≤ lz.getD j 0 ∧ lz.getD j 0 ≤ most
/-- Nothing is wrong. -/
def Fine (r s h m : Int) (gz : List Int) (B S : List (List Int)) (lz : List Int) (most : Int) : Prop := QE r s h m gz B S 0 ∧ lz.length = 256 ∧ inr most lz

theorem turned_err (r s h m : Int) (ga : Option Addr) (gc : Nat) (gz : List Int) (O P A : Option Addr) (oc pc lc : Nat) (B S : List (List Int)) (lz : List Int) (most : Int) (fn : Nat) (w : World) (I : Inp w ga gz O P B S) (hll : lz.length ≤ 1000) (rl : RdA w A lz) (hm0 : 0 ≤ most) (hm1 : most ≤ 1099511627776) (hf : ¬ Fine r s h m gz B S lz most) :
    Calls Tryd.prog 53 #[.int .i64 r, .agg #[.int .u8 s, .int .u8 h, .int .i64 m, .slice ga gz.length gc], .slice O B.length oc, .slice P S.length pc, .slice A lz.length lc, .int .i64 most, .func (.func fn) #[] #[]] w fun e w' => ∃ c, c ≠ 0 ∧ e = .returned (.tuple #[.slice none 0 0, .int .i64 c]) ∧ Below w.heap.size w w' := by
  obtain ⟨c, hq⟩ := qe_ex r s h m gz B S
  by_cases hc : c = 0
  · subst hc
    by_cases hl : lz.length = 256
    · have hbad : ∃ j : Nat, j < 256 ∧ ¬ (-most ≤ lz.getD j 0 ∧ lz.getD j 0 ≤ most) := Classical.byContradiction fun hn => hf ⟨hq, hl, fun j hj => Classical.byContradiction fun hx => hn ⟨j, hj, hx⟩⟩
      obtain ⟨j, hj, hx⟩ := hbad
      exact (turned_e3 r s h m ga gc gz O P A oc pc lc B S lz most fn w (by have := I.gl; omega) (by have := I.bl; omega) (by have := I.sl; omega) I.br I.sr (by omega) I.hg I.rB I.rS rl 0 hq rfl hl hm0 hm1 ⟨j, by omega, hj, hx⟩).mono fun e w' hh => ⟨2, by decide, hh.1, hh.2⟩
    · exact (turned_e2 r s h m ga gc gz O P A oc pc lc B S lz most fn w (by have := I.gl; omega) (by have := I.bl; omega) (by have := I.sl; omega) I.br I.sr (by omega) I.hg I.rB I.rS rl 0 hq rfl hl).mono fun e w' hh => ⟨4, by decide, hh.1, hh.2⟩
  · exact (turned_e1 r s h m ga gc gz O P A oc pc lc B S lz most fn w (by have := I.gl; omega) (by have := I.bl; omega) (by have := I.sl; omega) I.br I.sr (by omega) I.hg I.rB I.rS rl c hq hc).mono fun e w' hh => ⟨c, hc, hh.1, hh.2⟩
theorem chk_rate {r s h m : Int} {gz : List Int} (hc : chk r s h m gz = 0) : 0 ≤ r ∧ r ≤ 11 := by
  by_cases c : r < 0 ∨ 11 < r
  · rw [chk_arg c] at hc; exact absurd hc (by decide)
  · omega
/-- Lines that were answered. -/
def Ansr (w w' : World) (e : Ending) (F : Nat → Int) : Prop := ∃ g, e = .returned (.tuple #[.slice (some ⟨g, 0, none⟩) 256 256, .int .i64 0]) ∧ w'.rowIs g 3 256 (fun j => .int .i64 (F j)) ∧ w.heap.size ≤ g ∧ Below w.heap.size w w'

theorem lines_t (r s h m : Int) (ga : Option Addr) (gc : Nat) (gz : List Int) (O P A : Option Addr) (oc pc lc : Nat) (B S : List (List Int)) (lz : List Int) (w : World) (hqs : Fx.Qs w) (I : Inp w ga gz O P B S) (rl : RdA w A lz) (hf : Fine r s h m gz B S lz 8191) :
    Calls Tryd.prog 53 #[.int .i64 r, .agg #[.int .u8 s, .int .u8 h, .int .i64 m, .slice ga gz.length gc], .slice O B.length oc, .slice P S.length pc, .slice A lz.length lc, .int .i64 8191, .func (.func 17) #[] #[]] w fun e w' => Ansr w w' e (QV r s m gz B S lz Fx.FL) := by
  obtain ⟨hq, hl, hin⟩ := hf
  have hck := (qe_zero hq).1
  obtain ⟨r0, r1⟩ := chk_rate hck
  exact turned_17 r s h m ga gc gz O P A oc pc lc B S lz 8191 w r0 r1 hck (by have := I.gl; omega) (by have := I.bl; omega) (by have := I.sl; omega) I.br I.sr I.hg I.rB I.rS rl hl hq (by decide) (by decide) hin Fx.FL Fx.EL hqs (fun x st W hW => (Fx.line_k x st (Fx.Kp.refl hW)).mono fun e w' hh => ⟨hh.1, hh.2.1, hh.2.2⟩)
theorem lines_good (r s h m : Int) (ga : Option Addr) (gc : Nat) (gz : List Int) (O P A : Option Addr) (oc pc lc : Nat) (B S : List (List Int)) (lz : List Int) (w : World) (hqs : Fx.Qs w) (I : Inp w ga gz O P B S) (rl : RdA w A lz) (hf : Fine r s h m gz B S lz 8191) :
    Calls Tryd.prog 31 #[.int .i64 r, .agg #[.int .u8 s, .int .u8 h, .int .i64 m, .slice ga gz.length gc], .slice O B.length oc, .slice P S.length pc, .slice A lz.length lc] w fun e w' => Ansr w w' e (QV r s m gz B S lz Fx.FL) := by
  have HB := Lib.hid (box_below w (.cells #[.int .u8 s, .int .u8 h, .int .i64 m, .slice ga gz.length gc] 50))
  obtain ⟨y0, y1, y2, y3⟩ := boxed w s h m (.slice ga gz.length gc) _ (Below.refl _ _)
  have HT := Lib.hid (lines_t r s h m ga gc gz O P A oc pc lc B S lz _ (hqs.below HB.out) (I.below HB.out) (rl.below HB.out) hf)
  clear I rl hf hqs
  go_enter Tryd.func31, Tryd.ntmps31
  go_wp2_with (go_at_call 53; ((with_reducible refine (HT.out).mono ?_); rintro e w1 ⟨g, rfl, hr, hg, hb⟩))
  go_ret2
  exact ⟨g, rfl, hr, by simp at hg; omega, belowT HB.out hb⟩
theorem lines_err (r s h m : Int) (ga : Option Addr) (gc : Nat) (gz : List Int) (O P A : Option Addr) (oc pc lc : Nat) (B S : List (List Int)) (lz : List Int) (w : World) (I : Inp w ga gz O P B S) (hll : lz.length ≤ 1000) (rl : RdA w A lz) (hf : ¬ Fine r s h m gz B S lz 8191) :
    Calls Tryd.prog 31 #[.int .i64 r, .agg #[.int .u8 s, .int .u8 h, .int .i64 m, .slice ga gz.length gc], .slice O B.length oc, .slice P S.length pc, .slice A lz.length lc] w fun e w' => ∃ c, c ≠ 0 ∧ e = .returned (.tuple #[.slice none 0 0, .int .i64 c]) ∧ Below w.heap.size w w' := by
  have HB := Lib.hid (box_below w (.cells #[.int .u8 s, .int .u8 h, .int .i64 m, .slice ga gz.length gc] 50))
  obtain ⟨y0, y1, y2, y3⟩ := boxed w s h m (.slice ga gz.length gc) _ (Below.refl _ _)
  have HT := Lib.hid (turned_err r s h m ga gc gz O P A oc pc lc B S lz 8191 17 _ (I.below HB.out) hll (rl.below HB.out) (by decide) (by decide) hf)
  clear I rl hf hll
  go_enter Tryd.func31, Tryd.ntmps31
  go_wp2_with (go_at_call 53; ((with_reducible refine (HT.out).mono ?_); rintro e w1 ⟨c, hc, rfl, hb⟩))
  go_ret2
  exact ⟨c, hc, rfl, belowT HB.out hb⟩

theorem quant_t (r s h m : Int) (ga : Option Addr) (gc : Nat) (gz : List Int) (O P A : Option Addr) (oc pc lc : Nat) (B S : List (List Int)) (lz : List Int) (w : World) (hqs : Fx.Qs w) (I : Inp w ga gz O P B S) (rl : RdA w A lz) (hf : Fine r s h m gz B S lz 268435455) :
    Calls Tryd.prog 53 #[.int .i64 r, .agg #[.int .u8 s, .int .u8 h, .int .i64 m, .slice ga gz.length gc], .slice O B.length oc, .slice P S.length pc, .slice A lz.length lc, .int .i64 268435455, .func (.func 19) #[] #[]] w fun e w' => Ansr w w' e (QV r s m gz B S lz Fx.FQ) := by
  obtain ⟨hq, hl, hin⟩ := hf
  have hck := (qe_zero hq).1
  obtain ⟨r0, r1⟩ := chk_rate hck
  exact turned_19 r s h m ga gc gz O P A oc pc lc B S lz 268435455 w r0 r1 hck (by have := I.gl; omega) (by have := I.bl; omega) (by have := I.sl; omega) I.br I.sr I.hg I.rB I.rS rl hl hq (by decide) (by decide) hin Fx.FQ Fx.EQ hqs (fun x st W hW => (Fx.quant_k x st (Fx.Kp.refl hW)).mono fun e w' hh => ⟨hh.1, hh.2.1, hh.2.2⟩)
theorem quant_good (r s h m : Int) (ga : Option Addr) (gc : Nat) (gz : List Int) (O P A : Option Addr) (oc pc lc : Nat) (B S : List (List Int)) (lz : List Int) (w : World) (hqs : Fx.Qs w) (I : Inp w ga gz O P B S) (rl : RdA w A lz) (hf : Fine r s h m gz B S lz 268435455) :
    Calls Tryd.prog 33 #[.int .i64 r, .agg #[.int .u8 s, .int .u8 h, .int .i64 m, .slice ga gz.length gc], .slice O B.length oc, .slice P S.length pc, .slice A lz.length lc] w fun e w' => Ansr w w' e (QV r s m gz B S lz Fx.FQ) := by
  have HB := Lib.hid (box_below w (.cells #[.int .u8 s, .int .u8 h, .int .i64 m, .slice ga gz.length gc] 50))
  obtain ⟨y0, y1, y2, y3⟩ := boxed w s h m (.slice ga gz.length gc) _ (Below.refl _ _)
  have HT := Lib.hid (quant_t r s h m ga gc gz O P A oc pc lc B S lz _ (hqs.below HB.out) (I.below HB.out) (rl.below HB.out) hf)
  clear I rl hf hqs
  go_enter Tryd.func33, Tryd.ntmps33
  go_wp2_with (go_at_call 53; ((with_reducible refine (HT.out).mono ?_); rintro e w1 ⟨g, rfl, hr, hg, hb⟩))
  go_ret2
  exact ⟨g, rfl, hr, by simp at hg; omega, belowT HB.out hb⟩
theorem quant_err (r s h m : Int) (ga : Option Addr) (gc : Nat) (gz : List Int) (O P A : Option Addr) (oc pc lc : Nat) (B S : List (List Int)) (lz : List Int) (w : World) (I : Inp w ga gz O P B S) (hll : lz.length ≤ 1000) (rl : RdA w A lz) (hf : ¬ Fine r s h m gz B S lz 268435455) :
    Calls Tryd.prog 33 #[.int .i64 r, .agg #[.int .u8 s, .int .u8 h, .int .i64 m, .slice ga gz.length gc], .slice O B.length oc, .slice P S.length pc, .slice A lz.length lc] w fun e w' => ∃ c, c ≠ 0 ∧ e = .returned (.tuple #[.slice none 0 0, .int .i64 c]) ∧ Below w.heap.size w w' := by
  have HB := Lib.hid (box_below w (.cells #[.int .u8 s, .int .u8 h, .int .i64 m, .slice ga gz.length gc] 50))
  obtain ⟨y0, y1, y2, y3⟩ := boxed w s h m (.slice ga gz.length gc) _ (Below.refl _ _)
  have HT := Lib.hid (turned_err r s h m ga gc gz O P A oc pc lc B S lz 268435455 19 _ (I.below HB.out) hll (rl.below HB.out) (by decide) (by decide) hf)
  clear I rl hf hll
  go_enter Tryd.func33, Tryd.ntmps33
  go_wp2_with (go_at_call 53; ((with_reducible refine (HT.out).mono ?_); rintro e w1 ⟨c, hc, rfl, hb⟩))
  go_ret2
  exact ⟨c, hc, rfl, belowT HB.out hb⟩
end Go.Proofs.YtanjcbnkkhbkkaaDoor.Qn

/- Which lists are great; how far two numbers are apart. -/
namespace Go.Proofs.YtanjcbnkkhbkkaaDoor.Qn
open Go Go.ChangeShapes Go.WideShapes Go.ChangeAt Go.RowKit Go.Proofs.YtanjcbnkkhbkkaaDoor.If Go.Proofs.YtanjcbnkkhbkkaaDoor.Bd

def far (a b : Int) : Int := if b - a ≤ a - b then a - b else b - a
theorem far_ok40 (a b : Int) (w : World) (a0 : -1099511627776 ≤ a) (a1 : a ≤ 1099511627776) (b0 : -1099511627776 ≤ b) (b1 : b ≤ 1099511627776) : Calls Tryd.prog 40 #[.int .i64 a, .int .i64 b] w fun e w' => e = .returned (.int .i64 (far a b)) ∧ w = w' := by
  have e1 : IntKind.i64.wrap (a - b) = a - b := Fx.i64_in (by omega) (by omega)
  have e2 : IntKind.i64.wrap (b - a) = b - a := Fx.i64_in (by omega) (by omega)
  unfold far
  by_cases h : b - a ≤ a - b
  · rw [if_pos h]
    have h2 : ¬ a - b < b - a := by omega
    go_enter Tryd.func40, Tryd.ntmps40
    go_wp2
    go_ret
    exact ⟨rfl, rfl⟩
  · rw [if_neg h]
    have h2 : a - b < b - a := by omega
    go_enter Tryd.func40, Tryd.ntmps40
    go_wp2
    go_ret
    exact ⟨rfl, rfl⟩

/-- How many numbers lists of lists hold. -/
def sm (z : List (List Int)) : Nat := z.foldl (fun n l => n + min l.length 10000) 0
theorem sm_succ (z : List (List Int)) (k : Nat) (h : k < z.length) : sm (z.take (k + 1)) = sm (z.take k) + min (z.getD k []).length 10000 := by
  unfold sm
  rw [List.take_succ_eq_append_getElem h, List.foldl_append]
  simp [h]
theorem sm_le (z : List (List Int)) : ∀ k, k ≤ z.length → sm (z.take k) ≤ 10000 * k
  | 0, _ => by simp [sm]
  | k + 1, h => by
    have := sm_le z k (by omega)
    rw [sm_succ z k (by omega)]
    omega
theorem sm_all (z : List (List Int)) : sm (z.take z.length) = sm z := by rw [List.take_length]
/-- Are lists great? -/
def grt (gl : Nat) (B S : List (List Int)) (ll : Nat) : Bool := decide (100 < gl) || decide (100 < B.length) || decide (100 < S.length) || decide (1000 < ll) || decide (10000 < sm B + sm S)
theorem retB2 {a b : Bool} {p : Prop} (h : a = b) (hp : p) : Ending.returned (.bool a) = .returned (.bool b) ∧ p := ⟨by rw [h], hp⟩
set_option maxRecDepth 100000 in
set_option maxHeartbeats 2000000 in
theorem great_ok (s h m : Int) (ga : Option Addr) (gc : Nat) (gz : List Int) (O P A : Option Addr) (oc pc lc ll : Nat) (B S : List (List Int)) (w : World) (hgl : gz.length ≤ maxLen) (hB : B.length ≤ maxLen) (hS : S.length ≤ maxLen) (hL : ll ≤ maxLen) (hBr : ∀ i, i < B.length → (B.getD i []).length ≤ maxLen) (hSr : ∀ i, i < S.length → (S.getD i []).length ≤ maxLen) (rB : RdR w O B) (rS : RdR w P S) :
    Calls Tryd.prog 29 #[.agg #[.int .u8 s, .int .u8 h, .int .i64 m, .slice ga gz.length gc], .slice O B.length oc, .slice P S.length pc, .slice A ll lc] w fun e w' => e = .returned (.bool (grt gz.length B S ll)) ∧ Below w.heap.size w w' := by
  have HB := Lib.hid (box_below w (.cells #[.int .u8 s, .int .u8 h, .int .i64 m, .slice ga gz.length gc] 50))
  obtain ⟨y0, y1, y2, y3⟩ := boxed w s h m (.slice ga gz.length gc) _ (Below.refl _ _)
  have HRB := Lib.hid (rB.below HB.out)
  have HRS := Lib.hid (rS.below HB.out)
  have HBR := Lib.hid hBr
  have HSR := Lib.hid hSr
  clear rB rS hBr hSr
  unfold maxLen at hgl hB hS hL
  by_cases c1 : 100 < gz.length
  · rw [show grt gz.length B S ll = true by simp [grt, c1]]
    go_enter Tryd.func29, Tryd.ntmps29
    go_wp2
    go_ret
    exact ⟨rfl, HB.out⟩
  by_cases c2 : 100 < B.length
  · rw [show grt gz.length B S ll = true by simp [grt, c2]]
    go_enter Tryd.func29, Tryd.ntmps29
    go_wp2
    go_ret
    exact ⟨rfl, HB.out⟩
  by_cases c3 : 100 < S.length
  · rw [show grt gz.length B S ll = true by simp [grt, c3]]
    go_enter Tryd.func29, Tryd.ntmps29
    go_wp2
    go_ret
    exact ⟨rfl, HB.out⟩
  by_cases c4 : 1000 < ll
  · rw [show grt gz.length B S ll = true by simp [grt, c4]]
    go_enter Tryd.func29, Tryd.ntmps29
    go_wp2
    go_ret
    exact ⟨rfl, HB.out⟩
  have HG := Lib.hid (show grt gz.length B S ll = decide (10000 < sm B + sm S) by simp [grt, c1, c2, c3, c4])
  have d1 : gz.length ≤ 100 := by omega
  have d2 : B.length ≤ 100 := by omega
  have d3 : S.length ≤ 100 := by omega
  have d4 : ll ≤ 1000 := by omega
  have bB := sm_le B B.length (Nat.le_refl _)
  rw [sm_all] at bB
  clear hgl hB hS hL
  rw [HG.out]
  go_enter Tryd.func29, Tryd.ntmps29
  go_wp2
  go_loop [9, 10] (fun n i => ∃ k : Nat, k ≤ B.length ∧ i = .int .i64 k ∧ n = .int .i64 ((sm (B.take k) : Nat) : Int)) (fun _ i => B.length - (intOf i).toNat)
  case atStart => exact ⟨0, by omega, rfl, rfl⟩
  case round =>
    obtain ⟨k, hk, rfl, rfl⟩ := hrel
    by_cases hlt : k < B.length
    · obtain ⟨b, off, a, c, e, lb, cR, rd⟩ := HRB.out k hlt
      subst e
      have hml := HBR.out k hlt
      have hlt' : (k : Int) < (B.length : Int) := by omega
      have hsl := sm_le B k hk
      have hss := sm_succ B k hlt
      generalize (B.getD k []).length = Ln at *
      generalize sm (B.take k) = V at *
      obtain ⟨V2, hV2⟩ : ∃ V2, sm (B.take (k + 1)) = V2 := ⟨_, rfl⟩
      rw [hV2] at hss
      have HV2 := Lib.hid hV2
      clear hV2
      unfold maxLen at hml
      by_cases hm : Ln ≤ 10000
      · have e1 : IntKind.i64.wrap ((V : Int) + (Ln : Int)) = (V2 : Int) := by rw [Fx.i64_in (by omega) (by omega)]; omega
        clear hss
        go_wp2
        go_round
        case rel => exact ⟨k + 1, by omega, by go_num, by rw [HV2.out]⟩
        case measure => simp [intOf]; omega
      · have e1 : IntKind.i64.wrap ((V : Int) + 10000) = (V2 : Int) := by rw [Fx.i64_in (by omega) (by omega)]; omega
        clear hss
        go_wp2
        go_round
        case rel => exact ⟨k + 1, by omega, by go_num, by rw [HV2.out]⟩
        case measure => simp [intOf]; omega
    · obtain rfl : k = B.length := by omega
      rw [sm_all]
      go_wp2
      go_loop [9, 11] (fun n i => ∃ k : Nat, k ≤ S.length ∧ i = .int .i64 k ∧ n = .int .i64 ((sm B + sm (S.take k) : Nat) : Int)) (fun _ i => S.length - (intOf i).toNat)
      case atStart => exact ⟨0, by omega, rfl, rfl⟩
      case round =>
        obtain ⟨k, hk, rfl, rfl⟩ := hrel
        by_cases hlt : k < S.length
        · obtain ⟨b, off, a, c, e, lb, cR, rd⟩ := HRS.out k hlt
          subst e
          have hml := HSR.out k hlt
          have hlt' : (k : Int) < (S.length : Int) := by omega
          have hsl := sm_le S k hk
          have hss := sm_succ S k hlt
          generalize (S.getD k []).length = Ln at *
          generalize sm (S.take k) = V at *
          obtain ⟨V2, hV2⟩ : ∃ V2, sm (S.take (k + 1)) = V2 := ⟨_, rfl⟩
          rw [hV2] at hss
          have HV2 := Lib.hid hV2
          clear hV2
          obtain ⟨V3, hV3⟩ : ∃ V3, sm B + V = V3 := ⟨_, rfl⟩
          have hV4 := Lib.hid (show sm B + V2 = V3 + min Ln 10000 by omega)
          rw [hV3]
          unfold maxLen at hml
          have hV5 : V3 ≤ 2000000 := by omega
          clear hss hV3
          by_cases hm : Ln ≤ 10000
          · have e1 : IntKind.i64.wrap ((V3 : Int) + (Ln : Int)) = ((V3 + Ln : Nat) : Int) := by rw [Fx.i64_in (by omega) (by omega)]; omega
            go_wp2
            go_round
            case rel => exact ⟨k + 1, by omega, by go_num, by rw [HV2.out, hV4.out, Nat.min_eq_left hm]; first | rfl | go_num⟩
            case measure => simp [intOf]; omega
          · have e1 : IntKind.i64.wrap ((V3 : Int) + 10000) = ((V3 + 10000 : Nat) : Int) := by rw [Fx.i64_in (by omega) (by omega)]; omega
            go_wp2
            go_round
            case rel => exact ⟨k + 1, by omega, by go_num, by rw [HV2.out, hV4.out, Nat.min_eq_right (by omega)]; first | rfl | go_num⟩
            case measure => simp [intOf]; omega
        · obtain rfl : k = S.length := by omega
          rw [sm_all]
          obtain ⟨V, hV⟩ : ∃ V, sm B + sm S = V := ⟨_, rfl⟩
          have HV := Lib.hid hV
          rw [hV]
          clear hV
          go_wp2
          go_ret
          exact retB2 (by rw [HV.out]; simp; omega) HB.out
theorem grt_no {gl ll : Nat} {B S : List (List Int)} (h : grt gl B S ll = false) : gl ≤ 100 ∧ B.length ≤ 100 ∧ S.length ≤ 100 ∧ ll ≤ 1000 := by
  simp only [grt, Bool.or_eq_false_iff, decide_eq_false_iff_not] at h
  omega
end Go.Proofs.YtanjcbnkkhbkkaaDoor.Qn

/- Lists of lists, as they come in, taken apart. -/
namespace Go.Proofs.YtanjcbnkkhbkkaaDoor.Qn
open Go Go.Ev Go.ChangeShapes Go.WideShapes Go.RowKit Go.Deep Go.Proofs.YtanjcbnkkhbkkaaDoor.If

/-- A list of lists that came in. -/
structure Rws (w : World) (a : Option Addr) (len cap : Nat) (z : List (List Int)) : Prop where
  ln : z.length = len
  rd : RdR w a z
  mx : ∀ i, i < z.length → (z.getD i []).length ≤ maxLen
  le : len ≤ maxLen
theorem cell_in' {w : World} {a : Addr} {v : Value} (h : w.cell? a = some v) : a.block < w.heap.size := World.block_lt_of_cell? w a h
theorem rda_of {w : World} {A : Option Addr} {C : Nat} {Z : List Int} (hl : Z.length = C) (h0 : A = none → C = 0) (hc : ∀ a', A = some a' → ∀ c, c < C → w.cell? (a'.add c) = some (.int .i64 (Z.getD c 0))) (L : Nat) (hL : L ≤ C) : RdA w A (Z.take L) := by
  intro i hi
  have hi' : i < L ∧ i < C := by simp at hi; omega
  cases A with
  | none => have := h0 rfl; omega
  | some a' =>
    obtain ⟨b, off, sub⟩ := a'
    have q := hc _ rfl i hi'.2
    have hs : sub = none := by simpa [Addr.add] using World.cell?_spot (hc _ rfl 0 (by omega))
    subst hs
    rw [Go.WideShapes.add_plain] at q
    refine ⟨b, off, rfl, cell_in' q, ?_⟩
    rw [q]
    simp [hi'.1]
variable {H : Type} {enc : TypeId × Value → H} {P : Program} {W : World}
theorem open_rows {t e q : TypeId} {a : Option Addr} {len cap : Nat} {d : DataW H} {p : List MemPlace} (ht : P.underlying t = some (.slice e)) (he : P.underlying e = some (.slice q)) (hq : P.underlying q = some (.int .i64))
    (ce : P.cellsOf e = 1) (cq : P.cellsOf q = 1) (h : DataW.Trod enc P W 0 (fun _ => true) true t (.slice a len cap) d p) : ∃ z, Rws W a len cap z := by
  obtain ⟨fuel, hf⟩ := h
  rcases open_int_rows ht he hq ce cq hf with ⟨hcs, _⟩ | ⟨a', l', c', A, L, C, Z, hcs, _, hl, hm, _, hx⟩
  · simp [Value.cells] at hcs
    obtain ⟨rfl, rfl, rfl⟩ := hcs
    exact ⟨[], rfl, fun i hi => by simp at hi, fun i hi => by simp at hi, Nat.zero_le _⟩
  · simp [Value.cells] at hcs
    obtain ⟨rfl, rfl, rfl⟩ := hcs
    refine ⟨(List.range len).map fun r => (Z r).take (L r), by simp, fun i hi => ?_, fun i hi => ?_, by omega⟩
    · have hi' : i < len := by simpa using hi
      obtain ⟨x0, x1, x2, x3, _, x5, x6⟩ := hx i (by omega)
      have e : ((List.range len).map fun r => (Z r).take (L r)).getD i [] = (Z i).take (L i) := by simp [hi']
      rw [e]
      have el : ((Z i).take (L i)).length = L i := by simp; omega
      obtain ⟨b, off, sub⟩ := a'
      have hs : sub = none := by simpa [Addr.add] using World.cell?_spot (hx 0 (by omega)).1
      subst hs
      rw [Go.WideShapes.add_plain] at x0
      refine ⟨b, off, A i, C i, rfl, cell_in' x0, by rw [el]; exact x0, rda_of x3 x5 (fun a' ha => (x6 a' ha).2) _ x1⟩
    · have hi' : i < len := by simpa using hi
      obtain ⟨x0, x1, x2, x3, _⟩ := hx i (by omega)
      have e : ((List.range len).map fun r => (Z r).take (L r)).getD i [] = (Z i).take (L i) := by simp [hi']
      rw [e]
      simp; omega
/-- A slice of numbers that came in. -/
def IsRow (k : IntKind) (w : World) (a : Option Addr) (len cap : Nat) (zs : List Int) : Prop :=
  (a = none ∧ len = 0 ∧ cap = 0 ∧ zs = []) ∨ ∃ x, a = some x ∧ len ≤ cap ∧ cap ≤ maxLen ∧ zs.length = cap ∧ (∀ i, i < zs.length → w.cell? (x.add i) = some (.int k (zs.getD i 0))) ∧ ∀ n ∈ zs, (Lit.int k n).wf = true
theorem row_rd {w : World} {a : Option Addr} {len cap : Nat} {zs : List Int} (h : IsRow .i64 w a len cap zs) : ∃ z : List Int, z.length = len ∧ RdA w a z ∧ len ≤ maxLen := by
  rcases h with ⟨rfl, rfl, rfl, rfl⟩ | ⟨x, rfl, hl, hm, hz, hc, _⟩
  · exact ⟨[], rfl, fun i hi => by simp at hi, by unfold maxLen; omega⟩
  · exact ⟨zs.take len, by simp; omega, rda_of (C := cap) hz (fun e => by cases e) (fun a' e c hcc => by cases e; exact hc c (by omega)) len hl, by omega⟩
theorem rowa_rd {w : World} {a : Option Addr} {zs : List Int} (h : RowA .i64 w a zs) : RdA w a zs := h
end Go.Proofs.YtanjcbnkkhbkkaaDoor.Qn

/- Lines there and back: the numbers. -/
namespace Go.Proofs.YtanjcbnkkhbkkaaDoor.Qn
open Go Go.RowKit Go.Proofs.YtanjcbnkkhbkkaaDoor.If Go.Proofs.YtanjcbnkkhbkkaaDoor.Bd Go.Proofs.YtanjcbnkkhbkkaaDoor.Fx

def mkq (F : Nat → Int) : List Int := (List.range 256).map F
theorem mkq_len (F : Nat → Int) : (mkq F).length = 256 := by simp [mkq]
theorem mkq_get (F : Nat → Int) {j : Nat} (h : j < 256) : (mkq F).getD j 0 = F j := by simp [mkq, h]
theorem rda_row {w : World} {g : Nat} {F : Nat → Int} (h : w.rowIs g 3 256 (fun j => .int .i64 (F j))) : RdA w (some ⟨g, 0, none⟩) (mkq F) := fun i hi => by
  rw [mkq_len] at hi
  exact ⟨g, 0, rfl, h.lt, by rw [Nat.zero_add, h.cell hi, mkq_get F hi]⟩
open Classical in
/-- What becomes of one line. -/
noncomputable def st (c : Prop) (f : Int → Int → Int) (x T : Int) : Int := if x ≠ 0 ∧ c then f x T else 0
/-- Is a line sent? -/
def Cn (r s m : Int) (gz : List Int) (B : List (List Int)) (k : Nat) : Prop := (bk r s k : Int) < m ∧ snt ((B.getD (gk s gz k) []).getD (bk r s k) 0) = true
noncomputable def stp (r s : Int) (gz : List Int) (S : List (List Int)) (k : Nat) : Int := (S.getD (gk s gz k) []).getD (bk r s k) 0
theorem qv_st (r s m : Int) (gz : List Int) (B S : List (List Int)) (l : List Int) (f : Int → Int → Int) (k : Nat) : QV r s m gz B S l f k = st (Cn r s m gz B k) f (l.getD k 0) (stp r s gz S k) := by
  unfold QV qv st Cn stp
  by_cases h : l.getD k 0 ≠ 0 ∧ (bk r s k : Int) < m ∧ snt ((B.getD (gk s gz k) []).getD (bk r s k) 0) = true
  · rw [if_pos h, if_pos ⟨h.1, h.2.1, h.2.2⟩]
  · rw [if_neg h, if_neg (fun h' => h ⟨h'.1, h'.2.1, h'.2.2⟩)]
theorem step_in {r s h m : Int} {gz : List Int} {B S : List (List Int)} (hq : QE r s h m gz B S 0) {k : Nat} (hk : k < 256) (c : Cn r s m gz B k) : 0 ≤ stp r s gz S k ∧ stp r s gz S k ≤ 255 := by
  obtain ⟨hck, hBl, hSl, hBm, hSm, hnb⟩ := qe_zero hq
  have hg := gk_lt hck hk
  have hb := hnb (gk s gz k) (bk r s k) (by omega) (by have := hBm _ (show gk s gz k < B.length by omega); have := c.1; omega)
  unfold stp
  have hs := c.2
  unfold badP at hb
  generalize (B.getD (gk s gz k) []).getD (bk r s k) 0 = V at *
  generalize (S.getD (gk s gz k) []).getD (bk r s k) 0 = T at *
  exact Classical.byContradiction fun hn => hb (.inr (.inr ⟨hs, by omega⟩))
theorem LN_zero {s : Int} (hs : 0 ≤ s) : Fx.LN 0 s = 0 := by rw [LN_pos (by omega), ln_zero hs]
theorem st_not {c : Prop} (h : ¬ c) (f : Int → Int → Int) (x T : Int) : st c f x T = 0 := by unfold st; rw [if_neg (fun h' => h h'.2)]
theorem st_zero (c : Prop) (f : Int → Int → Int) (T : Int) : st c f 0 T = 0 := by unfold st; rw [if_neg (fun h' => h'.1 rfl)]
theorem st_fl {c : Prop} (h : c) {q T : Int} (t0 : 0 ≤ T) (t1 : T ≤ 255) (q0 : -8191 ≤ q) (q1 : q ≤ 8191) : st c FL q T = Fx.LN q T := by
  by_cases hq : q = 0
  · subst hq; rw [st_zero, LN_zero t0]
  · unfold st
    rw [if_pos ⟨hq, h⟩, (FL_ok (by unfold badL; omega)).1]
theorem st_fq {c : Prop} (h : c) {x T : Int} (t0 : 0 ≤ T) (t1 : T ≤ 255) (x0 : -268435455 ≤ x) (x1 : x ≤ 268435455) (hx : x ≠ 0) : st c FQ x T = NQ x T := by
  unfold st
  rw [if_pos ⟨hx, h⟩, (FQ_ok (by unfold badQ; omega)).1]
theorem st_fq_bd {c : Prop} {x T : Int} (ht : c → 0 ≤ T ∧ T ≤ 255) (x0 : -268435455 ≤ x) (x1 : x ≤ 268435455) : -8191 ≤ st c FQ x T ∧ st c FQ x T ≤ 8191 := by
  by_cases h : c
  · by_cases hx : x = 0
    · subst hx; rw [st_zero]; omega
    · rw [st_fq h (ht h).1 (ht h).2 x0 x1 hx]; exact NQ_bd x T
  · rw [st_not h]; omega
theorem st_fl_bd {c : Prop} {q T : Int} (ht : c → 0 ≤ T ∧ T ≤ 255) (q0 : -8191 ≤ q) (q1 : q ≤ 8191) : -268435455 ≤ st c FL q T ∧ st c FL q T ≤ 268435455 := by
  by_cases h : c
  · rw [st_fl h (ht h).1 (ht h).2 q0 q1]; exact LN_bd (ht h).1
  · rw [st_not h]; omega
/-- Quantised again: the same line. -/
theorem st_again {c : Prop} {x T : Int} (ht : c → 0 ≤ T ∧ T ≤ 255) (x0 : -268435455 ≤ x) (x1 : x ≤ 268435455) : st c FL (st c FQ (st c FL (st c FQ x T) T) T) T = st c FL (st c FQ x T) T := by
  by_cases h : c
  · obtain ⟨t0, t1⟩ := ht h
    have hb := st_fq_bd ht x0 x1
    generalize st c FQ x T = q at *
    obtain ⟨q0, q1⟩ := hb
    have ha := LN_bd (q := q) t0
    rw [st_fl h t0 t1 q0 q1]
    by_cases hz : Fx.LN q T = 0
    · rw [hz, st_zero, st_zero]
    · rw [st_fq h t0 t1 ha.1 ha.2 hz, st_fl h t0 t1 (NQ_bd _ _).1 (NQ_bd _ _).2]
      exact nearS_again t0 (NQ_is (Fx.LN q T) T) q0 q1 rfl
  · rw [st_not h, st_not h]
/-- No other line is nearer. -/
theorem st_near {c : Prop} {x T o : Int} (ht : c → 0 ≤ T ∧ T ≤ 255) (x0 : -268435455 ≤ x) (x1 : x ≤ 268435455) (o0 : -8191 ≤ o) (o1 : o ≤ 8191) : ¬ far x (st c FL o T) < far x (st c FL (st c FQ x T) T) := by
  by_cases h : c
  · obtain ⟨t0, t1⟩ := ht h
    by_cases hx : x = 0
    · subst hx
      rw [st_zero, st_zero]
      unfold far
      split <;> (try split) <;> omega
    · rw [st_fq h t0 t1 x0 x1 hx, st_fl h t0 t1 (NQ_bd _ _).1 (NQ_bd _ _).2, st_fl h t0 t1 o0 o1]
      have := nearS_best t0 (NQ_is x T) o0 o1
      unfold far
      split <;> (try split) <;> omega
  · rw [st_not h, st_not h]
    unfold far
    split <;> omega
/-- Another quantised line. -/
def oth (q by' : Int) : Int := max (min (q + by') 8191) (-8191)
theorem oth_bd (q b : Int) : -8191 ≤ oth q b ∧ oth q b ≤ 8191 := by unfold oth; omega
end Go.Proofs.YtanjcbnkkhbkkaaDoor.Qn
