/- Texts of one claim, one behind the other: BcGn, BcGl, BcLp, BcAn. -/
import Derived.Test.YteklahfgplbmcaaDoorMrg6
import Derived.Deep.RegionWith
import Derived.WalkKit
import Derived.Below
import Derived.RegionTactic
import Derived.Deep.QuietTactic
import Derived.BigQuiet
import Derived.ChangeAlike
import Derived.Deep.OwnRows
import Derived.Deep.Cut
import Derived.ProofKit
import Derived.OpenShut
import Derived.Laws.EntriesVeiled
import Derived.Lib.Hide
import Derived.Deep.RegionHeld3
import Derived.Laws.AppendOwn
import Derived.Laws.AppendOwnNone
import Derived.Test.YteklahfgplbmcaaDoorBkGen
set_option linter.unusedVariables false
/- Books that the program refuses at once. -/
namespace Go.Proofs.YteklahfgplbmcaaDoor.BkRf
open Go Go.ChangeShapes Go.WideShapes Go.ChangeAt Go.RowKit Go.Proofs.YteklahfgplbmcaaDoor.Bk Go.Proofs.YteklahfgplbmcaaDoor.Bi Go.Proofs.YteklahfgplbmcaaDoor.Cr Go.Proofs.YteklahfgplbmcaaDoor.Fx

set_option maxRecDepth 100000 in
set_option maxHeartbeats 8000000 in
theorem gen_out (i p : Int) (s1 s2 : Value) (w : World) (h : i < 1 ∨ 12 < i) :
    Calls Tryd.prog 49 #[.agg #[.int .i64 i, .int .i64 p, s1, s2]] w fun e w' => e = .returned (.bool false) ∧ Below w.heap.size w w' := by
  have HB := Lib.hid (al w (.cells #[.int .i64 i, .int .i64 p, s1, s2] 24))
  obtain ⟨p0, p1, p2, p3⟩ := bx1 (w := w) (a := .int .i64 i) (b := .int .i64 p) (c := s1) (d := s2) (Below.refl _ _)
  generalize hW0 : w.alloc (.cells #[.int .i64 i, .int .i64 p, s1, s2] 24) = W0 at *
  by_cases h1 : i < 1
  · have d1 : decide (i < 1) = true := decide_eq_true h1
    clear h
    go_enter Tryd.func49, Tryd.ntmps49
    go_wp2
    first
      | (go_region_with fail)
      | fail "not so"
    all_goals
      go_wp2
      go_ret
      exact ⟨rfl, HB.out.drew⟩
  · have h2 : 12 < i := by omega
    have d1 : decide (i < 1) = false := decide_eq_false h1
    have d2 : decide (12 < i) = true := decide_eq_true h2
    clear h
    go_enter Tryd.func49, Tryd.ntmps49
    go_wp2
    first
      | (go_region_with fail)
      | fail "not so"
    all_goals
      go_wp2
      go_ret
      exact ⟨rfl, HB.out.drew⟩
set_option maxRecDepth 100000 in
set_option maxHeartbeats 8000000 in
theorem gen_plain (id : Nat) (p : Int) (s1 s2 : Value) (w : World) (hs : Sh w) (h1 : 1 ≤ id) (h2 : id ≤ 12) (hp : p ≠ pl id) :
    Calls Tryd.prog 49 #[.agg #[.int .i64 id, .int .i64 p, s1, s2]] w fun e w' => e = .returned (.bool false) ∧ Below w.heap.size w w' := by
  obtain ⟨k, rfl⟩ : ∃ k, id = k + 1 := ⟨id - 1, by omega⟩
  have hb := al w (.cells #[.int .i64 ((k + 1 : Nat) : Int), .int .i64 p, s1, s2] 24)
  obtain ⟨s0, s1'⟩ := hs.below hb
  obtain ⟨g0, g1, g2, g3⟩ := s1' k (by omega)
  have HB := Lib.hid hb
  obtain ⟨p0, p1, p2, p3⟩ := bx1 (w := w) (a := .int .i64 ((k + 1 : Nat) : Int)) (b := .int .i64 p) (c := s1) (d := s2) (Below.refl _ _)
  rw [Int.natCast_add, Int.natCast_one] at *
  have hk11 : k ≤ 11 := by omega
  have d1 : decide ((k : Int) + 1 < 1) = false := decide_eq_false (by omega)
  have d2 : decide (12 < (k : Int) + 1) = false := decide_eq_false (by omega)
  have d3 : (p == (pl (k + 1) : Int)) = false := by simpa using hp
  have d4 : (p != (pl (k + 1) : Int)) = true := by simpa using hp
  clear s1' hs h1 h2 hb hp
  go_enter Tryd.func49, Tryd.ntmps49
  go_wp2
  go_quiet (fail)
  go_wp2
  go_ret
  exact ⟨rfl, HB.out.trans ((drewN_belowL _ nq).mono HB.out.size)⟩
end Go.Proofs.YteklahfgplbmcaaDoor.BkRf

/- Books whose lists are of other lengths. -/
namespace Go.Proofs.YteklahfgplbmcaaDoor.BkRf
open Go Go.ChangeShapes Go.WideShapes Go.ChangeAt Go.RowKit Go.Proofs.YteklahfgplbmcaaDoor.Bk Go.Proofs.YteklahfgplbmcaaDoor.Bi Go.Proofs.YteklahfgplbmcaaDoor.Cr Go.Proofs.YteklahfgplbmcaaDoor.Fx

structure BB (a b : World) : Prop where
  b : Below a.heap.size a b
theorem BB.trans {a b c : World} (h : BB a b) (k : BB b c) : BB a c := ⟨bT h.b k.b⟩
theorem gl_keep {w x : World} {id m : Nat} {i p : Int} {a1 a2 : Option Addr} {n1 c1 n2 c2 : Nat} (h : BB (((w.alloc (.cells #[.int .i64 i, .int .i64 p, .slice a1 n1 c1, .slice a2 n2 c2] 24)).drewN m).alloc (.cells #[.int .i64 (dm id), .int .i64 (lw id), .int .i64 (hg id), .int .i64 (pl id)] 82)) x) :
    (x.cell? ⟨w.heap.size, 2, none⟩ = some (.slice a1 n1 c1) ∧ x.cell? ⟨w.heap.size, 3, none⟩ = some (.slice a2 n2 c2) ∧ x.cell? ⟨w.heap.size + 1, 0, none⟩ = some (.int .i64 (dm id)) ∧ x.cell? ⟨w.heap.size + 1, 1, none⟩ = some (.int .i64 (lw id)) ∧ x.cell? ⟨w.heap.size + 1, 2, none⟩ = some (.int .i64 (hg id)) ∧ x.cell? ⟨w.heap.size + 1, 3, none⟩ = some (.int .i64 (pl id))) ∧ BB w x := by
  have hb0 : Below (w.alloc (.cells #[.int .i64 i, .int .i64 p, .slice a1 n1 c1, .slice a2 n2 c2] 24)).heap.size (w.alloc (.cells #[.int .i64 i, .int .i64 p, .slice a1 n1 c1, .slice a2 n2 c2] 24)) x := bT (bT (drewN_belowL (w.alloc (.cells #[.int .i64 i, .int .i64 p, .slice a1 n1 c1, .slice a2 n2 c2] 24)) m) (al _ _)) h.b
  obtain ⟨p0, p1, p2, p3⟩ := bx1 hb0
  have x0 := bx4_new ((w.alloc (.cells #[.int .i64 i, .int .i64 p, .slice a1 n1 c1, .slice a2 n2 c2] 24)).drewN m) (dm id) (lw id) (hg id) (pl id)
  have e0 : ((w.alloc (.cells #[.int .i64 i, .int .i64 p, .slice a1 n1 c1, .slice a2 n2 c2] 24)).drewN m).heap.size = w.heap.size + 1 := by
    show (w.alloc _).heap.size = _
    simp
  rw [e0] at x0
  obtain ⟨q0, q1, q2, q3, _⟩ := x0.below h.b
  exact ⟨⟨p2, p3, q0, q1, q2, q3⟩, ⟨bT (al w _) hb0⟩⟩
set_option maxRecDepth 100000 in
set_option maxHeartbeats 8000000 in
theorem gen_len1 (id : Nat) (a1 a2 : Option Addr) (n1 c1 n2 c2 : Nat) (w : World) (hs : Sh w) (h1 : 1 ≤ id) (h2 : id ≤ 12) (hn : n1 ≠ Nn id) :
    Calls Tryd.prog 49 #[.agg #[.int .i64 id, .int .i64 (pl id), .slice a1 n1 c1, .slice a2 n2 c2]] w fun e w' => e = .returned (.bool false) ∧ Below w.heap.size w w' := by
  obtain ⟨k, rfl⟩ : ∃ k, id = k + 1 := ⟨id - 1, by omega⟩
  have hb := al w (.cells #[.int .i64 ((k + 1 : Nat) : Int), .int .i64 (pl (k + 1)), .slice a1 n1 c1, .slice a2 n2 c2] 24)
  obtain ⟨s0, s1'⟩ := hs.below hb
  obtain ⟨g0, g1, g2, g3⟩ := s1' k (by omega)
  have HZ := Lib.hid (fun w => (sizes h1 h2 w).mono fun _ _ h => (⟨h.1, ⟨h.2⟩⟩ : _ ∧ BB w _))
  have HK := Lib.hid (fun m x h => gl_keep (w := w) (id := k + 1) (i := ((k + 1 : Nat) : Int)) (p := pl (k + 1)) (a1 := a1) (a2 := a2) (n1 := n1) (c1 := c1) (n2 := n2) (c2 := c2) (m := m) (x := x) h)
  obtain ⟨p0, p1, p2, p3⟩ := bx1 (w := w) (a := .int .i64 ((k + 1 : Nat) : Int)) (b := .int .i64 (pl (k + 1))) (c := .slice a1 n1 c1) (d := .slice a2 n2 c2) (Below.refl _ _)
  rw [Int.natCast_add, Int.natCast_one] at *
  have hk11 : k ≤ 11 := by omega
  have d1 : decide ((k : Int) + 1 < 1) = false := decide_eq_false (by omega)
  have d2 : decide (12 < (k : Int) + 1) = false := decide_eq_false (by omega)
  have d3 : ((n1 : Int) == (Nn (k + 1) : Int)) = false := by simp; omega
  have d4 : ((n1 : Int) != (Nn (k + 1) : Int)) = true := by simp; omega
  clear hn
  clear s1' hs h1 h2 hb
  go_enter Tryd.func49, Tryd.ntmps49
  go_wp2
  go_quiet (fail)
  go_upto_region 4 with fail
  clear p0 p1 p2 p3 g0 g1 g2 g3 s0 d1 d2 hk11
  have HK2 := Lib.hid (HK.out nq)
  clear HK
  generalize (((w.alloc (Obj.cells #[Value.int IntKind.i64 ((k : Int) + 1), Value.int IntKind.i64 (pl (k + 1)), .slice a1 n1 c1, .slice a2 n2 c2] 24)).drewN nq).alloc (Obj.cells #[Value.int IntKind.i64 (dm (k + 1)), Value.int IntKind.i64 (lw (k + 1)), Value.int IntKind.i64 (hg (k + 1)), Value.int IntKind.i64 (pl (k + 1))] 82)) = W4 at *
  obtain ⟨⟨q0, q1, q2, q3, q4, q5⟩, B4'⟩ := HK2.out W4 ⟨Below.refl _ _⟩
  have B4 := Lib.hid B4'
  have BD : Hid (BB W4 W4.drew) := Lib.hid ⟨(Below.refl _ W4).drew⟩
  clear B4'
  first
    | (go_region_with first
        | (go_at_call 46; ((with_reducible refine (HZ.out _).mono ?_); rintro e w5 ⟨rfl, hb5⟩; have B5 : Hid (BB W4 w5) := Lib.hid ⟨bT BD.out.b hb5.b⟩; obtain ⟨⟨o0, o1, o2, o3, o4, o5⟩, _⟩ := HK2.out w5 B5.out)))
    | fail "not so"
  all_goals
    go_wp2
    go_ret
    exact ⟨rfl, (B4.out.trans B5.out).b⟩
set_option maxRecDepth 100000 in
set_option maxHeartbeats 8000000 in
theorem gen_len2 (id : Nat) (a1 a2 : Option Addr) (n1 c1 n2 c2 : Nat) (w : World) (hs : Sh w) (h1 : 1 ≤ id) (h2 : id ≤ 12) (hm : n1 = Nn id) (hn : n2 ≠ Nn id) :
    Calls Tryd.prog 49 #[.agg #[.int .i64 id, .int .i64 (pl id), .slice a1 n1 c1, .slice a2 n2 c2]] w fun e w' => e = .returned (.bool false) ∧ Below w.heap.size w w' := by
  obtain ⟨k, rfl⟩ : ∃ k, id = k + 1 := ⟨id - 1, by omega⟩
  have hb := al w (.cells #[.int .i64 ((k + 1 : Nat) : Int), .int .i64 (pl (k + 1)), .slice a1 n1 c1, .slice a2 n2 c2] 24)
  obtain ⟨s0, s1'⟩ := hs.below hb
  obtain ⟨g0, g1, g2, g3⟩ := s1' k (by omega)
  have HZ := Lib.hid (fun w => (sizes h1 h2 w).mono fun _ _ h => (⟨h.1, ⟨h.2⟩⟩ : _ ∧ BB w _))
  have HK := Lib.hid (fun m x h => gl_keep (w := w) (id := k + 1) (i := ((k + 1 : Nat) : Int)) (p := pl (k + 1)) (a1 := a1) (a2 := a2) (n1 := n1) (c1 := c1) (n2 := n2) (c2 := c2) (m := m) (x := x) h)
  obtain ⟨p0, p1, p2, p3⟩ := bx1 (w := w) (a := .int .i64 ((k + 1 : Nat) : Int)) (b := .int .i64 (pl (k + 1))) (c := .slice a1 n1 c1) (d := .slice a2 n2 c2) (Below.refl _ _)
  rw [Int.natCast_add, Int.natCast_one] at *
  have hk11 : k ≤ 11 := by omega
  have d1 : decide ((k : Int) + 1 < 1) = false := decide_eq_false (by omega)
  have d2 : decide (12 < (k : Int) + 1) = false := decide_eq_false (by omega)
  have d3 : ((n2 : Int) == (Nn (k + 1) : Int)) = false := by simp; omega
  have d4 : ((n2 : Int) != (Nn (k + 1) : Int)) = true := by simp; omega
  subst hm
  have d5 : ((Nn (k + 1) : Int) == (Nn (k + 1) : Int)) = true := by simp
  have d6 : ((Nn (k + 1) : Int) != (Nn (k + 1) : Int)) = false := by simp
  clear hn
  clear s1' hs h1 h2 hb
  go_enter Tryd.func49, Tryd.ntmps49
  go_wp2
  go_quiet (fail)
  go_upto_region 4 with fail
  clear p0 p1 p2 p3 g0 g1 g2 g3 s0 d1 d2 hk11
  have HK2 := Lib.hid (HK.out nq)
  clear HK
  generalize (((w.alloc (Obj.cells #[Value.int IntKind.i64 ((k : Int) + 1), Value.int IntKind.i64 (pl (k + 1)), .slice a1 (Nn (k + 1)) c1, .slice a2 n2 c2] 24)).drewN nq).alloc (Obj.cells #[Value.int IntKind.i64 (dm (k + 1)), Value.int IntKind.i64 (lw (k + 1)), Value.int IntKind.i64 (hg (k + 1)), Value.int IntKind.i64 (pl (k + 1))] 82)) = W4 at *
  obtain ⟨⟨q0, q1, q2, q3, q4, q5⟩, B4'⟩ := HK2.out W4 ⟨Below.refl _ _⟩
  have B4 := Lib.hid B4'
  have BD : Hid (BB W4 W4.drew) := Lib.hid ⟨(Below.refl _ W4).drew⟩
  clear B4'
  go_region_held3 (fun W => (W.cell? ⟨w.heap.size, 2, none⟩ = some (.slice a1 (Nn (k + 1)) c1) ∧ W.cell? ⟨w.heap.size, 3, none⟩ = some (.slice a2 n2 c2) ∧ W.cell? ⟨w.heap.size + 1, 0, none⟩ = some (.int .i64 (dm (k + 1))) ∧ W.cell? ⟨w.heap.size + 1, 1, none⟩ = some (.int .i64 (lw (k + 1))) ∧ W.cell? ⟨w.heap.size + 1, 2, none⟩ = some (.int .i64 (hg (k + 1))) ∧ W.cell? ⟨w.heap.size + 1, 3, none⟩ = some (.int .i64 (pl (k + 1)))) ∧ BB W4 W) (exact ⟨(HK2.out _ (by first | exact ⟨Below.refl _ _⟩ | exact BD.out | exact X1.out | exact X2.out)).1, (by first | exact ⟨Below.refl _ _⟩ | exact BD.out | exact X1.out | exact X2.out)⟩)
    (first
      | (go_at_call 46; ((with_reducible refine (HZ.out _).mono ?_); rintro e w5 ⟨rfl, hb5⟩; have X1 := Lib.hid (BB.trans (‹_ ∧ BB W4 _›).2 hb5); clear hb5)))
  all_goals
    rename_i hS
    go_wp2
    go_ret
    exact ⟨rfl, (B4.out.trans hS.2).b⟩
end Go.Proofs.YteklahfgplbmcaaDoor.BkRf

/- Books whose lists are as long as they should be. -/
namespace Go.Proofs.YteklahfgplbmcaaDoor.BkRf
open Go Go.ChangeShapes Go.WideShapes Go.ChangeAt Go.RowKit Go.Proofs.YteklahfgplbmcaaDoor.Bk Go.Proofs.YteklahfgplbmcaaDoor.Bi Go.Proofs.YteklahfgplbmcaaDoor.Cr Go.Proofs.YteklahfgplbmcaaDoor.Fx
set_option maxRecDepth 100000 in
set_option maxHeartbeats 8000000 in
theorem gen_lp (id : Nat) (a1 a2 : Option Addr) (n1 c1 n2 c2 : Nat) (w : World) (hs : Sh w) (h1 : 1 ≤ id) (h2 : id ≤ 12) (hm : n1 = Nn id) (hn : n2 = Nn id) (E R : List Int) (lE : E.length = Nn id) (lR : R.length = Nn id) (rE : RdA w a1 E) (rR : RdA w a2 R) (Z : Bool) (z1 : ∀ r, r < Nn id → ¬ okAt id E R r → Z = false) (z2 : (∀ r, r < Nn id → okAt id E R r) → Z = true) :
    Calls Tryd.prog 49 #[.agg #[.int .i64 id, .int .i64 (pl id), .slice a1 n1 c1, .slice a2 n2 c2]] w fun e w' => e = .returned (.bool Z) ∧ Below w.heap.size w w' := by
  obtain ⟨k, rfl⟩ : ∃ k, id = k + 1 := ⟨id - 1, by omega⟩
  have hb := al w (.cells #[.int .i64 ((k + 1 : Nat) : Int), .int .i64 (pl (k + 1)), .slice a1 n1 c1, .slice a2 n2 c2] 24)
  obtain ⟨s0, s1'⟩ := hs.below hb
  obtain ⟨g0, g1, g2, g3⟩ := s1' k (by omega)
  have HZ := Lib.hid (fun w => (sizes h1 h2 w).mono fun _ _ h => (⟨h.1, ⟨h.2⟩⟩ : _ ∧ BB w _))
  have HK := Lib.hid (fun m x h => gl_keep (w := w) (id := k + 1) (i := ((k + 1 : Nat) : Int)) (p := pl (k + 1)) (a1 := a1) (a2 := a2) (n1 := n1) (c1 := c1) (n2 := n2) (c2 := c2) (m := m) (x := x) h)
  obtain ⟨p0, p1, p2, p3⟩ := bx1 (w := w) (a := .int .i64 ((k + 1 : Nat) : Int)) (b := .int .i64 (pl (k + 1))) (c := .slice a1 n1 c1) (d := .slice a2 n2 c2) (Below.refl _ _)
  rw [Int.natCast_add, Int.natCast_one] at *
  have hk11 : k ≤ 11 := by omega
  have d1 : decide ((k : Int) + 1 < 1) = false := decide_eq_false (by omega)
  have d2 : decide (12 < (k : Int) + 1) = false := decide_eq_false (by omega)
  subst hm
  subst hn
  have d5 : ((Nn (k + 1) : Int) == (Nn (k + 1) : Int)) = true := by simp
  have d6 : ((Nn (k + 1) : Int) != (Nn (k + 1) : Int)) = false := by simp
  have HW := Lib.hid (fun w => wts h1 h2 w)
  have HN := Lib.hid (facts h1 h2).1
  have hN : Nn (k + 1) ≤ 289 := (facts h1 h2).2.2.2.2.2.2.2.1
  have h12 : Hid (1 ≤ k + 1 ∧ k + 1 ≤ 12) := Lib.hid ⟨h1, h2⟩
  have HE := Lib.hid rE
  have HR := Lib.hid rR
  have LE := Lib.hid lE
  have LR := Lib.hid lR
  have Z1 := Lib.hid z1
  have Z2 := Lib.hid z2
  clear rE rR z1 z2 lE lR
  clear s1' hs h1 h2 hb
  go_enter Tryd.func49, Tryd.ntmps49
  go_wp2
  go_quiet (fail)
  go_upto_region 4 with fail
  clear p0 p1 p2 p3 g0 g1 g2 g3 s0 d1 d2 hk11
  have HK2 := Lib.hid (HK.out nq)
  clear HK
  generalize (((w.alloc (Obj.cells #[Value.int IntKind.i64 ((k : Int) + 1), Value.int IntKind.i64 (pl (k + 1)), .slice a1 (Nn (k + 1)) c1, .slice a2 (Nn (k + 1)) c2] 24)).drewN nq).alloc (Obj.cells #[Value.int IntKind.i64 (dm (k + 1)), Value.int IntKind.i64 (lw (k + 1)), Value.int IntKind.i64 (hg (k + 1)), Value.int IntKind.i64 (pl (k + 1))] 82)) = W4 at *
  obtain ⟨⟨q0, q1, q2, q3, q4, q5⟩, B4'⟩ := HK2.out W4 ⟨Below.refl _ _⟩
  have B4 := Lib.hid B4'
  have BD : Hid (BB W4 W4.drew) := Lib.hid ⟨(Below.refl _ W4).drew⟩
  clear B4'
  go_region_held3 (fun W => (W.cell? ⟨w.heap.size, 2, none⟩ = some (.slice a1 (Nn (k + 1)) c1) ∧ W.cell? ⟨w.heap.size, 3, none⟩ = some (.slice a2 (Nn (k + 1)) c2) ∧ W.cell? ⟨w.heap.size + 1, 0, none⟩ = some (.int .i64 (dm (k + 1))) ∧ W.cell? ⟨w.heap.size + 1, 1, none⟩ = some (.int .i64 (lw (k + 1))) ∧ W.cell? ⟨w.heap.size + 1, 2, none⟩ = some (.int .i64 (hg (k + 1))) ∧ W.cell? ⟨w.heap.size + 1, 3, none⟩ = some (.int .i64 (pl (k + 1)))) ∧ BB W4 W) (exact ⟨(HK2.out _ (by first | exact ⟨Below.refl _ _⟩ | exact BD.out | exact X1.out | exact X2.out)).1, (by first | exact ⟨Below.refl _ _⟩ | exact BD.out | exact X1.out | exact X2.out)⟩)
    (first
      | (go_at_call 46; ((with_reducible refine (HZ.out _).mono ?_); rintro e w5 ⟨rfl, hb5⟩; have X1 := Lib.hid (BB.trans (‹_ ∧ BB W4 _›).2 hb5); clear hb5)))
  rename_i hS
  obtain ⟨⟨q0, q1, q2, q3, q4, q5⟩, b6⟩ := hS
  have B6 := Lib.hid b6
  clear b6 d5 d6
  go_upto_region 8 with first
    | (go_at_call 45; ((with_reducible refine (HW.out _).mono ?_); rintro e w7 ⟨c, rfl, hw, hc1, hc2, hb7⟩; have hsi := Lib.hid (size84.trans (congrArg some hc1.symm))))
    | (refine wpList_new84 _ rfl rfl ?_)
    | (refine wpList_store_row rfl 84 _ _ rfl w7.heap.size c rfl rfl 84 (Array.replicate 289 (.int .u8 0)) (heap_alloc_last w7 _) hsi.out (by rw [hc1]; simp) hc2 ?_)
  have G8 : Hid (BB W4 ((w7.alloc (.cells (Array.replicate 289 (.int .u8 0)) 84)).setRow w7.heap.size c) ∧ ((w7.alloc (.cells (Array.replicate 289 (.int .u8 0)) 84)).setRow w7.heap.size c).rowIs w7.heap.size 84 289 (fun j => .int .u8 (wf (bs (k + 1)) (lw (k + 1)) (Nn (k + 1)) (dm (k + 1)) 1 j))) := by
    rw [World.setRow_alloc_new]
    rw [← HN.out] at hw
    exact Lib.hid ⟨B6.out.trans ⟨bT hb7 (al w7 _)⟩, ⟨c, heap_alloc_last w7 _, hw.1, hw.2⟩⟩
  clear hw hc1 hc2 hb7 hsi q0 q1 q2 q3 q4 q5
  generalize (w7.alloc (.cells (Array.replicate 289 (.int .u8 0)) 84)).setRow w7.heap.size c = W8 at *
  generalize w7.heap.size = Wt at *
  obtain ⟨⟨q0, q1, _, _, _, _⟩, B8'⟩ := HK2.out W8 G8.out.1
  have B8 := Lib.hid B8'
  clear B8'
  obtain ⟨NN, hNN⟩ : ∃ NN, Nn (k + 1) = NN := ⟨_, rfl⟩
  have HNN := Lib.hid hNN
  rw [hNN] at q0 q1 hN
  go_wp2
  rw [hNN]
  go_loopw [5, 6, 52] (fun wv pn i wr => ∃ (r : Nat) (pv p : Int), r ≤ NN ∧ i = .int .i64 r ∧ wv = .int .u8 pv ∧ pn = .int .i64 p ∧ Hid (∀ r', r' < r → okAt (k + 1) E R r') ∧ Hid ((r = 0 ∧ pv = 0 ∧ p = -1) ∨ (0 < r ∧ ∃ d : Nat, E.getD (r - 1) 0 = d ∧ d < NN ∧ pv = (wt (k + 1) d : Nat) ∧ p = d)) ∧ wr = W8) (fun _ _ i _ => NN - (intOf i).toNat)
  case atStart => exact ⟨0, 0, -1, by omega, rfl, rfl, rfl, Lib.hid (fun r h => by omega), Lib.hid (.inl ⟨rfl, rfl, rfl⟩), rfl⟩
  case round =>
    obtain ⟨r, pv, p, hr, rfl, rfl, rfl, hA, hP, rfl⟩ := hrel
    by_cases hlt : r < NN
    · obtain ⟨b, off, ha1, hlb, ce'⟩ := HE.out r (by rw [LE.out, HNN.out]; exact hlt)
      have ce := (B8.out.b.cell (p := ⟨b, off + r, none⟩) hlb).trans ce'
      subst ha1
      clear ce'
      obtain ⟨x, hx⟩ : ∃ x, E.getD r 0 = x := ⟨_, rfl⟩
      rw [hx] at ce
      have HXX := Lib.hid hx
      clear hx HZ HW HK2
      have hNN0 : (0 : Int) ≤ (NN : Int) := by omega
      by_cases hx0 : x < 0
      · have hz := Z1.out r (by rw [HNN.out]; exact hlt) (by rintro ⟨e, he, _⟩; have := HXX.out; omega)
        subst hz
        go_wp2
        go_ret
        exact ⟨rfl, B8.out.b⟩
      by_cases hx1 : (NN : Int) ≤ x
      · have hz := Z1.out r (by rw [HNN.out]; exact hlt) (by rintro ⟨e, he, hb, _⟩; have := HXX.out; have := HNN.out; omega)
        subst hz
        go_wp2
        go_ret
        exact ⟨rfl, B8.out.b⟩
      obtain ⟨n, rfl⟩ : ∃ n : Nat, x = (n : Int) := ⟨x.toNat, by omega⟩
      have hn2 : n < NN := by omega
      obtain ⟨b2, off2, ha2, hlb2, cr'⟩ := HR.out n (by rw [LR.out, HNN.out]; exact hn2)
      have cr := (B8.out.b.cell (p := ⟨b2, off2 + n, none⟩) hlb2).trans cr'
      subst ha2
      clear cr'
      obtain ⟨y, hy⟩ : ∃ y, R.getD n 0 = y := ⟨_, rfl⟩
      rw [hy] at cr
      have HY := Lib.hid hy
      clear hy
      by_cases hyr : y = (r : Int)
      · subst hyr
        have cw := G8.out.2.cell (i := n) (by omega)
        rw [wf_wt (by rw [HNN.out]; exact hn2)] at cw
        have hv61 := wt_lt h12.out.1 h12.out.2 n
        obtain ⟨v, hv⟩ : ∃ v : Int, ((wt (k + 1) n : Nat) : Int) = v := ⟨_, rfl⟩
        rw [hv] at cw
        have hv0 : 0 ≤ v := by omega
        have hv1 : v ≤ 60 := by omega
        have HV := Lib.hid hv
        clear hv hv61
        have hNo : Hid (v < pv ∨ (v = pv ∧ (n : Int) ≤ p) → Z = false) := Lib.hid fun hq => Z1.out r (by rw [HNN.out]; exact hlt) (by
          rintro ⟨e, he, _, _, h0⟩
          have e1 := HXX.out
          have e2 := HV.out
          have e3 : e = n := by omega
          subst e3
          rcases hP.out with ⟨p1, p2, p3⟩ | ⟨p1, d, p2, p3, p4, p5⟩
          · omega
          · rcases h0 with h0 | ⟨d', hd', hl⟩
            · omega
            · have e4 : d' = d := by omega
              subst e4
              unfold lt at hl
              omega)
        have hYes : Hid (¬ v < pv → ¬ (v = pv ∧ (n : Int) ≤ p) → ∀ r', r' < r + 1 → okAt (k + 1) E R r') := Lib.hid fun q1 q2 r' hr' => by
          by_cases hrr : r' < r
          · exact hA.out r' hrr
          · have : r' = r := by omega
            subst this
            refine ⟨n, HXX.out, by rw [HNN.out]; exact hn2, HY.out, ?_⟩
            rcases hP.out with ⟨p1, p2, p3⟩ | ⟨p1, d, p2, p3, p4, p5⟩
            · exact .inl p1
            · refine .inr ⟨d, p2, ?_⟩
              have e2 := HV.out
              unfold lt
              omega
        have hNx : Hid ((r + 1 = 0 ∧ v = 0 ∧ (n : Int) = -1) ∨ (0 < r + 1 ∧ ∃ d : Nat, E.getD (r + 1 - 1) 0 = d ∧ d < NN ∧ v = (wt (k + 1) d : Nat) ∧ (n : Int) = d)) := Lib.hid (.inr ⟨by omega, n, HXX.out, hn2, HV.out.symm, rfl⟩)
        clear hA hP
        by_cases hvp : v < pv
        · have hz := hNo.out (.inl hvp)
          subst hz
          go_wp2
          go_ret
          exact ⟨rfl, B8.out.b⟩
        by_cases hpe : v = pv
        · subst hpe
          by_cases hnp : (n : Int) ≤ p
          · have hz := hNo.out (.inr ⟨rfl, hnp⟩)
            subst hz
            go_wp2
            go_ret
            exact ⟨rfl, B8.out.b⟩
          · have hok := Lib.hid (hYes.out hvp (fun h => hnp h.2))
            go_wp2
            go_roundw
            case rel => exact ⟨r + 1, v, (n : Int), by omega, by go_num, rfl, rfl, hok, hNx, trivial⟩
            case measure => simp [intOf]; omega
        · have hbe : (v == pv) = false := by simp [hpe]
          have hok := Lib.hid (hYes.out hvp (fun h => hpe h.1))
          go_wp2
          go_roundw
          case rel => exact ⟨r + 1, v, (n : Int), by omega, by go_num, rfl, rfl, hok, hNx, trivial⟩
          case measure => simp [intOf]; omega
      · have hz := Z1.out r (by rw [HNN.out]; exact hlt) (by
          rintro ⟨e, he, _, hy, _⟩
          have e1 := HXX.out
          have e2 := HY.out
          have e3 : e = n := by omega
          subst e3
          omega)
        subst hz
        have hye : (y == (r : Int)) = false := by simpa using hyr
        have hyn : (y != (r : Int)) = true := by simpa using hyr
        go_wp2
        go_ret
        exact ⟨rfl, B8.out.b⟩
    · have hend : r = NN := by omega
      have hz := Z2.out (fun r' h => hA.out r' (by rw [HNN.out] at h; omega))
      subst hz
      subst hend
      go_wp2
      go_ret
      exact ⟨rfl, B8.out.b⟩
end Go.Proofs.YteklahfgplbmcaaDoor.BkRf

/- Whatever book: the program and the document ask the same of it. -/
namespace Go.Proofs.YteklahfgplbmcaaDoor.BkRf
open Go Go.ChangeShapes Go.WideShapes Go.ChangeAt Go.RowKit Go.Proofs.YteklahfgplbmcaaDoor.Bk Go.Proofs.YteklahfgplbmcaaDoor.Bi Go.Proofs.YteklahfgplbmcaaDoor.Cr Go.Proofs.YteklahfgplbmcaaDoor.Fx

theorem isbk_ok {id : Nat} {p : Int} {A B : List Int} (h1 : 1 ≤ id) (h2 : id ≤ 12) (h : IsBk id p A B) {r : Nat} (hr : r < Nn id) : okAt id A B r := by
  obtain ⟨k, hk, _, _, _, rfl, rfl⟩ := h
  have : id = k := by omega
  subst this
  exact gen_ok h1 h2 hr
theorem ok_isbk {id : Nat} {A B : List Int} (h1 : 1 ≤ id) (h2 : id ≤ 12) (lA : A.length = Nn id) (lB : B.length = Nn id) (h : ∀ r, r < Nn id → okAt id A B r) : IsBk id (pl id) A B := by
  obtain ⟨e1, e2⟩ := gen_is h1 h2 lA lB h
  exact ⟨id, rfl, h1, h2, rfl, e1, e2⟩
theorem isbk_len {id : Nat} {p : Int} {A B : List Int} (h : IsBk id p A B) : A.length = Nn id ∧ B.length = Nn id ∧ p = pl id := by
  obtain ⟨k, hk, h1, h2, rfl, rfl, rfl⟩ := h
  have : id = k := by omega
  subst this
  exact ⟨by rw [zi_len, ord_len h1 h2], rkL_len id, rfl⟩
/-- The program's genuine. -/
theorem gen_any (i p : Int) (a1 a2 : Option Addr) (c1 c2 : Nat) (A B : List Int) (w : World) (hs : Sh w) (rA : RdA w a1 A) (rB : RdA w a2 B) :
    Calls Tryd.prog 49 #[.agg #[.int .i64 i, .int .i64 p, .slice a1 A.length c1, .slice a2 B.length c2]] w fun e w' => e = .returned (.bool (decide (IsBk i p A B))) ∧ Below w.heap.size w w' := by
  by_cases ho : i < 1 ∨ 12 < i
  · rw [isbk_no ho]
    exact gen_out i p _ _ w ho
  obtain ⟨id, rfl⟩ : ∃ id : Nat, i = (id : Int) := ⟨i.toNat, by omega⟩
  have h1 : 1 ≤ id := by omega
  have h2 : id ≤ 12 := by omega
  by_cases hp : p = pl id
  · subst hp
    by_cases hA : A.length = Nn id
    · by_cases hB : B.length = Nn id
      · exact gen_lp id a1 a2 A.length c1 B.length c2 w hs h1 h2 hA hB A B hA hB rA rB (decide (IsBk id (pl id) A B))
          (fun r hr hn => decide_eq_false (fun h => hn (isbk_ok h1 h2 h hr))) (fun h => decide_eq_true (ok_isbk h1 h2 hA hB h))
      · rw [decide_eq_false (fun h => hB (isbk_len h).2.1)]
        exact gen_len2 id a1 a2 A.length c1 B.length c2 w hs h1 h2 hA hB
    · rw [decide_eq_false (fun h => hA (isbk_len h).1)]
      exact gen_len1 id a1 a2 A.length c1 B.length c2 w hs h1 h2 hA
  · rw [decide_eq_false (fun h => hp (isbk_len h).2.2)]
    exact gen_plain id p _ _ w hs h1 h2 hp
/-- The document's May. -/
theorem may_any (i p : Int) (s1 s2 : Value) (A B : List Int) (w : World) (hA : A.length ≤ maxLen) (hB : B.length ≤ maxLen) (r1 : Rd w s1 A) (r2 : Rd w s2 B) :
    Calls Tryd.prog 61 #[.agg #[.int .i64 i, .int .i64 p, s1, s2]] w fun e w' => e = .returned (.bool (decide (IsBk i p A B))) ∧ Below w.heap.size w w' := by
  by_cases ho : i < 1 ∨ 12 < i
  · rw [isbk_no ho]
    exact may_no i p s1 s2 w ho
  obtain ⟨id, rfl⟩ : ∃ id : Nat, i = (id : Int) := ⟨i.toNat, by omega⟩
  have h1 : 1 ≤ id := by omega
  have h2 : id ≤ 12 := by omega
  rw [isbk_at h1 h2]
  exact may_at id id p s1 s2 A B w h1 h2 rfl hA hB r1 r2
end Go.Proofs.YteklahfgplbmcaaDoor.BkRf
