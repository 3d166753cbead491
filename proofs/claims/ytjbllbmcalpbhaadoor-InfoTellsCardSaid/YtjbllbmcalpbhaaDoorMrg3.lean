/- Texts of one claim, one behind the other: ItAf, ItLw. -/
import Derived.Test.YtjbllbmcalpbhaaDoorMrg2
import Derived.Test.YtjbllbmcalpbhaaDoorEvLaid
import Derived.Deep.RegionHeld3
import Derived.WalkKit
import Derived.Below
import Derived.Laws.AppendOwn
import Derived.Laws.AppendOwnNone
import Derived.RegionTactic
import Derived.Deep.QuietTactic
import Derived.BigQuiet
import Derived.WalkSpells
import Derived.ProofKit
import Derived.OpenShut
import Derived.Lib.Hide
set_option linter.unusedVariables false
/- The law, where windows are short enough. -/
namespace Go.Proofs.YtjbllbmcalpbhaaDoor.It
open Go Go.Ev Go.ChangeShapes Go.WideShapes Go.ChangeAt Go.RowKit Go.Proofs.YtjbllbmcalpbhaaDoor.Lo Go.Proofs.YtjbllbmcalpbhaaDoor.Bd Go.Proofs.YtjbllbmcalpbhaaDoor.If
/-- The table. -/
def Fw (w : World) : Prop := AllP (CellsAre w) [(0, [.bool true, .bool true, .bool false, .bool false, .bool false, .bool false, .bool true, .bool true, .bool false, .bool false, .bool true, .bool true, .bool true, .bool true, .bool false, .bool false])]
theorem fw_cell {w : World} (h : Fw w) (i : Nat) (b : Bool) (hb : [true, true, false, false, false, false, true, true, false, false, true, true, true, true, false, false][i]? = some b) : w.cell? ⟨0, i, none⟩ = some (.bool b) := by
  obtain ⟨⟨c, t, fz, hc, hd⟩, _⟩ := h
  have := hd (fun _ => none)
  simp [denL, den] at this
  have e : c[i]? = (c.toList)[i]? := by simp
  simp only [World.cell?, hc]
  rw [e, ← this]
  match i, hb with
  | 0, hb => simp at hb; subst hb; rfl
  | 1, hb => simp at hb; subst hb; rfl
  | 2, hb => simp at hb; subst hb; rfl
  | 3, hb => simp at hb; subst hb; rfl
  | 4, hb => simp at hb; subst hb; rfl
  | 5, hb => simp at hb; subst hb; rfl
  | 6, hb => simp at hb; subst hb; rfl
  | 7, hb => simp at hb; subst hb; rfl
  | 8, hb => simp at hb; subst hb; rfl
  | 9, hb => simp at hb; subst hb; rfl
  | 10, hb => simp at hb; subst hb; rfl
  | 11, hb => simp at hb; subst hb; rfl
  | 12, hb => simp at hb; subst hb; rfl
  | 13, hb => simp at hb; subst hb; rfl
  | 14, hb => simp at hb; subst hb; rfl
  | 15, hb => simp at hb; subst hb; rfl
  | i + 16, hb => simp at hb
theorem Fw.below {w w' : World} (h : Fw w) (hb : Below w.heap.size w w') : Fw w' := by
  obtain ⟨⟨c, t, fz, hc, hd⟩, _⟩ := h
  have hl : 0 < w.heap.size := (Array.getElem?_eq_some_iff.1 hc).1
  exact ⟨⟨c, t, fz, (hb.block 0 hl).trans hc, hd⟩, trivial⟩
set_option maxRecDepth 100000 in
theorem aft_ok (a n : Int) (w : World) (a0 : 0 ≤ a) (n0 : 0 ≤ n) (hw : Fw w) : Calls Tryd.prog 12 #[.int .u8 a, .int .u8 n] w fun e w' => e = .returned (.bool (aft a n)) ∧ w = w' := by
  by_cases h1 : 3 < a
  · rw [show aft a n = false from decide_eq_false (by omega)]
    clear hw
    go_enter Tryd.func12, Tryd.ntmps12
    go_wp2
    go_ret
    exact ⟨rfl, rfl⟩
  by_cases h2 : 3 < n
  · rw [show aft a n = false from decide_eq_false (by omega)]
    clear hw
    go_enter Tryd.func12, Tryd.ntmps12
    go_wp2
    go_ret
    exact ⟨rfl, rfl⟩
  have cs := fun i b h => fw_cell hw i b h
  clear hw
  obtain rfl | rfl | rfl | rfl : a = 0 ∨ a = 1 ∨ a = 2 ∨ a = 3 := by omega
  · obtain rfl | rfl | rfl | rfl : n = 0 ∨ n = 1 ∨ n = 2 ∨ n = 3 := by omega
    · have c := cs 0 _ rfl
      clear cs
      rw [show aft 0 0 = true from rfl]
      go_enter Tryd.func12, Tryd.ntmps12
      go_wp2
      go_ret
      exact ⟨rfl, rfl⟩
    · have c := cs 1 _ rfl
      clear cs
      rw [show aft 0 1 = true from rfl]
      go_enter Tryd.func12, Tryd.ntmps12
      go_wp2
      go_ret
      exact ⟨rfl, rfl⟩
    · have c := cs 2 _ rfl
      clear cs
      rw [show aft 0 2 = false from rfl]
      go_enter Tryd.func12, Tryd.ntmps12
      go_wp2
      go_ret
      exact ⟨rfl, rfl⟩
    · have c := cs 3 _ rfl
      clear cs
      rw [show aft 0 3 = false from rfl]
      go_enter Tryd.func12, Tryd.ntmps12
      go_wp2
      go_ret
      exact ⟨rfl, rfl⟩
  · obtain rfl | rfl | rfl | rfl : n = 0 ∨ n = 1 ∨ n = 2 ∨ n = 3 := by omega
    · have c := cs 4 _ rfl
      clear cs
      rw [show aft 1 0 = false from rfl]
      go_enter Tryd.func12, Tryd.ntmps12
      go_wp2
      go_ret
      exact ⟨rfl, rfl⟩
    · have c := cs 5 _ rfl
      clear cs
      rw [show aft 1 1 = false from rfl]
      go_enter Tryd.func12, Tryd.ntmps12
      go_wp2
      go_ret
      exact ⟨rfl, rfl⟩
    · have c := cs 6 _ rfl
      clear cs
      rw [show aft 1 2 = true from rfl]
      go_enter Tryd.func12, Tryd.ntmps12
      go_wp2
      go_ret
      exact ⟨rfl, rfl⟩
    · have c := cs 7 _ rfl
      clear cs
      rw [show aft 1 3 = true from rfl]
      go_enter Tryd.func12, Tryd.ntmps12
      go_wp2
      go_ret
      exact ⟨rfl, rfl⟩
  · obtain rfl | rfl | rfl | rfl : n = 0 ∨ n = 1 ∨ n = 2 ∨ n = 3 := by omega
    · have c := cs 8 _ rfl
      clear cs
      rw [show aft 2 0 = false from rfl]
      go_enter Tryd.func12, Tryd.ntmps12
      go_wp2
      go_ret
      exact ⟨rfl, rfl⟩
    · have c := cs 9 _ rfl
      clear cs
      rw [show aft 2 1 = false from rfl]
      go_enter Tryd.func12, Tryd.ntmps12
      go_wp2
      go_ret
      exact ⟨rfl, rfl⟩
    · have c := cs 10 _ rfl
      clear cs
      rw [show aft 2 2 = true from rfl]
      go_enter Tryd.func12, Tryd.ntmps12
      go_wp2
      go_ret
      exact ⟨rfl, rfl⟩
    · have c := cs 11 _ rfl
      clear cs
      rw [show aft 2 3 = true from rfl]
      go_enter Tryd.func12, Tryd.ntmps12
      go_wp2
      go_ret
      exact ⟨rfl, rfl⟩
  · obtain rfl | rfl | rfl | rfl : n = 0 ∨ n = 1 ∨ n = 2 ∨ n = 3 := by omega
    · have c := cs 12 _ rfl
      clear cs
      rw [show aft 3 0 = true from rfl]
      go_enter Tryd.func12, Tryd.ntmps12
      go_wp2
      go_ret
      exact ⟨rfl, rfl⟩
    · have c := cs 13 _ rfl
      clear cs
      rw [show aft 3 1 = true from rfl]
      go_enter Tryd.func12, Tryd.ntmps12
      go_wp2
      go_ret
      exact ⟨rfl, rfl⟩
    · have c := cs 14 _ rfl
      clear cs
      rw [show aft 3 2 = false from rfl]
      go_enter Tryd.func12, Tryd.ntmps12
      go_wp2
      go_ret
      exact ⟨rfl, rfl⟩
    · have c := cs 15 _ rfl
      clear cs
      rw [show aft 3 3 = false from rfl]
      go_enter Tryd.func12, Tryd.ntmps12
      go_wp2
      go_ret
      exact ⟨rfl, rfl⟩
end Go.Proofs.YtjbllbmcalpbhaaDoor.It

/- The law, where windows are short enough. -/
namespace Go.Proofs.YtjbllbmcalpbhaaDoor.It
open Go Go.Ev Go.ChangeShapes Go.WideShapes Go.ChangeAt Go.RowKit Go.Proofs.YtjbllbmcalpbhaaDoor.Lo Go.Proofs.YtjbllbmcalpbhaaDoor.Bd Go.Proofs.YtjbllbmcalpbhaaDoor.If

def C4 (x : World) (b : Nat) (s h m : Int) (v : Value) : Prop := x.cell? ⟨b, 0, none⟩ = some (.int .u8 s) ∧ x.cell? ⟨b, 1, none⟩ = some (.int .u8 h) ∧ x.cell? ⟨b, 2, none⟩ = some (.int .i64 m) ∧ x.cell? ⟨b, 3, none⟩ = some v
theorem C4.below {w x : World} {b : Nat} {s h m : Int} {v : Value} (k : C4 w b s h m v) (hl : b < w.heap.size) (hb : Below w.heap.size w x) : C4 x b s h m v :=
  ⟨(hb.cell (p := ⟨b, 0, none⟩) hl).trans k.1, (hb.cell (p := ⟨b, 1, none⟩) hl).trans k.2.1, (hb.cell (p := ⟨b, 2, none⟩) hl).trans k.2.2.1, (hb.cell (p := ⟨b, 3, none⟩) hl).trans k.2.2.2⟩
theorem st_facts {w w3 : World} {s h m : Int} {v : Value} (e : (w.alloc (.cells #[.int .u8 s, .int .u8 h, .int .i64 m, v] 24)) = w3) : Below w.heap.size w w3 ∧ C4 w3 w.heap.size s h m v ∧ w3.heap.size = w.heap.size + 1 ∧ ∀ i, w3.frozen? ⟨w.heap.size, i, none⟩ = false := by
  subst e
  refine ⟨?_, ⟨?_, ?_, ?_, ?_⟩, ?_, ?_⟩
  · exact (Below.refl _ _).alloc (Nat.le_refl _) _
  all_goals simp (maxDischargeDepth := 8) [go_sem]
theorem own_rd {base : Nat} {w : World} {v : Value} {zs : List Int} (h : Own base w v zs) : ∃ A c, v = .slice A zs.length c ∧ RdA w A zs := by
  by_cases e : zs = []
  · obtain ⟨A, c, hv⟩ := rd_shape h.rd
    exact ⟨A, c, hv, fun i hi => by rw [e] at hi; simp at hi⟩
  · obtain ⟨g, c, hv, _, hr⟩ := Own.row h (by simpa using e)
    refine ⟨_, c, hv, fun i hi => ⟨g, 0, rfl, hr.lt, ?_⟩⟩
    rw [Nat.zero_add]; exact hr.cell hi
/-- A row that may be written to. -/
def Wr (x : World) (base n : Nat) (A : Option Addr) (B : Nat) : Prop := ∀ j, j < n → ∃ g z, A = some ⟨g, 0, none⟩ ∧ base ≤ g ∧ g < B ∧ x.frozen? ⟨g, j, none⟩ = false ∧ x.cell? ⟨g, j, none⟩ = some (.int .i64 z)
theorem own_wr {base : Nat} {w : World} {v : Value} {zs : List Int} {B : Nat} (h : Own base w v zs) (hB : w.heap.size ≤ B) : ∃ A c, v = .slice A zs.length c ∧ Wr w base zs.length A B := by
  by_cases e : zs = []
  · obtain ⟨A, c, hv⟩ := rd_shape h.rd
    exact ⟨A, c, hv, fun j hj => by rw [e] at hj; simp at hj⟩
  · obtain ⟨g, c, hv, hg, hr⟩ := Own.row h (by simpa using e)
    have hr2 := hr
    obtain ⟨F, hF, hlc, hcm, _⟩ := hr2
    refine ⟨_, c, hv, fun j hj => ⟨g, zs.getD j 0, rfl, hg, ?_, hF.frozen j, hr.cell hj⟩⟩
    have := hr.lt; omega
theorem Wr.below {w x : World} {base n : Nat} {A : Option Addr} {B b : Nat} (h : Wr w base n A B) (hb : Below b w x) (hlt : B ≤ b) : Wr x base n A B := fun j hj => by
  obtain ⟨g, z, e, h1, h2, h3, h4⟩ := h j hj
  exact ⟨g, z, e, h1, h2, (hb.frozen (p := ⟨g, j, none⟩) (Nat.lt_of_lt_of_le h2 hlt)).trans h3, (hb.cell (p := ⟨g, j, none⟩) (Nat.lt_of_lt_of_le h2 hlt)).trans h4⟩
theorem Wr.set {w : World} {base n : Nat} {g : Nat} {B : Nat} {k : Nat} {z : Int} (h : Wr w base n (some ⟨g, 0, none⟩) B) (hk : k < n) : Wr (w.setCell ⟨g, k, none⟩ (.int .i64 z)) base n (some ⟨g, 0, none⟩) B := fun j hj => by
  obtain ⟨g', z', e, h1, h2, h3, h4⟩ := h j hj
  simp only [Option.some.injEq, Addr.mk.injEq, and_true] at e
  subst e
  by_cases hjk : j = k
  · subst hjk
    exact ⟨g, z, rfl, h1, h2, by simpa using h3, by simp [go_sem, h4]⟩
  · refine ⟨g, z', rfl, h1, h2, by simpa using h3, ?_⟩
    have hne : (⟨g, k, none⟩ : Addr) ≠ ⟨g, j, none⟩ := by simp only [ne_eq, Addr.mk.injEq]; omega
    simp only [World.cell?_setCell_other (h := hne)]
    exact h4
theorem sm_self (s h m : Int) (xs : List Int) : sm s h m xs s h m xs = true := by simp [sm]
set_option maxRecDepth 100000 in
set_option maxHeartbeats 8000000 in
theorem good (r s h m : Int) (a : Option Addr) (c : Nat) (xs : List Int) (s2 h2 m2 : Int) (b : Option Addr) (d : Nat) (ys : List Int) (win p n : Int) (w : World) (hl : xs.length ≤ 1000) (hm : ys.length ≤ 1000) (hx : RdA w a xs) (hy : RdA w b ys) (hf : Fw w)
    (x0 : -9223372036854775808 ≤ win) (x1 : win ≤ 9223372036854775807) (p0 : 0 ≤ p) (n0 : 0 ≤ n) :
    Calls Tryd.prog 3 #[.int .i64 r, .agg #[.int .u8 s, .int .u8 h, .int .i64 m, .slice a xs.length c], .agg #[.int .u8 s2, .int .u8 h2, .int .i64 m2, .slice b ys.length d], .int .i64 win, .int .u8 p, .int .u8 n] w fun e w' => e = .returned (.bool true) ∧ Below w.heap.size w w' := by
  have H5 := Lib.hid (fun (x : World) A c (k : RdA x A xs) => windows_k s h m A c xs x (by omega) k)
  have H6 := Lib.hid (fun (x : World) A c (k : RdA x A xs) => rwindows_k s h m A c xs x (by omega) k)
  have H7 := Lib.hid (fun (x : World) A c (k : RdA x A xs) => group_k s h m A c xs win x hl k)
  have H8 := Lib.hid (fun (x : World) A c (k : RdA x A xs) => rgroup_k s h m A c xs win x hl k x0 x1)
  have H10 := Lib.hid (fun (x : World) A c (k : RdA x A xs) => check_ok r s h m A c xs x (by omega) k)
  have H11 := Lib.hid (fun (x : World) A c (k : RdA x A xs) => rcheck_ok r s h m A c xs x (by omega) k)
  have H12 := Lib.hid (fun (x : World) (k : Fw x) => aft_ok p n x p0 n0 k)
  have H13 := Lib.hid (fun (x : World) => rafter_ok p n x p0 n0)
  have H14 := Lib.hid (fun (x : World) (k : RdA x a xs) (k2 : RdA x b ys) => same_ok s h m a c xs s2 h2 m2 b d ys x hl (by unfold maxLen; omega) k k2)
  have H15 := Lib.hid (fun (x : World) (k : RdA x a xs) (k2 : RdA x b ys) => rsame_ok s h m a c xs s2 h2 m2 b d ys x hl (by unfold maxLen; omega) k k2)
  have HSS := Lib.hid (fun (x : World) A c' (k : RdA x A xs) (k2 : RdA x a xs) => (sm_self s h m xs) ▸ rsame_ok s h m A c' xs s h m a c xs x hl (by unfold maxLen; omega) k k2)
  generalize (if chk 11 s h m xs = 0 then If.win s else 0) = WN at *
  generalize chk 11 s h m xs = WE at *
  generalize gA s h m xs win = GA at *
  generalize gB s h m xs win = GB at *
  generalize chk r s h m xs = CR at *
  generalize aft p n = AF at *
  generalize sm s h m xs s2 h2 m2 ys = SM at *
  have HBW : Hid (Below w.heap.size w ((w.alloc (.cells #[.int .u8 s, .int .u8 h, .int .i64 m, .slice a xs.length c] 24)).alloc (.cells #[.int .u8 s2, .int .u8 h2, .int .i64 m2, .slice b ys.length d] 24))) := Lib.hid (bT (box_below _ _) (box_below _ _))
  have HBA := Lib.hid (fun x hx => boxed2 w s h m (.slice a xs.length c) s2 h2 m2 (.slice b ys.length d) x hx)
  have HX := Lib.hid (fun y (k : Below w.heap.size w y) => hx.below k)
  have HY := Lib.hid (fun y (k : Below w.heap.size w y) => hy.below k)
  have HF := Lib.hid (fun y (k : Below w.heap.size w y) => hf.below k)
  have g1 : ¬ (1000 : Int) < xs.length := by omega
  have g2 : ¬ (1000 : Int) < ys.length := by omega
  clear hx hy hf
  go_enter Tryd.func3, Tryd.ntmps3
  go_wp2_with (first
    | (go_at_call 4; (generalize hwA : (w.alloc (.cells #[.int .u8 s, .int .u8 h, .int .i64 m, .slice a xs.length c] 24)).alloc (.cells #[.int .u8 s2, .int .u8 h2, .int .i64 m2, .slice b ys.length d] 24) = wA at *; (with_reducible refine (rtwin_ok s h m a c xs wA hl (HX.out _ HBW.out)).mono ?_); rintro e w1 ⟨v1, rfl, ho1, hb1⟩; obtain ⟨A1, c1, rfl, hr1⟩ := own_rd ho1; have W1 := Lib.hid hb1; have R1 := Lib.hid hr1; clear ho1 hr1 hb1))
    | (go_at_call 5; (generalize hw3 : (w1.alloc (.cells #[.int .u8 s, .int .u8 h, .int .i64 m, (.slice A1 xs.length c1)] 24)) = w3 at *; obtain ⟨b3, k3, s3, f3⟩ := st_facts hw3; have sz3 : w1.heap.size < w3.heap.size := (by omega); have R3 := R1.out.below b3; have B3 := bT W1.out b3; have KK := Lib.hid (fun x (hx : Below w3.heap.size w3 x) => And.intro (HBA.out x (bT B3 hx)).1 (And.intro (HBA.out x (bT B3 hx)).2 (And.intro (k3.below sz3 hx) (And.intro (R3.below hx) (And.intro (HX.out x (bT HBW.out (bT B3 hx))) (And.intro (HY.out x (bT HBW.out (bT B3 hx))) (And.intro (HF.out x (bT HBW.out (bT B3 hx))) (bT HBW.out (bT B3 hx))))))))); clear R1 hw3 f3 b3 k3 R3 B3 HX HY HF; (with_reducible refine (H5.out w3 A1 c1 (KK.out w3 (Below.refl _ _)).2.2.2.1).mono ?_); rintro e w4 ⟨rfl, hb4⟩; have B4 := Lib.hid hb4; obtain ⟨⟨z0, z1, z2, z3⟩, -, ⟨q0, q1, q2, q3⟩, -⟩ := KK.out w4 B4.out; clear hb4))
    | (go_at_call 6; ((with_reducible refine (H6.out w4 a c (KK.out w4 B4.out).2.2.2.2.1).mono ?_); rintro e w5 ⟨rfl, hb5⟩; have B5 := Lib.hid (bT B4.out hb5); clear hb5 z0 z1 z2 z3 q0 q1 q2 q3; obtain ⟨⟨z0, z1, z2, z3⟩, -, ⟨q0, q1, q2, q3⟩, -⟩ := KK.out w5 B5.out))
    | (go_at_call 7; ((with_reducible refine (H7.out w5 A1 c1 (KK.out w5 B5.out).2.2.2.1).mono ?_); rintro e w6 ⟨rfl, hb6⟩; have B6 := Lib.hid (bT B5.out hb6); clear hb6 z0 z1 z2 z3 q0 q1 q2 q3; obtain ⟨⟨z0, z1, z2, z3⟩, -, ⟨q0, q1, q2, q3⟩, -⟩ := KK.out w6 B6.out))
    | (go_at_call 8; ((with_reducible refine (H8.out w6 a c (KK.out w6 B6.out).2.2.2.2.1).mono ?_); rintro e w7 ⟨rfl, hb7⟩; have B7 := Lib.hid (bT B6.out hb7); clear hb7 z0 z1 z2 z3 q0 q1 q2 q3; obtain ⟨⟨z0, z1, z2, z3⟩, -, ⟨q0, q1, q2, q3⟩, -⟩ := KK.out w7 B7.out))
    | (go_at_call 9; ((with_reducible refine (twin_ok s h m A1 c1 xs w7 hl (KK.out w7 B7.out).2.2.2.1).mono ?_); rintro e w8 ⟨v8, rfl, ho8, hb8⟩; obtain ⟨A8, c8, rfl, hr8⟩ := own_rd ho8; have B8 := Lib.hid hb8; have R8 := Lib.hid hr8; have O8 := Lib.hid ho8; clear hb8 hr8 ho8 z0 z1 z2 z3 q0 q1 q2 q3)))
  generalize hw9 : (w8.alloc (.cells #[.int .u8 s, .int .u8 h, .int .i64 m, (.slice A8 xs.length c8)] 24)) = w9 at *
  obtain ⟨b9, k9, s9, f9⟩ := st_facts hw9
  have sz9 : w8.heap.size < w9.heap.size := by omega
  have B9 := bT (bT B7.out B8.out) b9
  have KEEP : Hid (∀ x, Below w9.heap.size w9 x → Below w9.heap.size w9 x ∧ x.cell? ⟨w.heap.size, 0, none⟩ = some (.int .u8 s) ∧ x.cell? ⟨w.heap.size, 1, none⟩ = some (.int .u8 h) ∧ x.cell? ⟨w.heap.size, 2, none⟩ = some (.int .i64 m) ∧ x.cell? ⟨w.heap.size, 3, none⟩ = some (.slice a xs.length c) ∧ x.cell? ⟨w.heap.size + 1, 0, none⟩ = some (.int .u8 s2) ∧ x.cell? ⟨w.heap.size + 1, 1, none⟩ = some (.int .u8 h2) ∧ x.cell? ⟨w.heap.size + 1, 2, none⟩ = some (.int .i64 m2) ∧ x.cell? ⟨w.heap.size + 1, 3, none⟩ = some (.slice b ys.length d) ∧ x.cell? ⟨w1.heap.size, 0, none⟩ = some (.int .u8 s) ∧ x.cell? ⟨w1.heap.size, 1, none⟩ = some (.int .u8 h) ∧ x.cell? ⟨w1.heap.size, 2, none⟩ = some (.int .i64 m) ∧ x.cell? ⟨w1.heap.size, 3, none⟩ = some (.slice A1 xs.length c1) ∧ x.cell? ⟨w8.heap.size, 0, none⟩ = some (.int .u8 s) ∧ x.cell? ⟨w8.heap.size, 1, none⟩ = some (.int .u8 h) ∧ x.cell? ⟨w8.heap.size, 2, none⟩ = some (.int .i64 m) ∧ x.cell? ⟨w8.heap.size, 3, none⟩ = some (.slice A8 xs.length c8)) := Lib.hid (fun x hx => by
    obtain ⟨⟨a0, a1, a2, a3⟩, ⟨c0, c1, c2, c3⟩, ⟨d0, d1, d2, d3⟩, -⟩ := KK.out x (bT B9 hx)
    obtain ⟨e0, e1, e2, e3⟩ := k9.below sz9 hx
    exact ⟨hx, a0, a1, a2, a3, c0, c1, c2, c3, d0, d1, d2, d3, e0, e1, e2, e3⟩)
  have R := Lib.hid (fun x (hx : Below w9.heap.size w9 x) => (KK.out x (bT B9 hx)).2.2.2)
  have R9 := Lib.hid (fun x (hx : Below w9.heap.size w9 x) => ((R8.out.below b9).below hx))
  have B9' := Lib.hid B9
  have B37 := Lib.hid B7.out.size
  obtain ⟨A9, c9', e9, WR⟩ := own_wr (B := w8.heap.size) O8.out (Nat.le_refl _)
  obtain ⟨rfl, rfl⟩ : A8 = A9 ∧ c8 = c9' := by simpa using e9
  have WR9 := Lib.hid (WR.below b9 (Nat.le_refl _))
  clear WR e9 O8
  have f9 := Lib.hid f9
  have k9 := Lib.hid k9
  have b9 := Lib.hid b9
  clear hw9 B9 B4 B5 B6 HBA HBW
  go_region_held3 (fun w' => Below w9.heap.size w9 w' ∧ w'.cell? ⟨w.heap.size, 0, none⟩ = some (.int .u8 s) ∧ w'.cell? ⟨w.heap.size, 1, none⟩ = some (.int .u8 h) ∧ w'.cell? ⟨w.heap.size, 2, none⟩ = some (.int .i64 m) ∧ w'.cell? ⟨w.heap.size, 3, none⟩ = some (.slice a xs.length c) ∧ w'.cell? ⟨w.heap.size + 1, 0, none⟩ = some (.int .u8 s2) ∧ w'.cell? ⟨w.heap.size + 1, 1, none⟩ = some (.int .u8 h2) ∧ w'.cell? ⟨w.heap.size + 1, 2, none⟩ = some (.int .i64 m2) ∧ w'.cell? ⟨w.heap.size + 1, 3, none⟩ = some (.slice b ys.length d) ∧ w'.cell? ⟨w1.heap.size, 0, none⟩ = some (.int .u8 s) ∧ w'.cell? ⟨w1.heap.size, 1, none⟩ = some (.int .u8 h) ∧ w'.cell? ⟨w1.heap.size, 2, none⟩ = some (.int .i64 m) ∧ w'.cell? ⟨w1.heap.size, 3, none⟩ = some (.slice A1 xs.length c1) ∧ w'.cell? ⟨w8.heap.size, 0, none⟩ = some (.int .u8 s) ∧ w'.cell? ⟨w8.heap.size, 1, none⟩ = some (.int .u8 h) ∧ w'.cell? ⟨w8.heap.size, 2, none⟩ = some (.int .i64 m) ∧ w'.cell? ⟨w8.heap.size, 3, none⟩ = some (.slice A8 xs.length c8)) (exact KEEP.out _ (by first | exact (Below.refl _ _) | exact (Below.refl _ _).drew | exact X1.out | exact X2.out | exact X3.out | exact X4.out))
    (first
      | (go_at_call 10; ((with_reducible refine (H10.out _ A1 c1 (R.out _ (‹Below w9.heap.size w9 _ ∧ _›).1).1).mono ?_); rintro e x1 ⟨rfl, hb⟩; have X1 := Lib.hid (bT (‹Below w9.heap.size w9 _ ∧ _›).1 hb); clear hb))
      | (go_at_call 11; ((with_reducible refine (H11.out _ a c (R.out _ (‹Below w9.heap.size w9 _ ∧ _›).1).2.1).mono ?_); rintro e x2 ⟨rfl, hb⟩; have X2 := Lib.hid (bT (‹Below w9.heap.size w9 _ ∧ _›).1 hb); clear hb))
      | (go_at_call 12; ((with_reducible refine (H12.out _ (R.out _ (‹Below w9.heap.size w9 _ ∧ _›).1).2.2.2.1).mono ?_); rintro e x3 ⟨rfl, rfl⟩))
      | (go_at_call 13; ((with_reducible refine (H13.out _).mono ?_); rintro e x4 ⟨rfl, rfl⟩)))
  rename_i hS
  obtain ⟨-, z0, z1, z2, z3, y0, y1, y2, y3, q0, q1, q2, q3, t0, t1, t2, t3⟩ := hS
  clear X1 H5 H6 H7 H8 H10 H11 H12 H13
  go_wp2
  clear z0 z1 z2 z3 y0 y1 y2 y3 q0 q1 q2 q3 t0 t1 t2 t3
  have HSE := Lib.hid (Eq.refl (SM == SM))
  go_region_held3 (fun w' => Below w9.heap.size w9 w' ∧ w'.cell? ⟨w.heap.size, 0, none⟩ = some (.int .u8 s) ∧ w'.cell? ⟨w.heap.size, 1, none⟩ = some (.int .u8 h) ∧ w'.cell? ⟨w.heap.size, 2, none⟩ = some (.int .i64 m) ∧ w'.cell? ⟨w.heap.size, 3, none⟩ = some (.slice a xs.length c) ∧ w'.cell? ⟨w.heap.size + 1, 0, none⟩ = some (.int .u8 s2) ∧ w'.cell? ⟨w.heap.size + 1, 1, none⟩ = some (.int .u8 h2) ∧ w'.cell? ⟨w.heap.size + 1, 2, none⟩ = some (.int .i64 m2) ∧ w'.cell? ⟨w.heap.size + 1, 3, none⟩ = some (.slice b ys.length d) ∧ w'.cell? ⟨w1.heap.size, 0, none⟩ = some (.int .u8 s) ∧ w'.cell? ⟨w1.heap.size, 1, none⟩ = some (.int .u8 h) ∧ w'.cell? ⟨w1.heap.size, 2, none⟩ = some (.int .i64 m) ∧ w'.cell? ⟨w1.heap.size, 3, none⟩ = some (.slice A1 xs.length c1) ∧ w'.cell? ⟨w8.heap.size, 0, none⟩ = some (.int .u8 s) ∧ w'.cell? ⟨w8.heap.size, 1, none⟩ = some (.int .u8 h) ∧ w'.cell? ⟨w8.heap.size, 2, none⟩ = some (.int .i64 m) ∧ w'.cell? ⟨w8.heap.size, 3, none⟩ = some (.slice A8 xs.length c8)) (exact KEEP.out _ (by first | exact X2.out | exact X2.out.drew | exact X3.out | exact X4.out | exact X5.out))
    (first
      | (go_at_call 14; ((with_reducible refine (H14.out _ (R.out _ (‹Below w9.heap.size w9 _ ∧ _›).1).2.1 (R.out _ (‹Below w9.heap.size w9 _ ∧ _›).1).2.2.1).mono ?_); rintro e x3 ⟨rfl, hb⟩; have X3 := Lib.hid (bT (‹Below w9.heap.size w9 _ ∧ _›).1 hb); clear hb))
      | (go_at_call 15; ((with_reducible refine (H15.out _ (R.out _ (‹Below w9.heap.size w9 _ ∧ _›).1).2.1 (R.out _ (‹Below w9.heap.size w9 _ ∧ _›).1).2.2.1).mono ?_); rintro e x4 ⟨rfl, hb⟩; have X4 := Lib.hid (bT (‹Below w9.heap.size w9 _ ∧ _›).1 hb); clear hb))
      | (go_at_call 15; ((with_reducible refine (HSS.out _ A8 c8 (R9.out _ (‹Below w9.heap.size w9 _ ∧ _›).1) (R.out _ (‹Below w9.heap.size w9 _ ∧ _›).1).2.1).mono ?_); rintro e x5 ⟨rfl, hb⟩; have X5 := Lib.hid (bT (‹Below w9.heap.size w9 _ ∧ _›).1 hb); clear hb)))
  rename_i hS
  obtain ⟨-, z0, z1, z2, z3, y0, y1, y2, y3, q0, q1, q2, q3, t0, t1, t2, t3⟩ := hS
  have WR5 := Lib.hid (WR9.out.below X5.out (Nat.le_of_lt sz9))
  have XW := Lib.hid (bT B9'.out X5.out)
  clear z0 z1 z2 z3 y0 y1 y2 y3 q0 q1 q2 q3 t0 t1 t2 HSE X3 X4 H14 H15 WR9 KEEP
  go_wp2
  go_loopw [25] (fun i wr => ∃ k : Nat, k ≤ xs.length ∧ i = .int .i64 k ∧ wr.cell? ⟨w8.heap.size, 3, none⟩ = some (.slice A8 xs.length c8) ∧ Wr wr (w7.heap.size + 2) xs.length A8 w8.heap.size ∧ Below w7.heap.size x5 wr) (fun i _ => xs.length - (intOf i).toNat)
  case atStart => exact ⟨0, by omega, rfl, t3, WR5.out, Below.refl _ _⟩
  case round =>
    obtain ⟨k, hk, rfl, t3, hW, hb⟩ := hrel
    by_cases hlt : k < xs.length
    · obtain ⟨g, z, e8, hg1, hg2, hg3, hg4⟩ := hW k hlt
      have HW := Lib.hid hW
      subst e8
      clear hW
      have hne : g ≠ w8.heap.size := by omega
      go_wp2
      go_roundw
      case rel => exact ⟨k + 1, by omega, by go_num, by simp (maxDischargeDepth := 8) [go_sem, t3, hne, Ne.symm hne], HW.out.set hlt, hb.setCell (by simp; omega) _⟩
      case measure => simp [intOf]; omega
    · have hend : k = xs.length := by omega
      have hB : Below w3.heap.size w3 wr := XW.out.trans (hb.mono B37.out)
      obtain ⟨⟨z0, z1, z2, z3⟩, -, ⟨q0, q1, q2, q3⟩, rA1, rA, -, -, hBw⟩ := KK.out wr hB
      have HRA := Lib.hid (And.intro rA1 rA)
      have HBW2 := Lib.hid hBw
      clear rA1 rA hBw hB hb hW
      go_wp2_with (go_at_call 15; ((with_reducible refine (HSS.out wr A1 c1 HRA.out.1 HRA.out.2).mono ?_); rintro e w10 ⟨rfl, hb10⟩))
      go_ret
      exact ⟨rfl, bT HBW2.out hb10⟩
end Go.Proofs.YtjbllbmcalpbhaaDoor.It
