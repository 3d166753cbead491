/- What lap's own small functions do. -/
import Derived.Test.YteknakakefhbmaaBlAl
import Derived.Test.YteknakakefhbmaaCpy
import Derived.Test.YteknakakefhbmaaRg
import Derived.Great.Walk
import Derived.ChangeKeysEq
import Derived.ChangeOld
import Derived.ShutString
import Derived.WalkKit
import Derived.Below
import Derived.RegionTactic
import Derived.Deep.QuietTactic
import Derived.BigQuiet
import Derived.ChangeAlike
import Derived.Deep.OwnRows
import Derived.Deep.RegionLaw
import Derived.ProofKit
import Derived.OpenShut
import Derived.ChangeSlices
import Derived.Lib.Hide
namespace Go.Proofs.Yteknakakefhbmaa.Lp
open Go Go.ChangeShapes Go.WideShapes Go.ChangeAt Go.RowKit Go.Proofs.Yteknakakefhbmaa.Fx Go.Proofs.Yteknakakefhbmaa.Rk Go.Proofs.Yteknakakefhbmaa.Mm Go.Proofs.Yteknakakefhbmaa.Md Go.Proofs.Yteknakakefhbmaa.Bl

theorem clip_in (n b : Int) (w : World) (h3 : 1 ≤ b) (h4 : b ≤ 62) :
    Calls Try.prog 44 #[.int .i64 n, .int .i64 b] w fun e w' => e = .returned (.tuple #[.int .i64 (clp n b), .int .i64 0]) ∧ w = w' := by
  have c3 : ¬ b < 1 := by omega
  have c4 : ¬ 62 < b := by omega
  have a := pow61 h4
  have c := pow_pos' (b.toNat - 1)
  have e1 : wrap64 (2 ^ (b.toNat - 1)) = 2 ^ (b.toNat - 1) := w64 (by omega) (by omega)
  go_enter Try.func44, Try.ntmps44
  go_wp2
  go_ret2
  exact ⟨rfl, rfl⟩

/-- What overlaps, as a value. -/
def lapV (v : Value) (seq shape : Int) : Value := .agg #[v, .int .u8 seq, .int .u8 shape]
theorem load38 {w : World} {b : Nat} {v s h : Value} (c0 : w.cell? ⟨b, 0, none⟩ = some v) (c1 : w.cell? ⟨b, 1, none⟩ = some s) (c2 : w.cell? ⟨b, 2, none⟩ = some h) : (loadVar 38 ⟨b, 0, none⟩).run Try.prog w = .ok (.agg #[v, s, h]) w := by
  go_simp
theorem res1 {P : Program} {fn : Func} {a t b : Nat} {tmps : Array Value} {w : World} {v : Value} (h : fn.results = #[.cell a t]) (ht : tmps.getD a undef = .pointer (some ⟨b, 0, none⟩)) (hl : (loadVar t ⟨b, 0, none⟩).run P w = .ok v w) : (results fn tmps).run P w = .ok v w := by
  have ht2 : tmps[a]?.getD undef = .pointer (some ⟨b, 0, none⟩) := by simpa using ht
  simp [results, h, ht2, asAddr, hl]
theorem res3 {P : Program} {fn : Func} {a t b u q : Nat} {tmps : Array Value} {w : World} {v : Value} (h : fn.results = #[.cell a t, .tmp u, .tmp q]) (ht : tmps.getD a undef = .pointer (some ⟨b, 0, none⟩)) (hl : (loadVar t ⟨b, 0, none⟩).run P w = .ok v w) : (results fn tmps).run P w = .ok (.tuple #[v, tmps.getD u undef, tmps.getD q undef]) w := by
  have ht2 : tmps[a]?.getD undef = .pointer (some ⟨b, 0, none⟩) := by simpa using ht
  simp [results, h, ht2, asAddr, hl]
set_option maxRecDepth 100000 in
theorem new_ok (w : World) : Calls Try.prog 23 #[] w fun e w' => ∃ g, e = .returned (lapV (.slice (some ⟨g, 0, none⟩) 256 256) 0 0) ∧ w.heap.size ≤ g ∧ w'.rowIs g 3 256 (fun _ => .int .i64 0) ∧ Below w.heap.size w w' := by
  obtain ⟨i0, hi, hz0, hz1, hz2⟩ := info_parts Fx.info3
  go_enter Try.func23, Try.ntmps23
  go_wp2_with (refine wpList_make_row _ rfl _ _ 22 rfl 3 i0 (.int .i64 0) Try.underlying22 hi hz0 hz1 rfl .i64 .i64 256 rfl rfl (by rw [hz2]; omega) (by omega) ?_)
  have H0 := World.rowIs_alloc w #[.slice (some ⟨w.heap.size + 1, 0, none⟩) 256 256, .int .u8 0, .int .u8 0] 38 (fun i => #[.slice (some ⟨w.heap.size + 1, 0, none⟩) 256 256, .int .u8 0, .int .u8 0].getD i undef) (fun i hi => by simp at hi; simp [hi])
  have H1 := H0.alloc (.cells (madeCells #[.int .i64 0] 256) 3)
  refine bodyPost_ret (res1 rfl rfl (load38 (H1.cell (i := 0) (by simp)) (H1.cell (i := 1) (by simp)) (H1.cell (i := 2) (by simp)))) rfl ?_
  have hm := World.rowIs_made (w.alloc (.cells #[.slice (some ⟨w.heap.size + 1, 0, none⟩) 256 256, .int .u8 0, .int .u8 0] 38)) (.int .i64 0) 256 3
  rw [World.size_alloc] at hm
  exact ⟨w.heap.size + 1, rfl, by omega, hm, ((Below.refl _ _).alloc (Nat.le_refl _) _).alloc (by simp) _⟩

/-! ### Check -/
def LapOK (tail : List Int) (seq shape : Int) : Prop := tail.length = 256 ∧ seq ≤ 3 ∧ shape ≤ 1 ∧ InR (-1099511627776) 1099511627776 tail
instance (tail : List Int) (seq shape : Int) : Decidable (LapOK tail seq shape) := by unfold LapOK; infer_instance
theorem box38 (w : World) (v s h : Value) : (w.alloc (.cells #[v, s, h] 38)).cell? ⟨w.heap.size, 0, none⟩ = some v ∧ (w.alloc (.cells #[v, s, h] 38)).cell? ⟨w.heap.size, 1, none⟩ = some s ∧ (w.alloc (.cells #[v, s, h] 38)).cell? ⟨w.heap.size, 2, none⟩ = some h := by
  have H0 := World.rowIs_alloc w #[v, s, h] 38 (fun i => #[v, s, h].getD i undef) (fun i hi => by simp at hi; simp [hi])
  exact ⟨H0.cell (i := 0) (by simp), H0.cell (i := 1) (by simp), H0.cell (i := 2) (by simp)⟩
set_option maxRecDepth 100000 in
set_option maxHeartbeats 2000000 in
theorem check_yes (A : Option Addr) (cap : Nat) (tail : List Int) (seq shape : Int) (w : World) (rd : RdA w A tail) (h : LapOK tail seq shape) : Calls Try.prog 25 #[lapV (.slice A tail.length cap) seq shape] w fun e w' => e = .returned (.int .i64 0) ∧ Below w.heap.size w w' := by
  obtain ⟨h1, h2, h3, h4⟩ := h
  obtain ⟨x0, x1, x2⟩ := box38 w (.slice A 256 cap) (.int .u8 seq) (.int .u8 shape)
  have p0 : Below w.heap.size w (w.alloc (.cells #[.slice A 256 cap, .int .u8 seq, .int .u8 shape] 38)) := (Below.refl _ w).alloc (Nat.le_refl _) _
  have HR := Lib.hid (rd.below p0)
  have HM := Lib.hid h4
  have HL := Lib.hid h1
  have P0 := Lib.hid p0
  rw [h1]
  clear rd h4 h1 p0
  unfold lapV
  go_enter Try.func25, Try.ntmps25
  go_wp2
  go_loop [22] (fun i => ∃ k : Nat, k ≤ 256 ∧ i = .int .i64 k) (fun i => 256 - (intOf i).toNat)
  case atStart => exact ⟨0, by omega, rfl⟩
  case round =>
    obtain ⟨k, hk, rfl⟩ := hrel
    by_cases hlt : k < 256
    · obtain ⟨b, off, rfl, hlb, c⟩ := HR.out k (by rw [HL.out]; exact hlt)
      obtain ⟨y0, y1⟩ := HM.out k (by rw [HL.out]; exact hlt)
      generalize tail.getD k 0 = X at *
      go_wp2
      go_round
      case rel => exact ⟨k + 1, by omega, by go_num⟩
      case measure => simp [intOf]; omega
    · have hlt2 : ¬ (k : Int) < 256 := by omega
      go_wp2
      go_ret
      exact ⟨rfl, P0.out⟩
set_option maxRecDepth 100000 in
set_option maxHeartbeats 2000000 in
theorem check_no (A : Option Addr) (cap : Nat) (tail : List Int) (seq shape : Int) (w : World) (rd : RdA w A tail) (h : ¬ LapOK tail seq shape) : Calls Try.prog 25 #[lapV (.slice A tail.length cap) seq shape] w fun e w' => e = .returned (.int .i64 8) ∧ Below w.heap.size w w' := by
  obtain ⟨x0, x1, x2⟩ := box38 w (.slice A tail.length cap) (.int .u8 seq) (.int .u8 shape)
  have p0 : Below w.heap.size w (w.alloc (.cells #[.slice A tail.length cap, .int .u8 seq, .int .u8 shape] 38)) := (Below.refl _ w).alloc (Nat.le_refl _) _
  have P0 := Lib.hid p0
  unfold lapV
  by_cases h1 : tail.length = 256
  · by_cases h2 : seq ≤ 3
    · by_cases h3 : shape ≤ 1
      · have h4 : ¬ InR (-1099511627776) 1099511627776 tail := fun q => h ⟨h1, h2, h3, q⟩
        obtain ⟨j, hj, hbad, hok⟩ := not_inR h4
        have HR := Lib.hid (rd.below p0)
        have HM := Lib.hid hok
        have HB := Lib.hid hbad
        have HL := Lib.hid h1
        rw [h1] at x0 x1 x2 P0 ⊢
        rw [h1] at hj
        rw [h1] at HR
        clear rd h4 p0 h hok hbad h1
        go_enter Try.func25, Try.ntmps25
        go_wp2
        go_loop [22] (fun i => ∃ k : Nat, k ≤ j ∧ i = .int .i64 k) (fun i => 256 - (intOf i).toNat)
        case atStart => exact ⟨0, by omega, rfl⟩
        case round =>
          obtain ⟨k, hk, rfl⟩ := hrel
          obtain ⟨b, off, rfl, hlb, c⟩ := HR.out k (by rw [HL.out]; omega)
          have hlt : k < 256 := by omega
          by_cases hkj : k < j
          · obtain ⟨y0, y1⟩ := HM.out k hkj
            generalize tail.getD k 0 = X at *
            go_wp2
            go_round
            case rel => exact ⟨k + 1, by omega, by go_num⟩
            case measure => simp [intOf]; omega
          · have hkj2 : k = j := by omega
            subst hkj2
            have hb := HB.out
            clear HB
            generalize tail.getD k 0 = X at *
            by_cases d1 : X < -1099511627776
            · clear hb
              go_wp2
              go_ret
              exact ⟨rfl, P0.out⟩
            · have d2 : 1099511627776 < X := by omega
              clear hb
              go_wp2
              go_ret
              exact ⟨rfl, P0.out⟩
      · rw [h1] at x0 x1 x2 P0 ⊢
        clear rd p0 h h1
        go_enter Try.func25, Try.ntmps25
        go_wp2
        go_ret
        exact ⟨rfl, P0.out⟩
    · rw [h1] at x0 x1 x2 P0 ⊢
      clear rd p0 h h1
      go_enter Try.func25, Try.ntmps25
      go_wp2
      go_ret
      exact ⟨rfl, P0.out⟩
  · have h1i : ((tail.length : Int) != 256) = true := by simp; omega
    clear rd p0 h
    go_enter Try.func25, Try.ntmps25
    go_wp2
    go_ret
    exact ⟨rfl, P0.out⟩
end Go.Proofs.Yteknakakefhbmaa.Lp
