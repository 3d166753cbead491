/- What lose's Lines does where lines are known on both sides of a short run. -/
import Derived.Test.YtlogmndophcnjaaLoCon
import Derived.WalkKit
import Derived.RegionTactic
import Derived.ChangeAlike
import Derived.Deep.OwnRows
import Derived.ProofKit
import Derived.OpenShut
import Derived.Lib.Hide
namespace Go.Proofs.Ytlogmndophcnjaa.Lo
open Go Go.ChangeShapes Go.WideShapes Go.ChangeAt Go.RowKit

/-- What the call of fading leaves. -/
theorem fading_any (b off cap : Nat) (t : Int) (w : World) :
    Calls Try.prog 10 #[.slice (some ⟨b, off, none⟩) 256 cap, .int .i64 t] w fun e w' => (∃ fv, e = .returned fv) ∧ Below w.heap.size w w' := by
  have hb : Below w.heap.size w (((w.alloc (.cells #[.slice (some ⟨b, off, none⟩) 256 cap] 22)).alloc (.cells #[.int .i64 t] 3))) := ((Below.refl _ _).alloc (Nat.le_refl _) _).alloc (by simp) _
  by_cases h : 8 < t
  · go_enter Try.func10, Try.ntmps10
    go_wp2
    go_ret
    exact ⟨⟨_, rfl⟩, hb⟩
  · go_enter Try.func10, Try.ntmps10
    go_wp2
    go_ret
    exact ⟨⟨_, rfl⟩, hb⟩

def Caught (w : World) (p1 p2 p3 p4 : Nat) (v v' : Value) (W T : Int) : Prop :=
  w.cell? ⟨p1, 0, none⟩ = some v ∧ w.cell? ⟨p2, 0, none⟩ = some (.int .i64 W) ∧ w.cell? ⟨p3, 0, none⟩ = some (.int .i64 T) ∧ w.cell? ⟨p4, 0, none⟩ = some v' ∧ p1 < w.heap.size ∧ p2 < w.heap.size ∧ p3 < w.heap.size ∧ p4 < w.heap.size
theorem Caught.below {w w' : World} {p1 p2 p3 p4 : Nat} {v v' : Value} {W T : Int} (h : Caught w p1 p2 p3 p4 v v' W T) (hb : Below w.heap.size w w') : Caught w' p1 p2 p3 p4 v v' W T := by
  obtain ⟨a, b, c, d, e, f, g, k⟩ := h
  have := hb.size
  exact ⟨(hb.cell (p := ⟨p1, 0, none⟩) e).trans a, (hb.cell (p := ⟨p2, 0, none⟩) f).trans b, (hb.cell (p := ⟨p3, 0, none⟩) g).trans c, (hb.cell (p := ⟨p4, 0, none⟩) k).trans d, by omega, by omega, by omega, by omega⟩

theorem between_ok (b off cap b' off' cap' : Nat) (T M : Int) (w : World) (m0 : 0 ≤ M) (m1 : M ≤ 100) :
    Calls Try.prog 11 #[.slice (some ⟨b, off, none⟩) 256 cap, .slice (some ⟨b', off', none⟩) 256 cap', .int .i64 T, .int .i64 M] w fun e w' => ∃ p1 p2 p3 p4, e = .returned (.func (.func 14) #[] #[.pointer (some ⟨p1, 0, none⟩), .pointer (some ⟨p2, 0, none⟩), .pointer (some ⟨p3, 0, none⟩), .pointer (some ⟨p4, 0, none⟩)]) ∧ Caught w' p1 p2 p3 p4 (.slice (some ⟨b, off, none⟩) 256 cap) (.slice (some ⟨b', off', none⟩) 256 cap') (M + 1) T ∧ Below w.heap.size w w' := by
  go_enter Try.func11, Try.ntmps11
  go_wp2
  go_ret
  refine ⟨_, _, _, _, rfl, ⟨?_, ?_, ?_, ?_, ?_, ?_, ?_, ?_⟩, ?_⟩
  · simp [go_sem]
  · simp [go_sem]
  · simp [go_sem]
  · simp [go_sem]
  · simp; omega
  · first | (simp; done) | (simp; omega)
  · first | (simp; done) | (simp; omega)
  · first | (simp; done) | (simp; omega)
  · exact ((((Below.refl _ _).alloc (Nat.le_refl _) _).alloc (by simp) _).alloc (by simp; omega) _).alloc (by simp; omega) _

set_option maxRecDepth 100000 in
set_option maxHeartbeats 2000000 in
/-- Lines between both sides. -/
theorem lines_btw (b off cap b' off' cap' : Nat) (zb za : List Int) (T M : Int) (w : World) (hM : (M = 1 ∧ T = 1) ∨ (M = 2 ∧ T = 1) ∨ (M = 2 ∧ T = 2)) (lb : zb.length = 256) (la : za.length = 256) (hb : InLine zb) (ha : InLine za)
    (hrb : Rd w (.slice (some ⟨b, off, none⟩) 256 cap) zb) (hra : Rd w (.slice (some ⟨b', off', none⟩) 256 cap') za) (kb : b < w.heap.size) (ka : b' < w.heap.size)
    (cb : ∀ i, i < 256 → w.cell? ⟨b, off + i, none⟩ = some (.int .i64 (zb.getD i 0))) (ca : ∀ i, i < 256 → w.cell? ⟨b', off' + i, none⟩ = some (.int .i64 (za.getD i 0))) :
    Calls Try.prog 4 #[.slice (some ⟨b, off, none⟩) 256 cap, .slice (some ⟨b', off', none⟩) 256 cap', .int .i64 T, .int .i64 M] w fun e w' => ∃ g, e = .returned (.tuple #[.slice (some ⟨g, 0, none⟩) 256 256, .int .i64 0]) ∧ w'.rowIs g 3 256 (fun j => .int .i64 (btw (zb.getD j 0) (za.getD j 0) (M + 1) T)) ∧ Below w.heap.size w w' := by
  obtain ⟨i0, hi, hz0, hz1, hz2⟩ := info_parts info3
  have hWT : (M + 1 = 2 ∧ T = 1) ∨ (M + 1 = 3 ∧ T = 1) ∨ (M + 1 = 3 ∧ T = 2) := by omega
  have m0 : 1 ≤ T := by omega
  have m1 : T ≤ M := by omega
  have m2 : M ≤ 2 := by omega
  have HWT := Lib.hid hWT
  have HB := Lib.hid hb
  have HA := Lib.hid ha
  have RB := Lib.hid hrb
  have RA := Lib.hid hra
  have CB := Lib.hid cb
  have CA := Lib.hid ca
  have LB := Lib.hid lb
  have LA := Lib.hid la
  clear hWT hM hb ha hrb hra cb ca lb la
  go_enter Try.func4, Try.ntmps4
  go_wp2_with (first
    | (go_at_call 9; ((with_reducible refine (lines_yes _ zb _ HB.out RB.out).mono ?_); rintro e w1 ⟨rfl, rfl⟩))
    | (go_at_call 9; ((with_reducible refine (lines_yes _ za _ HA.out RA.out).mono ?_); rintro e w1 ⟨rfl, rfl⟩))
    | (go_at_call 10; ((with_reducible refine (fading_any b off cap T _).mono ?_); rintro e w1 ⟨⟨fv, rfl⟩, hb1⟩))
    | (go_at_call 11; ((with_reducible refine (between_ok b off cap b' off' cap' T M _ (by omega) (by omega)).mono ?_); rintro e w2 ⟨p1, p2, p3, p4, rfl, hcau, hb2⟩))
    | (refine wpList_make_row _ rfl _ _ 22 rfl 3 i0 (.int .i64 0) Try.underlying22 hi hz0 hz1 rfl .i64 .i64 256 rfl rfl (by rw [hz2]; omega) (by omega) ?_))
  have hbw := belowT hb1 hb2
  have hbm : Below w2.heap.size w2 (w2.alloc (.cells (madeCells #[.int .i64 0] 256) 3)) := (Below.refl _ _).alloc (Nat.le_refl _) _
  have hrow : (w2.alloc (.cells (madeCells #[.int .i64 0] 256) 3)).rowIs w2.heap.size 3 256 (fillF (fun j => btw (zb.getD j 0) (za.getD j 0) (M + 1) T) 0) := (World.rowIs_made w2 (.int .i64 0) 256 3).congr fun i _ => by unfold fillF; simp
  have Hcau := Lib.hid hcau
  have Hrow := Lib.hid hrow
  have kb2 : b < w2.heap.size := Nat.lt_of_lt_of_le kb hbw.size
  have ka2 : b' < w2.heap.size := Nat.lt_of_lt_of_le ka hbw.size
  clear hcau hrow
  go_loopw [63] (fun i wr => ∃ k : Nat, k ≤ 256 ∧ i = .int .i64 k ∧ Hid (wr.rowIs w2.heap.size 3 256 (fillF (fun j => btw (zb.getD j 0) (za.getD j 0) (M + 1) T) k)) ∧ Below w2.heap.size w2 wr) (fun i _ => 256 - (intOf i).toNat)
  case atStart => exact ⟨0, by omega, rfl, Hrow, hbm⟩
  case round =>
    obtain ⟨k, hk, rfl, hR, hbel⟩ := hrel
    by_cases hlt : k < 256
    · have hC := Lib.hid (Hcau.out.below hbel)
      have q1 := Lib.hid ((hbel.cell (p := ⟨b, off + k, none⟩) kb2).trans ((hbw.cell (p := ⟨b, off + k, none⟩) kb).trans (CB.out k hlt)))
      have q2 := Lib.hid ((hbel.cell (p := ⟨b', off' + k, none⟩) ka2).trans ((hbw.cell (p := ⟨b', off' + k, none⟩) ka).trans (CA.out k hlt)))
      have xb := HB.out (zb.getD k 0) (by simp [LB.out, hlt])
      have ya := HA.out (za.getD k 0) (by simp [LA.out, hlt])
      have hg := hR.out.lt
      go_wp2_with (go_at_call 14; refine (btw_line k p1 p2 p3 p4 b off cap b' off' cap' (zb.getD k 0) (za.getD k 0) (M + 1) T _ hlt HWT.out xb.1 xb.2 ya.1 ya.2 hC.out.1 hC.out.2.1 hC.out.2.2.1 hC.out.2.2.2.1 q1.out q2.out).mono ?_; rintro e w5 ⟨rfl, hb5⟩; have hR5 := Lib.hid (hR.out.of_block (hb5.block _ hg)); have qo := hR5.out.cell hlt; rw [fillF, if_neg (Nat.lt_irrefl k)] at qo; have qf := hR5.out.frozen k; have hst := Lib.hid (fill_step hR5.out rfl))
      go_roundw
      case rel => exact ⟨k + 1, by omega, by go_num, hst, (belowT hbel hb5).setCell (p := ⟨w2.heap.size, k, none⟩) (Nat.le_refl _) _⟩
      case measure => simp [intOf]; omega
    · have hend : k = 256 := by omega
      subst hend
      have hF := fill_end hR.out
      have hfin := belowT hbw hbel
      clear hR
      go_wp2
      go_ret2
      exact ⟨_, rfl, hF, hfin⟩
end Go.Proofs.Ytlogmndophcnjaa.Lo
