/- What mid's calls do. -/
import Derived.Test.YtbblbahllaindaaLoErr
import Derived.WalkKit
import Derived.OwnWalk
import Derived.RegionTactic
import Derived.StillTailTactics
import Derived.Deep.OwnRows
import Derived.ProofKit
import Derived.OpenShut
import Derived.Lib.Hide
namespace Go.Proofs.Ytbblbahllaindaa.Md
open Go Go.ChangeShapes Go.WideShapes Go.ChangeAt Go.RowKit Go.Proofs.Ytbblbahllaindaa.Lo

def kept (x : Int) : Int := if x < -268435455 then -268435455 else if 268435455 < x then 268435455 else x
theorem kept_ok (x : Int) (w : World) : Calls Try.prog 22 #[.int .i64 x] w fun e w' => e = .returned (.int .i64 (kept x)) ∧ w = w' := by
  unfold kept
  by_cases h1 : x < -268435455
  · rw [if_pos h1]
    go_enter Try.func22, Try.ntmps22
    go_wp2
    go_ret
    exact ⟨rfl, rfl⟩
  · by_cases h2 : 268435455 < x
    · rw [if_neg h1, if_pos h2]
      go_enter Try.func22, Try.ntmps22
      go_wp2
      go_ret
      exact ⟨rfl, rfl⟩
    · rw [if_neg h1, if_neg h2]
      have h3 : -268435455 ≤ x := by omega
      have h4 : x ≤ 268435455 := by omega
      clear h1 h2
      by_cases h5 : x = -268435455
      · subst h5
        go_enter Try.func22, Try.ntmps22
        go_wp2
        go_ret
        exact ⟨rfl, rfl⟩
      by_cases h6 : x = 268435455
      · subst h6
        go_enter Try.func22, Try.ntmps22
        go_wp2
        go_ret
        exact ⟨rfl, rfl⟩
      have h7 : -268435455 < x := by omega
      have h8 : x < 268435455 := by omega
      clear h3 h4 h5 h6
      go_enter Try.func22, Try.ntmps22
      go_wp2
      go_ret
      exact ⟨rfl, rfl⟩

theorem kept_still (x : Int) (w : World) : Calls Try.prog 22 #[.int .i64 x] w fun e w' => e = .returned (.int .i64 (kept x)) ∧ w' = w := (kept_ok x w).mono fun _ _ h => ⟨h.1, h.2.symm⟩
theorem kept_same {x : Int} (h0 : -268435455 ≤ x) (h1 : x ≤ 268435455) : kept x = x := by unfold kept; rw [if_neg (by omega), if_neg (by omega)]
theorem kept_bd (x : Int) : -268435455 ≤ kept x ∧ kept x ≤ 268435455 := by unfold kept; split <;> (try split) <;> omega

theorem mlines_yes (v : Value) (zs : List Int) (w : World) (hall : InLine zs) (h : Rd w v zs) :
    Calls Try.prog 21 #[v] w fun e w' => e = .returned (.bool true) ∧ w = w' := by
  rcases h with ⟨a, cap, rfl, rfl⟩ | ⟨b, off, cap, rfl, hb, hcap, hm, hc⟩
  · go_enter Try.func21, Try.ntmps21
    go_wp2
    go_loop [4, 7] (fun _ i => i = .int .i64 0) (fun _ _ => 0)
    case atStart => exact rfl
    case round =>
      subst hrel
      go_wp2
      go_ret
      exact ⟨rfl, rfl⟩
  · unfold maxLen at hm
    have HC := Lib.hid hc
    have HA := Lib.hid hall
    clear hc hall
    go_enter Try.func21, Try.ntmps21
    go_wp2
    go_loop [4, 7] (fun _ i => ∃ k : Nat, k ≤ zs.length ∧ i = .int .i64 k) (fun _ i => zs.length - (intOf i).toNat)
    case atStart => exact ⟨0, by omega, rfl⟩
    case round =>
      obtain ⟨k, hk, rfl⟩ := hrel
      by_cases hlt : k < zs.length
      · have hz := HC.out k hlt
        have hd := HA.out (zs.getD k 0) (by simp [hlt])
        generalize zs.getD k 0 = d at *
        have hkp := kept_same hd.1 hd.2
        go_wp2_with (go_at_call 22; ((with_reducible refine (kept_ok d _).mono ?_); rintro e w1 ⟨rfl, rfl⟩; rw [hkp]))
        go_round
        case rel => exact ⟨k + 1, by omega, by go_num⟩
        case measure => simp [intOf]; omega
      · go_wp2
        go_ret
        exact ⟨rfl, rfl⟩
theorem kept_other {d : Int} (h : ¬ (-268435455 ≤ d ∧ d ≤ 268435455)) : (d != kept d) = true := by unfold kept; simp; split <;> (try split) <;> omega
theorem mlines_no (v : Value) (zs : List Int) (w : World) (hbad : Bad zs 0) (h : Rd w v zs) :
    Calls Try.prog 21 #[v] w fun e w' => e = .returned (.bool false) ∧ w = w' := by
  rcases h with ⟨a, cap, rfl, rfl⟩ | ⟨b, off, cap, rfl, hb, hcap, hm, hc⟩
  · exact absurd (bad_lt hbad) (by simp)
  · unfold maxLen at hm
    have HC := Lib.hid hc
    have HB := Lib.hid hbad
    clear hc hbad
    go_enter Try.func21, Try.ntmps21
    go_wp2
    go_loop [4, 7] (fun _ i => ∃ k : Nat, Hid (Bad zs k) ∧ i = .int .i64 k) (fun _ i => zs.length - (intOf i).toNat)
    case atStart => exact ⟨0, HB, rfl⟩
    case round =>
      obtain ⟨k, hB, rfl⟩ := hrel
      have hlt := bad_lt hB.out
      have hz := HC.out k hlt
      have hn := Lib.hid (bad_next hB.out)
      generalize zs.getD k 0 = d at *
      by_cases hd : -268435455 ≤ d ∧ d ≤ 268435455
      · have hkp := kept_same hd.1 hd.2
        have hn2 := Lib.hid (hn.out hd)
        clear hd hn
        go_wp2_with (go_at_call 22; ((with_reducible refine (kept_ok d _).mono ?_); rintro e w1 ⟨rfl, rfl⟩; rw [hkp]))
        go_round
        case rel => exact ⟨k + 1, hn2, by go_num⟩
        case measure => simp [intOf]; omega
      · have hkp := kept_other hd
        generalize hkq : kept d = q at hkp
        have HQ := Lib.hid hkq
        clear hd hn hkq
        go_wp2_with (go_at_call 22; ((with_reducible refine (kept_ok d _).mono ?_); rintro e w1 ⟨rfl, rfl⟩; rw [HQ.out]))
        go_ret
        exact ⟨rfl, rfl⟩

/-! ### The two ways of a pair -/
def half (n : Int) : Int := (n + 1) / 2
theorem round_ok (x : Int) (w : World) (h0 : -1073741824 ≤ x) (h1 : x ≤ 1073741824) : Calls Try.prog 12 #[.int .i64 x, .int .i64 1] w fun e w' => e = .returned (.tuple #[.int .i64 (half x), .int .i64 0]) ∧ w = w' := by
  unfold half
  go_enter Try.func12, Try.ntmps12
  go_wp2
  go_ret2
  exact ⟨rfl, rfl⟩
theorem halved_ok (x : Int) (w : World) (h0 : -1073741824 ≤ x) (h1 : x ≤ 1073741824) : Calls Try.prog 11 #[.int .i64 x] w fun e w' => e = .returned (.int .i64 (half x)) ∧ w = w' := by
  go_enter Try.func11, Try.ntmps11
  go_wp2_with (go_at_call 12; ((with_reducible refine (round_ok x _ h0 h1).mono ?_); rintro e w1 ⟨rfl, rfl⟩))
  go_ret
  exact ⟨rfl, rfl⟩
theorem sp_s (x y : Int) (p : Nat) (w : World) (x0 : -268435455 ≤ x) (x1 : x ≤ 268435455) (y0 : -268435455 ≤ y) (y1 : y ≤ 268435455) (h : w.cell? ⟨p, 0, none⟩ = some (.func (.func 11) #[] #[])) :
    Calls Try.prog 14 #[.int .i64 x, .int .i64 y, .pointer (some ⟨p, 0, none⟩)] w fun e w' => e = .returned (.int .i64 (half (x + y))) ∧ w' = w := by
  go_enter Try.func14, Try.ntmps14
  go_wp2_with (go_at_call 11; ((with_reducible refine (halved_ok (x + y) _ (by omega) (by omega)).mono ?_); rintro e w1 ⟨rfl, rfl⟩))
  go_ret
  exact ⟨rfl, rfl⟩
theorem sp_d (x y : Int) (p : Nat) (w : World) (x0 : -268435455 ≤ x) (x1 : x ≤ 268435455) (y0 : -268435455 ≤ y) (y1 : y ≤ 268435455) (h : w.cell? ⟨p, 0, none⟩ = some (.func (.func 11) #[] #[])) :
    Calls Try.prog 15 #[.int .i64 x, .int .i64 y, .pointer (some ⟨p, 0, none⟩)] w fun e w' => e = .returned (.int .i64 (half (x - y))) ∧ w' = w := by
  go_enter Try.func15, Try.ntmps15
  go_wp2_with (go_at_call 11; ((with_reducible refine (halved_ok (x - y) _ (by omega) (by omega)).mono ?_); rintro e w1 ⟨rfl, rfl⟩))
  go_ret
  exact ⟨rfl, rfl⟩
theorem jo_s (x y : Int) (w : World) (x0 : -268435455 ≤ x) (x1 : x ≤ 268435455) (y0 : -268435455 ≤ y) (y1 : y ≤ 268435455) :
    Calls Try.prog 18 #[.int .i64 x, .int .i64 y] w fun e w' => e = .returned (.int .i64 (x + y)) ∧ w' = w := by
  go_enter Try.func18, Try.ntmps18
  go_wp2
  go_ret
  exact ⟨rfl, rfl⟩
theorem jo_d (x y : Int) (w : World) (x0 : -268435455 ≤ x) (x1 : x ≤ 268435455) (y0 : -268435455 ≤ y) (y1 : y ≤ 268435455) :
    Calls Try.prog 19 #[.int .i64 x, .int .i64 y] w fun e w' => e = .returned (.int .i64 (x - y)) ∧ w' = w := by
  go_enter Try.func19, Try.ntmps19
  go_wp2
  go_ret
  exact ⟨rfl, rfl⟩
end Go.Proofs.Ytbblbahllaindaa.Md
