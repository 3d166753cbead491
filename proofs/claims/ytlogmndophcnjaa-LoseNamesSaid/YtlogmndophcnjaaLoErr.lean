/- What lose's Lines answers to what may not be. -/
import Derived.Test.YtlogmndophcnjaaLoCon
import Derived.WalkKit
import Derived.ProofKit
import Derived.OpenShut
import Derived.Lib.Hide
namespace Go.Proofs.Ytlogmndophcnjaa.Lo
open Go Go.ChangeShapes Go.WideShapes Go.ChangeAt Go.RowKit

/-- From place k on there is what is no line. -/
def Bad (zs : List Int) (k : Nat) : Prop := ∃ j, k ≤ j ∧ j < zs.length ∧ ¬ (-268435455 ≤ zs.getD j 0 ∧ zs.getD j 0 ≤ 268435455)
theorem bad_of {zs : List Int} (h : ¬ InLine zs) : Bad zs 0 := by
  refine Classical.byContradiction fun hb => h fun z hz' => ?_
  obtain ⟨j, hj, rfl⟩ := List.getElem_of_mem hz'
  refine Classical.byContradiction fun hn => hb ⟨j, by omega, hj, ?_⟩
  rw [List.getD_eq_getElem?_getD, List.getElem?_eq_getElem hj]
  exact hn
theorem bad_next {zs : List Int} {k : Nat} (h : Bad zs k) (hk : -268435455 ≤ zs.getD k 0 ∧ zs.getD k 0 ≤ 268435455) : Bad zs (k + 1) := by
  obtain ⟨j, h1, h2, h3⟩ := h
  refine ⟨j, ?_, h2, h3⟩
  by_cases e : j = k
  · subst e; exact absurd hk h3
  · omega
theorem bad_lt {zs : List Int} {k : Nat} (h : Bad zs k) : k < zs.length := by obtain ⟨j, h1, h2, _⟩ := h; omega

theorem lines_no (v : Value) (zs : List Int) (w : World) (hbad : Bad zs 0) (h : Rd w v zs) :
    Calls Try.prog 9 #[v] w fun e w' => e = .returned (.bool false) ∧ w = w' := by
  rcases h with ⟨a, cap, rfl, rfl⟩ | ⟨b, off, cap, rfl, hb, hcap, hm, hc⟩
  · exact absurd (bad_lt hbad) (by simp)
  · unfold maxLen at hm
    have HC := Lib.hid hc
    have HB := Lib.hid hbad
    clear hc hbad
    go_enter Try.func9, Try.ntmps9
    go_wp2
    go_loop [7] (fun i => ∃ k : Nat, Hid (Bad zs k) ∧ i = .int .i64 k) (fun i => zs.length - (intOf i).toNat)
    case atStart => exact ⟨0, HB, rfl⟩
    case round =>
      obtain ⟨k, hB, rfl⟩ := hrel
      have hlt := bad_lt hB.out
      have hz := HC.out k hlt
      have hn := Lib.hid (bad_next hB.out)
      generalize zs.getD k 0 = d at *
      by_cases d1 : d < -268435455
      · go_wp2
        go_ret
        exact ⟨rfl, rfl⟩
      by_cases d2 : 268435455 < d
      · go_wp2
        go_ret
        exact ⟨rfl, rfl⟩
      · go_wp2
        go_round
        case rel => exact ⟨k + 1, Lib.hid (hn.out (by omega)), by go_num⟩
        case measure => simp [intOf]; omega

theorem err1 (v0 v1 : Value) (T M : Int) (w : World) (h : T < 1 ∨ M < T ∨ 65536 < M) :
    Calls Try.prog 4 #[v0, v1, .int .i64 T, .int .i64 M] w fun e w' => e = .returned (.tuple #[.slice none 0 0, .int .i64 2]) ∧ w = w' := by
  by_cases h1 : T < 1
  · go_enter Try.func4, Try.ntmps4
    go_wp2
    go_ret2
    exact ⟨rfl, rfl⟩
  by_cases h2 : M < T
  · go_enter Try.func4, Try.ntmps4
    go_wp2
    go_ret2
    exact ⟨rfl, rfl⟩
  have h3 : 65536 < M := by omega
  go_enter Try.func4, Try.ntmps4
  go_wp2
  go_ret2
  exact ⟨rfl, rfl⟩

theorem err2 (a0 a1 : Option Addr) (l0 l1 c0 c1 : Nat) (T M : Int) (w : World) (t0 : 1 ≤ T) (t1 : T ≤ M) (t2 : M ≤ 65536) (m0 : l0 ≤ 1000) (_ : l1 ≤ 1000) (h : l0 ≠ 256 ∨ (l1 ≠ 256 ∧ l1 ≠ 0)) :
    Calls Try.prog 4 #[.slice a0 l0 c0, .slice a1 l1 c1, .int .i64 T, .int .i64 M] w fun e w' => e = .returned (.tuple #[.slice none 0 0, .int .i64 4]) ∧ w = w' := by
  by_cases h1 : l0 = 256
  · subst h1
    have e1 : ((l1 : Int) != 256) = true := by simp; omega
    have e2 : ((l1 : Int) != 0) = true := by simp; omega
    clear h
    go_enter Try.func4, Try.ntmps4
    go_wp2
    go_ret2
    exact ⟨rfl, rfl⟩
  · have e1 : ((l0 : Int) != 256) = true := by simp; omega
    clear h h1
    go_enter Try.func4, Try.ntmps4
    go_wp2
    go_ret2
    exact ⟨rfl, rfl⟩

theorem err3 (a0 a1 : Option Addr) (l1 c0 c1 : Nat) (zb za : List Int) (T M : Int) (w : World) (t0 : 1 ≤ T) (t1 : T ≤ M) (t2 : M ≤ 65536) (hl : l1 = 0 ∨ l1 = 256)
    (hrb : Rd w (.slice a0 256 c0) zb) (hra : Rd w (.slice a1 l1 c1) za) (h : Bad zb 0 ∨ (InLine zb ∧ Bad za 0)) :
    Calls Try.prog 4 #[.slice a0 256 c0, .slice a1 l1 c1, .int .i64 T, .int .i64 M] w fun e w' => e = .returned (.tuple #[.slice none 0 0, .int .i64 2]) ∧ w = w' := by
  have RB := Lib.hid hrb
  have RA := Lib.hid hra
  clear hrb hra
  rcases hl with rfl | rfl
  all_goals
    rcases h with h | ⟨h, h'⟩
    · have HB := Lib.hid h
      clear h
      go_enter Try.func4, Try.ntmps4
      go_wp2_with (go_at_call 9; ((with_reducible refine (lines_no _ zb _ HB.out RB.out).mono ?_); rintro e w1 ⟨rfl, rfl⟩))
      go_ret2
      exact ⟨rfl, rfl⟩
    · have HB := Lib.hid h
      have HA := Lib.hid h'
      clear h h'
      go_enter Try.func4, Try.ntmps4
      go_wp2_with (first
        | (go_at_call 9; ((with_reducible refine (lines_yes _ zb _ HB.out RB.out).mono ?_); rintro e w1 ⟨rfl, rfl⟩))
        | (go_at_call 9; ((with_reducible refine (lines_no _ za _ HA.out RA.out).mono ?_); rintro e w1 ⟨rfl, rfl⟩)))
      go_ret2
      exact ⟨rfl, rfl⟩
end Go.Proofs.Ytlogmndophcnjaa.Lo
