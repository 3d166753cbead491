/- The transform and its inverse, the program's and the document's own, for every list. -/
import Derived.Test.YtbgbjbhgelllbaaMdRef
import Derived.WalkKit
import Derived.Below
import Derived.RegionTactic
import Derived.Deep.QuietTactic
import Derived.BigQuiet
import Derived.ChangeAlike
import Derived.Deep.OwnRows
import Derived.ProofKit
import Derived.OpenShut
import Derived.ChangeSlices
import Derived.Great.Walk
import Derived.ChangeKeysEq
import Derived.Laws.AppendOwn
import Derived.Laws.AppendOwnNone
import Derived.Laws.OwnMore
import Derived.OwnWalk
import Derived.Lib.Hide
import Derived.ChangeOld
namespace Go.Proofs.Ytbgbjbhgelllbaa.Md
open Go Go.ChangeShapes Go.WideShapes Go.ChangeAt Go.RowKit Go.Proofs.Ytbgbjbhgelllbaa.Fx Go.Proofs.Ytbgbjbhgelllbaa.Mm

theorem rin_yes (A : Option Addr) (cap : Nat) (zs : List Int) (M : Int) (w : World) (hl : zs.length ≤ 1000) (h : RdA w A zs) (hM : InM M zs) (m0 : 0 ≤ M) (m1 : M ≤ 268435455) : Calls Try.prog 21 #[.slice A zs.length cap, .int .i64 M] w fun e w' => e = .returned (.bool true) ∧ w = w' := by
  have HR := Lib.hid h
  have HM := Lib.hid hM
  clear h hM
  go_enter Try.func21, Try.ntmps21
  go_wp2
  go_loop [5] (fun i => ∃ k : Nat, k ≤ zs.length ∧ i = .int .i64 k) (fun i => zs.length - (intOf i).toNat)
  case atStart => exact ⟨0, by omega, rfl⟩
  case round =>
    obtain ⟨k, hk, rfl⟩ := hrel
    by_cases hlt : k < zs.length
    · obtain ⟨b, off, rfl, hlb, c⟩ := HR.out k hlt
      obtain ⟨x0, x1⟩ := HM.out k hlt
      generalize zs.getD k 0 = X at *
      go_wp2
      go_round
      case rel => exact ⟨k + 1, by omega, by go_num⟩
      case measure => simp [intOf]; omega
    · have hlt2 : ¬ (k : Int) < zs.length := by omega
      go_wp2
      go_ret
      exact ⟨rfl, rfl⟩
theorem rin_no (A : Option Addr) (cap : Nat) (zs : List Int) (M : Int) (w : World) (hl : zs.length ≤ 1000) (h : RdA w A zs) (hM : ¬ InM M zs) (m0 : 0 ≤ M) (m1 : M ≤ 268435455) : Calls Try.prog 21 #[.slice A zs.length cap, .int .i64 M] w fun e w' => e = .returned (.bool false) ∧ w = w' := by
  have HR := Lib.hid h
  obtain ⟨j, hj, hbad, hok⟩ := not_inM hM
  have HM := Lib.hid hok
  have HB := Lib.hid hbad
  clear h hM hok hbad
  go_enter Try.func21, Try.ntmps21
  go_wp2
  go_loop [5] (fun i => ∃ k : Nat, k ≤ j ∧ i = .int .i64 k) (fun i => zs.length - (intOf i).toNat)
  case atStart => exact ⟨0, by omega, rfl⟩
  case round =>
    obtain ⟨k, hk, rfl⟩ := hrel
    obtain ⟨b, off, rfl, hlb, c⟩ := HR.out k (by omega)
    have hlt : k < zs.length := by omega
    by_cases hkj : k < j
    · obtain ⟨x0, x1⟩ := HM.out k hkj
      generalize zs.getD k 0 = X at *
      go_wp2
      go_round
      case rel => exact ⟨k + 1, by omega, by go_num⟩
      case measure => simp [intOf]; omega
    · have hkj2 : k = j := by omega
      subst hkj2
      have hb := HB.out
      clear HB
      generalize zs.getD k 0 = X at *
      by_cases c1 : X < -M
      · clear hb
        go_wp2
        go_ret
        exact ⟨rfl, rfl⟩
      · have c2 : M < X := by omega
        clear hb
        go_wp2
        go_ret
        exact ⟨rfl, rfl⟩
theorem own_of_row {base : Nat} {w : World} {g n : Nat} {f : Nat → Int} (r : w.rowIs g 3 n (fun j => .int .i64 (f j))) (hb : base ≤ g) (hm : n ≤ maxLen) : Own base w (.slice (some ⟨g, 0, none⟩) n n) (mk n f) := by
  obtain ⟨c, hc, hs, hf⟩ := r
  refine ⟨by simp [mk_len], .inr ⟨g, n, c, by rw [mk_len], hb, hc, by rw [mk_len]; exact Nat.le_refl _, hm, by omega, ?_⟩⟩
  rw [mk_len]
  refine List.ext_getElem? fun i => ?_
  by_cases h : i < n
  · rw [List.getElem?_take_of_lt (by omega), Array.getElem?_toList, hf i h]
    simp [mk, h]
  · rw [List.getElem?_eq_none (by simp; omega), List.getElem?_eq_none (by simp [mk_len]; omega)]
/-- What is answered to a list. -/
def FO (zs L : List Int) (c : Int) : Prop :=
  (zs.length = 512 ∧ InM 8388608 zs ∧ L = mk 256 (fw zs 256 1) ∧ c = 0) ∨ (zs.length = 64 ∧ InM 8388608 zs ∧ L = mk 32 (fw zs 32 8) ∧ c = 0) ∨
  (zs.length ≠ 512 ∧ zs.length ≠ 64 ∧ L = [] ∧ c = 4) ∨ (zs.length = 512 ∧ ¬ InM 8388608 zs ∧ L = [] ∧ c = 2) ∨ (zs.length = 64 ∧ ¬ InM 8388608 zs ∧ L = [] ∧ c = 2)
def IO (zs L : List Int) (c : Int) : Prop :=
  (zs.length = 256 ∧ InM 268435455 zs ∧ L = mk 512 (bk zs 256 1 26) ∧ c = 0) ∨ (zs.length = 32 ∧ InM 268435455 zs ∧ L = mk 64 (bk zs 32 8 23) ∧ c = 0) ∨
  (zs.length ≠ 256 ∧ zs.length ≠ 32 ∧ L = [] ∧ c = 4) ∨ (zs.length = 256 ∧ ¬ InM 268435455 zs ∧ L = [] ∧ c = 2) ∨ (zs.length = 32 ∧ ¬ InM 268435455 zs ∧ L = [] ∧ c = 2)
theorem FO_is (zs : List Int) : ∃ L c, FO zs L c := by
  by_cases h1 : zs.length = 512
  · by_cases h2 : InM 8388608 zs
    · exact ⟨_, _, .inl ⟨h1, h2, rfl, rfl⟩⟩
    · exact ⟨_, _, .inr (.inr (.inr (.inl ⟨h1, h2, rfl, rfl⟩)))⟩
  · by_cases h3 : zs.length = 64
    · by_cases h2 : InM 8388608 zs
      · exact ⟨_, _, .inr (.inl ⟨h3, h2, rfl, rfl⟩)⟩
      · exact ⟨_, _, .inr (.inr (.inr (.inr ⟨h3, h2, rfl, rfl⟩)))⟩
    · exact ⟨_, _, .inr (.inr (.inl ⟨h1, h3, rfl, rfl⟩))⟩
theorem IO_is (zs : List Int) : ∃ L c, IO zs L c := by
  by_cases h1 : zs.length = 256
  · by_cases h2 : InM 268435455 zs
    · exact ⟨_, _, .inl ⟨h1, h2, rfl, rfl⟩⟩
    · exact ⟨_, _, .inr (.inr (.inr (.inl ⟨h1, h2, rfl, rfl⟩)))⟩
  · by_cases h3 : zs.length = 32
    · by_cases h2 : InM 268435455 zs
      · exact ⟨_, _, .inr (.inl ⟨h3, h2, rfl, rfl⟩)⟩
      · exact ⟨_, _, .inr (.inr (.inr (.inr ⟨h3, h2, rfl, rfl⟩)))⟩
    · exact ⟨_, _, .inr (.inr (.inl ⟨h1, h3, rfl, rfl⟩))⟩
theorem row_any {w w' : World} {g n : Nat} {f : Nat → Int} {v : Value} (hv : v = .slice (some ⟨g, 0, none⟩) n n) (hg : w.heap.size ≤ g) (r : w'.rowIs g 3 n (fun j => .int .i64 (f j))) (hm : n ≤ 1000) : Own w.heap.size w' v (mk n f) := by
  subst hv; exact own_of_row r hg (by unfold maxLen; omega)
set_option maxRecDepth 100000 in
theorem fwdO {zs L : List Int} {c : Int} (h : FO zs L c) (A : Option Addr) (cap : Nat) (w : World) (r : RdA w A zs) : Calls Try.prog 9 #[.slice A zs.length cap] w fun e w' => ∃ v, e = .returned (.tuple #[v, .int .i64 c]) ∧ Own w.heap.size w' v L ∧ Below w.heap.size w w' := by
  rcases h with ⟨h1, h2, rfl, rfl⟩ | ⟨h1, h2, rfl, rfl⟩ | ⟨h1, h2, rfl, rfl⟩ | ⟨h1, h2, rfl, rfl⟩ | ⟨h1, h2, rfl, rfl⟩
  · rw [h1]
    exact (fwd256 A cap zs w h1 r h2).mono fun e w' ⟨g, he, hg, hr, hb⟩ => ⟨_, he, row_any rfl hg hr (by decide), hb⟩
  · rw [h1]
    exact (fwd32 A cap zs w h1 r h2).mono fun e w' ⟨g, he, hg, hr, hb⟩ => ⟨_, he, row_any rfl hg hr (by decide), hb⟩
  · exact (fwd_many A cap zs.length w h1 h2).mono fun e w' ⟨he, hw⟩ => ⟨_, he, own_nil _ _, by subst hw; exact Below.refl _ _⟩
  · rw [h1]
    exact (fwd_arg512 A cap zs w h1 r h2).mono fun e w' ⟨he, hw⟩ => ⟨_, he, own_nil _ _, by subst hw; exact Below.refl _ _⟩
  · rw [h1]
    exact (fwd_arg64 A cap zs w h1 r h2).mono fun e w' ⟨he, hw⟩ => ⟨_, he, own_nil _ _, by subst hw; exact Below.refl _ _⟩
set_option maxRecDepth 100000 in
theorem invO {zs L : List Int} {c : Int} (h : IO zs L c) (A : Option Addr) (cap : Nat) (w : World) (r : RdA w A zs) : Calls Try.prog 10 #[.slice A zs.length cap] w fun e w' => ∃ v, e = .returned (.tuple #[v, .int .i64 c]) ∧ Own w.heap.size w' v L ∧ Below w.heap.size w w' := by
  rcases h with ⟨h1, h2, rfl, rfl⟩ | ⟨h1, h2, rfl, rfl⟩ | ⟨h1, h2, rfl, rfl⟩ | ⟨h1, h2, rfl, rfl⟩ | ⟨h1, h2, rfl, rfl⟩
  · rw [h1]
    exact (inv256 A cap zs w h1 r h2).mono fun e w' ⟨g, he, hg, hr, hb⟩ => ⟨_, he, row_any rfl hg hr (by decide), hb⟩
  · rw [h1]
    exact (inv32 A cap zs w h1 r h2).mono fun e w' ⟨g, he, hg, hr, hb⟩ => ⟨_, he, row_any rfl hg hr (by decide), hb⟩
  · exact (inv_many A cap zs.length w h1 h2).mono fun e w' ⟨he, hw⟩ => ⟨_, he, own_nil _ _, by subst hw; exact Below.refl _ _⟩
  · rw [h1]
    exact (inv_arg256 A cap zs w h1 r h2).mono fun e w' ⟨he, hw⟩ => ⟨_, he, own_nil _ _, by subst hw; exact Below.refl _ _⟩
  · rw [h1]
    exact (inv_arg32 A cap zs w h1 r h2).mono fun e w' ⟨he, hw⟩ => ⟨_, he, own_nil _ _, by subst hw; exact Below.refl _ _⟩
set_option maxRecDepth 100000 in
theorem rfwdO_512 (A : Option Addr) (cap : Nat) (zs : List Int) (w : World) (hl : zs.length = 512) (h : RdA w A zs) (hM : InM 8388608 zs) : Calls Try.prog 13 #[.slice A 512 cap] w fun e w' => ∃ v, e = .returned (.tuple #[v, .int .i64 0]) ∧ Own w.heap.size w' v (mk 256 (fw zs 256 1)) ∧ Below w.heap.size w w' := by
  have HW := Lib.hid (hl ▸ rin_yes A cap zs 8388608 w (by omega) h hM (by decide) (by decide))
  have HF := Lib.hid (lines512 A cap zs w hl h hM)
  clear h hM hl
  generalize mk 256 (fw zs 256 1) = L at *
  go_enter Try.func13, Try.ntmps13
  go_wp2_with first
    | (go_at_call 21; ((with_reducible refine (HW.out).mono ?_); rintro e w1 ⟨rfl, rfl⟩))
    | (go_at_call 22; ((with_reducible refine (HF.out).mono ?_); rintro e w2 ⟨v, rfl, ho, hb⟩; have hoh := Lib.hid ho; have hbh := Lib.hid hb; clear ho hb))
  go_ret2
  exact ⟨v, rfl, hoh.out, hbh.out⟩
set_option maxRecDepth 100000 in
theorem rfwdO_arg512 (A : Option Addr) (cap : Nat) (zs : List Int) (w : World) (hl : zs.length = 512) (h : RdA w A zs) (hM : ¬ InM 8388608 zs) : Calls Try.prog 13 #[.slice A 512 cap] w fun e w' => e = .returned (.tuple #[.slice none 0 0, .int .i64 2]) ∧ w = w' := by
  have HW := Lib.hid (hl ▸ rin_no A cap zs 8388608 w (by omega) h hM (by decide) (by decide))
  clear h hM hl
  go_enter Try.func13, Try.ntmps13
  go_wp2_with (go_at_call 21; ((with_reducible refine (HW.out).mono ?_); rintro e w1 ⟨rfl, rfl⟩))
  go_ret2
  exact ⟨rfl, rfl⟩
set_option maxRecDepth 100000 in
theorem rfwdO_64 (A : Option Addr) (cap : Nat) (zs : List Int) (w : World) (hl : zs.length = 64) (h : RdA w A zs) (hM : InM 8388608 zs) : Calls Try.prog 13 #[.slice A 64 cap] w fun e w' => ∃ v, e = .returned (.tuple #[v, .int .i64 0]) ∧ Own w.heap.size w' v (mk 32 (fw zs 32 8)) ∧ Below w.heap.size w w' := by
  have HW := Lib.hid (hl ▸ rin_yes A cap zs 8388608 w (by omega) h hM (by decide) (by decide))
  have HF := Lib.hid (lines64 A cap zs w hl h hM)
  clear h hM hl
  generalize mk 32 (fw zs 32 8) = L at *
  go_enter Try.func13, Try.ntmps13
  go_wp2_with first
    | (go_at_call 21; ((with_reducible refine (HW.out).mono ?_); rintro e w1 ⟨rfl, rfl⟩))
    | (go_at_call 22; ((with_reducible refine (HF.out).mono ?_); rintro e w2 ⟨v, rfl, ho, hb⟩; have hoh := Lib.hid ho; have hbh := Lib.hid hb; clear ho hb))
  go_ret2
  exact ⟨v, rfl, hoh.out, hbh.out⟩
set_option maxRecDepth 100000 in
theorem rfwdO_arg64 (A : Option Addr) (cap : Nat) (zs : List Int) (w : World) (hl : zs.length = 64) (h : RdA w A zs) (hM : ¬ InM 8388608 zs) : Calls Try.prog 13 #[.slice A 64 cap] w fun e w' => e = .returned (.tuple #[.slice none 0 0, .int .i64 2]) ∧ w = w' := by
  have HW := Lib.hid (hl ▸ rin_no A cap zs 8388608 w (by omega) h hM (by decide) (by decide))
  clear h hM hl
  go_enter Try.func13, Try.ntmps13
  go_wp2_with (go_at_call 21; ((with_reducible refine (HW.out).mono ?_); rintro e w1 ⟨rfl, rfl⟩))
  go_ret2
  exact ⟨rfl, rfl⟩
set_option maxRecDepth 100000 in
theorem rfwdO_many (A : Option Addr) (cap len : Nat) (w : World) (h1 : len ≠ 512) (h2 : len ≠ 64) : Calls Try.prog 13 #[.slice A len cap] w fun e w' => e = .returned (.tuple #[.slice none 0 0, .int .i64 4]) ∧ w = w' := by
  have c1 : ((len : Int) != 512) = true := by simp; omega
  have c2 : ((len : Int) != 64) = true := by simp; omega
  go_enter Try.func13, Try.ntmps13
  go_wp2
  go_ret2
  exact ⟨rfl, rfl⟩
set_option maxRecDepth 100000 in
theorem rfwdO {zs L : List Int} {c : Int} (h : FO zs L c) (A : Option Addr) (cap : Nat) (w : World) (r : RdA w A zs) : Calls Try.prog 13 #[.slice A zs.length cap] w fun e w' => ∃ v, e = .returned (.tuple #[v, .int .i64 c]) ∧ Own w.heap.size w' v L ∧ Below w.heap.size w w' := by
  rcases h with ⟨h1, h2, rfl, rfl⟩ | ⟨h1, h2, rfl, rfl⟩ | ⟨h1, h2, rfl, rfl⟩ | ⟨h1, h2, rfl, rfl⟩ | ⟨h1, h2, rfl, rfl⟩
  · rw [h1]; exact rfwdO_512 A cap zs w h1 r h2
  · rw [h1]; exact rfwdO_64 A cap zs w h1 r h2
  · exact (rfwdO_many A cap zs.length w h1 h2).mono fun e w' ⟨he, hw⟩ => ⟨_, he, own_nil _ _, by subst hw; exact Below.refl _ _⟩
  · rw [h1]
    exact (rfwdO_arg512 A cap zs w h1 r h2).mono fun e w' ⟨he, hw⟩ => ⟨_, he, own_nil _ _, by subst hw; exact Below.refl _ _⟩
  · rw [h1]
    exact (rfwdO_arg64 A cap zs w h1 r h2).mono fun e w' ⟨he, hw⟩ => ⟨_, he, own_nil _ _, by subst hw; exact Below.refl _ _⟩
set_option maxRecDepth 100000 in
theorem rinvO_256 (A : Option Addr) (cap : Nat) (zs : List Int) (w : World) (hl : zs.length = 256) (h : RdA w A zs) (hM : InM 268435455 zs) : Calls Try.prog 14 #[.slice A 256 cap] w fun e w' => ∃ v, e = .returned (.tuple #[v, .int .i64 0]) ∧ Own w.heap.size w' v (mk 512 (bk zs 256 1 26)) ∧ Below w.heap.size w w' := by
  have HW := Lib.hid (hl ▸ rin_yes A cap zs 268435455 w (by omega) h hM (by decide) (by decide))
  have HF := Lib.hid (back256 A cap zs w hl h hM)
  clear h hM hl
  generalize mk 512 (bk zs 256 1 26) = L at *
  go_enter Try.func14, Try.ntmps14
  go_wp2_with first
    | (go_at_call 21; ((with_reducible refine (HW.out).mono ?_); rintro e w1 ⟨rfl, rfl⟩))
    | (go_at_call 23; ((with_reducible refine (HF.out).mono ?_); rintro e w2 ⟨v, rfl, ho, hb⟩; have hoh := Lib.hid ho; have hbh := Lib.hid hb; clear ho hb))
  go_ret2
  exact ⟨v, rfl, hoh.out, hbh.out⟩
set_option maxRecDepth 100000 in
theorem rinvO_arg256 (A : Option Addr) (cap : Nat) (zs : List Int) (w : World) (hl : zs.length = 256) (h : RdA w A zs) (hM : ¬ InM 268435455 zs) : Calls Try.prog 14 #[.slice A 256 cap] w fun e w' => e = .returned (.tuple #[.slice none 0 0, .int .i64 2]) ∧ w = w' := by
  have HW := Lib.hid (hl ▸ rin_no A cap zs 268435455 w (by omega) h hM (by decide) (by decide))
  clear h hM hl
  go_enter Try.func14, Try.ntmps14
  go_wp2_with (go_at_call 21; ((with_reducible refine (HW.out).mono ?_); rintro e w1 ⟨rfl, rfl⟩))
  go_ret2
  exact ⟨rfl, rfl⟩
set_option maxRecDepth 100000 in
theorem rinvO_32 (A : Option Addr) (cap : Nat) (zs : List Int) (w : World) (hl : zs.length = 32) (h : RdA w A zs) (hM : InM 268435455 zs) : Calls Try.prog 14 #[.slice A 32 cap] w fun e w' => ∃ v, e = .returned (.tuple #[v, .int .i64 0]) ∧ Own w.heap.size w' v (mk 64 (bk zs 32 8 23)) ∧ Below w.heap.size w w' := by
  have HW := Lib.hid (hl ▸ rin_yes A cap zs 268435455 w (by omega) h hM (by decide) (by decide))
  have HF := Lib.hid (back32 A cap zs w hl h hM)
  clear h hM hl
  generalize mk 64 (bk zs 32 8 23) = L at *
  go_enter Try.func14, Try.ntmps14
  go_wp2_with first
    | (go_at_call 21; ((with_reducible refine (HW.out).mono ?_); rintro e w1 ⟨rfl, rfl⟩))
    | (go_at_call 23; ((with_reducible refine (HF.out).mono ?_); rintro e w2 ⟨v, rfl, ho, hb⟩; have hoh := Lib.hid ho; have hbh := Lib.hid hb; clear ho hb))
  go_ret2
  exact ⟨v, rfl, hoh.out, hbh.out⟩
set_option maxRecDepth 100000 in
theorem rinvO_arg32 (A : Option Addr) (cap : Nat) (zs : List Int) (w : World) (hl : zs.length = 32) (h : RdA w A zs) (hM : ¬ InM 268435455 zs) : Calls Try.prog 14 #[.slice A 32 cap] w fun e w' => e = .returned (.tuple #[.slice none 0 0, .int .i64 2]) ∧ w = w' := by
  have HW := Lib.hid (hl ▸ rin_no A cap zs 268435455 w (by omega) h hM (by decide) (by decide))
  clear h hM hl
  go_enter Try.func14, Try.ntmps14
  go_wp2_with (go_at_call 21; ((with_reducible refine (HW.out).mono ?_); rintro e w1 ⟨rfl, rfl⟩))
  go_ret2
  exact ⟨rfl, rfl⟩
set_option maxRecDepth 100000 in
theorem rinvO_many (A : Option Addr) (cap len : Nat) (w : World) (h1 : len ≠ 256) (h2 : len ≠ 32) : Calls Try.prog 14 #[.slice A len cap] w fun e w' => e = .returned (.tuple #[.slice none 0 0, .int .i64 4]) ∧ w = w' := by
  have c1 : ((len : Int) != 256) = true := by simp; omega
  have c2 : ((len : Int) != 32) = true := by simp; omega
  go_enter Try.func14, Try.ntmps14
  go_wp2
  go_ret2
  exact ⟨rfl, rfl⟩
set_option maxRecDepth 100000 in
theorem rinvO {zs L : List Int} {c : Int} (h : IO zs L c) (A : Option Addr) (cap : Nat) (w : World) (r : RdA w A zs) : Calls Try.prog 14 #[.slice A zs.length cap] w fun e w' => ∃ v, e = .returned (.tuple #[v, .int .i64 c]) ∧ Own w.heap.size w' v L ∧ Below w.heap.size w w' := by
  rcases h with ⟨h1, h2, rfl, rfl⟩ | ⟨h1, h2, rfl, rfl⟩ | ⟨h1, h2, rfl, rfl⟩ | ⟨h1, h2, rfl, rfl⟩ | ⟨h1, h2, rfl, rfl⟩
  · rw [h1]; exact rinvO_256 A cap zs w h1 r h2
  · rw [h1]; exact rinvO_32 A cap zs w h1 r h2
  · exact (rinvO_many A cap zs.length w h1 h2).mono fun e w' ⟨he, hw⟩ => ⟨_, he, own_nil _ _, by subst hw; exact Below.refl _ _⟩
  · rw [h1]
    exact (rinvO_arg256 A cap zs w h1 r h2).mono fun e w' ⟨he, hw⟩ => ⟨_, he, own_nil _ _, by subst hw; exact Below.refl _ _⟩
  · rw [h1]
    exact (rinvO_arg32 A cap zs w h1 r h2).mono fun e w' ⟨he, hw⟩ => ⟨_, he, own_nil _ _, by subst hw; exact Below.refl _ _⟩
end Go.Proofs.Ytbgbjbhgelllbaa.Md
