/- What the document's own answer does for lost frames, and the comparison of two lists. -/
import Derived.Test.YtnbbjobmaakogaaLoNew
import Derived.Test.YtnbbjobmaakogaaLoSeq
import Derived.WalkKit
import Derived.RegionTactic
import Derived.Deep.QuietTactic
import Derived.BigQuiet
import Derived.ChangeAlike
import Derived.Deep.OwnRows
import Derived.ProofKit
import Derived.OpenShut
import Derived.Lib.Hide
namespace Go.Proofs.Ytnbbjobmaakogaa.Lo
open Go Go.ChangeShapes Go.WideShapes Go.ChangeAt Go.RowKit

theorem drewN_below (w : World) : ∀ n, Below w.heap.size w (w.drewN n)
  | 0 => Below.refl _ _
  | n + 1 => (drewN_below w n).drew

set_option maxRecDepth 100000 in
/-- Two lists that are the same. -/
theorem same_yes (v v' : Value) (zs : List Int) (w : World) (hl : zs.length ≤ 1000) (h : Rd w v zs) (h' : Rd w v' zs) :
    Calls Try.prog 26 #[v, v'] w fun e w' => e = .returned (.bool true) ∧ Below w.heap.size w w' := by
  rcases h with ⟨a, cap, rfl, rfl⟩ | ⟨b, off, cap, rfl, hb, hcap, hm, hc⟩
  · obtain ⟨a', c', rfl⟩ := h'.shape
    go_enter Try.func26, Try.ntmps26
    go_wp2
    go_loop [5] (fun i => i = .int .i64 0) (fun _ => 0)
    case atStart => exact rfl
    case round =>
      subst hrel
      go_wp2
      go_ret
      exact ⟨rfl, Below.refl _ _⟩
  · rcases h' with ⟨a', c', rfl, rfl⟩ | ⟨b', off', cap', rfl, hb', hcap', hm', hc'⟩
    · go_enter Try.func26, Try.ntmps26
      go_wp2
      go_loop [5] (fun i => i = .int .i64 0) (fun _ => 0)
      case atStart => exact rfl
      case round =>
        subst hrel
        go_wp2
        go_ret
        exact ⟨rfl, Below.refl _ _⟩
    · unfold maxLen at hm hm'
      have HC := Lib.hid hc
      have HC' := Lib.hid hc'
      clear hc hc'
      go_enter Try.func26, Try.ntmps26
      go_wp2
      go_loopw [5] (fun i wr => ∃ k : Nat, k ≤ zs.length ∧ i = .int .i64 k ∧ Below w.heap.size w wr) (fun i _ => zs.length - (intOf i).toNat)
      case atStart => exact ⟨0, by omega, rfl, Below.refl _ _⟩
      case round =>
        obtain ⟨k, hk, rfl, hbel⟩ := hrel
        by_cases hlt : k < zs.length
        · have q1 := (hbel.cell (p := ⟨b, off + k, none⟩) hb).trans (HC.out k hlt)
          have q2 := (hbel.cell (p := ⟨b', off' + k, none⟩) hb').trans (HC'.out k hlt)
          generalize zs.getD k 0 = x at *
          go_wp2
          go_quiet (fail)
          go_wp2
          go_roundw
          case rel => exact ⟨k + 1, by omega, by go_num, hbel.trans ((drewN_below wr nq).mono hbel.size)⟩
          case measure => simp [intOf]; omega
        · go_wp2
          go_ret
          exact ⟨rfl, hbel⟩

/-- What a sequence is followed by, and its error. -/
def seqA (s : Int) : Int := if s = 1 ∨ s = 2 then 3 else 0
def seqE (s : Int) : Int := if 3 < s then 2 else 0
theorem seq_any (s : Int) (w : World) (s0 : 0 ≤ s) : Calls Try.prog 29 #[.int .u8 s] w fun e w' => e = .returned (.tuple #[.int .u8 (seqA s), .int .i64 (seqE s)]) ∧ w = w' := by
  by_cases h0 : s = 0
  · subst h0; exact seq0 w
  by_cases h1 : s = 1
  · subst h1; exact seq1 w
  by_cases h2 : s = 2
  · subst h2; exact seq2 w
  by_cases h3 : s = 3
  · subst h3; exact seq3 w
  rw [show seqA s = 0 by unfold seqA; rw [if_neg (by omega)], show seqE s = 2 by unfold seqE; rw [if_pos (by omega)]]
  exact seqX s w (by omega)
theorem after_yes (s : Int) (w : World) (h : s = 0 ∨ s = 3) : Calls Try.prog 49 #[.int .u8 s] w fun e w' => e = .returned (.int .u8 0) ∧ w = w' := by
  rcases h with rfl | rfl <;>
  · go_enter Try.func49, Try.ntmps49
    go_wp2
    go_ret
    exact ⟨rfl, rfl⟩
theorem after_no (s : Int) (w : World) (h : s = 1 ∨ s = 2) : Calls Try.prog 49 #[.int .u8 s] w fun e w' => e = .returned (.int .u8 3) ∧ w = w' := by
  rcases h with rfl | rfl <;>
  · go_enter Try.func49, Try.ntmps49
    go_wp2
    go_ret
    exact ⟨rfl, rfl⟩
theorem rseq_any (s : Int) (w : World) (s0 : 0 ≤ s) : Calls Try.prog 33 #[.int .u8 s] w fun e w' => e = .returned (.tuple #[.int .u8 (seqA s), .int .i64 (seqE s)]) ∧ w = w' := by
  by_cases h3 : 3 < s
  · rw [show seqA s = 0 by unfold seqA; rw [if_neg (by omega)], show seqE s = 2 by unfold seqE; rw [if_pos (by omega)]]
    go_enter Try.func33, Try.ntmps33
    go_wp2
    go_ret2
    exact ⟨rfl, rfl⟩
  · rw [show seqE s = 0 by unfold seqE; rw [if_neg (by omega)]]
    have d3 : s ≤ 3 := by omega
    by_cases h1 : s = 1 ∨ s = 2
    · rw [show seqA s = 3 by unfold seqA; rw [if_pos h1]]
      have H1 := Lib.hid h1
      clear h1
      go_enter Try.func33, Try.ntmps33
      go_wp2_with (go_at_call 49; ((with_reducible refine (after_no s _ H1.out).mono ?_); rintro e w1 ⟨rfl, rfl⟩))
      go_ret2
      exact ⟨rfl, rfl⟩
    · have h2 : s = 0 ∨ s = 3 := by omega
      rw [show seqA s = 0 by unfold seqA; rw [if_neg h1]]
      have H1 := Lib.hid h2
      clear h1 h2
      go_enter Try.func33, Try.ntmps33
      go_wp2_with (go_at_call 49; ((with_reducible refine (after_yes s _ H1.out).mono ?_); rintro e w1 ⟨rfl, rfl⟩))
      go_ret2
      exact ⟨rfl, rfl⟩

theorem in_yes (v : Value) (zs : List Int) (w : World) (hall : InLine zs) (h : Rd w v zs) :
    Calls Try.prog 50 #[v] w fun e w' => e = .returned (.bool true) ∧ w = w' := by
  rcases h with ⟨a, cap, rfl, rfl⟩ | ⟨b, off, cap, rfl, hb, hcap, hm, hc⟩
  · go_enter Try.func50, Try.ntmps50
    go_wp2
    go_loop [3] (fun i => i = .int .i64 0) (fun _ => 0)
    case atStart => exact rfl
    case round =>
      subst hrel
      go_wp2
      go_ret
      exact ⟨rfl, rfl⟩
  · unfold maxLen at hm
    have HC := Lib.hid hc
    have HA := Lib.hid hall
    clear hc hall
    go_enter Try.func50, Try.ntmps50
    go_wp2
    go_loop [3] (fun i => ∃ k : Nat, k ≤ zs.length ∧ i = .int .i64 k) (fun i => zs.length - (intOf i).toNat)
    case atStart => exact ⟨0, by omega, rfl⟩
    case round =>
      obtain ⟨k, hk, rfl⟩ := hrel
      by_cases hlt : k < zs.length
      · have hz := HC.out k hlt
        have hd := HA.out (zs.getD k 0) (by simp [hlt])
        generalize zs.getD k 0 = d at *
        obtain ⟨d0, d1⟩ := hd
        go_wp2
        go_round
        case rel => exact ⟨k + 1, by omega, by go_num⟩
        case measure => simp [intOf]; omega
      · go_wp2
        go_ret
        exact ⟨rfl, rfl⟩
theorem in_no (v : Value) (zs : List Int) (w : World) (hbad : Bad zs 0) (h : Rd w v zs) :
    Calls Try.prog 50 #[v] w fun e w' => e = .returned (.bool false) ∧ w = w' := by
  rcases h with ⟨a, cap, rfl, rfl⟩ | ⟨b, off, cap, rfl, hb, hcap, hm, hc⟩
  · exact absurd (bad_lt hbad) (by simp)
  · unfold maxLen at hm
    have HC := Lib.hid hc
    have HB := Lib.hid hbad
    clear hc hbad
    go_enter Try.func50, Try.ntmps50
    go_wp2
    go_loop [3] (fun i => ∃ k : Nat, Hid (Bad zs k) ∧ i = .int .i64 k) (fun i => zs.length - (intOf i).toNat)
    case atStart => exact ⟨0, HB, rfl⟩
    case round =>
      obtain ⟨k, hB, rfl⟩ := hrel
      have hlt := bad_lt hB.out
      have hz := HC.out k hlt
      have hn := Lib.hid (bad_next hB.out)
      generalize zs.getD k 0 = d at *
      by_cases d1 : d < -268435455
      · go_wp2
        go_ret
        exact ⟨rfl, rfl⟩
      by_cases d2 : 268435455 < d
      · go_wp2
        go_ret
        exact ⟨rfl, rfl⟩
      · go_wp2
        go_round
        case rel => exact ⟨k + 1, Lib.hid (hn.out (by omega)), by go_num⟩
        case measure => simp [intOf]; omega

theorem down_ok (a b : Int) (w : World) (a0 : -1073741824 ≤ a) (a1 : a ≤ 1073741824) (b0 : 1 ≤ b) (b1 : b ≤ 256) :
    Calls Try.prog 61 #[.int .i64 a, .int .i64 b] w fun e w' => e = .returned (.int .i64 (a / b)) ∧ w = w' := by
  have hF := Lib.hid (tdiv_floor (s := a) (W := b) (by omega))
  obtain ⟨q, hq⟩ : ∃ q, Int.tdiv a b = q := ⟨_, rfl⟩
  have h1 := Int.ediv_mul_le a (show b ≠ 0 by omega)
  have h2 := Int.lt_ediv_add_one_mul_self a (show (0 : Int) < b by omega)
  rw [Int.add_mul] at h2
  have hqb : (-1073741826 ≤ q ∧ q ≤ 1073741826) ∧ -1073742082 ≤ q * b ∧ q * b ≤ 1073742082 := by
    have h3 := hF.out
    rw [hq] at h3
    have hk : q = a / b ∨ q = a / b + 1 := by split at h3 <;> omega
    have hm : q * b = a / b * b ∨ q * b = a / b * b + b := by
      rcases hk with rfl | rfl
      · exact .inl rfl
      · exact .inr (by rw [Int.add_mul, Int.one_mul])
    have h5 : -1073741825 ≤ a / b := by rw [Int.le_ediv_iff_mul_le (by omega)]; omega
    have h6 : a / b ≤ 1073741825 := Int.ediv_le_of_le_mul (by omega) (by omega)
    generalize a / b * b = t at *
    generalize q * b = u at *
    omega
  have hF' := hF.out
  rw [hq] at hF'
  have HF := Lib.hid hF'
  obtain ⟨⟨q0, q1⟩, q2, q3⟩ := hqb
  clear hF hF' h1 h2
  by_cases hc : a < q * b
  · go_enter Try.func61, Try.ntmps61
    go_wp2
    go_ret
    exact ⟨retI (by rw [← HF.out, if_pos hc]), rfl⟩
  · go_enter Try.func61, Try.ntmps61
    go_wp2
    go_ret
    exact ⟨retI (by rw [← HF.out, if_neg (Int.not_lt.2 hc)]), rfl⟩
end Go.Proofs.Ytnbbjobmaakogaa.Lo
