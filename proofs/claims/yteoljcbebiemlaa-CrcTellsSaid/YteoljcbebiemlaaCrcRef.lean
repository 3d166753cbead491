/- What the document's own sums do, and what is no bit. -/
import Derived.Test.YteoljcbebiemlaaCrcXor
import Derived.Laws.BytesArg
import Derived.WalkKit
import Derived.ProofKit
import Derived.OpenShut
import Derived.Lib.Hide
namespace Go.Proofs.Yteoljcbebiemlaa.Cr
open Go Go.ChangeShapes Go.WideShapes Go.ChangeAt Go.RowKit

theorem wrap_mod {V : Int} : IntKind.u16.wrap (V * 2) = 2 * V % 65536 := by
  simp [IntKind.wrap, IntKind.bits, IntKind.signed]; omega
theorem like64 {V d : Int} (v0 : 0 ≤ V) (v1 : V ≤ 65535) (hd : d = 0 ∨ d = 1) (h : V / 32768 = d) : 2 * V % 65536 = crcI V [d] := by
  rw [← wrap_mod]; exact step_like v0 v1 hd h
theorem un64 {V d : Int} (v0 : 0 ≤ V) (v1 : V ≤ 65535) (hd : d = 0 ∨ d = 1) (h : V / 32768 ≠ d) : bits .xor .i64 (2 * V % 65536) 32773 = crcI V [d] := by
  rw [← step_un v0 v1 hd h, wrap_mod]
  have e : ((BitVec.ofNat 16 (2 * V % 65536).toNat).toNat : Int) = 2 * V % 65536 := by rw [BitVec.toNat_ofNat]; omega
  have e2 := xor_i64 (BitVec.ofNat 16 (2 * V % 65536).toNat) 0x8005#16
  have e3 := xor_of (BitVec.ofNat 16 (2 * V % 65536).toNat)
  rw [e] at e2 e3
  rw [e3]
  exact e2

theorem rstep (V d : Int) (w : World) (v0 : 0 ≤ V) (v1 : V ≤ 65535) (hd : d = 0 ∨ d = 1) :
    Calls Try.prog 42 #[.int .i64 V, .int .i64 d] w fun e w' => e = .returned (.int .i64 (crcI V [d])) ∧ w = w' := by
  by_cases h : V / 32768 = d
  · have hv := Lib.hid (like64 v0 v1 hd h)
    have hb : (V / 32768 != d) = false := by simp [h]
    clear hd h
    go_enter Try.func42, Try.ntmps42
    go_wp2
    go_ret
    exact ⟨by rw [← hv.out]; rfl, rfl⟩
  · have hv := Lib.hid (un64 v0 v1 hd h)
    have hb : (V / 32768 != d) = true := by simp [h]
    clear hd h
    go_enter Try.func42, Try.ntmps42
    go_wp2
    go_ret
    exact ⟨by rw [← hv.out]; rfl, rfl⟩

theorem rsum (S : Int) (v : Value) (zs : List Int) (w : World) (s0 : 0 ≤ S) (s1 : S ≤ 65535) (hbits : Bits zs) (h : Sl w v zs) :
    Calls Try.prog 39 #[.int .i64 S, v] w fun e w' => e = .returned (.int .i64 (crcI S zs)) ∧ w = w' := by
  rcases h with ⟨a, cap, rfl, rfl⟩ | ⟨b, off, cap, rfl, hb, hcap, hm, hc⟩
  · rw [crcI_nil s0 s1]
    go_enter Try.func39, Try.ntmps39
    go_wp2
    go_loop [0, 5] (fun s i => s = .int .i64 S ∧ i = .int .i64 0) (fun _ _ => 0)
    case atStart => exact ⟨rfl, rfl⟩
    case round =>
      obtain ⟨rfl, rfl⟩ := hrel
      go_wp2
      go_ret
      exact ⟨rfl, rfl⟩
  · unfold maxLen at hm
    have HC := Lib.hid hc
    have HB := Lib.hid hbits
    have hnil := Lib.hid (crcI_nil s0 s1)
    clear hc hbits
    go_enter Try.func39, Try.ntmps39
    go_wp2
    go_loop [0, 5] (fun s i => ∃ k : Nat, k ≤ zs.length ∧ s = .int .i64 (crcI S (zs.take k)) ∧ i = .int .i64 k) (fun _ i => zs.length - (intOf i).toNat)
    case atStart => exact ⟨0, by omega, by rw [List.take_zero, hnil.out], rfl⟩
    case round =>
      obtain ⟨k, hk, rfl, rfl⟩ := hrel
      by_cases hlt : k < zs.length
      · have hz := HC.out k hlt
        have hd : zs.getD k 0 = 0 ∨ zs.getD k 0 = 1 := HB.out _ (by simp [hlt])
        have hst : Hid (crcI S (zs.take (k + 1)) = crcI (crcI S (zs.take k)) [zs.getD k 0]) := Lib.hid (by rw [take_snoc hlt, crcI_append])
        have vb := crcI_bd S (zs.take k)
        generalize crcI S (zs.take k) = V at *
        generalize zs.getD k 0 = d at *
        obtain ⟨v0, v1⟩ := vb
        have hd0 : 0 ≤ d := by omega
        have hd1 : d ≤ 1 := by omega
        have HD := Lib.hid hd
        clear hd
        go_wp2_with (go_at_call 42; refine (rstep V d _ v0 v1 HD.out).mono ?_; rintro e w' ⟨rfl, rfl⟩)
        go_round
        case rel => exact ⟨k + 1, by omega, by rw [hst.out], by go_num⟩
        case measure => simp [intOf]; omega
      · have hend : k = zs.length := by omega
        subst hend
        rw [List.take_length]
        go_wp2
        go_ret
        exact ⟨rfl, rfl⟩

theorem rmay_yes (v : Value) (zs : List Int) (w : World) (hbits : Bits zs) (h : Sl w v zs) :
    Calls Try.prog 38 #[v] w fun e w' => e = .returned (.bool true) ∧ w = w' := by
  rcases h with ⟨a, cap, rfl, rfl⟩ | ⟨b, off, cap, rfl, hb, hcap, hm, hc⟩
  · go_enter Try.func38, Try.ntmps38
    go_wp2
    go_loop [3] (fun i => i = .int .i64 0) (fun _ => 0)
    case atStart => exact rfl
    case round =>
      subst hrel
      go_wp2
      go_ret
      exact ⟨rfl, rfl⟩
  · unfold maxLen at hm
    have HC := Lib.hid hc
    have HB := Lib.hid hbits
    clear hc hbits
    go_enter Try.func38, Try.ntmps38
    go_wp2
    go_loop [3] (fun i => ∃ k : Nat, k ≤ zs.length ∧ i = .int .i64 k) (fun i => zs.length - (intOf i).toNat)
    case atStart => exact ⟨0, by omega, rfl⟩
    case round =>
      obtain ⟨k, hk, rfl⟩ := hrel
      by_cases hlt : k < zs.length
      · have hz := HC.out k hlt
        have hd : zs.getD k 0 = 0 ∨ zs.getD k 0 = 1 := HB.out _ (by simp [hlt])
        generalize zs.getD k 0 = d at *
        have hd1 : d ≤ 1 := by omega
        clear hd
        go_wp2
        go_round
        case rel => exact ⟨k + 1, by omega, by go_num⟩
        case measure => simp [intOf]; omega
      · go_wp2
        go_ret
        exact ⟨rfl, rfl⟩

/-- From place k on there is what is no bit. -/
def Bad (zs : List Int) (k : Nat) : Prop := ∃ j, k ≤ j ∧ j < zs.length ∧ 1 < zs.getD j 0
theorem bad_of {zs : List Int} (hz : ∀ z ∈ zs, 0 ≤ z ∧ z ≤ 255) (h : ¬ Bits zs) : Bad zs 0 := by
  refine Classical.byContradiction fun hb => h fun z hz' => ?_
  obtain ⟨j, hj, rfl⟩ := List.getElem_of_mem hz'
  have h0 := hz _ hz'
  refine Classical.byContradiction fun hn => hb ⟨j, by omega, hj, ?_⟩
  simp [hj]
  omega
theorem bad_next {zs : List Int} {k : Nat} (h : Bad zs k) (hk : ¬ 1 < zs.getD k 0) : Bad zs (k + 1) := by
  obtain ⟨j, h1, h2, h3⟩ := h
  refine ⟨j, ?_, h2, h3⟩
  by_cases e : j = k
  · subst e; exact absurd h3 hk
  · omega
theorem bad_lt {zs : List Int} {k : Nat} (h : Bad zs k) : k < zs.length := by obtain ⟨j, h1, h2, _⟩ := h; omega

theorem rmay_no (v : Value) (zs : List Int) (w : World) (hbad : Bad zs 0) (h : Sl w v zs) :
    Calls Try.prog 38 #[v] w fun e w' => e = .returned (.bool false) ∧ w = w' := by
  rcases h with ⟨a, cap, rfl, rfl⟩ | ⟨b, off, cap, rfl, hb, hcap, hm, hc⟩
  · exact absurd (bad_lt hbad) (by simp)
  · unfold maxLen at hm
    have HC := Lib.hid hc
    have HB := Lib.hid hbad
    clear hc hbad
    go_enter Try.func38, Try.ntmps38
    go_wp2
    go_loop [3] (fun i => ∃ k : Nat, Hid (Bad zs k) ∧ i = .int .i64 k) (fun i => zs.length - (intOf i).toNat)
    case atStart => exact ⟨0, HB, rfl⟩
    case round =>
      obtain ⟨k, hB, rfl⟩ := hrel
      have hlt := bad_lt hB.out
      have hz := HC.out k hlt
      have hn := Lib.hid (bad_next hB.out)
      generalize zs.getD k 0 = d at *
      by_cases hd : 1 < d
      · go_wp2
        go_ret
        exact ⟨rfl, rfl⟩
      · go_wp2
        go_round
        case rel => exact ⟨k + 1, Lib.hid (hn.out (by omega)), by go_num⟩
        case measure => simp [intOf]; omega

theorem rover_in (S : Int) (v : Value) (zs : List Int) (w : World) (s0 : 0 ≤ S) (s1 : S ≤ 65535) (hbits : Bits zs) (h : Sl w v zs) :
    Calls Try.prog 28 #[.int .i64 S, v] w fun e w' => e = .returned (.tuple #[.int .i64 (crcI S zs), .int .i64 0]) ∧ w = w' := by
  go_enter Try.func28, Try.ntmps28
  go_wp2_with (first | (go_at_call 38; refine (rmay_yes v zs _ hbits h).mono ?_; rintro e w' ⟨rfl, rfl⟩) | (go_at_call 39; refine (rsum S v zs _ s0 s1 hbits h).mono ?_; rintro e w' ⟨rfl, rfl⟩))
  go_ret2
  exact ⟨rfl, rfl⟩
theorem rover_bad (S : Int) (v : Value) (zs : List Int) (w : World) (s0 : 0 ≤ S) (s1 : S ≤ 65535) (hbad : Bad zs 0) (h : Sl w v zs) :
    Calls Try.prog 28 #[.int .i64 S, v] w fun e w' => e = .returned (.tuple #[.int .i64 0, .int .i64 8]) ∧ w = w' := by
  go_enter Try.func28, Try.ntmps28
  go_wp2_with (go_at_call 38; refine (rmay_no v zs _ hbad h).mono ?_; rintro e w' ⟨rfl, rfl⟩)
  go_ret2
  exact ⟨rfl, rfl⟩
theorem rover_out (S : Int) (v : Value) (w : World) (h : S < 0 ∨ 65535 < S) :
    Calls Try.prog 28 #[.int .i64 S, v] w fun e w' => e = .returned (.tuple #[.int .i64 0, .int .i64 2]) ∧ w = w' := by
  by_cases c : S < 0
  · go_enter Try.func28, Try.ntmps28
    go_wp2
    go_ret2
    exact ⟨rfl, rfl⟩
  · have c2 : 65535 < S := by omega
    go_enter Try.func28, Try.ntmps28
    go_wp2
    go_ret2
    exact ⟨rfl, rfl⟩
theorem over_out (S : Int) (v : Value) (w : World) (h : S < 0 ∨ 65535 < S) :
    Calls Try.prog 24 #[.int .i64 S, v] w fun e w' => e = .returned (.tuple #[.int .i64 0, .int .i64 2]) ∧ w = w' := by
  by_cases c : S < 0
  · go_enter Try.func24, Try.ntmps24
    go_wp2
    go_ret2
    exact ⟨rfl, rfl⟩
  · have c2 : 65535 < S := by omega
    go_enter Try.func24, Try.ntmps24
    go_wp2
    go_ret2
    exact ⟨rfl, rfl⟩
theorem rof_in (v : Value) (zs : List Int) (w : World) (hbits : Bits zs) (h : Sl w v zs) :
    Calls Try.prog 27 #[v] w fun e w' => e = .returned (.tuple #[.int .i64 (sum zs), .int .i64 0]) ∧ w = w' := by
  go_enter Try.func27, Try.ntmps27
  go_wp2_with (go_at_call 28; refine (rover_in 65535 v zs _ (by decide) (by decide) hbits h).mono ?_; rintro e w' ⟨rfl, rfl⟩)
  go_ret2
  exact ⟨rfl, rfl⟩
theorem rof_bad (v : Value) (zs : List Int) (w : World) (hbad : Bad zs 0) (h : Sl w v zs) :
    Calls Try.prog 27 #[v] w fun e w' => e = .returned (.tuple #[.int .i64 0, .int .i64 8]) ∧ w = w' := by
  go_enter Try.func27, Try.ntmps27
  go_wp2_with (go_at_call 28; refine (rover_bad 65535 v zs _ (by decide) (by decide) hbad h).mono ?_; rintro e w' ⟨rfl, rfl⟩)
  go_ret2
  exact ⟨rfl, rfl⟩
end Go.Proofs.Yteoljcbebiemlaa.Cr
