/- It is told as is said whether samples begin loud, and which sequence is next, whatever the samples, the sequence ahead, and what is told of now and next. No condition. -/
import Derived.Test.YtlljfpekbimcmaaPkCon
import Derived.Test.YtlljfpekbimcmaaRows
import Derived.Test.YtlljfpekbimcmaaChecked
import Derived.WalkKit
import Derived.Below
import Derived.ChangeAlike
import Derived.ProofKit
import Derived.OpenShut
import Derived.ChangeSlices
import Derived.Lib.Hide
namespace Go.Proofs.Ytlljfpekbimcmaa.pickSees
open Go Go.ChangeShapes Go.WideShapes Go.ChangeAt Go.RowKit Go.Proofs.Ytlljfpekbimcmaa.Pk

def IsRow (k : IntKind) (w : World) (a : Option Addr) (len cap : Nat) (zs : List Int) : Prop :=
  (a = none ∧ len = 0 ∧ cap = 0 ∧ zs = []) ∨
  ∃ x, a = some x ∧ len ≤ cap ∧ cap ≤ maxLen ∧ zs.length = cap ∧ (∀ i, i < zs.length → w.cell? (x.add i) = some (.int k (zs.getD i 0))) ∧ ∀ n ∈ zs, (Lit.int k n).wf = true
theorem lt_of_cell {w : World} {p : Addr} {v : Value} (h : w.cell? p = some v) : p.block < w.heap.size := by
  refine Nat.not_le.1 fun hle => ?_
  have : w.heap[p.block]? = none := by simp; omega
  simp [World.cell?, this] at h
/-- Cells of a kind, at an address. -/
def RdK (k : IntKind) (w : World) (A : Option Addr) (zs : List Int) : Prop := ∀ i, i < zs.length → ∃ b off, A = some ⟨b, off, none⟩ ∧ b < w.heap.size ∧ w.cell? ⟨b, off + i, none⟩ = some (.int k (zs.getD i 0))
theorem RdK.below {k : IntKind} {w w' : World} {A : Option Addr} {zs : List Int} (h : RdK k w A zs) (hb : Below w.heap.size w w') : RdK k w' A zs := fun i hi => by
  obtain ⟨b, off, e, h1, h2⟩ := h i hi
  exact ⟨b, off, e, Nat.lt_of_lt_of_le h1 hb.size, (hb.cell (p := ⟨b, off + i, none⟩) h1).trans h2⟩
theorem IsRow.open {k : IntKind} {w : World} {a : Option Addr} {len cap : Nat} {zs : List Int} (h : IsRow k w a len cap zs) : ∃ xs : List Int, xs.length = len ∧ RdK k w a xs ∧ len ≤ maxLen ∧ ∀ n ∈ xs, (Lit.int k n).wf = true := by
  rcases h with ⟨rfl, rfl, rfl, rfl⟩ | ⟨x, rfl, hl, hm, hz, hc, hwf⟩
  · exact ⟨[], rfl, fun i hi => absurd hi (by simp), by unfold maxLen; omega, fun n h => by cases h⟩
  · have hlen : (zs.take len).length = len := by simp; omega
    refine ⟨zs.take len, hlen, fun i hi => ?_, by omega, fun n h => hwf n (List.mem_of_mem_take h)⟩
    rw [hlen] at hi
    obtain ⟨b, off, rfl, hc'⟩ := ints_at hc (by omega)
    have q := hc' i (by omega)
    exact ⟨b, off, rfl, lt_of_cell q, by rw [q]; simp [hi]⟩

set_option maxRecDepth 100000 in
set_option maxHeartbeats 4000000 in
theorem long (A : Option Addr) (len cap : Nat) (a1 : Int) (a2 a3 : Bool) (W : World) (h : 1000 < (len : Int)) : Calls Try.prog 3 #[.slice A len cap, .int .u8 a1, .bool a2, .bool a3] W fun e W' => e = .returned (.bool true) ∧ Below W.heap.size W W' := by
  have hb := Lib.hid (Below.refl W.heap.size W)
  go_enter Try.func3, Try.ntmps3
  go_wp2
  go_ret
  exact ⟨rfl, hb.out⟩
set_option maxRecDepth 100000 in
set_option maxHeartbeats 4000000 in
theorem short (A : Option Addr) (len cap : Nat) (a1 : Int) (a2 a3 : Bool) (W : World) (b : Bool) (x v E : Int) (h : ¬ 1000 < (len : Int))
    (hA : ∀ w, Below W.heap.size W w → Calls Try.prog 4 #[.slice A len cap] w fun e w' => e = .returned (.tuple #[.bool b, .int .i64 x]) ∧ Below w.heap.size w w')
    (hB : ∀ w, Below W.heap.size W w → Calls Try.prog 5 #[.slice A len cap] w fun e w' => e = .returned (.tuple #[.bool b, .int .i64 x]) ∧ Below w.heap.size w w')
    (hC : ∀ w, Calls Try.prog 6 #[.int .u8 a1, .bool a2, .bool a3] w fun e w' => e = .returned (.tuple #[.int .u8 v, .int .i64 E]) ∧ w = w')
    (hD : ∀ w, Calls Try.prog 7 #[.int .u8 a1, .bool a2, .bool a3] w fun e w' => e = .returned (.tuple #[.int .u8 v, .int .i64 E]) ∧ w = w') :
    Calls Try.prog 3 #[.slice A len cap, .int .u8 a1, .bool a2, .bool a3] W fun e W' => e = .returned (.bool true) ∧ Below W.heap.size W W' := by
  have hb := Lib.hid (Below.refl W.heap.size W)
  have HA := Lib.hid hA
  have HB := Lib.hid hB
  have HC := Lib.hid hC
  have HD := Lib.hid hD
  clear hA hB hC hD
  go_enter Try.func3, Try.ntmps3
  go_wp2_with first
    | (go_at_call 4; ((with_reducible refine (HA.out _ hb.out).mono ?_); rintro e w1 ⟨rfl, b1⟩; have hb1 := Lib.hid b1; clear b1))
    | (go_at_call 5; ((with_reducible refine (HB.out _ hb1.out).mono ?_); rintro e w2 ⟨rfl, b2⟩; have hb2 := Lib.hid (hb1.out.trans (b2.mono hb1.out.size)); clear b2))
    | (go_at_call 6; ((with_reducible refine (HC.out _).mono ?_); rintro e w3 ⟨rfl, rfl⟩))
    | (go_at_call 7; ((with_reducible refine (HD.out _).mono ?_); rintro e w4 ⟨rfl, rfl⟩))
  go_ret
  exact ⟨by simp, hb2.out⟩
theorem walk (a0 : Option Addr) (len0 cap0 : Nat) (z0 : List Int) (a1 : Int) (a2 a3 : Bool) (W : World) (w0 : IsRow .i64 W a0 len0 cap0 z0) (w1 : (Lit.int .u8 a1).wf = true) :
    Calls Try.prog 3 #[.slice a0 len0 cap0, .int .u8 a1, .bool a2, .bool a3] W fun e W' => e = .returned (.bool true) ∧ Below W.heap.size W W' := by
  obtain ⟨xs, hl, hr, _, _⟩ := w0.open
  have h1 : 0 ≤ a1 := by
    simp [Lit.wf, IntKind.min, IntKind.max, IntKind.signed, IntKind.bits] at w1
    omega
  by_cases h0 : 1000 < (len0 : Int)
  · exact long a0 len0 cap0 a1 a2 a3 W h0
  by_cases h2 : len0 = 256
  · subst h2
    exact short a0 256 cap0 a1 a2 a3 W (atB xs) (atE xs) (seqV a1 a2 a3) (seqE a1) h0
      (fun w hb => attack_ok a0 cap0 xs w hl (RdA.below hr hb)) (fun w hb => rattack_ok a0 cap0 xs w hl (RdA.below hr hb)) (fun w => seq_ok a1 a2 a3 w h1) (fun w => rseq_ok a1 a2 a3 w h1)
  · exact short a0 len0 cap0 a1 a2 a3 W false 4 (seqV a1 a2 a3) (seqE a1) h0
      (fun w _ => attack_len a0 len0 cap0 w h2) (fun w _ => rattack_len a0 len0 cap0 w h2) (fun w => seq_ok a1 a2 a3 w h1) (fun w => rseq_ok a1 a2 a3 w h1)
theorem own : ownKnob Try.prog.godebug = none := by kernel_rfl
theorem laidOut : laidOutB Try.prog = true := by kernel_rfl
set_option linter.unusedVariables false
set_option maxRecDepth 100000 in
theorem lifted (os : Os) (started : os.Started) (H : Type) (enc : TypeId × Value → H) :
    ReturnsInHanded {} Try.checked os 3 .any (Rows.pickSeesSpec.pre6 enc Try.prog Try.f3 Rows.pickSeesRow.domain false) (Rows.pickSeesSpec.post enc Try.prog Try.f3 false true false false) := by
  refine returnsInHanded_of_change (C := Try.checked) own started (by kernel_rfl) Try.func3
    (ChangeSpec.witness6 (enc := enc) (C := Try.checked) false ⟨#[], #[.slice none 0 0, .int .u8 0, .bool false, .bool false], []⟩ 8 (by kernel_rfl) (by kernel_rfl) (by kernel_rfl) (by kernel_rfl)) ?_
  intro W base args ds gs before hval0 hW hcnd _
  have hval : ∀ (j : Nat) t v, Try.f3.params[j]? = some t → args[j]? = some v → Value.okWide Try.prog W .any base t v := hval0
  have hW' := hW
  obtain ⟨p, q, hA0, hV, rfl, hfz, hnd⟩ := hW
  have hA : DataW.TrodAll enc Try.prog W 0 (fun _ => true) true Try.f3.params.toList args.toList ds p := hA0
  rw [Try.params3] at hA hval
  obtain ⟨v0, vs0, d0, ds0, p0, q0, hargs, rfl, rfl, h0, r0⟩ := trodAll_cons hA
  obtain ⟨v1, vs1, d1, ds1, p1, q1, rfl, rfl, rfl, h1, r1⟩ := trodAll_cons r0
  obtain ⟨v2, vs2, d2, ds2, p2, q2, rfl, rfl, rfl, h2, r2⟩ := trodAll_cons r1
  obtain ⟨v3, vs3, d3, ds3, p3, q3, rfl, rfl, rfl, h3, r3⟩ := trodAll_cons r2
  obtain ⟨rfl, rfl, rfl⟩ := trodAll_nil r3
  obtain rfl : args = #[v0, v1, v2, v3] := by cases args; simp_all
  obtain ⟨rfl, rfl⟩ := trodVars_none hV
  obtain ⟨a0, len0, cap0, rfl⟩ := okWide_slice Try.underlying22 (hval 0 22 v0 rfl rfl)
  have k0 := h0
  have lt0 : ∀ x ∈ p0, x.block < W.heap.size := by obtain ⟨m, hm⟩ := k0; exact DataW.trod_lt m _ _ _ hm
  obtain ⟨z0, w0⟩ : ∃ zs, IsRow .i64 W a0 len0 cap0 zs := by
    obtain ⟨fuel, hf⟩ := h0
    rcases open_ints Try.underlying22 Try.underlying3 (by kernel_rfl) hf with ⟨hcs, _⟩ | ⟨x, l, c, zs, hcs, _, hl, hm, hz, _, hcell, hwz⟩
    · simp [Value.cells] at hcs
      obtain ⟨rfl, rfl, rfl⟩ := hcs
      exact ⟨[], .inl ⟨rfl, rfl, rfl, rfl⟩⟩
    · simp [Value.cells] at hcs
      obtain ⟨rfl, rfl, rfl⟩ := hcs
      exact ⟨zs, .inr ⟨_, rfl, hl, hm, by simpa using hz, hcell, hwz⟩⟩
  obtain ⟨a1, rfl, rfl, rfl, w1⟩ := open_int Try.underlying5 (hval 1 5 v1 rfl rfl) h1
  obtain ⟨a2, rfl, rfl, rfl⟩ := open_bool Try.underlying4 (hval 2 4 v2 rfl rfl) h2
  obtain ⟨a3, rfl, rfl, rfl⟩ := open_bool Try.underlying4 (hval 3 4 v3 rfl rfl) h3
  clear hA0 hval0
  refine (walk a0 len0 cap0 z0 a1 a2 a3 W w0 w1).mono fun e W' ⟨he, bel⟩ => ?_
  subst he
  exact ⟨_, rfl, _, _, _, [], _, [], hW', trodAll_mk1 (shut_bool Try.underlying4 _), (trodAll_cons_mk (Below.trod laidOut (by kernel_rfl) (of_decide_eq_true (by kernel_rfl)) k0 bel lt0) (trodAll_cons_mk (shut_int Try.underlying5 w1) (trodAll_cons_mk (shut_bool Try.underlying4 a2) (trodAll_cons_mk (shut_bool Try.underlying4 a3) trodAll_mk0)))), rfl, bel.frame _, fun h => by cases h⟩

theorem over : Rows.pickSeesRow.holds Try.pinned (OpenSpec.ofChange Rows.pickSeesSpec) :=
  OpenClaim.holds_of_wide 3 Try.f3 rfl rfl rfl rfl rfl rfl rfl ⟨rfl, rfl, rfl, rfl, rfl⟩ rfl rfl rfl rfl rfl (by kernel_rfl) Try.func3 (by kernel_rfl)
    (of_decide_eq_true (by kernel_rfl)) (by unfold Func.isWrapper; first | (rw [if_pos (by decide +kernel)]; kernel_rfl) | (rw [if_neg (by decide +kernel)]; exact ⟨rfl, rfl⟩))
    (fun os started H enc _ => lifted os started H enc)

theorem proved : Rows.PickSeesSaid := over
end Go.Proofs.Ytlljfpekbimcmaa.pickSees
