/- Sums, or the errors, are the document's, and the bytes stay. CrcTells returns true, whatever the bytes and the sum of those ahead, the memory and the schedule. No condition. -/
import Derived.Test.YteoljcbebiemlaaCrcRef
import Derived.WalkKit
import Derived.ProofKit
import Derived.OpenShut
import Derived.ShutString
import Derived.ChangeOld
import Derived.Below
import Derived.Lib.Hide
namespace Go.Proofs.Yteoljcbebiemlaa.crcTells
open Go Go.ChangeShapes Go.WideShapes Go.ChangeAt Go.RowKit Go.Proofs.Yteoljcbebiemlaa.Cr

theorem over_bad (S : Int) (v : Value) (zs : List Int) (w : World) (s0 : 0 ≤ S) (s1 : S ≤ 65535) (hz : ∀ z ∈ zs, 0 ≤ z ∧ z ≤ 255) (hbad : Bad zs 0) (h : Sl w v zs) :
    Calls Try.prog 24 #[.int .i64 S, v] w fun e w' => e = .returned (.tuple #[.int .i64 0, .int .i64 8]) ∧ Below w.heap.size w w' := by
  rcases h with ⟨a, cap, rfl, rfl⟩ | ⟨b, off, cap, rfl, hb, hl, hm, hc⟩
  · exact absurd (bad_lt hbad) (by simp)
  have e1 := u16_in s0 s1
  unfold maxLen at hm
  have HC := Lib.hid hc
  have HB := Lib.hid hbad
  have HZ := Lib.hid hz
  clear hc hbad hz
  have hw0 : Below w.heap.size w (w.alloc (.cells #[.int .u16 S] 46)) := (Below.refl _ _).alloc (Nat.le_refl _) _
  go_enter Try.func24, Try.ntmps24
  go_wp2
  go_loopw [21] (fun i wr => ∃ (k : Nat) (V : Int), Hid (Bad zs k) ∧ 0 ≤ V ∧ V ≤ 65535 ∧ i = .int .i64 k ∧ wr.cell? ⟨w.heap.size, 0, none⟩ = some (.int .u16 V) ∧ wr.frozen? ⟨w.heap.size, 0, none⟩ = false ∧ Below w.heap.size w wr) (fun i _ => zs.length - (intOf i).toNat)
  case atStart => exact ⟨0, S, HB, s0, s1, rfl, by simp [go_sem], by simp [go_sem], hw0⟩
  case round =>
    obtain ⟨k, V, hB, v0, v1, rfl, hcell, hfz, hbel⟩ := hrel
    have hlt := bad_lt hB.out
    have hz : wr.cell? ⟨b, off + k, none⟩ = some (.int .u8 (zs.getD k 0)) := (hbel.cell (p := ⟨b, off + k, none⟩) hb).trans (HC.out k hlt)
    have hr := HZ.out (zs.getD k 0) (by simp [hlt])
    have hn := Lib.hid (bad_next hB.out)
    generalize zs.getD k 0 = d at *
    obtain ⟨d0, d1⟩ := hr
    by_cases hd : 1 < d
    · go_wp2
      go_ret2
      exact ⟨rfl, hbel⟩
    · have hd01 := Lib.hid (show d = 0 ∨ d = 1 by omega)
      go_wp2_with (go_at_call 37; refine (word_step w.heap.size V d _ v0 v1 hd01.out hcell hfz).mono ?_; rintro e w' ⟨rfl, hcell', hfz', hbel'⟩)
      go_roundw
      case rel => exact ⟨k + 1, _, Lib.hid (hn.out (by omega)), (crcI_bd _ _).1, (crcI_bd _ _).2, by go_num, hcell', hfz', hbel.trans hbel'⟩
      case measure => simp [intOf]; omega
theorem of_bad (v : Value) (zs : List Int) (w : World) (hz : ∀ z ∈ zs, 0 ≤ z ∧ z ≤ 255) (hbad : Bad zs 0) (h : Sl w v zs) :
    Calls Try.prog 25 #[v] w fun e w' => e = .returned (.tuple #[.int .i64 0, .int .i64 8]) ∧ Below w.heap.size w w' := by
  go_enter Try.func25, Try.ntmps25
  go_wp2_with (go_at_call 24; refine (over_bad 65535 v zs _ (by decide) (by decide) hz hbad h).mono ?_; rintro e w' ⟨rfl, hb⟩)
  go_ret2
  exact ⟨rfl, hb⟩

theorem conv_zero (w : World) (a : Option Addr) (cap : Nat) : (convert 22 9 (.slice a 0 cap)).run Try.prog w = .ok (.string (strOfNums [])) w := by
  cases a with
  | none => exact run_convert_bytes_nil w 22 5 Try.underlying22 Try.underlying5 0 cap 9 Try.underlying9
  | some x =>
    have hl : (loadCells x 0).run Try.prog w = .ok (([] : List Int).map (Value.int .u8)).toArray w := by
      have := run_loadCells_list (P := Try.prog) w x [] (fun j v hj => by simp at hj)
      simpa using this
    rw [run_convert_bytes_string w 22 9 5 _ 0 cap Try.underlying22 Try.underlying5 Try.underlying9, run_bytesToString w x 0 cap [] hl]
    rfl
theorem conv_sl {w : World} {a : Option Addr} {cap : Nat} {zs : List Int} (h : Sl w (.slice a zs.length cap) zs) : (convert 22 9 (.slice a zs.length cap)).run Try.prog w = .ok (.string (strOfNums zs)) w := by
  rcases h with ⟨a', cap', e, rfl⟩ | ⟨b, off, cap', e, h2, h3, h4, h5⟩
  · exact conv_zero w a cap
  · simp only [Value.slice.injEq] at e
    obtain ⟨rfl, _, rfl⟩ := e
    exact run_convert_bytes_arg w 22 5 Try.underlying22 Try.underlying5 b off zs.length cap zs rfl h5 9 Try.underlying9

theorem long (a0 : Option Addr) (l0 c0 : Nat) (S : Int) (w : World) (m0 : l0 ≤ maxLen) (h0 : 20000 < l0) :
    Calls Try.prog 10 #[.slice a0 l0 c0, .int .i64 S] w fun e w' => e = .returned (.bool true) ∧ Below w.heap.size w w' := by
  unfold maxLen at m0
  go_enter Try.func10, Try.ntmps10
  go_wp2
  go_ret
  exact ⟨rfl, Below.refl _ _⟩

theorem overW {W : World} {v : Value} {zs : List Int} {S : Int} (s0 : 0 ≤ S) (s1 : S ≤ 65535) (hbits : Bits zs) (h : Sl W v zs) (w : World) (hb : Below W.heap.size W w) :
    Calls Try.prog 24 #[.int .i64 S, v] w fun e w' => e = .returned (.tuple #[.int .i64 (crcI S zs), .int .i64 0]) ∧ Below W.heap.size W w' :=
  (over_ok S v zs w s0 s1 hbits (h.below hb)).mono fun _ _ ⟨h1, h2⟩ => ⟨h1, belowT hb h2⟩
theorem overX {W : World} {v : Value} {zs : List Int} {S : Int} (s0 : 0 ≤ S) (s1 : S ≤ 65535) (hz : ∀ z ∈ zs, 0 ≤ z ∧ z ≤ 255) (hbad : Bad zs 0) (h : Sl W v zs) (w : World) (hb : Below W.heap.size W w) :
    Calls Try.prog 24 #[.int .i64 S, v] w fun e w' => e = .returned (.tuple #[.int .i64 0, .int .i64 8]) ∧ Below W.heap.size W w' :=
  (over_bad S v zs w s0 s1 hz hbad (h.below hb)).mono fun _ _ ⟨h1, h2⟩ => ⟨h1, belowT hb h2⟩
theorem ofW {W : World} {v : Value} {zs : List Int} (hbits : Bits zs) (h : Sl W v zs) (w : World) (hb : Below W.heap.size W w) :
    Calls Try.prog 25 #[v] w fun e w' => e = .returned (.tuple #[.int .i64 (sum zs), .int .i64 0]) ∧ Below W.heap.size W w' :=
  (of_ok v zs w hbits (h.below hb)).mono fun _ _ ⟨h1, h2⟩ => ⟨h1, belowT hb h2⟩
theorem ofX {W : World} {v : Value} {zs : List Int} (hz : ∀ z ∈ zs, 0 ≤ z ∧ z ≤ 255) (hbad : Bad zs 0) (h : Sl W v zs) (w : World) (hb : Below W.heap.size W w) :
    Calls Try.prog 25 #[v] w fun e w' => e = .returned (.tuple #[.int .i64 0, .int .i64 8]) ∧ Below W.heap.size W w' :=
  (of_bad v zs w hz hbad (h.below hb)).mono fun _ _ ⟨h1, h2⟩ => ⟨h1, belowT hb h2⟩

set_option maxRecDepth 100000 in
set_option maxHeartbeats 2000000 in
theorem good_in (a0 : Option Addr) (c0 : Nat) (za : List Int) (S : Int) (w : World) (hl : za.length ≤ 20000) (hz : ∀ z ∈ za, 0 ≤ z ∧ z ≤ 255) (hsl : Sl w (.slice a0 za.length c0) za) (hb0 : Bits za) (s0 : 0 ≤ S) (s1 : S ≤ 65535) :
    Calls Try.prog 10 #[.slice a0 za.length c0, .int .i64 S] w fun e w' => e = .returned (.bool true) ∧ Below w.heap.size w w' := by
  have g1 := conv_sl hsl
  have HZ := Lib.hid hz
  have SA := Lib.hid hsl
  have HB := Lib.hid hb0
  clear hz hsl hb0
  go_enter Try.func10, Try.ntmps10
  go_wp2_with (first | (go_at_call 25; refine (ofW (W := w) HB.out SA.out _ (by first | assumption | exact Below.refl _ _)).mono ?_; rintro e w' ⟨rfl, hb⟩; have g2 := conv_sl (SA.out.below hb)) | (go_at_call 27; refine (rof_in _ za _ HB.out (SA.out.below hb)).mono ?_; rintro e w' ⟨rfl, rfl⟩) | (go_at_call 24; refine (overW (W := w) s0 s1 HB.out SA.out _ hb).mono ?_; rintro e w' ⟨rfl, hb⟩; have g3 := conv_sl (SA.out.below hb)) | (go_at_call 28; refine (rover_in S _ za _ s0 s1 HB.out (SA.out.below hb)).mono ?_; rintro e w' ⟨rfl, rfl⟩))
  go_ret
  exact ⟨rfl, by assumption⟩

set_option maxRecDepth 100000 in
set_option maxHeartbeats 2000000 in
theorem good_out (a0 : Option Addr) (c0 : Nat) (za : List Int) (S : Int) (w : World) (hl : za.length ≤ 20000) (hz : ∀ z ∈ za, 0 ≤ z ∧ z ≤ 255) (hsl : Sl w (.slice a0 za.length c0) za) (hb0 : Bits za) (HO : S < 0 ∨ 65535 < S) :
    Calls Try.prog 10 #[.slice a0 za.length c0, .int .i64 S] w fun e w' => e = .returned (.bool true) ∧ Below w.heap.size w w' := by
  have g1 := conv_sl hsl
  have HZ := Lib.hid hz
  have SA := Lib.hid hsl
  have HB := Lib.hid hb0
  clear hz hsl hb0
  go_enter Try.func10, Try.ntmps10
  go_wp2_with (first | (go_at_call 25; refine (ofW (W := w) HB.out SA.out _ (by first | assumption | exact Below.refl _ _)).mono ?_; rintro e w' ⟨rfl, hb⟩; have g2 := conv_sl (SA.out.below hb)) | (go_at_call 27; refine (rof_in _ za _ HB.out (SA.out.below hb)).mono ?_; rintro e w' ⟨rfl, rfl⟩) | (go_at_call 24; refine (over_out S _ _ HO).mono ?_; rintro e w' ⟨rfl, rfl⟩) | (go_at_call 28; refine (rover_out S _ _ HO).mono ?_; rintro e w' ⟨rfl, rfl⟩))
  go_ret
  exact ⟨rfl, by assumption⟩

set_option maxRecDepth 100000 in
set_option maxHeartbeats 2000000 in
theorem bad_in (a0 : Option Addr) (c0 : Nat) (za : List Int) (S : Int) (w : World) (hl : za.length ≤ 20000) (hz : ∀ z ∈ za, 0 ≤ z ∧ z ≤ 255) (hsl : Sl w (.slice a0 za.length c0) za) (hb0 : Bad za 0) (s0 : 0 ≤ S) (s1 : S ≤ 65535) :
    Calls Try.prog 10 #[.slice a0 za.length c0, .int .i64 S] w fun e w' => e = .returned (.bool true) ∧ Below w.heap.size w w' := by
  have g1 := conv_sl hsl
  have HZ := Lib.hid hz
  have SA := Lib.hid hsl
  have HB := Lib.hid hb0
  clear hz hsl hb0
  go_enter Try.func10, Try.ntmps10
  go_wp2_with (first | (go_at_call 25; refine (ofX (W := w) HZ.out HB.out SA.out _ (by first | assumption | exact Below.refl _ _)).mono ?_; rintro e w' ⟨rfl, hb⟩; have g2 := conv_sl (SA.out.below hb)) | (go_at_call 27; refine (rof_bad _ za _ HB.out (SA.out.below hb)).mono ?_; rintro e w' ⟨rfl, rfl⟩) | (go_at_call 24; refine (overX (W := w) s0 s1 HZ.out HB.out SA.out _ hb).mono ?_; rintro e w' ⟨rfl, hb⟩; have g3 := conv_sl (SA.out.below hb)) | (go_at_call 28; refine (rover_bad S _ za _ s0 s1 HB.out (SA.out.below hb)).mono ?_; rintro e w' ⟨rfl, rfl⟩))
  go_ret
  exact ⟨rfl, by assumption⟩

set_option maxRecDepth 100000 in
set_option maxHeartbeats 2000000 in
theorem bad_out (a0 : Option Addr) (c0 : Nat) (za : List Int) (S : Int) (w : World) (hl : za.length ≤ 20000) (hz : ∀ z ∈ za, 0 ≤ z ∧ z ≤ 255) (hsl : Sl w (.slice a0 za.length c0) za) (hb0 : Bad za 0) (HO : S < 0 ∨ 65535 < S) :
    Calls Try.prog 10 #[.slice a0 za.length c0, .int .i64 S] w fun e w' => e = .returned (.bool true) ∧ Below w.heap.size w w' := by
  have g1 := conv_sl hsl
  have HZ := Lib.hid hz
  have SA := Lib.hid hsl
  have HB := Lib.hid hb0
  clear hz hsl hb0
  go_enter Try.func10, Try.ntmps10
  go_wp2_with (first | (go_at_call 25; refine (ofX (W := w) HZ.out HB.out SA.out _ (by first | assumption | exact Below.refl _ _)).mono ?_; rintro e w' ⟨rfl, hb⟩; have g2 := conv_sl (SA.out.below hb)) | (go_at_call 27; refine (rof_bad _ za _ HB.out (SA.out.below hb)).mono ?_; rintro e w' ⟨rfl, rfl⟩) | (go_at_call 24; refine (over_out S _ _ HO).mono ?_; rintro e w' ⟨rfl, rfl⟩) | (go_at_call 28; refine (rover_out S _ _ HO).mono ?_; rintro e w' ⟨rfl, rfl⟩))
  go_ret
  exact ⟨rfl, by assumption⟩

theorem walk (a0 : Option Addr) (l0 c0 : Nat) (z0 : List Int) (S : Int) (w : World) (w0 : IsRow .u8 w a0 l0 c0 z0) (_ : (Lit.int .i64 S).wf = true) :
    Calls Try.prog 10 #[.slice a0 l0 c0, .int .i64 S] w fun e w' => e = .returned (.bool true) ∧ Below w.heap.size w w' := by
  have m0 := w0.le
  by_cases h : 20000 < l0
  · exact long a0 l0 c0 S w m0 h
  obtain ⟨za, rfl, sa, ha⟩ := w0.sl
  by_cases hb : Bits za
  · by_cases hs : S < 0 ∨ 65535 < S
    · exact good_out a0 c0 za S w (by omega) ha sa hb hs
    · exact good_in a0 c0 za S w (by omega) ha sa hb (by omega) (by omega)
  · by_cases hs : S < 0 ∨ 65535 < S
    · exact bad_out a0 c0 za S w (by omega) ha sa (bad_of ha hb) hs
    · exact bad_in a0 c0 za S w (by omega) ha sa (bad_of ha hb) (by omega) (by omega)

theorem own : ownKnob Try.prog.godebug = none := by kernel_rfl
theorem laidOut : laidOutB Try.prog = true := by kernel_rfl
set_option linter.unusedVariables false
set_option maxRecDepth 100000 in
theorem lifted (os : Os) (started : os.Started) (H : Type) (enc : TypeId × Value → H) :
    ReturnsInHanded {} Try.checked os 10 .any (Rows.crcTellsSpec.pre6 enc Try.prog Try.f10 Rows.crcTellsRow.domain false) (Rows.crcTellsSpec.post enc Try.prog Try.f10 false true false false) := by
  refine returnsInHanded_of_change (C := Try.checked) own started (by kernel_rfl) Try.func10
    (ChangeSpec.witness6 (enc := enc) (C := Try.checked) false ⟨#[], #[.slice none 0 0, .int .i64 0], []⟩ 8 (by kernel_rfl) (by kernel_rfl) (by kernel_rfl) (by kernel_rfl)) ?_
  intro W base args ds gs before hval0 hW hcnd _
  have hval : ∀ (j : Nat) t v, Try.f10.params[j]? = some t → args[j]? = some v → Value.okWide Try.prog W .any base t v := hval0
  have hW' := hW
  obtain ⟨p, q, hA0, hV, rfl, hfz, hnd⟩ := hW
  have hA : DataW.TrodAll enc Try.prog W 0 (fun _ => true) true Try.f10.params.toList args.toList ds p := hA0
  rw [Try.params10] at hA hval
  obtain ⟨v0, vs0, d0, ds0, p0, q0, hargs, rfl, rfl, h0, r0⟩ := trodAll_cons hA
  obtain ⟨v1, vs1, d1, ds1, p1, q1, rfl, rfl, rfl, h1, r1⟩ := trodAll_cons r0
  obtain ⟨rfl, rfl, rfl⟩ := trodAll_nil r1
  obtain rfl : args = #[v0, v1] := by cases args; simp_all
  obtain ⟨rfl, rfl⟩ := trodVars_none hV
  obtain ⟨a0, len0, cap0, rfl⟩ := okWide_slice Try.underlying22 (hval 0 22 v0 rfl rfl)
  have k0 := h0
  have lt0 : ∀ x ∈ p0, x.block < W.heap.size := by obtain ⟨m, hm⟩ := k0; exact DataW.trod_lt m _ _ _ hm
  obtain ⟨z0, w0⟩ : ∃ zs, IsRow .u8 W a0 len0 cap0 zs := by
    obtain ⟨fuel, hf⟩ := h0
    rcases open_ints Try.underlying22 Try.underlying5 (by kernel_rfl) hf with ⟨hcs, _⟩ | ⟨x, l, c, zs, hcs, _, hl, hm, hz, _, hcell, hwz⟩
    · simp [Value.cells] at hcs
      obtain ⟨rfl, rfl, rfl⟩ := hcs
      exact ⟨[], .inl ⟨rfl, rfl, rfl, rfl⟩⟩
    · simp [Value.cells] at hcs
      obtain ⟨rfl, rfl, rfl⟩ := hcs
      exact ⟨zs, .inr ⟨_, rfl, hl, hm, by simpa using hz, hcell, hwz⟩⟩
  obtain ⟨a1, rfl, rfl, rfl, w1⟩ := open_int Try.underlying3 (hval 1 3 v1 rfl rfl) h1
  clear hA0 hval0
  refine (walk a0 len0 cap0 z0 a1 W w0 w1).mono fun e W' ⟨he, bel⟩ => ?_
  subst he
  exact ⟨_, rfl, _, _, _, [], _, [], hW', trodAll_mk1 (shut_bool Try.underlying4 _), (trodAll_cons_mk (Below.trod laidOut (by kernel_rfl) (of_decide_eq_true (by kernel_rfl)) k0 bel lt0) (trodAll_cons_mk (shut_int Try.underlying3 w1) trodAll_mk0)), rfl, bel.frame _, fun h => by cases h⟩

theorem over : Rows.crcTellsRow.holds Try.pinned (OpenSpec.ofChange Rows.crcTellsSpec) :=
  OpenClaim.holds_of_wide 10 Try.f10 rfl rfl rfl rfl rfl rfl rfl ⟨rfl, rfl, rfl, rfl, rfl⟩ rfl rfl rfl rfl rfl (by kernel_rfl) Try.func10 (by kernel_rfl)
    (of_decide_eq_true (by kernel_rfl)) (by unfold Func.isWrapper; first | (rw [if_pos (by decide +kernel)]; kernel_rfl) | (rw [if_neg (by decide +kernel)]; exact ⟨rfl, rfl⟩))
    (fun os started H enc _ => lifted os started H enc)

theorem proved : Rows.CrcTellsSaid := over
end Go.Proofs.Yteoljcbebiemlaa.crcTells
