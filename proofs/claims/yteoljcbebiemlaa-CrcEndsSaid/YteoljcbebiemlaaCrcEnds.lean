/- Bits with their sum behind, as sixteen bits, have the sum 0, and no other sixteen bits behind do. CrcEnds returns true, whatever the bits and the number, the memory and the schedule. No condition. -/
import Derived.Test.YteoljcbebiemlaaCrcTail
import Derived.Test.YteoljcbebiemlaaCrcAlive
import Derived.WalkKit
import Derived.Laws.AppendOwnNone
import Derived.ProofKit
import Derived.OpenShut
import Derived.ShutString
import Derived.ChangeOld
import Derived.Below
import Derived.Lib.Hide
namespace Go.Proofs.Yteoljcbebiemlaa.crcEnds
open Go Go.ChangeShapes Go.WideShapes Go.ChangeAt Go.RowKit Go.Proofs.Yteoljcbebiemlaa.Cr

theorem long (a0 : Option Addr) (l0 c0 : Nat) (X : Int) (w : World) (m0 : l0 ≤ maxLen) (h0 : 20000 < l0) :
    Calls Try.prog 14 #[.slice a0 l0 c0, .int .u16 X] w fun e w' => e = .returned (.bool true) ∧ Below w.heap.size w w' := by
  unfold maxLen at m0
  go_enter Try.func14, Try.ntmps14
  go_wp2_with (go_at_call 26; refine (alive_ok _).mono ?_; rintro e w' ⟨rfl, hb⟩)
  go_ret
  exact ⟨rfl, by assumption⟩

theorem own_app {base : Nat} {w : World} {v : Value} {a b : List Int} (h : w.ownsRow base 5 1 v (a.length + b.length) (a.map (Value.int .u8) ++ b.map (Value.int .u8))) : Own base w v (a ++ b) := by
  unfold Own
  rw [List.length_append, List.map_append]
  exact h

set_option maxRecDepth 100000 in
set_option maxHeartbeats 2000000 in
theorem short (a0 : Option Addr) (c0 : Nat) (za : List Int) (X : Int) (w : World) (x0 : 0 ≤ X) (x1 : X ≤ 65535) (hla : za.length ≤ 20000) (hza : ∀ z ∈ za, 0 ≤ z ∧ z ≤ 255) (hsa : Sl w (.slice a0 za.length c0) za) :
    Calls Try.prog 14 #[.slice a0 za.length c0, .int .u16 X] w fun e w' => e = .returned (.bool true) ∧ Below w.heap.size w w' := by
  obtain ⟨i0, hi, hz0, hz1, hz2⟩ := info_parts info5
  have Za := Lib.hid hza
  have Sa := Lib.hid hsa
  clear hza hsa
  go_enter Try.func14, Try.ntmps14
  go_wp2_with (first
    | (go_at_call 26; refine (alive_ok _).mono ?_; rintro e w' ⟨rfl, hb⟩)
    | (go_at_call 29; ((with_reducible refine (bitsB (W := w) (zs := za) Za.out hla Sa.out _ (by assumption)).mono ?_); rintro e w' ⟨va, rfl, howna, hle, hbla, hb⟩; have hsl := howna.sl))
    | (go_at_call 25; ((refine (ofB (W := w) (par_bits za Za.out) _ (by assumption) (by assumption)).mono ?_); rintro e w2 ⟨rfl, hbl2, hb2⟩; have hown2 := Own.below howna hbl2)))
  have hle2 := hb2.size
  go_loopw [9, 10] (fun o i wr => ∃ k : Nat, k ≤ 16 ∧ i = .int .i64 (15 - (k : Int)) ∧ wr.ownsRow w2.heap.size 5 1 o k ((tl X k).map (Value.int .u8)) ∧ Below w2.heap.size w2 wr) (fun _ i _ => (intOf i + 1).toNat)
  case atStart => exact ⟨0, by omega, rfl, World.ownsRow_nil _ _ _ _, Below.refl _ _⟩
  case round =>
    obtain ⟨k, hk, rfl, hown, hbel⟩ := hrel
    have hsz := hbel.size
    by_cases hlt : k < 16
    · have hp := Lib.hid (tl_succ X k)
      have hsb := shr_bd x0 x1 (15 - k)
      have hand := and_one hsb.1 hsb.2
      obtain ⟨y0, y1⟩ := hsb
      have hd0 : 0 ≤ X / 2 ^ (15 - k) % 2 := by omega
      have hd1 : X / 2 ^ (15 - k) % 2 ≤ 1 := by omega
      generalize X / 2 ^ (15 - k) % 2 = d at *
      go_wp2_with (at_builtin; refine wpList_append_own _ rfl (.tmp 33) (.tmp 39) 22 rfl w2.heap.size 5 i0 (.int .u8 0) 1 1 Try.underlying22 hi hz0 hz1 hz2 rfl (by decide) _ _ _ rfl (hown.alloc _) ⟨wr.heap.size, 0, none⟩ 1 1 [.int .u8 d] rfl rfl ?c1 ?c2 ?c3 ?c4 ?c5 ?_)
      case c1 =>
        intro j u hj
        match j, hj with
        | 0, hj => simp at hj; subst hj; simp [Addr.add]
      case c2 => intro u hu; simp at hu; subst hu; rfl
      case c3 => unfold maxLen; omega
      case c4 => omega
      case c5 => simp; omega
      intro v' w1 hown' hgrow _
      have hb1 : Below w2.heap.size w2 w1 := (hbel.alloc hsz _).grown hgrow (by simp; omega) (fun j hj => (hown.lt j hj).1)
      have hown4 : w1.ownsRow w2.heap.size 5 1 v' (k + 1) ((tl X (k + 1)).map (Value.int .u8)) := by
        rw [hp.out, List.map_append]; exact hown'
      clear hown' hgrow hown hand
      go_wp2
      go_roundw
      case rel => exact ⟨k + 1, by omega, by go_num, hown4, hb1⟩
      case measure => simp [intOf]; omega
    · have hend : k = 16 := by omega
      subst hend
      have ho := hown
      obtain ⟨_, ⟨_, hn⟩ | ⟨g, cap, cur, rfl, _⟩⟩ := ho
      · exact absurd hn (by decide)
      have hA := Own.below hown2 hbel
      have hB := belowT hb2 hbel
      have hx := Lib.hid (crc_own (S := sum (par za)) (X := X) (sum_bd _).1 (sum_bd _).2 x0 x1)
      have hz : Hid (Bits (par za ++ tl X 16)) := Lib.hid (fun z h => by rcases List.mem_append.1 h with h | h; exact par_bits za Za.out z h; exact tl_bits X 16 z h)
      have hsum : sum (par za ++ tl X 16) = crcI (sum (par za)) (tl X 16) := sum_append _ _
      by_cases hq : X = sum (par za)
      · have q1 : crcI (sum (par za)) (tl X 16) = 0 := hx.out.2 hq
        have q2 : (X == sum (par za)) = true := by simp [hq]
        clear hq
        go_wp2_with (first | (at_builtin; refine wpList_append_own _ rfl (.tmp 42) (.tmp 43) 22 rfl _ 5 i0 (.int .u8 0) 1 1 Try.underlying22 hi hz0 hz1 hz2 rfl (by decide) _ _ _ rfl hA ⟨g, 0, none⟩ 16 cap ((tl X 16).map (Value.int .u8)) rfl (by simp [tl]) (World.ownsRow.cells hown rfl) (one8 _) (by rw [par_len]; unfold maxLen; omega) (by rw [par_len]; omega) (Nat.le_trans hbla.size (Nat.le_trans hbl2.size hsz)) ?_; intro v3 w3 hown3 hgrow3 _; have hown5 := own_app (a := par za) (b := tl X 16) (by rw [tl_len]; exact hown3); have hsl5 := hown5.sl; have hb5 := below_grown hB hA hle hgrow3; clear hown3 hgrow3) | (go_at_call 25; ((refine (ofB (W := w) hz.out _ (by assumption) (by assumption)).mono ?_); rintro e w6 ⟨rfl, hbl6, hb6⟩)))
        go_ret
        exact ⟨rfl, by assumption⟩
      · have q1 : (crcI (sum (par za)) (tl X 16) == 0) = false := by rw [Bool.eq_false_iff]; intro h; exact hq (hx.out.1 (by simpa using h))
        have q2 : (X == sum (par za)) = false := by simpa using hq
        clear hq
        go_wp2_with (first | (at_builtin; refine wpList_append_own _ rfl (.tmp 42) (.tmp 43) 22 rfl _ 5 i0 (.int .u8 0) 1 1 Try.underlying22 hi hz0 hz1 hz2 rfl (by decide) _ _ _ rfl hA ⟨g, 0, none⟩ 16 cap ((tl X 16).map (Value.int .u8)) rfl (by simp [tl]) (World.ownsRow.cells hown rfl) (one8 _) (by rw [par_len]; unfold maxLen; omega) (by rw [par_len]; omega) (Nat.le_trans hbla.size (Nat.le_trans hbl2.size hsz)) ?_; intro v3 w3 hown3 hgrow3 _; have hown5 := own_app (a := par za) (b := tl X 16) (by rw [tl_len]; exact hown3); have hsl5 := hown5.sl; have hb5 := below_grown hB hA hle hgrow3; clear hown3 hgrow3) | (go_at_call 25; ((refine (ofB (W := w) hz.out _ (by assumption) (by assumption)).mono ?_); rintro e w6 ⟨rfl, hbl6, hb6⟩)))
        go_ret
        exact ⟨rfl, by assumption⟩

theorem walk (a0 : Option Addr) (l0 c0 : Nat) (z0 : List Int) (X : Int) (w : World) (w0 : IsRow .u8 w a0 l0 c0 z0) (wx : (Lit.int .u16 X).wf = true) :
    Calls Try.prog 14 #[.slice a0 l0 c0, .int .u16 X] w fun e w' => e = .returned (.bool true) ∧ Below w.heap.size w w' := by
  have m0 := w0.le
  have hX : 0 ≤ X ∧ X ≤ 65535 := bounds_u16 wx
  by_cases h : 20000 < l0
  · exact long a0 l0 c0 X w m0 h
  obtain ⟨za, rfl, sa, ha⟩ := w0.sl
  exact short a0 c0 za X w hX.1 hX.2 (by omega) ha sa

theorem own : ownKnob Try.prog.godebug = none := by kernel_rfl
theorem laidOut : laidOutB Try.prog = true := by kernel_rfl
set_option linter.unusedVariables false
set_option maxRecDepth 100000 in
theorem lifted (os : Os) (started : os.Started) (H : Type) (enc : TypeId × Value → H) :
    ReturnsInHanded {} Try.checked os 14 .any (Rows.crcEndsSpec.pre6 enc Try.prog Try.f14 Rows.crcEndsRow.domain false) (Rows.crcEndsSpec.post enc Try.prog Try.f14 false true false false) := by
  refine returnsInHanded_of_change (C := Try.checked) own started (by kernel_rfl) Try.func14
    (ChangeSpec.witness6 (enc := enc) (C := Try.checked) false ⟨#[], #[.slice none 0 0, .int .u16 0], []⟩ 8 (by kernel_rfl) (by kernel_rfl) (by kernel_rfl) (by kernel_rfl)) ?_
  intro W base args ds gs before hval0 hW hcnd _
  have hval : ∀ (j : Nat) t v, Try.f14.params[j]? = some t → args[j]? = some v → Value.okWide Try.prog W .any base t v := hval0
  have hW' := hW
  obtain ⟨p, q, hA0, hV, rfl, hfz, hnd⟩ := hW
  have hA : DataW.TrodAll enc Try.prog W 0 (fun _ => true) true Try.f14.params.toList args.toList ds p := hA0
  rw [Try.params14] at hA hval
  obtain ⟨v0, vs0, d0, ds0, p0, q0, hargs, rfl, rfl, h0, r0⟩ := trodAll_cons hA
  obtain ⟨v1, vs1, d1, ds1, p1, q1, rfl, rfl, rfl, h1, r1⟩ := trodAll_cons r0
  obtain ⟨rfl, rfl, rfl⟩ := trodAll_nil r1
  obtain rfl : args = #[v0, v1] := by cases args; simp_all
  obtain ⟨rfl, rfl⟩ := trodVars_none hV
  obtain ⟨a0, len0, cap0, rfl⟩ := okWide_slice Try.underlying22 (hval 0 22 v0 rfl rfl)
  have k0 := h0
  have lt0 : ∀ x ∈ p0, x.block < W.heap.size := by obtain ⟨m, hm⟩ := k0; exact DataW.trod_lt m _ _ _ hm
  obtain ⟨z0, w0⟩ : ∃ zs, IsRow .u8 W a0 len0 cap0 zs := by
    obtain ⟨fuel, hf⟩ := h0
    rcases open_ints Try.underlying22 Try.underlying5 (by kernel_rfl) hf with ⟨hcs, _⟩ | ⟨x, l, c, zs, hcs, _, hl, hm, hz, _, hcell, hwz⟩
    · simp [Value.cells] at hcs
      obtain ⟨rfl, rfl, rfl⟩ := hcs
      exact ⟨[], .inl ⟨rfl, rfl, rfl, rfl⟩⟩
    · simp [Value.cells] at hcs
      obtain ⟨rfl, rfl, rfl⟩ := hcs
      exact ⟨zs, .inr ⟨_, rfl, hl, hm, by simpa using hz, hcell, hwz⟩⟩
  obtain ⟨a1, rfl, rfl, rfl, w1⟩ := open_int Try.underlying46 (hval 1 46 v1 rfl rfl) h1
  clear hA0 hval0
  refine (walk a0 len0 cap0 z0 a1 W w0 w1).mono fun e W' ⟨he, bel⟩ => ?_
  subst he
  exact ⟨_, rfl, _, _, _, [], _, [], hW', trodAll_mk1 (shut_bool Try.underlying4 _), (trodAll_cons_mk (Below.trod laidOut (by kernel_rfl) (of_decide_eq_true (by kernel_rfl)) k0 bel lt0) (trodAll_cons_mk (shut_int Try.underlying46 w1) trodAll_mk0)), rfl, bel.frame _, fun h => by cases h⟩

theorem over : Rows.crcEndsRow.holds Try.pinned (OpenSpec.ofChange Rows.crcEndsSpec) :=
  OpenClaim.holds_of_wide 14 Try.f14 rfl rfl rfl rfl rfl rfl rfl ⟨rfl, rfl, rfl, rfl, rfl⟩ rfl rfl rfl rfl rfl (by kernel_rfl) Try.func14 (by kernel_rfl)
    (of_decide_eq_true (by kernel_rfl)) (by unfold Func.isWrapper; first | (rw [if_pos (by decide +kernel)]; kernel_rfl) | (rw [if_neg (by decide +kernel)]; exact ⟨rfl, rfl⟩))
    (fun os started H enc _ => lifted os started H enc)

theorem proved : Rows.CrcEndsSaid := over
end Go.Proofs.Yteoljcbebiemlaa.crcEnds
