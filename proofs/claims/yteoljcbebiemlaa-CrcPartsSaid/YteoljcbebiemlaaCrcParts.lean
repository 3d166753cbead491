/- A sum goes on over parts, and the same bits behind turn unlike sums into unlike ones. CrcParts returns true, whatever the three lists, the memory and the schedule. No condition. -/
import Derived.Test.YteoljcbebiemlaaCrcCon
import Derived.Test.YteoljcbebiemlaaCrcAlive
import Derived.WalkKit
import Derived.Laws.AppendOwnNone
import Derived.ProofKit
import Derived.OpenShut
import Derived.ShutString
import Derived.ChangeOld
import Derived.Below
import Derived.Lib.Hide
namespace Go.Proofs.Yteoljcbebiemlaa.crcParts
open Go Go.ChangeShapes Go.WideShapes Go.ChangeAt Go.RowKit Go.Proofs.Yteoljcbebiemlaa.Cr

theorem long (a0 a1 a2 : Option Addr) (l0 l1 l2 c0 c1 c2 : Nat) (w : World) (m0 : l0 ≤ maxLen) (m1 : l1 ≤ maxLen) (m2 : l2 ≤ maxLen) (h : 20000 < l0 ∨ 20000 < l1 ∨ 20000 < l2) :
    Calls Try.prog 12 #[.slice a0 l0 c0, .slice a1 l1 c1, .slice a2 l2 c2] w fun e w' => e = .returned (.bool true) ∧ Below w.heap.size w w' := by
  unfold maxLen at m0 m1 m2
  by_cases h0 : 20000 < l0
  · go_enter Try.func12, Try.ntmps12
    go_wp2_with (go_at_call 26; refine (alive_ok _).mono ?_; rintro e w' ⟨rfl, hb⟩)
    go_ret
    exact ⟨rfl, by assumption⟩
  by_cases h1 : 20000 < l1
  · go_enter Try.func12, Try.ntmps12
    go_wp2_with (go_at_call 26; refine (alive_ok _).mono ?_; rintro e w' ⟨rfl, hb⟩)
    go_ret
    exact ⟨rfl, by assumption⟩
  have h2 : 20000 < l2 := by omega
  clear h
  go_enter Try.func12, Try.ntmps12
  go_wp2_with (go_at_call 26; refine (alive_ok _).mono ?_; rintro e w' ⟨rfl, hb⟩)
  go_ret
  exact ⟨rfl, by assumption⟩

set_option maxRecDepth 100000 in
set_option maxHeartbeats 2000000 in
theorem more (a0 a1 a2 : Option Addr) (c0 c1 c2 : Nat) (za zb zm : List Int) (w : World) (hla : za.length ≤ 20000) (hlb : zb.length ≤ 20000) (hlm : zm.length ≤ 20000) (hza : ∀ z ∈ za, 0 ≤ z ∧ z ≤ 255) (hzb : ∀ z ∈ zb, 0 ≤ z ∧ z ≤ 255) (hzm : ∀ z ∈ zm, 0 ≤ z ∧ z ≤ 255)
    (hsa : Sl w (.slice a0 za.length c0) za) (hsb : Sl w (.slice a1 zb.length c1) zb) (hsm : Sl w (.slice a2 zm.length c2) zm) (hne : zm ≠ []) :
    Calls Try.prog 12 #[.slice a0 za.length c0, .slice a1 zb.length c1, .slice a2 zm.length c2] w fun e w' => e = .returned (.bool true) ∧ Below w.heap.size w w' := by
  obtain ⟨i0, hi, hz0, hz1, hz2⟩ := info_parts info5
  have x1 : sum (par (za ++ zm)) = crcI (sum (par za)) (par zm) := by rw [par_append]; exact sum_append (par za) (par zm)
  have x2 := crcI_inj (S := sum (par za)) (T := sum (par zb)) (zs := par zm) (sum_bd _).1 (sum_bd _).2 (sum_bd _).1 (sum_bd _).2
  have Za := Lib.hid hza
  have Zb := Lib.hid hzb
  have Zm := Lib.hid hzm
  have Zc : Hid (∀ z ∈ za ++ zm, 0 ≤ z ∧ z ≤ 255) := Lib.hid (fun z hz => by rcases List.mem_append.1 hz with h | h; exact hza z h; exact hzm z h)
  have Sa := Lib.hid hsa
  have Sb := Lib.hid hsb
  have Sm := Lib.hid hsm
  have Ne := Lib.hid hne
  clear hza hzb hzm hsa hsb hsm hne
  by_cases hq : sum (par za) = sum (par zb)
  · clear x2
    go_enter Try.func12, Try.ntmps12
    go_wp2_with (first
    | (go_at_call 26; refine (alive_ok _).mono ?_; rintro e w' ⟨rfl, hb⟩)
    | (go_at_call 29; ((with_reducible refine (bitsB (W := w) (zs := za) Za.out hla Sa.out _ (by assumption)).mono ?_); rintro e w' ⟨va, rfl, howna, hle, hbla, hb⟩; have hsl := howna.sl))
    | (go_at_call 29; ((with_reducible refine (bitsB (W := w) (zs := zb) Zb.out hlb Sb.out _ (by assumption)).mono ?_); rintro e w' ⟨va, rfl, howna, hle, hbla, hb⟩; have hsl := howna.sl))
    | (go_at_call 29; ((with_reducible refine (bitsC (W := w) (zs := zm) Ne.out Zm.out hlm Sm.out _ (by assumption)).mono ?_); rintro e w' ⟨gm, capm, rfl, hownm, hblm, hb⟩; have hsl := hownm.sl))
    | (at_builtin; refine wpList_append_own _ rfl (.tmp 51) (.tmp 53) 22 rfl _ 5 i0 (.int .u8 0) 1 1 Try.underlying22 hi hz0 hz1 hz2 rfl (by decide) _ _ _ rfl (Own.below howna hblm) ⟨gm, 0, none⟩ zm.length capm ((par zm).map (Value.int .u8)) rfl (by simp [par]) (World.ownsRow.cells hownm rfl) (one8 _) (by rw [par_len]; unfold maxLen; omega) (by rw [par_len]; omega) (Nat.le_trans hbla.size hblm.size) ?_; intro v3 w3 hown3 hgrow3 _; have hown4 := own_append hown3; have hsl4 := hown4.sl; have hb4 := below_grown hb (Own.below howna hblm) hle hgrow3; clear hown3 hgrow3)
    | (go_at_call 25; ((refine (ofB (W := w) (par_bits za Za.out) _ (by assumption) (by assumption)).mono ?_); rintro e w' ⟨rfl, hbl, hb⟩))
    | (go_at_call 25; ((refine (ofB (W := w) (par_bits zb Zb.out) _ (by assumption) (by assumption)).mono ?_); rintro e w' ⟨rfl, hbl, hb⟩))
    | (go_at_call 25; ((refine (ofB (W := w) (par_bits (za ++ zm) Zc.out) _ (by assumption) (by assumption)).mono ?_); rintro e w' ⟨rfl, hbl, hb⟩))
    | (go_at_call 24; ((refine (overB (W := w) (sum_bd _).1 (sum_bd _).2 (par_bits zm Zm.out) _ (by assumption) (by assumption)).mono ?_); rintro e w' ⟨rfl, hbl, hb⟩)))
    go_ret
    exact ⟨rfl, by assumption⟩
  · have q1 : (sum (par za) == sum (par zb)) = false := by simpa using hq
    have q2 : (crcI (sum (par za)) (par zm) == crcI (sum (par zb)) (par zm)) = false := by
      rw [Bool.eq_false_iff]; intro h; exact hq (x2 (by simpa using h))
    clear x2 hq
    go_enter Try.func12, Try.ntmps12
    go_wp2_with (first
    | (go_at_call 26; refine (alive_ok _).mono ?_; rintro e w' ⟨rfl, hb⟩)
    | (go_at_call 29; ((with_reducible refine (bitsB (W := w) (zs := za) Za.out hla Sa.out _ (by assumption)).mono ?_); rintro e w' ⟨va, rfl, howna, hle, hbla, hb⟩; have hsl := howna.sl))
    | (go_at_call 29; ((with_reducible refine (bitsB (W := w) (zs := zb) Zb.out hlb Sb.out _ (by assumption)).mono ?_); rintro e w' ⟨va, rfl, howna, hle, hbla, hb⟩; have hsl := howna.sl))
    | (go_at_call 29; ((with_reducible refine (bitsC (W := w) (zs := zm) Ne.out Zm.out hlm Sm.out _ (by assumption)).mono ?_); rintro e w' ⟨gm, capm, rfl, hownm, hblm, hb⟩; have hsl := hownm.sl))
    | (at_builtin; refine wpList_append_own _ rfl (.tmp 51) (.tmp 53) 22 rfl _ 5 i0 (.int .u8 0) 1 1 Try.underlying22 hi hz0 hz1 hz2 rfl (by decide) _ _ _ rfl (Own.below howna hblm) ⟨gm, 0, none⟩ zm.length capm ((par zm).map (Value.int .u8)) rfl (by simp [par]) (World.ownsRow.cells hownm rfl) (one8 _) (by rw [par_len]; unfold maxLen; omega) (by rw [par_len]; omega) (Nat.le_trans hbla.size hblm.size) ?_; intro v3 w3 hown3 hgrow3 _; have hown4 := own_append hown3; have hsl4 := hown4.sl; have hb4 := below_grown hb (Own.below howna hblm) hle hgrow3; clear hown3 hgrow3)
    | (go_at_call 25; ((refine (ofB (W := w) (par_bits za Za.out) _ (by assumption) (by assumption)).mono ?_); rintro e w' ⟨rfl, hbl, hb⟩))
    | (go_at_call 25; ((refine (ofB (W := w) (par_bits zb Zb.out) _ (by assumption) (by assumption)).mono ?_); rintro e w' ⟨rfl, hbl, hb⟩))
    | (go_at_call 25; ((refine (ofB (W := w) (par_bits (za ++ zm) Zc.out) _ (by assumption) (by assumption)).mono ?_); rintro e w' ⟨rfl, hbl, hb⟩))
    | (go_at_call 24; ((refine (overB (W := w) (sum_bd _).1 (sum_bd _).2 (par_bits zm Zm.out) _ (by assumption) (by assumption)).mono ?_); rintro e w' ⟨rfl, hbl, hb⟩)))
    go_ret
    exact ⟨rfl, by assumption⟩
set_option maxRecDepth 100000 in
set_option maxHeartbeats 2000000 in
theorem none_more (a0 a1 a2 : Option Addr) (c0 c1 c2 : Nat) (za zb : List Int) (w : World) (hla : za.length ≤ 20000) (hlb : zb.length ≤ 20000) (hza : ∀ z ∈ za, 0 ≤ z ∧ z ≤ 255) (hzb : ∀ z ∈ zb, 0 ≤ z ∧ z ≤ 255)
    (hsa : Sl w (.slice a0 za.length c0) za) (hsb : Sl w (.slice a1 zb.length c1) zb) (hsm : Sl w (.slice a2 0 c2) []) :
    Calls Try.prog 12 #[.slice a0 za.length c0, .slice a1 zb.length c1, .slice a2 0 c2] w fun e w' => e = .returned (.bool true) ∧ Below w.heap.size w w' := by
  obtain ⟨i0, hi, hz0, hz1, hz2⟩ := info_parts info5
  have x1 : crcI (sum (par za)) [] = sum (par za) := crcI_nil (sum_bd _).1 (sum_bd _).2
  have x2 : crcI (sum (par zb)) [] = sum (par zb) := crcI_nil (sum_bd _).1 (sum_bd _).2
  have Za := Lib.hid hza
  have Zb := Lib.hid hzb
  have Sa := Lib.hid hsa
  have Sb := Lib.hid hsb
  have Sm := Lib.hid hsm
  clear hza hzb hsa hsb hsm
  by_cases hq : sum (par za) = sum (par zb)
  · go_enter Try.func12, Try.ntmps12
    go_wp2_with (first
    | (go_at_call 26; refine (alive_ok _).mono ?_; rintro e w' ⟨rfl, hb⟩)
    | (go_at_call 29; ((with_reducible refine (bitsB (W := w) (zs := za) Za.out hla Sa.out _ (by assumption)).mono ?_); rintro e w' ⟨va, rfl, howna, hle, hbla, hb⟩; have hsl := howna.sl))
    | (go_at_call 29; ((with_reducible refine (bitsB (W := w) (zs := zb) Zb.out hlb Sb.out _ (by assumption)).mono ?_); rintro e w' ⟨va, rfl, howna, hle, hbla, hb⟩; have hsl := howna.sl))
    | (go_at_call 29; ((with_reducible refine (bitsN (W := w) Sm.out _ (by assumption)).mono ?_); rintro e w' ⟨rfl, hblm, hb⟩; (try (have hsl := Own.sl (Own.below howna hblm)))))
    | (at_builtin; refine wpList_append_own_none rfl (.tmp 51) (.tmp 53) 22 rfl _ 5 i0 1 Try.underlying22 hi _ _ _ rfl (Own.below howna hblm) rfl ?_)
    | (go_at_call 25; ((refine (ofB (W := w) (par_bits za Za.out) _ (by assumption) (by assumption)).mono ?_); rintro e w' ⟨rfl, hbl, hb⟩))
    | (go_at_call 25; ((refine (ofB (W := w) (par_bits zb Zb.out) _ (by assumption) (by assumption)).mono ?_); rintro e w' ⟨rfl, hbl, hb⟩))
    | (go_at_call 24; ((refine (overB (W := w) (zs := []) (sum_bd _).1 (sum_bd _).2 (by intro z hz; simp at hz) _ (.inl ⟨_, _, rfl, rfl⟩) (by assumption)).mono ?_); rintro e w' ⟨rfl, hbl, hb⟩)))
    go_ret
    exact ⟨rfl, by assumption⟩
  · have q1 : (sum (par za) == sum (par zb)) = false := by simpa using hq
    clear hq
    go_enter Try.func12, Try.ntmps12
    go_wp2_with (first
    | (go_at_call 26; refine (alive_ok _).mono ?_; rintro e w' ⟨rfl, hb⟩)
    | (go_at_call 29; ((with_reducible refine (bitsB (W := w) (zs := za) Za.out hla Sa.out _ (by assumption)).mono ?_); rintro e w' ⟨va, rfl, howna, hle, hbla, hb⟩; have hsl := howna.sl))
    | (go_at_call 29; ((with_reducible refine (bitsB (W := w) (zs := zb) Zb.out hlb Sb.out _ (by assumption)).mono ?_); rintro e w' ⟨va, rfl, howna, hle, hbla, hb⟩; have hsl := howna.sl))
    | (go_at_call 29; ((with_reducible refine (bitsN (W := w) Sm.out _ (by assumption)).mono ?_); rintro e w' ⟨rfl, hblm, hb⟩; (try (have hsl := Own.sl (Own.below howna hblm)))))
    | (at_builtin; refine wpList_append_own_none rfl (.tmp 51) (.tmp 53) 22 rfl _ 5 i0 1 Try.underlying22 hi _ _ _ rfl (Own.below howna hblm) rfl ?_)
    | (go_at_call 25; ((refine (ofB (W := w) (par_bits za Za.out) _ (by assumption) (by assumption)).mono ?_); rintro e w' ⟨rfl, hbl, hb⟩))
    | (go_at_call 25; ((refine (ofB (W := w) (par_bits zb Zb.out) _ (by assumption) (by assumption)).mono ?_); rintro e w' ⟨rfl, hbl, hb⟩))
    | (go_at_call 24; ((refine (overB (W := w) (zs := []) (sum_bd _).1 (sum_bd _).2 (by intro z hz; simp at hz) _ (.inl ⟨_, _, rfl, rfl⟩) (by assumption)).mono ?_); rintro e w' ⟨rfl, hbl, hb⟩)))
    go_ret
    exact ⟨rfl, by assumption⟩

theorem walk (a0 : Option Addr) (l0 c0 : Nat) (z0 : List Int) (a1 : Option Addr) (l1 c1 : Nat) (z1 : List Int) (a2 : Option Addr) (l2 c2 : Nat) (z2 : List Int) (w : World) (w0 : IsRow .u8 w a0 l0 c0 z0) (w1 : IsRow .u8 w a1 l1 c1 z1) (w2 : IsRow .u8 w a2 l2 c2 z2) :
    Calls Try.prog 12 #[.slice a0 l0 c0, .slice a1 l1 c1, .slice a2 l2 c2] w fun e w' => e = .returned (.bool true) ∧ Below w.heap.size w w' := by
  have m0 := w0.le
  have m1 := w1.le
  have m2 := w2.le
  by_cases h : 20000 < l0 ∨ 20000 < l1 ∨ 20000 < l2
  · exact long a0 a1 a2 l0 l1 l2 c0 c1 c2 w m0 m1 m2 h
  obtain ⟨za, rfl, sa, ha⟩ := w0.sl
  obtain ⟨zb, rfl, sb, hb⟩ := w1.sl
  obtain ⟨zm, rfl, sm, hm⟩ := w2.sl
  by_cases hne : zm = []
  · subst hne
    exact none_more a0 a1 a2 c0 c1 c2 za zb w (by omega) (by omega) ha hb sa sb sm
  · exact more a0 a1 a2 c0 c1 c2 za zb zm w (by omega) (by omega) (by omega) ha hb hm sa sb sm hne

theorem laidOut : laidOutB Try.prog = true := by kernel_rfl
theorem own : ownKnob Try.prog.godebug = none := by kernel_rfl
set_option linter.unusedVariables false
set_option maxRecDepth 100000 in
theorem lifted (os : Os) (started : os.Started) (H : Type) (enc : TypeId × Value → H) :
    ReturnsInHanded {} Try.checked os 12 .any (Rows.crcPartsSpec.pre6 enc Try.prog Try.f12 Rows.crcPartsRow.domain false) (Rows.crcPartsSpec.post enc Try.prog Try.f12 false true false false) := by
  refine returnsInHanded_of_change (C := Try.checked) own started (by kernel_rfl) Try.func12
    (ChangeSpec.witness6 (enc := enc) (C := Try.checked) false ⟨#[], #[.slice none 0 0, .slice none 0 0, .slice none 0 0], []⟩ 8 (by kernel_rfl) (by kernel_rfl) (by kernel_rfl) (by kernel_rfl)) ?_
  intro W base args ds gs before hval0 hW hcnd _
  have hval : ∀ (j : Nat) t v, Try.f12.params[j]? = some t → args[j]? = some v → Value.okWide Try.prog W .any base t v := hval0
  have hW' := hW
  obtain ⟨p, q, hA0, hV, rfl, hfz, hnd⟩ := hW
  have hA : DataW.TrodAll enc Try.prog W 0 (fun _ => true) true Try.f12.params.toList args.toList ds p := hA0
  rw [Try.params12] at hA hval
  obtain ⟨v0, vs0, d0, ds0, p0, q0, hargs, rfl, rfl, h0, r0⟩ := trodAll_cons hA
  obtain ⟨v1, vs1, d1, ds1, p1, q1, rfl, rfl, rfl, h1, r1⟩ := trodAll_cons r0
  obtain ⟨v2, vs2, d2, ds2, p2, q2, rfl, rfl, rfl, h2, r2⟩ := trodAll_cons r1
  obtain ⟨rfl, rfl, rfl⟩ := trodAll_nil r2
  obtain rfl : args = #[v0, v1, v2] := by cases args; simp_all
  obtain ⟨rfl, rfl⟩ := trodVars_none hV
  obtain ⟨a0, len0, cap0, rfl⟩ := okWide_slice Try.underlying22 (hval 0 22 v0 rfl rfl)
  have k0 := h0
  have lt0 : ∀ x ∈ p0, x.block < W.heap.size := by obtain ⟨m, hm⟩ := k0; exact DataW.trod_lt m _ _ _ hm
  obtain ⟨z0, w0⟩ : ∃ zs, IsRow .u8 W a0 len0 cap0 zs := by
    obtain ⟨fuel, hf⟩ := h0
    rcases open_ints Try.underlying22 Try.underlying5 (by kernel_rfl) hf with ⟨hcs, _⟩ | ⟨x, l, c, zs, hcs, _, hl, hm, hz, _, hcell, hwz⟩
    · simp [Value.cells] at hcs
      obtain ⟨rfl, rfl, rfl⟩ := hcs
      exact ⟨[], .inl ⟨rfl, rfl, rfl, rfl⟩⟩
    · simp [Value.cells] at hcs
      obtain ⟨rfl, rfl, rfl⟩ := hcs
      exact ⟨zs, .inr ⟨_, rfl, hl, hm, by simpa using hz, hcell, hwz⟩⟩
  obtain ⟨a1, len1, cap1, rfl⟩ := okWide_slice Try.underlying22 (hval 1 22 v1 rfl rfl)
  have k1 := h1
  have lt1 : ∀ x ∈ p1, x.block < W.heap.size := by obtain ⟨m, hm⟩ := k1; exact DataW.trod_lt m _ _ _ hm
  obtain ⟨z1, w1⟩ : ∃ zs, IsRow .u8 W a1 len1 cap1 zs := by
    obtain ⟨fuel, hf⟩ := h1
    rcases open_ints Try.underlying22 Try.underlying5 (by kernel_rfl) hf with ⟨hcs, _⟩ | ⟨x, l, c, zs, hcs, _, hl, hm, hz, _, hcell, hwz⟩
    · simp [Value.cells] at hcs
      obtain ⟨rfl, rfl, rfl⟩ := hcs
      exact ⟨[], .inl ⟨rfl, rfl, rfl, rfl⟩⟩
    · simp [Value.cells] at hcs
      obtain ⟨rfl, rfl, rfl⟩ := hcs
      exact ⟨zs, .inr ⟨_, rfl, hl, hm, by simpa using hz, hcell, hwz⟩⟩
  obtain ⟨a2, len2, cap2, rfl⟩ := okWide_slice Try.underlying22 (hval 2 22 v2 rfl rfl)
  have k2 := h2
  have lt2 : ∀ x ∈ p2, x.block < W.heap.size := by obtain ⟨m, hm⟩ := k2; exact DataW.trod_lt m _ _ _ hm
  obtain ⟨z2, w2⟩ : ∃ zs, IsRow .u8 W a2 len2 cap2 zs := by
    obtain ⟨fuel, hf⟩ := h2
    rcases open_ints Try.underlying22 Try.underlying5 (by kernel_rfl) hf with ⟨hcs, _⟩ | ⟨x, l, c, zs, hcs, _, hl, hm, hz, _, hcell, hwz⟩
    · simp [Value.cells] at hcs
      obtain ⟨rfl, rfl, rfl⟩ := hcs
      exact ⟨[], .inl ⟨rfl, rfl, rfl, rfl⟩⟩
    · simp [Value.cells] at hcs
      obtain ⟨rfl, rfl, rfl⟩ := hcs
      exact ⟨zs, .inr ⟨_, rfl, hl, hm, by simpa using hz, hcell, hwz⟩⟩
  clear hA0 hval0
  refine (walk a0 len0 cap0 z0 a1 len1 cap1 z1 a2 len2 cap2 z2 W w0 w1 w2).mono fun e W' ⟨he, bel⟩ => ?_
  subst he
  exact ⟨_, rfl, _, _, _, [], _, [], hW', trodAll_mk1 (shut_bool Try.underlying4 _), (trodAll_cons_mk (Below.trod laidOut (by kernel_rfl) (of_decide_eq_true (by kernel_rfl)) k0 bel lt0) (trodAll_cons_mk (Below.trod laidOut (by kernel_rfl) (of_decide_eq_true (by kernel_rfl)) k1 bel lt1) (trodAll_cons_mk (Below.trod laidOut (by kernel_rfl) (of_decide_eq_true (by kernel_rfl)) k2 bel lt2) trodAll_mk0))), rfl, bel.frame _, fun h => by cases h⟩

theorem over : Rows.crcPartsRow.holds Try.pinned (OpenSpec.ofChange Rows.crcPartsSpec) :=
  OpenClaim.holds_of_wide 12 Try.f12 rfl rfl rfl rfl rfl rfl rfl ⟨rfl, rfl, rfl, rfl, rfl⟩ rfl rfl rfl rfl rfl (by kernel_rfl) Try.func12 (by kernel_rfl)
    (of_decide_eq_true (by kernel_rfl)) (by unfold Func.isWrapper; first | (rw [if_pos (by decide +kernel)]; kernel_rfl) | (rw [if_neg (by decide +kernel)]; exact ⟨rfl, rfl⟩))
    (fun os started H enc _ => lifted os started H enc)

theorem proved : Rows.CrcPartsSaid := over
end Go.Proofs.Yteoljcbebiemlaa.crcParts
