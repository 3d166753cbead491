/- A number's bits are those of its parts. BitsSplit returns true, whatever the number and the sizes, the memory and the schedule. No condition. -/
import Derived.Test.YteoljcbebiemlaaBiGet
import Derived.Test.YteoljcbebiemlaaBiAlive
import Derived.WalkKit
import Derived.ProofKit
import Derived.OpenShut
import Derived.ShutString
import Derived.ChangeOld
import Derived.Below
import Derived.Lib.Hide
namespace Go.Proofs.Yteoljcbebiemlaa.bitsSplit
open Go Go.ChangeShapes Go.WideShapes Go.ChangeAt Go.RowKit Go.Proofs.Yteoljcbebiemlaa.Cr Go.Proofs.Yteoljcbebiemlaa.Bi

theorem tmod16 {h : Int} (h0 : 0 ≤ h) : ∃ a : Nat, a ≤ 15 ∧ Int.tmod h 16 = a := ⟨(h % 16).toNat, by omega, by rw [Int.tmod_eq_emod_of_nonneg h0]; omega⟩

theorem retB {a : Bool} (h : a = true) : Ending.returned (.bool a) = .returned (.bool true) := by rw [h]
theorem conv_zero (w : World) (a : Option Addr) (cap : Nat) : (convert 22 9 (.slice a 0 cap)).run Try.prog w = .ok (.string (strOfNums [])) w := by
  cases a with
  | none => exact run_convert_bytes_nil w 22 5 Try.underlying22 Try.underlying5 0 cap 9 Try.underlying9
  | some x =>
    have hl : (loadCells x 0).run Try.prog w = .ok (([] : List Int).map (Value.int .u8)).toArray w := by
      have := run_loadCells_list (P := Try.prog) w x [] (fun j v hj => by simp at hj)
      simpa using this
    rw [run_convert_bytes_string w 22 9 5 _ 0 cap Try.underlying22 Try.underlying5 Try.underlying9, run_bytesToString w x 0 cap [] hl]
    rfl
theorem conv_sl {w : World} {v : Value} {zs : List Int} (h : Sl w v zs) : (convert 22 9 v).run Try.prog w = .ok (.string (strOfNums zs)) w := by
  rcases h with ⟨a', cap', rfl, rfl⟩ | ⟨b, off, cap', rfl, h2, h3, h4, h5⟩
  · exact conv_zero w a' cap'
  · exact run_convert_bytes_arg w 22 5 Try.underlying22 Try.underlying5 b off zs.length cap' zs rfl h5 9 Try.underlying9
/-- Put behind what the call itself has made. -/
theorem put_own {W w : World} {base : Nat} {v : Value} {zs : List Int} (X : Int) (s : Nat) (ho : Cr.Own base w v zs) (hl : zs.length ≤ 100000) (s1 : s ≤ 31) (x0 : 0 ≤ X) (x1 : X < 2 ^ s) (_ : Below W.heap.size W w) :
    Calls Try.prog 15 #[v, .int .i64 X, .int .i64 s] w fun e w' => ∃ v', e = .returned (.tuple #[v', .int .i64 0]) ∧ Cr.Own w.heap.size w' v' (zs ++ bi X s) ∧ Below w.heap.size w w' := by
  have hcells := @World.ownsRow.cells _ _ _ _ _ _ _ ho
  obtain ⟨hx, ⟨rfl, hn⟩ | ⟨g, cap, cur, rfl, hg, hh, hc, hm, hs, ht⟩⟩ := ho
  · obtain rfl : zs = [] := List.eq_nil_of_length_eq_zero hn
    exact put_none X s w s1 x0 x1
  · exact put_some ⟨g, 0, none⟩ cap zs X s w s1 x0 x1 hl (fun j u hu => hcells rfl j u hu)
theorem and_mask {N : Int} (n0 : 0 ≤ N) (n1 : N ≤ 9223372036854775807) (b : Nat) (hb : b ≤ 31) : bits .and .i64 N (2 ^ b - 1) = N % 2 ^ b := by
  obtain ⟨p0, p1⟩ := pow_bd hb
  have e : bits .and .i64 N (2 ^ b - 1) = IntKind.i64.wrap (((BitVec.ofInt IntKind.i64.bits N &&& BitVec.ofInt IntKind.i64.bits (2 ^ b - 1)).toNat : Nat) : Int) := rfl
  rw [e, BitVec.toNat_and, ofInt64 n0 n1, ofInt64 (by omega) (by omega)]
  obtain ⟨n, rfl⟩ : ∃ n : Nat, N = n := ⟨N.toNat, by omega⟩
  have h2 : ((2 : Int) ^ b - 1).toNat = 2 ^ b - 1 := by
    have : ((2 ^ b : Nat) : Int) = (2 : Int) ^ b := by simp
    omega
  rw [h2, Int.toNat_natCast, Nat.and_two_pow_sub_one_eq_mod]
  have h3 : ((n % 2 ^ b : Nat) : Int) = (n : Int) % 2 ^ b := by simp
  have h4 := Int.emod_nonneg (n : Int) (show (2 : Int) ^ b ≠ 0 by omega)
  have h5 := Int.emod_lt_of_pos (n : Int) (show (0 : Int) < 2 ^ b by omega)
  rw [h3, i64_in (by omega) (by omega)]

theorem bad (N h l : Int) (w : World) (h0 : 0 ≤ h) (h1 : h ≤ 255) (l0 : 0 ≤ l) (l1 : l ≤ 255) (n0 : -9223372036854775808 ≤ N) (n1 : N ≤ 9223372036854775807) (a b : Nat) (ha : a ≤ 15) (hb : b ≤ 15) (ea : Int.tmod h 16 = a) (eb : Int.tmod l 16 = b) (hN : N < 0 ∨ 2 ^ (a + b) ≤ N) :
    Calls Try.prog 8 #[.int .i64 N, .int .u8 h, .int .u8 l] w fun e w' => e = .returned (.bool true) ∧ Below w.heap.size w w' := by
  have hP : ∀ w, Calls Try.prog 15 #[.slice none 0 0, .int .i64 N, .int .i64 ((a : Int) + (b : Int))] w fun e w' => e = .returned (.tuple #[.slice none 0 0, .int .i64 2]) ∧ w = w' := fun w => put_bad _ N _ w (by
    rw [show ((a : Int) + (b : Int)).toNat = a + b by omega]; omega)
  have HP := Lib.hid hP
  clear hP
  by_cases hx : N < 0
  · go_enter Try.func8, Try.ntmps8
    go_wp2_with (first
      | (go_at_call 15; ((with_reducible refine (HP.out _).mono ?_); rintro e w1 ⟨rfl, rfl⟩))
      | (go_at_call 19; ((with_reducible refine (alive_ok _).mono ?_); rintro e w2 ⟨rfl, hb2⟩)))
    go_ret
    exact ⟨rfl, hb2⟩
  · have hx2 : 2 ^ (a + b) ≤ N := by omega
    have hp : (0 : Int) < 2 ^ (a + b) := Int.pow_pos (by decide)
    have hq : (N / 2 ^ (a + b) != 0) = true := by
      have : 1 ≤ N / 2 ^ (a + b) := by rw [Int.le_ediv_iff_mul_le hp]; omega
      simp; omega
    have HQ := Lib.hid hq
    clear hq hp
    go_enter Try.func8, Try.ntmps8
    go_wp2_with (first
      | (go_at_call 15; ((with_reducible refine (HP.out _).mono ?_); rintro e w1 ⟨rfl, rfl⟩))
      | (go_at_call 19; ((with_reducible refine (alive_ok _).mono ?_); rintro e w2 ⟨rfl, hb2⟩)))
    go_ret
    exact ⟨retB (by rw [HQ.out]; simp), hb2⟩

set_option maxRecDepth 100000 in
set_option maxHeartbeats 1000000 in
theorem good (N h l : Int) (w : World) (h0 : 0 ≤ h) (h1 : h ≤ 255) (l0 : 0 ≤ l) (l1 : l ≤ 255) (n1 : N ≤ 9223372036854775807) (a b : Nat) (ha : a ≤ 15) (hb : b ≤ 15) (ea : Int.tmod h 16 = a) (eb : Int.tmod l 16 = b) (n0 : 0 ≤ N) (hN : N < 2 ^ (a + b)) :
    Calls Try.prog 8 #[.int .i64 N, .int .u8 h, .int .u8 l] w fun e w' => e = .returned (.bool true) ∧ Below w.heap.size w w' := by
  have hP : ∀ w, Calls Try.prog 15 #[.slice none 0 0, .int .i64 N, .int .i64 ((a : Int) + (b : Int))] w fun e w' => ∃ v, e = .returned (.tuple #[v, .int .i64 0]) ∧ Cr.Own w.heap.size w' v (bi N (a + b)) ∧ Below w.heap.size w w' := fun w => by
    have := put_none N (a + b) w (by omega) n0 hN
    rw [Int.natCast_add] at this
    exact this
  have HP := Lib.hid hP
  clear hP
  obtain ⟨p0, p1⟩ := pow_bd (s := b) (by omega)
  have hp : (0 : Int) < 2 ^ b := by omega
  have e1 : N / 2 ^ b < 2 ^ a := by rw [Int.ediv_lt_iff_lt_mul hp, ← Int.pow_add]; exact hN
  have e0 : 0 ≤ N / 2 ^ b := Int.ediv_nonneg n0 (by omega)
  have e2 := Int.emod_nonneg N (show (2 : Int) ^ b ≠ 0 by omega)
  have e3 := Int.emod_lt_of_pos N hp
  have hQ : ∀ w, Calls Try.prog 15 #[.slice none 0 0, .int .i64 (N / 2 ^ b), .int .i64 a] w fun e w' => ∃ v, e = .returned (.tuple #[v, .int .i64 0]) ∧ Cr.Own w.heap.size w' v (bi (N / 2 ^ b) a) ∧ Below w.heap.size w w' := fun w => put_none (N / 2 ^ b) a w (by omega) e0 e1
  have HQ := Lib.hid hQ
  have hR : ∀ (w : World) (base : Nat) (v : Value), Cr.Own base w v (bi (N / 2 ^ b) a) → Calls Try.prog 15 #[v, .int .i64 (N % 2 ^ b), .int .i64 b] w fun e w' => ∃ v', e = .returned (.tuple #[v', .int .i64 0]) ∧ Cr.Own w.heap.size w' v' (bi N (a + b)) ∧ Below w.heap.size w w' := fun w base v ho => by
    rw [bi_split N a b n0 hN]
    exact put_own (W := w) (N % 2 ^ b) b ho (by rw [bi_len]; omega) (by omega) e2 e3 (Below.refl _ _)
  have HR := Lib.hid hR
  have hmask := and_mask n0 n1 b (by omega)
  clear hQ hR e0 e1 e2 e3 hN
  go_enter Try.func8, Try.ntmps8
  go_wp2_with (first
    | (go_at_call 15; ((with_reducible refine (HP.out _).mono ?_); rintro e w1 ⟨v1, rfl, ho1, hb1⟩))
    | (go_at_call 15; ((with_reducible refine (HQ.out _).mono ?_); rintro e w2 ⟨v2, rfl, ho2, hb2⟩; have ho3 := Cr.Own.below ho1 hb2))
    | (go_at_call 15; ((with_reducible refine (HR.out _ _ _ ho2).mono ?_); rintro e w3 ⟨v3, rfl, ho4, hb3⟩; have ho5 := Cr.Own.below ho3 hb3))
    | (go_at_call 19; ((with_reducible refine (alive_ok _).mono ?_); rintro e w4 ⟨rfl, hb4⟩; have q1 := conv_sl (Cr.Own.below ho5 hb4).sl; have q2 := conv_sl (Cr.Own.below ho4 hb4).sl)))
  go_ret
  exact ⟨rfl, belowT hb1 (belowT hb2 (belowT hb3 hb4))⟩

theorem walk (N h l : Int) (w : World) (hN : (Lit.int .i64 N).wf = true) (hh : (Lit.int .u8 h).wf = true) (hl : (Lit.int .u8 l).wf = true) :
    Calls Try.prog 8 #[.int .i64 N, .int .u8 h, .int .u8 l] w fun e w' => e = .returned (.bool true) ∧ Below w.heap.size w w' := by
  have bN := bounds_i64 hN
  have bh := bounds_u8 hh
  have bl := bounds_u8 hl
  obtain ⟨a, ha, ea⟩ := tmod16 bh.1
  obtain ⟨b, hb, eb⟩ := tmod16 bl.1
  by_cases h : N < 0 ∨ 2 ^ (a + b) ≤ N
  · exact bad N _ _ w bh.1 (by omega) bl.1 (by omega) (by omega) (by omega) a b ha hb ea eb h
  · exact good N _ _ w bh.1 (by omega) bl.1 (by omega) (by omega) a b ha hb ea eb (by omega) (by omega)

theorem own : ownKnob Try.prog.godebug = none := by kernel_rfl
set_option linter.unusedVariables false
set_option maxRecDepth 100000 in
theorem lifted (os : Os) (started : os.Started) (H : Type) (enc : TypeId × Value → H) :
    ReturnsInHanded {} Try.checked os 8 .any (Rows.bitsSplitSpec.pre6 enc Try.prog Try.f8 Rows.bitsSplitRow.domain false) (Rows.bitsSplitSpec.post enc Try.prog Try.f8 false true false false) := by
  refine returnsInHanded_of_change (C := Try.checked) own started (by kernel_rfl) Try.func8
    (ChangeSpec.witness6 (enc := enc) (C := Try.checked) false ⟨#[], #[.int .i64 0, .int .u8 0, .int .u8 0], []⟩ 8 (by kernel_rfl) (by kernel_rfl) (by kernel_rfl) (by kernel_rfl)) ?_
  intro W base args ds gs before hval0 hW hcnd _
  have hval : ∀ (j : Nat) t v, Try.f8.params[j]? = some t → args[j]? = some v → Value.okWide Try.prog W .any base t v := hval0
  have hW' := hW
  obtain ⟨p, q, hA0, hV, rfl, hfz, hnd⟩ := hW
  have hA : DataW.TrodAll enc Try.prog W 0 (fun _ => true) true Try.f8.params.toList args.toList ds p := hA0
  rw [Try.params8] at hA hval
  obtain ⟨v0, vs0, d0, ds0, p0, q0, hargs, rfl, rfl, h0, r0⟩ := trodAll_cons hA
  obtain ⟨v1, vs1, d1, ds1, p1, q1, rfl, rfl, rfl, h1, r1⟩ := trodAll_cons r0
  obtain ⟨v2, vs2, d2, ds2, p2, q2, rfl, rfl, rfl, h2, r2⟩ := trodAll_cons r1
  obtain ⟨rfl, rfl, rfl⟩ := trodAll_nil r2
  obtain rfl : args = #[v0, v1, v2] := by cases args; simp_all
  obtain ⟨rfl, rfl⟩ := trodVars_none hV
  obtain ⟨a0, rfl, rfl, rfl, w0⟩ := open_int Try.underlying3 (hval 0 3 v0 rfl rfl) h0
  obtain ⟨a1, rfl, rfl, rfl, w1⟩ := open_int Try.underlying5 (hval 1 5 v1 rfl rfl) h1
  obtain ⟨a2, rfl, rfl, rfl, w2⟩ := open_int Try.underlying5 (hval 2 5 v2 rfl rfl) h2
  clear hA0 hval0
  simp only [List.append_nil] at hW'
  refine (walk a0 a1 a2 W w0 w1 w2).mono fun e W' ⟨he, bel⟩ => ?_
  subst he
  exact ⟨_, rfl, _, _, _, [], _, [], hW', trodAll_mk1 (shut_bool Try.underlying4 _), (trodAll_cons_mk (shut_int Try.underlying3 w0) (trodAll_cons_mk (shut_int Try.underlying5 w1) (trodAll_cons_mk (shut_int Try.underlying5 w2) trodAll_mk0))), rfl, bel.frame _, fun h => by cases h⟩

theorem over : Rows.bitsSplitRow.holds Try.pinned (OpenSpec.ofChange Rows.bitsSplitSpec) :=
  OpenClaim.holds_of_wide 8 Try.f8 rfl rfl rfl rfl rfl rfl rfl ⟨rfl, rfl, rfl, rfl, rfl⟩ rfl rfl rfl rfl rfl (by kernel_rfl) Try.func8 (by kernel_rfl)
    (of_decide_eq_true (by kernel_rfl)) (by unfold Func.isWrapper; first | (rw [if_pos (by decide +kernel)]; kernel_rfl) | (rw [if_neg (by decide +kernel)]; exact ⟨rfl, rfl⟩))
    (fun os started H enc _ => lifted os started H enc)

theorem proved : Rows.BitsSplitSaid := over
end Go.Proofs.Yteoljcbebiemlaa.bitsSplit
