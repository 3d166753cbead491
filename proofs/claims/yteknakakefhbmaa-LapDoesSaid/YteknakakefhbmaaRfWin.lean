/- The answer's windows. -/
import Derived.Test.YteknakakefhbmaaRfLst
import Derived.WalkKit
import Derived.Below
import Derived.RegionTactic
import Derived.Deep.QuietTactic
import Derived.BigQuiet
import Derived.ChangeAlike
import Derived.Deep.OwnRows
import Derived.Deep.RegionLaw
import Derived.ProofKit
import Derived.OpenShut
import Derived.ChangeSlices
import Derived.Lib.Hide
import Derived.Great.Walk
import Derived.ChangeKeysEq
import Derived.ChangeOld
import Derived.ShutString
namespace Go.Proofs.Yteknakakefhbmaa.Rf
open Go Go.ChangeShapes Go.WideShapes Go.ChangeAt Go.RowKit Go.Proofs.Yteknakakefhbmaa.Fx Go.Proofs.Yteknakakefhbmaa.Rk Go.Proofs.Yteknakakefhbmaa.Mm Go.Proofs.Yteknakakefhbmaa.Md Go.Proofs.Yteknakakefhbmaa.Bl Go.Proofs.Yteknakakefhbmaa.Cpy

/-- A list that is read. -/
def Got (n : Nat) (L : List Int) (w : World) (e : Ending) (w' : World) : Prop := ∃ A c, e = .returned (.slice A n c) ∧ RdA w' A L ∧ Below w.heap.size w w'
theorem got_of {n : Nat} {L L' : List Int} {w w' : World} {e : Ending} (hn : L.length = n) (he : L = L') (h : ∃ v, e = .returned v ∧ Fx.Own w.heap.size w' v L ∧ Below w.heap.size w w') : Got n L' w e w' := by
  subst he hn
  obtain ⟨v, rfl, ho, hb⟩ := h
  obtain ⟨A, c, rfl, r⟩ := ho.rd.open
  exact ⟨A, c, rfl, r, hb⟩
theorem LL_mk (l : List Nat) (k : Nat) (F : Nat → Int) (h : ∀ j, F j = ((l.getD j 0 : Nat) : Int)) : LL l k = mk k F := by
  rw [show F = fun j => ((l.getD j 0 : Nat) : Int) from funext h]; rfl
theorem rv_long (sh : Int) (w : World) (h : sh = 0 ∨ sh = 1) : Calls Try.prog 54 #[.int .u8 sh, .bool false] w (Got 256 (mk 256 (hf sh false)) w) := by
  rcases h with rfl | rfl
  · exact (rvals_sl w).mono fun e w' h => got_of (LL_len _ _) (LL_mk _ _ _ fun j => rfl) h
  · exact (rvals_kl w).mono fun e w' h => got_of (LL_len _ _) (LL_mk _ _ _ fun j => rfl) h
theorem rv_short (sh : Int) (w : World) (h : sh = 0 ∨ sh = 1) : Calls Try.prog 54 #[.int .u8 sh, .bool true] w (Got 32 (mk 32 (hf sh true)) w) := by
  rcases h with rfl | rfl
  · exact (rvals_ss w).mono fun e w' h => got_of (LL_len _ _) (LL_mk _ _ _ fun j => rfl) h
  · exact (rvals_ks w).mono fun e w' h => got_of (LL_len _ _) (LL_mk _ _ _ fun j => rfl) h
theorem back_got (A : Option Addr) (cap n : Nat) (F : Nat → Int) (w : World) (hn : n ≤ 1000) (rd : RdA w A (mk n F)) : Calls Try.prog 55 #[.slice A n cap] w (Got n (mk n (fun j => F (n - 1 - j))) w) :=
  (back_ok A cap n (mk n F) w (mk_len _ _) hn rd).mono fun e w' h => got_of (mk_len _ _) (mk_congr fun j hj => mk_at (by omega)) h
theorem same_got (x : Int) (n : Nat) (w : World) (hn : n ≤ 1000) : Calls Try.prog 53 #[.int .i64 x, .int .i64 n] w (Got n (List.replicate n x) w) :=
  (same_ok x n w hn).mono fun e w' h => got_of (mk_len _ _) (by simp [mk, List.map_const']) h
theorem same_112 (x : Int) (w : World) : Calls Try.prog 53 #[.int .i64 x, .int .i64 112] w (Got 112 (List.replicate 112 x) w) := same_got x 112 w (by decide)
theorem wv_0 (was shape : Int) : wv 0 was shape = ([] ++ mk 256 (hf was false)) ++ mk 256 (fun j => hf shape false (256 - 1 - j)) := rfl
theorem wv_1 (was shape : Int) : wv 1 was shape = ((([] ++ mk 256 (hf was false)) ++ List.replicate 112 4194304) ++ mk 32 (fun j => hf shape true (32 - 1 - j))) ++ List.replicate 112 0 := rfl
theorem wv_3 (was shape : Int) : wv 3 was shape = ((([] ++ List.replicate 112 0) ++ mk 32 (hf was true)) ++ List.replicate 112 4194304) ++ mk 256 (fun j => hf shape false (256 - 1 - j)) := rfl
theorem wt_0 (was shape : Int) : wt was shape = ([] ++ mk 32 (hf was true)) ++ mk 32 (fun j => hf shape true (32 - 1 - j)) := rfl
set_option maxRecDepth 100000 in
set_option maxHeartbeats 4000000 in
theorem vals_0 (was shape : Int) (w : World) (h1 : was = 0 ∨ was = 1) (h2 : shape = 0 ∨ shape = 1) : Calls Try.prog 38 #[.int .u8 0, .int .u8 was, .int .u8 shape] w fun e w' => ∃ v, e = .returned v ∧ Fx.Own w.heap.size w' v (wv 0 was shape) ∧ Below w.heap.size w w' := by
  have H1 := Lib.hid h1
  have H2 := Lib.hid h2
  have O0 := Lib.hid (own_nil w w.heap.size)
  have B0 := Lib.hid (Below.refl w.heap.size w)
  clear h1 h2
  rw [wv_0]
  go_enter Try.func38, Try.ntmps38
  go_wp2_with first
    | (go_at_call 54; ((with_reducible refine (rv_long was _ H1.out).mono ?_); rintro e w1 ⟨A1, c1, rfl, r1, hb1⟩; have R1 := Lib.hid r1; have O1 := Lib.hid (O0.out.below hb1); have B1 := Lib.hid (bt B0.out hb1); clear r1 hb1))
    | (at_builtin; refine app_row _ rfl (.tmp 25) (.tmp 27) rfl w.heap.size [] (mk 256 (hf was false)) _ A1 256 c1 rfl O1.out rfl (mk_len _ _) (by decide) R1.out B1.out.size (by simp [mk_len]) ?_; intro v2 w2 ho hb; have O2 := Lib.hid ho; have B2 := Lib.hid (B1.out.trans hb); clear ho hb)
    | (go_at_call 54; ((with_reducible refine (rv_long shape _ H2.out).mono ?_); rintro e w3 ⟨A3, c3, rfl, r3, hb3⟩; have R3 := Lib.hid r3; have O3 := Lib.hid (O2.out.below hb3); have B3 := Lib.hid (bt B2.out hb3); clear r3 hb3))
    | (go_at_call 55; ((with_reducible refine (back_got _ _ 256 (hf shape false) _ (by decide) R3.out).mono ?_); rintro e w4 ⟨A4, c4, rfl, r4, hb4⟩; have R4 := Lib.hid r4; have O4 := Lib.hid (O3.out.below hb4); have B4 := Lib.hid (bt B3.out hb4); clear r4 hb4))
    | (at_builtin; refine app_row _ rfl (.tmp 31) (.tmp 34) rfl w.heap.size ([] ++ mk 256 (hf was false)) (mk 256 (fun j => hf shape false (256 - 1 - j))) _ A4 256 c4 rfl O4.out rfl (mk_len _ _) (by decide) R4.out B4.out.size (by simp [mk_len]) ?_; intro v5 w5 ho hb; have O5 := Lib.hid ho; have B5 := Lib.hid (B4.out.trans hb); clear ho hb)
  go_ret
  exact ⟨_, rfl, O5.out, B5.out⟩
set_option maxRecDepth 100000 in
set_option maxHeartbeats 4000000 in
theorem vals_1 (was shape : Int) (w : World) (h1 : was = 0 ∨ was = 1) (h2 : shape = 0 ∨ shape = 1) : Calls Try.prog 38 #[.int .u8 1, .int .u8 was, .int .u8 shape] w fun e w' => ∃ v, e = .returned v ∧ Fx.Own w.heap.size w' v (wv 1 was shape) ∧ Below w.heap.size w w' := by
  have H1 := Lib.hid h1
  have H2 := Lib.hid h2
  have O0 := Lib.hid (own_nil w w.heap.size)
  have B0 := Lib.hid (Below.refl w.heap.size w)
  clear h1 h2
  rw [wv_1]
  go_enter Try.func38, Try.ntmps38
  go_wp2_with first
    | (go_at_call 54; ((with_reducible refine (rv_long was _ H1.out).mono ?_); rintro e w1 ⟨A1, c1, rfl, r1, hb1⟩; have R1 := Lib.hid r1; have O1 := Lib.hid (O0.out.below hb1); have B1 := Lib.hid (bt B0.out hb1); clear r1 hb1))
    | (at_builtin; refine app_row _ rfl (.tmp 25) (.tmp 27) rfl w.heap.size [] (mk 256 (hf was false)) _ A1 256 c1 rfl O1.out rfl (mk_len _ _) (by decide) R1.out B1.out.size (by simp [mk_len]) ?_; intro v2 w2 ho hb; have O2 := Lib.hid ho; have B2 := Lib.hid (B1.out.trans hb); clear ho hb)
    | (go_at_call 53; ((with_reducible refine (same_112 4194304 _).mono ?_); rintro e w3 ⟨A3, c3, rfl, r3, hb3⟩; have R3 := Lib.hid r3; have O3 := Lib.hid (O2.out.below hb3); have B3 := Lib.hid (bt B2.out hb3); clear r3 hb3))
    | (at_builtin; refine app_row _ rfl (.tmp 36) (.tmp 37) rfl w.heap.size ([] ++ mk 256 (hf was false)) (List.replicate 112 4194304) _ A3 112 c3 rfl O3.out rfl (List.length_replicate ..) (by decide) R3.out B3.out.size (by simp [mk_len]) ?_; intro v4 w4 ho hb; have O4 := Lib.hid ho; have B4 := Lib.hid (B3.out.trans hb); clear ho hb)
    | (go_at_call 54; ((with_reducible refine (rv_short shape _ H2.out).mono ?_); rintro e w5 ⟨A5, c5, rfl, r5, hb5⟩; have R5 := Lib.hid r5; have O5 := Lib.hid (O4.out.below hb5); have B5 := Lib.hid (bt B4.out hb5); clear r5 hb5))
    | (go_at_call 55; ((with_reducible refine (back_got _ _ 32 (hf shape true) _ (by decide) R5.out).mono ?_); rintro e w6 ⟨A6, c6, rfl, r6, hb6⟩; have R6 := Lib.hid r6; have O6 := Lib.hid (O5.out.below hb6); have B6 := Lib.hid (bt B5.out hb6); clear r6 hb6))
    | (at_builtin; refine app_row _ rfl (.tmp 39) (.tmp 42) rfl w.heap.size (([] ++ mk 256 (hf was false)) ++ List.replicate 112 4194304) (mk 32 (fun j => hf shape true (32 - 1 - j))) _ A6 32 c6 rfl O6.out rfl (mk_len _ _) (by decide) R6.out B6.out.size (by simp [mk_len]) ?_; intro v7 w7 ho hb; have O7 := Lib.hid ho; have B7 := Lib.hid (B6.out.trans hb); clear ho hb)
    | (go_at_call 53; ((with_reducible refine (same_112 0 _).mono ?_); rintro e w8 ⟨A8, c8, rfl, r8, hb8⟩; have R8 := Lib.hid r8; have O8 := Lib.hid (O7.out.below hb8); have B8 := Lib.hid (bt B7.out hb8); clear r8 hb8))
    | (at_builtin; refine app_row _ rfl (.tmp 44) (.tmp 45) rfl w.heap.size ((([] ++ mk 256 (hf was false)) ++ List.replicate 112 4194304) ++ mk 32 (fun j => hf shape true (32 - 1 - j))) (List.replicate 112 0) _ A8 112 c8 rfl O8.out rfl (List.length_replicate ..) (by decide) R8.out B8.out.size (by simp [mk_len]) ?_; intro v9 w9 ho hb; have O9 := Lib.hid ho; have B9 := Lib.hid (B8.out.trans hb); clear ho hb)
  go_ret
  exact ⟨_, rfl, O9.out, B9.out⟩
set_option maxRecDepth 100000 in
set_option maxHeartbeats 4000000 in
theorem vals_3 (was shape : Int) (w : World) (h1 : was = 0 ∨ was = 1) (h2 : shape = 0 ∨ shape = 1) : Calls Try.prog 38 #[.int .u8 3, .int .u8 was, .int .u8 shape] w fun e w' => ∃ v, e = .returned v ∧ Fx.Own w.heap.size w' v (wv 3 was shape) ∧ Below w.heap.size w w' := by
  have H1 := Lib.hid h1
  have H2 := Lib.hid h2
  have O0 := Lib.hid (own_nil w w.heap.size)
  have B0 := Lib.hid (Below.refl w.heap.size w)
  clear h1 h2
  rw [wv_3]
  go_enter Try.func38, Try.ntmps38
  go_wp2_with first
    | (go_at_call 53; ((with_reducible refine (same_112 0 _).mono ?_); rintro e w1 ⟨A1, c1, rfl, r1, hb1⟩; have R1 := Lib.hid r1; have O1 := Lib.hid (O0.out.below hb1); have B1 := Lib.hid (bt B0.out hb1); clear r1 hb1))
    | (at_builtin; refine app_row _ rfl (.tmp 10) (.tmp 11) rfl w.heap.size [] (List.replicate 112 0) _ A1 112 c1 rfl O1.out rfl (List.length_replicate ..) (by decide) R1.out B1.out.size (by simp [mk_len]) ?_; intro v2 w2 ho hb; have O2 := Lib.hid ho; have B2 := Lib.hid (B1.out.trans hb); clear ho hb)
    | (go_at_call 54; ((with_reducible refine (rv_short was _ H1.out).mono ?_); rintro e w3 ⟨A3, c3, rfl, r3, hb3⟩; have R3 := Lib.hid r3; have O3 := Lib.hid (O2.out.below hb3); have B3 := Lib.hid (bt B2.out hb3); clear r3 hb3))
    | (at_builtin; refine app_row _ rfl (.tmp 13) (.tmp 15) rfl w.heap.size ([] ++ List.replicate 112 0) (mk 32 (hf was true)) _ A3 32 c3 rfl O3.out rfl (mk_len _ _) (by decide) R3.out B3.out.size (by simp [mk_len]) ?_; intro v4 w4 ho hb; have O4 := Lib.hid ho; have B4 := Lib.hid (B3.out.trans hb); clear ho hb)
    | (go_at_call 53; ((with_reducible refine (same_112 4194304 _).mono ?_); rintro e w5 ⟨A5, c5, rfl, r5, hb5⟩; have R5 := Lib.hid r5; have O5 := Lib.hid (O4.out.below hb5); have B5 := Lib.hid (bt B4.out hb5); clear r5 hb5))
    | (at_builtin; refine app_row _ rfl (.tmp 17) (.tmp 18) rfl w.heap.size (([] ++ List.replicate 112 0) ++ mk 32 (hf was true)) (List.replicate 112 4194304) _ A5 112 c5 rfl O5.out rfl (List.length_replicate ..) (by decide) R5.out B5.out.size (by simp [mk_len]) ?_; intro v6 w6 ho hb; have O6 := Lib.hid ho; have B6 := Lib.hid (B5.out.trans hb); clear ho hb)
    | (go_at_call 54; ((with_reducible refine (rv_long shape _ H2.out).mono ?_); rintro e w7 ⟨A7, c7, rfl, r7, hb7⟩; have R7 := Lib.hid r7; have O7 := Lib.hid (O6.out.below hb7); have B7 := Lib.hid (bt B6.out hb7); clear r7 hb7))
    | (go_at_call 55; ((with_reducible refine (back_got _ _ 256 (hf shape false) _ (by decide) R7.out).mono ?_); rintro e w8 ⟨A8, c8, rfl, r8, hb8⟩; have R8 := Lib.hid r8; have O8 := Lib.hid (O7.out.below hb8); have B8 := Lib.hid (bt B7.out hb8); clear r8 hb8))
    | (at_builtin; refine app_row _ rfl (.tmp 20) (.tmp 23) rfl w.heap.size ((([] ++ List.replicate 112 0) ++ mk 32 (hf was true)) ++ List.replicate 112 4194304) (mk 256 (fun j => hf shape false (256 - 1 - j))) _ A8 256 c8 rfl O8.out rfl (mk_len _ _) (by decide) R8.out B8.out.size (by simp [mk_len]) ?_; intro v9 w9 ho hb; have O9 := Lib.hid ho; have B9 := Lib.hid (B8.out.trans hb); clear ho hb)
  go_ret
  exact ⟨_, rfl, O9.out, B9.out⟩
set_option maxRecDepth 100000 in
set_option maxHeartbeats 4000000 in
theorem little_0 (was shape : Int) (w : World) (h1 : was = 0 ∨ was = 1) (h2 : shape = 0 ∨ shape = 1) : Calls Try.prog 58 #[.int .i64 0, .int .u8 was, .int .u8 shape] w fun e w' => ∃ v, e = .returned v ∧ Fx.Own w.heap.size w' v (wt was shape) ∧ Below w.heap.size w w' := by
  have H1 := Lib.hid h1
  have H2 := Lib.hid h2
  have O0 := Lib.hid (own_nil w w.heap.size)
  have B0 := Lib.hid (Below.refl w.heap.size w)
  clear h1 h2
  rw [wt_0]
  go_enter Try.func58, Try.ntmps58
  go_wp2_with first
    | (go_at_call 54; ((with_reducible refine (rv_short was _ H1.out).mono ?_); rintro e w1 ⟨A1, c1, rfl, r1, hb1⟩; have R1 := Lib.hid r1; have O1 := Lib.hid (O0.out.below hb1); have B1 := Lib.hid (bt B0.out hb1); clear r1 hb1))
    | (at_builtin; refine app_row _ rfl (.tmp 13) (.tmp 15) rfl w.heap.size [] (mk 32 (hf was true)) _ A1 32 c1 rfl O1.out rfl (mk_len _ _) (by decide) R1.out B1.out.size (by simp [mk_len]) ?_; intro v2 w2 ho hb; have O2 := Lib.hid ho; have B2 := Lib.hid (B1.out.trans hb); clear ho hb)
    | (go_at_call 54; ((with_reducible refine (rv_short shape _ H2.out).mono ?_); rintro e w3 ⟨A3, c3, rfl, r3, hb3⟩; have R3 := Lib.hid r3; have O3 := Lib.hid (O2.out.below hb3); have B3 := Lib.hid (bt B2.out hb3); clear r3 hb3))
    | (go_at_call 55; ((with_reducible refine (back_got _ _ 32 (hf shape true) _ (by decide) R3.out).mono ?_); rintro e w4 ⟨A4, c4, rfl, r4, hb4⟩; have R4 := Lib.hid r4; have O4 := Lib.hid (O3.out.below hb4); have B4 := Lib.hid (bt B3.out hb4); clear r4 hb4))
    | (at_builtin; refine app_row _ rfl (.tmp 17) (.tmp 20) rfl w.heap.size ([] ++ mk 32 (hf was true)) (mk 32 (fun j => hf shape true (32 - 1 - j))) _ A4 32 c4 rfl O4.out rfl (mk_len _ _) (by decide) R4.out B4.out.size (by simp [mk_len]) ?_; intro v5 w5 ho hb; have O5 := Lib.hid ho; have B5 := Lib.hid (B4.out.trans hb); clear ho hb)
  go_ret
  exact ⟨_, rfl, O5.out, B5.out⟩
set_option maxRecDepth 100000 in
set_option maxHeartbeats 4000000 in
theorem little_k (was shape : Int) (w : World) (h1 : was = 0 ∨ was = 1) (h2 : shape = 0 ∨ shape = 1) (k : Int) (hk : 0 < k) : Calls Try.prog 58 #[.int .i64 k, .int .u8 was, .int .u8 shape] w fun e w' => ∃ v, e = .returned v ∧ Fx.Own w.heap.size w' v (wt shape shape) ∧ Below w.heap.size w w' := by
  have H1 := Lib.hid h1
  have H2 := Lib.hid h2
  have O0 := Lib.hid (own_nil w w.heap.size)
  have B0 := Lib.hid (Below.refl w.heap.size w)
  clear h1 h2
  have hk2 : (k == 0) = false := by simp; omega
  rw [wt_0]
  go_enter Try.func58, Try.ntmps58
  go_wp2_with first
    | (go_at_call 54; ((with_reducible refine (rv_short shape _ H2.out).mono ?_); rintro e w1 ⟨A1, c1, rfl, r1, hb1⟩; have R1 := Lib.hid r1; have O1 := Lib.hid (O0.out.below hb1); have B1 := Lib.hid (bt B0.out hb1); clear r1 hb1))
    | (at_builtin; refine app_row _ rfl (.tmp 13) (.tmp 15) rfl w.heap.size [] (mk 32 (hf shape true)) _ A1 32 c1 rfl O1.out rfl (mk_len _ _) (by decide) R1.out B1.out.size (by simp [mk_len]) ?_; intro v2 w2 ho hb; have O2 := Lib.hid ho; have B2 := Lib.hid (B1.out.trans hb); clear ho hb)
    | (go_at_call 54; ((with_reducible refine (rv_short shape _ H2.out).mono ?_); rintro e w3 ⟨A3, c3, rfl, r3, hb3⟩; have R3 := Lib.hid r3; have O3 := Lib.hid (O2.out.below hb3); have B3 := Lib.hid (bt B2.out hb3); clear r3 hb3))
    | (go_at_call 55; ((with_reducible refine (back_got _ _ 32 (hf shape true) _ (by decide) R3.out).mono ?_); rintro e w4 ⟨A4, c4, rfl, r4, hb4⟩; have R4 := Lib.hid r4; have O4 := Lib.hid (O3.out.below hb4); have B4 := Lib.hid (bt B3.out hb4); clear r4 hb4))
    | (at_builtin; refine app_row _ rfl (.tmp 17) (.tmp 20) rfl w.heap.size ([] ++ mk 32 (hf shape true)) (mk 32 (fun j => hf shape true (32 - 1 - j))) _ A4 32 c4 rfl O4.out rfl (mk_len _ _) (by decide) R4.out B4.out.size (by simp [mk_len]) ?_; intro v5 w5 ho hb; have O5 := Lib.hid ho; have B5 := Lib.hid (B4.out.trans hb); clear ho hb)
  go_ret
  exact ⟨_, rfl, O5.out, B5.out⟩
theorem vals_ok (seq was shape : Int) (w : World) (hs : seq = 0 ∨ seq = 1 ∨ seq = 3) (h1 : was = 0 ∨ was = 1) (h2 : shape = 0 ∨ shape = 1) : Calls Try.prog 38 #[.int .u8 seq, .int .u8 was, .int .u8 shape] w fun e w' => ∃ v, e = .returned v ∧ Fx.Own w.heap.size w' v (wv seq was shape) ∧ Below w.heap.size w w' := by
  rcases hs with rfl | rfl | rfl
  · exact vals_0 was shape w h1 h2
  · exact vals_1 was shape w h1 h2
  · exact vals_3 was shape w h1 h2
theorem little_ok (k : Nat) (was shape : Int) (w : World) (h1 : was = 0 ∨ was = 1) (h2 : shape = 0 ∨ shape = 1) : Calls Try.prog 58 #[.int .i64 k, .int .u8 was, .int .u8 shape] w fun e w' => ∃ v, e = .returned v ∧ Fx.Own w.heap.size w' v (wt (if k = 0 then was else shape) shape) ∧ Below w.heap.size w w' := by
  by_cases h : k = 0
  · subst h; exact little_0 was shape w h1 h2
  · rw [if_neg h]; exact little_k was shape w h1 h2 k (by omega)
end Go.Proofs.Yteknakakefhbmaa.Rf
