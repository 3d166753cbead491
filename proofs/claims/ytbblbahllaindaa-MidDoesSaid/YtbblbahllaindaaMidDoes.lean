/- Lists are split and joined as the document says, what came in stays, and what is answered is new memory. MidDoes returns true, whatever the two lists, the memory and the schedule. No condition. -/
import Derived.Test.YtbblbahllaindaaMdHs
import Derived.Test.YtbblbahllaindaaLoRef
import Derived.Laws.AppendOwnNone
import Derived.WalkKit
import Derived.OwnWalk
import Derived.Deep.QuietTactic
import Derived.BigQuiet
import Derived.ProofKit
import Derived.OpenShut
import Derived.ShutString
import Derived.ChangeOld
import Derived.Below
import Derived.Lib.Hide
namespace Go.Proofs.Ytbblbahllaindaa.midDoes
open Go Go.ChangeShapes Go.WideShapes Go.ChangeAt Go.RowKit Go.Proofs.Ytbblbahllaindaa.Lo Go.Proofs.Ytbblbahllaindaa.Md

/-- The cells of what came in. -/
def Cp (w : World) (A : Option Addr) (n cap : Nat) (zs : List Int) : Prop := (A = none ∧ n = 0 ∧ cap = 0) ∨ ∃ x, A = some x ∧ ∀ j u, (zs.map (Value.int .i64))[j]? = some u → w.cell? (x.add j) = some u
theorem add_block (x : Addr) (i : Nat) : (x.add i).block = x.block := by unfold Addr.add; split <;> rfl
theorem Cp.below {w w' : World} {A : Option Addr} {n cap : Nat} {zs : List Int} (h : Cp w A n cap zs) (hb : Below w.heap.size w w') : Cp w' A n cap zs := by
  rcases h with h | ⟨x, e, h⟩
  · exact .inl h
  · exact .inr ⟨x, e, fun j u hu => (hb.cell (lt_of_cell (h j u hu))).trans (h j u hu)⟩
theorem cp_of {w : World} {A : Option Addr} {len cap : Nat} {z : List Int} (h : IsRow .i64 w A len cap z) : ∃ xs : List Int, xs.length = len ∧ Rd w (.slice A xs.length cap) xs ∧ Cp w A xs.length cap xs := by
  obtain ⟨xs, hl, hr, _⟩ := h.rd
  refine ⟨xs, hl, hr, ?_⟩
  rcases h with ⟨rfl, rfl, rfl, _⟩ | ⟨x, rfl, h1, _⟩
  · exact .inl ⟨rfl, hl, rfl⟩
  · refine .inr ⟨x, rfl, fun j u hu => ?_⟩
    simp only [List.getElem?_map, Option.map_eq_some_iff] at hu
    obtain ⟨q, hq, rfl⟩ := hu
    obtain ⟨hj, rfl⟩ := List.getElem?_eq_some_iff.1 hq
    rcases hr with ⟨a, c, e, e2⟩ | ⟨b, off, c, e, _, _, _, hc⟩
    · subst e2; simp at hj
    · simp only [Value.slice.injEq, Option.some.injEq] at e
      obtain ⟨rfl, _, _⟩ := e
      rw [Bd.add_at, hc j hj]
      simp [List.getD_eq_getElem?_getD, List.getElem?_eq_getElem hj]
theorem w64 {x : Int} (a : -9223372036854775808 ≤ x) (b : x ≤ 9223372036854775807) : wrap64 x = x := by unfold wrap64; omega
/-- A copy by append. -/
theorem wpList_copy (w : World) {ops : Array Oper} {rest : List Oper} {o : Oper} {a : Act} {Q : Exit → Act → World → Prop} (hgd : o.guard = none) (s x : Operand)
    (ho : o.op = .call { callee := .builtin .append, args := #[s, x], argTypes := #[22, 22] }) (hs : a.eval s = .slice none 0 0) (A : Option Addr) (n cap : Nat) (zs : List Int) (hx : a.eval x = .slice A n cap) (hl : zs.length = n) (hn : n ≤ 1000) (hc : Cp w A n cap zs)
    (hK : ∀ v' w', Bd.Own w.heap.size w' v' zs → Below w.heap.size w w' → wpList Try.prog ops Q rest (a.put o.dst v') w') : wpList Try.prog ops Q (o :: rest) a w := by
  obtain ⟨i0, hi, hz0, hz1, hz2⟩ := info_parts info3p
  rcases hc with ⟨rfl, rfl, rfl⟩ | ⟨x1, rfl, hc⟩
  · have : zs = [] := List.eq_nil_of_length_eq_zero hl
    subst this
    exact wpList_append_own_none hgd s x 22 ho w.heap.size 3 i0 1 Try.underlying22 hi _ 0 _ hs (World.ownsRow_nil w w.heap.size 3 1) hx (hK _ _ (World.ownsRow_nil w w.heap.size 3 1) (Below.refl _ _))
  · refine wpList_append_own w hgd s x 22 ho w.heap.size 3 i0 (.int .i64 0) 1 8 Try.underlying22 hi hz0 hz1 hz2 rfl (by decide) _ 0 _ hs (World.ownsRow_nil w w.heap.size 3 1) x1 n cap (zs.map (Value.int .i64)) hx (by simp [hl]) hc (Bd.one64 _) (by unfold maxLen; omega) (by omega) (Nat.le_refl _) ?_
    intro v' w' h1 h2 _
    refine hK v' w' ?_ ((Below.refl _ _).grown h2 (Nat.le_refl _) (fun k hk => by cases hk))
    unfold Bd.Own
    rw [Nat.zero_add, List.nil_append] at h1
    rw [hl]
    exact h1
theorem row_rd {w : World} {g n : Nat} {F : Nat → Int} (h : w.rowIs g 3 n (fun j => .int .i64 (F j))) (hn : n ≤ 256) : Rd w (.slice (some ⟨g, 0, none⟩) n n) (mk n F) := mk_rd h hn
theorem nil_rd (w : World) (a : Option Addr) (c : Nat) : Rd w (.slice a 0 c) [] := .inl ⟨_, _, rfl, rfl⟩
theorem mkl {n : Nat} (F : Nat → Int) (h : n ≤ 256) : (mk n F).length ≤ 1000 := by rw [mk_len]; omega

set_option maxRecDepth 100000 in
theorem long (a0 a1 : Option Addr) (l0 l1 c0 c1 : Nat) (w : World) (m0 : l0 ≤ maxLen) (m1 : l1 ≤ maxLen) (h : 1000 < l0 ∨ 1000 < l1) :
    Calls Try.prog 3 #[.slice a0 l0 c0, .slice a1 l1 c1] w fun e w' => e = .returned (.bool true) ∧ Below w.heap.size w w' := by
  unfold maxLen at m0 m1
  by_cases h0 : 1000 < l0
  · go_enter Try.func3, Try.ntmps3
    go_wp2
    go_ret
    exact ⟨rfl, Below.refl _ _⟩
  · have h1 : 1000 < l1 := by omega
    clear h
    go_enter Try.func3, Try.ntmps3
    go_wp2
    go_ret
    exact ⟨rfl, Below.refl _ _⟩
set_option maxRecDepth 100000 in
set_option maxHeartbeats 8000000 in
theorem bad (A0 A1 : Option Addr) (c0 c1 l0 l1 : Nat) (za zb : List Int) (w : World) (m0 : l0 ≤ 1000) (m1 : l1 ≤ 1000) (la : za.length = l0) (lb : zb.length = l1) (ra : Rd w (.slice A0 l0 c0) za) (rb : Rd w (.slice A1 l1 c1) zb) (pa : Cp w A0 l0 c0 za) (pb : Cp w A1 l1 c1 zb) (hn : ¬ ∃ n, Fit za zb n) :
    Calls Try.prog 3 #[.slice A0 l0 c0, .slice A1 l1 c1] w fun e w' => e = .returned (.bool true) ∧ Below w.heap.size w w' := by
  have RA := Lib.hid ra
  have RB := Lib.hid rb
  have PA := Lib.hid pa
  have PB := Lib.hid pb
  have LA := Lib.hid la
  have LB := Lib.hid lb
  have HS := fun (v v' : Value) (W : World) (r : Rd W v za) (r' : Rd W v' zb) => split_bad v v' za zb (by omega) (by omega) hn W r r'
  have HJ := fun (v v' : Value) (W : World) (r : Rd W v za) (r' : Rd W v' zb) => join_bad v v' za zb (by omega) (by omega) hn W r r'
  have HT := fun (v v' : Value) (W : World) (r : Rd W v za) (r' : Rd W v' zb) => rsplit_bad v v' za zb (by omega) (by omega) hn W r r'
  have HU := fun (v v' : Value) (W : World) (r : Rd W v za) (r' : Rd W v' zb) => rjoin_bad v v' za zb (by omega) (by omega) hn W r r'
  have hr := ce_bd za zb
  generalize ce za zb = R at *
  obtain ⟨r0, r1⟩ := hr
  have x1 : wrap64 R = R := w64 (by omega) (by omega)
  have HS := Lib.hid HS
  have HJ := Lib.hid HJ
  have HT := Lib.hid HT
  have HU := Lib.hid HU
  clear ra rb pa pb la lb hn
  go_enter Try.func3, Try.ntmps3
  go_wp2_with (first
    | (refine wpList_copy w rfl _ (.tmp 29) rfl rfl A0 l0 c0 za rfl LA.out m0 PA.out ?_; intro vx w1 hx1 hb1; have X1 := Lib.hid hx1; have B1 := Lib.hid hb1; clear hx1 hb1)
    | (refine wpList_copy w1 rfl _ (.tmp 31) rfl rfl A1 l1 c1 zb rfl LB.out m1 (PB.out.below B1.out) ?_; intro vy w2 hy2 hb2; have Y2 := Lib.hid hy2; have X2 := Lib.hid (X1.out.below hb2); have B2 := Lib.hid (belowT B1.out hb2); clear hy2 hb2)
    | (go_at_call 5; ((with_reducible refine (HS.out _ _ _ X2.out.rd Y2.out.rd).mono ?_); rintro e w3 ⟨rfl, hb3⟩; have B23 := Lib.hid hb3; clear hb3))
    | (go_at_call 6; ((with_reducible refine (HT.out _ _ _ (RA.out.below (belowT B2.out B23.out)) (RB.out.below (belowT B2.out B23.out))).mono ?_); rintro e _ ⟨rfl, rfl⟩))
    | (go_at_call 7; ((with_reducible refine (HJ.out _ _ _ (X2.out.below B23.out).rd (Y2.out.below B23.out).rd).mono ?_); rintro e w5 ⟨rfl, hb5⟩; have B25 := Lib.hid (belowT B23.out hb5); clear hb5))
    | (go_at_call 8; ((with_reducible refine (HU.out _ _ _ (RA.out.below (belowT B2.out B25.out)) (RB.out.below (belowT B2.out B25.out))).mono ?_); rintro e _ ⟨rfl, rfl⟩))
    | (go_at_call 9; have hq := hb9; clear hq; ((with_reducible refine (same_yes _ _ [] _ (by simp) (nil_rd _ none 0) (nil_rd _ none 0)).mono ?_); rintro e w10 ⟨rfl, hb10⟩))
    | (go_at_call 9; have hq := hb8; clear hq; ((with_reducible refine (same_yes _ _ [] _ (by simp) (nil_rd _ none 0) (nil_rd _ none 0)).mono ?_); rintro e w9 ⟨rfl, hb9⟩))
    | (go_at_call 9; have hq := hb7; clear hq; ((with_reducible refine (same_yes _ _ [] _ (by simp) (nil_rd _ none 0) (nil_rd _ none 0)).mono ?_); rintro e w8 ⟨rfl, hb8⟩))
    | (go_at_call 9; ((with_reducible refine (same_yes _ _ [] _ (by simp) (nil_rd _ none 0) (nil_rd _ none 0)).mono ?_); rintro e w7 ⟨rfl, hb7⟩)))
  have B2A := Lib.hid (belowT B25.out (belowT hb7 (belowT hb8 (belowT hb9 hb10))))
  clear hb7 hb8 hb9 hb10
  go_loop [19] (fun i => i = .int .i64 0) (fun _ => 0)
  case atStart => exact rfl
  case round =>
    subst hrel
    go_wp2
    go_loop [20] (fun i => i = .int .i64 0) (fun _ => 0)
    case atStart => exact rfl
    case round =>
      subst hrel
      go_wp2_with (first
        | (go_at_call 9; have hq := hb11; clear hq; ((with_reducible refine (same_yes _ _ zb _ (by rw [LB.out]; exact m1) ((Y2.out.below (belowT B2A.out hb11)).rd) (RB.out.below (belowT B2.out (belowT B2A.out hb11)))).mono ?_); rintro e w12 ⟨rfl, hb12⟩))
        | (go_at_call 9; ((with_reducible refine (same_yes _ _ za _ (by rw [LA.out]; exact m0) ((X2.out.below B2A.out).rd) (RA.out.below (belowT B2.out B2A.out))).mono ?_); rintro e w11 ⟨rfl, hb11⟩)))
      go_ret
      exact ⟨rfl, belowT B2.out (belowT B2A.out (belowT hb11 hb12))⟩
set_option maxRecDepth 100000 in
set_option maxHeartbeats 8000000 in
theorem good (A0 A1 : Option Addr) (c0 c1 n : Nat) (za zb : List Int) (w : World) (hf : Fit za zb n) (ra : Rd w (.slice A0 n c0) za) (rb : Rd w (.slice A1 n c1) zb) (pa : Cp w A0 n c0 za) (pb : Cp w A1 n c1 zb) :
    Calls Try.prog 3 #[.slice A0 n c0, .slice A1 n c1] w fun e w' => e = .returned (.bool true) ∧ Below w.heap.size w w' := by
  obtain ⟨la, lb, hn, _, _⟩ := id hf
  have RA := Lib.hid ra
  have RB := Lib.hid rb
  have PA := Lib.hid pa
  have PB := Lib.hid pb
  have LA := Lib.hid la
  have LB := Lib.hid lb
  obtain ⟨m, hm⟩ : ∃ F : Nat → Int, F = fun j => kept (half (za.getD j 0 + zb.getD j 0)) := ⟨_, rfl⟩
  obtain ⟨s, hs⟩ : ∃ F : Nat → Int, F = fun j => kept (half (za.getD j 0 - zb.getD j 0)) := ⟨_, rfl⟩
  obtain ⟨l, hl⟩ : ∃ F : Nat → Int, F = fun j => kept (za.getD j 0 + zb.getD j 0) := ⟨_, rfl⟩
  obtain ⟨r, hr⟩ : ∃ F : Nat → Int, F = fun j => kept (za.getD j 0 - zb.getD j 0) := ⟨_, rfl⟩
  have HS : Hid (∀ (v v' : Value) W, Rd W v za → Rd W v' zb → Calls Try.prog 5 #[v, v'] W (Two W n m s)) := Lib.hid fun v v' W h h' => by rw [hm, hs]; exact split_ok v v' za zb n W hf h h'
  have HJ : Hid (∀ (v v' : Value) W, Rd W v za → Rd W v' zb → Calls Try.prog 7 #[v, v'] W (Two W n l r)) := Lib.hid fun v v' W h h' => by rw [hl, hr]; exact join_ok v v' za zb n W hf h h'
  have HT : Hid (∀ (v v' : Value) W, Rd W v za → Rd W v' zb → Calls Try.prog 6 #[v, v'] W (Pr3 n m s W)) := Lib.hid fun v v' W h h' => by rw [hm, hs]; exact rsplit_ok v v' za zb n W hf h h'
  have HU : Hid (∀ (v v' : Value) W, Rd W v za → Rd W v' zb → Calls Try.prog 8 #[v, v'] W (Pr3 n l r W)) := Lib.hid fun v v' W h h' => by rw [hl, hr]; exact rjoin_ok v v' za zb n W hf h h'
  clear ra rb pa pb la lb hf hm hs hl hr
  have m0 : n ≤ 1000 := by omega
  go_enter Try.func3, Try.ntmps3
  go_wp2_with (first
    | (refine wpList_copy w rfl _ (.tmp 29) rfl rfl A0 n c0 za rfl LA.out m0 PA.out ?_; intro vx w1 hx1 hb1; have X1 := Lib.hid hx1; have B1 := Lib.hid hb1; clear hx1 hb1)
    | (refine wpList_copy w1 rfl _ (.tmp 31) rfl rfl A1 n c1 zb rfl LB.out m0 (PB.out.below B1.out) ?_; intro vy w2 hy2 hb2; have Y2 := Lib.hid hy2; have X2 := Lib.hid (X1.out.below hb2); have B2 := Lib.hid (belowT B1.out hb2); clear hy2 hb2)
    | (go_at_call 5; ((with_reducible refine (HS.out _ _ _ X2.out.rd Y2.out.rd).mono ?_); rintro e w3 ⟨gm, gs, rfl, ⟨bm, bs, bms⟩, hm3, hs3, hb3⟩; have M3 := Lib.hid hm3; have S3 := Lib.hid hs3; have B23 := Lib.hid hb3; clear hm3 hs3 hb3))
    | (go_at_call 6; ((with_reducible refine (HT.out _ _ _ (RA.out.below (belowT B2.out B23.out)) (RB.out.below (belowT B2.out B23.out))).mono ?_); rintro e w4 ⟨vn, vt, rfl, hn4, ht4, hb4⟩; have N4 := Lib.hid hn4; have T4 := Lib.hid ht4; have B34 := Lib.hid hb4; clear hn4 ht4 hb4))
    | (go_at_call 7; ((with_reducible refine (HJ.out _ _ _ (X2.out.below (belowT B23.out B34.out)).rd (Y2.out.below (belowT B23.out B34.out)).rd).mono ?_); rintro e w5 ⟨gl, gr, rfl, ⟨bl, br, blr⟩, hl5, hr5, hb5⟩; have L5 := Lib.hid hl5; have R5 := Lib.hid hr5; have B45 := Lib.hid hb5; have B25 := Lib.hid (belowT (belowT B23.out B34.out) hb5); clear hl5 hr5 hb5))
    | (go_at_call 8; ((with_reducible refine (HU.out _ _ _ (RA.out.below (belowT B2.out B25.out)) (RB.out.below (belowT B2.out B25.out))).mono ?_); rintro e w6 ⟨vu, vv, rfl, hu6, hv6, hb6⟩; have U6 := Lib.hid hu6; have V6 := Lib.hid hv6; have B56 := Lib.hid hb6; have B46 := Lib.hid (belowT B45.out hb6); have B36 := Lib.hid (belowT B34.out (belowT B45.out hb6)); clear hu6 hv6 hb6))
    | (go_at_call 9; ((with_reducible refine (same_yes (.slice (some ⟨gm, 0, none⟩) n n) vn (mk n m) w6 (mkl m hn) ((row_rd M3.out hn).below B36.out) ((N4.out.rd).below B46.out)).mono ?_); rintro e w7 ⟨rfl, hb7⟩))
    | (go_at_call 9; ((with_reducible refine (same_yes (.slice (some ⟨gs, 0, none⟩) n n) vt (mk n s) w7 (mkl s hn) ((row_rd S3.out hn).below (belowT B36.out hb7)) ((T4.out.rd).below (belowT B46.out hb7))).mono ?_); rintro e w8 ⟨rfl, hb8⟩; have hb68 := belowT hb7 hb8))
    | (go_at_call 9; ((with_reducible refine (same_yes (.slice (some ⟨gl, 0, none⟩) n n) vu (mk n l) w8 (mkl l hn) ((row_rd L5.out hn).below (belowT B56.out hb68)) ((U6.out.rd).below hb68)).mono ?_); rintro e w9 ⟨rfl, hb9⟩; have hb69 := belowT hb68 hb9))
    | (go_at_call 9; ((with_reducible refine (same_yes (.slice (some ⟨gr, 0, none⟩) n n) vv (mk n r) w9 (mkl r hn) ((row_rd R5.out hn).below (belowT B56.out hb69)) ((V6.out.rd).below hb69)).mono ?_); rintro e w10 ⟨rfl, hb10⟩; have hb60 := belowT hb69 hb10)))
  have LM := M3.out.lt
  have LS := S3.out.lt
  have z34 := B34.out.size
  have gl1 : gm ≠ gl := by omega
  have gl2 : gm ≠ gr := by omega
  have gl3 : gs ≠ gl := by omega
  have gl4 : gs ≠ gr := by omega
  have B30 := Lib.hid (belowT B36.out hb60)
  have B50 := Lib.hid (belowT B56.out hb60)
  have M0 := Lib.hid (M3.out.of_block (B30.out.block _ M3.out.lt))
  have S0 := Lib.hid (S3.out.of_block (B30.out.block _ S3.out.lt))
  have L0 := Lib.hid (L5.out.of_block (B50.out.block _ L5.out.lt))
  have R0 := Lib.hid (R5.out.of_block (B50.out.block _ R5.out.lt))
  have B20 := Lib.hid (belowT B23.out B30.out)
  have b4 : w2.heap.size ≤ gl := by have := B23.out.size; omega
  have b5 : w2.heap.size ≤ gr := by have := B23.out.size; omega
  clear M3 S3 L5 R5 B30 B50 B34 B45 B56 B46 B36 hb60 hb7 hb8 hb9 hb10 hb68 hb69 LM LS z34 N4 T4 U6 V6 HS HT HJ HU bl br
  go_loopw [19] (fun i wr => ∃ (k : Nat) (F G : Nat → Int), k ≤ n ∧ i = .int .i64 k ∧ Hid (wr.rowIs gm 3 n (fun j => .int .i64 (F j))) ∧ Hid (wr.rowIs gs 3 n (fun j => .int .i64 (G j))) ∧ Hid (wr.rowIs gl 3 n (fun j => .int .i64 (l j))) ∧ Hid (wr.rowIs gr 3 n (fun j => .int .i64 (r j))) ∧ Hid (Below w2.heap.size w2 wr)) (fun i _ => n - (intOf i).toNat)
  case atStart => exact ⟨0, m, s, by omega, rfl, M0, S0, L0, R0, B20⟩
  case round =>
    obtain ⟨k, F, G, hk, rfl, hM, hS, hL, hR, hB⟩ := hrel
    clear M0 S0 L0 R0
    by_cases hlt : k < n
    · have q0 := hM.out.cell hlt
      have q1 := hS.out.cell hlt
      have f0 := hM.out.frozen k
      have f1 := hS.out.frozen k
      have q2 := ((hS.out.setOther (Ne.symm bms) (a := ⟨gm, k, none⟩) (.int .i64 7)) : (wr.setCell ⟨gm, k, none⟩ (.int .i64 7)).rowIs gs 3 n _).cell hlt
      have f2 := ((hS.out.setOther (Ne.symm bms) (a := ⟨gm, k, none⟩) (.int .i64 7)) : (wr.setCell ⟨gm, k, none⟩ (.int .i64 7)).rowIs gs 3 n _).frozen k
      have nM := Lib.hid (((hM.out.set k (.int .i64 7)).congr (g := fun j => .int .i64 (if j = k then 7 else F j)) (fun j _ => by split <;> rfl)).setOther bms (a := ⟨gs, k, none⟩) (.int .i64 8))
      have nS := Lib.hid (((hS.out.setOther (Ne.symm bms) (a := ⟨gm, k, none⟩) (.int .i64 7)).set k (.int .i64 8)).congr (g := fun j => .int .i64 (if j = k then 8 else G j)) (fun j _ => by split <;> rfl))
      have nL := Lib.hid ((hL.out.setOther (Ne.symm gl1) (a := ⟨gm, k, none⟩) (.int .i64 7)).setOther (Ne.symm gl3) (a := ⟨gs, k, none⟩) (.int .i64 8))
      have nR := Lib.hid ((hR.out.setOther (Ne.symm gl2) (a := ⟨gm, k, none⟩) (.int .i64 7)).setOther (Ne.symm gl4) (a := ⟨gs, k, none⟩) (.int .i64 8))
      have nB := Lib.hid ((hB.out.setCell (p := ⟨gm, k, none⟩) bm (.int .i64 7)).setCell (p := ⟨gs, k, none⟩) bs (.int .i64 8))
      clear hM hS hL hR hB
      go_wp2
      go_roundw
      case rel => exact ⟨k + 1, _, _, by omega, by go_num, nM, nS, nL, nR, nB⟩
      case measure => simp [intOf]; omega
    · have hkn : ¬ (k : Int) < (n : Int) := by omega
      clear hM hS
      go_wp2
      go_loopw [20] (fun i wr => ∃ (k : Nat) (F G : Nat → Int), k ≤ n ∧ i = .int .i64 k ∧ Hid (wr.rowIs gl 3 n (fun j => .int .i64 (F j))) ∧ Hid (wr.rowIs gr 3 n (fun j => .int .i64 (G j))) ∧ Hid (Below w2.heap.size w2 wr)) (fun i _ => n - (intOf i).toNat)
      case atStart => exact ⟨0, l, r, by omega, rfl, hL, hR, hB⟩
      case round =>
        obtain ⟨k, F, G, hk, rfl, hL, hR, hB⟩ := hrel
        by_cases hlt2 : k < n
        · have q0 := hL.out.cell hlt2
          have q1 := hR.out.cell hlt2
          have f0 := hL.out.frozen k
          have f1 := hR.out.frozen k
          have q2 := ((hR.out.setOther (Ne.symm blr) (a := ⟨gl, k, none⟩) (.int .i64 7)) : (wr.setCell ⟨gl, k, none⟩ (.int .i64 7)).rowIs gr 3 n _).cell hlt2
          have f2 := ((hR.out.setOther (Ne.symm blr) (a := ⟨gl, k, none⟩) (.int .i64 7)) : (wr.setCell ⟨gl, k, none⟩ (.int .i64 7)).rowIs gr 3 n _).frozen k
          have nL := Lib.hid (((hL.out.set k (.int .i64 7)).congr (g := fun j => .int .i64 (if j = k then 7 else F j)) (fun j _ => by split <;> rfl)).setOther blr (a := ⟨gr, k, none⟩) (.int .i64 8))
          have nR := Lib.hid (((hR.out.setOther (Ne.symm blr) (a := ⟨gl, k, none⟩) (.int .i64 7)).set k (.int .i64 8)).congr (g := fun j => .int .i64 (if j = k then 8 else G j)) (fun j _ => by split <;> rfl))
          have nB := Lib.hid ((hB.out.setCell (p := ⟨gl, k, none⟩) b4 (.int .i64 7)).setCell (p := ⟨gr, k, none⟩) b5 (.int .i64 8))
          clear hL hR hB
          go_wp2
          go_roundw
          case rel => exact ⟨k + 1, _, _, by omega, by go_num, nL, nR, nB⟩
          case measure => simp [intOf]; omega
        · have hkn2 : ¬ (k : Int) < (n : Int) := by omega
          clear hL hR
          go_wp2_with (first
            | (go_at_call 9; have hq := hb11; clear hq; ((with_reducible refine (same_yes _ _ zb _ (by rw [LB.out]; exact m0) ((Y2.out.below (belowT hB.out hb11)).rd) (RB.out.below (belowT B2.out (belowT hB.out hb11)))).mono ?_); rintro e w12 ⟨rfl, hb12⟩))
            | (go_at_call 9; ((with_reducible refine (same_yes _ _ za _ (by rw [LA.out]; exact m0) ((X2.out.below hB.out).rd) (RA.out.below (belowT B2.out hB.out))).mono ?_); rintro e w11 ⟨rfl, hb11⟩)))
          go_ret
          exact ⟨rfl, belowT B2.out (belowT hB.out (belowT hb11 hb12))⟩
theorem walk (a0 : Option Addr) (l0 c0 : Nat) (z0 : List Int) (a1 : Option Addr) (l1 c1 : Nat) (z1 : List Int) (w : World) (w0 : IsRow .i64 w a0 l0 c0 z0) (w1 : IsRow .i64 w a1 l1 c1 z1) :
    Calls Try.prog 3 #[.slice a0 l0 c0, .slice a1 l1 c1] w fun e w' => e = .returned (.bool true) ∧ Below w.heap.size w w' := by
  by_cases h : 1000 < l0 ∨ 1000 < l1
  · exact long a0 a1 l0 l1 c0 c1 w w0.le w1.le h
  obtain ⟨za, la, ra, pa⟩ := cp_of w0
  obtain ⟨zb, lb, rb, pb⟩ := cp_of w1
  rw [la] at ra pa
  rw [lb] at rb pb
  by_cases hf : ∃ n, Fit za zb n
  · obtain ⟨n, hf⟩ := hf
    have h1 := hf.1
    have h2 := hf.2.1
    obtain rfl : l0 = n := by omega
    obtain rfl : l1 = l0 := by omega
    exact good a0 a1 c0 c1 l1 za zb w hf ra rb pa pb
  · exact bad a0 a1 c0 c1 l0 l1 za zb w (by omega) (by omega) la lb ra rb pa pb hf

theorem own : ownKnob Try.prog.godebug = none := by kernel_rfl
theorem laidOut : laidOutB Try.prog = true := by kernel_rfl
set_option linter.unusedVariables false
set_option maxRecDepth 100000 in
theorem lifted (os : Os) (started : os.Started) (H : Type) (enc : TypeId × Value → H) :
    ReturnsInHanded {} Try.checked os 3 .any (Rows.midDoesSpec.pre6 enc Try.prog Try.f3 Rows.midDoesRow.domain false) (Rows.midDoesSpec.post enc Try.prog Try.f3 false true false false) := by
  refine returnsInHanded_of_change (C := Try.checked) own started (by kernel_rfl) Try.func3
    (ChangeSpec.witness6 (enc := enc) (C := Try.checked) false ⟨#[], #[.slice none 0 0, .slice none 0 0], []⟩ 8 (by kernel_rfl) (by kernel_rfl) (by kernel_rfl) (by kernel_rfl)) ?_
  intro W base args ds gs before hval0 hW hcnd _
  have hval : ∀ (j : Nat) t v, Try.f3.params[j]? = some t → args[j]? = some v → Value.okWide Try.prog W .any base t v := hval0
  have hW' := hW
  obtain ⟨p, q, hA0, hV, rfl, hfz, hnd⟩ := hW
  have hA : DataW.TrodAll enc Try.prog W 0 (fun _ => true) true Try.f3.params.toList args.toList ds p := hA0
  rw [Try.params3] at hA hval
  obtain ⟨v0, vs0, d0, ds0, p0, q0, hargs, rfl, rfl, h0, r0⟩ := trodAll_cons hA
  obtain ⟨v1, vs1, d1, ds1, p1, q1, rfl, rfl, rfl, h1, r1⟩ := trodAll_cons r0
  obtain ⟨rfl, rfl, rfl⟩ := trodAll_nil r1
  obtain rfl : args = #[v0, v1] := by cases args; simp_all
  obtain ⟨rfl, rfl⟩ := trodVars_none hV
  obtain ⟨a0, len0, cap0, rfl⟩ := okWide_slice Try.underlying22 (hval 0 22 v0 rfl rfl)
  have k0 := h0
  have lt0 : ∀ x ∈ p0, x.block < W.heap.size := by obtain ⟨m, hm⟩ := k0; exact DataW.trod_lt m _ _ _ hm
  obtain ⟨z0, w0⟩ : ∃ zs, IsRow .i64 W a0 len0 cap0 zs := by
    obtain ⟨fuel, hf⟩ := h0
    rcases open_ints Try.underlying22 Try.underlying3 (by kernel_rfl) hf with ⟨hcs, _⟩ | ⟨x, l, c, zs, hcs, _, hl, hm, hz, _, hcell, hwz⟩
    · simp [Value.cells] at hcs
      obtain ⟨rfl, rfl, rfl⟩ := hcs
      exact ⟨[], .inl ⟨rfl, rfl, rfl, rfl⟩⟩
    · simp [Value.cells] at hcs
      obtain ⟨rfl, rfl, rfl⟩ := hcs
      exact ⟨zs, .inr ⟨_, rfl, hl, hm, by simpa using hz, hcell, hwz⟩⟩
  obtain ⟨a1, len1, cap1, rfl⟩ := okWide_slice Try.underlying22 (hval 1 22 v1 rfl rfl)
  have k1 := h1
  have lt1 : ∀ x ∈ p1, x.block < W.heap.size := by obtain ⟨m, hm⟩ := k1; exact DataW.trod_lt m _ _ _ hm
  obtain ⟨z1, w1⟩ : ∃ zs, IsRow .i64 W a1 len1 cap1 zs := by
    obtain ⟨fuel, hf⟩ := h1
    rcases open_ints Try.underlying22 Try.underlying3 (by kernel_rfl) hf with ⟨hcs, _⟩ | ⟨x, l, c, zs, hcs, _, hl, hm, hz, _, hcell, hwz⟩
    · simp [Value.cells] at hcs
      obtain ⟨rfl, rfl, rfl⟩ := hcs
      exact ⟨[], .inl ⟨rfl, rfl, rfl, rfl⟩⟩
    · simp [Value.cells] at hcs
      obtain ⟨rfl, rfl, rfl⟩ := hcs
      exact ⟨zs, .inr ⟨_, rfl, hl, hm, by simpa using hz, hcell, hwz⟩⟩
  clear hA0 hval0
  refine (walk a0 len0 cap0 z0 a1 len1 cap1 z1 W w0 w1).mono fun e W' ⟨he, bel⟩ => ?_
  subst he
  exact ⟨_, rfl, _, _, _, [], _, [], hW', trodAll_mk1 (shut_bool Try.underlying4 _), (trodAll_cons_mk (Below.trod laidOut (by kernel_rfl) (of_decide_eq_true (by kernel_rfl)) k0 bel lt0) (trodAll_cons_mk (Below.trod laidOut (by kernel_rfl) (of_decide_eq_true (by kernel_rfl)) k1 bel lt1) trodAll_mk0)), rfl, bel.frame _, fun h => by cases h⟩

theorem over : Rows.midDoesRow.holds Try.pinned (OpenSpec.ofChange Rows.midDoesSpec) :=
  OpenClaim.holds_of_wide 3 Try.f3 rfl rfl rfl rfl rfl rfl rfl ⟨rfl, rfl, rfl, rfl, rfl⟩ rfl rfl rfl rfl rfl (by kernel_rfl) Try.func3 (by kernel_rfl)
    (of_decide_eq_true (by kernel_rfl)) (by unfold Func.isWrapper; first | (rw [if_pos (by decide +kernel)]; kernel_rfl) | (rw [if_neg (by decide +kernel)]; exact ⟨rfl, rfl⟩))
    (fun os started H enc _ => lifted os started H enc)

theorem proved : Rows.MidDoesSaid := over
end Go.Proofs.Ytbblbahllaindaa.midDoes
