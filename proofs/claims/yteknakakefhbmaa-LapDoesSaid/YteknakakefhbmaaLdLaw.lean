/- The law LapDoes: its beginning. -/
import Derived.Test.YteknakakefhbmaaLdCon
import Derived.Deep.RegionHeld3
import Derived.WalkKit
import Derived.Below
import Derived.RegionTactic
import Derived.Deep.QuietTactic
import Derived.BigQuiet
import Derived.ChangeAlike
import Derived.Deep.OwnRows
import Derived.Deep.RegionLaw
import Derived.ProofKit
import Derived.OpenShut
import Derived.ChangeSlices
import Derived.Lib.Hide
import Derived.Great.Walk
import Derived.ChangeKeysEq
import Derived.ChangeOld
import Derived.ShutString
namespace Go.Proofs.Yteknakakefhbmaa.Rl
open Go Go.ChangeShapes Go.WideShapes Go.ChangeAt Go.RowKit Go.Proofs.Yteknakakefhbmaa.Fx Go.Proofs.Yteknakakefhbmaa.Rk Go.Proofs.Yteknakakefhbmaa.Mm Go.Proofs.Yteknakakefhbmaa.Md Go.Proofs.Yteknakakefhbmaa.Bl Go.Proofs.Yteknakakefhbmaa.Cpy Go.Proofs.Yteknakakefhbmaa.Lp Go.Proofs.Yteknakakefhbmaa.Rf

theorem wp_forget {P : Program} {c : Code} {Q : Exit → Act → World → Prop} {a : Act} {w : World} (R : Act → Act → World → Prop) (h : c.wp P (fun e a' w' => e = .normal ∧ R a a' w') a w) (k : ∀ a' w', R a a' w' → Q .normal a' w') : c.wp P Q a w :=
  Code.wp_mono (fun e a' w' q => by obtain ⟨rfl, q⟩ := q; exact k a' w' q) h
def Bx (w : World) (g : Nat) (x y z : Value) : Prop := g < w.heap.size ∧ w.cell? ⟨g, 0, none⟩ = some x ∧ w.cell? ⟨g, 1, none⟩ = some y ∧ w.cell? ⟨g, 2, none⟩ = some z
theorem Bx.below {w w' : World} {g : Nat} {x y z : Value} (h : Bx w g x y z) (hb : Below w.heap.size w w') : Bx w' g x y z := ⟨Nat.lt_of_lt_of_le h.1 hb.size, (hb.cell (p := ⟨g, 0, none⟩) h.1).trans h.2.1, (hb.cell (p := ⟨g, 1, none⟩) h.1).trans h.2.2.1, (hb.cell (p := ⟨g, 2, none⟩) h.1).trans h.2.2.2⟩
theorem bx_new (w : World) (x y z : Value) : Bx (w.alloc (.cells #[x, y, z] 38)) w.heap.size x y z := ⟨by simp, (box38 w x y z).1, (box38 w x y z).2.1, (box38 w x y z).2.2⟩
theorem al_new (w : World) (o : Obj) : Below w.heap.size w (w.alloc o) := (Below.refl _ w).alloc (Nat.le_refl _) o
theorem own_cap {base : Nat} {w : World} {A : Option Addr} {n c : Nat} {L : List Int} (h : Fx.Own base w (.slice A n c) L) (hn : L.length = n) : n ≤ c ∧ c ≤ maxLen := by
  subst hn
  obtain ⟨_, h⟩ := h
  rcases h with ⟨e, h⟩ | ⟨g, cap, cur, e, h3, h4, h5, h6, _⟩
  · simp only [Value.slice.injEq] at e; obtain ⟨_, e1, rfl⟩ := e; unfold maxLen; omega
  · simp only [Value.slice.injEq] at e; obtain ⟨_, _, rfl⟩ := e; exact ⟨h5, h6⟩
def Few (L : List Int) : Prop := L.length ≤ 1000 ∧ ∀ j, -4611686018427387904 ≤ L.getD j 0 ∧ L.getD j 0 ≤ 4611686018427387904
theorem few_nil : Few [] := ⟨by simp, fun j => by simp⟩
theorem few_mk {F : Nat → Int} (h : ∀ j, -4611686018427387904 ≤ F j ∧ F j ≤ 4611686018427387904) : Few (mk 256 F) := ⟨by rw [mk_len]; omega, fun j => by
  by_cases hj : j < 256
  · rw [mk_at hj]; exact h j
  · rw [List.getD_eq_getElem?_getD, List.getElem?_eq_none (by rw [mk_len]; omega)]; simp⟩
set_option maxRecDepth 100000 in
theorem few_n (tail : List Int) (s h q sh : Int) (lines : List Int) : Few (nO tail s h q sh lines).tail ∧ Few (nO tail s h q sh lines).pcm := by
  by_cases he : (nO tail s h q sh lines).err = 0
  · obtain ⟨a, b, c, d⟩ := nO_err he
    rw [nO_good a b c d]
    dsimp only
    exact ⟨few_mk fun j => by have := syb (seq := q) (was := h) (shape := sh) c d (256 + j); omega, few_mk fun j => by rw [clp16]; omega⟩
  · obtain ⟨a, b, _⟩ := nO_bad he
    rw [a, b]; exact ⟨few_nil, few_nil⟩
theorem check_all (A : Option Addr) (cap : Nat) (tail : List Int) (seq shape : Int) (w : World) (rd : RdA w A tail) : Calls Try.prog 25 #[lapV (.slice A tail.length cap) seq shape] w fun e w' => e = .returned (.int .i64 (if LapOK tail seq shape then 0 else 8)) ∧ Below w.heap.size w w' := by
  by_cases h : LapOK tail seq shape
  · rw [if_pos h]; exact check_yes A cap tail seq shape w rd h
  · rw [if_neg h]; exact check_no A cap tail seq shape w rd h
def Wr (lo : Nat) (w : World) (A : Option Addr) (n : Nat) : Prop := n = 0 ∨ ∃ g cap F, A = some ⟨g, 0, none⟩ ∧ lo ≤ g ∧ n ≤ cap ∧ w.rowIs g 3 cap F
theorem wr_of {base : Nat} {w : World} {A : Option Addr} {n c : Nat} {L : List Int} (h : Fx.Own base w (.slice A n c) L) (hn : L.length = n) : Wr base w A n := by
  by_cases h0 : n = 0
  · exact .inl h0
  · obtain ⟨g, cap, F, e, h1, h2, _, h4, _⟩ := own_rowV h hn (by omega)
    simp only [Value.slice.injEq] at e
    exact .inr ⟨g, cap, F, e.1, h1, h2, h4⟩
theorem Wr.below {lo : Nat} {w w' : World} {A : Option Addr} {n : Nat} (h : Wr lo w A n) (hb : Below w.heap.size w w') : Wr lo w' A n := by
  rcases h with h | ⟨g, cap, F, e, h1, h2, h4⟩
  · exact .inl h
  · exact .inr ⟨g, cap, F, e, h1, h2, h4.of_block (hb.block _ h4.lt)⟩
theorem Wr.drew {lo : Nat} {w : World} {A : Option Addr} {n : Nat} (h : Wr lo w A n) : Wr lo w.drew A n := h
theorem mut_drew {lo hi : Nat} {w : World} {A : Option Addr} {n k : Nat} (h : Mut lo hi w A n k) : Mut lo hi w.drew A n k := h
theorem Wr.set {lo : Nat} {w : World} {A : Option Addr} {n g i : Nat} {v : Value} (h : Wr lo w A n) : Wr lo (w.setCell ⟨g, i, none⟩ v) A n := by
  rcases h with h | ⟨g', cap, F, e, h1, h2, h4⟩
  · exact .inl h
  · by_cases hg : g = g'
    · subst hg; exact .inr ⟨g, cap, _, e, h1, h2, h4.set i v⟩
    · exact .inr ⟨g', cap, F, e, h1, h2, h4.of_block (heap_other v hg)⟩
theorem Bx.set {w : World} {g g' i : Nat} {x y z v : Value} (h : Bx w g x y z) (hg : g' ≠ g) : Bx (w.setCell ⟨g', i, none⟩ v) g x y z := ⟨by rw [setsz]; exact h.1, (cell_oth v hg).trans h.2.1, (cell_oth v hg).trans h.2.2.1, (cell_oth v hg).trans h.2.2.2⟩
theorem Bx.drew {w : World} {g : Nat} {x y z : Value} (h : Bx w g x y z) : Bx w.drew g x y z := h
theorem bx_set {w : World} {g : Nat} {t : TypeId} {x y z p q r : Value} (h : w.heap[g]? = some (.cells #[x, y, z] t (0, 0))) : Bx (((w.setCell ⟨g, 0, none⟩ p).setCell ⟨g, 1, none⟩ q).setCell ⟨g, 2, none⟩ r) g p q r := by
  have hs := set3 p q r h
  obtain ⟨a0, a1, a2, _⟩ := cell_in hs
  exact ⟨(Array.getElem?_eq_some_iff.1 hs).1, a0, a1, a2⟩
theorem own_set3 {base b2 g : Nat} {w : World} {v p q r : Value} {L : List Int} (hg : g < b2) (hb : base ≤ b2) (h : Fx.Own b2 w v L) : Fx.Own base (((w.setCell ⟨g, 0, none⟩ p).setCell ⟨g, 1, none⟩ q).setCell ⟨g, 2, none⟩ r) v L := (((h.set hg).set hg).set hg).rebase hb
set_option maxRecDepth 100000 in
set_option maxHeartbeats 4000000 in
theorem does (A L : Option Addr) (cap cl : Nat) (tail lines : List Int) (s h q sh : Int) (w : World) (s0 : 0 ≤ q) (w0 : 0 ≤ h) (h0 : 0 ≤ sh) (n0 : ¬ 1000 < (tail.length : Int)) (n1 : ¬ 1000 < (lines.length : Int)) (hr : Rd w (.slice A tail.length cap) tail) (hr' : Rd w (.slice L lines.length cl) lines) (hc : Cp w A tail.length cap tail) (hc' : Cp w L lines.length cl lines) (hcap : lines.length ≤ cl ∧ cl ≤ maxLen) :
    Calls Try.prog 9 #[.agg #[.slice A tail.length cap, .int .u8 s, .int .u8 h], .int .u8 q, .int .u8 sh, .slice L lines.length cl] w fun e w' => e = .returned (.bool true) ∧ Below w.heap.size w w' := by
  have d0 : decide (1000 < (tail.length : Int)) = false := decide_eq_false n0
  have d1 : decide (1000 < (lines.length : Int)) = false := decide_eq_false n1
  have ht : tail.length ≤ 1000 := by omega
  obtain ⟨x0, x1, x2⟩ := box38 w (.slice A tail.length cap) (.int .u8 s) (.int .u8 h)
  have b0 : Below w.heap.size w (w.alloc (.cells #[.slice A tail.length cap, .int .u8 s, .int .u8 h] 38)) := (Below.refl _ w).alloc (Nat.le_refl _) _
  have z0 : w.heap.size < (w.alloc (.cells #[.slice A tail.length cap, .int .u8 s, .int .u8 h] 38)).heap.size := by simp
  have HC := Lib.hid (hc.below b0)
  have B0 := Lib.hid b0
  have Z0 := Lib.hid z0
  have HR := Lib.hid hr
  have HR2 := Lib.hid hr'
  have HC2 := Lib.hid hc'
  clear n0 n1 hr hr' hc hc' b0 z0
  go_enter Try.func9, Try.ntmps9
  go_wp2_with fail
  generalize w.alloc (.cells #[.slice A tail.length cap, .int .u8 s, .int .u8 h] 38) = w1 at *
  have KEEP := Lib.hid (fun (W : World) (hW : Below w1.heap.size w1 W) => (⟨(hW.cell (p := ⟨w.heap.size, 0, none⟩) Z0.out).trans x0, (hW.cell (p := ⟨w.heap.size, 1, none⟩) Z0.out).trans x1, (hW.cell (p := ⟨w.heap.size, 2, none⟩) Z0.out).trans x2, hW⟩ : W.cell? ⟨w.heap.size, 0, none⟩ = some (.slice A tail.length cap) ∧ W.cell? ⟨w.heap.size, 1, none⟩ = some (.int .u8 s) ∧ W.cell? ⟨w.heap.size, 2, none⟩ = some (.int .u8 h) ∧ Below w1.heap.size w1 W))
  refine wp_forget (fun ac a' w' => ∃ (g : Nat) (Z : Option Addr) (c : Nat), a' = (((((((((ac.put (some 28) (.pointer (some ⟨w.heap.size, 0, none⟩))).put (some 29) (.slice A tail.length cap)).put (some 30) (.slice Z tail.length c)).put (some 31) (.pointer (some ⟨w.heap.size, 1, none⟩))).put (some 32) (.int .u8 s)).put (some 33) (.pointer (some ⟨w.heap.size, 2, none⟩))).put (some 34) (.int .u8 h)).put (some 35) (.agg #[.slice Z tail.length c, .int .u8 s, .int .u8 h])).put (some 9) (.pointer (some ⟨g, 0, none⟩))) ∧ w1.heap.size ≤ g ∧ Bx w' g (.slice Z tail.length c) (.int .u8 s) (.int .u8 h) ∧ Fx.Own w1.heap.size w' (.slice Z tail.length c) tail ∧ Below w1.heap.size w1 w') ?_ ?_
  · go_region_held3 (fun w' => w'.cell? ⟨w.heap.size, 0, none⟩ = some (.slice A tail.length cap) ∧ w'.cell? ⟨w.heap.size, 1, none⟩ = some (.int .u8 s) ∧ w'.cell? ⟨w.heap.size, 2, none⟩ = some (.int .u8 h) ∧ Below w1.heap.size w1 w')
      (exact KEEP.out _ (by first | exact (Below.refl _ _).drew | exact B2.out | exact ((‹_ ∧ _ ∧ _ ∧ Below _ _ _›).2.2.2).alloc ((‹_ ∧ _ ∧ _ ∧ Below _ _ _›).2.2.2).size _ | exact B2.out.alloc B2.out.size _ | exact bel3 _ _ _ B2.out (Nat.le_refl _)))
      ((refine step_cpy _ rfl (.const (.slice none 0 0)) (.tmp 29) rfl rfl A tail.length cap tail rfl rfl ht (HC.out.below ((‹_ ∧ _ ∧ _ ∧ Below _ _ _›).2.2.2)) ?_; intro v2 w2 ho2 hb2; obtain ⟨Z, c, rfl⟩ := ho2.rd.shape; have O2 := Lib.hid ho2; have S2 := Lib.hid hb2; have B2 := Lib.hid (bt ((‹_ ∧ _ ∧ _ ∧ Below _ _ _›).2.2.2) hb2); first | (have HG : w2.heap[w1.heap.size]? = _ := (hb2.block _ (by simp)).trans (World.alloc_heap_new w1 (.cells #[.slice none 0 0, .int .u8 0, .int .u8 0] 38)); obtain ⟨f0, f1, f2, f3, f4, f5⟩ := cell_in HG; have HG2 := Lib.hid HG; clear HG) | skip; clear ho2 hb2))
    all_goals
      first
      | exact ⟨rfl, w2.heap.size, Z, c, (by first | rfl | simp only [Act.put, List.setIfInBounds_toArray, List.set_cons_zero, List.set_cons_succ]), B2.out.size, ⟨by simp, (box38 w2 (.slice Z tail.length c) (.int .u8 s) (.int .u8 h)).1, (box38 w2 (.slice Z tail.length c) (.int .u8 s) (.int .u8 h)).2.1, (box38 w2 (.slice Z tail.length c) (.int .u8 s) (.int .u8 h)).2.2⟩, own_alloc O2.out _, B2.out.alloc B2.out.size _⟩
      | exact ⟨rfl, w1.heap.size, Z, c, (by first | rfl | simp only [Act.put, List.setIfInBounds_toArray, List.set_cons_zero, List.set_cons_succ]), Nat.le_refl _, bx_set HG2.out, own_set3 (by simp) (by simp) O2.out, bel3 _ _ _ B2.out (Nat.le_refl _)⟩
  · rintro a' w3 ⟨g, Z, c, rfl, hg, hbx, ho, hb⟩
    simp only [Act.put, List.setIfInBounds_toArray, List.set_cons_zero, List.set_cons_succ]
    have kz := own_cap ho rfl
    have RZ := Lib.hid ho.rd
    have OZ := Lib.hid ho
    have BX := Lib.hid hbx
    have B3 := Lib.hid (B0.out.trans (hb.mono (Nat.le_of_lt Z0.out)))
    have XX := Lib.hid ((show Bx w1 w.heap.size (.slice A tail.length cap) (.int .u8 s) (.int .u8 h) from ⟨Z0.out, x0, x1, x2⟩).below hb)
    have HL := Lib.hid (HC2.out.below B3.out)
    have hl : lines.length ≤ 1000 := by have := of_decide_eq_false d1; omega
    have N1 := fun (W : World) (Am : Option Addr) (cm : Nat) (hk : lines.length ≤ cm ∧ cm ≤ maxLen) r1 r2 => next_O Z Am tail.length c lines.length cm tail lines s h q sh W s0 w0 h0 rfl r1 rfl hk.1 hk.2 r2
    have N2 := fun (W : World) r1 r2 => rnext_O A L cap cl tail lines s h q sh W s0 w0 h0 r1 hcap.1 hcap.2 r2
    have FT := few_n tail s h q sh lines
    generalize nO tail s h q sh lines = p at *
    obtain ⟨T, ps, ph, M, pe⟩ := p
    unfold AnsN lapV at N1 N2
    have N1 := Lib.hid N1
    have N2 := Lib.hid N2
    have HFT := Lib.hid FT
    have hT5 : T.length ≤ 5000 := by have : T.length ≤ 1000 := FT.1.1; omega
    have hM5 : M.length ≤ 5000 := by have : M.length ≤ 1000 := FT.2.1; omega
    clear ho hbx hb x0 x1 x2 KEEP HC s0 w0 h0 hcap FT
    go_wp2_with first
      | (at_builtin; refine wpList_copy _ rfl _ (.tmp 36) rfl rfl L lines.length cl lines rfl rfl hl HL.out ?_; intro v4 w4 ho4 hb4; obtain ⟨Am, cm, rfl⟩ := ho4.rd.shape; have k4 := own_cap ho4 rfl; have R4 := Lib.hid ho4.rd; have S4 := Lib.hid hb4; have B4 := Lib.hid (bt B3.out hb4); have BX4 := Lib.hid (BX.out.below hb4); have XX4 := Lib.hid (XX.out.below hb4); obtain ⟨_, t0, t1, t2⟩ := BX4.out; clear ho4 hb4)
      | (go_at_call 22; ((with_reducible refine (N1.out _ _ _ k4 (rd_rdA (RZ.out.below S4.out)) (rd_rdA R4.out)).mono ?_); rintro e w5 ⟨v5, u5, rfl, ho5, hp5, hb5⟩; obtain ⟨a5, c5, rfl⟩ := ho5.rd.shape; obtain ⟨b5, e5, rfl⟩ := hp5.rd.shape; dsimp only; have h45 := hb5.size; have O5 := Lib.hid ho5; have P5 := Lib.hid hp5; have S5 := Lib.hid (bt hb5 (al_new w5 (.cells #[.slice a5 T.length c5, .int .u8 ps, .int .u8 ph] 38))); have B5 := Lib.hid (bt B4.out S5.out); have Z5 := Lib.hid (bx_new w5 (.slice a5 T.length c5) (.int .u8 ps) (.int .u8 ph)); have XX5 := Lib.hid (XX4.out.below S5.out); have BX5 := Lib.hid (BX4.out.below S5.out); obtain ⟨_, s0, s1, s2⟩ := XX5.out; clear ho5 hp5 hb5))
      | (go_at_call 26; ((with_reducible refine (N2.out _ (rd_rdA (HR.out.below B5.out)) (rd_rdA (HR2.out.below B5.out))).mono ?_); rintro e w6 ⟨v6, u6, rfl, ho6, hp6, hb6⟩; obtain ⟨a6, c6, rfl⟩ := ho6.rd.shape; obtain ⟨b6, e6, rfl⟩ := hp6.rd.shape; dsimp only; have O6 := Lib.hid ho6; have P6 := Lib.hid hp6; have S6 := Lib.hid (bt hb6 (al_new w6 (.cells #[.slice a6 T.length c6, .int .u8 ps, .int .u8 ph] 38))); have B6 := Lib.hid (bt B5.out S6.out); have Z6 := Lib.hid (bx_new w6 (.slice a6 T.length c6) (.int .u8 ps) (.int .u8 ph)); have XX6 := Lib.hid (XX5.out.below S6.out); have BX6 := Lib.hid (BX5.out.below S6.out); have Y6 := Lib.hid (Z5.out.below S6.out); clear ho6 hp6 hb6))
    have OO5 := Lib.hid (((own_alloc O5.out (.cells #[.slice a5 T.length c5, .int .u8 ps, .int .u8 ph] 38))).rd.below S6.out)
    have PP5 := Lib.hid (((own_alloc P5.out (.cells #[.slice a5 T.length c5, .int .u8 ps, .int .u8 ph] 38))).rd.below S6.out)
    have OO6 := Lib.hid (own_alloc O6.out (.cells #[.slice a6 T.length c6, .int .u8 ps, .int .u8 ph] 38)).rd
    have PP6 := Lib.hid (own_alloc P6.out (.cells #[.slice a6 T.length c6, .int .u8 ps, .int .u8 ph] 38)).rd
    have ZZ6 := Lib.hid (RZ.out.below (bt S4.out (bt S5.out S6.out)))
    have AA6 := Lib.hid (HR.out.below B6.out)
    generalize w6.alloc (.cells #[.slice a6 T.length c6, .int .u8 ps, .int .u8 ph] 38) = n6 at *
    obtain ⟨l1, c10, c11, c12⟩ := Y6.out
    obtain ⟨l2, c20, c21, c22⟩ := Z6.out
    obtain ⟨l3, c30, c31, c32⟩ := BX6.out
    obtain ⟨l4, c40, c41, c42⟩ := XX6.out
    have KEEP := Lib.hid (fun (W : World) (hW : Below n6.heap.size n6 W) => (⟨(hW.cell (p := ⟨w5.heap.size, 0, none⟩) l1).trans c10, (hW.cell (p := ⟨w5.heap.size, 1, none⟩) l1).trans c11, (hW.cell (p := ⟨w5.heap.size, 2, none⟩) l1).trans c12, (hW.cell (p := ⟨w6.heap.size, 0, none⟩) l2).trans c20, (hW.cell (p := ⟨w6.heap.size, 1, none⟩) l2).trans c21, (hW.cell (p := ⟨w6.heap.size, 2, none⟩) l2).trans c22, (hW.cell (p := ⟨g, 0, none⟩) l3).trans c30, (hW.cell (p := ⟨g, 1, none⟩) l3).trans c31, (hW.cell (p := ⟨g, 2, none⟩) l3).trans c32, (hW.cell (p := ⟨w.heap.size, 0, none⟩) l4).trans c40, (hW.cell (p := ⟨w.heap.size, 1, none⟩) l4).trans c41, (hW.cell (p := ⟨w.heap.size, 2, none⟩) l4).trans c42, hW⟩ : W.cell? ⟨w5.heap.size, 0, none⟩ = some (.slice a5 T.length c5) ∧ W.cell? ⟨w5.heap.size, 1, none⟩ = some (.int .u8 ps) ∧ W.cell? ⟨w5.heap.size, 2, none⟩ = some (.int .u8 ph) ∧ W.cell? ⟨w6.heap.size, 0, none⟩ = some (.slice a6 T.length c6) ∧ W.cell? ⟨w6.heap.size, 1, none⟩ = some (.int .u8 ps) ∧ W.cell? ⟨w6.heap.size, 2, none⟩ = some (.int .u8 ph) ∧ W.cell? ⟨g, 0, none⟩ = some (.slice Z tail.length c) ∧ W.cell? ⟨g, 1, none⟩ = some (.int .u8 s) ∧ W.cell? ⟨g, 2, none⟩ = some (.int .u8 h) ∧ W.cell? ⟨w.heap.size, 0, none⟩ = some (.slice A tail.length cap) ∧ W.cell? ⟨w.heap.size, 1, none⟩ = some (.int .u8 s) ∧ W.cell? ⟨w.heap.size, 2, none⟩ = some (.int .u8 h) ∧ Below n6.heap.size n6 W))
    have KC0 := (fun W (b : Below n6.heap.size n6 W) => check_all Z c tail s h W (rd_rdA (ZZ6.out.below b)))
    have KR0 := (fun W (b : Below n6.heap.size n6 W) => rcheck_ok A cap tail s h W (rd_rdA (AA6.out.below b)))
    have KS0 := (fun W (b : Below n6.heap.size n6 W) => rsame_ok (.slice a5 T.length c5) (.slice a6 T.length c6) T ps ph W hT5 (OO5.out.below b) (OO6.out.below b))
    have KM := Lib.hid (fun W (b : Below n6.heap.size n6 W) => same_yes (.slice b5 M.length e5) (.slice b6 M.length e6) M W hM5 (PP5.out.below b) (PP6.out.below b))
    have KN0 := (fun (W : World) (g1 g2 : Nat) r1 r2 => rsame_ok (.slice (some ⟨g1, 0, none⟩) 256 256) (.slice (some ⟨g2, 0, none⟩) 256 256) (mk 256 (fun _ => 0)) 0 0 W (by rw [mk_len]; omega) r1 r2)
    obtain ⟨E0, hE0⟩ : ∃ E, E = (if LapOK tail s h then (0 : Int) else 8) := ⟨_, rfl⟩
    rw [← hE0] at KC0 KR0
    unfold lapV at KC0 KR0 KS0 KN0
    have KC := Lib.hid KC0
    have KR := Lib.hid KR0
    have KS := Lib.hid KS0
    have KN := Lib.hid KN0
    clear KC0 KR0 KS0 KN0 hE0
    go_region_held3 (fun w' => w'.cell? ⟨w5.heap.size, 0, none⟩ = some (.slice a5 T.length c5) ∧ w'.cell? ⟨w5.heap.size, 1, none⟩ = some (.int .u8 ps) ∧ w'.cell? ⟨w5.heap.size, 2, none⟩ = some (.int .u8 ph) ∧ w'.cell? ⟨w6.heap.size, 0, none⟩ = some (.slice a6 T.length c6) ∧ w'.cell? ⟨w6.heap.size, 1, none⟩ = some (.int .u8 ps) ∧ w'.cell? ⟨w6.heap.size, 2, none⟩ = some (.int .u8 ph) ∧ w'.cell? ⟨g, 0, none⟩ = some (.slice Z tail.length c) ∧ w'.cell? ⟨g, 1, none⟩ = some (.int .u8 s) ∧ w'.cell? ⟨g, 2, none⟩ = some (.int .u8 h) ∧ w'.cell? ⟨w.heap.size, 0, none⟩ = some (.slice A tail.length cap) ∧ w'.cell? ⟨w.heap.size, 1, none⟩ = some (.int .u8 s) ∧ w'.cell? ⟨w.heap.size, 2, none⟩ = some (.int .u8 h) ∧ Below n6.heap.size n6 w')
      (exact KEEP.out _ (by first | exact BB.out | exact (Below.refl _ _).drew))
      (first
        | (go_at_call 27; ((with_reducible refine (KS.out _ ((‹_ ∧ _ ∧ _ ∧ _ ∧ _ ∧ _ ∧ _ ∧ _ ∧ _ ∧ _ ∧ _ ∧ _ ∧ Below _ _ _›).2.2.2.2.2.2.2.2.2.2.2.2)).mono ?_); rintro e wa ⟨rfl, hba⟩; have BB := Lib.hid (bt ((‹_ ∧ _ ∧ _ ∧ _ ∧ _ ∧ _ ∧ _ ∧ _ ∧ _ ∧ _ ∧ _ ∧ _ ∧ Below _ _ _›).2.2.2.2.2.2.2.2.2.2.2.2) hba); clear hba))
        | (go_at_call 21; ((with_reducible refine (KM.out _ ((‹_ ∧ _ ∧ _ ∧ _ ∧ _ ∧ _ ∧ _ ∧ _ ∧ _ ∧ _ ∧ _ ∧ _ ∧ Below _ _ _›).2.2.2.2.2.2.2.2.2.2.2.2)).mono ?_); rintro e wa ⟨rfl, hba⟩; have BB := Lib.hid (bt ((‹_ ∧ _ ∧ _ ∧ _ ∧ _ ∧ _ ∧ _ ∧ _ ∧ _ ∧ _ ∧ _ ∧ _ ∧ Below _ _ _›).2.2.2.2.2.2.2.2.2.2.2.2) hba); clear hba))
        | (go_at_call 25; ((with_reducible refine (KC.out _ ((‹_ ∧ _ ∧ _ ∧ _ ∧ _ ∧ _ ∧ _ ∧ _ ∧ _ ∧ _ ∧ _ ∧ _ ∧ Below _ _ _›).2.2.2.2.2.2.2.2.2.2.2.2)).mono ?_); rintro e wa ⟨rfl, hba⟩; have BB := Lib.hid (bt ((‹_ ∧ _ ∧ _ ∧ _ ∧ _ ∧ _ ∧ _ ∧ _ ∧ _ ∧ _ ∧ _ ∧ _ ∧ Below _ _ _›).2.2.2.2.2.2.2.2.2.2.2.2) hba); clear hba))
        | (go_at_call 28; ((with_reducible refine (KR.out _ ((‹_ ∧ _ ∧ _ ∧ _ ∧ _ ∧ _ ∧ _ ∧ _ ∧ _ ∧ _ ∧ _ ∧ _ ∧ Below _ _ _›).2.2.2.2.2.2.2.2.2.2.2.2)).mono ?_); rintro e wa ⟨rfl, hba⟩; have BB := Lib.hid (bt ((‹_ ∧ _ ∧ _ ∧ _ ∧ _ ∧ _ ∧ _ ∧ _ ∧ _ ∧ _ ∧ _ ∧ _ ∧ Below _ _ _›).2.2.2.2.2.2.2.2.2.2.2.2) hba); clear hba))
        | (go_at_call 23; ((with_reducible refine (new_ok _).mono ?_); rintro e wa ⟨g23, rfl, _, hr, hba⟩; dsimp only [lapV]; have R23 := Lib.hid hr; have H23 := Lib.hid hba; have BB := Lib.hid (bt ((‹_ ∧ _ ∧ _ ∧ _ ∧ _ ∧ _ ∧ _ ∧ _ ∧ _ ∧ _ ∧ _ ∧ _ ∧ Below _ _ _›).2.2.2.2.2.2.2.2.2.2.2.2) hba); clear hba hr))
        | (go_at_call 29; ((with_reducible refine (rnew_ok _).mono ?_); rintro e wa ⟨g29, rfl, _, hr, hba⟩; dsimp only [lapV]; have R29 := Lib.hid hr; have H29 := Lib.hid hba; have BB := Lib.hid (bt ((‹_ ∧ _ ∧ _ ∧ _ ∧ _ ∧ _ ∧ _ ∧ _ ∧ _ ∧ _ ∧ _ ∧ _ ∧ Below _ _ _›).2.2.2.2.2.2.2.2.2.2.2.2) hba); clear hba hr))
        | (go_at_call 27; ((with_reducible refine (KN.out _ g23 g29 (by first | exact mk_rd (F := fun _ => 0) R23.out (by unfold maxLen; omega) | exact mk_rd (F := fun _ => 0) (R23.out.of_block (H29.out.block _ R23.out.lt)) (by unfold maxLen; omega)) (by first | exact mk_rd (F := fun _ => 0) R29.out (by unfold maxLen; omega) | exact mk_rd (F := fun _ => 0) (R29.out.of_block (H23.out.block _ R29.out.lt)) (by unfold maxLen; omega))).mono ?_); rintro e wz ⟨rfl, hba⟩; have BB := Lib.hid (bt ((‹_ ∧ _ ∧ _ ∧ _ ∧ _ ∧ _ ∧ _ ∧ _ ∧ _ ∧ _ ∧ _ ∧ _ ∧ Below _ _ _›).2.2.2.2.2.2.2.2.2.2.2.2) hba); clear hba)))
    have BN := Lib.hid (bt (bt S5.out S6.out) BB.out)
    have MA := Lib.hid ((mut_of O5.out rfl HFT.out.1.2).below ((al_new w5 (.cells #[.slice a5 T.length c5, .int .u8 ps, .int .u8 ph] 38)).trans ((bt S6.out BB.out).mono (al_new w5 _).size)))
    have WX := Lib.hid ((wr_of P5.out rfl).below ((al_new w5 (.cells #[.slice a5 T.length c5, .int .u8 ps, .int .u8 ph] 38)).trans ((bt S6.out BB.out).mono (al_new w5 _).size)))
    have YB := Lib.hid (Y6.out.below BB.out)
    clear KEEP KC KR KS KM KN OO5 PP5 OO6 PP6 O6 P6 S6 Z6 Z5 R23 R29 H23 H29 BB B6 B5 XX5 XX6 BX5 BX6 Y6 c10 c11 c12 c20 c21 c22 c30 c31 c32 c40 c41 c42 s0 s1 s2 t0 t1 t2 N1 N2
    go_wp2_with fail
    go_loopw [17] (fun i wr => ∃ k : Nat, k ≤ T.length ∧ i = .int .i64 k ∧ Hid (Mut w4.heap.size w5.heap.size wr a5 T.length k) ∧ Hid (Wr w4.heap.size wr b5 M.length) ∧ Hid (Bx wr w5.heap.size (.slice a5 T.length c5) (.int .u8 ps) (.int .u8 ph)) ∧ Hid (Below w4.heap.size w4 wr)) (fun i _ => T.length - (intOf i).toNat)
    case atStart => exact ⟨0, by omega, rfl, MA, WX, YB, BN⟩
    case round =>
      obtain ⟨k, hk, rfl, hM, hW, hY, hBr⟩ := hrel
      clear MA WX YB BN
      obtain ⟨ly, y0, y1, y2⟩ := hY.out
      by_cases hlt : k < T.length
      · have hlt2 : (k : Int) < T.length := by omega
        rcases hM.out with hn | ⟨g', cg, F, rfl, hlo, hhi, hcg, hrow, hFz⟩
        · omega
        obtain ⟨z, hz, z0, z1⟩ := hFz k (Nat.le_refl _) hlt
        have gf := hrow.frozen k
        have gc := hrow.cell (i := k) (by omega)
        rw [hz] at gc
        have gM := Lib.hid (mut_step (v := .int .i64 (z + 1)) hlo hhi hcg hrow hFz)
        have gW := Lib.hid (Wr.set (v := .int .i64 (z + 1)) (g := g') (i := k) hW.out)
        have gY := Lib.hid (Bx.set (v := .int .i64 (z + 1)) (g' := g') (i := k) hY.out (by omega))
        have gB := Lib.hid (hBr.out.setCell (p := ⟨g', k, none⟩) (show w4.heap.size ≤ g' by omega) (.int .i64 (z + 1)))
        clear hM hW hY hBr hrow hFz hz
        go_wp2
        go_region
        all_goals
          go_wp2
          go_roundw
          case rel => exact ⟨k + 1, by omega, by go_num, Lib.hid (mut_drew gM.out), Lib.hid gW.out.drew, Lib.hid gY.out.drew, Lib.hid gB.out.drew⟩
          case measure => simp [intOf]; omega
      · have hend : ¬ (k : Int) < T.length := by omega
        clear hlt hM
        go_wp2
        go_loopw [18] (fun i wr => ∃ k : Nat, k ≤ M.length ∧ i = .int .i64 k ∧ Hid (Wr w4.heap.size wr b5 M.length) ∧ Hid (Below w4.heap.size w4 wr)) (fun i _ => M.length - (intOf i).toNat)
        case atStart => exact ⟨0, by omega, rfl, hW, hBr⟩
        case round =>
          obtain ⟨m, hm, rfl, hW2, hB2⟩ := hrel
          by_cases hlt : m < M.length
          · have hlt2 : (m : Int) < M.length := by omega
            rcases hW2.out with hn | ⟨g', cg, F, rfl, hlo, hcg, hrow⟩
            · omega
            have gf := hrow.frozen m
            have gc := hrow.cell (i := m) (by omega)
            have gW := Lib.hid (Wr.set (v := .int .i64 0) (g := g') (i := m) hW2.out)
            have gB := Lib.hid (hB2.out.setCell (p := ⟨g', m, none⟩) hlo (.int .i64 0))
            clear hW2 hB2 hrow
            go_wp2
            go_roundw
            case rel => exact ⟨m + 1, by omega, by go_num, gW, gB⟩
            case measure => simp [intOf]; omega
          · have hend2 : ¬ (m : Int) < M.length := by omega
            have BX9 := Lib.hid (BX4.out.below hB2.out)
            have XX9 := Lib.hid (XX4.out.below hB2.out)
            obtain ⟨_, j0, j1, j2⟩ := BX9.out
            obtain ⟨_, i0, i1, i2⟩ := XX9.out
            have BF := Lib.hid (bt B4.out hB2.out)
            have K1 := rsame_ok (.slice Z tail.length c) (.slice A tail.length cap) tail s h wr (by omega) (RZ.out.below (bt S4.out hB2.out)) (HR.out.below BF.out)
            unfold lapV at K1
            have K1 := Lib.hid K1
            have K2 := Lib.hid (fun W (b : Below wr.heap.size wr W) => same_yes (.slice Am lines.length cm) (.slice L lines.length cl) lines W (by omega) (R4.out.below (bt hB2.out b)) (HR2.out.below (bt BF.out b)))
            clear hW2 hB2 BX9 XX9
            go_wp2_with first
              | (go_at_call 27; ((with_reducible refine (K1.out).mono ?_); rintro e w8 ⟨rfl, hb8⟩; have e8 := Lib.hid hb8; clear hb8))
              | (go_at_call 21; ((with_reducible refine (K2.out _ e8.out).mono ?_); rintro e w9 ⟨rfl, hb9⟩; have e9 := Lib.hid hb9; clear hb9))
            go_ret
            exact ⟨rfl, bt BF.out (bt e8.out e9.out)⟩
end Go.Proofs.Yteknakakefhbmaa.Rl
