/- Texts of one claim, one behind the other: PwK, Rg3, QnVl, Rg4, Rg5. -/
import Derived.Test.YtanjcbnkkhbkkaaDoorMrg2
import Derived.Test.YtanjcbnkkhbkkaaDoorTab
import Derived.Test.YtanjcbnkkhbkkaaDoorEvLaw
import Derived.Test.YtanjcbnkkhbkkaaDoorEvLaid
import Derived.Lib.LaidTab
import Derived.MakeChecks
import Derived.Lib.Hide
import Derived.Test.YtanjcbnkkhbkkaaDoorMrg1
import Derived.OrdersIn
import Derived.OwnWalkIn
import Derived.RangeFuncCalls
import Derived.Sort.QuietIn
import Derived.OrdersHeld
import Derived.Deep.RegionHeld
import Derived.Shelf.Abstract
set_option linter.unusedVariables false
/- Power's contracts, with the table kept. -/
namespace Go.Proofs.YtanjcbnkkhbkkaaDoor.Fx
open Go Go.Ev Go.ChangeShapes Go.WideShapes Go.ChangeAt Go.RowKit

/-- The table stays, and what was there. -/
def Kp (w w' : World) : Prop := Hid (Qs w' ∧ Below w.heap.size w w')
theorem Kp.refl {w : World} (h : Qs w) : Kp w w := ⟨h, Below.refl _ _⟩
theorem Kp.on {w w1 w2 : World} (h : Kp w w1) (k : Below w1.heap.size w1 w2) : Kp w w2 := ⟨h.1.below k, belowT h.2 k⟩
theorem kp_same {f : FuncId} {args : Array Value} {w w1 : World} {v : Value} (k : Kp w w1) (h : Calls Tryd.prog f args w1 fun e w' => e = .returned v ∧ w1 = w') : Calls Tryd.prog f args w1 fun e w' => e = .returned v ∧ Kp w w' := h.mono fun _ _ ⟨a, b⟩ => ⟨a, b ▸ k⟩
theorem kp_drew {f : FuncId} {args : Array Value} {w w1 : World} {v : Value} (k : Kp w w1) (h : Calls Tryd.prog f args w1 fun e w' => e = .returned v ∧ ∃ m, w' = w1.drewN m) : Calls Tryd.prog f args w1 fun e w' => e = .returned v ∧ Kp w w' := h.mono fun _ _ ⟨a, m, b⟩ => ⟨a, k.on (b ▸ drewN_below _ m)⟩
theorem kp_below {f : FuncId} {args : Array Value} {w w1 : World} {v : Value} (k : Kp w w1) (h : Calls Tryd.prog f args w1 fun e w' => e = .returned v ∧ Below w1.heap.size w1 w') : Calls Tryd.prog f args w1 fun e w' => e = .returned v ∧ Kp w w' := h.mono fun _ _ ⟨a, b⟩ => ⟨a, k.on b⟩
theorem line_k {w w1 : World} (q : Int) (s : Int) (k : Kp w w1) : Calls Tryd.prog 17 #[.int .i64 q, .int .i64 s] w1 fun e w' => e = .returned (.tuple #[.int .i64 (FL q s), .int .i64 (EL q s)]) ∧ Kp w w' := kp_drew k (Line_ok q s w1 k.1)
theorem rline_k {w w1 : World} (q : Int) (s : Int) (k : Kp w w1) : Calls Tryd.prog 18 #[.int .i64 q, .int .i64 s] w1 fun e w' => e = .returned (.tuple #[.int .i64 (FL q s), .int .i64 (EL q s)]) ∧ Kp w w' := kp_same k (rLine_ok q s w1)
theorem quant_k {w w1 : World} (q : Int) (s : Int) (k : Kp w w1) : Calls Tryd.prog 19 #[.int .i64 q, .int .i64 s] w1 fun e w' => e = .returned (.tuple #[.int .i64 (FQ q s), .int .i64 (EQ q s)]) ∧ Kp w w' := kp_below k (Quant_ok q s w1 k.1)
theorem rquant_k {w w1 : World} (q : Int) (s : Int) (k : Kp w w1) : Calls Tryd.prog 20 #[.int .i64 q, .int .i64 s] w1 fun e w' => e = .returned (.tuple #[.int .i64 (FQ q s), .int .i64 (EQ q s)]) ∧ Kp w w' := kp_same k (rQuant_ok q s w1)
theorem four_k {w w1 : World} (q : Int) (k : Kp w w1) : Calls Tryd.prog 15 #[.int .i64 q] w1 fun e w' => e = .returned (.tuple #[.int .i64 (F4 q), .int .i64 (E4 q)]) ∧ Kp w w' := kp_same k (Four_ok q w1)
theorem rfour_k {w w1 : World} (q : Int) (k : Kp w w1) : Calls Tryd.prog 16 #[.int .i64 q] w1 fun e w' => e = .returned (.tuple #[.int .i64 (F4 q), .int .i64 (E4 q)]) ∧ Kp w w' := kp_same k (rFour_ok q w1)
theorem alive_k {w w1 : World}  (k : Kp w w1) : Calls Tryd.prog 21 #[] w1 fun e w' => e = .returned (.bool true) ∧ Kp w w' := kp_same k (alive_ok w1)

/-- What a row lists is the table. -/
theorem qs_of {laid : List (String × DataW Unit)} {w : World} (hL : laidMetH Tryd.prog laid w) (h1 : (laid.all fun x => x.2.handleName?.isNone) = true) (h2 : Named Tryd.prog laid [(0, 80)])
    (h3 : flats E laid [(0, 80)] = some [(0, [.int .i64 1073741824, .int .i64 1276901417, .int .i64 1518500250, .int .i64 1805811301])]) : Qs w := by
  rw [MakeChecks.laidMetH_plain _ _ _ h1] at hL
  obtain ⟨ps, hl, _⟩ := hL
  obtain ⟨⟨c, t, fz, hc, hd⟩, _⟩ := flats_ok h2 h3 hl
  have := hd (fun _ => none)
  simp [denL, den] at this
  have hc2 : c = #[.int .i64 1073741824, .int .i64 1276901417, .int .i64 1518500250, .int .i64 1805811301] := by cases c; simp_all
  subst hc2
  unfold Qs
  simp [World.cell?, hc]
end Go.Proofs.YtanjcbnkkhbkkaaDoor.Fx

/- A loop over an iterator whose assignment lays a block (a variable of the round that is taken by address). -/
namespace Go.Proofs.YtanjcbnkkhbkkaaDoor.Rg
open Go Go.RowKit
variable {F : Fence} {n : Nat} {P : Program}
theorem range_memA {α : Type} {g : Operand} {ps : Array Tmp} {assign body : Code} {Q : Exit → Act → World → Prop} {a : Act} {w : World}
    (hro : F.round = none) (h1 : 1 ≤ n) {gf : Nat} {lb : Array Value} (hg : a.eval g = .func (.func gf) #[] lb) (hFg : F.fn gf) (eg : ∀ args w, (callFunc gf args).run P w = .ok (.enter gf args) w)
    (encs : α → Array Value) (Hx : Nat → α → World → Prop) (T U : Nat → Prop) (N : Nat) (hTU : ∀ k, T k → U k) (hU : ∀ k, U k → k < w.heap.size) (hps : ∀ x, (encs x).size = ps.size)
    (hseq : ∀ (l : Nat) (J : Nat → World → Prop) (W : World), l = w.heap.size + 1 → Part (fun _ => False) w W → l < W.heap.size → (∀ k A B, J k A → Part T A B → J k B) →
      (∀ k x W1, J k W1 → k < N → l < W1.heap.size → Hx k x W1 → YieldAt F (n - 1 - 1) P l (encs x) W1 fun e W' => e = .returned (.bool true) ∧ J (k + 1) W' ∧ Keep U W1 W' ∧ l < W'.heap.size) →
      J 0 W → CallsIn F (n - 1) P gf (#[.func (.yield l) #[] #[]] ++ lb) W fun e W' => (∃ v, e = .returned v) ∧ J N W')
    (I : Nat → World → Prop) (hI : ∀ k A B, I k A → Part (fun j => T j ∨ j = w.heap.size ∨ j = w.heap.size + 1) A B → I k B) (h0 : I 0 w)
    (hHx : ∀ k x A B, w.heap.size + 1 < A.heap.size → Part (fun j => j = w.heap.size + 1) A B → Hx k x A → Hx k x B) (ob : α → Obj) (a₁ : α → Nat → Act)
    (hassign : ∀ (l : Nat) (x : α) (W : World) (K : Act → World → Prop), (∀ W', Below W.heap.size W W' → W'.heap[W.heap.size]? = some (ob x) → K (a₁ x W.heap.size) W') →
      assign.wpIn (F.inRound l) (n - 1 - 1) P (Exit.then K (fun _ _ _ => False)) { tmps := (ps.zip (encs x)).foldl (fun t (p, v) => t.setIfInBounds p v) a.tmps, defers := [] } W)
    (hbody : ∀ (l k : Nat) (x : α) (b : Nat) (W : World), I k W → k < N → Hx k x W → w.heap.size + 1 < b → W.heap[b]? = some (ob x) → body.wpIn (F.inRound l) (n - 1 - 1) P (onlyN fun W' => I (k + 1) W' ∧ Keep (fun j => U j ∨ j = w.heap.size ∨ j = w.heap.size + 1) W W') (a₁ x b) W)
    (hdone : ∀ (W : World), I N W → w.heap.size < W.heap.size → W.heap[w.heap.size]? = some (.deferred (some [])) → Q .normal { a with defers := { target := .collected w.heap.size, args := #[] } :: a.defers } W) :
    (Code.rangeFunc g ps assign body).wpIn F n P Q a w := by
  refine wpIn_rangeFunc fun fn hfn => ?_
  rw [hro]
  let rec_ : LoopState → Loop := fun st => { state := st, pending := none, fn, tmps := a.tmps, params := ps, assign, body, defers := w.heap.size }
  let W0 : World := (w.alloc (.deferred (some []))).alloc (.loop (rec_ .ready))
  have s0 : W0.heap.size = w.heap.size + 2 := by simp [W0]
  have d0 : W0.heap[w.heap.size]? = some (.deferred (some [])) := (Below.heap_alloc _ _ _ (by simp)).trans (World.alloc_heap_new w _)
  have l0 : W0.heap[w.heap.size + 1]? = some (.loop (rec_ .ready)) := by
    have := World.alloc_heap_new (w.alloc (.deferred (some []))) (.loop (rec_ .ready)); rwa [World.size_alloc] at this
  have p0 : Below w.heap.size w W0 := (((Below.refl _ w).alloc (Nat.le_refl _) _).alloc (by simp) _)
  let Bk : World → Prop := fun W => W.heap[w.heap.size]? = some (.deferred (some [])) ∧ W.heap[w.heap.size + 1]? = some (.loop (rec_ .ready))
  refine ⟨w.heap.size + 1, [{ target := .collected w.heap.size, args := #[] }], W0, { target := .fn (.func gf) lb, args := #[.func (.yield (w.heap.size + 1)) #[] #[]] }, W0, gf,
    #[.func (.yield (w.heap.size + 1)) #[] #[]] ++ lb, W0, run_enterLoop_outer _ _ _ _ _, ?_, ?_, ?_, fun _ => h1, ?_⟩
  · simp only [resolve, hg]
    simp [go_sem]
  · intro f' hf'; simp [Target.leads] at hf'; subst hf'; exact hFg
  · simp [invoke, go_sem, eg]
  refine (hseq (w.heap.size + 1) (fun k W => I k W ∧ Bk W) W0 rfl (Part.of_below p0) (by omega) ?_ ?_ ⟨hI 0 w W0 h0 (Part.of_below p0), d0, l0⟩).mono ?_
  · rintro k A C ⟨hi, hd, hl⟩ hp
    have la := (Array.getElem?_eq_some_iff.1 hl).1
    refine ⟨hI k A C hi (hp.mono fun _ => .inl), (hp.block _ (by omega) fun q => ?_).trans hd, (hp.block _ la fun q => ?_).trans hl⟩
    · have := hU _ (hTU _ q); omega
    · have := hU _ (hTU _ q); omega
  · rintro k x W1 ⟨hi, hd, hl⟩ hk _ hx
    have la := (Array.getElem?_eq_some_iff.1 hl).1
    have hy := run_yield (P := P) (args := encs x) hl (hps x)
    refine ⟨fn, _, assign, body, hy, roundIn_of_wpIn hfn (hassign _ x W1 _ fun WA hA oA => ⟨_, run_beginRound ((hA.block _ la).trans hl) rfl, ?_⟩)⟩
    have lA := hA.size
    have la' : w.heap.size + 1 < WA.heap.size := Nat.lt_of_lt_of_le la lA
    have e2 : (WA.putObj (w.heap.size + 1) (.loop { rec_ .ready with state := .busy })).heap[w.heap.size + 1]? = some (.loop { rec_ .ready with state := .busy }) := World.putObj_heap_same la'
    have e3 : (WA.putObj (w.heap.size + 1) (.loop { rec_ .ready with state := .busy })).heap[w.heap.size]? = some (.deferred (some [])) := (World.putObj_heap_other (by omega)).trans ((hA.block _ (by omega)).trans hd)
    refine wpIn_mono (hbody _ k x W1.heap.size _ (hI k _ _ (hI k _ _ hi (Part.of_below hA)) (Part.put _ (.inr (.inr rfl)))) hk (hHx k x W1 _ la ((Part.of_below hA).trans (Part.put _ rfl)) hx) la ((World.putObj_heap_other (by omega)).trans oA)) ?_
    rintro e a3 W3 hp
    cases e with
    | normal =>
      obtain ⟨hi3, hs3, hk3⟩ := hp
      have e4 := (hk3 _ (.inr (.inr rfl))).trans e2
      have e5 := (hk3 _ (.inr (.inl rfl))).trans e3
      have la3 := (Array.getElem?_eq_some_iff.1 e4).1
      refine ⟨_, _, run_endRound (P := P) none e4, rfl, ⟨hI (k + 1) _ _ hi3 (Part.put _ (.inr (.inr rfl))), (World.putObj_heap_other (by omega)).trans e5, World.putObj_heap_same la3⟩, ⟨?_, fun j q => ?_⟩, ?_⟩
      · simp at hs3 ⊢; omega
      · have hj := hU j q
        exact (((World.putObj_heap_other (by omega)).trans (hk3 j (.inl q))).trans (World.putObj_heap_other (by omega))).trans (hA.block j (by omega))
      · simpa using la3
    | ret => exact hp.elim
    | exit id => exact hp.elim
    | goto t => exact hp.elim
    | panic ch => exact hp.elim
    | outgrown => exact hp.elim
  · rintro e W2 ⟨⟨v, rfl⟩, hi, hd, hl⟩
    have la := (Array.getElem?_eq_some_iff.1 hl).1
    exact ⟨none, _, run_endLoop (P := P) hl (by simp [rec_]), hdone _ (hI N _ _ hi (Part.put _ (.inr (.inr rfl)))) (by simp; omega) ((World.putObj_heap_other (by omega)).trans hd)⟩
end Go.Proofs.YtanjcbnkkhbkkaaDoor.Rg

/- What a line is turned to. -/
namespace Go.Proofs.YtanjcbnkkhbkkaaDoor.Qn
open Go Go.ChangeShapes Go.WideShapes Go.ChangeAt Go.RowKit Go.Shelf Go.Proofs.YtanjcbnkkhbkkaaDoor.If Go.Proofs.YtanjcbnkkhbkkaaDoor.Rg Go.Proofs.YtanjcbnkkhbkkaaDoor.Bd

theorem grp_cons {n l : Int} {zs : List Int} (h : grp (n :: zs) l = true) : 1 ≤ n ∧ n ≤ l ∧ grp zs (l - n) = true := by
  unfold grp at h
  by_cases c : n < 1 ∨ l < n
  · rw [if_pos c] at h; cases h
  · rw [if_neg c] at h; exact ⟨by omega, by omega, h⟩
theorem gof_lt : ∀ {zs : List Int} {l x : Int}, grp zs l = true → 0 ≤ x → x < l → gof zs x < zs.length
  | [], l, x, h, h0, h1 => by simp [grp] at h; omega
  | n :: zs, l, x, h, h0, h1 => by
    obtain ⟨a, b, c⟩ := grp_cons h
    unfold gof
    split
    · have := gof_lt c (x := x - n) (by omega) (by omega); simp; omega
    · simp
theorem chk_parts {r s h m : Int} {gz : List Int} (hc : chk r s h m gz = 0) : s ≤ 3 ∧ h ≤ 1 ∧ 0 ≤ m ∧ m ≤ mny r (s == 2) ∧ grp gz (win s) = true := by
  by_cases c : r < 0 ∨ 11 < r
  · rw [chk_arg c] at hc; exact absurd hc (by decide)
  · by_cases d : 3 < s ∨ 1 < h ∨ m < 0 ∨ mny r (s == 2) < m ∨ grp gz (win s) = false
    · rw [chk_bad c d] at hc; exact absurd hc (by decide)
    · exact ⟨by omega, by omega, by omega, by omega, by cases e : grp gz (win s) with
        | true => rfl
        | false => exact absurd (.inr (.inr (.inr (.inr e)))) d⟩
theorem gz_pos {r s h m : Int} {gz : List Int} (hc : chk r s h m gz = 0) : 0 < gz.length := by
  have g := (chk_parts hc).2.2.2.2
  cases gz with
  | nil =>
    rw [wn_win] at g
    simp [grp] at g
    unfold WN at g
    split at g <;> simp at g
  | cons n zs => simp
/-- The value of a line in group g and band b. -/
def qv (m : Int) (B S : List (List Int)) (lz : List Int) (f : Int → Int → Int) (k g b : Nat) : Int :=
  if lz.getD k 0 ≠ 0 ∧ (b : Int) < m ∧ snt ((B.getD g []).getD b 0) = true then f (lz.getD k 0) ((S.getD g []).getD b 0) else 0
/-- A line's group. -/
def gk (s : Int) (gz : List Int) (k : Nat) : Nat := gof gz ((k / LN s : Nat) : Int)
open Classical in
/-- A line's band. -/
noncomputable def bk (r s : Int) (k : Nat) : Nat := if h : ∃ b, In (L r (s == 2)) ((k % LN s : Nat) : Int) b then Classical.choose h else 0
theorem bk_eq {r s : Int} (r0 : 0 ≤ r) (r1 : r ≤ 11) {k b : Nat} (h : In (L r (s == 2)) ((k % LN s : Nat) : Int) b) : bk r s k = b := by
  unfold bk
  have he : ∃ b, In (L r (s == 2)) ((k % LN s : Nat) : Int) b := ⟨b, h⟩
  rw [dif_pos he]
  obtain ⟨f0, f1, f2, f3, f4, f5⟩ := fact r (s == 2) r0 r1
  exact In.one (fun i hi => f4 i (by omega)) (Classical.choose_spec he) h
/-- The value of a line. -/
noncomputable def QV (r s m : Int) (gz : List Int) (B S : List (List Int)) (lz : List Int) (f : Int → Int → Int) (k : Nat) : Int := qv m B S lz f k (gk s gz k) (bk r s k)
theorem hx_parts {r s : Int} {gz : List Int} {k : Nat} {x : Nat × Int × Nat} {W : World} (r0 : 0 ≤ r) (r1 : r ≤ 11) (h : HxQ r s gz k x W) : x = (k, ((gk s gz k : Nat) : Int), bk r s k) := by
  obtain ⟨h1, h2, h3, h4, h5⟩ := h
  obtain ⟨a, b, c⟩ := x
  simp only at h1 h2 h3 h4 h5
  rw [bk_eq r0 r1 ⟨h3, h4, h5⟩, h1, h2]
  rfl
theorem gk_lt {r s h m : Int} {gz : List Int} {k : Nat} (hc : chk r s h m gz = 0) (hk : k < 256) : gk s gz k < gz.length := by
  have g := (chk_parts hc).2.2.2.2
  rw [wn_win] at g
  have hw := ln_wn s
  have hlt : k / LN s < WN s := Nat.div_lt_of_lt_mul (by rw [Nat.mul_comm, hw]; exact hk)
  exact gof_lt g (Int.natCast_nonneg _) (Int.ofNat_lt.2 hlt)
/-- Books and steps at a line's place. -/
theorem qe_zero {r s h m : Int} {gz : List Int} {B S : List (List Int)} (hq : QE r s h m gz B S 0) : chk r s h m gz = 0 ∧ B.length = gz.length ∧ S.length = gz.length ∧ (∀ i, i < B.length → ((B.getD i []).length : Int) = m) ∧ (∀ i, i < S.length → ((S.getD i []).length : Int) = m) ∧ ∀ g b, g < B.length → b < (B.getD g []).length → ¬ badP ((B.getD g []).getD b 0) ((S.getD g []).getD b 0) := by
  rcases hq with ⟨h1, h2⟩ | ⟨h1, h2, h3⟩ | ⟨h1, h2, h3, h4 | h4⟩
  · exact absurd h2.symm h1
  · exact absurd h3 (by decide)
  · exact absurd h4.2 (by decide)
  · obtain ⟨a, b⟩ := shp_yes h2
    obtain ⟨c, d⟩ := shp_yes h3
    exact ⟨h1, a, c, b, d, fun g b hg hb hbad => h4.1 ⟨g, b, hg, hb, by omega, hbad⟩⟩
end Go.Proofs.YtanjcbnkkhbkkaaDoor.Qn

/- A drawn region within a round of a loop over a function: as outside of it, where nothing of it defers. -/
namespace Go.Proofs.YtanjcbnkkhbkkaaDoor.Rg
open Go
variable {F : Fence} {n : Nat} {P : Program} {ops : Array Oper} {Q : Exit → Act → World → Prop} {md : Region.Mode}

theorem op_inRound {o : Oper} {a : Act} {w : World} {K K' : Act → World → Prop} (l : Nat) (hro : F.round = none) (hd : ∀ c, o.op ≠ .defer c) (h : ∀ a w, K a w → K' a w)
    (hh : o.wpIn F n P a w K Q) : o.wpIn (F.inRound l) n P a w K' Q := by
  have hh := Oper.wpIn_mono h hh
  unfold Oper.wpIn at *
  rw [Oper.semAt_plain F _ _ hd] at hh
  rw [Oper.semAt_plain (F.inRound l) _ _ hd]
  refine ⟨hh.1, ?_⟩
  have hh := hh.2
  generalize (execOp a.eval o).run P w = r at *
  cases r with
  | ok x w' => cases x <;> exact hh
  | halt x w' => cases x <;> exact hh
theorem any_inRound (l : Nat) (hro : F.round = none) (hd : ∀ (i : Nat) (o : Oper), ops[i]? = some o → ∀ c, o.op ≠ .defer c) : ∀ (fuel : Nat) (listed : Array Bool) (a : Act) (w : World), wpAnyIn F n P md ops Q fuel listed a w → wpAnyIn (F.inRound l) n P md ops Q fuel listed a w
  | 0, _, _, _, h => h
  | fuel + 1, listed, a, w, h => by
    refine ⟨h.1, fun i hi => ?_⟩
    have := h.2 i hi
    unfold wpOpIn at this ⊢
    cases e : ops[i]? with
    | none => rw [e] at this; exact any_inRound l hro hd fuel _ _ _ this
    | some o =>
      rw [e] at this
      simp only at this ⊢
      split
      · rename_i hw
        rw [if_pos hw] at this
        exact op_inRound l hro (hd i o e) (fun a w => any_inRound l hro hd fuel _ a w) this
      · rename_i hw
        rw [if_neg hw] at this
        exact ⟨this.1, any_inRound l hro hd fuel _ _ _ this.2⟩
/-- No operation defers. -/
def noDefer (os : List Oper) : Bool := os.all fun o => match o.op with | .defer _ => false | _ => true
theorem noDefer_at {os : List Oper} (h : noDefer os = true) : ∀ (i : Nat) (o : Oper), os.toArray[i]? = some o → ∀ c, o.op ≠ .defer c := by
  intro i o ho c e
  have hm : o ∈ os := by
    have := Array.mem_of_getElem? ho
    simpa using this
  have := (List.all_eq_true.1 h) o hm
  rw [e] at this
  cases this
theorem region_quiet_round {id : Nat} {a : Act} {w : World} {os : List Oper} (l : Nat) (hro : F.round = none) (hm : P.follows .mixedOrders = true) (hB : Region.lexB .any os.toArray = true) (hd : noDefer os = true)
    (h : wpQuietIn F n P os.toArray (fun w' => ∃ n, w' = w.drewN n) (fun a' => ∀ w', (∃ n, w' = w.drewN n) → Q .normal a' w') os a) : (Code.region id os.toArray true).wpIn (F.inRound l) n P Q a w := by
  simp only [Region.lexB, Bool.and_eq_true] at hB
  refine wpIn_region_any hm (any_inRound l hro (noDefer_at hd) _ _ _ _ (wpAnyIn_of_quiet (C := fun w' => ∃ n, w' = w.drewN n) (Q := fun a' => ∀ w', (∃ n, w' = w.drewN n) → Q .normal a' w') hro (fun _ w' hw' h => h w' hw') _ _ _ _ ⟨1, rfl⟩ ?_))
  have := wpAnyQIn_lex (F := F) (n := n) (C := fun w' => ∃ n, w' = w.drewN n) (md := .any) hB.1 os.toArray.toList 0 (Array.replicate os.toArray.size false) a (by simp) (by simpa using hB.2) (by simpa using h)
  simpa using this
end Go.Proofs.YtanjcbnkkhbkkaaDoor.Rg

/- A drawn region within a round of a loop over a function: what is known of it outside of a round holds there too. -/
namespace Go.Proofs.YtanjcbnkkhbkkaaDoor.Rg
open Go
variable {n : Nat} {P : Program} {ops : Array Oper} {Q : Exit → Act → World → Prop} {md : Region.Mode}

theorem op_plain {o : Oper} {a : Act} {w : World} {K K' : Act → World → Prop} (l : Nat) (hd : ∀ c, o.op ≠ .defer c) (h : ∀ a w, K a w → K' a w)
    (hh : o.wp P a w K Q) : o.wpIn (Fence.wide.inRound l) n P a w K' Q := by
  have hh := Oper.wp_mono h hh
  unfold Oper.wp at hh
  unfold Oper.wpIn
  rw [Oper.semAt_plain (Fence.wide.inRound l) _ _ hd]
  refine ⟨fun _ _ => trivial, ?_⟩
  have hdp : ((Fence.wide.inRound l).depth.isSome = true → 1 ≤ n) := fun h => by cases h
  generalize (execOp a.eval o).run P w = r at *
  cases r with
  | ok x w' =>
    cases x with
    | value v => exact hh
    | skip => exact hh
    | defer d => exact hh
    | enter f args => exact ⟨hdp, (callsIn_wide (n := n - 1)).2 hh⟩
    | row row args => exact ⟨hdp, fun c cs _ => let ⟨v, w', r, s⟩ := hh c cs; ⟨v, w', r, stepsIn_wide.2 s⟩⟩
    | _ => exact hh.elim
  | halt x w' => cases x <;> exact hh
theorem any_plain (l : Nat) (hL : ¬ LetsOut Q) (hd : ∀ (i : Nat) (o : Oper), ops[i]? = some o → ∀ c, o.op ≠ .defer c) : ∀ (fuel : Nat) (listed : Array Bool) (a : Act) (w : World), wpAny P md ops Q fuel listed a w → wpAnyIn (Fence.wide.inRound l) n P md ops Q fuel listed a w
  | 0, _, _, _, h => h
  | fuel + 1, listed, a, w, h => by
    refine ⟨h.1, fun i hi => ?_⟩
    have := h.2 i hi
    unfold wpOp at this
    unfold wpOpIn
    cases e : ops[i]? with
    | none => rw [e] at this; exact any_plain l hL hd fuel _ _ _ this
    | some o =>
      rw [e] at this
      simp only at this ⊢
      split
      · rename_i hw
        rw [if_pos hw] at this
        rcases this with this | ⟨_, hq⟩
        · exact op_plain l (hd i o e) (fun a w => any_plain l hL hd fuel _ a w) this
        · exact absurd hq hL
      · rename_i hw
        rw [if_neg hw] at this
        exact ⟨fun _ _ => trivial, any_plain l hL hd fuel _ _ _ this⟩
theorem region_held_round {id : Nat} {a : Act} {w : World} {os : List Oper} (l : Nat) (S : World → Prop) (hm : P.follows .mixedOrders = true) (hd : noDefer os = true) (hL : ¬ LetsOut Q)
    (h : wpAnyH P .any os.toArray Q S os.toArray.size (Array.replicate os.toArray.size false) a w.drew) : (Code.region id os.toArray true).wpIn (Fence.wide.inRound l) n P Q a w :=
  wpIn_region_any hm (any_plain l hL (noDefer_at hd) _ _ _ _ (wpAny_of_held _ _ _ _ h))
end Go.Proofs.YtanjcbnkkhbkkaaDoor.Rg
