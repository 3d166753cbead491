/- Texts of one claim, one behind the other: TnOp, TnSm. -/
import Derived.Test.YtbodpeiemamibaaMrg3
import Derived.Test.YtbodpeiemamibaaEvOpen
import Derived.Laws.OwnMore
import Derived.WalkKit
import Derived.Below
import Derived.Laws.AppendOwn
import Derived.Laws.AppendOwnNone
import Derived.RegionTactic
import Derived.Deep.QuietTactic
import Derived.BigQuiet
import Derived.WalkSpells
import Derived.ProofKit
import Derived.OpenShut
import Derived.Lib.Hide
set_option linter.unusedVariables false
/- A filter, taken apart; copies by append. -/
namespace Go.Proofs.Ytbodpeiemamibaa.Tn
open Go Go.Ev Go.ChangeShapes Go.WideShapes Go.ChangeAt Go.RowKit Go.Proofs.Ytbodpeiemamibaa.Fx
theorem run_app0 (w : World) (ty : TypeId) (v : Value) (n : Nat) (base : Nat) (xs : List Value) (cap : Nat) (hown : w.ownsRow base 3 1 v n xs) :
    (Builtin.append_ #[22, 22] ty #[v, .slice none 0 cap]).run Try.prog w = .ok v w := by
  obtain ⟨i, hi, hz0, hz1, hz2⟩ := info_parts info3
  rcases hown.2 with ⟨rfl, rfl⟩ | ⟨g, cap, cur, rfl, _, _, hnc, _⟩
  · simp [Builtin.append_, run_underlying Try.underlying22, sizeOf, typeInfo, hi, Builtin.lenOf, Builtin.firstCells]
  · simp [Builtin.append_, run_underlying Try.underlying22, sizeOf, typeInfo, hi, Builtin.lenOf, Builtin.firstCells, hnc, storeCells]
/-- A copy by append. -/
theorem wpList_copy (w : World) {ops : Array Oper} {rest : List Oper} {o : Oper} {a : Act} {Q : Exit → Act → World → Prop} (hgd : o.guard = none) (s x : Operand)
    (ho : o.op = .call { callee := .builtin .append, args := #[s, x], argTypes := #[22, 22] }) (base : Nat) (v : Value) (hs : a.eval s = v) (A : Option Addr) (cap : Nat) (zs : List Int) (hown : w.ownsRow base 3 1 v 0 []) (hbs : base ≤ w.heap.size) (hx : a.eval x = .slice A zs.length cap) (hn : zs.length ≤ 1000) (hc : RdA w A zs)
    (hK : ∀ v' w', Own base w' v' zs → w.grownBy w' v.ownBlock → wpList Try.prog ops Q rest (a.put o.dst v') w') : wpList Try.prog ops Q (o :: rest) a w := by
  obtain ⟨i0, hi, hz0, hz1, hz2⟩ := info_parts info3
  have hA : (A = none ∧ zs = []) ∨ ∃ x, A = some x ∧ ∀ j u, (zs.map (Value.int .i64))[j]? = some u → w.cell? (x.add j) = some u := by
    cases A with
    | none =>
      refine .inl ⟨rfl, ?_⟩
      cases zs with
      | nil => rfl
      | cons z zs => obtain ⟨b, off, e, _⟩ := hc 0 (by simp); cases e
    | some x =>
      refine .inr ⟨x, rfl, fun j u hu => ?_⟩
      simp only [List.getElem?_map, Option.map_eq_some_iff] at hu
      obtain ⟨q, hq, rfl⟩ := hu
      obtain ⟨hj, rfl⟩ := List.getElem?_eq_some_iff.1 hq
      obtain ⟨b, off, e, _, h1⟩ := hc j hj
      simp only [Option.some.injEq] at e
      subst e
      rw [add_at, h1]
      simp [List.getD_eq_getElem?_getD, List.getElem?_eq_getElem hj]
  rcases hA with ⟨rfl, rfl⟩ | ⟨x1, rfl, hc2⟩
  · refine wpList_plain hgd fun K hK' => ?_
    have hrun := run_app0 w o.type v 0 base [] cap hown
    unfold Oper.wp
    simp only [List.length_nil] at hx
    simp [execOp, ho, resolve, invoke, builtin, hs, hx, hrun, Result.andThen]
    exact hK' _ _ (hK _ _ hown ⟨rfl, rfl, rfl, Nat.le_refl _, fun _ _ _ => rfl⟩)
  · refine wpList_append_own w hgd s x 22 ho base 3 i0 (.int .i64 0) 1 8 Try.underlying22 hi hz0 hz1 hz2 rfl (by decide) _ 0 _ hs hown x1 zs.length cap (zs.map (Value.int .i64)) hx (by simp) hc2 (one64 _) (by unfold maxLen; omega) (by omega) hbs ?_
    intro v' w' h1 h2 _
    refine hK v' w' ?_ h2
    unfold Own
    rw [Nat.zero_add, List.nil_append] at h1
    exact h1

section
variable {H : Type} {enc : TypeId × Value → H} {P : Program} {W : World} {base b0 : Nat} {held : Bool} {r : Reach}
/-- A struct of two numbers, two bools and a slice of numbers. -/
theorem open_filt {T : TypeId} {f0 f1 f2 f3 f4 : Field} {e : TypeId} {v : Value} {d : DataW H} {p : List MemPlace} (ht : P.underlying T = some (.struct #[f0, f1, f2, f3, f4])) (o0 : f0.offset = 0) (o1 : f1.offset = 1) (o2 : f2.offset = 2) (o3 : f3.offset = 3) (o4 : f4.offset = 4)
    (h0 : P.underlying f0.type = some (.int .i64)) (h1 : P.underlying f1.type = some (.int .i64)) (h2 : P.underlying f2.type = some .bool) (h3 : P.underlying f3.type = some .bool) (h4 : P.underlying f4.type = some (.slice e)) (he : P.underlying e = some (.int .i64))
    (c0 : P.cellsOf f0.type = 1) (c1 : P.cellsOf f1.type = 1) (c2 : P.cellsOf f2.type = 1) (c3 : P.cellsOf f3.type = 1) (c4 : P.cellsOf f4.type = 1) (ce : P.cellsOf e = 1) (hcT : P.cellsOf T = 5)
    (hv : Value.okWide P W r base T v) (h : DataW.Trod enc P W b0 (fun _ => true) held T v d p) :
    ∃ L O dn f a cap zs, v = .agg #[.int .i64 L, .int .i64 O, .bool dn, .bool f, .slice a zs.length cap] ∧ (Lit.int .i64 L).wf = true ∧ (Lit.int .i64 O).wf = true ∧ zs.length ≤ maxLen ∧ RowA .i64 W a zs ∧ ∀ n ∈ zs, (Lit.int .i64 n).wf = true := by
  obtain ⟨cs, rfl, hs⟩ := okWide_struct ht hv
  rw [hcT] at hs
  obtain ⟨fuel, hf⟩ := h
  obtain ⟨x0, x1, x2, x3, x4, rfl⟩ : ∃ x0 x1 x2 x3 x4, cs = #[x0, x1, x2, x3, x4] := by
    obtain ⟨l⟩ := cs
    match l, hs with
    | [x0, x1, x2, x3, x4], _ => exact ⟨x0, x1, x2, x3, x4, rfl⟩
  have hf' : DataW.trod enc P W b0 (fun _ => true) held fuel T [x0, x1, x2, x3, x4] = some (d, p) := by simpa [Value.cells] using hf
  obtain ⟨xs, n, _, _, _, hl, hi⟩ := DataW.trod_struct ht hf'
  have q0 := hi 0 f0 rfl
  have q1 := hi 1 f1 rfl
  have q2 := hi 2 f2 rfl
  have q3 := hi 3 f3 rfl
  have q4 := hi 4 f4 rfl
  rw [o0, c0] at q0
  rw [o1, c1] at q1
  rw [o2, c2] at q2
  rw [o3, c3] at q3
  rw [o4, c4] at q4
  have hl4 : xs.length = 5 := by simpa using hl
  match xs, hl4 with
  | [y0, y1, y2, y3, y4], _ =>
  obtain ⟨k0, e0, _, w0⟩ := DataW.trod_int h0 (show _ = some y0 from q0)
  obtain ⟨k1, e1, _, w1⟩ := DataW.trod_int h1 (show _ = some y1 from q1)
  obtain ⟨k2, e2, _⟩ := DataW.trod_bool h2 (show _ = some y2 from q2)
  obtain ⟨k3, e3, _⟩ := DataW.trod_bool h3 (show _ = some y3 from q3)
  have q4' : DataW.trod enc P W b0 (fun _ => true) held n f4.type [x4] = some y4 := by simpa using q4
  obtain ⟨a, cap, zs, e4, g1, g2, g3⟩ := open_row h4 he ce q4'
  simp at e0 e1 e2 e3
  subst e0 e1 e2 e3 e4
  exact ⟨k0, k1, k2, k3, a, cap, zs, rfl, w0, w1, g1, g2, g3⟩
end
/-- A box that holds a filter. -/
def C5 (x : World) (b : Nat) (L O : Int) (dn f : Bool) (v : Value) : Prop := x.cell? ⟨b, 0, none⟩ = some (.int .i64 L) ∧ x.cell? ⟨b, 1, none⟩ = some (.int .i64 O) ∧ x.cell? ⟨b, 2, none⟩ = some (.bool dn) ∧ x.cell? ⟨b, 3, none⟩ = some (.bool f) ∧ x.cell? ⟨b, 4, none⟩ = some v
theorem C5.below {w x : World} {b : Nat} {L O : Int} {dn f : Bool} {v : Value} (k : C5 w b L O dn f v) (hl : b < w.heap.size) (hb : Below w.heap.size w x) : C5 x b L O dn f v :=
  ⟨(hb.cell (p := ⟨b, 0, none⟩) hl).trans k.1, (hb.cell (p := ⟨b, 1, none⟩) hl).trans k.2.1, (hb.cell (p := ⟨b, 2, none⟩) hl).trans k.2.2.1, (hb.cell (p := ⟨b, 3, none⟩) hl).trans k.2.2.2.1, (hb.cell (p := ⟨b, 4, none⟩) hl).trans k.2.2.2.2⟩
end Go.Proofs.Ytbodpeiemamibaa.Tn

/- Two lists, the same or not. -/
namespace Go.Proofs.Ytbodpeiemamibaa.Tn
open Go Go.ChangeShapes Go.WideShapes Go.ChangeAt Go.RowKit Go.Proofs.Ytbodpeiemamibaa.Fx
set_option maxRecDepth 100000 in
set_option maxHeartbeats 2000000 in
theorem same_ok (a b : Option Addr) (c d : Nat) (xs ys : List Int) (w : World) (hl : xs.length ≤ 1000) (hm : ys.length ≤ maxLen) (hx : RdA w a xs) (hy : RdA w b ys) :
    Calls Try.prog 7 #[.slice a xs.length c, .slice b ys.length d] w fun e w' => e = .returned (.bool (xs == ys)) ∧ Below w.heap.size w w' := by
  unfold maxLen at hm
  by_cases hne : xs.length = ys.length
  · have HX := Lib.hid (fun w1 (k : Below w.heap.size w w1) => hx.below k)
    have HY := Lib.hid (fun w1 (k : Below w.heap.size w w1) => hy.below k)
    clear hx hy
    obtain ⟨R, hR⟩ : ∃ R, R = (xs == ys) := ⟨_, rfl⟩
    rw [← hR]
    have HV := Lib.hid hR
    clear hR
    have HNE := Lib.hid hne
    rw [← hne]
    clear hne hm
    go_enter Try.func7, Try.ntmps7
    go_wp2
    go_loopw [5] (fun iv wr => ∃ k : Nat, k ≤ xs.length ∧ iv = .int .i64 k ∧ Below w.heap.size w wr ∧ Hid (xs.take k = ys.take k)) (fun iv _ => xs.length - (intOf iv).toNat)
    case atStart => exact ⟨0, by omega, rfl, Below.refl _ _, Lib.hid (by simp)⟩
    case round =>
      obtain ⟨k, hk, rfl, hb, ht⟩ := hrel
      by_cases hlt : k < xs.length
      · obtain ⟨b1, o1, e1, _, q1⟩ := HX.out wr hb k hlt
        obtain ⟨b2, o2, e2, _, q2⟩ := HY.out wr hb k (by have := HNE.out; omega)
        have hlt2 : k < ys.length := by have := HNE.out; omega
        have hxk : xs.getD k 0 = xs[k] := by simp [hlt]
        have hyk : ys.getD k 0 = ys[k] := by simp [hlt2]
        have HD : Hid (xs.getD k 0 ≠ ys.getD k 0 → (xs == ys) = false) := Lib.hid (fun q => by
          have : xs ≠ ys := fun e => q (by rw [e])
          simpa using this)
        have HE : Hid (xs.getD k 0 = ys.getD k 0 → xs.take (k + 1) = ys.take (k + 1)) := Lib.hid (fun q => by
          rw [hxk, hyk] at q
          rw [List.take_add_one, List.take_add_one, ht.out, List.getElem?_eq_getElem hlt, List.getElem?_eq_getElem hlt2, q])
        clear hxk hyk ht
        subst e1 e2
        generalize xs.getD k 0 = x at *
        generalize ys.getD k 0 = y at *
        clear HX HY
        by_cases hxy : x = y
        · subst hxy
          have HE2 := Lib.hid (HE.out rfl)
          clear HE HD
          go_wp2
          go_quiet (fail)
          go_wp2
          go_roundw
          case rel => exact ⟨k + 1, by omega, by go_num, hb.trans ((drewN_belowL wr nq).mono hb.size), HE2⟩
          case measure => simp [intOf]; omega
        · obtain rfl : R = false := by rw [HV.out]; exact HD.out hxy
          have hx1 : (x == y) = false := by simpa using hxy
          have hx2 : (x != y) = true := by simp [hxy]
          clear HE HD HV
          go_wp2
          go_quiet (fail)
          go_wp2
          go_ret
          exact ⟨rfl, hb.trans ((drewN_belowL wr nq).mono hb.size)⟩
      · have hend : k = xs.length := by omega
        have ht2 := ht.out
        rw [hend, List.take_length, HNE.out, List.take_length] at ht2
        obtain rfl : R = true := by rw [HV.out, ht2]; simp
        clear ht ht2 HV
        have hlt3 : ¬ (k : Int) < xs.length := by omega
        go_wp2
        go_ret
        exact ⟨rfl, hb⟩
  · have hf : (xs == ys) = false := by
      have : xs ≠ ys := fun e => hne (by rw [e])
      simpa using this
    rw [hf]
    have h1 : ((xs.length : Int) == (ys.length : Int)) = false := by simp; omega
    have h2 : ((xs.length : Int) != (ys.length : Int)) = true := by simp; omega
    have h3 : ¬ (xs.length : Int) = (ys.length : Int) := by omega
    clear hf hx hy hm hl
    go_enter Try.func7, Try.ntmps7
    go_wp2
    go_ret
    exact ⟨rfl, Below.refl _ _⟩
theorem same_self (a b : Option Addr) (c d : Nat) (xs : List Int) (w : World) (hl : xs.length ≤ 1000) (hx : RdA w a xs) (hy : RdA w b xs) :
    Calls Try.prog 7 #[.slice a xs.length c, .slice b xs.length d] w fun e w' => e = .returned (.bool true) ∧ Below w.heap.size w w' := by
  have h := same_ok a b c d xs xs w hl (by unfold maxLen; omega) hx hy
  rw [show (xs == xs) = true by simp] at h
  exact h
/-- A row that may be written to. -/
def Wr (x : World) (base n : Nat) (A : Option Addr) : Prop := ∀ j, j < n → ∃ g z, A = some ⟨g, 0, none⟩ ∧ base ≤ g ∧ x.frozen? ⟨g, j, none⟩ = false ∧ x.cell? ⟨g, j, none⟩ = some (.int .i64 z)
theorem Wr.set {w : World} {base n : Nat} {g : Nat} {k : Nat} {z : Int} (h : Wr w base n (some ⟨g, 0, none⟩)) (hk : k < n) : Wr (w.setCell ⟨g, k, none⟩ (.int .i64 z)) base n (some ⟨g, 0, none⟩) := fun j hj => by
  obtain ⟨g', z', e, h1, h3, h4⟩ := h j hj
  simp only [Option.some.injEq, Addr.mk.injEq, and_true] at e
  subst e
  by_cases hjk : j = k
  · subst hjk
    exact ⟨g, z, rfl, h1, by simpa using h3, by simp [go_sem, h4]⟩
  · refine ⟨g, z', rfl, h1, by simpa using h3, ?_⟩
    have hne : (⟨g, k, none⟩ : Addr) ≠ ⟨g, j, none⟩ := by simp only [ne_eq, Addr.mk.injEq]; omega
    simp only [World.cell?_setCell_other (h := hne)]
    exact h4
theorem Wr.below {w x : World} {base n : Nat} {A : Option Addr} (h : Wr w base n A) (hb : Below w.heap.size w x) : Wr x base n A := fun j hj => by
  obtain ⟨g, z, e, h1, h3, h4⟩ := h j hj
  have hl := Go.Ev.lt_cell h4
  exact ⟨g, z, e, h1, (hb.frozen (p := ⟨g, j, none⟩) hl).trans h3, (hb.cell (p := ⟨g, j, none⟩) hl).trans h4⟩
end Go.Proofs.Ytbodpeiemamibaa.Tn
