/- Texts of one claim, one behind the other: QdBo. -/
import Derived.Test.YtanjcbnkkhbkkaaDoorMrg1
import Derived.WalkKit
import Derived.Below
import Derived.RegionTactic
import Derived.Deep.QuietTactic
import Derived.BigQuiet
import Derived.ProofKit
import Derived.OpenShut
import Derived.Laws.AppendOwn
import Derived.Laws.AppendOwnNone
import Derived.Deep.OwnRows
import Derived.Lib.Hide
set_option linter.unusedVariables false
/- What the program and the document answer. -/
namespace Go.Proofs.YtanjcbnkkhbkkaaDoor.Qd
open Go Go.ChangeShapes Go.WideShapes Go.ChangeAt Go.RowKit Go.Proofs.YtanjcbnkkhbkkaaDoor.If Go.Proofs.YtanjcbnkkhbkkaaDoor.Bd Go.Proofs.YtanjcbnkkhbkkaaDoor.Qn

theorem turned_errc (r s h m : Int) (ga : Option Addr) (gc : Nat) (gz : List Int) (O P A : Option Addr) (oc pc lc : Nat) (B S : List (List Int)) (lz : List Int) (most : Int) (fn : Nat) (w : World) (I : Inp w ga gz O P B S) (hll : lz.length ≤ 1000) (rl : RdA w A lz) (hm0 : 0 ≤ most) (hm1 : most ≤ 1099511627776) (c : Int) (hc : c ≠ 0) (hae : AE r s h m gz B S lz most c) :
    Calls Tryd.prog 53 #[.int .i64 r, .agg #[.int .u8 s, .int .u8 h, .int .i64 m, .slice ga gz.length gc], .slice O B.length oc, .slice P S.length pc, .slice A lz.length lc, .int .i64 most, .func (.func fn) #[] #[]] w fun e w' => e = .returned (.tuple #[.slice none 0 0, .int .i64 c]) ∧ Below w.heap.size w w' := by
  have gl := I.gl
  have bl := I.bl
  have sl := I.sl
  obtain ⟨q, hq, ⟨h1, rfl⟩ | ⟨rfl, hT⟩⟩ := hae
  · exact turned_e1 r s h m ga gc gz O P A oc pc lc B S lz most fn w (by omega) (by omega) (by omega) I.br I.sr (by omega) I.hg I.rB I.rS rl c hq hc
  · rcases hT with ⟨hl, rfl⟩ | ⟨hl, hx, rfl⟩ | ⟨_, _, h0⟩
    · exact turned_e2 r s h m ga gc gz O P A oc pc lc B S lz most fn w (by omega) (by omega) (by omega) I.br I.sr (by omega) I.hg I.rB I.rS rl 0 hq rfl hl
    · obtain ⟨j, hj, hx⟩ : ∃ j : Nat, j < 256 ∧ ¬ (-most ≤ lz.getD j 0 ∧ lz.getD j 0 ≤ most) := Classical.byContradiction fun hn => hx (fun j hj => Classical.byContradiction fun hx => hn ⟨j, hj, hx⟩)
      exact turned_e3 r s h m ga gc gz O P A oc pc lc B S lz most fn w (by omega) (by omega) (by omega) I.br I.sr (by omega) I.hg I.rB I.rS rl 0 hq rfl hl hm0 hm1 ⟨j, by omega, hj, hx⟩
    · exact absurd h0 hc
/-- A row that may be written to. -/
def Wr (x : World) (base n : Nat) (A : Option Addr) : Prop := ∀ j, j < n → ∃ g z, A = some ⟨g, 0, none⟩ ∧ base ≤ g ∧ x.frozen? ⟨g, j, none⟩ = false ∧ x.cell? ⟨g, j, none⟩ = some (.int .i64 z)
theorem Wr.set {w : World} {base n : Nat} {g : Nat} {k : Nat} {z : Int} (h : Wr w base n (some ⟨g, 0, none⟩)) (hk : k < n) : Wr (w.setCell ⟨g, k, none⟩ (.int .i64 z)) base n (some ⟨g, 0, none⟩) := fun j hj => by
  obtain ⟨g', z', e, h1, h3, h4⟩ := h j hj
  simp only [Option.some.injEq, Addr.mk.injEq, and_true] at e
  subst e
  by_cases hjk : j = k
  · subst hjk
    exact ⟨g, z, rfl, h1, by simpa using h3, by simp [go_sem, h4]⟩
  · refine ⟨g, z', rfl, h1, by simpa using h3, ?_⟩
    have hne : (⟨g, k, none⟩ : Addr) ≠ ⟨g, j, none⟩ := by simp only [ne_eq, Addr.mk.injEq]; omega
    simp only [World.cell?_setCell_other (h := hne)]
    exact h4
theorem Wr.other {w : World} {base n : Nat} {A : Option Addr} {b k : Nat} {v : Value} (h : Wr w base n A) (hb : ∀ j, j < n → ∀ g, A = some ⟨g, 0, none⟩ → g ≠ b) : Wr (w.setCell ⟨b, k, none⟩ v) base n A := fun j hj => by
  obtain ⟨g, z, e, h1, h3, h4⟩ := h j hj
  have hne := hb j hj g e
  have hne : (⟨b, k, none⟩ : Addr) ≠ ⟨g, j, none⟩ := by simp only [ne_eq, Addr.mk.injEq]; omega
  refine ⟨g, z, e, h1, by simpa using h3, ?_⟩
  simp only [World.cell?_setCell_other (h := hne)]
  exact h4
theorem Wr.below {w x : World} {base n : Nat} {A : Option Addr} (h : Wr w base n A) (hb : Below w.heap.size w x) : Wr x base n A := fun j hj => by
  obtain ⟨g, z, e, h1, h3, h4⟩ := h j hj
  have hl := cell_in' h4
  exact ⟨g, z, e, h1, (hb.frozen (p := ⟨g, j, none⟩) hl).trans h3, (hb.cell (p := ⟨g, j, none⟩) hl).trans h4⟩
theorem rda_nil (W : World) (A : Option Addr) : RdA W A [] := fun i hi => by simp at hi
theorem own_rdA {base : Nat} {w : World} {v : Value} {zs : List Int} (h : Bd.Own base w v zs) : ∃ A c, v = .slice A zs.length c ∧ RdA w A zs := (RowV.of_own h).rd
theorem ae_ex (r s h m : Int) (gz : List Int) (B S : List (List Int)) (lz : List Int) (most : Int) : ∃ c, AE r s h m gz B S lz most c ∧ (c = 0 → Fine r s h m gz B S lz most) := by
  obtain ⟨q, hq⟩ := qe_ex r s h m gz B S
  by_cases h0 : q = 0
  · subst h0
    by_cases hl : lz.length = 256
    · by_cases hi : inr most lz
      · exact ⟨0, ⟨0, hq, .inr ⟨rfl, .inr (.inr ⟨hl, hi, rfl⟩)⟩⟩, fun _ => ⟨hq, hl, hi⟩⟩
      · exact ⟨2, ⟨0, hq, .inr ⟨rfl, .inr (.inl ⟨hl, hi, rfl⟩)⟩⟩, fun e => absurd e (by decide)⟩
    · exact ⟨4, ⟨0, hq, .inr ⟨rfl, .inl ⟨hl, rfl⟩⟩⟩, fun e => absurd e (by decide)⟩
  · exact ⟨q, ⟨q, hq, .inl ⟨h0, rfl⟩⟩, fun e => absurd e h0⟩
theorem rowIs_parts {W : World} {g : Nat} {F : Nat → Int} (h : W.rowIs g 3 256 (fun j => .int .i64 (F j))) {base : Nat} (hg : base ≤ g) : RdA W (some ⟨g, 0, none⟩) (mkq F) ∧ Wr W base (mkq F).length (some ⟨g, 0, none⟩) :=
  ⟨rda_row h, fun j hj => ⟨g, F j, rfl, hg, h.frozen j, h.cell (by rw [mkq_len] at hj; exact hj)⟩⟩
theorem lines_errc (r s h m : Int) (ga : Option Addr) (gc : Nat) (gz : List Int) (O P A : Option Addr) (oc pc lc : Nat) (B S : List (List Int)) (lz : List Int) (w : World) (I : Inp w ga gz O P B S) (hll : lz.length ≤ 1000) (rl : RdA w A lz) (c : Int) (hc : c ≠ 0) (hae : AE r s h m gz B S lz 8191 c) :
    Calls Tryd.prog 31 #[.int .i64 r, .agg #[.int .u8 s, .int .u8 h, .int .i64 m, .slice ga gz.length gc], .slice O B.length oc, .slice P S.length pc, .slice A lz.length lc] w fun e w' => e = .returned (.tuple #[.slice none 0 0, .int .i64 c]) ∧ Below w.heap.size w w' := by
  have HB := Lib.hid (box_below w (.cells #[.int .u8 s, .int .u8 h, .int .i64 m, .slice ga gz.length gc] 50))
  obtain ⟨y0, y1, y2, y3⟩ := boxed w s h m (.slice ga gz.length gc) _ (Below.refl _ _)
  have HT := Lib.hid (turned_errc r s h m ga gc gz O P A oc pc lc B S lz 8191 17 _ (I.below HB.out) hll (rl.below HB.out) (by decide) (by decide) c hc hae)
  clear I rl hll hae
  go_enter Tryd.func31, Tryd.ntmps31
  go_wp2_with (go_at_call 53; ((with_reducible refine (HT.out).mono ?_); rintro e w1 ⟨rfl, hb⟩))
  go_ret2
  exact ⟨rfl, belowT HB.out hb⟩
theorem lines_both (r s h m : Int) (ga : Option Addr) (gc : Nat) (gz : List Int) (B S : List (List Int)) (lz : List Int) (hll : lz.length ≤ 1000) : ∃ (us : List Int) (E : Int), us.length ≤ 256 ∧
    (∀ W O P A oc pc lc, Fx.Qs W → Inp W ga gz O P B S → RdA W A lz → Calls Tryd.prog 31 #[.int .i64 r, .agg #[.int .u8 s, .int .u8 h, .int .i64 m, .slice ga gz.length gc], .slice O B.length oc, .slice P S.length pc, .slice A lz.length lc] W fun e W' => ∃ A' c', e = .returned (.tuple #[.slice A' us.length c', .int .i64 E]) ∧ RdA W' A' us ∧ Wr W' W.heap.size us.length A' ∧ Below W.heap.size W W') ∧
    (∀ W O P A oc pc lc, Inp W ga gz O P B S → RdA W A lz → Calls Tryd.prog 32 #[.int .i64 r, .agg #[.int .u8 s, .int .u8 h, .int .i64 m, .slice ga gz.length gc], .slice O B.length oc, .slice P S.length pc, .slice A lz.length lc] W fun e W' => ∃ A' c', e = .returned (.tuple #[.slice A' us.length c', .int .i64 E]) ∧ RdA W' A' us ∧ Below W.heap.size W W') := by
  obtain ⟨c, hae, hf⟩ := ae_ex r s h m gz B S lz 8191
  by_cases hc : c = 0
  · have hF := hf hc
    refine ⟨mkq (QV r s m gz B S lz Fx.FL), 0, by rw [mkq_len]; exact Nat.le_refl _, fun W O P A oc pc lc hq I rl => ?_, fun W O P A oc pc lc I rl => ?_⟩
    · refine (lines_good r s h m ga gc gz O P A oc pc lc B S lz W hq I rl hF).mono ?_
      rintro e W' ⟨g, rfl, hr, hg, hb⟩
      obtain ⟨h1, h2⟩ := rowIs_parts hr hg
      exact ⟨_, 256, by rw [mkq_len], h1, h2, hb⟩
    · refine (rlines_ok r s h m ga gc gz O P A oc pc lc B S lz W I rl hF).mono ?_
      rintro e W' ⟨g, rfl, hr, hg, hb⟩
      obtain ⟨h1, h2⟩ := rowIs_parts hr hg
      exact ⟨_, 256, by rw [mkq_len], h1, hb⟩
  · refine ⟨[], c, by simp, fun W O P A oc pc lc hq I rl => ?_, fun W O P A oc pc lc I rl => ?_⟩
    · refine (lines_errc r s h m ga gc gz O P A oc pc lc B S lz W I hll rl c hc hae).mono ?_
      rintro e W' ⟨rfl, hb⟩
      exact ⟨none, 0, rfl, rda_nil _ _, fun j hj => by simp at hj, hb⟩
    · refine (rlines_err r s h m ga gc gz O P A oc pc lc B S lz W I hll rl c hc hae).mono ?_
      rintro e W' ⟨rfl, hb⟩
      exact ⟨none, 0, rfl, rda_nil _ _, hb⟩
theorem quant_errc (r s h m : Int) (ga : Option Addr) (gc : Nat) (gz : List Int) (O P A : Option Addr) (oc pc lc : Nat) (B S : List (List Int)) (lz : List Int) (w : World) (I : Inp w ga gz O P B S) (hll : lz.length ≤ 1000) (rl : RdA w A lz) (c : Int) (hc : c ≠ 0) (hae : AE r s h m gz B S lz 268435455 c) :
    Calls Tryd.prog 33 #[.int .i64 r, .agg #[.int .u8 s, .int .u8 h, .int .i64 m, .slice ga gz.length gc], .slice O B.length oc, .slice P S.length pc, .slice A lz.length lc] w fun e w' => e = .returned (.tuple #[.slice none 0 0, .int .i64 c]) ∧ Below w.heap.size w w' := by
  have HB := Lib.hid (box_below w (.cells #[.int .u8 s, .int .u8 h, .int .i64 m, .slice ga gz.length gc] 50))
  obtain ⟨y0, y1, y2, y3⟩ := boxed w s h m (.slice ga gz.length gc) _ (Below.refl _ _)
  have HT := Lib.hid (turned_errc r s h m ga gc gz O P A oc pc lc B S lz 268435455 19 _ (I.below HB.out) hll (rl.below HB.out) (by decide) (by decide) c hc hae)
  clear I rl hll hae
  go_enter Tryd.func33, Tryd.ntmps33
  go_wp2_with (go_at_call 53; ((with_reducible refine (HT.out).mono ?_); rintro e w1 ⟨rfl, hb⟩))
  go_ret2
  exact ⟨rfl, belowT HB.out hb⟩
theorem quant_both (r s h m : Int) (ga : Option Addr) (gc : Nat) (gz : List Int) (B S : List (List Int)) (lz : List Int) (hll : lz.length ≤ 1000) : ∃ (us : List Int) (E : Int), us.length ≤ 256 ∧
    (∀ W O P A oc pc lc, Fx.Qs W → Inp W ga gz O P B S → RdA W A lz → Calls Tryd.prog 33 #[.int .i64 r, .agg #[.int .u8 s, .int .u8 h, .int .i64 m, .slice ga gz.length gc], .slice O B.length oc, .slice P S.length pc, .slice A lz.length lc] W fun e W' => ∃ A' c', e = .returned (.tuple #[.slice A' us.length c', .int .i64 E]) ∧ RdA W' A' us ∧ Wr W' W.heap.size us.length A' ∧ Below W.heap.size W W') ∧
    (∀ W O P A oc pc lc, Inp W ga gz O P B S → RdA W A lz → Calls Tryd.prog 34 #[.int .i64 r, .agg #[.int .u8 s, .int .u8 h, .int .i64 m, .slice ga gz.length gc], .slice O B.length oc, .slice P S.length pc, .slice A lz.length lc] W fun e W' => ∃ A' c', e = .returned (.tuple #[.slice A' us.length c', .int .i64 E]) ∧ RdA W' A' us ∧ Below W.heap.size W W') := by
  obtain ⟨c, hae, hf⟩ := ae_ex r s h m gz B S lz 268435455
  by_cases hc : c = 0
  · have hF := hf hc
    refine ⟨mkq (QV r s m gz B S lz Fx.FQ), 0, by rw [mkq_len]; exact Nat.le_refl _, fun W O P A oc pc lc hq I rl => ?_, fun W O P A oc pc lc I rl => ?_⟩
    · refine (quant_good r s h m ga gc gz O P A oc pc lc B S lz W hq I rl hF).mono ?_
      rintro e W' ⟨g, rfl, hr, hg, hb⟩
      obtain ⟨h1, h2⟩ := rowIs_parts hr hg
      exact ⟨_, 256, by rw [mkq_len], h1, h2, hb⟩
    · refine (rquant_ok r s h m ga gc gz O P A oc pc lc B S lz W I rl hF).mono ?_
      rintro e W' ⟨g, rfl, hr, hg, hb⟩
      obtain ⟨h1, h2⟩ := rowIs_parts hr hg
      exact ⟨_, 256, by rw [mkq_len], h1, hb⟩
  · refine ⟨[], c, by simp, fun W O P A oc pc lc hq I rl => ?_, fun W O P A oc pc lc I rl => ?_⟩
    · refine (quant_errc r s h m ga gc gz O P A oc pc lc B S lz W I hll rl c hc hae).mono ?_
      rintro e W' ⟨rfl, hb⟩
      exact ⟨none, 0, rfl, rda_nil _ _, fun j hj => by simp at hj, hb⟩
    · refine (rquant_err r s h m ga gc gz O P A oc pc lc B S lz W I hll rl c hc hae).mono ?_
      rintro e W' ⟨rfl, hb⟩
      exact ⟨none, 0, rfl, rda_nil _ _, hb⟩

/-! ### Lists of lists that come in, with their sizes -/
section
open Go.Ev Go.Deep
variable {H : Type} {enc : TypeId × Value → H} {P : Program} {W : World}
theorem weights_all {e : TypeId} : ∀ {l : List (DataW H)} {d : DataW H}, d ∈ l → ∀ n ∈ d.weights P e, n ∈ DataW.weightsAll P e l
  | x :: xs, d, hd, n, hn => by
    simp only [DataW.weightsAll, List.mem_append]
    rcases List.mem_cons.1 hd with rfl | h
    · exact .inl hn
    · exact .inr (weights_all h n hn)
  | [], d, hd, _, _ => by cases hd
theorem open_rows_sz {t e q : TypeId} {a : Option Addr} {len cap : Nat} {d : DataW H} {p : List MemPlace} (ht : P.underlying t = some (.slice e)) (he : P.underlying e = some (.slice q)) (hq : P.underlying q = some (.int .i64))
    (ce : P.cellsOf e = 1) (cq : P.cellsOf q = 1) (bq : P.bytesOf q = 8) (hw : ∀ n ∈ d.weights P t, n ≤ reachBytes) (h : DataW.Trod enc P W 0 (fun _ => true) true t (.slice a len cap) d p) : ∃ z, Rws W a len cap z ∧ Szd z := by
  obtain ⟨fuel, hf⟩ := h
  rcases open_int_rows ht he hq ce cq hf with ⟨hcs, _⟩ | ⟨a', l', c', A, L, C, Z, hcs, _, hl, hm, hd, hx⟩
  · simp [Value.cells] at hcs
    obtain ⟨rfl, rfl, rfl⟩ := hcs
    exact ⟨[], ⟨rfl, fun i hi => by simp at hi, fun i hi => by simp at hi, Nat.zero_le _⟩, fun i hi => by simp at hi⟩
  · simp [Value.cells] at hcs
    obtain ⟨rfl, rfl, rfl⟩ := hcs
    simp only [Prod.mk.injEq] at hd
    obtain ⟨rfl, _⟩ := hd
    refine ⟨(List.range len).map fun r => (Z r).take (L r), ⟨by simp, fun i hi => ?_, fun i hi => ?_, by omega⟩, fun i hi => ?_⟩
    · have hi' : i < len := by simpa using hi
      obtain ⟨x0, x1, x2, x3, _, x5, x6⟩ := hx i (by omega)
      have e : ((List.range len).map fun r => (Z r).take (L r)).getD i [] = (Z i).take (L i) := by simp [hi']
      rw [e]
      have el : ((Z i).take (L i)).length = L i := by simp; omega
      obtain ⟨b, off, sub⟩ := a'
      have hs : sub = none := by simpa [Addr.add] using World.cell?_spot (hx 0 (by omega)).1
      subst hs
      rw [Go.WideShapes.add_plain] at x0
      refine ⟨b, off, A i, C i, rfl, cell_in' x0, by rw [el]; exact x0, rda_of x3 x5 (fun a' ha => (x6 a' ha).2) _ x1⟩
    · have hi' : i < len := by simpa using hi
      obtain ⟨x0, x1, x2, x3, _⟩ := hx i (by omega)
      have e : ((List.range len).map fun r => (Z r).take (L r)).getD i [] = (Z i).take (L i) := by simp [hi']
      rw [e]
      simp; omega
    · have hi' : i < len := by simpa using hi
      obtain ⟨x0, x1, x2, x3, _, x5, x6⟩ := hx i (by omega)
      have e : ((List.range len).map fun r => (Z r).take (L r)).getD i [] = (Z i).take (L i) := by simp [hi']
      rw [e]
      have el : ((Z i).take (L i)).length = L i := by simp; omega
      rw [el]
      cases hA : A i with
      | none => have := x5 hA; omega
      | some a9 =>
        have hmem : intRow .i64 (A i) (L i) (Z i) ∈ (List.range len).map fun r => intRow (H := H) .i64 (A r) (L r) (Z r) := List.mem_map.2 ⟨i, List.mem_range.2 hi', rfl⟩
        have h2 := hw (C i * 8) (by
          simp only [DataW.weights, ht, List.mem_cons, List.mem_append]
          refine .inr (.inl (weights_all hmem _ ?_))
          rw [hA]
          simp only [intRow, DataW.weights, he, bq, List.mem_cons]
          refine .inl ?_
          simp only [lits, List.length_map, List.length_take, List.length_drop]
          omega)
        have h3 := reachBytes_lt
        omega
end
end Go.Proofs.YtanjcbnkkhbkkaaDoor.Qd
