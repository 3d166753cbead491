/- Texts of one claim, one behind the other: QnAl, QuantBackK, QnCo. -/
import Derived.Test.YtanjcbnkkhbkkaaDoorMrg3
import Derived.Test.YtanjcbnkkhbkkaaDoorEvLaid
import Derived.Test.YtanjcbnkkhbkkaaDoorEvLaw
import Derived.Test.YtanjcbnkkhbkkaaDoorMrg4
set_option linter.unusedVariables false
/- The chapter's first example of quant holds, wherever it is called. -/
namespace Go.Proofs.YtanjcbnkkhbkkaaDoor.Qn
open Go Go.Ev Go.RowKit
/-- Power's table, as a row lists it. -/
def X0 : List (Nat × List RV) := [(0, [.int .i64 1073741824, .int .i64 1276901417, .int .i64 1518500250, .int .i64 1805811301])]
noncomputable def H0 : Tr AObj := match heapG 1 X0 with | some h => h | none => .nil
theorem h0_is : heapG 1 X0 = some H0 := by kernel_rfl
theorem lives : (callR ((((((E.up 40).up 40).up 40).up 40).up 40).up 40) 40 H0 1 36 []).map (fun x => match x.1 with | .bool true => true | _ => false) = some true := by kernel_rfl
/-- A world that holds the table. -/
def Tb (w : World) : Prop := AllP (CellsAre w) X0
theorem alive36 (w : World) (h : Tb w) : Calls Tryd.prog 36 #[] w fun e w' => e = .returned (.bool true) ∧ Below w.heap.size w w' := by
  obtain ⟨v, h', nx', h1, h2⟩ := ran lives
  subst h2
  exact callG rfl h0_is h1 w h rfl (fun _ => rfl)
theorem Tb.below {w w' : World} (h : Tb w) (hb : Below w.heap.size w w') : Tb w' := by
  obtain ⟨⟨c, t, fz, h1, h2⟩, _⟩ := h
  exact ⟨⟨c, t, fz, (hb.block _ (Array.getElem?_eq_some_iff.1 h1).1).trans h1, h2⟩, trivial⟩
end Go.Proofs.YtanjcbnkkhbkkaaDoor.Qn

/- What stays, whatever is called. -/
namespace Go.Proofs.YtanjcbnkkhbkkaaDoor.Qn
open Go Go.Ev Go.ChangeShapes Go.WideShapes Go.ChangeAt Go.RowKit Go.Proofs.YtanjcbnkkhbkkaaDoor.If Go.Proofs.YtanjcbnkkhbkkaaDoor.Bd Go.Proofs.YtanjcbnkkhbkkaaDoor.Qn

theorem row_on {w w' : World} {g n : Nat} {t : TypeId} {f : Nat → Value} (h : w.rowIs g t n f) (b : Below w.heap.size w w') : w'.rowIs g t n f := h.of_block (b.block g h.lt)
/-- What stays, whatever is called. -/
structure K (w : World) (ga : Option Addr) (gz : List Int) (O P A : Option Addr) (B S : List (List Int)) (lz : List Int) (s h m : Int) (gc : Nat) (W : World) : Prop where
  q : Fx.Qs W
  i : Inp W ga gz O P B S
  l : RdA W A lz
  b : Below w.heap.size w W
  y : W.cell? ⟨w.heap.size, 0, none⟩ = some (.int .u8 s) ∧ W.cell? ⟨w.heap.size, 1, none⟩ = some (.int .u8 h) ∧ W.cell? ⟨w.heap.size, 2, none⟩ = some (.int .i64 m) ∧ W.cell? ⟨w.heap.size, 3, none⟩ = some (.slice ga gz.length gc)
  z : w.heap.size < W.heap.size
theorem K.on {w : World} {ga : Option Addr} {gz : List Int} {O P A : Option Addr} {B S : List (List Int)} {lz : List Int} {s h m : Int} {gc : Nat} {W W' : World} (k : K w ga gz O P A B S lz s h m gc W) (b : Below W.heap.size W W') : K w ga gz O P A B S lz s h m gc W' :=
  ⟨k.q.below b, k.i.below b, k.l.below b, belowT k.b b, ⟨(b.cell (p := ⟨w.heap.size, 0, none⟩) k.z).trans k.y.1, (b.cell (p := ⟨w.heap.size, 1, none⟩) k.z).trans k.y.2.1, (b.cell (p := ⟨w.heap.size, 2, none⟩) k.z).trans k.y.2.2.1, (b.cell (p := ⟨w.heap.size, 3, none⟩) k.z).trans k.y.2.2.2⟩, Nat.lt_of_lt_of_le k.z b.size⟩

end Go.Proofs.YtanjcbnkkhbkkaaDoor.Qn

/- Greater steps: the numbers; and lists of lists that a call builds. -/
namespace Go.Proofs.YtanjcbnkkhbkkaaDoor.Qn
open Go Go.RowKit Go.Proofs.YtanjcbnkkhbkkaaDoor.If Go.Proofs.YtanjcbnkkhbkkaaDoor.Bd Go.Proofs.YtanjcbnkkhbkkaaDoor.Fx

theorem ln_steps {q s : Int} (hs : 0 ≤ s) (h0 : 0 ≤ q) (hq : q ≤ 8191) : ∀ d : Nat, s + d ≤ 255 → ln q s ≤ ln q (s + d)
  | 0, _ => by simp
  | d + 1, h => by
    have a := ln_steps hs h0 hq d (by omega)
    have b := ln_step (q := q) (s := s + d) (by omega) (by omega) h0 hq
    rw [show s + ((d + 1 : Nat) : Int) = s + d + 1 by omega]
    omega
theorem ln_le {q s t : Int} (hs : 0 ≤ s) (hst : s ≤ t) (ht : t ≤ 255) (h0 : 0 ≤ q) (hq : q ≤ 8191) : ln q s ≤ ln q t := by
  obtain ⟨d, rfl⟩ : ∃ d : Nat, t = s + d := ⟨(t - s).toNat, by omega⟩
  exact ln_steps hs h0 hq d (by omega)
theorem near_le {x s t a b : Int} (hs : 0 ≤ s) (hst : s ≤ t) (ht : t ≤ 255) (ha : Near x s a) (hb : Near x t b) : b ≤ a := by
  obtain ⟨a0, a1, a2, a3⟩ := ha
  obtain ⟨b0, b1, b2, b3⟩ := hb
  refine Classical.byContradiction fun hn => ?_
  have c1 := ln_le (q := b) hs hst ht (by omega) b1
  have c2 := ln_le (q := b - 1) hs hst ht (by omega) (by omega)
  have c3 := ln_mono (p := a) (q := b - 1) hs a0 (by omega)
  have c4 := ln_mono (p := a + 1) (q := b) hs (by omega) (by omega)
  omega
theorem nq_bd (x s : Int) : 0 ≤ nq x s ∧ nq x s ≤ 8191 := ⟨(nq_is x s).1, (nq_is x s).2.1⟩
theorem st_smaller {c : Prop} {x T T' : Int} (ht : c → 0 ≤ T ∧ T ≤ T' ∧ T' ≤ 255) (x0 : -268435455 ≤ x) (x1 : x ≤ 268435455) : ¬ far (st c FQ x T) 0 < far (st c FQ x T') 0 := by
  by_cases h : c
  · obtain ⟨t0, t1, t2⟩ := ht h
    by_cases hx : x = 0
    · subst hx; rw [st_zero, st_zero]; omega
    · rw [st_fq h t0 (by omega) x0 x1 hx, st_fq h (by omega) t2 x0 x1 hx]
      unfold NQ far
      by_cases hn : x < 0
      · rw [if_pos hn, if_pos hn]
        have := near_le t0 t1 t2 (nq_is (-x) T) (nq_is (-x) T')
        have := nq_bd (-x) T; have := nq_bd (-x) T'
        split <;> split <;> omega
      · rw [if_neg hn, if_neg hn]
        have := near_le t0 t1 t2 (nq_is x T) (nq_is x T')
        have := nq_bd x T; have := nq_bd x T'
        split <;> split <;> omega
  · rw [st_not h, st_not h]; omega
theorem st_greater {c : Prop} {q T T' : Int} (ht : c → 0 ≤ T ∧ T ≤ T' ∧ T' ≤ 255) (q0 : -8191 ≤ q) (q1 : q ≤ 8191) : ¬ far (st c FL q T') 0 < far (st c FL q T) 0 := by
  by_cases h : c
  · obtain ⟨t0, t1, t2⟩ := ht h
    rw [st_fl h t0 (by omega) q0 q1, st_fl h (by omega) t2 q0 q1]
    unfold Fx.LN far
    by_cases hn : q < 0
    · rw [if_pos hn, if_pos hn]
      have := ln_le (q := -q) t0 t1 t2 (by omega) (by omega)
      have := (ln_bd (q := -q) t0 (by omega)).1
      split <;> split <;> omega
    · rw [if_neg hn, if_neg hn]
      have := ln_le (q := q) t0 t1 t2 (by omega) q1
      have := (ln_bd (q := q) t0 (by omega)).1
      split <;> split <;> omega
  · rw [st_not h, st_not h]; omega
theorem st_turned {c : Prop} {x T : Int} (ht : c → 0 ≤ T ∧ T ≤ 255) (x0 : -268435455 ≤ x) (x1 : x ≤ 268435455) : st c FQ (-x) T = -st c FQ x T := by
  by_cases h : c
  · obtain ⟨t0, t1⟩ := ht h
    by_cases hx : x = 0
    · subst hx; rw [show -(0 : Int) = 0 by omega, st_zero]; omega
    · rw [st_fq h t0 t1 x0 x1 hx, st_fq h t0 t1 (by omega) (by omega) (by omega)]
      unfold NQ
      by_cases hn : x < 0
      · rw [if_pos hn, if_neg (by omega)]; omega
      · rw [if_neg hn, if_pos (by omega), Int.neg_neg]
  · rw [st_not h, st_not h]; omega

/-- A greater step. -/
def gst (more V : Int) : Int := if 255 < V then V else min (IntKind.i64.wrap (V + more)) 255
theorem gst_in {more V : Int} (m0 : 0 ≤ more) (m1 : more ≤ 255) (v0 : 0 ≤ V) (v1 : V ≤ 255) : 0 ≤ V ∧ V ≤ gst more V ∧ gst more V ≤ 255 := by
  unfold gst
  rw [if_neg (by omega), i64_in (by omega) (by omega)]
  omega
def gsl (more : Int) (z : List Int) : List Int := z.map (gst more)
def gsr (more : Int) (S : List (List Int)) : List (List Int) := S.map (gsl more)
theorem gsr_len (more : Int) (S : List (List Int)) : (gsr more S).length = S.length := by simp [gsr]
theorem gsr_row (more : Int) (S : List (List Int)) {i : Nat} (h : i < S.length) : (gsr more S).getD i [] = gsl more (S.getD i []) := by simp [gsr, h]
theorem gsl_len (more : Int) (z : List Int) : (gsl more z).length = z.length := by simp [gsl]
theorem gsl_get (more : Int) (z : List Int) {j : Nat} (h : j < z.length) : (gsl more z).getD j 0 = gst more (z.getD j 0) := by simp [gsl, h]
theorem gsl_take (more : Int) (z : List Int) {j : Nat} (h : j < z.length) : gsl more (z.take (j + 1)) = gsl more (z.take j) ++ [gst more (z.getD j 0)] := by
  unfold gsl
  rw [List.take_succ_eq_append_getElem h, List.map_append]
  simp [h]

/-! ### Lists that a call builds -/
/-- A list in a list of lists. -/
def RowV (w : World) (v : Value) (zs : List Int) : Prop := (zs = [] ∧ v = .slice none 0 0) ∨ ∃ g c cur, v = .slice (some ⟨g, 0, none⟩) zs.length c ∧ w.heap[g]? = some (Obj.cells cur 3 (0, 0)) ∧ ∀ j, j < zs.length → cur[j]? = some (.int .i64 (zs.getD j 0))
theorem RowV.of_heap {w w' : World} {v : Value} {zs : List Int} (h : RowV w v zs) (hk : ∀ (g : Nat) (cur : Array Value), w.heap[g]? = some (Obj.cells cur 3 (0, 0)) → w'.heap[g]? = some (Obj.cells cur 3 (0, 0))) : RowV w' v zs := by
  rcases h with h | ⟨g, c, cur, e, hh, hc⟩
  · exact .inl h
  · exact .inr ⟨g, c, cur, e, hk g cur hh, hc⟩
theorem RowV.of_own {base : Nat} {w : World} {v : Value} {zs : List Int} (h : w.ownsRow base 3 1 v zs.length (zs.map (Value.int .i64))) : RowV w v zs := by
  obtain ⟨hx, ⟨rfl, hn⟩ | ⟨g, cap, cur, rfl, hg, hh, hc, hm, hs, ht⟩⟩ := h
  · exact .inl ⟨List.eq_nil_of_length_eq_zero hn, rfl⟩
  · refine .inr ⟨g, cap, cur, rfl, hh, fun j hj => ?_⟩
    have e : (cur.toList.take (zs.length * 1))[j]? = (zs.map (Value.int .i64))[j]? := by rw [ht]
    rw [List.getElem?_take_of_lt (by omega)] at e
    simpa [hj] using e
theorem RowV.rd {w : World} {v : Value} {zs : List Int} (h : RowV w v zs) : ∃ a c, v = .slice a zs.length c ∧ RdA w a zs := by
  rcases h with ⟨rfl, rfl⟩ | ⟨g, c, cur, rfl, hh, hc⟩
  · exact ⟨none, 0, rfl, fun i hi => by simp at hi⟩
  · refine ⟨_, c, rfl, fun i hi => ⟨g, 0, rfl, (Array.getElem?_eq_some_iff.1 hh).1, ?_⟩⟩
    simp [World.cell?, hh, hc i hi]
/-- A list of lists, as it grows. -/
def Gr (base : Nat) (w : World) (v : Value) (rows : List (List Int)) : Prop := ∃ vals : List Value, w.ownsRow base 39 1 v rows.length vals ∧ ∀ i, i < rows.length → ∃ u, vals[i]? = some u ∧ RowV w u (rows.getD i [])
theorem Gr.nil (base : Nat) (w : World) : Gr base w (.slice none 0 0) [] := ⟨[], World.ownsRow_nil w base 39 1, fun i hi => by simp at hi⟩
theorem Gr.below {base : Nat} {w w' : World} {v : Value} {rows : List (List Int)} (h : Gr base w v rows) (hb : Below w.heap.size w w') : Gr base w' v rows := by
  obtain ⟨vals, ho, hr⟩ := h
  refine ⟨vals, ?_, fun i hi => by
    obtain ⟨u, e, hu⟩ := hr i hi
    exact ⟨u, e, hu.of_heap fun g cur hg => (hb.block g (Array.getElem?_eq_some_iff.1 hg).1).trans hg⟩⟩
  obtain ⟨hx, ⟨rfl, hn⟩ | ⟨g, cap, cur, rfl, hg, hh, r⟩⟩ := ho
  · exact ⟨hx, .inl ⟨rfl, hn⟩⟩
  · exact ⟨hx, .inr ⟨g, cap, cur, rfl, hg, (hb.block g (Array.getElem?_eq_some_iff.1 hh).1).trans hh, r⟩⟩
/-- One list more. -/
theorem Gr.push {base : Nat} {w w' : World} {v v' u : Value} {rows : List (List Int)} {zs : List Int} {vals : List Value} (ho : w.ownsRow base 39 1 v rows.length vals) (hr : ∀ i, i < rows.length → ∃ u, vals[i]? = some u ∧ RowV w u (rows.getD i [])) (hu : RowV w u zs)
    (ho' : w'.ownsRow base 39 1 v' (rows.length + 1) (vals ++ [u])) (hg : w.grownBy w' v.ownBlock) : Gr base w' v' (rows ++ [zs]) := by
  have hlen : vals.length = rows.length := by have := ho.1; omega
  have hk : ∀ (g : Nat) (cur : Array Value), w.heap[g]? = some (Obj.cells cur 3 (0, 0)) → w'.heap[g]? = some (Obj.cells cur 3 (0, 0)) := fun g cur hh => by
    refine (hg.block g (Array.getElem?_eq_some_iff.1 hh).1 fun e => ?_).trans hh
    obtain ⟨hx, ⟨rfl, hn⟩ | ⟨g', cap, cur', rfl, _, hh', _⟩⟩ := ho
    · cases e
    · simp only [Value.ownBlock, Option.some.injEq] at e
      subst e
      rw [hh] at hh'
      cases hh'
  refine ⟨vals ++ [u], by rw [List.length_append]; exact ho', fun i hi => ?_⟩
  rw [List.length_append] at hi
  by_cases h : i < rows.length
  · obtain ⟨u', e, hu'⟩ := hr i h
    refine ⟨u', by rw [List.getElem?_append_left (by omega)]; exact e, ?_⟩
    rw [show (rows ++ [zs]).getD i [] = rows.getD i [] by simp [List.getElem?_append_left h]]
    exact hu'.of_heap hk
  · have e : i = rows.length := by simp at hi; omega
    subst e
    refine ⟨u, by rw [← hlen]; simp, ?_⟩
    rw [show (rows ++ [zs]).getD rows.length [] = zs by simp]
    exact hu.of_heap hk
theorem Gr.rd {base : Nat} {w : World} {v : Value} {rows : List (List Int)} (h : Gr base w v rows) : ∃ a c, v = .slice a rows.length c ∧ RdR w a rows := by
  obtain ⟨vals, ho, hr⟩ := h
  have hcells := @World.ownsRow.cells _ _ _ _ _ _ _ ho
  have hlt := ho.lt
  obtain ⟨hx, ⟨rfl, hn⟩ | ⟨g, cap, cur, rfl, _, hh, _⟩⟩ := ho
  · have : rows = [] := List.eq_nil_of_length_eq_zero hn
    subst this
    exact ⟨none, 0, rfl, fun i hi => by simp at hi⟩
  · refine ⟨_, cap, rfl, fun i hi => ?_⟩
    obtain ⟨u, e, hu⟩ := hr i hi
    obtain ⟨a, c, rfl, rd⟩ := hu.rd
    have q := hcells rfl i _ e
    rw [Addr.add_lit] at q
    exact ⟨g, 0, a, c, rfl, (hlt g rfl).2, q, rd⟩
end Go.Proofs.YtanjcbnkkhbkkaaDoor.Qn
