/- Books, as the program makes them. -/
import Derived.Test.YteklahfgplbmcaaDoorMrg2
import Derived.WalkKit
import Derived.Below
import Derived.RegionTactic
import Derived.Deep.QuietTactic
import Derived.BigQuiet
import Derived.ChangeAlike
import Derived.Deep.OwnRows
import Derived.Deep.Cut
import Derived.Deep.CutRange
import Derived.Deep.RegionHeld3
import Derived.Laws.Rows
import Derived.Laws.Tables
import Derived.Laws.ResultCell
import Derived.Deep.WholeRow
import Derived.ProofKit
import Derived.OpenShut
import Derived.Laws.EntriesVeiled
import Derived.Lib.Hide
namespace Go.Proofs.YteklahfgplbmcaaDoor.Bk
open Go Go.ChangeShapes Go.WideShapes Go.ChangeAt Go.RowKit Go.Proofs.YteklahfgplbmcaaDoor.Bi Go.Proofs.YteklahfgplbmcaaDoor.Cr

/-- The table of shapes. -/
def Sh (w : World) : Prop := 0 < w.heap.size ∧ ∀ k, k < 12 → w.cell? ⟨0, k * 4, none⟩ = some (.int .i64 (dm (k + 1))) ∧ w.cell? ⟨0, k * 4 + 1, none⟩ = some (.int .i64 (lw (k + 1))) ∧ w.cell? ⟨0, k * 4 + 2, none⟩ = some (.int .i64 (hg (k + 1))) ∧ w.cell? ⟨0, k * 4 + 3, none⟩ = some (.int .i64 (pl (k + 1)))
theorem Sh.below {w w' : World} (h : Sh w) (hb : Below w.heap.size w w') : Sh w' :=
  ⟨Nat.lt_of_lt_of_le h.1 hb.size, fun k hk => ⟨(hb.cell (p := ⟨0, _, none⟩) h.1).trans (h.2 k hk).1, (hb.cell (p := ⟨0, _, none⟩) h.1).trans (h.2 k hk).2.1, (hb.cell (p := ⟨0, _, none⟩) h.1).trans (h.2 k hk).2.2.1, (hb.cell (p := ⟨0, _, none⟩) h.1).trans (h.2 k hk).2.2.2⟩⟩
def ordI (id j : Nat) : Int := (((ord id).getD j 0 : Nat) : Int)
def rkI (id j : Nat) : Int := ((rk id j : Nat) : Int)
def IsBook (base : Nat) (w : World) (id : Nat) (v : Value) : Prop := ∃ E R, v = .agg #[.int .i64 id, .int .i64 (pl id), .slice (some ⟨E, 0, none⟩) (Nn id) (Nn id), .slice (some ⟨R, 0, none⟩) (Nn id) (Nn id)] ∧ base ≤ E ∧ base ≤ R ∧ w.rowIs E 3 (Nn id) (fun j => .int .i64 (ordI id j)) ∧ w.rowIs R 3 (Nn id) (fun j => .int .i64 (rkI id j))
theorem IsBook.below {base : Nat} {w w' : World} {id : Nat} {v : Value} (h : IsBook base w id v) (hb : Below w.heap.size w w') : IsBook base w' id v := by
  obtain ⟨E, R, e, h1, h2, h3, h4⟩ := h
  exact ⟨E, R, e, h1, h2, h3.of_block (hb.block _ h3.lt), h4.of_block (hb.block _ h4.lt)⟩
theorem results_ct_row {P : Program} {fn : Func} {p u : Tmp} {ty : TypeId} (h : fn.results = #[.cell p ty, .tmp u]) (tmps : Array Value) (w : World) (g : Nat) (t : TypeId) (cs : Array Value) (fr : Nat × Nat) (d : TypeDesc)
    (hp : tmps.getD p undef = .pointer (some ⟨g, 0, none⟩)) (hg : w.heap[g]? = some (.cells cs t fr))
    (hu : P.underlying ty = some d) (hd : (match d with | .struct _ | .array _ _ => true | _ => false) = true) (hi : (P.info? ty).map (·.size) = some cs.size) :
    (results fn tmps).run P w = .ok (.tuple #[.agg cs, tmps.getD u undef]) w := by
  rw [results_cell_tmp h, hp]
  have h1 : (asAddr (.pointer (some ⟨g, 0, none⟩))).run P w = .ok ⟨g, 0, none⟩ w := rfl
  rw [h1]
  simp only [Result.andThen_ok, run_loadVar_row w g t ty cs fr d hg hu hd hi]
theorem size24 : (Tryd.prog.info? 24).map (·.size) = some 4 := by kernel_rfl
theorem get_bad (I : Int) (w : World) (h : I < 1 ∨ 12 < I) :
    Calls Tryd.prog 15 #[.int .i64 I] w fun e w' => e = .returned (.tuple #[.agg #[.int .i64 0, .int .i64 0, .slice none 0 0, .slice none 0 0], .int .i64 2]) ∧ Below w.heap.size w w' := by
  have HB := Lib.hid ((Below.refl w.heap.size w).alloc (Nat.le_refl _) (.cells #[.int .i64 0, .int .i64 0, .slice none 0 0, .slice none 0 0] 24))
  by_cases h1 : I < 1
  · clear h
    go_enter Tryd.func15, Tryd.ntmps15
    go_wp2
    refine bodyPost_ret (results_ct_row rfl _ _ w.heap.size 24 #[.int .i64 0, .int .i64 0, .slice none 0 0, .slice none 0 0] _ _ rfl (heap_alloc_last w _) Tryd.underlying24 rfl size24) rfl ?_
    exact ⟨rfl, HB.out⟩
  · have h2 : 12 < I := by omega
    clear h
    go_enter Tryd.func15, Tryd.ntmps15
    go_wp2
    refine bodyPost_ret (results_ct_row rfl _ _ w.heap.size 24 #[.int .i64 0, .int .i64 0, .slice none 0 0, .slice none 0 0] _ _ rfl (heap_alloc_last w _) Tryd.underlying24 rfl size24) rfl ?_
    exact ⟨rfl, HB.out⟩
theorem info3 : (Tryd.prog.info? 3).map (fun i => (i.zero, i.size, i.bytes)) = some (some (.int .i64 0), 1, 8) := by kernel_rfl
def zb : Array Value := #[.int .i64 0, .int .i64 0, .slice none 0 0, .slice none 0 0]
/-- The state of Get: the answer's cells, the shape's, the weights'. -/
structure G1 (w0 : World) (id C S W : Nat) (w : World) : Prop where
  c : w.heap[C]? = some (.cells zb 24)
  s : Bx4 w S (dm id) (lw id) (hg id) (pl id)
  wt : w.rowIs W 84 289 (fun j => .int .u8 (wf (bs id) (lw id) (Nn id) (dm id) 1 j))
  bl : Below w0.heap.size w0 w
  o1 : w0.heap.size ≤ C
  o2 : C < S
  o3 : S < W
theorem G1.below {w0 : World} {id C S W : Nat} {w w' : World} (g : G1 w0 id C S W w) (hb : Below w.heap.size w w') : G1 w0 id C S W w' :=
  ⟨(hb.block _ (Array.getElem?_eq_some_iff.1 g.c).1).trans g.c, g.s.below hb, g.wt.of_block (hb.block _ g.wt.lt), g.bl.trans (hb.mono g.bl.size), g.o1, g.o2, g.o3⟩
theorem g1_new {w w1 : World} {id : Nat} {c : Array Value} (h1 : 1 ≤ id) (h2 : id ≤ 12) (hw : IsWt (bs id) (dm id) (bs id ^ dm id) (lw id) c)
    (hb : Below ((w.alloc (.cells #[.int .i64 0, .int .i64 0, .slice none 0 0, .slice none 0 0] 24)).alloc (.cells #[.int .i64 (dm id), .int .i64 (lw id), .int .i64 (hg id), .int .i64 (pl id)] 82)).heap.size
      ((w.alloc (.cells #[.int .i64 0, .int .i64 0, .slice none 0 0, .slice none 0 0] 24)).alloc (.cells #[.int .i64 (dm id), .int .i64 (lw id), .int .i64 (hg id), .int .i64 (pl id)] 82)) w1) :
    G1 w id w.heap.size (w.heap.size + 1) w1.heap.size ((w1.alloc (.cells (Array.replicate 289 (.int .u8 0)) 84)).setRow w1.heap.size c) := by
  rw [World.setRow_alloc_new]
  have e1 : (w.alloc (.cells #[.int .i64 0, .int .i64 0, .slice none 0 0, .slice none 0 0] 24)).heap.size = w.heap.size + 1 := by simp
  have x1 := bx4_new (w.alloc (.cells #[.int .i64 0, .int .i64 0, .slice none 0 0, .slice none 0 0] 24)) (dm id) (lw id) (hg id) (pl id)
  rw [e1] at x1
  have b1 := (Below.refl w.heap.size w).alloc (Nat.le_refl _) (.cells #[.int .i64 0, .int .i64 0, .slice none 0 0, .slice none 0 0] 24)
  have b2 := (Below.refl _ (w.alloc (.cells #[.int .i64 0, .int .i64 0, .slice none 0 0, .slice none 0 0] 24))).alloc (Nat.le_refl _) (.cells #[.int .i64 (dm id), .int .i64 (lw id), .int .i64 (hg id), .int .i64 (pl id)] 82)
  have b3 := (Below.refl _ w1).alloc (Nat.le_refl _) (.cells c 84)
  have hc := heap_alloc_last w (.cells #[.int .i64 0, .int .i64 0, .slice none 0 0, .slice none 0 0] 24)
  have hlt := (Array.getElem?_eq_some_iff.1 hc).1
  have hc2 := (b2.block _ hlt).trans hc
  have hlt2 := (Array.getElem?_eq_some_iff.1 hc2).1
  have hc3 := (hb.block _ hlt2).trans hc2
  have hlt3 := (Array.getElem?_eq_some_iff.1 hc3).1
  have hc4 := (b3.block _ hlt3).trans hc3
  have hN := (facts h1 h2).1
  rw [← hN] at hw
  have hsz := hb.size
  refine ⟨hc4, (x1.below hb).below b3, ⟨c, heap_alloc_last w1 _, hw.1, hw.2⟩, b1.trans ((b2.mono b1.size).trans ((hb.mono (Nat.le_trans b1.size b2.size)).trans (b3.mono (Nat.le_trans (Nat.le_trans b1.size b2.size) hb.size)))), Nat.le_refl _, Nat.lt_succ_self _, ?_⟩
  have := (x1.below hb).2.2.2.2
  omega
abbrev bkc (id E R : Nat) : Array Value := #[.int .i64 id, .int .i64 (pl id), .slice (some ⟨E, 0, none⟩) (Nn id) (Nn id), .slice (some ⟨R, 0, none⟩) (Nn id) (Nn id)]
structure G2 (w0 : World) (id C S W K E R : Nat) (fE fR : Nat → Int) (w : World) : Prop where
  g : G1 w0 id C S W w
  k : w.heap[K]? = some (.cells (bkc id E R) 24)
  e : w.rowIs E 3 (Nn id) (fun j => .int .i64 (fE j))
  r : w.rowIs R 3 (Nn id) (fun j => .int .i64 (fR j))
  n1 : W < E
  n2 : W < R
  n3 : W < K
  n4 : E ≠ R
  n5 : E ≠ K
  n6 : R ≠ K
theorem G2.below {w0 : World} {id C S W K E R : Nat} {fE fR : Nat → Int} {w w' : World} (g : G2 w0 id C S W K E R fE fR w) (hb : Below w.heap.size w w') : G2 w0 id C S W K E R fE fR w' :=
  ⟨g.g.below hb, (hb.block _ (Array.getElem?_eq_some_iff.1 g.k).1).trans g.k, g.e.of_block (hb.block _ g.e.lt), g.r.of_block (hb.block _ g.r.lt), g.n1, g.n2, g.n3, g.n4, g.n5, g.n6⟩
theorem al (w : World) (o : Obj) : Below w.heap.size w (w.alloc o) := (Below.refl _ w).alloc (Nat.le_refl _) o
theorem Bx4.al {w : World} {B : Nat} {d l h p : Int} {o : Obj} (x : Bx4 w B d l h p) : Bx4 (w.alloc o) B d l h p := x.below ((Below.refl _ w).alloc (Nat.le_refl _) o)
structure Bel (w w' : World) : Prop where
  b : Below w.heap.size w w'
theorem Bx4.bel {w w' : World} {B : Nat} {d l h p : Int} (x : Bx4 w B d l h p) (hb : Bel w w') : Bx4 w' B d l h p := x.below hb.b
theorem Bx4.set4 {w : World} {B K : Nat} {d l h p : Int} {a b c e : Value} (x : Bx4 w B d l h p) (hk : K ≠ B) : Bx4 ((((w.setCell ⟨K, 0, none⟩ a).setCell ⟨K, 1, none⟩ b).setCell ⟨K, 2, none⟩ c).setCell ⟨K, 3, none⟩ e) B d l h p :=
  (((x.set hk a).set hk b).set hk c).set hk e
def KZ (w : World) (K : Nat) : Prop := w.cell? ⟨K, 0, none⟩ = some (.int .i64 0) ∧ w.cell? ⟨K, 1, none⟩ = some (.int .i64 0) ∧ w.cell? ⟨K, 2, none⟩ = some (.slice none 0 0) ∧ w.cell? ⟨K, 3, none⟩ = some (.slice none 0 0) ∧
  w.frozen? ⟨K, 0, none⟩ = false ∧ w.frozen? ⟨K, 1, none⟩ = false ∧ w.frozen? ⟨K, 2, none⟩ = false ∧ w.frozen? ⟨K, 3, none⟩ = false ∧ K < w.heap.size
theorem kz_row {w : World} {K : Nat} (r : w.rowIs K 24 4 (fun i => zb.getD i undef)) : KZ w K :=
  ⟨r.cell (i := 0) (by omega), r.cell (i := 1) (by omega), r.cell (i := 2) (by omega), r.cell (i := 3) (by omega), r.frozen 0, r.frozen 1, r.frozen 2, r.frozen 3, r.lt⟩
theorem kz_new (w : World) : (w.alloc (.cells #[.int .i64 0, .int .i64 0, .slice none 0 0, .slice none 0 0] 24)).rowIs w.heap.size 24 4 (fun i => zb.getD i undef) :=
  World.rowIs_alloc w zb 24 (fun i => zb.getD i undef) (fun i hi => by
    have h4 : i < 4 := hi
    have : i = 0 ∨ i = 1 ∨ i = 2 ∨ i = 3 := by omega
    rcases this with rfl | rfl | rfl | rfl <;> rfl)
theorem rb {w w' : World} {K : Nat} (r : w.rowIs K 24 4 (fun i => zb.getD i undef)) (hb : Below w.heap.size w w') : w'.rowIs K 24 4 (fun i => zb.getD i undef) := r.of_block (hb.block _ r.lt)
theorem rbb {w w' : World} {K : Nat} (r : w.rowIs K 24 4 (fun i => zb.getD i undef)) (hb : Bel w w') : w'.rowIs K 24 4 (fun i => zb.getD i undef) := rb r hb.b
theorem rba {w : World} {K : Nat} {o : Obj} (r : w.rowIs K 24 4 (fun i => zb.getD i undef)) : (w.alloc o).rowIs K 24 4 (fun i => zb.getD i undef) := rb r (al w o)
theorem kz_new1 (w : World) (o : Obj) : ((w.alloc o).alloc (.cells #[.int .i64 0, .int .i64 0, .slice none 0 0, .slice none 0 0] 24)).rowIs (w.heap.size + 1) 24 4 (fun i => zb.getD i undef) := by
  have := kz_new (w.alloc o)
  rwa [World.size_alloc] at this
theorem G1.set {w0 : World} {id C S W K i : Nat} {w : World} {v : Value} (g : G1 w0 id C S W w) (hk : W < K) : G1 w0 id C S W (w.setCell ⟨K, i, none⟩ v) := by
  have h1 := g.o1
  have h2 := g.o2
  have h3 := g.o3
  exact ⟨(heap_oth _ (by omega)).trans g.c, g.s.set (by omega) v, g.wt.of_block (heap_oth _ (by omega)), g.bl.setCell (p := ⟨K, i, none⟩) (by show _ ≤ K; omega) _, g.o1, g.o2, g.o3⟩
theorem G2.setE {w0 : World} {id C S W K E R i : Nat} {fE fR fE' : Nat → Int} {v : Int} {w : World} (g : G2 w0 id C S W K E R fE fR w) (h : ∀ j, j < Nn id → (if j = i then v else fE j) = fE' j) : G2 w0 id C S W K E R fE' fR (w.setCell ⟨E, i, none⟩ (.int .i64 v)) :=
  ⟨g.g.set g.n1, (heap_oth _ g.n5).trans g.k, (g.e.set i (.int .i64 v)).congr (fun j hj => by rw [← h j hj]; split <;> rfl), g.r.of_block (heap_oth _ g.n4), g.n1, g.n2, g.n3, g.n4, g.n5, g.n6⟩
theorem G2.setR {w0 : World} {id C S W K E R i : Nat} {fE fR fR' : Nat → Int} {v : Int} {w : World} (g : G2 w0 id C S W K E R fE fR w) (h : ∀ j, j < Nn id → (if j = i then v else fR j) = fR' j) : G2 w0 id C S W K E R fE fR' (w.setCell ⟨R, i, none⟩ (.int .i64 v)) :=
  ⟨g.g.set g.n2, (heap_oth _ g.n6).trans g.k, g.e.of_block (heap_oth _ (Ne.symm g.n4)), (g.r.set i (.int .i64 v)).congr (fun j hj => by rw [← h j hj]; split <;> rfl), g.n1, g.n2, g.n3, g.n4, g.n5, g.n6⟩
theorem G2.grown {w0 : World} {id C S W K E R : Nat} {fE fR fE' : Nat → Int} {w w' : World} (g : G2 w0 id C S W K E R fE fR w) (h : w.grownBy w' (some E)) (e' : w'.rowIs E 3 (Nn id) (fun j => .int .i64 (fE' j))) : G2 w0 id C S W K E R fE' fR w' := by
  have h1 := g.g.o1
  have h2 := g.g.o2
  have h3 := g.g.o3
  have h4 := g.n1
  have hb : ∀ k, k < w.heap.size → k ≠ E → w'.heap[k]? = w.heap[k]? := fun k hk hne => h.block k hk (fun e => hne (Option.some.inj e))
  have hx : Bx4 w' S (dm id) (lw id) (hg id) (pl id) := by
    obtain ⟨a, b, c, d, e⟩ := g.g.s
    have hS := hb S e (by omega)
    exact ⟨(World.cell?_of_block hS).trans a, (World.cell?_of_block hS).trans b, (World.cell?_of_block hS).trans c, (World.cell?_of_block hS).trans d, Nat.lt_of_lt_of_le e h.size⟩
  refine ⟨⟨(hb C (Array.getElem?_eq_some_iff.1 g.g.c).1 (by omega)).trans g.g.c, hx, g.g.wt.of_block (hb W g.g.wt.lt (by omega)), g.g.bl.grown h g.g.bl.size (fun k hk => by have := Option.some.inj hk; omega), h1, h2, h3⟩, (hb K (Array.getElem?_eq_some_iff.1 g.k).1 (Ne.symm g.n5)).trans g.k, e', g.r.of_block (hb R g.r.lt (Ne.symm g.n4)), g.n1, g.n2, g.n3, g.n4, g.n5, g.n6⟩
theorem cell_row {w : World} {K t i : Nat} {cs : Array Value} {v : Value} (h : w.heap[K]? = some (.cells cs t)) (hi : cs[i]? = some v) : w.cell? ⟨K, i, none⟩ = some v := by
  rw [cell_of_row w K i cs t (0, 0) h]; exact hi
theorem one_bk (id E R : Nat) : (bkc id E R).all (·.oneCell') = true := by
  rw [Array.all_eq_true_iff_forall_mem]
  intro v hv
  have h : v ∈ [Value.int .i64 id, .int .i64 (pl id), .slice (some ⟨E, 0, none⟩) (Nn id) (Nn id), .slice (some ⟨R, 0, none⟩) (Nn id) (Nn id)] := by
    have := Array.mem_toList_iff.2 hv
    exact this
  simp at h
  rcases h with rfl | rfl | rfl | rfl <;> rfl
theorem wf_wt {id j : Nat} (hj : j < Nn id) : wf (bs id) (lw id) (Nn id) (dm id) 1 j = (wt id j : Nat) := by
  unfold wf wt; rw [if_pos hj, Nat.div_one]
theorem wf_bd {id : Nat} (h : 1 ≤ id ∧ id ≤ 12) (j : Nat) : 0 ≤ wf (bs id) (lw id) (Nn id) (dm id) 1 j ∧ wf (bs id) (lw id) (Nn id) (dm id) 1 j ≤ 255 := by
  by_cases hj : j < Nn id
  · rw [wf_wt hj]; have := wt_lt h.1 h.2 j; omega
  · unfold wf; rw [if_neg hj]; omega
theorem sz_drew (w : World) : w.drew.heap.size = w.heap.size := rfl
theorem k_last {X : World} {c : Array Value} : (X.alloc (.cells c 24)).heap[X.heap.size]? = some (.cells c 24) := heap_alloc_last X _
theorem k_last1 {X : World} {o : Obj} {c : Array Value} : ((X.alloc o).alloc (.cells c 24)).heap[X.heap.size + 1]? = some (.cells c 24) := by
  have := heap_alloc_last (X.alloc o) (.cells c 24)
  rwa [World.size_alloc] at this
theorem k_last2 {X : World} {o o' : Obj} {c : Array Value} : (((X.alloc o).alloc o').alloc (.cells c 24)).heap[X.heap.size + 1 + 1]? = some (.cells c 24) := by
  have := heap_alloc_last ((X.alloc o).alloc o') (.cells c 24)
  rwa [World.size_alloc, World.size_alloc] at this
theorem k_al {X : World} {K : Nat} {o : Obj} {c : Array Value} (h : X.heap[K]? = some (.cells c 24)) : (X.alloc o).heap[K]? = some (.cells c 24) :=
  ((al X o).block _ (Array.getElem?_eq_some_iff.1 h).1).trans h
theorem k_set4 {w : World} {K : Nat} {a b c e : Value} (r : w.rowIs K 24 4 (fun i => zb.getD i undef)) : ((((w.setCell ⟨K, 0, none⟩ a).setCell ⟨K, 1, none⟩ b).setCell ⟨K, 2, none⟩ c).setCell ⟨K, 3, none⟩ e).heap[K]? = some (.cells #[a, b, c, e] 24) := by
  obtain ⟨cs, h1, h2, h3⟩ := (((r.set 0 a).set 1 b).set 2 c).set 3 e
  rw [h1]
  congr 2
  apply Array.ext_getElem?
  intro i
  by_cases hi : i < 4
  · rw [h3 i hi]
    have : i = 0 ∨ i = 1 ∨ i = 2 ∨ i = 3 := by omega
    rcases this with rfl | rfl | rfl | rfl <;> rfl
  · rw [Array.getElem?_eq_none (by omega), Array.getElem?_eq_none (by simp; omega)]
theorem r_al {X : World} {b t n : Nat} {f : Nat → Value} {o : Obj} (h : X.rowIs b t n f) : (X.alloc o).rowIs b t n f := h.of_block ((al X o).block _ h.lt)
theorem r_bel {X Y : World} {b t n : Nat} {f : Nat → Value} (h : X.rowIs b t n f) (hb : Bel X Y) : Y.rowIs b t n f := h.of_block (hb.b.block _ h.lt)
theorem r_set4 {w : World} {b t n K : Nat} {f : Nat → Value} {x y z e : Value} (h : w.rowIs b t n f) (hk : K ≠ b) : ((((w.setCell ⟨K, 0, none⟩ x).setCell ⟨K, 1, none⟩ y).setCell ⟨K, 2, none⟩ z).setCell ⟨K, 3, none⟩ e).rowIs b t n f :=
  (((h.of_block (heap_oth _ hk)).of_block (heap_oth _ hk)).of_block (heap_oth _ hk)).of_block (heap_oth _ hk)
theorem made0 {X : World} {n : Nat} : (X.alloc (.cells (madeCells #[.int .i64 0] n) 3)).rowIs X.heap.size 3 n (fun _ => .int .i64 0) := World.rowIs_made X (.int .i64 0) n 3
theorem made1 {X : World} {o : Obj} {n : Nat} : ((X.alloc o).alloc (.cells (madeCells #[.int .i64 0] n) 3)).rowIs (X.heap.size + 1) 3 n (fun _ => .int .i64 0) := by
  have := made0 (X := X.alloc o) (n := n)
  rwa [World.size_alloc] at this
theorem made2 {X : World} {o o' : Obj} {n : Nat} : (((X.alloc o).alloc o').alloc (.cells (madeCells #[.int .i64 0] n) 3)).rowIs (X.heap.size + 1 + 1) 3 n (fun _ => .int .i64 0) := by
  have := made0 (X := (X.alloc o).alloc o') (n := n)
  rwa [World.size_alloc, World.size_alloc] at this
theorem G1.al {w0 : World} {id C S W : Nat} {w : World} {o : Obj} (g : G1 w0 id C S W w) : G1 w0 id C S W (w.alloc o) := g.below ((Below.refl _ w).alloc (Nat.le_refl _) o)
theorem G1.bel {w0 : World} {id C S W : Nat} {w w' : World} (g : G1 w0 id C S W w) (hb : Bel w w') : G1 w0 id C S W w' := g.below hb.b
theorem G1.set4 {w0 : World} {id C S W K : Nat} {w : World} {x y z e : Value} (g : G1 w0 id C S W w) (hk : W < K) : G1 w0 id C S W ((((w.setCell ⟨K, 0, none⟩ x).setCell ⟨K, 1, none⟩ y).setCell ⟨K, 2, none⟩ z).setCell ⟨K, 3, none⟩ e) := by
  have h1 := g.o1
  have h2 := g.o2
  have h3 := g.o3
  have hc : K ≠ C := by omega
  refine ⟨?_, Bx4.set4 g.s (by omega), r_set4 g.wt (by omega), ?_, g.o1, g.o2, g.o3⟩
  · rw [heap_oth _ hc, heap_oth _ hc, heap_oth _ hc, heap_oth _ hc]; exact g.c
  · exact (((g.bl.setCell (p := ⟨K, 0, none⟩) (by show _ ≤ K; omega) _).setCell (p := ⟨K, 1, none⟩) (by show _ ≤ K; omega) _).setCell (p := ⟨K, 2, none⟩) (by show _ ≤ K; omega) _).setCell (p := ⟨K, 3, none⟩) (by show _ ≤ K; omega) _
theorem g2_mk {w0 : World} {id C S W K E R : Nat} {w : World} (k : w.heap[K]? = some (.cells (bkc id E R) 24)) (g : G1 w0 id C S W w) (e : w.rowIs E 3 (Nn id) (fun _ => .int .i64 0)) (r : w.rowIs R 3 (Nn id) (fun _ => .int .i64 0))
    (n : W < E ∧ W < R ∧ W < K ∧ E ≠ R ∧ E ≠ K ∧ R ≠ K) : G2 w0 id C S W K E R (fun _ => 0) (fun _ => 0) w :=
  ⟨g, k, e, r, n.1, n.2.1, n.2.2.1, n.2.2.2.1, n.2.2.2.2.1, n.2.2.2.2.2⟩
theorem sz_set (w : World) (a : Addr) (v : Value) : (w.setCell a v).heap.size = w.heap.size := by simp [World.setCell]
theorem k_lastE {X : World} {K : Nat} {c : Array Value} (h : X.heap.size = K) : (X.alloc (.cells c 24)).heap[K]? = some (.cells c 24) := by subst h; exact heap_alloc_last X _
theorem madeE {X : World} {b n : Nat} (h : X.heap.size = b) : (X.alloc (.cells (madeCells #[.int .i64 0] n) 3)).rowIs b 3 n (fun _ => .int .i64 0) := by subst h; exact made0
theorem g2_ex {w0 : World} {id C S W K E R : Nat} {I : Int} {w : World} (hI : I = (id : Int)) (k : w.heap[K]? = some (.cells #[.int .i64 I, .int .i64 (pl id), .slice (some ⟨E, 0, none⟩) (Nn id) (Nn id), .slice (some ⟨R, 0, none⟩) (Nn id) (Nn id)] 24)) (g : G1 w0 id C S W w) (e : w.rowIs E 3 (Nn id) (fun _ => .int .i64 0)) (r : w.rowIs R 3 (Nn id) (fun _ => .int .i64 0))
    (n : W < E ∧ W < R ∧ W < K ∧ E ≠ R ∧ E ≠ K ∧ R ≠ K) : ∃ K' E' R', Value.pointer (some ⟨K, 0, none⟩) = .pointer (some ⟨K', 0, none⟩) ∧ Hid (G2 w0 id C S W K' E' R' (fun _ => 0) (fun _ => 0) w) :=
  ⟨K, E, R, rfl, Lib.hid (g2_mk (by subst hI; exact k) g e r n)⟩
theorem pow_le {id : Nat} (h1 : 1 ≤ id) (h2 : id ≤ 12) : ∀ i, i ≤ dm id → (bs id ^ i : Nat) ≤ 289 := by
  intro i hi
  obtain ⟨f1, f2, f3, f4, f5, f6, f7, f8, f9, f10, f11, f12, f13, f14⟩ := facts h1 h2
  exact Nat.le_trans (Nat.pow_le_pow_right f2 hi) (by rw [← f1]; exact f8)
theorem wt_le255 {id : Nat} (h1 : 1 ≤ id) (h2 : id ≤ 12) : ∀ k n, k ≤ dm id → wtd (bs id) (lw id) k n ≤ 255 := by
  intro k n hk
  obtain ⟨m, hm, hk2⟩ : ∃ m, (∀ d, d < bs id → (lw id + (d : Nat)).natAbs ≤ m) ∧ dm id * m ≤ 60 := by
    rcases ids h1 h2 with rfl | rfl | rfl | rfl | rfl | rfl | rfl | rfl | rfl | rfl | rfl | rfl
    · exact ⟨1, by decide, by decide⟩
    · exact ⟨1, by decide, by decide⟩
    · exact ⟨2, by decide, by decide⟩
    · exact ⟨2, by decide, by decide⟩
    · exact ⟨4, by decide, by decide⟩
    · exact ⟨4, by decide, by decide⟩
    · exact ⟨7, by decide, by decide⟩
    · exact ⟨7, by decide, by decide⟩
    · exact ⟨12, by decide, by decide⟩
    · exact ⟨12, by decide, by decide⟩
    · exact ⟨16, by decide, by decide⟩
    · exact ⟨60, fun d hd => by (have e1 : lw 12 = -60 := rfl); (have e2 : bs 12 = 121 := rfl); omega, by decide⟩
  have := wtd_le (bs id) (lw id) m hm (facts h1 h2).2.1 k n
  have h3 := Nat.mul_le_mul_right m hk
  omega
theorem wts {id : Nat} (h1 : 1 ≤ id) (h2 : id ≤ 12) (w : World) : Calls Tryd.prog 45 #[.agg #[.int .i64 (dm id), .int .i64 (lw id), .int .i64 (hg id), .int .i64 (pl id)]] w fun e w' => ∃ c, e = .returned (.agg c) ∧ IsWt (bs id) (dm id) (bs id ^ dm id) (lw id) c ∧ c.size = 289 ∧ c.all (·.oneCell') = true ∧ Below w.heap.size w w' := by
  obtain ⟨f1, f2, f3, f4, f5, f6, f7, f8, f9, f10, f11, f12, f13, f14⟩ := facts h1 h2
  refine (weights_ok (dm id) (bs id) (lw id) (hg id) (pl id) w f9 f10 f11 f12 f3 f5 (pow_le h1 h2) (wt_le255 h1 h2)).mono ?_
  rintro e w' ⟨c, rfl, hw, hb⟩
  refine ⟨c, rfl, hw, hw.1, ?_, hb⟩
  rw [Array.all_eq_true_iff_forall_mem]
  intro v hv
  obtain ⟨i, hi, rfl⟩ := Array.mem_iff_getElem.1 hv
  have := hw.2 i (by rw [← hw.1]; exact hi)
  rw [Array.getElem?_eq_getElem hi] at this
  simp only [Option.some.injEq] at this
  rw [this]; rfl
theorem sizes {id : Nat} (h1 : 1 ≤ id) (h2 : id ≤ 12) (w : World) : Calls Tryd.prog 46 #[.agg #[.int .i64 (dm id), .int .i64 (lw id), .int .i64 (hg id), .int .i64 (pl id)]] w fun e w' => e = .returned (.int .i64 (Nn id)) ∧ Below w.heap.size w w' := by
  obtain ⟨f1, f2, f3, f4, f5, f6, f7, f8, f9, f10, f11, f12, f13, f14⟩ := facts h1 h2
  have := size_ok (dm id) (bs id) (lw id) (hg id) (pl id) w f9 f10 f11 f12 f3 f5 (pow_le h1 h2)
  rwa [← f1] at this

set_option maxRecDepth 100000 in
set_option maxHeartbeats 8000000 in
theorem get_ok (id : Nat) (w : World) (h1 : 1 ≤ id) (h2 : id ≤ 12) (hs : Sh w) :
    Calls Tryd.prog 15 #[.int .i64 id] w fun e w' => ∃ v, e = .returned (.tuple #[v, .int .i64 0]) ∧ IsBook w.heap.size w' id v ∧ Below w.heap.size w w' := by
  obtain ⟨k, rfl⟩ : ∃ k, id = k + 1 := ⟨id - 1, by omega⟩
  have hs1 := hs.below ((Below.refl w.heap.size w).alloc (Nat.le_refl _) (.cells #[.int .i64 0, .int .i64 0, .slice none 0 0, .slice none 0 0] 24))
  obtain ⟨s0, s1⟩ := hs1
  obtain ⟨c0, c1, c2, c3⟩ := s1 k (by omega)
  obtain ⟨f1, f2, f3, f4, f5, f6, f7, f8, f9, f10, f11, f12, f13, f14⟩ := facts h1 h2
  have h12 : Hid (1 ≤ k + 1 ∧ k + 1 ≤ 12) := Lib.hid ⟨h1, h2⟩
  have HW := Lib.hid (fun w => wts h1 h2 w)
  have HZ := Lib.hid (fun w => sizes h1 h2 w)
  go_enter Tryd.func15, Tryd.ntmps15
  go_upto_region 5 with first
    | (go_at_call 45; ((with_reducible refine (HW.out _).mono ?_); rintro e w1 ⟨c, rfl, hw, hc1, hc2, hb1⟩; have hsi := Lib.hid (size84.trans (congrArg some hc1.symm))))
    | (refine wpList_new84 _ rfl rfl ?_)
    | (refine wpList_store_row rfl 84 _ _ rfl w1.heap.size c rfl rfl 84 (Array.replicate 289 (.int .u8 0)) (heap_alloc_last w1 _) hsi.out (by rw [hc1]; simp) hc2 ?_)
  have G := Lib.hid (g1_new h1 h2 hw hb1)
  clear hsi hc1 hc2 hw hb1
  have hlt := G.out.wt.lt
  obtain ⟨k0, k1, k2, k3, k4⟩ := G.out.s
  obtain ⟨i0, hi, hz0, hz1, hz2⟩ := info_parts' info3
  have hmk := fun W => run_make_row (P := Tryd.prog) 22 3 i0 (.int .i64 0) Tryd.underlying22 hi hz0 hz1 rfl .i64 .i64 (Nn (k + 1)) (by rw [hz2]; omega) (by omega) W
  have F3 := Lib.hid f3
  have F8 := Lib.hid f8
  clear s0 s1 c0 c1 c2 c3 HW f1 f2 f3 f4 f5 f6 f7 f9 f10 f11 f12 f13 f14
  generalize (w1.alloc (Obj.cells (Array.replicate 289 (Value.int IntKind.u8 0)) 84)).setRow w1.heap.size c = W2 at *
  generalize w1.heap.size = Wt at *
  generalize hS : w.heap.size + 1 = S at *
  simp only [Act.put, List.setIfInBounds_toArray, List.set_cons_succ, List.set_cons_zero]
  go_cut [6] from 23 to 32 (fun kv wc => ∃ K E R : Nat, kv = .pointer (some ⟨K, 0, none⟩) ∧ Hid (G2 w (k + 1) w.heap.size S Wt K E R (fun _ => 0) (fun _ => 0) wc))
  case first =>
    have GD := Lib.hid (show G1 w (k + 1) w.heap.size S Wt W2.drew from G.out.below ((Below.refl W2.heap.size W2).drew))
    have GA := Lib.hid (show G1 w (k + 1) w.heap.size S Wt ((W2.alloc (.cells #[.int .i64 0, .int .i64 0, .slice none 0 0, .slice none 0 0] 24)).drew) from (G.out.al).below ((Below.refl _ _).drew))
    have hx0 : Bx4 W2.drew S (dm (k + 1)) (lw (k + 1)) (hg (k + 1)) (pl (k + 1)) := ⟨k0, k1, k2, k3, k4⟩
    have hkz : ((W2.alloc (.cells #[.int .i64 0, .int .i64 0, .slice none 0 0, .slice none 0 0] 24)).drew).rowIs W2.heap.size 24 4 (fun i => zb.getD i undef) := kz_new W2
    have hxA : Bx4 ((W2.alloc (.cells #[.int .i64 0, .int .i64 0, .slice none 0 0, .slice none 0 0] 24)).drew) S (dm (k + 1)) (lw (k + 1)) (hg (k + 1)) (pl (k + 1)) := Bx4.al (w := W2) ⟨k0, k1, k2, k3, k4⟩
    have HZB : Hid (∀ w, Calls Tryd.prog 46 #[.agg #[.int .i64 (dm (k + 1)), .int .i64 (lw (k + 1)), .int .i64 (hg (k + 1)), .int .i64 (pl (k + 1))]] w fun e w' => e = .returned (.int .i64 (Nn (k + 1))) ∧ Bel w w') := Lib.hid fun w => (HZ.out w).mono fun _ _ h => ⟨h.1, ⟨h.2⟩⟩
    have n1 : W2.heap.size ≠ S := Nat.ne_of_gt k4
    go_region_held3 (fun w' => w'.cell? ⟨S, 0, none⟩ = some (.int .i64 (dm (k + 1))) ∧ w'.cell? ⟨S, 1, none⟩ = some (.int .i64 (lw (k + 1))) ∧ w'.cell? ⟨S, 2, none⟩ = some (.int .i64 (hg (k + 1))) ∧ w'.cell? ⟨S, 3, none⟩ = some (.int .i64 (pl (k + 1))) ∧ S < w'.heap.size)
      (first
        | with_reducible exact hx0
        | with_reducible exact hxA
        | with_reducible exact b3
        | with_reducible exact b4
        | with_reducible exact Bx4.al hx0
        | with_reducible exact Bx4.al b3
        | with_reducible exact Bx4.al (Bx4.al b3)
        | with_reducible exact Bx4.al b4
        | with_reducible exact Bx4.al (Bx4.al b4)
        | with_reducible exact Bx4.al (Bx4.al (Bx4.al b4))
        | with_reducible exact Bx4.al (Bx4.set4 b4 n2)
        | with_reducible exact Bx4.al (Bx4.set4 b4 n3)
        | with_reducible exact Bx4.al (Bx4.set4 b4 n1)
        | with_reducible exact Bx4.al (Bx4.al (Bx4.set4 b4 n2))
        | with_reducible exact Bx4.al (Bx4.al (Bx4.set4 b4 n3))
        | with_reducible exact Bx4.al (Bx4.al (Bx4.set4 b4 n1))
        | (trace_state; fail))
      (first
        | (go_at_call 46; ((with_reducible refine (HZB.out _).mono ?_); rintro e w3 ⟨rfl, hb3⟩; have hs3 := hb3.b.size; (try simp only [World.size_alloc, sz_drew] at hs3); have b3 : Bx4 w3 S (dm (k + 1)) (lw (k + 1)) (hg (k + 1)) (pl (k + 1)) := (by first | with_reducible exact Bx4.bel hx0 hb3 | with_reducible exact Bx4.bel hxA hb3); have l3 := b3.2.2.2.2; have n2 : w3.heap.size ≠ S := Nat.ne_of_gt l3; have n3 : w3.heap.size + 1 ≠ S := Nat.ne_of_gt (Nat.lt_succ_of_lt l3); (try (have Z3 : Hid (w3.rowIs W2.heap.size 24 4 (fun i => zb.getD i undef)) := (by with_reducible exact Lib.hid (rbb hkz hb3)); obtain ⟨z0, z1, z2, z3, z4, z5, z6, z7, z8⟩ := kz_row Z3.out))))
        | (go_at_call 46; ((with_reducible refine (HZB.out _).mono ?_); rintro e w4 ⟨rfl, hb4⟩; have hs4 := hb4.b.size; (try simp only [World.size_alloc] at hs4); have b4 : Bx4 w4 S (dm (k + 1)) (lw (k + 1)) (hg (k + 1)) (pl (k + 1)) := (by first | with_reducible exact Bx4.bel b3 hb4 | with_reducible exact Bx4.bel (Bx4.al b3) hb4 | with_reducible exact Bx4.bel (Bx4.al (Bx4.al b3)) hb4); have l4 := b4.2.2.2.2; (first | ((have Z4 : Hid (w4.rowIs W2.heap.size 24 4 (fun i => zb.getD i undef)) := (by first | with_reducible exact Lib.hid (rbb Z3.out hb4) | with_reducible exact Lib.hid (rbb (rba Z3.out) hb4))); (obtain ⟨z0, z1, z2, z3, z4, z5, z6, z7, z8⟩ := kz_row Z4.out)) | ((have Z4 : Hid (w4.rowIs w3.heap.size 24 4 (fun i => zb.getD i undef)) := (by first | with_reducible exact Lib.hid (rbb (kz_new w3) hb4) | with_reducible exact Lib.hid (rbb (rba (kz_new w3)) hb4))); (obtain ⟨z0, z1, z2, z3, z4, z5, z6, z7, z8⟩ := kz_row Z4.out)) | ((have Z4 : Hid (w4.rowIs (w3.heap.size + 1) 24 4 (fun i => zb.getD i undef)) := (by with_reducible exact Lib.hid (rbb (kz_new1 w3 _) hb4))); (obtain ⟨z0, z1, z2, z3, z4, z5, z6, z7, z8⟩ := kz_row Z4.out)) | skip))))
    all_goals
      go_wp2_with fail
      go_meet
      case rel =>

        apply g2_ex (I := (k : Int) + 1) (Int.natCast_succ k).symm
        · first
            | (with_reducible refine k_al (k_set4 Z4.out))
            | (with_reducible refine k_al (k_al (k_set4 Z4.out)))
            | (with_reducible refine k_lastE ?_; (simp only [World.size_alloc, sz_set]; done))
            | (with_reducible refine k_al (k_lastE ?_); (simp only [World.size_alloc, sz_set]; done))
            | (with_reducible refine k_al (k_al (k_lastE ?_)); (simp only [World.size_alloc, sz_set]; done))
        · repeat' (first | (with_reducible exact GD.out) | (with_reducible exact GA.out) | (with_reducible refine G1.al ?_) | (with_reducible refine G1.set4 ?_ ?hlt; (case hlt => omega)) | (with_reducible refine G1.bel ?_ hb4) | (with_reducible refine G1.bel ?_ hb3))
        · repeat' (first | (with_reducible refine madeE ?_; (simp only [World.size_alloc, sz_set]; done)) | (with_reducible refine r_al ?_) | (with_reducible refine r_set4 ?_ ?hne; (case hne => omega)) | (with_reducible refine r_bel ?_ hb4) | (with_reducible refine r_bel ?_ hb3))
        · repeat' (first | (with_reducible refine madeE ?_; (simp only [World.size_alloc, sz_set]; done)) | (with_reducible refine r_al ?_) | (with_reducible refine r_set4 ?_ ?hne; (case hne => omega)) | (with_reducible refine r_bel ?_ hb4) | (with_reducible refine r_bel ?_ hb3))
        · omega
  case rest =>
    obtain ⟨K, E, R, rfl, hG⟩ := hcut
    have q0 : wc.cell? ⟨K, 2, none⟩ = some (.slice (some ⟨E, 0, none⟩) (Nn (k + 1)) (Nn (k + 1))) := cell_row hG.out.k (i := 2) rfl
    clear hmk k0 k1 k2 k3 k4 G HZ hlt h1 h2 hs F3 f8
    have hN := F8.out
    obtain ⟨N, hNN⟩ : ∃ N, Nn (k + 1) = N := ⟨_, rfl⟩
    rw [hNN] at q0 hN
    have HNN := Lib.hid hNN
    have hS2 := Lib.hid hS
    clear hNN hS
    generalize hC : w.heap.size = C at *
    go_wp2
    go_loopw [36] (fun i wr => ∃ m : Nat, m ≤ N ∧ i = .int .i64 m ∧ Hid (G2 w (k + 1) C S Wt K E R (fun j => if j < m then (j : Int) else 0) (fun _ => 0) wr)) (fun i _ => N - (intOf i).toNat)
    case atStart => exact ⟨0, by omega, rfl, hG⟩
    case round =>
      obtain ⟨m, hm, rfl, hG1⟩ := hrel
      by_cases hlt : m < N
      · have c2 : wr.cell? ⟨K, 2, none⟩ = some (.slice (some ⟨E, 0, none⟩) N N) := by rw [← HNN.out]; exact cell_row hG1.out.k (i := 2) rfl
        have ce := hG1.out.e.cell (i := m) (by rw [HNN.out]; exact hlt)
        have cf := hG1.out.e.frozen m
        have hG2 := Lib.hid (hG1.out.setE (i := m) (v := (m : Int)) (fE' := fun j => if j < m + 1 then (j : Int) else 0) (fun j _ => by
          by_cases h : j = m
          · rw [if_pos h, if_pos (by omega), h]
          · rw [if_neg h]
            by_cases h2 : j < m
            · rw [if_pos h2, if_pos (by omega)]
            · rw [if_neg h2, if_neg (by omega)]))
        clear hG hG1
        go_wp2
        go_roundw
        case rel => exact ⟨m + 1, by omega, by go_num, hG2⟩
        case measure => simp [intOf]; omega
      · have hend : m = N := by omega
        subst hend
        have c2 : wr.cell? ⟨K, 2, none⟩ = some (.slice (some ⟨E, 0, none⟩) m m) := by rw [← HNN.out]; exact cell_row hG1.out.k (i := 2) rfl
        have hE := Lib.hid (hG1.out.e.congr (g := fun j => .int .i64 (j : Int)) (fun j hj => by rw [HNN.out] at hj; rw [if_pos hj]))
        have hsort := Lib.hid (sort_ok (k + 1) wr Wt E m (fun j => wf (bs (k + 1)) (lw (k + 1)) (Nn (k + 1)) (dm (k + 1)) 1 j) h12.out.1 h12.out.2 (by have := hG1.out.n1; omega) (fun j hj => wf_wt hj) (fun j => wf_bd h12.out j) hG1.out.g.wt hE.out)
        rw [HNN.out] at hsort
        clear hG q0
        go_upto_region 12 with (go_at_call 47; ((with_reducible refine (hsort.out).mono ?_); rintro e w5 ⟨rfl, hr5, hg5⟩))
        have hG6 := Lib.hid (hG1.out.grown hg5 (fE' := ordI (k + 1)) (by rw [HNN.out]; exact hr5))
        have c2' : w5.cell? ⟨K, 2, none⟩ = some (.slice (some ⟨E, 0, none⟩) m m) := by rw [← HNN.out]; exact cell_row hG6.out.k (i := 2) rfl
        clear hE hsort hr5 hg5 hG1 c2
        go_wp2
        go_loopw [52] (fun i wr => ∃ r : Nat, r ≤ m ∧ i = .int .i64 r ∧ Hid (G2 w (k + 1) C S Wt K E R (ordI (k + 1)) (fun j => if rk (k + 1) j < r then rkI (k + 1) j else 0) wr)) (fun i _ => m - (intOf i).toNat)
        case atStart => exact ⟨0, by omega, rfl, hG6⟩
        case round =>
          obtain ⟨r, hr, rfl, hG7⟩ := hrel
          by_cases hlt2 : r < m
          · obtain ⟨n, hn1, hn2, hn3⟩ := (ord_is h12.out.1 h12.out.2).at (r := r) (by rw [HNN.out]; exact hlt2)
            have ce := hG7.out.e.cell (i := r) (by rw [HNN.out]; exact hlt2)
            have hoi : ordI (k + 1) r = (n : Int) := by unfold ordI; rw [List.getD_eq_getElem?_getD, hn1]; rfl
            rw [hoi] at ce
            rw [HNN.out] at hn2
            have c3 : wr.cell? ⟨K, 3, none⟩ = some (.slice (some ⟨R, 0, none⟩) m m) := by rw [← HNN.out]; exact cell_row hG7.out.k (i := 3) rfl
            have cr := hG7.out.r.cell (i := n) (by rw [HNN.out]; exact hn2)
            have cf := hG7.out.r.frozen n
            have hG8 := Lib.hid (hG7.out.setR (i := n) (v := (r : Int)) (fR' := fun j => if rk (k + 1) j < r + 1 then rkI (k + 1) j else 0) (fun j hj => by
              by_cases h : j = n
              · have e1 : rk (k + 1) n = r := hn3
                rw [if_pos h, h, e1, if_pos (by omega)]; unfold rkI; rw [e1]
              · have e2 : rk (k + 1) j ≠ r := fun e => by
                  have := ((ord_is h12.out.1 h12.out.2).rank hj).2
                  change (ord (k + 1))[rk (k + 1) j]? = some j at this
                  rw [e, hn1] at this
                  exact h (Option.some.inj this).symm
                rw [if_neg h]
                by_cases h2 : rk (k + 1) j < r
                · rw [if_pos h2, if_pos (by omega)]
                · rw [if_neg h2, if_neg (by omega)]))
            clear hG7 hn1 hn3 hoi hG6 c2'
            generalize (if rk (k + 1) n < r then rkI (k + 1) n else 0) = old at *
            go_wp2
            go_roundw
            case rel => exact ⟨r + 1, by omega, by go_num, hG8⟩
            case measure => simp [intOf]; omega
          · have hend : r = m := by omega
            subst hend
            have hK := Lib.hid hG7.out.k
            have hCc := Lib.hid hG7.out.g.c
            have hset := Lib.hid (setRow_heap wr C zb (bkc (k + 1) E R) 24 (0, 0) hCc.out)
            have hfin : Hid (IsBook C (wr.setRow C (bkc (k + 1) E R)) (k + 1) (.agg (bkc (k + 1) E R)) ∧ Below C w (wr.setRow C (bkc (k + 1) E R))) := by
              have h1 := hG7.out.g.o1
              have h2 := hG7.out.g.o2
              have h3 := hG7.out.g.o3
              have h4 := hG7.out.n1
              have h5 := hG7.out.n2
              have hoth : ∀ b, b ≠ C → (wr.setRow C (bkc (k + 1) E R)).heap[b]? = wr.heap[b]? := fun b hb => by
                show (wr.heap.modify C _)[b]? = _
                rw [Array.getElem?_modify, if_neg (Ne.symm hb)]
              refine Lib.hid ⟨⟨E, R, rfl, by omega, by omega, hG7.out.e.of_block (hoth E (by omega)), (hG7.out.r.of_block (hoth R (by omega))).congr fun j hj => ?_⟩, below_setRow (hC ▸ hG7.out.g.bl) (Nat.le_refl _) _⟩
              have : rk (k + 1) j < Nn (k + 1) := ((ord_is h12.out.1 h12.out.2).rank hj).1
              rw [HNN.out] at this
              rw [if_pos this]
            clear hG7 hG6 c2'
            go_wp2_with first
              | (refine wpList_load_row rfl 24 _ rfl K rfl 24 (bkc (k + 1) E R) _ _ hK.out Tryd.underlying24 rfl size24 ?_)
              | (refine wpList_store_row rfl 24 _ _ rfl C (bkc (k + 1) E R) rfl rfl 24 zb hCc.out size24 rfl (one_bk _ _ _) ?_)
            (try simp only [Exit.inBlock, Exit.then])
            refine bodyPost_ret (results_ct_row rfl _ _ C 24 (bkc (k + 1) E R) _ _ rfl hset.out Tryd.underlying24 rfl size24) rfl ?_
            rw [hC]
            exact ⟨_, rfl, hfin.out.1, hfin.out.2⟩
end Go.Proofs.YteklahfgplbmcaaDoor.Bk
