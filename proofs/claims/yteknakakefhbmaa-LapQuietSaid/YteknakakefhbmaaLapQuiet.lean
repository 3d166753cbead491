/- Lines of nothing leave nothing. LapQuiet returns true, whatever the arguments, the memory and the schedule. No condition. -/
import Derived.Test.YteknakakefhbmaaLpPub
import Derived.Test.YteknakakefhbmaaLpOp
import Derived.Deep.RegionHeld3
import Derived.WalkKit
import Derived.Below
import Derived.RegionTactic
import Derived.Deep.QuietTactic
import Derived.BigQuiet
import Derived.ChangeAlike
import Derived.Deep.OwnRows
import Derived.Deep.RegionLaw
import Derived.ProofKit
import Derived.OpenShut
import Derived.ChangeSlices
import Derived.Lib.Hide
import Derived.Great.Walk
import Derived.ChangeKeysEq
import Derived.ChangeOld
import Derived.ShutString
namespace Go.Proofs.Yteknakakefhbmaa.lapQuiet
open Go Go.ChangeShapes Go.WideShapes Go.ChangeAt Go.RowKit Go.Proofs.Yteknakakefhbmaa.Fx Go.Proofs.Yteknakakefhbmaa.Rk Go.Proofs.Yteknakakefhbmaa.Mm Go.Proofs.Yteknakakefhbmaa.Md Go.Proofs.Yteknakakefhbmaa.Bl Go.Proofs.Yteknakakefhbmaa.Lp Go.Proofs.Yteknakakefhbmaa.Cpy

theorem u8_lo {x : Int} (h : (Lit.int .u8 x).wf = true) : 0 ≤ x := by simp [Lit.wf] at h; have e : IntKind.u8.min = 0 := rfl; omega
theorem SL_z (seq was shape : Int) (j : Nat) : SL seq was shape (zeros 256) j = 0 := by
  unfold SL; split
  · exact syT_zero (zeros_at 256) 8 j
  · exact lyT_zero (zeros_at 256) 1 j
theorem nO_q {tail : List Int} {s h q sh : Int} (hL : LapOK tail s h) (hM : May q h sh) : nO tail s h q sh (zeros 256) = ⟨mk 256 (fun _ => 0), q, sh, mk 256 (fun n => clp (rnd (tail.getD n 0) 4) 16), 0⟩ := by
  rw [nO_good hL hM (zeros_len _) (zeros_in 256 (by decide) (by decide))]
  have e1 : mk 256 (fun j => SL q h sh (zeros 256) (256 + j)) = mk 256 (fun _ => 0) := mk_congr fun j _ => SL_z _ _ _ _
  have e2 : mk 256 (fun n => clp (rnd (tail.getD n 0 + SL q h sh (zeros 256) n) 4) 16) = mk 256 (fun n => clp (rnd (tail.getD n 0) 4) 16) := mk_congr fun j _ => by rw [SL_z, Int.add_zero]
  rw [e1, e2]
theorem lap_mkz {q sh : Int} (h1 : q ≤ 3) (h2 : sh ≤ 1) : LapOK (mk 256 (fun _ => 0)) q sh := ⟨mk_len _ _, h1, h2, fun j _ => by rw [mkz_at]; decide⟩
theorem nO_two {q1 q2 sh : Int} (h1 : q1 ≤ 3) (h2 : sh ≤ 1) (h : ¬ (nO (mk 256 (fun _ => 0)) q1 sh q2 sh (zeros 256)).err = 0) : 3 < q2 := by
  by_cases h3 : q2 ≤ 3
  · rw [nO_q (lap_mkz h1 h2) ⟨h3, h2, h2⟩] at h; exact absurd rfl h
  · omega
theorem clp_r (X : Int) : clp (rnd X 4) 16 = max (min ((X + 8) / 16) 32767) (-32768) := by
  rw [clp16]
  unfold rnd
  rw [if_neg (by decide)]
  simp only [show (4 : Int).toNat = 4 from rfl, show (2 : Int) ^ (4 - 1) = 8 from rfl, show (2 : Int) ^ 4 = 16 from rfl]
  omega
/-- A region forgets what its order was. -/
theorem wp_forget {P : Program} {c : Code} {Q : Exit → Act → World → Prop} {a : Act} {w : World} (R : Act → Act → World → Prop) (h : c.wp P (fun e a' w' => e = .normal ∧ R a a' w') a w) (k : ∀ a' w', R a a' w' → Q .normal a' w') : c.wp P Q a w :=
  Code.wp_mono (fun e a' w' q => by obtain ⟨rfl, q⟩ := q; exact k a' w' q) h
/-- What overlaps, in a cell of its own. -/
def Res (w0 : World) (q sh : Int) (T P : List Int) (g g1 c1 g2 c2 : Nat) (w' : World) : Prop :=
  w0.heap.size ≤ g ∧ g < w'.heap.size ∧ w'.cell? ⟨g, 0, none⟩ = some (.slice (some ⟨g1, 0, none⟩) 256 c1) ∧ w'.cell? ⟨g, 1, none⟩ = some (.int .u8 q) ∧ w'.cell? ⟨g, 2, none⟩ = some (.int .u8 sh) ∧
  g1 < w'.heap.size ∧ (∀ j, j < 256 → w'.cell? ⟨g1, j, none⟩ = some (.int .i64 (T.getD j 0))) ∧ g2 < w'.heap.size ∧ (∀ j, j < 256 → w'.cell? ⟨g2, j, none⟩ = some (.int .i64 (P.getD j 0))) ∧ Below w0.heap.size w0 w'
theorem cell_3 {w : World} {a b j : Nat} (p q r : Value) (h : a ≠ b) : (((w.setCell ⟨a, 0, none⟩ p).setCell ⟨a, 1, none⟩ q).setCell ⟨a, 2, none⟩ r).cell? ⟨b, j, none⟩ = w.cell? ⟨b, j, none⟩ := (cell_oth r h).trans ((cell_oth q h).trans (cell_oth p h))
theorem res_c {w0 X : World} {q sh : Int} {T P : List Int} {g g1 c1 g2 c2 : Nat} {x y z : Value} (hX : X.heap[g]? = some (.cells #[x, y, z] 38 (0, 0))) (h0 : Below w0.heap.size w0 X) (hg : w0.heap.size ≤ g) (n1 : g ≠ g1) (n2 : g ≠ g2) (l1 : g1 < X.heap.size) (k1 : ∀ j, j < 256 → X.cell? ⟨g1, j, none⟩ = some (.int .i64 (T.getD j 0))) (l2 : g2 < X.heap.size) (k2 : ∀ j, j < 256 → X.cell? ⟨g2, j, none⟩ = some (.int .i64 (P.getD j 0))) :
    Res w0 q sh T P g g1 c1 g2 c2 (((X.setCell ⟨g, 0, none⟩ (.slice (some ⟨g1, 0, none⟩) 256 c1)).setCell ⟨g, 1, none⟩ (.int .u8 q)).setCell ⟨g, 2, none⟩ (.int .u8 sh)) := by
  have hs := set3 (.slice (some ⟨g1, 0, none⟩) 256 c1) (.int .u8 q) (.int .u8 sh) hX
  obtain ⟨a0, a1, a2, _⟩ := cell_in hs
  have hz : (((X.setCell ⟨g, 0, none⟩ (.slice (some ⟨g1, 0, none⟩) 256 c1)).setCell ⟨g, 1, none⟩ (.int .u8 q)).setCell ⟨g, 2, none⟩ (.int .u8 sh)).heap.size = X.heap.size := by rw [setsz, setsz, setsz]
  refine ⟨hg, ?_, a0, a1, a2, ?_, fun j hj => (cell_3 _ _ _ n1).trans (k1 j hj), ?_, fun j hj => (cell_3 _ _ _ n2).trans (k2 j hj), bel3 _ _ _ h0 hg⟩
  · rw [hz]; exact (Array.getElem?_eq_some_iff.1 hX).1
  · rw [hz]; exact l1
  · rw [hz]; exact l2
theorem res_a {w0 W X : World} {q sh : Int} {T P : List Int} {g g1 c1 g2 c2 : Nat} {x y z : Value} (h0 : Below w0.heap.size w0 W) (hg : w0.heap.size ≤ g) (hW : W.heap[g]? = some (.cells #[x, y, z] 38 (0, 0))) (hb : Below W.heap.size W X) (a1 : W.heap.size ≤ g1) (a2 : W.heap.size ≤ g2) (l1 : g1 < X.heap.size) (k1 : ∀ j, j < 256 → X.cell? ⟨g1, j, none⟩ = some (.int .i64 (T.getD j 0))) (l2 : g2 < X.heap.size) (k2 : ∀ j, j < 256 → X.cell? ⟨g2, j, none⟩ = some (.int .i64 (P.getD j 0))) :
    Res w0 q sh T P g g1 c1 g2 c2 (((X.setCell ⟨g, 0, none⟩ (.slice (some ⟨g1, 0, none⟩) 256 c1)).setCell ⟨g, 1, none⟩ (.int .u8 q)).setCell ⟨g, 2, none⟩ (.int .u8 sh)) := by
  have lg := (Array.getElem?_eq_some_iff.1 hW).1
  exact res_c ((hb.block g lg).trans hW) (bt h0 hb) hg (by omega) (by omega) l1 k1 l2 k2
theorem res_b {w0 X : World} {q sh : Int} {T P : List Int} {g1 c1 g2 c2 : Nat} (h0 : Below w0.heap.size w0 X) (l1 : g1 < X.heap.size) (k1 : ∀ j, j < 256 → X.cell? ⟨g1, j, none⟩ = some (.int .i64 (T.getD j 0))) (l2 : g2 < X.heap.size) (k2 : ∀ j, j < 256 → X.cell? ⟨g2, j, none⟩ = some (.int .i64 (P.getD j 0))) :
    Res w0 q sh T P X.heap.size g1 c1 g2 c2 (X.alloc (.cells #[.slice (some ⟨g1, 0, none⟩) 256 c1, .int .u8 q, .int .u8 sh] 38)) := by
  have hb := (Below.refl X.heap.size X).alloc (Nat.le_refl _) (.cells #[.slice (some ⟨g1, 0, none⟩) 256 c1, .int .u8 q, .int .u8 sh] 38)
  have hs : (X.alloc (.cells #[.slice (some ⟨g1, 0, none⟩) 256 c1, .int .u8 q, .int .u8 sh] 38)).heap.size = X.heap.size + 1 := by simp
  obtain ⟨a0, a1, a2⟩ := box38 X (.slice (some ⟨g1, 0, none⟩) 256 c1) (.int .u8 q) (.int .u8 sh)
  exact ⟨h0.size, by omega, a0, a1, a2, by omega, fun j hj => (hb.cell (p := ⟨g1, j, none⟩) l1).trans (k1 j hj), by omega, fun j hj => (hb.cell (p := ⟨g2, j, none⟩) l2).trans (k2 j hj), bt h0 hb⟩
abbrev Z256 : Obj := .cells (madeCells #[.int .i64 0] 256) 3
abbrev N38 : Obj := .cells #[.slice none 0 0, .int .u8 0, .int .u8 0] 38
theorem row_1 (w : World) : (w.alloc Z256).rowIs w.heap.size 3 256 (fun _ => .int .i64 0) := World.rowIs_made w (.int .i64 0) 256 3
theorem row_2 (w : World) : ((w.alloc N38).alloc Z256).rowIs (w.heap.size + 1) 3 256 (fun _ => .int .i64 0) := by
  have h := World.rowIs_made (w.alloc N38) (.int .i64 0) 256 3
  rwa [show (w.alloc N38).heap.size = w.heap.size + 1 by simp] at h
theorem row_3 (w : World) : ((w.alloc Z256).alloc N38).rowIs w.heap.size 3 256 (fun _ => .int .i64 0) := (row_1 w).of_block (Below.heap_alloc _ _ _ (by simp))
theorem at_1 (w : World) : ((w.alloc N38).alloc Z256).heap[w.heap.size]? = some (.cells #[.slice none 0 0, .int .u8 0, .int .u8 0] 38 (0, 0)) := (Below.heap_alloc _ _ _ (by simp)).trans (World.alloc_heap_new _ _)
theorem at_2 (w : World) : ((w.alloc Z256).alloc N38).heap[w.heap.size + 1]? = some (.cells #[.slice none 0 0, .int .u8 0, .int .u8 0] 38 (0, 0)) := by
  have h := World.alloc_heap_new (w.alloc Z256) N38
  rwa [show (w.alloc Z256).heap.size = w.heap.size + 1 by simp] at h
theorem al1 (w : World) (o : Obj) : Below w.heap.size w (w.alloc o).drew := ((Below.refl _ w).alloc (Nat.le_refl _) o).drew
theorem al2 (w : World) (o p : Obj) : Below w.heap.size w ((w.alloc o).alloc p).drew := (((Below.refl _ w).alloc (Nat.le_refl _) o).alloc (al1 w o).size p).drew
set_option maxRecDepth 100000 in
set_option maxHeartbeats 8000000 in
theorem far (a : Option Addr) (cap : Nat) (xs : List Int) (s h q1 q2 sh : Int) (w : World) (RA : RdA w a xs) (s0 : 0 ≤ s) (h0 : 0 ≤ h) (p1 : 0 ≤ q1) (p2 : 0 ≤ q2) (p3 : 0 ≤ sh) (hl : 1000 < xs.length) :
    Calls Try.prog 12 #[.agg #[.slice a xs.length cap, .int .u8 s, .int .u8 h], .int .u8 q1, .int .u8 q2, .int .u8 sh] w fun e w' => e = .returned (.bool true) ∧ Below w.heap.size w w' := by
  have hl2 : decide (1000 < (xs.length : Int)) = true := decide_eq_true (by omega)
  have RA := Lib.hid RA
  go_enter Try.func12, Try.ntmps12
  go_wp2_with first
    | (go_at_call 24; ((with_reducible refine (Lp.alive_ok _).mono ?_); rintro e w4 ⟨rfl, hb4⟩; have B4 := Lib.hid ((((Below.refl _ w).alloc (Nat.le_refl _) _).trans (hb4.mono (by simp)) : Below w.heap.size w w4)); have RA4 := Lib.hid (RA.out.below B4.out); obtain ⟨y0, y1, y2⟩ := box38 w (.slice a xs.length cap) (.int .u8 s) (.int .u8 h); have X0 := (hb4.cell (p := ⟨w.heap.size, 0, none⟩) (by simp)).trans y0; have X1 := (hb4.cell (p := ⟨w.heap.size, 1, none⟩) (by simp)).trans y1; have X2 := (hb4.cell (p := ⟨w.heap.size, 2, none⟩) (by simp)).trans y2; have L4 : w.heap.size < w4.heap.size := Nat.lt_of_lt_of_le (by simp) hb4.size; clear y0 y1 y2 hb4))
  go_ret
  exact ⟨rfl, B4.out⟩
set_option maxRecDepth 100000 in
set_option maxHeartbeats 8000000 in
theorem bad1 (a : Option Addr) (cap : Nat) (xs : List Int) (s h q1 q2 sh : Int) (w : World) (RA : RdA w a xs) (s0 : 0 ≤ s) (h0 : 0 ≤ h) (p1 : 0 ≤ q1) (p2 : 0 ≤ q2) (p3 : 0 ≤ sh) (hl : xs.length ≤ 1000) (he : ¬ (nO xs s h q1 sh (zeros 256)).err = 0) :
    Calls Try.prog 12 #[.agg #[.slice a xs.length cap, .int .u8 s, .int .u8 h], .int .u8 q1, .int .u8 q2, .int .u8 sh] w fun e w' => e = .returned (.bool true) ∧ Below w.heap.size w w' := by
  obtain ⟨i0, hi, hz0, hz1, hz2⟩ := info_parts Fx.info3
  have HMK : ∀ w : World, (Instr.makeSlice 22 (.int .i64 256) (.int .i64 256)).run Try.prog w = .ok (.slice (some ⟨w.heap.size, 0, none⟩) 256 256) (w.alloc (.cells (madeCells #[.int .i64 0] 256) 3)) := fun w => run_make_row (P := Try.prog) 22 3 i0 (.int .i64 0) Try.underlying22 hi hz0 hz1 rfl .i64 .i64 256 (by rw [hz2]; omega) (by omega) w
  have hl2 : decide (1000 < (xs.length : Int)) = false := decide_eq_false (by omega)
  have RA := Lib.hid RA
  have HN0 := fun (m : Nat) (W : World) (r : RdA W a xs) (r2 : W.rowIs m 3 256 (fun _ => .int .i64 0)) => next_O a (some ⟨m, 0, none⟩) xs.length cap 256 256 xs (zeros 256) s h q1 sh W p1 h0 p3 rfl r (zeros_len _) (Nat.le_refl _) (by unfold maxLen; omega) (rep_rd r2)
  obtain ⟨b1, b2, b3, b4⟩ := nO_bad he
  obtain ⟨E, hE⟩ : ∃ E, E = (nO xs s h q1 sh (zeros 256)).err := ⟨_, rfl⟩
  unfold AnsN at HN0
  rw [b1, b2, b3, b4, ← hE] at HN0
  rw [← hE] at he
  have HN0 := Lib.hid HN0
  unfold lapV at HN0
  clear b1 b2 b3 b4 hE
  go_enter Try.func12, Try.ntmps12
  go_wp2_with first
    | (go_at_call 24; ((with_reducible refine (Lp.alive_ok _).mono ?_); rintro e w4 ⟨rfl, hb4⟩; have B4 := Lib.hid ((((Below.refl _ w).alloc (Nat.le_refl _) _).trans (hb4.mono (by simp)) : Below w.heap.size w w4)); have RA4 := Lib.hid (RA.out.below B4.out); obtain ⟨y0, y1, y2⟩ := box38 w (.slice a xs.length cap) (.int .u8 s) (.int .u8 h); have X0 := (hb4.cell (p := ⟨w.heap.size, 0, none⟩) (by simp)).trans y0; have X1 := (hb4.cell (p := ⟨w.heap.size, 1, none⟩) (by simp)).trans y1; have X2 := (hb4.cell (p := ⟨w.heap.size, 2, none⟩) (by simp)).trans y2; have L4 : w.heap.size < w4.heap.size := Nat.lt_of_lt_of_le (by simp) hb4.size; clear y0 y1 y2 hb4))
  have HN1 := Lib.hid (fun (W : World) (m : Nat) (hW : Below w4.heap.size w4 W) r => HN0.out m W (RA4.out.below hW) r)
  have KEEP := Lib.hid (fun (W : World) (hW : Below w4.heap.size w4 W) => (⟨(hW.cell (p := ⟨w.heap.size, 0, none⟩) L4).trans X0, (hW.cell (p := ⟨w.heap.size, 1, none⟩) L4).trans X1, (hW.cell (p := ⟨w.heap.size, 2, none⟩) L4).trans X2, hW⟩ : W.cell? ⟨w.heap.size, 0, none⟩ = some (.slice a xs.length cap) ∧ W.cell? ⟨w.heap.size, 1, none⟩ = some (.int .u8 s) ∧ W.cell? ⟨w.heap.size, 2, none⟩ = some (.int .u8 h) ∧ Below w4.heap.size w4 W))
  refine wp_forget (fun ac a' w' => ∃ (g m : Nat) (a1 : Option Addr) (c1 : Nat) (a2 : Option Addr) (c2 : Nat), a' = ((((((((((((ac.put (some 29) (.agg #[.slice a xs.length cap, .int .u8 s, .int .u8 h])).put (some 30) (.int .u8 q1)).put (some 31) (.int .u8 sh)).put (some 32) (.slice (some ⟨m, 0, none⟩) 256 256)).put (some 33) (.tuple #[.agg #[.slice a1 0 c1, .int .u8 0, .int .u8 0], .slice a2 0 c2, .int .i64 E])).put (some 28) (.tuple #[.agg #[.slice a1 0 c1, .int .u8 0, .int .u8 0], .slice a2 0 c2, .int .i64 E])).put (some 34) (.agg #[.slice a1 0 c1, .int .u8 0, .int .u8 0])).put (some 35) (.slice a2 0 c2)).put (some 36) (.int .i64 E)).put (some 10) (.pointer (some ⟨g, 0, none⟩))).put (some 11) (.slice a2 0 c2)).put (some 12) (.int .i64 E)) ∧ Below w4.heap.size w4 w') ?_ ?_
  · go_region_held3 (fun w' => w'.cell? ⟨w.heap.size, 0, none⟩ = some (.slice a xs.length cap) ∧ w'.cell? ⟨w.heap.size, 1, none⟩ = some (.int .u8 s) ∧ w'.cell? ⟨w.heap.size, 2, none⟩ = some (.int .u8 h) ∧ Below w4.heap.size w4 w') (exact KEEP.out _ (by first | exact (Below.refl _ _).drew | exact ((‹_ ∧ _ ∧ _ ∧ Below _ _ _›).2.2.2).alloc ((‹_ ∧ _ ∧ _ ∧ Below _ _ _›).2.2.2).size _ | exact bt ((‹_ ∧ _ ∧ _ ∧ Below _ _ _›).2.2.2) BB.out | exact (bt (al1 _ _) BB.out).alloc (bt (al1 _ _) BB.out).size _ | exact bel3 _ _ _ ((‹_ ∧ _ ∧ _ ∧ Below _ _ _›).2.2.2) (by first | exact Nat.le_refl _ | exact Nat.le_succ _ | exact Nat.le_trans (al1 _ _).size BB.out.size))) ((go_at_call 22; ((with_reducible refine (HN1.out _ _ ((‹_ ∧ _ ∧ _ ∧ Below _ _ _›).2.2.2) (by first | exact (row_1 w4).of_block rfl | exact (row_2 w4).of_block rfl | exact (row_3 w4).of_block rfl)).mono ?_); rintro e w2 ⟨v, u, rfl, ho, hp, hb⟩; obtain ⟨a1, c1, ev⟩ := own_shape ho; obtain rfl : v = .slice a1 0 c1 := ev; obtain ⟨a2, c2, eu⟩ := own_shape hp; obtain rfl : u = .slice a2 0 c2 := eu; have BB := Lib.hid hb; clear ho hp; dsimp only [lapV]; first | (have HG : w2.heap[w4.heap.size]? = _ := (BB.out.block _ (by simp <;> omega)).trans (at_1 w4); obtain ⟨f0, f1, f2, f3, f4, f5⟩ := cell_in HG; have HG2 := Lib.hid HG; clear HG) | (have HG : w2.heap[w4.heap.size + 1]? = _ := (BB.out.block _ (by simp <;> omega)).trans (at_2 w4); obtain ⟨f0, f1, f2, f3, f4, f5⟩ := cell_in HG; have HG2 := Lib.hid HG; clear HG) | skip)))
    all_goals
      first
        | exact ⟨rfl, w2.heap.size, w4.heap.size, a1, c1, a2, c2, (by first | rfl | simp only [Act.put, List.setIfInBounds_toArray, List.set_cons_zero, List.set_cons_succ]), (‹_ ∧ _ ∧ _ ∧ Below _ _ _›).2.2.2⟩
        | exact ⟨rfl, w4.heap.size + 1, w4.heap.size, a1, c1, a2, c2, (by first | rfl | simp only [Act.put, List.setIfInBounds_toArray, List.set_cons_zero, List.set_cons_succ]), (‹_ ∧ _ ∧ _ ∧ Below _ _ _›).2.2.2⟩
        | exact ⟨rfl, w4.heap.size, w4.heap.size + 1, a1, c1, a2, c2, (by first | rfl | simp only [Act.put, List.setIfInBounds_toArray, List.set_cons_zero, List.set_cons_succ]), (‹_ ∧ _ ∧ _ ∧ Below _ _ _›).2.2.2⟩
  rintro a' w5 ⟨g, m, a1, c1, a2, c2, rfl, hB⟩
  have B5 := Lib.hid (bt B4.out hB)
  clear hB
  simp only [Act.put, List.setIfInBounds_toArray, List.set_cons_zero, List.set_cons_succ]
  go_wp2
  go_ret
  exact ⟨rfl, B5.out⟩
set_option maxRecDepth 100000 in
set_option maxHeartbeats 8000000 in
theorem bad2 (a : Option Addr) (cap : Nat) (xs : List Int) (s h q1 q2 sh : Int) (w : World) (RA : RdA w a xs) (s0 : 0 ≤ s) (h0 : 0 ≤ h) (p1 : 0 ≤ q1) (p2 : 0 ≤ q2) (p3 : 0 ≤ sh) (lm : LapOK xs s h ∧ May q1 h sh) (hq : 3 < q2) :
    Calls Try.prog 12 #[.agg #[.slice a 256 cap, .int .u8 s, .int .u8 h], .int .u8 q1, .int .u8 q2, .int .u8 sh] w fun e w' => e = .returned (.bool true) ∧ Below w.heap.size w w' := by
  obtain ⟨i0, hi, hz0, hz1, hz2⟩ := info_parts Fx.info3
  have HMK : ∀ w : World, (Instr.makeSlice 22 (.int .i64 256) (.int .i64 256)).run Try.prog w = .ok (.slice (some ⟨w.heap.size, 0, none⟩) 256 256) (w.alloc (.cells (madeCells #[.int .i64 0] 256) 3)) := fun w => run_make_row (P := Try.prog) 22 3 i0 (.int .i64 0) Try.underlying22 hi hz0 hz1 rfl .i64 .i64 256 (by rw [hz2]; omega) (by omega) w
  obtain ⟨e1, e2⟩ := lm
  have hx := e1.1
  have e3 := nO_q e1 e2
  have HN0 := fun (m : Nat) (W : World) (r : RdA W a xs) (r2 : W.rowIs m 3 256 (fun _ => .int .i64 0)) => next_O a (some ⟨m, 0, none⟩) 256 cap 256 256 xs (zeros 256) s h q1 sh W p1 h0 p3 hx r (zeros_len _) (Nat.le_refl _) (by unfold maxLen; omega) (rep_rd r2)
  rw [e3] at HN0
  unfold AnsN lapV at HN0
  obtain ⟨T, hT⟩ : ∃ T, T = mk 256 (fun _ => (0 : Int)) := ⟨_, rfl⟩
  obtain ⟨P1, hP1⟩ : ∃ P, P = mk 256 (fun n => clp (rnd (xs.getD n 0) 4) 16) := ⟨_, rfl⟩
  dsimp only at HN0
  rw [← hT, ← hP1] at HN0
  have TL := Lib.hid (show T.length = 256 by rw [hT]; exact mk_len _ _)
  have PL1 := Lib.hid (show P1.length = 256 by rw [hP1]; exact mk_len _ _)
  have HN0 := Lib.hid HN0
  have RA := Lib.hid RA
  have EX := Lib.hid e1
  have HT := Lib.hid hT
  have HP1 := Lib.hid hP1
  have ME := Lib.hid e2
  clear e1 e2 e3 hx hT hP1
  obtain ⟨E, hE⟩ : ∃ E, E = (nO T q1 sh q2 sh (zeros 256)).err := ⟨_, rfl⟩
  have he : ¬ E = 0 := by
    rw [hE]
    intro q
    have := (nO_err q).2.1.1
    omega
  have HN3 := fun (g c m : Nat) (W : World) (r : RdA W (some ⟨g, 0, none⟩) T) (r2 : W.rowIs m 3 256 (fun _ => .int .i64 0)) => next_O (some ⟨g, 0, none⟩) (some ⟨m, 0, none⟩) 256 c 256 256 T (zeros 256) q1 sh q2 sh W p2 p3 p3 TL.out r (zeros_len _) (Nat.le_refl _) (by unfold maxLen; omega) (rep_rd r2)
  obtain ⟨b1, b2, b3, b4⟩ := nO_bad (hE ▸ he)
  unfold AnsN lapV at HN3
  rw [b1, b2, b3, b4, ← hE] at HN3
  have HN3 := Lib.hid HN3
  clear b1 b2 b3 b4 hE
  go_enter Try.func12, Try.ntmps12
  go_wp2_with first
    | (go_at_call 24; ((with_reducible refine (Lp.alive_ok _).mono ?_); rintro e w4 ⟨rfl, hb4⟩; have B4 := Lib.hid ((((Below.refl _ w).alloc (Nat.le_refl _) _).trans (hb4.mono (by simp)) : Below w.heap.size w w4)); have RA4 := Lib.hid (RA.out.below B4.out); obtain ⟨y0, y1, y2⟩ := box38 w (.slice a 256 cap) (.int .u8 s) (.int .u8 h); have X0 := (hb4.cell (p := ⟨w.heap.size, 0, none⟩) (by simp)).trans y0; have X1 := (hb4.cell (p := ⟨w.heap.size, 1, none⟩) (by simp)).trans y1; have X2 := (hb4.cell (p := ⟨w.heap.size, 2, none⟩) (by simp)).trans y2; have L4 : w.heap.size < w4.heap.size := Nat.lt_of_lt_of_le (by simp) hb4.size; clear y0 y1 y2 hb4))
  have HN1 := Lib.hid (fun (W : World) (m : Nat) (hW : Below w4.heap.size w4 W) r => HN0.out m W (RA4.out.below hW) r)
  have KEEP := Lib.hid (fun (W : World) (hW : Below w4.heap.size w4 W) => (⟨(hW.cell (p := ⟨w.heap.size, 0, none⟩) L4).trans X0, (hW.cell (p := ⟨w.heap.size, 1, none⟩) L4).trans X1, (hW.cell (p := ⟨w.heap.size, 2, none⟩) L4).trans X2, hW⟩ : W.cell? ⟨w.heap.size, 0, none⟩ = some (.slice a 256 cap) ∧ W.cell? ⟨w.heap.size, 1, none⟩ = some (.int .u8 s) ∧ W.cell? ⟨w.heap.size, 2, none⟩ = some (.int .u8 h) ∧ Below w4.heap.size w4 W))
  refine wp_forget (fun ac a' w' => ∃ g m g1 c1 g2 c2 : Nat, a' = ((((((((((((ac.put (some 29) (.agg #[.slice a 256 cap, .int .u8 s, .int .u8 h])).put (some 30) (.int .u8 q1)).put (some 31) (.int .u8 sh)).put (some 32) (.slice (some ⟨m, 0, none⟩) 256 256)).put (some 33) (.tuple #[.agg #[.slice (some ⟨g1, 0, none⟩) 256 c1, .int .u8 q1, .int .u8 sh], .slice (some ⟨g2, 0, none⟩) 256 c2, .int .i64 0])).put (some 28) (.tuple #[.agg #[.slice (some ⟨g1, 0, none⟩) 256 c1, .int .u8 q1, .int .u8 sh], .slice (some ⟨g2, 0, none⟩) 256 c2, .int .i64 0])).put (some 34) (.agg #[.slice (some ⟨g1, 0, none⟩) 256 c1, .int .u8 q1, .int .u8 sh])).put (some 35) (.slice (some ⟨g2, 0, none⟩) 256 c2)).put (some 36) (.int .i64 0)).put (some 10) (.pointer (some ⟨g, 0, none⟩))).put (some 11) (.slice (some ⟨g2, 0, none⟩) 256 c2)).put (some 12) (.int .i64 0)) ∧ Res w4 q1 sh T P1 g g1 c1 g2 c2 w') ?_ ?_
  · go_region_held3 (fun w' => w'.cell? ⟨w.heap.size, 0, none⟩ = some (.slice a 256 cap) ∧ w'.cell? ⟨w.heap.size, 1, none⟩ = some (.int .u8 s) ∧ w'.cell? ⟨w.heap.size, 2, none⟩ = some (.int .u8 h) ∧ Below w4.heap.size w4 w') (exact KEEP.out _ (by first | exact (Below.refl _ _).drew | exact ((‹_ ∧ _ ∧ _ ∧ Below _ _ _›).2.2.2).alloc ((‹_ ∧ _ ∧ _ ∧ Below _ _ _›).2.2.2).size _ | exact bt ((‹_ ∧ _ ∧ _ ∧ Below _ _ _›).2.2.2) BB.out | exact (bt (al1 _ _) BB.out).alloc (bt (al1 _ _) BB.out).size _ | exact bel3 _ _ _ ((‹_ ∧ _ ∧ _ ∧ Below _ _ _›).2.2.2) (by first | exact Nat.le_refl _ | exact Nat.le_succ _ | exact Nat.le_trans (al1 _ _).size BB.out.size))) ((go_at_call 22; ((with_reducible refine (HN1.out _ _ ((‹_ ∧ _ ∧ _ ∧ Below _ _ _›).2.2.2) (by first | exact (row_1 w4).of_block rfl | exact (row_2 w4).of_block rfl | exact (row_3 w4).of_block rfl)).mono ?_); rintro e w2 ⟨v, u, rfl, ho, hp, hb⟩; obtain ⟨g1, c1, rfl, hg1, hl1, _, _, hc1, _⟩ := own_open ho TL.out (by decide); obtain ⟨g2, c2, rfl, hg2, hl2, _, _, hc2, _⟩ := own_open hp PL1.out (by decide); have C1 := Lib.hid hc1; have C2 := Lib.hid hc2; have BB := Lib.hid hb; clear hc1 hc2 ho hp; dsimp only [lapV]; first | (have HG : w2.heap[w4.heap.size]? = _ := (BB.out.block _ (by simp <;> omega)).trans (at_1 w4); obtain ⟨f0, f1, f2, f3, f4, f5⟩ := cell_in HG; have HG2 := Lib.hid HG; clear HG) | (have HG : w2.heap[w4.heap.size + 1]? = _ := (BB.out.block _ (by simp <;> omega)).trans (at_2 w4); obtain ⟨f0, f1, f2, f3, f4, f5⟩ := cell_in HG; have HG2 := Lib.hid HG; clear HG) | skip)))
    all_goals
      first
        | exact ⟨rfl, w2.heap.size, w4.heap.size, g1, c1, g2, c2, (by first | rfl | simp only [Act.put, List.setIfInBounds_toArray, List.set_cons_zero, List.set_cons_succ]), res_b (bt (al1 _ _) BB.out) hl1 C1.out hl2 C2.out⟩
        | exact ⟨rfl, w4.heap.size + 1, w4.heap.size, g1, c1, g2, c2, (by first | rfl | simp only [Act.put, List.setIfInBounds_toArray, List.set_cons_zero, List.set_cons_succ]), res_a (al2 _ _ _) (Nat.le_succ _) (at_2 w4) BB.out hg1 hg2 hl1 C1.out hl2 C2.out⟩
        | exact ⟨rfl, w4.heap.size, w4.heap.size + 1, g1, c1, g2, c2, (by first | rfl | simp only [Act.put, List.setIfInBounds_toArray, List.set_cons_zero, List.set_cons_succ]), res_a (al2 _ _ _) (Nat.le_refl _) (at_1 w4) BB.out hg1 hg2 hl1 C1.out hl2 C2.out⟩
  rintro a' w5 ⟨G, M, B1, D1, B2, D2, rfl, hR⟩
  obtain ⟨_, G2, Y0, Y1, Y2, G3, k1, G4, k2, b5⟩ := hR
  have K1 := Lib.hid k1
  have K2 := Lib.hid k2
  have B5 := Lib.hid b5
  have X0 := (b5.cell (p := ⟨w.heap.size, 0, none⟩) L4).trans X0
  have RA5 := Lib.hid (RA4.out.below b5)
  have L5 : w.heap.size < w5.heap.size := Nat.lt_of_lt_of_le L4 b5.size
  clear k1 k2 b5 KEEP HN1 X1 X2
  simp only [Act.put, List.setIfInBounds_toArray, List.set_cons_zero, List.set_cons_succ]
  go_wp2_with fail
  have KEEP := Lib.hid (fun (W : World) (hW : Below w5.heap.size w5 W) => (⟨(hW.cell (p := ⟨G, 0, none⟩) G2).trans Y0, (hW.cell (p := ⟨G, 1, none⟩) G2).trans Y1, (hW.cell (p := ⟨G, 2, none⟩) G2).trans Y2, hW⟩ : W.cell? ⟨G, 0, none⟩ = some (.slice (some ⟨B1, 0, none⟩) 256 D1) ∧ W.cell? ⟨G, 1, none⟩ = some (.int .u8 q1) ∧ W.cell? ⟨G, 2, none⟩ = some (.int .u8 sh) ∧ Below w5.heap.size w5 W))
  have HN2 := Lib.hid (fun (W : World) (m : Nat) (hW : Below w5.heap.size w5 W) r => HN3.out B1 D1 m W ((cells_rd G3 TL.out K1.out).below hW) r)
  refine wp_forget (fun ac a' w' => ∃ (g m : Nat) (a1 : Option Addr) (c1 : Nat) (a2 : Option Addr) (c2 : Nat), a' = ((((((((((((ac.put (some 46) (.agg #[.slice (some ⟨B1, 0, none⟩) 256 D1, .int .u8 q1, .int .u8 sh])).put (some 47) (.int .u8 q2)).put (some 48) (.int .u8 sh)).put (some 49) (.slice (some ⟨m, 0, none⟩) 256 256)).put (some 50) (.tuple #[.agg #[.slice a1 0 c1, .int .u8 0, .int .u8 0], .slice a2 0 c2, .int .i64 E])).put (some 45) (.tuple #[.agg #[.slice a1 0 c1, .int .u8 0, .int .u8 0], .slice a2 0 c2, .int .i64 E])).put (some 51) (.agg #[.slice a1 0 c1, .int .u8 0, .int .u8 0])).put (some 52) (.slice a2 0 c2)).put (some 53) (.int .i64 E)).put (some 13) (.pointer (some ⟨g, 0, none⟩))).put (some 14) (.slice a2 0 c2)).put (some 15) (.int .i64 E)) ∧ Below w5.heap.size w5 w') ?_ ?_
  · go_region_held3 (fun w' => w'.cell? ⟨G, 0, none⟩ = some (.slice (some ⟨B1, 0, none⟩) 256 D1) ∧ w'.cell? ⟨G, 1, none⟩ = some (.int .u8 q1) ∧ w'.cell? ⟨G, 2, none⟩ = some (.int .u8 sh) ∧ Below w5.heap.size w5 w') (exact KEEP.out _ (by first | exact (Below.refl _ _).drew | exact ((‹_ ∧ _ ∧ _ ∧ Below _ _ _›).2.2.2).alloc ((‹_ ∧ _ ∧ _ ∧ Below _ _ _›).2.2.2).size _ | exact bt ((‹_ ∧ _ ∧ _ ∧ Below _ _ _›).2.2.2) BB.out | exact (bt (al1 _ _) BB.out).alloc (bt (al1 _ _) BB.out).size _ | exact bel3 _ _ _ ((‹_ ∧ _ ∧ _ ∧ Below _ _ _›).2.2.2) (by first | exact Nat.le_refl _ | exact Nat.le_succ _ | exact Nat.le_trans (al1 _ _).size BB.out.size))) ((go_at_call 22; ((with_reducible refine (HN2.out _ _ ((‹_ ∧ _ ∧ _ ∧ Below _ _ _›).2.2.2) (by first | exact (row_1 w5).of_block rfl | exact (row_2 w5).of_block rfl | exact (row_3 w5).of_block rfl)).mono ?_); rintro e w2 ⟨v, u, rfl, ho, hp, hb⟩; obtain ⟨a1, c1, ev⟩ := own_shape ho; obtain rfl : v = .slice a1 0 c1 := ev; obtain ⟨a2, c2, eu⟩ := own_shape hp; obtain rfl : u = .slice a2 0 c2 := eu; have BB := Lib.hid hb; clear ho hp; dsimp only [lapV]; first | (have HG : w2.heap[w5.heap.size]? = _ := (BB.out.block _ (by simp <;> omega)).trans (at_1 w5); obtain ⟨f0, f1, f2, f3, f4, f5⟩ := cell_in HG; have HG2 := Lib.hid HG; clear HG) | (have HG : w2.heap[w5.heap.size + 1]? = _ := (BB.out.block _ (by simp <;> omega)).trans (at_2 w5); obtain ⟨f0, f1, f2, f3, f4, f5⟩ := cell_in HG; have HG2 := Lib.hid HG; clear HG) | skip)))
    all_goals
      first
        | exact ⟨rfl, w2.heap.size, w5.heap.size, a1, c1, a2, c2, (by first | rfl | simp only [Act.put, List.setIfInBounds_toArray, List.set_cons_zero, List.set_cons_succ]), (‹_ ∧ _ ∧ _ ∧ Below _ _ _›).2.2.2⟩
        | exact ⟨rfl, w5.heap.size + 1, w5.heap.size, a1, c1, a2, c2, (by first | rfl | simp only [Act.put, List.setIfInBounds_toArray, List.set_cons_zero, List.set_cons_succ]), (‹_ ∧ _ ∧ _ ∧ Below _ _ _›).2.2.2⟩
        | exact ⟨rfl, w5.heap.size, w5.heap.size + 1, a1, c1, a2, c2, (by first | rfl | simp only [Act.put, List.setIfInBounds_toArray, List.set_cons_zero, List.set_cons_succ]), (‹_ ∧ _ ∧ _ ∧ Below _ _ _›).2.2.2⟩
  rintro a' w6 ⟨g, m, a1, c1, a2, c2, rfl, hB⟩
  have B6 := Lib.hid (bt (bt B4.out B5.out) hB)
  clear hB
  simp only [Act.put, List.setIfInBounds_toArray, List.set_cons_zero, List.set_cons_succ]
  go_wp2
  go_ret
  exact ⟨rfl, B6.out⟩
set_option maxRecDepth 100000 in
set_option maxHeartbeats 8000000 in
theorem good (a : Option Addr) (cap : Nat) (xs : List Int) (s h q1 q2 sh : Int) (w : World) (RA : RdA w a xs) (s0 : 0 ≤ s) (h0 : 0 ≤ h) (p1 : 0 ≤ q1) (p2 : 0 ≤ q2) (p3 : 0 ≤ sh) (lm : LapOK xs s h ∧ May q1 h sh) (hq : q2 ≤ 3) :
    Calls Try.prog 12 #[.agg #[.slice a 256 cap, .int .u8 s, .int .u8 h], .int .u8 q1, .int .u8 q2, .int .u8 sh] w fun e w' => e = .returned (.bool true) ∧ Below w.heap.size w w' := by
  obtain ⟨i0, hi, hz0, hz1, hz2⟩ := info_parts Fx.info3
  have HMK : ∀ w : World, (Instr.makeSlice 22 (.int .i64 256) (.int .i64 256)).run Try.prog w = .ok (.slice (some ⟨w.heap.size, 0, none⟩) 256 256) (w.alloc (.cells (madeCells #[.int .i64 0] 256) 3)) := fun w => run_make_row (P := Try.prog) 22 3 i0 (.int .i64 0) Try.underlying22 hi hz0 hz1 rfl .i64 .i64 256 (by rw [hz2]; omega) (by omega) w
  obtain ⟨e1, e2⟩ := lm
  have hx := e1.1
  have e3 := nO_q e1 e2
  have HN0 := fun (m : Nat) (W : World) (r : RdA W a xs) (r2 : W.rowIs m 3 256 (fun _ => .int .i64 0)) => next_O a (some ⟨m, 0, none⟩) 256 cap 256 256 xs (zeros 256) s h q1 sh W p1 h0 p3 hx r (zeros_len _) (Nat.le_refl _) (by unfold maxLen; omega) (rep_rd r2)
  rw [e3] at HN0
  unfold AnsN lapV at HN0
  obtain ⟨T, hT⟩ : ∃ T, T = mk 256 (fun _ => (0 : Int)) := ⟨_, rfl⟩
  obtain ⟨P1, hP1⟩ : ∃ P, P = mk 256 (fun n => clp (rnd (xs.getD n 0) 4) 16) := ⟨_, rfl⟩
  dsimp only at HN0
  rw [← hT, ← hP1] at HN0
  have TL := Lib.hid (show T.length = 256 by rw [hT]; exact mk_len _ _)
  have PL1 := Lib.hid (show P1.length = 256 by rw [hP1]; exact mk_len _ _)
  have HN0 := Lib.hid HN0
  have RA := Lib.hid RA
  have EX := Lib.hid e1
  have HT := Lib.hid hT
  have HP1 := Lib.hid hP1
  have ME := Lib.hid e2
  clear e1 e2 e3 hx hT hP1
  have HN3 := fun (g c m : Nat) (W : World) (r : RdA W (some ⟨g, 0, none⟩) T) (r2 : W.rowIs m 3 256 (fun _ => .int .i64 0)) => next_O (some ⟨g, 0, none⟩) (some ⟨m, 0, none⟩) 256 c 256 256 T (zeros 256) q1 sh q2 sh W p2 p3 p3 TL.out r (zeros_len _) (Nat.le_refl _) (by unfold maxLen; omega) (rep_rd r2)
  have e3 := nO_q (lap_mkz ME.out.1 ME.out.2.2) (show May q2 sh sh from ⟨hq, ME.out.2.2, ME.out.2.2⟩)
  rw [← HT.out] at e3
  obtain ⟨P2, hP2⟩ : ∃ P, P = mk 256 (fun n => clp (rnd (T.getD n 0) 4) 16) := ⟨_, rfl⟩
  rw [← hP2] at e3
  rw [e3] at HN3
  unfold AnsN lapV at HN3
  dsimp only at HN3
  have PL2 := Lib.hid (show P2.length = 256 by rw [hP2]; exact mk_len _ _)
  have HP2 := Lib.hid hP2
  have HN3 := Lib.hid HN3
  clear e3 hP2 hq
  go_enter Try.func12, Try.ntmps12
  go_wp2_with first
    | (go_at_call 24; ((with_reducible refine (Lp.alive_ok _).mono ?_); rintro e w4 ⟨rfl, hb4⟩; have B4 := Lib.hid ((((Below.refl _ w).alloc (Nat.le_refl _) _).trans (hb4.mono (by simp)) : Below w.heap.size w w4)); have RA4 := Lib.hid (RA.out.below B4.out); obtain ⟨y0, y1, y2⟩ := box38 w (.slice a 256 cap) (.int .u8 s) (.int .u8 h); have X0 := (hb4.cell (p := ⟨w.heap.size, 0, none⟩) (by simp)).trans y0; have X1 := (hb4.cell (p := ⟨w.heap.size, 1, none⟩) (by simp)).trans y1; have X2 := (hb4.cell (p := ⟨w.heap.size, 2, none⟩) (by simp)).trans y2; have L4 : w.heap.size < w4.heap.size := Nat.lt_of_lt_of_le (by simp) hb4.size; clear y0 y1 y2 hb4))
  have HN1 := Lib.hid (fun (W : World) (m : Nat) (hW : Below w4.heap.size w4 W) r => HN0.out m W (RA4.out.below hW) r)
  have KEEP := Lib.hid (fun (W : World) (hW : Below w4.heap.size w4 W) => (⟨(hW.cell (p := ⟨w.heap.size, 0, none⟩) L4).trans X0, (hW.cell (p := ⟨w.heap.size, 1, none⟩) L4).trans X1, (hW.cell (p := ⟨w.heap.size, 2, none⟩) L4).trans X2, hW⟩ : W.cell? ⟨w.heap.size, 0, none⟩ = some (.slice a 256 cap) ∧ W.cell? ⟨w.heap.size, 1, none⟩ = some (.int .u8 s) ∧ W.cell? ⟨w.heap.size, 2, none⟩ = some (.int .u8 h) ∧ Below w4.heap.size w4 W))
  refine wp_forget (fun ac a' w' => ∃ g m g1 c1 g2 c2 : Nat, a' = ((((((((((((ac.put (some 29) (.agg #[.slice a 256 cap, .int .u8 s, .int .u8 h])).put (some 30) (.int .u8 q1)).put (some 31) (.int .u8 sh)).put (some 32) (.slice (some ⟨m, 0, none⟩) 256 256)).put (some 33) (.tuple #[.agg #[.slice (some ⟨g1, 0, none⟩) 256 c1, .int .u8 q1, .int .u8 sh], .slice (some ⟨g2, 0, none⟩) 256 c2, .int .i64 0])).put (some 28) (.tuple #[.agg #[.slice (some ⟨g1, 0, none⟩) 256 c1, .int .u8 q1, .int .u8 sh], .slice (some ⟨g2, 0, none⟩) 256 c2, .int .i64 0])).put (some 34) (.agg #[.slice (some ⟨g1, 0, none⟩) 256 c1, .int .u8 q1, .int .u8 sh])).put (some 35) (.slice (some ⟨g2, 0, none⟩) 256 c2)).put (some 36) (.int .i64 0)).put (some 10) (.pointer (some ⟨g, 0, none⟩))).put (some 11) (.slice (some ⟨g2, 0, none⟩) 256 c2)).put (some 12) (.int .i64 0)) ∧ Res w4 q1 sh T P1 g g1 c1 g2 c2 w') ?_ ?_
  · go_region_held3 (fun w' => w'.cell? ⟨w.heap.size, 0, none⟩ = some (.slice a 256 cap) ∧ w'.cell? ⟨w.heap.size, 1, none⟩ = some (.int .u8 s) ∧ w'.cell? ⟨w.heap.size, 2, none⟩ = some (.int .u8 h) ∧ Below w4.heap.size w4 w') (exact KEEP.out _ (by first | exact (Below.refl _ _).drew | exact ((‹_ ∧ _ ∧ _ ∧ Below _ _ _›).2.2.2).alloc ((‹_ ∧ _ ∧ _ ∧ Below _ _ _›).2.2.2).size _ | exact bt ((‹_ ∧ _ ∧ _ ∧ Below _ _ _›).2.2.2) BB.out | exact (bt (al1 _ _) BB.out).alloc (bt (al1 _ _) BB.out).size _ | exact bel3 _ _ _ ((‹_ ∧ _ ∧ _ ∧ Below _ _ _›).2.2.2) (by first | exact Nat.le_refl _ | exact Nat.le_succ _ | exact Nat.le_trans (al1 _ _).size BB.out.size))) ((go_at_call 22; ((with_reducible refine (HN1.out _ _ ((‹_ ∧ _ ∧ _ ∧ Below _ _ _›).2.2.2) (by first | exact (row_1 w4).of_block rfl | exact (row_2 w4).of_block rfl | exact (row_3 w4).of_block rfl)).mono ?_); rintro e w2 ⟨v, u, rfl, ho, hp, hb⟩; obtain ⟨g1, c1, rfl, hg1, hl1, _, _, hc1, _⟩ := own_open ho TL.out (by decide); obtain ⟨g2, c2, rfl, hg2, hl2, _, _, hc2, _⟩ := own_open hp PL1.out (by decide); have C1 := Lib.hid hc1; have C2 := Lib.hid hc2; have BB := Lib.hid hb; clear hc1 hc2 ho hp; dsimp only [lapV]; first | (have HG : w2.heap[w4.heap.size]? = _ := (BB.out.block _ (by simp <;> omega)).trans (at_1 w4); obtain ⟨f0, f1, f2, f3, f4, f5⟩ := cell_in HG; have HG2 := Lib.hid HG; clear HG) | (have HG : w2.heap[w4.heap.size + 1]? = _ := (BB.out.block _ (by simp <;> omega)).trans (at_2 w4); obtain ⟨f0, f1, f2, f3, f4, f5⟩ := cell_in HG; have HG2 := Lib.hid HG; clear HG) | skip)))
    all_goals
      first
        | exact ⟨rfl, w2.heap.size, w4.heap.size, g1, c1, g2, c2, (by first | rfl | simp only [Act.put, List.setIfInBounds_toArray, List.set_cons_zero, List.set_cons_succ]), res_b (bt (al1 _ _) BB.out) hl1 C1.out hl2 C2.out⟩
        | exact ⟨rfl, w4.heap.size + 1, w4.heap.size, g1, c1, g2, c2, (by first | rfl | simp only [Act.put, List.setIfInBounds_toArray, List.set_cons_zero, List.set_cons_succ]), res_a (al2 _ _ _) (Nat.le_succ _) (at_2 w4) BB.out hg1 hg2 hl1 C1.out hl2 C2.out⟩
        | exact ⟨rfl, w4.heap.size, w4.heap.size + 1, g1, c1, g2, c2, (by first | rfl | simp only [Act.put, List.setIfInBounds_toArray, List.set_cons_zero, List.set_cons_succ]), res_a (al2 _ _ _) (Nat.le_refl _) (at_1 w4) BB.out hg1 hg2 hl1 C1.out hl2 C2.out⟩
  rintro a' w5 ⟨G, M, B1, D1, B2, D2, rfl, hR⟩
  obtain ⟨_, G2, Y0, Y1, Y2, G3, k1, G4, k2, b5⟩ := hR
  have K1 := Lib.hid k1
  have K2 := Lib.hid k2
  have B5 := Lib.hid b5
  have X0 := (b5.cell (p := ⟨w.heap.size, 0, none⟩) L4).trans X0
  have RA5 := Lib.hid (RA4.out.below b5)
  have L5 : w.heap.size < w5.heap.size := Nat.lt_of_lt_of_le L4 b5.size
  clear k1 k2 b5 KEEP HN1 X1 X2
  simp only [Act.put, List.setIfInBounds_toArray, List.set_cons_zero, List.set_cons_succ]
  go_wp2_with fail
  have KEEP := Lib.hid (fun (W : World) (hW : Below w5.heap.size w5 W) => (⟨(hW.cell (p := ⟨G, 0, none⟩) G2).trans Y0, (hW.cell (p := ⟨G, 1, none⟩) G2).trans Y1, (hW.cell (p := ⟨G, 2, none⟩) G2).trans Y2, hW⟩ : W.cell? ⟨G, 0, none⟩ = some (.slice (some ⟨B1, 0, none⟩) 256 D1) ∧ W.cell? ⟨G, 1, none⟩ = some (.int .u8 q1) ∧ W.cell? ⟨G, 2, none⟩ = some (.int .u8 sh) ∧ Below w5.heap.size w5 W))
  have HN2 := Lib.hid (fun (W : World) (m : Nat) (hW : Below w5.heap.size w5 W) r => HN3.out B1 D1 m W ((cells_rd G3 TL.out K1.out).below hW) r)
  refine wp_forget (fun ac a' w' => ∃ g m g1 c1 g2 c2 : Nat, a' = ((((((((((((ac.put (some 46) (.agg #[.slice (some ⟨B1, 0, none⟩) 256 D1, .int .u8 q1, .int .u8 sh])).put (some 47) (.int .u8 q2)).put (some 48) (.int .u8 sh)).put (some 49) (.slice (some ⟨m, 0, none⟩) 256 256)).put (some 50) (.tuple #[.agg #[.slice (some ⟨g1, 0, none⟩) 256 c1, .int .u8 q2, .int .u8 sh], .slice (some ⟨g2, 0, none⟩) 256 c2, .int .i64 0])).put (some 45) (.tuple #[.agg #[.slice (some ⟨g1, 0, none⟩) 256 c1, .int .u8 q2, .int .u8 sh], .slice (some ⟨g2, 0, none⟩) 256 c2, .int .i64 0])).put (some 51) (.agg #[.slice (some ⟨g1, 0, none⟩) 256 c1, .int .u8 q2, .int .u8 sh])).put (some 52) (.slice (some ⟨g2, 0, none⟩) 256 c2)).put (some 53) (.int .i64 0)).put (some 13) (.pointer (some ⟨g, 0, none⟩))).put (some 14) (.slice (some ⟨g2, 0, none⟩) 256 c2)).put (some 15) (.int .i64 0)) ∧ Res w5 q2 sh T P2 g g1 c1 g2 c2 w') ?_ ?_
  · go_region_held3 (fun w' => w'.cell? ⟨G, 0, none⟩ = some (.slice (some ⟨B1, 0, none⟩) 256 D1) ∧ w'.cell? ⟨G, 1, none⟩ = some (.int .u8 q1) ∧ w'.cell? ⟨G, 2, none⟩ = some (.int .u8 sh) ∧ Below w5.heap.size w5 w') (exact KEEP.out _ (by first | exact (Below.refl _ _).drew | exact ((‹_ ∧ _ ∧ _ ∧ Below _ _ _›).2.2.2).alloc ((‹_ ∧ _ ∧ _ ∧ Below _ _ _›).2.2.2).size _ | exact bt ((‹_ ∧ _ ∧ _ ∧ Below _ _ _›).2.2.2) BB.out | exact (bt (al1 _ _) BB.out).alloc (bt (al1 _ _) BB.out).size _ | exact bel3 _ _ _ ((‹_ ∧ _ ∧ _ ∧ Below _ _ _›).2.2.2) (by first | exact Nat.le_refl _ | exact Nat.le_succ _ | exact Nat.le_trans (al1 _ _).size BB.out.size))) ((go_at_call 22; ((with_reducible refine (HN2.out _ _ ((‹_ ∧ _ ∧ _ ∧ Below _ _ _›).2.2.2) (by first | exact (row_1 w5).of_block rfl | exact (row_2 w5).of_block rfl | exact (row_3 w5).of_block rfl)).mono ?_); rintro e w2 ⟨v, u, rfl, ho, hp, hb⟩; obtain ⟨g1, c1, rfl, hg1, hl1, _, _, hc1, _⟩ := own_open ho TL.out (by decide); obtain ⟨g2, c2, rfl, hg2, hl2, _, _, hc2, _⟩ := own_open hp PL2.out (by decide); have C1 := Lib.hid hc1; have C2 := Lib.hid hc2; have BB := Lib.hid hb; clear hc1 hc2 ho hp; dsimp only [lapV]; first | (have HG : w2.heap[w5.heap.size]? = _ := (BB.out.block _ (by simp <;> omega)).trans (at_1 w5); obtain ⟨f0, f1, f2, f3, f4, f5⟩ := cell_in HG; have HG2 := Lib.hid HG; clear HG) | (have HG : w2.heap[w5.heap.size + 1]? = _ := (BB.out.block _ (by simp <;> omega)).trans (at_2 w5); obtain ⟨f0, f1, f2, f3, f4, f5⟩ := cell_in HG; have HG2 := Lib.hid HG; clear HG) | skip)))
    all_goals
      first
        | exact ⟨rfl, w2.heap.size, w5.heap.size, g1, c1, g2, c2, (by first | rfl | simp only [Act.put, List.setIfInBounds_toArray, List.set_cons_zero, List.set_cons_succ]), res_b (bt (al1 _ _) BB.out) hl1 C1.out hl2 C2.out⟩
        | exact ⟨rfl, w5.heap.size + 1, w5.heap.size, g1, c1, g2, c2, (by first | rfl | simp only [Act.put, List.setIfInBounds_toArray, List.set_cons_zero, List.set_cons_succ]), res_a (al2 _ _ _) (Nat.le_succ _) (at_2 w5) BB.out hg1 hg2 hl1 C1.out hl2 C2.out⟩
        | exact ⟨rfl, w5.heap.size, w5.heap.size + 1, g1, c1, g2, c2, (by first | rfl | simp only [Act.put, List.setIfInBounds_toArray, List.set_cons_zero, List.set_cons_succ]), res_a (al2 _ _ _) (Nat.le_refl _) (at_1 w5) BB.out hg1 hg2 hl1 C1.out hl2 C2.out⟩
  rintro a' w6 ⟨G', M', E1, F1, E2, F2, rfl, hR⟩
  obtain ⟨_, g2, Z0, Z1, Z2, g3, k3, g4, k4, b6⟩ := hR
  have K3 := Lib.hid k3
  have K4 := Lib.hid k4
  have K5 := Lib.hid (fun j (hj : j < 256) => (b6.cell (p := ⟨B1, j, none⟩) G3).trans (K1.out j hj))
  have K6 := Lib.hid (fun j (hj : j < 256) => (b6.cell (p := ⟨B2, j, none⟩) G4).trans (K2.out j hj))
  have X0 := (b6.cell (p := ⟨w.heap.size, 0, none⟩) L5).trans X0
  have Y0 := (b6.cell (p := ⟨G, 0, none⟩) G2).trans Y0
  have RA6 := Lib.hid (RA5.out.below b6)
  have sz := b6.size
  have B6 := Lib.hid (bt (bt B4.out B5.out) b6)
  have l0 := Nat.lt_of_lt_of_le L5 sz
  have l1 := Nat.lt_of_lt_of_le G2 sz
  have l2 := Nat.lt_of_lt_of_le G3 sz
  have l3 := Nat.lt_of_lt_of_le G4 sz
  clear k3 k4 b6 sz KEEP HN2 Y1 Y2 Z1 Z2 K1 K2 RA5 RA4 B5 B4 HN0 HN3 RA L4 L5 G2 G3 G4
  simp only [Act.put, List.setIfInBounds_toArray, List.set_cons_zero, List.set_cons_succ]
  go_wp2
  go_loopw [16, 17] (fun i _ wq => ∃ k : Nat, k ≤ 256 ∧ i = .int .i64 k ∧ Hid (Below w6.heap.size w6 wq)) (fun i _ _ => 256 - (intOf i).toNat)
  case atStart => exact ⟨0, by omega, rfl, Lib.hid (Below.refl _ _)⟩
  case round =>
    obtain ⟨k, hk, rfl, hB⟩ := hrel
    by_cases hlt : k < 256
    · obtain ⟨b, off, rfl, lb, r0⟩ := RA6.out k (by rw [EX.out.1]; exact hlt)
      have r0 := (hB.out.cell (p := ⟨b, off + k, none⟩) lb).trans r0
      have r1 := (hB.out.cell (p := ⟨w.heap.size, 0, none⟩) l0).trans X0
      have r2 := (hB.out.cell (p := ⟨G, 0, none⟩) l1).trans Y0
      have r3 := (hB.out.cell (p := ⟨G', 0, none⟩) g2).trans Z0
      have r4 := (hB.out.cell (p := ⟨B1, k, none⟩) l2).trans (K5.out k hlt)
      have r5 := (hB.out.cell (p := ⟨B2, k, none⟩) l3).trans (K6.out k hlt)
      have r6 := (hB.out.cell (p := ⟨E1, k, none⟩) g3).trans (K3.out k hlt)
      have r7 := (hB.out.cell (p := ⟨E2, k, none⟩) g4).trans (K4.out k hlt)
      rw [HP2.out, mk_at hlt, HT.out, mkz_at, clp_zero] at r7
      rw [HP1.out, mk_at hlt, clp_r] at r5
      rw [HT.out, mkz_at] at r4 r6
      obtain ⟨y0, y1⟩ := EX.out.2.2.2 k (by rw [EX.out.1]; exact hlt)
      generalize xs.getD k 0 = X at *
      clear X0 Y0 Z0
      go_wp2
      go_roundw
      case rel => exact ⟨k + 1, by omega, by go_num, hB⟩
      case measure => simp [intOf]; omega
    · obtain rfl : k = 256 := by omega
      have B7 := Lib.hid (bt B6.out hB.out)
      go_wp2
      go_ret
      exact ⟨rfl, B7.out⟩

set_option maxRecDepth 100000 in
set_option maxHeartbeats 8000000 in
theorem walk (a : Option Addr) (len cap : Nat) (z : List Int) (s h q1 q2 sh : Int) (w : World) (wr : IsRow .i64 w a len cap z) (ws : (Lit.int .u8 s).wf = true) (wh : (Lit.int .u8 h).wf = true) (w1 : (Lit.int .u8 q1).wf = true) (w2 : (Lit.int .u8 q2).wf = true) (w3 : (Lit.int .u8 sh).wf = true) :
    Calls Try.prog 12 #[.agg #[.slice a len cap, .int .u8 s, .int .u8 h], .int .u8 q1, .int .u8 q2, .int .u8 sh] w fun e w' => e = .returned (.bool true) ∧ Below w.heap.size w w' := by
  obtain ⟨xs, hx, RA, _, _⟩ := row_all wr
  subst hx
  have ws := u8_lo ws
  have wh := u8_lo wh
  have w1 := u8_lo w1
  have w2 := u8_lo w2
  have w3 := u8_lo w3
  by_cases hl : xs.length ≤ 1000
  · by_cases he : (nO xs s h q1 sh (zeros 256)).err = 0
    · have q := nO_err he
      have lm : LapOK xs s h ∧ May q1 h sh := ⟨q.1, q.2.1⟩
      have hx := q.1.1
      rw [hx]
      by_cases h3 : q2 ≤ 3
      · exact good a cap xs s h q1 q2 sh w RA ws wh w1 w2 w3 lm h3
      · exact bad2 a cap xs s h q1 q2 sh w RA ws wh w1 w2 w3 lm (by omega)
    · exact bad1 a cap xs s h q1 q2 sh w RA ws wh w1 w2 w3 hl he
  · exact far a cap xs s h q1 q2 sh w RA ws wh w1 w2 w3 (by omega)

theorem own : ownKnob Try.prog.godebug = none := by kernel_rfl
theorem laidOut : laidOutB Try.prog = true := by kernel_rfl
set_option linter.unusedVariables false
set_option maxRecDepth 100000 in
theorem lifted (os : Os) (started : os.Started) (H : Type) (enc : TypeId × Value → H) :
    ReturnsInHanded {} Try.checked os 12 .any (Rows.lapQuietSpec.pre6 enc Try.prog Try.f12 Rows.lapQuietRow.domain false) (Rows.lapQuietSpec.post enc Try.prog Try.f12 false true false false) := by
  refine returnsInHanded_of_change (C := Try.checked) own started (by kernel_rfl) Try.func12
    (ChangeSpec.witness6 (enc := enc) (C := Try.checked) false ⟨#[], #[.agg #[.slice none 0 0, .int .u8 0, .int .u8 0], .int .u8 0, .int .u8 0, .int .u8 0], []⟩ 8 (by kernel_rfl) (by kernel_rfl) (by kernel_rfl) (by kernel_rfl)) ?_
  intro W base args ds gs before hval0 hW hcnd _
  have hval : ∀ (j : Nat) t v, Try.f12.params[j]? = some t → args[j]? = some v → Value.okWide Try.prog W .any base t v := hval0
  have hW' := hW
  obtain ⟨p, q, hA0, hV, rfl, hfz, hnd⟩ := hW
  have hA : DataW.TrodAll enc Try.prog W 0 (fun _ => true) true Try.f12.params.toList args.toList ds p := hA0
  rw [Try.params12] at hA hval
  obtain ⟨v0, vs0, d0, ds0, p0, q0, hargs, rfl, rfl, h0, r0⟩ := trodAll_cons hA
  obtain ⟨v1, vs1, d1, ds1, p1, q1, rfl, rfl, rfl, h1, r1⟩ := trodAll_cons r0
  obtain ⟨v2, vs2, d2, ds2, p2, q2, rfl, rfl, rfl, h2, r2⟩ := trodAll_cons r1
  obtain ⟨v3, vs3, d3, ds3, p3, q3, rfl, rfl, rfl, h3, r3⟩ := trodAll_cons r2
  obtain ⟨rfl, rfl, rfl⟩ := trodAll_nil r3
  obtain rfl : args = #[v0, v1, v2, v3] := by cases args; simp_all
  obtain ⟨rfl, rfl⟩ := trodVars_none hV
  have k0 := h0
  have lt0 : ∀ x ∈ p0, x.block < W.heap.size := by obtain ⟨m, hm⟩ := k0; exact DataW.trod_lt m _ _ _ hm
  obtain ⟨a0, len0, cap0, z0, a0s, a0h, rfl, w0, w0s, w0h⟩ := open_lap Try.underlying38 rfl rfl rfl Try.underlying22 Try.underlying5 Try.underlying5 Try.underlying3 (by kernel_rfl) (by kernel_rfl) (by kernel_rfl) (by kernel_rfl) (by kernel_rfl) (hval 0 38 v0 rfl rfl) h0
  obtain ⟨a1, rfl, rfl, rfl, w1⟩ := open_int Try.underlying5 (hval 1 5 v1 rfl rfl) h1
  obtain ⟨a2, rfl, rfl, rfl, w2⟩ := open_int Try.underlying5 (hval 2 5 v2 rfl rfl) h2
  obtain ⟨a3, rfl, rfl, rfl, w3⟩ := open_int Try.underlying5 (hval 3 5 v3 rfl rfl) h3
  clear hA0 hval0
  refine (walk a0 len0 cap0 z0 a0s a0h a1 a2 a3 W w0 w0s w0h w1 w2 w3).mono fun e W' ⟨he, bel⟩ => ?_
  subst he
  exact ⟨_, rfl, _, _, _, [], _, [], hW', trodAll_mk1 (shut_bool Try.underlying4 _), (trodAll_cons_mk (Below.trod laidOut (by kernel_rfl) (of_decide_eq_true (by kernel_rfl)) k0 bel lt0) (trodAll_cons_mk (shut_int Try.underlying5 w1) (trodAll_cons_mk (shut_int Try.underlying5 w2) (trodAll_cons_mk (shut_int Try.underlying5 w3) trodAll_mk0)))), rfl, bel.frame _, fun h => by cases h⟩

theorem over : Rows.lapQuietRow.holds Try.pinned (OpenSpec.ofChange Rows.lapQuietSpec) :=
  OpenClaim.holds_of_wide 12 Try.f12 rfl rfl rfl rfl rfl rfl rfl ⟨rfl, rfl, rfl, rfl, rfl⟩ rfl rfl rfl rfl rfl (by kernel_rfl) Try.func12 (by kernel_rfl)
    (of_decide_eq_true (by kernel_rfl)) (by unfold Func.isWrapper; first | (rw [if_pos (by decide +kernel)]; kernel_rfl) | (rw [if_neg (by decide +kernel)]; exact ⟨rfl, rfl⟩))
    (fun os started H enc _ => lifted os started H enc)

theorem proved : Rows.LapQuietSaid := over
end Go.Proofs.Yteknakakefhbmaa.lapQuiet
