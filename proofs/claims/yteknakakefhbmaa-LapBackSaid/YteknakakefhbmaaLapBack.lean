/- Samples that are analysed frame by frame, over any sequences that may follow one another, and lapped, come out a frame later, to 2 at most. LapBack returns true, whatever the arguments, the memory and the schedule. No condition. -/
import Derived.Test.YteknakakefhbmaaLbPath
import Derived.Deep.RegionHeld3
import Derived.WalkKit
import Derived.Below
import Derived.RegionTactic
import Derived.Deep.QuietTactic
import Derived.BigQuiet
import Derived.ChangeAlike
import Derived.Deep.OwnRows
import Derived.Deep.RegionLaw
import Derived.ProofKit
import Derived.OpenShut
import Derived.ChangeSlices
import Derived.Lib.Hide
import Derived.Great.Walk
import Derived.ChangeKeysEq
import Derived.ChangeOld
import Derived.ShutString
namespace Go.Proofs.Yteknakakefhbmaa.lapBack
open Go Go.ChangeShapes Go.WideShapes Go.ChangeAt Go.RowKit Go.Proofs.Yteknakakefhbmaa.Fx Go.Proofs.Yteknakakefhbmaa.Rk Go.Proofs.Yteknakakefhbmaa.Mm Go.Proofs.Yteknakakefhbmaa.Md Go.Proofs.Yteknakakefhbmaa.Bl Go.Proofs.Yteknakakefhbmaa.Lp Go.Proofs.Yteknakakefhbmaa.Cpy Go.Proofs.Yteknakakefhbmaa.Lb

/-- A region forgets what its order was. -/
theorem wp_forget {P : Program} {c : Code} {Q : Exit → Act → World → Prop} {a : Act} {w : World} (R : Act → Act → World → Prop) (h : c.wp P (fun e a' w' => e = .normal ∧ R a a' w') a w) (k : ∀ a' w', R a a' w' → Q .normal a' w') : c.wp P Q a w :=
  Code.wp_mono (fun e a' w' q => by obtain ⟨rfl, q⟩ := q; exact k a' w' q) h
/-- What overlaps, in a cell of its own. -/
def Res (w0 : World) (q sh : Int) (T P : List Int) (g g1 c1 g2 c2 : Nat) (w' : World) : Prop :=
  w0.heap.size ≤ g ∧ g < w'.heap.size ∧ w'.cell? ⟨g, 0, none⟩ = some (.slice (some ⟨g1, 0, none⟩) 256 c1) ∧ w'.cell? ⟨g, 1, none⟩ = some (.int .u8 q) ∧ w'.cell? ⟨g, 2, none⟩ = some (.int .u8 sh) ∧
  g1 < w'.heap.size ∧ (∀ j, j < 256 → w'.cell? ⟨g1, j, none⟩ = some (.int .i64 (T.getD j 0))) ∧ g2 < w'.heap.size ∧ (∀ j, j < 256 → w'.cell? ⟨g2, j, none⟩ = some (.int .i64 (P.getD j 0))) ∧ Below w0.heap.size w0 w'
theorem cell_3 {w : World} {a b j : Nat} (p q r : Value) (h : a ≠ b) : (((w.setCell ⟨a, 0, none⟩ p).setCell ⟨a, 1, none⟩ q).setCell ⟨a, 2, none⟩ r).cell? ⟨b, j, none⟩ = w.cell? ⟨b, j, none⟩ := (cell_oth r h).trans ((cell_oth q h).trans (cell_oth p h))
theorem res_c {w0 X : World} {q sh : Int} {T P : List Int} {g g1 c1 g2 c2 : Nat} {x y z : Value} (hX : X.heap[g]? = some (.cells #[x, y, z] 38 (0, 0))) (h0 : Below w0.heap.size w0 X) (hg : w0.heap.size ≤ g) (n1 : g ≠ g1) (n2 : g ≠ g2) (l1 : g1 < X.heap.size) (k1 : ∀ j, j < 256 → X.cell? ⟨g1, j, none⟩ = some (.int .i64 (T.getD j 0))) (l2 : g2 < X.heap.size) (k2 : ∀ j, j < 256 → X.cell? ⟨g2, j, none⟩ = some (.int .i64 (P.getD j 0))) :
    Res w0 q sh T P g g1 c1 g2 c2 (((X.setCell ⟨g, 0, none⟩ (.slice (some ⟨g1, 0, none⟩) 256 c1)).setCell ⟨g, 1, none⟩ (.int .u8 q)).setCell ⟨g, 2, none⟩ (.int .u8 sh)) := by
  have hs := set3 (.slice (some ⟨g1, 0, none⟩) 256 c1) (.int .u8 q) (.int .u8 sh) hX
  obtain ⟨a0, a1, a2, _⟩ := cell_in hs
  have hz : (((X.setCell ⟨g, 0, none⟩ (.slice (some ⟨g1, 0, none⟩) 256 c1)).setCell ⟨g, 1, none⟩ (.int .u8 q)).setCell ⟨g, 2, none⟩ (.int .u8 sh)).heap.size = X.heap.size := by rw [setsz, setsz, setsz]
  refine ⟨hg, ?_, a0, a1, a2, ?_, fun j hj => (cell_3 _ _ _ n1).trans (k1 j hj), ?_, fun j hj => (cell_3 _ _ _ n2).trans (k2 j hj), bel3 _ _ _ h0 hg⟩
  · rw [hz]; exact (Array.getElem?_eq_some_iff.1 hX).1
  · rw [hz]; exact l1
  · rw [hz]; exact l2
theorem res_a {w0 W X : World} {q sh : Int} {T P : List Int} {g g1 c1 g2 c2 : Nat} {x y z : Value} (h0 : Below w0.heap.size w0 W) (hg : w0.heap.size ≤ g) (hW : W.heap[g]? = some (.cells #[x, y, z] 38 (0, 0))) (hb : Below W.heap.size W X) (a1 : W.heap.size ≤ g1) (a2 : W.heap.size ≤ g2) (l1 : g1 < X.heap.size) (k1 : ∀ j, j < 256 → X.cell? ⟨g1, j, none⟩ = some (.int .i64 (T.getD j 0))) (l2 : g2 < X.heap.size) (k2 : ∀ j, j < 256 → X.cell? ⟨g2, j, none⟩ = some (.int .i64 (P.getD j 0))) :
    Res w0 q sh T P g g1 c1 g2 c2 (((X.setCell ⟨g, 0, none⟩ (.slice (some ⟨g1, 0, none⟩) 256 c1)).setCell ⟨g, 1, none⟩ (.int .u8 q)).setCell ⟨g, 2, none⟩ (.int .u8 sh)) := by
  have lg := (Array.getElem?_eq_some_iff.1 hW).1
  exact res_c ((hb.block g lg).trans hW) (bt h0 hb) hg (by omega) (by omega) l1 k1 l2 k2
theorem res_b {w0 X : World} {q sh : Int} {T P : List Int} {g1 c1 g2 c2 : Nat} (h0 : Below w0.heap.size w0 X) (l1 : g1 < X.heap.size) (k1 : ∀ j, j < 256 → X.cell? ⟨g1, j, none⟩ = some (.int .i64 (T.getD j 0))) (l2 : g2 < X.heap.size) (k2 : ∀ j, j < 256 → X.cell? ⟨g2, j, none⟩ = some (.int .i64 (P.getD j 0))) :
    Res w0 q sh T P X.heap.size g1 c1 g2 c2 (X.alloc (.cells #[.slice (some ⟨g1, 0, none⟩) 256 c1, .int .u8 q, .int .u8 sh] 38)) := by
  have hb := (Below.refl X.heap.size X).alloc (Nat.le_refl _) (.cells #[.slice (some ⟨g1, 0, none⟩) 256 c1, .int .u8 q, .int .u8 sh] 38)
  have hs : (X.alloc (.cells #[.slice (some ⟨g1, 0, none⟩) 256 c1, .int .u8 q, .int .u8 sh] 38)).heap.size = X.heap.size + 1 := by simp
  obtain ⟨a0, a1, a2⟩ := box38 X (.slice (some ⟨g1, 0, none⟩) 256 c1) (.int .u8 q) (.int .u8 sh)
  exact ⟨h0.size, by omega, a0, a1, a2, by omega, fun j hj => (hb.cell (p := ⟨g1, j, none⟩) l1).trans (k1 j hj), by omega, fun j hj => (hb.cell (p := ⟨g2, j, none⟩) l2).trans (k2 j hj), bt h0 hb⟩
abbrev N38 : Obj := .cells #[.slice none 0 0, .int .u8 0, .int .u8 0] 38
theorem al1 (w : World) (o : Obj) : Below w.heap.size w (w.alloc o).drew := ((Below.refl _ w).alloc (Nat.le_refl _) o).drew
theorem al2 (w : World) (o p : Obj) : Below w.heap.size w ((w.alloc o).alloc p).drew := (((Below.refl _ w).alloc (Nat.le_refl _) o).alloc (al1 w o).size p).drew
/-- A cell of three, and a list, that are there. -/
def Bx (w : World) (g : Nat) (x y z : Value) : Prop := g < w.heap.size ∧ w.cell? ⟨g, 0, none⟩ = some x ∧ w.cell? ⟨g, 1, none⟩ = some y ∧ w.cell? ⟨g, 2, none⟩ = some z
def Lx (w : World) (g : Nat) (T : List Int) : Prop := g < w.heap.size ∧ ∀ j, j < 256 → w.cell? ⟨g, j, none⟩ = some (.int .i64 (T.getD j 0))
theorem Bx.below {w w' : World} {g : Nat} {x y z : Value} (h : Bx w g x y z) (hb : Below w.heap.size w w') : Bx w' g x y z := ⟨Nat.lt_of_lt_of_le h.1 hb.size, (hb.cell (p := ⟨g, 0, none⟩) h.1).trans h.2.1, (hb.cell (p := ⟨g, 1, none⟩) h.1).trans h.2.2.1, (hb.cell (p := ⟨g, 2, none⟩) h.1).trans h.2.2.2⟩
theorem Lx.below {w w' : World} {g : Nat} {T : List Int} (h : Lx w g T) (hb : Below w.heap.size w w') : Lx w' g T := ⟨Nat.lt_of_lt_of_le h.1 hb.size, fun j hj => (hb.cell (p := ⟨g, j, none⟩) h.1).trans (h.2 j hj)⟩
theorem Lx.rd {w : World} {g : Nat} {T : List Int} (h : Lx w g T) (hl : T.length = 256) : RdA w (some ⟨g, 0, none⟩) T := cells_rd h.1 hl h.2
theorem bx_new (w : World) (x y z : Value) : Bx (w.alloc (.cells #[x, y, z] 38)) w.heap.size x y z := ⟨by simp, (box38 w x y z).1, (box38 w x y z).2.1, (box38 w x y z).2.2⟩
theorem al_new (w : World) (o : Obj) : Below w.heap.size w (w.alloc o) := (Below.refl _ w).alloc (Nat.le_refl _) o
theorem bx_two (w : World) (x y z p q r : Value) : Bx ((w.alloc (.cells #[x, y, z] 38)).alloc (.cells #[p, q, r] 38)) (w.heap.size + 1) p q r := by
  have h := bx_new (w.alloc (.cells #[x, y, z] 38)) p q r
  rwa [show (w.alloc (.cells #[x, y, z] 38)).heap.size = w.heap.size + 1 by simp] at h
def Bh (w : World) (g : Nat) (x y z : Value) : Prop := w.heap[g]? = some (.cells #[x, y, z] 38 (0, 0))
theorem Bh.lt {w : World} {g : Nat} {x y z : Value} (h : Bh w g x y z) : g < w.heap.size := (Array.getElem?_eq_some_iff.1 h).1
theorem Bh.below {w w' : World} {g : Nat} {x y z : Value} (h : Bh w g x y z) (hb : Below w.heap.size w w') : Bh w' g x y z := (hb.block g h.lt).trans h
theorem bh_new (w : World) (x y z : Value) : Bh (w.alloc (.cells #[x, y, z] 38)) w.heap.size x y z := World.alloc_heap_new _ _
def Res2 (w0 : World) (q sh : Int) (T P : List Int) (g g1 c1 g2 c2 : Nat) (w' : World) : Prop := Res w0 q sh T P g g1 c1 g2 c2 w' ∧ w0.heap.size ≤ g1
theorem at_n (w : World) : (w.alloc N38).heap[w.heap.size]? = some (.cells #[.slice none 0 0, .int .u8 0, .int .u8 0] 38 (0, 0)) := World.alloc_heap_new _ _
theorem Lx.set3 {w : World} {g b : Nat} {T : List Int} (h : Lx w g T) (hn : b ≠ g) (p q r : Value) : Lx (((w.setCell ⟨b, 0, none⟩ p).setCell ⟨b, 1, none⟩ q).setCell ⟨b, 2, none⟩ r) g T := ⟨by rw [setsz, setsz, setsz]; exact h.1, fun j hj => (cell_3 p q r hn).trans (h.2 j hj)⟩
theorem lx_row {w : World} {g : Nat} {T : List Int} (r : w.rowIs g 3 256 (fun j => .int .i64 (T.getD j 0))) : Lx w g T := ⟨r.lt, fun _ hj => r.cell hj⟩
theorem i64_in {x : Int} (a : -9223372036854775808 ≤ x) (b : x ≤ 9223372036854775807) : IntKind.i64.wrap x = x := by
  simp [IntKind.wrap, IntKind.bits, IntKind.signed]
  omega
theorem idx {k m n L : Nat} (hk : k < n) (h : 256 * (n + 1) ≤ L) (hL : L ≤ 4000) (hm : m < 256) : wrap64 (256 * (k : Int)) = 256 * (k : Int) ∧ wrap64 (256 * (k : Int) + (m : Int)) = 256 * (k : Int) + (m : Int) ∧ IntKind.i64.wrap (256 * (k : Int)) = 256 * (k : Int) ∧ IntKind.i64.wrap (256 * (k : Int) + (m : Int)) = 256 * (k : Int) + (m : Int) ∧ (0 : Int) ≤ 256 * (k : Int) + (m : Int) ∧ 256 * (k : Int) + (m : Int) < (L : Int) ∧ 256 * k + m < L :=
  ⟨w64 (by omega) (by omega), w64 (by omega) (by omega), i64_in (by omega) (by omega), i64_in (by omega) (by omega), by omega, by omega, by omega⟩
theorem idx2 (k m : Nat) : (256 * (k : Int) + (m : Int)).toNat = 256 * k + m := by omega
theorem dif {X Y : Int} (h0 : -2 ≤ X - Y) (h1 : X - Y ≤ 2) : wrap64 (X - Y) = X - Y ∧ IntKind.i64.wrap (X - Y) = X - Y ∧ ¬ 2 < X - Y ∧ ¬ X - Y < -2 :=
  ⟨w64 (by omega) (by omega), i64_in (by omega) (by omega), by omega, by omega⟩
theorem i16_in {zs : List Int} (h : ∀ n ∈ zs, (Lit.int .i16 n).wf = true) : InR (-32768) 32767 zs := fun j hj => by
  have q := h _ (show zs.getD j 0 ∈ zs by rw [List.getD_eq_getElem?_getD, List.getElem?_eq_getElem hj]; exact List.getElem_mem hj)
  simp [Lit.wf] at q
  have e : IntKind.i16.min = -32768 := rfl
  have e2 : IntKind.i16.max = 32767 := rfl
  simp only [List.getD_eq_getElem?_getD] at *
  omega
set_option maxRecDepth 100000 in
set_option maxHeartbeats 16000000 in
theorem far0 (A O : Option Addr) (ca cb : Nat) (zs : List Int) (n : Nat) (S Z : Nat → Int) (w : World) (RA : RdK .i16 w A zs) (RP : RdP w O n S Z) (h : n < 1) :
    Calls Try.prog 10 #[.slice A zs.length ca, .slice O n cb] w fun e w' => e = .returned (.bool true) ∧ Below w.heap.size w w' := by
  have d0 : decide ((n : Int) < 1) = true := decide_eq_true (by omega)
  clear RA RP
  go_enter Try.func10, Try.ntmps10
  go_wp2_with first
    | (go_at_call 24; ((with_reducible refine (Lp.alive_ok _).mono ?_); rintro e w1 ⟨rfl, hb1⟩; have B1 := Lib.hid hb1; clear hb1))
  go_ret
  exact ⟨rfl, B1.out⟩
set_option maxRecDepth 100000 in
set_option maxHeartbeats 16000000 in
theorem far1 (A O : Option Addr) (ca cb : Nat) (zs : List Int) (n : Nat) (S Z : Nat → Int) (w : World) (RA : RdK .i16 w A zs) (RP : RdP w O n S Z) (h0 : 1 ≤ n) (h : 6 < n) :
    Calls Try.prog 10 #[.slice A zs.length ca, .slice O n cb] w fun e w' => e = .returned (.bool true) ∧ Below w.heap.size w w' := by
  have d0 : decide ((n : Int) < 1) = false := decide_eq_false (by omega)
  have d1 : decide (6 < (n : Int)) = true := decide_eq_true (by omega)
  clear RA RP
  go_enter Try.func10, Try.ntmps10
  go_wp2_with first
    | (go_at_call 24; ((with_reducible refine (Lp.alive_ok _).mono ?_); rintro e w1 ⟨rfl, hb1⟩; have B1 := Lib.hid hb1; clear hb1))
  go_ret
  exact ⟨rfl, B1.out⟩
set_option maxRecDepth 100000 in
set_option maxHeartbeats 16000000 in
theorem far2 (A O : Option Addr) (ca cb : Nat) (zs : List Int) (n : Nat) (S Z : Nat → Int) (w : World) (RA : RdK .i16 w A zs) (RP : RdP w O n S Z) (h0 : 1 ≤ n) (h1 : n ≤ 6) (h : zs.length < 256 * (n + 1)) :
    Calls Try.prog 10 #[.slice A zs.length ca, .slice O n cb] w fun e w' => e = .returned (.bool true) ∧ Below w.heap.size w w' := by
  have d0 : decide ((n : Int) < 1) = false := decide_eq_false (by omega)
  have d1 : decide (6 < (n : Int)) = false := decide_eq_false (by omega)
  have d2 : decide ((zs.length : Int) < 256 * ((n : Int) + 1)) = true := decide_eq_true (by omega)
  have x1 : wrap64 ((n : Int) + 1) = (n : Int) + 1 := w64 (by omega) (by omega)
  have x2 : wrap64 (256 * ((n : Int) + 1)) = 256 * ((n : Int) + 1) := w64 (by omega) (by omega)
  clear RA RP
  go_enter Try.func10, Try.ntmps10
  go_wp2_with first
    | (go_at_call 24; ((with_reducible refine (Lp.alive_ok _).mono ?_); rintro e w1 ⟨rfl, hb1⟩; have B1 := Lib.hid hb1; clear hb1))
  go_ret
  exact ⟨rfl, B1.out⟩
set_option maxRecDepth 100000 in
set_option maxHeartbeats 16000000 in
theorem far3 (A O : Option Addr) (ca cb : Nat) (zs : List Int) (n : Nat) (S Z : Nat → Int) (w : World) (RA : RdK .i16 w A zs) (RP : RdP w O n S Z) (h0 : 1 ≤ n) (h1 : n ≤ 6) (h2 : 256 * (n + 1) ≤ zs.length) (h : 4000 < zs.length) :
    Calls Try.prog 10 #[.slice A zs.length ca, .slice O n cb] w fun e w' => e = .returned (.bool true) ∧ Below w.heap.size w w' := by
  have d0 : decide ((n : Int) < 1) = false := decide_eq_false (by omega)
  have d1 : decide (6 < (n : Int)) = false := decide_eq_false (by omega)
  have d2 : decide ((zs.length : Int) < 256 * ((n : Int) + 1)) = false := decide_eq_false (by omega)
  have d3 : decide (4000 < (zs.length : Int)) = true := decide_eq_true (by omega)
  have x1 : wrap64 ((n : Int) + 1) = (n : Int) + 1 := w64 (by omega) (by omega)
  have x2 : wrap64 (256 * ((n : Int) + 1)) = 256 * ((n : Int) + 1) := w64 (by omega) (by omega)
  clear RA RP
  go_enter Try.func10, Try.ntmps10
  go_wp2_with first
    | (go_at_call 24; ((with_reducible refine (Lp.alive_ok _).mono ?_); rintro e w1 ⟨rfl, hb1⟩; have B1 := Lib.hid hb1; clear hb1))
  go_ret
  exact ⟨rfl, B1.out⟩
set_option maxRecDepth 100000 in
set_option maxHeartbeats 16000000 in
theorem goodN (A O : Option Addr) (ca cb : Nat) (zs : List Int) (n : Nat) (S Z : Nat → Int) (w : World) (RA : RdK .i16 w A zs) (RP : RdP w O n S Z) (h0 : 1 ≤ n) (h1 : n ≤ 6) (hL : 256 * (n + 1) ≤ zs.length) (hm : zs.length ≤ 4000) (hI : InR (-32768) 32767 zs) (S0 : ∀ i, i < n → 0 ≤ S i) (Z0 : ∀ i, i < n → 0 ≤ Z i) (s2 : ¬ S 0 = 2) (s3 : ¬ S 0 = 3) :
    Calls Try.prog 10 #[.slice A zs.length ca, .slice O n cb] w fun e w' => e = .returned (.bool true) ∧ Below w.heap.size w w' := by
  obtain ⟨i0, hi, hz0, hz1, hz2⟩ := info_parts Fx.info3
  have d0 : decide ((n : Int) < 1) = false := decide_eq_false (by omega)
  have d1 : decide (6 < (n : Int)) = false := decide_eq_false (by omega)
  have d2 : decide ((zs.length : Int) < 256 * ((n : Int) + 1)) = false := decide_eq_false (by omega)
  have d3 : decide (4000 < (zs.length : Int)) = false := decide_eq_false (by omega)
  have x1 : wrap64 ((n : Int) + 1) = (n : Int) + 1 := w64 (by omega) (by omega)
  have x2 : wrap64 (256 * ((n : Int) + 1)) = 256 * ((n : Int) + 1) := w64 (by omega) (by omega)
  have e2 : (S 0 == 2) = false := by simpa using s2
  have e3 : (S 0 == 3) = false := by simpa using s3
  have RA := Lib.hid RA
  have RP := Lib.hid RP
  have HL := Lib.hid hL
  have HI := Lib.hid hI
  have HS := Lib.hid S0
  have HZ := Lib.hid Z0
  clear hL hI S0 Z0
  go_enter Try.func10, Try.ntmps10
  go_wp2_with first
    | (go_at_call 24; ((with_reducible refine (Lp.alive_ok _).mono ?_); rintro e w1 ⟨rfl, hb1⟩; have B1 := Lib.hid hb1; clear hb1))
    | (refine wpList_make_row _ rfl _ _ 22 rfl 3 i0 (.int .i64 0) Try.underlying22 hi hz0 hz1 rfl .i64 .i64 zs.length rfl rfl (by rw [hz2]; omega) (by omega) ?_)
  clear d0 d1 d2 d3 x1 x2
  go_loopw [7] (fun i wq => ∃ k : Nat, k ≤ zs.length ∧ i = .int .i64 k ∧ Hid (wq.rowIs w1.heap.size 3 zs.length (fun j => .int .i64 (upF (fun j => zs.getD j 0) k j))) ∧ Hid (Below w1.heap.size w1 wq)) (fun i _ => 4000 - (intOf i).toNat)
  case atStart => exact ⟨0, by omega, rfl, Lib.hid ((World.rowIs_made w1 (.int .i64 0) zs.length 3).congr fun j hj => by unfold upF; rw [if_neg (by omega)]), Lib.hid ((Below.refl _ _).alloc (Nat.le_refl _) _)⟩
  case round =>
    obtain ⟨k, hk, rfl, hr, hB⟩ := hrel
    by_cases hlt : k < zs.length
    · obtain ⟨b, off, rfl, lb, q0⟩ := (RA.out.below B1.out) k hlt
      have q1 := (hB.out.cell (p := ⟨b, off + k, none⟩) lb).trans q0
      have q3 := hr.out.frozen k
      have q4 := hr.out.cell hlt
      have qb := HI.out k hlt
      have xw : wrap64 (zs.getD k 0) = zs.getD k 0 := w64 (by omega) (by omega)
      have hX := Lib.hid (show zs.getD k 0 = zs.getD k 0 from rfl)
      generalize hXX : zs.getD k 0 = X at *
      have hX := Lib.hid hXX
      clear hXX
      go_wp2
      go_roundw
      case rel => exact ⟨k + 1, by omega, by go_num, Lib.hid (upF_step hr.out hX.out.symm), Lib.hid (hB.out.setCell (Nat.le_refl _) _)⟩
      case measure => simp [intOf]; omega
    · have hkk : k = zs.length := by omega
      have hlt2 : ¬ (k : Int) < (zs.length : Int) := by omega
      have r1 := Lib.hid (upF_end (hkk ▸ hr.out))
      have RD := Lib.hid (rdA_row (zs := zs) r1.out rfl fun j _ => rfl)
      have B2 := Lib.hid (bt B1.out hB.out)
      clear hr hB r1 hkk hk
      obtain ⟨pb, po, hO, lp0, p00, p01, _⟩ := (RP.out.below B2.out) 0 (by omega)
      subst hO
      go_wp2_with first
        | (go_at_call 23; ((with_reducible refine (new_ok _).mono ?_); rintro e w2 ⟨g0, rfl, hg0, hr0, hb2⟩; unfold lapV; have LT := hr0.lt; have R0 := Lib.hid ((hr0.congr (g := fun j => .int .i64 ((FT S Z zs 0).getD j 0)) fun j hj => by rw [show FT S Z zs 0 = zeros 256 from if_pos rfl, zeros_at])); have RD2 := Lib.hid (RD.out.below hb2); have B3 := Lib.hid (bt B2.out hb2); have P0 := (hb2.cell (p := ⟨pb, po + 0 * 2, none⟩) lp0).trans p00; have LP := Nat.lt_of_lt_of_le lp0 hb2.size; rw [Nat.zero_mul, Nat.add_zero] at P0; clear hr0 hb2 p00 p01))
      have hw0 := Lib.hid (show (was S 0 = 0) from by unfold was; simp; omega)
      go_loopw [10, 9] (fun i v wq => ∃ k g c : Nat, k ≤ n ∧ i = .int .i64 k ∧ v = .int .u8 (was S k) ∧ Hid (GoodP S Z k) ∧ Hid (Bh wq w2.heap.size (.slice (some ⟨g, 0, none⟩) 256 c) (.int .u8 (sq0 S k)) (.int .u8 (shp Z k))) ∧ Hid (Lx wq g (FT S Z zs k)) ∧ w2.heap.size ≠ g ∧ Hid (Below w2.heap.size w2 wq)) (fun i _ _ => 7 - (intOf i).toNat)
      case atStart => exact ⟨0, g0, 256, by omega, rfl, by rw [hw0.out], Lib.hid (good_zero S Z), Lib.hid (bh_new w2 _ _ _), Lib.hid ((lx_row R0.out).below (al_new _ _)), (by omega), Lib.hid (al_new _ _)⟩
      case round =>
        obtain ⟨k, g, c, hk, rfl, rfl, hG, hX, hT, hne, hB⟩ := hrel
        by_cases hlt3 : k < n
        · obtain ⟨pb', po', ho, lp, c0, c1, s0, z0⟩ := ((RP.out.below B3.out).below hB.out) k hlt3
          simp only [Option.some.injEq, Addr.mk.injEq, and_true] at ho
          obtain ⟨rfl, rfl⟩ := ho
          have hf := fol_ok (was S k) (S k) wr (was_nn fun i hi => HS.out i (by omega)) s0
          cases hfb : fol (was S k) (S k)
          · rw [hfb] at hf
            have HF := Lib.hid hf
            have B9 := Lib.hid (bt B3.out hB.out)
            clear hf
            go_wp2_with first
              | (go_at_call 30; ((with_reducible refine (HF.out).mono ?_); rintro e w4 ⟨rfl, rfl⟩))
            go_ret
            exact ⟨rfl, B9.out⟩
          · rw [hfb] at hf
            have HF := Lib.hid hf
            have HFB := Lib.hid hfb
            clear hf hfb
            by_cases hz : Z k ≤ 1
            · have hz1 : decide (1 < Z k) = false := decide_eq_false (by omega)
              have G2 := Lib.hid (good_succ hG.out HFB.out hz)
              have MK := Lib.hid (may_k HS.out HZ.out G2.out hlt3)
              have SB := shp_bd hG.out (fun i hi => HZ.out i (by omega))
              obtain ⟨y0, y1, y2, y3, y4, y5⟩ := cell_in hX.out
              have l8 := hX.out.lt
              have eA : (if zs.length = (256 * (k : Int)).toNat then (some ⟨w1.heap.size, 0, none⟩ : Option Addr) else some ⟨w1.heap.size, (256 * (k : Int)).toNat, none⟩) = some ⟨w1.heap.size, 256 * k, none⟩ := by rw [if_neg (by have := HL.out; omega), show (256 * (k : Int)).toNat = 256 * k by omega]
              have eL : (256 * (k : Int) + 512).toNat - (256 * (k : Int)).toNat = 512 := by omega
              have N1 := fun (W : World) (hW : Below wr.heap.size wr W) => analyse_O (S k) (shp Z k) (Z k) (some ⟨w1.heap.size, 256 * k, none⟩) 512 (zs.length - (256 * (k : Int)).toNat) (pcs zs k) W s0 (by omega) z0 (pcs_len HL.out hlt3) (by have := HL.out; omega) (by unfold maxLen; omega) (pcs_rd HL.out hlt3 ((RD2.out.below hB.out).below hW))
              have e1 := aO_good MK.out (pcs_len HL.out hlt3) (pcs_in HL.out hlt3 HI.out)
              rw [e1] at N1
              have N1 := Lib.hid N1
              clear e1
              have x1 : wrap64 (256 * (k : Int)) = 256 * (k : Int) := w64 (by omega) (by omega)
              have x2 : wrap64 (256 * (k : Int) + 512) = 256 * (k : Int) + 512 := w64 (by omega) (by omega)
              have x3 : (0 : Int) ≤ 256 * (k : Int) := by omega
              have x6 : IntKind.i64.wrap (256 * (k : Int)) = 256 * (k : Int) := i64_in (by omega) (by omega)
              have x7 : IntKind.i64.wrap (256 * (k : Int) + 512) = 256 * (k : Int) + 512 := i64_in (by omega) (by omega)
              have x4 : 256 * (k : Int) ≤ 256 * (k : Int) + 512 := by omega
              have x5 : 256 * (k : Int) + 512 ≤ (zs.length : Int) := by have := HL.out; omega
              have KEEP := Lib.hid (fun (W : World) (hW : Below wr.heap.size wr W) => (⟨(hW.cell (p := ⟨pb, po + k * 2, none⟩) lp).trans c0, (hW.cell (p := ⟨pb, po + k * 2 + 1, none⟩) lp).trans c1, (hW.cell (p := ⟨w2.heap.size, 2, none⟩) l8).trans y2, hW⟩ : W.cell? ⟨pb, po + k * 2, none⟩ = some (.int .u8 (S k)) ∧ W.cell? ⟨pb, po + k * 2 + 1, none⟩ = some (.int .u8 (Z k)) ∧ W.cell? ⟨w2.heap.size, 2, none⟩ = some (.int .u8 (shp Z k)) ∧ Below wr.heap.size wr W))
              go_wp2_with first
                | (go_at_call 30; ((with_reducible refine (HF.out).mono ?_); rintro e w4 ⟨rfl, rfl⟩))
              go_region_held3 (fun w' => w'.cell? ⟨pb, po + k * 2, none⟩ = some (.int .u8 (S k)) ∧ w'.cell? ⟨pb, po + k * 2 + 1, none⟩ = some (.int .u8 (Z k)) ∧ w'.cell? ⟨w2.heap.size, 2, none⟩ = some (.int .u8 (shp Z k)) ∧ Below wr.heap.size wr w') (exact KEEP.out _ (by first | exact (Below.refl _ _).drew | exact bt ((‹_ ∧ _ ∧ _ ∧ Below _ _ _›).2.2.2) BB.out | exact Below.refl _ _)) ((go_at_call 15; ((with_reducible refine (N1.out _ ((‹_ ∧ _ ∧ _ ∧ Below _ _ _›).2.2.2)).mono ?_); rintro e w5 ⟨v5, rfl, ho5, hb5⟩; obtain ⟨g5, c5, rfl, hg5, hl5, hc5, hm5, he5, _⟩ := own_open ho5 (AL_len _ _ _ _) (by decide); have C5 := Lib.hid he5; have BB := Lib.hid hb5; clear ho5 he5 hb5)))
              have BB5 := Lib.hid ((Below.refl wr.heap.size wr).drew.trans (BB.out.mono (Nat.le_refl _)) : Below wr.heap.size wr w5)
              have RF := Lib.hid (cells_rd hl5 (AL_len (S k) (shp Z k) (Z k) (pcs zs k)) C5.out)
              have lp5 := Nat.lt_of_lt_of_le lp BB5.out.size
              have k0 := (BB5.out.cell (p := ⟨pb, po + k * 2, none⟩) lp).trans c0
              have k1 := (BB5.out.cell (p := ⟨pb, po + k * 2 + 1, none⟩) lp).trans c1
              have X5 := Lib.hid (hX.out.below BB5.out)
              have T5 := Lib.hid (hT.out.below BB5.out)
              have D5 := Lib.hid (RD2.out.below (bt hB.out BB5.out))
              have B5 := Lib.hid (bt hB.out BB5.out)
              have n8 := hX.out.lt
              clear y0 y1 y2 y3 y4 y5 c0 c1 lp BB C5 KEEP N1 hX hT HF x1 x2 x3 x4 x5 x6 x7 eA eL
              obtain ⟨y0, y1, y2, y3, y4, y5⟩ := cell_in X5.out
              have l85 := X5.out.lt
              have N2 := fun (W : World) (hW : Below w5.heap.size w5 W) => next_O (some ⟨g, 0, none⟩) (some ⟨g5, 0, none⟩) 256 c 256 c5 (FT S Z zs k) (FA S Z zs k) (sq0 S k) (shp Z k) (S k) (Z k) W s0 (by omega) z0 (FT_len _ _ _ _) ((T5.out.rd (FT_len _ _ _ _)).below hW) (AL_len _ _ _ _) hc5 hm5 (RF.out.below hW)
              have e2' := next_k HS.out HZ.out HL.out HI.out G2.out hlt3
              rw [e2'] at N2
              unfold AnsN lapV at N2
              dsimp only at N2
              have N2 := Lib.hid N2
              clear e2'
              have KEEP := Lib.hid (fun (W : World) (hW : Below w5.heap.size w5 W) => (⟨(hW.cell (p := ⟨w2.heap.size, 0, none⟩) l85).trans y0, (hW.cell (p := ⟨w2.heap.size, 1, none⟩) l85).trans y1, (hW.cell (p := ⟨w2.heap.size, 2, none⟩) l85).trans y2, (hW.cell (p := ⟨pb, po + k * 2, none⟩) lp5).trans k0, (hW.cell (p := ⟨pb, po + k * 2 + 1, none⟩) lp5).trans k1, hW⟩ : W.cell? ⟨w2.heap.size, 0, none⟩ = some (.slice (some ⟨g, 0, none⟩) 256 c) ∧ W.cell? ⟨w2.heap.size, 1, none⟩ = some (.int .u8 (sq0 S k)) ∧ W.cell? ⟨w2.heap.size, 2, none⟩ = some (.int .u8 (shp Z k)) ∧ W.cell? ⟨pb, po + k * 2, none⟩ = some (.int .u8 (S k)) ∧ W.cell? ⟨pb, po + k * 2 + 1, none⟩ = some (.int .u8 (Z k)) ∧ Below w5.heap.size w5 W))
              go_wp2_with fail
              refine wp_forget (fun ac a' w' => ∃ gB g1 c1 g2 c2 : Nat, a' = ((((((((((((((((((((ac.put (some 123) (.agg #[.slice (some ⟨g, 0, none⟩) 256 c, .int .u8 (sq0 S k), .int .u8 (shp Z k)])).put (some 124) (.slice (some ⟨pb, po, none⟩) n cb)).put (some 125) (.int .i64 k)).put (some 126) (.pointer (some ⟨pb, po + k * 2, none⟩))).put (some 127) (.pointer (some ⟨pb, po + k * 2, none⟩))).put (some 128) (.int .u8 (S k))).put (some 129) (.slice (some ⟨pb, po, none⟩) n cb)).put (some 130) (.int .i64 k)).put (some 131) (.pointer (some ⟨pb, po + k * 2, none⟩))).put (some 132) (.pointer (some ⟨pb, po + k * 2 + 1, none⟩))).put (some 133) (.int .u8 (Z k))).put (some 134) (.slice (some ⟨g5, 0, none⟩) 256 c5)).put (some 135) (.tuple #[.agg #[.slice (some ⟨g1, 0, none⟩) 256 c1, .int .u8 (S k), .int .u8 (Z k)], .slice (some ⟨g2, 0, none⟩) 256 c2, .int .i64 0])).put (some 122) (.tuple #[.agg #[.slice (some ⟨g1, 0, none⟩) 256 c1, .int .u8 (S k), .int .u8 (Z k)], .slice (some ⟨g2, 0, none⟩) 256 c2, .int .i64 0])).put (some 136) (.agg #[.slice (some ⟨g1, 0, none⟩) 256 c1, .int .u8 (S k), .int .u8 (Z k)])).put (some 137) (.slice (some ⟨g2, 0, none⟩) 256 c2)).put (some 138) (.int .i64 0)).put (some 13) (.pointer (some ⟨gB, 0, none⟩))).put (some 14) (.slice (some ⟨g2, 0, none⟩) 256 c2)).put (some 15) (.int .i64 0)) ∧ Res2 w5 (S k) (Z k) (FT S Z zs (k + 1)) (mk 256 (OUT S Z zs k)) gB g1 c1 g2 c2 w') ?_ ?_
              · go_region_held3 (fun w' => w'.cell? ⟨w2.heap.size, 0, none⟩ = some (.slice (some ⟨g, 0, none⟩) 256 c) ∧ w'.cell? ⟨w2.heap.size, 1, none⟩ = some (.int .u8 (sq0 S k)) ∧ w'.cell? ⟨w2.heap.size, 2, none⟩ = some (.int .u8 (shp Z k)) ∧ w'.cell? ⟨pb, po + k * 2, none⟩ = some (.int .u8 (S k)) ∧ w'.cell? ⟨pb, po + k * 2 + 1, none⟩ = some (.int .u8 (Z k)) ∧ Below w5.heap.size w5 w') (exact KEEP.out _ (by first | exact (Below.refl _ _).drew | exact ((‹_ ∧ _ ∧ _ ∧ _ ∧ _ ∧ Below _ _ _›).2.2.2.2.2).alloc ((‹_ ∧ _ ∧ _ ∧ _ ∧ _ ∧ Below _ _ _›).2.2.2.2.2).size _ | exact bt ((‹_ ∧ _ ∧ _ ∧ _ ∧ _ ∧ Below _ _ _›).2.2.2.2.2) BB.out | exact (bt (al1 _ _) BB.out).alloc (bt (al1 _ _) BB.out).size _ | exact (bt ((Below.refl _ _).drew) BB.out).alloc (bt ((Below.refl _ _).drew) BB.out).size _ | exact bel3 _ _ _ ((‹_ ∧ _ ∧ _ ∧ _ ∧ _ ∧ Below _ _ _›).2.2.2.2.2) (by first | exact Nat.le_refl _ | exact Nat.le_succ _ | exact Nat.le_trans (al1 _ _).size BB.out.size))) ((go_at_call 22; ((with_reducible refine (N2.out _ ((‹_ ∧ _ ∧ _ ∧ _ ∧ _ ∧ Below _ _ _›).2.2.2.2.2)).mono ?_); rintro e w6 ⟨v, u, rfl, ho, hp, hb⟩; obtain ⟨g1, c1, rfl, hg1, hl1, _, _, hc1, _⟩ := own_open ho (FT_len _ _ _ _) (by decide); obtain ⟨g2, c2, rfl, hg2, hl2, _, _, hc2, _⟩ := own_open hp (mk_len 256 (OUT S Z zs k)) (by decide); have C1 := Lib.hid hc1; have C2 := Lib.hid hc2; have BB := Lib.hid hb; clear hc1 hc2 ho hp; first | (have HG : w6.heap[w5.heap.size]? = _ := (BB.out.block _ (by simp)).trans (at_n w5); obtain ⟨f0, f1, f2, f3, f4, f5⟩ := cell_in HG; have HG2 := Lib.hid HG; clear HG) | skip)))
                all_goals
                  first
                    | exact ⟨rfl, w6.heap.size, g1, c1, g2, c2, (by first | rfl | simp only [Act.put, List.setIfInBounds_toArray, List.set_cons_zero, List.set_cons_succ]), res_b (bt ((Below.refl _ _).drew) BB.out) hl1 C1.out hl2 C2.out, (by first | exact hg1 | exact Nat.le_trans (al1 _ _).size hg1 | exact Nat.le_trans ((Below.refl _ _).drew).size hg1)⟩
                    | exact ⟨rfl, w5.heap.size, g1, c1, g2, c2, (by first | rfl | simp only [Act.put, List.setIfInBounds_toArray, List.set_cons_zero, List.set_cons_succ]), res_a (al1 _ _) (Nat.le_refl _) (at_n w5) BB.out hg1 hg2 hl1 C1.out hl2 C2.out, (by first | exact hg1 | exact Nat.le_trans (al1 _ _).size hg1 | exact Nat.le_trans ((Below.refl _ _).drew).size hg1)⟩
              rintro a' w7 ⟨gB, g1, c1, g2, c2, rfl, hR⟩
              obtain ⟨⟨qB, q1, u0, u1, u2, q2, m1, q3, m2, b7⟩, hg1⟩ := hR
              have M2 := Lib.hid m2
              have T7 : Hid (Lx w7 g1 (FT S Z zs (k + 1))) := Lib.hid ⟨q2, m1⟩
              have X7 := Lib.hid (X5.out.below b7)
              have D7 := Lib.hid (D5.out.below b7)
              have B7 := Lib.hid (bt B5.out b7)
              have lp7 := Nat.lt_of_lt_of_le lp5 b7.size
              have k0 := (b7.cell (p := ⟨pb, po + k * 2, none⟩) lp5).trans k0
              have hcc := fun W r => check_yes (some ⟨g1, 0, none⟩) c1 (FT S Z zs (k + 1)) (S k) (Z k) W r (FT_ok HS.out HZ.out HL.out HI.out G2.out (by omega))
              unfold lapV at hcc
              rw [FT_len] at hcc
              have HC := Lib.hid hcc
              clear y0 y1 y2 y3 y4 y5 k1 lp5 KEEP N2 X5 T5 D5 B5 RF BB5 m1 m2 b7 hcc
              simp only [Act.put, List.setIfInBounds_toArray, List.set_cons_zero, List.set_cons_succ]
              go_wp2_with first
                | (go_at_call 25; ((with_reducible refine (HC.out _ (T7.out.rd (FT_len _ _ _ _))).mono ?_); rintro e w8 ⟨rfl, hb8⟩; have M8 := Lib.hid (fun j (hj : j < 256) => (hb8.cell (p := ⟨g2, j, none⟩) q3).trans (M2.out j hj)); have L2 := Nat.lt_of_lt_of_le q3 hb8.size; have T8 := Lib.hid (T7.out.below hb8); have X8 := Lib.hid (X7.out.below hb8); have D8 := Lib.hid (D7.out.below hb8); have B8 := Lib.hid (bt B7.out hb8); have lp8 := Nat.lt_of_lt_of_le lp7 hb8.size; have k8 := (hb8.cell (p := ⟨pb, po + k * 2, none⟩) lp7).trans k0; have v0 := (hb8.cell (p := ⟨gB, 0, none⟩) q1).trans u0; have v1 := (hb8.cell (p := ⟨gB, 1, none⟩) q1).trans u1; have v2 := (hb8.cell (p := ⟨gB, 2, none⟩) q1).trans u2; have LB := Nat.lt_of_lt_of_le q1 hb8.size; clear hb8 u0 u1 u2 k0 M2 T7 X7 D7 B7 lp7 q1 q2 q3))
              have ng : w2.heap.size ≠ g1 := by omega
              have nB : w2.heap.size ≠ gB := by omega
              clear HC
              by_cases hk0 : k = 0
              · have dk : ¬ (0 : Int) < (k : Int) := by omega
                clear hk0
                go_loopw [16] (fun i wq => i = .int .i64 0 ∧ Hid (Below w8.heap.size w8 wq)) (fun i _ => 1)
                case atStart => exact ⟨rfl, Lib.hid (Below.refl _ _)⟩
                case round =>
                  obtain ⟨rfl, hB8⟩ := hrel
                  have v0 := (hB8.out.cell (p := ⟨gB, 0, none⟩) LB).trans v0
                  have v1 := (hB8.out.cell (p := ⟨gB, 1, none⟩) LB).trans v1
                  have v2 := (hB8.out.cell (p := ⟨gB, 2, none⟩) LB).trans v2
                  have k8 := (hB8.out.cell (p := ⟨pb, po + k * 2, none⟩) lp8).trans k8
                  have X9 := Lib.hid (X8.out.below hB8.out)
                  have T9 := Lib.hid (T8.out.below hB8.out)
                  have B9 := Lib.hid (bt B8.out hB8.out)
                  obtain ⟨y0, y1, y2, y3, y4, y5⟩ := cell_in X9.out
                  have np : w2.heap.size ≠ pb := by omega
                  have k9 := (cell_3 (w := wr) (j := po + k * 2) (.slice (some ⟨g1, 0, none⟩) 256 c1) (.int .u8 (S k)) (.int .u8 (Z k)) np).trans k8
                  clear hB8
                  go_wp2
                  go_roundw
                  case rel => exact ⟨k + 1, g1, c1, by omega, by go_num, rfl, G2, Lib.hid (set3 (.slice (some ⟨g1, 0, none⟩) 256 c1) (.int .u8 (S k)) (.int .u8 (Z k)) X9.out), Lib.hid (T9.out.set3 ng _ _ _), ng, Lib.hid (bel3 _ _ _ B9.out (Nat.le_refl _))⟩
                  case measure => simp [intOf]; omega
              · have dk : (0 : Int) < (k : Int) := by omega
                have hk1 := Lib.hid (show 1 ≤ k by omega)
                clear hk0
                generalize zs.length - (256 * (k : Int)).toNat = cq
                go_loopw [16] (fun i wq => ∃ m : Nat, m ≤ 256 ∧ i = .int .i64 m ∧ Hid (Below w8.heap.size w8 wq)) (fun i _ => 256 - (intOf i).toNat)
                case atStart => exact ⟨0, by omega, rfl, Lib.hid (Below.refl _ _)⟩
                case round =>
                  obtain ⟨m, hm2, rfl, hB8⟩ := hrel
                  by_cases hlt4 : m < 256
                  · have r1 := (hB8.out.cell (p := ⟨g2, m, none⟩) L2).trans (M8.out m hlt4)
                    rw [mk_at hlt4] at r1
                    obtain ⟨b, off, e, lb, r2⟩ := (D8.out.below hB8.out) (256 * k + m) (idx hlt3 HL.out hm hlt4).2.2.2.2.2.2
                    simp only [Option.some.injEq, Addr.mk.injEq, and_true] at e
                    obtain ⟨rfl, rfl⟩ := e
                    rw [Nat.zero_add] at r2
                    obtain ⟨o1, o2⟩ := out_k HS.out HZ.out HL.out HI.out G2.out hlt3 hk1.out hlt4
                    obtain ⟨X, Y, p1, p2, p3, p4, _, _⟩ : ∃ X Y : Int, wr.cell? ⟨g2, m, none⟩ = some (.int .i64 X) ∧ wr.cell? ⟨w1.heap.size, 256 * k + m, none⟩ = some (.int .i64 Y) ∧ -2 ≤ X - Y ∧ X - Y ≤ 2 ∧ -32768 ≤ Y ∧ Y ≤ 32767 := ⟨_, _, r1, r2, o1, o2, (HI.out (256 * k + m) (idx hlt3 HL.out hm hlt4).2.2.2.2.2.2).1, (HI.out (256 * k + m) (idx hlt3 HL.out hm hlt4).2.2.2.2.2.2).2⟩
                    clear r1 r2 o1 o2
                    obtain ⟨x1, x2, x3, x4, x5, x6, _⟩ := idx hlt3 HL.out hm hlt4
                    obtain ⟨x8, x9, t1, t2⟩ := dif p3 p4
                    clear x1 x2 x8
                    have x7 := idx2 k m
                    clear p3 p4
                    have X3 := Lib.hid x3
                    have X4 := Lib.hid x4
                    have X9 := Lib.hid x9
                    clear x3 x4 x9
                    go_wp2
                    have x3 := X3.out
                    have x4 := X4.out
                    have x9 := X9.out
                    go_quiet (fail)
                    clear x3 x4 x9 x7
                    go_wp2
                    go_roundw
                    case rel => exact ⟨m + 1, by omega, by go_num, Lib.hid (hB8.out.trans ((drewN_below _ _).mono hB8.out.size))⟩
                    case measure => simp [intOf]; omega
                  · have hlt5 : ¬ (m : Int) < 256 := by omega
                    have v0 := (hB8.out.cell (p := ⟨gB, 0, none⟩) LB).trans v0
                    have v1 := (hB8.out.cell (p := ⟨gB, 1, none⟩) LB).trans v1
                    have v2 := (hB8.out.cell (p := ⟨gB, 2, none⟩) LB).trans v2
                    have k8 := (hB8.out.cell (p := ⟨pb, po + k * 2, none⟩) lp8).trans k8
                    have X9 := Lib.hid (X8.out.below hB8.out)
                    have T9 := Lib.hid (T8.out.below hB8.out)
                    have B9 := Lib.hid (bt B8.out hB8.out)
                    obtain ⟨y0, y1, y2, y3, y4, y5⟩ := cell_in X9.out
                    have np : w2.heap.size ≠ pb := by omega
                    have k9 := (cell_3 (w := wr) (j := po + k * 2) (.slice (some ⟨g1, 0, none⟩) 256 c1) (.int .u8 (S k)) (.int .u8 (Z k)) np).trans k8
                    clear hB8
                    go_wp2
                    go_roundw
                    case rel => exact ⟨k + 1, g1, c1, by omega, by go_num, rfl, G2, Lib.hid (set3 (.slice (some ⟨g1, 0, none⟩) 256 c1) (.int .u8 (S k)) (.int .u8 (Z k)) X9.out), Lib.hid (T9.out.set3 ng _ _ _), ng, Lib.hid (bel3 _ _ _ B9.out (Nat.le_refl _))⟩
                    case measure => simp [intOf]; omega
            · have hz1 : decide (1 < Z k) = true := decide_eq_true (by omega)
              have B9 := Lib.hid (bt B3.out hB.out)
              go_wp2_with first
                | (go_at_call 30; ((with_reducible refine (HF.out).mono ?_); rintro e w4 ⟨rfl, rfl⟩))
              go_ret
              exact ⟨rfl, B9.out⟩
        · have hkn : ¬ (k : Int) < (n : Int) := by omega
          have B9 := Lib.hid (bt B3.out hB.out)
          go_wp2
          go_ret
          exact ⟨rfl, B9.out⟩
set_option maxRecDepth 100000 in
set_option maxHeartbeats 16000000 in
theorem good2 (A O : Option Addr) (ca cb : Nat) (zs : List Int) (n : Nat) (S Z : Nat → Int) (w : World) (RA : RdK .i16 w A zs) (RP : RdP w O n S Z) (h0 : 1 ≤ n) (h1 : n ≤ 6) (hL : 256 * (n + 1) ≤ zs.length) (hm : zs.length ≤ 4000) (hI : InR (-32768) 32767 zs) (S0 : ∀ i, i < n → 0 ≤ S i) (Z0 : ∀ i, i < n → 0 ≤ Z i) (s2 : Hid (S 0 = 2)) :
    Calls Try.prog 10 #[.slice A zs.length ca, .slice O n cb] w fun e w' => e = .returned (.bool true) ∧ Below w.heap.size w w' := by
  obtain ⟨i0, hi, hz0, hz1, hz2⟩ := info_parts Fx.info3
  have d0 : decide ((n : Int) < 1) = false := decide_eq_false (by omega)
  have d1 : decide (6 < (n : Int)) = false := decide_eq_false (by omega)
  have d2 : decide ((zs.length : Int) < 256 * ((n : Int) + 1)) = false := decide_eq_false (by omega)
  have d3 : decide (4000 < (zs.length : Int)) = false := decide_eq_false (by omega)
  have x1 : wrap64 ((n : Int) + 1) = (n : Int) + 1 := w64 (by omega) (by omega)
  have x2 : wrap64 (256 * ((n : Int) + 1)) = 256 * ((n : Int) + 1) := w64 (by omega) (by omega)
  have e2 : (S 0 == 2) = true := by simpa using s2.out
  have RA := Lib.hid RA
  have RP := Lib.hid RP
  have HL := Lib.hid hL
  have HI := Lib.hid hI
  have HS := Lib.hid S0
  have HZ := Lib.hid Z0
  clear hL hI S0 Z0
  go_enter Try.func10, Try.ntmps10
  go_wp2_with first
    | (go_at_call 24; ((with_reducible refine (Lp.alive_ok _).mono ?_); rintro e w1 ⟨rfl, hb1⟩; have B1 := Lib.hid hb1; clear hb1))
    | (refine wpList_make_row _ rfl _ _ 22 rfl 3 i0 (.int .i64 0) Try.underlying22 hi hz0 hz1 rfl .i64 .i64 zs.length rfl rfl (by rw [hz2]; omega) (by omega) ?_)
  clear d0 d1 d2 d3 x1 x2
  go_loopw [7] (fun i wq => ∃ k : Nat, k ≤ zs.length ∧ i = .int .i64 k ∧ Hid (wq.rowIs w1.heap.size 3 zs.length (fun j => .int .i64 (upF (fun j => zs.getD j 0) k j))) ∧ Hid (Below w1.heap.size w1 wq)) (fun i _ => 4000 - (intOf i).toNat)
  case atStart => exact ⟨0, by omega, rfl, Lib.hid ((World.rowIs_made w1 (.int .i64 0) zs.length 3).congr fun j hj => by unfold upF; rw [if_neg (by omega)]), Lib.hid ((Below.refl _ _).alloc (Nat.le_refl _) _)⟩
  case round =>
    obtain ⟨k, hk, rfl, hr, hB⟩ := hrel
    by_cases hlt : k < zs.length
    · obtain ⟨b, off, rfl, lb, q0⟩ := (RA.out.below B1.out) k hlt
      have q1 := (hB.out.cell (p := ⟨b, off + k, none⟩) lb).trans q0
      have q3 := hr.out.frozen k
      have q4 := hr.out.cell hlt
      have qb := HI.out k hlt
      have xw : wrap64 (zs.getD k 0) = zs.getD k 0 := w64 (by omega) (by omega)
      have hX := Lib.hid (show zs.getD k 0 = zs.getD k 0 from rfl)
      generalize hXX : zs.getD k 0 = X at *
      have hX := Lib.hid hXX
      clear hXX
      go_wp2
      go_roundw
      case rel => exact ⟨k + 1, by omega, by go_num, Lib.hid (upF_step hr.out hX.out.symm), Lib.hid (hB.out.setCell (Nat.le_refl _) _)⟩
      case measure => simp [intOf]; omega
    · have hkk : k = zs.length := by omega
      have hlt2 : ¬ (k : Int) < (zs.length : Int) := by omega
      have r1 := Lib.hid (upF_end (hkk ▸ hr.out))
      have RD := Lib.hid (rdA_row (zs := zs) r1.out rfl fun j _ => rfl)
      have B2 := Lib.hid (bt B1.out hB.out)
      clear hr hB r1 hkk hk
      obtain ⟨pb, po, hO, lp0, p00, p01, _⟩ := (RP.out.below B2.out) 0 (by omega)
      subst hO
      go_wp2_with first
        | (go_at_call 23; ((with_reducible refine (new_ok _).mono ?_); rintro e w2 ⟨g0, rfl, hg0, hr0, hb2⟩; unfold lapV; have LT := hr0.lt; have R0 := Lib.hid ((hr0.congr (g := fun j => .int .i64 ((FT S Z zs 0).getD j 0)) fun j hj => by rw [show FT S Z zs 0 = zeros 256 from if_pos rfl, zeros_at])); have RD2 := Lib.hid (RD.out.below hb2); have B3 := Lib.hid (bt B2.out hb2); have P0 := (hb2.cell (p := ⟨pb, po + 0 * 2, none⟩) lp0).trans p00; have LP := Nat.lt_of_lt_of_le lp0 hb2.size; rw [Nat.zero_mul, Nat.add_zero] at P0; clear hr0 hb2 p00 p01))
      have hw0 := Lib.hid (show (was S 0 = 1) from by unfold was; simp [s2.out])
      go_loopw [10, 9] (fun i v wq => ∃ k g c : Nat, k ≤ n ∧ i = .int .i64 k ∧ v = .int .u8 (was S k) ∧ Hid (GoodP S Z k) ∧ Hid (Bh wq w2.heap.size (.slice (some ⟨g, 0, none⟩) 256 c) (.int .u8 (sq0 S k)) (.int .u8 (shp Z k))) ∧ Hid (Lx wq g (FT S Z zs k)) ∧ w2.heap.size ≠ g ∧ Hid (Below w2.heap.size w2 wq)) (fun i _ _ => 7 - (intOf i).toNat)
      case atStart => exact ⟨0, g0, 256, by omega, rfl, by rw [hw0.out], Lib.hid (good_zero S Z), Lib.hid (bh_new w2 _ _ _), Lib.hid ((lx_row R0.out).below (al_new _ _)), (by omega), Lib.hid (al_new _ _)⟩
      case round =>
        obtain ⟨k, g, c, hk, rfl, rfl, hG, hX, hT, hne, hB⟩ := hrel
        by_cases hlt3 : k < n
        · obtain ⟨pb', po', ho, lp, c0, c1, s0, z0⟩ := ((RP.out.below B3.out).below hB.out) k hlt3
          simp only [Option.some.injEq, Addr.mk.injEq, and_true] at ho
          obtain ⟨rfl, rfl⟩ := ho
          have hf := fol_ok (was S k) (S k) wr (was_nn fun i hi => HS.out i (by omega)) s0
          cases hfb : fol (was S k) (S k)
          · rw [hfb] at hf
            have HF := Lib.hid hf
            have B9 := Lib.hid (bt B3.out hB.out)
            clear hf
            go_wp2_with first
              | (go_at_call 30; ((with_reducible refine (HF.out).mono ?_); rintro e w4 ⟨rfl, rfl⟩))
            go_ret
            exact ⟨rfl, B9.out⟩
          · rw [hfb] at hf
            have HF := Lib.hid hf
            have HFB := Lib.hid hfb
            clear hf hfb
            by_cases hz : Z k ≤ 1
            · have hz1 : decide (1 < Z k) = false := decide_eq_false (by omega)
              have G2 := Lib.hid (good_succ hG.out HFB.out hz)
              have MK := Lib.hid (may_k HS.out HZ.out G2.out hlt3)
              have SB := shp_bd hG.out (fun i hi => HZ.out i (by omega))
              obtain ⟨y0, y1, y2, y3, y4, y5⟩ := cell_in hX.out
              have l8 := hX.out.lt
              have eA : (if zs.length = (256 * (k : Int)).toNat then (some ⟨w1.heap.size, 0, none⟩ : Option Addr) else some ⟨w1.heap.size, (256 * (k : Int)).toNat, none⟩) = some ⟨w1.heap.size, 256 * k, none⟩ := by rw [if_neg (by have := HL.out; omega), show (256 * (k : Int)).toNat = 256 * k by omega]
              have eL : (256 * (k : Int) + 512).toNat - (256 * (k : Int)).toNat = 512 := by omega
              have N1 := fun (W : World) (hW : Below wr.heap.size wr W) => analyse_O (S k) (shp Z k) (Z k) (some ⟨w1.heap.size, 256 * k, none⟩) 512 (zs.length - (256 * (k : Int)).toNat) (pcs zs k) W s0 (by omega) z0 (pcs_len HL.out hlt3) (by have := HL.out; omega) (by unfold maxLen; omega) (pcs_rd HL.out hlt3 ((RD2.out.below hB.out).below hW))
              have e1 := aO_good MK.out (pcs_len HL.out hlt3) (pcs_in HL.out hlt3 HI.out)
              rw [e1] at N1
              have N1 := Lib.hid N1
              clear e1
              have x1 : wrap64 (256 * (k : Int)) = 256 * (k : Int) := w64 (by omega) (by omega)
              have x2 : wrap64 (256 * (k : Int) + 512) = 256 * (k : Int) + 512 := w64 (by omega) (by omega)
              have x3 : (0 : Int) ≤ 256 * (k : Int) := by omega
              have x6 : IntKind.i64.wrap (256 * (k : Int)) = 256 * (k : Int) := i64_in (by omega) (by omega)
              have x7 : IntKind.i64.wrap (256 * (k : Int) + 512) = 256 * (k : Int) + 512 := i64_in (by omega) (by omega)
              have x4 : 256 * (k : Int) ≤ 256 * (k : Int) + 512 := by omega
              have x5 : 256 * (k : Int) + 512 ≤ (zs.length : Int) := by have := HL.out; omega
              have KEEP := Lib.hid (fun (W : World) (hW : Below wr.heap.size wr W) => (⟨(hW.cell (p := ⟨pb, po + k * 2, none⟩) lp).trans c0, (hW.cell (p := ⟨pb, po + k * 2 + 1, none⟩) lp).trans c1, (hW.cell (p := ⟨w2.heap.size, 2, none⟩) l8).trans y2, hW⟩ : W.cell? ⟨pb, po + k * 2, none⟩ = some (.int .u8 (S k)) ∧ W.cell? ⟨pb, po + k * 2 + 1, none⟩ = some (.int .u8 (Z k)) ∧ W.cell? ⟨w2.heap.size, 2, none⟩ = some (.int .u8 (shp Z k)) ∧ Below wr.heap.size wr W))
              go_wp2_with first
                | (go_at_call 30; ((with_reducible refine (HF.out).mono ?_); rintro e w4 ⟨rfl, rfl⟩))
              go_region_held3 (fun w' => w'.cell? ⟨pb, po + k * 2, none⟩ = some (.int .u8 (S k)) ∧ w'.cell? ⟨pb, po + k * 2 + 1, none⟩ = some (.int .u8 (Z k)) ∧ w'.cell? ⟨w2.heap.size, 2, none⟩ = some (.int .u8 (shp Z k)) ∧ Below wr.heap.size wr w') (exact KEEP.out _ (by first | exact (Below.refl _ _).drew | exact bt ((‹_ ∧ _ ∧ _ ∧ Below _ _ _›).2.2.2) BB.out | exact Below.refl _ _)) ((go_at_call 15; ((with_reducible refine (N1.out _ ((‹_ ∧ _ ∧ _ ∧ Below _ _ _›).2.2.2)).mono ?_); rintro e w5 ⟨v5, rfl, ho5, hb5⟩; obtain ⟨g5, c5, rfl, hg5, hl5, hc5, hm5, he5, _⟩ := own_open ho5 (AL_len _ _ _ _) (by decide); have C5 := Lib.hid he5; have BB := Lib.hid hb5; clear ho5 he5 hb5)))
              have BB5 := Lib.hid ((Below.refl wr.heap.size wr).drew.trans (BB.out.mono (Nat.le_refl _)) : Below wr.heap.size wr w5)
              have RF := Lib.hid (cells_rd hl5 (AL_len (S k) (shp Z k) (Z k) (pcs zs k)) C5.out)
              have lp5 := Nat.lt_of_lt_of_le lp BB5.out.size
              have k0 := (BB5.out.cell (p := ⟨pb, po + k * 2, none⟩) lp).trans c0
              have k1 := (BB5.out.cell (p := ⟨pb, po + k * 2 + 1, none⟩) lp).trans c1
              have X5 := Lib.hid (hX.out.below BB5.out)
              have T5 := Lib.hid (hT.out.below BB5.out)
              have D5 := Lib.hid (RD2.out.below (bt hB.out BB5.out))
              have B5 := Lib.hid (bt hB.out BB5.out)
              have n8 := hX.out.lt
              clear y0 y1 y2 y3 y4 y5 c0 c1 lp BB C5 KEEP N1 hX hT HF x1 x2 x3 x4 x5 x6 x7 eA eL
              obtain ⟨y0, y1, y2, y3, y4, y5⟩ := cell_in X5.out
              have l85 := X5.out.lt
              have N2 := fun (W : World) (hW : Below w5.heap.size w5 W) => next_O (some ⟨g, 0, none⟩) (some ⟨g5, 0, none⟩) 256 c 256 c5 (FT S Z zs k) (FA S Z zs k) (sq0 S k) (shp Z k) (S k) (Z k) W s0 (by omega) z0 (FT_len _ _ _ _) ((T5.out.rd (FT_len _ _ _ _)).below hW) (AL_len _ _ _ _) hc5 hm5 (RF.out.below hW)
              have e2' := next_k HS.out HZ.out HL.out HI.out G2.out hlt3
              rw [e2'] at N2
              unfold AnsN lapV at N2
              dsimp only at N2
              have N2 := Lib.hid N2
              clear e2'
              have KEEP := Lib.hid (fun (W : World) (hW : Below w5.heap.size w5 W) => (⟨(hW.cell (p := ⟨w2.heap.size, 0, none⟩) l85).trans y0, (hW.cell (p := ⟨w2.heap.size, 1, none⟩) l85).trans y1, (hW.cell (p := ⟨w2.heap.size, 2, none⟩) l85).trans y2, (hW.cell (p := ⟨pb, po + k * 2, none⟩) lp5).trans k0, (hW.cell (p := ⟨pb, po + k * 2 + 1, none⟩) lp5).trans k1, hW⟩ : W.cell? ⟨w2.heap.size, 0, none⟩ = some (.slice (some ⟨g, 0, none⟩) 256 c) ∧ W.cell? ⟨w2.heap.size, 1, none⟩ = some (.int .u8 (sq0 S k)) ∧ W.cell? ⟨w2.heap.size, 2, none⟩ = some (.int .u8 (shp Z k)) ∧ W.cell? ⟨pb, po + k * 2, none⟩ = some (.int .u8 (S k)) ∧ W.cell? ⟨pb, po + k * 2 + 1, none⟩ = some (.int .u8 (Z k)) ∧ Below w5.heap.size w5 W))
              go_wp2_with fail
              refine wp_forget (fun ac a' w' => ∃ gB g1 c1 g2 c2 : Nat, a' = ((((((((((((((((((((ac.put (some 123) (.agg #[.slice (some ⟨g, 0, none⟩) 256 c, .int .u8 (sq0 S k), .int .u8 (shp Z k)])).put (some 124) (.slice (some ⟨pb, po, none⟩) n cb)).put (some 125) (.int .i64 k)).put (some 126) (.pointer (some ⟨pb, po + k * 2, none⟩))).put (some 127) (.pointer (some ⟨pb, po + k * 2, none⟩))).put (some 128) (.int .u8 (S k))).put (some 129) (.slice (some ⟨pb, po, none⟩) n cb)).put (some 130) (.int .i64 k)).put (some 131) (.pointer (some ⟨pb, po + k * 2, none⟩))).put (some 132) (.pointer (some ⟨pb, po + k * 2 + 1, none⟩))).put (some 133) (.int .u8 (Z k))).put (some 134) (.slice (some ⟨g5, 0, none⟩) 256 c5)).put (some 135) (.tuple #[.agg #[.slice (some ⟨g1, 0, none⟩) 256 c1, .int .u8 (S k), .int .u8 (Z k)], .slice (some ⟨g2, 0, none⟩) 256 c2, .int .i64 0])).put (some 122) (.tuple #[.agg #[.slice (some ⟨g1, 0, none⟩) 256 c1, .int .u8 (S k), .int .u8 (Z k)], .slice (some ⟨g2, 0, none⟩) 256 c2, .int .i64 0])).put (some 136) (.agg #[.slice (some ⟨g1, 0, none⟩) 256 c1, .int .u8 (S k), .int .u8 (Z k)])).put (some 137) (.slice (some ⟨g2, 0, none⟩) 256 c2)).put (some 138) (.int .i64 0)).put (some 13) (.pointer (some ⟨gB, 0, none⟩))).put (some 14) (.slice (some ⟨g2, 0, none⟩) 256 c2)).put (some 15) (.int .i64 0)) ∧ Res2 w5 (S k) (Z k) (FT S Z zs (k + 1)) (mk 256 (OUT S Z zs k)) gB g1 c1 g2 c2 w') ?_ ?_
              · go_region_held3 (fun w' => w'.cell? ⟨w2.heap.size, 0, none⟩ = some (.slice (some ⟨g, 0, none⟩) 256 c) ∧ w'.cell? ⟨w2.heap.size, 1, none⟩ = some (.int .u8 (sq0 S k)) ∧ w'.cell? ⟨w2.heap.size, 2, none⟩ = some (.int .u8 (shp Z k)) ∧ w'.cell? ⟨pb, po + k * 2, none⟩ = some (.int .u8 (S k)) ∧ w'.cell? ⟨pb, po + k * 2 + 1, none⟩ = some (.int .u8 (Z k)) ∧ Below w5.heap.size w5 w') (exact KEEP.out _ (by first | exact (Below.refl _ _).drew | exact ((‹_ ∧ _ ∧ _ ∧ _ ∧ _ ∧ Below _ _ _›).2.2.2.2.2).alloc ((‹_ ∧ _ ∧ _ ∧ _ ∧ _ ∧ Below _ _ _›).2.2.2.2.2).size _ | exact bt ((‹_ ∧ _ ∧ _ ∧ _ ∧ _ ∧ Below _ _ _›).2.2.2.2.2) BB.out | exact (bt (al1 _ _) BB.out).alloc (bt (al1 _ _) BB.out).size _ | exact (bt ((Below.refl _ _).drew) BB.out).alloc (bt ((Below.refl _ _).drew) BB.out).size _ | exact bel3 _ _ _ ((‹_ ∧ _ ∧ _ ∧ _ ∧ _ ∧ Below _ _ _›).2.2.2.2.2) (by first | exact Nat.le_refl _ | exact Nat.le_succ _ | exact Nat.le_trans (al1 _ _).size BB.out.size))) ((go_at_call 22; ((with_reducible refine (N2.out _ ((‹_ ∧ _ ∧ _ ∧ _ ∧ _ ∧ Below _ _ _›).2.2.2.2.2)).mono ?_); rintro e w6 ⟨v, u, rfl, ho, hp, hb⟩; obtain ⟨g1, c1, rfl, hg1, hl1, _, _, hc1, _⟩ := own_open ho (FT_len _ _ _ _) (by decide); obtain ⟨g2, c2, rfl, hg2, hl2, _, _, hc2, _⟩ := own_open hp (mk_len 256 (OUT S Z zs k)) (by decide); have C1 := Lib.hid hc1; have C2 := Lib.hid hc2; have BB := Lib.hid hb; clear hc1 hc2 ho hp; first | (have HG : w6.heap[w5.heap.size]? = _ := (BB.out.block _ (by simp)).trans (at_n w5); obtain ⟨f0, f1, f2, f3, f4, f5⟩ := cell_in HG; have HG2 := Lib.hid HG; clear HG) | skip)))
                all_goals
                  first
                    | exact ⟨rfl, w6.heap.size, g1, c1, g2, c2, (by first | rfl | simp only [Act.put, List.setIfInBounds_toArray, List.set_cons_zero, List.set_cons_succ]), res_b (bt ((Below.refl _ _).drew) BB.out) hl1 C1.out hl2 C2.out, (by first | exact hg1 | exact Nat.le_trans (al1 _ _).size hg1 | exact Nat.le_trans ((Below.refl _ _).drew).size hg1)⟩
                    | exact ⟨rfl, w5.heap.size, g1, c1, g2, c2, (by first | rfl | simp only [Act.put, List.setIfInBounds_toArray, List.set_cons_zero, List.set_cons_succ]), res_a (al1 _ _) (Nat.le_refl _) (at_n w5) BB.out hg1 hg2 hl1 C1.out hl2 C2.out, (by first | exact hg1 | exact Nat.le_trans (al1 _ _).size hg1 | exact Nat.le_trans ((Below.refl _ _).drew).size hg1)⟩
              rintro a' w7 ⟨gB, g1, c1, g2, c2, rfl, hR⟩
              obtain ⟨⟨qB, q1, u0, u1, u2, q2, m1, q3, m2, b7⟩, hg1⟩ := hR
              have M2 := Lib.hid m2
              have T7 : Hid (Lx w7 g1 (FT S Z zs (k + 1))) := Lib.hid ⟨q2, m1⟩
              have X7 := Lib.hid (X5.out.below b7)
              have D7 := Lib.hid (D5.out.below b7)
              have B7 := Lib.hid (bt B5.out b7)
              have lp7 := Nat.lt_of_lt_of_le lp5 b7.size
              have k0 := (b7.cell (p := ⟨pb, po + k * 2, none⟩) lp5).trans k0
              have hcc := fun W r => check_yes (some ⟨g1, 0, none⟩) c1 (FT S Z zs (k + 1)) (S k) (Z k) W r (FT_ok HS.out HZ.out HL.out HI.out G2.out (by omega))
              unfold lapV at hcc
              rw [FT_len] at hcc
              have HC := Lib.hid hcc
              clear y0 y1 y2 y3 y4 y5 k1 lp5 KEEP N2 X5 T5 D5 B5 RF BB5 m1 m2 b7 hcc
              simp only [Act.put, List.setIfInBounds_toArray, List.set_cons_zero, List.set_cons_succ]
              go_wp2_with first
                | (go_at_call 25; ((with_reducible refine (HC.out _ (T7.out.rd (FT_len _ _ _ _))).mono ?_); rintro e w8 ⟨rfl, hb8⟩; have M8 := Lib.hid (fun j (hj : j < 256) => (hb8.cell (p := ⟨g2, j, none⟩) q3).trans (M2.out j hj)); have L2 := Nat.lt_of_lt_of_le q3 hb8.size; have T8 := Lib.hid (T7.out.below hb8); have X8 := Lib.hid (X7.out.below hb8); have D8 := Lib.hid (D7.out.below hb8); have B8 := Lib.hid (bt B7.out hb8); have lp8 := Nat.lt_of_lt_of_le lp7 hb8.size; have k8 := (hb8.cell (p := ⟨pb, po + k * 2, none⟩) lp7).trans k0; have v0 := (hb8.cell (p := ⟨gB, 0, none⟩) q1).trans u0; have v1 := (hb8.cell (p := ⟨gB, 1, none⟩) q1).trans u1; have v2 := (hb8.cell (p := ⟨gB, 2, none⟩) q1).trans u2; have LB := Nat.lt_of_lt_of_le q1 hb8.size; clear hb8 u0 u1 u2 k0 M2 T7 X7 D7 B7 lp7 q1 q2 q3))
              have ng : w2.heap.size ≠ g1 := by omega
              have nB : w2.heap.size ≠ gB := by omega
              clear HC
              by_cases hk0 : k = 0
              · have dk : ¬ (0 : Int) < (k : Int) := by omega
                clear hk0
                go_loopw [16] (fun i wq => i = .int .i64 0 ∧ Hid (Below w8.heap.size w8 wq)) (fun i _ => 1)
                case atStart => exact ⟨rfl, Lib.hid (Below.refl _ _)⟩
                case round =>
                  obtain ⟨rfl, hB8⟩ := hrel
                  have v0 := (hB8.out.cell (p := ⟨gB, 0, none⟩) LB).trans v0
                  have v1 := (hB8.out.cell (p := ⟨gB, 1, none⟩) LB).trans v1
                  have v2 := (hB8.out.cell (p := ⟨gB, 2, none⟩) LB).trans v2
                  have k8 := (hB8.out.cell (p := ⟨pb, po + k * 2, none⟩) lp8).trans k8
                  have X9 := Lib.hid (X8.out.below hB8.out)
                  have T9 := Lib.hid (T8.out.below hB8.out)
                  have B9 := Lib.hid (bt B8.out hB8.out)
                  obtain ⟨y0, y1, y2, y3, y4, y5⟩ := cell_in X9.out
                  have np : w2.heap.size ≠ pb := by omega
                  have k9 := (cell_3 (w := wr) (j := po + k * 2) (.slice (some ⟨g1, 0, none⟩) 256 c1) (.int .u8 (S k)) (.int .u8 (Z k)) np).trans k8
                  clear hB8
                  go_wp2
                  go_roundw
                  case rel => exact ⟨k + 1, g1, c1, by omega, by go_num, rfl, G2, Lib.hid (set3 (.slice (some ⟨g1, 0, none⟩) 256 c1) (.int .u8 (S k)) (.int .u8 (Z k)) X9.out), Lib.hid (T9.out.set3 ng _ _ _), ng, Lib.hid (bel3 _ _ _ B9.out (Nat.le_refl _))⟩
                  case measure => simp [intOf]; omega
              · have dk : (0 : Int) < (k : Int) := by omega
                have hk1 := Lib.hid (show 1 ≤ k by omega)
                clear hk0
                generalize zs.length - (256 * (k : Int)).toNat = cq
                go_loopw [16] (fun i wq => ∃ m : Nat, m ≤ 256 ∧ i = .int .i64 m ∧ Hid (Below w8.heap.size w8 wq)) (fun i _ => 256 - (intOf i).toNat)
                case atStart => exact ⟨0, by omega, rfl, Lib.hid (Below.refl _ _)⟩
                case round =>
                  obtain ⟨m, hm2, rfl, hB8⟩ := hrel
                  by_cases hlt4 : m < 256
                  · have r1 := (hB8.out.cell (p := ⟨g2, m, none⟩) L2).trans (M8.out m hlt4)
                    rw [mk_at hlt4] at r1
                    obtain ⟨b, off, e, lb, r2⟩ := (D8.out.below hB8.out) (256 * k + m) (idx hlt3 HL.out hm hlt4).2.2.2.2.2.2
                    simp only [Option.some.injEq, Addr.mk.injEq, and_true] at e
                    obtain ⟨rfl, rfl⟩ := e
                    rw [Nat.zero_add] at r2
                    obtain ⟨o1, o2⟩ := out_k HS.out HZ.out HL.out HI.out G2.out hlt3 hk1.out hlt4
                    obtain ⟨X, Y, p1, p2, p3, p4, _, _⟩ : ∃ X Y : Int, wr.cell? ⟨g2, m, none⟩ = some (.int .i64 X) ∧ wr.cell? ⟨w1.heap.size, 256 * k + m, none⟩ = some (.int .i64 Y) ∧ -2 ≤ X - Y ∧ X - Y ≤ 2 ∧ -32768 ≤ Y ∧ Y ≤ 32767 := ⟨_, _, r1, r2, o1, o2, (HI.out (256 * k + m) (idx hlt3 HL.out hm hlt4).2.2.2.2.2.2).1, (HI.out (256 * k + m) (idx hlt3 HL.out hm hlt4).2.2.2.2.2.2).2⟩
                    clear r1 r2 o1 o2
                    obtain ⟨x1, x2, x3, x4, x5, x6, _⟩ := idx hlt3 HL.out hm hlt4
                    obtain ⟨x8, x9, t1, t2⟩ := dif p3 p4
                    clear x1 x2 x8
                    have x7 := idx2 k m
                    clear p3 p4
                    have X3 := Lib.hid x3
                    have X4 := Lib.hid x4
                    have X9 := Lib.hid x9
                    clear x3 x4 x9
                    go_wp2
                    have x3 := X3.out
                    have x4 := X4.out
                    have x9 := X9.out
                    go_quiet (fail)
                    clear x3 x4 x9 x7
                    go_wp2
                    go_roundw
                    case rel => exact ⟨m + 1, by omega, by go_num, Lib.hid (hB8.out.trans ((drewN_below _ _).mono hB8.out.size))⟩
                    case measure => simp [intOf]; omega
                  · have hlt5 : ¬ (m : Int) < 256 := by omega
                    have v0 := (hB8.out.cell (p := ⟨gB, 0, none⟩) LB).trans v0
                    have v1 := (hB8.out.cell (p := ⟨gB, 1, none⟩) LB).trans v1
                    have v2 := (hB8.out.cell (p := ⟨gB, 2, none⟩) LB).trans v2
                    have k8 := (hB8.out.cell (p := ⟨pb, po + k * 2, none⟩) lp8).trans k8
                    have X9 := Lib.hid (X8.out.below hB8.out)
                    have T9 := Lib.hid (T8.out.below hB8.out)
                    have B9 := Lib.hid (bt B8.out hB8.out)
                    obtain ⟨y0, y1, y2, y3, y4, y5⟩ := cell_in X9.out
                    have np : w2.heap.size ≠ pb := by omega
                    have k9 := (cell_3 (w := wr) (j := po + k * 2) (.slice (some ⟨g1, 0, none⟩) 256 c1) (.int .u8 (S k)) (.int .u8 (Z k)) np).trans k8
                    clear hB8
                    go_wp2
                    go_roundw
                    case rel => exact ⟨k + 1, g1, c1, by omega, by go_num, rfl, G2, Lib.hid (set3 (.slice (some ⟨g1, 0, none⟩) 256 c1) (.int .u8 (S k)) (.int .u8 (Z k)) X9.out), Lib.hid (T9.out.set3 ng _ _ _), ng, Lib.hid (bel3 _ _ _ B9.out (Nat.le_refl _))⟩
                    case measure => simp [intOf]; omega
            · have hz1 : decide (1 < Z k) = true := decide_eq_true (by omega)
              have B9 := Lib.hid (bt B3.out hB.out)
              go_wp2_with first
                | (go_at_call 30; ((with_reducible refine (HF.out).mono ?_); rintro e w4 ⟨rfl, rfl⟩))
              go_ret
              exact ⟨rfl, B9.out⟩
        · have hkn : ¬ (k : Int) < (n : Int) := by omega
          have B9 := Lib.hid (bt B3.out hB.out)
          go_wp2
          go_ret
          exact ⟨rfl, B9.out⟩
set_option maxRecDepth 100000 in
set_option maxHeartbeats 16000000 in
theorem good3 (A O : Option Addr) (ca cb : Nat) (zs : List Int) (n : Nat) (S Z : Nat → Int) (w : World) (RA : RdK .i16 w A zs) (RP : RdP w O n S Z) (h0 : 1 ≤ n) (h1 : n ≤ 6) (hL : 256 * (n + 1) ≤ zs.length) (hm : zs.length ≤ 4000) (hI : InR (-32768) 32767 zs) (S0 : ∀ i, i < n → 0 ≤ S i) (Z0 : ∀ i, i < n → 0 ≤ Z i) (s3 : Hid (S 0 = 3)) :
    Calls Try.prog 10 #[.slice A zs.length ca, .slice O n cb] w fun e w' => e = .returned (.bool true) ∧ Below w.heap.size w w' := by
  obtain ⟨i0, hi, hz0, hz1, hz2⟩ := info_parts Fx.info3
  have d0 : decide ((n : Int) < 1) = false := decide_eq_false (by omega)
  have d1 : decide (6 < (n : Int)) = false := decide_eq_false (by omega)
  have d2 : decide ((zs.length : Int) < 256 * ((n : Int) + 1)) = false := decide_eq_false (by omega)
  have d3 : decide (4000 < (zs.length : Int)) = false := decide_eq_false (by omega)
  have x1 : wrap64 ((n : Int) + 1) = (n : Int) + 1 := w64 (by omega) (by omega)
  have x2 : wrap64 (256 * ((n : Int) + 1)) = 256 * ((n : Int) + 1) := w64 (by omega) (by omega)
  have e2 : (S 0 == 2) = false := by simp [s3.out]
  have e3 : (S 0 == 3) = true := by simpa using s3.out
  have RA := Lib.hid RA
  have RP := Lib.hid RP
  have HL := Lib.hid hL
  have HI := Lib.hid hI
  have HS := Lib.hid S0
  have HZ := Lib.hid Z0
  clear hL hI S0 Z0
  go_enter Try.func10, Try.ntmps10
  go_wp2_with first
    | (go_at_call 24; ((with_reducible refine (Lp.alive_ok _).mono ?_); rintro e w1 ⟨rfl, hb1⟩; have B1 := Lib.hid hb1; clear hb1))
    | (refine wpList_make_row _ rfl _ _ 22 rfl 3 i0 (.int .i64 0) Try.underlying22 hi hz0 hz1 rfl .i64 .i64 zs.length rfl rfl (by rw [hz2]; omega) (by omega) ?_)
  clear d0 d1 d2 d3 x1 x2
  go_loopw [7] (fun i wq => ∃ k : Nat, k ≤ zs.length ∧ i = .int .i64 k ∧ Hid (wq.rowIs w1.heap.size 3 zs.length (fun j => .int .i64 (upF (fun j => zs.getD j 0) k j))) ∧ Hid (Below w1.heap.size w1 wq)) (fun i _ => 4000 - (intOf i).toNat)
  case atStart => exact ⟨0, by omega, rfl, Lib.hid ((World.rowIs_made w1 (.int .i64 0) zs.length 3).congr fun j hj => by unfold upF; rw [if_neg (by omega)]), Lib.hid ((Below.refl _ _).alloc (Nat.le_refl _) _)⟩
  case round =>
    obtain ⟨k, hk, rfl, hr, hB⟩ := hrel
    by_cases hlt : k < zs.length
    · obtain ⟨b, off, rfl, lb, q0⟩ := (RA.out.below B1.out) k hlt
      have q1 := (hB.out.cell (p := ⟨b, off + k, none⟩) lb).trans q0
      have q3 := hr.out.frozen k
      have q4 := hr.out.cell hlt
      have qb := HI.out k hlt
      have xw : wrap64 (zs.getD k 0) = zs.getD k 0 := w64 (by omega) (by omega)
      have hX := Lib.hid (show zs.getD k 0 = zs.getD k 0 from rfl)
      generalize hXX : zs.getD k 0 = X at *
      have hX := Lib.hid hXX
      clear hXX
      go_wp2
      go_roundw
      case rel => exact ⟨k + 1, by omega, by go_num, Lib.hid (upF_step hr.out hX.out.symm), Lib.hid (hB.out.setCell (Nat.le_refl _) _)⟩
      case measure => simp [intOf]; omega
    · have hkk : k = zs.length := by omega
      have hlt2 : ¬ (k : Int) < (zs.length : Int) := by omega
      have r1 := Lib.hid (upF_end (hkk ▸ hr.out))
      have RD := Lib.hid (rdA_row (zs := zs) r1.out rfl fun j _ => rfl)
      have B2 := Lib.hid (bt B1.out hB.out)
      clear hr hB r1 hkk hk
      obtain ⟨pb, po, hO, lp0, p00, p01, _⟩ := (RP.out.below B2.out) 0 (by omega)
      subst hO
      go_wp2_with first
        | (go_at_call 23; ((with_reducible refine (new_ok _).mono ?_); rintro e w2 ⟨g0, rfl, hg0, hr0, hb2⟩; unfold lapV; have LT := hr0.lt; have R0 := Lib.hid ((hr0.congr (g := fun j => .int .i64 ((FT S Z zs 0).getD j 0)) fun j hj => by rw [show FT S Z zs 0 = zeros 256 from if_pos rfl, zeros_at])); have RD2 := Lib.hid (RD.out.below hb2); have B3 := Lib.hid (bt B2.out hb2); have P0 := (hb2.cell (p := ⟨pb, po + 0 * 2, none⟩) lp0).trans p00; have LP := Nat.lt_of_lt_of_le lp0 hb2.size; rw [Nat.zero_mul, Nat.add_zero] at P0; clear hr0 hb2 p00 p01))
      have hw0 := Lib.hid (show (was S 0 = 1) from by unfold was; simp [s3.out])
      go_loopw [10, 9] (fun i v wq => ∃ k g c : Nat, k ≤ n ∧ i = .int .i64 k ∧ v = .int .u8 (was S k) ∧ Hid (GoodP S Z k) ∧ Hid (Bh wq w2.heap.size (.slice (some ⟨g, 0, none⟩) 256 c) (.int .u8 (sq0 S k)) (.int .u8 (shp Z k))) ∧ Hid (Lx wq g (FT S Z zs k)) ∧ w2.heap.size ≠ g ∧ Hid (Below w2.heap.size w2 wq)) (fun i _ _ => 7 - (intOf i).toNat)
      case atStart => exact ⟨0, g0, 256, by omega, rfl, by rw [hw0.out], Lib.hid (good_zero S Z), Lib.hid (bh_new w2 _ _ _), Lib.hid ((lx_row R0.out).below (al_new _ _)), (by omega), Lib.hid (al_new _ _)⟩
      case round =>
        obtain ⟨k, g, c, hk, rfl, rfl, hG, hX, hT, hne, hB⟩ := hrel
        by_cases hlt3 : k < n
        · obtain ⟨pb', po', ho, lp, c0, c1, s0, z0⟩ := ((RP.out.below B3.out).below hB.out) k hlt3
          simp only [Option.some.injEq, Addr.mk.injEq, and_true] at ho
          obtain ⟨rfl, rfl⟩ := ho
          have hf := fol_ok (was S k) (S k) wr (was_nn fun i hi => HS.out i (by omega)) s0
          cases hfb : fol (was S k) (S k)
          · rw [hfb] at hf
            have HF := Lib.hid hf
            have B9 := Lib.hid (bt B3.out hB.out)
            clear hf
            go_wp2_with first
              | (go_at_call 30; ((with_reducible refine (HF.out).mono ?_); rintro e w4 ⟨rfl, rfl⟩))
            go_ret
            exact ⟨rfl, B9.out⟩
          · rw [hfb] at hf
            have HF := Lib.hid hf
            have HFB := Lib.hid hfb
            clear hf hfb
            by_cases hz : Z k ≤ 1
            · have hz1 : decide (1 < Z k) = false := decide_eq_false (by omega)
              have G2 := Lib.hid (good_succ hG.out HFB.out hz)
              have MK := Lib.hid (may_k HS.out HZ.out G2.out hlt3)
              have SB := shp_bd hG.out (fun i hi => HZ.out i (by omega))
              obtain ⟨y0, y1, y2, y3, y4, y5⟩ := cell_in hX.out
              have l8 := hX.out.lt
              have eA : (if zs.length = (256 * (k : Int)).toNat then (some ⟨w1.heap.size, 0, none⟩ : Option Addr) else some ⟨w1.heap.size, (256 * (k : Int)).toNat, none⟩) = some ⟨w1.heap.size, 256 * k, none⟩ := by rw [if_neg (by have := HL.out; omega), show (256 * (k : Int)).toNat = 256 * k by omega]
              have eL : (256 * (k : Int) + 512).toNat - (256 * (k : Int)).toNat = 512 := by omega
              have N1 := fun (W : World) (hW : Below wr.heap.size wr W) => analyse_O (S k) (shp Z k) (Z k) (some ⟨w1.heap.size, 256 * k, none⟩) 512 (zs.length - (256 * (k : Int)).toNat) (pcs zs k) W s0 (by omega) z0 (pcs_len HL.out hlt3) (by have := HL.out; omega) (by unfold maxLen; omega) (pcs_rd HL.out hlt3 ((RD2.out.below hB.out).below hW))
              have e1 := aO_good MK.out (pcs_len HL.out hlt3) (pcs_in HL.out hlt3 HI.out)
              rw [e1] at N1
              have N1 := Lib.hid N1
              clear e1
              have x1 : wrap64 (256 * (k : Int)) = 256 * (k : Int) := w64 (by omega) (by omega)
              have x2 : wrap64 (256 * (k : Int) + 512) = 256 * (k : Int) + 512 := w64 (by omega) (by omega)
              have x3 : (0 : Int) ≤ 256 * (k : Int) := by omega
              have x6 : IntKind.i64.wrap (256 * (k : Int)) = 256 * (k : Int) := i64_in (by omega) (by omega)
              have x7 : IntKind.i64.wrap (256 * (k : Int) + 512) = 256 * (k : Int) + 512 := i64_in (by omega) (by omega)
              have x4 : 256 * (k : Int) ≤ 256 * (k : Int) + 512 := by omega
              have x5 : 256 * (k : Int) + 512 ≤ (zs.length : Int) := by have := HL.out; omega
              have KEEP := Lib.hid (fun (W : World) (hW : Below wr.heap.size wr W) => (⟨(hW.cell (p := ⟨pb, po + k * 2, none⟩) lp).trans c0, (hW.cell (p := ⟨pb, po + k * 2 + 1, none⟩) lp).trans c1, (hW.cell (p := ⟨w2.heap.size, 2, none⟩) l8).trans y2, hW⟩ : W.cell? ⟨pb, po + k * 2, none⟩ = some (.int .u8 (S k)) ∧ W.cell? ⟨pb, po + k * 2 + 1, none⟩ = some (.int .u8 (Z k)) ∧ W.cell? ⟨w2.heap.size, 2, none⟩ = some (.int .u8 (shp Z k)) ∧ Below wr.heap.size wr W))
              go_wp2_with first
                | (go_at_call 30; ((with_reducible refine (HF.out).mono ?_); rintro e w4 ⟨rfl, rfl⟩))
              go_region_held3 (fun w' => w'.cell? ⟨pb, po + k * 2, none⟩ = some (.int .u8 (S k)) ∧ w'.cell? ⟨pb, po + k * 2 + 1, none⟩ = some (.int .u8 (Z k)) ∧ w'.cell? ⟨w2.heap.size, 2, none⟩ = some (.int .u8 (shp Z k)) ∧ Below wr.heap.size wr w') (exact KEEP.out _ (by first | exact (Below.refl _ _).drew | exact bt ((‹_ ∧ _ ∧ _ ∧ Below _ _ _›).2.2.2) BB.out | exact Below.refl _ _)) ((go_at_call 15; ((with_reducible refine (N1.out _ ((‹_ ∧ _ ∧ _ ∧ Below _ _ _›).2.2.2)).mono ?_); rintro e w5 ⟨v5, rfl, ho5, hb5⟩; obtain ⟨g5, c5, rfl, hg5, hl5, hc5, hm5, he5, _⟩ := own_open ho5 (AL_len _ _ _ _) (by decide); have C5 := Lib.hid he5; have BB := Lib.hid hb5; clear ho5 he5 hb5)))
              have BB5 := Lib.hid ((Below.refl wr.heap.size wr).drew.trans (BB.out.mono (Nat.le_refl _)) : Below wr.heap.size wr w5)
              have RF := Lib.hid (cells_rd hl5 (AL_len (S k) (shp Z k) (Z k) (pcs zs k)) C5.out)
              have lp5 := Nat.lt_of_lt_of_le lp BB5.out.size
              have k0 := (BB5.out.cell (p := ⟨pb, po + k * 2, none⟩) lp).trans c0
              have k1 := (BB5.out.cell (p := ⟨pb, po + k * 2 + 1, none⟩) lp).trans c1
              have X5 := Lib.hid (hX.out.below BB5.out)
              have T5 := Lib.hid (hT.out.below BB5.out)
              have D5 := Lib.hid (RD2.out.below (bt hB.out BB5.out))
              have B5 := Lib.hid (bt hB.out BB5.out)
              have n8 := hX.out.lt
              clear y0 y1 y2 y3 y4 y5 c0 c1 lp BB C5 KEEP N1 hX hT HF x1 x2 x3 x4 x5 x6 x7 eA eL
              obtain ⟨y0, y1, y2, y3, y4, y5⟩ := cell_in X5.out
              have l85 := X5.out.lt
              have N2 := fun (W : World) (hW : Below w5.heap.size w5 W) => next_O (some ⟨g, 0, none⟩) (some ⟨g5, 0, none⟩) 256 c 256 c5 (FT S Z zs k) (FA S Z zs k) (sq0 S k) (shp Z k) (S k) (Z k) W s0 (by omega) z0 (FT_len _ _ _ _) ((T5.out.rd (FT_len _ _ _ _)).below hW) (AL_len _ _ _ _) hc5 hm5 (RF.out.below hW)
              have e2' := next_k HS.out HZ.out HL.out HI.out G2.out hlt3
              rw [e2'] at N2
              unfold AnsN lapV at N2
              dsimp only at N2
              have N2 := Lib.hid N2
              clear e2'
              have KEEP := Lib.hid (fun (W : World) (hW : Below w5.heap.size w5 W) => (⟨(hW.cell (p := ⟨w2.heap.size, 0, none⟩) l85).trans y0, (hW.cell (p := ⟨w2.heap.size, 1, none⟩) l85).trans y1, (hW.cell (p := ⟨w2.heap.size, 2, none⟩) l85).trans y2, (hW.cell (p := ⟨pb, po + k * 2, none⟩) lp5).trans k0, (hW.cell (p := ⟨pb, po + k * 2 + 1, none⟩) lp5).trans k1, hW⟩ : W.cell? ⟨w2.heap.size, 0, none⟩ = some (.slice (some ⟨g, 0, none⟩) 256 c) ∧ W.cell? ⟨w2.heap.size, 1, none⟩ = some (.int .u8 (sq0 S k)) ∧ W.cell? ⟨w2.heap.size, 2, none⟩ = some (.int .u8 (shp Z k)) ∧ W.cell? ⟨pb, po + k * 2, none⟩ = some (.int .u8 (S k)) ∧ W.cell? ⟨pb, po + k * 2 + 1, none⟩ = some (.int .u8 (Z k)) ∧ Below w5.heap.size w5 W))
              go_wp2_with fail
              refine wp_forget (fun ac a' w' => ∃ gB g1 c1 g2 c2 : Nat, a' = ((((((((((((((((((((ac.put (some 123) (.agg #[.slice (some ⟨g, 0, none⟩) 256 c, .int .u8 (sq0 S k), .int .u8 (shp Z k)])).put (some 124) (.slice (some ⟨pb, po, none⟩) n cb)).put (some 125) (.int .i64 k)).put (some 126) (.pointer (some ⟨pb, po + k * 2, none⟩))).put (some 127) (.pointer (some ⟨pb, po + k * 2, none⟩))).put (some 128) (.int .u8 (S k))).put (some 129) (.slice (some ⟨pb, po, none⟩) n cb)).put (some 130) (.int .i64 k)).put (some 131) (.pointer (some ⟨pb, po + k * 2, none⟩))).put (some 132) (.pointer (some ⟨pb, po + k * 2 + 1, none⟩))).put (some 133) (.int .u8 (Z k))).put (some 134) (.slice (some ⟨g5, 0, none⟩) 256 c5)).put (some 135) (.tuple #[.agg #[.slice (some ⟨g1, 0, none⟩) 256 c1, .int .u8 (S k), .int .u8 (Z k)], .slice (some ⟨g2, 0, none⟩) 256 c2, .int .i64 0])).put (some 122) (.tuple #[.agg #[.slice (some ⟨g1, 0, none⟩) 256 c1, .int .u8 (S k), .int .u8 (Z k)], .slice (some ⟨g2, 0, none⟩) 256 c2, .int .i64 0])).put (some 136) (.agg #[.slice (some ⟨g1, 0, none⟩) 256 c1, .int .u8 (S k), .int .u8 (Z k)])).put (some 137) (.slice (some ⟨g2, 0, none⟩) 256 c2)).put (some 138) (.int .i64 0)).put (some 13) (.pointer (some ⟨gB, 0, none⟩))).put (some 14) (.slice (some ⟨g2, 0, none⟩) 256 c2)).put (some 15) (.int .i64 0)) ∧ Res2 w5 (S k) (Z k) (FT S Z zs (k + 1)) (mk 256 (OUT S Z zs k)) gB g1 c1 g2 c2 w') ?_ ?_
              · go_region_held3 (fun w' => w'.cell? ⟨w2.heap.size, 0, none⟩ = some (.slice (some ⟨g, 0, none⟩) 256 c) ∧ w'.cell? ⟨w2.heap.size, 1, none⟩ = some (.int .u8 (sq0 S k)) ∧ w'.cell? ⟨w2.heap.size, 2, none⟩ = some (.int .u8 (shp Z k)) ∧ w'.cell? ⟨pb, po + k * 2, none⟩ = some (.int .u8 (S k)) ∧ w'.cell? ⟨pb, po + k * 2 + 1, none⟩ = some (.int .u8 (Z k)) ∧ Below w5.heap.size w5 w') (exact KEEP.out _ (by first | exact (Below.refl _ _).drew | exact ((‹_ ∧ _ ∧ _ ∧ _ ∧ _ ∧ Below _ _ _›).2.2.2.2.2).alloc ((‹_ ∧ _ ∧ _ ∧ _ ∧ _ ∧ Below _ _ _›).2.2.2.2.2).size _ | exact bt ((‹_ ∧ _ ∧ _ ∧ _ ∧ _ ∧ Below _ _ _›).2.2.2.2.2) BB.out | exact (bt (al1 _ _) BB.out).alloc (bt (al1 _ _) BB.out).size _ | exact (bt ((Below.refl _ _).drew) BB.out).alloc (bt ((Below.refl _ _).drew) BB.out).size _ | exact bel3 _ _ _ ((‹_ ∧ _ ∧ _ ∧ _ ∧ _ ∧ Below _ _ _›).2.2.2.2.2) (by first | exact Nat.le_refl _ | exact Nat.le_succ _ | exact Nat.le_trans (al1 _ _).size BB.out.size))) ((go_at_call 22; ((with_reducible refine (N2.out _ ((‹_ ∧ _ ∧ _ ∧ _ ∧ _ ∧ Below _ _ _›).2.2.2.2.2)).mono ?_); rintro e w6 ⟨v, u, rfl, ho, hp, hb⟩; obtain ⟨g1, c1, rfl, hg1, hl1, _, _, hc1, _⟩ := own_open ho (FT_len _ _ _ _) (by decide); obtain ⟨g2, c2, rfl, hg2, hl2, _, _, hc2, _⟩ := own_open hp (mk_len 256 (OUT S Z zs k)) (by decide); have C1 := Lib.hid hc1; have C2 := Lib.hid hc2; have BB := Lib.hid hb; clear hc1 hc2 ho hp; first | (have HG : w6.heap[w5.heap.size]? = _ := (BB.out.block _ (by simp)).trans (at_n w5); obtain ⟨f0, f1, f2, f3, f4, f5⟩ := cell_in HG; have HG2 := Lib.hid HG; clear HG) | skip)))
                all_goals
                  first
                    | exact ⟨rfl, w6.heap.size, g1, c1, g2, c2, (by first | rfl | simp only [Act.put, List.setIfInBounds_toArray, List.set_cons_zero, List.set_cons_succ]), res_b (bt ((Below.refl _ _).drew) BB.out) hl1 C1.out hl2 C2.out, (by first | exact hg1 | exact Nat.le_trans (al1 _ _).size hg1 | exact Nat.le_trans ((Below.refl _ _).drew).size hg1)⟩
                    | exact ⟨rfl, w5.heap.size, g1, c1, g2, c2, (by first | rfl | simp only [Act.put, List.setIfInBounds_toArray, List.set_cons_zero, List.set_cons_succ]), res_a (al1 _ _) (Nat.le_refl _) (at_n w5) BB.out hg1 hg2 hl1 C1.out hl2 C2.out, (by first | exact hg1 | exact Nat.le_trans (al1 _ _).size hg1 | exact Nat.le_trans ((Below.refl _ _).drew).size hg1)⟩
              rintro a' w7 ⟨gB, g1, c1, g2, c2, rfl, hR⟩
              obtain ⟨⟨qB, q1, u0, u1, u2, q2, m1, q3, m2, b7⟩, hg1⟩ := hR
              have M2 := Lib.hid m2
              have T7 : Hid (Lx w7 g1 (FT S Z zs (k + 1))) := Lib.hid ⟨q2, m1⟩
              have X7 := Lib.hid (X5.out.below b7)
              have D7 := Lib.hid (D5.out.below b7)
              have B7 := Lib.hid (bt B5.out b7)
              have lp7 := Nat.lt_of_lt_of_le lp5 b7.size
              have k0 := (b7.cell (p := ⟨pb, po + k * 2, none⟩) lp5).trans k0
              have hcc := fun W r => check_yes (some ⟨g1, 0, none⟩) c1 (FT S Z zs (k + 1)) (S k) (Z k) W r (FT_ok HS.out HZ.out HL.out HI.out G2.out (by omega))
              unfold lapV at hcc
              rw [FT_len] at hcc
              have HC := Lib.hid hcc
              clear y0 y1 y2 y3 y4 y5 k1 lp5 KEEP N2 X5 T5 D5 B5 RF BB5 m1 m2 b7 hcc
              simp only [Act.put, List.setIfInBounds_toArray, List.set_cons_zero, List.set_cons_succ]
              go_wp2_with first
                | (go_at_call 25; ((with_reducible refine (HC.out _ (T7.out.rd (FT_len _ _ _ _))).mono ?_); rintro e w8 ⟨rfl, hb8⟩; have M8 := Lib.hid (fun j (hj : j < 256) => (hb8.cell (p := ⟨g2, j, none⟩) q3).trans (M2.out j hj)); have L2 := Nat.lt_of_lt_of_le q3 hb8.size; have T8 := Lib.hid (T7.out.below hb8); have X8 := Lib.hid (X7.out.below hb8); have D8 := Lib.hid (D7.out.below hb8); have B8 := Lib.hid (bt B7.out hb8); have lp8 := Nat.lt_of_lt_of_le lp7 hb8.size; have k8 := (hb8.cell (p := ⟨pb, po + k * 2, none⟩) lp7).trans k0; have v0 := (hb8.cell (p := ⟨gB, 0, none⟩) q1).trans u0; have v1 := (hb8.cell (p := ⟨gB, 1, none⟩) q1).trans u1; have v2 := (hb8.cell (p := ⟨gB, 2, none⟩) q1).trans u2; have LB := Nat.lt_of_lt_of_le q1 hb8.size; clear hb8 u0 u1 u2 k0 M2 T7 X7 D7 B7 lp7 q1 q2 q3))
              have ng : w2.heap.size ≠ g1 := by omega
              have nB : w2.heap.size ≠ gB := by omega
              clear HC
              by_cases hk0 : k = 0
              · have dk : ¬ (0 : Int) < (k : Int) := by omega
                clear hk0
                go_loopw [16] (fun i wq => i = .int .i64 0 ∧ Hid (Below w8.heap.size w8 wq)) (fun i _ => 1)
                case atStart => exact ⟨rfl, Lib.hid (Below.refl _ _)⟩
                case round =>
                  obtain ⟨rfl, hB8⟩ := hrel
                  have v0 := (hB8.out.cell (p := ⟨gB, 0, none⟩) LB).trans v0
                  have v1 := (hB8.out.cell (p := ⟨gB, 1, none⟩) LB).trans v1
                  have v2 := (hB8.out.cell (p := ⟨gB, 2, none⟩) LB).trans v2
                  have k8 := (hB8.out.cell (p := ⟨pb, po + k * 2, none⟩) lp8).trans k8
                  have X9 := Lib.hid (X8.out.below hB8.out)
                  have T9 := Lib.hid (T8.out.below hB8.out)
                  have B9 := Lib.hid (bt B8.out hB8.out)
                  obtain ⟨y0, y1, y2, y3, y4, y5⟩ := cell_in X9.out
                  have np : w2.heap.size ≠ pb := by omega
                  have k9 := (cell_3 (w := wr) (j := po + k * 2) (.slice (some ⟨g1, 0, none⟩) 256 c1) (.int .u8 (S k)) (.int .u8 (Z k)) np).trans k8
                  clear hB8
                  go_wp2
                  go_roundw
                  case rel => exact ⟨k + 1, g1, c1, by omega, by go_num, rfl, G2, Lib.hid (set3 (.slice (some ⟨g1, 0, none⟩) 256 c1) (.int .u8 (S k)) (.int .u8 (Z k)) X9.out), Lib.hid (T9.out.set3 ng _ _ _), ng, Lib.hid (bel3 _ _ _ B9.out (Nat.le_refl _))⟩
                  case measure => simp [intOf]; omega
              · have dk : (0 : Int) < (k : Int) := by omega
                have hk1 := Lib.hid (show 1 ≤ k by omega)
                clear hk0
                generalize zs.length - (256 * (k : Int)).toNat = cq
                go_loopw [16] (fun i wq => ∃ m : Nat, m ≤ 256 ∧ i = .int .i64 m ∧ Hid (Below w8.heap.size w8 wq)) (fun i _ => 256 - (intOf i).toNat)
                case atStart => exact ⟨0, by omega, rfl, Lib.hid (Below.refl _ _)⟩
                case round =>
                  obtain ⟨m, hm2, rfl, hB8⟩ := hrel
                  by_cases hlt4 : m < 256
                  · have r1 := (hB8.out.cell (p := ⟨g2, m, none⟩) L2).trans (M8.out m hlt4)
                    rw [mk_at hlt4] at r1
                    obtain ⟨b, off, e, lb, r2⟩ := (D8.out.below hB8.out) (256 * k + m) (idx hlt3 HL.out hm hlt4).2.2.2.2.2.2
                    simp only [Option.some.injEq, Addr.mk.injEq, and_true] at e
                    obtain ⟨rfl, rfl⟩ := e
                    rw [Nat.zero_add] at r2
                    obtain ⟨o1, o2⟩ := out_k HS.out HZ.out HL.out HI.out G2.out hlt3 hk1.out hlt4
                    obtain ⟨X, Y, p1, p2, p3, p4, _, _⟩ : ∃ X Y : Int, wr.cell? ⟨g2, m, none⟩ = some (.int .i64 X) ∧ wr.cell? ⟨w1.heap.size, 256 * k + m, none⟩ = some (.int .i64 Y) ∧ -2 ≤ X - Y ∧ X - Y ≤ 2 ∧ -32768 ≤ Y ∧ Y ≤ 32767 := ⟨_, _, r1, r2, o1, o2, (HI.out (256 * k + m) (idx hlt3 HL.out hm hlt4).2.2.2.2.2.2).1, (HI.out (256 * k + m) (idx hlt3 HL.out hm hlt4).2.2.2.2.2.2).2⟩
                    clear r1 r2 o1 o2
                    obtain ⟨x1, x2, x3, x4, x5, x6, _⟩ := idx hlt3 HL.out hm hlt4
                    obtain ⟨x8, x9, t1, t2⟩ := dif p3 p4
                    clear x1 x2 x8
                    have x7 := idx2 k m
                    clear p3 p4
                    have X3 := Lib.hid x3
                    have X4 := Lib.hid x4
                    have X9 := Lib.hid x9
                    clear x3 x4 x9
                    go_wp2
                    have x3 := X3.out
                    have x4 := X4.out
                    have x9 := X9.out
                    go_quiet (fail)
                    clear x3 x4 x9 x7
                    go_wp2
                    go_roundw
                    case rel => exact ⟨m + 1, by omega, by go_num, Lib.hid (hB8.out.trans ((drewN_below _ _).mono hB8.out.size))⟩
                    case measure => simp [intOf]; omega
                  · have hlt5 : ¬ (m : Int) < 256 := by omega
                    have v0 := (hB8.out.cell (p := ⟨gB, 0, none⟩) LB).trans v0
                    have v1 := (hB8.out.cell (p := ⟨gB, 1, none⟩) LB).trans v1
                    have v2 := (hB8.out.cell (p := ⟨gB, 2, none⟩) LB).trans v2
                    have k8 := (hB8.out.cell (p := ⟨pb, po + k * 2, none⟩) lp8).trans k8
                    have X9 := Lib.hid (X8.out.below hB8.out)
                    have T9 := Lib.hid (T8.out.below hB8.out)
                    have B9 := Lib.hid (bt B8.out hB8.out)
                    obtain ⟨y0, y1, y2, y3, y4, y5⟩ := cell_in X9.out
                    have np : w2.heap.size ≠ pb := by omega
                    have k9 := (cell_3 (w := wr) (j := po + k * 2) (.slice (some ⟨g1, 0, none⟩) 256 c1) (.int .u8 (S k)) (.int .u8 (Z k)) np).trans k8
                    clear hB8
                    go_wp2
                    go_roundw
                    case rel => exact ⟨k + 1, g1, c1, by omega, by go_num, rfl, G2, Lib.hid (set3 (.slice (some ⟨g1, 0, none⟩) 256 c1) (.int .u8 (S k)) (.int .u8 (Z k)) X9.out), Lib.hid (T9.out.set3 ng _ _ _), ng, Lib.hid (bel3 _ _ _ B9.out (Nat.le_refl _))⟩
                    case measure => simp [intOf]; omega
            · have hz1 : decide (1 < Z k) = true := decide_eq_true (by omega)
              have B9 := Lib.hid (bt B3.out hB.out)
              go_wp2_with first
                | (go_at_call 30; ((with_reducible refine (HF.out).mono ?_); rintro e w4 ⟨rfl, rfl⟩))
              go_ret
              exact ⟨rfl, B9.out⟩
        · have hkn : ¬ (k : Int) < (n : Int) := by omega
          have B9 := Lib.hid (bt B3.out hB.out)
          go_wp2
          go_ret
          exact ⟨rfl, B9.out⟩
theorem walk (a : Option Addr) (len cap : Nat) (z : List Int) (o : Option Addr) (n cb : Nat) (S Z : Nat → Int) (w : World) (wr : IsRow .i16 w a len cap z) (wp : RdP w o n S Z) :
    Calls Try.prog 10 #[.slice a len cap, .slice o n cb] w fun e w' => e = .returned (.bool true) ∧ Below w.heap.size w w' := by
  obtain ⟨zs, hl, RA, _, hwf⟩ := wr.open
  subst hl
  have hI := i16_in hwf
  have S0 : ∀ i, i < n → 0 ≤ S i := fun i hi => by obtain ⟨_, _, _, _, _, _, h, _⟩ := wp i hi; exact h
  have Z0 : ∀ i, i < n → 0 ≤ Z i := fun i hi => by obtain ⟨_, _, _, _, _, _, _, h⟩ := wp i hi; exact h
  by_cases c0 : n < 1
  · exact far0 a o cap cb zs n S Z w RA wp c0
  by_cases c1 : 6 < n
  · exact far1 a o cap cb zs n S Z w RA wp (by omega) c1
  by_cases c2 : zs.length < 256 * (n + 1)
  · exact far2 a o cap cb zs n S Z w RA wp (by omega) (by omega) c2
  by_cases c3 : 4000 < zs.length
  · exact far3 a o cap cb zs n S Z w RA wp (by omega) (by omega) (by omega) c3
  by_cases s2 : S 0 = 2
  · exact good2 a o cap cb zs n S Z w RA wp (by omega) (by omega) (by omega) (by omega) hI S0 Z0 (Lib.hid s2)
  by_cases s3 : S 0 = 3
  · exact good3 a o cap cb zs n S Z w RA wp (by omega) (by omega) (by omega) (by omega) hI S0 Z0 (Lib.hid s3)
  · exact goodN a o cap cb zs n S Z w RA wp (by omega) (by omega) (by omega) (by omega) hI S0 Z0 s2 s3

theorem own : ownKnob Try.prog.godebug = none := by kernel_rfl
theorem laidOut : laidOutB Try.prog = true := by kernel_rfl
set_option linter.unusedVariables false
set_option maxRecDepth 100000 in
theorem lifted (os : Os) (started : os.Started) (H : Type) (enc : TypeId × Value → H) :
    ReturnsInHanded {} Try.checked os 10 .any (Rows.lapBackSpec.pre6 enc Try.prog Try.f10 Rows.lapBackRow.domain false) (Rows.lapBackSpec.post enc Try.prog Try.f10 false true false false) := by
  refine returnsInHanded_of_change (C := Try.checked) own started (by kernel_rfl) Try.func10
    (ChangeSpec.witness6 (enc := enc) (C := Try.checked) false ⟨#[], #[.slice none 0 0, .slice none 0 0], []⟩ 8 (by kernel_rfl) (by kernel_rfl) (by kernel_rfl) (by kernel_rfl)) ?_
  intro W base args ds gs before hval0 hW hcnd _
  have hval : ∀ (j : Nat) t v, Try.f10.params[j]? = some t → args[j]? = some v → Value.okWide Try.prog W .any base t v := hval0
  have hW' := hW
  obtain ⟨p, q, hA0, hV, rfl, hfz, hnd⟩ := hW
  have hA : DataW.TrodAll enc Try.prog W 0 (fun _ => true) true Try.f10.params.toList args.toList ds p := hA0
  rw [Try.params10] at hA hval
  obtain ⟨v0, vs0, d0, ds0, p0, q0, hargs, rfl, rfl, h0, r0⟩ := trodAll_cons hA
  obtain ⟨v1, vs1, d1, ds1, p1, q1, rfl, rfl, rfl, h1, r1⟩ := trodAll_cons r0
  obtain ⟨rfl, rfl, rfl⟩ := trodAll_nil r1
  obtain rfl : args = #[v0, v1] := by cases args; simp_all
  obtain ⟨rfl, rfl⟩ := trodVars_none hV
  obtain ⟨a0, len0, cap0, rfl⟩ := okWide_slice Try.underlying48 (hval 0 48 v0 rfl rfl)
  have k0 := h0
  have lt0 : ∀ x ∈ p0, x.block < W.heap.size := by obtain ⟨m, hm⟩ := k0; exact DataW.trod_lt m _ _ _ hm
  obtain ⟨z0, w0⟩ : ∃ zs, IsRow .i16 W a0 len0 cap0 zs := by
    obtain ⟨fuel, hf⟩ := h0
    rcases open_ints Try.underlying48 Try.underlying34 (by kernel_rfl) hf with ⟨hcs, _⟩ | ⟨x, l, c, zs, hcs, _, hl, hm, hz, _, hcell, hwz⟩
    · simp [Value.cells] at hcs
      obtain ⟨rfl, rfl, rfl⟩ := hcs
      exact ⟨[], .inl ⟨rfl, rfl, rfl, rfl⟩⟩
    · simp [Value.cells] at hcs
      obtain ⟨rfl, rfl, rfl⟩ := hcs
      exact ⟨zs, .inr ⟨_, rfl, hl, hm, by simpa using hz, hcell, hwz⟩⟩
  obtain ⟨a1, len1, cap1, rfl⟩ := okWide_slice Try.underlying49 (hval 1 49 v1 rfl rfl)
  have k1 := h1
  have lt1 : ∀ x ∈ p1, x.block < W.heap.size := by obtain ⟨m, hm⟩ := k1; exact DataW.trod_lt m _ _ _ hm
  obtain ⟨y1, z1, w1, c1a, c1b⟩ := open_path Try.underlying49 Try.underlying51 (by kernel_rfl) rfl rfl Try.underlying5 Try.underlying5 (by kernel_rfl) (by kernel_rfl) h1
  clear hA0 hval0
  refine (walk a0 len0 cap0 z0 a1 len1 cap1 y1 z1 W w0 w1).mono fun e W' ⟨he, bel⟩ => ?_
  subst he
  exact ⟨_, rfl, _, _, _, [], _, [], hW', trodAll_mk1 (shut_bool Try.underlying4 _), (trodAll_cons_mk (Below.trod laidOut (by kernel_rfl) (of_decide_eq_true (by kernel_rfl)) k0 bel lt0) (trodAll_cons_mk (Below.trod laidOut (by kernel_rfl) (of_decide_eq_true (by kernel_rfl)) k1 bel lt1) trodAll_mk0)), rfl, bel.frame _, fun h => by cases h⟩

theorem over : Rows.lapBackRow.holds Try.pinned (OpenSpec.ofChange Rows.lapBackSpec) :=
  OpenClaim.holds_of_wide 10 Try.f10 rfl rfl rfl rfl rfl rfl rfl ⟨rfl, rfl, rfl, rfl, rfl⟩ rfl rfl rfl rfl rfl (by kernel_rfl) Try.func10 (by kernel_rfl)
    (of_decide_eq_true (by kernel_rfl)) (by unfold Func.isWrapper; first | (rw [if_pos (by decide +kernel)]; kernel_rfl) | (rw [if_neg (by decide +kernel)]; exact ⟨rfl, rfl⟩))
    (fun os started H enc _ => lifted os started H enc)

theorem proved : Rows.LapBackSaid := over
end Go.Proofs.Yteknakakefhbmaa.lapBack
