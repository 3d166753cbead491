/- What info's Get answers. -/
import Derived.Test.YtchefgnefcabnaaMrg3
import Derived.RangeFuncBox
import Derived.WalkKit
import Derived.OwnWalk
import Derived.RegionTactic
import Derived.ProofKit
import Derived.OpenShut
import Derived.Lib.Hide
namespace Go.Proofs.Ytchefgnefcabnaa.In
open Go Go.ChangeShapes Go.WideShapes Go.ChangeAt Go.RowKit Go.Shelf Go.Proofs.Ytchefgnefcabnaa.Bi Go.Proofs.Ytchefgnefcabnaa.If
open Go.Proofs.Ytchefgnefcabnaa.Cr (Own Bits Sl)

/-- The box of the windows. -/
def IB (w : World) (B : Nat) (s h m : Int) (v : Value) : Prop := w.heap[B]? = some (.cells #[.int .u8 s, .int .u8 h, .int .i64 m, v] 24 (0, 0))
theorem IB.cells {w : World} {B : Nat} {s h m : Int} {v : Value} (x : IB w B s h m v) : w.cell? ⟨B, 0, none⟩ = some (.int .u8 s) ∧ w.cell? ⟨B, 1, none⟩ = some (.int .u8 h) ∧ w.cell? ⟨B, 2, none⟩ = some (.int .i64 m) ∧ w.cell? ⟨B, 3, none⟩ = some v ∧ w.frozen? ⟨B, 0, none⟩ = false ∧ w.frozen? ⟨B, 1, none⟩ = false ∧ w.frozen? ⟨B, 2, none⟩ = false ∧ w.frozen? ⟨B, 3, none⟩ = false := by
  unfold IB at x
  refine ⟨?_, ?_, ?_, ?_, ?_, ?_, ?_, ?_⟩ <;> simp [World.cell?, World.frozen?, x]
theorem IB.set {w : World} {B : Nat} {s h m : Int} {v : Value} (x : IB w B s h m v) (o : Nat) (u : Value) : (w.setCell ⟨B, o, none⟩ u).heap[B]? = some (.cells (#[.int .u8 s, .int .u8 h, .int .i64 m, v].setIfInBounds o u) 24 (0, 0)) := by
  obtain ⟨hlt, hk⟩ := Array.getElem?_eq_some_iff.1 (show w.heap[B]? = _ from x)
  show (w.heap.modify B _)[B]? = _
  rw [Array.getElem?_eq_getElem (by rw [Array.size_modify]; exact hlt), Array.getElem_modify_self, hk]
  rfl
/-- Get's boxes, behind w. -/
structure GI (w : World) (v0 : Value) (y : World) (s h m : Int) (v : Value) (A E : Int) : Prop where
  st : St (w.heap.size + 1 + 1 + 1) w.heap.size (w.heap.size + 1) v0 y A E
  ib : IB y (w.heap.size + 1 + 1) s h m v
  bel : Below w.heap.size w y
theorem GI.set0 {w y : World} {v0 v : Value} {s h m A E : Int} (x : GI w v0 y s h m v A E) (n : Int) : GI w v0 (y.setCell ⟨w.heap.size + 1 + 1, 0, none⟩ (.int .u8 n)) n h m v A E :=
  ⟨x.st.set (by omega) (by omega) (by omega), x.ib.set 0 _, x.bel.setCell (by simp; omega) _⟩
theorem GI.set1 {w y : World} {v0 v : Value} {s h m A E : Int} (x : GI w v0 y s h m v A E) (n : Int) : GI w v0 (y.setCell ⟨w.heap.size + 1 + 1, 1, none⟩ (.int .u8 n)) s n m v A E :=
  ⟨x.st.set (by omega) (by omega) (by omega), x.ib.set 1 _, x.bel.setCell (by simp; omega) _⟩
theorem GI.set2 {w y : World} {v0 v : Value} {s h m A E : Int} (x : GI w v0 y s h m v A E) (n : Int) : GI w v0 (y.setCell ⟨w.heap.size + 1 + 1, 2, none⟩ (.int .i64 n)) s h n v A E :=
  ⟨x.st.set (by omega) (by omega) (by omega), x.ib.set 2 _, x.bel.setCell (by simp; omega) _⟩
theorem GI.set3 {w y : World} {v0 v : Value} {s h m A E : Int} (x : GI w v0 y s h m v A E) (u : Value) : GI w v0 (y.setCell ⟨w.heap.size + 1 + 1, 3, none⟩ u) s h m u A E :=
  ⟨x.st.set (by omega) (by omega) (by omega), x.ib.set 3 _, x.bel.setCell (by simp; omega) _⟩
theorem GI.below {w y y' : World} {v0 v : Value} {s h m A E : Int} (x : GI w v0 y s h m v A E) (hb : Below y.heap.size y y') : GI w v0 y' s h m v A E :=
  ⟨x.st.ex hb, (hb.block _ (Array.getElem?_eq_some_iff.1 (show y.heap[_]? = _ from x.ib)).1).trans x.ib, x.bel.trans (hb.mono (x.bel.size))⟩
theorem GI.ex {w y y' : World} {v0 v : Value} {s h m A E A' E' : Int} (x : GI w v0 y s h m v A E) (hs : St (w.heap.size + 1 + 1 + 1) w.heap.size (w.heap.size + 1) v0 y' A' E') (hx : Ex (w.heap.size + 1) (w.heap.size + 1 + 1 + 1) y y') : GI w v0 y' s h m v A' E' :=
  ⟨hs, (hx.block _ (Array.getElem?_eq_some_iff.1 (show y.heap[_]? = _ from x.ib)).1 (by omega) (by omega)).trans x.ib, hx.bel x.bel x.bel.size (by omega) (by omega)⟩
/-- The closure, over these. -/
theorem get_call {w : World} {a : Option Addr} {c : Nat} {zs : List Int} (hs : Sl w (.slice a zs.length c) zs) (hl : zs.length ≤ maxLen) (hz : ∀ z ∈ zs, 0 ≤ z ∧ z ≤ 255) {A E n A' E' : Int} (s : Nat) {S : Int} (hS : S = s) (s0 : 1 ≤ s) (s1 : s ≤ 31) (hg : gs zs A E s = (n, A', E'))
    {y : World} {q h m : Int} {v : Value} (x : GI w (.slice a zs.length c) y q h m v A E) :
    Calls Try.prog 25 #[.int .i64 S, .pointer (some ⟨w.heap.size + 1 + 1 + 1, 0, none⟩), .pointer (some ⟨w.heap.size, 0, none⟩), .pointer (some ⟨w.heap.size + 1, 0, none⟩)] y fun e w' => e = .returned (.int .i64 n) ∧ GI w (.slice a zs.length c) w' q h m v A' E' :=
  (gc_ok hS hg hs hl hz s0 s1 x.bel x.st (by omega) (by omega) (by omega)).mono fun _ _ ⟨h1, h2, h3⟩ => ⟨h1, x.ex h2 h3⟩
theorem get_groups {w : World} {a : Option Addr} {c : Nat} {zs : List Int} (hs : Sl w (.slice a zs.length c) zs) (hl : zs.length ≤ maxLen) (hz : ∀ z ∈ zs, 0 ≤ z ∧ z ≤ 255) {A E A' E' : Int} {gz : List Int} (hg : gl zs A E 7 = gz) (ha : (gi zs A E 7).2.1 = A') (he : (gi zs A E 7).2.2 = E')
    {y : World} {q h m : Int} {v : Value} (x : GI w (.slice a zs.length c) y q h m v A E) :
    Calls Try.prog 27 #[.func (.func 25) #[] #[.pointer (some ⟨w.heap.size + 1 + 1 + 1, 0, none⟩), .pointer (some ⟨w.heap.size, 0, none⟩), .pointer (some ⟨w.heap.size + 1, 0, none⟩)]] y fun e w' => ∃ g cap, e = .returned (.slice (some ⟨g, 0, none⟩) gz.length cap) ∧ RdA w' (some ⟨g, 0, none⟩) gz ∧ w.heap.size + 1 + 1 + 1 < g ∧ GI w (.slice a zs.length c) w' q h m v A' E' := by
  subst hg ha he
  exact (groups_ok hs hl hz x.bel (by omega) (by omega) x.st (by omega) (by omega) (by omega)).mono fun _ _ ⟨g, cap, h1, h2, h3, h4, h5⟩ => ⟨g, cap, h1, h2, by have := x.st.e.lt; omega, x.ex h4 h5⟩
theorem gi_open (w : World) (v0 : Value) (A : Int) : GI w v0 ((((w.alloc (.cells #[v0] 25)).alloc (.cells #[.int .i64 A] 3)).alloc (.cells #[.int .u8 0, .int .u8 0, .int .i64 0, .slice none 0 0] 24)).alloc (.cells #[.int .i64 0] 27)) 0 0 0 (.slice none 0 0) A 0 := by
  refine ⟨⟨?_, ?_, ?_⟩, ?_, ?_⟩
  · have := Boxed.new (((w.alloc (.cells #[v0] 25)).alloc (.cells #[.int .i64 A] 3)).alloc (.cells #[.int .u8 0, .int .u8 0, .int .i64 0, .slice none 0 0] 24)) 27 (.int .i64 0)
    simpa [World.size_alloc] using this
  · exact (((Boxed.new w 25 v0).alloc _).alloc _).alloc _
  · have := ((Boxed.new (w.alloc (.cells #[v0] 25)) 3 (.int .i64 A)).alloc (.cells #[.int .u8 0, .int .u8 0, .int .i64 0, .slice none 0 0] 24)).alloc (.cells #[.int .i64 0] 27)
    simpa using this
  · have h1 := World.alloc_heap_new ((w.alloc (.cells #[v0] 25)).alloc (.cells #[.int .i64 A] 3)) (.cells #[.int .u8 0, .int .u8 0, .int .i64 0, .slice none 0 0] 24)
    have h2 := Below.heap_alloc (((w.alloc (.cells #[v0] 25)).alloc (.cells #[.int .i64 A] 3)).alloc (.cells #[.int .u8 0, .int .u8 0, .int .i64 0, .slice none 0 0] 24)) (.cells #[.int .i64 0] 27) (w.heap.size + 1 + 1) (by simp)
    unfold IB
    rw [h2]
    simpa using h1
  · exact ((((Below.refl _ w).alloc (Nat.le_refl _) _).alloc (by simp) _).alloc (by simp; omega) _).alloc (by simp; omega) _
set_option maxRecDepth 100000 in
/-- A rate that may not be. -/
theorem get_rate {w : World} {a : Option Addr} {c : Nat} {zs : List Int} (A r : Int) (hr : r < 0 ∨ 11 < r) :
    Calls Try.prog 9 #[.slice a zs.length c, .int .i64 A, .int .i64 r] w fun e w' => e = .returned (.tuple #[.agg #[.int .u8 0, .int .u8 0, .int .i64 0, .slice none 0 0], .int .i64 0, .int .i64 2]) ∧ Below w.heap.size w w' := by
  have x0 := gi_open w (.slice a zs.length c) A
  obtain ⟨c0, c1, c2, c3, f0, f1, f2, f3⟩ := x0.ib.cells
  have ce := x0.st.e.cell
  have fe := x0.st.e.frozen
  have HB := Lib.hid x0.bel
  clear x0
  by_cases h1 : r < 0
  · clear hr
    go_enter Try.func9, Try.ntmps9
    go_wp2
    refine bodyPost_ret (by simp [results, Try.results9, go_sem]; try rfl) rfl ?_
    exact ⟨rfl, ((((Below.refl _ w).alloc (Nat.le_refl _) _).alloc (by simp) _).alloc (by simp; omega) _).alloc (by simp; omega) _⟩
  · have h2 : 11 < r := by omega
    clear hr
    go_enter Try.func9, Try.ntmps9
    go_wp2
    refine bodyPost_ret (by simp [results, Try.results9, go_sem]; try rfl) rfl ?_
    exact ⟨rfl, ((((Below.refl _ w).alloc (Nat.le_refl _) _).alloc (by simp) _).alloc (by simp; omega) _).alloc (by simp; omega) _⟩
theorem rd_set {w y : World} {g : Nat} {gz : List Int} (h : RdA y (some ⟨g, 0, none⟩) gz) (hg : w.heap.size + 1 + 1 < g) (u : Value) : RdA (y.setCell ⟨w.heap.size + 1 + 1, 3, none⟩ u) (some ⟨g, 0, none⟩) gz := fun i hi => by
  obtain ⟨b, off, e, h1, h2⟩ := h i hi
  cases e
  exact ⟨g, 0, rfl, by simpa using h1, by rw [World.cell?_setCell_other _ _ _ _ (by first | (simp; done) | (simp; omega))]; exact h2⟩
theorem rd_setk {y : World} {g B o : Nat} {u : Value} {gz : List Int} (h : RdA y (some ⟨g, 0, none⟩) gz) (hg : B < g) : RdA (y.setCell ⟨B, o, none⟩ u) (some ⟨g, 0, none⟩) gz := fun i hi => by
  obtain ⟨b, off, e, h1, h2⟩ := h i hi
  cases e
  exact ⟨g, 0, rfl, by simpa using h1, by rw [World.cell?_setCell_other _ _ _ _ (by first | (simp; done) | (simp; omega))]; exact h2⟩
theorem rd_drew {y : World} {a : Option Addr} {gz : List Int} (h : RdA y a gz) : RdA y.drew a gz := fun i hi => h i hi
theorem check_one (r q h m : Int) (p : Addr) (w : World) (hr : RdA w (some p) [1]) : Calls Try.prog 11 #[.int .i64 r, .agg #[.int .u8 q, .int .u8 h, .int .i64 m, .slice (some p) 1 1]] w fun e w' => e = .returned (.int .i64 (chk r q h m [1])) ∧ Below w.heap.size w w' :=
  check_ok r q h m (some p) 1 [1] w (by decide) hr
theorem rd_one {w : World} (y : World) (hg : w.heap.size + 1 + 1 < y.heap.size) : RdA ((y.alloc (.cells #[.int .i64 1] 3)).setCell ⟨w.heap.size + 1 + 1, 3, none⟩ (.slice (some ⟨y.heap.size, 0, none⟩) 1 1)) (some ⟨y.heap.size, 0, none⟩) [1] := by
  refine rd_set ?_ hg _
  exact own_rd (one_new y) rfl
set_option maxRecDepth 100000 in
set_option maxHeartbeats 2000000 in
theorem short1 {w : World} {a : Option Addr} {c : Nat} {zs : List Int} (hs : Sl w (.slice a zs.length c) zs) (hl : zs.length ≤ maxLen) (hz : ∀ z ∈ zs, 0 ≤ z ∧ z ≤ 255) {A r z q h m A1 A2 A3 A4 A5 E1 E2 E3 E4 E5 : Int} {gz : List Int} (r0 : 0 ≤ r) (r1 : r ≤ 11)
    (h1 : gs zs A 0 1 = (z, A1, E1)) (h2 : gs zs A1 E1 2 = (q, A2, E2)) (h3 : gs zs A2 E2 1 = (h, A3, E3)) (hq : q = 2) (h4 : gs zs A3 E3 4 = (m, A4, E4)) (hg : gl zs A4 E4 7 = gz) (ha : (gi zs A4 E4 7).2.1 = A5) (he : (gi zs A4 E4 7).2.2 = E5) (e5 : ¬ E5 = 0) :
    Calls Try.prog 9 #[.slice a zs.length c, .int .i64 A, .int .i64 r] w fun e w' => e = .returned (.tuple #[.agg #[.int .u8 0, .int .u8 0, .int .i64 0, .slice none 0 0], .int .i64 0, .int .i64 E5]) ∧ Below w.heap.size w w' := by
  have K1 := Lib.hid (fun (y : World) (q h m : Int) (v : Value) (x : GI w (.slice a zs.length c) y q h m v A 0) => get_call hs hl hz 1 (S := 1) rfl (by decide) (by decide) h1 x)
  have K2 := Lib.hid (fun (y : World) (q h m : Int) (v : Value) (x : GI w (.slice a zs.length c) y q h m v A1 E1) => get_call hs hl hz 2 (S := 2) rfl (by decide) (by decide) h2 x)
  have K3 := Lib.hid (fun (y : World) (q h m : Int) (v : Value) (x : GI w (.slice a zs.length c) y q h m v A2 E2) => get_call hs hl hz 1 (S := 1) rfl (by decide) (by decide) h3 x)
  have K4 := Lib.hid (fun (y : World) (q h m : Int) (v : Value) (x : GI w (.slice a zs.length c) y q h m v A3 E3) => get_call hs hl hz 4 (S := 4) rfl (by decide) (by decide) h4 x)
  have K5 := Lib.hid (fun (y : World) (q h m : Int) (v : Value) (x : GI w (.slice a zs.length c) y q h m v A4 E4) => get_groups hs hl hz hg ha he x)
  obtain ⟨z0, z1⟩ := gs_bd h1
  obtain ⟨q0, q1⟩ := gs_bd h2
  obtain ⟨p0, p1⟩ := gs_bd h3
  obtain ⟨m0, m1⟩ := gs_bd h4
  rw [show (2 : Int) ^ 1 = 2 from rfl] at z1 p1
  rw [show (2 : Int) ^ 2 = 4 from rfl] at q1
  rw [show (2 : Int) ^ 4 = 16 from rfl] at m1
  have x0 := gi_open w (.slice a zs.length c) A
  obtain ⟨i0, i1, i2, i3, i4, i5, i6, i7⟩ := x0.ib.cells; have i8 := x0.st.e.cell; have i9 := x0.st.a.cell; have ia := x0.st.e.frozen
  have G0 := Lib.hid x0
  subst hq
  have hgl : gz.length ≤ 100000 := by rw [← hg]; have := (gl_bd zs A4 E4 7).2.1; omega
  clear hs hz x0 h1 h2 h3 h4 hg ha he
  have e6 : (E5 == 0) = false := by simpa using e5
  have e7 : (E5 != 0) = true := by simpa using e5
  go_enter Try.func9, Try.ntmps9
  go_wp2_with (first
    | (go_at_call 25; ((with_reducible refine (K1.out _ _ _ _ _ G0.out).mono ?_); rintro e y1 ⟨rfl, g1⟩; obtain ⟨a0, a1, a2, a3, a4, a5, a6, a7⟩ := g1.ib.cells; have a8 := g1.st.e.cell; have a9 := g1.st.a.cell; have aa := g1.st.e.frozen; have G1 := Lib.hid g1; clear g1))
    | (go_at_call 25; ((with_reducible refine (K2.out _ _ _ _ _ G1.out).mono ?_); rintro e y2 ⟨rfl, g2⟩; obtain ⟨b0, b1, b2, b3, b4, b5, b6, b7⟩ := g2.ib.cells; have b8 := g2.st.e.cell; have b9 := g2.st.a.cell; have ba := g2.st.e.frozen; have G2 := Lib.hid (g2.set0 2); clear g2))
    | (go_at_call 25; ((with_reducible refine (K3.out _ _ _ _ _ G2.out).mono ?_); rintro e y3 ⟨rfl, g3⟩; obtain ⟨c0, c1, c2, c3, c4, c5, c6, c7⟩ := g3.ib.cells; have c8 := g3.st.e.cell; have c9 := g3.st.a.cell; have ca := g3.st.e.frozen; have G3 := Lib.hid (g3.set1 h); clear g3))
    | (go_at_call 25; ((with_reducible refine (K4.out _ _ _ _ _ G3.out).mono ?_); rintro e y4 ⟨rfl, g4⟩; obtain ⟨d0, d1, d2, d3, d4, d5, d6, d7⟩ := g4.ib.cells; have d8 := g4.st.e.cell; have d9 := g4.st.a.cell; have da := g4.st.e.frozen; have G4 := Lib.hid (g4.set2 m); clear g4))
    | (go_at_call 27; ((with_reducible refine (K5.out _ _ _ _ _ G4.out).mono ?_); rintro e y5 ⟨g, cap, rfl, rd, hgl2, g5⟩; obtain ⟨f0, f1, f2, f3, f4, f5, f6, f7⟩ := g5.ib.cells; have f8 := g5.st.e.cell; have f9 := g5.st.a.cell; have fa := g5.st.e.frozen; have HB5 := Lib.hid g5.bel; have G6 := Lib.hid (g5.set3 (.slice (some ⟨g, 0, none⟩) gz.length cap)); have R6 := Lib.hid (rd_set (w := w) rd (by omega) (.slice (some ⟨g, 0, none⟩) gz.length cap)); clear g5 rd)))
  go_region
  go_wp2
  refine bodyPost_ret (by simp (maxDischargeDepth := 8) [results, Try.results9, go_sem, f0, f1, f2, f3, f8]; try rfl) rfl ?_
  refine ⟨rfl, ?_⟩
  (repeat (first | (with_reducible refine Below.drew ?_) | (with_reducible refine Below.setCell ?_ (by first | (simp; done) | (simp; omega)) _) | (with_reducible exact G6.out.bel) | (with_reducible exact HB5.out)))
set_option maxRecDepth 100000 in
set_option maxHeartbeats 2000000 in
theorem short2 {w : World} {a : Option Addr} {c : Nat} {zs : List Int} (hs : Sl w (.slice a zs.length c) zs) (hl : zs.length ≤ maxLen) (hz : ∀ z ∈ zs, 0 ≤ z ∧ z ≤ 255) {A r z q h m A1 A2 A3 A4 A5 E1 E2 E3 E4 E5 : Int} {gz : List Int} (r0 : 0 ≤ r) (r1 : r ≤ 11)
    (h1 : gs zs A 0 1 = (z, A1, E1)) (h2 : gs zs A1 E1 2 = (q, A2, E2)) (h3 : gs zs A2 E2 1 = (h, A3, E3)) (hq : q = 2) (h4 : gs zs A3 E3 4 = (m, A4, E4)) (hg : gl zs A4 E4 7 = gz) (ha : (gi zs A4 E4 7).2.1 = A5) (he : (gi zs A4 E4 7).2.2 = E5) (e5 : E5 = 0) (hz0 : ¬ z = 0) :
    Calls Try.prog 9 #[.slice a zs.length c, .int .i64 A, .int .i64 r] w fun e w' => e = .returned (.tuple #[.agg #[.int .u8 0, .int .u8 0, .int .i64 0, .slice none 0 0], .int .i64 0, .int .i64 8]) ∧ Below w.heap.size w w' := by
  have K1 := Lib.hid (fun (y : World) (q h m : Int) (v : Value) (x : GI w (.slice a zs.length c) y q h m v A 0) => get_call hs hl hz 1 (S := 1) rfl (by decide) (by decide) h1 x)
  have K2 := Lib.hid (fun (y : World) (q h m : Int) (v : Value) (x : GI w (.slice a zs.length c) y q h m v A1 E1) => get_call hs hl hz 2 (S := 2) rfl (by decide) (by decide) h2 x)
  have K3 := Lib.hid (fun (y : World) (q h m : Int) (v : Value) (x : GI w (.slice a zs.length c) y q h m v A2 E2) => get_call hs hl hz 1 (S := 1) rfl (by decide) (by decide) h3 x)
  have K4 := Lib.hid (fun (y : World) (q h m : Int) (v : Value) (x : GI w (.slice a zs.length c) y q h m v A3 E3) => get_call hs hl hz 4 (S := 4) rfl (by decide) (by decide) h4 x)
  have K5 := Lib.hid (fun (y : World) (q h m : Int) (v : Value) (x : GI w (.slice a zs.length c) y q h m v A4 E4) => get_groups hs hl hz hg ha he x)
  obtain ⟨z0, z1⟩ := gs_bd h1
  obtain ⟨q0, q1⟩ := gs_bd h2
  obtain ⟨p0, p1⟩ := gs_bd h3
  obtain ⟨m0, m1⟩ := gs_bd h4
  rw [show (2 : Int) ^ 1 = 2 from rfl] at z1 p1
  rw [show (2 : Int) ^ 2 = 4 from rfl] at q1
  rw [show (2 : Int) ^ 4 = 16 from rfl] at m1
  have x0 := gi_open w (.slice a zs.length c) A
  obtain ⟨i0, i1, i2, i3, i4, i5, i6, i7⟩ := x0.ib.cells; have i8 := x0.st.e.cell; have i9 := x0.st.a.cell; have ia := x0.st.e.frozen
  have G0 := Lib.hid x0
  subst hq
  have hgl : gz.length ≤ 100000 := by rw [← hg]; have := (gl_bd zs A4 E4 7).2.1; omega
  clear hs hz x0 h1 h2 h3 h4 hg ha he
  subst e5
  have z6 : (z == 0) = false := by simpa using hz0
  have z7 : (z != 0) = true := by simpa using hz0
  go_enter Try.func9, Try.ntmps9
  go_wp2_with (first
    | (go_at_call 25; ((with_reducible refine (K1.out _ _ _ _ _ G0.out).mono ?_); rintro e y1 ⟨rfl, g1⟩; obtain ⟨a0, a1, a2, a3, a4, a5, a6, a7⟩ := g1.ib.cells; have a8 := g1.st.e.cell; have a9 := g1.st.a.cell; have aa := g1.st.e.frozen; have G1 := Lib.hid g1; clear g1))
    | (go_at_call 25; ((with_reducible refine (K2.out _ _ _ _ _ G1.out).mono ?_); rintro e y2 ⟨rfl, g2⟩; obtain ⟨b0, b1, b2, b3, b4, b5, b6, b7⟩ := g2.ib.cells; have b8 := g2.st.e.cell; have b9 := g2.st.a.cell; have ba := g2.st.e.frozen; have G2 := Lib.hid (g2.set0 2); clear g2))
    | (go_at_call 25; ((with_reducible refine (K3.out _ _ _ _ _ G2.out).mono ?_); rintro e y3 ⟨rfl, g3⟩; obtain ⟨c0, c1, c2, c3, c4, c5, c6, c7⟩ := g3.ib.cells; have c8 := g3.st.e.cell; have c9 := g3.st.a.cell; have ca := g3.st.e.frozen; have G3 := Lib.hid (g3.set1 h); clear g3))
    | (go_at_call 25; ((with_reducible refine (K4.out _ _ _ _ _ G3.out).mono ?_); rintro e y4 ⟨rfl, g4⟩; obtain ⟨d0, d1, d2, d3, d4, d5, d6, d7⟩ := g4.ib.cells; have d8 := g4.st.e.cell; have d9 := g4.st.a.cell; have da := g4.st.e.frozen; have G4 := Lib.hid (g4.set2 m); clear g4))
    | (go_at_call 27; ((with_reducible refine (K5.out _ _ _ _ _ G4.out).mono ?_); rintro e y5 ⟨g, cap, rfl, rd, hgl2, g5⟩; obtain ⟨f0, f1, f2, f3, f4, f5, f6, f7⟩ := g5.ib.cells; have f8 := g5.st.e.cell; have f9 := g5.st.a.cell; have fa := g5.st.e.frozen; have HB5 := Lib.hid g5.bel; have G6 := Lib.hid (g5.set3 (.slice (some ⟨g, 0, none⟩) gz.length cap)); have R6 := Lib.hid (rd_set (w := w) rd (by omega) (.slice (some ⟨g, 0, none⟩) gz.length cap)); clear g5 rd)))
  go_region
  go_wp2
  refine bodyPost_ret (by simp (maxDischargeDepth := 8) [results, Try.results9, go_sem, f0, f1, f2, f3, f8]; try rfl) rfl ?_
  refine ⟨rfl, ?_⟩
  (repeat (first | (with_reducible refine Below.drew ?_) | (with_reducible refine Below.setCell ?_ (by first | (simp; done) | (simp; omega)) _) | (with_reducible exact G6.out.bel) | (with_reducible exact HB5.out)))
set_option maxRecDepth 100000 in
set_option maxHeartbeats 2000000 in
theorem short3 {w : World} {a : Option Addr} {c : Nat} {zs : List Int} (hs : Sl w (.slice a zs.length c) zs) (hl : zs.length ≤ maxLen) (hz : ∀ z ∈ zs, 0 ≤ z ∧ z ≤ 255) {A r z q h m A1 A2 A3 A4 A5 E1 E2 E3 E4 E5 : Int} {gz : List Int} (r0 : 0 ≤ r) (r1 : r ≤ 11)
    (h1 : gs zs A 0 1 = (z, A1, E1)) (h2 : gs zs A1 E1 2 = (q, A2, E2)) (h3 : gs zs A2 E2 1 = (h, A3, E3)) (hq : q = 2) (h4 : gs zs A3 E3 4 = (m, A4, E4)) (hg : gl zs A4 E4 7 = gz) (ha : (gi zs A4 E4 7).2.1 = A5) (he : (gi zs A4 E4 7).2.2 = E5) (e5 : E5 = 0) (hz0 : z = 0) (hc : ¬ chk r q h m gz = 0) :
    Calls Try.prog 9 #[.slice a zs.length c, .int .i64 A, .int .i64 r] w fun e w' => e = .returned (.tuple #[.agg #[.int .u8 0, .int .u8 0, .int .i64 0, .slice none 0 0], .int .i64 0, .int .i64 8]) ∧ Below w.heap.size w w' := by
  have K1 := Lib.hid (fun (y : World) (q h m : Int) (v : Value) (x : GI w (.slice a zs.length c) y q h m v A 0) => get_call hs hl hz 1 (S := 1) rfl (by decide) (by decide) h1 x)
  have K2 := Lib.hid (fun (y : World) (q h m : Int) (v : Value) (x : GI w (.slice a zs.length c) y q h m v A1 E1) => get_call hs hl hz 2 (S := 2) rfl (by decide) (by decide) h2 x)
  have K3 := Lib.hid (fun (y : World) (q h m : Int) (v : Value) (x : GI w (.slice a zs.length c) y q h m v A2 E2) => get_call hs hl hz 1 (S := 1) rfl (by decide) (by decide) h3 x)
  have K4 := Lib.hid (fun (y : World) (q h m : Int) (v : Value) (x : GI w (.slice a zs.length c) y q h m v A3 E3) => get_call hs hl hz 4 (S := 4) rfl (by decide) (by decide) h4 x)
  have K5 := Lib.hid (fun (y : World) (q h m : Int) (v : Value) (x : GI w (.slice a zs.length c) y q h m v A4 E4) => get_groups hs hl hz hg ha he x)
  obtain ⟨z0, z1⟩ := gs_bd h1
  obtain ⟨q0, q1⟩ := gs_bd h2
  obtain ⟨p0, p1⟩ := gs_bd h3
  obtain ⟨m0, m1⟩ := gs_bd h4
  rw [show (2 : Int) ^ 1 = 2 from rfl] at z1 p1
  rw [show (2 : Int) ^ 2 = 4 from rfl] at q1
  rw [show (2 : Int) ^ 4 = 16 from rfl] at m1
  have x0 := gi_open w (.slice a zs.length c) A
  obtain ⟨i0, i1, i2, i3, i4, i5, i6, i7⟩ := x0.ib.cells; have i8 := x0.st.e.cell; have i9 := x0.st.a.cell; have ia := x0.st.e.frozen
  have G0 := Lib.hid x0
  subst hq
  have hgl : gz.length ≤ 100000 := by rw [← hg]; have := (gl_bd zs A4 E4 7).2.1; omega
  clear hs hz x0 h1 h2 h3 h4 hg ha he
  subst e5
  have z6 : (z == 0) = true := by simpa using hz0
  have z7 : (z != 0) = false := by simpa using hz0
  obtain ⟨C, hC⟩ : ∃ C, chk r 2 h m gz = C := ⟨_, rfl⟩
  rw [hC] at hc
  have c6 : (C == 0) = false := by simpa using hc
  have c7 : (C != 0) = true := by simpa using hc
  go_enter Try.func9, Try.ntmps9
  go_wp2_with (first
    | (go_at_call 25; ((with_reducible refine (K1.out _ _ _ _ _ G0.out).mono ?_); rintro e y1 ⟨rfl, g1⟩; obtain ⟨a0, a1, a2, a3, a4, a5, a6, a7⟩ := g1.ib.cells; have a8 := g1.st.e.cell; have a9 := g1.st.a.cell; have aa := g1.st.e.frozen; have G1 := Lib.hid g1; clear g1))
    | (go_at_call 25; ((with_reducible refine (K2.out _ _ _ _ _ G1.out).mono ?_); rintro e y2 ⟨rfl, g2⟩; obtain ⟨b0, b1, b2, b3, b4, b5, b6, b7⟩ := g2.ib.cells; have b8 := g2.st.e.cell; have b9 := g2.st.a.cell; have ba := g2.st.e.frozen; have G2 := Lib.hid (g2.set0 2); clear g2))
    | (go_at_call 25; ((with_reducible refine (K3.out _ _ _ _ _ G2.out).mono ?_); rintro e y3 ⟨rfl, g3⟩; obtain ⟨c0, c1, c2, c3, c4, c5, c6, c7⟩ := g3.ib.cells; have c8 := g3.st.e.cell; have c9 := g3.st.a.cell; have ca := g3.st.e.frozen; have G3 := Lib.hid (g3.set1 h); clear g3))
    | (go_at_call 25; ((with_reducible refine (K4.out _ _ _ _ _ G3.out).mono ?_); rintro e y4 ⟨rfl, g4⟩; obtain ⟨d0, d1, d2, d3, d4, d5, d6, d7⟩ := g4.ib.cells; have d8 := g4.st.e.cell; have d9 := g4.st.a.cell; have da := g4.st.e.frozen; have G4 := Lib.hid (g4.set2 m); clear g4))
    | (go_at_call 27; ((with_reducible refine (K5.out _ _ _ _ _ G4.out).mono ?_); rintro e y5 ⟨g, cap, rfl, rd, hgl2, g5⟩; obtain ⟨f0, f1, f2, f3, f4, f5, f6, f7⟩ := g5.ib.cells; have f8 := g5.st.e.cell; have f9 := g5.st.a.cell; have fa := g5.st.e.frozen; have HB5 := Lib.hid g5.bel; have G6 := Lib.hid (g5.set3 (.slice (some ⟨g, 0, none⟩) gz.length cap)); have R6 := Lib.hid (rd_set (w := w) rd (by omega) (.slice (some ⟨g, 0, none⟩) gz.length cap)); clear g5 rd))
    | (go_at_call 11; ((with_reducible refine (check_ok r 2 h m (some ⟨g, 0, none⟩) cap gz _ hgl R6.out).mono ?_); rintro e y7 ⟨he7, hb7⟩; rw [hC] at he7; subst he7; have g7 := G6.out.below hb7; have R7 := Lib.hid (R6.out.below hb7); obtain ⟨j0, j1, j2, j3, j4, j5, j6, j7⟩ := g7.ib.cells; have j8 := g7.st.e.cell; have j9 := g7.st.a.cell; have ja := g7.st.e.frozen; have G7 := Lib.hid g7; clear g7 hb7)))
  go_region
  go_wp2
  refine bodyPost_ret (by simp (maxDischargeDepth := 8) [results, Try.results9, go_sem, j0, j1, j2, j3, j8]; try rfl) rfl ?_
  refine ⟨rfl, ?_⟩
  (repeat (first | (with_reducible refine Below.drew ?_) | (with_reducible refine Below.setCell ?_ (by first | (simp; done) | (simp; omega)) _) | (with_reducible exact G7.out.bel) | (with_reducible exact HB5.out)))
set_option maxRecDepth 100000 in
set_option maxHeartbeats 2000000 in
theorem short4 {w : World} {a : Option Addr} {c : Nat} {zs : List Int} (hs : Sl w (.slice a zs.length c) zs) (hl : zs.length ≤ maxLen) (hz : ∀ z ∈ zs, 0 ≤ z ∧ z ≤ 255) {A r z q h m A1 A2 A3 A4 A5 E1 E2 E3 E4 E5 : Int} {gz : List Int} (r0 : 0 ≤ r) (r1 : r ≤ 11)
    (h1 : gs zs A 0 1 = (z, A1, E1)) (h2 : gs zs A1 E1 2 = (q, A2, E2)) (h3 : gs zs A2 E2 1 = (h, A3, E3)) (hq : q = 2) (h4 : gs zs A3 E3 4 = (m, A4, E4)) (hg : gl zs A4 E4 7 = gz) (ha : (gi zs A4 E4 7).2.1 = A5) (he : (gi zs A4 E4 7).2.2 = E5) (e5 : E5 = 0) (hz0 : z = 0) (hc : chk r q h m gz = 0) :
    Calls Try.prog 9 #[.slice a zs.length c, .int .i64 A, .int .i64 r] w fun e w' => ∃ g cap, e = .returned (.tuple #[.agg #[.int .u8 q, .int .u8 h, .int .i64 m, .slice (some ⟨g, 0, none⟩) gz.length cap], .int .i64 A5, .int .i64 0]) ∧ RdA w' (some ⟨g, 0, none⟩) gz ∧ Below w.heap.size w w' := by
  have K1 := Lib.hid (fun (y : World) (q h m : Int) (v : Value) (x : GI w (.slice a zs.length c) y q h m v A 0) => get_call hs hl hz 1 (S := 1) rfl (by decide) (by decide) h1 x)
  have K2 := Lib.hid (fun (y : World) (q h m : Int) (v : Value) (x : GI w (.slice a zs.length c) y q h m v A1 E1) => get_call hs hl hz 2 (S := 2) rfl (by decide) (by decide) h2 x)
  have K3 := Lib.hid (fun (y : World) (q h m : Int) (v : Value) (x : GI w (.slice a zs.length c) y q h m v A2 E2) => get_call hs hl hz 1 (S := 1) rfl (by decide) (by decide) h3 x)
  have K4 := Lib.hid (fun (y : World) (q h m : Int) (v : Value) (x : GI w (.slice a zs.length c) y q h m v A3 E3) => get_call hs hl hz 4 (S := 4) rfl (by decide) (by decide) h4 x)
  have K5 := Lib.hid (fun (y : World) (q h m : Int) (v : Value) (x : GI w (.slice a zs.length c) y q h m v A4 E4) => get_groups hs hl hz hg ha he x)
  obtain ⟨z0, z1⟩ := gs_bd h1
  obtain ⟨q0, q1⟩ := gs_bd h2
  obtain ⟨p0, p1⟩ := gs_bd h3
  obtain ⟨m0, m1⟩ := gs_bd h4
  rw [show (2 : Int) ^ 1 = 2 from rfl] at z1 p1
  rw [show (2 : Int) ^ 2 = 4 from rfl] at q1
  rw [show (2 : Int) ^ 4 = 16 from rfl] at m1
  have x0 := gi_open w (.slice a zs.length c) A
  obtain ⟨i0, i1, i2, i3, i4, i5, i6, i7⟩ := x0.ib.cells; have i8 := x0.st.e.cell; have i9 := x0.st.a.cell; have ia := x0.st.e.frozen
  have G0 := Lib.hid x0
  subst hq
  have hgl : gz.length ≤ 100000 := by rw [← hg]; have := (gl_bd zs A4 E4 7).2.1; omega
  clear hs hz x0 h1 h2 h3 h4 hg ha he
  subst e5
  have z6 : (z == 0) = true := by simpa using hz0
  have z7 : (z != 0) = false := by simpa using hz0
  have hC := hc
  go_enter Try.func9, Try.ntmps9
  go_wp2_with (first
    | (go_at_call 25; ((with_reducible refine (K1.out _ _ _ _ _ G0.out).mono ?_); rintro e y1 ⟨rfl, g1⟩; obtain ⟨a0, a1, a2, a3, a4, a5, a6, a7⟩ := g1.ib.cells; have a8 := g1.st.e.cell; have a9 := g1.st.a.cell; have aa := g1.st.e.frozen; have G1 := Lib.hid g1; clear g1))
    | (go_at_call 25; ((with_reducible refine (K2.out _ _ _ _ _ G1.out).mono ?_); rintro e y2 ⟨rfl, g2⟩; obtain ⟨b0, b1, b2, b3, b4, b5, b6, b7⟩ := g2.ib.cells; have b8 := g2.st.e.cell; have b9 := g2.st.a.cell; have ba := g2.st.e.frozen; have G2 := Lib.hid (g2.set0 2); clear g2))
    | (go_at_call 25; ((with_reducible refine (K3.out _ _ _ _ _ G2.out).mono ?_); rintro e y3 ⟨rfl, g3⟩; obtain ⟨c0, c1, c2, c3, c4, c5, c6, c7⟩ := g3.ib.cells; have c8 := g3.st.e.cell; have c9 := g3.st.a.cell; have ca := g3.st.e.frozen; have G3 := Lib.hid (g3.set1 h); clear g3))
    | (go_at_call 25; ((with_reducible refine (K4.out _ _ _ _ _ G3.out).mono ?_); rintro e y4 ⟨rfl, g4⟩; obtain ⟨d0, d1, d2, d3, d4, d5, d6, d7⟩ := g4.ib.cells; have d8 := g4.st.e.cell; have d9 := g4.st.a.cell; have da := g4.st.e.frozen; have G4 := Lib.hid (g4.set2 m); clear g4))
    | (go_at_call 27; ((with_reducible refine (K5.out _ _ _ _ _ G4.out).mono ?_); rintro e y5 ⟨g, cap, rfl, rd, hgl2, g5⟩; obtain ⟨f0, f1, f2, f3, f4, f5, f6, f7⟩ := g5.ib.cells; have f8 := g5.st.e.cell; have f9 := g5.st.a.cell; have fa := g5.st.e.frozen; have HB5 := Lib.hid g5.bel; have G6 := Lib.hid (g5.set3 (.slice (some ⟨g, 0, none⟩) gz.length cap)); have R6 := Lib.hid (rd_set (w := w) rd (by omega) (.slice (some ⟨g, 0, none⟩) gz.length cap)); clear g5 rd))
    | (go_at_call 11; ((with_reducible refine (check_ok r 2 h m (some ⟨g, 0, none⟩) cap gz _ hgl R6.out).mono ?_); rintro e y7 ⟨he7, hb7⟩; rw [hC] at he7; subst he7; have g7 := G6.out.below hb7; have R7 := Lib.hid (R6.out.below hb7); obtain ⟨j0, j1, j2, j3, j4, j5, j6, j7⟩ := g7.ib.cells; have j8 := g7.st.e.cell; have j9 := g7.st.a.cell; have ja := g7.st.e.frozen; have G7 := Lib.hid g7; clear g7 hb7)))
  go_region
  go_wp2
  refine bodyPost_ret (by simp (maxDischargeDepth := 8) [results, Try.results9, go_sem, j0, j1, j2, j3, j8]; try rfl) rfl ?_
  refine ⟨g, cap, rfl, ?_, ?_⟩
  · refine rd_drew ?_
    (repeat (first | (with_reducible exact R7.out) | (with_reducible refine rd_setk ?_ (by omega))))
  · (repeat (first | (with_reducible refine Below.drew ?_) | (with_reducible refine Below.setCell ?_ (by first | (simp; done) | (simp; omega)) _) | (with_reducible exact G7.out.bel) | (with_reducible exact HB5.out)))
set_option maxRecDepth 100000 in
set_option maxHeartbeats 2000000 in
theorem long1 {w : World} {a : Option Addr} {c : Nat} {zs : List Int} (hs : Sl w (.slice a zs.length c) zs) (hl : zs.length ≤ maxLen) (hz : ∀ z ∈ zs, 0 ≤ z ∧ z ≤ 255) {A r z q h m z2 A1 A2 A3 A4 A5 E1 E2 E3 E4 E5 : Int} {gz : List Int} (r0 : 0 ≤ r) (r1 : r ≤ 11)
    (h1 : gs zs A 0 1 = (z, A1, E1)) (h2 : gs zs A1 E1 2 = (q, A2, E2)) (h3 : gs zs A2 E2 1 = (h, A3, E3)) (hq : ¬ q = 2) (h4 : gs zs A3 E3 6 = (m, A4, E4)) (h5 : gs zs A4 E4 1 = (z2, A5, E5)) (hg : [1] = gz) (e5 : ¬ E5 = 0) :
    Calls Try.prog 9 #[.slice a zs.length c, .int .i64 A, .int .i64 r] w fun e w' => e = .returned (.tuple #[.agg #[.int .u8 0, .int .u8 0, .int .i64 0, .slice none 0 0], .int .i64 0, .int .i64 E5]) ∧ Below w.heap.size w w' := by
  have K1 := Lib.hid (fun (y : World) (q h m : Int) (v : Value) (x : GI w (.slice a zs.length c) y q h m v A 0) => get_call hs hl hz 1 (S := 1) rfl (by decide) (by decide) h1 x)
  have K2 := Lib.hid (fun (y : World) (q h m : Int) (v : Value) (x : GI w (.slice a zs.length c) y q h m v A1 E1) => get_call hs hl hz 2 (S := 2) rfl (by decide) (by decide) h2 x)
  have K3 := Lib.hid (fun (y : World) (q h m : Int) (v : Value) (x : GI w (.slice a zs.length c) y q h m v A2 E2) => get_call hs hl hz 1 (S := 1) rfl (by decide) (by decide) h3 x)
  have K4 := Lib.hid (fun (y : World) (q h m : Int) (v : Value) (x : GI w (.slice a zs.length c) y q h m v A3 E3) => get_call hs hl hz 6 (S := 6) rfl (by decide) (by decide) h4 x)
  have K5 := Lib.hid (fun (y : World) (q h m : Int) (v : Value) (x : GI w (.slice a zs.length c) y q h m v A4 E4) => get_call hs hl hz 1 (S := 1) rfl (by decide) (by decide) h5 x)
  obtain ⟨z0, z1⟩ := gs_bd h1
  obtain ⟨q0, q1⟩ := gs_bd h2
  obtain ⟨p0, p1⟩ := gs_bd h3
  obtain ⟨m0, m1⟩ := gs_bd h4
  obtain ⟨y0, y1⟩ := gs_bd h5
  rw [show (2 : Int) ^ 1 = 2 from rfl] at y1
  rw [show (2 : Int) ^ 1 = 2 from rfl] at z1 p1
  rw [show (2 : Int) ^ 2 = 4 from rfl] at q1
  rw [show (2 : Int) ^ 6 = 64 from rfl] at m1
  have x0 := gi_open w (.slice a zs.length c) A
  obtain ⟨i0, i1, i2, i3, i4, i5, i6, i7⟩ := x0.ib.cells; have i8 := x0.st.e.cell; have i9 := x0.st.a.cell; have ia := x0.st.e.frozen
  have G0 := Lib.hid x0
  have hq1 : (q == 2) = false := by simpa using hq
  subst hg
  clear hs hz x0 h1 h2 h3 h4 h5
  have e6 : (E5 == 0) = false := by simpa using e5
  have e7 : (E5 != 0) = true := by simpa using e5
  go_enter Try.func9, Try.ntmps9
  go_wp2_with (first
    | (go_at_call 25; ((with_reducible refine (K1.out _ _ _ _ _ G0.out).mono ?_); rintro e y1 ⟨rfl, g1⟩; obtain ⟨a0, a1, a2, a3, a4, a5, a6, a7⟩ := g1.ib.cells; have a8 := g1.st.e.cell; have a9 := g1.st.a.cell; have aa := g1.st.e.frozen; have G1 := Lib.hid g1; clear g1))
    | (go_at_call 25; ((with_reducible refine (K2.out _ _ _ _ _ G1.out).mono ?_); rintro e y2 ⟨rfl, g2⟩; obtain ⟨b0, b1, b2, b3, b4, b5, b6, b7⟩ := g2.ib.cells; have b8 := g2.st.e.cell; have b9 := g2.st.a.cell; have ba := g2.st.e.frozen; have G2 := Lib.hid (g2.set0 q); clear g2))
    | (go_at_call 25; ((with_reducible refine (K3.out _ _ _ _ _ G2.out).mono ?_); rintro e y3 ⟨rfl, g3⟩; obtain ⟨c0, c1, c2, c3, c4, c5, c6, c7⟩ := g3.ib.cells; have c8 := g3.st.e.cell; have c9 := g3.st.a.cell; have ca := g3.st.e.frozen; have G3 := Lib.hid (g3.set1 h); clear g3))
    | (go_at_call 25; ((with_reducible refine (K4.out _ _ _ _ _ G3.out).mono ?_); rintro e y4 ⟨rfl, g4⟩; obtain ⟨d0, d1, d2, d3, d4, d5, d6, d7⟩ := g4.ib.cells; have d8 := g4.st.e.cell; have d9 := g4.st.a.cell; have da := g4.st.e.frozen; have G4 := Lib.hid (g4.set2 m); clear g4))
    | (go_at_call 25; ((with_reducible refine (K5.out _ _ _ _ _ G4.out).mono ?_); rintro e y5 ⟨rfl, g5⟩; obtain ⟨f0, f1, f2, f3, f4, f5, f6, f7⟩ := g5.ib.cells; have f8 := g5.st.e.cell; have f9 := g5.st.a.cell; have fa := g5.st.e.frozen; have g5a := g5.below ((Below.refl _ _).alloc (Nat.le_refl _) (.cells #[.int .i64 1] 3)); obtain ⟨k0, k1, k2, k3, k4, k5, k6, k7⟩ := g5a.ib.cells; have k8 := g5a.st.e.cell; have k9 := g5a.st.a.cell; have ka := g5a.st.e.frozen; have HB5 := Lib.hid g5a.bel; have G6 := Lib.hid (g5a.set3 (.slice (some ⟨y5.heap.size, 0, none⟩) 1 1)); have hgl2 := g5.st.e.lt; have R6 := Lib.hid (rd_one (w := w) y5 (by omega)); clear g5 g5a)))
  go_region
  go_wp2
  refine bodyPost_ret (by simp (maxDischargeDepth := 8) [results, Try.results9, go_sem, k0, k1, k2, k3, k8]; try rfl) rfl ?_
  refine ⟨rfl, ?_⟩
  (repeat (first | (with_reducible refine Below.drew ?_) | (with_reducible refine Below.setCell ?_ (by first | (simp; done) | (simp; omega)) _) | (with_reducible exact G6.out.bel) | (with_reducible exact HB5.out)))
set_option maxRecDepth 100000 in
set_option maxHeartbeats 2000000 in
theorem long2 {w : World} {a : Option Addr} {c : Nat} {zs : List Int} (hs : Sl w (.slice a zs.length c) zs) (hl : zs.length ≤ maxLen) (hz : ∀ z ∈ zs, 0 ≤ z ∧ z ≤ 255) {A r z q h m z2 A1 A2 A3 A4 A5 E1 E2 E3 E4 E5 : Int} {gz : List Int} (r0 : 0 ≤ r) (r1 : r ≤ 11)
    (h1 : gs zs A 0 1 = (z, A1, E1)) (h2 : gs zs A1 E1 2 = (q, A2, E2)) (h3 : gs zs A2 E2 1 = (h, A3, E3)) (hq : ¬ q = 2) (h4 : gs zs A3 E3 6 = (m, A4, E4)) (h5 : gs zs A4 E4 1 = (z2, A5, E5)) (hg : [1] = gz) (e5 : E5 = 0) (hz0 : ¬ z + z2 = 0) :
    Calls Try.prog 9 #[.slice a zs.length c, .int .i64 A, .int .i64 r] w fun e w' => e = .returned (.tuple #[.agg #[.int .u8 0, .int .u8 0, .int .i64 0, .slice none 0 0], .int .i64 0, .int .i64 8]) ∧ Below w.heap.size w w' := by
  have K1 := Lib.hid (fun (y : World) (q h m : Int) (v : Value) (x : GI w (.slice a zs.length c) y q h m v A 0) => get_call hs hl hz 1 (S := 1) rfl (by decide) (by decide) h1 x)
  have K2 := Lib.hid (fun (y : World) (q h m : Int) (v : Value) (x : GI w (.slice a zs.length c) y q h m v A1 E1) => get_call hs hl hz 2 (S := 2) rfl (by decide) (by decide) h2 x)
  have K3 := Lib.hid (fun (y : World) (q h m : Int) (v : Value) (x : GI w (.slice a zs.length c) y q h m v A2 E2) => get_call hs hl hz 1 (S := 1) rfl (by decide) (by decide) h3 x)
  have K4 := Lib.hid (fun (y : World) (q h m : Int) (v : Value) (x : GI w (.slice a zs.length c) y q h m v A3 E3) => get_call hs hl hz 6 (S := 6) rfl (by decide) (by decide) h4 x)
  have K5 := Lib.hid (fun (y : World) (q h m : Int) (v : Value) (x : GI w (.slice a zs.length c) y q h m v A4 E4) => get_call hs hl hz 1 (S := 1) rfl (by decide) (by decide) h5 x)
  obtain ⟨z0, z1⟩ := gs_bd h1
  obtain ⟨q0, q1⟩ := gs_bd h2
  obtain ⟨p0, p1⟩ := gs_bd h3
  obtain ⟨m0, m1⟩ := gs_bd h4
  obtain ⟨y0, y1⟩ := gs_bd h5
  rw [show (2 : Int) ^ 1 = 2 from rfl] at y1
  rw [show (2 : Int) ^ 1 = 2 from rfl] at z1 p1
  rw [show (2 : Int) ^ 2 = 4 from rfl] at q1
  rw [show (2 : Int) ^ 6 = 64 from rfl] at m1
  have x0 := gi_open w (.slice a zs.length c) A
  obtain ⟨i0, i1, i2, i3, i4, i5, i6, i7⟩ := x0.ib.cells; have i8 := x0.st.e.cell; have i9 := x0.st.a.cell; have ia := x0.st.e.frozen
  have G0 := Lib.hid x0
  have hq1 : (q == 2) = false := by simpa using hq
  subst hg
  clear hs hz x0 h1 h2 h3 h4 h5
  subst e5
  have z6 : (z + z2 == 0) = false := by simpa using hz0
  have z7 : (z + z2 != 0) = true := by simpa using hz0
  go_enter Try.func9, Try.ntmps9
  go_wp2_with (first
    | (go_at_call 25; ((with_reducible refine (K1.out _ _ _ _ _ G0.out).mono ?_); rintro e y1 ⟨rfl, g1⟩; obtain ⟨a0, a1, a2, a3, a4, a5, a6, a7⟩ := g1.ib.cells; have a8 := g1.st.e.cell; have a9 := g1.st.a.cell; have aa := g1.st.e.frozen; have G1 := Lib.hid g1; clear g1))
    | (go_at_call 25; ((with_reducible refine (K2.out _ _ _ _ _ G1.out).mono ?_); rintro e y2 ⟨rfl, g2⟩; obtain ⟨b0, b1, b2, b3, b4, b5, b6, b7⟩ := g2.ib.cells; have b8 := g2.st.e.cell; have b9 := g2.st.a.cell; have ba := g2.st.e.frozen; have G2 := Lib.hid (g2.set0 q); clear g2))
    | (go_at_call 25; ((with_reducible refine (K3.out _ _ _ _ _ G2.out).mono ?_); rintro e y3 ⟨rfl, g3⟩; obtain ⟨c0, c1, c2, c3, c4, c5, c6, c7⟩ := g3.ib.cells; have c8 := g3.st.e.cell; have c9 := g3.st.a.cell; have ca := g3.st.e.frozen; have G3 := Lib.hid (g3.set1 h); clear g3))
    | (go_at_call 25; ((with_reducible refine (K4.out _ _ _ _ _ G3.out).mono ?_); rintro e y4 ⟨rfl, g4⟩; obtain ⟨d0, d1, d2, d3, d4, d5, d6, d7⟩ := g4.ib.cells; have d8 := g4.st.e.cell; have d9 := g4.st.a.cell; have da := g4.st.e.frozen; have G4 := Lib.hid (g4.set2 m); clear g4))
    | (go_at_call 25; ((with_reducible refine (K5.out _ _ _ _ _ G4.out).mono ?_); rintro e y5 ⟨rfl, g5⟩; obtain ⟨f0, f1, f2, f3, f4, f5, f6, f7⟩ := g5.ib.cells; have f8 := g5.st.e.cell; have f9 := g5.st.a.cell; have fa := g5.st.e.frozen; have g5a := g5.below ((Below.refl _ _).alloc (Nat.le_refl _) (.cells #[.int .i64 1] 3)); obtain ⟨k0, k1, k2, k3, k4, k5, k6, k7⟩ := g5a.ib.cells; have k8 := g5a.st.e.cell; have k9 := g5a.st.a.cell; have ka := g5a.st.e.frozen; have HB5 := Lib.hid g5a.bel; have G6 := Lib.hid (g5a.set3 (.slice (some ⟨y5.heap.size, 0, none⟩) 1 1)); have hgl2 := g5.st.e.lt; have R6 := Lib.hid (rd_one (w := w) y5 (by omega)); clear g5 g5a)))
  go_region
  go_wp2
  refine bodyPost_ret (by simp (maxDischargeDepth := 8) [results, Try.results9, go_sem, k0, k1, k2, k3, k8]; try rfl) rfl ?_
  refine ⟨rfl, ?_⟩
  (repeat (first | (with_reducible refine Below.drew ?_) | (with_reducible refine Below.setCell ?_ (by first | (simp; done) | (simp; omega)) _) | (with_reducible exact G6.out.bel) | (with_reducible exact HB5.out)))
set_option maxRecDepth 100000 in
set_option maxHeartbeats 2000000 in
theorem long3 {w : World} {a : Option Addr} {c : Nat} {zs : List Int} (hs : Sl w (.slice a zs.length c) zs) (hl : zs.length ≤ maxLen) (hz : ∀ z ∈ zs, 0 ≤ z ∧ z ≤ 255) {A r z q h m z2 A1 A2 A3 A4 A5 E1 E2 E3 E4 E5 : Int} {gz : List Int} (r0 : 0 ≤ r) (r1 : r ≤ 11)
    (h1 : gs zs A 0 1 = (z, A1, E1)) (h2 : gs zs A1 E1 2 = (q, A2, E2)) (h3 : gs zs A2 E2 1 = (h, A3, E3)) (hq : ¬ q = 2) (h4 : gs zs A3 E3 6 = (m, A4, E4)) (h5 : gs zs A4 E4 1 = (z2, A5, E5)) (hg : [1] = gz) (e5 : E5 = 0) (hz0 : z + z2 = 0) (hc : ¬ chk r q h m gz = 0) :
    Calls Try.prog 9 #[.slice a zs.length c, .int .i64 A, .int .i64 r] w fun e w' => e = .returned (.tuple #[.agg #[.int .u8 0, .int .u8 0, .int .i64 0, .slice none 0 0], .int .i64 0, .int .i64 8]) ∧ Below w.heap.size w w' := by
  have K1 := Lib.hid (fun (y : World) (q h m : Int) (v : Value) (x : GI w (.slice a zs.length c) y q h m v A 0) => get_call hs hl hz 1 (S := 1) rfl (by decide) (by decide) h1 x)
  have K2 := Lib.hid (fun (y : World) (q h m : Int) (v : Value) (x : GI w (.slice a zs.length c) y q h m v A1 E1) => get_call hs hl hz 2 (S := 2) rfl (by decide) (by decide) h2 x)
  have K3 := Lib.hid (fun (y : World) (q h m : Int) (v : Value) (x : GI w (.slice a zs.length c) y q h m v A2 E2) => get_call hs hl hz 1 (S := 1) rfl (by decide) (by decide) h3 x)
  have K4 := Lib.hid (fun (y : World) (q h m : Int) (v : Value) (x : GI w (.slice a zs.length c) y q h m v A3 E3) => get_call hs hl hz 6 (S := 6) rfl (by decide) (by decide) h4 x)
  have K5 := Lib.hid (fun (y : World) (q h m : Int) (v : Value) (x : GI w (.slice a zs.length c) y q h m v A4 E4) => get_call hs hl hz 1 (S := 1) rfl (by decide) (by decide) h5 x)
  obtain ⟨z0, z1⟩ := gs_bd h1
  obtain ⟨q0, q1⟩ := gs_bd h2
  obtain ⟨p0, p1⟩ := gs_bd h3
  obtain ⟨m0, m1⟩ := gs_bd h4
  obtain ⟨y0, y1⟩ := gs_bd h5
  rw [show (2 : Int) ^ 1 = 2 from rfl] at y1
  rw [show (2 : Int) ^ 1 = 2 from rfl] at z1 p1
  rw [show (2 : Int) ^ 2 = 4 from rfl] at q1
  rw [show (2 : Int) ^ 6 = 64 from rfl] at m1
  have x0 := gi_open w (.slice a zs.length c) A
  obtain ⟨i0, i1, i2, i3, i4, i5, i6, i7⟩ := x0.ib.cells; have i8 := x0.st.e.cell; have i9 := x0.st.a.cell; have ia := x0.st.e.frozen
  have G0 := Lib.hid x0
  have hq1 : (q == 2) = false := by simpa using hq
  subst hg
  clear hs hz x0 h1 h2 h3 h4 h5
  subst e5
  have z6 : (z + z2 == 0) = true := by simpa using hz0
  have z7 : (z + z2 != 0) = false := by simpa using hz0
  obtain ⟨C, hC⟩ : ∃ C, chk r q h m [1] = C := ⟨_, rfl⟩
  rw [hC] at hc
  have c6 : (C == 0) = false := by simpa using hc
  have c7 : (C != 0) = true := by simpa using hc
  go_enter Try.func9, Try.ntmps9
  go_wp2_with (first
    | (go_at_call 25; ((with_reducible refine (K1.out _ _ _ _ _ G0.out).mono ?_); rintro e y1 ⟨rfl, g1⟩; obtain ⟨a0, a1, a2, a3, a4, a5, a6, a7⟩ := g1.ib.cells; have a8 := g1.st.e.cell; have a9 := g1.st.a.cell; have aa := g1.st.e.frozen; have G1 := Lib.hid g1; clear g1))
    | (go_at_call 25; ((with_reducible refine (K2.out _ _ _ _ _ G1.out).mono ?_); rintro e y2 ⟨rfl, g2⟩; obtain ⟨b0, b1, b2, b3, b4, b5, b6, b7⟩ := g2.ib.cells; have b8 := g2.st.e.cell; have b9 := g2.st.a.cell; have ba := g2.st.e.frozen; have G2 := Lib.hid (g2.set0 q); clear g2))
    | (go_at_call 25; ((with_reducible refine (K3.out _ _ _ _ _ G2.out).mono ?_); rintro e y3 ⟨rfl, g3⟩; obtain ⟨c0, c1, c2, c3, c4, c5, c6, c7⟩ := g3.ib.cells; have c8 := g3.st.e.cell; have c9 := g3.st.a.cell; have ca := g3.st.e.frozen; have G3 := Lib.hid (g3.set1 h); clear g3))
    | (go_at_call 25; ((with_reducible refine (K4.out _ _ _ _ _ G3.out).mono ?_); rintro e y4 ⟨rfl, g4⟩; obtain ⟨d0, d1, d2, d3, d4, d5, d6, d7⟩ := g4.ib.cells; have d8 := g4.st.e.cell; have d9 := g4.st.a.cell; have da := g4.st.e.frozen; have G4 := Lib.hid (g4.set2 m); clear g4))
    | (go_at_call 25; ((with_reducible refine (K5.out _ _ _ _ _ G4.out).mono ?_); rintro e y5 ⟨rfl, g5⟩; obtain ⟨f0, f1, f2, f3, f4, f5, f6, f7⟩ := g5.ib.cells; have f8 := g5.st.e.cell; have f9 := g5.st.a.cell; have fa := g5.st.e.frozen; have g5a := g5.below ((Below.refl _ _).alloc (Nat.le_refl _) (.cells #[.int .i64 1] 3)); obtain ⟨k0, k1, k2, k3, k4, k5, k6, k7⟩ := g5a.ib.cells; have k8 := g5a.st.e.cell; have k9 := g5a.st.a.cell; have ka := g5a.st.e.frozen; have HB5 := Lib.hid g5a.bel; have G6 := Lib.hid (g5a.set3 (.slice (some ⟨y5.heap.size, 0, none⟩) 1 1)); have hgl2 := g5.st.e.lt; have R6 := Lib.hid (rd_one (w := w) y5 (by omega)); clear g5 g5a))
    | (go_at_call 11; ((with_reducible refine (check_one r q h m ⟨y5.heap.size, 0, none⟩ _ R6.out).mono ?_); rintro e y7 ⟨he7, hb7⟩; rw [hC] at he7; subst he7; have g7 := G6.out.below hb7; have R7 := Lib.hid (R6.out.below hb7); obtain ⟨j0, j1, j2, j3, j4, j5, j6, j7⟩ := g7.ib.cells; have j8 := g7.st.e.cell; have j9 := g7.st.a.cell; have ja := g7.st.e.frozen; have G7 := Lib.hid g7; clear g7 hb7)))
  go_region
  go_wp2
  refine bodyPost_ret (by simp (maxDischargeDepth := 8) [results, Try.results9, go_sem, j0, j1, j2, j3, j8]; try rfl) rfl ?_
  refine ⟨rfl, ?_⟩
  (repeat (first | (with_reducible refine Below.drew ?_) | (with_reducible refine Below.setCell ?_ (by first | (simp; done) | (simp; omega)) _) | (with_reducible exact G7.out.bel) | (with_reducible exact HB5.out)))
set_option maxRecDepth 100000 in
set_option maxHeartbeats 2000000 in
theorem long4 {w : World} {a : Option Addr} {c : Nat} {zs : List Int} (hs : Sl w (.slice a zs.length c) zs) (hl : zs.length ≤ maxLen) (hz : ∀ z ∈ zs, 0 ≤ z ∧ z ≤ 255) {A r z q h m z2 A1 A2 A3 A4 A5 E1 E2 E3 E4 E5 : Int} {gz : List Int} (r0 : 0 ≤ r) (r1 : r ≤ 11)
    (h1 : gs zs A 0 1 = (z, A1, E1)) (h2 : gs zs A1 E1 2 = (q, A2, E2)) (h3 : gs zs A2 E2 1 = (h, A3, E3)) (hq : ¬ q = 2) (h4 : gs zs A3 E3 6 = (m, A4, E4)) (h5 : gs zs A4 E4 1 = (z2, A5, E5)) (hg : [1] = gz) (e5 : E5 = 0) (hz0 : z + z2 = 0) (hc : chk r q h m gz = 0) :
    Calls Try.prog 9 #[.slice a zs.length c, .int .i64 A, .int .i64 r] w fun e w' => ∃ g cap, e = .returned (.tuple #[.agg #[.int .u8 q, .int .u8 h, .int .i64 m, .slice (some ⟨g, 0, none⟩) gz.length cap], .int .i64 A5, .int .i64 0]) ∧ RdA w' (some ⟨g, 0, none⟩) gz ∧ Below w.heap.size w w' := by
  have K1 := Lib.hid (fun (y : World) (q h m : Int) (v : Value) (x : GI w (.slice a zs.length c) y q h m v A 0) => get_call hs hl hz 1 (S := 1) rfl (by decide) (by decide) h1 x)
  have K2 := Lib.hid (fun (y : World) (q h m : Int) (v : Value) (x : GI w (.slice a zs.length c) y q h m v A1 E1) => get_call hs hl hz 2 (S := 2) rfl (by decide) (by decide) h2 x)
  have K3 := Lib.hid (fun (y : World) (q h m : Int) (v : Value) (x : GI w (.slice a zs.length c) y q h m v A2 E2) => get_call hs hl hz 1 (S := 1) rfl (by decide) (by decide) h3 x)
  have K4 := Lib.hid (fun (y : World) (q h m : Int) (v : Value) (x : GI w (.slice a zs.length c) y q h m v A3 E3) => get_call hs hl hz 6 (S := 6) rfl (by decide) (by decide) h4 x)
  have K5 := Lib.hid (fun (y : World) (q h m : Int) (v : Value) (x : GI w (.slice a zs.length c) y q h m v A4 E4) => get_call hs hl hz 1 (S := 1) rfl (by decide) (by decide) h5 x)
  obtain ⟨z0, z1⟩ := gs_bd h1
  obtain ⟨q0, q1⟩ := gs_bd h2
  obtain ⟨p0, p1⟩ := gs_bd h3
  obtain ⟨m0, m1⟩ := gs_bd h4
  obtain ⟨y0, y1⟩ := gs_bd h5
  rw [show (2 : Int) ^ 1 = 2 from rfl] at y1
  rw [show (2 : Int) ^ 1 = 2 from rfl] at z1 p1
  rw [show (2 : Int) ^ 2 = 4 from rfl] at q1
  rw [show (2 : Int) ^ 6 = 64 from rfl] at m1
  have x0 := gi_open w (.slice a zs.length c) A
  obtain ⟨i0, i1, i2, i3, i4, i5, i6, i7⟩ := x0.ib.cells; have i8 := x0.st.e.cell; have i9 := x0.st.a.cell; have ia := x0.st.e.frozen
  have G0 := Lib.hid x0
  have hq1 : (q == 2) = false := by simpa using hq
  subst hg
  clear hs hz x0 h1 h2 h3 h4 h5
  subst e5
  have z6 : (z + z2 == 0) = true := by simpa using hz0
  have z7 : (z + z2 != 0) = false := by simpa using hz0
  have hC := hc
  go_enter Try.func9, Try.ntmps9
  go_wp2_with (first
    | (go_at_call 25; ((with_reducible refine (K1.out _ _ _ _ _ G0.out).mono ?_); rintro e y1 ⟨rfl, g1⟩; obtain ⟨a0, a1, a2, a3, a4, a5, a6, a7⟩ := g1.ib.cells; have a8 := g1.st.e.cell; have a9 := g1.st.a.cell; have aa := g1.st.e.frozen; have G1 := Lib.hid g1; clear g1))
    | (go_at_call 25; ((with_reducible refine (K2.out _ _ _ _ _ G1.out).mono ?_); rintro e y2 ⟨rfl, g2⟩; obtain ⟨b0, b1, b2, b3, b4, b5, b6, b7⟩ := g2.ib.cells; have b8 := g2.st.e.cell; have b9 := g2.st.a.cell; have ba := g2.st.e.frozen; have G2 := Lib.hid (g2.set0 q); clear g2))
    | (go_at_call 25; ((with_reducible refine (K3.out _ _ _ _ _ G2.out).mono ?_); rintro e y3 ⟨rfl, g3⟩; obtain ⟨c0, c1, c2, c3, c4, c5, c6, c7⟩ := g3.ib.cells; have c8 := g3.st.e.cell; have c9 := g3.st.a.cell; have ca := g3.st.e.frozen; have G3 := Lib.hid (g3.set1 h); clear g3))
    | (go_at_call 25; ((with_reducible refine (K4.out _ _ _ _ _ G3.out).mono ?_); rintro e y4 ⟨rfl, g4⟩; obtain ⟨d0, d1, d2, d3, d4, d5, d6, d7⟩ := g4.ib.cells; have d8 := g4.st.e.cell; have d9 := g4.st.a.cell; have da := g4.st.e.frozen; have G4 := Lib.hid (g4.set2 m); clear g4))
    | (go_at_call 25; ((with_reducible refine (K5.out _ _ _ _ _ G4.out).mono ?_); rintro e y5 ⟨rfl, g5⟩; obtain ⟨f0, f1, f2, f3, f4, f5, f6, f7⟩ := g5.ib.cells; have f8 := g5.st.e.cell; have f9 := g5.st.a.cell; have fa := g5.st.e.frozen; have g5a := g5.below ((Below.refl _ _).alloc (Nat.le_refl _) (.cells #[.int .i64 1] 3)); obtain ⟨k0, k1, k2, k3, k4, k5, k6, k7⟩ := g5a.ib.cells; have k8 := g5a.st.e.cell; have k9 := g5a.st.a.cell; have ka := g5a.st.e.frozen; have HB5 := Lib.hid g5a.bel; have G6 := Lib.hid (g5a.set3 (.slice (some ⟨y5.heap.size, 0, none⟩) 1 1)); have hgl2 := g5.st.e.lt; have R6 := Lib.hid (rd_one (w := w) y5 (by omega)); clear g5 g5a))
    | (go_at_call 11; ((with_reducible refine (check_one r q h m ⟨y5.heap.size, 0, none⟩ _ R6.out).mono ?_); rintro e y7 ⟨he7, hb7⟩; rw [hC] at he7; subst he7; have g7 := G6.out.below hb7; have R7 := Lib.hid (R6.out.below hb7); obtain ⟨j0, j1, j2, j3, j4, j5, j6, j7⟩ := g7.ib.cells; have j8 := g7.st.e.cell; have j9 := g7.st.a.cell; have ja := g7.st.e.frozen; have G7 := Lib.hid g7; clear g7 hb7)))
  go_region
  go_wp2
  refine bodyPost_ret (by simp (maxDischargeDepth := 8) [results, Try.results9, go_sem, j0, j1, j2, j3, j8]; try rfl) rfl ?_
  refine ⟨y5.heap.size, 1, rfl, ?_, ?_⟩
  · refine rd_drew ?_
    (repeat (first | (with_reducible exact R7.out) | (with_reducible refine rd_setk ?_ (by omega))))
  · (repeat (first | (with_reducible refine Below.drew ?_) | (with_reducible refine Below.setCell ?_ (by first | (simp; done) | (simp; omega)) _) | (with_reducible exact G7.out.bel) | (with_reducible exact HB5.out)))
end Go.Proofs.Ytchefgnefcabnaa.In
