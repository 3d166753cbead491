/- The coefficients of prediction, made. -/
import Derived.Test.YtbodpeiemamibaaMrg2
import Derived.Deep.RegionWith
import Derived.Deep.RegionHeld3
import Derived.WalkKit
import Derived.Below
import Derived.Laws.AppendOwn
import Derived.Laws.AppendOwnNone
import Derived.RegionTactic
import Derived.Deep.QuietTactic
import Derived.BigQuiet
import Derived.WalkSpells
import Derived.ProofKit
import Derived.OpenShut
import Derived.Lib.Hide
namespace Go.Proofs.Ytbodpeiemamibaa.Tn
open Go Go.ChangeShapes Go.WideShapes Go.ChangeAt Go.RowKit Go.Proofs.Ytbodpeiemamibaa.Fx
/-- An array of twelve. -/
def A12 (x : World) (b : Nat) (F : Nat → Int) : Prop := ∀ j, j < 12 → x.cell? ⟨b, j, none⟩ = some (.int .i64 (F j)) ∧ x.frozen? ⟨b, j, none⟩ = false
theorem A12.below {w x : World} {b : Nat} {F : Nat → Int} (h : A12 w b F) (hl : b < w.heap.size) (hb : Below w.heap.size w x) : A12 x b F := fun j hj =>
  ⟨(hb.cell (p := ⟨b, j, none⟩) hl).trans (h j hj).1, (hb.frozen (p := ⟨b, j, none⟩) hl).trans (h j hj).2⟩
theorem A12.set {w : World} {b i : Nat} {F G : Nat → Int} {x : Int} (h : A12 w b F) (hG : ∀ j, j < 12 → G j = if j = i then x else F j) : A12 (w.setCell ⟨b, i, none⟩ (.int .i64 x)) b G := fun j hj => by
  obtain ⟨h1, h2⟩ := h j hj
  refine ⟨?_, by simpa using h2⟩
  rw [hG j hj]
  by_cases e : j = i
  · subst e
    rw [if_pos rfl]
    simp [go_sem, h1]
  · rw [if_neg e]
    have hne : (⟨b, i, none⟩ : Addr) ≠ ⟨b, j, none⟩ := by simp only [ne_eq, Addr.mk.injEq]; omega
    simp only [World.cell?_setCell_other (h := hne)]
    exact h1
theorem A12.other {w : World} {b c i : Nat} {F : Nat → Int} {v : Value} (h : A12 w b F) (hne : b ≠ c) : A12 (w.setCell ⟨c, i, none⟩ v) b F := fun j hj => by
  obtain ⟨h1, h2⟩ := h j hj
  refine ⟨?_, by simpa using h2⟩
  have hne : (⟨c, i, none⟩ : Addr) ≠ ⟨b, j, none⟩ := by simp only [ne_eq, Addr.mk.injEq]; omega
  simp only [World.cell?_setCell_other (h := hne)]
  exact h1
theorem a12_new (w : World) (x0 x1 x2 x3 x4 x5 x6 x7 x8 x9 x10 x11 : Int) (F : Nat → Int) (h : [F 0, F 1, F 2, F 3, F 4, F 5, F 6, F 7, F 8, F 9, F 10, F 11] = [x0, x1, x2, x3, x4, x5, x6, x7, x8, x9, x10, x11]) :
    A12 (w.alloc (.cells #[.int .i64 x0, .int .i64 x1, .int .i64 x2, .int .i64 x3, .int .i64 x4, .int .i64 x5, .int .i64 x6, .int .i64 x7, .int .i64 x8, .int .i64 x9, .int .i64 x10, .int .i64 x11] 40)) w.heap.size F := fun j hj => by
  simp only [List.cons.injEq, and_true] at h
  obtain ⟨rfl, rfl, rfl, rfl, rfl, rfl, rfl, rfl, rfl, rfl, rfl, rfl⟩ := h
  match j, hj with
  | 0, _ | 1, _ | 2, _ | 3, _ | 4, _ | 5, _ | 6, _ | 7, _ | 8, _ | 9, _ | 10, _ | 11, _ => simp
  | n + 12, h => omega
theorem A12.drew {w : World} {b : Nat} {F : Nat → Int} (h : A12 w b F) : A12 w.drew b F := fun j hj => h j hj
theorem wr64 {x : Int} (a : -9223372036854775808 ≤ x) (b : x ≤ 9223372036854775807) : IntKind.i64.wrap x = x := by simp [IntKind.wrap, IntKind.bits, IntKind.signed]; omega
theorem mul_abs {k y : Int} (k0 : -1048576 ≤ k) (k1 : k ≤ 1048576) (y0 : -4293918720 ≤ y) (y1 : y ≤ 4293918720) : -(1048576 * 4293918720) ≤ k * y ∧ k * y ≤ 1048576 * 4293918720 := by
  have h : (k * y).natAbs ≤ 1048576 * 4293918720 := by
    rw [Int.natAbs_mul]
    exact Nat.mul_le_mul (by omega) (by omega)
  omega
set_option maxRecDepth 100000 in
set_option maxHeartbeats 4000000 in
theorem predict_ok (L O : Int) (dn f : Bool) (a : Option Addr) (cap : Nat) (zs : List Int) (w : World) (hr : RdA w a zs) (hg : Rng f zs) (o0 : 0 ≤ O) (o1 : O ≤ 12) (o2 : (zs.length : Int) = O) :
    Calls Try.prog 9 #[.agg #[.int .i64 L, .int .i64 O, .bool dn, .bool f, .slice a zs.length cap]] w fun e w' => ∃ g, e = .returned (.slice (some ⟨g, 0, none⟩) zs.length 12) ∧ w.heap.size ≤ g ∧ g < w'.heap.size ∧ A12 w' g (cf f zs zs.length) ∧ Below w.heap.size w w' := by
  have h8 := hg.eight
  have n12 : zs.length ≤ 12 := by omega
  have HBW : Hid (Below w.heap.size w ((w.alloc (.cells #[.int .i64 L, .int .i64 O, .bool dn, .bool f, .slice a zs.length cap] 24)).alloc (.cells #[.int .i64 0, .int .i64 0, .int .i64 0, .int .i64 0, .int .i64 0, .int .i64 0, .int .i64 0, .int .i64 0, .int .i64 0, .int .i64 0, .int .i64 0, .int .i64 0] 40))) := Lib.hid (bT (box_below _ _) (box_below _ _))
  have HW := Lib.hid (fun (x : World) (hx : Below (w.heap.size + 1) ((w.alloc (.cells #[.int .i64 L, .int .i64 O, .bool dn, .bool f, .slice a zs.length cap] 24)).alloc (.cells #[.int .i64 0, .int .i64 0, .int .i64 0, .int .i64 0, .int .i64 0, .int .i64 0, .int .i64 0, .int .i64 0, .int .i64 0, .int .i64 0, .int .i64 0, .int .i64 0] 40)) x) => HBW.out.trans (hx.mono (by omega)))
  have HR := Lib.hid (fun x hx => hr.below (HW.out x hx))
  have HX : Hid (∀ x, Below (w.heap.size + 1) ((w.alloc (.cells #[.int .i64 L, .int .i64 O, .bool dn, .bool f, .slice a zs.length cap] 24)).alloc (.cells #[.int .i64 0, .int .i64 0, .int .i64 0, .int .i64 0, .int .i64 0, .int .i64 0, .int .i64 0, .int .i64 0, .int .i64 0, .int .i64 0, .int .i64 0, .int .i64 0] 40)) x → x.cell? ⟨w.heap.size, 1, none⟩ = some (.int .i64 O) ∧ x.cell? ⟨w.heap.size, 3, none⟩ = some (.bool f) ∧ x.cell? ⟨w.heap.size, 4, none⟩ = some (.slice a zs.length cap)) := Lib.hid (fun x hx => by
    obtain ⟨c0, c1, c2, c3, c4⟩ := boxed w L O dn f (.slice a zs.length cap) _ (box_below (w.alloc (.cells #[.int .i64 L, .int .i64 O, .bool dn, .bool f, .slice a zs.length cap] 24)) (.cells #[.int .i64 0, .int .i64 0, .int .i64 0, .int .i64 0, .int .i64 0, .int .i64 0, .int .i64 0, .int .i64 0, .int .i64 0, .int .i64 0, .int .i64 0, .int .i64 0] 40))
    exact ⟨(hx.cell (p := ⟨w.heap.size, 1, none⟩) (by simp)).trans c1, (hx.cell (p := ⟨w.heap.size, 3, none⟩) (by simp)).trans c3, (hx.cell (p := ⟨w.heap.size, 4, none⟩) (by simp)).trans c4⟩)
  have HA := Lib.hid (a12_new (w.alloc (.cells #[.int .i64 L, .int .i64 O, .bool dn, .bool f, .slice a zs.length cap] 24)) 0 0 0 0 0 0 0 0 0 0 0 0 (cf f zs 0) rfl)
  have HM := Lib.hid (fun (k : Nat) (hk : k < zs.length) (w : World) => refl_ok (zs.getD k 0) f w (h8 k hk).1 (h8 k hk).2)
  have HK := Lib.hid (fun (k : Nat) (hk : k < zs.length) => mir_bd f (h8 k hk).1 (h8 k hk).2)
  have HC := Lib.hid (fun (k i : Nat) (hk : k ≤ zs.length) => cf_bd (f := f) h8 n12 (i := i) hk)
  subst o2
  clear hr hg h8
  go_enter Try.func9, Try.ntmps9
  go_wp2
  have hs : (w.alloc (.cells #[.int .i64 L, .int .i64 zs.length, .bool dn, .bool f, .slice a zs.length cap] 24)).heap.size = w.heap.size + 1 := by simp
  have hs2 : ((w.alloc (.cells #[.int .i64 L, .int .i64 zs.length, .bool dn, .bool f, .slice a zs.length cap] 24)).alloc (.cells #[.int .i64 0, .int .i64 0, .int .i64 0, .int .i64 0, .int .i64 0, .int .i64 0, .int .i64 0, .int .i64 0, .int .i64 0, .int .i64 0, .int .i64 0, .int .i64 0] 40)).heap.size = w.heap.size + 2 := by simp
  rw [hs] at HA
  generalize hwB : (w.alloc (.cells #[.int .i64 L, .int .i64 zs.length, .bool dn, .bool f, .slice a zs.length cap] 24)).alloc (.cells #[.int .i64 0, .int .i64 0, .int .i64 0, .int .i64 0, .int .i64 0, .int .i64 0, .int .i64 0, .int .i64 0, .int .i64 0, .int .i64 0, .int .i64 0, .int .i64 0] 40) = wB at *
  clear hwB hs
  go_loopw [12] (fun i wr => ∃ k : Nat, k ≤ zs.length ∧ i = .int .i64 k ∧ Hid (A12 wr (w.heap.size + 1) (cf f zs k)) ∧ Below (w.heap.size + 1) wB wr) (fun i _ => zs.length - (intOf i).toNat)
  case atStart => exact ⟨0, by omega, rfl, HA, Below.refl _ _⟩
  case round =>
    obtain ⟨k, hk, rfl, hA, hb⟩ := hrel
    obtain ⟨z1, z3, z4⟩ := HX.out wr hb
    have hsz := hb.size
    rw [hs2] at hsz
    by_cases hlt : k < zs.length
    · obtain ⟨b, off, rfl, hlb, c⟩ := HR.out wr hb k hlt
      have HMk := Lib.hid (HM.out k hlt)
      have HKk := Lib.hid (HK.out k hlt)
      have HCk := Lib.hid (fun i => HC.out k i hk)
      have HE : Hid (cf f zs (k + 1) = nx k (cf f zs k) (mir (zs.getD k 0) f)) := Lib.hid rfl
      have HC1 := Lib.hid (fun i => HC.out (k + 1) i hlt)
      have HO := Lib.hid (fun i (h : k ≤ i) => cf_out (f := f) (zs := zs) k i h)
      generalize hG0 : cf f zs (k + 1) = G at *
      have hG0 := Lib.hid hG0
      generalize cf f zs k = F at *
      generalize mir (zs.getD k 0) f = K at *
      generalize zs.getD k 0 = z at *
      clear HM HK HC HA
      go_wp2_with (go_at_call 13; ((with_reducible refine (HMk.out _).mono ?_); rintro e w2 ⟨rfl, hb2⟩; have hA2 := hA.out.below (by omega) hb2; have hB2 := Lib.hid (hb.trans (hb2.mono (by omega))); have HA2 := Lib.hid hA2; have s2 := hb2.size; obtain ⟨c0, d0⟩ := hA2 0 (by omega); obtain ⟨c1, d1⟩ := hA2 1 (by omega); obtain ⟨c2, d2⟩ := hA2 2 (by omega); obtain ⟨c3, d3⟩ := hA2 3 (by omega); obtain ⟨c4, d4⟩ := hA2 4 (by omega); obtain ⟨c5, d5⟩ := hA2 5 (by omega); obtain ⟨c6, d6⟩ := hA2 6 (by omega); obtain ⟨c7, d7⟩ := hA2 7 (by omega); obtain ⟨c8, d8⟩ := hA2 8 (by omega); obtain ⟨c9, d9⟩ := hA2 9 (by omega); obtain ⟨c10, d10⟩ := hA2 10 (by omega); obtain ⟨c11, d11⟩ := hA2 11 (by omega); clear hA2 hb2 d0 d1 d2 d3 d4 d5 d6 d7 d8 d9 d10 d11))
      have hw3a := a12_new w2 (F 0) (F 1) (F 2) (F 3) (F 4) (F 5) (F 6) (F 7) (F 8) (F 9) (F 10) (F 11) F rfl
      have hw3b := Lib.hid (HA2.out.below (by omega) (box_below w2 (.cells #[.int .i64 (F 0), .int .i64 (F 1), .int .i64 (F 2), .int .i64 (F 3), .int .i64 (F 4), .int .i64 (F 5), .int .i64 (F 6), .int .i64 (F 7), .int .i64 (F 8), .int .i64 (F 9), .int .i64 (F 10), .int .i64 (F 11)] 40)))
      have hw3c := Lib.hid (hB2.out.alloc (show w.heap.size + 1 ≤ w2.heap.size by omega) (.cells #[.int .i64 (F 0), .int .i64 (F 1), .int .i64 (F 2), .int .i64 (F 3), .int .i64 (F 4), .int .i64 (F 5), .int .i64 (F 6), .int .i64 (F 7), .int .i64 (F 8), .int .i64 (F 9), .int .i64 (F 10), .int .i64 (F 11)] 40))
      have hw3a := Lib.hid hw3a
      clear c0 c1 c2 c3 c4 c5 c6 c7 c8 c9 c10 c11 z1 z3 z4
      have hBw : w.heap.size + 1 < w2.heap.size := by omega
      generalize w2.alloc (.cells #[.int .i64 (F 0), .int .i64 (F 1), .int .i64 (F 2), .int .i64 (F 3), .int .i64 (F 4), .int .i64 (F 5), .int .i64 (F 6), .int .i64 (F 7), .int .i64 (F 8), .int .i64 (F 9), .int .i64 (F 10), .int .i64 (F 11)] 40) = w3 at *
      clear hB2 HA2 hb hA
      generalize w2.heap.size = Bw at *
      obtain ⟨K0, K1⟩ := HKk.out
      have HKb := Lib.hid (And.intro K0 K1)
      have e0 : Hid (A12 w3 (w.heap.size + 1) (fun i => if i < 0 then G i else F i)) := Lib.hid (by simpa using hw3b.out)
      clear hw3b K0 K1 HKk
      go_loopw [23] (fun i wr => ∃ j : Nat, j ≤ k ∧ i = .int .i64 j ∧ Hid (A12 wr (w.heap.size + 1) (fun i => if i < j then G i else F i)) ∧ Hid (A12 wr Bw F) ∧ Hid (Below (w.heap.size + 1) wB wr)) (fun i _ => k - (intOf i).toNat)
      case atStart => exact ⟨0, by omega, rfl, e0, hw3a, hw3c⟩
      case round =>
        obtain ⟨j, hj, rfl, h1, h2, h3⟩ := hrel
        by_cases hjk : j < k
        · obtain ⟨q, hq⟩ : ∃ q : Nat, (k : Int) - 1 - j = q := ⟨k - 1 - j, by omega⟩
          have hq2 : k - 1 - j = q := by omega
          obtain ⟨x1, y1⟩ := h2.out j (by omega)
          obtain ⟨x2, y2⟩ := h2.out q (by omega)
          obtain ⟨x3, y3⟩ := h1.out j (by omega)
          simp only [Nat.lt_irrefl, if_false] at x3
          have hG : G j = F j + rnd (K * F q) 20 := by rw [HE.out]; simp only [nx, if_pos hjk]; rw [hq2]
          have bG := HCk.out j
          have bQ := HCk.out q
          have bN := (HC1.out j)
          have HG : Hid (∀ v, v = G j → ∀ i, i < 12 → (if i < j + 1 then G i else F i) = if i = j then v else (if i < j then G i else F i)) := Lib.hid (fun v hv i _ => by
            by_cases e : i = j
            · subst e; rw [if_pos (by omega), if_pos rfl, hv]
            · rw [if_neg e]; by_cases e2 : i < j
              · rw [if_pos (by omega), if_pos e2]
              · rw [if_neg (by omega), if_neg e2])
          generalize G j = g at *
          generalize F j = x at *
          generalize F q = y at *
          have hP : -4611686018427387904 ≤ K * y ∧ K * y ≤ 4611686018427387904 := by
            have a1 := mul_abs HKb.out.1 HKb.out.2 bQ.1 bQ.2
            omega
          have HR20 := Lib.hid (fun w => round_k (K * y) 20 w hP.1 hP.2 (by omega) (by omega))
          generalize rnd (K * y) 20 = r at *
          obtain ⟨b0, b1⟩ := bG
          obtain ⟨b2, b3⟩ := bQ
          obtain ⟨b4, b5⟩ := bN
          obtain ⟨p0, p1⟩ := hP
          have hne : Bw ≠ w.heap.size + 1 := by omega
          clear hq2
          subst hG
          have q12 : q < 12 := by omega
          have j12 : j < 12 := by omega
          have hw1 := wr64 (x := K * y) (by omega) (by omega)
          have hw2 := wr64 (x := x + r) (by omega) (by omega)
          have hw3 := wr64 (x := (k : Int) - 1) (by omega) (by omega)
          have hw4 := wr64 (x := (q : Int)) (by omega) (by omega)
          have q12' : (q : Int) < 12 := by omega
          have j12' : (j : Int) < 12 := by omega
          have q0' : (0 : Int) ≤ q := by omega
          have j0' : (0 : Int) ≤ j := by omega
          go_wp2
          have iso : (wr.cell? ⟨w.heap.size + 1, j, none⟩).isSome = true := by rw [x3]; rfl
          go_region_held3 (fun w' => w'.cell? ⟨Bw, j, none⟩ = some (.int .i64 x) ∧ w'.cell? ⟨Bw, q, none⟩ = some (.int .i64 y) ∧ (w'.cell? ⟨w.heap.size + 1, j, none⟩).isSome = true ∧ w'.frozen? ⟨w.heap.size + 1, j, none⟩ = false) (simp (maxDischargeDepth := 8) [go_sem, x1, x2, x3, y3, hne, Ne.symm hne]) ((go_at_call 14; ((with_reducible refine (HR20.out _).mono ?_); rintro e w' ⟨rfl, rfl⟩)))
          rename_i hS
          clear hS
          have N1 := Lib.hid ((h1.out.set (HG.out _ rfl)).drew)
          have N2 := Lib.hid ((h2.out.other (i := j) (v := .int .i64 (x + r)) hne).drew)
          have N3 := Lib.hid ((h3.out.setCell (p := ⟨w.heap.size + 1, j, none⟩) (Nat.le_refl _) (.int .i64 (x + r))).drew)
          clear x1 y1 x2 y2 x3 y3 iso
          go_wp2
          go_roundw
          case rel => exact ⟨j + 1, by omega, by go_num, N1, N2, N3⟩
          case measure => simp [intOf]; omega
        · have hjk2 : j = k := by omega
          subst hjk2
          obtain ⟨x3, y3⟩ := h1.out j (by omega)
          simp only [Nat.lt_irrefl, if_false] at x3
          have N1 : Hid (A12 (wr.setCell ⟨w.heap.size + 1, j, none⟩ (.int .i64 K)) (w.heap.size + 1) G) := Lib.hid (h1.out.set (fun i _ => by
            rw [HE.out]
            simp only [nx]
            by_cases e : i = j
            · subst e; rw [if_neg (by omega), if_pos rfl, if_pos rfl]
            · by_cases e2 : i < j
              · simp [e, e2]
              · have := HO.out i (by omega); simp [e, e2, this]))
          have N3 := Lib.hid (h3.out.setCell (p := ⟨w.heap.size + 1, j, none⟩) (Nat.le_refl _) (.int .i64 K))
          rw [← hG0.out] at N1
          have j12' : (j : Int) < 12 := by omega
          have j0' : (0 : Int) ≤ j := by omega
          clear h1 h2 h3
          go_wp2
          go_roundw
          case rel => exact ⟨j + 1, by omega, by go_num, N1, N3.out⟩
          case measure => simp [intOf]; omega
    · have hend : k = zs.length := by omega
      subst hend
      have hw12 : (zs.length : Int) ≤ 12 := by omega
      have HAE := Lib.hid hA.out
      clear hA
      have HBE := Lib.hid (HW.out wr hb)
      go_wp2
      go_ret
      exact ⟨w.heap.size + 1, rfl, by omega, by omega, HAE.out, HBE.out⟩
end Go.Proofs.Ytbodpeiemamibaa.Tn
