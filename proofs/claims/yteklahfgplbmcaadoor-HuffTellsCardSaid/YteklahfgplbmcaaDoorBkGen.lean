/- A book that is one is told so. -/
import Derived.Test.YteklahfgplbmcaaDoorBkGet
import Derived.WalkKit
import Derived.Below
import Derived.RegionTactic
import Derived.Deep.QuietTactic
import Derived.BigQuiet
import Derived.ChangeAlike
import Derived.Deep.OwnRows
import Derived.Deep.RegionHeld3
import Derived.Laws.Rows
import Derived.Laws.Tables
import Derived.Deep.WholeRow
import Derived.ProofKit
import Derived.OpenShut
import Derived.Laws.EntriesVeiled
import Derived.Lib.Hide
namespace Go.Proofs.YteklahfgplbmcaaDoor.Bk
open Go Go.ChangeShapes Go.WideShapes Go.ChangeAt Go.RowKit Go.Proofs.YteklahfgplbmcaaDoor.Bi Go.Proofs.YteklahfgplbmcaaDoor.Cr

theorem bk_box (w : World) (I p : Int) (E R n : Nat) : (w.alloc (.cells #[.int .i64 I, .int .i64 p, .slice (some ⟨E, 0, none⟩) n n, .slice (some ⟨R, 0, none⟩) n n] 24)).rowIs w.heap.size 24 4 (fun i => #[Value.int .i64 I, .int .i64 p, .slice (some ⟨E, 0, none⟩) n n, .slice (some ⟨R, 0, none⟩) n n].getD i undef) :=
  World.rowIs_alloc w _ 24 _ (fun i hi => by
    have h4 : i < 4 := hi
    have : i = 0 ∨ i = 1 ∨ i = 2 ∨ i = 3 := by omega
    rcases this with rfl | rfl | rfl | rfl <;> rfl)
/-- The book's four cells in a box. -/
abbrev Kb (w : World) (B : Nat) (I p : Int) (E R n : Nat) : Prop := w.cell? ⟨B, 0, none⟩ = some (.int .i64 I) ∧ w.cell? ⟨B, 1, none⟩ = some (.int .i64 p) ∧ w.cell? ⟨B, 2, none⟩ = some (.slice (some ⟨E, 0, none⟩) n n) ∧ w.cell? ⟨B, 3, none⟩ = some (.slice (some ⟨R, 0, none⟩) n n) ∧ B < w.heap.size
theorem Kb.below {w w' : World} {B E R n : Nat} {I p : Int} (x : Kb w B I p E R n) (hb : Below w.heap.size w w') : Kb w' B I p E R n := by
  obtain ⟨a, b, c, e, f⟩ := x
  exact ⟨(hb.cell f).trans a, (hb.cell f).trans b, (hb.cell f).trans c, (hb.cell f).trans e, Nat.lt_of_lt_of_le f hb.size⟩
theorem kb_new (w : World) (I p : Int) (E R n : Nat) : Kb (w.alloc (.cells #[.int .i64 I, .int .i64 p, .slice (some ⟨E, 0, none⟩) n n, .slice (some ⟨R, 0, none⟩) n n] 24)) w.heap.size I p E R n := by
  have r := bk_box w I p E R n
  exact ⟨r.cell (i := 0) (by omega), r.cell (i := 1) (by omega), r.cell (i := 2) (by omega), r.cell (i := 3) (by omega), r.lt⟩
structure GN (w0 : World) (id B S E R : Nat) (w : World) : Prop where
  k : Kb w B (id : Int) (pl id) E R (Nn id)
  s : Bx4 w S (dm id) (lw id) (hg id) (pl id)
  e : w.rowIs E 3 (Nn id) (fun j => .int .i64 (ordI id j))
  r : w.rowIs R 3 (Nn id) (fun j => .int .i64 (rkI id j))
  bl : Below w0.heap.size w0 w
theorem GN.below {w0 : World} {id B S E R : Nat} {w w' : World} (g : GN w0 id B S E R w) (hb : Below w.heap.size w w') : GN w0 id B S E R w' :=
  ⟨g.k.below hb, g.s.below hb, g.e.of_block (hb.block _ g.e.lt), g.r.of_block (hb.block _ g.r.lt), g.bl.trans (hb.mono g.bl.size)⟩
theorem gn_new {w : World} {id E R n : Nat} (he : w.rowIs E 3 (Nn id) (fun j => .int .i64 (ordI id j))) (hr : w.rowIs R 3 (Nn id) (fun j => .int .i64 (rkI id j))) :
    GN w id w.heap.size (w.heap.size + 1) E R (((w.alloc (.cells #[.int .i64 (id : Int), .int .i64 (pl id), .slice (some ⟨E, 0, none⟩) (Nn id) (Nn id), .slice (some ⟨R, 0, none⟩) (Nn id) (Nn id)] 24)).drewN n).alloc (.cells #[.int .i64 (dm id), .int .i64 (lw id), .int .i64 (hg id), .int .i64 (pl id)] 82)) := by
  have k0 := kb_new w (id : Int) (pl id) E R (Nn id)
  have b1 := (Below.refl w.heap.size w).alloc (Nat.le_refl _) (.cells #[.int .i64 (id : Int), .int .i64 (pl id), .slice (some ⟨E, 0, none⟩) (Nn id) (Nn id), .slice (some ⟨R, 0, none⟩) (Nn id) (Nn id)] 24)
  have b2 := Go.Proofs.YteklahfgplbmcaaDoor.Fx.drewN_belowL (w.alloc (.cells #[.int .i64 (id : Int), .int .i64 (pl id), .slice (some ⟨E, 0, none⟩) (Nn id) (Nn id), .slice (some ⟨R, 0, none⟩) (Nn id) (Nn id)] 24)) n
  have s0 := bx4_new ((w.alloc (.cells #[.int .i64 (id : Int), .int .i64 (pl id), .slice (some ⟨E, 0, none⟩) (Nn id) (Nn id), .slice (some ⟨R, 0, none⟩) (Nn id) (Nn id)] 24)).drewN n) (dm id) (lw id) (hg id) (pl id)
  have b3 := (Below.refl _ ((w.alloc (.cells #[.int .i64 (id : Int), .int .i64 (pl id), .slice (some ⟨E, 0, none⟩) (Nn id) (Nn id), .slice (some ⟨R, 0, none⟩) (Nn id) (Nn id)] 24)).drewN n)).alloc (Nat.le_refl _) (.cells #[.int .i64 (dm id), .int .i64 (lw id), .int .i64 (hg id), .int .i64 (pl id)] 82)
  have e1 : ((w.alloc (.cells #[.int .i64 (id : Int), .int .i64 (pl id), .slice (some ⟨E, 0, none⟩) (Nn id) (Nn id), .slice (some ⟨R, 0, none⟩) (Nn id) (Nn id)] 24)).drewN n).heap.size = w.heap.size + 1 := by
    show (w.alloc _).heap.size = _
    simp
  rw [e1] at s0
  have hb : Below w.heap.size w _ := b1.trans ((b2.mono b1.size).trans (b3.mono (Nat.le_trans b1.size b2.size)))
  exact ⟨(k0.below b2).below b3, s0, he.of_block (hb.block _ he.lt), hr.of_block (hb.block _ hr.lt), hb⟩

set_option maxRecDepth 100000 in
set_option maxHeartbeats 8000000 in
theorem genuine_yes (id E R : Nat) (w : World) (h1 : 1 ≤ id) (h2 : id ≤ 12) (hs : Sh w) (he : w.rowIs E 3 (Nn id) (fun j => .int .i64 (ordI id j))) (hr : w.rowIs R 3 (Nn id) (fun j => .int .i64 (rkI id j))) :
    Calls Tryd.prog 49 #[.agg #[.int .i64 (id : Int), .int .i64 (pl id : Int), .slice (some ⟨E, 0, none⟩) (Nn id) (Nn id), .slice (some ⟨R, 0, none⟩) (Nn id) (Nn id)]] w fun e w' => e = .returned (.bool true) ∧ Below w.heap.size w w' := by
  obtain ⟨k, rfl⟩ : ∃ k, id = k + 1 := ⟨id - 1, by omega⟩
  have h12 : Hid (1 ≤ k + 1 ∧ k + 1 ≤ 12) := Lib.hid ⟨h1, h2⟩
  have HS := Lib.hid hs
  obtain ⟨s0, s1⟩ := hs
  obtain ⟨g0, g1, g2, g3⟩ := s1 k (by omega)
  have hN := (facts h1 h2).2.2.2.2.2.2.2.1
  obtain ⟨k0, k1, k2, k3, k4⟩ := kb_new w ((k + 1 : Nat) : Int) (pl (k + 1)) E R (Nn (k + 1))
  rw [Int.natCast_add, Int.natCast_one] at k0 k1 k2 k3 k4
  have HE := Lib.hid he
  have HR := Lib.hid hr
  have HW := Lib.hid (fun w => wts h1 h2 w)
  have HZ := Lib.hid (fun w => (sizes h1 h2 w).mono fun _ _ h => (⟨h.1, ⟨h.2⟩⟩ : _ ∧ Bel w _))
  have hk11 : k ≤ 11 := by omega
  have d1 : decide ((k : Int) + 1 < 1) = false := decide_eq_false (by omega)
  have d2 : decide (12 < (k : Int) + 1) = false := decide_eq_false (by omega)
  clear s1 he hr h1 h2
  go_enter Tryd.func49, Tryd.ntmps49
  go_wp2
  go_quiet (fail)
  go_upto_region 4 with fail
  have G0' := gn_new (n := nq) HE.out HR.out
  simp only [Int.natCast_add, Int.natCast_one] at G0'
  have G0 := Lib.hid G0'
  clear G0'
  clear k0 k1 k2 k3 k4 g0 g1 g2 g3 s0 HE HR
  generalize ((w.alloc (Obj.cells #[Value.int IntKind.i64 ((k : Int) + 1), Value.int IntKind.i64 (pl (k + 1)), Value.slice (some { block := E, off := 0 }) (Nn (k + 1)) (Nn (k + 1)), Value.slice (some { block := R, off := 0 }) (Nn (k + 1)) (Nn (k + 1))] 24)).drewN nq).alloc (Obj.cells #[Value.int IntKind.i64 (dm (k + 1)), Value.int IntKind.i64 (lw (k + 1)), Value.int IntKind.i64 (hg (k + 1)), Value.int IntKind.i64 (pl (k + 1))] 82) = W4 at *
  obtain ⟨N, hNN⟩ : ∃ N, Nn (k + 1) = N := ⟨_, rfl⟩
  have HNN := Lib.hid hNN
  rw [hNN] at HZ hN ⊢
  clear hNN d1 d2 hk11
  generalize hB : w.heap.size = B at *
  generalize B + 1 = S at *
  have HB := Lib.hid hB
  clear hB
  have lim : ∀ w', GN w (k + 1) B S E R w' → w'.cell? ⟨B, 2, none⟩ = some (.slice (some ⟨E, 0, none⟩) N N) ∧ w'.cell? ⟨B, 3, none⟩ = some (.slice (some ⟨R, 0, none⟩) N N) ∧ w'.cell? ⟨S, 0, none⟩ = some (.int .i64 (dm (k + 1))) ∧ w'.cell? ⟨S, 1, none⟩ = some (.int .i64 (lw (k + 1))) ∧ w'.cell? ⟨S, 2, none⟩ = some (.int .i64 (hg (k + 1))) ∧ w'.cell? ⟨S, 3, none⟩ = some (.int .i64 (pl (k + 1))) := fun w' g => by
    rw [← HNN.out]; exact ⟨g.k.2.2.1, g.k.2.2.2.1, g.s.1, g.s.2.1, g.s.2.2.1, g.s.2.2.2.1⟩
  have HL := Lib.hid lim
  obtain ⟨p2, p3, q0, q1, q2, q3⟩ := lim W4 G0.out
  clear lim
  have G1 : Hid (GN w (k + 1) B S E R W4.drew) := Lib.hid (G0.out.below ((Below.refl W4.heap.size W4).drew))
  go_region_held3 (fun w' => (w'.cell? ⟨B, 2, none⟩ = some (.slice (some ⟨E, 0, none⟩) N N) ∧ w'.cell? ⟨B, 3, none⟩ = some (.slice (some ⟨R, 0, none⟩) N N) ∧ w'.cell? ⟨S, 0, none⟩ = some (.int .i64 (dm (k + 1))) ∧ w'.cell? ⟨S, 1, none⟩ = some (.int .i64 (lw (k + 1))) ∧ w'.cell? ⟨S, 2, none⟩ = some (.int .i64 (hg (k + 1))) ∧ w'.cell? ⟨S, 3, none⟩ = some (.int .i64 (pl (k + 1)))))
    (first
      | with_reducible exact HL.out _ G1.out
      | with_reducible exact HL.out _ G2.out
      | with_reducible exact HL.out _ G3.out
      | (trace_state; fail))
    (first
      | (go_at_call 46; ((with_reducible refine (HZ.out _).mono ?_); rintro e w5 ⟨rfl, hb5⟩; have G2 : Hid (GN w (k + 1) B S E R w5) := Lib.hid (GN.below G1.out hb5.b)))
      | (go_at_call 46; ((with_reducible refine (HZ.out _).mono ?_); rintro e w6 ⟨rfl, hb6⟩; have G3 : Hid (GN w (k + 1) B S E R w6) := Lib.hid (GN.below G2.out hb6.b))))
  clear p2 p3 q0 q1 q2 q3
  obtain ⟨p2, p3, q0, q1, q2, q3⟩ := HL.out w6 G3.out
  go_upto_region 8 with first
    | (go_at_call 45; ((with_reducible refine (HW.out _).mono ?_); rintro e w7 ⟨c, rfl, hw, hc1, hc2, hb7⟩; have hsi := Lib.hid (size84.trans (congrArg some hc1.symm))))
    | (refine wpList_new84 _ rfl rfl ?_)
    | (refine wpList_store_row rfl 84 _ _ rfl w7.heap.size c rfl rfl 84 (Array.replicate 289 (.int .u8 0)) (heap_alloc_last w7 _) hsi.out (by rw [hc1]; simp) hc2 ?_)
  have G8 : Hid (GN w (k + 1) B S E R ((w7.alloc (.cells (Array.replicate 289 (.int .u8 0)) 84)).setRow w7.heap.size c) ∧ ((w7.alloc (.cells (Array.replicate 289 (.int .u8 0)) 84)).setRow w7.heap.size c).rowIs w7.heap.size 84 289 (fun j => .int .u8 (wf (bs (k + 1)) (lw (k + 1)) (Nn (k + 1)) (dm (k + 1)) 1 j))) := by
    rw [World.setRow_alloc_new]
    have hNf := (facts h12.out.1 h12.out.2).1
    rw [← hNf] at hw
    exact Lib.hid ⟨(GN.below G3.out hb7).below ((Below.refl _ w7).alloc (Nat.le_refl _) _), ⟨c, heap_alloc_last w7 _, hw.1, hw.2⟩⟩
  clear hw hc1 hc2 hb7 hsi p2 p3 q0 q1 q2 q3
  generalize (w7.alloc (.cells (Array.replicate 289 (.int .u8 0)) 84)).setRow w7.heap.size c = W8 at *
  generalize w7.heap.size = Wt at *
  obtain ⟨p2, p3, q0, q1, q2, q3⟩ := HL.out W8 G8.out.1
  clear q0 q1 q2 q3
  go_wp2
  go_loopw [5, 6, 52] (fun wv pn i wr => ∃ (r : Nat) (pv p : Int), r ≤ N ∧ i = .int .i64 r ∧ wv = .int .u8 pv ∧ pn = .int .i64 p ∧ Hid (∀ n, (ord (k + 1))[r]? = some n → pv ≤ (wt (k + 1) n : Nat) ∧ (((wt (k + 1) n : Nat) : Int) = pv → p < (n : Int))) ∧ wr = W8) (fun _ _ i _ => N - (intOf i).toNat)
  case atStart => exact ⟨0, 0, -1, by omega, rfl, rfl, rfl, Lib.hid (fun n _ => ⟨by omega, by omega⟩), rfl⟩
  case round =>
    obtain ⟨r, pv, p, hr, rfl, rfl, rfl, hP, rfl⟩ := hrel
    by_cases hlt : r < N
    · obtain ⟨n, hn1, hn2, hn3⟩ := (ord_is h12.out.1 h12.out.2).at (r := r) (by rw [HNN.out]; exact hlt)
      have ce := G8.out.1.e.cell (i := r) (by rw [HNN.out]; exact hlt)
      have hoi : ordI (k + 1) r = (n : Int) := by unfold ordI; rw [List.getD_eq_getElem?_getD, hn1]; rfl
      rw [hoi] at ce
      have cr := G8.out.1.r.cell (i := n) hn2
      have hri : rkI (k + 1) n = (r : Int) := by unfold rkI; exact congrArg _ hn3
      rw [hri] at cr
      have cw := G8.out.2.cell (i := n) (by rw [HNN.out] at hn2; omega)
      rw [wf_wt hn2] at cw
      rw [HNN.out] at hn2
      obtain ⟨hp1, hp2⟩ := hP.out n hn1
      have hv61 := wt_lt h12.out.1 h12.out.2 n
      have hPn : Hid (∀ n', (ord (k + 1))[r + 1]? = some n' → ((wt (k + 1) n : Nat) : Int) ≤ (wt (k + 1) n' : Nat) ∧ (((wt (k + 1) n' : Nat) : Int) = (wt (k + 1) n : Nat) → (n : Int) < (n' : Int))) := Lib.hid fun n' h' => by
        have := (ord_is h12.out.1 h12.out.2).lt_of (Nat.lt_succ_self r) hn1 h'
        unfold lt at this
        omega
      clear hP hn1 hn3 hoi hri
      have hn289 : n < 289 := by omega
      obtain ⟨v, hv⟩ : ∃ v : Int, ((wt (k + 1) n : Nat) : Int) = v := ⟨_, rfl⟩
      rw [hv] at cw hp1 hp2 hPn
      have hv0 : 0 ≤ v := by omega
      have hv1 : v ≤ 60 := by omega
      clear hv hv61
      by_cases hpe : v = pv
      · have hpl := hp2 hpe
        subst hpe
        clear hp2 hp1
        go_wp2
        go_roundw
        case rel => exact ⟨r + 1, v, (n : Int), by omega, by go_num, rfl, rfl, hPn, trivial⟩
        case measure => simp [intOf]; omega
      · have hbe : (v == pv) = false := by simp [hpe]
        clear hp2
        go_wp2
        go_roundw
        case rel => exact ⟨r + 1, v, (n : Int), by omega, by go_num, rfl, rfl, hPn, trivial⟩
        case measure => simp [intOf]; omega
    · have hend : r = N := by omega
      subst hend
      have hbel := Lib.hid G8.out.1.bl
      go_wp2
      go_ret
      rw [← HB.out]
      exact ⟨rfl, hbel.out⟩
end Go.Proofs.YteklahfgplbmcaaDoor.Bk
