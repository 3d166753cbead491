/- What noise's calls do. -/
import Derived.Test.YtanjcbnkkhbkkaaDoorPwK
import Derived.Test.YtanjcbnkkhbkkaaDoorNoMath
import Derived.WalkKit
import Derived.Below
import Derived.RegionTactic
import Derived.Deep.QuietTactic
import Derived.BigQuiet
import Derived.ChangeAlike
import Derived.Deep.OwnRows
import Derived.ProofKit
import Derived.OpenShut
import Derived.Lib.Hide
namespace Go.Proofs.YtanjcbnkkhbkkaaDoor.No
open Go Go.ChangeShapes Go.WideShapes Go.ChangeAt Go.RowKit Go.Proofs.YtanjcbnkkhbkkaaDoor.Fx Go.Proofs.YtanjcbnkkhbkkaaDoor.Nm

theorem heap_oth {w : World} {a b i : Nat} (v : Value) (h : a ≠ b) : (w.setCell ⟨a, i, none⟩ v).heap[b]? = w.heap[b]? := by
  simp only [World.setCell]
  show (w.heap.modify a _)[b]? = w.heap[b]?
  rw [Array.getElem?_modify, if_neg h]
theorem nx_eq (x : Nat) : ((x : Int) * 1664525 + 1013904223) % 4294967296 = (nx x : Nat) := by unfold nx; rw [Int.natCast_emod, Int.natCast_add, Int.natCast_mul]; rfl
theorem draw_ok (b x : Nat) (w : World) (_ : x < 4294967296) (c : w.cell? ⟨b, 0, none⟩ = some (.int .u32 x)) (f : w.frozen? ⟨b, 0, none⟩ = false) :
    Calls Tryd.prog 49 #[.pointer (some ⟨b, 0, none⟩)] w fun e w' => e = .returned (.int .i64 (nval (nx x))) ∧ w' = w.setCell ⟨b, 0, none⟩ (.int .u32 (nx x)) := by
  have e := Lib.hid (nx_eq x)
  go_enter Tryd.func49, Tryd.ntmps49
  go_wp2
  rw [e.out]
  go_ret
  exact ⟨ret1 (by unfold nval; rw [Int.natCast_ediv]; rfl), rfl⟩
/-- One list as far as so many, another one behind. -/
def upto (f h : Nat → Int) (k : Nat) : Nat → Value := fun j => .int .i64 (if j < k then f j else h j)
theorem upto_step {w : World} {g n k : Nat} {f h : Nat → Int} {v : Int} (r : w.rowIs g 3 n (upto f h k)) (e : v = f k) : (w.setCell ⟨g, k, none⟩ (.int .i64 v)).rowIs g 3 n (upto f h (k + 1)) :=
  (r.set k (.int .i64 v)).congr fun i _ => by
    unfold upto
    by_cases h1 : i = k
    · subst h1; rw [if_pos rfl, if_pos (by omega), e]
    · rw [if_neg h1]
      by_cases h2 : i < k
      · rw [if_pos h2, if_pos (by omega)]
      · rw [if_neg h2, if_neg (by omega)]
theorem upto_end {w : World} {g n : Nat} {f h : Nat → Int} (r : w.rowIs g 3 n (upto f h n)) : w.rowIs g 3 n (fun j => .int .i64 (f j)) := r.congr fun i hi => by unfold upto; rw [if_pos hi]
theorem upto_at {w : World} {g n k : Nat} {f h : Nat → Int} (r : w.rowIs g 3 n (upto f h k)) {i : Nat} (hi : i < n) (hk : k ≤ i) : w.cell? ⟨g, i, none⟩ = some (.int .i64 (h i)) := by
  have := r.cell hi
  unfold upto at this
  rwa [if_neg (by omega)] at this
theorem info3 : (Tryd.prog.info? 3).map (fun i => (i.zero, i.size, i.bytes)) = some (some (.int .i64 0), 1, 8) := by kernel_rfl
theorem info_parts {p : Program} {t : TypeId} {v : Value} {n b : Nat} (h : (p.info? t).map (fun i => (i.zero, i.size, i.bytes)) = some (some v, n, b)) : ∃ i0, p.info? t = some i0 ∧ i0.zero = some v ∧ i0.size = n ∧ i0.bytes = b := by
  cases hi : p.info? t with
  | none => rw [hi] at h; simp at h
  | some i0 => rw [hi] at h; simp at h; exact ⟨i0, rfl, h.1, h.2.1, h.2.2⟩
set_option maxRecDepth 100000 in
set_option maxHeartbeats 2000000 in
theorem draws_ok (base s m b : Nat) (w : World) (hs : s < 4294967296) (hm : m ≤ 256) (hb : base ≤ b) (hbs : base ≤ w.heap.size) (c : w.cell? ⟨b, 0, none⟩ = some (.int .u32 s)) (f : w.frozen? ⟨b, 0, none⟩ = false) :
    Calls Tryd.prog 48 #[.int .i64 m, .func (.func 49) #[.pointer (some ⟨b, 0, none⟩)] #[]] w fun e w' => e = .returned (.slice (some ⟨w.heap.size, 0, none⟩) m m) ∧ w'.rowIs w.heap.size 3 m (fun j => .int .i64 (nv s j)) ∧ Below base w w' := by
  obtain ⟨i0, hi, hz0, hz1, hz2⟩ := info_parts info3
  have hlt := cell_lt c
  have hrow : (w.alloc (.cells (madeCells #[.int .i64 0] m) 3)).rowIs w.heap.size 3 m (upto (nv s) (fun _ => 0) 0) := (World.rowIs_made w (.int .i64 0) m 3).congr fun i _ => by unfold upto; simp
  have hbm : Below base w (w.alloc (.cells (madeCells #[.int .i64 0] m) 3)) := (Below.refl _ _).alloc hbs _
  have hbo : Below w.heap.size w (w.alloc (.cells (madeCells #[.int .i64 0] m) 3)) := (Below.refl _ _).alloc (Nat.le_refl _) _
  have HC0 : Hid ((w.alloc (.cells (madeCells #[.int .i64 0] m) 3)).cell? ⟨b, 0, none⟩ = some (.int .u32 (nseq s 0)) ∧ (w.alloc (.cells (madeCells #[.int .i64 0] m) 3)).frozen? ⟨b, 0, none⟩ = false) := Lib.hid ⟨(hbo.cell (p := ⟨b, 0, none⟩) hlt).trans c, (hbo.frozen (p := ⟨b, 0, none⟩) hlt).trans f⟩
  have Hrow := Lib.hid hrow
  have hltb : b < w.heap.size := hlt
  have hne : w.heap.size ≠ b := by omega
  clear hlt
  clear hrow hbo c f
  go_enter Tryd.func48, Tryd.ntmps48
  go_wp2_with ((refine wpList_make_row _ rfl _ _ 39 rfl 3 i0 (.int .i64 0) Tryd.underlying39 hi hz0 hz1 rfl .i64 .i64 m rfl rfl (by rw [hz2]; omega) (by omega) ?_))
  go_loopw [11] (fun i wr => ∃ k : Nat, k ≤ m ∧ i = .int .i64 k ∧ Hid (wr.rowIs w.heap.size 3 m (upto (nv s) (fun _ => 0) k)) ∧ Hid (wr.cell? ⟨b, 0, none⟩ = some (.int .u32 (nseq s k)) ∧ wr.frozen? ⟨b, 0, none⟩ = false) ∧ Hid (Below base w wr)) (fun i _ => m - (intOf i).toNat)
  case atStart => exact ⟨0, by omega, rfl, Hrow, HC0, Lib.hid hbm⟩
  case round =>
    obtain ⟨k, hk, rfl, hR, hC, hB⟩ := hrel
    by_cases hlt : k < m
    · have HD := Lib.hid (draw_ok b (nseq s k) wr (nseq_lt hs k) hC.out.1 hC.out.2)
      have gR := Lib.hid (upto_step (v := nval (nx (nseq s k))) (hR.out.setOther (a := ⟨b, 0, none⟩) hne (.int .u32 (nx (nseq s k)))) rfl)
      have gc : (wr.setCell ⟨b, 0, none⟩ (.int .u32 (nx (nseq s k)))).cell? ⟨w.heap.size, k, none⟩ = some (.int .i64 0) := upto_at (hR.out.setOther (a := ⟨b, 0, none⟩) hne (.int .u32 (nx (nseq s k)))) hlt (Nat.le_refl _)
      have gf : (wr.setCell ⟨b, 0, none⟩ (.int .u32 (nx (nseq s k)))).frozen? ⟨w.heap.size, k, none⟩ = false := (hR.out.setOther (a := ⟨b, 0, none⟩) hne (.int .u32 (nx (nseq s k)))).frozen k
      have gC : Hid (((wr.setCell ⟨b, 0, none⟩ (.int .u32 (nx (nseq s k)))).setCell ⟨w.heap.size, k, none⟩ (.int .i64 (nval (nx (nseq s k))))).cell? ⟨b, 0, none⟩ = some (.int .u32 (nseq s (k + 1))) ∧ ((wr.setCell ⟨b, 0, none⟩ (.int .u32 (nx (nseq s k)))).setCell ⟨w.heap.size, k, none⟩ (.int .i64 (nval (nx (nseq s k))))).frozen? ⟨b, 0, none⟩ = false) := Lib.hid (by
        have c1 := World.cell?_setCell_same wr _ (.int .u32 (nx (nseq s k))) hC.out.1
        have f1 : (wr.setCell ⟨b, 0, none⟩ (.int .u32 (nx (nseq s k)))).frozen? ⟨b, 0, none⟩ = false := by simpa using hC.out.2
        exact ⟨(World.cell?_of_block (heap_oth _ hne)).trans c1, (World.frozen?_of_block (heap_oth _ hne)).trans f1⟩)
      have gB := Lib.hid ((hB.out.setCell (p := ⟨b, 0, none⟩) hb (.int .u32 (nx (nseq s k)))).setCell (p := ⟨w.heap.size, k, none⟩) hbs (.int .i64 (nval (nx (nseq s k)))))
      have hbd : -32768 ≤ nval (nx (nseq s k)) ∧ nval (nx (nseq s k)) ≤ 32767 := nv_bd s k
      clear hC hR hB
      generalize nval (nx (nseq s k)) = V at *
      generalize ((nx (nseq s k) : Nat) : Int) = X at *
      go_wp2_with (go_at_call 49; ((with_reducible refine (HD.out).mono ?_); rintro e w' ⟨rfl, rfl⟩))
      go_roundw
      case rel => exact ⟨k + 1, by omega, by go_num, gR, gC, gB⟩
      case measure => simp [intOf]; omega
    · have hend : k = m := by omega
      subst hend
      have hF := Lib.hid (upto_end hR.out)
      have hB' := hB.out
      clear hR hC
      go_wp2
      go_ret
      exact ⟨rfl, hF.out, hB'⟩

theorem floor_key {n d q p : Int} (n0 : -4611686018427387904 ≤ n) (n1 : n ≤ 4611686018427387904) (hdp : 0 < d) (d1 : d ≤ 4294967296) (hq : Int.tdiv n d = q) (hp : q * d = p) :
    (n < p → n / d = q - 1) ∧ (¬ n < p → n / d = q) ∧ -4611686018427387904 ≤ q ∧ q ≤ 4611686018427387904 ∧ -4611686018427387904 ≤ p ∧ p ≤ 4611686018427387904 := by
  have d0 : 0 ≤ d := by omega
  by_cases hn : 0 ≤ n
  · have e : n / d = q := by rw [← hq, Int.tdiv_eq_ediv_of_nonneg hn]
    have a := Int.mul_ediv_add_emod n d
    have b := Int.emod_nonneg n (show d ≠ 0 by omega)
    have c := Int.emod_lt_of_pos n hdp
    rw [e] at a
    have q0 : 0 ≤ q := by rw [← e]; exact Int.ediv_nonneg hn (by omega)
    have q1 : q ≤ n := by rw [← e]; exact Int.ediv_le_self _ hn
    have ep : d * q = p := by rw [← hp, Int.mul_comm]
    have p0 : 0 ≤ p := by rw [← ep]; exact Int.mul_nonneg d0 q0
    exact ⟨fun h => by omega, fun _ => e, by omega, by omega, by omega, by omega⟩
  · have e : Int.tdiv n d = -((-n) / d) := by
      have := Int.neg_tdiv (-n) d
      rw [Int.neg_neg, Int.tdiv_eq_ediv_of_nonneg (show 0 ≤ -n by omega)] at this
      exact this
    have a := Int.mul_ediv_add_emod (-n) d
    have b := Int.emod_nonneg (-n) (show d ≠ 0 by omega)
    have c := Int.emod_lt_of_pos (-n) hdp
    have q0 : 0 ≤ (-n) / d := Int.ediv_nonneg (by omega) (by omega)
    have q1 : (-n) / d ≤ -n := Int.ediv_le_self _ (by omega)
    generalize (-n) / d = u at *
    generalize (-n) % d = r at *
    have hqu : q = -u := by omega
    have ep : p = -(d * u) := by rw [← hp, hqu, Int.neg_mul, Int.mul_comm]
    refine ⟨fun h => ?_, fun h => ?_, by omega, by omega, by omega, by have := Int.mul_nonneg d0 q0; omega⟩
    · refine Int.le_antisymm (Int.le_of_lt_add_one (Int.ediv_lt_of_lt_mul hdp ?_)) (Int.le_ediv_of_mul_le hdp ?_)
      · rw [show (q - 1 + 1) * d = q * d by rw [Int.sub_add_cancel], hp]; exact h
      · rw [Int.sub_mul, hp]; omega
    · have : r = 0 := by omega
      refine Int.le_antisymm (Int.le_of_lt_add_one (Int.ediv_lt_of_lt_mul hdp ?_)) (Int.le_ediv_of_mul_le hdp ?_)
      · rw [Int.add_mul, hp]; omega
      · rw [hp]; omega
theorem shared_ok (n d : Int) (w : World) (n0 : -4611686018427387904 ≤ n) (n1 : n ≤ 4611686018427387904) (d0 : 0 ≤ d) (d1 : d ≤ 4294967296) :
    Calls Tryd.prog 51 #[.int .i64 n, .int .i64 d] w fun e w' => e = .returned (.int .i64 (if d = 0 then 0 else n / d)) ∧ w = w' := by
  by_cases hd : d = 0
  · subst hd
    rw [if_pos rfl]
    go_enter Tryd.func51, Tryd.ntmps51
    go_wp2
    go_ret
    exact ⟨rfl, rfl⟩
  · rw [if_neg hd]
    obtain ⟨q, hq⟩ : ∃ q, Int.tdiv n d = q := ⟨_, rfl⟩
    obtain ⟨p, hp⟩ : ∃ p, q * d = p := ⟨_, rfl⟩
    have hdp : 0 < d := by omega
    have key := floor_key n0 n1 hdp d1 hq hp
    obtain ⟨k1, k2, k3, k4, k5, k6⟩ := key
    by_cases hlt : n < p
    · have e := k1 hlt
      rw [e]
      clear k1 k2 e
      go_enter Tryd.func51, Tryd.ntmps51
      go_wp2
      go_ret
      exact ⟨rfl, rfl⟩
    · have e := k2 hlt
      rw [e]
      clear k1 k2 e
      go_enter Tryd.func51, Tryd.ntmps51
      go_wp2
      go_ret
      exact ⟨rfl, rfl⟩
end Go.Proofs.YtanjcbnkkhbkkaaDoor.No
