/- Repeated numbers, and windows put together of pieces. -/
import Derived.Test.YteknakakefhbmaaBlCon
import Derived.WalkKit
import Derived.Below
import Derived.RegionTactic
import Derived.Deep.QuietTactic
import Derived.BigQuiet
import Derived.ChangeAlike
import Derived.Deep.OwnRows
import Derived.Deep.RegionLaw
import Derived.ProofKit
import Derived.OpenShut
import Derived.ChangeSlices
import Derived.Lib.Hide
namespace Go.Proofs.Yteknakakefhbmaa.Bl
open Go Go.ChangeShapes Go.WideShapes Go.ChangeAt Go.RowKit Go.Proofs.Yteknakakefhbmaa.Fx Go.Proofs.Yteknakakefhbmaa.Rk

theorem mul_ok (w : World) : Calls Try.prog 74 #[.int .u64 1, .int .u64 112] w fun e w' => e = .returned (.tuple #[.int .u64 0, .int .u64 112]) ∧ w = w' := by
  go_enter Try.func74, Try.ntmps74
  go_wp2
  go_ret2
  exact ⟨rfl, rfl⟩
def full : Int := 4194304
def rp (k : Nat) (j : Nat) : Int := if j < k then full else 0
theorem rp_spl (k m : Nat) (j : Nat) : spl k (List.replicate m full) (rp k) j = rp (k + m) j := by
  unfold spl rp
  rw [List.length_replicate]
  by_cases h1 : j < k
  · rw [if_neg (by omega), if_pos h1, if_pos (by omega)]
  · by_cases h2 : j < k + m
    · rw [if_pos (by omega), if_pos h2]; simp [show j - k < m by omega]
    · rw [if_neg (by omega), if_neg h1, if_neg h2]
theorem rp_rd {w : World} {g k m : Nat} (r : w.rowIs g 3 112 (fun j => .int .i64 (rp k j))) (hm : m ≤ k) (hk : k ≤ 112) : RdA w (some ⟨g, 0, none⟩) (List.replicate m full) := fun i hi => by
  rw [List.length_replicate] at hi
  refine ⟨g, 0, rfl, r.lt, ?_⟩
  rw [Nat.zero_add, r.cell (by omega)]
  unfold rp
  rw [if_pos (by omega)]
  simp [hi]
theorem size3 : (Try.prog.info? 3).map (·.size) = some 1 := by kernel_rfl
set_option maxRecDepth 100000 in
set_option maxHeartbeats 2000000 in
theorem repeat_ok (b : Nat) (w : World) (hb : b < w.heap.size) (hc : w.cell? ⟨b, 0, none⟩ = some (.int .i64 4194304)) :
    Calls Try.prog 66 #[.slice (some ⟨b, 0, none⟩) 1 1, .int .i64 112] w fun e w' => ∃ g, e = .returned (.slice (some ⟨g, 0, none⟩) 112 112) ∧ w.heap.size ≤ g ∧ w'.rowIs g 3 112 (fun _ => .int .i64 4194304) ∧ Below w.heap.size w w' := by
  obtain ⟨i0, hi, hz0, hz1, hz2⟩ := info_parts info3
  have R0 : Hid ((w.alloc (.cells (madeCells #[.int .i64 0] 112) 3)).rowIs w.heap.size 3 112 (fun j => .int .i64 (rp 0 j))) := Lib.hid ((World.rowIs_made w (.int .i64 0) 112 3).congr fun j _ => by unfold rp; simp)
  have B0 : Hid (Below w.heap.size w (w.alloc (.cells (madeCells #[.int .i64 0] 112) 3))) := Lib.hid ((Below.refl _ _).alloc (Nat.le_refl _) _)
  have rd0 : Hid (RdA (w.alloc (.cells (madeCells #[.int .i64 0] 112) 3)) (some ⟨b, 0, none⟩) (List.replicate 1 full)) := Lib.hid (fun i hi => by
    have h0 : i = 0 := by simpa using hi
    subst h0
    exact ⟨b, 0, rfl, Nat.lt_of_lt_of_le hb B0.out.size, (B0.out.cell (p := ⟨b, 0, none⟩) hb).trans hc⟩)
  clear hc
  go_enter Try.func66, Try.ntmps66
  go_wp2_with first
    | (go_at_call 74; ((with_reducible refine (mul_ok _).mono ?_); rintro e w1 ⟨rfl, rfl⟩))
    | (refine wpList_make_row _ rfl _ _ 22 rfl 3 i0 (.int .i64 0) Try.underlying22 hi hz0 hz1 rfl .i64 .i64 112 rfl rfl (by rw [hz2]; omega) (by omega) ?_)
    | (refine wpList_copy_row rfl (.tmp 31) (.tmp 32) 22 22 rfl 3 Try.underlying22 size3 w.heap.size 0 112 (rp 0) (some ⟨b, 0, none⟩) 112 112 1 1 (List.replicate 1 full) rfl rfl R0.out rfl rd0.out (by decide) ?_; intro w2 hr2 hb2; have R2 := Lib.hid hr2; have B2 := Lib.hid hb2; clear hr2 hb2)
  have R3 : Hid (w2.rowIs w.heap.size 3 112 (fun j => .int .i64 (rp 1 j))) := Lib.hid (R2.out.congr fun j _ => by rw [rp_spl])
  have B3 : Hid (Below w.heap.size w w2) := Lib.hid (B0.out.trans B2.out)
  clear R0 B0 rd0 R2 B2
  go_loopw [8] (fun n wr => ∃ k : Nat, 1 ≤ k ∧ k ≤ 112 ∧ n = .int .i64 k ∧ Hid (wr.rowIs w.heap.size 3 112 (fun j => .int .i64 (rp k j))) ∧ Hid (Below w.heap.size w wr)) (fun n _ => 112 - (intOf n).toNat)
  case atStart => exact ⟨1, by omega, by omega, rfl, R3, B3⟩
  case round =>
    obtain ⟨k, hk, hk2, rfl, hR, hB⟩ := hrel
    clear R3 B3
    by_cases hlt : k < 112
    · obtain ⟨m, hm⟩ : ∃ m : Nat, Nat.min k (112 - k) = m := ⟨_, rfl⟩
      have hm2 : m ≤ k ∧ 1 ≤ m ∧ k + m ≤ 112 := by
        rw [show Nat.min k (112 - k) = min k (112 - k) from rfl] at hm
        omega
      obtain ⟨m1, m2, m3⟩ := hm2
      have rd := Lib.hid (rp_rd hR.out m1 hk2)
      have hlen : (List.replicate m full).length = Nat.min k (112 - k) := by rw [List.length_replicate, hm]
      have hfit : k + (List.replicate m full).length ≤ 112 := by rw [List.length_replicate]; omega
      have h112 : ¬ 112 = k := by omega
      have h113 : (k : Int) ≤ 112 := by omega
      have rdd : RdA wr.drew (some ⟨w.heap.size, 0, none⟩) (List.replicate m full) := rd.out
      have RDD := Lib.hid rdd
      clear rdd
      go_wp2
      go_region_law (refine step_copy_row rfl (.tmp 41) (.tmp 44) 22 22 rfl 3 Try.underlying22 size3 w.heap.size k 112 (rp k) (some ⟨w.heap.size, 0, none⟩) (112 - k) (112 - k) k 112 (List.replicate m full) (by go_simp) (by go_simp) hR.out.drew hlen RDD.out hfit ?_; intro w4 hr4 hb4; have R4 := Lib.hid hr4; have B4 := Lib.hid hb4; clear hr4 hb4)
      have hwr : IntKind.i64.wrap ((k : Int) + m) = (k : Int) + m := by simp [IntKind.wrap, IntKind.bits, IntKind.signed]; omega
      have R5 : Hid (w4.rowIs w.heap.size 3 112 (fun j => .int .i64 (rp (k + m) j))) := Lib.hid (R4.out.congr fun j _ => by rw [rp_spl])
      have B5 : Hid (Below w.heap.size w w4) := Lib.hid (hB.out.drew.trans B4.out)
      clear R4 B4 hR hB
      go_simp
      go_wp2
      exact ⟨⟨k + m, by omega, by omega, by go_num, R5, B5⟩, by simp [intOf]; omega⟩
    · obtain rfl : k = 112 := by omega
      have R5 : wr.rowIs w.heap.size 3 112 (fun _ => .int .i64 4194304) := hR.out.congr fun j hj => by unfold rp; rw [if_pos hj]; rfl
      have B5 := hB.out
      clear hR hB
      go_wp2
      go_ret
      exact ⟨w.heap.size, rfl, Nat.le_refl _, R5, B5⟩
end Go.Proofs.Yteknakakefhbmaa.Bl
