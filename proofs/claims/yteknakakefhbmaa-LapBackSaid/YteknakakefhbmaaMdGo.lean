/- The transform and its inverse. -/
import Derived.Test.YteknakakefhbmaaMdFill
import Derived.WalkKit
import Derived.Below
import Derived.RegionTactic
import Derived.Deep.QuietTactic
import Derived.BigQuiet
import Derived.ChangeAlike
import Derived.Deep.OwnRows
import Derived.ProofKit
import Derived.OpenShut
import Derived.Great.Walk
import Derived.ChangeKeysEq
import Derived.Lib.Hide
namespace Go.Proofs.Yteknakakefhbmaa.Md
open Go Go.ChangeShapes Go.WideShapes Go.ChangeAt Go.RowKit Go.Proofs.Yteknakakefhbmaa.Fx Go.Proofs.Yteknakakefhbmaa.Mm

def upto (f h : Nat → Int) (k : Nat) : Nat → Value := fun j => .int .i64 (if j < k then f j else h j)
theorem upto_step {w : World} {g n k : Nat} {f h : Nat → Int} {v : Int} (r : w.rowIs g 3 n (upto f h k)) (e : v = f k) : (w.setCell ⟨g, k, none⟩ (.int .i64 v)).rowIs g 3 n (upto f h (k + 1)) :=
  (r.set k (.int .i64 v)).congr fun i _ => by
    unfold upto
    by_cases h1 : i = k
    · subst h1; rw [if_pos rfl, if_pos (by omega), e]
    · rw [if_neg h1]
      by_cases h2 : i < k
      · rw [if_pos h2, if_pos (by omega)]
      · rw [if_neg h2, if_neg (by omega)]
theorem upto_end {w : World} {g n : Nat} {f h : Nat → Int} (r : w.rowIs g 3 n (upto f h n)) : w.rowIs g 3 n (fun j => .int .i64 (f j)) := r.congr fun i hi => by unfold upto; rw [if_pos hi]
theorem upto_at {w : World} {g n k : Nat} {f h : Nat → Int} (r : w.rowIs g 3 n (upto f h k)) {i : Nat} (hi : i < n) (hk : k ≤ i) : w.cell? ⟨g, i, none⟩ = some (.int .i64 (h i)) := by
  have := r.cell hi
  unfold upto at this
  rwa [if_neg (by omega)] at this
theorem info3 : (Try.prog.info? 3).map (fun i => (i.zero, i.size, i.bytes)) = some (some (.int .i64 0), 1, 8) := by kernel_rfl
theorem info79 : (Try.prog.info? 79).map (fun i => i.zero.map Value.cells) = some (some (Array.replicate 2048 (.int .i64 0))) := by kernel_rfl
theorem info_parts {p : Program} {t : TypeId} {v : Value} {n b : Nat} (h : (p.info? t).map (fun i => (i.zero, i.size, i.bytes)) = some (some v, n, b)) : ∃ i0, p.info? t = some i0 ∧ i0.zero = some v ∧ i0.size = n ∧ i0.bytes = b := by
  cases hi : p.info? t with
  | none => rw [hi] at h; simp at h
  | some i0 => rw [hi] at h; simp at h; exact ⟨i0, rfl, h.1, h.2.1, h.2.2⟩
theorem run_new {p : Program} {t : TypeId} {cs : Array Value} (h : (p.info? t).map (fun i => i.zero.map Value.cells) = some (some cs)) (w : World) : (Instr.alloc t true (.tuple #[])).run p w = .ok (.pointer (some ⟨w.heap.size, 0, none⟩)) (w.alloc (.cells cs t)) := by
  cases hi : p.info? t with
  | none => rw [hi] at h; simp at h
  | some i0 =>
    rw [hi] at h
    simp only [Option.map_some, Option.some.injEq] at h
    cases hz : i0.zero with
    | none => rw [hz] at h; simp at h
    | some z =>
      rw [hz] at h
      simp only [Option.map_some, Option.some.injEq] at h
      have h1 := run_typeInfo (w := w) hi
      unfold Instr.alloc zeroValue newVar newRow
      simp [h1, hz, h, Sem.run_bind]
theorem run_new79 (w : World) : (Instr.alloc 79 true (.tuple #[])).run Try.prog w = .ok (.pointer (some ⟨w.heap.size, 0, none⟩)) (w.alloc (.cells (Array.replicate 2048 (.int .i64 0)) 79)) := run_new info79 w
theorem wpList_new (w : World) {ops : Array Oper} {rest : List Oper} {o : Oper} {a : Act} {Q : Exit → Act → World → Prop} (hg : o.guard = none) (hop : o.op = Op.alloc 79)
    (hK : wpList Try.prog ops Q rest (a.put o.dst (.pointer (some ⟨w.heap.size, 0, none⟩))) (w.alloc (.cells (Array.replicate 2048 (.int .i64 0)) 79))) : wpList Try.prog ops Q (o :: rest) a w := by
  refine wpList_plain hg fun K hK' => ?_
  have hrun := run_new79 w
  unfold Oper.wp
  simp [execOp, hop, hrun, Result.andThen]
  exact hK' _ _ hK
theorem new_row (w : World) : (w.alloc (.cells (Array.replicate 2048 (.int .i64 0)) 79)).rowIs w.heap.size 79 2048 (fun _ => .int .i64 0) :=
  ⟨_, Go.Deep.blk_alloc_new _ _, Array.size_replicate, fun i hi => by rw [Array.getElem?_replicate, if_pos hi]⟩
theorem cap_new {w2 : World} {b : Nat} {s : Int} (hr : w2.rowIs b 79 2048 (fun j => .int .i64 (tb s j))) (m : Nat) :
    Cap ((w2.alloc (.cells #[.pointer (some ⟨b, 0, none⟩)] 83)).alloc (.cells (madeCells #[.int .i64 0] m) 3)) w2.heap.size b s ∧ ((w2.alloc (.cells #[.pointer (some ⟨b, 0, none⟩)] 83)).alloc (.cells (madeCells #[.int .i64 0] m) 3)).rowIs (w2.heap.size + 1) 3 m (fun _ => .int .i64 0) ∧
    Below w2.heap.size w2 ((w2.alloc (.cells #[.pointer (some ⟨b, 0, none⟩)] 83)).alloc (.cells (madeCells #[.int .i64 0] m) 3)) := by
  have e : (w2.alloc (.cells #[.pointer (some ⟨b, 0, none⟩)] 83)).heap.size = w2.heap.size + 1 := by simp
  have b1 : Below w2.heap.size w2 (w2.alloc (.cells #[.pointer (some ⟨b, 0, none⟩)] 83)) := (Below.refl _ _).alloc (Nat.le_refl _) _
  have b2 := b1.alloc (by omega) (.cells (madeCells #[.int .i64 0] m) 3)
  have b3 : Below (w2.heap.size + 1) (w2.alloc (.cells #[.pointer (some ⟨b, 0, none⟩)] 83)) ((w2.alloc (.cells #[.pointer (some ⟨b, 0, none⟩)] 83)).alloc (.cells (madeCells #[.int .i64 0] m) 3)) := (Below.refl _ _).alloc (by omega) _
  have c : (w2.alloc (.cells #[.pointer (some ⟨b, 0, none⟩)] 83)).cell? ⟨w2.heap.size, 0, none⟩ = some (.pointer (some ⟨b, 0, none⟩)) := (World.rowIs_alloc w2 #[.pointer (some ⟨b, 0, none⟩)] 83 (fun _ => .pointer (some ⟨b, 0, none⟩)) (fun i hi => by
    have : i = 0 := by simpa using hi
    subst this; rfl)).cell (i := 0) (by simp)
  refine ⟨⟨(b3.cell (p := ⟨w2.heap.size, 0, none⟩) (Nat.lt_succ_self _)).trans c, hr.of_block (b2.block _ hr.lt), ?_⟩, ?_, b2⟩
  · have := b3.size; omega
  · have := World.rowIs_made (w2.alloc (.cells #[.pointer (some ⟨b, 0, none⟩)] 83)) (.int .i64 0) m 3
    rwa [e] at this
theorem heap_oth {w : World} {a b i : Nat} (v : Value) (h : a ≠ b) : (w.setCell ⟨a, i, none⟩ v).heap[b]? = w.heap[b]? := by
  simp only [World.setCell]
  show (w.heap.modify a _)[b]? = w.heap[b]?
  rw [Array.getElem?_modify, if_neg h]
theorem Cap.set {w : World} {bx bc g i : Nat} {s : Int} (h : Cap w bx bc s) (h1 : g ≠ bx) (h2 : g ≠ bc) (v : Value) : Cap (w.setCell ⟨g, i, none⟩ v) bx bc s :=
  ⟨(World.cell?_of_block (heap_oth _ h1)).trans h.1, h.2.1.of_block (heap_oth _ h2), by simpa [World.setCell] using h.2.2⟩
theorem box_ok (b : Nat) (w : World) : Calls Try.prog 52 #[.pointer (some ⟨b, 0, none⟩)] w fun e w' => e = .returned (.func (.func 68) #[] #[.pointer (some ⟨w.heap.size, 0, none⟩)]) ∧ w' = w.alloc (.cells #[.pointer (some ⟨b, 0, none⟩)] 83) := by
  go_enter Try.func52, Try.ntmps52
  go_wp2
  go_ret
  exact ⟨rfl, rfl⟩
set_option maxRecDepth 100000 in
set_option maxHeartbeats 8000000 in
theorem fwd256 (A : Option Addr) (cap : Nat) (zs : List Int) (w : World) (hl : zs.length = 512) (h : RdA w A zs) (hM : InM 8388608 zs) :
    Calls Try.prog 37 #[.slice A 512 cap] w fun e w' => ∃ g, e = .returned (.tuple #[.slice (some ⟨g, 0, none⟩) 256 256, .int .i64 0]) ∧ w.heap.size ≤ g ∧ w'.rowIs g 3 256 (fun j => .int .i64 (fw zs 256 1 j)) ∧ Below w.heap.size w w' := by
  obtain ⟨i0, hi, hz0, hz1, hz2⟩ := info_parts info3
  have HW := Lib.hid (hl ▸ within_yes A cap zs 8388608 w (by omega) h hM (by decide) (by decide))
  have HSc := Lib.hid (fun w => scale_ok 256 1 w (.inl ⟨rfl, rfl⟩))
  have HB0 := Lib.hid ((Below.refl w.heap.size w).alloc (Nat.le_refl _) (.cells (Array.replicate 2048 (.int .i64 0)) 79))
  have HF := Lib.hid (fill_ok w.heap.size w.heap.size 1 (w.alloc (.cells (Array.replicate 2048 (.int .i64 0)) 79)) (.inl rfl) (Nat.le_refl _) (new_row w))
  have hM2 : InM 268435455 zs := fun j hj => ⟨by have := (hM j hj).1; omega, by have := (hM j hj).2; omega⟩
  have hDS : ∀ c : Nat → Int, (∀ j, -67108864 ≤ c j ∧ c j ≤ 67108864) → ∀ k, k ≤ zs.length → -4611686018427387904 ≤ ds (fun n => zs.getD n 0) c k ∧ ds (fun n => zs.getD n 0) c k ≤ 4611686018427387904 := fun c hc k hk => ds_in (M := 8388608) (N := 512) hc (fun j hj => hM j (by omega)) (by omega) (by decide) (by decide)
  have HR := Lib.hid h
  have HSum : Hid (∀ (k : Nat) (bx bc : Nat) (w : World) (x y : Int), (k : Int) < 256 → RdA w A zs → Cap w bx bc 1 → x = 257 * ((2 * (k : Int) + 1) * 1) → y = 2 * ((2 * (k : Int) + 1) * 1) → Calls Try.prog 68 #[.slice A 512 cap, .int .i64 x, .int .i64 y, .pointer (some ⟨bx, 0, none⟩)] w fun e w' => e = .returned (.int .i64 (ds (fun n => zs.getD n 0) (cw 256 1 (k : Int)) 512)) ∧ w = w') := by
    refine Lib.hid ?_
    intro k bx bc w x y hk hr hcap hx hy
    have q := sums_ok A cap zs x y 1 (cw 256 1 (k : Int)) bx bc w (by omega) hr hcap (.inl rfl) (fun j hj => ?_) (fun j hj => ?_) (fun j => cos_bd _) hM2 (hDS _ (fun j => cos_bd _))
    · rwa [hl] at q
    · rw [show x + (j : Int) * y = ar 256 1 (j : Int) (k : Int) by subst hx; subst hy; unfold ar; grind]
      unfold ar
      constructor
      · refine Int.mul_nonneg (Int.mul_nonneg (by omega) (by omega)) (by decide)
      · have a1 : (2 * ((j : Int) : Int) + 1 + 256) * (2 * (k : Int) + 1) ≤ 10000 * 10000 := Int.mul_le_mul (by omega) (by omega) (by omega) (by decide)
        omega
    · rw [show x + (j : Int) * y = ar 256 1 (j : Int) (k : Int) by subst hx; subst hy; unfold ar; grind]
      exact ⟨odd_ar (.inl ⟨rfl, rfl⟩) _ _, rfl⟩
  have HD : Hid (∀ k : Nat, -4611686018427387904 ≤ ds (fun n => zs.getD n 0) (cw 256 1 (k : Int)) 512 ∧ ds (fun n => zs.getD n 0) (cw 256 1 (k : Int)) 512 ≤ 4611686018427387904) := Lib.hid fun k => hDS (cw 256 1 (k : Int)) (fun j => cos_bd _) 512 (by omega)
  have HV : Hid (∀ k : Nat, rnd (ds (fun n => zs.getD n 0) (cw 256 1 (k : Int)) 512) 33 = fw zs 256 1 k) := Lib.hid fun k => rfl
  clear h hM hM2 hDS hl
  go_enter Try.func37, Try.ntmps37
  go_wp2_with first
    | (go_at_call 49; ((with_reducible refine (HW.out).mono ?_); rintro e w1 ⟨rfl, rfl⟩))
    | (go_at_call 50; ((with_reducible refine (HSc.out _).mono ?_); rintro e w1 ⟨rfl, rfl⟩))
    | (refine wpList_new _ rfl rfl ?_)
    | (go_at_call 51; ((with_reducible refine (HF.out).mono ?_); rintro e w2 ⟨rfl, hrow, hbel⟩))
    | (go_at_call 52; ((with_reducible refine (box_ok _ _).mono ?_); rintro e w3 ⟨rfl, rfl⟩))
    | (refine wpList_make_row _ rfl _ _ 22 rfl 3 i0 (.int .i64 0) Try.underlying22 hi hz0 hz1 rfl .i64 .i64 256 rfl rfl (by rw [hz2]; omega) (by omega) ?_)
  obtain ⟨c0, c1, c2⟩ := cap_new hrow 256
  have hB2 : Below w.heap.size w ((w2.alloc (.cells #[.pointer (some ⟨w.heap.size, 0, none⟩)] 83)).alloc (.cells (madeCells #[.int .i64 0] 256) 3)) := (HB0.out.trans hbel).trans (c2.mono (Nat.le_of_lt hrow.lt))
  have hsz : w.heap.size ≤ w2.heap.size + 1 := Nat.le_succ_of_le (Nat.le_of_lt hrow.lt)
  have hne2 : w2.heap.size + 1 ≠ w2.heap.size := by omega
  have hne1 : w2.heap.size + 1 ≠ w.heap.size := by have := hrow.lt; omega
  generalize w2.heap.size + 1 = g at *
  generalize w2.heap.size = bx at *
  clear HB0 HW HSc HF
  go_loopw [34] (fun i wr => ∃ k : Nat, k ≤ 256 ∧ i = .int .i64 k ∧ Hid (wr.rowIs g 3 256 (upto (fw zs 256 1) (fun _ => 0) k)) ∧ Hid (Cap wr bx w.heap.size 1) ∧ Hid (Below w.heap.size w wr)) (fun i _ => 256 - (intOf i).toNat)
  case atStart => exact ⟨0, by omega, rfl, Lib.hid (c1.congr fun i _ => by unfold upto; simp), Lib.hid c0, Lib.hid hB2⟩
  case round =>
    obtain ⟨k, hk, rfl, hR, hC, hB⟩ := hrel
    clear c0 c1 c2 hB2 hrow hbel
    by_cases hlt : k < 256
    · have hlt2 : (k : Int) < 256 := by omega
      have HS := Lib.hid fun x y => HSum.out k bx w.heap.size wr x y hlt2 (HR.out.below hB.out) hC.out
      have HRd := Lib.hid (round_in _ 33 wr (HD.out k).1 (HD.out k).2 (by decide) (by decide))
      have hv := HV.out k
      have gc := upto_at hR.out hlt (Nat.le_refl _)
      have gf := hR.out.frozen k
      have gR := Lib.hid (upto_step (v := rnd (ds (fun n => zs.getD n 0) (cw 256 1 (k : Int)) 512) 33) hR.out hv)
      have gC := Lib.hid (hC.out.set (g := g) (i := k) hne2 hne1 (.int .i64 (rnd (ds (fun n => zs.getD n 0) (cw 256 1 (k : Int)) 512) 33)))
      have gB := Lib.hid (hB.out.setCell (p := ⟨g, k, none⟩) hsz (.int .i64 (rnd (ds (fun n => zs.getD n 0) (cw 256 1 (k : Int)) 512) 33)))
      clear hR hC hB hv HD HV HSum HR
      generalize rnd (ds (fun n => zs.getD n 0) (cw 256 1 (k : Int)) 512) 33 = V at *
      generalize ds (fun n => zs.getD n 0) (cw 256 1 (k : Int)) 512 = D at *
      go_wp2_with first
        | (go_at_call 68; ((with_reducible refine (HS.out _ _ (by omega) (by omega)).mono ?_); rintro e w5 ⟨rfl, rfl⟩))
        | (go_at_call 43; ((with_reducible refine (HRd.out).mono ?_); rintro e w6 ⟨rfl, rfl⟩))
      go_roundw
      case rel => exact ⟨k + 1, by omega, by go_num, gR, gC, gB⟩
      case measure => simp [intOf]; omega
    · have hend : k = 256 := by omega
      subst hend
      have hF := Lib.hid (upto_end hR.out)
      have hB' := Lib.hid hB.out
      have hsz' := Lib.hid hsz
      clear hR hC hB hsz
      go_wp2
      go_ret2
      exact ⟨g, rfl, hsz'.out, hF.out, hB'.out⟩
set_option maxRecDepth 100000 in
set_option maxHeartbeats 8000000 in
theorem fwd32 (A : Option Addr) (cap : Nat) (zs : List Int) (w : World) (hl : zs.length = 64) (h : RdA w A zs) (hM : InM 8388608 zs) :
    Calls Try.prog 37 #[.slice A 64 cap] w fun e w' => ∃ g, e = .returned (.tuple #[.slice (some ⟨g, 0, none⟩) 32 32, .int .i64 0]) ∧ w.heap.size ≤ g ∧ w'.rowIs g 3 32 (fun j => .int .i64 (fw zs 32 8 j)) ∧ Below w.heap.size w w' := by
  obtain ⟨i0, hi, hz0, hz1, hz2⟩ := info_parts info3
  have HW := Lib.hid (hl ▸ within_yes A cap zs 8388608 w (by omega) h hM (by decide) (by decide))
  have HSc := Lib.hid (fun w => scale_ok 32 8 w (.inr ⟨rfl, rfl⟩))
  have HB0 := Lib.hid ((Below.refl w.heap.size w).alloc (Nat.le_refl _) (.cells (Array.replicate 2048 (.int .i64 0)) 79))
  have HF := Lib.hid (fill_ok w.heap.size w.heap.size 8 (w.alloc (.cells (Array.replicate 2048 (.int .i64 0)) 79)) (.inr rfl) (Nat.le_refl _) (new_row w))
  have hM2 : InM 268435455 zs := fun j hj => ⟨by have := (hM j hj).1; omega, by have := (hM j hj).2; omega⟩
  have hDS : ∀ c : Nat → Int, (∀ j, -67108864 ≤ c j ∧ c j ≤ 67108864) → ∀ k, k ≤ zs.length → -4611686018427387904 ≤ ds (fun n => zs.getD n 0) c k ∧ ds (fun n => zs.getD n 0) c k ≤ 4611686018427387904 := fun c hc k hk => ds_in (M := 8388608) (N := 64) hc (fun j hj => hM j (by omega)) (by omega) (by decide) (by decide)
  have HR := Lib.hid h
  have HSum : Hid (∀ (k : Nat) (bx bc : Nat) (w : World) (x y : Int), (k : Int) < 32 → RdA w A zs → Cap w bx bc 8 → x = 33 * ((2 * (k : Int) + 1) * 8) → y = 2 * ((2 * (k : Int) + 1) * 8) → Calls Try.prog 68 #[.slice A 64 cap, .int .i64 x, .int .i64 y, .pointer (some ⟨bx, 0, none⟩)] w fun e w' => e = .returned (.int .i64 (ds (fun n => zs.getD n 0) (cw 32 8 (k : Int)) 64)) ∧ w = w') := by
    refine Lib.hid ?_
    intro k bx bc w x y hk hr hcap hx hy
    have q := sums_ok A cap zs x y 8 (cw 32 8 (k : Int)) bx bc w (by omega) hr hcap (.inr rfl) (fun j hj => ?_) (fun j hj => ?_) (fun j => cos_bd _) hM2 (hDS _ (fun j => cos_bd _))
    · rwa [hl] at q
    · rw [show x + (j : Int) * y = ar 32 8 (j : Int) (k : Int) by subst hx; subst hy; unfold ar; grind]
      unfold ar
      constructor
      · refine Int.mul_nonneg (Int.mul_nonneg (by omega) (by omega)) (by decide)
      · have a1 : (2 * ((j : Int) : Int) + 1 + 32) * (2 * (k : Int) + 1) ≤ 10000 * 10000 := Int.mul_le_mul (by omega) (by omega) (by omega) (by decide)
        omega
    · rw [show x + (j : Int) * y = ar 32 8 (j : Int) (k : Int) by subst hx; subst hy; unfold ar; grind]
      exact ⟨odd_ar (.inr ⟨rfl, rfl⟩) _ _, rfl⟩
  have HD : Hid (∀ k : Nat, -4611686018427387904 ≤ ds (fun n => zs.getD n 0) (cw 32 8 (k : Int)) 64 ∧ ds (fun n => zs.getD n 0) (cw 32 8 (k : Int)) 64 ≤ 4611686018427387904) := Lib.hid fun k => hDS (cw 32 8 (k : Int)) (fun j => cos_bd _) 64 (by omega)
  have HV : Hid (∀ k : Nat, rnd (ds (fun n => zs.getD n 0) (cw 32 8 (k : Int)) 64) 33 = fw zs 32 8 k) := Lib.hid fun k => rfl
  clear h hM hM2 hDS hl
  go_enter Try.func37, Try.ntmps37
  go_wp2_with first
    | (go_at_call 49; ((with_reducible refine (HW.out).mono ?_); rintro e w1 ⟨rfl, rfl⟩))
    | (go_at_call 50; ((with_reducible refine (HSc.out _).mono ?_); rintro e w1 ⟨rfl, rfl⟩))
    | (refine wpList_new _ rfl rfl ?_)
    | (go_at_call 51; ((with_reducible refine (HF.out).mono ?_); rintro e w2 ⟨rfl, hrow, hbel⟩))
    | (go_at_call 52; ((with_reducible refine (box_ok _ _).mono ?_); rintro e w3 ⟨rfl, rfl⟩))
    | (refine wpList_make_row _ rfl _ _ 22 rfl 3 i0 (.int .i64 0) Try.underlying22 hi hz0 hz1 rfl .i64 .i64 32 rfl rfl (by rw [hz2]; omega) (by omega) ?_)
  obtain ⟨c0, c1, c2⟩ := cap_new hrow 32
  have hB2 : Below w.heap.size w ((w2.alloc (.cells #[.pointer (some ⟨w.heap.size, 0, none⟩)] 83)).alloc (.cells (madeCells #[.int .i64 0] 32) 3)) := (HB0.out.trans hbel).trans (c2.mono (Nat.le_of_lt hrow.lt))
  have hsz : w.heap.size ≤ w2.heap.size + 1 := Nat.le_succ_of_le (Nat.le_of_lt hrow.lt)
  have hne2 : w2.heap.size + 1 ≠ w2.heap.size := by omega
  have hne1 : w2.heap.size + 1 ≠ w.heap.size := by have := hrow.lt; omega
  generalize w2.heap.size + 1 = g at *
  generalize w2.heap.size = bx at *
  clear HB0 HW HSc HF
  go_loopw [34] (fun i wr => ∃ k : Nat, k ≤ 32 ∧ i = .int .i64 k ∧ Hid (wr.rowIs g 3 32 (upto (fw zs 32 8) (fun _ => 0) k)) ∧ Hid (Cap wr bx w.heap.size 8) ∧ Hid (Below w.heap.size w wr)) (fun i _ => 32 - (intOf i).toNat)
  case atStart => exact ⟨0, by omega, rfl, Lib.hid (c1.congr fun i _ => by unfold upto; simp), Lib.hid c0, Lib.hid hB2⟩
  case round =>
    obtain ⟨k, hk, rfl, hR, hC, hB⟩ := hrel
    clear c0 c1 c2 hB2 hrow hbel
    by_cases hlt : k < 32
    · have hlt2 : (k : Int) < 32 := by omega
      have HS := Lib.hid fun x y => HSum.out k bx w.heap.size wr x y hlt2 (HR.out.below hB.out) hC.out
      have HRd := Lib.hid (round_in _ 33 wr (HD.out k).1 (HD.out k).2 (by decide) (by decide))
      have hv := HV.out k
      have gc := upto_at hR.out hlt (Nat.le_refl _)
      have gf := hR.out.frozen k
      have gR := Lib.hid (upto_step (v := rnd (ds (fun n => zs.getD n 0) (cw 32 8 (k : Int)) 64) 33) hR.out hv)
      have gC := Lib.hid (hC.out.set (g := g) (i := k) hne2 hne1 (.int .i64 (rnd (ds (fun n => zs.getD n 0) (cw 32 8 (k : Int)) 64) 33)))
      have gB := Lib.hid (hB.out.setCell (p := ⟨g, k, none⟩) hsz (.int .i64 (rnd (ds (fun n => zs.getD n 0) (cw 32 8 (k : Int)) 64) 33)))
      clear hR hC hB hv HD HV HSum HR
      generalize rnd (ds (fun n => zs.getD n 0) (cw 32 8 (k : Int)) 64) 33 = V at *
      generalize ds (fun n => zs.getD n 0) (cw 32 8 (k : Int)) 64 = D at *
      go_wp2_with first
        | (go_at_call 68; ((with_reducible refine (HS.out _ _ (by omega) (by omega)).mono ?_); rintro e w5 ⟨rfl, rfl⟩))
        | (go_at_call 43; ((with_reducible refine (HRd.out).mono ?_); rintro e w6 ⟨rfl, rfl⟩))
      go_roundw
      case rel => exact ⟨k + 1, by omega, by go_num, gR, gC, gB⟩
      case measure => simp [intOf]; omega
    · have hend : k = 32 := by omega
      subst hend
      have hF := Lib.hid (upto_end hR.out)
      have hB' := Lib.hid hB.out
      have hsz' := Lib.hid hsz
      clear hR hC hB hsz
      go_wp2
      go_ret2
      exact ⟨g, rfl, hsz'.out, hF.out, hB'.out⟩
set_option maxRecDepth 100000 in
set_option maxHeartbeats 8000000 in
theorem inv256 (A : Option Addr) (cap : Nat) (zs : List Int) (w : World) (hl : zs.length = 256) (h : RdA w A zs) (hM : InM 268435455 zs) :
    Calls Try.prog 35 #[.slice A 256 cap] w fun e w' => ∃ g, e = .returned (.tuple #[.slice (some ⟨g, 0, none⟩) 512 512, .int .i64 0]) ∧ w.heap.size ≤ g ∧ w'.rowIs g 3 512 (fun j => .int .i64 (bk zs 256 1 26 j)) ∧ Below w.heap.size w w' := by
  obtain ⟨i0, hi, hz0, hz1, hz2⟩ := info_parts info3
  have HW := Lib.hid (hl ▸ within_yes A cap zs 268435455 w (by omega) h hM (by decide) (by decide))
  have HSc := Lib.hid (fun w => scale_ok 256 1 w (.inl ⟨rfl, rfl⟩))
  have HB0 := Lib.hid ((Below.refl w.heap.size w).alloc (Nat.le_refl _) (.cells (Array.replicate 2048 (.int .i64 0)) 79))
  have HF := Lib.hid (fill_ok w.heap.size w.heap.size 1 (w.alloc (.cells (Array.replicate 2048 (.int .i64 0)) 79)) (.inl rfl) (Nat.le_refl _) (new_row w))
  have hM2 : InM 268435455 zs := fun j hj => ⟨by have := (hM j hj).1; omega, by have := (hM j hj).2; omega⟩
  have hDS : ∀ c : Nat → Int, (∀ j, -67108864 ≤ c j ∧ c j ≤ 67108864) → ∀ k, k ≤ zs.length → -4611686018427387904 ≤ ds (fun n => zs.getD n 0) c k ∧ ds (fun n => zs.getD n 0) c k ≤ 4611686018427387904 := fun c hc k hk => ds_in (M := 268435455) (N := 256) hc (fun j hj => hM j (by omega)) (by omega) (by decide) (by decide)
  have HR := Lib.hid h
  have HSum : Hid (∀ (k : Nat) (bx bc : Nat) (w : World) (x y : Int), (k : Int) < 512 → RdA w A zs → Cap w bx bc 1 → x = (2 * (k : Int) + 1 + 256) * 1 → y = 2 * ((2 * (k : Int) + 1 + 256) * 1) → Calls Try.prog 68 #[.slice A 256 cap, .int .i64 x, .int .i64 y, .pointer (some ⟨bx, 0, none⟩)] w fun e w' => e = .returned (.int .i64 (ds (fun n => zs.getD n 0) (cv 256 1 (k : Int)) 256)) ∧ w = w') := by
    refine Lib.hid ?_
    intro k bx bc w x y hk hr hcap hx hy
    have q := sums_ok A cap zs x y 1 (cv 256 1 (k : Int)) bx bc w (by omega) hr hcap (.inl rfl) (fun j hj => ?_) (fun j hj => ?_) (fun j => cos_bd _) hM2 (hDS _ (fun j => cos_bd _))
    · rwa [hl] at q
    · rw [show x + (j : Int) * y = ar 256 1 (k : Int) (j : Int) by subst hx; subst hy; unfold ar; grind]
      unfold ar
      constructor
      · refine Int.mul_nonneg (Int.mul_nonneg (by omega) (by omega)) (by decide)
      · have a1 : (2 * ((k : Int) : Int) + 1 + 256) * (2 * (j : Int) + 1) ≤ 10000 * 10000 := Int.mul_le_mul (by omega) (by omega) (by omega) (by decide)
        omega
    · rw [show x + (j : Int) * y = ar 256 1 (k : Int) (j : Int) by subst hx; subst hy; unfold ar; grind]
      exact ⟨odd_ar (.inl ⟨rfl, rfl⟩) _ _, rfl⟩
  have HD : Hid (∀ k : Nat, -4611686018427387904 ≤ ds (fun n => zs.getD n 0) (cv 256 1 (k : Int)) 256 ∧ ds (fun n => zs.getD n 0) (cv 256 1 (k : Int)) 256 ≤ 4611686018427387904) := Lib.hid fun k => hDS (cv 256 1 (k : Int)) (fun j => cos_bd _) 256 (by omega)
  have HV : Hid (∀ k : Nat, rnd (ds (fun n => zs.getD n 0) (cv 256 1 (k : Int)) 256) 26 = bk zs 256 1 26 k) := Lib.hid fun k => rfl
  clear h hM hM2 hDS hl
  go_enter Try.func35, Try.ntmps35
  go_wp2_with first
    | (go_at_call 49; ((with_reducible refine (HW.out).mono ?_); rintro e w1 ⟨rfl, rfl⟩))
    | (go_at_call 50; ((with_reducible refine (HSc.out _).mono ?_); rintro e w1 ⟨rfl, rfl⟩))
    | (refine wpList_new _ rfl rfl ?_)
    | (go_at_call 51; ((with_reducible refine (HF.out).mono ?_); rintro e w2 ⟨rfl, hrow, hbel⟩))
    | (go_at_call 52; ((with_reducible refine (box_ok _ _).mono ?_); rintro e w3 ⟨rfl, rfl⟩))
    | (refine wpList_make_row _ rfl _ _ 22 rfl 3 i0 (.int .i64 0) Try.underlying22 hi hz0 hz1 rfl .i64 .i64 512 rfl rfl (by rw [hz2]; omega) (by omega) ?_)
  obtain ⟨c0, c1, c2⟩ := cap_new hrow 512
  have hB2 : Below w.heap.size w ((w2.alloc (.cells #[.pointer (some ⟨w.heap.size, 0, none⟩)] 83)).alloc (.cells (madeCells #[.int .i64 0] 512) 3)) := (HB0.out.trans hbel).trans (c2.mono (Nat.le_of_lt hrow.lt))
  have hsz : w.heap.size ≤ w2.heap.size + 1 := Nat.le_succ_of_le (Nat.le_of_lt hrow.lt)
  have hne2 : w2.heap.size + 1 ≠ w2.heap.size := by omega
  have hne1 : w2.heap.size + 1 ≠ w.heap.size := by have := hrow.lt; omega
  generalize w2.heap.size + 1 = g at *
  generalize w2.heap.size = bx at *
  clear HB0 HW HSc HF
  go_loopw [39] (fun i wr => ∃ k : Nat, k ≤ 512 ∧ i = .int .i64 k ∧ Hid (wr.rowIs g 3 512 (upto (bk zs 256 1 26) (fun _ => 0) k)) ∧ Hid (Cap wr bx w.heap.size 1) ∧ Hid (Below w.heap.size w wr)) (fun i _ => 512 - (intOf i).toNat)
  case atStart => exact ⟨0, by omega, rfl, Lib.hid (c1.congr fun i _ => by unfold upto; simp), Lib.hid c0, Lib.hid hB2⟩
  case round =>
    obtain ⟨k, hk, rfl, hR, hC, hB⟩ := hrel
    clear c0 c1 c2 hB2 hrow hbel
    by_cases hlt : k < 512
    · have hlt2 : (k : Int) < 512 := by omega
      have HS := Lib.hid fun x y => HSum.out k bx w.heap.size wr x y hlt2 (HR.out.below hB.out) hC.out
      have HRd := Lib.hid (round_in _ 26 wr (HD.out k).1 (HD.out k).2 (by decide) (by decide))
      have hv := HV.out k
      have gc := upto_at hR.out hlt (Nat.le_refl _)
      have gf := hR.out.frozen k
      have gR := Lib.hid (upto_step (v := rnd (ds (fun n => zs.getD n 0) (cv 256 1 (k : Int)) 256) 26) hR.out hv)
      have gC := Lib.hid (hC.out.set (g := g) (i := k) hne2 hne1 (.int .i64 (rnd (ds (fun n => zs.getD n 0) (cv 256 1 (k : Int)) 256) 26)))
      have gB := Lib.hid (hB.out.setCell (p := ⟨g, k, none⟩) hsz (.int .i64 (rnd (ds (fun n => zs.getD n 0) (cv 256 1 (k : Int)) 256) 26)))
      clear hR hC hB hv HD HV HSum HR
      generalize rnd (ds (fun n => zs.getD n 0) (cv 256 1 (k : Int)) 256) 26 = V at *
      generalize ds (fun n => zs.getD n 0) (cv 256 1 (k : Int)) 256 = D at *
      go_wp2_with first
        | (go_at_call 68; ((with_reducible refine (HS.out _ _ (by omega) (by omega)).mono ?_); rintro e w5 ⟨rfl, rfl⟩))
        | (go_at_call 43; ((with_reducible refine (HRd.out).mono ?_); rintro e w6 ⟨rfl, rfl⟩))
      go_roundw
      case rel => exact ⟨k + 1, by omega, by go_num, gR, gC, gB⟩
      case measure => simp [intOf]; omega
    · have hend : k = 512 := by omega
      subst hend
      have hF := Lib.hid (upto_end hR.out)
      have hB' := Lib.hid hB.out
      have hsz' := Lib.hid hsz
      clear hR hC hB hsz
      go_wp2
      go_ret2
      exact ⟨g, rfl, hsz'.out, hF.out, hB'.out⟩
set_option maxRecDepth 100000 in
set_option maxHeartbeats 8000000 in
theorem inv32 (A : Option Addr) (cap : Nat) (zs : List Int) (w : World) (hl : zs.length = 32) (h : RdA w A zs) (hM : InM 268435455 zs) :
    Calls Try.prog 35 #[.slice A 32 cap] w fun e w' => ∃ g, e = .returned (.tuple #[.slice (some ⟨g, 0, none⟩) 64 64, .int .i64 0]) ∧ w.heap.size ≤ g ∧ w'.rowIs g 3 64 (fun j => .int .i64 (bk zs 32 8 23 j)) ∧ Below w.heap.size w w' := by
  obtain ⟨i0, hi, hz0, hz1, hz2⟩ := info_parts info3
  have HW := Lib.hid (hl ▸ within_yes A cap zs 268435455 w (by omega) h hM (by decide) (by decide))
  have HSc := Lib.hid (fun w => scale_ok 32 8 w (.inr ⟨rfl, rfl⟩))
  have HB0 := Lib.hid ((Below.refl w.heap.size w).alloc (Nat.le_refl _) (.cells (Array.replicate 2048 (.int .i64 0)) 79))
  have HF := Lib.hid (fill_ok w.heap.size w.heap.size 8 (w.alloc (.cells (Array.replicate 2048 (.int .i64 0)) 79)) (.inr rfl) (Nat.le_refl _) (new_row w))
  have hM2 : InM 268435455 zs := fun j hj => ⟨by have := (hM j hj).1; omega, by have := (hM j hj).2; omega⟩
  have hDS : ∀ c : Nat → Int, (∀ j, -67108864 ≤ c j ∧ c j ≤ 67108864) → ∀ k, k ≤ zs.length → -4611686018427387904 ≤ ds (fun n => zs.getD n 0) c k ∧ ds (fun n => zs.getD n 0) c k ≤ 4611686018427387904 := fun c hc k hk => ds_in (M := 268435455) (N := 32) hc (fun j hj => hM j (by omega)) (by omega) (by decide) (by decide)
  have HR := Lib.hid h
  have HSum : Hid (∀ (k : Nat) (bx bc : Nat) (w : World) (x y : Int), (k : Int) < 64 → RdA w A zs → Cap w bx bc 8 → x = (2 * (k : Int) + 1 + 32) * 8 → y = 2 * ((2 * (k : Int) + 1 + 32) * 8) → Calls Try.prog 68 #[.slice A 32 cap, .int .i64 x, .int .i64 y, .pointer (some ⟨bx, 0, none⟩)] w fun e w' => e = .returned (.int .i64 (ds (fun n => zs.getD n 0) (cv 32 8 (k : Int)) 32)) ∧ w = w') := by
    refine Lib.hid ?_
    intro k bx bc w x y hk hr hcap hx hy
    have q := sums_ok A cap zs x y 8 (cv 32 8 (k : Int)) bx bc w (by omega) hr hcap (.inr rfl) (fun j hj => ?_) (fun j hj => ?_) (fun j => cos_bd _) hM2 (hDS _ (fun j => cos_bd _))
    · rwa [hl] at q
    · rw [show x + (j : Int) * y = ar 32 8 (k : Int) (j : Int) by subst hx; subst hy; unfold ar; grind]
      unfold ar
      constructor
      · refine Int.mul_nonneg (Int.mul_nonneg (by omega) (by omega)) (by decide)
      · have a1 : (2 * ((k : Int) : Int) + 1 + 32) * (2 * (j : Int) + 1) ≤ 10000 * 10000 := Int.mul_le_mul (by omega) (by omega) (by omega) (by decide)
        omega
    · rw [show x + (j : Int) * y = ar 32 8 (k : Int) (j : Int) by subst hx; subst hy; unfold ar; grind]
      exact ⟨odd_ar (.inr ⟨rfl, rfl⟩) _ _, rfl⟩
  have HD : Hid (∀ k : Nat, -4611686018427387904 ≤ ds (fun n => zs.getD n 0) (cv 32 8 (k : Int)) 32 ∧ ds (fun n => zs.getD n 0) (cv 32 8 (k : Int)) 32 ≤ 4611686018427387904) := Lib.hid fun k => hDS (cv 32 8 (k : Int)) (fun j => cos_bd _) 32 (by omega)
  have HV : Hid (∀ k : Nat, rnd (ds (fun n => zs.getD n 0) (cv 32 8 (k : Int)) 32) 23 = bk zs 32 8 23 k) := Lib.hid fun k => rfl
  clear h hM hM2 hDS hl
  go_enter Try.func35, Try.ntmps35
  go_wp2_with first
    | (go_at_call 49; ((with_reducible refine (HW.out).mono ?_); rintro e w1 ⟨rfl, rfl⟩))
    | (go_at_call 50; ((with_reducible refine (HSc.out _).mono ?_); rintro e w1 ⟨rfl, rfl⟩))
    | (refine wpList_new _ rfl rfl ?_)
    | (go_at_call 51; ((with_reducible refine (HF.out).mono ?_); rintro e w2 ⟨rfl, hrow, hbel⟩))
    | (go_at_call 52; ((with_reducible refine (box_ok _ _).mono ?_); rintro e w3 ⟨rfl, rfl⟩))
    | (refine wpList_make_row _ rfl _ _ 22 rfl 3 i0 (.int .i64 0) Try.underlying22 hi hz0 hz1 rfl .i64 .i64 64 rfl rfl (by rw [hz2]; omega) (by omega) ?_)
  obtain ⟨c0, c1, c2⟩ := cap_new hrow 64
  have hB2 : Below w.heap.size w ((w2.alloc (.cells #[.pointer (some ⟨w.heap.size, 0, none⟩)] 83)).alloc (.cells (madeCells #[.int .i64 0] 64) 3)) := (HB0.out.trans hbel).trans (c2.mono (Nat.le_of_lt hrow.lt))
  have hsz : w.heap.size ≤ w2.heap.size + 1 := Nat.le_succ_of_le (Nat.le_of_lt hrow.lt)
  have hne2 : w2.heap.size + 1 ≠ w2.heap.size := by omega
  have hne1 : w2.heap.size + 1 ≠ w.heap.size := by have := hrow.lt; omega
  generalize w2.heap.size + 1 = g at *
  generalize w2.heap.size = bx at *
  clear HB0 HW HSc HF
  go_loopw [39] (fun i wr => ∃ k : Nat, k ≤ 64 ∧ i = .int .i64 k ∧ Hid (wr.rowIs g 3 64 (upto (bk zs 32 8 23) (fun _ => 0) k)) ∧ Hid (Cap wr bx w.heap.size 8) ∧ Hid (Below w.heap.size w wr)) (fun i _ => 64 - (intOf i).toNat)
  case atStart => exact ⟨0, by omega, rfl, Lib.hid (c1.congr fun i _ => by unfold upto; simp), Lib.hid c0, Lib.hid hB2⟩
  case round =>
    obtain ⟨k, hk, rfl, hR, hC, hB⟩ := hrel
    clear c0 c1 c2 hB2 hrow hbel
    by_cases hlt : k < 64
    · have hlt2 : (k : Int) < 64 := by omega
      have HS := Lib.hid fun x y => HSum.out k bx w.heap.size wr x y hlt2 (HR.out.below hB.out) hC.out
      have HRd := Lib.hid (round_in _ 23 wr (HD.out k).1 (HD.out k).2 (by decide) (by decide))
      have hv := HV.out k
      have gc := upto_at hR.out hlt (Nat.le_refl _)
      have gf := hR.out.frozen k
      have gR := Lib.hid (upto_step (v := rnd (ds (fun n => zs.getD n 0) (cv 32 8 (k : Int)) 32) 23) hR.out hv)
      have gC := Lib.hid (hC.out.set (g := g) (i := k) hne2 hne1 (.int .i64 (rnd (ds (fun n => zs.getD n 0) (cv 32 8 (k : Int)) 32) 23)))
      have gB := Lib.hid (hB.out.setCell (p := ⟨g, k, none⟩) hsz (.int .i64 (rnd (ds (fun n => zs.getD n 0) (cv 32 8 (k : Int)) 32) 23)))
      clear hR hC hB hv HD HV HSum HR
      generalize rnd (ds (fun n => zs.getD n 0) (cv 32 8 (k : Int)) 32) 23 = V at *
      generalize ds (fun n => zs.getD n 0) (cv 32 8 (k : Int)) 32 = D at *
      go_wp2_with first
        | (go_at_call 68; ((with_reducible refine (HS.out _ _ (by omega) (by omega)).mono ?_); rintro e w5 ⟨rfl, rfl⟩))
        | (go_at_call 43; ((with_reducible refine (HRd.out).mono ?_); rintro e w6 ⟨rfl, rfl⟩))
      go_roundw
      case rel => exact ⟨k + 1, by omega, by go_num, gR, gC, gB⟩
      case measure => simp [intOf]; omega
    · have hend : k = 64 := by omega
      subst hend
      have hF := Lib.hid (upto_end hR.out)
      have hB' := Lib.hid hB.out
      have hsz' := Lib.hid hsz
      clear hR hC hB hsz
      go_wp2
      go_ret2
      exact ⟨g, rfl, hsz'.out, hF.out, hB'.out⟩
end Go.Proofs.Yteknakakefhbmaa.Md
