/- Samples that begin loud: the program's way, and the document's. -/
import Derived.Test.YtlljfpekbimcmaaPkMath
import Derived.Test.YtlljfpekbimcmaaProg
import Derived.WalkKit
import Derived.Below
import Derived.RegionTactic
import Derived.Deep.QuietTactic
import Derived.BigQuiet
import Derived.ChangeAlike
import Derived.Deep.OwnRows
import Derived.ProofKit
import Derived.OpenShut
import Derived.Great.Walk
import Derived.ChangeKeysEq
import Derived.Lib.Hide
namespace Go.Proofs.Ytlljfpekbimcmaa.Pk
open Go Go.ChangeShapes Go.WideShapes Go.ChangeAt Go.RowKit

theorem add_at (b o i : Nat) : (⟨b, o, none⟩ : Addr).add i = ⟨b, o + i, none⟩ := by simp [Addr.add]
/-- A list's cells, at an address. -/
def RdA (w : World) (A : Option Addr) (zs : List Int) : Prop := ∀ i, i < zs.length → ∃ b off, A = some ⟨b, off, none⟩ ∧ b < w.heap.size ∧ w.cell? ⟨b, off + i, none⟩ = some (.int .i64 (zs.getD i 0))
theorem RdA.below {w w' : World} {A : Option Addr} {zs : List Int} (h : RdA w A zs) (hb : Below w.heap.size w w') : RdA w' A zs := fun i hi => by
  obtain ⟨b, off, e, h1, h2⟩ := h i hi
  exact ⟨b, off, e, Nat.lt_of_lt_of_le h1 hb.size, (hb.cell (p := ⟨b, off + i, none⟩) h1).trans h2⟩
theorem info33 : (Try.prog.info? 33).map (fun i => i.zero.map Value.cells) = some (some (Array.replicate 8 (.int .i64 0))) := by kernel_rfl
theorem run_new {p : Program} {t : TypeId} {cs : Array Value} (h : (p.info? t).map (fun i => i.zero.map Value.cells) = some (some cs)) (w : World) : (Instr.alloc t true (.tuple #[])).run p w = .ok (.pointer (some ⟨w.heap.size, 0, none⟩)) (w.alloc (.cells cs t)) := by
  cases hi : p.info? t with
  | none => rw [hi] at h; simp at h
  | some i0 =>
    rw [hi] at h
    simp only [Option.map_some, Option.some.injEq] at h
    cases hz : i0.zero with
    | none => rw [hz] at h; simp at h
    | some z =>
      rw [hz] at h
      simp only [Option.map_some, Option.some.injEq] at h
      have h1 := run_typeInfo (w := w) hi
      unfold Instr.alloc zeroValue newVar newRow
      simp [h1, hz, h, Sem.run_bind]
theorem wpList_new (w : World) {ops : Array Oper} {rest : List Oper} {o : Oper} {a : Act} {Q : Exit → Act → World → Prop} (hg : o.guard = none) (hop : o.op = Op.alloc 33)
    (hK : wpList Try.prog ops Q rest (a.put o.dst (.pointer (some ⟨w.heap.size, 0, none⟩))) (w.alloc (.cells (Array.replicate 8 (.int .i64 0)) 33))) : wpList Try.prog ops Q (o :: rest) a w := by
  refine wpList_plain hg fun K hK' => ?_
  have hrun := run_new info33 w
  unfold Oper.wp
  simp [execOp, hop, hrun, Result.andThen]
  exact hK' _ _ hK
theorem new_row (w : World) : (w.alloc (.cells (Array.replicate 8 (.int .i64 0)) 33)).rowIs w.heap.size 33 8 (fun _ => .int .i64 0) :=
  ⟨_, Go.Deep.blk_alloc_new _ _, Array.size_replicate, fun i hi => by rw [Array.getElem?_replicate, if_pos hi]⟩
theorem ea_set {w : World} {g k : Nat} {zs : List Int} {v : Int} (r : w.rowIs g 33 8 (fun j => .int .i64 (ea zs k j))) (e : v = ea zs k (k / 32) + sq (zs.getD k 0)) : (w.setCell ⟨g, k / 32, none⟩ (.int .i64 v)).rowIs g 33 8 (fun j => .int .i64 (ea zs (k + 1) j)) :=
  (r.set (k / 32) (.int .i64 v)).congr fun i _ => by
    rw [ea_succ]
    by_cases h : i = k / 32
    · subst h; rw [if_pos rfl, if_pos rfl, e]
    · rw [if_neg h, if_neg (fun e => h e.symm)]
theorem drewN_belowL (w : World) : ∀ n, Below w.heap.size w (w.drewN n)
  | 0 => Below.refl _ _
  | n + 1 => (drewN_belowL w n).drew
theorem w64 {x : Int} (h0 : -9223372036854775808 ≤ x) (h1 : x ≤ 9223372036854775807) : IntKind.i64.wrap x = x := by rw [IntKind.wrap_i64]; omega

set_option maxRecDepth 100000 in
set_option maxHeartbeats 4000000 in
theorem attack_len (A : Option Addr) (len cap : Nat) (w : World) (h : len ≠ 256) : Calls Try.prog 4 #[.slice A len cap] w fun e w' => e = .returned (.tuple #[.bool false, .int .i64 4]) ∧ Below w.heap.size w w' := by
  have h1 : ¬ (len : Int) = 256 := by omega
  have h2 : ((len : Int) == 256) = false := by simp; omega
  have hb := Lib.hid (Below.refl w.heap.size w)
  clear h
  go_enter Try.func4, Try.ntmps4
  go_wp2
  go_ret2
  exact ⟨rfl, hb.out⟩

set_option maxRecDepth 100000 in
set_option maxHeartbeats 8000000 in
theorem attack_ok (A : Option Addr) (cap : Nat) (zs : List Int) (w : World) (hl : zs.length = 256) (h : RdA w A zs) :
    Calls Try.prog 4 #[.slice A 256 cap] w fun e w' => e = .returned (.tuple #[.bool (atB zs), .int .i64 (atE zs)]) ∧ Below w.heap.size w w' := by
  have HB0 := Lib.hid ((Below.refl w.heap.size w).alloc (Nat.le_refl _) (.cells (Array.replicate 8 (.int .i64 0)) 33))
  have HR0 := Lib.hid (new_row w)
  have HR := Lib.hid h
  have HL := Lib.hid hl
  clear h hl
  go_enter Try.func4, Try.ntmps4
  go_wp2_with first
    | (refine wpList_new _ rfl rfl ?_)
  go_loopw [14] (fun i wr => ∃ k : Nat, k ≤ 256 ∧ i = .int .i64 k ∧ Hid (wr.rowIs w.heap.size 33 8 (fun j => .int .i64 (ea zs k j))) ∧ Hid (∀ i, i < k → inr (zs.getD i 0)) ∧ Hid (Below w.heap.size w wr)) (fun i _ => 256 - (intOf i).toNat)
  case atStart => exact ⟨0, by omega, rfl, Lib.hid (HR0.out.congr fun i _ => rfl), Lib.hid (fun i hi => absurd hi (by omega)), HB0⟩
  case round =>
    obtain ⟨k, hk, rfl, hR, hI, hB⟩ := hrel
    clear HR0 HB0
    by_cases hlt : k < 256
    · obtain ⟨b, off, rfl, hb, q1'⟩ := HR.out k (by rw [HL.out]; exact hlt)
      have q1 := (hB.out.cell (p := ⟨b, off + k, none⟩) hb).trans q1'
      clear q1'
      by_cases hz1 : zs.getD k 0 < -32768
      · have he := Lib.hid (at_out HL.out (fun hall => by have := (hall k hlt).1; omega))
        clear hR hI
        generalize zs.getD k 0 = z at *
        go_wp2
        go_ret2
        exact ⟨by rw [he.out.1, he.out.2]; rfl, hB.out⟩
      by_cases hz2 : 32767 < zs.getD k 0
      · have he := Lib.hid (at_out HL.out (fun hall => by have := (hall k hlt).2; omega))
        clear hR hI
        generalize zs.getD k 0 = z at *
        go_wp2
        go_ret2
        exact ⟨by rw [he.out.1, he.out.2]; rfl, hB.out⟩
      · have hin : inr (zs.getD k 0) := ⟨by omega, by omega⟩
        have hI2 : Hid (∀ i, i < k + 1 → inr (zs.getD i 0)) := Lib.hid fun i hi => by
          by_cases e : i = k
          · subst e; exact hin
          · exact hI.out i (by omega)
        obtain ⟨s0, s1⟩ := sq_bd hin
        obtain ⟨e0, e1⟩ := ea_bd k (k / 32) hI.out
        have hm8 : k / 32 < 8 := by omega
        have c1 := hR.out.cell (i := k / 32) hm8
        have gf := hR.out.frozen (k / 32)
        have gR := Lib.hid (ea_set (v := ea zs k (k / 32) + sq (zs.getD k 0)) hR.out rfl)
        have gB := Lib.hid (hB.out.setCell (p := ⟨w.heap.size, k / 32, none⟩) (Nat.le_refl _) (.int .i64 (ea zs k (k / 32) + sq (zs.getD k 0))))
        have k8 : IntKind.i64.wrap ((k : Int) * 8) = (k : Int) * 8 := w64 (by omega) (by omega)
        have hq : ((k : Int) * 8).tdiv 256 = ((k / 32 : Nat) : Int) := by
          rw [Int.tdiv_eq_ediv_of_nonneg (by omega)]; omega
        have hq2 : IntKind.i64.wrap ((k / 32 : Nat) : Int) = ((k / 32 : Nat) : Int) := w64 (by omega) (by omega)
        have hs : zs.getD k 0 * zs.getD k 0 = sq (zs.getD k 0) := rfl
        have hs2 : IntKind.i64.wrap (sq (zs.getD k 0)) = sq (zs.getD k 0) := w64 (by omega) (by omega)
        have hs3 : IntKind.i64.wrap (ea zs k (k / 32) + sq (zs.getD k 0)) = ea zs k (k / 32) + sq (zs.getD k 0) := w64 (by omega) (by omega)
        have hm8' : ((k / 32 : Nat) : Int) < 8 := by omega
        have hm0 : (0 : Int) ≤ ((k / 32 : Nat) : Int) := by omega
        clear hR hI hin
        generalize sq (zs.getD k 0) = s at *
        generalize ea zs k (k / 32) = x at *
        generalize zs.getD k 0 = z at *
        generalize k / 32 = m at *
        go_wp2
        go_roundw
        case rel => exact ⟨k + 1, by omega, by go_num, gR, hI2, gB⟩
        case measure => simp [intOf]; omega
    · have hend : k = 256 := by omega
      subst hend
      have hall : allIn zs := hI.out
      have hEn := Lib.hid (En_bd hall)
      have hSm := Lib.hid (Sm_bd hall)
      have he := Lib.hid (at_in HL.out hall)
      have hRE : Hid (wr.rowIs w.heap.size 33 8 (fun j => .int .i64 (En zs j))) := Lib.hid hR.out
      have r0 := hRE.out.cell (i := 0) (by omega)
      have hS1 := Lib.hid (show En zs 0 = Sm zs 1 by simp [Sm])
      have hB2 := Lib.hid hB.out
      clear hR hI hall hB HR
      rw [hS1.out] at r0
      generalize hs1 : Sm zs 1 = S1 at *
      go_wp2
      go_loopw [7, 8] (fun a i wt => wt = wr ∧ ∃ (n : Nat) (x : Int), 1 ≤ n ∧ n ≤ 8 ∧ i = .int .i64 n ∧ a = .int .i64 x ∧ Hid (x = Sm zs n) ∧ Hid (ld zs n = false)) (fun _ i _ => 8 - (intOf i).toNat)
      case atStart => exact ⟨rfl, 1, S1, by omega, by omega, rfl, rfl, Lib.hid hs1.symm, Lib.hid (ld_one zs)⟩
      case round =>
        obtain ⟨rfl, n, x, hn1, hn8, rfl, rfl, hx, hld⟩ := hrel
        by_cases hlt : n < 8
        · obtain ⟨e0, e1⟩ := hEn.out n
          obtain ⟨s0, s1⟩ := hSm.out n
          rw [← hx.out] at s0 s1
          have c1 := hRE.out.cell (i := n) (by omega)
          have hp : 0 ≤ (n : Int) * En zs n ∧ (n : Int) * En zs n ≤ 8 * 274877906944 := ⟨Int.mul_nonneg (by omega) e0, Int.mul_le_mul (by omega) e1 e0 (by decide)⟩
          obtain ⟨p0, p1⟩ := hp
          have w1 : IntKind.i64.wrap ((n : Int) * En zs n) = (n : Int) * En zs n := w64 (by omega) (by omega)
          have w2 : IntKind.i64.wrap (8 * x) = 8 * x := w64 (by omega) (by omega)
          have w3 : IntKind.i64.wrap ((n : Int) * 1048576) = (n : Int) * 1048576 := w64 (by omega) (by omega)
          have w4 : IntKind.i64.wrap (8 * x + (n : Int) * 1048576) = 8 * x + (n : Int) * 1048576 := w64 (by omega) (by omega)
          have w5 : IntKind.i64.wrap (x + En zs n) = x + En zs n := w64 (by omega) (by omega)
          have hlt' : (n : Int) < 8 := by omega
          by_cases hc : 8 * x + (n : Int) * 1048576 < (n : Int) * En zs n
          · have hy := Lib.hid (ld_hit (zs := zs) (n := n) (by omega) hlt (by rw [← hx.out]; exact hc))
            clear hx hld hEn hSm hRE p0 p1
            generalize En zs n = y at *
            go_wp2
            go_ret2
            exact ⟨by rw [he.out.1, he.out.2, hy.out]; rfl, hB2.out⟩
          · have hy := Lib.hid (ld_miss (zs := zs) (n := n) hld.out (by rw [← hx.out]; exact hc))
            have hx2 : Hid (x + En zs n = Sm zs (n + 1)) := Lib.hid (by rw [hx.out]; rfl)
            clear hx hld hEn hSm p0 p1
            generalize En zs n = y at *
            go_wp2
            go_roundw
            case rel => exact ⟨trivial, n + 1, x + y, by omega, by omega, by go_num, rfl, hx2, hy⟩
            case measure => simp [intOf]; omega
        · have hend : n = 8 := by omega
          subst hend
          have hld2 : Hid (loud zs = false) := Lib.hid hld.out
          clear hx hld hEn hSm hRE
          go_wp2
          go_ret2
          exact ⟨by rw [he.out.1, he.out.2, hld2.out]; rfl, hB2.out⟩

set_option maxRecDepth 100000 in
set_option maxHeartbeats 8000000 in
/-- Are all samples such as may be? -/
theorem in_ok (A : Option Addr) (cap : Nat) (zs : List Int) (w : World) (hl : zs.length = 256) (h : RdA w A zs) :
    Calls Try.prog 8 #[.slice A 256 cap, .int .i64 (-32768), .int .i64 32767] w fun e w' => (allIn zs → e = .returned (.bool true)) ∧ (¬ allIn zs → e = .returned (.bool false)) ∧ w = w' := by
  have HR := Lib.hid h
  have HL := Lib.hid hl
  clear h hl
  go_enter Try.func8, Try.ntmps8
  go_wp2
  go_loopw [7] (fun i wr => wr = w ∧ ∃ k : Nat, k ≤ 256 ∧ i = .int .i64 k ∧ Hid (∀ i, i < k → inr (zs.getD i 0))) (fun i _ => 256 - (intOf i).toNat)
  case atStart => exact ⟨rfl, 0, by omega, rfl, Lib.hid (fun i hi => absurd hi (by omega))⟩
  case round =>
    obtain ⟨rfl, k, hk, rfl, hI⟩ := hrel
    by_cases hlt : k < 256
    · obtain ⟨b, off, rfl, hb, q1⟩ := HR.out k (by rw [HL.out]; exact hlt)
      by_cases hz1 : zs.getD k 0 < -32768
      · have he : Hid (¬ allIn zs) := Lib.hid (fun hall => by have := (hall k hlt).1; omega)
        clear hI
        generalize zs.getD k 0 = z at *
        go_wp2
        go_ret
        exact ⟨fun h => absurd h he.out, fun _ => rfl, rfl⟩
      by_cases hz2 : 32767 < zs.getD k 0
      · have he : Hid (¬ allIn zs) := Lib.hid (fun hall => by have := (hall k hlt).2; omega)
        clear hI
        generalize zs.getD k 0 = z at *
        go_wp2
        go_ret
        exact ⟨fun h => absurd h he.out, fun _ => rfl, rfl⟩
      · have hI2 : Hid (∀ i, i < k + 1 → inr (zs.getD i 0)) := Lib.hid fun i hi => by
          by_cases e : i = k
          · subst e; exact ⟨by omega, by omega⟩
          · exact hI.out i (by omega)
        clear hI
        generalize zs.getD k 0 = z at *
        go_wp2
        go_roundw
        case rel => exact ⟨trivial, k + 1, by omega, by go_num, hI2⟩
        case measure => simp [intOf]; omega
    · have hend : k = 256 := by omega
      subst hend
      have he : Hid (allIn zs) := Lib.hid hI.out
      clear hI
      go_wp2
      go_ret
      exact ⟨fun _ => rfl, fun h => absurd he.out h, rfl⟩

set_option maxRecDepth 100000 in
set_option maxHeartbeats 8000000 in
/-- Do they begin loud, by the document? -/
theorem loud_ok (A : Option Addr) (cap : Nat) (zs : List Int) (w : World) (hl : zs.length = 256) (h : RdA w A zs) (hall : allIn zs) :
    Calls Try.prog 9 #[.slice A 256 cap] w fun e w' => e = .returned (.bool (loud zs)) ∧ Below w.heap.size w w' := by
  have HR := Lib.hid h
  have HL := Lib.hid hl
  have hEn := Lib.hid (En_bd hall)
  have hSm := Lib.hid (Sm_bd hall)
  have HA := Lib.hid hall
  have HB0 := Lib.hid (Below.refl w.heap.size w)
  clear h hl hall
  go_enter Try.func9, Try.ntmps9
  go_wp2
  go_loopw [3, 4] (fun a i wr => ∃ (n : Nat) (x : Int), n ≤ 8 ∧ i = .int .i64 n ∧ a = .int .i64 x ∧ Hid (x = Sm zs n) ∧ Hid (ld zs n = false) ∧ Hid (Below w.heap.size w wr)) (fun _ i _ => 8 - (intOf i).toNat)
  case atStart => exact ⟨0, 0, by omega, rfl, rfl, Lib.hid rfl, Lib.hid rfl, HB0⟩
  case round =>
    obtain ⟨n, x, hn8, rfl, rfl, hx, hld, hB⟩ := hrel
    clear HB0
    by_cases hlt : n < 8
    · have w0 : IntKind.i64.wrap (32 * (n : Int)) = 32 * (n : Int) := w64 (by omega) (by omega)
      have w00 : IntKind.i64.wrap (32 * (n : Int) + 32) = 32 * (n : Int) + 32 := w64 (by omega) (by omega)
      have hlt' : (n : Int) < 8 := by omega
      go_wp2
      go_loopw [5, 6] (fun a i wt => ∃ (t : Nat) (y : Int), t ≤ 32 ∧ i = .int .i64 (32 * (n : Int) + t) ∧ a = .int .i64 y ∧ Hid (y = er zs n t) ∧ Hid (Below w.heap.size w wt)) (fun _ i _ => 32 * n + 32 - (intOf i).toNat)
      case atStart => exact ⟨0, 0, by omega, by simp, rfl, Lib.hid rfl, hB⟩
      case round =>
        obtain ⟨t, y, ht, rfl, rfl, hy, hBt⟩ := hrel
        by_cases htl : t < 32
        · obtain ⟨b, off, rfl, hb, q1'⟩ := HR.out (32 * n + t) (by rw [HL.out]; omega)
          have q1 := (hBt.out.cell (p := ⟨b, off + (32 * n + t), none⟩) hb).trans q1'
          have hin := HA.out (32 * n + t) (by omega)
          obtain ⟨s0, s1⟩ := sq_bd hin
          obtain ⟨e0, e1⟩ := er_bd HA.out hlt t (by omega)
          rw [← hy.out] at e0 e1
          have hy2 : Hid (y + sq (zs.getD (32 * n + t) 0) = er zs n (t + 1)) := Lib.hid (by rw [er_succ, hy.out])
          have hs : zs.getD (32 * n + t) 0 * zs.getD (32 * n + t) 0 = sq (zs.getD (32 * n + t) 0) := rfl
          have hs2 : IntKind.i64.wrap (sq (zs.getD (32 * n + t) 0)) = sq (zs.getD (32 * n + t) 0) := w64 (by omega) (by omega)
          have hs3 : IntKind.i64.wrap (y + sq (zs.getD (32 * n + t) 0)) = y + sq (zs.getD (32 * n + t) 0) := w64 (by omega) (by omega)
          have hidx : (32 * (n : Int) + (t : Int)).toNat = 32 * n + t := by omega
          have h0 : (0 : Int) ≤ 32 * (n : Int) + (t : Int) := by omega
          have h1 : 32 * (n : Int) + (t : Int) < 256 := by omega
          have h2 : 32 * (n : Int) + (t : Int) < 32 * (n : Int) + 32 := by omega
          have w5 : IntKind.i64.wrap (32 * (n : Int) + (t : Int) + 1) = 32 * (n : Int) + ((t + 1 : Nat) : Int) := by rw [w64 (by omega) (by omega)]; omega
          have hB2 := Lib.hid hBt.out
          clear hy q1' hin e0 e1
          generalize sq (zs.getD (32 * n + t) 0) = s at *
          generalize zs.getD (32 * n + t) 0 = z at *
          go_wp2
          go_quiet (fail)
          go_wp2
          go_roundw
          case rel => exact ⟨t + 1, y + s, by omega, by first | rfl | go_num, rfl, hy2, Lib.hid (hB2.out.trans ((drewN_belowL _ nq).mono hB2.out.size))⟩
          case measure => simp [intOf]; omega
        · have hend : t = 32 := by omega
          subst hend
          obtain ⟨e0, e1⟩ := hEn.out n
          obtain ⟨s0, s1⟩ := hSm.out n
          have hyE : y = En zs n := by rw [hy.out]; exact er_En hlt
          rw [← hyE] at e0 e1
          rw [← hx.out] at s0 s1
          have hp : 0 ≤ (n : Int) * y ∧ (n : Int) * y ≤ 8 * 274877906944 := ⟨Int.mul_nonneg (by omega) e0, Int.mul_le_mul (by omega) e1 e0 (by decide)⟩
          obtain ⟨p0, p1⟩ := hp
          have w1 : IntKind.i64.wrap ((n : Int) * y) = (n : Int) * y := w64 (by omega) (by omega)
          have w2 : IntKind.i64.wrap (8 * x) = 8 * x := w64 (by omega) (by omega)
          have w3 : IntKind.i64.wrap ((n : Int) * 1048576) = (n : Int) * 1048576 := w64 (by omega) (by omega)
          have w4 : IntKind.i64.wrap (8 * x + (n : Int) * 1048576) = 8 * x + (n : Int) * 1048576 := w64 (by omega) (by omega)
          have w5 : IntKind.i64.wrap (x + y) = x + y := w64 (by omega) (by omega)
          have h2 : ¬ (32 * (n : Int) + ((32 : Nat) : Int) < 32 * (n : Int) + 32) := by omega
          have hx2 : Hid (x + y = Sm zs (n + 1)) := Lib.hid (by rw [hx.out, hyE]; rfl)
          have hB2 := Lib.hid hBt.out
          by_cases hn0 : n = 0
          · subst hn0
            have hl1 := Lib.hid (ld_one zs)
            clear hx hy hyE hld p0 p1
            go_wp2
            go_roundw
            case rel => exact ⟨1, x + y, by omega, by first | rfl | go_num, rfl, hx2, hl1, hB2⟩
            case measure => simp [intOf]
          have hn1 : 0 < (n : Int) := by omega
          by_cases hc : 8 * x + (n : Int) * 1048576 < (n : Int) * y
          · have hyy := Lib.hid (ld_hit (zs := zs) (n := n) (by omega) hlt (by rw [← hx.out, ← hyE]; exact hc))
            clear hx hy hyE hld p0 p1 hx2
            go_wp2
            go_ret
            exact ⟨by rw [hyy.out]; rfl, hB2.out⟩
          · have hyy := Lib.hid (ld_miss (zs := zs) (n := n) hld.out (by rw [← hx.out, ← hyE]; exact hc))
            clear hx hy hyE hld p0 p1
            go_wp2
            go_roundw
            case rel => exact ⟨n + 1, x + y, by omega, by go_num, rfl, hx2, hyy, hB2⟩
            case measure => simp [intOf]; omega
    · have hend : n = 8 := by omega
      subst hend
      have hld2 : Hid (loud zs = false) := Lib.hid hld.out
      have hB2 := Lib.hid hB.out
      clear hx hld hB
      go_wp2
      go_ret
      exact ⟨by rw [hld2.out]; rfl, hB2.out⟩

set_option maxRecDepth 100000 in
set_option maxHeartbeats 4000000 in
theorem rattack_len (A : Option Addr) (len cap : Nat) (w : World) (h : len ≠ 256) : Calls Try.prog 5 #[.slice A len cap] w fun e w' => e = .returned (.tuple #[.bool false, .int .i64 4]) ∧ Below w.heap.size w w' := by
  have h1 : ¬ (len : Int) = 256 := by omega
  have h2 : ((len : Int) == 256) = false := by simp; omega
  have hb := Lib.hid (Below.refl w.heap.size w)
  clear h
  go_enter Try.func5, Try.ntmps5
  go_wp2
  go_ret2
  exact ⟨rfl, hb.out⟩
set_option maxRecDepth 100000 in
set_option maxHeartbeats 4000000 in
theorem rattack_ok (A : Option Addr) (cap : Nat) (zs : List Int) (w : World) (hl : zs.length = 256) (h : RdA w A zs) :
    Calls Try.prog 5 #[.slice A 256 cap] w fun e w' => e = .returned (.tuple #[.bool (atB zs), .int .i64 (atE zs)]) ∧ Below w.heap.size w w' := by
  have HIn := Lib.hid (in_ok A cap zs w hl h)
  have hb := Lib.hid (Below.refl w.heap.size w)
  by_cases ha : allIn zs
  · have HLd := Lib.hid (loud_ok A cap zs w hl h ha)
    have he := Lib.hid (at_in hl ha)
    have HA := Lib.hid ha
    clear hl h ha
    go_enter Try.func5, Try.ntmps5
    go_wp2_with first
      | (go_at_call 8; ((with_reducible refine (HIn.out).mono ?_); rintro e w1 ⟨hT, _, rfl⟩; obtain rfl := hT HA.out; clear hT))
      | (go_at_call 9; ((with_reducible refine (HLd.out).mono ?_); rintro e w2 ⟨rfl, hbel⟩))
    have hB2 := Lib.hid hbel
    go_ret2
    exact ⟨by rw [he.out.1, he.out.2]; rfl, hB2.out⟩
  · have he := Lib.hid (at_out hl ha)
    have HA := Lib.hid ha
    clear hl h ha
    go_enter Try.func5, Try.ntmps5
    go_wp2_with first
      | (go_at_call 8; ((with_reducible refine (HIn.out).mono ?_); rintro e w1 ⟨_, hF, rfl⟩; obtain rfl := hF HA.out; clear hF))
    go_ret2
    exact ⟨by rw [he.out.1, he.out.2]; rfl, hb.out⟩

def seqV (was : Int) (now next : Bool) : Int := if was = 0 ∨ was = 3 then (if next then 1 else 0) else if was = 1 ∨ was = 2 then (if now || next then 2 else 3) else 0
def seqE (was : Int) : Int := if was = 0 ∨ was = 1 ∨ was = 2 ∨ was = 3 then 0 else 2
set_option maxRecDepth 100000 in
set_option maxHeartbeats 4000000 in
theorem seq_ok (was : Int) (now next : Bool) (w : World) (h0 : 0 ≤ was) : Calls Try.prog 6 #[.int .u8 was, .bool now, .bool next] w fun e w' => e = .returned (.tuple #[.int .u8 (seqV was now next), .int .i64 (seqE was)]) ∧ w = w' := by
  by_cases h1 : was = 0 ∨ was = 1 ∨ was = 2 ∨ was = 3
  · rcases h1 with rfl | rfl | rfl | rfl <;> cases now <;> cases next
    all_goals
      go_enter Try.func6, Try.ntmps6
      go_wp2
      go_ret2
      exact ⟨rfl, rfl⟩
  · have e1 : seqV was now next = 0 := by unfold seqV; rw [if_neg (by omega), if_neg (by omega)]
    have e2 : seqE was = 2 := by unfold seqE; rw [if_neg h1]
    have a0 : ¬ was = 0 := by omega
    have a1 : ¬ was = 1 := by omega
    have a2 : ¬ was = 2 := by omega
    have a3 : ¬ was = 3 := by omega
    have b0 : (was == 0) = false := by simp; omega
    have b1 : (was == 1) = false := by simp; omega
    have b2 : (was == 2) = false := by simp; omega
    have b3 : (was == 3) = false := by simp; omega
    rw [e1, e2]
    clear h1 e1 e2 h0
    go_enter Try.func6, Try.ntmps6
    go_wp2
    go_ret2
    exact ⟨rfl, rfl⟩
set_option maxRecDepth 100000 in
set_option maxHeartbeats 4000000 in
theorem next_ok (was : Int) (now next : Bool) (w : World) (h1 : was = 0 ∨ was = 1 ∨ was = 2 ∨ was = 3) : Calls Try.prog 10 #[.int .u8 was, .bool now, .bool next] w fun e w' => e = .returned (.int .u8 (seqV was now next)) ∧ w = w' := by
  rcases h1 with rfl | rfl | rfl | rfl <;> cases now <;> cases next
  all_goals
    go_enter Try.func10, Try.ntmps10
    go_wp2
    go_ret
    exact ⟨rfl, rfl⟩
set_option maxRecDepth 100000 in
set_option maxHeartbeats 4000000 in
theorem rseq_ok (was : Int) (now next : Bool) (w : World) (h0 : 0 ≤ was) : Calls Try.prog 7 #[.int .u8 was, .bool now, .bool next] w fun e w' => e = .returned (.tuple #[.int .u8 (seqV was now next), .int .i64 (seqE was)]) ∧ w = w' := by
  by_cases h1 : was = 0 ∨ was = 1 ∨ was = 2 ∨ was = 3
  · have HN := Lib.hid (next_ok was now next w h1)
    have e2 : seqE was = 0 := by unfold seqE; rw [if_pos h1]
    have a3 : ¬ 3 < was := by omega
    rw [e2]
    generalize hv : seqV was now next = V at *
    clear h1 e2 h0 hv
    go_enter Try.func7, Try.ntmps7
    go_wp2_with first
      | (go_at_call 10; ((with_reducible refine (HN.out).mono ?_); rintro e w1 ⟨rfl, rfl⟩))
    go_ret2
    exact ⟨rfl, rfl⟩
  · have e1 : seqV was now next = 0 := by unfold seqV; rw [if_neg (by omega), if_neg (by omega)]
    have e2 : seqE was = 2 := by unfold seqE; rw [if_neg h1]
    have a3 : 3 < was := by omega
    rw [e1, e2]
    clear h1 e1 e2 h0
    go_enter Try.func7, Try.ntmps7
    go_wp2
    go_ret2
    exact ⟨rfl, rfl⟩
end Go.Proofs.Ytlljfpekbimcmaa.Pk
