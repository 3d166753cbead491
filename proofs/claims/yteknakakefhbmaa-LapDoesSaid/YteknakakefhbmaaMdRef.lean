/- The document's own transform. -/
import Derived.Test.YteknakakefhbmaaMdAl
import Derived.WalkKit
import Derived.Below
import Derived.RegionTactic
import Derived.Deep.QuietTactic
import Derived.BigQuiet
import Derived.ChangeAlike
import Derived.Deep.OwnRows
import Derived.ProofKit
import Derived.OpenShut
import Derived.ChangeSlices
import Derived.Great.Walk
import Derived.ChangeKeysEq
import Derived.Laws.AppendOwn
import Derived.Laws.AppendOwnNone
import Derived.Laws.OwnMore
import Derived.OwnWalk
import Derived.Lib.Hide
import Derived.ChangeOld
namespace Go.Proofs.Yteknakakefhbmaa.Md
open Go Go.ChangeShapes Go.WideShapes Go.ChangeAt Go.RowKit Go.Proofs.Yteknakakefhbmaa.Fx Go.Proofs.Yteknakakefhbmaa.Mm

theorem i64_in {x : Int} (h0 : -4611686018427387904 ≤ x) (h1 : x ≤ 4611686018427387904) : IntKind.i64.wrap x = x := by simp [IntKind.wrap, IntKind.bits, IntKind.signed]; omega
set_option maxRecDepth 100000 in
set_option maxHeartbeats 4000000 in
theorem table_ok (w : World) : Calls Try.prog 71 #[] w fun e w' => ∃ v, e = .returned v ∧ Own w.heap.size w' v (mk 2048 (fun j => cosF j)) ∧ Below w.heap.size w w' := by
  obtain ⟨i0, hi, hz0, hz1, hz2⟩ := info_parts info3
  have hnil := own_nil w w.heap.size
  go_enter Try.func71, Try.ntmps71
  go_wp2
  go_loopw [1, 2] (fun v i wr => ∃ k : Nat, k ≤ 2048 ∧ i = .int .i64 k ∧ Own w.heap.size wr v (mk k (fun j => cosF j)) ∧ Below w.heap.size w wr) (fun _ i _ => 2048 - (intOf i).toNat)
  case atStart => exact ⟨0, by omega, rfl, hnil, Below.refl _ _⟩
  case round =>
    obtain ⟨k, hk, rfl, hown, hbel⟩ := hrel
    have hle : w.heap.size ≤ wr.heap.size := hbel.size
    by_cases hlt : k < 2048
    · have HS := Lib.hid (mk_succ k (fun j => cosF j))
      have hlen := mk_len k (fun j => cosF j)
      have HC := Lib.hid (fun w => rcos (k : Int) w)
      generalize cosF (k : Int) = V at *
      go_wp2_with first
        | (go_at_call 80; ((with_reducible refine (HC.out _).mono ?_); rintro e w4 ⟨rfl, rfl⟩))
        | (at_builtin; refine wpList_append_own _ rfl (.tmp 7) (.tmp 10) 22 rfl w.heap.size 3 i0 (.int .i64 0) 1 8 Try.underlying22 hi hz0 hz1 hz2 rfl (by decide) _ _ _ rfl (World.ownsRow.alloc hown _) ⟨wr.heap.size, 0, none⟩ 1 1 [.int .i64 V] rfl rfl ?c1 ?c2 ?c3 ?c4 ?c5 ?_)
      first
      | case c1 =>
          intro j u hj
          match j, hj with
          | 0, hj => simp at hj; subst hj; simp [Addr.add]
      | skip
      case c2 => first | (intro u hu; simp at hu; subst hu; rfl) | rfl
      case c3 => first | (rw [hlen]; unfold maxLen; omega) | (unfold maxLen; omega)
      case c4 => first | omega | (simp; done) | (simp; omega)
      case c5 => first | omega | (simp; done) | (simp; omega)
      intro v2 w2 hown2 hgrow2 _
      have ho2 : Own w.heap.size w2 v2 (mk (k + 1) (fun j => cosF j)) := by rw [HS.out]; exact own_push (by first | (rw [hlen]; exact hown2) | exact hown2)
      have hb2 : Below w.heap.size w w2 := below_grown (hbel.alloc hle _) (hown.alloc _) (Nat.le_refl _) hgrow2
      go_wp2
      go_roundw
      case rel => exact ⟨k + 1, by omega, by go_num, ho2, hb2⟩
      case measure => simp [intOf]; omega
    · have hend : k = 2048 := by omega
      subst hend
      go_wp2
      go_ret
      exact ⟨_, rfl, hown, hbel⟩
theorem arc256 (n k : Nat) (w : World) (hn : n < 512) (hk : k < 256) : ∃ i : Nat, i < 2048 ∧ cosF (i : Int) = cosF (ar 256 1 n k) ∧ ∀ w, Calls Try.prog 72 #[.int .i64 n, .int .i64 k, .int .i64 256] w fun e w' => e = .returned (.int .i64 (i : Int)) ∧ w' = w := by
  obtain ⟨p, hp⟩ : ∃ p, (2 * (n : Int) + 1 + 256) * (2 * (k : Int) + 1) = p := ⟨_, rfl⟩
  have p0 : 0 ≤ p := by rw [← hp]; exact Int.mul_nonneg (by omega) (by omega)
  have p1 : p ≤ 10000 * 10000 := by rw [← hp]; exact Int.mul_le_mul (by omega) (by omega) (by omega) (by decide)
  obtain ⟨i, hi⟩ : ∃ i : Nat, p * 1 % 2048 = (i : Int) := ⟨(p * 1 % 2048).toNat, by omega⟩
  refine ⟨i, by omega, ?_, fun w => ?_⟩
  · unfold ar
    rw [hp, ← cosF_mod (p * 1), hi]
  · have HI := Lib.hid hi
    clear hi
    have hw : IntKind.i64.wrap ((2 * (n : Int) + 1 + 256) * (2 * (k : Int) + 1)) = p := by rw [hp]; simp [IntKind.wrap, IntKind.bits, IntKind.signed]; omega
    go_enter Try.func72, Try.ntmps72
    go_wp2
    go_ret
    exact ⟨ret1 (by have := HI.out; omega), rfl⟩
theorem arc32 (n k : Nat) (w : World) (hn : n < 512) (hk : k < 256) : ∃ i : Nat, i < 2048 ∧ cosF (i : Int) = cosF (ar 32 8 n k) ∧ ∀ w, Calls Try.prog 72 #[.int .i64 n, .int .i64 k, .int .i64 32] w fun e w' => e = .returned (.int .i64 (i : Int)) ∧ w' = w := by
  obtain ⟨p, hp⟩ : ∃ p, (2 * (n : Int) + 1 + 32) * (2 * (k : Int) + 1) = p := ⟨_, rfl⟩
  have p0 : 0 ≤ p := by rw [← hp]; exact Int.mul_nonneg (by omega) (by omega)
  have p1 : p ≤ 10000 * 10000 := by rw [← hp]; exact Int.mul_le_mul (by omega) (by omega) (by omega) (by decide)
  obtain ⟨i, hi⟩ : ∃ i : Nat, p * 8 % 2048 = (i : Int) := ⟨(p * 8 % 2048).toNat, by omega⟩
  refine ⟨i, by omega, ?_, fun w => ?_⟩
  · unfold ar
    rw [hp, ← cosF_mod (p * 8), hi]
  · have HI := Lib.hid hi
    clear hi
    have hw : IntKind.i64.wrap ((2 * (n : Int) + 1 + 32) * (2 * (k : Int) + 1)) = p := by rw [hp]; simp [IntKind.wrap, IntKind.bits, IntKind.signed]; omega
    go_enter Try.func72, Try.ntmps72
    go_wp2
    go_ret
    exact ⟨ret1 (by have := HI.out; omega), rfl⟩
set_option maxRecDepth 100000 in
set_option maxHeartbeats 8000000 in
theorem lines512 (A : Option Addr) (cap : Nat) (zs : List Int) (w : World) (hl : zs.length = 512) (h : RdA w A zs) (hM : InM 8388608 zs) :
    Calls Try.prog 56 #[.slice A 512 cap] w fun e w' => ∃ v, e = .returned v ∧ Own w.heap.size w' v (mk 256 (fw zs 256 1)) ∧ Below w.heap.size w w' := by
  obtain ⟨i0, hi, hz0, hz1, hz2⟩ := info_parts info3
  have HT := Lib.hid (table_ok w)
  have HZ := Lib.hid (fun j (hj : j < 512) => hM j (hl ▸ hj))
  have HD : Hid (∀ k : Nat, ∀ j, j ≤ 512 → -4611686018427387904 ≤ ds (fun n => zs.getD n 0) (cw 256 1 (k : Int)) j ∧ ds (fun n => zs.getD n 0) (cw 256 1 (k : Int)) j ≤ 4611686018427387904) := Lib.hid fun k j hj => ds_in (M := 8388608) (N := 512) (fun j => cos_bd _) (fun j hj => hM j (by omega)) hj (by decide) (by decide)
  have HV : Hid (∀ k : Nat, rnd (ds (fun n => zs.getD n 0) (cw 256 1 (k : Int)) 512) 33 = fw zs 256 1 k) := Lib.hid fun k => rfl
  have HR := Lib.hid h
  have HL := Lib.hid hl
  clear h hM hl
  go_enter Try.func56, Try.ntmps56
  go_wp2_with (go_at_call 71; ((with_reducible refine (HT.out).mono ?_); rintro e w1 ⟨vt, rfl, ho, hb⟩; have B1 := Lib.hid hb; obtain ⟨T, capT, rfl, hT'⟩ := ho.rd.open; have HO := Lib.hid hT'; clear hT' ho hb))
  rw [mk_len] at *
  have hnil := own_nil w1 w1.heap.size
  go_loopw [5, 6] (fun v i wr => ∃ k : Nat, k ≤ 256 ∧ i = .int .i64 k ∧ Own w1.heap.size wr v (mk k (fw zs 256 1)) ∧ Below w1.heap.size w1 wr) (fun _ i _ => 256 - (intOf i).toNat)
  case atStart => exact ⟨0, by omega, rfl, hnil, Below.refl _ _⟩
  case round =>
    obtain ⟨k, hk, rfl, hown, hbel⟩ := hrel
    clear hnil
    by_cases hlt : k < 256
    · have hlt2 : (k : Int) < 256 := by omega
      have hownh := Lib.hid hown
      have hbelh := Lib.hid hbel
      clear hown hbel
      go_wp2
      go_loopw [7, 8] (fun t i u => ∃ j : Nat, j ≤ 512 ∧ i = .int .i64 j ∧ t = .int .i64 (ds (fun n => zs.getD n 0) (cw 256 1 (k : Int)) j) ∧ Hid (Own w1.heap.size u u5 (mk k (fw zs 256 1))) ∧ Hid (Below w1.heap.size w1 u)) (fun _ i _ => 512 - (intOf i).toNat)
      case atStart => exact ⟨0, by omega, rfl, rfl, hownh, hbelh⟩
      case round =>
        obtain ⟨j, hj, rfl, rfl, hO, hB⟩ := hrel
        clear hownh hbelh
        by_cases hlt3 : j < 512
        · have hlt4 : (j : Int) < 512 := by omega
          obtain ⟨bz, oz, rfl, hlz, cz⟩ := (HR.out.below (B1.out.trans (hB.out.mono B1.out.size))) j (by rw [HL.out]; exact hlt3)
          obtain ⟨i, hi2, hic, HA⟩ := arc256 j k wr (by omega) (by omega)
          obtain ⟨bt, ot, rfl, hltt, ct⟩ := (HO.out.below hB.out) i (by rw [mk_len]; exact hi2)
          rw [mk_at hi2, hic] at ct
          have hcc : ∃ C, (cw 256 1 (k : Int)) j = C ∧ wr.cell? ⟨bt, ot + i, none⟩ = some (.int .i64 C) := ⟨_, rfl, ct⟩
          obtain ⟨C, hC, ct2⟩ := hcc
          have hcb : -67108864 ≤ C ∧ C ≤ 67108864 := by rw [← hC]; exact cos_bd _
          obtain ⟨x0, x1⟩ := HZ.out j hlt3
          have d0 := HD.out k j hj
          have d1 := HD.out k (j + 1) hlt3
          have hds : ds (fun n => zs.getD n 0) (cw 256 1 (k : Int)) (j + 1) = ds (fun n => zs.getD n 0) (cw 256 1 (k : Int)) j + zs.getD j 0 * C := by rw [← hC]; rfl
          rw [hds] at d1
          have HDS := Lib.hid hds
          have hpb := prod_bd (M := 8388608) x0 x1 hcb.1 hcb.2
          have hO1 := hO.out
          have hB1 := hB.out
          have HO1 := Lib.hid (fun n => hO1.below (drewN_belowL wr n))
          have HB1 := Lib.hid (fun n => hB1.trans ((drewN_belowL wr n).mono hB1.size))
          clear hds hic ct hC hO hB hO1 hB1 hcb
          generalize zs.getD j 0 = X at *
          generalize ds (fun n => zs.getD n 0) (cw 256 1 (k : Int)) j = S at *
          obtain ⟨p, hp⟩ : ∃ p, X * C = p := ⟨_, rfl⟩
          rw [hp] at hpb d1 HDS
          obtain ⟨p0, p1⟩ := hpb
          obtain ⟨d2, d3⟩ := d1
          obtain ⟨d4, d5⟩ := d0
          have z1 : IntKind.i64.wrap (X * C) = p := by rw [hp]; exact i64_in (by omega) (by omega)
          have z2 : IntKind.i64.wrap (S + p) = S + p := i64_in (by omega) (by omega)
          go_wp2
          go_quiet (exact Calls.quiet_of_same (HA _))
          go_wp2
          go_roundw
          case rel => exact ⟨j + 1, by omega, by go_num, by rw [HDS.out], HO1.out _, HB1.out _⟩
          case measure => simp [intOf]; omega
        · have hend : j = 512 := by omega
          subst hend
          have d0 := HD.out k 512 (Nat.le_refl _)
          have HDn := Lib.hid (fun w => down_in (ds (fun n => zs.getD n 0) (cw 256 1 (k : Int)) 512) 33 w d0.1 d0.2 (by decide) (by decide))
          have HS := Lib.hid (mk_succ k (fw zs 256 1))
          have hlen := mk_len k (fw zs 256 1)
          have hv := HV.out k
          have hown := Lib.hid hO.out
          have hbel := Lib.hid hB.out
          have hle : w1.heap.size ≤ wr.heap.size := hB.out.size
          clear hO hB hlt3 d0
          rw [← hv] at HS
          clear hv
          generalize rnd (ds (fun n => zs.getD n 0) (cw 256 1 (k : Int)) 512) 33 = V at *
          generalize ds (fun n => zs.getD n 0) (cw 256 1 (k : Int)) 512 = S at *
          go_wp2_with first
            | (go_at_call 63; ((with_reducible refine (HDn.out _).mono ?_); rintro e w4 ⟨rfl, rfl⟩))
            | (at_builtin; refine wpList_append_own _ rfl (.tmp 38) (.tmp 41) 22 rfl w1.heap.size 3 i0 (.int .i64 0) 1 8 Try.underlying22 hi hz0 hz1 hz2 rfl (by decide) _ _ _ rfl (World.ownsRow.alloc hown.out _) ⟨wr.heap.size, 0, none⟩ 1 1 [.int .i64 V] rfl rfl ?c1 ?c2 ?c3 ?c4 ?c5 ?_)
          first
          | case c1 =>
              intro j u hj
              match j, hj with
              | 0, hj => simp at hj; subst hj; simp [Addr.add]
          | skip
          case c2 => first | (intro u hu; simp at hu; subst hu; rfl) | rfl
          case c3 => first | (rw [hlen]; unfold maxLen; omega) | (unfold maxLen; omega)
          case c4 => first | omega | (simp; done) | (simp; omega)
          case c5 => first | omega | (simp; done) | (simp; omega)
          intro v2 w2 hown2 hgrow2 _
          have ho2 : Own w1.heap.size w2 v2 (mk (k + 1) (fw zs 256 1)) := by rw [HS.out]; exact own_push (by first | (rw [hlen]; exact hown2) | exact hown2)
          have hb2 : Below w1.heap.size w1 w2 := below_grown (hbel.out.alloc hle _) (hown.out.alloc _) (Nat.le_refl _) hgrow2
          go_wp2
          go_roundw
          case rel => exact ⟨k + 1, by omega, by go_num, ho2, hb2⟩
          case measure => simp [intOf]; omega
    · have hend : k = 256 := by omega
      subst hend
      have hb2 := B1.out.trans (hbel.mono B1.out.size)
      have ho2 := hown.rebase B1.out.size
      go_wp2
      go_ret
      exact ⟨_, rfl, ho2, hb2⟩
set_option maxRecDepth 100000 in
set_option maxHeartbeats 8000000 in
theorem lines64 (A : Option Addr) (cap : Nat) (zs : List Int) (w : World) (hl : zs.length = 64) (h : RdA w A zs) (hM : InM 8388608 zs) :
    Calls Try.prog 56 #[.slice A 64 cap] w fun e w' => ∃ v, e = .returned v ∧ Own w.heap.size w' v (mk 32 (fw zs 32 8)) ∧ Below w.heap.size w w' := by
  obtain ⟨i0, hi, hz0, hz1, hz2⟩ := info_parts info3
  have HT := Lib.hid (table_ok w)
  have HZ := Lib.hid (fun j (hj : j < 64) => hM j (hl ▸ hj))
  have HD : Hid (∀ k : Nat, ∀ j, j ≤ 64 → -4611686018427387904 ≤ ds (fun n => zs.getD n 0) (cw 32 8 (k : Int)) j ∧ ds (fun n => zs.getD n 0) (cw 32 8 (k : Int)) j ≤ 4611686018427387904) := Lib.hid fun k j hj => ds_in (M := 8388608) (N := 64) (fun j => cos_bd _) (fun j hj => hM j (by omega)) hj (by decide) (by decide)
  have HV : Hid (∀ k : Nat, rnd (ds (fun n => zs.getD n 0) (cw 32 8 (k : Int)) 64) 33 = fw zs 32 8 k) := Lib.hid fun k => rfl
  have HR := Lib.hid h
  have HL := Lib.hid hl
  clear h hM hl
  go_enter Try.func56, Try.ntmps56
  go_wp2_with (go_at_call 71; ((with_reducible refine (HT.out).mono ?_); rintro e w1 ⟨vt, rfl, ho, hb⟩; have B1 := Lib.hid hb; obtain ⟨T, capT, rfl, hT'⟩ := ho.rd.open; have HO := Lib.hid hT'; clear hT' ho hb))
  rw [mk_len] at *
  have hnil := own_nil w1 w1.heap.size
  go_loopw [5, 6] (fun v i wr => ∃ k : Nat, k ≤ 32 ∧ i = .int .i64 k ∧ Own w1.heap.size wr v (mk k (fw zs 32 8)) ∧ Below w1.heap.size w1 wr) (fun _ i _ => 32 - (intOf i).toNat)
  case atStart => exact ⟨0, by omega, rfl, hnil, Below.refl _ _⟩
  case round =>
    obtain ⟨k, hk, rfl, hown, hbel⟩ := hrel
    clear hnil
    by_cases hlt : k < 32
    · have hlt2 : (k : Int) < 32 := by omega
      have hownh := Lib.hid hown
      have hbelh := Lib.hid hbel
      clear hown hbel
      go_wp2
      go_loopw [7, 8] (fun t i u => ∃ j : Nat, j ≤ 64 ∧ i = .int .i64 j ∧ t = .int .i64 (ds (fun n => zs.getD n 0) (cw 32 8 (k : Int)) j) ∧ Hid (Own w1.heap.size u u5 (mk k (fw zs 32 8))) ∧ Hid (Below w1.heap.size w1 u)) (fun _ i _ => 64 - (intOf i).toNat)
      case atStart => exact ⟨0, by omega, rfl, rfl, hownh, hbelh⟩
      case round =>
        obtain ⟨j, hj, rfl, rfl, hO, hB⟩ := hrel
        clear hownh hbelh
        by_cases hlt3 : j < 64
        · have hlt4 : (j : Int) < 64 := by omega
          obtain ⟨bz, oz, rfl, hlz, cz⟩ := (HR.out.below (B1.out.trans (hB.out.mono B1.out.size))) j (by rw [HL.out]; exact hlt3)
          obtain ⟨i, hi2, hic, HA⟩ := arc32 j k wr (by omega) (by omega)
          obtain ⟨bt, ot, rfl, hltt, ct⟩ := (HO.out.below hB.out) i (by rw [mk_len]; exact hi2)
          rw [mk_at hi2, hic] at ct
          have hcc : ∃ C, (cw 32 8 (k : Int)) j = C ∧ wr.cell? ⟨bt, ot + i, none⟩ = some (.int .i64 C) := ⟨_, rfl, ct⟩
          obtain ⟨C, hC, ct2⟩ := hcc
          have hcb : -67108864 ≤ C ∧ C ≤ 67108864 := by rw [← hC]; exact cos_bd _
          obtain ⟨x0, x1⟩ := HZ.out j hlt3
          have d0 := HD.out k j hj
          have d1 := HD.out k (j + 1) hlt3
          have hds : ds (fun n => zs.getD n 0) (cw 32 8 (k : Int)) (j + 1) = ds (fun n => zs.getD n 0) (cw 32 8 (k : Int)) j + zs.getD j 0 * C := by rw [← hC]; rfl
          rw [hds] at d1
          have HDS := Lib.hid hds
          have hpb := prod_bd (M := 8388608) x0 x1 hcb.1 hcb.2
          have hO1 := hO.out
          have hB1 := hB.out
          have HO1 := Lib.hid (fun n => hO1.below (drewN_belowL wr n))
          have HB1 := Lib.hid (fun n => hB1.trans ((drewN_belowL wr n).mono hB1.size))
          clear hds hic ct hC hO hB hO1 hB1 hcb
          generalize zs.getD j 0 = X at *
          generalize ds (fun n => zs.getD n 0) (cw 32 8 (k : Int)) j = S at *
          obtain ⟨p, hp⟩ : ∃ p, X * C = p := ⟨_, rfl⟩
          rw [hp] at hpb d1 HDS
          obtain ⟨p0, p1⟩ := hpb
          obtain ⟨d2, d3⟩ := d1
          obtain ⟨d4, d5⟩ := d0
          have z1 : IntKind.i64.wrap (X * C) = p := by rw [hp]; exact i64_in (by omega) (by omega)
          have z2 : IntKind.i64.wrap (S + p) = S + p := i64_in (by omega) (by omega)
          go_wp2
          go_quiet (exact Calls.quiet_of_same (HA _))
          go_wp2
          go_roundw
          case rel => exact ⟨j + 1, by omega, by go_num, by rw [HDS.out], HO1.out _, HB1.out _⟩
          case measure => simp [intOf]; omega
        · have hend : j = 64 := by omega
          subst hend
          have d0 := HD.out k 64 (Nat.le_refl _)
          have HDn := Lib.hid (fun w => down_in (ds (fun n => zs.getD n 0) (cw 32 8 (k : Int)) 64) 33 w d0.1 d0.2 (by decide) (by decide))
          have HS := Lib.hid (mk_succ k (fw zs 32 8))
          have hlen := mk_len k (fw zs 32 8)
          have hv := HV.out k
          have hown := Lib.hid hO.out
          have hbel := Lib.hid hB.out
          have hle : w1.heap.size ≤ wr.heap.size := hB.out.size
          clear hO hB hlt3 d0
          rw [← hv] at HS
          clear hv
          generalize rnd (ds (fun n => zs.getD n 0) (cw 32 8 (k : Int)) 64) 33 = V at *
          generalize ds (fun n => zs.getD n 0) (cw 32 8 (k : Int)) 64 = S at *
          go_wp2_with first
            | (go_at_call 63; ((with_reducible refine (HDn.out _).mono ?_); rintro e w4 ⟨rfl, rfl⟩))
            | (at_builtin; refine wpList_append_own _ rfl (.tmp 38) (.tmp 41) 22 rfl w1.heap.size 3 i0 (.int .i64 0) 1 8 Try.underlying22 hi hz0 hz1 hz2 rfl (by decide) _ _ _ rfl (World.ownsRow.alloc hown.out _) ⟨wr.heap.size, 0, none⟩ 1 1 [.int .i64 V] rfl rfl ?c1 ?c2 ?c3 ?c4 ?c5 ?_)
          first
          | case c1 =>
              intro j u hj
              match j, hj with
              | 0, hj => simp at hj; subst hj; simp [Addr.add]
          | skip
          case c2 => first | (intro u hu; simp at hu; subst hu; rfl) | rfl
          case c3 => first | (rw [hlen]; unfold maxLen; omega) | (unfold maxLen; omega)
          case c4 => first | omega | (simp; done) | (simp; omega)
          case c5 => first | omega | (simp; done) | (simp; omega)
          intro v2 w2 hown2 hgrow2 _
          have ho2 : Own w1.heap.size w2 v2 (mk (k + 1) (fw zs 32 8)) := by rw [HS.out]; exact own_push (by first | (rw [hlen]; exact hown2) | exact hown2)
          have hb2 : Below w1.heap.size w1 w2 := below_grown (hbel.out.alloc hle _) (hown.out.alloc _) (Nat.le_refl _) hgrow2
          go_wp2
          go_roundw
          case rel => exact ⟨k + 1, by omega, by go_num, ho2, hb2⟩
          case measure => simp [intOf]; omega
    · have hend : k = 32 := by omega
      subst hend
      have hb2 := B1.out.trans (hbel.mono B1.out.size)
      have ho2 := hown.rebase B1.out.size
      go_wp2
      go_ret
      exact ⟨_, rfl, ho2, hb2⟩
set_option maxRecDepth 100000 in
set_option maxHeartbeats 8000000 in
theorem back256 (A : Option Addr) (cap : Nat) (zs : List Int) (w : World) (hl : zs.length = 256) (h : RdA w A zs) (hM : InM 268435455 zs) :
    Calls Try.prog 60 #[.slice A 256 cap] w fun e w' => ∃ v, e = .returned v ∧ Own w.heap.size w' v (mk 512 (bk zs 256 1 26)) ∧ Below w.heap.size w w' := by
  obtain ⟨i0, hi, hz0, hz1, hz2⟩ := info_parts info3
  have HT := Lib.hid (table_ok w)
  have HZ := Lib.hid (fun j (hj : j < 256) => hM j (hl ▸ hj))
  have HD : Hid (∀ k : Nat, ∀ j, j ≤ 256 → -4611686018427387904 ≤ ds (fun n => zs.getD n 0) (cv 256 1 (k : Int)) j ∧ ds (fun n => zs.getD n 0) (cv 256 1 (k : Int)) j ≤ 4611686018427387904) := Lib.hid fun k j hj => ds_in (M := 268435455) (N := 256) (fun j => cos_bd _) (fun j hj => hM j (by omega)) hj (by decide) (by decide)
  have HV : Hid (∀ k : Nat, rnd (ds (fun n => zs.getD n 0) (cv 256 1 (k : Int)) 256) 26 = bk zs 256 1 26 k) := Lib.hid fun k => rfl
  have HR := Lib.hid h
  have HL := Lib.hid hl
  clear h hM hl
  go_enter Try.func60, Try.ntmps60
  go_wp2_with (go_at_call 71; ((with_reducible refine (HT.out).mono ?_); rintro e w1 ⟨vt, rfl, ho, hb⟩; have B1 := Lib.hid hb; obtain ⟨T, capT, rfl, hT'⟩ := ho.rd.open; have HO := Lib.hid hT'; clear hT' ho hb))
  rw [mk_len] at *
  have hnil := own_nil w1 w1.heap.size
  go_loopw [6, 7] (fun v i wr => ∃ k : Nat, k ≤ 512 ∧ i = .int .i64 k ∧ Own w1.heap.size wr v (mk k (bk zs 256 1 26)) ∧ Below w1.heap.size w1 wr) (fun _ i _ => 512 - (intOf i).toNat)
  case atStart => exact ⟨0, by omega, rfl, hnil, Below.refl _ _⟩
  case round =>
    obtain ⟨k, hk, rfl, hown, hbel⟩ := hrel
    clear hnil
    by_cases hlt : k < 512
    · have hlt2 : (k : Int) < 512 := by omega
      have hownh := Lib.hid hown
      have hbelh := Lib.hid hbel
      clear hown hbel
      go_wp2
      go_loopw [8, 9] (fun t i u => ∃ j : Nat, j ≤ 256 ∧ i = .int .i64 j ∧ t = .int .i64 (ds (fun n => zs.getD n 0) (cv 256 1 (k : Int)) j) ∧ Hid (Own w1.heap.size u u6 (mk k (bk zs 256 1 26))) ∧ Hid (Below w1.heap.size w1 u)) (fun _ i _ => 256 - (intOf i).toNat)
      case atStart => exact ⟨0, by omega, rfl, rfl, hownh, hbelh⟩
      case round =>
        obtain ⟨j, hj, rfl, rfl, hO, hB⟩ := hrel
        clear hownh hbelh
        by_cases hlt3 : j < 256
        · have hlt4 : (j : Int) < 256 := by omega
          obtain ⟨bz, oz, rfl, hlz, cz⟩ := (HR.out.below (B1.out.trans (hB.out.mono B1.out.size))) j (by rw [HL.out]; exact hlt3)
          obtain ⟨i, hi2, hic, HA⟩ := arc256 k j wr (by omega) (by omega)
          obtain ⟨bt, ot, rfl, hltt, ct⟩ := (HO.out.below hB.out) i (by rw [mk_len]; exact hi2)
          rw [mk_at hi2, hic] at ct
          have hcc : ∃ C, (cv 256 1 (k : Int)) j = C ∧ wr.cell? ⟨bt, ot + i, none⟩ = some (.int .i64 C) := ⟨_, rfl, ct⟩
          obtain ⟨C, hC, ct2⟩ := hcc
          have hcb : -67108864 ≤ C ∧ C ≤ 67108864 := by rw [← hC]; exact cos_bd _
          obtain ⟨x0, x1⟩ := HZ.out j hlt3
          have d0 := HD.out k j hj
          have d1 := HD.out k (j + 1) hlt3
          have hds : ds (fun n => zs.getD n 0) (cv 256 1 (k : Int)) (j + 1) = ds (fun n => zs.getD n 0) (cv 256 1 (k : Int)) j + zs.getD j 0 * C := by rw [← hC]; rfl
          rw [hds] at d1
          have HDS := Lib.hid hds
          have hpb := prod_bd (M := 268435455) x0 x1 hcb.1 hcb.2
          have hO1 := hO.out
          have hB1 := hB.out
          have HO1 := Lib.hid (fun n => hO1.below (drewN_belowL wr n))
          have HB1 := Lib.hid (fun n => hB1.trans ((drewN_belowL wr n).mono hB1.size))
          clear hds hic ct hC hO hB hO1 hB1 hcb
          generalize zs.getD j 0 = X at *
          generalize ds (fun n => zs.getD n 0) (cv 256 1 (k : Int)) j = S at *
          obtain ⟨p, hp⟩ : ∃ p, X * C = p := ⟨_, rfl⟩
          rw [hp] at hpb d1 HDS
          obtain ⟨p0, p1⟩ := hpb
          obtain ⟨d2, d3⟩ := d1
          obtain ⟨d4, d5⟩ := d0
          have z1 : IntKind.i64.wrap (X * C) = p := by rw [hp]; exact i64_in (by omega) (by omega)
          have z2 : IntKind.i64.wrap (S + p) = S + p := i64_in (by omega) (by omega)
          go_wp2
          go_quiet (exact Calls.quiet_of_same (HA _))
          go_wp2
          go_roundw
          case rel => exact ⟨j + 1, by omega, by go_num, by rw [HDS.out], HO1.out _, HB1.out _⟩
          case measure => simp [intOf]; omega
        · have hend : j = 256 := by omega
          subst hend
          have d0 := HD.out k 256 (Nat.le_refl _)
          have HDn := Lib.hid (fun w => down_in (ds (fun n => zs.getD n 0) (cv 256 1 (k : Int)) 256) 26 w d0.1 d0.2 (by decide) (by decide))
          have HS := Lib.hid (mk_succ k (bk zs 256 1 26))
          have hlen := mk_len k (bk zs 256 1 26)
          have hv := HV.out k
          have hown := Lib.hid hO.out
          have hbel := Lib.hid hB.out
          have hle : w1.heap.size ≤ wr.heap.size := hB.out.size
          clear hO hB hlt3 d0
          rw [← hv] at HS
          clear hv
          generalize rnd (ds (fun n => zs.getD n 0) (cv 256 1 (k : Int)) 256) 26 = V at *
          generalize ds (fun n => zs.getD n 0) (cv 256 1 (k : Int)) 256 = S at *
          go_wp2_with first
            | (go_at_call 63; ((with_reducible refine (HDn.out _).mono ?_); rintro e w4 ⟨rfl, rfl⟩))
            | (at_builtin; refine wpList_append_own _ rfl (.tmp 40) (.tmp 44) 22 rfl w1.heap.size 3 i0 (.int .i64 0) 1 8 Try.underlying22 hi hz0 hz1 hz2 rfl (by decide) _ _ _ rfl (World.ownsRow.alloc hown.out _) ⟨wr.heap.size, 0, none⟩ 1 1 [.int .i64 V] rfl rfl ?c1 ?c2 ?c3 ?c4 ?c5 ?_)
          first
          | case c1 =>
              intro j u hj
              match j, hj with
              | 0, hj => simp at hj; subst hj; simp [Addr.add]
          | skip
          case c2 => first | (intro u hu; simp at hu; subst hu; rfl) | rfl
          case c3 => first | (rw [hlen]; unfold maxLen; omega) | (unfold maxLen; omega)
          case c4 => first | omega | (simp; done) | (simp; omega)
          case c5 => first | omega | (simp; done) | (simp; omega)
          intro v2 w2 hown2 hgrow2 _
          have ho2 : Own w1.heap.size w2 v2 (mk (k + 1) (bk zs 256 1 26)) := by rw [HS.out]; exact own_push (by first | (rw [hlen]; exact hown2) | exact hown2)
          have hb2 : Below w1.heap.size w1 w2 := below_grown (hbel.out.alloc hle _) (hown.out.alloc _) (Nat.le_refl _) hgrow2
          go_wp2
          go_roundw
          case rel => exact ⟨k + 1, by omega, by go_num, ho2, hb2⟩
          case measure => simp [intOf]; omega
    · have hend : k = 512 := by omega
      subst hend
      have hb2 := B1.out.trans (hbel.mono B1.out.size)
      have ho2 := hown.rebase B1.out.size
      go_wp2
      go_ret
      exact ⟨_, rfl, ho2, hb2⟩
set_option maxRecDepth 100000 in
set_option maxHeartbeats 8000000 in
theorem back32 (A : Option Addr) (cap : Nat) (zs : List Int) (w : World) (hl : zs.length = 32) (h : RdA w A zs) (hM : InM 268435455 zs) :
    Calls Try.prog 60 #[.slice A 32 cap] w fun e w' => ∃ v, e = .returned v ∧ Own w.heap.size w' v (mk 64 (bk zs 32 8 23)) ∧ Below w.heap.size w w' := by
  obtain ⟨i0, hi, hz0, hz1, hz2⟩ := info_parts info3
  have HT := Lib.hid (table_ok w)
  have HZ := Lib.hid (fun j (hj : j < 32) => hM j (hl ▸ hj))
  have HD : Hid (∀ k : Nat, ∀ j, j ≤ 32 → -4611686018427387904 ≤ ds (fun n => zs.getD n 0) (cv 32 8 (k : Int)) j ∧ ds (fun n => zs.getD n 0) (cv 32 8 (k : Int)) j ≤ 4611686018427387904) := Lib.hid fun k j hj => ds_in (M := 268435455) (N := 32) (fun j => cos_bd _) (fun j hj => hM j (by omega)) hj (by decide) (by decide)
  have HV : Hid (∀ k : Nat, rnd (ds (fun n => zs.getD n 0) (cv 32 8 (k : Int)) 32) 23 = bk zs 32 8 23 k) := Lib.hid fun k => rfl
  have HR := Lib.hid h
  have HL := Lib.hid hl
  clear h hM hl
  go_enter Try.func60, Try.ntmps60
  go_wp2_with (go_at_call 71; ((with_reducible refine (HT.out).mono ?_); rintro e w1 ⟨vt, rfl, ho, hb⟩; have B1 := Lib.hid hb; obtain ⟨T, capT, rfl, hT'⟩ := ho.rd.open; have HO := Lib.hid hT'; clear hT' ho hb))
  rw [mk_len] at *
  have hnil := own_nil w1 w1.heap.size
  go_loopw [6, 7] (fun v i wr => ∃ k : Nat, k ≤ 64 ∧ i = .int .i64 k ∧ Own w1.heap.size wr v (mk k (bk zs 32 8 23)) ∧ Below w1.heap.size w1 wr) (fun _ i _ => 64 - (intOf i).toNat)
  case atStart => exact ⟨0, by omega, rfl, hnil, Below.refl _ _⟩
  case round =>
    obtain ⟨k, hk, rfl, hown, hbel⟩ := hrel
    clear hnil
    by_cases hlt : k < 64
    · have hlt2 : (k : Int) < 64 := by omega
      have hownh := Lib.hid hown
      have hbelh := Lib.hid hbel
      clear hown hbel
      go_wp2
      go_loopw [8, 9] (fun t i u => ∃ j : Nat, j ≤ 32 ∧ i = .int .i64 j ∧ t = .int .i64 (ds (fun n => zs.getD n 0) (cv 32 8 (k : Int)) j) ∧ Hid (Own w1.heap.size u u6 (mk k (bk zs 32 8 23))) ∧ Hid (Below w1.heap.size w1 u)) (fun _ i _ => 32 - (intOf i).toNat)
      case atStart => exact ⟨0, by omega, rfl, rfl, hownh, hbelh⟩
      case round =>
        obtain ⟨j, hj, rfl, rfl, hO, hB⟩ := hrel
        clear hownh hbelh
        by_cases hlt3 : j < 32
        · have hlt4 : (j : Int) < 32 := by omega
          obtain ⟨bz, oz, rfl, hlz, cz⟩ := (HR.out.below (B1.out.trans (hB.out.mono B1.out.size))) j (by rw [HL.out]; exact hlt3)
          obtain ⟨i, hi2, hic, HA⟩ := arc32 k j wr (by omega) (by omega)
          obtain ⟨bt, ot, rfl, hltt, ct⟩ := (HO.out.below hB.out) i (by rw [mk_len]; exact hi2)
          rw [mk_at hi2, hic] at ct
          have hcc : ∃ C, (cv 32 8 (k : Int)) j = C ∧ wr.cell? ⟨bt, ot + i, none⟩ = some (.int .i64 C) := ⟨_, rfl, ct⟩
          obtain ⟨C, hC, ct2⟩ := hcc
          have hcb : -67108864 ≤ C ∧ C ≤ 67108864 := by rw [← hC]; exact cos_bd _
          obtain ⟨x0, x1⟩ := HZ.out j hlt3
          have d0 := HD.out k j hj
          have d1 := HD.out k (j + 1) hlt3
          have hds : ds (fun n => zs.getD n 0) (cv 32 8 (k : Int)) (j + 1) = ds (fun n => zs.getD n 0) (cv 32 8 (k : Int)) j + zs.getD j 0 * C := by rw [← hC]; rfl
          rw [hds] at d1
          have HDS := Lib.hid hds
          have hpb := prod_bd (M := 268435455) x0 x1 hcb.1 hcb.2
          have hO1 := hO.out
          have hB1 := hB.out
          have HO1 := Lib.hid (fun n => hO1.below (drewN_belowL wr n))
          have HB1 := Lib.hid (fun n => hB1.trans ((drewN_belowL wr n).mono hB1.size))
          clear hds hic ct hC hO hB hO1 hB1 hcb
          generalize zs.getD j 0 = X at *
          generalize ds (fun n => zs.getD n 0) (cv 32 8 (k : Int)) j = S at *
          obtain ⟨p, hp⟩ : ∃ p, X * C = p := ⟨_, rfl⟩
          rw [hp] at hpb d1 HDS
          obtain ⟨p0, p1⟩ := hpb
          obtain ⟨d2, d3⟩ := d1
          obtain ⟨d4, d5⟩ := d0
          have z1 : IntKind.i64.wrap (X * C) = p := by rw [hp]; exact i64_in (by omega) (by omega)
          have z2 : IntKind.i64.wrap (S + p) = S + p := i64_in (by omega) (by omega)
          go_wp2
          go_quiet (exact Calls.quiet_of_same (HA _))
          go_wp2
          go_roundw
          case rel => exact ⟨j + 1, by omega, by go_num, by rw [HDS.out], HO1.out _, HB1.out _⟩
          case measure => simp [intOf]; omega
        · have hend : j = 32 := by omega
          subst hend
          have d0 := HD.out k 32 (Nat.le_refl _)
          have HDn := Lib.hid (fun w => down_in (ds (fun n => zs.getD n 0) (cv 32 8 (k : Int)) 32) 23 w d0.1 d0.2 (by decide) (by decide))
          have HS := Lib.hid (mk_succ k (bk zs 32 8 23))
          have hlen := mk_len k (bk zs 32 8 23)
          have hv := HV.out k
          have hown := Lib.hid hO.out
          have hbel := Lib.hid hB.out
          have hle : w1.heap.size ≤ wr.heap.size := hB.out.size
          clear hO hB hlt3 d0
          rw [← hv] at HS
          clear hv
          generalize rnd (ds (fun n => zs.getD n 0) (cv 32 8 (k : Int)) 32) 23 = V at *
          generalize ds (fun n => zs.getD n 0) (cv 32 8 (k : Int)) 32 = S at *
          go_wp2_with first
            | (go_at_call 63; ((with_reducible refine (HDn.out _).mono ?_); rintro e w4 ⟨rfl, rfl⟩))
            | (at_builtin; refine wpList_append_own _ rfl (.tmp 40) (.tmp 44) 22 rfl w1.heap.size 3 i0 (.int .i64 0) 1 8 Try.underlying22 hi hz0 hz1 hz2 rfl (by decide) _ _ _ rfl (World.ownsRow.alloc hown.out _) ⟨wr.heap.size, 0, none⟩ 1 1 [.int .i64 V] rfl rfl ?c1 ?c2 ?c3 ?c4 ?c5 ?_)
          first
          | case c1 =>
              intro j u hj
              match j, hj with
              | 0, hj => simp at hj; subst hj; simp [Addr.add]
          | skip
          case c2 => first | (intro u hu; simp at hu; subst hu; rfl) | rfl
          case c3 => first | (rw [hlen]; unfold maxLen; omega) | (unfold maxLen; omega)
          case c4 => first | omega | (simp; done) | (simp; omega)
          case c5 => first | omega | (simp; done) | (simp; omega)
          intro v2 w2 hown2 hgrow2 _
          have ho2 : Own w1.heap.size w2 v2 (mk (k + 1) (bk zs 32 8 23)) := by rw [HS.out]; exact own_push (by first | (rw [hlen]; exact hown2) | exact hown2)
          have hb2 : Below w1.heap.size w1 w2 := below_grown (hbel.out.alloc hle _) (hown.out.alloc _) (Nat.le_refl _) hgrow2
          go_wp2
          go_roundw
          case rel => exact ⟨k + 1, by omega, by go_num, ho2, hb2⟩
          case measure => simp [intOf]; omega
    · have hend : k = 64 := by omega
      subst hend
      have hb2 := B1.out.trans (hbel.mono B1.out.size)
      have ho2 := hown.rebase B1.out.size
      go_wp2
      go_ret
      exact ⟨_, rfl, ho2, hb2⟩
end Go.Proofs.Yteknakakefhbmaa.Md
