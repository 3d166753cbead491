/- What the document's own noise does. -/
import Derived.Test.YtanjcbnkkhbkkaaDoorLst
import Derived.WalkKit
import Derived.Below
import Derived.RegionTactic
import Derived.Deep.QuietTactic
import Derived.BigQuiet
import Derived.ChangeAlike
import Derived.Laws.AppendOwn
import Derived.Laws.AppendOwnNone
import Derived.Deep.OwnRows
import Derived.ProofKit
import Derived.OpenShut
import Derived.Lib.Hide
namespace Go.Proofs.YtanjcbnkkhbkkaaDoor.No
open Go Go.ChangeShapes Go.WideShapes Go.ChangeAt Go.RowKit Go.Proofs.YtanjcbnkkhbkkaaDoor.Fx Go.Proofs.YtanjcbnkkhbkkaaDoor.Nm

set_option maxRecDepth 100000 in
set_option maxHeartbeats 2000000 in
theorem rdraws_ok (s m : Nat) (w : World) (hs : s < 4294967296) (hm : m ≤ 256) :
    Calls Tryd.prog 70 #[.int .i64 s, .int .i64 m] w fun e w' => ∃ v, e = .returned v ∧ Own w.heap.size w' v (mk m (nv s)) ∧ Below w.heap.size w w' := by
  obtain ⟨i0, hi, hz0, hz1, hz2⟩ := info_parts info3
  have hnil := own_nil w w.heap.size
  go_enter Tryd.func70, Tryd.ntmps70
  go_wp2
  go_loopw [0, 5, 6] (fun x v i wr => ∃ k : Nat, k ≤ m ∧ x = .int .i64 (nseq s k) ∧ i = .int .i64 k ∧ Own w.heap.size wr v (mk k (nv s)) ∧ Below w.heap.size w wr) (fun _ _ i _ => m - (intOf i).toNat)
  case atStart => exact ⟨0, by omega, rfl, rfl, hnil, Below.refl _ _⟩
  case round =>
    obtain ⟨k, hk, rfl, rfl, hown, hbel⟩ := hrel
    have hle : w.heap.size ≤ wr.heap.size := hbel.size
    by_cases hlt : k < m
    · have hx := nseq_lt hs k
      have e := nx_eq (nseq s k)
      have hx2 := nx_lt (nseq s k)
      have hv := nv_bd s k
      have HS := Lib.hid (mk_succ k (nv s))
      have HN : Hid (((nx (nseq s k) : Nat) : Int) / 65536 - 32768 = nv s k) := Lib.hid (by unfold nv nval; simp only [nseq]; rw [Int.natCast_ediv]; rfl)
      have HX : Hid (nx (nseq s k) = nseq s (k + 1)) := Lib.hid rfl
      have hlen := mk_len k (nv s)
      generalize nx (nseq s k) = Y at *
      generalize nseq s k = X at *
      generalize nv s k = V at *
      go_wp2_with (at_builtin; refine wpList_append_own _ rfl (.tmp 16) (.tmp 20) 39 rfl w.heap.size 3 i0 (.int .i64 0) 1 8 Tryd.underlying39 hi hz0 hz1 hz2 rfl (by decide) _ _ _ rfl (World.ownsRow.alloc hown _) ⟨wr.heap.size, 0, none⟩ 1 1 [.int .i64 ((Y : Int) / 65536 - 32768)] rfl rfl ?c1 ?c2 ?c3 ?c4 ?c5 ?_)
      first
      | case c1 =>
          intro j u hj
          match j, hj with
          | 0, hj => simp at hj; subst hj; simp [Addr.add]
      | skip
      case c2 => first | (intro u hu; simp at hu; subst hu; rfl) | rfl
      case c3 => first | (rw [hlen]; unfold maxLen; omega) | (unfold maxLen; omega)
      case c4 => first | omega | (simp; done) | (simp; omega)
      case c5 => first | omega | (simp; done) | (simp; omega)
      intro v2 w2 hown2 hgrow2 _
      have ho2 : Own w.heap.size w2 v2 (mk (k + 1) (nv s)) := by rw [HS.out, ← HN.out]; exact own_push (by first | (rw [hlen]; exact hown2) | exact hown2)
      have hb2 : Below w.heap.size w w2 := below_grown (hbel.alloc hle _) (hown.alloc _) (Nat.le_refl _) hgrow2
      go_wp2
      go_roundw
      case rel => exact ⟨k + 1, by omega, by rw [HX.out], by go_num, ho2, hb2⟩
      case measure => simp [intOf]; omega
    · have hend : k = m := by omega
      subst hend
      go_wp2
      go_ret
      exact ⟨_, rfl, hown, hbel⟩

theorem rdown_ok (n d : Int) (w : World) (n0 : -4611686018427387904 ≤ n) (n1 : n ≤ 4611686018427387904) (d0 : 0 < d) (d1 : d ≤ 4294967296) :
    Calls Tryd.prog 72 #[.int .i64 n, .int .i64 d] w fun e w' => e = .returned (.int .i64 (n / d)) ∧ w = w' := by
  obtain ⟨q, hq⟩ : ∃ q, Int.tdiv n d = q := ⟨_, rfl⟩
  obtain ⟨p, hp⟩ : ∃ p, q * d = p := ⟨_, rfl⟩
  obtain ⟨k1, k2, k3, k4, k5, k6⟩ := floor_key n0 n1 d0 d1 hq hp
  by_cases hlt : n < p
  · have e := k1 hlt
    rw [e]
    clear k1 k2 e
    go_enter Tryd.func72, Tryd.ntmps72
    go_wp2
    go_ret
    exact ⟨rfl, rfl⟩
  · have e := k2 hlt
    rw [e]
    clear k1 k2 e
    go_enter Tryd.func72, Tryd.ntmps72
    go_wp2
    go_ret
    exact ⟨rfl, rfl⟩
theorem rshare {d a v : Int} (w : World) (h : -32768 ≤ v ∧ v ≤ 32767) (a0 : 0 ≤ a) (a1 : a ≤ 268435455) (d0 : 0 < d) (d1 : d ≤ 134217728) :
    Calls Tryd.prog 72 #[.int .i64 (512 * v * a + d), .int .i64 (2 * d)] w fun e w' => e = .returned (.int .i64 (nl d a v)) ∧ w = w' := by
  have b := vab h a0 a1
  have := rdown_ok (512 * v * a + d) (2 * d) w (by omega) (by omega) (by omega) (by omega)
  rwa [show (512 * v * a + d) / (2 * d) = nl d a v by unfold nl; rw [if_neg (by omega)]] at this
theorem rval {st : Int} (h : 0 ≤ st) (w : World) : Calls Tryd.prog 44 #[.int .i64 1, .int .i64 (min st 255)] w fun e w' => e = .returned (.int .i64 (na st)) ∧ w = w' :=
  value_ok 1 (min st 255) w (by omega) (by omega) (by omega) (by omega)
set_option maxRecDepth 100000 in
set_option maxHeartbeats 4000000 in
theorem rlines_lo (s m : Nat) (st : Int) (w : World) (hs : s < 4294967296) (hm : m ≤ 256) (st0 : 0 ≤ st) (st1 : st ≤ 511) (hst : st ≤ 255) :
    Calls Tryd.prog 52 #[.int .i64 s, .int .i64 st, .int .i64 m] w fun e w' => ∃ v, e = .returned v ∧ Own w.heap.size w' v (mk m (fun j => nl (nd s m) (na st) (nv s j))) ∧ Below w.heap.size w w' := by
  obtain ⟨i0, hi, hz0, hz1, hz2⟩ := info_parts info3
  obtain ⟨a0, a1⟩ := na_bd st0
  obtain ⟨d0, d1⟩ := nd_bd s m hm
  have HD := Lib.hid (rdraws_ok s m w hs hm)
  have HR : Hid (∀ r, IsSqrt (65536 * nS s m) r → r = nd s m) := Lib.hid fun r h => sqF_of h
  have HL := Lib.hid (fun w => rval (st := st) st0 w)
  rw [show min st 255 = st by omega] at HL
  generalize na st = a at *
  generalize nd s m = d at *
  go_enter Tryd.func52, Tryd.ntmps52
  go_wp2_with (go_at_call 70; ((with_reducible refine (HD.out).mono ?_); rintro e w1 ⟨v, rfl, ho, hb⟩; have B1 := Lib.hid hb; obtain ⟨A, cap, rfl, hA'⟩ := ho.rd.open; rw [mk_len] at *; have HA := Lib.hid hA'; clear hA' ho hb))
  go_loopw [8, 9] (fun t i wr => ∃ k : Nat, k ≤ m ∧ i = .int .i64 k ∧ t = .int .i64 (nS s k) ∧ Hid (Below w1.heap.size w1 wr)) (fun _ i _ => m - (intOf i).toNat)
  case atStart => exact ⟨0, by omega, rfl, rfl, Lib.hid (Below.refl _ _)⟩
  case round =>
    obtain ⟨k, hk, rfl, rfl, hB⟩ := hrel
    by_cases hlt : k < m
    · obtain ⟨b, off, rfl, hlb, c⟩ := (HA.out.below hB.out) k (by rw [mk_len]; exact hlt)
      rw [mk_at hlt] at c
      have hv := nv_bd s k
      have hsq := sq_bd hv
      have hsq0 := sq_nn (nv s k)
      have hS := nS_bd s k
      have hSe : nS s k + nv s k * nv s k = nS s (k + 1) := rfl
      have HSe := Lib.hid hSe
      clear hSe
      obtain ⟨hv0, hv1⟩ := hv
      obtain ⟨hS0, hS1⟩ := hS
      generalize nv s k = v at *
      generalize nS s k = S at *
      have hS2 : S ≤ 274877906944 := by omega
      clear hS1
      generalize hvv : v * v = p at *
      have z1 : IntKind.i64.wrap (v * v) = p := by rw [hvv]; exact i64_in (by omega) (by omega)
      have z2 : IntKind.i64.wrap (S + p) = S + p := i64_in (by omega) (by omega)
      go_wp2
      go_quiet (fail)
      go_wp2
      go_roundw
      case rel => exact ⟨k + 1, by omega, by go_num, by rw [HSe.out], Lib.hid (belowT hB.out (drewN_below _ _))⟩
      case measure => simp [intOf]; omega
    · have hend : k = m := by omega
      subst hend
      have hS := nS_bd s k
      have hS2 : nS s k ≤ 274877906944 := by omega
      have hS0 := hS.1
      clear hS hlt
      generalize nS s k = S at *
      have hnil := own_nil wr w1.heap.size
      go_wp2_with (first | (go_at_call 71; ((with_reducible refine (rroot (65536 * S) _ (by omega) (by omega)).mono ?_); rintro e w3 ⟨r, hr, rfl, rfl⟩; obtain rfl := HR.out r hr; clear hr)) | (go_at_call 44; ((with_reducible refine (HL.out _).mono ?_); rintro e w3 ⟨rfl, rfl⟩)))
      go_loopw [12, 13] (fun v i wr => ∃ j : Nat, j ≤ k ∧ i = .int .i64 j ∧ Own w1.heap.size wr v (mk j (fun j => nl r a (nv s j))) ∧ Below w1.heap.size w1 wr) (fun _ i _ => k - (intOf i).toNat)
      case atStart => exact ⟨0, by omega, rfl, hnil, hB.out⟩
      case round =>
        obtain ⟨j, hj, rfl, hown, hbel⟩ := hrel
        by_cases hlt : j < k
        · obtain ⟨b, off, rfl, hlb, c⟩ := (HA.out.below hbel) j (by rw [mk_len]; exact hlt)
          rw [mk_at hlt] at c
          have hv := nv_bd s j
          have HV := Lib.hid (fun h w => rshare (d := r) (a := a) (v := nv s j) w hv a0 a1 h d1)
          have hva := vab hv a0 a1
          have hle : w1.heap.size ≤ wr.heap.size := hbel.size
          have HS := Lib.hid (mk_succ j (fun j => nl r a (nv s j)))
          have hlen := mk_len j (fun j => nl r a (nv s j))
          have HZ : Hid (r = 0 → nl r a (nv s j) = 0) := Lib.hid fun h => by unfold nl; rw [if_pos h]
          obtain ⟨hv0, hv1⟩ := hv
          obtain ⟨va0, va1⟩ := hva
          generalize nl r a (nv s j) = X at *
          generalize nv s j = v at *
          by_cases hr0 : 0 < r
          · have HV' := Lib.hid (HV.out hr0)
            clear HV HZ
            go_wp2_with (first
              | (go_at_call 72; ((with_reducible refine (HV'.out _).mono ?_); rintro e w4 ⟨rfl, rfl⟩))
              | (at_builtin; refine wpList_append_own _ rfl (.tmp 59) (.tmp 61) 39 rfl w1.heap.size 3 i0 (.int .i64 0) 1 8 Tryd.underlying39 hi hz0 hz1 hz2 rfl (by decide) _ _ _ rfl (World.ownsRow.alloc hown _) ⟨wr.heap.size, 0, none⟩ 1 1 [.int .i64 X] rfl rfl ?c1 ?c2 ?c3 ?c4 ?c5 ?_))
            first
            | case c1 =>
                intro j u hj
                match j, hj with
                | 0, hj => simp at hj; subst hj; simp [Addr.add]
            | skip
            case c2 => first | (intro u hu; simp at hu; subst hu; rfl) | rfl
            case c3 => first | (rw [hlen]; unfold maxLen; omega) | (unfold maxLen; omega)
            case c4 => first | omega | (simp; done) | (simp; omega)
            case c5 => first | omega | (simp; done) | (simp; omega)
            intro v2 w2 hown2 hgrow2 _
            have ho2 : Own w1.heap.size w2 v2 (mk (j + 1) (fun j => nl r a (nv s j))) := by rw [HS.out]; exact own_push (by first | (rw [hlen]; exact hown2) | exact hown2)
            have hb2 : Below w1.heap.size w1 w2 := below_grown (hbel.alloc hle _) (hown.alloc _) (Nat.le_refl _) hgrow2
            go_wp2
            go_roundw
            case rel => exact ⟨j + 1, by omega, by go_num, ho2, hb2⟩
            case measure => simp [intOf]; omega
          · have hX := HZ.out (by omega)
            subst hX
            clear HV HZ
            go_wp2_with (at_builtin; refine wpList_append_own _ rfl (.tmp 59) (.tmp 61) 39 rfl w1.heap.size 3 i0 (.int .i64 0) 1 8 Tryd.underlying39 hi hz0 hz1 hz2 rfl (by decide) _ _ _ rfl (World.ownsRow.alloc hown _) ⟨wr.heap.size, 0, none⟩ 1 1 [.int .i64 0] rfl rfl ?c1 ?c2 ?c3 ?c4 ?c5 ?_)
            first
            | case c1 =>
                intro j u hj
                match j, hj with
                | 0, hj => simp at hj; subst hj; simp [Addr.add]
            | skip
            case c2 => first | (intro u hu; simp at hu; subst hu; rfl) | rfl
            case c3 => first | (rw [hlen]; unfold maxLen; omega) | (unfold maxLen; omega)
            case c4 => first | omega | (simp; done) | (simp; omega)
            case c5 => first | omega | (simp; done) | (simp; omega)
            intro v2 w2 hown2 hgrow2 _
            have ho2 : Own w1.heap.size w2 v2 (mk (j + 1) (fun j => nl r a (nv s j))) := by rw [HS.out]; exact own_push (by first | (rw [hlen]; exact hown2) | exact hown2)
            have hb2 : Below w1.heap.size w1 w2 := below_grown (hbel.alloc hle _) (hown.alloc _) (Nat.le_refl _) hgrow2
            go_wp2
            go_roundw
            case rel => exact ⟨j + 1, by omega, by go_num, ho2, hb2⟩
            case measure => simp [intOf]; omega
        · have hend : j = k := by omega
          subst hend
          go_wp2
          go_ret
          exact ⟨_, rfl, hown.rebase B1.out.size, B1.out.trans (hbel.mono B1.out.size)⟩
set_option maxRecDepth 100000 in
set_option maxHeartbeats 4000000 in
theorem rlines_hi (s m : Nat) (st : Int) (w : World) (hs : s < 4294967296) (hm : m ≤ 256) (st0 : 0 ≤ st) (st1 : st ≤ 511) (hst : 255 < st) :
    Calls Tryd.prog 52 #[.int .i64 s, .int .i64 st, .int .i64 m] w fun e w' => ∃ v, e = .returned v ∧ Own w.heap.size w' v (mk m (fun j => nl (nd s m) (na st) (nv s j))) ∧ Below w.heap.size w w' := by
  obtain ⟨i0, hi, hz0, hz1, hz2⟩ := info_parts info3
  obtain ⟨a0, a1⟩ := na_bd st0
  obtain ⟨d0, d1⟩ := nd_bd s m hm
  have HD := Lib.hid (rdraws_ok s m w hs hm)
  have HR : Hid (∀ r, IsSqrt (65536 * nS s m) r → r = nd s m) := Lib.hid fun r h => sqF_of h
  have HL := Lib.hid (fun w => rval (st := st) st0 w)
  rw [show min st 255 = 255 by omega] at HL
  generalize na st = a at *
  generalize nd s m = d at *
  go_enter Tryd.func52, Tryd.ntmps52
  go_wp2_with (go_at_call 70; ((with_reducible refine (HD.out).mono ?_); rintro e w1 ⟨v, rfl, ho, hb⟩; have B1 := Lib.hid hb; obtain ⟨A, cap, rfl, hA'⟩ := ho.rd.open; rw [mk_len] at *; have HA := Lib.hid hA'; clear hA' ho hb))
  go_loopw [8, 9] (fun t i wr => ∃ k : Nat, k ≤ m ∧ i = .int .i64 k ∧ t = .int .i64 (nS s k) ∧ Hid (Below w1.heap.size w1 wr)) (fun _ i _ => m - (intOf i).toNat)
  case atStart => exact ⟨0, by omega, rfl, rfl, Lib.hid (Below.refl _ _)⟩
  case round =>
    obtain ⟨k, hk, rfl, rfl, hB⟩ := hrel
    by_cases hlt : k < m
    · obtain ⟨b, off, rfl, hlb, c⟩ := (HA.out.below hB.out) k (by rw [mk_len]; exact hlt)
      rw [mk_at hlt] at c
      have hv := nv_bd s k
      have hsq := sq_bd hv
      have hsq0 := sq_nn (nv s k)
      have hS := nS_bd s k
      have hSe : nS s k + nv s k * nv s k = nS s (k + 1) := rfl
      have HSe := Lib.hid hSe
      clear hSe
      obtain ⟨hv0, hv1⟩ := hv
      obtain ⟨hS0, hS1⟩ := hS
      generalize nv s k = v at *
      generalize nS s k = S at *
      have hS2 : S ≤ 274877906944 := by omega
      clear hS1
      generalize hvv : v * v = p at *
      have z1 : IntKind.i64.wrap (v * v) = p := by rw [hvv]; exact i64_in (by omega) (by omega)
      have z2 : IntKind.i64.wrap (S + p) = S + p := i64_in (by omega) (by omega)
      go_wp2
      go_quiet (fail)
      go_wp2
      go_roundw
      case rel => exact ⟨k + 1, by omega, by go_num, by rw [HSe.out], Lib.hid (belowT hB.out (drewN_below _ _))⟩
      case measure => simp [intOf]; omega
    · have hend : k = m := by omega
      subst hend
      have hS := nS_bd s k
      have hS2 : nS s k ≤ 274877906944 := by omega
      have hS0 := hS.1
      clear hS hlt
      generalize nS s k = S at *
      have hnil := own_nil wr w1.heap.size
      go_wp2_with (first | (go_at_call 71; ((with_reducible refine (rroot (65536 * S) _ (by omega) (by omega)).mono ?_); rintro e w3 ⟨r, hr, rfl, rfl⟩; obtain rfl := HR.out r hr; clear hr)) | (go_at_call 44; ((with_reducible refine (HL.out _).mono ?_); rintro e w3 ⟨rfl, rfl⟩)))
      go_loopw [12, 13] (fun v i wr => ∃ j : Nat, j ≤ k ∧ i = .int .i64 j ∧ Own w1.heap.size wr v (mk j (fun j => nl r a (nv s j))) ∧ Below w1.heap.size w1 wr) (fun _ i _ => k - (intOf i).toNat)
      case atStart => exact ⟨0, by omega, rfl, hnil, hB.out⟩
      case round =>
        obtain ⟨j, hj, rfl, hown, hbel⟩ := hrel
        by_cases hlt : j < k
        · obtain ⟨b, off, rfl, hlb, c⟩ := (HA.out.below hbel) j (by rw [mk_len]; exact hlt)
          rw [mk_at hlt] at c
          have hv := nv_bd s j
          have HV := Lib.hid (fun h w => rshare (d := r) (a := a) (v := nv s j) w hv a0 a1 h d1)
          have hva := vab hv a0 a1
          have hle : w1.heap.size ≤ wr.heap.size := hbel.size
          have HS := Lib.hid (mk_succ j (fun j => nl r a (nv s j)))
          have hlen := mk_len j (fun j => nl r a (nv s j))
          have HZ : Hid (r = 0 → nl r a (nv s j) = 0) := Lib.hid fun h => by unfold nl; rw [if_pos h]
          obtain ⟨hv0, hv1⟩ := hv
          obtain ⟨va0, va1⟩ := hva
          generalize nl r a (nv s j) = X at *
          generalize nv s j = v at *
          by_cases hr0 : 0 < r
          · have HV' := Lib.hid (HV.out hr0)
            clear HV HZ
            go_wp2_with (first
              | (go_at_call 72; ((with_reducible refine (HV'.out _).mono ?_); rintro e w4 ⟨rfl, rfl⟩))
              | (at_builtin; refine wpList_append_own _ rfl (.tmp 59) (.tmp 61) 39 rfl w1.heap.size 3 i0 (.int .i64 0) 1 8 Tryd.underlying39 hi hz0 hz1 hz2 rfl (by decide) _ _ _ rfl (World.ownsRow.alloc hown _) ⟨wr.heap.size, 0, none⟩ 1 1 [.int .i64 X] rfl rfl ?c1 ?c2 ?c3 ?c4 ?c5 ?_))
            first
            | case c1 =>
                intro j u hj
                match j, hj with
                | 0, hj => simp at hj; subst hj; simp [Addr.add]
            | skip
            case c2 => first | (intro u hu; simp at hu; subst hu; rfl) | rfl
            case c3 => first | (rw [hlen]; unfold maxLen; omega) | (unfold maxLen; omega)
            case c4 => first | omega | (simp; done) | (simp; omega)
            case c5 => first | omega | (simp; done) | (simp; omega)
            intro v2 w2 hown2 hgrow2 _
            have ho2 : Own w1.heap.size w2 v2 (mk (j + 1) (fun j => nl r a (nv s j))) := by rw [HS.out]; exact own_push (by first | (rw [hlen]; exact hown2) | exact hown2)
            have hb2 : Below w1.heap.size w1 w2 := below_grown (hbel.alloc hle _) (hown.alloc _) (Nat.le_refl _) hgrow2
            go_wp2
            go_roundw
            case rel => exact ⟨j + 1, by omega, by go_num, ho2, hb2⟩
            case measure => simp [intOf]; omega
          · have hX := HZ.out (by omega)
            subst hX
            clear HV HZ
            go_wp2_with (at_builtin; refine wpList_append_own _ rfl (.tmp 59) (.tmp 61) 39 rfl w1.heap.size 3 i0 (.int .i64 0) 1 8 Tryd.underlying39 hi hz0 hz1 hz2 rfl (by decide) _ _ _ rfl (World.ownsRow.alloc hown _) ⟨wr.heap.size, 0, none⟩ 1 1 [.int .i64 0] rfl rfl ?c1 ?c2 ?c3 ?c4 ?c5 ?_)
            first
            | case c1 =>
                intro j u hj
                match j, hj with
                | 0, hj => simp at hj; subst hj; simp [Addr.add]
            | skip
            case c2 => first | (intro u hu; simp at hu; subst hu; rfl) | rfl
            case c3 => first | (rw [hlen]; unfold maxLen; omega) | (unfold maxLen; omega)
            case c4 => first | omega | (simp; done) | (simp; omega)
            case c5 => first | omega | (simp; done) | (simp; omega)
            intro v2 w2 hown2 hgrow2 _
            have ho2 : Own w1.heap.size w2 v2 (mk (j + 1) (fun j => nl r a (nv s j))) := by rw [HS.out]; exact own_push (by first | (rw [hlen]; exact hown2) | exact hown2)
            have hb2 : Below w1.heap.size w1 w2 := below_grown (hbel.alloc hle _) (hown.alloc _) (Nat.le_refl _) hgrow2
            go_wp2
            go_roundw
            case rel => exact ⟨j + 1, by omega, by go_num, ho2, hb2⟩
            case measure => simp [intOf]; omega
        · have hend : j = k := by omega
          subst hend
          go_wp2
          go_ret
          exact ⟨_, rfl, hown.rebase B1.out.size, B1.out.trans (hbel.mono B1.out.size)⟩
theorem rlines_ok (s m : Nat) (st : Int) (w : World) (hs : s < 4294967296) (hm : m ≤ 256) (st0 : 0 ≤ st) (st1 : st ≤ 511) :
    Calls Tryd.prog 52 #[.int .i64 s, .int .i64 st, .int .i64 m] w fun e w' => ∃ v, e = .returned v ∧ Own w.heap.size w' v (mk m (fun j => nl (nd s m) (na st) (nv s j))) ∧ Below w.heap.size w w' := by
  by_cases h : st ≤ 255
  · exact rlines_lo s m st w hs hm st0 st1 h
  · exact rlines_hi s m st w hs hm st0 st1 (by omega)
end Go.Proofs.YtanjcbnkkhbkkaaDoor.No
