/- Entries of values, and sums of sizes. -/
import Derived.Test.YteklahfgplbmcaaDoorBkGet
import Derived.WalkKit
import Derived.Below
import Derived.RegionTactic
import Derived.Deep.QuietTactic
import Derived.BigQuiet
import Derived.ChangeAlike
import Derived.Deep.OwnRows
import Derived.Deep.RegionHeld3
import Derived.ProofKit
import Derived.OpenShut
import Derived.Laws.EntriesVeiled
import Derived.Lib.Hide
namespace Go.Proofs.YteklahfgplbmcaaDoor.Bk
open Go Go.ChangeShapes Go.WideShapes Go.ChangeAt Go.RowKit Go.Proofs.YteklahfgplbmcaaDoor.Bi Go.Proofs.YteklahfgplbmcaaDoor.Cr Go.Proofs.YteklahfgplbmcaaDoor.Fx

theorem sz_snoc (a : List Int) (x : Int) : sz (a ++ [x]) = sz a + x.natAbs := by unfold sz; simp
theorem take_snoc' {zs : List Int} {k : Nat} (h : k < zs.length) : zs.take (k + 1) = zs.take k ++ [zs.getD k 0] := by
  rw [List.take_add_one, List.getElem?_eq_getElem h]; simp [h]
set_option maxRecDepth 100000 in
set_option maxHeartbeats 4000000 in
theorem lsize_ok (v : Value) (zs : List Int) (w : World) (hl : zs.length ≤ 10) (hb : ∀ z ∈ zs, -1000 ≤ z ∧ z ≤ 1000) (h : Rd w v zs) :
    Calls Tryd.prog 29 #[v] w fun e w' => e = .returned (.int .i64 (sz zs : Nat)) ∧ Below w.heap.size w w' := by
  obtain ⟨A, cap, rfl, hA⟩ := h.open
  have hsb : ∀ k, k ≤ zs.length → sz (zs.take k) ≤ k * 1000 := by
    intro k
    induction k with
    | zero => intro _; simp [sz]
    | succ k ih =>
      intro hk
      rw [take_snoc' (by omega), sz_snoc]
      have := ih (by omega)
      have hm := hb (zs.getD k 0) (by rw [List.getD_eq_getElem?_getD, List.getElem?_eq_getElem (by omega)]; exact List.getElem_mem _)
      omega
  have HA := Lib.hid hA
  have HSb := Lib.hid hsb
  have HBd := Lib.hid hb
  obtain ⟨n, hn⟩ : ∃ n, zs.length = n := ⟨_, rfl⟩
  have HN := Lib.hid hn
  rw [hn] at hl ⊢
  clear hA hsb hb hn h
  go_enter Tryd.func29, Tryd.ntmps29
  go_wp2
  go_loopw [3, 4] (fun a i wr => ∃ k : Nat, k ≤ n ∧ i = .int .i64 k ∧ a = .int .i64 ((sz (zs.take k) : Nat) : Int) ∧ Below w.heap.size w wr) (fun _ i _ => n - (intOf i).toNat)
  case atStart => exact ⟨0, by omega, rfl, by simp [sz], Below.refl _ _⟩
  case round =>
    obtain ⟨k, hk, rfl, rfl, hbel⟩ := hrel
    by_cases hlt : k < n
    · obtain ⟨b, off, rfl, hb, q1'⟩ := HA.out k (by rw [HN.out]; exact hlt)
      have q1 := (hbel.cell (p := ⟨b, off + k, none⟩) hb).trans q1'
      have hz := HBd.out (zs.getD k 0) (by rw [List.getD_eq_getElem?_getD, List.getElem?_eq_getElem (by rw [HN.out]; exact hlt)]; exact List.getElem_mem _)
      have hs := HSb.out k (by rw [HN.out]; exact hk)
      have hst := take_snoc' (zs := zs) (k := k) (by rw [HN.out]; exact hlt)
      have hsn := congrArg sz hst
      rw [sz_snoc] at hsn
      clear q1' hst
      generalize zs.getD k 0 = z at *
      obtain ⟨y, hy⟩ : ∃ y, sz (zs.take k) = y := ⟨_, rfl⟩
      rw [hy] at hs hsn ⊢
      clear hy
      obtain ⟨z0, z1⟩ := hz
      have hy1 : y ≤ 10000 := by omega
      have hw1 : IntKind.i64.wrap (-z) = -z := by rw [IntKind.wrap_i64]; omega
      have hw2 : IntKind.i64.wrap ((y : Int) + max z (-z)) = ((sz (zs.take (k + 1)) : Nat) : Int) := by rw [IntKind.wrap_i64]; omega
      have HW2 := Lib.hid hw2
      clear hsn hs
      go_wp2
      go_quiet (fail)
      go_wp2
      go_roundw
      case rel => exact ⟨k + 1, by omega, by go_num, rfl, hbel.trans ((drewN_belowL wr nq).mono hbel.size)⟩
      case measure => simp [intOf]; omega
    · have hend : k = n := by omega
      subst hend
      have ht : zs.take k = zs := List.take_of_length_le (by rw [HN.out]; omega)
      rw [ht]
      clear ht
      go_wp2
      go_ret
      exact ⟨rfl, hbel⟩

theorem bases' {id : Nat} (h1 : 1 ≤ id) (h2 : id ≤ 12) (w : World) : Calls Tryd.prog 55 #[.agg #[.int .i64 (dm id), .int .i64 (lw id), .int .i64 (hg id), .int .i64 (pl id)]] w fun e w' => e = .returned (.int .i64 (bs id)) ∧ Bel w w' := by
  obtain ⟨f1, f2, f3, f4, f5, f6, f7, f8, f9, f10, f11, f12, f13, f14⟩ := facts h1 h2
  have := base_ok (dm id) (lw id) (hg id) (pl id) w f9 f10 f11 f12
  rw [← f3] at this
  exact this.mono fun _ _ h => ⟨h.1, ⟨h.2⟩⟩
/-- The entry of some values, or the error. -/
def inR (id : Nat) (v : Int) : Bool := decide (lw id ≤ v) && decide (v ≤ hg id)
def entI (id : Nat) (zs : List Int) : Int := if zs.length = dm id ∧ zs.all (inR id) = true then ent (bs id) (lw id) zs else 0
def entX (id : Nat) (zs : List Int) : Int := if zs.length = dm id then (if zs.all (inR id) = true then 0 else 2) else 4
theorem ent_take {id : Nat} (h1 : 1 ≤ id) (h2 : id ≤ 12) {zs : List Int} (hl : zs.length ≤ dm id) (h : zs.all (inR id) = true) : ∃ n : Nat, ent (bs id) (lw id) zs = n ∧ n < bs id ^ zs.length ∧ vals (bs id) (lw id) zs.length n = zs := by
  obtain ⟨f1, f2, f3, f4, f5, f6, f7, f8, f9, f10, f11, f12, f13, f14⟩ := facts h1 h2
  refine vals_ent (bs id) (lw id) f2 zs.length zs rfl fun v hv => ?_
  have := List.all_eq_true.1 h v hv
  unfold inR at this
  simp at this
  omega
theorem entry_bad (I : Int) (v : Value) (w : World) (h : I < 1 ∨ 12 < I) : Calls Tryd.prog 22 #[.int .i64 I, v] w fun e w' => e = .returned (.tuple #[.int .i64 0, .int .i64 2]) ∧ Below w.heap.size w w' := by
  by_cases h1 : I < 1
  · clear h
    go_enter Tryd.func22, Tryd.ntmps22
    go_wp2
    go_ret2
    exact ⟨rfl, Below.refl _ _⟩
  · have h2 : 12 < I := by omega
    clear h
    go_enter Tryd.func22, Tryd.ntmps22
    go_wp2
    go_ret2
    exact ⟨rfl, Below.refl _ _⟩
set_option maxRecDepth 100000 in
set_option maxHeartbeats 8000000 in
theorem entry_ok (id : Nat) (v : Value) (zs : List Int) (w : World) (h1 : 1 ≤ id) (h2 : id ≤ 12) (hs : Sh w) (hl : zs.length ≤ maxLen) (hb : ∀ z ∈ zs, -9223372036854775808 ≤ z ∧ z ≤ 9223372036854775807) (h : Rd w v zs) :
    Calls Tryd.prog 22 #[.int .i64 id, v] w fun e w' => e = .returned (.tuple #[.int .i64 (entI id zs), .int .i64 (entX id zs)]) ∧ Below w.heap.size w w' := by
  obtain ⟨A, cap, rfl, hA⟩ := h.open
  obtain ⟨k, rfl⟩ : ∃ k, id = k + 1 := ⟨id - 1, by omega⟩
  obtain ⟨s0, s1⟩ := hs
  obtain ⟨g0, g1, g2, g3⟩ := s1 k (by omega)
  obtain ⟨f1, f2, f3, f4, f5, f6, f7, f8, f9, f10, f11, f12, f13, f14⟩ := facts h1 h2
  have HBs := Lib.hid (fun w => bases' h1 h2 w)
  have HPw := Lib.hid (pow_le h1 h2)
  have h12 := Lib.hid (show 1 ≤ k + 1 ∧ k + 1 ≤ 12 from ⟨h1, h2⟩)
  have hk11 : k ≤ 11 := by omega
  unfold maxLen at hl
  have hlu : -60 ≤ lw (k + 1) ∧ lw (k + 1) ≤ 0 ∧ 0 ≤ hg (k + 1) ∧ hg (k + 1) ≤ 60 := ⟨f9, f10, f11, f12⟩
  obtain ⟨l1, l2, l3, l4⟩ := hlu
  clear s1 f1 f2 f3 f6 f7 f8 f9 f10 f11 f12 f13 f14 f4
  by_cases hd : zs.length = dm (k + 1)
  · have HA := Lib.hid hA
    have HBd := Lib.hid hb
    have hX0 := bx4_new w (dm (k + 1)) (lw (k + 1)) (hg (k + 1)) (pl (k + 1))
    have HX := Lib.hid hX0
    obtain ⟨q0, q1, q2, q3, q4⟩ := hX0
    have hb0 := Lib.hid ((Below.refl w.heap.size w).alloc (Nat.le_refl _) (.cells #[.int .i64 (dm (k + 1)), .int .i64 (lw (k + 1)), .int .i64 (hg (k + 1)), .int .i64 (pl (k + 1))] 82))
    have hEI : Hid (zs.all (inR (k + 1)) = true → entI (k + 1) zs = ent (bs (k + 1)) (lw (k + 1)) zs ∧ entX (k + 1) zs = 0) := Lib.hid fun h => by unfold entI entX; rw [if_pos ⟨hd, h⟩, if_pos hd, if_pos h]; exact ⟨rfl, rfl⟩
    have hEO : Hid (∀ j, j < zs.length → (zs.getD j 0 < lw (k + 1) ∨ hg (k + 1) < zs.getD j 0) → entI (k + 1) zs = 0 ∧ entX (k + 1) zs = 2) := Lib.hid fun j hj h => by
      have hn : ¬ zs.all (inR (k + 1)) = true := fun ha => by
        have := List.all_eq_true.1 ha (zs.getD j 0) (by rw [List.getD_eq_getElem?_getD, List.getElem?_eq_getElem hj]; exact List.getElem_mem _)
        unfold inR at this
        simp at this
        simp only [List.getD_eq_getElem?_getD] at h
        omega
      unfold entI entX; rw [if_neg (fun h => hn h.2), if_pos hd, if_neg hn]; exact ⟨rfl, rfl⟩
    have HD := Lib.hid hd
    generalize hdd : dm (k + 1) = d at *
    have HDD := Lib.hid hdd
    have hd4 := f5
    generalize hlw : lw (k + 1) = L at *
    generalize hhg : hg (k + 1) = H at *
    have HLH := Lib.hid (show lw (k + 1) = L ∧ hg (k + 1) = H from ⟨hlw, hhg⟩)
    rw [hd]
    clear hA hb hd hdd hlw hhg f5 h h1 h2
    go_enter Tryd.func22, Tryd.ntmps22
    go_wp2
    go_loopw [7, 27] (fun a i wr => ∃ (r : Nat) (x : Int), r ≤ d ∧ i = .int .i64 r ∧ a = .int .i64 x ∧ Hid (x = ent (bs (k + 1)) L (zs.take r)) ∧ Hid ((zs.take r).all (inR (k + 1)) = true) ∧ Hid (Bx4 wr w.heap.size d L H (pl (k + 1))) ∧ Hid (Below w.heap.size w wr)) (fun _ i _ => d - (intOf i).toNat)
    case atStart => exact ⟨0, 0, by omega, rfl, rfl, Lib.hid (by simp [ent]), Lib.hid (by simp), HX, hb0⟩
    case round =>
      obtain ⟨r, x, hr, rfl, rfl, hx, hall, hX, hbel⟩ := hrel
      clear q0 q1 q2 q3 q4
      obtain ⟨q0, q1, q2, q3, q4⟩ := hX.out
      by_cases hlt : r < d
      · obtain ⟨b, off, rfl, hb, c1'⟩ := HA.out r (by rw [HD.out]; exact hlt)
        have c1 := (hbel.out.cell (p := ⟨b, off + r, none⟩) hb).trans c1'
        clear c1'
        have hO := Lib.hid (hEO.out r (by rw [HD.out]; exact hlt))
        have hst := Lib.hid (take_snoc' (zs := zs) (k := r) (by rw [HD.out]; exact hlt))
        obtain ⟨z, hz⟩ : ∃ z, zs.getD r 0 = z := ⟨_, rfl⟩
        rw [hz] at c1 hO hst
        by_cases hz1 : z < L
        · have he := Lib.hid (hO.out (.inl hz1))
          have hb2 := Lib.hid hbel.out
          clear hO hst hz hx hbel
          go_wp2
          go_ret2
          exact ⟨by rw [he.out.1, he.out.2]; rfl, hb2.out⟩
        by_cases hz2 : H < z
        · have he := Lib.hid (hO.out (.inr hz2))
          have hb2 := Lib.hid hbel.out
          clear hO hst hz hx hbel
          go_wp2
          go_ret2
          exact ⟨by rw [he.out.1, he.out.2]; rfl, hb2.out⟩
        · have hall2 : Hid ((zs.take (r + 1)).all (inR (k + 1)) = true) := Lib.hid (by
            rw [hst.out, List.all_append, hall.out]
            have : inR (k + 1) z = true := by unfold inR; rw [HLH.out.1, HLH.out.2]; simp; omega
            simp [this])
          have hx2 : Hid (x * (bs (k + 1) : Nat) + z - L = ent (bs (k + 1)) L (zs.take (r + 1))) := Lib.hid (by rw [hst.out, ent_snoc, hx.out])
          obtain ⟨y, hy1, hy2, _⟩ := ent_take h12.out.1 h12.out.2 (zs := zs.take r) (by rw [HDD.out, List.length_take]; omega) hall.out
          have hxy : x = (y : Int) := by rw [hx.out, ← HLH.out.1]; exact hy1
          have hy3 : y ≤ 289 := by
            have h1 := HPw.out (zs.take r).length (by rw [List.length_take]; omega)
            omega
          have hbI : ((bs (k + 1) : Nat) : Int) ≤ 121 := by have := (facts h12.out.1 h12.out.2).2.2.2.2.2.2.2.2.2.2.2.2.1; omega
          have hbI0 : (0 : Int) ≤ ((bs (k + 1) : Nat) : Int) := Int.natCast_nonneg _
          have hprod : 0 ≤ x * ((bs (k + 1) : Nat) : Int) ∧ x * ((bs (k + 1) : Nat) : Int) ≤ 40000 := by
            rw [hxy]
            have h1 : (y : Int) * ((bs (k + 1) : Nat) : Int) ≤ 289 * 121 := Int.mul_le_mul (by omega) hbI hbI0 (by decide)
            have h0 := Int.mul_nonneg (Int.natCast_nonneg y) hbI0
            omega
          have hXd := Lib.hid (hX.out.below (Below.refl _ wr).drew)
          have hbd := Lib.hid (hbel.out.trans ((Below.refl _ wr).drew))
          obtain ⟨P, hP⟩ : ∃ P, x * ((bs (k + 1) : Nat) : Int) = P := ⟨_, rfl⟩
          obtain ⟨p0, p1⟩ := hprod
          rw [hP] at p0 p1 hx2
          have hw0 : IntKind.i64.wrap (x * ((bs (k + 1) : Nat) : Int)) = P := by rw [hP, IntKind.wrap_i64]; omega
          have hw1 : IntKind.i64.wrap (P + z) = P + z := by rw [IntKind.wrap_i64]; omega
          have hw2 : IntKind.i64.wrap (P + z - L) = P + z - L := by rw [IntKind.wrap_i64]; omega
          clear hP hO hz hst hx hxy hy1 hy2 hX hall
          go_upto_region 12 with fail
          go_region_held3 (fun w' => w'.cell? ⟨w.heap.size, 0, none⟩ = some (.int .i64 d) ∧ w'.cell? ⟨w.heap.size, 1, none⟩ = some (.int .i64 L) ∧ w'.cell? ⟨w.heap.size, 2, none⟩ = some (.int .i64 H) ∧ w'.cell? ⟨w.heap.size, 3, none⟩ = some (.int .i64 (pl (k + 1))))
            (first
              | with_reducible exact ⟨hXd.out.1, hXd.out.2.1, hXd.out.2.2.1, hXd.out.2.2.2.1⟩
              | with_reducible exact ⟨hX5.out.1, hX5.out.2.1, hX5.out.2.2.1, hX5.out.2.2.2.1⟩
              | (trace_state; fail))
            (first
              | (go_at_call 55; ((with_reducible refine (HBs.out _).mono ?_); rintro e w5 ⟨rfl, hb5⟩; have hX5 : Hid (Bx4 w5 w.heap.size d L H (pl (k + 1))) := Lib.hid (Bx4.below hXd.out hb5.b))))
          have hb55 := Lib.hid (hbd.out.trans (hb5.b.mono hbd.out.size))
          go_wp2
          go_roundw
          case rel => exact ⟨r + 1, P + z - L, by omega, by go_num, rfl, hx2, hall2, hX5, hb55⟩
          case measure => simp [intOf]; omega
      · have hend : r = d := by omega
        subst hend
        have ht : zs.take r = zs := List.take_of_length_le (by rw [HD.out]; omega)
        have hx2 := hx.out
        have ha2 := hall.out
        rw [ht] at hx2 ha2
        have he := Lib.hid (hEI.out ha2)
        have hx3 := Lib.hid hx2
        have hb2 := Lib.hid hbel.out
        clear hx hall hx2 ha2 ht hbel
        go_wp2
        go_ret2
        exact ⟨by rw [he.out.1, he.out.2, ← hx3.out]; rfl, hb2.out⟩
  · have e1 : entI (k + 1) zs = 0 := by unfold entI; rw [if_neg (fun h => hd h.1)]
    have e2 : entX (k + 1) zs = 4 := by unfold entX; rw [if_neg hd]
    rw [e1, e2]
    have hb0 := Lib.hid ((Below.refl w.heap.size w).alloc (Nat.le_refl _) (.cells #[.int .i64 (dm (k + 1)), .int .i64 (lw (k + 1)), .int .i64 (hg (k + 1)), .int .i64 (pl (k + 1))] 82))
    obtain ⟨q0, q1, q2, q3, q4⟩ := bx4_new w (dm (k + 1)) (lw (k + 1)) (hg (k + 1)) (pl (k + 1))
    have hne : ((zs.length : Int) == ((dm (k + 1) : Nat) : Int)) = false := by simp; omega
    have hne2 : ¬ (zs.length : Int) = ((dm (k + 1) : Nat) : Int) := by omega
    clear e1 e2 hA hb h h1 h2
    generalize zs.length = n at *
    generalize dm (k + 1) = d at *
    go_enter Tryd.func22, Tryd.ntmps22
    go_wp2
    go_ret2
    exact ⟨rfl, hb0.out⟩
end Go.Proofs.YteklahfgplbmcaaDoor.Bk
