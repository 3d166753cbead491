/- The document's Entry. -/
import Derived.Test.YteklahfgplbmcaaDoorMrg4
import Derived.Test.YteklahfgplbmcaaDoorBkEnt
import Derived.Deep.RegionWith
import Derived.WalkKit
import Derived.Below
import Derived.RegionTactic
import Derived.Deep.QuietTactic
import Derived.BigQuiet
import Derived.ChangeAlike
import Derived.Deep.OwnRows
import Derived.Deep.Cut
import Derived.ProofKit
import Derived.OpenShut
import Derived.Laws.EntriesVeiled
import Derived.Lib.Hide
import Derived.Deep.RegionHeld3
import Derived.Laws.AppendOwn
import Derived.Laws.AppendOwnNone
namespace Go.Proofs.YteklahfgplbmcaaDoor.BkRf
open Go Go.ChangeShapes Go.WideShapes Go.ChangeAt Go.RowKit Go.Proofs.YteklahfgplbmcaaDoor.Bk Go.Proofs.YteklahfgplbmcaaDoor.Bi Go.Proofs.YteklahfgplbmcaaDoor.Cr Go.Proofs.YteklahfgplbmcaaDoor.Fx

theorem rentry_bad (I : Int) (v : Value) (w : World) (h : I < 1 ∨ 12 < I) : Calls Tryd.prog 23 #[.int .i64 I, v] w fun e w' => e = .returned (.tuple #[.int .i64 0, .int .i64 2]) ∧ Below w.heap.size w w' := by
  by_cases h1 : I < 1
  · clear h
    go_enter Tryd.func23, Tryd.ntmps23
    go_wp2
    go_ret2
    exact ⟨rfl, Below.refl _ _⟩
  · have h2 : 12 < I := by omega
    clear h
    go_enter Tryd.func23, Tryd.ntmps23
    go_wp2
    go_ret2
    exact ⟨rfl, Below.refl _ _⟩
set_option maxRecDepth 100000 in
set_option maxHeartbeats 8000000 in
theorem rentry_ok (id : Nat) (v : Value) (zs : List Int) (w : World) (h1 : 1 ≤ id) (h2 : id ≤ 12) (h : Rd w v zs) :
    Calls Tryd.prog 23 #[.int .i64 id, v] w fun e w' => e = .returned (.tuple #[.int .i64 (entI id zs), .int .i64 (entX id zs)]) ∧ Below w.heap.size w w' := by
  obtain ⟨A, cap, rfl, hA⟩ := h.open
  obtain ⟨f1, f2, f3, f4, f5, f6, f7, f8, f9, f10, f11, f12, f13, f14⟩ := facts h1 h2
  have HDM := Lib.hid (fun w => dim_ok (id : Int) w (by omega) (by omega))
  have HLW := Lib.hid (fun w => low_ok (id : Int) w (by omega) (by omega))
  have HHG := Lib.hid (fun w => high_ok (id : Int) w (by omega) (by omega))
  simp only [Int.toNat_natCast] at HDM HLW HHG
  have HPw := Lib.hid (pow_le h1 h2)
  have h12 := Lib.hid (And.intro h1 h2)
  have g1 : ¬ (id : Int) < 1 := by omega
  have g2 : ¬ 12 < (id : Int) := by omega
  have f3' := Lib.hid (show hg id - lw id + 1 = ((bs id : Nat) : Int) by omega)
  by_cases hd : zs.length = dm id
  · have HA := Lib.hid hA
    have hEI : Hid (zs.all (inR id) = true → entI id zs = ent (bs id) (lw id) zs ∧ entX id zs = 0) := Lib.hid fun h => by unfold entI entX; rw [if_pos ⟨hd, h⟩, if_pos hd, if_pos h]; exact ⟨rfl, rfl⟩
    have hEO : Hid (∀ j, j < zs.length → (zs.getD j 0 < lw id ∨ hg id < zs.getD j 0) → entI id zs = 0 ∧ entX id zs = 2) := Lib.hid fun j hj h => by
      have hn : ¬ zs.all (inR id) = true := fun ha => by
        have := List.all_eq_true.1 ha (zs.getD j 0) (by rw [List.getD_eq_getElem?_getD, List.getElem?_eq_getElem hj]; exact List.getElem_mem _)
        unfold inR at this
        simp at this
        simp only [List.getD_eq_getElem?_getD] at h
        omega
      unfold entI entX; rw [if_neg (fun h => hn h.2), if_pos hd, if_neg hn]; exact ⟨rfl, rfl⟩
    have HD := Lib.hid hd
    have hb121 : ((bs id : Nat) : Int) ≤ 121 := by omega
    have hw3 : IntKind.i64.wrap (hg id - lw id) = hg id - lw id := by rw [IntKind.wrap_i64]; omega
    have hw4 : IntKind.i64.wrap (hg id - lw id + 1) = hg id - lw id + 1 := by rw [IntKind.wrap_i64]; omega
    generalize hdd : dm id = d at *
    have HDD := Lib.hid hdd
    have hd4 := f5
    generalize hlw : lw id = L at *
    generalize hhg : hg id = H at *
    have HLH := Lib.hid (show lw id = L ∧ hg id = H from ⟨hlw, hhg⟩)
    rw [hd]
    have hdi : ((d : Int) != (d : Int)) = false := by simp
    clear hA hd hdd hlw hhg f5 h h1 h2 f1 f2 f4 f6 f7 f8 f14
    go_enter Tryd.func23, Tryd.ntmps23
    go_wp2_with (go_at_call 58; ((with_reducible refine (HDM.out _).mono ?_); rintro e w0 ⟨rfl, rfl⟩))
    go_loopw [6, 7] (fun a i wr => ∃ (r : Nat) (x : Int), r ≤ d ∧ i = .int .i64 r ∧ a = .int .i64 x ∧ Hid (x = ent (bs id) L (zs.take r)) ∧ Hid ((zs.take r).all (inR id) = true) ∧ Hid (Below w.heap.size w wr)) (fun _ i _ => d - (intOf i).toNat)
    case atStart => exact ⟨0, 0, by omega, rfl, rfl, Lib.hid (by simp [ent]), Lib.hid (by simp), Lib.hid (Below.refl _ _)⟩
    case round =>
      obtain ⟨r, x, hr, rfl, rfl, hx, hall, hbel⟩ := hrel
      by_cases hlt : r < d
      · obtain ⟨b, off, rfl, hb, c1'⟩ := HA.out r (by rw [HD.out]; exact hlt)
        have c1 := (hbel.out.cell (p := ⟨b, off + r, none⟩) hb).trans c1'
        have hbw := Nat.lt_of_lt_of_le hb hbel.out.size
        clear c1'
        have hO := Lib.hid (hEO.out r (by rw [HD.out]; exact hlt))
        have hst := Lib.hid (take_snoc' (zs := zs) (k := r) (by rw [HD.out]; exact hlt))
        obtain ⟨z, hz⟩ : ∃ z, zs.getD r 0 = z := ⟨_, rfl⟩
        rw [hz] at c1 hO hst
        have KEEP : Hid (∀ W, Below wr.heap.size wr W → W.cell? ⟨b, off + r, none⟩ = some (.int .i64 z) ∧ Below wr.heap.size wr W) := Lib.hid (fun W hW => ⟨(hW.cell (p := ⟨b, off + r, none⟩) hbw).trans c1, hW⟩)
        have r0' : (0 : Int) ≤ r := by omega
        have r1' : (r : Int) < d := by omega
        clear hz
        by_cases hz1 : z < L
        · have he := Lib.hid (hO.out (.inl hz1))
          have hb2 := Lib.hid hbel.out
          have HDR : Hid (Below wr.heap.size wr wr.drew) := Lib.hid (Below.refl _ _).drew
          clear hO hst hx hbel
          go_wp2
          first
            | (go_region_with first
                | (go_at_call 59; ((with_reducible refine (HLW.out _).mono ?_); rintro e w5 ⟨rfl, hb5⟩; have X1 := Lib.hid (bT HDR.out hb5); obtain ⟨c5, _⟩ := KEEP.out w5 X1.out)))
            | fail "not so"
          all_goals
            go_wp2
            go_ret2
            exact ⟨by rw [he.out.1, he.out.2]; rfl, bT hb2.out X1.out⟩
        by_cases hz2 : H < z
        · have he := Lib.hid (hO.out (.inr hz2))
          have hb2 := Lib.hid hbel.out
          have hzl : Hid ((decide (z < L)) = false) := Lib.hid (by simp; omega)
          clear hO hst hx hbel
          go_wp2
          have hz1 := hzl.out
          have hz1' : ¬ z < L := by simpa using hz1
          go_region_held3 (fun W => W.cell? ⟨b, off + r, none⟩ = some (.int .i64 z) ∧ Below wr.heap.size wr W) (exact KEEP.out _ (by first | exact Below.refl _ _ | exact (Below.refl _ _).drew | exact X1.out | exact X2.out | exact X3.out)) (first | (go_at_call 59; ((with_reducible refine (HLW.out _).mono ?_); rintro e w5 ⟨rfl, hb5⟩; have X1 := Lib.hid (bT (‹_ ∧ Below wr.heap.size wr _›).2 hb5); clear hb5)) | (go_at_call 60; ((with_reducible refine (HHG.out _).mono ?_); rintro e w6 ⟨rfl, hb6⟩; have X2 := Lib.hid (bT (‹_ ∧ Below wr.heap.size wr _›).2 hb6); clear hb6)))
          all_goals
            rename_i hS
            go_wp2
            go_ret2
            exact ⟨by rw [he.out.1, he.out.2]; rfl, bT hb2.out hS.2⟩
        · have hall2 : Hid ((zs.take (r + 1)).all (inR id) = true) := Lib.hid (by
            rw [hst.out, List.all_append, hall.out]
            have : inR id z = true := by unfold inR; rw [HLH.out.1, HLH.out.2]; simp; omega
            simp [this])
          have hx2 : Hid (x * (bs id : Nat) + z - L = ent (bs id) L (zs.take (r + 1))) := Lib.hid (by rw [hst.out, ent_snoc, hx.out])
          obtain ⟨y, hy1, hy2, _⟩ := ent_take h12.out.1 h12.out.2 (zs := zs.take r) (by rw [HDD.out, List.length_take]; omega) hall.out
          have hxy : x = (y : Int) := by rw [hx.out, ← HLH.out.1]; exact hy1
          have hy3 : y ≤ 289 := by
            have h1 := HPw.out (zs.take r).length (by rw [List.length_take]; omega)
            omega
          have hbI : ((bs id : Nat) : Int) ≤ 121 := hb121
          have hbI0 : (0 : Int) ≤ ((bs id : Nat) : Int) := Int.natCast_nonneg _
          have hprod : 0 ≤ x * ((bs id : Nat) : Int) ∧ x * ((bs id : Nat) : Int) ≤ 40000 := by
            rw [hxy]
            have h1 : (y : Int) * ((bs id : Nat) : Int) ≤ 289 * 121 := Int.mul_le_mul (by omega) hbI hbI0 (by decide)
            have h0 := Int.mul_nonneg (Int.natCast_nonneg y) hbI0
            omega
          obtain ⟨P, hP⟩ : ∃ P, x * ((bs id : Nat) : Int) = P := ⟨_, rfl⟩
          obtain ⟨p0, p1⟩ := hprod
          rw [hP] at p0 p1 hx2
          have hbe : H - L + 1 = ((bs id : Nat) : Int) := f3'.out
          have hw0 : IntKind.i64.wrap (x * (H - L + 1)) = P := by rw [hbe, hP, IntKind.wrap_i64]; omega
          have hw1 : IntKind.i64.wrap (P + z) = P + z := by rw [IntKind.wrap_i64]; omega
          have hw2 : IntKind.i64.wrap (P + z - L) = P + z - L := by rw [IntKind.wrap_i64]; omega
          have hzl : Hid ((decide (z < L)) = false ∧ (decide (H < z)) = false) := Lib.hid (by simp; omega)
          clear hP hO hst hx hxy hy1 hy2 hall hbe
          go_wp2
          obtain ⟨hz1, hz2⟩ := hzl.out
          go_region_held3 (fun W => W.cell? ⟨b, off + r, none⟩ = some (.int .i64 z) ∧ Below wr.heap.size wr W) (exact KEEP.out _ (by first | exact Below.refl _ _ | exact (Below.refl _ _).drew | exact X1.out | exact X2.out | exact X3.out)) (first | (go_at_call 59; ((with_reducible refine (HLW.out _).mono ?_); rintro e w5 ⟨rfl, hb5⟩; have X1 := Lib.hid (bT (‹_ ∧ Below wr.heap.size wr _›).2 hb5); clear hb5)) | (go_at_call 60; ((with_reducible refine (HHG.out _).mono ?_); rintro e w6 ⟨rfl, hb6⟩; have X2 := Lib.hid (bT (‹_ ∧ Below wr.heap.size wr _›).2 hb6); clear hb6)))
          all_goals
            rename_i hS
            obtain ⟨c5, b5⟩ := hS
            have X0 := Lib.hid b5
            clear X1 X2
            go_wp2
            clear hz1 hz2 b5
            go_region_held3 (fun W => W.cell? ⟨b, off + r, none⟩ = some (.int .i64 z) ∧ Below wr.heap.size wr W) (exact KEEP.out _ (by first | exact X0.out | exact X0.out.drew | exact X1.out | exact X2.out)) (first | (go_at_call 59; ((with_reducible refine (HLW.out _).mono ?_); rintro e w5 ⟨rfl, hb5⟩; have X1 := Lib.hid (bT (‹_ ∧ Below wr.heap.size wr _›).2 hb5); clear hb5)) | (go_at_call 60; ((with_reducible refine (HHG.out _).mono ?_); rintro e w6 ⟨rfl, hb6⟩; have X2 := Lib.hid (bT (‹_ ∧ Below wr.heap.size wr _›).2 hb6); clear hb6)))
            all_goals
              rename_i hS
              obtain ⟨c6, b6⟩ := hS
              have hbf := Lib.hid (hbel.out.trans (b6.mono hbel.out.size))
              go_wp2
              go_roundw
              case rel => exact ⟨r + 1, P + z - L, by omega, by go_num, rfl, hx2, hall2, hbf⟩
              case measure => simp [intOf]; omega
      · have hend : r = d := by omega
        subst hend
        have ht : zs.take r = zs := List.take_of_length_le (by rw [HD.out]; omega)
        have hx2 := hx.out
        have ha2 := hall.out
        rw [ht] at hx2 ha2
        have he := Lib.hid (hEI.out ha2)
        have hx3 := Lib.hid hx2
        have hb2 := Lib.hid hbel.out
        clear hx hall hx2 ha2 ht hbel
        go_wp2
        go_ret2
        exact ⟨by rw [he.out.1, he.out.2, ← hx3.out]; rfl, hb2.out⟩
  · have e1 : entI id zs = 0 := by unfold entI; rw [if_neg (fun h => hd h.1)]
    have e2 : entX id zs = 4 := by unfold entX; rw [if_neg hd]
    rw [e1, e2]
    have hne : ((zs.length : Int) == ((dm id : Nat) : Int)) = false := by simp; omega
    have hne2 : ¬ (zs.length : Int) = ((dm id : Nat) : Int) := by omega
    clear e1 e2 hA h h1 h2
    generalize zs.length = n at *
    generalize dm id = d at *
    go_enter Tryd.func23, Tryd.ntmps23
    go_wp2_with (go_at_call 58; ((with_reducible refine (HDM.out _).mono ?_); rintro e w0 ⟨rfl, rfl⟩))
    go_ret2
    exact ⟨rfl, Below.refl _ _⟩
end Go.Proofs.YteklahfgplbmcaaDoor.BkRf
