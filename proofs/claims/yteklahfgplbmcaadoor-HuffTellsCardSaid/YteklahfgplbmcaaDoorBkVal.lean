/- Values and entries, as the program tells them. -/
import Derived.Test.YteklahfgplbmcaaDoorBkGet
import Derived.WalkKit
import Derived.Below
import Derived.RegionTactic
import Derived.Deep.QuietTactic
import Derived.BigQuiet
import Derived.ChangeAlike
import Derived.Deep.OwnRows
import Derived.Deep.RegionHeld3
import Derived.ProofKit
import Derived.OpenShut
import Derived.Laws.EntriesVeiled
import Derived.Lib.Hide
namespace Go.Proofs.YteklahfgplbmcaaDoor.Bk
open Go Go.ChangeShapes Go.WideShapes Go.ChangeAt Go.RowKit Go.Proofs.YteklahfgplbmcaaDoor.Bi Go.Proofs.YteklahfgplbmcaaDoor.Cr Go.Proofs.YteklahfgplbmcaaDoor.Fx

theorem bases {id : Nat} (h1 : 1 ≤ id) (h2 : id ≤ 12) (w : World) : Calls Tryd.prog 55 #[.agg #[.int .i64 (dm id), .int .i64 (lw id), .int .i64 (hg id), .int .i64 (pl id)]] w fun e w' => e = .returned (.int .i64 (bs id)) ∧ Bel w w' := by
  obtain ⟨f1, f2, f3, f4, f5, f6, f7, f8, f9, f10, f11, f12, f13, f14⟩ := facts h1 h2
  have := base_ok (dm id) (lw id) (hg id) (pl id) w f9 f10 f11 f12
  rw [← f3] at this
  exact this.mono fun _ _ h => ⟨h.1, ⟨h.2⟩⟩
theorem vals_at (b : Nat) (low : Int) : ∀ k n t, 1 ≤ t → t ≤ k → (vals b low k n).getD (t - 1) 0 = low + ((n / b ^ (k - t) % b : Nat) : Int)
  | 0, n, t, h, h' => by omega
  | k + 1, n, t, h, h' => by
    unfold vals
    by_cases e : t = k + 1
    · subst e
      rw [List.getD_eq_getElem?_getD, List.getElem?_append_right (by rw [vals_len]; omega), vals_len]
      simp
    · have ih := vals_at b low k (n / b) t h (by omega)
      rw [List.getD_eq_getElem?_getD, List.getElem?_append_left (by rw [vals_len]; omega), ← List.getD_eq_getElem?_getD, ih, Nat.div_div_eq_div_mul, show b * b ^ (k - t) = b ^ (k + 1 - t) by rw [show k + 1 - t = (k - t) + 1 by omega, Nat.pow_succ, Nat.mul_comm]]
structure VS (w0 : World) (id S O : Nat) (f : Nat → Int) (w : World) : Prop where
  s : Bx4 w S (dm id) (lw id) (hg id) (pl id)
  o : w.rowIs O 3 (dm id) (fun j => .int .i64 (f j))
  bl : Below w0.heap.size w0 w
  ne : O ≠ S
  ge : w0.heap.size ≤ O
theorem VS.below {w0 : World} {id S O : Nat} {f : Nat → Int} {w w' : World} (g : VS w0 id S O f w) (hb : Below w.heap.size w w') : VS w0 id S O f w' :=
  ⟨g.s.below hb, g.o.of_block (hb.block _ g.o.lt), g.bl.trans (hb.mono g.bl.size), g.ne, g.ge⟩
theorem VS.set {w0 : World} {id S O i : Nat} {f f' : Nat → Int} {v : Int} {w : World} (g : VS w0 id S O f w) (h : ∀ j, j < dm id → (if j = i then v else f j) = f' j) : VS w0 id S O f' (w.setCell ⟨O, i, none⟩ (.int .i64 v)) :=
  ⟨g.s.set g.ne _, (g.o.set i (.int .i64 v)).congr (fun j hj => by rw [← h j hj]; split <;> rfl), g.bl.setCell (p := ⟨O, i, none⟩) g.ge _, g.ne, g.ge⟩
theorem vs_new {w1 w0 : World} {id : Nat} (hb : Below w0.heap.size w0 w1) : VS w0 id w1.heap.size (w1.heap.size + 1) (fun _ => 0) ((w1.alloc (.cells #[.int .i64 (dm id), .int .i64 (lw id), .int .i64 (hg id), .int .i64 (pl id)] 82)).alloc (.cells (madeCells #[.int .i64 0] (dm id)) 3)) := by
  have s := bx4_new w1 (dm id) (lw id) (hg id) (pl id)
  exact ⟨s.below (al _ _), made1, hb.trans (((al w1 _).trans ((al _ _).mono (by simp))).mono hb.size), by omega, by have := hb.size; omega⟩
def valsI (id n j : Nat) : Int := (vals (bs id) (lw id) (dm id) n).getD j 0
set_option maxRecDepth 100000 in
set_option maxHeartbeats 8000000 in
theorem values_ok (id n : Nat) (w : World) (h1 : 1 ≤ id) (h2 : id ≤ 12) (hs : Sh w) (hn : n < Nn id) :
    Calls Tryd.prog 20 #[.int .i64 id, .int .i64 n] w fun e w' => ∃ O, e = .returned (.tuple #[.slice (some ⟨O, 0, none⟩) (dm id) (dm id), .int .i64 0]) ∧ w.heap.size ≤ O ∧ w'.rowIs O 3 (dm id) (fun j => .int .i64 (valsI id n j)) ∧ Below w.heap.size w w' := by
  obtain ⟨k, rfl⟩ : ∃ k, id = k + 1 := ⟨id - 1, by omega⟩
  obtain ⟨i0, hi, hz0, hz1, hz2⟩ := info_parts' info3
  obtain ⟨s0, s1⟩ := hs
  obtain ⟨g0, g1, g2, g3⟩ := s1 k (by omega)
  obtain ⟨f1, f2, f3, f4, f5, f6, f7, f8, f9, f10, f11, f12, f13, f14⟩ := facts h1 h2
  have HZ := Lib.hid (fun w => (sizes h1 h2 w).mono fun _ _ h => (⟨h.1, ⟨h.2⟩⟩ : _ ∧ Bel w _))
  have HBs := Lib.hid (fun w => bases h1 h2 w)
  have hV := Lib.hid (vals_at (bs (k + 1)) (lw (k + 1)) (dm (k + 1)) n)
  have HV : Hid (∀ j, valsI (k + 1) n j = (vals (bs (k + 1)) (lw (k + 1)) (dm (k + 1)) n).getD j 0) := Lib.hid fun _ => rfl
  have hg' : ∀ w', Bel w w' → w'.cell? ⟨0, k * 4, none⟩ = some (.int .i64 (dm (k + 1))) ∧ w'.cell? ⟨0, k * 4 + 1, none⟩ = some (.int .i64 (lw (k + 1))) ∧ w'.cell? ⟨0, k * 4 + 2, none⟩ = some (.int .i64 (hg (k + 1))) ∧ w'.cell? ⟨0, k * 4 + 3, none⟩ = some (.int .i64 (pl (k + 1))) := fun w' hb => ⟨(hb.b.cell (p := ⟨0, _, none⟩) s0).trans g0, (hb.b.cell (p := ⟨0, _, none⟩) s0).trans g1, (hb.b.cell (p := ⟨0, _, none⟩) s0).trans g2, (hb.b.cell (p := ⟨0, _, none⟩) s0).trans g3⟩
  have HG := Lib.hid hg'
  have hk11 : k ≤ 11 := by omega
  have hbI : (1 : Int) ≤ (bs (k + 1) : Nat) := by omega
  have hlI : (lw (k + 1)) ≤ 0 := f10
  have hlI2 : -60 ≤ (lw (k + 1)) := f9
  have hbI2 : ((bs (k + 1) : Nat) : Int) ≤ 121 := by omega
  have hN289 : n < 289 := by omega
  clear s1 hg' f1 f3 f6 f7 f9 f10 f11 f12 f14 h1 h2
  generalize hdd : dm (k + 1) = d at *
  have hd4 : d ≤ 4 := f5
  go_enter Tryd.func20, Tryd.ntmps20
  go_upto_region 5 with first
    | (go_at_call 46; ((with_reducible refine (HZ.out _).mono ?_); rintro e w1 ⟨rfl, hb1⟩; obtain ⟨q0, q1, q2, q3⟩ := HG.out w1 hb1; have s1' := Nat.lt_of_lt_of_le s0 hb1.b.size))
    | (refine wpList_make_row _ rfl _ _ 22 rfl 3 i0 (.int .i64 0) Tryd.underlying22 hi hz0 hz1 rfl .i64 .i64 d rfl rfl (by rw [hz2]; omega) (by omega) ?_)
  have V0 := vs_new (w0 := w) (id := k + 1) hb1.b
  rw [hdd] at V0
  have HV0 := Lib.hid V0
  have HDD := Lib.hid hdd
  clear V0 q0 q1 q2 q3 g0 g1 g2 g3 hb1 s1' hdd HZ HG hk11 f5 s0 f8
  generalize w1.heap.size + 1 = O at *
  generalize (w1.alloc (.cells #[.int .i64 d, .int .i64 (lw (k + 1)), .int .i64 (hg (k + 1)), .int .i64 (pl (k + 1))] 82)).alloc (.cells (madeCells #[.int .i64 0] d) 3) = W2 at *
  generalize w1.heap.size = S at *
  have lim : ∀ w' f, VS w (k + 1) S O f w' → w'.cell? ⟨S, 0, none⟩ = some (.int .i64 d) ∧ w'.cell? ⟨S, 1, none⟩ = some (.int .i64 (lw (k + 1))) ∧ w'.cell? ⟨S, 2, none⟩ = some (.int .i64 (hg (k + 1))) ∧ w'.cell? ⟨S, 3, none⟩ = some (.int .i64 (pl (k + 1))) := fun w' f g => by
    have := g.s
    rw [HDD.out] at this
    exact ⟨this.1, this.2.1, this.2.2.1, this.2.2.2.1⟩
  have HL := Lib.hid lim
  obtain ⟨q0, q1, q2, q3⟩ := lim W2 _ HV0.out
  clear lim
  go_wp2
  go_loopw [1, 8] (fun en i wr => ∃ t m : Nat, t ≤ d ∧ i = .int .i64 ((t : Int) - 1) ∧ en = .int .i64 m ∧ Hid (m = n / bs (k + 1) ^ (d - t)) ∧ m ≤ n ∧ Hid (VS w (k + 1) S O (fun j => if t ≤ j then valsI (k + 1) n j else 0) wr)) (fun _ i _ => (intOf i + 1).toNat)
  case atStart => exact ⟨d, n, by omega, rfl, rfl, Lib.hid (by simp), by omega, Lib.hid ⟨HV0.out.s, HV0.out.o.congr (fun j hj => by rw [HDD.out] at hj; rw [if_neg (by omega)]), HV0.out.bl, HV0.out.ne, HV0.out.ge⟩⟩
  case round =>
    obtain ⟨t, m, ht, rfl, rfl, hm, hmn, hVS⟩ := hrel
    cases t with
    | zero =>
      simp only [Int.natCast_zero, Int.zero_sub]
      have ho := Lib.hid (hVS.out.o.congr (g := fun j => .int .i64 (valsI (k + 1) n j)) (fun j _ => by rw [if_pos (Nat.zero_le _)]))
      have hbl := Lib.hid hVS.out.bl
      have hge := Lib.hid hVS.out.ge
      have ho2 := ho.out
      rw [HDD.out] at ho2
      have HO := Lib.hid ho2
      clear hVS hm ho ho2 HV0 q0 q1 q2 q3
      go_wp2
      go_ret2
      exact ⟨O, rfl, hge.out, HO.out, hbl.out⟩
    | succ t =>
      rw [show ((t + 1 : Nat) : Int) - 1 = (t : Int) by omega]
      clear q0 q1 q2 q3 HV0
      obtain ⟨q0, q1, q2, q3⟩ := HL.out wr _ hVS.out
      have hVd := Lib.hid (hVS.out.below (Below.refl _ wr).drew)
      have htd : t < d := by omega
      have hbpos : 0 < bs (k + 1) := by omega
      have hrem : Int.tmod (m : Int) (bs (k + 1) : Nat) = ((m % bs (k + 1) : Nat) : Int) := by rw [Int.tmod_eq_emod_of_nonneg (by omega)]; rfl
      have hdiv : Int.tdiv (m : Int) (bs (k + 1) : Nat) = ((m / bs (k + 1) : Nat) : Int) := by rw [Int.tdiv_eq_ediv_of_nonneg (by omega)]; rfl
      have hm1 : ((m % bs (k + 1) : Nat) : Int) ≤ 120 := by have := Nat.mod_lt m hbpos; omega
      have hm0 : (0 : Int) ≤ ((m % bs (k + 1) : Nat) : Int) := Int.natCast_nonneg _
      have hval : valsI (k + 1) n t = lw (k + 1) + ((m % bs (k + 1) : Nat) : Int) := by
        have := hV.out (t + 1) (by omega) (by omega)
        rw [HV.out, show t = t + 1 - 1 from rfl, this, hm.out]
      have hmle : m / bs (k + 1) ≤ m := Nat.div_le_self _ _
      have hm' : Hid (m / bs (k + 1) = n / bs (k + 1) ^ (d - t)) := Lib.hid (by rw [hm.out, Nat.div_div_eq_div_mul, ← Nat.pow_succ, show (d - (t + 1)).succ = d - t by omega])
      have cf := fun w' (g : VS w (k + 1) S O (fun j => if t + 1 ≤ j then valsI (k + 1) n j else 0) w') => (⟨g.o.cell (i := t) (by rw [HDD.out]; exact htd), g.o.frozen t⟩ : _ ∧ _)
      have HCF := Lib.hid cf
      have HVal := Lib.hid hval
      have hbb : (bs (k + 1) : Int) = ((bs (k + 1) : Nat) : Int) := rfl
      obtain ⟨M, hM⟩ : ∃ M : Nat, m % bs (k + 1) = M := ⟨_, rfl⟩
      obtain ⟨D, hD⟩ : ∃ D : Nat, m / bs (k + 1) = D := ⟨_, rfl⟩
      rw [hM] at hrem hm1 hm0 HVal
      rw [hD] at hdiv hm' hmle
      clear cf hval hm hM hD
      have hw1 : IntKind.i64.wrap (lw (k + 1) + (M : Int)) = lw (k + 1) + (M : Int) := by rw [IntKind.wrap_i64]; omega
      generalize hlw : lw (k + 1) = L at *
      have hbz : ¬ bs (k + 1) = 0 := by omega
      have hbz2 : ¬ ((bs (k + 1) : Nat) : Int) = 0 := by omega
      generalize bs (k + 1) = b at *
      go_upto_region 8 with fail
      go_region_held3 (fun w' => w'.cell? ⟨S, 0, none⟩ = some (.int .i64 d) ∧ w'.cell? ⟨S, 1, none⟩ = some (.int .i64 L) ∧ w'.cell? ⟨S, 2, none⟩ = some (.int .i64 (hg (k + 1))) ∧ w'.cell? ⟨S, 3, none⟩ = some (.int .i64 (pl (k + 1))))
        (first
          | with_reducible exact HL.out _ _ hVd.out
          | with_reducible exact HL.out _ _ hV5.out
          | with_reducible exact HL.out _ _ hV6.out
          | (trace_state; fail))
        (first
          | (go_at_call 55; ((with_reducible refine (HBs.out _).mono ?_); rintro e w5 ⟨rfl, hb5⟩; have hV5 : Hid (VS w (k + 1) S O (fun j => if t + 1 ≤ j then valsI (k + 1) n j else 0) w5) := Lib.hid (VS.below hVd.out hb5.b); obtain ⟨z0, z1⟩ := HCF.out w5 hV5.out; have hV6 : Hid (VS w (k + 1) S O (fun j => if t ≤ j then valsI (k + 1) n j else 0) (w5.setCell ⟨O, t, none⟩ (.int .i64 (L + (M : Int))))) := Lib.hid (VS.set hV5.out (fun j hj => (by
              by_cases h : j = t
              · rw [if_pos h, if_pos (by omega), h, HVal.out]
              · rw [if_neg h]
                by_cases h2 : t + 1 ≤ j
                · rw [if_pos h2, if_pos (by omega)]
                · rw [if_neg h2, if_neg (by omega)]))))))
      obtain ⟨r0, r1, r2, r3⟩ := HL.out _ _ hV6.out
      go_wp2_with (go_at_call 55; ((with_reducible refine (HBs.out _).mono ?_); rintro e w7 ⟨rfl, hb7⟩; have hV7 : Hid (VS w (k + 1) S O (fun j => if t ≤ j then valsI (k + 1) n j else 0) w7) := Lib.hid (VS.below hV6.out hb7.b)))
      go_roundw
      case rel => exact ⟨t, D, by omega, by go_num, by go_num, hm', by omega, hV7⟩
      case measure => first | (simp [intOf]; done) | (simp [intOf]; omega)
end Go.Proofs.YteklahfgplbmcaaDoor.Bk
