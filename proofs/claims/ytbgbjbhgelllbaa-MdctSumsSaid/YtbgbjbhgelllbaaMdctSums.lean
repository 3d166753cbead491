/- What two lists of lines come back to is together what their sum does, to 1 at most; MdctSums returns true, whatever the lines, and by how much each of a second list is less, the memory and the schedule. No condition. -/
import Derived.Test.YtbgbjbhgelllbaaMdAl
import Derived.WalkKit
import Derived.Below
import Derived.RegionTactic
import Derived.Deep.QuietTactic
import Derived.BigQuiet
import Derived.ChangeAlike
import Derived.Deep.OwnRows
import Derived.ProofKit
import Derived.OpenShut
import Derived.ChangeSlices
import Derived.Great.Walk
import Derived.ChangeKeysEq
import Derived.Lib.Hide
import Derived.ChangeOld
namespace Go.Proofs.Ytbgbjbhgelllbaa.mdctSums
open Go Go.ChangeShapes Go.WideShapes Go.ChangeAt Go.RowKit Go.Proofs.Ytbgbjbhgelllbaa.Fx Go.Proofs.Ytbgbjbhgelllbaa.Mm Go.Proofs.Ytbgbjbhgelllbaa.Md
theorem out2 {p : Prop} (h : Hid p) : Hid p := h
/-- The two lists whose sum is the one. -/
def onef (zs ys : List Int) (j : Nat) : Int := Int.tdiv (zs.getD j 0) 2 + ys.getD j 0
def twof (zs ys : List Int) (j : Nat) : Int := zs.getD j 0 - onef zs ys j
theorem upto_over {w : World} {g n k : Nat} {f h : Nat → Int} {u : Value} {v : Int} (r : w.rowIs g 3 n (fun j => if j = k then u else upto f h k j)) (e : v = f k) : (w.setCell ⟨g, k, none⟩ (.int .i64 v)).rowIs g 3 n (upto f h (k + 1)) :=
  (r.set k (.int .i64 v)).congr fun i _ => by
    unfold upto
    by_cases h1 : i = k
    · subst h1; rw [if_pos rfl, if_pos (by omega), e]
    · rw [if_neg h1, if_neg h1]
      by_cases h2 : i < k
      · rw [if_pos h2, if_pos (by omega)]
      · rw [if_neg h2, if_neg (by omega)]
theorem upto_once {w : World} {g n k : Nat} {f h : Nat → Int} {v : Int} (r : w.rowIs g 3 n (fun j => if j = k then .int .i64 v else upto f h k j)) (e : v = f k) : w.rowIs g 3 n (upto f h (k + 1)) :=
  r.congr fun i _ => by
    unfold upto
    by_cases h1 : i = k
    · subst h1; rw [if_pos rfl, if_pos (by omega), e]
    · rw [if_neg h1]
      by_cases h2 : i < k
      · rw [if_pos h2, if_pos (by omega)]
      · rw [if_neg h2, if_neg (by omega)]
theorem upto_new {f h : Nat → Int} {k : Nat} : upto f h (k + 1) k = .int .i64 (f k) := by unfold upto; rw [if_pos (Nat.lt_succ_self k)]
theorem half_bd {X q : Int} (hq : Int.tdiv X 2 = q) (x0 : -268435455 ≤ X) (x1 : X ≤ 268435455) : -134217728 ≤ q ∧ q ≤ 134217728 ∧ -134217728 ≤ X - q ∧ X - q ≤ 134217728 := by
  subst hq
  rcases Int.le_total 0 X with h | h
  · rw [Int.tdiv_eq_ediv_of_nonneg h]; omega
  · have e : X.tdiv 2 = -((-X) / 2) := by
      rw [← Int.tdiv_eq_ediv_of_nonneg (by omega : 0 ≤ -X), Int.neg_tdiv, Int.neg_neg]
    rw [e]; omega
theorem in_onef {zs ys : List Int} {n : Nat} (h : ∀ j, j < n → -268435455 ≤ zs.getD j 0 ∧ zs.getD j 0 ≤ 268435455) (hy : ∀ j, -128 ≤ ys.getD j 0 ∧ ys.getD j 0 ≤ 127) : InM 268435455 (lst (onef zs ys) n) := by
  intro j hj
  rw [lst_len] at hj
  rw [lst_at _ hj]
  have a := half_bd rfl (h j hj).1 (h j hj).2
  have b := hy j
  unfold onef
  omega
theorem in_twof {zs ys : List Int} {n : Nat} (h : ∀ j, j < n → -268435455 ≤ zs.getD j 0 ∧ zs.getD j 0 ≤ 268435455) (hy : ∀ j, -128 ≤ ys.getD j 0 ∧ ys.getD j 0 ≤ 127) : InM 268435455 (lst (twof zs ys) n) := by
  intro j hj
  rw [lst_len] at hj
  rw [lst_at _ hj]
  have a := half_bd rfl (h j hj).1 (h j hj).2
  have b := hy j
  unfold twof onef
  omega
theorem wrap_in {x : Int} (h0 : -4611686018427387905 ≤ x) (h1 : x ≤ 4611686018427387905) : IntKind.i64.wrap x = x := by
  simp [IntKind.wrap, IntKind.bits, IntKind.signed]; omega
theorem bk_bd {zs : List Int} {m s b : Int} (hb : 0 ≤ b) (hm : m ≤ 256) (hM : InM 268435455 zs) (k : Nat) : -4611686018427387904 ≤ bk zs m s b k ∧ bk zs m s b k ≤ 4611686018427387904 := by
  have hz : ∀ j, j < m.toNat → -268435455 ≤ zs.getD j 0 ∧ zs.getD j 0 ≤ 268435455 := fun j hj => by
    by_cases h : j < zs.length
    · exact hM j h
    · have e : zs.getD j 0 = 0 := by simp [List.getElem?_eq_none (by omega : zs.length ≤ j)]
      rw [e]; omega
  have := ds_in (f := fun k => zs.getD k 0) (c := cv m s (k : Int)) (M := 268435455) (N := m.toNat) (k := m.toNat) (fun j => cos_bd _) hz (Nat.le_refl _) (by omega) (by decide)
  exact rnd_bd hb this.1 this.2
theorem two_rows (w2 : World) (n : Nat) :
    ((w2.alloc (.cells (madeCells #[.int .i64 0] n) 3)).alloc (.cells (madeCells #[.int .i64 0] n) 3)).rowIs w2.heap.size 3 n (fun _ => .int .i64 0) ∧
    ((w2.alloc (.cells (madeCells #[.int .i64 0] n) 3)).alloc (.cells (madeCells #[.int .i64 0] n) 3)).rowIs (w2.heap.size + 1) 3 n (fun _ => .int .i64 0) ∧
    Below w2.heap.size w2 ((w2.alloc (.cells (madeCells #[.int .i64 0] n) 3)).alloc (.cells (madeCells #[.int .i64 0] n) 3)) := by
  have e : (w2.alloc (.cells (madeCells #[.int .i64 0] n) 3)).heap.size = w2.heap.size + 1 := by simp
  have r1 := World.rowIs_made w2 (.int .i64 0) n 3
  have r2 := World.rowIs_made (w2.alloc (.cells (madeCells #[.int .i64 0] n) 3)) (.int .i64 0) n 3
  have b1 : Below w2.heap.size w2 (w2.alloc (.cells (madeCells #[.int .i64 0] n) 3)) := (Below.refl _ _).alloc (Nat.le_refl _) _
  have b2 := b1.alloc (by omega) (.cells (madeCells #[.int .i64 0] n) 3)
  have b3 : Below (w2.heap.size + 1) (w2.alloc (.cells (madeCells #[.int .i64 0] n) 3)) ((w2.alloc (.cells (madeCells #[.int .i64 0] n) 3)).alloc (.cells (madeCells #[.int .i64 0] n) 3)) := (Below.refl _ _).alloc (by omega) _
  rw [e] at r2
  exact ⟨r1.of_block (b3.block _ (by omega)), r2, b2⟩
set_option maxRecDepth 100000 in
set_option maxHeartbeats 8000000 in
theorem good256 (A A' : Option Addr) (cap cap' lb : Nat) (zs ys : List Int) (w : World) (hl : zs.length = 256) (h : RdA w A zs) (hM : InM 268435455 zs) (hl' : ys.length = lb) (hb' : ¬ 1000 < (lb : Int)) (h' : RdK .i8 w A' ys) (hy : ∀ j, -128 ≤ ys.getD j 0 ∧ ys.getD j 0 ≤ 127) :
    Calls Try.prog 6 #[.slice A 256 cap, .slice A' lb cap'] w fun e w' => e = .returned (.bool true) ∧ Below w.heap.size w w' := by
  obtain ⟨i0, hi, hz0, hz1, hz2⟩ := info_parts info3
  have HA := Lib.hid (alive_ok w)
  have HX := Lib.hid (fun w1 r => inv_ok A cap zs 256 512 256 1 26 w1 hl (.inl ⟨rfl, rfl, rfl, rfl, rfl⟩) r hM)
  have HI := Lib.hid (fun j (hj : j < 256) => hM j (hl ▸ hj))
  have HR := Lib.hid h
  have HY := Lib.hid h'
  have HYB := Lib.hid hy
  have HL := Lib.hid hl
  have HL' := Lib.hid hl'
  have HBD := Lib.hid (fun k => bk_bd (s := 1) (b := 26) (m := 256) (by decide) (by decide) hM k)
  clear h hM hl h' hy hl'
  go_enter Try.func6, Try.ntmps6
  go_wp2_with first
    | (go_at_call 11; ((with_reducible refine (HA.out).mono ?_); rintro e w1 ⟨rfl, hb1⟩; have hb1h := Lib.hid hb1; have r1 := Lib.hid (HR.out.below hb1); clear hb1))
    | (go_at_call 10; ((with_reducible refine (HX.out _ r1.out).mono ?_); rintro e w2 ⟨g1, rfl, hg1, hx2, hb2⟩; have hx2h := Lib.hid hx2; have hb2h := Lib.hid (hb1h.out.trans (hb2.mono hb1h.out.size)); clear hx2 hb2))
    | (refine wpList_make_row _ rfl _ _ 22 rfl 3 i0 (.int .i64 0) Try.underlying22 hi hz0 hz1 rfl .i64 .i64 256 rfl rfl (by rw [hz2]; omega) (by omega) ?_)
  obtain ⟨hT1, hT2, bx⟩ := two_rows w2 256
  have hT1h := Lib.hid (hT1.congr (g := upto (onef zs ys) (fun _ => 0) 0) (fun i _ => by unfold upto; simp))
  have hT2h := Lib.hid (hT2.congr (g := upto (twof zs ys) (fun _ => 0) 0) (fun i _ => by unfold upto; simp))
  have bxh := Lib.hid bx
  have hg1lt : g1 < w2.heap.size := hx2h.out.lt
  have hwgt : w.heap.size ≤ w2.heap.size := hb2h.out.size
  obtain ⟨h2, hh2⟩ : ∃ h2, w2.heap.size + 1 = h2 := ⟨_, rfl⟩
  rw [hh2] at hT2h
  have hne : w2.heap.size ≠ h2 := by omega
  have hle : w2.heap.size ≤ h2 := by omega
  clear r1 hb1h HA HX hT1 hT2 bx
  rw [hh2]
  clear hh2
  generalize hgt : w2.heap.size = gt at *
  have HG := Lib.hid hgt
  clear hgt
  go_loopw [10] (fun i wr => ∃ k : Nat, k ≤ 256 ∧ i = .int .i64 k ∧ Hid (wr.rowIs gt 3 256 (upto (onef zs ys) (fun _ => 0) k)) ∧ Hid (wr.rowIs h2 3 256 (upto (twof zs ys) (fun _ => 0) k)) ∧ Hid (Below gt w2 wr)) (fun i _ => 256 - (intOf i).toNat)
  case atStart => exact ⟨0, by omega, rfl, hT1h, hT2h, bxh⟩
  case round =>
    obtain ⟨k, hk, rfl, hR, hS, hB⟩ := hrel
    clear hT1h hT2h bxh
    by_cases hlt : k < 256
    · have hlt2 : (k : Int) < 256 := by omega
      obtain ⟨b, off, rfl, hbl, cz⟩ := HR.out k (by rw [HL.out]; exact hlt)
      have hBw : Below w.heap.size w wr := hb2h.out.trans (hB.out.mono hwgt)
      have cz := (hBw.cell (p := ⟨b, off + k, none⟩) hbl).trans cz
      have hbgt : b < gt := Nat.lt_of_lt_of_le hbl hwgt
      obtain ⟨x0, x1⟩ := HI.out k hlt
      obtain ⟨X, hX⟩ : ∃ X, zs.getD k 0 = X := ⟨_, rfl⟩
      rw [hX] at cz x0 x1
      obtain ⟨q, hq⟩ : ∃ q, Int.tdiv X 2 = q := ⟨_, rfl⟩
      have hqb : -134217728 ≤ q ∧ q ≤ 134217728 ∧ -134217728 ≤ X - q ∧ X - q ≤ 134217728 := half_bd hq x0 x1
      obtain ⟨q0, q1, q2, q3⟩ := hqb
      have gc := upto_at hR.out hlt (Nat.le_refl _)
      have gf := hR.out.frozen k
      have Ra := Lib.hid (hR.out.set k (.int .i64 q))
      have Sa := Lib.hid (hS.out.setOther (a := ⟨gt, k, none⟩) hne.symm (.int .i64 q))
      have Ba := Lib.hid (hB.out.setCell (p := ⟨gt, k, none⟩) (Nat.le_refl _) (.int .i64 q))
      have ca : (wr.setCell ⟨gt, k, none⟩ (.int .i64 q)).cell? ⟨gt, k, none⟩ = some (.int .i64 q) := World.cell?_setCell_same wr _ _ gc
      have fa := Ra.out.frozen k
      have cza : (wr.setCell ⟨gt, k, none⟩ (.int .i64 q)).cell? ⟨b, off + k, none⟩ = some (.int .i64 X) := (World.cell?_of_block (heap_oth _ (Nat.ne_of_gt hbgt))).trans cz
      by_cases hby : k < lb
      · have hby2 : (k : Int) < lb := by omega
        obtain ⟨b', off', rfl, hbl', cy⟩ := HY.out k (by rw [HL'.out]; exact hby)
        have cy := (hBw.cell (p := ⟨b', off' + k, none⟩) hbl').trans cy
        have hbgt' : b' < gt := Nat.lt_of_lt_of_le hbl' hwgt
        obtain ⟨y0, y1⟩ := HYB.out k
        have cya : (wr.setCell ⟨gt, k, none⟩ (.int .i64 q)).cell? ⟨b', off' + k, none⟩ = some (.int .i8 (ys.getD k 0)) := (World.cell?_of_block (heap_oth _ (Nat.ne_of_gt hbgt'))).trans cy
        obtain ⟨Y, hY⟩ : ∃ Y, ys.getD k 0 = Y := ⟨_, rfl⟩
        rw [hY] at y0 y1 cya
        clear hR hS hB hBw cy
        go_wp2
        clear gc gf cz
        generalize wr.setCell ⟨gt, k, none⟩ (.int .i64 q) = wa at *
        have hyk : onef zs ys k = q + Y := by unfold onef; rw [hX, hq, hY]
        have Rb := Lib.hid (upto_over Ra.out hyk.symm)
        have Sb := Lib.hid (Sa.out.setOther (a := ⟨gt, k, none⟩) hne.symm (.int .i64 (q + Y)))
        have Bb := Lib.hid (Ba.out.setCell (p := ⟨gt, k, none⟩) (Nat.le_refl _) (.int .i64 (q + Y)))
        have czb : (wa.setCell ⟨gt, k, none⟩ (.int .i64 (q + Y))).drew.cell? ⟨b, off + k, none⟩ = some (.int .i64 X) := (World.cell?_of_block (heap_oth _ (Nat.ne_of_gt hbgt))).trans cza
        have Rb := Lib.hid Rb.out.drew
        have Sb := Lib.hid Sb.out.drew
        have Bb := Lib.hid Bb.out.drew
        clear Ra Sa Ba
        go_region
        go_wp2
        clear ca fa cza cya
        generalize (wa.setCell ⟨gt, k, none⟩ (.int .i64 (q + Y))).drew = wb at *
        obtain ⟨V, hV⟩ : ∃ V, q + Y = V := ⟨_, rfl⟩
        rw [hV] at hyk
        have v0 : -134217856 ≤ X - V ∧ X - V ≤ 134217856 := by omega

        have c1 : wb.cell? ⟨gt, k, none⟩ = some (.int .i64 V) := by
          have := Rb.out.cell hlt
          rw [upto_new, hyk] at this
          exact this
        have c2 := upto_at Sb.out hlt (Nat.le_refl _)
        have f2 := Sb.out.frozen k
        obtain ⟨U, hU⟩ : ∃ U, X - V = U := ⟨_, rfl⟩
        rw [hU] at v0
        obtain ⟨v1, v2⟩ := v0
        have gR1 := Lib.hid (Rb.out.setOther (a := ⟨h2, k, none⟩) hne (.int .i64 U)).drew
        have gR2 := Lib.hid (upto_step (v := U) Sb.out (by unfold twof; rw [hX, hyk, hU])).drew
        have gB := Lib.hid (Bb.out.setCell (p := ⟨h2, k, none⟩) hle (.int .i64 U)).drew
        clear Rb Sb Bb
        go_region
        go_wp2
        go_roundw
        case rel => exact ⟨k + 1, by omega, by go_num, gR1, gR2, gB⟩
        case measure => simp [intOf]; omega
      · have hyk : onef zs ys k = q := by
          unfold onef
          have e : ys.getD k 0 = 0 := by simp [List.getElem?_eq_none (by rw [HL'.out]; omega : ys.length ≤ k)]
          rw [hX, hq, e]; omega
        have hby2 : ¬ (k : Int) < lb := by omega
        have Rb := Lib.hid (upto_once Ra.out hyk.symm)
        clear hR hS hB hBw Ra
        go_wp2
        clear gc gf cz ca
        generalize wr.setCell ⟨gt, k, none⟩ (.int .i64 q) = wb at *
        have czb := cza
        have Sb := Sa
        have Bb := Ba
        clear cza Sa Ba
        have v0 : -134217856 ≤ X - q ∧ X - q ≤ 134217856 := by omega

        have c1 : wb.cell? ⟨gt, k, none⟩ = some (.int .i64 q) := by
          have := Rb.out.cell hlt
          rw [upto_new, hyk] at this
          exact this
        have c2 := upto_at Sb.out hlt (Nat.le_refl _)
        have f2 := Sb.out.frozen k
        obtain ⟨U, hU⟩ : ∃ U, X - q = U := ⟨_, rfl⟩
        rw [hU] at v0
        obtain ⟨v1, v2⟩ := v0
        have gR1 := Lib.hid (Rb.out.setOther (a := ⟨h2, k, none⟩) hne (.int .i64 U)).drew
        have gR2 := Lib.hid (upto_step (v := U) Sb.out (by unfold twof; rw [hX, hyk, hU])).drew
        have gB := Lib.hid (Bb.out.setCell (p := ⟨h2, k, none⟩) hle (.int .i64 U)).drew
        clear Rb Sb Bb
        go_region
        go_wp2
        go_roundw
        case rel => exact ⟨k + 1, by omega, by go_num, gR1, gR2, gB⟩
        case measure => simp [intOf]; omega
    · have hend : k = 256 := by omega
      subst hend
      clear hlt
      have HI1 := Lib.hid (inv_ok (some ⟨gt, 0, none⟩) 256 (lst (onef zs ys) 256) 256 512 256 1 26 wr (lst_len _ _) (.inl ⟨rfl, rfl, rfl, rfl, rfl⟩) (rd_lst (upto_end hR.out)) (in_onef HI.out HYB.out))
      have HI2 := Lib.hid (fun w1 r => inv_ok (some ⟨h2, 0, none⟩) 256 (lst (twof zs ys) 256) 256 512 256 1 26 w1 (lst_len _ _) (.inl ⟨rfl, rfl, rfl, rfl, rfl⟩) r (in_twof HI.out HYB.out))
      have S5 := Lib.hid (rd_lst (upto_end hS.out))
      have hBh := Lib.hid hB.out
      have hgw : gt ≤ wr.heap.size := by have := hBh.out.size; rw [HG.out] at this; exact this
      clear hR hS hB
      go_wp2_with first
        | (go_at_call 10; ((with_reducible refine (HI1.out).mono ?_); rintro e w5 ⟨g3, rfl, hg3, ha5, hb5⟩; have ha := Lib.hid ha5; have hbb := Lib.hid hb5; have S6 := Lib.hid (S5.out.below hb5); clear ha5 hb5))
        | (go_at_call 10; ((with_reducible refine (HI2.out _ S6.out).mono ?_); rintro e w6 ⟨g4, rfl, hg4, hc6, hb6⟩; have hc := Lib.hid hc6; have hbc := Lib.hid hb6; clear hc6 hb6))
      have B6 : Below gt w2 w6 := (hBh.out.trans (hbb.out.mono hgw)).trans (hbc.out.mono (Nat.le_trans hgw hbb.out.size))
      have hx6 := Lib.hid (hx2h.out.of_block (B6.block _ hg1lt))
      have ha6 := Lib.hid (ha.out.of_block (hbc.out.block _ ha.out.lt))
      have hB6 := Lib.hid (hb2h.out.trans (B6.mono hwgt))
      clear B6 hBh hbb hbc HI1 HI2 S5 S6 ha
      go_loopw [15] (fun i u => ∃ k : Nat, k ≤ 512 ∧ i = .int .i64 k ∧ Hid (u.rowIs g1 3 512 (fun j => .int .i64 (bk zs 256 1 26 j))) ∧ Hid (u.rowIs g3 3 512 (fun j => .int .i64 (bk (lst (onef zs ys) 256) 256 1 26 j))) ∧ Hid (u.rowIs g4 3 512 (fun j => .int .i64 (bk (lst (twof zs ys) 256) 256 1 26 j))) ∧ Hid (Below w.heap.size w u)) (fun i _ => 512 - (intOf i).toNat)
      case atStart => exact ⟨0, by omega, rfl, hx6, ha6, hc, hB6⟩
      case round =>
        obtain ⟨k, hk, rfl, hX, hY, hZ, hB⟩ := hrel
        clear hx6 ha6 hc hB6
        by_cases hlt : k < 512
        · have hk2 : (k : Int) < 512 := by omega
          have e1 := bk_sum (x := zs) (y := lst (onef zs ys) 256) (z := lst (twof zs ys) 256) (m := 256) (s := 1) (b := 26) (by decide) k (fun j hj => by rw [lst_at _ (by omega), lst_at _ (by omega)]; unfold twof; omega)
          obtain ⟨n0, n1⟩ := HBD.out k
          have c0 := hX.out.cell hlt
          have c1 := hY.out.cell hlt
          have c2 := hZ.out.cell hlt
          generalize bk zs 256 1 26 k = X at *
          generalize bk (lst (onef zs ys) 256) 256 1 26 k = Y at *
          generalize bk (lst (twof zs ys) 256) 256 1 26 k = Z at *
          obtain ⟨T, hT⟩ : ∃ T, Y + Z = T := ⟨_, rfl⟩
          rw [hT] at e1
          obtain ⟨D, hD⟩ : ∃ D, T - X = D := ⟨_, rfl⟩
          rw [hD] at e1
          obtain ⟨d0, d1⟩ := e1
          have hxt : IntKind.i64.wrap (Y + Z) = T := by rw [hT]; exact wrap_in (by omega) (by omega)
          have hxw : IntKind.i64.wrap (T - X) = D := by rw [hD]; exact wrap_in (by omega) (by omega)
          clear hD hT n0 n1
          go_wp2
          go_quiet (fail)
          have hbd := drewN_belowL wr nq
          have hX1 := Lib.hid (hX.out.of_block (hbd.block _ hX.out.lt))
          have hY1 := Lib.hid (hY.out.of_block (hbd.block _ hY.out.lt))
          have hZ1 := Lib.hid (hZ.out.of_block (hbd.block _ hZ.out.lt))
          have hB1 := Lib.hid (hB.out.trans (hbd.mono hB.out.size))
          go_wp2
          go_roundw
          case rel => exact ⟨k + 1, by omega, by go_num, hX1, hY1, hZ1, hB1⟩
          case measure => simp [intOf]; omega
        · have hend : k = 512 := by omega
          subst hend
          clear hlt
          have hBl := hB.out
          go_wp2
          go_ret
          exact ⟨rfl, hBl⟩
set_option maxRecDepth 100000 in
set_option maxHeartbeats 8000000 in
theorem good32 (A A' : Option Addr) (cap cap' lb : Nat) (zs ys : List Int) (w : World) (hl : zs.length = 32) (h : RdA w A zs) (hM : InM 268435455 zs) (hl' : ys.length = lb) (hb' : ¬ 1000 < (lb : Int)) (h' : RdK .i8 w A' ys) (hy : ∀ j, -128 ≤ ys.getD j 0 ∧ ys.getD j 0 ≤ 127) :
    Calls Try.prog 6 #[.slice A 32 cap, .slice A' lb cap'] w fun e w' => e = .returned (.bool true) ∧ Below w.heap.size w w' := by
  obtain ⟨i0, hi, hz0, hz1, hz2⟩ := info_parts info3
  have HA := Lib.hid (alive_ok w)
  have HX := Lib.hid (fun w1 r => inv_ok A cap zs 32 64 32 8 23 w1 hl (.inr ⟨rfl, rfl, rfl, rfl, rfl⟩) r hM)
  have HI := Lib.hid (fun j (hj : j < 32) => hM j (hl ▸ hj))
  have HR := Lib.hid h
  have HY := Lib.hid h'
  have HYB := Lib.hid hy
  have HL := Lib.hid hl
  have HL' := Lib.hid hl'
  have HBD := Lib.hid (fun k => bk_bd (s := 8) (b := 23) (m := 32) (by decide) (by decide) hM k)
  clear h hM hl h' hy hl'
  go_enter Try.func6, Try.ntmps6
  go_wp2_with first
    | (go_at_call 11; ((with_reducible refine (HA.out).mono ?_); rintro e w1 ⟨rfl, hb1⟩; have hb1h := Lib.hid hb1; have r1 := Lib.hid (HR.out.below hb1); clear hb1))
    | (go_at_call 10; ((with_reducible refine (HX.out _ r1.out).mono ?_); rintro e w2 ⟨g1, rfl, hg1, hx2, hb2⟩; have hx2h := Lib.hid hx2; have hb2h := Lib.hid (hb1h.out.trans (hb2.mono hb1h.out.size)); clear hx2 hb2))
    | (refine wpList_make_row _ rfl _ _ 22 rfl 3 i0 (.int .i64 0) Try.underlying22 hi hz0 hz1 rfl .i64 .i64 32 rfl rfl (by rw [hz2]; omega) (by omega) ?_)
  obtain ⟨hT1, hT2, bx⟩ := two_rows w2 32
  have hT1h := Lib.hid (hT1.congr (g := upto (onef zs ys) (fun _ => 0) 0) (fun i _ => by unfold upto; simp))
  have hT2h := Lib.hid (hT2.congr (g := upto (twof zs ys) (fun _ => 0) 0) (fun i _ => by unfold upto; simp))
  have bxh := Lib.hid bx
  have hg1lt : g1 < w2.heap.size := hx2h.out.lt
  have hwgt : w.heap.size ≤ w2.heap.size := hb2h.out.size
  obtain ⟨h2, hh2⟩ : ∃ h2, w2.heap.size + 1 = h2 := ⟨_, rfl⟩
  rw [hh2] at hT2h
  have hne : w2.heap.size ≠ h2 := by omega
  have hle : w2.heap.size ≤ h2 := by omega
  clear r1 hb1h HA HX hT1 hT2 bx
  rw [hh2]
  clear hh2
  generalize hgt : w2.heap.size = gt at *
  have HG := Lib.hid hgt
  clear hgt
  go_loopw [10] (fun i wr => ∃ k : Nat, k ≤ 32 ∧ i = .int .i64 k ∧ Hid (wr.rowIs gt 3 32 (upto (onef zs ys) (fun _ => 0) k)) ∧ Hid (wr.rowIs h2 3 32 (upto (twof zs ys) (fun _ => 0) k)) ∧ Hid (Below gt w2 wr)) (fun i _ => 32 - (intOf i).toNat)
  case atStart => exact ⟨0, by omega, rfl, hT1h, hT2h, bxh⟩
  case round =>
    obtain ⟨k, hk, rfl, hR, hS, hB⟩ := hrel
    clear hT1h hT2h bxh
    by_cases hlt : k < 32
    · have hlt2 : (k : Int) < 32 := by omega
      obtain ⟨b, off, rfl, hbl, cz⟩ := HR.out k (by rw [HL.out]; exact hlt)
      have hBw : Below w.heap.size w wr := hb2h.out.trans (hB.out.mono hwgt)
      have cz := (hBw.cell (p := ⟨b, off + k, none⟩) hbl).trans cz
      have hbgt : b < gt := Nat.lt_of_lt_of_le hbl hwgt
      obtain ⟨x0, x1⟩ := HI.out k hlt
      obtain ⟨X, hX⟩ : ∃ X, zs.getD k 0 = X := ⟨_, rfl⟩
      rw [hX] at cz x0 x1
      obtain ⟨q, hq⟩ : ∃ q, Int.tdiv X 2 = q := ⟨_, rfl⟩
      have hqb : -134217728 ≤ q ∧ q ≤ 134217728 ∧ -134217728 ≤ X - q ∧ X - q ≤ 134217728 := half_bd hq x0 x1
      obtain ⟨q0, q1, q2, q3⟩ := hqb
      have gc := upto_at hR.out hlt (Nat.le_refl _)
      have gf := hR.out.frozen k
      have Ra := Lib.hid (hR.out.set k (.int .i64 q))
      have Sa := Lib.hid (hS.out.setOther (a := ⟨gt, k, none⟩) hne.symm (.int .i64 q))
      have Ba := Lib.hid (hB.out.setCell (p := ⟨gt, k, none⟩) (Nat.le_refl _) (.int .i64 q))
      have ca : (wr.setCell ⟨gt, k, none⟩ (.int .i64 q)).cell? ⟨gt, k, none⟩ = some (.int .i64 q) := World.cell?_setCell_same wr _ _ gc
      have fa := Ra.out.frozen k
      have cza : (wr.setCell ⟨gt, k, none⟩ (.int .i64 q)).cell? ⟨b, off + k, none⟩ = some (.int .i64 X) := (World.cell?_of_block (heap_oth _ (Nat.ne_of_gt hbgt))).trans cz
      by_cases hby : k < lb
      · have hby2 : (k : Int) < lb := by omega
        obtain ⟨b', off', rfl, hbl', cy⟩ := HY.out k (by rw [HL'.out]; exact hby)
        have cy := (hBw.cell (p := ⟨b', off' + k, none⟩) hbl').trans cy
        have hbgt' : b' < gt := Nat.lt_of_lt_of_le hbl' hwgt
        obtain ⟨y0, y1⟩ := HYB.out k
        have cya : (wr.setCell ⟨gt, k, none⟩ (.int .i64 q)).cell? ⟨b', off' + k, none⟩ = some (.int .i8 (ys.getD k 0)) := (World.cell?_of_block (heap_oth _ (Nat.ne_of_gt hbgt'))).trans cy
        obtain ⟨Y, hY⟩ : ∃ Y, ys.getD k 0 = Y := ⟨_, rfl⟩
        rw [hY] at y0 y1 cya
        clear hR hS hB hBw cy
        go_wp2
        clear gc gf cz
        generalize wr.setCell ⟨gt, k, none⟩ (.int .i64 q) = wa at *
        have hyk : onef zs ys k = q + Y := by unfold onef; rw [hX, hq, hY]
        have Rb := Lib.hid (upto_over Ra.out hyk.symm)
        have Sb := Lib.hid (Sa.out.setOther (a := ⟨gt, k, none⟩) hne.symm (.int .i64 (q + Y)))
        have Bb := Lib.hid (Ba.out.setCell (p := ⟨gt, k, none⟩) (Nat.le_refl _) (.int .i64 (q + Y)))
        have czb : (wa.setCell ⟨gt, k, none⟩ (.int .i64 (q + Y))).drew.cell? ⟨b, off + k, none⟩ = some (.int .i64 X) := (World.cell?_of_block (heap_oth _ (Nat.ne_of_gt hbgt))).trans cza
        have Rb := Lib.hid Rb.out.drew
        have Sb := Lib.hid Sb.out.drew
        have Bb := Lib.hid Bb.out.drew
        clear Ra Sa Ba
        go_region
        go_wp2
        clear ca fa cza cya
        generalize (wa.setCell ⟨gt, k, none⟩ (.int .i64 (q + Y))).drew = wb at *
        obtain ⟨V, hV⟩ : ∃ V, q + Y = V := ⟨_, rfl⟩
        rw [hV] at hyk
        have v0 : -134217856 ≤ X - V ∧ X - V ≤ 134217856 := by omega

        have c1 : wb.cell? ⟨gt, k, none⟩ = some (.int .i64 V) := by
          have := Rb.out.cell hlt
          rw [upto_new, hyk] at this
          exact this
        have c2 := upto_at Sb.out hlt (Nat.le_refl _)
        have f2 := Sb.out.frozen k
        obtain ⟨U, hU⟩ : ∃ U, X - V = U := ⟨_, rfl⟩
        rw [hU] at v0
        obtain ⟨v1, v2⟩ := v0
        have gR1 := Lib.hid (Rb.out.setOther (a := ⟨h2, k, none⟩) hne (.int .i64 U)).drew
        have gR2 := Lib.hid (upto_step (v := U) Sb.out (by unfold twof; rw [hX, hyk, hU])).drew
        have gB := Lib.hid (Bb.out.setCell (p := ⟨h2, k, none⟩) hle (.int .i64 U)).drew
        clear Rb Sb Bb
        go_region
        go_wp2
        go_roundw
        case rel => exact ⟨k + 1, by omega, by go_num, gR1, gR2, gB⟩
        case measure => simp [intOf]; omega
      · have hyk : onef zs ys k = q := by
          unfold onef
          have e : ys.getD k 0 = 0 := by simp [List.getElem?_eq_none (by rw [HL'.out]; omega : ys.length ≤ k)]
          rw [hX, hq, e]; omega
        have hby2 : ¬ (k : Int) < lb := by omega
        have Rb := Lib.hid (upto_once Ra.out hyk.symm)
        clear hR hS hB hBw Ra
        go_wp2
        clear gc gf cz ca
        generalize wr.setCell ⟨gt, k, none⟩ (.int .i64 q) = wb at *
        have czb := cza
        have Sb := Sa
        have Bb := Ba
        clear cza Sa Ba
        have v0 : -134217856 ≤ X - q ∧ X - q ≤ 134217856 := by omega

        have c1 : wb.cell? ⟨gt, k, none⟩ = some (.int .i64 q) := by
          have := Rb.out.cell hlt
          rw [upto_new, hyk] at this
          exact this
        have c2 := upto_at Sb.out hlt (Nat.le_refl _)
        have f2 := Sb.out.frozen k
        obtain ⟨U, hU⟩ : ∃ U, X - q = U := ⟨_, rfl⟩
        rw [hU] at v0
        obtain ⟨v1, v2⟩ := v0
        have gR1 := Lib.hid (Rb.out.setOther (a := ⟨h2, k, none⟩) hne (.int .i64 U)).drew
        have gR2 := Lib.hid (upto_step (v := U) Sb.out (by unfold twof; rw [hX, hyk, hU])).drew
        have gB := Lib.hid (Bb.out.setCell (p := ⟨h2, k, none⟩) hle (.int .i64 U)).drew
        clear Rb Sb Bb
        go_region
        go_wp2
        go_roundw
        case rel => exact ⟨k + 1, by omega, by go_num, gR1, gR2, gB⟩
        case measure => simp [intOf]; omega
    · have hend : k = 32 := by omega
      subst hend
      clear hlt
      have HI1 := Lib.hid (inv_ok (some ⟨gt, 0, none⟩) 32 (lst (onef zs ys) 32) 32 64 32 8 23 wr (lst_len _ _) (.inr ⟨rfl, rfl, rfl, rfl, rfl⟩) (rd_lst (upto_end hR.out)) (in_onef HI.out HYB.out))
      have HI2 := Lib.hid (fun w1 r => inv_ok (some ⟨h2, 0, none⟩) 32 (lst (twof zs ys) 32) 32 64 32 8 23 w1 (lst_len _ _) (.inr ⟨rfl, rfl, rfl, rfl, rfl⟩) r (in_twof HI.out HYB.out))
      have S5 := Lib.hid (rd_lst (upto_end hS.out))
      have hBh := Lib.hid hB.out
      have hgw : gt ≤ wr.heap.size := by have := hBh.out.size; rw [HG.out] at this; exact this
      clear hR hS hB
      go_wp2_with first
        | (go_at_call 10; ((with_reducible refine (HI1.out).mono ?_); rintro e w5 ⟨g3, rfl, hg3, ha5, hb5⟩; have ha := Lib.hid ha5; have hbb := Lib.hid hb5; have S6 := Lib.hid (S5.out.below hb5); clear ha5 hb5))
        | (go_at_call 10; ((with_reducible refine (HI2.out _ S6.out).mono ?_); rintro e w6 ⟨g4, rfl, hg4, hc6, hb6⟩; have hc := Lib.hid hc6; have hbc := Lib.hid hb6; clear hc6 hb6))
      have B6 : Below gt w2 w6 := (hBh.out.trans (hbb.out.mono hgw)).trans (hbc.out.mono (Nat.le_trans hgw hbb.out.size))
      have hx6 := Lib.hid (hx2h.out.of_block (B6.block _ hg1lt))
      have ha6 := Lib.hid (ha.out.of_block (hbc.out.block _ ha.out.lt))
      have hB6 := Lib.hid (hb2h.out.trans (B6.mono hwgt))
      clear B6 hBh hbb hbc HI1 HI2 S5 S6 ha
      go_loopw [15] (fun i u => ∃ k : Nat, k ≤ 64 ∧ i = .int .i64 k ∧ Hid (u.rowIs g1 3 64 (fun j => .int .i64 (bk zs 32 8 23 j))) ∧ Hid (u.rowIs g3 3 64 (fun j => .int .i64 (bk (lst (onef zs ys) 32) 32 8 23 j))) ∧ Hid (u.rowIs g4 3 64 (fun j => .int .i64 (bk (lst (twof zs ys) 32) 32 8 23 j))) ∧ Hid (Below w.heap.size w u)) (fun i _ => 64 - (intOf i).toNat)
      case atStart => exact ⟨0, by omega, rfl, hx6, ha6, hc, hB6⟩
      case round =>
        obtain ⟨k, hk, rfl, hX, hY, hZ, hB⟩ := hrel
        clear hx6 ha6 hc hB6
        by_cases hlt : k < 64
        · have hk2 : (k : Int) < 64 := by omega
          have e1 := bk_sum (x := zs) (y := lst (onef zs ys) 32) (z := lst (twof zs ys) 32) (m := 32) (s := 8) (b := 23) (by decide) k (fun j hj => by rw [lst_at _ (by omega), lst_at _ (by omega)]; unfold twof; omega)
          obtain ⟨n0, n1⟩ := HBD.out k
          have c0 := hX.out.cell hlt
          have c1 := hY.out.cell hlt
          have c2 := hZ.out.cell hlt
          generalize bk zs 32 8 23 k = X at *
          generalize bk (lst (onef zs ys) 32) 32 8 23 k = Y at *
          generalize bk (lst (twof zs ys) 32) 32 8 23 k = Z at *
          obtain ⟨T, hT⟩ : ∃ T, Y + Z = T := ⟨_, rfl⟩
          rw [hT] at e1
          obtain ⟨D, hD⟩ : ∃ D, T - X = D := ⟨_, rfl⟩
          rw [hD] at e1
          obtain ⟨d0, d1⟩ := e1
          have hxt : IntKind.i64.wrap (Y + Z) = T := by rw [hT]; exact wrap_in (by omega) (by omega)
          have hxw : IntKind.i64.wrap (T - X) = D := by rw [hD]; exact wrap_in (by omega) (by omega)
          clear hD hT n0 n1
          go_wp2
          go_quiet (fail)
          have hbd := drewN_belowL wr nq
          have hX1 := Lib.hid (hX.out.of_block (hbd.block _ hX.out.lt))
          have hY1 := Lib.hid (hY.out.of_block (hbd.block _ hY.out.lt))
          have hZ1 := Lib.hid (hZ.out.of_block (hbd.block _ hZ.out.lt))
          have hB1 := Lib.hid (hB.out.trans (hbd.mono hB.out.size))
          go_wp2
          go_roundw
          case rel => exact ⟨k + 1, by omega, by go_num, hX1, hY1, hZ1, hB1⟩
          case measure => simp [intOf]; omega
        · have hend : k = 64 := by omega
          subst hend
          clear hlt
          have hBl := hB.out
          go_wp2
          go_ret
          exact ⟨rfl, hBl⟩
set_option maxRecDepth 100000 in
theorem long (A A' : Option Addr) (cap cap' len len' : Nat) (w : World) (hl : 1000 < (len : Int) ∨ 1000 < (len' : Int)) : Calls Try.prog 6 #[.slice A len cap, .slice A' len' cap'] w fun e w' => e = .returned (.bool true) ∧ Below w.heap.size w w' := by
  have HA := Lib.hid (alive_ok w)
  by_cases h1 : 1000 < (len : Int)
  · clear hl
    go_enter Try.func6, Try.ntmps6
    go_wp2_with (go_at_call 11; ((with_reducible refine (HA.out).mono ?_); rintro e w1 ⟨rfl, hb1⟩; have hb1h := Lib.hid hb1; clear hb1))
    go_ret
    exact ⟨rfl, hb1h.out⟩
  · have h2 : 1000 < (len' : Int) := by omega
    clear hl
    go_enter Try.func6, Try.ntmps6
    go_wp2_with (go_at_call 11; ((with_reducible refine (HA.out).mono ?_); rintro e w1 ⟨rfl, hb1⟩; have hb1h := Lib.hid hb1; clear hb1))
    go_ret
    exact ⟨rfl, hb1h.out⟩
set_option maxRecDepth 100000 in
theorem bad (A A' : Option Addr) (cap cap' len len' : Nat) (zs : List Int) (w : World) (hl : ¬ 1000 < (len : Int)) (hl' : ¬ 1000 < (len' : Int)) (hn : zs.length = len) (h : RdA w A zs) (hb : ¬ ((len = 256 ∨ len = 32) ∧ InM 268435455 zs)) : Calls Try.prog 6 #[.slice A len cap, .slice A' len' cap'] w fun e w' => e = .returned (.bool true) ∧ Below w.heap.size w w' := by
  have HA := Lib.hid (alive_ok w)
  have HR := Lib.hid h
  have HI := Lib.hid (fun w1 r => inv_bad A cap zs len w1 hn r hb)
  clear h hn hb
  go_enter Try.func6, Try.ntmps6
  go_wp2_with first
    | (go_at_call 11; ((with_reducible refine (HA.out).mono ?_); rintro e w1 ⟨rfl, hb1⟩; have hb1h := Lib.hid hb1; have r1 := Lib.hid (HR.out.below hb1); clear hb1))
    | (go_at_call 10; ((with_reducible refine (HI.out _ r1.out).mono ?_); rintro e w2 ⟨c, hc, rfl, rfl⟩; have hc2 : (c != 0) = true := (bne_of hc)))
  go_ret
  exact ⟨rfl, hb1h.out⟩
theorem i8_bd {ys : List Int} (h : ∀ n ∈ ys, (Lit.int .i8 n).wf = true) (j : Nat) : -128 ≤ ys.getD j 0 ∧ ys.getD j 0 ≤ 127 := by
  by_cases hj : j < ys.length
  · have e : ys.getD j 0 = ys[j] := by simp [hj]
    have q := h _ (List.getElem_mem hj)
    rw [e]
    simp [Lit.wf, IntKind.min, IntKind.max, IntKind.signed, IntKind.bits] at q
    omega
  · have e : ys.getD j 0 = 0 := by simp [List.getElem?_eq_none (by omega : ys.length ≤ j)]
    rw [e]; omega
theorem walk (a0 : Option Addr) (len0 cap0 : Nat) (z0 : List Int) (a1 : Option Addr) (len1 cap1 : Nat) (z1 : List Int) (W : World) (w0 : IsRow .i64 W a0 len0 cap0 z0) (w1 : IsRow .i8 W a1 len1 cap1 z1) : Calls Try.prog 6 #[.slice a0 len0 cap0, .slice a1 len1 cap1] W fun e w' => e = .returned (.bool true) ∧ Below W.heap.size W w' := by
  obtain ⟨xs, hl, hr, _, _⟩ := w0.open
  obtain ⟨ys, hl', hr', _, hw'⟩ := w1.open
  by_cases h0 : 1000 < (len0 : Int)
  · exact long a0 a1 cap0 cap1 len0 len1 W (.inl h0)
  by_cases h0' : 1000 < (len1 : Int)
  · exact long a0 a1 cap0 cap1 len0 len1 W (.inr h0')
  by_cases h1 : (len0 = 256 ∨ len0 = 32) ∧ InM 268435455 xs
  · obtain ⟨h2 | h2, h3⟩ := h1
    · subst h2; exact good256 a0 a1 cap0 cap1 len1 xs ys W hl hr h3 hl' h0' hr' (i8_bd hw')
    · subst h2; exact good32 a0 a1 cap0 cap1 len1 xs ys W hl hr h3 hl' h0' hr' (i8_bd hw')
  · exact bad a0 a1 cap0 cap1 len0 len1 xs W h0 h0' hl hr h1
theorem own : ownKnob Try.prog.godebug = none := by kernel_rfl
theorem laidOut : laidOutB Try.prog = true := by kernel_rfl
set_option linter.unusedVariables false
set_option maxRecDepth 100000 in
theorem lifted (os : Os) (started : os.Started) (H : Type) (enc : TypeId × Value → H) :
    ReturnsInHanded {} Try.checked os 6 .any (Rows.mdctSumsSpec.pre6 enc Try.prog Try.f6 Rows.mdctSumsRow.domain false) (Rows.mdctSumsSpec.post enc Try.prog Try.f6 false true false false) := by
  refine returnsInHanded_of_change (C := Try.checked) own started (by kernel_rfl) Try.func6
    (ChangeSpec.witness6 (enc := enc) (C := Try.checked) false ⟨#[], #[.slice none 0 0, .slice none 0 0], []⟩ 8 (by kernel_rfl) (by kernel_rfl) (by kernel_rfl) (by kernel_rfl)) ?_
  intro W base args ds gs before hval0 hW hcnd _
  have hval : ∀ (j : Nat) t v, Try.f6.params[j]? = some t → args[j]? = some v → Value.okWide Try.prog W .any base t v := hval0
  have hW' := hW
  obtain ⟨p, q, hA0, hV, rfl, hfz, hnd⟩ := hW
  have hA : DataW.TrodAll enc Try.prog W 0 (fun _ => true) true Try.f6.params.toList args.toList ds p := hA0
  rw [Try.params6] at hA hval
  obtain ⟨v0, vs0, d0, ds0, p0, q0, hargs, rfl, rfl, h0, r0⟩ := trodAll_cons hA
  obtain ⟨v1, vs1, d1, ds1, p1, q1, rfl, rfl, rfl, h1, r1⟩ := trodAll_cons r0
  obtain ⟨rfl, rfl, rfl⟩ := trodAll_nil r1
  obtain rfl : args = #[v0, v1] := by cases args; simp_all
  obtain ⟨rfl, rfl⟩ := trodVars_none hV
  obtain ⟨a0, len0, cap0, rfl⟩ := okWide_slice Try.underlying22 (hval 0 22 v0 rfl rfl)
  have k0 := h0
  have lt0 : ∀ x ∈ p0, x.block < W.heap.size := by obtain ⟨m, hm⟩ := k0; exact DataW.trod_lt m _ _ _ hm
  obtain ⟨z0, w0⟩ : ∃ zs, IsRow .i64 W a0 len0 cap0 zs := by
    obtain ⟨fuel, hf⟩ := h0
    rcases open_ints Try.underlying22 Try.underlying3 (by kernel_rfl) hf with ⟨hcs, _⟩ | ⟨x, l, c, zs, hcs, _, hl, hm, hz, _, hcell, hwz⟩
    · simp [Value.cells] at hcs
      obtain ⟨rfl, rfl, rfl⟩ := hcs
      exact ⟨[], .inl ⟨rfl, rfl, rfl, rfl⟩⟩
    · simp [Value.cells] at hcs
      obtain ⟨rfl, rfl, rfl⟩ := hcs
      exact ⟨zs, .inr ⟨_, rfl, hl, hm, by simpa using hz, hcell, hwz⟩⟩
  obtain ⟨a1, len1, cap1, rfl⟩ := okWide_slice Try.underlying32 (hval 1 32 v1 rfl rfl)
  have k1 := h1
  have lt1 : ∀ x ∈ p1, x.block < W.heap.size := by obtain ⟨m, hm⟩ := k1; exact DataW.trod_lt m _ _ _ hm
  obtain ⟨z1, w1⟩ : ∃ zs, IsRow .i8 W a1 len1 cap1 zs := by
    obtain ⟨fuel, hf⟩ := h1
    rcases open_ints Try.underlying32 Try.underlying33 (by kernel_rfl) hf with ⟨hcs, _⟩ | ⟨x, l, c, zs, hcs, _, hl, hm, hz, _, hcell, hwz⟩
    · simp [Value.cells] at hcs
      obtain ⟨rfl, rfl, rfl⟩ := hcs
      exact ⟨[], .inl ⟨rfl, rfl, rfl, rfl⟩⟩
    · simp [Value.cells] at hcs
      obtain ⟨rfl, rfl, rfl⟩ := hcs
      exact ⟨zs, .inr ⟨_, rfl, hl, hm, by simpa using hz, hcell, hwz⟩⟩
  clear hA0 hval0
  refine (walk a0 len0 cap0 z0 a1 len1 cap1 z1 W w0 w1).mono fun e W' ⟨he, bel⟩ => ?_
  subst he
  exact ⟨_, rfl, _, _, _, [], _, [], hW', trodAll_mk1 (shut_bool Try.underlying4 _), (trodAll_cons_mk (Below.trod laidOut (by kernel_rfl) (of_decide_eq_true (by kernel_rfl)) k0 bel lt0) (trodAll_cons_mk (Below.trod laidOut (by kernel_rfl) (of_decide_eq_true (by kernel_rfl)) k1 bel lt1) trodAll_mk0)), rfl, bel.frame _, fun h => by cases h⟩

theorem over : Rows.mdctSumsRow.holds Try.pinned (OpenSpec.ofChange Rows.mdctSumsSpec) :=
  OpenClaim.holds_of_wide 6 Try.f6 rfl rfl rfl rfl rfl rfl rfl ⟨rfl, rfl, rfl, rfl, rfl⟩ rfl rfl rfl rfl rfl (by kernel_rfl) Try.func6 (by kernel_rfl)
    (of_decide_eq_true (by kernel_rfl)) (by unfold Func.isWrapper; first | (rw [if_pos (by decide +kernel)]; kernel_rfl) | (rw [if_neg (by decide +kernel)]; exact ⟨rfl, rfl⟩))
    (fun os started H enc _ => lifted os started H enc)

theorem proved : Rows.MdctSumsSaid := over
end Go.Proofs.Ytbgbjbhgelllbaa.mdctSums
