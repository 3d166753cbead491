/- Samples that are turned over have lines that are turned over, to 1; and a sample that is 1 more turns no line by more than 1. MdctTurns returns true, whatever the samples and the place, the memory and the schedule. No condition. -/
import Derived.Test.YtbgbjbhgelllbaaMdAl
import Derived.WalkKit
import Derived.Below
import Derived.RegionTactic
import Derived.Deep.QuietTactic
import Derived.BigQuiet
import Derived.ChangeAlike
import Derived.Deep.OwnRows
import Derived.ProofKit
import Derived.OpenShut
import Derived.ChangeSlices
import Derived.Great.Walk
import Derived.ChangeKeysEq
import Derived.Laws.AppendOwn
import Derived.Laws.OwnMore
import Derived.OwnWalk
import Derived.Lib.Hide
import Derived.ChangeOld
namespace Go.Proofs.Ytbgbjbhgelllbaa.mdctTurns
open Go Go.ChangeShapes Go.WideShapes Go.ChangeAt Go.RowKit Go.Proofs.Ytbgbjbhgelllbaa.Fx Go.Proofs.Ytbgbjbhgelllbaa.Mm Go.Proofs.Ytbgbjbhgelllbaa.Md
theorem cells_of {w : World} {b off : Nat} {zs : List Int} (r : RdA w (some ⟨b, off, none⟩) zs) : ∀ j u, (zs.map (Value.int .i64))[j]? = some u → w.cell? ((⟨b, off, none⟩ : Addr).add j) = some u := by
  intro j u hu
  rw [List.getElem?_map] at hu
  by_cases hj : j < zs.length
  · obtain ⟨b', off', e, _, c⟩ := r j hj
    simp only [Option.some.injEq, Addr.mk.injEq, and_true] at e
    obtain ⟨rfl, rfl⟩ := e
    rw [add_at, c, ← hu]
    simp [hj]
  · rw [List.getElem?_eq_none (by omega)] at hu
    simp at hu
theorem made_below {w w2 : World} (h : Below w.heap.size w w2) (n : Nat) : Below w.heap.size w (w2.alloc (.cells (madeCells #[.int .i64 0] n) 3)) := h.alloc h.size _
theorem in_neg {zs : List Int} {n : Nat} {M : Int} (h : ∀ j, j < n → -M ≤ zs.getD j 0 ∧ zs.getD j 0 ≤ M) : InM M (lst (fun j => -zs.getD j 0) n) := by
  intro j hj
  rw [lst_len] at hj
  rw [lst_at _ hj]
  have := h j hj
  omega
/-- One number of a list is one more. -/
def plus (zs : List Int) (i j : Nat) : Int := if j = i then zs.getD i 0 + 1 else zs.getD j 0
theorem plus_at {zs : List Int} {i : Nat} : plus zs i i = zs.getD i 0 + 1 := if_pos rfl
theorem plus_oth {zs : List Int} {n i j : Nat} (hl : zs.length = n) (hj : j ≠ i) : (lst (plus zs i) n).getD j 0 = zs.getD j 0 := by
  by_cases h : j < n
  · rw [lst_at _ h]; exact if_neg hj
  · rw [lst_out _ (by omega)]
    simp [List.getElem?_eq_none (by omega : zs.length ≤ j)]
theorem in_plus {zs : List Int} {n i : Nat} (h : ∀ j, j < n → -8388608 ≤ zs.getD j 0 ∧ zs.getD j 0 ≤ 8388608) (hi : zs.getD i 0 < 8388608) (hi2 : i < n) : InM 8388608 (lst (plus zs i) n) := by
  intro j hj
  rw [lst_len] at hj
  rw [lst_at _ hj]
  have a := h j hj
  have b := h i hi2
  unfold plus
  split <;> omega
theorem rd_over {w : World} {go cap n i : Nat} {F : Nat → Value} {zs : List Int} (r : w.rowIs go 3 cap F) (hc : n ≤ cap) (hF : ∀ j, j < n → F j = .int .i64 (zs.getD j 0)) :
    RdA (w.setCell ⟨go, i, none⟩ (.int .i64 (zs.getD i 0 + 1))) (some ⟨go, 0, none⟩) (lst (plus zs i) n) := fun j hj => by
  rw [lst_len] at hj
  have r2 := r.set i (.int .i64 (zs.getD i 0 + 1))
  refine ⟨go, 0, rfl, r2.lt, ?_⟩
  rw [Nat.zero_add, r2.cell (by omega), lst_at _ hj]
  unfold plus
  by_cases h : j = i
  · rw [if_pos h, if_pos h]
  · rw [if_neg h, if_neg h, hF j hj]
theorem wrap_small {x : Int} (h0 : -1000 ≤ x) (h1 : x ≤ 1000) : IntKind.i64.wrap x = x := by
  simp [IntKind.wrap, IntKind.bits, IntKind.signed]; omega
/-- What append made, as a row. -/
theorem own_row {w : World} {base n k : Nat} {v : Value} {zs : List Int} (h : w.ownsRow base 3 1 v (0 + k) ([] ++ zs.map (Value.int .i64))) (hn : zs.length = n) (hk : k = n) (h0 : 0 < n) :
    ∃ g cap F, v = .slice (some ⟨g, 0, none⟩) n cap ∧ base ≤ g ∧ n ≤ cap ∧ w.rowIs g 3 cap F ∧ ∀ j, j < n → F j = .int .i64 (zs.getD j 0) := by
  subst hk
  rw [Nat.zero_add, List.nil_append] at h
  obtain ⟨hx, ⟨rfl, hn0⟩ | ⟨g, cap, cur, rfl, hg, hh, hc, hm, hs, ht⟩⟩ := h
  · omega
  · refine ⟨g, cap, fun j => cur[j]?.getD (.int .i64 0), rfl, hg, hc, ⟨cur, hh, by omega, fun i hi => ?_⟩, fun j hj => ?_⟩
    · have : i < cur.size := by omega
      simp [this]
    · have e : (cur.toList.take (k * 1))[j]? = (zs.map (Value.int .i64))[j]? := by rw [ht]
      rw [List.getElem?_take_of_lt (by omega), List.getElem?_map] at e
      show cur[j]?.getD _ = _
      rw [← Array.getElem?_toList, e]
      have : j < zs.length := by omega
      simp [this]
set_option maxRecDepth 100000 in
set_option maxHeartbeats 8000000 in
theorem good512 (A : Option Addr) (cap : Nat) (zs : List Int) (at_ : Int) (w : World) (hl : zs.length = 512) (h : RdA w A zs) (hM : InM 8388608 zs) :
    Calls Try.prog 7 #[.slice A 512 cap, .int .i64 at_] w fun e w' => e = .returned (.bool true) ∧ Below w.heap.size w w' := by
  obtain ⟨i0, hi, hz0, hz1, hz2⟩ := info_parts info3
  have HA := Lib.hid (alive_ok w)
  have HX := Lib.hid (fun w1 r => fwd_ok A cap zs 512 256 256 1 w1 hl (.inl ⟨rfl, rfl, rfl, rfl⟩) r hM)
  have HI := Lib.hid (fun j (hj : j < 512) => hM j (hl ▸ hj))
  have HR := Lib.hid h
  obtain ⟨b, off, rfl, hblt, _⟩ := h 0 (by omega)
  have HC := Lib.hid (fun w1 (r : RdA w1 (some ⟨b, off, none⟩) zs) => cells_of r)
  have HL := Lib.hid hl
  clear h hM hl
  go_enter Try.func7, Try.ntmps7
  go_wp2_with first
    | (go_at_call 11; ((with_reducible refine (HA.out).mono ?_); rintro e w1 ⟨rfl, hb1⟩; have hb1h := Lib.hid hb1; have r1 := Lib.hid (HR.out.below hb1); clear hb1))
    | (go_at_call 9; ((with_reducible refine (HX.out _ r1.out).mono ?_); rintro e w2 ⟨g1, rfl, hg1, hx2, hb2⟩; have hx2h := Lib.hid hx2; have hb2h := Lib.hid (hb1h.out.trans (hb2.mono hb1h.out.size)); clear hx2 hb2))
    | (refine wpList_make_row _ rfl _ _ 22 rfl 3 i0 (.int .i64 0) Try.underlying22 hi hz0 hz1 rfl .i64 .i64 512 rfl rfl (by rw [hz2]; omega) (by omega) ?_)
    | (at_builtin; refine wpList_append_own _ rfl _ (.tmp 39) 22 rfl (w2.alloc (.cells (madeCells #[.int .i64 0] 512) 3)).heap.size 3 i0 (.int .i64 0) 1 8 Try.underlying22 hi hz0 hz1 hz2 rfl (by decide) _ _ _ rfl (World.ownsRow_nil _ (w2.alloc (.cells (madeCells #[.int .i64 0] 512) 3)).heap.size 3 1) ⟨b, off, none⟩ 512 cap (zs.map (Value.int .i64)) rfl (by simp [HL.out]) (HC.out _ (HR.out.below (made_below hb2h.out 512))) (one64 _) (by unfold maxLen; omega) (by omega) (Nat.le_refl _) ?_; intro v4 w4 hown4 hgrow4 _; have hown := Lib.hid hown4; have hgrow := Lib.hid hgrow4; clear hown4 hgrow4)
  obtain ⟨go, cap', F, rfl, hgo, hcap', hF, hFz⟩ := own_row hown.out HL.out rfl (by decide)
  have eW3 : (w2.alloc (.cells (madeCells #[.int .i64 0] 512) 3)).heap.size = w2.heap.size + 1 := by simp
  have b4 : Below (w2.alloc (.cells (madeCells #[.int .i64 0] 512) 3)).heap.size (w2.alloc (.cells (madeCells #[.int .i64 0] 512) 3)) w4 := (Below.refl _ _).grown hgrow.out (Nat.le_refl _) (fun k hk => by cases hk)
  have mk := World.rowIs_made w2 (.int .i64 0) 512 3
  have hT4 := Lib.hid ((mk.of_block (b4.block _ mk.lt)).congr (g := upto (fun j => -zs.getD j 0) (fun _ => 0) 0) (fun i _ => by unfold upto; simp))
  have bx := Lib.hid (((Below.refl w2.heap.size w2).alloc (Nat.le_refl _) (.cells (madeCells #[.int .i64 0] 512) 3)).trans (b4.mono (by omega)))
  have hne : w2.heap.size ≠ go := by omega
  have hg1lt : g1 < w2.heap.size := hx2h.out.lt
  have hg1go : g1 ≠ go := by omega
  have hwgt : w.heap.size ≤ w2.heap.size := hb2h.out.size
  have hwgo : w.heap.size ≤ go := by omega
  have hFh := Lib.hid hF
  have hFzh := Lib.hid hFz
  clear eW3 b4 mk hgo hF hFz hown hgrow HC r1 hb1h HA HX
  generalize hgt : w2.heap.size = gt at *
  have HG := Lib.hid hgt
  clear hgt
  go_loopw [10] (fun i wr => ∃ k : Nat, k ≤ 512 ∧ i = .int .i64 k ∧ Hid (wr.rowIs gt 3 512 (upto (fun j => -zs.getD j 0) (fun _ => 0) k)) ∧ Hid (wr.rowIs go 3 cap' F) ∧ Hid (Below gt w2 wr)) (fun i _ => 512 - (intOf i).toNat)
  case atStart => exact ⟨0, by omega, rfl, hT4, hFh, bx⟩
  case round =>
    obtain ⟨k, hk, rfl, hT, hO, hB⟩ := hrel
    clear hT4 hFh bx
    have hzr := Lib.hid (HR.out.below (hb2h.out.trans (hB.out.mono hwgt)))
    by_cases hlt : k < 512
    · have hlt2 : (k : Int) < 512 := by omega
      obtain ⟨_, _, e, _, cz⟩ := hzr.out k (by rw [HL.out]; exact hlt)
      simp only [Option.some.injEq, Addr.mk.injEq, and_true] at e
      obtain ⟨rfl, rfl⟩ := e
      obtain ⟨x0, x1⟩ := HI.out k hlt
      have gc := upto_at hT.out hlt (Nat.le_refl _)
      have gf := hT.out.frozen k
      have gT := Lib.hid (upto_step (v := -zs.getD k 0) hT.out rfl)
      have gO := Lib.hid (hO.out.setOther (a := ⟨gt, k, none⟩) hne.symm (.int .i64 (-zs.getD k 0)))
      have gB := Lib.hid (hB.out.setCell (p := ⟨gt, k, none⟩) (Nat.le_refl _) (.int .i64 (-zs.getD k 0)))
      clear hT hO hB hzr
      generalize zs.getD k 0 = X at *
      go_wp2
      go_roundw
      case rel => exact ⟨k + 1, by omega, by go_num, gT, gO, gB⟩
      case measure => simp [intOf]; omega
    · have hend : k = 512 := by omega
      subst hend
      have hlt2 : ¬ ((512 : Nat) : Int) < 512 := by decide
      have HY := Lib.hid (fwd_ok (some ⟨gt, 0, none⟩) 512 (lst (fun j => -zs.getD j 0) 512) 512 256 256 1 wr (lst_len _ _) (.inl ⟨rfl, rfl, rfl, rfl⟩) (rd_lst (upto_end hT.out)) (in_neg HI.out))
      have hOh := Lib.hid hO.out
      have hBh := Lib.hid hB.out
      have hgowr : Hid (go < wr.heap.size) := Lib.hid hO.out.lt
      clear hzr hT hO hB
      go_wp2_with (go_at_call 9; ((with_reducible refine (HY.out).mono ?_); rintro e w5 ⟨g3, rfl, hg3, hy5, hb5⟩; have hy := Lib.hid hy5; have hbb := Lib.hid hb5; clear hy5 hb5))
      have hgw : gt ≤ wr.heap.size := by have := hBh.out.size; rw [HG.out] at this; exact this
      have B5 : Below gt w2 w5 := hBh.out.trans (hbb.out.mono hgw)
      have hx5 := Lib.hid (hx2h.out.of_block (B5.block _ hg1lt))
      have ho5 := Lib.hid (hOh.out.of_block (hbb.out.block _ hgowr.out))
      have hB5 := Lib.hid (hb2h.out.trans (B5.mono hwgt))
      have hsz5 := hbb.out.size
      clear B5 hBh hOh hbb hgowr HY
      go_loopw [13] (fun i u => ∃ k : Nat, k ≤ 256 ∧ i = .int .i64 k ∧ Hid (u.rowIs g1 3 256 (fun j => .int .i64 (fw zs 256 1 j))) ∧ Hid (u.rowIs g3 3 256 (fun j => .int .i64 (fw (lst (fun j => -zs.getD j 0) 512) 256 1 j))) ∧ Hid (u.rowIs go 3 cap' F) ∧ Hid (Below w.heap.size w u)) (fun i _ => 256 - (intOf i).toNat)
      case atStart => exact ⟨0, by omega, rfl, hx5, hy, ho5, hB5⟩
      case round =>
        obtain ⟨k, hk, rfl, hX, hY, hO, hB⟩ := hrel
        clear hx5 hy ho5 hB5
        by_cases hlt : k < 256
        · have hk2 : (k : Int) < 256 := by omega
          have e1 := fw_neg (z := zs) (y := lst (fun j => -zs.getD j 0) 512) (m := 256) (s := 1) k (fun j hj => lst_at _ (by omega))
          have c0 := hX.out.cell hlt
          have c1 := hY.out.cell hlt
          generalize fw zs 256 1 k = X at *
          generalize fw (lst (fun j => -zs.getD j 0) 512) 256 1 k = Y at *
          have hxy : X + Y = 0 ∨ X + Y = 1 := by omega
          clear e1
          rcases hxy with hxy | hxy
          all_goals
            have hxw : IntKind.i64.wrap (X + Y) = X + Y := by rw [hxy]; rfl
            go_wp2
            go_quiet (fail)
            have hbd := drewN_belowL wr nq
            have hX1 := Lib.hid (hX.out.of_block (hbd.block _ hX.out.lt))
            have hY1 := Lib.hid (hY.out.of_block (hbd.block _ hY.out.lt))
            have hO1 := Lib.hid (hO.out.of_block (hbd.block _ hO.out.lt))
            have hB1 := Lib.hid (hB.out.trans (hbd.mono hB.out.size))
            go_wp2
            go_roundw
            case rel => exact ⟨k + 1, by omega, by go_num, hX1, hY1, hO1, hB1⟩
            case measure => simp [intOf]; omega
        · have hend : k = 256 := by omega
          subst hend
          clear hlt hY
          have hzr := Lib.hid (HR.out.below hB.out)
          have hBl := hB.out
          by_cases ha : at_ < 0
          · go_wp2
            go_ret
            exact ⟨rfl, hBl⟩
          by_cases hb : (512 : Int) ≤ at_
          · go_wp2
            go_ret
            exact ⟨rfl, hBl⟩
          obtain ⟨i, rfl⟩ : ∃ i : Nat, at_ = (i : Int) := ⟨at_.toNat, by omega⟩
          clear ha
          have hin : i < 512 := by omega
          obtain ⟨_, _, e, _, cz⟩ := hzr.out i (by rw [HL.out]; exact hin)
          simp only [Option.some.injEq, Addr.mk.injEq, and_true] at e
          obtain ⟨rfl, rfl⟩ := e
          obtain ⟨x0, x1⟩ := HI.out i hin
          have hFi := hFzh.out i hin
          have co := hO.out.cell (i := i) (by omega)
          have fo := hO.out.frozen i
          rw [hFi] at co
          by_cases hc : 8388608 ≤ zs.getD i 0
          · clear hFi
            generalize zs.getD i 0 = Z at *
            go_wp2
            go_ret
            exact ⟨rfl, hBl⟩
          have HW := Lib.hid (fwd_ok (some ⟨go, 0, none⟩) cap' (lst (plus zs i) 512) 512 256 256 1 (wr.setCell ⟨go, i, none⟩ (.int .i64 (zs.getD i 0 + 1))) (lst_len _ _) (.inl ⟨rfl, rfl, rfl, rfl⟩) (rd_over hO.out hcap' hFzh.out) (in_plus HI.out (by omega) hin))
          have hX6 := Lib.hid (hX.out.setOther (a := ⟨go, i, none⟩) hg1go (.int .i64 (zs.getD i 0 + 1)))
          have hB6 := Lib.hid (hB.out.setCell (p := ⟨go, i, none⟩) hwgo (.int .i64 (zs.getD i 0 + 1)))
          clear hX hO hB hzr hBl hFi hFzh
          generalize zs.getD i 0 = Z at *
          go_wp2_with (go_at_call 9; ((with_reducible refine (HW.out).mono ?_); rintro e w7 ⟨g4, rfl, hg4, hw7, hb7⟩; have hw := Lib.hid hw7; have hbb := Lib.hid hb7; clear hw7 hb7))
          have hX7 := Lib.hid (hX6.out.of_block (hbb.out.block _ hX6.out.lt))
          have hB7 := Lib.hid (hB6.out.trans (hbb.out.mono hB6.out.size))
          clear hX6 hB6 hbb HW co fo cz hg4
          go_loopw [17] (fun i' u => ∃ k : Nat, k ≤ 256 ∧ i' = .int .i64 k ∧ Hid (u.rowIs g1 3 256 (fun j => .int .i64 (fw zs 256 1 j))) ∧ Hid (u.rowIs g4 3 256 (fun j => .int .i64 (fw (lst (plus zs i) 512) 256 1 j))) ∧ Hid (Below w.heap.size w u)) (fun i' _ => 256 - (intOf i').toNat)
          case atStart => exact ⟨0, by omega, rfl, hX7, hw, hB7⟩
          case round =>
            obtain ⟨k, hk, rfl, hX, hY, hB⟩ := hrel
            clear hX7 hw hB7
            by_cases hlt : k < 256
            · have hk2 : (k : Int) < 256 := by omega
              have e1 := fw_one (z := zs) (y := lst (plus zs i) 512) (m := 256) (s := 1) k i ((lst_at _ hin).trans plus_at) (fun j hj => plus_oth HL.out hj)
              have c0 := hX.out.cell hlt
              have c1 := hY.out.cell hlt
              generalize fw zs 256 1 k = X at *
              generalize fw (lst (plus zs i) 512) 256 1 k = Y at *
              obtain ⟨D, hD⟩ : ∃ D, Y - X = D := ⟨_, rfl⟩
              rw [hD] at e1
              obtain ⟨d0, d1⟩ := e1
              have hxw : IntKind.i64.wrap (Y - X) = D := by rw [hD]; exact wrap_small (by omega) (by omega)
              clear hD
              go_wp2
              go_quiet (fail)
              have hbd := drewN_belowL wr nq
              have hX1 := Lib.hid (hX.out.of_block (hbd.block _ hX.out.lt))
              have hY1 := Lib.hid (hY.out.of_block (hbd.block _ hY.out.lt))
              have hB1 := Lib.hid (hB.out.trans (hbd.mono hB.out.size))
              go_wp2
              go_roundw
              case rel => exact ⟨k + 1, by omega, by go_num, hX1, hY1, hB1⟩
              case measure => simp [intOf]; omega
            · have hend : k = 256 := by omega
              subst hend
              clear hlt
              have hBl := hB.out
              go_wp2
              go_ret
              exact ⟨rfl, hBl⟩
set_option maxRecDepth 100000 in
set_option maxHeartbeats 8000000 in
theorem good64 (A : Option Addr) (cap : Nat) (zs : List Int) (at_ : Int) (w : World) (hl : zs.length = 64) (h : RdA w A zs) (hM : InM 8388608 zs) :
    Calls Try.prog 7 #[.slice A 64 cap, .int .i64 at_] w fun e w' => e = .returned (.bool true) ∧ Below w.heap.size w w' := by
  obtain ⟨i0, hi, hz0, hz1, hz2⟩ := info_parts info3
  have HA := Lib.hid (alive_ok w)
  have HX := Lib.hid (fun w1 r => fwd_ok A cap zs 64 32 32 8 w1 hl (.inr ⟨rfl, rfl, rfl, rfl⟩) r hM)
  have HI := Lib.hid (fun j (hj : j < 64) => hM j (hl ▸ hj))
  have HR := Lib.hid h
  obtain ⟨b, off, rfl, hblt, _⟩ := h 0 (by omega)
  have HC := Lib.hid (fun w1 (r : RdA w1 (some ⟨b, off, none⟩) zs) => cells_of r)
  have HL := Lib.hid hl
  clear h hM hl
  go_enter Try.func7, Try.ntmps7
  go_wp2_with first
    | (go_at_call 11; ((with_reducible refine (HA.out).mono ?_); rintro e w1 ⟨rfl, hb1⟩; have hb1h := Lib.hid hb1; have r1 := Lib.hid (HR.out.below hb1); clear hb1))
    | (go_at_call 9; ((with_reducible refine (HX.out _ r1.out).mono ?_); rintro e w2 ⟨g1, rfl, hg1, hx2, hb2⟩; have hx2h := Lib.hid hx2; have hb2h := Lib.hid (hb1h.out.trans (hb2.mono hb1h.out.size)); clear hx2 hb2))
    | (refine wpList_make_row _ rfl _ _ 22 rfl 3 i0 (.int .i64 0) Try.underlying22 hi hz0 hz1 rfl .i64 .i64 64 rfl rfl (by rw [hz2]; omega) (by omega) ?_)
    | (at_builtin; refine wpList_append_own _ rfl _ (.tmp 39) 22 rfl (w2.alloc (.cells (madeCells #[.int .i64 0] 64) 3)).heap.size 3 i0 (.int .i64 0) 1 8 Try.underlying22 hi hz0 hz1 hz2 rfl (by decide) _ _ _ rfl (World.ownsRow_nil _ (w2.alloc (.cells (madeCells #[.int .i64 0] 64) 3)).heap.size 3 1) ⟨b, off, none⟩ 64 cap (zs.map (Value.int .i64)) rfl (by simp [HL.out]) (HC.out _ (HR.out.below (made_below hb2h.out 64))) (one64 _) (by unfold maxLen; omega) (by omega) (Nat.le_refl _) ?_; intro v4 w4 hown4 hgrow4 _; have hown := Lib.hid hown4; have hgrow := Lib.hid hgrow4; clear hown4 hgrow4)
  obtain ⟨go, cap', F, rfl, hgo, hcap', hF, hFz⟩ := own_row hown.out HL.out rfl (by decide)
  have eW3 : (w2.alloc (.cells (madeCells #[.int .i64 0] 64) 3)).heap.size = w2.heap.size + 1 := by simp
  have b4 : Below (w2.alloc (.cells (madeCells #[.int .i64 0] 64) 3)).heap.size (w2.alloc (.cells (madeCells #[.int .i64 0] 64) 3)) w4 := (Below.refl _ _).grown hgrow.out (Nat.le_refl _) (fun k hk => by cases hk)
  have mk := World.rowIs_made w2 (.int .i64 0) 64 3
  have hT4 := Lib.hid ((mk.of_block (b4.block _ mk.lt)).congr (g := upto (fun j => -zs.getD j 0) (fun _ => 0) 0) (fun i _ => by unfold upto; simp))
  have bx := Lib.hid (((Below.refl w2.heap.size w2).alloc (Nat.le_refl _) (.cells (madeCells #[.int .i64 0] 64) 3)).trans (b4.mono (by omega)))
  have hne : w2.heap.size ≠ go := by omega
  have hg1lt : g1 < w2.heap.size := hx2h.out.lt
  have hg1go : g1 ≠ go := by omega
  have hwgt : w.heap.size ≤ w2.heap.size := hb2h.out.size
  have hwgo : w.heap.size ≤ go := by omega
  have hFh := Lib.hid hF
  have hFzh := Lib.hid hFz
  clear eW3 b4 mk hgo hF hFz hown hgrow HC r1 hb1h HA HX
  generalize hgt : w2.heap.size = gt at *
  have HG := Lib.hid hgt
  clear hgt
  go_loopw [10] (fun i wr => ∃ k : Nat, k ≤ 64 ∧ i = .int .i64 k ∧ Hid (wr.rowIs gt 3 64 (upto (fun j => -zs.getD j 0) (fun _ => 0) k)) ∧ Hid (wr.rowIs go 3 cap' F) ∧ Hid (Below gt w2 wr)) (fun i _ => 64 - (intOf i).toNat)
  case atStart => exact ⟨0, by omega, rfl, hT4, hFh, bx⟩
  case round =>
    obtain ⟨k, hk, rfl, hT, hO, hB⟩ := hrel
    clear hT4 hFh bx
    have hzr := Lib.hid (HR.out.below (hb2h.out.trans (hB.out.mono hwgt)))
    by_cases hlt : k < 64
    · have hlt2 : (k : Int) < 64 := by omega
      obtain ⟨_, _, e, _, cz⟩ := hzr.out k (by rw [HL.out]; exact hlt)
      simp only [Option.some.injEq, Addr.mk.injEq, and_true] at e
      obtain ⟨rfl, rfl⟩ := e
      obtain ⟨x0, x1⟩ := HI.out k hlt
      have gc := upto_at hT.out hlt (Nat.le_refl _)
      have gf := hT.out.frozen k
      have gT := Lib.hid (upto_step (v := -zs.getD k 0) hT.out rfl)
      have gO := Lib.hid (hO.out.setOther (a := ⟨gt, k, none⟩) hne.symm (.int .i64 (-zs.getD k 0)))
      have gB := Lib.hid (hB.out.setCell (p := ⟨gt, k, none⟩) (Nat.le_refl _) (.int .i64 (-zs.getD k 0)))
      clear hT hO hB hzr
      generalize zs.getD k 0 = X at *
      go_wp2
      go_roundw
      case rel => exact ⟨k + 1, by omega, by go_num, gT, gO, gB⟩
      case measure => simp [intOf]; omega
    · have hend : k = 64 := by omega
      subst hend
      have hlt2 : ¬ ((64 : Nat) : Int) < 64 := by decide
      have HY := Lib.hid (fwd_ok (some ⟨gt, 0, none⟩) 64 (lst (fun j => -zs.getD j 0) 64) 64 32 32 8 wr (lst_len _ _) (.inr ⟨rfl, rfl, rfl, rfl⟩) (rd_lst (upto_end hT.out)) (in_neg HI.out))
      have hOh := Lib.hid hO.out
      have hBh := Lib.hid hB.out
      have hgowr : Hid (go < wr.heap.size) := Lib.hid hO.out.lt
      clear hzr hT hO hB
      go_wp2_with (go_at_call 9; ((with_reducible refine (HY.out).mono ?_); rintro e w5 ⟨g3, rfl, hg3, hy5, hb5⟩; have hy := Lib.hid hy5; have hbb := Lib.hid hb5; clear hy5 hb5))
      have hgw : gt ≤ wr.heap.size := by have := hBh.out.size; rw [HG.out] at this; exact this
      have B5 : Below gt w2 w5 := hBh.out.trans (hbb.out.mono hgw)
      have hx5 := Lib.hid (hx2h.out.of_block (B5.block _ hg1lt))
      have ho5 := Lib.hid (hOh.out.of_block (hbb.out.block _ hgowr.out))
      have hB5 := Lib.hid (hb2h.out.trans (B5.mono hwgt))
      have hsz5 := hbb.out.size
      clear B5 hBh hOh hbb hgowr HY
      go_loopw [13] (fun i u => ∃ k : Nat, k ≤ 32 ∧ i = .int .i64 k ∧ Hid (u.rowIs g1 3 32 (fun j => .int .i64 (fw zs 32 8 j))) ∧ Hid (u.rowIs g3 3 32 (fun j => .int .i64 (fw (lst (fun j => -zs.getD j 0) 64) 32 8 j))) ∧ Hid (u.rowIs go 3 cap' F) ∧ Hid (Below w.heap.size w u)) (fun i _ => 32 - (intOf i).toNat)
      case atStart => exact ⟨0, by omega, rfl, hx5, hy, ho5, hB5⟩
      case round =>
        obtain ⟨k, hk, rfl, hX, hY, hO, hB⟩ := hrel
        clear hx5 hy ho5 hB5
        by_cases hlt : k < 32
        · have hk2 : (k : Int) < 32 := by omega
          have e1 := fw_neg (z := zs) (y := lst (fun j => -zs.getD j 0) 64) (m := 32) (s := 8) k (fun j hj => lst_at _ (by omega))
          have c0 := hX.out.cell hlt
          have c1 := hY.out.cell hlt
          generalize fw zs 32 8 k = X at *
          generalize fw (lst (fun j => -zs.getD j 0) 64) 32 8 k = Y at *
          have hxy : X + Y = 0 ∨ X + Y = 1 := by omega
          clear e1
          rcases hxy with hxy | hxy
          all_goals
            have hxw : IntKind.i64.wrap (X + Y) = X + Y := by rw [hxy]; rfl
            go_wp2
            go_quiet (fail)
            have hbd := drewN_belowL wr nq
            have hX1 := Lib.hid (hX.out.of_block (hbd.block _ hX.out.lt))
            have hY1 := Lib.hid (hY.out.of_block (hbd.block _ hY.out.lt))
            have hO1 := Lib.hid (hO.out.of_block (hbd.block _ hO.out.lt))
            have hB1 := Lib.hid (hB.out.trans (hbd.mono hB.out.size))
            go_wp2
            go_roundw
            case rel => exact ⟨k + 1, by omega, by go_num, hX1, hY1, hO1, hB1⟩
            case measure => simp [intOf]; omega
        · have hend : k = 32 := by omega
          subst hend
          clear hlt hY
          have hzr := Lib.hid (HR.out.below hB.out)
          have hBl := hB.out
          by_cases ha : at_ < 0
          · go_wp2
            go_ret
            exact ⟨rfl, hBl⟩
          by_cases hb : (64 : Int) ≤ at_
          · go_wp2
            go_ret
            exact ⟨rfl, hBl⟩
          obtain ⟨i, rfl⟩ : ∃ i : Nat, at_ = (i : Int) := ⟨at_.toNat, by omega⟩
          clear ha
          have hin : i < 64 := by omega
          obtain ⟨_, _, e, _, cz⟩ := hzr.out i (by rw [HL.out]; exact hin)
          simp only [Option.some.injEq, Addr.mk.injEq, and_true] at e
          obtain ⟨rfl, rfl⟩ := e
          obtain ⟨x0, x1⟩ := HI.out i hin
          have hFi := hFzh.out i hin
          have co := hO.out.cell (i := i) (by omega)
          have fo := hO.out.frozen i
          rw [hFi] at co
          by_cases hc : 8388608 ≤ zs.getD i 0
          · clear hFi
            generalize zs.getD i 0 = Z at *
            go_wp2
            go_ret
            exact ⟨rfl, hBl⟩
          have HW := Lib.hid (fwd_ok (some ⟨go, 0, none⟩) cap' (lst (plus zs i) 64) 64 32 32 8 (wr.setCell ⟨go, i, none⟩ (.int .i64 (zs.getD i 0 + 1))) (lst_len _ _) (.inr ⟨rfl, rfl, rfl, rfl⟩) (rd_over hO.out hcap' hFzh.out) (in_plus HI.out (by omega) hin))
          have hX6 := Lib.hid (hX.out.setOther (a := ⟨go, i, none⟩) hg1go (.int .i64 (zs.getD i 0 + 1)))
          have hB6 := Lib.hid (hB.out.setCell (p := ⟨go, i, none⟩) hwgo (.int .i64 (zs.getD i 0 + 1)))
          clear hX hO hB hzr hBl hFi hFzh
          generalize zs.getD i 0 = Z at *
          go_wp2_with (go_at_call 9; ((with_reducible refine (HW.out).mono ?_); rintro e w7 ⟨g4, rfl, hg4, hw7, hb7⟩; have hw := Lib.hid hw7; have hbb := Lib.hid hb7; clear hw7 hb7))
          have hX7 := Lib.hid (hX6.out.of_block (hbb.out.block _ hX6.out.lt))
          have hB7 := Lib.hid (hB6.out.trans (hbb.out.mono hB6.out.size))
          clear hX6 hB6 hbb HW co fo cz hg4
          go_loopw [17] (fun i' u => ∃ k : Nat, k ≤ 32 ∧ i' = .int .i64 k ∧ Hid (u.rowIs g1 3 32 (fun j => .int .i64 (fw zs 32 8 j))) ∧ Hid (u.rowIs g4 3 32 (fun j => .int .i64 (fw (lst (plus zs i) 64) 32 8 j))) ∧ Hid (Below w.heap.size w u)) (fun i' _ => 32 - (intOf i').toNat)
          case atStart => exact ⟨0, by omega, rfl, hX7, hw, hB7⟩
          case round =>
            obtain ⟨k, hk, rfl, hX, hY, hB⟩ := hrel
            clear hX7 hw hB7
            by_cases hlt : k < 32
            · have hk2 : (k : Int) < 32 := by omega
              have e1 := fw_one (z := zs) (y := lst (plus zs i) 64) (m := 32) (s := 8) k i ((lst_at _ hin).trans plus_at) (fun j hj => plus_oth HL.out hj)
              have c0 := hX.out.cell hlt
              have c1 := hY.out.cell hlt
              generalize fw zs 32 8 k = X at *
              generalize fw (lst (plus zs i) 64) 32 8 k = Y at *
              obtain ⟨D, hD⟩ : ∃ D, Y - X = D := ⟨_, rfl⟩
              rw [hD] at e1
              obtain ⟨d0, d1⟩ := e1
              have hxw : IntKind.i64.wrap (Y - X) = D := by rw [hD]; exact wrap_small (by omega) (by omega)
              clear hD
              go_wp2
              go_quiet (fail)
              have hbd := drewN_belowL wr nq
              have hX1 := Lib.hid (hX.out.of_block (hbd.block _ hX.out.lt))
              have hY1 := Lib.hid (hY.out.of_block (hbd.block _ hY.out.lt))
              have hB1 := Lib.hid (hB.out.trans (hbd.mono hB.out.size))
              go_wp2
              go_roundw
              case rel => exact ⟨k + 1, by omega, by go_num, hX1, hY1, hB1⟩
              case measure => simp [intOf]; omega
            · have hend : k = 32 := by omega
              subst hend
              clear hlt
              have hBl := hB.out
              go_wp2
              go_ret
              exact ⟨rfl, hBl⟩
theorem long (A : Option Addr) (cap len : Nat) (at_ : Int) (w : World) (hl : 1000 < (len : Int)) : Calls Try.prog 7 #[.slice A len cap, .int .i64 at_] w fun e w' => e = .returned (.bool true) ∧ Below w.heap.size w w' := by
  have HA := Lib.hid (alive_ok w)
  go_enter Try.func7, Try.ntmps7
  go_wp2_with (go_at_call 11; ((with_reducible refine (HA.out).mono ?_); rintro e w1 ⟨rfl, hb1⟩; have hb1h := Lib.hid hb1; clear hb1))
  go_ret
  exact ⟨rfl, hb1h.out⟩
theorem bad (A : Option Addr) (cap len : Nat) (zs : List Int) (at_ : Int) (w : World) (hl : ¬ 1000 < (len : Int)) (hn : zs.length = len) (h : RdA w A zs) (hb : ¬ ((len = 512 ∨ len = 64) ∧ InM 8388608 zs)) : Calls Try.prog 7 #[.slice A len cap, .int .i64 at_] w fun e w' => e = .returned (.bool true) ∧ Below w.heap.size w w' := by
  have HA := Lib.hid (alive_ok w)
  have HR := Lib.hid h
  have HI := Lib.hid (fun w1 r => fwd_bad A cap zs len w1 hn r hb)
  clear h hn hb
  go_enter Try.func7, Try.ntmps7
  go_wp2_with first
    | (go_at_call 11; ((with_reducible refine (HA.out).mono ?_); rintro e w1 ⟨rfl, hb1⟩; have hb1h := Lib.hid hb1; have r1 := Lib.hid (HR.out.below hb1); clear hb1))
    | (go_at_call 9; ((with_reducible refine (HI.out _ r1.out).mono ?_); rintro e w2 ⟨c, hc, rfl, rfl⟩; have hc2 : (c != 0) = true := (bne_of hc)))
  go_ret
  exact ⟨rfl, hb1h.out⟩
theorem walk (a0 : Option Addr) (len0 cap0 : Nat) (z0 : List Int) (a1 : Int) (W : World) (w0 : IsRow .i64 W a0 len0 cap0 z0) (_ : (Lit.int .i64 a1).wf = true) : Calls Try.prog 7 #[.slice a0 len0 cap0, .int .i64 a1] W fun e w' => e = .returned (.bool true) ∧ Below W.heap.size W w' := by
  obtain ⟨xs, hl, hr, _, _⟩ := w0.open
  by_cases h0 : 1000 < (len0 : Int)
  · exact long a0 cap0 len0 a1 W h0
  by_cases h1 : (len0 = 512 ∨ len0 = 64) ∧ InM 8388608 xs
  · obtain ⟨h2 | h2, h3⟩ := h1
    · subst h2; exact good512 a0 cap0 xs a1 W hl hr h3
    · subst h2; exact good64 a0 cap0 xs a1 W hl hr h3
  · exact bad a0 cap0 len0 xs a1 W h0 hl hr h1
theorem own : ownKnob Try.prog.godebug = none := by kernel_rfl
theorem laidOut : laidOutB Try.prog = true := by kernel_rfl
set_option linter.unusedVariables false
set_option maxRecDepth 100000 in
theorem lifted (os : Os) (started : os.Started) (H : Type) (enc : TypeId × Value → H) :
    ReturnsInHanded {} Try.checked os 7 .any (Rows.mdctTurnsSpec.pre6 enc Try.prog Try.f7 Rows.mdctTurnsRow.domain false) (Rows.mdctTurnsSpec.post enc Try.prog Try.f7 false true false false) := by
  refine returnsInHanded_of_change (C := Try.checked) own started (by kernel_rfl) Try.func7
    (ChangeSpec.witness6 (enc := enc) (C := Try.checked) false ⟨#[], #[.slice none 0 0, .int .i64 0], []⟩ 8 (by kernel_rfl) (by kernel_rfl) (by kernel_rfl) (by kernel_rfl)) ?_
  intro W base args ds gs before hval0 hW hcnd _
  have hval : ∀ (j : Nat) t v, Try.f7.params[j]? = some t → args[j]? = some v → Value.okWide Try.prog W .any base t v := hval0
  have hW' := hW
  obtain ⟨p, q, hA0, hV, rfl, hfz, hnd⟩ := hW
  have hA : DataW.TrodAll enc Try.prog W 0 (fun _ => true) true Try.f7.params.toList args.toList ds p := hA0
  rw [Try.params7] at hA hval
  obtain ⟨v0, vs0, d0, ds0, p0, q0, hargs, rfl, rfl, h0, r0⟩ := trodAll_cons hA
  obtain ⟨v1, vs1, d1, ds1, p1, q1, rfl, rfl, rfl, h1, r1⟩ := trodAll_cons r0
  obtain ⟨rfl, rfl, rfl⟩ := trodAll_nil r1
  obtain rfl : args = #[v0, v1] := by cases args; simp_all
  obtain ⟨rfl, rfl⟩ := trodVars_none hV
  obtain ⟨a0, len0, cap0, rfl⟩ := okWide_slice Try.underlying22 (hval 0 22 v0 rfl rfl)
  have k0 := h0
  have lt0 : ∀ x ∈ p0, x.block < W.heap.size := by obtain ⟨m, hm⟩ := k0; exact DataW.trod_lt m _ _ _ hm
  obtain ⟨z0, w0⟩ : ∃ zs, IsRow .i64 W a0 len0 cap0 zs := by
    obtain ⟨fuel, hf⟩ := h0
    rcases open_ints Try.underlying22 Try.underlying3 (by kernel_rfl) hf with ⟨hcs, _⟩ | ⟨x, l, c, zs, hcs, _, hl, hm, hz, _, hcell, hwz⟩
    · simp [Value.cells] at hcs
      obtain ⟨rfl, rfl, rfl⟩ := hcs
      exact ⟨[], .inl ⟨rfl, rfl, rfl, rfl⟩⟩
    · simp [Value.cells] at hcs
      obtain ⟨rfl, rfl, rfl⟩ := hcs
      exact ⟨zs, .inr ⟨_, rfl, hl, hm, by simpa using hz, hcell, hwz⟩⟩
  obtain ⟨a1, rfl, rfl, rfl, w1⟩ := open_int Try.underlying3 (hval 1 3 v1 rfl rfl) h1
  clear hA0 hval0
  refine (walk a0 len0 cap0 z0 a1 W w0 w1).mono fun e W' ⟨he, bel⟩ => ?_
  subst he
  exact ⟨_, rfl, _, _, _, [], _, [], hW', trodAll_mk1 (shut_bool Try.underlying4 _), (trodAll_cons_mk (Below.trod laidOut (by kernel_rfl) (of_decide_eq_true (by kernel_rfl)) k0 bel lt0) (trodAll_cons_mk (shut_int Try.underlying3 w1) trodAll_mk0)), rfl, bel.frame _, fun h => by cases h⟩

theorem over : Rows.mdctTurnsRow.holds Try.pinned (OpenSpec.ofChange Rows.mdctTurnsSpec) :=
  OpenClaim.holds_of_wide 7 Try.f7 rfl rfl rfl rfl rfl rfl rfl ⟨rfl, rfl, rfl, rfl, rfl⟩ rfl rfl rfl rfl rfl (by kernel_rfl) Try.func7 (by kernel_rfl)
    (of_decide_eq_true (by kernel_rfl)) (by unfold Func.isWrapper; first | (rw [if_pos (by decide +kernel)]; kernel_rfl) | (rw [if_neg (by decide +kernel)]; exact ⟨rfl, rfl⟩))
    (fun os started H enc _ => lifted os started H enc)

theorem proved : Rows.MdctTurnsSaid := over
end Go.Proofs.Ytbgbjbhgelllbaa.mdctTurns
