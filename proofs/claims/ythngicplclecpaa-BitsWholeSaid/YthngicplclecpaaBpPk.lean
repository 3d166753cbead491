/- What Pack and Unpack answer. -/
import Derived.Test.YthngicplclecpaaBpMath
namespace Go.Proofs.Ythngicplclecpaa.Bi
open Go Go.ChangeShapes Go.WideShapes Go.ChangeAt Go.RowKit
open Go.Proofs.Ythngicplclecpaa.Cr (belowT)

/-- The bytes of bits, in memory. -/
def Pkd (w : World) (g m : Nat) (zs : List Int) (k : Nat) : Prop := w.rowIs g 5 m (fun j => .int .u8 (pk zs k j))
theorem cdiv (n : Nat) : Int.tdiv ((n : Int) + 7) 8 = (((n + 7) / 8 : Nat) : Int) := by
  rw [Int.tdiv_eq_ediv_of_nonneg (by omega)]; omega
theorem At.src {b : Nat} {w : World} {a0 : Option Addr} {zs : List Int} (h : At b w a0 zs) {i : Nat} (hi : i < zs.length) : ∃ g off, a0 = some ⟨g, off, none⟩ ∧ w.cell? ⟨g, off + i, none⟩ = some (.int .u8 (zs.getD i 0)) := by
  obtain ⟨g, off, e, _, hc⟩ := h i hi
  exact ⟨g, off, e, hc⟩
theorem bits_take {zs : List Int} {k : Nat} (h : ∀ i, i < k → zs.getD i 0 = 0 ∨ zs.getD i 0 = 1) (hk : k = zs.length) : Cr.Bits zs := by
  intro z hz
  obtain ⟨i, hi, rfl⟩ := List.getElem_of_mem hz
  have := h i (by omega)
  simpa [hi] using this

set_option maxRecDepth 100000 in
set_option maxHeartbeats 2000000 in
theorem pack_ok (b : Nat) (a0 : Option Addr) (c0 : Nat) (zs : List Int) (w : World) (hbw : b ≤ w.heap.size) (hl : zs.length ≤ 100000) (hz : ∀ z ∈ zs, 0 ≤ z ∧ z ≤ 255) (hv : At b w a0 zs) :
    Calls Try.prog 5 #[.slice a0 zs.length c0] w fun e w' => Below w.heap.size w w' ∧ ((Cr.Bits zs ∧ e = .returned (.tuple #[.slice (some ⟨w.heap.size, 0, none⟩) ((zs.length + 7) / 8) ((zs.length + 7) / 8), .int .i64 0]) ∧ Pkd w' w.heap.size ((zs.length + 7) / 8) zs zs.length) ∨ (¬ Cr.Bits zs ∧ e = .returned (.tuple #[.slice none 0 0, .int .i64 8]))) := by
  obtain ⟨i0, hi, hz0, hz1, hz2⟩ := info_parts info5'
  have hcd := cdiv zs.length
  obtain ⟨m, hm⟩ : ∃ m, (zs.length + 7) / 8 = m := ⟨_, rfl⟩
  have hml : m ≤ 100000 := by omega
  rw [hm] at hcd ⊢
  have hrow : Hid (Pkd (w.alloc (.cells (madeCells #[.int .u8 0] m) 5)) w.heap.size m zs 0) := Lib.hid ((World.rowIs_made w (.int .u8 0) m 5).congr fun i _ => by simp [pk, dk_out])
  have hbel : Hid (Below w.heap.size w (w.alloc (.cells (madeCells #[.int .u8 0] m) 5))) := Lib.hid ((Below.refl _ _).alloc (Nat.le_refl _) _)
  have HV := Lib.hid hv
  have HZ := Lib.hid hz
  clear hv hz
  go_enter Try.func5, Try.ntmps5
  go_wp2_with (refine wpList_make_row _ rfl _ _ 22 rfl 5 i0 (.int .u8 0) Try.underlying22 hi hz0 hz1 rfl .i64 .i64 m rfl rfl (by rw [hz2]; omega) (by omega) ?_)
  go_loopw [17] (fun i wr => ∃ k : Nat, k ≤ zs.length ∧ i = .int .i64 k ∧ Hid (Pkd wr w.heap.size m zs k) ∧ Hid (Below w.heap.size w wr) ∧ Hid (∀ i, i < k → zs.getD i 0 = 0 ∨ zs.getD i 0 = 1)) (fun i _ => zs.length - (intOf i).toNat)
  case atStart => exact ⟨0, by omega, rfl, hrow, hbel, Lib.hid fun i h => by omega⟩
  case round =>
    obtain ⟨k, hk, rfl, hR, hB, hA⟩ := hrel
    by_cases hlt : k < zs.length
    · obtain ⟨g, off, hg, hc⟩ := (HV.out.below (hB.out.mono (by omega))).src hlt
      subst hg
      have hd := HZ.out (zs.getD k 0) (by simp [hlt])
      obtain ⟨q, hq⟩ : ∃ q, k / 8 = q := ⟨_, rfl⟩
      have hqm : q < m := by omega
      have e1 : Int.tdiv (k : Int) 8 = (q : Int) := by rw [Int.tdiv_eq_ediv_of_nonneg (by omega)]; omega
      have e2 : Int.tmod (k : Int) 8 = ((k % 8 : Nat) : Int) := by rw [Int.tmod_eq_emod_of_nonneg (by omega)]; omega
      have e3 : (7 : Int) - ((k % 8 : Nat) : Int) = ((7 - k % 8 : Nat) : Int) := by omega
      have co := hR.out.cell (i := q) hqm
      have cf := hR.out.frozen q
      have h01 := fun i h => show 0 ≤ zs.getD i 0 ∧ zs.getD i 0 ≤ 1 by have := hA.out i h; omega
      have hos := fun h => or_step zs k h01 h
      have hbd := (pk_step zs k h01).2.2
      rw [hq] at hos hbd
      obtain ⟨X, hX⟩ : ∃ X, pk zs k q = X := ⟨_, rfl⟩
      rw [hX] at co hos hbd
      obtain ⟨x0, x1⟩ := hbd
      have hR' : ∀ d, zs.getD k 0 = d → (d = 0 ∨ d = 1) → Hid (Pkd (wr.setCell ⟨w.heap.size, q, none⟩ (.int .u8 (bits .or .u8 X (IntKind.u8.wrap (d * 2 ^ (7 - k % 8)))))) w.heap.size m zs (k + 1)) := fun d hd hd01 => Lib.hid <| by
        refine (hR.out.set q (.int .u8 (bits .or .u8 X (IntKind.u8.wrap (d * 2 ^ (7 - k % 8)))))).congr fun j hj => ?_
        by_cases hjq : j = q
        · subst hjq
          rw [if_pos rfl, ← hd, hos (by rw [hd]; exact hd01)]
        · rw [if_neg hjq, pk_other zs k j (by omega)]
      have hB' := fun v => Lib.hid (hB.out.setCell (p := ⟨w.heap.size, q, none⟩) (Nat.le_refl _) v)
      have hA' : ∀ d, zs.getD k 0 = d → (d = 0 ∨ d = 1) → Hid (∀ i, i < k + 1 → zs.getD i 0 = 0 ∨ zs.getD i 0 = 1) := fun d hd hd01 => Lib.hid fun i hi => by
        by_cases h : i = k
        · subst h; rw [hd]; exact hd01
        · exact hA.out i (by omega)
      obtain ⟨d, hdd⟩ : ∃ d, zs.getD k 0 = d := ⟨_, rfl⟩
      rw [hdd] at hc hd
      obtain ⟨r, hr⟩ : ∃ r, k % 8 = r := ⟨_, rfl⟩
      rw [hr] at e2 e3 hR'
      have hr8 : r < 8 := by omega
      have h7 : (7 - r : Nat) ≤ 7 := by omega
      obtain ⟨s, hs⟩ : ∃ s, 7 - r = s := ⟨_, rfl⟩
      rw [hs] at e3 h7 hR'
      by_cases h1 : d ≤ 1
      · have gR := hR' d hdd (by omega)
        have gA := hA' d hdd (by omega)
        have gB := hB' (.int .u8 (bits .or .u8 X (IntKind.u8.wrap (d * 2 ^ s))))
        obtain ⟨Y, hY⟩ : ∃ Y, bits .or .u8 X (IntKind.u8.wrap (d * 2 ^ s)) = Y := ⟨_, rfl⟩
        rw [hY] at gR gB
        have hY2 := Lib.hid (show bits .or .u8 X (d * 2 ^ s % 256) = Y by rw [← hY, show IntKind.u8.wrap (d * 2 ^ s) = d * 2 ^ s % 256 from IntKind.wrap_u8 _])
        obtain ⟨d0, _⟩ := hd
        have hlt' : (k : Int) < (zs.length : Int) := by omega
        clear hR' hA' hB' hos hR hB hA hX h01 hs hr hq hdd
        go_wp2
        go_region
        go_wp2
        go_roundw
        case rel =>
          rw [hY2.out]
          exact ⟨k + 1, by omega, by go_num, Lib.hid gR.out.drew, Lib.hid gB.out.drew, gA⟩
        case measure => simp [intOf]; omega
      · have hnb := Lib.hid (fun (h : Cr.Bits zs) => show False by have := h (zs.getD k 0) (by simp [hlt]); omega)
        clear hR' hA' hB' hos
        have hlt' : (k : Int) < (zs.length : Int) := by omega
        have h1' : 1 < d := by omega
        go_wp2
        go_ret2
        exact ⟨hB.out, .inr ⟨hnb.out, rfl⟩⟩
    · obtain rfl : k = zs.length := by omega
      have hbits := bits_take hA.out rfl
      go_wp2
      go_ret2
      exact ⟨hB.out, .inl ⟨hbits, rfl, hR.out⟩⟩

set_option maxRecDepth 100000 in
set_option maxHeartbeats 1000000 in
theorem unpack_ok (a0 : Option Addr) (c0 : Nat) (zs : List Int) (w : World) (hl : zs.length ≤ 100000) (hz : ∀ z ∈ zs, 0 ≤ z ∧ z ≤ 255) (hv : At w.heap.size w a0 zs) :
    Calls Try.prog 7 #[.slice a0 zs.length c0] w fun e w' => ∃ v, e = .returned (.tuple #[v, .int .i64 0]) ∧ Cr.Own w.heap.size w' v (un zs) ∧ Below w.heap.size w w' := by
  obtain ⟨i0, hi, hz0, hz1, hz2⟩ := info_parts info5'
  have HV := Lib.hid hv
  have HZ := Lib.hid hz
  clear hv hz
  go_enter Try.func7, Try.ntmps7
  obtain ⟨M, hM⟩ : ∃ M, 8 * zs.length = M := ⟨_, rfl⟩
  have hw8 : IntKind.i64.wrap (8 * (zs.length : Int)) = (M : Int) := by rw [IntKind.wrap_i64]; omega
  have hmk : ∀ W : World, (Instr.makeSlice 22 (.int .i64 0) (.int .i64 (M : Int))).run Try.prog W = .ok (.slice (some ⟨W.heap.size, 0, none⟩) 0 M) (W.alloc (.cells (madeCells #[.int .u8 0] M) 5)) := fun W => by
    have h := run_make (P := Try.prog) W 22 5 i0 (.int .u8 0) Try.underlying22 hi hz0 .i64 .i64 0 M (by omega) (by omega) (by rw [hz2]; omega) (by omega)
    simpa [hz1, Value.cells] using h
  have hmade : Cr.Own w.heap.size (w.drew.alloc (.cells (madeCells #[.int .u8 0] M) 5)) (.slice (some ⟨w.heap.size, 0, none⟩) 0 M) [] := by
    obtain ⟨w', hrun, r1, r2⟩ := run_make_own (P := Try.prog) w.drew w.heap.size 22 5 i0 (.int .u8 0) 1 Try.underlying22 hi hz0 hz1 .i64 .i64 M (by rw [hz2]; omega) (by unfold maxLen; omega) (Nat.le_refl _)
    rw [hmk] at hrun
    cases hrun
    exact r1
  have hbm : Below w.heap.size w (w.drew.alloc (.cells (madeCells #[.int .u8 0] M) 5)) := (Below.refl _ w).drew.alloc (Nat.le_refl _) _
  have HAD : Hid (Calls Try.prog 12 #[.slice a0 zs.length c0] (w.alloc (.cells (madeCells #[.int .u8 0] M) 5)).drew fun e w' => e = .returned (.func (.func 16) #[] #[.pointer (some ⟨w.heap.size + 1, 0, none⟩)]) ∧ Boxed w' (w.heap.size + 1) 22 (.slice a0 zs.length c0) ∧ Below (w.heap.size + 1) (w.alloc (.cells (madeCells #[.int .u8 0] M) 5)).drew w') := Lib.hid (by
    have h := allDigits_ok a0 zs.length c0 (w.alloc (.cells (madeCells #[.int .u8 0] M) 5)).drew
    have e : (w.alloc (.cells (madeCells #[.int .u8 0] M) 5)).drew.heap.size = w.heap.size + 1 := by simp
    rw [e] at h
    exact h)
  have HAD2 : Hid (Calls Try.prog 12 #[.slice a0 zs.length c0] w.drew fun e w' => e = .returned (.func (.func 16) #[] #[.pointer (some ⟨w.heap.size, 0, none⟩)]) ∧ Boxed w' w.heap.size 22 (.slice a0 zs.length c0) ∧ Below w.heap.size w.drew w') := Lib.hid (allDigits_ok a0 zs.length c0 w.drew)
  have HMK : Hid (∀ W : World, w.heap.size ≤ W.heap.size → Cr.Own w.heap.size (W.alloc (.cells (madeCells #[.int .u8 0] M) 5)) (.slice (some ⟨W.heap.size, 0, none⟩) 0 M) []) := Lib.hid fun W hW => by
    obtain ⟨w', hrun, r1, r2⟩ := run_make_own (P := Try.prog) W w.heap.size 22 5 i0 (.int .u8 0) 1 Try.underlying22 hi hz0 hz1 .i64 .i64 M (by rw [hz2]; omega) (by unfold maxLen; omega) hW
    rw [hmk] at hrun
    cases hrun
    exact r1
  have HBM : Hid (∀ W : World, Below w.heap.size w.drew W → Below w.heap.size w (W.alloc (.cells (madeCells #[.int .u8 0] M) 5))) := Lib.hid fun W hW => ((Below.refl _ w).drew.trans hW).alloc hW.size _
  have hmade' : (w.alloc (.cells (madeCells #[.int .u8 0] M) 5)).drew.heap.size = w.heap.size + 1 := by simp
  go_wp2
  go_region_held3 (fun _ => True) (exact trivial) (first
    | (go_at_call 12; ((with_reducible refine (HAD.out).mono ?_); rintro e w3 ⟨rfl, hBb, hb3⟩))
    | (go_at_call 12; ((with_reducible refine (HAD2.out).mono ?_); rintro e w3 ⟨rfl, hBb, hb3⟩))
    | (go_at_call 11; have ho3 := Cr.Own.below (w := (w.alloc (.cells (madeCells #[.int .u8 0] M) 5)).drew) hmade (hmade'.symm ▸ hb3); have hb4 : Below w.heap.size w w3 := hbm.trans (hb3.mono (Nat.le_succ _)); have hs3 := hb4.size; ((with_reducible refine (colall_ok w.heap.size _ _ a0 c0 zs HZ.out hl _ hs3 ho3 hBb (HV.out.below hb4)).mono ?_); rintro e w5 ⟨v5, rfl, ho5, hb5⟩))
    | (go_at_call 11; have ho3 := HMK.out w3 hb3.size; have hb4 := HBM.out w3 hb3; have hs3 := hb4.size; ((with_reducible refine (colall_ok w.heap.size _ _ a0 c0 zs HZ.out hl _ hs3 ho3 (hBb.alloc _) (HV.out.below hb4)).mono ?_); rintro e w5 ⟨v5, rfl, ho5, hb5⟩)))
  all_goals
    go_wp2
    go_ret2
    exact ⟨_, rfl, ho5, hb4.trans hb5⟩
end Go.Proofs.Ythngicplclecpaa.Bi
