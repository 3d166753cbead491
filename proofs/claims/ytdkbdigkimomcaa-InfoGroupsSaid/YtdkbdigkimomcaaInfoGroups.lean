/- Each window is in one group, groups rise by at most one, and have as many windows as they tell. InfoGroups returns true, whatever the windows, the memory and the schedule. No condition. -/
import Derived.Test.YtdkbdigkimomcaaIfBox
import Derived.WalkKit
import Derived.Below
import Derived.RegionTactic
import Derived.Deep.QuietTactic
import Derived.BigQuiet
import Derived.ChangeAlike
import Derived.Deep.OwnRows
import Derived.ProofKit
import Derived.OpenShut
import Derived.ShutString
import Derived.ChangeOld
import Derived.Lib.Hide
namespace Go.Proofs.Ytdkbdigkimomcaa.infoGroups
open Go Go.Ev Go.ChangeShapes Go.WideShapes Go.ChangeAt Go.RowKit Go.Proofs.Ytdkbdigkimomcaa.Lo Go.Proofs.Ytdkbdigkimomcaa.Bd Go.Proofs.Ytdkbdigkimomcaa.If

theorem grp_cons {n : Int} {zs : List Int} {l : Int} (h : grp (n :: zs) l = true) : 1 ≤ n ∧ n ≤ l ∧ grp zs (l - n) = true := by
  unfold grp at h
  by_cases c : n < 1 ∨ l < n
  · rw [if_pos c] at h; cases h
  · rw [if_neg c] at h; exact ⟨by omega, by omega, h⟩
theorem gof_lt : ∀ {zs : List Int} {l x : Int}, grp zs l = true → 0 ≤ x → x < l → gof zs x < zs.length
  | [], l, x, h, h0, h1 => by simp [grp] at h; omega
  | n :: zs, l, x, h, h0, h1 => by
    obtain ⟨a, b, c⟩ := grp_cons h
    unfold gof
    split
    · have := gof_lt c (x := x - n) (by omega) (by omega); simp; omega
    · simp
theorem gof_zero {zs : List Int} {l : Int} (h : grp zs l = true) : gof zs 0 = 0 := by
  cases zs with
  | nil => rfl
  | cons n zs =>
    obtain ⟨a, b, c⟩ := grp_cons h
    unfold gof
    rw [if_neg (by omega)]
theorem gof_step : ∀ {zs : List Int} {l x : Int}, grp zs l = true → 0 ≤ x → x + 1 < l → gof zs (x + 1) = gof zs x ∨ gof zs (x + 1) = gof zs x + 1
  | [], l, x, h, h0, h1 => by simp [gof]
  | n :: zs, l, x, h, h0, h1 => by
    obtain ⟨a, b, c⟩ := grp_cons h
    unfold gof
    by_cases h2 : n ≤ x
    · rw [if_pos h2, if_pos (by omega), show x + 1 - n = (x - n) + 1 by omega]
      have := gof_step c (x := x - n) (by omega) (by omega)
      omega
    · rw [if_neg h2]
      by_cases h3 : n ≤ x + 1
      · rw [if_pos h3, show x + 1 - n = 0 by omega, gof_zero c]
        omega
      · rw [if_neg h3]; omega
/-- How many of the first windows are in a group. -/
def cnt (zs : List Int) (g : Nat) : Nat → Int
  | 0 => 0
  | k + 1 => cnt zs g k + (if gof zs (k : Int) = g then 1 else 0)
theorem cnt_bd (zs : List Int) (g : Nat) : ∀ k : Nat, 0 ≤ cnt zs g k ∧ cnt zs g k ≤ k
  | 0 => by simp [cnt]
  | k + 1 => by have := cnt_bd zs g k; simp only [cnt]; split <;> omega
theorem cnt_low (n : Int) (zs : List Int) (g : Nat) : ∀ k : Nat, (k : Int) ≤ n → cnt (n :: zs) g k = if g = 0 then (k : Int) else 0
  | 0, _ => by simp [cnt]
  | k + 1, h => by
    have ih := cnt_low n zs g k (by omega)
    have e : gof (n :: zs) (k : Int) = 0 := by unfold gof; rw [if_neg (by omega)]
    simp only [cnt, ih, e]
    by_cases c : g = 0
    · subst c; simp
    · rw [if_neg c, if_neg c, if_neg (fun h => c h.symm)]; rfl
theorem cnt_up (n : Int) (zs : List Int) (g m : Nat) (hm : (m : Int) = n) : ∀ j : Nat, cnt (n :: zs) (g + 1) (m + j) = cnt zs g j ∧ cnt (n :: zs) 0 (m + j) = n
  | 0 => by
    show cnt (n :: zs) (g + 1) m = _ ∧ cnt (n :: zs) 0 m = n
    rw [cnt_low n zs (g + 1) m (by omega), cnt_low n zs 0 m (by omega)]
    simp [cnt, hm]
  | j + 1 => by
    obtain ⟨i1, i2⟩ := cnt_up n zs g m hm j
    have e : gof (n :: zs) ((m + j : Nat) : Int) = gof zs (j : Int) + 1 := by
      show (if n ≤ ((m + j : Nat) : Int) then gof zs (((m + j : Nat) : Int) - n) + 1 else 0) = _
      rw [if_pos (by omega), show ((m + j : Nat) : Int) - n = (j : Int) by omega]
    rw [← Nat.add_assoc]
    simp only [cnt, i1, i2, e]
    constructor
    · by_cases c : gof zs (j : Int) = g
      · rw [if_pos c, if_pos (by omega)]
      · rw [if_neg c, if_neg (by omega)]
    · rw [if_neg (by omega)]; omega
theorem cnt_all : ∀ {zs : List Int} {W : Nat}, grp zs W = true → ∀ g, g < zs.length → cnt zs g W = zs.getD g 0
  | [], W, h, g, hg => by simp at hg
  | n :: zs, W, h, g, hg => by
    obtain ⟨a, b, c⟩ := grp_cons h
    obtain ⟨m, hm⟩ : ∃ m : Nat, (m : Int) = n := ⟨n.toNat, by omega⟩
    obtain ⟨j, hj⟩ : ∃ j : Nat, W = m + j := ⟨W - m, by omega⟩
    rw [hj]
    cases g with
    | zero => rw [(cnt_up n zs 0 m hm j).2]; rfl
    | succ g =>
      rw [(cnt_up n zs g m hm j).1]
      rw [show (W : Int) - n = (j : Int) by omega] at c
      rw [cnt_all c g (by simpa using hg)]
      rfl

theorem Bxi.oth {w w1 : World} {s h m : Int} {v x : Value} {g i : Nat} (k : Bxi w w1 s h m v) (hg : w.heap.size < g) : Bxi w (w1.setCell ⟨g, i, none⟩ x) s h m v := by
  obtain ⟨a, b, c, d, f, q⟩ := k.out
  have hne : g ≠ w.heap.size := Nat.ne_of_gt hg
  refine ⟨?_, ?_, ?_, ?_, ?_, q.setCell (p := ⟨g, i, none⟩) (Nat.le_of_lt hg) _⟩
  · rw [World.cell?_setCell_other _ _ _ _ (by first | (simp; done) | (simp; omega))]; exact a
  · rw [World.cell?_setCell_other _ _ _ _ (by first | (simp; done) | (simp; omega))]; exact b
  · rw [World.cell?_setCell_other _ _ _ _ (by first | (simp; done) | (simp; omega))]; exact c
  · rw [World.cell?_setCell_other _ _ _ _ (by first | (simp; done) | (simp; omega))]; exact d
  · simpa using f
/-- The group of the window ahead. -/
def lastOf (zs : List Int) : Nat → Int
  | 0 => 0
  | k + 1 => (gof zs (k : Int) : Int)
theorem drewN_below' (w : World) : ∀ n, Below w.heap.size w (w.drewN n)
  | 0 => Below.refl _ _
  | n + 1 => (drewN_below' w n).drew
theorem info_parts {p : Program} {t : TypeId} {v : Value} {n b : Nat} (h : (p.info? t).map (fun i => (i.zero, i.size, i.bytes)) = some (some v, n, b)) : ∃ i0, p.info? t = some i0 ∧ i0.zero = some v ∧ i0.size = n ∧ i0.bytes = b := by
  cases hi : p.info? t with
  | none => rw [hi] at h; simp at h
  | some i0 => rw [hi] at h; simp at h; exact ⟨i0, rfl, h.1, h.2.1, h.2.2⟩
theorem len_le : ∀ {zs : List Int} {l : Int}, grp zs l = true → (zs.length : Int) ≤ l
  | [], l, h => by simp [grp] at h; subst h; simp
  | n :: zs, l, h => by
    obtain ⟨a, b, c⟩ := grp_cons h
    have := len_le c
    rw [List.length_cons]
    omega
set_option maxRecDepth 100000 in
set_option maxHeartbeats 8000000 in
theorem good (s h m : Int) (a : Option Addr) (cap : Nat) (zs : List Int) (w : World) (hr : RdA w a zs) (hl : zs.length ≤ 1000) (hc : chk 11 s h m zs = 0)
    (HX : Bxi w (w.alloc (.cells #[.int .u8 s, .int .u8 h, .int .i64 m, .slice a zs.length cap] 24)) s h m (.slice a zs.length cap))
    (HA : Hid (∀ w1, Bxi w w1 s h m (.slice a zs.length cap) → Calls Try.prog 6 #[] w1 fun e w' => e = .returned (.bool true) ∧ Bxi w w' s h m (.slice a zs.length cap))) :
    Calls Try.prog 4 #[.agg #[.int .u8 s, .int .u8 h, .int .i64 m, .slice a zs.length cap]] w fun e w' => e = .returned (.bool true) ∧ Below w.heap.size w w' := by
  obtain ⟨i0, hi, hz0, hz1, hz2⟩ := info_parts info3'
  have hl' : ¬ 1000 < (zs.length : Int) := by omega
  have hg : grp zs (win s) = true := by
    have hc' := hc
    unfold If.chk at hc'
    rw [if_neg (by omega)] at hc'
    cases hgg : grp zs (win s)
    · rw [if_pos (.inr (.inr (.inr (.inr hgg))))] at hc'; omega
    · rfl
  obtain ⟨W, hW⟩ : ∃ W : Nat, win s = (W : Int) := ⟨(win s).toNat, by have := win_bd s; omega⟩
  have hWb : 1 ≤ W ∧ W ≤ 8 := by have := win_bd s; omega
  have HW := Lib.hid (fun w1 (x : Bxi w w1 s h m (.slice a zs.length cap)) => (windows_k s h m a cap zs w1 (by omega) (hr.below x.out.2.2.2.2.2)).mono fun e w' (k : e = .returned (.tuple #[.int .i64 (if chk 11 s h m zs = 0 then win s else 0), .int .i64 (chk 11 s h m zs)]) ∧ Below w1.heap.size w1 w') => And.intro k.1 (x.below k.2))
  rw [hc, if_pos rfl, hW] at HW
  rw [hW] at hg
  have HG := Lib.hid (fun (k : Nat) (hk : k < W) w1 (x : Bxi w w1 s h m (.slice a zs.length cap)) => (group_ok s h m a cap zs (k : Int) w1 (by omega) (hr.below x.out.2.2.2.2.2) hc (by omega) (by rw [hW]; omega)).mono fun e w' (k' : e = .returned (.tuple #[.int .i64 (gof zs (k : Int)), .int .i64 0]) ∧ Below w1.heap.size w1 w') => And.intro k'.1 (And.intro k'.2 (x.below k'.2)))
  have HO := Lib.hid (fun w1 (x : Bxi w w1 s h m (.slice a zs.length cap)) => (group_out s h m a cap zs (W : Int) w1 (by omega) (hr.below x.out.2.2.2.2.2) hc (.inr (by rw [hW]; omega))).mono fun e w' (k' : e = .returned (.tuple #[.int .i64 0, .int .i64 2]) ∧ Below w1.heap.size w1 w') => And.intro k'.1 (And.intro k'.2 (x.below k'.2)))
  have HLT := Lib.hid (fun (k : Nat) (hk : k < W) => gof_lt hg (show (0 : Int) ≤ (k : Int) by omega) (show (k : Int) < (W : Int) by omega))
  have HST := Lib.hid (fun (k : Nat) (hk : k + 1 < W) => gof_step hg (show (0 : Int) ≤ (k : Int) by omega) (show (k : Int) + 1 < (W : Int) by omega))
  have HZ := Lib.hid (gof_zero hg)
  have HALL := Lib.hid (fun g hgl => cnt_all hg g hgl)
  have HR := Lib.hid hr
  clear hr hc
  have Hrow := Lib.hid (fun w1 : World => (World.rowIs_made w1 (.int .i64 0) zs.length 3).congr (g := fun j => .int .i64 (cnt zs j 0)) fun i _ => rfl)
  go_enter Try.func4, Try.ntmps4
  go_wp2_with (first | (go_at_call 6; ((with_reducible refine (HA.out _ ‹_›).mono ?_); rintro e w' ⟨rfl, hx⟩; obtain ⟨z0, z1, z2, z3, z4, _⟩ := hx.out)) | (go_at_call 11; ((with_reducible refine (HW.out _ ‹_›).mono ?_); rintro e w2 ⟨rfl, hx2⟩; obtain ⟨z0, z1, z2, z3, z4, _⟩ := hx2.out)) | (refine wpList_make_row _ rfl _ _ 22 rfl 3 i0 (.int .i64 0) Try.underlying22 hi hz0 hz1 rfl .i64 .i64 zs.length rfl rfl (by rw [hz2]; omega) (by omega) ?_))
  have hgB : w.heap.size < w2.heap.size := cell_lt z0
  have X3 : Bxi w (w2.alloc (.cells (madeCells #[.int .i64 0] zs.length) 3)) s h m (.slice a zs.length cap) := hx2.below (box_below _ _)
  have R3 := Lib.hid (Hrow.out w2)
  clear z0 z1 z2 z3 z4
  go_loopw [9, 10] (fun l i wr => ∃ k : Nat, k ≤ W ∧ i = .int .i64 k ∧ l = .int .i64 (lastOf zs k) ∧ Hid (wr.rowIs w2.heap.size 3 zs.length (fun j => .int .i64 (cnt zs j k))) ∧ Bxi w wr s h m (.slice a zs.length cap)) (fun _ i _ => W - (intOf i).toNat)
  case atStart => exact ⟨0, by omega, rfl, rfl, R3, X3⟩
  case round =>
    obtain ⟨k, hk, rfl, rfl, hR, hxr⟩ := hrel
    obtain ⟨z0, z1, z2, z3, z4, _⟩ := hxr.out
    by_cases hlt : k < W
    · have hgl := HLT.out k hlt
      have hlast : lastOf zs k ≤ (gof zs (k : Int) : Int) ∧ (gof zs (k : Int) : Int) ≤ lastOf zs k + 1 ∧ (k = 0 → gof zs (k : Int) = 0) := by
        cases k with
        | zero => have := HZ.out; unfold lastOf; simp only [Int.natCast_zero]; omega
        | succ k =>
          have := HST.out k hlt
          rw [show lastOf zs (k + 1) = ((gof zs (k : Int) : Nat) : Int) from rfl]
          rw [show ((k + 1 : Nat) : Int) = (k : Int) + 1 by omega]
          omega
      have HG' := Lib.hid (HG.out k hlt wr hxr)
      have hcb := cnt_bd zs (gof zs (k : Int)) k
      have hnew : Hid (∀ j, (if j = gof zs (k : Int) then Value.int .i64 (cnt zs (gof zs (k : Int)) k + 1) else .int .i64 (cnt zs j k)) = .int .i64 (cnt zs j (k + 1))) := Lib.hid fun j => by
        simp only [cnt]
        by_cases c : j = gof zs (k : Int)
        · rw [if_pos c, if_pos c.symm, c]
        · rw [if_neg c, if_neg (fun q => c q.symm)]; simp
      have hlk : Hid (lastOf zs (k + 1) = (gof zs (k : Int) : Int)) := Lib.hid rfl
      have hCell := Lib.hid (hR.out.cell hgl)
      generalize cnt zs (gof zs (k : Int)) k = C at *
      generalize gof zs (k : Int) = G at *
      generalize lastOf zs k = Lk at *
      obtain ⟨hl0, hl1, hl2⟩ := hlast
      obtain ⟨hc0, hc1⟩ := hcb
      by_cases hk0 : k = 0
      · have hG0 : ((G : Int) != 0) = false := by have := hl2 hk0; subst this; rfl
        have hk2 : ((k : Int) == 0) = true := by subst hk0; rfl
        clear hl2 hk0
        go_wp2_with ((go_at_call 12; ((with_reducible refine (HG'.out).mono ?_); rintro e w3 ⟨rfl, hb3, hx3⟩; have RR := Lib.hid (hR.out.of_block (hb3.block _ hR.out.lt)); have cc : w3.cell? ⟨w2.heap.size, G, none⟩ = some (.int .i64 C) := (hb3.cell (p := ⟨w2.heap.size, G, none⟩) hR.out.lt).trans hCell.out; have cf := RR.out.frozen G)))
        go_roundw
        case rel => exact ⟨k + 1, by omega, by go_num, by rw [hlk.out], Lib.hid ((RR.out.set G (.int .i64 (C + 1))).congr fun i _ => hnew.out i), Bxi.oth hx3 hgB⟩
        case measure => simp [intOf]; omega
      · have hk1 : ((k : Int) == 0) = false := by simpa using hk0
        clear hl2
        go_wp2_with ((go_at_call 12; ((with_reducible refine (HG'.out).mono ?_); rintro e w3 ⟨rfl, hb3, hx3⟩; have RR := Lib.hid (hR.out.of_block (hb3.block _ hR.out.lt)); have cc : w3.cell? ⟨w2.heap.size, G, none⟩ = some (.int .i64 C) := (hb3.cell (p := ⟨w2.heap.size, G, none⟩) hR.out.lt).trans hCell.out; have cf := RR.out.frozen G)))
        go_roundw
        case rel => exact ⟨k + 1, by omega, by go_num, by rw [hlk.out], Lib.hid ((RR.out.set G (.int .i64 (C + 1))).congr fun i _ => hnew.out i), Bxi.oth hx3 hgB⟩
        case measure => simp [intOf]; omega
    · have hend : k = W := by omega
      subst hend
      go_wp2_with ((go_at_call 12; ((with_reducible refine (HO.out _ hxr).mono ?_); rintro e w3 ⟨rfl, hb3, hx3⟩; have RR := Lib.hid (hR.out.of_block (hb3.block _ hR.out.lt)))))
      go_loopw [15] (fun i wq => ∃ j : Nat, j ≤ zs.length ∧ i = .int .i64 j ∧ Hid (wq.rowIs w2.heap.size 3 zs.length (fun j => .int .i64 (cnt zs j k))) ∧ Bxi w wq s h m (.slice a zs.length cap)) (fun i _ => zs.length - (intOf i).toNat)
      case atStart => exact ⟨0, by omega, rfl, RR, hx3⟩
      case round =>
        obtain ⟨j, hj, rfl, hQ, hxq⟩ := hrel
        obtain ⟨z0, z1, z2, z3, z4, hbw⟩ := hxq.out
        by_cases hlj : j < zs.length
        · obtain ⟨b, off, rfl, hlb, cz⟩ := (HR.out.below hbw) j hlj
          have cq := hQ.out.cell hlj
          rw [HALL.out j hlj] at cq
          generalize zs.getD j 0 = X at *
          go_wp2
          go_quiet (fail)
          go_wp2
          go_roundw
          case rel => exact ⟨j + 1, by omega, by go_num, Lib.hid (hQ.out.of_block ((drewN_below' _ _).block _ hQ.out.lt)), hxq.below (drewN_below' _ _)⟩
          case measure => simp [intOf]; omega
        · have hend : j = zs.length := by omega
          have hlj' : ¬ (j : Int) < zs.length := by omega
          go_wp2
          go_ret
          exact ⟨rfl, hbw⟩
theorem bad (s h m : Int) (a : Option Addr) (cap : Nat) (zs : List Int) (w : World) (hr : RdA w a zs) (hl : zs.length ≤ 1000) (hc : If.chk 11 s h m zs ≠ 0)
    (HX : Bxi w (w.alloc (.cells #[.int .u8 s, .int .u8 h, .int .i64 m, .slice a zs.length cap] 24)) s h m (.slice a zs.length cap))
    (HA : Hid (∀ w1, Bxi w w1 s h m (.slice a zs.length cap) → Calls Try.prog 6 #[] w1 fun e w' => e = .returned (.bool true) ∧ Bxi w w' s h m (.slice a zs.length cap))) :
    Calls Try.prog 4 #[.agg #[.int .u8 s, .int .u8 h, .int .i64 m, .slice a zs.length cap]] w fun e w' => e = .returned (.bool true) ∧ Below w.heap.size w w' := by
  have hl' : ¬ 1000 < (zs.length : Int) := by omega
  have HW := Lib.hid (fun w1 (x : Bxi w w1 s h m (.slice a zs.length cap)) => (windows_k s h m a cap zs w1 (by omega) (hr.below x.out.2.2.2.2.2)).mono fun e w' (k : e = .returned (.tuple #[.int .i64 (if If.chk 11 s h m zs = 0 then win s else 0), .int .i64 (If.chk 11 s h m zs)]) ∧ Below w1.heap.size w1 w') => And.intro k.1 (x.below k.2))
  rw [if_neg hc] at HW
  have HB := Lib.hid (fun w1 (x : Bxi w w1 s h m (.slice a zs.length cap)) => (group_bad s h m a cap zs 0 w1 (by omega) (hr.below x.out.2.2.2.2.2) hc).mono fun e w' (k' : e = .returned (.tuple #[.int .i64 0, .int .i64 (If.chk 11 s h m zs)]) ∧ Below w1.heap.size w1 w') => And.intro k'.1 (x.below k'.2))
  clear hr
  generalize If.chk 11 s h m zs = C at *
  go_enter Try.func4, Try.ntmps4
  go_wp2_with (first | (go_at_call 6; ((with_reducible refine (HA.out _ ‹_›).mono ?_); rintro e w' ⟨rfl, hx⟩; obtain ⟨z0, z1, z2, z3, z4, _⟩ := hx.out)) | (go_at_call 11; ((with_reducible refine (HW.out _ ‹_›).mono ?_); rintro e w' ⟨rfl, hx⟩; obtain ⟨z0, z1, z2, z3, z4, _⟩ := hx.out)) | (go_at_call 12; ((with_reducible refine (HB.out _ ‹_›).mono ?_); rintro e w' ⟨rfl, hx⟩; obtain ⟨z0, z1, z2, z3, z4, _⟩ := hx.out)))
  go_ret
  exact ⟨rfl, hx.out.2.2.2.2.2⟩
theorem main (s h m : Int) (a : Option Addr) (cap : Nat) (zs : List Int) (w : World) (hr : RdA w a zs) : Calls Try.prog 4 #[.agg #[.int .u8 s, .int .u8 h, .int .i64 m, .slice a zs.length cap]] w fun e w' => e = .returned (.bool true) ∧ Below w.heap.size w w' := by
  have HX := bxi w s h m (.slice a zs.length cap)
  have HA := Lib.hid (fun w1 (x : Bxi w w1 s h m (.slice a zs.length cap)) => (if_alive w1).mono fun e w' (k : e = .returned (.bool true) ∧ Below w1.heap.size w1 w') => And.intro k.1 (x.below k.2))
  by_cases hl : 1000 < zs.length
  · have hl' : 1000 < (zs.length : Int) := by omega
    clear hr
    go_enter Try.func4, Try.ntmps4
    go_wp2_with (first | (go_at_call 6; ((with_reducible refine (HA.out _ ‹_›).mono ?_); rintro e w' ⟨rfl, hx⟩; obtain ⟨z0, z1, z2, z3, z4, _⟩ := hx.out)))
    go_ret
    exact ⟨rfl, hx.out.2.2.2.2.2⟩
  by_cases hc : If.chk 11 s h m zs = 0
  · exact good s h m a cap zs w hr (by omega) hc HX HA
  · exact bad s h m a cap zs w hr (by omega) hc HX HA
set_option linter.unusedVariables false in
theorem walk (s h m : Int) (a : Option Addr) (cap : Nat) (zs : List Int) (w : World) (hs : (Lit.int .u8 s).wf = true) (hh : (Lit.int .u8 h).wf = true) (hm : (Lit.int .i64 m).wf = true) (hl : zs.length ≤ maxLen) (hr : RowA .i64 w a zs) (he : ∀ n ∈ zs, (Lit.int .i64 n).wf = true) :
    Calls Try.prog 4 #[.agg #[.int .u8 s, .int .u8 h, .int .i64 m, .slice a zs.length cap]] w fun e w' => e = .returned (.bool true) ∧ Below w.heap.size w w' := main s h m a cap zs w hr
theorem own : ownKnob Try.prog.godebug = none := by kernel_rfl
theorem laidOut : laidOutB Try.prog = true := by kernel_rfl
set_option linter.unusedVariables false
set_option maxRecDepth 100000 in
theorem lifted (os : Os) (started : os.Started) (H : Type) (enc : TypeId × Value → H) :
    ReturnsInHanded {} Try.checked os 4 .any (Rows.infoGroupsSpec.pre6 enc Try.prog Try.f4 Rows.infoGroupsRow.domain false) (Rows.infoGroupsSpec.post enc Try.prog Try.f4 false true false false) := by
  refine returnsInHanded_of_change (C := Try.checked) own started (by kernel_rfl) Try.func4
    (ChangeSpec.witness6 (enc := enc) (C := Try.checked) false ⟨#[], #[.agg #[.int .u8 0, .int .u8 0, .int .i64 0, .slice none 0 0]], []⟩ 8 (by kernel_rfl) (by kernel_rfl) (by kernel_rfl) (by kernel_rfl)) ?_
  intro W base args ds gs before hval0 hW hcnd _
  have hval : ∀ (j : Nat) t v, Try.f4.params[j]? = some t → args[j]? = some v → Value.okWide Try.prog W .any base t v := hval0
  have hW' := hW
  obtain ⟨p, q, hA0, hV, rfl, hfz, hnd⟩ := hW
  have hA : DataW.TrodAll enc Try.prog W 0 (fun _ => true) true Try.f4.params.toList args.toList ds p := hA0
  rw [Try.params4] at hA hval
  obtain ⟨v0, vs0, d0, ds0, p0, q0, hargs, rfl, rfl, h0, r0⟩ := trodAll_cons hA
  obtain ⟨rfl, rfl, rfl⟩ := trodAll_nil r0
  obtain rfl : args = #[v0] := by cases args; simp_all
  obtain ⟨rfl, rfl⟩ := trodVars_none hV
  have k0 := h0
  have lt0 : ∀ x ∈ p0, x.block < W.heap.size := by obtain ⟨m, hm⟩ := k0; exact DataW.trod_lt m _ _ _ hm
  obtain ⟨a0s, a0h, a0m, a0a, a0c, a0z, rfl, w0s, w0h, w0m, l0, r0r, e0⟩ := open_info Try.underlying24 rfl rfl rfl rfl Try.underlying5 Try.underlying5 Try.underlying3 Try.underlying22 Try.underlying3 (by kernel_rfl) (by kernel_rfl) (by kernel_rfl) (by kernel_rfl) (by kernel_rfl) (by kernel_rfl) (hval 0 24 v0 rfl rfl) h0
  clear hA0 hval0
  refine (walk a0s a0h a0m a0a a0c a0z W w0s w0h w0m l0 r0r e0).mono fun e W' ⟨he, bel⟩ => ?_
  subst he
  exact ⟨_, rfl, _, _, _, [], _, [], hW', trodAll_mk1 (shut_bool Try.underlying4 _), (trodAll_cons_mk (Below.trod laidOut (by kernel_rfl) (of_decide_eq_true (by kernel_rfl)) k0 bel lt0) trodAll_mk0), rfl, bel.frame _, fun h => by cases h⟩

theorem over : Rows.infoGroupsRow.holds Try.pinned (OpenSpec.ofChange Rows.infoGroupsSpec) :=
  OpenClaim.holds_of_wide 4 Try.f4 rfl rfl rfl rfl rfl rfl rfl ⟨rfl, rfl, rfl, rfl, rfl⟩ rfl rfl rfl rfl rfl (by kernel_rfl) Try.func4 (by kernel_rfl)
    (of_decide_eq_true (by kernel_rfl)) (by unfold Func.isWrapper; first | (rw [if_pos (by decide +kernel)]; kernel_rfl) | (rw [if_neg (by decide +kernel)]; exact ⟨rfl, rfl⟩))
    (fun os started H enc _ => lifted os started H enc)

theorem proved : Rows.InfoGroupsSaid := over
end Go.Proofs.Ytdkbdigkimomcaa.infoGroups
