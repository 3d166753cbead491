/- What info's calls do. -/
import Derived.Test.YtdkbdigkimomcaaBdRo
import Derived.WalkKit
import Derived.Below
import Derived.RegionTactic
import Derived.Deep.QuietTactic
import Derived.BigQuiet
import Derived.ProofKit
import Derived.OpenShut
import Derived.Lib.Hide
namespace Go.Proofs.Ytdkbdigkimomcaa.If
open Go Go.ChangeShapes Go.WideShapes Go.ChangeAt Go.RowKit Go.Proofs.Ytdkbdigkimomcaa.Lo Go.Proofs.Ytdkbdigkimomcaa.Bd

theorem belowT {a b c : World} (h : Below a.heap.size a b) (k : Below b.heap.size b c) : Below a.heap.size a c := h.trans (k.mono h.size)
theorem retB {a b : Bool} (h : a = b) : Ending.returned (.bool a) = .returned (.bool b) := by rw [h]
/-- A list's cells, at an address. -/
def RdA (w : World) (A : Option Addr) (zs : List Int) : Prop := ∀ i, i < zs.length → ∃ b off, A = some ⟨b, off, none⟩ ∧ b < w.heap.size ∧ w.cell? ⟨b, off + i, none⟩ = some (.int .i64 (zs.getD i 0))
theorem RdA.below {w w' : World} {A : Option Addr} {zs : List Int} (h : RdA w A zs) (hb : Below w.heap.size w w') : RdA w' A zs := fun i hi => by
  obtain ⟨b, off, e, h1, h2⟩ := h i hi
  exact ⟨b, off, e, Nat.lt_of_lt_of_le h1 hb.size, (hb.cell (p := ⟨b, off + i, none⟩) h1).trans h2⟩
/-- A box that holds windows. -/
theorem boxed (w : World) (s h m : Int) (v : Value) (w1 : World) (hb : Below (w.alloc (.cells #[.int .u8 s, .int .u8 h, .int .i64 m, v] 24)).heap.size (w.alloc (.cells #[.int .u8 s, .int .u8 h, .int .i64 m, v] 24)) w1) :
    w1.cell? ⟨w.heap.size, 0, none⟩ = some (.int .u8 s) ∧ w1.cell? ⟨w.heap.size, 1, none⟩ = some (.int .u8 h) ∧ w1.cell? ⟨w.heap.size, 2, none⟩ = some (.int .i64 m) ∧ w1.cell? ⟨w.heap.size, 3, none⟩ = some v := by
  refine ⟨(hb.cell (p := ⟨w.heap.size, 0, none⟩) (by simp)).trans ?_, (hb.cell (p := ⟨w.heap.size, 1, none⟩) (by simp)).trans ?_, (hb.cell (p := ⟨w.heap.size, 2, none⟩) (by simp)).trans ?_, (hb.cell (p := ⟨w.heap.size, 3, none⟩) (by simp)).trans ?_⟩ <;> simp
theorem box_below (w : World) (o : Obj) : Below w.heap.size w (w.alloc o) := (Below.refl _ _).alloc (Nat.le_refl _) _

def win (s : Int) : Int := if s = 2 then 8 else 1
theorem win_bd (s : Int) : 1 ≤ win s ∧ win s ≤ 8 := by unfold win; split <;> omega
theorem windows_ok (s : Int) (w : World) : Calls Try.prog 22 #[.int .u8 s] w fun e w' => e = .returned (.int .i64 (win s)) ∧ w = w' := by
  by_cases c : s = 2
  · rw [show win s = 8 by unfold win; rw [if_pos c]]
    go_enter Try.func22, Try.ntmps22
    go_wp2
    go_ret
    exact ⟨rfl, rfl⟩
  · rw [show win s = 1 by unfold win; rw [if_neg c]]
    have c2 : (s == 2) = false := by simpa using c
    go_enter Try.func22, Try.ntmps22
    go_wp2
    go_ret
    exact ⟨rfl, rfl⟩
/-- Do groups take so many windows? -/
def grp : List Int → Int → Bool
  | [], l => l == 0
  | n :: zs, l => if n < 1 ∨ l < n then false else grp zs (l - n)
theorem grp_at {zs : List Int} {k : Nat} {l : Int} (h : k < zs.length) : grp (zs.drop k) l = if zs.getD k 0 < 1 ∨ l < zs.getD k 0 then false else grp (zs.drop (k + 1)) (l - zs.getD k 0) := by
  rw [List.drop_eq_getElem_cons h, grp]
  simp [h]
theorem grp_end {zs : List Int} {l : Int} : grp (zs.drop zs.length) l = (l == 0) := by simp [grp]
set_option maxRecDepth 100000 in
set_option maxHeartbeats 2000000 in
theorem grouped_ok (s h m : Int) (a : Option Addr) (cap : Nat) (zs : List Int) (w : World) (hl : zs.length ≤ 100000) (hr : RdA w a zs) :
    Calls Try.prog 21 #[.agg #[.int .u8 s, .int .u8 h, .int .i64 m, .slice a zs.length cap]] w fun e w' => e = .returned (.bool (grp zs (win s))) ∧ Below w.heap.size w w' := by
  have HW := Lib.hid (windows_ok s)
  have hb := win_bd s
  have HR := Lib.hid (hr.below (box_below w (.cells #[.int .u8 s, .int .u8 h, .int .i64 m, .slice a zs.length cap] 24)))
  have HB := Lib.hid (box_below w (.cells #[.int .u8 s, .int .u8 h, .int .i64 m, .slice a zs.length cap] 24))
  obtain ⟨R, hR⟩ : ∃ R, grp zs (win s) = R := ⟨_, rfl⟩
  have HG : Hid (grp (zs.drop 0) (win s) = R) := Lib.hid hR
  rw [hR]
  clear hr hR
  generalize win s = W at *
  obtain ⟨hb0, hb1⟩ := hb
  go_enter Try.func21, Try.ntmps21
  go_wp2_with (go_at_call 22; ((with_reducible refine (HW.out _).mono ?_); rintro e w' ⟨rfl, rfl⟩))
  go_loop [3, 12] (fun l i => ∃ (k : Nat) (l0 : Int), k ≤ zs.length ∧ 0 ≤ l0 ∧ l0 ≤ 8 ∧ Hid (grp (zs.drop k) l0 = R) ∧ i = .int .i64 k ∧ l = .int .i64 l0) (fun _ i => zs.length - (intOf i).toNat)
  case atStart => exact ⟨0, W, by omega, by omega, by omega, HG, rfl, rfl⟩
  case round =>
    obtain ⟨k, l0, hk, q0, q1, hg, rfl, rfl⟩ := hrel
    by_cases hlt : k < zs.length
    · obtain ⟨b, off, rfl, hlb, c⟩ := HR.out k hlt
      have hga := hg.out
      rw [grp_at hlt] at hga
      clear hg HG
      generalize zs.getD k 0 = n at *
      by_cases c1 : n < 1
      · rw [if_pos (.inl c1)] at hga
        subst hga
        go_wp2
        go_ret
        exact ⟨rfl, HB.out⟩
      by_cases c2 : l0 < n
      · rw [if_pos (.inr c2)] at hga
        subst hga
        go_wp2
        go_ret
        exact ⟨rfl, HB.out⟩
      rw [if_neg (by omega)] at hga
      have HGA := Lib.hid hga
      clear hga
      go_wp2
      go_round
      case rel => exact ⟨k + 1, l0 - n, by omega, by omega, by omega, HGA, by go_num, rfl⟩
      case measure => simp [intOf]; omega
    · have hend : k = zs.length := by omega
      have hga := hg.out
      rw [hend, grp_end] at hga
      clear hg HG
      subst hga
      have hlt2 : ¬ (k : Int) < zs.length := by omega
      go_wp2
      go_ret
      exact ⟨rfl, HB.out⟩
/-- How many bands. -/
def mny (r : Int) (b : Bool) : Int := ((L r b).length : Int) - 1
/-- The error of windows at a rate. -/
def chk (r s h m : Int) (zs : List Int) : Int := if r < 0 ∨ 11 < r then 2 else if 3 < s ∨ 1 < h ∨ m < 0 ∨ mny r (s == 2) < m ∨ grp zs (win s) = false then 8 else 0
theorem chk_arg {r s h m : Int} {zs : List Int} (c : r < 0 ∨ 11 < r) : chk r s h m zs = 2 := by unfold chk; rw [if_pos c]
theorem chk_bad {r s h m : Int} {zs : List Int} (c : ¬ (r < 0 ∨ 11 < r)) (d : 3 < s ∨ 1 < h ∨ m < 0 ∨ mny r (s == 2) < m ∨ grp zs (win s) = false) : chk r s h m zs = 8 := by unfold chk; rw [if_neg c, if_pos d]
theorem chk_ok {r s h m : Int} {zs : List Int} (c : ¬ (r < 0 ∨ 11 < r)) (d : ¬ (3 < s ∨ 1 < h ∨ m < 0 ∨ mny r (s == 2) < m ∨ grp zs (win s) = false)) : chk r s h m zs = 0 := by unfold chk; rw [if_neg c, if_neg d]
theorem mny_bd {r : Int} {b : Bool} (r0 : 0 ≤ r) (r1 : r ≤ 11) : 1 ≤ mny r b ∧ mny r b ≤ 41 := by
  have := fact r b r0 r1
  unfold mny
  have a := this.1
  have c := this.2.1
  omega
theorem many_k (r : Int) (b : Bool) (w : World) (r0 : 0 ≤ r) (r1 : r ≤ 11) : Calls Try.prog 13 #[.int .i64 r, .bool b] w fun e w' => e = .returned (.tuple #[.int .i64 (mny r b), .int .i64 0]) ∧ Below w.heap.size w w' := many_ok r b w r0 r1
set_option maxRecDepth 100000 in
set_option maxHeartbeats 2000000 in
theorem check_ok (r s h m : Int) (a : Option Addr) (cap : Nat) (zs : List Int) (w : World) (hl : zs.length ≤ 100000) (hr : RdA w a zs) :
    Calls Try.prog 10 #[.int .i64 r, .agg #[.int .u8 s, .int .u8 h, .int .i64 m, .slice a zs.length cap]] w fun e w' => e = .returned (.int .i64 (chk r s h m zs)) ∧ Below w.heap.size w w' := by
  have HB := Lib.hid (box_below w (.cells #[.int .u8 s, .int .u8 h, .int .i64 m, .slice a zs.length cap] 24))
  by_cases c0 : r < 0
  · rw [chk_arg (.inl c0)]
    go_enter Try.func10, Try.ntmps10
    go_wp2
    go_ret
    exact ⟨rfl, HB.out⟩
  by_cases c1 : 11 < r
  · rw [chk_arg (.inr c1)]
    go_enter Try.func10, Try.ntmps10
    go_wp2
    go_ret
    exact ⟨rfl, HB.out⟩
  have hr01 : ¬ (r < 0 ∨ 11 < r) := by omega
  by_cases c2 : 3 < s
  · rw [chk_bad hr01 (.inl c2)]
    go_enter Try.func10, Try.ntmps10
    go_wp2
    go_ret
    exact ⟨rfl, HB.out⟩
  by_cases c3 : 1 < h
  · rw [chk_bad hr01 (.inr (.inl c3))]
    go_enter Try.func10, Try.ntmps10
    go_wp2
    go_ret
    exact ⟨rfl, HB.out⟩
  have HM := Lib.hid (fun w => many_k r (s == 2) w (by omega) (by omega))
  have hM := mny_bd (r := r) (b := s == 2) (by omega) (by omega)
  have HG := Lib.hid (fun w1 (k : Below w.heap.size w w1) => grouped_ok s h m a cap zs w1 hl (hr.below k))
  have hF := fun c => @chk_bad r s h m zs hr01 c
  have hT := fun c => @chk_ok r s h m zs hr01 c
  generalize hch : chk r s h m zs = C at *
  clear hch hr
  generalize mny r (s == 2) = M at *
  generalize grp zs (win s) = G at *
  obtain ⟨hM0, hM1⟩ := hM
  by_cases c4 : m < 0
  · obtain rfl := hF (.inr (.inr (.inl c4)))
    clear hF hT hr01
    go_enter Try.func10, Try.ntmps10
    go_wp2_with (first | (go_at_call 13; ((with_reducible refine (HM.out _).mono ?_); rintro e w1 ⟨rfl, hb⟩; have hb1 := belowT HB.out hb; obtain ⟨z0, z1, z2, z3⟩ := boxed w s h m (.slice a zs.length cap) w1 hb; clear hb)) | (go_at_call 21; ((with_reducible refine (HG.out _ hb1).mono ?_); rintro e w2 ⟨rfl, hb2⟩)))
    go_ret
    exact ⟨rfl, hb1⟩
  by_cases c5 : M < m
  · obtain rfl := hF (.inr (.inr (.inr (.inl c5))))
    clear hF hT hr01
    go_enter Try.func10, Try.ntmps10
    go_wp2_with (first | (go_at_call 13; ((with_reducible refine (HM.out _).mono ?_); rintro e w1 ⟨rfl, hb⟩; have hb1 := belowT HB.out hb; obtain ⟨z0, z1, z2, z3⟩ := boxed w s h m (.slice a zs.length cap) w1 hb; clear hb)) | (go_at_call 21; ((with_reducible refine (HG.out _ hb1).mono ?_); rintro e w2 ⟨rfl, hb2⟩)))
    go_ret
    exact ⟨rfl, hb1⟩
  cases G
  · obtain rfl := hF (.inr (.inr (.inr (.inr rfl))))
    clear hF hT hr01
    go_enter Try.func10, Try.ntmps10
    go_wp2_with (first | (go_at_call 13; ((with_reducible refine (HM.out _).mono ?_); rintro e w1 ⟨rfl, hb⟩; have hb1 := belowT HB.out hb; obtain ⟨z0, z1, z2, z3⟩ := boxed w s h m (.slice a zs.length cap) w1 hb; clear hb)) | (go_at_call 21; ((with_reducible refine (HG.out _ hb1).mono ?_); rintro e w2 ⟨rfl, hb2⟩)))
    go_ret
    exact ⟨rfl, belowT hb1 hb2⟩
  · obtain rfl := hT (by rintro (h | h | h | h | h) <;> first | omega | cases h)
    clear hF hT hr01
    go_enter Try.func10, Try.ntmps10
    go_wp2_with (first | (go_at_call 13; ((with_reducible refine (HM.out _).mono ?_); rintro e w1 ⟨rfl, hb⟩; have hb1 := belowT HB.out hb; obtain ⟨z0, z1, z2, z3⟩ := boxed w s h m (.slice a zs.length cap) w1 hb; clear hb)) | (go_at_call 21; ((with_reducible refine (HG.out _ hb1).mono ?_); rintro e w2 ⟨rfl, hb2⟩)))
    go_ret
    exact ⟨rfl, belowT hb1 hb2⟩

theorem windows_k (s h m : Int) (a : Option Addr) (cap : Nat) (zs : List Int) (w : World) (hl : zs.length ≤ 100000) (hr : RdA w a zs) :
    Calls Try.prog 11 #[.agg #[.int .u8 s, .int .u8 h, .int .i64 m, .slice a zs.length cap]] w fun e w' => e = .returned (.tuple #[.int .i64 (if chk 11 s h m zs = 0 then win s else 0), .int .i64 (chk 11 s h m zs)]) ∧ Below w.heap.size w w' := by
  have HB := Lib.hid (box_below w (.cells #[.int .u8 s, .int .u8 h, .int .i64 m, .slice a zs.length cap] 24))
  have HC := Lib.hid (fun w1 (k : Below w.heap.size w w1) => check_ok 11 s h m a cap zs w1 hl (hr.below k))
  have HW := Lib.hid (windows_ok s)
  clear hr
  generalize chk 11 s h m zs = C at *
  generalize win s = W at *
  by_cases c : C = 0
  · subst c
    rw [if_pos rfl]
    go_enter Try.func11, Try.ntmps11
    go_wp2_with (first | (go_at_call 10; ((with_reducible refine (HC.out _ HB.out).mono ?_); rintro e w1 ⟨rfl, hb⟩; have hb1 := belowT HB.out hb; obtain ⟨z0, z1, z2, z3⟩ := boxed w s h m (.slice a zs.length cap) w1 hb; clear hb)) | (go_at_call 22; ((with_reducible refine (HW.out _).mono ?_); rintro e w' ⟨rfl, rfl⟩)))
    go_ret2
    exact ⟨rfl, hb1⟩
  · rw [if_neg c]
    go_enter Try.func11, Try.ntmps11
    go_wp2_with (first | (go_at_call 10; ((with_reducible refine (HC.out _ HB.out).mono ?_); rintro e w1 ⟨rfl, hb⟩; have hb1 := belowT HB.out hb; obtain ⟨z0, z1, z2, z3⟩ := boxed w s h m (.slice a zs.length cap) w1 hb; clear hb)) | (go_at_call 22; ((with_reducible refine (HW.out _).mono ?_); rintro e w' ⟨rfl, rfl⟩)))
    go_ret2
    exact ⟨rfl, hb1⟩
/-- Which group a window is in. -/
def gof : List Int → Int → Nat
  | [], _ => 0
  | n :: zs, x => if n ≤ x then gof zs (x - n) + 1 else 0
theorem gof_at {zs : List Int} {k : Nat} {x : Int} (h : k < zs.length) : gof (zs.drop k) x = if zs.getD k 0 ≤ x then gof (zs.drop (k + 1)) (x - zs.getD k 0) + 1 else 0 := by
  rw [List.drop_eq_getElem_cons h, gof]
  simp [h]
theorem grp_cont {zs : List Int} {l x : Int} (h : grp zs l = true) (x0 : 0 ≤ x) (hx : x < l) : 0 < zs.length := by
  cases zs with
  | nil => simp [grp] at h; omega
  | cons n zs => simp
/-- The answer of Group. -/
def gE (s h m : Int) (zs : List Int) (x : Int) : Int := if chk 11 s h m zs ≠ 0 then chk 11 s h m zs else if x < 0 ∨ win s ≤ x then 2 else 0
def gV (s h m : Int) (zs : List Int) (x : Int) : Int := if gE s h m zs x = 0 then gof zs x else 0
set_option maxRecDepth 100000 in
set_option maxHeartbeats 2000000 in
theorem group_ok (s h m : Int) (a : Option Addr) (cap : Nat) (zs : List Int) (x : Int) (w : World) (hl : zs.length ≤ 100000) (hr : RdA w a zs) (hc : chk 11 s h m zs = 0) (x0 : 0 ≤ x) (hx : x < win s) :
    Calls Try.prog 12 #[.agg #[.int .u8 s, .int .u8 h, .int .i64 m, .slice a zs.length cap], .int .i64 x] w fun e w' => e = .returned (.tuple #[.int .i64 (gof zs x), .int .i64 0]) ∧ Below w.heap.size w w' := by
  have HB := Lib.hid (box_below w (.cells #[.int .u8 s, .int .u8 h, .int .i64 m, .slice a zs.length cap] 24))
  have HC := Lib.hid (fun w1 (k : Below w.heap.size w w1) => windows_k s h m a cap zs w1 hl (hr.below k))
  rw [hc, if_pos rfl] at HC
  have HR := Lib.hid hr
  have hg : grp zs (win s) = true := by
    unfold chk at hc
    rw [if_neg (by omega)] at hc
    cases hgg : grp zs (win s)
    · rw [if_pos (.inr (.inr (.inr (.inr hgg))))] at hc; omega
    · rfl
  have hb := win_bd s
  clear hr hc
  generalize win s = W at *
  obtain ⟨hb0, hb1'⟩ := hb
  have hn : ¬ W ≤ x := by omega
  obtain ⟨R, hR⟩ : ∃ R, gof zs x = R := ⟨_, rfl⟩
  have HG : Hid (gof (zs.drop 0) x + 0 = R) := Lib.hid hR
  have HP : Hid (grp (zs.drop 0) W = true) := Lib.hid hg
  rw [hR]
  clear hR hg
  go_enter Try.func12, Try.ntmps12
  go_wp2_with (go_at_call 11; ((with_reducible refine (HC.out _ HB.out).mono ?_); rintro e w1 ⟨rfl, hb⟩; obtain ⟨z0, z1, z2, z3⟩ := boxed w s h m (.slice a zs.length cap) w1 hb; have hb1 := belowT HB.out hb; clear hb))
  go_loop [1, 8] (fun xv g => ∃ (k : Nat) (y l : Int), k ≤ zs.length ∧ 0 ≤ y ∧ y < l ∧ l ≤ 8 ∧ Hid (gof (zs.drop k) y + k = R) ∧ Hid (grp (zs.drop k) l = true) ∧ xv = .int .i64 y ∧ g = .int .i64 k) (fun _ g => zs.length - (intOf g).toNat)
  case atStart => exact ⟨0, x, W, by omega, x0, hx, hb1', HG, HP, rfl, rfl⟩
  case round =>
    obtain ⟨k, y, l, hk, y0, y1, l1, hG, hP, rfl, rfl⟩ := hrel
    have hlen := grp_cont hP.out y0 y1
    have hlt : k < zs.length := by simp at hlen; omega
    obtain ⟨b, off, rfl, hlb, c⟩ := (HR.out.below hb1) k hlt
    have h1 := hG.out
    have h2 := hP.out
    rw [gof_at hlt] at h1
    rw [grp_at hlt] at h2
    clear hG hP HG HP
    generalize zs.getD k 0 = n at *
    by_cases c1 : n ≤ y
    · rw [if_pos c1] at h1
      have hn1 : ¬ (n < 1 ∨ l < n) := fun hh => by rw [if_pos hh] at h2; cases h2
      rw [if_neg hn1] at h2
      have H1 := Lib.hid (show gof (zs.drop (k + 1)) (y - n) + (k + 1) = R by omega)
      have H2 := Lib.hid h2
      clear h1 h2
      have n0 : 1 ≤ n := by omega
      go_wp2
      go_round
      case rel => exact ⟨k + 1, y - n, l - n, by omega, by omega, by omega, by omega, H1, H2, rfl, by go_num⟩
      case measure => simp [intOf]; omega
    · rw [if_neg c1] at h1
      have hkR : k = R := by omega
      subst hkR
      clear h1 h2
      go_wp2
      go_ret2
      exact ⟨rfl, hb1⟩
theorem group_bad (s h m : Int) (a : Option Addr) (cap : Nat) (zs : List Int) (x : Int) (w : World) (hl : zs.length ≤ 100000) (hr : RdA w a zs) (hc : chk 11 s h m zs ≠ 0) :
    Calls Try.prog 12 #[.agg #[.int .u8 s, .int .u8 h, .int .i64 m, .slice a zs.length cap], .int .i64 x] w fun e w' => e = .returned (.tuple #[.int .i64 0, .int .i64 (chk 11 s h m zs)]) ∧ Below w.heap.size w w' := by
  have HB := Lib.hid (box_below w (.cells #[.int .u8 s, .int .u8 h, .int .i64 m, .slice a zs.length cap] 24))
  have HC := Lib.hid (fun w1 (k : Below w.heap.size w w1) => windows_k s h m a cap zs w1 hl (hr.below k))
  rw [if_neg hc] at HC
  clear hr
  generalize chk 11 s h m zs = C at *
  go_enter Try.func12, Try.ntmps12
  go_wp2_with (go_at_call 11; ((with_reducible refine (HC.out _ HB.out).mono ?_); rintro e w1 ⟨rfl, hb⟩; obtain ⟨z0, z1, z2, z3⟩ := boxed w s h m (.slice a zs.length cap) w1 hb; have hb1 := belowT HB.out hb; clear hb))
  go_ret2
  exact ⟨rfl, hb1⟩
theorem group_out (s h m : Int) (a : Option Addr) (cap : Nat) (zs : List Int) (x : Int) (w : World) (hl : zs.length ≤ 100000) (hr : RdA w a zs) (hc : chk 11 s h m zs = 0) (hx : x < 0 ∨ win s ≤ x) :
    Calls Try.prog 12 #[.agg #[.int .u8 s, .int .u8 h, .int .i64 m, .slice a zs.length cap], .int .i64 x] w fun e w' => e = .returned (.tuple #[.int .i64 0, .int .i64 2]) ∧ Below w.heap.size w w' := by
  have HB := Lib.hid (box_below w (.cells #[.int .u8 s, .int .u8 h, .int .i64 m, .slice a zs.length cap] 24))
  have HC := Lib.hid (fun w1 (k : Below w.heap.size w w1) => windows_k s h m a cap zs w1 hl (hr.below k))
  rw [hc, if_pos rfl] at HC
  clear hr hc
  generalize win s = W at *
  by_cases c : x < 0
  · clear hx
    go_enter Try.func12, Try.ntmps12
    go_wp2_with (go_at_call 11; ((with_reducible refine (HC.out _ HB.out).mono ?_); rintro e w1 ⟨rfl, hb⟩; obtain ⟨z0, z1, z2, z3⟩ := boxed w s h m (.slice a zs.length cap) w1 hb; have hb1 := belowT HB.out hb; clear hb))
    go_ret2
    exact ⟨rfl, hb1⟩
  · have c2 : W ≤ x := by omega
    clear hx
    go_enter Try.func12, Try.ntmps12
    go_wp2_with (go_at_call 11; ((with_reducible refine (HC.out _ HB.out).mono ?_); rintro e w1 ⟨rfl, hb⟩; obtain ⟨z0, z1, z2, z3⟩ := boxed w s h m (.slice a zs.length cap) w1 hb; have hb1 := belowT HB.out hb; clear hb))
    go_ret2
    exact ⟨rfl, hb1⟩
end Go.Proofs.Ytdkbdigkimomcaa.If
