/- Each lost line is filled for itself, and in a run of two the first one is nearer to what is ahead, the second one to what is behind. LoseEach returns true, whatever the lines, numbers and place, the memory and the schedule. No condition. -/
import Derived.Test.YtnbbjobmaakogaaLoUni
import Derived.WalkKit
import Derived.Deep.QuietTactic
import Derived.BigQuiet
import Derived.ProofKit
import Derived.OpenShut
import Derived.ShutString
import Derived.ChangeOld
import Derived.Below
import Derived.Lib.Hide
namespace Go.Proofs.Ytnbbjobmaakogaa.loseEach
open Go Go.ChangeShapes Go.WideShapes Go.ChangeAt Go.RowKit Go.Proofs.Ytnbbjobmaakogaa.Lo

theorem retB {a : Bool} (h : a = true) : Ending.returned (.bool a) = .returned (.bool true) := by rw [h]
theorem drewN_below (w : World) : ∀ n, Below w.heap.size w (w.drewN n)
  | 0 => Below.refl _ _
  | n + 1 => (drewN_below w n).drew

theorem rep_same {x y : Int} {T M : Int} {l1 k : Nat} {zb za : List Int} {w : World} {g : Nat} (hx : x = zb.getD k 0) (hy : l1 = 256 → y = za.getD k 0) (h : w.rowIs g 3 256 (fun j => .int .i64 (lineF (Lo.rep x) (Lo.rep y) l1 T M j))) : Rd w (.slice (some ⟨g, 0, none⟩) 256 256) (Lo.rep (lineF zb za l1 T M k)) :=
  rep_rd (h.congr fun i hi => by
    unfold lineF
    rw [rep_at x hi, rep_at y hi, hx]
    by_cases h2 : l1 = 256
    · rw [hy h2]
    · simp [h2])
theorem rep_same0 {x : Int} {T M : Int} {k : Nat} {zb : List Int} {w : World} {g : Nat} (hx : x = zb.getD k 0) (h : w.rowIs g 3 256 (fun j => .int .i64 (lineF (Lo.rep x) [] 0 T M j))) : Rd w (.slice (some ⟨g, 0, none⟩) 256 256) (Lo.rep (lineF zb [] 0 T M k)) :=
  rep_rd (h.congr fun i hi => by
    unfold lineF
    rw [rep_at x hi, hx]
    simp)

set_option maxRecDepth 100000 in
set_option maxHeartbeats 4000000 in
theorem e_empty1 (b off cap : Nat) (a1 : Option Addr) (c1 : Nat) (zb : List Int) (T M : Int) (k : Nat) (w : World) (t0 : 1 ≤ T) (t1 : T ≤ M) (t2 : M ≤ 65536) (hM : M < 2) (hb : Ln w b off cap zb) (hk : k < 256) :
    Calls Try.prog 12 #[.slice (some ⟨b, off, none⟩) 256 cap, .slice a1 0 c1, .int .i64 T, .int .i64 M, .int .i64 k] w fun e w' => e = .returned (.bool true) ∧ Below w.heap.size w w' := by
  have HB := Lib.hid hb
  have bd := hb.bd hk
  obtain ⟨x, hx⟩ : ∃ x, x = zb.getD k 0 := ⟨_, rfl⟩
  rw [← hx] at bd
  obtain ⟨x0, x1⟩ := bd
  have kb := hb.lt
  have HX := Lib.hid hx
  have cx := hb.cells k hk
  rw [← hx] at cx
  have CX := Lib.hid cx
  clear hb hx cx
  obtain ⟨L, hL⟩ : ∃ L, L = lineF zb [] 0 T M k := ⟨_, rfl⟩
  have HL := Lib.hid hL
  clear hL
  have hM' : ¬ 2 < M := by omega
  go_enter Try.func12, Try.ntmps12
  go_wp2_with (first
    | (go_at_call 28; refine (lo_alive _).mono ?_; rintro e w1 ⟨rfl, hb1⟩)
    | (go_at_call 30; (with_reducible refine (lines_e b off cap a1 c1 zb T M _ t0 t1 t2 (HB.out.below hb1)).mono ?_); rintro e w2 ⟨g, rfl, hr2', hb2⟩; have hr2 := Lib.hid hr2'; clear hr2'; have q1 := (hb2.cell (p := ⟨b, off + k, none⟩) (Nat.lt_of_lt_of_le kb hb1.size)).trans ((hb1.cell (p := ⟨b, off + k, none⟩) kb).trans CX.out))
    | (go_at_call 31; ((with_reducible refine (filled_ok x _).mono ?_); rintro e w3 ⟨rfl, hr3', hb3⟩; have hr3 := Lib.hid hr3'; clear hr3'))
    | (go_at_call 30; (with_reducible refine (lines_e w2.heap.size 0 256 none 0 (Lo.rep x) T M _ t0 t1 t2 (Ln.rep hr3.out x0 x1)).mono ?_); rintro e w4 ⟨g4, rfl, hr4, hb4⟩; have q2 := (hb4.cell (p := ⟨g, k, none⟩) (Nat.lt_of_lt_of_le hr2.out.lt hb3.size)).trans ((hb3.cell (p := ⟨g, k, none⟩) hr2.out.lt).trans (hr2.out.cell hk)); rw [← HL.out] at q2; have hR' := rep_same0 HX.out hr4; rw [← HL.out] at hR'; have hR := Lib.hid hR'; clear hR' hr4)
    | (go_at_call 32; ((with_reducible refine (all_yes _ (Lo.rep L) L _ (rep_len L) (rep_mem L) hR.out).mono ?_); rintro e w4 ⟨rfl, rfl⟩)))
  go_ret
  exact ⟨rfl, belowT hb1 (belowT hb2 (belowT hb3 hb4))⟩

set_option maxRecDepth 100000 in
set_option maxHeartbeats 4000000 in
theorem e_empty2 (b off cap : Nat) (a1 : Option Addr) (c1 : Nat) (zb : List Int) (T M : Int) (k : Nat) (w : World) (t0 : 1 ≤ T) (t1 : T ≤ M) (t2 : M ≤ 65536) (hM : M = 2) (hb : Ln w b off cap zb) (hk : k < 256) :
    Calls Try.prog 12 #[.slice (some ⟨b, off, none⟩) 256 cap, .slice a1 0 c1, .int .i64 T, .int .i64 M, .int .i64 k] w fun e w' => e = .returned (.bool true) ∧ Below w.heap.size w w' := by
  have HB := Lib.hid hb
  have bd := hb.bd hk
  obtain ⟨x, hx⟩ : ∃ x, x = zb.getD k 0 := ⟨_, rfl⟩
  rw [← hx] at bd
  obtain ⟨x0, x1⟩ := bd
  have kb := hb.lt
  have HX := Lib.hid hx
  have cx := hb.cells k hk
  rw [← hx] at cx
  have CX := Lib.hid cx
  clear hb hx cx
  obtain ⟨L, hL⟩ : ∃ L, L = lineF zb [] 0 T M k := ⟨_, rfl⟩
  have HL := Lib.hid hL
  clear hL
  subst hM
  go_enter Try.func12, Try.ntmps12
  go_wp2_with (first
    | (go_at_call 28; refine (lo_alive _).mono ?_; rintro e w1 ⟨rfl, hb1⟩)
    | (go_at_call 30; (with_reducible refine (lines_e b off cap a1 c1 zb T 2 _ t0 t1 t2 (HB.out.below hb1)).mono ?_); rintro e w2 ⟨g, rfl, hr2', hb2⟩; have hr2 := Lib.hid hr2'; clear hr2'; have q1 := (hb2.cell (p := ⟨b, off + k, none⟩) (Nat.lt_of_lt_of_le kb hb1.size)).trans ((hb1.cell (p := ⟨b, off + k, none⟩) kb).trans CX.out))
    | (go_at_call 31; ((with_reducible refine (filled_ok x _).mono ?_); rintro e w3 ⟨rfl, hr3', hb3⟩; have hr3 := Lib.hid hr3'; clear hr3'))
    | (go_at_call 30; (with_reducible refine (lines_e w2.heap.size 0 256 none 0 (Lo.rep x) T 2 _ t0 t1 t2 (Ln.rep hr3.out x0 x1)).mono ?_); rintro e w4 ⟨g4, rfl, hr4, hb4⟩; have q2 := (hb4.cell (p := ⟨g, k, none⟩) (Nat.lt_of_lt_of_le hr2.out.lt hb3.size)).trans ((hb3.cell (p := ⟨g, k, none⟩) hr2.out.lt).trans (hr2.out.cell hk)); rw [← HL.out] at q2; have hR' := rep_same0 HX.out hr4; rw [← HL.out] at hR'; have hR := Lib.hid hR'; clear hR' hr4)
    | (go_at_call 32; ((with_reducible refine (all_yes _ (Lo.rep L) L _ (rep_len L) (rep_mem L) hR.out).mono ?_); rintro e w4 ⟨rfl, rfl⟩)))
  go_ret
  exact ⟨rfl, belowT hb1 (belowT hb2 (belowT hb3 hb4))⟩

set_option maxRecDepth 100000 in
set_option maxHeartbeats 4000000 in
theorem e_empty3 (b off cap : Nat) (a1 : Option Addr) (c1 : Nat) (zb : List Int) (T M : Int) (k : Nat) (w : World) (t0 : 1 ≤ T) (t1 : T ≤ M) (t2 : M ≤ 65536) (hM : 2 < M) (hb : Ln w b off cap zb) (hk : k < 256) :
    Calls Try.prog 12 #[.slice (some ⟨b, off, none⟩) 256 cap, .slice a1 0 c1, .int .i64 T, .int .i64 M, .int .i64 k] w fun e w' => e = .returned (.bool true) ∧ Below w.heap.size w w' := by
  have HB := Lib.hid hb
  have bd := hb.bd hk
  obtain ⟨x, hx⟩ : ∃ x, x = zb.getD k 0 := ⟨_, rfl⟩
  rw [← hx] at bd
  obtain ⟨x0, x1⟩ := bd
  have kb := hb.lt
  have HX := Lib.hid hx
  have cx := hb.cells k hk
  rw [← hx] at cx
  have CX := Lib.hid cx
  clear hb hx cx
  obtain ⟨L, hL⟩ : ∃ L, L = lineF zb [] 0 T M k := ⟨_, rfl⟩
  have HL := Lib.hid hL
  clear hL
  go_enter Try.func12, Try.ntmps12
  go_wp2_with (first
    | (go_at_call 28; refine (lo_alive _).mono ?_; rintro e w1 ⟨rfl, hb1⟩)
    | (go_at_call 30; (with_reducible refine (lines_e b off cap a1 c1 zb T M _ t0 t1 t2 (HB.out.below hb1)).mono ?_); rintro e w2 ⟨g, rfl, hr2', hb2⟩; have hr2 := Lib.hid hr2'; clear hr2'; have q1 := (hb2.cell (p := ⟨b, off + k, none⟩) (Nat.lt_of_lt_of_le kb hb1.size)).trans ((hb1.cell (p := ⟨b, off + k, none⟩) kb).trans CX.out))
    | (go_at_call 31; ((with_reducible refine (filled_ok x _).mono ?_); rintro e w3 ⟨rfl, hr3', hb3⟩; have hr3 := Lib.hid hr3'; clear hr3'))
    | (go_at_call 30; (with_reducible refine (lines_e w2.heap.size 0 256 none 0 (Lo.rep x) T M _ t0 t1 t2 (Ln.rep hr3.out x0 x1)).mono ?_); rintro e w4 ⟨g4, rfl, hr4, hb4⟩; have q2 := (hb4.cell (p := ⟨g, k, none⟩) (Nat.lt_of_lt_of_le hr2.out.lt hb3.size)).trans ((hb3.cell (p := ⟨g, k, none⟩) hr2.out.lt).trans (hr2.out.cell hk)); rw [← HL.out] at q2; have hR' := rep_same0 HX.out hr4; rw [← HL.out] at hR'; have hR := Lib.hid hR'; clear hR' hr4)
    | (go_at_call 32; ((with_reducible refine (all_yes _ (Lo.rep L) L _ (rep_len L) (rep_mem L) hR.out).mono ?_); rintro e w4 ⟨rfl, rfl⟩))
    | (go_at_call 30; (with_reducible refine (lines_e b off cap none 0 zb T M _ t0 t1 t2 (HB.out.below (belowT hb1 (belowT hb2 (belowT hb3 hb4))))).mono ?_); rintro e w5 ⟨g5, rfl, hr5, hb5⟩; have q3 := (hb5.cell (p := ⟨g, k, none⟩) (Nat.lt_of_lt_of_le hr2.out.lt (belowT hb3 hb4).size)).trans q2; have q4 := hr5.cell hk; rw [← HL.out] at q4; have hR5 := Lib.hid hr5; clear hr5))
  go_quiet (fail)
  go_wp2
  go_ret
  exact ⟨rfl, belowT hb1 (belowT hb2 (belowT hb3 (belowT hb4 (hb5.trans ((drewN_below w5 nq).mono hb5.size)))))⟩

set_option maxRecDepth 100000 in
set_option maxHeartbeats 4000000 in
theorem e_full1 (b off cap : Nat) (b1 o1 c1 : Nat) (zb za : List Int) (T M : Int) (k : Nat) (w : World) (t0 : 1 ≤ T) (t1 : T ≤ M) (t2 : M ≤ 65536) (hM : M < 2) (hb : Ln w b off cap zb) (ha : Ln w b1 o1 c1 za) (hk : k < 256) :
    Calls Try.prog 12 #[.slice (some ⟨b, off, none⟩) 256 cap, .slice (some ⟨b1, o1, none⟩) 256 c1, .int .i64 T, .int .i64 M, .int .i64 k] w fun e w' => e = .returned (.bool true) ∧ Below w.heap.size w w' := by
  have HB := Lib.hid hb
  have bd := hb.bd hk
  obtain ⟨x, hx⟩ : ∃ x, x = zb.getD k 0 := ⟨_, rfl⟩
  rw [← hx] at bd
  obtain ⟨x0, x1⟩ := bd
  have kb := hb.lt
  have HX := Lib.hid hx
  have cx := hb.cells k hk
  rw [← hx] at cx
  have CX := Lib.hid cx
  clear hb hx cx
  have HA := Lib.hid ha
  have bd := ha.bd hk
  obtain ⟨y, hy⟩ : ∃ y, y = za.getD k 0 := ⟨_, rfl⟩
  rw [← hy] at bd
  obtain ⟨y0, y1⟩ := bd
  have ka := ha.lt
  have HY := Lib.hid hy
  have cy := ha.cells k hk
  rw [← hy] at cy
  have CY := Lib.hid cy
  clear ha hy cy
  obtain ⟨L, hL⟩ : ∃ L, L = lineF zb za 256 T M k := ⟨_, rfl⟩
  have HL := Lib.hid hL
  clear hL
  have hM' : ¬ 2 < M := by omega
  go_enter Try.func12, Try.ntmps12
  go_wp2_with (first
    | (go_at_call 28; refine (lo_alive _).mono ?_; rintro e w1 ⟨rfl, hb1⟩)
    | (go_at_call 30; (with_reducible refine (lines_f b off cap b1 o1 c1 zb za T M _ t0 t1 t2 (HB.out.below hb1) (HA.out.below hb1)).mono ?_); rintro e w2 ⟨g, rfl, hr2', hb2⟩; have hr2 := Lib.hid hr2'; clear hr2'; have q1 := (hb2.cell (p := ⟨b, off + k, none⟩) (Nat.lt_of_lt_of_le kb hb1.size)).trans ((hb1.cell (p := ⟨b, off + k, none⟩) kb).trans CX.out); have p1 := (hb2.cell (p := ⟨b1, o1 + k, none⟩) (Nat.lt_of_lt_of_le ka hb1.size)).trans ((hb1.cell (p := ⟨b1, o1 + k, none⟩) ka).trans CY.out))
    | (go_at_call 31; ((with_reducible refine (filled_ok x _).mono ?_); rintro e w3 ⟨rfl, hr3', hb3⟩; have hr3 := Lib.hid hr3'; clear hr3'; have p2 := (hb3.cell (p := ⟨b1, o1 + k, none⟩) (Nat.lt_of_lt_of_le ka (belowT hb1 hb2).size)).trans p1))
    | (go_at_call 31; ((with_reducible refine (filled_ok y _).mono ?_); rintro e w3a ⟨rfl, hr3a', hb3a⟩; have hr3a := Lib.hid hr3a'; clear hr3a'))
    | (go_at_call 30; (with_reducible refine (lines_f w2.heap.size 0 256 w3.heap.size 0 256 (Lo.rep x) (Lo.rep y) T M _ t0 t1 t2 ((Ln.rep hr3.out x0 x1).below hb3a) (Ln.rep hr3a.out y0 y1)).mono ?_); rintro e w4 ⟨g4, rfl, hr4, hb4⟩; have q2 := (hb4.cell (p := ⟨g, k, none⟩) (Nat.lt_of_lt_of_le hr2.out.lt (belowT hb3 hb3a).size)).trans (((belowT hb3 hb3a).cell (p := ⟨g, k, none⟩) hr2.out.lt).trans (hr2.out.cell hk)); rw [← HL.out] at q2; have hR' := rep_same HX.out (fun _ => HY.out) hr4; rw [← HL.out] at hR'; have hR := Lib.hid hR'; clear hR' hr4)
    | (go_at_call 32; ((with_reducible refine (all_yes _ (Lo.rep L) L _ (rep_len L) (rep_mem L) hR.out).mono ?_); rintro e w4 ⟨rfl, rfl⟩)))
  go_ret
  exact ⟨rfl, belowT hb1 (belowT hb2 (belowT hb3 (belowT hb3a hb4)))⟩

set_option maxRecDepth 100000 in
set_option maxHeartbeats 4000000 in
theorem e_full3 (b off cap : Nat) (b1 o1 c1 : Nat) (zb za : List Int) (T M : Int) (k : Nat) (w : World) (t0 : 1 ≤ T) (t1 : T ≤ M) (t2 : M ≤ 65536) (hM : 2 < M) (hb : Ln w b off cap zb) (ha : Ln w b1 o1 c1 za) (hk : k < 256) :
    Calls Try.prog 12 #[.slice (some ⟨b, off, none⟩) 256 cap, .slice (some ⟨b1, o1, none⟩) 256 c1, .int .i64 T, .int .i64 M, .int .i64 k] w fun e w' => e = .returned (.bool true) ∧ Below w.heap.size w w' := by
  have HB := Lib.hid hb
  have bd := hb.bd hk
  obtain ⟨x, hx⟩ : ∃ x, x = zb.getD k 0 := ⟨_, rfl⟩
  rw [← hx] at bd
  obtain ⟨x0, x1⟩ := bd
  have kb := hb.lt
  have HX := Lib.hid hx
  have cx := hb.cells k hk
  rw [← hx] at cx
  have CX := Lib.hid cx
  clear hb hx cx
  have HA := Lib.hid ha
  have bd := ha.bd hk
  obtain ⟨y, hy⟩ : ∃ y, y = za.getD k 0 := ⟨_, rfl⟩
  rw [← hy] at bd
  obtain ⟨y0, y1⟩ := bd
  have ka := ha.lt
  have HY := Lib.hid hy
  have cy := ha.cells k hk
  rw [← hy] at cy
  have CY := Lib.hid cy
  clear ha hy cy
  obtain ⟨L, hL⟩ : ∃ L, L = lineF zb za 256 T M k := ⟨_, rfl⟩
  have HL := Lib.hid hL
  clear hL
  have hE : lineF zb [] 0 T M k = L := by rw [HL.out]; unfold lineF; simp [show ¬ M ≤ 2 by omega]
  have HE := Lib.hid hE
  clear hE
  go_enter Try.func12, Try.ntmps12
  go_wp2_with (first
    | (go_at_call 28; refine (lo_alive _).mono ?_; rintro e w1 ⟨rfl, hb1⟩)
    | (go_at_call 30; (with_reducible refine (lines_f b off cap b1 o1 c1 zb za T M _ t0 t1 t2 (HB.out.below hb1) (HA.out.below hb1)).mono ?_); rintro e w2 ⟨g, rfl, hr2', hb2⟩; have hr2 := Lib.hid hr2'; clear hr2'; have q1 := (hb2.cell (p := ⟨b, off + k, none⟩) (Nat.lt_of_lt_of_le kb hb1.size)).trans ((hb1.cell (p := ⟨b, off + k, none⟩) kb).trans CX.out); have p1 := (hb2.cell (p := ⟨b1, o1 + k, none⟩) (Nat.lt_of_lt_of_le ka hb1.size)).trans ((hb1.cell (p := ⟨b1, o1 + k, none⟩) ka).trans CY.out))
    | (go_at_call 31; ((with_reducible refine (filled_ok x _).mono ?_); rintro e w3 ⟨rfl, hr3', hb3⟩; have hr3 := Lib.hid hr3'; clear hr3'; have p2 := (hb3.cell (p := ⟨b1, o1 + k, none⟩) (Nat.lt_of_lt_of_le ka (belowT hb1 hb2).size)).trans p1))
    | (go_at_call 31; ((with_reducible refine (filled_ok y _).mono ?_); rintro e w3a ⟨rfl, hr3a', hb3a⟩; have hr3a := Lib.hid hr3a'; clear hr3a'))
    | (go_at_call 30; (with_reducible refine (lines_f w2.heap.size 0 256 w3.heap.size 0 256 (Lo.rep x) (Lo.rep y) T M _ t0 t1 t2 ((Ln.rep hr3.out x0 x1).below hb3a) (Ln.rep hr3a.out y0 y1)).mono ?_); rintro e w4 ⟨g4, rfl, hr4, hb4⟩; have q2 := (hb4.cell (p := ⟨g, k, none⟩) (Nat.lt_of_lt_of_le hr2.out.lt (belowT hb3 hb3a).size)).trans (((belowT hb3 hb3a).cell (p := ⟨g, k, none⟩) hr2.out.lt).trans (hr2.out.cell hk)); rw [← HL.out] at q2; have hR' := rep_same HX.out (fun _ => HY.out) hr4; rw [← HL.out] at hR'; have hR := Lib.hid hR'; clear hR' hr4)
    | (go_at_call 32; ((with_reducible refine (all_yes _ (Lo.rep L) L _ (rep_len L) (rep_mem L) hR.out).mono ?_); rintro e w4 ⟨rfl, rfl⟩))
    | (go_at_call 30; (with_reducible refine (lines_e b off cap none 0 zb T M _ t0 t1 t2 (HB.out.below (belowT hb1 (belowT hb2 (belowT hb3 (belowT hb3a hb4)))))).mono ?_); rintro e w5 ⟨g5, rfl, hr5, hb5⟩; have q3 := (hb5.cell (p := ⟨g, k, none⟩) (Nat.lt_of_lt_of_le hr2.out.lt (belowT hb3 (belowT hb3a hb4)).size)).trans q2; have q4 := hr5.cell hk; rw [HE.out] at q4; have hR5 := Lib.hid hr5; clear hr5))
  go_quiet (fail)
  go_wp2
  go_ret
  exact ⟨rfl, belowT hb1 (belowT hb2 (belowT hb3 (belowT hb3a (belowT hb4 (hb5.trans ((drewN_below w5 nq).mono hb5.size))))))⟩

set_option maxRecDepth 100000 in
set_option maxHeartbeats 4000000 in
theorem e_full2_1 (b off cap : Nat) (b1 o1 c1 : Nat) (zb za : List Int) (k : Nat) (w : World) (hb : Ln w b off cap zb) (ha : Ln w b1 o1 c1 za) (hk : k < 256) :
    Calls Try.prog 12 #[.slice (some ⟨b, off, none⟩) 256 cap, .slice (some ⟨b1, o1, none⟩) 256 c1, .int .i64 1, .int .i64 2, .int .i64 k] w fun e w' => e = .returned (.bool true) ∧ Below w.heap.size w w' := by
  have HB := Lib.hid hb
  have bd := hb.bd hk
  obtain ⟨x, hx⟩ : ∃ x, x = zb.getD k 0 := ⟨_, rfl⟩
  rw [← hx] at bd
  obtain ⟨x0, x1⟩ := bd
  have kb := hb.lt
  have HX := Lib.hid hx
  have cx := hb.cells k hk
  rw [← hx] at cx
  have CX := Lib.hid cx
  clear hb hx cx
  have HA := Lib.hid ha
  have bd := ha.bd hk
  obtain ⟨y, hy⟩ : ∃ y, y = za.getD k 0 := ⟨_, rfl⟩
  rw [← hy] at bd
  obtain ⟨y0, y1⟩ := bd
  have ka := ha.lt
  have HY := Lib.hid hy
  have cy := ha.cells k hk
  rw [← hy] at cy
  have CY := Lib.hid cy
  clear ha hy cy
  obtain ⟨L, hL⟩ : ∃ L, L = lineF zb za 256 1 2 k := ⟨_, rfl⟩
  obtain ⟨N, hN⟩ : ∃ N, N = lineF zb za 256 2 2 k := ⟨_, rfl⟩
  have vL : L = (x * (3 - 1) + y * 1) / 3 := by rw [hL, HX.out, HY.out]; rfl
  have vN : N = (x * (3 - 2) + y * 2) / 3 := by rw [hN, HX.out, HY.out]; rfl
  have VL := Lib.hid vL
  have VN := Lib.hid vN
  clear vL vN
  have HL := Lib.hid hL
  have HN := Lib.hid hN
  clear hL hN
  go_enter Try.func12, Try.ntmps12
  go_wp2_with (first
    | (go_at_call 28; refine (lo_alive _).mono ?_; rintro e w1 ⟨rfl, hb1⟩)
    | (go_at_call 30; (with_reducible refine (lines_f b off cap b1 o1 c1 zb za 1 2 _ (by omega) (by omega) (by omega) (HB.out.below hb1) (HA.out.below hb1)).mono ?_); rintro e w2 ⟨g, rfl, hr2', hb2⟩; have hr2 := Lib.hid hr2'; clear hr2'; have q1 := (hb2.cell (p := ⟨b, off + k, none⟩) (Nat.lt_of_lt_of_le kb hb1.size)).trans ((hb1.cell (p := ⟨b, off + k, none⟩) kb).trans CX.out); have p1 := (hb2.cell (p := ⟨b1, o1 + k, none⟩) (Nat.lt_of_lt_of_le ka hb1.size)).trans ((hb1.cell (p := ⟨b1, o1 + k, none⟩) ka).trans CY.out))
    | (go_at_call 31; ((with_reducible refine (filled_ok x _).mono ?_); rintro e w3 ⟨rfl, hr3', hb3⟩; have hr3 := Lib.hid hr3'; clear hr3'; have p2 := (hb3.cell (p := ⟨b1, o1 + k, none⟩) (Nat.lt_of_lt_of_le ka (belowT hb1 hb2).size)).trans p1))
    | (go_at_call 31; ((with_reducible refine (filled_ok y _).mono ?_); rintro e w3a ⟨rfl, hr3a', hb3a⟩; have hr3a := Lib.hid hr3a'; clear hr3a'))
    | (go_at_call 30; (with_reducible refine (lines_f w2.heap.size 0 256 w3.heap.size 0 256 (Lo.rep x) (Lo.rep y) 1 2 _ (by omega) (by omega) (by omega) ((Ln.rep hr3.out x0 x1).below hb3a) (Ln.rep hr3a.out y0 y1)).mono ?_); rintro e w4 ⟨g4, rfl, hr4, hb4⟩; have q2 := (hb4.cell (p := ⟨g, k, none⟩) (Nat.lt_of_lt_of_le hr2.out.lt (belowT hb3 hb3a).size)).trans (((belowT hb3 hb3a).cell (p := ⟨g, k, none⟩) hr2.out.lt).trans (hr2.out.cell hk)); rw [← HL.out] at q2; have hR' := rep_same HX.out (fun _ => HY.out) hr4; rw [← HL.out] at hR'; have hR := Lib.hid hR'; clear hR' hr4)
    | (go_at_call 32; ((with_reducible refine (all_yes _ (Lo.rep L) L _ (rep_len L) (rep_mem L) hR.out).mono ?_); rintro e w4 ⟨rfl, rfl⟩))
    | (go_at_call 30; (with_reducible refine (lines_f b off cap b1 o1 c1 zb za 2 2 _ (by omega) (by omega) (by omega) (HB.out.below (belowT hb1 (belowT hb2 (belowT hb3 (belowT hb3a hb4))))) (HA.out.below (belowT hb1 (belowT hb2 (belowT hb3 (belowT hb3a hb4)))))).mono ?_); rintro e w5 ⟨g5, rfl, hr5, hb5⟩; have q3 := (hb5.cell (p := ⟨g, k, none⟩) (Nat.lt_of_lt_of_le hr2.out.lt (belowT hb3 (belowT hb3a hb4)).size)).trans q2; have q4 := hr5.cell hk; rw [← HN.out] at q4; have hR5 := Lib.hid hr5; clear hr5; have q5 := ((belowT hb3 (belowT hb3a (belowT hb4 hb5))).cell (p := ⟨b, off + k, none⟩) (Nat.lt_of_lt_of_le kb (belowT hb1 hb2).size)).trans q1; have q6 := ((belowT hb3 (belowT hb3a (belowT hb4 hb5))).cell (p := ⟨b1, o1 + k, none⟩) (Nat.lt_of_lt_of_le ka (belowT hb1 hb2).size)).trans p1))
  go_quiet (fail)
  have z1 := (drewN_below w5 nq).cell (p := ⟨g, k, none⟩) (lt_of_cell q3)
  have z2 := (drewN_below w5 nq).cell (p := ⟨b, off + k, none⟩) (lt_of_cell q5)
  have z3 := (drewN_below w5 nq).cell (p := ⟨b1, o1 + k, none⟩) (lt_of_cell q6)
  have z4 := drewN_below w5 nq
  generalize w5.drewN nq = w6 at *
  rw [q5] at z2
  rw [q6] at z3
  go_wp2
  go_quiet (fail)
  have y4 := drewN_below w6 nq
  generalize w6.drewN nq = w7 at *
  have bds : -268435455 ≤ L ∧ L ≤ 268435455 ∧ -268435455 ≤ N ∧ N ≤ 268435455 := by have h1 := VL.out; have h2 := VN.out; omega
  obtain ⟨l0, l1, n0, n1⟩ := bds
  have Z := Lib.hid z4
  have Y := Lib.hid y4
  clear z4 y4
  go_wp2
  all_goals
    go_ret
    refine ⟨retB ?_, belowT hb1 (belowT hb2 (belowT hb3 (belowT hb3a (belowT hb4 (belowT hb5 (belowT Z.out Y.out))))))⟩
    have h1 := VL.out
    have h2 := VN.out
    first | (simp; omega) | (exfalso; omega)

set_option maxRecDepth 100000 in
set_option maxHeartbeats 4000000 in
theorem e_full2_2 (b off cap : Nat) (b1 o1 c1 : Nat) (zb za : List Int) (k : Nat) (w : World) (hb : Ln w b off cap zb) (ha : Ln w b1 o1 c1 za) (hk : k < 256) :
    Calls Try.prog 12 #[.slice (some ⟨b, off, none⟩) 256 cap, .slice (some ⟨b1, o1, none⟩) 256 c1, .int .i64 2, .int .i64 2, .int .i64 k] w fun e w' => e = .returned (.bool true) ∧ Below w.heap.size w w' := by
  have HB := Lib.hid hb
  have bd := hb.bd hk
  obtain ⟨x, hx⟩ : ∃ x, x = zb.getD k 0 := ⟨_, rfl⟩
  rw [← hx] at bd
  obtain ⟨x0, x1⟩ := bd
  have kb := hb.lt
  have HX := Lib.hid hx
  have cx := hb.cells k hk
  rw [← hx] at cx
  have CX := Lib.hid cx
  clear hb hx cx
  have HA := Lib.hid ha
  have bd := ha.bd hk
  obtain ⟨y, hy⟩ : ∃ y, y = za.getD k 0 := ⟨_, rfl⟩
  rw [← hy] at bd
  obtain ⟨y0, y1⟩ := bd
  have ka := ha.lt
  have HY := Lib.hid hy
  have cy := ha.cells k hk
  rw [← hy] at cy
  have CY := Lib.hid cy
  clear ha hy cy
  obtain ⟨L, hL⟩ : ∃ L, L = lineF zb za 256 2 2 k := ⟨_, rfl⟩
  obtain ⟨N, hN⟩ : ∃ N, N = lineF zb za 256 1 2 k := ⟨_, rfl⟩
  have vL : L = (x * (3 - 2) + y * 2) / 3 := by rw [hL, HX.out, HY.out]; rfl
  have vN : N = (x * (3 - 1) + y * 1) / 3 := by rw [hN, HX.out, HY.out]; rfl
  have VL := Lib.hid vL
  have VN := Lib.hid vN
  clear vL vN
  have HL := Lib.hid hL
  have HN := Lib.hid hN
  clear hL hN
  go_enter Try.func12, Try.ntmps12
  go_wp2_with (first
    | (go_at_call 28; refine (lo_alive _).mono ?_; rintro e w1 ⟨rfl, hb1⟩)
    | (go_at_call 30; (with_reducible refine (lines_f b off cap b1 o1 c1 zb za 2 2 _ (by omega) (by omega) (by omega) (HB.out.below hb1) (HA.out.below hb1)).mono ?_); rintro e w2 ⟨g, rfl, hr2', hb2⟩; have hr2 := Lib.hid hr2'; clear hr2'; have q1 := (hb2.cell (p := ⟨b, off + k, none⟩) (Nat.lt_of_lt_of_le kb hb1.size)).trans ((hb1.cell (p := ⟨b, off + k, none⟩) kb).trans CX.out); have p1 := (hb2.cell (p := ⟨b1, o1 + k, none⟩) (Nat.lt_of_lt_of_le ka hb1.size)).trans ((hb1.cell (p := ⟨b1, o1 + k, none⟩) ka).trans CY.out))
    | (go_at_call 31; ((with_reducible refine (filled_ok x _).mono ?_); rintro e w3 ⟨rfl, hr3', hb3⟩; have hr3 := Lib.hid hr3'; clear hr3'; have p2 := (hb3.cell (p := ⟨b1, o1 + k, none⟩) (Nat.lt_of_lt_of_le ka (belowT hb1 hb2).size)).trans p1))
    | (go_at_call 31; ((with_reducible refine (filled_ok y _).mono ?_); rintro e w3a ⟨rfl, hr3a', hb3a⟩; have hr3a := Lib.hid hr3a'; clear hr3a'))
    | (go_at_call 30; (with_reducible refine (lines_f w2.heap.size 0 256 w3.heap.size 0 256 (Lo.rep x) (Lo.rep y) 2 2 _ (by omega) (by omega) (by omega) ((Ln.rep hr3.out x0 x1).below hb3a) (Ln.rep hr3a.out y0 y1)).mono ?_); rintro e w4 ⟨g4, rfl, hr4, hb4⟩; have q2 := (hb4.cell (p := ⟨g, k, none⟩) (Nat.lt_of_lt_of_le hr2.out.lt (belowT hb3 hb3a).size)).trans (((belowT hb3 hb3a).cell (p := ⟨g, k, none⟩) hr2.out.lt).trans (hr2.out.cell hk)); rw [← HL.out] at q2; have hR' := rep_same HX.out (fun _ => HY.out) hr4; rw [← HL.out] at hR'; have hR := Lib.hid hR'; clear hR' hr4)
    | (go_at_call 32; ((with_reducible refine (all_yes _ (Lo.rep L) L _ (rep_len L) (rep_mem L) hR.out).mono ?_); rintro e w4 ⟨rfl, rfl⟩))
    | (go_at_call 30; (with_reducible refine (lines_f b off cap b1 o1 c1 zb za 1 2 _ (by omega) (by omega) (by omega) (HB.out.below (belowT hb1 (belowT hb2 (belowT hb3 (belowT hb3a hb4))))) (HA.out.below (belowT hb1 (belowT hb2 (belowT hb3 (belowT hb3a hb4)))))).mono ?_); rintro e w5 ⟨g5, rfl, hr5, hb5⟩; have q3 := (hb5.cell (p := ⟨g, k, none⟩) (Nat.lt_of_lt_of_le hr2.out.lt (belowT hb3 (belowT hb3a hb4)).size)).trans q2; have q4 := hr5.cell hk; rw [← HN.out] at q4; have hR5 := Lib.hid hr5; clear hr5; have q5 := ((belowT hb3 (belowT hb3a (belowT hb4 hb5))).cell (p := ⟨b, off + k, none⟩) (Nat.lt_of_lt_of_le kb (belowT hb1 hb2).size)).trans q1; have q6 := ((belowT hb3 (belowT hb3a (belowT hb4 hb5))).cell (p := ⟨b1, o1 + k, none⟩) (Nat.lt_of_lt_of_le ka (belowT hb1 hb2).size)).trans p1))
  go_quiet (fail)
  have z1 := (drewN_below w5 nq).cell (p := ⟨g, k, none⟩) (lt_of_cell q3)
  have z2 := (drewN_below w5 nq).cell (p := ⟨b, off + k, none⟩) (lt_of_cell q5)
  have z3 := (drewN_below w5 nq).cell (p := ⟨b1, o1 + k, none⟩) (lt_of_cell q6)
  have z4 := drewN_below w5 nq
  generalize w5.drewN nq = w6 at *
  rw [q5] at z2
  rw [q6] at z3
  go_wp2
  go_quiet (fail)
  have y4 := drewN_below w6 nq
  generalize w6.drewN nq = w7 at *
  have bds : -268435455 ≤ L ∧ L ≤ 268435455 ∧ -268435455 ≤ N ∧ N ≤ 268435455 := by have h1 := VL.out; have h2 := VN.out; omega
  obtain ⟨l0, l1, n0, n1⟩ := bds
  have Z := Lib.hid z4
  have Y := Lib.hid y4
  clear z4 y4
  go_wp2
  all_goals
    go_ret
    refine ⟨retB ?_, belowT hb1 (belowT hb2 (belowT hb3 (belowT hb3a (belowT hb4 (belowT hb5 (belowT Z.out Y.out))))))⟩
    have h1 := VL.out
    have h2 := VN.out
    first | (simp; omega) | (exfalso; omega)


set_option maxRecDepth 100000 in
theorem e_long (a0 a1 : Option Addr) (l0 l1 c0 c1 : Nat) (T M P : Int) (w : World) (m0 : l0 ≤ maxLen) (m1 : l1 ≤ maxLen) (h : 1000 < l0 ∨ 1000 < l1) :
    Calls Try.prog 12 #[.slice a0 l0 c0, .slice a1 l1 c1, .int .i64 T, .int .i64 M, .int .i64 P] w fun e w' => e = .returned (.bool true) ∧ Below w.heap.size w w' := by
  unfold maxLen at m0 m1
  by_cases h0 : 1000 < l0
  · go_enter Try.func12, Try.ntmps12
    go_wp2_with (go_at_call 28; refine (lo_alive _).mono ?_; rintro e w1 ⟨rfl, hb1⟩)
    go_ret
    exact ⟨rfl, by assumption⟩
  · have h1 : 1000 < l1 := by omega
    clear h
    go_enter Try.func12, Try.ntmps12
    go_wp2_with (go_at_call 28; refine (lo_alive _).mono ?_; rintro e w1 ⟨rfl, hb1⟩)
    go_ret
    exact ⟨rfl, by assumption⟩

set_option maxRecDepth 100000 in
theorem e_bad (a0 a1 : Option Addr) (l0 l1 c0 c1 : Nat) (T M r P : Int) (w : World) (m0 : l0 ≤ 1000) (m1 : l1 ≤ 1000) (hr : (r == 0) = false)
    (hE : ∀ w1, Below w.heap.size w w1 → Calls Try.prog 30 #[.slice a0 l0 c0, .slice a1 l1 c1, .int .i64 T, .int .i64 M] w1 fun e w' => e = .returned (.tuple #[.slice none 0 0, .int .i64 r]) ∧ w1 = w') :
    Calls Try.prog 12 #[.slice a0 l0 c0, .slice a1 l1 c1, .int .i64 T, .int .i64 M, .int .i64 P] w fun e w' => e = .returned (.bool true) ∧ Below w.heap.size w w' := by
  have HE := Lib.hid hE
  have hr2 : (r != 0) = true := by rw [bne, hr]; rfl
  clear hE
  go_enter Try.func12, Try.ntmps12
  go_wp2_with (first | (go_at_call 28; refine (lo_alive _).mono ?_; rintro e w1 ⟨rfl, hb1⟩) | (go_at_call 30; refine (HE.out _ hb1).mono ?_; rintro e w3 ⟨rfl, rfl⟩))
  go_ret
  exact ⟨rfl, by assumption⟩

set_option maxRecDepth 100000 in
theorem e_out (a0 a1 : Option Addr) (l0 l1 c0 c1 : Nat) (T M P : Int) (w : World) (m0 : l0 ≤ 1000) (m1 : l1 ≤ 1000) (hP : P < 0 ∨ 255 < P)
    (hE : ∀ w1, Below w.heap.size w w1 → Calls Try.prog 30 #[.slice a0 l0 c0, .slice a1 l1 c1, .int .i64 T, .int .i64 M] w1 fun e w' => (∃ g, e = .returned (.tuple #[.slice (some g) 256 256, .int .i64 0])) ∧ Below w1.heap.size w1 w') :
    Calls Try.prog 12 #[.slice a0 l0 c0, .slice a1 l1 c1, .int .i64 T, .int .i64 M, .int .i64 P] w fun e w' => e = .returned (.bool true) ∧ Below w.heap.size w w' := by
  have HE := Lib.hid hE
  clear hE
  by_cases h0 : P < 0
  · go_enter Try.func12, Try.ntmps12
    go_wp2_with (first | (go_at_call 28; refine (lo_alive _).mono ?_; rintro e w1 ⟨rfl, hb1⟩) | (go_at_call 30; refine (HE.out _ hb1).mono ?_; rintro e w3 ⟨⟨g, rfl⟩, hb2⟩))
    go_ret
    exact ⟨rfl, belowT hb1 hb2⟩
  · have h1 : 255 < P := by omega
    clear hP
    go_enter Try.func12, Try.ntmps12
    go_wp2_with (first | (go_at_call 28; refine (lo_alive _).mono ?_; rintro e w1 ⟨rfl, hb1⟩) | (go_at_call 30; refine (HE.out _ hb1).mono ?_; rintro e w3 ⟨⟨g, rfl⟩, hb2⟩))
    go_ret
    exact ⟨rfl, belowT hb1 hb2⟩

theorem walk (a0 : Option Addr) (l0 c0 : Nat) (z0 : List Int) (a1 : Option Addr) (l1 c1 : Nat) (z1 : List Int) (T M P : Int) (w : World) (w0 : IsRow .i64 w a0 l0 c0 z0) (w1 : IsRow .i64 w a1 l1 c1 z1) (_ : (Lit.int .i64 T).wf = true) (_ : (Lit.int .i64 M).wf = true) (_ : (Lit.int .i64 P).wf = true) :
    Calls Try.prog 12 #[.slice a0 l0 c0, .slice a1 l1 c1, .int .i64 T, .int .i64 M, .int .i64 P] w fun e w' => e = .returned (.bool true) ∧ Below w.heap.size w w' := by
  by_cases h : 1000 < l0 ∨ 1000 < l1
  · exact e_long a0 a1 l0 l1 c0 c1 T M P w w0.le w1.le h
  obtain ⟨zb, lb, rb, _⟩ := w0.rd
  obtain ⟨za, la, ra, _⟩ := w1.rd
  rw [lb] at rb
  rw [la] at ra
  rcases way a0 l0 c0 a1 l1 c1 zb za T M w (by omega) (by omega) lb la rb ra with ⟨r, hr, hE⟩ | ⟨b, off, hT, rfl, rfl, rfl, hb⟩ | ⟨b, off, b1, o1, hT, rfl, rfl, rfl, rfl, hb, hb1⟩
  · exact e_bad a0 a1 l0 l1 c0 c1 T M r P w (by omega) (by omega) (by simp; omega) hE
  · by_cases hP : P < 0 ∨ 255 < P
    · refine e_out _ a1 256 0 c0 c1 T M P w (by omega) (by omega) hP fun w1 hw1 => (lines_e b off c0 a1 c1 zb T M w1 hT.1 hT.2.1 hT.2.2 (hb.below hw1)).mono ?_
      rintro e w' ⟨g, rfl, _, h2⟩
      exact ⟨⟨_, rfl⟩, h2⟩
    · obtain ⟨k, rfl⟩ : ∃ k : Nat, P = (k : Int) := ⟨P.toNat, by omega⟩
      by_cases h1 : M < 2
      · exact e_empty1 b off c0 a1 c1 zb T M k w hT.1 hT.2.1 hT.2.2 h1 hb (by omega)
      by_cases h2 : M = 2
      · exact e_empty2 b off c0 a1 c1 zb T M k w hT.1 hT.2.1 hT.2.2 h2 hb (by omega)
      · exact e_empty3 b off c0 a1 c1 zb T M k w hT.1 hT.2.1 hT.2.2 (by omega) hb (by omega)
  · by_cases hP : P < 0 ∨ 255 < P
    · refine e_out _ _ 256 256 c0 c1 T M P w (by omega) (by omega) hP fun w1 hw1 => (lines_f b off c0 b1 o1 c1 zb za T M w1 hT.1 hT.2.1 hT.2.2 (hb.below hw1) (hb1.below hw1)).mono ?_
      rintro e w' ⟨g, rfl, _, h2⟩
      exact ⟨⟨_, rfl⟩, h2⟩
    · obtain ⟨k, rfl⟩ : ∃ k : Nat, P = (k : Int) := ⟨P.toNat, by omega⟩
      by_cases h1 : M < 2
      · exact e_full1 b off c0 b1 o1 c1 zb za T M k w hT.1 hT.2.1 hT.2.2 h1 hb hb1 (by omega)
      by_cases h2 : 2 < M
      · exact e_full3 b off c0 b1 o1 c1 zb za T M k w hT.1 hT.2.1 hT.2.2 h2 hb hb1 (by omega)
      obtain rfl : M = 2 := by omega
      by_cases h3 : T = 1
      · subst h3
        exact e_full2_1 b off c0 b1 o1 c1 zb za k w hb hb1 (by omega)
      · obtain rfl : T = 2 := by omega
        exact e_full2_2 b off c0 b1 o1 c1 zb za k w hb hb1 (by omega)

theorem own : ownKnob Try.prog.godebug = none := by kernel_rfl
theorem laidOut : laidOutB Try.prog = true := by kernel_rfl
set_option linter.unusedVariables false
set_option maxRecDepth 100000 in
theorem lifted (os : Os) (started : os.Started) (H : Type) (enc : TypeId × Value → H) :
    ReturnsInHanded {} Try.checked os 12 .any (Rows.loseEachSpec.pre6 enc Try.prog Try.f12 Rows.loseEachRow.domain false) (Rows.loseEachSpec.post enc Try.prog Try.f12 false true false false) := by
  refine returnsInHanded_of_change (C := Try.checked) own started (by kernel_rfl) Try.func12
    (ChangeSpec.witness6 (enc := enc) (C := Try.checked) false ⟨#[], #[.slice none 0 0, .slice none 0 0, .int .i64 0, .int .i64 0, .int .i64 0], []⟩ 8 (by kernel_rfl) (by kernel_rfl) (by kernel_rfl) (by kernel_rfl)) ?_
  intro W base args ds gs before hval0 hW hcnd _
  have hval : ∀ (j : Nat) t v, Try.f12.params[j]? = some t → args[j]? = some v → Value.okWide Try.prog W .any base t v := hval0
  have hW' := hW
  obtain ⟨p, q, hA0, hV, rfl, hfz, hnd⟩ := hW
  have hA : DataW.TrodAll enc Try.prog W 0 (fun _ => true) true Try.f12.params.toList args.toList ds p := hA0
  rw [Try.params12] at hA hval
  obtain ⟨v0, vs0, d0, ds0, p0, q0, hargs, rfl, rfl, h0, r0⟩ := trodAll_cons hA
  obtain ⟨v1, vs1, d1, ds1, p1, q1, rfl, rfl, rfl, h1, r1⟩ := trodAll_cons r0
  obtain ⟨v2, vs2, d2, ds2, p2, q2, rfl, rfl, rfl, h2, r2⟩ := trodAll_cons r1
  obtain ⟨v3, vs3, d3, ds3, p3, q3, rfl, rfl, rfl, h3, r3⟩ := trodAll_cons r2
  obtain ⟨v4, vs4, d4, ds4, p4, q4, rfl, rfl, rfl, h4, r4⟩ := trodAll_cons r3
  obtain ⟨rfl, rfl, rfl⟩ := trodAll_nil r4
  obtain rfl : args = #[v0, v1, v2, v3, v4] := by cases args; simp_all
  obtain ⟨rfl, rfl⟩ := trodVars_none hV
  obtain ⟨a0, len0, cap0, rfl⟩ := okWide_slice Try.underlying22 (hval 0 22 v0 rfl rfl)
  have k0 := h0
  have lt0 : ∀ x ∈ p0, x.block < W.heap.size := by obtain ⟨m, hm⟩ := k0; exact DataW.trod_lt m _ _ _ hm
  obtain ⟨z0, w0⟩ : ∃ zs, IsRow .i64 W a0 len0 cap0 zs := by
    obtain ⟨fuel, hf⟩ := h0
    rcases open_ints Try.underlying22 Try.underlying3 (by kernel_rfl) hf with ⟨hcs, _⟩ | ⟨x, l, c, zs, hcs, _, hl, hm, hz, _, hcell, hwz⟩
    · simp [Value.cells] at hcs
      obtain ⟨rfl, rfl, rfl⟩ := hcs
      exact ⟨[], .inl ⟨rfl, rfl, rfl, rfl⟩⟩
    · simp [Value.cells] at hcs
      obtain ⟨rfl, rfl, rfl⟩ := hcs
      exact ⟨zs, .inr ⟨_, rfl, hl, hm, by simpa using hz, hcell, hwz⟩⟩
  obtain ⟨a1, len1, cap1, rfl⟩ := okWide_slice Try.underlying22 (hval 1 22 v1 rfl rfl)
  have k1 := h1
  have lt1 : ∀ x ∈ p1, x.block < W.heap.size := by obtain ⟨m, hm⟩ := k1; exact DataW.trod_lt m _ _ _ hm
  obtain ⟨z1, w1⟩ : ∃ zs, IsRow .i64 W a1 len1 cap1 zs := by
    obtain ⟨fuel, hf⟩ := h1
    rcases open_ints Try.underlying22 Try.underlying3 (by kernel_rfl) hf with ⟨hcs, _⟩ | ⟨x, l, c, zs, hcs, _, hl, hm, hz, _, hcell, hwz⟩
    · simp [Value.cells] at hcs
      obtain ⟨rfl, rfl, rfl⟩ := hcs
      exact ⟨[], .inl ⟨rfl, rfl, rfl, rfl⟩⟩
    · simp [Value.cells] at hcs
      obtain ⟨rfl, rfl, rfl⟩ := hcs
      exact ⟨zs, .inr ⟨_, rfl, hl, hm, by simpa using hz, hcell, hwz⟩⟩
  obtain ⟨a2, rfl, rfl, rfl, w2⟩ := open_int Try.underlying3 (hval 2 3 v2 rfl rfl) h2
  obtain ⟨a3, rfl, rfl, rfl, w3⟩ := open_int Try.underlying3 (hval 3 3 v3 rfl rfl) h3
  obtain ⟨a4, rfl, rfl, rfl, w4⟩ := open_int Try.underlying3 (hval 4 3 v4 rfl rfl) h4
  clear hA0 hval0
  refine (walk a0 len0 cap0 z0 a1 len1 cap1 z1 a2 a3 a4 W w0 w1 w2 w3 w4).mono fun e W' ⟨he, bel⟩ => ?_
  subst he
  exact ⟨_, rfl, _, _, _, [], _, [], hW', trodAll_mk1 (shut_bool Try.underlying4 _), (trodAll_cons_mk (Below.trod laidOut (by kernel_rfl) (of_decide_eq_true (by kernel_rfl)) k0 bel lt0) (trodAll_cons_mk (Below.trod laidOut (by kernel_rfl) (of_decide_eq_true (by kernel_rfl)) k1 bel lt1) (trodAll_cons_mk (shut_int Try.underlying3 w2) (trodAll_cons_mk (shut_int Try.underlying3 w3) (trodAll_cons_mk (shut_int Try.underlying3 w4) trodAll_mk0))))), rfl, bel.frame _, fun h => by cases h⟩

theorem over : Rows.loseEachRow.holds Try.pinned (OpenSpec.ofChange Rows.loseEachSpec) :=
  OpenClaim.holds_of_wide 12 Try.f12 rfl rfl rfl rfl rfl rfl rfl ⟨rfl, rfl, rfl, rfl, rfl⟩ rfl rfl rfl rfl rfl (by kernel_rfl) Try.func12 (by kernel_rfl)
    (of_decide_eq_true (by kernel_rfl)) (by unfold Func.isWrapper; first | (rw [if_pos (by decide +kernel)]; kernel_rfl) | (rw [if_neg (by decide +kernel)]; exact ⟨rfl, rfl⟩))
    (fun os started H enc _ => lifted os started H enc)

theorem proved : Rows.LoseEachSaid := over
end Go.Proofs.Ytnbbjobmaakogaa.loseEach
