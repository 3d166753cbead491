/- Ranks and entries. -/
import Derived.Test.YteklahfgplbmcaaDoorBkAl
import Derived.WalkKit
import Derived.Below
import Derived.RegionTactic
import Derived.Deep.QuietTactic
import Derived.BigQuiet
import Derived.ChangeAlike
import Derived.Deep.OwnRows
import Derived.Deep.RegionHeld3
import Derived.ProofKit
import Derived.OpenShut
import Derived.Laws.EntriesVeiled
import Derived.Lib.Hide
namespace Go.Proofs.YteklahfgplbmcaaDoor.BkRk
open Go Go.ChangeShapes Go.WideShapes Go.ChangeAt Go.RowKit Go.Proofs.YteklahfgplbmcaaDoor.Bk Go.Proofs.YteklahfgplbmcaaDoor.Bi Go.Proofs.YteklahfgplbmcaaDoor.Cr Go.Proofs.YteklahfgplbmcaaDoor.Fx

theorem wf8 {s : Int} (h : (Lit.int .u8 s).wf = true) : 0 ≤ s ∧ s ≤ 255 := by
  simp [Lit.wf] at h
  have e : IntKind.u8.min = 0 := rfl
  have e2 : IntKind.u8.max = 255 := rfl
  omega
theorem wf16 {s : Int} (h : (Lit.int .u16 s).wf = true) : 0 ≤ s ∧ s ≤ 65535 := by
  simp [Lit.wf] at h
  have e : IntKind.u16.min = 0 := rfl
  have e2 : IntKind.u16.max = 65535 := rfl
  omega

set_option maxRecDepth 100000 in
set_option maxHeartbeats 8000000 in
theorem main (a b : Int) (w : World) (hs : Sh w) (ha : (Lit.int .u8 a).wf = true) (hb : (Lit.int .u16 b).wf = true) :
    Calls Tryd.prog 9 #[.int .u8 a, .int .u16 b] w fun e w' => e = .returned (.bool true) ∧ True ∧ Below w.heap.size w w' := by
  obtain ⟨a0, a1⟩ := wf8 ha
  obtain ⟨b0, b1⟩ := wf16 hb
  clear ha hb
  obtain ⟨id, hid⟩ : ∃ id : Nat, a % 12 + 1 = (id : Int) := ⟨(a % 12 + 1).toNat, by omega⟩
  have hidb : 1 ≤ id ∧ id ≤ 12 := by omega
  obtain ⟨h1, h2⟩ := hidb
  have hord := ord_is h1 h2
  obtain ⟨f1, f2, f3, f4, f5, f6, f7, f8, f9, f10, f11, f12, f13, f14⟩ := facts h1 h2
  obtain ⟨r, hr⟩ : ∃ r : Nat, b % (Nn id : Int) = (r : Int) := ⟨(b % (Nn id : Int)).toNat, by have := Int.emod_nonneg b (show (Nn id : Int) ≠ 0 by omega); omega⟩
  have hrN : r < Nn id := by have := Int.emod_lt_of_pos b (show (0 : Int) < (Nn id : Int) by omega); omega
  have htm : Int.tmod b (Nn id : Int) = (r : Int) := by rw [Int.tmod_eq_emod_of_nonneg b0]; exact hr
  obtain ⟨n, hn1, hn2, hn3⟩ := hord.at hrN
  have hoi : ordI id r = (n : Int) := by unfold ordI; rw [List.getD_eq_getElem?_getD, hn1]; rfl
  have hri : rkI id n = (r : Int) := by unfold rkI; exact congrArg _ hn3
  have HA := Lib.hid (fun w (h : Sh w) => alive_ok w h)
  have HGet : Hid (∀ w, Sh w → Calls Tryd.prog 15 #[.int .i64 id] w fun e w' => ∃ E R, e = .returned (.tuple #[.agg #[.int .i64 id, .int .i64 (pl id), .slice (some ⟨E, 0, none⟩) (Nn id) (Nn id), .slice (some ⟨R, 0, none⟩) (Nn id) (Nn id)], .int .i64 0]) ∧ w'.rowIs E 3 (Nn id) (fun j => .int .i64 (ordI id j)) ∧ w'.rowIs R 3 (Nn id) (fun j => .int .i64 (rkI id j)) ∧ Below w.heap.size w w') := Lib.hid fun w h => (get_ok id w h1 h2 h).mono fun e w' ⟨v, h1, ⟨E, R, h2, h3, h4, h5, h6⟩, h7⟩ => ⟨E, R, by rw [h1, h2], h5, h6, h7⟩
  have HVal : Hid (∀ (n : Nat) w, n < Nn id → Sh w → Calls Tryd.prog 20 #[.int .i64 id, .int .i64 n] w fun e w' => ∃ O, e = .returned (.tuple #[.slice (some ⟨O, 0, none⟩) (dm id) (dm id), .int .i64 0]) ∧ Rd w' (.slice (some ⟨O, 0, none⟩) (dm id) (dm id)) (vals (bs id) (lw id) (dm id) n) ∧ Below w.heap.size w w') := Lib.hid fun n w hn h => (values_ok id n w h1 h2 h hn).mono fun e w' ⟨O, h1, _, h3, h4⟩ => ⟨O, h1, rd_row h3 (vals_len _ _ _ _) (by unfold maxLen; omega) (fun j _ => rfl), h4⟩
  have HSz : Hid (∀ (n : Nat) w v, Rd w v (vals (bs id) (lw id) (dm id) n) → Calls Tryd.prog 29 #[v] w fun e w' => e = .returned (.int .i64 (wt id n : Nat)) ∧ Below w.heap.size w w') := Lib.hid fun n w v h => by
    have := lsize_ok v (vals (bs id) (lw id) (dm id) n) w (by rw [vals_len]; omega) (fun z hz => by have := vals_bd (bs id) (lw id) f2 (dm id) n z hz; omega) h
    rwa [sz_vals] at this
  have HS := Lib.hid hs
  by_cases hr0 : r = 0
  · subst hr0
    clear hs hn1 hn3 f1 f2 f3 f4 f5 f6 f9 f10 f11 f12 f13 f14
    go_enter Tryd.func9, Tryd.ntmps9
    go_wp2_with first
      | (go_at_call 18; ((with_reducible refine (HA.out _ HS.out).mono ?_); rintro e w1 ⟨rfl, hb1⟩))
      | (go_at_call 15; ((with_reducible refine (HGet.out _ (HS.out.below hb1)).mono ?_); rintro e w2 ⟨E, R, rfl, hE, hR, hb2⟩; obtain ⟨p0, p1, p2, p3, p4⟩ := kb_new w2 (id : Int) (pl id) E R (Nn id); have ce := (r_al (o := .cells #[.int .i64 (id : Int), .int .i64 (pl id), .slice (some ⟨E, 0, none⟩) (Nn id) (Nn id), .slice (some ⟨R, 0, none⟩) (Nn id) (Nn id)] 24) hE).cell (i := 0) (by omega); have cr := (r_al (o := .cells #[.int .i64 (id : Int), .int .i64 (pl id), .slice (some ⟨E, 0, none⟩) (Nn id) (Nn id), .slice (some ⟨R, 0, none⟩) (Nn id) (Nn id)] 24) hR).cell (i := n) hn2; rw [hoi] at ce; rw [hri] at cr))
    go_ret
    exact ⟨rfl, trivial, bT (bT hb1 hb2) (al _ _)⟩
  · obtain ⟨q, rfl⟩ : ∃ q, r = q + 1 := ⟨r - 1, by omega⟩
    obtain ⟨m, hm1, hm2, hm3⟩ := hord.at (r := q) (by omega)
    have hom : ordI id q = (m : Int) := by unfold ordI; rw [List.getD_eq_getElem?_getD, hm1]; rfl
    have hlt := hord.lt_of (Nat.lt_succ_self q) hm1 hn1
    have hwm := wt_lt h1 h2 m
    have hwn := wt_lt h1 h2 n
    unfold lt at hlt
    have HL : Hid ((((wt id m : Nat) : Int) < ((wt id n : Nat) : Int)) ∨ (¬ ((wt id m : Nat) : Int) < ((wt id n : Nat) : Int) ∧ ((wt id m : Nat) : Int) = ((wt id n : Nat) : Int) ∧ (m : Int) < (n : Int))) := Lib.hid (by omega)
    obtain ⟨x, hx⟩ : ∃ x : Int, ((wt id m : Nat) : Int) = x := ⟨_, rfl⟩
    obtain ⟨y, hy⟩ : ∃ y : Int, ((wt id n : Nat) : Int) = y := ⟨_, rfl⟩
    have HSx : Hid (∀ w v, Rd w v (vals (bs id) (lw id) (dm id) m) → Calls Tryd.prog 29 #[v] w fun e w' => e = .returned (.int .i64 x) ∧ Below w.heap.size w w') := Lib.hid fun w v h => hx ▸ HSz.out m w v h
    have HSy : Hid (∀ w v, Rd w v (vals (bs id) (lw id) (dm id) n) → Calls Tryd.prog 29 #[v] w fun e w' => e = .returned (.int .i64 y) ∧ Below w.heap.size w w') := Lib.hid fun w v h => hy ▸ HSz.out n w v h
    rw [hx, hy] at HL
    have hq0 : ¬ ((q + 1 : Nat) : Int) = 0 := by omega
    have hqw : IntKind.i64.wrap (((q + 1 : Nat) : Int) - 1) = (q : Int) := by rw [IntKind.wrap_i64]; omega
    have HVm : Hid (∀ w, Sh w → Calls Tryd.prog 20 #[.int .i64 id, .int .i64 m] w fun e w' => ∃ O, e = .returned (.tuple #[.slice (some ⟨O, 0, none⟩) (dm id) (dm id), .int .i64 0]) ∧ Rd w' (.slice (some ⟨O, 0, none⟩) (dm id) (dm id)) (vals (bs id) (lw id) (dm id) m) ∧ Below w.heap.size w w') := Lib.hid fun w h => HVal.out m w hm2 h
    have HVn : Hid (∀ w, Sh w → Calls Tryd.prog 20 #[.int .i64 id, .int .i64 n] w fun e w' => ∃ O, e = .returned (.tuple #[.slice (some ⟨O, 0, none⟩) (dm id) (dm id), .int .i64 0]) ∧ Rd w' (.slice (some ⟨O, 0, none⟩) (dm id) (dm id)) (vals (bs id) (lw id) (dm id) n) ∧ Below w.heap.size w w') := Lib.hid fun w h => HVal.out n w hn2 h
    clear hs hn1 hn3 hm1 hm3 f1 f2 f3 f4 f5 f6 f9 f10 f11 f12 f13 f14 hlt hwm hwn hx hy HVal HSz
    go_enter Tryd.func9, Tryd.ntmps9
    go_upto_region 11 with first
      | (go_at_call 18; ((with_reducible refine (HA.out _ HS.out).mono ?_); rintro e w1 ⟨rfl, hb1⟩))
      | (go_at_call 15; ((with_reducible refine (HGet.out _ (HS.out.below hb1)).mono ?_); rintro e w2 ⟨E, R, rfl, hE, hR, hb2⟩; obtain ⟨p0, p1, p2, p3, p4⟩ := kb_new w2 (id : Int) (pl id) E R (Nn id); have ce := (r_al (o := .cells #[.int .i64 (id : Int), .int .i64 (pl id), .slice (some ⟨E, 0, none⟩) (Nn id) (Nn id), .slice (some ⟨R, 0, none⟩) (Nn id) (Nn id)] 24) hE).cell (i := q + 1) (by omega); have cr := (r_al (o := .cells #[.int .i64 (id : Int), .int .i64 (pl id), .slice (some ⟨E, 0, none⟩) (Nn id) (Nn id), .slice (some ⟨R, 0, none⟩) (Nn id) (Nn id)] 24) hR).cell (i := n) hn2; have cq := (r_al (o := .cells #[.int .i64 (id : Int), .int .i64 (pl id), .slice (some ⟨E, 0, none⟩) (Nn id) (Nn id), .slice (some ⟨R, 0, none⟩) (Nn id) (Nn id)] 24) hE).cell (i := q) (by omega); rw [hoi] at ce; rw [hri] at cr; rw [hom] at cq))
    have hb3 := Lib.hid (bT (bT hb1 hb2) (al w2 (.cells #[.int .i64 (id : Int), .int .i64 (pl id), .slice (some ⟨E, 0, none⟩) (Nn id) (Nn id), .slice (some ⟨R, 0, none⟩) (Nn id) (Nn id)] 24)))
    generalize w2.alloc (.cells #[.int .i64 (id : Int), .int .i64 (pl id), .slice (some ⟨E, 0, none⟩) (Nn id) (Nn id), .slice (some ⟨R, 0, none⟩) (Nn id) (Nn id)] 24) = W3 at *
    have hElt : E < w2.heap.size := hE.lt
    generalize w2.heap.size = B at *
    have HF : Hid (∀ w', Below W3.heap.size W3 w' → w'.cell? ⟨B, 0, none⟩ = some (.int .i64 id) ∧ w'.cell? ⟨B, 2, none⟩ = some (.slice (some ⟨E, 0, none⟩) (Nn id) (Nn id)) ∧ w'.cell? ⟨E, q, none⟩ = some (.int .i64 m)) := Lib.hid fun w' h => ⟨(h.cell (p := ⟨B, 0, none⟩) p4).trans p0, (h.cell (p := ⟨B, 2, none⟩) p4).trans p2, (h.cell (p := ⟨E, q, none⟩) (Nat.lt_trans hElt p4)).trans cq⟩
    have bd := Lib.hid ((Below.refl W3.heap.size W3).drew)
    have hbd := Lib.hid (hb3.out.trans ((Below.refl W3.heap.size W3).drew.mono hb3.out.size))
    have hqlt : q < Nn id := by omega
    have hqlti : (q : Int) < ((Nn id : Nat) : Int) := by omega
    have hqn : ¬ Nn id ≤ q := by omega
    have hqw4 : IntKind.i64.wrap (q : Int) = (q : Int) := by rw [IntKind.wrap_i64]; omega
    have hqw5 : IntKind.i64.wrap ((q : Int) + 1) = (q : Int) + 1 := by rw [IntKind.wrap_i64]; omega
    have hqw2 : ((q : Int) + 1 - 1) = (q : Int) := by omega
    have hqw3 : IntKind.i64.wrap ((q : Int) + 1 - 1) = (q : Int) := by rw [IntKind.wrap_i64]; omega
    clear p1 p3 ce cr hE hR hb2 hb1
    go_region_held3 (fun w' => w'.cell? ⟨B, 0, none⟩ = some (.int .i64 id) ∧ w'.cell? ⟨B, 2, none⟩ = some (.slice (some ⟨E, 0, none⟩) (Nn id) (Nn id)) ∧ w'.cell? ⟨E, q, none⟩ = some (.int .i64 m))
      (first
        | with_reducible exact HF.out _ bd.out
        | with_reducible exact HF.out _ b4.out
        | (trace_state; fail))
      (first
        | (go_at_call 20; ((with_reducible refine (HVm.out _ (HS.out.below hbd.out)).mono ?_); rintro e w4 ⟨O, rfl, hO, hb4⟩; have b4 : Hid (Below W3.heap.size W3 w4) := Lib.hid (bd.out.trans hb4); have h4 := Lib.hid (hbd.out.trans (hb4.mono hbd.out.size)))))
    obtain ⟨r0, r2, r3⟩ := HF.out w4 b4.out
    clear p0 p2 p4 cq
    go_upto_region 13 with first
      | (go_at_call 20; ((with_reducible refine (HVn.out _ (HS.out.below h4.out)).mono ?_); rintro e w5 ⟨O5, rfl, hO5, hb5⟩; obtain ⟨t0, t2, t3⟩ := HF.out w5 (b4.out.trans (hb5.mono b4.out.size))))
    have hOx := Lib.hid (hO.below hb5)
    have h5 := Lib.hid (bT h4.out hb5)
    have b5 := Lib.hid (b4.out.trans (hb5.mono b4.out.size))
    have HOy := Lib.hid hO5
    rcases HL.out with hxy | ⟨hxy, he, hmn⟩
    · clear HL hO hO5 hb5
      go_wp2_with first
        | (go_at_call 29; ((with_reducible refine (HSx.out _ _ hOx.out).mono ?_); rintro e w6 ⟨rfl, hb6⟩))
        | (go_at_call 29; ((with_reducible refine (HSy.out _ _ (HOy.out.below hb6)).mono ?_); rintro e w7 ⟨rfl, hb7⟩))
      go_ret
      exact ⟨rfl, trivial, bT (bT h5.out hb6) hb7⟩
    · clear HL hO hO5 hb5
      subst he
      go_wp2_with first
        | (go_at_call 29; ((with_reducible refine (HSx.out _ _ hOx.out).mono ?_); rintro e w6 ⟨rfl, hb6⟩))
        | (go_at_call 29; ((with_reducible refine (HSy.out _ _ (HOy.out.below hb6)).mono ?_); rintro e w7 ⟨rfl, hb7⟩; have b7 := bT hb6 hb7))
        | (go_at_call 29; ((with_reducible refine (HSx.out _ _ (hOx.out.below b7)).mono ?_); rintro e w8 ⟨rfl, hb8⟩; have b8 := bT b7 hb8))
        | (go_at_call 29; ((with_reducible refine (HSy.out _ _ (HOy.out.below b8)).mono ?_); rintro e w9 ⟨rfl, hb9⟩; have b9 := bT b8 hb9; obtain ⟨u0, u2, u3⟩ := HF.out w9 (b5.out.trans (b9.mono b5.out.size))))
      go_ret
      exact ⟨rfl, trivial, bT h5.out b9⟩
end Go.Proofs.YteklahfgplbmcaaDoor.BkRk
