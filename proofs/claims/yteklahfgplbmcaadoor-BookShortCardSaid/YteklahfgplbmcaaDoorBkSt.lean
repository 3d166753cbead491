/- Short codes. -/
import Derived.Test.YteklahfgplbmcaaDoorBkAl
import Derived.WalkKit
import Derived.Below
import Derived.RegionTactic
import Derived.Deep.QuietTactic
import Derived.BigQuiet
import Derived.ChangeAlike
import Derived.Deep.OwnRows
import Derived.Deep.Cut
import Derived.ProofKit
import Derived.OpenShut
import Derived.Laws.EntriesVeiled
import Derived.Lib.Hide
namespace Go.Proofs.YteklahfgplbmcaaDoor.BkSt
open Go Go.ChangeShapes Go.WideShapes Go.ChangeAt Go.RowKit Go.Proofs.YteklahfgplbmcaaDoor.Bk Go.Proofs.YteklahfgplbmcaaDoor.Bi Go.Proofs.YteklahfgplbmcaaDoor.Cr Go.Proofs.YteklahfgplbmcaaDoor.Fx

theorem wf8 {s : Int} (h : (Lit.int .u8 s).wf = true) : 0 ≤ s ∧ s ≤ 255 := by
  simp [Lit.wf] at h
  have e : IntKind.u8.min = 0 := rfl
  have e2 : IntKind.u8.max = 255 := rfl
  omega
theorem wf16 {s : Int} (h : (Lit.int .u16 s).wf = true) : 0 ≤ s ∧ s ≤ 65535 := by
  simp [Lit.wf] at h
  have e : IntKind.u16.min = 0 := rfl
  have e2 : IntKind.u16.max = 65535 := rfl
  omega

theorem cd_mono {p a b : Nat} (h : a ≤ b) : (cd p a).length ≤ (cd p b).length := by
  rw [cd_len, cd_len]
  have := dg_mono (a := a / 2 ^ p + 1) (b := b / 2 ^ p + 1) (Nat.le_add_left 1 _) (Nat.add_le_add_right (Nat.div_le_div_right h) 1)
  omega
theorem cd_short {id : Nat} (h1 : 1 ≤ id) (h2 : id ≤ 12) (n : Nat) (hn : n < Nn id) : (cd (pl id) (rk id n)).length ≤ 30 := by
  obtain ⟨f1, f2, f3, f4, f5, f6, f7, f8, f9, f10, f11, f12, f13, f14⟩ := facts h1 h2
  have hr := ((ord_is h1 h2).rank hn).1
  have hr' : rk id n < 289 := Nat.lt_of_lt_of_le hr f8
  have hd := dg_le (n := rk id n / 2 ^ pl id + 1) (d := 9) (Nat.le_add_left 1 _) (by have := Nat.div_le_self (rk id n) (2 ^ pl id); omega)
  rw [cd_len]; omega
set_option maxRecDepth 100000 in
set_option maxHeartbeats 8000000 in
theorem main (a b c : Int) (w : World) (hs : Sh w) (ha : (Lit.int .u8 a).wf = true) (hb : (Lit.int .u16 b).wf = true) (hc : (Lit.int .u16 c).wf = true) :
    Calls Tryd.prog 8 #[.int .u8 a, .int .u16 b, .int .u16 c] w fun e w' => e = .returned (.bool true) ∧ True ∧ Below w.heap.size w w' := by
  obtain ⟨a0, a1⟩ := wf8 ha
  obtain ⟨b0, b1⟩ := wf16 hb
  obtain ⟨c0, c1⟩ := wf16 hc
  clear ha hb hc
  obtain ⟨id, hid⟩ : ∃ id : Nat, a % 12 + 1 = (id : Int) := ⟨(a % 12 + 1).toNat, by omega⟩
  have hidb : 1 ≤ id ∧ id ≤ 12 := by omega
  obtain ⟨h1, h2⟩ := hidb
  obtain ⟨f1, f2, f3, f4, f5, f6, f7, f8, f9, f10, f11, f12, f13, f14⟩ := facts h1 h2
  obtain ⟨m, hm⟩ : ∃ r : Nat, b % (Nn id : Int) = (r : Int) := ⟨(b % (Nn id : Int)).toNat, by have := Int.emod_nonneg b (show (Nn id : Int) ≠ 0 by omega); omega⟩
  have hmN : m < Nn id := by have := Int.emod_lt_of_pos b (show (0 : Int) < (Nn id : Int) by omega); omega
  obtain ⟨n, hn⟩ : ∃ r : Nat, c % (Nn id : Int) = (r : Int) := ⟨(c % (Nn id : Int)).toNat, by have := Int.emod_nonneg c (show (Nn id : Int) ≠ 0 by omega); omega⟩
  have hnN : n < Nn id := by have := Int.emod_lt_of_pos c (show (0 : Int) < (Nn id : Int) by omega); omega
  have htb : Int.tmod b (Nn id : Int) = (m : Int) := by rw [Int.tmod_eq_emod_of_nonneg b0]; exact hm
  have htc : Int.tmod c (Nn id : Int) = (n : Int) := by rw [Int.tmod_eq_emod_of_nonneg c0]; exact hn
  have HA := Lib.hid (fun w (h : Sh w) => alive_ok w h)
  have HGet : Hid (∀ w, Sh w → Calls Tryd.prog 15 #[.int .i64 id] w fun e w' => ∃ E R, e = .returned (.tuple #[.agg #[.int .i64 id, .int .i64 (pl id), .slice (some ⟨E, 0, none⟩) (Nn id) (Nn id), .slice (some ⟨R, 0, none⟩) (Nn id) (Nn id)], .int .i64 0]) ∧ w'.rowIs E 3 (Nn id) (fun j => .int .i64 (ordI id j)) ∧ w'.rowIs R 3 (Nn id) (fun j => .int .i64 (rkI id j)) ∧ Below w.heap.size w w') := Lib.hid fun w h => (get_ok id w h1 h2 h).mono fun e w' ⟨v, h1, ⟨E, R, h2, h3, h4, h5, h6⟩, h7⟩ => ⟨E, R, by rw [h1, h2], h5, h6, h7⟩
  have HVal : ∀ (n : Nat), n < Nn id → ∀ w, Sh w → Calls Tryd.prog 20 #[.int .i64 id, .int .i64 n] w fun e w' => ∃ O, e = .returned (.tuple #[.slice (some ⟨O, 0, none⟩) (dm id) (dm id), .int .i64 0]) ∧ Rd w' (.slice (some ⟨O, 0, none⟩) (dm id) (dm id)) (vals (bs id) (lw id) (dm id) n) ∧ Below w.heap.size w w' := fun n hn w h => (values_ok id n w h1 h2 h hn).mono fun e w' ⟨O, h1, _, h3, h4⟩ => ⟨O, h1, rd_row h3 (vals_len _ _ _ _) (by unfold maxLen; omega) (fun j _ => rfl), h4⟩
  have HVm := Lib.hid (HVal m hmN)
  have HVn := Lib.hid (HVal n hnN)
  have HSz : ∀ (n : Nat) w v, Rd w v (vals (bs id) (lw id) (dm id) n) → Calls Tryd.prog 29 #[v] w fun e w' => e = .returned (.int .i64 (wt id n : Nat)) ∧ Below w.heap.size w w' := fun n w v h => by
    have := lsize_ok v (vals (bs id) (lw id) (dm id) n) w (by rw [vals_len]; omega) (fun z hz => by have := vals_bd (bs id) (lw id) f2 (dm id) n z hz; omega) h
    rwa [sz_vals] at this
  have HC : ∀ n, n < Nn id → ∀ w E R, Sh w → w.rowIs E 3 (Nn id) (fun j => .int .i64 (ordI id j)) → w.rowIs R 3 (Nn id) (fun j => .int .i64 (rkI id j)) → Calls Tryd.prog 16 #[.agg #[.int .i64 id, .int .i64 (pl id), .slice (some ⟨E, 0, none⟩) (Nn id) (Nn id), .slice (some ⟨R, 0, none⟩) (Nn id) (Nn id)], .int .i64 n] w fun e w' => ∃ g cap, e = .returned (.tuple #[.slice (some ⟨g, 0, none⟩) (cd (pl id) (rk id n)).length cap, .int .i64 0]) ∧ Below w.heap.size w w' := fun n hn w E R h he hr => (code_ok id E R n w h1 h2 h hn he hr).mono fun e w' ⟨v, h1, ⟨g, cap, h2, _⟩, h3⟩ => ⟨g, cap, by rw [h1, h2], h3⟩
  have HCm := Lib.hid (HC m hmN)
  have HCn := Lib.hid (HC n hnN)
  have hlm := cd_short h1 h2 m hmN
  have hln := cd_short h1 h2 n hnN
  have HL : ¬ wt id n ≤ wt id m → (cd (pl id) (rk id m)).length ≤ (cd (pl id) (rk id n)).length := fun h => cd_mono (Nat.le_of_lt (rk_mono h1 h2 hmN hnN (.inl (by omega))))
  have hwm := wt_lt h1 h2 m
  have hwn := wt_lt h1 h2 n
  obtain ⟨x, hx⟩ : ∃ x : Nat, wt id m = x := ⟨_, rfl⟩
  obtain ⟨y, hy⟩ : ∃ y : Nat, wt id n = y := ⟨_, rfl⟩
  have HSx : Hid (∀ w v, Rd w v (vals (bs id) (lw id) (dm id) m) → Calls Tryd.prog 29 #[v] w fun e w' => e = .returned (.int .i64 (x : Int)) ∧ Below w.heap.size w w') := Lib.hid fun w v h => hx ▸ HSz m w v h
  have HSy : Hid (∀ w v, Rd w v (vals (bs id) (lw id) (dm id) n) → Calls Tryd.prog 29 #[v] w fun e w' => e = .returned (.int .i64 (y : Int)) ∧ Below w.heap.size w w') := Lib.hid fun w v h => hy ▸ HSz n w v h
  rw [hx, hy] at HL
  have HS := Lib.hid hs
  clear hs hx hy hwm hwn HSz HVal HC f1 f2 f3 f4 f5 f6 f9 f10 f11 f12 f13 f14
  generalize (cd (pl id) (rk id m)).length = lm at *
  generalize (cd (pl id) (rk id n)).length = ln at *
  by_cases hyx : y ≤ x
  all_goals
    (try have hlmn := HL hyx)
    clear HL
    go_enter Tryd.func8, Tryd.ntmps8
    go_upto_region 13 with first
      | (go_at_call 18; ((with_reducible refine (HA.out _ HS.out).mono ?_); rintro e w1 ⟨rfl, hb1⟩))
      | (go_at_call 15; ((with_reducible refine (HGet.out _ (HS.out.below hb1)).mono ?_); rintro e w2 ⟨E, R, rfl, hE, hR, hb2⟩; obtain ⟨p0, p1, p2, p3, p4⟩ := kb_new w2 (id : Int) (pl id) E R (Nn id); have h3 := Lib.hid (bT (bT hb1 hb2) (al w2 (.cells #[.int .i64 (id : Int), .int .i64 (pl id), .slice (some ⟨E, 0, none⟩) (Nn id) (Nn id), .slice (some ⟨R, 0, none⟩) (Nn id) (Nn id)] 24))); have k3 := Lib.hid (kb_new w2 (id : Int) (pl id) E R (Nn id)); have hE3 := Lib.hid (r_al (o := (.cells #[.int .i64 (id : Int), .int .i64 (pl id), .slice (some ⟨E, 0, none⟩) (Nn id) (Nn id), .slice (some ⟨R, 0, none⟩) (Nn id) (Nn id)] 24)) hE); have hR3 := Lib.hid (r_al (o := (.cells #[.int .i64 (id : Int), .int .i64 (pl id), .slice (some ⟨E, 0, none⟩) (Nn id) (Nn id), .slice (some ⟨R, 0, none⟩) (Nn id) (Nn id)] 24)) hR)))
      | (go_at_call 20; ((with_reducible refine (HVm.out _ (HS.out.below h3.out)).mono ?_); rintro e w4 ⟨O, rfl, hO, hb4⟩; obtain ⟨r0, r1, r2, r3, r4⟩ := k3.out.below hb4; have h4 := Lib.hid (bT h3.out hb4)))
      | (go_at_call 20; ((with_reducible refine (HVn.out _ (HS.out.below h4.out)).mono ?_); rintro e w5 ⟨O5, rfl, hO5, hb5⟩; have b5 := Lib.hid (bT hb4 hb5); obtain ⟨t0, t1, t2, t3, t4⟩ := k3.out.below b5.out; have h5 := Lib.hid (bT h4.out hb5); have hx5 := Lib.hid (hO.below hb5)))
      | (go_at_call 16; ((with_reducible refine (HCm.out _ _ _ (HS.out.below h5.out) (r_bel hE3.out ⟨b5.out⟩) (r_bel hR3.out ⟨b5.out⟩)).mono ?_); rintro e w6 ⟨g6, cap6, rfl, hb6⟩; have b6 := Lib.hid (bT b5.out hb6); have h6 := Lib.hid (bT h5.out hb6); obtain ⟨u0, u1, u2, u3, u4⟩ := k3.out.below b6.out))
      | (go_at_call 16; ((with_reducible refine (HCn.out _ _ _ (HS.out.below h6.out) (r_bel hE3.out ⟨b6.out⟩) (r_bel hR3.out ⟨b6.out⟩)).mono ?_); rintro e w7 ⟨g7, cap7, rfl, hb7⟩; have h7 := Lib.hid (bT h6.out hb7); have hx7 := Lib.hid ((hx5.out.below hb6).below hb7); have hy7 := Lib.hid ((hO5.below hb6).below hb7)))
    go_wp2_with first
      | (go_at_call 29; ((with_reducible refine (HSx.out _ _ hx7.out).mono ?_); rintro e w8 ⟨rfl, hb8⟩; have h8 := Lib.hid (bT h7.out hb8)))
      | (go_at_call 29; ((with_reducible refine (HSy.out _ _ (hy7.out.below hb8)).mono ?_); rintro e w9 ⟨rfl, hb9⟩))
    go_ret
    exact ⟨rfl, trivial, bT h8.out hb9⟩
end Go.Proofs.YteklahfgplbmcaaDoor.BkSt
