/- Codes, as the program makes them. -/
import Derived.Test.YteklahfgplbmcaaDoorBkGen
import Derived.Test.YteklahfgplbmcaaDoorMrg3
import Derived.WalkKit
import Derived.Below
import Derived.RegionTactic
import Derived.Deep.QuietTactic
import Derived.BigQuiet
import Derived.ChangeAlike
import Derived.Deep.OwnRows
import Derived.Deep.RegionHeld3
import Derived.ProofKit
import Derived.OpenShut
import Derived.Laws.EntriesVeiled
import Derived.Lib.Hide
namespace Go.Proofs.YteklahfgplbmcaaDoor.Bk
open Go Go.ChangeShapes Go.WideShapes Go.ChangeAt Go.RowKit Go.Proofs.YteklahfgplbmcaaDoor.Bi Go.Proofs.YteklahfgplbmcaaDoor.Cr

theorem len_ok (n : Nat) (h1 : 1 ≤ n) (h2 : n < 1024) (w : World) : Calls Tryd.prog 50 #[.int .u64 (n : Int)] w fun e w' => e = .returned (.int .i64 (dg n : Nat)) ∧ w = w' := by
  have h := Any.bits_Len (SlLaysF0.n15.bits (P := Tryd.prog) (ρ := Tryd.sortL_ren) { Tryd.sortL with }) (n : Int) w (by omega) (by omega)
  change Calls Tryd.prog 50 _ _ _ at h
  rw [Int.toNat_natCast, bitLen_dg h1 (by omega)] at h
  exact h.mono fun _ _ h => ⟨h.1, h.2.symm⟩
theorem and_0 (r : Nat) (h : r < 289) : bits .and .i64 (r : Int) 0 = 0 := by
  have : ∀ r : Fin 289, bits .and .i64 ((r.val : Nat) : Int) 0 = 0 := by decide +kernel
  exact this ⟨r, h⟩
theorem and_1 (r : Nat) (h : r < 289) : bits .and .i64 (r : Int) 1 = ((r % 2 : Nat) : Int) := by
  have : ∀ r : Fin 289, bits .and .i64 ((r.val : Nat) : Int) 1 = ((r.val % 2 : Nat) : Int) := by decide +kernel
  exact this ⟨r, h⟩
theorem and_3 (r : Nat) (h : r < 289) : bits .and .i64 (r : Int) 3 = ((r % 4 : Nat) : Int) := by
  have : ∀ r : Fin 289, bits .and .i64 ((r.val : Nat) : Int) 3 = ((r.val % 4 : Nat) : Int) := by decide +kernel
  exact this ⟨r, h⟩
theorem own8_rebase {base b2 : Nat} {w : World} {v : Value} {zs : List Int} (h : Cr.Own b2 w v zs) (hb : base ≤ b2) : Cr.Own base w v zs := by
  obtain ⟨hx, h | ⟨g, cap, cur, rfl, hg, h2⟩⟩ := h
  · exact ⟨hx, .inl h⟩
  · exact ⟨hx, .inr ⟨g, cap, cur, rfl, Nat.le_trans hb hg, h2⟩⟩
/-- What a code is as an answer. -/
def IsCode (base : Nat) (w : World) (v : Value) (zs : List Int) : Prop := ∃ g cap, v = .slice (some ⟨g, 0, none⟩) zs.length cap ∧ Cr.Own base w v zs
theorem id_ {α : Prop} (h : α) : α := h

set_option maxRecDepth 100000 in
set_option maxHeartbeats 8000000 in
theorem code_0 (id E R n : Nat) (w : World) (h1 : 1 ≤ id) (h2 : id ≤ 12) (hpl : pl id = 0) (hs : Sh w) (hn : n < Nn id) (he : w.rowIs E 3 (Nn id) (fun j => .int .i64 (ordI id j))) (hr : w.rowIs R 3 (Nn id) (fun j => .int .i64 (rkI id j))) :
    Calls Tryd.prog 16 #[.agg #[.int .i64 (id : Int), .int .i64 (pl id : Int), .slice (some ⟨E, 0, none⟩) (Nn id) (Nn id), .slice (some ⟨R, 0, none⟩) (Nn id) (Nn id)], .int .i64 n] w fun e w' => ∃ v, e = .returned (.tuple #[v, .int .i64 0]) ∧ IsCode w.heap.size w' v (cd (pl id) (rk id n)) ∧ Below w.heap.size w w' := by
  have hN := (facts h1 h2).2.2.2.2.2.2.2.1
  have hrk := ((ord_is h1 h2).rank hn).1
  obtain ⟨r, hrr⟩ : ∃ r, rk id n = r := ⟨_, rfl⟩
  have hr1 : r < 289 := by rw [← hrr]; exact Nat.lt_of_lt_of_le hrk hN
  obtain ⟨q, hq⟩ : ∃ q, r / 2 ^ 0 + 1 = q := ⟨_, rfl⟩
  have hq1 : 1 ≤ q := by omega
  have hq2 : q < 512 := by omega
  obtain ⟨m, hm⟩ : ∃ m, r % 2 ^ 0 = m := ⟨_, rfl⟩
  have hm2 : m < 2 ^ 0 := by rw [← hm]; exact Nat.mod_lt _ (by decide)
  have hcd : cd (pl id) (rk id n) = bi (q : Int) (2 * dg q - 1) ++ bi (m : Int) 0 := by rw [hpl, hrr]; unfold cd; rw [hq, hm]
  rw [hcd]
  obtain ⟨d1, d2, d3⟩ := dg_bd q q Nat.lt_two_pow_self hq1
  have d4 := dg_le (d := 9) hq1 hq2
  obtain ⟨d, hd⟩ : ∃ d, dg q = d := ⟨_, rfl⟩
  rw [hd] at d1 d2 d3 d4 ⊢
  have hIp : ((pl id : Nat) : Int) = 0 := by rw [hpl]; rfl
  have HG := fun w (hs : Sh w) he hr => genuine_yes id E R w h1 h2 hs he hr
  rw [hIp] at HG ⊢
  replace HG := Lib.hid HG
  have HLn := Lib.hid (fun w => hd ▸ len_ok q hq1 (by omega) w)
  have HP1 : Hid (∀ w, Calls Tryd.prog 51 #[.slice none 0 0, .int .i64 (q : Int), .int .i64 (2 * (d : Int) - 1)] w fun e w' => ∃ g cap, e = .returned (.tuple #[.slice (some ⟨g, 0, none⟩) (2 * d - 1) cap, .int .i64 0]) ∧ Cr.Own w.heap.size w' (.slice (some ⟨g, 0, none⟩) (2 * d - 1) cap) (bi (q : Int) (2 * d - 1)) ∧ Below w.heap.size w w') := Lib.hid fun w => by
    have := put_src (q : Int) (2 * d - 1) w (v0 := .slice none 0 0) (zs := []) (.inl ⟨rfl, rfl⟩) (by simp) (by omega) (by omega) (by
      have a : (q : Int) < 2 ^ d := by exact_mod_cast d3
      have b : (2 : Int) ^ d ≤ 2 ^ (2 * d - 1) := by exact_mod_cast Nat.pow_le_pow_right (by decide) (by omega)
      omega)
    rw [show ((2 * d - 1 : Nat) : Int) = 2 * (d : Int) - 1 by omega] at this
    simpa using this
  have HP2 : Hid (∀ w g cap, Cr.Own w.heap.size w (.slice (some ⟨g, 0, none⟩) (2 * d - 1) cap) (bi (q : Int) (2 * d - 1)) ∨ Src8 w (.slice (some ⟨g, 0, none⟩) (2 * d - 1) cap) (bi (q : Int) (2 * d - 1)) → Calls Tryd.prog 51 #[.slice (some ⟨g, 0, none⟩) (2 * d - 1) cap, .int .i64 (m : Int), .int .i64 0] w fun e w' => ∃ g cap, e = .returned (.tuple #[.slice (some ⟨g, 0, none⟩) (2 * d - 1 + 0) cap, .int .i64 0]) ∧ Cr.Own w.heap.size w' (.slice (some ⟨g, 0, none⟩) (2 * d - 1 + 0) cap) (bi (q : Int) (2 * d - 1) ++ bi (m : Int) 0) ∧ Below w.heap.size w w') := Lib.hid fun w g cap h => by
    have := put_src (m : Int) 0 w (v0 := .slice (some ⟨g, 0, none⟩) (2 * d - 1) cap) (zs := bi (q : Int) (2 * d - 1)) (h.elim own_src id_) (by rw [bi_len]; omega) (by omega) (by omega) (by exact_mod_cast hm2)
    rwa [bi_len] at this
  have HS := Lib.hid hs
  have HE := Lib.hid he
  have HR := Lib.hid hr
  obtain ⟨N, hNN⟩ : ∃ N, Nn id = N := ⟨_, rfl⟩
  have HNN := Lib.hid hNN
  have hkb := kb_new w (id : Int) 0 E R (Nn id)
  have HK := Lib.hid hkb
  have hb0 := Lib.hid ((Below.refl w.heap.size w).alloc (Nat.le_refl _) (.cells #[.int .i64 (id : Int), .int .i64 0, .slice (some ⟨E, 0, none⟩) (Nn id) (Nn id), .slice (some ⟨R, 0, none⟩) (Nn id) (Nn id)] 24))
  have hc := hr.cell (i := n) (by omega)
  have hrI : rkI id n = (r : Int) := by unfold rkI; rw [hrr]
  rw [hrI] at hc
  have HA2 : Hid (bits BinOp.and IntKind.i64 (r : Int) (IntKind.i64.wrap (IntKind.i64.wrap 1 - 1)) = (m : Int)) := Lib.hid (by
    rw [show IntKind.i64.wrap (IntKind.i64.wrap 1 - 1) = 0 from by decide, and_0 r hr1]
    first | omega | (rw [← hm]; rfl))
  have hq' : (r : Int) + 1 = (q : Int) := by omega
  have hwr : IntKind.u64.wrap (q : Int) = (q : Int) := by simp [IntKind.wrap, IntKind.bits, IntKind.signed]; omega
  have hRlt := hr.lt
  have hsA := Lib.hid (hs.below ((Below.refl _ w).alloc (Nat.le_refl _) (.cells #[.int .i64 (id : Int), .int .i64 0, .slice (some ⟨E, 0, none⟩) (Nn id) (Nn id), .slice (some ⟨R, 0, none⟩) (Nn id) (Nn id)] 24)))
  have heA := Lib.hid (r_al (o := .cells #[.int .i64 (id : Int), .int .i64 0, .slice (some ⟨E, 0, none⟩) (Nn id) (Nn id), .slice (some ⟨R, 0, none⟩) (Nn id) (Nn id)] 24) he)
  have hrA := Lib.hid (r_al (o := .cells #[.int .i64 (id : Int), .int .i64 0, .slice (some ⟨E, 0, none⟩) (Nn id) (Nn id), .slice (some ⟨R, 0, none⟩) (Nn id) (Nn id)] 24) hr)
  obtain ⟨k0, k1, k2, k3, k4⟩ := hkb
  have hc' : (w.alloc (.cells #[.int .i64 (id : Int), .int .i64 0, .slice (some ⟨E, 0, none⟩) (Nn id) (Nn id), .slice (some ⟨R, 0, none⟩) (Nn id) (Nn id)] 24)).cell? ⟨R, 0 + n, none⟩ = some (.int .i64 (r : Int)) := by
    rw [Nat.zero_add]
    have := hrA.out.cell (i := n) (by omega)
    rwa [hrI] at this
  have HC' := Lib.hid hc'
  have hRlt' := hrA.out.lt
  have HHd := Lib.hid hd
  clear hs he hr hc hc' hrI hrr hq hm hcd hd hpl hIp hm2 hrk hNN h1 h2
  go_enter Tryd.func16, Tryd.ntmps16
  go_upto_region 9 with first
    | (go_at_call 49; ((with_reducible refine (HG.out _ hsA.out heA.out hrA.out).mono ?_); rintro e w1 ⟨rfl, hb1⟩; have hk1 := Lib.hid (HK.out.below hb1); have q0 := hk1.out.1; have q1 := hk1.out.2.1; have q2 := hk1.out.2.2.1; have q3 := hk1.out.2.2.2.1; have hcR := (hb1.cell (p := ⟨R, 0 + n, none⟩) hRlt').trans HC'.out; rw [Nat.zero_add] at hcR))
    | (go_at_call 50; ((with_reducible refine (HLn.out _).mono ?_); rintro e w2 ⟨rfl, rfl⟩))
    | (go_at_call 51; ((with_reducible refine (HP1.out _).mono ?_); rintro e w3 ⟨g, cap, rfl, ho3, hb3⟩; have hk3 := Lib.hid (hk1.out.below hb3); have u0 := hk3.out.1; have u1 := hk3.out.2.1; have u2 := hk3.out.2.2.1; have u3 := hk3.out.2.2.2.1))
  have hsr := Lib.hid (own_src ho3)
  have hb13 := Lib.hid (hb0.out.trans ((hb1.mono hb0.out.size).trans (hb3.mono (Nat.le_trans hb0.out.size hb1.size))))
  have hk3d : Hid (Kb w3.drew w.heap.size (id : Int) 0 E R (Nn id)) := Lib.hid (hk3.out.below (Below.refl _ w3).drew)
  have hsrd := Lib.hid (Src8.below hsr.out (Below.refl _ w3).drew)
  clear ho3 hb1 hb3
  go_region_held3 (fun w' => w'.cell? ⟨w.heap.size, 1, none⟩ = some (.int .i64 0))
    (first
      | with_reducible exact hk3d.out.2.1
      | with_reducible exact hk5.out
      | (trace_state; fail))
    (first
      | (go_at_call 51; rw [HA2.out]; ((with_reducible refine (HP2.out _ _ _ (.inr hsrd.out)).mono ?_); rintro e w5 ⟨g5, cap5, rfl, ho5, hb5⟩; have hk5 : Hid (w5.cell? ⟨w.heap.size, 1, none⟩ = some (.int .i64 0)) := Lib.hid (hk3d.out.below hb5).2.1)))
  go_wp2
  go_ret2
  have hb05 : Below w.heap.size w w5 := hb13.out.trans (((Below.refl w3.heap.size w3).drew.trans hb5).mono hb13.out.size)
  refine ⟨.slice (some ⟨g5, 0, none⟩) (2 * d - 1 + 0) cap5, rfl, ⟨g5, cap5, by rw [List.length_append, bi_len, bi_len], own8_rebase ho5 hb13.out.size⟩, hb05⟩

set_option maxRecDepth 100000 in
set_option maxHeartbeats 8000000 in
theorem code_1 (id E R n : Nat) (w : World) (h1 : 1 ≤ id) (h2 : id ≤ 12) (hpl : pl id = 1) (hs : Sh w) (hn : n < Nn id) (he : w.rowIs E 3 (Nn id) (fun j => .int .i64 (ordI id j))) (hr : w.rowIs R 3 (Nn id) (fun j => .int .i64 (rkI id j))) :
    Calls Tryd.prog 16 #[.agg #[.int .i64 (id : Int), .int .i64 (pl id : Int), .slice (some ⟨E, 0, none⟩) (Nn id) (Nn id), .slice (some ⟨R, 0, none⟩) (Nn id) (Nn id)], .int .i64 n] w fun e w' => ∃ v, e = .returned (.tuple #[v, .int .i64 0]) ∧ IsCode w.heap.size w' v (cd (pl id) (rk id n)) ∧ Below w.heap.size w w' := by
  have hN := (facts h1 h2).2.2.2.2.2.2.2.1
  have hrk := ((ord_is h1 h2).rank hn).1
  obtain ⟨r, hrr⟩ : ∃ r, rk id n = r := ⟨_, rfl⟩
  have hr1 : r < 289 := by rw [← hrr]; exact Nat.lt_of_lt_of_le hrk hN
  obtain ⟨q, hq⟩ : ∃ q, r / 2 ^ 1 + 1 = q := ⟨_, rfl⟩
  have hq1 : 1 ≤ q := by omega
  have hq2 : q < 512 := by omega
  obtain ⟨m, hm⟩ : ∃ m, r % 2 ^ 1 = m := ⟨_, rfl⟩
  have hm2 : m < 2 ^ 1 := by rw [← hm]; exact Nat.mod_lt _ (by decide)
  have hcd : cd (pl id) (rk id n) = bi (q : Int) (2 * dg q - 1) ++ bi (m : Int) 1 := by rw [hpl, hrr]; unfold cd; rw [hq, hm]
  rw [hcd]
  obtain ⟨d1, d2, d3⟩ := dg_bd q q Nat.lt_two_pow_self hq1
  have d4 := dg_le (d := 9) hq1 hq2
  obtain ⟨d, hd⟩ : ∃ d, dg q = d := ⟨_, rfl⟩
  rw [hd] at d1 d2 d3 d4 ⊢
  have hIp : ((pl id : Nat) : Int) = 1 := by rw [hpl]; rfl
  have HG := fun w (hs : Sh w) he hr => genuine_yes id E R w h1 h2 hs he hr
  rw [hIp] at HG ⊢
  replace HG := Lib.hid HG
  have HLn := Lib.hid (fun w => hd ▸ len_ok q hq1 (by omega) w)
  have HP1 : Hid (∀ w, Calls Tryd.prog 51 #[.slice none 0 0, .int .i64 (q : Int), .int .i64 (2 * (d : Int) - 1)] w fun e w' => ∃ g cap, e = .returned (.tuple #[.slice (some ⟨g, 0, none⟩) (2 * d - 1) cap, .int .i64 0]) ∧ Cr.Own w.heap.size w' (.slice (some ⟨g, 0, none⟩) (2 * d - 1) cap) (bi (q : Int) (2 * d - 1)) ∧ Below w.heap.size w w') := Lib.hid fun w => by
    have := put_src (q : Int) (2 * d - 1) w (v0 := .slice none 0 0) (zs := []) (.inl ⟨rfl, rfl⟩) (by simp) (by omega) (by omega) (by
      have a : (q : Int) < 2 ^ d := by exact_mod_cast d3
      have b : (2 : Int) ^ d ≤ 2 ^ (2 * d - 1) := by exact_mod_cast Nat.pow_le_pow_right (by decide) (by omega)
      omega)
    rw [show ((2 * d - 1 : Nat) : Int) = 2 * (d : Int) - 1 by omega] at this
    simpa using this
  have HP2 : Hid (∀ w g cap, Cr.Own w.heap.size w (.slice (some ⟨g, 0, none⟩) (2 * d - 1) cap) (bi (q : Int) (2 * d - 1)) ∨ Src8 w (.slice (some ⟨g, 0, none⟩) (2 * d - 1) cap) (bi (q : Int) (2 * d - 1)) → Calls Tryd.prog 51 #[.slice (some ⟨g, 0, none⟩) (2 * d - 1) cap, .int .i64 (m : Int), .int .i64 1] w fun e w' => ∃ g cap, e = .returned (.tuple #[.slice (some ⟨g, 0, none⟩) (2 * d - 1 + 1) cap, .int .i64 0]) ∧ Cr.Own w.heap.size w' (.slice (some ⟨g, 0, none⟩) (2 * d - 1 + 1) cap) (bi (q : Int) (2 * d - 1) ++ bi (m : Int) 1) ∧ Below w.heap.size w w') := Lib.hid fun w g cap h => by
    have := put_src (m : Int) 1 w (v0 := .slice (some ⟨g, 0, none⟩) (2 * d - 1) cap) (zs := bi (q : Int) (2 * d - 1)) (h.elim own_src id_) (by rw [bi_len]; omega) (by omega) (by omega) (by exact_mod_cast hm2)
    rwa [bi_len] at this
  have HS := Lib.hid hs
  have HE := Lib.hid he
  have HR := Lib.hid hr
  obtain ⟨N, hNN⟩ : ∃ N, Nn id = N := ⟨_, rfl⟩
  have HNN := Lib.hid hNN
  have hkb := kb_new w (id : Int) 1 E R (Nn id)
  have HK := Lib.hid hkb
  have hb0 := Lib.hid ((Below.refl w.heap.size w).alloc (Nat.le_refl _) (.cells #[.int .i64 (id : Int), .int .i64 1, .slice (some ⟨E, 0, none⟩) (Nn id) (Nn id), .slice (some ⟨R, 0, none⟩) (Nn id) (Nn id)] 24))
  have hc := hr.cell (i := n) (by omega)
  have hrI : rkI id n = (r : Int) := by unfold rkI; rw [hrr]
  rw [hrI] at hc
  have HA2 : Hid (bits BinOp.and IntKind.i64 (r : Int) (IntKind.i64.wrap (IntKind.i64.wrap 2 - 1)) = (m : Int)) := Lib.hid (by
    rw [show IntKind.i64.wrap (IntKind.i64.wrap 2 - 1) = 1 from by decide, and_1 r hr1]
    first | omega | (rw [← hm]; rfl))
  have hq' : (r : Int) / 2 + 1 = (q : Int) := by omega
  have hwr : IntKind.u64.wrap (q : Int) = (q : Int) := by simp [IntKind.wrap, IntKind.bits, IntKind.signed]; omega
  have hRlt := hr.lt
  have hsA := Lib.hid (hs.below ((Below.refl _ w).alloc (Nat.le_refl _) (.cells #[.int .i64 (id : Int), .int .i64 1, .slice (some ⟨E, 0, none⟩) (Nn id) (Nn id), .slice (some ⟨R, 0, none⟩) (Nn id) (Nn id)] 24)))
  have heA := Lib.hid (r_al (o := .cells #[.int .i64 (id : Int), .int .i64 1, .slice (some ⟨E, 0, none⟩) (Nn id) (Nn id), .slice (some ⟨R, 0, none⟩) (Nn id) (Nn id)] 24) he)
  have hrA := Lib.hid (r_al (o := .cells #[.int .i64 (id : Int), .int .i64 1, .slice (some ⟨E, 0, none⟩) (Nn id) (Nn id), .slice (some ⟨R, 0, none⟩) (Nn id) (Nn id)] 24) hr)
  obtain ⟨k0, k1, k2, k3, k4⟩ := hkb
  have hc' : (w.alloc (.cells #[.int .i64 (id : Int), .int .i64 1, .slice (some ⟨E, 0, none⟩) (Nn id) (Nn id), .slice (some ⟨R, 0, none⟩) (Nn id) (Nn id)] 24)).cell? ⟨R, 0 + n, none⟩ = some (.int .i64 (r : Int)) := by
    rw [Nat.zero_add]
    have := hrA.out.cell (i := n) (by omega)
    rwa [hrI] at this
  have HC' := Lib.hid hc'
  have hRlt' := hrA.out.lt
  have HHd := Lib.hid hd
  clear hs he hr hc hc' hrI hrr hq hm hcd hd hpl hIp hm2 hrk hNN h1 h2
  go_enter Tryd.func16, Tryd.ntmps16
  go_upto_region 9 with first
    | (go_at_call 49; ((with_reducible refine (HG.out _ hsA.out heA.out hrA.out).mono ?_); rintro e w1 ⟨rfl, hb1⟩; have hk1 := Lib.hid (HK.out.below hb1); have q0 := hk1.out.1; have q1 := hk1.out.2.1; have q2 := hk1.out.2.2.1; have q3 := hk1.out.2.2.2.1; have hcR := (hb1.cell (p := ⟨R, 0 + n, none⟩) hRlt').trans HC'.out; rw [Nat.zero_add] at hcR))
    | (go_at_call 50; ((with_reducible refine (HLn.out _).mono ?_); rintro e w2 ⟨rfl, rfl⟩))
    | (go_at_call 51; ((with_reducible refine (HP1.out _).mono ?_); rintro e w3 ⟨g, cap, rfl, ho3, hb3⟩; have hk3 := Lib.hid (hk1.out.below hb3); have u0 := hk3.out.1; have u1 := hk3.out.2.1; have u2 := hk3.out.2.2.1; have u3 := hk3.out.2.2.2.1))
  have hsr := Lib.hid (own_src ho3)
  have hb13 := Lib.hid (hb0.out.trans ((hb1.mono hb0.out.size).trans (hb3.mono (Nat.le_trans hb0.out.size hb1.size))))
  have hk3d : Hid (Kb w3.drew w.heap.size (id : Int) 1 E R (Nn id)) := Lib.hid (hk3.out.below (Below.refl _ w3).drew)
  have hsrd := Lib.hid (Src8.below hsr.out (Below.refl _ w3).drew)
  clear ho3 hb1 hb3
  go_region_held3 (fun w' => w'.cell? ⟨w.heap.size, 1, none⟩ = some (.int .i64 1))
    (first
      | with_reducible exact hk3d.out.2.1
      | with_reducible exact hk5.out
      | (trace_state; fail))
    (first
      | (go_at_call 51; rw [HA2.out]; ((with_reducible refine (HP2.out _ _ _ (.inr hsrd.out)).mono ?_); rintro e w5 ⟨g5, cap5, rfl, ho5, hb5⟩; have hk5 : Hid (w5.cell? ⟨w.heap.size, 1, none⟩ = some (.int .i64 1)) := Lib.hid (hk3d.out.below hb5).2.1)))
  go_wp2
  go_ret2
  have hb05 : Below w.heap.size w w5 := hb13.out.trans (((Below.refl w3.heap.size w3).drew.trans hb5).mono hb13.out.size)
  refine ⟨.slice (some ⟨g5, 0, none⟩) (2 * d - 1 + 1) cap5, rfl, ⟨g5, cap5, by rw [List.length_append, bi_len, bi_len], own8_rebase ho5 hb13.out.size⟩, hb05⟩

set_option maxRecDepth 100000 in
set_option maxHeartbeats 8000000 in
theorem code_2 (id E R n : Nat) (w : World) (h1 : 1 ≤ id) (h2 : id ≤ 12) (hpl : pl id = 2) (hs : Sh w) (hn : n < Nn id) (he : w.rowIs E 3 (Nn id) (fun j => .int .i64 (ordI id j))) (hr : w.rowIs R 3 (Nn id) (fun j => .int .i64 (rkI id j))) :
    Calls Tryd.prog 16 #[.agg #[.int .i64 (id : Int), .int .i64 (pl id : Int), .slice (some ⟨E, 0, none⟩) (Nn id) (Nn id), .slice (some ⟨R, 0, none⟩) (Nn id) (Nn id)], .int .i64 n] w fun e w' => ∃ v, e = .returned (.tuple #[v, .int .i64 0]) ∧ IsCode w.heap.size w' v (cd (pl id) (rk id n)) ∧ Below w.heap.size w w' := by
  have hN := (facts h1 h2).2.2.2.2.2.2.2.1
  have hrk := ((ord_is h1 h2).rank hn).1
  obtain ⟨r, hrr⟩ : ∃ r, rk id n = r := ⟨_, rfl⟩
  have hr1 : r < 289 := by rw [← hrr]; exact Nat.lt_of_lt_of_le hrk hN
  obtain ⟨q, hq⟩ : ∃ q, r / 2 ^ 2 + 1 = q := ⟨_, rfl⟩
  have hq1 : 1 ≤ q := by omega
  have hq2 : q < 512 := by omega
  obtain ⟨m, hm⟩ : ∃ m, r % 2 ^ 2 = m := ⟨_, rfl⟩
  have hm2 : m < 2 ^ 2 := by rw [← hm]; exact Nat.mod_lt _ (by decide)
  have hcd : cd (pl id) (rk id n) = bi (q : Int) (2 * dg q - 1) ++ bi (m : Int) 2 := by rw [hpl, hrr]; unfold cd; rw [hq, hm]
  rw [hcd]
  obtain ⟨d1, d2, d3⟩ := dg_bd q q Nat.lt_two_pow_self hq1
  have d4 := dg_le (d := 9) hq1 hq2
  obtain ⟨d, hd⟩ : ∃ d, dg q = d := ⟨_, rfl⟩
  rw [hd] at d1 d2 d3 d4 ⊢
  have hIp : ((pl id : Nat) : Int) = 2 := by rw [hpl]; rfl
  have HG := fun w (hs : Sh w) he hr => genuine_yes id E R w h1 h2 hs he hr
  rw [hIp] at HG ⊢
  replace HG := Lib.hid HG
  have HLn := Lib.hid (fun w => hd ▸ len_ok q hq1 (by omega) w)
  have HP1 : Hid (∀ w, Calls Tryd.prog 51 #[.slice none 0 0, .int .i64 (q : Int), .int .i64 (2 * (d : Int) - 1)] w fun e w' => ∃ g cap, e = .returned (.tuple #[.slice (some ⟨g, 0, none⟩) (2 * d - 1) cap, .int .i64 0]) ∧ Cr.Own w.heap.size w' (.slice (some ⟨g, 0, none⟩) (2 * d - 1) cap) (bi (q : Int) (2 * d - 1)) ∧ Below w.heap.size w w') := Lib.hid fun w => by
    have := put_src (q : Int) (2 * d - 1) w (v0 := .slice none 0 0) (zs := []) (.inl ⟨rfl, rfl⟩) (by simp) (by omega) (by omega) (by
      have a : (q : Int) < 2 ^ d := by exact_mod_cast d3
      have b : (2 : Int) ^ d ≤ 2 ^ (2 * d - 1) := by exact_mod_cast Nat.pow_le_pow_right (by decide) (by omega)
      omega)
    rw [show ((2 * d - 1 : Nat) : Int) = 2 * (d : Int) - 1 by omega] at this
    simpa using this
  have HP2 : Hid (∀ w g cap, Cr.Own w.heap.size w (.slice (some ⟨g, 0, none⟩) (2 * d - 1) cap) (bi (q : Int) (2 * d - 1)) ∨ Src8 w (.slice (some ⟨g, 0, none⟩) (2 * d - 1) cap) (bi (q : Int) (2 * d - 1)) → Calls Tryd.prog 51 #[.slice (some ⟨g, 0, none⟩) (2 * d - 1) cap, .int .i64 (m : Int), .int .i64 2] w fun e w' => ∃ g cap, e = .returned (.tuple #[.slice (some ⟨g, 0, none⟩) (2 * d - 1 + 2) cap, .int .i64 0]) ∧ Cr.Own w.heap.size w' (.slice (some ⟨g, 0, none⟩) (2 * d - 1 + 2) cap) (bi (q : Int) (2 * d - 1) ++ bi (m : Int) 2) ∧ Below w.heap.size w w') := Lib.hid fun w g cap h => by
    have := put_src (m : Int) 2 w (v0 := .slice (some ⟨g, 0, none⟩) (2 * d - 1) cap) (zs := bi (q : Int) (2 * d - 1)) (h.elim own_src id_) (by rw [bi_len]; omega) (by omega) (by omega) (by exact_mod_cast hm2)
    rwa [bi_len] at this
  have HS := Lib.hid hs
  have HE := Lib.hid he
  have HR := Lib.hid hr
  obtain ⟨N, hNN⟩ : ∃ N, Nn id = N := ⟨_, rfl⟩
  have HNN := Lib.hid hNN
  have hkb := kb_new w (id : Int) 2 E R (Nn id)
  have HK := Lib.hid hkb
  have hb0 := Lib.hid ((Below.refl w.heap.size w).alloc (Nat.le_refl _) (.cells #[.int .i64 (id : Int), .int .i64 2, .slice (some ⟨E, 0, none⟩) (Nn id) (Nn id), .slice (some ⟨R, 0, none⟩) (Nn id) (Nn id)] 24))
  have hc := hr.cell (i := n) (by omega)
  have hrI : rkI id n = (r : Int) := by unfold rkI; rw [hrr]
  rw [hrI] at hc
  have HA2 : Hid (bits BinOp.and IntKind.i64 (r : Int) (IntKind.i64.wrap (IntKind.i64.wrap 4 - 1)) = (m : Int)) := Lib.hid (by
    rw [show IntKind.i64.wrap (IntKind.i64.wrap 4 - 1) = 3 from by decide, and_3 r hr1]
    first | omega | (rw [← hm]; rfl))
  have hq' : (r : Int) / 4 + 1 = (q : Int) := by omega
  have hwr : IntKind.u64.wrap (q : Int) = (q : Int) := by simp [IntKind.wrap, IntKind.bits, IntKind.signed]; omega
  have hRlt := hr.lt
  have hsA := Lib.hid (hs.below ((Below.refl _ w).alloc (Nat.le_refl _) (.cells #[.int .i64 (id : Int), .int .i64 2, .slice (some ⟨E, 0, none⟩) (Nn id) (Nn id), .slice (some ⟨R, 0, none⟩) (Nn id) (Nn id)] 24)))
  have heA := Lib.hid (r_al (o := .cells #[.int .i64 (id : Int), .int .i64 2, .slice (some ⟨E, 0, none⟩) (Nn id) (Nn id), .slice (some ⟨R, 0, none⟩) (Nn id) (Nn id)] 24) he)
  have hrA := Lib.hid (r_al (o := .cells #[.int .i64 (id : Int), .int .i64 2, .slice (some ⟨E, 0, none⟩) (Nn id) (Nn id), .slice (some ⟨R, 0, none⟩) (Nn id) (Nn id)] 24) hr)
  obtain ⟨k0, k1, k2, k3, k4⟩ := hkb
  have hc' : (w.alloc (.cells #[.int .i64 (id : Int), .int .i64 2, .slice (some ⟨E, 0, none⟩) (Nn id) (Nn id), .slice (some ⟨R, 0, none⟩) (Nn id) (Nn id)] 24)).cell? ⟨R, 0 + n, none⟩ = some (.int .i64 (r : Int)) := by
    rw [Nat.zero_add]
    have := hrA.out.cell (i := n) (by omega)
    rwa [hrI] at this
  have HC' := Lib.hid hc'
  have hRlt' := hrA.out.lt
  have HHd := Lib.hid hd
  clear hs he hr hc hc' hrI hrr hq hm hcd hd hpl hIp hm2 hrk hNN h1 h2
  go_enter Tryd.func16, Tryd.ntmps16
  go_upto_region 9 with first
    | (go_at_call 49; ((with_reducible refine (HG.out _ hsA.out heA.out hrA.out).mono ?_); rintro e w1 ⟨rfl, hb1⟩; have hk1 := Lib.hid (HK.out.below hb1); have q0 := hk1.out.1; have q1 := hk1.out.2.1; have q2 := hk1.out.2.2.1; have q3 := hk1.out.2.2.2.1; have hcR := (hb1.cell (p := ⟨R, 0 + n, none⟩) hRlt').trans HC'.out; rw [Nat.zero_add] at hcR))
    | (go_at_call 50; ((with_reducible refine (HLn.out _).mono ?_); rintro e w2 ⟨rfl, rfl⟩))
    | (go_at_call 51; ((with_reducible refine (HP1.out _).mono ?_); rintro e w3 ⟨g, cap, rfl, ho3, hb3⟩; have hk3 := Lib.hid (hk1.out.below hb3); have u0 := hk3.out.1; have u1 := hk3.out.2.1; have u2 := hk3.out.2.2.1; have u3 := hk3.out.2.2.2.1))
  have hsr := Lib.hid (own_src ho3)
  have hb13 := Lib.hid (hb0.out.trans ((hb1.mono hb0.out.size).trans (hb3.mono (Nat.le_trans hb0.out.size hb1.size))))
  have hk3d : Hid (Kb w3.drew w.heap.size (id : Int) 2 E R (Nn id)) := Lib.hid (hk3.out.below (Below.refl _ w3).drew)
  have hsrd := Lib.hid (Src8.below hsr.out (Below.refl _ w3).drew)
  clear ho3 hb1 hb3
  go_region_held3 (fun w' => w'.cell? ⟨w.heap.size, 1, none⟩ = some (.int .i64 2))
    (first
      | with_reducible exact hk3d.out.2.1
      | with_reducible exact hk5.out
      | (trace_state; fail))
    (first
      | (go_at_call 51; rw [HA2.out]; ((with_reducible refine (HP2.out _ _ _ (.inr hsrd.out)).mono ?_); rintro e w5 ⟨g5, cap5, rfl, ho5, hb5⟩; have hk5 : Hid (w5.cell? ⟨w.heap.size, 1, none⟩ = some (.int .i64 2)) := Lib.hid (hk3d.out.below hb5).2.1)))
  go_wp2
  go_ret2
  have hb05 : Below w.heap.size w w5 := hb13.out.trans (((Below.refl w3.heap.size w3).drew.trans hb5).mono hb13.out.size)
  refine ⟨.slice (some ⟨g5, 0, none⟩) (2 * d - 1 + 2) cap5, rfl, ⟨g5, cap5, by rw [List.length_append, bi_len, bi_len], own8_rebase ho5 hb13.out.size⟩, hb05⟩

theorem code_ok (id E R n : Nat) (w : World) (h1 : 1 ≤ id) (h2 : id ≤ 12) (hs : Sh w) (hn : n < Nn id) (he : w.rowIs E 3 (Nn id) (fun j => .int .i64 (ordI id j))) (hr : w.rowIs R 3 (Nn id) (fun j => .int .i64 (rkI id j))) :
    Calls Tryd.prog 16 #[.agg #[.int .i64 (id : Int), .int .i64 (pl id : Int), .slice (some ⟨E, 0, none⟩) (Nn id) (Nn id), .slice (some ⟨R, 0, none⟩) (Nn id) (Nn id)], .int .i64 n] w fun e w' => ∃ v, e = .returned (.tuple #[v, .int .i64 0]) ∧ IsCode w.heap.size w' v (cd (pl id) (rk id n)) ∧ Below w.heap.size w w' := by
  have hp := (facts h1 h2).2.2.2.2.2.1
  have : pl id = 0 ∨ pl id = 1 ∨ pl id = 2 := by omega
  rcases this with h | h | h
  · exact code_0 id E R n w h1 h2 h hs hn he hr
  · exact code_1 id E R n w h1 h2 h hs hn he hr
  · exact code_2 id E R n w h1 h2 h hs hn he hr
end Go.Proofs.YteklahfgplbmcaaDoor.Bk
