/- Values and entries, told by one another. -/
import Derived.Test.YteklahfgplbmcaaDoorBkAl
import Derived.WalkKit
import Derived.Below
import Derived.RegionTactic
import Derived.Deep.QuietTactic
import Derived.BigQuiet
import Derived.ChangeAlike
import Derived.Deep.OwnRows
import Derived.Deep.Cut
import Derived.ProofKit
import Derived.OpenShut
import Derived.Laws.EntriesVeiled
import Derived.Lib.Hide
namespace Go.Proofs.YteklahfgplbmcaaDoor.BkEn
open Go Go.ChangeShapes Go.WideShapes Go.ChangeAt Go.RowKit Go.Proofs.YteklahfgplbmcaaDoor.Bk Go.Proofs.YteklahfgplbmcaaDoor.Bi Go.Proofs.YteklahfgplbmcaaDoor.Cr Go.Proofs.YteklahfgplbmcaaDoor.Fx

theorem wf64 {s : Int} (h : (Lit.int .i64 s).wf = true) : -9223372036854775808 ≤ s ∧ s ≤ 9223372036854775807 := by
  simp [Lit.wf] at h
  have e : IntKind.i64.min = -9223372036854775808 := rfl
  have e2 : IntKind.i64.max = 9223372036854775807 := rfl
  omega
theorem isrow_rd {w : World} {a : Option Addr} {len cap : Nat} {zs : List Int} (h : Go.Proofs.YteklahfgplbmcaaDoor.Cr.IsRow .i64 w a len cap zs) : ∃ xs : List Int, xs.length = len ∧ Rd w (.slice a len cap) xs ∧ len ≤ maxLen ∧ ∀ n ∈ xs, -9223372036854775808 ≤ n ∧ n ≤ 9223372036854775807 := by
  rcases h with ⟨rfl, rfl, rfl, rfl⟩ | ⟨x, rfl, hl, hm, hz, hc, hwf⟩
  · exact ⟨[], rfl, .inl ⟨_, _, rfl, rfl⟩, by unfold maxLen; omega, fun n h => by cases h⟩
  · have hlen : (zs.take len).length = len := by simp; omega
    refine ⟨zs.take len, hlen, ?_, by omega, fun n h => wf64 (hwf n (List.mem_of_mem_take h))⟩
    by_cases h0 : len = 0
    · subst h0; exact .inl ⟨_, _, rfl, by simp⟩
    · obtain ⟨b, off, rfl, hc'⟩ := ints_at hc (by omega)
      refine .inr ⟨b, off, cap, by rw [hlen], Go.Proofs.YteklahfgplbmcaaDoor.Cr.lt_of_cell (hc' 0 (by omega)), by omega, hm, fun i hi => ?_⟩
      rw [hlen] at hi
      rw [hc' i (by omega)]
      simp [hi]
theorem values_bad1 (I n : Int) (w : World) (h : I < 1 ∨ 12 < I) : Calls Tryd.prog 20 #[.int .i64 I, .int .i64 n] w fun e w' => e = .returned (.tuple #[.slice none 0 0, .int .i64 2]) ∧ Below w.heap.size w w' := by
  by_cases h1 : I < 1
  · clear h
    go_enter Tryd.func20, Tryd.ntmps20
    go_wp2
    go_ret2
    exact ⟨rfl, Below.refl _ _⟩
  · have h2 : 12 < I := by omega
    clear h
    go_enter Tryd.func20, Tryd.ntmps20
    go_wp2
    go_ret2
    exact ⟨rfl, Below.refl _ _⟩
set_option maxHeartbeats 4000000 in
theorem values_bad2 (id : Nat) (n : Int) (w : World) (h1 : 1 ≤ id) (h2 : id ≤ 12) (hs : Sh w) (h : n < 0 ∨ (Nn id : Int) ≤ n) : Calls Tryd.prog 20 #[.int .i64 id, .int .i64 n] w fun e w' => e = .returned (.tuple #[.slice none 0 0, .int .i64 2]) ∧ Below w.heap.size w w' := by
  obtain ⟨k, rfl⟩ : ∃ k, id = k + 1 := ⟨id - 1, by omega⟩
  obtain ⟨s0, s1⟩ := hs
  obtain ⟨g0, g1, g2, g3⟩ := s1 k (by omega)
  have HZ := Lib.hid (fun w => sizes h1 h2 w)
  have hk11 : k ≤ 11 := by omega
  by_cases hn : n < 0
  · clear h s1 h1 h2
    go_enter Tryd.func20, Tryd.ntmps20
    go_wp2
    go_ret2
    exact ⟨rfl, Below.refl _ _⟩
  · have hn2 : (Nn (k + 1) : Int) ≤ n := by omega
    clear h s1 h1 h2
    go_enter Tryd.func20, Tryd.ntmps20
    go_wp2_with (go_at_call 46; ((with_reducible refine (HZ.out _).mono ?_); rintro e w1 ⟨rfl, hb1⟩))
    go_ret2
    exact ⟨rfl, hb1⟩
theorem ent_yes {id : Nat} (h1 : 1 ≤ id) (h2 : id ≤ 12) {zs : List Int} (h : entX id zs = 0) : ∃ m, entI id zs = ((m : Nat) : Int) ∧ m < Nn id ∧ vals (bs id) (lw id) (dm id) m = zs := by
  unfold entX at h
  split at h
  · rename_i hl
    split at h
    · rename_i ha
      obtain ⟨m, e1, e2, e3⟩ := ent_take h1 h2 (by omega) ha
      refine ⟨m, ?_, ?_, by rw [← hl]; exact e3⟩
      · unfold entI; rw [if_pos ⟨hl, ha⟩]; exact e1
      · rw [(facts h1 h2).1, ← hl]; exact e2
    · simp at h
  · simp at h
theorem ent_no {id : Nat} {zs : List Int} (h : entX id zs ≠ 0) : entI id zs = 0 ∧ (entX id zs = 2 ∨ entX id zs = 4) := by
  unfold entX entI at *
  split at h
  · rename_i hl
    split at h
    · exact absurd rfl h
    · rename_i ha
      rw [if_neg (fun x => ha x.2), if_pos hl, if_neg ha]; exact ⟨rfl, .inl rfl⟩
  · rename_i hl
    rw [if_neg (fun x => hl x.1), if_neg hl]; exact ⟨rfl, .inr rfl⟩
theorem ent_of {id n : Nat} (h1 : 1 ≤ id) (h2 : id ≤ 12) (hn : n < Nn id) : entI id (vals (bs id) (lw id) (dm id) n) = (n : Int) ∧ entX id (vals (bs id) (lw id) (dm id) n) = 0 := by
  obtain ⟨f1, f2, f3, f4, f5, f6, f7, f8, f9, f10, f11, f12, f13, f14⟩ := facts h1 h2
  have ha : (vals (bs id) (lw id) (dm id) n).all (inR id) = true := by
    rw [List.all_eq_true]
    intro v hv
    have := vals_bd (bs id) (lw id) f2 (dm id) n v hv
    unfold inR; simp; omega
  have hl := vals_len (bs id) (lw id) (dm id) n
  unfold entI entX
  rw [if_pos ⟨hl, ha⟩, if_pos hl, if_pos ha]
  exact ⟨ent_vals (bs id) (lw id) f2 (dm id) n (by rw [← f1]; exact hn), rfl⟩
set_option maxRecDepth 100000 in
set_option maxHeartbeats 8000000 in
theorem long (I n : Int) (A : Option Addr) (len cap : Nat) (w : World) (hs : Sh w) (h : 1000 < (len : Int)) :
    Calls Tryd.prog 6 #[.int .i64 I, .int .i64 n, .slice A len cap] w fun e w' => e = .returned (.bool true) ∧ Below w.heap.size w w' := by
  have HA := Lib.hid (fun w (h : Sh w) => alive_ok w h)
  have HS := Lib.hid hs
  clear hs
  go_enter Tryd.func6, Tryd.ntmps6
  go_wp2_with first
    | (go_at_call 18; ((with_reducible refine (HA.out _ HS.out).mono ?_); rintro e w1 ⟨rfl, hb1⟩))
  go_ret
  exact ⟨rfl, hb1⟩
set_option maxRecDepth 100000 in
set_option maxHeartbeats 8000000 in
theorem badI (I n : Int) (A : Option Addr) (len cap : Nat) (w : World) (hs : Sh w) (h : ¬ 1000 < (len : Int)) (hI : I < 1 ∨ 12 < I) :
    Calls Tryd.prog 6 #[.int .i64 I, .int .i64 n, .slice A len cap] w fun e w' => e = .returned (.bool true) ∧ Below w.heap.size w w' := by
  have HA := Lib.hid (fun w (h : Sh w) => alive_ok w h)
  have HV := Lib.hid (fun w => values_bad1 I n w hI)
  have HE := Lib.hid (fun w v => entry_bad I v w hI)
  have HS := Lib.hid hs
  clear hs hI
  go_enter Tryd.func6, Tryd.ntmps6
  go_wp2_with first
    | (go_at_call 18; ((with_reducible refine (HA.out _ HS.out).mono ?_); rintro e w1 ⟨rfl, hb1⟩))
    | (go_at_call 20; ((with_reducible refine (HV.out _).mono ?_); rintro e w2 ⟨rfl, hb2⟩))
    | (go_at_call 22; ((with_reducible refine (HE.out _ _).mono ?_); rintro e w3 ⟨rfl, hb3⟩))
  go_ret
  exact ⟨rfl, bT (bT hb1 hb2) hb3⟩
set_option maxRecDepth 100000 in
set_option maxHeartbeats 8000000 in
theorem good (id : Nat) (n : Int) (A : Option Addr) (len cap : Nat) (zs : List Int) (w : World) (hs : Sh w) (h : ¬ 1000 < (len : Int)) (h1 : 1 ≤ id) (h2 : id ≤ 12) (hl : zs.length = len) (hr : Rd w (.slice A len cap) zs) (hb : ∀ z ∈ zs, -9223372036854775808 ≤ z ∧ z ≤ 9223372036854775807) :
    Calls Tryd.prog 6 #[.int .i64 id, .int .i64 n, .slice A len cap] w fun e w' => e = .returned (.bool true) ∧ Below w.heap.size w w' := by
  obtain ⟨f1, f2, f3, f4, f5, f6, f7, f8, f9, f10, f11, f12, f13, f14⟩ := facts h1 h2
  have HA := Lib.hid (fun w (h : Sh w) => alive_ok w h)
  have HVal : Hid (∀ (n : Nat) w, n < Nn id → Sh w → Calls Tryd.prog 20 #[.int .i64 id, .int .i64 n] w fun e w' => ∃ O, e = .returned (.tuple #[.slice (some ⟨O, 0, none⟩) (dm id) (dm id), .int .i64 0]) ∧ Rd w' (.slice (some ⟨O, 0, none⟩) (dm id) (dm id)) (vals (bs id) (lw id) (dm id) n) ∧ Below w.heap.size w w') := Lib.hid fun n w hn h => (values_ok id n w h1 h2 h hn).mono fun e w' ⟨O, h1, _, h3, h4⟩ => ⟨O, h1, rd_row h3 (vals_len _ _ _ _) (by unfold maxLen; omega) (fun j _ => rfl), h4⟩
  have HZs : Hid (∀ w', Rd w' (.slice A len cap) zs → Sh w' → Calls Tryd.prog 22 #[.int .i64 id, .slice A len cap] w' fun e w'' => e = .returned (.tuple #[.int .i64 (entI id zs), .int .i64 (entX id zs)]) ∧ Below w'.heap.size w' w'') := Lib.hid fun w' hr hs => entry_ok id _ zs w' h1 h2 hs (by unfold maxLen; omega) hb hr
  have HR := Lib.hid hr
  have HS := Lib.hid hs
  have HI : Hid (∀ w v, Rd w v zs → Rd w (.slice A len cap) zs → Calls Tryd.prog 25 #[v, .slice A len cap] w fun e w' => e = .returned (.bool true) ∧ Below w.heap.size w w') := Lib.hid fun w v h h' => by
    have := ints_ok v (.slice A len cap) zs zs w (by unfold maxLen; omega) (by unfold maxLen; omega) h h'
    simpa using this
  -- the tail: the entry of the values that came in
  by_cases hx : entX id zs = 0
  · obtain ⟨m, e1, e2, e3⟩ := ent_yes h1 h2 hx
    rw [e1, hx] at HZs
    have HVm : Hid (∀ w, Sh w → Calls Tryd.prog 20 #[.int .i64 id, .int .i64 m] w fun e w' => ∃ O, e = .returned (.tuple #[.slice (some ⟨O, 0, none⟩) (dm id) (dm id), .int .i64 0]) ∧ Rd w' (.slice (some ⟨O, 0, none⟩) (dm id) (dm id)) zs ∧ Below w.heap.size w w') := Lib.hid fun w h => by
      have := HVal.out m w e2 h
      rwa [e3] at this
    by_cases hn : 0 ≤ n ∧ n < (Nn id : Int)
    · obtain ⟨q, rfl⟩ : ∃ q : Nat, n = (q : Int) := ⟨n.toNat, by omega⟩
      have hq : q < Nn id := by omega
      obtain ⟨g1, g2⟩ := ent_of h1 h2 hq
      have HVq : Hid (∀ w, Sh w → Calls Tryd.prog 20 #[.int .i64 id, .int .i64 q] w fun e w' => ∃ O, e = .returned (.tuple #[.slice (some ⟨O, 0, none⟩) (dm id) (dm id), .int .i64 0]) ∧ Rd w' (.slice (some ⟨O, 0, none⟩) (dm id) (dm id)) (vals (bs id) (lw id) (dm id) q) ∧ Below w.heap.size w w') := Lib.hid fun w h => HVal.out q w hq h
      have HEq : Hid (∀ w v, Sh w → Rd w v (vals (bs id) (lw id) (dm id) q) → Calls Tryd.prog 22 #[.int .i64 id, v] w fun e w' => e = .returned (.tuple #[.int .i64 q, .int .i64 0]) ∧ Below w.heap.size w w') := Lib.hid fun w v h hr => by
        have := entry_ok id v _ w h1 h2 h (by rw [vals_len]; unfold maxLen; omega) (fun z hz => by have := vals_bd (bs id) (lw id) f2 (dm id) q z hz; omega) hr
        rwa [g1, g2] at this
      clear hs hr hb g1 g2 hx e1 e3 f1 f2 f3 f4 f5 f6 f9 f10 f11 f12 f13 f14 h1 h2 HVal hq hn hl
      go_enter Tryd.func6, Tryd.ntmps6
      go_wp2_with first
        | (go_at_call 18; ((with_reducible refine (HA.out _ HS.out).mono ?_); rintro e w1 ⟨rfl, hb1⟩))
        | (go_at_call 20; ((with_reducible refine (HVq.out _ (HS.out.below hb1)).mono ?_); rintro e w2 ⟨O, rfl, hO, hb2⟩; have h2 := Lib.hid (bT hb1 hb2)))
        | (go_at_call 22; ((with_reducible refine (HEq.out _ _ (HS.out.below h2.out) hO).mono ?_); rintro e w3 ⟨rfl, hb3⟩; have h3 := Lib.hid (bT h2.out hb3)))
        | (go_at_call 22; ((with_reducible refine (HZs.out _ (HR.out.below h3.out) (HS.out.below h3.out)).mono ?_); rintro e w4 ⟨rfl, hb4⟩; have h4 := Lib.hid (bT h3.out hb4)))
        | (go_at_call 20; ((with_reducible refine (HVm.out _ (HS.out.below h4.out)).mono ?_); rintro e w5 ⟨O5, rfl, hO5, hb5⟩; have h5 := Lib.hid (bT h4.out hb5)))
        | (go_at_call 25; ((with_reducible refine (HI.out _ _ hO5 (HR.out.below h5.out)).mono ?_); rintro e w6 ⟨rfl, hb6⟩))
      go_ret
      exact ⟨rfl, bT h5.out hb6⟩
    · have HVb := Lib.hid (fun w (h : Sh w) => values_bad2 id n w h1 h2 h (by omega))
      clear hs hr hb hx e1 e3 f1 f2 f3 f4 f5 f6 f9 f10 f11 f12 f13 f14 h1 h2 HVal hn hl
      go_enter Tryd.func6, Tryd.ntmps6
      go_wp2_with first
        | (go_at_call 18; ((with_reducible refine (HA.out _ HS.out).mono ?_); rintro e w1 ⟨rfl, hb1⟩))
        | (go_at_call 20; ((with_reducible refine (HVb.out _ (HS.out.below hb1)).mono ?_); rintro e w3 ⟨rfl, hb3⟩; have h3 := Lib.hid (bT hb1 hb3)))
        | (go_at_call 22; ((with_reducible refine (HZs.out _ (HR.out.below h3.out) (HS.out.below h3.out)).mono ?_); rintro e w4 ⟨rfl, hb4⟩; have h4 := Lib.hid (bT h3.out hb4)))
        | (go_at_call 20; ((with_reducible refine (HVm.out _ (HS.out.below h4.out)).mono ?_); rintro e w5 ⟨O5, rfl, hO5, hb5⟩; have h5 := Lib.hid (bT h4.out hb5)))
        | (go_at_call 25; ((with_reducible refine (HI.out _ _ hO5 (HR.out.below h5.out)).mono ?_); rintro e w6 ⟨rfl, hb6⟩))
      go_ret
      exact ⟨rfl, bT h5.out hb6⟩
  · obtain ⟨e1, e2⟩ := ent_no hx
    rw [e1] at HZs
    obtain ⟨X, hX⟩ : ∃ X, entX id zs = X := ⟨_, rfl⟩
    rw [hX] at HZs hx e2
    clear hX
    by_cases hn : 0 ≤ n ∧ n < (Nn id : Int)
    · obtain ⟨q, rfl⟩ : ∃ q : Nat, n = (q : Int) := ⟨n.toNat, by omega⟩
      have hq : q < Nn id := by omega
      obtain ⟨g1, g2⟩ := ent_of h1 h2 hq
      have HVq : Hid (∀ w, Sh w → Calls Tryd.prog 20 #[.int .i64 id, .int .i64 q] w fun e w' => ∃ O, e = .returned (.tuple #[.slice (some ⟨O, 0, none⟩) (dm id) (dm id), .int .i64 0]) ∧ Rd w' (.slice (some ⟨O, 0, none⟩) (dm id) (dm id)) (vals (bs id) (lw id) (dm id) q) ∧ Below w.heap.size w w') := Lib.hid fun w h => HVal.out q w hq h
      have HEq : Hid (∀ w v, Sh w → Rd w v (vals (bs id) (lw id) (dm id) q) → Calls Tryd.prog 22 #[.int .i64 id, v] w fun e w' => e = .returned (.tuple #[.int .i64 q, .int .i64 0]) ∧ Below w.heap.size w w') := Lib.hid fun w v h hr => by
        have := entry_ok id v _ w h1 h2 h (by rw [vals_len]; unfold maxLen; omega) (fun z hz => by have := vals_bd (bs id) (lw id) f2 (dm id) q z hz; omega) hr
        rwa [g1, g2] at this
      clear hs hr hb g1 g2 e1 f1 f2 f3 f4 f5 f6 f9 f10 f11 f12 f13 f14 h1 h2 HVal hq hn hl
      rcases e2 with rfl | rfl
      all_goals
        go_enter Tryd.func6, Tryd.ntmps6
        go_wp2_with first
          | (go_at_call 18; ((with_reducible refine (HA.out _ HS.out).mono ?_); rintro e w1 ⟨rfl, hb1⟩))
          | (go_at_call 20; ((with_reducible refine (HVq.out _ (HS.out.below hb1)).mono ?_); rintro e w2 ⟨O, rfl, hO, hb2⟩; have h2 := Lib.hid (bT hb1 hb2)))
          | (go_at_call 22; ((with_reducible refine (HEq.out _ _ (HS.out.below h2.out) hO).mono ?_); rintro e w3 ⟨rfl, hb3⟩; have h3 := Lib.hid (bT h2.out hb3)))
          | (go_at_call 22; ((with_reducible refine (HZs.out _ (HR.out.below h3.out) (HS.out.below h3.out)).mono ?_); rintro e w4 ⟨rfl, hb4⟩; have h4 := Lib.hid (bT h3.out hb4)))
        go_ret
        exact ⟨rfl, h4.out⟩
    · have HVb := Lib.hid (fun w (h : Sh w) => values_bad2 id n w h1 h2 h (by omega))
      clear hs hr hb e1 f1 f2 f3 f4 f5 f6 f9 f10 f11 f12 f13 f14 h1 h2 HVal hn hl
      rcases e2 with rfl | rfl
      all_goals
        go_enter Tryd.func6, Tryd.ntmps6
        go_wp2_with first
          | (go_at_call 18; ((with_reducible refine (HA.out _ HS.out).mono ?_); rintro e w1 ⟨rfl, hb1⟩))
          | (go_at_call 20; ((with_reducible refine (HVb.out _ (HS.out.below hb1)).mono ?_); rintro e w3 ⟨rfl, hb3⟩; have h3 := Lib.hid (bT hb1 hb3)))
          | (go_at_call 22; ((with_reducible refine (HZs.out _ (HR.out.below h3.out) (HS.out.below h3.out)).mono ?_); rintro e w4 ⟨rfl, hb4⟩; have h4 := Lib.hid (bT h3.out hb4)))
        go_ret
        exact ⟨rfl, h4.out⟩
theorem main (I n : Int) (A : Option Addr) (len cap : Nat) (z : List Int) (w : World) (hs : Sh w) (hz : Go.Proofs.YteklahfgplbmcaaDoor.Cr.IsRow .i64 w A len cap z) :
    Calls Tryd.prog 6 #[.int .i64 I, .int .i64 n, .slice A len cap] w fun e w' => e = .returned (.bool true) ∧ True ∧ Below w.heap.size w w' := by
  have key : Calls Tryd.prog 6 #[.int .i64 I, .int .i64 n, .slice A len cap] w fun e w' => e = .returned (.bool true) ∧ Below w.heap.size w w' := by
    by_cases h : 1000 < (len : Int)
    · exact long I n A len cap w hs h
    by_cases hI : I < 1 ∨ 12 < I
    · exact badI I n A len cap w hs h hI
    obtain ⟨id, rfl⟩ : ∃ id : Nat, I = (id : Int) := ⟨I.toNat, by omega⟩
    obtain ⟨xs, hl, hr, _, hb⟩ := isrow_rd hz
    exact good id n A len cap xs w hs h (by omega) (by omega) hl hr hb
  exact key.mono fun _ _ h => ⟨h.1, trivial, h.2⟩
end Go.Proofs.YteklahfgplbmcaaDoor.BkEn
