/- What is read by a book. -/
import Derived.Test.YteklahfgplbmcaaDoorBkRd
import Derived.Test.YteklahfgplbmcaaDoorBkAl
import Derived.WalkKit
import Derived.Below
import Derived.RegionTactic
import Derived.Deep.QuietTactic
import Derived.BigQuiet
import Derived.ChangeAlike
import Derived.Deep.OwnRows
import Derived.Deep.RegionHeld3
import Derived.Deep.Cut
import Derived.ProofKit
import Derived.OpenShut
import Derived.Laws.EntriesVeiled
import Derived.Lib.Hide
namespace Go.Proofs.YteklahfgplbmcaaDoor.Bk
open Go Go.ChangeShapes Go.WideShapes Go.ChangeAt Go.RowKit Go.Proofs.YteklahfgplbmcaaDoor.Bi Go.Proofs.YteklahfgplbmcaaDoor.Cr Go.Proofs.YteklahfgplbmcaaDoor.Fx

theorem zeros_le {z : List Int} : ∀ {f m : Nat} {A : Int}, (zerosF z f m A).2.2 = 0 → ∃ j : Nat, (zerosF z f m A).1 = (j : Int) ∧ j < m + f := by
  intro f m A h
  obtain ⟨j, a, _, hj, _, _, e⟩ := zerosF_ok h
  exact ⟨m + j, by rw [e], by omega⟩
theorem getF_num {z : List Int} {A : Int} {s : Nat} (h : (getF z A s).2.2 = 0) : 0 ≤ (getF z A s).1 ∧ (getF z A s).1 < 2 ^ s := by
  obtain ⟨a, _, hl, hb, e⟩ := getF_ok h
  rw [e]
  exact num_bd s _ (drop_take_len hl) hb
theorem w64' {x : Int} (h0 : -9223372036854775808 ≤ x) (h1 : x ≤ 9223372036854775807) : wrap64 x = x := by
  simp only [wrap64]; omega
theorem pow_b {n k : Nat} (h : n ≤ k) : (1 : Int) ≤ 2 ^ n ∧ (2 : Int) ^ n ≤ ((2 ^ k : Nat) : Int) := by
  have h1 : (1 : Nat) ≤ 2 ^ n := Nat.one_le_two_pow
  have h2 : 2 ^ n ≤ 2 ^ k := Nat.pow_le_pow_right (by decide) h
  exact ⟨by exact_mod_cast h1, by exact_mod_cast h2⟩
theorem rank_wrap {P Q lo p : Int} (hP : 1 ≤ P) (hP2 : P ≤ ((2 ^ 9 : Nat) : Int)) (hQ : 1 ≤ Q) (hQ2 : Q ≤ ((2 ^ 2 : Nat) : Int)) (l0 : 0 ≤ lo) (l1 : lo < P) (p0 : 0 ≤ p) (p1 : p < Q) :
    wrap64 (wrap64 (wrap64 (wrap64 (wrap64 P + lo) - 1) * Q) + p) = (P + lo - 1) * Q + p ∧ 0 ≤ (P + lo - 1) * Q + p := by
  have e9 : ((2 ^ 9 : Nat) : Int) = 512 := rfl
  have e2 : ((2 ^ 2 : Nat) : Int) = 4 := rfl
  rw [e9] at hP2
  rw [e2] at hQ2
  have h0 : 0 ≤ (P + lo - 1) * Q := Int.mul_nonneg (by omega) (by omega)
  have h1 : (P + lo - 1) * Q ≤ 1023 * 4 := Int.mul_le_mul (by omega) (by omega) (by omega) (by decide)
  generalize hM : (P + lo - 1) * Q = M at *
  rw [w64' (x := P) (by omega) (by omega), w64' (x := P + lo) (by omega) (by omega), w64' (x := P + lo - 1) (by omega) (by omega), hM, w64' (x := M) (by omega) (by omega), w64' (x := M + p) (by omega) (by omega)]
  exact ⟨rfl, by omega⟩
set_option maxRecDepth 100000 in
set_option maxHeartbeats 8000000 in
theorem read_ok (id E R : Nat) (v : Value) (z : List Int) (A : Int) (w : World) (h1 : 1 ≤ id) (h2 : id ≤ 12) (hs : Sh w) (he : w.rowIs E 3 (Nn id) (fun j => .int .i64 (ordI id j))) (hr : w.rowIs R 3 (Nn id) (fun j => .int .i64 (rkI id j)))
    (hv : R8 w v z) (hz : ∀ x ∈ z, 0 ≤ x ∧ x ≤ 255) (hl : z.length ≤ 20000) :
    Calls Tryd.prog 17 #[.agg #[.int .i64 (id : Int), .int .i64 (pl id : Int), .slice (some ⟨E, 0, none⟩) (Nn id) (Nn id), .slice (some ⟨R, 0, none⟩) (Nn id) (Nn id)], v, .int .i64 A] w fun e w' => e = T3 (readF (ord id) (pl id) z A) ∧ Below w.heap.size w w' := by
  obtain ⟨f1, f2, f3, f4, f5, f6, f7, f8, f9, f10, f11, f12, f13, f14⟩ := facts h1 h2
  have HG := Lib.hid (fun w (hs : Sh w) he hr => genuine_yes id E R w h1 h2 hs he hr)
  have hkb := kb_new w (id : Int) (pl id) E R (Nn id)
  have hb0 := Lib.hid (al w (.cells #[.int .i64 (id : Int), .int .i64 (pl id), .slice (some ⟨E, 0, none⟩) (Nn id) (Nn id), .slice (some ⟨R, 0, none⟩) (Nn id) (Nn id)] 24))
  have hsA := Lib.hid (hs.below (al w (.cells #[.int .i64 (id : Int), .int .i64 (pl id), .slice (some ⟨E, 0, none⟩) (Nn id) (Nn id), .slice (some ⟨R, 0, none⟩) (Nn id) (Nn id)] 24)))
  have heA := Lib.hid (r_al (o := (.cells #[.int .i64 (id : Int), .int .i64 (pl id), .slice (some ⟨E, 0, none⟩) (Nn id) (Nn id), .slice (some ⟨R, 0, none⟩) (Nn id) (Nn id)] 24)) he)
  have hrA := Lib.hid (r_al (o := (.cells #[.int .i64 (id : Int), .int .i64 (pl id), .slice (some ⟨E, 0, none⟩) (Nn id) (Nn id), .slice (some ⟨R, 0, none⟩) (Nn id) (Nn id)] 24)) hr)
  have HV := Lib.hid hv
  have HK := Lib.hid hkb
  have HZr : Hid (∀ w', Below w.heap.size w w' → Calls Tryd.prog 52 #[v, .int .i64 A] w' fun e w'' => e = .returned (.tuple #[.int .i64 (zerosF z 10 0 A).1, .int .i64 (zerosF z 10 0 A).2.1, .int .i64 (zerosF z 10 0 A).2.2]) ∧ w' = w'') := Lib.hid fun w' hb => zeros_ok v z A w' (hv.below hb) hz hl
  have HGt : Hid (∀ w' (B : Int) (s : Nat), Below w.heap.size w w' → s ≤ 31 → Calls Tryd.prog 53 #[v, .int .i64 B, .int .i64 s] w' fun e w'' => e = .returned (.tuple #[.int .i64 (getF z B s).1, .int .i64 (getF z B s).2.1, .int .i64 (getF z B s).2.2]) ∧ w' = w'') := Lib.hid fun w' B s hb h => get_all v z B s w' (hv.below hb) hz hl h
  obtain ⟨k0, k1, k2, k3, k4⟩ := hkb
  have hord := (ord_is h1 h2).length
  have HRd : Hid (∀ x, T3 x = .returned (.tuple #[.int .i64 x.1, .int .i64 x.2.1, .int .i64 x.2.2])) := Lib.hid fun _ => rfl
  obtain ⟨kz, n1, e1, hzz⟩ : ∃ kz n1 e1, zerosF z 10 0 A = (kz, n1, e1) := ⟨_, _, _, rfl⟩
  have hzl := zeros_le (z := z) (f := 10) (m := 0) (A := A)
  rw [hzz] at HZr hzl
  by_cases he1 : e1 = 0
  · subst he1
    obtain ⟨m, hm1, hm2⟩ := hzl rfl
    simp only at hm1
    subst hm1
    have HG1 := Lib.hid (fun w' hb => HGt.out w' n1 m hb (by omega))
    have hn1 := getF_num (z := z) (A := n1) (s := m)
    obtain ⟨lo, n2, e2, hg1⟩ : ∃ lo n2 e2, getF z n1 m = (lo, n2, e2) := ⟨_, _, _, rfl⟩
    rw [hg1] at HG1 hn1
    by_cases he2 : e2 = 0
    · subst he2
      have HG2 := Lib.hid (fun w' hb => HGt.out w' n2 (pl id) hb (by omega))
      have hn2 := getF_num (z := z) (A := n2) (s := pl id)
      obtain ⟨p, n3, e3, hg2⟩ : ∃ p n3 e3, getF z n2 (pl id) = (p, n3, e3) := ⟨_, _, _, rfl⟩
      rw [hg2] at HG2 hn2
      by_cases he3 : e3 = 0
      · subst he3
        have hres : readF (ord id) (pl id) z A = if ((ord id).length : Int) ≤ (2 ^ m + lo - 1) * 2 ^ pl id + p then (0, 0, 8) else ((((ord id).getD ((2 ^ m + lo - 1) * 2 ^ pl id + p).toNat 0 : Nat) : Int), n3, 0) := by
          unfold readF; simp [hzz, hg1, hg2]
        rw [hres, hord]
        obtain ⟨l0, l1⟩ := hn1 rfl
        obtain ⟨p0, p1⟩ := hn2 rfl
        simp only at l0 l1 p0 p1
        obtain ⟨rk0, hrk0⟩ : ∃ rk0 : Int, (2 ^ m + lo - 1) * 2 ^ pl id + p = rk0 := ⟨_, rfl⟩
        obtain ⟨hwr, hrk1⟩ := rank_wrap (P := (2 : Int) ^ m) (Q := (2 : Int) ^ pl id) (lo := lo) (p := p) (pow_b (Nat.le_refl m)).1 (pow_b (k := 9) (by omega)).2 (pow_b f6).1 (pow_b (k := 2) f6).2 l0 l1 p0 p1
        rw [hrk0] at hwr hrk1
        rw [hrk0]
        clear hrk0
        clear hres hzz hg1 hg2 hzl hn1 hn2 HGt hs he hr hv hl hz f1 f2 f3 f4 f5 f9 f10 f11 f12 f13 f14
        by_cases hge : ((Nn id : Nat) : Int) ≤ rk0
        · rw [if_pos hge]
          go_enter Tryd.func17, Tryd.ntmps17
          go_upto_region 12 with first
          | (go_at_call 49; ((with_reducible refine (HG.out _ hsA.out heA.out hrA.out).mono ?_); rintro e w1 ⟨rfl, hb1⟩; have h1 := Lib.hid (bT hb0.out hb1); obtain ⟨q0, q1, q2, q3, q4⟩ := HK.out.below hb1))
          | (go_at_call 52; ((with_reducible refine (HZr.out _ h1.out).mono ?_); rintro e w2 ⟨rfl, rfl⟩))
          | (go_at_call 53; ((with_reducible refine (HG1.out _ h1.out).mono ?_); rintro e w3 ⟨rfl, rfl⟩))
          | (go_at_call 53; ((with_reducible refine (HG2.out _ h1.out).mono ?_); rintro e w4 ⟨rfl, rfl⟩))
          go_quiet (fail)
          go_wp2
          go_ret3
          exact ⟨rfl, h1.out.trans ((drewN_belowL w1 nq).mono h1.out.size)⟩
        · rw [if_neg hge]
          obtain ⟨r, rfl⟩ : ∃ r : Nat, rk0 = (r : Int) := ⟨rk0.toNat, by omega⟩
          have hrn : r < Nn id := by omega
          have hce : ordI id r = (((ord id).getD r 0 : Nat) : Int) := rfl
          rw [Int.toNat_natCast]
          obtain ⟨en, hen⟩ : ∃ en : Nat, (ord id).getD r 0 = en := ⟨_, rfl⟩
          rw [hen] at hce ⊢
          have ceA := heA.out.cell (i := r) hrn
          rw [hce] at ceA
          have hElt := heA.out.lt
          clear hen hce
          go_enter Tryd.func17, Tryd.ntmps17
          go_upto_region 12 with first
          | (go_at_call 49; ((with_reducible refine (HG.out _ hsA.out heA.out hrA.out).mono ?_); rintro e w1 ⟨rfl, hb1⟩; have h1 := Lib.hid (bT hb0.out hb1); obtain ⟨q0, q1, q2, q3, q4⟩ := HK.out.below hb1))
          | (go_at_call 52; ((with_reducible refine (HZr.out _ h1.out).mono ?_); rintro e w2 ⟨rfl, rfl⟩))
          | (go_at_call 53; ((with_reducible refine (HG1.out _ h1.out).mono ?_); rintro e w3 ⟨rfl, rfl⟩))
          | (go_at_call 53; ((with_reducible refine (HG2.out _ h1.out).mono ?_); rintro e w4 ⟨rfl, rfl⟩))
          have ce := (hb1.cell (p := ⟨E, r, none⟩) hElt).trans ceA
          clear ceA
          go_quiet (fail)
          go_wp2
          go_ret3
          exact ⟨rfl, h1.out.trans ((drewN_belowL w1 nq).mono h1.out.size)⟩
      · have hres : readF (ord id) (pl id) z A = (0, 0, e3) := by
          unfold readF; simp [hzz, hg1, hg2, he3]
        rw [hres]
        have hee : (e3 == 0) = false := by simp [he3]
        clear hres hzz hg1 hg2 hzl hn1 hn2 HGt hs he hr hv hl hz f1 f2 f3 f4 f5 f9 f10 f11 f12 f13 f14
        go_enter Tryd.func17, Tryd.ntmps17
        go_wp2_with first
          | (go_at_call 49; ((with_reducible refine (HG.out _ hsA.out heA.out hrA.out).mono ?_); rintro e w1 ⟨rfl, hb1⟩; have h1 := Lib.hid (bT hb0.out hb1); obtain ⟨q0, q1, q2, q3, q4⟩ := HK.out.below hb1))
          | (go_at_call 52; ((with_reducible refine (HZr.out _ h1.out).mono ?_); rintro e w2 ⟨rfl, rfl⟩))
          | (go_at_call 53; ((with_reducible refine (HG1.out _ h1.out).mono ?_); rintro e w3 ⟨rfl, rfl⟩))
          | (go_at_call 53; ((with_reducible refine (HG2.out _ h1.out).mono ?_); rintro e w4 ⟨rfl, rfl⟩))
        go_ret3
        exact ⟨rfl, h1.out⟩
    · have hres : readF (ord id) (pl id) z A = (0, 0, e2) := by
        unfold readF; simp [hzz, hg1, he2]
      rw [hres]
      have hee : (e2 == 0) = false := by simp [he2]
      clear hres hzz hg1 hzl hn1 HGt hs he hr hv hl hz f1 f2 f3 f4 f5 f9 f10 f11 f12 f13 f14
      go_enter Tryd.func17, Tryd.ntmps17
      go_wp2_with first
          | (go_at_call 49; ((with_reducible refine (HG.out _ hsA.out heA.out hrA.out).mono ?_); rintro e w1 ⟨rfl, hb1⟩; have h1 := Lib.hid (bT hb0.out hb1); obtain ⟨q0, q1, q2, q3, q4⟩ := HK.out.below hb1))
          | (go_at_call 52; ((with_reducible refine (HZr.out _ h1.out).mono ?_); rintro e w2 ⟨rfl, rfl⟩))
          | (go_at_call 53; ((with_reducible refine (HG1.out _ h1.out).mono ?_); rintro e w3 ⟨rfl, rfl⟩))
      go_ret3
      exact ⟨rfl, h1.out⟩
  · have hres : readF (ord id) (pl id) z A = (0, 0, e1) := by
      unfold readF; simp [hzz, he1]
    rw [hres]
    have hee : (e1 == 0) = false := by simp [he1]
    clear hres hzz hzl HGt hs he hr hv hl hz f1 f2 f3 f4 f5 f9 f10 f11 f12 f13 f14
    go_enter Tryd.func17, Tryd.ntmps17
    go_wp2_with first
          | (go_at_call 49; ((with_reducible refine (HG.out _ hsA.out heA.out hrA.out).mono ?_); rintro e w1 ⟨rfl, hb1⟩; have h1 := Lib.hid (bT hb0.out hb1); obtain ⟨q0, q1, q2, q3, q4⟩ := HK.out.below hb1))
          | (go_at_call 52; ((with_reducible refine (HZr.out _ h1.out).mono ?_); rintro e w2 ⟨rfl, rfl⟩))
    go_ret3
    exact ⟨rfl, h1.out⟩
end Go.Proofs.YteklahfgplbmcaaDoor.Bk
