/- Texts of one claim, one behind the other: BcPr, BcFd, BcFo, BcRe, HfMath, HfEnt, HfFit, HfSgn, HfEsc, HfJoin, HfEo, HfVb, HfPt, HfAl, HfStM, HfStp, HfRg, HfRs, HfRe, HfGm, HfGt, HfBm, HfPg, HfPush, BtCp, BtEn, HfT1, HfT2. -/
import Derived.Test.YteklahfgplbmcaaDoorMrg8
import Derived.Test.YteklahfgplbmcaaDoorMrg9
import Derived.WalkKit
import Derived.Below
import Derived.RegionTactic
import Derived.Deep.QuietTactic
import Derived.BigQuiet
import Derived.ChangeAlike
import Derived.Deep.OwnRows
import Derived.Deep.Cut
import Derived.ProofKit
import Derived.OpenShut
import Derived.Laws.EntriesVeiled
import Derived.Lib.Hide
import Derived.Deep.RegionHeld3
import Derived.Laws.AppendOwn
import Derived.Laws.AppendOwnNone
import Derived.Test.YteklahfgplbmcaaDoorMrg2
import Derived.Test.YteklahfgplbmcaaDoorMrg3
import Derived.OwnWalk
import Derived.Test.YteklahfgplbmcaaDoorBkAl
import Derived.Test.YteklahfgplbmcaaDoorMrg5
import Derived.Test.YteklahfgplbmcaaDoorMrg4
import Derived.Test.YteklahfgplbmcaaDoorBkEnt
import Derived.Deep.RegionWith
set_option linter.unusedVariables false
/- The program's Read of whatever book. -/
namespace Go.Proofs.YteklahfgplbmcaaDoor.BkRf
open Go Go.ChangeShapes Go.WideShapes Go.ChangeAt Go.RowKit Go.Proofs.YteklahfgplbmcaaDoor.Bk Go.Proofs.YteklahfgplbmcaaDoor.Bi Go.Proofs.YteklahfgplbmcaaDoor.Cr Go.Proofs.YteklahfgplbmcaaDoor.Fx

theorem zi_getD (l : List Nat) (j : Nat) : (zi l).getD j 0 = ((l.getD j 0 : Nat) : Int) := by
  unfold zi
  simp only [List.getD_eq_getElem?_getD, List.getElem?_map]
  cases l[j]? <;> rfl
set_option maxRecDepth 100000 in
set_option maxHeartbeats 8000000 in
theorem pread_ok (id : Nat) (a1 a2 : Option Addr) (c1 c2 : Nat) (v : Value) (z : List Int) (A : Int) (w : World) (h1 : 1 ≤ id) (h2 : id ≤ 12) (hs : Sh w) (he : RdA w a1 (zi (ord id))) (hG0 : ∀ x, Below w.heap.size w x → Sh x → Calls Tryd.prog 49 #[.agg #[.int .i64 (id : Int), .int .i64 (pl id : Int), .slice a1 (Nn id) c1, .slice a2 (Nn id) c2]] x fun e w' => e = .returned (.bool true) ∧ Below x.heap.size x w')
    (hv : R8 w v z) (hz : ∀ x ∈ z, 0 ≤ x ∧ x ≤ 255) (hl : z.length ≤ 20000) :
    Calls Tryd.prog 17 #[.agg #[.int .i64 (id : Int), .int .i64 (pl id : Int), .slice a1 (Nn id) c1, .slice a2 (Nn id) c2], v, .int .i64 A] w fun e w' => e = T3 (readF (ord id) (pl id) z A) ∧ Below w.heap.size w w' := by
  obtain ⟨f1, f2, f3, f4, f5, f6, f7, f8, f9, f10, f11, f12, f13, f14⟩ := facts h1 h2
  have HG := Lib.hid hG0
  have HE := Lib.hid he
  have HX := Lib.hid (fun x h => bx1 (w := w) (a := .int .i64 (id : Int)) (b := .int .i64 (pl id : Int)) (c := .slice a1 (Nn id) c1) (d := .slice a2 (Nn id) c2) (x := x) h)
  have hb0 := Lib.hid (al w (.cells #[.int .i64 (id : Int), .int .i64 (pl id), .slice a1 (Nn id) c1, .slice a2 (Nn id) c2] 24))
  have hsA := Lib.hid (hs.below (al w (.cells #[.int .i64 (id : Int), .int .i64 (pl id), .slice a1 (Nn id) c1, .slice a2 (Nn id) c2] 24)))
  have HV := Lib.hid hv
  have HZr : Hid (∀ w', Below w.heap.size w w' → Calls Tryd.prog 52 #[v, .int .i64 A] w' fun e w'' => e = .returned (.tuple #[.int .i64 (zerosF z 10 0 A).1, .int .i64 (zerosF z 10 0 A).2.1, .int .i64 (zerosF z 10 0 A).2.2]) ∧ w' = w'') := Lib.hid fun w' hb => zeros_ok v z A w' (hv.below hb) hz hl
  have HGt : Hid (∀ w' (B : Int) (s : Nat), Below w.heap.size w w' → s ≤ 31 → Calls Tryd.prog 53 #[v, .int .i64 B, .int .i64 s] w' fun e w'' => e = .returned (.tuple #[.int .i64 (getF z B s).1, .int .i64 (getF z B s).2.1, .int .i64 (getF z B s).2.2]) ∧ w' = w'') := Lib.hid fun w' B s hb h => get_all v z B s w' (hv.below hb) hz hl h
  obtain ⟨k0, k1, k2, k3⟩ := HX.out _ (Below.refl _ _)
  have hord := (ord_is h1 h2).length
  have HRd : Hid (∀ x, T3 x = .returned (.tuple #[.int .i64 x.1, .int .i64 x.2.1, .int .i64 x.2.2])) := Lib.hid fun _ => rfl
  obtain ⟨kz, n1, e1, hzz⟩ : ∃ kz n1 e1, zerosF z 10 0 A = (kz, n1, e1) := ⟨_, _, _, rfl⟩
  have hzl := zeros_le (z := z) (f := 10) (m := 0) (A := A)
  rw [hzz] at HZr hzl
  by_cases he1 : e1 = 0
  · subst he1
    obtain ⟨m, hm1, hm2⟩ := hzl rfl
    simp only at hm1
    subst hm1
    have HG1 := Lib.hid (fun w' hb => HGt.out w' n1 m hb (by omega))
    have hn1 := getF_num (z := z) (A := n1) (s := m)
    obtain ⟨lo, n2, e2, hg1⟩ : ∃ lo n2 e2, getF z n1 m = (lo, n2, e2) := ⟨_, _, _, rfl⟩
    rw [hg1] at HG1 hn1
    by_cases he2 : e2 = 0
    · subst he2
      have HG2 := Lib.hid (fun w' hb => HGt.out w' n2 (pl id) hb (by omega))
      have hn2 := getF_num (z := z) (A := n2) (s := pl id)
      obtain ⟨p, n3, e3, hg2⟩ : ∃ p n3 e3, getF z n2 (pl id) = (p, n3, e3) := ⟨_, _, _, rfl⟩
      rw [hg2] at HG2 hn2
      by_cases he3 : e3 = 0
      · subst he3
        have hres : readF (ord id) (pl id) z A = if ((ord id).length : Int) ≤ (2 ^ m + lo - 1) * 2 ^ pl id + p then (0, 0, 8) else ((((ord id).getD ((2 ^ m + lo - 1) * 2 ^ pl id + p).toNat 0 : Nat) : Int), n3, 0) := by
          unfold readF; simp [hzz, hg1, hg2]
        rw [hres, hord]
        obtain ⟨l0, l1⟩ := hn1 rfl
        obtain ⟨p0, p1⟩ := hn2 rfl
        simp only at l0 l1 p0 p1
        obtain ⟨rk0, hrk0⟩ : ∃ rk0 : Int, (2 ^ m + lo - 1) * 2 ^ pl id + p = rk0 := ⟨_, rfl⟩
        obtain ⟨hwr, hrk1⟩ := rank_wrap (P := (2 : Int) ^ m) (Q := (2 : Int) ^ pl id) (lo := lo) (p := p) (pow_b (Nat.le_refl m)).1 (pow_b (k := 9) (by omega)).2 (pow_b f6).1 (pow_b (k := 2) f6).2 l0 l1 p0 p1
        rw [hrk0] at hwr hrk1
        rw [hrk0]
        clear hrk0
        clear hres hzz hg1 hg2 hzl hn1 hn2 HGt hs he hG0 hv hl hz f1 f2 f3 f4 f5 f9 f10 f11 f12 f13 f14
        by_cases hge : ((Nn id : Nat) : Int) ≤ rk0
        · rw [if_pos hge]
          go_enter Tryd.func17, Tryd.ntmps17
          go_upto_region 12 with first
          | (go_at_call 49; ((with_reducible refine (HG.out _ hb0.out hsA.out).mono ?_); rintro e w1 ⟨rfl, hb1⟩; have h1 := Lib.hid (bT hb0.out hb1); (try clear k0 k1 k2 k3); obtain ⟨q0, q1, q2, q3⟩ := HX.out w1 hb1))
          | (go_at_call 52; ((with_reducible refine (HZr.out _ h1.out).mono ?_); rintro e w2 ⟨rfl, rfl⟩))
          | (go_at_call 53; ((with_reducible refine (HG1.out _ h1.out).mono ?_); rintro e w3 ⟨rfl, rfl⟩))
          | (go_at_call 53; ((with_reducible refine (HG2.out _ h1.out).mono ?_); rintro e w4 ⟨rfl, rfl⟩))
          go_quiet (fail)
          go_wp2
          go_ret3
          exact ⟨rfl, h1.out.trans ((drewN_belowL w1 nq).mono h1.out.size)⟩
        · rw [if_neg hge]
          obtain ⟨r, rfl⟩ : ∃ r : Nat, rk0 = (r : Int) := ⟨rk0.toNat, by omega⟩
          have hrn : r < Nn id := by omega
          have hce : (zi (ord id)).getD r 0 = (((ord id).getD r 0 : Nat) : Int) := zi_getD _ _
          rw [Int.toNat_natCast]
          obtain ⟨en, hen⟩ : ∃ en : Nat, (ord id).getD r 0 = en := ⟨_, rfl⟩
          rw [hen] at hce ⊢
          obtain ⟨b, off, ea, hElt, ceA⟩ := HE.out r (by rw [zi_len, hord]; exact hrn)
          subst ea
          rw [hce] at ceA
          clear hen hce
          go_enter Tryd.func17, Tryd.ntmps17
          go_upto_region 12 with first
          | (go_at_call 49; ((with_reducible refine (HG.out _ hb0.out hsA.out).mono ?_); rintro e w1 ⟨rfl, hb1⟩; have h1 := Lib.hid (bT hb0.out hb1); (try clear k0 k1 k2 k3); obtain ⟨q0, q1, q2, q3⟩ := HX.out w1 hb1))
          | (go_at_call 52; ((with_reducible refine (HZr.out _ h1.out).mono ?_); rintro e w2 ⟨rfl, rfl⟩))
          | (go_at_call 53; ((with_reducible refine (HG1.out _ h1.out).mono ?_); rintro e w3 ⟨rfl, rfl⟩))
          | (go_at_call 53; ((with_reducible refine (HG2.out _ h1.out).mono ?_); rintro e w4 ⟨rfl, rfl⟩))
          have ce := (h1.out.cell (p := ⟨b, off + r, none⟩) hElt).trans ceA
          clear ceA
          go_quiet (fail)
          go_wp2
          go_ret3
          exact ⟨rfl, h1.out.trans ((drewN_belowL w1 nq).mono h1.out.size)⟩
      · have hres : readF (ord id) (pl id) z A = (0, 0, e3) := by
          unfold readF; simp [hzz, hg1, hg2, he3]
        rw [hres]
        have hee : (e3 == 0) = false := by simp [he3]
        clear hres hzz hg1 hg2 hzl hn1 hn2 HGt hs he hG0 hv hl hz f1 f2 f3 f4 f5 f9 f10 f11 f12 f13 f14
        go_enter Tryd.func17, Tryd.ntmps17
        go_wp2_with first
          | (go_at_call 49; ((with_reducible refine (HG.out _ hb0.out hsA.out).mono ?_); rintro e w1 ⟨rfl, hb1⟩; have h1 := Lib.hid (bT hb0.out hb1); (try clear k0 k1 k2 k3); obtain ⟨q0, q1, q2, q3⟩ := HX.out w1 hb1))
          | (go_at_call 52; ((with_reducible refine (HZr.out _ h1.out).mono ?_); rintro e w2 ⟨rfl, rfl⟩))
          | (go_at_call 53; ((with_reducible refine (HG1.out _ h1.out).mono ?_); rintro e w3 ⟨rfl, rfl⟩))
          | (go_at_call 53; ((with_reducible refine (HG2.out _ h1.out).mono ?_); rintro e w4 ⟨rfl, rfl⟩))
        go_ret3
        exact ⟨rfl, h1.out⟩
    · have hres : readF (ord id) (pl id) z A = (0, 0, e2) := by
        unfold readF; simp [hzz, hg1, he2]
      rw [hres]
      have hee : (e2 == 0) = false := by simp [he2]
      clear hres hzz hg1 hzl hn1 HGt hs he hG0 hv hl hz f1 f2 f3 f4 f5 f9 f10 f11 f12 f13 f14
      go_enter Tryd.func17, Tryd.ntmps17
      go_wp2_with first
          | (go_at_call 49; ((with_reducible refine (HG.out _ hb0.out hsA.out).mono ?_); rintro e w1 ⟨rfl, hb1⟩; have h1 := Lib.hid (bT hb0.out hb1); (try clear k0 k1 k2 k3); obtain ⟨q0, q1, q2, q3⟩ := HX.out w1 hb1))
          | (go_at_call 52; ((with_reducible refine (HZr.out _ h1.out).mono ?_); rintro e w2 ⟨rfl, rfl⟩))
          | (go_at_call 53; ((with_reducible refine (HG1.out _ h1.out).mono ?_); rintro e w3 ⟨rfl, rfl⟩))
      go_ret3
      exact ⟨rfl, h1.out⟩
  · have hres : readF (ord id) (pl id) z A = (0, 0, e1) := by
      unfold readF; simp [hzz, he1]
    rw [hres]
    have hee : (e1 == 0) = false := by simp [he1]
    clear hres hzz hzl HGt hs he hG0 hv hl hz f1 f2 f3 f4 f5 f9 f10 f11 f12 f13 f14
    go_enter Tryd.func17, Tryd.ntmps17
    go_wp2_with first
          | (go_at_call 49; ((with_reducible refine (HG.out _ hb0.out hsA.out).mono ?_); rintro e w1 ⟨rfl, hb1⟩; have h1 := Lib.hid (bT hb0.out hb1); (try clear k0 k1 k2 k3); obtain ⟨q0, q1, q2, q3⟩ := HX.out w1 hb1))
          | (go_at_call 52; ((with_reducible refine (HZr.out _ h1.out).mono ?_); rintro e w2 ⟨rfl, rfl⟩))
    go_ret3
    exact ⟨rfl, h1.out⟩
end Go.Proofs.YteklahfgplbmcaaDoor.BkRf

/- What the document reads. -/
namespace Go.Proofs.YteklahfgplbmcaaDoor.BkRf
open Go Go.ChangeShapes Go.WideShapes Go.ChangeAt Go.RowKit Go.Proofs.YteklahfgplbmcaaDoor.Bk Go.Proofs.YteklahfgplbmcaaDoor.Bi Go.Proofs.YteklahfgplbmcaaDoor.Cr Go.Proofs.YteklahfgplbmcaaDoor.Fx
theorem rget_all (v : Value) (z : List Int) (A : Int) (s : Nat) (w : World) (hr : R8 w v z) (hz : ∀ x ∈ z, 0 ≤ x ∧ x ≤ 255) (hl : z.length ≤ 20000) (s1 : s ≤ 31) :
    Calls Tryd.prog 88 #[v, .int .i64 A, .int .i64 s] w fun e w' => e = T3 (getF z A s) ∧ w = w' := by
  obtain ⟨a0, c0, hv, hc0, hcm⟩ : ∃ a0 c0, v = .slice a0 z.length c0 ∧ z.length ≤ c0 ∧ c0 ≤ maxLen := by
    rcases hr with ⟨rfl | ⟨x, c, rfl, hc⟩, rfl⟩ | ⟨b, off, c, rfl, h2, h3, _⟩
    · exact ⟨none, 0, rfl, Nat.le_refl _, by unfold maxLen; omega⟩
    · exact ⟨some x, c, rfl, Nat.zero_le _, hc⟩
    · exact ⟨_, c, rfl, h2, h3⟩
  by_cases h1 : A < 0 ∨ (z.length : Int) < A
  · subst hv
    have e : getF z A s = (0, 0, 2) := by unfold getF; rw [if_pos h1]
    rw [e]
    exact rget_arg a0 z.length c0 A s w (by omega) (by omega)
  by_cases h2 : (z.length : Int) - A < s
  · subst hv
    have e : getF z A s = (0, 0, 5) := by unfold getF; rw [if_neg h1, if_pos h2]
    rw [e]
    exact rget_end a0 z.length c0 A s w (by omega) (by omega) (by omega) (by omega) (by omega) h2
  obtain ⟨a, rfl⟩ : ∃ a : Nat, A = (a : Int) := ⟨A.toNat, by omega⟩
  have e : getF z a s = if bok ((z.drop a).take s) then (num ((z.drop a).take s), (a : Int) + s, 0) else (0, 0, 8) := by
    unfold getF; rw [if_neg h1, if_neg h2]; simp
  rcases hr with ⟨hv2, rfl⟩ | ⟨b, off, c, rfl, h3, h4, h5, h6⟩
  · have ha : a = 0 := by simp at h1; omega
    subst ha
    have hs0 : s = 0 := by simp at h2; omega
    subst hs0
    rw [e]
    rcases hv2 with rfl | ⟨x, c, rfl, hc⟩
    · exact rget_zero none 0 0 0 w (by unfold maxLen; omega) (Nat.le_refl _)
    · exact rget_zero (some x) 0 c 0 w (by unfold maxLen; omega) (Nat.le_refl _)
  · by_cases hs0 : s = 0
    · subst hs0
      rw [e]
      have := rget_zero (some ⟨b, off, none⟩) z.length c a w (by unfold maxLen; omega) (by omega)
      refine this.mono fun _ _ h => ⟨?_, h.2⟩
      rw [h.1]
      simp [T3, bok, num]
    · have := rget_room b off z.length c a s ((z.drop a).take s) w (by unfold maxLen; omega) s1 (by omega) (drop_take_len (by omega)) (fun x hx => hz x (List.mem_of_mem_drop (List.mem_of_mem_take hx))) (fun i hi => by
        have := h6 (a + i) (by omega)
        rw [this]
        simp [List.getD_eq_getElem?_getD, hi, List.getElem?_drop])
      refine this.mono fun _ _ h => ⟨?_, h.2⟩
      rw [e]
      rcases h.1 with ⟨h7, h8⟩ | ⟨h7, h8⟩
      · rw [h8, if_pos ((bok_iff _).2 h7)]; rfl
      · rw [h8, if_neg (fun h => h7 ((bok_iff _).1 h))]; rfl
end Go.Proofs.YteklahfgplbmcaaDoor.BkRf

/- What the document finds. -/
namespace Go.Proofs.YteklahfgplbmcaaDoor.BkRf
open Go Go.ChangeShapes Go.WideShapes Go.ChangeAt Go.RowKit Go.Proofs.YteklahfgplbmcaaDoor.Bk Go.Proofs.YteklahfgplbmcaaDoor.Bi Go.Proofs.YteklahfgplbmcaaDoor.Cr Go.Proofs.YteklahfgplbmcaaDoor.Fx

set_option maxRecDepth 100000 in
set_option maxHeartbeats 8000000 in
theorem rfound_bad (id : Nat) (a1 a2 : Option Addr) (c1 c2 : Nat) (a0 : Option Addr) (c0 : Nat) (z : List Int) (A : Int) (w : World)
    (hr : R8 w (.slice a0 z.length c0) z) (hz : ∀ x ∈ z, 0 ≤ x ∧ x ≤ 255) (hl : z.length ≤ 20000) (hbad : (zerosF z 10 0 A).2.2 ≠ 0) :
    Calls Tryd.prog 63 #[.agg #[.int .i64 (id : Int), .int .i64 (pl id : Int), .slice a1 (Nn id) c1, .slice a2 (Nn id) c2], .slice a0 z.length c0, .int .i64 A] w fun e w' => e = T3 (0, 0, (zerosF z 10 0 A).2.2) ∧ Below w.heap.size w w' := by
  have HB := Lib.hid (al w (.cells #[.int .i64 (id : Int), .int .i64 (pl id : Int), .slice a1 (Nn id) c1, .slice a2 (Nn id) c2] 24))
  have hzb := zerosF_bad hbad
  by_cases hA : A < 0 ∨ (z.length : Int) < A
  · have hg : getF z A 1 = (0, 0, 2) := by unfold getF; rw [if_pos hA]
    have hzf : (zerosF z 10 0 A).2.2 = 2 := by
      rw [show (10 : Nat) = 9 + 1 from rfl, zerosF, hg]; simp
    rw [hzf]
    clear hbad hzb hg hzf hr hz
    by_cases h0 : A < 0
    · clear hA
      go_enter Tryd.func63, Tryd.ntmps63
      go_wp2
      go_ret3
      exact ⟨rfl, HB.out⟩
    · have h3 : (z.length : Int) < A := by omega
      clear hA
      go_enter Tryd.func63, Tryd.ntmps63
      go_wp2
      go_ret3
      exact ⟨rfl, HB.out⟩
  · have hA0 : ¬ A < 0 := by omega
    have hA1 : ¬ (z.length : Int) < A := by omega
    have HG : Hid (∀ B, Calls Tryd.prog 88 #[.slice a0 z.length c0, .int .i64 B, .int .i64 1] (w.alloc (.cells #[.int .i64 (id : Int), .int .i64 (pl id : Int), .slice a1 (Nn id) c1, .slice a2 (Nn id) c2] 24)) fun e w' => e = .returned (.tuple #[.int .i64 (getF z B 1).1, .int .i64 (getF z B 1).2.1, .int .i64 (getF z B 1).2.2]) ∧ (w.alloc (.cells #[.int .i64 (id : Int), .int .i64 (pl id : Int), .slice a1 (Nn id) c1, .slice a2 (Nn id) c2] 24)) = w') := Lib.hid fun B => rget_all _ z B 1 _ (hr.below HB.out) hz hl (by omega)
    have HF : Hid (∀ (f m : Nat) (B : Int), zerosF z (f + 1) m B = if (getF z B 1).2.2 ≠ 0 then (0, 0, (getF z B 1).2.2) else if (getF z B 1).1 = 1 then ((m : Int), (getF z B 1).2.1, 0) else zerosF z f (m + 1) (getF z B 1).2.1) := Lib.hid fun f m B => rfl
    have H0 : Hid (∀ m B, zerosF z 0 m B = (0, 0, 8)) := Lib.hid fun m B => rfl
    obtain ⟨zf, hzf⟩ : ∃ zf, zerosF z 10 0 A = zf := ⟨_, rfl⟩
    rw [hzf] at hbad hzb ⊢
    have HR0 := Lib.hid hzf
    have HBD := Lib.hid hbad
    clear hzf hr hA hbad hzb
    generalize hW0 : w.alloc (.cells #[.int .i64 (id : Int), .int .i64 (pl id : Int), .slice a1 (Nn id) c1, .slice a2 (Nn id) c2] 24) = W0 at *
    go_enter Tryd.func63, Tryd.ntmps63
    go_wp2
    go_loop [2, 9] (fun at_ zs => ∃ (m : Nat) (B : Int), m ≤ 10 ∧ zs = .int .i64 m ∧ at_ = .int .i64 B ∧ Hid (zerosF z (10 - m) m B = zf)) (fun _ zs => 10 - (intOf zs).toNat)
    case atStart => exact ⟨0, A, by omega, rfl, rfl, HR0⟩
    case round =>
      obtain ⟨m, B, hm, rfl, rfl, hF⟩ := hrel
      by_cases hlt : m ≤ 9
      · have hF2 := hF.out
        rw [show 10 - m = (10 - (m + 1)) + 1 by omega, HF.out] at hF2
        obtain ⟨bit, nx, er, hg⟩ : ∃ bit nx er, getF z B 1 = (bit, nx, er) := ⟨_, _, _, rfl⟩
        have HGB := Lib.hid (HG.out B)
        rw [hg] at hF2 HGB
        by_cases he : er = 0
        · subst he
          rw [if_neg (by simp)] at hF2
          by_cases hb : bit = 1
          · subst hb
            rw [if_pos rfl] at hF2
            exact absurd (by rw [← hF2]) HBD.out
          · rw [if_neg hb] at hF2
            have HF2 := Lib.hid hF2
            have hbe : (bit == 1) = false := by simp [hb]
            clear hF2 hF HG HF H0 hg HR0
            go_wp2_with (go_at_call 88; ((with_reducible refine (HGB.out).mono ?_); rintro e w1 ⟨rfl, rfl⟩))
            go_round
            case rel => exact ⟨m + 1, nx, by omega, by go_num, rfl, HF2⟩
            case measure => simp [intOf]; omega
        · rw [if_pos he] at hF2
          have HF2 := Lib.hid hF2
          have hee : (er == 0) = false := by simp [he]
          clear hF2 hF HG HF H0 hg HR0
          go_wp2_with (go_at_call 88; ((with_reducible refine (HGB.out).mono ?_); rintro e w1 ⟨rfl, rfl⟩))
          go_ret3
          exact ⟨by rw [← HF2.out]; rfl, HB.out⟩
      · have hend : m = 10 := by omega
        subst hend
        have hF2 := hF.out
        rw [Nat.sub_self, H0.out] at hF2
        have HF2 := Lib.hid hF2
        clear hF2 hF HG HF H0 HR0
        go_wp2
        go_ret3
        exact ⟨by rw [← HF2.out]; rfl, HB.out⟩

set_option maxRecDepth 100000 in
set_option maxHeartbeats 8000000 in
theorem rfound_good (id : Nat) (a1 a2 : Option Addr) (c1 c2 : Nat) (a0 : Option Addr) (c0 : Nat) (z : List Int) (A : Int) (w : World) (h1 : 1 ≤ id) (h2 : id ≤ 12) (hE : RdA w a1 (zi (ord id)))
    (hr : R8 w (.slice a0 z.length c0) z) (hz : ∀ x ∈ z, 0 ≤ x ∧ x ≤ 255) (hl : z.length ≤ 20000) (m0 : Nat) (n1 : Int) (hm0 : m0 ≤ 9) (hzz : zerosF z 10 0 A = ((m0 : Int), n1, 0)) :
    Calls Tryd.prog 63 #[.agg #[.int .i64 (id : Int), .int .i64 (pl id : Int), .slice a1 (Nn id) c1, .slice a2 (Nn id) c2], .slice a0 z.length c0, .int .i64 A] w fun e w' => e = T3 (readF (ord id) (pl id) z A) ∧ Below w.heap.size w w' := by
  have HB := Lib.hid (al w (.cells #[.int .i64 (id : Int), .int .i64 (pl id : Int), .slice a1 (Nn id) c1, .slice a2 (Nn id) c2] 24))
  have HX := Lib.hid (fun x h => bx1 (w := w) (a := .int .i64 (id : Int)) (b := .int .i64 (pl id : Int)) (c := .slice a1 (Nn id) c1) (d := .slice a2 (Nn id) c2) (x := x) h)
  obtain ⟨k0, k1, k2, k3⟩ := HX.out _ (Below.refl _ _)
  have f6 : pl id ≤ 2 := (facts h1 h2).2.2.2.2.2.1
  have hA : ¬ (A < 0 ∨ (z.length : Int) < A) := fun hA => by
    have hg : getF z A 1 = (0, 0, 2) := by unfold getF; rw [if_pos hA]
    have hzf : (zerosF z 10 0 A).2.2 = 2 := by
      rw [show (10 : Nat) = 9 + 1 from rfl, zerosF, hg]; simp
    rw [hzz] at hzf
    simp at hzf
  have hA0 : ¬ A < 0 := by omega
  have hA1 : ¬ (z.length : Int) < A := by omega
  have HG : Hid (∀ B, Calls Tryd.prog 88 #[.slice a0 z.length c0, .int .i64 B, .int .i64 1] (w.alloc (.cells #[.int .i64 (id : Int), .int .i64 (pl id : Int), .slice a1 (Nn id) c1, .slice a2 (Nn id) c2] 24)) fun e w' => e = .returned (.tuple #[.int .i64 (getF z B 1).1, .int .i64 (getF z B 1).2.1, .int .i64 (getF z B 1).2.2]) ∧ (w.alloc (.cells #[.int .i64 (id : Int), .int .i64 (pl id : Int), .slice a1 (Nn id) c1, .slice a2 (Nn id) c2] 24)) = w') := Lib.hid fun B => rget_all _ z B 1 _ (hr.below HB.out) hz hl (by omega)
  have HF : Hid (∀ (f m : Nat) (B : Int), zerosF z (f + 1) m B = if (getF z B 1).2.2 ≠ 0 then (0, 0, (getF z B 1).2.2) else if (getF z B 1).1 = 1 then ((m : Int), (getF z B 1).2.1, 0) else zerosF z f (m + 1) (getF z B 1).2.1) := Lib.hid fun f m B => rfl
  have H0 : Hid (∀ m B, zerosF z 0 m B = (0, 0, 8)) := Lib.hid fun m B => rfl
  have HR0 := Lib.hid hzz
  have HG1 : Hid (Calls Tryd.prog 88 #[.slice a0 z.length c0, .int .i64 n1, .int .i64 (m0 : Int)] (w.alloc (.cells #[.int .i64 (id : Int), .int .i64 (pl id : Int), .slice a1 (Nn id) c1, .slice a2 (Nn id) c2] 24)) fun e w' => e = .returned (.tuple #[.int .i64 (getF z n1 m0).1, .int .i64 (getF z n1 m0).2.1, .int .i64 (getF z n1 m0).2.2]) ∧ (w.alloc (.cells #[.int .i64 (id : Int), .int .i64 (pl id : Int), .slice a1 (Nn id) c1, .slice a2 (Nn id) c2] 24)) = w') := Lib.hid (rget_all _ z n1 m0 _ (hr.below HB.out) hz hl (by omega))
  have hn1 := getF_num (z := z) (A := n1) (s := m0)
  obtain ⟨lo, n2, e2, hg1⟩ : ∃ lo n2 e2, getF z n1 m0 = (lo, n2, e2) := ⟨_, _, _, rfl⟩
  rw [hg1] at HG1 hn1
  by_cases he2 : e2 = 0
  · subst he2
    have HG2 : Hid (Calls Tryd.prog 88 #[.slice a0 z.length c0, .int .i64 n2, .int .i64 (pl id : Int)] (w.alloc (.cells #[.int .i64 (id : Int), .int .i64 (pl id : Int), .slice a1 (Nn id) c1, .slice a2 (Nn id) c2] 24)) fun e w' => e = .returned (.tuple #[.int .i64 (getF z n2 (pl id)).1, .int .i64 (getF z n2 (pl id)).2.1, .int .i64 (getF z n2 (pl id)).2.2]) ∧ (w.alloc (.cells #[.int .i64 (id : Int), .int .i64 (pl id : Int), .slice a1 (Nn id) c1, .slice a2 (Nn id) c2] 24)) = w') := Lib.hid (rget_all _ z n2 (pl id) _ (hr.below HB.out) hz hl (by omega))
    have hn2 := getF_num (z := z) (A := n2) (s := pl id)
    obtain ⟨p, n3, e3, hg2⟩ : ∃ p n3 e3, getF z n2 (pl id) = (p, n3, e3) := ⟨_, _, _, rfl⟩
    rw [hg2] at HG2 hn2
    by_cases he3 : e3 = 0
    · subst he3
      have hord := (ord_is h1 h2).length
      have hres : readF (ord id) (pl id) z A = if ((ord id).length : Int) ≤ (2 ^ m0 + lo - 1) * 2 ^ pl id + p then (0, 0, 8) else ((((ord id).getD ((2 ^ m0 + lo - 1) * 2 ^ pl id + p).toNat 0 : Nat) : Int), n3, 0) := by
        unfold readF; simp [hzz, hg1, hg2]
      rw [hres, hord]
      obtain ⟨l0, l1⟩ := hn1 rfl
      obtain ⟨p0, p1⟩ := hn2 rfl
      simp only at l0 l1 p0 p1
      have HT1 := Lib.hid (fun w => two_ok m0 w (by omega))
      have HT2 := Lib.hid (fun w => two_ok (pl id) w (by omega))
      have q1 := (pow_b (Nat.le_refl m0)).1
      have q2 := (pow_b (n := m0) (k := 9) (by omega)).2
      have q3 := (pow_b f6).1
      have q4 := (pow_b (k := 2) f6).2
      obtain ⟨P, hP⟩ : ∃ P : Int, (2 : Int) ^ m0 = P := ⟨_, rfl⟩
      obtain ⟨Q, hQ⟩ : ∃ Q : Int, (2 : Int) ^ pl id = Q := ⟨_, rfl⟩
      rw [hP] at HT1 l1 q1 q2 ⊢
      rw [hQ] at HT2 p1 q3 q4 ⊢
      have e9 : ((2 ^ 9 : Nat) : Int) = 512 := rfl
      have e22 : ((2 ^ 2 : Nat) : Int) = 4 := rfl
      rw [e9] at q2
      rw [e22] at q4
      have b0 : 0 ≤ (P + lo - 1) * Q := Int.mul_nonneg (by omega) (by omega)
      have b1 : (P + lo - 1) * Q ≤ 1023 * 4 := Int.mul_le_mul (by omega) (by omega) (by omega) (by decide)
      obtain ⟨M, hM⟩ : ∃ M, (P + lo - 1) * Q = M := ⟨_, rfl⟩
      rw [hM] at b0 b1 ⊢
      have x1 : IntKind.i64.wrap (P + lo) = P + lo := by rw [IntKind.wrap_i64]; omega
      have x2 : IntKind.i64.wrap (P + lo - 1) = P + lo - 1 := by rw [IntKind.wrap_i64]; omega
      have x3 : IntKind.i64.wrap ((P + lo - 1) * Q) = M := by rw [hM, IntKind.wrap_i64]; omega
      have x4 : IntKind.i64.wrap (M + p) = M + p := by rw [IntKind.wrap_i64]; omega
      have HE := Lib.hid hE
      clear hres hzz hg1 hg2 hn1 hn2 hE hr hA hP hQ hM e9 e22
      by_cases hge : ((Nn id : Nat) : Int) ≤ M + p
      · rw [if_pos hge]
        clear HE h1 h2 hord
        generalize hW0 : (w.alloc (.cells #[.int .i64 (id : Int), .int .i64 (pl id : Int), .slice a1 (Nn id) c1, .slice a2 (Nn id) c2] 24)) = W0 at *
        go_enter Tryd.func63, Tryd.ntmps63
        go_wp2
        go_loop [2, 9] (fun at_ zs => ∃ (m : Nat) (B : Int), m ≤ 10 ∧ zs = .int .i64 m ∧ at_ = .int .i64 B ∧ Hid (zerosF z (10 - m) m B = ((m0 : Int), n1, 0))) (fun _ zs => 10 - (intOf zs).toNat)
        case atStart => exact ⟨0, A, by omega, rfl, rfl, HR0⟩
        case round =>
          obtain ⟨m, B, hm, rfl, rfl, hF⟩ := hrel
          by_cases hlt : m ≤ 9
          · have hF2 := hF.out
            rw [show 10 - m = (10 - (m + 1)) + 1 by omega, HF.out] at hF2
            obtain ⟨bit, nx, er, hg⟩ : ∃ bit nx er, getF z B 1 = (bit, nx, er) := ⟨_, _, _, rfl⟩
            have HGB := Lib.hid (HG.out B)
            rw [hg] at hF2 HGB
            by_cases he : er = 0
            · subst he
              rw [if_neg (by simp)] at hF2
              by_cases hb : bit = 1
              · subst hb
                rw [if_pos rfl] at hF2
                simp only [Prod.mk.injEq] at hF2
                obtain ⟨e1, e2', _⟩ := hF2
                have e3' : m = m0 := by omega
                subst e3'
                subst e2'
                clear hF HG HF H0 hg HR0 e1
                have KP : Hid (∀ W, Below W0.heap.size W0 W → W.cell? ⟨w.heap.size, 1, none⟩ = some (.int .i64 (pl id : Int)) ∧ Below W0.heap.size W0 W) := Lib.hid fun W h => ⟨(HX.out W h).2.1, h⟩
                go_upto_region 18 with first
                  | (go_at_call 88; ((with_reducible refine (HGB.out).mono ?_); rintro e w1 ⟨rfl, rfl⟩))
                  | (go_at_call 88; ((with_reducible refine (HG1.out).mono ?_); rintro e w2 ⟨rfl, rfl⟩))
                  | (go_at_call 88; ((with_reducible refine (HG2.out).mono ?_); rintro e w3 ⟨rfl, rfl⟩))
                go_region_held3 (fun W => W.cell? ⟨w.heap.size, 1, none⟩ = some (.int .i64 (pl id : Int)) ∧ Below W0.heap.size W0 W) (first | with_reducible assumption | exact KP.out _ (by first | exact Below.refl _ _ | exact (Below.refl _ _).drew))
                  (first
                    | (go_at_call 85; ((with_reducible refine (HT1.out _).mono ?_); rintro e w5 ⟨rfl, rfl⟩))
                    | (go_at_call 85; ((with_reducible refine (HT2.out _).mono ?_); rintro e w6 ⟨rfl, rfl⟩)))
                all_goals
                  rename_i hS
                  obtain ⟨y0, y1, y2, y3⟩ := HX.out _ hS.2
                  have BF := Lib.hid (bT HB.out hS.2)
                  go_wp2
                  go_ret3
                  exact ⟨rfl, BF.out⟩
              · rw [if_neg hb] at hF2
                have HF2 := Lib.hid hF2
                have hbe : (bit == 1) = false := by simp [hb]
                clear hF2 hF HG HF H0 hg HR0
                go_wp2_with (go_at_call 88; ((with_reducible refine (HGB.out).mono ?_); rintro e w1 ⟨rfl, rfl⟩))
                go_round
                case rel => exact ⟨m + 1, nx, by omega, by go_num, rfl, HF2⟩
                case measure => simp [intOf]; omega
            · rw [if_pos he] at hF2
              exact absurd (congrArg (fun x => x.2.2) hF2) (by simpa using he)
          · have hend : m = 10 := by omega
            subst hend
            have hF2 := hF.out
            rw [Nat.sub_self, H0.out] at hF2
            simp at hF2
      · rw [if_neg hge]
        obtain ⟨r, hrk⟩ : ∃ r : Nat, M + p = (r : Int) := ⟨(M + p).toNat, by omega⟩
        rw [hrk] at hge ⊢
        have x5 : IntKind.i64.wrap (M + p) = (r : Int) := x4.trans hrk
        clear x4
        have hrn : r < Nn id := by omega
        obtain ⟨b, off, ea, hElt, ceA⟩ := HE.out r (by rw [zi_len, hord]; exact hrn)
        subst ea
        rw [zi_getD] at ceA
        rw [Int.toNat_natCast]
        generalize (ord id).getD r 0 = en at *
        have hr0 : (0 : Int) ≤ (r : Int) := Int.natCast_nonneg _
        have hrI : (r : Int) < ((Nn id : Nat) : Int) := by omega
        have KR : Hid (∀ W, Below w.heap.size w W → W.cell? ⟨b, off + r, none⟩ = some (.int .i64 en)) := Lib.hid fun W h => (h.cell (p := ⟨b, off + r, none⟩) hElt).trans ceA
        clear HE h1 h2 hord ceA hElt
        generalize hW0 : (w.alloc (.cells #[.int .i64 (id : Int), .int .i64 (pl id : Int), .slice (some ⟨b, off, none⟩) (Nn id) c1, .slice a2 (Nn id) c2] 24)) = W0 at *
        go_enter Tryd.func63, Tryd.ntmps63
        go_wp2
        go_loop [2, 9] (fun at_ zs => ∃ (m : Nat) (B : Int), m ≤ 10 ∧ zs = .int .i64 m ∧ at_ = .int .i64 B ∧ Hid (zerosF z (10 - m) m B = ((m0 : Int), n1, 0))) (fun _ zs => 10 - (intOf zs).toNat)
        case atStart => exact ⟨0, A, by omega, rfl, rfl, HR0⟩
        case round =>
          obtain ⟨m, B, hm, rfl, rfl, hF⟩ := hrel
          by_cases hlt : m ≤ 9
          · have hF2 := hF.out
            rw [show 10 - m = (10 - (m + 1)) + 1 by omega, HF.out] at hF2
            obtain ⟨bit, nx, er, hg⟩ : ∃ bit nx er, getF z B 1 = (bit, nx, er) := ⟨_, _, _, rfl⟩
            have HGB := Lib.hid (HG.out B)
            rw [hg] at hF2 HGB
            by_cases he : er = 0
            · subst he
              rw [if_neg (by simp)] at hF2
              by_cases hb : bit = 1
              · subst hb
                rw [if_pos rfl] at hF2
                simp only [Prod.mk.injEq] at hF2
                obtain ⟨e1, e2', _⟩ := hF2
                have e3' : m = m0 := by omega
                subst e3'
                subst e2'
                clear hF HG HF H0 hg HR0 e1
                have KP : Hid (∀ W, Below W0.heap.size W0 W → W.cell? ⟨w.heap.size, 1, none⟩ = some (.int .i64 (pl id : Int)) ∧ Below W0.heap.size W0 W) := Lib.hid fun W h => ⟨(HX.out W h).2.1, h⟩
                go_upto_region 18 with first
                  | (go_at_call 88; ((with_reducible refine (HGB.out).mono ?_); rintro e w1 ⟨rfl, rfl⟩))
                  | (go_at_call 88; ((with_reducible refine (HG1.out).mono ?_); rintro e w2 ⟨rfl, rfl⟩))
                  | (go_at_call 88; ((with_reducible refine (HG2.out).mono ?_); rintro e w3 ⟨rfl, rfl⟩))
                go_region_held3 (fun W => W.cell? ⟨w.heap.size, 1, none⟩ = some (.int .i64 (pl id : Int)) ∧ Below W0.heap.size W0 W) (first | with_reducible assumption | exact KP.out _ (by first | exact Below.refl _ _ | exact (Below.refl _ _).drew))
                  (first
                    | (go_at_call 85; ((with_reducible refine (HT1.out _).mono ?_); rintro e w5 ⟨rfl, rfl⟩))
                    | (go_at_call 85; ((with_reducible refine (HT2.out _).mono ?_); rintro e w6 ⟨rfl, rfl⟩)))
                all_goals
                  rename_i hS
                  obtain ⟨y0, y1, y2, y3⟩ := HX.out _ hS.2
                  have BF := Lib.hid (bT HB.out hS.2)
                  have y4 := KR.out _ BF.out
                  go_wp2
                  go_ret3
                  exact ⟨rfl, BF.out⟩
              · rw [if_neg hb] at hF2
                have HF2 := Lib.hid hF2
                have hbe : (bit == 1) = false := by simp [hb]
                clear hF2 hF HG HF H0 hg HR0
                go_wp2_with (go_at_call 88; ((with_reducible refine (HGB.out).mono ?_); rintro e w1 ⟨rfl, rfl⟩))
                go_round
                case rel => exact ⟨m + 1, nx, by omega, by go_num, rfl, HF2⟩
                case measure => simp [intOf]; omega
            · rw [if_pos he] at hF2
              exact absurd (congrArg (fun x => x.2.2) hF2) (by simpa using he)
          · have hend : m = 10 := by omega
            subst hend
            have hF2 := hF.out
            rw [Nat.sub_self, H0.out] at hF2
            simp at hF2
    · have hres : readF (ord id) (pl id) z A = (0, 0, e3) := by
        unfold readF; simp [hzz, hg1, hg2, he3]
      rw [hres]
      have hee3 : (e3 == 0) = false := by simp [he3]
      clear hres hzz hg1 hg2 hn1 hn2 hE hr hA h1 h2
      generalize hW0 : (w.alloc (.cells #[.int .i64 (id : Int), .int .i64 (pl id : Int), .slice a1 (Nn id) c1, .slice a2 (Nn id) c2] 24)) = W0 at *
      go_enter Tryd.func63, Tryd.ntmps63
      go_wp2
      go_loop [2, 9] (fun at_ zs => ∃ (m : Nat) (B : Int), m ≤ 10 ∧ zs = .int .i64 m ∧ at_ = .int .i64 B ∧ Hid (zerosF z (10 - m) m B = ((m0 : Int), n1, 0))) (fun _ zs => 10 - (intOf zs).toNat)
      case atStart => exact ⟨0, A, by omega, rfl, rfl, HR0⟩
      case round =>
        obtain ⟨m, B, hm, rfl, rfl, hF⟩ := hrel
        by_cases hlt : m ≤ 9
        · have hF2 := hF.out
          rw [show 10 - m = (10 - (m + 1)) + 1 by omega, HF.out] at hF2
          obtain ⟨bit, nx, er, hg⟩ : ∃ bit nx er, getF z B 1 = (bit, nx, er) := ⟨_, _, _, rfl⟩
          have HGB := Lib.hid (HG.out B)
          rw [hg] at hF2 HGB
          by_cases he : er = 0
          · subst he
            rw [if_neg (by simp)] at hF2
            by_cases hb : bit = 1
            · subst hb
              rw [if_pos rfl] at hF2
              simp only [Prod.mk.injEq] at hF2
              obtain ⟨e1, e2', _⟩ := hF2
              have e3' : m = m0 := by omega
              subst e3'
              subst e2'
              clear hF HG HF H0 hg HR0 e1
              go_wp2_with first
                | (go_at_call 88; ((with_reducible refine (HGB.out).mono ?_); rintro e w1 ⟨rfl, rfl⟩))
                | (go_at_call 88; ((with_reducible refine (HG1.out).mono ?_); rintro e w2 ⟨rfl, rfl⟩))
                | (go_at_call 88; ((with_reducible refine (HG2.out).mono ?_); rintro e w3 ⟨rfl, rfl⟩))
              go_ret3
              exact ⟨rfl, HB.out⟩
            · rw [if_neg hb] at hF2
              have HF2 := Lib.hid hF2
              have hbe : (bit == 1) = false := by simp [hb]
              clear hF2 hF HG HF H0 hg HR0
              go_wp2_with (go_at_call 88; ((with_reducible refine (HGB.out).mono ?_); rintro e w1 ⟨rfl, rfl⟩))
              go_round
              case rel => exact ⟨m + 1, nx, by omega, by go_num, rfl, HF2⟩
              case measure => simp [intOf]; omega
          · rw [if_pos he] at hF2
            exact absurd (congrArg (fun x => x.2.2) hF2) (by simpa using he)
        · have hend : m = 10 := by omega
          subst hend
          have hF2 := hF.out
          rw [Nat.sub_self, H0.out] at hF2
          simp at hF2
  · have hres : readF (ord id) (pl id) z A = (0, 0, e2) := by
      unfold readF; simp [hzz, hg1, he2]
    rw [hres]
    have hee2 : (e2 == 0) = false := by simp [he2]
    clear hres hzz hg1 hn1 hE hr hA h1 h2
    generalize hW0 : (w.alloc (.cells #[.int .i64 (id : Int), .int .i64 (pl id : Int), .slice a1 (Nn id) c1, .slice a2 (Nn id) c2] 24)) = W0 at *
    go_enter Tryd.func63, Tryd.ntmps63
    go_wp2
    go_loop [2, 9] (fun at_ zs => ∃ (m : Nat) (B : Int), m ≤ 10 ∧ zs = .int .i64 m ∧ at_ = .int .i64 B ∧ Hid (zerosF z (10 - m) m B = ((m0 : Int), n1, 0))) (fun _ zs => 10 - (intOf zs).toNat)
    case atStart => exact ⟨0, A, by omega, rfl, rfl, HR0⟩
    case round =>
      obtain ⟨m, B, hm, rfl, rfl, hF⟩ := hrel
      by_cases hlt : m ≤ 9
      · have hF2 := hF.out
        rw [show 10 - m = (10 - (m + 1)) + 1 by omega, HF.out] at hF2
        obtain ⟨bit, nx, er, hg⟩ : ∃ bit nx er, getF z B 1 = (bit, nx, er) := ⟨_, _, _, rfl⟩
        have HGB := Lib.hid (HG.out B)
        rw [hg] at hF2 HGB
        by_cases he : er = 0
        · subst he
          rw [if_neg (by simp)] at hF2
          by_cases hb : bit = 1
          · subst hb
            rw [if_pos rfl] at hF2
            simp only [Prod.mk.injEq] at hF2
            obtain ⟨e1, e2', _⟩ := hF2
            have e3' : m = m0 := by omega
            subst e3'
            subst e2'
            clear hF HG HF H0 hg HR0 e1
            go_wp2_with first
              | (go_at_call 88; ((with_reducible refine (HGB.out).mono ?_); rintro e w1 ⟨rfl, rfl⟩))
              | (go_at_call 88; ((with_reducible refine (HG1.out).mono ?_); rintro e w2 ⟨rfl, rfl⟩))
            go_ret3
            exact ⟨rfl, HB.out⟩
          · rw [if_neg hb] at hF2
            have HF2 := Lib.hid hF2
            have hbe : (bit == 1) = false := by simp [hb]
            clear hF2 hF HG HF H0 hg HR0
            go_wp2_with (go_at_call 88; ((with_reducible refine (HGB.out).mono ?_); rintro e w1 ⟨rfl, rfl⟩))
            go_round
            case rel => exact ⟨m + 1, nx, by omega, by go_num, rfl, HF2⟩
            case measure => simp [intOf]; omega
        · rw [if_pos he] at hF2
          exact absurd (congrArg (fun x => x.2.2) hF2) (by simpa using he)
      · have hend : m = 10 := by omega
        subst hend
        have hF2 := hF.out
        rw [Nat.sub_self, H0.out] at hF2
        simp at hF2
end Go.Proofs.YteklahfgplbmcaaDoor.BkRf

/- What is read by whatever book. -/
namespace Go.Proofs.YteklahfgplbmcaaDoor.BkRf
open Go Go.ChangeShapes Go.WideShapes Go.ChangeAt Go.RowKit Go.Proofs.YteklahfgplbmcaaDoor.Bk Go.Proofs.YteklahfgplbmcaaDoor.Bi Go.Proofs.YteklahfgplbmcaaDoor.Cr Go.Proofs.YteklahfgplbmcaaDoor.Fx

noncomputable def rdF (i p : Int) (A B : List Int) (z : List Int) (at' : Int) : Int × Int × Int := if IsBk i p A B then readF (ord i.toNat) (pl i.toNat) z at' else (0, 0, 8)
set_option maxRecDepth 100000 in
set_option maxHeartbeats 4000000 in
theorem pread_any (i p at' : Int) (a1 a2 : Option Addr) (c1 c2 : Nat) (A B : List Int) (v : Value) (z : List Int) (w : World) (hs : Sh w) (r1 : Rd w (.slice a1 A.length c1) A) (r2 : Rd w (.slice a2 B.length c2) B) (hv : R8 w v z) (hz : ∀ x ∈ z, 0 ≤ x ∧ x ≤ 255) (hl : z.length ≤ 20000) :
    Calls Tryd.prog 17 #[.agg #[.int .i64 i, .int .i64 p, .slice a1 A.length c1, .slice a2 B.length c2], v, .int .i64 at'] w fun e w' => e = T3 (rdF i p A B z at') ∧ Below w.heap.size w w' := by
  unfold rdF
  by_cases hk : IsBk i p A B
  · rw [if_pos hk]
    have hk2 := hk
    obtain ⟨id, rfl, h1, h2, rfl, hA, hB⟩ := hk
    obtain ⟨lA, lB, _⟩ := isbk_len hk2
    have HM := fun x (h : Below w.heap.size w x) (hs : Sh x) => gen_any id (pl id) a1 a2 c1 c2 A B x hs (rd_RdA (r1.below h)) (rd_RdA (r2.below h))
    rw [decide_eq_true hk2, lA, lB] at HM
    rw [Int.toNat_natCast]
    have hE : RdA w a1 (zi (ord id)) := hA ▸ rd_RdA r1
    rw [lA, lB]
    exact pread_ok id a1 a2 c1 c2 v z at' w h1 h2 hs hE HM hv hz hl
  · rw [if_neg hk]
    have hb := al w (.cells #[.int .i64 i, .int .i64 p, .slice a1 A.length c1, .slice a2 B.length c2] 24)
    have HB := Lib.hid hb
    have hsA := Lib.hid (hs.below hb)
    have HM := Lib.hid (fun x (h : Below w.heap.size w x) (hs : Sh x) => gen_any i p a1 a2 c1 c2 A B x hs (rd_RdA (r1.below h)) (rd_RdA (r2.below h)))
    rw [decide_eq_false hk] at HM
    obtain ⟨p0, p1, p2, p3⟩ := bx1 (w := w) (a := .int .i64 i) (b := .int .i64 p) (c := .slice a1 A.length c1) (d := .slice a2 B.length c2) (Below.refl _ _)
    clear hk r1 r2 hs hb hv hz hl
    go_enter Tryd.func17, Tryd.ntmps17
    go_wp2_with (go_at_call 49; ((with_reducible refine (HM.out _ HB.out hsA.out).mono ?_); rintro e w1 ⟨rfl, hb1⟩; have hb2 := Lib.hid (bT HB.out hb1); clear hb1))
    go_ret3
    exact ⟨rfl, hb2.out⟩
theorem rfound_any (id : Nat) (a1 a2 : Option Addr) (c1 c2 : Nat) (a0 : Option Addr) (c0 : Nat) (z : List Int) (A : Int) (w : World) (h1 : 1 ≤ id) (h2 : id ≤ 12) (hE : RdA w a1 (zi (ord id)))
    (hr : R8 w (.slice a0 z.length c0) z) (hz : ∀ x ∈ z, 0 ≤ x ∧ x ≤ 255) (hl : z.length ≤ 20000) :
    Calls Tryd.prog 63 #[.agg #[.int .i64 (id : Int), .int .i64 (pl id : Int), .slice a1 (Nn id) c1, .slice a2 (Nn id) c2], .slice a0 z.length c0, .int .i64 A] w fun e w' => e = T3 (readF (ord id) (pl id) z A) ∧ Below w.heap.size w w' := by
  by_cases hb : (zerosF z 10 0 A).2.2 = 0
  · obtain ⟨j, hj, hj2⟩ := zeros_le hb
    refine rfound_good id a1 a2 c1 c2 a0 c0 z A w h1 h2 hE hr hz hl j (zerosF z 10 0 A).2.1 (by omega) ?_
    rw [← hj, ← hb]
  · have hres : readF (ord id) (pl id) z A = (0, 0, (zerosF z 10 0 A).2.2) := by
      unfold readF; simp [hb]
    rw [hres]
    exact rfound_bad id a1 a2 c1 c2 a0 c0 z A w hr hz hl hb
set_option maxRecDepth 100000 in
set_option maxHeartbeats 4000000 in
theorem rread_any (i p at' : Int) (a1 a2 : Option Addr) (c1 c2 : Nat) (A B : List Int) (a0 : Option Addr) (c0 : Nat) (z : List Int) (w : World) (hA : A.length ≤ maxLen) (hB : B.length ≤ maxLen) (r1 : Rd w (.slice a1 A.length c1) A) (r2 : Rd w (.slice a2 B.length c2) B) (hv : R8 w (.slice a0 z.length c0) z) (hz : ∀ x ∈ z, 0 ≤ x ∧ x ≤ 255) (hl : z.length ≤ 20000) :
    Calls Tryd.prog 28 #[.agg #[.int .i64 i, .int .i64 p, .slice a1 A.length c1, .slice a2 B.length c2], .slice a0 z.length c0, .int .i64 at'] w fun e w' => e = T3 (rdF i p A B z at') ∧ Below w.heap.size w w' := by
  have HB := Lib.hid (al w (.cells #[.int .i64 i, .int .i64 p, .slice a1 A.length c1, .slice a2 B.length c2] 24))
  have HM := Lib.hid (fun x (h : Below w.heap.size w x) => may_any i p (.slice a1 A.length c1) (.slice a2 B.length c2) A B x hA hB (r1.below h) (r2.below h))
  have HX := Lib.hid (fun x h => bx1 (w := w) (a := .int .i64 i) (b := .int .i64 p) (c := .slice a1 A.length c1) (d := .slice a2 B.length c2) (x := x) h)
  obtain ⟨p0, p1, p2, p3⟩ := HX.out _ (Below.refl _ _)
  unfold rdF
  by_cases hk : IsBk i p A B
  · rw [if_pos hk]
    rw [decide_eq_true hk] at HM
    have H63 : Hid (∀ x, Below w.heap.size w x → Calls Tryd.prog 63 #[.agg #[.int .i64 i, .int .i64 p, .slice a1 A.length c1, .slice a2 B.length c2], .slice a0 z.length c0, .int .i64 at'] x fun e w' => e = T3 (readF (ord i.toNat) (pl i.toNat) z at') ∧ Below x.heap.size x w') := Lib.hid fun x h => by
      obtain ⟨lA, lB, _⟩ : A.length = Nn i.toNat ∧ B.length = Nn i.toNat ∧ True := by
        obtain ⟨id, rfl, h1, h2, rfl, rfl, rfl⟩ := hk
        rw [Int.toNat_natCast]
        exact ⟨by rw [zi_len, ord_len h1 h2], rkL_len id, trivial⟩
      have hE := rd_RdA (r1.below h)
      rw [lA, lB]
      obtain ⟨id, rfl, h1, h2, rfl, rfl, rfl⟩ := hk
      rw [Int.toNat_natCast]
      exact rfound_any id a1 a2 c1 c2 a0 c0 z at' x h1 h2 hE (hv.below h) hz hl
    obtain ⟨y, hy⟩ : ∃ y, readF (ord i.toNat) (pl i.toNat) z at' = y := ⟨_, rfl⟩
    rw [hy] at H63 ⊢
    obtain ⟨y1, y2, y3⟩ := y
    clear hk r1 r2 hv hz hl hA hB hy
    go_enter Tryd.func28, Tryd.ntmps28
    go_wp2_with first
      | (go_at_call 61; ((with_reducible refine (HM.out _ HB.out).mono ?_); rintro e w1 ⟨rfl, hb1⟩; have hb2 := Lib.hid (bT HB.out hb1); clear p0 p1 p2 p3; obtain ⟨p0, p1, p2, p3⟩ := HX.out w1 hb1; clear hb1))
      | (go_at_call 63; ((with_reducible refine (H63.out _ hb2.out).mono ?_); rintro e w2 ⟨rfl, hb3⟩; simp only [T3]; have hb4 := Lib.hid (bT hb2.out hb3); clear hb3))
    go_ret3
    exact ⟨rfl, hb4.out⟩
  · rw [if_neg hk]
    rw [decide_eq_false hk] at HM
    clear hk r1 r2 hv hz hl hA hB
    go_enter Tryd.func28, Tryd.ntmps28
    go_wp2_with (go_at_call 61; ((with_reducible refine (HM.out _ HB.out).mono ?_); rintro e w1 ⟨rfl, hb1⟩; have hb2 := Lib.hid (bT HB.out hb1); clear hb1))
    go_ret3
    exact ⟨rfl, hb2.out⟩
end Go.Proofs.YteklahfgplbmcaaDoor.BkRf

/- What values are put as by a book, and how they are got, plain. -/
namespace Go.Proofs.YteklahfgplbmcaaDoor.Hf
open Go.Proofs.YteklahfgplbmcaaDoor.Bk Go.Proofs.YteklahfgplbmcaaDoor.Bi Go.Proofs.YteklahfgplbmcaaDoor.Cr

def lim (id : Nat) : Int := [0,1,1,2,2,4,4,7,7,12,12,8191].getD id 0
def sgd (i : Int) : Bool := i == 1 || i == 2 || i == 5 || i == 6
def sg1 (v : Int) : List Int := if v < 0 then [1] else if 0 < v then [0] else []
def sgn (zs : List Int) : List Int := zs.flatMap sg1
def es1 (v : Int) : List Int := if v.natAbs < 16 then [] else List.replicate (dg v.natAbs - 1 - 4) 1 ++ 0 :: bi ((v.natAbs - 2 ^ (dg v.natAbs - 1) : Nat) : Int) (dg v.natAbs - 1)
def esc (zs : List Int) : List Int := zs.flatMap es1
def sz1 (i : Int) (v : Int) : Int := if i = 11 then ((min v.natAbs 16 : Nat) : Int) else (v.natAbs : Int)
def tld (i : Int) (zs : List Int) : List Int := if sgd i then zs else zs.map (sz1 i)
def fitB (i : Int) (zs : List Int) : Bool := zs.all fun v => decide (-lim i.toNat ≤ v) && decide (v ≤ lim i.toNat)
def eX (i : Int) (zs : List Int) : Int := if i < 1 ∨ 11 < i then 2 else if zs.length ≠ dm i.toNat then 4 else if fitB i zs then 0 else 2
theorem eX_ok {i : Int} {zs : List Int} (h : eX i zs = 0) : ∃ id : Nat, i = id ∧ 1 ≤ id ∧ id ≤ 11 ∧ zs.length = dm id ∧ ∀ v ∈ zs, -lim id ≤ v ∧ v ≤ lim id := by
  unfold eX at h
  by_cases h1 : i < 1 ∨ 11 < i
  · rw [if_pos h1] at h; simp at h
  rw [if_neg h1] at h
  by_cases h2 : zs.length = dm i.toNat
  case neg => rw [if_pos h2] at h; simp at h
  rw [if_neg (by simp [h2])] at h
  by_cases h3 : fitB i zs = true
  case neg => rw [if_neg h3] at h; simp at h
  refine ⟨i.toNat, by omega, by omega, by omega, h2, fun v hv => ?_⟩
  have := List.all_eq_true.1 h3 v hv
  simp at this
  exact this
theorem eX_is {id : Nat} {zs : List Int} (h1 : 1 ≤ id) (h2 : id ≤ 11) (hl : zs.length = dm id) (hb : ∀ v ∈ zs, -lim id ≤ v ∧ v ≤ lim id) : eX id zs = 0 := by
  unfold eX
  rw [if_neg (by omega), if_neg (by simp [hl]), if_pos]
  exact List.all_eq_true.2 fun v hv => by have := hb v hv; simp; exact this
theorem lims {id : Nat} (h1 : 1 ≤ id) (h2 : id ≤ 11) : 0 ≤ lim id ∧ lim id ≤ 8191 ∧ (sgd id = true → lw id = -lim id ∧ hg id = lim id ∧ lim id ≤ 4) ∧ (sgd id = false → lw id = 0 ∧ (id ≠ 11 → hg id = lim id ∧ lim id ≤ 12) ∧ (id = 11 → hg id = 16 ∧ lim id = 8191)) := by
  have : id = 1 ∨ id = 2 ∨ id = 3 ∨ id = 4 ∨ id = 5 ∨ id = 6 ∨ id = 7 ∨ id = 8 ∨ id = 9 ∨ id = 10 ∨ id = 11 := by omega
  rcases this with rfl | rfl | rfl | rfl | rfl | rfl | rfl | rfl | rfl | rfl | rfl <;> decide
theorem tld_len (i : Int) (zs : List Int) : (tld i zs).length = zs.length := by unfold tld; split <;> simp
/-- Reading on behind an error. -/
def rd1 (z : List Int) (A E : Int) (s : Nat) : Int × Int × Int := if E = 0 then getF z A s else (0, A, E)
def gS (z : List Int) : List Int → Int → Int → List Int × Int × Int
  | [], A, E => ([], A, E)
  | v :: l, A, E => if v = 0 then (v :: (gS z l A E).1, (gS z l A E).2) else ((if (rd1 z A E 1).1 = 1 then -v else v) :: (gS z l (rd1 z A E 1).2.1 (rd1 z A E 1).2.2).1, (gS z l (rd1 z A E 1).2.1 (rd1 z A E 1).2.2).2)
def gO (z : List Int) : Nat → Nat → Int → Int → Int × Int × Int
  | 0, _, A, _ => (0, A, 8)
  | f + 1, k, A, E => if (rd1 z A E 1).1 = 1 then gO z f (k + 1) (rd1 z A E 1).2.1 (rd1 z A E 1).2.2 else (2 ^ (k + 4) + (rd1 z (rd1 z A E 1).2.1 (rd1 z A E 1).2.2 (k + 4)).1, (rd1 z (rd1 z A E 1).2.1 (rd1 z A E 1).2.2 (k + 4)).2)
def gX (z : List Int) : List Int → Int → Int → List Int × Int × Int
  | [], A, E => ([], A, E)
  | v :: l, A, E => if v = 16 then ((gO z 9 0 A E).1 :: (gX z l (gO z 9 0 A E).2.1 (gO z 9 0 A E).2.2).1, (gX z l (gO z 9 0 A E).2.1 (gO z 9 0 A E).2.2).2)
    else if v = -16 then (-(gO z 9 0 A E).1 :: (gX z l (gO z 9 0 A E).2.1 (gO z 9 0 A E).2.2).1, (gX z l (gO z 9 0 A E).2.1 (gO z 9 0 A E).2.2).2)
    else (v :: (gX z l A E).1, (gX z l A E).2)

theorem rd1_run {z rest : List Int} {a s : Nat} {n : Int} (h : z.drop a = bi n s ++ rest) (hs : 1 ≤ s) (n0 : 0 ≤ n) (n1 : n < 2 ^ s) : rd1 z a 0 s = (n, ((a + s : Nat) : Int), 0) ∧ z.drop (a + s) = rest := by
  have hlen := congrArg List.length h
  simp [bi_len] at hlen
  have e : (z.drop a).take s = bi n s := by rw [h]; exact List.take_left' (bi_len _ _)
  constructor
  · unfold rd1
    rw [if_pos rfl, getF_of (by omega) (by rw [e]; exact bi_bits _ _), e, num_bi s n n0 n1]
  · rw [← List.drop_drop, h]; exact List.drop_left' (bi_len _ _)
theorem rd1_good {z : List Int} {a : Nat} {E : Int} {s : Nat} (h : (rd1 z a E s).2.2 = 0) : E = 0 ∧ ∃ n : Int, rd1 z a E s = (n, ((a + s : Nat) : Int), 0) ∧ a + s ≤ z.length ∧ z.drop a = bi n s ++ z.drop (a + s) ∧ 0 ≤ n ∧ n < 2 ^ s := by
  unfold rd1 at h ⊢
  by_cases c : E = 0
  · rw [if_pos c] at h ⊢
    obtain ⟨a', ha, hl, hb, hg⟩ := getF_ok h
    obtain rfl : a' = a := by omega
    have ly := drop_take_len hl
    have hn := num_bd s _ ly hb
    refine ⟨c, _, hg, hl, ?_, hn.1, hn.2⟩
    rw [bi_num s _ ly hb, ← List.drop_drop]
    exact (List.take_append_drop s _).symm
  · rw [if_neg c] at h; exact absurd h c
theorem rd1_err {z : List Int} {A E : Int} {s : Nat} (h : E ≠ 0) : rd1 z A E s = (0, A, E) := by unfold rd1; rw [if_neg h]
theorem rd1_bd (z : List Int) (A E : Int) (s : Nat) : 0 ≤ (rd1 z A E s).1 ∧ (rd1 z A E s).1 < 2 ^ s := by
  have hp : (0 : Int) < 2 ^ s := Int.pow_pos (by decide)
  unfold rd1
  split
  · by_cases h : (getF z A s).2.2 = 0
    · obtain ⟨a, rfl, hl, hb, hg⟩ := getF_ok h
      rw [hg]
      exact num_bd s _ (drop_take_len hl) hb
    · rw [getF_bad h]; exact ⟨Int.le_refl _, hp⟩
  · exact ⟨Int.le_refl _, hp⟩
theorem gS_err (z : List Int) : ∀ (l : List Int) (A E : Int), E ≠ 0 → (gS z l A E).2.2 = E
  | [], _, _, _ => rfl
  | v :: l, A, E, h => by
    unfold gS
    split
    · exact gS_err z l A E h
    · rw [rd1_err h]; exact gS_err z l A E h
theorem gO_err (z : List Int) (f k : Nat) (A E : Int) (h : E ≠ 0) : (gO z (f + 1) k A E).2.2 = E := by
  unfold gO
  rw [rd1_err h]
  simp only [show ¬ ((0 : Int) = 1) by decide, if_false]
  rw [rd1_err h]
theorem gX_err (z : List Int) : ∀ (l : List Int) (A E : Int), E ≠ 0 → (gX z l A E).2.2 = E
  | [], _, _, _ => rfl
  | v :: l, A, E, h => by
    have h9 := gO_err z 8 0 A E h
    unfold gX
    split
    · show (gX z l _ (gO z 9 0 A E).2.2).2.2 = E
      rw [h9]; exact gX_err z l _ E h
    · split
      · show (gX z l _ (gO z 9 0 A E).2.2).2.2 = E
        rw [h9]; exact gX_err z l _ E h
      · exact gX_err z l A E h
theorem bi1 {n : Int} (h0 : 0 ≤ n) (h1 : n < 2) : bi n 1 = [n] := by simp [bi]; omega
theorem gS_run (z : List Int) (i : Int) : ∀ (zs : List Int) (a : Nat) (rest : List Int), z.drop a = sgn zs ++ rest →
    gS z (zs.map (sz1 i)) a 0 = (zs.map (fun v => if v < 0 then -sz1 i v else sz1 i v), ((a + (sgn zs).length : Nat) : Int), 0) ∧ z.drop (a + (sgn zs).length) = rest
  | [], a, rest, h => by
    simp [sgn] at h
    simp [gS, sgn, h]
  | v :: l, a, rest, h => by
    have hs : sgn (v :: l) = sg1 v ++ sgn l := by simp [sgn]
    rw [hs] at h ⊢
    have hz : sz1 i v = 0 ↔ v = 0 := by unfold sz1; split <;> omega
    simp only [List.map_cons]
    unfold gS
    by_cases h0 : v = 0
    · subst h0
      rw [if_pos (hz.2 rfl)]
      have e : sg1 0 = [] := rfl
      rw [e] at h ⊢
      obtain ⟨r1, r2⟩ := gS_run z i l a rest h
      rw [r1]
      refine ⟨by simp [hz.2 rfl], by simpa using r2⟩
    · rw [if_neg (fun c => h0 (hz.1 c))]
      by_cases hn : v < 0
      · have e : sg1 v = [1] := by unfold sg1; rw [if_pos hn]
        rw [e] at h ⊢
        obtain ⟨q1, q2⟩ := rd1_run (n := 1) (s := 1) (rest := sgn l ++ rest) (by rw [h]; simp [bi]) (by decide) (by decide) (by decide)
        rw [q1]
        obtain ⟨r1, r2⟩ := gS_run z i l (a + 1) rest q2
        dsimp only
        rw [r1, if_pos rfl, if_pos hn]
        refine ⟨?_, by rw [← r2]; congr 1; simp; omega⟩
        simp; omega
      · have e : sg1 v = [0] := by unfold sg1; rw [if_neg hn, if_pos (by omega)]
        rw [e] at h ⊢
        obtain ⟨q1, q2⟩ := rd1_run (n := 0) (s := 1) (rest := sgn l ++ rest) (by rw [h]; simp [bi]) (by decide) (by decide) (by decide)
        rw [q1]
        obtain ⟨r1, r2⟩ := gS_run z i l (a + 1) rest q2
        dsimp only
        rw [r1, if_neg (by decide), if_neg hn]
        refine ⟨?_, by rw [← r2]; congr 1; simp; omega⟩
        simp; omega
theorem gO_run {z : List Int} {m : Int} {rest : List Int} : ∀ (j f k a : Nat), j < f → z.drop a = List.replicate j 1 ++ 0 :: (bi m (k + j + 4) ++ rest) → 0 ≤ m → m < 2 ^ (k + j + 4) →
    gO z f k a 0 = (2 ^ (k + j + 4) + m, ((a + j + 1 + (k + j + 4) : Nat) : Int), 0) ∧ z.drop (a + j + 1 + (k + j + 4)) = rest
  | _, 0, _, _, h, _, _, _ => absurd h (by omega)
  | 0, f + 1, k, a, _, h, m0, m1 => by
    obtain ⟨q1, q2⟩ := rd1_run (n := 0) (s := 1) (rest := bi m (k + 0 + 4) ++ rest) (by rw [h]; simp [bi]) (by decide) (by decide) (by decide)
    obtain ⟨r1, r2⟩ := rd1_run (n := m) (s := k + 4) (rest := rest) q2 (by omega) m0 m1
    unfold gO
    rw [q1]
    simp only [show ¬ ((0 : Int) = 1) by decide, if_false]
    rw [r1]
    exact ⟨rfl, r2⟩
  | j + 1, f + 1, k, a, hj, h, m0, m1 => by
    obtain ⟨q1, q2⟩ := rd1_run (n := 1) (s := 1) (rest := List.replicate j 1 ++ 0 :: (bi m (k + (j + 1) + 4) ++ rest)) (by rw [h, List.replicate_succ]; simp [bi]) (by decide) (by decide) (by decide)
    have e : k + (j + 1) + 4 = k + 1 + j + 4 := by omega
    rw [e] at q2 m1 ⊢
    obtain ⟨r1, r2⟩ := gO_run j f (k + 1) (a + 1) (by omega) q2 m0 m1
    have e2 : a + (j + 1) + 1 + (k + 1 + j + 4) = a + 1 + j + 1 + (k + 1 + j + 4) := by omega
    rw [e2]
    refine ⟨?_, r2⟩
    unfold gO
    rw [q1, if_pos rfl]
    exact r1
theorem dg16 {n : Nat} (h : 16 ≤ n) (h2 : n ≤ 8191) : 5 ≤ dg n ∧ dg n ≤ 13 ∧ 2 ^ (dg n - 1) ≤ n ∧ n < 2 ^ dg n := by
  obtain ⟨a, b, c⟩ := dg_bd n n Nat.lt_two_pow_self (by omega)
  refine ⟨?_, dg_le (by omega) (by omega), b, c⟩
  have := dg_mono (a := 16) (b := n) (by omega) h
  have e : dg 16 = 5 := dg_uniq (by decide) (by decide) (by decide) (by decide)
  omega
theorem gX_run (z : List Int) : ∀ (zs : List Int) (a : Nat) (rest : List Int), (∀ v ∈ zs, -8191 ≤ v ∧ v ≤ 8191) → z.drop a = esc zs ++ rest →
    gX z (zs.map (fun v => if v < 0 then -sz1 11 v else sz1 11 v)) a 0 = (zs, ((a + (esc zs).length : Nat) : Int), 0) ∧ z.drop (a + (esc zs).length) = rest
  | [], a, rest, _, h => by
    simp [esc] at h
    simp [gX, esc, h]
  | v :: l, a, rest, hb, h => by
    have hs : esc (v :: l) = es1 v ++ esc l := by simp [esc]
    have hbl : ∀ u ∈ l, -8191 ≤ u ∧ u ≤ 8191 := fun u hu => hb u (by simp [hu])
    have hv := hb v (by simp)
    rw [hs] at h ⊢
    simp only [List.map_cons]
    unfold gX
    have hsz : sz1 11 v = ((min v.natAbs 16 : Nat) : Int) := by unfold sz1; rw [if_pos rfl]
    by_cases h16 : v.natAbs < 16
    · have e : es1 v = [] := by unfold es1; rw [if_pos h16]
      rw [e] at h ⊢
      have ev : (if v < 0 then -sz1 11 v else sz1 11 v) = v := by rw [hsz]; split <;> omega
      rw [ev, if_neg (by omega), if_neg (by omega)]
      obtain ⟨r1, r2⟩ := gX_run z l a rest hbl h
      rw [r1]
      exact ⟨rfl, r2⟩
    · obtain ⟨d1, d2, d3, d4⟩ := dg16 (n := v.natAbs) (by omega) (by omega)
      obtain ⟨j, hj⟩ : ∃ j, dg v.natAbs = j + 5 := ⟨dg v.natAbs - 5, by omega⟩
      obtain ⟨m, hm⟩ : ∃ m : Nat, v.natAbs - 2 ^ (j + 4) = m := ⟨_, rfl⟩
      rw [hj] at d3 d4
      rw [show j + 5 - 1 = j + 4 by omega] at d3
      rw [show j + 5 = (j + 4) + 1 by omega, Nat.pow_succ] at d4
      have e : es1 v = List.replicate j 1 ++ 0 :: bi (m : Int) (j + 4) := by
        unfold es1; rw [if_neg h16, hj, show j + 5 - 1 = j + 4 by omega, show j + 4 - 4 = j by omega, hm]
      have hm2 : m < 2 ^ (j + 4) := by omega
      have hz : z.drop a = List.replicate j 1 ++ 0 :: (bi (m : Int) (0 + j + 4) ++ (esc l ++ rest)) := by rw [h, e]; simp
      obtain ⟨q1, q2⟩ := gO_run (z := z) j 9 0 a (by omega) hz (by omega) (by rw [show 0 + j + 4 = j + 4 by omega]; exact_mod_cast hm2)
      rw [show 0 + j + 4 = j + 4 by omega] at q1 q2
      have el : (es1 v).length = j + 1 + (j + 4) := by rw [e]; simp [bi_len]; omega
      obtain ⟨r1, r2⟩ := gX_run z l (a + j + 1 + (j + 4)) rest hbl q2
      have ea : a + (es1 v ++ esc l).length = a + j + 1 + (j + 4) + (esc l).length := by rw [List.length_append, el]; omega
      rw [ea]
      refine ⟨?_, r2⟩
      have hval : (2 : Int) ^ (j + 4) + (m : Int) = v.natAbs := by
        have : (2 : Nat) ^ (j + 4) + m = v.natAbs := by omega
        exact_mod_cast this
      rw [hval] at q1
      by_cases hn : v < 0
      · rw [if_pos hn, hsz, show ((min v.natAbs 16 : Nat) : Int) = 16 by omega, if_neg (by decide), if_pos rfl, q1]
        dsimp only
        rw [r1]
        rw [show -((v.natAbs : Nat) : Int) = v by omega]
      · rw [if_neg hn, hsz, show ((min v.natAbs 16 : Nat) : Int) = 16 by omega, if_pos rfl, q1]
        dsimp only
        rw [r1]
        rw [show ((v.natAbs : Nat) : Int) = v by omega]
end Go.Proofs.YteklahfgplbmcaaDoor.Hf

/- The entry that stands for some values. -/
namespace Go.Proofs.YteklahfgplbmcaaDoor.Hf
open Go.Proofs.YteklahfgplbmcaaDoor.Bk Go.Proofs.YteklahfgplbmcaaDoor.Bi Go.Proofs.YteklahfgplbmcaaDoor.Cr Go.Proofs.YteklahfgplbmcaaDoor.BkEn
noncomputable def eE (i : Int) (zs : List Int) : Int := if eX i zs = 0 then entI i.toNat (tld i zs) else 0
theorem tld_in {id : Nat} {zs : List Int} (h1 : 1 ≤ id) (h2 : id ≤ 11) (hb : ∀ v ∈ zs, -lim id ≤ v ∧ v ≤ lim id) : (tld id zs).all (inR id) = true := by
  obtain ⟨l0, l1, l2, l3⟩ := lims h1 h2
  refine List.all_eq_true.2 fun v hv => ?_
  unfold tld at hv
  unfold inR
  cases hs : sgd (id : Int)
  · rw [hs] at hv
    simp only [Bool.false_eq_true, if_false] at hv
    obtain ⟨u, hu, rfl⟩ := List.mem_map.1 hv
    have := hb u hu
    obtain ⟨e1, e2, e3⟩ := l3 hs
    unfold sz1
    by_cases h11 : (id : Int) = 11
    · obtain ⟨e4, e5⟩ := e3 (by omega)
      rw [if_pos h11, e1, e4]; simp; omega
    · obtain ⟨e4, e5⟩ := e2 (by omega)
      rw [if_neg h11, e1, e4]; simp; omega
  · rw [hs] at hv
    simp only [if_true] at hv
    have := hb v hv
    obtain ⟨e1, e2, e3⟩ := l2 hs
    rw [e1, e2]; simp; omega
theorem eE_ok {i : Int} {zs : List Int} (h : eX i zs = 0) : ∃ id n : Nat, i = id ∧ 1 ≤ id ∧ id ≤ 11 ∧ zs.length = dm id ∧ (∀ v ∈ zs, -lim id ≤ v ∧ v ≤ lim id) ∧ eE i zs = n ∧ n < Nn id ∧ vals (bs id) (lw id) (dm id) n = tld i zs ∧ entX id (tld i zs) = 0 ∧ entI id (tld i zs) = n := by
  obtain ⟨id, rfl, h1, h2, hl, hb⟩ := eX_ok h
  have hx : entX id (tld id zs) = 0 := by
    unfold entX
    rw [if_pos (by rw [tld_len, hl]), if_pos (tld_in h1 h2 hb)]
  obtain ⟨n, hn, hn2, hn3⟩ := ent_yes h1 (by omega) hx
  refine ⟨id, n, rfl, h1, h2, hl, hb, ?_, hn2, hn3, hx, hn⟩
  unfold eE
  rw [if_pos h]
  exact hn
/-- What Put answers. -/
noncomputable def vL (B : List Int) (i p : Int) (zs : List Int) : List Int := cd p.toNat (B.getD (eE i zs).toNat 0).toNat ++ ((if sgd i then [] else sgn zs) ++ (if i = 11 then esc zs else []))

end Go.Proofs.YteklahfgplbmcaaDoor.Hf

/- Sizes, signs, how many values, and whether values fit. -/
namespace Go.Proofs.YteklahfgplbmcaaDoor.Hf
open Go Go.ChangeShapes Go.WideShapes Go.ChangeAt Go.RowKit Go.Proofs.YteklahfgplbmcaaDoor.Bk Go.Proofs.YteklahfgplbmcaaDoor.Bi Go.Proofs.YteklahfgplbmcaaDoor.Cr Go.Proofs.YteklahfgplbmcaaDoor.Fx

theorem size_v (v : Int) (w : World) (h0 : -9223372036854775807 ≤ v) (h1 : v ≤ 9223372036854775807) : Calls Tryd.prog 108 #[.int .i64 v] w fun e w' => e = .returned (.int .i64 (v.natAbs : Nat)) ∧ w = w' := by
  have hw : IntKind.i64.wrap (-v) = -v := by rw [IntKind.wrap_i64]; omega
  have hm : max v (-v) = ((v.natAbs : Nat) : Int) := by omega
  have HM := Lib.hid hm
  clear hm
  go_enter Tryd.func108, Tryd.ntmps108
  go_wp2
  go_ret
  exact ⟨by rw [← HM.out]; rfl, rfl⟩
theorem signed_ok (i : Int) (w : World) : Calls Tryd.prog 70 #[.int .i64 i] w fun e w' => e = .returned (.bool (sgd i)) ∧ w = w' := by
  by_cases h1 : i = 1
  · subst h1
    go_enter Tryd.func70, Tryd.ntmps70
    go_wp2
    go_ret
    exact ⟨rfl, rfl⟩
  by_cases h2 : i = 2
  · subst h2
    go_enter Tryd.func70, Tryd.ntmps70
    go_wp2
    go_ret
    exact ⟨rfl, rfl⟩
  by_cases h5 : i = 5
  · subst h5
    go_enter Tryd.func70, Tryd.ntmps70
    go_wp2
    go_ret
    exact ⟨rfl, rfl⟩
  by_cases h6 : i = 6
  · subst h6
    go_enter Tryd.func70, Tryd.ntmps70
    go_wp2
    go_ret
    exact ⟨rfl, rfl⟩
  have e : sgd i = false := by unfold sgd; simp [h1, h2, h5, h6]
  rw [e]
  have b1 : (i == 1) = false := by simp [h1]
  have b2 : (i == 2) = false := by simp [h2]
  have b5 : (i == 5) = false := by simp [h5]
  have b6 : (i == 6) = false := by simp [h6]
  clear e
  go_enter Tryd.func70, Tryd.ntmps70
  go_wp2
  go_ret
  exact ⟨rfl, rfl⟩
theorem dim_v (id : Nat) (w : World) (h1 : 1 ≤ id) (h2 : id ≤ 11) : Calls Tryd.prog 74 #[.int .i64 id] w fun e w' => e = .returned (.int .i64 (dm id : Nat)) ∧ w = w' := by
  by_cases h : id ≤ 4
  · have e : dm id = 4 := by
      have : id = 1 ∨ id = 2 ∨ id = 3 ∨ id = 4 := by omega
      rcases this with rfl | rfl | rfl | rfl <;> rfl
    rw [e]
    have hi : (id : Int) ≤ 4 := by omega
    clear e
    go_enter Tryd.func74, Tryd.ntmps74
    go_wp2
    go_ret
    exact ⟨rfl, rfl⟩
  · have e : dm id = 2 := by
      have : id = 5 ∨ id = 6 ∨ id = 7 ∨ id = 8 ∨ id = 9 ∨ id = 10 ∨ id = 11 := by omega
      rcases this with rfl | rfl | rfl | rfl | rfl | rfl | rfl <;> rfl
    rw [e]
    have hi : ¬ (id : Int) ≤ 4 := by omega
    clear e
    go_enter Tryd.func74, Tryd.ntmps74
    go_wp2
    go_ret
    exact ⟨rfl, rfl⟩
/-- The table of the greatest sizes. -/
def Hm (w : World) : Prop := 1 < w.heap.size ∧ ∀ k, k < 11 → w.cell? ⟨1, k, none⟩ = some (.int .i64 (lim (k + 1)))
theorem Hm.below {w w' : World} (h : Hm w) (hb : Below w.heap.size w w') : Hm w' :=
  ⟨Nat.lt_of_lt_of_le h.1 hb.size, fun k hk => (hb.cell (p := ⟨1, k, none⟩) h.1).trans (h.2 k hk)⟩
def fR (i : Int) (zs : List Int) : Bool := if i < 1 ∨ 11 < i then false else if zs.length ≠ dm i.toNat then false else fitB i zs
def fE (i : Int) (zs : List Int) : Int := if i < 1 ∨ 11 < i then 2 else if zs.length ≠ dm i.toNat then 4 else 0
theorem fits_out (i : Int) (v : Value) (zs : List Int) (w : World) (h : i < 1 ∨ 11 < i) :
    Calls Tryd.prog 36 #[.int .i64 i, v] w fun e w' => e = .returned (.tuple #[.bool (fR i zs), .int .i64 (fE i zs)]) ∧ Below w.heap.size w w' := by
  unfold fR fE
  rw [if_pos h, if_pos h]
  by_cases h1 : i < 1
  · clear h
    go_enter Tryd.func36, Tryd.ntmps36
    go_wp2
    go_ret2
    exact ⟨rfl, Below.refl _ _⟩
  · have h2 : 11 < i := by omega
    clear h
    go_enter Tryd.func36, Tryd.ntmps36
    go_wp2
    go_ret2
    exact ⟨rfl, Below.refl _ _⟩
set_option maxRecDepth 100000 in
set_option maxHeartbeats 4000000 in
theorem fits_any (i : Int) (v : Value) (zs : List Int) (w : World) (hm : Hm w) (hl : zs.length ≤ maxLen) (hr : Rd w v zs) :
    Calls Tryd.prog 36 #[.int .i64 i, v] w fun e w' => e = .returned (.tuple #[.bool (fR i zs), .int .i64 (fE i zs)]) ∧ Below w.heap.size w w' := by
  by_cases h : i < 1 ∨ 11 < i
  · exact fits_out i v zs w h
  obtain ⟨id, rfl⟩ : ∃ id : Nat, i = (id : Int) := ⟨i.toNat, by omega⟩
  obtain ⟨k, rfl⟩ : ∃ k, id = k + 1 := ⟨id - 1, by omega⟩
  obtain ⟨A, cap, rfl, hA⟩ := hr.open
  have HD := Lib.hid (fun w => dim_v (k + 1) w (by omega) (by omega))
  have hk : k ≤ 10 := by omega
  unfold maxLen at hl
  by_cases hd : zs.length = dm (k + 1)
  · have e1 : fE ((k + 1 : Nat) : Int) zs = 0 := by unfold fE; rw [if_neg h, Int.toNat_natCast, if_neg (by simp [hd])]
    have e2 : fR ((k + 1 : Nat) : Int) zs = fitB ((k + 1 : Nat) : Int) zs := by unfold fR; rw [if_neg h, Int.toNat_natCast, if_neg (by simp [hd])]
    rw [e1, e2]
    have hc := hm.2 k (by omega)
    obtain ⟨l0, l1, _⟩ := lims (id := k + 1) (by omega) (by omega)
    have HT : Hid ((∀ j, j < zs.length → -lim (k + 1) ≤ zs.getD j 0 ∧ zs.getD j 0 ≤ lim (k + 1)) → fitB ((k + 1 : Nat) : Int) zs = true) := Lib.hid fun hh => by
      unfold fitB
      rw [Int.toNat_natCast]
      refine List.all_eq_true.2 fun v hv => ?_
      obtain ⟨j, hj, rfl⟩ := List.getElem_of_mem hv
      have := hh j hj
      rw [List.getD_eq_getElem?_getD, List.getElem?_eq_getElem hj] at this
      simpa using this
    have HF : Hid (∀ j, j < zs.length → (zs.getD j 0 < -lim (k + 1) ∨ lim (k + 1) < zs.getD j 0) → fitB ((k + 1 : Nat) : Int) zs = false) := Lib.hid fun j hj hh => by
      cases hf : fitB ((k + 1 : Nat) : Int) zs
      · rfl
      · unfold fitB at hf
        rw [Int.toNat_natCast] at hf
        have := List.all_eq_true.1 hf (zs.getD j 0) (by rw [List.getD_eq_getElem?_getD, List.getElem?_eq_getElem hj]; exact List.getElem_mem _)
        simp only [Bool.and_eq_true, decide_eq_true_eq] at this
        omega
    have HA := Lib.hid hA
    obtain ⟨n, hn⟩ : ∃ n, zs.length = n := ⟨_, rfl⟩
    have HN := Lib.hid hn
    rw [hn] at HT HF hl hd ⊢
    rw [← hd] at HD
    generalize fitB ((k + 1 : Nat) : Int) zs = R at *
    generalize lim (k + 1) = L at *
    have hwL : IntKind.i64.wrap (-L) = -L := by rw [IntKind.wrap_i64]; omega
    have hw1 : IntKind.i64.wrap (((k + 1 : Nat) : Int) - 1) = (k : Int) := by rw [IntKind.wrap_i64]; omega
    have h1 : ¬ (((k + 1 : Nat) : Int) < 1) := by omega
    have h11 : ¬ (11 < ((k + 1 : Nat) : Int)) := by omega
    clear hA h hr hd hn e1 e2 hm
    generalize ((k + 1 : Nat) : Int) = I at *
    go_enter Tryd.func36, Tryd.ntmps36
    go_wp2_with (go_at_call 74; ((with_reducible refine (HD.out _).mono ?_); rintro e w1 ⟨rfl, rfl⟩))
    go_loopw [26] (fun i wr => ∃ j : Nat, j ≤ n ∧ i = .int .i64 j ∧ Hid (∀ q, q < j → -L ≤ zs.getD q 0 ∧ zs.getD q 0 ≤ L) ∧ Hid (Below w.heap.size w wr)) (fun i _ => n - (intOf i).toNat)
    case atStart => exact ⟨0, by omega, rfl, Lib.hid (fun q hq => absurd hq (by omega)), Lib.hid (Below.refl _ _)⟩
    case round =>
      obtain ⟨j, hj, rfl, hall, hbel⟩ := hrel
      by_cases hlt : j < n
      · obtain ⟨b, off, rfl, hb, c1'⟩ := HA.out j (by rw [HN.out]; exact hlt)
        have c1 := (hbel.out.cell (p := ⟨b, off + j, none⟩) hb).trans c1'
        have hO := Lib.hid (HF.out j hlt)
        clear c1'
        obtain ⟨z, hz⟩ : ∃ z, zs.getD j 0 = z := ⟨_, rfl⟩
        rw [hz] at c1 hO
        by_cases hz1 : z < -L
        · have he := Lib.hid (hO.out (.inl hz1))
          have hb2 := Lib.hid hbel.out
          clear hO hz hbel hall
          go_wp2
          go_ret2
          exact ⟨by rw [he.out]; rfl, hb2.out⟩
        by_cases hz2 : L < z
        · have he := Lib.hid (hO.out (.inr hz2))
          have hb2 := Lib.hid hbel.out
          clear hO hz hbel hall
          go_wp2
          go_ret2
          exact ⟨by rw [he.out]; rfl, hb2.out⟩
        · have hall2 : Hid (∀ q, q < j + 1 → -L ≤ zs.getD q 0 ∧ zs.getD q 0 ≤ L) := Lib.hid fun q hq => by
            by_cases hqj : q = j
            · subst hqj; rw [hz]; omega
            · exact hall.out q (by omega)
          clear hO hz hall
          go_wp2
          go_roundw
          case rel => exact ⟨j + 1, by omega, by go_num, hall2, hbel⟩
          case measure => simp [intOf]; omega
      · have hend : j = n := by omega
        subst hend
        have he := Lib.hid (HT.out hall.out)
        have hb2 := Lib.hid hbel.out
        clear hall hbel
        go_wp2
        go_ret2
        exact ⟨by rw [he.out]; rfl, hb2.out⟩
  · have e1 : fE ((k + 1 : Nat) : Int) zs = 4 := by unfold fE; rw [if_neg h, Int.toNat_natCast, if_pos (by simp [hd])]
    have e2 : fR ((k + 1 : Nat) : Int) zs = false := by unfold fR; rw [if_neg h, Int.toNat_natCast, if_pos (by simp [hd])]
    rw [e1, e2]
    have hne : ((zs.length : Int) == ((dm (k + 1) : Nat) : Int)) = false := by simp; omega
    have hne2 : ¬ (zs.length : Int) = ((dm (k + 1) : Nat) : Int) := by omega
    have h1 : ¬ (((k + 1 : Nat) : Int) < 1) := by omega
    have h11 : ¬ (11 < ((k + 1 : Nat) : Int)) := by omega
    clear e1 e2 hA h hr hd hm
    generalize zs.length = n at *
    generalize dm (k + 1) = d at *
    generalize ((k + 1 : Nat) : Int) = I at *
    go_enter Tryd.func36, Tryd.ntmps36
    go_wp2_with (go_at_call 74; ((with_reducible refine (HD.out _).mono ?_); rintro e w1 ⟨rfl, rfl⟩))
    go_ret2
    exact ⟨rfl, Below.refl _ _⟩
end Go.Proofs.YteklahfgplbmcaaDoor.Hf

/- The bits of signs. -/
namespace Go.Proofs.YteklahfgplbmcaaDoor.Hf
open Go Go.ChangeShapes Go.WideShapes Go.ChangeAt Go.RowKit Go.Proofs.YteklahfgplbmcaaDoor.Bk Go.Proofs.YteklahfgplbmcaaDoor.Bi Go.Proofs.YteklahfgplbmcaaDoor.Cr Go.Proofs.YteklahfgplbmcaaDoor.Fx

theorem own8n (base : Nat) (w : World) : Cr.Own base w (.slice none 0 0) [] := World.ownsRow_nil w _ 5 1
theorem own8_al {base : Nat} {w : World} {v : Value} {zs : List Int} (h : Cr.Own base w v zs) (o : Obj) : Cr.Own base (w.alloc o) v zs := Cr.Own.below h ((Below.refl w.heap.size w).alloc (Nat.le_refl _) o)
theorem one_src (w : World) (z : Int) : Src8 (w.alloc (.cells #[.int .u8 z] 5)) (.slice (some ⟨w.heap.size, 0, none⟩) 1 1) [z] := by
  have r := World.rowIs_alloc w #[.int .u8 z] 5 (fun _ => .int .u8 z) (fun i hi => by
    have h1 : i < 1 := hi
    have : i = 0 := by omega
    subst this; rfl)
  refine .inr ⟨⟨w.heap.size, 0, none⟩, 1, rfl, fun j u hu => ?_⟩
  match j with
  | 0 => simp at hu; subst hu; exact r.cell (i := 0) (Nat.lt_succ_self 0)
  | j + 1 => simp at hu
theorem sgn_snoc {zs : List Int} {k : Nat} (h : k < zs.length) : sgn (zs.take (k + 1)) = sgn (zs.take k) ++ sg1 (zs.getD k 0) := by
  have e : zs.take (k + 1) = zs.take k ++ [zs.getD k 0] := by rw [List.take_add_one, List.getElem?_eq_getElem h]; simp [h]
  rw [e]; simp [sgn]
theorem sgn_len (zs : List Int) : (sgn zs).length ≤ zs.length := by
  induction zs with
  | nil => simp [sgn]
  | cons v l ih =>
    have e : sgn (v :: l) = sg1 v ++ sgn l := by simp [sgn]
    rw [e, List.length_append]
    have : (sg1 v).length ≤ 1 := by unfold sg1; split <;> (try split) <;> simp
    simp; omega
set_option maxRecDepth 100000 in
set_option maxHeartbeats 4000000 in
theorem signs_ok (v : Value) (zs : List Int) (w : World) (hl : zs.length ≤ 1000) (h : Rd w v zs) :
    Calls Tryd.prog 90 #[v] w fun e w' => ∃ v', e = .returned v' ∧ Cr.Own w.heap.size w' v' (sgn zs) ∧ Below w.heap.size w w' := by
  obtain ⟨A, cap, rfl, hA⟩ := h.open
  have HA := Lib.hid hA
  have HSn := Lib.hid (fun k => sgn_snoc (zs := zs) (k := k))
  have HLn := Lib.hid (fun k => sgn_len (zs.take k))
  obtain ⟨n, hn⟩ : ∃ n, zs.length = n := ⟨_, rfl⟩
  have HN := Lib.hid hn
  rw [hn] at hl HSn ⊢
  clear hA hn h
  go_enter Tryd.func90, Tryd.ntmps90
  go_wp2
  go_loopw [3, 8] (fun s i wr => ∃ j : Nat, j ≤ n ∧ i = .int .i64 j ∧ Hid (Cr.Own w.heap.size wr s (sgn (zs.take j))) ∧ Hid (Below w.heap.size w wr)) (fun _ i _ => n - (intOf i).toNat)
  case atStart => exact ⟨0, by omega, rfl, Lib.hid (by simpa [sgn] using own8n w.heap.size w), Lib.hid (Below.refl _ _)⟩
  case round =>
    obtain ⟨j, hj, rfl, ho, hbel⟩ := hrel
    by_cases hlt : j < n
    · obtain ⟨b, off, rfl, hb, c1'⟩ := HA.out j (by rw [HN.out]; exact hlt)
      have c1 := (hbel.out.cell (p := ⟨b, off + j, none⟩) hb).trans c1'
      have hst := Lib.hid (HSn.out j hlt)
      have hle := Lib.hid (HLn.out j)
      have hsz := Lib.hid (hbel.out.size)
      clear c1'
      obtain ⟨z, hz⟩ : ∃ z, zs.getD j 0 = z := ⟨_, rfl⟩
      rw [hz] at c1 hst
      obtain ⟨ys, hys⟩ : ∃ ys, sgn (zs.take j) = ys := ⟨_, rfl⟩
      rw [hys] at ho hst hle
      have hyl : Hid (ys.length ≤ 1000) := Lib.hid (by have := hle.out; rw [List.length_take] at this; omega)
      clear hz hys hle
      by_cases hz1 : z < 0
      · have e : sg1 z = [1] := by unfold sg1; rw [if_pos hz1]
        rw [e] at hst
        clear e
        go_wp2_with (at_builtin; refine wpList_append_src _ rfl (.tmp 14) (.tmp 15) rfl w.heap.size _ ys rfl (own8_al ho.out _) _ [1] rfl (one_src wr 1) (by have := hyl.out; simp; omega) (by have := hsz.out; simp; omega) ?_; intro v6 w6 ho6 hg6 _; have hb6 := Lib.hid (Go.Proofs.YteklahfgplbmcaaDoor.Cr.below_grown (hbel.out.alloc hsz.out _) (own8_al ho.out _) (Nat.le_refl _) hg6); rw [← hst.out] at ho6; have HO6 := Lib.hid ho6; clear ho6 hg6)
        go_roundw
        case rel => exact ⟨j + 1, by omega, by go_num, HO6, hb6⟩
        case measure => simp [intOf]; omega
      by_cases hz2 : 0 < z
      · have e : sg1 z = [0] := by unfold sg1; rw [if_neg hz1, if_pos hz2]
        rw [e] at hst
        clear e
        go_wp2_with (at_builtin; refine wpList_append_src _ rfl (.tmp 19) (.tmp 20) rfl w.heap.size _ ys rfl (own8_al ho.out _) _ [0] rfl (one_src wr 0) (by have := hyl.out; simp; omega) (by have := hsz.out; simp; omega) ?_; intro v6 w6 ho6 hg6 _; have hb6 := Lib.hid (Go.Proofs.YteklahfgplbmcaaDoor.Cr.below_grown (hbel.out.alloc hsz.out _) (own8_al ho.out _) (Nat.le_refl _) hg6); rw [← hst.out] at ho6; have HO6 := Lib.hid ho6; clear ho6 hg6)
        go_roundw
        case rel => exact ⟨j + 1, by omega, by go_num, HO6, hb6⟩
        case measure => simp [intOf]; omega
      · have e : sg1 z = [] := by unfold sg1; rw [if_neg hz1, if_neg hz2]
        rw [e, List.append_nil] at hst
        rw [← hst.out] at ho
        clear e hst
        go_wp2
        go_roundw
        case rel => exact ⟨j + 1, by omega, by go_num, ho, hbel⟩
        case measure => simp [intOf]; omega
    · have hend : j = n := by omega
      subst hend
      have ht : zs.take j = zs := List.take_of_length_le (by rw [HN.out]; omega)
      rw [ht] at ho
      clear ht
      go_wp2
      go_ret
      exact ⟨_, rfl, ho.out, hbel.out⟩
end Go.Proofs.YteklahfgplbmcaaDoor.Hf

/- The bits of escapes. -/
namespace Go.Proofs.YteklahfgplbmcaaDoor.Hf
open Go Go.Shelf Go.Proofs.YteklahfgplbmcaaDoor.BkPx Go.ChangeShapes Go.WideShapes Go.ChangeAt Go.RowKit Go.Proofs.YteklahfgplbmcaaDoor.Bk Go.Proofs.YteklahfgplbmcaaDoor.Bi Go.Proofs.YteklahfgplbmcaaDoor.Cr Go.Proofs.YteklahfgplbmcaaDoor.Fx

theorem len_any (n : Nat) (h1 : 1 ≤ n) (h2 : n < 65536) (w : World) : Calls Tryd.prog 50 #[.int .u64 (n : Int)] w fun e w' => e = .returned (.int .i64 (dg n : Nat)) ∧ w = w' := by
  have h := Any.bits_Len (SlLaysF0.n15.bits (P := Tryd.prog) (ρ := Tryd.sortL_ren) { Tryd.sortL with }) (n : Int) w (by omega) (by omega)
  change Calls Tryd.prog 50 _ _ _ at h
  rw [Int.toNat_natCast, bitLen_dg h1 (by omega)] at h
  exact h.mono fun _ _ h => ⟨h.1, h.2.symm⟩
theorem esc_snoc {zs : List Int} {k : Nat} (h : k < zs.length) : esc (zs.take (k + 1)) = esc (zs.take k) ++ es1 (zs.getD k 0) := by
  have e : zs.take (k + 1) = zs.take k ++ [zs.getD k 0] := by rw [List.take_add_one, List.getElem?_eq_getElem h]; simp [h]
  rw [e]; simp [esc]
theorem es1_len {v : Int} (h0 : -8191 ≤ v) (h1 : v ≤ 8191) : (es1 v).length ≤ 21 := by
  unfold es1
  split
  · simp
  · obtain ⟨d1, d2, d3, d4⟩ := dg16 (n := v.natAbs) (by omega) (by omega)
    simp [bi_len]; omega
theorem esc_len : ∀ (zs : List Int), (∀ v ∈ zs, -8191 ≤ v ∧ v ≤ 8191) → (esc zs).length ≤ 21 * zs.length
  | [], _ => by simp [esc]
  | v :: l, h => by
    have e : esc (v :: l) = es1 v ++ esc l := by simp [esc]
    have h1 := h v (by simp)
    have h2 := esc_len l (fun u hu => h u (by simp [hu]))
    have h3 := es1_len h1.1 h1.2
    rw [e, List.length_append, List.length_cons]; omega
theorem own8_dr {base : Nat} {w : World} {v : Value} {zs : List Int} (h : Cr.Own base w v zs) : Cr.Own base w.drew v zs := Cr.Own.below h ((Below.refl w.heap.size w).drew)
theorem src8_dr {w : World} {v : Value} {zs : List Int} (h : Src8 w v zs) : Src8 w.drew v zs := h.below ((Below.refl w.heap.size w).drew)
set_option maxRecDepth 100000 in
set_option maxHeartbeats 8000000 in
theorem escapes_ok (v : Value) (zs : List Int) (w : World) (hl : zs.length ≤ 4) (hv : ∀ v ∈ zs, -8191 ≤ v ∧ v ≤ 8191) (h : Rd w v zs) :
    Calls Tryd.prog 91 #[v] w fun e w' => ∃ v', e = .returned v' ∧ Cr.Own w.heap.size w' v' (esc zs) ∧ Below w.heap.size w w' := by
  obtain ⟨A, cap, rfl, hA⟩ := h.open
  have HA := Lib.hid hA
  have HV := Lib.hid hv
  have HSn := Lib.hid (fun k => esc_snoc (zs := zs) (k := k))
  have HLn := Lib.hid (fun k => esc_len (zs.take k) (fun v hv' => hv v (List.mem_of_mem_take hv')))
  have HSz := Lib.hid (fun (z : Int) (w : World) (h : -8191 ≤ z ∧ z ≤ 8191) => size_v z w (by omega) (by omega))
  obtain ⟨n, hn⟩ : ∃ n, zs.length = n := ⟨_, rfl⟩
  have HN := Lib.hid hn
  rw [hn] at hl HSn ⊢
  clear hA hn h hv
  go_enter Tryd.func91, Tryd.ntmps91
  go_wp2
  go_loopw [3, 9] (fun s i wr => ∃ j : Nat, j ≤ n ∧ i = .int .i64 j ∧ Hid (Cr.Own w.heap.size wr s (esc (zs.take j))) ∧ Hid (Below w.heap.size w wr)) (fun _ i _ => n - (intOf i).toNat)
  case atStart => exact ⟨0, by omega, rfl, Lib.hid (by simpa [esc] using own8n w.heap.size w), Lib.hid (Below.refl _ _)⟩
  case round =>
    obtain ⟨j, hj, rfl, ho, hbel⟩ := hrel
    by_cases hlt : j < n
    · obtain ⟨b, off, rfl, hb, c1'⟩ := HA.out j (by rw [HN.out]; exact hlt)
      have c1 := (hbel.out.cell (p := ⟨b, off + j, none⟩) hb).trans c1'
      have hst := Lib.hid (HSn.out j hlt)
      have hle := Lib.hid (HLn.out j)
      have hsz := Lib.hid (hbel.out.size)
      have hzb := HV.out (zs.getD j 0) (by rw [List.getD_eq_getElem?_getD, List.getElem?_eq_getElem (by rw [HN.out]; exact hlt)]; exact List.getElem_mem _)
      clear c1'
      obtain ⟨z, hz⟩ : ∃ z, zs.getD j 0 = z := ⟨_, rfl⟩
      rw [hz] at c1 hst hzb
      obtain ⟨ys, hys⟩ : ∃ ys, esc (zs.take j) = ys := ⟨_, rfl⟩
      rw [hys] at ho hst hle
      have hyl : Hid (ys.length ≤ 84) := Lib.hid (by have := hle.out; rw [List.length_take] at this; omega)
      have HS := Lib.hid (fun w => HSz.out z w hzb)
      clear hz hys hle
      by_cases h16 : z.natAbs < 16
      · have e : es1 z = [] := by unfold es1; rw [if_pos h16]
        rw [e, List.append_nil] at hst
        rw [← hst.out] at ho
        have h16I : ((z.natAbs : Nat) : Int) < 16 := by omega
        clear e hst h16
        generalize ((z.natAbs : Nat) : Int) = q at *
        go_wp2_with (go_at_call 108; ((with_reducible refine (HS.out _).mono ?_); rintro e w1 ⟨rfl, rfl⟩))
        go_roundw
        case rel => exact ⟨j + 1, by omega, by go_num, ho, hbel⟩
        case measure => simp [intOf]; omega
      · obtain ⟨d1, d2, d3, d4⟩ := dg16 (n := z.natAbs) (by omega) (by omega)
        have e : es1 z = List.replicate (dg z.natAbs - 1 - 4) 1 ++ 0 :: bi ((z.natAbs - 2 ^ (dg z.natAbs - 1) : Nat) : Int) (dg z.natAbs - 1) := by unfold es1; rw [if_neg h16]
        rw [e] at hst
        clear e
        have HL := Lib.hid (fun w => len_any z.natAbs (by omega) (by omega) w)
        obtain ⟨d, hd⟩ : ∃ d, dg z.natAbs = d + 5 := ⟨dg z.natAbs - 5, by omega⟩
        rw [hd] at d3 d4 HL hst
        rw [show d + 5 - 1 = d + 4 by omega] at hst d3
        rw [show d + 4 - 4 = d by omega] at hst
        obtain ⟨P, hP⟩ : ∃ P : Nat, 2 ^ (d + 4) = P := ⟨_, rfl⟩
        have hPI : (2 : Int) ^ (d + 4) = (P : Int) := by rw [← hP]; push_cast; rfl
        rw [show d + 5 = (d + 4) + 1 by omega, Nat.pow_succ, hP] at d4
        rw [hP] at d3 hst
        have hd8 : d ≤ 8 := by omega
        obtain ⟨m, hm⟩ : ∃ m : Nat, z.natAbs = m := ⟨_, rfl⟩
        rw [hm] at d3 d4 HL HS hst h16
        have hm8 : m ≤ 8191 := by omega
        have hmw : IntKind.u64.wrap (m : Int) = (m : Int) := by rw [IntKind.wrap_u64]; omega
        obtain ⟨e4, he4⟩ : ∃ e4, d + 4 = e4 := ⟨_, rfl⟩
        rw [he4] at hP hPI hst
        obtain ⟨L5, hL5⟩ : ∃ L5 : Int, ((d + 5 : Nat) : Int) = L5 := ⟨_, rfl⟩
        rw [hL5] at HL
        have hdw : IntKind.i64.wrap (L5 - 1) = (e4 : Int) := by rw [IntKind.wrap_i64]; omega
        have hdw2 : IntKind.i64.wrap ((e4 : Int) - 4) = (d : Int) := by rw [IntKind.wrap_i64]; omega
        have he12 : e4 ≤ 12 := by omega
        have hPw : IntKind.i64.wrap (P : Int) = (P : Int) := by rw [IntKind.wrap_i64]; omega
        have h16I : ¬ ((m : Nat) : Int) < 16 := by omega
        have hmP : IntKind.i64.wrap ((m : Int) - (P : Int)) = ((m - P : Nat) : Int) := by rw [IntKind.wrap_i64]; omega
        have HPut := Lib.hid (fun (w : World) (v0 : Value) (zs : List Int) (hsrc : Src8 w v0 zs) (hl : zs.length ≤ 100000) => put_src (v0 := v0) (zs := zs) ((m - P : Nat) : Int) e4 w hsrc hl (by omega) (by omega) (by rw [hPI]; omega))
        obtain ⟨mP, hmP'⟩ : ∃ mP : Int, ((m - P : Nat) : Int) = mP := ⟨_, rfl⟩
        rw [hmP'] at HPut hst hmP
        clear h16 d1 d2 hd hm hzb HSz HV he4 hL5 hP hmP' d3 d4
        go_wp2_with first
          | (go_at_call 108; ((with_reducible refine (HS.out _).mono ?_); rintro e w1 ⟨rfl, rfl⟩))
          | (go_at_call 50; ((with_reducible refine (HL.out _).mono ?_); rintro e w1 ⟨rfl, rfl⟩))
        generalize wr = wo at *
        go_loopw [3, 23] (fun s i wq => ∃ q : Nat, q ≤ d ∧ i = .int .i64 q ∧ Hid (Cr.Own w.heap.size wq s (ys ++ List.replicate q 1)) ∧ Hid (Below w.heap.size w wq)) (fun _ i _ => d - (intOf i).toNat)
        case atStart => exact ⟨0, by omega, rfl, Lib.hid (by simpa using ho.out), hbel⟩
        case round =>
          obtain ⟨q, hq, rfl, ho3, hb3⟩ := hrel
          have hsz3 := Lib.hid (hb3.out.size)
          by_cases hlq : q < d
          · go_wp2_with (at_builtin; refine wpList_append_src _ rfl (.tmp 25) (.tmp 26) rfl w.heap.size _ (ys ++ List.replicate q 1) rfl (own8_al ho3.out _) _ [1] rfl (one_src wr 1) (by have := hyl.out; simp; omega) (by have := hsz3.out; simp; omega) ?_; intro v6 w6 ho6 hg6 _; have hb6 := Lib.hid (Go.Proofs.YteklahfgplbmcaaDoor.Cr.below_grown (hb3.out.alloc hsz3.out _) (own8_al ho3.out _) (Nat.le_refl _) hg6); rw [List.append_assoc, ← List.replicate_succ'] at ho6; have HO6 := Lib.hid ho6; clear ho6 hg6)
            go_roundw
            case rel => exact ⟨q + 1, by omega, by go_num, HO6, hb6⟩
            case measure => simp [intOf]; omega
          · have hend : q = d := by omega
            subst hend
            go_upto_region 11 with fail
            clear HL hbel hsz ho hq
            go_region_held3 (fun w' => True) (trivial)
              (first
                | (refine step_append_src _ rfl (.tmp 30) (.tmp 31) rfl w.heap.size _ _ rfl (own8_dr (own8_al ho3.out _)) _ [0] rfl (src8_dr (one_src wr 0)) (by have := hyl.out; simp; omega) ((hb3.out.alloc hsz3.out _).drew.size) ?_; intro v6 w6 ho6 hg6; have hb6 := Lib.hid (Go.Proofs.YteklahfgplbmcaaDoor.Cr.below_grown ((hb3.out.alloc hsz3.out _).drew) (own8_dr (own8_al ho3.out _)) (Nat.le_refl _) hg6); have HO6 := Lib.hid ho6; clear ho6 hg6)
                | (go_at_call 108; ((with_reducible refine (HS.out _).mono ?_); rintro e w1 ⟨rfl, rfl⟩))
                | (go_at_call 51; ((with_reducible refine (HPut.out _ _ _ (own_src HO6.out) (by have := hyl.out; simp; omega)).mono ?_); rintro e w7 ⟨g7, cap7, rfl, ho7, hb7⟩; have HO7 := Lib.hid ho7; have hb8 := Lib.hid (hb6.out.trans (hb7.mono hb6.out.size)); clear ho7)))
            have HO8 : Hid (Cr.Own w.heap.size w7 (.slice (some ⟨g7, 0, none⟩) (ys.length + (q + 1) + e4) cap7) (esc (zs.take (j + 1)))) := Lib.hid (by rw [hst.out]; have h := own8_rebase HO7.out hb6.out.size; simpa [List.append_assoc] using h)
            clear HO7 hst HPut
            go_wp2
            go_roundw
            case rel => exact ⟨j + 1, by omega, by go_num, HO8, hb8⟩
            case measure => simp [intOf]; omega
    · have hend : j = n := by omega
      subst hend
      have ht : zs.take j = zs := List.take_of_length_le (by rw [HN.out]; omega)
      rw [ht] at ho
      clear ht
      go_wp2
      go_ret
      exact ⟨_, rfl, ho.out, hbel.out⟩
end Go.Proofs.YteklahfgplbmcaaDoor.Hf

/- Two lists of bits in new memory. -/
namespace Go.Proofs.YteklahfgplbmcaaDoor.Hf
open Go Go.ChangeShapes Go.WideShapes Go.ChangeAt Go.RowKit Go.Proofs.YteklahfgplbmcaaDoor.Bk Go.Proofs.YteklahfgplbmcaaDoor.Bi Go.Proofs.YteklahfgplbmcaaDoor.Cr Go.Proofs.YteklahfgplbmcaaDoor.Fx

theorem grown_bel {W w' : World} {n : Nat} (h : W.grownBy w' none) (hn : n ≤ W.heap.size) : Below n W w' := (Below.refl _ _).grown h hn (fun k hk => by cases hk)
set_option maxRecDepth 100000 in
set_option maxHeartbeats 4000000 in
theorem join_ok (v1 v2 : Value) (z1 z2 : List Int) (w : World) (h1 : Src8 w v1 z1) (h2 : Src8 w v2 z2) (l1 : z1.length ≤ 20000) (l2 : z2.length ≤ 20000) :
    Calls Tryd.prog 65 #[v1, v2] w fun e w' => ∃ v, e = .returned v ∧ Cr.Own w.heap.size w' v (z1 ++ z2) ∧ Below w.heap.size w w' := by
  obtain ⟨a1, c1, rfl⟩ := h1.shape
  obtain ⟨a2, c2, rfl⟩ := h2.shape
  obtain ⟨i0, hi, hz0, hz1, hz2⟩ := info_parts info5'
  have S1 := Lib.hid h1
  have S2 := Lib.hid h2
  have hw : IntKind.i64.wrap ((z1.length : Int) + (z2.length : Int)) = ((z1.length + z2.length : Nat) : Int) := by rw [IntKind.wrap_i64]; omega
  obtain ⟨m, hm⟩ : ∃ m, z1.length + z2.length = m := ⟨_, rfl⟩
  rw [hm] at hw
  have hm4 : m ≤ 40000 := by omega
  have HL := Lib.hid (show z1.length ≤ 20000 ∧ z2.length ≤ 20000 from ⟨l1, l2⟩)
  clear h1 h2 hm l1 l2
  go_enter Tryd.func65, Tryd.ntmps65
  go_wp2_with first
    | (refine wpList_make_own _ rfl _ _ 28 rfl w.heap.size 5 i0 (.int .u8 0) 1 Tryd.underlying28 hi hz0 hz1 .i64 .i64 _ m rfl rfl rfl (by rw [hz2]; omega) (by unfold maxLen; omega) (Nat.le_refl _) ?_; intro w1 ho1 hg1; have hb1 := Lib.hid (grown_bel hg1 (Nat.le_refl _)); have HO1 : Hid (Cr.Own w.heap.size w1 (.slice (some ⟨w.heap.size, 0, none⟩) 0 m) []) := Lib.hid ho1; clear ho1 hg1)
    | (at_builtin; refine wpList_append_src _ rfl (.tmp 12) (.tmp 13) rfl w.heap.size _ [] rfl HO1.out _ z1 rfl (S1.out.below hb1.out) (by have := HL.out.1; simp; omega) hb1.out.size ?_; intro v2 w2 ho2 hg2 _; have hb2 := Lib.hid (Go.Proofs.YteklahfgplbmcaaDoor.Cr.below_grown hb1.out HO1.out (Nat.le_refl _) hg2); have HO2 := Lib.hid ho2; clear ho2 hg2)
    | (at_builtin; refine wpList_append_src _ rfl (.tmp 14) (.tmp 15) rfl w.heap.size _ _ rfl HO2.out _ z2 rfl (S2.out.below hb2.out) (by have := HL.out; simp; omega) hb2.out.size ?_; intro v3 w3 ho3 hg3 _; have hb3 := Lib.hid (Go.Proofs.YteklahfgplbmcaaDoor.Cr.below_grown hb2.out HO2.out (Nat.le_refl _) hg3); have HO3 := Lib.hid ho3; clear ho3 hg3)
  go_ret
  exact ⟨_, rfl, HO3.out, hb3.out⟩
end Go.Proofs.YteklahfgplbmcaaDoor.Hf

/- The entry that stands for some values. -/
namespace Go.Proofs.YteklahfgplbmcaaDoor.Hf
open Go Go.ChangeShapes Go.WideShapes Go.ChangeAt Go.RowKit Go.Proofs.YteklahfgplbmcaaDoor.Bk Go.Proofs.YteklahfgplbmcaaDoor.Bi Go.Proofs.YteklahfgplbmcaaDoor.Cr Go.Proofs.YteklahfgplbmcaaDoor.Fx

theorem fE_eX {i : Int} {zs : List Int} (h : fE i zs ≠ 0) : eX i zs = fE i zs ∧ eE i zs = 0 := by
  have e : eX i zs = fE i zs := by
    unfold fE eX at *
    by_cases h1 : i < 1 ∨ 11 < i
    · rw [if_pos h1, if_pos h1]
    · rw [if_neg h1] at h ⊢
      rw [if_neg h1]
      by_cases h2 : zs.length = dm i.toNat
      · rw [if_neg (by simp [h2])] at h; exact absurd rfl h
      · rw [if_pos h2, if_pos h2]
  exact ⟨e, by unfold eE; rw [if_neg (by rw [e]; exact h)]⟩
theorem fR_no {i : Int} {zs : List Int} (h : fE i zs = 0) (h2 : fR i zs = false) : eX i zs = 2 ∧ eE i zs = 0 := by
  have e : eX i zs = 2 := by
    unfold fE fR eX at *
    by_cases h1 : i < 1 ∨ 11 < i
    · rw [if_pos h1]
    · rw [if_neg h1] at h h2 ⊢
      by_cases h3 : zs.length = dm i.toNat
      · rw [if_neg (by simp [h3])] at h2 ⊢
        rw [if_neg (by simp [h2])]
      · rw [if_pos h3] at h; exact absurd h (by decide)
  exact ⟨e, by unfold eE; rw [if_neg (by rw [e]; decide)]⟩
theorem fR_yes {i : Int} {zs : List Int} (h : fE i zs = 0) (h2 : fR i zs = true) : eX i zs = 0 := by
  unfold fE fR eX at *
  by_cases h1 : i < 1 ∨ 11 < i
  · rw [if_pos h1] at h2; exact absurd h2 (by decide)
  · rw [if_neg h1] at h h2 ⊢
    by_cases h3 : zs.length = dm i.toNat
    · rw [if_neg (by simp [h3])] at h2 ⊢
      rw [if_pos h2]
    · rw [if_pos h3] at h2; exact absurd h2 (by decide)
theorem rd_of_row {w : World} {g n : Nat} {zs : List Int} (h : w.rowIs g 3 n (fun j => .int .i64 (zs.getD j 0))) (hn : zs.length = n) (hm : n ≤ maxLen) : Rd w (.slice (some ⟨g, 0, none⟩) n n) zs :=
  rd_row h hn hm (fun j _ => rfl)
set_option maxRecDepth 100000 in
set_option maxHeartbeats 8000000 in
theorem entryOf_szs (id : Nat) (v : Value) (zs : List Int) (w : World) (hs : Sh w) (h1 : 1 ≤ id) (h2 : id ≤ 11) (hr : Rd w v zs) (hl : zs.length ≤ 4) (hb : ∀ z ∈ zs, -8191 ≤ z ∧ z ≤ 8191) (hsg : sgd id = false)
    (HF : Hid (∀ w', Below w.heap.size w w' → Calls Tryd.prog 36 #[.int .i64 id, v] w' fun e w'' => e = .returned (.tuple #[.bool true, .int .i64 0]) ∧ Below w'.heap.size w' w''))
    (hx : entX id (zs.map (sz1 id)) = 0) :
    Calls Tryd.prog 89 #[.int .i64 id, v] w fun e w' => e = .returned (.tuple #[.int .i64 (entI id (zs.map (sz1 id))), .int .i64 0]) ∧ Below w.heap.size w w' := by
  obtain ⟨A, cap, rfl, hA⟩ := hr.open
  obtain ⟨i0, hi, hz0, hz1, hz2⟩ := info_parts' info3
  have HA := Lib.hid hA
  have HB := Lib.hid hb
  have HSg := Lib.hid (fun w => signed_ok (id : Int) w)
  rw [hsg] at HSg
  have HSz := Lib.hid (fun (z : Int) (w : World) (h : -8191 ≤ z ∧ z ≤ 8191) => size_v z w (by omega) (by omega))
  have HEn := Lib.hid (fun (w' : World) (v : Value) (hbw : Below w.heap.size w w') (h : Rd w' v (zs.map (sz1 id))) => by
    have := entry_ok id v (zs.map (sz1 id)) w' h1 (by omega) (hs.below hbw) (by rw [List.length_map]; unfold maxLen; omega) (fun u hu => by
      obtain ⟨z, hz, rfl⟩ := List.mem_map.1 hu
      have := hb z hz
      unfold sz1; split <;> omega) h
    rw [hx] at this
    exact this)
  obtain ⟨n, hn⟩ : ∃ n, zs.length = n := ⟨_, rfl⟩
  have HN := Lib.hid hn
  rw [hn] at hl HF ⊢
  clear hA hn hr hb hsg hx hs
  have hml : (zs.map (sz1 id)).length = zs.length := List.length_map ..
  have HG : Hid (∀ j, j < zs.length → (zs.map (sz1 id)).getD j 0 = sz1 id (zs.getD j 0)) := Lib.hid fun j hj => by simp [List.getD_eq_getElem?_getD, List.getElem?_map, List.getElem?_eq_getElem hj]
  rw [HN.out] at hml HG
  obtain ⟨ms, hms⟩ : ∃ ms, zs.map (sz1 id) = ms := ⟨_, rfl⟩
  rw [hms] at hml HG HEn ⊢
  have HML := Lib.hid hml
  clear hms hml
  obtain ⟨X, hX⟩ : ∃ X, entI id ms = X := ⟨_, rfl⟩
  rw [hX] at HEn ⊢
  clear hX
  have h11I : (id : Int) = 11 ∨ ((id : Int) == 11) = false := by
    by_cases h : (id : Int) = 11
    · exact .inl h
    · exact .inr (by simp [h])
  have HZ1 : Hid (∀ v : Int, sz1 id v = if (id : Int) = 11 then ((min v.natAbs 16 : Nat) : Int) else (v.natAbs : Int)) := Lib.hid fun v => rfl
  generalize (id : Int) = I at *
  go_enter Tryd.func89, Tryd.ntmps89
  go_wp2_with first
    | (go_at_call 36; ((with_reducible refine (HF.out _ (Below.refl _ _)).mono ?_); rintro e w1 ⟨rfl, hb1⟩; have B1 := Lib.hid hb1; clear hb1))
    | (go_at_call 70; ((with_reducible refine (HSg.out _).mono ?_); rintro e w2 ⟨rfl, rfl⟩))
    | (refine wpList_make_row _ rfl _ _ 22 rfl 3 i0 (.int .i64 0) Tryd.underlying22 hi hz0 hz1 rfl .i64 .i64 n rfl rfl (by rw [hz2]; omega) (by omega) ?_)
  have R0 : Hid ((w1.alloc (.cells (madeCells #[.int .i64 0] n) 3)).rowIs w1.heap.size 3 n (fun k => .int .i64 (if k < 0 then ms.getD k 0 else 0))) := Lib.hid ((World.rowIs_made w1 (.int .i64 0) n 3).congr (fun k _ => by rw [if_neg (by omega)]))
  have B2 := Lib.hid (B1.out.alloc B1.out.size (.cells (madeCells #[.int .i64 0] n) 3))
  have HSS := Lib.hid B1.out.size
  generalize w1.alloc (.cells (madeCells #[.int .i64 0] n) 3) = W2 at *
  generalize w1.heap.size = S at *
  clear B1 HF
  go_loopw [34] (fun i wr => ∃ j : Nat, j ≤ n ∧ i = .int .i64 j ∧ Hid (wr.rowIs S 3 n (fun k => .int .i64 (if k < j then ms.getD k 0 else 0))) ∧ Hid (Below w.heap.size w wr)) (fun i _ => n - (intOf i).toNat)
  case atStart => exact ⟨0, by omega, rfl, R0, B2⟩
  case round =>
    obtain ⟨j, hj, rfl, hR, hbel⟩ := hrel
    by_cases hlt : j < n
    · obtain ⟨b, off, rfl, hb, c1'⟩ := HA.out j (by rw [HN.out]; exact hlt)
      have c1 := (hbel.out.cell (p := ⟨b, off + j, none⟩) hb).trans c1'
      have hzb := HB.out (zs.getD j 0) (by rw [List.getD_eq_getElem?_getD, List.getElem?_eq_getElem (by rw [HN.out]; exact hlt)]; exact List.getElem_mem _)
      have hg := Lib.hid (HG.out j hlt)
      clear c1'
      obtain ⟨z, hz⟩ : ∃ z, zs.getD j 0 = z := ⟨_, rfl⟩
      rw [hz] at c1 hg hzb
      have HS := Lib.hid (fun w => HSz.out z w hzb)
      have c2 := hR.out.cell (i := j) hlt
      have c3 := hR.out.frozen j
      rw [if_neg (Nat.lt_irrefl j)] at c2
      have hgz := Lib.hid (hg.out.trans (HZ1.out z))
      have hzn : z.natAbs ≤ 8191 := by omega
      obtain ⟨q, hq⟩ : ∃ q : Nat, z.natAbs = q := ⟨_, rfl⟩
      rw [hq] at HS hgz hzn
      clear hz hg hq hzb
      have hR2 : Hid (∀ u : Int, u = ms.getD j 0 → (wr.setCell ⟨S, j, none⟩ (.int .i64 u)).rowIs S 3 n (fun k => .int .i64 (if k < j + 1 then ms.getD k 0 else 0))) := Lib.hid fun u hu => (hR.out.set j (.int .i64 u)).congr (fun k hk => by
        by_cases hkj : k = j
        · subst hkj; rw [if_pos rfl, if_pos (Nat.lt_succ_self k), hu]
        · rw [if_neg hkj]
          by_cases hkl : k < j
          · rw [if_pos hkl, if_pos (by omega)]
          · rw [if_neg hkl, if_neg (by omega)])
      have hR3 : Hid (∀ u y : Int, u = ms.getD j 0 → ((wr.setCell ⟨S, j, none⟩ (.int .i64 y)).setCell ⟨S, j, none⟩ (.int .i64 u)).rowIs S 3 n (fun k => .int .i64 (if k < j + 1 then ms.getD k 0 else 0))) := Lib.hid fun u y hu => ((hR.out.set j (.int .i64 y)).set j (.int .i64 u)).congr (fun k hk => by
        by_cases hkj : k = j
        · subst hkj; rw [if_pos rfl, if_pos (Nat.lt_succ_self k), hu]
        · rw [if_neg hkj, if_neg hkj]
          by_cases hkl : k < j
          · rw [if_pos hkl, if_pos (by omega)]
          · rw [if_neg hkl, if_neg (by omega)])
      rcases h11I with h11 | h11
      · subst h11
        rw [if_pos rfl] at hgz
        have c4 := fun y : Int => (hR.out.set j (.int .i64 y)).cell (i := j) hlt
        have c5 := fun y : Int => (hR.out.set j (.int .i64 y)).frozen j
        simp only [if_pos rfl] at c4
        clear hR
        go_wp2_with (go_at_call 108; ((with_reducible refine (HS.out _).mono ?_); rintro e w5 ⟨rfl, rfl⟩))
        go_roundw
        case rel =>
          have hu : min (q : Int) 16 = ms.getD j 0 := by rw [hgz.out]; omega
          exact ⟨j + 1, by omega, by go_num, Lib.hid (hR3.out _ _ hu), Lib.hid ((hbel.out.setCell (p := ⟨S, j, none⟩) HSS.out _).setCell (p := ⟨S, j, none⟩) HSS.out _)⟩
        case measure => simp [intOf]; omega
      · rw [if_neg (by simpa using h11)] at hgz
        clear hR
        go_wp2_with (go_at_call 108; ((with_reducible refine (HS.out _).mono ?_); rintro e w5 ⟨rfl, rfl⟩))
        go_roundw
        case rel => exact ⟨j + 1, by omega, by go_num, Lib.hid (hR2.out _ hgz.out.symm), Lib.hid (hbel.out.setCell (p := ⟨S, j, none⟩) HSS.out _)⟩
        case measure => simp [intOf]; omega
    · have hend : j = n := by omega
      subst hend
      have hrd := Lib.hid (rd_of_row (hR.out.congr (g := fun k => .int .i64 (ms.getD k 0)) (fun k hk => by rw [if_pos hk])) HML.out (by unfold maxLen; omega))
      clear hR
      go_wp2_with (go_at_call 22; ((with_reducible refine (HEn.out _ _ hbel.out hrd.out).mono ?_); rintro e w5 ⟨rfl, hb5⟩; have B5 := Lib.hid (hbel.out.trans (hb5.mono hbel.out.size)); clear hb5))
      go_ret2
      exact ⟨rfl, B5.out⟩

set_option maxHeartbeats 4000000 in
theorem entryOf_any (i : Int) (v : Value) (zs : List Int) (w : World) (hs : Sh w) (hm : Hm w) (hr : Rd w v zs) (hl : zs.length ≤ maxLen) (hb : ∀ z ∈ zs, -9223372036854775808 ≤ z ∧ z ≤ 9223372036854775807) :
    Calls Tryd.prog 89 #[.int .i64 i, v] w fun e w' => e = .returned (.tuple #[.int .i64 (eE i zs), .int .i64 (eX i zs)]) ∧ Below w.heap.size w w' := by
  have HF := Lib.hid (fun w' (hb : Below w.heap.size w w') => fits_any i v zs w' (hm.below hb) hl (hr.below hb))
  by_cases h1 : fE i zs = 0
  · cases h2 : fR i zs
    · obtain ⟨e1, e2⟩ := fR_no h1 h2
      rw [e1, e2]
      rw [h1, h2] at HF
      clear h1 h2 e1 e2 hs hm hr hl hb
      go_enter Tryd.func89, Tryd.ntmps89
      go_wp2_with (go_at_call 36; ((with_reducible refine (HF.out _ (Below.refl _ _)).mono ?_); rintro e w1 ⟨rfl, hb1⟩))
      go_ret2
      exact ⟨rfl, hb1⟩
    · have e1 := fR_yes h1 h2
      obtain ⟨id, n, rfl, i1, i2, il, ib, eqE, _, _, ex, en⟩ := eE_ok e1
      rw [h1, h2] at HF
      rw [e1, eqE]
      cases hsg : sgd id
      · unfold tld at ex en
        rw [hsg] at ex en
        simp only [Bool.false_eq_true, if_false] at ex en
        obtain ⟨l0, l1, _⟩ := lims i1 i2
        have := entryOf_szs id v zs w hs i1 i2 hr (by rw [il]; exact (facts i1 (by omega)).2.2.2.2.1) (fun z hz => by have := ib z hz; omega) hsg HF ex
        rw [en] at this
        exact this
      · unfold tld at ex en
        rw [hsg] at ex en
        simp only [if_true] at ex en
        have HSg := Lib.hid (fun w => signed_ok (id : Int) w)
        rw [hsg] at HSg
        have HEn := Lib.hid (fun (w' : World) (hbw : Below w.heap.size w w') => by
          have := entry_ok id v zs w' i1 (by omega) (hs.below hbw) hl hb (hr.below hbw)
          rw [ex, en] at this
          exact this)
        clear h1 h2 e1 hs hm hr hl hb il ib ex en eqE hsg
        go_enter Tryd.func89, Tryd.ntmps89
        go_wp2_with first
          | (go_at_call 36; ((with_reducible refine (HF.out _ (Below.refl _ _)).mono ?_); rintro e w1 ⟨rfl, hb1⟩; have B1 := Lib.hid hb1; clear hb1))
          | (go_at_call 70; ((with_reducible refine (HSg.out _).mono ?_); rintro e w2 ⟨rfl, rfl⟩))
          | (go_at_call 22; ((with_reducible refine (HEn.out _ B1.out).mono ?_); rintro e w3 ⟨rfl, hb3⟩; have B3 := Lib.hid (B1.out.trans (hb3.mono B1.out.size)); clear hb3))
        go_ret2
        exact ⟨rfl, B3.out⟩
  · obtain ⟨e1, e2⟩ := fE_eX h1
    rw [e1, e2]
    have hne : (fE i zs == 0) = false := by simp [h1]
    generalize fE i zs = F at *
    generalize fR i zs = R at *
    clear hs hm hr hl hb e1 e2
    go_enter Tryd.func89, Tryd.ntmps89
    go_wp2_with (go_at_call 36; ((with_reducible refine (HF.out _ (Below.refl _ _)).mono ?_); rintro e w1 ⟨rfl, hb1⟩))
    go_ret2
    exact ⟨rfl, hb1⟩
end Go.Proofs.YteklahfgplbmcaaDoor.Hf

/- Values' bits. -/
namespace Go.Proofs.YteklahfgplbmcaaDoor.Hf
open Go Go.ChangeShapes Go.WideShapes Go.ChangeAt Go.RowKit Go.Proofs.YteklahfgplbmcaaDoor.Bk Go.Proofs.YteklahfgplbmcaaDoor.Bi Go.Proofs.YteklahfgplbmcaaDoor.Cr Go.Proofs.YteklahfgplbmcaaDoor.Fx

open Go.Proofs.YteklahfgplbmcaaDoor.BkRf Go.Proofs.YteklahfgplbmcaaDoor.BkPx
noncomputable def vX (i p : Int) (A B : List Int) (zs : List Int) : Int := if IsBk i p A B then eX i zs else 8
noncomputable def vZ (i p : Int) (A B : List Int) (zs : List Int) : List Int := if vX i p A B zs = 0 then vL B i p zs else []
theorem zo_len' {id : Nat} (h1 : 1 ≤ id) (h2 : id ≤ 12) : (zi (ord id)).length = Nn id := by rw [zi_len, ord_len h1 h2]
theorem isbk_nn {i p : Int} {A B : List Int} (h : IsBk i p A B) : ∃ id : Nat, i = id ∧ 1 ≤ id ∧ id ≤ 12 ∧ p = pl id ∧ A.length = Nn id ∧ B.length = Nn id ∧ 1 ≤ Nn id ∧ Nn id ≤ 289 ∧ A = zi (ord id) ∧ B = rkL id := by
  obtain ⟨id, rfl, h1, h2, rfl, rfl, rfl⟩ := h
  have f := facts h1 h2
  exact ⟨id, rfl, h1, h2, rfl, zo_len' h1 h2, rkL_len id, f.2.2.2.2.2.2.1, f.2.2.2.2.2.2.2.1, rfl, rfl⟩
theorem cd_30 {i p : Int} {A B : List Int} (n : Int) : (cdL i p A B n).length ≤ 30 := by
  unfold cdL
  by_cases hk : IsBk i p A B
  · rw [if_pos hk]
    by_cases hn : 0 ≤ n ∧ n < (B.length : Int)
    · rw [if_pos hn]
      obtain ⟨id, rfl, h1, h2, rfl, _, hB, _, _, _, rfl⟩ := isbk_nn hk
      obtain ⟨m, rfl⟩ : ∃ m : Nat, n = (m : Int) := ⟨n.toNat, by omega⟩
      rw [Int.toNat_natCast, Int.toNat_natCast]
      have hm : m < Nn id := by omega
      rw [rkL_get hm]
      have := (cd_19 h1 h2 ((ord_is h1 h2).rank hm).1).1
      show (cd (pl id) (rk id m : Int).toNat).length ≤ 30
      rw [Int.toNat_natCast]
      unfold rk; omega
    · rw [if_neg hn]; simp
  · rw [if_neg hk]; simp
theorem vX_ok {i p : Int} {A B zs : List Int} (hk : IsBk i p A B) (h : eX i zs = 0) : vX i p A B zs = 0 ∧ vZ i p A B zs = vL B i p zs ∧ cdX i p A B (eE i zs) = 0 ∧ cdL i p A B (eE i zs) = cd p.toNat (B.getD (eE i zs).toNat 0).toNat := by
  have e0 : vX i p A B zs = 0 := by unfold vX; rw [if_pos hk, h]
  obtain ⟨id, n, rfl, h1, h2, _, _, en, hn, _⟩ := eE_ok h
  obtain ⟨id', e, _, _, _, _, hB, _⟩ := isbk_nn hk
  obtain rfl : id = id' := by omega
  have hin : 0 ≤ eE (id : Int) zs ∧ eE (id : Int) zs < (B.length : Int) := by rw [en]; omega
  refine ⟨e0, by unfold vZ; rw [if_pos e0], ?_, ?_⟩
  · unfold cdX; rw [if_pos hk, if_pos hin]
  · unfold cdL; rw [if_pos hk, if_pos hin]
theorem vX_bad {i p : Int} {A B zs : List Int} (hk : IsBk i p A B) (h : eX i zs ≠ 0) : vX i p A B zs = eX i zs ∧ vZ i p A B zs = [] ∧ cdX i p A B (eE i zs) = 0 := by
  have e0 : vX i p A B zs = eX i zs := by unfold vX; rw [if_pos hk]
  obtain ⟨id', e, _, _, _, _, hB, h0, _⟩ := isbk_nn hk
  refine ⟨e0, by unfold vZ; rw [if_neg (by rw [e0]; exact h)], ?_⟩
  unfold cdX eE
  rw [if_pos hk, if_neg h, if_pos (by omega)]
theorem vX_no {i p : Int} {A B zs : List Int} (hk : ¬ IsBk i p A B) : vX i p A B zs = 8 ∧ vZ i p A B zs = [] ∧ cdX i p A B (eE i zs) = 8 := by
  have e0 : vX i p A B zs = 8 := by unfold vX; rw [if_neg hk]
  refine ⟨e0, by unfold vZ; rw [if_neg (by rw [e0]; decide)], ?_⟩
  unfold cdX
  rw [if_neg hk]
theorem own_ne {b2 n : Nat} {w : World} {v : Value} {zs : List Int} (h : Cr.Own b2 w v zs) (hn : n < b2) : v.ownBlock ≠ some n := fun e => by
  have := (World.ownsRow.lt h n e).1
  omega
theorem keep_grown {w w3 w4 : World} {a b c d v : Value} {zs : List Int} (h : Below (w.alloc (.cells #[a, b, c, d] 24)).heap.size (w.alloc (.cells #[a, b, c, d] 24)) w3) (_ : Cr.Own w.heap.size w3 v zs) (hg : w3.grownBy w4 v.ownBlock) (hv : v.ownBlock ≠ some w.heap.size) :
    w4.cell? ⟨w.heap.size, 0, none⟩ = some a ∧ w4.cell? ⟨w.heap.size, 1, none⟩ = some b ∧ w4.cell? ⟨w.heap.size, 2, none⟩ = some c ∧ w4.cell? ⟨w.heap.size, 3, none⟩ = some d := by
  obtain ⟨q0, q1, q2, q3⟩ := bx1 h
  have hb : w4.heap[w.heap.size]? = w3.heap[w.heap.size]? := hg.block _ (by have := h.size; simp at this; omega) (fun e => hv e.symm)
  have hc : ∀ k, w4.cell? ⟨w.heap.size, k, none⟩ = w3.cell? ⟨w.heap.size, k, none⟩ := fun k => World.cell?_of_block (w := w3) (a := ⟨w.heap.size, k, none⟩) hb
  exact ⟨(hc 0).trans q0, (hc 1).trans q1, (hc 2).trans q2, (hc 3).trans q3⟩
set_option maxRecDepth 100000 in
set_option maxHeartbeats 8000000 in
theorem vbits_any (i p : Int) (a1 a2 : Option Addr) (c1 c2 : Nat) (A B : List Int) (v : Value) (zs : List Int) (w : World) (hs : Sh w) (hm : Hm w) (r1 : Rd w (.slice a1 A.length c1) A) (r2 : Rd w (.slice a2 B.length c2) B) (rv : Rd w v zs) (hl : zs.length ≤ maxLen) (hb : ∀ z ∈ zs, -9223372036854775808 ≤ z ∧ z ≤ 9223372036854775807) :
    Calls Tryd.prog 64 #[.agg #[.int .i64 i, .int .i64 p, .slice a1 A.length c1, .slice a2 B.length c2], v] w fun e w' => ∃ v', e = .returned (.tuple #[v', .int .i64 (vX i p A B zs)]) ∧ Cr.Own w.heap.size w' v' (vZ i p A B zs) ∧ Below w.heap.size w w' := by
  have HB := Lib.hid (al w (.cells #[.int .i64 i, .int .i64 p, .slice a1 A.length c1, .slice a2 B.length c2] 24))
  have HX := Lib.hid (fun x h => bx1 (w := w) (a := .int .i64 i) (b := .int .i64 p) (c := .slice a1 A.length c1) (d := .slice a2 B.length c2) (x := x) h)
  obtain ⟨p0, p1, p2, p3⟩ := HX.out _ (Below.refl _ _)
  have H89 := Lib.hid (fun x (h : Below w.heap.size w x) => entryOf_any i v zs x (hs.below h) (hm.below h) (rv.below h) hl hb)
  have H16 := Lib.hid (fun x (h : Below w.heap.size w x) => pcd_any i p (eE i zs) a1 a2 c1 c2 A B x (hs.below h) (r1.below h) (r2.below h))
  have H70 := Lib.hid (fun x => signed_ok i x)
  by_cases hk : IsBk i p A B
  · by_cases hx : eX i zs = 0
    · obtain ⟨e1, e2, e3, e4⟩ := vX_ok hk hx
      obtain ⟨id, n0, rfl, h1, h2, hzl, hzb, hzz⟩ := eE_ok hx
      clear hzz n0
      obtain ⟨l0, l1, _⟩ := lims h1 h2
      have hz4 : zs.length ≤ 4 := by rw [hzl]; exact (facts h1 (by omega)).2.2.2.2.1
      have hz8 : ∀ z ∈ zs, -8191 ≤ z ∧ z ≤ 8191 := fun z hz => by have := hzb z hz; omega
      have H90 := Lib.hid (fun x (h : Below w.heap.size w x) => signs_ok v zs x (by omega) (rv.below h))
      have H91 := Lib.hid (fun x (h : Below w.heap.size w x) => escapes_ok v zs x hz4 hz8 (rv.below h))
      have h30 := cd_30 (i := (id : Int)) (p := p) (A := A) (B := B) (eE id zs)
      have hE := esc_len zs hz8
      have hS := sgn_len zs
      rw [e1, e2]
      rw [e3] at H16
      have HV : Hid (vL B id p zs = cdL id p A B (eE id zs) ++ ((if sgd id then [] else sgn zs) ++ (if (id : Int) = 11 then esc zs else []))) := Lib.hid (by rw [e4]; rfl)
      rw [hx] at H89
      generalize cdL id p A B (eE id zs) = L at *
      generalize eE (id : Int) zs = n at *
      have HLn : Hid (L.length ≤ 30 ∧ (esc zs).length ≤ 84 ∧ (sgn zs).length ≤ 4) := Lib.hid ⟨h30, by omega, by omega⟩
      clear e1 e2 e3 e4 hx hk hs hm r1 r2 rv hl hb hzl hzb hz4 hz8 h30 hE hS l0 l1
      cases hsg : sgd (id : Int)
      · rw [hsg] at H70 HV
        simp only [Bool.false_eq_true, if_false] at HV
        by_cases h11 : (id : Int) = 11
        · rw [if_pos h11] at HV
          clear h1 h2 hsg
          generalize (id : Int) = I at *
          subst h11
          rw [HV.out]
          go_enter Tryd.func64, Tryd.ntmps64
          go_wp2_with first
            | (go_at_call 89; ((with_reducible refine (H89.out _ HB.out).mono ?_); rintro e w1 ⟨rfl, hb⟩; have B1 := Lib.hid (bT HB.out hb); have X1 := Lib.hid hb; clear p0 p1 p2 p3; obtain ⟨p0, p1, p2, p3⟩ := HX.out w1 X1.out; clear hb))
            | (go_at_call 16; ((with_reducible refine (H16.out _ B1.out).mono ?_); rintro e w2 ⟨v2, rfl, ho2, hb⟩; have O2 := Lib.hid (own8_rebase ho2 B1.out.size); have HSZ : Hid (v2.ownBlock ≠ some w.heap.size) := Lib.hid (own_ne ho2 (by have := X1.out.size; simp at this; omega)); have B2 := Lib.hid (bT B1.out hb); have X2 := Lib.hid (bT X1.out hb); clear p0 p1 p2 p3 ho2; obtain ⟨p0, p1, p2, p3⟩ := HX.out w2 X2.out; clear hb))
            | (go_at_call 70; ((with_reducible refine (H70.out _).mono ?_); rintro e w8 ⟨rfl, rfl⟩))
            | (go_at_call 90; ((with_reducible refine (H90.out _ B2.out).mono ?_); rintro e w3 ⟨v3, rfl, ho3, hb⟩; have O3 := Lib.hid (own_src ho3); have O23 := Lib.hid (Cr.Own.below O2.out hb); have B3 := Lib.hid (bT B2.out hb); have X3 := Lib.hid (bT X2.out hb); clear p0 p1 p2 p3 ho3; obtain ⟨p0, p1, p2, p3⟩ := HX.out w3 X3.out; clear hb))
            | (at_builtin; refine wpList_append_src _ rfl (.tmp 33) (.tmp 35) rfl w.heap.size _ L rfl O23.out _ (sgn zs) rfl O3.out (by have := HLn.out; omega) B3.out.size ?_; intro v4 w4 ho4 hg4 _; have O4 := Lib.hid ho4; have B4 := Lib.hid (Go.Proofs.YteklahfgplbmcaaDoor.Cr.below_grown B3.out O23.out (Nat.le_refl _) hg4); have K4 := Lib.hid (keep_grown X3.out O23.out hg4 HSZ.out); clear p0 p1 p2 p3 ho4 hg4; obtain ⟨p0, p1, p2, p3⟩ := K4.out)
            | (go_at_call 91; ((with_reducible refine (H91.out _ B4.out).mono ?_); rintro e w5 ⟨v5, rfl, ho5, hb⟩; have O5 := Lib.hid (own_src ho5); have O45 := Lib.hid (Cr.Own.below O4.out hb); have B5 := Lib.hid (bT B4.out hb); clear ho5 hb))
            | (at_builtin; refine wpList_append_src _ rfl (.tmp 40) (.tmp 42) rfl w.heap.size _ _ rfl O45.out _ (esc zs) rfl O5.out (by have := HLn.out; rw [List.length_append]; omega) B5.out.size ?_; intro v6 w6 ho6 hg6 _; have O6 := Lib.hid ho6; have B6 := Lib.hid (Go.Proofs.YteklahfgplbmcaaDoor.Cr.below_grown B5.out O45.out (Nat.le_refl _) hg6); clear ho6 hg6)
          go_ret2
          exact ⟨_, rfl, by rw [← List.append_assoc]; exact O6.out, B6.out⟩
        · rw [if_neg h11, List.append_nil] at HV
          have h11b : ((id : Int) == 11) = false := by simp [h11]
          clear h1 h2 hsg h11
          generalize (id : Int) = I at *
          rw [HV.out]
          go_enter Tryd.func64, Tryd.ntmps64
          go_wp2_with first
            | (go_at_call 89; ((with_reducible refine (H89.out _ HB.out).mono ?_); rintro e w1 ⟨rfl, hb⟩; have B1 := Lib.hid (bT HB.out hb); have X1 := Lib.hid hb; clear p0 p1 p2 p3; obtain ⟨p0, p1, p2, p3⟩ := HX.out w1 X1.out; clear hb))
            | (go_at_call 16; ((with_reducible refine (H16.out _ B1.out).mono ?_); rintro e w2 ⟨v2, rfl, ho2, hb⟩; have O2 := Lib.hid (own8_rebase ho2 B1.out.size); have HSZ : Hid (v2.ownBlock ≠ some w.heap.size) := Lib.hid (own_ne ho2 (by have := X1.out.size; simp at this; omega)); have B2 := Lib.hid (bT B1.out hb); have X2 := Lib.hid (bT X1.out hb); clear p0 p1 p2 p3 ho2; obtain ⟨p0, p1, p2, p3⟩ := HX.out w2 X2.out; clear hb))
            | (go_at_call 70; ((with_reducible refine (H70.out _).mono ?_); rintro e w8 ⟨rfl, rfl⟩))
            | (go_at_call 90; ((with_reducible refine (H90.out _ B2.out).mono ?_); rintro e w3 ⟨v3, rfl, ho3, hb⟩; have O3 := Lib.hid (own_src ho3); have O23 := Lib.hid (Cr.Own.below O2.out hb); have B3 := Lib.hid (bT B2.out hb); have X3 := Lib.hid (bT X2.out hb); clear p0 p1 p2 p3 ho3; obtain ⟨p0, p1, p2, p3⟩ := HX.out w3 X3.out; clear hb))
            | (at_builtin; refine wpList_append_src _ rfl (.tmp 33) (.tmp 35) rfl w.heap.size _ L rfl O23.out _ (sgn zs) rfl O3.out (by have := HLn.out; omega) B3.out.size ?_; intro v4 w4 ho4 hg4 _; have O4 := Lib.hid ho4; have B4 := Lib.hid (Go.Proofs.YteklahfgplbmcaaDoor.Cr.below_grown B3.out O23.out (Nat.le_refl _) hg4); have K4 := Lib.hid (keep_grown X3.out O23.out hg4 HSZ.out); clear p0 p1 p2 p3 ho4 hg4; obtain ⟨p0, p1, p2, p3⟩ := K4.out)
          go_ret2
          exact ⟨_, rfl, O4.out, B4.out⟩
      · rw [hsg] at H70 HV
        simp only [if_true] at HV
        have h11b : ((id : Int) == 11) = false := by
          have : id ≠ 11 := by intro h; subst h; exact absurd hsg (by decide)
          simp; omega
        rw [if_neg (by simpa using h11b), List.append_nil, List.append_nil] at HV
        clear h1 h2 hsg H90 H91
        generalize (id : Int) = I at *
        rw [HV.out]
        go_enter Tryd.func64, Tryd.ntmps64
        go_wp2_with first
          | (go_at_call 89; ((with_reducible refine (H89.out _ HB.out).mono ?_); rintro e w1 ⟨rfl, hb⟩; have B1 := Lib.hid (bT HB.out hb); have X1 := Lib.hid hb; clear p0 p1 p2 p3; obtain ⟨p0, p1, p2, p3⟩ := HX.out w1 X1.out; clear hb))
          | (go_at_call 16; ((with_reducible refine (H16.out _ B1.out).mono ?_); rintro e w2 ⟨v2, rfl, ho2, hb⟩; have O2 := Lib.hid (own8_rebase ho2 B1.out.size); have HSZ : Hid (v2.ownBlock ≠ some w.heap.size) := Lib.hid (own_ne ho2 (by have := X1.out.size; simp at this; omega)); have B2 := Lib.hid (bT B1.out hb); have X2 := Lib.hid (bT X1.out hb); clear p0 p1 p2 p3 ho2; obtain ⟨p0, p1, p2, p3⟩ := HX.out w2 X2.out; clear hb))
          | (go_at_call 70; ((with_reducible refine (H70.out _).mono ?_); rintro e w8 ⟨rfl, rfl⟩))
        go_ret2
        exact ⟨_, rfl, O2.out, B2.out⟩
    · obtain ⟨e1, e2, e3⟩ := vX_bad hk hx
      rw [e1, e2]
      rw [e3] at H16
      have hne : (eX i zs == 0) = false := by simp [hx]
      generalize eX i zs = X at *
      generalize cdL i p A B (eE i zs) = L at *
      generalize eE i zs = n at *
      clear e1 e2 e3 hk hs hm r1 r2 rv hl hb
      go_enter Tryd.func64, Tryd.ntmps64
      go_wp2_with first
        | (go_at_call 89; ((with_reducible refine (H89.out _ HB.out).mono ?_); rintro e w1 ⟨rfl, hb⟩; have B1 := Lib.hid (bT HB.out hb); have X1 := Lib.hid hb; clear p0 p1 p2 p3; obtain ⟨p0, p1, p2, p3⟩ := HX.out w1 X1.out; clear hb))
        | (go_at_call 16; ((with_reducible refine (H16.out _ B1.out).mono ?_); rintro e w2 ⟨v2, rfl, ho2, hb⟩; have O2 := Lib.hid (own8_rebase ho2 B1.out.size); have HSZ : Hid (v2.ownBlock ≠ some w.heap.size) := Lib.hid (own_ne ho2 (by have := X1.out.size; simp at this; omega)); have B2 := Lib.hid (bT B1.out hb); have X2 := Lib.hid (bT X1.out hb); clear p0 p1 p2 p3 ho2; obtain ⟨p0, p1, p2, p3⟩ := HX.out w2 X2.out; clear hb))
      go_ret2
      exact ⟨_, rfl, own8n _ _, B2.out⟩
  · obtain ⟨e1, e2, e3⟩ := vX_no (zs := zs) hk
    rw [e1, e2]
    rw [e3] at H16
    generalize eX i zs = X at *
    generalize cdL i p A B (eE i zs) = L at *
    generalize eE i zs = n at *
    clear e1 e2 e3 hk hs hm r1 r2 rv hl hb
    go_enter Tryd.func64, Tryd.ntmps64
    go_wp2_with first
      | (go_at_call 89; ((with_reducible refine (H89.out _ HB.out).mono ?_); rintro e w1 ⟨rfl, hb⟩; have B1 := Lib.hid (bT HB.out hb); have X1 := Lib.hid hb; clear p0 p1 p2 p3; obtain ⟨p0, p1, p2, p3⟩ := HX.out w1 X1.out; clear hb))
      | (go_at_call 16; ((with_reducible refine (H16.out _ B1.out).mono ?_); rintro e w2 ⟨v2, rfl, ho2, hb⟩; have O2 := Lib.hid (own8_rebase ho2 B1.out.size); have HSZ : Hid (v2.ownBlock ≠ some w.heap.size) := Lib.hid (own_ne ho2 (by have := X1.out.size; simp at this; omega)); have B2 := Lib.hid (bT B1.out hb); have X2 := Lib.hid (bT X1.out hb); clear p0 p1 p2 p3 ho2; obtain ⟨p0, p1, p2, p3⟩ := HX.out w2 X2.out; clear hb))
    go_ret2
    exact ⟨_, rfl, own8n _ _, B2.out⟩
end Go.Proofs.YteklahfgplbmcaaDoor.Hf

/- Put and Cost, of whatever book. -/
namespace Go.Proofs.YteklahfgplbmcaaDoor.Hf
open Go Go.ChangeShapes Go.WideShapes Go.ChangeAt Go.RowKit Go.Proofs.YteklahfgplbmcaaDoor.Bk Go.Proofs.YteklahfgplbmcaaDoor.Bi Go.Proofs.YteklahfgplbmcaaDoor.Cr Go.Proofs.YteklahfgplbmcaaDoor.Fx

open Go.Proofs.YteklahfgplbmcaaDoor.BkRf Go.Proofs.YteklahfgplbmcaaDoor.BkPx
theorem vZ_len (i p : Int) (A B zs : List Int) : (vZ i p A B zs).length ≤ 120 := by
  unfold vZ
  by_cases h : vX i p A B zs = 0
  · rw [if_pos h]
    have hk : IsBk i p A B := by
      by_cases hk : IsBk i p A B
      · exact hk
      · rw [(vX_no (zs := zs) hk).1] at h; exact absurd h (by decide)
    have hx : eX i zs = 0 := by
      unfold vX at h; rwa [if_pos hk] at h
    obtain ⟨_, _, _, e4⟩ := vX_ok hk hx
    have h30 := cd_30 (i := i) (p := p) (A := A) (B := B) (eE i zs)
    rw [e4] at h30
    obtain ⟨id, n, rfl, h1, h2, hzl, hzb, _⟩ := eE_ok hx
    obtain ⟨l0, l1, _⟩ := lims h1 h2
    have hz4 : zs.length ≤ 4 := by rw [hzl]; exact (facts h1 (by omega)).2.2.2.2.1
    have hE := esc_len zs (fun z hz => by have := hzb z hz; omega)
    have hS := sgn_len zs
    unfold vL
    rw [List.length_append, List.length_append]
    have q1 : (if sgd (id : Int) = true then [] else sgn zs).length ≤ 4 := by
      split
      · exact Nat.zero_le _
      · omega
    have q2 : (if (id : Int) = 11 then esc zs else []).length ≤ 84 := by
      split
      · omega
      · exact Nat.zero_le _
    omega
  · rw [if_neg h]; simp
/-- What Put answers. -/
noncomputable def pZ (zb : List Int) (i p : Int) (A B : List Int) (zs : List Int) : List Int := if vX i p A B zs = 0 then zb ++ vZ i p A B zs else []
set_option maxRecDepth 100000 in
set_option maxHeartbeats 4000000 in
theorem put_any (vb : Value) (zb : List Int) (i p : Int) (a1 a2 : Option Addr) (c1 c2 : Nat) (A B : List Int) (v : Value) (zs : List Int) (w : World) (hs : Sh w) (hm : Hm w) (r1 : Rd w (.slice a1 A.length c1) A) (r2 : Rd w (.slice a2 B.length c2) B) (rv : Rd w v zs) (hl : zs.length ≤ maxLen) (hb : ∀ z ∈ zs, -9223372036854775808 ≤ z ∧ z ≤ 9223372036854775807) (sb : Src8 w vb zb) (lb : zb.length ≤ 20000) :
    Calls Tryd.prog 30 #[vb, .agg #[.int .i64 i, .int .i64 p, .slice a1 A.length c1, .slice a2 B.length c2], v] w fun e w' => ∃ v', e = .returned (.tuple #[v', .int .i64 (vX i p A B zs)]) ∧ Cr.Own w.heap.size w' v' (pZ zb i p A B zs) ∧ Below w.heap.size w w' := by
  have HB := Lib.hid (al w (.cells #[.int .i64 i, .int .i64 p, .slice a1 A.length c1, .slice a2 B.length c2] 24))
  obtain ⟨p0, p1, p2, p3⟩ := bx1 (w := w) (a := .int .i64 i) (b := .int .i64 p) (c := .slice a1 A.length c1) (d := .slice a2 B.length c2) (Below.refl _ _)
  have H64 := Lib.hid (fun x (h : Below w.heap.size w x) => vbits_any i p a1 a2 c1 c2 A B v zs x (hs.below h) (hm.below h) (r1.below h) (r2.below h) (rv.below h) hl hb)
  have hz := vZ_len i p A B zs
  have HJ := Lib.hid (fun (x : World) (v2 : Value) (h : Below w.heap.size w x) (h2 : Src8 x v2 (vZ i p A B zs)) => join_ok vb v2 zb (vZ i p A B zs) x (sb.below h) h2 lb (by omega))
  have HP : Hid (vX i p A B zs = 0 → pZ zb i p A B zs = zb ++ vZ i p A B zs) := Lib.hid fun h => by unfold pZ; rw [if_pos h]
  have HN : Hid (vX i p A B zs ≠ 0 → pZ zb i p A B zs = []) := Lib.hid fun h => by unfold pZ; rw [if_neg h]
  generalize vX i p A B zs = X at *
  generalize vZ i p A B zs = Z at *
  generalize pZ zb i p A B zs = T at *
  clear hs hm r1 r2 rv hl hb sb lb hz
  by_cases hX : X = 0
  · have HT := Lib.hid (HP.out hX)
    subst hX
    clear HP HN
    go_enter Tryd.func30, Tryd.ntmps30
    go_wp2_with first
      | (go_at_call 64; ((with_reducible refine (H64.out _ HB.out).mono ?_); rintro e w1 ⟨v1, rfl, ho1, hb⟩; have O1 := Lib.hid (own_src ho1); have B1 := Lib.hid (bT HB.out hb); clear ho1 hb))
      | (go_at_call 65; ((with_reducible refine (HJ.out _ _ B1.out O1.out).mono ?_); rintro e w2 ⟨v2, rfl, ho2, hb⟩; have O2 := Lib.hid (own8_rebase ho2 B1.out.size); have B2 := Lib.hid (bT B1.out hb); clear ho2 hb))
    go_ret2
    exact ⟨_, rfl, by rw [HT.out]; exact O2.out, B2.out⟩
  · have HT := Lib.hid (HN.out hX)
    have hne : (X == 0) = false := by simp [hX]
    clear HP HN HJ
    go_enter Tryd.func30, Tryd.ntmps30
    go_wp2_with first
      | (go_at_call 64; ((with_reducible refine (H64.out _ HB.out).mono ?_); rintro e w1 ⟨v1, rfl, ho1, hb⟩; have B1 := Lib.hid (bT HB.out hb); clear ho1 hb))
    go_ret2
    exact ⟨_, rfl, by rw [HT.out]; exact own8n _ _, B1.out⟩
set_option maxRecDepth 100000 in
set_option maxHeartbeats 4000000 in
theorem cost_any (i p : Int) (a1 a2 : Option Addr) (c1 c2 : Nat) (A B : List Int) (v : Value) (zs : List Int) (w : World) (hs : Sh w) (hm : Hm w) (r1 : Rd w (.slice a1 A.length c1) A) (r2 : Rd w (.slice a2 B.length c2) B) (rv : Rd w v zs) (hl : zs.length ≤ maxLen) (hb : ∀ z ∈ zs, -9223372036854775808 ≤ z ∧ z ≤ 9223372036854775807) :
    Calls Tryd.prog 34 #[.agg #[.int .i64 i, .int .i64 p, .slice a1 A.length c1, .slice a2 B.length c2], v] w fun e w' => e = .returned (.tuple #[.int .i64 ((vZ i p A B zs).length : Nat), .int .i64 (vX i p A B zs)]) ∧ Below w.heap.size w w' := by
  have HB := Lib.hid (al w (.cells #[.int .i64 i, .int .i64 p, .slice a1 A.length c1, .slice a2 B.length c2] 24))
  obtain ⟨p0, p1, p2, p3⟩ := bx1 (w := w) (a := .int .i64 i) (b := .int .i64 p) (c := .slice a1 A.length c1) (d := .slice a2 B.length c2) (Below.refl _ _)
  have H64 := Lib.hid (fun x (h : Below w.heap.size w x) => vbits_any i p a1 a2 c1 c2 A B v zs x (hs.below h) (hm.below h) (r1.below h) (r2.below h) (rv.below h) hl hb)
  generalize vX i p A B zs = X at *
  generalize vZ i p A B zs = Z at *
  clear hs hm r1 r2 rv hl hb
  go_enter Tryd.func34, Tryd.ntmps34
  go_wp2_with first
    | (go_at_call 64; ((with_reducible refine (H64.out _ HB.out).mono ?_); rintro e w1 ⟨v1, rfl, ho1, hb⟩; obtain ⟨a9, c9, rfl⟩ := (own_src ho1).shape; have B1 := Lib.hid (bT HB.out hb); clear ho1 hb))
  go_ret2
  exact ⟨rfl, B1.out⟩
theorem isbk_of {id : Nat} (h1 : 1 ≤ id) (h2 : id ≤ 12) : IsBk id (pl id) (zi (ord id)) (rkL id) := ⟨id, rfl, h1, h2, rfl, rfl, rfl⟩
theorem get_bk {id : Nat} (h1 : 1 ≤ id) (h2 : id ≤ 12) (w : World) (hs : Sh w) : Calls Tryd.prog 15 #[.int .i64 id] w fun e w' => ∃ a1 c1 a2 c2, e = .returned (.tuple #[.agg #[.int .i64 id, .int .i64 (pl id), .slice a1 (zi (ord id)).length c1, .slice a2 (rkL id).length c2], .int .i64 0]) ∧ Rd w' (.slice a1 (zi (ord id)).length c1) (zi (ord id)) ∧ Rd w' (.slice a2 (rkL id).length c2) (rkL id) ∧ Below w.heap.size w w' := by
  have f8 : Nn id ≤ 289 := (facts h1 h2).2.2.2.2.2.2.2.1
  refine (get_ok id w h1 h2 hs).mono ?_
  rintro e w' ⟨v, rfl, ⟨E, R, rfl, _, _, hE, hR⟩, hb⟩
  rw [zo_len' h1 h2, rkL_len]
  exact ⟨_, _, _, _, rfl, rd_row hE (zo_len' h1 h2) (by unfold maxLen; omega) (fun j _ => by
    unfold ordI zi
    simp only [List.getD_eq_getElem?_getD, List.getElem?_map]
    cases (ord id)[j]? <;> rfl), rd_row hR (rkL_len id) (by unfold maxLen; omega) (fun j hj => (rkL_get hj).symm), hb⟩
end Go.Proofs.YteklahfgplbmcaaDoor.Hf

/- The examples that stand ahead of each statement. -/
namespace Go.Proofs.YteklahfgplbmcaaDoor.Hf
open Go Go.ChangeShapes Go.WideShapes Go.ChangeAt Go.RowKit Go.Proofs.YteklahfgplbmcaaDoor.Bk Go.Proofs.YteklahfgplbmcaaDoor.Bi Go.Proofs.YteklahfgplbmcaaDoor.Cr Go.Proofs.YteklahfgplbmcaaDoor.Fx

open Go.Proofs.YteklahfgplbmcaaDoor.BkRf Go.Proofs.YteklahfgplbmcaaDoor.BkPx
theorem one_put : pZ [] (1 : Nat) (pl 1) (zi (ord 1)) (rkL 1) [0, 0, 0, 0] = [1] ∧ vX (1 : Nat) (pl 1) (zi (ord 1)) (rkL 1) [0, 0, 0, 0] = 0 := by
  obtain ⟨e1, e2, _, _⟩ := vX_ok (zs := [0, 0, 0, 0]) (isbk_of (id := 1) (by decide) (by decide)) (by decide)
  refine ⟨?_, e1⟩
  unfold pZ
  rw [if_pos e1, e2]
  decide +kernel
theorem last_put : pZ [] (11 : Nat) (pl 11) (zi (ord 11)) (rkL 11) [0, 0] = [1, 0, 0] ∧ vX (11 : Nat) (pl 11) (zi (ord 11)) (rkL 11) [0, 0] = 0 := by
  obtain ⟨e1, e2, _, _⟩ := vX_ok (zs := [0, 0]) (isbk_of (id := 11) (by decide) (by decide)) (by decide)
  refine ⟨?_, e1⟩
  unfold pZ
  rw [if_pos e1, e2]
  decide +kernel
theorem al_b {w x : World} {o : Obj} (h : Below w.heap.size w x) : Below w.heap.size w (x.alloc o) := h.alloc h.size o
theorem bkeep {x y : World} {a1 : Option Addr} {n1 c1 : Nat} {a2 : Option Addr} {n2 c2 : Nat} {A B : List Int} {P Q : Prop} (h : Hid (P ∧ Q ∧ Rd x (.slice a1 n1 c1) A ∧ Rd x (.slice a2 n2 c2) B)) (hb : Below x.heap.size x y) : Hid (P ∧ Q ∧ Rd y (.slice a1 n1 c1) A ∧ Rd y (.slice a2 n2 c2) B) := Lib.hid ⟨h.out.1, h.out.2.1, h.out.2.2.1.below hb, h.out.2.2.2.below hb⟩
theorem src_nil (w : World) : Src8 w (.slice none 0 0) [] := .inl ⟨rfl, rfl⟩
set_option maxRecDepth 100000 in
set_option maxHeartbeats 8000000 in
theorem alive_ok (w : World) (hs : Sh w) (hm : Hm w) : Calls Tryd.prog 44 #[] w fun e w' => e = .returned (.bool true) ∧ Below w.heap.size w w' := by
  have G1 : Hid (∀ x, Below w.heap.size w x → Calls Tryd.prog 15 #[.int .i64 1] x fun e w' => ∃ a1 n1 c1 a2 n2 c2, e = .returned (.tuple #[.agg #[.int .i64 1, .int .i64 0, .slice a1 n1 c1, .slice a2 n2 c2], .int .i64 0]) ∧ Hid (n1 = (zi (ord 1)).length ∧ n2 = (rkL 1).length ∧ Rd w' (.slice a1 n1 c1) (zi (ord 1)) ∧ Rd w' (.slice a2 n2 c2) (rkL 1)) ∧ Below x.heap.size x w') := Lib.hid fun x h => (get_bk (id := 1) (by decide) (by decide) x (hs.below h)).mono fun e w' ⟨a1, c1, a2, c2, e1, r1, r2, b⟩ => ⟨a1, _, c1, a2, _, c2, e1, Lib.hid ⟨rfl, rfl, r1, r2⟩, b⟩
  have G2 : Hid (∀ x, Below w.heap.size w x → Calls Tryd.prog 15 #[.int .i64 11] x fun e w' => ∃ a1 n1 c1 a2 n2 c2, e = .returned (.tuple #[.agg #[.int .i64 11, .int .i64 2, .slice a1 n1 c1, .slice a2 n2 c2], .int .i64 0]) ∧ Hid (n1 = (zi (ord 11)).length ∧ n2 = (rkL 11).length ∧ Rd w' (.slice a1 n1 c1) (zi (ord 11)) ∧ Rd w' (.slice a2 n2 c2) (rkL 11)) ∧ Below x.heap.size x w') := Lib.hid fun x h => (get_bk (id := 11) (by decide) (by decide) x (hs.below h)).mono fun e w' ⟨a1, c1, a2, c2, e1, r1, r2, b⟩ => ⟨a1, _, c1, a2, _, c2, e1, Lib.hid ⟨rfl, rfl, r1, r2⟩, b⟩
  have P1 : Hid (∀ (x : World) (a1 : Option Addr) (n1 c1 : Nat) (a2 : Option Addr) (n2 c2 : Nat) (v : Value), Below w.heap.size w x → Hid (n1 = (zi (ord 1)).length ∧ n2 = (rkL 1).length ∧ Rd x (.slice a1 n1 c1) (zi (ord 1)) ∧ Rd x (.slice a2 n2 c2) (rkL 1)) → Rd x v [0, 0, 0, 0] → Calls Tryd.prog 30 #[.slice none 0 0, .agg #[.int .i64 1, .int .i64 0, .slice a1 n1 c1, .slice a2 n2 c2], v] x fun e w' => ∃ v', e = .returned (.tuple #[v', .int .i64 0]) ∧ Src8 w' v' [1] ∧ Below x.heap.size x w') := Lib.hid fun x a1 n1 c1 a2 n2 c2 v hb hh hv => by
    obtain ⟨rfl, rfl, r1, r2⟩ := hh.out
    refine (put_any (.slice none 0 0) [] (1 : Nat) (pl 1) a1 a2 c1 c2 (zi (ord 1)) (rkL 1) v [0, 0, 0, 0] x (hs.below hb) (hm.below hb) r1 r2 hv (by decide) (by decide) (src_nil x) (by decide)).mono ?_
    rintro e w' ⟨v', rfl, ho, hb⟩
    rw [one_put.1] at ho
    rw [one_put.2]
    exact ⟨v', rfl, own_src ho, hb⟩
  have P2 : Hid (∀ (x : World) (a1 : Option Addr) (n1 c1 : Nat) (a2 : Option Addr) (n2 c2 : Nat) (v : Value), Below w.heap.size w x → Hid (n1 = (zi (ord 11)).length ∧ n2 = (rkL 11).length ∧ Rd x (.slice a1 n1 c1) (zi (ord 11)) ∧ Rd x (.slice a2 n2 c2) (rkL 11)) → Rd x v [0, 0] → Calls Tryd.prog 30 #[.slice none 0 0, .agg #[.int .i64 11, .int .i64 2, .slice a1 n1 c1, .slice a2 n2 c2], v] x fun e w' => ∃ v', e = .returned (.tuple #[v', .int .i64 0]) ∧ Src8 w' v' [1, 0, 0] ∧ Below x.heap.size x w') := Lib.hid fun x a1 n1 c1 a2 n2 c2 v hb hh hv => by
    obtain ⟨rfl, rfl, r1, r2⟩ := hh.out
    refine (put_any (.slice none 0 0) [] (11 : Nat) (pl 11) a1 a2 c1 c2 (zi (ord 11)) (rkL 11) v [0, 0] x (hs.below hb) (hm.below hb) r1 r2 hv (by decide) (by decide) (src_nil x) (by decide)).mono ?_
    rintro e w' ⟨v', rfl, ho, hb⟩
    rw [last_put.1] at ho
    rw [last_put.2]
    exact ⟨v', rfl, own_src ho, hb⟩
  have HR4 : Hid (∀ w : World, Rd (w.alloc (.cells #[.int .i64 0, .int .i64 0, .int .i64 0, .int .i64 0] 3)) (.slice (some ⟨w.heap.size, 0, none⟩) 4 4) [0, 0, 0, 0]) := Lib.hid fun w => rd_new w [0, 0, 0, 0] (by decide)
  have HR4b : Hid (∀ (w : World) (o : Obj), Rd ((w.alloc o).alloc (.cells #[.int .i64 0, .int .i64 0, .int .i64 0, .int .i64 0] 3)) (.slice (some ⟨w.heap.size + 1, 0, none⟩) 4 4) [0, 0, 0, 0]) := Lib.hid fun w o => by have := HR4.out (w.alloc o); rwa [show (w.alloc o).heap.size = w.heap.size + 1 by simp] at this
  have HR2 : Hid (∀ w : World, Rd (w.alloc (.cells #[.int .i64 0, .int .i64 0] 3)) (.slice (some ⟨w.heap.size, 0, none⟩) 2 2) [0, 0]) := Lib.hid fun w => rd_new w [0, 0] (by decide)
  have e1 : (strOfNums [1]).toList = [1] := by first | rfl | decide +kernel | simp [strOfNums]
  have e2 : (strOfNums [1, 0, 0]).toList = [1, 0, 0] := by first | rfl | decide +kernel | simp [strOfNums]
  clear hs hm
  go_enter Tryd.func44, Tryd.ntmps44
  go_wp2_with first
    | (go_at_call 15; ((with_reducible refine (G1.out _ (Below.refl _ _)).mono ?_); rintro e w1 ⟨a1, n1, c1, a2, n2, c2, rfl, K1, hb⟩; have B1 := Lib.hid hb; clear hb))
    | (go_at_call 15; ((with_reducible refine (G2.out _ (al_b B1.out)).mono ?_); rintro e w2 ⟨a3, n3, c3, a4, n4, c4, rfl, K2, hb⟩; have B2 := Lib.hid (bT (al_b B1.out) hb); have X2 := Lib.hid hb; have D1 := Lib.hid (bT (al w1 (.cells #[.int .i64 1, .int .i64 0, .slice a1 n1 c1, .slice a2 n2 c2] 24)) hb); clear hb; obtain ⟨p0, p1, p2, p3⟩ := bx1 (bT X2.out (al w2 (.cells #[.int .i64 11, .int .i64 2, .slice a3 n3 c3, .slice a4 n4 c4] 24)))))
    | (go_at_call 30; ((with_reducible refine (P1.out _ _ _ _ _ _ _ _ (al_b (al_b B2.out)) (bkeep K1 (bT (bT D1.out (al _ _)) (al _ _))) (HR4b.out _ _)).mono ?_); rintro e w3 ⟨v3, rfl, s3, hb⟩; have S3 := Lib.hid s3; have B3 := Lib.hid (bT (al_b (al_b B2.out)) hb); have D2 := Lib.hid (bT (bT (al w2 (.cells #[.int .i64 11, .int .i64 2, .slice a3 n3 c3, .slice a4 n4 c4] 24)) (al _ _)) hb); clear p0 p1 p2 p3; obtain ⟨p0, p1, p2, p3⟩ := bx1 (w := w2) (bT (al _ _) hb); clear hb s3))
    | (go_at_call 30; ((with_reducible refine (P2.out _ _ _ _ _ _ _ _ (al_b B3.out) (bkeep K2 (bT D2.out (al _ _))) (HR2.out _)).mono ?_); rintro e w4 ⟨v4, rfl, s4, hb⟩; have B4 := Lib.hid (bT (al_b B3.out) hb); have q1 := conv_src (S3.out.below (bT (al _ _) hb)); have q2 := conv_src s4; clear hb s4))
  go_ret
  exact ⟨rfl, B4.out⟩
end Go.Proofs.YteklahfgplbmcaaDoor.Hf

/- Steps, plain. -/
namespace Go.Proofs.YteklahfgplbmcaaDoor.Hf
open Go Go.ChangeShapes Go.WideShapes Go.ChangeAt Go.RowKit Go.Proofs.YteklahfgplbmcaaDoor.Bk Go.Proofs.YteklahfgplbmcaaDoor.Bi Go.Proofs.YteklahfgplbmcaaDoor.Cr Go.Proofs.YteklahfgplbmcaaDoor.Fx

open Go.Proofs.YteklahfgplbmcaaDoor.BkPx
def stX (d : Int) : Int := if d < -60 ∨ 60 < d then 2 else 0
def stL (d : Int) : List Int := if d < -60 ∨ 60 < d then [] else cd 0 (rk 12 (d + 60).toNat)
def sT (z : List Int) (A : Int) : Int × Int × Int := if (readF (ord 12) 0 z A).2.2 ≠ 0 then (0, 0, (readF (ord 12) 0 z A).2.2) else ((readF (ord 12) 0 z A).1 - 60, (readF (ord 12) 0 z A).2.1, 0)
theorem pl12 : pl 12 = 0 := rfl
theorem nn12 : Nn 12 = 121 := rfl
theorem stL_in {d : Int} (h : -60 ≤ d) (h2 : d ≤ 60) : ∃ n : Nat, d + 60 = n ∧ n < 121 ∧ stL d = cd 0 (rk 12 n) ∧ stX d = 0 := by
  obtain ⟨n, hn⟩ : ∃ n : Nat, d + 60 = n := ⟨(d + 60).toNat, by omega⟩
  refine ⟨n, hn, by omega, ?_, ?_⟩
  · unfold stL; rw [if_neg (by omega), hn, Int.toNat_natCast]
  · unfold stX; rw [if_neg (by omega)]
theorem stL_out {d : Int} (h : d < -60 ∨ 60 < d) : stL d = [] ∧ stX d = 2 := ⟨by unfold stL; rw [if_pos h], by unfold stX; rw [if_pos h]⟩
theorem stL_len (d : Int) : (stL d).length ≤ 19 := by
  by_cases h : d < -60 ∨ 60 < d
  · rw [(stL_out h).1]; simp
  · obtain ⟨n, _, h2, h3, _⟩ := stL_in (d := d) (by omega) (by omega)
    rw [h3]
    exact (cd_19 (id := 12) (by decide) (by decide) ((ord_is (id := 12) (by decide) (by decide)).rank (n := n) (by rw [nn12]; exact h2)).1).1
theorem stL_bits (d : Int) : Bits (stL d) := by
  unfold stL
  split
  · intro z hz; cases hz
  · exact cd_bits _ _
theorem st_read {d : Int} (h : -60 ≤ d) (h2 : d ≤ 60) (rest : List Int) : sT (stL d ++ rest) 0 = (d, ((stL d).length : Int), 0) := by
  obtain ⟨n, hn, hn2, e, _⟩ := stL_in h h2
  have hord := ord_is (id := 12) (by decide) (by decide)
  have hr := hord.rank (n := n) (by rw [nn12]; exact hn2)
  have h19 := cd_19 (id := 12) (by decide) (by decide) hr.1
  have q := read_code (ord 12) 0 (rk 12 n) rest (by rw [hord.length]; exact hr.1) h19.2
  have hg : (ord 12).getD (rk 12 n) 0 = n := by
    have := hr.2
    change (ord 12)[rk 12 n]? = some n at this
    rw [List.getD_eq_getElem?_getD, this]; rfl
  rw [hg] at q
  unfold sT
  rw [e, q, if_neg (by simp)]
  simp only
  congr 1
  omega
theorem st_back {z : List Int} {A : Int} (h : (sT z A).2.2 = 0) : ∃ (a s : Nat) (d : Int), A = a ∧ a + s ≤ z.length ∧ 1 ≤ s ∧ s ≤ 19 ∧ -60 ≤ d ∧ d ≤ 60 ∧ stL d = (z.drop a).take s ∧ sT z A = (d, ((a + s : Nat) : Int), 0) := by
  have h0 : (readF (ord 12) 0 z A).2.2 = 0 := by
    unfold sT at h
    by_cases c : (readF (ord 12) 0 z A).2.2 = 0
    · exact c
    · rw [if_pos c] at h; exact h
  have hord := ord_is (id := 12) (by decide) (by decide)
  obtain ⟨a, s, r, rfl, hal, hr, hcd, hrf⟩ := read_back (ord 12) 0 z A h0
  rw [hord.length] at hr
  obtain ⟨n, hn1, hn2, hn3⟩ := hord.at hr
  have hrk : rk 12 n = r := hn3
  have hg : (ord 12).getD r 0 = n := by rw [List.getD_eq_getElem?_getD, hn1]; rfl
  rw [hg] at hrf
  rw [nn12] at hn2
  obtain ⟨n', hn', _, e, _⟩ := stL_in (d := (n : Int) - 60) (by omega) (by omega)
  obtain rfl : n' = n := by omega
  have hs : s = (cd 0 r).length := by have := congrArg List.length hcd; rw [drop_take_len hal] at this; exact this
  refine ⟨a, s, (n' : Int) - 60, rfl, hal, by have := cd_pos 0 r; omega, ?_, by omega, by omega, by rw [e, hrk, hcd], ?_⟩
  · have := (cd_19 (id := 12) (by decide) (by decide) hr).1
    rw [pl12] at this; omega
  · unfold sT; rw [if_neg (by rw [h0]; decide), hrf]
theorem st_bad {z : List Int} {A : Int} (h : (sT z A).2.2 ≠ 0) : sT z A = (0, 0, (sT z A).2.2) := by
  unfold sT at h ⊢
  by_cases c : (readF (ord 12) 0 z A).2.2 = 0
  · rw [if_neg (by rw [c]; decide)] at h; exact absurd rfl h
  · rw [if_pos c]
theorem rd_bd (z : List Int) (A : Int) : 0 ≤ (readF (ord 12) 0 z A).1 ∧ (readF (ord 12) 0 z A).1 ≤ 121 := by
  by_cases c : (readF (ord 12) 0 z A).2.2 = 0
  · obtain ⟨a, s, r, rfl, hal, hr, hcd, hrf⟩ := read_back (ord 12) 0 z A c
    have hord := ord_is (id := 12) (by decide) (by decide)
    rw [hord.length] at hr
    obtain ⟨n, hn1, hn2, hn3⟩ := hord.at hr
    have hg : (ord 12).getD r 0 = n := by rw [List.getD_eq_getElem?_getD, hn1]; rfl
    rw [nn12] at hn2
    rw [hrf, hg]; simp; omega
  · rw [readF_bad c]; simp
end Go.Proofs.YteklahfgplbmcaaDoor.Hf

/- Steps as bits, and the steps of bits. -/
namespace Go.Proofs.YteklahfgplbmcaaDoor.Hf
open Go Go.ChangeShapes Go.WideShapes Go.ChangeAt Go.RowKit Go.Proofs.YteklahfgplbmcaaDoor.Bk Go.Proofs.YteklahfgplbmcaaDoor.Bi Go.Proofs.YteklahfgplbmcaaDoor.Cr Go.Proofs.YteklahfgplbmcaaDoor.Fx

open Go.Proofs.YteklahfgplbmcaaDoor.BkRf Go.Proofs.YteklahfgplbmcaaDoor.BkPx
structure KB (w : World) (a1 : Option Addr) (n1 c1 : Nat) (a2 : Option Addr) (n2 c2 : Nat) : Prop where
  e1 : n1 = (zi (ord 12)).length
  e2 : n2 = (rkL 12).length
  r1 : Rd w (.slice a1 n1 c1) (zi (ord 12))
  r2 : Rd w (.slice a2 n2 c2) (rkL 12)
theorem KB.below {w w' : World} {a1 a2 : Option Addr} {n1 c1 n2 c2 : Nat} (h : KB w a1 n1 c1 a2 n2 c2) (hb : Below w.heap.size w w') : KB w' a1 n1 c1 a2 n2 c2 := ⟨h.e1, h.e2, h.r1.below hb, h.r2.below hb⟩
theorem get_12 (w : World) (hs : Sh w) : Calls Tryd.prog 15 #[.int .i64 12] w fun e w' => ∃ a1 n1 c1 a2 n2 c2, e = .returned (.tuple #[.agg #[.int .i64 12, .int .i64 0, .slice a1 n1 c1, .slice a2 n2 c2], .int .i64 0]) ∧ KB w' a1 n1 c1 a2 n2 c2 ∧ Below w.heap.size w w' :=
  (get_bk (id := 12) (by decide) (by decide) w hs).mono fun e w' ⟨a1, c1, a2, c2, e1, r1, r2, b⟩ => ⟨a1, _, c1, a2, _, c2, e1, ⟨rfl, rfl, r1, r2⟩, b⟩
set_option maxRecDepth 100000 in
theorem code_12 {w : World} {a1 a2 : Option Addr} {n1 c1 n2 c2 : Nat} {d : Int} (hs : Sh w) (h : KB w a1 n1 c1 a2 n2 c2) (h1 : -60 ≤ d) (h2 : d ≤ 60) : Calls Tryd.prog 16 #[.agg #[.int .i64 12, .int .i64 0, .slice a1 n1 c1, .slice a2 n2 c2], .int .i64 (d + 60)] w fun e w' => ∃ v, e = .returned (.tuple #[v, .int .i64 0]) ∧ Cr.Own w.heap.size w' v (stL d) ∧ Below w.heap.size w w' := by
  obtain ⟨e1, e2, r1, r2⟩ := h
  subst e1 e2
  obtain ⟨n, hn, hn2, e, _⟩ := stL_in h1 h2
  have q := pcd_any (12 : Nat) (pl 12) (d + 60) a1 a2 c1 c2 (zi (ord 12)) (rkL 12) w hs r1 r2
  have hk := isbk_of (id := 12) (by decide) (by decide)
  have hin : 0 ≤ d + 60 ∧ d + 60 < ((rkL 12).length : Int) := by rw [rkL_len, nn12]; omega
  have e1 : cdX (12 : Nat) (pl 12) (zi (ord 12)) (rkL 12) (d + 60) = 0 := by unfold cdX; rw [if_pos hk, if_pos hin]
  have e2 : cdL (12 : Nat) (pl 12) (zi (ord 12)) (rkL 12) (d + 60) = stL d := by
    unfold cdL
    rw [if_pos hk, if_pos hin, e, hn, Int.toNat_natCast, rkL_get (by rw [nn12]; exact hn2), pl12]
    show cd _ ((rk 12 n : Nat) : Int).toNat = _
    rw [Int.toNat_natCast]
  rw [e1, e2] at q
  exact q
set_option maxRecDepth 100000 in
theorem read_12 {w : World} {a1 a2 : Option Addr} {n1 c1 n2 c2 : Nat} {v : Value} {z : List Int} {A : Int} (hs : Sh w) (h : KB w a1 n1 c1 a2 n2 c2) (hv : R8 w v z) (hz : ∀ x ∈ z, 0 ≤ x ∧ x ≤ 255) (hl : z.length ≤ 20000) : Calls Tryd.prog 17 #[.agg #[.int .i64 12, .int .i64 0, .slice a1 n1 c1, .slice a2 n2 c2], v, .int .i64 A] w fun e w' => e = T3 (readF (ord 12) 0 z A) ∧ Below w.heap.size w w' := by
  obtain ⟨e1, e2, r1, r2⟩ := h
  subst e1 e2
  have q := pread_any (12 : Nat) (pl 12) A a1 a2 c1 c2 (zi (ord 12)) (rkL 12) v z w hs r1 r2 hv hz hl
  have e : rdF (12 : Nat) (pl 12) (zi (ord 12)) (rkL 12) z A = readF (ord 12) 0 z A := by
    unfold rdF
    rw [if_pos (isbk_of (id := 12) (by decide) (by decide))]
    rfl
  rwa [e] at q
set_option maxRecDepth 100000 in
theorem stepBits_ok (d : Int) (w : World) (hs : Sh w) : Calls Tryd.prog 75 #[.int .i64 d] w fun e w' => ∃ v, e = .returned (.tuple #[v, .int .i64 (stX d)]) ∧ Cr.Own w.heap.size w' v (stL d) ∧ Below w.heap.size w w' := by
  by_cases h : d < -60 ∨ 60 < d
  · obtain ⟨e1, e2⟩ := stL_out h
    rw [e1, e2]
    clear e1 e2
    by_cases h1 : d < -60
    · clear h
      go_enter Tryd.func75, Tryd.ntmps75
      go_wp2
      go_ret2
      exact ⟨_, rfl, own8n _ _, Below.refl _ _⟩
    · have h2 : 60 < d := by omega
      clear h
      go_enter Tryd.func75, Tryd.ntmps75
      go_wp2
      go_ret2
      exact ⟨_, rfl, own8n _ _, Below.refl _ _⟩
  · obtain ⟨n, z1, z2, z3, e2⟩ := stL_in (d := d) (by omega) (by omega)
    rw [e2]
    clear z1 z2 z3
    have h1 : ¬ d < -60 := by omega
    have h2 : ¬ 60 < d := by omega
    have hw : IntKind.i64.wrap (d + 60) = d + 60 := by rw [IntKind.wrap_i64]; omega
    have HG := Lib.hid (fun x (h : Below w.heap.size w x) => get_12 x (hs.below h))
    have HC := Lib.hid (fun x a1 n1 c1 a2 n2 c2 (h : Below w.heap.size w x) (hk : KB x a1 n1 c1 a2 n2 c2) => code_12 (d := d) (hs.below h) hk (by omega) (by omega))
    clear hs h e2
    go_enter Tryd.func75, Tryd.ntmps75
    go_wp2_with first
      | (go_at_call 15; ((with_reducible refine (HG.out _ (Below.refl _ _)).mono ?_); rintro e w1 ⟨a1, n1, c1, a2, n2, c2, rfl, K1, hb⟩; have B1 := Lib.hid (al_b (o := .cells #[.int .i64 12, .int .i64 0, .slice a1 n1 c1, .slice a2 n2 c2] 24) hb); have K2 := K1.below (al w1 (.cells #[.int .i64 12, .int .i64 0, .slice a1 n1 c1, .slice a2 n2 c2] 24)); obtain ⟨p0, p1, p2, p3⟩ := bx1 (w := w1) (a := .int .i64 12) (b := .int .i64 0) (c := .slice a1 n1 c1) (d := .slice a2 n2 c2) (Below.refl _ _); clear hb K1))
      | (go_at_call 16; ((with_reducible refine (HC.out _ _ _ _ _ _ _ B1.out K2).mono ?_); rintro e w2 ⟨v2, rfl, ho, hb⟩; have O2 := Lib.hid (own8_rebase ho B1.out.size); have B2 := Lib.hid (bT B1.out hb); clear ho hb))
    go_ret2
    exact ⟨_, rfl, O2.out, B2.out⟩
set_option maxRecDepth 100000 in
theorem step_any (vb : Value) (zb : List Int) (d : Int) (w : World) (hs : Sh w) (sb : Src8 w vb zb) (lb : zb.length ≤ 20000) : Calls Tryd.prog 38 #[vb, .int .i64 d] w fun e w' => ∃ v, e = .returned (.tuple #[v, .int .i64 (stX d)]) ∧ Cr.Own w.heap.size w' v (if stX d = 0 then zb ++ stL d else []) ∧ Below w.heap.size w w' := by
  have H75 := Lib.hid (stepBits_ok d w hs)
  have hz := stL_len d
  have HJ := Lib.hid (fun (x : World) (v2 : Value) (h : Below w.heap.size w x) (h2 : Src8 x v2 (stL d)) => join_ok vb v2 zb (stL d) x (sb.below h) h2 lb (by omega))
  generalize stL d = L at *
  generalize stX d = X at *
  clear hs sb lb hz
  by_cases hX : X = 0
  · subst hX
    go_enter Tryd.func38, Tryd.ntmps38
    go_wp2_with first
      | (go_at_call 75; ((with_reducible refine (H75.out).mono ?_); rintro e w1 ⟨v1, rfl, ho1, hb⟩; have O1 := Lib.hid (own_src ho1); have B1 := Lib.hid hb; clear ho1 hb))
      | (go_at_call 65; ((with_reducible refine (HJ.out _ _ B1.out O1.out).mono ?_); rintro e w2 ⟨v2, rfl, ho2, hb⟩; have O2 := Lib.hid (own8_rebase ho2 B1.out.size); have B2 := Lib.hid (bT B1.out hb); clear ho2 hb))
    go_ret2
    exact ⟨_, rfl, O2.out, B2.out⟩
  · rw [if_neg hX]
    have hne : (X == 0) = false := by simp [hX]
    clear HJ
    go_enter Tryd.func38, Tryd.ntmps38
    go_wp2_with first
      | (go_at_call 75; ((with_reducible refine (H75.out).mono ?_); rintro e w1 ⟨v1, rfl, ho1, hb⟩; have B1 := Lib.hid hb; clear ho1 hb))
    go_ret2
    exact ⟨_, rfl, own8n _ _, B1.out⟩
theorem stepCost_any (d : Int) (w : World) (hs : Sh w) : Calls Tryd.prog 42 #[.int .i64 d] w fun e w' => e = .returned (.tuple #[.int .i64 ((stL d).length : Nat), .int .i64 (stX d)]) ∧ Below w.heap.size w w' := by
  have H75 := Lib.hid (stepBits_ok d w hs)
  generalize stL d = L at *
  generalize stX d = X at *
  clear hs
  go_enter Tryd.func42, Tryd.ntmps42
  go_wp2_with first
    | (go_at_call 75; ((with_reducible refine (H75.out).mono ?_); rintro e w1 ⟨v1, rfl, ho1, hb⟩; obtain ⟨a9, c9, rfl⟩ := (own_src ho1).shape; have B1 := Lib.hid hb; clear ho1 hb))
  go_ret2
  exact ⟨rfl, B1.out⟩
set_option maxRecDepth 100000 in
theorem stepped_any (v : Value) (z : List Int) (A : Int) (w : World) (hs : Sh w) (hv : R8 w v z) (hz : ∀ x ∈ z, 0 ≤ x ∧ x ≤ 255) (hl : z.length ≤ 20000) : Calls Tryd.prog 40 #[v, .int .i64 A] w fun e w' => e = T3 (sT z A) ∧ Below w.heap.size w w' := by
  have HG := Lib.hid (fun x (h : Below w.heap.size w x) => get_12 x (hs.below h))
  have HR := Lib.hid (fun x a1 n1 c1 a2 n2 c2 (h : Below w.heap.size w x) (hk : KB x a1 n1 c1 a2 n2 c2) => read_12 (A := A) (hs.below h) hk (hv.below h) hz hl)
  obtain ⟨b0, b1⟩ := rd_bd z A
  have HT : Hid (sT z A = if (readF (ord 12) 0 z A).2.2 ≠ 0 then (0, 0, (readF (ord 12) 0 z A).2.2) else ((readF (ord 12) 0 z A).1 - 60, (readF (ord 12) 0 z A).2.1, 0)) := Lib.hid rfl
  generalize readF (ord 12) 0 z A = R at *
  obtain ⟨x, n, er⟩ := R
  simp only at HT b0 b1
  have hw : IntKind.i64.wrap (x - 60) = x - 60 := by rw [IntKind.wrap_i64]; omega
  simp only [T3] at HR
  rw [HT.out]
  clear hs hv hz hl HT
  by_cases he : er = 0
  · subst he
    rw [if_neg (by simp)]
    go_enter Tryd.func40, Tryd.ntmps40
    go_wp2_with first
      | (go_at_call 15; ((with_reducible refine (HG.out _ (Below.refl _ _)).mono ?_); rintro e w1 ⟨a1, n1, c1, a2, n2, c2, rfl, K1, hb⟩; have B1 := Lib.hid (al_b (o := .cells #[.int .i64 12, .int .i64 0, .slice a1 n1 c1, .slice a2 n2 c2] 24) hb); have K2 := K1.below (al w1 (.cells #[.int .i64 12, .int .i64 0, .slice a1 n1 c1, .slice a2 n2 c2] 24)); obtain ⟨p0, p1, p2, p3⟩ := bx1 (w := w1) (a := .int .i64 12) (b := .int .i64 0) (c := .slice a1 n1 c1) (d := .slice a2 n2 c2) (Below.refl _ _); clear hb K1))
      | (go_at_call 17; ((with_reducible refine (HR.out _ _ _ _ _ _ _ B1.out K2).mono ?_); rintro e w2 ⟨rfl, hb⟩; have B2 := Lib.hid (bT B1.out hb); clear hb))
    go_ret3
    exact ⟨rfl, B2.out⟩
  · rw [if_pos he]
    have hee : (er == 0) = false := by simp [he]
    go_enter Tryd.func40, Tryd.ntmps40
    go_wp2_with first
      | (go_at_call 15; ((with_reducible refine (HG.out _ (Below.refl _ _)).mono ?_); rintro e w1 ⟨a1, n1, c1, a2, n2, c2, rfl, K1, hb⟩; have B1 := Lib.hid (al_b (o := .cells #[.int .i64 12, .int .i64 0, .slice a1 n1 c1, .slice a2 n2 c2] 24) hb); have K2 := K1.below (al w1 (.cells #[.int .i64 12, .int .i64 0, .slice a1 n1 c1, .slice a2 n2 c2] 24)); obtain ⟨p0, p1, p2, p3⟩ := bx1 (w := w1) (a := .int .i64 12) (b := .int .i64 0) (c := .slice a1 n1 c1) (d := .slice a2 n2 c2) (Below.refl _ _); clear hb K1))
      | (go_at_call 17; ((with_reducible refine (HR.out _ _ _ _ _ _ _ B1.out K2).mono ?_); rintro e w2 ⟨rfl, hb⟩; have B2 := Lib.hid (bT B1.out hb); clear hb))
    go_ret3
    exact ⟨rfl, B2.out⟩
end Go.Proofs.YteklahfgplbmcaaDoor.Hf

/- The reader's get. -/
namespace Go.Proofs.YteklahfgplbmcaaDoor.Hf
open Go Go.ChangeShapes Go.WideShapes Go.ChangeAt Go.RowKit Go.Proofs.YteklahfgplbmcaaDoor.Bk Go.Proofs.YteklahfgplbmcaaDoor.Bi Go.Proofs.YteklahfgplbmcaaDoor.Cr Go.Proofs.YteklahfgplbmcaaDoor.Fx

open Go.Proofs.YteklahfgplbmcaaDoor.BkPx
/-- The reader's record. -/
def rf (vb : Value) (A E : Int) : Nat → Value := fun j => if j = 0 then vb else if j = 1 then .int .i64 A else .int .i64 E
def RS (w : World) (R : Nat) (vb : Value) (A E : Int) : Prop := w.rowIs R 104 3 (rf vb A E)
theorem RS.c {w : World} {R : Nat} {vb : Value} {A E : Int} (h : RS w R vb A E) : w.cell? ⟨R, 0, none⟩ = some vb ∧ w.cell? ⟨R, 1, none⟩ = some (.int .i64 A) ∧ w.cell? ⟨R, 2, none⟩ = some (.int .i64 E) ∧ w.frozen? ⟨R, 1, none⟩ = false ∧ w.frozen? ⟨R, 2, none⟩ = false :=
  ⟨World.rowIs.cell h (i := 0) (by decide), World.rowIs.cell h (i := 1) (by decide), World.rowIs.cell h (i := 2) (by decide), World.rowIs.frozen h 1, World.rowIs.frozen h 2⟩
theorem RS.set2 {w : World} {R : Nat} {vb : Value} {A E : Int} (h : RS w R vb A E) (A' E' : Int) : RS ((w.setCell ⟨R, 1, none⟩ (.int .i64 A')).setCell ⟨R, 2, none⟩ (.int .i64 E')) R vb A' E' :=
  ((World.rowIs.set h 1 (.int .i64 A')).set 2 (.int .i64 E')).congr (fun j hj => by
    have : j = 0 ∨ j = 1 ∨ j = 2 := by omega
    rcases this with rfl | rfl | rfl <;> rfl)
theorem RS.set1 {w : World} {R : Nat} {vb : Value} {A E : Int} (h : RS w R vb A E) (E' : Int) : RS (w.setCell ⟨R, 2, none⟩ (.int .i64 E')) R vb A E' :=
  (World.rowIs.set h 2 (.int .i64 E')).congr (fun j hj => by
    have : j = 0 ∨ j = 1 ∨ j = 2 := by omega
    rcases this with rfl | rfl | rfl <;> rfl)
/-- But for two blocks nothing has turned. -/
structure Ex2 (R O : Nat) (w w' : World) : Prop where
  os : w'.os = w.os
  tape : w'.tape = w.tape
  output : w'.output = w.output
  size : w.heap.size ≤ w'.heap.size
  block : ∀ k, k ≠ R → k ≠ O → k < w.heap.size → w'.heap[k]? = w.heap[k]?
theorem Ex2.refl (R O : Nat) (w : World) : Ex2 R O w w := ⟨rfl, rfl, rfl, Nat.le_refl _, fun _ _ _ _ => rfl⟩
theorem Ex2.trans {R O : Nat} {a b c : World} (h : Ex2 R O a b) (k : Ex2 R O b c) : Ex2 R O a c :=
  ⟨k.os.trans h.os, k.tape.trans h.tape, k.output.trans h.output, Nat.le_trans h.size k.size, fun i h1 h2 h3 => (k.block i h1 h2 (Nat.lt_of_lt_of_le h3 h.size)).trans (h.block i h1 h2 h3)⟩
theorem Ex2.drew (R O : Nat) (w : World) : Ex2 R O w w.drew := ⟨rfl, rfl, rfl, Nat.le_refl _, fun _ _ _ _ => rfl⟩
theorem Ex2.drewN (R O : Nat) (w : World) : ∀ n, Ex2 R O w (w.drewN n)
  | n => by
    have h := Go.Proofs.YteklahfgplbmcaaDoor.Fx.drewN_belowL w n
    exact ⟨h.os, h.tape, h.output, h.size, fun k _ _ hk => h.block k hk⟩
theorem Ex2.setR {R O : Nat} (w : World) (i : Nat) (u : Value) : Ex2 R O w (w.setCell ⟨R, i, none⟩ u) := ⟨rfl, rfl, rfl, by simp [World.setCell], fun k h1 _ _ => Below.heap_setCell _ _ _ _ h1⟩
theorem Ex2.setO {R O : Nat} (w : World) (i : Nat) (u : Value) : Ex2 R O w (w.setCell ⟨O, i, none⟩ u) := ⟨rfl, rfl, rfl, by simp [World.setCell], fun k _ h2 _ => Below.heap_setCell _ _ _ _ h2⟩
theorem Ex2.wide {R O : Nat} {w w' : World} (h : Ex2 R R w w') : Ex2 R O w w' := ⟨h.os, h.tape, h.output, h.size, fun k h1 _ h3 => h.block k h1 h1 h3⟩
theorem Ex2.bel {R O B : Nat} {w w' : World} (h : Ex2 R O w w') (h1 : B ≤ R) (h2 : B ≤ O) (h3 : B ≤ w.heap.size) : Below B w w' := ⟨h.os, h.tape, h.output, h.size, fun k hk => h.block k (by omega) (by omega) (by omega)⟩
theorem RS.lt {w : World} {R : Nat} {vb : Value} {A E : Int} (h : RS w R vb A E) : R < w.heap.size := World.rowIs.lt h
theorem RS.drew {w : World} {R : Nat} {vb : Value} {A E : Int} (h : RS w R vb A E) : RS w.drew R vb A E := World.rowIs.drew h
theorem RS.drewN {w : World} {R : Nat} {vb : Value} {A E : Int} (h : RS w R vb A E) (n : Nat) : RS (w.drewN n) R vb A E := World.rowIs.of_block h ((Go.Proofs.YteklahfgplbmcaaDoor.Fx.drewN_belowL w n).block _ h.lt)
set_option maxRecDepth 100000 in
set_option maxHeartbeats 4000000 in
theorem rget_ok {w : World} {R : Nat} {vb : Value} {z : List Int} {A E : Int} (hR : RS w R vb A E) (hv : R8 w vb z) (hz : ∀ x ∈ z, 0 ≤ x ∧ x ≤ 255) (hl : z.length ≤ 20000) (s : Nat) (s1 : s ≤ 31) :
    Calls Tryd.prog 96 #[.pointer (some ⟨R, 0, none⟩), .int .i64 s] w fun e w' => e = .returned (.int .i64 (rd1 z A E s).1) ∧ RS w' R vb (rd1 z A E s).2.1 (rd1 z A E s).2.2 ∧ Ex2 R R w w' := by
  obtain ⟨c0, c1, c2, f1, f2⟩ := hR.c
  have HR := Lib.hid hR
  by_cases he : E = 0
  · subst he
    have e1 : rd1 z A 0 s = getF z A s := by unfold rd1; rw [if_pos rfl]
    rw [e1]
    have HG := Lib.hid (fun x (hb : Below w.heap.size w x) => get_all vb z A s x (hv.below hb) hz hl s1)
    generalize getF z A s = Q at *
    obtain ⟨n, A', E'⟩ := Q
    simp only [T3] at HG
    simp only
    have hb := Lib.hid ((Below.refl w.heap.size w).drew)
    have k0 := hR.drew.c
    obtain ⟨k0, k1, k2, k3, k4⟩ := k0
    have hS := Lib.hid (hR.drew.set2 A' E')
    have hX := Lib.hid (((Ex2.drew R R w).trans (Ex2.setR w.drew 1 (.int .i64 A'))).trans (Ex2.setR _ 2 (.int .i64 E')))
    have k5 : (w.drew.setCell ⟨R, 1, none⟩ (.int .i64 A')).frozen? ⟨R, 2, none⟩ = false := World.rowIs.frozen (World.rowIs.set hR.drew 1 (.int .i64 A')) 2
    clear hv hz hl e1 hR
    go_enter Tryd.func96, Tryd.ntmps96
    go_upto_region 3 with fail
    go_region_held3 (fun w' => w'.cell? ⟨R, 0, none⟩ = some vb ∧ w'.cell? ⟨R, 1, none⟩ = some (.int .i64 A))
      (first | with_reducible exact ⟨k0, k1⟩ | with_reducible exact ⟨c0, c1⟩)
      (first | (go_at_call 53; ((with_reducible refine (HG.out _ hb.out).mono ?_); rintro e w1 ⟨rfl, rfl⟩)))
    go_wp2
    go_ret
    exact ⟨rfl, hS.out, hX.out⟩
  · have e1 : rd1 z A E s = (0, A, E) := rd1_err he
    rw [e1]
    have hee : (E == 0) = false := by simp [he]
    clear hv hz hl e1 hR
    go_enter Tryd.func96, Tryd.ntmps96
    go_wp2
    go_ret
    exact ⟨rfl, HR.out, Ex2.refl _ _ _⟩
end Go.Proofs.YteklahfgplbmcaaDoor.Hf

/- The reader's signs. -/
namespace Go.Proofs.YteklahfgplbmcaaDoor.Hf
open Go Go.ChangeShapes Go.WideShapes Go.ChangeAt Go.RowKit Go.Proofs.YteklahfgplbmcaaDoor.Bk Go.Proofs.YteklahfgplbmcaaDoor.Bi Go.Proofs.YteklahfgplbmcaaDoor.Cr Go.Proofs.YteklahfgplbmcaaDoor.Fx

open Go.Proofs.YteklahfgplbmcaaDoor.BkPx
def vf (l : List Int) : Nat → Value := fun k => .int .i64 (l.getD k 0)
theorem drop_cons {l : List Int} {j : Nat} (h : j < l.length) : l.drop j = l.getD j 0 :: l.drop (j + 1) := by
  rw [List.drop_eq_getElem_cons h]; simp [h]
theorem vf_set {w : World} {O n : Nat} {d l : List Int} {v x : Int} (h : w.rowIs O 3 n (vf (d ++ v :: l))) : (w.setCell ⟨O, d.length, none⟩ (.int .i64 x)).rowIs O 3 n (vf (d ++ x :: l)) :=
  (h.set d.length (.int .i64 x)).congr (fun k _ => by
    unfold vf
    by_cases hk : k = d.length
    · subst hk; rw [if_pos rfl]; simp
    · rw [if_neg hk]
      by_cases hlt : k < d.length
      · simp [List.getElem?_append, hlt]
      · obtain ⟨m, rfl⟩ : ∃ m, k = d.length + (m + 1) := ⟨k - d.length - 1, by omega⟩
        simp [List.getElem?_append])
theorem vf_at {w : World} {O n : Nat} {d l : List Int} {v : Int} (h : w.rowIs O 3 n (vf (d ++ v :: l))) (hn : d.length < n) : w.cell? ⟨O, d.length, none⟩ = some (.int .i64 v) := by
  rw [h.cell hn]; simp [vf]
theorem Ex2.row {R O : Nat} {w w' : World} {K : Nat} {t : TypeId} {n : Nat} {f : Nat → Value} (h : Ex2 R O w w') (hr : w.rowIs K t n f) (h1 : K ≠ R) (h2 : K ≠ O) : w'.rowIs K t n f := hr.of_block (h.block K h1 h2 hr.lt)
set_option maxRecDepth 100000 in
set_option maxHeartbeats 4000000 in
theorem rsigns_ok (W0 : World) (R O : Nat) (vb : Value) (z vs : List Int) (A E : Int) (w : World) (b0 : Below W0.heap.size W0 w) (hR : W0.heap.size ≤ R) (hO : W0.heap.size ≤ O) (hne : O ≠ R) (hrs : RS w R vb A E) (hvs : w.rowIs O 3 vs.length (vf vs)) (hn : vs.length ≤ 4) (hb : ∀ v ∈ vs, 0 ≤ v ∧ v ≤ 1000)
    (hv : R8 W0 vb z) (hz : ∀ x ∈ z, 0 ≤ x ∧ x ≤ 255) (hl : z.length ≤ 20000) :
    Calls Tryd.prog 71 #[.pointer (some ⟨R, 0, none⟩), .slice (some ⟨O, 0, none⟩) vs.length vs.length] w fun e w' => (∃ v, e = .returned v) ∧ RS w' R vb (gS z vs A E).2.1 (gS z vs A E).2.2 ∧ w'.rowIs O 3 vs.length (vf (gS z vs A E).1) ∧ Ex2 R O w w' := by
  have HG : Hid (∀ (x : World) (A E : Int), RS x R vb A E → Below W0.heap.size W0 x → Calls Tryd.prog 96 #[.pointer (some ⟨R, 0, none⟩), .int .i64 1] x fun e w' => e = .returned (.int .i64 (rd1 z A E 1).1) ∧ RS w' R vb (rd1 z A E 1).2.1 (rd1 z A E 1).2.2 ∧ Ex2 R R x w') := Lib.hid (fun x A E h hb => rget_ok h (hv.below hb) hz hl 1 (by decide))
  obtain ⟨T, hT⟩ : ∃ T, gS z vs A E = T := ⟨_, rfl⟩
  rw [hT]
  have HW := Lib.hid b0.size
  have HB0 := Lib.hid b0
  have HBd := Lib.hid hb
  obtain ⟨n, hnn⟩ : ∃ n, vs.length = n := ⟨_, rfl⟩
  have HN := Lib.hid hnn
  have HT := Lib.hid hT
  have HRS := Lib.hid hrs
  have HVS := Lib.hid hvs
  rw [hnn] at hn HVS ⊢
  clear hb hv hz hl hT hnn hrs hvs b0
  go_enter Tryd.func71, Tryd.ntmps71
  go_wp2
  go_loopw [8] (fun i wr => ∃ (j : Nat) (d : List Int) (A1 E1 : Int), j ≤ n ∧ i = .int .i64 j ∧ Hid (d.length = j ∧ T = (d ++ (gS z (vs.drop j) A1 E1).1, (gS z (vs.drop j) A1 E1).2) ∧ RS wr R vb A1 E1 ∧ wr.rowIs O 3 n (vf (d ++ vs.drop j)) ∧ Ex2 R O w wr)) (fun i _ => n - (intOf i).toNat)
  case atStart => exact ⟨0, [], A, E, by omega, rfl, Lib.hid ⟨rfl, by rw [List.drop_zero, HT.out]; rfl, HRS.out, by simpa using HVS.out, Ex2.refl _ _ _⟩⟩
  case round =>
    obtain ⟨j, d, A1, E1, hj, rfl, hh⟩ := hrel
    obtain ⟨hd, hTT, hrs, hrow, hex⟩ := hh.out
    have HX := Lib.hid hex
    have HR1 := Lib.hid hrs
    by_cases hlt : j < n
    · have hdc := drop_cons (l := vs) (j := j) (by rw [HN.out]; exact hlt)
      have hvb := HBd.out (vs.getD j 0) (by rw [List.getD_eq_getElem?_getD, List.getElem?_eq_getElem (by rw [HN.out]; exact hlt)]; exact List.getElem_mem _)
      obtain ⟨v, hvv⟩ : ∃ v, vs.getD j 0 = v := ⟨_, rfl⟩
      rw [hvv] at hdc hvb
      rw [hdc] at hTT hrow
      have c1 := vf_at hrow (by rw [hd]; exact hlt)
      rw [hd] at c1
      by_cases h0 : v = 0
      · subst h0
        have HH : Hid ((d ++ [0]).length = j + 1 ∧ T = ((d ++ [0]) ++ (gS z (vs.drop (j + 1)) A1 E1).1, (gS z (vs.drop (j + 1)) A1 E1).2) ∧ RS wr R vb A1 E1 ∧ wr.rowIs O 3 n (vf ((d ++ [0]) ++ vs.drop (j + 1))) ∧ Ex2 R O w wr) := Lib.hid ⟨by simp [hd], by rw [hTT, gS, if_pos rfl]; simp, hrs, by simpa using hrow, hex⟩
        clear hh hd hTT hrs hrow hex hdc hvv
        go_wp2
        go_roundw
        case rel => exact ⟨j + 1, d ++ [0], A1, E1, by omega, by go_num, HH⟩
        case measure => simp [intOf]; omega
      · have hv0 : (v == 0) = false := by simp [h0]
        have HGB := Lib.hid (HG.out wr A1 E1 hrs (HB0.out.trans (hex.bel hR hO HW.out)))
        have hT2 : T = (d ++ ((if (rd1 z A1 E1 1).1 = 1 then -v else v) :: (gS z (vs.drop (j + 1)) (rd1 z A1 E1 1).2.1 (rd1 z A1 E1 1).2.2).1), (gS z (vs.drop (j + 1)) (rd1 z A1 E1 1).2.1 (rd1 z A1 E1 1).2.2).2) := by
          rw [hTT, gS, if_neg h0]
        generalize rd1 z A1 E1 1 = Q at *
        obtain ⟨b, A2, E2⟩ := Q
        simp only at hT2 HGB
        have hw : IntKind.i64.wrap (-v) = -v := by rw [IntKind.wrap_i64]; omega
        by_cases hb1 : b = 1
        · subst hb1
          rw [if_pos rfl] at hT2
          have HP : Hid (∀ y, RS y R vb A2 E2 ∧ Ex2 R R wr y → (y.cell? ⟨O, j, none⟩ = some (.int .i64 v) ∧ y.frozen? ⟨O, j, none⟩ = false) ∧ ((d ++ [-v]).length = j + 1 ∧ T = ((d ++ [-v]) ++ (gS z (vs.drop (j + 1)) A2 E2).1, (gS z (vs.drop (j + 1)) A2 E2).2) ∧ RS (y.setCell ⟨O, j, none⟩ (.int .i64 (-v))) R vb A2 E2 ∧ (y.setCell ⟨O, j, none⟩ (.int .i64 (-v))).rowIs O 3 n (vf ((d ++ [-v]) ++ vs.drop (j + 1))) ∧ Ex2 R O w (y.setCell ⟨O, j, none⟩ (.int .i64 (-v))))) := Lib.hid fun y ⟨q1, q2⟩ => by
            have hrow2 := q2.row hrow hne hne
            have c2 := vf_at hrow2 (by rw [hd]; exact hlt)
            rw [hd] at c2
            have hs := vf_set (x := -v) hrow2
            rw [hd] at hs
            exact ⟨⟨c2, hrow2.frozen j⟩, by simp [hd], by rw [hT2]; simp, World.rowIs.setOther q1 (by show R ≠ O; exact Ne.symm hne) _, by simpa using hs, (hex.trans q2.wide).trans (Ex2.setO y j _)⟩
          clear hh hd hTT hrs hrow hex hdc hvv hT2 HR1
          go_wp2_with (go_at_call 96; ((with_reducible refine (HGB.out).mono ?_); rintro e w2 ⟨rfl, hr2, hx2⟩; obtain ⟨⟨z0, z1⟩, zz⟩ := HP.out w2 ⟨hr2, hx2⟩; have ZZ := Lib.hid zz; clear zz hr2 hx2))
          go_roundw
          case rel => exact ⟨j + 1, d ++ [-v], A2, E2, by omega, by go_num, ZZ⟩
          case measure => simp [intOf]; omega
        · rw [if_neg hb1] at hT2
          have hbe : (b == 1) = false := by simp [hb1]
          have HP : Hid (∀ y, RS y R vb A2 E2 ∧ Ex2 R R wr y → ((d ++ [v]).length = j + 1 ∧ T = ((d ++ [v]) ++ (gS z (vs.drop (j + 1)) A2 E2).1, (gS z (vs.drop (j + 1)) A2 E2).2) ∧ RS y R vb A2 E2 ∧ y.rowIs O 3 n (vf ((d ++ [v]) ++ vs.drop (j + 1))) ∧ Ex2 R O w y)) := Lib.hid fun y ⟨q1, q2⟩ =>
            ⟨by simp [hd], by rw [hT2]; simp, q1, by simpa using q2.row hrow hne hne, hex.trans q2.wide⟩
          clear hh hd hTT hrs hrow hex hdc hvv hT2 HR1
          go_wp2_with (go_at_call 96; ((with_reducible refine (HGB.out).mono ?_); rintro e w2 ⟨rfl, hr2, hx2⟩; have ZZ := Lib.hid (HP.out w2 ⟨hr2, hx2⟩); clear hr2 hx2))
          go_roundw
          case rel => exact ⟨j + 1, d ++ [v], A2, E2, by omega, by go_num, ZZ⟩
          case measure => simp [intOf]; omega
    · have hend : j = n := by omega
      subst hend
      have hdn : vs.drop j = [] := List.drop_eq_nil_of_le (by rw [HN.out]; exact Nat.le_refl _)
      rw [hdn] at hTT hrow
      have HH : Hid (RS wr R vb T.2.1 T.2.2 ∧ wr.rowIs O 3 j (vf T.1) ∧ Ex2 R O w wr) := Lib.hid (by rw [hTT]; simp only [gS]; exact ⟨hrs, hrow, hex⟩)
      clear hh hd hTT hrs hrow hex hdn
      go_wp2
      go_end0
      exact ⟨⟨_, rfl⟩, HH.out.1, HH.out.2.1, HH.out.2.2⟩
end Go.Proofs.YteklahfgplbmcaaDoor.Hf

/- The reader's escapes. -/
namespace Go.Proofs.YteklahfgplbmcaaDoor.Hf
open Go Go.ChangeShapes Go.WideShapes Go.ChangeAt Go.RowKit Go.Proofs.YteklahfgplbmcaaDoor.Bk Go.Proofs.YteklahfgplbmcaaDoor.Bi Go.Proofs.YteklahfgplbmcaaDoor.Cr Go.Proofs.YteklahfgplbmcaaDoor.Fx

open Go.Proofs.YteklahfgplbmcaaDoor.BkPx
theorem pw {k : Nat} (h : k ≤ 12) : (1 : Int) ≤ 2 ^ k ∧ (2 : Int) ^ k ≤ 4096 := by
  have h1 : 2 ^ k ≤ 2 ^ 12 := Nat.pow_le_pow_right (by decide) h
  have h2 : (1 : Nat) ≤ 2 ^ k := Nat.one_le_two_pow
  have e : ((2 ^ k : Nat) : Int) = 2 ^ k := by push_cast; rfl
  omega
theorem gO_bdf (z : List Int) : ∀ (f k : Nat) (A E : Int), f + k ≤ 9 → 0 ≤ (gO z f k A E).1 ∧ (gO z f k A E).1 ≤ 8192
  | 0, _, _, _, _ => by simp [gO]
  | f + 1, k, A, E, h => by
    rw [gO]
    split
    · exact gO_bdf z f (k + 1) _ _ (by omega)
    · have q := rd1_bd z (rd1 z A E 1).2.1 (rd1 z A E 1).2.2 (k + 4)
      have p := pw (k := k + 4) (by omega)
      simp only
      omega
theorem gO_bd (z : List Int) (A E : Int) : 0 ≤ (gO z 9 0 A E).1 ∧ (gO z 9 0 A E).1 ≤ 8192 := gO_bdf z 9 0 A E (by omega)
set_option maxRecDepth 100000 in
set_option maxHeartbeats 4000000 in
theorem rescape_ok (W0 : World) (R : Nat) (vb : Value) (z : List Int) (A E : Int) (w : World) (b0 : Below W0.heap.size W0 w) (hR : W0.heap.size ≤ R) (hrs : RS w R vb A E)
    (hv : R8 W0 vb z) (hz : ∀ x ∈ z, 0 ≤ x ∧ x ≤ 255) (hl : z.length ≤ 20000) :
    Calls Tryd.prog 97 #[.pointer (some ⟨R, 0, none⟩)] w fun e w' => e = .returned (.int .i64 (gO z 9 0 A E).1) ∧ RS w' R vb (gO z 9 0 A E).2.1 (gO z 9 0 A E).2.2 ∧ Ex2 R R w w' := by
  have HG : Hid (∀ (x : World) (A E : Int), RS x R vb A E → Below W0.heap.size W0 x → Calls Tryd.prog 96 #[.pointer (some ⟨R, 0, none⟩), .int .i64 1] x fun e w' => e = .returned (.int .i64 (rd1 z A E 1).1) ∧ RS w' R vb (rd1 z A E 1).2.1 (rd1 z A E 1).2.2 ∧ Ex2 R R x w') := Lib.hid (fun x A E h hb => rget_ok h (hv.below hb) hz hl 1 (by decide))
  have HGl : Hid (∀ (x : World) (A E : Int) (k : Nat), k ≤ 12 → RS x R vb A E → Below W0.heap.size W0 x → Calls Tryd.prog 96 #[.pointer (some ⟨R, 0, none⟩), .int .i64 k] x fun e w' => e = .returned (.int .i64 (rd1 z A E k).1) ∧ RS w' R vb (rd1 z A E k).2.1 (rd1 z A E k).2.2 ∧ Ex2 R R x w') := Lib.hid (fun x A E k hk h hb => rget_ok h (hv.below hb) hz hl k (by omega))
  have HF : Hid (∀ (f k : Nat) (A E : Int), gO z (f + 1) k A E = if (rd1 z A E 1).1 = 1 then gO z f (k + 1) (rd1 z A E 1).2.1 (rd1 z A E 1).2.2 else (2 ^ (k + 4) + (rd1 z (rd1 z A E 1).2.1 (rd1 z A E 1).2.2 (k + 4)).1, (rd1 z (rd1 z A E 1).2.1 (rd1 z A E 1).2.2 (k + 4)).2)) := Lib.hid fun f k A E => rfl
  have H0 : Hid (∀ (k : Nat) (A E : Int), gO z 0 k A E = (0, A, 8)) := Lib.hid fun k A E => rfl
  have HBd := Lib.hid (fun A E s => rd1_bd z A E s)
  obtain ⟨T, hT⟩ : ∃ T, gO z 9 0 A E = T := ⟨_, rfl⟩
  rw [hT]
  have HW := Lib.hid b0.size
  have HB0 := Lib.hid b0
  have HT := Lib.hid hT
  have HRS := Lib.hid hrs
  clear hv hz hl hT hrs b0
  go_enter Tryd.func97, Tryd.ntmps97
  go_wp2
  go_loopw [3] (fun i wr => ∃ (k : Nat) (A1 E1 : Int), k ≤ 8 ∧ i = .int .i64 k ∧ Hid (gO z (9 - k) k A1 E1 = T ∧ RS wr R vb A1 E1 ∧ Ex2 R R w wr)) (fun i _ => 9 - (intOf i).toNat)
  case atStart => exact ⟨0, A, E, by omega, rfl, Lib.hid ⟨HT.out, HRS.out, Ex2.refl _ _ _⟩⟩
  case round =>
    obtain ⟨k, A1, E1, hk, rfl, hh⟩ := hrel
    obtain ⟨hTT, hrs, hex⟩ := hh.out
    have HGB := Lib.hid (HG.out wr A1 E1 hrs (HB0.out.trans (hex.bel hR hR HW.out)))
    rw [show 9 - k = (8 - k) + 1 by omega, HF.out] at hTT
    generalize rd1 z A1 E1 1 = Q at *
    obtain ⟨b, A2, E2⟩ := Q
    simp only at hTT HGB
    have HEX := Lib.hid hex
    by_cases hb1 : b = 1
    · subst hb1
      rw [if_pos rfl] at hTT
      by_cases h8 : k = 8
      · subst h8
        rw [show 8 - 8 = 0 from rfl, H0.out] at hTT
        have HH : Hid (∀ y, RS y R vb A2 E2 → Ex2 R R wr y → (y.cell? ⟨R, 2, none⟩ = some (.int .i64 E2) ∧ y.frozen? ⟨R, 2, none⟩ = false) ∧ (T.1 = 0 ∧ RS (y.setCell ⟨R, 2, none⟩ (.int .i64 8)) R vb T.2.1 T.2.2 ∧ Ex2 R R w (y.setCell ⟨R, 2, none⟩ (.int .i64 8)))) := Lib.hid fun y q1 q2 => by
          rw [← hTT]
          exact ⟨⟨q1.c.2.2.1, q1.c.2.2.2.2⟩, rfl, q1.set1 8, (HEX.out.trans q2).trans (Ex2.setR y 2 _)⟩
        clear hh hTT hrs hex
        go_wp2_with (go_at_call 96; ((with_reducible refine (HGB.out).mono ?_); rintro e w2 ⟨rfl, hr2, hx2⟩; obtain ⟨⟨z0, z1⟩, zz⟩ := HH.out w2 hr2 hx2; have ZZ := Lib.hid zz; clear zz hr2 hx2))
        go_ret
        exact ⟨by rw [ZZ.out.1]; rfl, ZZ.out.2.1, ZZ.out.2.2⟩
      · have HH : Hid (∀ y, RS y R vb A2 E2 → Ex2 R R wr y → (gO z (9 - (k + 1)) (k + 1) A2 E2 = T ∧ RS y R vb A2 E2 ∧ Ex2 R R w y)) := Lib.hid fun y q1 q2 => ⟨by rw [show 9 - (k + 1) = 8 - k by omega]; exact hTT, q1, HEX.out.trans q2⟩
        clear hh hTT hrs hex
        go_wp2_with (go_at_call 96; ((with_reducible refine (HGB.out).mono ?_); rintro e w2 ⟨rfl, hr2, hx2⟩; have ZZ := Lib.hid (HH.out w2 hr2 hx2); clear hr2 hx2))
        go_roundw
        case rel => exact ⟨k + 1, A2, E2, by omega, by go_num, ZZ⟩
        case measure => simp [intOf]; omega
    · rw [if_neg hb1] at hTT
      have hbe : (b == 1) = false := by simp [hb1]
      obtain ⟨kk, hkk⟩ : ∃ kk, k + 4 = kk := ⟨_, rfl⟩
      have hkw : IntKind.i64.wrap ((k : Int) + 4) = (kk : Int) := by rw [IntKind.wrap_i64]; omega
      rw [hkk] at hTT
      have hmin : min kk 64 = kk := by omega
      have hkk12 : kk ≤ 12 := by omega
      obtain ⟨p1, p2⟩ := pw (k := kk) (by omega)
      obtain ⟨q1, q2⟩ := HBd.out A2 E2 kk
      have HGk := Lib.hid (fun y (h1 : RS y R vb A2 E2) (h2 : Ex2 R R wr y) => HGl.out y A2 E2 kk (by omega) h1 (HB0.out.trans ((hex.trans h2).bel hR hR HW.out)))
      generalize rd1 z A2 E2 kk = Q at *
      obtain ⟨m, A3, E3⟩ := Q
      simp only at hTT HGk q1 q2
      obtain ⟨P, hP⟩ : ∃ P : Int, (2 : Int) ^ kk = P := ⟨_, rfl⟩
      rw [hP] at hTT p1 p2 q2
      have hPw : IntKind.i64.wrap P = P := by rw [IntKind.wrap_i64]; omega
      have hSw : IntKind.i64.wrap (P + m) = P + m := by rw [IntKind.wrap_i64]; omega
      have HT2 := Lib.hid hTT
      clear hh hTT hrs hex hkk
      go_upto_region 8 with first
        | (go_at_call 96; ((with_reducible refine (HGB.out).mono ?_); rintro e w2 ⟨rfl, hr2, hx2⟩; have R2 := Lib.hid hr2; have X2 := Lib.hid hx2; clear hr2 hx2))
      have R2d := Lib.hid (R2.out.drew)
      have X2d := Lib.hid (X2.out.trans (Ex2.drew R R w2))
      go_region_held3 (fun w' => True) (trivial)
        (first | (go_at_call 96; ((with_reducible refine (HGk.out _ R2d.out X2d.out).mono ?_); rintro e w3 ⟨rfl, hr3, hx3⟩; have R3 := Lib.hid hr3; have X3 := Lib.hid (HEX.out.trans (X2d.out.trans hx3)); clear hr3 hx3)))
      go_wp2
      go_ret
      exact ⟨by rw [← HT2.out]; rfl, by rw [← HT2.out]; exact R3.out, X3.out⟩
set_option maxRecDepth 100000 in
set_option maxHeartbeats 4000000 in
theorem rescapes_ok (W0 : World) (R O : Nat) (vb : Value) (z vs : List Int) (A E : Int) (w : World) (b0 : Below W0.heap.size W0 w) (hR : W0.heap.size ≤ R) (hO : W0.heap.size ≤ O) (hne : O ≠ R) (hrs : RS w R vb A E) (hvs : w.rowIs O 3 vs.length (vf vs)) (hn : vs.length ≤ 4)
    (hv : R8 W0 vb z) (hz : ∀ x ∈ z, 0 ≤ x ∧ x ≤ 255) (hl : z.length ≤ 20000) :
    Calls Tryd.prog 72 #[.pointer (some ⟨R, 0, none⟩), .slice (some ⟨O, 0, none⟩) vs.length vs.length] w fun e w' => (∃ v, e = .returned v) ∧ RS w' R vb (gX z vs A E).2.1 (gX z vs A E).2.2 ∧ w'.rowIs O 3 vs.length (vf (gX z vs A E).1) ∧ Ex2 R O w w' := by
  have HG : Hid (∀ (x : World) (A E : Int), RS x R vb A E → Below W0.heap.size W0 x → Calls Tryd.prog 97 #[.pointer (some ⟨R, 0, none⟩)] x fun e w' => e = .returned (.int .i64 (gO z 9 0 A E).1) ∧ RS w' R vb (gO z 9 0 A E).2.1 (gO z 9 0 A E).2.2 ∧ Ex2 R R x w') := Lib.hid (fun x A E h hb => rescape_ok W0 R vb z A E x hb hR h hv hz hl)
  have HBo := Lib.hid (fun A E => gO_bd z A E)
  obtain ⟨T, hT⟩ : ∃ T, gX z vs A E = T := ⟨_, rfl⟩
  rw [hT]
  have HW := Lib.hid b0.size
  have HB0 := Lib.hid b0
  obtain ⟨n, hnn⟩ : ∃ n, vs.length = n := ⟨_, rfl⟩
  have HN := Lib.hid hnn
  have HT := Lib.hid hT
  have HRS := Lib.hid hrs
  have HVS := Lib.hid hvs
  rw [hnn] at hn HVS ⊢
  clear hv hz hl hT hnn hrs hvs b0
  go_enter Tryd.func72, Tryd.ntmps72
  go_wp2
  go_loopw [8] (fun i wr => ∃ (j : Nat) (d : List Int) (A1 E1 : Int), j ≤ n ∧ i = .int .i64 j ∧ Hid (d.length = j ∧ T = (d ++ (gX z (vs.drop j) A1 E1).1, (gX z (vs.drop j) A1 E1).2) ∧ RS wr R vb A1 E1 ∧ wr.rowIs O 3 n (vf (d ++ vs.drop j)) ∧ Ex2 R O w wr)) (fun i _ => n - (intOf i).toNat)
  case atStart => exact ⟨0, [], A, E, by omega, rfl, Lib.hid ⟨rfl, by rw [List.drop_zero, HT.out]; rfl, HRS.out, by simpa using HVS.out, Ex2.refl _ _ _⟩⟩
  case round =>
    obtain ⟨j, d, A1, E1, hj, rfl, hh⟩ := hrel
    obtain ⟨hd, hTT, hrs, hrow, hex⟩ := hh.out
    by_cases hlt : j < n
    · have hdc := drop_cons (l := vs) (j := j) (by rw [HN.out]; exact hlt)
      obtain ⟨v, hvv⟩ : ∃ v, vs.getD j 0 = v := ⟨_, rfl⟩
      rw [hvv] at hdc
      rw [hdc] at hTT hrow
      have c1 := vf_at hrow (by rw [hd]; exact hlt)
      rw [hd] at c1
      have HGB := Lib.hid (HG.out wr A1 E1 hrs (HB0.out.trans (hex.bel hR hO HW.out)))
      have hbo := HBo.out A1 E1
      rw [gX] at hTT
      generalize gO z 9 0 A1 E1 = Q at *
      obtain ⟨b, A2, E2⟩ := Q
      simp only at hTT HGB hbo
      have HP : Hid (∀ (x : Int), T = (d ++ (x :: (gX z (vs.drop (j + 1)) A2 E2).1), (gX z (vs.drop (j + 1)) A2 E2).2) → ∀ y, RS y R vb A2 E2 ∧ Ex2 R R wr y → (y.cell? ⟨O, j, none⟩ = some (.int .i64 v) ∧ y.frozen? ⟨O, j, none⟩ = false) ∧ ((d ++ [x]).length = j + 1 ∧ T = ((d ++ [x]) ++ (gX z (vs.drop (j + 1)) A2 E2).1, (gX z (vs.drop (j + 1)) A2 E2).2) ∧ RS (y.setCell ⟨O, j, none⟩ (.int .i64 x)) R vb A2 E2 ∧ (y.setCell ⟨O, j, none⟩ (.int .i64 x)).rowIs O 3 n (vf ((d ++ [x]) ++ vs.drop (j + 1))) ∧ Ex2 R O w (y.setCell ⟨O, j, none⟩ (.int .i64 x)))) := Lib.hid fun x hT2 y ⟨q1, q2⟩ => by
        have hrow2 := q2.row hrow hne hne
        have c2 := vf_at hrow2 (by rw [hd]; exact hlt)
        rw [hd] at c2
        have hs := vf_set (x := x) hrow2
        rw [hd] at hs
        exact ⟨⟨c2, hrow2.frozen j⟩, by simp [hd], by rw [hT2]; simp, World.rowIs.setOther q1 (by show R ≠ O; exact Ne.symm hne) _, by simpa using hs, (hex.trans q2.wide).trans (Ex2.setO y j _)⟩
      by_cases h16 : v = 16
      · subst h16
        rw [if_pos rfl] at hTT
        have HQ := Lib.hid (HP.out b hTT)
        clear hh hd hTT hrs hrow hex hdc hvv HP
        go_wp2_with (go_at_call 97; ((with_reducible refine (HGB.out).mono ?_); rintro e w2 ⟨rfl, hr2, hx2⟩; obtain ⟨⟨z0, z1⟩, zz⟩ := HQ.out w2 ⟨hr2, hx2⟩; have ZZ := Lib.hid zz; clear zz hr2 hx2))
        go_roundw
        case rel => exact ⟨j + 1, d ++ [b], A2, E2, by omega, by go_num, ZZ⟩
        case measure => simp [intOf]; omega
      by_cases h17 : v = -16
      · subst h17
        rw [if_neg (by decide), if_pos rfl] at hTT
        have hw : IntKind.i64.wrap (-b) = -b := by rw [IntKind.wrap_i64]; omega
        have HQ := Lib.hid (HP.out (-b) hTT)
        clear hh hd hTT hrs hrow hex hdc hvv HP
        go_wp2_with (go_at_call 97; ((with_reducible refine (HGB.out).mono ?_); rintro e w2 ⟨rfl, hr2, hx2⟩; obtain ⟨⟨z0, z1⟩, zz⟩ := HQ.out w2 ⟨hr2, hx2⟩; have ZZ := Lib.hid zz; clear zz hr2 hx2))
        go_roundw
        case rel => exact ⟨j + 1, d ++ [-b], A2, E2, by omega, by go_num, ZZ⟩
        case measure => simp [intOf]; omega
      · rw [if_neg h16, if_neg h17] at hTT
        have b1 : (v == 16) = false := by simp [h16]
        have b2 : (v == -16) = false := by simp [h17]
        have HH : Hid ((d ++ [v]).length = j + 1 ∧ T = ((d ++ [v]) ++ (gX z (vs.drop (j + 1)) A1 E1).1, (gX z (vs.drop (j + 1)) A1 E1).2) ∧ RS wr R vb A1 E1 ∧ wr.rowIs O 3 n (vf ((d ++ [v]) ++ vs.drop (j + 1))) ∧ Ex2 R O w wr) := Lib.hid ⟨by simp [hd], by rw [hTT]; simp, hrs, by simpa using hrow, hex⟩
        clear hh hd hTT hrs hrow hex hdc hvv HP HGB
        go_wp2
        go_roundw
        case rel => exact ⟨j + 1, d ++ [v], A1, E1, by omega, by go_num, HH⟩
        case measure => simp [intOf]; omega
    · have hend : j = n := by omega
      subst hend
      have hdn : vs.drop j = [] := List.drop_eq_nil_of_le (by rw [HN.out]; exact Nat.le_refl _)
      rw [hdn] at hTT hrow
      have HH : Hid (RS wr R vb T.2.1 T.2.2 ∧ wr.rowIs O 3 j (vf T.1) ∧ Ex2 R O w wr) := Lib.hid (by rw [hTT]; simp only [gX]; exact ⟨hrs, hrow, hex⟩)
      clear hh hd hTT hrs hrow hex hdn
      go_wp2
      go_end0
      exact ⟨⟨_, rfl⟩, HH.out.1, HH.out.2.1, HH.out.2.2⟩
end Go.Proofs.YteklahfgplbmcaaDoor.Hf

/- Get, plain, and its record. -/
namespace Go.Proofs.YteklahfgplbmcaaDoor.Hf
open Go Go.ChangeShapes Go.WideShapes Go.ChangeAt Go.RowKit Go.Proofs.YteklahfgplbmcaaDoor.Bk Go.Proofs.YteklahfgplbmcaaDoor.Bi Go.Proofs.YteklahfgplbmcaaDoor.Cr Go.Proofs.YteklahfgplbmcaaDoor.Fx

open Go.Proofs.YteklahfgplbmcaaDoor.BkRf Go.Proofs.YteklahfgplbmcaaDoor.BkPx
def gT (z : List Int) (i : Int) (vs : List Int) (n : Int) : List Int × Int × Int :=
  if i = 11 then gX z (if sgd i then (vs, n, (0 : Int)) else gS z vs n 0).1 (if sgd i then (vs, n, (0 : Int)) else gS z vs n 0).2.1 (if sgd i then (vs, n, (0 : Int)) else gS z vs n 0).2.2 else (if sgd i then (vs, n, (0 : Int)) else gS z vs n 0)
noncomputable def gV (i p : Int) (A B z : List Int) (t : Int) : List Int × Int × Int :=
  if i = 12 then ([], 0, if IsBk i p A B then 2 else 8)
  else if (rdF i p A B z t).2.2 ≠ 0 then ([], 0, (rdF i p A B z t).2.2)
  else if (gT z i (vals (bs i.toNat) (lw i.toNat) (dm i.toNat) (rdF i p A B z t).1.toNat) (rdF i p A B z t).2.1).2.2 ≠ 0 then ([], 0, (gT z i (vals (bs i.toNat) (lw i.toNat) (dm i.toNat) (rdF i p A B z t).1.toNat) (rdF i p A B z t).2.1).2.2)
  else gT z i (vals (bs i.toNat) (lw i.toNat) (dm i.toNat) (rdF i p A B z t).1.toNat) (rdF i p A B z t).2.1
theorem rdF_ok {i p : Int} {A B z : List Int} {t : Int} (h : (rdF i p A B z t).2.2 = 0) : IsBk i p A B ∧ ∃ id n a s : Nat, i = id ∧ 1 ≤ id ∧ id ≤ 12 ∧ p = pl id ∧ n < Nn id ∧ t = a ∧ a + s ≤ z.length ∧ (z.drop a).take s = cd (pl id) (rk id n) ∧ rdF i p A B z t = ((n : Int), ((a + s : Nat) : Int), 0) := by
  have hk : IsBk i p A B := by
    by_cases hk : IsBk i p A B
    · exact hk
    · unfold rdF at h; rw [if_neg hk] at h; exact absurd h (by decide)
  obtain ⟨id, rfl, h1, h2, rfl, _⟩ := isbk_nn hk
  refine ⟨hk, ?_⟩
  unfold rdF at h ⊢
  rw [if_pos hk] at h ⊢
  simp only [Int.toNat_natCast] at h ⊢
  have hord := ord_is h1 h2
  obtain ⟨a, s, r, rfl, hal, hr, hcd, hrf⟩ := read_back (ord id) (pl id) z t h
  rw [hord.length] at hr
  obtain ⟨n, hn1, hn2, hn3⟩ := hord.at hr
  have hrk : rk id n = r := hn3
  have hg : (ord id).getD r 0 = n := by rw [List.getD_eq_getElem?_getD, hn1]; rfl
  rw [hg] at hrf
  exact ⟨id, n, a, s, rfl, h1, h2, rfl, hn2, rfl, hal, by rw [hrk]; exact hcd, hrf⟩
theorem alloc_lt {w w1 : World} {o : Obj} {O : Nat} (h : Below (w.alloc o).heap.size (w.alloc o) w1) (hO : w1.heap.size ≤ O) : w.heap.size < O := by
  have := h.size
  simp only [World.size_alloc] at this
  omega
theorem gS_len (z : List Int) : ∀ (l : List Int) (A E : Int), (gS z l A E).1.length = l.length
  | [], _, _ => rfl
  | v :: l, A, E => by
    rw [gS]
    split <;> simp [gS_len z l]
theorem gX_len (z : List Int) : ∀ (l : List Int) (A E : Int), (gX z l A E).1.length = l.length
  | [], _, _ => rfl
  | v :: l, A, E => by
    rw [gX]
    split
    · simp [gX_len z l]
    · split <;> simp [gX_len z l]
theorem new_reader {w w2 : World} {O n : Nat} {vs : Nat → Int} {vb a b c d : Value} {A : Int} (hr : w2.rowIs O 3 n (fun j => .int .i64 (vs j))) (hO : w.heap.size < O) (hb : Below w.heap.size w w2) (hx : Below (w.alloc (.cells #[a, b, c, d] 24)).heap.size (w.alloc (.cells #[a, b, c, d] 24)) w2) :
    (O ≠ w2.heap.size ∧ w.heap.size ≤ w2.heap.size) ∧ RS (w2.alloc (.cells #[vb, .int .i64 A, .int .i64 0] 104)) w2.heap.size vb A 0 ∧ Below w.heap.size w (w2.alloc (.cells #[vb, .int .i64 A, .int .i64 0] 104)) ∧ (w2.alloc (.cells #[vb, .int .i64 A, .int .i64 0] 104)).rowIs O 3 n (fun j => .int .i64 (vs j)) ∧
      ∀ (y : World) {A' E' : Int}, Ex2 w2.heap.size O (w2.alloc (.cells #[vb, .int .i64 A, .int .i64 0] 104)) y → RS y w2.heap.size vb A' E' → y.cell? ⟨w.heap.size, 0, none⟩ = some a ∧ y.cell? ⟨w2.heap.size, 0, none⟩ = some vb ∧ y.cell? ⟨w2.heap.size, 1, none⟩ = some (.int .i64 A') ∧ y.cell? ⟨w2.heap.size, 2, none⟩ = some (.int .i64 E') := by
  have hlt := hr.lt
  refine ⟨⟨by omega, hb.size⟩, World.rowIs_alloc w2 #[vb, .int .i64 A, .int .i64 0] 104 (rf vb A 0) (fun i hi => by
    have h3 : i < 3 := hi
    have : i = 0 ∨ i = 1 ∨ i = 2 := by omega
    rcases this with rfl | rfl | rfl <;> rfl), al_b hb, hr.alloc _, fun y A' E' h1 h2 => ⟨?_, h2.c.1, h2.c.2.1, h2.c.2.2.1⟩⟩
  have hs := hx.size
  simp only [World.size_alloc] at hs
  have e : y.heap[w.heap.size]? = w2.heap[w.heap.size]? := (h1.block w.heap.size (by omega) (by omega) (by simp; omega)).trans (Below.heap_alloc w2 _ _ (by omega))
  exact (World.cell?_of_block (w := w2) (a := ⟨w.heap.size, 0, none⟩) e).trans (bx1 hx).1
end Go.Proofs.YteklahfgplbmcaaDoor.Hf

/- Get, of whatever book. -/
namespace Go.Proofs.YteklahfgplbmcaaDoor.Hf
open Go Go.ChangeShapes Go.WideShapes Go.ChangeAt Go.RowKit Go.Proofs.YteklahfgplbmcaaDoor.Bk Go.Proofs.YteklahfgplbmcaaDoor.Bi Go.Proofs.YteklahfgplbmcaaDoor.Cr Go.Proofs.YteklahfgplbmcaaDoor.Fx

open Go.Proofs.YteklahfgplbmcaaDoor.BkRf Go.Proofs.YteklahfgplbmcaaDoor.BkPx
set_option maxRecDepth 100000 in
theorem stepsOnly_ok (i p : Int) (a1 a2 : Option Addr) (c1 c2 : Nat) (A B : List Int) (w : World) (hs : Sh w) (r1 : Rd w (.slice a1 A.length c1) A) (r2 : Rd w (.slice a2 B.length c2) B) :
    Calls Tryd.prog 69 #[.agg #[.int .i64 i, .int .i64 p, .slice a1 A.length c1, .slice a2 B.length c2]] w fun e w' => e = .returned (.int .i64 (if IsBk i p A B then 2 else 8)) ∧ Below w.heap.size w w' := by
  have HB := Lib.hid (al w (.cells #[.int .i64 i, .int .i64 p, .slice a1 A.length c1, .slice a2 B.length c2] 24))
  obtain ⟨p0, p1, p2, p3⟩ := bx1 (w := w) (a := .int .i64 i) (b := .int .i64 p) (c := .slice a1 A.length c1) (d := .slice a2 B.length c2) (Below.refl _ _)
  have H16 := Lib.hid (fun x (h : Below w.heap.size w x) => pcd_any i p 0 a1 a2 c1 c2 A B x (hs.below h) (r1.below h) (r2.below h))
  by_cases hk : IsBk i p A B
  · have e : cdX i p A B 0 = 0 := by
      obtain ⟨id', e, _, _, _, _, hB, h0, _⟩ := isbk_nn hk
      unfold cdX; rw [if_pos hk, if_pos (by omega)]
    rw [e] at H16
    rw [if_pos hk]
    clear hk hs r1 r2 e
    go_enter Tryd.func69, Tryd.ntmps69
    go_wp2_with (go_at_call 16; ((with_reducible refine (H16.out _ HB.out).mono ?_); rintro e w1 ⟨v1, rfl, ho, hb⟩; have B1 := Lib.hid (bT HB.out hb); clear ho hb))
    go_ret
    exact ⟨rfl, B1.out⟩
  · have e : cdX i p A B 0 = 8 := by unfold cdX; rw [if_neg hk]
    rw [e] at H16
    rw [if_neg hk]
    clear hk hs r1 r2 e
    go_enter Tryd.func69, Tryd.ntmps69
    go_wp2_with (go_at_call 16; ((with_reducible refine (H16.out _ HB.out).mono ?_); rintro e w1 ⟨v1, rfl, ho, hb⟩; have B1 := Lib.hid (bT HB.out hb); clear ho hb))
    go_ret
    exact ⟨rfl, B1.out⟩
set_option maxRecDepth 100000 in
set_option maxHeartbeats 8000000 in
theorem get32_ok (vb : Value) (z : List Int) (t : Int) (i p : Int) (a1 a2 : Option Addr) (c1 c2 : Nat) (A B : List Int) (w : World) (hs : Sh w) (r1 : Rd w (.slice a1 A.length c1) A) (r2 : Rd w (.slice a2 B.length c2) B) (hv : R8 w vb z) (hz : ∀ x ∈ z, 0 ≤ x ∧ x ≤ 255) (hl : z.length ≤ 20000) :
    Calls Tryd.prog 32 #[vb, .int .i64 t, .agg #[.int .i64 i, .int .i64 p, .slice a1 A.length c1, .slice a2 B.length c2]] w fun e w' => ∃ v, e = .returned (.tuple #[v, .int .i64 (gV i p A B z t).2.1, .int .i64 (gV i p A B z t).2.2]) ∧ Rd w' v (gV i p A B z t).1 ∧ Below w.heap.size w w' := by
  obtain ⟨a0, m0, c0, rfl⟩ : ∃ a0 m0 c0, vb = .slice a0 m0 c0 := by obtain ⟨a, c, h⟩ := (r8_src hv).shape; exact ⟨a, _, c, h⟩
  have HB := Lib.hid (al w (.cells #[.int .i64 i, .int .i64 p, .slice a1 A.length c1, .slice a2 B.length c2] 24))
  have HX := Lib.hid (fun x h => bx1 (w := w) (a := .int .i64 i) (b := .int .i64 p) (c := .slice a1 A.length c1) (d := .slice a2 B.length c2) (x := x) h)
  obtain ⟨p0, p1, p2, p3⟩ := HX.out _ (Below.refl _ _)
  by_cases h12 : i = 12
  · subst h12
    have e : gV 12 p A B z t = ([], 0, if IsBk 12 p A B then 2 else 8) := by unfold gV; rw [if_pos rfl]
    rw [e]
    have H69 := Lib.hid (fun x (h : Below w.heap.size w x) => stepsOnly_ok 12 p a1 a2 c1 c2 A B x (hs.below h) (r1.below h) (r2.below h))
    generalize (if IsBk 12 p A B then (2 : Int) else 8) = X at *
    clear hs r1 r2 hv hz hl e
    go_enter Tryd.func32, Tryd.ntmps32
    go_wp2_with (go_at_call 69; ((with_reducible refine (H69.out _ HB.out).mono ?_); rintro e w1 ⟨rfl, hb⟩; have B1 := Lib.hid (bT HB.out hb); clear hb))
    go_ret3
    exact ⟨_, rfl, nil_rd _ _ _, B1.out⟩
  have H17 := Lib.hid (fun x (h : Below w.heap.size w x) => pread_any i p t a1 a2 c1 c2 A B (.slice a0 m0 c0) z x (hs.below h) (r1.below h) (r2.below h) (hv.below h) hz hl)
  have h12b : (i == 12) = false := by simp [h12]
  by_cases her : (rdF i p A B z t).2.2 = 0
  · obtain ⟨hk, id, n, a, s, rfl, i1, i2, rfl, hn, g7, g8, g9, hrd⟩ := rdF_ok her
    clear g7 g8 g9
    have i11 : id ≤ 11 := by omega
    have e : gV id (pl id) A B z t = if (gT z id (vals (bs id) (lw id) (dm id) n) ((a + s : Nat) : Int)).2.2 ≠ 0 then ([], 0, (gT z id (vals (bs id) (lw id) (dm id) n) ((a + s : Nat) : Int)).2.2) else gT z id (vals (bs id) (lw id) (dm id) n) ((a + s : Nat) : Int) := by
      unfold gV
      rw [if_neg h12, if_neg (by rw [her]; simp), hrd]
      simp only [Int.toNat_natCast]
    rw [hrd] at H17
    rw [e]
    have H20 := Lib.hid (fun x (h : Below w.heap.size w x) => values_ok id n x i1 (by omega) (hs.below h) hn)
    have H70 := Lib.hid (fun x => signed_ok (id : Int) x)
    have hd4 : dm id ≤ 4 := (facts i1 (by omega)).2.2.2.2.1
    have hv1 : Hid (∀ j, valsI id n j = (vals (bs id) (lw id) (dm id) n).getD j 0) := Lib.hid fun _ => rfl
    have hvl := vals_len (bs id) (lw id) (dm id) n
    have hvb := vals_bd (bs id) (lw id) (facts i1 (by omega)).2.1 (dm id) n
    have hf := facts i1 (by omega : id ≤ 12)
    simp only [T3] at H17
    obtain ⟨nx, hnx⟩ : ∃ nx : Int, ((a + s : Nat) : Int) = nx := ⟨_, rfl⟩
    rw [hnx] at H17 ⊢
    have HR0 : Hid (∀ (y : World) (O : Nat), y.rowIs O 3 (dm id) (fun j => .int .i64 (valsI id n j)) → Rd y (.slice (some ⟨O, 0, none⟩) (dm id) (dm id)) (vals (bs id) (lw id) (dm id) n)) := Lib.hid fun y O h => rd_row h hvl (by unfold maxLen; omega) (fun j _ => hv1.out j)
    have hid12 : ((id : Int) == 12) = false := h12b
    cases hsg : sgd (id : Int)
    · rw [hsg] at H70
      have hlo : lw id = 0 := ((lims i1 i11).2.2.2 hsg).1
      have hbb : ∀ v ∈ vals (bs id) (lw id) (dm id) n, 0 ≤ v ∧ v ≤ 1000 := fun v hv => by have := hvb v hv; have := hf; omega
      have hgl := gS_len z (vals (bs id) (lw id) (dm id) n) nx 0
      have H71 : Hid (∀ (y : World) (R O : Nat), Below w.heap.size w y → w.heap.size ≤ R → w.heap.size ≤ O → O ≠ R → RS y R (.slice a0 m0 c0) nx 0 → y.rowIs O 3 (dm id) (fun j => .int .i64 (valsI id n j)) → Calls Tryd.prog 71 #[.pointer (some ⟨R, 0, none⟩), .slice (some ⟨O, 0, none⟩) (dm id) (dm id)] y fun e w' => (∃ v, e = .returned v) ∧ RS w' R (.slice a0 m0 c0) (gS z (vals (bs id) (lw id) (dm id) n) nx 0).2.1 (gS z (vals (bs id) (lw id) (dm id) n) nx 0).2.2 ∧ w'.rowIs O 3 (dm id) (vf (gS z (vals (bs id) (lw id) (dm id) n) nx 0).1) ∧ Ex2 R O y w') := Lib.hid fun y R O h1 h2 h3 h4 h5 h6 => by
        have q := rsigns_ok w R O (.slice a0 m0 c0) z (vals (bs id) (lw id) (dm id) n) nx 0 y h1 h2 h3 h4 h5 (by rw [hvl]; exact h6) (by rw [hvl]; exact hd4) hbb hv hz hl
        rw [hvl] at q
        exact q
      have H72 : Hid (∀ (y : World) (R O : Nat), Below w.heap.size w y → w.heap.size ≤ R → w.heap.size ≤ O → O ≠ R → RS y R (.slice a0 m0 c0) (gS z (vals (bs id) (lw id) (dm id) n) nx 0).2.1 (gS z (vals (bs id) (lw id) (dm id) n) nx 0).2.2 → y.rowIs O 3 (dm id) (vf (gS z (vals (bs id) (lw id) (dm id) n) nx 0).1) → Calls Tryd.prog 72 #[.pointer (some ⟨R, 0, none⟩), .slice (some ⟨O, 0, none⟩) (dm id) (dm id)] y fun e w' => (∃ v, e = .returned v) ∧ RS w' R (.slice a0 m0 c0) (gX z (gS z (vals (bs id) (lw id) (dm id) n) nx 0).1 (gS z (vals (bs id) (lw id) (dm id) n) nx 0).2.1 (gS z (vals (bs id) (lw id) (dm id) n) nx 0).2.2).2.1 (gX z (gS z (vals (bs id) (lw id) (dm id) n) nx 0).1 (gS z (vals (bs id) (lw id) (dm id) n) nx 0).2.1 (gS z (vals (bs id) (lw id) (dm id) n) nx 0).2.2).2.2 ∧ w'.rowIs O 3 (dm id) (vf (gX z (gS z (vals (bs id) (lw id) (dm id) n) nx 0).1 (gS z (vals (bs id) (lw id) (dm id) n) nx 0).2.1 (gS z (vals (bs id) (lw id) (dm id) n) nx 0).2.2).1) ∧ Ex2 R O y w') := Lib.hid fun y R O h1 h2 h3 h4 h5 h6 => by
        have q := rescapes_ok w R O (.slice a0 m0 c0) z (gS z (vals (bs id) (lw id) (dm id) n) nx 0).1 (gS z (vals (bs id) (lw id) (dm id) n) nx 0).2.1 (gS z (vals (bs id) (lw id) (dm id) n) nx 0).2.2 y h1 h2 h3 h4 h5 (by rw [hgl, hvl]; exact h6) (by rw [hgl, hvl]; exact hd4) hv hz hl
        rw [hgl, hvl] at q
        exact q
      have hxl := gX_len z (gS z (vals (bs id) (lw id) (dm id) n) nx 0).1 (gS z (vals (bs id) (lw id) (dm id) n) nx 0).2.1 (gS z (vals (bs id) (lw id) (dm id) n) nx 0).2.2
      rw [hgl, hvl] at hxl
      rw [hvl] at hgl
      by_cases h11 : (id : Int) = 11
      · have eT : gT z id (vals (bs id) (lw id) (dm id) n) nx = gX z (gS z (vals (bs id) (lw id) (dm id) n) nx 0).1 (gS z (vals (bs id) (lw id) (dm id) n) nx 0).2.1 (gS z (vals (bs id) (lw id) (dm id) n) nx 0).2.2 := by unfold gT; rw [if_pos h11, hsg]; rfl
        rw [eT]
        generalize gX z (gS z (vals (bs id) (lw id) (dm id) n) nx 0).1 (gS z (vals (bs id) (lw id) (dm id) n) nx 0).2.1 (gS z (vals (bs id) (lw id) (dm id) n) nx 0).2.2 = T at *
        generalize gS z (vals (bs id) (lw id) (dm id) n) nx 0 = U at *
        have HR5 : Hid (∀ (y : World) (O : Nat), y.rowIs O 3 (dm id) (vf T.1) → Rd y (.slice (some ⟨O, 0, none⟩) (dm id) (dm id)) T.1) := Lib.hid fun y O h => rd_row h hxl (by unfold maxLen; omega) (fun j _ => rfl)
        have HD4 : dm id ≤ 4 := hd4
        obtain ⟨dd, hdd⟩ : ∃ dd, dm id = dd := ⟨_, rfl⟩
        rw [hdd] at H20 H71 H72 HR5 HD4
        generalize hii : (id : Int) = I at *
        clear hs r1 r2 hv hz hl hk her e h12 hrd hn i1 i2 i11 hd4 hvl hvb hf hlo hbb hgl hxl hsg eT hnx HR0 hdd hii
        subst h11
        by_cases hE : T.2.2 = 0
        · rw [if_neg (by rw [hE]; decide)]
          obtain ⟨L, N, E⟩ := T
          simp only at hE H72 HR5 ⊢
          subst hE
          go_enter Tryd.func32, Tryd.ntmps32
          go_upto_region 14 with first
            | (go_at_call 17; ((with_reducible refine (H17.out _ HB.out).mono ?_); rintro e w1 ⟨rfl, hb⟩; have B1 := Lib.hid (bT HB.out hb); have X1 := Lib.hid hb; clear p0 p1 p2 p3; obtain ⟨p0, p1, p2, p3⟩ := HX.out w1 X1.out; clear hb))
            | (go_at_call 20; ((with_reducible refine (H20.out _ B1.out).mono ?_); rintro e w2 ⟨O, rfl, hO, hr, hb⟩; have B2 := Lib.hid (bT B1.out hb); have X2 := Lib.hid (bT X1.out hb); clear p0 p1 p2 p3; obtain ⟨p0, p1, p2, p3⟩ := HX.out w2 X2.out; have hO2 := alloc_lt X1.out hO; have ZZ := Lib.hid (new_reader (vb := .slice a0 m0 c0) (A := nx) hr hO2 B2.out X2.out); have WO := Lib.hid (show w.heap.size ≤ O from Nat.le_of_lt hO2); clear p0 p1 p2 p3; obtain ⟨k0, r0, r1, r2⟩ := ZZ.out.2.2.2.2 _ (Ex2.refl _ _ _) ZZ.out.2.1; clear hb hr hO hO2))
            | (go_at_call 70; ((with_reducible refine (H70.out _).mono ?_); rintro e w8 ⟨rfl, rfl⟩))
            | (go_at_call 71; go_loud ((with_reducible refine (H71.out _ _ _ ZZ.out.2.2.1 ZZ.out.1.2 WO.out ZZ.out.1.1 ZZ.out.2.1 ZZ.out.2.2.2.1).mono ?_); rintro e w4 ⟨⟨v4, rfl⟩, hs4, hr4, hx4⟩; have S4 := Lib.hid hs4; have R4 := Lib.hid hr4; have X4 := Lib.hid hx4; have B4 := Lib.hid (ZZ.out.2.2.1.trans (hx4.bel ZZ.out.1.2 WO.out ZZ.out.2.2.1.size)); clear k0 r0 r1 r2; obtain ⟨k0, r0, r1, r2⟩ := ZZ.out.2.2.2.2 _ hx4 hs4; clear hs4 hr4 hx4))
            | (go_at_call 72; go_loud ((with_reducible refine (H72.out _ _ _ B4.out ZZ.out.1.2 WO.out ZZ.out.1.1 S4.out R4.out).mono ?_); rintro e w5 ⟨⟨v5, rfl⟩, hs5, hr5, hx5⟩; have R5 := Lib.hid hr5; have B5 := Lib.hid (B4.out.trans (hx5.bel ZZ.out.1.2 WO.out B4.out.size)); clear k0 r0 r1 r2; obtain ⟨k0, r0, r1, r2⟩ := ZZ.out.2.2.2.2 _ (X4.out.trans hx5) hs5; clear hs5 hr5 hx5))
          have hdw := Lib.hid (Go.Proofs.YteklahfgplbmcaaDoor.Fx.drewN_belowL w5)
          go_quiet (fail)
          go_wp2
          go_ret3
          exact ⟨_, rfl, Rd.below (HR5.out _ _ R5.out) (hdw.out _), bT B5.out (hdw.out _)⟩
        · rw [if_pos hE]
          obtain ⟨L, N, E⟩ := T
          simp only at hE H72 HR5 ⊢
          have hEb : (E == 0) = false := by simp [hE]
          have hEn : (E != 0) = true := by simp [hE]
          go_enter Tryd.func32, Tryd.ntmps32
          go_upto_region 13 with first
            | (go_at_call 17; ((with_reducible refine (H17.out _ HB.out).mono ?_); rintro e w1 ⟨rfl, hb⟩; have B1 := Lib.hid (bT HB.out hb); have X1 := Lib.hid hb; clear p0 p1 p2 p3; obtain ⟨p0, p1, p2, p3⟩ := HX.out w1 X1.out; clear hb))
            | (go_at_call 20; ((with_reducible refine (H20.out _ B1.out).mono ?_); rintro e w2 ⟨O, rfl, hO, hr, hb⟩; have B2 := Lib.hid (bT B1.out hb); have X2 := Lib.hid (bT X1.out hb); clear p0 p1 p2 p3; obtain ⟨p0, p1, p2, p3⟩ := HX.out w2 X2.out; have hO2 := alloc_lt X1.out hO; have ZZ := Lib.hid (new_reader (vb := .slice a0 m0 c0) (A := nx) hr hO2 B2.out X2.out); have WO := Lib.hid (show w.heap.size ≤ O from Nat.le_of_lt hO2); clear p0 p1 p2 p3; obtain ⟨k0, r0, r1, r2⟩ := ZZ.out.2.2.2.2 _ (Ex2.refl _ _ _) ZZ.out.2.1; clear hb hr hO hO2))
            | (go_at_call 70; ((with_reducible refine (H70.out _).mono ?_); rintro e w8 ⟨rfl, rfl⟩))
            | (go_at_call 71; go_loud ((with_reducible refine (H71.out _ _ _ ZZ.out.2.2.1 ZZ.out.1.2 WO.out ZZ.out.1.1 ZZ.out.2.1 ZZ.out.2.2.2.1).mono ?_); rintro e w4 ⟨⟨v4, rfl⟩, hs4, hr4, hx4⟩; have S4 := Lib.hid hs4; have R4 := Lib.hid hr4; have X4 := Lib.hid hx4; have B4 := Lib.hid (ZZ.out.2.2.1.trans (hx4.bel ZZ.out.1.2 WO.out ZZ.out.2.2.1.size)); clear k0 r0 r1 r2; obtain ⟨k0, r0, r1, r2⟩ := ZZ.out.2.2.2.2 _ hx4 hs4; clear hs4 hr4 hx4))
            | (go_at_call 72; go_loud ((with_reducible refine (H72.out _ _ _ B4.out ZZ.out.1.2 WO.out ZZ.out.1.1 S4.out R4.out).mono ?_); rintro e w5 ⟨⟨v5, rfl⟩, hs5, hr5, hx5⟩; have R5 := Lib.hid hr5; have B5 := Lib.hid (B4.out.trans (hx5.bel ZZ.out.1.2 WO.out B4.out.size)); clear k0 r0 r1 r2; obtain ⟨k0, r0, r1, r2⟩ := ZZ.out.2.2.2.2 _ (X4.out.trans hx5) hs5; clear hs5 hr5 hx5))
          have hdw := Lib.hid (Go.Proofs.YteklahfgplbmcaaDoor.Fx.drewN_belowL w5)
          go_quiet (fail)
          go_wp2
          go_ret3
          exact ⟨_, rfl, nil_rd _ _ _, bT B5.out (hdw.out _)⟩
      · have eT : gT z id (vals (bs id) (lw id) (dm id) n) nx = gS z (vals (bs id) (lw id) (dm id) n) nx 0 := by unfold gT; rw [if_neg h11, hsg]; rfl
        rw [eT]
        clear H72 hxl
        generalize gS z (vals (bs id) (lw id) (dm id) n) nx 0 = T at *
        have HR5 : Hid (∀ (y : World) (O : Nat), y.rowIs O 3 (dm id) (vf T.1) → Rd y (.slice (some ⟨O, 0, none⟩) (dm id) (dm id)) T.1) := Lib.hid fun y O h => rd_row h hgl (by unfold maxLen; omega) (fun j _ => rfl)
        have HD4 : dm id ≤ 4 := hd4
        obtain ⟨dd, hdd⟩ : ∃ dd, dm id = dd := ⟨_, rfl⟩
        rw [hdd] at H20 H71 HR5 HD4
        have h11b : ((id : Int) == 11) = false := by simp [h11]
        generalize hii : (id : Int) = I at *
        clear hs r1 r2 hv hz hl hk her e h12 hrd hn i1 i2 i11 hd4 hvl hvb hf hlo hbb hgl hsg eT hnx HR0 hdd hii h11
        by_cases hE : T.2.2 = 0
        · rw [if_neg (by rw [hE]; decide)]
          obtain ⟨L, N, E⟩ := T
          simp only at hE H71 HR5 ⊢
          subst hE
          go_enter Tryd.func32, Tryd.ntmps32
          go_upto_region 14 with first
            | (go_at_call 17; ((with_reducible refine (H17.out _ HB.out).mono ?_); rintro e w1 ⟨rfl, hb⟩; have B1 := Lib.hid (bT HB.out hb); have X1 := Lib.hid hb; clear p0 p1 p2 p3; obtain ⟨p0, p1, p2, p3⟩ := HX.out w1 X1.out; clear hb))
            | (go_at_call 20; ((with_reducible refine (H20.out _ B1.out).mono ?_); rintro e w2 ⟨O, rfl, hO, hr, hb⟩; have B2 := Lib.hid (bT B1.out hb); have X2 := Lib.hid (bT X1.out hb); clear p0 p1 p2 p3; obtain ⟨p0, p1, p2, p3⟩ := HX.out w2 X2.out; have hO2 := alloc_lt X1.out hO; have ZZ := Lib.hid (new_reader (vb := .slice a0 m0 c0) (A := nx) hr hO2 B2.out X2.out); have WO := Lib.hid (show w.heap.size ≤ O from Nat.le_of_lt hO2); clear p0 p1 p2 p3; obtain ⟨k0, r0, r1, r2⟩ := ZZ.out.2.2.2.2 _ (Ex2.refl _ _ _) ZZ.out.2.1; clear hb hr hO hO2))
            | (go_at_call 70; ((with_reducible refine (H70.out _).mono ?_); rintro e w8 ⟨rfl, rfl⟩))
            | (go_at_call 71; go_loud ((with_reducible refine (H71.out _ _ _ ZZ.out.2.2.1 ZZ.out.1.2 WO.out ZZ.out.1.1 ZZ.out.2.1 ZZ.out.2.2.2.1).mono ?_); rintro e w4 ⟨⟨v4, rfl⟩, hs4, hr4, hx4⟩; have S4 := Lib.hid hs4; have R4 := Lib.hid hr4; have X4 := Lib.hid hx4; have B4 := Lib.hid (ZZ.out.2.2.1.trans (hx4.bel ZZ.out.1.2 WO.out ZZ.out.2.2.1.size)); clear k0 r0 r1 r2; obtain ⟨k0, r0, r1, r2⟩ := ZZ.out.2.2.2.2 _ hx4 hs4; clear hs4 hr4 hx4))
          have hdw := Lib.hid (Go.Proofs.YteklahfgplbmcaaDoor.Fx.drewN_belowL w4)
          go_quiet (fail)
          go_wp2
          go_ret3
          exact ⟨_, rfl, Rd.below (HR5.out _ _ R4.out) (hdw.out _), bT B4.out (hdw.out _)⟩
        · rw [if_pos hE]
          obtain ⟨L, N, E⟩ := T
          simp only at hE H71 HR5 ⊢
          have hEb : (E == 0) = false := by simp [hE]
          have hEn : (E != 0) = true := by simp [hE]
          go_enter Tryd.func32, Tryd.ntmps32
          go_upto_region 13 with first
            | (go_at_call 17; ((with_reducible refine (H17.out _ HB.out).mono ?_); rintro e w1 ⟨rfl, hb⟩; have B1 := Lib.hid (bT HB.out hb); have X1 := Lib.hid hb; clear p0 p1 p2 p3; obtain ⟨p0, p1, p2, p3⟩ := HX.out w1 X1.out; clear hb))
            | (go_at_call 20; ((with_reducible refine (H20.out _ B1.out).mono ?_); rintro e w2 ⟨O, rfl, hO, hr, hb⟩; have B2 := Lib.hid (bT B1.out hb); have X2 := Lib.hid (bT X1.out hb); clear p0 p1 p2 p3; obtain ⟨p0, p1, p2, p3⟩ := HX.out w2 X2.out; have hO2 := alloc_lt X1.out hO; have ZZ := Lib.hid (new_reader (vb := .slice a0 m0 c0) (A := nx) hr hO2 B2.out X2.out); have WO := Lib.hid (show w.heap.size ≤ O from Nat.le_of_lt hO2); clear p0 p1 p2 p3; obtain ⟨k0, r0, r1, r2⟩ := ZZ.out.2.2.2.2 _ (Ex2.refl _ _ _) ZZ.out.2.1; clear hb hr hO hO2))
            | (go_at_call 70; ((with_reducible refine (H70.out _).mono ?_); rintro e w8 ⟨rfl, rfl⟩))
            | (go_at_call 71; go_loud ((with_reducible refine (H71.out _ _ _ ZZ.out.2.2.1 ZZ.out.1.2 WO.out ZZ.out.1.1 ZZ.out.2.1 ZZ.out.2.2.2.1).mono ?_); rintro e w4 ⟨⟨v4, rfl⟩, hs4, hr4, hx4⟩; have S4 := Lib.hid hs4; have R4 := Lib.hid hr4; have X4 := Lib.hid hx4; have B4 := Lib.hid (ZZ.out.2.2.1.trans (hx4.bel ZZ.out.1.2 WO.out ZZ.out.2.2.1.size)); clear k0 r0 r1 r2; obtain ⟨k0, r0, r1, r2⟩ := ZZ.out.2.2.2.2 _ hx4 hs4; clear hs4 hr4 hx4))
          have hdw := Lib.hid (Go.Proofs.YteklahfgplbmcaaDoor.Fx.drewN_belowL w4)
          go_quiet (fail)
          go_wp2
          go_ret3
          exact ⟨_, rfl, nil_rd _ _ _, bT B4.out (hdw.out _)⟩
    · rw [hsg] at H70
      have h11 : ¬ (id : Int) = 11 := by
        intro h
        have : id = 11 := by omega
        subst this
        exact absurd hsg (by decide)
      have h11b : ((id : Int) == 11) = false := by simp [h11]
      have eT : gT z id (vals (bs id) (lw id) (dm id) n) nx = (vals (bs id) (lw id) (dm id) n, nx, 0) := by unfold gT; rw [if_neg h11, hsg]; rfl
      rw [eT, if_neg (by simp)]
      have HD4 : dm id ≤ 4 := hd4
      obtain ⟨dd, hdd⟩ : ∃ dd, dm id = dd := ⟨_, rfl⟩
      rw [hdd] at H20 HR0 HD4
      rw [hdd]
      generalize hii : (id : Int) = I at *
      clear hs r1 r2 hv hz hl hk her e h12 hrd hn i1 i2 i11 hd4 hvl hvb hf hsg eT hnx hdd hii h11
      go_enter Tryd.func32, Tryd.ntmps32
      go_upto_region 14 with first
        | (go_at_call 17; ((with_reducible refine (H17.out _ HB.out).mono ?_); rintro e w1 ⟨rfl, hb⟩; have B1 := Lib.hid (bT HB.out hb); have X1 := Lib.hid hb; clear p0 p1 p2 p3; obtain ⟨p0, p1, p2, p3⟩ := HX.out w1 X1.out; clear hb))
        | (go_at_call 20; ((with_reducible refine (H20.out _ B1.out).mono ?_); rintro e w2 ⟨O, rfl, hO, hr, hb⟩; have B2 := Lib.hid (bT B1.out hb); have X2 := Lib.hid (bT X1.out hb); clear p0 p1 p2 p3; obtain ⟨p0, p1, p2, p3⟩ := HX.out w2 X2.out; have hO2 := alloc_lt X1.out hO; have ZZ := Lib.hid (new_reader (vb := .slice a0 m0 c0) (A := nx) hr hO2 B2.out X2.out); have WO := Lib.hid (show w.heap.size ≤ O from Nat.le_of_lt hO2); clear p0 p1 p2 p3; obtain ⟨k0, r0, r1, r2⟩ := ZZ.out.2.2.2.2 _ (Ex2.refl _ _ _) ZZ.out.2.1; clear hb hr hO hO2))
        | (go_at_call 70; ((with_reducible refine (H70.out _).mono ?_); rintro e w8 ⟨rfl, rfl⟩))
      have hdw := Lib.hid (Go.Proofs.YteklahfgplbmcaaDoor.Fx.drewN_belowL (w2.alloc (.cells #[.slice a0 m0 c0, .int .i64 nx, .int .i64 0] 104)))
      go_quiet (fail)
      go_wp2
      go_ret3
      exact ⟨_, rfl, Rd.below (HR0.out _ _ ZZ.out.2.2.2.1) (hdw.out _), bT ZZ.out.2.2.1 (hdw.out _)⟩
  · have e : gV i p A B z t = ([], 0, (rdF i p A B z t).2.2) := by unfold gV; rw [if_neg h12, if_pos her]
    rw [e]
    generalize rdF i p A B z t = Q at *
    obtain ⟨x, nx, er⟩ := Q
    simp only [T3] at H17
    simp only at her ⊢
    have hee : (er == 0) = false := by simp [her]
    clear hs r1 r2 hv hz hl e
    go_enter Tryd.func32, Tryd.ntmps32
    go_wp2_with (go_at_call 17; ((with_reducible refine (H17.out _ HB.out).mono ?_); rintro e w1 ⟨rfl, hb⟩; have B1 := Lib.hid (bT HB.out hb); have X1 := Lib.hid hb; clear p0 p1 p2 p3; obtain ⟨p0, p1, p2, p3⟩ := HX.out w1 X1.out; clear hb))
    go_ret3
    exact ⟨_, rfl, nil_rd _ _ _, B1.out⟩
end Go.Proofs.YteklahfgplbmcaaDoor.Hf

/- What is got, plain. -/
namespace Go.Proofs.YteklahfgplbmcaaDoor.Hf
open Go Go.ChangeShapes Go.WideShapes Go.ChangeAt Go.RowKit Go.Proofs.YteklahfgplbmcaaDoor.Bk Go.Proofs.YteklahfgplbmcaaDoor.Bi Go.Proofs.YteklahfgplbmcaaDoor.Cr Go.Proofs.YteklahfgplbmcaaDoor.Fx

open Go.Proofs.YteklahfgplbmcaaDoor.BkRf Go.Proofs.YteklahfgplbmcaaDoor.BkPx Go.Proofs.YteklahfgplbmcaaDoor.BkEn
theorem gO_good {z : List Int} : ∀ (f k a : Nat) (E : Int), f + k = 9 → (gO z f k a E).2.2 = 0 → E = 0 ∧ ∃ (j : Nat) (m : Int), k + j ≤ 8 ∧ 0 ≤ m ∧ m < 2 ^ (k + j + 4) ∧ gO z f k a E = (2 ^ (k + j + 4) + m, ((a + (j + 1 + (k + j + 4)) : Nat) : Int), 0) ∧ a + (j + 1 + (k + j + 4)) ≤ z.length ∧ z.drop a = List.replicate j 1 ++ 0 :: (bi m (k + j + 4) ++ z.drop (a + (j + 1 + (k + j + 4))))
  | 0, k, a, E, _, h => by simp [gO] at h
  | f + 1, k, a, E, hk, h => by
    rw [gO] at h ⊢
    by_cases h1 : (rd1 z a E 1).1 = 1
    · rw [if_pos h1] at h ⊢
      by_cases he : (rd1 z a E 1).2.2 = 0
      · obtain ⟨e0, n, hr, hl, hd, n0, n1⟩ := rd1_good he
        rw [hr] at h h1 ⊢
        simp only at h1
        subst h1
        simp only at h ⊢
        obtain ⟨_, j, m, g1, g2, g3, g4, g5, g6⟩ := gO_good f (k + 1) (a + 1) 0 (by omega) h
        have e : k + 1 + j + 4 = k + (j + 1) + 4 := by omega
        have e2 : a + 1 + (j + 1 + (k + (j + 1) + 4)) = a + (j + 1 + 1 + (k + (j + 1) + 4)) := by omega
        rw [e] at g3 g4 g5 g6
        rw [e2] at g4 g5 g6
        refine ⟨e0, j + 1, m, by omega, g2, g3, g4, g5, ?_⟩
        rw [hd, g6, List.replicate_succ]
        simp [bi]
      · have hz : (rd1 z a E 1).1 = 0 := by
          unfold rd1 at he ⊢
          by_cases c : E = 0
          · rw [if_pos c] at he ⊢; rw [getF_bad he]
          · rw [if_neg c]
        rw [hz] at h1; exact absurd h1 (by decide)
    · rw [if_neg h1] at h ⊢
      by_cases he : (rd1 z a E 1).2.2 = 0
      · obtain ⟨e0, n, hr, hl, hd, n0, n1⟩ := rd1_good he
        rw [hr] at h h1 ⊢
        simp only at h h1 ⊢
        have hn : n = 0 := by omega
        subst hn
        obtain ⟨_, m, hr2, hl2, hd2, m0, m1⟩ := rd1_good h
        rw [hr2]
        refine ⟨e0, 0, m, by omega, m0, by simpa using m1, ?_, by omega, ?_⟩
        · simp only [Nat.add_zero]
          rw [show a + (0 + 1 + (k + 4)) = a + 1 + (k + 4) by omega]
        · rw [hd, hd2]
          simp only [Nat.add_zero, List.replicate_zero, List.nil_append]
          rw [show a + (0 + 1 + (k + 4)) = a + 1 + (k + 4) by omega]
          simp [bi]
      · rw [rd1_err he] at h; exact absurd h he
theorem gS_good (z : List Int) : ∀ (vs : List Int) (a : Nat), (∀ v ∈ vs, 0 ≤ v) → a ≤ z.length → (gS z vs a 0).2.2 = 0 →
    (gS z vs a 0).1.map (fun v => ((v.natAbs : Nat) : Int)) = vs ∧ (gS z vs a 0).2.1 = ((a + (sgn (gS z vs a 0).1).length : Nat) : Int) ∧ a + (sgn (gS z vs a 0).1).length ≤ z.length ∧ z.drop a = sgn (gS z vs a 0).1 ++ z.drop (a + (sgn (gS z vs a 0).1).length)
  | [], a, _, hl, _ => by simp [gS, sgn, hl]
  | v :: l, a, hb, hl, h => by
    have hbl : ∀ u ∈ l, 0 ≤ u := fun u hu => hb u (by simp [hu])
    have hv := hb v (by simp)
    rw [gS] at h ⊢
    by_cases h0 : v = 0
    · subst h0
      rw [if_pos rfl] at h ⊢
      simp only at h ⊢
      obtain ⟨r1, r2, r3, r4⟩ := gS_good z l a hbl hl h
      have e : sgn (0 :: (gS z l a 0).1) = sgn (gS z l a 0).1 := by simp [sgn, sg1]
      rw [e]
      exact ⟨by simp [r1], r2, r3, r4⟩
    · rw [if_neg h0] at h ⊢
      simp only at h ⊢
      by_cases he : (rd1 z a 0 1).2.2 = 0
      · obtain ⟨_, n, hr, hl1, hd, n0, n1⟩ := rd1_good he
        rw [hr] at h ⊢
        simp only at h ⊢
        obtain ⟨r1, r2, r3, r4⟩ := gS_good z l (a + 1) hbl hl1 h
        have hnn : n = 0 ∨ n = 1 := by omega
        obtain ⟨x, hx, hxs, hxa⟩ : ∃ x : Int, (if n = 1 then -v else v) = x ∧ sg1 x = [n] ∧ ((x.natAbs : Nat) : Int) = v := by
          rcases hnn with rfl | rfl
          · exact ⟨v, by rw [if_neg (by decide)], by unfold sg1; rw [if_neg (by omega), if_pos (by omega)], by omega⟩
          · exact ⟨-v, by rw [if_pos rfl], by unfold sg1; rw [if_pos (by omega)], by omega⟩
        rw [hx]
        have e : sgn (x :: (gS z l ((a + 1 : Nat) : Int) 0).1) = n :: sgn (gS z l ((a + 1 : Nat) : Int) 0).1 := by
          rw [show sgn (x :: (gS z l ((a + 1 : Nat) : Int) 0).1) = sg1 x ++ sgn (gS z l ((a + 1 : Nat) : Int) 0).1 by simp [sgn], hxs]; rfl
        rw [e, List.length_cons, show a + ((sgn (gS z l ((a + 1 : Nat) : Int) 0).1).length + 1) = a + 1 + (sgn (gS z l ((a + 1 : Nat) : Int) 0).1).length by omega]
        refine ⟨by rw [List.map_cons, hxa, r1], r2, r3, ?_⟩
        rw [hd, bi1 n0 (by omega), r4]
        simp
      · rw [gS_err z l _ _ he] at h; exact absurd h he
theorem sg1_max {v u : Int} (h : v < 0 ↔ u < 0) (h2 : 0 < v ↔ 0 < u) : sg1 v = sg1 u := by
  unfold sg1
  by_cases a : v < 0
  · rw [if_pos a, if_pos (h.1 a)]
  · rw [if_neg a, if_neg (fun c => a (h.2 c))]
    by_cases b : 0 < v
    · rw [if_pos b, if_pos (h2.1 b)]
    · rw [if_neg b, if_neg (fun c => b (h2.2 c))]
theorem es1_of {v : Int} {j : Nat} {m : Int} (hj : j ≤ 8) (m0 : 0 ≤ m) (m1 : m < 2 ^ (j + 4)) (hv : (v.natAbs : Int) = 2 ^ (j + 4) + m) : 16 ≤ v.natAbs ∧ v.natAbs ≤ 8191 ∧ es1 v = List.replicate j 1 ++ 0 :: bi m (j + 4) := by
  obtain ⟨M, rfl⟩ : ∃ M : Nat, m = (M : Int) := ⟨m.toNat, by omega⟩
  have hM : M < 2 ^ (j + 4) := by exact_mod_cast m1
  have hN : v.natAbs = 2 ^ (j + 4) + M := by exact_mod_cast hv
  have h16 : 2 ^ 4 ≤ 2 ^ (j + 4) := Nat.pow_le_pow_right (by decide) (by omega)
  have h12 : 2 ^ (j + 4) ≤ 2 ^ 12 := Nat.pow_le_pow_right (by decide) (by omega)
  have hdg : dg v.natAbs = j + 5 := dg_uniq (by omega) (by omega) (by rw [show j + 5 - 1 = j + 4 by omega]; omega) (by rw [show j + 5 = (j + 4) + 1 by omega, Nat.pow_succ]; omega)
  refine ⟨by omega, by omega, ?_⟩
  unfold es1
  rw [if_neg (by omega), hdg, show j + 5 - 1 = j + 4 by omega, show j + 4 - 4 = j by omega, show v.natAbs - 2 ^ (j + 4) = M by omega]
theorem gX_good (z : List Int) : ∀ (us : List Int) (a : Nat), (∀ u ∈ us, -16 ≤ u ∧ u ≤ 16) → a ≤ z.length → (gX z us a 0).2.2 = 0 →
    sgn (gX z us a 0).1 = sgn us ∧ (gX z us a 0).1.map (fun v => ((min v.natAbs 16 : Nat) : Int)) = us.map (fun v => ((v.natAbs : Nat) : Int)) ∧ (∀ v ∈ (gX z us a 0).1, -8191 ≤ v ∧ v ≤ 8191) ∧ (gX z us a 0).2.1 = ((a + (esc (gX z us a 0).1).length : Nat) : Int) ∧ a + (esc (gX z us a 0).1).length ≤ z.length ∧ z.drop a = esc (gX z us a 0).1 ++ z.drop (a + (esc (gX z us a 0).1).length)
  | [], a, _, hl, _ => by simp [gX, esc, sgn, hl]
  | v :: l, a, hb, hl, h => by
    have hbl : ∀ u ∈ l, -16 ≤ u ∧ u ≤ 16 := fun u hu => hb u (by simp [hu])
    have hv := hb v (by simp)
    have hsg : ∀ (x : Int) (k : List Int), sgn (x :: k) = sg1 x ++ sgn k := fun x k => by simp [sgn]
    have hes : ∀ (x : Int) (k : List Int), esc (x :: k) = es1 x ++ esc k := fun x k => by simp [esc]
    have big : ∀ (s : Int), (s = 1 ∨ s = -1) → v = s * 16 → (gX z l (gO z 9 0 a 0).2.1 (gO z 9 0 a 0).2.2).2.2 = 0 →
        sgn (s * (gO z 9 0 a 0).1 :: (gX z l (gO z 9 0 a 0).2.1 (gO z 9 0 a 0).2.2).1) = sgn (v :: l) ∧ (s * (gO z 9 0 a 0).1 :: (gX z l (gO z 9 0 a 0).2.1 (gO z 9 0 a 0).2.2).1).map (fun v => ((min v.natAbs 16 : Nat) : Int)) = (v :: l).map (fun v => ((v.natAbs : Nat) : Int)) ∧ (∀ x ∈ s * (gO z 9 0 a 0).1 :: (gX z l (gO z 9 0 a 0).2.1 (gO z 9 0 a 0).2.2).1, -8191 ≤ x ∧ x ≤ 8191) ∧
          (gX z l (gO z 9 0 a 0).2.1 (gO z 9 0 a 0).2.2).2.1 = ((a + (esc (s * (gO z 9 0 a 0).1 :: (gX z l (gO z 9 0 a 0).2.1 (gO z 9 0 a 0).2.2).1)).length : Nat) : Int) ∧ a + (esc (s * (gO z 9 0 a 0).1 :: (gX z l (gO z 9 0 a 0).2.1 (gO z 9 0 a 0).2.2).1)).length ≤ z.length ∧ z.drop a = esc (s * (gO z 9 0 a 0).1 :: (gX z l (gO z 9 0 a 0).2.1 (gO z 9 0 a 0).2.2).1) ++ z.drop (a + (esc (s * (gO z 9 0 a 0).1 :: (gX z l (gO z 9 0 a 0).2.1 (gO z 9 0 a 0).2.2).1)).length) := by
      intro s hs hvs hh
      by_cases he : (gO z 9 0 a 0).2.2 = 0
      · obtain ⟨_, j, m, g1, g2, g3, g4, g5, g6⟩ := gO_good 9 0 a 0 (by omega) he
        rw [Nat.zero_add] at g1 g3 g4 g5 g6
        rw [g4] at hh ⊢
        simp only at hh ⊢
        obtain ⟨r1, r2, r3, r4, r5, r6⟩ := gX_good z l (a + (j + 1 + (j + 4))) hbl g5 hh
        have hp : (0 : Int) < 2 ^ (j + 4) := Int.pow_pos (by decide)
        obtain ⟨y, hy⟩ : ∃ y : Int, s * (2 ^ (j + 4) + m) = y := ⟨_, rfl⟩
        have hya : (y.natAbs : Int) = 2 ^ (j + 4) + m := by rcases hs with rfl | rfl <;> omega
        obtain ⟨q1, q2, q3⟩ := es1_of g1 g2 g3 hya
        have hysg : sg1 y = sg1 v := sg1_max (by rcases hs with rfl | rfl <;> omega) (by rcases hs with rfl | rfl <;> omega)
        rw [hy]
        have el : (es1 y).length = j + 1 + (j + 4) := by rw [q3]; simp [bi_len]; omega
        rw [hsg, hsg, hysg, r1, hes, List.length_append, el, show a + (j + 1 + (j + 4) + (esc (gX z l ((a + (j + 1 + (j + 4)) : Nat) : Int) 0).1).length) = a + (j + 1 + (j + 4)) + (esc (gX z l ((a + (j + 1 + (j + 4)) : Nat) : Int) 0).1).length by omega]
        refine ⟨rfl, ?_, ?_, r4, r5, ?_⟩
        · rw [List.map_cons, List.map_cons, r2]
          congr 1
          rcases hs with rfl | rfl <;> omega
        · intro x hx
          rcases List.mem_cons.1 hx with rfl | hx
          · omega
          · exact r3 x hx
        · rw [g6, q3]
          simp only [List.append_assoc, List.cons_append]
          rw [← r6]
      · rw [gX_err z l _ _ he] at hh; exact absurd hh he
    rw [gX] at h ⊢
    by_cases h16 : v = 16
    · rw [if_pos h16] at h ⊢
      have := big 1 (.inl rfl) (by omega) h
      rw [Int.one_mul] at this
      exact this
    · rw [if_neg h16] at h ⊢
      by_cases h17 : v = -16
      · rw [if_pos h17] at h ⊢
        have := big (-1) (.inr rfl) (by omega) h
        rw [show (-1 : Int) * (gO z 9 0 a 0).1 = -(gO z 9 0 a 0).1 by omega] at this
        exact this
      · rw [if_neg h17] at h ⊢
        simp only at h ⊢
        obtain ⟨r1, r2, r3, r4, r5, r6⟩ := gX_good z l a hbl hl h
        have e : es1 v = [] := by unfold es1; rw [if_pos (by omega)]
        rw [hsg, hsg, r1, hes, e, List.nil_append]
        refine ⟨rfl, ?_, ?_, r4, r5, r6⟩
        · rw [List.map_cons, List.map_cons, r2]
          congr 1; omega
        · intro x hx
          rcases List.mem_cons.1 hx with rfl | hx
          · omega
          · exact r3 x hx
end Go.Proofs.YteklahfgplbmcaaDoor.Hf

/- What is put is got, and what is got is put so. -/
namespace Go.Proofs.YteklahfgplbmcaaDoor.Hf
open Go Go.ChangeShapes Go.WideShapes Go.ChangeAt Go.RowKit Go.Proofs.YteklahfgplbmcaaDoor.Bk Go.Proofs.YteklahfgplbmcaaDoor.Bi Go.Proofs.YteklahfgplbmcaaDoor.Cr Go.Proofs.YteklahfgplbmcaaDoor.Fx

open Go.Proofs.YteklahfgplbmcaaDoor.BkRf Go.Proofs.YteklahfgplbmcaaDoor.BkPx Go.Proofs.YteklahfgplbmcaaDoor.BkEn
theorem gV_err {i p : Int} {A B z : List Int} {t : Int} (h : (gV i p A B z t).2.2 ≠ 0) : gV i p A B z t = ([], 0, (gV i p A B z t).2.2) := by
  unfold gV at h ⊢
  by_cases h1 : i = 12
  · rw [if_pos h1]
  · rw [if_neg h1] at h ⊢
    by_cases h2 : (rdF i p A B z t).2.2 = 0
    · rw [if_neg (by rw [h2]; decide)] at h ⊢
      by_cases h3 : (gT z i (vals (bs i.toNat) (lw i.toNat) (dm i.toNat) (rdF i p A B z t).1.toNat) (rdF i p A B z t).2.1).2.2 = 0
      · rw [if_neg (by rw [h3]; decide)] at h; exact absurd h3 h
      · rw [if_pos h3]
    · rw [if_pos h2]
theorem gV_at {id : Nat} (h1 : 1 ≤ id) (h2 : id ≤ 11) {z : List Int} {t : Int} {n : Nat} {m : Int} (h : rdF id (pl id) (zi (ord id)) (rkL id) z t = ((n : Int), m, 0)) :
    gV id (pl id) (zi (ord id)) (rkL id) z t = if (gT z id (vals (bs id) (lw id) (dm id) n) m).2.2 ≠ 0 then ([], 0, (gT z id (vals (bs id) (lw id) (dm id) n) m).2.2) else gT z id (vals (bs id) (lw id) (dm id) n) m := by
  unfold gV
  rw [if_neg (by omega), h, if_neg (by simp)]
  simp only [Int.toNat_natCast]
theorem vZ_of {id : Nat} (h1 : 1 ≤ id) (h2 : id ≤ 11) {zs : List Int} (hx : eX id zs = 0) : ∃ n : Nat, n < Nn id ∧ vals (bs id) (lw id) (dm id) n = tld id zs ∧ vX id (pl id) (zi (ord id)) (rkL id) zs = 0 ∧ vZ id (pl id) (zi (ord id)) (rkL id) zs = cd (pl id) (rk id n) ++ ((if sgd id then [] else sgn zs) ++ (if (id : Int) = 11 then esc zs else [])) ∧ zs.length = dm id ∧ ∀ v ∈ zs, -lim id ≤ v ∧ v ≤ lim id := by
  have hk := isbk_of (id := id) h1 (by omega)
  obtain ⟨e1, e2, _, _⟩ := vX_ok hk hx
  obtain ⟨id', n, e, _, _, hzl, hzb, en, hn, hvs, _⟩ := eE_ok hx
  obtain rfl : id' = id := by omega
  refine ⟨n, hn, hvs, e1, ?_, hzl, hzb⟩
  rw [e2]
  unfold vL
  rw [en, Int.toNat_natCast, Int.toNat_natCast, rkL_get hn]
  show cd _ ((rk id' n : Nat) : Int).toNat ++ _ = _
  rw [Int.toNat_natCast]
theorem put_get {id : Nat} (h1 : 1 ≤ id) (h2 : id ≤ 11) {zs : List Int} (hx : eX id zs = 0) (rest : List Int) : gV id (pl id) (zi (ord id)) (rkL id) (vZ id (pl id) (zi (ord id)) (rkL id) zs ++ rest) 0 = (zs, ((vZ id (pl id) (zi (ord id)) (rkL id) zs).length : Int), 0) := by
  obtain ⟨n, hn, hvs, _, hZ, hzl, hzb⟩ := vZ_of h1 h2 hx
  obtain ⟨l0, l1, l2, l3⟩ := lims h1 h2
  have hord := ord_is h1 (by omega : id ≤ 12)
  have hr := hord.rank hn
  have h19 := cd_19 h1 (by omega : id ≤ 12) hr.1
  have hg : (ord id).getD (rk id n) 0 = n := by
    have := hr.2
    change (ord id)[rk id n]? = some n at this
    rw [List.getD_eq_getElem?_getD, this]; rfl
  have hk := isbk_of (id := id) h1 (by omega)
  have hrd : ∀ r, rdF id (pl id) (zi (ord id)) (rkL id) (cd (pl id) (rk id n) ++ r) 0 = ((n : Int), ((cd (pl id) (rk id n)).length : Int), 0) := fun r => by
    have q := read_code (ord id) (pl id) (rk id n) r (by rw [hord.length]; exact hr.1) h19.2
    rw [hg] at q
    unfold rdF
    rw [if_pos hk]
    simp only [Int.toNat_natCast]
    exact q
  rw [hZ, List.append_assoc]
  obtain ⟨c, hc⟩ : ∃ c, cd (pl id) (rk id n) = c := ⟨_, rfl⟩
  rw [gV_at h1 h2 (hrd _), hvs, hc]
  have hdr : ∀ r : List Int, (c ++ r).drop c.length = r := fun r => List.drop_left' rfl
  cases hsg : sgd (id : Int)
  · simp only [Bool.false_eq_true, if_false]
    have ht : tld id zs = zs.map (sz1 id) := by unfold tld; rw [hsg]; rfl
    rw [ht]
    by_cases h11 : (id : Int) = 11
    · obtain rfl : id = 11 := by omega
      rw [if_pos h11]
      obtain ⟨q1, q2⟩ := gS_run (c ++ (sgn zs ++ esc zs ++ rest)) (11 : Nat) zs c.length (esc zs ++ rest) (by rw [hdr]; simp)
      obtain ⟨q3, q4⟩ := gX_run (c ++ (sgn zs ++ esc zs ++ rest)) zs (c.length + (sgn zs).length) rest (fun v hv => by have := hzb v hv; have e : lim 11 = 8191 := rfl; omega) q2
      have eT : gT (c ++ (sgn zs ++ esc zs ++ rest)) (11 : Nat) (zs.map (sz1 (11 : Nat))) (c.length : Int) = (zs, ((c.length + (sgn zs).length + (esc zs).length : Nat) : Int), 0) := by
        unfold gT
        rw [if_pos (by decide), hsg]
        simp only [Bool.false_eq_true, if_false]
        rw [q1]
        exact q3
      rw [eT, if_neg (by simp)]
      simp only [List.length_append]
      congr 2
      omega
    · rw [if_neg h11]
      simp only [List.append_nil]
      obtain ⟨q1, _⟩ := gS_run (c ++ (sgn zs ++ rest)) id zs c.length rest (by rw [hdr])
      have hm : zs.map (fun v => if v < 0 then -sz1 id v else sz1 id v) = zs := by
        conv => rhs; rw [← List.map_id zs]
        refine List.map_congr_left fun v hv => ?_
        show _ = v
        unfold sz1
        rw [if_neg h11]
        split <;> omega
      rw [hm] at q1
      have eT : gT (c ++ (sgn zs ++ rest)) id (zs.map (sz1 id)) (c.length : Int) = (zs, ((c.length + (sgn zs).length : Nat) : Int), 0) := by
        unfold gT
        rw [if_neg h11, hsg]
        simp only [Bool.false_eq_true, if_false]
        exact q1
      rw [eT, if_neg (by simp)]
      simp only [List.length_append]
  · have h11 : ¬ (id : Int) = 11 := by
      intro h
      obtain rfl : id = 11 := by omega
      exact absurd hsg (by decide)
    have ht : tld id zs = zs := by unfold tld; rw [hsg]; rfl
    rw [ht]
    have eT : ∀ r, gT (c ++ r) id zs (c.length : Int) = (zs, (c.length : Int), 0) := fun r => by
      unfold gT
      rw [if_neg h11, hsg]
      simp only [if_true]
    rw [eT, if_neg (by simp), if_neg h11]
    simp
theorem get_put {id : Nat} (h1 : 1 ≤ id) (h2 : id ≤ 11) {z : List Int} {t : Int} (h : (gV id (pl id) (zi (ord id)) (rkL id) z t).2.2 = 0) :
    ∃ (a s : Nat), t = a ∧ a + s ≤ z.length ∧ 1 ≤ s ∧ (gV id (pl id) (zi (ord id)) (rkL id) z t).2.1 = ((a + s : Nat) : Int) ∧ eX id (gV id (pl id) (zi (ord id)) (rkL id) z t).1 = 0 ∧ vZ id (pl id) (zi (ord id)) (rkL id) (gV id (pl id) (zi (ord id)) (rkL id) z t).1 = (z.drop a).take s := by
  have h0 : (rdF id (pl id) (zi (ord id)) (rkL id) z t).2.2 = 0 := by
    unfold gV at h
    rw [if_neg (by omega)] at h
    by_cases c : (rdF id (pl id) (zi (ord id)) (rkL id) z t).2.2 = 0
    · exact c
    · rw [if_pos c] at h; exact h
  obtain ⟨_, id', n, a, s, e, _, _, _, hn, rfl, hal, hcd, hrd⟩ := rdF_ok h0
  obtain rfl : id' = id := by omega
  rw [gV_at h1 h2 hrd] at h ⊢
  have hT0 : (gT z id' (vals (bs id') (lw id') (dm id') n) ((a + s : Nat) : Int)).2.2 = 0 := by
    by_cases c : (gT z id' (vals (bs id') (lw id') (dm id') n) ((a + s : Nat) : Int)).2.2 = 0
    · exact c
    · rw [if_pos c] at h; exact h
  rw [if_neg (by rw [hT0]; decide)]
  obtain ⟨l0, l1, l2, l3⟩ := lims h1 h2
  have hf := facts h1 (by omega : id' ≤ 12)
  have hvl := vals_len (bs id') (lw id') (dm id') n
  have hvb := vals_bd (bs id') (lw id') hf.2.1 (dm id') n
  have hen := ent_of h1 (by omega : id' ≤ 12) hn
  have hs : s = (cd (pl id') (rk id' n)).length := by have := congrArg List.length hcd; rw [drop_take_len hal] at this; exact this
  have hs1 : 1 ≤ s := by have := cd_pos (pl id') (rk id' n); omega
  -- whatever values are told so have the entry's bits
  have key : ∀ (us : List Int) (k : Nat), tld id' us = vals (bs id') (lw id') (dm id') n → (∀ v ∈ us, -lim id' ≤ v ∧ v ≤ lim id') → a + s + k ≤ z.length →
      (z.drop (a + s)).take k = ((if sgd id' then [] else sgn us) ++ (if (id' : Int) = 11 then esc us else [])) →
      ∃ (b r : Nat), ((a : Nat) : Int) = b ∧ b + r ≤ z.length ∧ 1 ≤ r ∧ ((a + s + k : Nat) : Int) = ((b + r : Nat) : Int) ∧ eX id' us = 0 ∧ vZ id' (pl id') (zi (ord id')) (rkL id') us = (z.drop b).take r := by
    intro us k ht hb hk hbits
    have hul : us.length = dm id' := by rw [← tld_len id' us, ht, hvl]
    have hx := eX_is h1 h2 hul hb
    obtain ⟨n', hn', hvs', _, hZ, _, _⟩ := vZ_of h1 h2 hx
    have hnn : n' = n := by
      have := ent_of h1 (by omega : id' ≤ 12) hn'
      rw [hvs', ht, hen.1] at this
      have := this.1
      omega
    subst hnn
    refine ⟨a, s + k, rfl, by omega, by omega, by congr 1; omega, hx, ?_⟩
    rw [hZ, ← hcd, ← hbits, List.take_add, List.drop_drop]
  have dt : ∀ (b : Nat) (l : List Int), z.drop b = l ++ z.drop (b + l.length) → (z.drop b).take l.length = l := fun b l hh => by rw [hh]; exact List.take_left' rfl
  cases hsg : sgd (id' : Int)
  · have hlo := (l3 hsg).1
    have hv0 : ∀ v ∈ vals (bs id') (lw id') (dm id') n, 0 ≤ v := fun v hv => by have := hvb v hv; omega
    by_cases h11 : (id' : Int) = 11
    · obtain rfl : id' = 11 := by omega
      have eT : gT z (11 : Nat) (vals (bs 11) (lw 11) (dm 11) n) ((a + s : Nat) : Int) = gX z (gS z (vals (bs 11) (lw 11) (dm 11) n) ((a + s : Nat) : Int) 0).1 (gS z (vals (bs 11) (lw 11) (dm 11) n) ((a + s : Nat) : Int) 0).2.1 (gS z (vals (bs 11) (lw 11) (dm 11) n) ((a + s : Nat) : Int) 0).2.2 := by
        unfold gT; rw [if_pos (by decide), hsg]; rfl
      rw [eT] at hT0 ⊢
      have hS0 : (gS z (vals (bs 11) (lw 11) (dm 11) n) ((a + s : Nat) : Int) 0).2.2 = 0 := by
        by_cases c : (gS z (vals (bs 11) (lw 11) (dm 11) n) ((a + s : Nat) : Int) 0).2.2 = 0
        · exact c
        · rw [gX_err z _ _ _ c] at hT0; exact hT0
      obtain ⟨q1, q2, q3, q4⟩ := gS_good z _ (a + s) hv0 hal hS0
      rw [hS0, q2] at hT0 ⊢
      have hu16 : ∀ u ∈ (gS z (vals (bs 11) (lw 11) (dm 11) n) ((a + s : Nat) : Int) 0).1, -16 ≤ u ∧ u ≤ 16 := fun u hu => by
        have hm : ((u.natAbs : Nat) : Int) ∈ vals (bs 11) (lw 11) (dm 11) n := by
          rw [← q1]; exact List.mem_map.2 ⟨u, hu, rfl⟩
        have := hvb _ hm
        have e1 : lw 11 = 0 := rfl
        have e2 : ((bs 11 : Nat) : Int) = 17 := rfl
        omega
      obtain ⟨g1, g2, g3, g4, g5, g6⟩ := gX_good z _ _ hu16 q3 hT0
      generalize gX z (gS z (vals (bs 11) (lw 11) (dm 11) n) ((a + s : Nat) : Int) 0).1 ((a + s + (sgn (gS z (vals (bs 11) (lw 11) (dm 11) n) ((a + s : Nat) : Int) 0).1).length : Nat) : Int) 0 = T at *
      generalize (gS z (vals (bs 11) (lw 11) (dm 11) n) ((a + s : Nat) : Int) 0).1 = U at *
      rw [← g1] at q3 q4 g4 g5 g6
      rw [g4]
      have ht : tld (11 : Nat) T.1 = vals (bs 11) (lw 11) (dm 11) n := by
        unfold tld; rw [hsg]
        simp only [Bool.false_eq_true, if_false]
        rw [← q1, ← g2]
        refine List.map_congr_left fun v _ => ?_
        unfold sz1; rw [if_pos (by decide)]
      have := key T.1 ((sgn T.1).length + (esc T.1).length) ht (fun v hv => by have := g3 v hv; have e : lim 11 = 8191 := rfl; omega) (by omega) (by
        rw [hsg, if_neg (by decide), if_pos (by decide)]
        rw [List.take_add, dt (a + s) _ q4, List.drop_drop, dt _ _ g6])
      rw [show a + s + (sgn T.1).length + (esc T.1).length = a + s + ((sgn T.1).length + (esc T.1).length) by omega]
      exact this
    · have eT : gT z id' (vals (bs id') (lw id') (dm id') n) ((a + s : Nat) : Int) = gS z (vals (bs id') (lw id') (dm id') n) ((a + s : Nat) : Int) 0 := by
        unfold gT; rw [if_neg h11, hsg]; rfl
      rw [eT] at hT0 ⊢
      obtain ⟨q1, q2, q3, q4⟩ := gS_good z _ (a + s) hv0 hal hT0
      rw [q2]
      generalize gS z (vals (bs id') (lw id') (dm id') n) ((a + s : Nat) : Int) 0 = T at *
      have ht : tld id' T.1 = vals (bs id') (lw id') (dm id') n := by
        unfold tld; rw [hsg]
        simp only [Bool.false_eq_true, if_false]
        rw [← q1]
        refine List.map_congr_left fun v _ => ?_
        unfold sz1; rw [if_neg h11]
      refine key T.1 (sgn T.1).length ht (fun v hv => ?_) q3 (by
        rw [hsg, if_neg h11, List.append_nil]
        simp only [Bool.false_eq_true, if_false]
        exact dt _ _ q4)
      have hm : ((v.natAbs : Nat) : Int) ∈ vals (bs id') (lw id') (dm id') n := by
        rw [← q1]; exact List.mem_map.2 ⟨v, hv, rfl⟩
      have := hvb _ hm
      have := (l3 hsg).2.1 (by omega)
      omega
  · have h11 : ¬ (id' : Int) = 11 := by
      intro hh
      obtain rfl : id' = 11 := by omega
      exact absurd hsg (by decide)
    have eT : gT z id' (vals (bs id') (lw id') (dm id') n) ((a + s : Nat) : Int) = (vals (bs id') (lw id') (dm id') n, ((a + s : Nat) : Int), 0) := by
      unfold gT; rw [if_neg h11, hsg]; rfl
    rw [eT]
    have := key (vals (bs id') (lw id') (dm id') n) 0 (by unfold tld; rw [hsg]; rfl) (fun v hv => by have := hvb v hv; have := l2 hsg; omega) (by omega) (by rw [hsg, if_neg h11]; simp)
    rw [Nat.add_zero] at this
    exact this
end Go.Proofs.YteklahfgplbmcaaDoor.Hf

/- One number behind a list. -/
namespace Go.Proofs.YteklahfgplbmcaaDoor.Hf
open Go Go.ChangeShapes Go.WideShapes Go.ChangeAt Go.RowKit Go.Proofs.YteklahfgplbmcaaDoor.Bk Go.Proofs.YteklahfgplbmcaaDoor.Bi Go.Proofs.YteklahfgplbmcaaDoor.Cr Go.Proofs.YteklahfgplbmcaaDoor.Fx

open Go.Proofs.YteklahfgplbmcaaDoor.BkRf Go.Proofs.YteklahfgplbmcaaDoor.BkPx Go.Proofs.YteklahfgplbmcaaDoor.BkEn
theorem info3u : (Tryd.prog.info? 3).map (fun i => (i.zero, i.size, i.bytes)) = some (some (.int .i64 0), 1, 8) := by kernel_rfl
/-- append of one number that has just been made a list of. -/
theorem wpList_push3 (w : World) {ops : Array Oper} {rest : List Oper} {o : Oper} {a : Act} {Q : Exit → Act → World → Prop} (hgd : o.guard = none) (s x : Operand)
    (ho : o.op = .call { callee := .builtin .append, args := #[s, x], argTypes := #[22, 22] }) (base : Nat) (v : Value) (xs : List Int) (z : Int) (hs : a.eval s = v) (hown : Fx.Own base w v xs)
    (hx : a.eval x = .slice (some ⟨w.heap.size, 0, none⟩) 1 1) (hl : xs.length ≤ 100000) (hbase : base ≤ w.heap.size)
    (h : ∀ v' w', Fx.Own base w' v' (xs ++ [z]) → (w.alloc (.cells #[.int .i64 z] 3)).grownBy w' v.ownBlock → wpList Tryd.prog ops Q rest (a.put o.dst v') w') : wpList Tryd.prog ops Q (o :: rest) a (w.alloc (.cells #[.int .i64 z] 3)) := by
  obtain ⟨i0, hi, hz0, hz1, hz2⟩ := info_parts' info3u
  have r := World.rowIs_alloc w #[.int .i64 z] 3 (fun _ => .int .i64 z) (fun i hi => by
    have h1 : i < 1 := hi
    have : i = 0 := by omega
    subst this; rfl)
  refine wpList_append_own _ hgd s x 22 ho base 3 i0 (.int .i64 0) 1 8 Tryd.underlying22 hi hz0 hz1 hz2 rfl (by decide) v xs.length (xs.map (Value.int .i64)) hs (World.ownsRow.alloc hown _) ⟨w.heap.size, 0, none⟩ 1 1 [.int .i64 z] hx rfl (fun j u hu => by
    match j with
    | 0 => simp at hu; subst hu; exact r.cell (i := 0) (Nat.lt_succ_self 0)
    | j + 1 => simp at hu) (by simp [Value.oneCell']) (by unfold maxLen; omega) (by omega) (by simp; omega) fun v' w' h1 h2 _ => h v' w' (Fx.own_push h1) h2
end Go.Proofs.YteklahfgplbmcaaDoor.Hf

/- A copy by append. -/
namespace Go.Proofs.YteklahfgplbmcaaDoor.BkRf
open Go Go.ChangeShapes Go.WideShapes Go.ChangeAt Go.RowKit Go.Proofs.YteklahfgplbmcaaDoor.Bk Go.Proofs.YteklahfgplbmcaaDoor.Bi Go.Proofs.YteklahfgplbmcaaDoor.Cr Go.Proofs.YteklahfgplbmcaaDoor.Fx
theorem run_app0 (w : World) (ty : TypeId) (v : Value) (n : Nat) (base : Nat) (xs : List Value) (cap : Nat) (hown : w.ownsRow base 3 1 v n xs) :
    (Builtin.append_ #[22, 22] ty #[v, .slice none 0 cap]).run Tryd.prog w = .ok v w := by
  obtain ⟨i, hi, hz0, hz1, hz2⟩ := info_parts info3'
  rcases hown.2 with ⟨rfl, rfl⟩ | ⟨g, cap, cur, rfl, _, _, hnc, _⟩
  · simp [Builtin.append_, run_underlying Tryd.underlying22, sizeOf, typeInfo, hi, Builtin.lenOf, Builtin.firstCells]
  · simp [Builtin.append_, run_underlying Tryd.underlying22, sizeOf, typeInfo, hi, Builtin.lenOf, Builtin.firstCells, hnc, storeCells]
/-- A copy by append. -/
theorem wpList_copy (w : World) {ops : Array Oper} {rest : List Oper} {o : Oper} {a : Act} {Q : Exit → Act → World → Prop} (hgd : o.guard = none) (s x : Operand)
    (ho : o.op = .call { callee := .builtin .append, args := #[s, x], argTypes := #[22, 22] }) (base : Nat) (v : Value) (hs : a.eval s = v) (A : Option Addr) (cap : Nat) (zs : List Int) (hown : w.ownsRow base 3 1 v 0 []) (hbs : base ≤ w.heap.size) (hx : a.eval x = .slice A zs.length cap) (hn : zs.length ≤ 1000) (hc : RdA w A zs)
    (hK : ∀ v' w', Fx.Own base w' v' zs → w.grownBy w' v.ownBlock → wpList Tryd.prog ops Q rest (a.put o.dst v') w') : wpList Tryd.prog ops Q (o :: rest) a w := by
  obtain ⟨i0, hi, hz0, hz1, hz2⟩ := info_parts info3'
  have hA : (A = none ∧ zs = []) ∨ ∃ x, A = some x ∧ ∀ j u, (zs.map (Value.int .i64))[j]? = some u → w.cell? (x.add j) = some u := by
    cases A with
    | none =>
      refine .inl ⟨rfl, ?_⟩
      cases zs with
      | nil => rfl
      | cons z zs => obtain ⟨b, off, e, _⟩ := hc 0 (by simp); cases e
    | some x =>
      refine .inr ⟨x, rfl, fun j u hu => ?_⟩
      simp only [List.getElem?_map, Option.map_eq_some_iff] at hu
      obtain ⟨q, hq, rfl⟩ := hu
      obtain ⟨hj, rfl⟩ := List.getElem?_eq_some_iff.1 hq
      obtain ⟨b, off, e, _, h1⟩ := hc j hj
      simp only [Option.some.injEq] at e
      subst e
      rw [Fx.add_at, h1]
      simp [List.getD_eq_getElem?_getD, List.getElem?_eq_getElem hj]
  rcases hA with ⟨rfl, rfl⟩ | ⟨x1, rfl, hc2⟩
  · refine wpList_plain hgd fun K hK' => ?_
    have hrun := run_app0 w o.type v 0 base [] cap hown
    unfold Oper.wp
    simp only [List.length_nil] at hx
    simp [execOp, ho, resolve, invoke, builtin, hs, hx, hrun, Result.andThen]
    exact hK' _ _ (hK _ _ hown ⟨rfl, rfl, rfl, Nat.le_refl _, fun _ _ _ => rfl⟩)
  · refine wpList_append_own w hgd s x 22 ho base 3 i0 (.int .i64 0) 1 8 Tryd.underlying22 hi hz0 hz1 hz2 rfl (by decide) _ 0 _ hs hown x1 zs.length cap (zs.map (Value.int .i64)) hx (by simp) hc2 (one64 _) (by unfold maxLen; omega) (by omega) hbs ?_
    intro v' w' h1 h2 _
    refine hK v' w' ?_ h2
    unfold Fx.Own
    rw [Nat.zero_add, List.nil_append] at h1
    exact h1
end Go.Proofs.YteklahfgplbmcaaDoor.BkRf

/- The document's Entry. -/
namespace Go.Proofs.YteklahfgplbmcaaDoor.BkRf
open Go Go.ChangeShapes Go.WideShapes Go.ChangeAt Go.RowKit Go.Proofs.YteklahfgplbmcaaDoor.Bk Go.Proofs.YteklahfgplbmcaaDoor.Bi Go.Proofs.YteklahfgplbmcaaDoor.Cr Go.Proofs.YteklahfgplbmcaaDoor.Fx

theorem rentry_bad (I : Int) (v : Value) (w : World) (h : I < 1 ∨ 12 < I) : Calls Tryd.prog 23 #[.int .i64 I, v] w fun e w' => e = .returned (.tuple #[.int .i64 0, .int .i64 2]) ∧ Below w.heap.size w w' := by
  by_cases h1 : I < 1
  · clear h
    go_enter Tryd.func23, Tryd.ntmps23
    go_wp2
    go_ret2
    exact ⟨rfl, Below.refl _ _⟩
  · have h2 : 12 < I := by omega
    clear h
    go_enter Tryd.func23, Tryd.ntmps23
    go_wp2
    go_ret2
    exact ⟨rfl, Below.refl _ _⟩
set_option maxRecDepth 100000 in
set_option maxHeartbeats 8000000 in
theorem rentry_ok (id : Nat) (v : Value) (zs : List Int) (w : World) (h1 : 1 ≤ id) (h2 : id ≤ 12) (h : Rd w v zs) :
    Calls Tryd.prog 23 #[.int .i64 id, v] w fun e w' => e = .returned (.tuple #[.int .i64 (entI id zs), .int .i64 (entX id zs)]) ∧ Below w.heap.size w w' := by
  obtain ⟨A, cap, rfl, hA⟩ := h.open
  obtain ⟨f1, f2, f3, f4, f5, f6, f7, f8, f9, f10, f11, f12, f13, f14⟩ := facts h1 h2
  have HDM := Lib.hid (fun w => dim_ok (id : Int) w (by omega) (by omega))
  have HLW := Lib.hid (fun w => low_ok (id : Int) w (by omega) (by omega))
  have HHG := Lib.hid (fun w => high_ok (id : Int) w (by omega) (by omega))
  simp only [Int.toNat_natCast] at HDM HLW HHG
  have HPw := Lib.hid (pow_le h1 h2)
  have h12 := Lib.hid (And.intro h1 h2)
  have g1 : ¬ (id : Int) < 1 := by omega
  have g2 : ¬ 12 < (id : Int) := by omega
  have f3' := Lib.hid (show hg id - lw id + 1 = ((bs id : Nat) : Int) by omega)
  by_cases hd : zs.length = dm id
  · have HA := Lib.hid hA
    have hEI : Hid (zs.all (inR id) = true → entI id zs = ent (bs id) (lw id) zs ∧ entX id zs = 0) := Lib.hid fun h => by unfold entI entX; rw [if_pos ⟨hd, h⟩, if_pos hd, if_pos h]; exact ⟨rfl, rfl⟩
    have hEO : Hid (∀ j, j < zs.length → (zs.getD j 0 < lw id ∨ hg id < zs.getD j 0) → entI id zs = 0 ∧ entX id zs = 2) := Lib.hid fun j hj h => by
      have hn : ¬ zs.all (inR id) = true := fun ha => by
        have := List.all_eq_true.1 ha (zs.getD j 0) (by rw [List.getD_eq_getElem?_getD, List.getElem?_eq_getElem hj]; exact List.getElem_mem _)
        unfold inR at this
        simp at this
        simp only [List.getD_eq_getElem?_getD] at h
        omega
      unfold entI entX; rw [if_neg (fun h => hn h.2), if_pos hd, if_neg hn]; exact ⟨rfl, rfl⟩
    have HD := Lib.hid hd
    have hb121 : ((bs id : Nat) : Int) ≤ 121 := by omega
    have hw3 : IntKind.i64.wrap (hg id - lw id) = hg id - lw id := by rw [IntKind.wrap_i64]; omega
    have hw4 : IntKind.i64.wrap (hg id - lw id + 1) = hg id - lw id + 1 := by rw [IntKind.wrap_i64]; omega
    generalize hdd : dm id = d at *
    have HDD := Lib.hid hdd
    have hd4 := f5
    generalize hlw : lw id = L at *
    generalize hhg : hg id = H at *
    have HLH := Lib.hid (show lw id = L ∧ hg id = H from ⟨hlw, hhg⟩)
    rw [hd]
    have hdi : ((d : Int) != (d : Int)) = false := by simp
    clear hA hd hdd hlw hhg f5 h h1 h2 f1 f2 f4 f6 f7 f8 f14
    go_enter Tryd.func23, Tryd.ntmps23
    go_wp2_with (go_at_call 58; ((with_reducible refine (HDM.out _).mono ?_); rintro e w0 ⟨rfl, rfl⟩))
    go_loopw [6, 7] (fun a i wr => ∃ (r : Nat) (x : Int), r ≤ d ∧ i = .int .i64 r ∧ a = .int .i64 x ∧ Hid (x = ent (bs id) L (zs.take r)) ∧ Hid ((zs.take r).all (inR id) = true) ∧ Hid (Below w.heap.size w wr)) (fun _ i _ => d - (intOf i).toNat)
    case atStart => exact ⟨0, 0, by omega, rfl, rfl, Lib.hid (by simp [ent]), Lib.hid (by simp), Lib.hid (Below.refl _ _)⟩
    case round =>
      obtain ⟨r, x, hr, rfl, rfl, hx, hall, hbel⟩ := hrel
      by_cases hlt : r < d
      · obtain ⟨b, off, rfl, hb, c1'⟩ := HA.out r (by rw [HD.out]; exact hlt)
        have c1 := (hbel.out.cell (p := ⟨b, off + r, none⟩) hb).trans c1'
        have hbw := Nat.lt_of_lt_of_le hb hbel.out.size
        clear c1'
        have hO := Lib.hid (hEO.out r (by rw [HD.out]; exact hlt))
        have hst := Lib.hid (take_snoc' (zs := zs) (k := r) (by rw [HD.out]; exact hlt))
        obtain ⟨z, hz⟩ : ∃ z, zs.getD r 0 = z := ⟨_, rfl⟩
        rw [hz] at c1 hO hst
        have KEEP : Hid (∀ W, Below wr.heap.size wr W → W.cell? ⟨b, off + r, none⟩ = some (.int .i64 z) ∧ Below wr.heap.size wr W) := Lib.hid (fun W hW => ⟨(hW.cell (p := ⟨b, off + r, none⟩) hbw).trans c1, hW⟩)
        have r0' : (0 : Int) ≤ r := by omega
        have r1' : (r : Int) < d := by omega
        clear hz
        by_cases hz1 : z < L
        · have he := Lib.hid (hO.out (.inl hz1))
          have hb2 := Lib.hid hbel.out
          have HDR : Hid (Below wr.heap.size wr wr.drew) := Lib.hid (Below.refl _ _).drew
          clear hO hst hx hbel
          go_wp2
          first
            | (go_region_with first
                | (go_at_call 59; ((with_reducible refine (HLW.out _).mono ?_); rintro e w5 ⟨rfl, hb5⟩; have X1 := Lib.hid (bT HDR.out hb5); obtain ⟨c5, _⟩ := KEEP.out w5 X1.out)))
            | fail "not so"
          all_goals
            go_wp2
            go_ret2
            exact ⟨by rw [he.out.1, he.out.2]; rfl, bT hb2.out X1.out⟩
        by_cases hz2 : H < z
        · have he := Lib.hid (hO.out (.inr hz2))
          have hb2 := Lib.hid hbel.out
          have hzl : Hid ((decide (z < L)) = false) := Lib.hid (by simp; omega)
          clear hO hst hx hbel
          go_wp2
          have hz1 := hzl.out
          have hz1' : ¬ z < L := by simpa using hz1
          go_region_held3 (fun W => W.cell? ⟨b, off + r, none⟩ = some (.int .i64 z) ∧ Below wr.heap.size wr W) (exact KEEP.out _ (by first | exact Below.refl _ _ | exact (Below.refl _ _).drew | exact X1.out | exact X2.out | exact X3.out)) (first | (go_at_call 59; ((with_reducible refine (HLW.out _).mono ?_); rintro e w5 ⟨rfl, hb5⟩; have X1 := Lib.hid (bT (‹_ ∧ Below wr.heap.size wr _›).2 hb5); clear hb5)) | (go_at_call 60; ((with_reducible refine (HHG.out _).mono ?_); rintro e w6 ⟨rfl, hb6⟩; have X2 := Lib.hid (bT (‹_ ∧ Below wr.heap.size wr _›).2 hb6); clear hb6)))
          all_goals
            rename_i hS
            go_wp2
            go_ret2
            exact ⟨by rw [he.out.1, he.out.2]; rfl, bT hb2.out hS.2⟩
        · have hall2 : Hid ((zs.take (r + 1)).all (inR id) = true) := Lib.hid (by
            rw [hst.out, List.all_append, hall.out]
            have : inR id z = true := by unfold inR; rw [HLH.out.1, HLH.out.2]; simp; omega
            simp [this])
          have hx2 : Hid (x * (bs id : Nat) + z - L = ent (bs id) L (zs.take (r + 1))) := Lib.hid (by rw [hst.out, ent_snoc, hx.out])
          obtain ⟨y, hy1, hy2, _⟩ := ent_take h12.out.1 h12.out.2 (zs := zs.take r) (by rw [HDD.out, List.length_take]; omega) hall.out
          have hxy : x = (y : Int) := by rw [hx.out, ← HLH.out.1]; exact hy1
          have hy3 : y ≤ 289 := by
            have h1 := HPw.out (zs.take r).length (by rw [List.length_take]; omega)
            omega
          have hbI : ((bs id : Nat) : Int) ≤ 121 := hb121
          have hbI0 : (0 : Int) ≤ ((bs id : Nat) : Int) := Int.natCast_nonneg _
          have hprod : 0 ≤ x * ((bs id : Nat) : Int) ∧ x * ((bs id : Nat) : Int) ≤ 40000 := by
            rw [hxy]
            have h1 : (y : Int) * ((bs id : Nat) : Int) ≤ 289 * 121 := Int.mul_le_mul (by omega) hbI hbI0 (by decide)
            have h0 := Int.mul_nonneg (Int.natCast_nonneg y) hbI0
            omega
          obtain ⟨P, hP⟩ : ∃ P, x * ((bs id : Nat) : Int) = P := ⟨_, rfl⟩
          obtain ⟨p0, p1⟩ := hprod
          rw [hP] at p0 p1 hx2
          have hbe : H - L + 1 = ((bs id : Nat) : Int) := f3'.out
          have hw0 : IntKind.i64.wrap (x * (H - L + 1)) = P := by rw [hbe, hP, IntKind.wrap_i64]; omega
          have hw1 : IntKind.i64.wrap (P + z) = P + z := by rw [IntKind.wrap_i64]; omega
          have hw2 : IntKind.i64.wrap (P + z - L) = P + z - L := by rw [IntKind.wrap_i64]; omega
          have hzl : Hid ((decide (z < L)) = false ∧ (decide (H < z)) = false) := Lib.hid (by simp; omega)
          clear hP hO hst hx hxy hy1 hy2 hall hbe
          go_wp2
          obtain ⟨hz1, hz2⟩ := hzl.out
          go_region_held3 (fun W => W.cell? ⟨b, off + r, none⟩ = some (.int .i64 z) ∧ Below wr.heap.size wr W) (exact KEEP.out _ (by first | exact Below.refl _ _ | exact (Below.refl _ _).drew | exact X1.out | exact X2.out | exact X3.out)) (first | (go_at_call 59; ((with_reducible refine (HLW.out _).mono ?_); rintro e w5 ⟨rfl, hb5⟩; have X1 := Lib.hid (bT (‹_ ∧ Below wr.heap.size wr _›).2 hb5); clear hb5)) | (go_at_call 60; ((with_reducible refine (HHG.out _).mono ?_); rintro e w6 ⟨rfl, hb6⟩; have X2 := Lib.hid (bT (‹_ ∧ Below wr.heap.size wr _›).2 hb6); clear hb6)))
          all_goals
            rename_i hS
            obtain ⟨c5, b5⟩ := hS
            have X0 := Lib.hid b5
            clear X1 X2
            go_wp2
            clear hz1 hz2 b5
            go_region_held3 (fun W => W.cell? ⟨b, off + r, none⟩ = some (.int .i64 z) ∧ Below wr.heap.size wr W) (exact KEEP.out _ (by first | exact X0.out | exact X0.out.drew | exact X1.out | exact X2.out)) (first | (go_at_call 59; ((with_reducible refine (HLW.out _).mono ?_); rintro e w5 ⟨rfl, hb5⟩; have X1 := Lib.hid (bT (‹_ ∧ Below wr.heap.size wr _›).2 hb5); clear hb5)) | (go_at_call 60; ((with_reducible refine (HHG.out _).mono ?_); rintro e w6 ⟨rfl, hb6⟩; have X2 := Lib.hid (bT (‹_ ∧ Below wr.heap.size wr _›).2 hb6); clear hb6)))
            all_goals
              rename_i hS
              obtain ⟨c6, b6⟩ := hS
              have hbf := Lib.hid (hbel.out.trans (b6.mono hbel.out.size))
              go_wp2
              go_roundw
              case rel => exact ⟨r + 1, P + z - L, by omega, by go_num, rfl, hx2, hall2, hbf⟩
              case measure => simp [intOf]; omega
      · have hend : r = d := by omega
        subst hend
        have ht : zs.take r = zs := List.take_of_length_le (by rw [HD.out]; omega)
        have hx2 := hx.out
        have ha2 := hall.out
        rw [ht] at hx2 ha2
        have he := Lib.hid (hEI.out ha2)
        have hx3 := Lib.hid hx2
        have hb2 := Lib.hid hbel.out
        clear hx hall hx2 ha2 ht hbel
        go_wp2
        go_ret2
        exact ⟨by rw [he.out.1, he.out.2, ← hx3.out]; rfl, hb2.out⟩
  · have e1 : entI id zs = 0 := by unfold entI; rw [if_neg (fun h => hd h.1)]
    have e2 : entX id zs = 4 := by unfold entX; rw [if_neg hd]
    rw [e1, e2]
    have hne : ((zs.length : Int) == ((dm id : Nat) : Int)) = false := by simp; omega
    have hne2 : ¬ (zs.length : Int) = ((dm id : Nat) : Int) := by omega
    clear e1 e2 hA h h1 h2
    generalize zs.length = n at *
    generalize dm id = d at *
    go_enter Tryd.func23, Tryd.ntmps23
    go_wp2_with (go_at_call 58; ((with_reducible refine (HDM.out _).mono ?_); rintro e w0 ⟨rfl, rfl⟩))
    go_ret2
    exact ⟨rfl, Below.refl _ _⟩
end Go.Proofs.YteklahfgplbmcaaDoor.BkRf

/- The document's answers: what fits, and what is asked of a book. -/
namespace Go.Proofs.YteklahfgplbmcaaDoor.Hf
open Go Go.ChangeShapes Go.WideShapes Go.ChangeAt Go.RowKit Go.Proofs.YteklahfgplbmcaaDoor.Bk Go.Proofs.YteklahfgplbmcaaDoor.Bi Go.Proofs.YteklahfgplbmcaaDoor.Cr Go.Proofs.YteklahfgplbmcaaDoor.Fx

open Go.Proofs.YteklahfgplbmcaaDoor.BkRf
theorem rmost_ok (i : Nat) (w : World) (h1 : 1 ≤ i) (h2 : i ≤ 11) : Calls Tryd.prog 92 #[.int .i64 i] w fun e w' => e = .returned (.int .i64 (lim i)) ∧ Below w.heap.size w w' := by
  have HB := Lib.hid (al w (.cells #[.int .i64 0, .int .i64 1, .int .i64 1, .int .i64 2, .int .i64 2, .int .i64 4, .int .i64 4, .int .i64 7, .int .i64 7, .int .i64 12, .int .i64 12, .int .i64 8191] 3))
  have r : (w.alloc (.cells #[.int .i64 0, .int .i64 1, .int .i64 1, .int .i64 2, .int .i64 2, .int .i64 4, .int .i64 4, .int .i64 7, .int .i64 7, .int .i64 12, .int .i64 12, .int .i64 8191] 3)).rowIs w.heap.size 3 12 (fun k => .int .i64 (lim k)) := World.rowIs_alloc w _ 3 _ (fun k hk => by
    have h12 : k < 12 := hk
    have : k = 0 ∨ k = 1 ∨ k = 2 ∨ k = 3 ∨ k = 4 ∨ k = 5 ∨ k = 6 ∨ k = 7 ∨ k = 8 ∨ k = 9 ∨ k = 10 ∨ k = 11 := by omega
    rcases this with rfl | rfl | rfl | rfl | rfl | rfl | rfl | rfl | rfl | rfl | rfl | rfl <;> rfl)
  have hc := r.cell (i := i) (by omega)
  have g1 : (0 : Int) ≤ (i : Int) := by omega
  have g2 : (i : Int) < 12 := by omega
  have g3 : i < 12 := by omega
  clear r
  go_enter Tryd.func92, Tryd.ntmps92
  go_wp2
  go_ret
  exact ⟨rfl, HB.out⟩
theorem sgd_low {id : Nat} (h1 : 1 ≤ id) (h2 : id ≤ 12) : sgd (id : Int) = decide (lw id < 0) ∨ id = 12 := by
  rcases ids h1 h2 with rfl | rfl | rfl | rfl | rfl | rfl | rfl | rfl | rfl | rfl | rfl | rfl <;> first | exact .inl (by decide) | exact .inr rfl
theorem rsigned_ok (i : Nat) (w : World) (h1 : 1 ≤ i) (h2 : i ≤ 11) : Calls Tryd.prog 93 #[.int .i64 i] w fun e w' => e = .returned (.bool (sgd (i : Int))) ∧ Below w.heap.size w w' := by
  have HL := Lib.hid (fun x => low_ok (i : Int) x (by omega) (by omega))
  simp only [Int.toNat_natCast] at HL
  have hs := (sgd_low h1 (by omega : i ≤ 12)).resolve_right (by omega)
  rw [hs]
  generalize lw i = L at *
  clear hs
  go_enter Tryd.func93, Tryd.ntmps93
  go_wp2_with (go_at_call 59; ((with_reducible refine (HL.out _).mono ?_); rintro e w1 ⟨rfl, hb⟩))
  go_ret
  exact ⟨rfl, hb⟩
theorem rabs_ok (v : Int) (w : World) (h0 : -9223372036854775807 ≤ v) (h1 : v ≤ 9223372036854775807) : Calls Tryd.prog 94 #[.int .i64 v] w fun e w' => e = .returned (.int .i64 (v.natAbs : Nat)) ∧ w = w' := by
  have hw : IntKind.i64.wrap (-v) = -v := by rw [IntKind.wrap_i64]; omega
  by_cases h : v < 0
  · have e : ((v.natAbs : Nat) : Int) = -v := by omega
    have HE := Lib.hid e
    clear e
    go_enter Tryd.func94, Tryd.ntmps94
    go_wp2
    go_ret
    exact ⟨by rw [HE.out]; rfl, rfl⟩
  · have e : ((v.natAbs : Nat) : Int) = v := by omega
    have HE := Lib.hid e
    clear e
    go_enter Tryd.func94, Tryd.ntmps94
    go_wp2
    go_ret
    exact ⟨by rw [HE.out]; rfl, rfl⟩
set_option maxRecDepth 100000 in
set_option maxHeartbeats 8000000 in
theorem rfit_ok (id : Nat) (v : Value) (zs : List Int) (w : World) (i1 : 1 ≤ id) (i2 : id ≤ 11) (hl : zs.length ≤ maxLen) (hr : Rd w v zs) :
    Calls Tryd.prog 67 #[.int .i64 id, v] w fun e w' => e = .returned (.bool (fitB id zs)) ∧ Below w.heap.size w w' := by
  obtain ⟨A, cap, rfl, hA⟩ := hr.open
  have HMo := Lib.hid (fun w => rmost_ok id w i1 i2)
  obtain ⟨l0, l1, _⟩ := lims i1 i2
  have HT : Hid ((∀ j, j < zs.length → -lim id ≤ zs.getD j 0 ∧ zs.getD j 0 ≤ lim id) → fitB (id : Int) zs = true) := Lib.hid fun hh => by
    unfold fitB
    rw [Int.toNat_natCast]
    refine List.all_eq_true.2 fun v hv => ?_
    obtain ⟨j, hj, rfl⟩ := List.getElem_of_mem hv
    have := hh j hj
    rw [List.getD_eq_getElem?_getD, List.getElem?_eq_getElem hj] at this
    simpa using this
  have HF : Hid (∀ j, j < zs.length → (zs.getD j 0 < -lim id ∨ lim id < zs.getD j 0) → fitB (id : Int) zs = false) := Lib.hid fun j hj hh => by
    cases hf : fitB (id : Int) zs
    · rfl
    · unfold fitB at hf
      rw [Int.toNat_natCast] at hf
      have := List.all_eq_true.1 hf (zs.getD j 0) (by rw [List.getD_eq_getElem?_getD, List.getElem?_eq_getElem hj]; exact List.getElem_mem _)
      simp only [Bool.and_eq_true, decide_eq_true_eq] at this
      omega
  have HA := Lib.hid hA
  obtain ⟨n, hn⟩ : ∃ n, zs.length = n := ⟨_, rfl⟩
  have HN := Lib.hid hn
  rw [hn] at HT HF hl ⊢
  generalize fitB (id : Int) zs = R at *
  generalize lim id = L at *
  have hwL : IntKind.i64.wrap (-L) = -L := by rw [IntKind.wrap_i64]; omega
  unfold maxLen at hl
  clear hA hr hn i1 i2
  generalize (id : Int) = I at *
  go_enter Tryd.func67, Tryd.ntmps67
  go_wp2
  go_loopw [5] (fun i wr => ∃ j : Nat, j ≤ n ∧ i = .int .i64 j ∧ Hid (∀ q, q < j → -L ≤ zs.getD q 0 ∧ zs.getD q 0 ≤ L) ∧ Hid (Below w.heap.size w wr)) (fun i _ => n - (intOf i).toNat)
  case atStart => exact ⟨0, by omega, rfl, Lib.hid (fun q hq => absurd hq (by omega)), Lib.hid (Below.refl _ _)⟩
  case round =>
    obtain ⟨j, hj, rfl, hall, hbel⟩ := hrel
    by_cases hlt : j < n
    · obtain ⟨b, off, rfl, hb, c1'⟩ := HA.out j (by rw [HN.out]; exact hlt)
      have c1 := (hbel.out.cell (p := ⟨b, off + j, none⟩) hb).trans c1'
      have hbw := Nat.lt_of_lt_of_le hb hbel.out.size
      have hO := Lib.hid (HF.out j hlt)
      clear c1'
      obtain ⟨z, hz⟩ : ∃ z, zs.getD j 0 = z := ⟨_, rfl⟩
      rw [hz] at c1 hO
      have KEEP : Hid (∀ W, Below wr.heap.size wr W → W.cell? ⟨b, off + j, none⟩ = some (.int .i64 z) ∧ Below wr.heap.size wr W) := Lib.hid (fun W hW => ⟨(hW.cell (p := ⟨b, off + j, none⟩) hbw).trans c1, hW⟩)
      have r0' : (0 : Int) ≤ j := by omega
      have r1' : (j : Int) < n := by omega
      by_cases hz2 : L < z
      · have he := Lib.hid (hO.out (.inr hz2))
        have hb2 := Lib.hid hbel.out
        have HDR : Hid (Below wr.heap.size wr wr.drew) := Lib.hid (Below.refl _ _).drew
        clear hO hz hbel hall
        go_wp2
        first
          | (go_region_with first
              | (go_at_call 92; ((with_reducible refine (HMo.out _).mono ?_); rintro e w5 ⟨rfl, hb5⟩; have X1 := Lib.hid (bT HDR.out hb5); obtain ⟨c5, _⟩ := KEEP.out w5 X1.out)))
          | fail "not so"
        all_goals
          go_wp2
          go_ret
          exact ⟨by rw [he.out]; rfl, bT hb2.out X1.out⟩
      by_cases hz1 : z < -L
      · have he := Lib.hid (hO.out (.inl hz1))
        have hb2 := Lib.hid hbel.out
        have hzl : Hid ((decide (L < z)) = false) := Lib.hid (by simp; omega)
        clear hO hz hbel hall
        go_wp2
        have hz3 := hzl.out
        go_region_held3 (fun W => W.cell? ⟨b, off + j, none⟩ = some (.int .i64 z) ∧ Below wr.heap.size wr W) (exact KEEP.out _ (by first | exact Below.refl _ _ | exact (Below.refl _ _).drew | exact X1.out | exact X2.out)) (first | (go_at_call 92; ((with_reducible refine (HMo.out _).mono ?_); rintro e w5 ⟨rfl, hb5⟩; have X1 := Lib.hid (bT (‹_ ∧ Below wr.heap.size wr _›).2 hb5); clear hb5)) | (go_at_call 92; ((with_reducible refine (HMo.out _).mono ?_); rintro e w6 ⟨rfl, hb6⟩; have X2 := Lib.hid (bT (‹_ ∧ Below wr.heap.size wr _›).2 hb6); clear hb6)))
        all_goals
          rename_i hS
          go_wp2
          go_ret
          exact ⟨by rw [he.out]; rfl, bT hb2.out hS.2⟩
      · have hall2 : Hid (∀ q, q < j + 1 → -L ≤ zs.getD q 0 ∧ zs.getD q 0 ≤ L) := Lib.hid fun q hq => by
          by_cases hqj : q = j
          · subst hqj; rw [hz]; omega
          · exact hall.out q (by omega)
        have hzl : Hid ((decide (L < z)) = false ∧ (decide (z < -L)) = false) := Lib.hid (by simp; omega)
        clear hO hz hall
        go_wp2
        obtain ⟨hz3, hz4⟩ := hzl.out
        go_region_held3 (fun W => W.cell? ⟨b, off + j, none⟩ = some (.int .i64 z) ∧ Below wr.heap.size wr W) (exact KEEP.out _ (by first | exact Below.refl _ _ | exact (Below.refl _ _).drew | exact X1.out | exact X2.out)) (first | (go_at_call 92; ((with_reducible refine (HMo.out _).mono ?_); rintro e w5 ⟨rfl, hb5⟩; have X1 := Lib.hid (bT (‹_ ∧ Below wr.heap.size wr _›).2 hb5); clear hb5)) | (go_at_call 92; ((with_reducible refine (HMo.out _).mono ?_); rintro e w6 ⟨rfl, hb6⟩; have X2 := Lib.hid (bT (‹_ ∧ Below wr.heap.size wr _›).2 hb6); clear hb6)))
        all_goals
          rename_i hS
          obtain ⟨c5, b5⟩ := hS
          have X0 := Lib.hid (bT hbel.out b5)
          go_wp2
          go_roundw
        case rel => exact ⟨j + 1, by omega, by go_num, hall2, X0⟩
        case measure => simp [intOf]; omega
    · have hend : j = n := by omega
      subst hend
      have he := Lib.hid (HT.out hall.out)
      have hb2 := Lib.hid hbel.out
      clear hall hbel
      go_wp2
      go_ret
      exact ⟨by rw [he.out]; rfl, hb2.out⟩
set_option maxRecDepth 100000 in
theorem rfits_any (i : Int) (v : Value) (zs : List Int) (w : World) (hl : zs.length ≤ maxLen) (hr : Rd w v zs) :
    Calls Tryd.prog 37 #[.int .i64 i, v] w fun e w' => e = .returned (.tuple #[.bool (fR i zs), .int .i64 (fE i zs)]) ∧ Below w.heap.size w w' := by
  by_cases h : i < 1 ∨ 11 < i
  · unfold fR fE
    rw [if_pos h, if_pos h]
    have h' : i < 1 ∨ (¬ i < 1 ∧ 11 < i) := by omega
    clear h
    rcases h' with h | ⟨h, h1⟩
    all_goals
      go_enter Tryd.func37, Tryd.ntmps37
      go_wp2
      go_ret2
      exact ⟨rfl, Below.refl _ _⟩
  obtain ⟨id, rfl⟩ : ∃ id : Nat, i = (id : Int) := ⟨i.toNat, by omega⟩
  have HD := Lib.hid (fun x => dim_ok (id : Int) x (by omega) (by omega))
  simp only [Int.toNat_natCast] at HD
  have HF := Lib.hid (rfit_ok id v zs w (by omega) (by omega) hl hr)
  obtain ⟨A, cap, rfl, _⟩ := hr.open
  have g1 : ¬ (id : Int) < 1 := by omega
  have g2 : ¬ 11 < (id : Int) := by omega
  by_cases hd : zs.length = dm id
  · have e1 : fE (id : Int) zs = 0 := by unfold fE; rw [if_neg h, Int.toNat_natCast, if_neg (by simp [hd])]
    have e2 : fR (id : Int) zs = fitB (id : Int) zs := by unfold fR; rw [if_neg h, Int.toNat_natCast, if_neg (by simp [hd])]
    rw [e1, e2]
    rw [← hd] at HD
    generalize fitB (id : Int) zs = R at *
    clear e1 e2 hd h hr hl
    generalize zs.length = n at *
    generalize (id : Int) = I at *
    go_enter Tryd.func37, Tryd.ntmps37
    go_wp2_with first
      | (go_at_call 58; ((with_reducible refine (HD.out _).mono ?_); rintro e w1 ⟨rfl, rfl⟩))
      | (go_at_call 67; ((with_reducible refine (HF.out).mono ?_); rintro e w2 ⟨rfl, hb⟩))
    go_ret2
    exact ⟨rfl, hb⟩
  · have e1 : fE (id : Int) zs = 4 := by unfold fE; rw [if_neg h, Int.toNat_natCast, if_pos (by simp [hd])]
    have e2 : fR (id : Int) zs = false := by unfold fR; rw [if_neg h, Int.toNat_natCast, if_pos (by simp [hd])]
    rw [e1, e2]
    have hne : ((zs.length : Int) == ((dm id : Nat) : Int)) = false := by simp; omega
    have hne2 : ¬ (zs.length : Int) = ((dm id : Nat) : Int) := by omega
    clear e1 e2 hd h hr hl HF
    generalize zs.length = n at *
    generalize dm id = d at *
    generalize (id : Int) = I at *
    go_enter Tryd.func37, Tryd.ntmps37
    go_wp2_with (go_at_call 58; ((with_reducible refine (HD.out _).mono ?_); rintro e w1 ⟨rfl, rfl⟩))
    go_ret2
    exact ⟨rfl, Below.refl _ _⟩
end Go.Proofs.YteklahfgplbmcaaDoor.Hf

/- What is asked of a book, as the document tells it. -/
namespace Go.Proofs.YteklahfgplbmcaaDoor.Hf
open Go Go.ChangeShapes Go.WideShapes Go.ChangeAt Go.RowKit Go.Proofs.YteklahfgplbmcaaDoor.Bk Go.Proofs.YteklahfgplbmcaaDoor.Bi Go.Proofs.YteklahfgplbmcaaDoor.Cr Go.Proofs.YteklahfgplbmcaaDoor.Fx

open Go.Proofs.YteklahfgplbmcaaDoor.BkRf
/-- What is asked of a book of values. -/
noncomputable def aX (i p : Int) (A B : List Int) : Int := if IsBk i p A B then (if i = 12 then 2 else 0) else 8
set_option maxRecDepth 100000 in
theorem rasked_ok (i p : Int) (a1 a2 : Option Addr) (c1 c2 : Nat) (A B : List Int) (w : World) (hA : A.length ≤ maxLen) (hB : B.length ≤ maxLen) (r1 : Rd w (.slice a1 A.length c1) A) (r2 : Rd w (.slice a2 B.length c2) B) :
    Calls Tryd.prog 66 #[.agg #[.int .i64 i, .int .i64 p, .slice a1 A.length c1, .slice a2 B.length c2]] w fun e w' => e = .returned (.int .i64 (aX i p A B)) ∧ Below w.heap.size w w' := by
  have HB := Lib.hid (al w (.cells #[.int .i64 i, .int .i64 p, .slice a1 A.length c1, .slice a2 B.length c2] 24))
  have HX := Lib.hid (fun x h => bx1 (w := w) (a := .int .i64 i) (b := .int .i64 p) (c := .slice a1 A.length c1) (d := .slice a2 B.length c2) (x := x) h)
  obtain ⟨p0, p1, p2, p3⟩ := HX.out _ (Below.refl _ _)
  have HM := Lib.hid (fun x (h : Below w.heap.size w x) => may_any i p (.slice a1 A.length c1) (.slice a2 B.length c2) A B x hA hB (r1.below h) (r2.below h))
  unfold aX
  by_cases hk : IsBk i p A B
  · rw [decide_eq_true hk] at HM
    rw [if_pos hk]
    obtain ⟨id, rfl, i1, i2, hrest⟩ := isbk_nn hk
    clear hrest
    by_cases h12 : (id : Int) = 12
    · rw [if_pos h12]
      have g : 11 < (id : Int) := by omega
      clear hk r1 r2 h12
      generalize (id : Int) = I at *
      go_enter Tryd.func66, Tryd.ntmps66
      go_wp2_with (go_at_call 61; ((with_reducible refine (HM.out _ HB.out).mono ?_); rintro e w1 ⟨rfl, hb⟩; have B1 := Lib.hid (bT HB.out hb); clear p0 p1 p2 p3; obtain ⟨p0, p1, p2, p3⟩ := HX.out w1 hb; clear hb))
      go_ret
      exact ⟨rfl, B1.out⟩
    · rw [if_neg h12]
      have g : ¬ 11 < (id : Int) := by omega
      clear hk r1 r2 h12
      generalize (id : Int) = I at *
      go_enter Tryd.func66, Tryd.ntmps66
      go_wp2_with (go_at_call 61; ((with_reducible refine (HM.out _ HB.out).mono ?_); rintro e w1 ⟨rfl, hb⟩; have B1 := Lib.hid (bT HB.out hb); clear p0 p1 p2 p3; obtain ⟨p0, p1, p2, p3⟩ := HX.out w1 hb; clear hb))
      go_ret
      exact ⟨rfl, B1.out⟩
  · rw [decide_eq_false hk] at HM
    rw [if_neg hk]
    clear hk r1 r2
    go_enter Tryd.func66, Tryd.ntmps66
    go_wp2_with (go_at_call 61; ((with_reducible refine (HM.out _ HB.out).mono ?_); rintro e w1 ⟨rfl, hb⟩; have B1 := Lib.hid (bT HB.out hb); clear hb))
    go_ret
    exact ⟨rfl, B1.out⟩
end Go.Proofs.YteklahfgplbmcaaDoor.Hf
