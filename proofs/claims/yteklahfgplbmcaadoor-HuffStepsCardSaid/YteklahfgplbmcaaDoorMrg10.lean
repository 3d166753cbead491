/- Texts of one claim, one behind the other: BcPr, BcFd, BcFo, BcRe, HfMath, HfEnt, HfFit, HfSgn, HfEsc, HfJoin, HfEo, HfVb, HfPt, HfAl, HfStM, HfStp, HfSs, HfSr, HfSl. -/
import Derived.Test.YteklahfgplbmcaaDoorMrg8
import Derived.Test.YteklahfgplbmcaaDoorMrg9
import Derived.WalkKit
import Derived.Below
import Derived.RegionTactic
import Derived.Deep.QuietTactic
import Derived.BigQuiet
import Derived.ChangeAlike
import Derived.Deep.OwnRows
import Derived.Deep.Cut
import Derived.ProofKit
import Derived.OpenShut
import Derived.Laws.EntriesVeiled
import Derived.Lib.Hide
import Derived.Deep.RegionHeld3
import Derived.Laws.AppendOwn
import Derived.Laws.AppendOwnNone
import Derived.Test.YteklahfgplbmcaaDoorMrg2
import Derived.Test.YteklahfgplbmcaaDoorMrg3
import Derived.OwnWalk
import Derived.Test.YteklahfgplbmcaaDoorBkAl
import Derived.Test.YteklahfgplbmcaaDoorMrg5
import Derived.Deep.AppendLies
set_option linter.unusedVariables false
/- The program's Read of whatever book. -/
namespace Go.Proofs.YteklahfgplbmcaaDoor.BkRf
open Go Go.ChangeShapes Go.WideShapes Go.ChangeAt Go.RowKit Go.Proofs.YteklahfgplbmcaaDoor.Bk Go.Proofs.YteklahfgplbmcaaDoor.Bi Go.Proofs.YteklahfgplbmcaaDoor.Cr Go.Proofs.YteklahfgplbmcaaDoor.Fx

theorem zi_getD (l : List Nat) (j : Nat) : (zi l).getD j 0 = ((l.getD j 0 : Nat) : Int) := by
  unfold zi
  simp only [List.getD_eq_getElem?_getD, List.getElem?_map]
  cases l[j]? <;> rfl
set_option maxRecDepth 100000 in
set_option maxHeartbeats 8000000 in
theorem pread_ok (id : Nat) (a1 a2 : Option Addr) (c1 c2 : Nat) (v : Value) (z : List Int) (A : Int) (w : World) (h1 : 1 ≤ id) (h2 : id ≤ 12) (hs : Sh w) (he : RdA w a1 (zi (ord id))) (hG0 : ∀ x, Below w.heap.size w x → Sh x → Calls Tryd.prog 49 #[.agg #[.int .i64 (id : Int), .int .i64 (pl id : Int), .slice a1 (Nn id) c1, .slice a2 (Nn id) c2]] x fun e w' => e = .returned (.bool true) ∧ Below x.heap.size x w')
    (hv : R8 w v z) (hz : ∀ x ∈ z, 0 ≤ x ∧ x ≤ 255) (hl : z.length ≤ 20000) :
    Calls Tryd.prog 17 #[.agg #[.int .i64 (id : Int), .int .i64 (pl id : Int), .slice a1 (Nn id) c1, .slice a2 (Nn id) c2], v, .int .i64 A] w fun e w' => e = T3 (readF (ord id) (pl id) z A) ∧ Below w.heap.size w w' := by
  obtain ⟨f1, f2, f3, f4, f5, f6, f7, f8, f9, f10, f11, f12, f13, f14⟩ := facts h1 h2
  have HG := Lib.hid hG0
  have HE := Lib.hid he
  have HX := Lib.hid (fun x h => bx1 (w := w) (a := .int .i64 (id : Int)) (b := .int .i64 (pl id : Int)) (c := .slice a1 (Nn id) c1) (d := .slice a2 (Nn id) c2) (x := x) h)
  have hb0 := Lib.hid (al w (.cells #[.int .i64 (id : Int), .int .i64 (pl id), .slice a1 (Nn id) c1, .slice a2 (Nn id) c2] 24))
  have hsA := Lib.hid (hs.below (al w (.cells #[.int .i64 (id : Int), .int .i64 (pl id), .slice a1 (Nn id) c1, .slice a2 (Nn id) c2] 24)))
  have HV := Lib.hid hv
  have HZr : Hid (∀ w', Below w.heap.size w w' → Calls Tryd.prog 52 #[v, .int .i64 A] w' fun e w'' => e = .returned (.tuple #[.int .i64 (zerosF z 10 0 A).1, .int .i64 (zerosF z 10 0 A).2.1, .int .i64 (zerosF z 10 0 A).2.2]) ∧ w' = w'') := Lib.hid fun w' hb => zeros_ok v z A w' (hv.below hb) hz hl
  have HGt : Hid (∀ w' (B : Int) (s : Nat), Below w.heap.size w w' → s ≤ 31 → Calls Tryd.prog 53 #[v, .int .i64 B, .int .i64 s] w' fun e w'' => e = .returned (.tuple #[.int .i64 (getF z B s).1, .int .i64 (getF z B s).2.1, .int .i64 (getF z B s).2.2]) ∧ w' = w'') := Lib.hid fun w' B s hb h => get_all v z B s w' (hv.below hb) hz hl h
  obtain ⟨k0, k1, k2, k3⟩ := HX.out _ (Below.refl _ _)
  have hord := (ord_is h1 h2).length
  have HRd : Hid (∀ x, T3 x = .returned (.tuple #[.int .i64 x.1, .int .i64 x.2.1, .int .i64 x.2.2])) := Lib.hid fun _ => rfl
  obtain ⟨kz, n1, e1, hzz⟩ : ∃ kz n1 e1, zerosF z 10 0 A = (kz, n1, e1) := ⟨_, _, _, rfl⟩
  have hzl := zeros_le (z := z) (f := 10) (m := 0) (A := A)
  rw [hzz] at HZr hzl
  by_cases he1 : e1 = 0
  · subst he1
    obtain ⟨m, hm1, hm2⟩ := hzl rfl
    simp only at hm1
    subst hm1
    have HG1 := Lib.hid (fun w' hb => HGt.out w' n1 m hb (by omega))
    have hn1 := getF_num (z := z) (A := n1) (s := m)
    obtain ⟨lo, n2, e2, hg1⟩ : ∃ lo n2 e2, getF z n1 m = (lo, n2, e2) := ⟨_, _, _, rfl⟩
    rw [hg1] at HG1 hn1
    by_cases he2 : e2 = 0
    · subst he2
      have HG2 := Lib.hid (fun w' hb => HGt.out w' n2 (pl id) hb (by omega))
      have hn2 := getF_num (z := z) (A := n2) (s := pl id)
      obtain ⟨p, n3, e3, hg2⟩ : ∃ p n3 e3, getF z n2 (pl id) = (p, n3, e3) := ⟨_, _, _, rfl⟩
      rw [hg2] at HG2 hn2
      by_cases he3 : e3 = 0
      · subst he3
        have hres : readF (ord id) (pl id) z A = if ((ord id).length : Int) ≤ (2 ^ m + lo - 1) * 2 ^ pl id + p then (0, 0, 8) else ((((ord id).getD ((2 ^ m + lo - 1) * 2 ^ pl id + p).toNat 0 : Nat) : Int), n3, 0) := by
          unfold readF; simp [hzz, hg1, hg2]
        rw [hres, hord]
        obtain ⟨l0, l1⟩ := hn1 rfl
        obtain ⟨p0, p1⟩ := hn2 rfl
        simp only at l0 l1 p0 p1
        obtain ⟨rk0, hrk0⟩ : ∃ rk0 : Int, (2 ^ m + lo - 1) * 2 ^ pl id + p = rk0 := ⟨_, rfl⟩
        obtain ⟨hwr, hrk1⟩ := rank_wrap (P := (2 : Int) ^ m) (Q := (2 : Int) ^ pl id) (lo := lo) (p := p) (pow_b (Nat.le_refl m)).1 (pow_b (k := 9) (by omega)).2 (pow_b f6).1 (pow_b (k := 2) f6).2 l0 l1 p0 p1
        rw [hrk0] at hwr hrk1
        rw [hrk0]
        clear hrk0
        clear hres hzz hg1 hg2 hzl hn1 hn2 HGt hs he hG0 hv hl hz f1 f2 f3 f4 f5 f9 f10 f11 f12 f13 f14
        by_cases hge : ((Nn id : Nat) : Int) ≤ rk0
        · rw [if_pos hge]
          go_enter Tryd.func17, Tryd.ntmps17
          go_upto_region 12 with first
          | (go_at_call 49; ((with_reducible refine (HG.out _ hb0.out hsA.out).mono ?_); rintro e w1 ⟨rfl, hb1⟩; have h1 := Lib.hid (bT hb0.out hb1); (try clear k0 k1 k2 k3); obtain ⟨q0, q1, q2, q3⟩ := HX.out w1 hb1))
          | (go_at_call 52; ((with_reducible refine (HZr.out _ h1.out).mono ?_); rintro e w2 ⟨rfl, rfl⟩))
          | (go_at_call 53; ((with_reducible refine (HG1.out _ h1.out).mono ?_); rintro e w3 ⟨rfl, rfl⟩))
          | (go_at_call 53; ((with_reducible refine (HG2.out _ h1.out).mono ?_); rintro e w4 ⟨rfl, rfl⟩))
          go_quiet (fail)
          go_wp2
          go_ret3
          exact ⟨rfl, h1.out.trans ((drewN_belowL w1 nq).mono h1.out.size)⟩
        · rw [if_neg hge]
          obtain ⟨r, rfl⟩ : ∃ r : Nat, rk0 = (r : Int) := ⟨rk0.toNat, by omega⟩
          have hrn : r < Nn id := by omega
          have hce : (zi (ord id)).getD r 0 = (((ord id).getD r 0 : Nat) : Int) := zi_getD _ _
          rw [Int.toNat_natCast]
          obtain ⟨en, hen⟩ : ∃ en : Nat, (ord id).getD r 0 = en := ⟨_, rfl⟩
          rw [hen] at hce ⊢
          obtain ⟨b, off, ea, hElt, ceA⟩ := HE.out r (by rw [zi_len, hord]; exact hrn)
          subst ea
          rw [hce] at ceA
          clear hen hce
          go_enter Tryd.func17, Tryd.ntmps17
          go_upto_region 12 with first
          | (go_at_call 49; ((with_reducible refine (HG.out _ hb0.out hsA.out).mono ?_); rintro e w1 ⟨rfl, hb1⟩; have h1 := Lib.hid (bT hb0.out hb1); (try clear k0 k1 k2 k3); obtain ⟨q0, q1, q2, q3⟩ := HX.out w1 hb1))
          | (go_at_call 52; ((with_reducible refine (HZr.out _ h1.out).mono ?_); rintro e w2 ⟨rfl, rfl⟩))
          | (go_at_call 53; ((with_reducible refine (HG1.out _ h1.out).mono ?_); rintro e w3 ⟨rfl, rfl⟩))
          | (go_at_call 53; ((with_reducible refine (HG2.out _ h1.out).mono ?_); rintro e w4 ⟨rfl, rfl⟩))
          have ce := (h1.out.cell (p := ⟨b, off + r, none⟩) hElt).trans ceA
          clear ceA
          go_quiet (fail)
          go_wp2
          go_ret3
          exact ⟨rfl, h1.out.trans ((drewN_belowL w1 nq).mono h1.out.size)⟩
      · have hres : readF (ord id) (pl id) z A = (0, 0, e3) := by
          unfold readF; simp [hzz, hg1, hg2, he3]
        rw [hres]
        have hee : (e3 == 0) = false := by simp [he3]
        clear hres hzz hg1 hg2 hzl hn1 hn2 HGt hs he hG0 hv hl hz f1 f2 f3 f4 f5 f9 f10 f11 f12 f13 f14
        go_enter Tryd.func17, Tryd.ntmps17
        go_wp2_with first
          | (go_at_call 49; ((with_reducible refine (HG.out _ hb0.out hsA.out).mono ?_); rintro e w1 ⟨rfl, hb1⟩; have h1 := Lib.hid (bT hb0.out hb1); (try clear k0 k1 k2 k3); obtain ⟨q0, q1, q2, q3⟩ := HX.out w1 hb1))
          | (go_at_call 52; ((with_reducible refine (HZr.out _ h1.out).mono ?_); rintro e w2 ⟨rfl, rfl⟩))
          | (go_at_call 53; ((with_reducible refine (HG1.out _ h1.out).mono ?_); rintro e w3 ⟨rfl, rfl⟩))
          | (go_at_call 53; ((with_reducible refine (HG2.out _ h1.out).mono ?_); rintro e w4 ⟨rfl, rfl⟩))
        go_ret3
        exact ⟨rfl, h1.out⟩
    · have hres : readF (ord id) (pl id) z A = (0, 0, e2) := by
        unfold readF; simp [hzz, hg1, he2]
      rw [hres]
      have hee : (e2 == 0) = false := by simp [he2]
      clear hres hzz hg1 hzl hn1 HGt hs he hG0 hv hl hz f1 f2 f3 f4 f5 f9 f10 f11 f12 f13 f14
      go_enter Tryd.func17, Tryd.ntmps17
      go_wp2_with first
          | (go_at_call 49; ((with_reducible refine (HG.out _ hb0.out hsA.out).mono ?_); rintro e w1 ⟨rfl, hb1⟩; have h1 := Lib.hid (bT hb0.out hb1); (try clear k0 k1 k2 k3); obtain ⟨q0, q1, q2, q3⟩ := HX.out w1 hb1))
          | (go_at_call 52; ((with_reducible refine (HZr.out _ h1.out).mono ?_); rintro e w2 ⟨rfl, rfl⟩))
          | (go_at_call 53; ((with_reducible refine (HG1.out _ h1.out).mono ?_); rintro e w3 ⟨rfl, rfl⟩))
      go_ret3
      exact ⟨rfl, h1.out⟩
  · have hres : readF (ord id) (pl id) z A = (0, 0, e1) := by
      unfold readF; simp [hzz, he1]
    rw [hres]
    have hee : (e1 == 0) = false := by simp [he1]
    clear hres hzz hzl HGt hs he hG0 hv hl hz f1 f2 f3 f4 f5 f9 f10 f11 f12 f13 f14
    go_enter Tryd.func17, Tryd.ntmps17
    go_wp2_with first
          | (go_at_call 49; ((with_reducible refine (HG.out _ hb0.out hsA.out).mono ?_); rintro e w1 ⟨rfl, hb1⟩; have h1 := Lib.hid (bT hb0.out hb1); (try clear k0 k1 k2 k3); obtain ⟨q0, q1, q2, q3⟩ := HX.out w1 hb1))
          | (go_at_call 52; ((with_reducible refine (HZr.out _ h1.out).mono ?_); rintro e w2 ⟨rfl, rfl⟩))
    go_ret3
    exact ⟨rfl, h1.out⟩
end Go.Proofs.YteklahfgplbmcaaDoor.BkRf

/- What the document reads. -/
namespace Go.Proofs.YteklahfgplbmcaaDoor.BkRf
open Go Go.ChangeShapes Go.WideShapes Go.ChangeAt Go.RowKit Go.Proofs.YteklahfgplbmcaaDoor.Bk Go.Proofs.YteklahfgplbmcaaDoor.Bi Go.Proofs.YteklahfgplbmcaaDoor.Cr Go.Proofs.YteklahfgplbmcaaDoor.Fx
theorem rget_all (v : Value) (z : List Int) (A : Int) (s : Nat) (w : World) (hr : R8 w v z) (hz : ∀ x ∈ z, 0 ≤ x ∧ x ≤ 255) (hl : z.length ≤ 20000) (s1 : s ≤ 31) :
    Calls Tryd.prog 88 #[v, .int .i64 A, .int .i64 s] w fun e w' => e = T3 (getF z A s) ∧ w = w' := by
  obtain ⟨a0, c0, hv, hc0, hcm⟩ : ∃ a0 c0, v = .slice a0 z.length c0 ∧ z.length ≤ c0 ∧ c0 ≤ maxLen := by
    rcases hr with ⟨rfl | ⟨x, c, rfl, hc⟩, rfl⟩ | ⟨b, off, c, rfl, h2, h3, _⟩
    · exact ⟨none, 0, rfl, Nat.le_refl _, by unfold maxLen; omega⟩
    · exact ⟨some x, c, rfl, Nat.zero_le _, hc⟩
    · exact ⟨_, c, rfl, h2, h3⟩
  by_cases h1 : A < 0 ∨ (z.length : Int) < A
  · subst hv
    have e : getF z A s = (0, 0, 2) := by unfold getF; rw [if_pos h1]
    rw [e]
    exact rget_arg a0 z.length c0 A s w (by omega) (by omega)
  by_cases h2 : (z.length : Int) - A < s
  · subst hv
    have e : getF z A s = (0, 0, 5) := by unfold getF; rw [if_neg h1, if_pos h2]
    rw [e]
    exact rget_end a0 z.length c0 A s w (by omega) (by omega) (by omega) (by omega) (by omega) h2
  obtain ⟨a, rfl⟩ : ∃ a : Nat, A = (a : Int) := ⟨A.toNat, by omega⟩
  have e : getF z a s = if bok ((z.drop a).take s) then (num ((z.drop a).take s), (a : Int) + s, 0) else (0, 0, 8) := by
    unfold getF; rw [if_neg h1, if_neg h2]; simp
  rcases hr with ⟨hv2, rfl⟩ | ⟨b, off, c, rfl, h3, h4, h5, h6⟩
  · have ha : a = 0 := by simp at h1; omega
    subst ha
    have hs0 : s = 0 := by simp at h2; omega
    subst hs0
    rw [e]
    rcases hv2 with rfl | ⟨x, c, rfl, hc⟩
    · exact rget_zero none 0 0 0 w (by unfold maxLen; omega) (Nat.le_refl _)
    · exact rget_zero (some x) 0 c 0 w (by unfold maxLen; omega) (Nat.le_refl _)
  · by_cases hs0 : s = 0
    · subst hs0
      rw [e]
      have := rget_zero (some ⟨b, off, none⟩) z.length c a w (by unfold maxLen; omega) (by omega)
      refine this.mono fun _ _ h => ⟨?_, h.2⟩
      rw [h.1]
      simp [T3, bok, num]
    · have := rget_room b off z.length c a s ((z.drop a).take s) w (by unfold maxLen; omega) s1 (by omega) (drop_take_len (by omega)) (fun x hx => hz x (List.mem_of_mem_drop (List.mem_of_mem_take hx))) (fun i hi => by
        have := h6 (a + i) (by omega)
        rw [this]
        simp [List.getD_eq_getElem?_getD, hi, List.getElem?_drop])
      refine this.mono fun _ _ h => ⟨?_, h.2⟩
      rw [e]
      rcases h.1 with ⟨h7, h8⟩ | ⟨h7, h8⟩
      · rw [h8, if_pos ((bok_iff _).2 h7)]; rfl
      · rw [h8, if_neg (fun h => h7 ((bok_iff _).1 h))]; rfl
end Go.Proofs.YteklahfgplbmcaaDoor.BkRf

/- What the document finds. -/
namespace Go.Proofs.YteklahfgplbmcaaDoor.BkRf
open Go Go.ChangeShapes Go.WideShapes Go.ChangeAt Go.RowKit Go.Proofs.YteklahfgplbmcaaDoor.Bk Go.Proofs.YteklahfgplbmcaaDoor.Bi Go.Proofs.YteklahfgplbmcaaDoor.Cr Go.Proofs.YteklahfgplbmcaaDoor.Fx

set_option maxRecDepth 100000 in
set_option maxHeartbeats 8000000 in
theorem rfound_bad (id : Nat) (a1 a2 : Option Addr) (c1 c2 : Nat) (a0 : Option Addr) (c0 : Nat) (z : List Int) (A : Int) (w : World)
    (hr : R8 w (.slice a0 z.length c0) z) (hz : ∀ x ∈ z, 0 ≤ x ∧ x ≤ 255) (hl : z.length ≤ 20000) (hbad : (zerosF z 10 0 A).2.2 ≠ 0) :
    Calls Tryd.prog 63 #[.agg #[.int .i64 (id : Int), .int .i64 (pl id : Int), .slice a1 (Nn id) c1, .slice a2 (Nn id) c2], .slice a0 z.length c0, .int .i64 A] w fun e w' => e = T3 (0, 0, (zerosF z 10 0 A).2.2) ∧ Below w.heap.size w w' := by
  have HB := Lib.hid (al w (.cells #[.int .i64 (id : Int), .int .i64 (pl id : Int), .slice a1 (Nn id) c1, .slice a2 (Nn id) c2] 24))
  have hzb := zerosF_bad hbad
  by_cases hA : A < 0 ∨ (z.length : Int) < A
  · have hg : getF z A 1 = (0, 0, 2) := by unfold getF; rw [if_pos hA]
    have hzf : (zerosF z 10 0 A).2.2 = 2 := by
      rw [show (10 : Nat) = 9 + 1 from rfl, zerosF, hg]; simp
    rw [hzf]
    clear hbad hzb hg hzf hr hz
    by_cases h0 : A < 0
    · clear hA
      go_enter Tryd.func63, Tryd.ntmps63
      go_wp2
      go_ret3
      exact ⟨rfl, HB.out⟩
    · have h3 : (z.length : Int) < A := by omega
      clear hA
      go_enter Tryd.func63, Tryd.ntmps63
      go_wp2
      go_ret3
      exact ⟨rfl, HB.out⟩
  · have hA0 : ¬ A < 0 := by omega
    have hA1 : ¬ (z.length : Int) < A := by omega
    have HG : Hid (∀ B, Calls Tryd.prog 88 #[.slice a0 z.length c0, .int .i64 B, .int .i64 1] (w.alloc (.cells #[.int .i64 (id : Int), .int .i64 (pl id : Int), .slice a1 (Nn id) c1, .slice a2 (Nn id) c2] 24)) fun e w' => e = .returned (.tuple #[.int .i64 (getF z B 1).1, .int .i64 (getF z B 1).2.1, .int .i64 (getF z B 1).2.2]) ∧ (w.alloc (.cells #[.int .i64 (id : Int), .int .i64 (pl id : Int), .slice a1 (Nn id) c1, .slice a2 (Nn id) c2] 24)) = w') := Lib.hid fun B => rget_all _ z B 1 _ (hr.below HB.out) hz hl (by omega)
    have HF : Hid (∀ (f m : Nat) (B : Int), zerosF z (f + 1) m B = if (getF z B 1).2.2 ≠ 0 then (0, 0, (getF z B 1).2.2) else if (getF z B 1).1 = 1 then ((m : Int), (getF z B 1).2.1, 0) else zerosF z f (m + 1) (getF z B 1).2.1) := Lib.hid fun f m B => rfl
    have H0 : Hid (∀ m B, zerosF z 0 m B = (0, 0, 8)) := Lib.hid fun m B => rfl
    obtain ⟨zf, hzf⟩ : ∃ zf, zerosF z 10 0 A = zf := ⟨_, rfl⟩
    rw [hzf] at hbad hzb ⊢
    have HR0 := Lib.hid hzf
    have HBD := Lib.hid hbad
    clear hzf hr hA hbad hzb
    generalize hW0 : w.alloc (.cells #[.int .i64 (id : Int), .int .i64 (pl id : Int), .slice a1 (Nn id) c1, .slice a2 (Nn id) c2] 24) = W0 at *
    go_enter Tryd.func63, Tryd.ntmps63
    go_wp2
    go_loop [2, 9] (fun at_ zs => ∃ (m : Nat) (B : Int), m ≤ 10 ∧ zs = .int .i64 m ∧ at_ = .int .i64 B ∧ Hid (zerosF z (10 - m) m B = zf)) (fun _ zs => 10 - (intOf zs).toNat)
    case atStart => exact ⟨0, A, by omega, rfl, rfl, HR0⟩
    case round =>
      obtain ⟨m, B, hm, rfl, rfl, hF⟩ := hrel
      by_cases hlt : m ≤ 9
      · have hF2 := hF.out
        rw [show 10 - m = (10 - (m + 1)) + 1 by omega, HF.out] at hF2
        obtain ⟨bit, nx, er, hg⟩ : ∃ bit nx er, getF z B 1 = (bit, nx, er) := ⟨_, _, _, rfl⟩
        have HGB := Lib.hid (HG.out B)
        rw [hg] at hF2 HGB
        by_cases he : er = 0
        · subst he
          rw [if_neg (by simp)] at hF2
          by_cases hb : bit = 1
          · subst hb
            rw [if_pos rfl] at hF2
            exact absurd (by rw [← hF2]) HBD.out
          · rw [if_neg hb] at hF2
            have HF2 := Lib.hid hF2
            have hbe : (bit == 1) = false := by simp [hb]
            clear hF2 hF HG HF H0 hg HR0
            go_wp2_with (go_at_call 88; ((with_reducible refine (HGB.out).mono ?_); rintro e w1 ⟨rfl, rfl⟩))
            go_round
            case rel => exact ⟨m + 1, nx, by omega, by go_num, rfl, HF2⟩
            case measure => simp [intOf]; omega
        · rw [if_pos he] at hF2
          have HF2 := Lib.hid hF2
          have hee : (er == 0) = false := by simp [he]
          clear hF2 hF HG HF H0 hg HR0
          go_wp2_with (go_at_call 88; ((with_reducible refine (HGB.out).mono ?_); rintro e w1 ⟨rfl, rfl⟩))
          go_ret3
          exact ⟨by rw [← HF2.out]; rfl, HB.out⟩
      · have hend : m = 10 := by omega
        subst hend
        have hF2 := hF.out
        rw [Nat.sub_self, H0.out] at hF2
        have HF2 := Lib.hid hF2
        clear hF2 hF HG HF H0 HR0
        go_wp2
        go_ret3
        exact ⟨by rw [← HF2.out]; rfl, HB.out⟩

set_option maxRecDepth 100000 in
set_option maxHeartbeats 8000000 in
theorem rfound_good (id : Nat) (a1 a2 : Option Addr) (c1 c2 : Nat) (a0 : Option Addr) (c0 : Nat) (z : List Int) (A : Int) (w : World) (h1 : 1 ≤ id) (h2 : id ≤ 12) (hE : RdA w a1 (zi (ord id)))
    (hr : R8 w (.slice a0 z.length c0) z) (hz : ∀ x ∈ z, 0 ≤ x ∧ x ≤ 255) (hl : z.length ≤ 20000) (m0 : Nat) (n1 : Int) (hm0 : m0 ≤ 9) (hzz : zerosF z 10 0 A = ((m0 : Int), n1, 0)) :
    Calls Tryd.prog 63 #[.agg #[.int .i64 (id : Int), .int .i64 (pl id : Int), .slice a1 (Nn id) c1, .slice a2 (Nn id) c2], .slice a0 z.length c0, .int .i64 A] w fun e w' => e = T3 (readF (ord id) (pl id) z A) ∧ Below w.heap.size w w' := by
  have HB := Lib.hid (al w (.cells #[.int .i64 (id : Int), .int .i64 (pl id : Int), .slice a1 (Nn id) c1, .slice a2 (Nn id) c2] 24))
  have HX := Lib.hid (fun x h => bx1 (w := w) (a := .int .i64 (id : Int)) (b := .int .i64 (pl id : Int)) (c := .slice a1 (Nn id) c1) (d := .slice a2 (Nn id) c2) (x := x) h)
  obtain ⟨k0, k1, k2, k3⟩ := HX.out _ (Below.refl _ _)
  have f6 : pl id ≤ 2 := (facts h1 h2).2.2.2.2.2.1
  have hA : ¬ (A < 0 ∨ (z.length : Int) < A) := fun hA => by
    have hg : getF z A 1 = (0, 0, 2) := by unfold getF; rw [if_pos hA]
    have hzf : (zerosF z 10 0 A).2.2 = 2 := by
      rw [show (10 : Nat) = 9 + 1 from rfl, zerosF, hg]; simp
    rw [hzz] at hzf
    simp at hzf
  have hA0 : ¬ A < 0 := by omega
  have hA1 : ¬ (z.length : Int) < A := by omega
  have HG : Hid (∀ B, Calls Tryd.prog 88 #[.slice a0 z.length c0, .int .i64 B, .int .i64 1] (w.alloc (.cells #[.int .i64 (id : Int), .int .i64 (pl id : Int), .slice a1 (Nn id) c1, .slice a2 (Nn id) c2] 24)) fun e w' => e = .returned (.tuple #[.int .i64 (getF z B 1).1, .int .i64 (getF z B 1).2.1, .int .i64 (getF z B 1).2.2]) ∧ (w.alloc (.cells #[.int .i64 (id : Int), .int .i64 (pl id : Int), .slice a1 (Nn id) c1, .slice a2 (Nn id) c2] 24)) = w') := Lib.hid fun B => rget_all _ z B 1 _ (hr.below HB.out) hz hl (by omega)
  have HF : Hid (∀ (f m : Nat) (B : Int), zerosF z (f + 1) m B = if (getF z B 1).2.2 ≠ 0 then (0, 0, (getF z B 1).2.2) else if (getF z B 1).1 = 1 then ((m : Int), (getF z B 1).2.1, 0) else zerosF z f (m + 1) (getF z B 1).2.1) := Lib.hid fun f m B => rfl
  have H0 : Hid (∀ m B, zerosF z 0 m B = (0, 0, 8)) := Lib.hid fun m B => rfl
  have HR0 := Lib.hid hzz
  have HG1 : Hid (Calls Tryd.prog 88 #[.slice a0 z.length c0, .int .i64 n1, .int .i64 (m0 : Int)] (w.alloc (.cells #[.int .i64 (id : Int), .int .i64 (pl id : Int), .slice a1 (Nn id) c1, .slice a2 (Nn id) c2] 24)) fun e w' => e = .returned (.tuple #[.int .i64 (getF z n1 m0).1, .int .i64 (getF z n1 m0).2.1, .int .i64 (getF z n1 m0).2.2]) ∧ (w.alloc (.cells #[.int .i64 (id : Int), .int .i64 (pl id : Int), .slice a1 (Nn id) c1, .slice a2 (Nn id) c2] 24)) = w') := Lib.hid (rget_all _ z n1 m0 _ (hr.below HB.out) hz hl (by omega))
  have hn1 := getF_num (z := z) (A := n1) (s := m0)
  obtain ⟨lo, n2, e2, hg1⟩ : ∃ lo n2 e2, getF z n1 m0 = (lo, n2, e2) := ⟨_, _, _, rfl⟩
  rw [hg1] at HG1 hn1
  by_cases he2 : e2 = 0
  · subst he2
    have HG2 : Hid (Calls Tryd.prog 88 #[.slice a0 z.length c0, .int .i64 n2, .int .i64 (pl id : Int)] (w.alloc (.cells #[.int .i64 (id : Int), .int .i64 (pl id : Int), .slice a1 (Nn id) c1, .slice a2 (Nn id) c2] 24)) fun e w' => e = .returned (.tuple #[.int .i64 (getF z n2 (pl id)).1, .int .i64 (getF z n2 (pl id)).2.1, .int .i64 (getF z n2 (pl id)).2.2]) ∧ (w.alloc (.cells #[.int .i64 (id : Int), .int .i64 (pl id : Int), .slice a1 (Nn id) c1, .slice a2 (Nn id) c2] 24)) = w') := Lib.hid (rget_all _ z n2 (pl id) _ (hr.below HB.out) hz hl (by omega))
    have hn2 := getF_num (z := z) (A := n2) (s := pl id)
    obtain ⟨p, n3, e3, hg2⟩ : ∃ p n3 e3, getF z n2 (pl id) = (p, n3, e3) := ⟨_, _, _, rfl⟩
    rw [hg2] at HG2 hn2
    by_cases he3 : e3 = 0
    · subst he3
      have hord := (ord_is h1 h2).length
      have hres : readF (ord id) (pl id) z A = if ((ord id).length : Int) ≤ (2 ^ m0 + lo - 1) * 2 ^ pl id + p then (0, 0, 8) else ((((ord id).getD ((2 ^ m0 + lo - 1) * 2 ^ pl id + p).toNat 0 : Nat) : Int), n3, 0) := by
        unfold readF; simp [hzz, hg1, hg2]
      rw [hres, hord]
      obtain ⟨l0, l1⟩ := hn1 rfl
      obtain ⟨p0, p1⟩ := hn2 rfl
      simp only at l0 l1 p0 p1
      have HT1 := Lib.hid (fun w => two_ok m0 w (by omega))
      have HT2 := Lib.hid (fun w => two_ok (pl id) w (by omega))
      have q1 := (pow_b (Nat.le_refl m0)).1
      have q2 := (pow_b (n := m0) (k := 9) (by omega)).2
      have q3 := (pow_b f6).1
      have q4 := (pow_b (k := 2) f6).2
      obtain ⟨P, hP⟩ : ∃ P : Int, (2 : Int) ^ m0 = P := ⟨_, rfl⟩
      obtain ⟨Q, hQ⟩ : ∃ Q : Int, (2 : Int) ^ pl id = Q := ⟨_, rfl⟩
      rw [hP] at HT1 l1 q1 q2 ⊢
      rw [hQ] at HT2 p1 q3 q4 ⊢
      have e9 : ((2 ^ 9 : Nat) : Int) = 512 := rfl
      have e22 : ((2 ^ 2 : Nat) : Int) = 4 := rfl
      rw [e9] at q2
      rw [e22] at q4
      have b0 : 0 ≤ (P + lo - 1) * Q := Int.mul_nonneg (by omega) (by omega)
      have b1 : (P + lo - 1) * Q ≤ 1023 * 4 := Int.mul_le_mul (by omega) (by omega) (by omega) (by decide)
      obtain ⟨M, hM⟩ : ∃ M, (P + lo - 1) * Q = M := ⟨_, rfl⟩
      rw [hM] at b0 b1 ⊢
      have x1 : IntKind.i64.wrap (P + lo) = P + lo := by rw [IntKind.wrap_i64]; omega
      have x2 : IntKind.i64.wrap (P + lo - 1) = P + lo - 1 := by rw [IntKind.wrap_i64]; omega
      have x3 : IntKind.i64.wrap ((P + lo - 1) * Q) = M := by rw [hM, IntKind.wrap_i64]; omega
      have x4 : IntKind.i64.wrap (M + p) = M + p := by rw [IntKind.wrap_i64]; omega
      have HE := Lib.hid hE
      clear hres hzz hg1 hg2 hn1 hn2 hE hr hA hP hQ hM e9 e22
      by_cases hge : ((Nn id : Nat) : Int) ≤ M + p
      · rw [if_pos hge]
        clear HE h1 h2 hord
        generalize hW0 : (w.alloc (.cells #[.int .i64 (id : Int), .int .i64 (pl id : Int), .slice a1 (Nn id) c1, .slice a2 (Nn id) c2] 24)) = W0 at *
        go_enter Tryd.func63, Tryd.ntmps63
        go_wp2
        go_loop [2, 9] (fun at_ zs => ∃ (m : Nat) (B : Int), m ≤ 10 ∧ zs = .int .i64 m ∧ at_ = .int .i64 B ∧ Hid (zerosF z (10 - m) m B = ((m0 : Int), n1, 0))) (fun _ zs => 10 - (intOf zs).toNat)
        case atStart => exact ⟨0, A, by omega, rfl, rfl, HR0⟩
        case round =>
          obtain ⟨m, B, hm, rfl, rfl, hF⟩ := hrel
          by_cases hlt : m ≤ 9
          · have hF2 := hF.out
            rw [show 10 - m = (10 - (m + 1)) + 1 by omega, HF.out] at hF2
            obtain ⟨bit, nx, er, hg⟩ : ∃ bit nx er, getF z B 1 = (bit, nx, er) := ⟨_, _, _, rfl⟩
            have HGB := Lib.hid (HG.out B)
            rw [hg] at hF2 HGB
            by_cases he : er = 0
            · subst he
              rw [if_neg (by simp)] at hF2
              by_cases hb : bit = 1
              · subst hb
                rw [if_pos rfl] at hF2
                simp only [Prod.mk.injEq] at hF2
                obtain ⟨e1, e2', _⟩ := hF2
                have e3' : m = m0 := by omega
                subst e3'
                subst e2'
                clear hF HG HF H0 hg HR0 e1
                have KP : Hid (∀ W, Below W0.heap.size W0 W → W.cell? ⟨w.heap.size, 1, none⟩ = some (.int .i64 (pl id : Int)) ∧ Below W0.heap.size W0 W) := Lib.hid fun W h => ⟨(HX.out W h).2.1, h⟩
                go_upto_region 18 with first
                  | (go_at_call 88; ((with_reducible refine (HGB.out).mono ?_); rintro e w1 ⟨rfl, rfl⟩))
                  | (go_at_call 88; ((with_reducible refine (HG1.out).mono ?_); rintro e w2 ⟨rfl, rfl⟩))
                  | (go_at_call 88; ((with_reducible refine (HG2.out).mono ?_); rintro e w3 ⟨rfl, rfl⟩))
                go_region_held3 (fun W => W.cell? ⟨w.heap.size, 1, none⟩ = some (.int .i64 (pl id : Int)) ∧ Below W0.heap.size W0 W) (first | with_reducible assumption | exact KP.out _ (by first | exact Below.refl _ _ | exact (Below.refl _ _).drew))
                  (first
                    | (go_at_call 85; ((with_reducible refine (HT1.out _).mono ?_); rintro e w5 ⟨rfl, rfl⟩))
                    | (go_at_call 85; ((with_reducible refine (HT2.out _).mono ?_); rintro e w6 ⟨rfl, rfl⟩)))
                all_goals
                  rename_i hS
                  obtain ⟨y0, y1, y2, y3⟩ := HX.out _ hS.2
                  have BF := Lib.hid (bT HB.out hS.2)
                  go_wp2
                  go_ret3
                  exact ⟨rfl, BF.out⟩
              · rw [if_neg hb] at hF2
                have HF2 := Lib.hid hF2
                have hbe : (bit == 1) = false := by simp [hb]
                clear hF2 hF HG HF H0 hg HR0
                go_wp2_with (go_at_call 88; ((with_reducible refine (HGB.out).mono ?_); rintro e w1 ⟨rfl, rfl⟩))
                go_round
                case rel => exact ⟨m + 1, nx, by omega, by go_num, rfl, HF2⟩
                case measure => simp [intOf]; omega
            · rw [if_pos he] at hF2
              exact absurd (congrArg (fun x => x.2.2) hF2) (by simpa using he)
          · have hend : m = 10 := by omega
            subst hend
            have hF2 := hF.out
            rw [Nat.sub_self, H0.out] at hF2
            simp at hF2
      · rw [if_neg hge]
        obtain ⟨r, hrk⟩ : ∃ r : Nat, M + p = (r : Int) := ⟨(M + p).toNat, by omega⟩
        rw [hrk] at hge ⊢
        have x5 : IntKind.i64.wrap (M + p) = (r : Int) := x4.trans hrk
        clear x4
        have hrn : r < Nn id := by omega
        obtain ⟨b, off, ea, hElt, ceA⟩ := HE.out r (by rw [zi_len, hord]; exact hrn)
        subst ea
        rw [zi_getD] at ceA
        rw [Int.toNat_natCast]
        generalize (ord id).getD r 0 = en at *
        have hr0 : (0 : Int) ≤ (r : Int) := Int.natCast_nonneg _
        have hrI : (r : Int) < ((Nn id : Nat) : Int) := by omega
        have KR : Hid (∀ W, Below w.heap.size w W → W.cell? ⟨b, off + r, none⟩ = some (.int .i64 en)) := Lib.hid fun W h => (h.cell (p := ⟨b, off + r, none⟩) hElt).trans ceA
        clear HE h1 h2 hord ceA hElt
        generalize hW0 : (w.alloc (.cells #[.int .i64 (id : Int), .int .i64 (pl id : Int), .slice (some ⟨b, off, none⟩) (Nn id) c1, .slice a2 (Nn id) c2] 24)) = W0 at *
        go_enter Tryd.func63, Tryd.ntmps63
        go_wp2
        go_loop [2, 9] (fun at_ zs => ∃ (m : Nat) (B : Int), m ≤ 10 ∧ zs = .int .i64 m ∧ at_ = .int .i64 B ∧ Hid (zerosF z (10 - m) m B = ((m0 : Int), n1, 0))) (fun _ zs => 10 - (intOf zs).toNat)
        case atStart => exact ⟨0, A, by omega, rfl, rfl, HR0⟩
        case round =>
          obtain ⟨m, B, hm, rfl, rfl, hF⟩ := hrel
          by_cases hlt : m ≤ 9
          · have hF2 := hF.out
            rw [show 10 - m = (10 - (m + 1)) + 1 by omega, HF.out] at hF2
            obtain ⟨bit, nx, er, hg⟩ : ∃ bit nx er, getF z B 1 = (bit, nx, er) := ⟨_, _, _, rfl⟩
            have HGB := Lib.hid (HG.out B)
            rw [hg] at hF2 HGB
            by_cases he : er = 0
            · subst he
              rw [if_neg (by simp)] at hF2
              by_cases hb : bit = 1
              · subst hb
                rw [if_pos rfl] at hF2
                simp only [Prod.mk.injEq] at hF2
                obtain ⟨e1, e2', _⟩ := hF2
                have e3' : m = m0 := by omega
                subst e3'
                subst e2'
                clear hF HG HF H0 hg HR0 e1
                have KP : Hid (∀ W, Below W0.heap.size W0 W → W.cell? ⟨w.heap.size, 1, none⟩ = some (.int .i64 (pl id : Int)) ∧ Below W0.heap.size W0 W) := Lib.hid fun W h => ⟨(HX.out W h).2.1, h⟩
                go_upto_region 18 with first
                  | (go_at_call 88; ((with_reducible refine (HGB.out).mono ?_); rintro e w1 ⟨rfl, rfl⟩))
                  | (go_at_call 88; ((with_reducible refine (HG1.out).mono ?_); rintro e w2 ⟨rfl, rfl⟩))
                  | (go_at_call 88; ((with_reducible refine (HG2.out).mono ?_); rintro e w3 ⟨rfl, rfl⟩))
                go_region_held3 (fun W => W.cell? ⟨w.heap.size, 1, none⟩ = some (.int .i64 (pl id : Int)) ∧ Below W0.heap.size W0 W) (first | with_reducible assumption | exact KP.out _ (by first | exact Below.refl _ _ | exact (Below.refl _ _).drew))
                  (first
                    | (go_at_call 85; ((with_reducible refine (HT1.out _).mono ?_); rintro e w5 ⟨rfl, rfl⟩))
                    | (go_at_call 85; ((with_reducible refine (HT2.out _).mono ?_); rintro e w6 ⟨rfl, rfl⟩)))
                all_goals
                  rename_i hS
                  obtain ⟨y0, y1, y2, y3⟩ := HX.out _ hS.2
                  have BF := Lib.hid (bT HB.out hS.2)
                  have y4 := KR.out _ BF.out
                  go_wp2
                  go_ret3
                  exact ⟨rfl, BF.out⟩
              · rw [if_neg hb] at hF2
                have HF2 := Lib.hid hF2
                have hbe : (bit == 1) = false := by simp [hb]
                clear hF2 hF HG HF H0 hg HR0
                go_wp2_with (go_at_call 88; ((with_reducible refine (HGB.out).mono ?_); rintro e w1 ⟨rfl, rfl⟩))
                go_round
                case rel => exact ⟨m + 1, nx, by omega, by go_num, rfl, HF2⟩
                case measure => simp [intOf]; omega
            · rw [if_pos he] at hF2
              exact absurd (congrArg (fun x => x.2.2) hF2) (by simpa using he)
          · have hend : m = 10 := by omega
            subst hend
            have hF2 := hF.out
            rw [Nat.sub_self, H0.out] at hF2
            simp at hF2
    · have hres : readF (ord id) (pl id) z A = (0, 0, e3) := by
        unfold readF; simp [hzz, hg1, hg2, he3]
      rw [hres]
      have hee3 : (e3 == 0) = false := by simp [he3]
      clear hres hzz hg1 hg2 hn1 hn2 hE hr hA h1 h2
      generalize hW0 : (w.alloc (.cells #[.int .i64 (id : Int), .int .i64 (pl id : Int), .slice a1 (Nn id) c1, .slice a2 (Nn id) c2] 24)) = W0 at *
      go_enter Tryd.func63, Tryd.ntmps63
      go_wp2
      go_loop [2, 9] (fun at_ zs => ∃ (m : Nat) (B : Int), m ≤ 10 ∧ zs = .int .i64 m ∧ at_ = .int .i64 B ∧ Hid (zerosF z (10 - m) m B = ((m0 : Int), n1, 0))) (fun _ zs => 10 - (intOf zs).toNat)
      case atStart => exact ⟨0, A, by omega, rfl, rfl, HR0⟩
      case round =>
        obtain ⟨m, B, hm, rfl, rfl, hF⟩ := hrel
        by_cases hlt : m ≤ 9
        · have hF2 := hF.out
          rw [show 10 - m = (10 - (m + 1)) + 1 by omega, HF.out] at hF2
          obtain ⟨bit, nx, er, hg⟩ : ∃ bit nx er, getF z B 1 = (bit, nx, er) := ⟨_, _, _, rfl⟩
          have HGB := Lib.hid (HG.out B)
          rw [hg] at hF2 HGB
          by_cases he : er = 0
          · subst he
            rw [if_neg (by simp)] at hF2
            by_cases hb : bit = 1
            · subst hb
              rw [if_pos rfl] at hF2
              simp only [Prod.mk.injEq] at hF2
              obtain ⟨e1, e2', _⟩ := hF2
              have e3' : m = m0 := by omega
              subst e3'
              subst e2'
              clear hF HG HF H0 hg HR0 e1
              go_wp2_with first
                | (go_at_call 88; ((with_reducible refine (HGB.out).mono ?_); rintro e w1 ⟨rfl, rfl⟩))
                | (go_at_call 88; ((with_reducible refine (HG1.out).mono ?_); rintro e w2 ⟨rfl, rfl⟩))
                | (go_at_call 88; ((with_reducible refine (HG2.out).mono ?_); rintro e w3 ⟨rfl, rfl⟩))
              go_ret3
              exact ⟨rfl, HB.out⟩
            · rw [if_neg hb] at hF2
              have HF2 := Lib.hid hF2
              have hbe : (bit == 1) = false := by simp [hb]
              clear hF2 hF HG HF H0 hg HR0
              go_wp2_with (go_at_call 88; ((with_reducible refine (HGB.out).mono ?_); rintro e w1 ⟨rfl, rfl⟩))
              go_round
              case rel => exact ⟨m + 1, nx, by omega, by go_num, rfl, HF2⟩
              case measure => simp [intOf]; omega
          · rw [if_pos he] at hF2
            exact absurd (congrArg (fun x => x.2.2) hF2) (by simpa using he)
        · have hend : m = 10 := by omega
          subst hend
          have hF2 := hF.out
          rw [Nat.sub_self, H0.out] at hF2
          simp at hF2
  · have hres : readF (ord id) (pl id) z A = (0, 0, e2) := by
      unfold readF; simp [hzz, hg1, he2]
    rw [hres]
    have hee2 : (e2 == 0) = false := by simp [he2]
    clear hres hzz hg1 hn1 hE hr hA h1 h2
    generalize hW0 : (w.alloc (.cells #[.int .i64 (id : Int), .int .i64 (pl id : Int), .slice a1 (Nn id) c1, .slice a2 (Nn id) c2] 24)) = W0 at *
    go_enter Tryd.func63, Tryd.ntmps63
    go_wp2
    go_loop [2, 9] (fun at_ zs => ∃ (m : Nat) (B : Int), m ≤ 10 ∧ zs = .int .i64 m ∧ at_ = .int .i64 B ∧ Hid (zerosF z (10 - m) m B = ((m0 : Int), n1, 0))) (fun _ zs => 10 - (intOf zs).toNat)
    case atStart => exact ⟨0, A, by omega, rfl, rfl, HR0⟩
    case round =>
      obtain ⟨m, B, hm, rfl, rfl, hF⟩ := hrel
      by_cases hlt : m ≤ 9
      · have hF2 := hF.out
        rw [show 10 - m = (10 - (m + 1)) + 1 by omega, HF.out] at hF2
        obtain ⟨bit, nx, er, hg⟩ : ∃ bit nx er, getF z B 1 = (bit, nx, er) := ⟨_, _, _, rfl⟩
        have HGB := Lib.hid (HG.out B)
        rw [hg] at hF2 HGB
        by_cases he : er = 0
        · subst he
          rw [if_neg (by simp)] at hF2
          by_cases hb : bit = 1
          · subst hb
            rw [if_pos rfl] at hF2
            simp only [Prod.mk.injEq] at hF2
            obtain ⟨e1, e2', _⟩ := hF2
            have e3' : m = m0 := by omega
            subst e3'
            subst e2'
            clear hF HG HF H0 hg HR0 e1
            go_wp2_with first
              | (go_at_call 88; ((with_reducible refine (HGB.out).mono ?_); rintro e w1 ⟨rfl, rfl⟩))
              | (go_at_call 88; ((with_reducible refine (HG1.out).mono ?_); rintro e w2 ⟨rfl, rfl⟩))
            go_ret3
            exact ⟨rfl, HB.out⟩
          · rw [if_neg hb] at hF2
            have HF2 := Lib.hid hF2
            have hbe : (bit == 1) = false := by simp [hb]
            clear hF2 hF HG HF H0 hg HR0
            go_wp2_with (go_at_call 88; ((with_reducible refine (HGB.out).mono ?_); rintro e w1 ⟨rfl, rfl⟩))
            go_round
            case rel => exact ⟨m + 1, nx, by omega, by go_num, rfl, HF2⟩
            case measure => simp [intOf]; omega
        · rw [if_pos he] at hF2
          exact absurd (congrArg (fun x => x.2.2) hF2) (by simpa using he)
      · have hend : m = 10 := by omega
        subst hend
        have hF2 := hF.out
        rw [Nat.sub_self, H0.out] at hF2
        simp at hF2
end Go.Proofs.YteklahfgplbmcaaDoor.BkRf

/- What is read by whatever book. -/
namespace Go.Proofs.YteklahfgplbmcaaDoor.BkRf
open Go Go.ChangeShapes Go.WideShapes Go.ChangeAt Go.RowKit Go.Proofs.YteklahfgplbmcaaDoor.Bk Go.Proofs.YteklahfgplbmcaaDoor.Bi Go.Proofs.YteklahfgplbmcaaDoor.Cr Go.Proofs.YteklahfgplbmcaaDoor.Fx

noncomputable def rdF (i p : Int) (A B : List Int) (z : List Int) (at' : Int) : Int × Int × Int := if IsBk i p A B then readF (ord i.toNat) (pl i.toNat) z at' else (0, 0, 8)
set_option maxRecDepth 100000 in
set_option maxHeartbeats 4000000 in
theorem pread_any (i p at' : Int) (a1 a2 : Option Addr) (c1 c2 : Nat) (A B : List Int) (v : Value) (z : List Int) (w : World) (hs : Sh w) (r1 : Rd w (.slice a1 A.length c1) A) (r2 : Rd w (.slice a2 B.length c2) B) (hv : R8 w v z) (hz : ∀ x ∈ z, 0 ≤ x ∧ x ≤ 255) (hl : z.length ≤ 20000) :
    Calls Tryd.prog 17 #[.agg #[.int .i64 i, .int .i64 p, .slice a1 A.length c1, .slice a2 B.length c2], v, .int .i64 at'] w fun e w' => e = T3 (rdF i p A B z at') ∧ Below w.heap.size w w' := by
  unfold rdF
  by_cases hk : IsBk i p A B
  · rw [if_pos hk]
    have hk2 := hk
    obtain ⟨id, rfl, h1, h2, rfl, hA, hB⟩ := hk
    obtain ⟨lA, lB, _⟩ := isbk_len hk2
    have HM := fun x (h : Below w.heap.size w x) (hs : Sh x) => gen_any id (pl id) a1 a2 c1 c2 A B x hs (rd_RdA (r1.below h)) (rd_RdA (r2.below h))
    rw [decide_eq_true hk2, lA, lB] at HM
    rw [Int.toNat_natCast]
    have hE : RdA w a1 (zi (ord id)) := hA ▸ rd_RdA r1
    rw [lA, lB]
    exact pread_ok id a1 a2 c1 c2 v z at' w h1 h2 hs hE HM hv hz hl
  · rw [if_neg hk]
    have hb := al w (.cells #[.int .i64 i, .int .i64 p, .slice a1 A.length c1, .slice a2 B.length c2] 24)
    have HB := Lib.hid hb
    have hsA := Lib.hid (hs.below hb)
    have HM := Lib.hid (fun x (h : Below w.heap.size w x) (hs : Sh x) => gen_any i p a1 a2 c1 c2 A B x hs (rd_RdA (r1.below h)) (rd_RdA (r2.below h)))
    rw [decide_eq_false hk] at HM
    obtain ⟨p0, p1, p2, p3⟩ := bx1 (w := w) (a := .int .i64 i) (b := .int .i64 p) (c := .slice a1 A.length c1) (d := .slice a2 B.length c2) (Below.refl _ _)
    clear hk r1 r2 hs hb hv hz hl
    go_enter Tryd.func17, Tryd.ntmps17
    go_wp2_with (go_at_call 49; ((with_reducible refine (HM.out _ HB.out hsA.out).mono ?_); rintro e w1 ⟨rfl, hb1⟩; have hb2 := Lib.hid (bT HB.out hb1); clear hb1))
    go_ret3
    exact ⟨rfl, hb2.out⟩
theorem rfound_any (id : Nat) (a1 a2 : Option Addr) (c1 c2 : Nat) (a0 : Option Addr) (c0 : Nat) (z : List Int) (A : Int) (w : World) (h1 : 1 ≤ id) (h2 : id ≤ 12) (hE : RdA w a1 (zi (ord id)))
    (hr : R8 w (.slice a0 z.length c0) z) (hz : ∀ x ∈ z, 0 ≤ x ∧ x ≤ 255) (hl : z.length ≤ 20000) :
    Calls Tryd.prog 63 #[.agg #[.int .i64 (id : Int), .int .i64 (pl id : Int), .slice a1 (Nn id) c1, .slice a2 (Nn id) c2], .slice a0 z.length c0, .int .i64 A] w fun e w' => e = T3 (readF (ord id) (pl id) z A) ∧ Below w.heap.size w w' := by
  by_cases hb : (zerosF z 10 0 A).2.2 = 0
  · obtain ⟨j, hj, hj2⟩ := zeros_le hb
    refine rfound_good id a1 a2 c1 c2 a0 c0 z A w h1 h2 hE hr hz hl j (zerosF z 10 0 A).2.1 (by omega) ?_
    rw [← hj, ← hb]
  · have hres : readF (ord id) (pl id) z A = (0, 0, (zerosF z 10 0 A).2.2) := by
      unfold readF; simp [hb]
    rw [hres]
    exact rfound_bad id a1 a2 c1 c2 a0 c0 z A w hr hz hl hb
set_option maxRecDepth 100000 in
set_option maxHeartbeats 4000000 in
theorem rread_any (i p at' : Int) (a1 a2 : Option Addr) (c1 c2 : Nat) (A B : List Int) (a0 : Option Addr) (c0 : Nat) (z : List Int) (w : World) (hA : A.length ≤ maxLen) (hB : B.length ≤ maxLen) (r1 : Rd w (.slice a1 A.length c1) A) (r2 : Rd w (.slice a2 B.length c2) B) (hv : R8 w (.slice a0 z.length c0) z) (hz : ∀ x ∈ z, 0 ≤ x ∧ x ≤ 255) (hl : z.length ≤ 20000) :
    Calls Tryd.prog 28 #[.agg #[.int .i64 i, .int .i64 p, .slice a1 A.length c1, .slice a2 B.length c2], .slice a0 z.length c0, .int .i64 at'] w fun e w' => e = T3 (rdF i p A B z at') ∧ Below w.heap.size w w' := by
  have HB := Lib.hid (al w (.cells #[.int .i64 i, .int .i64 p, .slice a1 A.length c1, .slice a2 B.length c2] 24))
  have HM := Lib.hid (fun x (h : Below w.heap.size w x) => may_any i p (.slice a1 A.length c1) (.slice a2 B.length c2) A B x hA hB (r1.below h) (r2.below h))
  have HX := Lib.hid (fun x h => bx1 (w := w) (a := .int .i64 i) (b := .int .i64 p) (c := .slice a1 A.length c1) (d := .slice a2 B.length c2) (x := x) h)
  obtain ⟨p0, p1, p2, p3⟩ := HX.out _ (Below.refl _ _)
  unfold rdF
  by_cases hk : IsBk i p A B
  · rw [if_pos hk]
    rw [decide_eq_true hk] at HM
    have H63 : Hid (∀ x, Below w.heap.size w x → Calls Tryd.prog 63 #[.agg #[.int .i64 i, .int .i64 p, .slice a1 A.length c1, .slice a2 B.length c2], .slice a0 z.length c0, .int .i64 at'] x fun e w' => e = T3 (readF (ord i.toNat) (pl i.toNat) z at') ∧ Below x.heap.size x w') := Lib.hid fun x h => by
      obtain ⟨lA, lB, _⟩ : A.length = Nn i.toNat ∧ B.length = Nn i.toNat ∧ True := by
        obtain ⟨id, rfl, h1, h2, rfl, rfl, rfl⟩ := hk
        rw [Int.toNat_natCast]
        exact ⟨by rw [zi_len, ord_len h1 h2], rkL_len id, trivial⟩
      have hE := rd_RdA (r1.below h)
      rw [lA, lB]
      obtain ⟨id, rfl, h1, h2, rfl, rfl, rfl⟩ := hk
      rw [Int.toNat_natCast]
      exact rfound_any id a1 a2 c1 c2 a0 c0 z at' x h1 h2 hE (hv.below h) hz hl
    obtain ⟨y, hy⟩ : ∃ y, readF (ord i.toNat) (pl i.toNat) z at' = y := ⟨_, rfl⟩
    rw [hy] at H63 ⊢
    obtain ⟨y1, y2, y3⟩ := y
    clear hk r1 r2 hv hz hl hA hB hy
    go_enter Tryd.func28, Tryd.ntmps28
    go_wp2_with first
      | (go_at_call 61; ((with_reducible refine (HM.out _ HB.out).mono ?_); rintro e w1 ⟨rfl, hb1⟩; have hb2 := Lib.hid (bT HB.out hb1); clear p0 p1 p2 p3; obtain ⟨p0, p1, p2, p3⟩ := HX.out w1 hb1; clear hb1))
      | (go_at_call 63; ((with_reducible refine (H63.out _ hb2.out).mono ?_); rintro e w2 ⟨rfl, hb3⟩; simp only [T3]; have hb4 := Lib.hid (bT hb2.out hb3); clear hb3))
    go_ret3
    exact ⟨rfl, hb4.out⟩
  · rw [if_neg hk]
    rw [decide_eq_false hk] at HM
    clear hk r1 r2 hv hz hl hA hB
    go_enter Tryd.func28, Tryd.ntmps28
    go_wp2_with (go_at_call 61; ((with_reducible refine (HM.out _ HB.out).mono ?_); rintro e w1 ⟨rfl, hb1⟩; have hb2 := Lib.hid (bT HB.out hb1); clear hb1))
    go_ret3
    exact ⟨rfl, hb2.out⟩
end Go.Proofs.YteklahfgplbmcaaDoor.BkRf

/- What values are put as by a book, and how they are got, plain. -/
namespace Go.Proofs.YteklahfgplbmcaaDoor.Hf
open Go.Proofs.YteklahfgplbmcaaDoor.Bk Go.Proofs.YteklahfgplbmcaaDoor.Bi Go.Proofs.YteklahfgplbmcaaDoor.Cr

def lim (id : Nat) : Int := [0,1,1,2,2,4,4,7,7,12,12,8191].getD id 0
def sgd (i : Int) : Bool := i == 1 || i == 2 || i == 5 || i == 6
def sg1 (v : Int) : List Int := if v < 0 then [1] else if 0 < v then [0] else []
def sgn (zs : List Int) : List Int := zs.flatMap sg1
def es1 (v : Int) : List Int := if v.natAbs < 16 then [] else List.replicate (dg v.natAbs - 1 - 4) 1 ++ 0 :: bi ((v.natAbs - 2 ^ (dg v.natAbs - 1) : Nat) : Int) (dg v.natAbs - 1)
def esc (zs : List Int) : List Int := zs.flatMap es1
def sz1 (i : Int) (v : Int) : Int := if i = 11 then ((min v.natAbs 16 : Nat) : Int) else (v.natAbs : Int)
def tld (i : Int) (zs : List Int) : List Int := if sgd i then zs else zs.map (sz1 i)
def fitB (i : Int) (zs : List Int) : Bool := zs.all fun v => decide (-lim i.toNat ≤ v) && decide (v ≤ lim i.toNat)
def eX (i : Int) (zs : List Int) : Int := if i < 1 ∨ 11 < i then 2 else if zs.length ≠ dm i.toNat then 4 else if fitB i zs then 0 else 2
theorem eX_ok {i : Int} {zs : List Int} (h : eX i zs = 0) : ∃ id : Nat, i = id ∧ 1 ≤ id ∧ id ≤ 11 ∧ zs.length = dm id ∧ ∀ v ∈ zs, -lim id ≤ v ∧ v ≤ lim id := by
  unfold eX at h
  by_cases h1 : i < 1 ∨ 11 < i
  · rw [if_pos h1] at h; simp at h
  rw [if_neg h1] at h
  by_cases h2 : zs.length = dm i.toNat
  case neg => rw [if_pos h2] at h; simp at h
  rw [if_neg (by simp [h2])] at h
  by_cases h3 : fitB i zs = true
  case neg => rw [if_neg h3] at h; simp at h
  refine ⟨i.toNat, by omega, by omega, by omega, h2, fun v hv => ?_⟩
  have := List.all_eq_true.1 h3 v hv
  simp at this
  exact this
theorem eX_is {id : Nat} {zs : List Int} (h1 : 1 ≤ id) (h2 : id ≤ 11) (hl : zs.length = dm id) (hb : ∀ v ∈ zs, -lim id ≤ v ∧ v ≤ lim id) : eX id zs = 0 := by
  unfold eX
  rw [if_neg (by omega), if_neg (by simp [hl]), if_pos]
  exact List.all_eq_true.2 fun v hv => by have := hb v hv; simp; exact this
theorem lims {id : Nat} (h1 : 1 ≤ id) (h2 : id ≤ 11) : 0 ≤ lim id ∧ lim id ≤ 8191 ∧ (sgd id = true → lw id = -lim id ∧ hg id = lim id ∧ lim id ≤ 4) ∧ (sgd id = false → lw id = 0 ∧ (id ≠ 11 → hg id = lim id ∧ lim id ≤ 12) ∧ (id = 11 → hg id = 16 ∧ lim id = 8191)) := by
  have : id = 1 ∨ id = 2 ∨ id = 3 ∨ id = 4 ∨ id = 5 ∨ id = 6 ∨ id = 7 ∨ id = 8 ∨ id = 9 ∨ id = 10 ∨ id = 11 := by omega
  rcases this with rfl | rfl | rfl | rfl | rfl | rfl | rfl | rfl | rfl | rfl | rfl <;> decide
theorem tld_len (i : Int) (zs : List Int) : (tld i zs).length = zs.length := by unfold tld; split <;> simp
/-- Reading on behind an error. -/
def rd1 (z : List Int) (A E : Int) (s : Nat) : Int × Int × Int := if E = 0 then getF z A s else (0, A, E)
def gS (z : List Int) : List Int → Int → Int → List Int × Int × Int
  | [], A, E => ([], A, E)
  | v :: l, A, E => if v = 0 then (v :: (gS z l A E).1, (gS z l A E).2) else ((if (rd1 z A E 1).1 = 1 then -v else v) :: (gS z l (rd1 z A E 1).2.1 (rd1 z A E 1).2.2).1, (gS z l (rd1 z A E 1).2.1 (rd1 z A E 1).2.2).2)
def gO (z : List Int) : Nat → Nat → Int → Int → Int × Int × Int
  | 0, _, A, _ => (0, A, 8)
  | f + 1, k, A, E => if (rd1 z A E 1).1 = 1 then gO z f (k + 1) (rd1 z A E 1).2.1 (rd1 z A E 1).2.2 else (2 ^ (k + 4) + (rd1 z (rd1 z A E 1).2.1 (rd1 z A E 1).2.2 (k + 4)).1, (rd1 z (rd1 z A E 1).2.1 (rd1 z A E 1).2.2 (k + 4)).2)
def gX (z : List Int) : List Int → Int → Int → List Int × Int × Int
  | [], A, E => ([], A, E)
  | v :: l, A, E => if v = 16 then ((gO z 9 0 A E).1 :: (gX z l (gO z 9 0 A E).2.1 (gO z 9 0 A E).2.2).1, (gX z l (gO z 9 0 A E).2.1 (gO z 9 0 A E).2.2).2)
    else if v = -16 then (-(gO z 9 0 A E).1 :: (gX z l (gO z 9 0 A E).2.1 (gO z 9 0 A E).2.2).1, (gX z l (gO z 9 0 A E).2.1 (gO z 9 0 A E).2.2).2)
    else (v :: (gX z l A E).1, (gX z l A E).2)

theorem rd1_run {z rest : List Int} {a s : Nat} {n : Int} (h : z.drop a = bi n s ++ rest) (hs : 1 ≤ s) (n0 : 0 ≤ n) (n1 : n < 2 ^ s) : rd1 z a 0 s = (n, ((a + s : Nat) : Int), 0) ∧ z.drop (a + s) = rest := by
  have hlen := congrArg List.length h
  simp [bi_len] at hlen
  have e : (z.drop a).take s = bi n s := by rw [h]; exact List.take_left' (bi_len _ _)
  constructor
  · unfold rd1
    rw [if_pos rfl, getF_of (by omega) (by rw [e]; exact bi_bits _ _), e, num_bi s n n0 n1]
  · rw [← List.drop_drop, h]; exact List.drop_left' (bi_len _ _)
theorem rd1_good {z : List Int} {a : Nat} {E : Int} {s : Nat} (h : (rd1 z a E s).2.2 = 0) : E = 0 ∧ ∃ n : Int, rd1 z a E s = (n, ((a + s : Nat) : Int), 0) ∧ a + s ≤ z.length ∧ z.drop a = bi n s ++ z.drop (a + s) ∧ 0 ≤ n ∧ n < 2 ^ s := by
  unfold rd1 at h ⊢
  by_cases c : E = 0
  · rw [if_pos c] at h ⊢
    obtain ⟨a', ha, hl, hb, hg⟩ := getF_ok h
    obtain rfl : a' = a := by omega
    have ly := drop_take_len hl
    have hn := num_bd s _ ly hb
    refine ⟨c, _, hg, hl, ?_, hn.1, hn.2⟩
    rw [bi_num s _ ly hb, ← List.drop_drop]
    exact (List.take_append_drop s _).symm
  · rw [if_neg c] at h; exact absurd h c
theorem rd1_err {z : List Int} {A E : Int} {s : Nat} (h : E ≠ 0) : rd1 z A E s = (0, A, E) := by unfold rd1; rw [if_neg h]
theorem rd1_bd (z : List Int) (A E : Int) (s : Nat) : 0 ≤ (rd1 z A E s).1 ∧ (rd1 z A E s).1 < 2 ^ s := by
  have hp : (0 : Int) < 2 ^ s := Int.pow_pos (by decide)
  unfold rd1
  split
  · by_cases h : (getF z A s).2.2 = 0
    · obtain ⟨a, rfl, hl, hb, hg⟩ := getF_ok h
      rw [hg]
      exact num_bd s _ (drop_take_len hl) hb
    · rw [getF_bad h]; exact ⟨Int.le_refl _, hp⟩
  · exact ⟨Int.le_refl _, hp⟩
theorem gS_err (z : List Int) : ∀ (l : List Int) (A E : Int), E ≠ 0 → (gS z l A E).2.2 = E
  | [], _, _, _ => rfl
  | v :: l, A, E, h => by
    unfold gS
    split
    · exact gS_err z l A E h
    · rw [rd1_err h]; exact gS_err z l A E h
theorem gO_err (z : List Int) (f k : Nat) (A E : Int) (h : E ≠ 0) : (gO z (f + 1) k A E).2.2 = E := by
  unfold gO
  rw [rd1_err h]
  simp only [show ¬ ((0 : Int) = 1) by decide, if_false]
  rw [rd1_err h]
theorem gX_err (z : List Int) : ∀ (l : List Int) (A E : Int), E ≠ 0 → (gX z l A E).2.2 = E
  | [], _, _, _ => rfl
  | v :: l, A, E, h => by
    have h9 := gO_err z 8 0 A E h
    unfold gX
    split
    · show (gX z l _ (gO z 9 0 A E).2.2).2.2 = E
      rw [h9]; exact gX_err z l _ E h
    · split
      · show (gX z l _ (gO z 9 0 A E).2.2).2.2 = E
        rw [h9]; exact gX_err z l _ E h
      · exact gX_err z l A E h
theorem bi1 {n : Int} (h0 : 0 ≤ n) (h1 : n < 2) : bi n 1 = [n] := by simp [bi]; omega
theorem gS_run (z : List Int) (i : Int) : ∀ (zs : List Int) (a : Nat) (rest : List Int), z.drop a = sgn zs ++ rest →
    gS z (zs.map (sz1 i)) a 0 = (zs.map (fun v => if v < 0 then -sz1 i v else sz1 i v), ((a + (sgn zs).length : Nat) : Int), 0) ∧ z.drop (a + (sgn zs).length) = rest
  | [], a, rest, h => by
    simp [sgn] at h
    simp [gS, sgn, h]
  | v :: l, a, rest, h => by
    have hs : sgn (v :: l) = sg1 v ++ sgn l := by simp [sgn]
    rw [hs] at h ⊢
    have hz : sz1 i v = 0 ↔ v = 0 := by unfold sz1; split <;> omega
    simp only [List.map_cons]
    unfold gS
    by_cases h0 : v = 0
    · subst h0
      rw [if_pos (hz.2 rfl)]
      have e : sg1 0 = [] := rfl
      rw [e] at h ⊢
      obtain ⟨r1, r2⟩ := gS_run z i l a rest h
      rw [r1]
      refine ⟨by simp [hz.2 rfl], by simpa using r2⟩
    · rw [if_neg (fun c => h0 (hz.1 c))]
      by_cases hn : v < 0
      · have e : sg1 v = [1] := by unfold sg1; rw [if_pos hn]
        rw [e] at h ⊢
        obtain ⟨q1, q2⟩ := rd1_run (n := 1) (s := 1) (rest := sgn l ++ rest) (by rw [h]; simp [bi]) (by decide) (by decide) (by decide)
        rw [q1]
        obtain ⟨r1, r2⟩ := gS_run z i l (a + 1) rest q2
        dsimp only
        rw [r1, if_pos rfl, if_pos hn]
        refine ⟨?_, by rw [← r2]; congr 1; simp; omega⟩
        simp; omega
      · have e : sg1 v = [0] := by unfold sg1; rw [if_neg hn, if_pos (by omega)]
        rw [e] at h ⊢
        obtain ⟨q1, q2⟩ := rd1_run (n := 0) (s := 1) (rest := sgn l ++ rest) (by rw [h]; simp [bi]) (by decide) (by decide) (by decide)
        rw [q1]
        obtain ⟨r1, r2⟩ := gS_run z i l (a + 1) rest q2
        dsimp only
        rw [r1, if_neg (by decide), if_neg hn]
        refine ⟨?_, by rw [← r2]; congr 1; simp; omega⟩
        simp; omega
theorem gO_run {z : List Int} {m : Int} {rest : List Int} : ∀ (j f k a : Nat), j < f → z.drop a = List.replicate j 1 ++ 0 :: (bi m (k + j + 4) ++ rest) → 0 ≤ m → m < 2 ^ (k + j + 4) →
    gO z f k a 0 = (2 ^ (k + j + 4) + m, ((a + j + 1 + (k + j + 4) : Nat) : Int), 0) ∧ z.drop (a + j + 1 + (k + j + 4)) = rest
  | _, 0, _, _, h, _, _, _ => absurd h (by omega)
  | 0, f + 1, k, a, _, h, m0, m1 => by
    obtain ⟨q1, q2⟩ := rd1_run (n := 0) (s := 1) (rest := bi m (k + 0 + 4) ++ rest) (by rw [h]; simp [bi]) (by decide) (by decide) (by decide)
    obtain ⟨r1, r2⟩ := rd1_run (n := m) (s := k + 4) (rest := rest) q2 (by omega) m0 m1
    unfold gO
    rw [q1]
    simp only [show ¬ ((0 : Int) = 1) by decide, if_false]
    rw [r1]
    exact ⟨rfl, r2⟩
  | j + 1, f + 1, k, a, hj, h, m0, m1 => by
    obtain ⟨q1, q2⟩ := rd1_run (n := 1) (s := 1) (rest := List.replicate j 1 ++ 0 :: (bi m (k + (j + 1) + 4) ++ rest)) (by rw [h, List.replicate_succ]; simp [bi]) (by decide) (by decide) (by decide)
    have e : k + (j + 1) + 4 = k + 1 + j + 4 := by omega
    rw [e] at q2 m1 ⊢
    obtain ⟨r1, r2⟩ := gO_run j f (k + 1) (a + 1) (by omega) q2 m0 m1
    have e2 : a + (j + 1) + 1 + (k + 1 + j + 4) = a + 1 + j + 1 + (k + 1 + j + 4) := by omega
    rw [e2]
    refine ⟨?_, r2⟩
    unfold gO
    rw [q1, if_pos rfl]
    exact r1
theorem dg16 {n : Nat} (h : 16 ≤ n) (h2 : n ≤ 8191) : 5 ≤ dg n ∧ dg n ≤ 13 ∧ 2 ^ (dg n - 1) ≤ n ∧ n < 2 ^ dg n := by
  obtain ⟨a, b, c⟩ := dg_bd n n Nat.lt_two_pow_self (by omega)
  refine ⟨?_, dg_le (by omega) (by omega), b, c⟩
  have := dg_mono (a := 16) (b := n) (by omega) h
  have e : dg 16 = 5 := dg_uniq (by decide) (by decide) (by decide) (by decide)
  omega
theorem gX_run (z : List Int) : ∀ (zs : List Int) (a : Nat) (rest : List Int), (∀ v ∈ zs, -8191 ≤ v ∧ v ≤ 8191) → z.drop a = esc zs ++ rest →
    gX z (zs.map (fun v => if v < 0 then -sz1 11 v else sz1 11 v)) a 0 = (zs, ((a + (esc zs).length : Nat) : Int), 0) ∧ z.drop (a + (esc zs).length) = rest
  | [], a, rest, _, h => by
    simp [esc] at h
    simp [gX, esc, h]
  | v :: l, a, rest, hb, h => by
    have hs : esc (v :: l) = es1 v ++ esc l := by simp [esc]
    have hbl : ∀ u ∈ l, -8191 ≤ u ∧ u ≤ 8191 := fun u hu => hb u (by simp [hu])
    have hv := hb v (by simp)
    rw [hs] at h ⊢
    simp only [List.map_cons]
    unfold gX
    have hsz : sz1 11 v = ((min v.natAbs 16 : Nat) : Int) := by unfold sz1; rw [if_pos rfl]
    by_cases h16 : v.natAbs < 16
    · have e : es1 v = [] := by unfold es1; rw [if_pos h16]
      rw [e] at h ⊢
      have ev : (if v < 0 then -sz1 11 v else sz1 11 v) = v := by rw [hsz]; split <;> omega
      rw [ev, if_neg (by omega), if_neg (by omega)]
      obtain ⟨r1, r2⟩ := gX_run z l a rest hbl h
      rw [r1]
      exact ⟨rfl, r2⟩
    · obtain ⟨d1, d2, d3, d4⟩ := dg16 (n := v.natAbs) (by omega) (by omega)
      obtain ⟨j, hj⟩ : ∃ j, dg v.natAbs = j + 5 := ⟨dg v.natAbs - 5, by omega⟩
      obtain ⟨m, hm⟩ : ∃ m : Nat, v.natAbs - 2 ^ (j + 4) = m := ⟨_, rfl⟩
      rw [hj] at d3 d4
      rw [show j + 5 - 1 = j + 4 by omega] at d3
      rw [show j + 5 = (j + 4) + 1 by omega, Nat.pow_succ] at d4
      have e : es1 v = List.replicate j 1 ++ 0 :: bi (m : Int) (j + 4) := by
        unfold es1; rw [if_neg h16, hj, show j + 5 - 1 = j + 4 by omega, show j + 4 - 4 = j by omega, hm]
      have hm2 : m < 2 ^ (j + 4) := by omega
      have hz : z.drop a = List.replicate j 1 ++ 0 :: (bi (m : Int) (0 + j + 4) ++ (esc l ++ rest)) := by rw [h, e]; simp
      obtain ⟨q1, q2⟩ := gO_run (z := z) j 9 0 a (by omega) hz (by omega) (by rw [show 0 + j + 4 = j + 4 by omega]; exact_mod_cast hm2)
      rw [show 0 + j + 4 = j + 4 by omega] at q1 q2
      have el : (es1 v).length = j + 1 + (j + 4) := by rw [e]; simp [bi_len]; omega
      obtain ⟨r1, r2⟩ := gX_run z l (a + j + 1 + (j + 4)) rest hbl q2
      have ea : a + (es1 v ++ esc l).length = a + j + 1 + (j + 4) + (esc l).length := by rw [List.length_append, el]; omega
      rw [ea]
      refine ⟨?_, r2⟩
      have hval : (2 : Int) ^ (j + 4) + (m : Int) = v.natAbs := by
        have : (2 : Nat) ^ (j + 4) + m = v.natAbs := by omega
        exact_mod_cast this
      rw [hval] at q1
      by_cases hn : v < 0
      · rw [if_pos hn, hsz, show ((min v.natAbs 16 : Nat) : Int) = 16 by omega, if_neg (by decide), if_pos rfl, q1]
        dsimp only
        rw [r1]
        rw [show -((v.natAbs : Nat) : Int) = v by omega]
      · rw [if_neg hn, hsz, show ((min v.natAbs 16 : Nat) : Int) = 16 by omega, if_pos rfl, q1]
        dsimp only
        rw [r1]
        rw [show ((v.natAbs : Nat) : Int) = v by omega]
end Go.Proofs.YteklahfgplbmcaaDoor.Hf

/- The entry that stands for some values. -/
namespace Go.Proofs.YteklahfgplbmcaaDoor.Hf
open Go.Proofs.YteklahfgplbmcaaDoor.Bk Go.Proofs.YteklahfgplbmcaaDoor.Bi Go.Proofs.YteklahfgplbmcaaDoor.Cr Go.Proofs.YteklahfgplbmcaaDoor.BkEn
noncomputable def eE (i : Int) (zs : List Int) : Int := if eX i zs = 0 then entI i.toNat (tld i zs) else 0
theorem tld_in {id : Nat} {zs : List Int} (h1 : 1 ≤ id) (h2 : id ≤ 11) (hb : ∀ v ∈ zs, -lim id ≤ v ∧ v ≤ lim id) : (tld id zs).all (inR id) = true := by
  obtain ⟨l0, l1, l2, l3⟩ := lims h1 h2
  refine List.all_eq_true.2 fun v hv => ?_
  unfold tld at hv
  unfold inR
  cases hs : sgd (id : Int)
  · rw [hs] at hv
    simp only [Bool.false_eq_true, if_false] at hv
    obtain ⟨u, hu, rfl⟩ := List.mem_map.1 hv
    have := hb u hu
    obtain ⟨e1, e2, e3⟩ := l3 hs
    unfold sz1
    by_cases h11 : (id : Int) = 11
    · obtain ⟨e4, e5⟩ := e3 (by omega)
      rw [if_pos h11, e1, e4]; simp; omega
    · obtain ⟨e4, e5⟩ := e2 (by omega)
      rw [if_neg h11, e1, e4]; simp; omega
  · rw [hs] at hv
    simp only [if_true] at hv
    have := hb v hv
    obtain ⟨e1, e2, e3⟩ := l2 hs
    rw [e1, e2]; simp; omega
theorem eE_ok {i : Int} {zs : List Int} (h : eX i zs = 0) : ∃ id n : Nat, i = id ∧ 1 ≤ id ∧ id ≤ 11 ∧ zs.length = dm id ∧ (∀ v ∈ zs, -lim id ≤ v ∧ v ≤ lim id) ∧ eE i zs = n ∧ n < Nn id ∧ vals (bs id) (lw id) (dm id) n = tld i zs ∧ entX id (tld i zs) = 0 ∧ entI id (tld i zs) = n := by
  obtain ⟨id, rfl, h1, h2, hl, hb⟩ := eX_ok h
  have hx : entX id (tld id zs) = 0 := by
    unfold entX
    rw [if_pos (by rw [tld_len, hl]), if_pos (tld_in h1 h2 hb)]
  obtain ⟨n, hn, hn2, hn3⟩ := ent_yes h1 (by omega) hx
  refine ⟨id, n, rfl, h1, h2, hl, hb, ?_, hn2, hn3, hx, hn⟩
  unfold eE
  rw [if_pos h]
  exact hn
/-- What Put answers. -/
noncomputable def vL (B : List Int) (i p : Int) (zs : List Int) : List Int := cd p.toNat (B.getD (eE i zs).toNat 0).toNat ++ ((if sgd i then [] else sgn zs) ++ (if i = 11 then esc zs else []))

end Go.Proofs.YteklahfgplbmcaaDoor.Hf

/- Sizes, signs, how many values, and whether values fit. -/
namespace Go.Proofs.YteklahfgplbmcaaDoor.Hf
open Go Go.ChangeShapes Go.WideShapes Go.ChangeAt Go.RowKit Go.Proofs.YteklahfgplbmcaaDoor.Bk Go.Proofs.YteklahfgplbmcaaDoor.Bi Go.Proofs.YteklahfgplbmcaaDoor.Cr Go.Proofs.YteklahfgplbmcaaDoor.Fx

theorem size_v (v : Int) (w : World) (h0 : -9223372036854775807 ≤ v) (h1 : v ≤ 9223372036854775807) : Calls Tryd.prog 108 #[.int .i64 v] w fun e w' => e = .returned (.int .i64 (v.natAbs : Nat)) ∧ w = w' := by
  have hw : IntKind.i64.wrap (-v) = -v := by rw [IntKind.wrap_i64]; omega
  have hm : max v (-v) = ((v.natAbs : Nat) : Int) := by omega
  have HM := Lib.hid hm
  clear hm
  go_enter Tryd.func108, Tryd.ntmps108
  go_wp2
  go_ret
  exact ⟨by rw [← HM.out]; rfl, rfl⟩
theorem signed_ok (i : Int) (w : World) : Calls Tryd.prog 70 #[.int .i64 i] w fun e w' => e = .returned (.bool (sgd i)) ∧ w = w' := by
  by_cases h1 : i = 1
  · subst h1
    go_enter Tryd.func70, Tryd.ntmps70
    go_wp2
    go_ret
    exact ⟨rfl, rfl⟩
  by_cases h2 : i = 2
  · subst h2
    go_enter Tryd.func70, Tryd.ntmps70
    go_wp2
    go_ret
    exact ⟨rfl, rfl⟩
  by_cases h5 : i = 5
  · subst h5
    go_enter Tryd.func70, Tryd.ntmps70
    go_wp2
    go_ret
    exact ⟨rfl, rfl⟩
  by_cases h6 : i = 6
  · subst h6
    go_enter Tryd.func70, Tryd.ntmps70
    go_wp2
    go_ret
    exact ⟨rfl, rfl⟩
  have e : sgd i = false := by unfold sgd; simp [h1, h2, h5, h6]
  rw [e]
  have b1 : (i == 1) = false := by simp [h1]
  have b2 : (i == 2) = false := by simp [h2]
  have b5 : (i == 5) = false := by simp [h5]
  have b6 : (i == 6) = false := by simp [h6]
  clear e
  go_enter Tryd.func70, Tryd.ntmps70
  go_wp2
  go_ret
  exact ⟨rfl, rfl⟩
theorem dim_v (id : Nat) (w : World) (h1 : 1 ≤ id) (h2 : id ≤ 11) : Calls Tryd.prog 74 #[.int .i64 id] w fun e w' => e = .returned (.int .i64 (dm id : Nat)) ∧ w = w' := by
  by_cases h : id ≤ 4
  · have e : dm id = 4 := by
      have : id = 1 ∨ id = 2 ∨ id = 3 ∨ id = 4 := by omega
      rcases this with rfl | rfl | rfl | rfl <;> rfl
    rw [e]
    have hi : (id : Int) ≤ 4 := by omega
    clear e
    go_enter Tryd.func74, Tryd.ntmps74
    go_wp2
    go_ret
    exact ⟨rfl, rfl⟩
  · have e : dm id = 2 := by
      have : id = 5 ∨ id = 6 ∨ id = 7 ∨ id = 8 ∨ id = 9 ∨ id = 10 ∨ id = 11 := by omega
      rcases this with rfl | rfl | rfl | rfl | rfl | rfl | rfl <;> rfl
    rw [e]
    have hi : ¬ (id : Int) ≤ 4 := by omega
    clear e
    go_enter Tryd.func74, Tryd.ntmps74
    go_wp2
    go_ret
    exact ⟨rfl, rfl⟩
/-- The table of the greatest sizes. -/
def Hm (w : World) : Prop := 1 < w.heap.size ∧ ∀ k, k < 11 → w.cell? ⟨1, k, none⟩ = some (.int .i64 (lim (k + 1)))
theorem Hm.below {w w' : World} (h : Hm w) (hb : Below w.heap.size w w') : Hm w' :=
  ⟨Nat.lt_of_lt_of_le h.1 hb.size, fun k hk => (hb.cell (p := ⟨1, k, none⟩) h.1).trans (h.2 k hk)⟩
def fR (i : Int) (zs : List Int) : Bool := if i < 1 ∨ 11 < i then false else if zs.length ≠ dm i.toNat then false else fitB i zs
def fE (i : Int) (zs : List Int) : Int := if i < 1 ∨ 11 < i then 2 else if zs.length ≠ dm i.toNat then 4 else 0
theorem fits_out (i : Int) (v : Value) (zs : List Int) (w : World) (h : i < 1 ∨ 11 < i) :
    Calls Tryd.prog 36 #[.int .i64 i, v] w fun e w' => e = .returned (.tuple #[.bool (fR i zs), .int .i64 (fE i zs)]) ∧ Below w.heap.size w w' := by
  unfold fR fE
  rw [if_pos h, if_pos h]
  by_cases h1 : i < 1
  · clear h
    go_enter Tryd.func36, Tryd.ntmps36
    go_wp2
    go_ret2
    exact ⟨rfl, Below.refl _ _⟩
  · have h2 : 11 < i := by omega
    clear h
    go_enter Tryd.func36, Tryd.ntmps36
    go_wp2
    go_ret2
    exact ⟨rfl, Below.refl _ _⟩
set_option maxRecDepth 100000 in
set_option maxHeartbeats 4000000 in
theorem fits_any (i : Int) (v : Value) (zs : List Int) (w : World) (hm : Hm w) (hl : zs.length ≤ maxLen) (hr : Rd w v zs) :
    Calls Tryd.prog 36 #[.int .i64 i, v] w fun e w' => e = .returned (.tuple #[.bool (fR i zs), .int .i64 (fE i zs)]) ∧ Below w.heap.size w w' := by
  by_cases h : i < 1 ∨ 11 < i
  · exact fits_out i v zs w h
  obtain ⟨id, rfl⟩ : ∃ id : Nat, i = (id : Int) := ⟨i.toNat, by omega⟩
  obtain ⟨k, rfl⟩ : ∃ k, id = k + 1 := ⟨id - 1, by omega⟩
  obtain ⟨A, cap, rfl, hA⟩ := hr.open
  have HD := Lib.hid (fun w => dim_v (k + 1) w (by omega) (by omega))
  have hk : k ≤ 10 := by omega
  unfold maxLen at hl
  by_cases hd : zs.length = dm (k + 1)
  · have e1 : fE ((k + 1 : Nat) : Int) zs = 0 := by unfold fE; rw [if_neg h, Int.toNat_natCast, if_neg (by simp [hd])]
    have e2 : fR ((k + 1 : Nat) : Int) zs = fitB ((k + 1 : Nat) : Int) zs := by unfold fR; rw [if_neg h, Int.toNat_natCast, if_neg (by simp [hd])]
    rw [e1, e2]
    have hc := hm.2 k (by omega)
    obtain ⟨l0, l1, _⟩ := lims (id := k + 1) (by omega) (by omega)
    have HT : Hid ((∀ j, j < zs.length → -lim (k + 1) ≤ zs.getD j 0 ∧ zs.getD j 0 ≤ lim (k + 1)) → fitB ((k + 1 : Nat) : Int) zs = true) := Lib.hid fun hh => by
      unfold fitB
      rw [Int.toNat_natCast]
      refine List.all_eq_true.2 fun v hv => ?_
      obtain ⟨j, hj, rfl⟩ := List.getElem_of_mem hv
      have := hh j hj
      rw [List.getD_eq_getElem?_getD, List.getElem?_eq_getElem hj] at this
      simpa using this
    have HF : Hid (∀ j, j < zs.length → (zs.getD j 0 < -lim (k + 1) ∨ lim (k + 1) < zs.getD j 0) → fitB ((k + 1 : Nat) : Int) zs = false) := Lib.hid fun j hj hh => by
      cases hf : fitB ((k + 1 : Nat) : Int) zs
      · rfl
      · unfold fitB at hf
        rw [Int.toNat_natCast] at hf
        have := List.all_eq_true.1 hf (zs.getD j 0) (by rw [List.getD_eq_getElem?_getD, List.getElem?_eq_getElem hj]; exact List.getElem_mem _)
        simp only [Bool.and_eq_true, decide_eq_true_eq] at this
        omega
    have HA := Lib.hid hA
    obtain ⟨n, hn⟩ : ∃ n, zs.length = n := ⟨_, rfl⟩
    have HN := Lib.hid hn
    rw [hn] at HT HF hl hd ⊢
    rw [← hd] at HD
    generalize fitB ((k + 1 : Nat) : Int) zs = R at *
    generalize lim (k + 1) = L at *
    have hwL : IntKind.i64.wrap (-L) = -L := by rw [IntKind.wrap_i64]; omega
    have hw1 : IntKind.i64.wrap (((k + 1 : Nat) : Int) - 1) = (k : Int) := by rw [IntKind.wrap_i64]; omega
    have h1 : ¬ (((k + 1 : Nat) : Int) < 1) := by omega
    have h11 : ¬ (11 < ((k + 1 : Nat) : Int)) := by omega
    clear hA h hr hd hn e1 e2 hm
    generalize ((k + 1 : Nat) : Int) = I at *
    go_enter Tryd.func36, Tryd.ntmps36
    go_wp2_with (go_at_call 74; ((with_reducible refine (HD.out _).mono ?_); rintro e w1 ⟨rfl, rfl⟩))
    go_loopw [26] (fun i wr => ∃ j : Nat, j ≤ n ∧ i = .int .i64 j ∧ Hid (∀ q, q < j → -L ≤ zs.getD q 0 ∧ zs.getD q 0 ≤ L) ∧ Hid (Below w.heap.size w wr)) (fun i _ => n - (intOf i).toNat)
    case atStart => exact ⟨0, by omega, rfl, Lib.hid (fun q hq => absurd hq (by omega)), Lib.hid (Below.refl _ _)⟩
    case round =>
      obtain ⟨j, hj, rfl, hall, hbel⟩ := hrel
      by_cases hlt : j < n
      · obtain ⟨b, off, rfl, hb, c1'⟩ := HA.out j (by rw [HN.out]; exact hlt)
        have c1 := (hbel.out.cell (p := ⟨b, off + j, none⟩) hb).trans c1'
        have hO := Lib.hid (HF.out j hlt)
        clear c1'
        obtain ⟨z, hz⟩ : ∃ z, zs.getD j 0 = z := ⟨_, rfl⟩
        rw [hz] at c1 hO
        by_cases hz1 : z < -L
        · have he := Lib.hid (hO.out (.inl hz1))
          have hb2 := Lib.hid hbel.out
          clear hO hz hbel hall
          go_wp2
          go_ret2
          exact ⟨by rw [he.out]; rfl, hb2.out⟩
        by_cases hz2 : L < z
        · have he := Lib.hid (hO.out (.inr hz2))
          have hb2 := Lib.hid hbel.out
          clear hO hz hbel hall
          go_wp2
          go_ret2
          exact ⟨by rw [he.out]; rfl, hb2.out⟩
        · have hall2 : Hid (∀ q, q < j + 1 → -L ≤ zs.getD q 0 ∧ zs.getD q 0 ≤ L) := Lib.hid fun q hq => by
            by_cases hqj : q = j
            · subst hqj; rw [hz]; omega
            · exact hall.out q (by omega)
          clear hO hz hall
          go_wp2
          go_roundw
          case rel => exact ⟨j + 1, by omega, by go_num, hall2, hbel⟩
          case measure => simp [intOf]; omega
      · have hend : j = n := by omega
        subst hend
        have he := Lib.hid (HT.out hall.out)
        have hb2 := Lib.hid hbel.out
        clear hall hbel
        go_wp2
        go_ret2
        exact ⟨by rw [he.out]; rfl, hb2.out⟩
  · have e1 : fE ((k + 1 : Nat) : Int) zs = 4 := by unfold fE; rw [if_neg h, Int.toNat_natCast, if_pos (by simp [hd])]
    have e2 : fR ((k + 1 : Nat) : Int) zs = false := by unfold fR; rw [if_neg h, Int.toNat_natCast, if_pos (by simp [hd])]
    rw [e1, e2]
    have hne : ((zs.length : Int) == ((dm (k + 1) : Nat) : Int)) = false := by simp; omega
    have hne2 : ¬ (zs.length : Int) = ((dm (k + 1) : Nat) : Int) := by omega
    have h1 : ¬ (((k + 1 : Nat) : Int) < 1) := by omega
    have h11 : ¬ (11 < ((k + 1 : Nat) : Int)) := by omega
    clear e1 e2 hA h hr hd hm
    generalize zs.length = n at *
    generalize dm (k + 1) = d at *
    generalize ((k + 1 : Nat) : Int) = I at *
    go_enter Tryd.func36, Tryd.ntmps36
    go_wp2_with (go_at_call 74; ((with_reducible refine (HD.out _).mono ?_); rintro e w1 ⟨rfl, rfl⟩))
    go_ret2
    exact ⟨rfl, Below.refl _ _⟩
end Go.Proofs.YteklahfgplbmcaaDoor.Hf

/- The bits of signs. -/
namespace Go.Proofs.YteklahfgplbmcaaDoor.Hf
open Go Go.ChangeShapes Go.WideShapes Go.ChangeAt Go.RowKit Go.Proofs.YteklahfgplbmcaaDoor.Bk Go.Proofs.YteklahfgplbmcaaDoor.Bi Go.Proofs.YteklahfgplbmcaaDoor.Cr Go.Proofs.YteklahfgplbmcaaDoor.Fx

theorem own8n (base : Nat) (w : World) : Cr.Own base w (.slice none 0 0) [] := World.ownsRow_nil w _ 5 1
theorem own8_al {base : Nat} {w : World} {v : Value} {zs : List Int} (h : Cr.Own base w v zs) (o : Obj) : Cr.Own base (w.alloc o) v zs := Cr.Own.below h ((Below.refl w.heap.size w).alloc (Nat.le_refl _) o)
theorem one_src (w : World) (z : Int) : Src8 (w.alloc (.cells #[.int .u8 z] 5)) (.slice (some ⟨w.heap.size, 0, none⟩) 1 1) [z] := by
  have r := World.rowIs_alloc w #[.int .u8 z] 5 (fun _ => .int .u8 z) (fun i hi => by
    have h1 : i < 1 := hi
    have : i = 0 := by omega
    subst this; rfl)
  refine .inr ⟨⟨w.heap.size, 0, none⟩, 1, rfl, fun j u hu => ?_⟩
  match j with
  | 0 => simp at hu; subst hu; exact r.cell (i := 0) (Nat.lt_succ_self 0)
  | j + 1 => simp at hu
theorem sgn_snoc {zs : List Int} {k : Nat} (h : k < zs.length) : sgn (zs.take (k + 1)) = sgn (zs.take k) ++ sg1 (zs.getD k 0) := by
  have e : zs.take (k + 1) = zs.take k ++ [zs.getD k 0] := by rw [List.take_add_one, List.getElem?_eq_getElem h]; simp [h]
  rw [e]; simp [sgn]
theorem sgn_len (zs : List Int) : (sgn zs).length ≤ zs.length := by
  induction zs with
  | nil => simp [sgn]
  | cons v l ih =>
    have e : sgn (v :: l) = sg1 v ++ sgn l := by simp [sgn]
    rw [e, List.length_append]
    have : (sg1 v).length ≤ 1 := by unfold sg1; split <;> (try split) <;> simp
    simp; omega
set_option maxRecDepth 100000 in
set_option maxHeartbeats 4000000 in
theorem signs_ok (v : Value) (zs : List Int) (w : World) (hl : zs.length ≤ 1000) (h : Rd w v zs) :
    Calls Tryd.prog 90 #[v] w fun e w' => ∃ v', e = .returned v' ∧ Cr.Own w.heap.size w' v' (sgn zs) ∧ Below w.heap.size w w' := by
  obtain ⟨A, cap, rfl, hA⟩ := h.open
  have HA := Lib.hid hA
  have HSn := Lib.hid (fun k => sgn_snoc (zs := zs) (k := k))
  have HLn := Lib.hid (fun k => sgn_len (zs.take k))
  obtain ⟨n, hn⟩ : ∃ n, zs.length = n := ⟨_, rfl⟩
  have HN := Lib.hid hn
  rw [hn] at hl HSn ⊢
  clear hA hn h
  go_enter Tryd.func90, Tryd.ntmps90
  go_wp2
  go_loopw [3, 8] (fun s i wr => ∃ j : Nat, j ≤ n ∧ i = .int .i64 j ∧ Hid (Cr.Own w.heap.size wr s (sgn (zs.take j))) ∧ Hid (Below w.heap.size w wr)) (fun _ i _ => n - (intOf i).toNat)
  case atStart => exact ⟨0, by omega, rfl, Lib.hid (by simpa [sgn] using own8n w.heap.size w), Lib.hid (Below.refl _ _)⟩
  case round =>
    obtain ⟨j, hj, rfl, ho, hbel⟩ := hrel
    by_cases hlt : j < n
    · obtain ⟨b, off, rfl, hb, c1'⟩ := HA.out j (by rw [HN.out]; exact hlt)
      have c1 := (hbel.out.cell (p := ⟨b, off + j, none⟩) hb).trans c1'
      have hst := Lib.hid (HSn.out j hlt)
      have hle := Lib.hid (HLn.out j)
      have hsz := Lib.hid (hbel.out.size)
      clear c1'
      obtain ⟨z, hz⟩ : ∃ z, zs.getD j 0 = z := ⟨_, rfl⟩
      rw [hz] at c1 hst
      obtain ⟨ys, hys⟩ : ∃ ys, sgn (zs.take j) = ys := ⟨_, rfl⟩
      rw [hys] at ho hst hle
      have hyl : Hid (ys.length ≤ 1000) := Lib.hid (by have := hle.out; rw [List.length_take] at this; omega)
      clear hz hys hle
      by_cases hz1 : z < 0
      · have e : sg1 z = [1] := by unfold sg1; rw [if_pos hz1]
        rw [e] at hst
        clear e
        go_wp2_with (at_builtin; refine wpList_append_src _ rfl (.tmp 14) (.tmp 15) rfl w.heap.size _ ys rfl (own8_al ho.out _) _ [1] rfl (one_src wr 1) (by have := hyl.out; simp; omega) (by have := hsz.out; simp; omega) ?_; intro v6 w6 ho6 hg6 _; have hb6 := Lib.hid (Go.Proofs.YteklahfgplbmcaaDoor.Cr.below_grown (hbel.out.alloc hsz.out _) (own8_al ho.out _) (Nat.le_refl _) hg6); rw [← hst.out] at ho6; have HO6 := Lib.hid ho6; clear ho6 hg6)
        go_roundw
        case rel => exact ⟨j + 1, by omega, by go_num, HO6, hb6⟩
        case measure => simp [intOf]; omega
      by_cases hz2 : 0 < z
      · have e : sg1 z = [0] := by unfold sg1; rw [if_neg hz1, if_pos hz2]
        rw [e] at hst
        clear e
        go_wp2_with (at_builtin; refine wpList_append_src _ rfl (.tmp 19) (.tmp 20) rfl w.heap.size _ ys rfl (own8_al ho.out _) _ [0] rfl (one_src wr 0) (by have := hyl.out; simp; omega) (by have := hsz.out; simp; omega) ?_; intro v6 w6 ho6 hg6 _; have hb6 := Lib.hid (Go.Proofs.YteklahfgplbmcaaDoor.Cr.below_grown (hbel.out.alloc hsz.out _) (own8_al ho.out _) (Nat.le_refl _) hg6); rw [← hst.out] at ho6; have HO6 := Lib.hid ho6; clear ho6 hg6)
        go_roundw
        case rel => exact ⟨j + 1, by omega, by go_num, HO6, hb6⟩
        case measure => simp [intOf]; omega
      · have e : sg1 z = [] := by unfold sg1; rw [if_neg hz1, if_neg hz2]
        rw [e, List.append_nil] at hst
        rw [← hst.out] at ho
        clear e hst
        go_wp2
        go_roundw
        case rel => exact ⟨j + 1, by omega, by go_num, ho, hbel⟩
        case measure => simp [intOf]; omega
    · have hend : j = n := by omega
      subst hend
      have ht : zs.take j = zs := List.take_of_length_le (by rw [HN.out]; omega)
      rw [ht] at ho
      clear ht
      go_wp2
      go_ret
      exact ⟨_, rfl, ho.out, hbel.out⟩
end Go.Proofs.YteklahfgplbmcaaDoor.Hf

/- The bits of escapes. -/
namespace Go.Proofs.YteklahfgplbmcaaDoor.Hf
open Go Go.Shelf Go.Proofs.YteklahfgplbmcaaDoor.BkPx Go.ChangeShapes Go.WideShapes Go.ChangeAt Go.RowKit Go.Proofs.YteklahfgplbmcaaDoor.Bk Go.Proofs.YteklahfgplbmcaaDoor.Bi Go.Proofs.YteklahfgplbmcaaDoor.Cr Go.Proofs.YteklahfgplbmcaaDoor.Fx

theorem len_any (n : Nat) (h1 : 1 ≤ n) (h2 : n < 65536) (w : World) : Calls Tryd.prog 50 #[.int .u64 (n : Int)] w fun e w' => e = .returned (.int .i64 (dg n : Nat)) ∧ w = w' := by
  have h := Any.bits_Len (SlLaysF0.n15.bits (P := Tryd.prog) (ρ := Tryd.sortL_ren) { Tryd.sortL with }) (n : Int) w (by omega) (by omega)
  change Calls Tryd.prog 50 _ _ _ at h
  rw [Int.toNat_natCast, bitLen_dg h1 (by omega)] at h
  exact h.mono fun _ _ h => ⟨h.1, h.2.symm⟩
theorem esc_snoc {zs : List Int} {k : Nat} (h : k < zs.length) : esc (zs.take (k + 1)) = esc (zs.take k) ++ es1 (zs.getD k 0) := by
  have e : zs.take (k + 1) = zs.take k ++ [zs.getD k 0] := by rw [List.take_add_one, List.getElem?_eq_getElem h]; simp [h]
  rw [e]; simp [esc]
theorem es1_len {v : Int} (h0 : -8191 ≤ v) (h1 : v ≤ 8191) : (es1 v).length ≤ 21 := by
  unfold es1
  split
  · simp
  · obtain ⟨d1, d2, d3, d4⟩ := dg16 (n := v.natAbs) (by omega) (by omega)
    simp [bi_len]; omega
theorem esc_len : ∀ (zs : List Int), (∀ v ∈ zs, -8191 ≤ v ∧ v ≤ 8191) → (esc zs).length ≤ 21 * zs.length
  | [], _ => by simp [esc]
  | v :: l, h => by
    have e : esc (v :: l) = es1 v ++ esc l := by simp [esc]
    have h1 := h v (by simp)
    have h2 := esc_len l (fun u hu => h u (by simp [hu]))
    have h3 := es1_len h1.1 h1.2
    rw [e, List.length_append, List.length_cons]; omega
theorem own8_dr {base : Nat} {w : World} {v : Value} {zs : List Int} (h : Cr.Own base w v zs) : Cr.Own base w.drew v zs := Cr.Own.below h ((Below.refl w.heap.size w).drew)
theorem src8_dr {w : World} {v : Value} {zs : List Int} (h : Src8 w v zs) : Src8 w.drew v zs := h.below ((Below.refl w.heap.size w).drew)
set_option maxRecDepth 100000 in
set_option maxHeartbeats 8000000 in
theorem escapes_ok (v : Value) (zs : List Int) (w : World) (hl : zs.length ≤ 4) (hv : ∀ v ∈ zs, -8191 ≤ v ∧ v ≤ 8191) (h : Rd w v zs) :
    Calls Tryd.prog 91 #[v] w fun e w' => ∃ v', e = .returned v' ∧ Cr.Own w.heap.size w' v' (esc zs) ∧ Below w.heap.size w w' := by
  obtain ⟨A, cap, rfl, hA⟩ := h.open
  have HA := Lib.hid hA
  have HV := Lib.hid hv
  have HSn := Lib.hid (fun k => esc_snoc (zs := zs) (k := k))
  have HLn := Lib.hid (fun k => esc_len (zs.take k) (fun v hv' => hv v (List.mem_of_mem_take hv')))
  have HSz := Lib.hid (fun (z : Int) (w : World) (h : -8191 ≤ z ∧ z ≤ 8191) => size_v z w (by omega) (by omega))
  obtain ⟨n, hn⟩ : ∃ n, zs.length = n := ⟨_, rfl⟩
  have HN := Lib.hid hn
  rw [hn] at hl HSn ⊢
  clear hA hn h hv
  go_enter Tryd.func91, Tryd.ntmps91
  go_wp2
  go_loopw [3, 9] (fun s i wr => ∃ j : Nat, j ≤ n ∧ i = .int .i64 j ∧ Hid (Cr.Own w.heap.size wr s (esc (zs.take j))) ∧ Hid (Below w.heap.size w wr)) (fun _ i _ => n - (intOf i).toNat)
  case atStart => exact ⟨0, by omega, rfl, Lib.hid (by simpa [esc] using own8n w.heap.size w), Lib.hid (Below.refl _ _)⟩
  case round =>
    obtain ⟨j, hj, rfl, ho, hbel⟩ := hrel
    by_cases hlt : j < n
    · obtain ⟨b, off, rfl, hb, c1'⟩ := HA.out j (by rw [HN.out]; exact hlt)
      have c1 := (hbel.out.cell (p := ⟨b, off + j, none⟩) hb).trans c1'
      have hst := Lib.hid (HSn.out j hlt)
      have hle := Lib.hid (HLn.out j)
      have hsz := Lib.hid (hbel.out.size)
      have hzb := HV.out (zs.getD j 0) (by rw [List.getD_eq_getElem?_getD, List.getElem?_eq_getElem (by rw [HN.out]; exact hlt)]; exact List.getElem_mem _)
      clear c1'
      obtain ⟨z, hz⟩ : ∃ z, zs.getD j 0 = z := ⟨_, rfl⟩
      rw [hz] at c1 hst hzb
      obtain ⟨ys, hys⟩ : ∃ ys, esc (zs.take j) = ys := ⟨_, rfl⟩
      rw [hys] at ho hst hle
      have hyl : Hid (ys.length ≤ 84) := Lib.hid (by have := hle.out; rw [List.length_take] at this; omega)
      have HS := Lib.hid (fun w => HSz.out z w hzb)
      clear hz hys hle
      by_cases h16 : z.natAbs < 16
      · have e : es1 z = [] := by unfold es1; rw [if_pos h16]
        rw [e, List.append_nil] at hst
        rw [← hst.out] at ho
        have h16I : ((z.natAbs : Nat) : Int) < 16 := by omega
        clear e hst h16
        generalize ((z.natAbs : Nat) : Int) = q at *
        go_wp2_with (go_at_call 108; ((with_reducible refine (HS.out _).mono ?_); rintro e w1 ⟨rfl, rfl⟩))
        go_roundw
        case rel => exact ⟨j + 1, by omega, by go_num, ho, hbel⟩
        case measure => simp [intOf]; omega
      · obtain ⟨d1, d2, d3, d4⟩ := dg16 (n := z.natAbs) (by omega) (by omega)
        have e : es1 z = List.replicate (dg z.natAbs - 1 - 4) 1 ++ 0 :: bi ((z.natAbs - 2 ^ (dg z.natAbs - 1) : Nat) : Int) (dg z.natAbs - 1) := by unfold es1; rw [if_neg h16]
        rw [e] at hst
        clear e
        have HL := Lib.hid (fun w => len_any z.natAbs (by omega) (by omega) w)
        obtain ⟨d, hd⟩ : ∃ d, dg z.natAbs = d + 5 := ⟨dg z.natAbs - 5, by omega⟩
        rw [hd] at d3 d4 HL hst
        rw [show d + 5 - 1 = d + 4 by omega] at hst d3
        rw [show d + 4 - 4 = d by omega] at hst
        obtain ⟨P, hP⟩ : ∃ P : Nat, 2 ^ (d + 4) = P := ⟨_, rfl⟩
        have hPI : (2 : Int) ^ (d + 4) = (P : Int) := by rw [← hP]; push_cast; rfl
        rw [show d + 5 = (d + 4) + 1 by omega, Nat.pow_succ, hP] at d4
        rw [hP] at d3 hst
        have hd8 : d ≤ 8 := by omega
        obtain ⟨m, hm⟩ : ∃ m : Nat, z.natAbs = m := ⟨_, rfl⟩
        rw [hm] at d3 d4 HL HS hst h16
        have hm8 : m ≤ 8191 := by omega
        have hmw : IntKind.u64.wrap (m : Int) = (m : Int) := by rw [IntKind.wrap_u64]; omega
        obtain ⟨e4, he4⟩ : ∃ e4, d + 4 = e4 := ⟨_, rfl⟩
        rw [he4] at hP hPI hst
        obtain ⟨L5, hL5⟩ : ∃ L5 : Int, ((d + 5 : Nat) : Int) = L5 := ⟨_, rfl⟩
        rw [hL5] at HL
        have hdw : IntKind.i64.wrap (L5 - 1) = (e4 : Int) := by rw [IntKind.wrap_i64]; omega
        have hdw2 : IntKind.i64.wrap ((e4 : Int) - 4) = (d : Int) := by rw [IntKind.wrap_i64]; omega
        have he12 : e4 ≤ 12 := by omega
        have hPw : IntKind.i64.wrap (P : Int) = (P : Int) := by rw [IntKind.wrap_i64]; omega
        have h16I : ¬ ((m : Nat) : Int) < 16 := by omega
        have hmP : IntKind.i64.wrap ((m : Int) - (P : Int)) = ((m - P : Nat) : Int) := by rw [IntKind.wrap_i64]; omega
        have HPut := Lib.hid (fun (w : World) (v0 : Value) (zs : List Int) (hsrc : Src8 w v0 zs) (hl : zs.length ≤ 100000) => put_src (v0 := v0) (zs := zs) ((m - P : Nat) : Int) e4 w hsrc hl (by omega) (by omega) (by rw [hPI]; omega))
        obtain ⟨mP, hmP'⟩ : ∃ mP : Int, ((m - P : Nat) : Int) = mP := ⟨_, rfl⟩
        rw [hmP'] at HPut hst hmP
        clear h16 d1 d2 hd hm hzb HSz HV he4 hL5 hP hmP' d3 d4
        go_wp2_with first
          | (go_at_call 108; ((with_reducible refine (HS.out _).mono ?_); rintro e w1 ⟨rfl, rfl⟩))
          | (go_at_call 50; ((with_reducible refine (HL.out _).mono ?_); rintro e w1 ⟨rfl, rfl⟩))
        generalize wr = wo at *
        go_loopw [3, 23] (fun s i wq => ∃ q : Nat, q ≤ d ∧ i = .int .i64 q ∧ Hid (Cr.Own w.heap.size wq s (ys ++ List.replicate q 1)) ∧ Hid (Below w.heap.size w wq)) (fun _ i _ => d - (intOf i).toNat)
        case atStart => exact ⟨0, by omega, rfl, Lib.hid (by simpa using ho.out), hbel⟩
        case round =>
          obtain ⟨q, hq, rfl, ho3, hb3⟩ := hrel
          have hsz3 := Lib.hid (hb3.out.size)
          by_cases hlq : q < d
          · go_wp2_with (at_builtin; refine wpList_append_src _ rfl (.tmp 25) (.tmp 26) rfl w.heap.size _ (ys ++ List.replicate q 1) rfl (own8_al ho3.out _) _ [1] rfl (one_src wr 1) (by have := hyl.out; simp; omega) (by have := hsz3.out; simp; omega) ?_; intro v6 w6 ho6 hg6 _; have hb6 := Lib.hid (Go.Proofs.YteklahfgplbmcaaDoor.Cr.below_grown (hb3.out.alloc hsz3.out _) (own8_al ho3.out _) (Nat.le_refl _) hg6); rw [List.append_assoc, ← List.replicate_succ'] at ho6; have HO6 := Lib.hid ho6; clear ho6 hg6)
            go_roundw
            case rel => exact ⟨q + 1, by omega, by go_num, HO6, hb6⟩
            case measure => simp [intOf]; omega
          · have hend : q = d := by omega
            subst hend
            go_upto_region 11 with fail
            clear HL hbel hsz ho hq
            go_region_held3 (fun w' => True) (trivial)
              (first
                | (refine step_append_src _ rfl (.tmp 30) (.tmp 31) rfl w.heap.size _ _ rfl (own8_dr (own8_al ho3.out _)) _ [0] rfl (src8_dr (one_src wr 0)) (by have := hyl.out; simp; omega) ((hb3.out.alloc hsz3.out _).drew.size) ?_; intro v6 w6 ho6 hg6; have hb6 := Lib.hid (Go.Proofs.YteklahfgplbmcaaDoor.Cr.below_grown ((hb3.out.alloc hsz3.out _).drew) (own8_dr (own8_al ho3.out _)) (Nat.le_refl _) hg6); have HO6 := Lib.hid ho6; clear ho6 hg6)
                | (go_at_call 108; ((with_reducible refine (HS.out _).mono ?_); rintro e w1 ⟨rfl, rfl⟩))
                | (go_at_call 51; ((with_reducible refine (HPut.out _ _ _ (own_src HO6.out) (by have := hyl.out; simp; omega)).mono ?_); rintro e w7 ⟨g7, cap7, rfl, ho7, hb7⟩; have HO7 := Lib.hid ho7; have hb8 := Lib.hid (hb6.out.trans (hb7.mono hb6.out.size)); clear ho7)))
            have HO8 : Hid (Cr.Own w.heap.size w7 (.slice (some ⟨g7, 0, none⟩) (ys.length + (q + 1) + e4) cap7) (esc (zs.take (j + 1)))) := Lib.hid (by rw [hst.out]; have h := own8_rebase HO7.out hb6.out.size; simpa [List.append_assoc] using h)
            clear HO7 hst HPut
            go_wp2
            go_roundw
            case rel => exact ⟨j + 1, by omega, by go_num, HO8, hb8⟩
            case measure => simp [intOf]; omega
    · have hend : j = n := by omega
      subst hend
      have ht : zs.take j = zs := List.take_of_length_le (by rw [HN.out]; omega)
      rw [ht] at ho
      clear ht
      go_wp2
      go_ret
      exact ⟨_, rfl, ho.out, hbel.out⟩
end Go.Proofs.YteklahfgplbmcaaDoor.Hf

/- Two lists of bits in new memory. -/
namespace Go.Proofs.YteklahfgplbmcaaDoor.Hf
open Go Go.ChangeShapes Go.WideShapes Go.ChangeAt Go.RowKit Go.Proofs.YteklahfgplbmcaaDoor.Bk Go.Proofs.YteklahfgplbmcaaDoor.Bi Go.Proofs.YteklahfgplbmcaaDoor.Cr Go.Proofs.YteklahfgplbmcaaDoor.Fx

theorem grown_bel {W w' : World} {n : Nat} (h : W.grownBy w' none) (hn : n ≤ W.heap.size) : Below n W w' := (Below.refl _ _).grown h hn (fun k hk => by cases hk)
set_option maxRecDepth 100000 in
set_option maxHeartbeats 4000000 in
theorem join_ok (v1 v2 : Value) (z1 z2 : List Int) (w : World) (h1 : Src8 w v1 z1) (h2 : Src8 w v2 z2) (l1 : z1.length ≤ 20000) (l2 : z2.length ≤ 20000) :
    Calls Tryd.prog 65 #[v1, v2] w fun e w' => ∃ v, e = .returned v ∧ Cr.Own w.heap.size w' v (z1 ++ z2) ∧ Below w.heap.size w w' := by
  obtain ⟨a1, c1, rfl⟩ := h1.shape
  obtain ⟨a2, c2, rfl⟩ := h2.shape
  obtain ⟨i0, hi, hz0, hz1, hz2⟩ := info_parts info5'
  have S1 := Lib.hid h1
  have S2 := Lib.hid h2
  have hw : IntKind.i64.wrap ((z1.length : Int) + (z2.length : Int)) = ((z1.length + z2.length : Nat) : Int) := by rw [IntKind.wrap_i64]; omega
  obtain ⟨m, hm⟩ : ∃ m, z1.length + z2.length = m := ⟨_, rfl⟩
  rw [hm] at hw
  have hm4 : m ≤ 40000 := by omega
  have HL := Lib.hid (show z1.length ≤ 20000 ∧ z2.length ≤ 20000 from ⟨l1, l2⟩)
  clear h1 h2 hm l1 l2
  go_enter Tryd.func65, Tryd.ntmps65
  go_wp2_with first
    | (refine wpList_make_own _ rfl _ _ 28 rfl w.heap.size 5 i0 (.int .u8 0) 1 Tryd.underlying28 hi hz0 hz1 .i64 .i64 _ m rfl rfl rfl (by rw [hz2]; omega) (by unfold maxLen; omega) (Nat.le_refl _) ?_; intro w1 ho1 hg1; have hb1 := Lib.hid (grown_bel hg1 (Nat.le_refl _)); have HO1 : Hid (Cr.Own w.heap.size w1 (.slice (some ⟨w.heap.size, 0, none⟩) 0 m) []) := Lib.hid ho1; clear ho1 hg1)
    | (at_builtin; refine wpList_append_src _ rfl (.tmp 12) (.tmp 13) rfl w.heap.size _ [] rfl HO1.out _ z1 rfl (S1.out.below hb1.out) (by have := HL.out.1; simp; omega) hb1.out.size ?_; intro v2 w2 ho2 hg2 _; have hb2 := Lib.hid (Go.Proofs.YteklahfgplbmcaaDoor.Cr.below_grown hb1.out HO1.out (Nat.le_refl _) hg2); have HO2 := Lib.hid ho2; clear ho2 hg2)
    | (at_builtin; refine wpList_append_src _ rfl (.tmp 14) (.tmp 15) rfl w.heap.size _ _ rfl HO2.out _ z2 rfl (S2.out.below hb2.out) (by have := HL.out; simp; omega) hb2.out.size ?_; intro v3 w3 ho3 hg3 _; have hb3 := Lib.hid (Go.Proofs.YteklahfgplbmcaaDoor.Cr.below_grown hb2.out HO2.out (Nat.le_refl _) hg3); have HO3 := Lib.hid ho3; clear ho3 hg3)
  go_ret
  exact ⟨_, rfl, HO3.out, hb3.out⟩
end Go.Proofs.YteklahfgplbmcaaDoor.Hf

/- The entry that stands for some values. -/
namespace Go.Proofs.YteklahfgplbmcaaDoor.Hf
open Go Go.ChangeShapes Go.WideShapes Go.ChangeAt Go.RowKit Go.Proofs.YteklahfgplbmcaaDoor.Bk Go.Proofs.YteklahfgplbmcaaDoor.Bi Go.Proofs.YteklahfgplbmcaaDoor.Cr Go.Proofs.YteklahfgplbmcaaDoor.Fx

theorem fE_eX {i : Int} {zs : List Int} (h : fE i zs ≠ 0) : eX i zs = fE i zs ∧ eE i zs = 0 := by
  have e : eX i zs = fE i zs := by
    unfold fE eX at *
    by_cases h1 : i < 1 ∨ 11 < i
    · rw [if_pos h1, if_pos h1]
    · rw [if_neg h1] at h ⊢
      rw [if_neg h1]
      by_cases h2 : zs.length = dm i.toNat
      · rw [if_neg (by simp [h2])] at h; exact absurd rfl h
      · rw [if_pos h2, if_pos h2]
  exact ⟨e, by unfold eE; rw [if_neg (by rw [e]; exact h)]⟩
theorem fR_no {i : Int} {zs : List Int} (h : fE i zs = 0) (h2 : fR i zs = false) : eX i zs = 2 ∧ eE i zs = 0 := by
  have e : eX i zs = 2 := by
    unfold fE fR eX at *
    by_cases h1 : i < 1 ∨ 11 < i
    · rw [if_pos h1]
    · rw [if_neg h1] at h h2 ⊢
      by_cases h3 : zs.length = dm i.toNat
      · rw [if_neg (by simp [h3])] at h2 ⊢
        rw [if_neg (by simp [h2])]
      · rw [if_pos h3] at h; exact absurd h (by decide)
  exact ⟨e, by unfold eE; rw [if_neg (by rw [e]; decide)]⟩
theorem fR_yes {i : Int} {zs : List Int} (h : fE i zs = 0) (h2 : fR i zs = true) : eX i zs = 0 := by
  unfold fE fR eX at *
  by_cases h1 : i < 1 ∨ 11 < i
  · rw [if_pos h1] at h2; exact absurd h2 (by decide)
  · rw [if_neg h1] at h h2 ⊢
    by_cases h3 : zs.length = dm i.toNat
    · rw [if_neg (by simp [h3])] at h2 ⊢
      rw [if_pos h2]
    · rw [if_pos h3] at h2; exact absurd h2 (by decide)
theorem rd_of_row {w : World} {g n : Nat} {zs : List Int} (h : w.rowIs g 3 n (fun j => .int .i64 (zs.getD j 0))) (hn : zs.length = n) (hm : n ≤ maxLen) : Rd w (.slice (some ⟨g, 0, none⟩) n n) zs :=
  rd_row h hn hm (fun j _ => rfl)
set_option maxRecDepth 100000 in
set_option maxHeartbeats 8000000 in
theorem entryOf_szs (id : Nat) (v : Value) (zs : List Int) (w : World) (hs : Sh w) (h1 : 1 ≤ id) (h2 : id ≤ 11) (hr : Rd w v zs) (hl : zs.length ≤ 4) (hb : ∀ z ∈ zs, -8191 ≤ z ∧ z ≤ 8191) (hsg : sgd id = false)
    (HF : Hid (∀ w', Below w.heap.size w w' → Calls Tryd.prog 36 #[.int .i64 id, v] w' fun e w'' => e = .returned (.tuple #[.bool true, .int .i64 0]) ∧ Below w'.heap.size w' w''))
    (hx : entX id (zs.map (sz1 id)) = 0) :
    Calls Tryd.prog 89 #[.int .i64 id, v] w fun e w' => e = .returned (.tuple #[.int .i64 (entI id (zs.map (sz1 id))), .int .i64 0]) ∧ Below w.heap.size w w' := by
  obtain ⟨A, cap, rfl, hA⟩ := hr.open
  obtain ⟨i0, hi, hz0, hz1, hz2⟩ := info_parts' info3
  have HA := Lib.hid hA
  have HB := Lib.hid hb
  have HSg := Lib.hid (fun w => signed_ok (id : Int) w)
  rw [hsg] at HSg
  have HSz := Lib.hid (fun (z : Int) (w : World) (h : -8191 ≤ z ∧ z ≤ 8191) => size_v z w (by omega) (by omega))
  have HEn := Lib.hid (fun (w' : World) (v : Value) (hbw : Below w.heap.size w w') (h : Rd w' v (zs.map (sz1 id))) => by
    have := entry_ok id v (zs.map (sz1 id)) w' h1 (by omega) (hs.below hbw) (by rw [List.length_map]; unfold maxLen; omega) (fun u hu => by
      obtain ⟨z, hz, rfl⟩ := List.mem_map.1 hu
      have := hb z hz
      unfold sz1; split <;> omega) h
    rw [hx] at this
    exact this)
  obtain ⟨n, hn⟩ : ∃ n, zs.length = n := ⟨_, rfl⟩
  have HN := Lib.hid hn
  rw [hn] at hl HF ⊢
  clear hA hn hr hb hsg hx hs
  have hml : (zs.map (sz1 id)).length = zs.length := List.length_map ..
  have HG : Hid (∀ j, j < zs.length → (zs.map (sz1 id)).getD j 0 = sz1 id (zs.getD j 0)) := Lib.hid fun j hj => by simp [List.getD_eq_getElem?_getD, List.getElem?_map, List.getElem?_eq_getElem hj]
  rw [HN.out] at hml HG
  obtain ⟨ms, hms⟩ : ∃ ms, zs.map (sz1 id) = ms := ⟨_, rfl⟩
  rw [hms] at hml HG HEn ⊢
  have HML := Lib.hid hml
  clear hms hml
  obtain ⟨X, hX⟩ : ∃ X, entI id ms = X := ⟨_, rfl⟩
  rw [hX] at HEn ⊢
  clear hX
  have h11I : (id : Int) = 11 ∨ ((id : Int) == 11) = false := by
    by_cases h : (id : Int) = 11
    · exact .inl h
    · exact .inr (by simp [h])
  have HZ1 : Hid (∀ v : Int, sz1 id v = if (id : Int) = 11 then ((min v.natAbs 16 : Nat) : Int) else (v.natAbs : Int)) := Lib.hid fun v => rfl
  generalize (id : Int) = I at *
  go_enter Tryd.func89, Tryd.ntmps89
  go_wp2_with first
    | (go_at_call 36; ((with_reducible refine (HF.out _ (Below.refl _ _)).mono ?_); rintro e w1 ⟨rfl, hb1⟩; have B1 := Lib.hid hb1; clear hb1))
    | (go_at_call 70; ((with_reducible refine (HSg.out _).mono ?_); rintro e w2 ⟨rfl, rfl⟩))
    | (refine wpList_make_row _ rfl _ _ 22 rfl 3 i0 (.int .i64 0) Tryd.underlying22 hi hz0 hz1 rfl .i64 .i64 n rfl rfl (by rw [hz2]; omega) (by omega) ?_)
  have R0 : Hid ((w1.alloc (.cells (madeCells #[.int .i64 0] n) 3)).rowIs w1.heap.size 3 n (fun k => .int .i64 (if k < 0 then ms.getD k 0 else 0))) := Lib.hid ((World.rowIs_made w1 (.int .i64 0) n 3).congr (fun k _ => by rw [if_neg (by omega)]))
  have B2 := Lib.hid (B1.out.alloc B1.out.size (.cells (madeCells #[.int .i64 0] n) 3))
  have HSS := Lib.hid B1.out.size
  generalize w1.alloc (.cells (madeCells #[.int .i64 0] n) 3) = W2 at *
  generalize w1.heap.size = S at *
  clear B1 HF
  go_loopw [34] (fun i wr => ∃ j : Nat, j ≤ n ∧ i = .int .i64 j ∧ Hid (wr.rowIs S 3 n (fun k => .int .i64 (if k < j then ms.getD k 0 else 0))) ∧ Hid (Below w.heap.size w wr)) (fun i _ => n - (intOf i).toNat)
  case atStart => exact ⟨0, by omega, rfl, R0, B2⟩
  case round =>
    obtain ⟨j, hj, rfl, hR, hbel⟩ := hrel
    by_cases hlt : j < n
    · obtain ⟨b, off, rfl, hb, c1'⟩ := HA.out j (by rw [HN.out]; exact hlt)
      have c1 := (hbel.out.cell (p := ⟨b, off + j, none⟩) hb).trans c1'
      have hzb := HB.out (zs.getD j 0) (by rw [List.getD_eq_getElem?_getD, List.getElem?_eq_getElem (by rw [HN.out]; exact hlt)]; exact List.getElem_mem _)
      have hg := Lib.hid (HG.out j hlt)
      clear c1'
      obtain ⟨z, hz⟩ : ∃ z, zs.getD j 0 = z := ⟨_, rfl⟩
      rw [hz] at c1 hg hzb
      have HS := Lib.hid (fun w => HSz.out z w hzb)
      have c2 := hR.out.cell (i := j) hlt
      have c3 := hR.out.frozen j
      rw [if_neg (Nat.lt_irrefl j)] at c2
      have hgz := Lib.hid (hg.out.trans (HZ1.out z))
      have hzn : z.natAbs ≤ 8191 := by omega
      obtain ⟨q, hq⟩ : ∃ q : Nat, z.natAbs = q := ⟨_, rfl⟩
      rw [hq] at HS hgz hzn
      clear hz hg hq hzb
      have hR2 : Hid (∀ u : Int, u = ms.getD j 0 → (wr.setCell ⟨S, j, none⟩ (.int .i64 u)).rowIs S 3 n (fun k => .int .i64 (if k < j + 1 then ms.getD k 0 else 0))) := Lib.hid fun u hu => (hR.out.set j (.int .i64 u)).congr (fun k hk => by
        by_cases hkj : k = j
        · subst hkj; rw [if_pos rfl, if_pos (Nat.lt_succ_self k), hu]
        · rw [if_neg hkj]
          by_cases hkl : k < j
          · rw [if_pos hkl, if_pos (by omega)]
          · rw [if_neg hkl, if_neg (by omega)])
      have hR3 : Hid (∀ u y : Int, u = ms.getD j 0 → ((wr.setCell ⟨S, j, none⟩ (.int .i64 y)).setCell ⟨S, j, none⟩ (.int .i64 u)).rowIs S 3 n (fun k => .int .i64 (if k < j + 1 then ms.getD k 0 else 0))) := Lib.hid fun u y hu => ((hR.out.set j (.int .i64 y)).set j (.int .i64 u)).congr (fun k hk => by
        by_cases hkj : k = j
        · subst hkj; rw [if_pos rfl, if_pos (Nat.lt_succ_self k), hu]
        · rw [if_neg hkj, if_neg hkj]
          by_cases hkl : k < j
          · rw [if_pos hkl, if_pos (by omega)]
          · rw [if_neg hkl, if_neg (by omega)])
      rcases h11I with h11 | h11
      · subst h11
        rw [if_pos rfl] at hgz
        have c4 := fun y : Int => (hR.out.set j (.int .i64 y)).cell (i := j) hlt
        have c5 := fun y : Int => (hR.out.set j (.int .i64 y)).frozen j
        simp only [if_pos rfl] at c4
        clear hR
        go_wp2_with (go_at_call 108; ((with_reducible refine (HS.out _).mono ?_); rintro e w5 ⟨rfl, rfl⟩))
        go_roundw
        case rel =>
          have hu : min (q : Int) 16 = ms.getD j 0 := by rw [hgz.out]; omega
          exact ⟨j + 1, by omega, by go_num, Lib.hid (hR3.out _ _ hu), Lib.hid ((hbel.out.setCell (p := ⟨S, j, none⟩) HSS.out _).setCell (p := ⟨S, j, none⟩) HSS.out _)⟩
        case measure => simp [intOf]; omega
      · rw [if_neg (by simpa using h11)] at hgz
        clear hR
        go_wp2_with (go_at_call 108; ((with_reducible refine (HS.out _).mono ?_); rintro e w5 ⟨rfl, rfl⟩))
        go_roundw
        case rel => exact ⟨j + 1, by omega, by go_num, Lib.hid (hR2.out _ hgz.out.symm), Lib.hid (hbel.out.setCell (p := ⟨S, j, none⟩) HSS.out _)⟩
        case measure => simp [intOf]; omega
    · have hend : j = n := by omega
      subst hend
      have hrd := Lib.hid (rd_of_row (hR.out.congr (g := fun k => .int .i64 (ms.getD k 0)) (fun k hk => by rw [if_pos hk])) HML.out (by unfold maxLen; omega))
      clear hR
      go_wp2_with (go_at_call 22; ((with_reducible refine (HEn.out _ _ hbel.out hrd.out).mono ?_); rintro e w5 ⟨rfl, hb5⟩; have B5 := Lib.hid (hbel.out.trans (hb5.mono hbel.out.size)); clear hb5))
      go_ret2
      exact ⟨rfl, B5.out⟩

set_option maxHeartbeats 4000000 in
theorem entryOf_any (i : Int) (v : Value) (zs : List Int) (w : World) (hs : Sh w) (hm : Hm w) (hr : Rd w v zs) (hl : zs.length ≤ maxLen) (hb : ∀ z ∈ zs, -9223372036854775808 ≤ z ∧ z ≤ 9223372036854775807) :
    Calls Tryd.prog 89 #[.int .i64 i, v] w fun e w' => e = .returned (.tuple #[.int .i64 (eE i zs), .int .i64 (eX i zs)]) ∧ Below w.heap.size w w' := by
  have HF := Lib.hid (fun w' (hb : Below w.heap.size w w') => fits_any i v zs w' (hm.below hb) hl (hr.below hb))
  by_cases h1 : fE i zs = 0
  · cases h2 : fR i zs
    · obtain ⟨e1, e2⟩ := fR_no h1 h2
      rw [e1, e2]
      rw [h1, h2] at HF
      clear h1 h2 e1 e2 hs hm hr hl hb
      go_enter Tryd.func89, Tryd.ntmps89
      go_wp2_with (go_at_call 36; ((with_reducible refine (HF.out _ (Below.refl _ _)).mono ?_); rintro e w1 ⟨rfl, hb1⟩))
      go_ret2
      exact ⟨rfl, hb1⟩
    · have e1 := fR_yes h1 h2
      obtain ⟨id, n, rfl, i1, i2, il, ib, eqE, _, _, ex, en⟩ := eE_ok e1
      rw [h1, h2] at HF
      rw [e1, eqE]
      cases hsg : sgd id
      · unfold tld at ex en
        rw [hsg] at ex en
        simp only [Bool.false_eq_true, if_false] at ex en
        obtain ⟨l0, l1, _⟩ := lims i1 i2
        have := entryOf_szs id v zs w hs i1 i2 hr (by rw [il]; exact (facts i1 (by omega)).2.2.2.2.1) (fun z hz => by have := ib z hz; omega) hsg HF ex
        rw [en] at this
        exact this
      · unfold tld at ex en
        rw [hsg] at ex en
        simp only [if_true] at ex en
        have HSg := Lib.hid (fun w => signed_ok (id : Int) w)
        rw [hsg] at HSg
        have HEn := Lib.hid (fun (w' : World) (hbw : Below w.heap.size w w') => by
          have := entry_ok id v zs w' i1 (by omega) (hs.below hbw) hl hb (hr.below hbw)
          rw [ex, en] at this
          exact this)
        clear h1 h2 e1 hs hm hr hl hb il ib ex en eqE hsg
        go_enter Tryd.func89, Tryd.ntmps89
        go_wp2_with first
          | (go_at_call 36; ((with_reducible refine (HF.out _ (Below.refl _ _)).mono ?_); rintro e w1 ⟨rfl, hb1⟩; have B1 := Lib.hid hb1; clear hb1))
          | (go_at_call 70; ((with_reducible refine (HSg.out _).mono ?_); rintro e w2 ⟨rfl, rfl⟩))
          | (go_at_call 22; ((with_reducible refine (HEn.out _ B1.out).mono ?_); rintro e w3 ⟨rfl, hb3⟩; have B3 := Lib.hid (B1.out.trans (hb3.mono B1.out.size)); clear hb3))
        go_ret2
        exact ⟨rfl, B3.out⟩
  · obtain ⟨e1, e2⟩ := fE_eX h1
    rw [e1, e2]
    have hne : (fE i zs == 0) = false := by simp [h1]
    generalize fE i zs = F at *
    generalize fR i zs = R at *
    clear hs hm hr hl hb e1 e2
    go_enter Tryd.func89, Tryd.ntmps89
    go_wp2_with (go_at_call 36; ((with_reducible refine (HF.out _ (Below.refl _ _)).mono ?_); rintro e w1 ⟨rfl, hb1⟩))
    go_ret2
    exact ⟨rfl, hb1⟩
end Go.Proofs.YteklahfgplbmcaaDoor.Hf

/- Values' bits. -/
namespace Go.Proofs.YteklahfgplbmcaaDoor.Hf
open Go Go.ChangeShapes Go.WideShapes Go.ChangeAt Go.RowKit Go.Proofs.YteklahfgplbmcaaDoor.Bk Go.Proofs.YteklahfgplbmcaaDoor.Bi Go.Proofs.YteklahfgplbmcaaDoor.Cr Go.Proofs.YteklahfgplbmcaaDoor.Fx

open Go.Proofs.YteklahfgplbmcaaDoor.BkRf Go.Proofs.YteklahfgplbmcaaDoor.BkPx
noncomputable def vX (i p : Int) (A B : List Int) (zs : List Int) : Int := if IsBk i p A B then eX i zs else 8
noncomputable def vZ (i p : Int) (A B : List Int) (zs : List Int) : List Int := if vX i p A B zs = 0 then vL B i p zs else []
theorem zo_len' {id : Nat} (h1 : 1 ≤ id) (h2 : id ≤ 12) : (zi (ord id)).length = Nn id := by rw [zi_len, ord_len h1 h2]
theorem isbk_nn {i p : Int} {A B : List Int} (h : IsBk i p A B) : ∃ id : Nat, i = id ∧ 1 ≤ id ∧ id ≤ 12 ∧ p = pl id ∧ A.length = Nn id ∧ B.length = Nn id ∧ 1 ≤ Nn id ∧ Nn id ≤ 289 ∧ A = zi (ord id) ∧ B = rkL id := by
  obtain ⟨id, rfl, h1, h2, rfl, rfl, rfl⟩ := h
  have f := facts h1 h2
  exact ⟨id, rfl, h1, h2, rfl, zo_len' h1 h2, rkL_len id, f.2.2.2.2.2.2.1, f.2.2.2.2.2.2.2.1, rfl, rfl⟩
theorem cd_30 {i p : Int} {A B : List Int} (n : Int) : (cdL i p A B n).length ≤ 30 := by
  unfold cdL
  by_cases hk : IsBk i p A B
  · rw [if_pos hk]
    by_cases hn : 0 ≤ n ∧ n < (B.length : Int)
    · rw [if_pos hn]
      obtain ⟨id, rfl, h1, h2, rfl, _, hB, _, _, _, rfl⟩ := isbk_nn hk
      obtain ⟨m, rfl⟩ : ∃ m : Nat, n = (m : Int) := ⟨n.toNat, by omega⟩
      rw [Int.toNat_natCast, Int.toNat_natCast]
      have hm : m < Nn id := by omega
      rw [rkL_get hm]
      have := (cd_19 h1 h2 ((ord_is h1 h2).rank hm).1).1
      show (cd (pl id) (rk id m : Int).toNat).length ≤ 30
      rw [Int.toNat_natCast]
      unfold rk; omega
    · rw [if_neg hn]; simp
  · rw [if_neg hk]; simp
theorem vX_ok {i p : Int} {A B zs : List Int} (hk : IsBk i p A B) (h : eX i zs = 0) : vX i p A B zs = 0 ∧ vZ i p A B zs = vL B i p zs ∧ cdX i p A B (eE i zs) = 0 ∧ cdL i p A B (eE i zs) = cd p.toNat (B.getD (eE i zs).toNat 0).toNat := by
  have e0 : vX i p A B zs = 0 := by unfold vX; rw [if_pos hk, h]
  obtain ⟨id, n, rfl, h1, h2, _, _, en, hn, _⟩ := eE_ok h
  obtain ⟨id', e, _, _, _, _, hB, _⟩ := isbk_nn hk
  obtain rfl : id = id' := by omega
  have hin : 0 ≤ eE (id : Int) zs ∧ eE (id : Int) zs < (B.length : Int) := by rw [en]; omega
  refine ⟨e0, by unfold vZ; rw [if_pos e0], ?_, ?_⟩
  · unfold cdX; rw [if_pos hk, if_pos hin]
  · unfold cdL; rw [if_pos hk, if_pos hin]
theorem vX_bad {i p : Int} {A B zs : List Int} (hk : IsBk i p A B) (h : eX i zs ≠ 0) : vX i p A B zs = eX i zs ∧ vZ i p A B zs = [] ∧ cdX i p A B (eE i zs) = 0 := by
  have e0 : vX i p A B zs = eX i zs := by unfold vX; rw [if_pos hk]
  obtain ⟨id', e, _, _, _, _, hB, h0, _⟩ := isbk_nn hk
  refine ⟨e0, by unfold vZ; rw [if_neg (by rw [e0]; exact h)], ?_⟩
  unfold cdX eE
  rw [if_pos hk, if_neg h, if_pos (by omega)]
theorem vX_no {i p : Int} {A B zs : List Int} (hk : ¬ IsBk i p A B) : vX i p A B zs = 8 ∧ vZ i p A B zs = [] ∧ cdX i p A B (eE i zs) = 8 := by
  have e0 : vX i p A B zs = 8 := by unfold vX; rw [if_neg hk]
  refine ⟨e0, by unfold vZ; rw [if_neg (by rw [e0]; decide)], ?_⟩
  unfold cdX
  rw [if_neg hk]
theorem own_ne {b2 n : Nat} {w : World} {v : Value} {zs : List Int} (h : Cr.Own b2 w v zs) (hn : n < b2) : v.ownBlock ≠ some n := fun e => by
  have := (World.ownsRow.lt h n e).1
  omega
theorem keep_grown {w w3 w4 : World} {a b c d v : Value} {zs : List Int} (h : Below (w.alloc (.cells #[a, b, c, d] 24)).heap.size (w.alloc (.cells #[a, b, c, d] 24)) w3) (_ : Cr.Own w.heap.size w3 v zs) (hg : w3.grownBy w4 v.ownBlock) (hv : v.ownBlock ≠ some w.heap.size) :
    w4.cell? ⟨w.heap.size, 0, none⟩ = some a ∧ w4.cell? ⟨w.heap.size, 1, none⟩ = some b ∧ w4.cell? ⟨w.heap.size, 2, none⟩ = some c ∧ w4.cell? ⟨w.heap.size, 3, none⟩ = some d := by
  obtain ⟨q0, q1, q2, q3⟩ := bx1 h
  have hb : w4.heap[w.heap.size]? = w3.heap[w.heap.size]? := hg.block _ (by have := h.size; simp at this; omega) (fun e => hv e.symm)
  have hc : ∀ k, w4.cell? ⟨w.heap.size, k, none⟩ = w3.cell? ⟨w.heap.size, k, none⟩ := fun k => World.cell?_of_block (w := w3) (a := ⟨w.heap.size, k, none⟩) hb
  exact ⟨(hc 0).trans q0, (hc 1).trans q1, (hc 2).trans q2, (hc 3).trans q3⟩
set_option maxRecDepth 100000 in
set_option maxHeartbeats 8000000 in
theorem vbits_any (i p : Int) (a1 a2 : Option Addr) (c1 c2 : Nat) (A B : List Int) (v : Value) (zs : List Int) (w : World) (hs : Sh w) (hm : Hm w) (r1 : Rd w (.slice a1 A.length c1) A) (r2 : Rd w (.slice a2 B.length c2) B) (rv : Rd w v zs) (hl : zs.length ≤ maxLen) (hb : ∀ z ∈ zs, -9223372036854775808 ≤ z ∧ z ≤ 9223372036854775807) :
    Calls Tryd.prog 64 #[.agg #[.int .i64 i, .int .i64 p, .slice a1 A.length c1, .slice a2 B.length c2], v] w fun e w' => ∃ v', e = .returned (.tuple #[v', .int .i64 (vX i p A B zs)]) ∧ Cr.Own w.heap.size w' v' (vZ i p A B zs) ∧ Below w.heap.size w w' := by
  have HB := Lib.hid (al w (.cells #[.int .i64 i, .int .i64 p, .slice a1 A.length c1, .slice a2 B.length c2] 24))
  have HX := Lib.hid (fun x h => bx1 (w := w) (a := .int .i64 i) (b := .int .i64 p) (c := .slice a1 A.length c1) (d := .slice a2 B.length c2) (x := x) h)
  obtain ⟨p0, p1, p2, p3⟩ := HX.out _ (Below.refl _ _)
  have H89 := Lib.hid (fun x (h : Below w.heap.size w x) => entryOf_any i v zs x (hs.below h) (hm.below h) (rv.below h) hl hb)
  have H16 := Lib.hid (fun x (h : Below w.heap.size w x) => pcd_any i p (eE i zs) a1 a2 c1 c2 A B x (hs.below h) (r1.below h) (r2.below h))
  have H70 := Lib.hid (fun x => signed_ok i x)
  by_cases hk : IsBk i p A B
  · by_cases hx : eX i zs = 0
    · obtain ⟨e1, e2, e3, e4⟩ := vX_ok hk hx
      obtain ⟨id, n0, rfl, h1, h2, hzl, hzb, hzz⟩ := eE_ok hx
      clear hzz n0
      obtain ⟨l0, l1, _⟩ := lims h1 h2
      have hz4 : zs.length ≤ 4 := by rw [hzl]; exact (facts h1 (by omega)).2.2.2.2.1
      have hz8 : ∀ z ∈ zs, -8191 ≤ z ∧ z ≤ 8191 := fun z hz => by have := hzb z hz; omega
      have H90 := Lib.hid (fun x (h : Below w.heap.size w x) => signs_ok v zs x (by omega) (rv.below h))
      have H91 := Lib.hid (fun x (h : Below w.heap.size w x) => escapes_ok v zs x hz4 hz8 (rv.below h))
      have h30 := cd_30 (i := (id : Int)) (p := p) (A := A) (B := B) (eE id zs)
      have hE := esc_len zs hz8
      have hS := sgn_len zs
      rw [e1, e2]
      rw [e3] at H16
      have HV : Hid (vL B id p zs = cdL id p A B (eE id zs) ++ ((if sgd id then [] else sgn zs) ++ (if (id : Int) = 11 then esc zs else []))) := Lib.hid (by rw [e4]; rfl)
      rw [hx] at H89
      generalize cdL id p A B (eE id zs) = L at *
      generalize eE (id : Int) zs = n at *
      have HLn : Hid (L.length ≤ 30 ∧ (esc zs).length ≤ 84 ∧ (sgn zs).length ≤ 4) := Lib.hid ⟨h30, by omega, by omega⟩
      clear e1 e2 e3 e4 hx hk hs hm r1 r2 rv hl hb hzl hzb hz4 hz8 h30 hE hS l0 l1
      cases hsg : sgd (id : Int)
      · rw [hsg] at H70 HV
        simp only [Bool.false_eq_true, if_false] at HV
        by_cases h11 : (id : Int) = 11
        · rw [if_pos h11] at HV
          clear h1 h2 hsg
          generalize (id : Int) = I at *
          subst h11
          rw [HV.out]
          go_enter Tryd.func64, Tryd.ntmps64
          go_wp2_with first
            | (go_at_call 89; ((with_reducible refine (H89.out _ HB.out).mono ?_); rintro e w1 ⟨rfl, hb⟩; have B1 := Lib.hid (bT HB.out hb); have X1 := Lib.hid hb; clear p0 p1 p2 p3; obtain ⟨p0, p1, p2, p3⟩ := HX.out w1 X1.out; clear hb))
            | (go_at_call 16; ((with_reducible refine (H16.out _ B1.out).mono ?_); rintro e w2 ⟨v2, rfl, ho2, hb⟩; have O2 := Lib.hid (own8_rebase ho2 B1.out.size); have HSZ : Hid (v2.ownBlock ≠ some w.heap.size) := Lib.hid (own_ne ho2 (by have := X1.out.size; simp at this; omega)); have B2 := Lib.hid (bT B1.out hb); have X2 := Lib.hid (bT X1.out hb); clear p0 p1 p2 p3 ho2; obtain ⟨p0, p1, p2, p3⟩ := HX.out w2 X2.out; clear hb))
            | (go_at_call 70; ((with_reducible refine (H70.out _).mono ?_); rintro e w8 ⟨rfl, rfl⟩))
            | (go_at_call 90; ((with_reducible refine (H90.out _ B2.out).mono ?_); rintro e w3 ⟨v3, rfl, ho3, hb⟩; have O3 := Lib.hid (own_src ho3); have O23 := Lib.hid (Cr.Own.below O2.out hb); have B3 := Lib.hid (bT B2.out hb); have X3 := Lib.hid (bT X2.out hb); clear p0 p1 p2 p3 ho3; obtain ⟨p0, p1, p2, p3⟩ := HX.out w3 X3.out; clear hb))
            | (at_builtin; refine wpList_append_src _ rfl (.tmp 33) (.tmp 35) rfl w.heap.size _ L rfl O23.out _ (sgn zs) rfl O3.out (by have := HLn.out; omega) B3.out.size ?_; intro v4 w4 ho4 hg4 _; have O4 := Lib.hid ho4; have B4 := Lib.hid (Go.Proofs.YteklahfgplbmcaaDoor.Cr.below_grown B3.out O23.out (Nat.le_refl _) hg4); have K4 := Lib.hid (keep_grown X3.out O23.out hg4 HSZ.out); clear p0 p1 p2 p3 ho4 hg4; obtain ⟨p0, p1, p2, p3⟩ := K4.out)
            | (go_at_call 91; ((with_reducible refine (H91.out _ B4.out).mono ?_); rintro e w5 ⟨v5, rfl, ho5, hb⟩; have O5 := Lib.hid (own_src ho5); have O45 := Lib.hid (Cr.Own.below O4.out hb); have B5 := Lib.hid (bT B4.out hb); clear ho5 hb))
            | (at_builtin; refine wpList_append_src _ rfl (.tmp 40) (.tmp 42) rfl w.heap.size _ _ rfl O45.out _ (esc zs) rfl O5.out (by have := HLn.out; rw [List.length_append]; omega) B5.out.size ?_; intro v6 w6 ho6 hg6 _; have O6 := Lib.hid ho6; have B6 := Lib.hid (Go.Proofs.YteklahfgplbmcaaDoor.Cr.below_grown B5.out O45.out (Nat.le_refl _) hg6); clear ho6 hg6)
          go_ret2
          exact ⟨_, rfl, by rw [← List.append_assoc]; exact O6.out, B6.out⟩
        · rw [if_neg h11, List.append_nil] at HV
          have h11b : ((id : Int) == 11) = false := by simp [h11]
          clear h1 h2 hsg h11
          generalize (id : Int) = I at *
          rw [HV.out]
          go_enter Tryd.func64, Tryd.ntmps64
          go_wp2_with first
            | (go_at_call 89; ((with_reducible refine (H89.out _ HB.out).mono ?_); rintro e w1 ⟨rfl, hb⟩; have B1 := Lib.hid (bT HB.out hb); have X1 := Lib.hid hb; clear p0 p1 p2 p3; obtain ⟨p0, p1, p2, p3⟩ := HX.out w1 X1.out; clear hb))
            | (go_at_call 16; ((with_reducible refine (H16.out _ B1.out).mono ?_); rintro e w2 ⟨v2, rfl, ho2, hb⟩; have O2 := Lib.hid (own8_rebase ho2 B1.out.size); have HSZ : Hid (v2.ownBlock ≠ some w.heap.size) := Lib.hid (own_ne ho2 (by have := X1.out.size; simp at this; omega)); have B2 := Lib.hid (bT B1.out hb); have X2 := Lib.hid (bT X1.out hb); clear p0 p1 p2 p3 ho2; obtain ⟨p0, p1, p2, p3⟩ := HX.out w2 X2.out; clear hb))
            | (go_at_call 70; ((with_reducible refine (H70.out _).mono ?_); rintro e w8 ⟨rfl, rfl⟩))
            | (go_at_call 90; ((with_reducible refine (H90.out _ B2.out).mono ?_); rintro e w3 ⟨v3, rfl, ho3, hb⟩; have O3 := Lib.hid (own_src ho3); have O23 := Lib.hid (Cr.Own.below O2.out hb); have B3 := Lib.hid (bT B2.out hb); have X3 := Lib.hid (bT X2.out hb); clear p0 p1 p2 p3 ho3; obtain ⟨p0, p1, p2, p3⟩ := HX.out w3 X3.out; clear hb))
            | (at_builtin; refine wpList_append_src _ rfl (.tmp 33) (.tmp 35) rfl w.heap.size _ L rfl O23.out _ (sgn zs) rfl O3.out (by have := HLn.out; omega) B3.out.size ?_; intro v4 w4 ho4 hg4 _; have O4 := Lib.hid ho4; have B4 := Lib.hid (Go.Proofs.YteklahfgplbmcaaDoor.Cr.below_grown B3.out O23.out (Nat.le_refl _) hg4); have K4 := Lib.hid (keep_grown X3.out O23.out hg4 HSZ.out); clear p0 p1 p2 p3 ho4 hg4; obtain ⟨p0, p1, p2, p3⟩ := K4.out)
          go_ret2
          exact ⟨_, rfl, O4.out, B4.out⟩
      · rw [hsg] at H70 HV
        simp only [if_true] at HV
        have h11b : ((id : Int) == 11) = false := by
          have : id ≠ 11 := by intro h; subst h; exact absurd hsg (by decide)
          simp; omega
        rw [if_neg (by simpa using h11b), List.append_nil, List.append_nil] at HV
        clear h1 h2 hsg H90 H91
        generalize (id : Int) = I at *
        rw [HV.out]
        go_enter Tryd.func64, Tryd.ntmps64
        go_wp2_with first
          | (go_at_call 89; ((with_reducible refine (H89.out _ HB.out).mono ?_); rintro e w1 ⟨rfl, hb⟩; have B1 := Lib.hid (bT HB.out hb); have X1 := Lib.hid hb; clear p0 p1 p2 p3; obtain ⟨p0, p1, p2, p3⟩ := HX.out w1 X1.out; clear hb))
          | (go_at_call 16; ((with_reducible refine (H16.out _ B1.out).mono ?_); rintro e w2 ⟨v2, rfl, ho2, hb⟩; have O2 := Lib.hid (own8_rebase ho2 B1.out.size); have HSZ : Hid (v2.ownBlock ≠ some w.heap.size) := Lib.hid (own_ne ho2 (by have := X1.out.size; simp at this; omega)); have B2 := Lib.hid (bT B1.out hb); have X2 := Lib.hid (bT X1.out hb); clear p0 p1 p2 p3 ho2; obtain ⟨p0, p1, p2, p3⟩ := HX.out w2 X2.out; clear hb))
          | (go_at_call 70; ((with_reducible refine (H70.out _).mono ?_); rintro e w8 ⟨rfl, rfl⟩))
        go_ret2
        exact ⟨_, rfl, O2.out, B2.out⟩
    · obtain ⟨e1, e2, e3⟩ := vX_bad hk hx
      rw [e1, e2]
      rw [e3] at H16
      have hne : (eX i zs == 0) = false := by simp [hx]
      generalize eX i zs = X at *
      generalize cdL i p A B (eE i zs) = L at *
      generalize eE i zs = n at *
      clear e1 e2 e3 hk hs hm r1 r2 rv hl hb
      go_enter Tryd.func64, Tryd.ntmps64
      go_wp2_with first
        | (go_at_call 89; ((with_reducible refine (H89.out _ HB.out).mono ?_); rintro e w1 ⟨rfl, hb⟩; have B1 := Lib.hid (bT HB.out hb); have X1 := Lib.hid hb; clear p0 p1 p2 p3; obtain ⟨p0, p1, p2, p3⟩ := HX.out w1 X1.out; clear hb))
        | (go_at_call 16; ((with_reducible refine (H16.out _ B1.out).mono ?_); rintro e w2 ⟨v2, rfl, ho2, hb⟩; have O2 := Lib.hid (own8_rebase ho2 B1.out.size); have HSZ : Hid (v2.ownBlock ≠ some w.heap.size) := Lib.hid (own_ne ho2 (by have := X1.out.size; simp at this; omega)); have B2 := Lib.hid (bT B1.out hb); have X2 := Lib.hid (bT X1.out hb); clear p0 p1 p2 p3 ho2; obtain ⟨p0, p1, p2, p3⟩ := HX.out w2 X2.out; clear hb))
      go_ret2
      exact ⟨_, rfl, own8n _ _, B2.out⟩
  · obtain ⟨e1, e2, e3⟩ := vX_no (zs := zs) hk
    rw [e1, e2]
    rw [e3] at H16
    generalize eX i zs = X at *
    generalize cdL i p A B (eE i zs) = L at *
    generalize eE i zs = n at *
    clear e1 e2 e3 hk hs hm r1 r2 rv hl hb
    go_enter Tryd.func64, Tryd.ntmps64
    go_wp2_with first
      | (go_at_call 89; ((with_reducible refine (H89.out _ HB.out).mono ?_); rintro e w1 ⟨rfl, hb⟩; have B1 := Lib.hid (bT HB.out hb); have X1 := Lib.hid hb; clear p0 p1 p2 p3; obtain ⟨p0, p1, p2, p3⟩ := HX.out w1 X1.out; clear hb))
      | (go_at_call 16; ((with_reducible refine (H16.out _ B1.out).mono ?_); rintro e w2 ⟨v2, rfl, ho2, hb⟩; have O2 := Lib.hid (own8_rebase ho2 B1.out.size); have HSZ : Hid (v2.ownBlock ≠ some w.heap.size) := Lib.hid (own_ne ho2 (by have := X1.out.size; simp at this; omega)); have B2 := Lib.hid (bT B1.out hb); have X2 := Lib.hid (bT X1.out hb); clear p0 p1 p2 p3 ho2; obtain ⟨p0, p1, p2, p3⟩ := HX.out w2 X2.out; clear hb))
    go_ret2
    exact ⟨_, rfl, own8n _ _, B2.out⟩
end Go.Proofs.YteklahfgplbmcaaDoor.Hf

/- Put and Cost, of whatever book. -/
namespace Go.Proofs.YteklahfgplbmcaaDoor.Hf
open Go Go.ChangeShapes Go.WideShapes Go.ChangeAt Go.RowKit Go.Proofs.YteklahfgplbmcaaDoor.Bk Go.Proofs.YteklahfgplbmcaaDoor.Bi Go.Proofs.YteklahfgplbmcaaDoor.Cr Go.Proofs.YteklahfgplbmcaaDoor.Fx

open Go.Proofs.YteklahfgplbmcaaDoor.BkRf Go.Proofs.YteklahfgplbmcaaDoor.BkPx
theorem vZ_len (i p : Int) (A B zs : List Int) : (vZ i p A B zs).length ≤ 120 := by
  unfold vZ
  by_cases h : vX i p A B zs = 0
  · rw [if_pos h]
    have hk : IsBk i p A B := by
      by_cases hk : IsBk i p A B
      · exact hk
      · rw [(vX_no (zs := zs) hk).1] at h; exact absurd h (by decide)
    have hx : eX i zs = 0 := by
      unfold vX at h; rwa [if_pos hk] at h
    obtain ⟨_, _, _, e4⟩ := vX_ok hk hx
    have h30 := cd_30 (i := i) (p := p) (A := A) (B := B) (eE i zs)
    rw [e4] at h30
    obtain ⟨id, n, rfl, h1, h2, hzl, hzb, _⟩ := eE_ok hx
    obtain ⟨l0, l1, _⟩ := lims h1 h2
    have hz4 : zs.length ≤ 4 := by rw [hzl]; exact (facts h1 (by omega)).2.2.2.2.1
    have hE := esc_len zs (fun z hz => by have := hzb z hz; omega)
    have hS := sgn_len zs
    unfold vL
    rw [List.length_append, List.length_append]
    have q1 : (if sgd (id : Int) = true then [] else sgn zs).length ≤ 4 := by
      split
      · exact Nat.zero_le _
      · omega
    have q2 : (if (id : Int) = 11 then esc zs else []).length ≤ 84 := by
      split
      · omega
      · exact Nat.zero_le _
    omega
  · rw [if_neg h]; simp
/-- What Put answers. -/
noncomputable def pZ (zb : List Int) (i p : Int) (A B : List Int) (zs : List Int) : List Int := if vX i p A B zs = 0 then zb ++ vZ i p A B zs else []
set_option maxRecDepth 100000 in
set_option maxHeartbeats 4000000 in
theorem put_any (vb : Value) (zb : List Int) (i p : Int) (a1 a2 : Option Addr) (c1 c2 : Nat) (A B : List Int) (v : Value) (zs : List Int) (w : World) (hs : Sh w) (hm : Hm w) (r1 : Rd w (.slice a1 A.length c1) A) (r2 : Rd w (.slice a2 B.length c2) B) (rv : Rd w v zs) (hl : zs.length ≤ maxLen) (hb : ∀ z ∈ zs, -9223372036854775808 ≤ z ∧ z ≤ 9223372036854775807) (sb : Src8 w vb zb) (lb : zb.length ≤ 20000) :
    Calls Tryd.prog 30 #[vb, .agg #[.int .i64 i, .int .i64 p, .slice a1 A.length c1, .slice a2 B.length c2], v] w fun e w' => ∃ v', e = .returned (.tuple #[v', .int .i64 (vX i p A B zs)]) ∧ Cr.Own w.heap.size w' v' (pZ zb i p A B zs) ∧ Below w.heap.size w w' := by
  have HB := Lib.hid (al w (.cells #[.int .i64 i, .int .i64 p, .slice a1 A.length c1, .slice a2 B.length c2] 24))
  obtain ⟨p0, p1, p2, p3⟩ := bx1 (w := w) (a := .int .i64 i) (b := .int .i64 p) (c := .slice a1 A.length c1) (d := .slice a2 B.length c2) (Below.refl _ _)
  have H64 := Lib.hid (fun x (h : Below w.heap.size w x) => vbits_any i p a1 a2 c1 c2 A B v zs x (hs.below h) (hm.below h) (r1.below h) (r2.below h) (rv.below h) hl hb)
  have hz := vZ_len i p A B zs
  have HJ := Lib.hid (fun (x : World) (v2 : Value) (h : Below w.heap.size w x) (h2 : Src8 x v2 (vZ i p A B zs)) => join_ok vb v2 zb (vZ i p A B zs) x (sb.below h) h2 lb (by omega))
  have HP : Hid (vX i p A B zs = 0 → pZ zb i p A B zs = zb ++ vZ i p A B zs) := Lib.hid fun h => by unfold pZ; rw [if_pos h]
  have HN : Hid (vX i p A B zs ≠ 0 → pZ zb i p A B zs = []) := Lib.hid fun h => by unfold pZ; rw [if_neg h]
  generalize vX i p A B zs = X at *
  generalize vZ i p A B zs = Z at *
  generalize pZ zb i p A B zs = T at *
  clear hs hm r1 r2 rv hl hb sb lb hz
  by_cases hX : X = 0
  · have HT := Lib.hid (HP.out hX)
    subst hX
    clear HP HN
    go_enter Tryd.func30, Tryd.ntmps30
    go_wp2_with first
      | (go_at_call 64; ((with_reducible refine (H64.out _ HB.out).mono ?_); rintro e w1 ⟨v1, rfl, ho1, hb⟩; have O1 := Lib.hid (own_src ho1); have B1 := Lib.hid (bT HB.out hb); clear ho1 hb))
      | (go_at_call 65; ((with_reducible refine (HJ.out _ _ B1.out O1.out).mono ?_); rintro e w2 ⟨v2, rfl, ho2, hb⟩; have O2 := Lib.hid (own8_rebase ho2 B1.out.size); have B2 := Lib.hid (bT B1.out hb); clear ho2 hb))
    go_ret2
    exact ⟨_, rfl, by rw [HT.out]; exact O2.out, B2.out⟩
  · have HT := Lib.hid (HN.out hX)
    have hne : (X == 0) = false := by simp [hX]
    clear HP HN HJ
    go_enter Tryd.func30, Tryd.ntmps30
    go_wp2_with first
      | (go_at_call 64; ((with_reducible refine (H64.out _ HB.out).mono ?_); rintro e w1 ⟨v1, rfl, ho1, hb⟩; have B1 := Lib.hid (bT HB.out hb); clear ho1 hb))
    go_ret2
    exact ⟨_, rfl, by rw [HT.out]; exact own8n _ _, B1.out⟩
set_option maxRecDepth 100000 in
set_option maxHeartbeats 4000000 in
theorem cost_any (i p : Int) (a1 a2 : Option Addr) (c1 c2 : Nat) (A B : List Int) (v : Value) (zs : List Int) (w : World) (hs : Sh w) (hm : Hm w) (r1 : Rd w (.slice a1 A.length c1) A) (r2 : Rd w (.slice a2 B.length c2) B) (rv : Rd w v zs) (hl : zs.length ≤ maxLen) (hb : ∀ z ∈ zs, -9223372036854775808 ≤ z ∧ z ≤ 9223372036854775807) :
    Calls Tryd.prog 34 #[.agg #[.int .i64 i, .int .i64 p, .slice a1 A.length c1, .slice a2 B.length c2], v] w fun e w' => e = .returned (.tuple #[.int .i64 ((vZ i p A B zs).length : Nat), .int .i64 (vX i p A B zs)]) ∧ Below w.heap.size w w' := by
  have HB := Lib.hid (al w (.cells #[.int .i64 i, .int .i64 p, .slice a1 A.length c1, .slice a2 B.length c2] 24))
  obtain ⟨p0, p1, p2, p3⟩ := bx1 (w := w) (a := .int .i64 i) (b := .int .i64 p) (c := .slice a1 A.length c1) (d := .slice a2 B.length c2) (Below.refl _ _)
  have H64 := Lib.hid (fun x (h : Below w.heap.size w x) => vbits_any i p a1 a2 c1 c2 A B v zs x (hs.below h) (hm.below h) (r1.below h) (r2.below h) (rv.below h) hl hb)
  generalize vX i p A B zs = X at *
  generalize vZ i p A B zs = Z at *
  clear hs hm r1 r2 rv hl hb
  go_enter Tryd.func34, Tryd.ntmps34
  go_wp2_with first
    | (go_at_call 64; ((with_reducible refine (H64.out _ HB.out).mono ?_); rintro e w1 ⟨v1, rfl, ho1, hb⟩; obtain ⟨a9, c9, rfl⟩ := (own_src ho1).shape; have B1 := Lib.hid (bT HB.out hb); clear ho1 hb))
  go_ret2
  exact ⟨rfl, B1.out⟩
theorem isbk_of {id : Nat} (h1 : 1 ≤ id) (h2 : id ≤ 12) : IsBk id (pl id) (zi (ord id)) (rkL id) := ⟨id, rfl, h1, h2, rfl, rfl, rfl⟩
theorem get_bk {id : Nat} (h1 : 1 ≤ id) (h2 : id ≤ 12) (w : World) (hs : Sh w) : Calls Tryd.prog 15 #[.int .i64 id] w fun e w' => ∃ a1 c1 a2 c2, e = .returned (.tuple #[.agg #[.int .i64 id, .int .i64 (pl id), .slice a1 (zi (ord id)).length c1, .slice a2 (rkL id).length c2], .int .i64 0]) ∧ Rd w' (.slice a1 (zi (ord id)).length c1) (zi (ord id)) ∧ Rd w' (.slice a2 (rkL id).length c2) (rkL id) ∧ Below w.heap.size w w' := by
  have f8 : Nn id ≤ 289 := (facts h1 h2).2.2.2.2.2.2.2.1
  refine (get_ok id w h1 h2 hs).mono ?_
  rintro e w' ⟨v, rfl, ⟨E, R, rfl, _, _, hE, hR⟩, hb⟩
  rw [zo_len' h1 h2, rkL_len]
  exact ⟨_, _, _, _, rfl, rd_row hE (zo_len' h1 h2) (by unfold maxLen; omega) (fun j _ => by
    unfold ordI zi
    simp only [List.getD_eq_getElem?_getD, List.getElem?_map]
    cases (ord id)[j]? <;> rfl), rd_row hR (rkL_len id) (by unfold maxLen; omega) (fun j hj => (rkL_get hj).symm), hb⟩
end Go.Proofs.YteklahfgplbmcaaDoor.Hf

/- The examples that stand ahead of each statement. -/
namespace Go.Proofs.YteklahfgplbmcaaDoor.Hf
open Go Go.ChangeShapes Go.WideShapes Go.ChangeAt Go.RowKit Go.Proofs.YteklahfgplbmcaaDoor.Bk Go.Proofs.YteklahfgplbmcaaDoor.Bi Go.Proofs.YteklahfgplbmcaaDoor.Cr Go.Proofs.YteklahfgplbmcaaDoor.Fx

open Go.Proofs.YteklahfgplbmcaaDoor.BkRf Go.Proofs.YteklahfgplbmcaaDoor.BkPx
theorem one_put : pZ [] (1 : Nat) (pl 1) (zi (ord 1)) (rkL 1) [0, 0, 0, 0] = [1] ∧ vX (1 : Nat) (pl 1) (zi (ord 1)) (rkL 1) [0, 0, 0, 0] = 0 := by
  obtain ⟨e1, e2, _, _⟩ := vX_ok (zs := [0, 0, 0, 0]) (isbk_of (id := 1) (by decide) (by decide)) (by decide)
  refine ⟨?_, e1⟩
  unfold pZ
  rw [if_pos e1, e2]
  decide +kernel
theorem last_put : pZ [] (11 : Nat) (pl 11) (zi (ord 11)) (rkL 11) [0, 0] = [1, 0, 0] ∧ vX (11 : Nat) (pl 11) (zi (ord 11)) (rkL 11) [0, 0] = 0 := by
  obtain ⟨e1, e2, _, _⟩ := vX_ok (zs := [0, 0]) (isbk_of (id := 11) (by decide) (by decide)) (by decide)
  refine ⟨?_, e1⟩
  unfold pZ
  rw [if_pos e1, e2]
  decide +kernel
theorem al_b {w x : World} {o : Obj} (h : Below w.heap.size w x) : Below w.heap.size w (x.alloc o) := h.alloc h.size o
theorem bkeep {x y : World} {a1 : Option Addr} {n1 c1 : Nat} {a2 : Option Addr} {n2 c2 : Nat} {A B : List Int} {P Q : Prop} (h : Hid (P ∧ Q ∧ Rd x (.slice a1 n1 c1) A ∧ Rd x (.slice a2 n2 c2) B)) (hb : Below x.heap.size x y) : Hid (P ∧ Q ∧ Rd y (.slice a1 n1 c1) A ∧ Rd y (.slice a2 n2 c2) B) := Lib.hid ⟨h.out.1, h.out.2.1, h.out.2.2.1.below hb, h.out.2.2.2.below hb⟩
theorem src_nil (w : World) : Src8 w (.slice none 0 0) [] := .inl ⟨rfl, rfl⟩
set_option maxRecDepth 100000 in
set_option maxHeartbeats 8000000 in
theorem alive_ok (w : World) (hs : Sh w) (hm : Hm w) : Calls Tryd.prog 44 #[] w fun e w' => e = .returned (.bool true) ∧ Below w.heap.size w w' := by
  have G1 : Hid (∀ x, Below w.heap.size w x → Calls Tryd.prog 15 #[.int .i64 1] x fun e w' => ∃ a1 n1 c1 a2 n2 c2, e = .returned (.tuple #[.agg #[.int .i64 1, .int .i64 0, .slice a1 n1 c1, .slice a2 n2 c2], .int .i64 0]) ∧ Hid (n1 = (zi (ord 1)).length ∧ n2 = (rkL 1).length ∧ Rd w' (.slice a1 n1 c1) (zi (ord 1)) ∧ Rd w' (.slice a2 n2 c2) (rkL 1)) ∧ Below x.heap.size x w') := Lib.hid fun x h => (get_bk (id := 1) (by decide) (by decide) x (hs.below h)).mono fun e w' ⟨a1, c1, a2, c2, e1, r1, r2, b⟩ => ⟨a1, _, c1, a2, _, c2, e1, Lib.hid ⟨rfl, rfl, r1, r2⟩, b⟩
  have G2 : Hid (∀ x, Below w.heap.size w x → Calls Tryd.prog 15 #[.int .i64 11] x fun e w' => ∃ a1 n1 c1 a2 n2 c2, e = .returned (.tuple #[.agg #[.int .i64 11, .int .i64 2, .slice a1 n1 c1, .slice a2 n2 c2], .int .i64 0]) ∧ Hid (n1 = (zi (ord 11)).length ∧ n2 = (rkL 11).length ∧ Rd w' (.slice a1 n1 c1) (zi (ord 11)) ∧ Rd w' (.slice a2 n2 c2) (rkL 11)) ∧ Below x.heap.size x w') := Lib.hid fun x h => (get_bk (id := 11) (by decide) (by decide) x (hs.below h)).mono fun e w' ⟨a1, c1, a2, c2, e1, r1, r2, b⟩ => ⟨a1, _, c1, a2, _, c2, e1, Lib.hid ⟨rfl, rfl, r1, r2⟩, b⟩
  have P1 : Hid (∀ (x : World) (a1 : Option Addr) (n1 c1 : Nat) (a2 : Option Addr) (n2 c2 : Nat) (v : Value), Below w.heap.size w x → Hid (n1 = (zi (ord 1)).length ∧ n2 = (rkL 1).length ∧ Rd x (.slice a1 n1 c1) (zi (ord 1)) ∧ Rd x (.slice a2 n2 c2) (rkL 1)) → Rd x v [0, 0, 0, 0] → Calls Tryd.prog 30 #[.slice none 0 0, .agg #[.int .i64 1, .int .i64 0, .slice a1 n1 c1, .slice a2 n2 c2], v] x fun e w' => ∃ v', e = .returned (.tuple #[v', .int .i64 0]) ∧ Src8 w' v' [1] ∧ Below x.heap.size x w') := Lib.hid fun x a1 n1 c1 a2 n2 c2 v hb hh hv => by
    obtain ⟨rfl, rfl, r1, r2⟩ := hh.out
    refine (put_any (.slice none 0 0) [] (1 : Nat) (pl 1) a1 a2 c1 c2 (zi (ord 1)) (rkL 1) v [0, 0, 0, 0] x (hs.below hb) (hm.below hb) r1 r2 hv (by decide) (by decide) (src_nil x) (by decide)).mono ?_
    rintro e w' ⟨v', rfl, ho, hb⟩
    rw [one_put.1] at ho
    rw [one_put.2]
    exact ⟨v', rfl, own_src ho, hb⟩
  have P2 : Hid (∀ (x : World) (a1 : Option Addr) (n1 c1 : Nat) (a2 : Option Addr) (n2 c2 : Nat) (v : Value), Below w.heap.size w x → Hid (n1 = (zi (ord 11)).length ∧ n2 = (rkL 11).length ∧ Rd x (.slice a1 n1 c1) (zi (ord 11)) ∧ Rd x (.slice a2 n2 c2) (rkL 11)) → Rd x v [0, 0] → Calls Tryd.prog 30 #[.slice none 0 0, .agg #[.int .i64 11, .int .i64 2, .slice a1 n1 c1, .slice a2 n2 c2], v] x fun e w' => ∃ v', e = .returned (.tuple #[v', .int .i64 0]) ∧ Src8 w' v' [1, 0, 0] ∧ Below x.heap.size x w') := Lib.hid fun x a1 n1 c1 a2 n2 c2 v hb hh hv => by
    obtain ⟨rfl, rfl, r1, r2⟩ := hh.out
    refine (put_any (.slice none 0 0) [] (11 : Nat) (pl 11) a1 a2 c1 c2 (zi (ord 11)) (rkL 11) v [0, 0] x (hs.below hb) (hm.below hb) r1 r2 hv (by decide) (by decide) (src_nil x) (by decide)).mono ?_
    rintro e w' ⟨v', rfl, ho, hb⟩
    rw [last_put.1] at ho
    rw [last_put.2]
    exact ⟨v', rfl, own_src ho, hb⟩
  have HR4 : Hid (∀ w : World, Rd (w.alloc (.cells #[.int .i64 0, .int .i64 0, .int .i64 0, .int .i64 0] 3)) (.slice (some ⟨w.heap.size, 0, none⟩) 4 4) [0, 0, 0, 0]) := Lib.hid fun w => rd_new w [0, 0, 0, 0] (by decide)
  have HR4b : Hid (∀ (w : World) (o : Obj), Rd ((w.alloc o).alloc (.cells #[.int .i64 0, .int .i64 0, .int .i64 0, .int .i64 0] 3)) (.slice (some ⟨w.heap.size + 1, 0, none⟩) 4 4) [0, 0, 0, 0]) := Lib.hid fun w o => by have := HR4.out (w.alloc o); rwa [show (w.alloc o).heap.size = w.heap.size + 1 by simp] at this
  have HR2 : Hid (∀ w : World, Rd (w.alloc (.cells #[.int .i64 0, .int .i64 0] 3)) (.slice (some ⟨w.heap.size, 0, none⟩) 2 2) [0, 0]) := Lib.hid fun w => rd_new w [0, 0] (by decide)
  have e1 : (strOfNums [1]).toList = [1] := by first | rfl | decide +kernel | simp [strOfNums]
  have e2 : (strOfNums [1, 0, 0]).toList = [1, 0, 0] := by first | rfl | decide +kernel | simp [strOfNums]
  clear hs hm
  go_enter Tryd.func44, Tryd.ntmps44
  go_wp2_with first
    | (go_at_call 15; ((with_reducible refine (G1.out _ (Below.refl _ _)).mono ?_); rintro e w1 ⟨a1, n1, c1, a2, n2, c2, rfl, K1, hb⟩; have B1 := Lib.hid hb; clear hb))
    | (go_at_call 15; ((with_reducible refine (G2.out _ (al_b B1.out)).mono ?_); rintro e w2 ⟨a3, n3, c3, a4, n4, c4, rfl, K2, hb⟩; have B2 := Lib.hid (bT (al_b B1.out) hb); have X2 := Lib.hid hb; have D1 := Lib.hid (bT (al w1 (.cells #[.int .i64 1, .int .i64 0, .slice a1 n1 c1, .slice a2 n2 c2] 24)) hb); clear hb; obtain ⟨p0, p1, p2, p3⟩ := bx1 (bT X2.out (al w2 (.cells #[.int .i64 11, .int .i64 2, .slice a3 n3 c3, .slice a4 n4 c4] 24)))))
    | (go_at_call 30; ((with_reducible refine (P1.out _ _ _ _ _ _ _ _ (al_b (al_b B2.out)) (bkeep K1 (bT (bT D1.out (al _ _)) (al _ _))) (HR4b.out _ _)).mono ?_); rintro e w3 ⟨v3, rfl, s3, hb⟩; have S3 := Lib.hid s3; have B3 := Lib.hid (bT (al_b (al_b B2.out)) hb); have D2 := Lib.hid (bT (bT (al w2 (.cells #[.int .i64 11, .int .i64 2, .slice a3 n3 c3, .slice a4 n4 c4] 24)) (al _ _)) hb); clear p0 p1 p2 p3; obtain ⟨p0, p1, p2, p3⟩ := bx1 (w := w2) (bT (al _ _) hb); clear hb s3))
    | (go_at_call 30; ((with_reducible refine (P2.out _ _ _ _ _ _ _ _ (al_b B3.out) (bkeep K2 (bT D2.out (al _ _))) (HR2.out _)).mono ?_); rintro e w4 ⟨v4, rfl, s4, hb⟩; have B4 := Lib.hid (bT (al_b B3.out) hb); have q1 := conv_src (S3.out.below (bT (al _ _) hb)); have q2 := conv_src s4; clear hb s4))
  go_ret
  exact ⟨rfl, B4.out⟩
end Go.Proofs.YteklahfgplbmcaaDoor.Hf

/- Steps, plain. -/
namespace Go.Proofs.YteklahfgplbmcaaDoor.Hf
open Go Go.ChangeShapes Go.WideShapes Go.ChangeAt Go.RowKit Go.Proofs.YteklahfgplbmcaaDoor.Bk Go.Proofs.YteklahfgplbmcaaDoor.Bi Go.Proofs.YteklahfgplbmcaaDoor.Cr Go.Proofs.YteklahfgplbmcaaDoor.Fx

open Go.Proofs.YteklahfgplbmcaaDoor.BkPx
def stX (d : Int) : Int := if d < -60 ∨ 60 < d then 2 else 0
def stL (d : Int) : List Int := if d < -60 ∨ 60 < d then [] else cd 0 (rk 12 (d + 60).toNat)
def sT (z : List Int) (A : Int) : Int × Int × Int := if (readF (ord 12) 0 z A).2.2 ≠ 0 then (0, 0, (readF (ord 12) 0 z A).2.2) else ((readF (ord 12) 0 z A).1 - 60, (readF (ord 12) 0 z A).2.1, 0)
theorem pl12 : pl 12 = 0 := rfl
theorem nn12 : Nn 12 = 121 := rfl
theorem stL_in {d : Int} (h : -60 ≤ d) (h2 : d ≤ 60) : ∃ n : Nat, d + 60 = n ∧ n < 121 ∧ stL d = cd 0 (rk 12 n) ∧ stX d = 0 := by
  obtain ⟨n, hn⟩ : ∃ n : Nat, d + 60 = n := ⟨(d + 60).toNat, by omega⟩
  refine ⟨n, hn, by omega, ?_, ?_⟩
  · unfold stL; rw [if_neg (by omega), hn, Int.toNat_natCast]
  · unfold stX; rw [if_neg (by omega)]
theorem stL_out {d : Int} (h : d < -60 ∨ 60 < d) : stL d = [] ∧ stX d = 2 := ⟨by unfold stL; rw [if_pos h], by unfold stX; rw [if_pos h]⟩
theorem stL_len (d : Int) : (stL d).length ≤ 19 := by
  by_cases h : d < -60 ∨ 60 < d
  · rw [(stL_out h).1]; simp
  · obtain ⟨n, _, h2, h3, _⟩ := stL_in (d := d) (by omega) (by omega)
    rw [h3]
    exact (cd_19 (id := 12) (by decide) (by decide) ((ord_is (id := 12) (by decide) (by decide)).rank (n := n) (by rw [nn12]; exact h2)).1).1
theorem stL_bits (d : Int) : Bits (stL d) := by
  unfold stL
  split
  · intro z hz; cases hz
  · exact cd_bits _ _
theorem st_read {d : Int} (h : -60 ≤ d) (h2 : d ≤ 60) (rest : List Int) : sT (stL d ++ rest) 0 = (d, ((stL d).length : Int), 0) := by
  obtain ⟨n, hn, hn2, e, _⟩ := stL_in h h2
  have hord := ord_is (id := 12) (by decide) (by decide)
  have hr := hord.rank (n := n) (by rw [nn12]; exact hn2)
  have h19 := cd_19 (id := 12) (by decide) (by decide) hr.1
  have q := read_code (ord 12) 0 (rk 12 n) rest (by rw [hord.length]; exact hr.1) h19.2
  have hg : (ord 12).getD (rk 12 n) 0 = n := by
    have := hr.2
    change (ord 12)[rk 12 n]? = some n at this
    rw [List.getD_eq_getElem?_getD, this]; rfl
  rw [hg] at q
  unfold sT
  rw [e, q, if_neg (by simp)]
  simp only
  congr 1
  omega
theorem st_back {z : List Int} {A : Int} (h : (sT z A).2.2 = 0) : ∃ (a s : Nat) (d : Int), A = a ∧ a + s ≤ z.length ∧ 1 ≤ s ∧ s ≤ 19 ∧ -60 ≤ d ∧ d ≤ 60 ∧ stL d = (z.drop a).take s ∧ sT z A = (d, ((a + s : Nat) : Int), 0) := by
  have h0 : (readF (ord 12) 0 z A).2.2 = 0 := by
    unfold sT at h
    by_cases c : (readF (ord 12) 0 z A).2.2 = 0
    · exact c
    · rw [if_pos c] at h; exact h
  have hord := ord_is (id := 12) (by decide) (by decide)
  obtain ⟨a, s, r, rfl, hal, hr, hcd, hrf⟩ := read_back (ord 12) 0 z A h0
  rw [hord.length] at hr
  obtain ⟨n, hn1, hn2, hn3⟩ := hord.at hr
  have hrk : rk 12 n = r := hn3
  have hg : (ord 12).getD r 0 = n := by rw [List.getD_eq_getElem?_getD, hn1]; rfl
  rw [hg] at hrf
  rw [nn12] at hn2
  obtain ⟨n', hn', _, e, _⟩ := stL_in (d := (n : Int) - 60) (by omega) (by omega)
  obtain rfl : n' = n := by omega
  have hs : s = (cd 0 r).length := by have := congrArg List.length hcd; rw [drop_take_len hal] at this; exact this
  refine ⟨a, s, (n' : Int) - 60, rfl, hal, by have := cd_pos 0 r; omega, ?_, by omega, by omega, by rw [e, hrk, hcd], ?_⟩
  · have := (cd_19 (id := 12) (by decide) (by decide) hr).1
    rw [pl12] at this; omega
  · unfold sT; rw [if_neg (by rw [h0]; decide), hrf]
theorem st_bad {z : List Int} {A : Int} (h : (sT z A).2.2 ≠ 0) : sT z A = (0, 0, (sT z A).2.2) := by
  unfold sT at h ⊢
  by_cases c : (readF (ord 12) 0 z A).2.2 = 0
  · rw [if_neg (by rw [c]; decide)] at h; exact absurd rfl h
  · rw [if_pos c]
theorem rd_bd (z : List Int) (A : Int) : 0 ≤ (readF (ord 12) 0 z A).1 ∧ (readF (ord 12) 0 z A).1 ≤ 121 := by
  by_cases c : (readF (ord 12) 0 z A).2.2 = 0
  · obtain ⟨a, s, r, rfl, hal, hr, hcd, hrf⟩ := read_back (ord 12) 0 z A c
    have hord := ord_is (id := 12) (by decide) (by decide)
    rw [hord.length] at hr
    obtain ⟨n, hn1, hn2, hn3⟩ := hord.at hr
    have hg : (ord 12).getD r 0 = n := by rw [List.getD_eq_getElem?_getD, hn1]; rfl
    rw [nn12] at hn2
    rw [hrf, hg]; simp; omega
  · rw [readF_bad c]; simp
end Go.Proofs.YteklahfgplbmcaaDoor.Hf

/- Steps as bits, and the steps of bits. -/
namespace Go.Proofs.YteklahfgplbmcaaDoor.Hf
open Go Go.ChangeShapes Go.WideShapes Go.ChangeAt Go.RowKit Go.Proofs.YteklahfgplbmcaaDoor.Bk Go.Proofs.YteklahfgplbmcaaDoor.Bi Go.Proofs.YteklahfgplbmcaaDoor.Cr Go.Proofs.YteklahfgplbmcaaDoor.Fx

open Go.Proofs.YteklahfgplbmcaaDoor.BkRf Go.Proofs.YteklahfgplbmcaaDoor.BkPx
structure KB (w : World) (a1 : Option Addr) (n1 c1 : Nat) (a2 : Option Addr) (n2 c2 : Nat) : Prop where
  e1 : n1 = (zi (ord 12)).length
  e2 : n2 = (rkL 12).length
  r1 : Rd w (.slice a1 n1 c1) (zi (ord 12))
  r2 : Rd w (.slice a2 n2 c2) (rkL 12)
theorem KB.below {w w' : World} {a1 a2 : Option Addr} {n1 c1 n2 c2 : Nat} (h : KB w a1 n1 c1 a2 n2 c2) (hb : Below w.heap.size w w') : KB w' a1 n1 c1 a2 n2 c2 := ⟨h.e1, h.e2, h.r1.below hb, h.r2.below hb⟩
theorem get_12 (w : World) (hs : Sh w) : Calls Tryd.prog 15 #[.int .i64 12] w fun e w' => ∃ a1 n1 c1 a2 n2 c2, e = .returned (.tuple #[.agg #[.int .i64 12, .int .i64 0, .slice a1 n1 c1, .slice a2 n2 c2], .int .i64 0]) ∧ KB w' a1 n1 c1 a2 n2 c2 ∧ Below w.heap.size w w' :=
  (get_bk (id := 12) (by decide) (by decide) w hs).mono fun e w' ⟨a1, c1, a2, c2, e1, r1, r2, b⟩ => ⟨a1, _, c1, a2, _, c2, e1, ⟨rfl, rfl, r1, r2⟩, b⟩
set_option maxRecDepth 100000 in
theorem code_12 {w : World} {a1 a2 : Option Addr} {n1 c1 n2 c2 : Nat} {d : Int} (hs : Sh w) (h : KB w a1 n1 c1 a2 n2 c2) (h1 : -60 ≤ d) (h2 : d ≤ 60) : Calls Tryd.prog 16 #[.agg #[.int .i64 12, .int .i64 0, .slice a1 n1 c1, .slice a2 n2 c2], .int .i64 (d + 60)] w fun e w' => ∃ v, e = .returned (.tuple #[v, .int .i64 0]) ∧ Cr.Own w.heap.size w' v (stL d) ∧ Below w.heap.size w w' := by
  obtain ⟨e1, e2, r1, r2⟩ := h
  subst e1 e2
  obtain ⟨n, hn, hn2, e, _⟩ := stL_in h1 h2
  have q := pcd_any (12 : Nat) (pl 12) (d + 60) a1 a2 c1 c2 (zi (ord 12)) (rkL 12) w hs r1 r2
  have hk := isbk_of (id := 12) (by decide) (by decide)
  have hin : 0 ≤ d + 60 ∧ d + 60 < ((rkL 12).length : Int) := by rw [rkL_len, nn12]; omega
  have e1 : cdX (12 : Nat) (pl 12) (zi (ord 12)) (rkL 12) (d + 60) = 0 := by unfold cdX; rw [if_pos hk, if_pos hin]
  have e2 : cdL (12 : Nat) (pl 12) (zi (ord 12)) (rkL 12) (d + 60) = stL d := by
    unfold cdL
    rw [if_pos hk, if_pos hin, e, hn, Int.toNat_natCast, rkL_get (by rw [nn12]; exact hn2), pl12]
    show cd _ ((rk 12 n : Nat) : Int).toNat = _
    rw [Int.toNat_natCast]
  rw [e1, e2] at q
  exact q
set_option maxRecDepth 100000 in
theorem read_12 {w : World} {a1 a2 : Option Addr} {n1 c1 n2 c2 : Nat} {v : Value} {z : List Int} {A : Int} (hs : Sh w) (h : KB w a1 n1 c1 a2 n2 c2) (hv : R8 w v z) (hz : ∀ x ∈ z, 0 ≤ x ∧ x ≤ 255) (hl : z.length ≤ 20000) : Calls Tryd.prog 17 #[.agg #[.int .i64 12, .int .i64 0, .slice a1 n1 c1, .slice a2 n2 c2], v, .int .i64 A] w fun e w' => e = T3 (readF (ord 12) 0 z A) ∧ Below w.heap.size w w' := by
  obtain ⟨e1, e2, r1, r2⟩ := h
  subst e1 e2
  have q := pread_any (12 : Nat) (pl 12) A a1 a2 c1 c2 (zi (ord 12)) (rkL 12) v z w hs r1 r2 hv hz hl
  have e : rdF (12 : Nat) (pl 12) (zi (ord 12)) (rkL 12) z A = readF (ord 12) 0 z A := by
    unfold rdF
    rw [if_pos (isbk_of (id := 12) (by decide) (by decide))]
    rfl
  rwa [e] at q
set_option maxRecDepth 100000 in
theorem stepBits_ok (d : Int) (w : World) (hs : Sh w) : Calls Tryd.prog 75 #[.int .i64 d] w fun e w' => ∃ v, e = .returned (.tuple #[v, .int .i64 (stX d)]) ∧ Cr.Own w.heap.size w' v (stL d) ∧ Below w.heap.size w w' := by
  by_cases h : d < -60 ∨ 60 < d
  · obtain ⟨e1, e2⟩ := stL_out h
    rw [e1, e2]
    clear e1 e2
    by_cases h1 : d < -60
    · clear h
      go_enter Tryd.func75, Tryd.ntmps75
      go_wp2
      go_ret2
      exact ⟨_, rfl, own8n _ _, Below.refl _ _⟩
    · have h2 : 60 < d := by omega
      clear h
      go_enter Tryd.func75, Tryd.ntmps75
      go_wp2
      go_ret2
      exact ⟨_, rfl, own8n _ _, Below.refl _ _⟩
  · obtain ⟨n, z1, z2, z3, e2⟩ := stL_in (d := d) (by omega) (by omega)
    rw [e2]
    clear z1 z2 z3
    have h1 : ¬ d < -60 := by omega
    have h2 : ¬ 60 < d := by omega
    have hw : IntKind.i64.wrap (d + 60) = d + 60 := by rw [IntKind.wrap_i64]; omega
    have HG := Lib.hid (fun x (h : Below w.heap.size w x) => get_12 x (hs.below h))
    have HC := Lib.hid (fun x a1 n1 c1 a2 n2 c2 (h : Below w.heap.size w x) (hk : KB x a1 n1 c1 a2 n2 c2) => code_12 (d := d) (hs.below h) hk (by omega) (by omega))
    clear hs h e2
    go_enter Tryd.func75, Tryd.ntmps75
    go_wp2_with first
      | (go_at_call 15; ((with_reducible refine (HG.out _ (Below.refl _ _)).mono ?_); rintro e w1 ⟨a1, n1, c1, a2, n2, c2, rfl, K1, hb⟩; have B1 := Lib.hid (al_b (o := .cells #[.int .i64 12, .int .i64 0, .slice a1 n1 c1, .slice a2 n2 c2] 24) hb); have K2 := K1.below (al w1 (.cells #[.int .i64 12, .int .i64 0, .slice a1 n1 c1, .slice a2 n2 c2] 24)); obtain ⟨p0, p1, p2, p3⟩ := bx1 (w := w1) (a := .int .i64 12) (b := .int .i64 0) (c := .slice a1 n1 c1) (d := .slice a2 n2 c2) (Below.refl _ _); clear hb K1))
      | (go_at_call 16; ((with_reducible refine (HC.out _ _ _ _ _ _ _ B1.out K2).mono ?_); rintro e w2 ⟨v2, rfl, ho, hb⟩; have O2 := Lib.hid (own8_rebase ho B1.out.size); have B2 := Lib.hid (bT B1.out hb); clear ho hb))
    go_ret2
    exact ⟨_, rfl, O2.out, B2.out⟩
set_option maxRecDepth 100000 in
theorem step_any (vb : Value) (zb : List Int) (d : Int) (w : World) (hs : Sh w) (sb : Src8 w vb zb) (lb : zb.length ≤ 20000) : Calls Tryd.prog 38 #[vb, .int .i64 d] w fun e w' => ∃ v, e = .returned (.tuple #[v, .int .i64 (stX d)]) ∧ Cr.Own w.heap.size w' v (if stX d = 0 then zb ++ stL d else []) ∧ Below w.heap.size w w' := by
  have H75 := Lib.hid (stepBits_ok d w hs)
  have hz := stL_len d
  have HJ := Lib.hid (fun (x : World) (v2 : Value) (h : Below w.heap.size w x) (h2 : Src8 x v2 (stL d)) => join_ok vb v2 zb (stL d) x (sb.below h) h2 lb (by omega))
  generalize stL d = L at *
  generalize stX d = X at *
  clear hs sb lb hz
  by_cases hX : X = 0
  · subst hX
    go_enter Tryd.func38, Tryd.ntmps38
    go_wp2_with first
      | (go_at_call 75; ((with_reducible refine (H75.out).mono ?_); rintro e w1 ⟨v1, rfl, ho1, hb⟩; have O1 := Lib.hid (own_src ho1); have B1 := Lib.hid hb; clear ho1 hb))
      | (go_at_call 65; ((with_reducible refine (HJ.out _ _ B1.out O1.out).mono ?_); rintro e w2 ⟨v2, rfl, ho2, hb⟩; have O2 := Lib.hid (own8_rebase ho2 B1.out.size); have B2 := Lib.hid (bT B1.out hb); clear ho2 hb))
    go_ret2
    exact ⟨_, rfl, O2.out, B2.out⟩
  · rw [if_neg hX]
    have hne : (X == 0) = false := by simp [hX]
    clear HJ
    go_enter Tryd.func38, Tryd.ntmps38
    go_wp2_with first
      | (go_at_call 75; ((with_reducible refine (H75.out).mono ?_); rintro e w1 ⟨v1, rfl, ho1, hb⟩; have B1 := Lib.hid hb; clear ho1 hb))
    go_ret2
    exact ⟨_, rfl, own8n _ _, B1.out⟩
theorem stepCost_any (d : Int) (w : World) (hs : Sh w) : Calls Tryd.prog 42 #[.int .i64 d] w fun e w' => e = .returned (.tuple #[.int .i64 ((stL d).length : Nat), .int .i64 (stX d)]) ∧ Below w.heap.size w w' := by
  have H75 := Lib.hid (stepBits_ok d w hs)
  generalize stL d = L at *
  generalize stX d = X at *
  clear hs
  go_enter Tryd.func42, Tryd.ntmps42
  go_wp2_with first
    | (go_at_call 75; ((with_reducible refine (H75.out).mono ?_); rintro e w1 ⟨v1, rfl, ho1, hb⟩; obtain ⟨a9, c9, rfl⟩ := (own_src ho1).shape; have B1 := Lib.hid hb; clear ho1 hb))
  go_ret2
  exact ⟨rfl, B1.out⟩
set_option maxRecDepth 100000 in
theorem stepped_any (v : Value) (z : List Int) (A : Int) (w : World) (hs : Sh w) (hv : R8 w v z) (hz : ∀ x ∈ z, 0 ≤ x ∧ x ≤ 255) (hl : z.length ≤ 20000) : Calls Tryd.prog 40 #[v, .int .i64 A] w fun e w' => e = T3 (sT z A) ∧ Below w.heap.size w w' := by
  have HG := Lib.hid (fun x (h : Below w.heap.size w x) => get_12 x (hs.below h))
  have HR := Lib.hid (fun x a1 n1 c1 a2 n2 c2 (h : Below w.heap.size w x) (hk : KB x a1 n1 c1 a2 n2 c2) => read_12 (A := A) (hs.below h) hk (hv.below h) hz hl)
  obtain ⟨b0, b1⟩ := rd_bd z A
  have HT : Hid (sT z A = if (readF (ord 12) 0 z A).2.2 ≠ 0 then (0, 0, (readF (ord 12) 0 z A).2.2) else ((readF (ord 12) 0 z A).1 - 60, (readF (ord 12) 0 z A).2.1, 0)) := Lib.hid rfl
  generalize readF (ord 12) 0 z A = R at *
  obtain ⟨x, n, er⟩ := R
  simp only at HT b0 b1
  have hw : IntKind.i64.wrap (x - 60) = x - 60 := by rw [IntKind.wrap_i64]; omega
  simp only [T3] at HR
  rw [HT.out]
  clear hs hv hz hl HT
  by_cases he : er = 0
  · subst he
    rw [if_neg (by simp)]
    go_enter Tryd.func40, Tryd.ntmps40
    go_wp2_with first
      | (go_at_call 15; ((with_reducible refine (HG.out _ (Below.refl _ _)).mono ?_); rintro e w1 ⟨a1, n1, c1, a2, n2, c2, rfl, K1, hb⟩; have B1 := Lib.hid (al_b (o := .cells #[.int .i64 12, .int .i64 0, .slice a1 n1 c1, .slice a2 n2 c2] 24) hb); have K2 := K1.below (al w1 (.cells #[.int .i64 12, .int .i64 0, .slice a1 n1 c1, .slice a2 n2 c2] 24)); obtain ⟨p0, p1, p2, p3⟩ := bx1 (w := w1) (a := .int .i64 12) (b := .int .i64 0) (c := .slice a1 n1 c1) (d := .slice a2 n2 c2) (Below.refl _ _); clear hb K1))
      | (go_at_call 17; ((with_reducible refine (HR.out _ _ _ _ _ _ _ B1.out K2).mono ?_); rintro e w2 ⟨rfl, hb⟩; have B2 := Lib.hid (bT B1.out hb); clear hb))
    go_ret3
    exact ⟨rfl, B2.out⟩
  · rw [if_pos he]
    have hee : (er == 0) = false := by simp [he]
    go_enter Tryd.func40, Tryd.ntmps40
    go_wp2_with first
      | (go_at_call 15; ((with_reducible refine (HG.out _ (Below.refl _ _)).mono ?_); rintro e w1 ⟨a1, n1, c1, a2, n2, c2, rfl, K1, hb⟩; have B1 := Lib.hid (al_b (o := .cells #[.int .i64 12, .int .i64 0, .slice a1 n1 c1, .slice a2 n2 c2] 24) hb); have K2 := K1.below (al w1 (.cells #[.int .i64 12, .int .i64 0, .slice a1 n1 c1, .slice a2 n2 c2] 24)); obtain ⟨p0, p1, p2, p3⟩ := bx1 (w := w1) (a := .int .i64 12) (b := .int .i64 0) (c := .slice a1 n1 c1) (d := .slice a2 n2 c2) (Below.refl _ _); clear hb K1))
      | (go_at_call 17; ((with_reducible refine (HR.out _ _ _ _ _ _ _ B1.out K2).mono ?_); rintro e w2 ⟨rfl, hb⟩; have B2 := Lib.hid (bT B1.out hb); clear hb))
    go_ret3
    exact ⟨rfl, B2.out⟩
end Go.Proofs.YteklahfgplbmcaaDoor.Hf

/- The document's book of steps. -/
namespace Go.Proofs.YteklahfgplbmcaaDoor.Hf
open Go Go.ChangeShapes Go.WideShapes Go.ChangeAt Go.RowKit Go.Proofs.YteklahfgplbmcaaDoor.Bk Go.Proofs.YteklahfgplbmcaaDoor.Bi Go.Proofs.YteklahfgplbmcaaDoor.Cr Go.Proofs.YteklahfgplbmcaaDoor.Fx

open Go.Proofs.YteklahfgplbmcaaDoor.BkRf Go.Proofs.YteklahfgplbmcaaDoor.BkPx
def EL (j : Nat) : List Int := 60 :: (List.range j).flatMap fun (k : Nat) => [59 - (k : Int), 61 + (k : Int)]
theorem EL_succ (j : Nat) : EL (j + 1) = EL j ++ [59 - (j : Int), 61 + (j : Int)] := by
  unfold EL
  rw [List.range_succ, List.flatMap_append]
  simp
theorem EL_len : ∀ j : Nat, (EL j).length = 2 * j + 1
  | 0 => rfl
  | j + 1 => by rw [EL_succ, List.length_append, EL_len j]; simp; omega
theorem EL_60 : EL 60 = zi (ord 12) := by decide +kernel
structure SS (w : World) (T j : Nat) (vE : Value) (x : World) : Prop where
  t : x.heap[T]? = some (.cells #[.int .i64 0, .int .i64 0, .slice none 0 0, .slice none 0 0] 24)
  k : x.heap[T + 3]? = some (.cells #[.int .i64 12, .int .i64 0, vE, .slice (some ⟨T + 2, 0, none⟩) 121 121] 24)
  r : ∃ f : Nat → Int, x.rowIs (T + 2) 3 121 (fun i => .int .i64 (f i))
  o : Fx.Own (T + 1) x vE (EL j)
  ne : ∀ g, vE.ownBlock = some g → g ≠ T + 2 ∧ g ≠ T + 3
  b : Below T w x
theorem SS.form {w x : World} {T j : Nat} {vE : Value} (h : SS w T j vE x) : ∃ g cap, vE = .slice (some ⟨g, 0, none⟩) (2 * j + 1) cap ∧ T + 1 ≤ g ∧ g < x.heap.size := by
  obtain ⟨g, cap, h1, h2, h3⟩ := World.ownsRow.form h.o (by rw [EL_len]; omega)
  exact ⟨g, cap, by rw [h1, EL_len], h2, h3⟩
theorem SS.lt {w x : World} {T j : Nat} {vE : Value} (h : SS w T j vE x) : T + 3 < x.heap.size := (Array.getElem?_eq_some_iff.1 h.k).1
theorem ss_new (w : World) : SS w w.heap.size 0 (.slice (some ⟨w.heap.size + 1, 0, none⟩) 1 1) ((((w.alloc (.cells #[.int .i64 0, .int .i64 0, .slice none 0 0, .slice none 0 0] 24)).alloc (.cells #[.int .i64 60] 3)).alloc (.cells (madeCells #[.int .i64 0] 121) 3)).alloc (.cells #[.int .i64 12, .int .i64 0, .slice (some ⟨w.heap.size + 1, 0, none⟩) 1 1, .slice (some ⟨w.heap.size + 1 + 1, 0, none⟩) 121 121] 24)) := by
  obtain ⟨w0, e0⟩ : ∃ w0, w.alloc (.cells #[.int .i64 0, .int .i64 0, .slice none 0 0, .slice none 0 0] 24) = w0 := ⟨_, rfl⟩
  have s0 : w0.heap.size = w.heap.size + 1 := by rw [← e0]; simp
  have h0 : w0.heap[w.heap.size]? = some (.cells #[.int .i64 0, .int .i64 0, .slice none 0 0, .slice none 0 0] 24) := by rw [← e0]; exact heap_alloc_last w _
  have b0 : Below w.heap.size w w0 := by rw [← e0]; exact al w _
  rw [e0]
  obtain ⟨w1, e1⟩ : ∃ w1, w0.alloc (.cells #[.int .i64 60] 3) = w1 := ⟨_, rfl⟩
  have s1 : w1.heap.size = w.heap.size + 2 := by rw [← e1]; simp [s0]
  have o1 := own3_one w0 60
  rw [e1, s0] at o1
  have b1 : Below w0.heap.size w0 w1 := by rw [← e1]; exact al w0 _
  rw [e1]
  obtain ⟨w2, e2⟩ : ∃ w2, w1.alloc (.cells (madeCells #[.int .i64 0] 121) 3) = w2 := ⟨_, rfl⟩
  have s2 : w2.heap.size = w.heap.size + 3 := by rw [← e2]; simp [s1]
  have r2 := World.rowIs_made w1 (.int .i64 0) 121 3
  rw [e2, s1] at r2
  have b2 : Below w1.heap.size w1 w2 := by rw [← e2]; exact al w1 _
  rw [e2]
  refine ⟨?_, ?_, ⟨fun _ => 0, r2.alloc _⟩, ?_, fun g hg => ?_, ?_⟩
  · rw [Below.heap_alloc w2 _ _ (by omega), b2.block _ (by omega), b1.block _ (by omega)]; exact h0
  · have := heap_alloc_last w2 (.cells #[.int .i64 12, .int .i64 0, .slice (some ⟨w.heap.size + 1, 0, none⟩) 1 1, .slice (some ⟨w.heap.size + 1 + 1, 0, none⟩) 121 121] 24)
    rw [s2] at this
    exact this
  · exact World.ownsRow.alloc (Fx.Own.below (show Fx.Own (w.heap.size + 1) w1 _ [60] from o1) b2) _
  · simp [Value.ownBlock] at hg; omega
  · exact al_b (bT (bT b0 b1) b2)
theorem ss_step {w x y : World} {T j : Nat} {vE v' : Value} {i1 i2 : Nat} {u1 u2 : Int} {o : Obj} (h : SS w T j vE x)
    (ho : Fx.Own (T + 1) y v' (EL (j + 1))) (hg : (((x.setCell ⟨T + 2, i1, none⟩ (.int .i64 u1)).setCell ⟨T + 2, i2, none⟩ (.int .i64 u2)).alloc o).grownBy y vE.ownBlock)
    (hl : ∀ g, v'.ownBlock = some g → vE.ownBlock = some g ∨ g = x.heap.size + 1) :
    (y.cell? ⟨T + 3, 2, none⟩ = some vE ∧ y.frozen? ⟨T + 3, 2, none⟩ = false) ∧ SS w T (j + 1) v' (y.setCell ⟨T + 3, 2, none⟩ v') := by
  have hlt := h.lt
  have hsz : (((x.setCell ⟨T + 2, i1, none⟩ (.int .i64 u1)).setCell ⟨T + 2, i2, none⟩ (.int .i64 u2)).alloc o).heap.size = x.heap.size + 1 := by simp [World.setCell]
  have hbl : ∀ k, k < x.heap.size → k ≠ T + 2 → vE.ownBlock ≠ some k → y.heap[k]? = x.heap[k]? := fun k h1 h2 h3 => by
    rw [hg.block k (by omega) (fun e => h3 e.symm), Below.heap_alloc _ _ _ (by simp [World.setCell]; omega), Below.heap_setCell _ _ _ _ h2, Below.heap_setCell _ _ _ _ h2]
  have hk := (hbl (T + 3) hlt (by omega) (fun e => (h.ne _ e).2 rfl)).trans h.k
  obtain ⟨k0, k1, k2, k3, kf⟩ := c4 hk
  have hown := World.ownsRow.lt h.o
  have hn' : ∀ g, v'.ownBlock = some g → g ≠ T + 2 ∧ g ≠ T + 3 := fun g e => by
    rcases hl g e with e | rfl
    · exact h.ne g e
    · omega
  refine ⟨⟨k2, kf 2⟩, ⟨?_, hset hk, ?_, ?_, hn', ?_⟩⟩
  · rw [hne (by omega), hbl T (by omega) (by omega) (fun e => by have := (hown T e).1; omega)]; exact h.t
  · obtain ⟨f, hf⟩ := h.r
    have r1 := ((hf.set i1 (.int .i64 u1)).set i2 (.int .i64 u2)).alloc o
    refine ⟨fun i => if i = i2 then u2 else if i = i1 then u1 else f i, ?_⟩
    have r2 := (r1.of_block (hg.block (T + 2) (by omega) (fun e => (h.ne _ e.symm).1 rfl))).setOther (a := ⟨T + 3, 2, none⟩) (by show T + 2 ≠ T + 3; omega) v'
    refine r2.congr fun i _ => ?_
    by_cases c2 : i = i2
    · simp [c2]
    · by_cases c1 : i = i1
      · simp [c1, show ¬ i1 = i2 from fun e => c2 (c1.trans e)]
      · simp [c1, c2]
  · obtain ⟨hx, h2 | ⟨g, cap, cur, rfl, g1, g2, g3⟩⟩ := ho
    · exact ⟨hx, .inl h2⟩
    · exact ⟨hx, .inr ⟨g, cap, cur, rfl, g1, (hne (fun e => (hn' g rfl).2 e)).trans g2, g3⟩⟩
  · have b1 : Below T w (((x.setCell ⟨T + 2, i1, none⟩ (.int .i64 u1)).setCell ⟨T + 2, i2, none⟩ (.int .i64 u2)).alloc o) := ((h.b.setCell (p := ⟨T + 2, i1, none⟩) (by show T ≤ T + 2; omega) _).setCell (p := ⟨T + 2, i2, none⟩) (by show T ≤ T + 2; omega) _).alloc (by simp [World.setCell]; omega) o
    exact (b1.grown hg (by omega) (fun k e => by have := (hown k e).1; omega)).setCell (p := ⟨T + 3, 2, none⟩) (by show T ≤ T + 3; omega) _
theorem ss_own {w x : World} {T j : Nat} {vE : Value} {i1 i2 : Nat} {u1 u2 : Int} {o : Obj} (h : SS w T j vE x) : Fx.Own (T + 1) (((x.setCell ⟨T + 2, i1, none⟩ (.int .i64 u1)).setCell ⟨T + 2, i2, none⟩ (.int .i64 u2)).alloc o) vE (EL j) := by
  refine World.ownsRow.alloc ?_ _
  obtain ⟨hx, h2 | ⟨g, cap, cur, rfl, g1, g2, g3⟩⟩ := h.o
  · exact ⟨hx, .inl h2⟩
  · have hn := (h.ne g rfl).1
    exact ⟨hx, .inr ⟨g, cap, cur, rfl, g1, (hne hn).trans ((hne hn).trans g2), g3⟩⟩
theorem two_last (x : World) (a b : Int) (n : Nat) (hn : x.heap.size = n) : ∀ (j : Nat) (u : Value), ([.int .i64 a, .int .i64 b] : List Value)[j]? = some u → (x.alloc (.cells #[.int .i64 a, .int .i64 b] 3)).cell? ((⟨n, 0, none⟩ : Addr).add j) = some u := by
  subst hn
  have r := World.rowIs_alloc x #[.int .i64 a, .int .i64 b] 3 (fun j => if j = 0 then .int .i64 a else .int .i64 b) (fun i hi => by
    have h2 : i < 2 := hi
    have : i = 0 ∨ i = 1 := by omega
    rcases this with rfl | rfl <;> rfl)
  intro j u hu
  match j with
  | 0 => simp at hu; subst hu; exact r.cell (i := 0) (by show 0 < 2; decide)
  | 1 => simp at hu; subst hu; exact r.cell (i := 1) (by show 1 < 2; decide)
  | j + 2 => simp at hu
set_option maxRecDepth 100000 in
set_option maxHeartbeats 8000000 in
theorem steps_ok (w : World) : Calls Tryd.prog 77 #[] w fun e w' => ∃ v1 v2, e = .returned (.agg #[.int .i64 12, .int .i64 0, v1, v2]) ∧ RdF w.heap.size w' v1 (zi (ord 12)) ∧ (∃ a, v2 = .slice a 121 121) ∧ Below w.heap.size w w' := by
  obtain ⟨i0, hi, hz0, hz1, hz2⟩ := info_parts' info3
  go_enter Tryd.func77, Tryd.ntmps77
  go_wp2_with first
    | (refine wpList_make_row _ rfl _ _ 22 rfl 3 i0 (.int .i64 0) Tryd.underlying22 hi hz0 hz1 rfl .i64 .i64 121 rfl rfl (by rw [hz2]; omega) (by omega) ?_)
  have H0 := Lib.hid (ss_new w)
  have HTT := Lib.hid (rfl : w.heap.size = w.heap.size)
  have e1 : w.heap.size + 1 + 1 + 1 = w.heap.size + 3 := rfl
  have e2 : w.heap.size + 1 + 1 = w.heap.size + 2 := rfl
  rw [e1, e2] 
  rw [e2] at H0
  generalize (((w.alloc (.cells #[.int .i64 0, .int .i64 0, .slice none 0 0, .slice none 0 0] 24)).alloc (.cells #[.int .i64 60] 3)).alloc (.cells (madeCells #[.int .i64 0] 121) 3)).alloc (.cells #[.int .i64 12, .int .i64 0, .slice (some ⟨w.heap.size + 1, 0, none⟩) 1 1, .slice (some ⟨w.heap.size + 2, 0, none⟩) 121 121] 24) = W1 at *
  clear e1 e2 HTT
  generalize hT : w.heap.size = T at *
  go_loopw [2] (fun i wr => ∃ (j : Nat) (vE : Value), j ≤ 60 ∧ i = .int .i64 ((j : Int) + 1) ∧ Hid (SS w T j vE wr)) (fun i _ => 61 - (intOf i).toNat)
  case atStart => exact ⟨0, _, by omega, rfl, H0⟩
  case round =>
    obtain ⟨j, vE, hj, rfl, hS⟩ := hrel
    clear H0
    obtain ⟨g, cap, rfl, hg1, hg2⟩ := hS.out.form
    obtain ⟨k0, k1, k2, k3, kf⟩ := c4 hS.out.k
    by_cases hlt : j < 60
    · obtain ⟨a, ha⟩ : ∃ a : Nat, 59 - j = a := ⟨_, rfl⟩
      obtain ⟨b, hb⟩ : ∃ b : Nat, 61 + j = b := ⟨_, rfl⟩
      obtain ⟨N, hN⟩ : ∃ N, 2 * j + 1 = N := ⟨_, rfl⟩
      rw [hN] at hS k2
      have hle : (j : Int) + 1 ≤ 60 := by omega
      have hw1 : IntKind.i64.wrap (60 - ((j : Int) + 1)) = (a : Int) := by rw [IntKind.wrap_i64]; omega
      have hw2 : IntKind.i64.wrap (60 + ((j : Int) + 1)) = (b : Int) := by rw [IntKind.wrap_i64]; omega
      have hw3 : IntKind.i64.wrap ((N : Int) + 1) = (N : Int) + 1 := by rw [IntKind.wrap_i64]; omega
      have hw4 : IntKind.i64.wrap ((j : Int) + 1 + 1) = (j : Int) + 1 + 1 := by rw [IntKind.wrap_i64]; omega
      have ha1 : a < 121 := by omega
      have hb1 : b < 121 := by omega
      obtain ⟨f, hf⟩ := hS.out.r
      have q1 := hf.cell (i := a) (by omega)
      have q2 := hf.frozen a
      have q3 := (hf.set a (.int .i64 N)).cell (i := b) (by omega)
      rw [if_neg (by omega)] at q3
      have q4 := (hf.set a (.int .i64 N)).frozen b
      have hk1 : (wr.setCell ⟨T + 2, a, none⟩ (.int .i64 N)).heap[T + 3]? = _ := (hne (by omega)).trans hS.out.k
      have hk2 : ((wr.setCell ⟨T + 2, a, none⟩ (.int .i64 N)).setCell ⟨T + 2, b, none⟩ (.int .i64 ((N : Int) + 1))).heap[T + 3]? = _ := (hne (by omega)).trans hk1
      obtain ⟨m0, m1, m2, m3, mf⟩ := c4 hk1
      obtain ⟨n0, n1, n2, n3, nf⟩ := c4 hk2
      have HO := Lib.hid (ss_own (i1 := a) (u1 := (N : Int)) (i2 := b) (u2 := (N : Int) + 1) (o := .cells #[.int .i64 (a : Int), .int .i64 (b : Int)] 3) hS.out)
      have HEL : Hid ((EL j).length = N ∧ EL (j + 1) = EL j ++ [(a : Int), (b : Int)]) := Lib.hid ⟨by rw [EL_len, hN], by rw [EL_succ]; congr 2 <;> (try congr 1) <;> omega⟩
      have HSZ := Lib.hid hS.out.lt
      have hN121 : N ≤ 121 := by omega
      clear ha hb hN hf hk1 hk2 kf mf nf k0 k1 m0 m1 n0 n1
      go_wp2_with (at_builtin; refine wpList_append_lies _ rfl (.tmp 28) (.tmp 33) 22 rfl (T + 1) 3 i0 (.int .i64 0) 1 8 Tryd.underlying22 hi hz0 hz1 hz2 rfl (by decide) _ N ((EL j).map (Value.int .i64)) rfl (by have := HO.out; unfold Fx.Own at this; rw [HEL.out.1] at this; exact this) ⟨wr.heap.size, 0, none⟩ 2 2 [.int .i64 (a : Int), .int .i64 (b : Int)] rfl rfl (two_last _ _ _ _ (by simp [World.setCell])) (by simp [Value.oneCell']) (by decide) (by unfold maxLen; omega) (by omega) (by have := HSZ.out; simp [World.setCell]; omega) (wr.heap.size + 1) (by simp [World.setCell]) ?_; intro g4 cap4 w4 ho4 hgr hat hl4; have HS4 := Lib.hid (ss_step (v' := .slice (some ⟨g4, 0, none⟩) (N + 2) cap4) hS.out (by unfold Fx.Own; rw [HEL.out.2, List.length_append, HEL.out.1, List.map_append]; exact ho4) hgr (fun q hq => by simp [Value.ownBlock] at hq; subst hq; exact hat)); obtain ⟨y1, y2⟩ := HS4.out.1; clear ho4 hgr hat hl4)
      go_roundw
      case rel => exact ⟨j + 1, _, by omega, by go_num, Lib.hid HS4.out.2⟩
      case measure => simp [intOf]; omega
    · have hend : j = 60 := by omega
      subst hend
      have hS' : SS w T 60 (.slice (some ⟨g, 0, none⟩) 121 cap) wr := hS.out
      have hkk := Lib.hid hS'.k
      have htt := Lib.hid hS'.t
      have hlt6 := hS'.lt
      have hfin : Hid (RdF T (wr.setRow T #[.int .i64 12, .int .i64 0, .slice (some ⟨g, 0, none⟩) 121 cap, .slice (some ⟨T + 2, 0, none⟩) 121 121]) (.slice (some ⟨g, 0, none⟩) 121 cap) (zi (ord 12)) ∧ Below w.heap.size w (wr.setRow T #[.int .i64 12, .int .i64 0, .slice (some ⟨g, 0, none⟩) 121 cap, .slice (some ⟨T + 2, 0, none⟩) 121 121])) := by
        have hoth : ∀ b, b ≠ T → (wr.setRow T #[.int .i64 12, .int .i64 0, .slice (some ⟨g, 0, none⟩) 121 cap, .slice (some ⟨T + 2, 0, none⟩) 121 121]).heap[b]? = wr.heap[b]? := fun b hb => by
          show (wr.heap.modify T _)[b]? = _
          rw [Array.getElem?_modify, if_neg (Ne.symm hb)]
        have hsz : (wr.setRow T #[.int .i64 12, .int .i64 0, .slice (some ⟨g, 0, none⟩) 121 cap, .slice (some ⟨T + 2, 0, none⟩) 121 121]).heap.size = wr.heap.size := Array.size_modify
        have hb := hS'.b
        rw [← hT] at hb
        refine Lib.hid ⟨⟨⟨some ⟨g, 0, none⟩, cap, by rw [zo_len' (by decide) (by decide)]; rfl⟩, fun x hx => ?_⟩, below_setRow hb (by omega) _⟩
        rw [← EL_60]
        exact (Fx.Own.of_block hS'.o fun g hg hl => (hx g (by omega) (by omega)).trans (hoth g (by omega))).rd
      have t61 : ¬ (((60 : Nat) : Int) + 1 ≤ 60) := by omega
      clear hS hS' k0 k1 k2 k3 kf hlt6
      go_wp2_with first
        | (refine wpList_load_row rfl 24 _ rfl (T + 3) rfl 24 #[.int .i64 12, .int .i64 0, .slice (some ⟨g, 0, none⟩) 121 cap, .slice (some ⟨T + 2, 0, none⟩) 121 121] _ _ hkk.out Tryd.underlying24 rfl size24 ?_)
        | (refine wpList_store_row rfl 24 _ _ rfl T #[.int .i64 12, .int .i64 0, .slice (some ⟨g, 0, none⟩) 121 cap, .slice (some ⟨T + 2, 0, none⟩) 121 121] rfl rfl 24 #[.int .i64 0, .int .i64 0, .slice none 0 0, .slice none 0 0] htt.out size24 rfl (one_bk2 _ _ _ _ _ _ _ _) ?_)
      (try simp only [Exit.inBlock, Exit.then])
      refine bodyPost_ret (results_c_row rfl _ _ T 24 #[.int .i64 12, .int .i64 0, .slice (some ⟨g, 0, none⟩) 121 cap, .slice (some ⟨T + 2, 0, none⟩) 121 121] _ _ rfl (setRow_heap wr T _ _ 24 (0, 0) htt.out) Tryd.underlying24 rfl size24) rfl ?_
      rw [← hT] at hfin ⊢
      exact ⟨_, _, rfl, hfin.out.1, ⟨_, rfl⟩, hfin.out.2⟩
end Go.Proofs.YteklahfgplbmcaaDoor.Hf

/- The document's steps. -/
namespace Go.Proofs.YteklahfgplbmcaaDoor.Hf
open Go Go.ChangeShapes Go.WideShapes Go.ChangeAt Go.RowKit Go.Proofs.YteklahfgplbmcaaDoor.Bk Go.Proofs.YteklahfgplbmcaaDoor.Bi Go.Proofs.YteklahfgplbmcaaDoor.Cr Go.Proofs.YteklahfgplbmcaaDoor.Fx

open Go.Proofs.YteklahfgplbmcaaDoor.BkRf Go.Proofs.YteklahfgplbmcaaDoor.BkPx
theorem rk12 {d : Int} {n : Nat} (hn : d + 60 = n) (h : n < 121) : ((rk 12 n : Nat) : Int) = if d < 0 then -2 * d - 1 else 2 * d := by
  have key : ∀ m : Fin 121, ((rk 12 m.val : Nat) : Int) = if (m.val : Int) - 60 < 0 then -2 * ((m.val : Int) - 60) - 1 else 2 * ((m.val : Int) - 60) := by decide +kernel
  have := key ⟨n, h⟩
  simp only at this
  rw [this, show (n : Int) - 60 = d by omega]
set_option maxRecDepth 100000 in
theorem rstepBits_ok (d : Int) (w : World) (h1 : -60 ≤ d) (h2 : d ≤ 60) : Calls Tryd.prog 76 #[.int .i64 d] w fun e w' => ∃ v, e = .returned v ∧ Cr.Own w.heap.size w' v (stL d) ∧ Below w.heap.size w w' := by
  obtain ⟨n, hn, hn2, eL, _⟩ := stL_in h1 h2
  have hr := rk12 hn hn2
  have hr1 := ((ord_is (id := 12) (by decide) (by decide)).rank (n := n) (by rw [nn12]; exact hn2)).1
  have hr2 : rk 12 n < 289 := by rw [nn12] at hr1; exact Nat.lt_trans hr1 (by decide)
  have HC : Hid (∀ x, Calls Tryd.prog 62 #[.int .i64 (rk 12 n : Nat), .int .i64 0] x fun e w' => ∃ v, e = .returned v ∧ Cr.Own x.heap.size w' v (stL d) ∧ Below x.heap.size x w') := Lib.hid fun x => by
    have q := rcode_ok 0 (rk 12 n) x (by omega) hr2
    rw [← eL] at q
    exact q
  rw [hr] at HC
  clear hr hr1 hr2 eL hn2
  by_cases hd : d < 0
  · rw [if_pos hd] at HC
    have hd2 : ¬ 0 < d := by omega
    have hw1 : IntKind.i64.wrap (-2 * d) = -2 * d := by rw [IntKind.wrap_i64]; omega
    have hw2 : IntKind.i64.wrap (-2 * d - 1) = -2 * d - 1 := by rw [IntKind.wrap_i64]; omega
    clear hn
    go_enter Tryd.func76, Tryd.ntmps76
    go_wp2_with (go_at_call 62; ((with_reducible refine (HC.out _).mono ?_); rintro e w1 ⟨v1, rfl, ho, hb⟩; have O1 := Lib.hid ho; have B1 := Lib.hid hb; clear ho hb))
    go_ret
    exact ⟨_, rfl, O1.out, B1.out⟩
  · rw [if_neg hd] at HC
    by_cases h0 : d = 0
    · subst h0
      rw [show (2 : Int) * 0 = 0 from rfl] at HC
      clear hn
      go_enter Tryd.func76, Tryd.ntmps76
      go_wp2_with (go_at_call 62; ((with_reducible refine (HC.out _).mono ?_); rintro e w1 ⟨v1, rfl, ho, hb⟩; have O1 := Lib.hid ho; have B1 := Lib.hid hb; clear ho hb))
      go_ret
      exact ⟨_, rfl, O1.out, B1.out⟩
    · have hd2 : 0 < d := by omega
      have hw1 : IntKind.i64.wrap (2 * d) = 2 * d := by rw [IntKind.wrap_i64]; omega
      clear hn
      go_enter Tryd.func76, Tryd.ntmps76
      go_wp2_with (go_at_call 62; ((with_reducible refine (HC.out _).mono ?_); rintro e w1 ⟨v1, rfl, ho, hb⟩; have O1 := Lib.hid ho; have B1 := Lib.hid hb; clear ho hb))
      go_ret
      exact ⟨_, rfl, O1.out, B1.out⟩
set_option maxRecDepth 100000 in
theorem rstep_any (vb : Value) (zb : List Int) (d : Int) (w : World) (sb : Src8 w vb zb) (lb : zb.length ≤ 20000) : Calls Tryd.prog 39 #[vb, .int .i64 d] w fun e w' => ∃ v, e = .returned (.tuple #[v, .int .i64 (stX d)]) ∧ Cr.Own w.heap.size w' v (if stX d = 0 then zb ++ stL d else []) ∧ Below w.heap.size w w' := by
  by_cases h : d < -60 ∨ 60 < d
  · obtain ⟨e1, e2⟩ := stL_out h
    rw [e2, if_neg (by decide)]
    have h' : d < -60 ∨ (¬ d < -60 ∧ 60 < d) := by omega
    clear e1 e2 sb lb h
    rcases h' with h | ⟨h, h1⟩
    all_goals
      go_enter Tryd.func39, Tryd.ntmps39
      go_wp2
      go_ret2
      exact ⟨_, rfl, own8n _ _, Below.refl _ _⟩
  · obtain ⟨n, z1, z2, z3, e2⟩ := stL_in (d := d) (by omega) (by omega)
    clear z1 z2 z3 n
    rw [e2, if_pos rfl]
    have hd1 : ¬ d < -60 := by omega
    have hd2 : ¬ 60 < d := by omega
    have HC := Lib.hid (fun x => rstepBits_ok d x (by omega) (by omega))
    have hL := stL_len d
    have HLn : Hid (zb.length ≤ 20000 ∧ (stL d).length ≤ 19) := Lib.hid ⟨lb, hL⟩
    generalize stL d = L at *
    have SB := Lib.hid sb
    have O0 := Lib.hid (own8n w.heap.size w)
    clear sb lb hL e2 h
    go_enter Tryd.func39, Tryd.ntmps39
    go_wp2_with first
      | (at_builtin; refine wpList_append_src _ rfl (.tmp 13) (.tmp 14) rfl w.heap.size _ [] rfl O0.out _ zb rfl SB.out (by have := HLn.out; simp; omega) (Nat.le_refl _) ?_; intro v1 w1 ho1 hg1 _; have O1 := Lib.hid ho1; have B1 := Lib.hid (Go.Proofs.YteklahfgplbmcaaDoor.Cr.below_grown (Below.refl w.heap.size w) O0.out (Nat.le_refl _) hg1); clear ho1 hg1)
      | (go_at_call 76; ((with_reducible refine (HC.out _).mono ?_); rintro e w2 ⟨v2, rfl, ho, hb⟩; have S2 := Lib.hid (own_src ho); have O2 := Lib.hid (Cr.Own.below O1.out hb); have B2 := Lib.hid (bT B1.out hb); clear ho hb))
      | (at_builtin; refine wpList_append_src _ rfl (.tmp 16) (.tmp 18) rfl w.heap.size _ _ rfl O2.out _ L rfl S2.out (by have := HLn.out; simp; omega) B2.out.size ?_; intro v3 w3 ho3 hg3 _; have O3 := Lib.hid ho3; have B3 := Lib.hid (Go.Proofs.YteklahfgplbmcaaDoor.Cr.below_grown B2.out O2.out (Nat.le_refl _) hg3); clear ho3 hg3)
    go_ret2
    exact ⟨_, rfl, O3.out, B3.out⟩
theorem rstepCost_any (d : Int) (w : World) : Calls Tryd.prog 43 #[.int .i64 d] w fun e w' => e = .returned (.tuple #[.int .i64 ((stL d).length : Nat), .int .i64 (stX d)]) ∧ Below w.heap.size w w' := by
  have H : Hid (Calls Tryd.prog 39 #[.slice none 0 0, .int .i64 d] w fun e w' => ∃ v, e = .returned (.tuple #[v, .int .i64 (stX d)]) ∧ Cr.Own w.heap.size w' v (stL d) ∧ Below w.heap.size w w') := Lib.hid ((rstep_any (.slice none 0 0) [] d w (src_nil w) (by decide)).mono fun e w' ⟨v, h1, h2, h3⟩ => ⟨v, h1, by
    by_cases c : stX d = 0
    · rw [if_pos c, List.nil_append] at h2; exact h2
    · rw [if_neg c] at h2
      have : d < -60 ∨ 60 < d := by
        unfold stX at c
        by_cases c2 : d < -60 ∨ 60 < d
        · exact c2
        · rw [if_neg c2] at c; exact absurd rfl c
      rw [(stL_out this).1]; exact h2, h3⟩)
  generalize stL d = L at *
  generalize stX d = X at *
  go_enter Tryd.func43, Tryd.ntmps43
  go_wp2_with first
    | (go_at_call 39; ((with_reducible refine (H.out).mono ?_); rintro e w1 ⟨v1, rfl, ho1, hb⟩; obtain ⟨a9, c9, rfl⟩ := (own_src ho1).shape; have B1 := Lib.hid hb; clear ho1 hb))
  go_ret2
  exact ⟨rfl, B1.out⟩
set_option maxRecDepth 100000 in
theorem rfound_12 (a1 a2 : Option Addr) (c1 c2 : Nat) (a0 : Option Addr) (c0 : Nat) (z : List Int) (A : Int) (w : World) (hE : RdA w a1 (zi (ord 12))) (hr : R8 w (.slice a0 z.length c0) z) (hz : ∀ x ∈ z, 0 ≤ x ∧ x ≤ 255) (hl : z.length ≤ 20000) :
    Calls Tryd.prog 63 #[.agg #[.int .i64 12, .int .i64 0, .slice a1 121 c1, .slice a2 121 c2], .slice a0 z.length c0, .int .i64 A] w fun e w' => e = T3 (readF (ord 12) 0 z A) ∧ Below w.heap.size w w' := by
  have q := rfound_any 12 a1 a2 c1 c2 a0 c0 z A w (by decide) (by decide) hE hr hz hl
  rw [nn12, pl12] at q
  exact q
set_option maxRecDepth 100000 in
theorem rstepped_any (a0 : Option Addr) (c0 : Nat) (z : List Int) (A : Int) (w : World) (hv : R8 w (.slice a0 z.length c0) z) (hz : ∀ x ∈ z, 0 ≤ x ∧ x ≤ 255) (hl : z.length ≤ 20000) : Calls Tryd.prog 41 #[.slice a0 z.length c0, .int .i64 A] w fun e w' => e = T3 (sT z A) ∧ Below w.heap.size w w' := by
  have H77 : Hid (Calls Tryd.prog 77 #[] w fun e w' => ∃ a1 c1 a2, e = .returned (.agg #[.int .i64 12, .int .i64 0, .slice a1 121 c1, .slice a2 121 121]) ∧ RdA w' a1 (zi (ord 12)) ∧ Below w.heap.size w w') := Lib.hid ((steps_ok w).mono fun e w' ⟨v1, v2, h1, h2, ⟨a2, h3⟩, h4⟩ => by
    obtain ⟨⟨a1, c1, e1⟩, h5⟩ := h2
    have h6 := h5 w' (fun g _ _ => rfl)
    rw [zo_len' (by decide) (by decide)] at e1
    have e2 : v1 = .slice a1 121 c1 := e1
    refine ⟨a1, c1, a2, by rw [h1, e2, h3], ?_, h4⟩
    rw [e1] at h6
    have h7 : Rd w' (.slice a1 (zi (ord 12)).length c1) (zi (ord 12)) := by rw [zo_len' (by decide) (by decide)]; exact h6
    exact rd_RdA h7)
  have H63 := Lib.hid (fun x a1 c1 a2 (h : Below w.heap.size w x) (hE : RdA x a1 (zi (ord 12))) => rfound_12 a1 a2 c1 121 a0 c0 z A x hE (hv.below h) hz hl)
  obtain ⟨b0, b1⟩ := rd_bd z A
  have HT : Hid (sT z A = if (readF (ord 12) 0 z A).2.2 ≠ 0 then (0, 0, (readF (ord 12) 0 z A).2.2) else ((readF (ord 12) 0 z A).1 - 60, (readF (ord 12) 0 z A).2.1, 0)) := Lib.hid rfl
  generalize readF (ord 12) 0 z A = R at *
  obtain ⟨x, n, er⟩ := R
  simp only at HT b0 b1
  have hw : IntKind.i64.wrap (x - 60) = x - 60 := by rw [IntKind.wrap_i64]; omega
  simp only [T3] at H63
  rw [HT.out]
  clear hv hz hl HT
  by_cases he : er = 0
  · subst he
    rw [if_neg (by simp)]
    go_enter Tryd.func41, Tryd.ntmps41
    go_wp2_with first
      | (go_at_call 77; ((with_reducible refine (H77.out).mono ?_); rintro e w1 ⟨a1, c1, a2, rfl, hE, hb⟩; have E1 := Lib.hid hE; have B1 := Lib.hid hb; clear hE hb))
      | (go_at_call 63; ((with_reducible refine (H63.out _ _ _ _ B1.out E1.out).mono ?_); rintro e w2 ⟨rfl, hb⟩; have B2 := Lib.hid (bT B1.out hb); clear hb))
    go_ret3
    exact ⟨rfl, B2.out⟩
  · rw [if_pos he]
    have hee : (er == 0) = false := by simp [he]
    go_enter Tryd.func41, Tryd.ntmps41
    go_wp2_with first
      | (go_at_call 77; ((with_reducible refine (H77.out).mono ?_); rintro e w1 ⟨a1, c1, a2, rfl, hE, hb⟩; have E1 := Lib.hid hE; have B1 := Lib.hid hb; clear hE hb))
      | (go_at_call 63; ((with_reducible refine (H63.out _ _ _ _ B1.out E1.out).mono ?_); rintro e w2 ⟨rfl, hb⟩; have B2 := Lib.hid (bT B1.out hb); clear hb))
    go_ret3
    exact ⟨rfl, B2.out⟩
end Go.Proofs.YteklahfgplbmcaaDoor.Hf

/- Steps, as the document tells them. -/
namespace Go.Proofs.YteklahfgplbmcaaDoor.Hf
open Go Go.ChangeShapes Go.WideShapes Go.ChangeAt Go.RowKit Go.Proofs.YteklahfgplbmcaaDoor.Bk Go.Proofs.YteklahfgplbmcaaDoor.Bi Go.Proofs.YteklahfgplbmcaaDoor.Cr Go.Proofs.YteklahfgplbmcaaDoor.Fx

open Go.Proofs.YteklahfgplbmcaaDoor.BkRf Go.Proofs.YteklahfgplbmcaaDoor.BkPx Go.Proofs.YteklahfgplbmcaaDoor.BkEn
theorem long11 (A : Option Addr) (n c : Nat) (t d : Int) (w : World) (h : 10000 < (n : Int)) :
    Calls Tryd.prog 11 #[.slice A n c, .int .i64 t, .int .i64 d] w fun e w' => e = .returned (.bool true) ∧ Below w.heap.size w w' := by
  go_enter Tryd.func11, Tryd.ntmps11
  go_wp2
  go_ret
  exact ⟨rfl, Below.refl _ _⟩
set_option maxRecDepth 100000 in
set_option maxHeartbeats 8000000 in
theorem good11 (A : Option Addr) (c : Nat) (z : List Int) (t d : Int) (w : World) (hs : Sh w) (hl : z.length ≤ 10000) (hr : R8 w (.slice A z.length c) z) (hz : ∀ x ∈ z, 0 ≤ x ∧ x ≤ 255) :
    Calls Tryd.prog 11 #[.slice A z.length c, .int .i64 t, .int .i64 d] w fun e w' => e = .returned (.bool true) ∧ Below w.heap.size w w' := by
  have g1 : ¬ 10000 < (z.length : Int) := by omega
  have HCV := Lib.hid (fun x (h : Below w.heap.size w x) => conv_src ((r8_src hr).below h))
  have cv0 := conv_src (r8_src hr)
  have H38 := Lib.hid (fun x (h : Below w.heap.size w x) => step_any (.slice A z.length c) z d x (hs.below h) ((r8_src hr).below h) (by omega))
  have H39 := Lib.hid (fun x (h : Below w.heap.size w x) => rstep_any (.slice A z.length c) z d x ((r8_src hr).below h) (by omega))
  have H40 := Lib.hid (fun x (h : Below w.heap.size w x) => stepped_any (.slice A z.length c) z t x (hs.below h) (hr.below h) hz (by omega))
  have H41 := Lib.hid (fun x (h : Below w.heap.size w x) => rstepped_any A c z t x (hr.below h) hz (by omega))
  have H42 := Lib.hid (fun x (h : Below w.heap.size w x) => stepCost_any d x (hs.below h))
  have H43 := Lib.hid (fun x => rstepCost_any d x)
  generalize (if stX d = 0 then z ++ stL d else []) = P at *
  generalize stL d = L at *
  generalize stX d = X at *
  generalize sT z t = Q at *
  obtain ⟨q1, q2, q3⟩ := Q
  simp only [T3] at H40 H41
  clear hs hr hz hl
  go_enter Tryd.func11, Tryd.ntmps11
  go_wp2_with first
    | (go_at_call 38; ((with_reducible refine (H38.out _ (Below.refl _ _)).mono ?_); rintro e w1 ⟨v1, rfl, ho, hb⟩; have O1 := Lib.hid ho; have B1 := Lib.hid hb; clear ho hb))
    | (go_at_call 39; ((with_reducible refine (H39.out _ B1.out).mono ?_); rintro e w2 ⟨v2, rfl, ho, hb⟩; have O2 := Lib.hid ho; have S2 := Lib.hid hb; have B2 := Lib.hid (bT B1.out hb); clear ho hb))
    | (go_at_call 40; ((with_reducible refine (H40.out _ B2.out).mono ?_); rintro e w3 ⟨rfl, hb⟩; have S3 := Lib.hid hb; have B3 := Lib.hid (bT B2.out hb); clear hb))
    | (go_at_call 41; ((with_reducible refine (H41.out _ B3.out).mono ?_); rintro e w4 ⟨rfl, hb⟩; have S4 := Lib.hid (bT S3.out hb); have B4 := Lib.hid (bT B3.out hb); clear hb))
    | (go_at_call 42; ((with_reducible refine (H42.out _ B4.out).mono ?_); rintro e w5 ⟨rfl, hb⟩; have S5 := Lib.hid (bT S4.out hb); have B5 := Lib.hid (bT B4.out hb); clear hb))
    | (go_at_call 43; ((with_reducible refine (H43.out _).mono ?_); rintro e w6 ⟨rfl, hb⟩; have B6 := Lib.hid (bT B5.out hb); have cv6 := HCV.out w6 B6.out; have cv1 := conv_src ((own_src O1.out).below (bT S2.out (bT S5.out hb))); have cv2 := conv_src ((own_src O2.out).below (bT S5.out hb)); clear hb))
  go_ret
  exact ⟨rfl, B6.out⟩
end Go.Proofs.YteklahfgplbmcaaDoor.Hf
