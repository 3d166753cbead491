/- Texts of one claim, one behind the other: BcPr, BcFd, BcFo, BcRe, BcLw, BcMn. -/
import Derived.Test.YteklahfgplbmcaaDoorMrg8
import Derived.Test.YteklahfgplbmcaaDoorMrg9
import Derived.WalkKit
import Derived.Below
import Derived.RegionTactic
import Derived.Deep.QuietTactic
import Derived.BigQuiet
import Derived.ChangeAlike
import Derived.Deep.OwnRows
import Derived.Deep.Cut
import Derived.ProofKit
import Derived.OpenShut
import Derived.Laws.EntriesVeiled
import Derived.Lib.Hide
import Derived.Deep.RegionHeld3
import Derived.Laws.AppendOwn
import Derived.Laws.AppendOwnNone
import Derived.Test.YteklahfgplbmcaaDoorEvOpen
set_option linter.unusedVariables false
/- The program's Read of whatever book. -/
namespace Go.Proofs.YteklahfgplbmcaaDoor.BkRf
open Go Go.ChangeShapes Go.WideShapes Go.ChangeAt Go.RowKit Go.Proofs.YteklahfgplbmcaaDoor.Bk Go.Proofs.YteklahfgplbmcaaDoor.Bi Go.Proofs.YteklahfgplbmcaaDoor.Cr Go.Proofs.YteklahfgplbmcaaDoor.Fx

theorem zi_getD (l : List Nat) (j : Nat) : (zi l).getD j 0 = ((l.getD j 0 : Nat) : Int) := by
  unfold zi
  simp only [List.getD_eq_getElem?_getD, List.getElem?_map]
  cases l[j]? <;> rfl
set_option maxRecDepth 100000 in
set_option maxHeartbeats 8000000 in
theorem pread_ok (id : Nat) (a1 a2 : Option Addr) (c1 c2 : Nat) (v : Value) (z : List Int) (A : Int) (w : World) (h1 : 1 ≤ id) (h2 : id ≤ 12) (hs : Sh w) (he : RdA w a1 (zi (ord id))) (hG0 : ∀ x, Below w.heap.size w x → Sh x → Calls Tryd.prog 49 #[.agg #[.int .i64 (id : Int), .int .i64 (pl id : Int), .slice a1 (Nn id) c1, .slice a2 (Nn id) c2]] x fun e w' => e = .returned (.bool true) ∧ Below x.heap.size x w')
    (hv : R8 w v z) (hz : ∀ x ∈ z, 0 ≤ x ∧ x ≤ 255) (hl : z.length ≤ 20000) :
    Calls Tryd.prog 17 #[.agg #[.int .i64 (id : Int), .int .i64 (pl id : Int), .slice a1 (Nn id) c1, .slice a2 (Nn id) c2], v, .int .i64 A] w fun e w' => e = T3 (readF (ord id) (pl id) z A) ∧ Below w.heap.size w w' := by
  obtain ⟨f1, f2, f3, f4, f5, f6, f7, f8, f9, f10, f11, f12, f13, f14⟩ := facts h1 h2
  have HG := Lib.hid hG0
  have HE := Lib.hid he
  have HX := Lib.hid (fun x h => bx1 (w := w) (a := .int .i64 (id : Int)) (b := .int .i64 (pl id : Int)) (c := .slice a1 (Nn id) c1) (d := .slice a2 (Nn id) c2) (x := x) h)
  have hb0 := Lib.hid (al w (.cells #[.int .i64 (id : Int), .int .i64 (pl id), .slice a1 (Nn id) c1, .slice a2 (Nn id) c2] 24))
  have hsA := Lib.hid (hs.below (al w (.cells #[.int .i64 (id : Int), .int .i64 (pl id), .slice a1 (Nn id) c1, .slice a2 (Nn id) c2] 24)))
  have HV := Lib.hid hv
  have HZr : Hid (∀ w', Below w.heap.size w w' → Calls Tryd.prog 52 #[v, .int .i64 A] w' fun e w'' => e = .returned (.tuple #[.int .i64 (zerosF z 10 0 A).1, .int .i64 (zerosF z 10 0 A).2.1, .int .i64 (zerosF z 10 0 A).2.2]) ∧ w' = w'') := Lib.hid fun w' hb => zeros_ok v z A w' (hv.below hb) hz hl
  have HGt : Hid (∀ w' (B : Int) (s : Nat), Below w.heap.size w w' → s ≤ 31 → Calls Tryd.prog 53 #[v, .int .i64 B, .int .i64 s] w' fun e w'' => e = .returned (.tuple #[.int .i64 (getF z B s).1, .int .i64 (getF z B s).2.1, .int .i64 (getF z B s).2.2]) ∧ w' = w'') := Lib.hid fun w' B s hb h => get_all v z B s w' (hv.below hb) hz hl h
  obtain ⟨k0, k1, k2, k3⟩ := HX.out _ (Below.refl _ _)
  have hord := (ord_is h1 h2).length
  have HRd : Hid (∀ x, T3 x = .returned (.tuple #[.int .i64 x.1, .int .i64 x.2.1, .int .i64 x.2.2])) := Lib.hid fun _ => rfl
  obtain ⟨kz, n1, e1, hzz⟩ : ∃ kz n1 e1, zerosF z 10 0 A = (kz, n1, e1) := ⟨_, _, _, rfl⟩
  have hzl := zeros_le (z := z) (f := 10) (m := 0) (A := A)
  rw [hzz] at HZr hzl
  by_cases he1 : e1 = 0
  · subst he1
    obtain ⟨m, hm1, hm2⟩ := hzl rfl
    simp only at hm1
    subst hm1
    have HG1 := Lib.hid (fun w' hb => HGt.out w' n1 m hb (by omega))
    have hn1 := getF_num (z := z) (A := n1) (s := m)
    obtain ⟨lo, n2, e2, hg1⟩ : ∃ lo n2 e2, getF z n1 m = (lo, n2, e2) := ⟨_, _, _, rfl⟩
    rw [hg1] at HG1 hn1
    by_cases he2 : e2 = 0
    · subst he2
      have HG2 := Lib.hid (fun w' hb => HGt.out w' n2 (pl id) hb (by omega))
      have hn2 := getF_num (z := z) (A := n2) (s := pl id)
      obtain ⟨p, n3, e3, hg2⟩ : ∃ p n3 e3, getF z n2 (pl id) = (p, n3, e3) := ⟨_, _, _, rfl⟩
      rw [hg2] at HG2 hn2
      by_cases he3 : e3 = 0
      · subst he3
        have hres : readF (ord id) (pl id) z A = if ((ord id).length : Int) ≤ (2 ^ m + lo - 1) * 2 ^ pl id + p then (0, 0, 8) else ((((ord id).getD ((2 ^ m + lo - 1) * 2 ^ pl id + p).toNat 0 : Nat) : Int), n3, 0) := by
          unfold readF; simp [hzz, hg1, hg2]
        rw [hres, hord]
        obtain ⟨l0, l1⟩ := hn1 rfl
        obtain ⟨p0, p1⟩ := hn2 rfl
        simp only at l0 l1 p0 p1
        obtain ⟨rk0, hrk0⟩ : ∃ rk0 : Int, (2 ^ m + lo - 1) * 2 ^ pl id + p = rk0 := ⟨_, rfl⟩
        obtain ⟨hwr, hrk1⟩ := rank_wrap (P := (2 : Int) ^ m) (Q := (2 : Int) ^ pl id) (lo := lo) (p := p) (pow_b (Nat.le_refl m)).1 (pow_b (k := 9) (by omega)).2 (pow_b f6).1 (pow_b (k := 2) f6).2 l0 l1 p0 p1
        rw [hrk0] at hwr hrk1
        rw [hrk0]
        clear hrk0
        clear hres hzz hg1 hg2 hzl hn1 hn2 HGt hs he hG0 hv hl hz f1 f2 f3 f4 f5 f9 f10 f11 f12 f13 f14
        by_cases hge : ((Nn id : Nat) : Int) ≤ rk0
        · rw [if_pos hge]
          go_enter Tryd.func17, Tryd.ntmps17
          go_upto_region 12 with first
          | (go_at_call 49; ((with_reducible refine (HG.out _ hb0.out hsA.out).mono ?_); rintro e w1 ⟨rfl, hb1⟩; have h1 := Lib.hid (bT hb0.out hb1); (try clear k0 k1 k2 k3); obtain ⟨q0, q1, q2, q3⟩ := HX.out w1 hb1))
          | (go_at_call 52; ((with_reducible refine (HZr.out _ h1.out).mono ?_); rintro e w2 ⟨rfl, rfl⟩))
          | (go_at_call 53; ((with_reducible refine (HG1.out _ h1.out).mono ?_); rintro e w3 ⟨rfl, rfl⟩))
          | (go_at_call 53; ((with_reducible refine (HG2.out _ h1.out).mono ?_); rintro e w4 ⟨rfl, rfl⟩))
          go_quiet (fail)
          go_wp2
          go_ret3
          exact ⟨rfl, h1.out.trans ((drewN_belowL w1 nq).mono h1.out.size)⟩
        · rw [if_neg hge]
          obtain ⟨r, rfl⟩ : ∃ r : Nat, rk0 = (r : Int) := ⟨rk0.toNat, by omega⟩
          have hrn : r < Nn id := by omega
          have hce : (zi (ord id)).getD r 0 = (((ord id).getD r 0 : Nat) : Int) := zi_getD _ _
          rw [Int.toNat_natCast]
          obtain ⟨en, hen⟩ : ∃ en : Nat, (ord id).getD r 0 = en := ⟨_, rfl⟩
          rw [hen] at hce ⊢
          obtain ⟨b, off, ea, hElt, ceA⟩ := HE.out r (by rw [zi_len, hord]; exact hrn)
          subst ea
          rw [hce] at ceA
          clear hen hce
          go_enter Tryd.func17, Tryd.ntmps17
          go_upto_region 12 with first
          | (go_at_call 49; ((with_reducible refine (HG.out _ hb0.out hsA.out).mono ?_); rintro e w1 ⟨rfl, hb1⟩; have h1 := Lib.hid (bT hb0.out hb1); (try clear k0 k1 k2 k3); obtain ⟨q0, q1, q2, q3⟩ := HX.out w1 hb1))
          | (go_at_call 52; ((with_reducible refine (HZr.out _ h1.out).mono ?_); rintro e w2 ⟨rfl, rfl⟩))
          | (go_at_call 53; ((with_reducible refine (HG1.out _ h1.out).mono ?_); rintro e w3 ⟨rfl, rfl⟩))
          | (go_at_call 53; ((with_reducible refine (HG2.out _ h1.out).mono ?_); rintro e w4 ⟨rfl, rfl⟩))
          have ce := (h1.out.cell (p := ⟨b, off + r, none⟩) hElt).trans ceA
          clear ceA
          go_quiet (fail)
          go_wp2
          go_ret3
          exact ⟨rfl, h1.out.trans ((drewN_belowL w1 nq).mono h1.out.size)⟩
      · have hres : readF (ord id) (pl id) z A = (0, 0, e3) := by
          unfold readF; simp [hzz, hg1, hg2, he3]
        rw [hres]
        have hee : (e3 == 0) = false := by simp [he3]
        clear hres hzz hg1 hg2 hzl hn1 hn2 HGt hs he hG0 hv hl hz f1 f2 f3 f4 f5 f9 f10 f11 f12 f13 f14
        go_enter Tryd.func17, Tryd.ntmps17
        go_wp2_with first
          | (go_at_call 49; ((with_reducible refine (HG.out _ hb0.out hsA.out).mono ?_); rintro e w1 ⟨rfl, hb1⟩; have h1 := Lib.hid (bT hb0.out hb1); (try clear k0 k1 k2 k3); obtain ⟨q0, q1, q2, q3⟩ := HX.out w1 hb1))
          | (go_at_call 52; ((with_reducible refine (HZr.out _ h1.out).mono ?_); rintro e w2 ⟨rfl, rfl⟩))
          | (go_at_call 53; ((with_reducible refine (HG1.out _ h1.out).mono ?_); rintro e w3 ⟨rfl, rfl⟩))
          | (go_at_call 53; ((with_reducible refine (HG2.out _ h1.out).mono ?_); rintro e w4 ⟨rfl, rfl⟩))
        go_ret3
        exact ⟨rfl, h1.out⟩
    · have hres : readF (ord id) (pl id) z A = (0, 0, e2) := by
        unfold readF; simp [hzz, hg1, he2]
      rw [hres]
      have hee : (e2 == 0) = false := by simp [he2]
      clear hres hzz hg1 hzl hn1 HGt hs he hG0 hv hl hz f1 f2 f3 f4 f5 f9 f10 f11 f12 f13 f14
      go_enter Tryd.func17, Tryd.ntmps17
      go_wp2_with first
          | (go_at_call 49; ((with_reducible refine (HG.out _ hb0.out hsA.out).mono ?_); rintro e w1 ⟨rfl, hb1⟩; have h1 := Lib.hid (bT hb0.out hb1); (try clear k0 k1 k2 k3); obtain ⟨q0, q1, q2, q3⟩ := HX.out w1 hb1))
          | (go_at_call 52; ((with_reducible refine (HZr.out _ h1.out).mono ?_); rintro e w2 ⟨rfl, rfl⟩))
          | (go_at_call 53; ((with_reducible refine (HG1.out _ h1.out).mono ?_); rintro e w3 ⟨rfl, rfl⟩))
      go_ret3
      exact ⟨rfl, h1.out⟩
  · have hres : readF (ord id) (pl id) z A = (0, 0, e1) := by
      unfold readF; simp [hzz, he1]
    rw [hres]
    have hee : (e1 == 0) = false := by simp [he1]
    clear hres hzz hzl HGt hs he hG0 hv hl hz f1 f2 f3 f4 f5 f9 f10 f11 f12 f13 f14
    go_enter Tryd.func17, Tryd.ntmps17
    go_wp2_with first
          | (go_at_call 49; ((with_reducible refine (HG.out _ hb0.out hsA.out).mono ?_); rintro e w1 ⟨rfl, hb1⟩; have h1 := Lib.hid (bT hb0.out hb1); (try clear k0 k1 k2 k3); obtain ⟨q0, q1, q2, q3⟩ := HX.out w1 hb1))
          | (go_at_call 52; ((with_reducible refine (HZr.out _ h1.out).mono ?_); rintro e w2 ⟨rfl, rfl⟩))
    go_ret3
    exact ⟨rfl, h1.out⟩
end Go.Proofs.YteklahfgplbmcaaDoor.BkRf

/- What the document reads. -/
namespace Go.Proofs.YteklahfgplbmcaaDoor.BkRf
open Go Go.ChangeShapes Go.WideShapes Go.ChangeAt Go.RowKit Go.Proofs.YteklahfgplbmcaaDoor.Bk Go.Proofs.YteklahfgplbmcaaDoor.Bi Go.Proofs.YteklahfgplbmcaaDoor.Cr Go.Proofs.YteklahfgplbmcaaDoor.Fx
theorem rget_all (v : Value) (z : List Int) (A : Int) (s : Nat) (w : World) (hr : R8 w v z) (hz : ∀ x ∈ z, 0 ≤ x ∧ x ≤ 255) (hl : z.length ≤ 20000) (s1 : s ≤ 31) :
    Calls Tryd.prog 88 #[v, .int .i64 A, .int .i64 s] w fun e w' => e = T3 (getF z A s) ∧ w = w' := by
  obtain ⟨a0, c0, hv, hc0, hcm⟩ : ∃ a0 c0, v = .slice a0 z.length c0 ∧ z.length ≤ c0 ∧ c0 ≤ maxLen := by
    rcases hr with ⟨rfl | ⟨x, c, rfl, hc⟩, rfl⟩ | ⟨b, off, c, rfl, h2, h3, _⟩
    · exact ⟨none, 0, rfl, Nat.le_refl _, by unfold maxLen; omega⟩
    · exact ⟨some x, c, rfl, Nat.zero_le _, hc⟩
    · exact ⟨_, c, rfl, h2, h3⟩
  by_cases h1 : A < 0 ∨ (z.length : Int) < A
  · subst hv
    have e : getF z A s = (0, 0, 2) := by unfold getF; rw [if_pos h1]
    rw [e]
    exact rget_arg a0 z.length c0 A s w (by omega) (by omega)
  by_cases h2 : (z.length : Int) - A < s
  · subst hv
    have e : getF z A s = (0, 0, 5) := by unfold getF; rw [if_neg h1, if_pos h2]
    rw [e]
    exact rget_end a0 z.length c0 A s w (by omega) (by omega) (by omega) (by omega) (by omega) h2
  obtain ⟨a, rfl⟩ : ∃ a : Nat, A = (a : Int) := ⟨A.toNat, by omega⟩
  have e : getF z a s = if bok ((z.drop a).take s) then (num ((z.drop a).take s), (a : Int) + s, 0) else (0, 0, 8) := by
    unfold getF; rw [if_neg h1, if_neg h2]; simp
  rcases hr with ⟨hv2, rfl⟩ | ⟨b, off, c, rfl, h3, h4, h5, h6⟩
  · have ha : a = 0 := by simp at h1; omega
    subst ha
    have hs0 : s = 0 := by simp at h2; omega
    subst hs0
    rw [e]
    rcases hv2 with rfl | ⟨x, c, rfl, hc⟩
    · exact rget_zero none 0 0 0 w (by unfold maxLen; omega) (Nat.le_refl _)
    · exact rget_zero (some x) 0 c 0 w (by unfold maxLen; omega) (Nat.le_refl _)
  · by_cases hs0 : s = 0
    · subst hs0
      rw [e]
      have := rget_zero (some ⟨b, off, none⟩) z.length c a w (by unfold maxLen; omega) (by omega)
      refine this.mono fun _ _ h => ⟨?_, h.2⟩
      rw [h.1]
      simp [T3, bok, num]
    · have := rget_room b off z.length c a s ((z.drop a).take s) w (by unfold maxLen; omega) s1 (by omega) (drop_take_len (by omega)) (fun x hx => hz x (List.mem_of_mem_drop (List.mem_of_mem_take hx))) (fun i hi => by
        have := h6 (a + i) (by omega)
        rw [this]
        simp [List.getD_eq_getElem?_getD, hi, List.getElem?_drop])
      refine this.mono fun _ _ h => ⟨?_, h.2⟩
      rw [e]
      rcases h.1 with ⟨h7, h8⟩ | ⟨h7, h8⟩
      · rw [h8, if_pos ((bok_iff _).2 h7)]; rfl
      · rw [h8, if_neg (fun h => h7 ((bok_iff _).1 h))]; rfl
end Go.Proofs.YteklahfgplbmcaaDoor.BkRf

/- What the document finds. -/
namespace Go.Proofs.YteklahfgplbmcaaDoor.BkRf
open Go Go.ChangeShapes Go.WideShapes Go.ChangeAt Go.RowKit Go.Proofs.YteklahfgplbmcaaDoor.Bk Go.Proofs.YteklahfgplbmcaaDoor.Bi Go.Proofs.YteklahfgplbmcaaDoor.Cr Go.Proofs.YteklahfgplbmcaaDoor.Fx

set_option maxRecDepth 100000 in
set_option maxHeartbeats 8000000 in
theorem rfound_bad (id : Nat) (a1 a2 : Option Addr) (c1 c2 : Nat) (a0 : Option Addr) (c0 : Nat) (z : List Int) (A : Int) (w : World)
    (hr : R8 w (.slice a0 z.length c0) z) (hz : ∀ x ∈ z, 0 ≤ x ∧ x ≤ 255) (hl : z.length ≤ 20000) (hbad : (zerosF z 10 0 A).2.2 ≠ 0) :
    Calls Tryd.prog 63 #[.agg #[.int .i64 (id : Int), .int .i64 (pl id : Int), .slice a1 (Nn id) c1, .slice a2 (Nn id) c2], .slice a0 z.length c0, .int .i64 A] w fun e w' => e = T3 (0, 0, (zerosF z 10 0 A).2.2) ∧ Below w.heap.size w w' := by
  have HB := Lib.hid (al w (.cells #[.int .i64 (id : Int), .int .i64 (pl id : Int), .slice a1 (Nn id) c1, .slice a2 (Nn id) c2] 24))
  have hzb := zerosF_bad hbad
  by_cases hA : A < 0 ∨ (z.length : Int) < A
  · have hg : getF z A 1 = (0, 0, 2) := by unfold getF; rw [if_pos hA]
    have hzf : (zerosF z 10 0 A).2.2 = 2 := by
      rw [show (10 : Nat) = 9 + 1 from rfl, zerosF, hg]; simp
    rw [hzf]
    clear hbad hzb hg hzf hr hz
    by_cases h0 : A < 0
    · clear hA
      go_enter Tryd.func63, Tryd.ntmps63
      go_wp2
      go_ret3
      exact ⟨rfl, HB.out⟩
    · have h3 : (z.length : Int) < A := by omega
      clear hA
      go_enter Tryd.func63, Tryd.ntmps63
      go_wp2
      go_ret3
      exact ⟨rfl, HB.out⟩
  · have hA0 : ¬ A < 0 := by omega
    have hA1 : ¬ (z.length : Int) < A := by omega
    have HG : Hid (∀ B, Calls Tryd.prog 88 #[.slice a0 z.length c0, .int .i64 B, .int .i64 1] (w.alloc (.cells #[.int .i64 (id : Int), .int .i64 (pl id : Int), .slice a1 (Nn id) c1, .slice a2 (Nn id) c2] 24)) fun e w' => e = .returned (.tuple #[.int .i64 (getF z B 1).1, .int .i64 (getF z B 1).2.1, .int .i64 (getF z B 1).2.2]) ∧ (w.alloc (.cells #[.int .i64 (id : Int), .int .i64 (pl id : Int), .slice a1 (Nn id) c1, .slice a2 (Nn id) c2] 24)) = w') := Lib.hid fun B => rget_all _ z B 1 _ (hr.below HB.out) hz hl (by omega)
    have HF : Hid (∀ (f m : Nat) (B : Int), zerosF z (f + 1) m B = if (getF z B 1).2.2 ≠ 0 then (0, 0, (getF z B 1).2.2) else if (getF z B 1).1 = 1 then ((m : Int), (getF z B 1).2.1, 0) else zerosF z f (m + 1) (getF z B 1).2.1) := Lib.hid fun f m B => rfl
    have H0 : Hid (∀ m B, zerosF z 0 m B = (0, 0, 8)) := Lib.hid fun m B => rfl
    obtain ⟨zf, hzf⟩ : ∃ zf, zerosF z 10 0 A = zf := ⟨_, rfl⟩
    rw [hzf] at hbad hzb ⊢
    have HR0 := Lib.hid hzf
    have HBD := Lib.hid hbad
    clear hzf hr hA hbad hzb
    generalize hW0 : w.alloc (.cells #[.int .i64 (id : Int), .int .i64 (pl id : Int), .slice a1 (Nn id) c1, .slice a2 (Nn id) c2] 24) = W0 at *
    go_enter Tryd.func63, Tryd.ntmps63
    go_wp2
    go_loop [2, 9] (fun at_ zs => ∃ (m : Nat) (B : Int), m ≤ 10 ∧ zs = .int .i64 m ∧ at_ = .int .i64 B ∧ Hid (zerosF z (10 - m) m B = zf)) (fun _ zs => 10 - (intOf zs).toNat)
    case atStart => exact ⟨0, A, by omega, rfl, rfl, HR0⟩
    case round =>
      obtain ⟨m, B, hm, rfl, rfl, hF⟩ := hrel
      by_cases hlt : m ≤ 9
      · have hF2 := hF.out
        rw [show 10 - m = (10 - (m + 1)) + 1 by omega, HF.out] at hF2
        obtain ⟨bit, nx, er, hg⟩ : ∃ bit nx er, getF z B 1 = (bit, nx, er) := ⟨_, _, _, rfl⟩
        have HGB := Lib.hid (HG.out B)
        rw [hg] at hF2 HGB
        by_cases he : er = 0
        · subst he
          rw [if_neg (by simp)] at hF2
          by_cases hb : bit = 1
          · subst hb
            rw [if_pos rfl] at hF2
            exact absurd (by rw [← hF2]) HBD.out
          · rw [if_neg hb] at hF2
            have HF2 := Lib.hid hF2
            have hbe : (bit == 1) = false := by simp [hb]
            clear hF2 hF HG HF H0 hg HR0
            go_wp2_with (go_at_call 88; ((with_reducible refine (HGB.out).mono ?_); rintro e w1 ⟨rfl, rfl⟩))
            go_round
            case rel => exact ⟨m + 1, nx, by omega, by go_num, rfl, HF2⟩
            case measure => simp [intOf]; omega
        · rw [if_pos he] at hF2
          have HF2 := Lib.hid hF2
          have hee : (er == 0) = false := by simp [he]
          clear hF2 hF HG HF H0 hg HR0
          go_wp2_with (go_at_call 88; ((with_reducible refine (HGB.out).mono ?_); rintro e w1 ⟨rfl, rfl⟩))
          go_ret3
          exact ⟨by rw [← HF2.out]; rfl, HB.out⟩
      · have hend : m = 10 := by omega
        subst hend
        have hF2 := hF.out
        rw [Nat.sub_self, H0.out] at hF2
        have HF2 := Lib.hid hF2
        clear hF2 hF HG HF H0 HR0
        go_wp2
        go_ret3
        exact ⟨by rw [← HF2.out]; rfl, HB.out⟩

set_option maxRecDepth 100000 in
set_option maxHeartbeats 8000000 in
theorem rfound_good (id : Nat) (a1 a2 : Option Addr) (c1 c2 : Nat) (a0 : Option Addr) (c0 : Nat) (z : List Int) (A : Int) (w : World) (h1 : 1 ≤ id) (h2 : id ≤ 12) (hE : RdA w a1 (zi (ord id)))
    (hr : R8 w (.slice a0 z.length c0) z) (hz : ∀ x ∈ z, 0 ≤ x ∧ x ≤ 255) (hl : z.length ≤ 20000) (m0 : Nat) (n1 : Int) (hm0 : m0 ≤ 9) (hzz : zerosF z 10 0 A = ((m0 : Int), n1, 0)) :
    Calls Tryd.prog 63 #[.agg #[.int .i64 (id : Int), .int .i64 (pl id : Int), .slice a1 (Nn id) c1, .slice a2 (Nn id) c2], .slice a0 z.length c0, .int .i64 A] w fun e w' => e = T3 (readF (ord id) (pl id) z A) ∧ Below w.heap.size w w' := by
  have HB := Lib.hid (al w (.cells #[.int .i64 (id : Int), .int .i64 (pl id : Int), .slice a1 (Nn id) c1, .slice a2 (Nn id) c2] 24))
  have HX := Lib.hid (fun x h => bx1 (w := w) (a := .int .i64 (id : Int)) (b := .int .i64 (pl id : Int)) (c := .slice a1 (Nn id) c1) (d := .slice a2 (Nn id) c2) (x := x) h)
  obtain ⟨k0, k1, k2, k3⟩ := HX.out _ (Below.refl _ _)
  have f6 : pl id ≤ 2 := (facts h1 h2).2.2.2.2.2.1
  have hA : ¬ (A < 0 ∨ (z.length : Int) < A) := fun hA => by
    have hg : getF z A 1 = (0, 0, 2) := by unfold getF; rw [if_pos hA]
    have hzf : (zerosF z 10 0 A).2.2 = 2 := by
      rw [show (10 : Nat) = 9 + 1 from rfl, zerosF, hg]; simp
    rw [hzz] at hzf
    simp at hzf
  have hA0 : ¬ A < 0 := by omega
  have hA1 : ¬ (z.length : Int) < A := by omega
  have HG : Hid (∀ B, Calls Tryd.prog 88 #[.slice a0 z.length c0, .int .i64 B, .int .i64 1] (w.alloc (.cells #[.int .i64 (id : Int), .int .i64 (pl id : Int), .slice a1 (Nn id) c1, .slice a2 (Nn id) c2] 24)) fun e w' => e = .returned (.tuple #[.int .i64 (getF z B 1).1, .int .i64 (getF z B 1).2.1, .int .i64 (getF z B 1).2.2]) ∧ (w.alloc (.cells #[.int .i64 (id : Int), .int .i64 (pl id : Int), .slice a1 (Nn id) c1, .slice a2 (Nn id) c2] 24)) = w') := Lib.hid fun B => rget_all _ z B 1 _ (hr.below HB.out) hz hl (by omega)
  have HF : Hid (∀ (f m : Nat) (B : Int), zerosF z (f + 1) m B = if (getF z B 1).2.2 ≠ 0 then (0, 0, (getF z B 1).2.2) else if (getF z B 1).1 = 1 then ((m : Int), (getF z B 1).2.1, 0) else zerosF z f (m + 1) (getF z B 1).2.1) := Lib.hid fun f m B => rfl
  have H0 : Hid (∀ m B, zerosF z 0 m B = (0, 0, 8)) := Lib.hid fun m B => rfl
  have HR0 := Lib.hid hzz
  have HG1 : Hid (Calls Tryd.prog 88 #[.slice a0 z.length c0, .int .i64 n1, .int .i64 (m0 : Int)] (w.alloc (.cells #[.int .i64 (id : Int), .int .i64 (pl id : Int), .slice a1 (Nn id) c1, .slice a2 (Nn id) c2] 24)) fun e w' => e = .returned (.tuple #[.int .i64 (getF z n1 m0).1, .int .i64 (getF z n1 m0).2.1, .int .i64 (getF z n1 m0).2.2]) ∧ (w.alloc (.cells #[.int .i64 (id : Int), .int .i64 (pl id : Int), .slice a1 (Nn id) c1, .slice a2 (Nn id) c2] 24)) = w') := Lib.hid (rget_all _ z n1 m0 _ (hr.below HB.out) hz hl (by omega))
  have hn1 := getF_num (z := z) (A := n1) (s := m0)
  obtain ⟨lo, n2, e2, hg1⟩ : ∃ lo n2 e2, getF z n1 m0 = (lo, n2, e2) := ⟨_, _, _, rfl⟩
  rw [hg1] at HG1 hn1
  by_cases he2 : e2 = 0
  · subst he2
    have HG2 : Hid (Calls Tryd.prog 88 #[.slice a0 z.length c0, .int .i64 n2, .int .i64 (pl id : Int)] (w.alloc (.cells #[.int .i64 (id : Int), .int .i64 (pl id : Int), .slice a1 (Nn id) c1, .slice a2 (Nn id) c2] 24)) fun e w' => e = .returned (.tuple #[.int .i64 (getF z n2 (pl id)).1, .int .i64 (getF z n2 (pl id)).2.1, .int .i64 (getF z n2 (pl id)).2.2]) ∧ (w.alloc (.cells #[.int .i64 (id : Int), .int .i64 (pl id : Int), .slice a1 (Nn id) c1, .slice a2 (Nn id) c2] 24)) = w') := Lib.hid (rget_all _ z n2 (pl id) _ (hr.below HB.out) hz hl (by omega))
    have hn2 := getF_num (z := z) (A := n2) (s := pl id)
    obtain ⟨p, n3, e3, hg2⟩ : ∃ p n3 e3, getF z n2 (pl id) = (p, n3, e3) := ⟨_, _, _, rfl⟩
    rw [hg2] at HG2 hn2
    by_cases he3 : e3 = 0
    · subst he3
      have hord := (ord_is h1 h2).length
      have hres : readF (ord id) (pl id) z A = if ((ord id).length : Int) ≤ (2 ^ m0 + lo - 1) * 2 ^ pl id + p then (0, 0, 8) else ((((ord id).getD ((2 ^ m0 + lo - 1) * 2 ^ pl id + p).toNat 0 : Nat) : Int), n3, 0) := by
        unfold readF; simp [hzz, hg1, hg2]
      rw [hres, hord]
      obtain ⟨l0, l1⟩ := hn1 rfl
      obtain ⟨p0, p1⟩ := hn2 rfl
      simp only at l0 l1 p0 p1
      have HT1 := Lib.hid (fun w => two_ok m0 w (by omega))
      have HT2 := Lib.hid (fun w => two_ok (pl id) w (by omega))
      have q1 := (pow_b (Nat.le_refl m0)).1
      have q2 := (pow_b (n := m0) (k := 9) (by omega)).2
      have q3 := (pow_b f6).1
      have q4 := (pow_b (k := 2) f6).2
      obtain ⟨P, hP⟩ : ∃ P : Int, (2 : Int) ^ m0 = P := ⟨_, rfl⟩
      obtain ⟨Q, hQ⟩ : ∃ Q : Int, (2 : Int) ^ pl id = Q := ⟨_, rfl⟩
      rw [hP] at HT1 l1 q1 q2 ⊢
      rw [hQ] at HT2 p1 q3 q4 ⊢
      have e9 : ((2 ^ 9 : Nat) : Int) = 512 := rfl
      have e22 : ((2 ^ 2 : Nat) : Int) = 4 := rfl
      rw [e9] at q2
      rw [e22] at q4
      have b0 : 0 ≤ (P + lo - 1) * Q := Int.mul_nonneg (by omega) (by omega)
      have b1 : (P + lo - 1) * Q ≤ 1023 * 4 := Int.mul_le_mul (by omega) (by omega) (by omega) (by decide)
      obtain ⟨M, hM⟩ : ∃ M, (P + lo - 1) * Q = M := ⟨_, rfl⟩
      rw [hM] at b0 b1 ⊢
      have x1 : IntKind.i64.wrap (P + lo) = P + lo := by rw [IntKind.wrap_i64]; omega
      have x2 : IntKind.i64.wrap (P + lo - 1) = P + lo - 1 := by rw [IntKind.wrap_i64]; omega
      have x3 : IntKind.i64.wrap ((P + lo - 1) * Q) = M := by rw [hM, IntKind.wrap_i64]; omega
      have x4 : IntKind.i64.wrap (M + p) = M + p := by rw [IntKind.wrap_i64]; omega
      have HE := Lib.hid hE
      clear hres hzz hg1 hg2 hn1 hn2 hE hr hA hP hQ hM e9 e22
      by_cases hge : ((Nn id : Nat) : Int) ≤ M + p
      · rw [if_pos hge]
        clear HE h1 h2 hord
        generalize hW0 : (w.alloc (.cells #[.int .i64 (id : Int), .int .i64 (pl id : Int), .slice a1 (Nn id) c1, .slice a2 (Nn id) c2] 24)) = W0 at *
        go_enter Tryd.func63, Tryd.ntmps63
        go_wp2
        go_loop [2, 9] (fun at_ zs => ∃ (m : Nat) (B : Int), m ≤ 10 ∧ zs = .int .i64 m ∧ at_ = .int .i64 B ∧ Hid (zerosF z (10 - m) m B = ((m0 : Int), n1, 0))) (fun _ zs => 10 - (intOf zs).toNat)
        case atStart => exact ⟨0, A, by omega, rfl, rfl, HR0⟩
        case round =>
          obtain ⟨m, B, hm, rfl, rfl, hF⟩ := hrel
          by_cases hlt : m ≤ 9
          · have hF2 := hF.out
            rw [show 10 - m = (10 - (m + 1)) + 1 by omega, HF.out] at hF2
            obtain ⟨bit, nx, er, hg⟩ : ∃ bit nx er, getF z B 1 = (bit, nx, er) := ⟨_, _, _, rfl⟩
            have HGB := Lib.hid (HG.out B)
            rw [hg] at hF2 HGB
            by_cases he : er = 0
            · subst he
              rw [if_neg (by simp)] at hF2
              by_cases hb : bit = 1
              · subst hb
                rw [if_pos rfl] at hF2
                simp only [Prod.mk.injEq] at hF2
                obtain ⟨e1, e2', _⟩ := hF2
                have e3' : m = m0 := by omega
                subst e3'
                subst e2'
                clear hF HG HF H0 hg HR0 e1
                have KP : Hid (∀ W, Below W0.heap.size W0 W → W.cell? ⟨w.heap.size, 1, none⟩ = some (.int .i64 (pl id : Int)) ∧ Below W0.heap.size W0 W) := Lib.hid fun W h => ⟨(HX.out W h).2.1, h⟩
                go_upto_region 18 with first
                  | (go_at_call 88; ((with_reducible refine (HGB.out).mono ?_); rintro e w1 ⟨rfl, rfl⟩))
                  | (go_at_call 88; ((with_reducible refine (HG1.out).mono ?_); rintro e w2 ⟨rfl, rfl⟩))
                  | (go_at_call 88; ((with_reducible refine (HG2.out).mono ?_); rintro e w3 ⟨rfl, rfl⟩))
                go_region_held3 (fun W => W.cell? ⟨w.heap.size, 1, none⟩ = some (.int .i64 (pl id : Int)) ∧ Below W0.heap.size W0 W) (first | with_reducible assumption | exact KP.out _ (by first | exact Below.refl _ _ | exact (Below.refl _ _).drew))
                  (first
                    | (go_at_call 85; ((with_reducible refine (HT1.out _).mono ?_); rintro e w5 ⟨rfl, rfl⟩))
                    | (go_at_call 85; ((with_reducible refine (HT2.out _).mono ?_); rintro e w6 ⟨rfl, rfl⟩)))
                all_goals
                  rename_i hS
                  obtain ⟨y0, y1, y2, y3⟩ := HX.out _ hS.2
                  have BF := Lib.hid (bT HB.out hS.2)
                  go_wp2
                  go_ret3
                  exact ⟨rfl, BF.out⟩
              · rw [if_neg hb] at hF2
                have HF2 := Lib.hid hF2
                have hbe : (bit == 1) = false := by simp [hb]
                clear hF2 hF HG HF H0 hg HR0
                go_wp2_with (go_at_call 88; ((with_reducible refine (HGB.out).mono ?_); rintro e w1 ⟨rfl, rfl⟩))
                go_round
                case rel => exact ⟨m + 1, nx, by omega, by go_num, rfl, HF2⟩
                case measure => simp [intOf]; omega
            · rw [if_pos he] at hF2
              exact absurd (congrArg (fun x => x.2.2) hF2) (by simpa using he)
          · have hend : m = 10 := by omega
            subst hend
            have hF2 := hF.out
            rw [Nat.sub_self, H0.out] at hF2
            simp at hF2
      · rw [if_neg hge]
        obtain ⟨r, hrk⟩ : ∃ r : Nat, M + p = (r : Int) := ⟨(M + p).toNat, by omega⟩
        rw [hrk] at hge ⊢
        have x5 : IntKind.i64.wrap (M + p) = (r : Int) := x4.trans hrk
        clear x4
        have hrn : r < Nn id := by omega
        obtain ⟨b, off, ea, hElt, ceA⟩ := HE.out r (by rw [zi_len, hord]; exact hrn)
        subst ea
        rw [zi_getD] at ceA
        rw [Int.toNat_natCast]
        generalize (ord id).getD r 0 = en at *
        have hr0 : (0 : Int) ≤ (r : Int) := Int.natCast_nonneg _
        have hrI : (r : Int) < ((Nn id : Nat) : Int) := by omega
        have KR : Hid (∀ W, Below w.heap.size w W → W.cell? ⟨b, off + r, none⟩ = some (.int .i64 en)) := Lib.hid fun W h => (h.cell (p := ⟨b, off + r, none⟩) hElt).trans ceA
        clear HE h1 h2 hord ceA hElt
        generalize hW0 : (w.alloc (.cells #[.int .i64 (id : Int), .int .i64 (pl id : Int), .slice (some ⟨b, off, none⟩) (Nn id) c1, .slice a2 (Nn id) c2] 24)) = W0 at *
        go_enter Tryd.func63, Tryd.ntmps63
        go_wp2
        go_loop [2, 9] (fun at_ zs => ∃ (m : Nat) (B : Int), m ≤ 10 ∧ zs = .int .i64 m ∧ at_ = .int .i64 B ∧ Hid (zerosF z (10 - m) m B = ((m0 : Int), n1, 0))) (fun _ zs => 10 - (intOf zs).toNat)
        case atStart => exact ⟨0, A, by omega, rfl, rfl, HR0⟩
        case round =>
          obtain ⟨m, B, hm, rfl, rfl, hF⟩ := hrel
          by_cases hlt : m ≤ 9
          · have hF2 := hF.out
            rw [show 10 - m = (10 - (m + 1)) + 1 by omega, HF.out] at hF2
            obtain ⟨bit, nx, er, hg⟩ : ∃ bit nx er, getF z B 1 = (bit, nx, er) := ⟨_, _, _, rfl⟩
            have HGB := Lib.hid (HG.out B)
            rw [hg] at hF2 HGB
            by_cases he : er = 0
            · subst he
              rw [if_neg (by simp)] at hF2
              by_cases hb : bit = 1
              · subst hb
                rw [if_pos rfl] at hF2
                simp only [Prod.mk.injEq] at hF2
                obtain ⟨e1, e2', _⟩ := hF2
                have e3' : m = m0 := by omega
                subst e3'
                subst e2'
                clear hF HG HF H0 hg HR0 e1
                have KP : Hid (∀ W, Below W0.heap.size W0 W → W.cell? ⟨w.heap.size, 1, none⟩ = some (.int .i64 (pl id : Int)) ∧ Below W0.heap.size W0 W) := Lib.hid fun W h => ⟨(HX.out W h).2.1, h⟩
                go_upto_region 18 with first
                  | (go_at_call 88; ((with_reducible refine (HGB.out).mono ?_); rintro e w1 ⟨rfl, rfl⟩))
                  | (go_at_call 88; ((with_reducible refine (HG1.out).mono ?_); rintro e w2 ⟨rfl, rfl⟩))
                  | (go_at_call 88; ((with_reducible refine (HG2.out).mono ?_); rintro e w3 ⟨rfl, rfl⟩))
                go_region_held3 (fun W => W.cell? ⟨w.heap.size, 1, none⟩ = some (.int .i64 (pl id : Int)) ∧ Below W0.heap.size W0 W) (first | with_reducible assumption | exact KP.out _ (by first | exact Below.refl _ _ | exact (Below.refl _ _).drew))
                  (first
                    | (go_at_call 85; ((with_reducible refine (HT1.out _).mono ?_); rintro e w5 ⟨rfl, rfl⟩))
                    | (go_at_call 85; ((with_reducible refine (HT2.out _).mono ?_); rintro e w6 ⟨rfl, rfl⟩)))
                all_goals
                  rename_i hS
                  obtain ⟨y0, y1, y2, y3⟩ := HX.out _ hS.2
                  have BF := Lib.hid (bT HB.out hS.2)
                  have y4 := KR.out _ BF.out
                  go_wp2
                  go_ret3
                  exact ⟨rfl, BF.out⟩
              · rw [if_neg hb] at hF2
                have HF2 := Lib.hid hF2
                have hbe : (bit == 1) = false := by simp [hb]
                clear hF2 hF HG HF H0 hg HR0
                go_wp2_with (go_at_call 88; ((with_reducible refine (HGB.out).mono ?_); rintro e w1 ⟨rfl, rfl⟩))
                go_round
                case rel => exact ⟨m + 1, nx, by omega, by go_num, rfl, HF2⟩
                case measure => simp [intOf]; omega
            · rw [if_pos he] at hF2
              exact absurd (congrArg (fun x => x.2.2) hF2) (by simpa using he)
          · have hend : m = 10 := by omega
            subst hend
            have hF2 := hF.out
            rw [Nat.sub_self, H0.out] at hF2
            simp at hF2
    · have hres : readF (ord id) (pl id) z A = (0, 0, e3) := by
        unfold readF; simp [hzz, hg1, hg2, he3]
      rw [hres]
      have hee3 : (e3 == 0) = false := by simp [he3]
      clear hres hzz hg1 hg2 hn1 hn2 hE hr hA h1 h2
      generalize hW0 : (w.alloc (.cells #[.int .i64 (id : Int), .int .i64 (pl id : Int), .slice a1 (Nn id) c1, .slice a2 (Nn id) c2] 24)) = W0 at *
      go_enter Tryd.func63, Tryd.ntmps63
      go_wp2
      go_loop [2, 9] (fun at_ zs => ∃ (m : Nat) (B : Int), m ≤ 10 ∧ zs = .int .i64 m ∧ at_ = .int .i64 B ∧ Hid (zerosF z (10 - m) m B = ((m0 : Int), n1, 0))) (fun _ zs => 10 - (intOf zs).toNat)
      case atStart => exact ⟨0, A, by omega, rfl, rfl, HR0⟩
      case round =>
        obtain ⟨m, B, hm, rfl, rfl, hF⟩ := hrel
        by_cases hlt : m ≤ 9
        · have hF2 := hF.out
          rw [show 10 - m = (10 - (m + 1)) + 1 by omega, HF.out] at hF2
          obtain ⟨bit, nx, er, hg⟩ : ∃ bit nx er, getF z B 1 = (bit, nx, er) := ⟨_, _, _, rfl⟩
          have HGB := Lib.hid (HG.out B)
          rw [hg] at hF2 HGB
          by_cases he : er = 0
          · subst he
            rw [if_neg (by simp)] at hF2
            by_cases hb : bit = 1
            · subst hb
              rw [if_pos rfl] at hF2
              simp only [Prod.mk.injEq] at hF2
              obtain ⟨e1, e2', _⟩ := hF2
              have e3' : m = m0 := by omega
              subst e3'
              subst e2'
              clear hF HG HF H0 hg HR0 e1
              go_wp2_with first
                | (go_at_call 88; ((with_reducible refine (HGB.out).mono ?_); rintro e w1 ⟨rfl, rfl⟩))
                | (go_at_call 88; ((with_reducible refine (HG1.out).mono ?_); rintro e w2 ⟨rfl, rfl⟩))
                | (go_at_call 88; ((with_reducible refine (HG2.out).mono ?_); rintro e w3 ⟨rfl, rfl⟩))
              go_ret3
              exact ⟨rfl, HB.out⟩
            · rw [if_neg hb] at hF2
              have HF2 := Lib.hid hF2
              have hbe : (bit == 1) = false := by simp [hb]
              clear hF2 hF HG HF H0 hg HR0
              go_wp2_with (go_at_call 88; ((with_reducible refine (HGB.out).mono ?_); rintro e w1 ⟨rfl, rfl⟩))
              go_round
              case rel => exact ⟨m + 1, nx, by omega, by go_num, rfl, HF2⟩
              case measure => simp [intOf]; omega
          · rw [if_pos he] at hF2
            exact absurd (congrArg (fun x => x.2.2) hF2) (by simpa using he)
        · have hend : m = 10 := by omega
          subst hend
          have hF2 := hF.out
          rw [Nat.sub_self, H0.out] at hF2
          simp at hF2
  · have hres : readF (ord id) (pl id) z A = (0, 0, e2) := by
      unfold readF; simp [hzz, hg1, he2]
    rw [hres]
    have hee2 : (e2 == 0) = false := by simp [he2]
    clear hres hzz hg1 hn1 hE hr hA h1 h2
    generalize hW0 : (w.alloc (.cells #[.int .i64 (id : Int), .int .i64 (pl id : Int), .slice a1 (Nn id) c1, .slice a2 (Nn id) c2] 24)) = W0 at *
    go_enter Tryd.func63, Tryd.ntmps63
    go_wp2
    go_loop [2, 9] (fun at_ zs => ∃ (m : Nat) (B : Int), m ≤ 10 ∧ zs = .int .i64 m ∧ at_ = .int .i64 B ∧ Hid (zerosF z (10 - m) m B = ((m0 : Int), n1, 0))) (fun _ zs => 10 - (intOf zs).toNat)
    case atStart => exact ⟨0, A, by omega, rfl, rfl, HR0⟩
    case round =>
      obtain ⟨m, B, hm, rfl, rfl, hF⟩ := hrel
      by_cases hlt : m ≤ 9
      · have hF2 := hF.out
        rw [show 10 - m = (10 - (m + 1)) + 1 by omega, HF.out] at hF2
        obtain ⟨bit, nx, er, hg⟩ : ∃ bit nx er, getF z B 1 = (bit, nx, er) := ⟨_, _, _, rfl⟩
        have HGB := Lib.hid (HG.out B)
        rw [hg] at hF2 HGB
        by_cases he : er = 0
        · subst he
          rw [if_neg (by simp)] at hF2
          by_cases hb : bit = 1
          · subst hb
            rw [if_pos rfl] at hF2
            simp only [Prod.mk.injEq] at hF2
            obtain ⟨e1, e2', _⟩ := hF2
            have e3' : m = m0 := by omega
            subst e3'
            subst e2'
            clear hF HG HF H0 hg HR0 e1
            go_wp2_with first
              | (go_at_call 88; ((with_reducible refine (HGB.out).mono ?_); rintro e w1 ⟨rfl, rfl⟩))
              | (go_at_call 88; ((with_reducible refine (HG1.out).mono ?_); rintro e w2 ⟨rfl, rfl⟩))
            go_ret3
            exact ⟨rfl, HB.out⟩
          · rw [if_neg hb] at hF2
            have HF2 := Lib.hid hF2
            have hbe : (bit == 1) = false := by simp [hb]
            clear hF2 hF HG HF H0 hg HR0
            go_wp2_with (go_at_call 88; ((with_reducible refine (HGB.out).mono ?_); rintro e w1 ⟨rfl, rfl⟩))
            go_round
            case rel => exact ⟨m + 1, nx, by omega, by go_num, rfl, HF2⟩
            case measure => simp [intOf]; omega
        · rw [if_pos he] at hF2
          exact absurd (congrArg (fun x => x.2.2) hF2) (by simpa using he)
      · have hend : m = 10 := by omega
        subst hend
        have hF2 := hF.out
        rw [Nat.sub_self, H0.out] at hF2
        simp at hF2
end Go.Proofs.YteklahfgplbmcaaDoor.BkRf

/- What is read by whatever book. -/
namespace Go.Proofs.YteklahfgplbmcaaDoor.BkRf
open Go Go.ChangeShapes Go.WideShapes Go.ChangeAt Go.RowKit Go.Proofs.YteklahfgplbmcaaDoor.Bk Go.Proofs.YteklahfgplbmcaaDoor.Bi Go.Proofs.YteklahfgplbmcaaDoor.Cr Go.Proofs.YteklahfgplbmcaaDoor.Fx

noncomputable def rdF (i p : Int) (A B : List Int) (z : List Int) (at' : Int) : Int × Int × Int := if IsBk i p A B then readF (ord i.toNat) (pl i.toNat) z at' else (0, 0, 8)
set_option maxRecDepth 100000 in
set_option maxHeartbeats 4000000 in
theorem pread_any (i p at' : Int) (a1 a2 : Option Addr) (c1 c2 : Nat) (A B : List Int) (v : Value) (z : List Int) (w : World) (hs : Sh w) (r1 : Rd w (.slice a1 A.length c1) A) (r2 : Rd w (.slice a2 B.length c2) B) (hv : R8 w v z) (hz : ∀ x ∈ z, 0 ≤ x ∧ x ≤ 255) (hl : z.length ≤ 20000) :
    Calls Tryd.prog 17 #[.agg #[.int .i64 i, .int .i64 p, .slice a1 A.length c1, .slice a2 B.length c2], v, .int .i64 at'] w fun e w' => e = T3 (rdF i p A B z at') ∧ Below w.heap.size w w' := by
  unfold rdF
  by_cases hk : IsBk i p A B
  · rw [if_pos hk]
    have hk2 := hk
    obtain ⟨id, rfl, h1, h2, rfl, hA, hB⟩ := hk
    obtain ⟨lA, lB, _⟩ := isbk_len hk2
    have HM := fun x (h : Below w.heap.size w x) (hs : Sh x) => gen_any id (pl id) a1 a2 c1 c2 A B x hs (rd_RdA (r1.below h)) (rd_RdA (r2.below h))
    rw [decide_eq_true hk2, lA, lB] at HM
    rw [Int.toNat_natCast]
    have hE : RdA w a1 (zi (ord id)) := hA ▸ rd_RdA r1
    rw [lA, lB]
    exact pread_ok id a1 a2 c1 c2 v z at' w h1 h2 hs hE HM hv hz hl
  · rw [if_neg hk]
    have hb := al w (.cells #[.int .i64 i, .int .i64 p, .slice a1 A.length c1, .slice a2 B.length c2] 24)
    have HB := Lib.hid hb
    have hsA := Lib.hid (hs.below hb)
    have HM := Lib.hid (fun x (h : Below w.heap.size w x) (hs : Sh x) => gen_any i p a1 a2 c1 c2 A B x hs (rd_RdA (r1.below h)) (rd_RdA (r2.below h)))
    rw [decide_eq_false hk] at HM
    obtain ⟨p0, p1, p2, p3⟩ := bx1 (w := w) (a := .int .i64 i) (b := .int .i64 p) (c := .slice a1 A.length c1) (d := .slice a2 B.length c2) (Below.refl _ _)
    clear hk r1 r2 hs hb hv hz hl
    go_enter Tryd.func17, Tryd.ntmps17
    go_wp2_with (go_at_call 49; ((with_reducible refine (HM.out _ HB.out hsA.out).mono ?_); rintro e w1 ⟨rfl, hb1⟩; have hb2 := Lib.hid (bT HB.out hb1); clear hb1))
    go_ret3
    exact ⟨rfl, hb2.out⟩
theorem rfound_any (id : Nat) (a1 a2 : Option Addr) (c1 c2 : Nat) (a0 : Option Addr) (c0 : Nat) (z : List Int) (A : Int) (w : World) (h1 : 1 ≤ id) (h2 : id ≤ 12) (hE : RdA w a1 (zi (ord id)))
    (hr : R8 w (.slice a0 z.length c0) z) (hz : ∀ x ∈ z, 0 ≤ x ∧ x ≤ 255) (hl : z.length ≤ 20000) :
    Calls Tryd.prog 63 #[.agg #[.int .i64 (id : Int), .int .i64 (pl id : Int), .slice a1 (Nn id) c1, .slice a2 (Nn id) c2], .slice a0 z.length c0, .int .i64 A] w fun e w' => e = T3 (readF (ord id) (pl id) z A) ∧ Below w.heap.size w w' := by
  by_cases hb : (zerosF z 10 0 A).2.2 = 0
  · obtain ⟨j, hj, hj2⟩ := zeros_le hb
    refine rfound_good id a1 a2 c1 c2 a0 c0 z A w h1 h2 hE hr hz hl j (zerosF z 10 0 A).2.1 (by omega) ?_
    rw [← hj, ← hb]
  · have hres : readF (ord id) (pl id) z A = (0, 0, (zerosF z 10 0 A).2.2) := by
      unfold readF; simp [hb]
    rw [hres]
    exact rfound_bad id a1 a2 c1 c2 a0 c0 z A w hr hz hl hb
set_option maxRecDepth 100000 in
set_option maxHeartbeats 4000000 in
theorem rread_any (i p at' : Int) (a1 a2 : Option Addr) (c1 c2 : Nat) (A B : List Int) (a0 : Option Addr) (c0 : Nat) (z : List Int) (w : World) (hA : A.length ≤ maxLen) (hB : B.length ≤ maxLen) (r1 : Rd w (.slice a1 A.length c1) A) (r2 : Rd w (.slice a2 B.length c2) B) (hv : R8 w (.slice a0 z.length c0) z) (hz : ∀ x ∈ z, 0 ≤ x ∧ x ≤ 255) (hl : z.length ≤ 20000) :
    Calls Tryd.prog 28 #[.agg #[.int .i64 i, .int .i64 p, .slice a1 A.length c1, .slice a2 B.length c2], .slice a0 z.length c0, .int .i64 at'] w fun e w' => e = T3 (rdF i p A B z at') ∧ Below w.heap.size w w' := by
  have HB := Lib.hid (al w (.cells #[.int .i64 i, .int .i64 p, .slice a1 A.length c1, .slice a2 B.length c2] 24))
  have HM := Lib.hid (fun x (h : Below w.heap.size w x) => may_any i p (.slice a1 A.length c1) (.slice a2 B.length c2) A B x hA hB (r1.below h) (r2.below h))
  have HX := Lib.hid (fun x h => bx1 (w := w) (a := .int .i64 i) (b := .int .i64 p) (c := .slice a1 A.length c1) (d := .slice a2 B.length c2) (x := x) h)
  obtain ⟨p0, p1, p2, p3⟩ := HX.out _ (Below.refl _ _)
  unfold rdF
  by_cases hk : IsBk i p A B
  · rw [if_pos hk]
    rw [decide_eq_true hk] at HM
    have H63 : Hid (∀ x, Below w.heap.size w x → Calls Tryd.prog 63 #[.agg #[.int .i64 i, .int .i64 p, .slice a1 A.length c1, .slice a2 B.length c2], .slice a0 z.length c0, .int .i64 at'] x fun e w' => e = T3 (readF (ord i.toNat) (pl i.toNat) z at') ∧ Below x.heap.size x w') := Lib.hid fun x h => by
      obtain ⟨lA, lB, _⟩ : A.length = Nn i.toNat ∧ B.length = Nn i.toNat ∧ True := by
        obtain ⟨id, rfl, h1, h2, rfl, rfl, rfl⟩ := hk
        rw [Int.toNat_natCast]
        exact ⟨by rw [zi_len, ord_len h1 h2], rkL_len id, trivial⟩
      have hE := rd_RdA (r1.below h)
      rw [lA, lB]
      obtain ⟨id, rfl, h1, h2, rfl, rfl, rfl⟩ := hk
      rw [Int.toNat_natCast]
      exact rfound_any id a1 a2 c1 c2 a0 c0 z at' x h1 h2 hE (hv.below h) hz hl
    obtain ⟨y, hy⟩ : ∃ y, readF (ord i.toNat) (pl i.toNat) z at' = y := ⟨_, rfl⟩
    rw [hy] at H63 ⊢
    obtain ⟨y1, y2, y3⟩ := y
    clear hk r1 r2 hv hz hl hA hB hy
    go_enter Tryd.func28, Tryd.ntmps28
    go_wp2_with first
      | (go_at_call 61; ((with_reducible refine (HM.out _ HB.out).mono ?_); rintro e w1 ⟨rfl, hb1⟩; have hb2 := Lib.hid (bT HB.out hb1); clear p0 p1 p2 p3; obtain ⟨p0, p1, p2, p3⟩ := HX.out w1 hb1; clear hb1))
      | (go_at_call 63; ((with_reducible refine (H63.out _ hb2.out).mono ?_); rintro e w2 ⟨rfl, hb3⟩; simp only [T3]; have hb4 := Lib.hid (bT hb2.out hb3); clear hb3))
    go_ret3
    exact ⟨rfl, hb4.out⟩
  · rw [if_neg hk]
    rw [decide_eq_false hk] at HM
    clear hk r1 r2 hv hz hl hA hB
    go_enter Tryd.func28, Tryd.ntmps28
    go_wp2_with (go_at_call 61; ((with_reducible refine (HM.out _ HB.out).mono ?_); rintro e w1 ⟨rfl, hb1⟩; have hb2 := Lib.hid (bT HB.out hb1); clear hb1))
    go_ret3
    exact ⟨rfl, hb2.out⟩
end Go.Proofs.YteklahfgplbmcaaDoor.BkRf

/- Whatever book, entry, bits and place: the program and the document code and read the same: the walk. -/
namespace Go.Proofs.YteklahfgplbmcaaDoor.BkRf
open Go Go.ChangeShapes Go.WideShapes Go.ChangeAt Go.RowKit Go.Proofs.YteklahfgplbmcaaDoor.Bk Go.Proofs.YteklahfgplbmcaaDoor.Bi Go.Proofs.YteklahfgplbmcaaDoor.Cr Go.Proofs.YteklahfgplbmcaaDoor.Fx

open Go.Proofs.YteklahfgplbmcaaDoor.BkPx
set_option maxRecDepth 100000 in
theorem law_out (i p n at' : Int) (a1 a2 : Option Addr) (n1 c1 n2 c2 : Nat) (a0 : Option Addr) (n0 c0 : Nat) (w : World) (h : (2000 < n1 ∨ 2000 < n2) ∨ 10000 < n0) :
    Calls Tryd.prog 5 #[.agg #[.int .i64 i, .int .i64 p, .slice a1 n1 c1, .slice a2 n2 c2], .int .i64 n, .slice a0 n0 c0, .int .i64 at'] w fun e w' => e = .returned (.bool true) ∧ Below w.heap.size w w' := by
  have HB := Lib.hid (al w (.cells #[.int .i64 i, .int .i64 p, .slice a1 n1 c1, .slice a2 n2 c2] 24))
  obtain ⟨p0, p1, p2, p3⟩ := bx1 (w := w) (a := .int .i64 i) (b := .int .i64 p) (c := .slice a1 n1 c1) (d := .slice a2 n2 c2) (Below.refl _ _)
  have HG := Lib.hid (fun w => great_ok i p a1 a2 n1 c1 n2 c2 w)
  by_cases hg : 2000 < n1 ∨ 2000 < n2
  · rw [decide_eq_true hg] at HG
    clear h hg
    go_enter Tryd.func5, Tryd.ntmps5
    go_wp2_with (go_at_call 26; ((with_reducible refine (HG.out _).mono ?_); rintro e w1 ⟨rfl, hb1⟩; have hb2 := Lib.hid (bT HB.out hb1); clear hb1))
    go_ret
    exact ⟨rfl, hb2.out⟩
  · rw [decide_eq_false hg] at HG
    have h0 : (10000 : Int) < (n0 : Int) := by omega
    clear h hg
    go_enter Tryd.func5, Tryd.ntmps5
    go_wp2_with (go_at_call 26; ((with_reducible refine (HG.out _).mono ?_); rintro e w1 ⟨rfl, hb1⟩; have hb2 := Lib.hid (bT HB.out hb1); clear hb1))
    go_ret
    exact ⟨rfl, hb2.out⟩
theorem own8_src {base : Nat} {w : World} {v : Value} {zs : List Int} (h : Cr.Own base w v zs) : Src8 w v zs := own_src h
set_option maxRecDepth 100000 in
set_option maxHeartbeats 8000000 in
theorem law_go (i p n at' : Int) (a1 a2 : Option Addr) (c1 c2 : Nat) (A B : List Int) (a0 : Option Addr) (c0 : Nat) (z : List Int) (w : World) (hs : Sh w) (lA : A.length ≤ 2000) (lB : B.length ≤ 2000) (lz : z.length ≤ 10000)
    (r1 : Rd w (.slice a1 A.length c1) A) (r2 : Rd w (.slice a2 B.length c2) B) (hv : R8 w (.slice a0 z.length c0) z) (hsrc : Src8 w (.slice a0 z.length c0) z) (hz : ∀ x ∈ z, 0 ≤ x ∧ x ≤ 255) :
    Calls Tryd.prog 5 #[.agg #[.int .i64 i, .int .i64 p, .slice a1 A.length c1, .slice a2 B.length c2], .int .i64 n, .slice a0 z.length c0, .int .i64 at'] w fun e w' => e = .returned (.bool true) ∧ Below w.heap.size w w' := by
  have HB := Lib.hid (al w (.cells #[.int .i64 i, .int .i64 p, .slice a1 A.length c1, .slice a2 B.length c2] 24))
  have HX := Lib.hid (fun x h => bx1 (w := w) (a := .int .i64 i) (b := .int .i64 p) (c := .slice a1 A.length c1) (d := .slice a2 B.length c2) (x := x) h)
  obtain ⟨p0, p1, p2, p3⟩ := HX.out _ (Below.refl _ _)
  have HG := Lib.hid (fun w => great_ok i p a1 a2 A.length c1 B.length c2 w)
  rw [decide_eq_false (show ¬ (2000 < A.length ∨ 2000 < B.length) by omega)] at HG
  have h0 : ¬ (10000 : Int) < (z.length : Int) := by omega
  have hA : A.length ≤ maxLen := by unfold maxLen; omega
  have hB : B.length ≤ maxLen := by unfold maxLen; omega
  have H16 := Lib.hid (fun x (h : Below w.heap.size w x) => pcd_any i p n a1 a2 c1 c2 A B x (hs.below h) (r1.below h) (r2.below h))
  have H27 := Lib.hid (fun x (h : Below w.heap.size w x) => rcd_any i p n a1 a2 c1 c2 A B x hA hB (r1.below h) (r2.below h))
  have H17 := Lib.hid (fun x (h : Below w.heap.size w x) => pread_any i p at' a1 a2 c1 c2 A B (.slice a0 z.length c0) z x (hs.below h) (r1.below h) (r2.below h) (hv.below h) hz (by omega))
  have H28 := Lib.hid (fun x (h : Below w.heap.size w x) => rread_any i p at' a1 a2 c1 c2 A B a0 c0 z x hA hB (r1.below h) (r2.below h) (hv.below h) hz (by omega))
  have HCV := Lib.hid (fun x (h : Below w.heap.size w x) => conv_src (hsrc.below h))
  generalize cdX i p A B n = X at *
  generalize cdL i p A B n = L at *
  obtain ⟨⟨y1, y2, y3⟩, hy⟩ : ∃ y, rdF i p A B z at' = y := ⟨_, rfl⟩
  rw [hy] at H17 H28
  clear hy hA hB r1 r2 hv hsrc hs hz
  go_enter Tryd.func5, Tryd.ntmps5
  go_wp2_with first
    | (go_at_call 26; ((with_reducible refine (HG.out _).mono ?_); rintro e w1 ⟨rfl, hb1⟩; have B1 := Lib.hid (bT HB.out hb1); have X1 := Lib.hid hb1; clear p0 p1 p2 p3; obtain ⟨p0, p1, p2, p3⟩ := HX.out w1 hb1; have cv1 := HCV.out w1 B1.out; clear hb1))
    | (go_at_call 16; ((with_reducible refine (H16.out _ B1.out).mono ?_); rintro e w2 ⟨v2, rfl, ho2, hb⟩; have O2 := Lib.hid ho2; have B2 := Lib.hid (bT B1.out hb); have X2 := Lib.hid (bT X1.out hb); have S2 := Lib.hid hb; clear p0 p1 p2 p3 ho2; obtain ⟨p0, p1, p2, p3⟩ := HX.out w2 X2.out; clear hb))
    | (go_at_call 27; ((with_reducible refine (H27.out _ B2.out).mono ?_); rintro e w3 ⟨v3, rfl, ho3, hb⟩; have O3 := Lib.hid ho3; have B3 := Lib.hid (bT B2.out hb); have X3 := Lib.hid (bT X2.out hb); have S3 := Lib.hid hb; clear p0 p1 p2 p3 ho3; obtain ⟨p0, p1, p2, p3⟩ := HX.out w3 X3.out; clear hb))
    | (go_at_call 17; ((with_reducible refine (H17.out _ B3.out).mono ?_); rintro e w4 ⟨rfl, hb⟩; simp only [T3]; have B4 := Lib.hid (bT B3.out hb); have X4 := Lib.hid (bT X3.out hb); have S4 := Lib.hid hb; clear p0 p1 p2 p3; obtain ⟨p0, p1, p2, p3⟩ := HX.out w4 X4.out; clear hb))
    | (go_at_call 28; ((with_reducible refine (H28.out _ B4.out).mono ?_); rintro e w5 ⟨rfl, hb⟩; simp only [T3]; have B5 := Lib.hid (bT B4.out hb); have cv5 := HCV.out w5 B5.out; have cv2 := conv_src ((own8_src O2.out).below (bT S3.out (bT S4.out hb))); have cv3 := conv_src ((own8_src O3.out).below (bT S4.out hb)); clear hb))
  go_ret
  exact ⟨rfl, B5.out⟩
end Go.Proofs.YteklahfgplbmcaaDoor.BkRf

/- Whatever book, entry, bits and place: the law; a book that came in. -/
namespace Go.Proofs.YteklahfgplbmcaaDoor.BcMn
open Go Go.Ev Go.ChangeShapes Go.WideShapes Go.ChangeAt Go.RowKit Go.Proofs.YteklahfgplbmcaaDoor.Bk Go.Proofs.YteklahfgplbmcaaDoor.BkRf Go.Proofs.YteklahfgplbmcaaDoor.BkEn Go.Proofs.YteklahfgplbmcaaDoor.Bi Go.Proofs.YteklahfgplbmcaaDoor.Cr Go.Proofs.YteklahfgplbmcaaDoor.Fx
section
variable {H : Type} {enc : TypeId × Value → H} {P : Program} {W : World} {base b0 : Nat} {spare : Nat → Bool} {held : Bool} {r : Reach}
theorem open_rowI {t e : TypeId} {k : IntKind} {fuel : Nat} {c : Value} {x : DataW H × List MemPlace} (ht : P.underlying t = some (.slice e)) (he : P.underlying e = some (.int k)) (hc : P.cellsOf e = 1)
    (h : DataW.trod enc P W b0 (fun _ => true) held fuel t [c] = some x) :
    ∃ a n cap zs, c = .slice a n cap ∧ Go.Proofs.YteklahfgplbmcaaDoor.Cr.IsRow k W a n cap zs := by
  rcases open_ints ht he hc h with ⟨hcs, _⟩ | ⟨a, len, cap, zs, hcs, _, hl, hm, hz, _, hcell, hwf⟩
  · simp at hcs
    exact ⟨none, 0, 0, [], hcs, .inl ⟨rfl, rfl, rfl, rfl⟩⟩
  · simp at hcs
    exact ⟨some a, len, cap, zs, hcs, .inr ⟨_, rfl, hl, hm, by simpa using hz, hcell, hwf⟩⟩
theorem open_bookR {T : TypeId} {f0 f1 f2 f3 : Field} {e : TypeId} {v : Value} {d : DataW H} {p : List MemPlace} (ht : P.underlying T = some (.struct #[f0, f1, f2, f3])) (o0 : f0.offset = 0) (o1 : f1.offset = 1) (o2 : f2.offset = 2) (o3 : f3.offset = 3)
    (h0 : P.underlying f0.type = some (.int .i64)) (h1 : P.underlying f1.type = some (.int .i64)) (h2 : P.underlying f2.type = some (.slice e)) (h3 : P.underlying f3.type = some (.slice e)) (he : P.underlying e = some (.int .i64))
    (c0 : P.cellsOf f0.type = 1) (c1 : P.cellsOf f1.type = 1) (c2 : P.cellsOf f2.type = 1) (c3 : P.cellsOf f3.type = 1) (ce : P.cellsOf e = 1) (hcT : P.cellsOf T = 4)
    (hv : Value.okWide P W r base T v) (h : DataW.Trod enc P W b0 (fun _ => true) held T v d p) :
    ∃ i q a n cap zs b m cb ys, v = .agg #[.int .i64 i, .int .i64 q, .slice a n cap, .slice b m cb] ∧ (Lit.int .i64 i).wf = true ∧ (Lit.int .i64 q).wf = true ∧ Go.Proofs.YteklahfgplbmcaaDoor.Cr.IsRow .i64 W a n cap zs ∧ Go.Proofs.YteklahfgplbmcaaDoor.Cr.IsRow .i64 W b m cb ys := by
  obtain ⟨cs, rfl, hs⟩ := okWide_struct ht hv
  rw [hcT] at hs
  obtain ⟨fuel, hf⟩ := h
  obtain ⟨x0, x1, x2, x3, rfl⟩ : ∃ x0 x1 x2 x3, cs = #[x0, x1, x2, x3] := by
    obtain ⟨l⟩ := cs
    match l, hs with
    | [x0, x1, x2, x3], _ => exact ⟨x0, x1, x2, x3, rfl⟩
  have hf' : DataW.trod enc P W b0 (fun _ => true) held fuel T [x0, x1, x2, x3] = some (d, p) := by simpa [Value.cells] using hf
  obtain ⟨xs, n, _, _, _, hl, hi⟩ := DataW.trod_struct ht hf'
  have q0 := hi 0 f0 rfl
  have q1 := hi 1 f1 rfl
  have q2 := hi 2 f2 rfl
  have q3 := hi 3 f3 rfl
  rw [o0, c0] at q0
  rw [o1, c1] at q1
  rw [o2, c2] at q2
  rw [o3, c3] at q3
  have hl4 : xs.length = 4 := by simpa using hl
  match xs, hl4 with
  | [y0, y1, y2, y3], _ =>
  obtain ⟨k0, e0, _, w0⟩ := DataW.trod_int h0 (show _ = some y0 from q0)
  obtain ⟨k1, e1, _, w1⟩ := DataW.trod_int h1 (show _ = some y1 from q1)
  have q2' : DataW.trod enc P W b0 (fun _ => true) held n f2.type [x2] = some y2 := by simpa using q2
  have q3' : DataW.trod enc P W b0 (fun _ => true) held n f3.type [x3] = some y3 := by simpa using q3
  obtain ⟨a, n2, cap, zs, e2, g1⟩ := open_rowI h2 he ce q2'
  obtain ⟨b, n3, cb, ys, e3, g4⟩ := open_rowI h3 he ce q3'
  simp at e0 e1
  subst e0 e1 e2 e3
  exact ⟨k0, k1, a, n2, cap, zs, b, n3, cb, ys, rfl, w0, w1, g1, g4⟩
end
theorem main (i p : Int) (a1 : Option Addr) (n1 c1 : Nat) (z1 : List Int) (a2 : Option Addr) (n2 c2 : Nat) (z2 : List Int) (n : Int) (a0 : Option Addr) (n0 c0 : Nat) (z0 : List Int) (at' : Int) (w : World) (hs : Sh w)
    (h1 : Go.Proofs.YteklahfgplbmcaaDoor.Cr.IsRow .i64 w a1 n1 c1 z1) (h2 : Go.Proofs.YteklahfgplbmcaaDoor.Cr.IsRow .i64 w a2 n2 c2 z2) (h0 : Go.Proofs.YteklahfgplbmcaaDoor.Cr.IsRow .u8 w a0 n0 c0 z0) :
    Calls Tryd.prog 5 #[.agg #[.int .i64 i, .int .i64 p, .slice a1 n1 c1, .slice a2 n2 c2], .int .i64 n, .slice a0 n0 c0, .int .i64 at'] w fun e w' => e = .returned (.bool true) ∧ True ∧ Below w.heap.size w w' := by
  have key : Calls Tryd.prog 5 #[.agg #[.int .i64 i, .int .i64 p, .slice a1 n1 c1, .slice a2 n2 c2], .int .i64 n, .slice a0 n0 c0, .int .i64 at'] w fun e w' => e = .returned (.bool true) ∧ Below w.heap.size w w' := by
    by_cases h : (2000 < n1 ∨ 2000 < n2) ∨ 10000 < n0
    · exact law_out i p n at' a1 a2 n1 c1 n2 c2 a0 n0 c0 w h
    obtain ⟨A, hA, r1, _, _⟩ := isrow_rd h1
    obtain ⟨B, hB, r2, _, _⟩ := isrow_rd h2
    obtain ⟨z, hZ, r0, b0⟩ := isrow8 h0
    subst hA hB hZ
    exact law_go i p n at' a1 a2 c1 c2 A B a0 c0 z w hs (by omega) (by omega) (by omega) r1 r2 r0 (r8_src r0) b0
  exact key.mono fun _ _ h => ⟨h.1, trivial, h.2⟩
end Go.Proofs.YteklahfgplbmcaaDoor.BcMn
