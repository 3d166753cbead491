/- Texts of one claim, one behind the other: BkRd, BkRr, BkEn, BkPx. -/
import Derived.Test.YteklahfgplbmcaaDoorBkGen
import Derived.Test.YteklahfgplbmcaaDoorMrg3
import Derived.WalkKit
import Derived.Below
import Derived.RegionTactic
import Derived.Deep.QuietTactic
import Derived.BigQuiet
import Derived.ChangeAlike
import Derived.Deep.OwnRows
import Derived.Deep.RegionHeld3
import Derived.ProofKit
import Derived.OpenShut
import Derived.Laws.EntriesVeiled
import Derived.Lib.Hide
import Derived.Test.YteklahfgplbmcaaDoorBkAl
import Derived.Deep.Cut
import Derived.StillTailTactics
import Derived.Laws.AppendOwn
import Derived.Laws.AppendOwnNone
set_option linter.unusedVariables false
/- Bits that are read, whatever they are. -/
namespace Go.Proofs.YteklahfgplbmcaaDoor.Bk
open Go Go.ChangeShapes Go.WideShapes Go.ChangeAt Go.RowKit Go.Proofs.YteklahfgplbmcaaDoor.Bi Go.Proofs.YteklahfgplbmcaaDoor.Cr Go.Proofs.YteklahfgplbmcaaDoor.Fx

/-- Bits as they lie in memory. -/
def R8 (w : World) (v : Value) (z : List Int) : Prop := ((v = .slice none 0 0 ∨ ∃ x c, v = .slice (some x) 0 c ∧ c ≤ maxLen) ∧ z = []) ∨ ∃ b off c, v = .slice (some ⟨b, off, none⟩) z.length c ∧ z.length ≤ c ∧ c ≤ maxLen ∧ b < w.heap.size ∧ ∀ i, i < z.length → w.cell? ⟨b, off + i, none⟩ = some (.int .u8 (z.getD i 0))
theorem R8.below {w w' : World} {v : Value} {z : List Int} (h : R8 w v z) (hb : Below w.heap.size w w') : R8 w' v z := by
  rcases h with h | ⟨b, off, c, h1, h2, h3, h4, h5⟩
  · exact .inl h
  · exact .inr ⟨b, off, c, h1, h2, h3, Nat.lt_of_lt_of_le h4 hb.size, fun i hi => (hb.cell (p := ⟨b, off + i, none⟩) h4).trans (h5 i hi)⟩
def T3 (x : Int × Int × Int) : Ending := .returned (.tuple #[.int .i64 x.1, .int .i64 x.2.1, .int .i64 x.2.2])
theorem get_zero_x (x : Addr) (c : Nat) (hc : c ≤ maxLen) (w : World) :
    Calls Tryd.prog 53 #[.slice (some x) 0 c, .int .i64 0, .int .i64 0] w fun e w' => e = .returned (.tuple #[.int .i64 0, .int .i64 0, .int .i64 0]) ∧ w = w' := by
  unfold maxLen at hc
  by_cases hne : c = 0
  all_goals
    go_enter Tryd.func53, Tryd.ntmps53
    go_wp2
    go_loop [6, 10, 40] (fun m _ i => i = .int .i64 0 ∧ m = .int .i64 0) (fun _ _ _ => 0)
    case atStart => exact ⟨rfl, rfl⟩
    case round =>
      obtain ⟨rfl, rfl⟩ := hrel
      go_wp2
      go_ret3
      exact ⟨rfl, rfl⟩
theorem get_all (v : Value) (z : List Int) (A : Int) (s : Nat) (w : World) (hr : R8 w v z) (hz : ∀ x ∈ z, 0 ≤ x ∧ x ≤ 255) (hl : z.length ≤ 20000) (s1 : s ≤ 31) :
    Calls Tryd.prog 53 #[v, .int .i64 A, .int .i64 s] w fun e w' => e = T3 (getF z A s) ∧ w = w' := by
  obtain ⟨a0, c0, hv, hc0, hcm⟩ : ∃ a0 c0, v = .slice a0 z.length c0 ∧ z.length ≤ c0 ∧ c0 ≤ maxLen := by
    rcases hr with ⟨rfl | ⟨x, c, rfl, hc⟩, rfl⟩ | ⟨b, off, c, rfl, h2, h3, _⟩
    · exact ⟨none, 0, rfl, Nat.le_refl _, by unfold maxLen; omega⟩
    · exact ⟨some x, c, rfl, Nat.zero_le _, hc⟩
    · exact ⟨_, c, rfl, h2, h3⟩
  by_cases h1 : A < 0 ∨ (z.length : Int) < A
  · subst hv
    have e : getF z A s = (0, 0, 2) := by unfold getF; rw [if_pos h1]
    rw [e]
    exact get_arg a0 z.length c0 A s w (by omega) (by omega)
  by_cases h2 : (z.length : Int) - A < s
  · subst hv
    have e : getF z A s = (0, 0, 5) := by unfold getF; rw [if_neg h1, if_pos h2]
    rw [e]
    exact get_end a0 z.length c0 A s w (by omega) (by omega) (by omega) (by omega) (by omega) h2
  obtain ⟨a, rfl⟩ : ∃ a : Nat, A = (a : Int) := ⟨A.toNat, by omega⟩
  have e : getF z a s = if bok ((z.drop a).take s) then (num ((z.drop a).take s), (a : Int) + s, 0) else (0, 0, 8) := by
    unfold getF; rw [if_neg h1, if_neg h2]; simp
  rcases hr with ⟨hv2, rfl⟩ | ⟨b, off, c, rfl, h3, h4, h5, h6⟩
  · have ha : a = 0 := by simp at h1; omega
    subst ha
    have hs0 : s = 0 := by simp at h2; omega
    subst hs0
    rw [e]
    rcases hv2 with rfl | ⟨x, c, rfl, hc⟩
    · exact get_nil w
    · exact get_zero_x x c hc w
  · by_cases hs0 : s = 0
    · subst hs0
      rw [e]
      have := get_zero b off z.length c a w (by omega) h3 (by omega)
      refine this.mono fun _ _ h => ⟨?_, h.2⟩
      rw [h.1]
      simp [T3, bok, num]
    · have := get_room b off z.length c a s ((z.drop a).take s) w (by omega) h3 s1 (by omega) (by omega) (drop_take_len (by omega)) h5 (fun x hx => hz x (List.mem_of_mem_drop (List.mem_of_mem_take hx))) (fun i hi => by
        have := h6 (a + i) (by omega)
        rw [show off + a + i = off + (a + i) by omega, this]
        simp [List.getD_eq_getElem?_getD, List.getElem?_take, hi, List.getElem?_drop])
      refine this.mono fun _ _ h => ⟨?_, h.2⟩
      rw [e]
      rcases h.1 with ⟨h7, h8⟩ | ⟨h7, h8⟩
      · rw [h8, if_pos ((bok_iff _).2 h7)]; rfl
      · rw [h8, if_neg (fun h => h7 ((bok_iff _).1 h))]; rfl
set_option maxRecDepth 100000 in
set_option maxHeartbeats 4000000 in
theorem zeros_ok (v : Value) (z : List Int) (A : Int) (w : World) (hr : R8 w v z) (hz : ∀ x ∈ z, 0 ≤ x ∧ x ≤ 255) (hl : z.length ≤ 20000) :
    Calls Tryd.prog 52 #[v, .int .i64 A] w fun e w' => e = T3 (zerosF z 10 0 A) ∧ w = w' := by
  have HG : Hid (∀ B, Calls Tryd.prog 53 #[v, .int .i64 B, .int .i64 1] w fun e w' => e = .returned (.tuple #[.int .i64 (getF z B 1).1, .int .i64 (getF z B 1).2.1, .int .i64 (getF z B 1).2.2]) ∧ w = w') := Lib.hid fun B => get_all v z B 1 w hr hz hl (by omega)
  have HF : Hid (∀ (f m : Nat) (B : Int), zerosF z (f + 1) m B = if (getF z B 1).2.2 ≠ 0 then (0, 0, (getF z B 1).2.2) else if (getF z B 1).1 = 1 then ((m : Int), (getF z B 1).2.1, 0) else zerosF z f (m + 1) (getF z B 1).2.1) := Lib.hid fun f m B => rfl
  have H0 : Hid (∀ m B, zerosF z 0 m B = (0, 0, 8)) := Lib.hid fun m B => rfl
  obtain ⟨r, hr0⟩ : ∃ r, zerosF z 10 0 A = r := ⟨_, rfl⟩
  rw [hr0]
  have HR0 := Lib.hid hr0
  clear hr0 hr
  go_enter Tryd.func52, Tryd.ntmps52
  go_wp2
  go_loop [1, 4] (fun at_ zs => ∃ (m : Nat) (B : Int), m ≤ 10 ∧ zs = .int .i64 m ∧ at_ = .int .i64 B ∧ Hid (zerosF z (10 - m) m B = r)) (fun _ zs => 10 - (intOf zs).toNat)
  case atStart => exact ⟨0, A, by omega, rfl, rfl, HR0⟩
  case round =>
    obtain ⟨m, B, hm, rfl, rfl, hF⟩ := hrel
    by_cases hlt : m ≤ 9
    · have hF2 := hF.out
      rw [show 10 - m = (10 - (m + 1)) + 1 by omega, HF.out] at hF2
      obtain ⟨bit, nx, er, hg⟩ : ∃ bit nx er, getF z B 1 = (bit, nx, er) := ⟨_, _, _, rfl⟩
      have HGB := Lib.hid (HG.out B)
      rw [hg] at hF2 HGB
      by_cases he : er = 0
      · subst he
        rw [if_neg (by simp)] at hF2
        by_cases hb : bit = 1
        · subst hb
          rw [if_pos rfl] at hF2
          have HF2 := Lib.hid hF2
          clear hF2 hF HG HF H0 hg HR0
          go_wp2_with (go_at_call 53; ((with_reducible refine (HGB.out).mono ?_); rintro e w1 ⟨rfl, rfl⟩))
          go_ret3
          exact ⟨by rw [← HF2.out]; rfl, rfl⟩
        · rw [if_neg hb] at hF2
          have HF2 := Lib.hid hF2
          have hbe : (bit == 1) = false := by simp [hb]
          clear hF2 hF HG HF H0 hg HR0
          go_wp2_with (go_at_call 53; ((with_reducible refine (HGB.out).mono ?_); rintro e w1 ⟨rfl, rfl⟩))
          go_round
          case rel => exact ⟨m + 1, nx, by omega, by go_num, rfl, HF2⟩
          case measure => simp [intOf]; omega
      · rw [if_pos he] at hF2
        have HF2 := Lib.hid hF2
        have hee : (er == 0) = false := by simp [he]
        clear hF2 hF HG HF H0 hg HR0
        go_wp2_with (go_at_call 53; ((with_reducible refine (HGB.out).mono ?_); rintro e w1 ⟨rfl, rfl⟩))
        go_ret3
        exact ⟨by rw [← HF2.out]; rfl, rfl⟩
    · have hend : m = 10 := by omega
      subst hend
      have hF2 := hF.out
      rw [Nat.sub_self, H0.out] at hF2
      have HF2 := Lib.hid hF2
      clear hF2 hF HG HF H0 HR0
      go_wp2
      go_ret3
      exact ⟨by rw [← HF2.out]; rfl, rfl⟩
theorem wf8' {s : Int} (h : (Lit.int .u8 s).wf = true) : 0 ≤ s ∧ s ≤ 255 := by
  simp [Lit.wf] at h
  have e : IntKind.u8.min = 0 := rfl
  have e2 : IntKind.u8.max = 255 := rfl
  omega
theorem isrow8 {w : World} {a : Option Addr} {len cap : Nat} {zs : List Int} (h : Go.Proofs.YteklahfgplbmcaaDoor.Cr.IsRow .u8 w a len cap zs) : ∃ xs : List Int, xs.length = len ∧ R8 w (.slice a len cap) xs ∧ ∀ n ∈ xs, 0 ≤ n ∧ n ≤ 255 := by
  rcases h with ⟨rfl, rfl, rfl, rfl⟩ | ⟨x, rfl, hl, hm, hz, hc, hwf⟩
  · exact ⟨[], rfl, .inl ⟨.inl rfl, rfl⟩, fun n h => by cases h⟩
  · have hlen : (zs.take len).length = len := by simp; omega
    refine ⟨zs.take len, hlen, ?_, fun n h => wf8' (hwf n (List.mem_of_mem_take h))⟩
    by_cases h0 : len = 0
    · subst h0; exact .inl ⟨.inr ⟨x, cap, rfl, hm⟩, by simp⟩
    · obtain ⟨b, off, rfl, hc'⟩ := ints_at hc (by omega)
      refine .inr ⟨b, off, cap, by rw [hlen], by omega, hm, Go.Proofs.YteklahfgplbmcaaDoor.Cr.lt_of_cell (hc' 0 (by omega)), fun i hi => ?_⟩
      rw [hlen] at hi
      rw [hc' i (by omega)]
      simp [hi]
theorem addc (b o i : Nat) : (⟨b, o, none⟩ : Addr).add i = ⟨b, o + i, none⟩ := by simp [Addr.add]
/-- A piece of bits. -/
theorem r8_piece {w : World} {b off c : Nat} {z : List Int} {a s : Nat} (h : a + s ≤ z.length) (hc : ∀ i, i < z.length → w.cell? ⟨b, off + i, none⟩ = some (.int .u8 (z.getD i 0))) : Src8 w (.slice (some ⟨b, off + a, none⟩) s c) ((z.drop a).take s) := by
  have hl : ((z.drop a).take s).length = s := drop_take_len h
  refine .inr ⟨⟨b, off + a, none⟩, c, by rw [hl], fun j u hu => ?_⟩
  rw [List.getElem?_map] at hu
  by_cases hj : j < s
  · rw [List.getElem?_take, if_pos hj, List.getElem?_drop, List.getElem?_eq_getElem (by omega)] at hu
    rw [addc, show off + a + j = off + (a + j) by omega, hc (a + j) (by omega)]
    rw [List.getD_eq_getElem?_getD, List.getElem?_eq_getElem (by omega)]
    simpa using hu
  · rw [List.getElem?_eq_none (by omega)] at hu; simp at hu
theorem r8_src {w : World} {v : Value} {z : List Int} (h : R8 w v z) : Src8 w v z := by
  rcases h with ⟨rfl | ⟨x, c, rfl, hc⟩, rfl⟩ | ⟨b, off, c, rfl, h2, h3, h4, h5⟩
  · exact .inl ⟨rfl, rfl⟩
  · exact .inr ⟨x, c, rfl, fun j u hu => by simp at hu⟩
  · have := r8_piece (c := c) (a := 0) (s := z.length) (by omega) h5
    simpa using this
end Go.Proofs.YteklahfgplbmcaaDoor.Bk

/- What is read by a book. -/
namespace Go.Proofs.YteklahfgplbmcaaDoor.Bk
open Go Go.ChangeShapes Go.WideShapes Go.ChangeAt Go.RowKit Go.Proofs.YteklahfgplbmcaaDoor.Bi Go.Proofs.YteklahfgplbmcaaDoor.Cr Go.Proofs.YteklahfgplbmcaaDoor.Fx

theorem zeros_le {z : List Int} : ∀ {f m : Nat} {A : Int}, (zerosF z f m A).2.2 = 0 → ∃ j : Nat, (zerosF z f m A).1 = (j : Int) ∧ j < m + f := by
  intro f m A h
  obtain ⟨j, a, _, hj, _, _, e⟩ := zerosF_ok h
  exact ⟨m + j, by rw [e], by omega⟩
theorem getF_num {z : List Int} {A : Int} {s : Nat} (h : (getF z A s).2.2 = 0) : 0 ≤ (getF z A s).1 ∧ (getF z A s).1 < 2 ^ s := by
  obtain ⟨a, _, hl, hb, e⟩ := getF_ok h
  rw [e]
  exact num_bd s _ (drop_take_len hl) hb
theorem w64' {x : Int} (h0 : -9223372036854775808 ≤ x) (h1 : x ≤ 9223372036854775807) : wrap64 x = x := by
  simp only [wrap64]; omega
theorem pow_b {n k : Nat} (h : n ≤ k) : (1 : Int) ≤ 2 ^ n ∧ (2 : Int) ^ n ≤ ((2 ^ k : Nat) : Int) := by
  have h1 : (1 : Nat) ≤ 2 ^ n := Nat.one_le_two_pow
  have h2 : 2 ^ n ≤ 2 ^ k := Nat.pow_le_pow_right (by decide) h
  exact ⟨by exact_mod_cast h1, by exact_mod_cast h2⟩
theorem rank_wrap {P Q lo p : Int} (hP : 1 ≤ P) (hP2 : P ≤ ((2 ^ 9 : Nat) : Int)) (hQ : 1 ≤ Q) (hQ2 : Q ≤ ((2 ^ 2 : Nat) : Int)) (l0 : 0 ≤ lo) (l1 : lo < P) (p0 : 0 ≤ p) (p1 : p < Q) :
    wrap64 (wrap64 (wrap64 (wrap64 (wrap64 P + lo) - 1) * Q) + p) = (P + lo - 1) * Q + p ∧ 0 ≤ (P + lo - 1) * Q + p := by
  have e9 : ((2 ^ 9 : Nat) : Int) = 512 := rfl
  have e2 : ((2 ^ 2 : Nat) : Int) = 4 := rfl
  rw [e9] at hP2
  rw [e2] at hQ2
  have h0 : 0 ≤ (P + lo - 1) * Q := Int.mul_nonneg (by omega) (by omega)
  have h1 : (P + lo - 1) * Q ≤ 1023 * 4 := Int.mul_le_mul (by omega) (by omega) (by omega) (by decide)
  generalize hM : (P + lo - 1) * Q = M at *
  rw [w64' (x := P) (by omega) (by omega), w64' (x := P + lo) (by omega) (by omega), w64' (x := P + lo - 1) (by omega) (by omega), hM, w64' (x := M) (by omega) (by omega), w64' (x := M + p) (by omega) (by omega)]
  exact ⟨rfl, by omega⟩
set_option maxRecDepth 100000 in
set_option maxHeartbeats 8000000 in
theorem read_ok (id E R : Nat) (v : Value) (z : List Int) (A : Int) (w : World) (h1 : 1 ≤ id) (h2 : id ≤ 12) (hs : Sh w) (he : w.rowIs E 3 (Nn id) (fun j => .int .i64 (ordI id j))) (hr : w.rowIs R 3 (Nn id) (fun j => .int .i64 (rkI id j)))
    (hv : R8 w v z) (hz : ∀ x ∈ z, 0 ≤ x ∧ x ≤ 255) (hl : z.length ≤ 20000) :
    Calls Tryd.prog 17 #[.agg #[.int .i64 (id : Int), .int .i64 (pl id : Int), .slice (some ⟨E, 0, none⟩) (Nn id) (Nn id), .slice (some ⟨R, 0, none⟩) (Nn id) (Nn id)], v, .int .i64 A] w fun e w' => e = T3 (readF (ord id) (pl id) z A) ∧ Below w.heap.size w w' := by
  obtain ⟨f1, f2, f3, f4, f5, f6, f7, f8, f9, f10, f11, f12, f13, f14⟩ := facts h1 h2
  have HG := Lib.hid (fun w (hs : Sh w) he hr => genuine_yes id E R w h1 h2 hs he hr)
  have hkb := kb_new w (id : Int) (pl id) E R (Nn id)
  have hb0 := Lib.hid (al w (.cells #[.int .i64 (id : Int), .int .i64 (pl id), .slice (some ⟨E, 0, none⟩) (Nn id) (Nn id), .slice (some ⟨R, 0, none⟩) (Nn id) (Nn id)] 24))
  have hsA := Lib.hid (hs.below (al w (.cells #[.int .i64 (id : Int), .int .i64 (pl id), .slice (some ⟨E, 0, none⟩) (Nn id) (Nn id), .slice (some ⟨R, 0, none⟩) (Nn id) (Nn id)] 24)))
  have heA := Lib.hid (r_al (o := (.cells #[.int .i64 (id : Int), .int .i64 (pl id), .slice (some ⟨E, 0, none⟩) (Nn id) (Nn id), .slice (some ⟨R, 0, none⟩) (Nn id) (Nn id)] 24)) he)
  have hrA := Lib.hid (r_al (o := (.cells #[.int .i64 (id : Int), .int .i64 (pl id), .slice (some ⟨E, 0, none⟩) (Nn id) (Nn id), .slice (some ⟨R, 0, none⟩) (Nn id) (Nn id)] 24)) hr)
  have HV := Lib.hid hv
  have HK := Lib.hid hkb
  have HZr : Hid (∀ w', Below w.heap.size w w' → Calls Tryd.prog 52 #[v, .int .i64 A] w' fun e w'' => e = .returned (.tuple #[.int .i64 (zerosF z 10 0 A).1, .int .i64 (zerosF z 10 0 A).2.1, .int .i64 (zerosF z 10 0 A).2.2]) ∧ w' = w'') := Lib.hid fun w' hb => zeros_ok v z A w' (hv.below hb) hz hl
  have HGt : Hid (∀ w' (B : Int) (s : Nat), Below w.heap.size w w' → s ≤ 31 → Calls Tryd.prog 53 #[v, .int .i64 B, .int .i64 s] w' fun e w'' => e = .returned (.tuple #[.int .i64 (getF z B s).1, .int .i64 (getF z B s).2.1, .int .i64 (getF z B s).2.2]) ∧ w' = w'') := Lib.hid fun w' B s hb h => get_all v z B s w' (hv.below hb) hz hl h
  obtain ⟨k0, k1, k2, k3, k4⟩ := hkb
  have hord := (ord_is h1 h2).length
  have HRd : Hid (∀ x, T3 x = .returned (.tuple #[.int .i64 x.1, .int .i64 x.2.1, .int .i64 x.2.2])) := Lib.hid fun _ => rfl
  obtain ⟨kz, n1, e1, hzz⟩ : ∃ kz n1 e1, zerosF z 10 0 A = (kz, n1, e1) := ⟨_, _, _, rfl⟩
  have hzl := zeros_le (z := z) (f := 10) (m := 0) (A := A)
  rw [hzz] at HZr hzl
  by_cases he1 : e1 = 0
  · subst he1
    obtain ⟨m, hm1, hm2⟩ := hzl rfl
    simp only at hm1
    subst hm1
    have HG1 := Lib.hid (fun w' hb => HGt.out w' n1 m hb (by omega))
    have hn1 := getF_num (z := z) (A := n1) (s := m)
    obtain ⟨lo, n2, e2, hg1⟩ : ∃ lo n2 e2, getF z n1 m = (lo, n2, e2) := ⟨_, _, _, rfl⟩
    rw [hg1] at HG1 hn1
    by_cases he2 : e2 = 0
    · subst he2
      have HG2 := Lib.hid (fun w' hb => HGt.out w' n2 (pl id) hb (by omega))
      have hn2 := getF_num (z := z) (A := n2) (s := pl id)
      obtain ⟨p, n3, e3, hg2⟩ : ∃ p n3 e3, getF z n2 (pl id) = (p, n3, e3) := ⟨_, _, _, rfl⟩
      rw [hg2] at HG2 hn2
      by_cases he3 : e3 = 0
      · subst he3
        have hres : readF (ord id) (pl id) z A = if ((ord id).length : Int) ≤ (2 ^ m + lo - 1) * 2 ^ pl id + p then (0, 0, 8) else ((((ord id).getD ((2 ^ m + lo - 1) * 2 ^ pl id + p).toNat 0 : Nat) : Int), n3, 0) := by
          unfold readF; simp [hzz, hg1, hg2]
        rw [hres, hord]
        obtain ⟨l0, l1⟩ := hn1 rfl
        obtain ⟨p0, p1⟩ := hn2 rfl
        simp only at l0 l1 p0 p1
        obtain ⟨rk0, hrk0⟩ : ∃ rk0 : Int, (2 ^ m + lo - 1) * 2 ^ pl id + p = rk0 := ⟨_, rfl⟩
        obtain ⟨hwr, hrk1⟩ := rank_wrap (P := (2 : Int) ^ m) (Q := (2 : Int) ^ pl id) (lo := lo) (p := p) (pow_b (Nat.le_refl m)).1 (pow_b (k := 9) (by omega)).2 (pow_b f6).1 (pow_b (k := 2) f6).2 l0 l1 p0 p1
        rw [hrk0] at hwr hrk1
        rw [hrk0]
        clear hrk0
        clear hres hzz hg1 hg2 hzl hn1 hn2 HGt hs he hr hv hl hz f1 f2 f3 f4 f5 f9 f10 f11 f12 f13 f14
        by_cases hge : ((Nn id : Nat) : Int) ≤ rk0
        · rw [if_pos hge]
          go_enter Tryd.func17, Tryd.ntmps17
          go_upto_region 12 with first
          | (go_at_call 49; ((with_reducible refine (HG.out _ hsA.out heA.out hrA.out).mono ?_); rintro e w1 ⟨rfl, hb1⟩; have h1 := Lib.hid (bT hb0.out hb1); obtain ⟨q0, q1, q2, q3, q4⟩ := HK.out.below hb1))
          | (go_at_call 52; ((with_reducible refine (HZr.out _ h1.out).mono ?_); rintro e w2 ⟨rfl, rfl⟩))
          | (go_at_call 53; ((with_reducible refine (HG1.out _ h1.out).mono ?_); rintro e w3 ⟨rfl, rfl⟩))
          | (go_at_call 53; ((with_reducible refine (HG2.out _ h1.out).mono ?_); rintro e w4 ⟨rfl, rfl⟩))
          go_quiet (fail)
          go_wp2
          go_ret3
          exact ⟨rfl, h1.out.trans ((drewN_belowL w1 nq).mono h1.out.size)⟩
        · rw [if_neg hge]
          obtain ⟨r, rfl⟩ : ∃ r : Nat, rk0 = (r : Int) := ⟨rk0.toNat, by omega⟩
          have hrn : r < Nn id := by omega
          have hce : ordI id r = (((ord id).getD r 0 : Nat) : Int) := rfl
          rw [Int.toNat_natCast]
          obtain ⟨en, hen⟩ : ∃ en : Nat, (ord id).getD r 0 = en := ⟨_, rfl⟩
          rw [hen] at hce ⊢
          have ceA := heA.out.cell (i := r) hrn
          rw [hce] at ceA
          have hElt := heA.out.lt
          clear hen hce
          go_enter Tryd.func17, Tryd.ntmps17
          go_upto_region 12 with first
          | (go_at_call 49; ((with_reducible refine (HG.out _ hsA.out heA.out hrA.out).mono ?_); rintro e w1 ⟨rfl, hb1⟩; have h1 := Lib.hid (bT hb0.out hb1); obtain ⟨q0, q1, q2, q3, q4⟩ := HK.out.below hb1))
          | (go_at_call 52; ((with_reducible refine (HZr.out _ h1.out).mono ?_); rintro e w2 ⟨rfl, rfl⟩))
          | (go_at_call 53; ((with_reducible refine (HG1.out _ h1.out).mono ?_); rintro e w3 ⟨rfl, rfl⟩))
          | (go_at_call 53; ((with_reducible refine (HG2.out _ h1.out).mono ?_); rintro e w4 ⟨rfl, rfl⟩))
          have ce := (hb1.cell (p := ⟨E, r, none⟩) hElt).trans ceA
          clear ceA
          go_quiet (fail)
          go_wp2
          go_ret3
          exact ⟨rfl, h1.out.trans ((drewN_belowL w1 nq).mono h1.out.size)⟩
      · have hres : readF (ord id) (pl id) z A = (0, 0, e3) := by
          unfold readF; simp [hzz, hg1, hg2, he3]
        rw [hres]
        have hee : (e3 == 0) = false := by simp [he3]
        clear hres hzz hg1 hg2 hzl hn1 hn2 HGt hs he hr hv hl hz f1 f2 f3 f4 f5 f9 f10 f11 f12 f13 f14
        go_enter Tryd.func17, Tryd.ntmps17
        go_wp2_with first
          | (go_at_call 49; ((with_reducible refine (HG.out _ hsA.out heA.out hrA.out).mono ?_); rintro e w1 ⟨rfl, hb1⟩; have h1 := Lib.hid (bT hb0.out hb1); obtain ⟨q0, q1, q2, q3, q4⟩ := HK.out.below hb1))
          | (go_at_call 52; ((with_reducible refine (HZr.out _ h1.out).mono ?_); rintro e w2 ⟨rfl, rfl⟩))
          | (go_at_call 53; ((with_reducible refine (HG1.out _ h1.out).mono ?_); rintro e w3 ⟨rfl, rfl⟩))
          | (go_at_call 53; ((with_reducible refine (HG2.out _ h1.out).mono ?_); rintro e w4 ⟨rfl, rfl⟩))
        go_ret3
        exact ⟨rfl, h1.out⟩
    · have hres : readF (ord id) (pl id) z A = (0, 0, e2) := by
        unfold readF; simp [hzz, hg1, he2]
      rw [hres]
      have hee : (e2 == 0) = false := by simp [he2]
      clear hres hzz hg1 hzl hn1 HGt hs he hr hv hl hz f1 f2 f3 f4 f5 f9 f10 f11 f12 f13 f14
      go_enter Tryd.func17, Tryd.ntmps17
      go_wp2_with first
          | (go_at_call 49; ((with_reducible refine (HG.out _ hsA.out heA.out hrA.out).mono ?_); rintro e w1 ⟨rfl, hb1⟩; have h1 := Lib.hid (bT hb0.out hb1); obtain ⟨q0, q1, q2, q3, q4⟩ := HK.out.below hb1))
          | (go_at_call 52; ((with_reducible refine (HZr.out _ h1.out).mono ?_); rintro e w2 ⟨rfl, rfl⟩))
          | (go_at_call 53; ((with_reducible refine (HG1.out _ h1.out).mono ?_); rintro e w3 ⟨rfl, rfl⟩))
      go_ret3
      exact ⟨rfl, h1.out⟩
  · have hres : readF (ord id) (pl id) z A = (0, 0, e1) := by
      unfold readF; simp [hzz, he1]
    rw [hres]
    have hee : (e1 == 0) = false := by simp [he1]
    clear hres hzz hzl HGt hs he hr hv hl hz f1 f2 f3 f4 f5 f9 f10 f11 f12 f13 f14
    go_enter Tryd.func17, Tryd.ntmps17
    go_wp2_with first
          | (go_at_call 49; ((with_reducible refine (HG.out _ hsA.out heA.out hrA.out).mono ?_); rintro e w1 ⟨rfl, hb1⟩; have h1 := Lib.hid (bT hb0.out hb1); obtain ⟨q0, q1, q2, q3, q4⟩ := HK.out.below hb1))
          | (go_at_call 52; ((with_reducible refine (HZr.out _ h1.out).mono ?_); rintro e w2 ⟨rfl, rfl⟩))
    go_ret3
    exact ⟨rfl, h1.out⟩
end Go.Proofs.YteklahfgplbmcaaDoor.Bk

/- Values and entries, told by one another. -/
namespace Go.Proofs.YteklahfgplbmcaaDoor.BkEn
open Go Go.ChangeShapes Go.WideShapes Go.ChangeAt Go.RowKit Go.Proofs.YteklahfgplbmcaaDoor.Bk Go.Proofs.YteklahfgplbmcaaDoor.Bi Go.Proofs.YteklahfgplbmcaaDoor.Cr Go.Proofs.YteklahfgplbmcaaDoor.Fx

theorem wf64 {s : Int} (h : (Lit.int .i64 s).wf = true) : -9223372036854775808 ≤ s ∧ s ≤ 9223372036854775807 := by
  simp [Lit.wf] at h
  have e : IntKind.i64.min = -9223372036854775808 := rfl
  have e2 : IntKind.i64.max = 9223372036854775807 := rfl
  omega
theorem isrow_rd {w : World} {a : Option Addr} {len cap : Nat} {zs : List Int} (h : Go.Proofs.YteklahfgplbmcaaDoor.Cr.IsRow .i64 w a len cap zs) : ∃ xs : List Int, xs.length = len ∧ Rd w (.slice a len cap) xs ∧ len ≤ maxLen ∧ ∀ n ∈ xs, -9223372036854775808 ≤ n ∧ n ≤ 9223372036854775807 := by
  rcases h with ⟨rfl, rfl, rfl, rfl⟩ | ⟨x, rfl, hl, hm, hz, hc, hwf⟩
  · exact ⟨[], rfl, .inl ⟨_, _, rfl, rfl⟩, by unfold maxLen; omega, fun n h => by cases h⟩
  · have hlen : (zs.take len).length = len := by simp; omega
    refine ⟨zs.take len, hlen, ?_, by omega, fun n h => wf64 (hwf n (List.mem_of_mem_take h))⟩
    by_cases h0 : len = 0
    · subst h0; exact .inl ⟨_, _, rfl, by simp⟩
    · obtain ⟨b, off, rfl, hc'⟩ := ints_at hc (by omega)
      refine .inr ⟨b, off, cap, by rw [hlen], Go.Proofs.YteklahfgplbmcaaDoor.Cr.lt_of_cell (hc' 0 (by omega)), by omega, hm, fun i hi => ?_⟩
      rw [hlen] at hi
      rw [hc' i (by omega)]
      simp [hi]
theorem values_bad1 (I n : Int) (w : World) (h : I < 1 ∨ 12 < I) : Calls Tryd.prog 20 #[.int .i64 I, .int .i64 n] w fun e w' => e = .returned (.tuple #[.slice none 0 0, .int .i64 2]) ∧ Below w.heap.size w w' := by
  by_cases h1 : I < 1
  · clear h
    go_enter Tryd.func20, Tryd.ntmps20
    go_wp2
    go_ret2
    exact ⟨rfl, Below.refl _ _⟩
  · have h2 : 12 < I := by omega
    clear h
    go_enter Tryd.func20, Tryd.ntmps20
    go_wp2
    go_ret2
    exact ⟨rfl, Below.refl _ _⟩
set_option maxHeartbeats 4000000 in
theorem values_bad2 (id : Nat) (n : Int) (w : World) (h1 : 1 ≤ id) (h2 : id ≤ 12) (hs : Sh w) (h : n < 0 ∨ (Nn id : Int) ≤ n) : Calls Tryd.prog 20 #[.int .i64 id, .int .i64 n] w fun e w' => e = .returned (.tuple #[.slice none 0 0, .int .i64 2]) ∧ Below w.heap.size w w' := by
  obtain ⟨k, rfl⟩ : ∃ k, id = k + 1 := ⟨id - 1, by omega⟩
  obtain ⟨s0, s1⟩ := hs
  obtain ⟨g0, g1, g2, g3⟩ := s1 k (by omega)
  have HZ := Lib.hid (fun w => sizes h1 h2 w)
  have hk11 : k ≤ 11 := by omega
  by_cases hn : n < 0
  · clear h s1 h1 h2
    go_enter Tryd.func20, Tryd.ntmps20
    go_wp2
    go_ret2
    exact ⟨rfl, Below.refl _ _⟩
  · have hn2 : (Nn (k + 1) : Int) ≤ n := by omega
    clear h s1 h1 h2
    go_enter Tryd.func20, Tryd.ntmps20
    go_wp2_with (go_at_call 46; ((with_reducible refine (HZ.out _).mono ?_); rintro e w1 ⟨rfl, hb1⟩))
    go_ret2
    exact ⟨rfl, hb1⟩
theorem ent_yes {id : Nat} (h1 : 1 ≤ id) (h2 : id ≤ 12) {zs : List Int} (h : entX id zs = 0) : ∃ m, entI id zs = ((m : Nat) : Int) ∧ m < Nn id ∧ vals (bs id) (lw id) (dm id) m = zs := by
  unfold entX at h
  split at h
  · rename_i hl
    split at h
    · rename_i ha
      obtain ⟨m, e1, e2, e3⟩ := ent_take h1 h2 (by omega) ha
      refine ⟨m, ?_, ?_, by rw [← hl]; exact e3⟩
      · unfold entI; rw [if_pos ⟨hl, ha⟩]; exact e1
      · rw [(facts h1 h2).1, ← hl]; exact e2
    · simp at h
  · simp at h
theorem ent_no {id : Nat} {zs : List Int} (h : entX id zs ≠ 0) : entI id zs = 0 ∧ (entX id zs = 2 ∨ entX id zs = 4) := by
  unfold entX entI at *
  split at h
  · rename_i hl
    split at h
    · exact absurd rfl h
    · rename_i ha
      rw [if_neg (fun x => ha x.2), if_pos hl, if_neg ha]; exact ⟨rfl, .inl rfl⟩
  · rename_i hl
    rw [if_neg (fun x => hl x.1), if_neg hl]; exact ⟨rfl, .inr rfl⟩
theorem ent_of {id n : Nat} (h1 : 1 ≤ id) (h2 : id ≤ 12) (hn : n < Nn id) : entI id (vals (bs id) (lw id) (dm id) n) = (n : Int) ∧ entX id (vals (bs id) (lw id) (dm id) n) = 0 := by
  obtain ⟨f1, f2, f3, f4, f5, f6, f7, f8, f9, f10, f11, f12, f13, f14⟩ := facts h1 h2
  have ha : (vals (bs id) (lw id) (dm id) n).all (inR id) = true := by
    rw [List.all_eq_true]
    intro v hv
    have := vals_bd (bs id) (lw id) f2 (dm id) n v hv
    unfold inR; simp; omega
  have hl := vals_len (bs id) (lw id) (dm id) n
  unfold entI entX
  rw [if_pos ⟨hl, ha⟩, if_pos hl, if_pos ha]
  exact ⟨ent_vals (bs id) (lw id) f2 (dm id) n (by rw [← f1]; exact hn), rfl⟩
set_option maxRecDepth 100000 in
set_option maxHeartbeats 8000000 in
theorem long (I n : Int) (A : Option Addr) (len cap : Nat) (w : World) (hs : Sh w) (h : 1000 < (len : Int)) :
    Calls Tryd.prog 6 #[.int .i64 I, .int .i64 n, .slice A len cap] w fun e w' => e = .returned (.bool true) ∧ Below w.heap.size w w' := by
  have HA := Lib.hid (fun w (h : Sh w) => alive_ok w h)
  have HS := Lib.hid hs
  clear hs
  go_enter Tryd.func6, Tryd.ntmps6
  go_wp2_with first
    | (go_at_call 18; ((with_reducible refine (HA.out _ HS.out).mono ?_); rintro e w1 ⟨rfl, hb1⟩))
  go_ret
  exact ⟨rfl, hb1⟩
set_option maxRecDepth 100000 in
set_option maxHeartbeats 8000000 in
theorem badI (I n : Int) (A : Option Addr) (len cap : Nat) (w : World) (hs : Sh w) (h : ¬ 1000 < (len : Int)) (hI : I < 1 ∨ 12 < I) :
    Calls Tryd.prog 6 #[.int .i64 I, .int .i64 n, .slice A len cap] w fun e w' => e = .returned (.bool true) ∧ Below w.heap.size w w' := by
  have HA := Lib.hid (fun w (h : Sh w) => alive_ok w h)
  have HV := Lib.hid (fun w => values_bad1 I n w hI)
  have HE := Lib.hid (fun w v => entry_bad I v w hI)
  have HS := Lib.hid hs
  clear hs hI
  go_enter Tryd.func6, Tryd.ntmps6
  go_wp2_with first
    | (go_at_call 18; ((with_reducible refine (HA.out _ HS.out).mono ?_); rintro e w1 ⟨rfl, hb1⟩))
    | (go_at_call 20; ((with_reducible refine (HV.out _).mono ?_); rintro e w2 ⟨rfl, hb2⟩))
    | (go_at_call 22; ((with_reducible refine (HE.out _ _).mono ?_); rintro e w3 ⟨rfl, hb3⟩))
  go_ret
  exact ⟨rfl, bT (bT hb1 hb2) hb3⟩
set_option maxRecDepth 100000 in
set_option maxHeartbeats 8000000 in
theorem good (id : Nat) (n : Int) (A : Option Addr) (len cap : Nat) (zs : List Int) (w : World) (hs : Sh w) (h : ¬ 1000 < (len : Int)) (h1 : 1 ≤ id) (h2 : id ≤ 12) (hl : zs.length = len) (hr : Rd w (.slice A len cap) zs) (hb : ∀ z ∈ zs, -9223372036854775808 ≤ z ∧ z ≤ 9223372036854775807) :
    Calls Tryd.prog 6 #[.int .i64 id, .int .i64 n, .slice A len cap] w fun e w' => e = .returned (.bool true) ∧ Below w.heap.size w w' := by
  obtain ⟨f1, f2, f3, f4, f5, f6, f7, f8, f9, f10, f11, f12, f13, f14⟩ := facts h1 h2
  have HA := Lib.hid (fun w (h : Sh w) => alive_ok w h)
  have HVal : Hid (∀ (n : Nat) w, n < Nn id → Sh w → Calls Tryd.prog 20 #[.int .i64 id, .int .i64 n] w fun e w' => ∃ O, e = .returned (.tuple #[.slice (some ⟨O, 0, none⟩) (dm id) (dm id), .int .i64 0]) ∧ Rd w' (.slice (some ⟨O, 0, none⟩) (dm id) (dm id)) (vals (bs id) (lw id) (dm id) n) ∧ Below w.heap.size w w') := Lib.hid fun n w hn h => (values_ok id n w h1 h2 h hn).mono fun e w' ⟨O, h1, _, h3, h4⟩ => ⟨O, h1, rd_row h3 (vals_len _ _ _ _) (by unfold maxLen; omega) (fun j _ => rfl), h4⟩
  have HZs : Hid (∀ w', Rd w' (.slice A len cap) zs → Sh w' → Calls Tryd.prog 22 #[.int .i64 id, .slice A len cap] w' fun e w'' => e = .returned (.tuple #[.int .i64 (entI id zs), .int .i64 (entX id zs)]) ∧ Below w'.heap.size w' w'') := Lib.hid fun w' hr hs => entry_ok id _ zs w' h1 h2 hs (by unfold maxLen; omega) hb hr
  have HR := Lib.hid hr
  have HS := Lib.hid hs
  have HI : Hid (∀ w v, Rd w v zs → Rd w (.slice A len cap) zs → Calls Tryd.prog 25 #[v, .slice A len cap] w fun e w' => e = .returned (.bool true) ∧ Below w.heap.size w w') := Lib.hid fun w v h h' => by
    have := ints_ok v (.slice A len cap) zs zs w (by unfold maxLen; omega) (by unfold maxLen; omega) h h'
    simpa using this
  -- the tail: the entry of the values that came in
  by_cases hx : entX id zs = 0
  · obtain ⟨m, e1, e2, e3⟩ := ent_yes h1 h2 hx
    rw [e1, hx] at HZs
    have HVm : Hid (∀ w, Sh w → Calls Tryd.prog 20 #[.int .i64 id, .int .i64 m] w fun e w' => ∃ O, e = .returned (.tuple #[.slice (some ⟨O, 0, none⟩) (dm id) (dm id), .int .i64 0]) ∧ Rd w' (.slice (some ⟨O, 0, none⟩) (dm id) (dm id)) zs ∧ Below w.heap.size w w') := Lib.hid fun w h => by
      have := HVal.out m w e2 h
      rwa [e3] at this
    by_cases hn : 0 ≤ n ∧ n < (Nn id : Int)
    · obtain ⟨q, rfl⟩ : ∃ q : Nat, n = (q : Int) := ⟨n.toNat, by omega⟩
      have hq : q < Nn id := by omega
      obtain ⟨g1, g2⟩ := ent_of h1 h2 hq
      have HVq : Hid (∀ w, Sh w → Calls Tryd.prog 20 #[.int .i64 id, .int .i64 q] w fun e w' => ∃ O, e = .returned (.tuple #[.slice (some ⟨O, 0, none⟩) (dm id) (dm id), .int .i64 0]) ∧ Rd w' (.slice (some ⟨O, 0, none⟩) (dm id) (dm id)) (vals (bs id) (lw id) (dm id) q) ∧ Below w.heap.size w w') := Lib.hid fun w h => HVal.out q w hq h
      have HEq : Hid (∀ w v, Sh w → Rd w v (vals (bs id) (lw id) (dm id) q) → Calls Tryd.prog 22 #[.int .i64 id, v] w fun e w' => e = .returned (.tuple #[.int .i64 q, .int .i64 0]) ∧ Below w.heap.size w w') := Lib.hid fun w v h hr => by
        have := entry_ok id v _ w h1 h2 h (by rw [vals_len]; unfold maxLen; omega) (fun z hz => by have := vals_bd (bs id) (lw id) f2 (dm id) q z hz; omega) hr
        rwa [g1, g2] at this
      clear hs hr hb g1 g2 hx e1 e3 f1 f2 f3 f4 f5 f6 f9 f10 f11 f12 f13 f14 h1 h2 HVal hq hn hl
      go_enter Tryd.func6, Tryd.ntmps6
      go_wp2_with first
        | (go_at_call 18; ((with_reducible refine (HA.out _ HS.out).mono ?_); rintro e w1 ⟨rfl, hb1⟩))
        | (go_at_call 20; ((with_reducible refine (HVq.out _ (HS.out.below hb1)).mono ?_); rintro e w2 ⟨O, rfl, hO, hb2⟩; have h2 := Lib.hid (bT hb1 hb2)))
        | (go_at_call 22; ((with_reducible refine (HEq.out _ _ (HS.out.below h2.out) hO).mono ?_); rintro e w3 ⟨rfl, hb3⟩; have h3 := Lib.hid (bT h2.out hb3)))
        | (go_at_call 22; ((with_reducible refine (HZs.out _ (HR.out.below h3.out) (HS.out.below h3.out)).mono ?_); rintro e w4 ⟨rfl, hb4⟩; have h4 := Lib.hid (bT h3.out hb4)))
        | (go_at_call 20; ((with_reducible refine (HVm.out _ (HS.out.below h4.out)).mono ?_); rintro e w5 ⟨O5, rfl, hO5, hb5⟩; have h5 := Lib.hid (bT h4.out hb5)))
        | (go_at_call 25; ((with_reducible refine (HI.out _ _ hO5 (HR.out.below h5.out)).mono ?_); rintro e w6 ⟨rfl, hb6⟩))
      go_ret
      exact ⟨rfl, bT h5.out hb6⟩
    · have HVb := Lib.hid (fun w (h : Sh w) => values_bad2 id n w h1 h2 h (by omega))
      clear hs hr hb hx e1 e3 f1 f2 f3 f4 f5 f6 f9 f10 f11 f12 f13 f14 h1 h2 HVal hn hl
      go_enter Tryd.func6, Tryd.ntmps6
      go_wp2_with first
        | (go_at_call 18; ((with_reducible refine (HA.out _ HS.out).mono ?_); rintro e w1 ⟨rfl, hb1⟩))
        | (go_at_call 20; ((with_reducible refine (HVb.out _ (HS.out.below hb1)).mono ?_); rintro e w3 ⟨rfl, hb3⟩; have h3 := Lib.hid (bT hb1 hb3)))
        | (go_at_call 22; ((with_reducible refine (HZs.out _ (HR.out.below h3.out) (HS.out.below h3.out)).mono ?_); rintro e w4 ⟨rfl, hb4⟩; have h4 := Lib.hid (bT h3.out hb4)))
        | (go_at_call 20; ((with_reducible refine (HVm.out _ (HS.out.below h4.out)).mono ?_); rintro e w5 ⟨O5, rfl, hO5, hb5⟩; have h5 := Lib.hid (bT h4.out hb5)))
        | (go_at_call 25; ((with_reducible refine (HI.out _ _ hO5 (HR.out.below h5.out)).mono ?_); rintro e w6 ⟨rfl, hb6⟩))
      go_ret
      exact ⟨rfl, bT h5.out hb6⟩
  · obtain ⟨e1, e2⟩ := ent_no hx
    rw [e1] at HZs
    obtain ⟨X, hX⟩ : ∃ X, entX id zs = X := ⟨_, rfl⟩
    rw [hX] at HZs hx e2
    clear hX
    by_cases hn : 0 ≤ n ∧ n < (Nn id : Int)
    · obtain ⟨q, rfl⟩ : ∃ q : Nat, n = (q : Int) := ⟨n.toNat, by omega⟩
      have hq : q < Nn id := by omega
      obtain ⟨g1, g2⟩ := ent_of h1 h2 hq
      have HVq : Hid (∀ w, Sh w → Calls Tryd.prog 20 #[.int .i64 id, .int .i64 q] w fun e w' => ∃ O, e = .returned (.tuple #[.slice (some ⟨O, 0, none⟩) (dm id) (dm id), .int .i64 0]) ∧ Rd w' (.slice (some ⟨O, 0, none⟩) (dm id) (dm id)) (vals (bs id) (lw id) (dm id) q) ∧ Below w.heap.size w w') := Lib.hid fun w h => HVal.out q w hq h
      have HEq : Hid (∀ w v, Sh w → Rd w v (vals (bs id) (lw id) (dm id) q) → Calls Tryd.prog 22 #[.int .i64 id, v] w fun e w' => e = .returned (.tuple #[.int .i64 q, .int .i64 0]) ∧ Below w.heap.size w w') := Lib.hid fun w v h hr => by
        have := entry_ok id v _ w h1 h2 h (by rw [vals_len]; unfold maxLen; omega) (fun z hz => by have := vals_bd (bs id) (lw id) f2 (dm id) q z hz; omega) hr
        rwa [g1, g2] at this
      clear hs hr hb g1 g2 e1 f1 f2 f3 f4 f5 f6 f9 f10 f11 f12 f13 f14 h1 h2 HVal hq hn hl
      rcases e2 with rfl | rfl
      all_goals
        go_enter Tryd.func6, Tryd.ntmps6
        go_wp2_with first
          | (go_at_call 18; ((with_reducible refine (HA.out _ HS.out).mono ?_); rintro e w1 ⟨rfl, hb1⟩))
          | (go_at_call 20; ((with_reducible refine (HVq.out _ (HS.out.below hb1)).mono ?_); rintro e w2 ⟨O, rfl, hO, hb2⟩; have h2 := Lib.hid (bT hb1 hb2)))
          | (go_at_call 22; ((with_reducible refine (HEq.out _ _ (HS.out.below h2.out) hO).mono ?_); rintro e w3 ⟨rfl, hb3⟩; have h3 := Lib.hid (bT h2.out hb3)))
          | (go_at_call 22; ((with_reducible refine (HZs.out _ (HR.out.below h3.out) (HS.out.below h3.out)).mono ?_); rintro e w4 ⟨rfl, hb4⟩; have h4 := Lib.hid (bT h3.out hb4)))
        go_ret
        exact ⟨rfl, h4.out⟩
    · have HVb := Lib.hid (fun w (h : Sh w) => values_bad2 id n w h1 h2 h (by omega))
      clear hs hr hb e1 f1 f2 f3 f4 f5 f6 f9 f10 f11 f12 f13 f14 h1 h2 HVal hn hl
      rcases e2 with rfl | rfl
      all_goals
        go_enter Tryd.func6, Tryd.ntmps6
        go_wp2_with first
          | (go_at_call 18; ((with_reducible refine (HA.out _ HS.out).mono ?_); rintro e w1 ⟨rfl, hb1⟩))
          | (go_at_call 20; ((with_reducible refine (HVb.out _ (HS.out.below hb1)).mono ?_); rintro e w3 ⟨rfl, hb3⟩; have h3 := Lib.hid (bT hb1 hb3)))
          | (go_at_call 22; ((with_reducible refine (HZs.out _ (HR.out.below h3.out) (HS.out.below h3.out)).mono ?_); rintro e w4 ⟨rfl, hb4⟩; have h4 := Lib.hid (bT h3.out hb4)))
        go_ret
        exact ⟨rfl, h4.out⟩
theorem main (I n : Int) (A : Option Addr) (len cap : Nat) (z : List Int) (w : World) (hs : Sh w) (hz : Go.Proofs.YteklahfgplbmcaaDoor.Cr.IsRow .i64 w A len cap z) :
    Calls Tryd.prog 6 #[.int .i64 I, .int .i64 n, .slice A len cap] w fun e w' => e = .returned (.bool true) ∧ True ∧ Below w.heap.size w w' := by
  have key : Calls Tryd.prog 6 #[.int .i64 I, .int .i64 n, .slice A len cap] w fun e w' => e = .returned (.bool true) ∧ Below w.heap.size w w' := by
    by_cases h : 1000 < (len : Int)
    · exact long I n A len cap w hs h
    by_cases hI : I < 1 ∨ 12 < I
    · exact badI I n A len cap w hs h hI
    obtain ⟨id, rfl⟩ : ∃ id : Nat, I = (id : Int) := ⟨I.toNat, by omega⟩
    obtain ⟨xs, hl, hr, _, hb⟩ := isrow_rd hz
    exact good id n A len cap xs w hs h (by omega) (by omega) hl hr hb
  exact key.mono fun _ _ h => ⟨h.1, trivial, h.2⟩
end Go.Proofs.YteklahfgplbmcaaDoor.BkEn

/- No code begins another one. -/
namespace Go.Proofs.YteklahfgplbmcaaDoor.BkPx
open Go Go.ChangeShapes Go.WideShapes Go.ChangeAt Go.RowKit Go.Proofs.YteklahfgplbmcaaDoor.Bk Go.Proofs.YteklahfgplbmcaaDoor.Bi Go.Proofs.YteklahfgplbmcaaDoor.Cr Go.Proofs.YteklahfgplbmcaaDoor.Fx

theorem wf8 {s : Int} (h : (Lit.int .u8 s).wf = true) : 0 ≤ s ∧ s ≤ 255 := by
  simp [Lit.wf] at h
  have e : IntKind.u8.min = 0 := rfl
  have e2 : IntKind.u8.max = 255 := rfl
  omega
theorem wf16 {s : Int} (h : (Lit.int .u16 s).wf = true) : 0 ≤ s ∧ s ≤ 65535 := by
  simp [Lit.wf] at h
  have e : IntKind.u16.min = 0 := rfl
  have e2 : IntKind.u16.max = 65535 := rfl
  omega

theorem readF_bad {E : List Nat} {p : Nat} {z : List Int} {A : Int} (h : (readF E p z A).2.2 ≠ 0) : readF E p z A = (0, 0, (readF E p z A).2.2) := by
  unfold readF at h ⊢
  simp only at h ⊢
  split
  · rfl
  · rename_i h1
    rw [if_neg h1] at h
    split
    · rfl
    · rename_i h2
      rw [if_neg h2] at h
      split
      · rfl
      · rename_i h3
        rw [if_neg h3] at h
        split
        · rfl
        · rename_i h4
          rw [if_neg h4] at h
          exact absurd rfl h
theorem own_r8 {base : Nat} {w : World} {v : Value} {zs : List Int} (h : Go.Proofs.YteklahfgplbmcaaDoor.Cr.Own base w v zs) : R8 w v zs := by
  have hcells := @World.ownsRow.cells _ _ _ _ _ _ _ h
  have hlt := h.lt
  obtain ⟨hx, ⟨rfl, hn⟩ | ⟨g, cap, cur, rfl, hg, hh, hc, hm, hs, ht⟩⟩ := h
  · exact .inl ⟨.inl rfl, by cases zs with | nil => rfl | cons _ _ => simp at hn⟩
  · refine .inr ⟨g, 0, cap, rfl, hc, hm, (hlt g rfl).2, fun i hi => ?_⟩
    have := hcells (g := g) rfl i (.int .u8 (zs.getD i 0)) (by simp [hi])
    rwa [addc] at this
theorem cd_pos (p r : Nat) : 1 ≤ (cd p r).length := by
  rw [cd_len]
  have := (dg_bd (r / 2 ^ p + 1) (r / 2 ^ p + 1) Nat.lt_two_pow_self (Nat.le_add_left 1 _)).1
  omega
theorem cd_19 {id : Nat} (h1 : 1 ≤ id) (h2 : id ≤ 12) {r : Nat} (hr : r < Nn id) : (cd (pl id) r).length ≤ 19 ∧ r / 2 ^ pl id + 1 < 1024 := by
  have hN : Nn id / 2 ^ pl id + 1 ≤ 122 ∧ (pl id = 0 → Nn id ≤ 121) ∧ pl id ≤ 2 ∧ (pl id = 1 → Nn id ≤ 169) ∧ Nn id ≤ 289 := by
    rcases ids h1 h2 with rfl | rfl | rfl | rfl | rfl | rfl | rfl | rfl | rfl | rfl | rfl | rfl <;> decide
  obtain ⟨a, b, c, d, e⟩ := hN
  have hq : r / 2 ^ pl id + 1 < 128 := by
    have := Nat.div_le_div_right (c := 2 ^ pl id) (Nat.le_of_lt hr)
    omega
  have hd := dg_le (n := r / 2 ^ pl id + 1) (d := 7) (Nat.le_add_left 1 _) (by omega)
  rw [cd_len]
  omega
theorem step_append_src (w : World) {ops : Array Oper} {o : Oper} {a : Act} {K : Act → World → Prop} {Q : Exit → Act → World → Prop} {E : Prop} (hgd : o.guard = none) (s x : Operand)
    (ho : o.op = .call { callee := .builtin .append, args := #[s, x], argTypes := #[28, 28] }) (base : Nat) (v : Value) (xs : List Int) (hs : a.eval s = v) (hown : Go.Proofs.YteklahfgplbmcaaDoor.Cr.Own base w v xs)
    (vx : Value) (zs : List Int) (hx : a.eval x = vx) (hsrc : Src8 w vx zs) (hl : xs.length + zs.length ≤ 1000000) (hbase : base ≤ w.heap.size)
    (h : ∀ v' w', Go.Proofs.YteklahfgplbmcaaDoor.Cr.Own base w' v' (xs ++ zs) → w.grownBy w' v.ownBlock → K (a.put o.dst v') w') : if Region.wanted o (yielded ops a.tmps) = true then Oper.wp Tryd.prog o a w K Q else E := by
  have hw : Region.wanted o (yielded ops a.tmps) = true := by simp [Region.wanted, hgd]
  rw [if_pos hw]
  obtain ⟨i0, hi, hz0, hz1, hz2⟩ := info_parts info5'
  rcases hsrc with ⟨rfl, rfl⟩ | ⟨y, c, rfl, hc⟩
  · have hrun := run_append_owned_none (P := Tryd.prog) (w := w) base 28 o.type 5 i0 1 Tryd.underlying28 hi v xs.length (xs.map (Value.int .u8)) hown
    unfold Oper.wp
    simp [execOp, ho, resolve, invoke, builtin, hs, hx, hrun, Result.andThen]
    exact h v w (by rw [List.append_nil]; exact hown) (grown_refl _ _)
  · refine wp_append_own w s x 28 ho base 5 i0 (.int .u8 0) 1 1 Tryd.underlying28 hi hz0 hz1 hz2 rfl (by decide) v xs.length (xs.map (Value.int .u8)) hs hown y zs.length c (zs.map (Value.int .u8)) hx (by simp) hc (one8' _) (by unfold maxLen; omega) (by omega) hbase fun v' w' h1 h2 h3 => h v' w' ?_ h2
    unfold Go.Proofs.YteklahfgplbmcaaDoor.Cr.Own
    rw [List.length_append, List.map_append]
    exact h1
theorem conv_d {w : World} {v : Value} {zs : List Int} (h : Src8 w v zs) (n : Nat) : (convert 28 9 v).run Tryd.prog (w.drewN n) = .ok (.string (strOfNums zs)) (w.drewN n) := conv_src (h.below (Go.Proofs.YteklahfgplbmcaaDoor.Fx.drewN_belowL w n))
theorem kb_al {w : World} {B E R n : Nat} {I p : Int} {o : Obj} (x : Kb w B I p E R n) : Kb (w.alloc o) B I p E R n := x.below (al w o)
theorem kb_bel {w w' : World} {B E R n : Nat} {I p : Int} (x : Kb w B I p E R n) (hb : Bel w w') : Kb w' B I p E R n := x.below hb.b
theorem kb_4 {w : World} {B E R n : Nat} {I p : Int} (x : Kb w B I p E R n) : w.cell? ⟨B, 0, none⟩ = some (.int .i64 I) ∧ w.cell? ⟨B, 1, none⟩ = some (.int .i64 p) ∧ w.cell? ⟨B, 2, none⟩ = some (.slice (some ⟨E, 0, none⟩) n n) ∧ w.cell? ⟨B, 3, none⟩ = some (.slice (some ⟨R, 0, none⟩) n n) := ⟨x.1, x.2.1, x.2.2.1, x.2.2.2.1⟩
set_option maxRecDepth 100000 in
set_option maxHeartbeats 8000000 in
theorem good (a e at' : Int) (A1 : Option Addr) (l1 c1 : Nat) (z1 : List Int) (A2 : Option Addr) (l2 c2 : Nat) (z2 : List Int) (w : World) (hs : Sh w) (ha : (Lit.int .u8 a).wf = true) (he : (Lit.int .u16 e).wf = true)
    (hl1 : z1.length = l1) (r1 : R8 w (.slice A1 l1 c1) z1) (hz1 : ∀ x ∈ z1, 0 ≤ x ∧ x ≤ 255) (hl2 : z2.length = l2) (r2 : R8 w (.slice A2 l2 c2) z2) (hz2 : ∀ x ∈ z2, 0 ≤ x ∧ x ≤ 255) (hs1 : ¬ 10000 < (l1 : Int)) (hs2 : ¬ 10000 < (l2 : Int)) :
    Calls Tryd.prog 7 #[.int .u8 a, .int .u16 e, .slice A1 l1 c1, .slice A2 l2 c2, .int .i64 at'] w fun e w' => e = .returned (.bool true) ∧ True ∧ Below w.heap.size w w' := by
  obtain ⟨a0, a1⟩ := wf8 ha
  obtain ⟨b0, b1⟩ := wf16 he
  clear ha he
  obtain ⟨id, hid⟩ : ∃ id : Nat, a % 12 + 1 = (id : Int) := ⟨(a % 12 + 1).toNat, by omega⟩
  have hidb : 1 ≤ id ∧ id ≤ 12 := by omega
  obtain ⟨h1, h2⟩ := hidb
  obtain ⟨f1, f2, f3, f4, f5, f6, f7, f8, f9, f10, f11, f12, f13, f14⟩ := facts h1 h2
  have hord := ord_is h1 h2
  obtain ⟨n, hn⟩ : ∃ r : Nat, e % (Nn id : Int) = (r : Int) := ⟨(e % (Nn id : Int)).toNat, by have := Int.emod_nonneg e (show (Nn id : Int) ≠ 0 by omega); omega⟩
  have hnN : n < Nn id := by have := Int.emod_lt_of_pos e (show (0 : Int) < (Nn id : Int) by omega); omega
  have htn : Int.tmod e (Nn id : Int) = (n : Int) := by rw [Int.tmod_eq_emod_of_nonneg b0]; exact hn
  have HA := Lib.hid (fun w (h : Sh w) => alive_ok w h)
  have HGet : Hid (∀ w, Sh w → Calls Tryd.prog 15 #[.int .i64 id] w fun e w' => ∃ E R, e = .returned (.tuple #[.agg #[.int .i64 id, .int .i64 (pl id), .slice (some ⟨E, 0, none⟩) (Nn id) (Nn id), .slice (some ⟨R, 0, none⟩) (Nn id) (Nn id)], .int .i64 0]) ∧ w'.rowIs E 3 (Nn id) (fun j => .int .i64 (ordI id j)) ∧ w'.rowIs R 3 (Nn id) (fun j => .int .i64 (rkI id j)) ∧ Below w.heap.size w w') := Lib.hid fun w h => (get_ok id w h1 h2 h).mono fun e w' ⟨v, h1, ⟨E, R, h2, h3, h4, h5, h6⟩, h7⟩ => ⟨E, R, by rw [h1, h2], h5, h6, h7⟩
  have hrkn := (hord.rank hnN)
  have h19 := cd_19 h1 h2 (r := rk id n) hrkn.1
  obtain ⟨cz, hcz⟩ : ∃ cz, cd (pl id) (rk id n) = cz := ⟨_, rfl⟩
  have HC : Hid (∀ w E R, Sh w → w.rowIs E 3 (Nn id) (fun j => .int .i64 (ordI id j)) → w.rowIs R 3 (Nn id) (fun j => .int .i64 (rkI id j)) → Calls Tryd.prog 16 #[.agg #[.int .i64 id, .int .i64 (pl id), .slice (some ⟨E, 0, none⟩) (Nn id) (Nn id), .slice (some ⟨R, 0, none⟩) (Nn id) (Nn id)], .int .i64 n] w fun e w' => ∃ g cap, e = .returned (.tuple #[.slice (some ⟨g, 0, none⟩) cz.length cap, .int .i64 0]) ∧ Go.Proofs.YteklahfgplbmcaaDoor.Cr.Own w.heap.size w' (.slice (some ⟨g, 0, none⟩) cz.length cap) cz ∧ Below w.heap.size w w') := Lib.hid fun w E R h he hr => (code_ok id E R n w h1 h2 h hnN he hr).mono fun e w' ⟨v, h1, ⟨g, cap, h2, ho⟩, h3⟩ => ⟨g, cap, by rw [h1, h2, hcz], by rw [← hcz]; rw [h2] at ho; exact ho, h3⟩
  have hcb := cd_bits (pl id) (rk id n)
  rw [hcz] at hcb
  have hrd : readF (ord id) (pl id) (cz ++ z1) 0 = ((n : Int), (cz.length : Int), 0) := by
    rw [← hcz, read_code (ord id) (pl id) (rk id n) z1 (by rw [hord.length]; exact hrkn.1) h19.2]
    have : (ord id).getD (rk id n) 0 = n := by
      have := hrkn.2
      change (ord id)[rk id n]? = some n at this
      rw [List.getD_eq_getElem?_getD, this]; rfl
    rw [this]
  have hc19 : cz.length ≤ 19 := by rw [← hcz]; exact h19.1
  have HR1 : Hid (∀ w E R v, Sh w → w.rowIs E 3 (Nn id) (fun j => .int .i64 (ordI id j)) → w.rowIs R 3 (Nn id) (fun j => .int .i64 (rkI id j)) → R8 w v (cz ++ z1) → Calls Tryd.prog 17 #[.agg #[.int .i64 id, .int .i64 (pl id), .slice (some ⟨E, 0, none⟩) (Nn id) (Nn id), .slice (some ⟨R, 0, none⟩) (Nn id) (Nn id)], v, .int .i64 0] w fun e w' => e = .returned (.tuple #[.int .i64 n, .int .i64 cz.length, .int .i64 0]) ∧ Below w.heap.size w w') := Lib.hid fun w E R v h he hr h8 => by
    have := read_ok id E R v (cz ++ z1) 0 w h1 h2 h he hr h8 (fun x hx => by
      rcases List.mem_append.1 hx with hx | hx
      · rcases hcb x hx with h | h <;> omega
      · exact hz1 x hx) (by rw [List.length_append]; omega)
    rwa [hrd] at this
  have HR2 : Hid (∀ w E R, Sh w → w.rowIs E 3 (Nn id) (fun j => .int .i64 (ordI id j)) → w.rowIs R 3 (Nn id) (fun j => .int .i64 (rkI id j)) → R8 w (.slice A2 l2 c2) z2 → Calls Tryd.prog 17 #[.agg #[.int .i64 id, .int .i64 (pl id), .slice (some ⟨E, 0, none⟩) (Nn id) (Nn id), .slice (some ⟨R, 0, none⟩) (Nn id) (Nn id)], .slice A2 l2 c2, .int .i64 at'] w fun e w' => e = T3 (readF (ord id) (pl id) z2 at') ∧ Below w.heap.size w w') := Lib.hid fun w E R h he hr h8 => read_ok id E R _ z2 at' w h1 h2 h he hr h8 hz2 (by omega)
  have HS := Lib.hid hs
  have RR1 := Lib.hid r1
  have RR2 := Lib.hid r2
  have HCB := Lib.hid hcb
  have HL1 := Lib.hid hl1
  have hz1l : z1.length ≤ 10000 := by omega
  have HZ1 := Lib.hid hz1
  clear hs r1 hz1 f1 f2 f3 f4 f5 f9 f10 f11 f12 f13 f14 hcb hrd hrkn h19 hcz hl1
  obtain ⟨x, nx, er, hrf⟩ : ∃ x nx er, readF (ord id) (pl id) z2 at' = (x, nx, er) := ⟨_, _, _, rfl⟩
  by_cases her : er = 0
  · subst her
    obtain ⟨aa, s, r0, rfl, hal, hr0, hcd0, hrf2⟩ := read_back (ord id) (pl id) z2 at' (by rw [hrf])
    rw [hord.length] at hr0
    obtain ⟨n0, hn1, hn2, hn3⟩ := hord.at hr0
    have hrk0 : rk id n0 = r0 := hn3
    have hg0 : (ord id).getD r0 0 = n0 := by rw [List.getD_eq_getElem?_getD, hn1]; rfl
    rw [hg0] at hrf2
    rw [hrf2] at HR2
    simp only [T3, Int.natCast_add] at HR2
    have hs1' : 1 ≤ s := by
      have h1 := cd_pos (pl id) r0
      have h2 := congrArg List.length hcd0
      rw [drop_take_len hal] at h2
      omega
    have hs19 : s ≤ 19 := by
      have h1 := (cd_19 h1 h2 hr0).1
      have h2 := congrArg List.length hcd0
      rw [drop_take_len hal] at h2
      omega
    have HC2 : Hid (∀ w E R, Sh w → w.rowIs E 3 (Nn id) (fun j => .int .i64 (ordI id j)) → w.rowIs R 3 (Nn id) (fun j => .int .i64 (rkI id j)) → Calls Tryd.prog 16 #[.agg #[.int .i64 id, .int .i64 (pl id), .slice (some ⟨E, 0, none⟩) (Nn id) (Nn id), .slice (some ⟨R, 0, none⟩) (Nn id) (Nn id)], .int .i64 n0] w fun e w' => ∃ v, e = .returned (.tuple #[v, .int .i64 0]) ∧ Src8 w' v ((z2.drop aa).take s) ∧ Below w.heap.size w w') := Lib.hid fun w E R h he hr => (code_ok id E R n0 w h1 h2 h hn2 he hr).mono fun e w' ⟨v, h1, hc, h3⟩ => ⟨v, h1, by
      have := cv hc
      rwa [hrk0, ← hcd0] at this, h3⟩
    rcases r2 with ⟨_, rfl⟩ | ⟨b, off, c, heq, q2, q3, q4, q5⟩
    · simp at hal; omega
    simp only [Value.slice.injEq] at heq
    obtain ⟨rfl, hll, rfl⟩ := heq
    have HPc : Hid (∀ w', Below w.heap.size w w' → Src8 w' (.slice (some ⟨b, off + aa, none⟩) s (c2 - aa)) ((z2.drop aa).take s)) := Lib.hid fun w' hb => Src8.below (r8_piece hal q5) hb
    have hq2 : l2 ≤ c2 := by omega
    unfold maxLen at q3
    have hal2 : aa + s ≤ l2 := by omega
    generalize (z2.drop aa).take s = zp at *
    clear hrf hrf2 hr0 hcd0 hn1 hn3 hrk0 hg0 hal q5 q2 hz2 hl2
    subst hll
    go_enter Tryd.func7, Tryd.ntmps7
    go_upto_region 9 with first
      | (go_at_call 18; ((with_reducible refine (HA.out _ HS.out).mono ?_); rintro e w1 ⟨rfl, hb1⟩))
      | (go_at_call 15; ((with_reducible refine (HGet.out _ (HS.out.below hb1)).mono ?_); rintro e w2 ⟨E, R, rfl, hE, hR, hb2⟩; obtain ⟨p0, p1, p2, p3, p4⟩ := kb_new w2 (id : Int) (pl id) E R (Nn id); have h3 := Lib.hid (bT (bT hb1 hb2) (al w2 (.cells #[.int .i64 (id : Int), .int .i64 (pl id), .slice (some ⟨E, 0, none⟩) (Nn id) (Nn id), .slice (some ⟨R, 0, none⟩) (Nn id) (Nn id)] 24))); have k3 := Lib.hid (kb_new w2 (id : Int) (pl id) E R (Nn id)); have hE3 := Lib.hid (r_al (o := (.cells #[.int .i64 (id : Int), .int .i64 (pl id), .slice (some ⟨E, 0, none⟩) (Nn id) (Nn id), .slice (some ⟨R, 0, none⟩) (Nn id) (Nn id)] 24)) hE); have hR3 := Lib.hid (r_al (o := (.cells #[.int .i64 (id : Int), .int .i64 (pl id), .slice (some ⟨E, 0, none⟩) (Nn id) (Nn id), .slice (some ⟨R, 0, none⟩) (Nn id) (Nn id)] 24)) hR)))
      | (go_at_call 16; ((with_reducible refine (HC.out _ _ _ (HS.out.below h3.out) hE3.out hR3.out).mono ?_); rintro e w4 ⟨g4, cap4, rfl, ho4, hb4⟩; obtain ⟨r0, r1, r2, r3, r4⟩ := k3.out.below hb4; have h4 := Lib.hid (bT h3.out hb4)))
    clear p0 p1 p2 p3 p4 r0 r1 r2 r3 r4
    have E4 := Lib.hid (r_bel hE3.out ⟨hb4⟩)
    have R4 := Lib.hid (r_bel hR3.out ⟨hb4⟩)
    have K4 := Lib.hid (kb_bel k3.out ⟨hb4⟩)
    clear k3 hE3 hR3 h3 hE hR hb2
    generalize w2.heap.size = B at *
    clear hb4
    have Kd := Lib.hid (kb_bel K4.out ⟨(Below.refl _ w4).drew⟩)
    have hod := Lib.hid (Go.Proofs.YteklahfgplbmcaaDoor.Cr.Own.below ho4 (Below.refl _ w4).drew)
    have hoe : Hid (Go.Proofs.YteklahfgplbmcaaDoor.Cr.Own w4.heap.size ((w4.alloc (.cells #[] 5)).drew) (.slice (some ⟨w4.heap.size, 0, none⟩) 0 0) []) := Lib.hid (Go.Proofs.YteklahfgplbmcaaDoor.Cr.Own.below (World.ownsRow_made w4 #[] 0 (Nat.le_refl _) (Nat.zero_le _) rfl) (Below.refl _ (w4.alloc (.cells #[] 5))).drew)
    have hba : Below w4.heap.size w4 ((w4.alloc (.cells #[] 5)).drew) := ((Below.refl _ w4).alloc (Nat.le_refl _) _).drew
    have Kda := Lib.hid (kb_bel K4.out ⟨hba⟩)
    have HOS := Lib.hid (own_src (Go.Proofs.YteklahfgplbmcaaDoor.Cr.Own.below ho4 hba))
    have HB := Lib.hid hba
    have hsz := Lib.hid hba.size
    clear ho4 hba
    go_region_held3 (fun w' => w'.cell? ⟨B, 0, none⟩ = some (.int .i64 (id : Int)) ∧ w'.cell? ⟨B, 1, none⟩ = some (.int .i64 (pl id)) ∧ w'.cell? ⟨B, 2, none⟩ = some (.slice (some ⟨E, 0, none⟩) (Nn id) (Nn id)) ∧ w'.cell? ⟨B, 3, none⟩ = some (.slice (some ⟨R, 0, none⟩) (Nn id) (Nn id)))
      (first
        | with_reducible exact kb_4 Kd.out
        | with_reducible exact kb_4 Kda.out
        | with_reducible exact kb_4 K6.out
        | with_reducible exact kb_4 K7.out
        | with_reducible exact kb_4 K8.out)
      (first
        | (refine step_append_src _ rfl (.tmp 63) (.tmp 64) rfl w4.heap.size _ [] rfl hoe.out _ cz rfl HOS.out (by simp; omega) hsz.out ?_; intro v6 w6 ho6 hg6; have hb6 := Lib.hid (Go.Proofs.YteklahfgplbmcaaDoor.Cr.below_grown HB.out hoe.out (Nat.le_refl _) hg6); have K6 := Lib.hid (kb_bel K4.out ⟨hb6.out⟩))
        | (refine step_append_src _ rfl (.tmp 65) (.tmp 66) rfl w4.heap.size _ _ rfl ho6 _ z1 rfl (r8_src (RR1.out.below (bT h4.out hb6.out))) (by simp; omega) hb6.out.size ?_; intro v7 w7 ho7 hg7; have b7 := Lib.hid (Go.Proofs.YteklahfgplbmcaaDoor.Cr.below_grown hb6.out ho6 (Nat.le_refl _) hg7); have h7 := Lib.hid (bT h4.out b7.out); have K7 := Lib.hid (kb_bel K4.out ⟨b7.out⟩))
        | (go_at_call 17; ((with_reducible refine (HR1.out _ _ _ _ (HS.out.below h7.out) (r_bel E4.out ⟨b7.out⟩) (r_bel R4.out ⟨b7.out⟩) (own_r8 ho7)).mono ?_); rintro e w8 ⟨rfl, hb8⟩; have h8 := Lib.hid (bT h7.out hb8); have b8 := Lib.hid (bT b7.out hb8); have K8 := Lib.hid (kb_bel K4.out ⟨b8.out⟩))))
    obtain ⟨u0, u1, u2, u3⟩ := kb_4 K8.out
    have h19n : ¬ (19 : Int) < (cz.length : Int) := by omega
    go_upto_region 16 with first
      | (go_at_call 17; ((with_reducible refine (HR2.out _ _ _ (HS.out.below h8.out) (r_bel E4.out ⟨b8.out⟩) (r_bel R4.out ⟨b8.out⟩) (RR2.out.below h8.out)).mono ?_); rintro e w9 ⟨rfl, hb9⟩; have h9 := Lib.hid (bT h8.out hb9); have b9 := Lib.hid (bT b8.out hb9); obtain ⟨t0, t1, t2, t3⟩ := kb_4 (kb_bel K4.out ⟨b9.out⟩)))
      | (go_at_call 16; ((with_reducible refine (HC2.out _ _ _ (HS.out.below h9.out) (r_bel E4.out ⟨b9.out⟩) (r_bel R4.out ⟨b9.out⟩)).mono ?_); rintro e w10 ⟨vc, rfl, hcv, hb10⟩; have h10 := Lib.hid (bT h9.out hb10)))
    have q3 := conv_d hcv
    have q4 := conv_d (HPc.out _ h10.out)
    have g1 : (aa : Int) + (s : Int) ≤ (c2 : Int) := by omega
    have g2 : (aa : Int) ≤ (c2 : Int) := by omega
    have g3 : ¬ c2 = aa := by omega
    have g4 : (aa : Int) ≤ (aa : Int) + (s : Int) := by omega
    have g5 : aa ≤ c2 := by omega
    have g6 : aa + s ≤ c2 := by omega
    have hd := Lib.hid (Go.Proofs.YteklahfgplbmcaaDoor.Fx.drewN_belowL w10)
    go_quiet (fail)
    go_wp2
    go_ret
    exact ⟨rfl, trivial, bT h10.out (hd.out _)⟩
  · have hrb := readF_bad (E := ord id) (p := pl id) (z := z2) (A := at') (by rw [hrf]; exact her)
    rw [hrf] at hrb
    simp only [Prod.mk.injEq] at hrb
    obtain ⟨rfl, rfl, _⟩ := hrb
    rw [hrf] at HR2
    simp only [T3] at HR2
    have hee : (er == 0) = false := by simp [her]
    have hen : (er != 0) = true := by simp [her]
    clear hrf r2 hz2 hl2
    go_enter Tryd.func7, Tryd.ntmps7
    go_upto_region 9 with first
      | (go_at_call 18; ((with_reducible refine (HA.out _ HS.out).mono ?_); rintro e w1 ⟨rfl, hb1⟩))
      | (go_at_call 15; ((with_reducible refine (HGet.out _ (HS.out.below hb1)).mono ?_); rintro e w2 ⟨E, R, rfl, hE, hR, hb2⟩; obtain ⟨p0, p1, p2, p3, p4⟩ := kb_new w2 (id : Int) (pl id) E R (Nn id); have h3 := Lib.hid (bT (bT hb1 hb2) (al w2 (.cells #[.int .i64 (id : Int), .int .i64 (pl id), .slice (some ⟨E, 0, none⟩) (Nn id) (Nn id), .slice (some ⟨R, 0, none⟩) (Nn id) (Nn id)] 24))); have k3 := Lib.hid (kb_new w2 (id : Int) (pl id) E R (Nn id)); have hE3 := Lib.hid (r_al (o := (.cells #[.int .i64 (id : Int), .int .i64 (pl id), .slice (some ⟨E, 0, none⟩) (Nn id) (Nn id), .slice (some ⟨R, 0, none⟩) (Nn id) (Nn id)] 24)) hE); have hR3 := Lib.hid (r_al (o := (.cells #[.int .i64 (id : Int), .int .i64 (pl id), .slice (some ⟨E, 0, none⟩) (Nn id) (Nn id), .slice (some ⟨R, 0, none⟩) (Nn id) (Nn id)] 24)) hR)))
      | (go_at_call 16; ((with_reducible refine (HC.out _ _ _ (HS.out.below h3.out) hE3.out hR3.out).mono ?_); rintro e w4 ⟨g4, cap4, rfl, ho4, hb4⟩; obtain ⟨r0, r1, r2, r3, r4⟩ := k3.out.below hb4; have h4 := Lib.hid (bT h3.out hb4)))
    clear p0 p1 p2 p3 p4 r0 r1 r2 r3 r4
    have E4 := Lib.hid (r_bel hE3.out ⟨hb4⟩)
    have R4 := Lib.hid (r_bel hR3.out ⟨hb4⟩)
    have K4 := Lib.hid (kb_bel k3.out ⟨hb4⟩)
    clear k3 hE3 hR3 h3 hE hR hb2
    generalize w2.heap.size = B at *
    clear hb4
    have Kd := Lib.hid (kb_bel K4.out ⟨(Below.refl _ w4).drew⟩)
    have hod := Lib.hid (Go.Proofs.YteklahfgplbmcaaDoor.Cr.Own.below ho4 (Below.refl _ w4).drew)
    have hoe : Hid (Go.Proofs.YteklahfgplbmcaaDoor.Cr.Own w4.heap.size ((w4.alloc (.cells #[] 5)).drew) (.slice (some ⟨w4.heap.size, 0, none⟩) 0 0) []) := Lib.hid (Go.Proofs.YteklahfgplbmcaaDoor.Cr.Own.below (World.ownsRow_made w4 #[] 0 (Nat.le_refl _) (Nat.zero_le _) rfl) (Below.refl _ (w4.alloc (.cells #[] 5))).drew)
    have hba : Below w4.heap.size w4 ((w4.alloc (.cells #[] 5)).drew) := ((Below.refl _ w4).alloc (Nat.le_refl _) _).drew
    have Kda := Lib.hid (kb_bel K4.out ⟨hba⟩)
    have HOS := Lib.hid (own_src (Go.Proofs.YteklahfgplbmcaaDoor.Cr.Own.below ho4 hba))
    have HB := Lib.hid hba
    have hsz := Lib.hid hba.size
    clear ho4 hba
    go_region_held3 (fun w' => w'.cell? ⟨B, 0, none⟩ = some (.int .i64 (id : Int)) ∧ w'.cell? ⟨B, 1, none⟩ = some (.int .i64 (pl id)) ∧ w'.cell? ⟨B, 2, none⟩ = some (.slice (some ⟨E, 0, none⟩) (Nn id) (Nn id)) ∧ w'.cell? ⟨B, 3, none⟩ = some (.slice (some ⟨R, 0, none⟩) (Nn id) (Nn id)))
      (first
        | with_reducible exact kb_4 Kd.out
        | with_reducible exact kb_4 Kda.out
        | with_reducible exact kb_4 K6.out
        | with_reducible exact kb_4 K7.out
        | with_reducible exact kb_4 K8.out)
      (first
        | (refine step_append_src _ rfl (.tmp 63) (.tmp 64) rfl w4.heap.size _ [] rfl hoe.out _ cz rfl HOS.out (by simp; omega) hsz.out ?_; intro v6 w6 ho6 hg6; have hb6 := Lib.hid (Go.Proofs.YteklahfgplbmcaaDoor.Cr.below_grown HB.out hoe.out (Nat.le_refl _) hg6); have K6 := Lib.hid (kb_bel K4.out ⟨hb6.out⟩))
        | (refine step_append_src _ rfl (.tmp 65) (.tmp 66) rfl w4.heap.size _ _ rfl ho6 _ z1 rfl (r8_src (RR1.out.below (bT h4.out hb6.out))) (by simp; omega) hb6.out.size ?_; intro v7 w7 ho7 hg7; have b7 := Lib.hid (Go.Proofs.YteklahfgplbmcaaDoor.Cr.below_grown hb6.out ho6 (Nat.le_refl _) hg7); have h7 := Lib.hid (bT h4.out b7.out); have K7 := Lib.hid (kb_bel K4.out ⟨b7.out⟩))
        | (go_at_call 17; ((with_reducible refine (HR1.out _ _ _ _ (HS.out.below h7.out) (r_bel E4.out ⟨b7.out⟩) (r_bel R4.out ⟨b7.out⟩) (own_r8 ho7)).mono ?_); rintro e w8 ⟨rfl, hb8⟩; have h8 := Lib.hid (bT h7.out hb8); have b8 := Lib.hid (bT b7.out hb8); have K8 := Lib.hid (kb_bel K4.out ⟨b8.out⟩))))
    obtain ⟨u0, u1, u2, u3⟩ := kb_4 K8.out
    have h19n : ¬ (19 : Int) < (cz.length : Int) := by omega
    go_wp2_with first
      | (go_at_call 17; ((with_reducible refine (HR2.out _ _ _ (HS.out.below h8.out) (r_bel E4.out ⟨b8.out⟩) (r_bel R4.out ⟨b8.out⟩) (RR2.out.below h8.out)).mono ?_); rintro e w9 ⟨rfl, hb9⟩))
    go_ret
    exact ⟨rfl, trivial, bT h8.out hb9⟩
theorem long (a e at' : Int) (A1 : Option Addr) (l1 c1 : Nat) (A2 : Option Addr) (l2 c2 : Nat) (w : World) (hs : Sh w) (h : 10000 < (l1 : Int) ∨ 10000 < (l2 : Int)) :
    Calls Tryd.prog 7 #[.int .u8 a, .int .u16 e, .slice A1 l1 c1, .slice A2 l2 c2, .int .i64 at'] w fun e w' => e = .returned (.bool true) ∧ True ∧ Below w.heap.size w w' := by
  have HA := Lib.hid (fun w (h : Sh w) => alive_ok w h)
  have HS := Lib.hid hs
  clear hs
  by_cases h1 : 10000 < (l1 : Int)
  · clear h
    go_enter Tryd.func7, Tryd.ntmps7
    go_wp2_with first
      | (go_at_call 18; ((with_reducible refine (HA.out _ HS.out).mono ?_); rintro e w1 ⟨rfl, hb1⟩))
    go_ret
    exact ⟨rfl, trivial, hb1⟩
  · have h2 : 10000 < (l2 : Int) := h.resolve_left h1
    clear h
    go_enter Tryd.func7, Tryd.ntmps7
    go_wp2_with first
      | (go_at_call 18; ((with_reducible refine (HA.out _ HS.out).mono ?_); rintro e w1 ⟨rfl, hb1⟩))
    go_ret
    exact ⟨rfl, trivial, hb1⟩
theorem main (a e : Int) (A1 : Option Addr) (l1 c1 : Nat) (z1 : List Int) (A2 : Option Addr) (l2 c2 : Nat) (z2 : List Int) (at' : Int) (w : World) (hs : Sh w) (ha : (Lit.int .u8 a).wf = true) (he : (Lit.int .u16 e).wf = true)
    (hz1 : Go.Proofs.YteklahfgplbmcaaDoor.Cr.IsRow .u8 w A1 l1 c1 z1) (hz2 : Go.Proofs.YteklahfgplbmcaaDoor.Cr.IsRow .u8 w A2 l2 c2 z2) :
    Calls Tryd.prog 7 #[.int .u8 a, .int .u16 e, .slice A1 l1 c1, .slice A2 l2 c2, .int .i64 at'] w fun e w' => e = .returned (.bool true) ∧ True ∧ Below w.heap.size w w' := by
  by_cases h : 10000 < (l1 : Int) ∨ 10000 < (l2 : Int)
  · exact long a e at' A1 l1 c1 A2 l2 c2 w hs h
  · obtain ⟨x1, k1, r1, b1⟩ := isrow8 hz1
    obtain ⟨x2, k2, r2, b2⟩ := isrow8 hz2
    exact good a e at' A1 l1 c1 x1 A2 l2 c2 x2 w hs ha he k1 r1 b1 k2 r2 b2 (fun g => h (.inl g)) (fun g => h (.inr g))
end Go.Proofs.YteklahfgplbmcaaDoor.BkPx
