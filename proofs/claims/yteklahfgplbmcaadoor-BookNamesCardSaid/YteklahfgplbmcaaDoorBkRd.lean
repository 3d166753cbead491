/- Bits that are read, whatever they are. -/
import Derived.Test.YteklahfgplbmcaaDoorBkGen
import Derived.Test.YteklahfgplbmcaaDoorBiGet
import Derived.Test.YteklahfgplbmcaaDoorBiSrc
import Derived.WalkKit
import Derived.Below
import Derived.RegionTactic
import Derived.Deep.QuietTactic
import Derived.BigQuiet
import Derived.ChangeAlike
import Derived.Deep.OwnRows
import Derived.Deep.RegionHeld3
import Derived.ProofKit
import Derived.OpenShut
import Derived.Laws.EntriesVeiled
import Derived.Lib.Hide
namespace Go.Proofs.YteklahfgplbmcaaDoor.Bk
open Go Go.ChangeShapes Go.WideShapes Go.ChangeAt Go.RowKit Go.Proofs.YteklahfgplbmcaaDoor.Bi Go.Proofs.YteklahfgplbmcaaDoor.Cr Go.Proofs.YteklahfgplbmcaaDoor.Fx

/-- Bits as they lie in memory. -/
def R8 (w : World) (v : Value) (z : List Int) : Prop := ((v = .slice none 0 0 ∨ ∃ x c, v = .slice (some x) 0 c ∧ c ≤ maxLen) ∧ z = []) ∨ ∃ b off c, v = .slice (some ⟨b, off, none⟩) z.length c ∧ z.length ≤ c ∧ c ≤ maxLen ∧ b < w.heap.size ∧ ∀ i, i < z.length → w.cell? ⟨b, off + i, none⟩ = some (.int .u8 (z.getD i 0))
theorem R8.below {w w' : World} {v : Value} {z : List Int} (h : R8 w v z) (hb : Below w.heap.size w w') : R8 w' v z := by
  rcases h with h | ⟨b, off, c, h1, h2, h3, h4, h5⟩
  · exact .inl h
  · exact .inr ⟨b, off, c, h1, h2, h3, Nat.lt_of_lt_of_le h4 hb.size, fun i hi => (hb.cell (p := ⟨b, off + i, none⟩) h4).trans (h5 i hi)⟩
def T3 (x : Int × Int × Int) : Ending := .returned (.tuple #[.int .i64 x.1, .int .i64 x.2.1, .int .i64 x.2.2])
theorem get_zero_x (x : Addr) (c : Nat) (hc : c ≤ maxLen) (w : World) :
    Calls Tryd.prog 53 #[.slice (some x) 0 c, .int .i64 0, .int .i64 0] w fun e w' => e = .returned (.tuple #[.int .i64 0, .int .i64 0, .int .i64 0]) ∧ w = w' := by
  unfold maxLen at hc
  by_cases hne : c = 0
  all_goals
    go_enter Tryd.func53, Tryd.ntmps53
    go_wp2
    go_loop [6, 10, 40] (fun m _ i => i = .int .i64 0 ∧ m = .int .i64 0) (fun _ _ _ => 0)
    case atStart => exact ⟨rfl, rfl⟩
    case round =>
      obtain ⟨rfl, rfl⟩ := hrel
      go_wp2
      go_ret3
      exact ⟨rfl, rfl⟩
theorem get_all (v : Value) (z : List Int) (A : Int) (s : Nat) (w : World) (hr : R8 w v z) (hz : ∀ x ∈ z, 0 ≤ x ∧ x ≤ 255) (hl : z.length ≤ 20000) (s1 : s ≤ 31) :
    Calls Tryd.prog 53 #[v, .int .i64 A, .int .i64 s] w fun e w' => e = T3 (getF z A s) ∧ w = w' := by
  obtain ⟨a0, c0, hv, hc0, hcm⟩ : ∃ a0 c0, v = .slice a0 z.length c0 ∧ z.length ≤ c0 ∧ c0 ≤ maxLen := by
    rcases hr with ⟨rfl | ⟨x, c, rfl, hc⟩, rfl⟩ | ⟨b, off, c, rfl, h2, h3, _⟩
    · exact ⟨none, 0, rfl, Nat.le_refl _, by unfold maxLen; omega⟩
    · exact ⟨some x, c, rfl, Nat.zero_le _, hc⟩
    · exact ⟨_, c, rfl, h2, h3⟩
  by_cases h1 : A < 0 ∨ (z.length : Int) < A
  · subst hv
    have e : getF z A s = (0, 0, 2) := by unfold getF; rw [if_pos h1]
    rw [e]
    exact get_arg a0 z.length c0 A s w (by omega) (by omega)
  by_cases h2 : (z.length : Int) - A < s
  · subst hv
    have e : getF z A s = (0, 0, 5) := by unfold getF; rw [if_neg h1, if_pos h2]
    rw [e]
    exact get_end a0 z.length c0 A s w (by omega) (by omega) (by omega) (by omega) (by omega) h2
  obtain ⟨a, rfl⟩ : ∃ a : Nat, A = (a : Int) := ⟨A.toNat, by omega⟩
  have e : getF z a s = if bok ((z.drop a).take s) then (num ((z.drop a).take s), (a : Int) + s, 0) else (0, 0, 8) := by
    unfold getF; rw [if_neg h1, if_neg h2]; simp
  rcases hr with ⟨hv2, rfl⟩ | ⟨b, off, c, rfl, h3, h4, h5, h6⟩
  · have ha : a = 0 := by simp at h1; omega
    subst ha
    have hs0 : s = 0 := by simp at h2; omega
    subst hs0
    rw [e]
    rcases hv2 with rfl | ⟨x, c, rfl, hc⟩
    · exact get_nil w
    · exact get_zero_x x c hc w
  · by_cases hs0 : s = 0
    · subst hs0
      rw [e]
      have := get_zero b off z.length c a w (by omega) h3 (by omega)
      refine this.mono fun _ _ h => ⟨?_, h.2⟩
      rw [h.1]
      simp [T3, bok, num]
    · have := get_room b off z.length c a s ((z.drop a).take s) w (by omega) h3 s1 (by omega) (by omega) (drop_take_len (by omega)) h5 (fun x hx => hz x (List.mem_of_mem_drop (List.mem_of_mem_take hx))) (fun i hi => by
        have := h6 (a + i) (by omega)
        rw [show off + a + i = off + (a + i) by omega, this]
        simp [List.getD_eq_getElem?_getD, List.getElem?_take, hi, List.getElem?_drop])
      refine this.mono fun _ _ h => ⟨?_, h.2⟩
      rw [e]
      rcases h.1 with ⟨h7, h8⟩ | ⟨h7, h8⟩
      · rw [h8, if_pos ((bok_iff _).2 h7)]; rfl
      · rw [h8, if_neg (fun h => h7 ((bok_iff _).1 h))]; rfl
set_option maxRecDepth 100000 in
set_option maxHeartbeats 4000000 in
theorem zeros_ok (v : Value) (z : List Int) (A : Int) (w : World) (hr : R8 w v z) (hz : ∀ x ∈ z, 0 ≤ x ∧ x ≤ 255) (hl : z.length ≤ 20000) :
    Calls Tryd.prog 52 #[v, .int .i64 A] w fun e w' => e = T3 (zerosF z 10 0 A) ∧ w = w' := by
  have HG : Hid (∀ B, Calls Tryd.prog 53 #[v, .int .i64 B, .int .i64 1] w fun e w' => e = .returned (.tuple #[.int .i64 (getF z B 1).1, .int .i64 (getF z B 1).2.1, .int .i64 (getF z B 1).2.2]) ∧ w = w') := Lib.hid fun B => get_all v z B 1 w hr hz hl (by omega)
  have HF : Hid (∀ (f m : Nat) (B : Int), zerosF z (f + 1) m B = if (getF z B 1).2.2 ≠ 0 then (0, 0, (getF z B 1).2.2) else if (getF z B 1).1 = 1 then ((m : Int), (getF z B 1).2.1, 0) else zerosF z f (m + 1) (getF z B 1).2.1) := Lib.hid fun f m B => rfl
  have H0 : Hid (∀ m B, zerosF z 0 m B = (0, 0, 8)) := Lib.hid fun m B => rfl
  obtain ⟨r, hr0⟩ : ∃ r, zerosF z 10 0 A = r := ⟨_, rfl⟩
  rw [hr0]
  have HR0 := Lib.hid hr0
  clear hr0 hr
  go_enter Tryd.func52, Tryd.ntmps52
  go_wp2
  go_loop [1, 4] (fun at_ zs => ∃ (m : Nat) (B : Int), m ≤ 10 ∧ zs = .int .i64 m ∧ at_ = .int .i64 B ∧ Hid (zerosF z (10 - m) m B = r)) (fun _ zs => 10 - (intOf zs).toNat)
  case atStart => exact ⟨0, A, by omega, rfl, rfl, HR0⟩
  case round =>
    obtain ⟨m, B, hm, rfl, rfl, hF⟩ := hrel
    by_cases hlt : m ≤ 9
    · have hF2 := hF.out
      rw [show 10 - m = (10 - (m + 1)) + 1 by omega, HF.out] at hF2
      obtain ⟨bit, nx, er, hg⟩ : ∃ bit nx er, getF z B 1 = (bit, nx, er) := ⟨_, _, _, rfl⟩
      have HGB := Lib.hid (HG.out B)
      rw [hg] at hF2 HGB
      by_cases he : er = 0
      · subst he
        rw [if_neg (by simp)] at hF2
        by_cases hb : bit = 1
        · subst hb
          rw [if_pos rfl] at hF2
          have HF2 := Lib.hid hF2
          clear hF2 hF HG HF H0 hg HR0
          go_wp2_with (go_at_call 53; ((with_reducible refine (HGB.out).mono ?_); rintro e w1 ⟨rfl, rfl⟩))
          go_ret3
          exact ⟨by rw [← HF2.out]; rfl, rfl⟩
        · rw [if_neg hb] at hF2
          have HF2 := Lib.hid hF2
          have hbe : (bit == 1) = false := by simp [hb]
          clear hF2 hF HG HF H0 hg HR0
          go_wp2_with (go_at_call 53; ((with_reducible refine (HGB.out).mono ?_); rintro e w1 ⟨rfl, rfl⟩))
          go_round
          case rel => exact ⟨m + 1, nx, by omega, by go_num, rfl, HF2⟩
          case measure => simp [intOf]; omega
      · rw [if_pos he] at hF2
        have HF2 := Lib.hid hF2
        have hee : (er == 0) = false := by simp [he]
        clear hF2 hF HG HF H0 hg HR0
        go_wp2_with (go_at_call 53; ((with_reducible refine (HGB.out).mono ?_); rintro e w1 ⟨rfl, rfl⟩))
        go_ret3
        exact ⟨by rw [← HF2.out]; rfl, rfl⟩
    · have hend : m = 10 := by omega
      subst hend
      have hF2 := hF.out
      rw [Nat.sub_self, H0.out] at hF2
      have HF2 := Lib.hid hF2
      clear hF2 hF HG HF H0 HR0
      go_wp2
      go_ret3
      exact ⟨by rw [← HF2.out]; rfl, rfl⟩
theorem wf8' {s : Int} (h : (Lit.int .u8 s).wf = true) : 0 ≤ s ∧ s ≤ 255 := by
  simp [Lit.wf] at h
  have e : IntKind.u8.min = 0 := rfl
  have e2 : IntKind.u8.max = 255 := rfl
  omega
theorem isrow8 {w : World} {a : Option Addr} {len cap : Nat} {zs : List Int} (h : Go.Proofs.YteklahfgplbmcaaDoor.Cr.IsRow .u8 w a len cap zs) : ∃ xs : List Int, xs.length = len ∧ R8 w (.slice a len cap) xs ∧ ∀ n ∈ xs, 0 ≤ n ∧ n ≤ 255 := by
  rcases h with ⟨rfl, rfl, rfl, rfl⟩ | ⟨x, rfl, hl, hm, hz, hc, hwf⟩
  · exact ⟨[], rfl, .inl ⟨.inl rfl, rfl⟩, fun n h => by cases h⟩
  · have hlen : (zs.take len).length = len := by simp; omega
    refine ⟨zs.take len, hlen, ?_, fun n h => wf8' (hwf n (List.mem_of_mem_take h))⟩
    by_cases h0 : len = 0
    · subst h0; exact .inl ⟨.inr ⟨x, cap, rfl, hm⟩, by simp⟩
    · obtain ⟨b, off, rfl, hc'⟩ := ints_at hc (by omega)
      refine .inr ⟨b, off, cap, by rw [hlen], by omega, hm, Go.Proofs.YteklahfgplbmcaaDoor.Cr.lt_of_cell (hc' 0 (by omega)), fun i hi => ?_⟩
      rw [hlen] at hi
      rw [hc' i (by omega)]
      simp [hi]
theorem addc (b o i : Nat) : (⟨b, o, none⟩ : Addr).add i = ⟨b, o + i, none⟩ := by simp [Addr.add]
/-- A piece of bits. -/
theorem r8_piece {w : World} {b off c : Nat} {z : List Int} {a s : Nat} (h : a + s ≤ z.length) (hc : ∀ i, i < z.length → w.cell? ⟨b, off + i, none⟩ = some (.int .u8 (z.getD i 0))) : Src8 w (.slice (some ⟨b, off + a, none⟩) s c) ((z.drop a).take s) := by
  have hl : ((z.drop a).take s).length = s := drop_take_len h
  refine .inr ⟨⟨b, off + a, none⟩, c, by rw [hl], fun j u hu => ?_⟩
  rw [List.getElem?_map] at hu
  by_cases hj : j < s
  · rw [List.getElem?_take, if_pos hj, List.getElem?_drop, List.getElem?_eq_getElem (by omega)] at hu
    rw [addc, show off + a + j = off + (a + j) by omega, hc (a + j) (by omega)]
    rw [List.getD_eq_getElem?_getD, List.getElem?_eq_getElem (by omega)]
    simpa using hu
  · rw [List.getElem?_eq_none (by omega)] at hu; simp at hu
theorem r8_src {w : World} {v : Value} {z : List Int} (h : R8 w v z) : Src8 w v z := by
  rcases h with ⟨rfl | ⟨x, c, rfl, hc⟩, rfl⟩ | ⟨b, off, c, rfl, h2, h3, h4, h5⟩
  · exact .inl ⟨rfl, rfl⟩
  · exact .inr ⟨x, c, rfl, fun j u hu => by simp at hu⟩
  · have := r8_piece (c := c) (a := 0) (s := z.length) (by omega) h5
    simpa using this
end Go.Proofs.YteklahfgplbmcaaDoor.Bk
