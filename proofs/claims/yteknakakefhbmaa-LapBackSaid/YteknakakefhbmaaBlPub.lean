/- What block answers to whatever it is asked. -/
import Derived.Test.YteknakakefhbmaaBlSm
import Derived.WalkKit
import Derived.Below
import Derived.RegionTactic
import Derived.Deep.QuietTactic
import Derived.BigQuiet
import Derived.ChangeAlike
import Derived.Deep.OwnRows
import Derived.Deep.RegionLaw
import Derived.ProofKit
import Derived.OpenShut
import Derived.ChangeSlices
import Derived.Lib.Hide
namespace Go.Proofs.Yteknakakefhbmaa.Bl
open Go Go.ChangeShapes Go.WideShapes Go.ChangeAt Go.RowKit Go.Proofs.Yteknakakefhbmaa.Fx Go.Proofs.Yteknakakefhbmaa.Rk Go.Proofs.Yteknakakefhbmaa.Mm Go.Proofs.Yteknakakefhbmaa.Md

/-- May a sequence, and shapes, be? -/
def May (seq was shape : Int) : Prop := seq ≤ 3 ∧ was ≤ 1 ∧ shape ≤ 1
instance (seq was shape : Int) : Decidable (May seq was shape) := by unfold May; infer_instance
instance (lo hi : Int) (zs : List Int) : Decidable (InR lo hi zs) := by unfold InR; infer_instance
def wO (seq was shape : Int) : List Int × Int := if seq = 2 ∨ ¬ May seq was shape then ([], 2) else (wv seq was shape, 0)
def aO (seq was shape : Int) (pcm : List Int) : List Int × Int :=
  if ¬ May seq was shape then ([], 2) else if pcm.length ≠ 512 then ([], 4) else if ¬ InR (-32768) 32767 pcm then ([], 2) else (if seq = 2 then anT was shape pcm 8 else anL seq was shape pcm, 0)
def sO (seq was shape : Int) (lines : List Int) : List Int × Int :=
  if ¬ May seq was shape then ([], 2) else if lines.length ≠ 256 then ([], 4) else if ¬ InR (-268435455) 268435455 lines then ([], 2) else (mk 512 (if seq = 2 then syT was shape lines 8 else lyT seq was shape lines 1), 0)
theorem may_in {seq was shape : Int} (h : May seq was shape) (s0 : 0 ≤ seq) (w0 : 0 ≤ was) (h0 : 0 ≤ shape) : (seq = 2 ∨ seq = 0 ∨ seq = 1 ∨ seq = 3) ∧ (was = 0 ∨ was = 1) ∧ (shape = 0 ∨ shape = 1) := by
  obtain ⟨a, b, c⟩ := h
  refine ⟨by omega, by omega, by omega⟩
theorem own_row {base : Nat} {w : World} {g n : Nat} {f : Nat → Int} (r : w.rowIs g 3 n (fun j => .int .i64 (f j))) (hb : base ≤ g) (hm : n ≤ maxLen) : Fx.Own base w (.slice (some ⟨g, 0, none⟩) n n) (mk n f) := by
  obtain ⟨cur, h1, h2, h3⟩ := r
  refine ⟨by simp [mk_len], .inr ⟨g, n, cur, by rw [mk_len], hb, h1, by rw [mk_len]; exact Nat.le_refl _, hm, by omega, ?_⟩⟩
  apply List.ext_getElem?
  intro i
  rw [List.getElem?_take]
  simp only [mk_len, Nat.mul_one]
  by_cases hi : i < n
  · rw [if_pos hi]
    have := h3 i hi
    simp [mk, hi]
    simpa using this
  · rw [if_neg hi]
    simp [mk, hi]
theorem mk_getD {L : List Int} {n : Nat} (h : L.length = n) : mk n (fun j => L.getD j 0) = L := by
  subst h
  apply List.ext_getElem?
  intro i
  by_cases hi : i < L.length
  · simp [mk, hi]
  · simp [mk, hi]
theorem ans_ok {w w' : World} {v : Value} {L : List Int} {c : Int} {p : List Int × Int} (h : p = (L, c)) (ho : Fx.Own w.heap.size w' v L) (hb : Below w.heap.size w w') : ∃ v', (Ending.returned (.tuple #[v, .int .i64 c])) = .returned (.tuple #[v', .int .i64 p.2]) ∧ Fx.Own w.heap.size w' v' p.1 ∧ Below w.heap.size w w' := by
  subst h
  exact ⟨v, rfl, ho, hb⟩
def Ans (p : List Int × Int) (w : World) (e : Ending) (w' : World) : Prop := ∃ v, e = .returned (.tuple #[v, .int .i64 p.2]) ∧ Fx.Own w.heap.size w' v p.1 ∧ Below w.heap.size w w'

/-! ### Window -/
theorem window_O (seq was shape : Int) (w : World) (s0 : 0 ≤ seq) (w0 : 0 ≤ was) (h0 : 0 ≤ shape) : Calls Try.prog 13 #[.int .u8 seq, .int .u8 was, .int .u8 shape] w (Ans (wO seq was shape) w) := by
  by_cases h2 : seq = 2
  · have hO : wO seq was shape = ([], 2) := if_pos (.inl h2)
    subst h2
    have HO := Lib.hid hO
    clear hO
    go_enter Try.func13, Try.ntmps13
    go_wp2
    go_ret2
    exact ans_ok HO.out (own_nil _ _) (Below.refl _ _)
  · have hne : (seq == 2) = false := by simpa using h2
    by_cases hM : May seq was shape
    · have HO := Lib.hid (show wO seq was shape = (wv seq was shape, 0) from if_neg (by rintro (h | h); exact h2 h; exact h hM))
      have HM := Lib.hid (fun W => may_ok seq was shape W true (by symm; exact decide_eq_true hM))
      obtain ⟨a, b, c⟩ := may_in hM s0 w0 h0
      have HL := Lib.hid (fun W => long_ok seq was shape W (by omega) b c)
      clear hM a b c h2
      go_enter Try.func13, Try.ntmps13
      go_wp2_with first
        | (go_at_call 31; ((with_reducible refine (HM.out _).mono ?_); rintro e w1 ⟨rfl, rfl⟩))
        | (go_at_call 32; ((with_reducible refine (HL.out _).mono ?_); rintro e w2 ⟨g, rfl, hg, hr, hb⟩; have R := Lib.hid hr; have Bw := Lib.hid hb; clear hr hb))
      go_ret2
      have := own_row R.out (Nat.le_of_lt hg) (by unfold maxLen; omega)
      rw [mk_getD (wv_len _ _ _)] at this
      exact ans_ok HO.out this Bw.out
    · have HO := Lib.hid (show wO seq was shape = ([], 2) from if_pos (.inr hM))
      have HM := Lib.hid (fun W => may_ok seq was shape W false (by symm; exact decide_eq_false hM))
      clear hM h2
      go_enter Try.func13, Try.ntmps13
      go_wp2_with (go_at_call 31; ((with_reducible refine (HM.out _).mono ?_); rintro e w1 ⟨rfl, rfl⟩))
      go_ret2
      exact ans_ok HO.out (own_nil _ _) (Below.refl _ _)

/-! ### Analyse -/
theorem analyse_O (seq was shape : Int) (A : Option Addr) (len cap : Nat) (pcm : List Int) (w : World) (s0 : 0 ≤ seq) (w0 : 0 ≤ was) (h0 : 0 ≤ shape) (hl : pcm.length = len) (hc : len ≤ cap) (hcm : cap ≤ maxLen) (rd : RdA w A pcm) :
    Calls Try.prog 15 #[.int .u8 seq, .int .u8 was, .int .u8 shape, .slice A len cap] w (Ans (aO seq was shape pcm) w) := by
  have p0 : Below w.heap.size w (w.alloc (.cells #[.slice A len cap] 22)) := (Below.refl _ w).alloc (Nat.le_refl _) _
  by_cases hM : May seq was shape
  · have HM := Lib.hid (fun W => may_ok seq was shape W true (by symm; exact decide_eq_true hM))
    by_cases h5 : len = 512
    · subst h5
      by_cases hI : InR (-32768) 32767 pcm
      · have HO : aO seq was shape pcm = (if seq = 2 then anT was shape pcm 8 else anL seq was shape pcm, 0) := by unfold aO; rw [if_neg (by simpa using hM), if_neg (by simpa using hl), if_neg (by simpa using hI)]
        obtain ⟨a, b, c⟩ := may_in hM s0 w0 h0
        by_cases h2 : seq = 2
        · subst h2
          rw [if_pos rfl] at HO
          refine (ana_T was shape A cap pcm w hl hc hcm rd hI b c).mono ?_
          rintro e w' ⟨g, rfl, hg, ho, hb⟩
          exact ans_ok HO ho hb
        · rw [if_neg h2] at HO
          refine (ana_L seq was shape A cap pcm w hl hc hcm rd hI (by omega) b c).mono ?_
          rintro e w' ⟨g, rfl, hg, ho, hb⟩
          rw [anLs_one] at ho
          exact ans_ok HO ho hb
      · have HO := Lib.hid (show aO seq was shape pcm = ([], 2) by unfold aO; rw [if_neg (by simpa using hM), if_neg (by simpa using hl), if_pos hI])
        have HI := Lib.hid (in_no A cap pcm 512 (-32768) 32767 _ hl (by decide) (rd.below p0) hI)
        have P0 := Lib.hid p0
        clear hM hI rd hl p0
        go_enter Try.func15, Try.ntmps15
        go_wp2_with first
          | (go_at_call 31; ((with_reducible refine (HM.out _).mono ?_); rintro e w1 ⟨rfl, rfl⟩))
          | (go_at_call 33; ((with_reducible refine (HI.out).mono ?_); rintro e w1 ⟨rfl, rfl⟩))
        go_ret2
        exact ans_ok HO.out (own_nil _ _) P0.out
    · have HO := Lib.hid (show aO seq was shape pcm = ([], 4) by unfold aO; rw [if_neg (by simpa using hM), if_pos (by omega)])
      have P0 := Lib.hid p0
      have hne : ((len : Int) != 512) = true := by simp; omega
      clear hM rd hl p0
      go_enter Try.func15, Try.ntmps15
      go_wp2_with (go_at_call 31; ((with_reducible refine (HM.out _).mono ?_); rintro e w1 ⟨rfl, rfl⟩))
      go_ret2
      exact ans_ok HO.out (own_nil _ _) P0.out
  · have HO := Lib.hid (show aO seq was shape pcm = ([], 2) from if_pos hM)
    have HM := Lib.hid (fun W => may_ok seq was shape W false (by symm; exact decide_eq_false hM))
    have P0 := Lib.hid p0
    clear hM rd hl p0
    go_enter Try.func15, Try.ntmps15
    go_wp2_with (go_at_call 31; ((with_reducible refine (HM.out _).mono ?_); rintro e w1 ⟨rfl, rfl⟩))
    go_ret2
    exact ans_ok HO.out (own_nil _ _) P0.out

/-! ### Synth -/
theorem synth_O (seq was shape : Int) (A : Option Addr) (len cap : Nat) (lines : List Int) (w : World) (s0 : 0 ≤ seq) (w0 : 0 ≤ was) (h0 : 0 ≤ shape) (hl : lines.length = len) (hc : len ≤ cap) (hcm : cap ≤ maxLen) (rd : RdA w A lines) :
    Calls Try.prog 14 #[.int .u8 seq, .int .u8 was, .int .u8 shape, .slice A len cap] w (Ans (sO seq was shape lines) w) := by
  by_cases hM : May seq was shape
  · have HM := Lib.hid (fun W => may_ok seq was shape W true (by symm; exact decide_eq_true hM))
    by_cases h5 : len = 256
    · subst h5
      by_cases hI : InR (-268435455) 268435455 lines
      · have HO : sO seq was shape lines = (mk 512 (if seq = 2 then syT was shape lines 8 else lyT seq was shape lines 1), 0) := by unfold sO; rw [if_neg (by simpa using hM), if_neg (by simpa using hl), if_neg (by simpa using hI)]
        obtain ⟨a, b, c⟩ := may_in hM s0 w0 h0
        by_cases h2 : seq = 2
        · subst h2
          rw [if_pos rfl] at HO
          refine (syn_T was shape A cap lines w hl hc hcm rd hI b c).mono ?_
          rintro e w' ⟨g, rfl, hg, hr, hb⟩
          exact ans_ok HO (own_row hr hg (by unfold maxLen; omega)) hb
        · rw [if_neg h2] at HO
          refine (syn_L seq was shape A cap lines w hl hc hcm rd hI (by omega) b c).mono ?_
          rintro e w' ⟨g, rfl, hg, hr, hb⟩
          exact ans_ok HO (own_row hr hg (by unfold maxLen; omega)) hb
      · have HO := Lib.hid (show sO seq was shape lines = ([], 2) by unfold sO; rw [if_neg (by simpa using hM), if_neg (by simpa using hl), if_pos hI])
        have HI := Lib.hid (in_no A cap lines 256 (-268435455) 268435455 _ hl (by decide) rd hI)
        clear hM hI rd hl
        go_enter Try.func14, Try.ntmps14
        go_wp2_with first
          | (go_at_call 31; ((with_reducible refine (HM.out _).mono ?_); rintro e w1 ⟨rfl, rfl⟩))
          | (go_at_call 33; ((with_reducible refine (HI.out).mono ?_); rintro e w1 ⟨rfl, rfl⟩))
        go_ret2
        exact ans_ok HO.out (own_nil _ _) (Below.refl _ _)
    · have HO := Lib.hid (show sO seq was shape lines = ([], 4) by unfold sO; rw [if_neg (by simpa using hM), if_pos (by omega)])
      have hne : ((len : Int) != 256) = true := by simp; omega
      clear hM rd hl
      go_enter Try.func14, Try.ntmps14
      go_wp2_with (go_at_call 31; ((with_reducible refine (HM.out _).mono ?_); rintro e w1 ⟨rfl, rfl⟩))
      go_ret2
      exact ans_ok HO.out (own_nil _ _) (Below.refl _ _)
  · have HO := Lib.hid (show sO seq was shape lines = ([], 2) from if_pos hM)
    have HM := Lib.hid (fun W => may_ok seq was shape W false (by symm; exact decide_eq_false hM))
    clear hM rd hl
    go_enter Try.func14, Try.ntmps14
    go_wp2_with (go_at_call 31; ((with_reducible refine (HM.out _).mono ?_); rintro e w1 ⟨rfl, rfl⟩))
    go_ret2
    exact ans_ok HO.out (own_nil _ _) (Below.refl _ _)
end Go.Proofs.Yteknakakefhbmaa.Bl
