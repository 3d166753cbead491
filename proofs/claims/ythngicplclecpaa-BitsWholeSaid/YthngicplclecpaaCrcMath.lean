/- Plain numbers: sums of bits. -/
import Derived.Below
namespace Go.Proofs.Ythngicplclecpaa.Cr
abbrev W := BitVec 16
def stepB (s : W) (b : Bool) : W := (s <<< 1) ^^^ (if xor s.msb b then 0x8005#16 else 0#16)
def run (s : W) (bs : List Bool) : W := bs.foldl stepB s

theorem run_nil (s : W) : run s [] = s := rfl
theorem run_cons (s : W) (b : Bool) (bs : List Bool) : run s (b :: bs) = run (stepB s b) bs := rfl
theorem run_append (s : W) (a b : List Bool) : run s (a ++ b) = run (run s a) b := List.foldl_append ..

theorem step_xor (s t : W) (a b : Bool) : stepB (s ^^^ t) (xor a b) = stepB s a ^^^ stepB t b := by
  unfold stepB
  rw [BitVec.shiftLeft_xor_distrib, BitVec.msb_xor]
  have key : ∀ (x y : W) (p q : Bool), x ^^^ y ^^^ (if xor p q then 0x8005#16 else 0#16) = x ^^^ (if p then 0x8005#16 else 0#16) ^^^ (y ^^^ (if q then 0x8005#16 else 0#16)) := by
    intro x y p q
    have c : ∀ z : W, x ^^^ z ^^^ (y ^^^ z) = x ^^^ y := by
      intro z; rw [BitVec.xor_assoc, BitVec.xor_comm y z, ← BitVec.xor_assoc z, BitVec.xor_self, BitVec.zero_xor]
    have e : ∀ z : W, x ^^^ z ^^^ y = x ^^^ y ^^^ z := by
      intro z; rw [BitVec.xor_assoc, BitVec.xor_comm z y, ← BitVec.xor_assoc]
    cases p <;> cases q <;> simp [c, e, BitVec.xor_assoc]
  have h : xor (xor s.msb t.msb) (xor a b) = xor (xor s.msb a) (xor t.msb b) := by
    cases s.msb <;> cases t.msb <;> cases a <;> cases b <;> rfl
  rw [h, key]

theorem run_xor : ∀ (a b : List Bool) (s t : W), a.length = b.length → run (s ^^^ t) (List.zipWith xor a b) = run s a ^^^ run t b
  | [], [], s, t, _ => rfl
  | [], _ :: _, _, _, h => by simp at h
  | _ :: _, [], _, _, h => by simp at h
  | x :: a, y :: b, s, t, h => by
    rw [List.zipWith_cons_cons, run_cons, run_cons, run_cons, step_xor]
    exact run_xor a b _ _ (by simpa using h)

def Z (s : W) : W := stepB s false
theorem step_zero {u : W} (h : Z u = 0#16) : u = 0#16 := by
  unfold Z stepB at h
  by_cases m : u.msb
  · rw [m] at h
    have := congrArg (fun x : W => x.getLsbD 0) h
    simp at this
  · rw [Bool.not_eq_true] at m
    rw [m] at h
    simp at h
    have hm := BitVec.msb_eq_false_iff_two_mul_lt.1 m
    have h2 := congrArg BitVec.toNat h
    simp [BitVec.toNat_shiftLeft, Nat.shiftLeft_eq] at h2
    apply BitVec.eq_of_toNat_eq
    simp
    omega
theorem xor_zero {a b : W} (h : a ^^^ b = 0#16) : a = b := by
  have : a ^^^ b ^^^ b = 0#16 ^^^ b := by rw [h]
  rwa [BitVec.xor_assoc, BitVec.xor_self, BitVec.xor_zero, BitVec.zero_xor] at this
theorem step_inj {s t : W} {b : Bool} (h : stepB s b = stepB t b) : s = t := by
  have := step_xor s t b b
  rw [h, BitVec.xor_self, Bool.xor_self] at this
  exact xor_zero (step_zero this)
theorem run_inj : ∀ {bs : List Bool} {s t : W}, run s bs = run t bs → s = t
  | [], _, _, h => h
  | _ :: bs, _, _, h => step_inj (run_inj (bs := bs) h)

/-- Bits, packed from the highest place on. -/
def pk : List Bool → Nat
  | [] => 0
  | b :: t => (if b then 32768 else 0) + pk t / 2
theorem pk_lt : ∀ l, pk l < 65536
  | [] => by simp [pk]
  | b :: t => by have := pk_lt t; unfold pk; split <;> omega
theorem pk_dvd : ∀ l : List Bool, l.length ≤ 16 → 2 ^ (16 - l.length) ∣ pk l
  | [], _ => by simp [pk]
  | b :: t, h => by
    have ih := pk_dvd t (by simp at h; omega)
    have hl : t.length ≤ 15 := by simpa using h
    obtain ⟨k, hk⟩ : ∃ k, 16 - t.length = k + 1 := ⟨15 - t.length, by omega⟩
    have hk' : 16 - (b :: t).length = k := by simp; omega
    rw [hk', pk]
    rw [hk] at ih
    obtain ⟨c, hc⟩ := ih
    have e : pk t / 2 = 2 ^ k * c := by rw [hc, Nat.pow_succ]; rw [Nat.mul_right_comm]; omega
    refine Nat.dvd_add ?_ ⟨c, e⟩
    split
    · have : k ≤ 15 := by omega
      exact (Nat.pow_dvd_pow 2 this)
    · exact ⟨0, rfl⟩
theorem pk_even {l : List Bool} (h : l.length ≤ 15) : pk l % 2 = 0 := by
  have := pk_dvd l (by omega)
  obtain ⟨k, hk⟩ : ∃ k, 16 - l.length = k + 1 := ⟨15 - l.length, by omega⟩
  rw [hk] at this
  obtain ⟨c, hc⟩ := this
  rw [hc, Nat.pow_succ, Nat.mul_right_comm]; omega
theorem pk_zero : ∀ {l : List Bool}, l.length ≤ 16 → pk l = 0 → ∀ b ∈ l, b = false
  | [], _, _ => by simp
  | b :: t, h, h0 => by
    have hl : t.length ≤ 15 := by simpa using h
    have ev := pk_even hl
    unfold pk at h0
    have hb : b = false := by cases b <;> simp_all
    have ht : pk t = 0 := by omega
    intro x hx
    rcases List.mem_cons.1 hx with rfl | hx
    · exact hb
    · exact pk_zero (by omega) ht x hx

def pkB (l : List Bool) : W := BitVec.ofNat 16 (pk l)
theorem pkB_cons {b : Bool} {t : List Bool} (h : t.length ≤ 15) (s : W) : Z (s ^^^ pkB (b :: t)) = stepB s b ^^^ pkB t := by
  have lt := pk_lt t
  have ev := pk_even h
  have e1 : pkB (b :: t) = (if b then 0x8000#16 else 0#16) ^^^ BitVec.ofNat 16 (pk t / 2) := by
    apply BitVec.eq_of_toNat_eq
    rw [BitVec.toNat_xor]
    have hpk : pk (b :: t) = (if b then 32768 else 0) + pk t / 2 := rfl
    unfold pkB
    rw [hpk]
    clear hpk
    cases b
    · simp
    · have hh : pk t / 2 < 32768 := by omega
      have := Nat.two_pow_add_eq_or_of_lt (i := 15) (b := pk t / 2) (by omega) 1
      simp only [if_true, BitVec.toNat_ofNat]
      rw [Nat.mod_eq_of_lt (show 32768 + pk t / 2 < 2 ^ 16 by omega), Nat.mod_eq_of_lt (show 0x8000 < 2 ^ 16 by decide), Nat.mod_eq_of_lt (show pk t / 2 < 2 ^ 16 by omega)]
      apply Nat.eq_of_testBit_eq
      intro i
      rw [show 32768 + pk t / 2 = 2 ^ 15 * 1 + pk t / 2 by omega, Nat.two_pow_add_eq_or_of_lt (by omega), Nat.testBit_or, Nat.testBit_xor]
      by_cases hi : i = 15
      · subst hi
        have : (pk t / 2).testBit 15 = false := Nat.testBit_lt_two_pow (by omega)
        rw [this]; simp
      · have : (2 ^ 15 * 1).testBit i = false := by
          rw [Nat.mul_one, Nat.testBit_two_pow]; simp; omega
        rw [this]
        have : (0x8000).testBit i = false := by
          rw [show (0x8000 : Nat) = 2 ^ 15 by rfl, Nat.testBit_two_pow]; simp; omega
        simp
  have e2 : stepB s b = Z (s ^^^ (if b then 0x8000#16 else 0#16)) := by
    cases b
    · simp [Z]
    · have := step_xor s 0x8000#16 true true
      have z : stepB 0x8000#16 true = 0#16 := by decide
      rw [z, BitVec.xor_zero] at this
      rw [if_pos rfl]
      exact this.symm
  have e3 : Z (BitVec.ofNat 16 (pk t / 2)) = pkB t := by
    have hm : (BitVec.ofNat 16 (pk t / 2)).msb = false := by
      rw [BitVec.msb_eq_false_iff_two_mul_lt, BitVec.toNat_ofNat]; omega
    unfold Z stepB
    rw [hm]
    apply BitVec.eq_of_toNat_eq
    simp [pkB, BitVec.toNat_shiftLeft, Nat.shiftLeft_eq]
    omega
  rw [e1, e2, ← BitVec.xor_assoc]
  have := step_xor (s ^^^ (if b then 0x8000#16 else 0#16)) (BitVec.ofNat 16 (pk t / 2)) false false
  rw [Bool.xor_self] at this
  unfold Z at e3 ⊢
  rw [this, e3]

def Zs : Nat → W → W
  | 0, s => s
  | n + 1, s => Zs n (Z s)
theorem Zs_zero : ∀ n, Zs n 0#16 = 0#16
  | 0 => rfl
  | n + 1 => by rw [Zs, show Z 0#16 = 0#16 by decide, Zs_zero n]
theorem Zs_inj : ∀ {n : Nat} {s t : W}, Zs n s = Zs n t → s = t
  | 0, _, _, h => h
  | n + 1, _, _, h => step_inj (Zs_inj (n := n) h)
theorem run_pk : ∀ (l : List Bool) (s : W), l.length ≤ 16 → run s l = Zs l.length (s ^^^ pkB l)
  | [], s, _ => by simp [run, pkB, pk, Zs]
  | b :: t, s, h => by
    have hl : t.length ≤ 15 := by simpa using h
    rw [run_cons, run_pk t _ (by omega), List.length_cons, Zs, pkB_cons hl]

/-- Two lists of at most 16 bits, as long, that turn a state into the same one, are the same. -/
theorem run_window {u v : List Bool} {s : W} (hl : u.length = v.length) (h16 : u.length ≤ 16) (h : run s u = run s v) : u = v := by
  have e := run_xor u v s s hl
  rw [h, BitVec.xor_self, BitVec.xor_self, run_pk _ _ (by simp; omega)] at e
  have lz : (List.zipWith xor u v).length = u.length := by simp; omega
  rw [BitVec.zero_xor] at e
  have z := Zs_inj (e.trans (Zs_zero _).symm)
  have hp : pk (List.zipWith xor u v) = 0 := by
    have := congrArg BitVec.toNat z
    simp [pkB] at this
    have := pk_lt (List.zipWith xor u v)
    omega
  have all := pk_zero (by omega) hp
  clear e z hp lz h h16
  induction u generalizing v with
  | nil => cases v with
    | nil => rfl
    | cons _ _ => simp at hl
  | cons x u ih => cases v with
    | nil => simp at hl
    | cons y v =>
      have h1 := all (xor x y) (by simp)
      have h2 := ih (v := v) (by simpa using hl) (fun b hb => all b (by simp [hb]))
      rw [h2]
      cases x <;> cases y <;> simp_all
/-- Sixteen bits behind that turn a state into nothing are its own. -/
theorem run_own {l : List Bool} {s : W} (h : l.length = 16) : run s l = 0#16 ↔ s = pkB l := by
  rw [run_pk _ _ (by omega)]
  constructor
  · intro e
    rw [← Zs_zero l.length] at e
    exact xor_zero (Zs_inj e)
  · intro e
    rw [e, BitVec.xor_self, Zs_zero]
end Go.Proofs.Ythngicplclecpaa.Cr
