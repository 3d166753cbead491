/- Texts of one claim, one behind the other: CrcMath, CrcCon. -/
import Derived.Below
import Derived.Test.YteklahfgplbmcaaDoorRows
import Derived.WalkKit
import Derived.ProofKit
import Derived.OpenShut
import Derived.Lib.Hide
set_option linter.unusedVariables false
/- Plain numbers: sums of bits. -/
namespace Go.Proofs.YteklahfgplbmcaaDoor.Cr
abbrev W := BitVec 16
def stepB (s : W) (b : Bool) : W := (s <<< 1) ^^^ (if xor s.msb b then 0x8005#16 else 0#16)
def run (s : W) (bs : List Bool) : W := bs.foldl stepB s

theorem run_nil (s : W) : run s [] = s := rfl
theorem run_cons (s : W) (b : Bool) (bs : List Bool) : run s (b :: bs) = run (stepB s b) bs := rfl
theorem run_append (s : W) (a b : List Bool) : run s (a ++ b) = run (run s a) b := List.foldl_append ..

theorem step_xor (s t : W) (a b : Bool) : stepB (s ^^^ t) (xor a b) = stepB s a ^^^ stepB t b := by
  unfold stepB
  rw [BitVec.shiftLeft_xor_distrib, BitVec.msb_xor]
  have key : ∀ (x y : W) (p q : Bool), x ^^^ y ^^^ (if xor p q then 0x8005#16 else 0#16) = x ^^^ (if p then 0x8005#16 else 0#16) ^^^ (y ^^^ (if q then 0x8005#16 else 0#16)) := by
    intro x y p q
    have c : ∀ z : W, x ^^^ z ^^^ (y ^^^ z) = x ^^^ y := by
      intro z; rw [BitVec.xor_assoc, BitVec.xor_comm y z, ← BitVec.xor_assoc z, BitVec.xor_self, BitVec.zero_xor]
    have e : ∀ z : W, x ^^^ z ^^^ y = x ^^^ y ^^^ z := by
      intro z; rw [BitVec.xor_assoc, BitVec.xor_comm z y, ← BitVec.xor_assoc]
    cases p <;> cases q <;> simp [c, e, BitVec.xor_assoc]
  have h : xor (xor s.msb t.msb) (xor a b) = xor (xor s.msb a) (xor t.msb b) := by
    cases s.msb <;> cases t.msb <;> cases a <;> cases b <;> rfl
  rw [h, key]

theorem run_xor : ∀ (a b : List Bool) (s t : W), a.length = b.length → run (s ^^^ t) (List.zipWith xor a b) = run s a ^^^ run t b
  | [], [], s, t, _ => rfl
  | [], _ :: _, _, _, h => by simp at h
  | _ :: _, [], _, _, h => by simp at h
  | x :: a, y :: b, s, t, h => by
    rw [List.zipWith_cons_cons, run_cons, run_cons, run_cons, step_xor]
    exact run_xor a b _ _ (by simpa using h)

def Z (s : W) : W := stepB s false
theorem step_zero {u : W} (h : Z u = 0#16) : u = 0#16 := by
  unfold Z stepB at h
  by_cases m : u.msb
  · rw [m] at h
    have := congrArg (fun x : W => x.getLsbD 0) h
    simp at this
  · rw [Bool.not_eq_true] at m
    rw [m] at h
    simp at h
    have hm := BitVec.msb_eq_false_iff_two_mul_lt.1 m
    have h2 := congrArg BitVec.toNat h
    simp [BitVec.toNat_shiftLeft, Nat.shiftLeft_eq] at h2
    apply BitVec.eq_of_toNat_eq
    simp
    omega
theorem xor_zero {a b : W} (h : a ^^^ b = 0#16) : a = b := by
  have : a ^^^ b ^^^ b = 0#16 ^^^ b := by rw [h]
  rwa [BitVec.xor_assoc, BitVec.xor_self, BitVec.xor_zero, BitVec.zero_xor] at this
theorem step_inj {s t : W} {b : Bool} (h : stepB s b = stepB t b) : s = t := by
  have := step_xor s t b b
  rw [h, BitVec.xor_self, Bool.xor_self] at this
  exact xor_zero (step_zero this)
theorem run_inj : ∀ {bs : List Bool} {s t : W}, run s bs = run t bs → s = t
  | [], _, _, h => h
  | _ :: bs, _, _, h => step_inj (run_inj (bs := bs) h)

/-- Bits, packed from the highest place on. -/
def pk : List Bool → Nat
  | [] => 0
  | b :: t => (if b then 32768 else 0) + pk t / 2
theorem pk_lt : ∀ l, pk l < 65536
  | [] => by simp [pk]
  | b :: t => by have := pk_lt t; unfold pk; split <;> omega
theorem pk_dvd : ∀ l : List Bool, l.length ≤ 16 → 2 ^ (16 - l.length) ∣ pk l
  | [], _ => by simp [pk]
  | b :: t, h => by
    have ih := pk_dvd t (by simp at h; omega)
    have hl : t.length ≤ 15 := by simpa using h
    obtain ⟨k, hk⟩ : ∃ k, 16 - t.length = k + 1 := ⟨15 - t.length, by omega⟩
    have hk' : 16 - (b :: t).length = k := by simp; omega
    rw [hk', pk]
    rw [hk] at ih
    obtain ⟨c, hc⟩ := ih
    have e : pk t / 2 = 2 ^ k * c := by rw [hc, Nat.pow_succ]; rw [Nat.mul_right_comm]; omega
    refine Nat.dvd_add ?_ ⟨c, e⟩
    split
    · have : k ≤ 15 := by omega
      exact (Nat.pow_dvd_pow 2 this)
    · exact ⟨0, rfl⟩
theorem pk_even {l : List Bool} (h : l.length ≤ 15) : pk l % 2 = 0 := by
  have := pk_dvd l (by omega)
  obtain ⟨k, hk⟩ : ∃ k, 16 - l.length = k + 1 := ⟨15 - l.length, by omega⟩
  rw [hk] at this
  obtain ⟨c, hc⟩ := this
  rw [hc, Nat.pow_succ, Nat.mul_right_comm]; omega
theorem pk_zero : ∀ {l : List Bool}, l.length ≤ 16 → pk l = 0 → ∀ b ∈ l, b = false
  | [], _, _ => by simp
  | b :: t, h, h0 => by
    have hl : t.length ≤ 15 := by simpa using h
    have ev := pk_even hl
    unfold pk at h0
    have hb : b = false := by cases b <;> simp_all
    have ht : pk t = 0 := by omega
    intro x hx
    rcases List.mem_cons.1 hx with rfl | hx
    · exact hb
    · exact pk_zero (by omega) ht x hx

def pkB (l : List Bool) : W := BitVec.ofNat 16 (pk l)
theorem pkB_cons {b : Bool} {t : List Bool} (h : t.length ≤ 15) (s : W) : Z (s ^^^ pkB (b :: t)) = stepB s b ^^^ pkB t := by
  have lt := pk_lt t
  have ev := pk_even h
  have e1 : pkB (b :: t) = (if b then 0x8000#16 else 0#16) ^^^ BitVec.ofNat 16 (pk t / 2) := by
    apply BitVec.eq_of_toNat_eq
    rw [BitVec.toNat_xor]
    have hpk : pk (b :: t) = (if b then 32768 else 0) + pk t / 2 := rfl
    unfold pkB
    rw [hpk]
    clear hpk
    cases b
    · simp
    · have hh : pk t / 2 < 32768 := by omega
      have := Nat.two_pow_add_eq_or_of_lt (i := 15) (b := pk t / 2) (by omega) 1
      simp only [if_true, BitVec.toNat_ofNat]
      rw [Nat.mod_eq_of_lt (show 32768 + pk t / 2 < 2 ^ 16 by omega), Nat.mod_eq_of_lt (show 0x8000 < 2 ^ 16 by decide), Nat.mod_eq_of_lt (show pk t / 2 < 2 ^ 16 by omega)]
      apply Nat.eq_of_testBit_eq
      intro i
      rw [show 32768 + pk t / 2 = 2 ^ 15 * 1 + pk t / 2 by omega, Nat.two_pow_add_eq_or_of_lt (by omega), Nat.testBit_or, Nat.testBit_xor]
      by_cases hi : i = 15
      · subst hi
        have : (pk t / 2).testBit 15 = false := Nat.testBit_lt_two_pow (by omega)
        rw [this]; simp
      · have : (2 ^ 15 * 1).testBit i = false := by
          rw [Nat.mul_one, Nat.testBit_two_pow]; simp; omega
        rw [this]
        have : (0x8000).testBit i = false := by
          rw [show (0x8000 : Nat) = 2 ^ 15 by rfl, Nat.testBit_two_pow]; simp; omega
        simp
  have e2 : stepB s b = Z (s ^^^ (if b then 0x8000#16 else 0#16)) := by
    cases b
    · simp [Z]
    · have := step_xor s 0x8000#16 true true
      have z : stepB 0x8000#16 true = 0#16 := by decide
      rw [z, BitVec.xor_zero] at this
      rw [if_pos rfl]
      exact this.symm
  have e3 : Z (BitVec.ofNat 16 (pk t / 2)) = pkB t := by
    have hm : (BitVec.ofNat 16 (pk t / 2)).msb = false := by
      rw [BitVec.msb_eq_false_iff_two_mul_lt, BitVec.toNat_ofNat]; omega
    unfold Z stepB
    rw [hm]
    apply BitVec.eq_of_toNat_eq
    simp [pkB, BitVec.toNat_shiftLeft, Nat.shiftLeft_eq]
    omega
  rw [e1, e2, ← BitVec.xor_assoc]
  have := step_xor (s ^^^ (if b then 0x8000#16 else 0#16)) (BitVec.ofNat 16 (pk t / 2)) false false
  rw [Bool.xor_self] at this
  unfold Z at e3 ⊢
  rw [this, e3]

def Zs : Nat → W → W
  | 0, s => s
  | n + 1, s => Zs n (Z s)
theorem Zs_zero : ∀ n, Zs n 0#16 = 0#16
  | 0 => rfl
  | n + 1 => by rw [Zs, show Z 0#16 = 0#16 by decide, Zs_zero n]
theorem Zs_inj : ∀ {n : Nat} {s t : W}, Zs n s = Zs n t → s = t
  | 0, _, _, h => h
  | n + 1, _, _, h => step_inj (Zs_inj (n := n) h)
theorem run_pk : ∀ (l : List Bool) (s : W), l.length ≤ 16 → run s l = Zs l.length (s ^^^ pkB l)
  | [], s, _ => by simp [run, pkB, pk, Zs]
  | b :: t, s, h => by
    have hl : t.length ≤ 15 := by simpa using h
    rw [run_cons, run_pk t _ (by omega), List.length_cons, Zs, pkB_cons hl]

/-- Two lists of at most 16 bits, as long, that turn a state into the same one, are the same. -/
theorem run_window {u v : List Bool} {s : W} (hl : u.length = v.length) (h16 : u.length ≤ 16) (h : run s u = run s v) : u = v := by
  have e := run_xor u v s s hl
  rw [h, BitVec.xor_self, BitVec.xor_self, run_pk _ _ (by simp; omega)] at e
  have lz : (List.zipWith xor u v).length = u.length := by simp; omega
  rw [BitVec.zero_xor] at e
  have z := Zs_inj (e.trans (Zs_zero _).symm)
  have hp : pk (List.zipWith xor u v) = 0 := by
    have := congrArg BitVec.toNat z
    simp [pkB] at this
    have := pk_lt (List.zipWith xor u v)
    omega
  have all := pk_zero (by omega) hp
  clear e z hp lz h h16
  induction u generalizing v with
  | nil => cases v with
    | nil => rfl
    | cons _ _ => simp at hl
  | cons x u ih => cases v with
    | nil => simp at hl
    | cons y v =>
      have h1 := all (xor x y) (by simp)
      have h2 := ih (v := v) (by simpa using hl) (fun b hb => all b (by simp [hb]))
      rw [h2]
      cases x <;> cases y <;> simp_all
/-- Sixteen bits behind that turn a state into nothing are its own. -/
theorem run_own {l : List Bool} {s : W} (h : l.length = 16) : run s l = 0#16 ↔ s = pkB l := by
  rw [run_pk _ _ (by omega)]
  constructor
  · intro e
    rw [← Zs_zero l.length] at e
    exact xor_zero (Zs_inj e)
  · intro e
    rw [e, BitVec.xor_self, Zs_zero]
end Go.Proofs.YteklahfgplbmcaaDoor.Cr

/- What crc's calls do. -/
namespace Go.Proofs.YteklahfgplbmcaaDoor.Cr
open Go Go.ChangeShapes Go.WideShapes Go.ChangeAt Go.RowKit

/-- A slice of small numbers, as it lies in memory. -/
def Sl (w : World) (v : Value) (zs : List Int) : Prop :=
  (∃ a cap, v = .slice a 0 cap ∧ zs = []) ∨
  ∃ b off cap, v = .slice (some ⟨b, off, none⟩) zs.length cap ∧ b < w.heap.size ∧ zs.length ≤ cap ∧ cap ≤ maxLen ∧ ∀ i, i < zs.length → w.cell? ⟨b, off + i, none⟩ = some (.int .u8 (zs.getD i 0))

theorem Sl.below {w w' : World} {v : Value} {zs : List Int} (h : Sl w v zs) (hb : Below w.heap.size w w') : Sl w' v zs := by
  rcases h with h | ⟨b, off, cap, h1, h2, h3, h4, h5⟩
  · exact .inl h
  · exact .inr ⟨b, off, cap, h1, Nat.lt_of_lt_of_le h2 hb.size, h3, h4, fun i hi => (hb.cell (p := ⟨b, off + i, none⟩) h2).trans (h5 i hi)⟩

/-- Bits, out of numbers. -/
def bl (zs : List Int) : List Bool := zs.map (· == 1)
def Bits (zs : List Int) : Prop := ∀ z ∈ zs, z = 0 ∨ z = 1

theorem w_of (s : W) : 0 ≤ ((s.toNat : Nat) : Int) ∧ ((s.toNat : Nat) : Int) < 65536 := by
  have := s.isLt; omega
theorem top_of (s : W) : ((s.toNat : Nat) : Int) / 32768 = if s.msb then 1 else 0 := by
  have := s.isLt
  by_cases h : s.msb
  · rw [if_pos h]
    have := BitVec.msb_eq_true_iff_two_mul_ge.1 h
    omega
  · rw [if_neg h]
    rw [Bool.not_eq_true] at h
    have := BitVec.msb_eq_false_iff_two_mul_lt.1 h
    omega
theorem shl_of (s : W) : IntKind.u16.wrap (((s.toNat : Nat) : Int) * 2) = (((s <<< 1).toNat : Nat) : Int) := by
  have := s.isLt
  simp [IntKind.wrap, IntKind.bits, IntKind.signed, BitVec.toNat_shiftLeft, Nat.shiftLeft_eq]
theorem xor_of (s : W) : bits .xor .u16 ((s.toNat : Nat) : Int) 32773 = (((s ^^^ 0x8005#16).toNat : Nat) : Int) := by
  have e : bits .xor .u16 ((s.toNat : Nat) : Int) 32773 = IntKind.u16.wrap (((BitVec.ofInt IntKind.u16.bits ((s.toNat : Nat) : Int) ^^^ BitVec.ofInt IntKind.u16.bits 32773).toNat : Nat) : Int) := rfl
  have e1 : BitVec.ofInt IntKind.u16.bits ((s.toNat : Nat) : Int) = s := by
    apply BitVec.eq_of_toNat_eq
    rw [BitVec.toNat_ofInt]
    have := s.isLt
    show (((s.toNat : Nat) : Int) % ((2 ^ 16 : Nat) : Int)).toNat = s.toNat
    omega
  rw [e, e1]
  have := (s ^^^ 0x8005#16).isLt
  show IntKind.u16.wrap (((s ^^^ BitVec.ofInt 16 32773).toNat : Nat) : Int) = _
  rw [show BitVec.ofInt 16 32773 = 0x8005#16 by decide]
  clear e e1
  generalize s ^^^ 0x8005#16 = t at *
  simp only [IntKind.wrap, IntKind.bits, IntKind.signed]
  simp
  omega

theorem u16_in {x : Int} (h0 : 0 ≤ x) (h1 : x ≤ 65535) : IntKind.u16.wrap x = x := by
  simp [IntKind.wrap, IntKind.bits, IntKind.signed]; omega

def crcI (S : Int) (zs : List Int) : Int := ((run (BitVec.ofNat 16 S.toNat) (bl zs)).toNat : Nat)
theorem crcI_bd (S : Int) (zs : List Int) : 0 ≤ crcI S zs ∧ crcI S zs ≤ 65535 := by
  have := (run (BitVec.ofNat 16 S.toNat) (bl zs)).isLt
  unfold crcI; omega
theorem crcI_nil {S : Int} (s0 : 0 ≤ S) (s1 : S ≤ 65535) : crcI S [] = S := by
  unfold crcI bl
  simp only [List.map_nil, run_nil, BitVec.toNat_ofNat]
  omega
theorem crcI_ofNat (S : Int) (zs : List Int) : BitVec.ofNat 16 (crcI S zs).toNat = run (BitVec.ofNat 16 S.toNat) (bl zs) := by
  unfold crcI
  rw [Int.toNat_natCast]
  apply BitVec.eq_of_toNat_eq
  rw [BitVec.toNat_ofNat]
  exact Nat.mod_eq_of_lt (BitVec.isLt _)
theorem crcI_append (S : Int) (a b : List Int) : crcI S (a ++ b) = crcI (crcI S a) b := by
  have e : run (BitVec.ofNat 16 S.toNat) (bl (a ++ b)) = run (run (BitVec.ofNat 16 S.toNat) (bl a)) (bl b) := by
    unfold bl
    rw [List.map_append, run_append]
  rw [crcI, e, ← crcI_ofNat S a]
  rfl
theorem crcI_one (V d : Int) : crcI V [d] = ((stepB (BitVec.ofNat 16 V.toNat) (d == 1)).toNat : Nat) := rfl
/-- A step, as the code goes it: the bit is unlike the highest one. -/
theorem step_un {V d : Int} (v0 : 0 ≤ V) (v1 : V ≤ 65535) (hd : d = 0 ∨ d = 1) (h : V / 32768 ≠ d) : bits .xor .u16 (IntKind.u16.wrap (V * 2)) 32773 = crcI V [d] := by
  have e : ((BitVec.ofNat 16 V.toNat).toNat : Int) = V := by rw [BitVec.toNat_ofNat]; omega
  rw [crcI_one V d]
  generalize BitVec.ofNat 16 V.toNat = s at *
  subst e
  rw [shl_of, xor_of]
  rw [top_of] at h
  unfold stepB
  rw [if_pos]
  cases hm : s.msb <;> rw [hm] at h <;> rcases hd with rfl | rfl <;> simp at h ⊢
theorem step_like {V d : Int} (v0 : 0 ≤ V) (v1 : V ≤ 65535) (hd : d = 0 ∨ d = 1) (h : V / 32768 = d) : IntKind.u16.wrap (V * 2) = crcI V [d] := by
  have e : ((BitVec.ofNat 16 V.toNat).toNat : Int) = V := by rw [BitVec.toNat_ofNat]; omega
  rw [crcI_one V d]
  generalize BitVec.ofNat 16 V.toNat = s at *
  subst e
  rw [shl_of]
  rw [top_of] at h
  unfold stepB
  rw [if_neg, BitVec.xor_zero]
  cases hm : s.msb <;> rw [hm] at h <;> rcases hd with rfl | rfl <;> simp at h ⊢

theorem take_snoc {zs : List Int} {k : Nat} (h : k < zs.length) : zs.take (k + 1) = zs.take k ++ [zs.getD k 0] := by
  rw [List.take_succ_eq_append_getElem h]
  simp [h]

/-- A sum that goes on over bits, wherever they lie. -/
def sum (zs : List Int) : Int := crcI 65535 zs
theorem info5 : (Tryd.prog.info? 5).map (fun i => (i.zero, i.size, i.bytes)) = some (some (.int .u8 0), 1, 1) := by kernel_rfl

def par (zs : List Int) : List Int := zs.map (· % 2)
def Own (base : Nat) (w : World) (v : Value) (zs : List Int) : Prop := w.ownsRow base 5 1 v zs.length (zs.map (Value.int .u8))

theorem add_at (g i : Nat) : (⟨g, 0, none⟩ : Addr).add i = ⟨g, 0 + i, none⟩ := by
  unfold Addr.add
  split
  · subst_vars; rfl
  · rfl
theorem Own.sl {base : Nat} {w : World} {v : Value} {zs : List Int} (h : Own base w v zs) : Sl w v zs := by
  have hlt := h.lt
  have hcells := @World.ownsRow.cells _ _ _ _ _ _ _ h
  obtain ⟨hx, ⟨rfl, hn⟩ | ⟨g, cap, cur, rfl, hg, hh, hc, hm, hs, ht⟩⟩ := h
  · exact .inl ⟨none, 0, rfl, by cases zs with | nil => rfl | cons _ _ => simp at hn⟩
  · refine .inr ⟨g, 0, cap, rfl, (hlt g rfl).2, hc, hm, fun i hi => ?_⟩
    have := hcells (g := g) rfl i (.int .u8 (zs.getD i 0)) (by simp [hi])
    rwa [add_at] at this
theorem Own.below {base : Nat} {w w' : World} {v : Value} {zs : List Int} (h : Own base w v zs) (hb : Below w.heap.size w w') : Own base w' v zs := by
  have hlt := h.lt
  obtain ⟨hx, h | ⟨g, cap, cur, rfl, hg, hh, hc, hm, hs, ht⟩⟩ := h
  · exact ⟨hx, .inl h⟩
  · exact ⟨hx, .inr ⟨g, cap, cur, rfl, hg, (hb.block g (hlt g rfl).2).trans hh, hc, hm, hs, ht⟩⟩
theorem belowT {w w1 w2 : World} (a : Below w.heap.size w w1) (b : Below w1.heap.size w1 w2) : Below w.heap.size w w2 := a.trans (b.mono a.size)
theorem par_bits (zs : List Int) (hz : ∀ z ∈ zs, 0 ≤ z ∧ z ≤ 255) : Bits (par zs) := by
  intro z h
  simp only [par, List.mem_map] at h
  obtain ⟨x, hx, rfl⟩ := h
  have := hz x hx
  omega
theorem par_len (zs : List Int) : (par zs).length = zs.length := by simp [par]
theorem par_append (a b : List Int) : par (a ++ b) = par a ++ par b := by simp [par]

/-- The law's own list of bits, of a slice that lay there when the law was called. -/
theorem sum_bd (zs : List Int) : 0 ≤ sum zs ∧ sum zs ≤ 65535 := crcI_bd _ _
theorem sum_append (a b : List Int) : sum (a ++ b) = crcI (sum a) b := crcI_append _ _ _
theorem crcI_inj {S T : Int} {zs : List Int} (s0 : 0 ≤ S) (s1 : S ≤ 65535) (t0 : 0 ≤ T) (t1 : T ≤ 65535) (h : crcI S zs = crcI T zs) : S = T := by
  unfold crcI at h
  have h1 : run (BitVec.ofNat 16 S.toNat) (bl zs) = run (BitVec.ofNat 16 T.toNat) (bl zs) := BitVec.eq_of_toNat_eq (by omega)
  have h2 := congrArg BitVec.toNat (run_inj h1)
  simp only [BitVec.toNat_ofNat] at h2
  omega
/-- What a law is told of a slice that came in. -/
def IsRow (k : IntKind) (w : World) (a : Option Addr) (len cap : Nat) (zs : List Int) : Prop :=
  (a = none ∧ len = 0 ∧ cap = 0 ∧ zs = []) ∨
  ∃ x, a = some x ∧ len ≤ cap ∧ cap ≤ maxLen ∧ zs.length = cap ∧ (∀ i, i < zs.length → w.cell? (x.add i) = some (.int k (zs.getD i 0))) ∧ ∀ n ∈ zs, (Lit.int k n).wf = true
theorem lt_of_cell {w : World} {p : Addr} {v : Value} (h : w.cell? p = some v) : p.block < w.heap.size := by
  refine Nat.not_le.1 fun hle => ?_
  have : w.heap[p.block]? = none := by simp; omega
  simp [World.cell?, this] at h
theorem IsRow.sl {w : World} {a : Option Addr} {len cap : Nat} {zs : List Int} (h : IsRow .u8 w a len cap zs) : ∃ xs : List Int, xs.length = len ∧ Sl w (.slice a xs.length cap) xs ∧ ∀ z ∈ xs, 0 ≤ z ∧ z ≤ 255 := by
  rcases h with ⟨rfl, rfl, rfl, rfl⟩ | ⟨x, rfl, hl, hm, hz, hc, hwf⟩
  · exact ⟨[], rfl, .inl ⟨_, _, rfl, rfl⟩, by simp⟩
  · have hlen : (zs.take len).length = len := by simp; omega
    refine ⟨zs.take len, hlen, ?_, fun z hz' => bounds_u8 (hwf z (List.mem_of_mem_take hz'))⟩
    rw [hlen]
    by_cases h0 : len = 0
    · subst h0; exact .inl ⟨_, _, rfl, rfl⟩
    · obtain ⟨b, off, rfl, hc'⟩ := ints_at hc (by omega)
      have hb := lt_of_cell (hc' 0 (by omega))
      refine .inr ⟨b, off, cap, by rw [hlen], hb, by omega, hm, fun i hi => ?_⟩
      rw [hlen] at hi
      rw [hc' i (by omega)]
      simp [hi]
theorem one8 (zs : List Int) : ∀ u ∈ zs.map (Value.int .u8), u.oneCell' = true := by
  intro u hu
  simp only [List.mem_map] at hu
  obtain ⟨x, _, rfl⟩ := hu
  rfl
theorem own_append {base : Nat} {w : World} {v : Value} {a b : List Int} (h : w.ownsRow base 5 1 v ((par a).length + b.length) ((par a).map (Value.int .u8) ++ (par b).map (Value.int .u8))) : Own base w v (par (a ++ b)) := by
  unfold Own
  rw [par_append, List.length_append, List.map_append, par_len b]
  exact h
theorem below_grown {W w w' : World} {base : Nat} {v : Value} {zs : List Int} (hb : Below W.heap.size W w) (ho : Own base w v zs) (hle : W.heap.size ≤ base) (hg : w.grownBy w' v.ownBlock) : Below W.heap.size W w' :=
  hb.grown hg hb.size fun k hk => Nat.le_trans hle (ho.lt k hk).1
theorem IsRow.le {w : World} {a : Option Addr} {len cap : Nat} {zs : List Int} (h : IsRow .u8 w a len cap zs) : len ≤ maxLen := by
  rcases h with ⟨_, rfl, _, _⟩ | ⟨_, _, hl, hm, _⟩
  · unfold maxLen; omega
  · omega
end Go.Proofs.YteklahfgplbmcaaDoor.Cr
