/- What crc's calls do. -/
import Derived.Test.YthngicplclecpaaRows
import Derived.Test.YthngicplclecpaaCrcMath
import Derived.WalkKit
import Derived.ProofKit
import Derived.OpenShut
import Derived.Lib.Hide
namespace Go.Proofs.Ythngicplclecpaa.Cr
open Go Go.ChangeShapes Go.WideShapes Go.ChangeAt Go.RowKit

/-- A slice of small numbers, as it lies in memory. -/
def Sl (w : World) (v : Value) (zs : List Int) : Prop :=
  (∃ a cap, v = .slice a 0 cap ∧ zs = []) ∨
  ∃ b off cap, v = .slice (some ⟨b, off, none⟩) zs.length cap ∧ b < w.heap.size ∧ zs.length ≤ cap ∧ cap ≤ maxLen ∧ ∀ i, i < zs.length → w.cell? ⟨b, off + i, none⟩ = some (.int .u8 (zs.getD i 0))

theorem Sl.below {w w' : World} {v : Value} {zs : List Int} (h : Sl w v zs) (hb : Below w.heap.size w w') : Sl w' v zs := by
  rcases h with h | ⟨b, off, cap, h1, h2, h3, h4, h5⟩
  · exact .inl h
  · exact .inr ⟨b, off, cap, h1, Nat.lt_of_lt_of_le h2 hb.size, h3, h4, fun i hi => (hb.cell (p := ⟨b, off + i, none⟩) h2).trans (h5 i hi)⟩

/-- Bits, out of numbers. -/
def bl (zs : List Int) : List Bool := zs.map (· == 1)
def Bits (zs : List Int) : Prop := ∀ z ∈ zs, z = 0 ∨ z = 1

theorem w_of (s : W) : 0 ≤ ((s.toNat : Nat) : Int) ∧ ((s.toNat : Nat) : Int) < 65536 := by
  have := s.isLt; omega
theorem top_of (s : W) : ((s.toNat : Nat) : Int) / 32768 = if s.msb then 1 else 0 := by
  have := s.isLt
  by_cases h : s.msb
  · rw [if_pos h]
    have := BitVec.msb_eq_true_iff_two_mul_ge.1 h
    omega
  · rw [if_neg h]
    rw [Bool.not_eq_true] at h
    have := BitVec.msb_eq_false_iff_two_mul_lt.1 h
    omega
theorem shl_of (s : W) : IntKind.u16.wrap (((s.toNat : Nat) : Int) * 2) = (((s <<< 1).toNat : Nat) : Int) := by
  have := s.isLt
  simp [IntKind.wrap, IntKind.bits, IntKind.signed, BitVec.toNat_shiftLeft, Nat.shiftLeft_eq]
theorem xor_of (s : W) : bits .xor .u16 ((s.toNat : Nat) : Int) 32773 = (((s ^^^ 0x8005#16).toNat : Nat) : Int) := by
  have e : bits .xor .u16 ((s.toNat : Nat) : Int) 32773 = IntKind.u16.wrap (((BitVec.ofInt IntKind.u16.bits ((s.toNat : Nat) : Int) ^^^ BitVec.ofInt IntKind.u16.bits 32773).toNat : Nat) : Int) := rfl
  have e1 : BitVec.ofInt IntKind.u16.bits ((s.toNat : Nat) : Int) = s := by
    apply BitVec.eq_of_toNat_eq
    rw [BitVec.toNat_ofInt]
    have := s.isLt
    show (((s.toNat : Nat) : Int) % ((2 ^ 16 : Nat) : Int)).toNat = s.toNat
    omega
  rw [e, e1]
  have := (s ^^^ 0x8005#16).isLt
  show IntKind.u16.wrap (((s ^^^ BitVec.ofInt 16 32773).toNat : Nat) : Int) = _
  rw [show BitVec.ofInt 16 32773 = 0x8005#16 by decide]
  clear e e1
  generalize s ^^^ 0x8005#16 = t at *
  simp only [IntKind.wrap, IntKind.bits, IntKind.signed]
  simp
  omega

theorem u16_in {x : Int} (h0 : 0 ≤ x) (h1 : x ≤ 65535) : IntKind.u16.wrap x = x := by
  simp [IntKind.wrap, IntKind.bits, IntKind.signed]; omega

def crcI (S : Int) (zs : List Int) : Int := ((run (BitVec.ofNat 16 S.toNat) (bl zs)).toNat : Nat)
theorem crcI_bd (S : Int) (zs : List Int) : 0 ≤ crcI S zs ∧ crcI S zs ≤ 65535 := by
  have := (run (BitVec.ofNat 16 S.toNat) (bl zs)).isLt
  unfold crcI; omega
theorem crcI_nil {S : Int} (s0 : 0 ≤ S) (s1 : S ≤ 65535) : crcI S [] = S := by
  unfold crcI bl
  simp only [List.map_nil, run_nil, BitVec.toNat_ofNat]
  omega
theorem crcI_ofNat (S : Int) (zs : List Int) : BitVec.ofNat 16 (crcI S zs).toNat = run (BitVec.ofNat 16 S.toNat) (bl zs) := by
  unfold crcI
  rw [Int.toNat_natCast]
  apply BitVec.eq_of_toNat_eq
  rw [BitVec.toNat_ofNat]
  exact Nat.mod_eq_of_lt (BitVec.isLt _)
theorem crcI_append (S : Int) (a b : List Int) : crcI S (a ++ b) = crcI (crcI S a) b := by
  have e : run (BitVec.ofNat 16 S.toNat) (bl (a ++ b)) = run (run (BitVec.ofNat 16 S.toNat) (bl a)) (bl b) := by
    unfold bl
    rw [List.map_append, run_append]
  rw [crcI, e, ← crcI_ofNat S a]
  rfl
theorem crcI_one (V d : Int) : crcI V [d] = ((stepB (BitVec.ofNat 16 V.toNat) (d == 1)).toNat : Nat) := rfl
/-- A step, as the code goes it: the bit is unlike the highest one. -/
theorem step_un {V d : Int} (v0 : 0 ≤ V) (v1 : V ≤ 65535) (hd : d = 0 ∨ d = 1) (h : V / 32768 ≠ d) : bits .xor .u16 (IntKind.u16.wrap (V * 2)) 32773 = crcI V [d] := by
  have e : ((BitVec.ofNat 16 V.toNat).toNat : Int) = V := by rw [BitVec.toNat_ofNat]; omega
  rw [crcI_one V d]
  generalize BitVec.ofNat 16 V.toNat = s at *
  subst e
  rw [shl_of, xor_of]
  rw [top_of] at h
  unfold stepB
  rw [if_pos]
  cases hm : s.msb <;> rw [hm] at h <;> rcases hd with rfl | rfl <;> simp at h ⊢
theorem step_like {V d : Int} (v0 : 0 ≤ V) (v1 : V ≤ 65535) (hd : d = 0 ∨ d = 1) (h : V / 32768 = d) : IntKind.u16.wrap (V * 2) = crcI V [d] := by
  have e : ((BitVec.ofNat 16 V.toNat).toNat : Int) = V := by rw [BitVec.toNat_ofNat]; omega
  rw [crcI_one V d]
  generalize BitVec.ofNat 16 V.toNat = s at *
  subst e
  rw [shl_of]
  rw [top_of] at h
  unfold stepB
  rw [if_neg, BitVec.xor_zero]
  cases hm : s.msb <;> rw [hm] at h <;> rcases hd with rfl | rfl <;> simp at h ⊢

theorem take_snoc {zs : List Int} {k : Nat} (h : k < zs.length) : zs.take (k + 1) = zs.take k ++ [zs.getD k 0] := by
  rw [List.take_succ_eq_append_getElem h]
  simp [h]

/-- A sum that goes on over bits, wherever they lie. -/
def sum (zs : List Int) : Int := crcI 65535 zs
theorem info5 : (Try.prog.info? 5).map (fun i => (i.zero, i.size, i.bytes)) = some (some (.int .u8 0), 1, 1) := by kernel_rfl

def par (zs : List Int) : List Int := zs.map (· % 2)
def Own (base : Nat) (w : World) (v : Value) (zs : List Int) : Prop := w.ownsRow base 5 1 v zs.length (zs.map (Value.int .u8))

theorem add_at (g i : Nat) : (⟨g, 0, none⟩ : Addr).add i = ⟨g, 0 + i, none⟩ := by
  unfold Addr.add
  split
  · subst_vars; rfl
  · rfl
theorem Own.sl {base : Nat} {w : World} {v : Value} {zs : List Int} (h : Own base w v zs) : Sl w v zs := by
  have hlt := h.lt
  have hcells := @World.ownsRow.cells _ _ _ _ _ _ _ h
  obtain ⟨hx, ⟨rfl, hn⟩ | ⟨g, cap, cur, rfl, hg, hh, hc, hm, hs, ht⟩⟩ := h
  · exact .inl ⟨none, 0, rfl, by cases zs with | nil => rfl | cons _ _ => simp at hn⟩
  · refine .inr ⟨g, 0, cap, rfl, (hlt g rfl).2, hc, hm, fun i hi => ?_⟩
    have := hcells (g := g) rfl i (.int .u8 (zs.getD i 0)) (by simp [hi])
    rwa [add_at] at this
theorem Own.below {base : Nat} {w w' : World} {v : Value} {zs : List Int} (h : Own base w v zs) (hb : Below w.heap.size w w') : Own base w' v zs := by
  have hlt := h.lt
  obtain ⟨hx, h | ⟨g, cap, cur, rfl, hg, hh, hc, hm, hs, ht⟩⟩ := h
  · exact ⟨hx, .inl h⟩
  · exact ⟨hx, .inr ⟨g, cap, cur, rfl, hg, (hb.block g (hlt g rfl).2).trans hh, hc, hm, hs, ht⟩⟩
theorem belowT {w w1 w2 : World} (a : Below w.heap.size w w1) (b : Below w1.heap.size w1 w2) : Below w.heap.size w w2 := a.trans (b.mono a.size)
theorem par_bits (zs : List Int) (hz : ∀ z ∈ zs, 0 ≤ z ∧ z ≤ 255) : Bits (par zs) := by
  intro z h
  simp only [par, List.mem_map] at h
  obtain ⟨x, hx, rfl⟩ := h
  have := hz x hx
  omega
theorem par_len (zs : List Int) : (par zs).length = zs.length := by simp [par]
theorem par_append (a b : List Int) : par (a ++ b) = par a ++ par b := by simp [par]

/-- The law's own list of bits, of a slice that lay there when the law was called. -/
theorem sum_bd (zs : List Int) : 0 ≤ sum zs ∧ sum zs ≤ 65535 := crcI_bd _ _
theorem sum_append (a b : List Int) : sum (a ++ b) = crcI (sum a) b := crcI_append _ _ _
theorem crcI_inj {S T : Int} {zs : List Int} (s0 : 0 ≤ S) (s1 : S ≤ 65535) (t0 : 0 ≤ T) (t1 : T ≤ 65535) (h : crcI S zs = crcI T zs) : S = T := by
  unfold crcI at h
  have h1 : run (BitVec.ofNat 16 S.toNat) (bl zs) = run (BitVec.ofNat 16 T.toNat) (bl zs) := BitVec.eq_of_toNat_eq (by omega)
  have h2 := congrArg BitVec.toNat (run_inj h1)
  simp only [BitVec.toNat_ofNat] at h2
  omega
/-- What a law is told of a slice that came in. -/
def IsRow (k : IntKind) (w : World) (a : Option Addr) (len cap : Nat) (zs : List Int) : Prop :=
  (a = none ∧ len = 0 ∧ cap = 0 ∧ zs = []) ∨
  ∃ x, a = some x ∧ len ≤ cap ∧ cap ≤ maxLen ∧ zs.length = cap ∧ (∀ i, i < zs.length → w.cell? (x.add i) = some (.int k (zs.getD i 0))) ∧ ∀ n ∈ zs, (Lit.int k n).wf = true
theorem lt_of_cell {w : World} {p : Addr} {v : Value} (h : w.cell? p = some v) : p.block < w.heap.size := by
  refine Nat.not_le.1 fun hle => ?_
  have : w.heap[p.block]? = none := by simp; omega
  simp [World.cell?, this] at h
theorem IsRow.sl {w : World} {a : Option Addr} {len cap : Nat} {zs : List Int} (h : IsRow .u8 w a len cap zs) : ∃ xs : List Int, xs.length = len ∧ Sl w (.slice a xs.length cap) xs ∧ ∀ z ∈ xs, 0 ≤ z ∧ z ≤ 255 := by
  rcases h with ⟨rfl, rfl, rfl, rfl⟩ | ⟨x, rfl, hl, hm, hz, hc, hwf⟩
  · exact ⟨[], rfl, .inl ⟨_, _, rfl, rfl⟩, by simp⟩
  · have hlen : (zs.take len).length = len := by simp; omega
    refine ⟨zs.take len, hlen, ?_, fun z hz' => bounds_u8 (hwf z (List.mem_of_mem_take hz'))⟩
    rw [hlen]
    by_cases h0 : len = 0
    · subst h0; exact .inl ⟨_, _, rfl, rfl⟩
    · obtain ⟨b, off, rfl, hc'⟩ := ints_at hc (by omega)
      have hb := lt_of_cell (hc' 0 (by omega))
      refine .inr ⟨b, off, cap, by rw [hlen], hb, by omega, hm, fun i hi => ?_⟩
      rw [hlen] at hi
      rw [hc' i (by omega)]
      simp [hi]
theorem one8 (zs : List Int) : ∀ u ∈ zs.map (Value.int .u8), u.oneCell' = true := by
  intro u hu
  simp only [List.mem_map] at hu
  obtain ⟨x, _, rfl⟩ := hu
  rfl
theorem own_append {base : Nat} {w : World} {v : Value} {a b : List Int} (h : w.ownsRow base 5 1 v ((par a).length + b.length) ((par a).map (Value.int .u8) ++ (par b).map (Value.int .u8))) : Own base w v (par (a ++ b)) := by
  unfold Own
  rw [par_append, List.length_append, List.map_append, par_len b]
  exact h
theorem below_grown {W w w' : World} {base : Nat} {v : Value} {zs : List Int} (hb : Below W.heap.size W w) (ho : Own base w v zs) (hle : W.heap.size ≤ base) (hg : w.grownBy w' v.ownBlock) : Below W.heap.size W w' :=
  hb.grown hg hb.size fun k hk => Nat.le_trans hle (ho.lt k hk).1
theorem IsRow.le {w : World} {a : Option Addr} {len cap : Nat} {zs : List Int} (h : IsRow .u8 w a len cap zs) : len ≤ maxLen := by
  rcases h with ⟨_, rfl, _, _⟩ | ⟨_, _, hl, hm, _⟩
  · unfold maxLen; omega
  · omega
end Go.Proofs.Ythngicplclecpaa.Cr
