/- What bits that are turned within sixteen do to a sum. -/
import Derived.Test.YteoljcbebiemlaaCrcTail
import Derived.Laws.BytesArg
import Derived.WalkKit
import Derived.ProofKit
import Derived.OpenShut
import Derived.Lib.Hide
namespace Go.Proofs.Yteoljcbebiemlaa.Cr
open Go Go.ChangeShapes Go.WideShapes Go.ChangeAt Go.RowKit

/-- Bits, of which k from place f on are turned where a number's are set. -/
def md (zs : List Int) (f : Nat) (T : Int) (k : Nat) : List Int :=
  (List.range zs.length).map fun j => if f ≤ j ∧ j < f + k then (zs.getD j 0 + T / 2 ^ (j - f) % 2) % 2 else zs.getD j 0
theorem md_len (zs : List Int) (f : Nat) (T : Int) (k : Nat) : (md zs f T k).length = zs.length := by simp [md]
theorem md_at {zs : List Int} {f : Nat} {T : Int} {k j : Nat} (h : j < zs.length) : (md zs f T k).getD j 0 = if f ≤ j ∧ j < f + k then (zs.getD j 0 + T / 2 ^ (j - f) % 2) % 2 else zs.getD j 0 := by
  simp [md, List.getD_eq_getElem?_getD, h]
theorem md_zero {zs : List Int} {f : Nat} {T : Int} {j : Nat} (h : j < zs.length) : (md zs f T 0).getD j 0 = zs.getD j 0 := by
  rw [md_at h, if_neg (by omega)]
theorem md_new {zs : List Int} {f : Nat} {T : Int} {k : Nat} (h : f + k < zs.length) : (md zs f T (k + 1)).getD (f + k) 0 = (zs.getD (f + k) 0 + T / 2 ^ k % 2) % 2 := by
  rw [md_at h, if_pos (by omega), show f + k - f = k by omega]
theorem md_old {zs : List Int} {f : Nat} {T : Int} {k j : Nat} (h : j < zs.length) (hj : j ≠ f + k) : (md zs f T (k + 1)).getD j 0 = (md zs f T k).getD j 0 := by
  rw [md_at h, md_at h]
  by_cases c : f ≤ j ∧ j < f + k
  · rw [if_pos c, if_pos (by omega)]
  · rw [if_neg c, if_neg (by omega)]
theorem md_cur {zs : List Int} {f : Nat} {T : Int} {k : Nat} (h : f + k < zs.length) : (md zs f T k).getD (f + k) 0 = zs.getD (f + k) 0 := by
  rw [md_at h, if_neg (by omega)]
theorem md_bits {zs : List Int} {f : Nat} {T : Int} {k : Nat} (hb : Bits zs) : Bits (md zs f T k) := by
  intro z hz
  simp only [md, List.mem_map, List.mem_range] at hz
  obtain ⟨j, hj, rfl⟩ := hz
  split
  · omega
  · exact hb _ (by simp [hj])

theorem ext_getD {a b : List Int} (hl : a.length = b.length) (h : ∀ j, j < a.length → a.getD j 0 = b.getD j 0) : a = b := by
  apply List.ext_getElem? 
  intro j
  by_cases hj : j < a.length
  · have := h j hj
    simp [List.getD_eq_getElem?_getD, hj, show j < b.length by omega] at this
    rw [List.getElem?_eq_getElem hj, List.getElem?_eq_getElem (by omega), this]
  · rw [List.getElem?_eq_none (by omega), List.getElem?_eq_none (by omega)]
theorem bl_inj {a b : List Int} (ha : Bits a) (hb : Bits b) (h : bl a = bl b) : a = b := by
  induction a generalizing b with
  | nil => cases b with
    | nil => rfl
    | cons _ _ => simp [bl] at h
  | cons x a ih => cases b with
    | nil => simp [bl] at h
    | cons y b =>
      simp only [bl, List.map_cons, List.cons.injEq] at h
      have e := ih (fun z hz => ha z (by simp [hz])) (fun z hz => hb z (by simp [hz])) h.2
      have h1 := ha x (by simp)
      have h2 := hb y (by simp)
      have h3 := h.1
      rw [Bool.eq_iff_iff] at h3
      simp at h3
      rw [e]
      congr 1
      omega
theorem crc_window {u v : List Int} {S : Int} (hu : Bits u) (hv : Bits v) (hl : u.length = v.length) (h16 : u.length ≤ 16) (h : crcI S u = crcI S v) : u = v := by
  unfold crcI at h
  have h1 : run (BitVec.ofNat 16 S.toNat) (bl u) = run (BitVec.ofNat 16 S.toNat) (bl v) := BitVec.eq_of_toNat_eq (by omega)
  exact bl_inj hu hv (run_window (by simp [bl, hl]) (by simp [bl]; omega) h1)
theorem parts3 (l : List Int) (f k : Nat) : l = l.take f ++ ((l.drop f).take k ++ l.drop (f + k)) := by
  rw [show l.drop (f + k) = (l.drop f).drop k by rw [List.drop_drop], List.take_append_drop, List.take_append_drop]
/-- The sum tells whether bits were turned. -/
theorem burst {zs : List Int} {f k : Nat} {T : Int} (hb : Bits zs) (hk : k ≤ 16) (h : sum zs = sum (md zs f T k)) : zs = md zs f T k := by
  have hb2 := md_bits (f := f) (T := T) (k := k) hb
  have hlen := md_len zs f T k
  have e1 : (md zs f T k).take f = zs.take f := by
    apply ext_getD (by simp [hlen])
    intro j hj
    have hj' : j < f ∧ j < zs.length := by simp [hlen] at hj; omega
    have := md_at (f := f) (T := T) (k := k) hj'.2
    rw [if_neg (by omega)] at this
    simpa [List.getD_eq_getElem?_getD, List.getElem?_take, hj'.1] using this
  have e2 : (md zs f T k).drop (f + k) = zs.drop (f + k) := by
    apply ext_getD (by simp [hlen])
    intro j hj
    have hj' : f + k + j < zs.length := by simp [hlen] at hj; omega
    have := md_at (f := f) (T := T) (k := k) hj'
    rw [if_neg (by omega)] at this
    simpa [List.getD_eq_getElem?_getD, List.getElem?_drop] using this
  have p1 := parts3 zs f k
  have p2 := parts3 (md zs f T k) f k
  rw [e1, e2] at p2
  unfold sum at h
  rw [p2] at h
  have h2 : crcI 65535 (zs.take f ++ ((zs.drop f).take k ++ zs.drop (f + k))) = crcI 65535 (zs.take f ++ (((md zs f T k).drop f).take k ++ zs.drop (f + k))) := by rw [← p1]; exact h
  rw [crcI_append, crcI_append, crcI_append, crcI_append] at h2
  have h3 := crcI_inj (crcI_bd _ _).1 (crcI_bd _ _).2 (crcI_bd _ _).1 (crcI_bd _ _).2 h2
  have h4 := crc_window (fun z hz => hb z (List.mem_of_mem_drop (List.mem_of_mem_take hz))) (fun z hz => hb2 z (List.mem_of_mem_drop (List.mem_of_mem_take hz))) (by simp [hlen]) (by simp; omega) h3
  rw [p2, ← h4]
  exact p1
theorem xor01 {x y : Int} (hx : x = 0 ∨ x = 1) (hy : y = 0 ∨ y = 1) : bits .xor .u8 x y = (x + y) % 2 := by
  rcases hx with rfl | rfl <;> rcases hy with rfl | rfl <;> decide
theorem str_inj {a b : List Int} (ha : Bits a) (hb : Bits b) (h : strOfNums a = strOfNums b) : a = b := by
  have h1 : a.map (fun n => UInt8.ofNat n.toNat) = b.map (fun n => UInt8.ofNat n.toNat) := by
    rw [← strOfNums_data, ← strOfNums_data, h]
  clear h
  induction a generalizing b with
  | nil => cases b with
    | nil => rfl
    | cons _ _ => simp at h1
  | cons x a ih => cases b with
    | nil => simp at h1
    | cons y b =>
      simp only [List.map_cons, List.cons.injEq] at h1
      have e := ih (fun z hz => ha z (by simp [hz])) (fun z hz => hb z (by simp [hz])) h1.2
      have h3 := h1.1
      have hx := ha x (by simp)
      have hy := hb y (by simp)
      rw [e]
      congr 1
      rcases hx with rfl | rfl <;> rcases hy with rfl | rfl
      · rfl
      · exact absurd h3 (by decide)
      · exact absurd h3 (by decide)
      · rfl
end Go.Proofs.Yteoljcbebiemlaa.Cr
