/- Bytes that came in, and what was packed. -/
import Derived.Test.YthngicplclecpaaBpRf
import Derived.ShutString
import Derived.ChangeOld
import Derived.Below
namespace Go.Proofs.Ythngicplclecpaa.Bi
open Go Go.ChangeShapes Go.WideShapes Go.ChangeAt Go.RowKit
open Go.Proofs.Ythngicplclecpaa.Cr (belowT IsRow)

theorem came {w : World} {a : Option Addr} {len cap : Nat} {zs : List Int} (h : IsRow .u8 w a len cap zs) : ∃ z : List Int, z.length = len ∧ (∀ n ∈ z, 0 ≤ n ∧ n ≤ 255) ∧ At w.heap.size w a z ∧ Src8 w (.slice a z.length cap) z ∧ len ≤ cap ∧ cap ≤ maxLen := by
  rcases h with ⟨rfl, rfl, rfl, rfl⟩ | ⟨x, rfl, hl, hm, hz, hc, hwf⟩
  · exact ⟨[], rfl, (fun z h => by cases h), (fun i hi => by simp at hi), .inl ⟨rfl, rfl⟩, Nat.le_refl _, by unfold maxLen; omega⟩
  · have hlen : (zs.take len).length = len := by simp; omega
    have hcl : Cl w x (zs.take len) := fun j u hu => by
      have hj : j < len := by
        have h3 := (List.getElem?_eq_some_iff.1 hu).1
        rw [List.length_map, hlen] at h3
        exact h3
      rw [hc j (by omega), ← hu]
      simp [hj, show j < zs.length by omega]
    refine ⟨zs.take len, hlen, fun n hn => bounds_u8 (hwf n (List.mem_of_mem_take hn)), fun i hi => ?_, .inr ⟨x, cap, rfl, hcl⟩, hl, hm⟩
    obtain ⟨b, off, e, _⟩ := ints_at hc (by omega)
    subst e
    have h1 := hcl i (.int .u8 ((zs.take len).getD i 0)) (by rw [List.getElem?_map, List.getD, List.getElem?_eq_getElem hi]; rfl)
    have h2 := lt_of_cell h1
    rw [Addr.add_lit] at h1 h2
    exact ⟨b, off, rfl, h2, h1⟩
theorem pkd_src {w : World} {g : Nat} {zs : List Int} (h : Pkd w g ((zs.length + 7) / 8) zs zs.length) (c : Nat) : Src8 w (.slice (some ⟨g, 0, none⟩) ((zs.length + 7) / 8) c) (pkl zs) := by
  refine .inr ⟨⟨g, 0, none⟩, c, by rw [pkl_len], fun j u hu => ?_⟩
  have hj := (List.getElem?_eq_some_iff.1 hu).1
  rw [List.length_map, pkl_len] at hj
  rw [Addr.add_lit, Nat.zero_add, h.cell hj, ← hu]
  simp [pkl, hj]
theorem pkd_at {w : World} {g : Nat} {zs : List Int} (h : Pkd w g ((zs.length + 7) / 8) zs zs.length) : At w.heap.size w (some ⟨g, 0, none⟩) (pkl zs) := by
  intro i hi
  rw [pkl_len] at hi
  refine ⟨g, 0, rfl, h.lt, ?_⟩
  rw [Nat.zero_add, h.cell hi]
  simp [pkl, hi]
theorem pkd_below {w w' : World} {g m k : Nat} {zs : List Int} (h : Pkd w g m zs k) (hb : Below w.heap.size w w') : Pkd w' g m zs k := h.of_block (hb.block g h.lt)
end Go.Proofs.Ythngicplclecpaa.Bi
