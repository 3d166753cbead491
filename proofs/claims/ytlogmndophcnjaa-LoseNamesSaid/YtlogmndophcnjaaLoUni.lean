/- What lose's Lines does, told as one. -/
import Derived.Test.YtlogmndophcnjaaLoAlive
import Derived.Test.YtlogmndophcnjaaLoFade
import Derived.Test.YtlogmndophcnjaaLoErr
import Derived.WalkKit
import Derived.ProofKit
import Derived.OpenShut
import Derived.Lib.Hide
namespace Go.Proofs.Ytlogmndophcnjaa.Lo
open Go Go.ChangeShapes Go.WideShapes Go.ChangeAt Go.RowKit

/-- 256 lines that may be, as they lie. -/
structure Ln (w : World) (b off cap : Nat) (z : List Int) : Prop where
  len : z.length = 256
  inl : InLine z
  rd : Rd w (.slice (some ⟨b, off, none⟩) 256 cap) z
  lt : b < w.heap.size
  cells : ∀ i, i < 256 → w.cell? ⟨b, off + i, none⟩ = some (.int .i64 (z.getD i 0))
theorem Ln.below {w w' : World} {b off cap : Nat} {z : List Int} (h : Ln w b off cap z) (hb : Below w.heap.size w w') : Ln w' b off cap z :=
  ⟨h.len, h.inl, h.rd.below hb, Nat.lt_of_lt_of_le h.lt hb.size, fun i hi => (hb.cell (p := ⟨b, off + i, none⟩) h.lt).trans (h.cells i hi)⟩
theorem Ln.bd {w : World} {b off cap : Nat} {z : List Int} (h : Ln w b off cap z) {i : Nat} (hi : i < 256) : -268435455 ≤ z.getD i 0 ∧ z.getD i 0 ≤ 268435455 :=
  h.inl (z.getD i 0) (by simp [h.len, hi])
theorem Ln.rep {w : World} {g : Nat} {x : Int} (h : w.rowIs g 3 256 (fun _ => .int .i64 x)) (h0 : -268435455 ≤ x) (h1 : x ≤ 268435455) : Ln w g 0 256 (Lo.rep x) :=
  ⟨rep_len x, rep_in h0 h1, rep_rd h, h.lt, rep_cells h⟩

/-- A lost line. -/
def lineF (zb za : List Int) (l1 : Nat) (T M : Int) (j : Nat) : Int :=
  if l1 = 256 ∧ M ≤ 2 then btw (zb.getD j 0) (za.getD j 0) (M + 1) T else if 8 < T then 0 else zb.getD j 0 / 2 ^ T.toNat

/-- Nothing behind. -/
theorem lines_e (b off cap : Nat) (a1 : Option Addr) (c1 : Nat) (zb : List Int) (T M : Int) (w : World) (t0 : 1 ≤ T) (t1 : T ≤ M) (t2 : M ≤ 65536) (hb : Ln w b off cap zb) :
    Calls Try.prog 4 #[.slice (some ⟨b, off, none⟩) 256 cap, .slice a1 0 c1, .int .i64 T, .int .i64 M] w fun e w' => ∃ g, e = .returned (.tuple #[.slice (some ⟨g, 0, none⟩) 256 256, .int .i64 0]) ∧ w'.rowIs g 3 256 (fun j => .int .i64 (lineF zb [] 0 T M j)) ∧ Below w.heap.size w w' := by
  have ra : Rd w (.slice a1 0 c1) [] := .inl ⟨_, _, rfl, rfl⟩
  have la : InLine [] := fun z h => by cases h
  by_cases hT : 8 < T
  · refine (zero_e b off cap a1 c1 zb [] T M w t0 t1 t2 hT hb.inl la hb.rd ra hb.lt hb.cells).mono ?_
    rintro e w' ⟨g, rfl, hr, hw⟩
    exact ⟨g, rfl, hr.congr fun i _ => by unfold lineF; simp [hT], hw⟩
  · by_cases hM : M ≤ 2
    · refine (fade_e1 b off cap a1 c1 zb [] T M w t0 t1 t2 (by omega) hM hb.inl la hb.rd ra hb.lt hb.cells).mono ?_
      rintro e w' ⟨g, rfl, hr, hw⟩
      exact ⟨g, rfl, hr.congr fun i _ => by unfold lineF; simp [hT], hw⟩
    · refine (fade_e2 b off cap a1 c1 zb [] T M w t0 t1 t2 (by omega) (by omega) hb.inl la hb.rd ra hb.lt hb.cells).mono ?_
      rintro e w' ⟨g, rfl, hr, hw⟩
      exact ⟨g, rfl, hr.congr fun i _ => by unfold lineF; simp [hT], hw⟩

/-- Lines behind. -/
theorem lines_f (b off cap b1 o1 c1 : Nat) (zb za : List Int) (T M : Int) (w : World) (t0 : 1 ≤ T) (t1 : T ≤ M) (t2 : M ≤ 65536) (hb : Ln w b off cap zb) (ha : Ln w b1 o1 c1 za) :
    Calls Try.prog 4 #[.slice (some ⟨b, off, none⟩) 256 cap, .slice (some ⟨b1, o1, none⟩) 256 c1, .int .i64 T, .int .i64 M] w fun e w' => ∃ g, e = .returned (.tuple #[.slice (some ⟨g, 0, none⟩) 256 256, .int .i64 0]) ∧ w'.rowIs g 3 256 (fun j => .int .i64 (lineF zb za 256 T M j)) ∧ Below w.heap.size w w' := by
  by_cases hM : M ≤ 2
  · refine (lines_btw b off cap b1 o1 c1 zb za T M w (by omega) hb.len ha.len hb.inl ha.inl hb.rd ha.rd hb.lt ha.lt hb.cells ha.cells).mono ?_
    rintro e w' ⟨g, rfl, hr, hw⟩
    exact ⟨g, rfl, hr.congr fun i _ => by unfold lineF; simp [hM], hw⟩
  by_cases hT : 8 < T
  · refine (zero_f b off cap _ c1 zb za T M w t0 t1 t2 hT (by omega) hb.inl ha.inl hb.rd ha.rd hb.lt hb.cells).mono ?_
    rintro e w' ⟨g, rfl, hr, hw⟩
    exact ⟨g, rfl, hr.congr fun i _ => by unfold lineF; simp [hT, hM], hw⟩
  · refine (fade_f b off cap _ c1 zb za T M w t0 t1 t2 (by omega) (by omega) hb.inl ha.inl hb.rd ha.rd hb.lt hb.cells).mono ?_
    rintro e w' ⟨g, rfl, hr, hw⟩
    exact ⟨g, rfl, hr.congr fun i _ => by unfold lineF; simp [hT, hM], hw⟩

/-! ### Slices that came in -/
def IsRow (k : IntKind) (w : World) (a : Option Addr) (len cap : Nat) (zs : List Int) : Prop :=
  (a = none ∧ len = 0 ∧ cap = 0 ∧ zs = []) ∨
  ∃ x, a = some x ∧ len ≤ cap ∧ cap ≤ maxLen ∧ zs.length = cap ∧ (∀ i, i < zs.length → w.cell? (x.add i) = some (.int k (zs.getD i 0))) ∧ ∀ n ∈ zs, (Lit.int k n).wf = true
theorem lt_of_cell {w : World} {p : Addr} {v : Value} (h : w.cell? p = some v) : p.block < w.heap.size := by
  refine Nat.not_le.1 fun hle => ?_
  have : w.heap[p.block]? = none := by simp; omega
  simp [World.cell?, this] at h
theorem IsRow.rd {w : World} {a : Option Addr} {len cap : Nat} {zs : List Int} (h : IsRow .i64 w a len cap zs) : ∃ xs : List Int, xs.length = len ∧ Rd w (.slice a xs.length cap) xs ∧ ∀ n ∈ xs, (Lit.int .i64 n).wf = true := by
  rcases h with ⟨rfl, rfl, rfl, rfl⟩ | ⟨x, rfl, hl, hm, hz, hc, hwf⟩
  · exact ⟨[], rfl, .inl ⟨_, _, rfl, rfl⟩, fun n h => by cases h⟩
  · have hlen : (zs.take len).length = len := by simp; omega
    refine ⟨zs.take len, hlen, ?_, fun n h => hwf n (List.mem_of_mem_take h)⟩
    rw [hlen]
    by_cases h0 : len = 0
    · subst h0; exact .inl ⟨_, _, rfl, rfl⟩
    · obtain ⟨b, off, rfl, hc'⟩ := ints_at hc (by omega)
      have hb := lt_of_cell (hc' 0 (by omega))
      refine .inr ⟨b, off, cap, by rw [hlen], hb, by omega, hm, fun i hi => ?_⟩
      rw [hlen] at hi
      rw [hc' i (by omega)]
      simp [hi]
theorem IsRow.le {w : World} {a : Option Addr} {len cap : Nat} {zs : List Int} (h : IsRow .i64 w a len cap zs) : len ≤ maxLen := by
  rcases h with ⟨_, rfl, _, _⟩ | ⟨_, _, hl, hm, _⟩
  · unfold maxLen; omega
  · omega
theorem Rd.ln {w : World} {a : Option Addr} {cap : Nat} {z : List Int} (h : Rd w (.slice a 256 cap) z) (hl : z.length = 256) (hi : InLine z) : ∃ b off, a = some ⟨b, off, none⟩ ∧ Ln w b off cap z := by
  have h' := h
  rcases h with ⟨_, _, e, _⟩ | ⟨b, off, cap', e, k2, k3, k4, k5⟩
  · simp only [Value.slice.injEq] at e; omega
  simp only [Value.slice.injEq] at e
  obtain ⟨rfl, _, rfl⟩ := e
  rw [hl] at k5
  exact ⟨b, off, rfl, hl, hi, h', k2, k5⟩

/-- What Lines answers, whatever comes in. -/
inductive Way (w : World) (a0 : Option Addr) (l0 c0 : Nat) (a1 : Option Addr) (l1 c1 : Nat) (zb za : List Int) (T M : Int) : Prop
  | bad (r : Int) (hr : r = 2 ∨ r = 4) (h : ∀ w1, Below w.heap.size w w1 → Calls Try.prog 4 #[.slice a0 l0 c0, .slice a1 l1 c1, .int .i64 T, .int .i64 M] w1 fun e w' => e = .returned (.tuple #[.slice none 0 0, .int .i64 r]) ∧ w1 = w')
  | empty (b off : Nat) (hT : 1 ≤ T ∧ T ≤ M ∧ M ≤ 65536) (ha : a0 = some ⟨b, off, none⟩) (h0 : l0 = 256) (h1 : l1 = 0) (hb : Ln w b off c0 zb)
  | full (b off b1 o1 : Nat) (hT : 1 ≤ T ∧ T ≤ M ∧ M ≤ 65536) (ha : a0 = some ⟨b, off, none⟩) (ha1 : a1 = some ⟨b1, o1, none⟩) (h0 : l0 = 256) (h1 : l1 = 256) (hb : Ln w b off c0 zb) (hb1 : Ln w b1 o1 c1 za)
theorem way (a0 : Option Addr) (l0 c0 : Nat) (a1 : Option Addr) (l1 c1 : Nat) (zb za : List Int) (T M : Int) (w : World) (m0 : l0 ≤ 1000) (m1 : l1 ≤ 1000) (lb : zb.length = l0) (la : za.length = l1) (rb : Rd w (.slice a0 l0 c0) zb) (ra : Rd w (.slice a1 l1 c1) za) : Way w a0 l0 c0 a1 l1 c1 zb za T M := by
  by_cases h1 : T < 1 ∨ M < T ∨ 65536 < M
  · exact .bad 2 (by omega) fun _ _ => err1 _ _ T M _ h1
  by_cases h2 : l0 ≠ 256 ∨ (l1 ≠ 256 ∧ l1 ≠ 0)
  · exact .bad 4 (by omega) fun _ _ => err2 a0 a1 l0 l1 c0 c1 T M _ (by omega) (by omega) (by omega) (by omega) (by omega) h2
  obtain rfl : l0 = 256 := by omega
  by_cases hb : InLine zb
  · by_cases ha : InLine za
    · obtain ⟨b, off, rfl, hL⟩ := rb.ln lb hb
      by_cases hl : l1 = 0
      · exact .empty b off (by omega) rfl rfl hl hL
      · obtain rfl : l1 = 256 := by omega
        obtain ⟨b1, o1, rfl, hL1⟩ := ra.ln la ha
        exact .full b off b1 o1 (by omega) rfl rfl rfl rfl hL hL1
    · exact .bad 2 (by omega) fun _ hbl => err3 a0 a1 l1 c0 c1 zb za T M _ (by omega) (by omega) (by omega) (by omega) (rb.below hbl) (ra.below hbl) (.inr ⟨hb, bad_of ha⟩)
  · exact .bad 2 (by omega) fun _ hbl => err3 a0 a1 l1 c0 c1 zb za T M _ (by omega) (by omega) (by omega) (by omega) (rb.below hbl) (ra.below hbl) (.inl (bad_of hb))
end Go.Proofs.Ytlogmndophcnjaa.Lo
