/- Bases, sizes and weights of shapes. -/
import Derived.Test.YteklahfgplbmcaaDoorBkRead
import Derived.Test.YteklahfgplbmcaaDoorRows
import Derived.WalkKit
import Derived.Below
import Derived.RegionTactic
import Derived.Deep.QuietTactic
import Derived.BigQuiet
import Derived.ChangeAlike
import Derived.Deep.OwnRows
import Derived.Deep.WholeRow
import Derived.Laws.Rows
import Derived.Laws.Tables
import Derived.ProofKit
import Derived.OpenShut
import Derived.Great.Walk
import Derived.ChangeKeysEq
import Derived.Lib.Hide
namespace Go.Proofs.YteklahfgplbmcaaDoor.Bk
open Go Go.ChangeShapes Go.WideShapes Go.ChangeAt Go.RowKit Go.Proofs.YteklahfgplbmcaaDoor.Bi Go.Proofs.YteklahfgplbmcaaDoor.Cr

theorem base_ok (d l h p : Int) (w : World) (hl : -60 ≤ l) (hl2 : l ≤ 0) (hh : 0 ≤ h) (hh2 : h ≤ 60) :
    Calls Tryd.prog 55 #[.agg #[.int .i64 d, .int .i64 l, .int .i64 h, .int .i64 p]] w fun e w' => e = .returned (.int .i64 (h - l + 1)) ∧ Below w.heap.size w w' := by
  have HB := Lib.hid ((Below.refl w.heap.size w).alloc (Nat.le_refl _) (.cells #[.int .i64 d, .int .i64 l, .int .i64 h, .int .i64 p] 82))
  go_enter Tryd.func55, Tryd.ntmps55
  go_wp2
  go_ret
  exact ⟨rfl, HB.out⟩

/-- A shape in a box. -/
abbrev Bx4 (w : World) (B : Nat) (d l h p : Int) : Prop := w.cell? ⟨B, 0, none⟩ = some (.int .i64 d) ∧ w.cell? ⟨B, 1, none⟩ = some (.int .i64 l) ∧ w.cell? ⟨B, 2, none⟩ = some (.int .i64 h) ∧ w.cell? ⟨B, 3, none⟩ = some (.int .i64 p) ∧ B < w.heap.size
theorem Bx4.below {w w' : World} {B : Nat} {d l h p : Int} (x : Bx4 w B d l h p) (hb : Below w.heap.size w w') : Bx4 w' B d l h p := by
  obtain ⟨a, b, c, e, f⟩ := x
  exact ⟨(hb.cell f).trans a, (hb.cell f).trans b, (hb.cell f).trans c, (hb.cell f).trans e, Nat.lt_of_lt_of_le f hb.size⟩
theorem heap_oth {w : World} {a b i : Nat} (v : Value) (h : a ≠ b) : (w.setCell ⟨a, i, none⟩ v).heap[b]? = w.heap[b]? := by
  simp only [World.setCell]
  show (w.heap.modify a _)[b]? = w.heap[b]?
  rw [Array.getElem?_modify, if_neg h]
theorem Bx4.set {w : World} {B g i : Nat} {d l h p : Int} (x : Bx4 w B d l h p) (hg : g ≠ B) (v : Value) : Bx4 (w.setCell ⟨g, i, none⟩ v) B d l h p := by
  obtain ⟨a, b, c, e, f⟩ := x
  exact ⟨(World.cell?_of_block (heap_oth v hg)).trans a, (World.cell?_of_block (heap_oth v hg)).trans b, (World.cell?_of_block (heap_oth v hg)).trans c, (World.cell?_of_block (heap_oth v hg)).trans e, by simpa [World.setCell] using f⟩
theorem bx4_new (w : World) (d l h p : Int) : Bx4 (w.alloc (.cells #[.int .i64 d, .int .i64 l, .int .i64 h, .int .i64 p] 82)) w.heap.size d l h p := by
  have r := World.rowIs_alloc w #[.int .i64 d, .int .i64 l, .int .i64 h, .int .i64 p] 82 (fun i => #[.int .i64 d, .int .i64 l, .int .i64 h, .int .i64 p].getD i (.int .i64 0)) (fun i hi => by
    simp at hi
    have : i = 0 ∨ i = 1 ∨ i = 2 ∨ i = 3 := by omega
    rcases this with rfl | rfl | rfl | rfl <;> rfl)
  exact ⟨r.cell (i := 0) (by simp), r.cell (i := 1) (by simp), r.cell (i := 2) (by simp), r.cell (i := 3) (by simp), by simp⟩

set_option maxHeartbeats 4000000 in
theorem size_ok (d b : Nat) (l h p : Int) (w : World) (hl : -60 ≤ l) (hl2 : l ≤ 0) (hh : 0 ≤ h) (hh2 : h ≤ 60) (hb : (b : Int) = h - l + 1) (hd : d ≤ 4) (hN : ∀ i, i ≤ d → (b ^ i : Nat) ≤ 289) :
    Calls Tryd.prog 46 #[.agg #[.int .i64 d, .int .i64 l, .int .i64 h, .int .i64 p]] w fun e w' => e = .returned (.int .i64 ((b ^ d : Nat) : Int)) ∧ Below w.heap.size w w' := by
  have HB := Lib.hid ((Below.refl w.heap.size w).alloc (Nat.le_refl _) (.cells #[.int .i64 d, .int .i64 l, .int .i64 h, .int .i64 p] 82))
  have HX := Lib.hid (bx4_new w d l h p)
  have HC := Lib.hid (fun w => base_ok d l h p w hl hl2 hh hh2)
  have HN := Lib.hid hN
  have hb2 : h - l + 1 = (b : Int) := hb.symm
  rw [hb2] at HC
  clear hN hb hb2 hl hl2 hh hh2
  go_enter Tryd.func46, Tryd.ntmps46
  go_wp2
  go_loopw [3, 6] (fun n i wr => ∃ k : Nat, k ≤ d ∧ i = .int .i64 k ∧ n = .int .i64 ((b ^ k : Nat) : Int) ∧ Hid (Bx4 wr w.heap.size d l h p) ∧ Hid (Below w.heap.size w wr)) (fun _ i _ => d - (intOf i).toNat)
  case atStart => exact ⟨0, by omega, rfl, by simp, HX, HB⟩
  case round =>
    obtain ⟨k, hk, rfl, rfl, hX, hB⟩ := hrel
    obtain ⟨c0, c1, c2, c3, c4⟩ := hX.out
    by_cases hlt : k < d
    · have p1 := HN.out (k + 1) (by omega)
      have p0 := HN.out k (by omega)
      have ep : ((b ^ k : Nat) : Int) * (b : Int) = ((b ^ (k + 1) : Nat) : Int) := by rw [Nat.pow_succ]; push_cast; rfl
      have q1 : ((b ^ (k + 1) : Nat) : Int) ≤ 289 := Int.ofNat_le.2 p1
      have q0 : 0 ≤ ((b ^ (k + 1) : Nat) : Int) := Int.natCast_nonneg _
      obtain ⟨P1, hP1⟩ : ∃ P1 : Int, ((b ^ (k + 1) : Nat) : Int) = P1 := ⟨_, rfl⟩
      rw [hP1] at ep q1 q0
      have HP1 := Lib.hid hP1
      clear hP1
      generalize ((b ^ k : Nat) : Int) = P0 at *
      go_wp2_with (go_at_call 55; ((with_reducible refine (HC.out _).mono ?_); rintro e w1 ⟨rfl, hb1⟩))
      go_roundw
      case rel => exact ⟨k + 1, by omega, by go_num, by rw [HP1.out], Lib.hid (hX.out.below hb1), Lib.hid (hB.out.trans (hb1.mono hB.out.size))⟩
      case measure => simp [intOf]; omega
    · have hend : k = d := by omega
      subst hend
      go_wp2
      go_ret
      exact ⟨rfl, hB.out⟩

/-! ### Weights -/
def wf (b : Nat) (l : Int) (N k r : Nat) (j : Nat) : Int := if j < N then ((wtd b l k (j / r) : Nat) : Int) else 0
theorem wf_zero (b : Nat) (l : Int) (N r j : Nat) : wf b l N 0 r j = 0 := by unfold wf wtd; simp
/-- What a place's size is, by digits. -/
theorem wf_step {b R q u t N k x : Nat} {l : Int} (hR : 0 < R) (hu : u < b) (ht : t < R) (hx : x = q * (b * R) + u * R + t) (hN : x < N) :
    wf b l N (k + 1) R x = wf b l N k (b * R) x + (l + u).natAbs := by
  have hb : 0 < b := by omega
  have e1 : x / R = q * b + u := by
    rw [hx, show q * (b * R) + u * R + t = R * (q * b + u) + t by rw [Nat.mul_add, Nat.mul_comm R u, ← Nat.mul_assoc q b R, Nat.mul_comm (q * b) R], Nat.mul_add_div hR, Nat.div_eq_of_lt ht]; rfl
  have e2 : (q * b + u) / b = q := by rw [Nat.mul_comm, Nat.mul_add_div hb, Nat.div_eq_of_lt hu]; rfl
  have e3 : (q * b + u) % b = u := by rw [Nat.mul_comm, Nat.mul_add_mod, Nat.mod_eq_of_lt hu]
  have e4 : x / (b * R) = q := by rw [Nat.mul_comm b R, ← Nat.div_div_eq_div_mul, e1, e2]
  unfold wf
  rw [if_pos hN, if_pos hN, e4, e1]
  conv => lhs; unfold wtd
  rw [e2, e3]; push_cast; rfl
theorem x_lt {b R q u t M : Nat} (hu : u < b) (ht : t < R) (hq : q < M) : q * (b * R) + u * R + t < M * (b * R) := by
  calc q * (b * R) + u * R + t < q * (b * R) + u * R + R := by omega
    _ = q * (b * R) + (u + 1) * R := by rw [Nat.succ_mul]; omega
    _ ≤ q * (b * R) + b * R := Nat.add_le_add_left (Nat.mul_le_mul_right _ hu) _
    _ = (q + 1) * (b * R) := by rw [Nat.succ_mul]
    _ ≤ M * (b * R) := Nat.mul_le_mul_right _ hq
theorem info84 : (Tryd.prog.info? 84).map (fun i => i.zero.map Value.cells) = some (some (Array.replicate 289 (.int .u8 0))) := by kernel_rfl
theorem size84 : (Tryd.prog.info? 84).map (·.size) = some 289 := by kernel_rfl
theorem info_parts' {p : Program} {t : TypeId} {v : Value} {n b : Nat} (h : (p.info? t).map (fun i => (i.zero, i.size, i.bytes)) = some (some v, n, b)) : ∃ i0, p.info? t = some i0 ∧ i0.zero = some v ∧ i0.size = n ∧ i0.bytes = b := by
  cases hi : p.info? t with
  | none => rw [hi] at h; simp at h
  | some i0 => rw [hi] at h; simp at h; exact ⟨i0, rfl, h.1, h.2.1, h.2.2⟩
theorem run_new {p : Program} {t : TypeId} {cs : Array Value} (h : (p.info? t).map (fun i => i.zero.map Value.cells) = some (some cs)) (w : World) : (Instr.alloc t true (.tuple #[])).run p w = .ok (.pointer (some ⟨w.heap.size, 0, none⟩)) (w.alloc (.cells cs t)) := by
  cases hi : p.info? t with
  | none => rw [hi] at h; simp at h
  | some i0 =>
    rw [hi] at h
    simp only [Option.map_some, Option.some.injEq] at h
    cases hz : i0.zero with
    | none => rw [hz] at h; simp at h
    | some z =>
      rw [hz] at h
      simp only [Option.map_some, Option.some.injEq] at h
      have h1 := run_typeInfo (w := w) hi
      unfold Instr.alloc zeroValue newVar newRow
      simp [h1, hz, h, Sem.run_bind]
theorem wpList_new84 (w : World) {ops : Array Oper} {rest : List Oper} {o : Oper} {a : Act} {Q : Exit → Act → World → Prop} (hg : o.guard = none) (hop : o.op = Op.alloc 84)
    (hK : wpList Tryd.prog ops Q rest (a.put o.dst (.pointer (some ⟨w.heap.size, 0, none⟩))) (w.alloc (.cells (Array.replicate 289 (.int .u8 0)) 84))) : wpList Tryd.prog ops Q (o :: rest) a w := by
  refine wpList_plain hg fun K hK' => ?_
  have hrun := run_new info84 w
  unfold Oper.wp
  simp [execOp, hop, hrun, Result.andThen]
  exact hK' _ _ hK
theorem new84 (w : World) : (w.alloc (.cells (Array.replicate 289 (.int .u8 0)) 84)).rowIs w.heap.size 84 289 (fun _ => .int .u8 0) :=
  ⟨_, Go.Deep.blk_alloc_new _ _, Array.size_replicate, fun i hi => by rw [Array.getElem?_replicate, if_pos hi]⟩
/-- The state of a walk through weights. -/
structure St (w0 : World) (B R O : Nat) (d l h p : Int) (g : Nat → Int) (w : World) : Prop where
  box : Bx4 w B d l h p
  res : w.rowIs R 84 289 (fun _ => .int .u8 0)
  out : w.rowIs O 84 289 (fun j => .int .u8 (g j))
  bl : Below w0.heap.size w0 w
theorem St.below {w0 w w' : World} {B R O : Nat} {d l h p : Int} {g : Nat → Int} (s : St w0 B R O d l h p g w) (hb : Below w.heap.size w w') : St w0 B R O d l h p g w' :=
  ⟨s.box.below hb, s.res.of_block (hb.block _ s.res.lt), s.out.of_block (hb.block _ s.out.lt), s.bl.trans (hb.mono s.bl.size)⟩
theorem St.congr {w0 w : World} {B R O : Nat} {d l h p : Int} {g g' : Nat → Int} (s : St w0 B R O d l h p g w) (e : ∀ j, j < 289 → g j = g' j) : St w0 B R O d l h p g' w :=
  ⟨s.box, s.res, s.out.congr fun j hj => by rw [e j hj], s.bl⟩
theorem St.set {w0 w : World} {B R O : Nat} {d l h p : Int} {A C : Nat → Int} {x : Nat} {v : Int} (s : St w0 B R O d l h p (fun j => if j < x then C j else A j) w) (hB : O ≠ B) (hR : O ≠ R) (hO : w0.heap.size ≤ O) (hv : v = C x) :
    St w0 B R O d l h p (fun j => if j < x + 1 then C j else A j) (w.setCell ⟨O, x, none⟩ (.int .u8 v)) :=
  ⟨s.box.set hB _, s.res.of_block (heap_oth _ hR), (s.out.set x (.int .u8 v)).congr (fun i _ => by
    by_cases h1 : i = x
    · subst h1; rw [if_pos rfl, if_pos (by omega), hv]
    · rw [if_neg h1]
      by_cases h2 : i < x
      · rw [if_pos h2, if_pos (by omega)]
      · rw [if_neg h2, if_neg (by omega)]), s.bl.setCell (p := ⟨O, x, none⟩) hO _⟩
theorem u8_in {n : Int} (h0 : 0 ≤ n) (h1 : n ≤ 255) : IntKind.u8.wrap n = n := by
  simp [IntKind.wrap, IntKind.bits, IntKind.signed]; omega
theorem below_setRow {b R : Nat} {w w' : World} (h : Below b w w') (hR : b ≤ R) (cs : Array Value) : Below b w (w'.setRow R cs) :=
  ⟨h.os, h.tape, h.output, by (show w.heap.size ≤ (w'.heap.modify R _).size); rw [Array.size_modify]; exact h.size, fun k hk => by
    show (w'.heap.modify R _)[k]? = _
    rw [Array.getElem?_modify, if_neg (by omega)]; exact h.block k hk⟩
def IsWt (b d N : Nat) (l : Int) (c : Array Value) : Prop := c.size = 289 ∧ ∀ i, i < 289 → c[i]? = some (.int .u8 (wf b l N d 1 i))

theorem st_new (w : World) (d l h p : Int) : St w w.heap.size (w.heap.size + 1) (w.heap.size + 1 + 1) d l h p (fun _ => 0)
    (((w.alloc (.cells #[.int .i64 d, .int .i64 l, .int .i64 h, .int .i64 p] 82)).alloc (.cells (Array.replicate 289 (.int .u8 0)) 84)).alloc (.cells (Array.replicate 289 (.int .u8 0)) 84)) := by
  have e1 : (w.alloc (.cells #[.int .i64 d, .int .i64 l, .int .i64 h, .int .i64 p] 82)).heap.size = w.heap.size + 1 := by simp
  have e2 : ((w.alloc (.cells #[.int .i64 d, .int .i64 l, .int .i64 h, .int .i64 p] 82)).alloc (.cells (Array.replicate 289 (.int .u8 0)) 84)).heap.size = w.heap.size + 1 + 1 := by simp
  have b1 := (Below.refl w.heap.size w).alloc (Nat.le_refl _) (.cells #[.int .i64 d, .int .i64 l, .int .i64 h, .int .i64 p] 82)
  have b2 := (Below.refl _ (w.alloc (.cells #[.int .i64 d, .int .i64 l, .int .i64 h, .int .i64 p] 82))).alloc (Nat.le_refl _) (.cells (Array.replicate 289 (.int .u8 0)) 84)
  have b3 := (Below.refl _ ((w.alloc (.cells #[.int .i64 d, .int .i64 l, .int .i64 h, .int .i64 p] 82)).alloc (.cells (Array.replicate 289 (.int .u8 0)) 84))).alloc (Nat.le_refl _) (.cells (Array.replicate 289 (.int .u8 0)) 84)
  have x1 := ((bx4_new w d l h p).below b2).below b3
  have r1 := new84 (w.alloc (.cells #[.int .i64 d, .int .i64 l, .int .i64 h, .int .i64 p] 82))
  have r2 := new84 ((w.alloc (.cells #[.int .i64 d, .int .i64 l, .int .i64 h, .int .i64 p] 82)).alloc (.cells (Array.replicate 289 (.int .u8 0)) 84))
  have r1' := r1.of_block (b3.block _ r1.lt)
  rw [e1] at r1'
  rw [e2] at r2
  exact ⟨x1, r1', r2, b1.trans ((b2.mono b1.size).trans (b3.mono (Nat.le_trans b1.size b2.size)))⟩
theorem pow_split {b d k : Nat} (h : k < d) : b ^ (d - k) = b * b ^ (d - (k + 1)) := by
  rw [show d - k = (d - (k + 1)) + 1 by omega, Nat.pow_succ, Nat.mul_comm]
set_option maxRecDepth 100000 in
set_option maxHeartbeats 8000000 in
theorem weights_ok (d b : Nat) (l h p : Int) (w : World) (hl : -60 ≤ l) (hl2 : l ≤ 0) (hh : 0 ≤ h) (hh2 : h ≤ 60) (hb : (b : Int) = h - l + 1) (hd : d ≤ 4) (hN : ∀ i, i ≤ d → (b ^ i : Nat) ≤ 289)
    (hW : ∀ k n, k ≤ d → wtd b l k n ≤ 255) :
    Calls Tryd.prog 45 #[.agg #[.int .i64 d, .int .i64 l, .int .i64 h, .int .i64 p]] w fun e w' => ∃ c, e = .returned (.agg c) ∧ IsWt b d (b ^ d) l c ∧ Below w.heap.size w w' := by
  have HS0 := Lib.hid (st_new w d l h p)
  have HC := Lib.hid (fun w => base_ok d l h p w hl hl2 hh hh2)
  have HZ := Lib.hid (fun w => size_ok d b l h p w hl hl2 hh hh2 hb hd hN)
  have hb2 : h - l + 1 = (b : Int) := hb.symm
  rw [hb2] at HC
  have hb1 : 1 ≤ b := by omega
  have HW := Lib.hid hW
  have HNd := hN d (Nat.le_refl _)
  obtain ⟨N, hNN⟩ : ∃ N, b ^ d = N := ⟨_, rfl⟩
  rw [hNN] at HNd HZ ⊢
  have HN := Lib.hid hNN
  have HHb := Lib.hid hb
  clear hN hW hb hb2 hNN
  go_enter Tryd.func45, Tryd.ntmps45
  go_wp2_with first
    | (refine wpList_new84 _ rfl rfl ?_)
    | (go_at_call 46; ((with_reducible refine (HZ.out _).mono ?_); rintro e w1 ⟨rfl, hb1⟩; have S1 := Lib.hid (HS0.out.below hb1); obtain ⟨k0, k1, k2, k3, k4⟩ := S1.out.box))
  have hOB : w.heap.size + 1 + 1 ≠ w.heap.size := by omega
  have hOR : w.heap.size + 1 + 1 ≠ w.heap.size + 1 := by omega
  have hO : w.heap.size ≤ w.heap.size + 1 + 1 := by omega
  have hRb : w.heap.size ≤ w.heap.size + 1 := by omega
  clear HS0 hb1 k0 k1 k2 k3 k4
  generalize w.heap.size + 1 + 1 = O at *
  generalize w.heap.size + 1 = R at *
  have S2 := Lib.hid (S1.out.congr (g' := wf b l N 0 (b ^ (d - 0))) fun j _ => (wf_zero b l N _ j).symm)
  clear S1
  go_loopw [5, 13] (fun r i wr => ∃ k : Nat, k ≤ d ∧ i = .int .i64 k ∧ r = .int .i64 ((b ^ (d - k) : Nat) : Int) ∧ Hid (St w w.heap.size R O d l h p (wf b l N k (b ^ (d - k))) wr)) (fun _ i _ => d - (intOf i).toNat)
  case atStart => exact ⟨0, by omega, rfl, by rw [Nat.sub_zero, HN.out], S2⟩
  case round =>
    obtain ⟨k, hk, rfl, rfl, hS⟩ := hrel
    obtain ⟨c0, c1, c2, c3, c4⟩ := hS.out.box
    clear S2
    by_cases hlt : k < d
    · have hps := pow_split (b := b) hlt
      obtain ⟨r1, hr1⟩ : ∃ r1, b ^ (d - (k + 1)) = r1 := ⟨_, rfl⟩
      have hr1p : 0 < r1 := by rw [← hr1]; exact Nat.pow_pos (by omega)
      have hNM : N = b ^ k * (b * r1) := by rw [← HN.out, ← hr1, ← hps, ← Nat.pow_add]; congr 1; omega
      rw [hr1] at hps
      rw [hps] at hS ⊢
      have hMN : b * r1 ≤ N := by rw [hNM]; exact Nat.le_mul_of_pos_left _ (Nat.pow_pos (by omega))
      have hr1N : r1 ≤ b * r1 := Nat.le_mul_of_pos_left _ (by omega)
      obtain ⟨M, hM⟩ : ∃ M, b ^ k = M := ⟨_, rfl⟩
      rw [hM] at hNM
      have hq : Int.tdiv ((b * r1 : Nat) : Int) (b : Int) = r1 := by
        rw [Int.tdiv_eq_ediv_of_nonneg (by omega)]; push_cast; rw [Int.mul_comm]; exact Int.mul_ediv_cancel _ (by omega)
      have HHM := Lib.hid hNM
      have HR1 := Lib.hid hr1
      clear hr1 hps hNM hM
      obtain ⟨br, hbr⟩ : ∃ br, b * r1 = br := ⟨_, rfl⟩
      rw [hbr] at hq hMN hr1N hS ⊢
      have HBR := Lib.hid hbr
      clear hbr
      go_wp2_with (go_at_call 55; ((with_reducible refine (HC.out _).mono ?_); rintro e w2 ⟨rfl, hb2⟩; have S3 := Lib.hid (hS.out.below hb2); obtain ⟨k0, k1, k2, k3, k4⟩ := S3.out.box))
      have HLU := Lib.hid hlt
      clear hS c0 c1 c2 c3 c4 hb2 k0 k1 k2 k3 k4 hk hlt
      have S4 := Lib.hid (S3.out.congr (g' := fun j => if j < 0 then wf b l N (k + 1) r1 j else wf b l N k br j) fun j _ => by rw [if_neg (by omega)])
      clear S3
      obtain ⟨wo, hwo⟩ : ∃ wo : World, wo = wr := ⟨_, rfl⟩
      go_loopw [6] (fun n wr => ∃ q x : Nat, q ≤ M ∧ Hid (x = q * br) ∧ n = .int .i64 x ∧ x ≤ N ∧ Hid (St w w.heap.size R O d l h p (fun j => if j < x then wf b l N (k + 1) r1 j else wf b l N k br j) wr)) (fun n _ => N - (intOf n).toNat)
      case atStart => exact ⟨0, 0, by omega, Lib.hid (by simp), rfl, by omega, S4⟩
      case round =>
        obtain ⟨q, x, hqM, hx, rfl, hxN, hS⟩ := hrel
        by_cases hlt2 : x < N
        · obtain ⟨c0, c1, c2, c3, c4⟩ := hS.out.box
          have hqM' : q < M := by
            rcases Nat.lt_or_ge q M with hh | hh
            · exact hh
            · have := Nat.mul_le_mul_right br hh
              have e1 := HHM.out; rw [HBR.out] at e1; have e2 := hx.out; omega
          go_wp2
          clear c0 c1 c2 c3 c4
          obtain ⟨wo2, hwo2⟩ : ∃ wo : World, wo = wr := ⟨_, rfl⟩
          go_loopw [6, 7] (fun n v wr => ∃ u y : Nat, u ≤ b ∧ Hid (y = x + u * r1) ∧ n = .int .i64 y ∧ v = .int .i64 (l + (u : Int)) ∧ Hid (St w w.heap.size R O d l h p (fun j => if j < y then wf b l N (k + 1) r1 j else wf b l N k br j) wr)) (fun _ v _ => b - (intOf v - l).toNat)
          case atStart => exact ⟨0, x, by omega, Lib.hid (by simp), rfl, by simp, hS⟩
          case round =>
            obtain ⟨u, y, hu, hy, rfl, rfl, hS2⟩ := hrel
            obtain ⟨c0, c1, c2, c3, c4⟩ := hS2.out.box
            have hhb := HHb.out
            by_cases hlt3 : u < b
            · have hle : l + (u : Int) ≤ h := by omega
              clear hhb
              go_wp2
              clear c0 c1 c2 c3 c4
              obtain ⟨wo3, hwo3⟩ : ∃ wo : World, wo = wr := ⟨_, rfl⟩
              go_loopw [6, 31] (fun n ti wr => ∃ t z : Nat, t ≤ r1 ∧ Hid (z = y + t) ∧ n = .int .i64 z ∧ ti = .int .i64 t ∧ Hid (St w w.heap.size R O d l h p (fun j => if j < z then wf b l N (k + 1) r1 j else wf b l N k br j) wr)) (fun _ ti _ => r1 - (intOf ti).toNat)
              case atStart => exact ⟨0, y, by omega, Lib.hid (by simp), rfl, rfl, hS2⟩
              case round =>
                obtain ⟨t, z, ht, hz, rfl, rfl, hS3⟩ := hrel
                by_cases hlt4 : t < r1
                · have hz' : z = q * (b * r1) + u * r1 + t := by rw [hz.out, hy.out, hx.out, HBR.out]
                  have hzN : z < N := by rw [hz', HHM.out]; exact x_lt hlt3 hlt4 hqM'
                  have hst := wf_step (N := N) (k := k) (l := l) hr1p hlt3 hlt4 hz' hzN
                  rw [HBR.out] at hst
                  have hc0 := hS3.out.out.cell (i := z) (by omega)
                  have hcf := hS3.out.out.frozen z
                  rw [if_neg (by omega)] at hc0
                  have hA0 : 0 ≤ wf b l N k br z := by unfold wf; rw [if_pos hzN]; exact Int.natCast_nonneg _
                  have hC1 : wf b l N (k + 1) r1 z ≤ 255 := by unfold wf; rw [if_pos hzN]; exact Int.ofNat_le.2 (HW.out (k + 1) _ HLU.out)
                  have hz289 : z < 289 := by omega
                  obtain ⟨V, hV⟩ : ∃ V, wf b l N (k + 1) r1 z = V := ⟨_, rfl⟩
                  have hS4 := Lib.hid (hS3.out.set hOB hOR hO hV.symm)
                  rw [hV] at hst hC1
                  clear hV hz' hS3
                  generalize wf b l N k br z = A at *
                  have hVs := Lib.hid (show (A + max (l + (u : Int)) (-(l + (u : Int)))) % 256 = V by omega)
                  clear hst
                  go_wp2
                  go_roundw
                  case rel => exact ⟨t + 1, z + 1, by omega, Lib.hid (by rw [hz.out]; omega), by go_num, by go_num, by rw [hVs.out]; exact hS4⟩
                  case measure => simp [intOf]; omega
                · have hend : t = r1 := by omega
                  have hy2 : z = x + (u + 1) * r1 := by rw [hz.out, hy.out, hend, Nat.succ_mul]; omega
                  go_wp2
                  go_roundw
                  case rel => exact ⟨u + 1, z, by omega, Lib.hid hy2, rfl, by rw [show (l + ((u + 1 : Nat) : Int)) = l + (u : Int) + 1 by omega], hS3⟩
                  case measure => simp [intOf]; omega
            · have hend : u = b := by omega
              have hgt : ¬ l + (u : Int) ≤ h := by omega
              have hx2 : y = (q + 1) * br := by rw [hy.out, hx.out, hend, HBR.out, Nat.succ_mul]
              have hyN : y ≤ N := by
                have e1 := HHM.out; rw [HBR.out] at e1
                rw [hx2, e1]; exact Nat.mul_le_mul_right _ hqM'
              have hbr0 : x < y := by rw [hy.out, hend, HBR.out]; omega
              clear hhb
              go_wp2
              go_roundw
              case rel => exact ⟨q + 1, y, by omega, Lib.hid hx2, rfl, hyN, hS2⟩
              case measure => simp [intOf]; omega
        · have hend : x = N := by omega
          have hS5 := Lib.hid (hS.out.congr (g' := wf b l N (k + 1) (b ^ (d - (k + 1)))) fun j _ => by
            rw [HR1.out]
            by_cases hj : j < x
            · rw [if_pos hj]
            · rw [if_neg hj]; unfold wf; rw [if_neg (by omega), if_neg (by omega)])
          have hlu := HLU.out
          clear hS
          go_wp2
          go_roundw
          case rel => exact ⟨k + 1, by omega, by go_num, by rw [HR1.out], hS5⟩
          case measure => simp [intOf]; omega
    · have hend : k = d := by omega
      subst hend
      obtain ⟨cs, hcs, hcs2, hcs3⟩ := hS.out.out
      obtain ⟨cr, hcr, hcr2, hcr3⟩ := hS.out.res
      have HU := Lib.hid (fun i hi => hcs3 i hi)
      have hone : cs.all (·.oneCell') = true := by
        rw [Array.all_eq_true_iff_forall_mem]
        intro v hv
        obtain ⟨i, hi, rfl⟩ := Array.mem_iff_getElem.1 hv
        have := hcs3 i (by omega)
        rw [Array.getElem?_eq_getElem hi] at this
        simp only [Option.some.injEq] at this
        rw [this]; rfl
      have hsi := size84
      rw [← hcs2] at hsi
      have hb3 := below_setRow hS.out.bl hRb cs
      have hg2 := setRow_heap wr R cr cs 84 (0, 0) hcr
      have HI := Lib.hid hsi
      have HO := Lib.hid hone
      have HB3 := Lib.hid hb3
      have HG2 := Lib.hid hg2
      have HCS := Lib.hid hcs
      have HCR := Lib.hid hcr
      have HSZ := Lib.hid (show cr.size = cs.size by omega)
      have HC2 := Lib.hid hcs2
      clear hsi hone hb3 hg2 hcs hcr hcs3 hcr3 hS hcs2 hcr2
      go_wp2_with first
        | (refine wpList_load_row rfl 84 _ rfl O rfl 84 cs _ _ HCS.out Tryd.underlying84 rfl HI.out ?_)
        | (refine wpList_store_row rfl 84 _ _ rfl R cs rfl rfl 84 cr HCR.out HI.out HSZ.out HO.out ?_)
      refine bodyPost_ret (results_cell_row rfl _ _ R 84 cs _ _ rfl HG2.out Tryd.underlying84 rfl HI.out) rfl ?_
      refine ⟨cs, rfl, ⟨HC2.out, fun i hi => ?_⟩, HB3.out⟩
      have := HU.out i hi
      rw [Nat.sub_self, Nat.pow_zero] at this
      exact this
end Go.Proofs.YteklahfgplbmcaaDoor.Bk
