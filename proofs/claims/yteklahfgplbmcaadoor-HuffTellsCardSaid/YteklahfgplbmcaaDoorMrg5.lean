/- Texts of one claim, one behind the other: BtMath, BtSz, BtBs, BtBk, BtGs. -/
import Derived.Test.YteklahfgplbmcaaDoorMrg2
import Derived.Test.YteklahfgplbmcaaDoorMrg4
import Derived.WalkKit
import Derived.Below
import Derived.RegionTactic
import Derived.Deep.QuietTactic
import Derived.BigQuiet
import Derived.ChangeAlike
import Derived.Deep.OwnRows
import Derived.Deep.Cut
import Derived.ProofKit
import Derived.OpenShut
import Derived.Laws.EntriesVeiled
import Derived.Lib.Hide
import Derived.Deep.RegionHeld3
import Derived.Laws.AppendOwn
import Derived.Laws.AppendOwnNone
import Derived.Laws.Rows
import Derived.Deep.WholeRow
import Derived.Laws.ResultCell
set_option linter.unusedVariables false
/- The document's way to a book, as lists. -/
namespace Go.Proofs.YteklahfgplbmcaaDoor.Bk
open Go

/-- The entries so far: all of lesser sums, and those of this sum ahead of e. -/
def cur (id s e : Nat) : List Nat := ordf (wt id) (Nn id) s ++ (List.range e).filter (fun n => wt id n = s)
theorem cur_zero (id s : Nat) : cur id s 0 = ordf (wt id) (Nn id) s := by simp [cur]
theorem cur_end (id s : Nat) : cur id s (Nn id) = cur id (s + 1) 0 := by simp [cur, ordf, List.range_succ]
theorem cur_step (id s e : Nat) : cur id s (e + 1) = if wt id e = s then cur id s e ++ [e] else cur id s e := by
  unfold cur
  rw [List.range_succ, List.filter_append]
  by_cases h : wt id e = s
  · rw [if_pos h]; simp [h]
  · rw [if_neg h]; simp [h]
theorem cur_nil (id : Nat) : cur id 0 0 = [] := by simp [cur, ordf]
theorem mem_ordf {id s n : Nat} (h : n ∈ ordf (wt id) (Nn id) s) : wt id n < s ∧ n < Nn id := by
  simp only [ordf, List.mem_flatMap, List.mem_range, List.mem_filter, decide_eq_true_eq] at h
  obtain ⟨t, ht, hn, e⟩ := h
  exact ⟨by omega, hn⟩
theorem cur_fresh {id s e : Nat} : e ∉ cur id s e ∨ wt id e ≠ s := by
  by_cases h : wt id e = s
  · refine .inl (fun q => ?_)
    simp only [cur, List.mem_append, List.mem_filter, List.mem_range] at q
    rcases q with q | q
    · have := (mem_ordf q).1; omega
    · omega
  · exact .inr h
/-- Ranks so far. -/
def rks (C : List Nat) (n : Nat) : Int := if n ∈ C then (C.idxOf n : Nat) else 0
theorem rks_step {C : List Nat} {e : Nat} (h : e ∉ C) (n : Nat) : rks (C ++ [e]) n = if n = e then (C.length : Int) else rks C n := by
  unfold rks
  by_cases hn : n = e
  · subst hn
    rw [if_pos (by simp), if_pos rfl, List.idxOf_append, if_neg h]
    simp
  · rw [if_neg hn]
    by_cases hc : n ∈ C
    · rw [if_pos (by simp [hc]), if_pos hc, List.idxOf_append, if_pos hc]
    · rw [if_neg (by simp [hc, hn]), if_neg hc]
theorem ordf_pre (id s : Nat) : ∀ d, ∃ t, ordf (wt id) (Nn id) (s + d) = ordf (wt id) (Nn id) s ++ t
  | 0 => ⟨[], by simp⟩
  | d + 1 => by
    obtain ⟨t, ht⟩ := ordf_pre id s d
    refine ⟨t ++ (List.range (Nn id)).filter (fun n => wt id n = s + d), ?_⟩
    rw [← List.append_assoc, ← ht]
    unfold ordf
    rw [show s + (d + 1) = (s + d) + 1 by omega, List.range_succ, List.flatMap_append]
    simp
theorem ord_len {id : Nat} (h1 : 1 ≤ id) (h2 : id ≤ 12) : (ord id).length = Nn id := (ord_is h1 h2).length
/-- When there are all, these are all. -/
theorem cur_all {id s : Nat} (h1 : 1 ≤ id) (h2 : id ≤ 12) (hs : s ≤ 61) (h : Nn id ≤ (cur id s 0).length) : cur id s 0 = ord id := by
  rw [cur_zero] at h ⊢
  obtain ⟨t, ht⟩ := ordf_pre id s (61 - s)
  rw [show s + (61 - s) = 61 by omega] at ht
  have hl := ord_len h1 h2
  unfold ord at hl ⊢
  rw [ht] at hl ⊢
  rw [List.length_append] at hl
  have : t = [] := List.eq_nil_of_length_eq_zero (by omega)
  rw [this, List.append_nil]
theorem cur_more {id s : Nat} (h1 : 1 ≤ id) (h2 : id ≤ 12) (hs : s ≤ 61) (h : (cur id s 0).length < Nn id) : s < 61 := by
  refine Nat.not_le.1 fun hle => ?_
  have : s = 61 := by omega
  subst this
  have hl := ord_len h1 h2
  rw [cur_zero] at h
  unfold ord at hl
  omega
theorem cur_bd {id s e : Nat} (h1 : 1 ≤ id) (h2 : id ≤ 12) (hs : s < 61) (he : e ≤ Nn id) : (cur id s e).length ≤ Nn id := by
  have hl := ord_len h1 h2
  obtain ⟨t, ht⟩ := ordf_pre id (s + 1) (61 - (s + 1))
  rw [show s + 1 + (61 - (s + 1)) = 61 by omega, ← cur_zero id (s + 1), ← cur_end] at ht
  unfold ord at hl
  rw [ht, List.length_append] at hl
  have h3 : (cur id s e).length ≤ (cur id s (Nn id)).length := by
    unfold cur
    simp only [List.length_append]
    obtain ⟨d, hd⟩ : ∃ d, Nn id = e + d := ⟨Nn id - e, by omega⟩
    have h4 : (List.filter (fun n => decide (wt id n = s)) (List.range e)).length ≤ (List.filter (fun n => decide (wt id n = s)) (List.range (Nn id))).length := by
      have h5 : (List.range e).Sublist (List.range (Nn id)) := List.range_sublist.2 he
      exact (h5.filter _).length_le
    omega
  omega
theorem rks_all {id : Nat} (h1 : 1 ≤ id) (h2 : id ≤ 12) {n : Nat} (hn : n < Nn id) : rks (ord id) n = (rk id n : Nat) := by
  unfold rks rk
  have h := (ord_is h1 h2).rank hn
  rw [if_pos (List.mem_iff_getElem?.2 ⟨_, h.2⟩)]
end Go.Proofs.YteklahfgplbmcaaDoor.Bk

/- The document's sizes of entries. -/
namespace Go.Proofs.YteklahfgplbmcaaDoor.BkRf
open Go Go.ChangeShapes Go.WideShapes Go.ChangeAt Go.RowKit Go.Proofs.YteklahfgplbmcaaDoor.Bk Go.Proofs.YteklahfgplbmcaaDoor.Bi Go.Proofs.YteklahfgplbmcaaDoor.Cr Go.Proofs.YteklahfgplbmcaaDoor.Fx

set_option maxRecDepth 100000 in
set_option maxHeartbeats 8000000 in
theorem size_ok (id n : Nat) (w : World) (h1 : 1 ≤ id) (h2 : id ≤ 12) (hn : n < Nn id) : Calls Tryd.prog 84 #[.int .i64 id, .int .i64 n] w fun e w' => e = .returned (.int .i64 (wt id n : Nat)) ∧ Below w.heap.size w w' := by
  obtain ⟨f1, f2, f3, f4, f5, f6, f7, f8, f9, f10, f11, f12, f13, f14⟩ := facts h1 h2
  have HD := Lib.hid (fun w => dim_ok (id : Int) w (by omega) (by omega))
  have HL := Lib.hid (fun w => low_ok (id : Int) w (by omega) (by omega))
  have HH := Lib.hid (fun w => high_ok (id : Int) w (by omega) (by omega))
  simp only [Int.toNat_natCast] at HD HL HH
  have hw1 : IntKind.i64.wrap (hg id - lw id) = hg id - lw id := by rw [IntKind.wrap_i64]; omega
  have hw2 : hg id - lw id + 1 = (bs id : Int) := by omega
  have hn289 : n ≤ 289 := by omega
  have hT := wt_lt h1 h2 n
  obtain ⟨T, hTT⟩ : ∃ T, wt id n = T := ⟨_, rfl⟩
  have H0 : Hid (0 + wtd (bs id) (lw id) (dm id - 0) (n / bs id ^ 0) = T) := Lib.hid (by rw [Nat.pow_zero, Nat.div_one, Nat.sub_zero, Nat.zero_add]; exact hTT)
  rw [hTT] at hT
  rw [hTT]
  clear hTT
  generalize dm id = d at *
  generalize bs id = b at *
  generalize lw id = l at *
  generalize hg id = h at *
  clear hn f1 f3 f4 f6 f7 f8 f14 h1 h2
  have hbz : ¬ (b : Int) = 0 := by omega
  have hbz2 : ¬ b = 0 := by omega
  have e0 : n / b ^ 0 = n := by simp
  go_enter Tryd.func84, Tryd.ntmps84
  go_wp2_with first
    | (go_at_call 60; ((with_reducible refine (HH.out _).mono ?_); rintro e wa ⟨rfl, hba⟩; have hb0 := Lib.hid (bT hbb hba)))
    | (go_at_call 59; ((with_reducible refine (HL.out _).mono ?_); rintro e wb ⟨rfl, hbb⟩))
  go_loop [1, 7, 8] (fun N s i => ∃ k S : Nat, k ≤ d ∧ i = .int .i64 k ∧ N = .int .i64 ((n / b ^ k : Nat) : Int) ∧ s = .int .i64 (S : Nat) ∧ Hid (S + wtd b l (d - k) (n / b ^ k) = T)) (fun _ _ i => d - (intOf i).toNat)
  case atStart => exact ⟨0, 0, by omega, rfl, by rw [e0], rfl, H0⟩
  case round =>
    obtain ⟨k, S, hk, rfl, rfl, rfl, hS⟩ := hrel
    clear H0
    by_cases hlt : k < d
    · obtain ⟨m, hm⟩ : ∃ m, n / b ^ k = m := ⟨_, rfl⟩
      have hm289 : m ≤ 289 := by rw [← hm]; exact Nat.le_trans (Nat.div_le_self _ _) hn289
      have hm' := Lib.hid (show n / b ^ (k + 1) = m / b by rw [Nat.pow_succ, ← Nat.div_div_eq_div_mul, hm])
      have hs1 := hS.out
      rw [hm, show d - k = (d - (k + 1)) + 1 by omega, wtd] at hs1
      rw [hm]
      clear hm e0 hS
      have hr1 : Int.tmod (m : Int) (b : Int) = ((m % b : Nat) : Int) := by rw [Int.tmod_eq_emod_of_nonneg (by omega)]; rfl
      have hr2 : Int.tdiv (m : Int) (b : Int) = ((m / b : Nat) : Int) := by rw [Int.tdiv_eq_ediv_of_nonneg (by omega)]; rfl
      have hmb : ((m % b : Nat) : Int) ≤ 120 := by have := Nat.mod_lt m f2; omega
      have hm0 : (0 : Int) ≤ ((m % b : Nat) : Int) := Int.natCast_nonneg _
      have hdm : ((m / b : Nat) : Int) ≤ 289 := by have := Nat.div_le_self m b; omega
      have hd0 : (0 : Int) ≤ ((m / b : Nat) : Int) := Int.natCast_nonneg _
      have hww : IntKind.i64.wrap (l + ((m % b : Nat) : Int)) = l + ((m % b : Nat) : Int) := by rw [IntKind.wrap_i64]; omega
      have hS60 : S ≤ 60 := by omega
      obtain ⟨V, hV⟩ : ∃ V, l + ((m % b : Nat) : Int) = V := ⟨_, rfl⟩
      rw [hV] at hs1 hww
      have hVb : -60 ≤ V ∧ V ≤ 200 := by omega
      obtain ⟨hV0, hV1⟩ := hVb
      generalize ((m % b : Nat) : Int) = M at *
      have HS1 := Lib.hid hs1
      clear hs1
      obtain ⟨D, hD⟩ : ∃ D : Int, ((m / b : Nat) : Int) = D := ⟨_, rfl⟩
      rw [hD] at hr2 hdm hd0
      have HDm := Lib.hid hD
      clear hD
      by_cases c : V < 0
      · go_wp2_with (go_at_call 58; ((with_reducible refine (HD.out _).mono ?_); rintro e w0 ⟨rfl, rfl⟩))
        go_round
        case rel => exact ⟨k + 1, S + V.natAbs, by omega, by go_num, by rw [hm'.out, HDm.out], by congr 1; omega, Lib.hid (by have := HS1.out; rw [hm'.out]; omega)⟩
        case measure => simp [intOf]; omega
      · go_wp2_with (go_at_call 58; ((with_reducible refine (HD.out _).mono ?_); rintro e w0 ⟨rfl, rfl⟩))
        go_round
        case rel => exact ⟨k + 1, S + V.natAbs, by omega, by go_num, by rw [hm'.out, HDm.out], by congr 1; omega, Lib.hid (by have := HS1.out; rw [hm'.out]; omega)⟩
        case measure => simp [intOf]; omega
    · have hend : k = d := by omega
      subst hend
      have hs1 := hS.out
      rw [Nat.sub_self, wtd, Nat.add_zero] at hs1
      subst hs1
      clear hS
      go_wp2_with (go_at_call 58; ((with_reducible refine (HD.out _).mono ?_); rintro e w0 ⟨rfl, rfl⟩))
      go_ret
      exact ⟨rfl, hb0.out⟩
end Go.Proofs.YteklahfgplbmcaaDoor.BkRf

/- The document's Book. -/
namespace Go.Proofs.YteklahfgplbmcaaDoor.BkRf
open Go Go.ChangeShapes Go.WideShapes Go.ChangeAt Go.RowKit Go.Proofs.YteklahfgplbmcaaDoor.Bk Go.Proofs.YteklahfgplbmcaaDoor.Bi Go.Proofs.YteklahfgplbmcaaDoor.Cr Go.Proofs.YteklahfgplbmcaaDoor.Fx

def zi (C : List Nat) : List Int := C.map fun n => ((n : Nat) : Int)
theorem zi_len (C : List Nat) : (zi C).length = C.length := by simp [zi]
theorem zi_snoc (C : List Nat) (e : Nat) : zi (C ++ [e]) = zi C ++ [(e : Int)] := by simp [zi]
/-- The state while entries are put in order. -/
structure SB (w : World) (T2 K R Z id : Nat) (C : List Nat) (v : Value) (x : World) : Prop where
  k : x.heap[K]? = some (.cells #[.int .i64 id, .int .i64 (pl id), v, .slice (some ⟨R, 0, none⟩) (Nn id) (Nn id)] 24)
  o : Own3 (Z + 1) x v (zi C)
  r : x.rowIs R 3 (Nn id) (fun j => .int .i64 (rks C j))
  z : x.rowIs Z 3 (Nn id) (fun j => .int .i64 (wt id j : Nat))
  t : x.heap[T2]? = some (.cells #[.int .i64 0, .int .i64 0, .slice none 0 0, .slice none 0 0] 24)
  b : Below w.heap.size w x
  s : Z + 1 ≤ x.heap.size
theorem c4 {x : World} {K : Nat} {a b c d : Value} (h : x.heap[K]? = some (.cells #[a, b, c, d] 24)) : x.cell? ⟨K, 0, none⟩ = some a ∧ x.cell? ⟨K, 1, none⟩ = some b ∧ x.cell? ⟨K, 2, none⟩ = some c ∧ x.cell? ⟨K, 3, none⟩ = some d ∧ ∀ i, x.frozen? ⟨K, i, none⟩ = false := by
  refine ⟨?_, ?_, ?_, ?_, fun i => ?_⟩ <;> simp [World.cell?, World.frozen?, h]
theorem hset {x : World} {K : Nat} {a b c d u : Value} (h : x.heap[K]? = some (.cells #[a, b, c, d] 24)) : (x.setCell ⟨K, 2, none⟩ u).heap[K]? = some (.cells #[a, b, u, d] 24) := by
  simp only [World.setCell, Array.getElem?_modify, if_true, h, Option.map_some]
  rfl
theorem hne {x : World} {K B i : Nat} {u : Value} (h : K ≠ B) : (x.setCell ⟨B, i, none⟩ u).heap[K]? = x.heap[K]? := Below.heap_setCell x ⟨B, i, none⟩ u K h
theorem SB.push {w : World} {T2 K R Z id e : Nat} {C : List Nat} {v v' : Value} {x x' : World} {o : Obj} (q : SB w T2 K R Z id C v x) (hK : K < R) (hR : R < Z) (hT : T2 < K) (hw : w.heap.size ≤ T2) (he : e < Nn id) (hn : e ∉ C)
    (ho : Own3 (Z + 1) x' v' (zi (C ++ [e]))) (hg : ((x.setCell ⟨R, e, none⟩ (.int .i64 (C.length : Nat))).alloc o).grownBy x' v.ownBlock) : SB w T2 K R Z id (C ++ [e]) v' (x'.setCell ⟨K, 2, none⟩ v') := by
  have hv : ∀ k, v.ownBlock = some k → Z + 1 ≤ k := fun k hk => (World.ownsRow.lt q.o k hk).1
  have hs := q.s
  have hb : ∀ k, k < Z + 1 → x'.heap[k]? = (x.setCell ⟨R, e, none⟩ (.int .i64 (C.length : Nat))).heap[k]? := fun k hk => by
    rw [hg.block k (by simp; omega) (fun e => by have := hv k e.symm; omega)]
    exact Below.heap_alloc _ _ k (by simp; omega)
  have hbx : Below w.heap.size w x' := by
    refine Below.grown (((q.b.setCell (p := ⟨R, e, none⟩) (by simp only; omega) _).alloc (by simp; omega) o)) hg (by simp; omega) (fun k hk => by have := hv k hk; omega)
  refine ⟨hset (a := .int .i64 id) (b := .int .i64 (pl id)) (c := v) (d := .slice (some ⟨R, 0, none⟩) (Nn id) (Nn id)) ?_, ?_, ?_, ?_, ?_, ?_, ?_⟩
  · rw [hb K (by omega), hne (by omega)]; exact q.k
  · exact ownsRow_setCell_below ho (by simp only; omega) _
  · have h1 : (x.setCell ⟨R, e, none⟩ (.int .i64 (C.length : Nat))).rowIs R 3 (Nn id) (fun j => .int .i64 (rks (C ++ [e]) j)) := (q.r.set e (.int .i64 (C.length : Nat))).congr fun j _ => by
      by_cases h : j = e
      · subst h; simp [rks_step hn]
      · simp [rks_step hn, h]
    have h2 := h1.of_block (hb R (by omega))
    exact h2.of_block (hne (by omega))
  · have h1 : (x.setCell ⟨R, e, none⟩ (.int .i64 (C.length : Nat))).rowIs Z 3 (Nn id) (fun j => .int .i64 (wt id j : Nat)) := q.z.of_block (hne (by omega))
    exact (h1.of_block (hb Z (by omega))).of_block (hne (by omega))
  · rw [hne (by omega), hb T2 (by omega), hne (by omega)]; exact q.t
  · exact hbx.setCell (by simp only; omega) _
  · have := hg.size; simp at this ⊢; omega
end Go.Proofs.YteklahfgplbmcaaDoor.BkRf

/- The document's Book: its walk. -/
namespace Go.Proofs.YteklahfgplbmcaaDoor.BkRf
open Go Go.ChangeShapes Go.WideShapes Go.ChangeAt Go.RowKit Go.Proofs.YteklahfgplbmcaaDoor.Bk Go.Proofs.YteklahfgplbmcaaDoor.Bi Go.Proofs.YteklahfgplbmcaaDoor.Cr Go.Proofs.YteklahfgplbmcaaDoor.Fx

def zcs : Array Value := #[.int .i64 0, .int .i64 0, .slice none 0 0, .slice none 0 0]
def fz (id m j : Nat) : Int := if j < m then (wt id j : Nat) else 0
/-- The state while sizes are filled in. -/
structure SA (w : World) (T2 K R Z id m : Nat) (x : World) : Prop where
  k : x.heap[K]? = some (.cells #[.int .i64 id, .int .i64 (pl id), .slice none 0 0, .slice (some ⟨R, 0, none⟩) (Nn id) (Nn id)] 24)
  r : x.rowIs R 3 (Nn id) (fun _ => .int .i64 0)
  z : x.rowIs Z 3 (Nn id) (fun j => .int .i64 (fz id m j))
  t : x.heap[T2]? = some (.cells #[.int .i64 0, .int .i64 0, .slice none 0 0, .slice none 0 0] 24)
  b : Below w.heap.size w x
  n1 : w.heap.size ≤ T2
  n2 : T2 < K
  n3 : K < R
  n4 : R < Z
theorem SA.s {w : World} {T2 K R Z id m : Nat} {x : World} (q : SA w T2 K R Z id m x) : Z + 1 ≤ x.heap.size := q.z.lt
theorem SA.below {w : World} {T2 K R Z id m : Nat} {x x' : World} (q : SA w T2 K R Z id m x) (h : Below x.heap.size x x') : SA w T2 K R Z id m x' :=
  ⟨(h.block _ (Array.getElem?_eq_some_iff.1 q.k).1).trans q.k, q.r.of_block (h.block _ q.r.lt), q.z.of_block (h.block _ q.z.lt), (h.block _ (Array.getElem?_eq_some_iff.1 q.t).1).trans q.t, q.b.trans (h.mono q.b.size), q.n1, q.n2, q.n3, q.n4⟩
theorem SA.set {w : World} {T2 K R Z id m : Nat} {x : World} (q : SA w T2 K R Z id m x) : SA w T2 K R Z id (m + 1) (x.setCell ⟨Z, m, none⟩ (.int .i64 (wt id m : Nat))) := by
  have h1 := q.n1
  have h2 := q.n2
  have h3 := q.n3
  have h4 := q.n4
  refine ⟨(hne (by omega)).trans q.k, q.r.of_block (hne (by omega)), (q.z.set m (.int .i64 (wt id m : Nat))).congr fun j _ => ?_, (hne (by omega)).trans q.t, q.b.setCell (by simp only; omega) _, h1, h2, h3, h4⟩
  unfold fz
  by_cases h : j = m
  · rw [if_pos h, if_pos (by omega), h]
  · rw [if_neg h]
    by_cases h2 : j < m
    · rw [if_pos h2, if_pos (by omega)]
    · rw [if_neg h2, if_neg (by omega)]
theorem SA.done {w : World} {T2 K R Z id : Nat} {x : World} (q : SA w T2 K R Z id (Nn id) x) : SB w T2 K R Z id (cur id 0 0) (.slice none 0 0) x := by
  rw [cur_nil]
  refine ⟨q.k, World.ownsRow_nil x _ 3 1, q.r.congr fun j _ => by simp [rks], q.z.congr fun j hj => by unfold fz; rw [if_pos hj], q.t, q.b, q.s⟩
theorem sa_new {w w1 w2 : World} {id : Nat} (hb1 : Below (w.heap.size + 1) (w.alloc (.cells #[.int .i64 0, .int .i64 0, .slice none 0 0, .slice none 0 0] 24)) w1)
    (hb2 : Below (w1.heap.size + 1) (w1.alloc (.cells #[.int .i64 id, .int .i64 (pl id), .slice none 0 0, .slice none 0 0] 24)) w2) :
    SA w w.heap.size w1.heap.size w2.heap.size (w2.heap.size + 1) id 0 (((w2.alloc (.cells (madeCells #[.int .i64 0] (Nn id)) 3)).setCell ⟨w1.heap.size, 3, none⟩ (.slice (some ⟨w2.heap.size, 0, none⟩) (Nn id) (Nn id))).alloc (.cells (madeCells #[.int .i64 0] (Nn id)) 3)) := by
  have s1 := hb1.size
  have s2 := hb2.size
  simp only [World.size_alloc] at s1 s2
  have t0 := heap_alloc_last w (.cells #[.int .i64 0, .int .i64 0, .slice none 0 0, .slice none 0 0] 24)
  have t1 := (hb1.block _ (by omega)).trans t0
  have t2 := ((al w1 (.cells #[.int .i64 id, .int .i64 (pl id), .slice none 0 0, .slice none 0 0] 24)).block _ (by omega)).trans t1
  have t3 := (hb2.block _ (by omega)).trans t2
  have k0 := heap_alloc_last w1 (.cells #[.int .i64 id, .int .i64 (pl id), .slice none 0 0, .slice none 0 0] 24)
  have k1 := (hb2.block _ (by omega)).trans k0
  have k2 := ((al w2 (.cells (madeCells #[.int .i64 0] (Nn id)) 3)).block _ (by omega)).trans k1
  have r0 := World.rowIs_made w2 (.int .i64 0) (Nn id) 3
  have b1 : Below w.heap.size w w1 := (al w _).trans (hb1.mono (by omega))
  have b2 : Below w.heap.size w w2 := (b1.alloc (by omega) _).trans (hb2.mono (by omega))
  have z0 := World.rowIs_made ((w2.alloc (.cells (madeCells #[.int .i64 0] (Nn id)) 3)).setCell ⟨w1.heap.size, 3, none⟩ (.slice (some ⟨w2.heap.size, 0, none⟩) (Nn id) (Nn id))) (.int .i64 0) (Nn id) 3
  have hz : ((w2.alloc (.cells (madeCells #[.int .i64 0] (Nn id)) 3)).setCell ⟨w1.heap.size, 3, none⟩ (.slice (some ⟨w2.heap.size, 0, none⟩) (Nn id) (Nn id))).heap.size = w2.heap.size + 1 := by simp
  rw [hz] at z0
  have HA := al ((w2.alloc (.cells (madeCells #[.int .i64 0] (Nn id)) 3)).setCell ⟨w1.heap.size, 3, none⟩ (.slice (some ⟨w2.heap.size, 0, none⟩) (Nn id) (Nn id))) (.cells (madeCells #[.int .i64 0] (Nn id)) 3)
  rw [hz] at HA
  refine ⟨(HA.block _ (by omega)).trans ?_, ((r0.of_block (hne (by omega))).of_block (HA.block _ (by omega))), z0.congr fun j _ => by unfold fz; rw [if_neg (by omega)], (HA.block _ (by omega)).trans ((hne (by omega)).trans (((al w2 _).block _ (by omega)).trans t3)), ?_, Nat.le_refl _, by omega, by omega, by omega⟩
  · simp only [World.setCell, Array.getElem?_modify, if_true, k2, Option.map_some]
    rfl
  · exact (((b2.alloc (by omega) _).setCell (by simp only; omega) _).trans (HA.mono (by omega)))
theorem one_last (x : World) (p : Addr) (u v : Value) : ((x.setCell p u).alloc (.cells #[v] 3)).cell? ⟨x.heap.size, 0, none⟩ = some v := by
  have h := heap_alloc_last (x.setCell p u) (.cells #[v] 3)
  have e : (x.setCell p u).heap.size = x.heap.size := by simp
  rw [e] at h
  rw [cell_of_row _ _ 0 #[v] 3 (0, 0) h]; rfl
theorem SB.mid {w : World} {T2 K R Z id e : Nat} {C : List Nat} {a : Option Addr} {n c : Nat} {x x' : World} {o : Obj} {u : Value} (q : SB w T2 K R Z id C (.slice a n c) x) (hK : K < R) (hR : R < Z) (hg : ((x.setCell ⟨R, e, none⟩ u).alloc o).grownBy x' (Value.slice a n c).ownBlock) : x'.cell? ⟨K, 2, none⟩ = some (.slice a n c) ∧ x'.frozen? ⟨K, 2, none⟩ = false := by
  have hv : ∀ k, (Value.slice a n c).ownBlock = some k → Z + 1 ≤ k := fun k hk => (World.ownsRow.lt q.o k hk).1
  have hs := q.s
  have h1 : x'.heap[K]? = x.heap[K]? := by
    rw [hg.block K (by simp; omega) (fun e => by have := hv K e.symm; omega)]
    exact (Below.heap_alloc _ _ K (by simp; omega)).trans (hne (by omega))
  obtain ⟨_, _, c2, _, cf⟩ := c4 (h1.trans q.k)
  exact ⟨c2, cf 2⟩
theorem own_slice {base : Nat} {w : World} {v : Value} {zs : List Int} (h : Own3 base w v zs) : ∃ a c, v = .slice a zs.length c := by
  obtain ⟨hx, ⟨rfl, hn⟩ | ⟨g, cap, cur, rfl, hg, hh, hc, hm, hs, ht⟩⟩ := h
  · exact ⟨none, 0, by rw [hn]⟩
  · exact ⟨_, _, rfl⟩
theorem own_one {base : Nat} {w : World} {v : Value} {zs : List Int} (h : Own3 base w v zs) : v.oneCell' = true := by
  obtain ⟨a, c, rfl⟩ := own_slice h
  rfl
theorem results_cell1 {fn : Func} {p : Tmp} {ty : TypeId} (h : fn.results = #[.cell p ty]) (tmps : Array Value) (P : Program) (w : World) :
    (results fn tmps).run P w = ((asAddr (tmps.getD p undef)).run P w).andThen fun a w₁ => (loadVar ty a).run P w₁ := by
  simp only [results, h]
  simp [Sem.run_bind, Result.andThen]
theorem results_c_row {P : Program} {fn : Func} {p : Tmp} {ty : TypeId} (h : fn.results = #[.cell p ty]) (tmps : Array Value) (w : World) (g : Nat) (t : TypeId) (cs : Array Value) (fr : Nat × Nat) (d : TypeDesc)
    (hp : tmps.getD p undef = .pointer (some ⟨g, 0, none⟩)) (hg : w.heap[g]? = some (.cells cs t fr))
    (hu : P.underlying ty = some d) (hd : (match d with | .struct _ | .array _ _ => true | _ => false) = true) (hi : (P.info? ty).map (·.size) = some cs.size) :
    (results fn tmps).run P w = .ok (.agg cs) w := by
  rw [results_cell1 h, hp]
  have h1 : (asAddr (.pointer (some ⟨g, 0, none⟩))).run P w = .ok ⟨g, 0, none⟩ w := rfl
  rw [h1]
  simp only [Result.andThen_ok, run_loadVar_row w g t ty cs fr d hg hu hd hi]
/-- A list that the call made. -/
def RdF (base : Nat) (w : World) (v : Value) (zs : List Int) : Prop := (∃ a c, v = .slice a zs.length c) ∧ ∀ x : World, (∀ g, base ≤ g → g < w.heap.size → x.heap[g]? = w.heap[g]?) → Rd x v zs
theorem f3k {w1 w2 : World} {id : Nat} {o : Obj} (hb2 : Below (w1.heap.size + 1) (w1.alloc (.cells #[.int .i64 id, .int .i64 (pl id), .slice none 0 0, .slice none 0 0] 24)) w2) : (w2.alloc o).frozen? ⟨w1.heap.size, 3, none⟩ = false ∧ (w2.alloc o).cell? ⟨w1.heap.size, 3, none⟩ = some (.slice none 0 0) := by
  have s2 := hb2.size
  simp only [World.size_alloc] at s2
  have k0 := heap_alloc_last w1 (.cells #[.int .i64 id, .int .i64 (pl id), .slice none 0 0, .slice none 0 0] 24)
  have k1 := (hb2.block _ (by omega)).trans k0
  have k2 := ((al w2 o).block _ (by omega)).trans k1
  obtain ⟨a, b, c, d, e⟩ := c4 k2
  exact ⟨e 3, d⟩
def rkL (id : Nat) : List Int := (List.range (Nn id)).map (fun j => rkI id j)
theorem rkL_len (id : Nat) : (rkL id).length = Nn id := by simp [rkL]
theorem rkL_get {id j : Nat} (h : j < Nn id) : (rkL id).getD j 0 = rkI id j := by simp [rkL, h]
theorem own3_rd {base : Nat} {w : World} {v : Value} {zs : List Int} (h : Own3 base w v zs) : Rd w v zs := Fx.Own.rd (base := base) h
theorem one_bk2 (a b : Int) (x y : Option Addr) (n c n' c' : Nat) : (#[Value.int .i64 a, .int .i64 b, .slice x n c, .slice y n' c'] : Array Value).all (·.oneCell') = true := by
  rw [Array.all_eq_true_iff_forall_mem]
  intro v hv
  have h : v ∈ [Value.int .i64 a, .int .i64 b, .slice x n c, .slice y n' c'] := Array.mem_toList_iff.2 hv
  simp at h
  rcases h with rfl | rfl | rfl | rfl <;> rfl

set_option maxRecDepth 100000 in
set_option maxHeartbeats 8000000 in
theorem rbook_ok (id : Nat) (w : World) (h1 : 1 ≤ id) (h2 : id ≤ 12) : Calls Tryd.prog 54 #[.int .i64 id] w fun e w' => ∃ v1 v2, e = .returned (.agg #[.int .i64 id, .int .i64 (pl id), v1, v2]) ∧ RdF w.heap.size w' v1 (zi (ord id)) ∧ RdF w.heap.size w' v2 (rkL id) ∧ Below w.heap.size w w' := by
  obtain ⟨f1, f2, f3, f4, f5, f6, f7, f8, f9, f10, f11, f12, f13, f14⟩ := facts h1 h2
  have HPL := Lib.hid (fun w => plain_ok (id : Int) w (by omega) (by omega))
  simp only [Int.toNat_natCast] at HPL
  have HM := Lib.hid (fun w => many_ok id w h1 h2)
  have HSZ := Lib.hid (fun n w (h : n < Nn id) => size_ok id n w h1 h2 h)
  obtain ⟨i0, hi, hz0, hz1, hz2⟩ := info_parts' info3
  have h12 : Hid (1 ≤ id ∧ id ≤ 12) := Lib.hid ⟨h1, h2⟩
  have F8 := Lib.hid f8
  clear f1 f2 f3 f4 f5 f6 f7 f9 f10 f11 f12 f13 f14 h1 h2
  go_enter Tryd.func54, Tryd.ntmps54
  go_wp2_with first
    | (go_at_call 83; ((with_reducible refine (HPL.out _).mono ?_); rintro e w1 ⟨rfl, hb1⟩; simp only [World.size_alloc] at hb1))
    | (refine wpList_store_row rfl 24 _ _ rfl w1.heap.size #[.int .i64 id, .int .i64 (pl id), .slice none 0 0, .slice none 0 0] rfl rfl 24 #[.int .i64 0, .int .i64 0, .slice none 0 0, .slice none 0 0] (heap_alloc_last w1 _) size24 rfl rfl ?_; rw [World.setRow_alloc_new])
    | (go_at_call 56; ((with_reducible refine (HM.out _).mono ?_); rintro e w2 ⟨rfl, hb2⟩; simp only [World.size_alloc] at hb2; have HS0 := Lib.hid (sa_new hb1 hb2); obtain ⟨hf1, hf2⟩ := f3k (o := .cells (madeCells #[.int .i64 0] (Nn id)) 3) hb2))
    | (refine wpList_make_row _ rfl _ _ 22 rfl 3 i0 (.int .i64 0) Tryd.underlying22 hi hz0 hz1 rfl .i64 .i64 (Nn id) rfl rfl (by rw [hz2]; omega) (by omega) ?_)
  clear hb1 hb2 hf1 hf2 HPL HM
  generalize hT2 : w.heap.size = T2 at *
  generalize w1.heap.size = K at *
  generalize w2.heap.size = R at *
  obtain ⟨NN, hNN⟩ : ∃ NN, Nn id = NN := ⟨_, rfl⟩
  have HNN := Lib.hid hNN
  have f8' : NN ≤ 289 := by rw [← hNN]; exact f8
  rw [hNN]
  rw [hNN] at HS0
  go_loopw [6] (fun i wr => ∃ m : Nat, m ≤ NN ∧ i = .int .i64 m ∧ Hid (SA w T2 K R (R + 1) id m wr)) (fun i _ => NN - (intOf i).toNat)
  case atStart => exact ⟨0, Nat.zero_le _, rfl, HS0⟩
  case round =>
    obtain ⟨m, hm, rfl, hS⟩ := hrel
    clear HS0
    by_cases hlt : m < NN
    · have HC := Lib.hid (fun x => HSZ.out m x (by rw [HNN.out]; exact hlt))
      clear HSZ
      go_wp2_with first
        | (go_at_call 84; ((with_reducible refine (HC.out _).mono ?_); rintro e w3 ⟨rfl, hb3⟩; have hS3 := Lib.hid (hS.out.below hb3); have cz := hS3.out.z.cell (i := m) (by rw [HNN.out]; exact hlt); have cf := hS3.out.z.frozen m))
      go_roundw
      case rel => exact ⟨m + 1, by omega, by go_num, Lib.hid hS3.out.set⟩
      case measure => simp [intOf]; omega
    · have hend : m = NN := by omega
      subst hend
      have hB0 := hS.out
      rw [← HNN.out] at hB0
      have hB := Lib.hid hB0.done
      have hn1 := hB0.n1
      have hn2 := hB0.n2
      have hn3 := hB0.n3
      clear hB0 hS HSZ
      go_wp2
      go_loopw [7] (fun si wr => ∃ (s : Nat) (v : Value), s ≤ 61 ∧ si = .int .i64 s ∧ Hid (SB w T2 K R (R + 1) id (cur id s 0) v wr)) (fun si _ => 61 - (intOf si).toNat)
      case atStart => exact ⟨0, _, Nat.zero_le _, rfl, hB⟩
      case round =>
        obtain ⟨s, v, hs, rfl, hq⟩ := hrel
        clear hB
        obtain ⟨ga, gc, hv⟩ := own_slice hq.out.o
        rw [zi_len] at hv
        obtain ⟨k0, k1, k2, k3, kf⟩ := c4 hq.out.k
        subst hv
        by_cases hlt : (cur id s 0).length < m
        · have hs61 := cur_more h12.out.1 h12.out.2 hs (by rw [HNN.out]; exact hlt)
          clear hs
          go_wp2
          go_loopw [8] (fun ei wr => ∃ (e : Nat) (v : Value), e ≤ m ∧ ei = .int .i64 e ∧ Hid (SB w T2 K R (R + 1) id (cur id s e) v wr)) (fun ei _ => m - (intOf ei).toNat)
          case atStart => exact ⟨0, _, Nat.zero_le _, rfl, hq⟩
          case round =>
            obtain ⟨e, v, he, rfl, hq1⟩ := hrel
            clear hq k0 k1 k2 k3 kf hlt
            by_cases hlt2 : e < m
            · obtain ⟨ga, gc, hv⟩ := own_slice hq1.out.o
              rw [zi_len] at hv
              obtain ⟨k0, k1, k2, k3, kf⟩ := c4 hq1.out.k
              have hkf3 := kf 2
              clear kf
              rw [HNN.out] at k3
              subst hv
              have cz := hq1.out.z.cell (i := e) (by rw [HNN.out]; exact hlt2)
              have hst := Lib.hid (cur_step id s e)
              by_cases hwe : wt id e = s
              · have hfr : e ∉ cur id s e := (cur_fresh (id := id) (s := s) (e := e)).resolve_right (fun h => h hwe)
                have HFR := Lib.hid hfr
                have cr := hq1.out.r.cell (i := e) (by rw [HNN.out]; exact hlt2)
                have crf := hq1.out.r.frozen e
                have hcl := cur_bd (e := e) h12.out.1 h12.out.2 hs61 (by rw [HNN.out]; exact he)
                rw [HNN.out] at hcl
                obtain ⟨L, hL⟩ : ∃ L, (cur id s e).length = L := ⟨_, rfl⟩
                have HL := Lib.hid hL
                rw [hL] at hcl k2
                rw [hwe] at cz
                have HST : Hid (cur id s (e + 1) = cur id s e ++ [e]) := Lib.hid (by rw [hst.out, if_pos hwe])
                obtain ⟨rv, hrv⟩ : ∃ rv, rks (cur id s e) e = rv := ⟨_, rfl⟩
                rw [hrv] at cr
                clear hst hfr hrv
                have q2 : (wr.setCell ⟨R, e, none⟩ (.int .i64 L)).cell? ⟨K, 2, none⟩ = some (.slice ga L gc) := (World.cell?_of_block (hne (by show K ≠ R; omega))).trans k2
                have ho1 : Own3 (R + 1 + 1) ((wr.setCell ⟨R, e, none⟩ (.int .i64 L)).alloc (.cells #[.int .i64 e] 3)) (.slice ga L gc) (zi (cur id s e)) := World.ownsRow.alloc (ownsRow_setCell_below (by have := hq1.out.o; rw [HL.out] at this; exact this) (by show R < R + 1 + 1; omega) _) _
                have hsz := hq1.out.s
                have hzl : (zi (cur id s e)).length = L := by rw [zi_len, HL.out]
                go_wp2_with (at_builtin; refine wpList_append_own _ rfl _ _ 22 rfl (R + 1 + 1) 3 i0 (.int .i64 0) 1 8 Tryd.underlying22 hi hz0 hz1 hz2 rfl (by decide) _ _ _ rfl ho1 ⟨wr.heap.size, 0, none⟩ 1 1 [.int .i64 e] rfl rfl ?c1 ?c2 ?c3 ?c4 ?c5 ?_)
                case c1 =>
                  intro j u hj
                  match j, hj with
                  | 0, hj => simp at hj; subst hj; simp only [Addr.add]; exact one_last _ _ _ _ 
                case c2 => intro u hu; simp at hu; subst hu; rfl
                case c3 => rw [hzl]; unfold maxLen; omega
                case c4 => rw [hzl]; omega
                case c5 => simp; omega
                intro v2 w4 ho2 hg2 _
                have ho3 : Own3 (R + 1 + 1) w4 v2 (zi (cur id s e ++ [e])) := by unfold Own3; rw [zi_snoc, List.length_append, List.map_append, hzl]; exact ho2
                obtain ⟨va, vc, hv2⟩ := own_slice ho3
                subst hv2
                have hpu : Hid (SB w T2 K R (R + 1) id (cur id s e ++ [e]) (.slice va (zi (cur id s e ++ [e])).length vc) (w4.setCell ⟨K, 2, none⟩ (.slice va (zi (cur id s e ++ [e])).length vc))) := Lib.hid (hq1.out.push (o := .cells #[.int .i64 e] 3) (by omega) (by omega) (by omega) (by omega) (by rw [HNN.out]; exact hlt2) HFR.out ho3 (by rw [HL.out]; rw [HL.out] at hq1; exact hg2))
                have hq2 : SB w T2 K R (R + 1) id (cur id s e) (.slice ga L gc) wr := by have := hq1.out; rw [HL.out] at this; exact this
                obtain ⟨m2, mf⟩ := hq2.mid (o := .cells #[.int .i64 e] 3) (e := e) (u := .int .i64 L) (by omega) (by omega) hg2
                clear ho1 ho2 ho3 hg2
                go_wp2
                go_roundw
                case rel => exact ⟨e + 1, _, by omega, by go_num, Lib.hid (by rw [HST.out]; exact hpu.out)⟩
                case measure => simp [intOf]; omega
              · have HST : Hid (cur id s (e + 1) = cur id s e) := Lib.hid (by rw [hst.out, if_neg hwe])
                have hne1 : ((wt id e : Nat) : Int) ≠ (s : Int) := by omega
                clear hst
                go_wp2
                go_roundw
                case rel => exact ⟨e + 1, _, by omega, by go_num, Lib.hid (by rw [HST.out]; exact hq1.out)⟩
                case measure => simp [intOf]; omega
            · have hend : e = m := by omega
              subst hend
              go_wp2
              go_roundw
              case rel => exact ⟨s + 1, _, by omega, by go_num, Lib.hid (by rw [← cur_end, HNN.out]; exact hq1.out)⟩
              case measure => simp [intOf]; omega
        · have hall := cur_all h12.out.1 h12.out.2 hs (by rw [HNN.out]; omega)
          have hkk := Lib.hid hq.out.k
          rw [HNN.out] at hkk
          have htt := Lib.hid hq.out.t
          have hoc := Lib.hid (own_one hq.out.o)
          have hfin : Hid (RdF T2 (wr.setRow T2 #[.int .i64 id, .int .i64 (pl id), .slice ga (cur id s 0).length gc, .slice (some ⟨R, 0, none⟩) m m]) (.slice ga (cur id s 0).length gc) (zi (ord id)) ∧ RdF T2 (wr.setRow T2 #[.int .i64 id, .int .i64 (pl id), .slice ga (cur id s 0).length gc, .slice (some ⟨R, 0, none⟩) m m]) (.slice (some ⟨R, 0, none⟩) m m) (rkL id) ∧ Below w.heap.size w (wr.setRow T2 #[.int .i64 id, .int .i64 (pl id), .slice ga (cur id s 0).length gc, .slice (some ⟨R, 0, none⟩) m m])) := by
            have hoth : ∀ b, b ≠ T2 → (wr.setRow T2 #[.int .i64 id, .int .i64 (pl id), .slice ga (cur id s 0).length gc, .slice (some ⟨R, 0, none⟩) m m]).heap[b]? = wr.heap[b]? := fun b hb => by
              show (wr.heap.modify T2 _)[b]? = _
              rw [Array.getElem?_modify, if_neg (Ne.symm hb)]
            have ho : Fx.Own (R + 1 + 1) wr (.slice ga (cur id s 0).length gc) (zi (cur id s 0)) := hq.out.o
            have hsz : (wr.setRow T2 #[.int .i64 id, .int .i64 (pl id), .slice ga (cur id s 0).length gc, .slice (some ⟨R, 0, none⟩) m m]).heap.size = wr.heap.size := Array.size_modify
            refine Lib.hid ⟨⟨⟨ga, gc, by rw [← hall, zi_len]⟩, fun x hx => by rw [← hall]; exact (Fx.Own.of_block ho fun g hg hl => (hx g (by omega) (by omega)).trans (hoth g (by omega))).rd⟩, ⟨⟨_, m, by rw [rkL_len, HNN.out]⟩, fun x hx => ?_⟩, below_setRow hq.out.b (by omega) _⟩
            have hr2 : x.rowIs R 3 m (fun j => .int .i64 (rkI id j)) := by
              have hlt := hq.out.r.lt
              have := (hq.out.r.of_block ((hx R (by omega) (by omega)).trans (hoth R (by omega)))).congr (g := fun j => .int .i64 (rkI id j)) fun j hj => by rw [hall, rks_all h12.out.1 h12.out.2 hj]; rfl
              rwa [HNN.out] at this
            exact rd_row hr2 (by rw [rkL_len, HNN.out]) (by unfold maxLen; omega) (fun j hj => by rw [rkL_get (by rw [HNN.out]; exact hj)])
          clear hall hq k0 k1 k3 kf
          generalize (cur id s 0).length = L at *
          go_wp2_with first
            | (refine wpList_load_row rfl 24 _ rfl K rfl 24 #[.int .i64 id, .int .i64 (pl id), .slice ga L gc, .slice (some ⟨R, 0, none⟩) m m] _ _ hkk.out Tryd.underlying24 rfl size24 ?_)
            | (refine wpList_store_row rfl 24 _ _ rfl T2 #[.int .i64 id, .int .i64 (pl id), .slice ga L gc, .slice (some ⟨R, 0, none⟩) m m] rfl rfl 24 #[.int .i64 0, .int .i64 0, .slice none 0 0, .slice none 0 0] htt.out size24 rfl (one_bk2 _ _ _ _ _ _ _ _) ?_)
          (try simp only [Exit.inBlock, Exit.then])
          refine bodyPost_ret (results_c_row rfl _ _ T2 24 #[.int .i64 id, .int .i64 (pl id), .slice ga L gc, .slice (some ⟨R, 0, none⟩) m m] _ _ rfl (setRow_heap wr T2 _ _ 24 (0, 0) htt.out) Tryd.underlying24 rfl size24) rfl ?_
          rw [← hT2] at hfin ⊢
          exact ⟨_, _, rfl, hfin.out.1, hfin.out.2.1, hfin.out.2.2⟩
end Go.Proofs.YteklahfgplbmcaaDoor.BkRf

/- The document's Get, and books that are the same. -/
namespace Go.Proofs.YteklahfgplbmcaaDoor.BkRf
open Go Go.ChangeShapes Go.WideShapes Go.ChangeAt Go.RowKit Go.Proofs.YteklahfgplbmcaaDoor.Bk Go.Proofs.YteklahfgplbmcaaDoor.Bi Go.Proofs.YteklahfgplbmcaaDoor.Cr Go.Proofs.YteklahfgplbmcaaDoor.Fx

theorem rget_bad (I : Int) (w : World) (h : I < 1 ∨ 12 < I) :
    Calls Tryd.prog 19 #[.int .i64 I] w fun e w' => e = .returned (.tuple #[.agg #[.int .i64 0, .int .i64 0, .slice none 0 0, .slice none 0 0], .int .i64 2]) ∧ Below w.heap.size w w' := by
  have HB := Lib.hid ((Below.refl w.heap.size w).alloc (Nat.le_refl _) (.cells #[.int .i64 0, .int .i64 0, .slice none 0 0, .slice none 0 0] 24))
  have HT := Lib.hid (setRow_heap (w.alloc (.cells #[.int .i64 0, .int .i64 0, .slice none 0 0, .slice none 0 0] 24)) w.heap.size #[.int .i64 0, .int .i64 0, .slice none 0 0, .slice none 0 0] #[.int .i64 0, .int .i64 0, .slice none 0 0, .slice none 0 0] 24 (0, 0) (heap_alloc_last w _))
  have HB2 := Lib.hid (below_setRow HB.out (Nat.le_refl _) #[.int .i64 0, .int .i64 0, .slice none 0 0, .slice none 0 0])
  by_cases h1 : I < 1
  · clear h
    go_enter Tryd.func19, Tryd.ntmps19
    go_wp2_with (refine wpList_store_row rfl 24 _ _ rfl w.heap.size #[.int .i64 0, .int .i64 0, .slice none 0 0, .slice none 0 0] rfl rfl 24 #[.int .i64 0, .int .i64 0, .slice none 0 0, .slice none 0 0] (heap_alloc_last w _) size24 rfl (one_bk2 _ _ _ _ _ _ _ _) ?_)
    refine bodyPost_ret (results_ct_row rfl _ _ w.heap.size 24 #[.int .i64 0, .int .i64 0, .slice none 0 0, .slice none 0 0] _ _ rfl (by first | exact HT.out | exact heap_alloc_last w _) Tryd.underlying24 rfl size24) rfl ?_
    exact ⟨rfl, by first | exact HB2.out | exact HB.out⟩
  · have h2 : 12 < I := by omega
    clear h
    go_enter Tryd.func19, Tryd.ntmps19
    go_wp2_with (refine wpList_store_row rfl 24 _ _ rfl w.heap.size #[.int .i64 0, .int .i64 0, .slice none 0 0, .slice none 0 0] rfl rfl 24 #[.int .i64 0, .int .i64 0, .slice none 0 0, .slice none 0 0] (heap_alloc_last w _) size24 rfl (one_bk2 _ _ _ _ _ _ _ _) ?_)
    refine bodyPost_ret (results_ct_row rfl _ _ w.heap.size 24 #[.int .i64 0, .int .i64 0, .slice none 0 0, .slice none 0 0] _ _ rfl (by first | exact HT.out | exact heap_alloc_last w _) Tryd.underlying24 rfl size24) rfl ?_
    exact ⟨rfl, by first | exact HB2.out | exact HB.out⟩
theorem rget_ok (id : Nat) (w : World) (h1 : 1 ≤ id) (h2 : id ≤ 12) :
    Calls Tryd.prog 19 #[.int .i64 id] w fun e w' => ∃ v1 v2, e = .returned (.tuple #[.agg #[.int .i64 id, .int .i64 (pl id), v1, v2], .int .i64 0]) ∧ Rd w' v1 (zi (ord id)) ∧ Rd w' v2 (rkL id) ∧ Below w.heap.size w w' := by
  have HC := Lib.hid (fun w => rbook_ok id w h1 h2)
  have HB := Lib.hid ((Below.refl w.heap.size w).alloc (Nat.le_refl _) (.cells #[.int .i64 0, .int .i64 0, .slice none 0 0, .slice none 0 0] 24))
  have g1 : ¬ (id : Int) < 1 := by omega
  have g2 : ¬ 12 < (id : Int) := by omega
  clear h1 h2
  generalize ord id = O at *
  generalize rkL id = R at *
  go_enter Tryd.func19, Tryd.ntmps19
  go_wp2_with first
    | (go_at_call 54; ((with_reducible refine (HC.out _).mono ?_); rintro e w1 ⟨v1, v2, rfl, ⟨⟨a1, c1, e1⟩, r1⟩, ⟨⟨a2, c2, e2⟩, r2⟩, hb1⟩; subst e1; subst e2; have ht := Lib.hid ((hb1.block w.heap.size (by simp)).trans (heap_alloc_last w _)); have R1 := Lib.hid r1; have R2 := Lib.hid r2; have B1 := Lib.hid hb1; clear r1 r2 hb1))
    | (refine wpList_store_row rfl 24 _ _ rfl w.heap.size #[.int .i64 id, .int .i64 (pl id), .slice a1 (zi O).length c1, .slice a2 R.length c2] rfl rfl 24 #[.int .i64 0, .int .i64 0, .slice none 0 0, .slice none 0 0] ht.out size24 rfl (one_bk2 _ _ _ _ _ _ _ _) ?_)
  have hset := Lib.hid (setRow_heap w1 w.heap.size #[.int .i64 0, .int .i64 0, .slice none 0 0, .slice none 0 0] #[.int .i64 id, .int .i64 (pl id), .slice a1 (zi O).length c1, .slice a2 R.length c2] 24 (0, 0) ht.out)
  have hoth : ∀ b, b ≠ w.heap.size → (w1.setRow w.heap.size #[.int .i64 id, .int .i64 (pl id), .slice a1 (zi O).length c1, .slice a2 R.length c2]).heap[b]? = w1.heap[b]? := fun b hb => by
    show (w1.heap.modify w.heap.size _)[b]? = _
    rw [Array.getElem?_modify, if_neg (Ne.symm hb)]
  have hs1 := R1.out _ (fun g hg _ => hoth g (by simp at hg; omega))
  have hs2 := R2.out _ (fun g hg _ => hoth g (by simp at hg; omega))
  have B2 : Below w.heap.size w w1 := HB.out.trans (B1.out.mono (by simp))
  refine bodyPost_ret (results_ct_row rfl _ _ w.heap.size 24 #[.int .i64 id, .int .i64 (pl id), .slice a1 (zi O).length c1, .slice a2 R.length c2] _ _ rfl hset.out Tryd.underlying24 rfl size24) rfl ?_
  exact ⟨_, _, rfl, hs1, hs2, below_setRow B2 (Nat.le_refl _) _⟩
/-- Two books of the same. -/
theorem bx2 {w : World} {a b c d a' b' c' d' : Value} {x : World} (h : Below ((w.alloc (.cells #[a, b, c, d] 24)).alloc (.cells #[a', b', c', d'] 24)).heap.size ((w.alloc (.cells #[a, b, c, d] 24)).alloc (.cells #[a', b', c', d'] 24)) x) :
    (x.cell? ⟨w.heap.size, 0, none⟩ = some a ∧ x.cell? ⟨w.heap.size, 1, none⟩ = some b ∧ x.cell? ⟨w.heap.size, 2, none⟩ = some c ∧ x.cell? ⟨w.heap.size, 3, none⟩ = some d) ∧ (x.cell? ⟨w.heap.size + 1, 0, none⟩ = some a' ∧ x.cell? ⟨w.heap.size + 1, 1, none⟩ = some b' ∧ x.cell? ⟨w.heap.size + 1, 2, none⟩ = some c' ∧ x.cell? ⟨w.heap.size + 1, 3, none⟩ = some d') := by
  have t0 := heap_alloc_last w (.cells #[a, b, c, d] 24)
  have t1 := ((al (w.alloc (.cells #[a, b, c, d] 24)) (.cells #[a', b', c', d'] 24)).block _ (by simp)).trans t0
  have t2 := (h.block _ (by simp; omega)).trans t1
  have u0 := heap_alloc_last (w.alloc (.cells #[a, b, c, d] 24)) (.cells #[a', b', c', d'] 24)
  rw [World.size_alloc] at u0
  have u2 := (h.block _ (by simp)).trans u0
  obtain ⟨p0, p1, p2, p3, _⟩ := c4 t2
  obtain ⟨q0, q1, q2, q3, _⟩ := c4 u2
  exact ⟨⟨p0, p1, p2, p3⟩, q0, q1, q2, q3⟩
set_option maxRecDepth 100000 in
set_option maxHeartbeats 4000000 in
theorem bsame_yes (i p : Int) (s1 s2 s3 s4 : Value) (A B : List Int) (w : World) (hA : A.length ≤ maxLen) (hB : B.length ≤ maxLen) (r1 : Rd w s1 A) (r2 : Rd w s2 B) (r3 : Rd w s3 A) (r4 : Rd w s4 B) :
    Calls Tryd.prog 24 #[.agg #[.int .i64 i, .int .i64 p, s1, s2], .agg #[.int .i64 i, .int .i64 p, s3, s4]] w fun e w' => e = .returned (.bool true) ∧ Below w.heap.size w w' := by
  have b0 : Below w.heap.size w ((w.alloc (.cells #[.int .i64 i, .int .i64 p, s1, s2] 24)).alloc (.cells #[.int .i64 i, .int .i64 p, s3, s4] 24)) := (al w _).trans ((al _ _).mono (by simp))
  have HX := Lib.hid (fun x h => bx2 (w := w) (a := .int .i64 i) (b := .int .i64 p) (c := s1) (d := s2) (a' := .int .i64 i) (b' := .int .i64 p) (c' := s3) (d' := s4) (x := x) h)
  obtain ⟨⟨p0, p1, p2, p3⟩, q0, q1, q2, q3⟩ := HX.out _ (Below.refl _ _)
  have B0 := Lib.hid b0
  have H1 : Hid (∀ x, Below w.heap.size w x → Calls Tryd.prog 25 #[s1, s3] x fun e w' => e = .returned (.bool true) ∧ Below x.heap.size x w') := Lib.hid fun x h => (ints_ok s1 s3 A A x hA hA (r1.below h) (r3.below h)).mono fun e w' h => by simpa using h
  have H2 : Hid (∀ x, Below w.heap.size w x → Calls Tryd.prog 25 #[s2, s4] x fun e w' => e = .returned (.bool true) ∧ Below x.heap.size x w') := Lib.hid fun x h => (ints_ok s2 s4 B B x hB hB (r2.below h) (r4.below h)).mono fun e w' h => by simpa using h
  clear r1 r2 r3 r4 b0
  have ei : (i == i) = true := by simp
  have ep : (p == p) = true := by simp
  go_enter Tryd.func24, Tryd.ntmps24
  go_wp2_with first
    | (go_at_call 25; ((with_reducible refine (H1.out _ B0.out).mono ?_); rintro e w1 ⟨rfl, hb1⟩; have hb1 := (show Below _ _ w1 from hb1); clear p0 p1 p2 p3 q0 q1 q2 q3; obtain ⟨⟨p0, p1, p2, p3⟩, q0, q1, q2, q3⟩ := HX.out w1 hb1; have B1 := Lib.hid (bT B0.out hb1); clear hb1))
    | (go_at_call 25; ((with_reducible refine (H2.out _ B1.out).mono ?_); rintro e w2 ⟨rfl, hb2⟩; have B2 := Lib.hid (bT B1.out hb2); clear hb2))
  go_ret
  exact ⟨rfl, B2.out⟩
end Go.Proofs.YteklahfgplbmcaaDoor.BkRf
