/- Texts of one claim, one behind the other: QnCon, QnChk, Rg, Rg2, QnPl, QnTe. -/
import Derived.Test.YtanjcbnkkhbkkaaDoorMrg0
import Derived.WalkKit
import Derived.Below
import Derived.RegionTactic
import Derived.Deep.QuietTactic
import Derived.BigQuiet
import Derived.ProofKit
import Derived.OpenShut
import Derived.Lib.Hide
import Derived.RangeFuncNested
import Derived.RangeFuncBound
import Derived.RangeFuncCalls
import Derived.RangeFuncLeaves
import Derived.RangeFuncBox
import Derived.Deep.OwnRows
import Derived.Test.YtanjcbnkkhbkkaaDoorRows
import Derived.Shelf.Abstract
import Derived.Shelf.AbstractIn
import Derived.Shelf.RegionOpen
import Derived.OwnWalkIn
import Derived.TacticsInMore
import Derived.LoopNIn
import Derived.LoopIn
set_option linter.unusedVariables false
/- What quant's small calls do. -/
namespace Go.Proofs.YtanjcbnkkhbkkaaDoor.Qn
open Go Go.ChangeShapes Go.WideShapes Go.ChangeAt Go.RowKit Go.Proofs.YtanjcbnkkhbkkaaDoor.If

/-- A list of lists, of which each is to be read. -/
def RdR (w : World) (O : Option Addr) (rows : List (List Int)) : Prop := ∀ i, i < rows.length → ∃ b off a c, O = some ⟨b, off, none⟩ ∧ b < w.heap.size ∧ w.cell? ⟨b, off + i, none⟩ = some (.slice a (rows.getD i []).length c) ∧ RdA w a (rows.getD i [])
theorem RdR.below {w w' : World} {O : Option Addr} {rows : List (List Int)} (h : RdR w O rows) (hb : Below w.heap.size w w') : RdR w' O rows := fun i hi => by
  obtain ⟨b, off, a, c, e, h1, h2, h3⟩ := h i hi
  exact ⟨b, off, a, c, e, Nat.lt_of_lt_of_le h1 hb.size, (hb.cell (p := ⟨b, off + i, none⟩) h1).trans h2, h3.below hb⟩

/-- Is a book's line sent? -/
def snt (b : Int) : Bool := decide (1 ≤ b) && decide (b ≤ 11)
theorem sent_ok (b : Int) (w : World) : Calls Tryd.prog 75 #[.int .i64 b] w fun e w' => e = .returned (.bool (snt b)) ∧ w = w' := by
  by_cases h1 : 1 ≤ b
  · by_cases h2 : b ≤ 11
    · rw [show snt b = true by unfold snt; simp [h1, h2]]
      go_enter Tryd.func75, Tryd.ntmps75
      go_wp2
      go_ret
      exact ⟨rfl, rfl⟩
    · rw [show snt b = false by unfold snt; simp [h2]]
      go_enter Tryd.func75, Tryd.ntmps75
      go_wp2
      go_ret
      exact ⟨rfl, rfl⟩
  · rw [show snt b = false by unfold snt; simp [h1]]
    go_enter Tryd.func75, Tryd.ntmps75
    go_wp2
    go_ret
    exact ⟨rfl, rfl⟩

/-- Is there a list for each group, with a number for each band? -/
def shw (m : Int) (rows : List (List Int)) : Bool := rows.all fun r => decide ((r.length : Int) = m)
def shp (gl : Nat) (m : Int) (rows : List (List Int)) : Bool := decide (rows.length = gl) && shw m rows
theorem shw_at {m : Int} {rows : List (List Int)} {k : Nat} (h : k < rows.length) : shw m (rows.drop k) = (decide (((rows.getD k []).length : Int) = m) && shw m (rows.drop (k + 1))) := by
  unfold shw
  rw [List.drop_eq_getElem_cons h, List.all_cons]
  simp [h]
theorem shw_end {m : Int} {rows : List (List Int)} : shw m (rows.drop rows.length) = true := by simp [shw]
theorem retb {a b : Bool} {w w' : World} (h : a = b) (hb : Below w.heap.size w w') : Ending.returned (.bool a) = .returned (.bool b) ∧ Below w.heap.size w w' := ⟨by rw [h], hb⟩
set_option maxRecDepth 100000 in
set_option maxHeartbeats 2000000 in
theorem shaped_ok (s h m : Int) (ga : Option Addr) (gc : Nat) (gz : List Int) (O : Option Addr) (oc : Nat) (rows : List (List Int)) (w : World) (hl : rows.length ≤ 1000) (hgl : gz.length ≤ 100000) (hrl : ∀ i, i < rows.length → (rows.getD i []).length ≤ maxLen) (hr : RdR w O rows) :
    Calls Tryd.prog 83 #[.agg #[.int .u8 s, .int .u8 h, .int .i64 m, .slice ga gz.length gc], .slice O rows.length oc] w fun e w' => e = .returned (.bool (shp gz.length m rows)) ∧ Below w.heap.size w w' := by
  have HB := Lib.hid (box_below w (.cells #[.int .u8 s, .int .u8 h, .int .i64 m, .slice ga gz.length gc] 50))
  obtain ⟨y0, y1, y2, y3⟩ := boxed w s h m (.slice ga gz.length gc) _ (Below.refl _ _)
  have HR := Lib.hid (hr.below HB.out)
  by_cases hgz : rows.length = gz.length
  · obtain ⟨R, hR⟩ : ∃ R, shw m rows = R := ⟨_, rfl⟩
    have HS : Hid (shw m (rows.drop 0) = R) := Lib.hid hR
    rw [show shp gz.length m rows = R by unfold shp; rw [hR]; simp [hgz]]
    have hne : ((rows.length : Int) != (gz.length : Int)) = false := by simp; omega
    have HL := Lib.hid hrl
    clear hr hR hrl
    go_enter Tryd.func83, Tryd.ntmps83
    go_wp2
    go_loop [15] (fun i => ∃ k : Nat, k ≤ rows.length ∧ i = .int .i64 k ∧ Hid (shw m (rows.drop k) = R)) (fun i => rows.length - (intOf i).toNat)
    case atStart => exact ⟨0, by omega, rfl, HS⟩
    case round =>
      obtain ⟨k, hk, rfl, hI⟩ := hrel
      clear HS
      by_cases hlt : k < rows.length
      · obtain ⟨b, off, a, c, rfl, lb, c0, _⟩ := HR.out k hlt
        have e := hI.out
        rw [shw_at hlt] at e
        have hmx := HL.out k hlt
        by_cases hm : ((rows.getD k []).length : Int) = m
        · have h2 : Hid (shw m (rows.drop (k + 1)) = R) := Lib.hid (by rw [← e, decide_eq_true hm, Bool.true_and])
          have hm2 : (((rows.getD k []).length : Int) != m) = false := by simpa using hm
          clear e hI
          generalize (rows.getD k []).length = Lk at *
          clear hm
          go_wp2
          go_round
          case rel => exact ⟨k + 1, by omega, by go_num, h2⟩
          case measure => simp [intOf]; omega
        · have h2 : R = false := by rw [← e, decide_eq_false hm, Bool.false_and]
          have hm2 : (((rows.getD k []).length : Int) != m) = true := by simpa using hm
          subst h2
          clear e hI
          generalize (rows.getD k []).length = Lk at *
          clear hm
          go_wp2
          go_ret
          exact ⟨rfl, HB.out⟩
      · obtain rfl : k = rows.length := by omega
        have h2 := hI.out
        rw [shw_end] at h2
        subst h2
        clear hI
        go_wp2
        go_ret
        exact ⟨rfl, HB.out⟩
  · rw [show shp gz.length m rows = false by unfold shp; simp [hgz]]
    have hne : ((rows.length : Int) != (gz.length : Int)) = true := by simp; omega
    clear hr hgz
    go_enter Tryd.func83, Tryd.ntmps83
    go_wp2
    go_ret
    exact ⟨rfl, HB.out⟩

/-! ### check -/
def badP (b st : Int) : Prop := b < 0 ∨ 13 < b ∨ (snt b = true ∧ (st < 0 ∨ 255 < st))
def BadB (B S : List (List Int)) (g0 b0 : Nat) : Prop := ∃ g b, g < B.length ∧ b < (B.getD g []).length ∧ (g0 < g ∨ (g0 = g ∧ b0 ≤ b)) ∧ badP ((B.getD g []).getD b 0) ((S.getD g []).getD b 0)
/-- The error of windows, books and steps. -/
def QE (r s h m : Int) (gz : List Int) (B S : List (List Int)) (c : Int) : Prop :=
  (chk r s h m gz ≠ 0 ∧ c = chk r s h m gz) ∨ (chk r s h m gz = 0 ∧ (shp gz.length m B && shp gz.length m S) = false ∧ c = 4) ∨
  (chk r s h m gz = 0 ∧ shp gz.length m B = true ∧ shp gz.length m S = true ∧ ((BadB B S 0 0 ∧ c = 2) ∨ (¬ BadB B S 0 0 ∧ c = 0)))
theorem shw_len {m : Int} {rows : List (List Int)} (h : shw m rows = true) {i : Nat} (hi : i < rows.length) : ((rows.getD i []).length : Int) = m := by
  unfold shw at h
  rw [List.all_eq_true] at h
  have := h (rows.getD i []) (by rw [List.getD_eq_getElem?_getD, List.getElem?_eq_getElem hi]; exact List.getElem_mem hi)
  simpa using this
theorem shp_yes {gl : Nat} {m : Int} {rows : List (List Int)} (h : shp gl m rows = true) : rows.length = gl ∧ ∀ i, i < rows.length → ((rows.getD i []).length : Int) = m := by
  unfold shp at h
  simp only [Bool.and_eq_true, decide_eq_true_eq] at h
  exact ⟨h.1, fun i hi => shw_len h.2 hi⟩
theorem bad_next {B S : List (List Int)} {g b : Nat} (h : BadB B S g b) (hn : ¬ badP ((B.getD g []).getD b 0) ((S.getD g []).getD b 0)) : BadB B S g (b + 1) := by
  obtain ⟨g', b', h1, h2, h3, h4⟩ := h
  refine ⟨g', b', h1, h2, ?_, h4⟩
  rcases h3 with h3 | ⟨rfl, h3⟩
  · exact .inl h3
  · refine .inr ⟨rfl, ?_⟩
    by_cases e : b' = b
    · subst e; exact absurd h4 hn
    · omega
theorem bad_row {B S : List (List Int)} {g b : Nat} (h : BadB B S g b) (hb : (B.getD g []).length ≤ b) : BadB B S (g + 1) 0 := by
  obtain ⟨g', b', h1, h2, h3, h4⟩ := h
  refine ⟨g', b', h1, h2, ?_, h4⟩
  rcases h3 with h3 | ⟨rfl, h3⟩
  · by_cases e : g + 1 = g'
    · exact .inr ⟨e, by omega⟩
    · exact .inl (by omega)
  · omega
theorem bad_prev {B S : List (List Int)} {g b : Nat} (h : BadB B S g b) : BadB B S 0 0 := by
  obtain ⟨g', b', h1, h2, _, h4⟩ := h
  refine ⟨g', b', h1, h2, ?_, h4⟩
  by_cases e : g' = 0
  · exact .inr ⟨e.symm, by omega⟩
  · exact .inl (by omega)
theorem bad_end {B S : List (List Int)} {b : Nat} : ¬ BadB B S B.length b := by
  rintro ⟨g', b', h1, h2, h3, h4⟩
  omega
end Go.Proofs.YtanjcbnkkhbkkaaDoor.Qn

/- Whether windows, books and steps may be. -/
namespace Go.Proofs.YtanjcbnkkhbkkaaDoor.Qn
open Go Go.ChangeShapes Go.WideShapes Go.ChangeAt Go.RowKit Go.Proofs.YtanjcbnkkhbkkaaDoor.If

set_option maxRecDepth 100000 in
set_option maxHeartbeats 4000000 in
theorem check_1 (r s h m : Int) (ga : Option Addr) (gc : Nat) (gz : List Int) (O P : Option Addr) (oc pc : Nat) (B S : List (List Int)) (w : World) (hgl : gz.length ≤ 100000) (hB : B.length ≤ 1000) (hS : S.length ≤ 1000) (hBr : ∀ i, i < B.length → (B.getD i []).length ≤ maxLen) (hSr : ∀ i, i < S.length → (S.getD i []).length ≤ maxLen) (hg : RdA w ga gz) (rB : RdR w O B) (rS : RdR w P S) (c : Int) (h1 : chk r s h m gz ≠ 0 ∧ c = chk r s h m gz) :
    Calls Tryd.prog 73 #[.int .i64 r, .agg #[.int .u8 s, .int .u8 h, .int .i64 m, .slice ga gz.length gc], .slice O B.length oc, .slice P S.length pc] w fun e w' => e = .returned (.int .i64 c) ∧ Below w.heap.size w w' := by
  have HB := Lib.hid (box_below w (.cells #[.int .u8 s, .int .u8 h, .int .i64 m, .slice ga gz.length gc] 50))
  have HC := Lib.hid (If.check_ok r s h m ga gc gz _ hgl (hg.below HB.out))
  have HS1 := Lib.hid (fun W (hW : Below w.heap.size w W) => shaped_ok s h m ga gc gz O oc B W hB hgl hBr (rB.below hW))
  have HS2 := Lib.hid (fun W (hW : Below w.heap.size w W) => shaped_ok s h m ga gc gz P pc S W hS hgl hSr (rS.below hW))
  obtain ⟨h1, rfl⟩ := h1
  have hne : (chk r s h m gz != 0) = true := by simpa using h1
  clear h1 hg rB rS HS1 HS2
  generalize chk r s h m gz = C at *
  go_enter Tryd.func73, Tryd.ntmps73
  go_wp2_with (first | (go_at_call 58; ((with_reducible refine (HC.out).mono ?_); rintro e w1 ⟨rfl, hb1⟩; have B1 := Lib.hid (belowT HB.out hb1); obtain ⟨z0, z1, z2, z3⟩ := boxed w s h m (.slice ga gz.length gc) w1 hb1; have Z := Lib.hid hb1; clear hb1)))
  go_ret
  exact ⟨rfl, B1.out⟩
set_option maxRecDepth 100000 in
set_option maxHeartbeats 4000000 in
theorem check_2 (r s h m : Int) (ga : Option Addr) (gc : Nat) (gz : List Int) (O P : Option Addr) (oc pc : Nat) (B S : List (List Int)) (w : World) (hgl : gz.length ≤ 100000) (hB : B.length ≤ 1000) (hS : S.length ≤ 1000) (hBr : ∀ i, i < B.length → (B.getD i []).length ≤ maxLen) (hSr : ∀ i, i < S.length → (S.getD i []).length ≤ maxLen) (hg : RdA w ga gz) (rB : RdR w O B) (rS : RdR w P S) (c : Int) (h0 : chk r s h m gz = 0) (h1 : (shp gz.length m B && shp gz.length m S) = false) (hc : c = 4) :
    Calls Tryd.prog 73 #[.int .i64 r, .agg #[.int .u8 s, .int .u8 h, .int .i64 m, .slice ga gz.length gc], .slice O B.length oc, .slice P S.length pc] w fun e w' => e = .returned (.int .i64 c) ∧ Below w.heap.size w w' := by
  have HB := Lib.hid (box_below w (.cells #[.int .u8 s, .int .u8 h, .int .i64 m, .slice ga gz.length gc] 50))
  have HC := Lib.hid (If.check_ok r s h m ga gc gz _ hgl (hg.below HB.out))
  have HS1 := Lib.hid (fun W (hW : Below w.heap.size w W) => shaped_ok s h m ga gc gz O oc B W hB hgl hBr (rB.below hW))
  have HS2 := Lib.hid (fun W (hW : Below w.heap.size w W) => shaped_ok s h m ga gc gz P pc S W hS hgl hSr (rS.below hW))
  subst hc
  rw [h0] at HC
  clear h0 hg rB rS
  cases e1 : shp gz.length m B
  · rw [e1] at HS1
    clear h1 e1
    go_enter Tryd.func73, Tryd.ntmps73
    go_wp2_with (first | (go_at_call 58; ((with_reducible refine (HC.out).mono ?_); rintro e w1 ⟨rfl, hb1⟩; have B1 := Lib.hid (belowT HB.out hb1); obtain ⟨z0, z1, z2, z3⟩ := boxed w s h m (.slice ga gz.length gc) w1 hb1; have Z := Lib.hid hb1; clear hb1)) | (go_at_call 83; ((with_reducible refine (HS1.out _ B1.out).mono ?_); rintro e w2 ⟨rfl, hb2⟩; have B2 := Lib.hid (belowT B1.out hb2); obtain ⟨z0, z1, z2, z3⟩ := boxed w s h m (.slice ga gz.length gc) w2 (belowT Z.out hb2); clear hb2)))
    go_ret
    exact ⟨rfl, B2.out⟩
  · rw [e1, Bool.true_and] at h1
    rw [e1] at HS1
    rw [h1] at HS2
    clear h1 e1
    go_enter Tryd.func73, Tryd.ntmps73
    go_wp2_with (first | (go_at_call 58; ((with_reducible refine (HC.out).mono ?_); rintro e w1 ⟨rfl, hb1⟩; have B1 := Lib.hid (belowT HB.out hb1); obtain ⟨z0, z1, z2, z3⟩ := boxed w s h m (.slice ga gz.length gc) w1 hb1; have Z := Lib.hid hb1; clear hb1)) | (have hq := B2; clear hq; (go_at_call 83; ((with_reducible refine (HS2.out _ B2.out).mono ?_); rintro e w3 ⟨rfl, hb3⟩; have B3 := Lib.hid (belowT B2.out hb3); clear hb3))) | (go_at_call 83; ((with_reducible refine (HS1.out _ B1.out).mono ?_); rintro e w2 ⟨rfl, hb2⟩; have B2 := Lib.hid (belowT B1.out hb2); obtain ⟨z0, z1, z2, z3⟩ := boxed w s h m (.slice ga gz.length gc) w2 (belowT Z.out hb2); clear hb2)))
    go_ret
    exact ⟨rfl, B3.out⟩
set_option maxRecDepth 100000 in
set_option maxHeartbeats 4000000 in
theorem check_3 (r s h m : Int) (ga : Option Addr) (gc : Nat) (gz : List Int) (O P : Option Addr) (oc pc : Nat) (B S : List (List Int)) (w : World) (hgl : gz.length ≤ 100000) (hB : B.length ≤ 1000) (hS : S.length ≤ 1000) (hBr : ∀ i, i < B.length → (B.getD i []).length ≤ maxLen) (hSr : ∀ i, i < S.length → (S.getD i []).length ≤ maxLen) (hg : RdA w ga gz) (rB : RdR w O B) (rS : RdR w P S) (c : Int) (h0 : chk r s h m gz = 0) (e1 : shp gz.length m B = true) (e2 : shp gz.length m S = true) (hc : (BadB B S 0 0 ∧ c = 2) ∨ (¬ BadB B S 0 0 ∧ c = 0)) :
    Calls Tryd.prog 73 #[.int .i64 r, .agg #[.int .u8 s, .int .u8 h, .int .i64 m, .slice ga gz.length gc], .slice O B.length oc, .slice P S.length pc] w fun e w' => e = .returned (.int .i64 c) ∧ Below w.heap.size w w' := by
  have HB := Lib.hid (box_below w (.cells #[.int .u8 s, .int .u8 h, .int .i64 m, .slice ga gz.length gc] 50))
  have HC := Lib.hid (If.check_ok r s h m ga gc gz _ hgl (hg.below HB.out))
  have HS1 := Lib.hid (fun W (hW : Below w.heap.size w W) => shaped_ok s h m ga gc gz O oc B W hB hgl hBr (rB.below hW))
  have HS2 := Lib.hid (fun W (hW : Below w.heap.size w W) => shaped_ok s h m ga gc gz P pc S W hS hgl hSr (rS.below hW))
  rw [h0] at HC
  rw [e1] at HS1
  rw [e2] at HS2
  obtain ⟨l1, l2⟩ := shp_yes e1
  obtain ⟨l3, l4⟩ := shp_yes e2
  have lBS := Lib.hid (show B.length = S.length by omega)
  have hrow : Hid (∀ i, i < B.length → (S.getD i []).length = (B.getD i []).length) := Lib.hid fun i hi => by have := l2 i hi; have := l4 i (by omega); omega
  have RB := Lib.hid rB
  have RS := Lib.hid rS
  have HR := Lib.hid hBr
  have HC0 : Hid ((BadB B S 0 0 ∧ c = 2) ∨ (¬ BadB B S 0 0 ∧ c = 0)) := Lib.hid hc
  clear h0 e1 e2 hg rB rS l1 l2 l3 l4 hc hBr hSr
  go_enter Tryd.func73, Tryd.ntmps73
  go_wp2_with (first | (go_at_call 58; ((with_reducible refine (HC.out).mono ?_); rintro e w1 ⟨rfl, hb1⟩; have B1 := Lib.hid (belowT HB.out hb1); obtain ⟨z0, z1, z2, z3⟩ := boxed w s h m (.slice ga gz.length gc) w1 hb1; have Z := Lib.hid hb1; clear hb1)) | (have hq := B2; clear hq; (go_at_call 83; ((with_reducible refine (HS2.out _ B2.out).mono ?_); rintro e w3 ⟨rfl, hb3⟩; have B3 := Lib.hid (belowT B2.out hb3); clear hb3))) | (go_at_call 83; ((with_reducible refine (HS1.out _ B1.out).mono ?_); rintro e w2 ⟨rfl, hb2⟩; have B2 := Lib.hid (belowT B1.out hb2); obtain ⟨z0, z1, z2, z3⟩ := boxed w s h m (.slice ga gz.length gc) w2 (belowT Z.out hb2); clear hb2)))
  clear HC HS1 HS2 z0 z1 z2 z3 Z B1 B2 HB
  go_loop [33] (fun i => ∃ k : Nat, k ≤ B.length ∧ i = .int .i64 k ∧ Hid ((BadB B S k 0 ∧ c = 2) ∨ (¬ BadB B S 0 0 ∧ c = 0))) (fun i => B.length - (intOf i).toNat)
  case atStart => exact ⟨0, by omega, rfl, HC0⟩
  case round =>
    obtain ⟨k, hk, rfl, hI⟩ := hrel
    clear HC0
    by_cases hlt : k < B.length
    · obtain ⟨b, off, a, ca, rfl, lb, c0, ra⟩ := (RB.out.below B3.out) k hlt
      obtain ⟨b', off', a', ca', rfl, lb', c1, ra'⟩ := (RS.out.below B3.out) k (by rw [← lBS.out]; exact hlt)
      rw [hrow.out k hlt] at c1
      have hLn := HR.out k hlt
      have RA := Lib.hid ra
      have RA' := Lib.hid ra'
      have hSl := Lib.hid (hrow.out k hlt)
      have hkS : (k : Int) < (S.length : Int) := by have := lBS.out; omega
      obtain ⟨L, hL⟩ : ∃ L, (B.getD k []).length = L := ⟨_, rfl⟩
      rw [hL] at c0 c1 hLn
      have HL := Lib.hid hL
      clear ra ra' hL
      unfold maxLen at hLn
      go_wp2
      go_loop [40] (fun i => ∃ j : Nat, j ≤ L ∧ i = .int .i64 j ∧ Hid ((BadB B S k j ∧ c = 2) ∨ (¬ BadB B S 0 0 ∧ c = 0))) (fun i => L - (intOf i).toNat)
      case atStart => exact ⟨0, by omega, rfl, hI⟩
      case round =>
        obtain ⟨j, hj, rfl, hJ⟩ := hrel
        by_cases hlt2 : j < L
        · obtain ⟨b2, o2, rfl, lb2, d0⟩ := RA.out j (by rw [HL.out]; exact hlt2)
          obtain ⟨b3, o3, rfl, lb3, d1⟩ := RA'.out j (by rw [hSl.out, HL.out]; exact hlt2)
          by_cases hb : badP ((B.getD k []).getD j 0) ((S.getD k []).getD j 0)
          · have hc : c = 2 := by
              rcases hJ.out with ⟨_, h⟩ | ⟨h, _⟩
              · exact h
              · exact absurd (bad_prev (g := k) (b := j) ⟨k, j, hlt, by rw [HL.out]; exact hlt2, .inr ⟨rfl, Nat.le_refl _⟩, hb⟩) h
            subst hc
            clear hI hJ
            unfold badP at hb
            generalize (B.getD k []).getD j 0 = X at *
            generalize (S.getD k []).getD j 0 = Y at *
            have HN := Lib.hid (fun W => sent_ok X W)
            by_cases t0 : X < 0
            · clear hb
              go_wp2
              go_ret
              exact ⟨rfl, B3.out⟩
            by_cases t1 : 13 < X
            · clear hb
              go_wp2
              go_ret
              exact ⟨rfl, B3.out⟩
            · obtain ⟨h1, h2⟩ : snt X = true ∧ (Y < 0 ∨ 255 < Y) := by rcases hb with h | h | h; exact absurd h t0; exact absurd h t1; exact h
              rw [h1] at HN
              clear hb h1
              by_cases t2 : Y < 0
              · clear h2
                go_wp2_with (go_at_call 75; ((with_reducible refine (HN.out _).mono ?_); rintro e _ ⟨rfl, rfl⟩))
                go_ret
                exact ⟨rfl, B3.out⟩
              · have t3 : 255 < Y := by omega
                clear h2
                go_wp2_with (go_at_call 75; ((with_reducible refine (HN.out _).mono ?_); rintro e _ ⟨rfl, rfl⟩))
                go_ret
                exact ⟨rfl, B3.out⟩
          · have hJ2 : Hid ((BadB B S k (j + 1) ∧ c = 2) ∨ (¬ BadB B S 0 0 ∧ c = 0)) := Lib.hid (by
              rcases hJ.out with ⟨h, h'⟩ | h
              · exact .inl ⟨bad_next h hb, h'⟩
              · exact .inr h)
            clear hI hJ
            unfold badP at hb
            generalize (B.getD k []).getD j 0 = X at *
            generalize (S.getD k []).getD j 0 = Y at *
            have HN := Lib.hid (fun W => sent_ok X W)
            have t0 : ¬ X < 0 := fun h => hb (.inl h)
            have t1 : ¬ 13 < X := fun h => hb (.inr (.inl h))
            cases hs : snt X
            · rw [hs] at HN
              clear hb hs
              go_wp2_with (go_at_call 75; ((with_reducible refine (HN.out _).mono ?_); rintro e _ ⟨rfl, rfl⟩))
              go_round
              case rel => exact ⟨j + 1, by omega, by go_num, hJ2⟩
              case measure => simp [intOf]; omega
            · have t2 : ¬ Y < 0 := fun h => hb (.inr (.inr ⟨hs, .inl h⟩))
              have t3 : ¬ 255 < Y := fun h => hb (.inr (.inr ⟨hs, .inr h⟩))
              rw [hs] at HN
              clear hb hs
              go_wp2_with (go_at_call 75; ((with_reducible refine (HN.out _).mono ?_); rintro e _ ⟨rfl, rfl⟩))
              go_round
              case rel => exact ⟨j + 1, by omega, by go_num, hJ2⟩
              case measure => simp [intOf]; omega
        · obtain rfl : j = L := by omega
          have hK : Hid ((BadB B S (k + 1) 0 ∧ c = 2) ∨ (¬ BadB B S 0 0 ∧ c = 0)) := Lib.hid (by
            rcases hJ.out with ⟨h, h'⟩ | h
            · exact .inl ⟨bad_row h (by rw [HL.out]; exact Nat.le_refl _), h'⟩
            · exact .inr h)
          clear hI hJ
          go_wp2
          go_round
          case rel => exact ⟨k + 1, by omega, by go_num, hK⟩
          case measure => simp [intOf]; omega
    · obtain rfl : k = B.length := by omega
      have hc : c = 0 := by
        rcases hI.out with ⟨h, _⟩ | ⟨_, h⟩
        · exact absurd h bad_end
        · exact h
      subst hc
      clear hI
      go_wp2
      go_ret
      exact ⟨rfl, B3.out⟩
set_option maxRecDepth 100000 in
set_option maxHeartbeats 4000000 in
theorem qcheck_ok (r s h m : Int) (ga : Option Addr) (gc : Nat) (gz : List Int) (O P : Option Addr) (oc pc : Nat) (B S : List (List Int)) (w : World) (hgl : gz.length ≤ 100000) (hB : B.length ≤ 1000) (hS : S.length ≤ 1000) (hBr : ∀ i, i < B.length → (B.getD i []).length ≤ maxLen) (hSr : ∀ i, i < S.length → (S.getD i []).length ≤ maxLen) (hg : RdA w ga gz) (rB : RdR w O B) (rS : RdR w P S) (c : Int) (hq : QE r s h m gz B S c) :
    Calls Tryd.prog 73 #[.int .i64 r, .agg #[.int .u8 s, .int .u8 h, .int .i64 m, .slice ga gz.length gc], .slice O B.length oc, .slice P S.length pc] w fun e w' => e = .returned (.int .i64 c) ∧ Below w.heap.size w w' := by
  rcases hq with q1 | ⟨h1, h2, h3⟩ | ⟨h1, h2, h3, h4⟩
  · exact check_1 r s h m ga gc gz O P oc pc B S w hgl hB hS hBr hSr hg rB rS c q1
  · exact check_2 r s h m ga gc gz O P oc pc B S w hgl hB hS hBr hSr hg rB rS c h1 h2 h3
  · exact check_3 r s h m ga gc gz O P oc pc B S w hgl hB hS hBr hSr hg rB rS c h1 h2 h3 h4
theorem qe_ex (r s h m : Int) (gz : List Int) (B S : List (List Int)) : ∃ c, QE r s h m gz B S c := by
  by_cases h1 : chk r s h m gz = 0
  · cases h2 : (shp gz.length m B && shp gz.length m S)
    · exact ⟨4, .inr (.inl ⟨h1, h2, rfl⟩)⟩
    · rw [Bool.and_eq_true] at h2
      by_cases h3 : BadB B S 0 0
      · exact ⟨2, .inr (.inr ⟨h1, h2.1, h2.2, .inl ⟨h3, rfl⟩⟩)⟩
      · exact ⟨0, .inr (.inr ⟨h1, h2.1, h2.2, .inr ⟨h3, rfl⟩⟩)⟩
  · exact ⟨_, .inl ⟨h1, rfl⟩⟩
end Go.Proofs.YtanjcbnkkhbkkaaDoor.Qn

/- A loop over an iterator that hands out memory and keeps cells of its own; its body always goes on. -/
namespace Go.Proofs.YtanjcbnkkhbkkaaDoor.Rg
open Go Go.RowKit

/-- What lay in A lies so in B, but for blocks of T. -/
structure Part (T : Nat → Prop) (A B : World) : Prop where
  os : B.os = A.os
  tape : B.tape = A.tape
  output : B.output = A.output
  size : A.heap.size ≤ B.heap.size
  block : ∀ k, k < A.heap.size → ¬ T k → B.heap[k]? = A.heap[k]?
theorem Part.refl (T : Nat → Prop) (A : World) : Part T A A := ⟨rfl, rfl, rfl, Nat.le_refl _, fun _ _ _ => rfl⟩
theorem Part.trans {T : Nat → Prop} {A B C : World} (h : Part T A B) (k : Part T B C) : Part T A C :=
  ⟨k.os.trans h.os, k.tape.trans h.tape, k.output.trans h.output, Nat.le_trans h.size k.size, fun j hj hT => (k.block j (Nat.lt_of_lt_of_le hj h.size) hT).trans (h.block j hj hT)⟩
theorem Part.mono {T U : Nat → Prop} {A B : World} (h : Part T A B) (hu : ∀ k, T k → U k) : Part U A B := ⟨h.os, h.tape, h.output, h.size, fun k hk hU => h.block k hk fun q => hU (hu k q)⟩
theorem Part.of_below {T : Nat → Prop} {A B : World} (h : Below A.heap.size A B) : Part T A B := ⟨h.os, h.tape, h.output, h.size, fun k hk _ => h.block k hk⟩
theorem Part.below {T : Nat → Prop} {A B : World} {b : Nat} (h : Part T A B) (hb : b ≤ A.heap.size) (hT : ∀ k, T k → b ≤ k) : Below b A B := ⟨h.os, h.tape, h.output, h.size, fun k hk => h.block k (by omega) fun q => by have := hT k q; omega⟩
theorem Part.row {T : Nat → Prop} {A B : World} {g n : Nat} {t : TypeId} {f : Nat → Value} (h : Part T A B) (r : A.rowIs g t n f) (hT : ¬ T g) : B.rowIs g t n f := r.of_block (h.block g r.lt hT)
theorem Part.put {T : Nat → Prop} {A : World} {l : Nat} (o : Obj) (hl : T l) : Part T A (A.putObj l o) := ⟨rfl, rfl, rfl, by simp, fun k _ hT => World.putObj_heap_other (fun e => hT (e ▸ hl))⟩
theorem Part.set {T : Nat → Prop} {A : World} {p : Addr} (v : Value) (hp : T p.block) : Part T A (A.setCell p v) := ⟨rfl, rfl, rfl, by simp [World.setCell], fun k _ hT => by
  simp only [World.setCell]
  show (A.heap.modify p.block _)[k]? = A.heap[k]?
  have hne : ¬ p.block = k := fun e => hT (e ▸ hp)
  rw [Array.getElem?_modify, if_neg hne]⟩
/-- A body that always goes on. -/
def onlyN (R : World → Prop) : Exit → Act → World → Prop
  | .normal, _, W' => R W'
  | _, _, _ => False
/-- What a round keeps. -/
def Keep (T : Nat → Prop) (A B : World) : Prop := A.heap.size ≤ B.heap.size ∧ ∀ j, T j → B.heap[j]? = A.heap[j]?
theorem Keep.below {T : Nat → Prop} {A B : World} {b : Nat} (h : Below b A B) (hT : ∀ j, T j → j < b) : Keep T A B := ⟨h.size, fun j q => h.block j (hT j q)⟩
variable {F : Fence} {n : Nat} {P : Program}

theorem range_mem {α : Type} {g : Operand} {ps : Array Tmp} {assign body : Code} {Q : Exit → Act → World → Prop} {a : Act} {w : World}
    (hro : F.round = none) (h1 : 1 ≤ n) {gf : Nat} {lb : Array Value} (hg : a.eval g = .func (.func gf) #[] lb) (hFg : F.fn gf) (eg : ∀ args w, (callFunc gf args).run P w = .ok (.enter gf args) w)
    (encs : α → Array Value) (Hx : Nat → α → World → Prop) (T : Nat → Prop) (N : Nat) (hT : ∀ k, T k → k < w.heap.size) (hps : ∀ x, (encs x).size = ps.size)
    (hseq : ∀ (l : Nat) (J : Nat → World → Prop) (W : World), l = w.heap.size + 1 → Part (fun _ => False) w W → l < W.heap.size → (∀ k A B, J k A → Part T A B → J k B) →
      (∀ k x W1, J k W1 → k < N → l < W1.heap.size → Hx k x W1 → YieldAt F (n - 1 - 1) P l (encs x) W1 fun e W' => e = .returned (.bool true) ∧ J (k + 1) W' ∧ Keep T W1 W' ∧ l < W'.heap.size) →
      J 0 W → CallsIn F (n - 1) P gf (#[.func (.yield l) #[] #[]] ++ lb) W fun e W' => (∃ v, e = .returned v) ∧ J N W')
    (I : Nat → World → Prop) (hI : ∀ k A B, I k A → Part (fun j => T j ∨ j = w.heap.size ∨ j = w.heap.size + 1) A B → I k B) (h0 : I 0 w)
    (hHx : ∀ k x A o, w.heap.size + 1 < A.heap.size → Hx k x A → Hx k x (A.putObj (w.heap.size + 1) o)) (a₁ : α → Act)
    (hassign : ∀ (l : Nat) (x : α) (W : World) (K : Act → World → Prop), K (a₁ x) W →
      assign.wpIn (F.inRound l) (n - 1 - 1) P (Exit.then K (fun _ _ _ => False)) { tmps := (ps.zip (encs x)).foldl (fun t (p, v) => t.setIfInBounds p v) a.tmps, defers := [] } W)
    (hbody : ∀ (l k : Nat) (x : α) (W : World), I k W → k < N → Hx k x W → w.heap.size + 1 < W.heap.size → body.wpIn (F.inRound l) (n - 1 - 1) P (onlyN fun W' => I (k + 1) W' ∧ Keep (fun j => T j ∨ j = w.heap.size ∨ j = w.heap.size + 1) W W') (a₁ x) W)
    (hdone : ∀ (W : World), I N W → w.heap.size < W.heap.size → W.heap[w.heap.size]? = some (.deferred (some [])) → Q .normal { a with defers := { target := .collected w.heap.size, args := #[] } :: a.defers } W) :
    (Code.rangeFunc g ps assign body).wpIn F n P Q a w := by
  refine wpIn_rangeFunc fun fn hfn => ?_
  rw [hro]
  let rec_ : LoopState → Loop := fun st => { state := st, pending := none, fn, tmps := a.tmps, params := ps, assign, body, defers := w.heap.size }
  let W0 : World := (w.alloc (.deferred (some []))).alloc (.loop (rec_ .ready))
  have s0 : W0.heap.size = w.heap.size + 2 := by simp [W0]
  have d0 : W0.heap[w.heap.size]? = some (.deferred (some [])) := (Below.heap_alloc _ _ _ (by simp)).trans (World.alloc_heap_new w _)
  have l0 : W0.heap[w.heap.size + 1]? = some (.loop (rec_ .ready)) := by
    have := World.alloc_heap_new (w.alloc (.deferred (some []))) (.loop (rec_ .ready)); rwa [World.size_alloc] at this
  have p0 : Below w.heap.size w W0 := (((Below.refl _ w).alloc (Nat.le_refl _) _).alloc (by simp) _)
  -- the two blocks of the loop's own
  let Bk : World → Prop := fun W => W.heap[w.heap.size]? = some (.deferred (some [])) ∧ W.heap[w.heap.size + 1]? = some (.loop (rec_ .ready))
  refine ⟨w.heap.size + 1, [{ target := .collected w.heap.size, args := #[] }], W0, { target := .fn (.func gf) lb, args := #[.func (.yield (w.heap.size + 1)) #[] #[]] }, W0, gf,
    #[.func (.yield (w.heap.size + 1)) #[] #[]] ++ lb, W0, run_enterLoop_outer _ _ _ _ _, ?_, ?_, ?_, fun _ => h1, ?_⟩
  · simp only [resolve, hg]
    simp [go_sem]
  · intro f' hf'; simp [Target.leads] at hf'; subst hf'; exact hFg
  · simp [invoke, go_sem, eg]
  refine (hseq (w.heap.size + 1) (fun k W => I k W ∧ Bk W) W0 rfl (Part.of_below p0) (by omega) ?_ ?_ ⟨hI 0 w W0 h0 (Part.of_below p0), d0, l0⟩).mono ?_
  · rintro k A C ⟨hi, hd, hl⟩ hp
    have la := (Array.getElem?_eq_some_iff.1 hl).1
    refine ⟨hI k A C hi (hp.mono fun _ => .inl), (hp.block _ (by omega) fun q => ?_).trans hd, (hp.block _ la fun q => ?_).trans hl⟩
    · have := hT _ q; omega
    · have := hT _ q; omega
  · rintro k x W1 ⟨hi, hd, hl⟩ hk _ hx
    have la := (Array.getElem?_eq_some_iff.1 hl).1
    have hy := run_yield (P := P) (args := encs x) hl (hps x)
    refine ⟨fn, _, assign, body, hy, roundIn_of_wpIn hfn (hassign _ x W1 _ ⟨_, run_beginRound hl rfl, ?_⟩)⟩
    have e2 : (W1.putObj (w.heap.size + 1) (.loop { rec_ .ready with state := .busy })).heap[w.heap.size + 1]? = some (.loop { rec_ .ready with state := .busy }) := World.putObj_heap_same la
    have e3 : (W1.putObj (w.heap.size + 1) (.loop { rec_ .ready with state := .busy })).heap[w.heap.size]? = some (.deferred (some [])) := (World.putObj_heap_other (by omega)).trans hd
    refine wpIn_mono (hbody _ k x _ (hI k _ _ hi (Part.put _ (.inr (.inr rfl)))) hk (hHx k x W1 _ la hx) (by simpa using la)) ?_
    rintro e a3 W3 hp
    cases e with
    | normal =>
      obtain ⟨hi3, hs3, hk3⟩ := hp
      have e4 := (hk3 _ (.inr (.inr rfl))).trans e2
      have e5 := (hk3 _ (.inr (.inl rfl))).trans e3
      have la3 := (Array.getElem?_eq_some_iff.1 e4).1
      refine ⟨_, _, run_endRound (P := P) none e4, rfl, ⟨hI (k + 1) _ _ hi3 (Part.put _ (.inr (.inr rfl))), (World.putObj_heap_other (by omega)).trans e5, World.putObj_heap_same la3⟩, ⟨?_, fun j q => ?_⟩, ?_⟩
      · simp at hs3 ⊢; exact hs3
      · have hj := hT j q
        exact ((World.putObj_heap_other (by omega)).trans (hk3 j (.inl q))).trans (World.putObj_heap_other (by omega))
      · simpa using la3
    | ret => exact hp.elim
    | exit id => exact hp.elim
    | goto t => exact hp.elim
    | panic ch => exact hp.elim
    | outgrown => exact hp.elim
  · rintro e W2 ⟨⟨v, rfl⟩, hi, hd, hl⟩
    have la := (Array.getElem?_eq_some_iff.1 hl).1
    exact ⟨none, _, run_endLoop (P := P) hl (by simp [rec_]), hdone _ (hI N _ _ hi (Part.put _ (.inr (.inr rfl)))) (by simp; omega) ((World.putObj_heap_other (by omega)).trans hd)⟩
end Go.Proofs.YtanjcbnkkhbkkaaDoor.Rg

/- A loop over an iterator that hands out what it reads: the body keeps more than the iterator's own cells. -/
namespace Go.Proofs.YtanjcbnkkhbkkaaDoor.Rg
open Go Go.RowKit
variable {F : Fence} {n : Nat} {P : Program}
theorem range_memU {α : Type} {g : Operand} {ps : Array Tmp} {assign body : Code} {Q : Exit → Act → World → Prop} {a : Act} {w : World}
    (hro : F.round = none) (h1 : 1 ≤ n) {gf : Nat} {lb : Array Value} (hg : a.eval g = .func (.func gf) #[] lb) (hFg : F.fn gf) (eg : ∀ args w, (callFunc gf args).run P w = .ok (.enter gf args) w)
    (encs : α → Array Value) (Hx : Nat → α → World → Prop) (T U : Nat → Prop) (N : Nat) (hTU : ∀ k, T k → U k) (hU : ∀ k, U k → k < w.heap.size) (hps : ∀ x, (encs x).size = ps.size)
    (hseq : ∀ (l : Nat) (J : Nat → World → Prop) (W : World), l = w.heap.size + 1 → Part (fun _ => False) w W → l < W.heap.size → (∀ k A B, J k A → Part T A B → J k B) →
      (∀ k x W1, J k W1 → k < N → l < W1.heap.size → Hx k x W1 → YieldAt F (n - 1 - 1) P l (encs x) W1 fun e W' => e = .returned (.bool true) ∧ J (k + 1) W' ∧ Keep U W1 W' ∧ l < W'.heap.size) →
      J 0 W → CallsIn F (n - 1) P gf (#[.func (.yield l) #[] #[]] ++ lb) W fun e W' => (∃ v, e = .returned v) ∧ J N W')
    (I : Nat → World → Prop) (hI : ∀ k A B, I k A → Part (fun j => T j ∨ j = w.heap.size ∨ j = w.heap.size + 1) A B → I k B) (h0 : I 0 w)
    (hHx : ∀ k x A o, w.heap.size + 1 < A.heap.size → Hx k x A → Hx k x (A.putObj (w.heap.size + 1) o)) (a₁ : α → Act)
    (hassign : ∀ (l : Nat) (x : α) (W : World) (K : Act → World → Prop), K (a₁ x) W →
      assign.wpIn (F.inRound l) (n - 1 - 1) P (Exit.then K (fun _ _ _ => False)) { tmps := (ps.zip (encs x)).foldl (fun t (p, v) => t.setIfInBounds p v) a.tmps, defers := [] } W)
    (hbody : ∀ (l k : Nat) (x : α) (W : World), I k W → k < N → Hx k x W → w.heap.size + 1 < W.heap.size → body.wpIn (F.inRound l) (n - 1 - 1) P (onlyN fun W' => I (k + 1) W' ∧ Keep (fun j => U j ∨ j = w.heap.size ∨ j = w.heap.size + 1) W W') (a₁ x) W)
    (hdone : ∀ (W : World), I N W → w.heap.size < W.heap.size → W.heap[w.heap.size]? = some (.deferred (some [])) → Q .normal { a with defers := { target := .collected w.heap.size, args := #[] } :: a.defers } W) :
    (Code.rangeFunc g ps assign body).wpIn F n P Q a w := by
  refine wpIn_rangeFunc fun fn hfn => ?_
  rw [hro]
  let rec_ : LoopState → Loop := fun st => { state := st, pending := none, fn, tmps := a.tmps, params := ps, assign, body, defers := w.heap.size }
  let W0 : World := (w.alloc (.deferred (some []))).alloc (.loop (rec_ .ready))
  have s0 : W0.heap.size = w.heap.size + 2 := by simp [W0]
  have d0 : W0.heap[w.heap.size]? = some (.deferred (some [])) := (Below.heap_alloc _ _ _ (by simp)).trans (World.alloc_heap_new w _)
  have l0 : W0.heap[w.heap.size + 1]? = some (.loop (rec_ .ready)) := by
    have := World.alloc_heap_new (w.alloc (.deferred (some []))) (.loop (rec_ .ready)); rwa [World.size_alloc] at this
  have p0 : Below w.heap.size w W0 := (((Below.refl _ w).alloc (Nat.le_refl _) _).alloc (by simp) _)
  -- the two blocks of the loop's own
  let Bk : World → Prop := fun W => W.heap[w.heap.size]? = some (.deferred (some [])) ∧ W.heap[w.heap.size + 1]? = some (.loop (rec_ .ready))
  refine ⟨w.heap.size + 1, [{ target := .collected w.heap.size, args := #[] }], W0, { target := .fn (.func gf) lb, args := #[.func (.yield (w.heap.size + 1)) #[] #[]] }, W0, gf,
    #[.func (.yield (w.heap.size + 1)) #[] #[]] ++ lb, W0, run_enterLoop_outer _ _ _ _ _, ?_, ?_, ?_, fun _ => h1, ?_⟩
  · simp only [resolve, hg]
    simp [go_sem]
  · intro f' hf'; simp [Target.leads] at hf'; subst hf'; exact hFg
  · simp [invoke, go_sem, eg]
  refine (hseq (w.heap.size + 1) (fun k W => I k W ∧ Bk W) W0 rfl (Part.of_below p0) (by omega) ?_ ?_ ⟨hI 0 w W0 h0 (Part.of_below p0), d0, l0⟩).mono ?_
  · rintro k A C ⟨hi, hd, hl⟩ hp
    have la := (Array.getElem?_eq_some_iff.1 hl).1
    refine ⟨hI k A C hi (hp.mono fun _ => .inl), (hp.block _ (by omega) fun q => ?_).trans hd, (hp.block _ la fun q => ?_).trans hl⟩
    · have := hU _ (hTU _ q); omega
    · have := hU _ (hTU _ q); omega
  · rintro k x W1 ⟨hi, hd, hl⟩ hk _ hx
    have la := (Array.getElem?_eq_some_iff.1 hl).1
    have hy := run_yield (P := P) (args := encs x) hl (hps x)
    refine ⟨fn, _, assign, body, hy, roundIn_of_wpIn hfn (hassign _ x W1 _ ⟨_, run_beginRound hl rfl, ?_⟩)⟩
    have e2 : (W1.putObj (w.heap.size + 1) (.loop { rec_ .ready with state := .busy })).heap[w.heap.size + 1]? = some (.loop { rec_ .ready with state := .busy }) := World.putObj_heap_same la
    have e3 : (W1.putObj (w.heap.size + 1) (.loop { rec_ .ready with state := .busy })).heap[w.heap.size]? = some (.deferred (some [])) := (World.putObj_heap_other (by omega)).trans hd
    refine wpIn_mono (hbody _ k x _ (hI k _ _ hi (Part.put _ (.inr (.inr rfl)))) hk (hHx k x W1 _ la hx) (by simpa using la)) ?_
    rintro e a3 W3 hp
    cases e with
    | normal =>
      obtain ⟨hi3, hs3, hk3⟩ := hp
      have e4 := (hk3 _ (.inr (.inr rfl))).trans e2
      have e5 := (hk3 _ (.inr (.inl rfl))).trans e3
      have la3 := (Array.getElem?_eq_some_iff.1 e4).1
      refine ⟨_, _, run_endRound (P := P) none e4, rfl, ⟨hI (k + 1) _ _ hi3 (Part.put _ (.inr (.inr rfl))), (World.putObj_heap_other (by omega)).trans e5, World.putObj_heap_same la3⟩, ⟨?_, fun j q => ?_⟩, ?_⟩
      · simp at hs3 ⊢; exact hs3
      · have hj := hU j q
        exact ((World.putObj_heap_other (by omega)).trans (hk3 j (.inl q))).trans (World.putObj_heap_other (by omega))
      · simpa using la3
    | ret => exact hp.elim
    | exit id => exact hp.elim
    | goto t => exact hp.elim
    | panic ch => exact hp.elim
    | outgrown => exact hp.elim
  · rintro e W2 ⟨⟨v, rfl⟩, hi, hd, hl⟩
    have la := (Array.getElem?_eq_some_iff.1 hl).1
    exact ⟨none, _, run_endLoop (P := P) hl (by simp [rec_]), hdone _ (hI N _ _ hi (Part.put _ (.inr (.inr rfl)))) (by simp; omega) ((World.putObj_heap_other (by omega)).trans hd)⟩
end Go.Proofs.YtanjcbnkkhbkkaaDoor.Rg

/- Where lines are: the iterator that hands them out. -/
namespace Go.Proofs.YtanjcbnkkhbkkaaDoor.Qn
open Go Go.ChangeShapes Go.WideShapes Go.ChangeAt Go.RowKit Go.Shelf Go.Proofs.YtanjcbnkkhbkkaaDoor.If Go.Proofs.YtanjcbnkkhbkkaaDoor.Rg Go.Proofs.YtanjcbnkkhbkkaaDoor.Bd

attribute [local go_sem] Oper.semAt_some

theorem mny_mono_n : ∀ (b : Bool) (n : Nat), n < 12 → mny n b ≤ mny 11 b := by decide +kernel
theorem chk_top {r s h m : Int} {gz : List Int} (hc : chk r s h m gz = 0) : chk 11 s h m gz = 0 := by
  by_cases c : r < 0 ∨ 11 < r
  · rw [chk_arg c] at hc; exact absurd hc (by decide)
  · by_cases d : 3 < s ∨ 1 < h ∨ m < 0 ∨ mny r (s == 2) < m ∨ grp gz (win s) = false
    · rw [chk_bad c d] at hc; exact absurd hc (by decide)
    · refine chk_ok (by omega) ?_
      obtain ⟨n, rfl⟩ : ∃ n : Nat, r = (n : Int) := ⟨r.toNat, by omega⟩
      have hm := mny_mono_n (s == 2) n (by omega)
      rintro (q | q | q | q | q)
      · exact d (.inl q)
      · exact d (.inr (.inl q))
      · exact d (.inr (.inr (.inl q)))
      · exact d (.inr (.inr (.inr (.inl (by omega)))))
      · exact d (.inr (.inr (.inr (.inr q))))
/-- What the iterator keeps. -/
structure Pl (w0 : Nat) (b5 b7 g cap : Nat) (r s h m : Int) (ga : Option Addr) (gc : Nat) (gz : List Int) (w : World) : Prop where
  wins : Boxed w b7 3 (.int .i64 (win s))
  info : w.heap[w0]? = some (.cells #[.int .u8 s, .int .u8 h, .int .i64 m, .slice ga gz.length gc] 50 (0, 0))
  offs : Boxed w b5 39 (.slice (some ⟨g, 0, none⟩) (L r (s == 2)).length cap)
  row : Row w g cap (L r (s == 2))
  lo : w0 ≤ b5 ∧ w0 ≤ b7 ∧ w0 < g
set_option maxRecDepth 100000 in
theorem places_ok (r s h m : Int) (ga : Option Addr) (gc : Nat) (gz : List Int) (w : World) (r0 : 0 ≤ r) (r1 : r ≤ 11) (hc : chk r s h m gz = 0) (hgl : gz.length ≤ 100000) (hg : RdA w ga gz) :
    Calls Tryd.prog 74 #[.int .i64 r, .agg #[.int .u8 s, .int .u8 h, .int .i64 m, .slice ga gz.length gc]] w fun e w' => ∃ b5 b7 g cap, e = .returned (.func (.func 84) #[] #[.pointer (some ⟨b7, 0, none⟩), .pointer (some ⟨w.heap.size, 0, none⟩), .pointer (some ⟨b5, 0, none⟩)]) ∧ Pl w.heap.size b5 b7 g cap r s h m ga gc gz w' ∧ Below w.heap.size w w' := by
  have HB := Lib.hid (box_below w (.cells #[.int .u8 s, .int .u8 h, .int .i64 m, .slice ga gz.length gc] 50))
  have HO := Lib.hid (fun W => off_row r (s == 2) W r0 r1)
  have HW := fun W (hW : Below w.heap.size w W) => windows_k s h m ga gc gz W hgl (hg.below hW)
  rw [chk_top hc, if_pos rfl] at HW
  have HW := Lib.hid HW
  have HX : Hid ((w.alloc (.cells #[.int .u8 s, .int .u8 h, .int .i64 m, .slice ga gz.length gc] 50)).heap[w.heap.size]? = some (.cells #[.int .u8 s, .int .u8 h, .int .i64 m, .slice ga gz.length gc] 50 (0, 0))) := Lib.hid (World.alloc_heap_new _ _)
  clear hc hg
  go_enter Tryd.func74, Tryd.ntmps74
  go_wp2_with (first
    | (go_at_call 60; ((with_reducible refine (HO.out _).mono ?_); rintro e w1 ⟨g, cap, rfl, hg1, hr1, hb1⟩; have B1 := Lib.hid hb1; have R1 := Lib.hid hr1; have X1 := Lib.hid ((hb1.block _ (by simp)).trans HX.out); have lg := hr1.lt; have lw : w.heap.size < w1.heap.size := Nat.lt_of_lt_of_le (by simp) hb1.size; obtain ⟨z0, z1, z2, z3⟩ := boxed w s h m (.slice ga gz.length gc) w1 hb1; clear hr1 hb1))
    | (go_at_call 37; ((with_reducible refine (HW.out _ ((belowT HB.out B1.out).alloc (belowT HB.out B1.out).size _)).mono ?_); rintro e w2 ⟨rfl, hb2⟩; have B2 := Lib.hid hb2; clear hb2)))
  go_ret
  have sg : w.heap.size < g := by simp at hg1; omega
  have l2 := B2.out.size
  simp at l2
  have p2 : Below w1.heap.size w1 (w2.alloc (.cells #[.int .i64 (win s)] 3)) := ((Below.refl _ w1).alloc (Nat.le_refl _) _ |>.trans (B2.out.mono (by simp))).alloc (by omega) _
  refine ⟨w1.heap.size, w2.heap.size, g, cap, rfl, ⟨Boxed.new w2 3 _, (p2.block _ lw).trans X1.out, ?_, R1.out.below p2, by omega, by omega, sg⟩, belowT HB.out (belowT B1.out p2)⟩
  exact ((((Below.refl _ w2).alloc (Nat.le_refl _) _).block _ (by omega)).trans ((B2.out.block _ (by simp)).trans (Boxed.new w1 39 _)))

/-! ### The iterator -/
def Uq (w0 b5 b7 g : Nat) (ga : Option Addr) (k : Nat) : Prop := k = w0 ∨ k = b5 ∨ k = b7 ∨ k = g ∨ ∃ x, ga = some x ∧ x.block = k
theorem Pl.keep {w0 b5 b7 g cap : Nat} {r s h m : Int} {ga : Option Addr} {gc : Nat} {gz : List Int} {w w' : World} (p : Pl w0 b5 b7 g cap r s h m ga gc gz w) (hk : ∀ j, Uq w0 b5 b7 g ga j → w'.heap[j]? = w.heap[j]?) : Pl w0 b5 b7 g cap r s h m ga gc gz w' :=
  ⟨(hk _ (.inr (.inr (.inl rfl)))).trans p.wins, (hk _ (.inl rfl)).trans p.info, (hk _ (.inr (.inl rfl))).trans p.offs, by obtain ⟨F, hr, h2⟩ := p.row; exact ⟨F, hr.of_block (hk _ (.inr (.inr (.inr (.inl rfl))))), h2⟩, p.lo⟩
theorem Pl.below {w0 b5 b7 g cap : Nat} {r s h m : Int} {ga : Option Addr} {gc : Nat} {gz : List Int} {w w' : World} (p : Pl w0 b5 b7 g cap r s h m ga gc gz w) (hb : Below w.heap.size w w') : Pl w0 b5 b7 g cap r s h m ga gc gz w' :=
  ⟨(hb.block _ p.wins.lt).trans p.wins, (hb.block _ (Array.getElem?_eq_some_iff.1 p.info).1).trans p.info, (hb.block _ p.offs.lt).trans p.offs, p.row.below hb, p.lo⟩
theorem rd_keep {W W' : World} {A : Option Addr} {zs : List Int} (r : RdA W A zs) (h : ∀ x, A = some x → W'.heap[x.block]? = W.heap[x.block]?) : RdA W' A zs := fun i hi => by
  obtain ⟨b, off, e, h1, h2⟩ := r i hi
  have hb := h _ e
  refine ⟨b, off, e, ?_, (World.cell?_of_block (w := W) (a := ⟨b, off + i, none⟩) hb).trans h2⟩
  have : W'.heap[b]? = some W.heap[b] := by rw [hb]; simp [h1]
  exact (Array.getElem?_eq_some_iff.1 this).1
theorem w64k {x : Int} (h : 0 ≤ x ∧ x ≤ 4611686018427387904) : wrap64 x = x := by unfold wrap64; omega
theorem cell4 {w : World} {b : Nat} {t : TypeId} {x y z u : Value} (h : w.heap[b]? = some (.cells #[x, y, z, u] t (0, 0))) : w.cell? ⟨b, 0, none⟩ = some x ∧ w.cell? ⟨b, 1, none⟩ = some y ∧ w.cell? ⟨b, 2, none⟩ = some z ∧ w.cell? ⟨b, 3, none⟩ = some u := by
  simp [World.cell?, h]
/-- A line, its group and its band. -/
def encQ (x : Nat × Int × Nat) : Array Value := #[.int .i64 x.1, .agg #[.int .i64 x.2.1, .int .i64 x.2.2]]
def LN (s : Int) : Nat := if s = 2 then 32 else 256
def WN (s : Int) : Nat := if s = 2 then 8 else 1
theorem ln_wn (s : Int) : WN s * LN s = 256 := by unfold WN LN; split <;> rfl
theorem wn_win (s : Int) : win s = (WN s : Nat) := by unfold win WN; split <;> rfl
theorem ln_nof (s : Int) : nOf (s == 2) = (LN s : Nat) := by
  unfold nOf LN
  by_cases c : s = 2
  · subst c; rfl
  · rw [if_neg c, show (s == 2) = false by simpa using c]; rfl
def HxQ (r s : Int) (gz : List Int) (k : Nat) (x : Nat × Int × Nat) (_ : World) : Prop := x.1 = k ∧ x.2.1 = (gof gz ((k / LN s : Nat) : Int) : Nat) ∧ x.2.2 + 1 < (L r (s == 2)).length ∧ (L r (s == 2)).getD x.2.2 0 ≤ ((k % LN s : Nat) : Int) ∧ ((k % LN s : Nat) : Int) < (L r (s == 2)).getD (x.2.2 + 1) 0
theorem divmod {v q N : Nat} (hq : q < N) : (v * N + q) / N = v ∧ (v * N + q) % N = q := by
  have hN : 0 < N := by omega
  constructor
  · rw [Nat.mul_comm, Nat.mul_add_div hN, Nat.div_eq_of_lt hq, Nat.add_zero]
  · rw [Nat.mul_comm, Nat.mul_add_mod, Nat.mod_eq_of_lt hq]

set_option maxRecDepth 100000 in
set_option maxHeartbeats 4000000 in
theorem places_in (n : Nat) (hn : 1 ≤ n) (l w0 b5 b7 g cap : Nat) (r s h m : Int) (ga : Option Addr) (gc : Nat) (gz : List Int) (W : World) (r0 : 0 ≤ r) (r1 : r ≤ 11) (hc : chk 11 s h m gz = 0) (hgl : gz.length ≤ 100000) (hp : Pl w0 b5 b7 g cap r s h m ga gc gz W) (hg : RdA W ga gz)
    (J : Nat → World → Prop) (hl : l < W.heap.size) (hJ : ∀ k A B, J k A → Part (fun _ => False) A B → J k B)
    (hY : ∀ k x W1, J k W1 → k < 256 → l < W1.heap.size → HxQ r s gz k x W1 → YieldAt Fence.wide (n - 1) Tryd.prog l (encQ x) W1 fun e W' => e = .returned (.bool true) ∧ J (k + 1) W' ∧ Keep (Uq w0 b5 b7 g ga) W1 W' ∧ l < W'.heap.size)
    (h0 : J 0 W) :
    CallsIn Fence.wide n Tryd.prog 84 #[.func (.yield l) #[] #[], .pointer (some ⟨b7, 0, none⟩), .pointer (some ⟨w0, 0, none⟩), .pointer (some ⟨b5, 0, none⟩)] W fun e W' => (∃ v, e = .returned v) ∧ J 256 W' := by
  have HY := Lib.hid hY
  have HJ := Lib.hid hJ
  have H0 := Lib.hid h0
  have HP := Lib.hid hp
  have RG := Lib.hid hg
  have HG := Lib.hid (fun (x : Int) (W1 : World) (rd : RdA W1 ga gz) (x0 : 0 ≤ x) (hx : x < win s) => group_ok s h m ga gc gz x W1 hgl rd hc x0 hx)
  obtain ⟨f0, f1, f2, f3, f4, f5⟩ := fact r (s == 2) r0 r1
  rw [ln_nof] at f3 f5
  have HLW := Lib.hid (ln_wn s)
  have HWW := Lib.hid (wn_win s)
  have c1 := hp.wins.cell
  rw [wn_win] at c1
  have hLN : LN s ≤ 256 := by unfold LN; split <;> omega
  have hWN : WN s ≤ 8 := by unfold WN; split <;> omega
  clear hY hJ h0 hp hg hc
  refine callsIn_of_wp Tryd.func84 rfl trivial ?_ rfl
  simp only [Tryd.ntmps84, List.size_toArray, List.length_cons, List.length_nil, Nat.reduceAdd, Nat.reduceSub, Array.replicate_succ, Array.replicate_zero, List.push_toArray, List.append_toArray, List.nil_append, List.cons_append]
  gi_wp2
  gi_loopw [5, 12] (fun q p wr => ∃ v : Nat, v ≤ WN s ∧ p = .int .i64 v ∧ q = .int .i64 ((v * LN s : Nat) : Int) ∧ Hid (J (v * LN s) wr) ∧ Hid (Pl w0 b5 b7 g cap r s h m ga gc gz wr) ∧ Hid (RdA wr ga gz) ∧ l < wr.heap.size) (fun _ p _ => WN s - (intOf p).toNat)
  case atStart => exact ⟨0, by omega, rfl, by simp, Lib.hid (by simpa using H0.out), HP, RG, hl⟩
  case round =>
    obtain ⟨v, hv, rfl, rfl, hJv, hPv, hRv, hlv⟩ := hrel
    clear H0 HP RG hl
    by_cases hlt : v < WN s
    · obtain ⟨K, hK⟩ : ∃ K, (L r (s == 2)).length = K + 1 := ⟨(L r (s == 2)).length - 1, by omega⟩
      have hvi : (v : Int) < (WN s : Int) := by omega
      have hvw : (v : Int) < win s := by rw [HWW.out]; exact hvi
      obtain ⟨i0, i1, i2, i3⟩ := cell4 hPv.out.info
      have hK41 : K ≤ 41 := by omega
      have hHL := Lib.hid (show v * LN s + LN s ≤ 256 by rw [← HLW.out, ← Nat.succ_mul]; exact Nat.mul_le_mul_right _ hlt)
      have GV := Lib.hid (HG.out v wr hRv.out (by omega) hvw)
      gi_wp2_with first
        | (refine ⟨trivial, ?_⟩; gi_at_call 39; refine (callsIn_wide.2 GV.out).mono ?_; rintro e w1 ⟨rfl, hb1⟩; have P1 := Lib.hid (hPv.out.below hb1); have R1 := Lib.hid (hRv.out.below hb1); have J1 := Lib.hid (HJ.out _ _ _ hJv.out (Part.of_below hb1)); have l1 := Nat.lt_of_lt_of_le hlv hb1.size; have c5 := P1.out.offs.cell; rw [hK] at c5; have k1 : ((K + 1 : Nat) : Int) - 1 = (K : Int) := (by omega); obtain ⟨_, _, hcp, _⟩ := P1.out.row; have k3 : (K : Int) ≤ (cap : Int) := (by omega); have k4 : (0 : Int) ≤ (K : Int) := (by omega); clear hb1)
      obtain ⟨A, hA⟩ : ∃ A, v * LN s = A := ⟨_, rfl⟩
      have hAi : (v : Int) * (LN s : Int) = (A : Int) := by rw [← hA]; push_cast; rfl
      obtain ⟨Z, hZ⟩ : ∃ Z : Nat → Int, Z = fun b => (L r (s == 2)).getD b 0 := ⟨_, rfl⟩
      have z0 : Z 0 = 0 := by rw [hZ]; exact f2
      have zK : Z K = (LN s : Int) := by rw [hZ]; have := f3; rw [hK] at this; exact this
      have zlt : ∀ b, b < K → Z b < Z (b + 1) := fun b hb => by rw [hZ]; exact f4 b (by omega)
      have zin : ∀ b, b ≤ K → 0 ≤ Z b ∧ Z b ≤ (LN s : Int) := fun b hb => by rw [hZ]; exact f5 b (by omega)
      have HZ := Lib.hid hZ
      have HA := Lib.hid hA
      have HK := Lib.hid hK
      have Z0 := Lib.hid z0
      have ZK := Lib.hid zK
      have ZL := Lib.hid zlt
      have ZI := Lib.hid zin
      have J1' : Hid (J A w1) := Lib.hid (by rw [← hA]; exact J1.out)
      simp only [hAi]
      have hA2 := hHL.out
      rw [hA] at hA2
      clear hAi hA hZ z0 zK zlt zin hK f0 f1 f2 f3 f4 f5 J1 hJv hPv hRv GV i0 i1 i2 i3 c5 k1 hvw
      gi_loopw [5, 27] (fun q p wr => ∃ b : Nat, b ≤ K ∧ p = .int .i64 b ∧ q = .int .i64 ((A : Int) + Z b) ∧ Hid (J (A + (Z b).toNat) wr) ∧ Hid (Pl w0 b5 b7 g cap r s h m ga gc gz wr) ∧ Hid (RdA wr ga gz) ∧ l < wr.heap.size) (fun _ p _ => K - (intOf p).toNat)
      case atStart => exact ⟨0, by omega, rfl, by rw [Z0.out, Int.add_zero], Lib.hid (by rw [Z0.out]; exact J1'.out), P1, R1, l1⟩
      case round =>
        obtain ⟨b, hb, rfl, rfl, hJb, hPb, hRb, hlb⟩ := hrel
        clear P1 R1 l1 J1' hlv
        by_cases hltb : b < K
        · have c6 := hPb.out.row.cell (i := b) (by rw [HK.out]; omega)
          have c7 := hPb.out.row.cell (i := b + 1) (by rw [HK.out]; omega)
          obtain ⟨X, hX⟩ : ∃ X, Z b = X := ⟨_, rfl⟩
          obtain ⟨Y, hY⟩ : ∃ Y, Z (b + 1) = Y := ⟨_, rfl⟩
          have eX : (L r (s == 2)).getD b 0 = X := by rw [← hX, HZ.out]
          have eY : (L r (s == 2)).getD (b + 1) 0 = Y := by rw [← hY, HZ.out]
          rw [eX] at c6
          rw [eY] at c7
          have q1 := ZL.out b hltb
          obtain ⟨q2, q3⟩ := ZI.out b (by omega)
          obtain ⟨q4, q5⟩ := ZI.out (b + 1) (by omega)
          have c5 := hPb.out.offs.cell
          rw [HK.out] at c5
          rw [hX] at q1 q2 q3 hJb ⊢
          rw [hY] at q1 q4 q5
          have EX := Lib.hid eX
          have EY := Lib.hid eY
          have HY1 := Lib.hid hY
          have HX1 := Lib.hid hX
          clear eX eY hX hY
          have hbk : (b : Int) < (K : Int) := by omega
          gi_wp2
          gi_loopw [5, 39] (fun q p wr => ∃ j : Nat, (j : Int) ≤ Y - X ∧ p = .int .i64 j ∧ q = .int .i64 ((A : Int) + X + (j : Int)) ∧ Hid (J (A + X.toNat + j) wr) ∧ Hid (Pl w0 b5 b7 g cap r s h m ga gc gz wr) ∧ Hid (RdA wr ga gz) ∧ l < wr.heap.size) (fun _ p _ => (Y - X).toNat - (intOf p).toNat)
          case atStart => exact ⟨0, by omega, rfl, by simp, by simpa using hJb, hPb, hRb, hlb⟩
          case round =>
            obtain ⟨j, hj, rfl, rfl, hJj, hPj, hRj, hlj⟩ := hrel
            clear hJb hPb hRb hlb c5 c6 c7
            by_cases hltj : (j : Int) < Y - X
            · have dm := divmod (v := v) (q := X.toNat + j) (N := LN s) (by omega)
              rw [HA.out, ← Nat.add_assoc] at dm
              obtain ⟨fn, tmps, assign, body, hy, hR⟩ := HY.out (A + X.toNat + j) (A + X.toNat + j, ((gof gz (v : Int) : Nat) : Int), b) wr hJj.out (by omega) hlj ⟨rfl, by rw [dm.1], (show b + 1 < (L r (s == 2)).length by rw [HK.out]; omega), (show (L r (s == 2)).getD b 0 ≤ (((A + X.toNat + j) % LN s : Nat) : Int) by rw [dm.2, EX.out]; omega), (show (((A + X.toNat + j) % LN s : Nat) : Int) < (L r (s == 2)).getD (b + 1) 0 by rw [dm.2, EY.out]; omega)⟩
              dsimp only [encQ] at hy
              rw [show ((A + X.toNat + j : Nat) : Int) = (A : Int) + X + (j : Int) by omega] at hy
              have HR := Lib.hid hR
              clear hR dm
              gi_wp2
              refine HR.out.mono ?_
              rintro e W3 ⟨rfl, hJ3, hk3, hl3⟩
              have P3 := Lib.hid (hPj.out.keep (fun q hq => hk3.2 q hq))
              have R3 := Lib.hid (rd_keep hRj.out (fun x e => hk3.2 _ (.inr (.inr (.inr (.inr ⟨x, e, rfl⟩))))))
              have J3 := Lib.hid hJ3
              clear hJ3 hk3 hy HR hJj hPj hRj
              gi_wp2
              go_roundw
              case rel => exact ⟨j + 1, by omega, by go_num, congrArg (Value.int .i64) (by push_cast; omega), J3, P3, R3, hl3⟩
              case measure => simp [intOf]; omega
            · have hje : (j : Int) = Y - X := by omega
              have hj2 : ¬ (j : Int) < Y - X := hltj
              have JN : Hid (J (A + (Z (b + 1)).toNat) wr) := Lib.hid (by rw [HY1.out, show A + Y.toNat = A + X.toNat + j by omega]; exact hJj.out)
              clear hJj
              gi_wp2
              go_roundw
              case rel => exact ⟨b + 1, by omega, by go_num, congrArg (Value.int .i64) (by rw [HY1.out]; omega), JN, hPj, hRj, hlj⟩
              case measure => simp [intOf]; omega
        · obtain rfl : b = K := by omega
          have JN : Hid (J ((v + 1) * LN s) wr) := Lib.hid (by rw [Nat.add_mul, HA.out, Nat.one_mul]; have := hJb.out; rw [ZK.out] at this; exact this)
          have hbk : ¬ (b : Int) < (b : Int) := by omega
          clear hJb
          gi_wp2
          go_roundw
          case rel => exact ⟨v + 1, by omega, by go_num, congrArg (Value.int .i64) (by rw [ZK.out, Nat.add_mul, HA.out, Nat.one_mul]; push_cast; rfl), JN, hPb, hRb, hlb⟩
          case measure => simp [intOf]; omega
    · obtain rfl : v = WN s := by omega
      have hJ8 := hJv.out
      rw [HLW.out] at hJ8
      clear hJv hPv hRv
      gi_wp2
      go_end0
      exact ⟨⟨_, rfl⟩, hJ8⟩
end Go.Proofs.YtanjcbnkkhbkkaaDoor.Qn

/- Lines turned at their steps: what is answered to what may not be. -/
namespace Go.Proofs.YtanjcbnkkhbkkaaDoor.Qn
open Go Go.ChangeShapes Go.WideShapes Go.ChangeAt Go.RowKit Go.Proofs.YtanjcbnkkhbkkaaDoor.If

/-- The five boxes that turned lays first. -/
abbrev W5 (w : World) (a b c d e : Obj) : World := ((((w.alloc a).alloc b).alloc c).alloc d).alloc e
theorem al5 (w : World) (a b c d e : Obj) : Below w.heap.size w (W5 w a b c d e) :=
  ((((((Below.refl _ w).alloc (Nat.le_refl _) a).alloc (by simp) b).alloc (by simp; omega) c).alloc (by simp; omega) d).alloc (by simp; omega) e)
theorem w5_0 (w : World) (a b c d e : Obj) : (W5 w a b c d e).heap[w.heap.size]? = some a :=
  (Below.heap_alloc _ _ _ (by simp <;> omega)).trans ((Below.heap_alloc _ _ _ (by simp <;> omega)).trans ((Below.heap_alloc _ _ _ (by simp <;> omega)).trans ((Below.heap_alloc _ _ _ (by simp)).trans (World.alloc_heap_new w a))))
theorem w5_1 (w : World) (a b c d e : Obj) : (W5 w a b c d e).heap[w.heap.size + 1]? = some b := by
  have h := World.alloc_heap_new (w.alloc a) b
  rw [show (w.alloc a).heap.size = w.heap.size + 1 by simp] at h
  exact (Below.heap_alloc _ _ _ (by simp <;> omega)).trans ((Below.heap_alloc _ _ _ (by simp <;> omega)).trans ((Below.heap_alloc _ _ _ (by simp)).trans h))
theorem w5_2 (w : World) (a b c d e : Obj) : (W5 w a b c d e).heap[w.heap.size + 2]? = some c := by
  have h := World.alloc_heap_new ((w.alloc a).alloc b) c
  rw [show ((w.alloc a).alloc b).heap.size = w.heap.size + 2 by simp] at h
  exact (Below.heap_alloc _ _ _ (by simp <;> omega)).trans ((Below.heap_alloc _ _ _ (by simp)).trans h)
theorem w5_3 (w : World) (a b c d e : Obj) : (W5 w a b c d e).heap[w.heap.size + 3]? = some d := by
  have h := World.alloc_heap_new (((w.alloc a).alloc b).alloc c) d
  rw [show (((w.alloc a).alloc b).alloc c).heap.size = w.heap.size + 3 by simp] at h
  exact (Below.heap_alloc _ _ _ (by simp)).trans h
theorem w5_4 (w : World) (a b c d e : Obj) : (W5 w a b c d e).heap[w.heap.size + 4]? = some e := by
  have h := World.alloc_heap_new ((((w.alloc a).alloc b).alloc c).alloc d) e
  rwa [show ((((w.alloc a).alloc b).alloc c).alloc d).heap.size = w.heap.size + 4 by simp] at h
theorem cell_box {w : World} {b : Nat} {t : TypeId} {v : Value} (h : w.heap[b]? = some (.cells #[v] t (0, 0))) : w.cell? ⟨b, 0, none⟩ = some v := by
  simp [World.cell?, h]
theorem w5_size (w : World) (a b c d e : Obj) : (W5 w a b c d e).heap.size = w.heap.size + 5 := by simp
set_option maxRecDepth 100000 in
set_option maxHeartbeats 4000000 in
theorem turned_e1 (r s h m : Int) (ga : Option Addr) (gc : Nat) (gz : List Int) (O P A : Option Addr) (oc pc lc : Nat) (B S : List (List Int)) (lz : List Int) (most : Int) (fn : Nat) (w : World) (hgl : gz.length ≤ 100000) (hB : B.length ≤ 1000) (hS : S.length ≤ 1000) (hBr : ∀ i, i < B.length → (B.getD i []).length ≤ maxLen) (hSr : ∀ i, i < S.length → (S.getD i []).length ≤ maxLen) (hll : lz.length ≤ 100000) (hg : RdA w ga gz) (rB : RdR w O B) (rS : RdR w P S) (rl : RdA w A lz) (c : Int) (hq : QE r s h m gz B S c) (hc : c ≠ 0) :
    Calls Tryd.prog 53 #[.int .i64 r, .agg #[.int .u8 s, .int .u8 h, .int .i64 m, .slice ga gz.length gc], .slice O B.length oc, .slice P S.length pc, .slice A lz.length lc, .int .i64 most, .func (.func fn) #[] #[]] w fun e w' => e = .returned (.tuple #[.slice none 0 0, .int .i64 c]) ∧ Below w.heap.size w w' := by
  have HQ := Lib.hid (fun W (hW : Below w.heap.size w W) => qcheck_ok r s h m ga gc gz O P oc pc B S W hgl hB hS hBr hSr (hg.below hW) (rB.below hW) (rS.below hW) c hq)
  have RL := Lib.hid rl
  clear hg rB rS hq hBr hSr rl
  have hne : (c != 0) = true := by simpa using hc
  clear hc
  go_enter Tryd.func53, Tryd.ntmps53
  go_wp2_with (first | (go_at_call 73; ((with_reducible refine (HQ.out _ (al5 w _ _ _ _ _)).mono ?_); rintro e w1 ⟨rfl, hb1⟩; have B1 := Lib.hid (belowT (al5 w _ _ _ _ _) hb1); have Z := Lib.hid hb1; have cl : w1.cell? ⟨w.heap.size + 3, 0, none⟩ = some (.slice A lz.length lc) := (hb1.cell (p := ⟨w.heap.size + 3, 0, none⟩) (by simp)).trans (cell_box (w5_3 w _ _ _ _ _)); clear hb1)))
  go_ret2
  exact ⟨rfl, B1.out⟩
set_option maxRecDepth 100000 in
set_option maxHeartbeats 4000000 in
theorem turned_e2 (r s h m : Int) (ga : Option Addr) (gc : Nat) (gz : List Int) (O P A : Option Addr) (oc pc lc : Nat) (B S : List (List Int)) (lz : List Int) (most : Int) (fn : Nat) (w : World) (hgl : gz.length ≤ 100000) (hB : B.length ≤ 1000) (hS : S.length ≤ 1000) (hBr : ∀ i, i < B.length → (B.getD i []).length ≤ maxLen) (hSr : ∀ i, i < S.length → (S.getD i []).length ≤ maxLen) (hll : lz.length ≤ 100000) (hg : RdA w ga gz) (rB : RdR w O B) (rS : RdR w P S) (rl : RdA w A lz) (c : Int) (hq : QE r s h m gz B S c) (hc : c = 0) (hl : lz.length ≠ 256) :
    Calls Tryd.prog 53 #[.int .i64 r, .agg #[.int .u8 s, .int .u8 h, .int .i64 m, .slice ga gz.length gc], .slice O B.length oc, .slice P S.length pc, .slice A lz.length lc, .int .i64 most, .func (.func fn) #[] #[]] w fun e w' => e = .returned (.tuple #[.slice none 0 0, .int .i64 4]) ∧ Below w.heap.size w w' := by
  have HQ := Lib.hid (fun W (hW : Below w.heap.size w W) => qcheck_ok r s h m ga gc gz O P oc pc B S W hgl hB hS hBr hSr (hg.below hW) (rB.below hW) (rS.below hW) c hq)
  have RL := Lib.hid rl
  clear hg rB rS hq hBr hSr rl
  subst hc
  have hne : ((lz.length : Int) != 256) = true := by simp; omega
  clear hl
  go_enter Tryd.func53, Tryd.ntmps53
  go_wp2_with (first | (go_at_call 73; ((with_reducible refine (HQ.out _ (al5 w _ _ _ _ _)).mono ?_); rintro e w1 ⟨rfl, hb1⟩; have B1 := Lib.hid (belowT (al5 w _ _ _ _ _) hb1); have Z := Lib.hid hb1; have cl : w1.cell? ⟨w.heap.size + 3, 0, none⟩ = some (.slice A lz.length lc) := (hb1.cell (p := ⟨w.heap.size + 3, 0, none⟩) (by simp)).trans (cell_box (w5_3 w _ _ _ _ _)); clear hb1)))
  go_ret2
  exact ⟨rfl, B1.out⟩
set_option maxRecDepth 100000 in
set_option maxHeartbeats 4000000 in
theorem turned_e3 (r s h m : Int) (ga : Option Addr) (gc : Nat) (gz : List Int) (O P A : Option Addr) (oc pc lc : Nat) (B S : List (List Int)) (lz : List Int) (most : Int) (fn : Nat) (w : World) (hgl : gz.length ≤ 100000) (hB : B.length ≤ 1000) (hS : S.length ≤ 1000) (hBr : ∀ i, i < B.length → (B.getD i []).length ≤ maxLen) (hSr : ∀ i, i < S.length → (S.getD i []).length ≤ maxLen) (hll : lz.length ≤ 100000) (hg : RdA w ga gz) (rB : RdR w O B) (rS : RdR w P S) (rl : RdA w A lz) (c : Int) (hq : QE r s h m gz B S c) (hc : c = 0) (hl : lz.length = 256) (hm0 : 0 ≤ most) (hm1 : most ≤ 1099511627776) (hbad : ∃ j, 0 ≤ j ∧ j < 256 ∧ ¬ (-most ≤ lz.getD j 0 ∧ lz.getD j 0 ≤ most)) :
    Calls Tryd.prog 53 #[.int .i64 r, .agg #[.int .u8 s, .int .u8 h, .int .i64 m, .slice ga gz.length gc], .slice O B.length oc, .slice P S.length pc, .slice A lz.length lc, .int .i64 most, .func (.func fn) #[] #[]] w fun e w' => e = .returned (.tuple #[.slice none 0 0, .int .i64 2]) ∧ Below w.heap.size w w' := by
  have HQ := Lib.hid (fun W (hW : Below w.heap.size w W) => qcheck_ok r s h m ga gc gz O P oc pc B S W hgl hB hS hBr hSr (hg.below hW) (rB.below hW) (rS.below hW) c hq)
  have RL := Lib.hid rl
  clear hg rB rS hq hBr hSr rl
  subst hc
  rw [hl]
  have HBd := Lib.hid hbad
  have HL := Lib.hid hl
  clear hl hbad
  go_enter Tryd.func53, Tryd.ntmps53
  go_wp2_with (first | (go_at_call 73; ((with_reducible refine (HQ.out _ (al5 w _ _ _ _ _)).mono ?_); rintro e w1 ⟨rfl, hb1⟩; have B1 := Lib.hid (belowT (al5 w _ _ _ _ _) hb1); have Z := Lib.hid hb1; have cl : w1.cell? ⟨w.heap.size + 3, 0, none⟩ = some (.slice A 256 lc) := (hb1.cell (p := ⟨w.heap.size + 3, 0, none⟩) (by simp)).trans (cell_box (w5_3 w _ _ _ _ _)); clear hb1)))
  go_loop [35] (fun i => ∃ k : Nat, k ≤ 256 ∧ i = .int .i64 k ∧ Hid (∃ j, k ≤ j ∧ j < 256 ∧ ¬ (-most ≤ lz.getD j 0 ∧ lz.getD j 0 ≤ most))) (fun i => 256 - (intOf i).toNat)
  case atStart => exact ⟨0, by omega, rfl, HBd⟩
  case round =>
    obtain ⟨k, hk, rfl, hI⟩ := hrel
    clear HBd
    by_cases hlt : k < 256
    · obtain ⟨b, off, rfl, lb, c0⟩ := (RL.out.below B1.out) k (by rw [HL.out]; exact hlt)
      by_cases t0 : lz.getD k 0 < -most
      · clear hI
        generalize lz.getD k 0 = X at *
        go_wp2
        go_ret2
        exact ⟨rfl, B1.out⟩
      · by_cases t1 : most < lz.getD k 0
        · clear hI
          generalize lz.getD k 0 = X at *
          go_wp2
          go_ret2
          exact ⟨rfl, B1.out⟩
        · have hN : Hid (∃ j, k + 1 ≤ j ∧ j < 256 ∧ ¬ (-most ≤ lz.getD j 0 ∧ lz.getD j 0 ≤ most)) := Lib.hid (by
            obtain ⟨j, h1, h2, h3⟩ := hI.out
            refine ⟨j, ?_, h2, h3⟩
            by_cases e : j = k
            · subst e; exact absurd ⟨by omega, by omega⟩ h3
            · omega)
          clear hI
          generalize lz.getD k 0 = X at *
          go_wp2
          go_round
          case rel => exact ⟨k + 1, by omega, by go_num, hN⟩
          case measure => simp [intOf]; omega
    · obtain ⟨j, h1, h2, _⟩ := hI.out
      omega
end Go.Proofs.YtanjcbnkkhbkkaaDoor.Qn
