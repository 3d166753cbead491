/- Texts of one claim, one behind the other: BcMath, BcSm, BcMy. -/
import Derived.Test.YteklahfgplbmcaaDoorMrg5
import Derived.WalkKit
import Derived.Below
import Derived.RegionTactic
import Derived.Deep.QuietTactic
import Derived.BigQuiet
import Derived.ChangeAlike
import Derived.Deep.OwnRows
import Derived.Deep.Cut
import Derived.ProofKit
import Derived.OpenShut
import Derived.Laws.EntriesVeiled
import Derived.Lib.Hide
import Derived.Deep.RegionHeld3
import Derived.Laws.AppendOwn
import Derived.Laws.AppendOwnNone
import Derived.Deep.RegionWith
set_option linter.unusedVariables false
/- A list of entries that are in order, and of their ranks, is the book's. -/
namespace Go.Proofs.YteklahfgplbmcaaDoor.Bk
open Go

theorem all_of_nodup {l : List Nat} {N : Nat} (hn : l.Nodup) (hb : ∀ n ∈ l, n < N) (hl : l.length = N) : ∀ n, n < N → n ∈ l := by
  have hp : l.Perm ((List.range N).filter (fun n => decide (n ∈ l))) := by
    rw [List.perm_ext_iff_of_nodup hn (List.nodup_range.filter _)]
    intro a
    simp only [List.mem_filter, List.mem_range, decide_eq_true_eq]
    exact ⟨fun h => ⟨hb a h, h⟩, fun h => h.2⟩
  have h1 : ((List.range N).filter (fun n => decide (n ∈ l))).length = (List.range N).length := by rw [← hp.length_eq, hl, List.length_range]
  intro n hn'
  have := List.length_filter_eq_length_iff.1 h1 n (List.mem_range.2 hn')
  simpa using this
/-- What the program asks at a place of the list. -/
def okAt (id : Nat) (E R : List Int) (r : Nat) : Prop := ∃ e : Nat, E.getD r 0 = e ∧ e < Nn id ∧ R.getD e 0 = r ∧ (r = 0 ∨ ∃ d : Nat, E.getD (r - 1) 0 = d ∧ lt (wt id) d e)
theorem ok_lt {id : Nat} {E R : List Int} {i d : Nat} (h : ∀ r, r < i + d + 2 → okAt id E R r) : ∃ a b : Nat, E.getD i 0 = a ∧ E.getD (i + d + 1) 0 = b ∧ lt (wt id) a b := by
  induction d with
  | zero =>
    obtain ⟨b, hb, _, _, h0 | ⟨a, ha, hl⟩⟩ := h (i + 1) (by omega)
    · omega
    · rw [Nat.add_sub_cancel] at ha
      exact ⟨a, b, ha, hb, hl⟩
  | succ d ih =>
    obtain ⟨a, b, ha, hb, hl⟩ := ih (fun r hr => h r (by omega))
    obtain ⟨c, hc, _, _, h0 | ⟨b', hb', hl'⟩⟩ := h (i + (d + 1) + 1) (by omega)
    · omega
    · rw [show i + (d + 1) + 1 - 1 = i + d + 1 by omega, hb] at hb'
      have : b = b' := by omega
      subst this
      exact ⟨a, c, ha, hc, lt_trans hl hl'⟩
theorem gen_is {id : Nat} (h1 : 1 ≤ id) (h2 : id ≤ 12) {E R : List Int} (hE : E.length = Nn id) (hR : R.length = Nn id) (h : ∀ r, r < Nn id → okAt id E R r) : E = (ord id).map (fun n => ((n : Nat) : Int)) ∧ R = (List.range (Nn id)).map (fun n => ((rk id n : Nat) : Int)) := by
  have hl : (E.map Int.toNat).length = Nn id := by rw [List.length_map, hE]
  have hget : ∀ i (hi : i < (E.map Int.toNat).length), ∃ e : Nat, E.getD i 0 = e ∧ (E.map Int.toNat)[i] = e ∧ e < Nn id := fun i hi => by
    obtain ⟨e, he, hb, _, _⟩ := h i (by omega)
    have hi' : i < E.length := by omega
    refine ⟨e, he, ?_, hb⟩
    rw [List.getElem_map]
    rw [List.getD_eq_getElem?_getD, List.getElem?_eq_getElem hi'] at he
    simp at he
    rw [he]; rfl
  have hpw : (E.map Int.toNat).Pairwise (lt (wt id)) := by
    rw [List.pairwise_iff_getElem]
    intro i j hi hj hij
    obtain ⟨a, ha, ha2, _⟩ := hget i hi
    obtain ⟨b, hb, hb2, _⟩ := hget j hj
    rw [ha2, hb2]
    obtain ⟨a', b', ha', hb', hlt⟩ := ok_lt (id := id) (E := E) (R := R) (i := i) (d := j - i - 1) (fun r hr => h r (by omega))
    rw [show i + (j - i - 1) + 1 = j by omega] at hb'
    rw [ha] at ha'
    rw [hb] at hb'
    have e1 : a = a' := by omega
    have e2 : b = b' := by omega
    subst e1 e2
    exact hlt
  have hnd : (E.map Int.toNat).Nodup := hpw.imp (fun {a b} hab (e : a = b) => lt_irrefl (wt id) a (by rw [← e] at hab; exact hab))
  have hbd : ∀ n ∈ E.map Int.toNat, n < Nn id := fun n hn => by
    obtain ⟨i, hi, rfl⟩ := List.mem_iff_getElem.1 hn
    obtain ⟨e, _, h2, h3⟩ := hget i hi
    rw [h2]; exact h3
  have hord : E.map Int.toNat = ord id := IsOrd.uniq ⟨hpw, fun n => ⟨hbd n, all_of_nodup hnd hbd hl n⟩⟩ (ord_is h1 h2)
  have hE2 : E = (ord id).map (fun n => ((n : Nat) : Int)) := by
    rw [← hord, List.map_map]
    refine List.ext_getElem (by simp) fun i hi hi2 => ?_
    obtain ⟨e, he, he2, _⟩ := hget i (by omega)
    rw [List.getElem_map]
    rw [List.getElem_map] at he2
    rw [List.getD_eq_getElem?_getD, List.getElem?_eq_getElem hi] at he
    simp at he
    simp [he]
  refine ⟨hE2, List.ext_getElem (by simp [hR]) fun n hn hn2 => ?_⟩
  have hnN : n < Nn id := by omega
  obtain ⟨p, q⟩ := (ord_is h1 h2).rank hnN
  obtain ⟨e, he, _, hr, _⟩ := h (rk id n) p
  have hen : e = n := by
    rw [hE2, List.getD_eq_getElem?_getD, List.getElem?_map] at he
    have q' : (ord id)[rk id n]? = some n := q
    rw [q'] at he
    simp at he
    omega
  subst hen
  rw [List.getD_eq_getElem?_getD, List.getElem?_eq_getElem hn] at hr
  simp at hr
  simp [hr]
/-- The book itself passes. -/
theorem gen_ok {id : Nat} (h1 : 1 ≤ id) (h2 : id ≤ 12) {r : Nat} (hr : r < Nn id) : okAt id ((ord id).map (fun n => ((n : Nat) : Int))) ((List.range (Nn id)).map (fun n => ((rk id n : Nat) : Int))) r := by
  have ho := ord_is h1 h2
  have hl : (ord id).length = Nn id := ho.length
  have hr' : r < (ord id).length := by omega
  have hb : (ord id)[r] < Nn id := (ho.mem _).1 (List.getElem_mem _)
  refine ⟨(ord id)[r], ?_, hb, ?_, ?_⟩
  · rw [List.getD_eq_getElem?_getD, List.getElem?_map, List.getElem?_eq_getElem hr']; rfl
  · rw [List.getD_eq_getElem?_getD, List.getElem?_map, List.getElem?_range hb]
    have : rk id (ord id)[r] = r := by unfold rk; exact ho.nodup.idxOf_getElem r hr'
    simp [this]
  · cases r with
    | zero => exact .inl rfl
    | succ r =>
      refine .inr ⟨(ord id)[r], ?_, List.pairwise_iff_getElem.1 ho.pw r (r + 1) (by omega) hr' (by omega)⟩
      rw [Nat.add_sub_cancel, List.getD_eq_getElem?_getD, List.getElem?_map, List.getElem?_eq_getElem (by omega)]; rfl
end Go.Proofs.YteklahfgplbmcaaDoor.Bk

/- Books that are great; any two books compared. -/
namespace Go.Proofs.YteklahfgplbmcaaDoor.BkRf
open Go Go.ChangeShapes Go.WideShapes Go.ChangeAt Go.RowKit Go.Proofs.YteklahfgplbmcaaDoor.Bk Go.Proofs.YteklahfgplbmcaaDoor.Bi Go.Proofs.YteklahfgplbmcaaDoor.Cr Go.Proofs.YteklahfgplbmcaaDoor.Fx

theorem bx1 {w : World} {a b c d : Value} {x : World} (h : Below (w.alloc (.cells #[a, b, c, d] 24)).heap.size (w.alloc (.cells #[a, b, c, d] 24)) x) : x.cell? ⟨w.heap.size, 0, none⟩ = some a ∧ x.cell? ⟨w.heap.size, 1, none⟩ = some b ∧ x.cell? ⟨w.heap.size, 2, none⟩ = some c ∧ x.cell? ⟨w.heap.size, 3, none⟩ = some d := by
  have t0 := heap_alloc_last w (.cells #[a, b, c, d] 24)
  have t2 := (h.block _ (by simp)).trans t0
  obtain ⟨p0, p1, p2, p3, _⟩ := c4 t2
  exact ⟨p0, p1, p2, p3⟩
set_option maxRecDepth 100000 in
theorem great_ok (i p : Int) (a1 a2 : Option Addr) (n1 c1 n2 c2 : Nat) (w : World) :
    Calls Tryd.prog 26 #[.agg #[.int .i64 i, .int .i64 p, .slice a1 n1 c1, .slice a2 n2 c2]] w fun e w' => e = .returned (.bool (decide (2000 < n1 ∨ 2000 < n2))) ∧ Below w.heap.size w w' := by
  have HB := Lib.hid (al w (.cells #[.int .i64 i, .int .i64 p, .slice a1 n1 c1, .slice a2 n2 c2] 24))
  by_cases h1 : 2000 < n1
  · have e1 : decide (2000 < n1 ∨ 2000 < n2) = true := by simp [h1]
    have h1' : (2000 : Int) < (n1 : Int) := by omega
    rw [e1]
    clear h1
    go_enter Tryd.func26, Tryd.ntmps26
    go_wp2
    go_ret
    exact ⟨rfl, HB.out⟩
  by_cases h2 : 2000 < n2
  · have e1 : decide (2000 < n1 ∨ 2000 < n2) = true := by simp [h2]
    have h1' : ¬ (2000 : Int) < (n1 : Int) := by omega
    have h2' : (2000 : Int) < (n2 : Int) := by omega
    rw [e1]
    clear h1 h2
    go_enter Tryd.func26, Tryd.ntmps26
    go_wp2
    go_ret
    exact ⟨rfl, HB.out⟩
  · have e1 : decide (2000 < n1 ∨ 2000 < n2) = false := by simp; omega
    have h1' : ¬ (2000 : Int) < (n1 : Int) := by omega
    have h2' : ¬ (2000 : Int) < (n2 : Int) := by omega
    rw [e1]
    clear h1 h2
    go_enter Tryd.func26, Tryd.ntmps26
    go_wp2
    go_ret
    exact ⟨rfl, HB.out⟩
set_option maxRecDepth 100000 in
set_option maxHeartbeats 4000000 in
theorem bsame_dec (i p q : Int) (s1 s2 s3 s4 : Value) (A B C D : List Int) (w : World) (hA : A.length ≤ maxLen) (hB : B.length ≤ maxLen) (hC : C.length ≤ maxLen) (hD : D.length ≤ maxLen) (r1 : Rd w s1 A) (r2 : Rd w s2 B) (r3 : Rd w s3 C) (r4 : Rd w s4 D) :
    Calls Tryd.prog 24 #[.agg #[.int .i64 i, .int .i64 p, s1, s2], .agg #[.int .i64 i, .int .i64 q, s3, s4]] w fun e w' => e = .returned (.bool (decide (p = q ∧ A = C ∧ B = D))) ∧ Below w.heap.size w w' := by
  have b0 : Below w.heap.size w ((w.alloc (.cells #[.int .i64 i, .int .i64 p, s1, s2] 24)).alloc (.cells #[.int .i64 i, .int .i64 q, s3, s4] 24)) := (al w _).trans ((al _ _).mono (by simp))
  have HX := Lib.hid (fun x h => bx2 (w := w) (a := .int .i64 i) (b := .int .i64 p) (c := s1) (d := s2) (a' := .int .i64 i) (b' := .int .i64 q) (c' := s3) (d' := s4) (x := x) h)
  obtain ⟨⟨p0, p1, p2, p3⟩, q0, q1, q2, q3⟩ := HX.out _ (Below.refl _ _)
  have B0 := Lib.hid b0
  have ei : (i == i) = true := by simp
  by_cases hp : p = q
  · subst hp
    have ep : (p == p) = true := by simp
    by_cases hAC : A = C
    · have H1 : Hid (∀ x, Below w.heap.size w x → Calls Tryd.prog 25 #[s1, s3] x fun e w' => e = .returned (.bool true) ∧ Below x.heap.size x w') := Lib.hid fun x h => (ints_ok s1 s3 A C x hA hC (r1.below h) (r3.below h)).mono fun e w' q => by simpa [hAC] using q
      have H2 : Hid (∀ x, Below w.heap.size w x → Calls Tryd.prog 25 #[s2, s4] x fun e w' => e = .returned (.bool (decide (p = p ∧ A = C ∧ B = D))) ∧ Below x.heap.size x w') := Lib.hid fun x h => (ints_ok s2 s4 B D x hB hD (r2.below h) (r4.below h)).mono fun e w' q => by simpa [hAC] using q
      clear r1 r2 r3 r4 b0 hAC
      generalize decide (p = p ∧ A = C ∧ B = D) = Z at *
      go_enter Tryd.func24, Tryd.ntmps24
      go_wp2_with first
        | (go_at_call 25; ((with_reducible refine (H1.out _ B0.out).mono ?_); rintro e w1 ⟨rfl, hb1⟩; have hb1 := (show Below _ _ w1 from hb1); clear p0 p1 p2 p3 q0 q1 q2 q3; obtain ⟨⟨p0, p1, p2, p3⟩, q0, q1, q2, q3⟩ := HX.out w1 hb1; have B1 := Lib.hid (bT B0.out hb1); clear hb1))
        | (go_at_call 25; ((with_reducible refine (H2.out _ B1.out).mono ?_); rintro e w2 ⟨rfl, hb2⟩; have B2 := Lib.hid (bT B1.out hb2); clear hb2))
      go_ret
      exact ⟨rfl, B2.out⟩
    · have H1 : Hid (∀ x, Below w.heap.size w x → Calls Tryd.prog 25 #[s1, s3] x fun e w' => e = .returned (.bool false) ∧ Below x.heap.size x w') := Lib.hid fun x h => (ints_ok s1 s3 A C x hA hC (r1.below h) (r3.below h)).mono fun e w' q => by simpa [hAC] using q
      have e1 : decide (p = p ∧ A = C ∧ B = D) = false := by simp [hAC]
      rw [e1]
      clear r1 r2 r3 r4 b0 hAC e1
      go_enter Tryd.func24, Tryd.ntmps24
      go_wp2_with first
        | (go_at_call 25; ((with_reducible refine (H1.out _ B0.out).mono ?_); rintro e w1 ⟨rfl, hb1⟩; have hb1 := (show Below _ _ w1 from hb1); clear p0 p1 p2 p3 q0 q1 q2 q3; obtain ⟨⟨p0, p1, p2, p3⟩, q0, q1, q2, q3⟩ := HX.out w1 hb1; have B1 := Lib.hid (bT B0.out hb1); clear hb1))
      go_ret
      exact ⟨rfl, B1.out⟩
  · have ep : (p == q) = false := by simpa using hp
    have e1 : decide (p = q ∧ A = C ∧ B = D) = false := by simp [hp]
    rw [e1]
    clear r1 r2 r3 r4 b0 e1 HX
    go_enter Tryd.func24, Tryd.ntmps24
    go_wp2
    go_ret
    exact ⟨rfl, B0.out⟩
end Go.Proofs.YteklahfgplbmcaaDoor.BkRf

/- Which books are books, as the document asks. -/
namespace Go.Proofs.YteklahfgplbmcaaDoor.BkRf
open Go Go.ChangeShapes Go.WideShapes Go.ChangeAt Go.RowKit Go.Proofs.YteklahfgplbmcaaDoor.Bk Go.Proofs.YteklahfgplbmcaaDoor.Bi Go.Proofs.YteklahfgplbmcaaDoor.Cr Go.Proofs.YteklahfgplbmcaaDoor.Fx

/-- Such a book is a book. -/
def IsBk (i p : Int) (A B : List Int) : Prop := ∃ id : Nat, i = id ∧ 1 ≤ id ∧ id ≤ 12 ∧ p = pl id ∧ A = zi (ord id) ∧ B = rkL id
noncomputable instance (i p : Int) (A B : List Int) : Decidable (IsBk i p A B) := Classical.propDecidable _
theorem isbk_no {i p : Int} {A B : List Int} (h : i < 1 ∨ 12 < i) : decide (IsBk i p A B) = false := by
  simp only [decide_eq_false_iff_not]
  rintro ⟨id, rfl, h1, h2, _⟩
  omega
theorem isbk_at {id : Nat} {p : Int} {A B : List Int} (h1 : 1 ≤ id) (h2 : id ≤ 12) : decide (IsBk id p A B) = decide (p = pl id ∧ A = zi (ord id) ∧ B = rkL id) := by
  refine decide_eq_decide.2 ⟨?_, fun h => ⟨id, rfl, h1, h2, h⟩⟩
  rintro ⟨k, hk, _, _, h⟩
  have : id = k := by omega
  subst this
  exact h
set_option maxRecDepth 100000 in
set_option maxHeartbeats 8000000 in
theorem may_no (i p : Int) (s1 s2 : Value) (w : World) (h : i < 1 ∨ 12 < i) :
    Calls Tryd.prog 61 #[.agg #[.int .i64 i, .int .i64 p, s1, s2]] w fun e w' => e = .returned (.bool false) ∧ Below w.heap.size w w' := by
  have HB := Lib.hid (al w (.cells #[.int .i64 i, .int .i64 p, s1, s2] 24))
  obtain ⟨p0, p1, p2, p3⟩ := bx1 (w := w) (a := .int .i64 i) (b := .int .i64 p) (c := s1) (d := s2) (Below.refl _ _)
  generalize hW0 : w.alloc (.cells #[.int .i64 i, .int .i64 p, s1, s2] 24) = W0 at *
  by_cases h1 : i < 1
  · have e1 : decide (1 ≤ i) = false := by simp; omega
    have e2 : ¬ 1 ≤ i := by omega
    clear h
    go_enter Tryd.func61, Tryd.ntmps61
    go_wp2
    first
      | (go_region_with fail)
      | fail "not so"
    all_goals
      go_wp2
      go_ret
      exact ⟨rfl, HB.out.drew⟩
  · have h2 : 12 < i := by omega
    have e1 : decide (1 ≤ i) = true := by simp; omega
    have e2 : decide (i ≤ 12) = false := by simp; omega
    have e3 : 1 ≤ i := by omega
    have e4 : ¬ i ≤ 12 := by omega
    clear h
    go_enter Tryd.func61, Tryd.ntmps61
    go_wp2
    first
      | (go_region_with fail)
      | fail "not so"
    all_goals
      go_wp2
      go_ret
      exact ⟨rfl, HB.out.drew⟩
set_option maxRecDepth 100000 in
set_option maxHeartbeats 8000000 in
theorem may_at (id : Nat) (i p : Int) (s1 s2 : Value) (A B : List Int) (w : World) (h1 : 1 ≤ id) (h2 : id ≤ 12) (hi : i = id) (hA : A.length ≤ maxLen) (hB : B.length ≤ maxLen) (r1 : Rd w s1 A) (r2 : Rd w s2 B) :
    Calls Tryd.prog 61 #[.agg #[.int .i64 i, .int .i64 p, s1, s2]] w fun e w' => e = .returned (.bool (decide (p = pl id ∧ A = zi (ord id) ∧ B = rkL id))) ∧ Below w.heap.size w w' := by
  have HB := Lib.hid (al w (.cells #[.int .i64 i, .int .i64 p, s1, s2] 24))
  have f8 : Nn id ≤ 289 := (facts h1 h2).2.2.2.2.2.2.2.1
  have HX := Lib.hid (fun x h => bx1 (w := w) (a := .int .i64 i) (b := .int .i64 p) (c := s1) (d := s2) (x := x) h)
  have H54 : Hid (∀ w, Calls Tryd.prog 54 #[.int .i64 i] w fun e w' => ∃ a1 n1 c1 a2 n2 c2, e = .returned (.agg #[.int .i64 i, .int .i64 (pl id), .slice a1 n1 c1, .slice a2 n2 c2]) ∧ Rd w' (.slice a1 n1 c1) (zi (ord id)) ∧ Rd w' (.slice a2 n2 c2) (rkL id) ∧ Below w.heap.size w w') := Lib.hid fun w => by
    rw [hi]
    refine (rbook_ok id w h1 h2).mono ?_
    rintro e w' ⟨v1, v2, rfl, ⟨⟨a1, c1, rfl⟩, q1⟩, ⟨⟨a2, c2, rfl⟩, q2⟩, hb⟩
    exact ⟨_, _, _, _, _, _, rfl, q1 _ (fun _ _ _ => rfl), q2 _ (fun _ _ _ => rfl), hb⟩
  have HS : Hid (∀ x a1 n1 c1 a2 n2 c2, Below w.heap.size w x → Rd x (.slice a1 n1 c1) (zi (ord id)) → Rd x (.slice a2 n2 c2) (rkL id) → Calls Tryd.prog 24 #[.agg #[.int .i64 i, .int .i64 p, s1, s2], .agg #[.int .i64 i, .int .i64 (pl id), .slice a1 n1 c1, .slice a2 n2 c2]] x fun e w' => e = .returned (.bool (decide (p = pl id ∧ A = zi (ord id) ∧ B = rkL id))) ∧ Below x.heap.size x w') := Lib.hid fun x a1 n1 c1 a2 n2 c2 hb q1 q2 =>
    bsame_dec i p (pl id) s1 s2 _ _ A B _ _ x hA hB (by rw [zi_len, ord_len h1 h2]; unfold maxLen; omega) (by rw [rkL_len]; unfold maxLen; omega) (r1.below hb) (r2.below hb) q1 q2
  have e1 : decide (1 ≤ i) = true := by simp; omega
  have e2 : decide (i ≤ 12) = true := by simp; omega
  generalize decide (p = pl id ∧ A = zi (ord id) ∧ B = rkL id) = Z at *
  have hi0 : 1 ≤ i := by omega
  have hi1 : i ≤ 12 := by omega
  clear hA hB r1 r2 hi h1 h2 f8
  obtain ⟨p0, p1, p2, p3⟩ := HX.out _ (Below.refl _ _)
  generalize hW0 : w.alloc (.cells #[.int .i64 i, .int .i64 p, s1, s2] 24) = W0 at *
  have KEEP : Hid (∀ W, Below W0.heap.size W0 W → (W.cell? ⟨w.heap.size, 0, none⟩ = some (.int .i64 i) ∧ W.cell? ⟨w.heap.size, 1, none⟩ = some (.int .i64 p) ∧ W.cell? ⟨w.heap.size, 2, none⟩ = some s1 ∧ W.cell? ⟨w.heap.size, 3, none⟩ = some s2) ∧ Below W0.heap.size W0 W) := Lib.hid fun W h => ⟨HX.out W h, h⟩
  go_enter Tryd.func61, Tryd.ntmps61
  go_wp2
  go_region_held3 (fun W => (W.cell? ⟨w.heap.size, 0, none⟩ = some (.int .i64 i) ∧ W.cell? ⟨w.heap.size, 1, none⟩ = some (.int .i64 p) ∧ W.cell? ⟨w.heap.size, 2, none⟩ = some s1 ∧ W.cell? ⟨w.heap.size, 3, none⟩ = some s2) ∧ Below W0.heap.size W0 W) (exact KEEP.out _ (by first | exact Below.refl _ _ | exact (Below.refl _ _).drew | exact X1.out | exact X2.out))
    (first
      | (go_at_call 54; ((with_reducible refine (H54.out _).mono ?_); rintro e x1 ⟨a1, n1, c1, a2, n2, c2, rfl, q1, q2, hb⟩; have X1 := Lib.hid (bT (‹_ ∧ Below W0.heap.size W0 _›).2 hb); have Q1 := Lib.hid q1; have Q2 := Lib.hid q2; clear hb q1 q2))
      | (go_at_call 24; ((with_reducible refine (HS.out _ _ _ _ _ _ _ (bT HB.out X1.out) Q1.out Q2.out).mono ?_); rintro e x2 ⟨rfl, hb⟩; have X2 := Lib.hid (bT X1.out hb); clear hb)))
  all_goals
    go_wp2
    go_ret
    exact ⟨rfl, bT HB.out X2.out⟩
end Go.Proofs.YteklahfgplbmcaaDoor.BkRf
