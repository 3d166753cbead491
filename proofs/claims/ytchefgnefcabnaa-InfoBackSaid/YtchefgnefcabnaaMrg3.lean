/- Texts of one claim, one behind the other: InGs, InGr. -/
import Derived.Test.YtchefgnefcabnaaBiSrc
import Derived.Test.YtchefgnefcabnaaMrg2
import Derived.RangeFuncNested
import Derived.RangeFuncBox
import Derived.WalkKit
import Derived.OwnWalk
import Derived.ProofKit
import Derived.OpenShut
import Derived.Lib.Hide
import Derived.Laws.OwnMore
import Derived.Laws.AppendOwn
set_option linter.unusedVariables false
/- Reading on behind an error, and info's closure that does. -/
namespace Go.Proofs.Ytchefgnefcabnaa.In
open Go Go.ChangeShapes Go.WideShapes Go.ChangeAt Go.RowKit Go.Shelf Go.Proofs.Ytchefgnefcabnaa.Bi Go.Proofs.Ytchefgnefcabnaa.If
open Go.Proofs.Ytchefgnefcabnaa.Cr (Own Bits Sl)

instance (zs : List Int) : Decidable (Bits zs) := inferInstanceAs (Decidable (∀ z ∈ zs, z = 0 ∨ z = 1))
/-- What Get tells. -/
def gt (zs : List Int) (A : Int) (s : Nat) : Int × Int × Int :=
  if A < 0 ∨ (zs.length : Int) < A then (0, 0, 2) else if (zs.length : Int) - A < s then (0, 0, 5) else if Bits ((zs.drop A.toNat).take s) then (num ((zs.drop A.toNat).take s), A + s, 0) else (0, 0, 8)
theorem get_gt {w : World} {a : Option Addr} {c : Nat} {zs : List Int} (hs : Sl w (.slice a zs.length c) zs) (hl : zs.length ≤ maxLen) (hz : ∀ z ∈ zs, 0 ≤ z ∧ z ≤ 255) (A : Int) (s : Nat) {S : Int} (hS : S = s) (s0 : 1 ≤ s) (s1 : s ≤ 31) :
    Calls Try.prog 26 #[.slice a zs.length c, .int .i64 A, .int .i64 S] w fun e w' => e = .returned (.tuple #[.int .i64 (gt zs A s).1, .int .i64 (gt zs A s).2.1, .int .i64 (gt zs A s).2.2]) ∧ w = w' := by
  subst hS
  by_cases h1 : A < 0 ∨ (zs.length : Int) < A
  · unfold gt
    rw [if_pos h1]
    exact get_arg a zs.length c A s w hl (by omega)
  by_cases h2 : (zs.length : Int) - A < s
  · unfold gt
    rw [if_neg h1, if_pos h2]
    exact get_end a zs.length c A s w hl (by omega) (by omega) (by omega) (by omega) h2
  · obtain ⟨at', rfl⟩ : ∃ k : Nat, A = k := ⟨A.toNat, by omega⟩
    rcases hs with ⟨a', c', e1, rfl⟩ | ⟨b, off, cap, e1, lb, hc, hm, cl⟩
    · simp at h1 h2
      omega
    · cases e1
      have ly : ((zs.drop at').take s).length = s := by simp; omega
      refine (get_room b off zs.length c at' s ((zs.drop at').take s) w hl hc s1 (by omega) (by omega) ly lb (fun z hz' => hz z (List.mem_of_mem_drop (List.mem_of_mem_take hz'))) fun i hi => ?_).mono ?_
      · rw [Nat.add_assoc, cl (at' + i) (by omega)]
        simp [hi, List.getElem?_drop]
      · unfold gt
        rw [if_neg h1, if_neg h2]
        rintro e w' ⟨⟨hb, rfl⟩ | ⟨hn, rfl⟩, rfl⟩
        · rw [if_pos (by simpa using hb)]; exact ⟨rfl, rfl⟩
        · rw [if_neg (by simpa using hn)]; exact ⟨rfl, rfl⟩
/-- And behind an error. -/
def gs (zs : List Int) (A E : Int) (s : Nat) : Int × Int × Int := if E = 0 then gt zs A s else (0, A, E)
theorem num_lt {ys : List Int} {s : Nat} (hs : ys.length = s) (h : Bits ys) : 0 ≤ num ys ∧ num ys < 2 ^ s := num_bd s ys hs h
theorem gs_good {zs : List Int} {A E n A' E' : Int} {s : Nat} (h : gs zs A E s = (n, A', E')) (he : E' = 0) : E = 0 ∧ 0 ≤ A ∧ A' = A + s ∧ A' ≤ zs.length ∧ zs.drop A.toNat = bi n s ++ zs.drop A'.toNat ∧ 0 ≤ n ∧ n < 2 ^ s := by
  unfold gs at h
  by_cases c : E = 0
  · rw [if_pos c] at h
    unfold gt at h
    by_cases h1 : A < 0 ∨ (zs.length : Int) < A
    · rw [if_pos h1] at h; simp at h; omega
    rw [if_neg h1] at h
    by_cases h2 : (zs.length : Int) - A < s
    · rw [if_pos h2] at h; simp at h; omega
    rw [if_neg h2] at h
    by_cases h3 : Bits ((zs.drop A.toNat).take s)
    · rw [if_pos h3] at h
      simp only [Prod.mk.injEq] at h
      obtain ⟨rfl, rfl, _⟩ := h
      have ly : ((zs.drop A.toNat).take s).length = s := by simp; omega
      refine ⟨c, by omega, rfl, by omega, ?_, num_lt ly h3⟩
      rw [bi_num s _ ly h3, show (A + s).toNat = A.toNat + s by omega, ← List.drop_drop]
      exact (List.take_append_drop s _).symm
    · rw [if_neg h3] at h; simp at h; omega
  · rw [if_neg c] at h
    simp only [Prod.mk.injEq] at h
    omega
theorem gs_goodp {zs : List Int} {A E : Int} {s : Nat} (h : (gs zs A E s).2.2 = 0) : E = 0 ∧ 0 ≤ A ∧ (gs zs A E s).2.1 = A + s ∧ (gs zs A E s).2.1 ≤ zs.length ∧ zs.drop A.toNat = bi (gs zs A E s).1 s ++ zs.drop ((gs zs A E s).2.1).toNat ∧ 0 ≤ (gs zs A E s).1 ∧ (gs zs A E s).1 < 2 ^ s :=
  gs_good (n := (gs zs A E s).1) (A' := (gs zs A E s).2.1) (E' := (gs zs A E s).2.2) (Prod.ext rfl (Prod.ext rfl rfl)) h
theorem gs_run {zs rest : List Int} {A n : Int} {s : Nat} (h0 : 0 ≤ A) (h : zs.drop A.toNat = bi n s ++ rest) (n0 : 0 ≤ n) (n1 : n < 2 ^ s) (s1 : 1 ≤ s) : gs zs A 0 s = (n, A + s, 0) ∧ zs.drop (A + s).toNat = rest := by
  have hlen := congrArg List.length h
  simp [bi_len] at hlen
  have e : (zs.drop A.toNat).take s = bi n s := by rw [h, List.take_append_of_le_length (by rw [bi_len]; exact Nat.le_refl _), List.take_of_length_le (by rw [bi_len]; exact Nat.le_refl _)]
  constructor
  · unfold gs gt
    rw [if_pos rfl, if_neg (by omega), if_neg (by omega), e, if_pos (bi_bits n s), num_bi s n n0 n1]
  · rw [show (A + s).toNat = A.toNat + s by omega, ← List.drop_drop, h, List.drop_append_of_le_length (by rw [bi_len]; exact Nat.le_refl _), List.drop_of_length_le (by rw [bi_len]; exact Nat.le_refl _)]
    rfl
theorem gs_bd {zs : List Int} {A E n A' E' : Int} {s : Nat} (h : gs zs A E s = (n, A', E')) : 0 ≤ n ∧ n < 2 ^ s := by
  have hp : (0 : Int) < 2 ^ s := Int.pow_pos (by decide)
  by_cases c : E' = 0
  · have := gs_good h c
    omega
  · unfold gs at h
    by_cases c2 : E = 0
    · rw [if_pos c2] at h
      unfold gt at h
      split at h
      · simp at h; omega
      · split at h
        · simp at h; omega
        · split at h
          · simp at h; omega
          · simp at h; omega
    · rw [if_neg c2] at h
      simp at h
      omega
theorem gs_bdp (zs : List Int) (A E : Int) (s : Nat) : 0 ≤ (gs zs A E s).1 ∧ (gs zs A E s).1 < 2 ^ s :=
  gs_bd (n := (gs zs A E s).1) (A' := (gs zs A E s).2.1) (E' := (gs zs A E s).2.2) (Prod.ext rfl (Prod.ext rfl rfl))
/-- So many single bits. -/
def gi (zs : List Int) (A E : Int) : Nat → List Int × Int × Int
  | 0 => ([], A, E)
  | k + 1 => ((gi zs A E k).1 ++ [(gs zs (gi zs A E k).2.1 (gi zs A E k).2.2 1).1], (gs zs (gi zs A E k).2.1 (gi zs A E k).2.2 1).2)
theorem gi_len (zs : List Int) (A E : Int) : ∀ k, (gi zs A E k).1.length = k
  | 0 => rfl
  | k + 1 => by simp [gi, gi_len zs A E k]
theorem gi_good (zs : List Int) (A E : Int) : ∀ k, (gi zs A E (k + 1)).2.2 = 0 → E = 0 ∧ 0 ≤ A ∧ (gi zs A E (k + 1)).2.1 = A + (k + 1 : Nat) ∧ (gi zs A E (k + 1)).2.1 ≤ zs.length ∧ zs.drop A.toNat = (gi zs A E (k + 1)).1 ++ zs.drop ((gi zs A E (k + 1)).2.1).toNat ∧ Bits (gi zs A E (k + 1)).1
  | 0, h => by
    have g := gs_goodp (zs := zs) (A := A) (E := E) (s := 1) h
    obtain ⟨g1, g2, g3, g4, g5, g6, g7⟩ := g
    rw [bi_one _ g6 (by omega)] at g5
    refine ⟨g1, g2, g3, g4, g5, fun z hz => ?_⟩
    simp [gi] at hz
    subst hz
    omega
  | k + 1, h => by
    have g := gs_goodp (zs := zs) (A := (gi zs A E (k + 1)).2.1) (E := (gi zs A E (k + 1)).2.2) (s := 1) h
    obtain ⟨g1, g2, g3, g4, g5, g6, g7⟩ := g
    rw [bi_one _ g6 (by omega)] at g5
    obtain ⟨i1, i2, i3, i4, i5, i6⟩ := gi_good zs A E k g1
    rw [gi]
    refine ⟨i1, i2, ?_, g4, ?_, fun z hz => ?_⟩
    · show (gs zs (gi zs A E (k + 1)).2.1 (gi zs A E (k + 1)).2.2 1).2.1 = _
      rw [g3, i3]
      omega
    · rw [i5, g5]
      simp
    · simp only [List.mem_append, List.mem_singleton] at hz
      rcases hz with hz | rfl
      · exact i6 z hz
      · omega
theorem gi_run {zs : List Int} {A : Int} (h0 : 0 ≤ A) : ∀ (k : Nat) (bs rest : List Int), bs.length = k → Bits bs → zs.drop A.toNat = bs ++ rest → gi zs A 0 k = (bs, A + k, 0) ∧ zs.drop (A + k).toNat = rest
  | 0, bs, rest, hl, _, h => by
    obtain rfl := List.eq_nil_of_length_eq_zero hl
    simp [gi]
    simpa using h
  | k + 1, bs, rest, hl, hb, h => by
    obtain ⟨a, d, rfl⟩ : ∃ a d, bs = a ++ [d] := by
      rcases List.eq_nil_or_concat bs with rfl | ⟨a, n, rfl⟩
      · simp at hl
      · exact ⟨a, n, by simp⟩
    have hd := hb d (by simp)
    obtain ⟨i1, i2⟩ := gi_run h0 k a (d :: rest) (by simp at hl; omega) (fun z hz => hb z (by simp [hz])) (by rw [h]; simp)
    have g := gs_run (zs := zs) (A := A + k) (n := d) (s := 1) (rest := rest) (by omega) (by rw [i2, bi_one _ (by omega) (by omega)]; rfl) (by omega) (by omega) (Nat.le_refl _)
    rw [gi, i1]
    dsimp only
    rw [g.1]
    refine ⟨?_, ?_⟩
    · simp only [Prod.mk.injEq, true_and, and_true]; omega
    · rw [show A + ((k + 1 : Nat) : Int) = A + k + (1 : Nat) by omega]; exact g.2
theorem gi_bits {zs : List Int} {A E : Int} : ∀ k, Bits (gi zs A E k).1
  | 0 => fun z hz => by cases hz
  | k + 1 => fun z hz => by
    simp only [gi, List.mem_append, List.mem_singleton] at hz
    rcases hz with hz | rfl
    · exact gi_bits k z hz
    · have := gs_bdp zs (gi zs A E k).2.1 (gi zs A E k).2.2 1
      omega

/-! ### The closure -/
/-- All but two boxes stay. -/
structure Ex (Ba Be : Nat) (w w' : World) : Prop where
  os : w'.os = w.os
  tape : w'.tape = w.tape
  output : w'.output = w.output
  size : w.heap.size ≤ w'.heap.size
  block : ∀ k, k < w.heap.size → k ≠ Ba → k ≠ Be → w'.heap[k]? = w.heap[k]?
theorem Ex.refl {Ba Be : Nat} (w : World) : Ex Ba Be w w := ⟨rfl, rfl, rfl, Nat.le_refl _, fun _ _ _ _ => rfl⟩
theorem Ex.trans {Ba Be : Nat} {a b c : World} (h : Ex Ba Be a b) (k : Ex Ba Be b c) : Ex Ba Be a c := ⟨k.os.trans h.os, k.tape.trans h.tape, k.output.trans h.output, Nat.le_trans h.size k.size, fun j hj h1 h2 => (k.block j (Nat.lt_of_lt_of_le hj h.size) h1 h2).trans (h.block j hj h1 h2)⟩
theorem Ex.of {Ba Be : Nat} {w w' : World} (h : Below w.heap.size w w') : Ex Ba Be w w' := ⟨h.os, h.tape, h.output, h.size, fun k hk _ _ => h.block k hk⟩
theorem Ex.bel {Ba Be b : Nat} {W w w' : World} (h : Ex Ba Be w w') (hb : Below b W w) (hw : b ≤ w.heap.size) (h1 : b ≤ Ba) (h2 : b ≤ Be) : Below b W w' := ⟨h.os.trans hb.os, h.tape.trans hb.tape, h.output.trans hb.output, Nat.le_trans hb.size h.size, fun k hk => (h.block k (by omega) (by omega) (by omega)).trans (hb.block k hk)⟩
theorem Ex.own {Ba Be base : Nat} {w w' : World} {e : TypeId} {size : Nat} {v : Value} {n : Nat} {xs : List Value} (h : Ex Ba Be w w') (ho : w.ownsRow base e size v n xs) (h1 : Ba < base) (h2 : Be < base) : w'.ownsRow base e size v n xs := by
  have hlt := ho.lt
  obtain ⟨hx, hh | ⟨g, cap, cur, rfl, hg, hh, hc, hm, hs, ht⟩⟩ := ho
  · exact ⟨hx, .inl hh⟩
  · exact ⟨hx, .inr ⟨g, cap, cur, rfl, hg, (h.block g (hlt g rfl).2 (by omega) (by omega)).trans hh, hc, hm, hs, ht⟩⟩
/-- The three boxes. -/
structure St (Be Bb Ba : Nat) (v : Value) (w : World) (A E : Int) : Prop where
  e : Boxed w Be 27 (.int .i64 E)
  b : Boxed w Bb 25 v
  a : Boxed w Ba 3 (.int .i64 A)
theorem St.ex {Be Bb Ba : Nat} {v : Value} {w w' : World} {A E : Int} (h : St Be Bb Ba v w A E) (x : Below w.heap.size w w') : St Be Bb Ba v w' A E :=
  ⟨(x.block Be h.e.lt).trans h.e, (x.block Bb h.b.lt).trans h.b, (x.block Ba h.a.lt).trans h.a⟩
theorem St.set {Be Bb Ba Bi o : Nat} {v u : Value} {w : World} {A E : Int} (h : St Be Bb Ba v w A E) (h1 : Be ≠ Bi) (h2 : Bb ≠ Bi) (h3 : Ba ≠ Bi) : St Be Bb Ba v (w.setCell ⟨Bi, o, none⟩ u) A E :=
  ⟨(Below.heap_setCell w ⟨Bi, o, none⟩ u Be h1).trans h.e, (Below.heap_setCell w ⟨Bi, o, none⟩ u Bb h2).trans h.b, (Below.heap_setCell w ⟨Bi, o, none⟩ u Ba h3).trans h.a⟩
theorem ex_set {Ba Be : Nat} (w : World) (u v : Value) : Ex Ba Be w ((w.setCell ⟨Ba, 0, none⟩ u).setCell ⟨Be, 0, none⟩ v) :=
  ⟨rfl, rfl, rfl, by simp, fun k _ h1 h2 => (Below.heap_setCell _ ⟨Be, 0, none⟩ v k h2).trans (Below.heap_setCell _ ⟨Ba, 0, none⟩ u k h1)⟩
set_option maxRecDepth 100000 in
set_option maxHeartbeats 1000000 in
theorem gc_ok {W w : World} {Be Bb Ba : Nat} {a : Option Addr} {c : Nat} {zs : List Int} {A E n A' E' : Int} {s : Nat} {S : Int} (hS : S = s) (hg : gs zs A E s = (n, A', E')) (hs : Sl W (.slice a zs.length c) zs) (hl : zs.length ≤ maxLen) (hz : ∀ z ∈ zs, 0 ≤ z ∧ z ≤ 255) (s0 : 1 ≤ s) (s1 : s ≤ 31)
    (hW : Below W.heap.size W w) (hst : St Be Bb Ba (.slice a zs.length c) w A E) (d1 : Be ≠ Ba) (d2 : Bb ≠ Ba) (d3 : Bb ≠ Be) :
    Calls Try.prog 25 #[.int .i64 S, .pointer (some ⟨Be, 0, none⟩), .pointer (some ⟨Bb, 0, none⟩), .pointer (some ⟨Ba, 0, none⟩)] w fun e w' => e = .returned (.int .i64 n) ∧ St Be Bb Ba (.slice a zs.length c) w' A' E' ∧ Ex Ba Be w w' := by
  subst hS
  have HS := Lib.hid (get_gt (hs.below hW) hl hz A s rfl s0 s1)
  obtain ⟨he, hb, ha⟩ := hst
  have ce := he.cell
  have cb := hb.cell
  have ca := ha.cell
  have fe := he.frozen
  have fa := ha.frozen
  have HE := Lib.hid (And.intro he (And.intro hb ha))
  clear he hb ha hs hz
  by_cases c0 : E = 0
  · unfold gs at hg
    rw [if_pos c0] at hg
    rw [hg] at HS
    dsimp only at HS
    subst c0
    go_enter Try.func25, Try.ntmps25
    go_wp2_with (go_at_call 26; ((with_reducible refine (HS.out).mono ?_); rintro e w' ⟨rfl, rfl⟩))
    go_ret
    obtain ⟨he, hb, ha⟩ := HE.out
    refine ⟨rfl, ⟨(he.other d1 _).set _, (hb.other d2 _).other d3 _, (ha.set _).other (fun h => d1 h.symm) _⟩, ex_set w _ _⟩
  · have c1 : (E == 0) = false := by simpa using c0
    unfold gs at hg
    rw [if_neg c0] at hg
    simp only [Prod.mk.injEq] at hg
    obtain ⟨rfl, rfl, rfl⟩ := hg
    go_enter Try.func25, Try.ntmps25
    go_wp2
    go_ret
    obtain ⟨he, hb, ha⟩ := HE.out
    exact ⟨rfl, ⟨he, hb, ha⟩, Ex.refl _⟩
end Go.Proofs.Ytchefgnefcabnaa.In

/- What info's groups makes of single bits. -/
namespace Go.Proofs.Ytchefgnefcabnaa.In
open Go Go.ChangeShapes Go.WideShapes Go.ChangeAt Go.RowKit Go.Shelf Go.Proofs.Ytchefgnefcabnaa.Bi Go.Proofs.Ytchefgnefcabnaa.If
open Go.Proofs.Ytchefgnefcabnaa.Cr (Own Bits Sl)
open Go.Proofs.Ytchefgnefcabnaa.Lo (info3)

theorem grow_bd {l : List Int} {n : Int} {b : Nat} (h : l ≠ [] ∧ l.length ≤ b ∧ ∀ z ∈ l, 1 ≤ z ∧ z ≤ b) : grow l n ≠ [] ∧ (grow l n).length ≤ b + 1 ∧ ∀ z ∈ grow l n, 1 ≤ z ∧ z ≤ (b + 1 : Nat) := by
  obtain ⟨h1, h2, h3⟩ := h
  obtain ⟨a, x, rfl⟩ : ∃ a x, l = a ++ [x] := by
    rcases List.eq_nil_or_concat l with rfl | ⟨a, n, rfl⟩
    · exact absurd rfl h1
    · exact ⟨a, n, by simp⟩
  have hx := h3 x (by simp)
  by_cases c : n = 1
  · subst c
    have e : grow (a ++ [x]) 1 = a ++ [x + 1] := by simp [grow]
    rw [e]
    refine ⟨by simp, by simp at h2 ⊢; omega, fun z hz => ?_⟩
    simp at hz
    rcases hz with hz | rfl
    · have := h3 z (by simp [hz]); omega
    · omega
  · have e : grow (a ++ [x]) n = a ++ [x] ++ [1] := by simp [grow, c]
    rw [e]
    refine ⟨by simp, by simp at h2 ⊢; omega, fun z hz => ?_⟩
    simp at hz
    rcases hz with hz | rfl | rfl
    · have := h3 z (by simp [hz]); omega
    · omega
    · omega
/-- The groups of so many bits. -/
def gl (zs : List Int) (A E : Int) (k : Nat) : List Int := ((gi zs A E k).1).foldl grow [1]
theorem gl_bd (zs : List Int) (A E : Int) : ∀ k, gl zs A E k ≠ [] ∧ (gl zs A E k).length ≤ k + 1 ∧ ∀ z ∈ gl zs A E k, 1 ≤ z ∧ z ≤ (k + 1 : Nat)
  | 0 => by simp [gl, gi]
  | k + 1 => by
    have := grow_bd (n := (gs zs (gi zs A E k).2.1 (gi zs A E k).2.2 1).1) (gl_bd zs A E k)
    simp only [gl, gi, List.foldl_append, List.foldl_cons, List.foldl_nil] at this ⊢
    exact this
theorem gl_succ (zs : List Int) (A E : Int) (k : Nat) : gl zs A E (k + 1) = grow (gl zs A E k) (gs zs (gi zs A E k).2.1 (gi zs A E k).2.2 1).1 := by
  simp only [gl, gi, List.foldl_append, List.foldl_cons, List.foldl_nil]
theorem Ex.below {Ba Be : Nat} {w y w5 : World} (h : Ex Ba Be w y) (hb : Below w.heap.size y w5) : Ex Ba Be w w5 :=
  ⟨hb.os.trans h.os, hb.tape.trans h.tape, hb.output.trans h.output, Nat.le_trans h.size hb.size, fun k hk h1 h2 => (hb.block k hk).trans (h.block k hk h1 h2)⟩
theorem St.below {Be Bb Ba b : Nat} {v : Value} {w w' : World} {A E : Int} (h : St Be Bb Ba v w A E) (x : Below b w w') (h1 : Be < b) (h2 : Bb < b) (h3 : Ba < b) : St Be Bb Ba v w' A E :=
  ⟨(x.block Be h1).trans h.e, (x.block Bb h2).trans h.b, (x.block Ba h3).trans h.a⟩
theorem set_last (l : List Value) (u : Value) {x : Value} {j : Nat} (h : l.length = j) : (l ++ [x]).set j u = l ++ [u] := by
  subst h; simp
theorem own_cells {base : Nat} {w : World} {g n cap : Nat} {zs : List Int} (h : w.ownsRow base 3 1 (.slice (some ⟨g, 0, none⟩) n cap) n (zs.map (Value.int .i64))) (hn : zs.length = n) {j : Nat} (hj : j < n) : w.cell? ⟨g, j, none⟩ = some (.int .i64 (zs.getD j 0)) := by
  have hc := @World.ownsRow.cells _ _ _ _ _ _ _ h (g := g) rfl j (.int .i64 (zs.getD j 0)) (by simp [show j < zs.length by omega])
  rw [Addr.add_lit, Nat.zero_add] at hc
  exact hc
theorem own_rd {base : Nat} {w : World} {g n cap : Nat} {zs : List Int} (h : w.ownsRow base 3 1 (.slice (some ⟨g, 0, none⟩) n cap) n (zs.map (Value.int .i64))) (hn : zs.length = n) : RdA w (some ⟨g, 0, none⟩) zs := fun i hi =>
  ⟨g, 0, rfl, (h.lt g rfl).2, by rw [Nat.zero_add]; exact own_cells h hn (by omega)⟩
theorem one_new (w : World) : (w.alloc (.cells #[.int .i64 1] 3)).ownsRow w.heap.size 3 1 (.slice (some ⟨w.heap.size, 0, none⟩) 1 1) 1 (([1] : List Int).map (Value.int .i64)) :=
  ⟨by simp, .inr ⟨w.heap.size, 1, #[.int .i64 1], rfl, Nat.le_refl _, World.alloc_heap_new w _, Nat.le_refl _, by unfold maxLen; omega, rfl, rfl⟩⟩
set_option maxRecDepth 100000 in
set_option maxHeartbeats 2000000 in
theorem groups_ok {W w : World} {Be Bb Ba : Nat} {a : Option Addr} {c : Nat} {zs : List Int} {A E : Int} (hs : Sl W (.slice a zs.length c) zs) (hl : zs.length ≤ maxLen) (hz : ∀ z ∈ zs, 0 ≤ z ∧ z ≤ 255)
    (hW : Below W.heap.size W w) (b1 : W.heap.size ≤ Be) (b3 : W.heap.size ≤ Ba) (hst : St Be Bb Ba (.slice a zs.length c) w A E) (d1 : Be ≠ Ba) (d2 : Bb ≠ Ba) (d3 : Bb ≠ Be) :
    Calls Try.prog 27 #[.func (.func 25) #[] #[.pointer (some ⟨Be, 0, none⟩), .pointer (some ⟨Bb, 0, none⟩), .pointer (some ⟨Ba, 0, none⟩)]] w fun e w' => ∃ g cap, e = .returned (.slice (some ⟨g, 0, none⟩) (gl zs A E 7).length cap) ∧ RdA w' (some ⟨g, 0, none⟩) (gl zs A E 7) ∧ w.heap.size ≤ g ∧ St Be Bb Ba (.slice a zs.length c) w' (gi zs A E 7).2.1 (gi zs A E 7).2.2 ∧ Ex Ba Be w w' := by
  obtain ⟨i3, hi3, hz30, hz31, hz32⟩ := info_parts info3
  have l1 := hst.e.lt
  have l2 := hst.b.lt
  have l3 := hst.a.lt
  have hgo : Hid (∀ (k : Nat) (y : World), Ex Ba Be w y → St Be Bb Ba (.slice a zs.length c) y (gi zs A E k).2.1 (gi zs A E k).2.2 → Calls Try.prog 25 #[.int .i64 1, .pointer (some ⟨Be, 0, none⟩), .pointer (some ⟨Bb, 0, none⟩), .pointer (some ⟨Ba, 0, none⟩)] y fun e w' => e = .returned (.int .i64 (gs zs (gi zs A E k).2.1 (gi zs A E k).2.2 1).1) ∧ St Be Bb Ba (.slice a zs.length c) w' (gi zs A E (k + 1)).2.1 (gi zs A E (k + 1)).2.2 ∧ Ex Ba Be y w') :=
    Lib.hid fun k y hx hy => gc_ok (s := 1) rfl (Prod.ext rfl (Prod.ext rfl rfl)) hs hl hz (Nat.le_refl _) (by decide) (hx.bel hW hW.size b3 b1) hy d1 d2 d3
  have HA := Lib.hid (Below.alloc (Below.refl w.heap.size w) (Nat.le_refl _) (.cells #[.int .i64 1] 3))
  have HS0 := Lib.hid (hst.below HA.out l1 l2 l3)
  have HO0 := Lib.hid (one_new w)
  have HX0 := Lib.hid ((Ex.refl (Ba := Ba) (Be := Be) w).below HA.out)
  clear hs hz hst hW
  go_enter Try.func27, Try.ntmps27
  go_wp2
  go_loopw [3, 5] (fun v i wr => ∃ k : Nat, i = .int .i64 k ∧ k ≤ 7 ∧ Hid (wr.ownsRow w.heap.size 3 1 v (gl zs A E k).length ((gl zs A E k).map (Value.int .i64))) ∧ Hid (St Be Bb Ba (.slice a zs.length c) wr (gi zs A E k).2.1 (gi zs A E k).2.2) ∧ Hid (Ex Ba Be w wr)) (fun _ i _ => 7 - (intOf i).toNat)
  case atStart => exact ⟨0, rfl, by omega, Lib.hid (by simpa [gl, gi] using HO0.out), HS0, HX0⟩
  case round =>
    obtain ⟨k, rfl, hk, hO, hS, hX⟩ := hrel
    have hbd := gl_bd zs A E k
    obtain ⟨q1, q2, q3⟩ := hbd
    by_cases hlt : k < 7
    · obtain ⟨l, x, hlx⟩ : ∃ l x, gl zs A E k = l ++ [x] := by
        rcases List.eq_nil_or_concat (gl zs A E k) with h | ⟨a, n, h⟩
        · exact absurd h q1
        · exact ⟨a, n, by rw [h]; simp⟩
      have hsu := gl_succ zs A E k
      rw [hlx] at hO q2 q3 hsu
      have hx := q3 x (by simp)
      obtain ⟨m, hm⟩ : ∃ m, l.length = m := ⟨_, rfl⟩
      rw [List.length_append, List.length_singleton, hm] at hO q2
      obtain ⟨g, cap, rfl⟩ := ownsRow_succ hO.out
      obtain ⟨x0, x1⟩ := hx
      have hltk : (k : Int) < 7 := by omega
      have HC := Lib.hid (hgo.out k wr hX.out hS.out)
      have HSU := Lib.hid hsu
      have hwr := hX.out.size
      clear q3 q1 hlx hsu
      generalize (gs zs (gi zs A E k).2.1 (gi zs A E k).2.2 1).1 = n at *
      by_cases hn : n = 1
      · subst hn
        have e : Hid (gl zs A E (k + 1) = l ++ [x + 1]) := Lib.hid (by rw [HSU.out]; simp [grow])
        go_wp2_with (go_at_call 25; ((with_reducible refine (HC.out).mono ?_); rintro e y ⟨rfl, hS1, hX1⟩; have HO1 := Lib.hid (hX1.own hO.out l3 l1); have HS1 := Lib.hid hS1; have HX1 := Lib.hid (hX.out.trans hX1); have cl := own_cells (zs := l ++ [x]) HO1.out (by simp [hm]) (j := m) (by omega); have cf := HO1.out.frozenAt m; rw [show (l ++ [x]).getD m 0 = x by rw [← hm]; simp] at cl; clear hS1 hX1))
        go_roundw
        case rel =>
          refine ⟨k + 1, by go_num, by omega, Lib.hid ?_, Lib.hid ?_, Lib.hid ?_⟩
          · have := (HO1.out.stored m (.int .i64 (x + 1))).1
            rw [List.map_append, List.map_cons, List.map_nil, set_last _ _ (by rw [List.length_map]; exact hm)] at this
            rw [e.out, List.length_append, List.map_append, hm]
            exact this
          · exact HS1.out.set (by have := (HO1.out.lt g rfl).1; omega) (by have := (HO1.out.lt g rfl).1; omega) (by have := (HO1.out.lt g rfl).1; omega)
          · exact HX1.out.below ((Below.refl _ _).setCell (HO1.out.lt g rfl).1 _)
        case measure => simp [intOf]; omega
      · have hn1 : (n == 1) = false := by simpa using hn
        have e : Hid (gl zs A E (k + 1) = l ++ [x] ++ [1]) := Lib.hid (by rw [HSU.out]; simp [grow, hn])
        have hc3 : m + 1 + 1 ≤ maxLen := by unfold maxLen; omega
        have hc4 : (m + 1 + 1) * 8 ≤ 140737488355328 := by omega
        go_wp2_with (first
          | (go_at_call 25; ((with_reducible refine (HC.out).mono ?_); rintro e y ⟨rfl, hS1, hX1⟩; have HO1 := Lib.hid (hX1.own hO.out l3 l1); have HS1 := Lib.hid hS1; have HX1 := Lib.hid (hX.out.trans hX1); have hys := HX1.out.size; clear hS1 hX1))
          | (at_builtin; refine wpList_append_own _ rfl _ _ 22 rfl w.heap.size 3 i3 (.int .i64 0) 1 8 Try.underlying22 hi3 hz30 hz31 hz32 rfl (by decide) _ _ _ rfl (HO1.out.alloc _) ⟨y.heap.size, 0, none⟩ 1 1 [.int .i64 1] rfl rfl (cell_one_new _ _ _) (by intro u hu; simp at hu; subst hu; rfl) hc3 hc4 (by simp; omega) ?_; intro v2 w5 ho2 hg2 _; have hb2 : Below w.heap.size y w5 := ((Below.refl _ y).alloc hys _).grown hg2 (by simp; omega) (fun kk hkk => (HO1.out.lt kk hkk).1); have HO2 := Lib.hid ho2; have HB2 := Lib.hid hb2; clear ho2 hg2 hb2))
        go_roundw
        case rel =>
          refine ⟨k + 1, by go_num, by omega, Lib.hid ?_, Lib.hid (HS1.out.below HB2.out l1 l2 l3), Lib.hid (HX1.out.below HB2.out)⟩
          rw [e.out, List.length_append, List.map_append, List.length_append, hm]
          exact HO2.out
        case measure => simp [intOf]; omega
    · obtain rfl : k = 7 := by omega
      obtain ⟨m, hm⟩ : ∃ m, (gl zs A E 7).length = m + 1 := ⟨(gl zs A E 7).length - 1, by have : (gl zs A E 7).length ≠ 0 := fun h => q1 (List.eq_nil_of_length_eq_zero h); omega⟩
      rw [hm] at hO
      obtain ⟨g, cap, rfl⟩ := ownsRow_succ hO.out
      clear q1 q2 q3
      go_wp2
      go_ret
      exact ⟨g, cap, by rw [hm]; rfl, own_rd hO.out hm, (hO.out.lt g rfl).1, hS.out, hX.out⟩
end Go.Proofs.Ytchefgnefcabnaa.In
