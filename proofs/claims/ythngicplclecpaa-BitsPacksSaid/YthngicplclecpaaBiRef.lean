/- What the document's own Put and Get do. -/
import Derived.Test.YthngicplclecpaaBiSrc
import Derived.WalkKit
import Derived.OwnWalk
import Derived.Laws.AppendOwn
import Derived.ProofKit
import Derived.OpenShut
import Derived.Lib.Hide
namespace Go.Proofs.Ythngicplclecpaa.Bi
open Go Go.ChangeShapes Go.WideShapes Go.ChangeAt Go.RowKit
open Go.Proofs.Ythngicplclecpaa.Cr (belowT below_grown)

theorem retI {a b : Int} (h : a = b) : Ending.returned (.int .i64 a) = .returned (.int .i64 b) := by rw [h]
theorem half_bd {X : Int} {s : Nat} (x0 : 0 ≤ X) (x1 : X < 2 ^ (s + 1)) : 0 ≤ X / 2 ∧ X / 2 < 2 ^ s := by
  rw [Int.pow_succ] at x1
  generalize (2 : Int) ^ s = P at *
  omega

set_option maxRecDepth 100000 in
theorem rbits_ok : ∀ (s : Nat) (X : Int) (w : World), s ≤ 31 → 0 ≤ X → X < 2 ^ s →
    Calls Try.prog 18 #[.int .i64 X, .int .i64 s] w fun e w' => ∃ v, e = .returned v ∧ Cr.Own w.heap.size w' v (bi X s) ∧ Below w.heap.size w w'
  | 0, X, w, _, _, _ => by
    go_enter Try.func18, Try.ntmps18
    go_wp2
    go_ret
    exact ⟨_, rfl, World.ownsRow_nil w _ 5 1, Below.refl _ _⟩
  | s + 1, X, w, s1, x0, x1 => by
    obtain ⟨i0, hi, hz0, hz1, hz2⟩ := info_parts info5'
    obtain ⟨h0, h1⟩ := half_bd x0 x1
    have IH := Lib.hid (fun w => rbits_ok s (X / 2) w (by omega) h0 h1)
    have hpw := pow_bd s1
    have x2 : X ≤ 2147483648 := by omega
    have e1 : Int.tdiv X 2 = X / 2 := Int.tdiv_eq_ediv_of_nonneg x0
    have e2 : Int.tmod X 2 = X % 2 := Int.tmod_eq_emod_of_nonneg x0
    have e3 : ((s + 1 : Nat) : Int) - 1 = s := by omega
    have hne : (((s + 1 : Nat) : Int) == 0) = false := by simp; omega
    have hsn := Lib.hid (bi_snoc X s)
    obtain ⟨d, hd⟩ : ∃ d, X % 2 = d := ⟨_, rfl⟩
    have d0 : 0 ≤ d ∧ d ≤ 1 := by omega
    rw [hd] at e2 hsn
    obtain ⟨d1, d2⟩ := d0
    clear hd h0 h1 x1
    rw [show ((s + 1 : Nat) : Int) = (s : Int) + 1 by omega] at *
    have e4 : (s : Int) + 1 - 1 = s := by omega
    go_enter Try.func18, Try.ntmps18
    go_wp2_with (first
      | (go_at_call 18; ((with_reducible refine (IH.out _).mono ?_); rintro e w1 ⟨v1, rfl, ho1, hb1⟩; have hs1 := hb1.size))
      | (at_builtin; refine wpList_append_own _ rfl _ _ 22 rfl w.heap.size 5 i0 (.int .u8 0) 1 1 Try.underlying22 hi hz0 hz1 hz2 rfl (by decide) _ _ _ rfl (ho1.alloc _) ⟨w1.heap.size, 0, none⟩ 1 1 [.int .u8 d] rfl rfl ?c1 ?c2 ?c3 ?c4 ?c5 ?_))
    case c1 =>
      intro j u hj
      match j, hj with
      | 0, hj => simp at hj; subst hj; simp [Addr.add]
    case c2 => intro u hu; simp at hu; subst hu; rfl
    case c3 => rw [bi_len]; unfold maxLen; omega
    case c4 => rw [bi_len]; omega
    case c5 => simp; omega
    intro v2 w2 ho2 hg2 _
    have ho3 : Cr.Own w.heap.size w2 v2 (bi (X / 2) s ++ [d]) := by unfold Cr.Own; rw [List.length_append, List.map_append]; exact ho2
    have hb2 : Below w.heap.size w w2 := (hb1.alloc hs1 _).grown hg2 (by simp; omega) (fun k hk => (ho1.lt k hk).1)
    rw [← hsn.out] at ho3
    go_wp2
    go_ret
    exact ⟨_, rfl, ho3, hb2⟩

end Go.Proofs.Ythngicplclecpaa.Bi
