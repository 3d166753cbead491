/- What bits' Put does. -/
import Derived.Test.YtchefgnefcabnaaBiCon
import Derived.WalkKit
import Derived.OwnWalk
import Derived.Laws.AppendOwn
import Derived.Laws.AppendOwnNone
import Derived.ProofKit
import Derived.OpenShut
import Derived.Lib.Hide
namespace Go.Proofs.Ytchefgnefcabnaa.Bi
open Go Go.ChangeShapes Go.WideShapes Go.ChangeAt Go.RowKit Go.Proofs.Ytchefgnefcabnaa.Cr

theorem pow_bd {s : Nat} (hs : s ≤ 31) : (1 : Int) ≤ 2 ^ s ∧ (2 : Int) ^ s ≤ 2147483648 := by
  have h : (2 : Int) ^ s ≤ 2 ^ 31 := by
    have := Nat.pow_le_pow_right (show 0 < 2 by omega) hs
    have h2 : ((2 ^ s : Nat) : Int) ≤ ((2 ^ 31 : Nat) : Int) := by omega
    simpa using h2
  have h1 : (0 : Int) < 2 ^ s := Int.pow_pos (by decide)
  have h3 : (2 : Int) ^ 31 = 2147483648 := by decide
  omega

theorem put_bad (v0 : Value) (X S : Int) (w : World) (h : S < 0 ∨ 31 < S ∨ X < 0 ∨ 2 ^ S.toNat ≤ X) :
    Calls Try.prog 24 #[v0, .int .i64 X, .int .i64 S] w fun e w' => e = .returned (.tuple #[.slice none 0 0, .int .i64 2]) ∧ w = w' := by
  by_cases h1 : S < 0
  · go_enter Try.func24, Try.ntmps24
    go_wp2
    go_ret2
    exact ⟨rfl, rfl⟩
  by_cases h2 : 31 < S
  · go_enter Try.func24, Try.ntmps24
    go_wp2
    go_ret2
    exact ⟨rfl, rfl⟩
  by_cases h3 : X < 0
  · go_enter Try.func24, Try.ntmps24
    go_wp2
    go_ret2
    exact ⟨rfl, rfl⟩
  obtain ⟨s, rfl⟩ : ∃ s : Nat, S = s := ⟨S.toNat, by omega⟩
  have h4 : 2 ^ s ≤ X := by
    have : 2 ^ ((s : Int)).toNat ≤ X := by omega
    simpa using this
  obtain ⟨p0, p1⟩ := pow_bd (s := s) (by omega)
  clear h
  go_enter Try.func24, Try.ntmps24
  go_wp2
  go_ret2
  exact ⟨rfl, rfl⟩

/-- The cells of what came in. -/
def Cl (w : World) (x : Addr) (zs : List Int) : Prop := ∀ j u, (zs.map (Value.int .u8))[j]? = some u → w.cell? (x.add j) = some u
theorem lt_of_cell {w : World} {p : Addr} {v : Value} (h : w.cell? p = some v) : p.block < w.heap.size := by
  refine Nat.not_le.1 fun hle => ?_
  have : w.heap[p.block]? = none := by simp; omega
  simp [World.cell?, this] at h
theorem Cl.below {w w' : World} {x : Addr} {zs : List Int} (h : Cl w x zs) (hb : Below w.heap.size w w') : Cl w' x zs := fun j u hu => (hb.cell (lt_of_cell (h j u hu))).trans (h j u hu)
theorem one8' (zs : List Int) : ∀ u ∈ zs.map (Value.int .u8), u.oneCell' = true := by
  intro u hu
  simp only [List.mem_map] at hu
  obtain ⟨x, _, rfl⟩ := hu
  rfl
theorem put_test {X : Int} {s : Nat} (h : X < 2 ^ s) : ¬ (2 : Int) ^ s ≤ X := by omega

set_option maxRecDepth 100000 in
set_option maxHeartbeats 1000000 in
theorem put_none (X : Int) (s : Nat) (w : World) (s1 : s ≤ 31) (x0 : 0 ≤ X) (x1 : X < 2 ^ s) :
    Calls Try.prog 24 #[.slice none 0 0, .int .i64 X, .int .i64 s] w fun e w' => ∃ v, e = .returned (.tuple #[v, .int .i64 0]) ∧ Cr.Own w.heap.size w' v ([] ++ bi X s) ∧ Below w.heap.size w w' := by
  obtain ⟨i0, hi, hz0, hz1, hz2⟩ := info_parts info5'
  obtain ⟨p0, p1⟩ := pow_bd s1
  have x2 : X ≤ 9223372036854775807 := by omega
  go_enter Try.func24, Try.ntmps24
  go_wp2_with (first
    | (refine wpList_make_own _ rfl _ _ 25 rfl w.heap.size 5 i0 (.int .u8 0) 1 Try.underlying25 hi hz0 hz1 .i64 .i64 _ s rfl rfl (by first | rfl | (simp; done) | omega) (by rw [hz2]; omega) (by unfold maxLen; omega) (Nat.le_refl _) ?_; intro w1 ho1 hg1; have hb1 : Below w.heap.size w w1 := (Below.refl _ _).grown hg1 (Nat.le_refl _) (fun k hk => by cases hk); have hs1 := hb1.size)
    | (at_builtin; refine wpList_append_own_none rfl _ (.tmp 31) 25 rfl w.heap.size 5 i0 1 Try.underlying25 hi _ _ _ rfl ho1 rfl ?_; have ho2 : Cr.Own w.heap.size w1 (.slice (some ⟨w.heap.size, 0, none⟩) 0 s) [] := ho1; have hb2 := hb1; have hs2 := hs1)
    | (go_at_call 43; ((with_reducible refine (dig_ok X s _).mono ?_); rintro e w3 ⟨rfl, hBs, hBx, hb3⟩; have ho3 := Cr.Own.below ho2 hb3; have hb4 := belowT hb2 hb3; have hs3 := hb4.size))
    | (go_at_call 42; ((with_reducible refine (col_ok w.heap.size _ [] _ _ X s x0 x2 (by omega) (by first | (simp; done) | omega) _ hs3 ho3 hBs hBx).mono ?_); rintro e w5 ⟨v5, rfl, ho5, hb5⟩)))
  go_ret2
  exact ⟨_, rfl, ho5, hb4.trans hb5⟩

set_option maxRecDepth 100000 in
set_option maxHeartbeats 1000000 in
theorem put_some (x : Addr) (c0 : Nat) (zs : List Int) (X : Int) (s : Nat) (w : World) (s1 : s ≤ 31) (x0 : 0 ≤ X) (x1 : X < 2 ^ s) (hl : zs.length ≤ 100000) (kb : Cl w x zs) :
    Calls Try.prog 24 #[.slice (some x) zs.length c0, .int .i64 X, .int .i64 s] w fun e w' => ∃ v, e = .returned (.tuple #[v, .int .i64 0]) ∧ Cr.Own w.heap.size w' v (zs ++ bi X s) ∧ Below w.heap.size w w' := by
  obtain ⟨i0, hi, hz0, hz1, hz2⟩ := info_parts info5'
  obtain ⟨p0, p1⟩ := pow_bd s1
  have x2 : X ≤ 9223372036854775807 := by omega
  have KB := Lib.hid kb
  clear kb
  go_enter Try.func24, Try.ntmps24
  go_wp2_with (first
    | (refine wpList_make_own _ rfl _ _ 25 rfl w.heap.size 5 i0 (.int .u8 0) 1 Try.underlying25 hi hz0 hz1 .i64 .i64 _ (zs.length + s) rfl rfl (by first | rfl | (simp; done) | omega) (by rw [hz2]; omega) (by unfold maxLen; omega) (Nat.le_refl _) ?_; intro w1 ho1 hg1; have hb1 : Below w.heap.size w w1 := (Below.refl _ _).grown hg1 (Nat.le_refl _) (fun k hk => by cases hk); have hs1 := hb1.size)
    | (at_builtin; refine wpList_append_own _ rfl _ (.tmp 31) 25 rfl w.heap.size 5 i0 (.int .u8 0) 1 1 Try.underlying25 hi hz0 hz1 hz2 rfl (by decide) _ _ _ rfl ho1 x zs.length c0 (zs.map (Value.int .u8)) rfl (by simp) (KB.out.below hb1) (one8' _) (by unfold maxLen; omega) (by omega) hs1 ?_; intro v2 w2 ho2' hg2 _; have ho2 : Cr.Own w.heap.size w2 v2 zs := (by unfold Cr.Own; simpa using ho2'); have hb2 : Below w.heap.size w w2 := hb1.grown hg2 hs1 (fun k hk => (ho1.lt k hk).1); have hs2 := hb2.size; clear ho2' hg2)
    | (go_at_call 43; ((with_reducible refine (dig_ok X s _).mono ?_); rintro e w3 ⟨rfl, hBs, hBx, hb3⟩; have ho3 := Cr.Own.below ho2 hb3; have hb4 := belowT hb2 hb3; have hs3 := hb4.size))
    | (go_at_call 42; ((with_reducible refine (col_ok w.heap.size _ zs _ _ X s x0 x2 (by omega) (by first | (simp; done) | omega) _ hs3 ho3 hBs hBx).mono ?_); rintro e w5 ⟨v5, rfl, ho5, hb5⟩)))
  go_ret2
  exact ⟨_, rfl, ho5, hb4.trans hb5⟩

end Go.Proofs.Ytchefgnefcabnaa.Bi
