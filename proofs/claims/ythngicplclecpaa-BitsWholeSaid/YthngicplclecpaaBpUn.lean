/- What collect makes of all bytes' bits, and Unpack. -/
import Derived.Test.YthngicplclecpaaBpIt
namespace Go.Proofs.Ythngicplclecpaa.Bi
open Go Go.ChangeShapes Go.WideShapes Go.ChangeAt Go.RowKit Go.Shelf Go.Proofs.Ythngicplclecpaa.Oo

attribute [local go_sem] Oper.semAt_some

def upto (zs : List Int) (k : Nat) : List Int := (List.range k).map (adg zs)
theorem upto_len (zs : List Int) (k : Nat) : (upto zs k).length = k := by simp [upto]
theorem upto_succ (zs : List Int) (k : Nat) : upto zs (k + 1) = upto zs k ++ [adg zs k] := by simp [upto, List.range_succ]
/-- All bytes' bits. -/
def un (zs : List Int) : List Int := upto zs (8 * zs.length)
theorem un_len (zs : List Int) : (un zs).length = 8 * zs.length := upto_len _ _

set_option maxRecDepth 100000 in
set_option maxHeartbeats 2000000 in
theorem colall_in (n : Nat) (hn : 9 ≤ n) (b₀ : Nat) (v0 : Value) (Bb : Nat) (a0 : Option Addr) (c0 : Nat) (zs : List Int) (hz : ∀ z ∈ zs, 0 ≤ z ∧ z ≤ 255) (hl : zs.length ≤ 100000) (w : World) (hb : b₀ ≤ w.heap.size)
    (hown : w.ownsRow b₀ 5 1 v0 0 ([] : List Value)) (hB : Boxed w Bb 22 (.slice a0 zs.length c0)) (hv : At b₀ w a0 zs) :
    CallsIn Fence.wide n Try.prog 11 #[v0, .func (.func 16) #[] #[.pointer (some ⟨Bb, 0, none⟩)]] w fun e W' => ∃ v, e = .returned v ∧ W'.ownsRow b₀ 5 1 v (un zs).length ((un zs).map (Value.int .u8)) ∧ Below b₀ w W' := by
  have h1 : 1 ≤ n := by omega
  obtain ⟨i0, hi, hz0, hz1, hz2⟩ := info_parts info5'
  refine callsIn_of_wp_marks Try.func11 rfl trivial ?_ rfl
  simp only [Try.ntmps11, List.size_toArray, List.length_cons, List.length_nil, Nat.reduceAdd, Nat.reduceSub, Array.replicate_succ, Array.replicate_zero, List.push_toArray, List.append_toArray, List.nil_append, List.cons_append]
  obtain ⟨ao, lo, co, rfl⟩ : ∃ a l c, v0 = .slice a l c := by
    rcases hown.2 with ⟨rfl, _⟩ | ⟨g, cap, cur, rfl, _⟩
    · exact ⟨_, _, _, rfl⟩
    · exact ⟨_, _, _, rfl⟩
  gi_wp2
  have bO := Boxed.new w 22 (.slice ao lo co)
  have hBA : Below b₀ w (w.alloc (.cells #[.slice ao lo co] 22)) := (Below.refl _ w).alloc hb _
  have hBx := hB.lt
  have hv1 : At b₀ (w.alloc (.cells #[.slice ao lo co] 22)) a0 zs := hv.below ((Below.refl _ w).alloc (Nat.le_refl _) _)
  refine range_own rfl h1 (gf := 16) (lb := #[.pointer (some ⟨Bb, 0, none⟩)]) rfl trivial (enters_of Try.func16 (by kernel_rfl) rfl) (fun x : Int => #[Value.int .u8 x]) (adg zs) (8 * zs.length) (Leave b₀ Bb) (fun _ => rfl)
    (all_gives (n - 1) (by omega) b₀ Bb a0 c0 zs hz (by omega) _ (by simp; omega) (hB.alloc _) hv1)
    (fun k W => ((∃ v, Boxed W w.heap.size 22 v ∧ W.ownsRow b₀ 5 1 v k ((upto zs k).map (Value.int .u8)) ∧ True) ∧ Boxed W Bb 22 (.slice a0 zs.length c0)) ∧ Below b₀ w W)
    (OwnFrom.and (OwnFrom.and (Own.from (holdsRow_own b₀ w.heap.size 22 5 1 (fun k => k) (fun k => (upto zs k).map (Value.int .u8)) (fun _ _ => True)) _) (Own.from (boxed_own Bb 22 (fun _ => .slice a0 zs.length c0)) _)) (ownFrom_below hb (by simp; omega)))
    ⟨⟨⟨_, bO, by simpa [upto] using hown.alloc _, trivial⟩, hB.alloc _⟩, hBA⟩
    (fun x => { tmps := #[.slice ao lo co, .func (.func 16) #[] #[.pointer (some ⟨Bb, 0, none⟩)], .pointer (some ⟨w.heap.size, 0, none⟩), undef, .slice none 0 0, .int .u8 x, .func (.func 16) #[] #[.pointer (some ⟨Bb, 0, none⟩)], .int .u8 x, undef, undef, undef, undef, undef], defers := [] }) ?assign ?body ?done
  case assign =>
    intro l x W K hK
    gi_wp2
    exact hK
  case body =>
    rintro l k W ⟨⟨⟨v, hv, hrow, _⟩, hxb⟩, hB3⟩ hlt _
    have hc := hv.cell
    have hpl : k ≤ 1000100 := by omega
    have hupt := Lib.hid (upto_succ zs k)
    obtain ⟨d, hd⟩ : ∃ d, adg zs k = d := ⟨_, rfl⟩
    rw [hd] at hupt ⊢
    have hty : ∀ j t u, t ≠ 22 → Boxed W j t u → j ≠ w.heap.size := fun j t u ht hj e => by
      subst e
      have e2 : some (Obj.cells #[u] t) = some (Obj.cells #[v] 22) := hj.symm.trans hv
      cases e2
      exact ht rfl
    have HTY := Lib.hid hty
    clear hty hd
    gi_wp2_with (gi_at_builtin; refine wpListIn_append_own _ rfl _ _ 22 rfl b₀ 5 i0 (.int .u8 0) 1 1 Try.underlying22 hi hz0 hz1 hz2 rfl (by decide) _ _ _ rfl (hrow.alloc _) ⟨W.heap.size, 0, none⟩ 1 1 [.int .u8 d] rfl rfl (cell_one_new _ _ _) (by simp [Value.oneCell']) (by unfold maxLen; omega) (by omega) (by have := hB3.size; simp; omega) ?_; intro v' w1 hown' hgrow _; obtain ⟨g', cap', rfl⟩ := ownsRow_succ hown'; obtain ⟨hv1, hv2, hr2, hk2, hb2⟩ := hv.appended (by decide) hrow (Nat.le_trans hb hB3.size) hb hown' hgrow; have hc1 := hv1.cell; have hf1 := hv1.frozen; have hx1 := ((hxb.alloc _).kept hgrow (hxb.not_row (by decide) hrow)).other (show Bb ≠ w.heap.size by omega) (.slice (some ⟨g', 0, none⟩) (k + 1) cap'); have hxx := Lib.hid (fun j t u (ht : t ≠ 22) (ht5 : t ≠ 5) (hj : Boxed W j t u) => ((hj.alloc _).kept hgrow (hj.not_row ht5 hrow)).other (HTY.out j t u ht hj) (.slice (some ⟨g', 0, none⟩) (k + 1) cap')))
    refine ⟨⟨⟨⟨_, hv2, ?_, trivial⟩, hx1⟩, hB3.trans hb2⟩, hk2.size, ?_⟩
    · rw [hupt.out]; simpa using hr2
    · rintro j o hj ((h | rfl | h | ⟨u, t, t1, t2, rfl⟩) | ⟨_, h⟩)
      · exact (hb2.block j h).trans hj
      · have e2 : some o = some (Obj.cells #[.slice a0 zs.length c0] 22) := hj.symm.trans hxb
        cases e2
        exact hx1
      · exact hk2.same j o hj h
      · exact hxx.out j t u t1 t2 hj
      · exact hk2.same j o hj h
  case done =>
    rintro W ⟨⟨⟨v, hv, hrow, _⟩, _⟩, hB3⟩ hsl hK
    have hc := hv.cell
    gi_wp2
    refine ⟨by simp, .inl ⟨_, _, rfl, run_takeDeferred hK, ?_⟩⟩
    exact ⟨_, results_tmp rfl _ _ _, v, rfl, by have h := ownsRow_putObj hrow (.deferred none) hK rfl; rw [un_len]; exact h, hB3.trans (belowK_b (w := w) hb W _ _ _ (by simp) hK rfl rfl)⟩
theorem colall_ok (b₀ : Nat) (v0 : Value) (Bb : Nat) (a0 : Option Addr) (c0 : Nat) (zs : List Int) (hz : ∀ z ∈ zs, 0 ≤ z ∧ z ≤ 255) (hl : zs.length ≤ 100000) (w : World) (hb : b₀ ≤ w.heap.size)
    (hown : Cr.Own b₀ w v0 []) (hB : Boxed w Bb 22 (.slice a0 zs.length c0)) (hv : At b₀ w a0 zs) :
    Calls Try.prog 11 #[v0, .func (.func 16) #[] #[.pointer (some ⟨Bb, 0, none⟩)]] w fun e W' => ∃ v, e = .returned v ∧ Cr.Own b₀ W' v (un zs) ∧ Below b₀ w W' :=
  callsIn_wide.1 (colall_in 9 (Nat.le_refl _) b₀ v0 Bb a0 c0 zs hz hl w hb hown hB hv)

theorem allDigits_ok (a0 : Option Addr) (l0 c0 : Nat) (w : World) :
    Calls Try.prog 12 #[.slice a0 l0 c0] w fun e w' => e = .returned (.func (.func 16) #[] #[.pointer (some ⟨w.heap.size, 0, none⟩)]) ∧ Boxed w' w.heap.size 22 (.slice a0 l0 c0) ∧ Below w.heap.size w w' := by
  have b1 := Boxed.new w 22 (.slice a0 l0 c0)
  have hB0 : Below w.heap.size w (w.alloc (.cells #[.slice a0 l0 c0] 22)) := (Below.refl _ w).alloc (Nat.le_refl _) _
  go_enter Try.func12, Try.ntmps12
  go_wp2
  go_ret
  exact ⟨rfl, b1, hB0⟩
end Go.Proofs.Ythngicplclecpaa.Bi
