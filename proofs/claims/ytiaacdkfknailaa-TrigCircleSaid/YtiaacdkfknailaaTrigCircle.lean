/- The squares of cosine and sine are together 2^52, but for 2^28 at most, and cosines fall from part 0 to part 1,024. TrigCircle returns true, whatever the memory and the schedule. No condition. -/
import Derived.Test.YtiaacdkfknailaaTrigLaws
import Derived.WalkKit
import Derived.ProofKit
import Derived.OpenShut
import Derived.Lib.Hide
namespace Go.Proofs.Ytiaacdkfknailaa.trigCircle
open Go Go.ChangeShapes Go.WideShapes Go.ChangeAt Go.RowKit Go.Proofs.Ytiaacdkfknailaa.Fx

def good (n : Nat) : Bool :=
  let c := cosF n
  let s := sinF n
  decide (-67108864 ≤ c) && decide (c ≤ 67108864) && decide (-67108864 ≤ s) && decide (s ≤ 67108864) && decide (c * c + s * s - 4503599627370496 ≤ 268435456) && decide (-268435456 ≤ c * c + s * s - 4503599627370496) && (decide (1024 ≤ n) || decide (cosF (n + 1) < c))
def goods : Nat → Bool
  | 0 => true
  | n + 1 => good n && goods n
theorem goods_at : ∀ {m n : Nat}, goods m = true → n < m → good n = true
  | 0, n, _, h => absurd h (by omega)
  | m + 1, n, h, hn => by
    simp only [goods, Bool.and_eq_true] at h
    by_cases e : n = m
    · subst e; exact h.1
    · exact goods_at h.2 (by omega)
theorem all_good : goods 2048 = true := by kernel_rfl
theorem at_part (k : Nat) (h : k < 2048) : -67108864 ≤ cosF k ∧ cosF k ≤ 67108864 ∧ -67108864 ≤ sinF k ∧ sinF k ≤ 67108864 ∧ cosF k * cosF k + sinF k * sinF k - 4503599627370496 ≤ 268435456 ∧ -268435456 ≤ cosF k * cosF k + sinF k * sinF k - 4503599627370496 ∧ (1024 ≤ k ∨ cosF ((k : Int) + 1) < cosF k) := by
  have g := goods_at all_good h
  simp only [good, Bool.and_eq_true, Bool.or_eq_true, decide_eq_true_eq] at g
  obtain ⟨⟨⟨⟨⟨⟨a, b⟩, c⟩, d⟩, e⟩, f⟩, g⟩ := g
  exact ⟨a, b, c, d, e, f, g⟩
theorem sq_le {a M : Int} (h1 : -M ≤ a) (h2 : a ≤ M) : 0 ≤ a * a ∧ a * a ≤ M * M := by
  by_cases h : 0 ≤ a
  · exact mul_bd h h2 h h2
  · have := mul_bd (a := -a) (b := -a) (M := M) (N := M) (by omega) (by omega) (by omega) (by omega)
    rwa [Int.neg_mul_neg] at this

theorem tcosH {W : World} {n C : Int} (h : Hid (cosF n = C)) (w : World) (hb : Below W.heap.size W w) :
    Calls Try.prog 25 #[.int .i64 n] w fun e w' => e = .returned (.int .i64 C) ∧ Below W.heap.size W w' := by
  have := tcosB n w hb
  rwa [h.out] at this
theorem tsinH {W : World} {n C : Int} (h : Hid (sinF n = C)) (w : World) (hb : Below W.heap.size W w) :
    Calls Try.prog 26 #[.int .i64 n] w fun e w' => e = .returned (.int .i64 C) ∧ Below W.heap.size W w' := by
  have := tsinB n w hb
  rwa [h.out] at this
theorem part_h (k : Nat) (h : k < 2048) : ∃ C S D : Int, Hid (cosF k = C) ∧ Hid (sinF k = S) ∧ Hid (cosF ((k : Int) + 1) = D) ∧ -67108864 ≤ C ∧ C ≤ 67108864 ∧ -67108864 ≤ S ∧ S ≤ 67108864 ∧ C * C + S * S - 4503599627370496 ≤ 268435456 ∧ -268435456 ≤ C * C + S * S - 4503599627370496 ∧ (1024 ≤ k ∨ D < C) :=
  ⟨_, _, _, Lib.hid rfl, Lib.hid rfl, Lib.hid rfl, at_part k h⟩
theorem sq_lim {a : Int} (h1 : -67108864 ≤ a) (h2 : a ≤ 67108864) : 0 ≤ a * a ∧ a * a ≤ 4503599627370496 := sq_le (M := 67108864) h1 h2

set_option maxRecDepth 100000 in
theorem walk (w : World) :
    Calls Try.prog 13 #[] w fun e w' => e = .returned (.bool true) ∧ Below w.heap.size w w' := by
  go_enter Try.func13, Try.ntmps13
  go_wp2_with (first | (go_at_call 24; refine (talive _).mono ?_; rintro e w' ⟨rfl, hb⟩))
  go_loopw [2] (fun n wr => ∃ k : Nat, k ≤ 2048 ∧ n = .int .i64 k ∧ Below w.heap.size w wr) (fun n _ => (2048 - intOf n).toNat)
  case atStart => exact ⟨0, by omega, rfl, by assumption⟩
  case round =>
    obtain ⟨k, hk, rfl, hbr⟩ := hrel
    by_cases hlt : k < 2048
    · obtain ⟨C, S, D, HC, HS, HD, a, b, c, d, e, f, g⟩ := part_h k hlt
      obtain ⟨s1, s2⟩ := sq_lim a b
      obtain ⟨s3, s4⟩ := sq_lim c d
      by_cases hq : k < 1024
      · have g' : ¬ C ≤ D := by rcases g with g | g <;> omega
        clear g
        go_wp2_with (first | (go_at_call 25; ((with_reducible refine (tcosH (W := w) HC _ (by assumption)).mono ?_); rintro e w' ⟨rfl, hb⟩; (try (rename ((k : Int) < 2048) => hz; clear hz)))) | (go_at_call 26; ((with_reducible refine (tsinH (W := w) HS _ (by assumption)).mono ?_); rintro e w' ⟨rfl, hb⟩)) | (go_at_call 25; ((with_reducible refine (tcosH (W := w) HD _ (by assumption)).mono ?_); rintro e w' ⟨rfl, hb⟩)))
        go_roundw
        case rel => exact ⟨k + 1, by omega, by go_num, by assumption⟩
        case measure => simp [intOf]; omega
      · clear g
        go_wp2_with (first | (go_at_call 25; ((with_reducible refine (tcosH (W := w) HC _ (by assumption)).mono ?_); rintro e w' ⟨rfl, hb⟩; (try (rename ((k : Int) < 2048) => hz; clear hz)))) | (go_at_call 26; ((with_reducible refine (tsinH (W := w) HS _ (by assumption)).mono ?_); rintro e w' ⟨rfl, hb⟩)) | (go_at_call 25; ((with_reducible refine (tcosH (W := w) HD _ (by assumption)).mono ?_); rintro e w' ⟨rfl, hb⟩)))
        go_roundw
        case rel => exact ⟨k + 1, by omega, by go_num, by assumption⟩
        case measure => simp [intOf]; omega
    · go_wp2
      go_ret
      exact ⟨rfl, by assumption⟩

theorem own : ownKnob Try.prog.godebug = none := by kernel_rfl
set_option linter.unusedVariables false
set_option maxRecDepth 100000 in
theorem lifted (os : Os) (started : os.Started) (H : Type) (enc : TypeId × Value → H) :
    ReturnsInHanded {} Try.checked os 13 .any (Rows.trigCircleSpec.pre6 enc Try.prog Try.f13 Rows.trigCircleRow.domain false) (Rows.trigCircleSpec.post enc Try.prog Try.f13 false true false false) := by
  refine returnsInHanded_of_change (C := Try.checked) own started (by kernel_rfl) Try.func13
    (ChangeSpec.witness6 (enc := enc) (C := Try.checked) false ⟨#[], #[], []⟩ 8 (by kernel_rfl) (by kernel_rfl) (by kernel_rfl) (by kernel_rfl)) ?_
  intro W base args ds gs before hval0 hW hcnd _
  have hval : ∀ (j : Nat) t v, Try.f13.params[j]? = some t → args[j]? = some v → Value.okWide Try.prog W .any base t v := hval0
  have hW' := hW
  obtain ⟨p, q, hA0, hV, rfl, hfz, hnd⟩ := hW
  have hA : DataW.TrodAll enc Try.prog W 0 (fun _ => true) true Try.f13.params.toList args.toList ds p := hA0
  rw [Try.params13] at hA hval
  obtain ⟨rfl, rfl, rfl⟩ := trodAll_none hA
  obtain ⟨rfl, rfl⟩ := trodVars_none hV
  clear hA0 hval0
  simp only [List.append_nil] at hW'
  refine (walk  W ).mono fun e W' ⟨he, bel⟩ => ?_
  subst he
  exact ⟨_, rfl, _, _, _, [], _, [], hW', trodAll_mk1 (shut_bool Try.underlying4 _), trodAll_mk0, rfl, bel.frame _, fun h => by cases h⟩

theorem over : Rows.trigCircleRow.holds Try.pinned (OpenSpec.ofChange Rows.trigCircleSpec) :=
  OpenClaim.holds_of_wide 13 Try.f13 rfl rfl rfl rfl rfl rfl rfl ⟨rfl, rfl, rfl, rfl, rfl⟩ rfl rfl rfl rfl rfl (by kernel_rfl) Try.func13 (by kernel_rfl)
    (of_decide_eq_true (by kernel_rfl)) (by unfold Func.isWrapper; first | (rw [if_pos (by decide +kernel)]; kernel_rfl) | (rw [if_neg (by decide +kernel)]; exact ⟨rfl, rfl⟩))
    (fun os started H enc _ => lifted os started H enc)

theorem proved : Rows.TrigCircleSaid := over
end Go.Proofs.Ytiaacdkfknailaa.trigCircle
