/- The same seed makes lines of the same signs at all steps; the first lines of a longer band have the signs of a shorter one's; and unlike bands, windows and gains have unlike seeds. NoiseSame returns true, whatever the seed, the steps and the bands, the memory and the schedule; the variable that the row lists is tied to the program's text. No condition. -/
import Derived.Test.YtanjcbnkkhbkkaaDoorNoEq
import Derived.Test.YtanjcbnkkhbkkaaDoorEvOpen
import Derived.Test.YtanjcbnkkhbkkaaDoorCards
import Derived.Test.YtanjcbnkkhbkkaaDoorTie
import Derived.WalkKit
import Derived.Below
import Derived.RegionTactic
import Derived.Deep.QuietTactic
import Derived.BigQuiet
import Derived.ChangeAlike
import Derived.Deep.OwnRows
import Derived.ProofKit
import Derived.OpenShut
import Derived.ShutString
import Derived.ChangeOld
import Derived.Deep.DeepHandedRow
import Derived.Lib.LaidTab
import Derived.Lib.Hide
namespace Go.Proofs.YtanjcbnkkhbkkaaDoor.noiseSame
open Go Go.Ev Go.ChangeShapes Go.WideShapes Go.ChangeAt Go.RowKit Go.Proofs.YtanjcbnkkhbkkaaDoor.Fx Go.Proofs.YtanjcbnkkhbkkaaDoor.Nm Go.Proofs.YtanjcbnkkhbkkaaDoor.No

theorem wfu {s : Int} (h : (Lit.int .u32 s).wf = true) : ∃ n : Nat, s = (n : Int) ∧ n < 4294967296 := by
  simp [Lit.wf] at h
  have e : IntKind.u32.min = 0 := rfl
  have e2 : IntKind.u32.max = 4294967295 := rfl
  exact ⟨s.toNat, by omega, by omega⟩
/-- The lines, in bounds. -/
theorem F_bd {s m : Nat} {st : Int} (h : 0 ≤ st) {j : Nat} (hj : j < m) : -268435455 ≤ nl (nd s m) (na st) (nv s j) ∧ nl (nd s m) (na st) (nv s j) ≤ 268435455 := by
  obtain ⟨a, b⟩ := na_bd h
  have := nl_bd (nd_is s m) (nS_at s m hj) a
  omega

/-- A band's lines, some function's. -/
def Bnd (s m : Nat) (st : Int) (F : Nat → Int) : Prop := Hid (∀ w, Qs w → Calls Tryd.prog 25 #[.int .u32 s, .int .i64 st, .int .i64 m] w fun e w' => ∃ g, e = .returned (.tuple #[.slice (some ⟨g, 0, none⟩) m m, .int .i64 0]) ∧ w.heap.size ≤ g ∧ w'.rowIs g 3 m (fun j => .int .i64 (F j)) ∧ Below w.heap.size w w')
theorem bnd (s m : Nat) (st : Int) (hs : s < 4294967296) (hm : m ≤ 256) (st0 : 0 ≤ st) (st1 : st ≤ 511) : Bnd s m st (fun j => nl (nd s m) (na st) (nv s j)) := Lib.hid fun w hq => band_ok s m st w hs hm st0 st1 hq
theorem sgn (s m : Nat) {st : Int} (h : 0 ≤ st) (j : Nat) : (0 ≤ nv s j → 0 ≤ nl (nd s m) (na st) (nv s j)) ∧ (nv s j ≤ 0 → nl (nd s m) (na st) (nv s j) ≤ 0) := nl_sign (nd_is s m).1 (na_bd h).1
/-- The two boxes. -/
def Bx (w wb : World) (x0 x1 x2 y0 y1 y2 : Int) : Prop := wb.cell? ⟨w.heap.size, 0, none⟩ = some (.int .i64 x0) ∧ wb.cell? ⟨w.heap.size, 1, none⟩ = some (.int .i64 x1) ∧ wb.cell? ⟨w.heap.size, 2, none⟩ = some (.int .i64 x2) ∧
  wb.cell? ⟨w.heap.size + 1, 0, none⟩ = some (.int .i64 y0) ∧ wb.cell? ⟨w.heap.size + 1, 1, none⟩ = some (.int .i64 y1) ∧ wb.cell? ⟨w.heap.size + 1, 2, none⟩ = some (.int .i64 y2)
theorem bx (w : World) (x0 x1 x2 y0 y1 y2 : Int) : Bx w ((w.alloc (.cells #[.int .i64 x0, .int .i64 x1, .int .i64 x2] 47)).alloc (.cells #[.int .i64 y0, .int .i64 y1, .int .i64 y2] 47)) x0 x1 x2 y0 y1 y2 := by
  unfold Bx
  refine ⟨?_, ?_, ?_, ?_, ?_, ?_⟩
  · rw [World.cell?_alloc_lt _ _ _ (by simp)]; simp
  · rw [World.cell?_alloc_lt _ _ _ (by simp)]; simp
  · rw [World.cell?_alloc_lt _ _ _ (by simp)]; simp
  all_goals
    rw [show w.heap.size + 1 = (w.alloc (.cells #[.int .i64 x0, .int .i64 x1, .int .i64 x2] 47)).heap.size by simp, World.cell?_alloc_new]
    rfl
theorem Bx.below {w wb w' : World} {x0 x1 x2 y0 y1 y2 : Int} (h : Bx w wb x0 x1 x2 y0 y1 y2) (hb : Below wb.heap.size wb w') : Bx w w' x0 x1 x2 y0 y1 y2 := by
  obtain ⟨a, b, c, d, e, f⟩ := h
  exact ⟨(hb.cell (p := ⟨w.heap.size, 0, none⟩) (cell_lt a)).trans a, (hb.cell (p := ⟨w.heap.size, 1, none⟩) (cell_lt b)).trans b, (hb.cell (p := ⟨w.heap.size, 2, none⟩) (cell_lt c)).trans c,
    (hb.cell (p := ⟨w.heap.size + 1, 0, none⟩) (cell_lt d)).trans d, (hb.cell (p := ⟨w.heap.size + 1, 1, none⟩) (cell_lt e)).trans e, (hb.cell (p := ⟨w.heap.size + 1, 2, none⟩) (cell_lt f)).trans f⟩
theorem sd_u (g x b : Int) : 0 ≤ SD g x b ∧ SD g x b < 4294967296 := by
  unfold SD
  split
  · exact sd_bd g x b
  · omega
/-- What the two seeds come to. -/
def Ends (x0 x1 x2 y0 y1 y2 : Int) : Prop := ES x0 x1 x2 ≠ 0 ∨ (ES x0 x1 x2 = 0 ∧ ES y0 y1 y2 ≠ 0) ∨ (ES x0 x1 x2 = 0 ∧ ES y0 y1 y2 = 0 ∧ (SD x0 x1 x2 == SD y0 y1 y2) = (x0 == y0 && (x1 == y1 && x2 == y2)))
theorem ends (x0 x1 x2 y0 y1 y2 : Int) : Ends x0 x1 x2 y0 y1 y2 := by
  unfold Ends
  by_cases h : okS x0 x1 x2
  · by_cases k : okS y0 y1 y2
    · refine .inr (.inr ⟨(S_good h).2, (S_good k).2, ?_⟩)
      rw [(S_good h).1, (S_good k).1]
      by_cases e : x0 = y0 ∧ x1 = y1 ∧ x2 = y2
      · obtain ⟨rfl, rfl, rfl⟩ := e; simp
      · have n : sd x0 x1 x2 ≠ sd y0 y1 y2 := fun q => e (sd_inj h k q)
        rw [beq_eq_false_iff_ne.2 n]
        symm
        simp only [Bool.and_eq_false_iff, beq_eq_false_iff_ne]
        by_cases e0 : x0 = y0
        · by_cases e1 : x1 = y1
          · exact .inr (.inr fun e2 => e ⟨e0, e1, e2⟩)
          · exact .inr (.inl e1)
        · exact .inl e0
    · exact .inr (.inl ⟨(S_good h).2, by rw [(S_bad k).2]; decide⟩)
  · exact .inl (by rw [(S_bad h).2]; decide)
theorem xbad (s : Int) (one two few many : Int) (x0 x1 x2 y0 y1 y2 : Int) (w : World) (hq : Qs w) (h : one < 0 ∨ 511 < one ∨ few < 0 ∨ 256 < few) (HY : Hid (∀ w, Qs w → Calls Tryd.prog 25 #[.int .u32 s, .int .i64 two, .int .i64 many] w fun e w' => ∃ v E, e = .returned (.tuple #[v, .int .i64 E]) ∧ Below w.heap.size w w')) : Calls Tryd.prog 9 #[.int .u32 s, .int .i64 one, .int .i64 two, .int .i64 few, .int .i64 many, .agg #[.int .i64 x0, .int .i64 x1, .int .i64 x2], .agg #[.int .i64 y0, .int .i64 y1, .int .i64 y2]] w fun e w' => e = .returned (.bool true) ∧ Below w.heap.size w w' := by
  have H0 := Lib.hid (fun w (hq : Qs w) => nalive_ok w hq)
  have HB := Lib.hid (two_alloc w (.cells #[.int .i64 x0, .int .i64 x1, .int .i64 x2] 47) (.cells #[.int .i64 y0, .int .i64 y1, .int .i64 y2] 47))
  have HX := Lib.hid (bx w x0 x1 x2 y0 y1 y2)
  have HQ := Lib.hid (hq.below HB.out)
  have HS1 := Lib.hid (fun w => Seed_ok x0 x1 x2 w)
  have HS2 := Lib.hid (fun w => Seed_ok y0 y1 y2 w)
  clear hq
  have H3 := Lib.hid (fun w => eband_bad one few h s w)
  have hE : (if one < 0 ∨ 511 < one then (2 : Int) else 4) ≠ 0 := by split <;> omega
  generalize (if one < 0 ∨ 511 < one then (2 : Int) else 4) = U at *
  clear h
  have hends := ends x0 x1 x2 y0 y1 y2
  have u1 := sd_u x0 x1 x2
  have u2 := sd_u y0 y1 y2
  unfold Ends at hends
  generalize SD x0 x1 x2 = S1 at *
  generalize SD y0 y1 y2 = S2 at *
  generalize ES x0 x1 x2 = T1 at *
  generalize ES y0 y1 y2 = T2 at *
  rcases hends with t1 | ⟨rfl, t2⟩ | ⟨rfl, rfl, t3⟩
  · go_enter Tryd.func9, Tryd.ntmps9
    go_wp2_with (first | (go_at_call 28; ((with_reducible refine (H0.out _ HQ.out).mono ?_); rintro e w1 ⟨rfl, hb1⟩; have B1 := Lib.hid hb1; have Q1 := Lib.hid (HQ.out.below hb1); clear hb1)) | (go_at_call 25; ((with_reducible refine (H3.out _).mono ?_); rintro e w' ⟨rfl, rfl⟩)) | (go_at_call 25; ((with_reducible refine (HY.out _ Q1.out).mono ?_); rintro e w3 ⟨v, E, rfl, hb3⟩; have B3 := Lib.hid (belowT B1.out hb3); obtain ⟨z0, z1, z2, z3, z4, z5⟩ := HX.out.below B3.out)) | (go_at_call 23; ((with_reducible refine (HS1.out _).mono ?_); rintro e w' ⟨rfl, rfl⟩)) | (go_at_call 23; ((with_reducible refine (HS2.out _).mono ?_); rintro e w' ⟨rfl, rfl⟩)))
    go_ret
    exact ⟨rfl, belowT HB.out B3.out⟩
  · go_enter Tryd.func9, Tryd.ntmps9
    go_wp2_with (first | (go_at_call 28; ((with_reducible refine (H0.out _ HQ.out).mono ?_); rintro e w1 ⟨rfl, hb1⟩; have B1 := Lib.hid hb1; have Q1 := Lib.hid (HQ.out.below hb1); clear hb1)) | (go_at_call 25; ((with_reducible refine (H3.out _).mono ?_); rintro e w' ⟨rfl, rfl⟩)) | (go_at_call 25; ((with_reducible refine (HY.out _ Q1.out).mono ?_); rintro e w3 ⟨v, E, rfl, hb3⟩; have B3 := Lib.hid (belowT B1.out hb3); obtain ⟨z0, z1, z2, z3, z4, z5⟩ := HX.out.below B3.out)) | (go_at_call 23; ((with_reducible refine (HS1.out _).mono ?_); rintro e w' ⟨rfl, rfl⟩)) | (go_at_call 23; ((with_reducible refine (HS2.out _).mono ?_); rintro e w' ⟨rfl, rfl⟩)))
    go_ret
    exact ⟨rfl, belowT HB.out B3.out⟩
  · go_enter Tryd.func9, Tryd.ntmps9
    go_wp2_with (first | (go_at_call 28; ((with_reducible refine (H0.out _ HQ.out).mono ?_); rintro e w1 ⟨rfl, hb1⟩; have B1 := Lib.hid hb1; have Q1 := Lib.hid (HQ.out.below hb1); clear hb1)) | (go_at_call 25; ((with_reducible refine (H3.out _).mono ?_); rintro e w' ⟨rfl, rfl⟩)) | (go_at_call 25; ((with_reducible refine (HY.out _ Q1.out).mono ?_); rintro e w3 ⟨v, E, rfl, hb3⟩; have B3 := Lib.hid (belowT B1.out hb3); obtain ⟨z0, z1, z2, z3, z4, z5⟩ := HX.out.below B3.out)) | (go_at_call 23; ((with_reducible refine (HS1.out _).mono ?_); rintro e w' ⟨rfl, rfl⟩)) | (go_at_call 23; ((with_reducible refine (HS2.out _).mono ?_); rintro e w' ⟨rfl, rfl⟩)))
    go_ret
    exact ⟨rfl, belowT HB.out B3.out⟩
theorem ybad (s : Nat) (one two many : Int) (x0 x1 x2 y0 y1 y2 : Int) (w : World) (few : Nat) (hs : s < 4294967296) (hf : few ≤ 256) (o0 : 0 ≤ one) (o1 : one ≤ 511) (hq : Qs w) (h : two < 0 ∨ 511 < two ∨ many < 0 ∨ 256 < many) : Calls Tryd.prog 9 #[.int .u32 s, .int .i64 one, .int .i64 two, .int .i64 few, .int .i64 many, .agg #[.int .i64 x0, .int .i64 x1, .int .i64 x2], .agg #[.int .i64 y0, .int .i64 y1, .int .i64 y2]] w fun e w' => e = .returned (.bool true) ∧ Below w.heap.size w w' := by
  have H0 := Lib.hid (fun w (hq : Qs w) => nalive_ok w hq)
  have HB := Lib.hid (two_alloc w (.cells #[.int .i64 x0, .int .i64 x1, .int .i64 x2] 47) (.cells #[.int .i64 y0, .int .i64 y1, .int .i64 y2] 47))
  have HX := Lib.hid (bx w x0 x1 x2 y0 y1 y2)
  have HQ := Lib.hid (hq.below HB.out)
  have HS1 := Lib.hid (fun w => Seed_ok x0 x1 x2 w)
  have HS2 := Lib.hid (fun w => Seed_ok y0 y1 y2 w)
  clear hq
  have H3 := Lib.hid (fun w => eband_bad two many h s w)
  have H4 := bnd s few one hs hf o0 o1
  have hE : (if two < 0 ∨ 511 < two then (2 : Int) else 4) ≠ 0 := by split <;> omega
  generalize (if two < 0 ∨ 511 < two then (2 : Int) else 4) = U at *
  unfold Bnd at H4
  clear h
  have hends := ends x0 x1 x2 y0 y1 y2
  have u1 := sd_u x0 x1 x2
  have u2 := sd_u y0 y1 y2
  unfold Ends at hends
  generalize SD x0 x1 x2 = S1 at *
  generalize SD y0 y1 y2 = S2 at *
  generalize ES x0 x1 x2 = T1 at *
  generalize ES y0 y1 y2 = T2 at *
  rcases hends with t1 | ⟨rfl, t2⟩ | ⟨rfl, rfl, t3⟩
  · go_enter Tryd.func9, Tryd.ntmps9
    go_wp2_with (first | (go_at_call 28; ((with_reducible refine (H0.out _ HQ.out).mono ?_); rintro e w1 ⟨rfl, hb1⟩; have B1 := Lib.hid hb1; have Q1 := Lib.hid (HQ.out.below hb1); clear hb1)) | (go_at_call 25; ((with_reducible refine (H3.out _).mono ?_); rintro e w' ⟨rfl, rfl⟩)) | (go_at_call 25; ((with_reducible refine (H4.out _ Q1.out).mono ?_); rintro e w3 ⟨g, rfl, hg, hr, hb3⟩; have B3 := Lib.hid (belowT B1.out hb3); clear hg hr; obtain ⟨z0, z1, z2, z3, z4, z5⟩ := HX.out.below B3.out)) | (go_at_call 23; ((with_reducible refine (HS1.out _).mono ?_); rintro e w' ⟨rfl, rfl⟩)) | (go_at_call 23; ((with_reducible refine (HS2.out _).mono ?_); rintro e w' ⟨rfl, rfl⟩)))
    go_ret
    exact ⟨rfl, belowT HB.out B3.out⟩
  · go_enter Tryd.func9, Tryd.ntmps9
    go_wp2_with (first | (go_at_call 28; ((with_reducible refine (H0.out _ HQ.out).mono ?_); rintro e w1 ⟨rfl, hb1⟩; have B1 := Lib.hid hb1; have Q1 := Lib.hid (HQ.out.below hb1); clear hb1)) | (go_at_call 25; ((with_reducible refine (H3.out _).mono ?_); rintro e w' ⟨rfl, rfl⟩)) | (go_at_call 25; ((with_reducible refine (H4.out _ Q1.out).mono ?_); rintro e w3 ⟨g, rfl, hg, hr, hb3⟩; have B3 := Lib.hid (belowT B1.out hb3); clear hg hr; obtain ⟨z0, z1, z2, z3, z4, z5⟩ := HX.out.below B3.out)) | (go_at_call 23; ((with_reducible refine (HS1.out _).mono ?_); rintro e w' ⟨rfl, rfl⟩)) | (go_at_call 23; ((with_reducible refine (HS2.out _).mono ?_); rintro e w' ⟨rfl, rfl⟩)))
    go_ret
    exact ⟨rfl, belowT HB.out B3.out⟩
  · go_enter Tryd.func9, Tryd.ntmps9
    go_wp2_with (first | (go_at_call 28; ((with_reducible refine (H0.out _ HQ.out).mono ?_); rintro e w1 ⟨rfl, hb1⟩; have B1 := Lib.hid hb1; have Q1 := Lib.hid (HQ.out.below hb1); clear hb1)) | (go_at_call 25; ((with_reducible refine (H3.out _).mono ?_); rintro e w' ⟨rfl, rfl⟩)) | (go_at_call 25; ((with_reducible refine (H4.out _ Q1.out).mono ?_); rintro e w3 ⟨g, rfl, hg, hr, hb3⟩; have B3 := Lib.hid (belowT B1.out hb3); clear hg hr; obtain ⟨z0, z1, z2, z3, z4, z5⟩ := HX.out.below B3.out)) | (go_at_call 23; ((with_reducible refine (HS1.out _).mono ?_); rintro e w' ⟨rfl, rfl⟩)) | (go_at_call 23; ((with_reducible refine (HS2.out _).mono ?_); rintro e w' ⟨rfl, rfl⟩)))
    go_ret
    exact ⟨rfl, belowT HB.out B3.out⟩
set_option maxRecDepth 100000 in
set_option maxHeartbeats 4000000 in
theorem good (s : Nat) (one two : Int) (x0 x1 x2 y0 y1 y2 : Int) (w : World) (few many : Nat) (hs : s < 4294967296) (hf : few ≤ 256) (hm : many ≤ 256) (o0 : 0 ≤ one) (o1 : one ≤ 511) (t0 : 0 ≤ two) (t1 : two ≤ 511) (hq : Qs w) : Calls Tryd.prog 9 #[.int .u32 s, .int .i64 one, .int .i64 two, .int .i64 few, .int .i64 many, .agg #[.int .i64 x0, .int .i64 x1, .int .i64 x2], .agg #[.int .i64 y0, .int .i64 y1, .int .i64 y2]] w fun e w' => e = .returned (.bool true) ∧ Below w.heap.size w w' := by
  have H0 := Lib.hid (fun w (hq : Qs w) => nalive_ok w hq)
  have HB := Lib.hid (two_alloc w (.cells #[.int .i64 x0, .int .i64 x1, .int .i64 x2] 47) (.cells #[.int .i64 y0, .int .i64 y1, .int .i64 y2] 47))
  have HX := Lib.hid (bx w x0 x1 x2 y0 y1 y2)
  have HQ := Lib.hid (hq.below HB.out)
  have HS1 := Lib.hid (fun w => Seed_ok x0 x1 x2 w)
  have HS2 := Lib.hid (fun w => Seed_ok y0 y1 y2 w)
  clear hq
  have H3 := bnd s few one hs hf o0 o1
  have H4 := bnd s many two hs hm t0 t1
  have HG : Hid (∀ j, (0 ≤ nl (nd s few) (na one) (nv s j) ∧ 0 ≤ nl (nd s many) (na two) (nv s j)) ∨ (nl (nd s few) (na one) (nv s j) ≤ 0 ∧ nl (nd s many) (na two) (nv s j) ≤ 0)) := Lib.hid fun j => by
    have a := sgn s few o0 j
    have b := sgn s many t0 j
    rcases Int.le_total 0 (nv s j) with h | h
    · exact .inl ⟨a.1 h, b.1 h⟩
    · exact .inr ⟨a.2 h, b.2 h⟩
  obtain ⟨F1, hF1⟩ : ∃ F : Nat → Int, F = fun j => nl (nd s few) (na one) (nv s j) := ⟨_, rfl⟩
  obtain ⟨F2, hF2⟩ : ∃ F : Nat → Int, F = fun j => nl (nd s many) (na two) (nv s j) := ⟨_, rfl⟩
  have HG2 : Hid (∀ j, (0 ≤ F1 j ∧ 0 ≤ F2 j) ∨ (F1 j ≤ 0 ∧ F2 j ≤ 0)) := by rw [hF1, hF2]; exact HG
  rw [← hF1] at H3
  rw [← hF2] at H4
  unfold Bnd at H3 H4
  clear hF1 hF2 HG
  go_enter Tryd.func9, Tryd.ntmps9
  go_wp2_with (first | (go_at_call 28; ((with_reducible refine (H0.out _ HQ.out).mono ?_); rintro e w1 ⟨rfl, hb1⟩; have B1 := Lib.hid hb1; have Q1 := Lib.hid (HQ.out.below hb1); clear hb1)) | (go_at_call 25; ((with_reducible refine (H3.out _ Q1.out).mono ?_); rintro e w2 ⟨g, rfl, hg, hr, hb3⟩; have B2 := Lib.hid (belowT B1.out hb3); have Q2 := Lib.hid (Q1.out.below hb3); have R0 := Lib.hid hr; clear hg hr hb3)) | (go_at_call 25; ((with_reducible refine (H4.out _ Q2.out).mono ?_); rintro e w3 ⟨g2, rfl, hg, hr, hb3⟩; have B3 := Lib.hid (belowT B2.out hb3); have R1 := Lib.hid (R0.out.of_block (hb3.block _ R0.out.lt)); have R2 := Lib.hid hr; clear hg hr hb3)))
  go_loop [20] (fun i => ∃ k : Nat, k ≤ few ∧ k ≤ many ∧ i = .int .i64 k) (fun i => few - (intOf i).toNat)
  case atStart => exact ⟨0, by omega, by omega, rfl⟩
  case round =>
    obtain ⟨k, hk1, hk2, rfl⟩ := hrel
    by_cases hl1 : k < few
    · by_cases hl2 : k < many
      · have c1 := R1.out.cell hl1
        have c2 := R2.out.cell hl2
        have hg := HG2.out k
        generalize F1 k = X at *
        generalize F2 k = Y at *
        rcases hg with ⟨g0, g1⟩ | ⟨g0, g1⟩
        · have n1 : ¬ X < 0 := by omega
          have n2 : ¬ Y < 0 := by omega
          go_wp2
          all_goals
            go_round
            case rel => exact ⟨k + 1, by omega, by omega, by go_num⟩
            case measure => simp [intOf]; omega
        · have n1 : ¬ 0 < X := by omega
          have n2 : ¬ 0 < Y := by omega
          go_wp2
          all_goals
            go_round
            case rel => exact ⟨k + 1, by omega, by omega, by go_num⟩
            case measure => simp [intOf]; omega
      · obtain ⟨z0, z1, z2, z3, z4, z5⟩ := HX.out.below B3.out
        have hends := ends x0 x1 x2 y0 y1 y2
        have u1 := sd_u x0 x1 x2
        have u2 := sd_u y0 y1 y2
        unfold Ends at hends
        generalize SD x0 x1 x2 = S1 at *
        generalize SD y0 y1 y2 = S2 at *
        generalize ES x0 x1 x2 = T1 at *
        generalize ES y0 y1 y2 = T2 at *
        rcases hends with t1 | ⟨rfl, t2⟩ | ⟨rfl, rfl, t3⟩
        · go_wp2_with (first | (go_at_call 23; ((with_reducible refine (HS1.out _).mono ?_); rintro e w' ⟨rfl, rfl⟩)) | (go_at_call 23; ((with_reducible refine (HS2.out _).mono ?_); rintro e w' ⟨rfl, rfl⟩)))
          go_ret
          exact ⟨rfl, belowT HB.out B3.out⟩
        · go_wp2_with (first | (go_at_call 23; ((with_reducible refine (HS1.out _).mono ?_); rintro e w' ⟨rfl, rfl⟩)) | (go_at_call 23; ((with_reducible refine (HS2.out _).mono ?_); rintro e w' ⟨rfl, rfl⟩)))
          go_ret
          exact ⟨rfl, belowT HB.out B3.out⟩
        · go_wp2_with (first | (go_at_call 23; ((with_reducible refine (HS1.out _).mono ?_); rintro e w' ⟨rfl, rfl⟩)) | (go_at_call 23; ((with_reducible refine (HS2.out _).mono ?_); rintro e w' ⟨rfl, rfl⟩)))
          go_ret
          exact ⟨rfl, belowT HB.out B3.out⟩
    · obtain ⟨z0, z1, z2, z3, z4, z5⟩ := HX.out.below B3.out
      have hends := ends x0 x1 x2 y0 y1 y2
      have u1 := sd_u x0 x1 x2
      have u2 := sd_u y0 y1 y2
      unfold Ends at hends
      generalize SD x0 x1 x2 = S1 at *
      generalize SD y0 y1 y2 = S2 at *
      generalize ES x0 x1 x2 = T1 at *
      generalize ES y0 y1 y2 = T2 at *
      rcases hends with t1 | ⟨rfl, t2⟩ | ⟨rfl, rfl, t3⟩
      · go_wp2_with (first | (go_at_call 23; ((with_reducible refine (HS1.out _).mono ?_); rintro e w' ⟨rfl, rfl⟩)) | (go_at_call 23; ((with_reducible refine (HS2.out _).mono ?_); rintro e w' ⟨rfl, rfl⟩)))
        go_ret
        exact ⟨rfl, belowT HB.out B3.out⟩
      · go_wp2_with (first | (go_at_call 23; ((with_reducible refine (HS1.out _).mono ?_); rintro e w' ⟨rfl, rfl⟩)) | (go_at_call 23; ((with_reducible refine (HS2.out _).mono ?_); rintro e w' ⟨rfl, rfl⟩)))
        go_ret
        exact ⟨rfl, belowT HB.out B3.out⟩
      · go_wp2_with (first | (go_at_call 23; ((with_reducible refine (HS1.out _).mono ?_); rintro e w' ⟨rfl, rfl⟩)) | (go_at_call 23; ((with_reducible refine (HS2.out _).mono ?_); rintro e w' ⟨rfl, rfl⟩)))
        go_ret
        exact ⟨rfl, belowT HB.out B3.out⟩
theorem main (s : Int) (one two few many : Int) (x0 x1 x2 y0 y1 y2 : Int) (w : World) (h : (Lit.int .u32 s).wf = true) (hq : Qs w) : Calls Tryd.prog 9 #[.int .u32 s, .int .i64 one, .int .i64 two, .int .i64 few, .int .i64 many, .agg #[.int .i64 x0, .int .i64 x1, .int .i64 x2], .agg #[.int .i64 y0, .int .i64 y1, .int .i64 y2]] w fun e w' => e = .returned (.bool true) ∧ Kp w w' := by
  refine kp_below (Kp.refl hq) ?_
  obtain ⟨n, rfl, hn⟩ := wfu h
  by_cases c1 : one < 0 ∨ 511 < one ∨ few < 0 ∨ 256 < few
  · refine xbad n one two few many x0 x1 x2 y0 y1 y2 w hq c1 (Lib.hid fun w hq => ?_)
    by_cases c2 : two < 0 ∨ 511 < two ∨ many < 0 ∨ 256 < many
    · exact (eband_bad two many c2 n w).mono fun e w' ⟨h1, h2⟩ => ⟨_, _, h1, h2 ▸ Below.refl _ _⟩
    · obtain ⟨m, rfl⟩ : ∃ k : Nat, many = (k : Int) := ⟨many.toNat, by omega⟩
      exact (band_ok n m two w hn (by omega) (by omega) (by omega) hq).mono fun e w' ⟨g, h1, _, _, h2⟩ => ⟨_, _, h1, h2⟩
  · obtain ⟨f, rfl⟩ : ∃ k : Nat, few = (k : Int) := ⟨few.toNat, by omega⟩
    by_cases c2 : two < 0 ∨ 511 < two ∨ many < 0 ∨ 256 < many
    · exact ybad n one two many x0 x1 x2 y0 y1 y2 w f hn (by omega) (by omega) (by omega) hq c2
    · obtain ⟨m, rfl⟩ : ∃ k : Nat, many = (k : Int) := ⟨many.toNat, by omega⟩
      exact good n one two x0 x1 x2 y0 y1 y2 w f m hn (by omega) (by omega) (by omega) (by omega) (by omega) (by omega) hq

theorem named : Named Tryd.prog Rows.noiseSameRow.laid [(0, 80)] := ⟨by kernel_rfl, by kernel_rfl, trivial⟩
theorem flat1 : flats E Rows.noiseSameRow.laid [(0, 80)] = some [(0, [.int .i64 1073741824, .int .i64 1276901417, .int .i64 1518500250, .int .i64 1805811301])] := by kernel_rfl
set_option linter.unusedVariables false in
theorem walk (a0 : Int) (a1 : Int) (a2 : Int) (a3 : Int) (a4 : Int) (a5x a5y a5z : Int) (a6x a6y a6z : Int) (w : World) (h0 : (Lit.int .u32 a0).wf = true) (h1 : (Lit.int .i64 a1).wf = true) (h2 : (Lit.int .i64 a2).wf = true) (h3 : (Lit.int .i64 a3).wf = true) (h4 : (Lit.int .i64 a4).wf = true) (h5x : (Lit.int .i64 a5x).wf = true) (h5y : (Lit.int .i64 a5y).wf = true) (h5z : (Lit.int .i64 a5z).wf = true) (h6x : (Lit.int .i64 a6x).wf = true) (h6y : (Lit.int .i64 a6y).wf = true) (h6z : (Lit.int .i64 a6z).wf = true) (hL : laidMetH Tryd.prog Rows.noiseSameRow.laid w) :
    Calls Tryd.prog 9 #[.int .u32 a0, .int .i64 a1, .int .i64 a2, .int .i64 a3, .int .i64 a4, .agg #[.int .i64 a5x, .int .i64 a5y, .int .i64 a5z], .agg #[.int .i64 a6x, .int .i64 a6y, .int .i64 a6z]] w fun e w' => e = .returned (.bool true) ∧ Below w.heap.size w w' :=
  (main a0 a1 a2 a3 a4 a5x a5y a5z a6x a6y a6z w h0 (qs_of hL (by kernel_rfl) named flat1)).mono fun _ _ h => ⟨h.1, h.2.2⟩
noncomputable def laidWorld (os : Os) : World := lay E Rows.noiseSameRow.laid [(0, 80)] (World.holding Tryd.prog os ⟨#[], #[.int .u32 0, .int .i64 0, .int .i64 0, .int .i64 0, .int .i64 0, .agg #[.int .i64 0, .int .i64 0, .int .i64 0], .agg #[.int .i64 0, .int .i64 0, .int .i64 0]], []⟩)
theorem laid_os (os : Os) : (laidWorld os).os = os := by kernel_rfl
theorem own : ownKnob Tryd.prog.godebug = none := by kernel_rfl
theorem laidOut : laidOutB Tryd.prog = true := by kernel_rfl
set_option linter.unusedVariables false
theorem laid_met (os : Os) (args : Array Value) : laidMet Tryd.prog Rows.noiseSameRow.laid ((laidWorld os).forCall (fun _ _ => 0) ⟨#[], args, []⟩).memory := laidMet_of_run' 8 (by kernel_rfl) (by kernel_rfl)
set_option maxRecDepth 100000 in
theorem lifted (os : Os) (started : os.Started) (H : Type) (enc : TypeId × Value → H) (F : Stop.Interp) :
    ReturnsInHanded {} Tryd.checked os 9 .any ((OpenSpec.ofChange Rows.noiseSameSpec).preRow enc Tryd.prog Tryd.f9 Rows.noiseSameRow.domain false Rows.noiseSameRow.laid) (((OpenSpec.ofChange Rows.noiseSameSpec).at F).post enc Tryd.prog Tryd.f9 false true false false) := by
  refine returnsInHanded_of_row (C := Tryd.checked) (s := OpenSpec.ofChange Rows.noiseSameSpec) own started (by kernel_rfl) Tryd.func9
    (witness_row_at (enc := enc) (C := Tryd.checked) false (laidWorld os) #[.int .u32 0, .int .i64 0, .int .i64 0, .int .i64 0, .int .i64 0, .agg #[.int .i64 0, .int .i64 0, .int .i64 0], .agg #[.int .i64 0, .int .i64 0, .int .i64 0]] (laid_os os) (by kernel_rfl) (by kernel_rfl) (by kernel_rfl)
      (OpenSpec.preRow_of_cond 8 (show DataW.whole enc Tryd.prog ((laidWorld os).forCall (fun _ _ => 0) ⟨#[], #[.int .u32 0, .int .i64 0, .int .i64 0, .int .i64 0, .int .i64 0, .agg #[.int .i64 0, .int .i64 0, .int .i64 0], .agg #[.int .i64 0, .int .i64 0, .int .i64 0]], []⟩).memory Tryd.f9.params.toList Rows.noiseSameSpec.vars false #[.int .u32 0, .int .i64 0, .int .i64 0, .int .i64 0, .int .i64 0, .agg #[.int .i64 0, .int .i64 0, .int .i64 0], .agg #[.int .i64 0, .int .i64 0, .int .i64 0]].toList 8 = some ([.lit (.int .u32 0), .lit (.int .i64 0), .lit (.int .i64 0), .lit (.int .i64 0), .lit (.int .i64 0), .agg [.lit (.int .i64 0), .lit (.int .i64 0), .lit (.int .i64 0)], .agg [.lit (.int .i64 0), .lit (.int .i64 0), .lit (.int .i64 0)]], [], []) by kernel_rfl) (by kernel_rfl) (fun k hk => by cases hk) (by kernel_rfl) (laid_met os _))) ?_
  intro W base args ds gs before hval0 hW _ _ _ hL _ _
  have hval : ∀ (j : Nat) t v, Tryd.f9.params[j]? = some t → args[j]? = some v → Value.okWide Tryd.prog W .any base t v := hval0
  have hW' := hW
  obtain ⟨p, q, hA0, hV, rfl, hfz, hnd⟩ := hW
  have hA : DataW.TrodAll enc Tryd.prog W 0 (fun _ => true) true Tryd.f9.params.toList args.toList ds p := hA0
  rw [Tryd.params9] at hA hval
  obtain ⟨v0, vs0, d0, ds0, p0, q0, hargs, rfl, rfl, h0, r0⟩ := trodAll_cons hA
  obtain ⟨v1, vs1, d1, ds1, p1, q1, rfl, rfl, rfl, h1, r1⟩ := trodAll_cons r0
  obtain ⟨v2, vs2, d2, ds2, p2, q2, rfl, rfl, rfl, h2, r2⟩ := trodAll_cons r1
  obtain ⟨v3, vs3, d3, ds3, p3, q3, rfl, rfl, rfl, h3, r3⟩ := trodAll_cons r2
  obtain ⟨v4, vs4, d4, ds4, p4, q4, rfl, rfl, rfl, h4, r4⟩ := trodAll_cons r3
  obtain ⟨v5, vs5, d5, ds5, p5, q5, rfl, rfl, rfl, h5, r5⟩ := trodAll_cons r4
  obtain ⟨v6, vs6, d6, ds6, p6, q6, rfl, rfl, rfl, h6, r6⟩ := trodAll_cons r5
  obtain ⟨rfl, rfl, rfl⟩ := trodAll_nil r6
  obtain rfl : args = #[v0, v1, v2, v3, v4, v5, v6] := by cases args; simp_all
  obtain ⟨rfl, rfl⟩ := trodVars_none hV
  obtain ⟨a0, rfl, rfl, rfl, w0⟩ := open_int Tryd.underlying34 (hval 0 34 v0 rfl rfl) h0
  obtain ⟨a1, rfl, rfl, rfl, w1⟩ := open_int Tryd.underlying3 (hval 1 3 v1 rfl rfl) h1
  obtain ⟨a2, rfl, rfl, rfl, w2⟩ := open_int Tryd.underlying3 (hval 2 3 v2 rfl rfl) h2
  obtain ⟨a3, rfl, rfl, rfl, w3⟩ := open_int Tryd.underlying3 (hval 3 3 v3 rfl rfl) h3
  obtain ⟨a4, rfl, rfl, rfl, w4⟩ := open_int Tryd.underlying3 (hval 4 3 v4 rfl rfl) h4
  have k5 := h5
  have lt5 : ∀ x ∈ p5, x.block < W.heap.size := by obtain ⟨m, hm⟩ := k5; exact DataW.trod_lt m _ _ _ hm
  obtain ⟨a5x, a5y, a5z, rfl, w5x, w5y, w5z⟩ := open_arr3 Tryd.underlying47 Tryd.underlying3 (by kernel_rfl) (by kernel_rfl) (hval 5 47 v5 rfl rfl) h5
  have k6 := h6
  have lt6 : ∀ x ∈ p6, x.block < W.heap.size := by obtain ⟨m, hm⟩ := k6; exact DataW.trod_lt m _ _ _ hm
  obtain ⟨a6x, a6y, a6z, rfl, w6x, w6y, w6z⟩ := open_arr3 Tryd.underlying47 Tryd.underlying3 (by kernel_rfl) (by kernel_rfl) (hval 6 47 v6 rfl rfl) h6
  clear hA0 hval0
  refine (walk a0 a1 a2 a3 a4 a5x a5y a5z a6x a6y a6z W w0 w1 w2 w3 w4 w5x w5y w5z w6x w6y w6z hL).mono fun e W' ⟨he, bel⟩ => ?_
  subst he
  exact ⟨_, rfl, _, _, _, [], _, [], hW', trodAll_mk1 (shut_bool Tryd.underlying4 _), (trodAll_cons_mk (shut_int Tryd.underlying34 w0) (trodAll_cons_mk (shut_int Tryd.underlying3 w1) (trodAll_cons_mk (shut_int Tryd.underlying3 w2) (trodAll_cons_mk (shut_int Tryd.underlying3 w3) (trodAll_cons_mk (shut_int Tryd.underlying3 w4) (trodAll_cons_mk (Below.trod laidOut (by kernel_rfl) (of_decide_eq_true (by kernel_rfl)) k5 bel lt5) (trodAll_cons_mk (Below.trod laidOut (by kernel_rfl) (of_decide_eq_true (by kernel_rfl)) k6 bel lt6) trodAll_mk0))))))), rfl, bel.frame _, fun h => by cases h⟩

theorem said : Rows.NoiseSameSaid :=
  OpenClaim.holds_of_cond 9 Tryd.f9 rfl rfl rfl rfl rfl rfl rfl ⟨rfl, rfl, rfl, rfl, rfl⟩ rfl rfl rfl rfl rfl (by kernel_rfl) Tryd.func9 (by kernel_rfl)
    (of_decide_eq_true (by kernel_rfl)) (by unfold Func.isWrapper; first | (rw [if_pos (by decide +kernel)]; kernel_rfl) | (rw [if_neg (by decide +kernel)]; exact ⟨rfl, rfl⟩))
    (fun os started H enc _ F => by rw [OpenClaim.pre_eq_preRow]; exact lifted os started H enc F)

theorem plain (f : FuncId) (fn : Func) (hf : Tryd.pinned.checked.prog.funcNamed "reedpipe/reedpipelaw16.NoiseSame" = some f) (hfn : Tryd.pinned.checked.prog.funcs[f]? = some fn) :
    false = Tryd.pinned.checked.prog.looks [] ∧ ∀ (j : Nat) t, fn.params[j]? = some t → Tryd.pinned.checked.prog.wantsStandIn t = false := by
  obtain rfl : f = 9 := Option.some.inj ((show Tryd.prog.funcNamed "reedpipe/reedpipelaw16.NoiseSame" = some 9 by kernel_rfl).symm.trans hf) |>.symm
  obtain rfl : fn = Tryd.f9 := (Option.some.inj (Tryd.func9.symm.trans hfn)).symm
  refine ⟨by kernel_rfl, fun j t ht => ?_⟩
  rw [Tryd.params9] at ht
  have hm : t ∈ [34, 3, 3, 3, 3, 47, 47] := by simpa using Array.mem_of_getElem? ht
  have hall : ([34, 3, 3, 3, 3, 47, 47].all fun u => !Tryd.prog.wantsStandIn u) = true := by kernel_rfl
  exact (show Tryd.prog.wantsStandIn t = false by simpa using List.all_eq_true.1 hall t hm)

theorem proved : Rows.NoiseSameCardSaid :=
  Claim7.holds_tied_plain_at .later [] _ _ _ _ said (fun _ h => by cases h) (by kernel_rfl) (fun _ h => by cases h) noiseSame_row_tie rfl ⟨rfl, rfl⟩ (by kernel_rfl) rfl plain (by kernel_rfl)

end Go.Proofs.YtanjcbnkkhbkkaaDoor.noiseSame
