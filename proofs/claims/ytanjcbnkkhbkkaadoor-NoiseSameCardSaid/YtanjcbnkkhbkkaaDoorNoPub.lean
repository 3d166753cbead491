/- What noise's calls answer. -/
import Derived.Test.YtanjcbnkkhbkkaaDoorNoRef
import Derived.WalkKit
import Derived.Below
import Derived.RegionTactic
import Derived.Deep.QuietTactic
import Derived.BigQuiet
import Derived.ChangeAlike
import Derived.Deep.OwnRows
import Derived.ProofKit
import Derived.OpenShut
import Derived.Lib.Hide
namespace Go.Proofs.YtanjcbnkkhbkkaaDoor.No
open Go Go.ChangeShapes Go.WideShapes Go.ChangeAt Go.RowKit Go.Proofs.YtanjcbnkkhbkkaaDoor.Fx Go.Proofs.YtanjcbnkkhbkkaaDoor.Nm

theorem eband_lo (s m st : Int) (w : World) (h : st < 0) : Calls Tryd.prog 25 #[.int .u32 s, .int .i64 st, .int .i64 m] w fun e w' => e = .returned (.tuple #[.slice none 0 0, .int .i64 2]) ∧ w = w' := by
  go_enter Tryd.func25, Tryd.ntmps25
  go_wp2
  go_ret2
  exact ⟨rfl, rfl⟩
theorem eband_hi (s m st : Int) (w : World) (h : 511 < st) : Calls Tryd.prog 25 #[.int .u32 s, .int .i64 st, .int .i64 m] w fun e w' => e = .returned (.tuple #[.slice none 0 0, .int .i64 2]) ∧ w = w' := by
  go_enter Tryd.func25, Tryd.ntmps25
  go_wp2
  go_ret2
  exact ⟨rfl, rfl⟩
theorem eband_mlo (s m st : Int) (w : World) (h0 : 0 ≤ st) (h1 : st ≤ 511) (h : m < 0) : Calls Tryd.prog 25 #[.int .u32 s, .int .i64 st, .int .i64 m] w fun e w' => e = .returned (.tuple #[.slice none 0 0, .int .i64 4]) ∧ w = w' := by
  go_enter Tryd.func25, Tryd.ntmps25
  go_wp2
  go_ret2
  exact ⟨rfl, rfl⟩
theorem eband_mhi (s m st : Int) (w : World) (h0 : 0 ≤ st) (h1 : st ≤ 511) (h : 256 < m) : Calls Tryd.prog 25 #[.int .u32 s, .int .i64 st, .int .i64 m] w fun e w' => e = .returned (.tuple #[.slice none 0 0, .int .i64 4]) ∧ w = w' := by
  go_enter Tryd.func25, Tryd.ntmps25
  go_wp2
  go_ret2
  exact ⟨rfl, rfl⟩
/-- The error, where there is one. -/
theorem eband_bad (st m : Int) (h : st < 0 ∨ 511 < st ∨ m < 0 ∨ 256 < m) (s : Int) (w : World) : Calls Tryd.prog 25 #[.int .u32 s, .int .i64 st, .int .i64 m] w fun e w' => e = .returned (.tuple #[.slice none 0 0, .int .i64 (if st < 0 ∨ 511 < st then 2 else 4)]) ∧ w = w' := by
  by_cases c : st < 0 ∨ 511 < st
  · rw [if_pos c]
    rcases c with c | c
    · exact eband_lo s m st w c
    · exact eband_hi s m st w c
  · rw [if_neg c]
    by_cases d : m < 0
    · exact eband_mlo s m st w (by omega) (by omega) d
    · exact eband_mhi s m st w (by omega) (by omega) (by omega)
theorem erband_lo (s m st : Int) (w : World) (h : st < 0) : Calls Tryd.prog 26 #[.int .u32 s, .int .i64 st, .int .i64 m] w fun e w' => e = .returned (.tuple #[.slice none 0 0, .int .i64 2]) ∧ w = w' := by
  go_enter Tryd.func26, Tryd.ntmps26
  go_wp2
  go_ret2
  exact ⟨rfl, rfl⟩
theorem erband_hi (s m st : Int) (w : World) (h : 511 < st) : Calls Tryd.prog 26 #[.int .u32 s, .int .i64 st, .int .i64 m] w fun e w' => e = .returned (.tuple #[.slice none 0 0, .int .i64 2]) ∧ w = w' := by
  go_enter Tryd.func26, Tryd.ntmps26
  go_wp2
  go_ret2
  exact ⟨rfl, rfl⟩
theorem erband_mlo (s m st : Int) (w : World) (h0 : 0 ≤ st) (h1 : st ≤ 511) (h : m < 0) : Calls Tryd.prog 26 #[.int .u32 s, .int .i64 st, .int .i64 m] w fun e w' => e = .returned (.tuple #[.slice none 0 0, .int .i64 4]) ∧ w = w' := by
  go_enter Tryd.func26, Tryd.ntmps26
  go_wp2
  go_ret2
  exact ⟨rfl, rfl⟩
theorem erband_mhi (s m st : Int) (w : World) (h0 : 0 ≤ st) (h1 : st ≤ 511) (h : 256 < m) : Calls Tryd.prog 26 #[.int .u32 s, .int .i64 st, .int .i64 m] w fun e w' => e = .returned (.tuple #[.slice none 0 0, .int .i64 4]) ∧ w = w' := by
  go_enter Tryd.func26, Tryd.ntmps26
  go_wp2
  go_ret2
  exact ⟨rfl, rfl⟩
/-- The error, where there is one. -/
theorem erband_bad (st m : Int) (h : st < 0 ∨ 511 < st ∨ m < 0 ∨ 256 < m) (s : Int) (w : World) : Calls Tryd.prog 26 #[.int .u32 s, .int .i64 st, .int .i64 m] w fun e w' => e = .returned (.tuple #[.slice none 0 0, .int .i64 (if st < 0 ∨ 511 < st then 2 else 4)]) ∧ w = w' := by
  by_cases c : st < 0 ∨ 511 < st
  · rw [if_pos c]
    rcases c with c | c
    · exact erband_lo s m st w c
    · exact erband_hi s m st w c
  · rw [if_neg c]
    by_cases d : m < 0
    · exact erband_mlo s m st w (by omega) (by omega) d
    · exact erband_mhi s m st w (by omega) (by omega) (by omega)
theorem rband_ok (s m : Nat) (st : Int) (w : World) (hs : s < 4294967296) (hm : m ≤ 256) (st0 : 0 ≤ st) (st1 : st ≤ 511) :
    Calls Tryd.prog 26 #[.int .u32 s, .int .i64 st, .int .i64 m] w fun e w' => ∃ v, e = .returned (.tuple #[v, .int .i64 0]) ∧ Own w.heap.size w' v (mk m (fun j => nl (nd s m) (na st) (nv s j))) ∧ Below w.heap.size w w' := by
  have HL := Lib.hid (rlines_ok s m st w hs hm st0 st1)
  go_enter Tryd.func26, Tryd.ntmps26
  go_wp2_with (go_at_call 52; ((with_reducible refine (HL.out).mono ?_); rintro e w1 ⟨v, rfl, ho, hb⟩))
  go_ret2
  exact ⟨_, rfl, ho, hb⟩
/-- A seed, and the error. -/
instance (g w b : Int) : Decidable (okS g w b) := by unfold okS; infer_instance
def SD (g w b : Int) : Int := if okS g w b then sd g w b else 0
def ES (g w b : Int) : Int := if okS g w b then 0 else 2
theorem S_bad {g w b : Int} (h : ¬ okS g w b) : SD g w b = 0 ∧ ES g w b = 2 := by unfold SD ES; rw [if_neg h, if_neg h]; exact ⟨rfl, rfl⟩
theorem S_good {g w b : Int} (h : okS g w b) : SD g w b = sd g w b ∧ ES g w b = 0 := by unfold SD ES; rw [if_pos h, if_pos h]; exact ⟨rfl, rfl⟩
theorem Seed_ok (g x b : Int) (w : World) : Calls Tryd.prog 23 #[.int .i64 g, .int .i64 x, .int .i64 b] w fun e w' => e = .returned (.tuple #[.int .u32 (SD g x b), .int .i64 (ES g x b)]) ∧ w = w' := by
  by_cases c0 : g < 0
  · obtain ⟨e1, e2⟩ := S_bad (g := g) (w := x) (b := b) (by unfold okS; omega)
    rw [e1, e2]
    go_enter Tryd.func23, Tryd.ntmps23
    go_wp2
    go_ret2
    exact ⟨rfl, rfl⟩
  by_cases c1 : 255 < g
  · obtain ⟨e1, e2⟩ := S_bad (g := g) (w := x) (b := b) (by unfold okS; omega)
    rw [e1, e2]
    go_enter Tryd.func23, Tryd.ntmps23
    go_wp2
    go_ret2
    exact ⟨rfl, rfl⟩
  by_cases c2 : x < 0
  · obtain ⟨e1, e2⟩ := S_bad (g := g) (w := x) (b := b) (by unfold okS; omega)
    rw [e1, e2]
    go_enter Tryd.func23, Tryd.ntmps23
    go_wp2
    go_ret2
    exact ⟨rfl, rfl⟩
  by_cases c3 : 7 < x
  · obtain ⟨e1, e2⟩ := S_bad (g := g) (w := x) (b := b) (by unfold okS; omega)
    rw [e1, e2]
    go_enter Tryd.func23, Tryd.ntmps23
    go_wp2
    go_ret2
    exact ⟨rfl, rfl⟩
  by_cases c4 : b < 0
  · obtain ⟨e1, e2⟩ := S_bad (g := g) (w := x) (b := b) (by unfold okS; omega)
    rw [e1, e2]
    go_enter Tryd.func23, Tryd.ntmps23
    go_wp2
    go_ret2
    exact ⟨rfl, rfl⟩
  by_cases c5 : 511 < b
  · obtain ⟨e1, e2⟩ := S_bad (g := g) (w := x) (b := b) (by unfold okS; omega)
    rw [e1, e2]
    go_enter Tryd.func23, Tryd.ntmps23
    go_wp2
    go_ret2
    exact ⟨rfl, rfl⟩
  have hok : okS g x b := by unfold okS; omega
  obtain ⟨e1, e2⟩ := S_good hok
  rw [e1, e2]
  clear e1 e2
  have hE := Lib.hid (show (4096 * g + 512 * x + b) * 2654435761 % 4294967296 = sd g x b from rfl)
  clear hok
  go_enter Tryd.func23, Tryd.ntmps23
  go_wp2
  rw [hE.out]
  go_ret2
  exact ⟨rfl, rfl⟩
theorem begin_ok (g x b : Int) (w : World) (h : okS g x b) : Calls Tryd.prog 47 #[.int .i64 g, .int .i64 x, .int .i64 b] w fun e w' => e = .returned (.int .i64 (sd g x b)) ∧ w = w' := by
  obtain ⟨h1, h2, h3, h4, h5, h6⟩ := h
  have hE := Lib.hid (show (4096 * g + 512 * x + b) * 2654435761 % 4294967296 = sd g x b from rfl)
  go_enter Tryd.func47, Tryd.ntmps47
  go_wp2
  rw [hE.out]
  go_ret
  exact ⟨rfl, rfl⟩
theorem rSeed_ok (g x b : Int) (w : World) : Calls Tryd.prog 24 #[.int .i64 g, .int .i64 x, .int .i64 b] w fun e w' => e = .returned (.tuple #[.int .u32 (SD g x b), .int .i64 (ES g x b)]) ∧ w = w' := by
  by_cases c0 : g < 0
  · obtain ⟨e1, e2⟩ := S_bad (g := g) (w := x) (b := b) (by unfold okS; omega)
    rw [e1, e2]
    go_enter Tryd.func24, Tryd.ntmps24
    go_wp2
    go_ret2
    exact ⟨rfl, rfl⟩
  by_cases c1 : 255 < g
  · obtain ⟨e1, e2⟩ := S_bad (g := g) (w := x) (b := b) (by unfold okS; omega)
    rw [e1, e2]
    go_enter Tryd.func24, Tryd.ntmps24
    go_wp2
    go_ret2
    exact ⟨rfl, rfl⟩
  by_cases c2 : x < 0
  · obtain ⟨e1, e2⟩ := S_bad (g := g) (w := x) (b := b) (by unfold okS; omega)
    rw [e1, e2]
    go_enter Tryd.func24, Tryd.ntmps24
    go_wp2
    go_ret2
    exact ⟨rfl, rfl⟩
  by_cases c3 : 7 < x
  · obtain ⟨e1, e2⟩ := S_bad (g := g) (w := x) (b := b) (by unfold okS; omega)
    rw [e1, e2]
    go_enter Tryd.func24, Tryd.ntmps24
    go_wp2
    go_ret2
    exact ⟨rfl, rfl⟩
  by_cases c4 : b < 0
  · obtain ⟨e1, e2⟩ := S_bad (g := g) (w := x) (b := b) (by unfold okS; omega)
    rw [e1, e2]
    go_enter Tryd.func24, Tryd.ntmps24
    go_wp2
    go_ret2
    exact ⟨rfl, rfl⟩
  by_cases c5 : 511 < b
  · obtain ⟨e1, e2⟩ := S_bad (g := g) (w := x) (b := b) (by unfold okS; omega)
    rw [e1, e2]
    go_enter Tryd.func24, Tryd.ntmps24
    go_wp2
    go_ret2
    exact ⟨rfl, rfl⟩
  have hok : okS g x b := by unfold okS; omega
  obtain ⟨e1, e2⟩ := S_good hok
  rw [e1, e2]
  clear e1 e2
  have hB := Lib.hid (fun w => begin_ok g x b w hok)
  have hb := sd_bd g x b
  clear hok
  generalize sd g x b = S at *
  go_enter Tryd.func24, Tryd.ntmps24
  go_wp2_with (go_at_call 47; ((with_reducible refine (hB.out _).mono ?_); rintro e w1 ⟨rfl, rfl⟩))
  go_ret2
  exact ⟨rfl, rfl⟩

/-! ### It is alive -/
theorem nd_9 : nd 9 8 = 16561183 := (sqF_of ⟨by decide, by decide +kernel, by decide +kernel⟩).symm
theorem na_160 : na 160 = 2097152 := by
  unfold na
  rw [show min (160 : Int) 255 = 160 by decide, LN_pos (by decide)]
  have h : cbF (1 * 68719476736) = 4096 := (cbF_of ⟨by decide, by decide, by decide⟩).symm
  unfold ln fo
  rw [h]
  decide +kernel
theorem nl_first : nl (nd 9 8) (na 160) (nv 9 0) = -553333 := by rw [nd_9, na_160]; decide +kernel
theorem nalive_ok (w : World) (hq : Qs w) : Calls Tryd.prog 28 #[] w fun e w' => e = .returned (.bool true) ∧ Below w.heap.size w w' := by
  have HB := Lib.hid (show Calls Tryd.prog 25 #[.int .u32 9, .int .i64 160, .int .i64 8] w _ from band_ok 9 8 160 w (by decide) (by decide) (by decide) (by decide) hq)
  clear hq
  go_enter Tryd.func28, Tryd.ntmps28
  go_wp2_with (go_at_call 25; ((with_reducible refine (HB.out).mono ?_); rintro e w1 ⟨g, rfl, hg, hr, hb⟩; have c := hr.cell (i := 0) (by decide); rw [nl_first] at c; clear hr hg))
  go_loop [3] (fun i => i = .int .i64 0) (fun _ => 0)
  case atStart => exact rfl
  case round =>
    subst hrel
    go_wp2
    go_ret
    exact ⟨rfl, hb⟩
theorem nalive_k {w w1 : World} (k : Kp w w1) : Calls Tryd.prog 28 #[] w1 fun e w' => e = .returned (.bool true) ∧ Kp w w' := kp_below k (nalive_ok w1 k.1)
end Go.Proofs.YtanjcbnkkhbkkaaDoor.No
