/- The chapter's examples and errors. -/
import Derived.Test.YteklahfgplbmcaaDoorBkNn
import Derived.WalkKit
import Derived.Below
import Derived.RegionTactic
import Derived.Deep.QuietTactic
import Derived.BigQuiet
import Derived.ChangeAlike
import Derived.Deep.OwnRows
import Derived.Deep.Cut
import Derived.ProofKit
import Derived.OpenShut
import Derived.Laws.EntriesVeiled
import Derived.Lib.Hide
import Derived.Deep.RegionHeld3
namespace Go.Proofs.YteklahfgplbmcaaDoor.BkNm
open Go Go.ChangeShapes Go.WideShapes Go.ChangeAt Go.RowKit Go.Proofs.YteklahfgplbmcaaDoor.Bk Go.Proofs.YteklahfgplbmcaaDoor.Bi Go.Proofs.YteklahfgplbmcaaDoor.Cr Go.Proofs.YteklahfgplbmcaaDoor.Fx Go.Proofs.YteklahfgplbmcaaDoor.BkNn

set_option maxRecDepth 100000 in
set_option maxHeartbeats 8000000 in
theorem gen_no (w : World) (hs : Sh w) : Calls Tryd.prog 49 #[.agg #[.int .i64 1, .int .i64 0, .slice none 0 0, .slice none 0 0]] w fun e w' => e = .returned (.bool false) ∧ Below w.heap.size w w' := by
  have HS := Lib.hid hs
  obtain ⟨s0, s1⟩ := hs
  have g0 : w.cell? ⟨0, 0, none⟩ = some (.int .i64 4) := (s1 0 (by omega)).1
  have g1 : w.cell? ⟨0, 1, none⟩ = some (.int .i64 (-1)) := (s1 0 (by omega)).2.1
  have g2 : w.cell? ⟨0, 2, none⟩ = some (.int .i64 1) := (s1 0 (by omega)).2.2.1
  have g3 : w.cell? ⟨0, 3, none⟩ = some (.int .i64 0) := (s1 0 (by omega)).2.2.2
  have HZ : Hid (∀ w, Calls Tryd.prog 46 #[.agg #[.int .i64 4, .int .i64 (-1), .int .i64 1, .int .i64 0]] w fun e w' => e = .returned (.int .i64 81) ∧ Bel w w') := Lib.hid fun w => (sizes (id := 1) (by decide) (by decide) w).mono fun _ _ h => ⟨h.1, ⟨h.2⟩⟩
  obtain ⟨k0, k1, k2, k3⟩ := nil4 w
  clear s1
  go_enter Tryd.func49, Tryd.ntmps49
  go_wp2
  go_quiet (fail)
  go_upto_region 4 with fail
  have hb0 : Below (w.alloc (.cells #[.int .i64 1, .int .i64 0, .slice none 0 0, .slice none 0 0] 24)).heap.size (w.alloc (.cells #[.int .i64 1, .int .i64 0, .slice none 0 0, .slice none 0 0] 24)) (((w.alloc (.cells #[.int .i64 1, .int .i64 0, .slice none 0 0, .slice none 0 0] 24)).drewN nq).alloc (.cells #[.int .i64 4, .int .i64 (-1), .int .i64 1, .int .i64 0] 82)) := bT (Go.Proofs.YteklahfgplbmcaaDoor.Fx.drewN_belowL (w.alloc (.cells #[.int .i64 1, .int .i64 0, .slice none 0 0, .slice none 0 0] 24)) nq) (al _ _)
  have lt0 : w.heap.size < (w.alloc (.cells #[.int .i64 1, .int .i64 0, .slice none 0 0, .slice none 0 0] 24)).heap.size := by simp
  have x0 := bx4_new ((w.alloc (.cells #[.int .i64 1, .int .i64 0, .slice none 0 0, .slice none 0 0] 24)).drewN nq) 4 (-1) 1 0
  have e0 : ((w.alloc (.cells #[.int .i64 1, .int .i64 0, .slice none 0 0, .slice none 0 0] 24)).drewN nq).heap.size = w.heap.size + 1 := by
    show (w.alloc _).heap.size = _
    simp
  rw [e0] at x0
  have m2 := (hb0.cell (p := ⟨w.heap.size, 2, none⟩) lt0).trans k2
  have m3 := (hb0.cell (p := ⟨w.heap.size, 3, none⟩) lt0).trans k3
  have l0 := Nat.lt_of_lt_of_le lt0 hb0.size
  have bw := bT (al w (.cells #[.int .i64 1, .int .i64 0, .slice none 0 0, .slice none 0 0] 24)) hb0
  clear k0 k1 k2 k3 g0 g1 g2 g3 e0 lt0 hb0 s0
  generalize (((w.alloc (.cells #[.int .i64 1, .int .i64 0, .slice none 0 0, .slice none 0 0] 24)).drewN nq).alloc (.cells #[.int .i64 4, .int .i64 (-1), .int .i64 1, .int .i64 0] 82)) = W4 at *
  obtain ⟨q0, q1, q2, q3, ql⟩ := x0
  have bw' := Lib.hid bw
  clear bw
  have HK : Hid (∀ w', Bel W4 w' → w'.cell? ⟨w.heap.size, 2, none⟩ = some (.slice none 0 0) ∧ w'.cell? ⟨w.heap.size + 1, 0, none⟩ = some (.int .i64 4) ∧ w'.cell? ⟨w.heap.size + 1, 1, none⟩ = some (.int .i64 (-1)) ∧ w'.cell? ⟨w.heap.size + 1, 2, none⟩ = some (.int .i64 1) ∧ w'.cell? ⟨w.heap.size + 1, 3, none⟩ = some (.int .i64 0)) := Lib.hid fun w' hb =>
    ⟨(hb.b.cell (p := ⟨w.heap.size, 2, none⟩) l0).trans m2, (hb.b.cell (p := ⟨w.heap.size + 1, 0, none⟩) ql).trans q0, (hb.b.cell (p := ⟨w.heap.size + 1, 1, none⟩) ql).trans q1, (hb.b.cell (p := ⟨w.heap.size + 1, 2, none⟩) ql).trans q2, (hb.b.cell (p := ⟨w.heap.size + 1, 3, none⟩) ql).trans q3⟩
  have Bd : Hid (Bel W4 W4.drew) := Lib.hid ⟨(Below.refl _ W4).drew⟩
  obtain ⟨p0, p1, p2, p3, p4⟩ := HK.out W4 ⟨Below.refl _ _⟩
  clear m2 m3 q0 q1 q2 q3
  first
    | (go_region_with first
        | (go_at_call 46; ((with_reducible refine (HZ.out _).mono ?_); rintro e w5 ⟨rfl, hb5⟩; have B5 : Hid (Bel W4 w5) := Lib.hid ⟨bT Bd.out.b hb5.b⟩; obtain ⟨o0, o1, o2, o3, o4⟩ := HK.out w5 B5.out)))
    | fail "not so"
  all_goals
    go_wp2
    go_ret
    exact ⟨rfl, bT bw'.out B5.out.b⟩

theorem main (w : World) (hs : Sh w) : Calls Tryd.prog 3 #[] w fun e w' => e = .returned (.bool true) ∧ True ∧ Below w.heap.size w w' := main' w hs (Lib.hid fun w h => code_no w h (Lib.hid fun w h => gen_no w h))
end Go.Proofs.YteklahfgplbmcaaDoor.BkNm
