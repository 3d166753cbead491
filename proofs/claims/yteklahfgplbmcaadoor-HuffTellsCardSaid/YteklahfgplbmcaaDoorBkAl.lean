/- The chapter's first examples. -/
import Derived.Test.YteklahfgplbmcaaDoorBkCode
import Derived.Test.YteklahfgplbmcaaDoorBkVal
import Derived.Test.YteklahfgplbmcaaDoorBkEnt
import Derived.WalkKit
import Derived.Below
import Derived.RegionTactic
import Derived.Deep.QuietTactic
import Derived.BigQuiet
import Derived.ChangeAlike
import Derived.Deep.OwnRows
import Derived.ProofKit
import Derived.OpenShut
import Derived.Laws.EntriesVeiled
import Derived.Lib.Hide
namespace Go.Proofs.YteklahfgplbmcaaDoor.Bk
open Go Go.ChangeShapes Go.WideShapes Go.ChangeAt Go.RowKit Go.Proofs.YteklahfgplbmcaaDoor.Bi Go.Proofs.YteklahfgplbmcaaDoor.Cr Go.Proofs.YteklahfgplbmcaaDoor.Fx

theorem cd_60 : cd (pl 12) (rk 12 60) = [1] := by decide +kernel
theorem cd_59 : cd (pl 12) (rk 12 59) = [0, 1, 0] := by decide +kernel
theorem rd_new (w : World) (zs : List Int) (hm : zs.length ≤ maxLen) : Rd (w.alloc (.cells (zs.map (Value.int .i64)).toArray 3)) (.slice (some ⟨w.heap.size, 0, none⟩) zs.length zs.length) zs := by
  have r := World.rowIs_alloc w (zs.map (Value.int .i64)).toArray 3 (fun j => .int .i64 (zs.getD j 0)) (fun i hi => by
    simp at hi
    simp [hi])
  refine .inr ⟨w.heap.size, 0, zs.length, rfl, by simp, Nat.le_refl _, hm, fun i hi => ?_⟩
  rw [Nat.zero_add]
  exact r.cell (i := i) (by simpa using hi)
theorem cv {w : World} {base : Nat} {v : Value} {zs : List Int} (h : IsCode base w v zs) : Src8 w v zs := by
  obtain ⟨g, cap, rfl, ho⟩ := h
  exact own_src ho
theorem IsCode.below {w w' : World} {base : Nat} {v : Value} {zs : List Int} (h : IsCode base w v zs) (hb : Below w.heap.size w w') : IsCode base w' v zs := by
  obtain ⟨g, cap, rfl, ho⟩ := h
  exact ⟨g, cap, rfl, ho.below hb⟩
theorem bT {a b c : World} (h : Below a.heap.size a b) (k : Below b.heap.size b c) : Below a.heap.size a c := h.trans (k.mono h.size)
set_option maxRecDepth 100000 in
set_option maxHeartbeats 8000000 in
theorem alive_ok (w : World) (hs : Sh w) : Calls Tryd.prog 18 #[] w fun e w' => e = .returned (.bool true) ∧ Below w.heap.size w w' := by
  have HVal : Hid (∀ w, Sh w → Calls Tryd.prog 20 #[.int .i64 1, .int .i64 40] w fun e w' => ∃ O, e = .returned (.tuple #[.slice (some ⟨O, 0, none⟩) 4 4, .int .i64 0]) ∧ w.heap.size ≤ O ∧ w'.rowIs O 3 4 (fun j => .int .i64 (valsI 1 40 j)) ∧ Below w.heap.size w w') := Lib.hid fun w h => values_ok 1 40 w (by decide) (by decide) h (by decide)
  have HEnt : Hid (∀ w v, Sh w → Rd w v [2, 3] → Calls Tryd.prog 22 #[.int .i64 7, v] w fun e w' => e = .returned (.tuple #[.int .i64 19, .int .i64 0]) ∧ Below w.heap.size w w') := Lib.hid fun w v h hr => by
    have := entry_ok 7 v [2, 3] w (by decide) (by decide) h (by decide) (by decide) hr
    rwa [show entI 7 [2, 3] = 19 by decide, show entX 7 [2, 3] = 0 by decide] at this
  have HGet : Hid (∀ w, Sh w → Calls Tryd.prog 15 #[.int .i64 12] w fun e w' => ∃ E R, e = .returned (.tuple #[.agg #[.int .i64 12, .int .i64 0, .slice (some ⟨E, 0, none⟩) 121 121, .slice (some ⟨R, 0, none⟩) 121 121], .int .i64 0]) ∧ w'.rowIs E 3 (Nn 12) (fun j => .int .i64 (ordI 12 j)) ∧ w'.rowIs R 3 (Nn 12) (fun j => .int .i64 (rkI 12 j)) ∧ Below w.heap.size w w') := Lib.hid fun w h => (get_ok 12 w (by decide) (by decide) h).mono fun e w' ⟨v, h1, ⟨E, R, h2, h3, h4, h5, h6⟩, h7⟩ => ⟨E, R, by rw [h1, h2]; rfl, h5, h6, h7⟩
  have HC60 : Hid (∀ w E R, Sh w → w.rowIs E 3 (Nn 12) (fun j => .int .i64 (ordI 12 j)) → w.rowIs R 3 (Nn 12) (fun j => .int .i64 (rkI 12 j)) → Calls Tryd.prog 16 #[.agg #[.int .i64 12, .int .i64 0, .slice (some ⟨E, 0, none⟩) 121 121, .slice (some ⟨R, 0, none⟩) 121 121], .int .i64 60] w fun e w' => ∃ v, e = .returned (.tuple #[v, .int .i64 0]) ∧ IsCode w.heap.size w' v [1] ∧ Below w.heap.size w w') := Lib.hid fun w E R h he hr => by
    have := code_ok 12 E R 60 w (by decide) (by decide) h (by decide) he hr
    rw [cd_60] at this; exact this
  have HC59 : Hid (∀ w E R, Sh w → w.rowIs E 3 (Nn 12) (fun j => .int .i64 (ordI 12 j)) → w.rowIs R 3 (Nn 12) (fun j => .int .i64 (rkI 12 j)) → Calls Tryd.prog 16 #[.agg #[.int .i64 12, .int .i64 0, .slice (some ⟨E, 0, none⟩) 121 121, .slice (some ⟨R, 0, none⟩) 121 121], .int .i64 59] w fun e w' => ∃ v, e = .returned (.tuple #[v, .int .i64 0]) ∧ IsCode w.heap.size w' v [0, 1, 0] ∧ Below w.heap.size w w') := Lib.hid fun w E R h he hr => by
    have := code_ok 12 E R 59 w (by decide) (by decide) h (by decide) he hr
    rw [cd_59] at this; exact this
  have HI : Hid (∀ w v v', Rd w v [0, 0, 0, 0] → Rd w v' [0, 0, 0, 0] → Calls Tryd.prog 25 #[v, v'] w fun e w' => e = .returned (.bool true) ∧ Below w.heap.size w w') := Lib.hid fun w v v' h h' => by
    have := ints_ok v v' [0, 0, 0, 0] [0, 0, 0, 0] w (by decide) (by decide) h h'
    simpa using this
  have HR23 : Hid (∀ w : World, Rd (w.alloc (.cells #[.int .i64 2, .int .i64 3] 3)) (.slice (some ⟨w.heap.size, 0, none⟩) 2 2) [2, 3]) := Lib.hid fun w => rd_new w [2, 3] (by decide)
  have HR0 : Hid (∀ w : World, Rd (w.alloc (.cells #[.int .i64 0, .int .i64 0, .int .i64 0, .int .i64 0] 3)) (.slice (some ⟨w.heap.size, 0, none⟩) 4 4) [0, 0, 0, 0]) := Lib.hid fun w => rd_new w [0, 0, 0, 0] (by decide)
  have HV0 : Hid (∀ (w' : World) O, w'.rowIs O 3 4 (fun j => .int .i64 (valsI 1 40 j)) → Rd w' (.slice (some ⟨O, 0, none⟩) 4 4) [0, 0, 0, 0]) := Lib.hid fun w' O h => rd_row h rfl (by decide) (fun j hj => by
    have : j = 0 ∨ j = 1 ∨ j = 2 ∨ j = 3 := by omega
    rcases this with rfl | rfl | rfl | rfl <;> decide)
  have e1 : (strOfNums [1]).toList = [1] := by first | rfl | decide +kernel | simp [strOfNums]
  have e2 : (strOfNums [0, 1, 0]).toList = [0, 1, 0] := by first | rfl | decide +kernel | simp [strOfNums]
  have HS := Lib.hid hs
  clear hs
  go_enter Tryd.func18, Tryd.ntmps18
  go_wp2_with first
    | (go_at_call 20; ((with_reducible refine (HVal.out _ HS.out).mono ?_); rintro e w1 ⟨O, rfl, hO, hrO, hb1⟩))
    | (go_at_call 22; ((with_reducible refine (HEnt.out _ _ (HS.out.below (bT hb1 (al _ _))) (HR23.out w1)).mono ?_); rintro e w2 ⟨rfl, hb2⟩; have h2 := Lib.hid (bT (bT hb1 (al _ _)) hb2)))
    | (go_at_call 15; ((with_reducible refine (HGet.out _ (HS.out.below h2.out)).mono ?_); rintro e w3 ⟨E, R, rfl, hE, hR, hb3⟩; have h3 := Lib.hid (bT h2.out hb3)))
    | (go_at_call 16; ((with_reducible refine (HC60.out _ _ _ (HS.out.below (bT h3.out (al _ _))) (r_al hE) (r_al hR)).mono ?_); rintro e w4 ⟨c60, rfl, hc60, hb4⟩; have h4 := Lib.hid (bT (bT h3.out (al _ _)) hb4); have kb4 := (kb_new w3 12 0 E R 121).below hb4; obtain ⟨p0, p1, p2, p3, p4⟩ := kb4))
    | (go_at_call 16; ((with_reducible refine (HC59.out _ _ _ (HS.out.below h4.out) (r_bel (r_al hE) ⟨hb4⟩) (r_bel (r_al hR) ⟨hb4⟩)).mono ?_); rintro e w5 ⟨c59, rfl, hc59, hb5⟩; have h5 := Lib.hid (bT h4.out hb5); have hl5 := Lib.hid (bT (bT (bT (bT (al w1 (.cells #[.int .i64 2, .int .i64 3] 3)) hb2) (bT hb3 (al _ _))) hb4) hb5)))
    | (go_at_call 25; ((with_reducible refine (HI.out _ _ _ (Rd.below (Rd.below (HV0.out _ _ hrO) hl5.out) (al _ _)) (HR0.out w5)).mono ?_); rintro e w6 ⟨rfl, hb6⟩; have q1 := conv_src (cv (IsCode.below (IsCode.below hc60 hb5) (bT (al _ _) hb6))); have q2 := conv_src (cv (IsCode.below hc59 (bT (al _ _) hb6)))))
  go_ret
  exact ⟨rfl, bT (bT h5.out (al _ _)) hb6⟩
end Go.Proofs.YteklahfgplbmcaaDoor.Bk
