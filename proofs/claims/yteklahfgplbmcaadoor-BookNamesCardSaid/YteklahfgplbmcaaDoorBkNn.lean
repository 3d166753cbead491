/- The chapter's examples and errors: the walk. -/
import Derived.Test.YteklahfgplbmcaaDoorBkRr
import Derived.WalkKit
import Derived.Below
import Derived.RegionTactic
import Derived.Deep.QuietTactic
import Derived.BigQuiet
import Derived.ChangeAlike
import Derived.Deep.OwnRows
import Derived.Deep.Cut
import Derived.ProofKit
import Derived.OpenShut
import Derived.Laws.EntriesVeiled
import Derived.Lib.Hide
import Derived.Deep.RegionHeld3
namespace Go.Proofs.YteklahfgplbmcaaDoor.BkNn
open Go Go.ChangeShapes Go.WideShapes Go.ChangeAt Go.RowKit Go.Proofs.YteklahfgplbmcaaDoor.Bk Go.Proofs.YteklahfgplbmcaaDoor.Bi Go.Proofs.YteklahfgplbmcaaDoor.Cr Go.Proofs.YteklahfgplbmcaaDoor.Fx

theorem cd_61 : cd (pl 12) (rk 12 61) = [0, 1, 1] := by decide +kernel
theorem cd_40 : cd (pl 2) (rk 2 40) = [1, 0] := by decide +kernel
theorem rd_a : readF (ord 12) (pl 12) [0, 1, 1, 1] 0 = (61, 3, 0) := by decide +kernel
theorem rd_b : readF (ord 12) (pl 12) [] 0 = (0, 0, 5) := by decide +kernel
theorem rd_c : readF (ord 12) (pl 12) (List.replicate 10 0) 0 = (0, 0, 8) := by decide +kernel
theorem r8_row {w : World} {g n t : Nat} {zs : List Int} (h : w.rowIs g t n (fun j => .int .u8 (zs.getD j 0))) (hn : zs.length = n) (hm : n ≤ maxLen) : R8 w (.slice (some ⟨g, 0, none⟩) n n) zs := by
  subst hn
  exact .inr ⟨g, 0, zs.length, rfl, Nat.le_refl _, hm, h.lt, fun i hi => by rw [Nat.zero_add]; exact h.cell (i := i) hi⟩
theorem r8_a (w : World) : R8 (w.alloc (.cells #[.int .u8 0, .int .u8 1, .int .u8 1, .int .u8 1] 5)) (.slice (some ⟨w.heap.size, 0, none⟩) 4 4) [0, 1, 1, 1] :=
  r8_row (World.rowIs_alloc w _ 5 _ (fun i hi => by
    have h4 : i < 4 := hi
    have : i = 0 ∨ i = 1 ∨ i = 2 ∨ i = 3 := by omega
    rcases this with rfl | rfl | rfl | rfl <;> rfl)) rfl (by decide)
theorem r8_c (w : World) : R8 (w.alloc (.cells (madeCells #[.int .u8 0] 10) 5)) (.slice (some ⟨w.heap.size, 0, none⟩) 10 10) (List.replicate 10 0) := by
  have r := World.rowIs_made w (.int .u8 0) 10 5
  have e : (fun _ : Nat => Value.int .u8 0) = (fun j => Value.int .u8 ((List.replicate 10 (0 : Int)).getD j 0)) := by
    funext j
    simp only [List.getD_eq_getElem?_getD, List.getElem?_replicate]
    split <;> rfl
  rw [e] at r
  exact r8_row r (by simp) (by decide)
theorem kb_4 {w : World} {B E R n : Nat} {I p : Int} (x : Kb w B I p E R n) : w.cell? ⟨B, 0, none⟩ = some (.int .i64 I) ∧ w.cell? ⟨B, 1, none⟩ = some (.int .i64 p) ∧ w.cell? ⟨B, 2, none⟩ = some (.slice (some ⟨E, 0, none⟩) n n) ∧ w.cell? ⟨B, 3, none⟩ = some (.slice (some ⟨R, 0, none⟩) n n) := ⟨x.1, x.2.1, x.2.2.1, x.2.2.2.1⟩
set_option maxRecDepth 100000 in
set_option maxHeartbeats 8000000 in
theorem main' (w : World) (hs : Sh w) (HCN : Hid (∀ w, Sh w → Calls Tryd.prog 16 #[.agg #[.int .i64 1, .int .i64 0, .slice none 0 0, .slice none 0 0], .int .i64 0] w fun e w' => e = .returned (.tuple #[.slice none 0 0, .int .i64 8]) ∧ Below w.heap.size w w')) :
    Calls Tryd.prog 3 #[] w fun e w' => e = .returned (.bool true) ∧ True ∧ Below w.heap.size w w' := by
  have HA := Lib.hid (fun w (h : Sh w) => alive_ok w h)
  have HG12 : Hid (∀ w, Sh w → Calls Tryd.prog 15 #[.int .i64 12] w fun e w' => ∃ E R, e = .returned (.tuple #[.agg #[.int .i64 12, .int .i64 0, .slice (some ⟨E, 0, none⟩) 121 121, .slice (some ⟨R, 0, none⟩) 121 121], .int .i64 0]) ∧ w'.rowIs E 3 (Nn 12) (fun j => .int .i64 (ordI 12 j)) ∧ w'.rowIs R 3 (Nn 12) (fun j => .int .i64 (rkI 12 j)) ∧ Below w.heap.size w w') := Lib.hid fun w h => (get_ok 12 w (by decide) (by decide) h).mono fun e w' ⟨v, h1, ⟨E, R, h2, h3, h4, h5, h6⟩, h7⟩ => ⟨E, R, by rw [h1, h2]; rfl, h5, h6, h7⟩
  have HG2 : Hid (∀ w, Sh w → Calls Tryd.prog 15 #[.int .i64 2] w fun e w' => ∃ E R, e = .returned (.tuple #[.agg #[.int .i64 2, .int .i64 1, .slice (some ⟨E, 0, none⟩) 81 81, .slice (some ⟨R, 0, none⟩) 81 81], .int .i64 0]) ∧ w'.rowIs E 3 (Nn 2) (fun j => .int .i64 (ordI 2 j)) ∧ w'.rowIs R 3 (Nn 2) (fun j => .int .i64 (rkI 2 j)) ∧ Below w.heap.size w w') := Lib.hid fun w h => (get_ok 2 w (by decide) (by decide) h).mono fun e w' ⟨v, h1, ⟨E, R, h2, h3, h4, h5, h6⟩, h7⟩ => ⟨E, R, by rw [h1, h2]; rfl, h5, h6, h7⟩
  have HB13 := Lib.hid (fun w => get_bad 13 w (.inr (by decide)))
  have HC61 : Hid (∀ w E R, Sh w → w.rowIs E 3 (Nn 12) (fun j => .int .i64 (ordI 12 j)) → w.rowIs R 3 (Nn 12) (fun j => .int .i64 (rkI 12 j)) → Calls Tryd.prog 16 #[.agg #[.int .i64 12, .int .i64 0, .slice (some ⟨E, 0, none⟩) 121 121, .slice (some ⟨R, 0, none⟩) 121 121], .int .i64 61] w fun e w' => ∃ v, e = .returned (.tuple #[v, .int .i64 0]) ∧ IsCode w.heap.size w' v [0, 1, 1] ∧ Below w.heap.size w w') := Lib.hid fun w E R h he hr => by
    have := code_ok 12 E R 61 w (by decide) (by decide) h (by decide) he hr
    rw [cd_61] at this; exact this
  have HC40 : Hid (∀ w E R, Sh w → w.rowIs E 3 (Nn 2) (fun j => .int .i64 (ordI 2 j)) → w.rowIs R 3 (Nn 2) (fun j => .int .i64 (rkI 2 j)) → Calls Tryd.prog 16 #[.agg #[.int .i64 2, .int .i64 1, .slice (some ⟨E, 0, none⟩) 81 81, .slice (some ⟨R, 0, none⟩) 81 81], .int .i64 40] w fun e w' => ∃ v, e = .returned (.tuple #[v, .int .i64 0]) ∧ IsCode w.heap.size w' v [1, 0] ∧ Below w.heap.size w w') := Lib.hid fun w E R h he hr => by
    have := code_ok 2 E R 40 w (by decide) (by decide) h (by decide) he hr
    rw [cd_40] at this; exact this
  have HRa : Hid (∀ w E R v, Sh w → w.rowIs E 3 (Nn 12) (fun j => .int .i64 (ordI 12 j)) → w.rowIs R 3 (Nn 12) (fun j => .int .i64 (rkI 12 j)) → R8 w v [0, 1, 1, 1] → Calls Tryd.prog 17 #[.agg #[.int .i64 12, .int .i64 0, .slice (some ⟨E, 0, none⟩) 121 121, .slice (some ⟨R, 0, none⟩) 121 121], v, .int .i64 0] w fun e w' => e = .returned (.tuple #[.int .i64 61, .int .i64 3, .int .i64 0]) ∧ Below w.heap.size w w') := Lib.hid fun w E R v h he hr h8 => by
    have := read_ok 12 E R v _ 0 w (by decide) (by decide) h he hr h8 (by decide) (by decide)
    rw [rd_a] at this; exact this
  have HRb : Hid (∀ w E R, Sh w → w.rowIs E 3 (Nn 12) (fun j => .int .i64 (ordI 12 j)) → w.rowIs R 3 (Nn 12) (fun j => .int .i64 (rkI 12 j)) → Calls Tryd.prog 17 #[.agg #[.int .i64 12, .int .i64 0, .slice (some ⟨E, 0, none⟩) 121 121, .slice (some ⟨R, 0, none⟩) 121 121], .slice none 0 0, .int .i64 0] w fun e w' => e = .returned (.tuple #[.int .i64 0, .int .i64 0, .int .i64 5]) ∧ Below w.heap.size w w') := Lib.hid fun w E R h he hr => by
    have := read_ok 12 E R (.slice none 0 0) [] 0 w (by decide) (by decide) h he hr (.inl ⟨.inl rfl, rfl⟩) (by decide) (by decide)
    rw [rd_b] at this; exact this
  have HRc : Hid (∀ w E R v, Sh w → w.rowIs E 3 (Nn 12) (fun j => .int .i64 (ordI 12 j)) → w.rowIs R 3 (Nn 12) (fun j => .int .i64 (rkI 12 j)) → R8 w v (List.replicate 10 0) → Calls Tryd.prog 17 #[.agg #[.int .i64 12, .int .i64 0, .slice (some ⟨E, 0, none⟩) 121 121, .slice (some ⟨R, 0, none⟩) 121 121], v, .int .i64 0] w fun e w' => e = .returned (.tuple #[.int .i64 0, .int .i64 0, .int .i64 8]) ∧ Below w.heap.size w w') := Lib.hid fun w E R v h he hr h8 => by
    have := read_ok 12 E R v _ 0 w (by decide) (by decide) h he hr h8 (by decide) (by decide)
    rw [rd_c] at this; exact this
  have e1 : (strOfNums [0, 1, 1]).toList = [0, 1, 1] := by first | rfl | decide +kernel | simp [strOfNums]
  have e2 : (strOfNums [1, 0]).toList = [1, 0] := by first | rfl | decide +kernel | simp [strOfNums]
  have HS := Lib.hid hs
  clear hs
  go_enter Tryd.func3, Tryd.ntmps3
  go_upto_region 5 with first
    | (go_at_call 15; ((with_reducible refine (HG12.out _ HS.out).mono ?_); rintro e w1 ⟨E, R, rfl, hE, hR, hb1⟩; have K1 := Lib.hid (kb_new w1 12 0 E R 121); obtain ⟨p0, p1, p2, p3, p4⟩ := kb_new w1 12 0 E R 121; have h1 := Lib.hid (bT hb1 (al w1 (.cells #[.int .i64 12, .int .i64 0, .slice (some ⟨E, 0, none⟩) 121 121, .slice (some ⟨R, 0, none⟩) 121 121] 24))); have E1 := Lib.hid (r_al (o := .cells #[.int .i64 12, .int .i64 0, .slice (some ⟨E, 0, none⟩) 121 121, .slice (some ⟨R, 0, none⟩) 121 121] 24) hE); have R1 := Lib.hid (r_al (o := .cells #[.int .i64 12, .int .i64 0, .slice (some ⟨E, 0, none⟩) 121 121, .slice (some ⟨R, 0, none⟩) 121 121] 24) hR)))
    | (go_at_call 16; ((with_reducible refine (HC61.out _ _ _ (HS.out.below h1.out) E1.out R1.out).mono ?_); rintro e w2 ⟨c1, rfl, hc1, hb2⟩; have h2 := Lib.hid (bT h1.out hb2); have C2 := Lib.hid hc1; have b2 := Lib.hid hb2; obtain ⟨q0, q1, q2, q3, q4⟩ := K1.out.below hb2; have b2a := Lib.hid (bT hb2 (al w2 (.cells #[.int .u8 0, .int .u8 1, .int .u8 1, .int .u8 1] 5))); have h2a := Lib.hid (bT h1.out b2a.out)))
    | (go_at_call 17; ((with_reducible refine (HRa.out _ _ _ _ (HS.out.below h2a.out) (r_bel E1.out ⟨b2a.out⟩) (r_bel R1.out ⟨b2a.out⟩) (r8_a w2)).mono ?_); rintro e w3 ⟨rfl, hb3⟩; have b3 := Lib.hid (bT b2a.out hb3); have h3 := Lib.hid (bT h2a.out hb3); have d3 := Lib.hid (bT (al w2 (.cells #[.int .u8 0, .int .u8 1, .int .u8 1, .int .u8 1] 5)) hb3); obtain ⟨r0, r1, r2, r3, r4⟩ := K1.out.below b3.out))
    | (go_at_call 17; ((with_reducible refine (HRb.out _ _ _ (HS.out.below h3.out) (r_bel E1.out ⟨b3.out⟩) (r_bel R1.out ⟨b3.out⟩)).mono ?_); rintro e w4 ⟨rfl, hb4⟩; have b4 := Lib.hid (bT b3.out hb4); have h4 := Lib.hid (bT h3.out hb4); have d4 := Lib.hid (bT d3.out hb4)))
  have K4 := Lib.hid (K1.out.below b4.out)
  have E4 := Lib.hid (r_bel E1.out ⟨b4.out⟩)
  have R4 := Lib.hid (r_bel R1.out ⟨b4.out⟩)
  clear K1 E1 R1 h1 h2a b2a b2 b3 b4 hb1 hb2 hb3 hb4 p0 p1 p2 p3 p4 q0 q1 q2 q3 q4 r0 r1 r2 r3 r4 hc1
  generalize w1.heap.size = B at *
  have ba : Below w4.heap.size w4 ((w4.alloc (.cells (madeCells #[.int .u8 0] 10) 5)).drew) := ((Below.refl _ w4).alloc (Nat.le_refl _) _).drew
  have Kd := Lib.hid (K4.out.below (Below.refl _ w4).drew)
  have Kda := Lib.hid (K4.out.below ba)
  have r8 : R8 ((w4.alloc (.cells (madeCells #[.int .u8 0] 10) 5)).drew) (.slice (some ⟨w4.heap.size, 0, none⟩) 10 10) (List.replicate 10 0) := R8.below (r8_c w4) ((Below.refl _ _).drew)
  have ER := Lib.hid (⟨r_bel E4.out ⟨ba⟩, r_bel R4.out ⟨ba⟩, bT h4.out ba, bT d4.out ba⟩ : _ ∧ _ ∧ _ ∧ _)
  have R8' := Lib.hid r8
  clear r8 ba
  have hmk : ∀ w : World, (Instr.makeSlice 28 (.int .i64 10) (.int .i64 10)).run Tryd.prog w = .ok (.slice (some ⟨w.heap.size, 0, none⟩) 10 10) (w.alloc (.cells (madeCells #[.int .u8 0] 10) 5)) := fun w => run_make_row' 28 5 (.int .u8 0) 1 Tryd.underlying28 info5' rfl .i64 .i64 10 (by decide) (by decide) w
  go_region_held3 (fun w' => w'.cell? ⟨B, 0, none⟩ = some (.int .i64 12) ∧ w'.cell? ⟨B, 1, none⟩ = some (.int .i64 0) ∧ w'.cell? ⟨B, 2, none⟩ = some (.slice (some ⟨E, 0, none⟩) 121 121) ∧ w'.cell? ⟨B, 3, none⟩ = some (.slice (some ⟨R, 0, none⟩) 121 121))
    (first
      | with_reducible exact kb_4 Kd.out
      | with_reducible exact kb_4 Kda.out
      | with_reducible exact kb_4 K5.out)
    (first
      | (go_at_call 17; ((with_reducible refine (HRc.out _ _ _ _ (HS.out.below ER.out.2.2.1) ER.out.1 ER.out.2.1 R8'.out).mono ?_); rintro e w5 ⟨rfl, hb5⟩; have h5 := Lib.hid (bT ER.out.2.2.1 hb5); have d5 := Lib.hid (bT ER.out.2.2.2 hb5); have K5 := Lib.hid (Kda.out.below hb5))))
  clear hmk ER R8' Kd Kda K4 K5 E4 R4 HRa HRb HRc HC61 HG12
  go_wp2_with first
    | (go_at_call 15; ((with_reducible refine (HG2.out _ (HS.out.below h5.out)).mono ?_); rintro e w6 ⟨E', R', rfl, hE6, hR6, hb6⟩; obtain ⟨p0, p1, p2, p3, p4⟩ := kb_new w6 2 1 E' R' 81; have h6 := Lib.hid (bT (bT h5.out hb6) (al w6 (.cells #[.int .i64 2, .int .i64 1, .slice (some ⟨E', 0, none⟩) 81 81, .slice (some ⟨R', 0, none⟩) 81 81] 24))); have d6 := Lib.hid (bT (bT d5.out hb6) (al w6 (.cells #[.int .i64 2, .int .i64 1, .slice (some ⟨E', 0, none⟩) 81 81, .slice (some ⟨R', 0, none⟩) 81 81] 24)))))
    | (go_at_call 16; ((with_reducible refine (HC40.out _ _ _ (HS.out.below h6.out) (r_al hE6) (r_al hR6)).mono ?_); rintro e w7 ⟨c2, rfl, hc2, hb7⟩; have h7 := Lib.hid (bT h6.out hb7); have d7 := Lib.hid (bT d6.out hb7)))
    | (go_at_call 15; ((with_reducible refine (HB13.out w7).mono ?_); rintro e w8 ⟨rfl, hb8⟩; have h8 := Lib.hid (bT (bT h7.out hb8) (al w8 (.cells #[.int .i64 0, .int .i64 0, .slice none 0 0, .slice none 0 0] 24))); have d8 := Lib.hid (bT (bT d7.out hb8) (al w8 (.cells #[.int .i64 0, .int .i64 0, .slice none 0 0, .slice none 0 0] 24))); have f8 := Lib.hid (bT hb8 (al w8 (.cells #[.int .i64 0, .int .i64 0, .slice none 0 0, .slice none 0 0] 24)))))
    | (go_at_call 16; ((with_reducible refine (HCN.out _ (HS.out.below h8.out)).mono ?_); rintro e w9 ⟨rfl, hb9⟩; have h9 := Lib.hid (bT h8.out hb9); have f9 := Lib.hid (bT f8.out hb9); have q1 := conv_src (cv (IsCode.below C2.out (bT d8.out hb9)))))
    | (go_at_call 18; ((with_reducible refine (HA.out _ (HS.out.below h9.out)).mono ?_); rintro e w10 ⟨rfl, hb10⟩; have h10 := Lib.hid (bT h9.out hb10); have q2 := conv_src (cv (IsCode.below hc2 (bT f9.out hb10)))))
  go_ret
  exact ⟨rfl, trivial, h10.out⟩
theorem nil4 (w : World) : (w.alloc (.cells #[.int .i64 1, .int .i64 0, .slice none 0 0, .slice none 0 0] 24)).cell? ⟨w.heap.size, 0, none⟩ = some (.int .i64 1) ∧ (w.alloc (.cells #[.int .i64 1, .int .i64 0, .slice none 0 0, .slice none 0 0] 24)).cell? ⟨w.heap.size, 1, none⟩ = some (.int .i64 0) ∧ (w.alloc (.cells #[.int .i64 1, .int .i64 0, .slice none 0 0, .slice none 0 0] 24)).cell? ⟨w.heap.size, 2, none⟩ = some (.slice none 0 0) ∧ (w.alloc (.cells #[.int .i64 1, .int .i64 0, .slice none 0 0, .slice none 0 0] 24)).cell? ⟨w.heap.size, 3, none⟩ = some (.slice none 0 0) := by
  have r : (w.alloc (.cells #[.int .i64 1, .int .i64 0, .slice none 0 0, .slice none 0 0] 24)).rowIs w.heap.size 24 4 (fun i => #[.int .i64 1, .int .i64 0, .slice none 0 0, .slice none 0 0].getD i undef) := World.rowIs_alloc w _ 24 _ (fun i hi => by
    have h4 : i < 4 := hi
    have : i = 0 ∨ i = 1 ∨ i = 2 ∨ i = 3 := by omega
    rcases this with rfl | rfl | rfl | rfl <;> rfl)
  exact ⟨r.cell (i := 0) (by omega), r.cell (i := 1) (by omega), r.cell (i := 2) (by omega), r.cell (i := 3) (by omega)⟩
set_option maxRecDepth 100000 in
set_option maxHeartbeats 8000000 in
theorem code_no (w : World) (hs : Sh w) (HG : Hid (∀ w, Sh w → Calls Tryd.prog 49 #[.agg #[.int .i64 1, .int .i64 0, .slice none 0 0, .slice none 0 0]] w fun e w' => e = .returned (.bool false) ∧ Below w.heap.size w w')) : Calls Tryd.prog 16 #[.agg #[.int .i64 1, .int .i64 0, .slice none 0 0, .slice none 0 0], .int .i64 0] w fun e w' => e = .returned (.tuple #[.slice none 0 0, .int .i64 8]) ∧ Below w.heap.size w w' := by
  have HS := Lib.hid (hs.below (al w (.cells #[.int .i64 1, .int .i64 0, .slice none 0 0, .slice none 0 0] 24)))
  have HB := Lib.hid (al w (.cells #[.int .i64 1, .int .i64 0, .slice none 0 0, .slice none 0 0] 24))
  obtain ⟨k0, k1, k2, k3⟩ := nil4 w
  clear hs
  go_enter Tryd.func16, Tryd.ntmps16
  go_wp2_with first
    | (go_at_call 49; ((with_reducible refine (HG.out _ HS.out).mono ?_); rintro e w1 ⟨rfl, hb1⟩))
  go_ret2
  exact ⟨rfl, bT HB.out hb1⟩
end Go.Proofs.YteklahfgplbmcaaDoor.BkNn
