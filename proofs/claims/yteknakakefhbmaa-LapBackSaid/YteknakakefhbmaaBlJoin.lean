/- Windows put together of pieces. -/
import Derived.Test.YteknakakefhbmaaBlRep
import Derived.WalkKit
import Derived.Below
import Derived.RegionTactic
import Derived.Deep.QuietTactic
import Derived.BigQuiet
import Derived.ChangeAlike
import Derived.Deep.OwnRows
import Derived.Deep.RegionLaw
import Derived.ProofKit
import Derived.OpenShut
import Derived.ChangeSlices
import Derived.Lib.Hide
namespace Go.Proofs.Yteknakakefhbmaa.Bl
open Go Go.ChangeShapes Go.WideShapes Go.ChangeAt Go.RowKit Go.Proofs.Yteknakakefhbmaa.Fx Go.Proofs.Yteknakakefhbmaa.Rk

/-- A piece's numbers. -/
def pc (was shape p : Int) : List Int :=
  if p = 0 then mk 256 (hf was false) else if p = 1 then mk 32 (hf was true) else if p = 2 then List.replicate 112 full else if p = 3 then List.replicate 112 0
  else if p = 4 then mk 256 (fun j => hf shape false (255 - j)) else mk 32 (fun j => hf shape true (31 - j))
def acc (was shape : Int) (zs : List Int) : Nat → List Int
  | 0 => []
  | k + 1 => acc was shape zs k ++ pc was shape (zs.getD k 0)
theorem spl_app (a zs : List Int) (j : Nat) : spl a.length zs (fun j => a.getD j 0) j = (a ++ zs).getD j 0 := by
  unfold spl
  by_cases h1 : j < a.length
  · rw [if_neg (by omega)]; simp [List.getD_eq_getElem?_getD, List.getElem?_append_left h1]
  · by_cases h2 : j < a.length + zs.length
    · rw [if_pos (by omega)]; simp [List.getD_eq_getElem?_getD, List.getElem?_append_right (show a.length ≤ j by omega)]
    · rw [if_neg (by omega)]; simp [List.getD_eq_getElem?_getD, show a.length ≤ j by omega, show a.length + zs.length ≤ j by omega]
theorem rev_app (a : List Int) (n : Nat) (F : Nat → Int) (j : Nat) : rev a.length n (fun j => (a ++ mk n F).getD j 0) j = (a ++ mk n (fun j => F (n - 1 - j))).getD j 0 := by
  unfold rev
  by_cases h1 : j < a.length
  · rw [if_neg (by omega)]; simp [List.getD_eq_getElem?_getD, List.getElem?_append_left h1]
  · by_cases h2 : j < a.length + n
    · rw [if_pos (by omega)]
      simp only [List.getD_eq_getElem?_getD]
      rw [List.getElem?_append_right (by omega), List.getElem?_append_right (by omega)]
      simp only [mk]
      simp [show j - a.length < n by omega, show 2 * a.length + n - 1 - j - a.length < n by omega]
      congr 1; omega
    · rw [if_neg (by omega)]; simp [List.getD_eq_getElem?_getD, show a.length + n ≤ j by omega, mk]
theorem zeroE (w : World) : (zeroValue 3).run Try.prog w = .ok (.int .i64 0) w := by kernel_rfl
theorem own_rd {w : World} {g n : Nat} {F : Nat → Int} (r : w.rowIs g 3 n (fun j => .int .i64 (F j))) : RdA w (some ⟨g, 0, none⟩) (mk n F) := fun i hi => by
  rw [mk_len] at hi
  exact ⟨g, 0, rfl, r.lt, by rw [Nat.zero_add, r.cell hi, mk_at hi]⟩
theorem rep_rd {w : World} {g n : Nat} {x : Int} (r : w.rowIs g 3 n (fun _ => .int .i64 x)) : RdA w (some ⟨g, 0, none⟩) (List.replicate n x) := fun i hi => by
  rw [List.length_replicate] at hi
  exact ⟨g, 0, rfl, r.lt, by rw [Nat.zero_add, r.cell hi]; simp [hi]⟩
theorem new_cell (w : World) (v : Value) (t : TypeId) : (w.alloc (.cells #[v] t)).cell? ⟨w.heap.size, 0, none⟩ = some v := by
  refine (World.rowIs_alloc w #[v] t (fun _ => v) (fun i hi => ?_)).cell (i := 0) (by simp)
  have h0 : i = 0 := by simp at hi; omega
  subst h0
  rfl
theorem bel_up {b : Nat} {a c d : World} (h : Below b a c) {b2 : Nat} (k : Below b2 c d) (h2 : b ≤ b2) : Below b a d := h.trans (k.mono h2)

set_option maxRecDepth 100000 in
set_option maxHeartbeats 8000000 in
theorem joined_ok (was shape : Int) (A : Option Addr) (cap : Nat) (zs : List Int) (w : World) (hwas : was = 0 ∨ was = 1) (hshape : shape = 0 ∨ shape = 1) (hl : zs.length ≤ 8) (rd : RdA w A zs) (hp : ∀ k, k < zs.length → 0 ≤ zs.getD k 0 ∧ zs.getD k 0 ≤ 5)
    (hA : ∀ k, k ≤ zs.length → (acc was shape zs k).length ≤ 512) :
    Calls Try.prog 47 #[.int .u8 was, .int .u8 shape, .slice A zs.length cap] w fun e w' => ∃ g, e = .returned (.slice (some ⟨g, 0, none⟩) (acc was shape zs zs.length).length 512) ∧ w.heap.size ≤ g ∧ w'.rowIs g 3 512 (fun j => .int .i64 ((acc was shape zs zs.length).getD j 0)) ∧ Below w.heap.size w w' := by
  obtain ⟨i0, hi, hz0, hz1, hz2⟩ := info_parts info3
  have R0 : Hid ((w.alloc (.cells (madeCells #[.int .i64 0] 512) 3)).rowIs w.heap.size 3 512 (fun j => .int .i64 ((acc was shape zs 0).getD j 0))) := Lib.hid ((World.rowIs_made w (.int .i64 0) 512 3).congr fun j _ => by simp [acc])
  have B0 : Hid (Below w.heap.size w (w.alloc (.cells (madeCells #[.int .i64 0] 512) 3))) := Lib.hid ((Below.refl _ _).alloc (Nat.le_refl _) _)
  have Hwas := Lib.hid hwas
  have Hshape := Lib.hid hshape
  have HP := Lib.hid hp
  have HA := Lib.hid hA
  have RD := Lib.hid rd
  clear hwas hshape hp hA rd
  go_enter Try.func47, Try.ntmps47
  go_wp2_with (refine wpList_make_room _ rfl _ _ 22 rfl 3 i0 (.int .i64 0) Try.underlying22 hi hz0 hz1 rfl .i64 .i64 512 rfl rfl (by rw [hz2]; omega) (by omega) ?_)
  go_loopw [7, 14] (fun o i wr => ∃ k : Nat, k ≤ zs.length ∧ i = .int .i64 k ∧ o = .slice (some ⟨w.heap.size, 0, none⟩) (acc was shape zs k).length 512 ∧ Hid (wr.rowIs w.heap.size 3 512 (fun j => .int .i64 ((acc was shape zs k).getD j 0))) ∧ Hid (Below w.heap.size w wr)) (fun _ i _ => zs.length - (intOf i).toNat)
  case atStart => exact ⟨0, by omega, rfl, rfl, R0, B0⟩
  case round =>
    obtain ⟨k, hk, rfl, rfl, hR, hB⟩ := hrel
    clear R0 B0
    by_cases hlt : k < zs.length
    · obtain ⟨b, off, rfl, hbl, c⟩ := RD.out.below hB.out k hlt
      obtain ⟨hp0, hp5⟩ := HP.out k hlt
      have hA1 := HA.out (k + 1) hlt
      have hps : acc was shape zs (k + 1) = acc was shape zs k ++ pc was shape (zs.getD k 0) := rfl
      rw [hps] at hA1
      obtain hp | hp | hp | hp | hp | hp : zs.getD k 0 = 0 ∨ zs.getD k 0 = 1 ∨ zs.getD k 0 = 2 ∨ zs.getD k 0 = 3 ∨ zs.getD k 0 = 4 ∨ zs.getD k 0 = 5 := by omega
      · rw [hp] at hA1 hps c
        have hpl : (pc was shape 0).length = 256 := by simp [pc, mk_len]
        have HPS := Lib.hid hps
        rw [List.length_append, hpl] at hA1
        clear hp hp0 hp5 hps
        generalize hK : (acc was shape zs k).length = K at *
        go_wp2_with first
          | (go_at_call 64; ((with_reducible refine (bhalf was false _ Hwas.out).mono ?_); rintro e w1 ⟨g1, rfl, hg1, hr1, hb1⟩; have rd1 := Lib.hid (own_rd hr1); have R1 := Lib.hid (hR.out.of_block (hb1.block _ hR.out.lt)); have B1 := Lib.hid (bel_up hB.out hb1 hB.out.size); clear hr1 hb1))
          | (at_builtin; refine wpList_app_row _ rfl (.tmp 22) (.tmp 26) 22 rfl 3 i0 Try.underlying22 hi hz1 w.heap.size K 512 256 (fun j => (acc was shape zs k).getD j 0) (some ⟨g1, 0, none⟩) (mk 256 (hf was false)) rfl R1.out 256 (mk_len _ _) rfl rd1.out (by decide) hA1 ?_; intro w2 hr2 hb2; have R2 : Hid (w2.rowIs w.heap.size 3 512 (fun j => .int .i64 ((acc was shape zs k ++ mk 256 (hf was false)).getD j 0))) := Lib.hid (hr2.congr fun j _ => by rw [← hK, spl_app]); have B2 := Lib.hid (B1.out.trans hb2); clear hr2 hb2)
        exact ⟨⟨k + 1, by omega, by go_num, by rw [HPS.out, List.length_append, hpl, hK], Lib.hid (by rw [HPS.out]; exact R2.out), B2⟩, by simp [intOf]; omega⟩
      · rw [hp] at hA1 hps c
        have hpl : (pc was shape 1).length = 32 := by simp [pc, mk_len]
        have HPS := Lib.hid hps
        rw [List.length_append, hpl] at hA1
        clear hp hp0 hp5 hps
        generalize hK : (acc was shape zs k).length = K at *
        go_wp2_with first
          | (go_at_call 64; ((with_reducible refine (bhalf was true _ Hwas.out).mono ?_); rintro e w1 ⟨g1, rfl, hg1, hr1, hb1⟩; have rd1 := Lib.hid (own_rd hr1); have R1 := Lib.hid (hR.out.of_block (hb1.block _ hR.out.lt)); have B1 := Lib.hid (bel_up hB.out hb1 hB.out.size); clear hr1 hb1))
          | (at_builtin; refine wpList_app_row _ rfl (.tmp 22) (.tmp 26) 22 rfl 3 i0 Try.underlying22 hi hz1 w.heap.size K 512 32 (fun j => (acc was shape zs k).getD j 0) (some ⟨g1, 0, none⟩) (mk 32 (hf was true)) rfl R1.out 32 (mk_len _ _) rfl rd1.out (by decide) hA1 ?_; intro w2 hr2 hb2; have R2 : Hid (w2.rowIs w.heap.size 3 512 (fun j => .int .i64 ((acc was shape zs k ++ mk 32 (hf was true)).getD j 0))) := Lib.hid (hr2.congr fun j _ => by rw [← hK, spl_app]); have B2 := Lib.hid (B1.out.trans hb2); clear hr2 hb2)
        exact ⟨⟨k + 1, by omega, by go_num, by rw [HPS.out, List.length_append, hpl, hK], Lib.hid (by rw [HPS.out]; exact R2.out), B2⟩, by simp [intOf]; omega⟩
      · rw [hp] at hA1 hps c
        have hpl : (pc was shape 2).length = 112 := by simp [pc]
        have HPS := Lib.hid hps
        rw [List.length_append, hpl] at hA1
        clear hp hp0 hp5 hps
        generalize hK : (acc was shape zs k).length = K at *
        go_wp2_with first
          | (go_at_call 66; ((with_reducible refine (repeat_ok wr.heap.size _ (by simp) (new_cell _ _ _)).mono ?_); rintro e w1 ⟨g1, rfl, hg1, hr1, hb1⟩; have rd1 : Hid (RdA w1 (some ⟨g1, 0, none⟩) (List.replicate 112 full)) := Lib.hid (rep_rd hr1); have hba := Lib.hid (bel_up (hB.out.alloc hB.out.size (.cells #[.int .i64 4194304] 3)) hb1 (Nat.le_trans hB.out.size (by simp))); have R1 := Lib.hid ((hR.out.alloc (.cells #[.int .i64 4194304] 3)).of_block (hb1.block _ (hR.out.alloc _).lt)); have B1 := hba; clear hr1 hb1))
          | (at_builtin; refine wpList_app_row _ rfl (.tmp 49) (.tmp 51) 22 rfl 3 i0 Try.underlying22 hi hz1 w.heap.size K 512 112 (fun j => (acc was shape zs k).getD j 0) (some ⟨g1, 0, none⟩) (List.replicate 112 full) rfl R1.out 112 (List.length_replicate ..) rfl rd1.out (by decide) hA1 ?_; intro w2 hr2 hb2; have R2 : Hid (w2.rowIs w.heap.size 3 512 (fun j => .int .i64 ((acc was shape zs k ++ List.replicate 112 full).getD j 0))) := Lib.hid (hr2.congr fun j _ => by rw [← hK, spl_app]); have B2 := Lib.hid (B1.out.trans hb2); clear hr2 hb2)
        exact ⟨⟨k + 1, by omega, by go_num, by rw [HPS.out, List.length_append, hpl, hK], Lib.hid (by rw [HPS.out]; exact R2.out), B2⟩, by simp [intOf]; omega⟩
      · rw [hp] at hA1 hps c
        have hpl : (pc was shape 3).length = 112 := by simp [pc]
        have HPS := Lib.hid hps
        rw [List.length_append, hpl] at hA1
        clear hp hp0 hp5 hps
        generalize hK : (acc was shape zs k).length = K at *
        go_wp2_with first
          | (at_builtin; refine wpList_app_zeros _ rfl (.tmp 55) _ 22 3 rfl 3 i0 .i64 Try.underlying22 Try.underlying3 hi hz1 zeroE hz2 w.heap.size K 512 112 (fun j => (acc was shape zs k).getD j 0) .i64 rfl hR.out rfl (by decide) (by decide) hA1 ?_; intro w2 hr2 hb2; have R2 : Hid (w2.rowIs w.heap.size 3 512 (fun j => .int .i64 ((acc was shape zs k ++ List.replicate 112 0).getD j 0))) := Lib.hid (hr2.congr fun j _ => by rw [← hK, spl_app]); have B2 := Lib.hid (hB.out.trans hb2); clear hr2 hb2)
        exact ⟨⟨k + 1, by omega, by go_num, by rw [HPS.out, List.length_append, hpl, hK], Lib.hid (by rw [HPS.out]; exact R2.out), B2⟩, by simp [intOf]; omega⟩
      · rw [hp] at hA1 hps c
        have hpl : (pc was shape 4).length = 256 := by simp [pc, mk_len]
        have HPS := Lib.hid hps
        rw [List.length_append, hpl] at hA1
        clear hp hp0 hp5 hps
        generalize hK : (acc was shape zs k).length = K at *
        go_wp2_with first
          | (go_at_call 64; ((with_reducible refine (bhalf shape false _ Hshape.out).mono ?_); rintro e w1 ⟨g1, rfl, hg1, hr1, hb1⟩; have rd1 := Lib.hid (own_rd hr1); have R1 := Lib.hid (hR.out.of_block (hb1.block _ hR.out.lt)); have B1 := Lib.hid (bel_up hB.out hb1 hB.out.size); clear hr1 hb1))
          | (at_builtin; refine wpList_app_row _ rfl (.tmp 33) (.tmp 37) 22 rfl 3 i0 Try.underlying22 hi hz1 w.heap.size K 512 256 (fun j => (acc was shape zs k).getD j 0) (some ⟨g1, 0, none⟩) (mk 256 (hf shape false)) rfl R1.out 256 (mk_len _ _) rfl rd1.out (by decide) hA1 ?_; intro w2 hr2 hb2; have R2 : Hid (w2.rowIs w.heap.size 3 512 (fun j => .int .i64 ((acc was shape zs k ++ mk 256 (hf shape false)).getD j 0))) := Lib.hid (hr2.congr fun j _ => by rw [← hK, spl_app]); have B2 := Lib.hid (B1.out.trans hb2); clear hr2 hb2)
          | (go_at_call 65; ((with_reducible refine (reverse_ok w.heap.size K 256 256 512 _ _ (by decide) (Nat.le_refl _) hA1 (by decide) R2.out).mono ?_); rintro e w3 ⟨rfl, hr3, hb3⟩; have R3 : Hid (w3.rowIs w.heap.size 3 512 (fun j => .int .i64 ((acc was shape zs k ++ mk 256 (fun j => hf shape false (256 - 1 - j))).getD j 0))) := Lib.hid (hr3.congr fun j _ => by rw [← hK, rev_app]); have B3 := Lib.hid (B2.out.trans hb3); clear hr3 hb3))
        exact ⟨⟨k + 1, by omega, by go_num, by rw [HPS.out, List.length_append, hpl, hK], Lib.hid (by rw [HPS.out]; exact R3.out), B3⟩, by simp [intOf]; omega⟩
      · rw [hp] at hA1 hps c
        have hpl : (pc was shape 5).length = 32 := by simp [pc, mk_len]
        have HPS := Lib.hid hps
        rw [List.length_append, hpl] at hA1
        clear hp hp0 hp5 hps
        generalize hK : (acc was shape zs k).length = K at *
        go_wp2_with first
          | (go_at_call 64; ((with_reducible refine (bhalf shape true _ Hshape.out).mono ?_); rintro e w1 ⟨g1, rfl, hg1, hr1, hb1⟩; have rd1 := Lib.hid (own_rd hr1); have R1 := Lib.hid (hR.out.of_block (hb1.block _ hR.out.lt)); have B1 := Lib.hid (bel_up hB.out hb1 hB.out.size); clear hr1 hb1))
          | (at_builtin; refine wpList_app_row _ rfl (.tmp 33) (.tmp 37) 22 rfl 3 i0 Try.underlying22 hi hz1 w.heap.size K 512 32 (fun j => (acc was shape zs k).getD j 0) (some ⟨g1, 0, none⟩) (mk 32 (hf shape true)) rfl R1.out 32 (mk_len _ _) rfl rd1.out (by decide) hA1 ?_; intro w2 hr2 hb2; have R2 : Hid (w2.rowIs w.heap.size 3 512 (fun j => .int .i64 ((acc was shape zs k ++ mk 32 (hf shape true)).getD j 0))) := Lib.hid (hr2.congr fun j _ => by rw [← hK, spl_app]); have B2 := Lib.hid (B1.out.trans hb2); clear hr2 hb2)
          | (go_at_call 65; ((with_reducible refine (reverse_ok w.heap.size K 32 32 512 _ _ (by decide) (Nat.le_refl _) hA1 (by decide) R2.out).mono ?_); rintro e w3 ⟨rfl, hr3, hb3⟩; have R3 : Hid (w3.rowIs w.heap.size 3 512 (fun j => .int .i64 ((acc was shape zs k ++ mk 32 (fun j => hf shape true (32 - 1 - j))).getD j 0))) := Lib.hid (hr3.congr fun j _ => by rw [← hK, rev_app]); have B3 := Lib.hid (B2.out.trans hb3); clear hr3 hb3))
        exact ⟨⟨k + 1, by omega, by go_num, by rw [HPS.out, List.length_append, hpl, hK], Lib.hid (by rw [HPS.out]; exact R3.out), B3⟩, by simp [intOf]; omega⟩
    · obtain rfl : k = zs.length := by omega
      have R5 := hR.out
      have B5 := hB.out
      clear hR hB HA
      go_wp2
      go_ret
      exact ⟨w.heap.size, rfl, Nat.le_refl _, R5, B5⟩
end Go.Proofs.Yteknakakefhbmaa.Bl
