/- Texts of one claim, one behind the other: QnTl, QnTq, QnLn, QnGt, QnOp, QnMt, QnAl, BdOf, QuantBackK, QnCo. -/
import Derived.Test.YtanjcbnkkhbkkaaDoorMrg0
import Derived.Shelf.Abstract
import Derived.Shelf.AbstractIn
import Derived.Shelf.RegionOpen
import Derived.Sort.QuietIn
import Derived.WalkKit
import Derived.OwnWalkIn
import Derived.TacticsInMore
import Derived.LoopNIn
import Derived.LoopIn
import Derived.Below
import Derived.ProofKit
import Derived.OpenShut
import Derived.Deep.OwnRows
import Derived.Lib.Hide
import Derived.RegionTactic
import Derived.Test.YtanjcbnkkhbkkaaDoorEvOpen
import Derived.Deep.Matrix
import Derived.Test.YtanjcbnkkhbkkaaDoorEvLaid
import Derived.Test.YtanjcbnkkhbkkaaDoorEvLaw
import Derived.Deep.QuietTactic
import Derived.BigQuiet
set_option linter.unusedVariables false
/- Lines turned at their steps: what is answered to what may be. -/
namespace Go.Proofs.YtanjcbnkkhbkkaaDoor.Qn
open Go Go.ChangeShapes Go.WideShapes Go.ChangeAt Go.RowKit Go.Shelf Go.Proofs.YtanjcbnkkhbkkaaDoor.If Go.Proofs.YtanjcbnkkhbkkaaDoor.Rg Go.Proofs.YtanjcbnkkhbkkaaDoor.Bd

attribute [local go_sem] Oper.semAt_some
theorem cell_two {w : World} {b : Nat} {t : TypeId} {x y : Value} (h : w.heap[b]? = some (.cells #[x, y] t (0, 0))) : w.cell? ⟨b, 0, none⟩ = some x ∧ w.cell? ⟨b, 1, none⟩ = some y := by
  simp [World.cell?, h]
theorem cell_same' {A B : World} {g o : Nat} {v : Value} (h : A.cell? ⟨g, o, none⟩ = some v) (hs : ∀ ob, A.heap[g]? = some ob → B.heap[g]? = some ob) : B.cell? ⟨g, o, none⟩ = some v := by
  have hl : g < A.heap.size := World.block_lt_of_cell? A _ h
  have e : A.heap[g]? = some A.heap[g] := Array.getElem?_eq_getElem hl
  have e2 := hs _ e
  rw [← h]
  unfold World.cell?
  rw [e, e2]
set_option maxRecDepth 100000 in
set_option maxHeartbeats 8000000 in
theorem turned_17 (r s h m : Int) (ga : Option Addr) (gc : Nat) (gz : List Int) (O P A : Option Addr) (oc pc lc : Nat) (B S : List (List Int)) (lz : List Int) (most : Int) (w : World) (r0 : 0 ≤ r) (r1 : r ≤ 11) (hck : chk r s h m gz = 0) (hgl : gz.length ≤ 100000) (hB : B.length ≤ 1000) (hS : S.length ≤ 1000) (hBr : ∀ i, i < B.length → (B.getD i []).length ≤ maxLen) (hSr : ∀ i, i < S.length → (S.getD i []).length ≤ maxLen) (hg : RdA w ga gz) (rB : RdR w O B) (rS : RdR w P S) (rl : RdA w A lz) (hl : lz.length = 256) (hq : QE r s h m gz B S 0) (hm0 : 0 ≤ most) (hm1 : most ≤ 1099511627776) (hin : ∀ j, j < 256 → -most ≤ lz.getD j 0 ∧ lz.getD j 0 ≤ most) (f ef : Int → Int → Int) (hqs : Fx.Qs w) (hfn : ∀ (x st : Int) (W : World), Fx.Qs W → Calls Tryd.prog 17 #[.int .i64 x, .int .i64 st] W fun e w' => e = .returned (.tuple #[.int .i64 (f x st), .int .i64 (ef x st)]) ∧ Fx.Qs w' ∧ Below W.heap.size W w') :
    Calls Tryd.prog 53 #[.int .i64 r, .agg #[.int .u8 s, .int .u8 h, .int .i64 m, .slice ga gz.length gc], .slice O B.length oc, .slice P S.length pc, .slice A lz.length lc, .int .i64 most, (.func (.func 17) #[] #[])] w fun e w' => ∃ g, e = .returned (.tuple #[.slice (some ⟨g, 0, none⟩) 256 256, .int .i64 0]) ∧ w'.rowIs g 3 256 (fun j => .int .i64 (QV r s m gz B S lz f j)) ∧ w.heap.size ≤ g ∧ Below w.heap.size w w' := by
  have HQE := Lib.hid (qe_zero hq)
  have HRB := Lib.hid rB
  have HRS := Lib.hid rS
  have HBR := Lib.hid hBr
  have HSR := Lib.hid hSr
  have HQ := Lib.hid (fun W (hW : Below w.heap.size w W) => qcheck_ok r s h m ga gc gz O P oc pc B S W hgl hB hS hBr hSr (hg.below hW) (rB.below hW) (rS.below hW) 0 hq)
  have HP := Lib.hid (fun W (hW : Below w.heap.size w W) => places_ok r s h m ga gc gz W r0 r1 hck hgl (hg.below hW))
  have RL := Lib.hid rl
  have HL := Lib.hid hl
  have HCK := Lib.hid hck
  have RG := Lib.hid hg
  have HI := Lib.hid hin
  have hmk : ∀ w : World, (Instr.makeSlice 39 (.int .i64 256) (.int .i64 256)).run Tryd.prog w = .ok (.slice (some ⟨w.heap.size, 0, none⟩) 256 256) (w.alloc (.cells (madeCells #[.int .i64 0] 256) 3)) := fun w => run_make_row' 39 3 (.int .i64 0) 8 Tryd.underlying39 info3' rfl .i64 .i64 256 (by decide) (by decide) w
  rw [hl]
  clear hg rB rS hq hBr hSr rl hl hin hck
  refine (callsIn_wide (n := 5)).1 ?_
  refine callsIn_of_wp_marks Tryd.func53 rfl trivial ?_ rfl
  simp only [Tryd.ntmps53, List.size_toArray, List.length_cons, List.length_nil, Nat.reduceAdd, Nat.reduceSub, Array.replicate_succ, Array.replicate_zero, List.push_toArray, List.append_toArray, List.nil_append, List.cons_append]
  gi_wp2_with first
    | (refine ⟨trivial, ?_⟩; gi_at_call 73; refine (callsIn_wide.2 (HQ.out _ (al5 w _ _ _ _ _))).mono ?_; rintro e w1 ⟨rfl, hb1⟩; have B1 := Lib.hid (belowT (al5 w _ _ _ _ _) hb1); have c11 : w1.cell? ⟨w.heap.size + 3, 0, none⟩ = some (.slice A 256 lc) := (hb1.cell (p := ⟨w.heap.size + 3, 0, none⟩) (by simp)).trans (cell_box (w5_3 w _ _ _ _ _)); have b8 := Lib.hid ((hb1.block w.heap.size (by simp <;> omega)).trans (w5_0 w _ _ _ _ _)); have b9 := Lib.hid ((hb1.block (w.heap.size + 1) (by simp <;> omega)).trans (w5_1 w _ _ _ _ _)); have b10 := Lib.hid ((hb1.block (w.heap.size + 2) (by simp <;> omega)).trans (w5_2 w _ _ _ _ _)); have b11 := Lib.hid ((hb1.block (w.heap.size + 3) (by simp <;> omega)).trans (w5_3 w _ _ _ _ _)); have b13 := Lib.hid ((hb1.block (w.heap.size + 4) (by simp <;> omega)).trans (w5_4 w _ _ _ _ _)); have z1 : w.heap.size + 5 ≤ w1.heap.size := (by have := hb1.size; simp at this; omega); clear hb1)
  gi_loopw [35] (fun q wr => ∃ k : Nat, k ≤ 256 ∧ q = .int .i64 k ∧ wr = w1) (fun q _ => 256 - (intOf q).toNat)
  case atStart => exact ⟨0, by omega, rfl, rfl⟩
  case round =>
    obtain ⟨k, hk, rfl, rfl⟩ := hrel
    by_cases hlt : k < 256
    · obtain ⟨b, off, rfl, lb, c0⟩ := (RL.out.below B1.out) k (by rw [HL.out]; exact hlt)
      obtain ⟨t0, t1⟩ := HI.out k hlt
      have t2 : ¬ lz.getD k 0 < -most := by omega
      have t3 : ¬ most < lz.getD k 0 := by omega
      generalize lz.getD k 0 = X at *
      gi_wp2
      go_roundw
      case rel => exact ⟨k + 1, by omega, by go_num, trivial⟩
      case measure => simp [intOf]; omega
    · have e : k = 256 := by omega
      subst e
      have B4 : Below wr.heap.size wr ((wr.alloc (.cells (madeCells #[.int .i64 0] 256) 3)).alloc (.cells #[.slice (some ⟨wr.heap.size, 0, none⟩) 256 256] 39)) := ((Below.refl _ wr).alloc (Nat.le_refl _) _).alloc (by simp) _
      obtain ⟨i0, i1, i2, i3⟩ := cell4 ((B4.block _ (by omega)).trans b8.out)
      have B3 := Lib.hid ((B1.out.alloc B1.out.size (.cells (madeCells #[.int .i64 0] 256) 3)).alloc (by simp; omega) (.cells #[.slice (some ⟨wr.heap.size, 0, none⟩) 256 256] 39))
      gi_wp2_with first
        | (refine ⟨trivial, ?_⟩; gi_at_call 74; refine (callsIn_wide.2 (HP.out _ B3.out)).mono ?_; rintro e w2 ⟨b5, b7, g, cap, rfl, hp2, hb2⟩)
      clear c11 i0 i1 i2 i3 hk hlt
      have sz : ((wr.alloc (.cells (madeCells #[.int .i64 0] 256) 3)).alloc (.cells #[.slice (some ⟨wr.heap.size, 0, none⟩) 256 256] 39)).heap.size = wr.heap.size + 2 := by simp
      rw [sz] at hp2 hb2
      obtain ⟨w0, hw0⟩ : ∃ x, wr.heap.size + 2 = x := ⟨_, rfl⟩
      rw [show wr.heap.size + 1 + 1 = w0 by omega]
      rw [hw0] at hp2 hb2
      have lo := hp2.lo
      have lt0 := (Array.getElem?_eq_some_iff.1 hp2.info).1
      have lt5 := hp2.offs.lt
      have lt7 := hp2.wins.lt
      have ltg := hp2.row.lt
      have r0w : World.rowIs w2 wr.heap.size 3 256 (fun j => .int .i64 (if j < 0 then QV r s m gz B S lz f j else 0)) := ((World.rowIs_made wr (.int .i64 0) 256 3).of_block ((hb2.block _ (by omega)).trans (Below.heap_alloc _ _ _ (by simp)))).congr fun j _ => rfl
      have B2 : Below w.heap.size w w2 := belowT B3.out (hb2.mono (by omega))
      have HU : ∀ k, Uq w0 b5 b7 g ga k → k < w2.heap.size := by
        intro k q
        rcases q with q | q | q | q | ⟨x, e, rfl⟩
        · omega
        · omega
        · omega
        · omega
        · obtain ⟨b, off, e2, lb, _⟩ := RG.out 0 (gz_pos HCK.out)
          rw [e] at e2; cases e2
          have := B2.size; simp only; omega
      have HU2 : ∀ k, Uq w0 b5 b7 g ga k → k ≠ wr.heap.size := by
        intro k q
        rcases q with q | q | q | q | ⟨x, e, rfl⟩
        · omega
        · omega
        · omega
        · omega
        · obtain ⟨b, off, e2, lb, _⟩ := RG.out 0 (gz_pos HCK.out)
          rw [e] at e2; cases e2
          have := B1.out.size; simp only; omega
      refine range_memA rfl (by decide) (gf := 84) (lb := #[.pointer (some ⟨b7, 0, none⟩), .pointer (some ⟨w0, 0, none⟩), .pointer (some ⟨b5, 0, none⟩)]) rfl trivial (enters_of Tryd.func84 (by kernel_rfl) rfl)
        encQ (HxQ r s gz) (fun _ => False) (Uq w0 b5 b7 g ga) 256 (fun k q => q.elim) HU (fun _ => rfl)
        (fun l J W hl hW hlt hJ hY h0 => places_in 4 (by decide) l w0 b5 b7 g cap r s h m ga gc gz W r0 r1 (chk_top HCK.out) hgl (hp2.below (hW.below (Nat.le_refl _) (fun _ h => h.elim))) ((RG.out.below B2).below (hW.below (Nat.le_refl _) (fun _ h => h.elim))) J hlt hJ hY h0)
        (fun k W => W.rowIs wr.heap.size 3 256 (fun j => .int .i64 (if j < k then QV r s m gz B S lz f j else 0)) ∧ Part (fun j => j = wr.heap.size) w2 W)
        (fun k X Y' h hp => ?hI) ⟨r0w, Part.refl _ _⟩ (fun k x X Y' hs hp h => h) (fun x => .cells #[.int .i64 x.2.1, .int .i64 x.2.2] 93 (0, 0))
        (fun x b => { tmps := #[Value.int IntKind.i64 r, Value.agg #[Value.int IntKind.u8 s, Value.int IntKind.u8 h, Value.int IntKind.i64 m, Value.slice ga gz.length gc], Value.slice O B.length oc, Value.slice P S.length pc, Value.slice A 256 lc, Value.int IntKind.i64 most, Value.func (Fn.func 17) #[] #[], undef, Value.pointer (some { block := w.heap.size, off := 0 }), Value.pointer (some { block := w.heap.size + 1, off := 0 }), Value.pointer (some { block := w.heap.size + 1 + 1, off := 0 }), Value.pointer (some { block := w.heap.size + 1 + 1 + 1, off := 0 }), undef, Value.pointer (some { block := w.heap.size + 1 + 1 + 1 + 1, off := 0 }), u14, u15, Value.int IntKind.i64 0, undef, u18, Value.pointer (some { block := wr.heap.size + 1, off := 0 }), .int .i64 x.1, Value.pointer (some { block := b, off := 0 }), Value.int IntKind.i64 r, Value.agg #[Value.int IntKind.u8 s, Value.int IntKind.u8 h, Value.int IntKind.i64 m, Value.slice ga gz.length gc], Value.slice O B.length oc, Value.slice P S.length pc, Value.int IntKind.i64 0, Value.int IntKind.i64 0, Value.bool false, undef, Value.slice A 256 lc, Value.int IntKind.i64 256, Value.bool false, Value.slice A 256 lc, Value.int IntKind.i64 256, Value.int IntKind.i64 256, Value.bool false, u37, u38, u39, u40, u41, u42, u43, u44, u45, u46, u47, u48, Value.slice (some { block := wr.heap.size, off := 0 }) 256 256, Value.int IntKind.i64 r, Value.agg #[Value.int IntKind.u8 s, Value.int IntKind.u8 h, Value.int IntKind.i64 m, Value.slice ga gz.length gc], Value.func (Fn.func 84) #[] #[Value.pointer (some ⟨b7, 0, none⟩), Value.pointer (some ⟨w0, 0, none⟩), Value.pointer (some ⟨b5, 0, none⟩)], .int .i64 x.1, .agg #[.int .i64 x.2.1, .int .i64 x.2.2], undef, undef, undef, undef, undef, undef, undef, undef, undef, undef, undef, undef, undef, undef, undef, undef, undef, undef, undef, undef, undef, undef, undef, undef, undef, undef, undef, undef, undef, undef, undef, undef, undef, undef, undef, undef, undef, undef, undef, undef, undef, undef, undef, undef, undef, undef], defers := [] }) ?assign ?body ?done
      case hI =>
        obtain ⟨h1, h2⟩ := h
        refine ⟨hp.row h1 (fun q => by rcases q with q | q | q <;> first | exact q.elim | omega), ?_⟩
        exact ⟨hp.os.trans h2.os, hp.tape.trans h2.tape, hp.output.trans h2.output, Nat.le_trans h2.size hp.size, fun j hj hne => (hp.block j (Nat.lt_of_lt_of_le hj h2.size) (fun q => by rcases q with q | q | q <;> first | exact q.elim | omega)).trans (h2.block j hj hne)⟩
      case assign =>
        intro l x W K hK
        dsimp only [encQ]
        gi_wp2
        exact hK _ ((Below.refl _ W).alloc (Nat.le_refl _) _) (World.alloc_heap_new _ _)
      case body =>
        rintro l k x b W ⟨h1, h2⟩ hk hx hb ho
        obtain rfl := hx_parts r0 r1 hx
        clear hx HP HQ r0w lo lt0 lt5 lt7 ltg
        dsimp only at ho ⊢
        have BW : Below w.heap.size w W := B2.trans (h2.below B2.size (fun j q => by omega))
        have hkeep : ∀ j o, j < wr.heap.size → wr.heap[j]? = some o → W.heap[j]? = some o := fun j o hj ho => (h2.block j (by have := hb2.size; simp at this; omega) (by omega)).trans ((hb2.block j (by omega)).trans ((B4.block j hj).trans ho))
        have cb := cell_two ho
        obtain ⟨_, _, im, _⟩ := cell4 (hkeep _ _ (by omega) b8.out)
        have cB := cell_box (hkeep _ _ (by omega) b9.out)
        have cS := cell_box (hkeep _ _ (by omega) b10.out)
        have cL := cell_box (hkeep _ _ (by omega) b11.out)
        obtain ⟨ab, ao, rfl, lA, cA0⟩ := RL.out k (by rw [HL.out]; exact hk)
        have cA := (BW.cell (p := ⟨ab, ao + k, none⟩) lA).trans cA0
        clear cA0
        by_cases hz : lz.getD k 0 = 0
        · rw [hz] at cA
          gi_wp2
          have hmo : Tryd.prog.follows .mixedOrders = true := by kernel_rfl
          refine region_quiet_round l rfl hmo (by kernel_rfl) (by kernel_rfl) ?_
          repeat (gi_big_quiet_step (fail))
          refine BigFrame.wpQuietIn_skip ?_ rfl ?_
          · intro w _ f _; trivial
          simp only [Act.put, List.setIfInBounds_toArray, List.set_cons_succ, List.set_cons_zero]
          repeat (gi_big_quiet_step (fail))
          refine wpQuietIn_nil ?_
          intro _ hw'
          obtain ⟨nq, hw''⟩ := hw'
          subst hw''
          gi_wp2
          have hQ : QV r s m gz B S lz f k = 0 := by unfold QV qv; rw [if_neg (fun h => h.1 hz)]
          have D := Fx.drewN_below W nq
          refine ⟨⟨(h1.of_block (D.block _ h1.lt)).congr (fun j hj => ?_), h2.trans (Part.of_below D)⟩, D.size, fun j q => D.block j ?_⟩
          · by_cases e : j = k
            · subst e; simp [hQ]
            · by_cases e2 : j < k
              · rw [if_pos e2, if_pos (by omega)]
              · rw [if_neg e2, if_neg (by omega)]
          · have lb := (Array.getElem?_eq_some_iff.1 ho).1
            rcases q with q | q | q
            · have := HU j q; omega
            · omega
            · omega
        · by_cases hm : (bk r s k : Int) < m
          · obtain ⟨_, hBl, hSl, hBm, hSm, hnb⟩ := HQE.out
            have hgl2 := gk_lt HCK.out hk
            have hgB : gk s gz k < B.length := by omega
            have hgS : gk s gz k < S.length := by omega
            have hrB := hBm _ hgB
            have hrS := hSm _ hgS
            have hbB : bk r s k < (B.getD (gk s gz k) []).length := by omega
            have hbS : bk r s k < (S.getD (gk s gz k) []).length := by omega
            obtain ⟨bb, bo, ba, bc, eO, lbb, cR, rdB⟩ := (HRB.out.below BW) _ hgB
            subst eO
            obtain ⟨b2, o2, rfl, lb2, cV⟩ := rdB _ hbB
            have hm1 := HBR.out _ hgB
            by_cases hs : snt ((B.getD (gk s gz k) []).getD (bk r s k) 0) = true
            · have hs2 : snt ((B.getD (gk s gz k) []).getD (bk r s k) 0) = true := hs
              obtain ⟨sb, so, sa, sc, eP, lsb, cRS0, rdS⟩ := HRS.out _ hgS
              subst eP
              obtain ⟨s2b, s2o, rfl, ls2, cVS0⟩ := rdS _ hbS
              have cRS := (BW.cell (p := ⟨sb, so + gk s gz k, none⟩) lsb).trans cRS0
              have cVS := (BW.cell (p := ⟨s2b, s2o + bk r s k, none⟩) ls2).trans cVS0
              clear cRS0 cVS0
              have hm2 := HSR.out _ hgS
              have hQ : QV r s m gz B S lz f k = f (lz.getD k 0) ((S.getD (gk s gz k) []).getD (bk r s k) 0) := by unfold QV qv; rw [if_pos ⟨hz, hm, hs⟩]
              have hnz : (lz.getD k 0 != 0) = true := by simpa using hz
              have hnz2 : (lz.getD k 0 == 0) = false := by simpa using hz
              have hmb : decide ((bk r s k : Int) < m) = true := by simpa using hm
              generalize lz.getD k 0 = X at *
              generalize (B.getD (gk s gz k) []).getD (bk r s k) 0 = V at *
              generalize (S.getD (gk s gz k) []).getD (bk r s k) 0 = T at *
              obtain ⟨Ln, hLn⟩ : ∃ Ln, (B.getD (gk s gz k) []).length = Ln := ⟨_, rfl⟩
              rw [hLn] at cR hbB hm1
              obtain ⟨Ls, hLs⟩ : ∃ Ls, (S.getD (gk s gz k) []).length = Ls := ⟨_, rfl⟩
              rw [hLs] at cRS hbS hm2
              clear hLn rdB hLs rdS
              clear hrB hrS hBm hSm hnb hBl hSl
              generalize gk s gz k = g' at *
              generalize bk r s k = b' at *
              obtain ⟨cb0, cb1⟩ := cb
              have hsk : ∀ W, Calls Tryd.prog 75 #[.int .i64 V] W fun e w' => e = .returned (.bool true) ∧ W = w' := fun W => by have := sent_ok V W; rwa [hs2] at this
              gi_wp2
              have hmo : Tryd.prog.follows .mixedOrders = true := by kernel_rfl
              refine region_quiet_round l rfl hmo (by kernel_rfl) (by kernel_rfl) ?_
              repeat (gi_big_quiet_step (fail))
              refine BigFrame.wpQuietIn_want ?_ rfl ?_
              · intro w _ f _; trivial
              intro K hK
              gi_big_quiet_op
              gi_big_quiet_call ((exact callsIn_wide.2 ((hsk _).mono fun e w' h => ⟨h.1, _, h.2.symm⟩)))
              repeat (gi_big_quiet_step (fail))
              refine wpQuietIn_nil ?_
              intro _ hw'
              obtain ⟨nq, hw''⟩ := hw'
              subst hw''
              gi_wp2
              have lb := (Array.getElem?_eq_some_iff.1 ho).1
              have zw := B1.out.size
              have zb := hb2.size
              have hc19 : W.cell? ⟨wr.heap.size + 1, 0, none⟩ = some (.slice (some ⟨wr.heap.size, 0, none⟩) 256 256) := by
                have e1 : ((wr.alloc (.cells (madeCells #[.int .i64 0] 256) 3)).alloc (.cells #[.slice (some ⟨wr.heap.size, 0, none⟩) 256 256] 39)).heap[wr.heap.size + 1]? = some (.cells #[.slice (some ⟨wr.heap.size, 0, none⟩) 256 256] 39) := by
                  have := World.alloc_heap_new (wr.alloc (.cells (madeCells #[.int .i64 0] 256) 3)) (.cells #[.slice (some ⟨wr.heap.size, 0, none⟩) 256 256] 39)
                  rwa [World.size_alloc] at this
                have e2 : W.heap[wr.heap.size + 1]? = some (.cells #[.slice (some ⟨wr.heap.size, 0, none⟩) 256 256] 39) := (h2.block _ (by have := hb2.size; simp at this; omega) (by omega)).trans ((hb2.block _ (by omega)).trans e1)
                exact cell_box e2
              have hc13 : W.cell? ⟨w.heap.size + 1 + 1 + 1 + 1, 0, none⟩ = some (.func (.func 17) #[] #[]) := cell_box (hkeep _ _ (by omega) b13.out)
              have hne1 : w.heap.size + 5 ≤ wr.heap.size := z1
              have hneb : b ≠ wr.heap.size := by omega
              have ck : ∀ (w' : World) (hS : ∀ j o, j ≠ wr.heap.size → W.heap[j]? = some o → w'.heap[j]? = some o) (j o : Nat) (v : Value), j ≠ wr.heap.size → W.cell? ⟨j, o, none⟩ = some v → w'.cell? ⟨j, o, none⟩ = some v := fun w' hS j o v hj hc => cell_same' hc (fun ob => hS j ob hj)
              have hSc : ∀ w' : World, (∀ j o, j ≠ wr.heap.size → W.heap[j]? = some o → w'.heap[j]? = some o) → w'.cell? ⟨wr.heap.size + 1, 0, none⟩ = some (.slice (some ⟨wr.heap.size, 0, none⟩) 256 256) ∧ w'.cell? ⟨w.heap.size + 1 + 1 + 1 + 1, 0, none⟩ = some (.func (.func 17) #[] #[]) ∧ w'.cell? ⟨w.heap.size + 1 + 1 + 1, 0, none⟩ = some (.slice (some ⟨ab, ao, none⟩) 256 lc) ∧ w'.cell? ⟨ab, ao + k, none⟩ = some (.int .i64 X) ∧ w'.cell? ⟨w.heap.size + 1 + 1, 0, none⟩ = some (.slice (some ⟨sb, so, none⟩) S.length pc) ∧ w'.cell? ⟨b, 0, none⟩ = some (.int .i64 (g' : Int)) ∧ w'.cell? ⟨b, 1, none⟩ = some (.int .i64 (b' : Int)) ∧ w'.cell? ⟨sb, so + g', none⟩ = some (.slice (some ⟨s2b, s2o, none⟩) Ls sc) ∧ w'.cell? ⟨s2b, s2o + b', none⟩ = some (.int .i64 T) := fun w' hS =>
                ⟨ck w' hS _ _ _ (by omega) hc19, ck w' hS _ _ _ (by omega) hc13, ck w' hS _ _ _ (by omega) cL, ck w' hS _ _ _ (by omega) cA, ck w' hS _ _ _ (by omega) cS, ck w' hS _ _ _ hneb cb0, ck w' hS _ _ _ hneb cb1, ck w' hS _ _ _ (by omega) cRS, ck w' hS _ _ _ (by omega) cVS⟩
              clear ck
              have hS : (fun w' : World => ∀ j o, j ≠ wr.heap.size → W.heap[j]? = some o → w'.heap[j]? = some o) (W.drewN nq).drew := fun j o _ h => h
              have hk' : (k : Int) < 256 := by omega
              have hgS' : (g' : Int) < (S.length : Int) := by omega
              have hbS' : (b' : Int) < (Ls : Int) := by omega
              refine region_held_round l (fun w' => ∀ j o, j ≠ wr.heap.size → W.heap[j]? = some o → w'.heap[j]? = some o) hmo (by kernel_rfl) (fun h => by obtain ⟨_, _, h⟩ := h; exact h) ?_
              show wpAnyH _ _ _ _ _ 22 _ _ _
              refine wpAnyH_take (i := 0) (v := ?v0) rfl (by kernel_rfl) (by kernel_rfl) (by kernel_rfl) (fun _ _ _ h => h) (Or.inl ⟨by rfl, ?y0⟩) hS ?r0
              case y0 => intro w' hw'; have s1 := (hSc w' hw').1; go_simp; try (with_reducible rfl)
              try simp only [Act.put, List.getElem_toArray, List.getElem_cons_succ, List.getElem_cons_zero, List.setIfInBounds_toArray, List.set_cons_zero, List.set_cons_succ]
              refine wpAnyH_take (i := 1) (v := ?v1) rfl (by kernel_rfl) (by kernel_rfl) (by kernel_rfl) (fun _ _ _ h => h) (Or.inl ⟨by rfl, ?y1⟩) hS ?r1
              case y1 => intro w' hw'; go_simp; try (with_reducible rfl)
              try simp only [Act.put, List.getElem_toArray, List.getElem_cons_succ, List.getElem_cons_zero, List.setIfInBounds_toArray, List.set_cons_zero, List.set_cons_succ]
              refine wpAnyH_take (i := 2) (v := ?v2) rfl (by kernel_rfl) (by kernel_rfl) (by kernel_rfl) (fun _ _ _ h => h) (Or.inl ⟨by rfl, ?y2⟩) hS ?r2
              case y2 => intro w' hw'; have s2 := (hSc w' hw').2.1; go_simp; try (with_reducible rfl)
              try simp only [Act.put, List.getElem_toArray, List.getElem_cons_succ, List.getElem_cons_zero, List.setIfInBounds_toArray, List.set_cons_zero, List.set_cons_succ]
              refine wpAnyH_take (i := 3) (v := ?v3) rfl (by kernel_rfl) (by kernel_rfl) (by kernel_rfl) (fun _ _ _ h => h) (Or.inl ⟨by rfl, ?y3⟩) hS ?r3
              case y3 => intro w' hw'; have s3 := (hSc w' hw').2.2.1; go_simp; try (with_reducible rfl)
              try simp only [Act.put, List.getElem_toArray, List.getElem_cons_succ, List.getElem_cons_zero, List.setIfInBounds_toArray, List.set_cons_zero, List.set_cons_succ]
              refine wpAnyH_take (i := 4) (v := ?v4) rfl (by kernel_rfl) (by kernel_rfl) (by kernel_rfl) (fun _ _ _ h => h) (Or.inl ⟨by rfl, ?y4⟩) hS ?r4
              case y4 => intro w' hw'; go_simp; try (with_reducible rfl)
              try simp only [Act.put, List.getElem_toArray, List.getElem_cons_succ, List.getElem_cons_zero, List.setIfInBounds_toArray, List.set_cons_zero, List.set_cons_succ]
              refine wpAnyH_take (i := 5) (v := ?v5) rfl (by kernel_rfl) (by kernel_rfl) (by kernel_rfl) (fun _ _ _ h => h) (Or.inl ⟨by rfl, ?y5⟩) hS ?r5
              case y5 => intro w' hw'; go_simp; try (with_reducible rfl)
              try simp only [Act.put, List.getElem_toArray, List.getElem_cons_succ, List.getElem_cons_zero, List.setIfInBounds_toArray, List.set_cons_zero, List.set_cons_succ]
              refine wpAnyH_take (i := 6) (v := ?v6) rfl (by kernel_rfl) (by kernel_rfl) (by kernel_rfl) (fun _ _ _ h => h) (Or.inl ⟨by rfl, ?y6⟩) hS ?r6
              case y6 => intro w' hw'; have s4 := (hSc w' hw').2.2.2.1; go_simp; try (with_reducible rfl)
              try simp only [Act.put, List.getElem_toArray, List.getElem_cons_succ, List.getElem_cons_zero, List.setIfInBounds_toArray, List.set_cons_zero, List.set_cons_succ]
              refine wpAnyH_take (i := 7) (v := ?v7) rfl (by kernel_rfl) (by kernel_rfl) (by kernel_rfl) (fun _ _ _ h => h) (Or.inl ⟨by rfl, ?y7⟩) hS ?r7
              case y7 => intro w' hw'; have s5 := (hSc w' hw').2.2.2.2.1; go_simp; try (with_reducible rfl)
              try simp only [Act.put, List.getElem_toArray, List.getElem_cons_succ, List.getElem_cons_zero, List.setIfInBounds_toArray, List.set_cons_zero, List.set_cons_succ]
              refine wpAnyH_take (i := 8) (v := ?v8) rfl (by kernel_rfl) (by kernel_rfl) (by kernel_rfl) (fun _ _ _ h => h) (Or.inl ⟨by rfl, ?y8⟩) hS ?r8
              case y8 => intro w' hw'; go_simp; try (with_reducible rfl)
              try simp only [Act.put, List.getElem_toArray, List.getElem_cons_succ, List.getElem_cons_zero, List.setIfInBounds_toArray, List.set_cons_zero, List.set_cons_succ]
              refine wpAnyH_take (i := 9) (v := ?v9) rfl (by kernel_rfl) (by kernel_rfl) (by kernel_rfl) (fun _ _ _ h => h) (Or.inl ⟨by rfl, ?y9⟩) hS ?r9
              case y9 => intro w' hw'; have s6 := (hSc w' hw').2.2.2.2.2.1; go_simp; try (with_reducible rfl)
              try simp only [Act.put, List.getElem_toArray, List.getElem_cons_succ, List.getElem_cons_zero, List.setIfInBounds_toArray, List.set_cons_zero, List.set_cons_succ]
              refine wpAnyH_take (i := 10) (v := ?v10) rfl (by kernel_rfl) (by kernel_rfl) (by kernel_rfl) (fun _ _ _ h => h) (Or.inl ⟨by rfl, ?y10⟩) hS ?r10
              case y10 => intro w' hw'; go_simp; try (with_reducible rfl)
              try simp only [Act.put, List.getElem_toArray, List.getElem_cons_succ, List.getElem_cons_zero, List.setIfInBounds_toArray, List.set_cons_zero, List.set_cons_succ]
              refine wpAnyH_take (i := 11) (v := ?v11) rfl (by kernel_rfl) (by kernel_rfl) (by kernel_rfl) (fun _ _ _ h => h) (Or.inl ⟨by rfl, ?y11⟩) hS ?r11
              case y11 => intro w' hw'; have s8 := (hSc w' hw').2.2.2.2.2.2.2.1; go_simp; try (with_reducible rfl)
              try simp only [Act.put, List.getElem_toArray, List.getElem_cons_succ, List.getElem_cons_zero, List.setIfInBounds_toArray, List.set_cons_zero, List.set_cons_succ]
              refine wpAnyH_take (i := 12) (v := ?v12) rfl (by kernel_rfl) (by kernel_rfl) (by kernel_rfl) (fun _ _ _ h => h) (Or.inl ⟨by rfl, ?y12⟩) hS ?r12
              case y12 => intro w' hw'; go_simp; try (with_reducible rfl)
              try simp only [Act.put, List.getElem_toArray, List.getElem_cons_succ, List.getElem_cons_zero, List.setIfInBounds_toArray, List.set_cons_zero, List.set_cons_succ]
              refine wpAnyH_take (i := 13) (v := ?v13) rfl (by kernel_rfl) (by kernel_rfl) (by kernel_rfl) (fun _ _ _ h => h) (Or.inl ⟨by rfl, ?y13⟩) hS ?r13
              case y13 => intro w' hw'; have s7 := (hSc w' hw').2.2.2.2.2.2.1; go_simp; try (with_reducible rfl)
              try simp only [Act.put, List.getElem_toArray, List.getElem_cons_succ, List.getElem_cons_zero, List.setIfInBounds_toArray, List.set_cons_zero, List.set_cons_succ]
              refine wpAnyH_take (i := 14) (v := ?v14) rfl (by kernel_rfl) (by kernel_rfl) (by kernel_rfl) (fun _ _ _ h => h) (Or.inl ⟨by rfl, ?y14⟩) hS ?r14
              case y14 => intro w' hw'; go_simp; try (with_reducible rfl)
              try simp only [Act.put, List.getElem_toArray, List.getElem_cons_succ, List.getElem_cons_zero, List.setIfInBounds_toArray, List.set_cons_zero, List.set_cons_succ]
              refine wpAnyH_take (i := 15) (v := ?v15) rfl (by kernel_rfl) (by kernel_rfl) (by kernel_rfl) (fun _ _ _ h => h) (Or.inl ⟨by rfl, ?y15⟩) hS ?r15
              case y15 => intro w' hw'; have s9 := (hSc w' hw').2.2.2.2.2.2.2.2; go_simp; try (with_reducible rfl)
              try simp only [Act.put, List.getElem_toArray, List.getElem_cons_succ, List.getElem_cons_zero, List.setIfInBounds_toArray, List.set_cons_zero, List.set_cons_succ]
              refine wpAnyH_ready (rs := [16]) (by kernel_rfl) (by simp) ?_
              refine AllReadyH.cons rfl (fun K hK => ?_) AllReadyH.nil
              simp only [List.getElem_toArray, List.getElem_cons_succ, List.getElem_cons_zero]
              rw [if_pos (by rfl)]
              have D0 : Below W.heap.size W (W.drewN nq).drew := (Fx.drewN_below W nq).drew
              have hq0 : Fx.Qs (W.drewN nq).drew := (hqs.below BW).drewN nq
              go_simp
              refine (hfn X T _ hq0).mono ?_
              rintro e w5 ⟨rfl, hq5, hb5⟩
              have hS5 : (fun w' : World => ∀ j o, j ≠ wr.heap.size → W.heap[j]? = some o → w'.heap[j]? = some o) w5 := fun j o _ h => (hb5.block j (Array.getElem?_eq_some_iff.1 h).1).trans h
              refine hK.out _ _ hS5 (fun _ => ?_)
              try simp only [Act.put, List.getElem_toArray, List.getElem_cons_succ, List.getElem_cons_zero, List.setIfInBounds_toArray, List.set_cons_zero, List.set_cons_succ]
              refine wpAnyH_take (i := 17) (v := ?v17) rfl (by kernel_rfl) (by kernel_rfl) (by kernel_rfl) (fun _ _ _ h => h) (Or.inl ⟨by rfl, ?y17⟩) hS5 ?r17
              case y17 => intro w' hw'; go_simp; try (with_reducible rfl)
              try simp only [Act.put, List.getElem_toArray, List.getElem_cons_succ, List.getElem_cons_zero, List.setIfInBounds_toArray, List.set_cons_zero, List.set_cons_succ]
              refine wpAnyH_take (i := 18) (v := ?v18) rfl (by kernel_rfl) (by kernel_rfl) (by kernel_rfl) (fun _ _ _ h => h) (Or.inl ⟨by rfl, ?y18⟩) hS5 ?r18
              case y18 => intro w' hw'; go_simp; try (with_reducible rfl)
              try simp only [Act.put, List.getElem_toArray, List.getElem_cons_succ, List.getElem_cons_zero, List.setIfInBounds_toArray, List.set_cons_zero, List.set_cons_succ]
              refine wpAnyH_take (i := 19) (v := ?v19) rfl (by kernel_rfl) (by kernel_rfl) (by kernel_rfl) (fun _ _ _ h => h) (Or.inl ⟨by rfl, ?y19⟩) hS5 ?r19
              case y19 => intro w' hw'; go_simp; try (with_reducible rfl)
              try simp only [Act.put, List.getElem_toArray, List.getElem_cons_succ, List.getElem_cons_zero, List.setIfInBounds_toArray, List.set_cons_zero, List.set_cons_succ]
              refine wpAnyH_take (i := 20) (v := ?v20) rfl (by kernel_rfl) (by kernel_rfl) (by kernel_rfl) (fun _ _ _ h => h) (Or.inl ⟨by rfl, ?y20⟩) hS5 ?r20
              case y20 => intro w' hw'; go_simp; try (with_reducible rfl)
              try simp only [Act.put, List.getElem_toArray, List.getElem_cons_succ, List.getElem_cons_zero, List.setIfInBounds_toArray, List.set_cons_zero, List.set_cons_succ]
              have R5 : w5.rowIs wr.heap.size 3 256 (fun j => .int .i64 (if j < k then QV r s m gz B S lz f j else 0)) := h1.of_block (hb5.block _ h1.lt)
              have q5 := R5.cell (i := k) hk
              have f5 := R5.frozen k
              refine wpAnyH_ready (rs := [21]) (by kernel_rfl) (by simp) ?_
              refine AllReadyH.cons rfl (fun K2 hK2 => ?_) AllReadyH.nil
              try simp only [List.getElem_toArray, List.getElem_cons_succ, List.getElem_cons_zero]
              rw [if_pos (by rfl)]
              go_simp
              refine hK2.out _ _ (fun j o hj ho => ?_) (fun _ => ?_)
              · have hne : wr.heap.size ≠ j := fun e => hj e.symm
                have e := hS5 j o hj ho
                rw [← e]
                simp only [World.setCell]
                show (w5.heap.modify wr.heap.size _)[j]? = w5.heap[j]?
                rw [Array.getElem?_modify, if_neg hne]
              refine wpAnyH_done (by kernel_rfl) ?_ _
              have BD : Below W.heap.size W w5 := ((Below.refl _ W).trans D0).trans hb5
              have lk := h1.lt
              refine ⟨⟨(R5.set k (.int .i64 (f X T))).congr (fun j hj => ?_), h2.trans ((Part.of_below BD).trans (Part.set (p := ⟨wr.heap.size, k, none⟩) _ rfl))⟩, ?_, fun j q => ?_⟩
              · by_cases e : j = k
                · subst e; rw [if_pos rfl, if_pos (by omega), hQ]
                · rw [if_neg e]
                  by_cases e2 : j < k
                  · rw [if_pos e2, if_pos (by omega)]
                  · rw [if_neg e2, if_neg (by omega)]
              · have := BD.size; simp; omega
              · have hjW : j < W.heap.size ∧ j ≠ wr.heap.size := by
                  rcases q with q | q | q
                  · have := HU j q; have := HU2 j q; exact ⟨by omega, by omega⟩
                  · exact ⟨by omega, by omega⟩
                  · exact ⟨by omega, by omega⟩
                have hne : ¬ wr.heap.size = j := fun e => hjW.2 e.symm
                simp only [World.setCell]
                show (w5.heap.modify wr.heap.size _)[j]? = W.heap[j]?
                rw [Array.getElem?_modify, if_neg hne]
                exact BD.block j hjW.1
            · have hQ : QV r s m gz B S lz f k = 0 := by unfold QV qv; rw [if_neg (fun h => hs h.2.2)]
              have hs2 : snt ((B.getD (gk s gz k) []).getD (bk r s k) 0) = false := by simpa using hs
              have hnz : (lz.getD k 0 != 0) = true := by simpa using hz
              have hnz2 : (lz.getD k 0 == 0) = false := by simpa using hz
              have hmb : decide ((bk r s k : Int) < m) = true := by simpa using hm
              generalize lz.getD k 0 = X at *
              generalize (B.getD (gk s gz k) []).getD (bk r s k) 0 = V at *
              obtain ⟨Ln, hLn⟩ : ∃ Ln, (B.getD (gk s gz k) []).length = Ln := ⟨_, rfl⟩
              rw [hLn] at cR hbB hm1
              clear hLn rdB
              clear hrB hrS hBm hSm hnb hBl hSl
              generalize gk s gz k = g' at *
              generalize bk r s k = b' at *
              obtain ⟨cb0, cb1⟩ := cb
              have hsk : ∀ W, Calls Tryd.prog 75 #[.int .i64 V] W fun e w' => e = .returned (.bool false) ∧ W = w' := fun W => by have := sent_ok V W; rwa [hs2] at this
              gi_wp2
              have hmo : Tryd.prog.follows .mixedOrders = true := by kernel_rfl
              refine region_quiet_round l rfl hmo (by kernel_rfl) (by kernel_rfl) ?_
              repeat (gi_big_quiet_step (fail))
              refine BigFrame.wpQuietIn_want ?_ rfl ?_
              · intro w _ f _; trivial
              intro K hK
              gi_big_quiet_op
              gi_big_quiet_call ((exact callsIn_wide.2 ((hsk _).mono fun e w' h => ⟨h.1, _, h.2.symm⟩)))
              repeat (gi_big_quiet_step (fail))
              refine wpQuietIn_nil ?_
              intro _ hw'
              obtain ⟨nq, hw''⟩ := hw'
              subst hw''
              gi_wp2
              have D := Fx.drewN_below W nq
              refine ⟨⟨(h1.of_block (D.block _ h1.lt)).congr (fun j hj => ?_), h2.trans (Part.of_below D)⟩, D.size, fun j q => D.block j ?_⟩
              · by_cases e : j = k
                · subst e; simp [hQ]
                · by_cases e2 : j < k
                  · rw [if_pos e2, if_pos (by omega)]
                  · rw [if_neg e2, if_neg (by omega)]
              · have lb := (Array.getElem?_eq_some_iff.1 ho).1
                rcases q with q | q | q
                · have := HU j q; omega
                · omega
                · omega
          have hQ : QV r s m gz B S lz f k = 0 := by unfold QV qv; rw [if_neg (fun h => hm h.2.1)]
          have hnz : (lz.getD k 0 != 0) = true := by simpa using hz
          have hnz2 : (lz.getD k 0 == 0) = false := by simpa using hz
          generalize lz.getD k 0 = X at *
          have hmb : decide ((bk r s k : Int) < m) = false := by simpa using hm
          obtain ⟨cb0, cb1⟩ := cb
          gi_wp2
          have hmo : Tryd.prog.follows .mixedOrders = true := by kernel_rfl
          refine region_quiet_round l rfl hmo (by kernel_rfl) (by kernel_rfl) ?_
          repeat (gi_big_quiet_step (fail))
          refine BigFrame.wpQuietIn_skip ?_ rfl ?_
          · intro w _ f _; trivial
          simp only [Act.put, List.setIfInBounds_toArray, List.set_cons_succ, List.set_cons_zero]
          repeat (gi_big_quiet_step (fail))
          refine wpQuietIn_nil ?_
          intro _ hw'
          obtain ⟨nq, hw''⟩ := hw'
          subst hw''
          gi_wp2
          have D := Fx.drewN_below W nq
          refine ⟨⟨(h1.of_block (D.block _ h1.lt)).congr (fun j hj => ?_), h2.trans (Part.of_below D)⟩, D.size, fun j q => D.block j ?_⟩
          · by_cases e : j = k
            · subst e; simp [hQ]
            · by_cases e2 : j < k
              · rw [if_pos e2, if_pos (by omega)]
              · rw [if_neg e2, if_neg (by omega)]
          · have lb := (Array.getElem?_eq_some_iff.1 ho).1
            rcases q with q | q | q
            · have := HU j q; omega
            · omega
            · omega
      case done =>
        rintro W ⟨h1, h2⟩ hsl hK
        have e1 : ((wr.alloc (.cells (madeCells #[.int .i64 0] 256) 3)).alloc (.cells #[.slice (some ⟨wr.heap.size, 0, none⟩) 256 256] 39)).heap[wr.heap.size + 1]? = some (.cells #[.slice (some ⟨wr.heap.size, 0, none⟩) 256 256] 39) := by
          have := World.alloc_heap_new (wr.alloc (.cells (madeCells #[.int .i64 0] 256) 3)) (.cells #[.slice (some ⟨wr.heap.size, 0, none⟩) 256 256] 39)
          rwa [World.size_alloc] at this
        have c19 : W.cell? ⟨wr.heap.size + 1, 0, none⟩ = some (.slice (some ⟨wr.heap.size, 0, none⟩) 256 256) := cell_box ((h2.block _ (by have := hb2.size; simp at this; omega) (by omega)).trans ((hb2.block _ (by omega)).trans e1))
        have BW : Below w.heap.size w W := B2.trans (h2.below B2.size (fun j q => by omega))
        clear HP HQ r0w lo lt0 lt5 lt7 ltg
        gi_wp2
        refine ⟨by simp, .inl ⟨_, _, rfl, run_takeDeferred hK, ?_⟩⟩
        have zb := hb2.size
        have zw := B1.out.size
        have z2 := B2.size
        refine ⟨_, results_tmp2 rfl _ _ _, wr.heap.size, rfl, ((h1.of_block (World.putObj_heap_other (by omega))).congr fun j hj => by rw [if_pos hj]), by omega, ?_⟩
        exact BW.trans (belowK_b (w := w) (Nat.le_refl _) W w2.heap.size _ _ (by omega) hK rfl rfl)
end Go.Proofs.YtanjcbnkkhbkkaaDoor.Qn

/- Lines turned at their steps: what is answered to what may be. -/
namespace Go.Proofs.YtanjcbnkkhbkkaaDoor.Qn
open Go Go.ChangeShapes Go.WideShapes Go.ChangeAt Go.RowKit Go.Shelf Go.Proofs.YtanjcbnkkhbkkaaDoor.If Go.Proofs.YtanjcbnkkhbkkaaDoor.Rg Go.Proofs.YtanjcbnkkhbkkaaDoor.Bd

attribute [local go_sem] Oper.semAt_some
set_option maxRecDepth 100000 in
set_option maxHeartbeats 8000000 in
theorem turned_19 (r s h m : Int) (ga : Option Addr) (gc : Nat) (gz : List Int) (O P A : Option Addr) (oc pc lc : Nat) (B S : List (List Int)) (lz : List Int) (most : Int) (w : World) (r0 : 0 ≤ r) (r1 : r ≤ 11) (hck : chk r s h m gz = 0) (hgl : gz.length ≤ 100000) (hB : B.length ≤ 1000) (hS : S.length ≤ 1000) (hBr : ∀ i, i < B.length → (B.getD i []).length ≤ maxLen) (hSr : ∀ i, i < S.length → (S.getD i []).length ≤ maxLen) (hg : RdA w ga gz) (rB : RdR w O B) (rS : RdR w P S) (rl : RdA w A lz) (hl : lz.length = 256) (hq : QE r s h m gz B S 0) (hm0 : 0 ≤ most) (hm1 : most ≤ 1099511627776) (hin : ∀ j, j < 256 → -most ≤ lz.getD j 0 ∧ lz.getD j 0 ≤ most) (f ef : Int → Int → Int) (hqs : Fx.Qs w) (hfn : ∀ (x st : Int) (W : World), Fx.Qs W → Calls Tryd.prog 19 #[.int .i64 x, .int .i64 st] W fun e w' => e = .returned (.tuple #[.int .i64 (f x st), .int .i64 (ef x st)]) ∧ Fx.Qs w' ∧ Below W.heap.size W w') :
    Calls Tryd.prog 53 #[.int .i64 r, .agg #[.int .u8 s, .int .u8 h, .int .i64 m, .slice ga gz.length gc], .slice O B.length oc, .slice P S.length pc, .slice A lz.length lc, .int .i64 most, (.func (.func 19) #[] #[])] w fun e w' => ∃ g, e = .returned (.tuple #[.slice (some ⟨g, 0, none⟩) 256 256, .int .i64 0]) ∧ w'.rowIs g 3 256 (fun j => .int .i64 (QV r s m gz B S lz f j)) ∧ w.heap.size ≤ g ∧ Below w.heap.size w w' := by
  have HQE := Lib.hid (qe_zero hq)
  have HRB := Lib.hid rB
  have HRS := Lib.hid rS
  have HBR := Lib.hid hBr
  have HSR := Lib.hid hSr
  have HQ := Lib.hid (fun W (hW : Below w.heap.size w W) => qcheck_ok r s h m ga gc gz O P oc pc B S W hgl hB hS hBr hSr (hg.below hW) (rB.below hW) (rS.below hW) 0 hq)
  have HP := Lib.hid (fun W (hW : Below w.heap.size w W) => places_ok r s h m ga gc gz W r0 r1 hck hgl (hg.below hW))
  have RL := Lib.hid rl
  have HL := Lib.hid hl
  have HCK := Lib.hid hck
  have RG := Lib.hid hg
  have HI := Lib.hid hin
  have hmk : ∀ w : World, (Instr.makeSlice 39 (.int .i64 256) (.int .i64 256)).run Tryd.prog w = .ok (.slice (some ⟨w.heap.size, 0, none⟩) 256 256) (w.alloc (.cells (madeCells #[.int .i64 0] 256) 3)) := fun w => run_make_row' 39 3 (.int .i64 0) 8 Tryd.underlying39 info3' rfl .i64 .i64 256 (by decide) (by decide) w
  rw [hl]
  clear hg rB rS hq hBr hSr rl hl hin hck
  refine (callsIn_wide (n := 5)).1 ?_
  refine callsIn_of_wp_marks Tryd.func53 rfl trivial ?_ rfl
  simp only [Tryd.ntmps53, List.size_toArray, List.length_cons, List.length_nil, Nat.reduceAdd, Nat.reduceSub, Array.replicate_succ, Array.replicate_zero, List.push_toArray, List.append_toArray, List.nil_append, List.cons_append]
  gi_wp2_with first
    | (refine ⟨trivial, ?_⟩; gi_at_call 73; refine (callsIn_wide.2 (HQ.out _ (al5 w _ _ _ _ _))).mono ?_; rintro e w1 ⟨rfl, hb1⟩; have B1 := Lib.hid (belowT (al5 w _ _ _ _ _) hb1); have c11 : w1.cell? ⟨w.heap.size + 3, 0, none⟩ = some (.slice A 256 lc) := (hb1.cell (p := ⟨w.heap.size + 3, 0, none⟩) (by simp)).trans (cell_box (w5_3 w _ _ _ _ _)); have b8 := Lib.hid ((hb1.block w.heap.size (by simp <;> omega)).trans (w5_0 w _ _ _ _ _)); have b9 := Lib.hid ((hb1.block (w.heap.size + 1) (by simp <;> omega)).trans (w5_1 w _ _ _ _ _)); have b10 := Lib.hid ((hb1.block (w.heap.size + 2) (by simp <;> omega)).trans (w5_2 w _ _ _ _ _)); have b11 := Lib.hid ((hb1.block (w.heap.size + 3) (by simp <;> omega)).trans (w5_3 w _ _ _ _ _)); have b13 := Lib.hid ((hb1.block (w.heap.size + 4) (by simp <;> omega)).trans (w5_4 w _ _ _ _ _)); have z1 : w.heap.size + 5 ≤ w1.heap.size := (by have := hb1.size; simp at this; omega); clear hb1)
  gi_loopw [35] (fun q wr => ∃ k : Nat, k ≤ 256 ∧ q = .int .i64 k ∧ wr = w1) (fun q _ => 256 - (intOf q).toNat)
  case atStart => exact ⟨0, by omega, rfl, rfl⟩
  case round =>
    obtain ⟨k, hk, rfl, rfl⟩ := hrel
    by_cases hlt : k < 256
    · obtain ⟨b, off, rfl, lb, c0⟩ := (RL.out.below B1.out) k (by rw [HL.out]; exact hlt)
      obtain ⟨t0, t1⟩ := HI.out k hlt
      have t2 : ¬ lz.getD k 0 < -most := by omega
      have t3 : ¬ most < lz.getD k 0 := by omega
      generalize lz.getD k 0 = X at *
      gi_wp2
      go_roundw
      case rel => exact ⟨k + 1, by omega, by go_num, trivial⟩
      case measure => simp [intOf]; omega
    · have e : k = 256 := by omega
      subst e
      have B4 : Below wr.heap.size wr ((wr.alloc (.cells (madeCells #[.int .i64 0] 256) 3)).alloc (.cells #[.slice (some ⟨wr.heap.size, 0, none⟩) 256 256] 39)) := ((Below.refl _ wr).alloc (Nat.le_refl _) _).alloc (by simp) _
      obtain ⟨i0, i1, i2, i3⟩ := cell4 ((B4.block _ (by omega)).trans b8.out)
      have B3 := Lib.hid ((B1.out.alloc B1.out.size (.cells (madeCells #[.int .i64 0] 256) 3)).alloc (by simp; omega) (.cells #[.slice (some ⟨wr.heap.size, 0, none⟩) 256 256] 39))
      gi_wp2_with first
        | (refine ⟨trivial, ?_⟩; gi_at_call 74; refine (callsIn_wide.2 (HP.out _ B3.out)).mono ?_; rintro e w2 ⟨b5, b7, g, cap, rfl, hp2, hb2⟩)
      clear c11 i0 i1 i2 i3 hk hlt
      have sz : ((wr.alloc (.cells (madeCells #[.int .i64 0] 256) 3)).alloc (.cells #[.slice (some ⟨wr.heap.size, 0, none⟩) 256 256] 39)).heap.size = wr.heap.size + 2 := by simp
      rw [sz] at hp2 hb2
      obtain ⟨w0, hw0⟩ : ∃ x, wr.heap.size + 2 = x := ⟨_, rfl⟩
      rw [show wr.heap.size + 1 + 1 = w0 by omega]
      rw [hw0] at hp2 hb2
      have lo := hp2.lo
      have lt0 := (Array.getElem?_eq_some_iff.1 hp2.info).1
      have lt5 := hp2.offs.lt
      have lt7 := hp2.wins.lt
      have ltg := hp2.row.lt
      have r0w : World.rowIs w2 wr.heap.size 3 256 (fun j => .int .i64 (if j < 0 then QV r s m gz B S lz f j else 0)) := ((World.rowIs_made wr (.int .i64 0) 256 3).of_block ((hb2.block _ (by omega)).trans (Below.heap_alloc _ _ _ (by simp)))).congr fun j _ => rfl
      have B2 : Below w.heap.size w w2 := belowT B3.out (hb2.mono (by omega))
      have HU : ∀ k, Uq w0 b5 b7 g ga k → k < w2.heap.size := by
        intro k q
        rcases q with q | q | q | q | ⟨x, e, rfl⟩
        · omega
        · omega
        · omega
        · omega
        · obtain ⟨b, off, e2, lb, _⟩ := RG.out 0 (gz_pos HCK.out)
          rw [e] at e2; cases e2
          have := B2.size; simp only; omega
      have HU2 : ∀ k, Uq w0 b5 b7 g ga k → k ≠ wr.heap.size := by
        intro k q
        rcases q with q | q | q | q | ⟨x, e, rfl⟩
        · omega
        · omega
        · omega
        · omega
        · obtain ⟨b, off, e2, lb, _⟩ := RG.out 0 (gz_pos HCK.out)
          rw [e] at e2; cases e2
          have := B1.out.size; simp only; omega
      refine range_memA rfl (by decide) (gf := 84) (lb := #[.pointer (some ⟨b7, 0, none⟩), .pointer (some ⟨w0, 0, none⟩), .pointer (some ⟨b5, 0, none⟩)]) rfl trivial (enters_of Tryd.func84 (by kernel_rfl) rfl)
        encQ (HxQ r s gz) (fun _ => False) (Uq w0 b5 b7 g ga) 256 (fun k q => q.elim) HU (fun _ => rfl)
        (fun l J W hl hW hlt hJ hY h0 => places_in 4 (by decide) l w0 b5 b7 g cap r s h m ga gc gz W r0 r1 (chk_top HCK.out) hgl (hp2.below (hW.below (Nat.le_refl _) (fun _ h => h.elim))) ((RG.out.below B2).below (hW.below (Nat.le_refl _) (fun _ h => h.elim))) J hlt hJ hY h0)
        (fun k W => W.rowIs wr.heap.size 3 256 (fun j => .int .i64 (if j < k then QV r s m gz B S lz f j else 0)) ∧ Part (fun j => j = wr.heap.size) w2 W)
        (fun k X Y' h hp => ?hI) ⟨r0w, Part.refl _ _⟩ (fun k x X Y' hs hp h => h) (fun x => .cells #[.int .i64 x.2.1, .int .i64 x.2.2] 93 (0, 0))
        (fun x b => { tmps := #[Value.int IntKind.i64 r, Value.agg #[Value.int IntKind.u8 s, Value.int IntKind.u8 h, Value.int IntKind.i64 m, Value.slice ga gz.length gc], Value.slice O B.length oc, Value.slice P S.length pc, Value.slice A 256 lc, Value.int IntKind.i64 most, Value.func (Fn.func 19) #[] #[], undef, Value.pointer (some { block := w.heap.size, off := 0 }), Value.pointer (some { block := w.heap.size + 1, off := 0 }), Value.pointer (some { block := w.heap.size + 1 + 1, off := 0 }), Value.pointer (some { block := w.heap.size + 1 + 1 + 1, off := 0 }), undef, Value.pointer (some { block := w.heap.size + 1 + 1 + 1 + 1, off := 0 }), u14, u15, Value.int IntKind.i64 0, undef, u18, Value.pointer (some { block := wr.heap.size + 1, off := 0 }), .int .i64 x.1, Value.pointer (some { block := b, off := 0 }), Value.int IntKind.i64 r, Value.agg #[Value.int IntKind.u8 s, Value.int IntKind.u8 h, Value.int IntKind.i64 m, Value.slice ga gz.length gc], Value.slice O B.length oc, Value.slice P S.length pc, Value.int IntKind.i64 0, Value.int IntKind.i64 0, Value.bool false, undef, Value.slice A 256 lc, Value.int IntKind.i64 256, Value.bool false, Value.slice A 256 lc, Value.int IntKind.i64 256, Value.int IntKind.i64 256, Value.bool false, u37, u38, u39, u40, u41, u42, u43, u44, u45, u46, u47, u48, Value.slice (some { block := wr.heap.size, off := 0 }) 256 256, Value.int IntKind.i64 r, Value.agg #[Value.int IntKind.u8 s, Value.int IntKind.u8 h, Value.int IntKind.i64 m, Value.slice ga gz.length gc], Value.func (Fn.func 84) #[] #[Value.pointer (some ⟨b7, 0, none⟩), Value.pointer (some ⟨w0, 0, none⟩), Value.pointer (some ⟨b5, 0, none⟩)], .int .i64 x.1, .agg #[.int .i64 x.2.1, .int .i64 x.2.2], undef, undef, undef, undef, undef, undef, undef, undef, undef, undef, undef, undef, undef, undef, undef, undef, undef, undef, undef, undef, undef, undef, undef, undef, undef, undef, undef, undef, undef, undef, undef, undef, undef, undef, undef, undef, undef, undef, undef, undef, undef, undef, undef, undef, undef, undef], defers := [] }) ?assign ?body ?done
      case hI =>
        obtain ⟨h1, h2⟩ := h
        refine ⟨hp.row h1 (fun q => by rcases q with q | q | q <;> first | exact q.elim | omega), ?_⟩
        exact ⟨hp.os.trans h2.os, hp.tape.trans h2.tape, hp.output.trans h2.output, Nat.le_trans h2.size hp.size, fun j hj hne => (hp.block j (Nat.lt_of_lt_of_le hj h2.size) (fun q => by rcases q with q | q | q <;> first | exact q.elim | omega)).trans (h2.block j hj hne)⟩
      case assign =>
        intro l x W K hK
        dsimp only [encQ]
        gi_wp2
        exact hK _ ((Below.refl _ W).alloc (Nat.le_refl _) _) (World.alloc_heap_new _ _)
      case body =>
        rintro l k x b W ⟨h1, h2⟩ hk hx hb ho
        obtain rfl := hx_parts r0 r1 hx
        clear hx HP HQ r0w lo lt0 lt5 lt7 ltg
        dsimp only at ho ⊢
        have BW : Below w.heap.size w W := B2.trans (h2.below B2.size (fun j q => by omega))
        have hkeep : ∀ j o, j < wr.heap.size → wr.heap[j]? = some o → W.heap[j]? = some o := fun j o hj ho => (h2.block j (by have := hb2.size; simp at this; omega) (by omega)).trans ((hb2.block j (by omega)).trans ((B4.block j hj).trans ho))
        have cb := cell_two ho
        obtain ⟨_, _, im, _⟩ := cell4 (hkeep _ _ (by omega) b8.out)
        have cB := cell_box (hkeep _ _ (by omega) b9.out)
        have cS := cell_box (hkeep _ _ (by omega) b10.out)
        have cL := cell_box (hkeep _ _ (by omega) b11.out)
        obtain ⟨ab, ao, rfl, lA, cA0⟩ := RL.out k (by rw [HL.out]; exact hk)
        have cA := (BW.cell (p := ⟨ab, ao + k, none⟩) lA).trans cA0
        clear cA0
        by_cases hz : lz.getD k 0 = 0
        · rw [hz] at cA
          gi_wp2
          have hmo : Tryd.prog.follows .mixedOrders = true := by kernel_rfl
          refine region_quiet_round l rfl hmo (by kernel_rfl) (by kernel_rfl) ?_
          repeat (gi_big_quiet_step (fail))
          refine BigFrame.wpQuietIn_skip ?_ rfl ?_
          · intro w _ f _; trivial
          simp only [Act.put, List.setIfInBounds_toArray, List.set_cons_succ, List.set_cons_zero]
          repeat (gi_big_quiet_step (fail))
          refine wpQuietIn_nil ?_
          intro _ hw'
          obtain ⟨nq, hw''⟩ := hw'
          subst hw''
          gi_wp2
          have hQ : QV r s m gz B S lz f k = 0 := by unfold QV qv; rw [if_neg (fun h => h.1 hz)]
          have D := Fx.drewN_below W nq
          refine ⟨⟨(h1.of_block (D.block _ h1.lt)).congr (fun j hj => ?_), h2.trans (Part.of_below D)⟩, D.size, fun j q => D.block j ?_⟩
          · by_cases e : j = k
            · subst e; simp [hQ]
            · by_cases e2 : j < k
              · rw [if_pos e2, if_pos (by omega)]
              · rw [if_neg e2, if_neg (by omega)]
          · have lb := (Array.getElem?_eq_some_iff.1 ho).1
            rcases q with q | q | q
            · have := HU j q; omega
            · omega
            · omega
        · by_cases hm : (bk r s k : Int) < m
          · obtain ⟨_, hBl, hSl, hBm, hSm, hnb⟩ := HQE.out
            have hgl2 := gk_lt HCK.out hk
            have hgB : gk s gz k < B.length := by omega
            have hgS : gk s gz k < S.length := by omega
            have hrB := hBm _ hgB
            have hrS := hSm _ hgS
            have hbB : bk r s k < (B.getD (gk s gz k) []).length := by omega
            have hbS : bk r s k < (S.getD (gk s gz k) []).length := by omega
            obtain ⟨bb, bo, ba, bc, eO, lbb, cR, rdB⟩ := (HRB.out.below BW) _ hgB
            subst eO
            obtain ⟨b2, o2, rfl, lb2, cV⟩ := rdB _ hbB
            have hm1 := HBR.out _ hgB
            by_cases hs : snt ((B.getD (gk s gz k) []).getD (bk r s k) 0) = true
            · have hs2 : snt ((B.getD (gk s gz k) []).getD (bk r s k) 0) = true := hs
              obtain ⟨sb, so, sa, sc, eP, lsb, cRS0, rdS⟩ := HRS.out _ hgS
              subst eP
              obtain ⟨s2b, s2o, rfl, ls2, cVS0⟩ := rdS _ hbS
              have cRS := (BW.cell (p := ⟨sb, so + gk s gz k, none⟩) lsb).trans cRS0
              have cVS := (BW.cell (p := ⟨s2b, s2o + bk r s k, none⟩) ls2).trans cVS0
              clear cRS0 cVS0
              have hm2 := HSR.out _ hgS
              have hQ : QV r s m gz B S lz f k = f (lz.getD k 0) ((S.getD (gk s gz k) []).getD (bk r s k) 0) := by unfold QV qv; rw [if_pos ⟨hz, hm, hs⟩]
              have hnz : (lz.getD k 0 != 0) = true := by simpa using hz
              have hnz2 : (lz.getD k 0 == 0) = false := by simpa using hz
              have hmb : decide ((bk r s k : Int) < m) = true := by simpa using hm
              generalize lz.getD k 0 = X at *
              generalize (B.getD (gk s gz k) []).getD (bk r s k) 0 = V at *
              generalize (S.getD (gk s gz k) []).getD (bk r s k) 0 = T at *
              obtain ⟨Ln, hLn⟩ : ∃ Ln, (B.getD (gk s gz k) []).length = Ln := ⟨_, rfl⟩
              rw [hLn] at cR hbB hm1
              obtain ⟨Ls, hLs⟩ : ∃ Ls, (S.getD (gk s gz k) []).length = Ls := ⟨_, rfl⟩
              rw [hLs] at cRS hbS hm2
              clear hLn rdB hLs rdS
              clear hrB hrS hBm hSm hnb hBl hSl
              generalize gk s gz k = g' at *
              generalize bk r s k = b' at *
              obtain ⟨cb0, cb1⟩ := cb
              have hsk : ∀ W, Calls Tryd.prog 75 #[.int .i64 V] W fun e w' => e = .returned (.bool true) ∧ W = w' := fun W => by have := sent_ok V W; rwa [hs2] at this
              gi_wp2
              have hmo : Tryd.prog.follows .mixedOrders = true := by kernel_rfl
              refine region_quiet_round l rfl hmo (by kernel_rfl) (by kernel_rfl) ?_
              repeat (gi_big_quiet_step (fail))
              refine BigFrame.wpQuietIn_want ?_ rfl ?_
              · intro w _ f _; trivial
              intro K hK
              gi_big_quiet_op
              gi_big_quiet_call ((exact callsIn_wide.2 ((hsk _).mono fun e w' h => ⟨h.1, _, h.2.symm⟩)))
              repeat (gi_big_quiet_step (fail))
              refine wpQuietIn_nil ?_
              intro _ hw'
              obtain ⟨nq, hw''⟩ := hw'
              subst hw''
              gi_wp2
              have lb := (Array.getElem?_eq_some_iff.1 ho).1
              have zw := B1.out.size
              have zb := hb2.size
              have hc19 : W.cell? ⟨wr.heap.size + 1, 0, none⟩ = some (.slice (some ⟨wr.heap.size, 0, none⟩) 256 256) := by
                have e1 : ((wr.alloc (.cells (madeCells #[.int .i64 0] 256) 3)).alloc (.cells #[.slice (some ⟨wr.heap.size, 0, none⟩) 256 256] 39)).heap[wr.heap.size + 1]? = some (.cells #[.slice (some ⟨wr.heap.size, 0, none⟩) 256 256] 39) := by
                  have := World.alloc_heap_new (wr.alloc (.cells (madeCells #[.int .i64 0] 256) 3)) (.cells #[.slice (some ⟨wr.heap.size, 0, none⟩) 256 256] 39)
                  rwa [World.size_alloc] at this
                have e2 : W.heap[wr.heap.size + 1]? = some (.cells #[.slice (some ⟨wr.heap.size, 0, none⟩) 256 256] 39) := (h2.block _ (by have := hb2.size; simp at this; omega) (by omega)).trans ((hb2.block _ (by omega)).trans e1)
                exact cell_box e2
              have hc13 : W.cell? ⟨w.heap.size + 1 + 1 + 1 + 1, 0, none⟩ = some (.func (.func 19) #[] #[]) := cell_box (hkeep _ _ (by omega) b13.out)
              have hne1 : w.heap.size + 5 ≤ wr.heap.size := z1
              have hneb : b ≠ wr.heap.size := by omega
              have ck : ∀ (w' : World) (hS : ∀ j o, j ≠ wr.heap.size → W.heap[j]? = some o → w'.heap[j]? = some o) (j o : Nat) (v : Value), j ≠ wr.heap.size → W.cell? ⟨j, o, none⟩ = some v → w'.cell? ⟨j, o, none⟩ = some v := fun w' hS j o v hj hc => cell_same' hc (fun ob => hS j ob hj)
              have hSc : ∀ w' : World, (∀ j o, j ≠ wr.heap.size → W.heap[j]? = some o → w'.heap[j]? = some o) → w'.cell? ⟨wr.heap.size + 1, 0, none⟩ = some (.slice (some ⟨wr.heap.size, 0, none⟩) 256 256) ∧ w'.cell? ⟨w.heap.size + 1 + 1 + 1 + 1, 0, none⟩ = some (.func (.func 19) #[] #[]) ∧ w'.cell? ⟨w.heap.size + 1 + 1 + 1, 0, none⟩ = some (.slice (some ⟨ab, ao, none⟩) 256 lc) ∧ w'.cell? ⟨ab, ao + k, none⟩ = some (.int .i64 X) ∧ w'.cell? ⟨w.heap.size + 1 + 1, 0, none⟩ = some (.slice (some ⟨sb, so, none⟩) S.length pc) ∧ w'.cell? ⟨b, 0, none⟩ = some (.int .i64 (g' : Int)) ∧ w'.cell? ⟨b, 1, none⟩ = some (.int .i64 (b' : Int)) ∧ w'.cell? ⟨sb, so + g', none⟩ = some (.slice (some ⟨s2b, s2o, none⟩) Ls sc) ∧ w'.cell? ⟨s2b, s2o + b', none⟩ = some (.int .i64 T) := fun w' hS =>
                ⟨ck w' hS _ _ _ (by omega) hc19, ck w' hS _ _ _ (by omega) hc13, ck w' hS _ _ _ (by omega) cL, ck w' hS _ _ _ (by omega) cA, ck w' hS _ _ _ (by omega) cS, ck w' hS _ _ _ hneb cb0, ck w' hS _ _ _ hneb cb1, ck w' hS _ _ _ (by omega) cRS, ck w' hS _ _ _ (by omega) cVS⟩
              clear ck
              have hS : (fun w' : World => ∀ j o, j ≠ wr.heap.size → W.heap[j]? = some o → w'.heap[j]? = some o) (W.drewN nq).drew := fun j o _ h => h
              have hk' : (k : Int) < 256 := by omega
              have hgS' : (g' : Int) < (S.length : Int) := by omega
              have hbS' : (b' : Int) < (Ls : Int) := by omega
              refine region_held_round l (fun w' => ∀ j o, j ≠ wr.heap.size → W.heap[j]? = some o → w'.heap[j]? = some o) hmo (by kernel_rfl) (fun h => by obtain ⟨_, _, h⟩ := h; exact h) ?_
              show wpAnyH _ _ _ _ _ 22 _ _ _
              refine wpAnyH_take (i := 0) (v := ?v0) rfl (by kernel_rfl) (by kernel_rfl) (by kernel_rfl) (fun _ _ _ h => h) (Or.inl ⟨by rfl, ?y0⟩) hS ?r0
              case y0 => intro w' hw'; have s1 := (hSc w' hw').1; go_simp; try (with_reducible rfl)
              try simp only [Act.put, List.getElem_toArray, List.getElem_cons_succ, List.getElem_cons_zero, List.setIfInBounds_toArray, List.set_cons_zero, List.set_cons_succ]
              refine wpAnyH_take (i := 1) (v := ?v1) rfl (by kernel_rfl) (by kernel_rfl) (by kernel_rfl) (fun _ _ _ h => h) (Or.inl ⟨by rfl, ?y1⟩) hS ?r1
              case y1 => intro w' hw'; go_simp; try (with_reducible rfl)
              try simp only [Act.put, List.getElem_toArray, List.getElem_cons_succ, List.getElem_cons_zero, List.setIfInBounds_toArray, List.set_cons_zero, List.set_cons_succ]
              refine wpAnyH_take (i := 2) (v := ?v2) rfl (by kernel_rfl) (by kernel_rfl) (by kernel_rfl) (fun _ _ _ h => h) (Or.inl ⟨by rfl, ?y2⟩) hS ?r2
              case y2 => intro w' hw'; have s2 := (hSc w' hw').2.1; go_simp; try (with_reducible rfl)
              try simp only [Act.put, List.getElem_toArray, List.getElem_cons_succ, List.getElem_cons_zero, List.setIfInBounds_toArray, List.set_cons_zero, List.set_cons_succ]
              refine wpAnyH_take (i := 3) (v := ?v3) rfl (by kernel_rfl) (by kernel_rfl) (by kernel_rfl) (fun _ _ _ h => h) (Or.inl ⟨by rfl, ?y3⟩) hS ?r3
              case y3 => intro w' hw'; have s3 := (hSc w' hw').2.2.1; go_simp; try (with_reducible rfl)
              try simp only [Act.put, List.getElem_toArray, List.getElem_cons_succ, List.getElem_cons_zero, List.setIfInBounds_toArray, List.set_cons_zero, List.set_cons_succ]
              refine wpAnyH_take (i := 4) (v := ?v4) rfl (by kernel_rfl) (by kernel_rfl) (by kernel_rfl) (fun _ _ _ h => h) (Or.inl ⟨by rfl, ?y4⟩) hS ?r4
              case y4 => intro w' hw'; go_simp; try (with_reducible rfl)
              try simp only [Act.put, List.getElem_toArray, List.getElem_cons_succ, List.getElem_cons_zero, List.setIfInBounds_toArray, List.set_cons_zero, List.set_cons_succ]
              refine wpAnyH_take (i := 5) (v := ?v5) rfl (by kernel_rfl) (by kernel_rfl) (by kernel_rfl) (fun _ _ _ h => h) (Or.inl ⟨by rfl, ?y5⟩) hS ?r5
              case y5 => intro w' hw'; go_simp; try (with_reducible rfl)
              try simp only [Act.put, List.getElem_toArray, List.getElem_cons_succ, List.getElem_cons_zero, List.setIfInBounds_toArray, List.set_cons_zero, List.set_cons_succ]
              refine wpAnyH_take (i := 6) (v := ?v6) rfl (by kernel_rfl) (by kernel_rfl) (by kernel_rfl) (fun _ _ _ h => h) (Or.inl ⟨by rfl, ?y6⟩) hS ?r6
              case y6 => intro w' hw'; have s4 := (hSc w' hw').2.2.2.1; go_simp; try (with_reducible rfl)
              try simp only [Act.put, List.getElem_toArray, List.getElem_cons_succ, List.getElem_cons_zero, List.setIfInBounds_toArray, List.set_cons_zero, List.set_cons_succ]
              refine wpAnyH_take (i := 7) (v := ?v7) rfl (by kernel_rfl) (by kernel_rfl) (by kernel_rfl) (fun _ _ _ h => h) (Or.inl ⟨by rfl, ?y7⟩) hS ?r7
              case y7 => intro w' hw'; have s5 := (hSc w' hw').2.2.2.2.1; go_simp; try (with_reducible rfl)
              try simp only [Act.put, List.getElem_toArray, List.getElem_cons_succ, List.getElem_cons_zero, List.setIfInBounds_toArray, List.set_cons_zero, List.set_cons_succ]
              refine wpAnyH_take (i := 8) (v := ?v8) rfl (by kernel_rfl) (by kernel_rfl) (by kernel_rfl) (fun _ _ _ h => h) (Or.inl ⟨by rfl, ?y8⟩) hS ?r8
              case y8 => intro w' hw'; go_simp; try (with_reducible rfl)
              try simp only [Act.put, List.getElem_toArray, List.getElem_cons_succ, List.getElem_cons_zero, List.setIfInBounds_toArray, List.set_cons_zero, List.set_cons_succ]
              refine wpAnyH_take (i := 9) (v := ?v9) rfl (by kernel_rfl) (by kernel_rfl) (by kernel_rfl) (fun _ _ _ h => h) (Or.inl ⟨by rfl, ?y9⟩) hS ?r9
              case y9 => intro w' hw'; have s6 := (hSc w' hw').2.2.2.2.2.1; go_simp; try (with_reducible rfl)
              try simp only [Act.put, List.getElem_toArray, List.getElem_cons_succ, List.getElem_cons_zero, List.setIfInBounds_toArray, List.set_cons_zero, List.set_cons_succ]
              refine wpAnyH_take (i := 10) (v := ?v10) rfl (by kernel_rfl) (by kernel_rfl) (by kernel_rfl) (fun _ _ _ h => h) (Or.inl ⟨by rfl, ?y10⟩) hS ?r10
              case y10 => intro w' hw'; go_simp; try (with_reducible rfl)
              try simp only [Act.put, List.getElem_toArray, List.getElem_cons_succ, List.getElem_cons_zero, List.setIfInBounds_toArray, List.set_cons_zero, List.set_cons_succ]
              refine wpAnyH_take (i := 11) (v := ?v11) rfl (by kernel_rfl) (by kernel_rfl) (by kernel_rfl) (fun _ _ _ h => h) (Or.inl ⟨by rfl, ?y11⟩) hS ?r11
              case y11 => intro w' hw'; have s8 := (hSc w' hw').2.2.2.2.2.2.2.1; go_simp; try (with_reducible rfl)
              try simp only [Act.put, List.getElem_toArray, List.getElem_cons_succ, List.getElem_cons_zero, List.setIfInBounds_toArray, List.set_cons_zero, List.set_cons_succ]
              refine wpAnyH_take (i := 12) (v := ?v12) rfl (by kernel_rfl) (by kernel_rfl) (by kernel_rfl) (fun _ _ _ h => h) (Or.inl ⟨by rfl, ?y12⟩) hS ?r12
              case y12 => intro w' hw'; go_simp; try (with_reducible rfl)
              try simp only [Act.put, List.getElem_toArray, List.getElem_cons_succ, List.getElem_cons_zero, List.setIfInBounds_toArray, List.set_cons_zero, List.set_cons_succ]
              refine wpAnyH_take (i := 13) (v := ?v13) rfl (by kernel_rfl) (by kernel_rfl) (by kernel_rfl) (fun _ _ _ h => h) (Or.inl ⟨by rfl, ?y13⟩) hS ?r13
              case y13 => intro w' hw'; have s7 := (hSc w' hw').2.2.2.2.2.2.1; go_simp; try (with_reducible rfl)
              try simp only [Act.put, List.getElem_toArray, List.getElem_cons_succ, List.getElem_cons_zero, List.setIfInBounds_toArray, List.set_cons_zero, List.set_cons_succ]
              refine wpAnyH_take (i := 14) (v := ?v14) rfl (by kernel_rfl) (by kernel_rfl) (by kernel_rfl) (fun _ _ _ h => h) (Or.inl ⟨by rfl, ?y14⟩) hS ?r14
              case y14 => intro w' hw'; go_simp; try (with_reducible rfl)
              try simp only [Act.put, List.getElem_toArray, List.getElem_cons_succ, List.getElem_cons_zero, List.setIfInBounds_toArray, List.set_cons_zero, List.set_cons_succ]
              refine wpAnyH_take (i := 15) (v := ?v15) rfl (by kernel_rfl) (by kernel_rfl) (by kernel_rfl) (fun _ _ _ h => h) (Or.inl ⟨by rfl, ?y15⟩) hS ?r15
              case y15 => intro w' hw'; have s9 := (hSc w' hw').2.2.2.2.2.2.2.2; go_simp; try (with_reducible rfl)
              try simp only [Act.put, List.getElem_toArray, List.getElem_cons_succ, List.getElem_cons_zero, List.setIfInBounds_toArray, List.set_cons_zero, List.set_cons_succ]
              refine wpAnyH_ready (rs := [16]) (by kernel_rfl) (by simp) ?_
              refine AllReadyH.cons rfl (fun K hK => ?_) AllReadyH.nil
              simp only [List.getElem_toArray, List.getElem_cons_succ, List.getElem_cons_zero]
              rw [if_pos (by rfl)]
              have D0 : Below W.heap.size W (W.drewN nq).drew := (Fx.drewN_below W nq).drew
              have hq0 : Fx.Qs (W.drewN nq).drew := (hqs.below BW).drewN nq
              go_simp
              refine (hfn X T _ hq0).mono ?_
              rintro e w5 ⟨rfl, hq5, hb5⟩
              have hS5 : (fun w' : World => ∀ j o, j ≠ wr.heap.size → W.heap[j]? = some o → w'.heap[j]? = some o) w5 := fun j o _ h => (hb5.block j (Array.getElem?_eq_some_iff.1 h).1).trans h
              refine hK.out _ _ hS5 (fun _ => ?_)
              try simp only [Act.put, List.getElem_toArray, List.getElem_cons_succ, List.getElem_cons_zero, List.setIfInBounds_toArray, List.set_cons_zero, List.set_cons_succ]
              refine wpAnyH_take (i := 17) (v := ?v17) rfl (by kernel_rfl) (by kernel_rfl) (by kernel_rfl) (fun _ _ _ h => h) (Or.inl ⟨by rfl, ?y17⟩) hS5 ?r17
              case y17 => intro w' hw'; go_simp; try (with_reducible rfl)
              try simp only [Act.put, List.getElem_toArray, List.getElem_cons_succ, List.getElem_cons_zero, List.setIfInBounds_toArray, List.set_cons_zero, List.set_cons_succ]
              refine wpAnyH_take (i := 18) (v := ?v18) rfl (by kernel_rfl) (by kernel_rfl) (by kernel_rfl) (fun _ _ _ h => h) (Or.inl ⟨by rfl, ?y18⟩) hS5 ?r18
              case y18 => intro w' hw'; go_simp; try (with_reducible rfl)
              try simp only [Act.put, List.getElem_toArray, List.getElem_cons_succ, List.getElem_cons_zero, List.setIfInBounds_toArray, List.set_cons_zero, List.set_cons_succ]
              refine wpAnyH_take (i := 19) (v := ?v19) rfl (by kernel_rfl) (by kernel_rfl) (by kernel_rfl) (fun _ _ _ h => h) (Or.inl ⟨by rfl, ?y19⟩) hS5 ?r19
              case y19 => intro w' hw'; go_simp; try (with_reducible rfl)
              try simp only [Act.put, List.getElem_toArray, List.getElem_cons_succ, List.getElem_cons_zero, List.setIfInBounds_toArray, List.set_cons_zero, List.set_cons_succ]
              refine wpAnyH_take (i := 20) (v := ?v20) rfl (by kernel_rfl) (by kernel_rfl) (by kernel_rfl) (fun _ _ _ h => h) (Or.inl ⟨by rfl, ?y20⟩) hS5 ?r20
              case y20 => intro w' hw'; go_simp; try (with_reducible rfl)
              try simp only [Act.put, List.getElem_toArray, List.getElem_cons_succ, List.getElem_cons_zero, List.setIfInBounds_toArray, List.set_cons_zero, List.set_cons_succ]
              have R5 : w5.rowIs wr.heap.size 3 256 (fun j => .int .i64 (if j < k then QV r s m gz B S lz f j else 0)) := h1.of_block (hb5.block _ h1.lt)
              have q5 := R5.cell (i := k) hk
              have f5 := R5.frozen k
              refine wpAnyH_ready (rs := [21]) (by kernel_rfl) (by simp) ?_
              refine AllReadyH.cons rfl (fun K2 hK2 => ?_) AllReadyH.nil
              try simp only [List.getElem_toArray, List.getElem_cons_succ, List.getElem_cons_zero]
              rw [if_pos (by rfl)]
              go_simp
              refine hK2.out _ _ (fun j o hj ho => ?_) (fun _ => ?_)
              · have hne : wr.heap.size ≠ j := fun e => hj e.symm
                have e := hS5 j o hj ho
                rw [← e]
                simp only [World.setCell]
                show (w5.heap.modify wr.heap.size _)[j]? = w5.heap[j]?
                rw [Array.getElem?_modify, if_neg hne]
              refine wpAnyH_done (by kernel_rfl) ?_ _
              have BD : Below W.heap.size W w5 := ((Below.refl _ W).trans D0).trans hb5
              have lk := h1.lt
              refine ⟨⟨(R5.set k (.int .i64 (f X T))).congr (fun j hj => ?_), h2.trans ((Part.of_below BD).trans (Part.set (p := ⟨wr.heap.size, k, none⟩) _ rfl))⟩, ?_, fun j q => ?_⟩
              · by_cases e : j = k
                · subst e; rw [if_pos rfl, if_pos (by omega), hQ]
                · rw [if_neg e]
                  by_cases e2 : j < k
                  · rw [if_pos e2, if_pos (by omega)]
                  · rw [if_neg e2, if_neg (by omega)]
              · have := BD.size; simp; omega
              · have hjW : j < W.heap.size ∧ j ≠ wr.heap.size := by
                  rcases q with q | q | q
                  · have := HU j q; have := HU2 j q; exact ⟨by omega, by omega⟩
                  · exact ⟨by omega, by omega⟩
                  · exact ⟨by omega, by omega⟩
                have hne : ¬ wr.heap.size = j := fun e => hjW.2 e.symm
                simp only [World.setCell]
                show (w5.heap.modify wr.heap.size _)[j]? = W.heap[j]?
                rw [Array.getElem?_modify, if_neg hne]
                exact BD.block j hjW.1
            · have hQ : QV r s m gz B S lz f k = 0 := by unfold QV qv; rw [if_neg (fun h => hs h.2.2)]
              have hs2 : snt ((B.getD (gk s gz k) []).getD (bk r s k) 0) = false := by simpa using hs
              have hnz : (lz.getD k 0 != 0) = true := by simpa using hz
              have hnz2 : (lz.getD k 0 == 0) = false := by simpa using hz
              have hmb : decide ((bk r s k : Int) < m) = true := by simpa using hm
              generalize lz.getD k 0 = X at *
              generalize (B.getD (gk s gz k) []).getD (bk r s k) 0 = V at *
              obtain ⟨Ln, hLn⟩ : ∃ Ln, (B.getD (gk s gz k) []).length = Ln := ⟨_, rfl⟩
              rw [hLn] at cR hbB hm1
              clear hLn rdB
              clear hrB hrS hBm hSm hnb hBl hSl
              generalize gk s gz k = g' at *
              generalize bk r s k = b' at *
              obtain ⟨cb0, cb1⟩ := cb
              have hsk : ∀ W, Calls Tryd.prog 75 #[.int .i64 V] W fun e w' => e = .returned (.bool false) ∧ W = w' := fun W => by have := sent_ok V W; rwa [hs2] at this
              gi_wp2
              have hmo : Tryd.prog.follows .mixedOrders = true := by kernel_rfl
              refine region_quiet_round l rfl hmo (by kernel_rfl) (by kernel_rfl) ?_
              repeat (gi_big_quiet_step (fail))
              refine BigFrame.wpQuietIn_want ?_ rfl ?_
              · intro w _ f _; trivial
              intro K hK
              gi_big_quiet_op
              gi_big_quiet_call ((exact callsIn_wide.2 ((hsk _).mono fun e w' h => ⟨h.1, _, h.2.symm⟩)))
              repeat (gi_big_quiet_step (fail))
              refine wpQuietIn_nil ?_
              intro _ hw'
              obtain ⟨nq, hw''⟩ := hw'
              subst hw''
              gi_wp2
              have D := Fx.drewN_below W nq
              refine ⟨⟨(h1.of_block (D.block _ h1.lt)).congr (fun j hj => ?_), h2.trans (Part.of_below D)⟩, D.size, fun j q => D.block j ?_⟩
              · by_cases e : j = k
                · subst e; simp [hQ]
                · by_cases e2 : j < k
                  · rw [if_pos e2, if_pos (by omega)]
                  · rw [if_neg e2, if_neg (by omega)]
              · have lb := (Array.getElem?_eq_some_iff.1 ho).1
                rcases q with q | q | q
                · have := HU j q; omega
                · omega
                · omega
          have hQ : QV r s m gz B S lz f k = 0 := by unfold QV qv; rw [if_neg (fun h => hm h.2.1)]
          have hnz : (lz.getD k 0 != 0) = true := by simpa using hz
          have hnz2 : (lz.getD k 0 == 0) = false := by simpa using hz
          generalize lz.getD k 0 = X at *
          have hmb : decide ((bk r s k : Int) < m) = false := by simpa using hm
          obtain ⟨cb0, cb1⟩ := cb
          gi_wp2
          have hmo : Tryd.prog.follows .mixedOrders = true := by kernel_rfl
          refine region_quiet_round l rfl hmo (by kernel_rfl) (by kernel_rfl) ?_
          repeat (gi_big_quiet_step (fail))
          refine BigFrame.wpQuietIn_skip ?_ rfl ?_
          · intro w _ f _; trivial
          simp only [Act.put, List.setIfInBounds_toArray, List.set_cons_succ, List.set_cons_zero]
          repeat (gi_big_quiet_step (fail))
          refine wpQuietIn_nil ?_
          intro _ hw'
          obtain ⟨nq, hw''⟩ := hw'
          subst hw''
          gi_wp2
          have D := Fx.drewN_below W nq
          refine ⟨⟨(h1.of_block (D.block _ h1.lt)).congr (fun j hj => ?_), h2.trans (Part.of_below D)⟩, D.size, fun j q => D.block j ?_⟩
          · by_cases e : j = k
            · subst e; simp [hQ]
            · by_cases e2 : j < k
              · rw [if_pos e2, if_pos (by omega)]
              · rw [if_neg e2, if_neg (by omega)]
          · have lb := (Array.getElem?_eq_some_iff.1 ho).1
            rcases q with q | q | q
            · have := HU j q; omega
            · omega
            · omega
      case done =>
        rintro W ⟨h1, h2⟩ hsl hK
        have e1 : ((wr.alloc (.cells (madeCells #[.int .i64 0] 256) 3)).alloc (.cells #[.slice (some ⟨wr.heap.size, 0, none⟩) 256 256] 39)).heap[wr.heap.size + 1]? = some (.cells #[.slice (some ⟨wr.heap.size, 0, none⟩) 256 256] 39) := by
          have := World.alloc_heap_new (wr.alloc (.cells (madeCells #[.int .i64 0] 256) 3)) (.cells #[.slice (some ⟨wr.heap.size, 0, none⟩) 256 256] 39)
          rwa [World.size_alloc] at this
        have c19 : W.cell? ⟨wr.heap.size + 1, 0, none⟩ = some (.slice (some ⟨wr.heap.size, 0, none⟩) 256 256) := cell_box ((h2.block _ (by have := hb2.size; simp at this; omega) (by omega)).trans ((hb2.block _ (by omega)).trans e1))
        have BW : Below w.heap.size w W := B2.trans (h2.below B2.size (fun j q => by omega))
        clear HP HQ r0w lo lt0 lt5 lt7 ltg
        gi_wp2
        refine ⟨by simp, .inl ⟨_, _, rfl, run_takeDeferred hK, ?_⟩⟩
        have zb := hb2.size
        have zw := B1.out.size
        have z2 := B2.size
        refine ⟨_, results_tmp2 rfl _ _ _, wr.heap.size, rfl, ((h1.of_block (World.putObj_heap_other (by omega))).congr fun j hj => by rw [if_pos hj]), by omega, ?_⟩
        exact BW.trans (belowK_b (w := w) (Nat.le_refl _) W w2.heap.size _ _ (by omega) hK rfl rfl)
end Go.Proofs.YtanjcbnkkhbkkaaDoor.Qn

/- What quant's two calls answer. -/
namespace Go.Proofs.YtanjcbnkkhbkkaaDoor.Qn
open Go Go.ChangeShapes Go.WideShapes Go.ChangeAt Go.RowKit Go.Proofs.YtanjcbnkkhbkkaaDoor.If Go.Proofs.YtanjcbnkkhbkkaaDoor.Bd

/-- What a call is given, but for the lines. -/
structure Inp (w : World) (ga : Option Addr) (gz : List Int) (O P : Option Addr) (B S : List (List Int)) : Prop where
  gl : gz.length ≤ 100
  bl : B.length ≤ 100
  sl : S.length ≤ 100
  br : ∀ i, i < B.length → (B.getD i []).length ≤ maxLen
  sr : ∀ i, i < S.length → (S.getD i []).length ≤ maxLen
  hg : RdA w ga gz
  rB : RdR w O B
  rS : RdR w P S
theorem Inp.below {w w' : World} {ga : Option Addr} {gz : List Int} {O P : Option Addr} {B S : List (List Int)} (h : Inp w ga gz O P B S) (hb : Below w.heap.size w w') : Inp w' ga gz O P B S :=
  ⟨h.gl, h.bl, h.sl, h.br, h.sr, h.hg.below hb, h.rB.below hb, h.rS.below hb⟩
def inr (most : Int) (lz : List Int) : Prop := ∀ j, j < 256 → -most ≤ lz.getD j 0 ∧ lz.getD j 0 ≤ most
/-- Nothing is wrong. -/
def Fine (r s h m : Int) (gz : List Int) (B S : List (List Int)) (lz : List Int) (most : Int) : Prop := QE r s h m gz B S 0 ∧ lz.length = 256 ∧ inr most lz

theorem turned_err (r s h m : Int) (ga : Option Addr) (gc : Nat) (gz : List Int) (O P A : Option Addr) (oc pc lc : Nat) (B S : List (List Int)) (lz : List Int) (most : Int) (fn : Nat) (w : World) (I : Inp w ga gz O P B S) (hll : lz.length ≤ 1000) (rl : RdA w A lz) (hm0 : 0 ≤ most) (hm1 : most ≤ 1099511627776) (hf : ¬ Fine r s h m gz B S lz most) :
    Calls Tryd.prog 53 #[.int .i64 r, .agg #[.int .u8 s, .int .u8 h, .int .i64 m, .slice ga gz.length gc], .slice O B.length oc, .slice P S.length pc, .slice A lz.length lc, .int .i64 most, .func (.func fn) #[] #[]] w fun e w' => ∃ c, c ≠ 0 ∧ e = .returned (.tuple #[.slice none 0 0, .int .i64 c]) ∧ Below w.heap.size w w' := by
  obtain ⟨c, hq⟩ := qe_ex r s h m gz B S
  by_cases hc : c = 0
  · subst hc
    by_cases hl : lz.length = 256
    · have hbad : ∃ j : Nat, j < 256 ∧ ¬ (-most ≤ lz.getD j 0 ∧ lz.getD j 0 ≤ most) := Classical.byContradiction fun hn => hf ⟨hq, hl, fun j hj => Classical.byContradiction fun hx => hn ⟨j, hj, hx⟩⟩
      obtain ⟨j, hj, hx⟩ := hbad
      exact (turned_e3 r s h m ga gc gz O P A oc pc lc B S lz most fn w (by have := I.gl; omega) (by have := I.bl; omega) (by have := I.sl; omega) I.br I.sr (by omega) I.hg I.rB I.rS rl 0 hq rfl hl hm0 hm1 ⟨j, by omega, hj, hx⟩).mono fun e w' hh => ⟨2, by decide, hh.1, hh.2⟩
    · exact (turned_e2 r s h m ga gc gz O P A oc pc lc B S lz most fn w (by have := I.gl; omega) (by have := I.bl; omega) (by have := I.sl; omega) I.br I.sr (by omega) I.hg I.rB I.rS rl 0 hq rfl hl).mono fun e w' hh => ⟨4, by decide, hh.1, hh.2⟩
  · exact (turned_e1 r s h m ga gc gz O P A oc pc lc B S lz most fn w (by have := I.gl; omega) (by have := I.bl; omega) (by have := I.sl; omega) I.br I.sr (by omega) I.hg I.rB I.rS rl c hq hc).mono fun e w' hh => ⟨c, hc, hh.1, hh.2⟩
theorem chk_rate {r s h m : Int} {gz : List Int} (hc : chk r s h m gz = 0) : 0 ≤ r ∧ r ≤ 11 := by
  by_cases c : r < 0 ∨ 11 < r
  · rw [chk_arg c] at hc; exact absurd hc (by decide)
  · omega
/-- Lines that were answered. -/
def Ansr (w w' : World) (e : Ending) (F : Nat → Int) : Prop := ∃ g, e = .returned (.tuple #[.slice (some ⟨g, 0, none⟩) 256 256, .int .i64 0]) ∧ w'.rowIs g 3 256 (fun j => .int .i64 (F j)) ∧ w.heap.size ≤ g ∧ Below w.heap.size w w'

theorem lines_t (r s h m : Int) (ga : Option Addr) (gc : Nat) (gz : List Int) (O P A : Option Addr) (oc pc lc : Nat) (B S : List (List Int)) (lz : List Int) (w : World) (hqs : Fx.Qs w) (I : Inp w ga gz O P B S) (rl : RdA w A lz) (hf : Fine r s h m gz B S lz 8191) :
    Calls Tryd.prog 53 #[.int .i64 r, .agg #[.int .u8 s, .int .u8 h, .int .i64 m, .slice ga gz.length gc], .slice O B.length oc, .slice P S.length pc, .slice A lz.length lc, .int .i64 8191, .func (.func 17) #[] #[]] w fun e w' => Ansr w w' e (QV r s m gz B S lz Fx.FL) := by
  obtain ⟨hq, hl, hin⟩ := hf
  have hck := (qe_zero hq).1
  obtain ⟨r0, r1⟩ := chk_rate hck
  exact turned_17 r s h m ga gc gz O P A oc pc lc B S lz 8191 w r0 r1 hck (by have := I.gl; omega) (by have := I.bl; omega) (by have := I.sl; omega) I.br I.sr I.hg I.rB I.rS rl hl hq (by decide) (by decide) hin Fx.FL Fx.EL hqs (fun x st W hW => (Fx.line_k x st (Fx.Kp.refl hW)).mono fun e w' hh => ⟨hh.1, hh.2.1, hh.2.2⟩)
theorem lines_good (r s h m : Int) (ga : Option Addr) (gc : Nat) (gz : List Int) (O P A : Option Addr) (oc pc lc : Nat) (B S : List (List Int)) (lz : List Int) (w : World) (hqs : Fx.Qs w) (I : Inp w ga gz O P B S) (rl : RdA w A lz) (hf : Fine r s h m gz B S lz 8191) :
    Calls Tryd.prog 31 #[.int .i64 r, .agg #[.int .u8 s, .int .u8 h, .int .i64 m, .slice ga gz.length gc], .slice O B.length oc, .slice P S.length pc, .slice A lz.length lc] w fun e w' => Ansr w w' e (QV r s m gz B S lz Fx.FL) := by
  have HB := Lib.hid (box_below w (.cells #[.int .u8 s, .int .u8 h, .int .i64 m, .slice ga gz.length gc] 50))
  obtain ⟨y0, y1, y2, y3⟩ := boxed w s h m (.slice ga gz.length gc) _ (Below.refl _ _)
  have HT := Lib.hid (lines_t r s h m ga gc gz O P A oc pc lc B S lz _ (hqs.below HB.out) (I.below HB.out) (rl.below HB.out) hf)
  clear I rl hf hqs
  go_enter Tryd.func31, Tryd.ntmps31
  go_wp2_with (go_at_call 53; ((with_reducible refine (HT.out).mono ?_); rintro e w1 ⟨g, rfl, hr, hg, hb⟩))
  go_ret2
  exact ⟨g, rfl, hr, by simp at hg; omega, belowT HB.out hb⟩
theorem lines_err (r s h m : Int) (ga : Option Addr) (gc : Nat) (gz : List Int) (O P A : Option Addr) (oc pc lc : Nat) (B S : List (List Int)) (lz : List Int) (w : World) (I : Inp w ga gz O P B S) (hll : lz.length ≤ 1000) (rl : RdA w A lz) (hf : ¬ Fine r s h m gz B S lz 8191) :
    Calls Tryd.prog 31 #[.int .i64 r, .agg #[.int .u8 s, .int .u8 h, .int .i64 m, .slice ga gz.length gc], .slice O B.length oc, .slice P S.length pc, .slice A lz.length lc] w fun e w' => ∃ c, c ≠ 0 ∧ e = .returned (.tuple #[.slice none 0 0, .int .i64 c]) ∧ Below w.heap.size w w' := by
  have HB := Lib.hid (box_below w (.cells #[.int .u8 s, .int .u8 h, .int .i64 m, .slice ga gz.length gc] 50))
  obtain ⟨y0, y1, y2, y3⟩ := boxed w s h m (.slice ga gz.length gc) _ (Below.refl _ _)
  have HT := Lib.hid (turned_err r s h m ga gc gz O P A oc pc lc B S lz 8191 17 _ (I.below HB.out) hll (rl.below HB.out) (by decide) (by decide) hf)
  clear I rl hf hll
  go_enter Tryd.func31, Tryd.ntmps31
  go_wp2_with (go_at_call 53; ((with_reducible refine (HT.out).mono ?_); rintro e w1 ⟨c, hc, rfl, hb⟩))
  go_ret2
  exact ⟨c, hc, rfl, belowT HB.out hb⟩

theorem quant_t (r s h m : Int) (ga : Option Addr) (gc : Nat) (gz : List Int) (O P A : Option Addr) (oc pc lc : Nat) (B S : List (List Int)) (lz : List Int) (w : World) (hqs : Fx.Qs w) (I : Inp w ga gz O P B S) (rl : RdA w A lz) (hf : Fine r s h m gz B S lz 268435455) :
    Calls Tryd.prog 53 #[.int .i64 r, .agg #[.int .u8 s, .int .u8 h, .int .i64 m, .slice ga gz.length gc], .slice O B.length oc, .slice P S.length pc, .slice A lz.length lc, .int .i64 268435455, .func (.func 19) #[] #[]] w fun e w' => Ansr w w' e (QV r s m gz B S lz Fx.FQ) := by
  obtain ⟨hq, hl, hin⟩ := hf
  have hck := (qe_zero hq).1
  obtain ⟨r0, r1⟩ := chk_rate hck
  exact turned_19 r s h m ga gc gz O P A oc pc lc B S lz 268435455 w r0 r1 hck (by have := I.gl; omega) (by have := I.bl; omega) (by have := I.sl; omega) I.br I.sr I.hg I.rB I.rS rl hl hq (by decide) (by decide) hin Fx.FQ Fx.EQ hqs (fun x st W hW => (Fx.quant_k x st (Fx.Kp.refl hW)).mono fun e w' hh => ⟨hh.1, hh.2.1, hh.2.2⟩)
theorem quant_good (r s h m : Int) (ga : Option Addr) (gc : Nat) (gz : List Int) (O P A : Option Addr) (oc pc lc : Nat) (B S : List (List Int)) (lz : List Int) (w : World) (hqs : Fx.Qs w) (I : Inp w ga gz O P B S) (rl : RdA w A lz) (hf : Fine r s h m gz B S lz 268435455) :
    Calls Tryd.prog 33 #[.int .i64 r, .agg #[.int .u8 s, .int .u8 h, .int .i64 m, .slice ga gz.length gc], .slice O B.length oc, .slice P S.length pc, .slice A lz.length lc] w fun e w' => Ansr w w' e (QV r s m gz B S lz Fx.FQ) := by
  have HB := Lib.hid (box_below w (.cells #[.int .u8 s, .int .u8 h, .int .i64 m, .slice ga gz.length gc] 50))
  obtain ⟨y0, y1, y2, y3⟩ := boxed w s h m (.slice ga gz.length gc) _ (Below.refl _ _)
  have HT := Lib.hid (quant_t r s h m ga gc gz O P A oc pc lc B S lz _ (hqs.below HB.out) (I.below HB.out) (rl.below HB.out) hf)
  clear I rl hf hqs
  go_enter Tryd.func33, Tryd.ntmps33
  go_wp2_with (go_at_call 53; ((with_reducible refine (HT.out).mono ?_); rintro e w1 ⟨g, rfl, hr, hg, hb⟩))
  go_ret2
  exact ⟨g, rfl, hr, by simp at hg; omega, belowT HB.out hb⟩
theorem quant_err (r s h m : Int) (ga : Option Addr) (gc : Nat) (gz : List Int) (O P A : Option Addr) (oc pc lc : Nat) (B S : List (List Int)) (lz : List Int) (w : World) (I : Inp w ga gz O P B S) (hll : lz.length ≤ 1000) (rl : RdA w A lz) (hf : ¬ Fine r s h m gz B S lz 268435455) :
    Calls Tryd.prog 33 #[.int .i64 r, .agg #[.int .u8 s, .int .u8 h, .int .i64 m, .slice ga gz.length gc], .slice O B.length oc, .slice P S.length pc, .slice A lz.length lc] w fun e w' => ∃ c, c ≠ 0 ∧ e = .returned (.tuple #[.slice none 0 0, .int .i64 c]) ∧ Below w.heap.size w w' := by
  have HB := Lib.hid (box_below w (.cells #[.int .u8 s, .int .u8 h, .int .i64 m, .slice ga gz.length gc] 50))
  obtain ⟨y0, y1, y2, y3⟩ := boxed w s h m (.slice ga gz.length gc) _ (Below.refl _ _)
  have HT := Lib.hid (turned_err r s h m ga gc gz O P A oc pc lc B S lz 268435455 19 _ (I.below HB.out) hll (rl.below HB.out) (by decide) (by decide) hf)
  clear I rl hf hll
  go_enter Tryd.func33, Tryd.ntmps33
  go_wp2_with (go_at_call 53; ((with_reducible refine (HT.out).mono ?_); rintro e w1 ⟨c, hc, rfl, hb⟩))
  go_ret2
  exact ⟨c, hc, rfl, belowT HB.out hb⟩
end Go.Proofs.YtanjcbnkkhbkkaaDoor.Qn

/- Which lists are great; how far two numbers are apart. -/
namespace Go.Proofs.YtanjcbnkkhbkkaaDoor.Qn
open Go Go.ChangeShapes Go.WideShapes Go.ChangeAt Go.RowKit Go.Proofs.YtanjcbnkkhbkkaaDoor.If Go.Proofs.YtanjcbnkkhbkkaaDoor.Bd

def far (a b : Int) : Int := if b - a ≤ a - b then a - b else b - a
theorem far_ok40 (a b : Int) (w : World) (a0 : -1099511627776 ≤ a) (a1 : a ≤ 1099511627776) (b0 : -1099511627776 ≤ b) (b1 : b ≤ 1099511627776) : Calls Tryd.prog 40 #[.int .i64 a, .int .i64 b] w fun e w' => e = .returned (.int .i64 (far a b)) ∧ w = w' := by
  have e1 : IntKind.i64.wrap (a - b) = a - b := Fx.i64_in (by omega) (by omega)
  have e2 : IntKind.i64.wrap (b - a) = b - a := Fx.i64_in (by omega) (by omega)
  unfold far
  by_cases h : b - a ≤ a - b
  · rw [if_pos h]
    have h2 : ¬ a - b < b - a := by omega
    go_enter Tryd.func40, Tryd.ntmps40
    go_wp2
    go_ret
    exact ⟨rfl, rfl⟩
  · rw [if_neg h]
    have h2 : a - b < b - a := by omega
    go_enter Tryd.func40, Tryd.ntmps40
    go_wp2
    go_ret
    exact ⟨rfl, rfl⟩

/-- How many numbers lists of lists hold. -/
def sm (z : List (List Int)) : Nat := z.foldl (fun n l => n + min l.length 10000) 0
theorem sm_succ (z : List (List Int)) (k : Nat) (h : k < z.length) : sm (z.take (k + 1)) = sm (z.take k) + min (z.getD k []).length 10000 := by
  unfold sm
  rw [List.take_succ_eq_append_getElem h, List.foldl_append]
  simp [h]
theorem sm_le (z : List (List Int)) : ∀ k, k ≤ z.length → sm (z.take k) ≤ 10000 * k
  | 0, _ => by simp [sm]
  | k + 1, h => by
    have := sm_le z k (by omega)
    rw [sm_succ z k (by omega)]
    omega
theorem sm_all (z : List (List Int)) : sm (z.take z.length) = sm z := by rw [List.take_length]
/-- Are lists great? -/
def grt (gl : Nat) (B S : List (List Int)) (ll : Nat) : Bool := decide (100 < gl) || decide (100 < B.length) || decide (100 < S.length) || decide (1000 < ll) || decide (10000 < sm B + sm S)
theorem retB2 {a b : Bool} {p : Prop} (h : a = b) (hp : p) : Ending.returned (.bool a) = .returned (.bool b) ∧ p := ⟨by rw [h], hp⟩
set_option maxRecDepth 100000 in
set_option maxHeartbeats 2000000 in
theorem great_ok (s h m : Int) (ga : Option Addr) (gc : Nat) (gz : List Int) (O P A : Option Addr) (oc pc lc ll : Nat) (B S : List (List Int)) (w : World) (hgl : gz.length ≤ maxLen) (hB : B.length ≤ maxLen) (hS : S.length ≤ maxLen) (hL : ll ≤ maxLen) (hBr : ∀ i, i < B.length → (B.getD i []).length ≤ maxLen) (hSr : ∀ i, i < S.length → (S.getD i []).length ≤ maxLen) (rB : RdR w O B) (rS : RdR w P S) :
    Calls Tryd.prog 29 #[.agg #[.int .u8 s, .int .u8 h, .int .i64 m, .slice ga gz.length gc], .slice O B.length oc, .slice P S.length pc, .slice A ll lc] w fun e w' => e = .returned (.bool (grt gz.length B S ll)) ∧ Below w.heap.size w w' := by
  have HB := Lib.hid (box_below w (.cells #[.int .u8 s, .int .u8 h, .int .i64 m, .slice ga gz.length gc] 50))
  obtain ⟨y0, y1, y2, y3⟩ := boxed w s h m (.slice ga gz.length gc) _ (Below.refl _ _)
  have HRB := Lib.hid (rB.below HB.out)
  have HRS := Lib.hid (rS.below HB.out)
  have HBR := Lib.hid hBr
  have HSR := Lib.hid hSr
  clear rB rS hBr hSr
  unfold maxLen at hgl hB hS hL
  by_cases c1 : 100 < gz.length
  · rw [show grt gz.length B S ll = true by simp [grt, c1]]
    go_enter Tryd.func29, Tryd.ntmps29
    go_wp2
    go_ret
    exact ⟨rfl, HB.out⟩
  by_cases c2 : 100 < B.length
  · rw [show grt gz.length B S ll = true by simp [grt, c2]]
    go_enter Tryd.func29, Tryd.ntmps29
    go_wp2
    go_ret
    exact ⟨rfl, HB.out⟩
  by_cases c3 : 100 < S.length
  · rw [show grt gz.length B S ll = true by simp [grt, c3]]
    go_enter Tryd.func29, Tryd.ntmps29
    go_wp2
    go_ret
    exact ⟨rfl, HB.out⟩
  by_cases c4 : 1000 < ll
  · rw [show grt gz.length B S ll = true by simp [grt, c4]]
    go_enter Tryd.func29, Tryd.ntmps29
    go_wp2
    go_ret
    exact ⟨rfl, HB.out⟩
  have HG := Lib.hid (show grt gz.length B S ll = decide (10000 < sm B + sm S) by simp [grt, c1, c2, c3, c4])
  have d1 : gz.length ≤ 100 := by omega
  have d2 : B.length ≤ 100 := by omega
  have d3 : S.length ≤ 100 := by omega
  have d4 : ll ≤ 1000 := by omega
  have bB := sm_le B B.length (Nat.le_refl _)
  rw [sm_all] at bB
  clear hgl hB hS hL
  rw [HG.out]
  go_enter Tryd.func29, Tryd.ntmps29
  go_wp2
  go_loop [9, 10] (fun n i => ∃ k : Nat, k ≤ B.length ∧ i = .int .i64 k ∧ n = .int .i64 ((sm (B.take k) : Nat) : Int)) (fun _ i => B.length - (intOf i).toNat)
  case atStart => exact ⟨0, by omega, rfl, rfl⟩
  case round =>
    obtain ⟨k, hk, rfl, rfl⟩ := hrel
    by_cases hlt : k < B.length
    · obtain ⟨b, off, a, c, e, lb, cR, rd⟩ := HRB.out k hlt
      subst e
      have hml := HBR.out k hlt
      have hlt' : (k : Int) < (B.length : Int) := by omega
      have hsl := sm_le B k hk
      have hss := sm_succ B k hlt
      generalize (B.getD k []).length = Ln at *
      generalize sm (B.take k) = V at *
      obtain ⟨V2, hV2⟩ : ∃ V2, sm (B.take (k + 1)) = V2 := ⟨_, rfl⟩
      rw [hV2] at hss
      have HV2 := Lib.hid hV2
      clear hV2
      unfold maxLen at hml
      by_cases hm : Ln ≤ 10000
      · have e1 : IntKind.i64.wrap ((V : Int) + (Ln : Int)) = (V2 : Int) := by rw [Fx.i64_in (by omega) (by omega)]; omega
        clear hss
        go_wp2
        go_round
        case rel => exact ⟨k + 1, by omega, by go_num, by rw [HV2.out]⟩
        case measure => simp [intOf]; omega
      · have e1 : IntKind.i64.wrap ((V : Int) + 10000) = (V2 : Int) := by rw [Fx.i64_in (by omega) (by omega)]; omega
        clear hss
        go_wp2
        go_round
        case rel => exact ⟨k + 1, by omega, by go_num, by rw [HV2.out]⟩
        case measure => simp [intOf]; omega
    · obtain rfl : k = B.length := by omega
      rw [sm_all]
      go_wp2
      go_loop [9, 11] (fun n i => ∃ k : Nat, k ≤ S.length ∧ i = .int .i64 k ∧ n = .int .i64 ((sm B + sm (S.take k) : Nat) : Int)) (fun _ i => S.length - (intOf i).toNat)
      case atStart => exact ⟨0, by omega, rfl, rfl⟩
      case round =>
        obtain ⟨k, hk, rfl, rfl⟩ := hrel
        by_cases hlt : k < S.length
        · obtain ⟨b, off, a, c, e, lb, cR, rd⟩ := HRS.out k hlt
          subst e
          have hml := HSR.out k hlt
          have hlt' : (k : Int) < (S.length : Int) := by omega
          have hsl := sm_le S k hk
          have hss := sm_succ S k hlt
          generalize (S.getD k []).length = Ln at *
          generalize sm (S.take k) = V at *
          obtain ⟨V2, hV2⟩ : ∃ V2, sm (S.take (k + 1)) = V2 := ⟨_, rfl⟩
          rw [hV2] at hss
          have HV2 := Lib.hid hV2
          clear hV2
          obtain ⟨V3, hV3⟩ : ∃ V3, sm B + V = V3 := ⟨_, rfl⟩
          have hV4 := Lib.hid (show sm B + V2 = V3 + min Ln 10000 by omega)
          rw [hV3]
          unfold maxLen at hml
          have hV5 : V3 ≤ 2000000 := by omega
          clear hss hV3
          by_cases hm : Ln ≤ 10000
          · have e1 : IntKind.i64.wrap ((V3 : Int) + (Ln : Int)) = ((V3 + Ln : Nat) : Int) := by rw [Fx.i64_in (by omega) (by omega)]; omega
            go_wp2
            go_round
            case rel => exact ⟨k + 1, by omega, by go_num, by rw [HV2.out, hV4.out, Nat.min_eq_left hm]; first | rfl | go_num⟩
            case measure => simp [intOf]; omega
          · have e1 : IntKind.i64.wrap ((V3 : Int) + 10000) = ((V3 + 10000 : Nat) : Int) := by rw [Fx.i64_in (by omega) (by omega)]; omega
            go_wp2
            go_round
            case rel => exact ⟨k + 1, by omega, by go_num, by rw [HV2.out, hV4.out, Nat.min_eq_right (by omega)]; first | rfl | go_num⟩
            case measure => simp [intOf]; omega
        · obtain rfl : k = S.length := by omega
          rw [sm_all]
          obtain ⟨V, hV⟩ : ∃ V, sm B + sm S = V := ⟨_, rfl⟩
          have HV := Lib.hid hV
          rw [hV]
          clear hV
          go_wp2
          go_ret
          exact retB2 (by rw [HV.out]; simp; omega) HB.out
theorem grt_no {gl ll : Nat} {B S : List (List Int)} (h : grt gl B S ll = false) : gl ≤ 100 ∧ B.length ≤ 100 ∧ S.length ≤ 100 ∧ ll ≤ 1000 := by
  simp only [grt, Bool.or_eq_false_iff, decide_eq_false_iff_not] at h
  omega
end Go.Proofs.YtanjcbnkkhbkkaaDoor.Qn

/- Lists of lists, as they come in, taken apart. -/
namespace Go.Proofs.YtanjcbnkkhbkkaaDoor.Qn
open Go Go.Ev Go.ChangeShapes Go.WideShapes Go.RowKit Go.Deep Go.Proofs.YtanjcbnkkhbkkaaDoor.If

/-- A list of lists that came in. -/
structure Rws (w : World) (a : Option Addr) (len cap : Nat) (z : List (List Int)) : Prop where
  ln : z.length = len
  rd : RdR w a z
  mx : ∀ i, i < z.length → (z.getD i []).length ≤ maxLen
  le : len ≤ maxLen
theorem cell_in' {w : World} {a : Addr} {v : Value} (h : w.cell? a = some v) : a.block < w.heap.size := World.block_lt_of_cell? w a h
theorem rda_of {w : World} {A : Option Addr} {C : Nat} {Z : List Int} (hl : Z.length = C) (h0 : A = none → C = 0) (hc : ∀ a', A = some a' → ∀ c, c < C → w.cell? (a'.add c) = some (.int .i64 (Z.getD c 0))) (L : Nat) (hL : L ≤ C) : RdA w A (Z.take L) := by
  intro i hi
  have hi' : i < L ∧ i < C := by simp at hi; omega
  cases A with
  | none => have := h0 rfl; omega
  | some a' =>
    obtain ⟨b, off, sub⟩ := a'
    have q := hc _ rfl i hi'.2
    have hs : sub = none := by simpa [Addr.add] using World.cell?_spot (hc _ rfl 0 (by omega))
    subst hs
    rw [Go.WideShapes.add_plain] at q
    refine ⟨b, off, rfl, cell_in' q, ?_⟩
    rw [q]
    simp [hi'.1]
variable {H : Type} {enc : TypeId × Value → H} {P : Program} {W : World}
theorem open_rows {t e q : TypeId} {a : Option Addr} {len cap : Nat} {d : DataW H} {p : List MemPlace} (ht : P.underlying t = some (.slice e)) (he : P.underlying e = some (.slice q)) (hq : P.underlying q = some (.int .i64))
    (ce : P.cellsOf e = 1) (cq : P.cellsOf q = 1) (h : DataW.Trod enc P W 0 (fun _ => true) true t (.slice a len cap) d p) : ∃ z, Rws W a len cap z := by
  obtain ⟨fuel, hf⟩ := h
  rcases open_int_rows ht he hq ce cq hf with ⟨hcs, _⟩ | ⟨a', l', c', A, L, C, Z, hcs, _, hl, hm, _, hx⟩
  · simp [Value.cells] at hcs
    obtain ⟨rfl, rfl, rfl⟩ := hcs
    exact ⟨[], rfl, fun i hi => by simp at hi, fun i hi => by simp at hi, Nat.zero_le _⟩
  · simp [Value.cells] at hcs
    obtain ⟨rfl, rfl, rfl⟩ := hcs
    refine ⟨(List.range len).map fun r => (Z r).take (L r), by simp, fun i hi => ?_, fun i hi => ?_, by omega⟩
    · have hi' : i < len := by simpa using hi
      obtain ⟨x0, x1, x2, x3, _, x5, x6⟩ := hx i (by omega)
      have e : ((List.range len).map fun r => (Z r).take (L r)).getD i [] = (Z i).take (L i) := by simp [hi']
      rw [e]
      have el : ((Z i).take (L i)).length = L i := by simp; omega
      obtain ⟨b, off, sub⟩ := a'
      have hs : sub = none := by simpa [Addr.add] using World.cell?_spot (hx 0 (by omega)).1
      subst hs
      rw [Go.WideShapes.add_plain] at x0
      refine ⟨b, off, A i, C i, rfl, cell_in' x0, by rw [el]; exact x0, rda_of x3 x5 (fun a' ha => (x6 a' ha).2) _ x1⟩
    · have hi' : i < len := by simpa using hi
      obtain ⟨x0, x1, x2, x3, _⟩ := hx i (by omega)
      have e : ((List.range len).map fun r => (Z r).take (L r)).getD i [] = (Z i).take (L i) := by simp [hi']
      rw [e]
      simp; omega
/-- A slice of numbers that came in. -/
def IsRow (k : IntKind) (w : World) (a : Option Addr) (len cap : Nat) (zs : List Int) : Prop :=
  (a = none ∧ len = 0 ∧ cap = 0 ∧ zs = []) ∨ ∃ x, a = some x ∧ len ≤ cap ∧ cap ≤ maxLen ∧ zs.length = cap ∧ (∀ i, i < zs.length → w.cell? (x.add i) = some (.int k (zs.getD i 0))) ∧ ∀ n ∈ zs, (Lit.int k n).wf = true
theorem row_rd {w : World} {a : Option Addr} {len cap : Nat} {zs : List Int} (h : IsRow .i64 w a len cap zs) : ∃ z : List Int, z.length = len ∧ RdA w a z ∧ len ≤ maxLen := by
  rcases h with ⟨rfl, rfl, rfl, rfl⟩ | ⟨x, rfl, hl, hm, hz, hc, _⟩
  · exact ⟨[], rfl, fun i hi => by simp at hi, by unfold maxLen; omega⟩
  · exact ⟨zs.take len, by simp; omega, rda_of (C := cap) hz (fun e => by cases e) (fun a' e c hcc => by cases e; exact hc c (by omega)) len hl, by omega⟩
theorem rowa_rd {w : World} {a : Option Addr} {zs : List Int} (h : RowA .i64 w a zs) : RdA w a zs := h
end Go.Proofs.YtanjcbnkkhbkkaaDoor.Qn

/- Lines there and back: the numbers. -/
namespace Go.Proofs.YtanjcbnkkhbkkaaDoor.Qn
open Go Go.RowKit Go.Proofs.YtanjcbnkkhbkkaaDoor.If Go.Proofs.YtanjcbnkkhbkkaaDoor.Bd Go.Proofs.YtanjcbnkkhbkkaaDoor.Fx

def mkq (F : Nat → Int) : List Int := (List.range 256).map F
theorem mkq_len (F : Nat → Int) : (mkq F).length = 256 := by simp [mkq]
theorem mkq_get (F : Nat → Int) {j : Nat} (h : j < 256) : (mkq F).getD j 0 = F j := by simp [mkq, h]
theorem rda_row {w : World} {g : Nat} {F : Nat → Int} (h : w.rowIs g 3 256 (fun j => .int .i64 (F j))) : RdA w (some ⟨g, 0, none⟩) (mkq F) := fun i hi => by
  rw [mkq_len] at hi
  exact ⟨g, 0, rfl, h.lt, by rw [Nat.zero_add, h.cell hi, mkq_get F hi]⟩
open Classical in
/-- What becomes of one line. -/
noncomputable def st (c : Prop) (f : Int → Int → Int) (x T : Int) : Int := if x ≠ 0 ∧ c then f x T else 0
/-- Is a line sent? -/
def Cn (r s m : Int) (gz : List Int) (B : List (List Int)) (k : Nat) : Prop := (bk r s k : Int) < m ∧ snt ((B.getD (gk s gz k) []).getD (bk r s k) 0) = true
noncomputable def stp (r s : Int) (gz : List Int) (S : List (List Int)) (k : Nat) : Int := (S.getD (gk s gz k) []).getD (bk r s k) 0
theorem qv_st (r s m : Int) (gz : List Int) (B S : List (List Int)) (l : List Int) (f : Int → Int → Int) (k : Nat) : QV r s m gz B S l f k = st (Cn r s m gz B k) f (l.getD k 0) (stp r s gz S k) := by
  unfold QV qv st Cn stp
  by_cases h : l.getD k 0 ≠ 0 ∧ (bk r s k : Int) < m ∧ snt ((B.getD (gk s gz k) []).getD (bk r s k) 0) = true
  · rw [if_pos h, if_pos ⟨h.1, h.2.1, h.2.2⟩]
  · rw [if_neg h, if_neg (fun h' => h ⟨h'.1, h'.2.1, h'.2.2⟩)]
theorem step_in {r s h m : Int} {gz : List Int} {B S : List (List Int)} (hq : QE r s h m gz B S 0) {k : Nat} (hk : k < 256) (c : Cn r s m gz B k) : 0 ≤ stp r s gz S k ∧ stp r s gz S k ≤ 255 := by
  obtain ⟨hck, hBl, hSl, hBm, hSm, hnb⟩ := qe_zero hq
  have hg := gk_lt hck hk
  have hb := hnb (gk s gz k) (bk r s k) (by omega) (by have := hBm _ (show gk s gz k < B.length by omega); have := c.1; omega)
  unfold stp
  have hs := c.2
  unfold badP at hb
  generalize (B.getD (gk s gz k) []).getD (bk r s k) 0 = V at *
  generalize (S.getD (gk s gz k) []).getD (bk r s k) 0 = T at *
  exact Classical.byContradiction fun hn => hb (.inr (.inr ⟨hs, by omega⟩))
theorem LN_zero {s : Int} (hs : 0 ≤ s) : Fx.LN 0 s = 0 := by rw [LN_pos (by omega), ln_zero hs]
theorem st_not {c : Prop} (h : ¬ c) (f : Int → Int → Int) (x T : Int) : st c f x T = 0 := by unfold st; rw [if_neg (fun h' => h h'.2)]
theorem st_zero (c : Prop) (f : Int → Int → Int) (T : Int) : st c f 0 T = 0 := by unfold st; rw [if_neg (fun h' => h'.1 rfl)]
theorem st_fl {c : Prop} (h : c) {q T : Int} (t0 : 0 ≤ T) (t1 : T ≤ 255) (q0 : -8191 ≤ q) (q1 : q ≤ 8191) : st c FL q T = Fx.LN q T := by
  by_cases hq : q = 0
  · subst hq; rw [st_zero, LN_zero t0]
  · unfold st
    rw [if_pos ⟨hq, h⟩, (FL_ok (by unfold badL; omega)).1]
theorem st_fq {c : Prop} (h : c) {x T : Int} (t0 : 0 ≤ T) (t1 : T ≤ 255) (x0 : -268435455 ≤ x) (x1 : x ≤ 268435455) (hx : x ≠ 0) : st c FQ x T = NQ x T := by
  unfold st
  rw [if_pos ⟨hx, h⟩, (FQ_ok (by unfold badQ; omega)).1]
theorem st_fq_bd {c : Prop} {x T : Int} (ht : c → 0 ≤ T ∧ T ≤ 255) (x0 : -268435455 ≤ x) (x1 : x ≤ 268435455) : -8191 ≤ st c FQ x T ∧ st c FQ x T ≤ 8191 := by
  by_cases h : c
  · by_cases hx : x = 0
    · subst hx; rw [st_zero]; omega
    · rw [st_fq h (ht h).1 (ht h).2 x0 x1 hx]; exact NQ_bd x T
  · rw [st_not h]; omega
theorem st_fl_bd {c : Prop} {q T : Int} (ht : c → 0 ≤ T ∧ T ≤ 255) (q0 : -8191 ≤ q) (q1 : q ≤ 8191) : -268435455 ≤ st c FL q T ∧ st c FL q T ≤ 268435455 := by
  by_cases h : c
  · rw [st_fl h (ht h).1 (ht h).2 q0 q1]; exact LN_bd (ht h).1
  · rw [st_not h]; omega
/-- Quantised again: the same line. -/
theorem st_again {c : Prop} {x T : Int} (ht : c → 0 ≤ T ∧ T ≤ 255) (x0 : -268435455 ≤ x) (x1 : x ≤ 268435455) : st c FL (st c FQ (st c FL (st c FQ x T) T) T) T = st c FL (st c FQ x T) T := by
  by_cases h : c
  · obtain ⟨t0, t1⟩ := ht h
    have hb := st_fq_bd ht x0 x1
    generalize st c FQ x T = q at *
    obtain ⟨q0, q1⟩ := hb
    have ha := LN_bd (q := q) t0
    rw [st_fl h t0 t1 q0 q1]
    by_cases hz : Fx.LN q T = 0
    · rw [hz, st_zero, st_zero]
    · rw [st_fq h t0 t1 ha.1 ha.2 hz, st_fl h t0 t1 (NQ_bd _ _).1 (NQ_bd _ _).2]
      exact nearS_again t0 (NQ_is (Fx.LN q T) T) q0 q1 rfl
  · rw [st_not h, st_not h]
/-- No other line is nearer. -/
theorem st_near {c : Prop} {x T o : Int} (ht : c → 0 ≤ T ∧ T ≤ 255) (x0 : -268435455 ≤ x) (x1 : x ≤ 268435455) (o0 : -8191 ≤ o) (o1 : o ≤ 8191) : ¬ far x (st c FL o T) < far x (st c FL (st c FQ x T) T) := by
  by_cases h : c
  · obtain ⟨t0, t1⟩ := ht h
    by_cases hx : x = 0
    · subst hx
      rw [st_zero, st_zero]
      unfold far
      split <;> (try split) <;> omega
    · rw [st_fq h t0 t1 x0 x1 hx, st_fl h t0 t1 (NQ_bd _ _).1 (NQ_bd _ _).2, st_fl h t0 t1 o0 o1]
      have := nearS_best t0 (NQ_is x T) o0 o1
      unfold far
      split <;> (try split) <;> omega
  · rw [st_not h, st_not h]
    unfold far
    split <;> omega
/-- Another quantised line. -/
def oth (q by' : Int) : Int := max (min (q + by') 8191) (-8191)
theorem oth_bd (q b : Int) : -8191 ≤ oth q b ∧ oth q b ≤ 8191 := by unfold oth; omega
end Go.Proofs.YtanjcbnkkhbkkaaDoor.Qn

/- The chapter's first example of quant holds, wherever it is called. -/
namespace Go.Proofs.YtanjcbnkkhbkkaaDoor.Qn
open Go Go.Ev Go.RowKit
/-- Power's table, as a row lists it. -/
def X0 : List (Nat × List RV) := [(0, [.int .i64 1073741824, .int .i64 1276901417, .int .i64 1518500250, .int .i64 1805811301])]
noncomputable def H0 : Tr AObj := match heapG 1 X0 with | some h => h | none => .nil
theorem h0_is : heapG 1 X0 = some H0 := by kernel_rfl
theorem lives : (callR ((((((E.up 40).up 40).up 40).up 40).up 40).up 40) 40 H0 1 36 []).map (fun x => match x.1 with | .bool true => true | _ => false) = some true := by kernel_rfl
/-- A world that holds the table. -/
def Tb (w : World) : Prop := AllP (CellsAre w) X0
theorem alive36 (w : World) (h : Tb w) : Calls Tryd.prog 36 #[] w fun e w' => e = .returned (.bool true) ∧ Below w.heap.size w w' := by
  obtain ⟨v, h', nx', h1, h2⟩ := ran lives
  subst h2
  exact callG rfl h0_is h1 w h rfl (fun _ => rfl)
theorem Tb.below {w w' : World} (h : Tb w) (hb : Below w.heap.size w w') : Tb w' := by
  obtain ⟨⟨c, t, fz, h1, h2⟩, _⟩ := h
  exact ⟨⟨c, t, fz, (hb.block _ (Array.getElem?_eq_some_iff.1 h1).1).trans h1, h2⟩, trivial⟩
end Go.Proofs.YtanjcbnkkhbkkaaDoor.Qn

/- Which band a line is in, and the chapter's first examples. -/
namespace Go.Proofs.YtanjcbnkkhbkkaaDoor.Bd
open Go Go.ChangeShapes Go.WideShapes Go.ChangeAt Go.RowKit Go.Proofs.YtanjcbnkkhbkkaaDoor.Lo

/-- The last offset, as the walk reads it. -/
theorem last_cell {r : Int} {s : Bool} {w : World} {g cap : Nat} (r0 : 0 ≤ r) (r1 : r ≤ 11) (h : Row w g cap (L r s)) : w.cell? ⟨g, (L r s).length - 1, none⟩ = some (.int .i64 (nOf s)) := by
  obtain ⟨f0, _, _, f3, _⟩ := fact r s r0 r1
  rw [h.cell (by omega), f3]

set_option maxRecDepth 100000 in
theorem of_out (r x : Int) (s : Bool) (w : World) (r0 : 0 ≤ r) (r1 : r ≤ 11) (h : x < 0 ∨ nOf s ≤ x) :
    Calls Tryd.prog 38 #[.int .i64 r, .bool s, .int .i64 x] w fun e w' => e = .returned (.tuple #[.int .i64 0, .int .i64 2]) ∧ Below w.heap.size w w' := by
  obtain ⟨f0, f1, _⟩ := fact r s r0 r1
  have hM := Lib.hid h
  clear h
  have HLc := Lib.hid (fun (w : World) (g cap : Nat) (h : Row w g cap (L r s)) => last_cell r0 r1 h)
  obtain ⟨n, hn⟩ : ∃ n, (L r s).length = n + 1 := ⟨(L r s).length - 1, by omega⟩
  have HN := Lib.hid hn
  rw [hn] at f0 f1
  clear hn
  obtain ⟨N, hN⟩ : ∃ N, nOf s = N := ⟨_, rfl⟩
  rw [hN] at hM HLc
  clear hN
  have hC : ∀ w, Calls Tryd.prog 60 #[.int .i64 r, .bool s] w fun e w' => ∃ g cap, e = .returned (.tuple #[.slice (some ⟨g, 0, none⟩) (n + 1) cap, .int .i64 0]) ∧ w'.cell? ⟨g, n, none⟩ = some (.int .i64 N) ∧ Below w.heap.size w w' := fun w => (off_row r s w r0 r1).mono fun e w' h => by
    obtain ⟨g, cap, h1, h2, h3, h4⟩ := h
    refine ⟨g, cap, by rw [h1, HN.out], ?_, h4⟩
    have := HLc.out _ _ _ h3
    rw [HN.out] at this
    exact this
  have HC := Lib.hid hC
  clear hC
  by_cases hx : x < 0
  · go_enter Tryd.func38, Tryd.ntmps38
    go_wp2_with (go_at_call 60; ((with_reducible refine (HC.out _).mono ?_); rintro e w1 ⟨g, cap, rfl, q1, hb⟩))
    go_ret2
    exact ⟨rfl, hb⟩
  · have hx2 : N ≤ x := by have := hM.out; omega
    go_enter Tryd.func38, Tryd.ntmps38
    go_wp2_with (go_at_call 60; ((with_reducible refine (HC.out _).mono ?_); rintro e w1 ⟨g, cap, rfl, q1, hb⟩))
    go_ret2
    exact ⟨rfl, hb⟩

set_option maxRecDepth 100000 in
theorem of_in (r x : Int) (s : Bool) (w : World) (r0 : 0 ≤ r) (r1 : r ≤ 11) (x0 : 0 ≤ x) (h : x < nOf s) :
    Calls Tryd.prog 38 #[.int .i64 r, .bool s, .int .i64 x] w fun e w' => ∃ b : Nat, e = .returned (.tuple #[.int .i64 b, .int .i64 0]) ∧ In (L r s) x b ∧ Below w.heap.size w w' := by
  obtain ⟨f0, f1, f2, f3, _, f5⟩ := fact r s r0 r1
  have HLc := Lib.hid (fun (w : World) (g cap : Nat) (h : Row w g cap (L r s)) => last_cell r0 r1 h)
  obtain ⟨l, hl⟩ : ∃ l, L r s = l := ⟨_, rfl⟩
  rw [hl] at f0 f1 f2 f3 f5 HLc ⊢
  have hb5 : ∀ i, i < l.length → l.getD i 0 ≤ 256 ∧ 0 ≤ l.getD i 0 := fun i hi => ⟨by have := (f5 i hi).2; have : nOf s ≤ 256 := by cases s <;> decide
                                                                                      omega, (f5 i hi).1⟩
  have H5 := Lib.hid hb5
  have F2 := Lib.hid f2
  have F3 := Lib.hid f3
  clear f2 f3 f5 hb5
  obtain ⟨n, hn⟩ : ∃ n, l.length = n + 1 := ⟨l.length - 1, by omega⟩
  have HN := Lib.hid hn
  rw [hn] at f0 f1
  clear hn
  have hN256 : nOf s ≤ 256 := by cases s <;> decide
  obtain ⟨N, hN⟩ : ∃ N, nOf s = N := ⟨_, rfl⟩
  rw [hN] at h HLc F3 hN256
  clear hN
  have hC : ∀ w, Calls Tryd.prog 60 #[.int .i64 r, .bool s] w fun e w' => ∃ g cap, e = .returned (.tuple #[.slice (some ⟨g, 0, none⟩) (n + 1) cap, .int .i64 0]) ∧ w'.cell? ⟨g, n, none⟩ = some (.int .i64 N) ∧ Hid (Row w' g cap l) ∧ Below w.heap.size w w' := fun w => (off_row r s w r0 r1).mono fun e w' h => by
    obtain ⟨g, cap, h1, h2, h3, h4⟩ := h
    rw [hl] at h1 h3
    refine ⟨g, cap, by rw [h1, HN.out], ?_, Lib.hid h3, h4⟩
    have := HLc.out _ _ _ h3
    rw [HN.out] at this
    exact this
  have HC := Lib.hid hC
  clear hC hl
  go_enter Tryd.func38, Tryd.ntmps38
  go_wp2_with (go_at_call 60; ((with_reducible refine (HC.out _).mono ?_); rintro e w1 ⟨g, cap, rfl, q1, hR, hb⟩))
  clear q1
  go_loop [10] (fun i => ∃ b : Nat, i = .int .i64 b ∧ b < n ∧ Hid (l.getD b 0 ≤ x)) (fun i => n - (intOf i).toNat)
  case atStart => exact ⟨0, rfl, by omega, Lib.hid (by rw [F2.out]; exact x0)⟩
  case round =>
    obtain ⟨b, rfl, hbn, hB⟩ := hrel
    have q2 := hR.out.cell (i := b + 1) (by rw [HN.out]; omega)
    have q5 := H5.out (b + 1) (by rw [HN.out]; omega)
    have HS := Lib.hid (show l.getD (b + 1) 0 = l.getD (b + 1) 0 from rfl)
    have hlast : Hid (b + 1 = n → l.getD (b + 1) 0 = N) := Lib.hid fun e => by
      have := F3.out
      rw [HN.out] at this
      rw [e]; exact this
    obtain ⟨d, hd⟩ : ∃ d, l.getD (b + 1) 0 = d := ⟨_, rfl⟩
    rw [hd] at q2 q5 hlast
    have HD := Lib.hid hd
    clear hd HS
    by_cases hlt : d ≤ x
    · have hbn2 : b + 1 < n := by
        refine Classical.byContradiction fun hc => ?_
        have := hlast.out (by omega)
        omega
      go_wp2
      go_round
      case rel => exact ⟨b + 1, by go_num, hbn2, Lib.hid (by rw [HD.out]; exact hlt)⟩
      case measure => simp [intOf]; omega
    · have hxd : x < d := by omega
      clear hlt
      go_wp2
      go_ret2
      exact ⟨b, rfl, ⟨by rw [HN.out]; omega, hB.out, by rw [HD.out]; exact hxd⟩, hb⟩

theorem of_bad (r x : Int) (s : Bool) (w : World) (h : r < 0 ∨ 11 < r) :
    Calls Tryd.prog 38 #[.int .i64 r, .bool s, .int .i64 x] w fun e w' => (∃ c, e = .returned (.tuple #[.int .i64 0, .int .i64 c])) ∧ Below w.heap.size w w' := by
  have H := Lib.hid (fun w => off_bad r s w h)
  clear h
  go_enter Tryd.func38, Tryd.ntmps38
  go_wp2_with (go_at_call 60; ((with_reducible refine (H.out _).mono ?_); rintro e w1 ⟨rfl, rfl⟩))
  go_ret2
  exact ⟨⟨_, rfl⟩, Below.refl _ _⟩
end Go.Proofs.YtanjcbnkkhbkkaaDoor.Bd

/- What stays, whatever is called. -/
namespace Go.Proofs.YtanjcbnkkhbkkaaDoor.Qn
open Go Go.Ev Go.ChangeShapes Go.WideShapes Go.ChangeAt Go.RowKit Go.Proofs.YtanjcbnkkhbkkaaDoor.If Go.Proofs.YtanjcbnkkhbkkaaDoor.Bd Go.Proofs.YtanjcbnkkhbkkaaDoor.Qn

theorem row_on {w w' : World} {g n : Nat} {t : TypeId} {f : Nat → Value} (h : w.rowIs g t n f) (b : Below w.heap.size w w') : w'.rowIs g t n f := h.of_block (b.block g h.lt)
/-- What stays, whatever is called. -/
structure K (w : World) (ga : Option Addr) (gz : List Int) (O P A : Option Addr) (B S : List (List Int)) (lz : List Int) (s h m : Int) (gc : Nat) (W : World) : Prop where
  q : Fx.Qs W
  i : Inp W ga gz O P B S
  l : RdA W A lz
  b : Below w.heap.size w W
  y : W.cell? ⟨w.heap.size, 0, none⟩ = some (.int .u8 s) ∧ W.cell? ⟨w.heap.size, 1, none⟩ = some (.int .u8 h) ∧ W.cell? ⟨w.heap.size, 2, none⟩ = some (.int .i64 m) ∧ W.cell? ⟨w.heap.size, 3, none⟩ = some (.slice ga gz.length gc)
  z : w.heap.size < W.heap.size
theorem K.on {w : World} {ga : Option Addr} {gz : List Int} {O P A : Option Addr} {B S : List (List Int)} {lz : List Int} {s h m : Int} {gc : Nat} {W W' : World} (k : K w ga gz O P A B S lz s h m gc W) (b : Below W.heap.size W W') : K w ga gz O P A B S lz s h m gc W' :=
  ⟨k.q.below b, k.i.below b, k.l.below b, belowT k.b b, ⟨(b.cell (p := ⟨w.heap.size, 0, none⟩) k.z).trans k.y.1, (b.cell (p := ⟨w.heap.size, 1, none⟩) k.z).trans k.y.2.1, (b.cell (p := ⟨w.heap.size, 2, none⟩) k.z).trans k.y.2.2.1, (b.cell (p := ⟨w.heap.size, 3, none⟩) k.z).trans k.y.2.2.2⟩, Nat.lt_of_lt_of_le k.z b.size⟩

end Go.Proofs.YtanjcbnkkhbkkaaDoor.Qn

/- Greater steps: the numbers; and lists of lists that a call builds. -/
namespace Go.Proofs.YtanjcbnkkhbkkaaDoor.Qn
open Go Go.RowKit Go.Proofs.YtanjcbnkkhbkkaaDoor.If Go.Proofs.YtanjcbnkkhbkkaaDoor.Bd Go.Proofs.YtanjcbnkkhbkkaaDoor.Fx

theorem ln_steps {q s : Int} (hs : 0 ≤ s) (h0 : 0 ≤ q) (hq : q ≤ 8191) : ∀ d : Nat, s + d ≤ 255 → ln q s ≤ ln q (s + d)
  | 0, _ => by simp
  | d + 1, h => by
    have a := ln_steps hs h0 hq d (by omega)
    have b := ln_step (q := q) (s := s + d) (by omega) (by omega) h0 hq
    rw [show s + ((d + 1 : Nat) : Int) = s + d + 1 by omega]
    omega
theorem ln_le {q s t : Int} (hs : 0 ≤ s) (hst : s ≤ t) (ht : t ≤ 255) (h0 : 0 ≤ q) (hq : q ≤ 8191) : ln q s ≤ ln q t := by
  obtain ⟨d, rfl⟩ : ∃ d : Nat, t = s + d := ⟨(t - s).toNat, by omega⟩
  exact ln_steps hs h0 hq d (by omega)
theorem near_le {x s t a b : Int} (hs : 0 ≤ s) (hst : s ≤ t) (ht : t ≤ 255) (ha : Near x s a) (hb : Near x t b) : b ≤ a := by
  obtain ⟨a0, a1, a2, a3⟩ := ha
  obtain ⟨b0, b1, b2, b3⟩ := hb
  refine Classical.byContradiction fun hn => ?_
  have c1 := ln_le (q := b) hs hst ht (by omega) b1
  have c2 := ln_le (q := b - 1) hs hst ht (by omega) (by omega)
  have c3 := ln_mono (p := a) (q := b - 1) hs a0 (by omega)
  have c4 := ln_mono (p := a + 1) (q := b) hs (by omega) (by omega)
  omega
theorem nq_bd (x s : Int) : 0 ≤ nq x s ∧ nq x s ≤ 8191 := ⟨(nq_is x s).1, (nq_is x s).2.1⟩
theorem st_smaller {c : Prop} {x T T' : Int} (ht : c → 0 ≤ T ∧ T ≤ T' ∧ T' ≤ 255) (x0 : -268435455 ≤ x) (x1 : x ≤ 268435455) : ¬ far (st c FQ x T) 0 < far (st c FQ x T') 0 := by
  by_cases h : c
  · obtain ⟨t0, t1, t2⟩ := ht h
    by_cases hx : x = 0
    · subst hx; rw [st_zero, st_zero]; omega
    · rw [st_fq h t0 (by omega) x0 x1 hx, st_fq h (by omega) t2 x0 x1 hx]
      unfold NQ far
      by_cases hn : x < 0
      · rw [if_pos hn, if_pos hn]
        have := near_le t0 t1 t2 (nq_is (-x) T) (nq_is (-x) T')
        have := nq_bd (-x) T; have := nq_bd (-x) T'
        split <;> split <;> omega
      · rw [if_neg hn, if_neg hn]
        have := near_le t0 t1 t2 (nq_is x T) (nq_is x T')
        have := nq_bd x T; have := nq_bd x T'
        split <;> split <;> omega
  · rw [st_not h, st_not h]; omega
theorem st_greater {c : Prop} {q T T' : Int} (ht : c → 0 ≤ T ∧ T ≤ T' ∧ T' ≤ 255) (q0 : -8191 ≤ q) (q1 : q ≤ 8191) : ¬ far (st c FL q T') 0 < far (st c FL q T) 0 := by
  by_cases h : c
  · obtain ⟨t0, t1, t2⟩ := ht h
    rw [st_fl h t0 (by omega) q0 q1, st_fl h (by omega) t2 q0 q1]
    unfold Fx.LN far
    by_cases hn : q < 0
    · rw [if_pos hn, if_pos hn]
      have := ln_le (q := -q) t0 t1 t2 (by omega) (by omega)
      have := (ln_bd (q := -q) t0 (by omega)).1
      split <;> split <;> omega
    · rw [if_neg hn, if_neg hn]
      have := ln_le (q := q) t0 t1 t2 (by omega) q1
      have := (ln_bd (q := q) t0 (by omega)).1
      split <;> split <;> omega
  · rw [st_not h, st_not h]; omega
theorem st_turned {c : Prop} {x T : Int} (ht : c → 0 ≤ T ∧ T ≤ 255) (x0 : -268435455 ≤ x) (x1 : x ≤ 268435455) : st c FQ (-x) T = -st c FQ x T := by
  by_cases h : c
  · obtain ⟨t0, t1⟩ := ht h
    by_cases hx : x = 0
    · subst hx; rw [show -(0 : Int) = 0 by omega, st_zero]; omega
    · rw [st_fq h t0 t1 x0 x1 hx, st_fq h t0 t1 (by omega) (by omega) (by omega)]
      unfold NQ
      by_cases hn : x < 0
      · rw [if_pos hn, if_neg (by omega)]; omega
      · rw [if_neg hn, if_pos (by omega), Int.neg_neg]
  · rw [st_not h, st_not h]; omega

/-- A greater step. -/
def gst (more V : Int) : Int := if 255 < V then V else min (IntKind.i64.wrap (V + more)) 255
theorem gst_in {more V : Int} (m0 : 0 ≤ more) (m1 : more ≤ 255) (v0 : 0 ≤ V) (v1 : V ≤ 255) : 0 ≤ V ∧ V ≤ gst more V ∧ gst more V ≤ 255 := by
  unfold gst
  rw [if_neg (by omega), i64_in (by omega) (by omega)]
  omega
def gsl (more : Int) (z : List Int) : List Int := z.map (gst more)
def gsr (more : Int) (S : List (List Int)) : List (List Int) := S.map (gsl more)
theorem gsr_len (more : Int) (S : List (List Int)) : (gsr more S).length = S.length := by simp [gsr]
theorem gsr_row (more : Int) (S : List (List Int)) {i : Nat} (h : i < S.length) : (gsr more S).getD i [] = gsl more (S.getD i []) := by simp [gsr, h]
theorem gsl_len (more : Int) (z : List Int) : (gsl more z).length = z.length := by simp [gsl]
theorem gsl_get (more : Int) (z : List Int) {j : Nat} (h : j < z.length) : (gsl more z).getD j 0 = gst more (z.getD j 0) := by simp [gsl, h]
theorem gsl_take (more : Int) (z : List Int) {j : Nat} (h : j < z.length) : gsl more (z.take (j + 1)) = gsl more (z.take j) ++ [gst more (z.getD j 0)] := by
  unfold gsl
  rw [List.take_succ_eq_append_getElem h, List.map_append]
  simp [h]

/-! ### Lists that a call builds -/
/-- A list in a list of lists. -/
def RowV (w : World) (v : Value) (zs : List Int) : Prop := (zs = [] ∧ v = .slice none 0 0) ∨ ∃ g c cur, v = .slice (some ⟨g, 0, none⟩) zs.length c ∧ w.heap[g]? = some (Obj.cells cur 3 (0, 0)) ∧ ∀ j, j < zs.length → cur[j]? = some (.int .i64 (zs.getD j 0))
theorem RowV.of_heap {w w' : World} {v : Value} {zs : List Int} (h : RowV w v zs) (hk : ∀ (g : Nat) (cur : Array Value), w.heap[g]? = some (Obj.cells cur 3 (0, 0)) → w'.heap[g]? = some (Obj.cells cur 3 (0, 0))) : RowV w' v zs := by
  rcases h with h | ⟨g, c, cur, e, hh, hc⟩
  · exact .inl h
  · exact .inr ⟨g, c, cur, e, hk g cur hh, hc⟩
theorem RowV.of_own {base : Nat} {w : World} {v : Value} {zs : List Int} (h : w.ownsRow base 3 1 v zs.length (zs.map (Value.int .i64))) : RowV w v zs := by
  obtain ⟨hx, ⟨rfl, hn⟩ | ⟨g, cap, cur, rfl, hg, hh, hc, hm, hs, ht⟩⟩ := h
  · exact .inl ⟨List.eq_nil_of_length_eq_zero hn, rfl⟩
  · refine .inr ⟨g, cap, cur, rfl, hh, fun j hj => ?_⟩
    have e : (cur.toList.take (zs.length * 1))[j]? = (zs.map (Value.int .i64))[j]? := by rw [ht]
    rw [List.getElem?_take_of_lt (by omega)] at e
    simpa [hj] using e
theorem RowV.rd {w : World} {v : Value} {zs : List Int} (h : RowV w v zs) : ∃ a c, v = .slice a zs.length c ∧ RdA w a zs := by
  rcases h with ⟨rfl, rfl⟩ | ⟨g, c, cur, rfl, hh, hc⟩
  · exact ⟨none, 0, rfl, fun i hi => by simp at hi⟩
  · refine ⟨_, c, rfl, fun i hi => ⟨g, 0, rfl, (Array.getElem?_eq_some_iff.1 hh).1, ?_⟩⟩
    simp [World.cell?, hh, hc i hi]
/-- A list of lists, as it grows. -/
def Gr (base : Nat) (w : World) (v : Value) (rows : List (List Int)) : Prop := ∃ vals : List Value, w.ownsRow base 39 1 v rows.length vals ∧ ∀ i, i < rows.length → ∃ u, vals[i]? = some u ∧ RowV w u (rows.getD i [])
theorem Gr.nil (base : Nat) (w : World) : Gr base w (.slice none 0 0) [] := ⟨[], World.ownsRow_nil w base 39 1, fun i hi => by simp at hi⟩
theorem Gr.below {base : Nat} {w w' : World} {v : Value} {rows : List (List Int)} (h : Gr base w v rows) (hb : Below w.heap.size w w') : Gr base w' v rows := by
  obtain ⟨vals, ho, hr⟩ := h
  refine ⟨vals, ?_, fun i hi => by
    obtain ⟨u, e, hu⟩ := hr i hi
    exact ⟨u, e, hu.of_heap fun g cur hg => (hb.block g (Array.getElem?_eq_some_iff.1 hg).1).trans hg⟩⟩
  obtain ⟨hx, ⟨rfl, hn⟩ | ⟨g, cap, cur, rfl, hg, hh, r⟩⟩ := ho
  · exact ⟨hx, .inl ⟨rfl, hn⟩⟩
  · exact ⟨hx, .inr ⟨g, cap, cur, rfl, hg, (hb.block g (Array.getElem?_eq_some_iff.1 hh).1).trans hh, r⟩⟩
/-- One list more. -/
theorem Gr.push {base : Nat} {w w' : World} {v v' u : Value} {rows : List (List Int)} {zs : List Int} {vals : List Value} (ho : w.ownsRow base 39 1 v rows.length vals) (hr : ∀ i, i < rows.length → ∃ u, vals[i]? = some u ∧ RowV w u (rows.getD i [])) (hu : RowV w u zs)
    (ho' : w'.ownsRow base 39 1 v' (rows.length + 1) (vals ++ [u])) (hg : w.grownBy w' v.ownBlock) : Gr base w' v' (rows ++ [zs]) := by
  have hlen : vals.length = rows.length := by have := ho.1; omega
  have hk : ∀ (g : Nat) (cur : Array Value), w.heap[g]? = some (Obj.cells cur 3 (0, 0)) → w'.heap[g]? = some (Obj.cells cur 3 (0, 0)) := fun g cur hh => by
    refine (hg.block g (Array.getElem?_eq_some_iff.1 hh).1 fun e => ?_).trans hh
    obtain ⟨hx, ⟨rfl, hn⟩ | ⟨g', cap, cur', rfl, _, hh', _⟩⟩ := ho
    · cases e
    · simp only [Value.ownBlock, Option.some.injEq] at e
      subst e
      rw [hh] at hh'
      cases hh'
  refine ⟨vals ++ [u], by rw [List.length_append]; exact ho', fun i hi => ?_⟩
  rw [List.length_append] at hi
  by_cases h : i < rows.length
  · obtain ⟨u', e, hu'⟩ := hr i h
    refine ⟨u', by rw [List.getElem?_append_left (by omega)]; exact e, ?_⟩
    rw [show (rows ++ [zs]).getD i [] = rows.getD i [] by simp [List.getElem?_append_left h]]
    exact hu'.of_heap hk
  · have e : i = rows.length := by simp at hi; omega
    subst e
    refine ⟨u, by rw [← hlen]; simp, ?_⟩
    rw [show (rows ++ [zs]).getD rows.length [] = zs by simp]
    exact hu.of_heap hk
theorem Gr.rd {base : Nat} {w : World} {v : Value} {rows : List (List Int)} (h : Gr base w v rows) : ∃ a c, v = .slice a rows.length c ∧ RdR w a rows := by
  obtain ⟨vals, ho, hr⟩ := h
  have hcells := @World.ownsRow.cells _ _ _ _ _ _ _ ho
  have hlt := ho.lt
  obtain ⟨hx, ⟨rfl, hn⟩ | ⟨g, cap, cur, rfl, _, hh, _⟩⟩ := ho
  · have : rows = [] := List.eq_nil_of_length_eq_zero hn
    subst this
    exact ⟨none, 0, rfl, fun i hi => by simp at hi⟩
  · refine ⟨_, cap, rfl, fun i hi => ?_⟩
    obtain ⟨u, e, hu⟩ := hr i hi
    obtain ⟨a, c, rfl, rd⟩ := hu.rd
    have q := hcells rfl i _ e
    rw [Addr.add_lit] at q
    exact ⟨g, 0, a, c, rfl, (hlt g rfl).2, q, rd⟩
end Go.Proofs.YtanjcbnkkhbkkaaDoor.Qn
