/- Lines turned at their steps: what is answered to what may be. -/
import Derived.Test.YtanjcbnkkhbkkaaDoorMrg1
import Derived.Test.YtanjcbnkkhbkkaaDoorMrg3
import Derived.Test.YtanjcbnkkhbkkaaDoorQnTl
import Derived.Shelf.Abstract
import Derived.Shelf.AbstractIn
import Derived.Shelf.RegionOpen
import Derived.Sort.QuietIn
import Derived.WalkKit
import Derived.OwnWalkIn
import Derived.TacticsInMore
import Derived.LoopNIn
import Derived.LoopIn
import Derived.Below
import Derived.ProofKit
import Derived.OpenShut
import Derived.Deep.OwnRows
import Derived.Lib.Hide
import Derived.RegionTactic
namespace Go.Proofs.YtanjcbnkkhbkkaaDoor.Qn
open Go Go.ChangeShapes Go.WideShapes Go.ChangeAt Go.RowKit Go.Shelf Go.Proofs.YtanjcbnkkhbkkaaDoor.If Go.Proofs.YtanjcbnkkhbkkaaDoor.Rg Go.Proofs.YtanjcbnkkhbkkaaDoor.Bd

attribute [local go_sem] Oper.semAt_some
set_option maxRecDepth 100000 in
set_option maxHeartbeats 8000000 in
theorem turned_19 (r s h m : Int) (ga : Option Addr) (gc : Nat) (gz : List Int) (O P A : Option Addr) (oc pc lc : Nat) (B S : List (List Int)) (lz : List Int) (most : Int) (w : World) (r0 : 0 ≤ r) (r1 : r ≤ 11) (hck : chk r s h m gz = 0) (hgl : gz.length ≤ 100000) (hB : B.length ≤ 1000) (hS : S.length ≤ 1000) (hBr : ∀ i, i < B.length → (B.getD i []).length ≤ maxLen) (hSr : ∀ i, i < S.length → (S.getD i []).length ≤ maxLen) (hg : RdA w ga gz) (rB : RdR w O B) (rS : RdR w P S) (rl : RdA w A lz) (hl : lz.length = 256) (hq : QE r s h m gz B S 0) (hm0 : 0 ≤ most) (hm1 : most ≤ 1099511627776) (hin : ∀ j, j < 256 → -most ≤ lz.getD j 0 ∧ lz.getD j 0 ≤ most) (f ef : Int → Int → Int) (hqs : Fx.Qs w) (hfn : ∀ (x st : Int) (W : World), Fx.Qs W → Calls Tryd.prog 19 #[.int .i64 x, .int .i64 st] W fun e w' => e = .returned (.tuple #[.int .i64 (f x st), .int .i64 (ef x st)]) ∧ Fx.Qs w' ∧ Below W.heap.size W w') :
    Calls Tryd.prog 53 #[.int .i64 r, .agg #[.int .u8 s, .int .u8 h, .int .i64 m, .slice ga gz.length gc], .slice O B.length oc, .slice P S.length pc, .slice A lz.length lc, .int .i64 most, (.func (.func 19) #[] #[])] w fun e w' => ∃ g, e = .returned (.tuple #[.slice (some ⟨g, 0, none⟩) 256 256, .int .i64 0]) ∧ w'.rowIs g 3 256 (fun j => .int .i64 (QV r s m gz B S lz f j)) ∧ w.heap.size ≤ g ∧ Below w.heap.size w w' := by
  have HQE := Lib.hid (qe_zero hq)
  have HRB := Lib.hid rB
  have HRS := Lib.hid rS
  have HBR := Lib.hid hBr
  have HSR := Lib.hid hSr
  have HQ := Lib.hid (fun W (hW : Below w.heap.size w W) => qcheck_ok r s h m ga gc gz O P oc pc B S W hgl hB hS hBr hSr (hg.below hW) (rB.below hW) (rS.below hW) 0 hq)
  have HP := Lib.hid (fun W (hW : Below w.heap.size w W) => places_ok r s h m ga gc gz W r0 r1 hck hgl (hg.below hW))
  have RL := Lib.hid rl
  have HL := Lib.hid hl
  have HCK := Lib.hid hck
  have RG := Lib.hid hg
  have HI := Lib.hid hin
  have hmk : ∀ w : World, (Instr.makeSlice 39 (.int .i64 256) (.int .i64 256)).run Tryd.prog w = .ok (.slice (some ⟨w.heap.size, 0, none⟩) 256 256) (w.alloc (.cells (madeCells #[.int .i64 0] 256) 3)) := fun w => run_make_row' 39 3 (.int .i64 0) 8 Tryd.underlying39 info3' rfl .i64 .i64 256 (by decide) (by decide) w
  rw [hl]
  clear hg rB rS hq hBr hSr rl hl hin hck
  refine (callsIn_wide (n := 5)).1 ?_
  refine callsIn_of_wp_marks Tryd.func53 rfl trivial ?_ rfl
  simp only [Tryd.ntmps53, List.size_toArray, List.length_cons, List.length_nil, Nat.reduceAdd, Nat.reduceSub, Array.replicate_succ, Array.replicate_zero, List.push_toArray, List.append_toArray, List.nil_append, List.cons_append]
  gi_wp2_with first
    | (refine ⟨trivial, ?_⟩; gi_at_call 73; refine (callsIn_wide.2 (HQ.out _ (al5 w _ _ _ _ _))).mono ?_; rintro e w1 ⟨rfl, hb1⟩; have B1 := Lib.hid (belowT (al5 w _ _ _ _ _) hb1); have c11 : w1.cell? ⟨w.heap.size + 3, 0, none⟩ = some (.slice A 256 lc) := (hb1.cell (p := ⟨w.heap.size + 3, 0, none⟩) (by simp)).trans (cell_box (w5_3 w _ _ _ _ _)); have b8 := Lib.hid ((hb1.block w.heap.size (by simp <;> omega)).trans (w5_0 w _ _ _ _ _)); have b9 := Lib.hid ((hb1.block (w.heap.size + 1) (by simp <;> omega)).trans (w5_1 w _ _ _ _ _)); have b10 := Lib.hid ((hb1.block (w.heap.size + 2) (by simp <;> omega)).trans (w5_2 w _ _ _ _ _)); have b11 := Lib.hid ((hb1.block (w.heap.size + 3) (by simp <;> omega)).trans (w5_3 w _ _ _ _ _)); have b13 := Lib.hid ((hb1.block (w.heap.size + 4) (by simp <;> omega)).trans (w5_4 w _ _ _ _ _)); have z1 : w.heap.size + 5 ≤ w1.heap.size := (by have := hb1.size; simp at this; omega); clear hb1)
  gi_loopw [35] (fun q wr => ∃ k : Nat, k ≤ 256 ∧ q = .int .i64 k ∧ wr = w1) (fun q _ => 256 - (intOf q).toNat)
  case atStart => exact ⟨0, by omega, rfl, rfl⟩
  case round =>
    obtain ⟨k, hk, rfl, rfl⟩ := hrel
    by_cases hlt : k < 256
    · obtain ⟨b, off, rfl, lb, c0⟩ := (RL.out.below B1.out) k (by rw [HL.out]; exact hlt)
      obtain ⟨t0, t1⟩ := HI.out k hlt
      have t2 : ¬ lz.getD k 0 < -most := by omega
      have t3 : ¬ most < lz.getD k 0 := by omega
      generalize lz.getD k 0 = X at *
      gi_wp2
      go_roundw
      case rel => exact ⟨k + 1, by omega, by go_num, trivial⟩
      case measure => simp [intOf]; omega
    · have e : k = 256 := by omega
      subst e
      have B4 : Below wr.heap.size wr ((wr.alloc (.cells (madeCells #[.int .i64 0] 256) 3)).alloc (.cells #[.slice (some ⟨wr.heap.size, 0, none⟩) 256 256] 39)) := ((Below.refl _ wr).alloc (Nat.le_refl _) _).alloc (by simp) _
      obtain ⟨i0, i1, i2, i3⟩ := cell4 ((B4.block _ (by omega)).trans b8.out)
      have B3 := Lib.hid ((B1.out.alloc B1.out.size (.cells (madeCells #[.int .i64 0] 256) 3)).alloc (by simp; omega) (.cells #[.slice (some ⟨wr.heap.size, 0, none⟩) 256 256] 39))
      gi_wp2_with first
        | (refine ⟨trivial, ?_⟩; gi_at_call 74; refine (callsIn_wide.2 (HP.out _ B3.out)).mono ?_; rintro e w2 ⟨b5, b7, g, cap, rfl, hp2, hb2⟩)
      clear c11 i0 i1 i2 i3 hk hlt
      have sz : ((wr.alloc (.cells (madeCells #[.int .i64 0] 256) 3)).alloc (.cells #[.slice (some ⟨wr.heap.size, 0, none⟩) 256 256] 39)).heap.size = wr.heap.size + 2 := by simp
      rw [sz] at hp2 hb2
      obtain ⟨w0, hw0⟩ : ∃ x, wr.heap.size + 2 = x := ⟨_, rfl⟩
      rw [show wr.heap.size + 1 + 1 = w0 by omega]
      rw [hw0] at hp2 hb2
      have lo := hp2.lo
      have lt0 := (Array.getElem?_eq_some_iff.1 hp2.info).1
      have lt5 := hp2.offs.lt
      have lt7 := hp2.wins.lt
      have ltg := hp2.row.lt
      have r0w : World.rowIs w2 wr.heap.size 3 256 (fun j => .int .i64 (if j < 0 then QV r s m gz B S lz f j else 0)) := ((World.rowIs_made wr (.int .i64 0) 256 3).of_block ((hb2.block _ (by omega)).trans (Below.heap_alloc _ _ _ (by simp)))).congr fun j _ => rfl
      have B2 : Below w.heap.size w w2 := belowT B3.out (hb2.mono (by omega))
      have HU : ∀ k, Uq w0 b5 b7 g ga k → k < w2.heap.size := by
        intro k q
        rcases q with q | q | q | q | ⟨x, e, rfl⟩
        · omega
        · omega
        · omega
        · omega
        · obtain ⟨b, off, e2, lb, _⟩ := RG.out 0 (gz_pos HCK.out)
          rw [e] at e2; cases e2
          have := B2.size; simp only; omega
      have HU2 : ∀ k, Uq w0 b5 b7 g ga k → k ≠ wr.heap.size := by
        intro k q
        rcases q with q | q | q | q | ⟨x, e, rfl⟩
        · omega
        · omega
        · omega
        · omega
        · obtain ⟨b, off, e2, lb, _⟩ := RG.out 0 (gz_pos HCK.out)
          rw [e] at e2; cases e2
          have := B1.out.size; simp only; omega
      refine range_memA rfl (by decide) (gf := 84) (lb := #[.pointer (some ⟨b7, 0, none⟩), .pointer (some ⟨w0, 0, none⟩), .pointer (some ⟨b5, 0, none⟩)]) rfl trivial (enters_of Tryd.func84 (by kernel_rfl) rfl)
        encQ (HxQ r s gz) (fun _ => False) (Uq w0 b5 b7 g ga) 256 (fun k q => q.elim) HU (fun _ => rfl)
        (fun l J W hl hW hlt hJ hY h0 => places_in 4 (by decide) l w0 b5 b7 g cap r s h m ga gc gz W r0 r1 (chk_top HCK.out) hgl (hp2.below (hW.below (Nat.le_refl _) (fun _ h => h.elim))) ((RG.out.below B2).below (hW.below (Nat.le_refl _) (fun _ h => h.elim))) J hlt hJ hY h0)
        (fun k W => W.rowIs wr.heap.size 3 256 (fun j => .int .i64 (if j < k then QV r s m gz B S lz f j else 0)) ∧ Part (fun j => j = wr.heap.size) w2 W)
        (fun k X Y' h hp => ?hI) ⟨r0w, Part.refl _ _⟩ (fun k x X Y' hs hp h => h) (fun x => .cells #[.int .i64 x.2.1, .int .i64 x.2.2] 93 (0, 0))
        (fun x b => { tmps := #[Value.int IntKind.i64 r, Value.agg #[Value.int IntKind.u8 s, Value.int IntKind.u8 h, Value.int IntKind.i64 m, Value.slice ga gz.length gc], Value.slice O B.length oc, Value.slice P S.length pc, Value.slice A 256 lc, Value.int IntKind.i64 most, Value.func (Fn.func 19) #[] #[], undef, Value.pointer (some { block := w.heap.size, off := 0 }), Value.pointer (some { block := w.heap.size + 1, off := 0 }), Value.pointer (some { block := w.heap.size + 1 + 1, off := 0 }), Value.pointer (some { block := w.heap.size + 1 + 1 + 1, off := 0 }), undef, Value.pointer (some { block := w.heap.size + 1 + 1 + 1 + 1, off := 0 }), u14, u15, Value.int IntKind.i64 0, undef, u18, Value.pointer (some { block := wr.heap.size + 1, off := 0 }), .int .i64 x.1, Value.pointer (some { block := b, off := 0 }), Value.int IntKind.i64 r, Value.agg #[Value.int IntKind.u8 s, Value.int IntKind.u8 h, Value.int IntKind.i64 m, Value.slice ga gz.length gc], Value.slice O B.length oc, Value.slice P S.length pc, Value.int IntKind.i64 0, Value.int IntKind.i64 0, Value.bool false, undef, Value.slice A 256 lc, Value.int IntKind.i64 256, Value.bool false, Value.slice A 256 lc, Value.int IntKind.i64 256, Value.int IntKind.i64 256, Value.bool false, u37, u38, u39, u40, u41, u42, u43, u44, u45, u46, u47, u48, Value.slice (some { block := wr.heap.size, off := 0 }) 256 256, Value.int IntKind.i64 r, Value.agg #[Value.int IntKind.u8 s, Value.int IntKind.u8 h, Value.int IntKind.i64 m, Value.slice ga gz.length gc], Value.func (Fn.func 84) #[] #[Value.pointer (some ⟨b7, 0, none⟩), Value.pointer (some ⟨w0, 0, none⟩), Value.pointer (some ⟨b5, 0, none⟩)], .int .i64 x.1, .agg #[.int .i64 x.2.1, .int .i64 x.2.2], undef, undef, undef, undef, undef, undef, undef, undef, undef, undef, undef, undef, undef, undef, undef, undef, undef, undef, undef, undef, undef, undef, undef, undef, undef, undef, undef, undef, undef, undef, undef, undef, undef, undef, undef, undef, undef, undef, undef, undef, undef, undef, undef, undef, undef, undef], defers := [] }) ?assign ?body ?done
      case hI =>
        obtain ⟨h1, h2⟩ := h
        refine ⟨hp.row h1 (fun q => by rcases q with q | q | q <;> first | exact q.elim | omega), ?_⟩
        exact ⟨hp.os.trans h2.os, hp.tape.trans h2.tape, hp.output.trans h2.output, Nat.le_trans h2.size hp.size, fun j hj hne => (hp.block j (Nat.lt_of_lt_of_le hj h2.size) (fun q => by rcases q with q | q | q <;> first | exact q.elim | omega)).trans (h2.block j hj hne)⟩
      case assign =>
        intro l x W K hK
        dsimp only [encQ]
        gi_wp2
        exact hK _ ((Below.refl _ W).alloc (Nat.le_refl _) _) (World.alloc_heap_new _ _)
      case body =>
        rintro l k x b W ⟨h1, h2⟩ hk hx hb ho
        obtain rfl := hx_parts r0 r1 hx
        clear hx HP HQ r0w lo lt0 lt5 lt7 ltg
        dsimp only at ho ⊢
        have BW : Below w.heap.size w W := B2.trans (h2.below B2.size (fun j q => by omega))
        have hkeep : ∀ j o, j < wr.heap.size → wr.heap[j]? = some o → W.heap[j]? = some o := fun j o hj ho => (h2.block j (by have := hb2.size; simp at this; omega) (by omega)).trans ((hb2.block j (by omega)).trans ((B4.block j hj).trans ho))
        have cb := cell_two ho
        obtain ⟨_, _, im, _⟩ := cell4 (hkeep _ _ (by omega) b8.out)
        have cB := cell_box (hkeep _ _ (by omega) b9.out)
        have cS := cell_box (hkeep _ _ (by omega) b10.out)
        have cL := cell_box (hkeep _ _ (by omega) b11.out)
        obtain ⟨ab, ao, rfl, lA, cA0⟩ := RL.out k (by rw [HL.out]; exact hk)
        have cA := (BW.cell (p := ⟨ab, ao + k, none⟩) lA).trans cA0
        clear cA0
        by_cases hz : lz.getD k 0 = 0
        · rw [hz] at cA
          gi_wp2
          have hmo : Tryd.prog.follows .mixedOrders = true := by kernel_rfl
          refine region_quiet_round l rfl hmo (by kernel_rfl) (by kernel_rfl) ?_
          repeat (gi_big_quiet_step (fail))
          refine BigFrame.wpQuietIn_skip ?_ rfl ?_
          · intro w _ f _; trivial
          simp only [Act.put, List.setIfInBounds_toArray, List.set_cons_succ, List.set_cons_zero]
          repeat (gi_big_quiet_step (fail))
          refine wpQuietIn_nil ?_
          intro _ hw'
          obtain ⟨nq, hw''⟩ := hw'
          subst hw''
          gi_wp2
          have hQ : QV r s m gz B S lz f k = 0 := by unfold QV qv; rw [if_neg (fun h => h.1 hz)]
          have D := Fx.drewN_below W nq
          refine ⟨⟨(h1.of_block (D.block _ h1.lt)).congr (fun j hj => ?_), h2.trans (Part.of_below D)⟩, D.size, fun j q => D.block j ?_⟩
          · by_cases e : j = k
            · subst e; simp [hQ]
            · by_cases e2 : j < k
              · rw [if_pos e2, if_pos (by omega)]
              · rw [if_neg e2, if_neg (by omega)]
          · have lb := (Array.getElem?_eq_some_iff.1 ho).1
            rcases q with q | q | q
            · have := HU j q; omega
            · omega
            · omega
        · by_cases hm : (bk r s k : Int) < m
          · obtain ⟨_, hBl, hSl, hBm, hSm, hnb⟩ := HQE.out
            have hgl2 := gk_lt HCK.out hk
            have hgB : gk s gz k < B.length := by omega
            have hgS : gk s gz k < S.length := by omega
            have hrB := hBm _ hgB
            have hrS := hSm _ hgS
            have hbB : bk r s k < (B.getD (gk s gz k) []).length := by omega
            have hbS : bk r s k < (S.getD (gk s gz k) []).length := by omega
            obtain ⟨bb, bo, ba, bc, eO, lbb, cR, rdB⟩ := (HRB.out.below BW) _ hgB
            subst eO
            obtain ⟨b2, o2, rfl, lb2, cV⟩ := rdB _ hbB
            have hm1 := HBR.out _ hgB
            by_cases hs : snt ((B.getD (gk s gz k) []).getD (bk r s k) 0) = true
            · have hs2 : snt ((B.getD (gk s gz k) []).getD (bk r s k) 0) = true := hs
              obtain ⟨sb, so, sa, sc, eP, lsb, cRS0, rdS⟩ := HRS.out _ hgS
              subst eP
              obtain ⟨s2b, s2o, rfl, ls2, cVS0⟩ := rdS _ hbS
              have cRS := (BW.cell (p := ⟨sb, so + gk s gz k, none⟩) lsb).trans cRS0
              have cVS := (BW.cell (p := ⟨s2b, s2o + bk r s k, none⟩) ls2).trans cVS0
              clear cRS0 cVS0
              have hm2 := HSR.out _ hgS
              have hQ : QV r s m gz B S lz f k = f (lz.getD k 0) ((S.getD (gk s gz k) []).getD (bk r s k) 0) := by unfold QV qv; rw [if_pos ⟨hz, hm, hs⟩]
              have hnz : (lz.getD k 0 != 0) = true := by simpa using hz
              have hnz2 : (lz.getD k 0 == 0) = false := by simpa using hz
              have hmb : decide ((bk r s k : Int) < m) = true := by simpa using hm
              generalize lz.getD k 0 = X at *
              generalize (B.getD (gk s gz k) []).getD (bk r s k) 0 = V at *
              generalize (S.getD (gk s gz k) []).getD (bk r s k) 0 = T at *
              obtain ⟨Ln, hLn⟩ : ∃ Ln, (B.getD (gk s gz k) []).length = Ln := ⟨_, rfl⟩
              rw [hLn] at cR hbB hm1
              obtain ⟨Ls, hLs⟩ : ∃ Ls, (S.getD (gk s gz k) []).length = Ls := ⟨_, rfl⟩
              rw [hLs] at cRS hbS hm2
              clear hLn rdB hLs rdS
              clear hrB hrS hBm hSm hnb hBl hSl
              generalize gk s gz k = g' at *
              generalize bk r s k = b' at *
              obtain ⟨cb0, cb1⟩ := cb
              have hsk : ∀ W, Calls Tryd.prog 75 #[.int .i64 V] W fun e w' => e = .returned (.bool true) ∧ W = w' := fun W => by have := sent_ok V W; rwa [hs2] at this
              gi_wp2
              have hmo : Tryd.prog.follows .mixedOrders = true := by kernel_rfl
              refine region_quiet_round l rfl hmo (by kernel_rfl) (by kernel_rfl) ?_
              repeat (gi_big_quiet_step (fail))
              refine BigFrame.wpQuietIn_want ?_ rfl ?_
              · intro w _ f _; trivial
              intro K hK
              gi_big_quiet_op
              gi_big_quiet_call ((exact callsIn_wide.2 ((hsk _).mono fun e w' h => ⟨h.1, _, h.2.symm⟩)))
              repeat (gi_big_quiet_step (fail))
              refine wpQuietIn_nil ?_
              intro _ hw'
              obtain ⟨nq, hw''⟩ := hw'
              subst hw''
              gi_wp2
              have lb := (Array.getElem?_eq_some_iff.1 ho).1
              have zw := B1.out.size
              have zb := hb2.size
              have hc19 : W.cell? ⟨wr.heap.size + 1, 0, none⟩ = some (.slice (some ⟨wr.heap.size, 0, none⟩) 256 256) := by
                have e1 : ((wr.alloc (.cells (madeCells #[.int .i64 0] 256) 3)).alloc (.cells #[.slice (some ⟨wr.heap.size, 0, none⟩) 256 256] 39)).heap[wr.heap.size + 1]? = some (.cells #[.slice (some ⟨wr.heap.size, 0, none⟩) 256 256] 39) := by
                  have := World.alloc_heap_new (wr.alloc (.cells (madeCells #[.int .i64 0] 256) 3)) (.cells #[.slice (some ⟨wr.heap.size, 0, none⟩) 256 256] 39)
                  rwa [World.size_alloc] at this
                have e2 : W.heap[wr.heap.size + 1]? = some (.cells #[.slice (some ⟨wr.heap.size, 0, none⟩) 256 256] 39) := (h2.block _ (by have := hb2.size; simp at this; omega) (by omega)).trans ((hb2.block _ (by omega)).trans e1)
                exact cell_box e2
              have hc13 : W.cell? ⟨w.heap.size + 1 + 1 + 1 + 1, 0, none⟩ = some (.func (.func 19) #[] #[]) := cell_box (hkeep _ _ (by omega) b13.out)
              have hne1 : w.heap.size + 5 ≤ wr.heap.size := z1
              have hneb : b ≠ wr.heap.size := by omega
              have ck : ∀ (w' : World) (hS : ∀ j o, j ≠ wr.heap.size → W.heap[j]? = some o → w'.heap[j]? = some o) (j o : Nat) (v : Value), j ≠ wr.heap.size → W.cell? ⟨j, o, none⟩ = some v → w'.cell? ⟨j, o, none⟩ = some v := fun w' hS j o v hj hc => cell_same' hc (fun ob => hS j ob hj)
              have hSc : ∀ w' : World, (∀ j o, j ≠ wr.heap.size → W.heap[j]? = some o → w'.heap[j]? = some o) → w'.cell? ⟨wr.heap.size + 1, 0, none⟩ = some (.slice (some ⟨wr.heap.size, 0, none⟩) 256 256) ∧ w'.cell? ⟨w.heap.size + 1 + 1 + 1 + 1, 0, none⟩ = some (.func (.func 19) #[] #[]) ∧ w'.cell? ⟨w.heap.size + 1 + 1 + 1, 0, none⟩ = some (.slice (some ⟨ab, ao, none⟩) 256 lc) ∧ w'.cell? ⟨ab, ao + k, none⟩ = some (.int .i64 X) ∧ w'.cell? ⟨w.heap.size + 1 + 1, 0, none⟩ = some (.slice (some ⟨sb, so, none⟩) S.length pc) ∧ w'.cell? ⟨b, 0, none⟩ = some (.int .i64 (g' : Int)) ∧ w'.cell? ⟨b, 1, none⟩ = some (.int .i64 (b' : Int)) ∧ w'.cell? ⟨sb, so + g', none⟩ = some (.slice (some ⟨s2b, s2o, none⟩) Ls sc) ∧ w'.cell? ⟨s2b, s2o + b', none⟩ = some (.int .i64 T) := fun w' hS =>
                ⟨ck w' hS _ _ _ (by omega) hc19, ck w' hS _ _ _ (by omega) hc13, ck w' hS _ _ _ (by omega) cL, ck w' hS _ _ _ (by omega) cA, ck w' hS _ _ _ (by omega) cS, ck w' hS _ _ _ hneb cb0, ck w' hS _ _ _ hneb cb1, ck w' hS _ _ _ (by omega) cRS, ck w' hS _ _ _ (by omega) cVS⟩
              clear ck
              have hS : (fun w' : World => ∀ j o, j ≠ wr.heap.size → W.heap[j]? = some o → w'.heap[j]? = some o) (W.drewN nq).drew := fun j o _ h => h
              have hk' : (k : Int) < 256 := by omega
              have hgS' : (g' : Int) < (S.length : Int) := by omega
              have hbS' : (b' : Int) < (Ls : Int) := by omega
              refine region_held_round l (fun w' => ∀ j o, j ≠ wr.heap.size → W.heap[j]? = some o → w'.heap[j]? = some o) hmo (by kernel_rfl) (fun h => by obtain ⟨_, _, h⟩ := h; exact h) ?_
              show wpAnyH _ _ _ _ _ 22 _ _ _
              refine wpAnyH_take (i := 0) (v := ?v0) rfl (by kernel_rfl) (by kernel_rfl) (by kernel_rfl) (fun _ _ _ h => h) (Or.inl ⟨by rfl, ?y0⟩) hS ?r0
              case y0 => intro w' hw'; have s1 := (hSc w' hw').1; go_simp; try (with_reducible rfl)
              try simp only [Act.put, List.getElem_toArray, List.getElem_cons_succ, List.getElem_cons_zero, List.setIfInBounds_toArray, List.set_cons_zero, List.set_cons_succ]
              refine wpAnyH_take (i := 1) (v := ?v1) rfl (by kernel_rfl) (by kernel_rfl) (by kernel_rfl) (fun _ _ _ h => h) (Or.inl ⟨by rfl, ?y1⟩) hS ?r1
              case y1 => intro w' hw'; go_simp; try (with_reducible rfl)
              try simp only [Act.put, List.getElem_toArray, List.getElem_cons_succ, List.getElem_cons_zero, List.setIfInBounds_toArray, List.set_cons_zero, List.set_cons_succ]
              refine wpAnyH_take (i := 2) (v := ?v2) rfl (by kernel_rfl) (by kernel_rfl) (by kernel_rfl) (fun _ _ _ h => h) (Or.inl ⟨by rfl, ?y2⟩) hS ?r2
              case y2 => intro w' hw'; have s2 := (hSc w' hw').2.1; go_simp; try (with_reducible rfl)
              try simp only [Act.put, List.getElem_toArray, List.getElem_cons_succ, List.getElem_cons_zero, List.setIfInBounds_toArray, List.set_cons_zero, List.set_cons_succ]
              refine wpAnyH_take (i := 3) (v := ?v3) rfl (by kernel_rfl) (by kernel_rfl) (by kernel_rfl) (fun _ _ _ h => h) (Or.inl ⟨by rfl, ?y3⟩) hS ?r3
              case y3 => intro w' hw'; have s3 := (hSc w' hw').2.2.1; go_simp; try (with_reducible rfl)
              try simp only [Act.put, List.getElem_toArray, List.getElem_cons_succ, List.getElem_cons_zero, List.setIfInBounds_toArray, List.set_cons_zero, List.set_cons_succ]
              refine wpAnyH_take (i := 4) (v := ?v4) rfl (by kernel_rfl) (by kernel_rfl) (by kernel_rfl) (fun _ _ _ h => h) (Or.inl ⟨by rfl, ?y4⟩) hS ?r4
              case y4 => intro w' hw'; go_simp; try (with_reducible rfl)
              try simp only [Act.put, List.getElem_toArray, List.getElem_cons_succ, List.getElem_cons_zero, List.setIfInBounds_toArray, List.set_cons_zero, List.set_cons_succ]
              refine wpAnyH_take (i := 5) (v := ?v5) rfl (by kernel_rfl) (by kernel_rfl) (by kernel_rfl) (fun _ _ _ h => h) (Or.inl ⟨by rfl, ?y5⟩) hS ?r5
              case y5 => intro w' hw'; go_simp; try (with_reducible rfl)
              try simp only [Act.put, List.getElem_toArray, List.getElem_cons_succ, List.getElem_cons_zero, List.setIfInBounds_toArray, List.set_cons_zero, List.set_cons_succ]
              refine wpAnyH_take (i := 6) (v := ?v6) rfl (by kernel_rfl) (by kernel_rfl) (by kernel_rfl) (fun _ _ _ h => h) (Or.inl ⟨by rfl, ?y6⟩) hS ?r6
              case y6 => intro w' hw'; have s4 := (hSc w' hw').2.2.2.1; go_simp; try (with_reducible rfl)
              try simp only [Act.put, List.getElem_toArray, List.getElem_cons_succ, List.getElem_cons_zero, List.setIfInBounds_toArray, List.set_cons_zero, List.set_cons_succ]
              refine wpAnyH_take (i := 7) (v := ?v7) rfl (by kernel_rfl) (by kernel_rfl) (by kernel_rfl) (fun _ _ _ h => h) (Or.inl ⟨by rfl, ?y7⟩) hS ?r7
              case y7 => intro w' hw'; have s5 := (hSc w' hw').2.2.2.2.1; go_simp; try (with_reducible rfl)
              try simp only [Act.put, List.getElem_toArray, List.getElem_cons_succ, List.getElem_cons_zero, List.setIfInBounds_toArray, List.set_cons_zero, List.set_cons_succ]
              refine wpAnyH_take (i := 8) (v := ?v8) rfl (by kernel_rfl) (by kernel_rfl) (by kernel_rfl) (fun _ _ _ h => h) (Or.inl ⟨by rfl, ?y8⟩) hS ?r8
              case y8 => intro w' hw'; go_simp; try (with_reducible rfl)
              try simp only [Act.put, List.getElem_toArray, List.getElem_cons_succ, List.getElem_cons_zero, List.setIfInBounds_toArray, List.set_cons_zero, List.set_cons_succ]
              refine wpAnyH_take (i := 9) (v := ?v9) rfl (by kernel_rfl) (by kernel_rfl) (by kernel_rfl) (fun _ _ _ h => h) (Or.inl ⟨by rfl, ?y9⟩) hS ?r9
              case y9 => intro w' hw'; have s6 := (hSc w' hw').2.2.2.2.2.1; go_simp; try (with_reducible rfl)
              try simp only [Act.put, List.getElem_toArray, List.getElem_cons_succ, List.getElem_cons_zero, List.setIfInBounds_toArray, List.set_cons_zero, List.set_cons_succ]
              refine wpAnyH_take (i := 10) (v := ?v10) rfl (by kernel_rfl) (by kernel_rfl) (by kernel_rfl) (fun _ _ _ h => h) (Or.inl ⟨by rfl, ?y10⟩) hS ?r10
              case y10 => intro w' hw'; go_simp; try (with_reducible rfl)
              try simp only [Act.put, List.getElem_toArray, List.getElem_cons_succ, List.getElem_cons_zero, List.setIfInBounds_toArray, List.set_cons_zero, List.set_cons_succ]
              refine wpAnyH_take (i := 11) (v := ?v11) rfl (by kernel_rfl) (by kernel_rfl) (by kernel_rfl) (fun _ _ _ h => h) (Or.inl ⟨by rfl, ?y11⟩) hS ?r11
              case y11 => intro w' hw'; have s8 := (hSc w' hw').2.2.2.2.2.2.2.1; go_simp; try (with_reducible rfl)
              try simp only [Act.put, List.getElem_toArray, List.getElem_cons_succ, List.getElem_cons_zero, List.setIfInBounds_toArray, List.set_cons_zero, List.set_cons_succ]
              refine wpAnyH_take (i := 12) (v := ?v12) rfl (by kernel_rfl) (by kernel_rfl) (by kernel_rfl) (fun _ _ _ h => h) (Or.inl ⟨by rfl, ?y12⟩) hS ?r12
              case y12 => intro w' hw'; go_simp; try (with_reducible rfl)
              try simp only [Act.put, List.getElem_toArray, List.getElem_cons_succ, List.getElem_cons_zero, List.setIfInBounds_toArray, List.set_cons_zero, List.set_cons_succ]
              refine wpAnyH_take (i := 13) (v := ?v13) rfl (by kernel_rfl) (by kernel_rfl) (by kernel_rfl) (fun _ _ _ h => h) (Or.inl ⟨by rfl, ?y13⟩) hS ?r13
              case y13 => intro w' hw'; have s7 := (hSc w' hw').2.2.2.2.2.2.1; go_simp; try (with_reducible rfl)
              try simp only [Act.put, List.getElem_toArray, List.getElem_cons_succ, List.getElem_cons_zero, List.setIfInBounds_toArray, List.set_cons_zero, List.set_cons_succ]
              refine wpAnyH_take (i := 14) (v := ?v14) rfl (by kernel_rfl) (by kernel_rfl) (by kernel_rfl) (fun _ _ _ h => h) (Or.inl ⟨by rfl, ?y14⟩) hS ?r14
              case y14 => intro w' hw'; go_simp; try (with_reducible rfl)
              try simp only [Act.put, List.getElem_toArray, List.getElem_cons_succ, List.getElem_cons_zero, List.setIfInBounds_toArray, List.set_cons_zero, List.set_cons_succ]
              refine wpAnyH_take (i := 15) (v := ?v15) rfl (by kernel_rfl) (by kernel_rfl) (by kernel_rfl) (fun _ _ _ h => h) (Or.inl ⟨by rfl, ?y15⟩) hS ?r15
              case y15 => intro w' hw'; have s9 := (hSc w' hw').2.2.2.2.2.2.2.2; go_simp; try (with_reducible rfl)
              try simp only [Act.put, List.getElem_toArray, List.getElem_cons_succ, List.getElem_cons_zero, List.setIfInBounds_toArray, List.set_cons_zero, List.set_cons_succ]
              refine wpAnyH_ready (rs := [16]) (by kernel_rfl) (by simp) ?_
              refine AllReadyH.cons rfl (fun K hK => ?_) AllReadyH.nil
              simp only [List.getElem_toArray, List.getElem_cons_succ, List.getElem_cons_zero]
              rw [if_pos (by rfl)]
              have D0 : Below W.heap.size W (W.drewN nq).drew := (Fx.drewN_below W nq).drew
              have hq0 : Fx.Qs (W.drewN nq).drew := (hqs.below BW).drewN nq
              go_simp
              refine (hfn X T _ hq0).mono ?_
              rintro e w5 ⟨rfl, hq5, hb5⟩
              have hS5 : (fun w' : World => ∀ j o, j ≠ wr.heap.size → W.heap[j]? = some o → w'.heap[j]? = some o) w5 := fun j o _ h => (hb5.block j (Array.getElem?_eq_some_iff.1 h).1).trans h
              refine hK.out _ _ hS5 (fun _ => ?_)
              try simp only [Act.put, List.getElem_toArray, List.getElem_cons_succ, List.getElem_cons_zero, List.setIfInBounds_toArray, List.set_cons_zero, List.set_cons_succ]
              refine wpAnyH_take (i := 17) (v := ?v17) rfl (by kernel_rfl) (by kernel_rfl) (by kernel_rfl) (fun _ _ _ h => h) (Or.inl ⟨by rfl, ?y17⟩) hS5 ?r17
              case y17 => intro w' hw'; go_simp; try (with_reducible rfl)
              try simp only [Act.put, List.getElem_toArray, List.getElem_cons_succ, List.getElem_cons_zero, List.setIfInBounds_toArray, List.set_cons_zero, List.set_cons_succ]
              refine wpAnyH_take (i := 18) (v := ?v18) rfl (by kernel_rfl) (by kernel_rfl) (by kernel_rfl) (fun _ _ _ h => h) (Or.inl ⟨by rfl, ?y18⟩) hS5 ?r18
              case y18 => intro w' hw'; go_simp; try (with_reducible rfl)
              try simp only [Act.put, List.getElem_toArray, List.getElem_cons_succ, List.getElem_cons_zero, List.setIfInBounds_toArray, List.set_cons_zero, List.set_cons_succ]
              refine wpAnyH_take (i := 19) (v := ?v19) rfl (by kernel_rfl) (by kernel_rfl) (by kernel_rfl) (fun _ _ _ h => h) (Or.inl ⟨by rfl, ?y19⟩) hS5 ?r19
              case y19 => intro w' hw'; go_simp; try (with_reducible rfl)
              try simp only [Act.put, List.getElem_toArray, List.getElem_cons_succ, List.getElem_cons_zero, List.setIfInBounds_toArray, List.set_cons_zero, List.set_cons_succ]
              refine wpAnyH_take (i := 20) (v := ?v20) rfl (by kernel_rfl) (by kernel_rfl) (by kernel_rfl) (fun _ _ _ h => h) (Or.inl ⟨by rfl, ?y20⟩) hS5 ?r20
              case y20 => intro w' hw'; go_simp; try (with_reducible rfl)
              try simp only [Act.put, List.getElem_toArray, List.getElem_cons_succ, List.getElem_cons_zero, List.setIfInBounds_toArray, List.set_cons_zero, List.set_cons_succ]
              have R5 : w5.rowIs wr.heap.size 3 256 (fun j => .int .i64 (if j < k then QV r s m gz B S lz f j else 0)) := h1.of_block (hb5.block _ h1.lt)
              have q5 := R5.cell (i := k) hk
              have f5 := R5.frozen k
              refine wpAnyH_ready (rs := [21]) (by kernel_rfl) (by simp) ?_
              refine AllReadyH.cons rfl (fun K2 hK2 => ?_) AllReadyH.nil
              try simp only [List.getElem_toArray, List.getElem_cons_succ, List.getElem_cons_zero]
              rw [if_pos (by rfl)]
              go_simp
              refine hK2.out _ _ (fun j o hj ho => ?_) (fun _ => ?_)
              · have hne : wr.heap.size ≠ j := fun e => hj e.symm
                have e := hS5 j o hj ho
                rw [← e]
                simp only [World.setCell]
                show (w5.heap.modify wr.heap.size _)[j]? = w5.heap[j]?
                rw [Array.getElem?_modify, if_neg hne]
              refine wpAnyH_done (by kernel_rfl) ?_ _
              have BD : Below W.heap.size W w5 := ((Below.refl _ W).trans D0).trans hb5
              have lk := h1.lt
              refine ⟨⟨(R5.set k (.int .i64 (f X T))).congr (fun j hj => ?_), h2.trans ((Part.of_below BD).trans (Part.set (p := ⟨wr.heap.size, k, none⟩) _ rfl))⟩, ?_, fun j q => ?_⟩
              · by_cases e : j = k
                · subst e; rw [if_pos rfl, if_pos (by omega), hQ]
                · rw [if_neg e]
                  by_cases e2 : j < k
                  · rw [if_pos e2, if_pos (by omega)]
                  · rw [if_neg e2, if_neg (by omega)]
              · have := BD.size; simp; omega
              · have hjW : j < W.heap.size ∧ j ≠ wr.heap.size := by
                  rcases q with q | q | q
                  · have := HU j q; have := HU2 j q; exact ⟨by omega, by omega⟩
                  · exact ⟨by omega, by omega⟩
                  · exact ⟨by omega, by omega⟩
                have hne : ¬ wr.heap.size = j := fun e => hjW.2 e.symm
                simp only [World.setCell]
                show (w5.heap.modify wr.heap.size _)[j]? = W.heap[j]?
                rw [Array.getElem?_modify, if_neg hne]
                exact BD.block j hjW.1
            · have hQ : QV r s m gz B S lz f k = 0 := by unfold QV qv; rw [if_neg (fun h => hs h.2.2)]
              have hs2 : snt ((B.getD (gk s gz k) []).getD (bk r s k) 0) = false := by simpa using hs
              have hnz : (lz.getD k 0 != 0) = true := by simpa using hz
              have hnz2 : (lz.getD k 0 == 0) = false := by simpa using hz
              have hmb : decide ((bk r s k : Int) < m) = true := by simpa using hm
              generalize lz.getD k 0 = X at *
              generalize (B.getD (gk s gz k) []).getD (bk r s k) 0 = V at *
              obtain ⟨Ln, hLn⟩ : ∃ Ln, (B.getD (gk s gz k) []).length = Ln := ⟨_, rfl⟩
              rw [hLn] at cR hbB hm1
              clear hLn rdB
              clear hrB hrS hBm hSm hnb hBl hSl
              generalize gk s gz k = g' at *
              generalize bk r s k = b' at *
              obtain ⟨cb0, cb1⟩ := cb
              have hsk : ∀ W, Calls Tryd.prog 75 #[.int .i64 V] W fun e w' => e = .returned (.bool false) ∧ W = w' := fun W => by have := sent_ok V W; rwa [hs2] at this
              gi_wp2
              have hmo : Tryd.prog.follows .mixedOrders = true := by kernel_rfl
              refine region_quiet_round l rfl hmo (by kernel_rfl) (by kernel_rfl) ?_
              repeat (gi_big_quiet_step (fail))
              refine BigFrame.wpQuietIn_want ?_ rfl ?_
              · intro w _ f _; trivial
              intro K hK
              gi_big_quiet_op
              gi_big_quiet_call ((exact callsIn_wide.2 ((hsk _).mono fun e w' h => ⟨h.1, _, h.2.symm⟩)))
              repeat (gi_big_quiet_step (fail))
              refine wpQuietIn_nil ?_
              intro _ hw'
              obtain ⟨nq, hw''⟩ := hw'
              subst hw''
              gi_wp2
              have D := Fx.drewN_below W nq
              refine ⟨⟨(h1.of_block (D.block _ h1.lt)).congr (fun j hj => ?_), h2.trans (Part.of_below D)⟩, D.size, fun j q => D.block j ?_⟩
              · by_cases e : j = k
                · subst e; simp [hQ]
                · by_cases e2 : j < k
                  · rw [if_pos e2, if_pos (by omega)]
                  · rw [if_neg e2, if_neg (by omega)]
              · have lb := (Array.getElem?_eq_some_iff.1 ho).1
                rcases q with q | q | q
                · have := HU j q; omega
                · omega
                · omega
          have hQ : QV r s m gz B S lz f k = 0 := by unfold QV qv; rw [if_neg (fun h => hm h.2.1)]
          have hnz : (lz.getD k 0 != 0) = true := by simpa using hz
          have hnz2 : (lz.getD k 0 == 0) = false := by simpa using hz
          generalize lz.getD k 0 = X at *
          have hmb : decide ((bk r s k : Int) < m) = false := by simpa using hm
          obtain ⟨cb0, cb1⟩ := cb
          gi_wp2
          have hmo : Tryd.prog.follows .mixedOrders = true := by kernel_rfl
          refine region_quiet_round l rfl hmo (by kernel_rfl) (by kernel_rfl) ?_
          repeat (gi_big_quiet_step (fail))
          refine BigFrame.wpQuietIn_skip ?_ rfl ?_
          · intro w _ f _; trivial
          simp only [Act.put, List.setIfInBounds_toArray, List.set_cons_succ, List.set_cons_zero]
          repeat (gi_big_quiet_step (fail))
          refine wpQuietIn_nil ?_
          intro _ hw'
          obtain ⟨nq, hw''⟩ := hw'
          subst hw''
          gi_wp2
          have D := Fx.drewN_below W nq
          refine ⟨⟨(h1.of_block (D.block _ h1.lt)).congr (fun j hj => ?_), h2.trans (Part.of_below D)⟩, D.size, fun j q => D.block j ?_⟩
          · by_cases e : j = k
            · subst e; simp [hQ]
            · by_cases e2 : j < k
              · rw [if_pos e2, if_pos (by omega)]
              · rw [if_neg e2, if_neg (by omega)]
          · have lb := (Array.getElem?_eq_some_iff.1 ho).1
            rcases q with q | q | q
            · have := HU j q; omega
            · omega
            · omega
      case done =>
        rintro W ⟨h1, h2⟩ hsl hK
        have e1 : ((wr.alloc (.cells (madeCells #[.int .i64 0] 256) 3)).alloc (.cells #[.slice (some ⟨wr.heap.size, 0, none⟩) 256 256] 39)).heap[wr.heap.size + 1]? = some (.cells #[.slice (some ⟨wr.heap.size, 0, none⟩) 256 256] 39) := by
          have := World.alloc_heap_new (wr.alloc (.cells (madeCells #[.int .i64 0] 256) 3)) (.cells #[.slice (some ⟨wr.heap.size, 0, none⟩) 256 256] 39)
          rwa [World.size_alloc] at this
        have c19 : W.cell? ⟨wr.heap.size + 1, 0, none⟩ = some (.slice (some ⟨wr.heap.size, 0, none⟩) 256 256) := cell_box ((h2.block _ (by have := hb2.size; simp at this; omega) (by omega)).trans ((hb2.block _ (by omega)).trans e1))
        have BW : Below w.heap.size w W := B2.trans (h2.below B2.size (fun j q => by omega))
        clear HP HQ r0w lo lt0 lt5 lt7 ltg
        gi_wp2
        refine ⟨by simp, .inl ⟨_, _, rfl, run_takeDeferred hK, ?_⟩⟩
        have zb := hb2.size
        have zw := B1.out.size
        have z2 := B2.size
        refine ⟨_, results_tmp2 rfl _ _ _, wr.heap.size, rfl, ((h1.of_block (World.putObj_heap_other (by omega))).congr fun j hj => by rw [if_pos hj]), by omega, ?_⟩
        exact BW.trans (belowK_b (w := w) (Nat.le_refl _) W w2.heap.size _ _ (by omega) hK rfl rfl)
end Go.Proofs.YtanjcbnkkhbkkaaDoor.Qn
