/- Texts of one claim, one behind the other: QnTl, QnTq, QnLn, QnGt, QnOp, QnMt, QdRef, QdRo, ItMa, ItRf, ItRg, ItIn, ItSm, QdAs, QdAt, QdPl, QdLn, QnAl, QuantBackK, QnCo, QdTw. -/
import Derived.Test.YtanjcbnkkhbkkaaDoorMrg0
import Derived.Shelf.Abstract
import Derived.Shelf.AbstractIn
import Derived.Shelf.RegionOpen
import Derived.Sort.QuietIn
import Derived.WalkKit
import Derived.OwnWalkIn
import Derived.TacticsInMore
import Derived.LoopNIn
import Derived.LoopIn
import Derived.Below
import Derived.ProofKit
import Derived.OpenShut
import Derived.Deep.OwnRows
import Derived.Lib.Hide
import Derived.RegionTactic
import Derived.Test.YtanjcbnkkhbkkaaDoorEvOpen
import Derived.Deep.Matrix
import Derived.Deep.QuietTactic
import Derived.BigQuiet
import Derived.Laws.AppendOwn
import Derived.Laws.AppendOwnNone
import Derived.WalkSpells
import Derived.Deep.RegionHeld3
import Derived.Test.YtanjcbnkkhbkkaaDoorEvLaid
import Derived.Test.YtanjcbnkkhbkkaaDoorEvLaw
import Derived.SizedLaws
import Derived.Maps.AppendAt
set_option linter.unusedVariables false
/- Lines turned at their steps: what is answered to what may be. -/
namespace Go.Proofs.YtanjcbnkkhbkkaaDoor.Qn
open Go Go.ChangeShapes Go.WideShapes Go.ChangeAt Go.RowKit Go.Shelf Go.Proofs.YtanjcbnkkhbkkaaDoor.If Go.Proofs.YtanjcbnkkhbkkaaDoor.Rg Go.Proofs.YtanjcbnkkhbkkaaDoor.Bd

attribute [local go_sem] Oper.semAt_some
theorem cell_two {w : World} {b : Nat} {t : TypeId} {x y : Value} (h : w.heap[b]? = some (.cells #[x, y] t (0, 0))) : w.cell? ⟨b, 0, none⟩ = some x ∧ w.cell? ⟨b, 1, none⟩ = some y := by
  simp [World.cell?, h]
theorem cell_same' {A B : World} {g o : Nat} {v : Value} (h : A.cell? ⟨g, o, none⟩ = some v) (hs : ∀ ob, A.heap[g]? = some ob → B.heap[g]? = some ob) : B.cell? ⟨g, o, none⟩ = some v := by
  have hl : g < A.heap.size := World.block_lt_of_cell? A _ h
  have e : A.heap[g]? = some A.heap[g] := Array.getElem?_eq_getElem hl
  have e2 := hs _ e
  rw [← h]
  unfold World.cell?
  rw [e, e2]
set_option maxRecDepth 100000 in
set_option maxHeartbeats 8000000 in
theorem turned_17 (r s h m : Int) (ga : Option Addr) (gc : Nat) (gz : List Int) (O P A : Option Addr) (oc pc lc : Nat) (B S : List (List Int)) (lz : List Int) (most : Int) (w : World) (r0 : 0 ≤ r) (r1 : r ≤ 11) (hck : chk r s h m gz = 0) (hgl : gz.length ≤ 100000) (hB : B.length ≤ 1000) (hS : S.length ≤ 1000) (hBr : ∀ i, i < B.length → (B.getD i []).length ≤ maxLen) (hSr : ∀ i, i < S.length → (S.getD i []).length ≤ maxLen) (hg : RdA w ga gz) (rB : RdR w O B) (rS : RdR w P S) (rl : RdA w A lz) (hl : lz.length = 256) (hq : QE r s h m gz B S 0) (hm0 : 0 ≤ most) (hm1 : most ≤ 1099511627776) (hin : ∀ j, j < 256 → -most ≤ lz.getD j 0 ∧ lz.getD j 0 ≤ most) (f ef : Int → Int → Int) (hqs : Fx.Qs w) (hfn : ∀ (x st : Int) (W : World), Fx.Qs W → Calls Tryd.prog 17 #[.int .i64 x, .int .i64 st] W fun e w' => e = .returned (.tuple #[.int .i64 (f x st), .int .i64 (ef x st)]) ∧ Fx.Qs w' ∧ Below W.heap.size W w') :
    Calls Tryd.prog 53 #[.int .i64 r, .agg #[.int .u8 s, .int .u8 h, .int .i64 m, .slice ga gz.length gc], .slice O B.length oc, .slice P S.length pc, .slice A lz.length lc, .int .i64 most, (.func (.func 17) #[] #[])] w fun e w' => ∃ g, e = .returned (.tuple #[.slice (some ⟨g, 0, none⟩) 256 256, .int .i64 0]) ∧ w'.rowIs g 3 256 (fun j => .int .i64 (QV r s m gz B S lz f j)) ∧ w.heap.size ≤ g ∧ Below w.heap.size w w' := by
  have HQE := Lib.hid (qe_zero hq)
  have HRB := Lib.hid rB
  have HRS := Lib.hid rS
  have HBR := Lib.hid hBr
  have HSR := Lib.hid hSr
  have HQ := Lib.hid (fun W (hW : Below w.heap.size w W) => qcheck_ok r s h m ga gc gz O P oc pc B S W hgl hB hS hBr hSr (hg.below hW) (rB.below hW) (rS.below hW) 0 hq)
  have HP := Lib.hid (fun W (hW : Below w.heap.size w W) => places_ok r s h m ga gc gz W r0 r1 hck hgl (hg.below hW))
  have RL := Lib.hid rl
  have HL := Lib.hid hl
  have HCK := Lib.hid hck
  have RG := Lib.hid hg
  have HI := Lib.hid hin
  have hmk : ∀ w : World, (Instr.makeSlice 39 (.int .i64 256) (.int .i64 256)).run Tryd.prog w = .ok (.slice (some ⟨w.heap.size, 0, none⟩) 256 256) (w.alloc (.cells (madeCells #[.int .i64 0] 256) 3)) := fun w => run_make_row' 39 3 (.int .i64 0) 8 Tryd.underlying39 info3' rfl .i64 .i64 256 (by decide) (by decide) w
  rw [hl]
  clear hg rB rS hq hBr hSr rl hl hin hck
  refine (callsIn_wide (n := 5)).1 ?_
  refine callsIn_of_wp_marks Tryd.func53 rfl trivial ?_ rfl
  simp only [Tryd.ntmps53, List.size_toArray, List.length_cons, List.length_nil, Nat.reduceAdd, Nat.reduceSub, Array.replicate_succ, Array.replicate_zero, List.push_toArray, List.append_toArray, List.nil_append, List.cons_append]
  gi_wp2_with first
    | (refine ⟨trivial, ?_⟩; gi_at_call 73; refine (callsIn_wide.2 (HQ.out _ (al5 w _ _ _ _ _))).mono ?_; rintro e w1 ⟨rfl, hb1⟩; have B1 := Lib.hid (belowT (al5 w _ _ _ _ _) hb1); have c11 : w1.cell? ⟨w.heap.size + 3, 0, none⟩ = some (.slice A 256 lc) := (hb1.cell (p := ⟨w.heap.size + 3, 0, none⟩) (by simp)).trans (cell_box (w5_3 w _ _ _ _ _)); have b8 := Lib.hid ((hb1.block w.heap.size (by simp <;> omega)).trans (w5_0 w _ _ _ _ _)); have b9 := Lib.hid ((hb1.block (w.heap.size + 1) (by simp <;> omega)).trans (w5_1 w _ _ _ _ _)); have b10 := Lib.hid ((hb1.block (w.heap.size + 2) (by simp <;> omega)).trans (w5_2 w _ _ _ _ _)); have b11 := Lib.hid ((hb1.block (w.heap.size + 3) (by simp <;> omega)).trans (w5_3 w _ _ _ _ _)); have b13 := Lib.hid ((hb1.block (w.heap.size + 4) (by simp <;> omega)).trans (w5_4 w _ _ _ _ _)); have z1 : w.heap.size + 5 ≤ w1.heap.size := (by have := hb1.size; simp at this; omega); clear hb1)
  gi_loopw [35] (fun q wr => ∃ k : Nat, k ≤ 256 ∧ q = .int .i64 k ∧ wr = w1) (fun q _ => 256 - (intOf q).toNat)
  case atStart => exact ⟨0, by omega, rfl, rfl⟩
  case round =>
    obtain ⟨k, hk, rfl, rfl⟩ := hrel
    by_cases hlt : k < 256
    · obtain ⟨b, off, rfl, lb, c0⟩ := (RL.out.below B1.out) k (by rw [HL.out]; exact hlt)
      obtain ⟨t0, t1⟩ := HI.out k hlt
      have t2 : ¬ lz.getD k 0 < -most := by omega
      have t3 : ¬ most < lz.getD k 0 := by omega
      generalize lz.getD k 0 = X at *
      gi_wp2
      go_roundw
      case rel => exact ⟨k + 1, by omega, by go_num, trivial⟩
      case measure => simp [intOf]; omega
    · have e : k = 256 := by omega
      subst e
      have B4 : Below wr.heap.size wr ((wr.alloc (.cells (madeCells #[.int .i64 0] 256) 3)).alloc (.cells #[.slice (some ⟨wr.heap.size, 0, none⟩) 256 256] 39)) := ((Below.refl _ wr).alloc (Nat.le_refl _) _).alloc (by simp) _
      obtain ⟨i0, i1, i2, i3⟩ := cell4 ((B4.block _ (by omega)).trans b8.out)
      have B3 := Lib.hid ((B1.out.alloc B1.out.size (.cells (madeCells #[.int .i64 0] 256) 3)).alloc (by simp; omega) (.cells #[.slice (some ⟨wr.heap.size, 0, none⟩) 256 256] 39))
      gi_wp2_with first
        | (refine ⟨trivial, ?_⟩; gi_at_call 74; refine (callsIn_wide.2 (HP.out _ B3.out)).mono ?_; rintro e w2 ⟨b5, b7, g, cap, rfl, hp2, hb2⟩)
      clear c11 i0 i1 i2 i3 hk hlt
      have sz : ((wr.alloc (.cells (madeCells #[.int .i64 0] 256) 3)).alloc (.cells #[.slice (some ⟨wr.heap.size, 0, none⟩) 256 256] 39)).heap.size = wr.heap.size + 2 := by simp
      rw [sz] at hp2 hb2
      obtain ⟨w0, hw0⟩ : ∃ x, wr.heap.size + 2 = x := ⟨_, rfl⟩
      rw [show wr.heap.size + 1 + 1 = w0 by omega]
      rw [hw0] at hp2 hb2
      have lo := hp2.lo
      have lt0 := (Array.getElem?_eq_some_iff.1 hp2.info).1
      have lt5 := hp2.offs.lt
      have lt7 := hp2.wins.lt
      have ltg := hp2.row.lt
      have r0w : World.rowIs w2 wr.heap.size 3 256 (fun j => .int .i64 (if j < 0 then QV r s m gz B S lz f j else 0)) := ((World.rowIs_made wr (.int .i64 0) 256 3).of_block ((hb2.block _ (by omega)).trans (Below.heap_alloc _ _ _ (by simp)))).congr fun j _ => rfl
      have B2 : Below w.heap.size w w2 := belowT B3.out (hb2.mono (by omega))
      have HU : ∀ k, Uq w0 b5 b7 g ga k → k < w2.heap.size := by
        intro k q
        rcases q with q | q | q | q | ⟨x, e, rfl⟩
        · omega
        · omega
        · omega
        · omega
        · obtain ⟨b, off, e2, lb, _⟩ := RG.out 0 (gz_pos HCK.out)
          rw [e] at e2; cases e2
          have := B2.size; simp only; omega
      have HU2 : ∀ k, Uq w0 b5 b7 g ga k → k ≠ wr.heap.size := by
        intro k q
        rcases q with q | q | q | q | ⟨x, e, rfl⟩
        · omega
        · omega
        · omega
        · omega
        · obtain ⟨b, off, e2, lb, _⟩ := RG.out 0 (gz_pos HCK.out)
          rw [e] at e2; cases e2
          have := B1.out.size; simp only; omega
      refine range_memA rfl (by decide) (gf := 84) (lb := #[.pointer (some ⟨b7, 0, none⟩), .pointer (some ⟨w0, 0, none⟩), .pointer (some ⟨b5, 0, none⟩)]) rfl trivial (enters_of Tryd.func84 (by kernel_rfl) rfl)
        encQ (HxQ r s gz) (fun _ => False) (Uq w0 b5 b7 g ga) 256 (fun k q => q.elim) HU (fun _ => rfl)
        (fun l J W hl hW hlt hJ hY h0 => places_in 4 (by decide) l w0 b5 b7 g cap r s h m ga gc gz W r0 r1 (chk_top HCK.out) hgl (hp2.below (hW.below (Nat.le_refl _) (fun _ h => h.elim))) ((RG.out.below B2).below (hW.below (Nat.le_refl _) (fun _ h => h.elim))) J hlt hJ hY h0)
        (fun k W => W.rowIs wr.heap.size 3 256 (fun j => .int .i64 (if j < k then QV r s m gz B S lz f j else 0)) ∧ Part (fun j => j = wr.heap.size) w2 W)
        (fun k X Y' h hp => ?hI) ⟨r0w, Part.refl _ _⟩ (fun k x X Y' hs hp h => h) (fun x => .cells #[.int .i64 x.2.1, .int .i64 x.2.2] 93 (0, 0))
        (fun x b => { tmps := #[Value.int IntKind.i64 r, Value.agg #[Value.int IntKind.u8 s, Value.int IntKind.u8 h, Value.int IntKind.i64 m, Value.slice ga gz.length gc], Value.slice O B.length oc, Value.slice P S.length pc, Value.slice A 256 lc, Value.int IntKind.i64 most, Value.func (Fn.func 17) #[] #[], undef, Value.pointer (some { block := w.heap.size, off := 0 }), Value.pointer (some { block := w.heap.size + 1, off := 0 }), Value.pointer (some { block := w.heap.size + 1 + 1, off := 0 }), Value.pointer (some { block := w.heap.size + 1 + 1 + 1, off := 0 }), undef, Value.pointer (some { block := w.heap.size + 1 + 1 + 1 + 1, off := 0 }), u14, u15, Value.int IntKind.i64 0, undef, u18, Value.pointer (some { block := wr.heap.size + 1, off := 0 }), .int .i64 x.1, Value.pointer (some { block := b, off := 0 }), Value.int IntKind.i64 r, Value.agg #[Value.int IntKind.u8 s, Value.int IntKind.u8 h, Value.int IntKind.i64 m, Value.slice ga gz.length gc], Value.slice O B.length oc, Value.slice P S.length pc, Value.int IntKind.i64 0, Value.int IntKind.i64 0, Value.bool false, undef, Value.slice A 256 lc, Value.int IntKind.i64 256, Value.bool false, Value.slice A 256 lc, Value.int IntKind.i64 256, Value.int IntKind.i64 256, Value.bool false, u37, u38, u39, u40, u41, u42, u43, u44, u45, u46, u47, u48, Value.slice (some { block := wr.heap.size, off := 0 }) 256 256, Value.int IntKind.i64 r, Value.agg #[Value.int IntKind.u8 s, Value.int IntKind.u8 h, Value.int IntKind.i64 m, Value.slice ga gz.length gc], Value.func (Fn.func 84) #[] #[Value.pointer (some ⟨b7, 0, none⟩), Value.pointer (some ⟨w0, 0, none⟩), Value.pointer (some ⟨b5, 0, none⟩)], .int .i64 x.1, .agg #[.int .i64 x.2.1, .int .i64 x.2.2], undef, undef, undef, undef, undef, undef, undef, undef, undef, undef, undef, undef, undef, undef, undef, undef, undef, undef, undef, undef, undef, undef, undef, undef, undef, undef, undef, undef, undef, undef, undef, undef, undef, undef, undef, undef, undef, undef, undef, undef, undef, undef, undef, undef, undef, undef], defers := [] }) ?assign ?body ?done
      case hI =>
        obtain ⟨h1, h2⟩ := h
        refine ⟨hp.row h1 (fun q => by rcases q with q | q | q <;> first | exact q.elim | omega), ?_⟩
        exact ⟨hp.os.trans h2.os, hp.tape.trans h2.tape, hp.output.trans h2.output, Nat.le_trans h2.size hp.size, fun j hj hne => (hp.block j (Nat.lt_of_lt_of_le hj h2.size) (fun q => by rcases q with q | q | q <;> first | exact q.elim | omega)).trans (h2.block j hj hne)⟩
      case assign =>
        intro l x W K hK
        dsimp only [encQ]
        gi_wp2
        exact hK _ ((Below.refl _ W).alloc (Nat.le_refl _) _) (World.alloc_heap_new _ _)
      case body =>
        rintro l k x b W ⟨h1, h2⟩ hk hx hb ho
        obtain rfl := hx_parts r0 r1 hx
        clear hx HP HQ r0w lo lt0 lt5 lt7 ltg
        dsimp only at ho ⊢
        have BW : Below w.heap.size w W := B2.trans (h2.below B2.size (fun j q => by omega))
        have hkeep : ∀ j o, j < wr.heap.size → wr.heap[j]? = some o → W.heap[j]? = some o := fun j o hj ho => (h2.block j (by have := hb2.size; simp at this; omega) (by omega)).trans ((hb2.block j (by omega)).trans ((B4.block j hj).trans ho))
        have cb := cell_two ho
        obtain ⟨_, _, im, _⟩ := cell4 (hkeep _ _ (by omega) b8.out)
        have cB := cell_box (hkeep _ _ (by omega) b9.out)
        have cS := cell_box (hkeep _ _ (by omega) b10.out)
        have cL := cell_box (hkeep _ _ (by omega) b11.out)
        obtain ⟨ab, ao, rfl, lA, cA0⟩ := RL.out k (by rw [HL.out]; exact hk)
        have cA := (BW.cell (p := ⟨ab, ao + k, none⟩) lA).trans cA0
        clear cA0
        by_cases hz : lz.getD k 0 = 0
        · rw [hz] at cA
          gi_wp2
          have hmo : Tryd.prog.follows .mixedOrders = true := by kernel_rfl
          refine region_quiet_round l rfl hmo (by kernel_rfl) (by kernel_rfl) ?_
          repeat (gi_big_quiet_step (fail))
          refine BigFrame.wpQuietIn_skip ?_ rfl ?_
          · intro w _ f _; trivial
          simp only [Act.put, List.setIfInBounds_toArray, List.set_cons_succ, List.set_cons_zero]
          repeat (gi_big_quiet_step (fail))
          refine wpQuietIn_nil ?_
          intro _ hw'
          obtain ⟨nq, hw''⟩ := hw'
          subst hw''
          gi_wp2
          have hQ : QV r s m gz B S lz f k = 0 := by unfold QV qv; rw [if_neg (fun h => h.1 hz)]
          have D := Fx.drewN_below W nq
          refine ⟨⟨(h1.of_block (D.block _ h1.lt)).congr (fun j hj => ?_), h2.trans (Part.of_below D)⟩, D.size, fun j q => D.block j ?_⟩
          · by_cases e : j = k
            · subst e; simp [hQ]
            · by_cases e2 : j < k
              · rw [if_pos e2, if_pos (by omega)]
              · rw [if_neg e2, if_neg (by omega)]
          · have lb := (Array.getElem?_eq_some_iff.1 ho).1
            rcases q with q | q | q
            · have := HU j q; omega
            · omega
            · omega
        · by_cases hm : (bk r s k : Int) < m
          · obtain ⟨_, hBl, hSl, hBm, hSm, hnb⟩ := HQE.out
            have hgl2 := gk_lt HCK.out hk
            have hgB : gk s gz k < B.length := by omega
            have hgS : gk s gz k < S.length := by omega
            have hrB := hBm _ hgB
            have hrS := hSm _ hgS
            have hbB : bk r s k < (B.getD (gk s gz k) []).length := by omega
            have hbS : bk r s k < (S.getD (gk s gz k) []).length := by omega
            obtain ⟨bb, bo, ba, bc, eO, lbb, cR, rdB⟩ := (HRB.out.below BW) _ hgB
            subst eO
            obtain ⟨b2, o2, rfl, lb2, cV⟩ := rdB _ hbB
            have hm1 := HBR.out _ hgB
            by_cases hs : snt ((B.getD (gk s gz k) []).getD (bk r s k) 0) = true
            · have hs2 : snt ((B.getD (gk s gz k) []).getD (bk r s k) 0) = true := hs
              obtain ⟨sb, so, sa, sc, eP, lsb, cRS0, rdS⟩ := HRS.out _ hgS
              subst eP
              obtain ⟨s2b, s2o, rfl, ls2, cVS0⟩ := rdS _ hbS
              have cRS := (BW.cell (p := ⟨sb, so + gk s gz k, none⟩) lsb).trans cRS0
              have cVS := (BW.cell (p := ⟨s2b, s2o + bk r s k, none⟩) ls2).trans cVS0
              clear cRS0 cVS0
              have hm2 := HSR.out _ hgS
              have hQ : QV r s m gz B S lz f k = f (lz.getD k 0) ((S.getD (gk s gz k) []).getD (bk r s k) 0) := by unfold QV qv; rw [if_pos ⟨hz, hm, hs⟩]
              have hnz : (lz.getD k 0 != 0) = true := by simpa using hz
              have hnz2 : (lz.getD k 0 == 0) = false := by simpa using hz
              have hmb : decide ((bk r s k : Int) < m) = true := by simpa using hm
              generalize lz.getD k 0 = X at *
              generalize (B.getD (gk s gz k) []).getD (bk r s k) 0 = V at *
              generalize (S.getD (gk s gz k) []).getD (bk r s k) 0 = T at *
              obtain ⟨Ln, hLn⟩ : ∃ Ln, (B.getD (gk s gz k) []).length = Ln := ⟨_, rfl⟩
              rw [hLn] at cR hbB hm1
              obtain ⟨Ls, hLs⟩ : ∃ Ls, (S.getD (gk s gz k) []).length = Ls := ⟨_, rfl⟩
              rw [hLs] at cRS hbS hm2
              clear hLn rdB hLs rdS
              clear hrB hrS hBm hSm hnb hBl hSl
              generalize gk s gz k = g' at *
              generalize bk r s k = b' at *
              obtain ⟨cb0, cb1⟩ := cb
              have hsk : ∀ W, Calls Tryd.prog 75 #[.int .i64 V] W fun e w' => e = .returned (.bool true) ∧ W = w' := fun W => by have := sent_ok V W; rwa [hs2] at this
              gi_wp2
              have hmo : Tryd.prog.follows .mixedOrders = true := by kernel_rfl
              refine region_quiet_round l rfl hmo (by kernel_rfl) (by kernel_rfl) ?_
              repeat (gi_big_quiet_step (fail))
              refine BigFrame.wpQuietIn_want ?_ rfl ?_
              · intro w _ f _; trivial
              intro K hK
              gi_big_quiet_op
              gi_big_quiet_call ((exact callsIn_wide.2 ((hsk _).mono fun e w' h => ⟨h.1, _, h.2.symm⟩)))
              repeat (gi_big_quiet_step (fail))
              refine wpQuietIn_nil ?_
              intro _ hw'
              obtain ⟨nq, hw''⟩ := hw'
              subst hw''
              gi_wp2
              have lb := (Array.getElem?_eq_some_iff.1 ho).1
              have zw := B1.out.size
              have zb := hb2.size
              have hc19 : W.cell? ⟨wr.heap.size + 1, 0, none⟩ = some (.slice (some ⟨wr.heap.size, 0, none⟩) 256 256) := by
                have e1 : ((wr.alloc (.cells (madeCells #[.int .i64 0] 256) 3)).alloc (.cells #[.slice (some ⟨wr.heap.size, 0, none⟩) 256 256] 39)).heap[wr.heap.size + 1]? = some (.cells #[.slice (some ⟨wr.heap.size, 0, none⟩) 256 256] 39) := by
                  have := World.alloc_heap_new (wr.alloc (.cells (madeCells #[.int .i64 0] 256) 3)) (.cells #[.slice (some ⟨wr.heap.size, 0, none⟩) 256 256] 39)
                  rwa [World.size_alloc] at this
                have e2 : W.heap[wr.heap.size + 1]? = some (.cells #[.slice (some ⟨wr.heap.size, 0, none⟩) 256 256] 39) := (h2.block _ (by have := hb2.size; simp at this; omega) (by omega)).trans ((hb2.block _ (by omega)).trans e1)
                exact cell_box e2
              have hc13 : W.cell? ⟨w.heap.size + 1 + 1 + 1 + 1, 0, none⟩ = some (.func (.func 17) #[] #[]) := cell_box (hkeep _ _ (by omega) b13.out)
              have hne1 : w.heap.size + 5 ≤ wr.heap.size := z1
              have hneb : b ≠ wr.heap.size := by omega
              have ck : ∀ (w' : World) (hS : ∀ j o, j ≠ wr.heap.size → W.heap[j]? = some o → w'.heap[j]? = some o) (j o : Nat) (v : Value), j ≠ wr.heap.size → W.cell? ⟨j, o, none⟩ = some v → w'.cell? ⟨j, o, none⟩ = some v := fun w' hS j o v hj hc => cell_same' hc (fun ob => hS j ob hj)
              have hSc : ∀ w' : World, (∀ j o, j ≠ wr.heap.size → W.heap[j]? = some o → w'.heap[j]? = some o) → w'.cell? ⟨wr.heap.size + 1, 0, none⟩ = some (.slice (some ⟨wr.heap.size, 0, none⟩) 256 256) ∧ w'.cell? ⟨w.heap.size + 1 + 1 + 1 + 1, 0, none⟩ = some (.func (.func 17) #[] #[]) ∧ w'.cell? ⟨w.heap.size + 1 + 1 + 1, 0, none⟩ = some (.slice (some ⟨ab, ao, none⟩) 256 lc) ∧ w'.cell? ⟨ab, ao + k, none⟩ = some (.int .i64 X) ∧ w'.cell? ⟨w.heap.size + 1 + 1, 0, none⟩ = some (.slice (some ⟨sb, so, none⟩) S.length pc) ∧ w'.cell? ⟨b, 0, none⟩ = some (.int .i64 (g' : Int)) ∧ w'.cell? ⟨b, 1, none⟩ = some (.int .i64 (b' : Int)) ∧ w'.cell? ⟨sb, so + g', none⟩ = some (.slice (some ⟨s2b, s2o, none⟩) Ls sc) ∧ w'.cell? ⟨s2b, s2o + b', none⟩ = some (.int .i64 T) := fun w' hS =>
                ⟨ck w' hS _ _ _ (by omega) hc19, ck w' hS _ _ _ (by omega) hc13, ck w' hS _ _ _ (by omega) cL, ck w' hS _ _ _ (by omega) cA, ck w' hS _ _ _ (by omega) cS, ck w' hS _ _ _ hneb cb0, ck w' hS _ _ _ hneb cb1, ck w' hS _ _ _ (by omega) cRS, ck w' hS _ _ _ (by omega) cVS⟩
              clear ck
              have hS : (fun w' : World => ∀ j o, j ≠ wr.heap.size → W.heap[j]? = some o → w'.heap[j]? = some o) (W.drewN nq).drew := fun j o _ h => h
              have hk' : (k : Int) < 256 := by omega
              have hgS' : (g' : Int) < (S.length : Int) := by omega
              have hbS' : (b' : Int) < (Ls : Int) := by omega
              refine region_held_round l (fun w' => ∀ j o, j ≠ wr.heap.size → W.heap[j]? = some o → w'.heap[j]? = some o) hmo (by kernel_rfl) (fun h => by obtain ⟨_, _, h⟩ := h; exact h) ?_
              show wpAnyH _ _ _ _ _ 22 _ _ _
              refine wpAnyH_take (i := 0) (v := ?v0) rfl (by kernel_rfl) (by kernel_rfl) (by kernel_rfl) (fun _ _ _ h => h) (Or.inl ⟨by rfl, ?y0⟩) hS ?r0
              case y0 => intro w' hw'; have s1 := (hSc w' hw').1; go_simp; try (with_reducible rfl)
              try simp only [Act.put, List.getElem_toArray, List.getElem_cons_succ, List.getElem_cons_zero, List.setIfInBounds_toArray, List.set_cons_zero, List.set_cons_succ]
              refine wpAnyH_take (i := 1) (v := ?v1) rfl (by kernel_rfl) (by kernel_rfl) (by kernel_rfl) (fun _ _ _ h => h) (Or.inl ⟨by rfl, ?y1⟩) hS ?r1
              case y1 => intro w' hw'; go_simp; try (with_reducible rfl)
              try simp only [Act.put, List.getElem_toArray, List.getElem_cons_succ, List.getElem_cons_zero, List.setIfInBounds_toArray, List.set_cons_zero, List.set_cons_succ]
              refine wpAnyH_take (i := 2) (v := ?v2) rfl (by kernel_rfl) (by kernel_rfl) (by kernel_rfl) (fun _ _ _ h => h) (Or.inl ⟨by rfl, ?y2⟩) hS ?r2
              case y2 => intro w' hw'; have s2 := (hSc w' hw').2.1; go_simp; try (with_reducible rfl)
              try simp only [Act.put, List.getElem_toArray, List.getElem_cons_succ, List.getElem_cons_zero, List.setIfInBounds_toArray, List.set_cons_zero, List.set_cons_succ]
              refine wpAnyH_take (i := 3) (v := ?v3) rfl (by kernel_rfl) (by kernel_rfl) (by kernel_rfl) (fun _ _ _ h => h) (Or.inl ⟨by rfl, ?y3⟩) hS ?r3
              case y3 => intro w' hw'; have s3 := (hSc w' hw').2.2.1; go_simp; try (with_reducible rfl)
              try simp only [Act.put, List.getElem_toArray, List.getElem_cons_succ, List.getElem_cons_zero, List.setIfInBounds_toArray, List.set_cons_zero, List.set_cons_succ]
              refine wpAnyH_take (i := 4) (v := ?v4) rfl (by kernel_rfl) (by kernel_rfl) (by kernel_rfl) (fun _ _ _ h => h) (Or.inl ⟨by rfl, ?y4⟩) hS ?r4
              case y4 => intro w' hw'; go_simp; try (with_reducible rfl)
              try simp only [Act.put, List.getElem_toArray, List.getElem_cons_succ, List.getElem_cons_zero, List.setIfInBounds_toArray, List.set_cons_zero, List.set_cons_succ]
              refine wpAnyH_take (i := 5) (v := ?v5) rfl (by kernel_rfl) (by kernel_rfl) (by kernel_rfl) (fun _ _ _ h => h) (Or.inl ⟨by rfl, ?y5⟩) hS ?r5
              case y5 => intro w' hw'; go_simp; try (with_reducible rfl)
              try simp only [Act.put, List.getElem_toArray, List.getElem_cons_succ, List.getElem_cons_zero, List.setIfInBounds_toArray, List.set_cons_zero, List.set_cons_succ]
              refine wpAnyH_take (i := 6) (v := ?v6) rfl (by kernel_rfl) (by kernel_rfl) (by kernel_rfl) (fun _ _ _ h => h) (Or.inl ⟨by rfl, ?y6⟩) hS ?r6
              case y6 => intro w' hw'; have s4 := (hSc w' hw').2.2.2.1; go_simp; try (with_reducible rfl)
              try simp only [Act.put, List.getElem_toArray, List.getElem_cons_succ, List.getElem_cons_zero, List.setIfInBounds_toArray, List.set_cons_zero, List.set_cons_succ]
              refine wpAnyH_take (i := 7) (v := ?v7) rfl (by kernel_rfl) (by kernel_rfl) (by kernel_rfl) (fun _ _ _ h => h) (Or.inl ⟨by rfl, ?y7⟩) hS ?r7
              case y7 => intro w' hw'; have s5 := (hSc w' hw').2.2.2.2.1; go_simp; try (with_reducible rfl)
              try simp only [Act.put, List.getElem_toArray, List.getElem_cons_succ, List.getElem_cons_zero, List.setIfInBounds_toArray, List.set_cons_zero, List.set_cons_succ]
              refine wpAnyH_take (i := 8) (v := ?v8) rfl (by kernel_rfl) (by kernel_rfl) (by kernel_rfl) (fun _ _ _ h => h) (Or.inl ⟨by rfl, ?y8⟩) hS ?r8
              case y8 => intro w' hw'; go_simp; try (with_reducible rfl)
              try simp only [Act.put, List.getElem_toArray, List.getElem_cons_succ, List.getElem_cons_zero, List.setIfInBounds_toArray, List.set_cons_zero, List.set_cons_succ]
              refine wpAnyH_take (i := 9) (v := ?v9) rfl (by kernel_rfl) (by kernel_rfl) (by kernel_rfl) (fun _ _ _ h => h) (Or.inl ⟨by rfl, ?y9⟩) hS ?r9
              case y9 => intro w' hw'; have s6 := (hSc w' hw').2.2.2.2.2.1; go_simp; try (with_reducible rfl)
              try simp only [Act.put, List.getElem_toArray, List.getElem_cons_succ, List.getElem_cons_zero, List.setIfInBounds_toArray, List.set_cons_zero, List.set_cons_succ]
              refine wpAnyH_take (i := 10) (v := ?v10) rfl (by kernel_rfl) (by kernel_rfl) (by kernel_rfl) (fun _ _ _ h => h) (Or.inl ⟨by rfl, ?y10⟩) hS ?r10
              case y10 => intro w' hw'; go_simp; try (with_reducible rfl)
              try simp only [Act.put, List.getElem_toArray, List.getElem_cons_succ, List.getElem_cons_zero, List.setIfInBounds_toArray, List.set_cons_zero, List.set_cons_succ]
              refine wpAnyH_take (i := 11) (v := ?v11) rfl (by kernel_rfl) (by kernel_rfl) (by kernel_rfl) (fun _ _ _ h => h) (Or.inl ⟨by rfl, ?y11⟩) hS ?r11
              case y11 => intro w' hw'; have s8 := (hSc w' hw').2.2.2.2.2.2.2.1; go_simp; try (with_reducible rfl)
              try simp only [Act.put, List.getElem_toArray, List.getElem_cons_succ, List.getElem_cons_zero, List.setIfInBounds_toArray, List.set_cons_zero, List.set_cons_succ]
              refine wpAnyH_take (i := 12) (v := ?v12) rfl (by kernel_rfl) (by kernel_rfl) (by kernel_rfl) (fun _ _ _ h => h) (Or.inl ⟨by rfl, ?y12⟩) hS ?r12
              case y12 => intro w' hw'; go_simp; try (with_reducible rfl)
              try simp only [Act.put, List.getElem_toArray, List.getElem_cons_succ, List.getElem_cons_zero, List.setIfInBounds_toArray, List.set_cons_zero, List.set_cons_succ]
              refine wpAnyH_take (i := 13) (v := ?v13) rfl (by kernel_rfl) (by kernel_rfl) (by kernel_rfl) (fun _ _ _ h => h) (Or.inl ⟨by rfl, ?y13⟩) hS ?r13
              case y13 => intro w' hw'; have s7 := (hSc w' hw').2.2.2.2.2.2.1; go_simp; try (with_reducible rfl)
              try simp only [Act.put, List.getElem_toArray, List.getElem_cons_succ, List.getElem_cons_zero, List.setIfInBounds_toArray, List.set_cons_zero, List.set_cons_succ]
              refine wpAnyH_take (i := 14) (v := ?v14) rfl (by kernel_rfl) (by kernel_rfl) (by kernel_rfl) (fun _ _ _ h => h) (Or.inl ⟨by rfl, ?y14⟩) hS ?r14
              case y14 => intro w' hw'; go_simp; try (with_reducible rfl)
              try simp only [Act.put, List.getElem_toArray, List.getElem_cons_succ, List.getElem_cons_zero, List.setIfInBounds_toArray, List.set_cons_zero, List.set_cons_succ]
              refine wpAnyH_take (i := 15) (v := ?v15) rfl (by kernel_rfl) (by kernel_rfl) (by kernel_rfl) (fun _ _ _ h => h) (Or.inl ⟨by rfl, ?y15⟩) hS ?r15
              case y15 => intro w' hw'; have s9 := (hSc w' hw').2.2.2.2.2.2.2.2; go_simp; try (with_reducible rfl)
              try simp only [Act.put, List.getElem_toArray, List.getElem_cons_succ, List.getElem_cons_zero, List.setIfInBounds_toArray, List.set_cons_zero, List.set_cons_succ]
              refine wpAnyH_ready (rs := [16]) (by kernel_rfl) (by simp) ?_
              refine AllReadyH.cons rfl (fun K hK => ?_) AllReadyH.nil
              simp only [List.getElem_toArray, List.getElem_cons_succ, List.getElem_cons_zero]
              rw [if_pos (by rfl)]
              have D0 : Below W.heap.size W (W.drewN nq).drew := (Fx.drewN_below W nq).drew
              have hq0 : Fx.Qs (W.drewN nq).drew := (hqs.below BW).drewN nq
              go_simp
              refine (hfn X T _ hq0).mono ?_
              rintro e w5 ⟨rfl, hq5, hb5⟩
              have hS5 : (fun w' : World => ∀ j o, j ≠ wr.heap.size → W.heap[j]? = some o → w'.heap[j]? = some o) w5 := fun j o _ h => (hb5.block j (Array.getElem?_eq_some_iff.1 h).1).trans h
              refine hK.out _ _ hS5 (fun _ => ?_)
              try simp only [Act.put, List.getElem_toArray, List.getElem_cons_succ, List.getElem_cons_zero, List.setIfInBounds_toArray, List.set_cons_zero, List.set_cons_succ]
              refine wpAnyH_take (i := 17) (v := ?v17) rfl (by kernel_rfl) (by kernel_rfl) (by kernel_rfl) (fun _ _ _ h => h) (Or.inl ⟨by rfl, ?y17⟩) hS5 ?r17
              case y17 => intro w' hw'; go_simp; try (with_reducible rfl)
              try simp only [Act.put, List.getElem_toArray, List.getElem_cons_succ, List.getElem_cons_zero, List.setIfInBounds_toArray, List.set_cons_zero, List.set_cons_succ]
              refine wpAnyH_take (i := 18) (v := ?v18) rfl (by kernel_rfl) (by kernel_rfl) (by kernel_rfl) (fun _ _ _ h => h) (Or.inl ⟨by rfl, ?y18⟩) hS5 ?r18
              case y18 => intro w' hw'; go_simp; try (with_reducible rfl)
              try simp only [Act.put, List.getElem_toArray, List.getElem_cons_succ, List.getElem_cons_zero, List.setIfInBounds_toArray, List.set_cons_zero, List.set_cons_succ]
              refine wpAnyH_take (i := 19) (v := ?v19) rfl (by kernel_rfl) (by kernel_rfl) (by kernel_rfl) (fun _ _ _ h => h) (Or.inl ⟨by rfl, ?y19⟩) hS5 ?r19
              case y19 => intro w' hw'; go_simp; try (with_reducible rfl)
              try simp only [Act.put, List.getElem_toArray, List.getElem_cons_succ, List.getElem_cons_zero, List.setIfInBounds_toArray, List.set_cons_zero, List.set_cons_succ]
              refine wpAnyH_take (i := 20) (v := ?v20) rfl (by kernel_rfl) (by kernel_rfl) (by kernel_rfl) (fun _ _ _ h => h) (Or.inl ⟨by rfl, ?y20⟩) hS5 ?r20
              case y20 => intro w' hw'; go_simp; try (with_reducible rfl)
              try simp only [Act.put, List.getElem_toArray, List.getElem_cons_succ, List.getElem_cons_zero, List.setIfInBounds_toArray, List.set_cons_zero, List.set_cons_succ]
              have R5 : w5.rowIs wr.heap.size 3 256 (fun j => .int .i64 (if j < k then QV r s m gz B S lz f j else 0)) := h1.of_block (hb5.block _ h1.lt)
              have q5 := R5.cell (i := k) hk
              have f5 := R5.frozen k
              refine wpAnyH_ready (rs := [21]) (by kernel_rfl) (by simp) ?_
              refine AllReadyH.cons rfl (fun K2 hK2 => ?_) AllReadyH.nil
              try simp only [List.getElem_toArray, List.getElem_cons_succ, List.getElem_cons_zero]
              rw [if_pos (by rfl)]
              go_simp
              refine hK2.out _ _ (fun j o hj ho => ?_) (fun _ => ?_)
              · have hne : wr.heap.size ≠ j := fun e => hj e.symm
                have e := hS5 j o hj ho
                rw [← e]
                simp only [World.setCell]
                show (w5.heap.modify wr.heap.size _)[j]? = w5.heap[j]?
                rw [Array.getElem?_modify, if_neg hne]
              refine wpAnyH_done (by kernel_rfl) ?_ _
              have BD : Below W.heap.size W w5 := ((Below.refl _ W).trans D0).trans hb5
              have lk := h1.lt
              refine ⟨⟨(R5.set k (.int .i64 (f X T))).congr (fun j hj => ?_), h2.trans ((Part.of_below BD).trans (Part.set (p := ⟨wr.heap.size, k, none⟩) _ rfl))⟩, ?_, fun j q => ?_⟩
              · by_cases e : j = k
                · subst e; rw [if_pos rfl, if_pos (by omega), hQ]
                · rw [if_neg e]
                  by_cases e2 : j < k
                  · rw [if_pos e2, if_pos (by omega)]
                  · rw [if_neg e2, if_neg (by omega)]
              · have := BD.size; simp; omega
              · have hjW : j < W.heap.size ∧ j ≠ wr.heap.size := by
                  rcases q with q | q | q
                  · have := HU j q; have := HU2 j q; exact ⟨by omega, by omega⟩
                  · exact ⟨by omega, by omega⟩
                  · exact ⟨by omega, by omega⟩
                have hne : ¬ wr.heap.size = j := fun e => hjW.2 e.symm
                simp only [World.setCell]
                show (w5.heap.modify wr.heap.size _)[j]? = W.heap[j]?
                rw [Array.getElem?_modify, if_neg hne]
                exact BD.block j hjW.1
            · have hQ : QV r s m gz B S lz f k = 0 := by unfold QV qv; rw [if_neg (fun h => hs h.2.2)]
              have hs2 : snt ((B.getD (gk s gz k) []).getD (bk r s k) 0) = false := by simpa using hs
              have hnz : (lz.getD k 0 != 0) = true := by simpa using hz
              have hnz2 : (lz.getD k 0 == 0) = false := by simpa using hz
              have hmb : decide ((bk r s k : Int) < m) = true := by simpa using hm
              generalize lz.getD k 0 = X at *
              generalize (B.getD (gk s gz k) []).getD (bk r s k) 0 = V at *
              obtain ⟨Ln, hLn⟩ : ∃ Ln, (B.getD (gk s gz k) []).length = Ln := ⟨_, rfl⟩
              rw [hLn] at cR hbB hm1
              clear hLn rdB
              clear hrB hrS hBm hSm hnb hBl hSl
              generalize gk s gz k = g' at *
              generalize bk r s k = b' at *
              obtain ⟨cb0, cb1⟩ := cb
              have hsk : ∀ W, Calls Tryd.prog 75 #[.int .i64 V] W fun e w' => e = .returned (.bool false) ∧ W = w' := fun W => by have := sent_ok V W; rwa [hs2] at this
              gi_wp2
              have hmo : Tryd.prog.follows .mixedOrders = true := by kernel_rfl
              refine region_quiet_round l rfl hmo (by kernel_rfl) (by kernel_rfl) ?_
              repeat (gi_big_quiet_step (fail))
              refine BigFrame.wpQuietIn_want ?_ rfl ?_
              · intro w _ f _; trivial
              intro K hK
              gi_big_quiet_op
              gi_big_quiet_call ((exact callsIn_wide.2 ((hsk _).mono fun e w' h => ⟨h.1, _, h.2.symm⟩)))
              repeat (gi_big_quiet_step (fail))
              refine wpQuietIn_nil ?_
              intro _ hw'
              obtain ⟨nq, hw''⟩ := hw'
              subst hw''
              gi_wp2
              have D := Fx.drewN_below W nq
              refine ⟨⟨(h1.of_block (D.block _ h1.lt)).congr (fun j hj => ?_), h2.trans (Part.of_below D)⟩, D.size, fun j q => D.block j ?_⟩
              · by_cases e : j = k
                · subst e; simp [hQ]
                · by_cases e2 : j < k
                  · rw [if_pos e2, if_pos (by omega)]
                  · rw [if_neg e2, if_neg (by omega)]
              · have lb := (Array.getElem?_eq_some_iff.1 ho).1
                rcases q with q | q | q
                · have := HU j q; omega
                · omega
                · omega
          have hQ : QV r s m gz B S lz f k = 0 := by unfold QV qv; rw [if_neg (fun h => hm h.2.1)]
          have hnz : (lz.getD k 0 != 0) = true := by simpa using hz
          have hnz2 : (lz.getD k 0 == 0) = false := by simpa using hz
          generalize lz.getD k 0 = X at *
          have hmb : decide ((bk r s k : Int) < m) = false := by simpa using hm
          obtain ⟨cb0, cb1⟩ := cb
          gi_wp2
          have hmo : Tryd.prog.follows .mixedOrders = true := by kernel_rfl
          refine region_quiet_round l rfl hmo (by kernel_rfl) (by kernel_rfl) ?_
          repeat (gi_big_quiet_step (fail))
          refine BigFrame.wpQuietIn_skip ?_ rfl ?_
          · intro w _ f _; trivial
          simp only [Act.put, List.setIfInBounds_toArray, List.set_cons_succ, List.set_cons_zero]
          repeat (gi_big_quiet_step (fail))
          refine wpQuietIn_nil ?_
          intro _ hw'
          obtain ⟨nq, hw''⟩ := hw'
          subst hw''
          gi_wp2
          have D := Fx.drewN_below W nq
          refine ⟨⟨(h1.of_block (D.block _ h1.lt)).congr (fun j hj => ?_), h2.trans (Part.of_below D)⟩, D.size, fun j q => D.block j ?_⟩
          · by_cases e : j = k
            · subst e; simp [hQ]
            · by_cases e2 : j < k
              · rw [if_pos e2, if_pos (by omega)]
              · rw [if_neg e2, if_neg (by omega)]
          · have lb := (Array.getElem?_eq_some_iff.1 ho).1
            rcases q with q | q | q
            · have := HU j q; omega
            · omega
            · omega
      case done =>
        rintro W ⟨h1, h2⟩ hsl hK
        have e1 : ((wr.alloc (.cells (madeCells #[.int .i64 0] 256) 3)).alloc (.cells #[.slice (some ⟨wr.heap.size, 0, none⟩) 256 256] 39)).heap[wr.heap.size + 1]? = some (.cells #[.slice (some ⟨wr.heap.size, 0, none⟩) 256 256] 39) := by
          have := World.alloc_heap_new (wr.alloc (.cells (madeCells #[.int .i64 0] 256) 3)) (.cells #[.slice (some ⟨wr.heap.size, 0, none⟩) 256 256] 39)
          rwa [World.size_alloc] at this
        have c19 : W.cell? ⟨wr.heap.size + 1, 0, none⟩ = some (.slice (some ⟨wr.heap.size, 0, none⟩) 256 256) := cell_box ((h2.block _ (by have := hb2.size; simp at this; omega) (by omega)).trans ((hb2.block _ (by omega)).trans e1))
        have BW : Below w.heap.size w W := B2.trans (h2.below B2.size (fun j q => by omega))
        clear HP HQ r0w lo lt0 lt5 lt7 ltg
        gi_wp2
        refine ⟨by simp, .inl ⟨_, _, rfl, run_takeDeferred hK, ?_⟩⟩
        have zb := hb2.size
        have zw := B1.out.size
        have z2 := B2.size
        refine ⟨_, results_tmp2 rfl _ _ _, wr.heap.size, rfl, ((h1.of_block (World.putObj_heap_other (by omega))).congr fun j hj => by rw [if_pos hj]), by omega, ?_⟩
        exact BW.trans (belowK_b (w := w) (Nat.le_refl _) W w2.heap.size _ _ (by omega) hK rfl rfl)
end Go.Proofs.YtanjcbnkkhbkkaaDoor.Qn

/- Lines turned at their steps: what is answered to what may be. -/
namespace Go.Proofs.YtanjcbnkkhbkkaaDoor.Qn
open Go Go.ChangeShapes Go.WideShapes Go.ChangeAt Go.RowKit Go.Shelf Go.Proofs.YtanjcbnkkhbkkaaDoor.If Go.Proofs.YtanjcbnkkhbkkaaDoor.Rg Go.Proofs.YtanjcbnkkhbkkaaDoor.Bd

attribute [local go_sem] Oper.semAt_some
set_option maxRecDepth 100000 in
set_option maxHeartbeats 8000000 in
theorem turned_19 (r s h m : Int) (ga : Option Addr) (gc : Nat) (gz : List Int) (O P A : Option Addr) (oc pc lc : Nat) (B S : List (List Int)) (lz : List Int) (most : Int) (w : World) (r0 : 0 ≤ r) (r1 : r ≤ 11) (hck : chk r s h m gz = 0) (hgl : gz.length ≤ 100000) (hB : B.length ≤ 1000) (hS : S.length ≤ 1000) (hBr : ∀ i, i < B.length → (B.getD i []).length ≤ maxLen) (hSr : ∀ i, i < S.length → (S.getD i []).length ≤ maxLen) (hg : RdA w ga gz) (rB : RdR w O B) (rS : RdR w P S) (rl : RdA w A lz) (hl : lz.length = 256) (hq : QE r s h m gz B S 0) (hm0 : 0 ≤ most) (hm1 : most ≤ 1099511627776) (hin : ∀ j, j < 256 → -most ≤ lz.getD j 0 ∧ lz.getD j 0 ≤ most) (f ef : Int → Int → Int) (hqs : Fx.Qs w) (hfn : ∀ (x st : Int) (W : World), Fx.Qs W → Calls Tryd.prog 19 #[.int .i64 x, .int .i64 st] W fun e w' => e = .returned (.tuple #[.int .i64 (f x st), .int .i64 (ef x st)]) ∧ Fx.Qs w' ∧ Below W.heap.size W w') :
    Calls Tryd.prog 53 #[.int .i64 r, .agg #[.int .u8 s, .int .u8 h, .int .i64 m, .slice ga gz.length gc], .slice O B.length oc, .slice P S.length pc, .slice A lz.length lc, .int .i64 most, (.func (.func 19) #[] #[])] w fun e w' => ∃ g, e = .returned (.tuple #[.slice (some ⟨g, 0, none⟩) 256 256, .int .i64 0]) ∧ w'.rowIs g 3 256 (fun j => .int .i64 (QV r s m gz B S lz f j)) ∧ w.heap.size ≤ g ∧ Below w.heap.size w w' := by
  have HQE := Lib.hid (qe_zero hq)
  have HRB := Lib.hid rB
  have HRS := Lib.hid rS
  have HBR := Lib.hid hBr
  have HSR := Lib.hid hSr
  have HQ := Lib.hid (fun W (hW : Below w.heap.size w W) => qcheck_ok r s h m ga gc gz O P oc pc B S W hgl hB hS hBr hSr (hg.below hW) (rB.below hW) (rS.below hW) 0 hq)
  have HP := Lib.hid (fun W (hW : Below w.heap.size w W) => places_ok r s h m ga gc gz W r0 r1 hck hgl (hg.below hW))
  have RL := Lib.hid rl
  have HL := Lib.hid hl
  have HCK := Lib.hid hck
  have RG := Lib.hid hg
  have HI := Lib.hid hin
  have hmk : ∀ w : World, (Instr.makeSlice 39 (.int .i64 256) (.int .i64 256)).run Tryd.prog w = .ok (.slice (some ⟨w.heap.size, 0, none⟩) 256 256) (w.alloc (.cells (madeCells #[.int .i64 0] 256) 3)) := fun w => run_make_row' 39 3 (.int .i64 0) 8 Tryd.underlying39 info3' rfl .i64 .i64 256 (by decide) (by decide) w
  rw [hl]
  clear hg rB rS hq hBr hSr rl hl hin hck
  refine (callsIn_wide (n := 5)).1 ?_
  refine callsIn_of_wp_marks Tryd.func53 rfl trivial ?_ rfl
  simp only [Tryd.ntmps53, List.size_toArray, List.length_cons, List.length_nil, Nat.reduceAdd, Nat.reduceSub, Array.replicate_succ, Array.replicate_zero, List.push_toArray, List.append_toArray, List.nil_append, List.cons_append]
  gi_wp2_with first
    | (refine ⟨trivial, ?_⟩; gi_at_call 73; refine (callsIn_wide.2 (HQ.out _ (al5 w _ _ _ _ _))).mono ?_; rintro e w1 ⟨rfl, hb1⟩; have B1 := Lib.hid (belowT (al5 w _ _ _ _ _) hb1); have c11 : w1.cell? ⟨w.heap.size + 3, 0, none⟩ = some (.slice A 256 lc) := (hb1.cell (p := ⟨w.heap.size + 3, 0, none⟩) (by simp)).trans (cell_box (w5_3 w _ _ _ _ _)); have b8 := Lib.hid ((hb1.block w.heap.size (by simp <;> omega)).trans (w5_0 w _ _ _ _ _)); have b9 := Lib.hid ((hb1.block (w.heap.size + 1) (by simp <;> omega)).trans (w5_1 w _ _ _ _ _)); have b10 := Lib.hid ((hb1.block (w.heap.size + 2) (by simp <;> omega)).trans (w5_2 w _ _ _ _ _)); have b11 := Lib.hid ((hb1.block (w.heap.size + 3) (by simp <;> omega)).trans (w5_3 w _ _ _ _ _)); have b13 := Lib.hid ((hb1.block (w.heap.size + 4) (by simp <;> omega)).trans (w5_4 w _ _ _ _ _)); have z1 : w.heap.size + 5 ≤ w1.heap.size := (by have := hb1.size; simp at this; omega); clear hb1)
  gi_loopw [35] (fun q wr => ∃ k : Nat, k ≤ 256 ∧ q = .int .i64 k ∧ wr = w1) (fun q _ => 256 - (intOf q).toNat)
  case atStart => exact ⟨0, by omega, rfl, rfl⟩
  case round =>
    obtain ⟨k, hk, rfl, rfl⟩ := hrel
    by_cases hlt : k < 256
    · obtain ⟨b, off, rfl, lb, c0⟩ := (RL.out.below B1.out) k (by rw [HL.out]; exact hlt)
      obtain ⟨t0, t1⟩ := HI.out k hlt
      have t2 : ¬ lz.getD k 0 < -most := by omega
      have t3 : ¬ most < lz.getD k 0 := by omega
      generalize lz.getD k 0 = X at *
      gi_wp2
      go_roundw
      case rel => exact ⟨k + 1, by omega, by go_num, trivial⟩
      case measure => simp [intOf]; omega
    · have e : k = 256 := by omega
      subst e
      have B4 : Below wr.heap.size wr ((wr.alloc (.cells (madeCells #[.int .i64 0] 256) 3)).alloc (.cells #[.slice (some ⟨wr.heap.size, 0, none⟩) 256 256] 39)) := ((Below.refl _ wr).alloc (Nat.le_refl _) _).alloc (by simp) _
      obtain ⟨i0, i1, i2, i3⟩ := cell4 ((B4.block _ (by omega)).trans b8.out)
      have B3 := Lib.hid ((B1.out.alloc B1.out.size (.cells (madeCells #[.int .i64 0] 256) 3)).alloc (by simp; omega) (.cells #[.slice (some ⟨wr.heap.size, 0, none⟩) 256 256] 39))
      gi_wp2_with first
        | (refine ⟨trivial, ?_⟩; gi_at_call 74; refine (callsIn_wide.2 (HP.out _ B3.out)).mono ?_; rintro e w2 ⟨b5, b7, g, cap, rfl, hp2, hb2⟩)
      clear c11 i0 i1 i2 i3 hk hlt
      have sz : ((wr.alloc (.cells (madeCells #[.int .i64 0] 256) 3)).alloc (.cells #[.slice (some ⟨wr.heap.size, 0, none⟩) 256 256] 39)).heap.size = wr.heap.size + 2 := by simp
      rw [sz] at hp2 hb2
      obtain ⟨w0, hw0⟩ : ∃ x, wr.heap.size + 2 = x := ⟨_, rfl⟩
      rw [show wr.heap.size + 1 + 1 = w0 by omega]
      rw [hw0] at hp2 hb2
      have lo := hp2.lo
      have lt0 := (Array.getElem?_eq_some_iff.1 hp2.info).1
      have lt5 := hp2.offs.lt
      have lt7 := hp2.wins.lt
      have ltg := hp2.row.lt
      have r0w : World.rowIs w2 wr.heap.size 3 256 (fun j => .int .i64 (if j < 0 then QV r s m gz B S lz f j else 0)) := ((World.rowIs_made wr (.int .i64 0) 256 3).of_block ((hb2.block _ (by omega)).trans (Below.heap_alloc _ _ _ (by simp)))).congr fun j _ => rfl
      have B2 : Below w.heap.size w w2 := belowT B3.out (hb2.mono (by omega))
      have HU : ∀ k, Uq w0 b5 b7 g ga k → k < w2.heap.size := by
        intro k q
        rcases q with q | q | q | q | ⟨x, e, rfl⟩
        · omega
        · omega
        · omega
        · omega
        · obtain ⟨b, off, e2, lb, _⟩ := RG.out 0 (gz_pos HCK.out)
          rw [e] at e2; cases e2
          have := B2.size; simp only; omega
      have HU2 : ∀ k, Uq w0 b5 b7 g ga k → k ≠ wr.heap.size := by
        intro k q
        rcases q with q | q | q | q | ⟨x, e, rfl⟩
        · omega
        · omega
        · omega
        · omega
        · obtain ⟨b, off, e2, lb, _⟩ := RG.out 0 (gz_pos HCK.out)
          rw [e] at e2; cases e2
          have := B1.out.size; simp only; omega
      refine range_memA rfl (by decide) (gf := 84) (lb := #[.pointer (some ⟨b7, 0, none⟩), .pointer (some ⟨w0, 0, none⟩), .pointer (some ⟨b5, 0, none⟩)]) rfl trivial (enters_of Tryd.func84 (by kernel_rfl) rfl)
        encQ (HxQ r s gz) (fun _ => False) (Uq w0 b5 b7 g ga) 256 (fun k q => q.elim) HU (fun _ => rfl)
        (fun l J W hl hW hlt hJ hY h0 => places_in 4 (by decide) l w0 b5 b7 g cap r s h m ga gc gz W r0 r1 (chk_top HCK.out) hgl (hp2.below (hW.below (Nat.le_refl _) (fun _ h => h.elim))) ((RG.out.below B2).below (hW.below (Nat.le_refl _) (fun _ h => h.elim))) J hlt hJ hY h0)
        (fun k W => W.rowIs wr.heap.size 3 256 (fun j => .int .i64 (if j < k then QV r s m gz B S lz f j else 0)) ∧ Part (fun j => j = wr.heap.size) w2 W)
        (fun k X Y' h hp => ?hI) ⟨r0w, Part.refl _ _⟩ (fun k x X Y' hs hp h => h) (fun x => .cells #[.int .i64 x.2.1, .int .i64 x.2.2] 93 (0, 0))
        (fun x b => { tmps := #[Value.int IntKind.i64 r, Value.agg #[Value.int IntKind.u8 s, Value.int IntKind.u8 h, Value.int IntKind.i64 m, Value.slice ga gz.length gc], Value.slice O B.length oc, Value.slice P S.length pc, Value.slice A 256 lc, Value.int IntKind.i64 most, Value.func (Fn.func 19) #[] #[], undef, Value.pointer (some { block := w.heap.size, off := 0 }), Value.pointer (some { block := w.heap.size + 1, off := 0 }), Value.pointer (some { block := w.heap.size + 1 + 1, off := 0 }), Value.pointer (some { block := w.heap.size + 1 + 1 + 1, off := 0 }), undef, Value.pointer (some { block := w.heap.size + 1 + 1 + 1 + 1, off := 0 }), u14, u15, Value.int IntKind.i64 0, undef, u18, Value.pointer (some { block := wr.heap.size + 1, off := 0 }), .int .i64 x.1, Value.pointer (some { block := b, off := 0 }), Value.int IntKind.i64 r, Value.agg #[Value.int IntKind.u8 s, Value.int IntKind.u8 h, Value.int IntKind.i64 m, Value.slice ga gz.length gc], Value.slice O B.length oc, Value.slice P S.length pc, Value.int IntKind.i64 0, Value.int IntKind.i64 0, Value.bool false, undef, Value.slice A 256 lc, Value.int IntKind.i64 256, Value.bool false, Value.slice A 256 lc, Value.int IntKind.i64 256, Value.int IntKind.i64 256, Value.bool false, u37, u38, u39, u40, u41, u42, u43, u44, u45, u46, u47, u48, Value.slice (some { block := wr.heap.size, off := 0 }) 256 256, Value.int IntKind.i64 r, Value.agg #[Value.int IntKind.u8 s, Value.int IntKind.u8 h, Value.int IntKind.i64 m, Value.slice ga gz.length gc], Value.func (Fn.func 84) #[] #[Value.pointer (some ⟨b7, 0, none⟩), Value.pointer (some ⟨w0, 0, none⟩), Value.pointer (some ⟨b5, 0, none⟩)], .int .i64 x.1, .agg #[.int .i64 x.2.1, .int .i64 x.2.2], undef, undef, undef, undef, undef, undef, undef, undef, undef, undef, undef, undef, undef, undef, undef, undef, undef, undef, undef, undef, undef, undef, undef, undef, undef, undef, undef, undef, undef, undef, undef, undef, undef, undef, undef, undef, undef, undef, undef, undef, undef, undef, undef, undef, undef, undef], defers := [] }) ?assign ?body ?done
      case hI =>
        obtain ⟨h1, h2⟩ := h
        refine ⟨hp.row h1 (fun q => by rcases q with q | q | q <;> first | exact q.elim | omega), ?_⟩
        exact ⟨hp.os.trans h2.os, hp.tape.trans h2.tape, hp.output.trans h2.output, Nat.le_trans h2.size hp.size, fun j hj hne => (hp.block j (Nat.lt_of_lt_of_le hj h2.size) (fun q => by rcases q with q | q | q <;> first | exact q.elim | omega)).trans (h2.block j hj hne)⟩
      case assign =>
        intro l x W K hK
        dsimp only [encQ]
        gi_wp2
        exact hK _ ((Below.refl _ W).alloc (Nat.le_refl _) _) (World.alloc_heap_new _ _)
      case body =>
        rintro l k x b W ⟨h1, h2⟩ hk hx hb ho
        obtain rfl := hx_parts r0 r1 hx
        clear hx HP HQ r0w lo lt0 lt5 lt7 ltg
        dsimp only at ho ⊢
        have BW : Below w.heap.size w W := B2.trans (h2.below B2.size (fun j q => by omega))
        have hkeep : ∀ j o, j < wr.heap.size → wr.heap[j]? = some o → W.heap[j]? = some o := fun j o hj ho => (h2.block j (by have := hb2.size; simp at this; omega) (by omega)).trans ((hb2.block j (by omega)).trans ((B4.block j hj).trans ho))
        have cb := cell_two ho
        obtain ⟨_, _, im, _⟩ := cell4 (hkeep _ _ (by omega) b8.out)
        have cB := cell_box (hkeep _ _ (by omega) b9.out)
        have cS := cell_box (hkeep _ _ (by omega) b10.out)
        have cL := cell_box (hkeep _ _ (by omega) b11.out)
        obtain ⟨ab, ao, rfl, lA, cA0⟩ := RL.out k (by rw [HL.out]; exact hk)
        have cA := (BW.cell (p := ⟨ab, ao + k, none⟩) lA).trans cA0
        clear cA0
        by_cases hz : lz.getD k 0 = 0
        · rw [hz] at cA
          gi_wp2
          have hmo : Tryd.prog.follows .mixedOrders = true := by kernel_rfl
          refine region_quiet_round l rfl hmo (by kernel_rfl) (by kernel_rfl) ?_
          repeat (gi_big_quiet_step (fail))
          refine BigFrame.wpQuietIn_skip ?_ rfl ?_
          · intro w _ f _; trivial
          simp only [Act.put, List.setIfInBounds_toArray, List.set_cons_succ, List.set_cons_zero]
          repeat (gi_big_quiet_step (fail))
          refine wpQuietIn_nil ?_
          intro _ hw'
          obtain ⟨nq, hw''⟩ := hw'
          subst hw''
          gi_wp2
          have hQ : QV r s m gz B S lz f k = 0 := by unfold QV qv; rw [if_neg (fun h => h.1 hz)]
          have D := Fx.drewN_below W nq
          refine ⟨⟨(h1.of_block (D.block _ h1.lt)).congr (fun j hj => ?_), h2.trans (Part.of_below D)⟩, D.size, fun j q => D.block j ?_⟩
          · by_cases e : j = k
            · subst e; simp [hQ]
            · by_cases e2 : j < k
              · rw [if_pos e2, if_pos (by omega)]
              · rw [if_neg e2, if_neg (by omega)]
          · have lb := (Array.getElem?_eq_some_iff.1 ho).1
            rcases q with q | q | q
            · have := HU j q; omega
            · omega
            · omega
        · by_cases hm : (bk r s k : Int) < m
          · obtain ⟨_, hBl, hSl, hBm, hSm, hnb⟩ := HQE.out
            have hgl2 := gk_lt HCK.out hk
            have hgB : gk s gz k < B.length := by omega
            have hgS : gk s gz k < S.length := by omega
            have hrB := hBm _ hgB
            have hrS := hSm _ hgS
            have hbB : bk r s k < (B.getD (gk s gz k) []).length := by omega
            have hbS : bk r s k < (S.getD (gk s gz k) []).length := by omega
            obtain ⟨bb, bo, ba, bc, eO, lbb, cR, rdB⟩ := (HRB.out.below BW) _ hgB
            subst eO
            obtain ⟨b2, o2, rfl, lb2, cV⟩ := rdB _ hbB
            have hm1 := HBR.out _ hgB
            by_cases hs : snt ((B.getD (gk s gz k) []).getD (bk r s k) 0) = true
            · have hs2 : snt ((B.getD (gk s gz k) []).getD (bk r s k) 0) = true := hs
              obtain ⟨sb, so, sa, sc, eP, lsb, cRS0, rdS⟩ := HRS.out _ hgS
              subst eP
              obtain ⟨s2b, s2o, rfl, ls2, cVS0⟩ := rdS _ hbS
              have cRS := (BW.cell (p := ⟨sb, so + gk s gz k, none⟩) lsb).trans cRS0
              have cVS := (BW.cell (p := ⟨s2b, s2o + bk r s k, none⟩) ls2).trans cVS0
              clear cRS0 cVS0
              have hm2 := HSR.out _ hgS
              have hQ : QV r s m gz B S lz f k = f (lz.getD k 0) ((S.getD (gk s gz k) []).getD (bk r s k) 0) := by unfold QV qv; rw [if_pos ⟨hz, hm, hs⟩]
              have hnz : (lz.getD k 0 != 0) = true := by simpa using hz
              have hnz2 : (lz.getD k 0 == 0) = false := by simpa using hz
              have hmb : decide ((bk r s k : Int) < m) = true := by simpa using hm
              generalize lz.getD k 0 = X at *
              generalize (B.getD (gk s gz k) []).getD (bk r s k) 0 = V at *
              generalize (S.getD (gk s gz k) []).getD (bk r s k) 0 = T at *
              obtain ⟨Ln, hLn⟩ : ∃ Ln, (B.getD (gk s gz k) []).length = Ln := ⟨_, rfl⟩
              rw [hLn] at cR hbB hm1
              obtain ⟨Ls, hLs⟩ : ∃ Ls, (S.getD (gk s gz k) []).length = Ls := ⟨_, rfl⟩
              rw [hLs] at cRS hbS hm2
              clear hLn rdB hLs rdS
              clear hrB hrS hBm hSm hnb hBl hSl
              generalize gk s gz k = g' at *
              generalize bk r s k = b' at *
              obtain ⟨cb0, cb1⟩ := cb
              have hsk : ∀ W, Calls Tryd.prog 75 #[.int .i64 V] W fun e w' => e = .returned (.bool true) ∧ W = w' := fun W => by have := sent_ok V W; rwa [hs2] at this
              gi_wp2
              have hmo : Tryd.prog.follows .mixedOrders = true := by kernel_rfl
              refine region_quiet_round l rfl hmo (by kernel_rfl) (by kernel_rfl) ?_
              repeat (gi_big_quiet_step (fail))
              refine BigFrame.wpQuietIn_want ?_ rfl ?_
              · intro w _ f _; trivial
              intro K hK
              gi_big_quiet_op
              gi_big_quiet_call ((exact callsIn_wide.2 ((hsk _).mono fun e w' h => ⟨h.1, _, h.2.symm⟩)))
              repeat (gi_big_quiet_step (fail))
              refine wpQuietIn_nil ?_
              intro _ hw'
              obtain ⟨nq, hw''⟩ := hw'
              subst hw''
              gi_wp2
              have lb := (Array.getElem?_eq_some_iff.1 ho).1
              have zw := B1.out.size
              have zb := hb2.size
              have hc19 : W.cell? ⟨wr.heap.size + 1, 0, none⟩ = some (.slice (some ⟨wr.heap.size, 0, none⟩) 256 256) := by
                have e1 : ((wr.alloc (.cells (madeCells #[.int .i64 0] 256) 3)).alloc (.cells #[.slice (some ⟨wr.heap.size, 0, none⟩) 256 256] 39)).heap[wr.heap.size + 1]? = some (.cells #[.slice (some ⟨wr.heap.size, 0, none⟩) 256 256] 39) := by
                  have := World.alloc_heap_new (wr.alloc (.cells (madeCells #[.int .i64 0] 256) 3)) (.cells #[.slice (some ⟨wr.heap.size, 0, none⟩) 256 256] 39)
                  rwa [World.size_alloc] at this
                have e2 : W.heap[wr.heap.size + 1]? = some (.cells #[.slice (some ⟨wr.heap.size, 0, none⟩) 256 256] 39) := (h2.block _ (by have := hb2.size; simp at this; omega) (by omega)).trans ((hb2.block _ (by omega)).trans e1)
                exact cell_box e2
              have hc13 : W.cell? ⟨w.heap.size + 1 + 1 + 1 + 1, 0, none⟩ = some (.func (.func 19) #[] #[]) := cell_box (hkeep _ _ (by omega) b13.out)
              have hne1 : w.heap.size + 5 ≤ wr.heap.size := z1
              have hneb : b ≠ wr.heap.size := by omega
              have ck : ∀ (w' : World) (hS : ∀ j o, j ≠ wr.heap.size → W.heap[j]? = some o → w'.heap[j]? = some o) (j o : Nat) (v : Value), j ≠ wr.heap.size → W.cell? ⟨j, o, none⟩ = some v → w'.cell? ⟨j, o, none⟩ = some v := fun w' hS j o v hj hc => cell_same' hc (fun ob => hS j ob hj)
              have hSc : ∀ w' : World, (∀ j o, j ≠ wr.heap.size → W.heap[j]? = some o → w'.heap[j]? = some o) → w'.cell? ⟨wr.heap.size + 1, 0, none⟩ = some (.slice (some ⟨wr.heap.size, 0, none⟩) 256 256) ∧ w'.cell? ⟨w.heap.size + 1 + 1 + 1 + 1, 0, none⟩ = some (.func (.func 19) #[] #[]) ∧ w'.cell? ⟨w.heap.size + 1 + 1 + 1, 0, none⟩ = some (.slice (some ⟨ab, ao, none⟩) 256 lc) ∧ w'.cell? ⟨ab, ao + k, none⟩ = some (.int .i64 X) ∧ w'.cell? ⟨w.heap.size + 1 + 1, 0, none⟩ = some (.slice (some ⟨sb, so, none⟩) S.length pc) ∧ w'.cell? ⟨b, 0, none⟩ = some (.int .i64 (g' : Int)) ∧ w'.cell? ⟨b, 1, none⟩ = some (.int .i64 (b' : Int)) ∧ w'.cell? ⟨sb, so + g', none⟩ = some (.slice (some ⟨s2b, s2o, none⟩) Ls sc) ∧ w'.cell? ⟨s2b, s2o + b', none⟩ = some (.int .i64 T) := fun w' hS =>
                ⟨ck w' hS _ _ _ (by omega) hc19, ck w' hS _ _ _ (by omega) hc13, ck w' hS _ _ _ (by omega) cL, ck w' hS _ _ _ (by omega) cA, ck w' hS _ _ _ (by omega) cS, ck w' hS _ _ _ hneb cb0, ck w' hS _ _ _ hneb cb1, ck w' hS _ _ _ (by omega) cRS, ck w' hS _ _ _ (by omega) cVS⟩
              clear ck
              have hS : (fun w' : World => ∀ j o, j ≠ wr.heap.size → W.heap[j]? = some o → w'.heap[j]? = some o) (W.drewN nq).drew := fun j o _ h => h
              have hk' : (k : Int) < 256 := by omega
              have hgS' : (g' : Int) < (S.length : Int) := by omega
              have hbS' : (b' : Int) < (Ls : Int) := by omega
              refine region_held_round l (fun w' => ∀ j o, j ≠ wr.heap.size → W.heap[j]? = some o → w'.heap[j]? = some o) hmo (by kernel_rfl) (fun h => by obtain ⟨_, _, h⟩ := h; exact h) ?_
              show wpAnyH _ _ _ _ _ 22 _ _ _
              refine wpAnyH_take (i := 0) (v := ?v0) rfl (by kernel_rfl) (by kernel_rfl) (by kernel_rfl) (fun _ _ _ h => h) (Or.inl ⟨by rfl, ?y0⟩) hS ?r0
              case y0 => intro w' hw'; have s1 := (hSc w' hw').1; go_simp; try (with_reducible rfl)
              try simp only [Act.put, List.getElem_toArray, List.getElem_cons_succ, List.getElem_cons_zero, List.setIfInBounds_toArray, List.set_cons_zero, List.set_cons_succ]
              refine wpAnyH_take (i := 1) (v := ?v1) rfl (by kernel_rfl) (by kernel_rfl) (by kernel_rfl) (fun _ _ _ h => h) (Or.inl ⟨by rfl, ?y1⟩) hS ?r1
              case y1 => intro w' hw'; go_simp; try (with_reducible rfl)
              try simp only [Act.put, List.getElem_toArray, List.getElem_cons_succ, List.getElem_cons_zero, List.setIfInBounds_toArray, List.set_cons_zero, List.set_cons_succ]
              refine wpAnyH_take (i := 2) (v := ?v2) rfl (by kernel_rfl) (by kernel_rfl) (by kernel_rfl) (fun _ _ _ h => h) (Or.inl ⟨by rfl, ?y2⟩) hS ?r2
              case y2 => intro w' hw'; have s2 := (hSc w' hw').2.1; go_simp; try (with_reducible rfl)
              try simp only [Act.put, List.getElem_toArray, List.getElem_cons_succ, List.getElem_cons_zero, List.setIfInBounds_toArray, List.set_cons_zero, List.set_cons_succ]
              refine wpAnyH_take (i := 3) (v := ?v3) rfl (by kernel_rfl) (by kernel_rfl) (by kernel_rfl) (fun _ _ _ h => h) (Or.inl ⟨by rfl, ?y3⟩) hS ?r3
              case y3 => intro w' hw'; have s3 := (hSc w' hw').2.2.1; go_simp; try (with_reducible rfl)
              try simp only [Act.put, List.getElem_toArray, List.getElem_cons_succ, List.getElem_cons_zero, List.setIfInBounds_toArray, List.set_cons_zero, List.set_cons_succ]
              refine wpAnyH_take (i := 4) (v := ?v4) rfl (by kernel_rfl) (by kernel_rfl) (by kernel_rfl) (fun _ _ _ h => h) (Or.inl ⟨by rfl, ?y4⟩) hS ?r4
              case y4 => intro w' hw'; go_simp; try (with_reducible rfl)
              try simp only [Act.put, List.getElem_toArray, List.getElem_cons_succ, List.getElem_cons_zero, List.setIfInBounds_toArray, List.set_cons_zero, List.set_cons_succ]
              refine wpAnyH_take (i := 5) (v := ?v5) rfl (by kernel_rfl) (by kernel_rfl) (by kernel_rfl) (fun _ _ _ h => h) (Or.inl ⟨by rfl, ?y5⟩) hS ?r5
              case y5 => intro w' hw'; go_simp; try (with_reducible rfl)
              try simp only [Act.put, List.getElem_toArray, List.getElem_cons_succ, List.getElem_cons_zero, List.setIfInBounds_toArray, List.set_cons_zero, List.set_cons_succ]
              refine wpAnyH_take (i := 6) (v := ?v6) rfl (by kernel_rfl) (by kernel_rfl) (by kernel_rfl) (fun _ _ _ h => h) (Or.inl ⟨by rfl, ?y6⟩) hS ?r6
              case y6 => intro w' hw'; have s4 := (hSc w' hw').2.2.2.1; go_simp; try (with_reducible rfl)
              try simp only [Act.put, List.getElem_toArray, List.getElem_cons_succ, List.getElem_cons_zero, List.setIfInBounds_toArray, List.set_cons_zero, List.set_cons_succ]
              refine wpAnyH_take (i := 7) (v := ?v7) rfl (by kernel_rfl) (by kernel_rfl) (by kernel_rfl) (fun _ _ _ h => h) (Or.inl ⟨by rfl, ?y7⟩) hS ?r7
              case y7 => intro w' hw'; have s5 := (hSc w' hw').2.2.2.2.1; go_simp; try (with_reducible rfl)
              try simp only [Act.put, List.getElem_toArray, List.getElem_cons_succ, List.getElem_cons_zero, List.setIfInBounds_toArray, List.set_cons_zero, List.set_cons_succ]
              refine wpAnyH_take (i := 8) (v := ?v8) rfl (by kernel_rfl) (by kernel_rfl) (by kernel_rfl) (fun _ _ _ h => h) (Or.inl ⟨by rfl, ?y8⟩) hS ?r8
              case y8 => intro w' hw'; go_simp; try (with_reducible rfl)
              try simp only [Act.put, List.getElem_toArray, List.getElem_cons_succ, List.getElem_cons_zero, List.setIfInBounds_toArray, List.set_cons_zero, List.set_cons_succ]
              refine wpAnyH_take (i := 9) (v := ?v9) rfl (by kernel_rfl) (by kernel_rfl) (by kernel_rfl) (fun _ _ _ h => h) (Or.inl ⟨by rfl, ?y9⟩) hS ?r9
              case y9 => intro w' hw'; have s6 := (hSc w' hw').2.2.2.2.2.1; go_simp; try (with_reducible rfl)
              try simp only [Act.put, List.getElem_toArray, List.getElem_cons_succ, List.getElem_cons_zero, List.setIfInBounds_toArray, List.set_cons_zero, List.set_cons_succ]
              refine wpAnyH_take (i := 10) (v := ?v10) rfl (by kernel_rfl) (by kernel_rfl) (by kernel_rfl) (fun _ _ _ h => h) (Or.inl ⟨by rfl, ?y10⟩) hS ?r10
              case y10 => intro w' hw'; go_simp; try (with_reducible rfl)
              try simp only [Act.put, List.getElem_toArray, List.getElem_cons_succ, List.getElem_cons_zero, List.setIfInBounds_toArray, List.set_cons_zero, List.set_cons_succ]
              refine wpAnyH_take (i := 11) (v := ?v11) rfl (by kernel_rfl) (by kernel_rfl) (by kernel_rfl) (fun _ _ _ h => h) (Or.inl ⟨by rfl, ?y11⟩) hS ?r11
              case y11 => intro w' hw'; have s8 := (hSc w' hw').2.2.2.2.2.2.2.1; go_simp; try (with_reducible rfl)
              try simp only [Act.put, List.getElem_toArray, List.getElem_cons_succ, List.getElem_cons_zero, List.setIfInBounds_toArray, List.set_cons_zero, List.set_cons_succ]
              refine wpAnyH_take (i := 12) (v := ?v12) rfl (by kernel_rfl) (by kernel_rfl) (by kernel_rfl) (fun _ _ _ h => h) (Or.inl ⟨by rfl, ?y12⟩) hS ?r12
              case y12 => intro w' hw'; go_simp; try (with_reducible rfl)
              try simp only [Act.put, List.getElem_toArray, List.getElem_cons_succ, List.getElem_cons_zero, List.setIfInBounds_toArray, List.set_cons_zero, List.set_cons_succ]
              refine wpAnyH_take (i := 13) (v := ?v13) rfl (by kernel_rfl) (by kernel_rfl) (by kernel_rfl) (fun _ _ _ h => h) (Or.inl ⟨by rfl, ?y13⟩) hS ?r13
              case y13 => intro w' hw'; have s7 := (hSc w' hw').2.2.2.2.2.2.1; go_simp; try (with_reducible rfl)
              try simp only [Act.put, List.getElem_toArray, List.getElem_cons_succ, List.getElem_cons_zero, List.setIfInBounds_toArray, List.set_cons_zero, List.set_cons_succ]
              refine wpAnyH_take (i := 14) (v := ?v14) rfl (by kernel_rfl) (by kernel_rfl) (by kernel_rfl) (fun _ _ _ h => h) (Or.inl ⟨by rfl, ?y14⟩) hS ?r14
              case y14 => intro w' hw'; go_simp; try (with_reducible rfl)
              try simp only [Act.put, List.getElem_toArray, List.getElem_cons_succ, List.getElem_cons_zero, List.setIfInBounds_toArray, List.set_cons_zero, List.set_cons_succ]
              refine wpAnyH_take (i := 15) (v := ?v15) rfl (by kernel_rfl) (by kernel_rfl) (by kernel_rfl) (fun _ _ _ h => h) (Or.inl ⟨by rfl, ?y15⟩) hS ?r15
              case y15 => intro w' hw'; have s9 := (hSc w' hw').2.2.2.2.2.2.2.2; go_simp; try (with_reducible rfl)
              try simp only [Act.put, List.getElem_toArray, List.getElem_cons_succ, List.getElem_cons_zero, List.setIfInBounds_toArray, List.set_cons_zero, List.set_cons_succ]
              refine wpAnyH_ready (rs := [16]) (by kernel_rfl) (by simp) ?_
              refine AllReadyH.cons rfl (fun K hK => ?_) AllReadyH.nil
              simp only [List.getElem_toArray, List.getElem_cons_succ, List.getElem_cons_zero]
              rw [if_pos (by rfl)]
              have D0 : Below W.heap.size W (W.drewN nq).drew := (Fx.drewN_below W nq).drew
              have hq0 : Fx.Qs (W.drewN nq).drew := (hqs.below BW).drewN nq
              go_simp
              refine (hfn X T _ hq0).mono ?_
              rintro e w5 ⟨rfl, hq5, hb5⟩
              have hS5 : (fun w' : World => ∀ j o, j ≠ wr.heap.size → W.heap[j]? = some o → w'.heap[j]? = some o) w5 := fun j o _ h => (hb5.block j (Array.getElem?_eq_some_iff.1 h).1).trans h
              refine hK.out _ _ hS5 (fun _ => ?_)
              try simp only [Act.put, List.getElem_toArray, List.getElem_cons_succ, List.getElem_cons_zero, List.setIfInBounds_toArray, List.set_cons_zero, List.set_cons_succ]
              refine wpAnyH_take (i := 17) (v := ?v17) rfl (by kernel_rfl) (by kernel_rfl) (by kernel_rfl) (fun _ _ _ h => h) (Or.inl ⟨by rfl, ?y17⟩) hS5 ?r17
              case y17 => intro w' hw'; go_simp; try (with_reducible rfl)
              try simp only [Act.put, List.getElem_toArray, List.getElem_cons_succ, List.getElem_cons_zero, List.setIfInBounds_toArray, List.set_cons_zero, List.set_cons_succ]
              refine wpAnyH_take (i := 18) (v := ?v18) rfl (by kernel_rfl) (by kernel_rfl) (by kernel_rfl) (fun _ _ _ h => h) (Or.inl ⟨by rfl, ?y18⟩) hS5 ?r18
              case y18 => intro w' hw'; go_simp; try (with_reducible rfl)
              try simp only [Act.put, List.getElem_toArray, List.getElem_cons_succ, List.getElem_cons_zero, List.setIfInBounds_toArray, List.set_cons_zero, List.set_cons_succ]
              refine wpAnyH_take (i := 19) (v := ?v19) rfl (by kernel_rfl) (by kernel_rfl) (by kernel_rfl) (fun _ _ _ h => h) (Or.inl ⟨by rfl, ?y19⟩) hS5 ?r19
              case y19 => intro w' hw'; go_simp; try (with_reducible rfl)
              try simp only [Act.put, List.getElem_toArray, List.getElem_cons_succ, List.getElem_cons_zero, List.setIfInBounds_toArray, List.set_cons_zero, List.set_cons_succ]
              refine wpAnyH_take (i := 20) (v := ?v20) rfl (by kernel_rfl) (by kernel_rfl) (by kernel_rfl) (fun _ _ _ h => h) (Or.inl ⟨by rfl, ?y20⟩) hS5 ?r20
              case y20 => intro w' hw'; go_simp; try (with_reducible rfl)
              try simp only [Act.put, List.getElem_toArray, List.getElem_cons_succ, List.getElem_cons_zero, List.setIfInBounds_toArray, List.set_cons_zero, List.set_cons_succ]
              have R5 : w5.rowIs wr.heap.size 3 256 (fun j => .int .i64 (if j < k then QV r s m gz B S lz f j else 0)) := h1.of_block (hb5.block _ h1.lt)
              have q5 := R5.cell (i := k) hk
              have f5 := R5.frozen k
              refine wpAnyH_ready (rs := [21]) (by kernel_rfl) (by simp) ?_
              refine AllReadyH.cons rfl (fun K2 hK2 => ?_) AllReadyH.nil
              try simp only [List.getElem_toArray, List.getElem_cons_succ, List.getElem_cons_zero]
              rw [if_pos (by rfl)]
              go_simp
              refine hK2.out _ _ (fun j o hj ho => ?_) (fun _ => ?_)
              · have hne : wr.heap.size ≠ j := fun e => hj e.symm
                have e := hS5 j o hj ho
                rw [← e]
                simp only [World.setCell]
                show (w5.heap.modify wr.heap.size _)[j]? = w5.heap[j]?
                rw [Array.getElem?_modify, if_neg hne]
              refine wpAnyH_done (by kernel_rfl) ?_ _
              have BD : Below W.heap.size W w5 := ((Below.refl _ W).trans D0).trans hb5
              have lk := h1.lt
              refine ⟨⟨(R5.set k (.int .i64 (f X T))).congr (fun j hj => ?_), h2.trans ((Part.of_below BD).trans (Part.set (p := ⟨wr.heap.size, k, none⟩) _ rfl))⟩, ?_, fun j q => ?_⟩
              · by_cases e : j = k
                · subst e; rw [if_pos rfl, if_pos (by omega), hQ]
                · rw [if_neg e]
                  by_cases e2 : j < k
                  · rw [if_pos e2, if_pos (by omega)]
                  · rw [if_neg e2, if_neg (by omega)]
              · have := BD.size; simp; omega
              · have hjW : j < W.heap.size ∧ j ≠ wr.heap.size := by
                  rcases q with q | q | q
                  · have := HU j q; have := HU2 j q; exact ⟨by omega, by omega⟩
                  · exact ⟨by omega, by omega⟩
                  · exact ⟨by omega, by omega⟩
                have hne : ¬ wr.heap.size = j := fun e => hjW.2 e.symm
                simp only [World.setCell]
                show (w5.heap.modify wr.heap.size _)[j]? = W.heap[j]?
                rw [Array.getElem?_modify, if_neg hne]
                exact BD.block j hjW.1
            · have hQ : QV r s m gz B S lz f k = 0 := by unfold QV qv; rw [if_neg (fun h => hs h.2.2)]
              have hs2 : snt ((B.getD (gk s gz k) []).getD (bk r s k) 0) = false := by simpa using hs
              have hnz : (lz.getD k 0 != 0) = true := by simpa using hz
              have hnz2 : (lz.getD k 0 == 0) = false := by simpa using hz
              have hmb : decide ((bk r s k : Int) < m) = true := by simpa using hm
              generalize lz.getD k 0 = X at *
              generalize (B.getD (gk s gz k) []).getD (bk r s k) 0 = V at *
              obtain ⟨Ln, hLn⟩ : ∃ Ln, (B.getD (gk s gz k) []).length = Ln := ⟨_, rfl⟩
              rw [hLn] at cR hbB hm1
              clear hLn rdB
              clear hrB hrS hBm hSm hnb hBl hSl
              generalize gk s gz k = g' at *
              generalize bk r s k = b' at *
              obtain ⟨cb0, cb1⟩ := cb
              have hsk : ∀ W, Calls Tryd.prog 75 #[.int .i64 V] W fun e w' => e = .returned (.bool false) ∧ W = w' := fun W => by have := sent_ok V W; rwa [hs2] at this
              gi_wp2
              have hmo : Tryd.prog.follows .mixedOrders = true := by kernel_rfl
              refine region_quiet_round l rfl hmo (by kernel_rfl) (by kernel_rfl) ?_
              repeat (gi_big_quiet_step (fail))
              refine BigFrame.wpQuietIn_want ?_ rfl ?_
              · intro w _ f _; trivial
              intro K hK
              gi_big_quiet_op
              gi_big_quiet_call ((exact callsIn_wide.2 ((hsk _).mono fun e w' h => ⟨h.1, _, h.2.symm⟩)))
              repeat (gi_big_quiet_step (fail))
              refine wpQuietIn_nil ?_
              intro _ hw'
              obtain ⟨nq, hw''⟩ := hw'
              subst hw''
              gi_wp2
              have D := Fx.drewN_below W nq
              refine ⟨⟨(h1.of_block (D.block _ h1.lt)).congr (fun j hj => ?_), h2.trans (Part.of_below D)⟩, D.size, fun j q => D.block j ?_⟩
              · by_cases e : j = k
                · subst e; simp [hQ]
                · by_cases e2 : j < k
                  · rw [if_pos e2, if_pos (by omega)]
                  · rw [if_neg e2, if_neg (by omega)]
              · have lb := (Array.getElem?_eq_some_iff.1 ho).1
                rcases q with q | q | q
                · have := HU j q; omega
                · omega
                · omega
          have hQ : QV r s m gz B S lz f k = 0 := by unfold QV qv; rw [if_neg (fun h => hm h.2.1)]
          have hnz : (lz.getD k 0 != 0) = true := by simpa using hz
          have hnz2 : (lz.getD k 0 == 0) = false := by simpa using hz
          generalize lz.getD k 0 = X at *
          have hmb : decide ((bk r s k : Int) < m) = false := by simpa using hm
          obtain ⟨cb0, cb1⟩ := cb
          gi_wp2
          have hmo : Tryd.prog.follows .mixedOrders = true := by kernel_rfl
          refine region_quiet_round l rfl hmo (by kernel_rfl) (by kernel_rfl) ?_
          repeat (gi_big_quiet_step (fail))
          refine BigFrame.wpQuietIn_skip ?_ rfl ?_
          · intro w _ f _; trivial
          simp only [Act.put, List.setIfInBounds_toArray, List.set_cons_succ, List.set_cons_zero]
          repeat (gi_big_quiet_step (fail))
          refine wpQuietIn_nil ?_
          intro _ hw'
          obtain ⟨nq, hw''⟩ := hw'
          subst hw''
          gi_wp2
          have D := Fx.drewN_below W nq
          refine ⟨⟨(h1.of_block (D.block _ h1.lt)).congr (fun j hj => ?_), h2.trans (Part.of_below D)⟩, D.size, fun j q => D.block j ?_⟩
          · by_cases e : j = k
            · subst e; simp [hQ]
            · by_cases e2 : j < k
              · rw [if_pos e2, if_pos (by omega)]
              · rw [if_neg e2, if_neg (by omega)]
          · have lb := (Array.getElem?_eq_some_iff.1 ho).1
            rcases q with q | q | q
            · have := HU j q; omega
            · omega
            · omega
      case done =>
        rintro W ⟨h1, h2⟩ hsl hK
        have e1 : ((wr.alloc (.cells (madeCells #[.int .i64 0] 256) 3)).alloc (.cells #[.slice (some ⟨wr.heap.size, 0, none⟩) 256 256] 39)).heap[wr.heap.size + 1]? = some (.cells #[.slice (some ⟨wr.heap.size, 0, none⟩) 256 256] 39) := by
          have := World.alloc_heap_new (wr.alloc (.cells (madeCells #[.int .i64 0] 256) 3)) (.cells #[.slice (some ⟨wr.heap.size, 0, none⟩) 256 256] 39)
          rwa [World.size_alloc] at this
        have c19 : W.cell? ⟨wr.heap.size + 1, 0, none⟩ = some (.slice (some ⟨wr.heap.size, 0, none⟩) 256 256) := cell_box ((h2.block _ (by have := hb2.size; simp at this; omega) (by omega)).trans ((hb2.block _ (by omega)).trans e1))
        have BW : Below w.heap.size w W := B2.trans (h2.below B2.size (fun j q => by omega))
        clear HP HQ r0w lo lt0 lt5 lt7 ltg
        gi_wp2
        refine ⟨by simp, .inl ⟨_, _, rfl, run_takeDeferred hK, ?_⟩⟩
        have zb := hb2.size
        have zw := B1.out.size
        have z2 := B2.size
        refine ⟨_, results_tmp2 rfl _ _ _, wr.heap.size, rfl, ((h1.of_block (World.putObj_heap_other (by omega))).congr fun j hj => by rw [if_pos hj]), by omega, ?_⟩
        exact BW.trans (belowK_b (w := w) (Nat.le_refl _) W w2.heap.size _ _ (by omega) hK rfl rfl)
end Go.Proofs.YtanjcbnkkhbkkaaDoor.Qn

/- What quant's two calls answer. -/
namespace Go.Proofs.YtanjcbnkkhbkkaaDoor.Qn
open Go Go.ChangeShapes Go.WideShapes Go.ChangeAt Go.RowKit Go.Proofs.YtanjcbnkkhbkkaaDoor.If Go.Proofs.YtanjcbnkkhbkkaaDoor.Bd

/-- What a call is given, but for the lines. -/
structure Inp (w : World) (ga : Option Addr) (gz : List Int) (O P : Option Addr) (B S : List (List Int)) : Prop where
  gl : gz.length ≤ 100
  bl : B.length ≤ 100
  sl : S.length ≤ 100
  br : ∀ i, i < B.length → (B.getD i []).length ≤ maxLen
  sr : ∀ i, i < S.length → (S.getD i []).length ≤ maxLen
  hg : RdA w ga gz
  rB : RdR w O B
  rS : RdR w P S
theorem Inp.below {w w' : World} {ga : Option Addr} {gz : List Int} {O P : Option Addr} {B S : List (List Int)} (h : Inp w ga gz O P B S) (hb : Below w.heap.size w w') : Inp w' ga gz O P B S :=
  ⟨h.gl, h.bl, h.sl, h.br, h.sr, h.hg.below hb, h.rB.below hb, h.rS.below hb⟩
def inr (most : Int) (lz : List Int) : Prop := ∀ j, j < 256 → -most ≤ lz.getD j 0 ∧ lz.getD j 0 ≤ most
/-- Nothing is wrong. -/
def Fine (r s h m : Int) (gz : List Int) (B S : List (List Int)) (lz : List Int) (most : Int) : Prop := QE r s h m gz B S 0 ∧ lz.length = 256 ∧ inr most lz

theorem turned_err (r s h m : Int) (ga : Option Addr) (gc : Nat) (gz : List Int) (O P A : Option Addr) (oc pc lc : Nat) (B S : List (List Int)) (lz : List Int) (most : Int) (fn : Nat) (w : World) (I : Inp w ga gz O P B S) (hll : lz.length ≤ 1000) (rl : RdA w A lz) (hm0 : 0 ≤ most) (hm1 : most ≤ 1099511627776) (hf : ¬ Fine r s h m gz B S lz most) :
    Calls Tryd.prog 53 #[.int .i64 r, .agg #[.int .u8 s, .int .u8 h, .int .i64 m, .slice ga gz.length gc], .slice O B.length oc, .slice P S.length pc, .slice A lz.length lc, .int .i64 most, .func (.func fn) #[] #[]] w fun e w' => ∃ c, c ≠ 0 ∧ e = .returned (.tuple #[.slice none 0 0, .int .i64 c]) ∧ Below w.heap.size w w' := by
  obtain ⟨c, hq⟩ := qe_ex r s h m gz B S
  by_cases hc : c = 0
  · subst hc
    by_cases hl : lz.length = 256
    · have hbad : ∃ j : Nat, j < 256 ∧ ¬ (-most ≤ lz.getD j 0 ∧ lz.getD j 0 ≤ most) := Classical.byContradiction fun hn => hf ⟨hq, hl, fun j hj => Classical.byContradiction fun hx => hn ⟨j, hj, hx⟩⟩
      obtain ⟨j, hj, hx⟩ := hbad
      exact (turned_e3 r s h m ga gc gz O P A oc pc lc B S lz most fn w (by have := I.gl; omega) (by have := I.bl; omega) (by have := I.sl; omega) I.br I.sr (by omega) I.hg I.rB I.rS rl 0 hq rfl hl hm0 hm1 ⟨j, by omega, hj, hx⟩).mono fun e w' hh => ⟨2, by decide, hh.1, hh.2⟩
    · exact (turned_e2 r s h m ga gc gz O P A oc pc lc B S lz most fn w (by have := I.gl; omega) (by have := I.bl; omega) (by have := I.sl; omega) I.br I.sr (by omega) I.hg I.rB I.rS rl 0 hq rfl hl).mono fun e w' hh => ⟨4, by decide, hh.1, hh.2⟩
  · exact (turned_e1 r s h m ga gc gz O P A oc pc lc B S lz most fn w (by have := I.gl; omega) (by have := I.bl; omega) (by have := I.sl; omega) I.br I.sr (by omega) I.hg I.rB I.rS rl c hq hc).mono fun e w' hh => ⟨c, hc, hh.1, hh.2⟩
theorem chk_rate {r s h m : Int} {gz : List Int} (hc : chk r s h m gz = 0) : 0 ≤ r ∧ r ≤ 11 := by
  by_cases c : r < 0 ∨ 11 < r
  · rw [chk_arg c] at hc; exact absurd hc (by decide)
  · omega
/-- Lines that were answered. -/
def Ansr (w w' : World) (e : Ending) (F : Nat → Int) : Prop := ∃ g, e = .returned (.tuple #[.slice (some ⟨g, 0, none⟩) 256 256, .int .i64 0]) ∧ w'.rowIs g 3 256 (fun j => .int .i64 (F j)) ∧ w.heap.size ≤ g ∧ Below w.heap.size w w'

theorem lines_t (r s h m : Int) (ga : Option Addr) (gc : Nat) (gz : List Int) (O P A : Option Addr) (oc pc lc : Nat) (B S : List (List Int)) (lz : List Int) (w : World) (hqs : Fx.Qs w) (I : Inp w ga gz O P B S) (rl : RdA w A lz) (hf : Fine r s h m gz B S lz 8191) :
    Calls Tryd.prog 53 #[.int .i64 r, .agg #[.int .u8 s, .int .u8 h, .int .i64 m, .slice ga gz.length gc], .slice O B.length oc, .slice P S.length pc, .slice A lz.length lc, .int .i64 8191, .func (.func 17) #[] #[]] w fun e w' => Ansr w w' e (QV r s m gz B S lz Fx.FL) := by
  obtain ⟨hq, hl, hin⟩ := hf
  have hck := (qe_zero hq).1
  obtain ⟨r0, r1⟩ := chk_rate hck
  exact turned_17 r s h m ga gc gz O P A oc pc lc B S lz 8191 w r0 r1 hck (by have := I.gl; omega) (by have := I.bl; omega) (by have := I.sl; omega) I.br I.sr I.hg I.rB I.rS rl hl hq (by decide) (by decide) hin Fx.FL Fx.EL hqs (fun x st W hW => (Fx.line_k x st (Fx.Kp.refl hW)).mono fun e w' hh => ⟨hh.1, hh.2.1, hh.2.2⟩)
theorem lines_good (r s h m : Int) (ga : Option Addr) (gc : Nat) (gz : List Int) (O P A : Option Addr) (oc pc lc : Nat) (B S : List (List Int)) (lz : List Int) (w : World) (hqs : Fx.Qs w) (I : Inp w ga gz O P B S) (rl : RdA w A lz) (hf : Fine r s h m gz B S lz 8191) :
    Calls Tryd.prog 31 #[.int .i64 r, .agg #[.int .u8 s, .int .u8 h, .int .i64 m, .slice ga gz.length gc], .slice O B.length oc, .slice P S.length pc, .slice A lz.length lc] w fun e w' => Ansr w w' e (QV r s m gz B S lz Fx.FL) := by
  have HB := Lib.hid (box_below w (.cells #[.int .u8 s, .int .u8 h, .int .i64 m, .slice ga gz.length gc] 50))
  obtain ⟨y0, y1, y2, y3⟩ := boxed w s h m (.slice ga gz.length gc) _ (Below.refl _ _)
  have HT := Lib.hid (lines_t r s h m ga gc gz O P A oc pc lc B S lz _ (hqs.below HB.out) (I.below HB.out) (rl.below HB.out) hf)
  clear I rl hf hqs
  go_enter Tryd.func31, Tryd.ntmps31
  go_wp2_with (go_at_call 53; ((with_reducible refine (HT.out).mono ?_); rintro e w1 ⟨g, rfl, hr, hg, hb⟩))
  go_ret2
  exact ⟨g, rfl, hr, by simp at hg; omega, belowT HB.out hb⟩
theorem lines_err (r s h m : Int) (ga : Option Addr) (gc : Nat) (gz : List Int) (O P A : Option Addr) (oc pc lc : Nat) (B S : List (List Int)) (lz : List Int) (w : World) (I : Inp w ga gz O P B S) (hll : lz.length ≤ 1000) (rl : RdA w A lz) (hf : ¬ Fine r s h m gz B S lz 8191) :
    Calls Tryd.prog 31 #[.int .i64 r, .agg #[.int .u8 s, .int .u8 h, .int .i64 m, .slice ga gz.length gc], .slice O B.length oc, .slice P S.length pc, .slice A lz.length lc] w fun e w' => ∃ c, c ≠ 0 ∧ e = .returned (.tuple #[.slice none 0 0, .int .i64 c]) ∧ Below w.heap.size w w' := by
  have HB := Lib.hid (box_below w (.cells #[.int .u8 s, .int .u8 h, .int .i64 m, .slice ga gz.length gc] 50))
  obtain ⟨y0, y1, y2, y3⟩ := boxed w s h m (.slice ga gz.length gc) _ (Below.refl _ _)
  have HT := Lib.hid (turned_err r s h m ga gc gz O P A oc pc lc B S lz 8191 17 _ (I.below HB.out) hll (rl.below HB.out) (by decide) (by decide) hf)
  clear I rl hf hll
  go_enter Tryd.func31, Tryd.ntmps31
  go_wp2_with (go_at_call 53; ((with_reducible refine (HT.out).mono ?_); rintro e w1 ⟨c, hc, rfl, hb⟩))
  go_ret2
  exact ⟨c, hc, rfl, belowT HB.out hb⟩

theorem quant_t (r s h m : Int) (ga : Option Addr) (gc : Nat) (gz : List Int) (O P A : Option Addr) (oc pc lc : Nat) (B S : List (List Int)) (lz : List Int) (w : World) (hqs : Fx.Qs w) (I : Inp w ga gz O P B S) (rl : RdA w A lz) (hf : Fine r s h m gz B S lz 268435455) :
    Calls Tryd.prog 53 #[.int .i64 r, .agg #[.int .u8 s, .int .u8 h, .int .i64 m, .slice ga gz.length gc], .slice O B.length oc, .slice P S.length pc, .slice A lz.length lc, .int .i64 268435455, .func (.func 19) #[] #[]] w fun e w' => Ansr w w' e (QV r s m gz B S lz Fx.FQ) := by
  obtain ⟨hq, hl, hin⟩ := hf
  have hck := (qe_zero hq).1
  obtain ⟨r0, r1⟩ := chk_rate hck
  exact turned_19 r s h m ga gc gz O P A oc pc lc B S lz 268435455 w r0 r1 hck (by have := I.gl; omega) (by have := I.bl; omega) (by have := I.sl; omega) I.br I.sr I.hg I.rB I.rS rl hl hq (by decide) (by decide) hin Fx.FQ Fx.EQ hqs (fun x st W hW => (Fx.quant_k x st (Fx.Kp.refl hW)).mono fun e w' hh => ⟨hh.1, hh.2.1, hh.2.2⟩)
theorem quant_good (r s h m : Int) (ga : Option Addr) (gc : Nat) (gz : List Int) (O P A : Option Addr) (oc pc lc : Nat) (B S : List (List Int)) (lz : List Int) (w : World) (hqs : Fx.Qs w) (I : Inp w ga gz O P B S) (rl : RdA w A lz) (hf : Fine r s h m gz B S lz 268435455) :
    Calls Tryd.prog 33 #[.int .i64 r, .agg #[.int .u8 s, .int .u8 h, .int .i64 m, .slice ga gz.length gc], .slice O B.length oc, .slice P S.length pc, .slice A lz.length lc] w fun e w' => Ansr w w' e (QV r s m gz B S lz Fx.FQ) := by
  have HB := Lib.hid (box_below w (.cells #[.int .u8 s, .int .u8 h, .int .i64 m, .slice ga gz.length gc] 50))
  obtain ⟨y0, y1, y2, y3⟩ := boxed w s h m (.slice ga gz.length gc) _ (Below.refl _ _)
  have HT := Lib.hid (quant_t r s h m ga gc gz O P A oc pc lc B S lz _ (hqs.below HB.out) (I.below HB.out) (rl.below HB.out) hf)
  clear I rl hf hqs
  go_enter Tryd.func33, Tryd.ntmps33
  go_wp2_with (go_at_call 53; ((with_reducible refine (HT.out).mono ?_); rintro e w1 ⟨g, rfl, hr, hg, hb⟩))
  go_ret2
  exact ⟨g, rfl, hr, by simp at hg; omega, belowT HB.out hb⟩
theorem quant_err (r s h m : Int) (ga : Option Addr) (gc : Nat) (gz : List Int) (O P A : Option Addr) (oc pc lc : Nat) (B S : List (List Int)) (lz : List Int) (w : World) (I : Inp w ga gz O P B S) (hll : lz.length ≤ 1000) (rl : RdA w A lz) (hf : ¬ Fine r s h m gz B S lz 268435455) :
    Calls Tryd.prog 33 #[.int .i64 r, .agg #[.int .u8 s, .int .u8 h, .int .i64 m, .slice ga gz.length gc], .slice O B.length oc, .slice P S.length pc, .slice A lz.length lc] w fun e w' => ∃ c, c ≠ 0 ∧ e = .returned (.tuple #[.slice none 0 0, .int .i64 c]) ∧ Below w.heap.size w w' := by
  have HB := Lib.hid (box_below w (.cells #[.int .u8 s, .int .u8 h, .int .i64 m, .slice ga gz.length gc] 50))
  obtain ⟨y0, y1, y2, y3⟩ := boxed w s h m (.slice ga gz.length gc) _ (Below.refl _ _)
  have HT := Lib.hid (turned_err r s h m ga gc gz O P A oc pc lc B S lz 268435455 19 _ (I.below HB.out) hll (rl.below HB.out) (by decide) (by decide) hf)
  clear I rl hf hll
  go_enter Tryd.func33, Tryd.ntmps33
  go_wp2_with (go_at_call 53; ((with_reducible refine (HT.out).mono ?_); rintro e w1 ⟨c, hc, rfl, hb⟩))
  go_ret2
  exact ⟨c, hc, rfl, belowT HB.out hb⟩
end Go.Proofs.YtanjcbnkkhbkkaaDoor.Qn

/- Which lists are great; how far two numbers are apart. -/
namespace Go.Proofs.YtanjcbnkkhbkkaaDoor.Qn
open Go Go.ChangeShapes Go.WideShapes Go.ChangeAt Go.RowKit Go.Proofs.YtanjcbnkkhbkkaaDoor.If Go.Proofs.YtanjcbnkkhbkkaaDoor.Bd

def far (a b : Int) : Int := if b - a ≤ a - b then a - b else b - a
theorem far_ok40 (a b : Int) (w : World) (a0 : -1099511627776 ≤ a) (a1 : a ≤ 1099511627776) (b0 : -1099511627776 ≤ b) (b1 : b ≤ 1099511627776) : Calls Tryd.prog 40 #[.int .i64 a, .int .i64 b] w fun e w' => e = .returned (.int .i64 (far a b)) ∧ w = w' := by
  have e1 : IntKind.i64.wrap (a - b) = a - b := Fx.i64_in (by omega) (by omega)
  have e2 : IntKind.i64.wrap (b - a) = b - a := Fx.i64_in (by omega) (by omega)
  unfold far
  by_cases h : b - a ≤ a - b
  · rw [if_pos h]
    have h2 : ¬ a - b < b - a := by omega
    go_enter Tryd.func40, Tryd.ntmps40
    go_wp2
    go_ret
    exact ⟨rfl, rfl⟩
  · rw [if_neg h]
    have h2 : a - b < b - a := by omega
    go_enter Tryd.func40, Tryd.ntmps40
    go_wp2
    go_ret
    exact ⟨rfl, rfl⟩

/-- How many numbers lists of lists hold. -/
def sm (z : List (List Int)) : Nat := z.foldl (fun n l => n + min l.length 10000) 0
theorem sm_succ (z : List (List Int)) (k : Nat) (h : k < z.length) : sm (z.take (k + 1)) = sm (z.take k) + min (z.getD k []).length 10000 := by
  unfold sm
  rw [List.take_succ_eq_append_getElem h, List.foldl_append]
  simp [h]
theorem sm_le (z : List (List Int)) : ∀ k, k ≤ z.length → sm (z.take k) ≤ 10000 * k
  | 0, _ => by simp [sm]
  | k + 1, h => by
    have := sm_le z k (by omega)
    rw [sm_succ z k (by omega)]
    omega
theorem sm_all (z : List (List Int)) : sm (z.take z.length) = sm z := by rw [List.take_length]
/-- Are lists great? -/
def grt (gl : Nat) (B S : List (List Int)) (ll : Nat) : Bool := decide (100 < gl) || decide (100 < B.length) || decide (100 < S.length) || decide (1000 < ll) || decide (10000 < sm B + sm S)
theorem retB2 {a b : Bool} {p : Prop} (h : a = b) (hp : p) : Ending.returned (.bool a) = .returned (.bool b) ∧ p := ⟨by rw [h], hp⟩
set_option maxRecDepth 100000 in
set_option maxHeartbeats 2000000 in
theorem great_ok (s h m : Int) (ga : Option Addr) (gc : Nat) (gz : List Int) (O P A : Option Addr) (oc pc lc ll : Nat) (B S : List (List Int)) (w : World) (hgl : gz.length ≤ maxLen) (hB : B.length ≤ maxLen) (hS : S.length ≤ maxLen) (hL : ll ≤ maxLen) (hBr : ∀ i, i < B.length → (B.getD i []).length ≤ maxLen) (hSr : ∀ i, i < S.length → (S.getD i []).length ≤ maxLen) (rB : RdR w O B) (rS : RdR w P S) :
    Calls Tryd.prog 29 #[.agg #[.int .u8 s, .int .u8 h, .int .i64 m, .slice ga gz.length gc], .slice O B.length oc, .slice P S.length pc, .slice A ll lc] w fun e w' => e = .returned (.bool (grt gz.length B S ll)) ∧ Below w.heap.size w w' := by
  have HB := Lib.hid (box_below w (.cells #[.int .u8 s, .int .u8 h, .int .i64 m, .slice ga gz.length gc] 50))
  obtain ⟨y0, y1, y2, y3⟩ := boxed w s h m (.slice ga gz.length gc) _ (Below.refl _ _)
  have HRB := Lib.hid (rB.below HB.out)
  have HRS := Lib.hid (rS.below HB.out)
  have HBR := Lib.hid hBr
  have HSR := Lib.hid hSr
  clear rB rS hBr hSr
  unfold maxLen at hgl hB hS hL
  by_cases c1 : 100 < gz.length
  · rw [show grt gz.length B S ll = true by simp [grt, c1]]
    go_enter Tryd.func29, Tryd.ntmps29
    go_wp2
    go_ret
    exact ⟨rfl, HB.out⟩
  by_cases c2 : 100 < B.length
  · rw [show grt gz.length B S ll = true by simp [grt, c2]]
    go_enter Tryd.func29, Tryd.ntmps29
    go_wp2
    go_ret
    exact ⟨rfl, HB.out⟩
  by_cases c3 : 100 < S.length
  · rw [show grt gz.length B S ll = true by simp [grt, c3]]
    go_enter Tryd.func29, Tryd.ntmps29
    go_wp2
    go_ret
    exact ⟨rfl, HB.out⟩
  by_cases c4 : 1000 < ll
  · rw [show grt gz.length B S ll = true by simp [grt, c4]]
    go_enter Tryd.func29, Tryd.ntmps29
    go_wp2
    go_ret
    exact ⟨rfl, HB.out⟩
  have HG := Lib.hid (show grt gz.length B S ll = decide (10000 < sm B + sm S) by simp [grt, c1, c2, c3, c4])
  have d1 : gz.length ≤ 100 := by omega
  have d2 : B.length ≤ 100 := by omega
  have d3 : S.length ≤ 100 := by omega
  have d4 : ll ≤ 1000 := by omega
  have bB := sm_le B B.length (Nat.le_refl _)
  rw [sm_all] at bB
  clear hgl hB hS hL
  rw [HG.out]
  go_enter Tryd.func29, Tryd.ntmps29
  go_wp2
  go_loop [9, 10] (fun n i => ∃ k : Nat, k ≤ B.length ∧ i = .int .i64 k ∧ n = .int .i64 ((sm (B.take k) : Nat) : Int)) (fun _ i => B.length - (intOf i).toNat)
  case atStart => exact ⟨0, by omega, rfl, rfl⟩
  case round =>
    obtain ⟨k, hk, rfl, rfl⟩ := hrel
    by_cases hlt : k < B.length
    · obtain ⟨b, off, a, c, e, lb, cR, rd⟩ := HRB.out k hlt
      subst e
      have hml := HBR.out k hlt
      have hlt' : (k : Int) < (B.length : Int) := by omega
      have hsl := sm_le B k hk
      have hss := sm_succ B k hlt
      generalize (B.getD k []).length = Ln at *
      generalize sm (B.take k) = V at *
      obtain ⟨V2, hV2⟩ : ∃ V2, sm (B.take (k + 1)) = V2 := ⟨_, rfl⟩
      rw [hV2] at hss
      have HV2 := Lib.hid hV2
      clear hV2
      unfold maxLen at hml
      by_cases hm : Ln ≤ 10000
      · have e1 : IntKind.i64.wrap ((V : Int) + (Ln : Int)) = (V2 : Int) := by rw [Fx.i64_in (by omega) (by omega)]; omega
        clear hss
        go_wp2
        go_round
        case rel => exact ⟨k + 1, by omega, by go_num, by rw [HV2.out]⟩
        case measure => simp [intOf]; omega
      · have e1 : IntKind.i64.wrap ((V : Int) + 10000) = (V2 : Int) := by rw [Fx.i64_in (by omega) (by omega)]; omega
        clear hss
        go_wp2
        go_round
        case rel => exact ⟨k + 1, by omega, by go_num, by rw [HV2.out]⟩
        case measure => simp [intOf]; omega
    · obtain rfl : k = B.length := by omega
      rw [sm_all]
      go_wp2
      go_loop [9, 11] (fun n i => ∃ k : Nat, k ≤ S.length ∧ i = .int .i64 k ∧ n = .int .i64 ((sm B + sm (S.take k) : Nat) : Int)) (fun _ i => S.length - (intOf i).toNat)
      case atStart => exact ⟨0, by omega, rfl, rfl⟩
      case round =>
        obtain ⟨k, hk, rfl, rfl⟩ := hrel
        by_cases hlt : k < S.length
        · obtain ⟨b, off, a, c, e, lb, cR, rd⟩ := HRS.out k hlt
          subst e
          have hml := HSR.out k hlt
          have hlt' : (k : Int) < (S.length : Int) := by omega
          have hsl := sm_le S k hk
          have hss := sm_succ S k hlt
          generalize (S.getD k []).length = Ln at *
          generalize sm (S.take k) = V at *
          obtain ⟨V2, hV2⟩ : ∃ V2, sm (S.take (k + 1)) = V2 := ⟨_, rfl⟩
          rw [hV2] at hss
          have HV2 := Lib.hid hV2
          clear hV2
          obtain ⟨V3, hV3⟩ : ∃ V3, sm B + V = V3 := ⟨_, rfl⟩
          have hV4 := Lib.hid (show sm B + V2 = V3 + min Ln 10000 by omega)
          rw [hV3]
          unfold maxLen at hml
          have hV5 : V3 ≤ 2000000 := by omega
          clear hss hV3
          by_cases hm : Ln ≤ 10000
          · have e1 : IntKind.i64.wrap ((V3 : Int) + (Ln : Int)) = ((V3 + Ln : Nat) : Int) := by rw [Fx.i64_in (by omega) (by omega)]; omega
            go_wp2
            go_round
            case rel => exact ⟨k + 1, by omega, by go_num, by rw [HV2.out, hV4.out, Nat.min_eq_left hm]; first | rfl | go_num⟩
            case measure => simp [intOf]; omega
          · have e1 : IntKind.i64.wrap ((V3 : Int) + 10000) = ((V3 + 10000 : Nat) : Int) := by rw [Fx.i64_in (by omega) (by omega)]; omega
            go_wp2
            go_round
            case rel => exact ⟨k + 1, by omega, by go_num, by rw [HV2.out, hV4.out, Nat.min_eq_right (by omega)]; first | rfl | go_num⟩
            case measure => simp [intOf]; omega
        · obtain rfl : k = S.length := by omega
          rw [sm_all]
          obtain ⟨V, hV⟩ : ∃ V, sm B + sm S = V := ⟨_, rfl⟩
          have HV := Lib.hid hV
          rw [hV]
          clear hV
          go_wp2
          go_ret
          exact retB2 (by rw [HV.out]; simp; omega) HB.out
theorem grt_no {gl ll : Nat} {B S : List (List Int)} (h : grt gl B S ll = false) : gl ≤ 100 ∧ B.length ≤ 100 ∧ S.length ≤ 100 ∧ ll ≤ 1000 := by
  simp only [grt, Bool.or_eq_false_iff, decide_eq_false_iff_not] at h
  omega
end Go.Proofs.YtanjcbnkkhbkkaaDoor.Qn

/- Lists of lists, as they come in, taken apart. -/
namespace Go.Proofs.YtanjcbnkkhbkkaaDoor.Qn
open Go Go.Ev Go.ChangeShapes Go.WideShapes Go.RowKit Go.Deep Go.Proofs.YtanjcbnkkhbkkaaDoor.If

/-- A list of lists that came in. -/
structure Rws (w : World) (a : Option Addr) (len cap : Nat) (z : List (List Int)) : Prop where
  ln : z.length = len
  rd : RdR w a z
  mx : ∀ i, i < z.length → (z.getD i []).length ≤ maxLen
  le : len ≤ maxLen
theorem cell_in' {w : World} {a : Addr} {v : Value} (h : w.cell? a = some v) : a.block < w.heap.size := World.block_lt_of_cell? w a h
theorem rda_of {w : World} {A : Option Addr} {C : Nat} {Z : List Int} (hl : Z.length = C) (h0 : A = none → C = 0) (hc : ∀ a', A = some a' → ∀ c, c < C → w.cell? (a'.add c) = some (.int .i64 (Z.getD c 0))) (L : Nat) (hL : L ≤ C) : RdA w A (Z.take L) := by
  intro i hi
  have hi' : i < L ∧ i < C := by simp at hi; omega
  cases A with
  | none => have := h0 rfl; omega
  | some a' =>
    obtain ⟨b, off, sub⟩ := a'
    have q := hc _ rfl i hi'.2
    have hs : sub = none := by simpa [Addr.add] using World.cell?_spot (hc _ rfl 0 (by omega))
    subst hs
    rw [Go.WideShapes.add_plain] at q
    refine ⟨b, off, rfl, cell_in' q, ?_⟩
    rw [q]
    simp [hi'.1]
variable {H : Type} {enc : TypeId × Value → H} {P : Program} {W : World}
theorem open_rows {t e q : TypeId} {a : Option Addr} {len cap : Nat} {d : DataW H} {p : List MemPlace} (ht : P.underlying t = some (.slice e)) (he : P.underlying e = some (.slice q)) (hq : P.underlying q = some (.int .i64))
    (ce : P.cellsOf e = 1) (cq : P.cellsOf q = 1) (h : DataW.Trod enc P W 0 (fun _ => true) true t (.slice a len cap) d p) : ∃ z, Rws W a len cap z := by
  obtain ⟨fuel, hf⟩ := h
  rcases open_int_rows ht he hq ce cq hf with ⟨hcs, _⟩ | ⟨a', l', c', A, L, C, Z, hcs, _, hl, hm, _, hx⟩
  · simp [Value.cells] at hcs
    obtain ⟨rfl, rfl, rfl⟩ := hcs
    exact ⟨[], rfl, fun i hi => by simp at hi, fun i hi => by simp at hi, Nat.zero_le _⟩
  · simp [Value.cells] at hcs
    obtain ⟨rfl, rfl, rfl⟩ := hcs
    refine ⟨(List.range len).map fun r => (Z r).take (L r), by simp, fun i hi => ?_, fun i hi => ?_, by omega⟩
    · have hi' : i < len := by simpa using hi
      obtain ⟨x0, x1, x2, x3, _, x5, x6⟩ := hx i (by omega)
      have e : ((List.range len).map fun r => (Z r).take (L r)).getD i [] = (Z i).take (L i) := by simp [hi']
      rw [e]
      have el : ((Z i).take (L i)).length = L i := by simp; omega
      obtain ⟨b, off, sub⟩ := a'
      have hs : sub = none := by simpa [Addr.add] using World.cell?_spot (hx 0 (by omega)).1
      subst hs
      rw [Go.WideShapes.add_plain] at x0
      refine ⟨b, off, A i, C i, rfl, cell_in' x0, by rw [el]; exact x0, rda_of x3 x5 (fun a' ha => (x6 a' ha).2) _ x1⟩
    · have hi' : i < len := by simpa using hi
      obtain ⟨x0, x1, x2, x3, _⟩ := hx i (by omega)
      have e : ((List.range len).map fun r => (Z r).take (L r)).getD i [] = (Z i).take (L i) := by simp [hi']
      rw [e]
      simp; omega
/-- A slice of numbers that came in. -/
def IsRow (k : IntKind) (w : World) (a : Option Addr) (len cap : Nat) (zs : List Int) : Prop :=
  (a = none ∧ len = 0 ∧ cap = 0 ∧ zs = []) ∨ ∃ x, a = some x ∧ len ≤ cap ∧ cap ≤ maxLen ∧ zs.length = cap ∧ (∀ i, i < zs.length → w.cell? (x.add i) = some (.int k (zs.getD i 0))) ∧ ∀ n ∈ zs, (Lit.int k n).wf = true
theorem row_rd {w : World} {a : Option Addr} {len cap : Nat} {zs : List Int} (h : IsRow .i64 w a len cap zs) : ∃ z : List Int, z.length = len ∧ RdA w a z ∧ len ≤ maxLen := by
  rcases h with ⟨rfl, rfl, rfl, rfl⟩ | ⟨x, rfl, hl, hm, hz, hc, _⟩
  · exact ⟨[], rfl, fun i hi => by simp at hi, by unfold maxLen; omega⟩
  · exact ⟨zs.take len, by simp; omega, rda_of (C := cap) hz (fun e => by cases e) (fun a' e c hcc => by cases e; exact hc c (by omega)) len hl, by omega⟩
theorem rowa_rd {w : World} {a : Option Addr} {zs : List Int} (h : RowA .i64 w a zs) : RdA w a zs := h
end Go.Proofs.YtanjcbnkkhbkkaaDoor.Qn

/- Lines there and back: the numbers. -/
namespace Go.Proofs.YtanjcbnkkhbkkaaDoor.Qn
open Go Go.RowKit Go.Proofs.YtanjcbnkkhbkkaaDoor.If Go.Proofs.YtanjcbnkkhbkkaaDoor.Bd Go.Proofs.YtanjcbnkkhbkkaaDoor.Fx

def mkq (F : Nat → Int) : List Int := (List.range 256).map F
theorem mkq_len (F : Nat → Int) : (mkq F).length = 256 := by simp [mkq]
theorem mkq_get (F : Nat → Int) {j : Nat} (h : j < 256) : (mkq F).getD j 0 = F j := by simp [mkq, h]
theorem rda_row {w : World} {g : Nat} {F : Nat → Int} (h : w.rowIs g 3 256 (fun j => .int .i64 (F j))) : RdA w (some ⟨g, 0, none⟩) (mkq F) := fun i hi => by
  rw [mkq_len] at hi
  exact ⟨g, 0, rfl, h.lt, by rw [Nat.zero_add, h.cell hi, mkq_get F hi]⟩
open Classical in
/-- What becomes of one line. -/
noncomputable def st (c : Prop) (f : Int → Int → Int) (x T : Int) : Int := if x ≠ 0 ∧ c then f x T else 0
/-- Is a line sent? -/
def Cn (r s m : Int) (gz : List Int) (B : List (List Int)) (k : Nat) : Prop := (bk r s k : Int) < m ∧ snt ((B.getD (gk s gz k) []).getD (bk r s k) 0) = true
noncomputable def stp (r s : Int) (gz : List Int) (S : List (List Int)) (k : Nat) : Int := (S.getD (gk s gz k) []).getD (bk r s k) 0
theorem qv_st (r s m : Int) (gz : List Int) (B S : List (List Int)) (l : List Int) (f : Int → Int → Int) (k : Nat) : QV r s m gz B S l f k = st (Cn r s m gz B k) f (l.getD k 0) (stp r s gz S k) := by
  unfold QV qv st Cn stp
  by_cases h : l.getD k 0 ≠ 0 ∧ (bk r s k : Int) < m ∧ snt ((B.getD (gk s gz k) []).getD (bk r s k) 0) = true
  · rw [if_pos h, if_pos ⟨h.1, h.2.1, h.2.2⟩]
  · rw [if_neg h, if_neg (fun h' => h ⟨h'.1, h'.2.1, h'.2.2⟩)]
theorem step_in {r s h m : Int} {gz : List Int} {B S : List (List Int)} (hq : QE r s h m gz B S 0) {k : Nat} (hk : k < 256) (c : Cn r s m gz B k) : 0 ≤ stp r s gz S k ∧ stp r s gz S k ≤ 255 := by
  obtain ⟨hck, hBl, hSl, hBm, hSm, hnb⟩ := qe_zero hq
  have hg := gk_lt hck hk
  have hb := hnb (gk s gz k) (bk r s k) (by omega) (by have := hBm _ (show gk s gz k < B.length by omega); have := c.1; omega)
  unfold stp
  have hs := c.2
  unfold badP at hb
  generalize (B.getD (gk s gz k) []).getD (bk r s k) 0 = V at *
  generalize (S.getD (gk s gz k) []).getD (bk r s k) 0 = T at *
  exact Classical.byContradiction fun hn => hb (.inr (.inr ⟨hs, by omega⟩))
theorem LN_zero {s : Int} (hs : 0 ≤ s) : Fx.LN 0 s = 0 := by rw [LN_pos (by omega), ln_zero hs]
theorem st_not {c : Prop} (h : ¬ c) (f : Int → Int → Int) (x T : Int) : st c f x T = 0 := by unfold st; rw [if_neg (fun h' => h h'.2)]
theorem st_zero (c : Prop) (f : Int → Int → Int) (T : Int) : st c f 0 T = 0 := by unfold st; rw [if_neg (fun h' => h'.1 rfl)]
theorem st_fl {c : Prop} (h : c) {q T : Int} (t0 : 0 ≤ T) (t1 : T ≤ 255) (q0 : -8191 ≤ q) (q1 : q ≤ 8191) : st c FL q T = Fx.LN q T := by
  by_cases hq : q = 0
  · subst hq; rw [st_zero, LN_zero t0]
  · unfold st
    rw [if_pos ⟨hq, h⟩, (FL_ok (by unfold badL; omega)).1]
theorem st_fq {c : Prop} (h : c) {x T : Int} (t0 : 0 ≤ T) (t1 : T ≤ 255) (x0 : -268435455 ≤ x) (x1 : x ≤ 268435455) (hx : x ≠ 0) : st c FQ x T = NQ x T := by
  unfold st
  rw [if_pos ⟨hx, h⟩, (FQ_ok (by unfold badQ; omega)).1]
theorem st_fq_bd {c : Prop} {x T : Int} (ht : c → 0 ≤ T ∧ T ≤ 255) (x0 : -268435455 ≤ x) (x1 : x ≤ 268435455) : -8191 ≤ st c FQ x T ∧ st c FQ x T ≤ 8191 := by
  by_cases h : c
  · by_cases hx : x = 0
    · subst hx; rw [st_zero]; omega
    · rw [st_fq h (ht h).1 (ht h).2 x0 x1 hx]; exact NQ_bd x T
  · rw [st_not h]; omega
theorem st_fl_bd {c : Prop} {q T : Int} (ht : c → 0 ≤ T ∧ T ≤ 255) (q0 : -8191 ≤ q) (q1 : q ≤ 8191) : -268435455 ≤ st c FL q T ∧ st c FL q T ≤ 268435455 := by
  by_cases h : c
  · rw [st_fl h (ht h).1 (ht h).2 q0 q1]; exact LN_bd (ht h).1
  · rw [st_not h]; omega
/-- Quantised again: the same line. -/
theorem st_again {c : Prop} {x T : Int} (ht : c → 0 ≤ T ∧ T ≤ 255) (x0 : -268435455 ≤ x) (x1 : x ≤ 268435455) : st c FL (st c FQ (st c FL (st c FQ x T) T) T) T = st c FL (st c FQ x T) T := by
  by_cases h : c
  · obtain ⟨t0, t1⟩ := ht h
    have hb := st_fq_bd ht x0 x1
    generalize st c FQ x T = q at *
    obtain ⟨q0, q1⟩ := hb
    have ha := LN_bd (q := q) t0
    rw [st_fl h t0 t1 q0 q1]
    by_cases hz : Fx.LN q T = 0
    · rw [hz, st_zero, st_zero]
    · rw [st_fq h t0 t1 ha.1 ha.2 hz, st_fl h t0 t1 (NQ_bd _ _).1 (NQ_bd _ _).2]
      exact nearS_again t0 (NQ_is (Fx.LN q T) T) q0 q1 rfl
  · rw [st_not h, st_not h]
/-- No other line is nearer. -/
theorem st_near {c : Prop} {x T o : Int} (ht : c → 0 ≤ T ∧ T ≤ 255) (x0 : -268435455 ≤ x) (x1 : x ≤ 268435455) (o0 : -8191 ≤ o) (o1 : o ≤ 8191) : ¬ far x (st c FL o T) < far x (st c FL (st c FQ x T) T) := by
  by_cases h : c
  · obtain ⟨t0, t1⟩ := ht h
    by_cases hx : x = 0
    · subst hx
      rw [st_zero, st_zero]
      unfold far
      split <;> (try split) <;> omega
    · rw [st_fq h t0 t1 x0 x1 hx, st_fl h t0 t1 (NQ_bd _ _).1 (NQ_bd _ _).2, st_fl h t0 t1 o0 o1]
      have := nearS_best t0 (NQ_is x T) o0 o1
      unfold far
      split <;> (try split) <;> omega
  · rw [st_not h, st_not h]
    unfold far
    split <;> omega
/-- Another quantised line. -/
def oth (q by' : Int) : Int := max (min (q + by') 8191) (-8191)
theorem oth_bd (q b : Int) : -8191 ≤ oth q b ∧ oth q b ≤ 8191 := by unfold oth; omega
end Go.Proofs.YtanjcbnkkhbkkaaDoor.Qn

/- What band's and the document's own calls do. -/
namespace Go.Proofs.YtanjcbnkkhbkkaaDoor.Bd
open Go Go.ChangeShapes Go.WideShapes Go.ChangeAt Go.RowKit Go.Proofs.YtanjcbnkkhbkkaaDoor.Lo

set_option maxRecDepth 100000 in
/-- Two lists that are the same. -/
theorem lines_f (w : World) : Calls Tryd.prog 86 #[.bool false] w fun e w' => e = .returned (.int .i64 256) ∧ w = w' := by
  go_enter Tryd.func86, Tryd.ntmps86
  go_wp2
  go_ret
  exact ⟨rfl, rfl⟩
theorem lines_t (w : World) : Calls Tryd.prog 86 #[.bool true] w fun e w' => e = .returned (.int .i64 32) ∧ w = w' := by
  go_enter Tryd.func86, Tryd.ntmps86
  go_wp2
  go_ret
  exact ⟨rfl, rfl⟩
theorem lines_fq (w : World) : Calls Tryd.prog 86 #[.bool false] w fun e w' => e = .returned (.int .i64 256) ∧ w' = w := (lines_f w).mono fun _ _ h => ⟨h.1, h.2.symm⟩
theorem lines_tq (w : World) : Calls Tryd.prog 86 #[.bool true] w fun e w' => e = .returned (.int .i64 32) ∧ w' = w := (lines_t w).mono fun _ _ h => ⟨h.1, h.2.symm⟩
theorem wide_false (r q a : Int) (w : World) (hq : Int.tdiv (11 - r) 2 = q) (r0 : 0 ≤ r) (r1 : r ≤ 11) (q0 : 0 ≤ q) (q1 : q ≤ 5) (a0 : 0 ≤ a) (a1 : a < 256) :
    Calls Tryd.prog 87 #[.int .i64 r, .bool false, .int .i64 a] w fun e w' => e = .returned (.int .i64 (nxt (3 + q) 256 256 a - a)) ∧ Below w.heap.size w w' := by
  obtain ⟨p0, p1, t0, t1, n0, n1, n2⟩ := nxt_bd (k := 3 + q) (U := 256) (N := 256) (by omega) (by omega) (by omega) a0 a1 (by omega)
  clear n0 n1 n2
  unfold nxt
  obtain ⟨p, hpp⟩ : ∃ p, a * (3 + q) = p := ⟨_, rfl⟩
  rw [hpp] at p0 p1 t0 t1 ⊢
  obtain ⟨t, htt⟩ : ∃ t, Int.tdiv p 256 = t := ⟨_, rfl⟩
  rw [htt] at t0 t1 ⊢
  go_enter Tryd.func87, Tryd.ntmps87
  go_wp2
  go_quiet (exact Calls.quiet_of_same (lines_fq _))
  go_wp2
  all_goals
    go_ret
    exact ⟨retI (by first | omega | (split <;> omega)), drewN_below _ _⟩
theorem wide_true (r q a : Int) (w : World) (hq : Int.tdiv (11 - r) 2 = q) (r0 : 0 ≤ r) (r1 : r ≤ 11) (q0 : 0 ≤ q) (q1 : q ≤ 5) (a0 : 0 ≤ a) (a1 : a < 32) :
    Calls Tryd.prog 87 #[.int .i64 r, .bool true, .int .i64 a] w fun e w' => e = .returned (.int .i64 (nxt (3 + q) 64 32 a - a)) ∧ Below w.heap.size w w' := by
  obtain ⟨p0, p1, t0, t1, n0, n1, n2⟩ := nxt_bd (k := 3 + q) (U := 64) (N := 32) (by omega) (by omega) (by omega) a0 a1 (by omega)
  clear n0 n1 n2
  unfold nxt
  obtain ⟨p, hpp⟩ : ∃ p, a * (3 + q) = p := ⟨_, rfl⟩
  rw [hpp] at p0 p1 t0 t1 ⊢
  obtain ⟨t, htt⟩ : ∃ t, Int.tdiv p 64 = t := ⟨_, rfl⟩
  rw [htt] at t0 t1 ⊢
  go_enter Tryd.func87, Tryd.ntmps87
  go_wp2
  go_quiet (exact Calls.quiet_of_same (lines_tq _))
  go_wp2
  all_goals
    go_ret
    exact ⟨retI (by first | omega | (split <;> omega)), drewN_below _ _⟩
end Go.Proofs.YtanjcbnkkhbkkaaDoor.Bd

/- What the document's own Offsets does, and what is told of bands and lines. -/
namespace Go.Proofs.YtanjcbnkkhbkkaaDoor.Bd
open Go Go.ChangeShapes Go.WideShapes Go.ChangeAt Go.RowKit Go.Proofs.YtanjcbnkkhbkkaaDoor.Lo

set_option maxRecDepth 100000 in
set_option maxHeartbeats 2000000 in
theorem roff_false (r q : Int) (w : World) (hq : Int.tdiv (11 - r) 2 = q) (r0 : 0 ≤ r) (r1 : r ≤ 11) (q0 : 0 ≤ q) (q1 : q ≤ 5) :
    Calls Tryd.prog 77 #[.int .i64 r, .bool false] w fun e w' => ∃ v, e = .returned v ∧ Own w.heap.size w' v (offs (3 + q) 256 256 66 0) ∧ Below w.heap.size w w' := by
  obtain ⟨i0, hi, hz0, hz1, hz2⟩ := info_parts info3
  have hm := own_made w 0
  have hbm : Below w.heap.size w (w.alloc (.cells #[.int .i64 0] 3)) := (Below.refl _ _).alloc (Nat.le_refl _) _
  have Hq := Lib.hid hq
  clear hq
  go_enter Tryd.func77, Tryd.ntmps77
  go_wp2
  go_loopw [5, 6] (fun v x wr => ∃ (f : Nat) (a : Int) (pre : List Int), x = .int .i64 a ∧ Own w.heap.size wr v (pre ++ [a]) ∧ Hid (pre ++ offs (3 + q) 256 256 f a = offs (3 + q) 256 256 66 0) ∧ 0 ≤ a ∧ a ≤ 256 ∧ 256 - a + 4 ≤ 4 * f ∧ pre.length + f ≤ 66 ∧ Below w.heap.size w wr) (fun _ x _ => (256 - intO x).toNat)
  case atStart => exact ⟨66, 0, [], rfl, hm, Lib.hid rfl, by omega, by omega, by omega, by simp, hbm⟩
  case round =>
    obtain ⟨f, a, pre, rfl, hown, hL, a0, a1, hf, hp, hbel⟩ := hrel
    obtain ⟨f, rfl⟩ : ∃ f', f = f' + 1 := ⟨f - 1, by omega⟩
    have hle : w.heap.size ≤ wr.heap.size := hbel.size
    by_cases hlt : a < 256
    · obtain ⟨p0, p1, t0, t1, n0, n1, n2⟩ := nxt_bd (k := 3 + q) (U := 256) (N := 256) (by omega) (by omega) (by omega) a0 hlt (by omega)
      clear p0 p1 t0 t1
      have hL' := hL.out
      rw [offs_go hlt] at hL'
      have Hw := Lib.hid (fun w => wide_false r q a w Hq.out r0 r1 q0 q1 a0 hlt)
      obtain ⟨m, hm'⟩ : ∃ m, nxt (3 + q) 256 256 a = m := ⟨_, rfl⟩
      rw [hm'] at hL' n0 n1 n2 Hw
      have HL := Lib.hid hL'
      clear hL hL' hm'
      go_wp2_with (first
        | (go_at_call 86; ((with_reducible refine (lines_f _).mono ?_); rintro e w5 ⟨rfl, rfl⟩))
        | (go_at_call 87; ((with_reducible refine (Hw.out _).mono ?_); rintro e w6 ⟨rfl, hb6⟩; have hown6 := hown.below hb6; have hbel6 := belowT hbel hb6; have hle6 : w.heap.size ≤ w6.heap.size := hbel6.size))
        | (at_builtin; refine wpList_append_own _ rfl (.tmp 18) (.tmp 20) 39 rfl w.heap.size 3 i0 (.int .i64 0) 1 8 Tryd.underlying39 hi hz0 hz1 hz2 rfl (by decide) _ _ _ rfl (World.ownsRow.alloc hown6 _) ⟨w6.heap.size, 0, none⟩ 1 1 [.int .i64 (a + (m - a))] rfl rfl ?c1 ?c2 ?c3 ?c4 ?c5 ?_))
      first
      | case c1 =>
          intro j u hj
          match j, hj with
          | 0, hj => simp at hj; subst hj; simp [Addr.add]
      | skip
      case c2 => intro u hu; simp at hu; subst hu; rfl
      case c3 => unfold maxLen; first | omega | (simp; done) | (simp; omega)
      case c4 => first | omega | (simp; done) | (simp; omega)
      case c5 => first | omega | (simp; done) | (simp; omega)
      intro v2 w2 hown2 hgrow2 _
      rw [show a + (m - a) = m by omega] at hown2
      have ho2 : Own w.heap.size w2 v2 (pre ++ [a, m]) := own_push2 hown2
      have hb2 : Below w.heap.size w w2 := below_grown (hbel6.alloc hle6 _) (hown6.alloc _) (Nat.le_refl _) hgrow2
      go_wp2
      go_roundw
      case rel => exact ⟨f, a + (m - a), pre ++ [a], rfl, by rw [show a + (m - a) = m by omega, List.append_assoc]; exact ho2, Lib.hid (by rw [show a + (m - a) = m by omega, List.append_assoc]; exact HL.out), by omega, by omega, by omega, by simp; omega, hb2⟩
      case measure => simp [intO]; omega
    · obtain rfl : a = 256 := by omega
      have hL' := hL.out
      rw [offs_end] at hL'
      rw [hL'] at hown
      go_wp2_with (go_at_call 86; ((with_reducible refine (lines_f _).mono ?_); rintro e w5 ⟨rfl, rfl⟩))
      go_ret
      exact ⟨_, rfl, hown, hbel⟩

set_option maxRecDepth 100000 in
set_option maxHeartbeats 2000000 in
theorem roff_true (r q : Int) (w : World) (hq : Int.tdiv (11 - r) 2 = q) (r0 : 0 ≤ r) (r1 : r ≤ 11) (q0 : 0 ≤ q) (q1 : q ≤ 5) :
    Calls Tryd.prog 77 #[.int .i64 r, .bool true] w fun e w' => ∃ v, e = .returned v ∧ Own w.heap.size w' v (offs (3 + q) 64 32 66 0) ∧ Below w.heap.size w w' := by
  obtain ⟨i0, hi, hz0, hz1, hz2⟩ := info_parts info3
  have hm := own_made w 0
  have hbm : Below w.heap.size w (w.alloc (.cells #[.int .i64 0] 3)) := (Below.refl _ _).alloc (Nat.le_refl _) _
  have Hq := Lib.hid hq
  clear hq
  go_enter Tryd.func77, Tryd.ntmps77
  go_wp2
  go_loopw [5, 6] (fun v x wr => ∃ (f : Nat) (a : Int) (pre : List Int), x = .int .i64 a ∧ Own w.heap.size wr v (pre ++ [a]) ∧ Hid (pre ++ offs (3 + q) 64 32 f a = offs (3 + q) 64 32 66 0) ∧ 0 ≤ a ∧ a ≤ 32 ∧ 32 - a + 4 ≤ 4 * f ∧ pre.length + f ≤ 66 ∧ Below w.heap.size w wr) (fun _ x _ => (32 - intO x).toNat)
  case atStart => exact ⟨66, 0, [], rfl, hm, Lib.hid rfl, by omega, by omega, by omega, by simp, hbm⟩
  case round =>
    obtain ⟨f, a, pre, rfl, hown, hL, a0, a1, hf, hp, hbel⟩ := hrel
    obtain ⟨f, rfl⟩ : ∃ f', f = f' + 1 := ⟨f - 1, by omega⟩
    have hle : w.heap.size ≤ wr.heap.size := hbel.size
    by_cases hlt : a < 32
    · obtain ⟨p0, p1, t0, t1, n0, n1, n2⟩ := nxt_bd (k := 3 + q) (U := 64) (N := 32) (by omega) (by omega) (by omega) a0 hlt (by omega)
      clear p0 p1 t0 t1
      have hL' := hL.out
      rw [offs_go hlt] at hL'
      have Hw := Lib.hid (fun w => wide_true r q a w Hq.out r0 r1 q0 q1 a0 hlt)
      obtain ⟨m, hm'⟩ : ∃ m, nxt (3 + q) 64 32 a = m := ⟨_, rfl⟩
      rw [hm'] at hL' n0 n1 n2 Hw
      have HL := Lib.hid hL'
      clear hL hL' hm'
      go_wp2_with (first
        | (go_at_call 86; ((with_reducible refine (lines_t _).mono ?_); rintro e w5 ⟨rfl, rfl⟩))
        | (go_at_call 87; ((with_reducible refine (Hw.out _).mono ?_); rintro e w6 ⟨rfl, hb6⟩; have hown6 := hown.below hb6; have hbel6 := belowT hbel hb6; have hle6 : w.heap.size ≤ w6.heap.size := hbel6.size))
        | (at_builtin; refine wpList_append_own _ rfl (.tmp 18) (.tmp 20) 39 rfl w.heap.size 3 i0 (.int .i64 0) 1 8 Tryd.underlying39 hi hz0 hz1 hz2 rfl (by decide) _ _ _ rfl (World.ownsRow.alloc hown6 _) ⟨w6.heap.size, 0, none⟩ 1 1 [.int .i64 (a + (m - a))] rfl rfl ?c1 ?c2 ?c3 ?c4 ?c5 ?_))
      first
      | case c1 =>
          intro j u hj
          match j, hj with
          | 0, hj => simp at hj; subst hj; simp [Addr.add]
      | skip
      case c2 => intro u hu; simp at hu; subst hu; rfl
      case c3 => unfold maxLen; first | omega | (simp; done) | (simp; omega)
      case c4 => first | omega | (simp; done) | (simp; omega)
      case c5 => first | omega | (simp; done) | (simp; omega)
      intro v2 w2 hown2 hgrow2 _
      rw [show a + (m - a) = m by omega] at hown2
      have ho2 : Own w.heap.size w2 v2 (pre ++ [a, m]) := own_push2 hown2
      have hb2 : Below w.heap.size w w2 := below_grown (hbel6.alloc hle6 _) (hown6.alloc _) (Nat.le_refl _) hgrow2
      go_wp2
      go_roundw
      case rel => exact ⟨f, a + (m - a), pre ++ [a], rfl, by rw [show a + (m - a) = m by omega, List.append_assoc]; exact ho2, Lib.hid (by rw [show a + (m - a) = m by omega, List.append_assoc]; exact HL.out), by omega, by omega, by omega, by simp; omega, hb2⟩
      case measure => simp [intO]; omega
    · obtain rfl : a = 32 := by omega
      have hL' := hL.out
      rw [offs_end] at hL'
      rw [hL'] at hown
      go_wp2_with (go_at_call 86; ((with_reducible refine (lines_t _).mono ?_); rintro e w5 ⟨rfl, rfl⟩))
      go_ret
      exact ⟨_, rfl, hown, hbel⟩

theorem roff_row (r : Int) (s : Bool) (w : World) (r0 : 0 ≤ r) (r1 : r ≤ 11) :
    Calls Tryd.prog 77 #[.int .i64 r, .bool s] w fun e w' => ∃ g cap, e = .returned (.slice (some ⟨g, 0, none⟩) (L r s).length cap) ∧ w.heap.size ≤ g ∧ Row w' g cap (L r s) ∧ Below w.heap.size w w' := by
  have hne := (fact r s r0 r1).1
  obtain ⟨q, hq⟩ : ∃ q, Int.tdiv (11 - r) 2 = q := ⟨_, rfl⟩
  have qb : 0 ≤ q ∧ q ≤ 5 := by rw [← hq, Int.tdiv_eq_ediv_of_nonneg (by omega)]; omega
  rw [L_eq r q s hq] at hne ⊢
  cases s
  · refine (roff_false r q w hq r0 r1 qb.1 qb.2).mono ?_
    rintro e w' ⟨v, rfl, ho, hb⟩
    obtain ⟨g, cap, rfl, hg, hr⟩ := Own.row ho (fun h => by rw [show (offs (3 + q) (uOf false) (nOf false) 66 0).length = 0 from h] at hne; omega)
    exact ⟨g, cap, rfl, hg, hr, hb⟩
  · refine (roff_true r q w hq r0 r1 qb.1 qb.2).mono ?_
    rintro e w' ⟨v, rfl, ho, hb⟩
    obtain ⟨g, cap, rfl, hg, hr⟩ := Own.row ho (fun h => by rw [show (offs (3 + q) (uOf true) (nOf true) 66 0).length = 0 from h] at hne; omega)
    exact ⟨g, cap, rfl, hg, hr, hb⟩

theorem told_bad (r : Int) (s : Bool) (w : World) (h : r < 0 ∨ 11 < r) :
    Calls Tryd.prog 92 #[.int .i64 r, .bool s] w fun e w' => e = .returned (.tuple #[.slice none 0 0, .int .i64 2]) ∧ w = w' := by
  by_cases h0 : r < 0
  · go_enter Tryd.func92, Tryd.ntmps92
    go_wp2
    go_ret2
    exact ⟨rfl, rfl⟩
  · have h1 : 11 < r := by omega
    clear h
    go_enter Tryd.func92, Tryd.ntmps92
    go_wp2
    go_ret2
    exact ⟨rfl, rfl⟩
theorem told_row (r : Int) (s : Bool) (w : World) (r0 : 0 ≤ r) (r1 : r ≤ 11) :
    Calls Tryd.prog 92 #[.int .i64 r, .bool s] w fun e w' => ∃ g cap, e = .returned (.tuple #[.slice (some ⟨g, 0, none⟩) (L r s).length cap, .int .i64 0]) ∧ w.heap.size ≤ g ∧ Row w' g cap (L r s) ∧ Below w.heap.size w w' := by
  go_enter Tryd.func92, Tryd.ntmps92
  go_wp2_with (go_at_call 77; ((with_reducible refine (roff_row r s _ r0 r1).mono ?_); rintro e w1 ⟨g, cap, rfl, hg, hr, hb⟩))
  go_ret2
  exact ⟨_, _, rfl, hg, hr, hb⟩

/-! ### How many bands, and which one -/
theorem rmany_bad (r : Int) (s : Bool) (w : World) (h : r < 0 ∨ 11 < r) :
    Calls Tryd.prog 91 #[.int .i64 r, .bool s] w fun e w' => e = .returned (.tuple #[.int .i64 0, .int .i64 2]) ∧ w = w' := by
  have h := Lib.hid h
  go_enter Tryd.func91, Tryd.ntmps91
  go_wp2_with (go_at_call 92; ((with_reducible refine (told_bad r s _ h.out).mono ?_); rintro e w1 ⟨rfl, rfl⟩))
  go_ret2
  exact ⟨rfl, rfl⟩
theorem rmany_ok (r : Int) (s : Bool) (w : World) (r0 : 0 ≤ r) (r1 : r ≤ 11) :
    Calls Tryd.prog 91 #[.int .i64 r, .bool s] w fun e w' => e = .returned (.tuple #[.int .i64 ((L r s).length - 1), .int .i64 0]) ∧ Below w.heap.size w w' := by
  obtain ⟨f0, f1, _⟩ := fact r s r0 r1
  go_enter Tryd.func91, Tryd.ntmps91
  go_wp2_with (go_at_call 92; ((with_reducible refine (told_row r s _ r0 r1).mono ?_); rintro e w1 ⟨g, cap, rfl, hg, hr, hb⟩))
  go_ret2
  exact ⟨rfl, hb⟩

end Go.Proofs.YtanjcbnkkhbkkaaDoor.Bd

/- Windows' groups, as numbers. -/
namespace Go.Proofs.YtanjcbnkkhbkkaaDoor.It
open Go Go.Proofs.YtanjcbnkkhbkkaaDoor.Lo Go.Proofs.YtanjcbnkkhbkkaaDoor.Bd Go.Proofs.YtanjcbnkkhbkkaaDoor.If

/-- More bands at a greater rate. -/
theorem mny_mono_n : ∀ (b : Bool) (n : Nat), n < 12 → ∀ k : Nat, k < 12 → n ≤ k → mny n b ≤ mny k b := by decide +kernel
theorem mny_mono {r q : Int} (b : Bool) (r0 : 0 ≤ r) (h : r ≤ q) (q1 : q ≤ 11) : mny r b ≤ mny q b := by
  have := mny_mono_n b r.toNat (by omega) q.toNat (by omega) (by omega)
  rwa [show ((r.toNat : Nat) : Int) = r by omega, show ((q.toNat : Nat) : Int) = q by omega] at this
/-- What may be at some rate may be at the greatest. -/
theorem chk_mono {r s h m : Int} {zs : List Int} (r0 : 0 ≤ r) (r1 : r ≤ 11) (c : chk r s h m zs = 0) : chk 11 s h m zs = 0 := by
  have hr : ¬ (r < 0 ∨ 11 < r) := by omega
  have hd : ¬ (3 < s ∨ 1 < h ∨ m < 0 ∨ mny r (s == 2) < m ∨ grp zs (win s) = false) := fun d => by rw [chk_bad hr d] at c; omega
  have hm := mny_mono (s == 2) r0 r1 (Int.le_refl 11)
  refine chk_ok (by omega) (fun d => ?_)
  rcases d with d | d | d | d | d
  · exact hd (.inl d)
  · exact hd (.inr (.inl d))
  · exact hd (.inr (.inr (.inl d)))
  · exact hd (.inr (.inr (.inr (.inl (by omega)))))
  · exact hd (.inr (.inr (.inr (.inr d))))
theorem chk_two {r s h m : Int} {zs : List Int} (r0 : 0 ≤ r) (r1 : r ≤ 11) : chk r s h m zs = 0 ∨ chk r s h m zs = 8 := by
  by_cases d : (3 < s ∨ 1 < h ∨ m < 0 ∨ mny r (s == 2) < m ∨ grp zs (win s) = false)
  · exact .inr (chk_bad (by omega) d)
  · exact .inl (chk_ok (by omega) d)
theorem grp_zero {zs : List Int} : grp zs 0 = true ↔ zs = [] := by
  cases zs with
  | nil => simp [grp]
  | cons n zs => simp only [grp]; rw [if_pos (by omega)]; simp
theorem grp_one {zs : List Int} : grp zs 1 = true ↔ zs = [1] := by
  cases zs with
  | nil => simp [grp]
  | cons n zs =>
    simp only [grp]
    by_cases c : n < 1 ∨ 1 < n
    · rw [if_pos c]; simp; omega
    · rw [if_neg c, show (1 : Int) - n = 0 by omega, grp_zero]
      have : n = 1 := by omega
      subst this
      simp
/-- Each window's group. -/
def ins : Nat → List Int → List Int
  | _, [] => []
  | g, n :: zs => List.replicate n.toNat (g : Int) ++ ins (g + 1) zs
theorem ins_at {zs : List Int} {k : Nat} (h : k < zs.length) (g : Nat) : ins g (zs.drop k) = List.replicate (zs.getD k 0).toNat (g : Int) ++ ins (g + 1) (zs.drop (k + 1)) := by
  rw [List.drop_eq_getElem_cons h, ins]
  simp [h]
theorem grp_cons {n l : Int} {zs : List Int} (h : grp (n :: zs) l = true) : 1 ≤ n ∧ n ≤ l ∧ grp zs (l - n) = true := by
  simp only [grp] at h
  by_cases c : n < 1 ∨ l < n
  · rw [if_pos c] at h; simp at h
  · rw [if_neg c] at h; exact ⟨by omega, by omega, h⟩
theorem ins_len : ∀ (zs : List Int) (l : Int) (g : Nat), grp zs l = true → ((ins g zs).length : Int) = l
  | [], l, g, h => by simp [grp] at h; simp [ins, h]
  | n :: zs, l, g, h => by
    obtain ⟨a, b, c⟩ := grp_cons h
    have := ins_len zs (l - n) (g + 1) c
    simp only [ins, List.length_append, List.length_replicate]
    omega
theorem ins_get : ∀ (zs : List Int) (l x : Int) (g : Nat), grp zs l = true → 0 ≤ x → x < l → (ins g zs).getD x.toNat 0 = g + gof zs x
  | [], l, x, g, h, x0, x1 => by simp [grp] at h; omega
  | n :: zs, l, x, g, h, x0, x1 => by
    obtain ⟨a, b, c⟩ := grp_cons h
    simp only [ins, gof]
    by_cases d : n ≤ x
    · rw [if_pos d]
      have ih := ins_get zs (l - n) (x - n) (g + 1) c (by omega) (by omega)
      rw [List.getD_eq_getElem?_getD, List.getElem?_append_right (by simp; omega), ← List.getD_eq_getElem?_getD]
      simp only [List.length_replicate]
      rw [show x.toNat - n.toNat = (x - n).toNat by omega, ih]
      push_cast; omega
    · rw [if_neg d]
      rw [List.getD_eq_getElem?_getD, List.getElem?_append_left (by simp; omega)]
      rw [List.getElem?_replicate, if_pos (by omega)]
      simp
end Go.Proofs.YtanjcbnkkhbkkaaDoor.It

/- The document's calls about windows. -/
namespace Go.Proofs.YtanjcbnkkhbkkaaDoor.It
open Go Go.ChangeShapes Go.WideShapes Go.ChangeAt Go.RowKit Go.Proofs.YtanjcbnkkhbkkaaDoor.Lo Go.Proofs.YtanjcbnkkhbkkaaDoor.Bd Go.Proofs.YtanjcbnkkhbkkaaDoor.If

theorem bT {a b c : World} (h : Below a.heap.size a b) (k : Below b.heap.size b c) : Below a.heap.size a c := h.trans (k.mono h.size)
theorem rmany_k (r : Int) (b : Bool) (w : World) (r0 : 0 ≤ r) (r1 : r ≤ 11) : Calls Tryd.prog 91 #[.int .i64 r, .bool b] w fun e w' => e = .returned (.tuple #[.int .i64 (mny r b), .int .i64 0]) ∧ Below w.heap.size w w' := rmany_ok r b w r0 r1
set_option maxRecDepth 100000 in
set_option maxHeartbeats 2000000 in
theorem may_ok (r s h m : Int) (a : Option Addr) (cap : Nat) (zs : List Int) (w : World) (hl : zs.length ≤ 100000) (hr : RdA w a zs) (r0 : 0 ≤ r) (r1 : r ≤ 11) :
    Calls Tryd.prog 85 #[.int .i64 r, .agg #[.int .u8 s, .int .u8 h, .int .i64 m, .slice a zs.length cap]] w fun e w' => e = .returned (.bool (chk r s h m zs == 0)) ∧ Below w.heap.size w w' := by
  have HB := Lib.hid (box_below w (.cells #[.int .u8 s, .int .u8 h, .int .i64 m, .slice a zs.length cap] 50))
  have hr01 : ¬ (r < 0 ∨ 11 < r) := by omega
  have HM := Lib.hid (fun w => rmany_k r (s == 2) w r0 r1)
  have hM := mny_bd (r := r) (b := s == 2) r0 r1
  have HR := Lib.hid (fun w1 (k : Below w.heap.size w w1) => hr.below k)
  have hF := fun c => @chk_bad r s h m zs hr01 c
  have hT := fun c => @chk_ok r s h m zs hr01 c
  generalize hch : chk r s h m zs = C at *
  clear hch hr
  generalize mny r (s == 2) = M at *
  obtain ⟨hM0, hM1⟩ := hM
  by_cases c2 : 3 < s
  · obtain rfl := hF (.inl c2)
    clear hF hT hr01
    go_enter Tryd.func85, Tryd.ntmps85
    go_wp2_with (go_at_call 91; ((with_reducible refine (HM.out _).mono ?_); rintro e w1 ⟨rfl, hb⟩; have hb1 := bT HB.out hb; obtain ⟨z0, z1, z2, z3⟩ := boxed w s h m (.slice a zs.length cap) w1 hb; clear hb))
    go_ret
    exact ⟨rfl, hb1⟩
  by_cases c3 : 1 < h
  · obtain rfl := hF (.inr (.inl c3))
    clear hF hT hr01
    go_enter Tryd.func85, Tryd.ntmps85
    go_wp2_with (go_at_call 91; ((with_reducible refine (HM.out _).mono ?_); rintro e w1 ⟨rfl, hb⟩; have hb1 := bT HB.out hb; obtain ⟨z0, z1, z2, z3⟩ := boxed w s h m (.slice a zs.length cap) w1 hb; clear hb))
    go_ret
    exact ⟨rfl, hb1⟩
  by_cases c4 : m < 0
  · obtain rfl := hF (.inr (.inr (.inl c4)))
    clear hF hT hr01
    go_enter Tryd.func85, Tryd.ntmps85
    go_wp2_with (go_at_call 91; ((with_reducible refine (HM.out _).mono ?_); rintro e w1 ⟨rfl, hb⟩; have hb1 := bT HB.out hb; obtain ⟨z0, z1, z2, z3⟩ := boxed w s h m (.slice a zs.length cap) w1 hb; clear hb))
    go_ret
    exact ⟨rfl, hb1⟩
  by_cases c5 : M < m
  · obtain rfl := hF (.inr (.inr (.inr (.inl c5))))
    clear hF hT hr01
    go_enter Tryd.func85, Tryd.ntmps85
    go_wp2_with (go_at_call 91; ((with_reducible refine (HM.out _).mono ?_); rintro e w1 ⟨rfl, hb⟩; have hb1 := bT HB.out hb; obtain ⟨z0, z1, z2, z3⟩ := boxed w s h m (.slice a zs.length cap) w1 hb; clear hb))
    go_ret
    exact ⟨rfl, hb1⟩
  have hC : (C == 0) = grp zs (win s) := by
    cases hg : grp zs (win s)
    · rw [hF (.inr (.inr (.inr (.inr hg))))]; rfl
    · rw [hT (by rw [hg]; rintro (x | x | x | x | x) <;> first | omega | cases x)]; rfl
  rw [hC]
  clear hC hF hT hr01
  by_cases cs : s = 2
  · subst cs
    rw [show win 2 = 8 from rfl]
    obtain ⟨R, hR⟩ : ∃ R, grp zs 8 = R := ⟨_, rfl⟩
    have HG : Hid (grp (zs.drop 0) 8 = R) := Lib.hid hR
    rw [hR]
    clear hR
    have c22 : ((2 : Int) == 2) = true := rfl
    rw [c22] at HM
    go_enter Tryd.func85, Tryd.ntmps85
    go_wp2_with (go_at_call 91; ((with_reducible refine (HM.out _).mono ?_); rintro e w1 ⟨rfl, hb⟩; have hb1 := bT HB.out hb; obtain ⟨z0, z1, z2, z3⟩ := boxed w 2 h m (.slice a zs.length cap) w1 hb; clear hb))
    have HR1 := Lib.hid (HR.out w1 hb1)
    go_loop [7, 8] (fun l i => ∃ (k : Nat) (l0 : Int), k ≤ zs.length ∧ 0 ≤ l0 ∧ l0 ≤ 8 ∧ Hid (grp (zs.drop k) l0 = R) ∧ i = .int .i64 k ∧ l = .int .i64 l0) (fun _ i => zs.length - (intOf i).toNat)
    case atStart => exact ⟨0, 8, by omega, by omega, by omega, HG, rfl, rfl⟩
    case round =>
      obtain ⟨k, l0, hk, q0, q1, hg, rfl, rfl⟩ := hrel
      by_cases hlt : k < zs.length
      · obtain ⟨b, off, rfl, hlb, c⟩ := HR1.out k hlt
        have hga := hg.out
        rw [grp_at hlt] at hga
        clear hg HG
        generalize zs.getD k 0 = n at *
        by_cases c1 : n < 1
        · rw [if_pos (.inl c1)] at hga
          subst hga
          go_wp2
          go_ret
          exact ⟨rfl, hb1⟩
        by_cases c2 : l0 < n
        · rw [if_pos (.inr c2)] at hga
          subst hga
          go_wp2
          go_ret
          exact ⟨rfl, hb1⟩
        rw [if_neg (by omega)] at hga
        have HGA := Lib.hid hga
        clear hga
        go_wp2
        go_round
        case rel => exact ⟨k + 1, l0 - n, by omega, by omega, by omega, HGA, by go_num, rfl⟩
        case measure => simp [intOf]; omega
      · have hend : k = zs.length := by omega
        have hga := hg.out
        rw [hend, grp_end] at hga
        clear hg HG
        subst hga
        have hlt2 : ¬ (k : Int) < zs.length := by omega
        go_wp2
        go_ret
        exact ⟨rfl, hb1⟩
  · have hs2 : (s == 2) = false := by simpa using cs
    rw [hs2] at HM
    rw [show win s = 1 by unfold win; rw [if_neg cs]]
    have hne : (s != 2) = true := by simp [cs]
    by_cases hz : zs.length = 1
    · obtain ⟨x, rfl⟩ := List.length_eq_one_iff.1 hz
      clear hz
      have hg : grp [x] 1 = (x == 1) := by
        by_cases e : x = 1
        · subst e; rfl
        · have hn : ¬ grp [x] 1 = true := fun q => e (by have := grp_one.1 q; simpa using this)
          rw [show grp [x] 1 = false by simpa using hn]
          simp [e]
      rw [hg]
      clear hg
      obtain ⟨b, off, rfl, hlb, c⟩ := HR.out _ HB.out 0 (by simp)
      simp only [Nat.add_zero, List.getD_cons_zero] at c
      go_enter Tryd.func85, Tryd.ntmps85
      go_wp2_with (go_at_call 91; ((with_reducible refine (HM.out _).mono ?_); rintro e w1 ⟨rfl, hb⟩; have hb1 := bT HB.out hb; obtain ⟨z0, z1, z2, z3⟩ := boxed w s h m (.slice (some ⟨b, off, none⟩) [x].length cap) w1 hb; have c9 := (hb.cell (p := ⟨b, off, none⟩) hlb).trans c; clear hb))
      go_ret
      exact ⟨rfl, hb1⟩
    · have hg : grp zs 1 = false := by
        have hn : ¬ grp zs 1 = true := fun q => hz (by rw [grp_one.1 q]; rfl)
        simpa using hn
      rw [hg]
      have hz2 : ((zs.length : Int) == 1) = false := by simp; omega
      have hz3 : ¬ (zs.length : Int) = 1 := by omega
      clear hg hz
      go_enter Tryd.func85, Tryd.ntmps85
      go_wp2_with (go_at_call 91; ((with_reducible refine (HM.out _).mono ?_); rintro e w1 ⟨rfl, hb⟩; have hb1 := bT HB.out hb; obtain ⟨z0, z1, z2, z3⟩ := boxed w s h m (.slice a zs.length cap) w1 hb; clear hb))
      go_ret
      exact ⟨rfl, hb1⟩
end Go.Proofs.YtanjcbnkkhbkkaaDoor.It

/- The document's calls about windows: whether, how many, which group. -/
namespace Go.Proofs.YtanjcbnkkhbkkaaDoor.It
open Go Go.ChangeShapes Go.WideShapes Go.ChangeAt Go.RowKit Go.Proofs.YtanjcbnkkhbkkaaDoor.Lo Go.Proofs.YtanjcbnkkhbkkaaDoor.Bd Go.Proofs.YtanjcbnkkhbkkaaDoor.If

theorem box_k {w : World} {s h m : Int} {v : Value} {x : World} (hb : Below (w.alloc (.cells #[.int .u8 s, .int .u8 h, .int .i64 m, v] 50)).heap.size (w.alloc (.cells #[.int .u8 s, .int .u8 h, .int .i64 m, v] 50)) x) : Below w.heap.size w x := bT (box_below w _) hb
set_option maxRecDepth 100000 in
theorem rcheck_ok (r s h m : Int) (a : Option Addr) (cap : Nat) (zs : List Int) (w : World) (hl : zs.length ≤ 100000) (hr : RdA w a zs) :
    Calls Tryd.prog 76 #[.int .i64 r, .agg #[.int .u8 s, .int .u8 h, .int .i64 m, .slice a zs.length cap]] w fun e w' => e = .returned (.int .i64 (chk r s h m zs)) ∧ Below w.heap.size w w' := by
  have HB := Lib.hid (box_below w (.cells #[.int .u8 s, .int .u8 h, .int .i64 m, .slice a zs.length cap] 50))
  by_cases c0 : r < 0
  · rw [chk_arg (.inl c0)]
    go_enter Tryd.func76, Tryd.ntmps76
    go_wp2
    go_ret
    exact ⟨rfl, HB.out⟩
  by_cases c1 : 11 < r
  · rw [chk_arg (.inr c1)]
    go_enter Tryd.func76, Tryd.ntmps76
    go_wp2
    go_ret
    exact ⟨rfl, HB.out⟩
  have HM := Lib.hid (fun w1 (k : Below w.heap.size w w1) => may_ok r s h m a cap zs w1 hl (hr.below k) (by omega) (by omega))
  have h2 := chk_two (r := r) (s := s) (h := h) (m := m) (zs := zs) (by omega) (by omega)
  clear hr
  generalize chk r s h m zs = C at *
  rcases h2 with rfl | rfl
  · rw [show ((0 : Int) == 0) = true from rfl] at HM
    go_enter Tryd.func76, Tryd.ntmps76
    go_wp2_with (go_at_call 85; ((with_reducible refine (HM.out _ HB.out).mono ?_); rintro e w1 ⟨rfl, hb⟩; have hb1 := box_k hb; clear hb))
    go_ret
    exact ⟨rfl, hb1⟩
  · rw [show ((8 : Int) == 0) = false from rfl] at HM
    go_enter Tryd.func76, Tryd.ntmps76
    go_wp2_with (go_at_call 85; ((with_reducible refine (HM.out _ HB.out).mono ?_); rintro e w1 ⟨rfl, hb⟩; have hb1 := box_k hb; clear hb))
    go_ret
    exact ⟨rfl, hb1⟩
set_option maxRecDepth 100000 in
theorem some_ok (s h m : Int) (a : Option Addr) (cap : Nat) (zs : List Int) (w : World) (hl : zs.length ≤ 100000) (hr : RdA w a zs) :
    Calls Tryd.prog 88 #[.agg #[.int .u8 s, .int .u8 h, .int .i64 m, .slice a zs.length cap]] w fun e w' => e = .returned (.bool (chk 11 s h m zs == 0)) ∧ Below w.heap.size w w' := by
  have HB := Lib.hid (box_below w (.cells #[.int .u8 s, .int .u8 h, .int .i64 m, .slice a zs.length cap] 50))
  have HM := Lib.hid (fun r w1 (k : Below w.heap.size w w1) r0 r1 => may_ok r s h m a cap zs w1 hl (hr.below k) r0 r1)
  have HX := Lib.hid (fun x hx => boxed w s h m (.slice a zs.length cap) x hx)
  have HK := Lib.hid (fun (k : Nat) (q : chk k s h m zs = 0) (q1 : k ≤ 11) => chk_mono (r := (k : Int)) (by omega) (by omega) q)
  have HT := Lib.hid (fun (k : Nat) (q1 : k ≤ 11) => chk_two (r := (k : Int)) (s := s) (h := h) (m := m) (zs := zs) (by omega) (by omega))
  have HE : Hid (chk ((11 : Nat) : Int) s h m zs = chk 11 s h m zs) := Lib.hid rfl
  clear hr
  generalize hC : (fun r => chk r s h m zs) = C
  have hCr : ∀ r, chk r s h m zs = C r := fun r => by rw [← hC]
  clear hC
  simp only [hCr] at HM HK HT HE ⊢
  clear hCr
  obtain ⟨R, hR⟩ : ∃ R, R = (C 11 == 0) := ⟨_, rfl⟩
  rw [← hR]
  have HV := Lib.hid hR
  clear hR
  have HY : Hid (∀ x, Below (w.alloc (.cells #[.int .u8 s, .int .u8 h, .int .i64 m, .slice a zs.length cap] 50)).heap.size (w.alloc (.cells #[.int .u8 s, .int .u8 h, .int .i64 m, .slice a zs.length cap] 50)) x → Below w.heap.size w x) := Lib.hid (fun x hx => box_k hx)
  go_enter Tryd.func88, Tryd.ntmps88
  go_wp2
  generalize hw0 : w.alloc (.cells #[.int .u8 s, .int .u8 h, .int .i64 m, .slice a zs.length cap] 50) = w0 at *
  go_loopw [3] (fun i wr => ∃ k : Nat, k ≤ 12 ∧ i = .int .i64 k ∧ Below w0.heap.size w0 wr ∧ (k = 12 → C 11 ≠ 0)) (fun i _ => 12 - (intOf i).toNat)
  case atStart => exact ⟨0, by omega, rfl, Below.refl _ _, fun q => by omega⟩
  case round =>
    obtain ⟨k, hk, rfl, hb, hn⟩ := hrel
    obtain ⟨z0, z1, z2, z3⟩ := HX.out wr hb
    have hbw := HY.out wr hb
    by_cases hlt : k ≤ 11
    · have hq := HM.out k wr hbw (by omega) (by omega)
      have hm0 := fun q => HK.out k q hlt
      have hm1 := HT.out k hlt
      have hm2 : C k ≠ 0 → k = 11 → C 11 ≠ 0 := fun q e => by subst e; exact q
      generalize C k = D at *
      rcases hm1 with rfl | rfl
      · have e11 := hm0 rfl
        rw [show ((0 : Int) == 0) = true from rfl] at hq
        have HQ := Lib.hid hq
        obtain rfl : R = true := by rw [HV.out, e11]; rfl
        clear hm0 hm2 hq hn HE e11 HV
        go_wp2_with (go_at_call 85; ((with_reducible refine (HQ.out).mono ?_); rintro e w1 ⟨rfl, hb1⟩))
        go_ret
        exact ⟨rfl, bT hbw hb1⟩
      · rw [show ((8 : Int) == 0) = false from rfl] at hq
        have HQ := Lib.hid hq
        have HN := Lib.hid (hm2 (by omega))
        clear hm0 hm2 hq hn
        go_wp2_with (go_at_call 85; ((with_reducible refine (HQ.out).mono ?_); rintro e w1 ⟨rfl, hb1⟩))
        go_roundw
        case rel => exact ⟨k + 1, by omega, by go_num, bT hb hb1, fun q => HN.out (by omega)⟩
        case measure => simp [intOf]; omega
    · have hend : k = 12 := by omega
      have h11 := hn hend
      subst hend
      obtain rfl : R = false := by rw [HV.out]; simpa using h11
      clear h11 hn HV hk
      go_wp2
      go_ret
      exact ⟨rfl, hbw⟩
theorem rmany10 (s h m : Int) (v : Value) (w : World) : Calls Tryd.prog 89 #[.agg #[.int .u8 s, .int .u8 h, .int .i64 m, v]] w fun e w' => e = .returned (.int .i64 (win s)) ∧ Below w.heap.size w w' := by
  have HB := Lib.hid (box_below w (.cells #[.int .u8 s, .int .u8 h, .int .i64 m, v] 50))
  by_cases c : s = 2
  · subst c
    rw [show win 2 = 8 from rfl]
    go_enter Tryd.func89, Tryd.ntmps89
    go_wp2
    go_ret
    exact ⟨rfl, HB.out⟩
  · rw [show win s = 1 by unfold win; rw [if_neg c]]
    have c2 : (s == 2) = false := by simpa using c
    go_enter Tryd.func89, Tryd.ntmps89
    go_wp2
    go_ret
    exact ⟨rfl, HB.out⟩
/-- May a sequence follow? -/
def aft (a n : Int) : Bool := decide (a ≤ 3 ∧ n ≤ 3 ∧ (((a = 0 ∨ a = 3) ∧ n ≤ 1) ∨ ((a = 1 ∨ a = 2) ∧ 2 ≤ n)))
end Go.Proofs.YtanjcbnkkhbkkaaDoor.It

/- Each window's group, and windows that are the same. -/
namespace Go.Proofs.YtanjcbnkkhbkkaaDoor.It
open Go Go.ChangeShapes Go.WideShapes Go.ChangeAt Go.RowKit Go.Proofs.YtanjcbnkkhbkkaaDoor.Lo Go.Proofs.YtanjcbnkkhbkkaaDoor.Bd Go.Proofs.YtanjcbnkkhbkkaaDoor.If

def intOf : Value → Int | .int _ q => q | _ => 0
theorem own_mono {b c : Nat} {w : World} {v : Value} {zs : List Int} (h : Own c w v zs) (hbc : b ≤ c) : Own b w v zs := by
  obtain ⟨h0, h1⟩ := h
  refine ⟨h0, ?_⟩
  rcases h1 with h1 | ⟨g, cap, cur, e, hg, r⟩
  · exact .inl h1
  · exact .inr ⟨g, cap, cur, e, Nat.le_trans hbc hg, r⟩
set_option maxRecDepth 100000 in
set_option maxHeartbeats 4000000 in
theorem in_ok (s h m : Int) (a : Option Addr) (cap : Nat) (zs : List Int) (w : World) (hl : zs.length ≤ 1000) (hr : RdA w a zs) (l : Int) (l0 : 0 ≤ l) (l8 : l ≤ 8) (hg : grp zs l = true) :
    Calls Tryd.prog 90 #[.agg #[.int .u8 s, .int .u8 h, .int .i64 m, .slice a zs.length cap]] w fun e w' => ∃ v, e = .returned v ∧ Own w.heap.size w' v (ins 0 zs) ∧ Below w.heap.size w w' := by
  obtain ⟨i0, hi, hz0, hz1, hz2⟩ := info_parts info3
  have HB := Lib.hid (box_below w (.cells #[.int .u8 s, .int .u8 h, .int .i64 m, .slice a zs.length cap] 50))
  have HR := Lib.hid (fun w1 (k : Below w.heap.size w w1) => hr.below k)
  have HX := Lib.hid (fun x hx => boxed w s h m (.slice a zs.length cap) x hx)
  have HY : Hid (∀ x, Below (w.alloc (.cells #[.int .u8 s, .int .u8 h, .int .i64 m, .slice a zs.length cap] 50)).heap.size (w.alloc (.cells #[.int .u8 s, .int .u8 h, .int .i64 m, .slice a zs.length cap] 50)) x → Below w.heap.size w x) := Lib.hid (fun x hx => box_k hx)
  have hlen := ins_len zs l 0 hg
  have HLEN := Lib.hid hlen
  clear hr hlen
  obtain ⟨R, hR⟩ : ∃ R, ins 0 zs = R := ⟨_, rfl⟩
  have HP : Hid (([] : List Int) ++ ins 0 (zs.drop 0) = R) := Lib.hid (by simpa using hR)
  rw [hR] at HLEN
  rw [hR]
  have HG : Hid (grp (zs.drop 0) l = true) := Lib.hid (by simpa using hg)
  clear hR hg
  have how : Own w.heap.size (w.alloc (.cells #[.int .u8 s, .int .u8 h, .int .i64 m, .slice a zs.length cap] 50)) (.slice none 0 0) [] := World.ownsRow_nil _ _ 3 1
  go_enter Tryd.func90, Tryd.ntmps90
  go_wp2
  have hs0 : w.heap.size + 1 = (w.alloc (.cells #[.int .u8 s, .int .u8 h, .int .i64 m, .slice a zs.length cap] 50)).heap.size := by simp
  generalize hw0 : w.alloc (.cells #[.int .u8 s, .int .u8 h, .int .i64 m, .slice a zs.length cap] 50) = w0 at *
  have how0 : Own w0.heap.size w0 (.slice none 0 0) [] := World.ownsRow_nil _ _ 3 1
  clear hw0 how
  go_loopw [3, 4, 5] (fun v gv kv wr => ∃ (g : Nat) (pre : List Int) (lf : Int), g ≤ zs.length ∧ gv = .int .i64 g ∧ Own w0.heap.size wr v pre ∧ Hid (pre ++ ins g (zs.drop g) = R) ∧ Hid (grp (zs.drop g) lf = true) ∧ 0 ≤ lf ∧ (pre.length : Int) + lf = l ∧ Below w0.heap.size w0 wr) (fun _ gv _ _ => zs.length - (intOf gv).toNat)
  case atStart => exact ⟨0, [], l, by omega, rfl, how0, HP, HG, l0, by simp, Below.refl _ _⟩
  case round =>
    obtain ⟨g, pre, lf, hk, rfl, hown, hP, hG, lf0, hlf, hb⟩ := hrel
    obtain ⟨z0, z1, z2, z3⟩ := HX.out wr hb
    have hbw := HY.out wr hb
    by_cases hlt : g < zs.length
    · have hgg := hG.out
      have hpp := hP.out
      rw [grp_at hlt] at hgg
      rw [ins_at hlt] at hpp
      have hzs := HR.out _ hbw g hlt
      have HZ := Lib.hid (fun x (hx : Below w0.heap.size w0 x) => HR.out x (HY.out x hx) g hlt)
      clear hG hP HG HP
      generalize zs.getD g 0 = n at *
      have hn : ¬ (n < 1 ∨ lf < n) := fun c => by rw [if_pos c] at hgg; simp at hgg
      rw [if_neg hn] at hgg
      have n0 : 1 ≤ n := by omega
      have n1 : n ≤ lf := by omega
      clear hn
      obtain ⟨nn, rfl⟩ : ∃ nn : Nat, n = nn := ⟨n.toNat, by omega⟩
      have HGG := Lib.hid hgg
      have HPP : Hid ((pre ++ List.replicate 0 (g : Int)) ++ (List.replicate (nn - 0) (g : Int) ++ ins (g + 1) (zs.drop (g + 1))) = R) := Lib.hid (by simpa using hpp)
      clear hgg hpp hzs
      have hown0 : Own w0.heap.size wr (u3) (pre ++ List.replicate 0 (g : Int)) := by simpa using hown
      clear hown z0 z1 z2 hbw
      go_wp2
      have hbo := hb
      clear hb z3
      generalize wr = wo at *
      go_loopw [3, 5] (fun v kv wr => ∃ (k : Nat), k ≤ nn ∧ kv = .int .i64 k ∧ Own w0.heap.size wr v (pre ++ List.replicate k (g : Int)) ∧ Hid ((pre ++ List.replicate k (g : Int)) ++ (List.replicate (nn - k) (g : Int) ++ ins (g + 1) (zs.drop (g + 1))) = R) ∧ Below w0.heap.size w0 wr) (fun _ kv _ => nn - (intOf kv).toNat)
      case atStart => exact ⟨0, by omega, rfl, hown0, HPP, hbo⟩
      case round =>
        obtain ⟨k, hkk, rfl, hown, hP, hb⟩ := hrel
        obtain ⟨b, off, rfl, hlb, c⟩ := HZ.out wr hb
        obtain ⟨z0, z1, z2, z3⟩ := HX.out wr hb
        have hle : w0.heap.size ≤ wr.heap.size := hb.size
        clear z0 z1 z2 hown0 HPP
        have hpl : (pre ++ List.replicate k (g : Int)).length = pre.length + k := by simp
        obtain ⟨pk, hpk⟩ : ∃ pk, pk = pre ++ List.replicate k (g : Int) := ⟨_, rfl⟩
        rw [← hpk] at hown hP hpl
        have HPK := Lib.hid hpk
        clear hpk
        by_cases hkn : k < nn
        · have hpl8 : pk.length ≤ 8 := by omega
          go_wp2_with (at_builtin; refine wpList_append_own _ rfl (.tmp 22) (.tmp 24) 39 rfl w0.heap.size 3 i0 (.int .i64 0) 1 8 Tryd.underlying39 hi hz0 hz1 hz2 rfl (by decide) _ _ _ rfl (World.ownsRow.alloc hown _) ⟨wr.heap.size, 0, none⟩ 1 1 [.int .i64 g] rfl rfl ?c1 ?c2 ?c3 ?c4 ?c5 ?_)
          first
          | case c1 =>
              intro j u hj
              match j, hj with
              | 0, hj => simp at hj; subst hj; simp [Addr.add]
          | skip
          case c2 => intro u hu; simp at hu; subst hu; rfl
          case c3 => unfold maxLen; first | omega | (simp; done) | (simp; omega)
          case c4 => first | omega | (simp; done) | (simp; omega)
          case c5 => first | omega | (simp; done) | (simp; omega)
          intro v2 w2 hown2 hgrow2 _
          have ho2 : Own w0.heap.size w2 v2 (pk ++ [(g : Int)]) := own_push (by rw [hpl]; exact hown2)
          have hb2 : Below w0.heap.size w0 w2 := below_grown (hb.alloc hle _) (hown.alloc _) (Nat.le_refl _) hgrow2
          have he : pk ++ [(g : Int)] = pre ++ List.replicate (k + 1) (g : Int) := by rw [HPK.out, List.append_assoc, List.replicate_succ']
          rw [he] at ho2
          have HQ : Hid ((pre ++ List.replicate (k + 1) (g : Int)) ++ (List.replicate (nn - (k + 1)) (g : Int) ++ ins (g + 1) (zs.drop (g + 1))) = R) := Lib.hid (by
            rw [← hP.out, ← he, show nn - k = (nn - (k + 1)) + 1 by omega, List.replicate_succ]; simp)
          clear he hP
          go_wp2
          go_roundw
          case rel => exact ⟨k + 1, by omega, by go_num, ho2, HQ, hb2⟩
          case measure => simp [intOf]; omega
        · have hkn' : k = nn := by omega
          subst hkn'
          have HQ : Hid (pk ++ ins (g + 1) (zs.drop (g + 1)) = R) := Lib.hid (by rw [← hP.out]; simp)
          clear hP
          go_wp2
          go_roundw
          case rel => exact ⟨g + 1, pk, lf - k, by omega, by go_num, hown, HQ, HGG, by omega, by omega, hb⟩
          case measure => simp [intOf]; omega
    · have hend : g = zs.length := by omega
      have hpp := hP.out
      rw [hend] at hpp
      simp [ins] at hpp
      subst hpp
      clear hP hG HP HG
      have hlt2 : ¬ (g : Int) < zs.length := by omega
      go_wp2
      go_ret
      exact ⟨_, rfl, own_mono hown (by omega), hbw⟩
end Go.Proofs.YtanjcbnkkhbkkaaDoor.It

/- Which group a window is in, and windows that are the same. -/
namespace Go.Proofs.YtanjcbnkkhbkkaaDoor.It
open Go Go.ChangeShapes Go.WideShapes Go.ChangeAt Go.RowKit Go.Proofs.YtanjcbnkkhbkkaaDoor.Lo Go.Proofs.YtanjcbnkkhbkkaaDoor.Bd Go.Proofs.YtanjcbnkkhbkkaaDoor.If

theorem own_get {base : Nat} {w : World} {v : Value} {zs : List Int} (h : Own base w v zs) {i : Nat} (hi : i < zs.length) : ∃ g cap, v = .slice (some ⟨g, 0, none⟩) zs.length cap ∧ w.cell? ⟨g, i, none⟩ = some (.int .i64 (zs.getD i 0)) := by
  obtain ⟨g, cap, rfl, _, hr⟩ := Own.row h (by omega)
  exact ⟨g, cap, rfl, hr.cell hi⟩
/-- The group that both answer. -/
def gA (s h m : Int) (zs : List Int) (x : Int) : Int := if chk 11 s h m zs ≠ 0 ∨ x < 0 ∨ win s ≤ x then 0 else gof zs x
def gB (s h m : Int) (zs : List Int) (x : Int) : Int := if chk 11 s h m zs ≠ 0 then 8 else if x < 0 ∨ win s ≤ x then 2 else 0
theorem group_k (s h m : Int) (a : Option Addr) (cap : Nat) (zs : List Int) (x : Int) (w : World) (hl : zs.length ≤ 1000) (hr : RdA w a zs) :
    Calls Tryd.prog 39 #[.agg #[.int .u8 s, .int .u8 h, .int .i64 m, .slice a zs.length cap], .int .i64 x] w fun e w' => e = .returned (.tuple #[.int .i64 (gA s h m zs x), .int .i64 (gB s h m zs x)]) ∧ Below w.heap.size w w' := by
  unfold gA gB
  by_cases c : chk 11 s h m zs = 0
  · by_cases d : x < 0 ∨ win s ≤ x
    · rw [if_pos (.inr d), if_neg (by simp [c]), if_pos d]
      exact group_out s h m a cap zs x w (by omega) hr c d
    · rw [if_neg (by simp only [c]; omega), if_neg (by simp [c]), if_neg d]
      exact group_ok s h m a cap zs x w (by omega) hr c (by omega) (by omega)
  · rw [if_pos (.inl c), if_pos c]
    have := group_bad s h m a cap zs x w (by omega) hr c
    rcases chk_two (r := 11) (s := s) (h := h) (m := m) (zs := zs) (by omega) (by omega) with e | e
    · exact absurd e c
    · rw [e] at this; exact this
set_option maxRecDepth 100000 in
set_option maxHeartbeats 2000000 in
theorem rgroup_k (s h m : Int) (a : Option Addr) (cap : Nat) (zs : List Int) (x : Int) (w : World) (hl : zs.length ≤ 1000) (hr : RdA w a zs) (x0 : -9223372036854775808 ≤ x) (x1 : x ≤ 9223372036854775807) :
    Calls Tryd.prog 78 #[.agg #[.int .u8 s, .int .u8 h, .int .i64 m, .slice a zs.length cap], .int .i64 x] w fun e w' => e = .returned (.tuple #[.int .i64 (gA s h m zs x), .int .i64 (gB s h m zs x)]) ∧ Below w.heap.size w w' := by
  have HB := Lib.hid (box_below w (.cells #[.int .u8 s, .int .u8 h, .int .i64 m, .slice a zs.length cap] 50))
  have HS := Lib.hid (fun w1 (k : Below w.heap.size w w1) => some_ok s h m a cap zs w1 (by omega) (hr.below k))
  have HM := Lib.hid (fun w1 => rmany10 s h m (.slice a zs.length cap) w1)
  have HX := Lib.hid (fun y hy => boxed w s h m (.slice a zs.length cap) y hy)
  by_cases c : chk 11 s h m zs = 0
  · have hg : grp zs (win s) = true := by
      unfold chk at c
      rw [if_neg (by omega)] at c
      cases hgg : grp zs (win s)
      · rw [if_pos (.inr (.inr (.inr (.inr hgg))))] at c; omega
      · rfl
    have wb := win_bd s
    have HI := Lib.hid (fun w1 (k : Below w.heap.size w w1) => in_ok s h m a cap zs w1 hl (hr.below k) (win s) (by omega) wb.2 hg)
    have hlen := ins_len zs (win s) 0 hg
    have hget := ins_get zs (win s) x 0 hg
    unfold gA gB
    clear hr
    rw [c] at HS
    rw [show ((0 : Int) == 0) = true from rfl] at HS
    by_cases d0 : x < 0
    · rw [if_pos (.inr (.inl d0)), if_neg (by simp [c]), if_pos (.inl d0)]
      clear c hg hlen hget HI
      go_enter Tryd.func78, Tryd.ntmps78
      go_wp2_with (first
        | (go_at_call 88; ((with_reducible refine (HS.out _ HB.out).mono ?_); rintro e w1 ⟨rfl, hb⟩; obtain ⟨z0, z1, z2, z3⟩ := HX.out w1 hb; have hb1 := box_k hb; clear hb))
        | (go_at_call 89; ((with_reducible refine (HM.out _).mono ?_); rintro e w2 ⟨rfl, hb⟩; have hb2 := bT hb1 hb; clear hb)))
      go_ret2
      exact ⟨rfl, hb1⟩
    by_cases d1 : win s ≤ x
    · rw [if_pos (.inr (.inr d1)), if_neg (by simp [c]), if_pos (.inr d1)]
      clear c hg hlen hget HI
      generalize win s = W at *
      go_enter Tryd.func78, Tryd.ntmps78
      go_wp2_with (first
        | (go_at_call 88; ((with_reducible refine (HS.out _ HB.out).mono ?_); rintro e w1 ⟨rfl, hb⟩; obtain ⟨z0, z1, z2, z3⟩ := HX.out w1 hb; have hb1 := box_k hb; clear hb))
        | (go_at_call 89; ((with_reducible refine (HM.out _).mono ?_); rintro e w2 ⟨rfl, hb⟩; have hb2 := bT hb1 hb; clear hb)))
      go_ret2
      exact ⟨rfl, hb2⟩
    · rw [if_neg (by simp only [c]; omega), if_neg (by simp [c]), if_neg (by omega)]
      have hx := hget (by omega) (by omega)
      clear c hg hget
      generalize win s = W at *
      generalize gof zs x = G at *
      generalize ins 0 zs = L at *
      obtain ⟨k, rfl⟩ : ∃ k : Nat, x = k := ⟨x.toNat, by omega⟩
      have hkl : k < L.length := by omega
      rw [Int.toNat_natCast] at hx
      have hx2 : L.getD k 0 = G := by omega
      clear hx
      have HLW := Lib.hid hlen
      go_enter Tryd.func78, Tryd.ntmps78
      go_wp2_with (first
        | (go_at_call 88; ((with_reducible refine (HS.out _ HB.out).mono ?_); rintro e w1 ⟨rfl, hb⟩; obtain ⟨z0, z1, z2, z3⟩ := HX.out w1 hb; have hb1 := box_k hb; have H0 := Lib.hid hb; clear hb))
        | (go_at_call 89; ((with_reducible refine (HM.out _).mono ?_); rintro e w2 ⟨rfl, hb⟩; obtain ⟨y0, y1, y2, y3⟩ := HX.out w2 (bT H0.out hb); have hb2 := bT hb1 hb; clear hb))
        | (go_at_call 90; ((with_reducible refine (HI.out _ hb2).mono ?_); rintro e w3 ⟨v, rfl, ho, hb⟩; have hb3 := bT hb2 hb; obtain ⟨g, cp, rfl, hc⟩ := own_get ho hkl; rw [hx2] at hc; clear hb ho)))
      go_ret2
      exact ⟨rfl, hb3⟩
  · have h2 := chk_two (r := 11) (s := s) (h := h) (m := m) (zs := zs) (by omega) (by omega)
    unfold gA gB
    rw [if_pos (.inl c), if_pos c]
    clear hr
    generalize chk 11 s h m zs = C at *
    obtain rfl : C = 8 := by omega
    rw [show ((8 : Int) == 0) = false from rfl] at HS
    clear c h2
    go_enter Tryd.func78, Tryd.ntmps78
    go_wp2_with (first
        | (go_at_call 88; ((with_reducible refine (HS.out _ HB.out).mono ?_); rintro e w1 ⟨rfl, hb⟩; obtain ⟨z0, z1, z2, z3⟩ := HX.out w1 hb; have hb1 := box_k hb; clear hb))
        | (go_at_call 89; ((with_reducible refine (HM.out _).mono ?_); rintro e w2 ⟨rfl, hb⟩; have hb2 := bT hb1 hb; clear hb)))
    go_ret2
    exact ⟨rfl, hb1⟩
end Go.Proofs.YtanjcbnkkhbkkaaDoor.It

/- The document's error of books, steps and lines. -/
namespace Go.Proofs.YtanjcbnkkhbkkaaDoor.Qd
open Go Go.ChangeShapes Go.WideShapes Go.ChangeAt Go.RowKit Go.Proofs.YtanjcbnkkhbkkaaDoor.If Go.Proofs.YtanjcbnkkhbkkaaDoor.Bd Go.Proofs.YtanjcbnkkhbkkaaDoor.Qn

set_option maxRecDepth 100000 in
theorem asked_1 (r s h m : Int) (ga : Option Addr) (gc : Nat) (gz : List Int) (O P A : Option Addr) (oc pc lc : Nat) (B S : List (List Int)) (lz : List Int) (most : Int) (w : World) (I : Inp w ga gz O P B S) (hll : lz.length ≤ 1000) (rl : RdA w A lz) (hm0 : 0 ≤ most) (hm1 : most ≤ 1099511627776) (c : Int) (h1 : chk r s h m gz ≠ 0) (hc : c = chk r s h m gz) :
    Calls Tryd.prog 54 #[.int .i64 r, .agg #[.int .u8 s, .int .u8 h, .int .i64 m, .slice ga gz.length gc], .slice O B.length oc, .slice P S.length pc, .slice A lz.length lc, .int .i64 most] w fun e w' => e = .returned (.int .i64 c) ∧ Below w.heap.size w w' := by
  have HB := Lib.hid (box_below w (.cells #[.int .u8 s, .int .u8 h, .int .i64 m, .slice ga gz.length gc] 50))
  have HC := Lib.hid (It.rcheck_ok r s h m ga gc gz _ (by have := I.gl; omega) (I.hg.below HB.out))
  have HX := Lib.hid (fun x hx => boxed w s h m (.slice ga gz.length gc) x hx)
  obtain ⟨C, hC⟩ : ∃ C, chk r s h m gz = C := ⟨_, rfl⟩
  rw [hC] at HC h1 hc
  subst hc
  have h2 : (c != 0) = true := by simp [h1]
  clear hC I rl
  go_enter Tryd.func54, Tryd.ntmps54
  go_wp2_with (go_at_call 76; ((with_reducible refine (HC.out).mono ?_); rintro e w1 ⟨rfl, hb1⟩; have B1 := Lib.hid (belowT HB.out hb1); obtain ⟨z0, z1, z2, z3⟩ := HX.out w1 hb1; have Z := Lib.hid hb1; clear hb1))
  go_ret
  exact ⟨rfl, B1.out⟩
set_option maxRecDepth 100000 in
set_option maxHeartbeats 4000000 in
theorem asked_2 (r s h m : Int) (ga : Option Addr) (gc : Nat) (gz : List Int) (O P A : Option Addr) (oc pc lc : Nat) (B S : List (List Int)) (lz : List Int) (most : Int) (w : World) (I : Inp w ga gz O P B S) (hll : lz.length ≤ 1000) (rl : RdA w A lz) (hm0 : 0 ≤ most) (hm1 : most ≤ 1099511627776) (c : Int) (h0 : chk r s h m gz = 0) (h1 : (shp gz.length m B && shp gz.length m S) = false) (hc : c = 4) :
    Calls Tryd.prog 54 #[.int .i64 r, .agg #[.int .u8 s, .int .u8 h, .int .i64 m, .slice ga gz.length gc], .slice O B.length oc, .slice P S.length pc, .slice A lz.length lc, .int .i64 most] w fun e w' => e = .returned (.int .i64 c) ∧ Below w.heap.size w w' := by
  have HB := Lib.hid (box_below w (.cells #[.int .u8 s, .int .u8 h, .int .i64 m, .slice ga gz.length gc] 50))
  have HC := Lib.hid (It.rcheck_ok r s h m ga gc gz _ (by have := I.gl; omega) (I.hg.below HB.out))
  have HX := Lib.hid (fun x hx => boxed w s h m (.slice ga gz.length gc) x hx)
  rw [h0] at HC
  subst hc
  have gl := I.gl
  have bl := I.bl
  have sl := I.sl
  by_cases e1 : B.length = gz.length
  · by_cases e2 : S.length = gz.length
    · have hex : Hid (∃ i, 0 ≤ i ∧ i < B.length ∧ ¬ (((B.getD i []).length : Int) = m ∧ ((S.getD i []).length : Int) = m)) := Lib.hid (Classical.byContradiction fun hn => by
        have hall : ∀ i, i < B.length → (((B.getD i []).length : Int) = m ∧ ((S.getD i []).length : Int) = m) := fun i hi => Classical.byContradiction fun hx => hn ⟨i, Nat.zero_le _, hi, hx⟩
        have hsB : shp gz.length m B = true := by
          unfold shp shw
          simp only [Bool.and_eq_true, decide_eq_true_eq, List.all_eq_true]
          refine ⟨e1, fun r hr => ?_⟩
          obtain ⟨i, hi, rfl⟩ := List.mem_iff_getElem.1 hr
          have := (hall i hi).1
          rwa [List.getD_eq_getElem?_getD, List.getElem?_eq_getElem hi] at this
        have hsS : shp gz.length m S = true := by
          unfold shp shw
          simp only [Bool.and_eq_true, decide_eq_true_eq, List.all_eq_true]
          refine ⟨e2, fun r hr => ?_⟩
          obtain ⟨i, hi, rfl⟩ := List.mem_iff_getElem.1 hr
          have := (hall i (by omega)).2
          rwa [List.getD_eq_getElem?_getD, List.getElem?_eq_getElem hi] at this
        rw [hsB, hsS] at h1
        simp at h1)
      have RB := Lib.hid (fun x (hx : Below w.heap.size w x) => I.rB.below hx)
      have RS := Lib.hid (fun x (hx : Below w.heap.size w x) => I.rS.below hx)
      have BR := Lib.hid I.br
      have SR := Lib.hid I.sr
      have f1 : ((B.length : Int) != (gz.length : Int)) = false := by simp; omega
      have f2 : ((S.length : Int) != (gz.length : Int)) = false := by simp; omega
      have eBS := Lib.hid (show S.length = B.length by omega)
      clear h1 h0 I rl
      go_enter Tryd.func54, Tryd.ntmps54
      go_wp2_with (go_at_call 76; ((with_reducible refine (HC.out).mono ?_); rintro e w1 ⟨rfl, hb1⟩; have B1 := Lib.hid (belowT HB.out hb1); obtain ⟨z0, z1, z2, z3⟩ := HX.out w1 hb1; have Z := Lib.hid hb1; clear hb1))
      go_loopw [14] (fun i wr => ∃ k : Nat, k ≤ B.length ∧ i = .int .i64 k ∧ Below w1.heap.size w1 wr ∧ Hid (∃ i, k ≤ i ∧ i < B.length ∧ ¬ (((B.getD i []).length : Int) = m ∧ ((S.getD i []).length : Int) = m))) (fun i _ => B.length - (intOf i).toNat)
      case atStart => exact ⟨0, by omega, rfl, Below.refl _ _, hex⟩
      case round =>
        obtain ⟨k, hk, rfl, hb, hI⟩ := hrel
        clear hex z0 z1 z2 z3
        by_cases hlt : k < B.length
        · obtain ⟨b, off, a, ca, rfl, lb, c0, ra⟩ := RB.out wr (belowT B1.out hb) k hlt
          obtain ⟨b', off', a', ca', rfl, lb', c1, ra'⟩ := RS.out wr (belowT B1.out hb) k (by rw [eBS.out]; exact hlt)
          obtain ⟨z0, z1, z2, z3⟩ := HX.out wr (belowT Z.out hb)
          have hLn := BR.out k hlt
          have hSn := SR.out k (by rw [eBS.out]; exact hlt)
          have hkS : (k : Int) < (S.length : Int) := by have := eBS.out; omega
          have hkB : (k : Int) < (B.length : Int) := by omega
          have hk0 : (0 : Int) ≤ (k : Int) := by omega
          have hBE := Lib.hid (belowT B1.out hb)
          clear ra ra'
          unfold maxLen at hLn hSn
          have hnx : Hid ((((B.getD k []).length : Int) = m ∧ ((S.getD k []).length : Int) = m) → ∃ i, k + 1 ≤ i ∧ i < B.length ∧ ¬ (((B.getD i []).length : Int) = m ∧ ((S.getD i []).length : Int) = m)) := Lib.hid (fun q => by
            obtain ⟨i, h1, h2, h3⟩ := hI.out
            refine ⟨i, ?_, h2, h3⟩
            by_cases e : i = k
            · subst e; exact absurd q h3
            · omega)
          clear hI
          generalize (B.getD k []).length = X at *
          generalize (S.getD k []).length = Y at *
          by_cases t1 : (X : Int) = m
          · have t1' : ((X : Int) != m) = false := by simp [t1]
            by_cases t2 : (Y : Int) = m
            · have t2' : ((Y : Int) != m) = false := by simp [t2]
              have HN := Lib.hid (hnx.out ⟨t1, t2⟩)
              clear hnx t1 t2
              go_wp2
              go_quiet (fail)
              go_wp2
              go_roundw
              case rel => exact ⟨k + 1, by omega, by go_num, hb.trans ((drewN_below wr nq).mono hb.size), HN⟩
              case measure => simp [intOf]; omega
            · have t2' : ((Y : Int) != m) = true := by simp [t2]
              clear hnx t1 t2
              go_wp2
              go_quiet (fail)
              go_wp2
              go_ret
              exact ⟨rfl, hBE.out.trans ((drewN_below wr nq).mono hBE.out.size)⟩
          · have t1' : ((X : Int) != m) = true := by simp [t1]
            clear hnx t1
            go_wp2
            go_quiet (fail)
            go_wp2
            go_ret
            exact ⟨rfl, hBE.out.trans ((drewN_below wr nq).mono hBE.out.size)⟩
        · obtain ⟨i, h1, h2, _⟩ := hI.out
          omega
    · have f1 : ((B.length : Int) != (gz.length : Int)) = false := by simp; omega
      have f2 : ((S.length : Int) != (gz.length : Int)) = true := by simp; omega
      clear h1 h0 I rl e1 e2
      go_enter Tryd.func54, Tryd.ntmps54
      go_wp2_with (go_at_call 76; ((with_reducible refine (HC.out).mono ?_); rintro e w1 ⟨rfl, hb1⟩; have B1 := Lib.hid (belowT HB.out hb1); obtain ⟨z0, z1, z2, z3⟩ := HX.out w1 hb1; have Z := Lib.hid hb1; clear hb1))
      go_ret
      exact ⟨rfl, B1.out⟩
  · have f1 : ((B.length : Int) != (gz.length : Int)) = true := by simp; omega
    clear h1 h0 I rl e1
    go_enter Tryd.func54, Tryd.ntmps54
    go_wp2_with (go_at_call 76; ((with_reducible refine (HC.out).mono ?_); rintro e w1 ⟨rfl, hb1⟩; have B1 := Lib.hid (belowT HB.out hb1); obtain ⟨z0, z1, z2, z3⟩ := HX.out w1 hb1; have Z := Lib.hid hb1; clear hb1))
    go_ret
    exact ⟨rfl, B1.out⟩
end Go.Proofs.YtanjcbnkkhbkkaaDoor.Qd

/- The document's error, where books and steps have their shape. -/
namespace Go.Proofs.YtanjcbnkkhbkkaaDoor.Qd
open Go Go.ChangeShapes Go.WideShapes Go.ChangeAt Go.RowKit Go.Proofs.YtanjcbnkkhbkkaaDoor.If Go.Proofs.YtanjcbnkkhbkkaaDoor.Bd Go.Proofs.YtanjcbnkkhbkkaaDoor.Qn

/-- What is answered of lines, if nothing else is wrong. -/
def TL (lz : List Int) (most c : Int) : Prop := (lz.length ≠ 256 ∧ c = 4) ∨ (lz.length = 256 ∧ ¬ inr most lz ∧ c = 2) ∨ (lz.length = 256 ∧ inr most lz ∧ c = 0)
set_option maxRecDepth 100000 in
set_option maxHeartbeats 8000000 in
theorem asked_3 (r s h m : Int) (ga : Option Addr) (gc : Nat) (gz : List Int) (O P A : Option Addr) (oc pc lc : Nat) (B S : List (List Int)) (lz : List Int) (most : Int) (w : World) (I : Inp w ga gz O P B S) (hll : lz.length ≤ 1000) (rl : RdA w A lz) (hm0 : 0 ≤ most) (hm1 : most ≤ 1099511627776) (c : Int) (h0 : chk r s h m gz = 0) (e1 : shp gz.length m B = true) (e2 : shp gz.length m S = true) (hc : (BadB B S 0 0 ∧ c = 2) ∨ (¬ BadB B S 0 0 ∧ TL lz most c)) :
    Calls Tryd.prog 54 #[.int .i64 r, .agg #[.int .u8 s, .int .u8 h, .int .i64 m, .slice ga gz.length gc], .slice O B.length oc, .slice P S.length pc, .slice A lz.length lc, .int .i64 most] w fun e w' => e = .returned (.int .i64 c) ∧ Below w.heap.size w w' := by
  have HB := Lib.hid (box_below w (.cells #[.int .u8 s, .int .u8 h, .int .i64 m, .slice ga gz.length gc] 50))
  have HC := Lib.hid (It.rcheck_ok r s h m ga gc gz _ (by have := I.gl; omega) (I.hg.below HB.out))
  have HX := Lib.hid (fun x hx => boxed w s h m (.slice ga gz.length gc) x hx)
  rw [h0] at HC
  have gl := I.gl
  have bl := I.bl
  have sl := I.sl
  obtain ⟨l1, l2⟩ := shp_yes e1
  obtain ⟨l3, l4⟩ := shp_yes e2
  have m0 := (chk_parts h0).2.2.1
  have mm : m ≤ 41 := by
    have h5 := (chk_parts h0).2.2.2.1
    obtain ⟨r0, r1⟩ := chk_rate h0
    have := mny_bd (r := r) (b := s == 2) r0 r1
    omega
  have lBS := Lib.hid (show B.length = S.length by omega)
  have lB := Lib.hid l2
  have lS := Lib.hid (fun i (hi : i < B.length) => l4 i (by omega))
  have RB := Lib.hid (fun x (hx : Below w.heap.size w x) => I.rB.below hx)
  have RS := Lib.hid (fun x (hx : Below w.heap.size w x) => I.rS.below hx)
  have RL := Lib.hid (fun x (hx : Below w.heap.size w x) => rl.below hx)
  have f1 : ((B.length : Int) != (gz.length : Int)) = false := by simp; omega
  have f2 : ((S.length : Int) != (gz.length : Int)) = false := by simp; omega
  have HC0 : Hid ((BadB B S 0 0 ∧ c = 2) ∨ (¬ BadB B S 0 0 ∧ TL lz most c)) := Lib.hid hc
  clear h0 e1 e2 I rl l1 l2 l3 l4 hc
  go_enter Tryd.func54, Tryd.ntmps54
  go_wp2_with (go_at_call 76; ((with_reducible refine (HC.out).mono ?_); rintro e w1 ⟨rfl, hb1⟩; have B1 := Lib.hid (belowT HB.out hb1); obtain ⟨z0, z1, z2, z3⟩ := HX.out w1 hb1; have Z := Lib.hid hb1; clear hb1))
  go_loopw [14] (fun i wr => ∃ k : Nat, k ≤ B.length ∧ i = .int .i64 k ∧ Below w1.heap.size w1 wr) (fun i _ => B.length - (intOf i).toNat)
  case atStart => exact ⟨0, by omega, rfl, Below.refl _ _⟩
  case round =>
    obtain ⟨k, hk, rfl, hb⟩ := hrel
    clear z0 z1 z2 z3
    obtain ⟨z0, z1, z2, z3⟩ := HX.out wr (belowT Z.out hb)
    by_cases hlt : k < B.length
    · obtain ⟨b, off, a, ca, rfl, lb, c0, ra⟩ := RB.out wr (belowT B1.out hb) k hlt
      obtain ⟨b', off', a', ca', rfl, lb', c1, ra'⟩ := RS.out wr (belowT B1.out hb) k (by rw [← lBS.out]; exact hlt)
      have hLn := lB.out k hlt
      have hSn := lS.out k hlt
      have hkS : (k : Int) < (S.length : Int) := by have := lBS.out; omega
      have hkB : (k : Int) < (B.length : Int) := by omega
      have hk0 : (0 : Int) ≤ (k : Int) := by omega
      clear ra ra'
      generalize (B.getD k []).length = X at *
      generalize (S.getD k []).length = Y at *
      have t1' : ((X : Int) != m) = false := by simp [hLn]
      have t2' : ((Y : Int) != m) = false := by simp [hSn]
      clear hLn hSn
      go_wp2
      go_quiet (fail)
      go_wp2
      go_roundw
      case rel => exact ⟨k + 1, by omega, by go_num, hb.trans ((drewN_below wr nq).mono hb.size)⟩
      case measure => simp [intOf]; omega
    · have hend : k = B.length := by omega
      subst hend
      have WB := Lib.hid (belowT B1.out hb)
      have RB2 := Lib.hid (RB.out wr WB.out)
      have RS2 := Lib.hid (RS.out wr WB.out)
      have RL2 := Lib.hid (RL.out wr WB.out)
      clear hb RB RS RL HX Z B1
      go_wp2
      go_loop [15] (fun i => ∃ k : Nat, k ≤ B.length ∧ i = .int .i64 k ∧ Hid ((BadB B S k 0 ∧ c = 2) ∨ (¬ BadB B S 0 0 ∧ TL lz most c))) (fun i => B.length - (intOf i).toNat)
      case atStart => exact ⟨0, by omega, rfl, HC0⟩
      case round =>
        obtain ⟨k, hk, rfl, hI⟩ := hrel
        clear HC0
        by_cases hlt : k < B.length
        · obtain ⟨b, off, a, ca, rfl, lb, c0, ra⟩ := RB2.out k hlt
          obtain ⟨b', off', a', ca', rfl, lb', c1, ra'⟩ := RS2.out k (by rw [← lBS.out]; exact hlt)
          have hLn := lB.out k hlt
          have hSn := lS.out k hlt
          have RA := Lib.hid ra
          have RA' := Lib.hid ra'
          have hkS : (k : Int) < (S.length : Int) := by have := lBS.out; omega
          have hkS0 : k < S.length := by have := lBS.out; omega
          obtain ⟨L, hL⟩ : ∃ L, (B.getD k []).length = L := ⟨_, rfl⟩
          obtain ⟨L2, hL2⟩ : ∃ L2, (S.getD k []).length = L2 := ⟨_, rfl⟩
          rw [hL] at c0 hLn
          rw [hL2] at c1 hSn
          have HL := Lib.hid hL
          have HL2 := Lib.hid hL2
          obtain rfl : L2 = L := by omega
          subst hLn
          clear ra ra' hL hL2 hSn
          go_wp2
          go_loop [16] (fun i => ∃ j : Nat, j ≤ L2 ∧ i = .int .i64 j ∧ Hid ((BadB B S k j ∧ c = 2) ∨ (¬ BadB B S 0 0 ∧ TL lz most c))) (fun i => L2 - (intOf i).toNat)
          case atStart => exact ⟨0, by omega, rfl, hI⟩
          case round =>
            obtain ⟨j, hj, rfl, hJ⟩ := hrel
            by_cases hlt2 : j < L2
            · obtain ⟨b2, o2, rfl, lb2, d0⟩ := RA.out j (by rw [HL.out]; exact hlt2)
              obtain ⟨b3, o3, rfl, lb3, d1⟩ := RA'.out j (by rw [HL2.out]; exact hlt2)
              by_cases hb : badP ((B.getD k []).getD j 0) ((S.getD k []).getD j 0)
              · have hc : c = 2 := by
                  rcases hJ.out with ⟨_, h⟩ | ⟨h, _⟩
                  · exact h
                  · exact absurd (bad_prev (g := k) (b := j) ⟨k, j, hlt, by rw [HL.out]; exact hlt2, .inr ⟨rfl, Nat.le_refl _⟩, hb⟩) h
                subst hc
                clear hI hJ
                unfold badP at hb
                generalize (B.getD k []).getD j 0 = X at *
                generalize (S.getD k []).getD j 0 = Y at *
                by_cases t0 : X < 0
                · clear hb
                  go_wp2
                  go_ret
                  exact ⟨rfl, WB.out⟩
                by_cases t1 : 13 < X
                · clear hb
                  go_wp2
                  go_ret
                  exact ⟨rfl, WB.out⟩
                obtain ⟨h1, h2⟩ : snt X = true ∧ (Y < 0 ∨ 255 < Y) := by rcases hb with h | h | h; exact absurd h t0; exact absurd h t1; exact h
                simp only [snt, Bool.and_eq_true, decide_eq_true_eq] at h1
                obtain ⟨h1a, h1b⟩ := h1
                clear hb
                by_cases t2 : Y < 0
                · clear h2
                  go_wp2
                  go_ret
                  exact ⟨rfl, WB.out⟩
                · have t3 : 255 < Y := by omega
                  clear h2
                  go_wp2
                  go_ret
                  exact ⟨rfl, WB.out⟩
              · have hJ2 : Hid ((BadB B S k (j + 1) ∧ c = 2) ∨ (¬ BadB B S 0 0 ∧ TL lz most c)) := Lib.hid (by
                  rcases hJ.out with ⟨h, h'⟩ | h
                  · exact .inl ⟨bad_next h hb, h'⟩
                  · exact .inr h)
                clear hI hJ
                unfold badP at hb
                generalize (B.getD k []).getD j 0 = X at *
                generalize (S.getD k []).getD j 0 = Y at *
                have t0 : ¬ X < 0 := fun h => hb (.inl h)
                have t1 : ¬ 13 < X := fun h => hb (.inr (.inl h))
                by_cases t4 : X < 1
                · clear hb
                  go_wp2
                  go_round
                  case rel => exact ⟨j + 1, by omega, by go_num, hJ2⟩
                  case measure => simp [intOf]; omega
                by_cases t5 : 11 < X
                · clear hb
                  go_wp2
                  go_round
                  case rel => exact ⟨j + 1, by omega, by go_num, hJ2⟩
                  case measure => simp [intOf]; omega
                · have hs : snt X = true := by simp only [snt, Bool.and_eq_true, decide_eq_true_eq]; omega
                  have t2 : ¬ Y < 0 := fun h => hb (.inr (.inr ⟨hs, .inl h⟩))
                  have t3 : ¬ 255 < Y := fun h => hb (.inr (.inr ⟨hs, .inr h⟩))
                  have t4' : 1 ≤ X := by omega
                  have t5' : X ≤ 11 := by omega
                  clear hb hs t4 t5
                  go_wp2
                  go_round
                  case rel => exact ⟨j + 1, by omega, by go_num, hJ2⟩
                  case measure => simp [intOf]; omega
            · obtain rfl : j = L2 := by omega
              have hK : Hid ((BadB B S (k + 1) 0 ∧ c = 2) ∨ (¬ BadB B S 0 0 ∧ TL lz most c)) := Lib.hid (by
                rcases hJ.out with ⟨h, h'⟩ | h
                · exact .inl ⟨bad_row h (by rw [HL.out]; exact Nat.le_refl _), h'⟩
                · exact .inr h)
              clear hI hJ
              go_wp2
              go_round
              case rel => exact ⟨k + 1, by omega, by go_num, hK⟩
              case measure => simp [intOf]; omega
        · obtain rfl : k = B.length := by omega
          have hT : TL lz most c := by
            rcases hI.out with ⟨h, _⟩ | ⟨_, h⟩
            · exact absurd h bad_end
            · exact h
          clear hI RB2 RS2 lB lS
          rcases hT with ⟨hl, rfl⟩ | hT
          · have hl1 : ((lz.length : Int) != 256) = true := by simp; omega
            clear hl
            go_wp2
            go_ret
            exact ⟨rfl, WB.out⟩
          have hl : lz.length = 256 := by rcases hT with h | h <;> exact h.1
          have hl1 : ((lz.length : Int) != 256) = false := by simp; omega
          have HT : Hid ((∃ j, 0 ≤ j ∧ j < 256 ∧ ¬ (-most ≤ lz.getD j 0 ∧ lz.getD j 0 ≤ most) ∧ c = 2) ∨ (inr most lz ∧ c = 0)) := Lib.hid (by
            rcases hT with ⟨_, h, h'⟩ | ⟨_, h, h'⟩
            · obtain ⟨j, hj, hx⟩ : ∃ j : Nat, j < 256 ∧ ¬ (-most ≤ lz.getD j 0 ∧ lz.getD j 0 ≤ most) := Classical.byContradiction fun hn => h (fun j hj => Classical.byContradiction fun hx => hn ⟨j, hj, hx⟩)
              exact .inl ⟨j, Nat.zero_le _, hj, hx, h'⟩
            · exact .inr ⟨h, h'⟩)
          have HL3 := Lib.hid hl
          rw [hl]
          clear hT hl hll
          go_wp2
          go_loop [18] (fun i => ∃ k : Nat, k ≤ 256 ∧ i = .int .i64 k ∧ Hid ((∃ j, k ≤ j ∧ j < 256 ∧ ¬ (-most ≤ lz.getD j 0 ∧ lz.getD j 0 ≤ most) ∧ c = 2) ∨ (inr most lz ∧ c = 0))) (fun i => 256 - (intOf i).toNat)
          case atStart => exact ⟨0, by omega, rfl, HT⟩
          case round =>
            obtain ⟨k, hk, rfl, hI⟩ := hrel
            clear HT
            by_cases hlt : k < 256
            · obtain ⟨b2, o2, rfl, lb2, d0⟩ := RL2.out k (by rw [HL3.out]; exact hlt)
              have hbad : ¬ (-most ≤ lz.getD k 0 ∧ lz.getD k 0 ≤ most) → c = 2 := fun hx => by
                rcases hI.out with ⟨_, _, _, _, h⟩ | ⟨h, _⟩
                · exact h
                · exact absurd (h k hlt) hx
              have hnx : (-most ≤ lz.getD k 0 ∧ lz.getD k 0 ≤ most) → ((∃ j, k + 1 ≤ j ∧ j < 256 ∧ ¬ (-most ≤ lz.getD j 0 ∧ lz.getD j 0 ≤ most) ∧ c = 2) ∨ (inr most lz ∧ c = 0)) := fun hx => by
                rcases hI.out with ⟨j, h1, h2, h3, h4⟩ | h
                · refine .inl ⟨j, ?_, h2, h3, h4⟩
                  by_cases e : j = k
                  · subst e; exact absurd hx h3
                  · omega
                · exact .inr h
              clear hI
              generalize lz.getD k 0 = z at *
              by_cases c0 : z < -most
              · obtain rfl := hbad (by omega)
                clear hbad hnx
                go_wp2
                go_ret
                exact ⟨rfl, WB.out⟩
              by_cases c1 : most < z
              · obtain rfl := hbad (by omega)
                clear hbad hnx
                go_wp2
                go_ret
                exact ⟨rfl, WB.out⟩
              have HN := Lib.hid (hnx ⟨by omega, by omega⟩)
              clear hbad hnx
              go_wp2
              go_round
              case rel => exact ⟨k + 1, by omega, by go_num, HN⟩
              case measure => simp [intOf]; omega
            · have hend : k = 256 := by omega
              subst hend
              have hc : c = 0 := by
                rcases hI.out with ⟨j, h1, h2, _⟩ | ⟨_, h⟩
                · omega
                · exact h
              subst hc
              clear hI
              go_wp2
              go_ret
              exact ⟨rfl, WB.out⟩
/-- The document's error. -/
def AE (r s h m : Int) (gz : List Int) (B S : List (List Int)) (lz : List Int) (most c : Int) : Prop := ∃ q, QE r s h m gz B S q ∧ ((q ≠ 0 ∧ c = q) ∨ (q = 0 ∧ TL lz most c))
theorem chk_cases {r s h m : Int} {gz : List Int} : chk r s h m gz = 0 ∨ chk r s h m gz = 2 ∨ chk r s h m gz = 8 := by unfold chk; split; exact .inr (.inl rfl); split; exact .inr (.inr rfl); exact .inl rfl
theorem asked_ok (r s h m : Int) (ga : Option Addr) (gc : Nat) (gz : List Int) (O P A : Option Addr) (oc pc lc : Nat) (B S : List (List Int)) (lz : List Int) (most : Int) (w : World) (I : Inp w ga gz O P B S) (hll : lz.length ≤ 1000) (rl : RdA w A lz) (hm0 : 0 ≤ most) (hm1 : most ≤ 1099511627776) (c : Int) (hae : AE r s h m gz B S lz most c) :
    Calls Tryd.prog 54 #[.int .i64 r, .agg #[.int .u8 s, .int .u8 h, .int .i64 m, .slice ga gz.length gc], .slice O B.length oc, .slice P S.length pc, .slice A lz.length lc, .int .i64 most] w fun e w' => e = .returned (.int .i64 c) ∧ Below w.heap.size w w' := by
  obtain ⟨q, hq, hc⟩ := hae
  rcases hq with ⟨h1, h2⟩ | ⟨h1, h2, h3⟩ | ⟨h1, h2, h3, h4⟩
  · have : c = q := by rcases hc with hc | hc; exact hc.2; exact absurd hc.1 (by rw [h2]; exact h1)
    exact asked_1 r s h m ga gc gz O P A oc pc lc B S lz most w I hll rl hm0 hm1 c h1 (by rw [this, h2])
  · have : c = q := by rcases hc with hc | hc; exact hc.2; exact absurd hc.1 (by rw [h3]; decide)
    exact asked_2 r s h m ga gc gz O P A oc pc lc B S lz most w I hll rl hm0 hm1 c h1 h2 (by rw [this, h3])
  · refine asked_3 r s h m ga gc gz O P A oc pc lc B S lz most w I hll rl hm0 hm1 c h1 h2 h3 ?_
    rcases h4 with ⟨h4, h5⟩ | ⟨h4, h5⟩
    · have : c = q := by rcases hc with hc | hc; exact hc.2; exact absurd hc.1 (by rw [h5]; decide)
      exact .inl ⟨h4, by rw [this, h5]⟩
    · rcases hc with hc | hc
      · exact absurd h5 hc.1
      · exact .inr ⟨h4, hc.2⟩
end Go.Proofs.YtanjcbnkkhbkkaaDoor.Qd

/- A line's place, as the document says. -/
namespace Go.Proofs.YtanjcbnkkhbkkaaDoor.Qd
open Go Go.ChangeShapes Go.WideShapes Go.ChangeAt Go.RowKit Go.Proofs.YtanjcbnkkhbkkaaDoor.If Go.Proofs.YtanjcbnkkhbkkaaDoor.Bd Go.Proofs.YtanjcbnkkhbkkaaDoor.Qn

theorem wn_pos (s : Int) : 0 < LN s := by unfold LN; split <;> omega
theorem gA_at {s h m : Int} {gz : List Int} {r : Int} (hc : chk r s h m gz = 0) {k : Nat} (hk : k < 256) : It.gA s h m gz ((k / LN s : Nat) : Int) = (gk s gz k : Nat) := by
  unfold It.gA gk
  have h1 := chk_top hc
  have hw := ln_wn s
  have hlt : k / LN s < WN s := Nat.div_lt_of_lt_mul (by rw [Nat.mul_comm, hw]; exact hk)
  rw [if_neg]
  rw [wn_win]
  rintro (q | q | q)
  · exact q h1
  · exact Int.not_lt.2 (Int.natCast_nonneg _) q
  · exact absurd (Int.ofNat_le.1 q) (Nat.not_le.2 hlt)
set_option maxRecDepth 100000 in
set_option maxHeartbeats 4000000 in
theorem place_w (r s h m : Int) (ga : Option Addr) (gc : Nat) (gz : List Int) (n : Nat) (w : World) (hc : chk r s h m gz = 0) (hgl : gz.length ≤ 1000) (hg : RdA w ga gz) (hn : n < 256) :
    Calls Tryd.prog 55 #[.int .i64 r, .agg #[.int .u8 s, .int .u8 h, .int .i64 m, .slice ga gz.length gc], .int .i64 n] w fun e w' => e = .returned (.tuple #[.int .i64 (gk s gz n : Nat), .int .i64 (bk r s n : Nat)]) ∧ Below w.heap.size w w' := by
  have HB := Lib.hid (box_below w (.cells #[.int .u8 s, .int .u8 h, .int .i64 m, .slice ga gz.length gc] 50))
  obtain ⟨r0, r1⟩ := chk_rate hc
  have HX := Lib.hid (fun x hx => boxed w s h m (.slice ga gz.length gc) x hx)
  have HO := Lib.hid (fun W => roff_row r (s == 2) W r0 r1)
  have HG := Lib.hid (fun W (hW : Below w.heap.size w W) => It.rgroup_k s h m ga gc gz ((n / LN s : Nat) : Int) W hgl (hg.below hW) (Int.le_trans (by decide) (Int.natCast_nonneg _)) (Int.le_trans (Int.ofNat_le.2 (Nat.div_le_self n (LN s))) (by omega)))
  have hga := gA_at hc hn
  rw [hga] at HG
  obtain ⟨F0, F1, F2, F3, F4, F5⟩ := fact r (s == 2) r0 r1
  have HBK := Lib.hid (fun b hb => bk_eq (s := s) r0 r1 (k := n) (b := b) hb)
  have hmod : ((n % LN s : Nat) : Int) < nOf (s == 2) := by rw [ln_nof]; exact Int.ofNat_lt.2 (Nat.mod_lt _ (wn_pos s))
  generalize It.gB s h m gz ((n / LN s : Nat) : Int) = E at *
  generalize gk s gz n = G at *
  generalize hbk : bk r s n = K at *
  clear hg hc hga hbk
  obtain ⟨LL, hLL⟩ : ∃ LL, L r (s == 2) = LL := ⟨_, rfl⟩
  rw [hLL] at HO F0 F1 F2 F3 F4 F5 HBK
  clear hLL
  generalize nOf (s == 2) = NN at *
  have F4 := Lib.hid F4
  have F5 := Lib.hid F5
  have F3 := Lib.hid F3
  by_cases hs : s = 2
  · subst hs
    have hln : LN 2 = 32 := rfl
    rw [hln] at HG HBK hmod
    have d1 : Int.tdiv (n : Int) 32 = ((n / 32 : Nat) : Int) := by rw [Int.tdiv_eq_ediv_of_nonneg (by omega)]; omega
    have d2 : Int.tmod (n : Int) 32 = ((n % 32 : Nat) : Int) := by rw [Int.tmod_eq_emod_of_nonneg (by omega)]; omega
    have e22 : ((2 : Int) == 2) = true := rfl
    rw [e22] at HO
    have wq : n / 32 ≤ 8 := by omega
    generalize n / 32 = W at *
    generalize n % 32 = x at *
    go_enter Tryd.func55, Tryd.ntmps55
    go_wp2_with (go_at_call 77; ((with_reducible refine (HO.out _).mono ?_); rintro e w1 ⟨g, cap, rfl, hg1, hrow, hb1⟩; have B1 := Lib.hid (belowT HB.out hb1); have Z1 := Lib.hid hb1; have HR := Lib.hid hrow; clear hb1 hrow))
    go_loop [12] (fun i => ∃ b : Nat, i = .int .i64 b ∧ b + 1 < LL.length ∧ LL.getD b 0 ≤ (x : Int)) (fun i => LL.length - (intOf i).toNat)
    case atStart => exact ⟨0, rfl, by omega, by rw [F2]; omega⟩
    case round =>
      obtain ⟨b, rfl, hb1, hb2⟩ := hrel
      have c := HR.out.cell (i := b + 1) hb1
      have i0' : (0 : Int) ≤ (b : Int) + 1 := by omega
      have i1' : (b : Int) + 1 < (LL.length : Int) := by omega
      have tn : ((b : Int) + 1).toNat = b + 1 := by omega
      have hlast : ¬ (x : Int) < LL.getD (b + 1) 0 → b + 1 + 1 < LL.length := fun q => by
        have h3 := F3.out
        by_cases e : b + 1 = LL.length - 1
        · rw [← e] at h3; omega
        · omega
      have hbk := fun q => HBK.out b ⟨hb1, hb2, q⟩
      obtain ⟨y, hy⟩ : ∃ y, LL.getD (b + 1) 0 = y := ⟨_, rfl⟩
      rw [hy] at c hlast hbk
      have HY := Lib.hid hy
      clear hy
      by_cases q : (x : Int) < y
      · obtain rfl := hbk q
        have q2 : ¬ y ≤ (x : Int) := by omega
        clear hbk hlast q hb2
        obtain ⟨z0, z1, z2, z3⟩ := HX.out w1 Z1.out
        go_wp2_with (go_at_call 78; ((with_reducible refine (HG.out _ B1.out).mono ?_); rintro e w2 ⟨rfl, hb2⟩))
        go_ret2
        exact ⟨rfl, belowT B1.out hb2⟩
      · have q2 : y ≤ (x : Int) := by omega
        have hn2 := hlast q
        clear hbk hlast q
        go_wp2
        go_round
        case rel => exact ⟨b + 1, by go_num, hn2, by rw [HY.out]; exact q2⟩
        case measure => simp [intOf]; omega
  · have hln : LN s = 256 := by unfold LN; rw [if_neg hs]
    rw [hln, Nat.div_eq_of_lt hn] at HG
    rw [hln, Nat.mod_eq_of_lt hn] at HBK hmod
    have e22 : (s == 2) = false := by simpa using hs
    rw [e22] at HO
    obtain ⟨x, hx⟩ : ∃ x, n = x := ⟨_, rfl⟩
    have HG : Hid (∀ W, Below w.heap.size w W → Calls Tryd.prog 78 #[.agg #[.int .u8 s, .int .u8 h, .int .i64 m, .slice ga gz.length gc], .int .i64 0] W fun e w' => e = .returned (.tuple #[.int .i64 (G : Nat), .int .i64 E]) ∧ Below W.heap.size W w') := HG
    rw [hx] at HBK hmod
    rw [hx]
    clear hx
    go_enter Tryd.func55, Tryd.ntmps55
    go_wp2_with (go_at_call 77; ((with_reducible refine (HO.out _).mono ?_); rintro e w1 ⟨g, cap, rfl, hg1, hrow, hb1⟩; have B1 := Lib.hid (belowT HB.out hb1); have Z1 := Lib.hid hb1; have HR := Lib.hid hrow; clear hb1 hrow))
    go_loop [12] (fun i => ∃ b : Nat, i = .int .i64 b ∧ b + 1 < LL.length ∧ LL.getD b 0 ≤ (x : Int)) (fun i => LL.length - (intOf i).toNat)
    case atStart => exact ⟨0, rfl, by omega, by rw [F2]; omega⟩
    case round =>
      obtain ⟨b, rfl, hb1, hb2⟩ := hrel
      have c := HR.out.cell (i := b + 1) hb1
      have i0' : (0 : Int) ≤ (b : Int) + 1 := by omega
      have i1' : (b : Int) + 1 < (LL.length : Int) := by omega
      have tn : ((b : Int) + 1).toNat = b + 1 := by omega
      have hlast : ¬ (x : Int) < LL.getD (b + 1) 0 → b + 1 + 1 < LL.length := fun q => by
        have h3 := F3.out
        by_cases e : b + 1 = LL.length - 1
        · rw [← e] at h3; omega
        · omega
      have hbk := fun q => HBK.out b ⟨hb1, hb2, q⟩
      obtain ⟨y, hy⟩ : ∃ y, LL.getD (b + 1) 0 = y := ⟨_, rfl⟩
      rw [hy] at c hlast hbk
      have HY := Lib.hid hy
      clear hy
      by_cases q : (x : Int) < y
      · obtain rfl := hbk q
        have q2 : ¬ y ≤ (x : Int) := by omega
        clear hbk hlast q hb2
        obtain ⟨z0, z1, z2, z3⟩ := HX.out w1 Z1.out
        go_wp2_with (go_at_call 78; ((with_reducible refine (HG.out _ B1.out).mono ?_); rintro e w2 ⟨rfl, hb2⟩))
        go_ret2
        exact ⟨rfl, belowT B1.out hb2⟩
      · have q2 : y ≤ (x : Int) := by omega
        have hn2 := hlast q
        clear hbk hlast q
        go_wp2
        go_round
        case rel => exact ⟨b + 1, by go_num, hn2, by rw [HY.out]; exact q2⟩
        case measure => simp [intOf]; omega
/-- Is a line of so much sent? -/
theorem sent_w (s h m : Int) (ga : Option Addr) (gc : Nat) (gz : List Int) (O : Option Addr) (oc : Nat) (B : List (List Int)) (g b : Nat) (w : World) (rB : RdR w O B) (hgB : g < B.length) (hlen : ((B.getD g []).length : Int) = m) :
    Calls Tryd.prog 56 #[.agg #[.int .u8 s, .int .u8 h, .int .i64 m, .slice ga gz.length gc], .slice O B.length oc, .int .i64 g, .int .i64 b] w fun e w' => e = .returned (.bool (decide ((b : Int) < m) && snt ((B.getD g []).getD b 0))) ∧ Below w.heap.size w w' := by
  have HB := Lib.hid (box_below w (.cells #[.int .u8 s, .int .u8 h, .int .i64 m, .slice ga gz.length gc] 50))
  obtain ⟨z0, z1, z2, z3⟩ := boxed w s h m (.slice ga gz.length gc) _ (Below.refl _ _)
  obtain ⟨bb, off, a, ca, rfl, lb, c0, ra⟩ := (rB.below HB.out) g hgB
  by_cases t0 : (b : Int) < m
  · obtain ⟨b2, o2, rfl, lb2, d0⟩ := ra b (by omega)
    rw [show decide ((b : Int) < m) = true from decide_eq_true t0, Bool.true_and]
    obtain ⟨Lg, hL⟩ : ∃ Lg, (B.getD g []).length = Lg := ⟨_, rfl⟩
    rw [hL] at c0 hlen
    subst hlen
    clear ra hL rB
    generalize (B.getD g []).getD b 0 = X at *
    by_cases t1 : 1 ≤ X
    · by_cases t2 : X ≤ 11
      · rw [show snt X = true by unfold snt; simp [t1, t2]]
        go_enter Tryd.func56, Tryd.ntmps56
        go_wp2
        go_ret
        exact ⟨rfl, HB.out⟩
      · rw [show snt X = false by unfold snt; simp [t2]]
        go_enter Tryd.func56, Tryd.ntmps56
        go_wp2
        go_ret
        exact ⟨rfl, HB.out⟩
    · rw [show snt X = false by unfold snt; simp [t1]]
      go_enter Tryd.func56, Tryd.ntmps56
      go_wp2
      go_ret
      exact ⟨rfl, HB.out⟩
  · rw [show decide ((b : Int) < m) = false from decide_eq_false t0, Bool.false_and]
    clear ra rB c0 hlen
    go_enter Tryd.func56, Tryd.ntmps56
    go_wp2
    go_ret
    exact ⟨rfl, HB.out⟩
end Go.Proofs.YtanjcbnkkhbkkaaDoor.Qd

/- Lines and Quantise, as the document says. -/
namespace Go.Proofs.YtanjcbnkkhbkkaaDoor.Qd
open Go Go.ChangeShapes Go.WideShapes Go.ChangeAt Go.RowKit Go.Proofs.YtanjcbnkkhbkkaaDoor.If Go.Proofs.YtanjcbnkkhbkkaaDoor.Bd Go.Proofs.YtanjcbnkkhbkkaaDoor.Qn

theorem infoI : (Tryd.prog.info? 3).map (fun i => (i.zero, i.size, i.bytes)) = some (some (.int .i64 0), 1, 8) := by kernel_rfl
theorem NQ_nil {T : Int} (t0 : 0 ≤ T) : Fx.NQ 0 T = 0 := by
  have h1 := (Fx.ln_bd (q := 0) t0 (by decide)).1
  have h2 := (Fx.ln_bd (q := 0 + 1) t0 (by decide)).1
  have h : Fx.Near 0 T 0 := ⟨by decide, by decide, .inr (by omega), .inl rfl⟩
  have h3 := Fx.nq_of t0 h
  unfold Fx.NQ
  rw [if_neg (by decide)]
  exact h3.symm
theorem qv_lines {r s h m : Int} {gz : List Int} {B S : List (List Int)} {lz : List Int} (hf : Fine r s h m gz B S lz 8191) {k : Nat} (hk : k < 256) (c : Cn r s m gz B k) : QV r s m gz B S lz Fx.FL k = Fx.LN (lz.getD k 0) (stp r s gz S k) := by
  obtain ⟨hq, _, hin⟩ := hf
  obtain ⟨t0, t1⟩ := step_in hq hk c
  rw [qv_st]
  exact st_fl c t0 t1 (hin k hk).1 (hin k hk).2
theorem qv_quant {r s h m : Int} {gz : List Int} {B S : List (List Int)} {lz : List Int} (hf : Fine r s h m gz B S lz 268435455) {k : Nat} (hk : k < 256) (c : Cn r s m gz B k) : QV r s m gz B S lz Fx.FQ k = Fx.NQ (lz.getD k 0) (stp r s gz S k) := by
  obtain ⟨hq, _, hin⟩ := hf
  obtain ⟨t0, t1⟩ := step_in hq hk c
  rw [qv_st]
  by_cases hx : lz.getD k 0 = 0
  · rw [hx, st_zero, NQ_nil t0]
  · exact st_fq c t0 t1 (hin k hk).1 (hin k hk).2 hx
theorem qv_none {r s h m : Int} {gz : List Int} {B S : List (List Int)} {lz : List Int} {f : Int → Int → Int} {k : Nat} (c : ¬ Cn r s m gz B k) : QV r s m gz B S lz f k = 0 := by rw [qv_st]; exact st_not c _ _ _
set_option maxRecDepth 100000 in
theorem rlines_err (r s h m : Int) (ga : Option Addr) (gc : Nat) (gz : List Int) (O P A : Option Addr) (oc pc lc : Nat) (B S : List (List Int)) (lz : List Int) (w : World) (I : Inp w ga gz O P B S) (hll : lz.length ≤ 1000) (rl : RdA w A lz) (c : Int) (hc : c ≠ 0) (hae : AE r s h m gz B S lz 8191 c) :
    Calls Tryd.prog 32 #[.int .i64 r, .agg #[.int .u8 s, .int .u8 h, .int .i64 m, .slice ga gz.length gc], .slice O B.length oc, .slice P S.length pc, .slice A lz.length lc] w fun e w' => e = .returned (.tuple #[.slice none 0 0, .int .i64 c]) ∧ Below w.heap.size w w' := by
  have HB := Lib.hid (box_below w (.cells #[.int .u8 s, .int .u8 h, .int .i64 m, .slice ga gz.length gc] 50))
  have HC := Lib.hid (asked_ok r s h m ga gc gz O P A oc pc lc B S lz 8191 _ (I.below HB.out) hll (rl.below HB.out) (by decide) (by decide) c hae)
  have hc2 : (c != 0) = true := by simp [hc]
  clear I rl hae
  go_enter Tryd.func32, Tryd.ntmps32
  go_wp2_with (go_at_call 54; ((with_reducible refine (HC.out).mono ?_); rintro e w1 ⟨rfl, hb1⟩; have B1 := Lib.hid (belowT HB.out hb1)))
  go_ret2
  exact ⟨rfl, B1.out⟩
set_option maxRecDepth 100000 in
set_option maxHeartbeats 4000000 in
theorem rlines_ok (r s h m : Int) (ga : Option Addr) (gc : Nat) (gz : List Int) (O P A : Option Addr) (oc pc lc : Nat) (B S : List (List Int)) (lz : List Int) (w : World) (I : Inp w ga gz O P B S) (rl : RdA w A lz) (hf : Fine r s h m gz B S lz 8191) :
    Calls Tryd.prog 32 #[.int .i64 r, .agg #[.int .u8 s, .int .u8 h, .int .i64 m, .slice ga gz.length gc], .slice O B.length oc, .slice P S.length pc, .slice A lz.length lc] w fun e w' => Ansr w w' e (QV r s m gz B S lz Fx.FL) := by
  obtain ⟨i0, hi, hz0, hz1, hz2⟩ := info_parts infoI
  have HB := Lib.hid (box_below w (.cells #[.int .u8 s, .int .u8 h, .int .i64 m, .slice ga gz.length gc] 50))
  have hae : AE r s h m gz B S lz 8191 0 := ⟨0, hf.1, .inr ⟨rfl, .inr (.inr ⟨hf.2.1, hf.2.2, rfl⟩)⟩⟩
  have hlz := hf.2.1
  have HC := Lib.hid (asked_ok r s h m ga gc gz O P A oc pc lc B S lz 8191 _ (I.below HB.out) (by omega) (rl.below HB.out) (by decide) (by decide) 0 hae)
  have HX := Lib.hid (fun x hx => boxed w s h m (.slice ga gz.length gc) x hx)
  obtain ⟨hck, hBl, hSl, hBm, hSm, hnb⟩ := qe_zero hf.1
  have HPL := Lib.hid (fun (k : Nat) (hk : k < 256) W (hW : Below w.heap.size w W) => place_w r s h m ga gc gz k W hck (by have := I.gl; omega) (I.hg.below hW) hk)
  have HGK := Lib.hid (fun (k : Nat) (hk : k < 256) => gk_lt hck hk)
  have HSE := Lib.hid (fun (k : Nat) (hk : k < 256) W (hW : Below w.heap.size w W) => sent_w s h m ga gc gz O oc B (gk s gz k) (bk r s k) W (I.rB.below hW) (by have := gk_lt hck hk; omega) (hBm _ (by have := gk_lt hck hk; omega)))
  have HRS := Lib.hid (fun W (hW : Below w.heap.size w W) => I.rS.below hW)
  have HRL := Lib.hid (fun W (hW : Below w.heap.size w W) => rl.below hW)
  have HQ := Lib.hid (fun (k : Nat) (hk : k < 256) => qv_lines hf (k := k) hk)
  have HQ0 := Lib.hid (fun (k : Nat) (c : ¬ Cn r s m gz B k) => qv_none (h := h) (S := S) (lz := lz) (f := Fx.FL) c)
  have HST := Lib.hid (fun (k : Nat) (hk : k < 256) => step_in hf.1 (k := k) hk)
  have HIN := Lib.hid hf.2.2
  have HSL := Lib.hid (show S.length = gz.length from hSl)
  have HSM := Lib.hid hSm
  have HLZ := Lib.hid hlz
  clear I rl hf hae hck hBl hSl hBm hSm hnb hlz
  generalize QV r s m gz B S lz Fx.FL = Q at *
  go_enter Tryd.func32, Tryd.ntmps32
  go_wp2_with (first | (go_at_call 54; ((with_reducible refine (HC.out).mono ?_); rintro e w1 ⟨rfl, hb1⟩; have B1 := Lib.hid (belowT HB.out hb1); have Z1 := Lib.hid hb1; clear hb1)) | (refine wpList_make_row _ rfl _ _ 39 rfl 3 i0 (.int .i64 0) Tryd.underlying39 hi hz0 hz1 rfl .i64 .i64 256 rfl rfl (by rw [hz2]; omega) (by omega) ?_))
  have hrow : Hid ((w1.alloc (.cells (madeCells #[.int .i64 0] 256) 3)).rowIs w1.heap.size 3 256 (Lo.fillF Q 0)) := Lib.hid ((World.rowIs_made w1 (.int .i64 0) 256 3).congr fun i _ => by unfold Lo.fillF; rw [if_neg (by omega)])
  have hbel : Below w1.heap.size w1 (w1.alloc (.cells (madeCells #[.int .i64 0] 256) 3)) := (Below.refl _ _).alloc (Nat.le_refl _) _
  go_loopw [14] (fun i wr => ∃ k : Nat, k ≤ 256 ∧ i = .int .i64 k ∧ Hid (wr.rowIs w1.heap.size 3 256 (Lo.fillF Q k)) ∧ Below w1.heap.size w1 wr) (fun i _ => 256 - (intOf i).toNat)
  case atStart => exact ⟨0, by omega, rfl, hrow, hbel⟩
  case round =>
    obtain ⟨k, hk, rfl, hR, hb⟩ := hrel
    clear hrow hbel
    by_cases hlt : k < 256
    · obtain ⟨z0, z1, z2, z3⟩ := HX.out wr (belowT Z1.out hb)
      have hP := Lib.hid (HPL.out k hlt wr (belowT B1.out hb))
      have hSE := Lib.hid (HSE.out k hlt)
      have hQ := Lib.hid (HQ.out k hlt)
      have hQ0 := Lib.hid (HQ0.out k)
      have hST := Lib.hid (HST.out k hlt)
      have hgk := HGK.out k hlt
      have hin := HIN.out k hlt
      have hgS : gk s gz k < S.length := by have := HSL.out; omega
      obtain ⟨bS, oS, aS, cS, rfl, lS, cellS, raS⟩ := HRS.out w1 B1.out (gk s gz k) hgS
      obtain ⟨bL, oL, rfl, lL, cellL⟩ := HRL.out w1 B1.out k (by rw [HLZ.out]; exact hlt)
      have hSmk := HSM.out (gk s gz k) hgS
      have hCn : Cn r s m gz B k ↔ (decide ((bk r s k : Int) < m) && snt ((B.getD (gk s gz k) []).getD (bk r s k) 0)) = true := by unfold Cn; simp
      have hcond : Hid ((decide ((bk r s k : Int) < m) && snt ((B.getD (gk s gz k) []).getD (bk r s k) 0)) = true → (bk r s k : Int) < m) := Lib.hid (fun q => by simp at q; exact q.1)
      have hstp : Hid (stp r s gz S k = (S.getD (gk s gz k) []).getD (bk r s k) 0) := Lib.hid rfl
      generalize hK : (decide ((bk r s k : Int) < m) && snt ((B.getD (gk s gz k) []).getD (bk r s k) 0)) = K at *
      clear hK
      cases K
      · have hq0 := hQ0.out (fun q => absurd (hCn.1 q) (by decide))
        have hR2 : Hid (∀ W, Below wr.heap.size wr W → W.rowIs w1.heap.size 3 256 (Lo.fillF Q (k + 1))) := Lib.hid (fun W hW => (hR.out.of_block (hW.block _ hR.out.lt)).congr fun i _ => by
          unfold Lo.fillF
          by_cases e : i = k
          · subst e; rw [if_neg (by omega), if_pos (by omega), hq0]
          · by_cases e2 : i < k
            · rw [if_pos e2, if_pos (by omega)]
            · rw [if_neg e2, if_neg (by omega)])
        clear hR hQ hQ0 hST hCn hcond hstp hq0 hgk hin hgS cellS raS cellL hSmk
        generalize gk s gz k = G at *
        generalize bk r s k = D at *
        go_wp2_with (first
          | (go_at_call 55; ((with_reducible refine (hP.out).mono ?_); rintro e w3 ⟨rfl, hb3⟩; have B3 := Lib.hid hb3; have B3' := Lib.hid (hb.trans (hb3.mono hb.size)); clear hb3 z0 z1 z2 z3; obtain ⟨z0, z1, z2, z3⟩ := HX.out w3 (belowT Z1.out B3'.out)))
          | (go_at_call 56; ((with_reducible refine (hSE.out w3 (belowT B1.out B3'.out)).mono ?_); rintro e w4 ⟨rfl, hb4⟩; have B4 := Lib.hid (belowT B3.out hb4); have B4' := Lib.hid (B3'.out.trans (hb4.mono B3'.out.size)); clear hb4)))
        go_roundw
        case rel => exact ⟨k + 1, by omega, by go_num, Lib.hid (hR2.out w4 B4.out), B4'.out⟩
        case measure => simp [intOf]; omega
      · have hCk := hCn.2 rfl
        have hq1 := hQ.out hCk
        have hD := hcond.out rfl
        obtain ⟨t0, t1⟩ := hST.out hCk
        have hDl : bk r s k < (S.getD (gk s gz k) []).length := by omega
        obtain ⟨bT, oT, rfl, lT, cellT⟩ := raS (bk r s k) hDl
        rw [← hstp.out] at cellT
        obtain ⟨i0', i1'⟩ := hin
        clear hQ hQ0 hST hCn hcond hstp raS hCk
        generalize stp r s gz S k = TT at *
        generalize (S.getD (gk s gz k) []).length = Ls at *
        generalize lz.getD k 0 = z at *
        generalize gk s gz k = G at *
        generalize bk r s k = D at *
        have HV := Lib.hid (fun W => Fx.value_ok z TT W i0' i1' t0 t1)
        have hqk := Lib.hid hq1
        clear hq1
        generalize Fx.LN z TT = v at *
        have hneS : bS ≠ w1.heap.size := by omega
        have hneL : bL ≠ w1.heap.size := by omega
        have hneT : bT ≠ w1.heap.size := by omega
        have hGi : (G : Int) < (S.length : Int) := by omega
        have hG0 : (0 : Int) ≤ (G : Int) := by omega
        have hDi : (D : Int) < (Ls : Int) := by omega
        have hD0 : (0 : Int) ≤ (D : Int) := by omega
        have hk0 : (0 : Int) ≤ (k : Int) := by omega
        have hk1 : (k : Int) < 256 := by omega
        have hk2 : (k : Int) < (lz.length : Int) := by have := HLZ.out; omega
        have KF : Hid (∀ W, Below w1.heap.size w1 W → W.cell? ⟨bS, oS + G, none⟩ = some (.slice (some ⟨bT, oT, none⟩) Ls cS) ∧ W.cell? ⟨bL, oL + k, none⟩ = some (.int .i64 z) ∧ W.cell? ⟨bT, oT + D, none⟩ = some (.int .i64 TT)) := Lib.hid (fun W hW => ⟨(hW.cell (p := ⟨bS, oS + G, none⟩) lS).trans cellS, (hW.cell (p := ⟨bL, oL + k, none⟩) lL).trans cellL, (hW.cell (p := ⟨bT, oT + D, none⟩) lT).trans cellT⟩)
        clear cellS cellL cellT hSmk hD hDl hgk hgS
        go_wp2_with (first
          | (go_at_call 55; ((with_reducible refine (hP.out).mono ?_); rintro e w3 ⟨rfl, hb3⟩; have B3 := Lib.hid hb3; have B3' := Lib.hid (hb.trans (hb3.mono hb.size)); clear hb3 z0 z1 z2 z3; obtain ⟨z0, z1, z2, z3⟩ := HX.out w3 (belowT Z1.out B3'.out)))
          | (go_at_call 56; ((with_reducible refine (hSE.out w3 (belowT B1.out B3'.out)).mono ?_); rintro e w4 ⟨rfl, hb4⟩; have B4 := Lib.hid (belowT B3.out hb4); have B4' := Lib.hid (B3'.out.trans (hb4.mono B3'.out.size)); clear hb4)))
        have hR4 := Lib.hid (hR.out.of_block (B4.out.block _ hR.out.lt))
        obtain ⟨x1, x2, x3⟩ := KF.out w4 B4'.out
        have y1 := hR4.out.cell (i := k) hlt
        have y2 := hR4.out.frozen k
        have iso : (w4.cell? ⟨w1.heap.size, k, none⟩).isSome = true := by rw [y1]; rfl
        clear z0 z1 z2 z3
        go_region_held3 (fun W => W.cell? ⟨bS, oS + G, none⟩ = some (.slice (some ⟨bT, oT, none⟩) Ls cS) ∧ W.cell? ⟨bL, oL + k, none⟩ = some (.int .i64 z) ∧ W.cell? ⟨bT, oT + D, none⟩ = some (.int .i64 TT) ∧ (W.cell? ⟨w1.heap.size, k, none⟩).isSome = true ∧ W.frozen? ⟨w1.heap.size, k, none⟩ = false) (simp (maxDischargeDepth := 8) [go_sem, x1, x2, x3, y1, y2, iso, hneS, hneL, hneT, Ne.symm hneS, Ne.symm hneL, Ne.symm hneT]) ((go_at_call 44; ((with_reducible refine (HV.out _).mono ?_); rintro e w5 ⟨rfl, rfl⟩)))
        rename_i hS
        clear hS x1 x2 x3 y1 y2 iso
        have N1 : Hid (((w4.setCell ⟨w1.heap.size, k, none⟩ (.int .i64 v)).drew).rowIs w1.heap.size 3 256 (Lo.fillF Q (k + 1))) := Lib.hid ((Lo.fill_step hR4.out hqk.out.symm).of_block rfl)
        have N2 := Lib.hid ((B4'.out.setCell (p := ⟨w1.heap.size, k, none⟩) (Nat.le_refl _) (.int .i64 v)).drew)
        go_wp2
        go_roundw
        case rel => exact ⟨k + 1, by omega, by go_num, N1, N2.out⟩
        case measure => simp [intOf]; omega
    · have hend : k = 256 := by omega
      subst hend
      have hE := Lib.hid (Lo.fill_end hR.out)
      have hBE := Lib.hid (belowT B1.out hb)
      have hsz := B1.out.size
      clear hR hb
      go_wp2
      go_ret2
      exact ⟨w1.heap.size, rfl, hE.out, hsz, hBE.out⟩
set_option maxRecDepth 100000 in
theorem rquant_err (r s h m : Int) (ga : Option Addr) (gc : Nat) (gz : List Int) (O P A : Option Addr) (oc pc lc : Nat) (B S : List (List Int)) (lz : List Int) (w : World) (I : Inp w ga gz O P B S) (hll : lz.length ≤ 1000) (rl : RdA w A lz) (c : Int) (hc : c ≠ 0) (hae : AE r s h m gz B S lz 268435455 c) :
    Calls Tryd.prog 34 #[.int .i64 r, .agg #[.int .u8 s, .int .u8 h, .int .i64 m, .slice ga gz.length gc], .slice O B.length oc, .slice P S.length pc, .slice A lz.length lc] w fun e w' => e = .returned (.tuple #[.slice none 0 0, .int .i64 c]) ∧ Below w.heap.size w w' := by
  have HB := Lib.hid (box_below w (.cells #[.int .u8 s, .int .u8 h, .int .i64 m, .slice ga gz.length gc] 50))
  have HC := Lib.hid (asked_ok r s h m ga gc gz O P A oc pc lc B S lz 268435455 _ (I.below HB.out) hll (rl.below HB.out) (by decide) (by decide) c hae)
  have hc2 : (c != 0) = true := by simp [hc]
  clear I rl hae
  go_enter Tryd.func34, Tryd.ntmps34
  go_wp2_with (go_at_call 54; ((with_reducible refine (HC.out).mono ?_); rintro e w1 ⟨rfl, hb1⟩; have B1 := Lib.hid (belowT HB.out hb1)))
  go_ret2
  exact ⟨rfl, B1.out⟩
set_option maxRecDepth 100000 in
set_option maxHeartbeats 4000000 in
theorem rquant_ok (r s h m : Int) (ga : Option Addr) (gc : Nat) (gz : List Int) (O P A : Option Addr) (oc pc lc : Nat) (B S : List (List Int)) (lz : List Int) (w : World) (I : Inp w ga gz O P B S) (rl : RdA w A lz) (hf : Fine r s h m gz B S lz 268435455) :
    Calls Tryd.prog 34 #[.int .i64 r, .agg #[.int .u8 s, .int .u8 h, .int .i64 m, .slice ga gz.length gc], .slice O B.length oc, .slice P S.length pc, .slice A lz.length lc] w fun e w' => Ansr w w' e (QV r s m gz B S lz Fx.FQ) := by
  obtain ⟨i0, hi, hz0, hz1, hz2⟩ := info_parts infoI
  have HB := Lib.hid (box_below w (.cells #[.int .u8 s, .int .u8 h, .int .i64 m, .slice ga gz.length gc] 50))
  have hae : AE r s h m gz B S lz 268435455 0 := ⟨0, hf.1, .inr ⟨rfl, .inr (.inr ⟨hf.2.1, hf.2.2, rfl⟩)⟩⟩
  have hlz := hf.2.1
  have HC := Lib.hid (asked_ok r s h m ga gc gz O P A oc pc lc B S lz 268435455 _ (I.below HB.out) (by omega) (rl.below HB.out) (by decide) (by decide) 0 hae)
  have HX := Lib.hid (fun x hx => boxed w s h m (.slice ga gz.length gc) x hx)
  obtain ⟨hck, hBl, hSl, hBm, hSm, hnb⟩ := qe_zero hf.1
  have HPL := Lib.hid (fun (k : Nat) (hk : k < 256) W (hW : Below w.heap.size w W) => place_w r s h m ga gc gz k W hck (by have := I.gl; omega) (I.hg.below hW) hk)
  have HGK := Lib.hid (fun (k : Nat) (hk : k < 256) => gk_lt hck hk)
  have HSE := Lib.hid (fun (k : Nat) (hk : k < 256) W (hW : Below w.heap.size w W) => sent_w s h m ga gc gz O oc B (gk s gz k) (bk r s k) W (I.rB.below hW) (by have := gk_lt hck hk; omega) (hBm _ (by have := gk_lt hck hk; omega)))
  have HRS := Lib.hid (fun W (hW : Below w.heap.size w W) => I.rS.below hW)
  have HRL := Lib.hid (fun W (hW : Below w.heap.size w W) => rl.below hW)
  have HQ := Lib.hid (fun (k : Nat) (hk : k < 256) => qv_quant hf (k := k) hk)
  have HQ0 := Lib.hid (fun (k : Nat) (c : ¬ Cn r s m gz B k) => qv_none (h := h) (S := S) (lz := lz) (f := Fx.FQ) c)
  have HST := Lib.hid (fun (k : Nat) (hk : k < 256) => step_in hf.1 (k := k) hk)
  have HIN := Lib.hid hf.2.2
  have HSL := Lib.hid (show S.length = gz.length from hSl)
  have HSM := Lib.hid hSm
  have HLZ := Lib.hid hlz
  clear I rl hf hae hck hBl hSl hBm hSm hnb hlz
  generalize QV r s m gz B S lz Fx.FQ = Q at *
  go_enter Tryd.func34, Tryd.ntmps34
  go_wp2_with (first | (go_at_call 54; ((with_reducible refine (HC.out).mono ?_); rintro e w1 ⟨rfl, hb1⟩; have B1 := Lib.hid (belowT HB.out hb1); have Z1 := Lib.hid hb1; clear hb1)) | (refine wpList_make_row _ rfl _ _ 39 rfl 3 i0 (.int .i64 0) Tryd.underlying39 hi hz0 hz1 rfl .i64 .i64 256 rfl rfl (by rw [hz2]; omega) (by omega) ?_))
  have hrow : Hid ((w1.alloc (.cells (madeCells #[.int .i64 0] 256) 3)).rowIs w1.heap.size 3 256 (Lo.fillF Q 0)) := Lib.hid ((World.rowIs_made w1 (.int .i64 0) 256 3).congr fun i _ => by unfold Lo.fillF; rw [if_neg (by omega)])
  have hbel : Below w1.heap.size w1 (w1.alloc (.cells (madeCells #[.int .i64 0] 256) 3)) := (Below.refl _ _).alloc (Nat.le_refl _) _
  go_loopw [14] (fun i wr => ∃ k : Nat, k ≤ 256 ∧ i = .int .i64 k ∧ Hid (wr.rowIs w1.heap.size 3 256 (Lo.fillF Q k)) ∧ Below w1.heap.size w1 wr) (fun i _ => 256 - (intOf i).toNat)
  case atStart => exact ⟨0, by omega, rfl, hrow, hbel⟩
  case round =>
    obtain ⟨k, hk, rfl, hR, hb⟩ := hrel
    clear hrow hbel
    by_cases hlt : k < 256
    · obtain ⟨z0, z1, z2, z3⟩ := HX.out wr (belowT Z1.out hb)
      have hP := Lib.hid (HPL.out k hlt wr (belowT B1.out hb))
      have hSE := Lib.hid (HSE.out k hlt)
      have hQ := Lib.hid (HQ.out k hlt)
      have hQ0 := Lib.hid (HQ0.out k)
      have hST := Lib.hid (HST.out k hlt)
      have hgk := HGK.out k hlt
      have hin := HIN.out k hlt
      have hgS : gk s gz k < S.length := by have := HSL.out; omega
      obtain ⟨bS, oS, aS, cS, rfl, lS, cellS, raS⟩ := HRS.out w1 B1.out (gk s gz k) hgS
      obtain ⟨bL, oL, rfl, lL, cellL⟩ := HRL.out w1 B1.out k (by rw [HLZ.out]; exact hlt)
      have hSmk := HSM.out (gk s gz k) hgS
      have hCn : Cn r s m gz B k ↔ (decide ((bk r s k : Int) < m) && snt ((B.getD (gk s gz k) []).getD (bk r s k) 0)) = true := by unfold Cn; simp
      have hcond : Hid ((decide ((bk r s k : Int) < m) && snt ((B.getD (gk s gz k) []).getD (bk r s k) 0)) = true → (bk r s k : Int) < m) := Lib.hid (fun q => by simp at q; exact q.1)
      have hstp : Hid (stp r s gz S k = (S.getD (gk s gz k) []).getD (bk r s k) 0) := Lib.hid rfl
      generalize hK : (decide ((bk r s k : Int) < m) && snt ((B.getD (gk s gz k) []).getD (bk r s k) 0)) = K at *
      clear hK
      cases K
      · have hq0 := hQ0.out (fun q => absurd (hCn.1 q) (by decide))
        have hR2 : Hid (∀ W, Below wr.heap.size wr W → W.rowIs w1.heap.size 3 256 (Lo.fillF Q (k + 1))) := Lib.hid (fun W hW => (hR.out.of_block (hW.block _ hR.out.lt)).congr fun i _ => by
          unfold Lo.fillF
          by_cases e : i = k
          · subst e; rw [if_neg (by omega), if_pos (by omega), hq0]
          · by_cases e2 : i < k
            · rw [if_pos e2, if_pos (by omega)]
            · rw [if_neg e2, if_neg (by omega)])
        clear hR hQ hQ0 hST hCn hcond hstp hq0 hgk hin hgS cellS raS cellL hSmk
        generalize gk s gz k = G at *
        generalize bk r s k = D at *
        go_wp2_with (first
          | (go_at_call 55; ((with_reducible refine (hP.out).mono ?_); rintro e w3 ⟨rfl, hb3⟩; have B3 := Lib.hid hb3; have B3' := Lib.hid (hb.trans (hb3.mono hb.size)); clear hb3 z0 z1 z2 z3; obtain ⟨z0, z1, z2, z3⟩ := HX.out w3 (belowT Z1.out B3'.out)))
          | (go_at_call 56; ((with_reducible refine (hSE.out w3 (belowT B1.out B3'.out)).mono ?_); rintro e w4 ⟨rfl, hb4⟩; have B4 := Lib.hid (belowT B3.out hb4); have B4' := Lib.hid (B3'.out.trans (hb4.mono B3'.out.size)); clear hb4)))
        go_roundw
        case rel => exact ⟨k + 1, by omega, by go_num, Lib.hid (hR2.out w4 B4.out), B4'.out⟩
        case measure => simp [intOf]; omega
      · have hCk := hCn.2 rfl
        have hq1 := hQ.out hCk
        have hD := hcond.out rfl
        obtain ⟨t0, t1⟩ := hST.out hCk
        have hDl : bk r s k < (S.getD (gk s gz k) []).length := by omega
        obtain ⟨bT, oT, rfl, lT, cellT⟩ := raS (bk r s k) hDl
        rw [← hstp.out] at cellT
        obtain ⟨i0', i1'⟩ := hin
        clear hQ hQ0 hST hCn hcond hstp raS hCk
        generalize stp r s gz S k = TT at *
        generalize (S.getD (gk s gz k) []).length = Ls at *
        generalize lz.getD k 0 = z at *
        generalize gk s gz k = G at *
        generalize bk r s k = D at *
        have HV := Lib.hid (fun W => Fx.rNear_ok z TT W t0 t1 i0' i1')
        have hqk := Lib.hid hq1
        clear hq1
        generalize Fx.NQ z TT = v at *
        have hneS : bS ≠ w1.heap.size := by omega
        have hneL : bL ≠ w1.heap.size := by omega
        have hneT : bT ≠ w1.heap.size := by omega
        have hGi : (G : Int) < (S.length : Int) := by omega
        have hG0 : (0 : Int) ≤ (G : Int) := by omega
        have hDi : (D : Int) < (Ls : Int) := by omega
        have hD0 : (0 : Int) ≤ (D : Int) := by omega
        have hk0 : (0 : Int) ≤ (k : Int) := by omega
        have hk1 : (k : Int) < 256 := by omega
        have hk2 : (k : Int) < (lz.length : Int) := by have := HLZ.out; omega
        have KF : Hid (∀ W, Below w1.heap.size w1 W → W.cell? ⟨bS, oS + G, none⟩ = some (.slice (some ⟨bT, oT, none⟩) Ls cS) ∧ W.cell? ⟨bL, oL + k, none⟩ = some (.int .i64 z) ∧ W.cell? ⟨bT, oT + D, none⟩ = some (.int .i64 TT)) := Lib.hid (fun W hW => ⟨(hW.cell (p := ⟨bS, oS + G, none⟩) lS).trans cellS, (hW.cell (p := ⟨bL, oL + k, none⟩) lL).trans cellL, (hW.cell (p := ⟨bT, oT + D, none⟩) lT).trans cellT⟩)
        clear cellS cellL cellT hSmk hD hDl hgk hgS
        go_wp2_with (first
          | (go_at_call 55; ((with_reducible refine (hP.out).mono ?_); rintro e w3 ⟨rfl, hb3⟩; have B3 := Lib.hid hb3; have B3' := Lib.hid (hb.trans (hb3.mono hb.size)); clear hb3 z0 z1 z2 z3; obtain ⟨z0, z1, z2, z3⟩ := HX.out w3 (belowT Z1.out B3'.out)))
          | (go_at_call 56; ((with_reducible refine (hSE.out w3 (belowT B1.out B3'.out)).mono ?_); rintro e w4 ⟨rfl, hb4⟩; have B4 := Lib.hid (belowT B3.out hb4); have B4' := Lib.hid (B3'.out.trans (hb4.mono B3'.out.size)); clear hb4)))
        have hR4 := Lib.hid (hR.out.of_block (B4.out.block _ hR.out.lt))
        obtain ⟨x1, x2, x3⟩ := KF.out w4 B4'.out
        have y1 := hR4.out.cell (i := k) hlt
        have y2 := hR4.out.frozen k
        have iso : (w4.cell? ⟨w1.heap.size, k, none⟩).isSome = true := by rw [y1]; rfl
        clear z0 z1 z2 z3
        go_region_held3 (fun W => W.cell? ⟨bS, oS + G, none⟩ = some (.slice (some ⟨bT, oT, none⟩) Ls cS) ∧ W.cell? ⟨bL, oL + k, none⟩ = some (.int .i64 z) ∧ W.cell? ⟨bT, oT + D, none⟩ = some (.int .i64 TT) ∧ (W.cell? ⟨w1.heap.size, k, none⟩).isSome = true ∧ W.frozen? ⟨w1.heap.size, k, none⟩ = false) (simp (maxDischargeDepth := 8) [go_sem, x1, x2, x3, y1, y2, iso, hneS, hneL, hneT, Ne.symm hneS, Ne.symm hneL, Ne.symm hneT]) ((go_at_call 46; ((with_reducible refine (HV.out _).mono ?_); rintro e w5 ⟨rfl, rfl⟩)))
        rename_i hS
        clear hS x1 x2 x3 y1 y2 iso
        have N1 : Hid (((w4.setCell ⟨w1.heap.size, k, none⟩ (.int .i64 v)).drew).rowIs w1.heap.size 3 256 (Lo.fillF Q (k + 1))) := Lib.hid ((Lo.fill_step hR4.out hqk.out.symm).of_block rfl)
        have N2 := Lib.hid ((B4'.out.setCell (p := ⟨w1.heap.size, k, none⟩) (Nat.le_refl _) (.int .i64 v)).drew)
        go_wp2
        go_roundw
        case rel => exact ⟨k + 1, by omega, by go_num, N1, N2.out⟩
        case measure => simp [intOf]; omega
    · have hend : k = 256 := by omega
      subst hend
      have hE := Lib.hid (Lo.fill_end hR.out)
      have hBE := Lib.hid (belowT B1.out hb)
      have hsz := B1.out.size
      clear hR hb
      go_wp2
      go_ret2
      exact ⟨w1.heap.size, rfl, hE.out, hsz, hBE.out⟩
end Go.Proofs.YtanjcbnkkhbkkaaDoor.Qd

/- The chapter's first example of quant holds, wherever it is called. -/
namespace Go.Proofs.YtanjcbnkkhbkkaaDoor.Qn
open Go Go.Ev Go.RowKit
/-- Power's table, as a row lists it. -/
def X0 : List (Nat × List RV) := [(0, [.int .i64 1073741824, .int .i64 1276901417, .int .i64 1518500250, .int .i64 1805811301])]
noncomputable def H0 : Tr AObj := match heapG 1 X0 with | some h => h | none => .nil
theorem h0_is : heapG 1 X0 = some H0 := by kernel_rfl
theorem lives : (callR ((((((E.up 40).up 40).up 40).up 40).up 40).up 40) 40 H0 1 36 []).map (fun x => match x.1 with | .bool true => true | _ => false) = some true := by kernel_rfl
/-- A world that holds the table. -/
def Tb (w : World) : Prop := AllP (CellsAre w) X0
theorem alive36 (w : World) (h : Tb w) : Calls Tryd.prog 36 #[] w fun e w' => e = .returned (.bool true) ∧ Below w.heap.size w w' := by
  obtain ⟨v, h', nx', h1, h2⟩ := ran lives
  subst h2
  exact callG rfl h0_is h1 w h rfl (fun _ => rfl)
theorem Tb.below {w w' : World} (h : Tb w) (hb : Below w.heap.size w w') : Tb w' := by
  obtain ⟨⟨c, t, fz, h1, h2⟩, _⟩ := h
  exact ⟨⟨c, t, fz, (hb.block _ (Array.getElem?_eq_some_iff.1 h1).1).trans h1, h2⟩, trivial⟩
end Go.Proofs.YtanjcbnkkhbkkaaDoor.Qn

/- What stays, whatever is called. -/
namespace Go.Proofs.YtanjcbnkkhbkkaaDoor.Qn
open Go Go.Ev Go.ChangeShapes Go.WideShapes Go.ChangeAt Go.RowKit Go.Proofs.YtanjcbnkkhbkkaaDoor.If Go.Proofs.YtanjcbnkkhbkkaaDoor.Bd Go.Proofs.YtanjcbnkkhbkkaaDoor.Qn

theorem row_on {w w' : World} {g n : Nat} {t : TypeId} {f : Nat → Value} (h : w.rowIs g t n f) (b : Below w.heap.size w w') : w'.rowIs g t n f := h.of_block (b.block g h.lt)
/-- What stays, whatever is called. -/
structure K (w : World) (ga : Option Addr) (gz : List Int) (O P A : Option Addr) (B S : List (List Int)) (lz : List Int) (s h m : Int) (gc : Nat) (W : World) : Prop where
  q : Fx.Qs W
  i : Inp W ga gz O P B S
  l : RdA W A lz
  b : Below w.heap.size w W
  y : W.cell? ⟨w.heap.size, 0, none⟩ = some (.int .u8 s) ∧ W.cell? ⟨w.heap.size, 1, none⟩ = some (.int .u8 h) ∧ W.cell? ⟨w.heap.size, 2, none⟩ = some (.int .i64 m) ∧ W.cell? ⟨w.heap.size, 3, none⟩ = some (.slice ga gz.length gc)
  z : w.heap.size < W.heap.size
theorem K.on {w : World} {ga : Option Addr} {gz : List Int} {O P A : Option Addr} {B S : List (List Int)} {lz : List Int} {s h m : Int} {gc : Nat} {W W' : World} (k : K w ga gz O P A B S lz s h m gc W) (b : Below W.heap.size W W') : K w ga gz O P A B S lz s h m gc W' :=
  ⟨k.q.below b, k.i.below b, k.l.below b, belowT k.b b, ⟨(b.cell (p := ⟨w.heap.size, 0, none⟩) k.z).trans k.y.1, (b.cell (p := ⟨w.heap.size, 1, none⟩) k.z).trans k.y.2.1, (b.cell (p := ⟨w.heap.size, 2, none⟩) k.z).trans k.y.2.2.1, (b.cell (p := ⟨w.heap.size, 3, none⟩) k.z).trans k.y.2.2.2⟩, Nat.lt_of_lt_of_le k.z b.size⟩

end Go.Proofs.YtanjcbnkkhbkkaaDoor.Qn

/- Greater steps: the numbers; and lists of lists that a call builds. -/
namespace Go.Proofs.YtanjcbnkkhbkkaaDoor.Qn
open Go Go.RowKit Go.Proofs.YtanjcbnkkhbkkaaDoor.If Go.Proofs.YtanjcbnkkhbkkaaDoor.Bd Go.Proofs.YtanjcbnkkhbkkaaDoor.Fx

theorem ln_steps {q s : Int} (hs : 0 ≤ s) (h0 : 0 ≤ q) (hq : q ≤ 8191) : ∀ d : Nat, s + d ≤ 255 → ln q s ≤ ln q (s + d)
  | 0, _ => by simp
  | d + 1, h => by
    have a := ln_steps hs h0 hq d (by omega)
    have b := ln_step (q := q) (s := s + d) (by omega) (by omega) h0 hq
    rw [show s + ((d + 1 : Nat) : Int) = s + d + 1 by omega]
    omega
theorem ln_le {q s t : Int} (hs : 0 ≤ s) (hst : s ≤ t) (ht : t ≤ 255) (h0 : 0 ≤ q) (hq : q ≤ 8191) : ln q s ≤ ln q t := by
  obtain ⟨d, rfl⟩ : ∃ d : Nat, t = s + d := ⟨(t - s).toNat, by omega⟩
  exact ln_steps hs h0 hq d (by omega)
theorem near_le {x s t a b : Int} (hs : 0 ≤ s) (hst : s ≤ t) (ht : t ≤ 255) (ha : Near x s a) (hb : Near x t b) : b ≤ a := by
  obtain ⟨a0, a1, a2, a3⟩ := ha
  obtain ⟨b0, b1, b2, b3⟩ := hb
  refine Classical.byContradiction fun hn => ?_
  have c1 := ln_le (q := b) hs hst ht (by omega) b1
  have c2 := ln_le (q := b - 1) hs hst ht (by omega) (by omega)
  have c3 := ln_mono (p := a) (q := b - 1) hs a0 (by omega)
  have c4 := ln_mono (p := a + 1) (q := b) hs (by omega) (by omega)
  omega
theorem nq_bd (x s : Int) : 0 ≤ nq x s ∧ nq x s ≤ 8191 := ⟨(nq_is x s).1, (nq_is x s).2.1⟩
theorem st_smaller {c : Prop} {x T T' : Int} (ht : c → 0 ≤ T ∧ T ≤ T' ∧ T' ≤ 255) (x0 : -268435455 ≤ x) (x1 : x ≤ 268435455) : ¬ far (st c FQ x T) 0 < far (st c FQ x T') 0 := by
  by_cases h : c
  · obtain ⟨t0, t1, t2⟩ := ht h
    by_cases hx : x = 0
    · subst hx; rw [st_zero, st_zero]; omega
    · rw [st_fq h t0 (by omega) x0 x1 hx, st_fq h (by omega) t2 x0 x1 hx]
      unfold NQ far
      by_cases hn : x < 0
      · rw [if_pos hn, if_pos hn]
        have := near_le t0 t1 t2 (nq_is (-x) T) (nq_is (-x) T')
        have := nq_bd (-x) T; have := nq_bd (-x) T'
        split <;> split <;> omega
      · rw [if_neg hn, if_neg hn]
        have := near_le t0 t1 t2 (nq_is x T) (nq_is x T')
        have := nq_bd x T; have := nq_bd x T'
        split <;> split <;> omega
  · rw [st_not h, st_not h]; omega
theorem st_greater {c : Prop} {q T T' : Int} (ht : c → 0 ≤ T ∧ T ≤ T' ∧ T' ≤ 255) (q0 : -8191 ≤ q) (q1 : q ≤ 8191) : ¬ far (st c FL q T') 0 < far (st c FL q T) 0 := by
  by_cases h : c
  · obtain ⟨t0, t1, t2⟩ := ht h
    rw [st_fl h t0 (by omega) q0 q1, st_fl h (by omega) t2 q0 q1]
    unfold Fx.LN far
    by_cases hn : q < 0
    · rw [if_pos hn, if_pos hn]
      have := ln_le (q := -q) t0 t1 t2 (by omega) (by omega)
      have := (ln_bd (q := -q) t0 (by omega)).1
      split <;> split <;> omega
    · rw [if_neg hn, if_neg hn]
      have := ln_le (q := q) t0 t1 t2 (by omega) q1
      have := (ln_bd (q := q) t0 (by omega)).1
      split <;> split <;> omega
  · rw [st_not h, st_not h]; omega
theorem st_turned {c : Prop} {x T : Int} (ht : c → 0 ≤ T ∧ T ≤ 255) (x0 : -268435455 ≤ x) (x1 : x ≤ 268435455) : st c FQ (-x) T = -st c FQ x T := by
  by_cases h : c
  · obtain ⟨t0, t1⟩ := ht h
    by_cases hx : x = 0
    · subst hx; rw [show -(0 : Int) = 0 by omega, st_zero]; omega
    · rw [st_fq h t0 t1 x0 x1 hx, st_fq h t0 t1 (by omega) (by omega) (by omega)]
      unfold NQ
      by_cases hn : x < 0
      · rw [if_pos hn, if_neg (by omega)]; omega
      · rw [if_neg hn, if_pos (by omega), Int.neg_neg]
  · rw [st_not h, st_not h]; omega

/-- A greater step. -/
def gst (more V : Int) : Int := if 255 < V then V else min (IntKind.i64.wrap (V + more)) 255
theorem gst_in {more V : Int} (m0 : 0 ≤ more) (m1 : more ≤ 255) (v0 : 0 ≤ V) (v1 : V ≤ 255) : 0 ≤ V ∧ V ≤ gst more V ∧ gst more V ≤ 255 := by
  unfold gst
  rw [if_neg (by omega), i64_in (by omega) (by omega)]
  omega
def gsl (more : Int) (z : List Int) : List Int := z.map (gst more)
def gsr (more : Int) (S : List (List Int)) : List (List Int) := S.map (gsl more)
theorem gsr_len (more : Int) (S : List (List Int)) : (gsr more S).length = S.length := by simp [gsr]
theorem gsr_row (more : Int) (S : List (List Int)) {i : Nat} (h : i < S.length) : (gsr more S).getD i [] = gsl more (S.getD i []) := by simp [gsr, h]
theorem gsl_len (more : Int) (z : List Int) : (gsl more z).length = z.length := by simp [gsl]
theorem gsl_get (more : Int) (z : List Int) {j : Nat} (h : j < z.length) : (gsl more z).getD j 0 = gst more (z.getD j 0) := by simp [gsl, h]
theorem gsl_take (more : Int) (z : List Int) {j : Nat} (h : j < z.length) : gsl more (z.take (j + 1)) = gsl more (z.take j) ++ [gst more (z.getD j 0)] := by
  unfold gsl
  rw [List.take_succ_eq_append_getElem h, List.map_append]
  simp [h]

/-! ### Lists that a call builds -/
/-- A list in a list of lists. -/
def RowV (w : World) (v : Value) (zs : List Int) : Prop := (zs = [] ∧ v = .slice none 0 0) ∨ ∃ g c cur, v = .slice (some ⟨g, 0, none⟩) zs.length c ∧ w.heap[g]? = some (Obj.cells cur 3 (0, 0)) ∧ ∀ j, j < zs.length → cur[j]? = some (.int .i64 (zs.getD j 0))
theorem RowV.of_heap {w w' : World} {v : Value} {zs : List Int} (h : RowV w v zs) (hk : ∀ (g : Nat) (cur : Array Value), w.heap[g]? = some (Obj.cells cur 3 (0, 0)) → w'.heap[g]? = some (Obj.cells cur 3 (0, 0))) : RowV w' v zs := by
  rcases h with h | ⟨g, c, cur, e, hh, hc⟩
  · exact .inl h
  · exact .inr ⟨g, c, cur, e, hk g cur hh, hc⟩
theorem RowV.of_own {base : Nat} {w : World} {v : Value} {zs : List Int} (h : w.ownsRow base 3 1 v zs.length (zs.map (Value.int .i64))) : RowV w v zs := by
  obtain ⟨hx, ⟨rfl, hn⟩ | ⟨g, cap, cur, rfl, hg, hh, hc, hm, hs, ht⟩⟩ := h
  · exact .inl ⟨List.eq_nil_of_length_eq_zero hn, rfl⟩
  · refine .inr ⟨g, cap, cur, rfl, hh, fun j hj => ?_⟩
    have e : (cur.toList.take (zs.length * 1))[j]? = (zs.map (Value.int .i64))[j]? := by rw [ht]
    rw [List.getElem?_take_of_lt (by omega)] at e
    simpa [hj] using e
theorem RowV.rd {w : World} {v : Value} {zs : List Int} (h : RowV w v zs) : ∃ a c, v = .slice a zs.length c ∧ RdA w a zs := by
  rcases h with ⟨rfl, rfl⟩ | ⟨g, c, cur, rfl, hh, hc⟩
  · exact ⟨none, 0, rfl, fun i hi => by simp at hi⟩
  · refine ⟨_, c, rfl, fun i hi => ⟨g, 0, rfl, (Array.getElem?_eq_some_iff.1 hh).1, ?_⟩⟩
    simp [World.cell?, hh, hc i hi]
/-- A list of lists, as it grows. -/
def Gr (base : Nat) (w : World) (v : Value) (rows : List (List Int)) : Prop := ∃ vals : List Value, w.ownsRow base 39 1 v rows.length vals ∧ ∀ i, i < rows.length → ∃ u, vals[i]? = some u ∧ RowV w u (rows.getD i [])
theorem Gr.nil (base : Nat) (w : World) : Gr base w (.slice none 0 0) [] := ⟨[], World.ownsRow_nil w base 39 1, fun i hi => by simp at hi⟩
theorem Gr.below {base : Nat} {w w' : World} {v : Value} {rows : List (List Int)} (h : Gr base w v rows) (hb : Below w.heap.size w w') : Gr base w' v rows := by
  obtain ⟨vals, ho, hr⟩ := h
  refine ⟨vals, ?_, fun i hi => by
    obtain ⟨u, e, hu⟩ := hr i hi
    exact ⟨u, e, hu.of_heap fun g cur hg => (hb.block g (Array.getElem?_eq_some_iff.1 hg).1).trans hg⟩⟩
  obtain ⟨hx, ⟨rfl, hn⟩ | ⟨g, cap, cur, rfl, hg, hh, r⟩⟩ := ho
  · exact ⟨hx, .inl ⟨rfl, hn⟩⟩
  · exact ⟨hx, .inr ⟨g, cap, cur, rfl, hg, (hb.block g (Array.getElem?_eq_some_iff.1 hh).1).trans hh, r⟩⟩
/-- One list more. -/
theorem Gr.push {base : Nat} {w w' : World} {v v' u : Value} {rows : List (List Int)} {zs : List Int} {vals : List Value} (ho : w.ownsRow base 39 1 v rows.length vals) (hr : ∀ i, i < rows.length → ∃ u, vals[i]? = some u ∧ RowV w u (rows.getD i [])) (hu : RowV w u zs)
    (ho' : w'.ownsRow base 39 1 v' (rows.length + 1) (vals ++ [u])) (hg : w.grownBy w' v.ownBlock) : Gr base w' v' (rows ++ [zs]) := by
  have hlen : vals.length = rows.length := by have := ho.1; omega
  have hk : ∀ (g : Nat) (cur : Array Value), w.heap[g]? = some (Obj.cells cur 3 (0, 0)) → w'.heap[g]? = some (Obj.cells cur 3 (0, 0)) := fun g cur hh => by
    refine (hg.block g (Array.getElem?_eq_some_iff.1 hh).1 fun e => ?_).trans hh
    obtain ⟨hx, ⟨rfl, hn⟩ | ⟨g', cap, cur', rfl, _, hh', _⟩⟩ := ho
    · cases e
    · simp only [Value.ownBlock, Option.some.injEq] at e
      subst e
      rw [hh] at hh'
      cases hh'
  refine ⟨vals ++ [u], by rw [List.length_append]; exact ho', fun i hi => ?_⟩
  rw [List.length_append] at hi
  by_cases h : i < rows.length
  · obtain ⟨u', e, hu'⟩ := hr i h
    refine ⟨u', by rw [List.getElem?_append_left (by omega)]; exact e, ?_⟩
    rw [show (rows ++ [zs]).getD i [] = rows.getD i [] by simp [List.getElem?_append_left h]]
    exact hu'.of_heap hk
  · have e : i = rows.length := by simp at hi; omega
    subst e
    refine ⟨u, by rw [← hlen]; simp, ?_⟩
    rw [show (rows ++ [zs]).getD rows.length [] = zs by simp]
    exact hu.of_heap hk
theorem Gr.rd {base : Nat} {w : World} {v : Value} {rows : List (List Int)} (h : Gr base w v rows) : ∃ a c, v = .slice a rows.length c ∧ RdR w a rows := by
  obtain ⟨vals, ho, hr⟩ := h
  have hcells := @World.ownsRow.cells _ _ _ _ _ _ _ ho
  have hlt := ho.lt
  obtain ⟨hx, ⟨rfl, hn⟩ | ⟨g, cap, cur, rfl, _, hh, _⟩⟩ := ho
  · have : rows = [] := List.eq_nil_of_length_eq_zero hn
    subst this
    exact ⟨none, 0, rfl, fun i hi => by simp at hi⟩
  · refine ⟨_, cap, rfl, fun i hi => ?_⟩
    obtain ⟨u, e, hu⟩ := hr i hi
    obtain ⟨a, c, rfl, rd⟩ := hu.rd
    have q := hcells rfl i _ e
    rw [Addr.add_lit] at q
    exact ⟨g, 0, a, c, rfl, (hlt g rfl).2, q, rd⟩
end Go.Proofs.YtanjcbnkkhbkkaaDoor.Qn

/- Copies of lists of lists, and whether two are the same. -/
namespace Go.Proofs.YtanjcbnkkhbkkaaDoor.Qd
open Go Go.Deep Go.ChangeShapes Go.WideShapes Go.ChangeAt Go.RowKit Go.Proofs.YtanjcbnkkhbkkaaDoor.If Go.Proofs.YtanjcbnkkhbkkaaDoor.Bd Go.Proofs.YtanjcbnkkhbkkaaDoor.Qn

theorem info39 : (Tryd.prog.info? 39).map (fun i => (i.zero, i.size, i.bytes)) = some (some (.slice none 0 0), 1, 24) := by kernel_rfl
theorem run_app0 (w : World) (ty : TypeId) (v : Value) (n : Nat) (base : Nat) (xs : List Value) (cap : Nat) (hown : w.ownsRow base 3 1 v n xs) :
    (Builtin.append_ #[39, 39] ty #[v, .slice none 0 cap]).run Tryd.prog w = .ok v w := by
  obtain ⟨i, hi, hz0, hz1, hz2⟩ := info_parts infoI
  rcases hown.2 with ⟨rfl, rfl⟩ | ⟨g, cap, cur, rfl, _, _, hnc, _⟩
  · simp [Builtin.append_, run_underlying Tryd.underlying39, sizeOf, typeInfo, hi, Builtin.lenOf, Builtin.firstCells]
  · simp [Builtin.append_, run_underlying Tryd.underlying39, sizeOf, typeInfo, hi, Builtin.lenOf, Builtin.firstCells, hnc, storeCells]
/-- A copy by append. -/
theorem wpList_copy (w : World) {ops : Array Oper} {rest : List Oper} {o : Oper} {a : Act} {Q : Exit → Act → World → Prop} (hgd : o.guard = none) (s x : Operand)
    (ho : o.op = .call { callee := .builtin .append, args := #[s, x], argTypes := #[39, 39] }) (base : Nat) (v : Value) (hs : a.eval s = v) (A : Option Addr) (cap : Nat) (zs : List Int) (hown : w.ownsRow base 3 1 v 0 []) (hbs : base ≤ w.heap.size) (hx : a.eval x = .slice A zs.length cap) (hn : zs.length * 8 ≤ 140737488355328) (hc : RdA w A zs)
    (hK : ∀ v' w', Bd.Own base w' v' zs → w.grownBy w' v.ownBlock → wpList Tryd.prog ops Q rest (a.put o.dst v') w') : wpList Tryd.prog ops Q (o :: rest) a w := by
  obtain ⟨i0, hi, hz0, hz1, hz2⟩ := info_parts infoI
  have hA : (A = none ∧ zs = []) ∨ ∃ x, A = some x ∧ ∀ j u, (zs.map (Value.int .i64))[j]? = some u → w.cell? (x.add j) = some u := by
    cases A with
    | none =>
      refine .inl ⟨rfl, ?_⟩
      cases zs with
      | nil => rfl
      | cons z zs => obtain ⟨b, off, e, _⟩ := hc 0 (by simp); cases e
    | some x =>
      refine .inr ⟨x, rfl, fun j u hu => ?_⟩
      simp only [List.getElem?_map, Option.map_eq_some_iff] at hu
      obtain ⟨q, hq, rfl⟩ := hu
      obtain ⟨hj, rfl⟩ := List.getElem?_eq_some_iff.1 hq
      obtain ⟨b, off, e, _, h1⟩ := hc j hj
      simp only [Option.some.injEq] at e
      subst e
      rw [add_at, h1]
      simp [List.getD_eq_getElem?_getD, List.getElem?_eq_getElem hj]
  rcases hA with ⟨rfl, rfl⟩ | ⟨x1, rfl, hc2⟩
  · refine wpList_plain hgd fun K hK' => ?_
    have hrun := run_app0 w o.type v 0 base [] cap hown
    unfold Oper.wp
    simp only [List.length_nil] at hx
    simp [execOp, ho, resolve, invoke, builtin, hs, hx, hrun, Result.andThen]
    exact hK' _ _ (hK _ _ hown ⟨rfl, rfl, rfl, Nat.le_refl _, fun _ _ _ => rfl⟩)
  · refine wpList_append_own w hgd s x 39 ho base 3 i0 (.int .i64 0) 1 8 Tryd.underlying39 hi hz0 hz1 hz2 rfl (by decide) _ 0 _ hs hown x1 zs.length cap (zs.map (Value.int .i64)) hx (by simp) hc2 (one64 _) (by unfold maxLen; omega) (by omega) hbs ?_
    intro v' w' h1 h2 _
    refine hK v' w' ?_ h2
    unfold Bd.Own
    rw [Nat.zero_add, List.nil_append] at h1
    exact h1

/-- Sizes that a machine has room for. -/
def Szd (rows : List (List Int)) : Prop := ∀ i, i < rows.length → (rows.getD i []).length * 8 ≤ 140737488355328
set_option maxRecDepth 100000 in
set_option maxHeartbeats 4000000 in
theorem twins_ok (O : Option Addr) (oc : Nat) (rows : List (List Int)) (w : World) (hl : rows.length ≤ 100) (hz : Szd rows) (hr : RdR w O rows) :
    Calls Tryd.prog 30 #[.slice O rows.length oc] w fun e w' => ∃ O' c', e = .returned (.slice O' rows.length c') ∧ RdR w' O' rows ∧ Below w.heap.size w w' := by
  obtain ⟨i9, hi9, hz90, hz91, hz92⟩ := info_parts info39
  have HR := Lib.hid (fun x (hx : Below w.heap.size w x) => hr.below hx)
  have HZ := Lib.hid hz
  clear hr hz
  have hg0 : Hid (Gr w.heap.size w (.slice none 0 0) (rows.take 0)) := Lib.hid (by rw [List.take_zero]; exact Gr.nil _ _)
  go_enter Tryd.func30, Tryd.ntmps30
  go_wp2
  go_loopw [3, 4] (fun v kv wr => ∃ k : Nat, k ≤ rows.length ∧ kv = .int .i64 k ∧ Hid (Gr w.heap.size wr v (rows.take k)) ∧ Below w.heap.size w wr) (fun _ kv _ => rows.length - (intOf kv).toNat)
  case atStart => exact ⟨0, by omega, rfl, hg0, Below.refl _ _⟩
  case round =>
    obtain ⟨k, hk, rfl, hG, hb⟩ := hrel
    clear hg0
    by_cases hlt : k < rows.length
    · obtain ⟨b, off, a, ca, rfl, lb, c0, ra⟩ := HR.out wr hb k hlt
      have hsz := HZ.out k hlt
      have RA := Lib.hid ra
      have htk : Hid (rows.take (k + 1) = rows.take k ++ [rows.getD k []]) := Lib.hid (by rw [List.take_succ_eq_append_getElem hlt]; simp [hlt])
      have hlen : Hid ((rows.take k).length = k) := Lib.hid (by simp; omega)
      have hwb := hb.size
      clear ra
      generalize rows.getD k [] = Z at *
      go_wp2_with (first
        | (at_builtin; refine wpList_copy _ rfl (.const (.slice none 0 0)) (.tmp 15) rfl w.heap.size _ rfl a ca Z (World.ownsRow_nil _ _ 3 1) hwb rfl (by omega) RA.out ?_; intro v5 w5 ho5 hg5; have hb5 := (Below.refl _ _).grown hg5 (Nat.le_refl _) (fun k hk => by cases hk); have hRV : RowV w5 v5 Z := RowV.of_own ho5; obtain ⟨a8, c8, rfl, _⟩ := hRV.rd; have hba : Below w5.heap.size w5 (w5.alloc (.cells #[.slice a8 Z.length c8] 39)) := (Below.refl _ _).alloc (Nat.le_refl _) _; have hG1 := (hG.out.below hb5).below hba; have hB3 : Hid (Below w.heap.size w (w5.alloc (.cells #[.slice a8 Z.length c8] 39))) := Lib.hid ((hb.trans (hb5.mono hb.size)).trans (hba.mono (hb.trans (hb5.mono hb.size)).size)); obtain ⟨vals, ho1, hr1⟩ := hG1; have hr2 := Lib.hid hr1; have hu2 : Hid (RowV (w5.alloc (.cells #[.slice a8 Z.length c8] 39)) (.slice a8 Z.length c8) Z) := Lib.hid (hRV.of_heap fun g cur hg => (hba.block g (Array.getElem?_eq_some_iff.1 hg).1).trans hg); have hc3 : (rows.take k).length + 1 ≤ maxLen := (by rw [hlen.out]; unfold maxLen; omega); have hc4 : ((rows.take k).length + 1) * 24 ≤ 140737488355328 := (by rw [hlen.out]; omega); have hc5 := hB3.out.size; have hos : ∀ u ∈ [Value.slice a8 Z.length c8], u.oneCell' = true := (by simp [Value.oneCell']); clear hr1 ho5 hg5 hb5 hba hRV hG)
        | (at_builtin; refine wpList_append_own _ rfl _ _ 51 rfl w.heap.size 39 i9 (.slice none 0 0) 1 24 Tryd.underlying51 hi9 hz90 hz91 hz92 rfl (by decide) _ _ _ rfl ho1 ⟨w5.heap.size, 0, none⟩ 1 1 [.slice a8 Z.length c8] rfl rfl (cell_one_new _ _ _) hos hc3 hc4 hc5 ?_; intro v2 w6 ho2 hg2 _; have hG6 : Hid (Gr w.heap.size w6 v2 (rows.take (k + 1))) := Lib.hid (by rw [htk.out]; exact Gr.push ho1 hr2.out hu2.out ho2 hg2); have hB6 : Hid (Below w.heap.size w w6) := Lib.hid (hB3.out.grown hg2 hc5 (fun kk hkk => (ho1.lt kk hkk).1)); clear ho1 ho2 hg2 hr2 hu2 hB3))
      go_roundw
      case rel => exact ⟨k + 1, by omega, by go_num, hG6, hB6.out⟩
      case measure => simp [intOf]; omega
    · obtain rfl : k = rows.length := by omega
      have hGf := hG.out
      rw [List.take_length] at hGf
      obtain ⟨G, cg, rfl, rdG⟩ := hGf.rd
      have RG := Lib.hid rdG
      have HB := Lib.hid hb
      clear hG hGf rdG hb
      go_wp2
      go_ret
      exact ⟨G, cg, rfl, RG.out, HB.out⟩
set_option maxRecDepth 100000 in
set_option maxHeartbeats 2000000 in
theorem list_same (a b : Option Addr) (c d : Nat) (xs ys : List Int) (w : World) (hl : xs.length ≤ maxLen) (hm : ys.length ≤ maxLen) (hx : RdA w a xs) (hy : RdA w b ys) :
    Calls Tryd.prog 27 #[.slice a xs.length c, .slice b ys.length d] w fun e w' => e = .returned (.bool (xs == ys)) ∧ Below w.heap.size w w' := by
  unfold maxLen at hm hl
  by_cases hne : xs.length = ys.length
  · have HX := Lib.hid (fun w1 (k : Below w.heap.size w w1) => hx.below k)
    have HY := Lib.hid (fun w1 (k : Below w.heap.size w w1) => hy.below k)
    clear hx hy
    obtain ⟨R, hR⟩ : ∃ R, R = (xs == ys) := ⟨_, rfl⟩
    rw [← hR]
    have HV := Lib.hid hR
    clear hR
    have HNE := Lib.hid hne
    rw [← hne]
    clear hne hm
    go_enter Tryd.func27, Tryd.ntmps27
    go_wp2
    go_loopw [5] (fun iv wr => ∃ k : Nat, k ≤ xs.length ∧ iv = .int .i64 k ∧ Below w.heap.size w wr ∧ Hid (xs.take k = ys.take k)) (fun iv _ => xs.length - (intOf iv).toNat)
    case atStart => exact ⟨0, by omega, rfl, Below.refl _ _, Lib.hid (by simp)⟩
    case round =>
      obtain ⟨k, hk, rfl, hb, ht⟩ := hrel
      by_cases hlt : k < xs.length
      · obtain ⟨b1, o1, e1, _, q1⟩ := HX.out wr hb k hlt
        obtain ⟨b2, o2, e2, _, q2⟩ := HY.out wr hb k (by have := HNE.out; omega)
        have hlt2 : k < ys.length := by have := HNE.out; omega
        have hxk : xs.getD k 0 = xs[k] := by simp [hlt]
        have hyk : ys.getD k 0 = ys[k] := by simp [hlt2]
        have HD : Hid (xs.getD k 0 ≠ ys.getD k 0 → (xs == ys) = false) := Lib.hid (fun q => by
          have : xs ≠ ys := fun e => q (by rw [e])
          simpa using this)
        have HE : Hid (xs.getD k 0 = ys.getD k 0 → xs.take (k + 1) = ys.take (k + 1)) := Lib.hid (fun q => by
          rw [hxk, hyk] at q
          rw [List.take_add_one, List.take_add_one, ht.out, List.getElem?_eq_getElem hlt, List.getElem?_eq_getElem hlt2, q])
        clear hxk hyk ht
        subst e1 e2
        generalize xs.getD k 0 = x at *
        generalize ys.getD k 0 = y at *
        clear HX HY
        by_cases hxy : x = y
        · subst hxy
          have HE2 := Lib.hid (HE.out rfl)
          clear HE HD
          go_wp2
          go_quiet (fail)
          go_wp2
          go_roundw
          case rel => exact ⟨k + 1, by omega, by go_num, hb.trans ((Bd.drewN_below wr nq).mono hb.size), HE2⟩
          case measure => simp [intOf]; omega
        · obtain rfl : R = false := by rw [HV.out]; exact HD.out hxy
          have hx1 : (x == y) = false := by simpa using hxy
          have hx2 : (x != y) = true := by simp [hxy]
          clear HE HD HV
          go_wp2
          go_quiet (fail)
          go_wp2
          go_ret
          exact ⟨rfl, hb.trans ((Bd.drewN_below wr nq).mono hb.size)⟩
      · have hend : k = xs.length := by omega
        have ht2 := ht.out
        rw [hend, List.take_length, HNE.out, List.take_length] at ht2
        obtain rfl : R = true := by rw [HV.out, ht2]; simp
        clear ht ht2 HV
        have hlt3 : ¬ (k : Int) < xs.length := by omega
        go_wp2
        go_ret
        exact ⟨rfl, hb⟩
  · have hf : (xs == ys) = false := by
      have : xs ≠ ys := fun e => hne (by rw [e])
      simpa using this
    rw [hf]
    have h1 : ((xs.length : Int) == (ys.length : Int)) = false := by simp; omega
    have h2 : ((xs.length : Int) != (ys.length : Int)) = true := by simp; omega
    have h3 : ¬ (xs.length : Int) = (ys.length : Int) := by omega
    clear hf hx hy hm hl
    go_enter Tryd.func27, Tryd.ntmps27
    go_wp2
    go_ret
    exact ⟨rfl, Below.refl _ _⟩
theorem list_self (a b : Option Addr) (c d : Nat) (xs : List Int) (w : World) (hl : xs.length ≤ maxLen) (hx : RdA w a xs) (hy : RdA w b xs) :
    Calls Tryd.prog 27 #[.slice a xs.length c, .slice b xs.length d] w fun e w' => e = .returned (.bool true) ∧ Below w.heap.size w w' := by
  have h := list_same a b c d xs xs w hl hl hx hy
  rw [show (xs == xs) = true by simp] at h
  exact h
set_option maxRecDepth 100000 in
set_option maxHeartbeats 2000000 in
theorem rows_self (O P : Option Addr) (c d : Nat) (rows : List (List Int)) (w : World) (hl : rows.length ≤ 100) (hz : Szd rows) (hx : RdR w O rows) (hy : RdR w P rows) :
    Calls Tryd.prog 35 #[.slice O rows.length c, .slice P rows.length d] w fun e w' => e = .returned (.bool true) ∧ Below w.heap.size w w' := by
  have HX := Lib.hid (fun x (k : Below w.heap.size w x) => hx.below k)
  have HY := Lib.hid (fun x (k : Below w.heap.size w x) => hy.below k)
  have HZ := Lib.hid hz
  clear hx hy hz
  go_enter Tryd.func35, Tryd.ntmps35
  go_wp2
  go_loopw [5] (fun i wr => ∃ k : Nat, k ≤ rows.length ∧ i = .int .i64 k ∧ Below w.heap.size w wr) (fun i _ => rows.length - (intOf i).toNat)
  case atStart => exact ⟨0, by omega, rfl, Below.refl _ _⟩
  case round =>
    obtain ⟨k, hk, rfl, hb⟩ := hrel
    by_cases hlt : k < rows.length
    · obtain ⟨b1, o1, a1, c1, rfl, lb1, x1, r1⟩ := HX.out wr hb k hlt
      obtain ⟨b2, o2, a2, c2, rfl, lb2, x2, r2⟩ := HY.out wr hb k hlt
      have hsz := HZ.out k hlt
      have HS := Lib.hid (fun W (hW : Below wr.heap.size wr W) => list_self a1 a2 c1 c2 (rows.getD k []) W (by unfold maxLen; omega) (r1.below hW) (r2.below hW))
      have KEEP : Hid (∀ W, Below wr.heap.size wr W → W.cell? ⟨b1, o1 + k, none⟩ = some (.slice a1 (rows.getD k []).length c1) ∧ W.cell? ⟨b2, o2 + k, none⟩ = some (.slice a2 (rows.getD k []).length c2) ∧ Below wr.heap.size wr W) := Lib.hid (fun W hW => ⟨(hW.cell (p := ⟨b1, o1 + k, none⟩) lb1).trans x1, (hW.cell (p := ⟨b2, o2 + k, none⟩) lb2).trans x2, hW⟩)
      clear r1 r2 x1 x2
      generalize (rows.getD k []).length = L at *
      have k0' : (0 : Int) ≤ k := by omega
      have k1' : (k : Int) < rows.length := by omega
      go_wp2
      go_region_held3 (fun W => W.cell? ⟨b1, o1 + k, none⟩ = some (.slice a1 L c1) ∧ W.cell? ⟨b2, o2 + k, none⟩ = some (.slice a2 L c2) ∧ Below wr.heap.size wr W) (exact KEEP.out _ (by first | exact Below.refl _ _ | exact (Below.refl _ _).drew | exact X1.out)) ((go_at_call 27; ((with_reducible refine (HS.out _ (‹_ ∧ _ ∧ Below wr.heap.size wr _›).2.2).mono ?_); rintro e w2 ⟨rfl, hb2⟩; have X1 := Lib.hid (belowT ((‹_ ∧ _ ∧ Below wr.heap.size wr _›).2.2) hb2); clear hb2)))
      rename_i hS
      clear hS
      have N2 := Lib.hid (hb.trans (X1.out.mono hb.size))
      go_wp2
      go_roundw
      case rel => exact ⟨k + 1, by omega, by go_num, N2.out⟩
      case measure => simp [intOf]; omega
    · have hlt3 : ¬ (k : Int) < rows.length := by omega
      go_wp2
      go_ret
      exact ⟨rfl, hb⟩
end Go.Proofs.YtanjcbnkkhbkkaaDoor.Qd
