/- Lines are made, and quantised, as the document says, and what is answered is new memory. QuantDoes returns true, whatever the rate, the windows, the books, the steps and the lines, the memory and the schedule; the variable that the row lists is tied to the program's text. No condition. -/
import Derived.Test.YtanjcbnkkhbkkaaDoorMrg8
import Derived.Test.YtanjcbnkkhbkkaaDoorMrg7
import Derived.Test.YtanjcbnkkhbkkaaDoorCards
import Derived.Test.YtanjcbnkkhbkkaaDoorTie
import Derived.Deep.DeepHandedRow
import Derived.Lib.LaidTab
import Derived.WalkKit
import Derived.Below
import Derived.RegionTactic
import Derived.Deep.QuietTactic
import Derived.BigQuiet
import Derived.ProofKit
import Derived.OpenShut
import Derived.Laws.AppendOwn
import Derived.Laws.AppendOwnNone
import Derived.Deep.OwnRows
import Derived.Lib.Hide
namespace Go.Proofs.YtanjcbnkkhbkkaaDoor.quantDoes
open Go Go.Ev Go.ChangeShapes Go.WideShapes Go.ChangeAt Go.RowKit Go.Proofs.YtanjcbnkkhbkkaaDoor.If Go.Proofs.YtanjcbnkkhbkkaaDoor.Bd Go.Proofs.YtanjcbnkkhbkkaaDoor.Qn Go.Proofs.YtanjcbnkkhbkkaaDoor.Qd

set_option maxRecDepth 100000 in
theorem great (r s h m : Int) (ga : Option Addr) (gc : Nat) (gz : List Int) (O P A : Option Addr) (oc pc lc : Nat) (B S : List (List Int)) (lz : List Int) (w : World) (hqs : Fx.Qs w) (hgl : gz.length ≤ maxLen) (hB : B.length ≤ maxLen) (hS : S.length ≤ maxLen) (hL : lz.length ≤ maxLen) (hBr : ∀ i, i < B.length → (B.getD i []).length ≤ maxLen) (hSr : ∀ i, i < S.length → (S.getD i []).length ≤ maxLen) (rB : RdR w O B) (rS : RdR w P S) (hgr : grt gz.length B S lz.length = true) :
    Calls Tryd.prog 11 #[.int .i64 r, .agg #[.int .u8 s, .int .u8 h, .int .i64 m, .slice ga gz.length gc], .slice O B.length oc, .slice P S.length pc, .slice A lz.length lc] w fun e w' => e = .returned (.bool true) ∧ Below w.heap.size w w' := by
  have HB := Lib.hid (box_below w (.cells #[.int .u8 s, .int .u8 h, .int .i64 m, .slice ga gz.length gc] 50))
  obtain ⟨y0, y1, y2, y3⟩ := boxed w s h m (.slice ga gz.length gc) _ (Below.refl _ _)
  have HG := Lib.hid (great_ok s h m ga gc gz O P A oc pc lc lz.length B S _ hgl hB hS hL hBr hSr (rB.below HB.out) (rS.below HB.out))
  rw [hgr] at HG
  clear hqs hBr hSr rB rS
  go_enter Tryd.func11, Tryd.ntmps11
  go_wp2_with (go_at_call 29; ((with_reducible refine (HG.out).mono ?_); rintro e w2 ⟨rfl, hb2⟩; have hbc := belowT HB.out hb2))
  go_ret
  exact ⟨rfl, hbc⟩
set_option maxRecDepth 100000 in
set_option maxHeartbeats 8000000 in
theorem good (r s h m : Int) (ga : Option Addr) (gc : Nat) (gz : List Int) (O P A : Option Addr) (oc pc lc : Nat) (B S : List (List Int)) (lz : List Int) (w : World) (hqs : Fx.Qs w) (I : Inp w ga gz O P B S) (hll : lz.length ≤ 1000) (rl : RdA w A lz) (zB : Szd B) (zS : Szd S) (hgr : grt gz.length B S lz.length = false) :
    Calls Tryd.prog 11 #[.int .i64 r, .agg #[.int .u8 s, .int .u8 h, .int .i64 m, .slice ga gz.length gc], .slice O B.length oc, .slice P S.length pc, .slice A lz.length lc] w fun e w' => e = .returned (.bool true) ∧ Below w.heap.size w w' := by
  have hgl := I.gl
  have hbl := I.bl
  have hsl := I.sl
  obtain ⟨us, E, hu, hP1, hP2⟩ := lines_both r s h m ga gc gz B S lz hll
  obtain ⟨vs, F, hv, hP3, hP4⟩ := quant_both r s h m ga gc gz B S lz hll
  have P1 := Lib.hid hP1
  have P2 := Lib.hid hP2
  have P3 := Lib.hid hP3
  have P4 := Lib.hid hP4
  have HB := Lib.hid (box_below w (.cells #[.int .u8 s, .int .u8 h, .int .i64 m, .slice ga gz.length gc] 50))
  have HX := Lib.hid (fun x hx => boxed w s h m (.slice ga gz.length gc) x hx)
  have HG := Lib.hid (great_ok s h m ga gc gz O P A oc pc lc lz.length B S _ (by unfold maxLen; omega) (by unfold maxLen; omega) (by unfold maxLen; omega) (by unfold maxLen; omega) I.br I.sr (I.rB.below HB.out) (I.rS.below HB.out))
  rw [hgr] at HG
  have HI := Lib.hid (fun x (hx : Below w.heap.size w x) => I.below hx)
  have HL := Lib.hid (fun x (hx : Below w.heap.size w x) => rl.below hx)
  have HQ := Lib.hid (fun x (hx : Below w.heap.size w x) => hqs.below hx)
  have ZB := Lib.hid zB
  have ZS := Lib.hid zS
  have BR := Lib.hid I.br
  have SR := Lib.hid I.sr
  clear hP1 hP2 hP3 hP4 I rl hqs zB zS hgr
  go_enter Tryd.func11, Tryd.ntmps11
  go_wp2_with (first
    | (go_at_call 29; ((with_reducible refine (HG.out).mono ?_); rintro e w1 ⟨rfl, hb1⟩; have B1 := Lib.hid (belowT HB.out hb1); have Z1 := Lib.hid hb1; obtain ⟨z0, z1, z2, z3⟩ := HX.out w1 hb1; clear hb1))
    | (go_at_call 30; ((with_reducible refine (twins_ok O oc B w1 hbl ZB.out (HI.out w1 B1.out).rB).mono ?_); rintro e w2 ⟨O2, oc2, rfl, hO2, hb2⟩; have R2 := Lib.hid hO2; have Z2 := Lib.hid (belowT Z1.out hb2); have B2 := Lib.hid (belowT B1.out hb2); clear hO2 hb2))
    | (go_at_call 30; ((with_reducible refine (twins_ok P pc S w2 hsl ZS.out (HI.out w2 B2.out).rS).mono ?_); rintro e w3 ⟨P3', pc3, rfl, hP3, hb3⟩; have R3 := Lib.hid hP3; have Q3 := Lib.hid (R2.out.below hb3); have Z3 := Lib.hid (belowT Z2.out hb3); have B3 := Lib.hid (belowT B2.out hb3); clear hP3 hb3))
    | (at_builtin; refine wpList_copy _ rfl (.const (.slice none 0 0)) (.tmp 34) rfl w3.heap.size _ rfl A lc lz (World.ownsRow_nil _ _ 3 1) (Nat.le_refl _) rfl (by omega) (HL.out w3 B3.out) ?_; intro v4 w4 ho4 hg4; have hb4 := (Below.refl _ _).grown hg4 (Nat.le_refl _) (fun k hk => by cases hk); obtain ⟨A4, ac4, rfl, hr4⟩ := (own_rdA ho4); have R4 := Lib.hid hr4; have Q4 := Lib.hid (Q3.out.below hb4); have S4 := Lib.hid (R3.out.below hb4); have Z4 := Lib.hid (belowT Z3.out hb4); have B4 := Lib.hid (belowT B3.out hb4); obtain ⟨y0, y1, y2, y3⟩ := HX.out w4 Z4.out; clear ho4 hg4 hb4 hr4)
    | (at_builtin; refine wpList_copy _ rfl (.const (.slice none 0 0)) (.tmp 37) rfl w4.heap.size _ rfl ga gc gz (World.ownsRow_nil _ _ 3 1) (Nat.le_refl _) rfl (by omega) (HI.out w4 B4.out).hg ?_; intro v5 w5 ho5 hg5; have hb5 := (Below.refl _ _).grown hg5 (Nat.le_refl _) (fun k hk => by cases hk); obtain ⟨G5, gc5, rfl, hr5⟩ := (own_rdA ho5); have R5 := Lib.hid hr5; have T5 := Lib.hid (R4.out.below hb5); have Q5 := Lib.hid (Q4.out.below hb5); have S5 := Lib.hid (S4.out.below hb5); have Z5 := Lib.hid (belowT Z4.out hb5); have B5 := Lib.hid (belowT B4.out hb5); clear ho5 hg5 hb5 hr5 z0 z1 z2 z3 y0 y1 y2 y3; obtain ⟨z0, z1, z2, z3⟩ := HX.out w5 Z5.out)
    | (go_at_call 31; ((with_reducible refine (P1.out w5 O2 P3' A4 oc2 pc3 ac4 (HQ.out w5 B5.out) ⟨(HI.out w5 B5.out).gl, hbl, hsl, BR.out, SR.out, (HI.out w5 B5.out).hg, Q5.out, S5.out⟩ T5.out).mono ?_); rintro e w6 ⟨A6, c6, rfl, hr6, hw6, hb6⟩; have R6 := Lib.hid hr6; have V6 := Lib.hid hw6; have B6 := Lib.hid hb6; clear hr6 hw6 hb6 z0 z1 z2 z3; obtain ⟨z0, z1, z2, z3⟩ := HX.out w6 (belowT Z5.out B6.out)))
    | (go_at_call 32; ((with_reducible refine (P2.out w6 O P A oc pc lc (HI.out w6 (belowT B5.out B6.out)) (HL.out w6 (belowT B5.out B6.out))).mono ?_); rintro e w7 ⟨A7, c7, rfl, hr7, hb7⟩; have R7 := Lib.hid hr7; have D7 := Lib.hid hb7; have B7 := Lib.hid (belowT B6.out hb7); clear hr7 hb7 z0 z1 z2 z3; obtain ⟨z0, z1, z2, z3⟩ := HX.out w7 (belowT Z5.out B7.out)))
    | (go_at_call 33; ((with_reducible refine (P3.out w7 O2 P3' A4 oc2 pc3 ac4 (HQ.out w7 (belowT B5.out B7.out)) ⟨(HI.out w7 (belowT B5.out B7.out)).gl, hbl, hsl, BR.out, SR.out, (HI.out w7 (belowT B5.out B7.out)).hg, Q5.out.below B7.out, S5.out.below B7.out⟩ (T5.out.below B7.out)).mono ?_); rintro e w8 ⟨A8, c8, rfl, hr8, hw8, hb8⟩; have R8 := Lib.hid hr8; have V8 := Lib.hid hw8; have D8 := Lib.hid hb8; have B8 := Lib.hid (belowT B7.out hb8); clear hr8 hw8 hb8 z0 z1 z2 z3; obtain ⟨z0, z1, z2, z3⟩ := HX.out w8 (belowT Z5.out B8.out)))
    | (go_at_call 34; ((with_reducible refine (P4.out w8 O P A oc pc lc (HI.out w8 (belowT B5.out B8.out)) (HL.out w8 (belowT B5.out B8.out))).mono ?_); rintro e w9 ⟨A9, c9, rfl, hr9, hb9⟩; have R9 := Lib.hid hr9; have D9 := Lib.hid hb9; have B9 := Lib.hid (belowT B8.out hb9); clear hr9 hb9 z0 z1 z2 z3))
    | (go_at_call 27; ((with_reducible refine (list_self A6 A7 c6 c7 us w9 (by unfold maxLen; omega) ((R6.out.below D7.out).below (belowT D8.out D9.out)) (R7.out.below (belowT D8.out D9.out))).mono ?_); rintro e w10 ⟨rfl, hb10⟩; have D10 := Lib.hid hb10; have B10 := Lib.hid (belowT B9.out hb10); clear hb10))
    | (go_at_call 27; ((with_reducible refine (list_self A8 A9 c8 c9 vs w10 (by unfold maxLen; omega) ((R8.out.below D9.out).below D10.out) (R9.out.below D10.out)).mono ?_); rintro e w11 ⟨rfl, hb11⟩; have D11 := Lib.hid hb11; have B11 := Lib.hid (belowT B10.out hb11); clear hb11)))
  have s57 := B7.out.size
  have V6b : Hid (∀ j, j < us.length → ∀ g, A6 = some ⟨g, 0, none⟩ → g < w7.heap.size) := Lib.hid (fun j hj g e => by
    obtain ⟨g', z, e', _, _, h4⟩ := V6.out j hj
    rw [e] at e'
    obtain rfl : g = g' := by simpa using e'
    exact Nat.lt_of_lt_of_le (cell_in' h4) D7.out.size)
  have W6 := Lib.hid ((((V6.out.below D7.out).below (belowT D8.out D9.out)).below D10.out).below D11.out)
  have W8 := Lib.hid (((V8.out.below D9.out).below D10.out).below D11.out)
  clear R6 R7 R8 R9 V6 V8 P1 P2 P3 P4 B6 B7 B8 B9 B10 D7 D8 D9 D10 D11 HQ HG
  go_loopw [23] (fun i wr => ∃ k : Nat, k ≤ us.length ∧ i = .int .i64 k ∧ Hid (Wr wr w5.heap.size us.length A6) ∧ Hid (Wr wr w7.heap.size vs.length A8) ∧ Below w5.heap.size w5 wr) (fun i _ => us.length - (intOf i).toNat)
  case atStart => exact ⟨0, by omega, rfl, W6, W8, B11.out⟩
  case round =>
    obtain ⟨k, hk, rfl, hW, hV, hb⟩ := hrel
    by_cases hlt : k < us.length
    · obtain ⟨g, z, e8, hg1, hg3, hg4⟩ := hW.out k hlt
      have hlt6 := V6b.out k hlt g e8
      subst e8
      have hV2 := Lib.hid (hV.out.other (b := g) (k := k) (v := .int .i64 7) (fun j hj g' e' hne => by
        obtain ⟨g9, z9, e9, h9, _⟩ := hV.out j hj
        rw [e'] at e9
        simp only [Option.some.injEq, Addr.mk.injEq, and_true] at e9
        omega))
      have hW2 := Lib.hid (hW.out.set (z := 7) hlt)
      clear hW hV
      go_wp2
      go_roundw
      case rel => exact ⟨k + 1, by omega, by go_num, hW2, hV2, hb.setCell hg1 _⟩
      case measure => simp [intOf]; omega
    · have hend : k = us.length := by omega
      have BB := Lib.hid hb
      clear hb hW
      go_wp2
      generalize wr = wq at *
      go_loopw [24] (fun i wr => ∃ k : Nat, k ≤ vs.length ∧ i = .int .i64 k ∧ Hid (Wr wr w7.heap.size vs.length A8) ∧ Below w5.heap.size w5 wr) (fun i _ => vs.length - (intOf i).toNat)
      case atStart => exact ⟨0, by omega, rfl, hV, BB.out⟩
      case round =>
        obtain ⟨k2, hk2, rfl, hV2, hb⟩ := hrel
        by_cases hlt2 : k2 < vs.length
        · obtain ⟨g, z, e8, hg1, hg3, hg4⟩ := hV2.out k2 hlt2
          subst e8
          have hW2 := Lib.hid (hV2.out.set (z := 7) hlt2)
          clear hV2
          go_wp2
          go_roundw
          case rel => exact ⟨k2 + 1, by omega, by go_num, hW2, hb.setCell (by simp; omega) _⟩
          case measure => simp [intOf]; omega
        · have hBw := Lib.hid (belowT B5.out hb)
          have Zw := Lib.hid (belowT Z5.out hb)
          have qB := Lib.hid (Q5.out.below hb)
          have qS := Lib.hid (S5.out.below hb)
          have qL := Lib.hid (T5.out.below hb)
          have qG := Lib.hid (R5.out.below hb)
          clear hb hV2 hV W6 W8
          go_wp2_with (first
            | (go_at_call 35; ((with_reducible refine (rows_self O2 O oc2 oc B wr hbl ZB.out qB.out (HI.out wr hBw.out).rB).mono ?_); rintro e x1 ⟨rfl, hx1⟩; have X1 := Lib.hid hx1; clear hx1))
            | (go_at_call 35; ((with_reducible refine (rows_self P3' P pc3 pc S x1 hsl ZS.out (qS.out.below X1.out) (HI.out x1 (belowT hBw.out X1.out)).rS).mono ?_); rintro e x2 ⟨rfl, hx2⟩; have X2 := Lib.hid (belowT X1.out hx2); clear hx2))
            | (go_at_call 27; ((with_reducible refine (list_self A4 A ac4 lc lz x2 (by unfold maxLen; omega) (qL.out.below X2.out) (HL.out x2 (belowT hBw.out X2.out))).mono ?_); rintro e x3 ⟨rfl, hx3⟩; have X3 := Lib.hid (belowT X2.out hx3); obtain ⟨z0, z1, z2, z3⟩ := HX.out x3 (belowT Zw.out X3.out); clear hx3))
            | (go_at_call 27; ((with_reducible refine (list_self G5 ga gc5 gc gz x3 (by unfold maxLen; omega) (qG.out.below X3.out) (HI.out x3 (belowT hBw.out X3.out)).hg).mono ?_); rintro e x4 ⟨rfl, hx4⟩; have X4 := Lib.hid (belowT X3.out hx4); clear hx4)))
          go_ret
          exact ⟨rfl, belowT hBw.out X4.out⟩
theorem named : Named Tryd.prog Rows.quantDoesRow.laid [(0, 80)] := ⟨by kernel_rfl, by kernel_rfl, trivial⟩
theorem flat1 : flats E Rows.quantDoesRow.laid [(0, 80)] = some [(0, [.int .i64 1073741824, .int .i64 1276901417, .int .i64 1518500250, .int .i64 1805811301])] := by kernel_rfl
theorem walk (a0 : Int) (a1s a1h a1m : Int) (a1a : Option Addr) (a1c : Nat) (a1z : List Int) (a2 : Option Addr) (len2 cap2 : Nat) (z2 : List (List Int)) (a3 : Option Addr) (len3 cap3 : Nat) (z3 : List (List Int)) (a4 : Option Addr) (len4 cap4 : Nat) (z4 : List Int) (w : World)
    (_ : (Lit.int .i64 a0).wf = true) (_ : (Lit.int .u8 a1s).wf = true) (_ : (Lit.int .u8 a1h).wf = true) (_ : (Lit.int .i64 a1m).wf = true) (l1 : a1z.length ≤ maxLen) (r1 : RowA .i64 w a1a a1z) (_ : ∀ n ∈ a1z, (Lit.int .i64 n).wf = true) (w2 : Rws w a2 len2 cap2 z2 ∧ Szd z2) (w3 : Rws w a3 len3 cap3 z3 ∧ Szd z3) (w4 : Qn.IsRow .i64 w a4 len4 cap4 z4) (hL : laidMetH Tryd.prog Rows.quantDoesRow.laid w) :
    Calls Tryd.prog 11 #[.int .i64 a0, .agg #[.int .u8 a1s, .int .u8 a1h, .int .i64 a1m, .slice a1a a1z.length a1c], .slice a2 len2 cap2, .slice a3 len3 cap3, .slice a4 len4 cap4] w fun e w' => e = .returned (.bool true) ∧ Below w.heap.size w w' := by
  obtain ⟨⟨rfl, rB, hBr, hB⟩, zB⟩ := w2
  obtain ⟨⟨rfl, rS, hSr, hS⟩, zS⟩ := w3
  obtain ⟨lz, rfl, rl, hl⟩ := row_rd w4
  have hqs := Fx.qs_of hL (by kernel_rfl) named flat1
  by_cases hgr : grt a1z.length z2 z3 lz.length = true
  · exact great a0 a1s a1h a1m a1a a1c a1z a2 a3 a4 cap2 cap3 cap4 z2 z3 lz w hqs l1 hB hS hl hBr hSr rB rS hgr
  have hgr' : grt a1z.length z2 z3 lz.length = false := by simpa using hgr
  obtain ⟨g1, g2, g3, g4⟩ := grt_no hgr'
  exact good a0 a1s a1h a1m a1a a1c a1z a2 a3 a4 cap2 cap3 cap4 z2 z3 lz w hqs ⟨g1, g2, g3, hBr, hSr, rowa_rd r1, rB, rS⟩ g4 rl zB zS hgr'
noncomputable def laidWorld (os : Os) : World := lay E Rows.quantDoesRow.laid [(0, 80)] (World.holding Tryd.prog os ⟨#[], #[.int .i64 0, .agg #[.int .u8 0, .int .u8 0, .int .i64 0, .slice none 0 0], .slice none 0 0, .slice none 0 0, .slice none 0 0], []⟩)
theorem laid_os (os : Os) : (laidWorld os).os = os := by kernel_rfl
theorem own : ownKnob Tryd.prog.godebug = none := by kernel_rfl
theorem laidOut : laidOutB Tryd.prog = true := by kernel_rfl
set_option linter.unusedVariables false
theorem laid_met (os : Os) (args : Array Value) : laidMet Tryd.prog Rows.quantDoesRow.laid ((laidWorld os).forCall (fun _ _ => 0) ⟨#[], args, []⟩).memory := laidMet_of_run' 8 (by kernel_rfl) (by kernel_rfl)
set_option maxRecDepth 100000 in
theorem lifted (os : Os) (started : os.Started) (H : Type) (enc : TypeId × Value → H) (F : Stop.Interp) :
    ReturnsInHanded {} Tryd.checked os 11 .any ((OpenSpec.ofChange Rows.quantDoesSpec).preRow enc Tryd.prog Tryd.f11 Rows.quantDoesRow.domain false Rows.quantDoesRow.laid) (((OpenSpec.ofChange Rows.quantDoesSpec).at F).post enc Tryd.prog Tryd.f11 false true false false) := by
  refine returnsInHanded_of_row (C := Tryd.checked) (s := OpenSpec.ofChange Rows.quantDoesSpec) own started (by kernel_rfl) Tryd.func11
    (witness_row_at (enc := enc) (C := Tryd.checked) false (laidWorld os) #[.int .i64 0, .agg #[.int .u8 0, .int .u8 0, .int .i64 0, .slice none 0 0], .slice none 0 0, .slice none 0 0, .slice none 0 0] (laid_os os) (by kernel_rfl) (by kernel_rfl) (by kernel_rfl)
      (OpenSpec.preRow_of_cond 8 (show DataW.whole enc Tryd.prog ((laidWorld os).forCall (fun _ _ => 0) ⟨#[], #[.int .i64 0, .agg #[.int .u8 0, .int .u8 0, .int .i64 0, .slice none 0 0], .slice none 0 0, .slice none 0 0, .slice none 0 0], []⟩).memory Tryd.f11.params.toList Rows.quantDoesSpec.vars false #[.int .i64 0, .agg #[.int .u8 0, .int .u8 0, .int .i64 0, .slice none 0 0], .slice none 0 0, .slice none 0 0, .slice none 0 0].toList 8 = some ([.lit (.int .i64 0), .agg [.lit (.int .u8 0), .lit (.int .u8 0), .lit (.int .i64 0), .nil], .nil, .nil, .nil], [], []) by kernel_rfl) (by kernel_rfl) (fun k hk => by cases hk) (by kernel_rfl) (laid_met os _))) ?_
  intro W base args ds gs before hval0 hW _ _ hsz0 hL _ _
  have hval : ∀ (j : Nat) t v, Tryd.f11.params[j]? = some t → args[j]? = some v → Value.okWide Tryd.prog W .any base t v := hval0
  have hW' := hW
  obtain ⟨p, q, hA0, hV, rfl, hfz, hnd⟩ := hW
  have hA : DataW.TrodAll enc Tryd.prog W 0 (fun _ => true) true Tryd.f11.params.toList args.toList ds p := hA0
  rw [Tryd.params11] at hA hval
  obtain ⟨v0, vs0, d0, ds0, p0, q0, hargs, rfl, rfl, h0, r0⟩ := trodAll_cons hA
  obtain ⟨v1, vs1, d1, ds1, p1, q1, rfl, rfl, rfl, h1, r1⟩ := trodAll_cons r0
  obtain ⟨v2, vs2, d2, ds2, p2, q2, rfl, rfl, rfl, h2, r2⟩ := trodAll_cons r1
  obtain ⟨v3, vs3, d3, ds3, p3, q3, rfl, rfl, rfl, h3, r3⟩ := trodAll_cons r2
  obtain ⟨v4, vs4, d4, ds4, p4, q4, rfl, rfl, rfl, h4, r4⟩ := trodAll_cons r3
  obtain ⟨rfl, rfl, rfl⟩ := trodAll_nil r4
  obtain rfl : args = #[v0, v1, v2, v3, v4] := by cases args; simp_all
  obtain ⟨rfl, rfl⟩ := trodVars_none hV
  obtain ⟨a0, rfl, rfl, rfl, w0⟩ := open_int Tryd.underlying3 (hval 0 3 v0 rfl rfl) h0
  have k1 := h1
  have lt1 : ∀ x ∈ p1, x.block < W.heap.size := by obtain ⟨m, hm⟩ := k1; exact DataW.trod_lt m _ _ _ hm
  obtain ⟨a1s, a1h, a1m, a1a, a1c, a1z, rfl, w1s, w1h, w1m, l1, r1r, e1⟩ := open_info Tryd.underlying50 rfl rfl rfl rfl Tryd.underlying5 Tryd.underlying5 Tryd.underlying3 Tryd.underlying39 Tryd.underlying3 (by kernel_rfl) (by kernel_rfl) (by kernel_rfl) (by kernel_rfl) (by kernel_rfl) (by kernel_rfl) (hval 1 50 v1 rfl rfl) h1
  obtain ⟨a2, len2, cap2, rfl⟩ := okWide_slice Tryd.underlying51 (hval 2 51 v2 rfl rfl)
  have k2 := h2
  have lt2 : ∀ x ∈ p2, x.block < W.heap.size := by obtain ⟨m, hm⟩ := k2; exact DataW.trod_lt m _ _ _ hm
  obtain ⟨z2, w2⟩ := open_rows_sz Tryd.underlying51 Tryd.underlying39 Tryd.underlying3 (by kernel_rfl) (by kernel_rfl) (by kernel_rfl) (fun n hn => of_decide_eq_true (List.all_eq_true.1 hsz0 _ (DataW.weights_mem_each (j := 2) (t := 51) rfl rfl n hn))) h2
  obtain ⟨a3, len3, cap3, rfl⟩ := okWide_slice Tryd.underlying51 (hval 3 51 v3 rfl rfl)
  have k3 := h3
  have lt3 : ∀ x ∈ p3, x.block < W.heap.size := by obtain ⟨m, hm⟩ := k3; exact DataW.trod_lt m _ _ _ hm
  obtain ⟨z3, w3⟩ := open_rows_sz Tryd.underlying51 Tryd.underlying39 Tryd.underlying3 (by kernel_rfl) (by kernel_rfl) (by kernel_rfl) (fun n hn => of_decide_eq_true (List.all_eq_true.1 hsz0 _ (DataW.weights_mem_each (j := 3) (t := 51) rfl rfl n hn))) h3
  obtain ⟨a4, len4, cap4, rfl⟩ := okWide_slice Tryd.underlying39 (hval 4 39 v4 rfl rfl)
  have k4 := h4
  have lt4 : ∀ x ∈ p4, x.block < W.heap.size := by obtain ⟨m, hm⟩ := k4; exact DataW.trod_lt m _ _ _ hm
  obtain ⟨z4, w4⟩ : ∃ zs, IsRow .i64 W a4 len4 cap4 zs := by
    obtain ⟨fuel, hf⟩ := h4
    rcases open_ints Tryd.underlying39 Tryd.underlying3 (by kernel_rfl) hf with ⟨hcs, _⟩ | ⟨x, l, c, zs, hcs, _, hl, hm, hz, _, hcell, hwz⟩
    · simp [Value.cells] at hcs
      obtain ⟨rfl, rfl, rfl⟩ := hcs
      exact ⟨[], .inl ⟨rfl, rfl, rfl, rfl⟩⟩
    · simp [Value.cells] at hcs
      obtain ⟨rfl, rfl, rfl⟩ := hcs
      exact ⟨zs, .inr ⟨_, rfl, hl, hm, by simpa using hz, hcell, hwz⟩⟩
  clear hA0 hval0
  refine (walk a0 a1s a1h a1m a1a a1c a1z a2 len2 cap2 z2 a3 len3 cap3 z3 a4 len4 cap4 z4 W w0 w1s w1h w1m l1 r1r e1 w2 w3 w4 hL).mono fun e W' ⟨he, bel⟩ => ?_
  subst he
  exact ⟨_, rfl, _, _, _, [], _, [], hW', trodAll_mk1 (shut_bool Tryd.underlying4 _), (trodAll_cons_mk (shut_int Tryd.underlying3 w0) (trodAll_cons_mk (Below.trod laidOut (by kernel_rfl) (of_decide_eq_true (by kernel_rfl)) k1 bel lt1) (trodAll_cons_mk (Below.trod laidOut (by kernel_rfl) (of_decide_eq_true (by kernel_rfl)) k2 bel lt2) (trodAll_cons_mk (Below.trod laidOut (by kernel_rfl) (of_decide_eq_true (by kernel_rfl)) k3 bel lt3) (trodAll_cons_mk (Below.trod laidOut (by kernel_rfl) (of_decide_eq_true (by kernel_rfl)) k4 bel lt4) trodAll_mk0))))), rfl, bel.frame _, fun h => by cases h⟩

theorem said : Rows.QuantDoesSaid :=
  OpenClaim.holds_of_cond 11 Tryd.f11 rfl rfl rfl rfl rfl rfl rfl ⟨rfl, rfl, rfl, rfl, rfl⟩ rfl rfl rfl rfl rfl (by kernel_rfl) Tryd.func11 (by kernel_rfl)
    (of_decide_eq_true (by kernel_rfl)) (by unfold Func.isWrapper; first | (rw [if_pos (by decide +kernel)]; kernel_rfl) | (rw [if_neg (by decide +kernel)]; exact ⟨rfl, rfl⟩))
    (fun os started H enc _ F => by rw [OpenClaim.pre_eq_preRow]; exact lifted os started H enc F)

theorem plain (f : FuncId) (fn : Func) (hf : Tryd.pinned.checked.prog.funcNamed "reedpipe/reedpipelaw14.QuantDoes" = some f) (hfn : Tryd.pinned.checked.prog.funcs[f]? = some fn) :
    false = Tryd.pinned.checked.prog.looks [] ∧ ∀ (j : Nat) t, fn.params[j]? = some t → Tryd.pinned.checked.prog.wantsStandIn t = false := by
  obtain rfl : f = 11 := Option.some.inj ((show Tryd.prog.funcNamed "reedpipe/reedpipelaw14.QuantDoes" = some 11 by kernel_rfl).symm.trans hf) |>.symm
  obtain rfl : fn = Tryd.f11 := (Option.some.inj (Tryd.func11.symm.trans hfn)).symm
  refine ⟨by kernel_rfl, fun j t ht => ?_⟩
  rw [Tryd.params11] at ht
  have hm : t ∈ [3, 50, 51, 51, 39] := by simpa using Array.mem_of_getElem? ht
  have hall : ([3, 50, 51, 51, 39].all fun u => !Tryd.prog.wantsStandIn u) = true := by kernel_rfl
  exact (show Tryd.prog.wantsStandIn t = false by simpa using List.all_eq_true.1 hall t hm)

theorem proved : Rows.QuantDoesCardSaid :=
  Claim7.holds_tied_plain_at .later [] _ _ _ _ said (fun _ h => by cases h) (by kernel_rfl) (fun _ h => by cases h) quantDoes_row_tie rfl ⟨rfl, rfl⟩ (by kernel_rfl) rfl plain (by kernel_rfl)

end Go.Proofs.YtanjcbnkkhbkkaaDoor.quantDoes
