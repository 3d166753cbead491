/- Put, Get, Cost and Fits answer as the document tells them, and leave what they are given as it was. HuffTells returns true, whatever the bits, the place, the book and the values, the memory and the schedule; the variables that the row lists are tied to the program's text. No condition. -/
import Derived.Test.YteklahfgplbmcaaDoorMrg11
import Derived.Test.YteklahfgplbmcaaDoorCards
import Derived.Test.YteklahfgplbmcaaDoorTie
import Derived.WalkKit
import Derived.Below
import Derived.RegionTactic
import Derived.Deep.QuietTactic
import Derived.BigQuiet
import Derived.ChangeAlike
import Derived.Deep.OwnRows
import Derived.ProofKit
import Derived.OpenShut
import Derived.ShutString
import Derived.ChangeOld
import Derived.Deep.DeepHandedRow
import Derived.Lib.LaidTab
import Derived.Lib.Hide
namespace Go.Proofs.YteklahfgplbmcaaDoor.huffTells
open Go Go.Ev Go.Proofs.YteklahfgplbmcaaDoor.BkEn Go.Proofs.YteklahfgplbmcaaDoor.BkRf Go.Proofs.YteklahfgplbmcaaDoor.BcMn Go.ChangeShapes Go.WideShapes Go.ChangeAt Go.RowKit Go.Proofs.YteklahfgplbmcaaDoor.Bk Go.Proofs.YteklahfgplbmcaaDoor.Hf Go.Proofs.YteklahfgplbmcaaDoor.Cr

theorem main (a0 : Option Addr) (n0 c0 : Nat) (z0 : List Int) (t i p : Int) (a1 : Option Addr) (n1 c1 : Nat) (z1 : List Int) (a2 : Option Addr) (n2 c2 : Nat) (z2 : List Int) (a3 : Option Addr) (n3 c3 : Nat) (z3 : List Int) (w : World) (hs : Sh w ∧ Hm w)
    (h0 : Go.Proofs.YteklahfgplbmcaaDoor.Cr.IsRow .u8 w a0 n0 c0 z0) (h1 : Go.Proofs.YteklahfgplbmcaaDoor.Cr.IsRow .i64 w a1 n1 c1 z1) (h2 : Go.Proofs.YteklahfgplbmcaaDoor.Cr.IsRow .i64 w a2 n2 c2 z2) (h3 : Go.Proofs.YteklahfgplbmcaaDoor.Cr.IsRow .i64 w a3 n3 c3 z3) :
    Calls Tryd.prog 10 #[.slice a0 n0 c0, .int .i64 t, .agg #[.int .i64 i, .int .i64 p, .slice a1 n1 c1, .slice a2 n2 c2], .slice a3 n3 c3] w fun e w' => e = .returned (.bool true) ∧ Below w.heap.size w w' := by
  by_cases h : 10000 < n0 ∨ (2000 < n1 ∨ 2000 < n2) ∨ 1000 < n3
  · exact out10 i p t a0 n0 c0 a1 a2 n1 c1 n2 c2 a3 n3 c3 w h
  obtain ⟨A, hA, r1, _, _⟩ := isrow_rd h1
  obtain ⟨B, hB, r2, _, _⟩ := isrow_rd h2
  obtain ⟨zs, hZs, r3, _, hb⟩ := isrow_rd h3
  obtain ⟨z, hZ, r0, b0⟩ := isrow8 h0
  subst hA hB hZ hZs
  exact go10 i p t a0 c0 z a1 a2 c1 c2 A B a3 c3 zs w hs.1 hs.2 (by omega) (by omega) (by omega) (by omega) r0 b0 r1 r2 r3 hb
theorem named : Named Tryd.prog Rows.huffTellsRow.laid [(0, 83), (1, 107)] := ⟨by kernel_rfl, by kernel_rfl, by kernel_rfl, by kernel_rfl, trivial⟩
theorem flat1 : flats E Rows.huffTellsRow.laid [(0, 83), (1, 107)] = some [(0, [.int .i64 4, .int .i64 (-1), .int .i64 1, .int .i64 0, .int .i64 4, .int .i64 (-1), .int .i64 1, .int .i64 1, .int .i64 4, .int .i64 0, .int .i64 2, .int .i64 0, .int .i64 4, .int .i64 0, .int .i64 2, .int .i64 1, .int .i64 2, .int .i64 (-4), .int .i64 4, .int .i64 0, .int .i64 2, .int .i64 (-4), .int .i64 4, .int .i64 1, .int .i64 2, .int .i64 0, .int .i64 7, .int .i64 1, .int .i64 2, .int .i64 0, .int .i64 7, .int .i64 2, .int .i64 2, .int .i64 0, .int .i64 12, .int .i64 1, .int .i64 2, .int .i64 0, .int .i64 12, .int .i64 2, .int .i64 2, .int .i64 0, .int .i64 16, .int .i64 2, .int .i64 1, .int .i64 (-60), .int .i64 60, .int .i64 0]), (1, [.int .i64 1, .int .i64 1, .int .i64 2, .int .i64 2, .int .i64 4, .int .i64 4, .int .i64 7, .int .i64 7, .int .i64 12, .int .i64 12, .int .i64 8191])] := by kernel_rfl
set_option linter.unusedVariables false in
theorem walk (a0 : Option Addr) (n0 c0 : Nat) (z0 : List Int) (t : Int) (i p : Int) (a1 : Option Addr) (n1 c1 : Nat) (z1 : List Int) (a2 : Option Addr) (n2 c2 : Nat) (z2 : List Int) (a3 : Option Addr) (n3 c3 : Nat) (z3 : List Int) (w : World)
    (h0 : IsRow .u8 w a0 n0 c0 z0) (_ : (Lit.int .i64 t).wf = true) (_ : (Lit.int .i64 i).wf = true) (_ : (Lit.int .i64 p).wf = true) (h1 : IsRow .i64 w a1 n1 c1 z1) (h2 : IsRow .i64 w a2 n2 c2 z2) (h3 : IsRow .i64 w a3 n3 c3 z3) (hL : laidMetH Tryd.prog Rows.huffTellsRow.laid w) :
    Calls Tryd.prog 10 #[.slice a0 n0 c0, .int .i64 t, .agg #[.int .i64 i, .int .i64 p, .slice a1 n1 c1, .slice a2 n2 c2], .slice a3 n3 c3] w fun e w' => e = .returned (.bool true) ∧ Below w.heap.size w w' :=
  main a0 n0 c0 z0 t i p a1 n1 c1 z1 a2 n2 c2 z2 a3 n3 c3 z3 w (sh_hm hL (by kernel_rfl) named flat1) h0 h1 h2 h3
noncomputable def laidWorld (os : Os) : World := lay E Rows.huffTellsRow.laid [(0, 83), (1, 107)] (World.holding Tryd.prog os ⟨#[], #[.slice none 0 0, .int .i64 0, .agg #[.int .i64 0, .int .i64 0, .slice none 0 0, .slice none 0 0], .slice none 0 0], []⟩)
theorem laid_os (os : Os) : (laidWorld os).os = os := by kernel_rfl
theorem own : ownKnob Tryd.prog.godebug = none := by kernel_rfl
theorem laidOut : laidOutB Tryd.prog = true := by kernel_rfl
set_option linter.unusedVariables false
theorem laid_met (os : Os) (args : Array Value) : laidMet Tryd.prog Rows.huffTellsRow.laid ((laidWorld os).forCall (fun _ _ => 0) ⟨#[], args, []⟩).memory := laidMet_of_run' 8 (by kernel_rfl) (by kernel_rfl)
set_option maxRecDepth 100000 in
theorem lifted (os : Os) (started : os.Started) (H : Type) (enc : TypeId × Value → H) (F : Stop.Interp) :
    ReturnsInHanded {} Tryd.checked os 10 .any ((OpenSpec.ofChange Rows.huffTellsSpec).preRow enc Tryd.prog Tryd.f10 Rows.huffTellsRow.domain false Rows.huffTellsRow.laid) (((OpenSpec.ofChange Rows.huffTellsSpec).at F).post enc Tryd.prog Tryd.f10 false true false false) := by
  refine returnsInHanded_of_row (C := Tryd.checked) (s := OpenSpec.ofChange Rows.huffTellsSpec) own started (by kernel_rfl) Tryd.func10
    (witness_row_at (enc := enc) (C := Tryd.checked) false (laidWorld os) #[.slice none 0 0, .int .i64 0, .agg #[.int .i64 0, .int .i64 0, .slice none 0 0, .slice none 0 0], .slice none 0 0] (laid_os os) (by kernel_rfl) (by kernel_rfl) (by kernel_rfl)
      (OpenSpec.preRow_of_cond 8 (show DataW.whole enc Tryd.prog ((laidWorld os).forCall (fun _ _ => 0) ⟨#[], #[.slice none 0 0, .int .i64 0, .agg #[.int .i64 0, .int .i64 0, .slice none 0 0, .slice none 0 0], .slice none 0 0], []⟩).memory Tryd.f10.params.toList Rows.huffTellsSpec.vars false #[.slice none 0 0, .int .i64 0, .agg #[.int .i64 0, .int .i64 0, .slice none 0 0, .slice none 0 0], .slice none 0 0].toList 8 = some ([.nil, .lit (.int .i64 0), .agg [.lit (.int .i64 0), .lit (.int .i64 0), .nil, .nil], .nil], [], []) by kernel_rfl) (by kernel_rfl) (fun k hk => by cases hk) (by kernel_rfl) (laid_met os _))) ?_
  intro W base args ds gs before hval0 hW _ _ _ hL _ _
  have hval : ∀ (j : Nat) t v, Tryd.f10.params[j]? = some t → args[j]? = some v → Value.okWide Tryd.prog W .any base t v := hval0
  have hW' := hW
  obtain ⟨p, q, hA0, hV, rfl, hfz, hnd⟩ := hW
  have hA : DataW.TrodAll enc Tryd.prog W 0 (fun _ => true) true Tryd.f10.params.toList args.toList ds p := hA0
  rw [Tryd.params10] at hA hval
  obtain ⟨v0, vs0, d0, ds0, p0, q0, hargs, rfl, rfl, h0, r0⟩ := trodAll_cons hA
  obtain ⟨v1, vs1, d1, ds1, p1, q1, rfl, rfl, rfl, h1, r1⟩ := trodAll_cons r0
  obtain ⟨v2, vs2, d2, ds2, p2, q2, rfl, rfl, rfl, h2, r2⟩ := trodAll_cons r1
  obtain ⟨v3, vs3, d3, ds3, p3, q3, rfl, rfl, rfl, h3, r3⟩ := trodAll_cons r2
  obtain ⟨rfl, rfl, rfl⟩ := trodAll_nil r3
  obtain rfl : args = #[v0, v1, v2, v3] := by cases args; simp_all
  obtain ⟨rfl, rfl⟩ := trodVars_none hV
  obtain ⟨a0, len0, cap0, rfl⟩ := okWide_slice Tryd.underlying28 (hval 0 28 v0 rfl rfl)
  have k0 := h0
  have lt0 : ∀ x ∈ p0, x.block < W.heap.size := by obtain ⟨m, hm⟩ := k0; exact DataW.trod_lt m _ _ _ hm
  obtain ⟨z0, w0⟩ : ∃ zs, IsRow .u8 W a0 len0 cap0 zs := by
    obtain ⟨fuel, hf⟩ := h0
    rcases open_ints Tryd.underlying28 Tryd.underlying5 (by kernel_rfl) hf with ⟨hcs, _⟩ | ⟨x, l, c, zs, hcs, _, hl, hm, hz, _, hcell, hwz⟩
    · simp [Value.cells] at hcs
      obtain ⟨rfl, rfl, rfl⟩ := hcs
      exact ⟨[], .inl ⟨rfl, rfl, rfl, rfl⟩⟩
    · simp [Value.cells] at hcs
      obtain ⟨rfl, rfl, rfl⟩ := hcs
      exact ⟨zs, .inr ⟨_, rfl, hl, hm, by simpa using hz, hcell, hwz⟩⟩
  obtain ⟨a1, rfl, rfl, rfl, w1⟩ := open_int Tryd.underlying3 (hval 1 3 v1 rfl rfl) h1
  have k2 := h2
  have lt2 : ∀ x ∈ p2, x.block < W.heap.size := by obtain ⟨m, hm⟩ := k2; exact DataW.trod_lt m _ _ _ hm
  obtain ⟨a2i, a2p, a2a, a2n, a2c, a2z, a2b, a2m, a2d, a2y, rfl, w2i, w2p, w2a, w2b⟩ := open_bookR Tryd.underlying24 rfl rfl rfl rfl Tryd.underlying3 Tryd.underlying3 Tryd.underlying22 Tryd.underlying22 Tryd.underlying3 (by kernel_rfl) (by kernel_rfl) (by kernel_rfl) (by kernel_rfl) (by kernel_rfl) (by kernel_rfl) (hval 2 24 v2 rfl rfl) h2
  obtain ⟨a3, len3, cap3, rfl⟩ := okWide_slice Tryd.underlying22 (hval 3 22 v3 rfl rfl)
  have k3 := h3
  have lt3 : ∀ x ∈ p3, x.block < W.heap.size := by obtain ⟨m, hm⟩ := k3; exact DataW.trod_lt m _ _ _ hm
  obtain ⟨z3, w3⟩ : ∃ zs, IsRow .i64 W a3 len3 cap3 zs := by
    obtain ⟨fuel, hf⟩ := h3
    rcases open_ints Tryd.underlying22 Tryd.underlying3 (by kernel_rfl) hf with ⟨hcs, _⟩ | ⟨x, l, c, zs, hcs, _, hl, hm, hz, _, hcell, hwz⟩
    · simp [Value.cells] at hcs
      obtain ⟨rfl, rfl, rfl⟩ := hcs
      exact ⟨[], .inl ⟨rfl, rfl, rfl, rfl⟩⟩
    · simp [Value.cells] at hcs
      obtain ⟨rfl, rfl, rfl⟩ := hcs
      exact ⟨zs, .inr ⟨_, rfl, hl, hm, by simpa using hz, hcell, hwz⟩⟩
  clear hA0 hval0
  refine (walk a0 len0 cap0 z0 a1 a2i a2p a2a a2n a2c a2z a2b a2m a2d a2y a3 len3 cap3 z3 W w0 w1 w2i w2p w2a w2b w3 hL).mono fun e W' ⟨he, bel⟩ => ?_
  subst he
  exact ⟨_, rfl, _, _, _, [], _, [], hW', trodAll_mk1 (shut_bool Tryd.underlying4 _), (trodAll_cons_mk (Below.trod laidOut (by kernel_rfl) (of_decide_eq_true (by kernel_rfl)) k0 bel lt0) (trodAll_cons_mk (shut_int Tryd.underlying3 w1) (trodAll_cons_mk (Below.trod laidOut (by kernel_rfl) (of_decide_eq_true (by kernel_rfl)) k2 bel lt2) (trodAll_cons_mk (Below.trod laidOut (by kernel_rfl) (of_decide_eq_true (by kernel_rfl)) k3 bel lt3) trodAll_mk0)))), rfl, bel.frame _, fun h => by cases h⟩

theorem said : Rows.HuffTellsSaid :=
  OpenClaim.holds_of_cond 10 Tryd.f10 rfl rfl rfl rfl rfl rfl rfl ⟨rfl, rfl, rfl, rfl, rfl⟩ rfl rfl rfl rfl rfl (by kernel_rfl) Tryd.func10 (by kernel_rfl)
    (of_decide_eq_true (by kernel_rfl)) (by unfold Func.isWrapper; first | (rw [if_pos (by decide +kernel)]; kernel_rfl) | (rw [if_neg (by decide +kernel)]; exact ⟨rfl, rfl⟩))
    (fun os started H enc _ F => by rw [OpenClaim.pre_eq_preRow]; exact lifted os started H enc F)

theorem plain (f : FuncId) (fn : Func) (hf : Tryd.pinned.checked.prog.funcNamed "reedpipe/reedpipelaw09.HuffTells" = some f) (hfn : Tryd.pinned.checked.prog.funcs[f]? = some fn) :
    false = Tryd.pinned.checked.prog.looks [] ∧ ∀ (j : Nat) t, fn.params[j]? = some t → Tryd.pinned.checked.prog.wantsStandIn t = false := by
  obtain rfl : f = 10 := Option.some.inj ((show Tryd.prog.funcNamed "reedpipe/reedpipelaw09.HuffTells" = some 10 by kernel_rfl).symm.trans hf) |>.symm
  obtain rfl : fn = Tryd.f10 := (Option.some.inj (Tryd.func10.symm.trans hfn)).symm
  refine ⟨by kernel_rfl, fun j t ht => ?_⟩
  rw [Tryd.params10] at ht
  have hm : t ∈ [28, 3, 24, 22] := by simpa using Array.mem_of_getElem? ht
  have hall : ([28, 3, 24, 22].all fun u => !Tryd.prog.wantsStandIn u) = true := by kernel_rfl
  exact (show Tryd.prog.wantsStandIn t = false by simpa using List.all_eq_true.1 hall t hm)

theorem proved : Rows.HuffTellsCardSaid :=
  Claim7.holds_tied_plain_at .later [] _ _ _ _ said (fun _ h => by cases h) (by kernel_rfl) (fun _ h => by cases h) huffTells_row_tie rfl ⟨rfl, rfl⟩ (by kernel_rfl) rfl plain (by kernel_rfl)

end Go.Proofs.YteklahfgplbmcaaDoor.huffTells
