/- Behind any sequence just two may follow, behind Start and Shorts those that begin with a short overlap, behind the others those that do not; and numbers beyond 3 follow nothing. InfoFollows returns true, whatever the two numbers, the memory and the schedule; the variable that the row lists is tied to the program's text. No condition. -/
import Derived.Test.YtnbbjobmaakogaaDoorTab
import Derived.Test.YtnbbjobmaakogaaDoorEvLaw
import Derived.Test.YtnbbjobmaakogaaDoorEvLaid
import Derived.Test.YtnbbjobmaakogaaDoorCards
import Derived.Test.YtnbbjobmaakogaaDoorTie
import Derived.WalkKit
import Derived.Below
import Derived.RegionTactic
import Derived.Deep.QuietTactic
import Derived.BigQuiet
import Derived.ChangeAlike
import Derived.Deep.OwnRows
import Derived.ProofKit
import Derived.OpenShut
import Derived.ShutString
import Derived.ChangeOld
import Derived.Deep.DeepHandedRow
import Derived.Lib.LaidTab
import Derived.Lib.Hide
namespace Go.Proofs.YtnbbjobmaakogaaDoor.infoFollows
open Go Go.Ev Go.ChangeShapes Go.WideShapes Go.ChangeAt Go.RowKit 

/-- The table. -/
def Fw (w : World) : Prop := AllP (CellsAre w) [(0, [.bool true, .bool true, .bool false, .bool false, .bool false, .bool false, .bool true, .bool true, .bool false, .bool false, .bool true, .bool true, .bool true, .bool true, .bool false, .bool false])]
theorem fw_cell {w : World} (h : Fw w) (i : Nat) (b : Bool) (hb : [true, true, false, false, false, false, true, true, false, false, true, true, true, true, false, false][i]? = some b) : w.cell? ⟨0, i, none⟩ = some (.bool b) := by
  obtain ⟨⟨c, t, fz, hc, hd⟩, _⟩ := h
  have := hd (fun _ => none)
  simp [denL, den] at this
  have e : c[i]? = (c.toList)[i]? := by simp
  simp only [World.cell?, hc]
  rw [e, ← this]
  match i, hb with
  | 0, hb => simp at hb; subst hb; rfl
  | 1, hb => simp at hb; subst hb; rfl
  | 2, hb => simp at hb; subst hb; rfl
  | 3, hb => simp at hb; subst hb; rfl
  | 4, hb => simp at hb; subst hb; rfl
  | 5, hb => simp at hb; subst hb; rfl
  | 6, hb => simp at hb; subst hb; rfl
  | 7, hb => simp at hb; subst hb; rfl
  | 8, hb => simp at hb; subst hb; rfl
  | 9, hb => simp at hb; subst hb; rfl
  | 10, hb => simp at hb; subst hb; rfl
  | 11, hb => simp at hb; subst hb; rfl
  | 12, hb => simp at hb; subst hb; rfl
  | 13, hb => simp at hb; subst hb; rfl
  | 14, hb => simp at hb; subst hb; rfl
  | 15, hb => simp at hb; subst hb; rfl
  | i + 16, hb => simp at hb
theorem Fw.below {w w' : World} (h : Fw w) (hb : Below w.heap.size w w') : Fw w' := by
  obtain ⟨⟨c, t, fz, hc, hd⟩, _⟩ := h
  have hl : 0 < w.heap.size := (Array.getElem?_eq_some_iff.1 hc).1
  exact ⟨⟨c, t, fz, (hb.block 0 hl).trans hc, hd⟩, trivial⟩
theorem fw_of {laid : List (String × DataW Unit)} {w : World} (hL : laidMetH Tryd.prog laid w) (h1 : (laid.all fun x => x.2.handleName?.isNone) = true) (h2 : Named Tryd.prog laid [(0, 25)])
    (h3 : flats E laid [(0, 25)] = some [(0, [.bool true, .bool true, .bool false, .bool false, .bool false, .bool false, .bool true, .bool true, .bool false, .bool false, .bool true, .bool true, .bool true, .bool true, .bool false, .bool false])]) : Fw w := laidG h1 h2 h3 hL
/-- May a sequence follow? -/
def aft (a n : Int) : Bool := decide (a ≤ 3 ∧ n ≤ 3 ∧ (((a = 0 ∨ a = 3) ∧ n ≤ 1) ∨ ((a = 1 ∨ a = 2) ∧ 2 ≤ n)))
theorem aft_ok (a n : Int) (w : World) (a0 : 0 ≤ a) (n0 : 0 ≤ n) (hw : Fw w) : Calls Tryd.prog 4 #[.int .u8 a, .int .u8 n] w fun e w' => e = .returned (.bool (aft a n)) ∧ w = w' := by
  by_cases h1 : 3 < a
  · rw [show aft a n = false from decide_eq_false (by omega)]
    clear hw
    go_enter Tryd.func4, Tryd.ntmps4
    go_wp2
    go_ret
    exact ⟨rfl, rfl⟩
  by_cases h2 : 3 < n
  · rw [show aft a n = false from decide_eq_false (by omega)]
    clear hw
    go_enter Tryd.func4, Tryd.ntmps4
    go_wp2
    go_ret
    exact ⟨rfl, rfl⟩
  have cs := fun i b h => fw_cell hw i b h
  clear hw
  obtain rfl | rfl | rfl | rfl : a = 0 ∨ a = 1 ∨ a = 2 ∨ a = 3 := by omega
  · obtain rfl | rfl | rfl | rfl : n = 0 ∨ n = 1 ∨ n = 2 ∨ n = 3 := by omega
    · have c := cs 0 _ rfl
      clear cs
      rw [show aft 0 0 = true from rfl]
      go_enter Tryd.func4, Tryd.ntmps4
      go_wp2
      go_ret
      exact ⟨rfl, rfl⟩
    · have c := cs 1 _ rfl
      clear cs
      rw [show aft 0 1 = true from rfl]
      go_enter Tryd.func4, Tryd.ntmps4
      go_wp2
      go_ret
      exact ⟨rfl, rfl⟩
    · have c := cs 2 _ rfl
      clear cs
      rw [show aft 0 2 = false from rfl]
      go_enter Tryd.func4, Tryd.ntmps4
      go_wp2
      go_ret
      exact ⟨rfl, rfl⟩
    · have c := cs 3 _ rfl
      clear cs
      rw [show aft 0 3 = false from rfl]
      go_enter Tryd.func4, Tryd.ntmps4
      go_wp2
      go_ret
      exact ⟨rfl, rfl⟩
  · obtain rfl | rfl | rfl | rfl : n = 0 ∨ n = 1 ∨ n = 2 ∨ n = 3 := by omega
    · have c := cs 4 _ rfl
      clear cs
      rw [show aft 1 0 = false from rfl]
      go_enter Tryd.func4, Tryd.ntmps4
      go_wp2
      go_ret
      exact ⟨rfl, rfl⟩
    · have c := cs 5 _ rfl
      clear cs
      rw [show aft 1 1 = false from rfl]
      go_enter Tryd.func4, Tryd.ntmps4
      go_wp2
      go_ret
      exact ⟨rfl, rfl⟩
    · have c := cs 6 _ rfl
      clear cs
      rw [show aft 1 2 = true from rfl]
      go_enter Tryd.func4, Tryd.ntmps4
      go_wp2
      go_ret
      exact ⟨rfl, rfl⟩
    · have c := cs 7 _ rfl
      clear cs
      rw [show aft 1 3 = true from rfl]
      go_enter Tryd.func4, Tryd.ntmps4
      go_wp2
      go_ret
      exact ⟨rfl, rfl⟩
  · obtain rfl | rfl | rfl | rfl : n = 0 ∨ n = 1 ∨ n = 2 ∨ n = 3 := by omega
    · have c := cs 8 _ rfl
      clear cs
      rw [show aft 2 0 = false from rfl]
      go_enter Tryd.func4, Tryd.ntmps4
      go_wp2
      go_ret
      exact ⟨rfl, rfl⟩
    · have c := cs 9 _ rfl
      clear cs
      rw [show aft 2 1 = false from rfl]
      go_enter Tryd.func4, Tryd.ntmps4
      go_wp2
      go_ret
      exact ⟨rfl, rfl⟩
    · have c := cs 10 _ rfl
      clear cs
      rw [show aft 2 2 = true from rfl]
      go_enter Tryd.func4, Tryd.ntmps4
      go_wp2
      go_ret
      exact ⟨rfl, rfl⟩
    · have c := cs 11 _ rfl
      clear cs
      rw [show aft 2 3 = true from rfl]
      go_enter Tryd.func4, Tryd.ntmps4
      go_wp2
      go_ret
      exact ⟨rfl, rfl⟩
  · obtain rfl | rfl | rfl | rfl : n = 0 ∨ n = 1 ∨ n = 2 ∨ n = 3 := by omega
    · have c := cs 12 _ rfl
      clear cs
      rw [show aft 3 0 = true from rfl]
      go_enter Tryd.func4, Tryd.ntmps4
      go_wp2
      go_ret
      exact ⟨rfl, rfl⟩
    · have c := cs 13 _ rfl
      clear cs
      rw [show aft 3 1 = true from rfl]
      go_enter Tryd.func4, Tryd.ntmps4
      go_wp2
      go_ret
      exact ⟨rfl, rfl⟩
    · have c := cs 14 _ rfl
      clear cs
      rw [show aft 3 2 = false from rfl]
      go_enter Tryd.func4, Tryd.ntmps4
      go_wp2
      go_ret
      exact ⟨rfl, rfl⟩
    · have c := cs 15 _ rfl
      clear cs
      rw [show aft 3 3 = false from rfl]
      go_enter Tryd.func4, Tryd.ntmps4
      go_wp2
      go_ret
      exact ⟨rfl, rfl⟩
/-- How many may, of the first numbers. -/
def cnt (a : Int) : Nat → Int
  | 0 => 0
  | k + 1 => cnt a k + (if aft a k then 1 else 0)
theorem cnt_bd (a : Int) : ∀ k : Nat, 0 ≤ cnt a k ∧ cnt a k ≤ k
  | 0 => by simp [cnt]
  | k + 1 => by have := cnt_bd a k; simp only [cnt]; split <;> omega
theorem cnt_none {a : Int} (h : 3 < a) : ∀ k : Nat, cnt a k = 0
  | 0 => rfl
  | k + 1 => by simp only [cnt, cnt_none h k, show aft a k = false from decide_eq_false (by omega)]; rfl
theorem cnt_two {a : Int} (h0 : 0 ≤ a) (h : a ≤ 3) : cnt a 256 = 2 := by
  obtain rfl | rfl | rfl | rfl : a = 0 ∨ a = 1 ∨ a = 2 ∨ a = 3 := by omega
  all_goals decide +kernel
theorem alive_runs : (runG ((((E.up 40).up 40).up 40).up 40) 1 40 Rows.infoFollowsRow.laid [(0, 25)] 5 []).map (fun x => match x.1 with | .bool true => true | _ => false) = some true := by kernel_rfl
theorem alive_flat : flats ((((E.up 40).up 40).up 40).up 40) Rows.infoFollowsRow.laid [(0, 25)] = some [(0, [.bool true, .bool true, .bool false, .bool false, .bool false, .bool false, .bool true, .bool true, .bool false, .bool false, .bool true, .bool true, .bool true, .bool true, .bool false, .bool false])] := by kernel_rfl
theorem alive_ok (w : World) (hw : Fw w) : Calls Tryd.prog 5 #[] w fun e w' => e = .returned (.bool true) ∧ Below w.heap.size w w' := by
  obtain ⟨v, h', nx', h1, h2⟩ := ran alive_runs
  subst h2
  unfold runG at h1
  rw [alive_flat] at h1
  simp only at h1
  split at h1 <;> first | (cases h1; done) | skip
  rename_i h0 hh
  exact callG rfl hh h1 w hw rfl (fun _ => rfl)
set_option maxRecDepth 100000 in
set_option maxHeartbeats 4000000 in
theorem main' (a n : Int) (w : World) (a0 : 0 ≤ a) (n0 : 0 ≤ n) (n1 : n ≤ 255) (hw : Fw w) : Calls Tryd.prog 3 #[.int .u8 a, .int .u8 n] w fun e w' => e = .returned (.bool true) ∧ Below w.heap.size w w' := by
  have HA := Lib.hid (fun n h => aft_ok a n w a0 h hw)
  have HL := Lib.hid (alive_ok w hw)
  have HC := Lib.hid (cnt_bd a)
  clear hw
  go_enter Tryd.func3, Tryd.ntmps3
  go_wp2
  go_loop [5, 6] (fun c i => ∃ k : Nat, k ≤ 256 ∧ i = .int .i64 k ∧ c = .int .i64 (cnt a k)) (fun _ i => 256 - (intOf i).toNat)
  case atStart => exact ⟨0, by omega, rfl, rfl⟩
  case round =>
    obtain ⟨k, hk, rfl, rfl⟩ := hrel
    have hcb := HC.out k
    obtain ⟨hc0, hc1⟩ := hcb
    by_cases hlt : k < 256
    · have hs := Lib.hid (show cnt a (k + 1) = cnt a k + (if aft a k then 1 else 0) from rfl)
      have x1 : IntKind.u8.wrap (k : Int) = k := by simp [IntKind.wrap, IntKind.bits, IntKind.signed]; omega
      have HA' := Lib.hid (HA.out (k : Int) (by omega))
      generalize cnt a k = C at *
      cases hh : aft a k
      · rw [hh] at HA' hs
        clear hh
        go_wp2_with (go_at_call 4; ((with_reducible refine (HA'.out).mono ?_); rintro e w' ⟨rfl, rfl⟩))
        go_round
        case rel => exact ⟨k + 1, by omega, by go_num, by rw [hs.out]; simp⟩
        case measure => simp [intOf]; omega
      · rw [hh] at HA' hs
        clear hh
        go_wp2_with (go_at_call 4; ((with_reducible refine (HA'.out).mono ?_); rintro e w' ⟨rfl, rfl⟩))
        go_round
        case rel => exact ⟨k + 1, by omega, by go_num, by rw [hs.out]; rfl⟩
        case measure => simp [intOf]; omega
    · have hend : k = 256 := by omega
      subst hend
      clear hc0 hc1
      by_cases h3 : 3 < a
      · rw [cnt_none h3]
        go_wp2_with (go_at_call 5; ((with_reducible refine (HL.out).mono ?_); rintro e w1 ⟨rfl, hb⟩))
        go_ret
        exact ⟨rfl, hb⟩
      · rw [cnt_two a0 (by omega)]
        have HA' := Lib.hid (HA.out n n0)
        have key : aft a n = (decide (n ≤ 3) && ((a == 1 || a == 2) == (n == 2 || n == 3))) := by
          by_cases hn : n ≤ 3
          · obtain rfl | rfl | rfl | rfl : a = 0 ∨ a = 1 ∨ a = 2 ∨ a = 3 := by omega
            all_goals
              obtain rfl | rfl | rfl | rfl : n = 0 ∨ n = 1 ∨ n = 2 ∨ n = 3 := by omega
              all_goals rfl
          · rw [show aft a n = false from decide_eq_false (by omega), decide_eq_false hn]; rfl
        rw [key] at HA'
        clear key
        by_cases hn : n ≤ 3
        · have ha : a = 0 ∨ a = 1 ∨ a = 2 ∨ a = 3 := by omega
          have hn' : n = 0 ∨ n = 1 ∨ n = 2 ∨ n = 3 := by omega
          clear h3 a0 n0 n1 hn HA HC
          rcases ha with rfl | rfl | rfl | rfl <;> rcases hn' with rfl | rfl | rfl | rfl
          all_goals
            go_wp2_with (first | (go_at_call 4; ((with_reducible refine (HA'.out).mono ?_); rintro e w' ⟨rfl, rfl⟩)) | (go_at_call 5; ((with_reducible refine (HL.out).mono ?_); rintro e w1 ⟨rfl, hb⟩)))
            go_ret
            exact ⟨rfl, hb⟩
        · rw [decide_eq_false hn] at HA'
          have hn2 : 3 < n := by omega
          clear HA HC hn
          go_wp2_with (first | (go_at_call 4; ((with_reducible refine (HA'.out).mono ?_); rintro e w' ⟨rfl, rfl⟩)) | (go_at_call 5; ((with_reducible refine (HL.out).mono ?_); rintro e w1 ⟨rfl, hb⟩)))
          all_goals
            go_ret
            exact ⟨rfl, hb⟩
theorem wfb {s : Int} (h : (Lit.int .u8 s).wf = true) : 0 ≤ s ∧ s ≤ 255 := by
  simp [Lit.wf] at h
  have e : IntKind.u8.min = 0 := rfl
  have e2 : IntKind.u8.max = 255 := rfl
  omega
theorem main (a n : Int) (w : World) (ha : (Lit.int .u8 a).wf = true) (hn : (Lit.int .u8 n).wf = true) (hw : Fw w) : Calls Tryd.prog 3 #[.int .u8 a, .int .u8 n] w fun e w' => e = .returned (.bool true) ∧ (True ∧ Below w.heap.size w w') :=
  (main' a n w (wfb ha).1 (wfb hn).1 (wfb hn).2 hw).mono fun _ _ h => ⟨h.1, trivial, h.2⟩

theorem named : Named Tryd.prog Rows.infoFollowsRow.laid [(0, 25)] := ⟨by kernel_rfl, by kernel_rfl, trivial⟩
theorem flat1 : flats E Rows.infoFollowsRow.laid [(0, 25)] = some [(0, [.bool true, .bool true, .bool false, .bool false, .bool false, .bool false, .bool true, .bool true, .bool false, .bool false, .bool true, .bool true, .bool true, .bool true, .bool false, .bool false])] := by kernel_rfl
set_option linter.unusedVariables false in
theorem walk (a0 : Int) (a1 : Int) (w : World) (h0 : (Lit.int .u8 a0).wf = true) (h1 : (Lit.int .u8 a1).wf = true) (hL : laidMetH Tryd.prog Rows.infoFollowsRow.laid w) :
    Calls Tryd.prog 3 #[.int .u8 a0, .int .u8 a1] w fun e w' => e = .returned (.bool true) ∧ Below w.heap.size w w' :=
  (main a0 a1 w h0 h1 (fw_of hL (by kernel_rfl) named flat1)).mono fun _ _ h => ⟨h.1, h.2.2⟩
noncomputable def laidWorld (os : Os) : World := lay E Rows.infoFollowsRow.laid [(0, 25)] (World.holding Tryd.prog os ⟨#[], #[.int .u8 0, .int .u8 0], []⟩)
theorem laid_os (os : Os) : (laidWorld os).os = os := by kernel_rfl
theorem own : ownKnob Tryd.prog.godebug = none := by kernel_rfl
set_option linter.unusedVariables false
theorem laid_met (os : Os) (args : Array Value) : laidMet Tryd.prog Rows.infoFollowsRow.laid ((laidWorld os).forCall (fun _ _ => 0) ⟨#[], args, []⟩).memory := laidMet_of_run' 8 (by kernel_rfl) (by kernel_rfl)
set_option maxRecDepth 100000 in
theorem lifted (os : Os) (started : os.Started) (H : Type) (enc : TypeId × Value → H) (F : Stop.Interp) :
    ReturnsInHanded {} Tryd.checked os 3 .any ((OpenSpec.ofChange Rows.infoFollowsSpec).preRow enc Tryd.prog Tryd.f3 Rows.infoFollowsRow.domain false Rows.infoFollowsRow.laid) (((OpenSpec.ofChange Rows.infoFollowsSpec).at F).post enc Tryd.prog Tryd.f3 false true false false) := by
  refine returnsInHanded_of_row (C := Tryd.checked) (s := OpenSpec.ofChange Rows.infoFollowsSpec) own started (by kernel_rfl) Tryd.func3
    (witness_row_at (enc := enc) (C := Tryd.checked) false (laidWorld os) #[.int .u8 0, .int .u8 0] (laid_os os) (by kernel_rfl) (by kernel_rfl) (by kernel_rfl)
      (OpenSpec.preRow_of_cond 8 (show DataW.whole enc Tryd.prog ((laidWorld os).forCall (fun _ _ => 0) ⟨#[], #[.int .u8 0, .int .u8 0], []⟩).memory Tryd.f3.params.toList Rows.infoFollowsSpec.vars false #[.int .u8 0, .int .u8 0].toList 8 = some ([.lit (.int .u8 0), .lit (.int .u8 0)], [], []) by kernel_rfl) (by kernel_rfl) (fun k hk => by cases hk) (by kernel_rfl) (laid_met os _))) ?_
  intro W base args ds gs before hval0 hW _ _ _ hL _ _
  have hval : ∀ (j : Nat) t v, Tryd.f3.params[j]? = some t → args[j]? = some v → Value.okWide Tryd.prog W .any base t v := hval0
  have hW' := hW
  obtain ⟨p, q, hA0, hV, rfl, hfz, hnd⟩ := hW
  have hA : DataW.TrodAll enc Tryd.prog W 0 (fun _ => true) true Tryd.f3.params.toList args.toList ds p := hA0
  rw [Tryd.params3] at hA hval
  obtain ⟨v0, vs0, d0, ds0, p0, q0, hargs, rfl, rfl, h0, r0⟩ := trodAll_cons hA
  obtain ⟨v1, vs1, d1, ds1, p1, q1, rfl, rfl, rfl, h1, r1⟩ := trodAll_cons r0
  obtain ⟨rfl, rfl, rfl⟩ := trodAll_nil r1
  obtain rfl : args = #[v0, v1] := by cases args; simp_all
  obtain ⟨rfl, rfl⟩ := trodVars_none hV
  obtain ⟨a0, rfl, rfl, rfl, w0⟩ := open_int Tryd.underlying5 (hval 0 5 v0 rfl rfl) h0
  obtain ⟨a1, rfl, rfl, rfl, w1⟩ := open_int Tryd.underlying5 (hval 1 5 v1 rfl rfl) h1
  clear hA0 hval0
  simp only [List.append_nil] at hW'
  refine (walk a0 a1 W w0 w1 hL).mono fun e W' ⟨he, bel⟩ => ?_
  subst he
  exact ⟨_, rfl, _, _, _, [], _, [], hW', trodAll_mk1 (shut_bool Tryd.underlying4 _), (trodAll_cons_mk (shut_int Tryd.underlying5 w0) (trodAll_cons_mk (shut_int Tryd.underlying5 w1) trodAll_mk0)), rfl, bel.frame _, fun h => by cases h⟩

theorem said : Rows.InfoFollowsSaid :=
  OpenClaim.holds_of_cond 3 Tryd.f3 rfl rfl rfl rfl rfl rfl rfl ⟨rfl, rfl, rfl, rfl, rfl⟩ rfl rfl rfl rfl rfl (by kernel_rfl) Tryd.func3 (by kernel_rfl)
    (of_decide_eq_true (by kernel_rfl)) (by unfold Func.isWrapper; first | (rw [if_pos (by decide +kernel)]; kernel_rfl) | (rw [if_neg (by decide +kernel)]; exact ⟨rfl, rfl⟩))
    (fun os started H enc _ F => by rw [OpenClaim.pre_eq_preRow]; exact lifted os started H enc F)

theorem plain (f : FuncId) (fn : Func) (hf : Tryd.pinned.checked.prog.funcNamed "reedpipe/reedpipelaw10.InfoFollows" = some f) (hfn : Tryd.pinned.checked.prog.funcs[f]? = some fn) :
    false = Tryd.pinned.checked.prog.looks [] ∧ ∀ (j : Nat) t, fn.params[j]? = some t → Tryd.pinned.checked.prog.wantsStandIn t = false := by
  obtain rfl : f = 3 := Option.some.inj ((show Tryd.prog.funcNamed "reedpipe/reedpipelaw10.InfoFollows" = some 3 by kernel_rfl).symm.trans hf) |>.symm
  obtain rfl : fn = Tryd.f3 := (Option.some.inj (Tryd.func3.symm.trans hfn)).symm
  refine ⟨by kernel_rfl, fun j t ht => ?_⟩
  rw [Tryd.params3] at ht
  have hm : t ∈ [5, 5] := by simpa using Array.mem_of_getElem? ht
  have hall : ([5, 5].all fun u => !Tryd.prog.wantsStandIn u) = true := by kernel_rfl
  exact (show Tryd.prog.wantsStandIn t = false by simpa using List.all_eq_true.1 hall t hm)

theorem proved : Rows.InfoFollowsCardSaid :=
  Claim7.holds_tied_plain_at .later [] _ _ _ _ said (fun _ h => by cases h) (by kernel_rfl) (fun _ h => by cases h) infoFollows_row_tie rfl ⟨rfl, rfl⟩ (by kernel_rfl) rfl plain (by kernel_rfl)

end Go.Proofs.YtnbbjobmaakogaaDoor.infoFollows
