/- Texts of one claim, one behind the other: QdAs, QdAt, QdPl. -/
import Derived.Test.YtanjcbnkkhbkkaaDoorMrg4
import Derived.Test.YtanjcbnkkhbkkaaDoorMrg5
import Derived.WalkKit
import Derived.Below
import Derived.RegionTactic
import Derived.Deep.QuietTactic
import Derived.BigQuiet
import Derived.ProofKit
import Derived.OpenShut
import Derived.Laws.AppendOwn
import Derived.Laws.AppendOwnNone
import Derived.Deep.OwnRows
import Derived.Lib.Hide
set_option linter.unusedVariables false
/- The document's error of books, steps and lines. -/
namespace Go.Proofs.YtanjcbnkkhbkkaaDoor.Qd
open Go Go.ChangeShapes Go.WideShapes Go.ChangeAt Go.RowKit Go.Proofs.YtanjcbnkkhbkkaaDoor.If Go.Proofs.YtanjcbnkkhbkkaaDoor.Bd Go.Proofs.YtanjcbnkkhbkkaaDoor.Qn

set_option maxRecDepth 100000 in
theorem asked_1 (r s h m : Int) (ga : Option Addr) (gc : Nat) (gz : List Int) (O P A : Option Addr) (oc pc lc : Nat) (B S : List (List Int)) (lz : List Int) (most : Int) (w : World) (I : Inp w ga gz O P B S) (hll : lz.length ≤ 1000) (rl : RdA w A lz) (hm0 : 0 ≤ most) (hm1 : most ≤ 1099511627776) (c : Int) (h1 : chk r s h m gz ≠ 0) (hc : c = chk r s h m gz) :
    Calls Tryd.prog 54 #[.int .i64 r, .agg #[.int .u8 s, .int .u8 h, .int .i64 m, .slice ga gz.length gc], .slice O B.length oc, .slice P S.length pc, .slice A lz.length lc, .int .i64 most] w fun e w' => e = .returned (.int .i64 c) ∧ Below w.heap.size w w' := by
  have HB := Lib.hid (box_below w (.cells #[.int .u8 s, .int .u8 h, .int .i64 m, .slice ga gz.length gc] 50))
  have HC := Lib.hid (It.rcheck_ok r s h m ga gc gz _ (by have := I.gl; omega) (I.hg.below HB.out))
  have HX := Lib.hid (fun x hx => boxed w s h m (.slice ga gz.length gc) x hx)
  obtain ⟨C, hC⟩ : ∃ C, chk r s h m gz = C := ⟨_, rfl⟩
  rw [hC] at HC h1 hc
  subst hc
  have h2 : (c != 0) = true := by simp [h1]
  clear hC I rl
  go_enter Tryd.func54, Tryd.ntmps54
  go_wp2_with (go_at_call 76; ((with_reducible refine (HC.out).mono ?_); rintro e w1 ⟨rfl, hb1⟩; have B1 := Lib.hid (belowT HB.out hb1); obtain ⟨z0, z1, z2, z3⟩ := HX.out w1 hb1; have Z := Lib.hid hb1; clear hb1))
  go_ret
  exact ⟨rfl, B1.out⟩
set_option maxRecDepth 100000 in
set_option maxHeartbeats 4000000 in
theorem asked_2 (r s h m : Int) (ga : Option Addr) (gc : Nat) (gz : List Int) (O P A : Option Addr) (oc pc lc : Nat) (B S : List (List Int)) (lz : List Int) (most : Int) (w : World) (I : Inp w ga gz O P B S) (hll : lz.length ≤ 1000) (rl : RdA w A lz) (hm0 : 0 ≤ most) (hm1 : most ≤ 1099511627776) (c : Int) (h0 : chk r s h m gz = 0) (h1 : (shp gz.length m B && shp gz.length m S) = false) (hc : c = 4) :
    Calls Tryd.prog 54 #[.int .i64 r, .agg #[.int .u8 s, .int .u8 h, .int .i64 m, .slice ga gz.length gc], .slice O B.length oc, .slice P S.length pc, .slice A lz.length lc, .int .i64 most] w fun e w' => e = .returned (.int .i64 c) ∧ Below w.heap.size w w' := by
  have HB := Lib.hid (box_below w (.cells #[.int .u8 s, .int .u8 h, .int .i64 m, .slice ga gz.length gc] 50))
  have HC := Lib.hid (It.rcheck_ok r s h m ga gc gz _ (by have := I.gl; omega) (I.hg.below HB.out))
  have HX := Lib.hid (fun x hx => boxed w s h m (.slice ga gz.length gc) x hx)
  rw [h0] at HC
  subst hc
  have gl := I.gl
  have bl := I.bl
  have sl := I.sl
  by_cases e1 : B.length = gz.length
  · by_cases e2 : S.length = gz.length
    · have hex : Hid (∃ i, 0 ≤ i ∧ i < B.length ∧ ¬ (((B.getD i []).length : Int) = m ∧ ((S.getD i []).length : Int) = m)) := Lib.hid (Classical.byContradiction fun hn => by
        have hall : ∀ i, i < B.length → (((B.getD i []).length : Int) = m ∧ ((S.getD i []).length : Int) = m) := fun i hi => Classical.byContradiction fun hx => hn ⟨i, Nat.zero_le _, hi, hx⟩
        have hsB : shp gz.length m B = true := by
          unfold shp shw
          simp only [Bool.and_eq_true, decide_eq_true_eq, List.all_eq_true]
          refine ⟨e1, fun r hr => ?_⟩
          obtain ⟨i, hi, rfl⟩ := List.mem_iff_getElem.1 hr
          have := (hall i hi).1
          rwa [List.getD_eq_getElem?_getD, List.getElem?_eq_getElem hi] at this
        have hsS : shp gz.length m S = true := by
          unfold shp shw
          simp only [Bool.and_eq_true, decide_eq_true_eq, List.all_eq_true]
          refine ⟨e2, fun r hr => ?_⟩
          obtain ⟨i, hi, rfl⟩ := List.mem_iff_getElem.1 hr
          have := (hall i (by omega)).2
          rwa [List.getD_eq_getElem?_getD, List.getElem?_eq_getElem hi] at this
        rw [hsB, hsS] at h1
        simp at h1)
      have RB := Lib.hid (fun x (hx : Below w.heap.size w x) => I.rB.below hx)
      have RS := Lib.hid (fun x (hx : Below w.heap.size w x) => I.rS.below hx)
      have BR := Lib.hid I.br
      have SR := Lib.hid I.sr
      have f1 : ((B.length : Int) != (gz.length : Int)) = false := by simp; omega
      have f2 : ((S.length : Int) != (gz.length : Int)) = false := by simp; omega
      have eBS := Lib.hid (show S.length = B.length by omega)
      clear h1 h0 I rl
      go_enter Tryd.func54, Tryd.ntmps54
      go_wp2_with (go_at_call 76; ((with_reducible refine (HC.out).mono ?_); rintro e w1 ⟨rfl, hb1⟩; have B1 := Lib.hid (belowT HB.out hb1); obtain ⟨z0, z1, z2, z3⟩ := HX.out w1 hb1; have Z := Lib.hid hb1; clear hb1))
      go_loopw [14] (fun i wr => ∃ k : Nat, k ≤ B.length ∧ i = .int .i64 k ∧ Below w1.heap.size w1 wr ∧ Hid (∃ i, k ≤ i ∧ i < B.length ∧ ¬ (((B.getD i []).length : Int) = m ∧ ((S.getD i []).length : Int) = m))) (fun i _ => B.length - (intOf i).toNat)
      case atStart => exact ⟨0, by omega, rfl, Below.refl _ _, hex⟩
      case round =>
        obtain ⟨k, hk, rfl, hb, hI⟩ := hrel
        clear hex z0 z1 z2 z3
        by_cases hlt : k < B.length
        · obtain ⟨b, off, a, ca, rfl, lb, c0, ra⟩ := RB.out wr (belowT B1.out hb) k hlt
          obtain ⟨b', off', a', ca', rfl, lb', c1, ra'⟩ := RS.out wr (belowT B1.out hb) k (by rw [eBS.out]; exact hlt)
          obtain ⟨z0, z1, z2, z3⟩ := HX.out wr (belowT Z.out hb)
          have hLn := BR.out k hlt
          have hSn := SR.out k (by rw [eBS.out]; exact hlt)
          have hkS : (k : Int) < (S.length : Int) := by have := eBS.out; omega
          have hkB : (k : Int) < (B.length : Int) := by omega
          have hk0 : (0 : Int) ≤ (k : Int) := by omega
          have hBE := Lib.hid (belowT B1.out hb)
          clear ra ra'
          unfold maxLen at hLn hSn
          have hnx : Hid ((((B.getD k []).length : Int) = m ∧ ((S.getD k []).length : Int) = m) → ∃ i, k + 1 ≤ i ∧ i < B.length ∧ ¬ (((B.getD i []).length : Int) = m ∧ ((S.getD i []).length : Int) = m)) := Lib.hid (fun q => by
            obtain ⟨i, h1, h2, h3⟩ := hI.out
            refine ⟨i, ?_, h2, h3⟩
            by_cases e : i = k
            · subst e; exact absurd q h3
            · omega)
          clear hI
          generalize (B.getD k []).length = X at *
          generalize (S.getD k []).length = Y at *
          by_cases t1 : (X : Int) = m
          · have t1' : ((X : Int) != m) = false := by simp [t1]
            by_cases t2 : (Y : Int) = m
            · have t2' : ((Y : Int) != m) = false := by simp [t2]
              have HN := Lib.hid (hnx.out ⟨t1, t2⟩)
              clear hnx t1 t2
              go_wp2
              go_quiet (fail)
              go_wp2
              go_roundw
              case rel => exact ⟨k + 1, by omega, by go_num, hb.trans ((drewN_below wr nq).mono hb.size), HN⟩
              case measure => simp [intOf]; omega
            · have t2' : ((Y : Int) != m) = true := by simp [t2]
              clear hnx t1 t2
              go_wp2
              go_quiet (fail)
              go_wp2
              go_ret
              exact ⟨rfl, hBE.out.trans ((drewN_below wr nq).mono hBE.out.size)⟩
          · have t1' : ((X : Int) != m) = true := by simp [t1]
            clear hnx t1
            go_wp2
            go_quiet (fail)
            go_wp2
            go_ret
            exact ⟨rfl, hBE.out.trans ((drewN_below wr nq).mono hBE.out.size)⟩
        · obtain ⟨i, h1, h2, _⟩ := hI.out
          omega
    · have f1 : ((B.length : Int) != (gz.length : Int)) = false := by simp; omega
      have f2 : ((S.length : Int) != (gz.length : Int)) = true := by simp; omega
      clear h1 h0 I rl e1 e2
      go_enter Tryd.func54, Tryd.ntmps54
      go_wp2_with (go_at_call 76; ((with_reducible refine (HC.out).mono ?_); rintro e w1 ⟨rfl, hb1⟩; have B1 := Lib.hid (belowT HB.out hb1); obtain ⟨z0, z1, z2, z3⟩ := HX.out w1 hb1; have Z := Lib.hid hb1; clear hb1))
      go_ret
      exact ⟨rfl, B1.out⟩
  · have f1 : ((B.length : Int) != (gz.length : Int)) = true := by simp; omega
    clear h1 h0 I rl e1
    go_enter Tryd.func54, Tryd.ntmps54
    go_wp2_with (go_at_call 76; ((with_reducible refine (HC.out).mono ?_); rintro e w1 ⟨rfl, hb1⟩; have B1 := Lib.hid (belowT HB.out hb1); obtain ⟨z0, z1, z2, z3⟩ := HX.out w1 hb1; have Z := Lib.hid hb1; clear hb1))
    go_ret
    exact ⟨rfl, B1.out⟩
end Go.Proofs.YtanjcbnkkhbkkaaDoor.Qd

/- The document's error, where books and steps have their shape. -/
namespace Go.Proofs.YtanjcbnkkhbkkaaDoor.Qd
open Go Go.ChangeShapes Go.WideShapes Go.ChangeAt Go.RowKit Go.Proofs.YtanjcbnkkhbkkaaDoor.If Go.Proofs.YtanjcbnkkhbkkaaDoor.Bd Go.Proofs.YtanjcbnkkhbkkaaDoor.Qn

/-- What is answered of lines, if nothing else is wrong. -/
def TL (lz : List Int) (most c : Int) : Prop := (lz.length ≠ 256 ∧ c = 4) ∨ (lz.length = 256 ∧ ¬ inr most lz ∧ c = 2) ∨ (lz.length = 256 ∧ inr most lz ∧ c = 0)
set_option maxRecDepth 100000 in
set_option maxHeartbeats 8000000 in
theorem asked_3 (r s h m : Int) (ga : Option Addr) (gc : Nat) (gz : List Int) (O P A : Option Addr) (oc pc lc : Nat) (B S : List (List Int)) (lz : List Int) (most : Int) (w : World) (I : Inp w ga gz O P B S) (hll : lz.length ≤ 1000) (rl : RdA w A lz) (hm0 : 0 ≤ most) (hm1 : most ≤ 1099511627776) (c : Int) (h0 : chk r s h m gz = 0) (e1 : shp gz.length m B = true) (e2 : shp gz.length m S = true) (hc : (BadB B S 0 0 ∧ c = 2) ∨ (¬ BadB B S 0 0 ∧ TL lz most c)) :
    Calls Tryd.prog 54 #[.int .i64 r, .agg #[.int .u8 s, .int .u8 h, .int .i64 m, .slice ga gz.length gc], .slice O B.length oc, .slice P S.length pc, .slice A lz.length lc, .int .i64 most] w fun e w' => e = .returned (.int .i64 c) ∧ Below w.heap.size w w' := by
  have HB := Lib.hid (box_below w (.cells #[.int .u8 s, .int .u8 h, .int .i64 m, .slice ga gz.length gc] 50))
  have HC := Lib.hid (It.rcheck_ok r s h m ga gc gz _ (by have := I.gl; omega) (I.hg.below HB.out))
  have HX := Lib.hid (fun x hx => boxed w s h m (.slice ga gz.length gc) x hx)
  rw [h0] at HC
  have gl := I.gl
  have bl := I.bl
  have sl := I.sl
  obtain ⟨l1, l2⟩ := shp_yes e1
  obtain ⟨l3, l4⟩ := shp_yes e2
  have m0 := (chk_parts h0).2.2.1
  have mm : m ≤ 41 := by
    have h5 := (chk_parts h0).2.2.2.1
    obtain ⟨r0, r1⟩ := chk_rate h0
    have := mny_bd (r := r) (b := s == 2) r0 r1
    omega
  have lBS := Lib.hid (show B.length = S.length by omega)
  have lB := Lib.hid l2
  have lS := Lib.hid (fun i (hi : i < B.length) => l4 i (by omega))
  have RB := Lib.hid (fun x (hx : Below w.heap.size w x) => I.rB.below hx)
  have RS := Lib.hid (fun x (hx : Below w.heap.size w x) => I.rS.below hx)
  have RL := Lib.hid (fun x (hx : Below w.heap.size w x) => rl.below hx)
  have f1 : ((B.length : Int) != (gz.length : Int)) = false := by simp; omega
  have f2 : ((S.length : Int) != (gz.length : Int)) = false := by simp; omega
  have HC0 : Hid ((BadB B S 0 0 ∧ c = 2) ∨ (¬ BadB B S 0 0 ∧ TL lz most c)) := Lib.hid hc
  clear h0 e1 e2 I rl l1 l2 l3 l4 hc
  go_enter Tryd.func54, Tryd.ntmps54
  go_wp2_with (go_at_call 76; ((with_reducible refine (HC.out).mono ?_); rintro e w1 ⟨rfl, hb1⟩; have B1 := Lib.hid (belowT HB.out hb1); obtain ⟨z0, z1, z2, z3⟩ := HX.out w1 hb1; have Z := Lib.hid hb1; clear hb1))
  go_loopw [14] (fun i wr => ∃ k : Nat, k ≤ B.length ∧ i = .int .i64 k ∧ Below w1.heap.size w1 wr) (fun i _ => B.length - (intOf i).toNat)
  case atStart => exact ⟨0, by omega, rfl, Below.refl _ _⟩
  case round =>
    obtain ⟨k, hk, rfl, hb⟩ := hrel
    clear z0 z1 z2 z3
    obtain ⟨z0, z1, z2, z3⟩ := HX.out wr (belowT Z.out hb)
    by_cases hlt : k < B.length
    · obtain ⟨b, off, a, ca, rfl, lb, c0, ra⟩ := RB.out wr (belowT B1.out hb) k hlt
      obtain ⟨b', off', a', ca', rfl, lb', c1, ra'⟩ := RS.out wr (belowT B1.out hb) k (by rw [← lBS.out]; exact hlt)
      have hLn := lB.out k hlt
      have hSn := lS.out k hlt
      have hkS : (k : Int) < (S.length : Int) := by have := lBS.out; omega
      have hkB : (k : Int) < (B.length : Int) := by omega
      have hk0 : (0 : Int) ≤ (k : Int) := by omega
      clear ra ra'
      generalize (B.getD k []).length = X at *
      generalize (S.getD k []).length = Y at *
      have t1' : ((X : Int) != m) = false := by simp [hLn]
      have t2' : ((Y : Int) != m) = false := by simp [hSn]
      clear hLn hSn
      go_wp2
      go_quiet (fail)
      go_wp2
      go_roundw
      case rel => exact ⟨k + 1, by omega, by go_num, hb.trans ((drewN_below wr nq).mono hb.size)⟩
      case measure => simp [intOf]; omega
    · have hend : k = B.length := by omega
      subst hend
      have WB := Lib.hid (belowT B1.out hb)
      have RB2 := Lib.hid (RB.out wr WB.out)
      have RS2 := Lib.hid (RS.out wr WB.out)
      have RL2 := Lib.hid (RL.out wr WB.out)
      clear hb RB RS RL HX Z B1
      go_wp2
      go_loop [15] (fun i => ∃ k : Nat, k ≤ B.length ∧ i = .int .i64 k ∧ Hid ((BadB B S k 0 ∧ c = 2) ∨ (¬ BadB B S 0 0 ∧ TL lz most c))) (fun i => B.length - (intOf i).toNat)
      case atStart => exact ⟨0, by omega, rfl, HC0⟩
      case round =>
        obtain ⟨k, hk, rfl, hI⟩ := hrel
        clear HC0
        by_cases hlt : k < B.length
        · obtain ⟨b, off, a, ca, rfl, lb, c0, ra⟩ := RB2.out k hlt
          obtain ⟨b', off', a', ca', rfl, lb', c1, ra'⟩ := RS2.out k (by rw [← lBS.out]; exact hlt)
          have hLn := lB.out k hlt
          have hSn := lS.out k hlt
          have RA := Lib.hid ra
          have RA' := Lib.hid ra'
          have hkS : (k : Int) < (S.length : Int) := by have := lBS.out; omega
          have hkS0 : k < S.length := by have := lBS.out; omega
          obtain ⟨L, hL⟩ : ∃ L, (B.getD k []).length = L := ⟨_, rfl⟩
          obtain ⟨L2, hL2⟩ : ∃ L2, (S.getD k []).length = L2 := ⟨_, rfl⟩
          rw [hL] at c0 hLn
          rw [hL2] at c1 hSn
          have HL := Lib.hid hL
          have HL2 := Lib.hid hL2
          obtain rfl : L2 = L := by omega
          subst hLn
          clear ra ra' hL hL2 hSn
          go_wp2
          go_loop [16] (fun i => ∃ j : Nat, j ≤ L2 ∧ i = .int .i64 j ∧ Hid ((BadB B S k j ∧ c = 2) ∨ (¬ BadB B S 0 0 ∧ TL lz most c))) (fun i => L2 - (intOf i).toNat)
          case atStart => exact ⟨0, by omega, rfl, hI⟩
          case round =>
            obtain ⟨j, hj, rfl, hJ⟩ := hrel
            by_cases hlt2 : j < L2
            · obtain ⟨b2, o2, rfl, lb2, d0⟩ := RA.out j (by rw [HL.out]; exact hlt2)
              obtain ⟨b3, o3, rfl, lb3, d1⟩ := RA'.out j (by rw [HL2.out]; exact hlt2)
              by_cases hb : badP ((B.getD k []).getD j 0) ((S.getD k []).getD j 0)
              · have hc : c = 2 := by
                  rcases hJ.out with ⟨_, h⟩ | ⟨h, _⟩
                  · exact h
                  · exact absurd (bad_prev (g := k) (b := j) ⟨k, j, hlt, by rw [HL.out]; exact hlt2, .inr ⟨rfl, Nat.le_refl _⟩, hb⟩) h
                subst hc
                clear hI hJ
                unfold badP at hb
                generalize (B.getD k []).getD j 0 = X at *
                generalize (S.getD k []).getD j 0 = Y at *
                by_cases t0 : X < 0
                · clear hb
                  go_wp2
                  go_ret
                  exact ⟨rfl, WB.out⟩
                by_cases t1 : 13 < X
                · clear hb
                  go_wp2
                  go_ret
                  exact ⟨rfl, WB.out⟩
                obtain ⟨h1, h2⟩ : snt X = true ∧ (Y < 0 ∨ 255 < Y) := by rcases hb with h | h | h; exact absurd h t0; exact absurd h t1; exact h
                simp only [snt, Bool.and_eq_true, decide_eq_true_eq] at h1
                obtain ⟨h1a, h1b⟩ := h1
                clear hb
                by_cases t2 : Y < 0
                · clear h2
                  go_wp2
                  go_ret
                  exact ⟨rfl, WB.out⟩
                · have t3 : 255 < Y := by omega
                  clear h2
                  go_wp2
                  go_ret
                  exact ⟨rfl, WB.out⟩
              · have hJ2 : Hid ((BadB B S k (j + 1) ∧ c = 2) ∨ (¬ BadB B S 0 0 ∧ TL lz most c)) := Lib.hid (by
                  rcases hJ.out with ⟨h, h'⟩ | h
                  · exact .inl ⟨bad_next h hb, h'⟩
                  · exact .inr h)
                clear hI hJ
                unfold badP at hb
                generalize (B.getD k []).getD j 0 = X at *
                generalize (S.getD k []).getD j 0 = Y at *
                have t0 : ¬ X < 0 := fun h => hb (.inl h)
                have t1 : ¬ 13 < X := fun h => hb (.inr (.inl h))
                by_cases t4 : X < 1
                · clear hb
                  go_wp2
                  go_round
                  case rel => exact ⟨j + 1, by omega, by go_num, hJ2⟩
                  case measure => simp [intOf]; omega
                by_cases t5 : 11 < X
                · clear hb
                  go_wp2
                  go_round
                  case rel => exact ⟨j + 1, by omega, by go_num, hJ2⟩
                  case measure => simp [intOf]; omega
                · have hs : snt X = true := by simp only [snt, Bool.and_eq_true, decide_eq_true_eq]; omega
                  have t2 : ¬ Y < 0 := fun h => hb (.inr (.inr ⟨hs, .inl h⟩))
                  have t3 : ¬ 255 < Y := fun h => hb (.inr (.inr ⟨hs, .inr h⟩))
                  have t4' : 1 ≤ X := by omega
                  have t5' : X ≤ 11 := by omega
                  clear hb hs t4 t5
                  go_wp2
                  go_round
                  case rel => exact ⟨j + 1, by omega, by go_num, hJ2⟩
                  case measure => simp [intOf]; omega
            · obtain rfl : j = L2 := by omega
              have hK : Hid ((BadB B S (k + 1) 0 ∧ c = 2) ∨ (¬ BadB B S 0 0 ∧ TL lz most c)) := Lib.hid (by
                rcases hJ.out with ⟨h, h'⟩ | h
                · exact .inl ⟨bad_row h (by rw [HL.out]; exact Nat.le_refl _), h'⟩
                · exact .inr h)
              clear hI hJ
              go_wp2
              go_round
              case rel => exact ⟨k + 1, by omega, by go_num, hK⟩
              case measure => simp [intOf]; omega
        · obtain rfl : k = B.length := by omega
          have hT : TL lz most c := by
            rcases hI.out with ⟨h, _⟩ | ⟨_, h⟩
            · exact absurd h bad_end
            · exact h
          clear hI RB2 RS2 lB lS
          rcases hT with ⟨hl, rfl⟩ | hT
          · have hl1 : ((lz.length : Int) != 256) = true := by simp; omega
            clear hl
            go_wp2
            go_ret
            exact ⟨rfl, WB.out⟩
          have hl : lz.length = 256 := by rcases hT with h | h <;> exact h.1
          have hl1 : ((lz.length : Int) != 256) = false := by simp; omega
          have HT : Hid ((∃ j, 0 ≤ j ∧ j < 256 ∧ ¬ (-most ≤ lz.getD j 0 ∧ lz.getD j 0 ≤ most) ∧ c = 2) ∨ (inr most lz ∧ c = 0)) := Lib.hid (by
            rcases hT with ⟨_, h, h'⟩ | ⟨_, h, h'⟩
            · obtain ⟨j, hj, hx⟩ : ∃ j : Nat, j < 256 ∧ ¬ (-most ≤ lz.getD j 0 ∧ lz.getD j 0 ≤ most) := Classical.byContradiction fun hn => h (fun j hj => Classical.byContradiction fun hx => hn ⟨j, hj, hx⟩)
              exact .inl ⟨j, Nat.zero_le _, hj, hx, h'⟩
            · exact .inr ⟨h, h'⟩)
          have HL3 := Lib.hid hl
          rw [hl]
          clear hT hl hll
          go_wp2
          go_loop [18] (fun i => ∃ k : Nat, k ≤ 256 ∧ i = .int .i64 k ∧ Hid ((∃ j, k ≤ j ∧ j < 256 ∧ ¬ (-most ≤ lz.getD j 0 ∧ lz.getD j 0 ≤ most) ∧ c = 2) ∨ (inr most lz ∧ c = 0))) (fun i => 256 - (intOf i).toNat)
          case atStart => exact ⟨0, by omega, rfl, HT⟩
          case round =>
            obtain ⟨k, hk, rfl, hI⟩ := hrel
            clear HT
            by_cases hlt : k < 256
            · obtain ⟨b2, o2, rfl, lb2, d0⟩ := RL2.out k (by rw [HL3.out]; exact hlt)
              have hbad : ¬ (-most ≤ lz.getD k 0 ∧ lz.getD k 0 ≤ most) → c = 2 := fun hx => by
                rcases hI.out with ⟨_, _, _, _, h⟩ | ⟨h, _⟩
                · exact h
                · exact absurd (h k hlt) hx
              have hnx : (-most ≤ lz.getD k 0 ∧ lz.getD k 0 ≤ most) → ((∃ j, k + 1 ≤ j ∧ j < 256 ∧ ¬ (-most ≤ lz.getD j 0 ∧ lz.getD j 0 ≤ most) ∧ c = 2) ∨ (inr most lz ∧ c = 0)) := fun hx => by
                rcases hI.out with ⟨j, h1, h2, h3, h4⟩ | h
                · refine .inl ⟨j, ?_, h2, h3, h4⟩
                  by_cases e : j = k
                  · subst e; exact absurd hx h3
                  · omega
                · exact .inr h
              clear hI
              generalize lz.getD k 0 = z at *
              by_cases c0 : z < -most
              · obtain rfl := hbad (by omega)
                clear hbad hnx
                go_wp2
                go_ret
                exact ⟨rfl, WB.out⟩
              by_cases c1 : most < z
              · obtain rfl := hbad (by omega)
                clear hbad hnx
                go_wp2
                go_ret
                exact ⟨rfl, WB.out⟩
              have HN := Lib.hid (hnx ⟨by omega, by omega⟩)
              clear hbad hnx
              go_wp2
              go_round
              case rel => exact ⟨k + 1, by omega, by go_num, HN⟩
              case measure => simp [intOf]; omega
            · have hend : k = 256 := by omega
              subst hend
              have hc : c = 0 := by
                rcases hI.out with ⟨j, h1, h2, _⟩ | ⟨_, h⟩
                · omega
                · exact h
              subst hc
              clear hI
              go_wp2
              go_ret
              exact ⟨rfl, WB.out⟩
/-- The document's error. -/
def AE (r s h m : Int) (gz : List Int) (B S : List (List Int)) (lz : List Int) (most c : Int) : Prop := ∃ q, QE r s h m gz B S q ∧ ((q ≠ 0 ∧ c = q) ∨ (q = 0 ∧ TL lz most c))
theorem chk_cases {r s h m : Int} {gz : List Int} : chk r s h m gz = 0 ∨ chk r s h m gz = 2 ∨ chk r s h m gz = 8 := by unfold chk; split; exact .inr (.inl rfl); split; exact .inr (.inr rfl); exact .inl rfl
theorem asked_ok (r s h m : Int) (ga : Option Addr) (gc : Nat) (gz : List Int) (O P A : Option Addr) (oc pc lc : Nat) (B S : List (List Int)) (lz : List Int) (most : Int) (w : World) (I : Inp w ga gz O P B S) (hll : lz.length ≤ 1000) (rl : RdA w A lz) (hm0 : 0 ≤ most) (hm1 : most ≤ 1099511627776) (c : Int) (hae : AE r s h m gz B S lz most c) :
    Calls Tryd.prog 54 #[.int .i64 r, .agg #[.int .u8 s, .int .u8 h, .int .i64 m, .slice ga gz.length gc], .slice O B.length oc, .slice P S.length pc, .slice A lz.length lc, .int .i64 most] w fun e w' => e = .returned (.int .i64 c) ∧ Below w.heap.size w w' := by
  obtain ⟨q, hq, hc⟩ := hae
  rcases hq with ⟨h1, h2⟩ | ⟨h1, h2, h3⟩ | ⟨h1, h2, h3, h4⟩
  · have : c = q := by rcases hc with hc | hc; exact hc.2; exact absurd hc.1 (by rw [h2]; exact h1)
    exact asked_1 r s h m ga gc gz O P A oc pc lc B S lz most w I hll rl hm0 hm1 c h1 (by rw [this, h2])
  · have : c = q := by rcases hc with hc | hc; exact hc.2; exact absurd hc.1 (by rw [h3]; decide)
    exact asked_2 r s h m ga gc gz O P A oc pc lc B S lz most w I hll rl hm0 hm1 c h1 h2 (by rw [this, h3])
  · refine asked_3 r s h m ga gc gz O P A oc pc lc B S lz most w I hll rl hm0 hm1 c h1 h2 h3 ?_
    rcases h4 with ⟨h4, h5⟩ | ⟨h4, h5⟩
    · have : c = q := by rcases hc with hc | hc; exact hc.2; exact absurd hc.1 (by rw [h5]; decide)
      exact .inl ⟨h4, by rw [this, h5]⟩
    · rcases hc with hc | hc
      · exact absurd h5 hc.1
      · exact .inr ⟨h4, hc.2⟩
end Go.Proofs.YtanjcbnkkhbkkaaDoor.Qd

/- A line's place, as the document says. -/
namespace Go.Proofs.YtanjcbnkkhbkkaaDoor.Qd
open Go Go.ChangeShapes Go.WideShapes Go.ChangeAt Go.RowKit Go.Proofs.YtanjcbnkkhbkkaaDoor.If Go.Proofs.YtanjcbnkkhbkkaaDoor.Bd Go.Proofs.YtanjcbnkkhbkkaaDoor.Qn

theorem wn_pos (s : Int) : 0 < LN s := by unfold LN; split <;> omega
theorem gA_at {s h m : Int} {gz : List Int} {r : Int} (hc : chk r s h m gz = 0) {k : Nat} (hk : k < 256) : It.gA s h m gz ((k / LN s : Nat) : Int) = (gk s gz k : Nat) := by
  unfold It.gA gk
  have h1 := chk_top hc
  have hw := ln_wn s
  have hlt : k / LN s < WN s := Nat.div_lt_of_lt_mul (by rw [Nat.mul_comm, hw]; exact hk)
  rw [if_neg]
  rw [wn_win]
  rintro (q | q | q)
  · exact q h1
  · exact Int.not_lt.2 (Int.natCast_nonneg _) q
  · exact absurd (Int.ofNat_le.1 q) (Nat.not_le.2 hlt)
set_option maxRecDepth 100000 in
set_option maxHeartbeats 4000000 in
theorem place_w (r s h m : Int) (ga : Option Addr) (gc : Nat) (gz : List Int) (n : Nat) (w : World) (hc : chk r s h m gz = 0) (hgl : gz.length ≤ 1000) (hg : RdA w ga gz) (hn : n < 256) :
    Calls Tryd.prog 55 #[.int .i64 r, .agg #[.int .u8 s, .int .u8 h, .int .i64 m, .slice ga gz.length gc], .int .i64 n] w fun e w' => e = .returned (.tuple #[.int .i64 (gk s gz n : Nat), .int .i64 (bk r s n : Nat)]) ∧ Below w.heap.size w w' := by
  have HB := Lib.hid (box_below w (.cells #[.int .u8 s, .int .u8 h, .int .i64 m, .slice ga gz.length gc] 50))
  obtain ⟨r0, r1⟩ := chk_rate hc
  have HX := Lib.hid (fun x hx => boxed w s h m (.slice ga gz.length gc) x hx)
  have HO := Lib.hid (fun W => roff_row r (s == 2) W r0 r1)
  have HG := Lib.hid (fun W (hW : Below w.heap.size w W) => It.rgroup_k s h m ga gc gz ((n / LN s : Nat) : Int) W hgl (hg.below hW) (Int.le_trans (by decide) (Int.natCast_nonneg _)) (Int.le_trans (Int.ofNat_le.2 (Nat.div_le_self n (LN s))) (by omega)))
  have hga := gA_at hc hn
  rw [hga] at HG
  obtain ⟨F0, F1, F2, F3, F4, F5⟩ := fact r (s == 2) r0 r1
  have HBK := Lib.hid (fun b hb => bk_eq (s := s) r0 r1 (k := n) (b := b) hb)
  have hmod : ((n % LN s : Nat) : Int) < nOf (s == 2) := by rw [ln_nof]; exact Int.ofNat_lt.2 (Nat.mod_lt _ (wn_pos s))
  generalize It.gB s h m gz ((n / LN s : Nat) : Int) = E at *
  generalize gk s gz n = G at *
  generalize hbk : bk r s n = K at *
  clear hg hc hga hbk
  obtain ⟨LL, hLL⟩ : ∃ LL, L r (s == 2) = LL := ⟨_, rfl⟩
  rw [hLL] at HO F0 F1 F2 F3 F4 F5 HBK
  clear hLL
  generalize nOf (s == 2) = NN at *
  have F4 := Lib.hid F4
  have F5 := Lib.hid F5
  have F3 := Lib.hid F3
  by_cases hs : s = 2
  · subst hs
    have hln : LN 2 = 32 := rfl
    rw [hln] at HG HBK hmod
    have d1 : Int.tdiv (n : Int) 32 = ((n / 32 : Nat) : Int) := by rw [Int.tdiv_eq_ediv_of_nonneg (by omega)]; omega
    have d2 : Int.tmod (n : Int) 32 = ((n % 32 : Nat) : Int) := by rw [Int.tmod_eq_emod_of_nonneg (by omega)]; omega
    have e22 : ((2 : Int) == 2) = true := rfl
    rw [e22] at HO
    have wq : n / 32 ≤ 8 := by omega
    generalize n / 32 = W at *
    generalize n % 32 = x at *
    go_enter Tryd.func55, Tryd.ntmps55
    go_wp2_with (go_at_call 77; ((with_reducible refine (HO.out _).mono ?_); rintro e w1 ⟨g, cap, rfl, hg1, hrow, hb1⟩; have B1 := Lib.hid (belowT HB.out hb1); have Z1 := Lib.hid hb1; have HR := Lib.hid hrow; clear hb1 hrow))
    go_loop [12] (fun i => ∃ b : Nat, i = .int .i64 b ∧ b + 1 < LL.length ∧ LL.getD b 0 ≤ (x : Int)) (fun i => LL.length - (intOf i).toNat)
    case atStart => exact ⟨0, rfl, by omega, by rw [F2]; omega⟩
    case round =>
      obtain ⟨b, rfl, hb1, hb2⟩ := hrel
      have c := HR.out.cell (i := b + 1) hb1
      have i0' : (0 : Int) ≤ (b : Int) + 1 := by omega
      have i1' : (b : Int) + 1 < (LL.length : Int) := by omega
      have tn : ((b : Int) + 1).toNat = b + 1 := by omega
      have hlast : ¬ (x : Int) < LL.getD (b + 1) 0 → b + 1 + 1 < LL.length := fun q => by
        have h3 := F3.out
        by_cases e : b + 1 = LL.length - 1
        · rw [← e] at h3; omega
        · omega
      have hbk := fun q => HBK.out b ⟨hb1, hb2, q⟩
      obtain ⟨y, hy⟩ : ∃ y, LL.getD (b + 1) 0 = y := ⟨_, rfl⟩
      rw [hy] at c hlast hbk
      have HY := Lib.hid hy
      clear hy
      by_cases q : (x : Int) < y
      · obtain rfl := hbk q
        have q2 : ¬ y ≤ (x : Int) := by omega
        clear hbk hlast q hb2
        obtain ⟨z0, z1, z2, z3⟩ := HX.out w1 Z1.out
        go_wp2_with (go_at_call 78; ((with_reducible refine (HG.out _ B1.out).mono ?_); rintro e w2 ⟨rfl, hb2⟩))
        go_ret2
        exact ⟨rfl, belowT B1.out hb2⟩
      · have q2 : y ≤ (x : Int) := by omega
        have hn2 := hlast q
        clear hbk hlast q
        go_wp2
        go_round
        case rel => exact ⟨b + 1, by go_num, hn2, by rw [HY.out]; exact q2⟩
        case measure => simp [intOf]; omega
  · have hln : LN s = 256 := by unfold LN; rw [if_neg hs]
    rw [hln, Nat.div_eq_of_lt hn] at HG
    rw [hln, Nat.mod_eq_of_lt hn] at HBK hmod
    have e22 : (s == 2) = false := by simpa using hs
    rw [e22] at HO
    obtain ⟨x, hx⟩ : ∃ x, n = x := ⟨_, rfl⟩
    have HG : Hid (∀ W, Below w.heap.size w W → Calls Tryd.prog 78 #[.agg #[.int .u8 s, .int .u8 h, .int .i64 m, .slice ga gz.length gc], .int .i64 0] W fun e w' => e = .returned (.tuple #[.int .i64 (G : Nat), .int .i64 E]) ∧ Below W.heap.size W w') := HG
    rw [hx] at HBK hmod
    rw [hx]
    clear hx
    go_enter Tryd.func55, Tryd.ntmps55
    go_wp2_with (go_at_call 77; ((with_reducible refine (HO.out _).mono ?_); rintro e w1 ⟨g, cap, rfl, hg1, hrow, hb1⟩; have B1 := Lib.hid (belowT HB.out hb1); have Z1 := Lib.hid hb1; have HR := Lib.hid hrow; clear hb1 hrow))
    go_loop [12] (fun i => ∃ b : Nat, i = .int .i64 b ∧ b + 1 < LL.length ∧ LL.getD b 0 ≤ (x : Int)) (fun i => LL.length - (intOf i).toNat)
    case atStart => exact ⟨0, rfl, by omega, by rw [F2]; omega⟩
    case round =>
      obtain ⟨b, rfl, hb1, hb2⟩ := hrel
      have c := HR.out.cell (i := b + 1) hb1
      have i0' : (0 : Int) ≤ (b : Int) + 1 := by omega
      have i1' : (b : Int) + 1 < (LL.length : Int) := by omega
      have tn : ((b : Int) + 1).toNat = b + 1 := by omega
      have hlast : ¬ (x : Int) < LL.getD (b + 1) 0 → b + 1 + 1 < LL.length := fun q => by
        have h3 := F3.out
        by_cases e : b + 1 = LL.length - 1
        · rw [← e] at h3; omega
        · omega
      have hbk := fun q => HBK.out b ⟨hb1, hb2, q⟩
      obtain ⟨y, hy⟩ : ∃ y, LL.getD (b + 1) 0 = y := ⟨_, rfl⟩
      rw [hy] at c hlast hbk
      have HY := Lib.hid hy
      clear hy
      by_cases q : (x : Int) < y
      · obtain rfl := hbk q
        have q2 : ¬ y ≤ (x : Int) := by omega
        clear hbk hlast q hb2
        obtain ⟨z0, z1, z2, z3⟩ := HX.out w1 Z1.out
        go_wp2_with (go_at_call 78; ((with_reducible refine (HG.out _ B1.out).mono ?_); rintro e w2 ⟨rfl, hb2⟩))
        go_ret2
        exact ⟨rfl, belowT B1.out hb2⟩
      · have q2 : y ≤ (x : Int) := by omega
        have hn2 := hlast q
        clear hbk hlast q
        go_wp2
        go_round
        case rel => exact ⟨b + 1, by go_num, hn2, by rw [HY.out]; exact q2⟩
        case measure => simp [intOf]; omega
/-- Is a line of so much sent? -/
theorem sent_w (s h m : Int) (ga : Option Addr) (gc : Nat) (gz : List Int) (O : Option Addr) (oc : Nat) (B : List (List Int)) (g b : Nat) (w : World) (rB : RdR w O B) (hgB : g < B.length) (hlen : ((B.getD g []).length : Int) = m) :
    Calls Tryd.prog 56 #[.agg #[.int .u8 s, .int .u8 h, .int .i64 m, .slice ga gz.length gc], .slice O B.length oc, .int .i64 g, .int .i64 b] w fun e w' => e = .returned (.bool (decide ((b : Int) < m) && snt ((B.getD g []).getD b 0))) ∧ Below w.heap.size w w' := by
  have HB := Lib.hid (box_below w (.cells #[.int .u8 s, .int .u8 h, .int .i64 m, .slice ga gz.length gc] 50))
  obtain ⟨z0, z1, z2, z3⟩ := boxed w s h m (.slice ga gz.length gc) _ (Below.refl _ _)
  obtain ⟨bb, off, a, ca, rfl, lb, c0, ra⟩ := (rB.below HB.out) g hgB
  by_cases t0 : (b : Int) < m
  · obtain ⟨b2, o2, rfl, lb2, d0⟩ := ra b (by omega)
    rw [show decide ((b : Int) < m) = true from decide_eq_true t0, Bool.true_and]
    obtain ⟨Lg, hL⟩ : ∃ Lg, (B.getD g []).length = Lg := ⟨_, rfl⟩
    rw [hL] at c0 hlen
    subst hlen
    clear ra hL rB
    generalize (B.getD g []).getD b 0 = X at *
    by_cases t1 : 1 ≤ X
    · by_cases t2 : X ≤ 11
      · rw [show snt X = true by unfold snt; simp [t1, t2]]
        go_enter Tryd.func56, Tryd.ntmps56
        go_wp2
        go_ret
        exact ⟨rfl, HB.out⟩
      · rw [show snt X = false by unfold snt; simp [t2]]
        go_enter Tryd.func56, Tryd.ntmps56
        go_wp2
        go_ret
        exact ⟨rfl, HB.out⟩
    · rw [show snt X = false by unfold snt; simp [t1]]
      go_enter Tryd.func56, Tryd.ntmps56
      go_wp2
      go_ret
      exact ⟨rfl, HB.out⟩
  · rw [show decide ((b : Int) < m) = false from decide_eq_false t0, Bool.false_and]
    clear ra rB c0 hlen
    go_enter Tryd.func56, Tryd.ntmps56
    go_wp2
    go_ret
    exact ⟨rfl, HB.out⟩
end Go.Proofs.YtanjcbnkkhbkkaaDoor.Qd
