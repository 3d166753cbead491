/- Texts of one claim, one behind the other: TnRf, TnPd. -/
import Derived.Test.YtbodpeiemamibaaTnPr
import Derived.Deep.RegionHeld3
import Derived.Deep.OwnRows
import Derived.Laws.OwnMore
import Derived.WalkKit
import Derived.Below
import Derived.Laws.AppendOwn
import Derived.Laws.AppendOwnNone
import Derived.RegionTactic
import Derived.Deep.QuietTactic
import Derived.BigQuiet
import Derived.WalkSpells
import Derived.ProofKit
import Derived.OpenShut
import Derived.Lib.Hide
set_option linter.unusedVariables false
/- The document's coefficients of prediction. -/
namespace Go.Proofs.Ytbodpeiemamibaa.Tn
open Go Go.ChangeShapes Go.WideShapes Go.ChangeAt Go.RowKit Go.Proofs.Ytbodpeiemamibaa.Fx
theorem own_push_alloc {base : Nat} {w : World} {v : Value} {zs : List Int} {o : Obj} (h : Own base w v zs) : Own base (w.drew.alloc o) v zs := World.ownsRow.alloc (w := w.drew) h o
theorem info3 : (Try.prog.info? 3).map (fun i => (i.zero, i.size, i.bytes)) = some (some (.int .i64 0), 1, 8) := by kernel_rfl
theorem step_one (w : World) {ops : Array Oper} {o : Oper} {a : Act} {K : Act → World → Prop} {Q : Exit → Act → World → Prop} {E : Prop} (hgd : o.guard = none) (s x : Operand)
    (ho : o.op = .call { callee := .builtin .append, args := #[s, x], argTypes := #[22, 22] }) (base : Nat) (v : Value) (xs : List Int) (hs : a.eval s = v) (hown : Own base w v xs)
    (g : Nat) (z : Int) (hx : a.eval x = .slice (some ⟨g, 0, none⟩) 1 1) (hc : w.cell? ⟨g, 0, none⟩ = some (.int .i64 z)) (hl : xs.length + 1 ≤ 1000) (hbase : base ≤ w.heap.size)
    (h : ∀ v' w', Own base w' v' (xs ++ [z]) → w.grownBy w' v.ownBlock → K (a.put o.dst v') w') : if Region.wanted o (yielded ops a.tmps) = true then Oper.wp Try.prog o a w K Q else E := by
  rw [if_pos (by simp [Region.wanted, hgd])]
  obtain ⟨i0, hi, hz0, hz1, hz2⟩ := info_parts info3
  obtain ⟨v', w', hr, h1, h2, _⟩ := run_append_own (P := Try.prog) w base 22 o.type 3 i0 (.int .i64 0) 1 8 Try.underlying22 hi hz0 hz1 hz2 rfl (by decide) v xs.length (xs.map (Value.int .i64)) hown ⟨g, 0, none⟩ 1 1 [Value.int .i64 z] (by simp) (fun j u hj => by
    match j, hj with
    | 0, hj => simp at hj; subst hj; simpa [Addr.add] using hc) (fun u hu => by simp at hu; subst hu; rfl) (by unfold maxLen; omega) (by omega) hbase
  unfold Oper.wp execOp
  simp only [ho, resolve, invoke, builtin, Sem.run_bind, Sem.run_pure, Result.andThen_ok, List.map_toArray, List.map_cons, List.map_nil, hs, hx, hr]
  exact h v' w' (own_push h1) h2
set_option maxRecDepth 100000 in
set_option maxHeartbeats 4000000 in
theorem coefs_ok (L O : Int) (dn f : Bool) (a : Option Addr) (cap : Nat) (zs : List Int) (w : World) (hr : RdA w a zs) (hg : Rng f zs) (n12 : zs.length ≤ 12) :
    Calls Try.prog 11 #[.agg #[.int .i64 L, .int .i64 O, .bool dn, .bool f, .slice a zs.length cap]] w fun e w' => ∃ v, e = .returned v ∧ Own w.heap.size w' v (mk zs.length (cf f zs zs.length)) ∧ Below w.heap.size w w' := by
  have h8 := hg.eight
  obtain ⟨i0, hi, hz0, hz1, hz2⟩ := info_parts info3
  have HBW : Hid (Below w.heap.size w (w.alloc (.cells #[.int .i64 L, .int .i64 O, .bool dn, .bool f, .slice a zs.length cap] 24))) := Lib.hid (box_below _ _)
  have HX := Lib.hid (fun x hx => boxed w L O dn f (.slice a zs.length cap) x hx)
  have HR := Lib.hid (fun x (hx : Below (w.alloc (.cells #[.int .i64 L, .int .i64 O, .bool dn, .bool f, .slice a zs.length cap] 24)).heap.size (w.alloc (.cells #[.int .i64 L, .int .i64 O, .bool dn, .bool f, .slice a zs.length cap] 24)) x) => hr.below (bT HBW.out hx))
  have HM := Lib.hid (fun (k : Nat) (hk : k < zs.length) (w : World) => rmir_ok (zs.getD k 0) f w (h8 k hk).1 (h8 k hk).2)
  have HK := Lib.hid (fun (k : Nat) (hk : k < zs.length) => mir_bd f (h8 k hk).1 (h8 k hk).2)
  have HC := Lib.hid (fun (k i : Nat) (hk : k ≤ zs.length) => cf_bd (f := f) h8 n12 (i := i) hk)
  have hsw : (w.alloc (.cells #[.int .i64 L, .int .i64 O, .bool dn, .bool f, .slice a zs.length cap] 24)).heap.size = w.heap.size + 1 := by simp
  clear hr hg h8
  go_enter Try.func11, Try.ntmps11
  go_wp2
  generalize w.alloc (.cells #[.int .i64 L, .int .i64 O, .bool dn, .bool f, .slice a zs.length cap] 24) = w0 at *
  have how0 : Own w0.heap.size w0 (.slice none 0 0) (mk 0 (cf f zs 0)) := World.ownsRow_nil _ _ 3 1
  go_loopw [3, 4] (fun v kv wr => ∃ k : Nat, k ≤ zs.length ∧ kv = .int .i64 k ∧ Hid (Own w0.heap.size wr v (mk k (cf f zs k))) ∧ Below w0.heap.size w0 wr) (fun _ kv _ => zs.length - (intOf kv).toNat)
  case atStart => exact ⟨0, by omega, rfl, how0, Below.refl _ _⟩
  case round =>
    obtain ⟨k, hk, rfl, hown, hb⟩ := hrel
    obtain ⟨z0, z1, z2, z3, z4⟩ := HX.out wr hb
    by_cases hlt : k < zs.length
    · obtain ⟨b, off, rfl, hlb, c⟩ := HR.out wr hb k hlt
      have HMk := Lib.hid (HM.out k hlt)
      have HKk := Lib.hid (HK.out k hlt)
      have HCk := Lib.hid (fun i => HC.out k i hk)
      have HC1 := Lib.hid (fun i => HC.out (k + 1) i hlt)
      have HE : Hid (cf f zs (k + 1) = nx k (cf f zs k) (mir (zs.getD k 0) f)) := Lib.hid rfl
      generalize hG0 : cf f zs (k + 1) = G at *
      have hG0 := Lib.hid hG0
      generalize cf f zs k = F at *
      generalize mir (zs.getD k 0) f = K at *
      generalize zs.getD k 0 = z at *
      clear HM HK HC z0 z1 z2
      go_wp2
      have KEEP : Hid (∀ W, Below wr.heap.size wr W → W.cell? ⟨w.heap.size, 3, none⟩ = some (.bool f) ∧ W.cell? ⟨w.heap.size, 4, none⟩ = some (.slice (some ⟨b, off, none⟩) zs.length cap) ∧ W.cell? ⟨b, off + k, none⟩ = some (.int .i64 z) ∧ Below wr.heap.size wr W) := Lib.hid (fun W hW => ⟨(hW.cell (p := ⟨w.heap.size, 3, none⟩) (by have := hb.size; simp only; omega)).trans z3, (hW.cell (p := ⟨w.heap.size, 4, none⟩) (by have := hb.size; simp only; omega)).trans z4, (hW.cell (p := ⟨b, off + k, none⟩) hlb).trans c, hW⟩)
      have k0' : (0 : Int) ≤ k := by omega
      have k1' : (k : Int) < zs.length := by omega
      go_region_held3 (fun W => W.cell? ⟨w.heap.size, 3, none⟩ = some (.bool f) ∧ W.cell? ⟨w.heap.size, 4, none⟩ = some (.slice (some ⟨b, off, none⟩) zs.length cap) ∧ W.cell? ⟨b, off + k, none⟩ = some (.int .i64 z) ∧ Below wr.heap.size wr W) (exact KEEP.out _ (by first | exact Below.refl _ _ | exact (Below.refl _ _).drew | exact X1.out)) ((go_at_call 15; ((with_reducible refine (HMk.out _).mono ?_); rintro e w2 ⟨rfl, hb2⟩; have X1 := Lib.hid (bT ((‹_ ∧ _ ∧ _ ∧ Below wr.heap.size wr _›).2.2.2) hb2); clear hb2)))
      rename_i hS
      clear hS
      have HB2 := Lib.hid (hb.trans (X1.out.mono hb.size))
      have HOW := hown.out.below X1.out
      obtain ⟨A, ca, hv, hra⟩ := HOW.rd.open
      rw [mk_len] at hv
      subst hv
      have HRA := Lib.hid hra
      clear hra hown KEEP X1 z3 z4 c hlb hb HOW
      generalize wr = wq at *
      go_wp2
      have how6 : Hid (Own w2.heap.size w2 (.slice none 0 0) (mk 0 G)) := Lib.hid (World.ownsRow_nil _ _ 3 1)
      go_loopw [6, 7] (fun v jv wr => ∃ j : Nat, j ≤ k ∧ jv = .int .i64 j ∧ Hid (Own w2.heap.size wr v (mk j G)) ∧ Below w2.heap.size w2 wr) (fun _ jv _ => k - (intOf jv).toNat)
      case atStart => exact ⟨0, by omega, rfl, how6, Below.refl _ _⟩
      case round =>
        obtain ⟨j, hj, rfl, hv6, hbi⟩ := hrel
        have hle := hbi.size
        by_cases hjk : j < k
        · obtain ⟨q, hq⟩ : ∃ q : Nat, (k : Int) - 1 - j = q := ⟨k - 1 - j, by omega⟩
          have hq2 : k - 1 - j = q := by omega
          have hqk : q < k := by omega
          obtain ⟨gA, oA, hA, lA, cj⟩ := HRA.out j (by rw [mk_len]; omega)
          obtain ⟨g2, o2, hA2, _, cq⟩ := HRA.out q (by rw [mk_len]; omega)
          rw [hA] at hA2
          obtain ⟨rfl, rfl⟩ : gA = g2 ∧ oA = o2 := by simpa using hA2
          rw [mk_at hjk] at cj
          rw [mk_at hqk] at cq
          subst hA
          have hG : G j = F j + rnd (K * F q) 20 := by rw [HE.out]; simp only [nx, if_pos hjk]; rw [hq2]
          have bG := HCk.out j
          have bQ := HCk.out q
          have bN := (HC1.out j)
          have HG : Hid (mk (j + 1) G = mk j G ++ [G j]) := Lib.hid (mk_succ j G)
          have KEEP2 : Hid (∀ W, Below w2.heap.size w2 W → W.cell? ⟨gA, oA + j, none⟩ = some (.int .i64 (F j)) ∧ W.cell? ⟨gA, oA + q, none⟩ = some (.int .i64 (F q)) ∧ Below w2.heap.size w2 W) := Lib.hid (fun W hW => ⟨(hW.cell (p := ⟨gA, oA + j, none⟩) lA).trans cj, (hW.cell (p := ⟨gA, oA + q, none⟩) lA).trans cq, hW⟩)
          clear cj cq
          generalize hgj : G j = g at *
          have hgj := Lib.hid hgj
          generalize F j = x at *
          generalize F q = y at *
          have hP : -4611686018427387904 ≤ K * y ∧ K * y ≤ 4611686018427387904 := by
            have a1 := mul_abs HKk.out.1 HKk.out.2 bQ.1 bQ.2
            omega
          have HR20 := Lib.hid (fun w => down_in (K * y) 20 w hP.1 hP.2 (by omega) (by omega))
          generalize rnd (K * y) 20 = r at *
          obtain ⟨b0, b1⟩ := bG
          obtain ⟨b2, b3⟩ := bQ
          obtain ⟨b4, b5⟩ := bN
          obtain ⟨p0, p1⟩ := hP
          clear hq2
          subst hG
          have hw1 := wr64 (x := K * y) (by omega) (by omega)
          have hw2 := wr64 (x := x + r) (by omega) (by omega)
          have hw3 := wr64 (x := (k : Int) - 1) (by omega) (by omega)
          have hw4 := wr64 (x := (q : Int)) (by omega) (by omega)
          have q1' : (q : Int) < k := by omega
          have j1' : (j : Int) < k := by omega
          have q0' : (0 : Int) ≤ q := by omega
          have j0' : (0 : Int) ≤ j := by omega
          go_wp2
          go_region_held3 (fun W => W.cell? ⟨gA, oA + j, none⟩ = some (.int .i64 x) ∧ W.cell? ⟨gA, oA + q, none⟩ = some (.int .i64 y) ∧ Below w2.heap.size w2 W) (exact KEEP2.out _ (by first | exact hbi | exact hbi.drew | exact hbi.drew.alloc hle _ | exact X4.out)) (first | (go_at_call 16; ((with_reducible refine (HR20.out _).mono ?_); rintro e w5 ⟨rfl, rfl⟩)) | (refine step_one _ rfl (.tmp 28) (.tmp 44) rfl w2.heap.size _ (mk j G) rfl (own_push_alloc hv6.out) _ (x + r) rfl (by simp) (by rw [mk_len]; omega) (by simp; omega) ?_; intro v4 w4 ho4 hg4; have X4 := Lib.hid (below_grown (hbi.drew.alloc hle _) (own_push_alloc hv6.out) (Nat.le_refl _) hg4); have O4 := Lib.hid ho4; clear ho4 hg4))
          rename_i hS
          clear hS
          have N1 : Hid (Own w2.heap.size w4 v4 (mk (j + 1) G)) := Lib.hid (by rw [HG.out]; exact O4.out)
          clear O4 HG KEEP2
          go_wp2
          go_roundw
          case rel => exact ⟨j + 1, by omega, by go_num, N1, X4.out⟩
          case measure => simp [intOf]; omega
        · have hjk2 : j = k := by omega
          subst hjk2
          have hGk : G j = K := by rw [HE.out]; simp [nx]
          have HG : Hid (mk (j + 1) G = mk j G ++ [K]) := Lib.hid (by rw [mk_succ, hGk])
          have hln : (mk j G).length = j := mk_len j G
          clear HE hGk
          go_wp2_with (at_builtin; refine wpList_append_own _ rfl (.tmp 46) (.tmp 48) 22 rfl w2.heap.size 3 i0 (.int .i64 0) 1 8 Try.underlying22 hi hz0 hz1 hz2 rfl (by decide) _ _ _ rfl (World.ownsRow.alloc hv6.out _) ⟨wr.heap.size, 0, none⟩ 1 1 [.int .i64 K] rfl rfl ?c1 ?c2 ?c3 ?c4 ?c5 ?_)
          first
          | case c1 =>
              intro j u hj
              match j, hj with
              | 0, hj => simp at hj; subst hj; simp [Addr.add]
          | skip
          case c2 => intro u hu; simp at hu; subst hu; rfl
          case c3 => unfold maxLen; first | omega | (simp; done) | (simp; omega)
          case c4 => first | omega | (simp; done) | (simp; omega)
          case c5 => first | omega | (simp; done) | (simp; omega)
          intro v4 w4 hown4 hgrow4 _
          have ho4 : Own w2.heap.size w4 v4 (mk j G ++ [K]) := own_push (by rw [hln]; simpa [hln] using hown4)
          rw [← HG.out] at ho4
          have hb4 : Below w2.heap.size w2 w4 := below_grown (hbi.alloc hle _) (World.ownsRow.alloc (show Own w2.heap.size wr _ (mk j G) from hv6.out) _) (Nat.le_refl _) hgrow4
          have N1 := Lib.hid (Own.rebase ho4 HB2.out.size)
          rw [← hG0.out] at N1
          have N2 := Lib.hid (HB2.out.trans (hb4.mono HB2.out.size))
          clear hown4 hgrow4 ho4 hb4
          go_wp2
          go_roundw
          case rel => exact ⟨j + 1, by omega, by go_num, N1, N2.out⟩
          case measure => simp [intOf]; omega
    · have hend : k = zs.length := by omega
      subst hend
      have HOE := Lib.hid (Own.rebase hown.out (show w.heap.size ≤ w0.heap.size by omega))
      have HBE := Lib.hid (bT HBW.out hb)
      clear hown hb z0 z1 z2 z3
      go_wp2
      go_ret
      exact ⟨_, rfl, HOE.out, HBE.out⟩
end Go.Proofs.Ytbodpeiemamibaa.Tn

/- Predict, both ways. -/
namespace Go.Proofs.Ytbodpeiemamibaa.Tn
open Go Go.ChangeShapes Go.WideShapes Go.ChangeAt Go.RowKit Go.Proofs.Ytbodpeiemamibaa.Fx
set_option maxRecDepth 100000 in
set_option maxHeartbeats 2000000 in
theorem pred_rng (L O : Int) (dn f : Bool) (a : Option Addr) (cap : Nat) (zs : List Int) (w : World) (hr : RdA w a zs) (o0 : 0 ≤ O) (o1 : O ≤ 12) (o2 : (zs.length : Int) = O) (l0 : 0 ≤ L) (l1 : L ≤ 63) (hR : ¬ Rng f zs) :
    Calls Try.prog 5 #[.agg #[.int .i64 L, .int .i64 O, .bool dn, .bool f, .slice a zs.length cap]] w fun e w' => e = .returned (.tuple #[.slice none 0 0, .int .i64 2]) ∧ Below w.heap.size w w' := by
  have HB := Lib.hid (box_below w (.cells #[.int .i64 L, .int .i64 O, .bool dn, .bool f, .slice a zs.length cap] 24))
  have HX := Lib.hid (boxed w L O dn f (.slice a zs.length cap) _ (Below.refl _ _))
  have h3 : ((zs.length : Int) != O) = false := by simp [o2]
  have n12 : zs.length ≤ 12 := by omega
  have HR := Lib.hid (hr.below HB.out)
  have hR := Lib.hid hR
  clear hr
  subst o2
  cases f
  · go_enter Try.func5, Try.ntmps5
    go_wp2
    go_loop [37] (fun i => ∃ k : Nat, k ≤ zs.length ∧ i = .int .i64 k ∧ Hid (∀ j, j < k → (-4) ≤ zs.getD j 0 ∧ zs.getD j 0 ≤ 3)) (fun i => zs.length - (intOf i).toNat)
    case atStart => exact ⟨0, by omega, rfl, Lib.hid (fun j hj => by omega)⟩
    case round =>
      obtain ⟨k, hk, rfl, hg⟩ := hrel
      by_cases hlt : k < zs.length
      · obtain ⟨b, off, rfl, hlb, c⟩ := HR.out k hlt
        have hnx : (-4) ≤ zs.getD k 0 → zs.getD k 0 ≤ 3 → ∀ j, j < k + 1 → (-4) ≤ zs.getD j 0 ∧ zs.getD j 0 ≤ 3 := fun q0 q1 j hj => by
          by_cases e : j = k
          · subst e; exact ⟨q0, q1⟩
          · exact hg.out j (by omega)
        clear hg
        generalize zs.getD k 0 = z at *
        by_cases c0 : z < (-4)
        · clear hnx
          go_wp2
          go_ret2
          exact ⟨rfl, HB.out⟩
        by_cases c1 : 3 < z
        · clear hnx
          go_wp2
          go_ret2
          exact ⟨rfl, HB.out⟩
        have HN := Lib.hid (hnx (by omega) (by omega))
        clear hnx
        go_wp2
        go_round
        case rel => exact ⟨k + 1, by omega, by go_num, HN⟩
        case measure => simp [intOf]; omega
      · have hend : k = zs.length := by omega
        subst hend
        exact absurd (fun i hi => by simpa [low, hgh] using hg.out i hi) hR.out
  · go_enter Try.func5, Try.ntmps5
    go_wp2
    go_loop [37] (fun i => ∃ k : Nat, k ≤ zs.length ∧ i = .int .i64 k ∧ Hid (∀ j, j < k → (-8) ≤ zs.getD j 0 ∧ zs.getD j 0 ≤ 7)) (fun i => zs.length - (intOf i).toNat)
    case atStart => exact ⟨0, by omega, rfl, Lib.hid (fun j hj => by omega)⟩
    case round =>
      obtain ⟨k, hk, rfl, hg⟩ := hrel
      by_cases hlt : k < zs.length
      · obtain ⟨b, off, rfl, hlb, c⟩ := HR.out k hlt
        have hnx : (-8) ≤ zs.getD k 0 → zs.getD k 0 ≤ 7 → ∀ j, j < k + 1 → (-8) ≤ zs.getD j 0 ∧ zs.getD j 0 ≤ 7 := fun q0 q1 j hj => by
          by_cases e : j = k
          · subst e; exact ⟨q0, q1⟩
          · exact hg.out j (by omega)
        clear hg
        generalize zs.getD k 0 = z at *
        by_cases c0 : z < (-8)
        · clear hnx
          go_wp2
          go_ret2
          exact ⟨rfl, HB.out⟩
        by_cases c1 : 7 < z
        · clear hnx
          go_wp2
          go_ret2
          exact ⟨rfl, HB.out⟩
        have HN := Lib.hid (hnx (by omega) (by omega))
        clear hnx
        go_wp2
        go_round
        case rel => exact ⟨k + 1, by omega, by go_num, HN⟩
        case measure => simp [intOf]; omega
      · have hend : k = zs.length := by omega
        subst hend
        exact absurd (fun i hi => by simpa [low, hgh] using hg.out i hi) hR.out
set_option maxRecDepth 100000 in
set_option maxHeartbeats 2000000 in
theorem pred_ok (L O : Int) (dn f : Bool) (a : Option Addr) (cap : Nat) (zs : List Int) (w : World) (hr : RdA w a zs) (o0 : 0 ≤ O) (o1 : O ≤ 12) (o2 : (zs.length : Int) = O) (l0 : 0 ≤ L) (l1 : L ≤ 63) (hR : Rng f zs) :
    Calls Try.prog 5 #[.agg #[.int .i64 L, .int .i64 O, .bool dn, .bool f, .slice a zs.length cap]] w fun e w' => ∃ g, e = .returned (.tuple #[.slice (some ⟨g, 0, none⟩) zs.length 12, .int .i64 0]) ∧ w.heap.size ≤ g ∧ g < w'.heap.size ∧ A12 w' g (cf f zs zs.length) ∧ Below w.heap.size w w' := by
  have HB := Lib.hid (box_below w (.cells #[.int .i64 L, .int .i64 O, .bool dn, .bool f, .slice a zs.length cap] 24))
  have HX := Lib.hid (boxed w L O dn f (.slice a zs.length cap) _ (Below.refl _ _))
  have h3 : ((zs.length : Int) != O) = false := by simp [o2]
  have n12 : zs.length ≤ 12 := by omega
  have HR := Lib.hid (hr.below HB.out)
  have hR := Lib.hid hR
  have HP := Lib.hid (predict_ok L O dn f a cap zs _ HR.out hR.out o0 o1 o2)
  clear hr
  subst o2
  cases f
  · go_enter Try.func5, Try.ntmps5
    go_wp2
    go_loop [37] (fun i => ∃ k : Nat, k ≤ zs.length ∧ i = .int .i64 k ∧ Hid (∀ j, j < k → (-4) ≤ zs.getD j 0 ∧ zs.getD j 0 ≤ 3)) (fun i => zs.length - (intOf i).toNat)
    case atStart => exact ⟨0, by omega, rfl, Lib.hid (fun j hj => by omega)⟩
    case round =>
      obtain ⟨k, hk, rfl, hg⟩ := hrel
      by_cases hlt : k < zs.length
      · obtain ⟨b, off, rfl, hlb, c⟩ := HR.out k hlt
        have hnx : (-4) ≤ zs.getD k 0 → zs.getD k 0 ≤ 3 → ∀ j, j < k + 1 → (-4) ≤ zs.getD j 0 ∧ zs.getD j 0 ≤ 3 := fun q0 q1 j hj => by
          by_cases e : j = k
          · subst e; exact ⟨q0, q1⟩
          · exact hg.out j (by omega)
        have hok := hR.out k hlt
        have hlo : low false = (-4) := rfl
        have hhi : hgh false = 3 := rfl
        rw [hlo, hhi] at hok
        clear hlo hhi
        clear hg
        generalize zs.getD k 0 = z at *
        by_cases c0 : z < (-4)
        · omega
        by_cases c1 : 3 < z
        · omega
        have HN := Lib.hid (hnx (by omega) (by omega))
        clear hnx hok
        go_wp2
        go_round
        case rel => exact ⟨k + 1, by omega, by go_num, HN⟩
        case measure => simp [intOf]; omega
      · have hend : k = zs.length := by omega
        subst hend
        clear hg
        obtain ⟨z0, z1, z2, z3, z4⟩ := HX.out
        go_wp2_with (go_at_call 9; ((with_reducible refine (HP.out).mono ?_); rintro e w1 ⟨g, rfl, hg1, hg2, hA, hb⟩))
        go_ret2
        exact ⟨g, rfl, Nat.le_trans HB.out.size hg1, hg2, hA, bT HB.out hb⟩
  · go_enter Try.func5, Try.ntmps5
    go_wp2
    go_loop [37] (fun i => ∃ k : Nat, k ≤ zs.length ∧ i = .int .i64 k ∧ Hid (∀ j, j < k → (-8) ≤ zs.getD j 0 ∧ zs.getD j 0 ≤ 7)) (fun i => zs.length - (intOf i).toNat)
    case atStart => exact ⟨0, by omega, rfl, Lib.hid (fun j hj => by omega)⟩
    case round =>
      obtain ⟨k, hk, rfl, hg⟩ := hrel
      by_cases hlt : k < zs.length
      · obtain ⟨b, off, rfl, hlb, c⟩ := HR.out k hlt
        have hnx : (-8) ≤ zs.getD k 0 → zs.getD k 0 ≤ 7 → ∀ j, j < k + 1 → (-8) ≤ zs.getD j 0 ∧ zs.getD j 0 ≤ 7 := fun q0 q1 j hj => by
          by_cases e : j = k
          · subst e; exact ⟨q0, q1⟩
          · exact hg.out j (by omega)
        have hok := hR.out k hlt
        have hlo : low true = (-8) := rfl
        have hhi : hgh true = 7 := rfl
        rw [hlo, hhi] at hok
        clear hlo hhi
        clear hg
        generalize zs.getD k 0 = z at *
        by_cases c0 : z < (-8)
        · omega
        by_cases c1 : 7 < z
        · omega
        have HN := Lib.hid (hnx (by omega) (by omega))
        clear hnx hok
        go_wp2
        go_round
        case rel => exact ⟨k + 1, by omega, by go_num, HN⟩
        case measure => simp [intOf]; omega
      · have hend : k = zs.length := by omega
        subst hend
        clear hg
        obtain ⟨z0, z1, z2, z3, z4⟩ := HX.out
        go_wp2_with (go_at_call 9; ((with_reducible refine (HP.out).mono ?_); rintro e w1 ⟨g, rfl, hg1, hg2, hA, hb⟩))
        go_ret2
        exact ⟨g, rfl, Nat.le_trans HB.out.size hg1, hg2, hA, bT HB.out hb⟩
theorem rpred_err (L O : Int) (dn f : Bool) (a : Option Addr) (cap : Nat) (zs : List Int) (w : World) (E : Int) (hE : E ≠ 0) (hc : ∀ W, Below w.heap.size w W → Calls Try.prog 10 #[.agg #[.int .i64 L, .int .i64 O, .bool dn, .bool f, .slice a zs.length cap]] W fun e w' => e = .returned (.int .i64 E) ∧ Below W.heap.size W w') :
    Calls Try.prog 6 #[.agg #[.int .i64 L, .int .i64 O, .bool dn, .bool f, .slice a zs.length cap]] w fun e w' => e = .returned (.tuple #[.slice none 0 0, .int .i64 E]) ∧ Below w.heap.size w w' := by
  have HB := Lib.hid (box_below w (.cells #[.int .i64 L, .int .i64 O, .bool dn, .bool f, .slice a zs.length cap] 24))
  have HC := Lib.hid (hc _ HB.out)
  have HX := Lib.hid (fun x hx => boxed w L O dn f (.slice a zs.length cap) x hx)
  have h3 : (E != 0) = true := by simp [hE]
  clear hc
  go_enter Try.func6, Try.ntmps6
  go_wp2_with (go_at_call 10; ((with_reducible refine (HC.out).mono ?_); rintro e w1 ⟨rfl, hb⟩; obtain ⟨z0, z1, z2, z3, z4⟩ := HX.out w1 hb; have HB1 := Lib.hid (bT HB.out hb)))
  go_ret2
  exact ⟨rfl, HB1.out⟩
theorem rpred_ok (L O : Int) (dn f : Bool) (a : Option Addr) (cap : Nat) (zs : List Int) (w : World) (hr : RdA w a zs) (hg : Rng f zs) (o0 : 0 ≤ O) (o1 : O ≤ 12) (o2 : (zs.length : Int) = O) (l0 : 0 ≤ L) (l1 : L ≤ 63) :
    Calls Try.prog 6 #[.agg #[.int .i64 L, .int .i64 O, .bool dn, .bool f, .slice a zs.length cap]] w fun e w' => ∃ v, e = .returned (.tuple #[v, .int .i64 0]) ∧ Own w.heap.size w' v (mk zs.length (cf f zs zs.length)) ∧ Below w.heap.size w w' := by
  have HB := Lib.hid (box_below w (.cells #[.int .i64 L, .int .i64 O, .bool dn, .bool f, .slice a zs.length cap] 24))
  have HC := Lib.hid (rchk_rng L O dn f a cap zs _ 0 (hr.below HB.out) o0 o1 o2 l0 l1 ⟨fun _ => rfl, fun h => absurd hg h⟩)
  have HX := Lib.hid (fun x hx => boxed w L O dn f (.slice a zs.length cap) x hx)
  have HF := Lib.hid (fun x hx => coefs_ok L O dn f a cap zs x (hr.below hx) hg (by omega))
  clear hr hg
  go_enter Try.func6, Try.ntmps6
  go_wp2_with (first | (go_at_call 10; ((with_reducible refine (HC.out).mono ?_); rintro e w1 ⟨rfl, hb⟩; obtain ⟨z0, z1, z2, z3, z4⟩ := HX.out w1 hb; have HB1 := Lib.hid (bT HB.out hb))) | (go_at_call 11; ((with_reducible refine (HF.out w1 HB1.out).mono ?_); rintro e w2 ⟨v, rfl, ho, hb2⟩)))
  go_ret2
  exact ⟨v, rfl, Own.rebase ho HB1.out.size, bT HB1.out hb2⟩
end Go.Proofs.Ytbodpeiemamibaa.Tn
