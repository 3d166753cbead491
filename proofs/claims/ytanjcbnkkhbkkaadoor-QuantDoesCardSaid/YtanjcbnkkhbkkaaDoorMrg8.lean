/- Texts of one claim, one behind the other: QdTw, QdBo. -/
import Derived.Test.YtanjcbnkkhbkkaaDoorQdLn
import Derived.Test.YtanjcbnkkhbkkaaDoorMrg7
import Derived.Test.YtanjcbnkkhbkkaaDoorEvOpen
import Derived.Deep.Matrix
import Derived.SizedLaws
import Derived.Maps.AppendAt
import Derived.WalkKit
import Derived.Below
import Derived.RegionTactic
import Derived.Deep.QuietTactic
import Derived.BigQuiet
import Derived.ProofKit
import Derived.OpenShut
import Derived.Laws.AppendOwn
import Derived.Laws.AppendOwnNone
import Derived.Deep.OwnRows
import Derived.Lib.Hide
set_option linter.unusedVariables false
/- Copies of lists of lists, and whether two are the same. -/
namespace Go.Proofs.YtanjcbnkkhbkkaaDoor.Qd
open Go Go.Deep Go.ChangeShapes Go.WideShapes Go.ChangeAt Go.RowKit Go.Proofs.YtanjcbnkkhbkkaaDoor.If Go.Proofs.YtanjcbnkkhbkkaaDoor.Bd Go.Proofs.YtanjcbnkkhbkkaaDoor.Qn

theorem info39 : (Tryd.prog.info? 39).map (fun i => (i.zero, i.size, i.bytes)) = some (some (.slice none 0 0), 1, 24) := by kernel_rfl
theorem run_app0 (w : World) (ty : TypeId) (v : Value) (n : Nat) (base : Nat) (xs : List Value) (cap : Nat) (hown : w.ownsRow base 3 1 v n xs) :
    (Builtin.append_ #[39, 39] ty #[v, .slice none 0 cap]).run Tryd.prog w = .ok v w := by
  obtain ⟨i, hi, hz0, hz1, hz2⟩ := info_parts infoI
  rcases hown.2 with ⟨rfl, rfl⟩ | ⟨g, cap, cur, rfl, _, _, hnc, _⟩
  · simp [Builtin.append_, run_underlying Tryd.underlying39, sizeOf, typeInfo, hi, Builtin.lenOf, Builtin.firstCells]
  · simp [Builtin.append_, run_underlying Tryd.underlying39, sizeOf, typeInfo, hi, Builtin.lenOf, Builtin.firstCells, hnc, storeCells]
/-- A copy by append. -/
theorem wpList_copy (w : World) {ops : Array Oper} {rest : List Oper} {o : Oper} {a : Act} {Q : Exit → Act → World → Prop} (hgd : o.guard = none) (s x : Operand)
    (ho : o.op = .call { callee := .builtin .append, args := #[s, x], argTypes := #[39, 39] }) (base : Nat) (v : Value) (hs : a.eval s = v) (A : Option Addr) (cap : Nat) (zs : List Int) (hown : w.ownsRow base 3 1 v 0 []) (hbs : base ≤ w.heap.size) (hx : a.eval x = .slice A zs.length cap) (hn : zs.length * 8 ≤ 140737488355328) (hc : RdA w A zs)
    (hK : ∀ v' w', Bd.Own base w' v' zs → w.grownBy w' v.ownBlock → wpList Tryd.prog ops Q rest (a.put o.dst v') w') : wpList Tryd.prog ops Q (o :: rest) a w := by
  obtain ⟨i0, hi, hz0, hz1, hz2⟩ := info_parts infoI
  have hA : (A = none ∧ zs = []) ∨ ∃ x, A = some x ∧ ∀ j u, (zs.map (Value.int .i64))[j]? = some u → w.cell? (x.add j) = some u := by
    cases A with
    | none =>
      refine .inl ⟨rfl, ?_⟩
      cases zs with
      | nil => rfl
      | cons z zs => obtain ⟨b, off, e, _⟩ := hc 0 (by simp); cases e
    | some x =>
      refine .inr ⟨x, rfl, fun j u hu => ?_⟩
      simp only [List.getElem?_map, Option.map_eq_some_iff] at hu
      obtain ⟨q, hq, rfl⟩ := hu
      obtain ⟨hj, rfl⟩ := List.getElem?_eq_some_iff.1 hq
      obtain ⟨b, off, e, _, h1⟩ := hc j hj
      simp only [Option.some.injEq] at e
      subst e
      rw [add_at, h1]
      simp [List.getD_eq_getElem?_getD, List.getElem?_eq_getElem hj]
  rcases hA with ⟨rfl, rfl⟩ | ⟨x1, rfl, hc2⟩
  · refine wpList_plain hgd fun K hK' => ?_
    have hrun := run_app0 w o.type v 0 base [] cap hown
    unfold Oper.wp
    simp only [List.length_nil] at hx
    simp [execOp, ho, resolve, invoke, builtin, hs, hx, hrun, Result.andThen]
    exact hK' _ _ (hK _ _ hown ⟨rfl, rfl, rfl, Nat.le_refl _, fun _ _ _ => rfl⟩)
  · refine wpList_append_own w hgd s x 39 ho base 3 i0 (.int .i64 0) 1 8 Tryd.underlying39 hi hz0 hz1 hz2 rfl (by decide) _ 0 _ hs hown x1 zs.length cap (zs.map (Value.int .i64)) hx (by simp) hc2 (one64 _) (by unfold maxLen; omega) (by omega) hbs ?_
    intro v' w' h1 h2 _
    refine hK v' w' ?_ h2
    unfold Bd.Own
    rw [Nat.zero_add, List.nil_append] at h1
    exact h1

/-- Sizes that a machine has room for. -/
def Szd (rows : List (List Int)) : Prop := ∀ i, i < rows.length → (rows.getD i []).length * 8 ≤ 140737488355328
set_option maxRecDepth 100000 in
set_option maxHeartbeats 4000000 in
theorem twins_ok (O : Option Addr) (oc : Nat) (rows : List (List Int)) (w : World) (hl : rows.length ≤ 100) (hz : Szd rows) (hr : RdR w O rows) :
    Calls Tryd.prog 30 #[.slice O rows.length oc] w fun e w' => ∃ O' c', e = .returned (.slice O' rows.length c') ∧ RdR w' O' rows ∧ Below w.heap.size w w' := by
  obtain ⟨i9, hi9, hz90, hz91, hz92⟩ := info_parts info39
  have HR := Lib.hid (fun x (hx : Below w.heap.size w x) => hr.below hx)
  have HZ := Lib.hid hz
  clear hr hz
  have hg0 : Hid (Gr w.heap.size w (.slice none 0 0) (rows.take 0)) := Lib.hid (by rw [List.take_zero]; exact Gr.nil _ _)
  go_enter Tryd.func30, Tryd.ntmps30
  go_wp2
  go_loopw [3, 4] (fun v kv wr => ∃ k : Nat, k ≤ rows.length ∧ kv = .int .i64 k ∧ Hid (Gr w.heap.size wr v (rows.take k)) ∧ Below w.heap.size w wr) (fun _ kv _ => rows.length - (intOf kv).toNat)
  case atStart => exact ⟨0, by omega, rfl, hg0, Below.refl _ _⟩
  case round =>
    obtain ⟨k, hk, rfl, hG, hb⟩ := hrel
    clear hg0
    by_cases hlt : k < rows.length
    · obtain ⟨b, off, a, ca, rfl, lb, c0, ra⟩ := HR.out wr hb k hlt
      have hsz := HZ.out k hlt
      have RA := Lib.hid ra
      have htk : Hid (rows.take (k + 1) = rows.take k ++ [rows.getD k []]) := Lib.hid (by rw [List.take_succ_eq_append_getElem hlt]; simp [hlt])
      have hlen : Hid ((rows.take k).length = k) := Lib.hid (by simp; omega)
      have hwb := hb.size
      clear ra
      generalize rows.getD k [] = Z at *
      go_wp2_with (first
        | (at_builtin; refine wpList_copy _ rfl (.const (.slice none 0 0)) (.tmp 15) rfl w.heap.size _ rfl a ca Z (World.ownsRow_nil _ _ 3 1) hwb rfl (by omega) RA.out ?_; intro v5 w5 ho5 hg5; have hb5 := (Below.refl _ _).grown hg5 (Nat.le_refl _) (fun k hk => by cases hk); have hRV : RowV w5 v5 Z := RowV.of_own ho5; obtain ⟨a8, c8, rfl, _⟩ := hRV.rd; have hba : Below w5.heap.size w5 (w5.alloc (.cells #[.slice a8 Z.length c8] 39)) := (Below.refl _ _).alloc (Nat.le_refl _) _; have hG1 := (hG.out.below hb5).below hba; have hB3 : Hid (Below w.heap.size w (w5.alloc (.cells #[.slice a8 Z.length c8] 39))) := Lib.hid ((hb.trans (hb5.mono hb.size)).trans (hba.mono (hb.trans (hb5.mono hb.size)).size)); obtain ⟨vals, ho1, hr1⟩ := hG1; have hr2 := Lib.hid hr1; have hu2 : Hid (RowV (w5.alloc (.cells #[.slice a8 Z.length c8] 39)) (.slice a8 Z.length c8) Z) := Lib.hid (hRV.of_heap fun g cur hg => (hba.block g (Array.getElem?_eq_some_iff.1 hg).1).trans hg); have hc3 : (rows.take k).length + 1 ≤ maxLen := (by rw [hlen.out]; unfold maxLen; omega); have hc4 : ((rows.take k).length + 1) * 24 ≤ 140737488355328 := (by rw [hlen.out]; omega); have hc5 := hB3.out.size; have hos : ∀ u ∈ [Value.slice a8 Z.length c8], u.oneCell' = true := (by simp [Value.oneCell']); clear hr1 ho5 hg5 hb5 hba hRV hG)
        | (at_builtin; refine wpList_append_own _ rfl _ _ 51 rfl w.heap.size 39 i9 (.slice none 0 0) 1 24 Tryd.underlying51 hi9 hz90 hz91 hz92 rfl (by decide) _ _ _ rfl ho1 ⟨w5.heap.size, 0, none⟩ 1 1 [.slice a8 Z.length c8] rfl rfl (cell_one_new _ _ _) hos hc3 hc4 hc5 ?_; intro v2 w6 ho2 hg2 _; have hG6 : Hid (Gr w.heap.size w6 v2 (rows.take (k + 1))) := Lib.hid (by rw [htk.out]; exact Gr.push ho1 hr2.out hu2.out ho2 hg2); have hB6 : Hid (Below w.heap.size w w6) := Lib.hid (hB3.out.grown hg2 hc5 (fun kk hkk => (ho1.lt kk hkk).1)); clear ho1 ho2 hg2 hr2 hu2 hB3))
      go_roundw
      case rel => exact ⟨k + 1, by omega, by go_num, hG6, hB6.out⟩
      case measure => simp [intOf]; omega
    · obtain rfl : k = rows.length := by omega
      have hGf := hG.out
      rw [List.take_length] at hGf
      obtain ⟨G, cg, rfl, rdG⟩ := hGf.rd
      have RG := Lib.hid rdG
      have HB := Lib.hid hb
      clear hG hGf rdG hb
      go_wp2
      go_ret
      exact ⟨G, cg, rfl, RG.out, HB.out⟩
set_option maxRecDepth 100000 in
set_option maxHeartbeats 2000000 in
theorem list_same (a b : Option Addr) (c d : Nat) (xs ys : List Int) (w : World) (hl : xs.length ≤ maxLen) (hm : ys.length ≤ maxLen) (hx : RdA w a xs) (hy : RdA w b ys) :
    Calls Tryd.prog 27 #[.slice a xs.length c, .slice b ys.length d] w fun e w' => e = .returned (.bool (xs == ys)) ∧ Below w.heap.size w w' := by
  unfold maxLen at hm hl
  by_cases hne : xs.length = ys.length
  · have HX := Lib.hid (fun w1 (k : Below w.heap.size w w1) => hx.below k)
    have HY := Lib.hid (fun w1 (k : Below w.heap.size w w1) => hy.below k)
    clear hx hy
    obtain ⟨R, hR⟩ : ∃ R, R = (xs == ys) := ⟨_, rfl⟩
    rw [← hR]
    have HV := Lib.hid hR
    clear hR
    have HNE := Lib.hid hne
    rw [← hne]
    clear hne hm
    go_enter Tryd.func27, Tryd.ntmps27
    go_wp2
    go_loopw [5] (fun iv wr => ∃ k : Nat, k ≤ xs.length ∧ iv = .int .i64 k ∧ Below w.heap.size w wr ∧ Hid (xs.take k = ys.take k)) (fun iv _ => xs.length - (intOf iv).toNat)
    case atStart => exact ⟨0, by omega, rfl, Below.refl _ _, Lib.hid (by simp)⟩
    case round =>
      obtain ⟨k, hk, rfl, hb, ht⟩ := hrel
      by_cases hlt : k < xs.length
      · obtain ⟨b1, o1, e1, _, q1⟩ := HX.out wr hb k hlt
        obtain ⟨b2, o2, e2, _, q2⟩ := HY.out wr hb k (by have := HNE.out; omega)
        have hlt2 : k < ys.length := by have := HNE.out; omega
        have hxk : xs.getD k 0 = xs[k] := by simp [hlt]
        have hyk : ys.getD k 0 = ys[k] := by simp [hlt2]
        have HD : Hid (xs.getD k 0 ≠ ys.getD k 0 → (xs == ys) = false) := Lib.hid (fun q => by
          have : xs ≠ ys := fun e => q (by rw [e])
          simpa using this)
        have HE : Hid (xs.getD k 0 = ys.getD k 0 → xs.take (k + 1) = ys.take (k + 1)) := Lib.hid (fun q => by
          rw [hxk, hyk] at q
          rw [List.take_add_one, List.take_add_one, ht.out, List.getElem?_eq_getElem hlt, List.getElem?_eq_getElem hlt2, q])
        clear hxk hyk ht
        subst e1 e2
        generalize xs.getD k 0 = x at *
        generalize ys.getD k 0 = y at *
        clear HX HY
        by_cases hxy : x = y
        · subst hxy
          have HE2 := Lib.hid (HE.out rfl)
          clear HE HD
          go_wp2
          go_quiet (fail)
          go_wp2
          go_roundw
          case rel => exact ⟨k + 1, by omega, by go_num, hb.trans ((Bd.drewN_below wr nq).mono hb.size), HE2⟩
          case measure => simp [intOf]; omega
        · obtain rfl : R = false := by rw [HV.out]; exact HD.out hxy
          have hx1 : (x == y) = false := by simpa using hxy
          have hx2 : (x != y) = true := by simp [hxy]
          clear HE HD HV
          go_wp2
          go_quiet (fail)
          go_wp2
          go_ret
          exact ⟨rfl, hb.trans ((Bd.drewN_below wr nq).mono hb.size)⟩
      · have hend : k = xs.length := by omega
        have ht2 := ht.out
        rw [hend, List.take_length, HNE.out, List.take_length] at ht2
        obtain rfl : R = true := by rw [HV.out, ht2]; simp
        clear ht ht2 HV
        have hlt3 : ¬ (k : Int) < xs.length := by omega
        go_wp2
        go_ret
        exact ⟨rfl, hb⟩
  · have hf : (xs == ys) = false := by
      have : xs ≠ ys := fun e => hne (by rw [e])
      simpa using this
    rw [hf]
    have h1 : ((xs.length : Int) == (ys.length : Int)) = false := by simp; omega
    have h2 : ((xs.length : Int) != (ys.length : Int)) = true := by simp; omega
    have h3 : ¬ (xs.length : Int) = (ys.length : Int) := by omega
    clear hf hx hy hm hl
    go_enter Tryd.func27, Tryd.ntmps27
    go_wp2
    go_ret
    exact ⟨rfl, Below.refl _ _⟩
theorem list_self (a b : Option Addr) (c d : Nat) (xs : List Int) (w : World) (hl : xs.length ≤ maxLen) (hx : RdA w a xs) (hy : RdA w b xs) :
    Calls Tryd.prog 27 #[.slice a xs.length c, .slice b xs.length d] w fun e w' => e = .returned (.bool true) ∧ Below w.heap.size w w' := by
  have h := list_same a b c d xs xs w hl hl hx hy
  rw [show (xs == xs) = true by simp] at h
  exact h
set_option maxRecDepth 100000 in
set_option maxHeartbeats 2000000 in
theorem rows_self (O P : Option Addr) (c d : Nat) (rows : List (List Int)) (w : World) (hl : rows.length ≤ 100) (hz : Szd rows) (hx : RdR w O rows) (hy : RdR w P rows) :
    Calls Tryd.prog 35 #[.slice O rows.length c, .slice P rows.length d] w fun e w' => e = .returned (.bool true) ∧ Below w.heap.size w w' := by
  have HX := Lib.hid (fun x (k : Below w.heap.size w x) => hx.below k)
  have HY := Lib.hid (fun x (k : Below w.heap.size w x) => hy.below k)
  have HZ := Lib.hid hz
  clear hx hy hz
  go_enter Tryd.func35, Tryd.ntmps35
  go_wp2
  go_loopw [5] (fun i wr => ∃ k : Nat, k ≤ rows.length ∧ i = .int .i64 k ∧ Below w.heap.size w wr) (fun i _ => rows.length - (intOf i).toNat)
  case atStart => exact ⟨0, by omega, rfl, Below.refl _ _⟩
  case round =>
    obtain ⟨k, hk, rfl, hb⟩ := hrel
    by_cases hlt : k < rows.length
    · obtain ⟨b1, o1, a1, c1, rfl, lb1, x1, r1⟩ := HX.out wr hb k hlt
      obtain ⟨b2, o2, a2, c2, rfl, lb2, x2, r2⟩ := HY.out wr hb k hlt
      have hsz := HZ.out k hlt
      have HS := Lib.hid (fun W (hW : Below wr.heap.size wr W) => list_self a1 a2 c1 c2 (rows.getD k []) W (by unfold maxLen; omega) (r1.below hW) (r2.below hW))
      have KEEP : Hid (∀ W, Below wr.heap.size wr W → W.cell? ⟨b1, o1 + k, none⟩ = some (.slice a1 (rows.getD k []).length c1) ∧ W.cell? ⟨b2, o2 + k, none⟩ = some (.slice a2 (rows.getD k []).length c2) ∧ Below wr.heap.size wr W) := Lib.hid (fun W hW => ⟨(hW.cell (p := ⟨b1, o1 + k, none⟩) lb1).trans x1, (hW.cell (p := ⟨b2, o2 + k, none⟩) lb2).trans x2, hW⟩)
      clear r1 r2 x1 x2
      generalize (rows.getD k []).length = L at *
      have k0' : (0 : Int) ≤ k := by omega
      have k1' : (k : Int) < rows.length := by omega
      go_wp2
      go_region_held3 (fun W => W.cell? ⟨b1, o1 + k, none⟩ = some (.slice a1 L c1) ∧ W.cell? ⟨b2, o2 + k, none⟩ = some (.slice a2 L c2) ∧ Below wr.heap.size wr W) (exact KEEP.out _ (by first | exact Below.refl _ _ | exact (Below.refl _ _).drew | exact X1.out)) ((go_at_call 27; ((with_reducible refine (HS.out _ (‹_ ∧ _ ∧ Below wr.heap.size wr _›).2.2).mono ?_); rintro e w2 ⟨rfl, hb2⟩; have X1 := Lib.hid (belowT ((‹_ ∧ _ ∧ Below wr.heap.size wr _›).2.2) hb2); clear hb2)))
      rename_i hS
      clear hS
      have N2 := Lib.hid (hb.trans (X1.out.mono hb.size))
      go_wp2
      go_roundw
      case rel => exact ⟨k + 1, by omega, by go_num, N2.out⟩
      case measure => simp [intOf]; omega
    · have hlt3 : ¬ (k : Int) < rows.length := by omega
      go_wp2
      go_ret
      exact ⟨rfl, hb⟩
end Go.Proofs.YtanjcbnkkhbkkaaDoor.Qd

/- What the program and the document answer. -/
namespace Go.Proofs.YtanjcbnkkhbkkaaDoor.Qd
open Go Go.ChangeShapes Go.WideShapes Go.ChangeAt Go.RowKit Go.Proofs.YtanjcbnkkhbkkaaDoor.If Go.Proofs.YtanjcbnkkhbkkaaDoor.Bd Go.Proofs.YtanjcbnkkhbkkaaDoor.Qn

theorem turned_errc (r s h m : Int) (ga : Option Addr) (gc : Nat) (gz : List Int) (O P A : Option Addr) (oc pc lc : Nat) (B S : List (List Int)) (lz : List Int) (most : Int) (fn : Nat) (w : World) (I : Inp w ga gz O P B S) (hll : lz.length ≤ 1000) (rl : RdA w A lz) (hm0 : 0 ≤ most) (hm1 : most ≤ 1099511627776) (c : Int) (hc : c ≠ 0) (hae : AE r s h m gz B S lz most c) :
    Calls Tryd.prog 53 #[.int .i64 r, .agg #[.int .u8 s, .int .u8 h, .int .i64 m, .slice ga gz.length gc], .slice O B.length oc, .slice P S.length pc, .slice A lz.length lc, .int .i64 most, .func (.func fn) #[] #[]] w fun e w' => e = .returned (.tuple #[.slice none 0 0, .int .i64 c]) ∧ Below w.heap.size w w' := by
  have gl := I.gl
  have bl := I.bl
  have sl := I.sl
  obtain ⟨q, hq, ⟨h1, rfl⟩ | ⟨rfl, hT⟩⟩ := hae
  · exact turned_e1 r s h m ga gc gz O P A oc pc lc B S lz most fn w (by omega) (by omega) (by omega) I.br I.sr (by omega) I.hg I.rB I.rS rl c hq hc
  · rcases hT with ⟨hl, rfl⟩ | ⟨hl, hx, rfl⟩ | ⟨_, _, h0⟩
    · exact turned_e2 r s h m ga gc gz O P A oc pc lc B S lz most fn w (by omega) (by omega) (by omega) I.br I.sr (by omega) I.hg I.rB I.rS rl 0 hq rfl hl
    · obtain ⟨j, hj, hx⟩ : ∃ j : Nat, j < 256 ∧ ¬ (-most ≤ lz.getD j 0 ∧ lz.getD j 0 ≤ most) := Classical.byContradiction fun hn => hx (fun j hj => Classical.byContradiction fun hx => hn ⟨j, hj, hx⟩)
      exact turned_e3 r s h m ga gc gz O P A oc pc lc B S lz most fn w (by omega) (by omega) (by omega) I.br I.sr (by omega) I.hg I.rB I.rS rl 0 hq rfl hl hm0 hm1 ⟨j, by omega, hj, hx⟩
    · exact absurd h0 hc
/-- A row that may be written to. -/
def Wr (x : World) (base n : Nat) (A : Option Addr) : Prop := ∀ j, j < n → ∃ g z, A = some ⟨g, 0, none⟩ ∧ base ≤ g ∧ x.frozen? ⟨g, j, none⟩ = false ∧ x.cell? ⟨g, j, none⟩ = some (.int .i64 z)
theorem Wr.set {w : World} {base n : Nat} {g : Nat} {k : Nat} {z : Int} (h : Wr w base n (some ⟨g, 0, none⟩)) (hk : k < n) : Wr (w.setCell ⟨g, k, none⟩ (.int .i64 z)) base n (some ⟨g, 0, none⟩) := fun j hj => by
  obtain ⟨g', z', e, h1, h3, h4⟩ := h j hj
  simp only [Option.some.injEq, Addr.mk.injEq, and_true] at e
  subst e
  by_cases hjk : j = k
  · subst hjk
    exact ⟨g, z, rfl, h1, by simpa using h3, by simp [go_sem, h4]⟩
  · refine ⟨g, z', rfl, h1, by simpa using h3, ?_⟩
    have hne : (⟨g, k, none⟩ : Addr) ≠ ⟨g, j, none⟩ := by simp only [ne_eq, Addr.mk.injEq]; omega
    simp only [World.cell?_setCell_other (h := hne)]
    exact h4
theorem Wr.other {w : World} {base n : Nat} {A : Option Addr} {b k : Nat} {v : Value} (h : Wr w base n A) (hb : ∀ j, j < n → ∀ g, A = some ⟨g, 0, none⟩ → g ≠ b) : Wr (w.setCell ⟨b, k, none⟩ v) base n A := fun j hj => by
  obtain ⟨g, z, e, h1, h3, h4⟩ := h j hj
  have hne := hb j hj g e
  have hne : (⟨b, k, none⟩ : Addr) ≠ ⟨g, j, none⟩ := by simp only [ne_eq, Addr.mk.injEq]; omega
  refine ⟨g, z, e, h1, by simpa using h3, ?_⟩
  simp only [World.cell?_setCell_other (h := hne)]
  exact h4
theorem Wr.below {w x : World} {base n : Nat} {A : Option Addr} (h : Wr w base n A) (hb : Below w.heap.size w x) : Wr x base n A := fun j hj => by
  obtain ⟨g, z, e, h1, h3, h4⟩ := h j hj
  have hl := cell_in' h4
  exact ⟨g, z, e, h1, (hb.frozen (p := ⟨g, j, none⟩) hl).trans h3, (hb.cell (p := ⟨g, j, none⟩) hl).trans h4⟩
theorem rda_nil (W : World) (A : Option Addr) : RdA W A [] := fun i hi => by simp at hi
theorem own_rdA {base : Nat} {w : World} {v : Value} {zs : List Int} (h : Bd.Own base w v zs) : ∃ A c, v = .slice A zs.length c ∧ RdA w A zs := (RowV.of_own h).rd
theorem ae_ex (r s h m : Int) (gz : List Int) (B S : List (List Int)) (lz : List Int) (most : Int) : ∃ c, AE r s h m gz B S lz most c ∧ (c = 0 → Fine r s h m gz B S lz most) := by
  obtain ⟨q, hq⟩ := qe_ex r s h m gz B S
  by_cases h0 : q = 0
  · subst h0
    by_cases hl : lz.length = 256
    · by_cases hi : inr most lz
      · exact ⟨0, ⟨0, hq, .inr ⟨rfl, .inr (.inr ⟨hl, hi, rfl⟩)⟩⟩, fun _ => ⟨hq, hl, hi⟩⟩
      · exact ⟨2, ⟨0, hq, .inr ⟨rfl, .inr (.inl ⟨hl, hi, rfl⟩)⟩⟩, fun e => absurd e (by decide)⟩
    · exact ⟨4, ⟨0, hq, .inr ⟨rfl, .inl ⟨hl, rfl⟩⟩⟩, fun e => absurd e (by decide)⟩
  · exact ⟨q, ⟨q, hq, .inl ⟨h0, rfl⟩⟩, fun e => absurd e h0⟩
theorem rowIs_parts {W : World} {g : Nat} {F : Nat → Int} (h : W.rowIs g 3 256 (fun j => .int .i64 (F j))) {base : Nat} (hg : base ≤ g) : RdA W (some ⟨g, 0, none⟩) (mkq F) ∧ Wr W base (mkq F).length (some ⟨g, 0, none⟩) :=
  ⟨rda_row h, fun j hj => ⟨g, F j, rfl, hg, h.frozen j, h.cell (by rw [mkq_len] at hj; exact hj)⟩⟩
theorem lines_errc (r s h m : Int) (ga : Option Addr) (gc : Nat) (gz : List Int) (O P A : Option Addr) (oc pc lc : Nat) (B S : List (List Int)) (lz : List Int) (w : World) (I : Inp w ga gz O P B S) (hll : lz.length ≤ 1000) (rl : RdA w A lz) (c : Int) (hc : c ≠ 0) (hae : AE r s h m gz B S lz 8191 c) :
    Calls Tryd.prog 31 #[.int .i64 r, .agg #[.int .u8 s, .int .u8 h, .int .i64 m, .slice ga gz.length gc], .slice O B.length oc, .slice P S.length pc, .slice A lz.length lc] w fun e w' => e = .returned (.tuple #[.slice none 0 0, .int .i64 c]) ∧ Below w.heap.size w w' := by
  have HB := Lib.hid (box_below w (.cells #[.int .u8 s, .int .u8 h, .int .i64 m, .slice ga gz.length gc] 50))
  obtain ⟨y0, y1, y2, y3⟩ := boxed w s h m (.slice ga gz.length gc) _ (Below.refl _ _)
  have HT := Lib.hid (turned_errc r s h m ga gc gz O P A oc pc lc B S lz 8191 17 _ (I.below HB.out) hll (rl.below HB.out) (by decide) (by decide) c hc hae)
  clear I rl hll hae
  go_enter Tryd.func31, Tryd.ntmps31
  go_wp2_with (go_at_call 53; ((with_reducible refine (HT.out).mono ?_); rintro e w1 ⟨rfl, hb⟩))
  go_ret2
  exact ⟨rfl, belowT HB.out hb⟩
theorem lines_both (r s h m : Int) (ga : Option Addr) (gc : Nat) (gz : List Int) (B S : List (List Int)) (lz : List Int) (hll : lz.length ≤ 1000) : ∃ (us : List Int) (E : Int), us.length ≤ 256 ∧
    (∀ W O P A oc pc lc, Fx.Qs W → Inp W ga gz O P B S → RdA W A lz → Calls Tryd.prog 31 #[.int .i64 r, .agg #[.int .u8 s, .int .u8 h, .int .i64 m, .slice ga gz.length gc], .slice O B.length oc, .slice P S.length pc, .slice A lz.length lc] W fun e W' => ∃ A' c', e = .returned (.tuple #[.slice A' us.length c', .int .i64 E]) ∧ RdA W' A' us ∧ Wr W' W.heap.size us.length A' ∧ Below W.heap.size W W') ∧
    (∀ W O P A oc pc lc, Inp W ga gz O P B S → RdA W A lz → Calls Tryd.prog 32 #[.int .i64 r, .agg #[.int .u8 s, .int .u8 h, .int .i64 m, .slice ga gz.length gc], .slice O B.length oc, .slice P S.length pc, .slice A lz.length lc] W fun e W' => ∃ A' c', e = .returned (.tuple #[.slice A' us.length c', .int .i64 E]) ∧ RdA W' A' us ∧ Below W.heap.size W W') := by
  obtain ⟨c, hae, hf⟩ := ae_ex r s h m gz B S lz 8191
  by_cases hc : c = 0
  · have hF := hf hc
    refine ⟨mkq (QV r s m gz B S lz Fx.FL), 0, by rw [mkq_len]; exact Nat.le_refl _, fun W O P A oc pc lc hq I rl => ?_, fun W O P A oc pc lc I rl => ?_⟩
    · refine (lines_good r s h m ga gc gz O P A oc pc lc B S lz W hq I rl hF).mono ?_
      rintro e W' ⟨g, rfl, hr, hg, hb⟩
      obtain ⟨h1, h2⟩ := rowIs_parts hr hg
      exact ⟨_, 256, by rw [mkq_len], h1, h2, hb⟩
    · refine (rlines_ok r s h m ga gc gz O P A oc pc lc B S lz W I rl hF).mono ?_
      rintro e W' ⟨g, rfl, hr, hg, hb⟩
      obtain ⟨h1, h2⟩ := rowIs_parts hr hg
      exact ⟨_, 256, by rw [mkq_len], h1, hb⟩
  · refine ⟨[], c, by simp, fun W O P A oc pc lc hq I rl => ?_, fun W O P A oc pc lc I rl => ?_⟩
    · refine (lines_errc r s h m ga gc gz O P A oc pc lc B S lz W I hll rl c hc hae).mono ?_
      rintro e W' ⟨rfl, hb⟩
      exact ⟨none, 0, rfl, rda_nil _ _, fun j hj => by simp at hj, hb⟩
    · refine (rlines_err r s h m ga gc gz O P A oc pc lc B S lz W I hll rl c hc hae).mono ?_
      rintro e W' ⟨rfl, hb⟩
      exact ⟨none, 0, rfl, rda_nil _ _, hb⟩
theorem quant_errc (r s h m : Int) (ga : Option Addr) (gc : Nat) (gz : List Int) (O P A : Option Addr) (oc pc lc : Nat) (B S : List (List Int)) (lz : List Int) (w : World) (I : Inp w ga gz O P B S) (hll : lz.length ≤ 1000) (rl : RdA w A lz) (c : Int) (hc : c ≠ 0) (hae : AE r s h m gz B S lz 268435455 c) :
    Calls Tryd.prog 33 #[.int .i64 r, .agg #[.int .u8 s, .int .u8 h, .int .i64 m, .slice ga gz.length gc], .slice O B.length oc, .slice P S.length pc, .slice A lz.length lc] w fun e w' => e = .returned (.tuple #[.slice none 0 0, .int .i64 c]) ∧ Below w.heap.size w w' := by
  have HB := Lib.hid (box_below w (.cells #[.int .u8 s, .int .u8 h, .int .i64 m, .slice ga gz.length gc] 50))
  obtain ⟨y0, y1, y2, y3⟩ := boxed w s h m (.slice ga gz.length gc) _ (Below.refl _ _)
  have HT := Lib.hid (turned_errc r s h m ga gc gz O P A oc pc lc B S lz 268435455 19 _ (I.below HB.out) hll (rl.below HB.out) (by decide) (by decide) c hc hae)
  clear I rl hll hae
  go_enter Tryd.func33, Tryd.ntmps33
  go_wp2_with (go_at_call 53; ((with_reducible refine (HT.out).mono ?_); rintro e w1 ⟨rfl, hb⟩))
  go_ret2
  exact ⟨rfl, belowT HB.out hb⟩
theorem quant_both (r s h m : Int) (ga : Option Addr) (gc : Nat) (gz : List Int) (B S : List (List Int)) (lz : List Int) (hll : lz.length ≤ 1000) : ∃ (us : List Int) (E : Int), us.length ≤ 256 ∧
    (∀ W O P A oc pc lc, Fx.Qs W → Inp W ga gz O P B S → RdA W A lz → Calls Tryd.prog 33 #[.int .i64 r, .agg #[.int .u8 s, .int .u8 h, .int .i64 m, .slice ga gz.length gc], .slice O B.length oc, .slice P S.length pc, .slice A lz.length lc] W fun e W' => ∃ A' c', e = .returned (.tuple #[.slice A' us.length c', .int .i64 E]) ∧ RdA W' A' us ∧ Wr W' W.heap.size us.length A' ∧ Below W.heap.size W W') ∧
    (∀ W O P A oc pc lc, Inp W ga gz O P B S → RdA W A lz → Calls Tryd.prog 34 #[.int .i64 r, .agg #[.int .u8 s, .int .u8 h, .int .i64 m, .slice ga gz.length gc], .slice O B.length oc, .slice P S.length pc, .slice A lz.length lc] W fun e W' => ∃ A' c', e = .returned (.tuple #[.slice A' us.length c', .int .i64 E]) ∧ RdA W' A' us ∧ Below W.heap.size W W') := by
  obtain ⟨c, hae, hf⟩ := ae_ex r s h m gz B S lz 268435455
  by_cases hc : c = 0
  · have hF := hf hc
    refine ⟨mkq (QV r s m gz B S lz Fx.FQ), 0, by rw [mkq_len]; exact Nat.le_refl _, fun W O P A oc pc lc hq I rl => ?_, fun W O P A oc pc lc I rl => ?_⟩
    · refine (quant_good r s h m ga gc gz O P A oc pc lc B S lz W hq I rl hF).mono ?_
      rintro e W' ⟨g, rfl, hr, hg, hb⟩
      obtain ⟨h1, h2⟩ := rowIs_parts hr hg
      exact ⟨_, 256, by rw [mkq_len], h1, h2, hb⟩
    · refine (rquant_ok r s h m ga gc gz O P A oc pc lc B S lz W I rl hF).mono ?_
      rintro e W' ⟨g, rfl, hr, hg, hb⟩
      obtain ⟨h1, h2⟩ := rowIs_parts hr hg
      exact ⟨_, 256, by rw [mkq_len], h1, hb⟩
  · refine ⟨[], c, by simp, fun W O P A oc pc lc hq I rl => ?_, fun W O P A oc pc lc I rl => ?_⟩
    · refine (quant_errc r s h m ga gc gz O P A oc pc lc B S lz W I hll rl c hc hae).mono ?_
      rintro e W' ⟨rfl, hb⟩
      exact ⟨none, 0, rfl, rda_nil _ _, fun j hj => by simp at hj, hb⟩
    · refine (rquant_err r s h m ga gc gz O P A oc pc lc B S lz W I hll rl c hc hae).mono ?_
      rintro e W' ⟨rfl, hb⟩
      exact ⟨none, 0, rfl, rda_nil _ _, hb⟩

/-! ### Lists of lists that come in, with their sizes -/
section
open Go.Ev Go.Deep
variable {H : Type} {enc : TypeId × Value → H} {P : Program} {W : World}
theorem weights_all {e : TypeId} : ∀ {l : List (DataW H)} {d : DataW H}, d ∈ l → ∀ n ∈ d.weights P e, n ∈ DataW.weightsAll P e l
  | x :: xs, d, hd, n, hn => by
    simp only [DataW.weightsAll, List.mem_append]
    rcases List.mem_cons.1 hd with rfl | h
    · exact .inl hn
    · exact .inr (weights_all h n hn)
  | [], d, hd, _, _ => by cases hd
theorem open_rows_sz {t e q : TypeId} {a : Option Addr} {len cap : Nat} {d : DataW H} {p : List MemPlace} (ht : P.underlying t = some (.slice e)) (he : P.underlying e = some (.slice q)) (hq : P.underlying q = some (.int .i64))
    (ce : P.cellsOf e = 1) (cq : P.cellsOf q = 1) (bq : P.bytesOf q = 8) (hw : ∀ n ∈ d.weights P t, n ≤ reachBytes) (h : DataW.Trod enc P W 0 (fun _ => true) true t (.slice a len cap) d p) : ∃ z, Rws W a len cap z ∧ Szd z := by
  obtain ⟨fuel, hf⟩ := h
  rcases open_int_rows ht he hq ce cq hf with ⟨hcs, _⟩ | ⟨a', l', c', A, L, C, Z, hcs, _, hl, hm, hd, hx⟩
  · simp [Value.cells] at hcs
    obtain ⟨rfl, rfl, rfl⟩ := hcs
    exact ⟨[], ⟨rfl, fun i hi => by simp at hi, fun i hi => by simp at hi, Nat.zero_le _⟩, fun i hi => by simp at hi⟩
  · simp [Value.cells] at hcs
    obtain ⟨rfl, rfl, rfl⟩ := hcs
    simp only [Prod.mk.injEq] at hd
    obtain ⟨rfl, _⟩ := hd
    refine ⟨(List.range len).map fun r => (Z r).take (L r), ⟨by simp, fun i hi => ?_, fun i hi => ?_, by omega⟩, fun i hi => ?_⟩
    · have hi' : i < len := by simpa using hi
      obtain ⟨x0, x1, x2, x3, _, x5, x6⟩ := hx i (by omega)
      have e : ((List.range len).map fun r => (Z r).take (L r)).getD i [] = (Z i).take (L i) := by simp [hi']
      rw [e]
      have el : ((Z i).take (L i)).length = L i := by simp; omega
      obtain ⟨b, off, sub⟩ := a'
      have hs : sub = none := by simpa [Addr.add] using World.cell?_spot (hx 0 (by omega)).1
      subst hs
      rw [Go.WideShapes.add_plain] at x0
      refine ⟨b, off, A i, C i, rfl, cell_in' x0, by rw [el]; exact x0, rda_of x3 x5 (fun a' ha => (x6 a' ha).2) _ x1⟩
    · have hi' : i < len := by simpa using hi
      obtain ⟨x0, x1, x2, x3, _⟩ := hx i (by omega)
      have e : ((List.range len).map fun r => (Z r).take (L r)).getD i [] = (Z i).take (L i) := by simp [hi']
      rw [e]
      simp; omega
    · have hi' : i < len := by simpa using hi
      obtain ⟨x0, x1, x2, x3, _, x5, x6⟩ := hx i (by omega)
      have e : ((List.range len).map fun r => (Z r).take (L r)).getD i [] = (Z i).take (L i) := by simp [hi']
      rw [e]
      have el : ((Z i).take (L i)).length = L i := by simp; omega
      rw [el]
      cases hA : A i with
      | none => have := x5 hA; omega
      | some a9 =>
        have hmem : intRow .i64 (A i) (L i) (Z i) ∈ (List.range len).map fun r => intRow (H := H) .i64 (A r) (L r) (Z r) := List.mem_map.2 ⟨i, List.mem_range.2 hi', rfl⟩
        have h2 := hw (C i * 8) (by
          simp only [DataW.weights, ht, List.mem_cons, List.mem_append]
          refine .inr (.inl (weights_all hmem _ ?_))
          rw [hA]
          simp only [intRow, DataW.weights, he, bq, List.mem_cons]
          refine .inl ?_
          simp only [lits, List.length_map, List.length_take, List.length_drop]
          omega)
        have h3 := reachBytes_lt
        omega
end
end Go.Proofs.YtanjcbnkkhbkkaaDoor.Qd
