/- Lists that the answer joins: one behind another, backward, of one value, under a window. -/
import Derived.Test.YteknakakefhbmaaBlAl
import Derived.Test.YteknakakefhbmaaCpy
import Derived.Test.YteknakakefhbmaaMdRef
import Derived.Test.YteknakakefhbmaaWinRef
import Derived.Deep.RegionHeld3
import Derived.WalkKit
import Derived.Below
import Derived.RegionTactic
import Derived.Deep.QuietTactic
import Derived.BigQuiet
import Derived.ChangeAlike
import Derived.Deep.OwnRows
import Derived.Deep.RegionLaw
import Derived.ProofKit
import Derived.OpenShut
import Derived.ChangeSlices
import Derived.Lib.Hide
import Derived.Great.Walk
import Derived.ChangeKeysEq
import Derived.ChangeOld
import Derived.ShutString
namespace Go.Proofs.Yteknakakefhbmaa.Rf
open Go Go.ChangeShapes Go.WideShapes Go.ChangeAt Go.RowKit Go.Proofs.Yteknakakefhbmaa.Fx Go.Proofs.Yteknakakefhbmaa.Rk Go.Proofs.Yteknakakefhbmaa.Mm Go.Proofs.Yteknakakefhbmaa.Md Go.Proofs.Yteknakakefhbmaa.Bl Go.Proofs.Yteknakakefhbmaa.Cpy

/-- A list behind a list. -/
theorem run_app (w : World) (base : Nat) (ty : TypeId) (L xs : List Int) (v : Value) (A : Option Addr) (m c : Nat) (ow : Fx.Own base w v L) (hm : xs.length = m) (h0 : 0 < m) (rd : RdA w A xs) (hle : base ≤ w.heap.size) (hsz : L.length + m ≤ 100000) :
    ∃ v' w', (Builtin.append_ #[22, 22] ty #[v, .slice A m c]).run Try.prog w = .ok v' w' ∧ Fx.Own base w' v' (L ++ xs) ∧ Below base w w' := by
  obtain ⟨i0, hi, hz0, hz1, hz2⟩ := info_parts Md.info3
  subst hm
  obtain ⟨b, off, rfl, hb, _⟩ := rd 0 h0
  obtain ⟨v', w', hr, h2, h3, _⟩ := run_append_own (P := Try.prog) w base 22 ty 3 i0 (.int .i64 0) 1 8 Try.underlying22 hi hz0 hz1 hz2 rfl (by decide) v L.length _ ow ⟨b, off, none⟩ xs.length c (xs.map (Value.int .i64)) (by simp) (cells_of rd) (one64 _) (by unfold maxLen; omega) (by omega) hle
  refine ⟨v', w', hr, ?_, (Below.refl base w).grown h3 hle (fun k hk => (ow.lt k hk).1)⟩
  unfold Fx.Own
  rw [List.length_append, List.map_append]
  exact h2
theorem wp_app {o : Oper} {a : Act} {K : Act → World → Prop} {Q : Exit → Act → World → Prop} (w : World) (s x : Operand) (ho : o.op = .call { callee := .builtin .append, args := #[s, x], argTypes := #[22, 22] })
    (base : Nat) (L xs : List Int) (v : Value) (A : Option Addr) (m c : Nat) (hs : a.eval s = v) (ow : Fx.Own base w v L) (hx : a.eval x = .slice A m c) (hm : xs.length = m) (h0 : 0 < m) (rd : RdA w A xs) (hle : base ≤ w.heap.size) (hsz : L.length + m ≤ 100000)
    (h : ∀ v' w', Fx.Own base w' v' (L ++ xs) → Below base w w' → K (a.put o.dst v') w') : o.wp Try.prog a w K Q := by
  obtain ⟨v', w', hr, h2, h3⟩ := run_app w base o.type L xs v A m c ow hm h0 rd hle hsz
  unfold Oper.wp execOp
  simp only [ho, resolve, invoke, builtin, Sem.run_bind, Sem.run_pure, Result.andThen_ok, List.map_toArray, List.map_cons, List.map_nil, hs, hx, hr]
  exact h v' w' h2 h3
theorem app_row (w : World) {ops : Array Oper} {rest : List Oper} {o : Oper} {a : Act} {Q : Exit → Act → World → Prop} (hgd : o.guard = none) (s x : Operand) (ho : o.op = .call { callee := .builtin .append, args := #[s, x], argTypes := #[22, 22] })
    (base : Nat) (L xs : List Int) (v : Value) (A : Option Addr) (m c : Nat) (hs : a.eval s = v) (ow : Fx.Own base w v L) (hx : a.eval x = .slice A m c) (hm : xs.length = m) (h0 : 0 < m) (rd : RdA w A xs) (hle : base ≤ w.heap.size) (hsz : L.length + m ≤ 100000)
    (h : ∀ v' w', Fx.Own base w' v' (L ++ xs) → Below base w w' → wpList Try.prog ops Q rest (a.put o.dst v') w') : wpList Try.prog ops Q (o :: rest) a w :=
  wpList_plain hgd fun _ hK => wp_app w s x ho base L xs v A m c hs ow hx hm h0 rd hle hsz fun v' w' h2 h3 => hK _ _ (h v' w' h2 h3)
theorem step_app (w : World) {ops : Array Oper} {o : Oper} {a : Act} {K : Act → World → Prop} {Q : Exit → Act → World → Prop} {E : Prop} (hgd : o.guard = none) (s x : Operand) (ho : o.op = .call { callee := .builtin .append, args := #[s, x], argTypes := #[22, 22] })
    (base : Nat) (L xs : List Int) (v : Value) (A : Option Addr) (m c : Nat) (hs : a.eval s = v) (ow : Fx.Own base w v L) (hx : a.eval x = .slice A m c) (hm : xs.length = m) (h0 : 0 < m) (rd : RdA w A xs) (hle : base ≤ w.heap.size) (hsz : L.length + m ≤ 100000)
    (h : ∀ v' w', Fx.Own base w' v' (L ++ xs) → Below base w w' → K (a.put o.dst v') w') : if Region.wanted o (yielded ops a.tmps) = true then Oper.wp Try.prog o a w K Q else E := by
  rw [if_pos (by simp [Region.wanted, hgd])]
  exact wp_app w s x ho base L xs v A m c hs ow hx hm h0 rd hle hsz h
theorem one_rd (w : World) (x : Int) : RdA (w.alloc (.cells #[.int .i64 x] 3)) (some ⟨w.heap.size, 0, none⟩) [x] := lit_rd w [x] 3
theorem own_alloc {base : Nat} {w : World} {v : Value} {L : List Int} (h : Fx.Own base w v L) (o : Obj) : Fx.Own base (w.alloc o) v L := World.ownsRow.alloc h o
/-! ### A list backward -/
def bkw (L : List Int) (n k : Nat) : List Int := mk k (fun j => L.getD (n - 1 - j) 0)
theorem bkw_succ (L : List Int) (n k : Nat) : bkw L n (k + 1) = bkw L n k ++ [L.getD (n - 1 - k) 0] := mk_succ _ _
set_option maxRecDepth 100000 in
set_option maxHeartbeats 2000000 in
theorem back_ok (A : Option Addr) (cap n : Nat) (L : List Int) (w : World) (hl : L.length = n) (hn : n ≤ 1000) (rd : RdA w A L) :
    Calls Try.prog 55 #[.slice A n cap] w fun e w' => ∃ v, e = .returned v ∧ Fx.Own w.heap.size w' v (bkw L n n) ∧ Below w.heap.size w w' := by
  have hnil := Lib.hid (own_nil w w.heap.size)
  have HL := Lib.hid hl
  have HR := Lib.hid rd
  clear hl rd
  go_enter Try.func55, Try.ntmps55
  go_wp2
  go_loopw [3, 4] (fun v i wr => ∃ k : Nat, k ≤ n ∧ i = .int .i64 ((n : Int) - 1 - (k : Int)) ∧ Hid (Fx.Own w.heap.size wr v (bkw L n k)) ∧ Hid (Below w.heap.size w wr)) (fun _ i _ => (intOf i + 1).toNat)
  case atStart => exact ⟨0, by omega, by simp, hnil, Lib.hid (Below.refl _ _)⟩
  case round =>
    obtain ⟨k, hk, rfl, ho, hB⟩ := hrel
    by_cases hlt : k < n
    · obtain ⟨i, hi⟩ : ∃ i : Nat, i + k + 1 = n := ⟨n - 1 - k, by omega⟩
      obtain ⟨b, off, rfl, lb, q0⟩ := HR.out i (by rw [HL.out]; omega)
      have q1 := (hB.out.cell (p := ⟨b, off + i, none⟩) lb).trans q0
      have hs := Lib.hid (bkw_succ L n k)
      have e1 : (n : Int) - 1 - (k : Int) = (i : Int) := by omega
      have hii := Lib.hid hi
      rw [show n - 1 - k = i by omega] at hs
      generalize hX : L.getD i 0 = X at *
      rw [e1]
      have i1 : (i : Int) < (n : Int) := by omega
      have he1 := Lib.hid e1
      clear e1 hi hX q0
      go_wp2_with (at_builtin; refine app_row _ rfl (.tmp 12) (.tmp 17) rfl w.heap.size (bkw L n k) [X] _ (some ⟨wr.heap.size, 0, none⟩) 1 1 rfl (own_alloc ho.out _) rfl rfl (by decide) (one_rd _ _) (by have := hB.out.size; simp; omega) (by simp [bkw, mk_len]; omega) ?_; intro v2 w2 ho2 hb2; have O2 := Lib.hid ho2; have B2 := Lib.hid ((hB.out.alloc hB.out.size _).trans hb2); clear ho2 hb2)
      go_roundw
      case rel => exact ⟨k + 1, by omega, congrArg (Value.int .i64) (by have := hii.out; omega), by rw [hs.out]; exact O2, B2⟩
      case measure => first | (simp [intOf]; done) | (simp [intOf]; omega)
    · have hkn : k = n := by omega
      have h2 : ¬ (0 : Int) ≤ (n : Int) - 1 - (k : Int) := by omega
      have O2 := Lib.hid (hkn ▸ ho.out)
      have B2 := hB
      clear ho hB hkn
      go_wp2
      go_ret
      exact ⟨_, rfl, O2.out, B2.out⟩
/-! ### So many of one value -/
set_option maxRecDepth 100000 in
set_option maxHeartbeats 2000000 in
theorem same_ok (x : Int) (n : Nat) (w : World) (hn : n ≤ 1000) :
    Calls Try.prog 53 #[.int .i64 x, .int .i64 n] w fun e w' => ∃ v, e = .returned v ∧ Fx.Own w.heap.size w' v (mk n (fun _ => x)) ∧ Below w.heap.size w w' := by
  have hnil := Lib.hid (own_nil w w.heap.size)
  go_enter Try.func53, Try.ntmps53
  go_wp2
  go_loopw [5, 6] (fun v i wr => ∃ k : Nat, k ≤ n ∧ i = .int .i64 k ∧ Hid (Fx.Own w.heap.size wr v (mk k (fun _ => x))) ∧ Hid (Below w.heap.size w wr)) (fun _ i _ => n - (intOf i).toNat)
  case atStart => exact ⟨0, by omega, rfl, hnil, Lib.hid (Below.refl _ _)⟩
  case round =>
    obtain ⟨k, hk, rfl, ho, hB⟩ := hrel
    by_cases hlt : k < n
    · have hs := Lib.hid (mk_succ k (fun _ => x))
      have i1 : (k : Int) < (n : Int) := by omega
      go_wp2_with (at_builtin; refine app_row _ rfl (.tmp 12) (.tmp 14) rfl w.heap.size (mk k (fun _ => x)) [x] _ (some ⟨wr.heap.size, 0, none⟩) 1 1 rfl (own_alloc ho.out _) rfl rfl (by decide) (one_rd _ _) (by have := hB.out.size; simp; omega) (by simp [mk_len]; omega) ?_; intro v2 w2 ho2 hb2; have O2 := Lib.hid ho2; have B2 := Lib.hid ((hB.out.alloc hB.out.size _).trans hb2); clear ho2 hb2)
      go_roundw
      case rel => exact ⟨k + 1, by omega, by go_num, by rw [hs.out]; exact O2, B2⟩
      case measure => simp [intOf]; omega
    · have hkn : k = n := by omega
      have h2 : ¬ (k : Int) < (n : Int) := by omega
      have O2 := Lib.hid (hkn ▸ ho.out)
      have B2 := hB
      clear ho hB hkn
      go_wp2
      go_ret
      exact ⟨_, rfl, O2.out, B2.out⟩
end Go.Proofs.Yteknakakefhbmaa.Rf
