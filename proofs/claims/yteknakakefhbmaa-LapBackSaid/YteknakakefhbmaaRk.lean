/- Rows of a call's own: what append, append of noughts, and copy do to them. -/
import Derived.Test.YteknakakefhbmaaLst
import Derived.WalkKit
import Derived.Below
import Derived.Laws.AppendOwn
import Derived.Laws.CopyOwn
import Derived.Deep.OwnRows
import Derived.Lib.Hide
namespace Go.Proofs.Yteknakakefhbmaa.Rk
open Go Go.ChangeShapes Go.WideShapes Go.ChangeAt Go.RowKit Go.Proofs.Yteknakakefhbmaa.Fx
variable {P : Program}

/-- A list written over a row from a place on. -/
def spl (off : Nat) (zs : List Int) (F : Nat → Int) (j : Nat) : Int := if off ≤ j ∧ j < off + zs.length then zs.getD (j - off) 0 else F j
theorem splice_row {w : World} {g t N off : Nat} {F : Nat → Int} {zs : List Int} {cur : Array Value} (r : w.rowIs g t N (fun j => .int .i64 (F j))) (hg : w.heap[g]? = some (.cells cur t (0, 0))) (hfit : off + zs.length ≤ N) :
    (w.setRow g (cur.toList.take off ++ (zs.map (Value.int .i64) ++ cur.toList.drop (off + zs.length))).toArray).rowIs g t N (fun j => .int .i64 (spl off zs F j)) ∧
    Below g w (w.setRow g (cur.toList.take off ++ (zs.map (Value.int .i64) ++ cur.toList.drop (off + zs.length))).toArray) := by
  obtain ⟨c, hc, hn, hv⟩ := r
  obtain rfl : cur = c := by rw [hg] at hc; simpa using hc
  refine ⟨⟨_, setRow_heap _ _ _ _ _ _ hg, ?_, fun i hi => ?_⟩, ⟨rfl, rfl, rfl, by simp [World.setRow], fun k hk => setRow_other _ _ _ _ (by omega)⟩⟩
  · simp; omega
  · have h0 := hv i hi
    have hl : cur.toList.length = N := by simpa using hn
    unfold spl
    dsimp only
    dsimp only at h0
    rw [List.getElem?_toArray]
    by_cases h1 : i < off
    · rw [List.getElem?_append_left (by simp; omega), List.getElem?_take, if_pos h1, if_neg (by omega)]
      simpa using h0
    · rw [List.getElem?_append_right (by simp; omega)]
      have e : (cur.toList.take off).length = off := by simp; omega
      rw [e]
      by_cases h2 : i < off + zs.length
      · rw [List.getElem?_append_left (by simp; omega), if_pos ⟨by omega, h2⟩]
        simp [show i - off < zs.length by omega]
      · rw [List.getElem?_append_right (by simp; omega), if_neg (by omega), List.getElem?_drop]
        simp only [List.length_map]
        rw [show off + zs.length + (i - off - zs.length) = i by omega]
        simpa using h0
/-- An append that fits into a row of the call's own. -/
theorem wpList_app_row (w : World) {ops : Array Oper} {rest : List Oper} {o : Oper} {a : Act} {Q : Exit → Act → World → Prop}
    (hgd : o.guard = none) (s x : Operand) (t : TypeId) (ho : o.op = Op.call { callee := Callee.builtin Builtin.append, args := #[s, x], argTypes := #[t, t] })
    (e : TypeId) (i : TypeInfo) (h1 : P.underlying t = some (.slice e)) (h2 : P.info? e = some i) (h4 : i.size = 1)
    (g k N c : Nat) (F : Nat → Int) (A : Option Addr) (zs : List Int) (hs : a.eval s = .slice (some ⟨g, 0, none⟩) k N) (r : w.rowIs g e N (fun j => .int .i64 (F j))) (m : Nat) (hm : zs.length = m) (hx : a.eval x = .slice A m c) (rd : RdA w A zs) (hz : 0 < m) (hfit : k + m ≤ N)
    (hK : ∀ w', w'.rowIs g e N (fun j => .int .i64 (spl k zs F j)) → Below g w w' → wpList P ops Q rest (a.put o.dst (.slice (some ⟨g, 0, none⟩) (k + m) N)) w') :
    wpList P ops Q (o :: rest) a w := by
  subst hm
  refine wpList_plain hgd fun K hK' => ?_
  obtain ⟨b, off, rfl, _, _⟩ := rd 0 hz
  obtain ⟨cur, hg, hn, _⟩ := id r
  have hrun := run_append_room (P := P) (w := w) t o.type e i h1 h2 g k N cur hg ⟨b, off, none⟩ zs.length c (zs.map (Value.int .i64)) (by rw [h4]; simp) (fun j u hu => by
    have hj : j < zs.length := by have := (List.getElem?_eq_some_iff.1 hu).1; simpa using this
    obtain ⟨b', off', e1, _, c1⟩ := rd j hj
    simp only [Option.some.injEq, Addr.mk.injEq, and_true] at e1
    obtain ⟨rfl, rfl⟩ := e1
    rw [add_at, c1]
    simpa [hj] using hu) (one64 _) hfit (by rw [h4]; simpa [hn] using hfit)
  have q := splice_row (zs := zs) (off := k) r hg hfit
  rw [h4, Nat.mul_one, List.length_map, List.append_assoc] at hrun
  unfold Oper.wp
  simp [execOp, ho, resolve, invoke, builtin, hs, hx, hrun, Result.andThen]
  have q1 := hK _ q.1 q.2
  exact hK' _ _ (by simpa using q1)
/-- An append of so many noughts that fits. -/
theorem wpList_app_zeros (w : World) {ops : Array Oper} {rest : List Oper} {o : Oper} {a : Act} {Q : Exit → Act → World → Prop}
    (hgd : o.guard = none) (s x : Operand) (t u : TypeId) (ho : o.op = Op.call { callee := Callee.builtin Builtin.append, args := #[s, x], argTypes := #[t, u] })
    (e : TypeId) (i : TypeInfo) (k0 : IntKind) (h1 : P.underlying t = some (.slice e)) (hu : P.underlying u = some (.int k0)) (h2 : P.info? e = some i) (h4 : i.size = 1) (hzr : ∀ w, (zeroValue e).run P w = .ok (.int .i64 0) w) (h5 : i.bytes = 8)
    (g k N m : Nat) (F : Nat → Int) (kx : IntKind) (hs : a.eval s = .slice (some ⟨g, 0, none⟩) k N) (r : w.rowIs g e N (fun j => .int .i64 (F j))) (hx : a.eval x = .int kx (m : Int)) (hm : 0 < m) (hm2 : m ≤ 1000000) (hfit : k + m ≤ N)
    (hK : ∀ w', w'.rowIs g e N (fun j => .int .i64 (spl k (List.replicate m 0) F j)) → Below g w w' → wpList P ops Q rest (a.put o.dst (.slice (some ⟨g, 0, none⟩) (k + m) N)) w') :
    wpList P ops Q (o :: rest) a w := by
  refine wpList_plain hgd fun K hK' => ?_
  obtain ⟨cur, hg, hn, _⟩ := id r
  have hst := run_storeCells_at P g (k * i.size) e ((List.replicate m (0 : Int)).map (Value.int .i64)) 0 cur w hg (by rw [h4]; simpa [hn] using hfit) (one64 _)
  simp only [Nat.add_zero] at hst
  have hzc : Builtin.zeroCells #[Value.int .i64 0] m = ((List.replicate m (0 : Int)).map (Value.int .i64)).toArray := by
    apply Array.ext'
    apply List.ext_getElem?
    intro j
    by_cases hj : j < m
    · simp [Builtin.zeroCells, hj, Nat.mod_one]
    · simp [Builtin.zeroCells, hj]
  have hrun : (Builtin.append_ #[t, u] o.type #[.slice (some ⟨g, 0, none⟩) k N, .int kx (m : Int)]).run P w = .ok (.slice (some ⟨g, 0, none⟩) (k + m) N) (w.setRow g (cur.toList.take k ++ ((List.replicate m (0 : Int)).map (Value.int .i64) ++ cur.toList.drop (k + m))).toArray) := by
    have hw : IntKind.i64.wrap (m : Int) = (m : Int) := by rw [IntKind.wrap_i64]; omega
    have c3 : ¬ ((m : Int) < 0) := by omega
    have c4 : ¬ (281474976710656 < (m : Int) * (8 : Int)) := by omega
    have c5 : ¬ m = 0 := by omega
    simp [Builtin.append_, asInt, asIntOf, run_underlying h1, run_underlying hu, sizeOf, typeInfo, h2, h4, h5, hw, hfit, c3, c4, c5, hzr, Addr.add_lit]
    rw [show (Value.int IntKind.i64 0).cells = #[Value.int IntKind.i64 0] from rfl, hzc]
    simp only [h4, Nat.mul_one, List.length_map, List.length_replicate] at hst
    rw [hst]
    simp [Result.andThen]
  have q := splice_row (zs := List.replicate m 0) (off := k) r hg (by simpa using hfit)
  rw [List.length_replicate] at q
  unfold Oper.wp
  simp [execOp, ho, resolve, invoke, builtin, hs, hx, hrun, Result.andThen]
  have q1 := hK _ q.1 q.2
  exact hK' _ _ (by simpa using q1)
/-- Room for so many numbers. -/
theorem wpList_make_room (w : World) {ops : Array Oper} {rest : List Oper} {o : Oper} {a : Act} {Q : Exit → Act → World → Prop}
    (hg : o.guard = none) (l c : Operand) (t : TypeId) (hop : o.op = Op.makeSlice t l c)
    (e : TypeId) (i : TypeInfo) (z : Value) (ht : P.underlying t = some (.slice e)) (hi : P.info? e = some i) (hz : i.zero = some z) (hsize : i.size = 1) (hz1 : z.cells = #[z])
    (kl kc : IntKind) (n : Nat) (hl : a.eval l = .int kl 0) (hc : a.eval c = .int kc (n : Int)) (hbytes : i.bytes * n ≤ 281474976710656) (h63 : n ≤ 9223372036854775807)
    (hK : wpList P ops Q rest (a.put o.dst (.slice (some ⟨w.heap.size, 0, none⟩) 0 n)) (w.alloc (.cells (madeCells #[z] n) e))) :
    wpList P ops Q (o :: rest) a w := by
  refine wpList_plain hg fun K hK' => ?_
  have hb' : (i.bytes : Int) * (n : Int) ≤ 281474976710656 := by
    have h : ((i.bytes * n : Nat) : Int) ≤ 281474976710656 := by omega
    rwa [Int.natCast_mul] at h
  have hrun := run_make (P := P) w t e i z ht hi hz kl kc 0 n (by omega) (by omega) hb' (by omega)
  simp only [Int.toNat_natCast, hsize, Nat.mul_one, hz1] at hrun
  unfold Oper.wp
  simp [execOp, hop, hl, hc, hrun, Result.andThen]
  exact hK' _ _ hK
theorem spl_row {w : World} {g t N off : Nat} {F : Nat → Int} {zs : List Int} {cur : List Value} {w' : World} (r : w.rowIs g t N (fun j => .int .i64 (F j))) (hg : w.heap[g]? = some (.cells cur.toArray t (0, 0))) (hfit : off + zs.length ≤ N)
    (h : w'.heap[g]? = some (.cells (splice cur off (zs.map (Value.int .i64))).toArray t (0, 0))) : w'.rowIs g t N (fun j => .int .i64 (spl off zs F j)) := by
  refine (splice_row (zs := zs) (off := off) r hg hfit).1.of_block ?_
  rw [h, setRow_heap _ _ _ _ _ _ hg]
  simp [splice]
theorem rd_cells {w : World} {A : Option Addr} {zs : List Int} (rd : RdA w A zs) {b off : Nat} (e : A = some ⟨b, off, none⟩) : ∀ j v, (zs.map (Value.int .i64))[j]? = some v → w.cell? ((⟨b, off, none⟩ : Addr).add j) = some v := fun j u hu => by
  have hj : j < zs.length := by have := (List.getElem?_eq_some_iff.1 hu).1; simpa using this
  obtain ⟨b', off', e1, _, c1⟩ := rd j hj
  rw [e] at e1
  simp only [Option.some.injEq, Addr.mk.injEq, and_true] at e1
  obtain ⟨rfl, rfl⟩ := e1
  rw [add_at, c1]
  simpa [hj] using hu
theorem step_copy_row {ops : Array Oper} {o : Oper} {a : Act} {w : World} {K : Act → World → Prop} {Q : Exit → Act → World → Prop} {E : Prop} (hgd : o.guard = none) (d s : Operand) (dT sT : TypeId)
    (ho : o.op = .call { callee := .builtin .copy, args := #[d, s], argTypes := #[dT, sT] }) (elem : TypeId) (hu : P.underlying dT = some (.slice elem)) (hsz : (P.info? elem).map (·.size) = some 1)
    (g off N : Nat) (F : Nat → Int) (A : Option Addr) (dLen dCap sLen sCap : Nat) (zs : List Int) (hd : a.eval d = .slice (some ⟨g, off, none⟩) dLen dCap) (hs : a.eval s = .slice A sLen sCap)
    (r : w.rowIs g elem N (fun j => .int .i64 (F j))) (hn : zs.length = Nat.min sLen dLen) (rd : RdA w A zs) (hfit : off + zs.length ≤ N)
    (h : ∀ w', w'.rowIs g elem N (fun j => .int .i64 (spl off zs F j)) → Below g w w' → K (a.put o.dst (goInt zs.length)) w') :
    if Region.wanted o (yielded ops a.tmps) = true then Oper.wp P o a w K Q else E := by
  obtain ⟨cur, hg, hN, _⟩ := id r
  refine step_copy_splice hgd d s dT sT ho elem hu hsz (some ⟨g, off, none⟩) A dLen dCap sLen sCap hd hs g off cur.toList elem (by simpa using hg) (zs.map (Value.int .i64)) (by simpa using hn) (fun hp => ⟨rfl, ?_⟩) (by simpa [hN] using hfit) (one64 _) g w (Below.refl _ _) (Nat.le_refl _) (fun w' h1 h2 => ?_)
  · obtain ⟨b, o', e, _, _⟩ := rd 0 (by simpa using hp)
    exact ⟨_, e, rd_cells rd e⟩
  · have := h w' (spl_row r (by simpa using hg) hfit h1) h2
    simpa using this
theorem wpList_copy_row {w : World} {ops : Array Oper} {rest : List Oper} {o : Oper} {a : Act} {Q : Exit → Act → World → Prop} (hgd : o.guard = none) (d s : Operand) (dT sT : TypeId)
    (ho : o.op = .call { callee := .builtin .copy, args := #[d, s], argTypes := #[dT, sT] }) (elem : TypeId) (hu : P.underlying dT = some (.slice elem)) (hsz : (P.info? elem).map (·.size) = some 1)
    (g off N : Nat) (F : Nat → Int) (A : Option Addr) (dLen dCap sLen sCap : Nat) (zs : List Int) (hd : a.eval d = .slice (some ⟨g, off, none⟩) dLen dCap) (hs : a.eval s = .slice A sLen sCap)
    (r : w.rowIs g elem N (fun j => .int .i64 (F j))) (hn : zs.length = Nat.min sLen dLen) (rd : RdA w A zs) (hfit : off + zs.length ≤ N)
    (h : ∀ w', w'.rowIs g elem N (fun j => .int .i64 (spl off zs F j)) → Below g w w' → wpList P ops Q rest (a.put o.dst (goInt zs.length)) w') : wpList P ops Q (o :: rest) a w := by
  obtain ⟨cur, hg, hN, _⟩ := id r
  refine wpList_copy_splice hgd d s dT sT ho elem hu hsz (some ⟨g, off, none⟩) A dLen dCap sLen sCap hd hs g off cur.toList elem (by simpa using hg) (zs.map (Value.int .i64)) (by simpa using hn) (fun hp => ⟨rfl, ?_⟩) (by simpa [hN] using hfit) (one64 _) g w (Below.refl _ _) (Nat.le_refl _) (fun w' h1 h2 => ?_)
  · obtain ⟨b, o', e, _, _⟩ := rd 0 (by simpa using hp)
    exact ⟨_, e, rd_cells rd e⟩
  · have := h w' (spl_row r (by simpa using hg) hfit h1.out) h2
    simpa using this
end Go.Proofs.Yteknakakefhbmaa.Rk
