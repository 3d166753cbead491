/- What overlaps behind a frame, and the frame's samples. -/
import Derived.Test.YteknakakefhbmaaLpIt
import Derived.RangeFuncNested
import Derived.RangeFuncBound
import Derived.RangeFuncCalls
import Derived.RangeFuncLeaves
import Derived.RangeFuncBox
import Derived.Shelf.Abstract
import Derived.Shelf.AbstractIn
import Derived.Shelf.RegionOpen
import Derived.WalkKit
import Derived.OwnWalkIn
import Derived.TacticsInMore
import Derived.LoopNIn
import Derived.LoopIn
import Derived.Maps.AppendAt
import Derived.ProofKit
import Derived.OpenShut
import Derived.Deep.OwnRows
import Derived.Lib.Hide
import Derived.RegionTactic
import Derived.BigQuiet
import Derived.Deep.RegionLaw
namespace Go.Proofs.Yteknakakefhbmaa.Lp
open Go Go.ChangeShapes Go.WideShapes Go.ChangeAt Go.RowKit Go.Shelf Go.Proofs.Yteknakakefhbmaa.Fx Go.Proofs.Yteknakakefhbmaa.Rk Go.Proofs.Yteknakakefhbmaa.Rg Go.Proofs.Yteknakakefhbmaa.Mm Go.Proofs.Yteknakakefhbmaa.Md Go.Proofs.Yteknakakefhbmaa.Bl

attribute [local go_sem] Oper.semAt_some

def nxP (tail : List Int) (Y : List Int) (n : Nat) : Int := clp (rnd (tail.getD n 0 + Y.getD n 0) 4) 16
structure NX where
  tail : List Int
  seq : Int
  shape : Int
  pcm : List Int
  err : Int
def nO (tail : List Int) (seq0 sh0 seq shape : Int) (lines : List Int) : NX :=
  if ¬ LapOK tail seq0 sh0 then ⟨[], 0, 0, [], 8⟩ else if (sO seq sh0 shape lines).2 ≠ 0 then ⟨[], 0, 0, [], (sO seq sh0 shape lines).2⟩
  else ⟨mk 256 (fun j => (sO seq sh0 shape lines).1.getD (256 + j) 0), seq, shape, mk 256 (nxP tail (sO seq sh0 shape lines).1), 0⟩
def AnsN (p : NX) (w : World) (e : Ending) (w' : World) : Prop := ∃ v u, e = .returned (.tuple #[lapV v p.seq p.shape, u, .int .i64 p.err]) ∧ Fx.Own w.heap.size w' v p.tail ∧ Fx.Own w.heap.size w' u p.pcm ∧ Below w.heap.size w w'
theorem ansN {p : NX} {T P : List Int} {s h c : Int} {v u : Value} {w w' : World} (e : p = ⟨T, s, h, P, c⟩) (ht : Fx.Own w.heap.size w' v T) (hp : Fx.Own w.heap.size w' u P) (hb : Below w.heap.size w w') : AnsN p w (.returned (.tuple #[lapV v s h, u, .int .i64 c])) w' := by
  subst e; exact ⟨v, u, rfl, ht, hp, hb⟩
theorem cell_in {w : World} {b : Nat} {t : TypeId} {x y z : Value} (h : w.heap[b]? = some (.cells #[x, y, z] t (0, 0))) : w.cell? ⟨b, 0, none⟩ = some x ∧ w.cell? ⟨b, 1, none⟩ = some y ∧ w.cell? ⟨b, 2, none⟩ = some z ∧ w.frozen? ⟨b, 0, none⟩ = false ∧ w.frozen? ⟨b, 1, none⟩ = false ∧ w.frozen? ⟨b, 2, none⟩ = false := by
  simp [World.cell?, World.frozen?, h]
theorem set3 {w : World} {b : Nat} {t : TypeId} {x y z : Value} (p q r : Value) (h : w.heap[b]? = some (.cells #[x, y, z] t (0, 0))) : (((w.setCell ⟨b, 0, none⟩ p).setCell ⟨b, 1, none⟩ q).setCell ⟨b, 2, none⟩ r).heap[b]? = some (.cells #[p, q, r] t (0, 0)) := by
  simp [World.setCell, Array.getElem?_modify, h]
theorem bel3 {base : Nat} {a w : World} {b : Nat} (p q r : Value) (h : Below base a w) (hb : base ≤ b) : Below base a (((w.setCell ⟨b, 0, none⟩ p).setCell ⟨b, 1, none⟩ q).setCell ⟨b, 2, none⟩ r) := ((h.setCell (p := ⟨b, 0, none⟩) hb p).setCell (p := ⟨b, 1, none⟩) hb q).setCell (p := ⟨b, 2, none⟩) hb r
theorem two38 (w : World) (x y z : Value) : ((w.alloc (.cells #[x, y, z] 38)).alloc (.cells #[.slice none 0 0, .int .u8 0, .int .u8 0] 38)).heap[w.heap.size]? = some (.cells #[x, y, z] 38 (0, 0)) ∧ ((w.alloc (.cells #[x, y, z] 38)).alloc (.cells #[.slice none 0 0, .int .u8 0, .int .u8 0] 38)).heap[w.heap.size + 1]? = some (.cells #[.slice none 0 0, .int .u8 0, .int .u8 0] 38 (0, 0)) ∧ Below w.heap.size w ((w.alloc (.cells #[x, y, z] 38)).alloc (.cells #[.slice none 0 0, .int .u8 0, .int .u8 0] 38)) := by
  refine ⟨(Below.heap_alloc _ _ _ (by simp)).trans (World.alloc_heap_new w _), ?_, (((Below.refl _ w).alloc (Nat.le_refl _) _).alloc (by simp) _)⟩
  have := World.alloc_heap_new (w.alloc (.cells #[x, y, z] 38)) (.cells #[.slice none 0 0, .int .u8 0, .int .u8 0] 38)
  rwa [World.size_alloc] at this
set_option maxRecDepth 100000 in
set_option maxHeartbeats 2000000 in
theorem next_bad1 (A L : Option Addr) (cap len cl : Nat) (tail lines : List Int) (seq0 sh0 seq shape : Int) (w : World) (rd : RdA w A tail) (h : ¬ LapOK tail seq0 sh0) :
    Calls Try.prog 22 #[lapV (.slice A tail.length cap) seq0 sh0, .int .u8 seq, .int .u8 shape, .slice L len cl] w (AnsN (nO tail seq0 sh0 seq shape lines) w) := by
  obtain ⟨q1, q2, q3⟩ := two38 w (.slice A tail.length cap) (.int .u8 seq0) (.int .u8 sh0)
  have HO := Lib.hid (show nO tail seq0 sh0 seq shape lines = ⟨[], 0, 0, [], 8⟩ from if_pos h)
  have HC := Lib.hid (check_no A cap tail seq0 sh0 _ (rd.below q3) h)
  have Q2 := Lib.hid q2
  have Q3 := Lib.hid q3
  clear rd h q2 q3 q1
  unfold lapV at HC ⊢
  go_enter Try.func22, Try.ntmps22
  go_wp2_with (go_at_call 25; ((with_reducible refine (HC.out).mono ?_); rintro e w1 ⟨rfl, hb1⟩; have Q4 := Lib.hid ((hb1.block _ (by simp)).trans Q2.out); have B1 := Lib.hid (Q3.out.trans (hb1.mono (by simp; omega))); obtain ⟨c0, c1, c2, f0, f1, f2⟩ := cell_in Q4.out; clear hb1))
  obtain ⟨d0, d1, d2, _⟩ := cell_in (set3 (.slice none 0 0) (.int .u8 0) (.int .u8 0) Q4.out)
  refine bodyPost_ret (res3 rfl rfl (load38 d0 d1 d2)) rfl ?_
  exact ansN HO.out (own_nil _ _) (own_nil _ _) (bel3 _ _ _ B1.out (by omega))
set_option maxRecDepth 100000 in
set_option maxHeartbeats 2000000 in
theorem next_bad2 (A L : Option Addr) (cap len cl : Nat) (tail lines : List Int) (seq0 sh0 seq shape : Int) (w : World) (s0 : 0 ≤ seq) (w0 : 0 ≤ sh0) (h0 : 0 ≤ shape) (rd : RdA w A tail) (hl : lines.length = len) (hc : len ≤ cl) (hcm : cl ≤ maxLen) (rl : RdA w L lines) (h : LapOK tail seq0 sh0) (he : (sO seq sh0 shape lines).2 ≠ 0) :
    Calls Try.prog 22 #[lapV (.slice A tail.length cap) seq0 sh0, .int .u8 seq, .int .u8 shape, .slice L len cl] w (AnsN (nO tail seq0 sh0 seq shape lines) w) := by
  obtain ⟨q1, q2, q3⟩ := two38 w (.slice A tail.length cap) (.int .u8 seq0) (.int .u8 sh0)
  have HO := Lib.hid (show nO tail seq0 sh0 seq shape lines = ⟨[], 0, 0, [], (sO seq sh0 shape lines).2⟩ by unfold nO; rw [if_neg (by simpa using h), if_pos he])
  have HC := Lib.hid (check_yes A cap tail seq0 sh0 _ (rd.below q3) h)
  have HS := Lib.hid (fun W r => synth_O seq sh0 shape L len cl lines W s0 w0 h0 hl hc hcm r)
  have Q1 := Lib.hid q1
  have Q2 := Lib.hid q2
  have Q3 := Lib.hid q3
  have RL := Lib.hid rl
  have hne : ((sO seq sh0 shape lines).2 != 0) = true := by simpa using he
  clear rd h q2 q3 q1 rl hl he
  generalize sO seq sh0 shape lines = p at *
  obtain ⟨pl, pe⟩ := p
  unfold lapV at HC ⊢
  dsimp only at hne HO
  go_enter Try.func22, Try.ntmps22
  go_wp2_with first
    | (go_at_call 25; ((with_reducible refine (HC.out).mono ?_); rintro e w1 ⟨rfl, hb1⟩; have Q4 := Lib.hid ((hb1.block _ (by simp)).trans Q2.out); have Q5 := Lib.hid ((hb1.block _ (by simp; omega)).trans Q1.out); have B1 := Lib.hid (Q3.out.trans (hb1.mono (by simp; omega))); have z1 := hb1.size; obtain ⟨_, _, x2, _⟩ := cell_in Q5.out; clear hb1))
    | (go_at_call 14; ((with_reducible refine (HS.out _ (RL.out.below B1.out)).mono ?_); rintro e w2 ⟨v2, rfl, ho2, hb2⟩; obtain ⟨a2, k2, rfl, _⟩ := ho2.rd.open; have B2 := Lib.hid (bt B1.out hb2); have Q6 := Lib.hid ((hb2.block _ (by simp at z1; omega)).trans Q4.out); obtain ⟨c0, c1, c2, f0, f1, f2⟩ := cell_in Q6.out; clear ho2 hb2))
  obtain ⟨d0, d1, d2, _⟩ := cell_in (set3 (.slice none 0 0) (.int .u8 0) (.int .u8 0) Q6.out)
  refine bodyPost_ret (res3 rfl rfl (load38 d0 d1 d2)) rfl ?_
  exact ansN HO.out (own_nil _ _) (own_nil _ _) (bel3 _ _ _ B2.out (by omega))

theorem wpListIn_copy_row {F : Fence} {n : Nat} {P : Program} (w : World) {ops : Array Oper} {rest : List Oper} {o : Oper} {a : Act} {Q : Exit → Act → World → Prop} (hgd : o.guard = none) (d s : Operand) (dT sT : TypeId)
    (ho : o.op = .call { callee := .builtin .copy, args := #[d, s], argTypes := #[dT, sT] }) (elem : TypeId) (hu : P.underlying dT = some (.slice elem)) (hsz : (P.info? elem).map (·.size) = some 1)
    (g off N : Nat) (G : Nat → Int) (A : Option Addr) (dLen dCap sLen sCap : Nat) (zs : List Int) (hd : a.eval d = .slice (some ⟨g, off, none⟩) dLen dCap) (hs : a.eval s = .slice A sLen sCap)
    (r : w.rowIs g elem N (fun j => .int .i64 (G j))) (hn : zs.length = Nat.min sLen dLen) (h0 : 0 < zs.length) (rd : RdA w A zs) (hfit : off + zs.length ≤ N)
    (h : ∀ w', w'.rowIs g elem N (fun j => .int .i64 (spl off zs G j)) → Below g w w' → wpListIn F n P ops Q rest (a.put o.dst (goInt zs.length)) w') : wpListIn F n P ops Q (o :: rest) a w := by
  refine wpListIn_plain hgd fun K hK => ?_
  obtain ⟨cur, hg, hN, _⟩ := id r
  obtain ⟨b, o', rfl, _, _⟩ := rd 0 h0
  have hrun := run_copy_row (P := P) w dT sT o.type elem g off dLen dCap ⟨b, o', none⟩ sLen sCap cur elem (zs.map (Value.int .i64)) hu hsz hg (by simpa using hn) (rd_cells rd rfl) (by simpa [hN] using hfit) (one64 _)
  have q := splice_row (zs := zs) (off := off) r hg hfit
  rw [List.length_map, List.append_assoc] at hrun
  unfold Oper.wpIn
  refine ⟨?_, ?_⟩
  · simp [Oper.about, ho, resolve, Target.leads, Sem.run_pure]
  · rw [Oper.semAt_plain F _ _ (by rw [ho]; intro c hc'; cases hc')]
    simp [execOp, ho, resolve, invoke, builtin, hd, hs, hrun, Result.andThen]
    have q1 := h _ q.1 q.2
    exact hK _ _ (by simpa using q1)
/-- A region that ends as it should: what becomes of a panic is not asked. -/
def onlyNA (R : Act → World → Prop) : Exit → Act → World → Prop
  | .normal, a, w => R a w
  | _, _, _ => False
theorem wp_only {P : Program} {c : Code} {Q : Exit → Act → World → Prop} {a : Act} {w : World} (h : c.wp P (onlyNA (Q .normal)) a w) : c.wp P Q a w := Code.wp_mono (fun e a w q => by cases e <;> first | exact q | exact q.elim) h
theorem syb {seq was shape : Int} {lines : List Int} (hl : lines.length = 256) (h : InR (-268435455) 268435455 lines) (j : Nat) : -34359738368 ≤ SL seq was shape lines j ∧ SL seq was shape lines j ≤ 34359738368 := by
  unfold SL
  split
  · have := syT_bd hl h (was := was) (shape := shape) 8 j (by decide); omega
  · have := lyT_bd hl h (seq := seq) (was := was) (shape := shape) 1 j; omega
theorem clp16 (x : Int) : clp x 16 = max (-32768) (min x 32767) := by
  unfold clp
  simp
  omega
set_option maxRecDepth 100000 in
set_option maxHeartbeats 8000000 in
theorem next_good (A L : Option Addr) (cap len cl : Nat) (tail lines : List Int) (seq0 sh0 seq shape : Int) (w : World) (s0 : 0 ≤ seq) (w0 : 0 ≤ sh0) (h0 : 0 ≤ shape) (rd : RdA w A tail) (hl : lines.length = len) (hc : len ≤ cl) (hcm : cl ≤ maxLen) (rl : RdA w L lines) (h : LapOK tail seq0 sh0) (Y : Nat → Int) (hY : sO seq sh0 shape lines = (mk 512 Y, 0)) (hb : ∀ j, -34359738368 ≤ Y j ∧ Y j ≤ 34359738368) :
    Calls Try.prog 22 #[lapV (.slice A tail.length cap) seq0 sh0, .int .u8 seq, .int .u8 shape, .slice L len cl] w (AnsN (nO tail seq0 sh0 seq shape lines) w) := by
  obtain ⟨i0, hi, hz0, hz1, hz2⟩ := info_parts Fx.info3
  obtain ⟨q1, q2, q3⟩ := two38 w (.slice A tail.length cap) (.int .u8 seq0) (.int .u8 sh0)
  have HO := Lib.hid (show nO tail seq0 sh0 seq shape lines = ⟨mk 256 (fun j => (mk 512 Y).getD (256 + j) 0), seq, shape, mk 256 (nxP tail (mk 512 Y)), 0⟩ by unfold nO; rw [if_neg (by simpa using h), hY, if_neg (by simp)])
  have HC := Lib.hid (check_yes A cap tail seq0 sh0 _ (rd.below q3) h)
  have HS := Lib.hid (fun W r => synth_O seq sh0 shape L len cl lines W s0 w0 h0 hl hc hcm r)
  rw [hY] at HS
  have HT := Lib.hid h.1
  have HTB := Lib.hid h.2.2.2
  rw [h.1] at q1 q2 q3 HC ⊢
  have Q1 := Lib.hid q1
  have Q2 := Lib.hid q2
  have Q3 := Lib.hid q3
  have RL := Lib.hid rl
  have RD := Lib.hid rd
  have HYB := Lib.hid hb
  clear rd h q2 q3 q1 rl hl hb hY
  obtain ⟨ba, oa, rfl, hba, _⟩ := RD.out 0 (by rw [HT.out]; decide)
  unfold lapV at HC ⊢
  refine (callsIn_wide (n := 5)).1 ?_
  refine callsIn_of_wp_marks Try.func22 rfl trivial ?_ rfl
  simp only [Try.ntmps22, List.size_toArray, List.length_cons, List.length_nil, Nat.reduceAdd, Nat.reduceSub, Array.replicate_succ, Array.replicate_zero, List.push_toArray, List.append_toArray, List.nil_append, List.cons_append]
  gi_wp2_with first
    | (refine ⟨trivial, ?_⟩; gi_at_call 25; refine (callsIn_wide.2 (HC.out)).mono ?_; rintro e w1 ⟨rfl, hb1⟩; have Q4 := Lib.hid ((hb1.block _ (by simp)).trans Q2.out); have Q5 := Lib.hid ((hb1.block _ (by simp; omega)).trans Q1.out); have B1 := Lib.hid (Q3.out.trans (hb1.mono (by simp; omega))); have z1 : w.heap.size + 2 ≤ w1.heap.size := (by have := hb1.size; simp at this; omega); obtain ⟨_, _, x2, _⟩ := cell_in Q5.out; clear hb1)
    | (refine ⟨trivial, ?_⟩; gi_at_call 14; refine (callsIn_wide.2 (HS.out _ (RL.out.below B1.out))).mono ?_; rintro e w2 ⟨v2, rfl, ho2, hb2⟩; obtain ⟨gy, cy, rfl, hgy1, hgy2, hcy1, hcy2, hcy3, _⟩ := own_open ho2 (mk_len 512 Y) (by decide); have RY := Lib.hid (cells_rd hgy2 (mk_len 512 Y) hcy3); have B2 := Lib.hid (bt B1.out hb2); have Q6 := Lib.hid ((hb2.block _ (by omega)).trans Q4.out); have Q7 := Lib.hid ((hb2.block _ (by omega)).trans Q5.out); have z2 := hb2.size; clear ho2 hb2 hcy3 x2)
    | (gi_at_make; refine wpListIn_make_own _ rfl (.const (.int .i64 0)) _ 22 rfl w2.heap.size 3 i0 (.int .i64 0) 1 Try.underlying22 hi hz0 hz1 .i64 .i64 256 256 rfl rfl rfl (by rw [hz2]; omega) (by unfold maxLen; omega) (Nat.le_refl _) ?_; intro w3 ho3 hg3; have O3 := Lib.hid ho3; have B3 : Hid (Below w2.heap.size w2 w3) := Lib.hid ((Below.refl _ _).grown hg3 (Nat.le_refl _) (fun k e => by cases e)); have z3 := own_lt ho3; have y3 : w.heap.size < w3.heap.size := (by omega); obtain ⟨x0, _, _, _⟩ := cell_in ((B3.out.block _ (by omega)).trans Q7.out); clear ho3 hg3)
    | (refine ⟨trivial, ?_⟩; gi_at_call 42; refine (callsIn_wide.2 (pairs_ok _ _ ⟨_, _, _, rfl⟩ ⟨_, _, _, rfl⟩ _)).mono ?_; rintro e w4 ⟨rfl, k1, k2, k3, k4⟩; have K1 := Lib.hid k1; have K2 := Lib.hid k2; have K4 := Lib.hid k4; clear k1 k2 k4)
  have sz4 : w4.heap.size = w3.heap.size + 3 := by rw [k3]; simp
  clear k3
  simp only [World.size_alloc] at K1 K2 K4
  have hB4 : Below w2.heap.size w2 w4 := (B3.out.alloc B3.out.size (.cells #[.slice (some ⟨w2.heap.size, 0, none⟩) 0 256] 22)).trans (K4.out.mono (by omega))
  have hO4 : Boxed w4 w3.heap.size 22 (.slice (some ⟨w2.heap.size, 0, none⟩) 0 256) := (K4.out.block _ (by omega)).trans (Boxed.new w3 22 _)
  have hR4 : w4.ownsRow w2.heap.size 3 1 (.slice (some ⟨w2.heap.size, 0, none⟩) 0 256) 0 [] := own_block O3.out ((K4.out.block _ (by omega)).trans (Below.heap_alloc _ _ _ (by omega)))
  have hy4 : w4.heap.size = w3.heap.size + 3 := sz4
  clear K4 O3 B3 x0 HC HS Q1 Q2 Q3 Q4 Q5 Q7 RL
  obtain ⟨Bs, hBs⟩ : ∃ x, w3.heap.size + 1 = x := ⟨_, rfl⟩
  rw [hBs] at K1 K2 ⊢
  obtain ⟨Bo, hBo⟩ : ∃ x, w3.heap.size = x := ⟨_, rfl⟩
  rw [hBo] at hO4 hBs z3 ⊢
  obtain ⟨go, hgo⟩ : ∃ x, w2.heap.size = x := ⟨_, rfl⟩
  have hgoB : go < Bo := by omega
  refine range_memU rfl (by decide) (gf := 61) (lb := #[.pointer (some ⟨Bs, 0, none⟩), .pointer (some ⟨Bs + 1, 0, none⟩)]) rfl trivial (enters_of Try.func61 (by kernel_rfl) rfl)
    encP (HxP tail (mk 512 Y)) (Tp Bs) (Up Bs (some ⟨ba, oa, none⟩) (some ⟨gy, 0, none⟩)) 256 (fun k q => .inl q) (fun k q => ?hU) (fun _ => rfl)
    (fun l J W hl hW hlt hJ hY h0 => pairs_in 4 (by decide) l Bs (some ⟨ba, oa, none⟩) (some ⟨gy, 0, none⟩) cap 512 cy tail (mk 512 Y) HT.out (mk_len _ _) (by decide) (by decide) W ((RD.out.below B2.out).below (hB4.trans (hW.below hB4.size (fun _ h => h.elim)))) (RY.out.below (hB4.trans (hW.below hB4.size (fun _ h => h.elim)))) J hlt hY ((hW.block _ (by omega) (fun h => h)).trans K1.out) ((hW.block _ (by omega) (fun h => h)).trans K2.out) h0)
    (fun k W => Boxed W Bo 22 (.slice (some ⟨go, 0, none⟩) k 256) ∧ W.ownsRow w2.heap.size 3 1 (.slice (some ⟨go, 0, none⟩) k 256) k ((mk k (nxP tail (mk 512 Y))).map (Value.int .i64)) ∧ Below w2.heap.size w2 W)
    (fun k X Y' h hp => ?hI) ⟨by rw [← hgo]; exact hO4, by rw [← hgo]; exact hR4, hB4⟩ (fun k x X o hs h => h)
    (fun x => { tmps := #[Value.agg #[Value.slice (some ⟨ba, oa, none⟩) 256 cap, Value.int IntKind.u8 seq0, Value.int IntKind.u8 sh0], Value.int IntKind.u8 seq, Value.int IntKind.u8 shape, Value.slice L len cl, Value.pointer (some { block := w.heap.size, off := 0 }), undef, undef, undef, Value.pointer (some { block := w.heap.size + 1, off := 0 }), Value.slice none 0 0, Value.int IntKind.i64 0, Value.int IntKind.i64 0, Value.slice (some { block := gy, off := 0 }) 512 cy, Value.int IntKind.i64 0, Value.pointer (some { block := Bo, off := 0 }), .int .i64 x.1, .int .i64 x.2, undef, undef, undef, undef, undef, Value.agg #[Value.slice (some ⟨ba, oa, none⟩) 256 cap, Value.int IntKind.u8 seq0, Value.int IntKind.u8 sh0], Value.int IntKind.i64 0, Value.int IntKind.i64 0, Value.bool false, undef, undef, Value.tuple #[Value.slice (some { block := gy, off := 0 }) 512 cy, Value.int IntKind.i64 0], Value.int IntKind.u8 seq, Value.pointer (some { block := w.heap.size, off := 2 }), Value.int IntKind.u8 sh0, Value.int IntKind.u8 shape, Value.slice L len cl, Value.tuple #[Value.slice (some { block := gy, off := 0 }) 512 cy, Value.int IntKind.i64 0], Value.slice (some { block := gy, off := 0 }) 512 cy, Value.int IntKind.i64 0, Value.int IntKind.i64 0, Value.bool false, undef, undef, Value.slice (some { block := go, off := 0 }) 0 256, Value.pointer (some { block := w.heap.size, off := 0 }), Value.slice (some ⟨ba, oa, none⟩) 256 cap, Value.slice (some { block := gy, off := 0 }) 512 cy, Value.func (Fn.func 61) #[] #[Value.pointer (some { block := Bs, off := 0 }), Value.pointer (some { block := Bs + 1, off := 0 })], .int .i64 x.1, .int .i64 x.2, undef, undef, undef, undef, undef, undef, undef, undef, undef, undef, undef, undef, undef, undef, undef, undef, undef, undef, undef, undef, undef, undef, undef, undef, undef, undef], defers := [] }) ?assign ?body ?done
  case hU =>
    rcases q with q | ⟨x, e, rfl⟩ | ⟨x, e, rfl⟩
    · have := q.2; omega
    · cases e; simp only; omega
    · cases e; simp only; omega
  case hI =>
    obtain ⟨h1, h3, h4⟩ := h
    refine ⟨(hp.block _ h1.lt (fun q => ?_)).trans h1, own_block h3 (hp.block _ (own_lt h3) (fun q => ?_)), h4.trans (hp.below h4.size (fun j q => ?_))⟩
    all_goals
      rcases q with q | q | q
      · have := q.1; omega
      · omega
      · omega
  case assign =>
    intro l x W K hK
    dsimp only [encP]
    gi_wp2
    exact hK
  case body =>
    rintro l k x W ⟨h1, h3, h4⟩ hk rfl h8
    dsimp only
    have cO := h1.cell
    obtain ⟨x0, x1⟩ := HTB.out k (by rw [HT.out]; exact hk)
    have yb := HYB.out k
    have e1 : (mk 512 Y).getD k 0 = Y k := mk_at (by omega)
    have hV : nxP tail (mk 512 Y) k = clp (rnd (tail.getD k 0 + Y k) 4) 16 := by unfold nxP; rw [e1]
    rw [e1]
    have HR := Lib.hid (round_in (tail.getD k 0 + Y k) 4 W (by omega) (by omega) (by decide) (by decide))
    have HCl := Lib.hid (clip_in (rnd (tail.getD k 0 + Y k) 4) 16 W (by decide) (by decide))
    rw [← hV] at HCl
    have HVk := Lib.hid (mk_succ k (nxP tail (mk 512 Y)))
    have H1 := Lib.hid h1
    have H3 := Lib.hid h3
    have H4 := Lib.hid h4
    obtain ⟨y0, y1⟩ := yb
    clear h1 h3 h4 hV e1
    generalize nxP tail (mk 512 Y) k = V at *
    generalize tail.getD k 0 = X at *
    generalize Y k = Z at *
    generalize rnd (X + Z) 4 = R at *
    gi_wp2_with first
      | (refine ⟨trivial, ?_⟩; gi_at_call 43; with_reducible refine (CallsIn.inRound l (callsIn_wide.2 (HR.out))).mono ?_; rintro e w5 ⟨rfl, rfl⟩)
      | (refine ⟨trivial, ?_⟩; gi_at_call 44; with_reducible refine (CallsIn.inRound l (callsIn_wide.2 (HCl.out))).mono ?_; rintro e w5 ⟨rfl, rfl⟩)
      | (gi_at_builtin; refine wpListIn_append_fits _ rfl (.tmp 60) (.tmp 62) 22 rfl w2.heap.size 3 i0 1 Try.underlying22 hi hz1 go k 256 _ rfl (H3.out.alloc _) ⟨W.heap.size, 0, none⟩ 1 1 [.int .i64 V] rfl rfl (cell_one_new _ _ _) (by simp [Value.oneCell']) (by omega) ?_; intro w5 ho5 hg5; have O5 := Lib.hid ho5; have blk5 := Lib.hid (fun j (hj : j < W.heap.size) (hne : j ≠ go) => (hg5.block j (by simp; omega) (fun e => hne (by cases e; rfl))).trans (Below.heap_alloc _ _ _ hj)); have x5 : Boxed w5 Bo 22 (.slice (some ⟨go, 0, none⟩) k 256) := (blk5.out Bo H1.out.lt (by omega)).trans H1.out; have X5 := Lib.hid x5; have c5 := x5.cell; have f5 := x5.frozen; have B5 := Lib.hid ((H4.out.alloc H4.out.size (.cells #[.int .i64 V] 3)).grown hg5 (by have := H4.out.size; simp; omega) (fun j e => by cases e; omega)); have z5 : W.heap.size ≤ w5.heap.size := (by have := hg5.size; simp at this; omega); clear ho5 hg5 x5)
    refine ⟨⟨X5.out.set _, ?_, B5.out.setCell (p := ⟨Bo, 0, none⟩) (show w2.heap.size ≤ Bo by omega) _⟩, ?_, fun j q => ?_⟩
    · rw [HVk.out, List.map_append]
      exact own_block O5.out (heap_other _ (by omega))
    · simp only [World.setCell, Array.size_modify]
      exact z5
    · have hj : j < W.heap.size ∧ j ≠ go ∧ j ≠ Bo := by
        rcases q with (q | ⟨x, e, rfl⟩ | ⟨x, e, rfl⟩) | q | q
        · have h1 := q.1; have h2 := q.2; omega
        · cases e; simp only; omega
        · cases e; simp only; omega
        · omega
        · omega
      exact (heap_other _ (by omega)).trans (blk5.out j hj.1 hj.2.1)
  case done =>
    rintro W ⟨h1, h3, h4⟩ hlt hD
    have cO := h1.cell
    have hmk : (Instr.makeSlice 22 (.int .i64 256) (.int .i64 256)).run Try.prog W = .ok (.slice (some ⟨W.heap.size, 0, none⟩) 256 256) (W.alloc (.cells (madeCells #[.int .i64 0] 256) 3)) := run_make_row (P := Try.prog) 22 3 i0 (.int .i64 0) Try.underlying22 hi hz0 hz1 rfl .i64 .i64 256 (by rw [hz2]; omega) (by omega) W
    have hm := World.rowIs_made W (.int .i64 0) 256 3
    have hBm : Below W.heap.size W (W.alloc (.cells (madeCells #[.int .i64 0] 256) 3)) := (Below.refl _ _).alloc (Nat.le_refl _) _
    have rY := RY.out.below h4
    have rz : Hid (RdA (W.alloc (.cells (madeCells #[.int .i64 0] 256) 3)) (some ⟨gy, 256, none⟩) ((mk 512 Y).drop 256)) := Lib.hid (rd_drop (p := 256) (rY.below hBm))
    have hzl : ((mk 512 Y).drop 256).length = 256 := by simp [mk_len]
    have HM := Lib.hid hm
    have HBm := Lib.hid hBm
    have H4 := Lib.hid h4
    have H3 := Lib.hid h3
    have H1 := Lib.hid h1
    have hq1 : ¬ cy = 256 := by omega
    clear hm hBm rY h4 h3 h1
    gi_wp2_with (refine wpListIn_copy_row _ rfl (.tmp 65) (.tmp 67) 22 22 rfl 3 Try.underlying22 size3 W.heap.size 0 256 (fun _ => 0) (some ⟨gy, 256, none⟩) 256 256 256 (cy - 256) ((mk 512 Y).drop 256) rfl rfl HM.out (by rw [hzl]; rfl) (by rw [hzl]; decide) rz.out (by rw [hzl]; decide) ?_; intro w5 hr5 hb5; have R5 := Lib.hid hr5; have B5 := Lib.hid (HBm.out.trans hb5); clear hr5 hb5)
    have q8 := (B5.out.block _ (by have := H4.out.size; omega)).trans ((H4.out.block _ (by omega)).trans Q6.out)
    obtain ⟨c0, c1, c2, f0, f1, f2⟩ := cell_in q8
    have x5 : Boxed w5 Bo 22 (.slice (some ⟨go, 0, none⟩) 256 256) := (B5.out.block _ H1.out.lt).trans H1.out
    have cO5 := x5.cell
    refine wpIn_wide.2 ?_
    refine wp_only ?_
    go_region
    all_goals
      dsimp only [onlyNA]
      go_simp
      gi_wp2
      have hbf : ∀ j, j ≠ w.heap.size + 1 → (((w5.setCell ⟨w.heap.size + 1, 0, none⟩ (.slice (some ⟨W.heap.size, 0, none⟩) 256 256)).setCell ⟨w.heap.size + 1, 1, none⟩ (.int .u8 seq)).setCell ⟨w.heap.size + 1, 2, none⟩ (.int .u8 shape)).drew.heap[j]? = w5.heap[j]? := fun j hj => (heap_other (w := (w5.setCell ⟨w.heap.size + 1, 0, none⟩ (.slice (some ⟨W.heap.size, 0, none⟩) 256 256)).setCell ⟨w.heap.size + 1, 1, none⟩ (.int .u8 seq)) (.int .u8 shape) (fun e => hj e.symm)).trans ((heap_other (w := w5.setCell ⟨w.heap.size + 1, 0, none⟩ (.slice (some ⟨W.heap.size, 0, none⟩) 256 256)) (.int .u8 seq) (fun e => hj e.symm)).trans (heap_other (w := w5) _ (fun e => hj e.symm)))
      have hbl : Below w.heap.size w (((w5.setCell ⟨w.heap.size + 1, 0, none⟩ (.slice (some ⟨W.heap.size, 0, none⟩) 256 256)).setCell ⟨w.heap.size + 1, 1, none⟩ (.int .u8 seq)).setCell ⟨w.heap.size + 1, 2, none⟩ (.int .u8 shape)).drew := (bel3 _ _ _ ((B2.out.trans (H4.out.mono (by have := B2.out.size; omega))).trans (B5.out.mono (by have := H4.out.size; omega))) (by omega)).drew
      have hs3 := set3 (.slice (some ⟨W.heap.size, 0, none⟩) 256 256) (.int .u8 seq) (.int .u8 shape) q8
      have hWs : w2.heap.size ≤ W.heap.size := H4.out.size
      have h5s : W.heap.size ≤ w5.heap.size := B5.out.size
      generalize (((w5.setCell ⟨w.heap.size + 1, 0, none⟩ (.slice (some ⟨W.heap.size, 0, none⟩) 256 256)).setCell ⟨w.heap.size + 1, 1, none⟩ (.int .u8 seq)).setCell ⟨w.heap.size + 1, 2, none⟩ (.int .u8 shape)) = X at *
      have hD2 : X.drew.heap[Bo + 3]? = some (.deferred (some [])) := (hbf _ (by omega)).trans ((B5.out.block _ (by omega)).trans (by rw [show Bo + 3 = w4.heap.size by omega]; exact hD))
      have p5 : Part (fun j => j = Bo + 3) X.drew (X.drew.putObj (Bo + 3) (.deferred none)) := Part.put _ rfl
      have hs4 : (X.drew.putObj (Bo + 3) (.deferred none)).heap[w.heap.size + 1]? = some (.cells #[.slice (some ⟨W.heap.size, 0, none⟩) 256 256, .int .u8 seq, .int .u8 shape] 38 (0, 0)) := (World.putObj_heap_other (by omega)).trans hs3
      obtain ⟨d0, d1, d2, _⟩ := cell_in hs4
      refine ⟨by simp, .inl ⟨_, _, rfl, run_takeDeferred hD2, ?_⟩⟩
      refine ⟨_, res3 rfl rfl (load38 d0 d1 d2), ansN HO.out ?_ ?_ (hbl.trans (p5.below hbl.size (fun j q => by omega)))⟩
      · have r5 : (X.drew.putObj (Bo + 3) (.deferred none)).rowIs W.heap.size 3 256 (fun j => .int .i64 (spl 0 ((mk 512 Y).drop 256) (fun _ => 0) j)) := R5.out.of_block ((World.putObj_heap_other (by omega)).trans (hbf _ (by omega)))
        have o5 := own_row r5 (show w.heap.size ≤ W.heap.size by omega) (by unfold maxLen; omega)
        rw [mk_congr (G := fun j => (mk 512 Y).getD (256 + j) 0) (fun j hj => by unfold spl; rw [if_pos (by rw [hzl]; omega)]; simp [List.getD_eq_getElem?_getD, List.getElem?_drop])] at o5
        exact o5
      · have o6 := own_block H3.out (w' := X.drew.putObj (Bo + 3) (.deferred none)) ((World.putObj_heap_other (by omega)).trans ((hbf go (by omega)).trans (B5.out.block go (by omega))))
        refine Own.rebase (b2 := w2.heap.size) ?_ (by omega)
        unfold Fx.Own
        rw [mk_len]
        exact o6
end Go.Proofs.Yteknakakefhbmaa.Lp
