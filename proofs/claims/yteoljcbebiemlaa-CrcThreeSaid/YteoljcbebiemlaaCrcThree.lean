/- The sums of three lists of one length, by exclusive or, are that of the three lists, bit by bit. CrcThree returns true, whatever the three lists, the memory and the schedule. No condition. -/
import Derived.Test.YteoljcbebiemlaaCrcXor
import Derived.Test.YteoljcbebiemlaaCrcAlive
import Derived.WalkKit
import Derived.RegionTactic
import Derived.ChangeAlike
import Derived.Deep.OwnRows
import Derived.ProofKit
import Derived.OpenShut
import Derived.ShutString
import Derived.ChangeOld
import Derived.Below
import Derived.Lib.Hide
namespace Go.Proofs.Yteoljcbebiemlaa.crcThree
open Go Go.ChangeShapes Go.WideShapes Go.ChangeAt Go.RowKit Go.Proofs.Yteoljcbebiemlaa.Cr

set_option maxRecDepth 100000 in
theorem long (a0 a1 a2 : Option Addr) (l0 l1 l2 c0 c1 c2 : Nat) (w : World) (m0 : l0 ≤ maxLen) (m1 : l1 ≤ maxLen) (_ : l2 ≤ maxLen) (h : 20000 < l0 ∨ l1 ≠ l0 ∨ l2 ≠ l0) :
    Calls Try.prog 13 #[.slice a0 l0 c0, .slice a1 l1 c1, .slice a2 l2 c2] w fun e w' => e = .returned (.bool true) ∧ Below w.heap.size w w' := by
  unfold maxLen at m0 m1
  by_cases h0 : 20000 < l0
  · go_enter Try.func13, Try.ntmps13
    go_wp2_with (go_at_call 26; refine (alive_ok _).mono ?_; rintro e w' ⟨rfl, hb⟩)
    go_ret
    exact ⟨rfl, by assumption⟩
  by_cases h1 : l1 = l0
  · subst h1
    have h2 : ((l2 : Int) != (l1 : Int)) = true := by simp; omega
    clear h
    go_enter Try.func13, Try.ntmps13
    go_wp2_with (go_at_call 26; refine (alive_ok _).mono ?_; rintro e w' ⟨rfl, hb⟩)
    go_ret
    exact ⟨rfl, by assumption⟩
  · have h2 : ((l1 : Int) != (l0 : Int)) = true := by simp; omega
    clear h h1
    go_enter Try.func13, Try.ntmps13
    go_wp2_with (go_at_call 26; refine (alive_ok _).mono ?_; rintro e w' ⟨rfl, hb⟩)
    go_ret
    exact ⟨rfl, by assumption⟩

theorem slN (w : World) (a : Option Addr) (c : Nat) : Sl w (.slice a 0 c) [] := .inl ⟨a, c, rfl, rfl⟩
def fillF (th : List Int) (k : Nat) : Nat → Value := fun j => .int .u8 (if j < k then th.getD j 0 else 0)
theorem fill_step {w : World} {g n k : Nat} {th : List Int} {v : Int} (h : w.rowIs g 5 n (fillF th k)) (hv : v = th.getD k 0) : (w.setCell ⟨g, k, none⟩ (.int .u8 v)).rowIs g 5 n (fillF th (k + 1)) := by
  refine (h.set k (.int .u8 v)).congr fun i _ => ?_
  unfold fillF
  by_cases e : i = k
  · subst e; simp [hv]
  · by_cases c : i < k
    · simp [e, c, show i < k + 1 by omega]
    · simp [e, c, show ¬ i < k + 1 by omega]
theorem row_sl {w : World} {g n : Nat} {th : List Int} (h : w.rowIs g 5 n (fillF th n)) (hn : th.length = n) (hm : n ≤ maxLen) : Sl w (.slice (some ⟨g, 0, none⟩) n n) th :=
  .inr ⟨g, 0, n, by rw [hn], h.lt, by omega, hm, fun i hi => by
    rw [Nat.zero_add, h.cell (by omega)]
    unfold fillF
    rw [if_pos (by omega)]⟩

set_option maxRecDepth 100000 in
set_option maxHeartbeats 2000000 in
theorem pos (ba oa ca bb ob cb bc oc cc n : Nat) (za zb zc : List Int) (w : World) (n0 : 0 < n) (n1 : n ≤ 20000) (la : za.length = n) (lb : zb.length = n) (lc : zc.length = n)
    (hza : ∀ z ∈ za, 0 ≤ z ∧ z ≤ 255) (hzb : ∀ z ∈ zb, 0 ≤ z ∧ z ≤ 255) (hzc : ∀ z ∈ zc, 0 ≤ z ∧ z ≤ 255)
    (hsa : Sl w (.slice (some ⟨ba, oa, none⟩) n ca) za) (hsb : Sl w (.slice (some ⟨bb, ob, none⟩) n cb) zb) (hsc : Sl w (.slice (some ⟨bc, oc, none⟩) n cc) zc)
    (ra : ∀ i, i < n → w.cell? ⟨ba, oa + i, none⟩ = some (.int .u8 (za.getD i 0))) (rb : ∀ i, i < n → w.cell? ⟨bb, ob + i, none⟩ = some (.int .u8 (zb.getD i 0))) (rc : ∀ i, i < n → w.cell? ⟨bc, oc + i, none⟩ = some (.int .u8 (zc.getD i 0)))
    (ha : ba < w.heap.size) (hb' : bb < w.heap.size) (hc : bc < w.heap.size) :
    Calls Try.prog 13 #[.slice (some ⟨ba, oa, none⟩) n ca, .slice (some ⟨bb, ob, none⟩) n cb, .slice (some ⟨bc, oc, none⟩) n cc] w fun e w' => e = .returned (.bool true) ∧ Below w.heap.size w w' := by
  obtain ⟨i0, hi, hz0, hz1, hz2⟩ := info_parts info5
  have hsum : bits .xor .i64 (bits .xor .i64 (sum (par za)) (sum (par zb))) (sum (par zc)) = sum (thr za zb zc) := sum_thr (by omega) (by omega)
  have HT := Lib.hid (thr_len (a := za) (b := zb) (c := zc) (by omega) (by omega))
  have HA := Lib.hid (fun (j : Nat) (h : j < n) => thr_at (a := za) (b := zb) (c := zc) (j := j) (by omega) (by omega) (by omega))
  have HT' : Hid ((thr za zb zc).length = n) := Lib.hid (HT.out.trans la)
  have La' : za.length ≤ 20000 := by omega
  have Lb' : zb.length ≤ 20000 := by omega
  have Lc' : zc.length ≤ 20000 := by omega
  have Za := Lib.hid hza
  have Zb := Lib.hid hzb
  have Zc := Lib.hid hzc
  have Sa := Lib.hid hsa
  have Sb := Lib.hid hsb
  have Sc := Lib.hid hsc
  have Ra := Lib.hid ra
  have Rb := Lib.hid rb
  have Rc := Lib.hid rc
  have La := Lib.hid la
  have Lb := Lib.hid lb
  have Lc := Lib.hid lc
  clear hza hzb hzc hsa hsb hsc ra rb rc la lb lc
  go_enter Try.func13, Try.ntmps13
  go_wp2_with (first
    | (go_at_call 26; refine (alive_ok _).mono ?_; rintro e w0 ⟨rfl, hb⟩)
    | (refine wpList_make_row _ rfl (.tmp 42) (.tmp 42) 22 rfl 5 i0 (.int .u8 0) Try.underlying22 hi hz0 hz1 rfl .i64 .i64 n rfl rfl (by rw [hz2]; omega) (by omega) ?_))
  have hb0 := hb.size
  have hrow : (w0.alloc (.cells (madeCells #[.int .u8 0] n) 5)).rowIs w0.heap.size 5 n (fillF (thr za zb zc) 0) := (World.rowIs_made w0 (.int .u8 0) n 5).congr fun i _ => by unfold fillF; simp
  have hbm : Below w.heap.size w (w0.alloc (.cells (madeCells #[.int .u8 0] n) 5)) := hb.alloc hb0 _
  go_loopw [9] (fun i wr => ∃ k : Nat, k ≤ n ∧ i = .int .i64 k ∧ Hid (wr.rowIs w0.heap.size 5 n (fillF (thr za zb zc) k)) ∧ Below w.heap.size w wr) (fun i _ => n - (intOf i).toNat)
  case atStart => exact ⟨0, by omega, rfl, Lib.hid hrow, hbm⟩
  case round =>
    obtain ⟨k, hk, rfl, hR, hbel⟩ := hrel
    by_cases hlt : k < n
    · have qa : wr.cell? ⟨ba, oa + k, none⟩ = some (.int .u8 (za.getD k 0)) := (hbel.cell (p := ⟨ba, oa + k, none⟩) ha).trans (Ra.out k hlt)
      have qb : wr.cell? ⟨bb, ob + k, none⟩ = some (.int .u8 (zb.getD k 0)) := (hbel.cell (p := ⟨bb, ob + k, none⟩) hb').trans (Rb.out k hlt)
      have qc : wr.cell? ⟨bc, oc + k, none⟩ = some (.int .u8 (zc.getD k 0)) := (hbel.cell (p := ⟨bc, oc + k, none⟩) hc).trans (Rc.out k hlt)
      have qo : wr.cell? ⟨w0.heap.size, k, none⟩ = some (.int .u8 0) := by
        have := hR.out.cell hlt
        rw [this]; unfold fillF; rw [if_neg (by omega)]
      have qf := hR.out.frozen k
      have ia := Za.out (za.getD k 0) (by simp [La.out, hlt])
      have ib := Zb.out (zb.getD k 0) (by simp [Lb.out, hlt])
      have ic := Zc.out (zc.getD k 0) (by simp [Lc.out, hlt])
      have hth := Lib.hid (HA.out k hlt)
      have hst := Lib.hid (fun v hv => fill_step (v := v) hR.out hv)
      generalize za.getD k 0 = x at *
      generalize zb.getD k 0 = y at *
      generalize zc.getD k 0 = z at *
      obtain ⟨m1, e1, m10, m11, m12⟩ := xor_u8 ia.1 ia.2 ib.1 ib.2
      obtain ⟨m2, e2, m20, m21, m22⟩ := xor_u8 m10 m11 ic.1 ic.2
      have hval : Hid (m2 % 2 = (thr za zb zc).getD k 0) := Lib.hid (by rw [hth.out]; omega)
      clear ia ib ic m12 m22
      go_wp2
      go_region
      all_goals
        go_wp2
        go_roundw
        case rel => exact ⟨k + 1, by omega, by go_num, Lib.hid (hst.out _ hval.out), (hbel.setCell (p := ⟨w0.heap.size, k, none⟩) hb0 _).drew⟩
        case measure => simp [intOf]; omega
    · have hend : k = n := by omega
      subst hend
      have hg : w0.heap.size < wr.heap.size := hR.out.lt
      have HR := Lib.hid (row_sl hR.out HT'.out (by unfold maxLen; omega))
      have Sa' := Lib.hid (Sl.below Sa.out hbel)
      have Sb' := Lib.hid (Sl.below Sb.out hbel)
      have Sc' := Lib.hid (Sl.below Sc.out hbel)
      clear hR
      go_wp2_with (first
        | (go_at_call 29; ((with_reducible refine (bitsB (W := wr) (zs := za) Za.out La' Sa'.out _ (by first | assumption | exact Below.refl _ _)).mono ?_); rintro e w3 ⟨va, rfl, howna, hle, hbla, hb3⟩; have hsl := howna.sl))
        | (go_at_call 29; ((with_reducible refine (bitsB (W := wr) (zs := zb) Zb.out Lb' Sb'.out _ (by first | assumption | exact Below.refl _ _)).mono ?_); rintro e w3 ⟨va, rfl, howna, hle, hbla, hb3⟩; have hsl := howna.sl))
        | (go_at_call 29; ((with_reducible refine (bitsB (W := wr) (zs := zc) Zc.out Lc' Sc'.out _ (by first | assumption | exact Below.refl _ _)).mono ?_); rintro e w3 ⟨va, rfl, howna, hle, hbla, hb3⟩; have hsl := howna.sl))
        | (go_at_call 25; ((refine (ofB (W := wr) (par_bits za Za.out) _ (by assumption) (by assumption)).mono ?_); rintro e w4 ⟨rfl, hbl, hb4⟩))
        | (go_at_call 25; ((refine (ofB (W := wr) (par_bits zb Zb.out) _ (by assumption) (by assumption)).mono ?_); rintro e w4 ⟨rfl, hbl, hb4⟩))
        | (go_at_call 25; ((refine (ofB (W := wr) (par_bits zc Zc.out) _ (by assumption) (by assumption)).mono ?_); rintro e w4 ⟨rfl, hbl, hb4⟩))
        | (go_at_call 25; ((refine (ofB (W := wr) (zs := thr za zb zc) thr_bits _ (Sl.below HR.out (by assumption)) (by assumption)).mono ?_); rintro e w5 ⟨rfl, hbl, hb5⟩)))
      go_ret
      exact ⟨rfl, belowT hbel (by assumption)⟩

set_option maxRecDepth 100000 in
set_option maxHeartbeats 2000000 in
theorem zero (a0 a1 a2 : Option Addr) (c0 c1 c2 : Nat) (w : World) :
    Calls Try.prog 13 #[.slice a0 0 c0, .slice a1 0 c1, .slice a2 0 c2] w fun e w' => e = .returned (.bool true) ∧ Below w.heap.size w w' := by
  obtain ⟨i0, hi, hz0, hz1, hz2⟩ := info_parts info5
  have hsum : bits .xor .i64 (bits .xor .i64 (sum []) (sum [])) (sum []) = sum [] := sum_thr (a := []) (b := []) (c := []) rfl rfl
  have nb : Bits [] := by intro z h; simp at h
  have NB := Lib.hid nb
  clear nb
  go_enter Try.func13, Try.ntmps13
  go_wp2_with (first
    | (go_at_call 26; refine (alive_ok _).mono ?_; rintro e w0 ⟨rfl, hb⟩)
    | (refine wpList_make_row _ rfl (.tmp 42) (.tmp 42) 22 rfl 5 i0 (.int .u8 0) Try.underlying22 hi hz0 hz1 rfl .i64 .i64 0 rfl rfl (by omega) (by omega) ?_))
  have hb0 := hb.size
  have hbm : Below w.heap.size w (w0.alloc (.cells (madeCells #[.int .u8 0] 0) 5)) := hb.alloc hb0 _
  go_loopw [9] (fun i wr => i = .int .i64 0 ∧ Below w.heap.size w wr) (fun _ _ => 0)
  case atStart => exact ⟨rfl, hbm⟩
  case round =>
    obtain ⟨rfl, hbel⟩ := hrel
    go_wp2_with (first
      | (go_at_call 29; ((with_reducible refine (bitsN (W := wr) (slN _ _ _) _ (by first | assumption | exact Below.refl _ _)).mono ?_); rintro e w3 ⟨rfl, hblm, hb3⟩))
      | (go_at_call 25; ((refine (ofB (W := wr) (zs := []) NB.out _ (slN _ _ _) (by assumption)).mono ?_); rintro e w4 ⟨rfl, hbl, hb4⟩)))
    go_ret
    exact ⟨rfl, belowT hbel (by assumption)⟩

theorem walk (a0 : Option Addr) (l0 c0 : Nat) (z0 : List Int) (a1 : Option Addr) (l1 c1 : Nat) (z1 : List Int) (a2 : Option Addr) (l2 c2 : Nat) (z2 : List Int) (w : World) (w0 : IsRow .u8 w a0 l0 c0 z0) (w1 : IsRow .u8 w a1 l1 c1 z1) (w2 : IsRow .u8 w a2 l2 c2 z2) :
    Calls Try.prog 13 #[.slice a0 l0 c0, .slice a1 l1 c1, .slice a2 l2 c2] w fun e w' => e = .returned (.bool true) ∧ Below w.heap.size w w' := by
  have m0 := w0.le
  have m1 := w1.le
  have m2 := w2.le
  by_cases h : 20000 < l0 ∨ l1 ≠ l0 ∨ l2 ≠ l0
  · exact long a0 a1 a2 l0 l1 l2 c0 c1 c2 w m0 m1 m2 h
  obtain rfl : l1 = l0 := by omega
  obtain rfl : l2 = l1 := by omega
  by_cases hn : l2 = 0
  · subst hn; exact zero a0 a1 a2 c0 c1 c2 w
  obtain ⟨za, la, sa, ha⟩ := w0.sl
  obtain ⟨zb, lb, sb, hb⟩ := w1.sl
  obtain ⟨zc, lc, sc, hc⟩ := w2.sl
  rw [la] at sa
  rw [lb] at sb
  rw [lc] at sc
  have sa' := sa
  have sb' := sb
  have sc' := sc
  rcases sa with ⟨_, _, e, _⟩ | ⟨ba, oa, ca, e, h2, h3, h4, h5⟩
  · simp only [Value.slice.injEq] at e; omega
  rcases sb with ⟨_, _, f, _⟩ | ⟨bb, ob, cb, f, g2, g3, g4, g5⟩
  · simp only [Value.slice.injEq] at f; omega
  rcases sc with ⟨_, _, k, _⟩ | ⟨bc, oc, cc, k, k2, k3, k4, k5⟩
  · simp only [Value.slice.injEq] at k; omega
  simp only [Value.slice.injEq] at e f k
  obtain ⟨rfl, _, rfl⟩ := e
  obtain ⟨rfl, _, rfl⟩ := f
  obtain ⟨rfl, _, rfl⟩ := k
  rw [la] at h5
  rw [lb] at g5
  rw [lc] at k5
  exact pos ba oa _ bb ob _ bc oc _ _ za zb zc w (by omega) (by omega) la lb lc ha hb hc sa' sb' sc' h5 g5 k5 h2 g2 k2

theorem own : ownKnob Try.prog.godebug = none := by kernel_rfl
theorem laidOut : laidOutB Try.prog = true := by kernel_rfl
set_option linter.unusedVariables false
set_option maxRecDepth 100000 in
theorem lifted (os : Os) (started : os.Started) (H : Type) (enc : TypeId × Value → H) :
    ReturnsInHanded {} Try.checked os 13 .any (Rows.crcThreeSpec.pre6 enc Try.prog Try.f13 Rows.crcThreeRow.domain false) (Rows.crcThreeSpec.post enc Try.prog Try.f13 false true false false) := by
  refine returnsInHanded_of_change (C := Try.checked) own started (by kernel_rfl) Try.func13
    (ChangeSpec.witness6 (enc := enc) (C := Try.checked) false ⟨#[], #[.slice none 0 0, .slice none 0 0, .slice none 0 0], []⟩ 8 (by kernel_rfl) (by kernel_rfl) (by kernel_rfl) (by kernel_rfl)) ?_
  intro W base args ds gs before hval0 hW hcnd _
  have hval : ∀ (j : Nat) t v, Try.f13.params[j]? = some t → args[j]? = some v → Value.okWide Try.prog W .any base t v := hval0
  have hW' := hW
  obtain ⟨p, q, hA0, hV, rfl, hfz, hnd⟩ := hW
  have hA : DataW.TrodAll enc Try.prog W 0 (fun _ => true) true Try.f13.params.toList args.toList ds p := hA0
  rw [Try.params13] at hA hval
  obtain ⟨v0, vs0, d0, ds0, p0, q0, hargs, rfl, rfl, h0, r0⟩ := trodAll_cons hA
  obtain ⟨v1, vs1, d1, ds1, p1, q1, rfl, rfl, rfl, h1, r1⟩ := trodAll_cons r0
  obtain ⟨v2, vs2, d2, ds2, p2, q2, rfl, rfl, rfl, h2, r2⟩ := trodAll_cons r1
  obtain ⟨rfl, rfl, rfl⟩ := trodAll_nil r2
  obtain rfl : args = #[v0, v1, v2] := by cases args; simp_all
  obtain ⟨rfl, rfl⟩ := trodVars_none hV
  obtain ⟨a0, len0, cap0, rfl⟩ := okWide_slice Try.underlying22 (hval 0 22 v0 rfl rfl)
  have k0 := h0
  have lt0 : ∀ x ∈ p0, x.block < W.heap.size := by obtain ⟨m, hm⟩ := k0; exact DataW.trod_lt m _ _ _ hm
  obtain ⟨z0, w0⟩ : ∃ zs, IsRow .u8 W a0 len0 cap0 zs := by
    obtain ⟨fuel, hf⟩ := h0
    rcases open_ints Try.underlying22 Try.underlying5 (by kernel_rfl) hf with ⟨hcs, _⟩ | ⟨x, l, c, zs, hcs, _, hl, hm, hz, _, hcell, hwz⟩
    · simp [Value.cells] at hcs
      obtain ⟨rfl, rfl, rfl⟩ := hcs
      exact ⟨[], .inl ⟨rfl, rfl, rfl, rfl⟩⟩
    · simp [Value.cells] at hcs
      obtain ⟨rfl, rfl, rfl⟩ := hcs
      exact ⟨zs, .inr ⟨_, rfl, hl, hm, by simpa using hz, hcell, hwz⟩⟩
  obtain ⟨a1, len1, cap1, rfl⟩ := okWide_slice Try.underlying22 (hval 1 22 v1 rfl rfl)
  have k1 := h1
  have lt1 : ∀ x ∈ p1, x.block < W.heap.size := by obtain ⟨m, hm⟩ := k1; exact DataW.trod_lt m _ _ _ hm
  obtain ⟨z1, w1⟩ : ∃ zs, IsRow .u8 W a1 len1 cap1 zs := by
    obtain ⟨fuel, hf⟩ := h1
    rcases open_ints Try.underlying22 Try.underlying5 (by kernel_rfl) hf with ⟨hcs, _⟩ | ⟨x, l, c, zs, hcs, _, hl, hm, hz, _, hcell, hwz⟩
    · simp [Value.cells] at hcs
      obtain ⟨rfl, rfl, rfl⟩ := hcs
      exact ⟨[], .inl ⟨rfl, rfl, rfl, rfl⟩⟩
    · simp [Value.cells] at hcs
      obtain ⟨rfl, rfl, rfl⟩ := hcs
      exact ⟨zs, .inr ⟨_, rfl, hl, hm, by simpa using hz, hcell, hwz⟩⟩
  obtain ⟨a2, len2, cap2, rfl⟩ := okWide_slice Try.underlying22 (hval 2 22 v2 rfl rfl)
  have k2 := h2
  have lt2 : ∀ x ∈ p2, x.block < W.heap.size := by obtain ⟨m, hm⟩ := k2; exact DataW.trod_lt m _ _ _ hm
  obtain ⟨z2, w2⟩ : ∃ zs, IsRow .u8 W a2 len2 cap2 zs := by
    obtain ⟨fuel, hf⟩ := h2
    rcases open_ints Try.underlying22 Try.underlying5 (by kernel_rfl) hf with ⟨hcs, _⟩ | ⟨x, l, c, zs, hcs, _, hl, hm, hz, _, hcell, hwz⟩
    · simp [Value.cells] at hcs
      obtain ⟨rfl, rfl, rfl⟩ := hcs
      exact ⟨[], .inl ⟨rfl, rfl, rfl, rfl⟩⟩
    · simp [Value.cells] at hcs
      obtain ⟨rfl, rfl, rfl⟩ := hcs
      exact ⟨zs, .inr ⟨_, rfl, hl, hm, by simpa using hz, hcell, hwz⟩⟩
  clear hA0 hval0
  refine (walk a0 len0 cap0 z0 a1 len1 cap1 z1 a2 len2 cap2 z2 W w0 w1 w2).mono fun e W' ⟨he, bel⟩ => ?_
  subst he
  exact ⟨_, rfl, _, _, _, [], _, [], hW', trodAll_mk1 (shut_bool Try.underlying4 _), (trodAll_cons_mk (Below.trod laidOut (by kernel_rfl) (of_decide_eq_true (by kernel_rfl)) k0 bel lt0) (trodAll_cons_mk (Below.trod laidOut (by kernel_rfl) (of_decide_eq_true (by kernel_rfl)) k1 bel lt1) (trodAll_cons_mk (Below.trod laidOut (by kernel_rfl) (of_decide_eq_true (by kernel_rfl)) k2 bel lt2) trodAll_mk0))), rfl, bel.frame _, fun h => by cases h⟩

theorem over : Rows.crcThreeRow.holds Try.pinned (OpenSpec.ofChange Rows.crcThreeSpec) :=
  OpenClaim.holds_of_wide 13 Try.f13 rfl rfl rfl rfl rfl rfl rfl ⟨rfl, rfl, rfl, rfl, rfl⟩ rfl rfl rfl rfl rfl (by kernel_rfl) Try.func13 (by kernel_rfl)
    (of_decide_eq_true (by kernel_rfl)) (by unfold Func.isWrapper; first | (rw [if_pos (by decide +kernel)]; kernel_rfl) | (rw [if_neg (by decide +kernel)]; exact ⟨rfl, rfl⟩))
    (fun os started H enc _ => lifted os started H enc)

theorem proved : Rows.CrcThreeSaid := over
end Go.Proofs.Yteoljcbebiemlaa.crcThree
