/- Lines synthesised. -/
import Derived.Test.YteknakakefhbmaaBlAna
import Derived.RangeFuncNested
import Derived.RangeFuncBound
import Derived.RangeFuncCalls
import Derived.RangeFuncLeaves
import Derived.RangeFuncBox
import Derived.Shelf.Abstract
import Derived.Shelf.AbstractIn
import Derived.Shelf.RegionOpen
import Derived.WalkKit
import Derived.OwnWalkIn
import Derived.TacticsInMore
import Derived.LoopNIn
import Derived.LoopIn
import Derived.Maps.AppendAt
import Derived.ProofKit
import Derived.OpenShut
import Derived.Deep.OwnRows
import Derived.Lib.Hide
namespace Go.Proofs.Yteknakakefhbmaa.Bl
open Go Go.ChangeShapes Go.WideShapes Go.ChangeAt Go.RowKit Go.Shelf Go.Proofs.Yteknakakefhbmaa.Fx Go.Proofs.Yteknakakefhbmaa.Rk Go.Proofs.Yteknakakefhbmaa.Rg Go.Proofs.Yteknakakefhbmaa.Mm Go.Proofs.Yteknakakefhbmaa.Md

attribute [local go_sem] Oper.semAt_some

/-- Numbers added to others from a place on, as far as n. -/
def addF (F : Nat → Int) (P n : Nat) (U : Nat → Int) (j : Nat) : Int := if P ≤ j ∧ j < P + n then F j + U (j - P) else F j
theorem addF_zero (F : Nat → Int) (P : Nat) (U : Nat → Int) (j : Nat) : addF F P 0 U j = F j := by unfold addF; rw [if_neg (by omega)]
theorem addF_step {w : World} {g N P n : Nat} {F U : Nat → Int} {v : Int} (r : w.rowIs g 3 N (fun j => .int .i64 (addF F P n U j))) (hv : v = F (P + n) + U n) : (w.setCell ⟨g, P + n, none⟩ (.int .i64 v)).rowIs g 3 N (fun j => .int .i64 (addF F P (n + 1) U j)) := by
  refine (r.set (P + n) (.int .i64 v)).congr fun i _ => ?_
  unfold addF
  by_cases e : i = P + n
  · rw [if_pos e, if_pos (by omega), hv, e, show P + n - P = n by omega]
  · rw [if_neg e]
    by_cases c : P ≤ i ∧ i < P + n
    · rw [if_pos c, if_pos (by omega)]
    · rw [if_neg c, if_neg (by omega)]
theorem addF_at (F : Nat → Int) (P n : Nat) (U : Nat → Int) : addF F P n U (P + n) = F (P + n) := by unfold addF; rw [if_neg (by omega)]
theorem bk_in {zs : List Int} {m s b : Int} {N : Nat} (h : InM 268435455 zs) (hN : m.toNat = N) (hl : zs.length = N) (hs : (N = 256 ∧ b = 26) ∨ (N = 32 ∧ b = 23)) (n : Nat) : -68719476736 ≤ bk zs m s b n ∧ bk zs m s b n ≤ 68719476736 := by
  unfold bk
  rw [hN]
  have a := ds_bd (f := fun k => zs.getD k 0) (c := cv m s (n : Int)) (M := 268435455) (fun j => cos_bd _) N (fun j hj => h j (by omega))
  generalize ds (fun k => zs.getD k 0) (cv m s (n : Int)) N = S at *
  rcases hs with ⟨rfl, rfl⟩ | ⟨rfl, rfl⟩
  · unfold rnd
    simp at a ⊢
    omega
  · unfold rnd
    simp at a ⊢
    omega
theorem un_bd {ws ls : List Int} (hw : InR 0 4194304 ws) (hl : ∀ j, -68719476736 ≤ ls.getD j 0 ∧ ls.getD j 0 ≤ 68719476736) (j : Nat) (hj : j < ws.length) : -4294967296 ≤ un ws ls 26 j ∧ un ws ls 26 j ≤ 4294967296 := by
  unfold un
  obtain ⟨a, b⟩ := hw j hj
  obtain ⟨c, d⟩ := hl j
  have p := mul_in (M := 68719476736) c d a b
  generalize ls.getD j 0 * ws.getD j 0 = q at *
  unfold rnd
  simp
  omega
theorem mk_bd {n : Nat} {F : Nat → Int} {M : Int} (h0 : 0 ≤ M) (h : ∀ j, -M ≤ F j ∧ F j ≤ M) (j : Nat) : -M ≤ (mk n F).getD j 0 ∧ (mk n F).getD j 0 ≤ M := by
  by_cases hj : j < n
  · rw [mk_at hj]; exact h j
  · have : (mk n F).getD j 0 = 0 := by simp [mk, List.getD_eq_getElem?_getD, show n ≤ j by omega]
    rw [this]; omega
theorem _root_.Go.Boxed.at_size {w : World} {a b : Nat} {t : TypeId} {v : Value} (h : Boxed w a t v) (e : a = b) : Boxed w b t v := e ▸ h
theorem under_any (A C : Option Addr) (ca cc : Nat) (ws ls : List Int) (n m : Nat) (b : Int) (w : World) (hn : ws.length = n) (hm : ls.length = m) (hnm : n ≤ m) (hm2 : m ≤ 1000) (ra : RdA w A ws) (rc : RdA w C ls) (hw : InR 0 4194304 ws) (hl : InR (-137438953472) 137438953472 ls) (b0 : 0 ≤ b) (b1 : b ≤ 62) :
    Calls Try.prog 36 #[.slice A n ca, .slice C m cc, .int .i64 b] w fun e w' => ∃ g, e = .returned (.slice (some ⟨g, 0, none⟩) n n) ∧ w.heap.size ≤ g ∧ w'.rowIs g 3 n (fun j => .int .i64 (un ws ls b j)) ∧ Below w.heap.size w w' :=
  (under_ok A C ca cc ws ls n m b w hn hm hnm hm2 ra rc hw hl b0 b1).mono fun _ _ h => ⟨w.heap.size, h.1, Nat.le_refl _, h.2.1, h.2.2⟩
/-- A short window's lines. -/
def seg (lines : List Int) (k : Nat) : List Int := (lines.drop (32 * k)).take 32
theorem seg_len {lines : List Int} {k : Nat} (h : lines.length = 256) (hk : k < 8) : (seg lines k).length = 32 := by simp [seg, h]; omega
theorem seg_rd {w : World} {b off : Nat} {lines : List Int} {k : Nat} (r : RdA w (some ⟨b, off, none⟩) lines) : RdA w (some ⟨b, off + 32 * k, none⟩) (seg lines k) := fun i hi => by
  have h2 : i < 32 ∧ i < lines.length - 32 * k := by simp [seg] at hi; omega
  obtain ⟨b', o', e, h3, h4⟩ := rd_drop (p := 32 * k) r i (by simp; omega)
  refine ⟨b', o', e, h3, ?_⟩
  rw [h4]
  simp [seg, List.getD_eq_getElem?_getD, h2.1]
theorem seg_in {lines : List Int} {k : Nat} (h : InR (-268435455) 268435455 lines) : InM 268435455 (seg lines k) := fun i hi => by
  have h2 : i < 32 ∧ i < lines.length - 32 * k := by simp [seg] at hi; omega
  have := h (32 * k + i) (by omega)
  simpa [seg, List.getD_eq_getElem?_getD, List.getElem?_take, h2.1, List.getElem?_drop] using this
/-- What a window adds, and a frame's numbers so far. -/
def syU (was shape : Int) (lines : List Int) (k : Nat) (j : Nat) : Int := un (wt (if k = 0 then was else shape) shape) (mk 64 (bk (seg lines k) 32 8 23)) 26 j
def syT (was shape : Int) (lines : List Int) : Nat → Nat → Int
  | 0, _ => 0
  | k + 1, j => addF (syT was shape lines k) (112 + 32 * k) 64 (syU was shape lines k) j
def lyU (seq was shape : Int) (lines : List Int) (j : Nat) : Int := un (wv seq was shape) (mk 512 (bk lines 256 1 26)) 26 j
def lyT (seq was shape : Int) (lines : List Int) : Nat → Nat → Int
  | 0, _ => 0
  | k + 1, j => addF (lyT seq was shape lines k) 0 512 (lyU seq was shape lines) j
theorem syU_bd {was shape : Int} {lines : List Int} (hl : lines.length = 256) (h : InR (-268435455) 268435455 lines) (k j : Nat) (hk : k < 8) (hj : j < 64) : -4294967296 ≤ syU was shape lines k j ∧ syU was shape lines k j ≤ 4294967296 :=
  un_bd (wt_in _ _) (mk_bd (by decide) fun i => bk_in (N := 32) (seg_in h) rfl (seg_len hl hk) (.inr ⟨rfl, rfl⟩) i) j (by rw [wt_len]; exact hj)
theorem lyU_bd {seq was shape : Int} {lines : List Int} (hl : lines.length = 256) (h : InR (-268435455) 268435455 lines) (j : Nat) (hj : j < 512) : -4294967296 ≤ lyU seq was shape lines j ∧ lyU seq was shape lines j ≤ 4294967296 :=
  un_bd (wv_in _ _ _) (mk_bd (by decide) fun i => bk_in (N := 256) (fun k hk => h k hk) rfl hl (.inl ⟨rfl, rfl⟩) i) j (by rw [wv_len]; exact hj)
theorem syT_bd {was shape : Int} {lines : List Int} (hl : lines.length = 256) (h : InR (-268435455) 268435455 lines) : ∀ (k j : Nat), k ≤ 8 → -(4294967296 * (k : Int)) ≤ syT was shape lines k j ∧ syT was shape lines k j ≤ 4294967296 * (k : Int)
  | 0, j, _ => by simp [syT]
  | k + 1, j, hk => by
    have a := syT_bd hl h (was := was) (shape := shape) k j (by omega)
    simp only [syT, addF]
    split
    · have c := syU_bd hl h (was := was) (shape := shape) k (j - (112 + 32 * k)) (by omega) (by omega)
      omega
    · omega
theorem lyT_bd {seq was shape : Int} {lines : List Int} (hl : lines.length = 256) (h : InR (-268435455) 268435455 lines) : ∀ (k j : Nat), -(4294967296 * (k : Int)) ≤ lyT seq was shape lines k j ∧ lyT seq was shape lines k j ≤ 4294967296 * (k : Int)
  | 0, j => by simp [lyT]
  | k + 1, j => by
    have a := lyT_bd hl h (seq := seq) (was := was) (shape := shape) k j
    simp only [lyT, addF]
    split
    · have c := lyU_bd hl h (seq := seq) (was := was) (shape := shape) (j - 0) (by omega)
      omega
    · omega

set_option maxRecDepth 100000 in
set_option maxHeartbeats 8000000 in
theorem syn_T (was shape : Int) (A : Option Addr) (cap : Nat) (lines : List Int) (w : World) (hl : lines.length = 256) (hcap : 256 ≤ cap) (hcm : cap ≤ maxLen) (rd : RdA w A lines) (hin : InR (-268435455) 268435455 lines) (hwas : was = 0 ∨ was = 1) (hshape : shape = 0 ∨ shape = 1) :
    Calls Try.prog 14 #[.int .u8 2, .int .u8 was, .int .u8 shape, .slice A 256 cap] w fun e w' => ∃ g, e = .returned (.tuple #[.slice (some ⟨g, 0, none⟩) 512 512, .int .i64 0]) ∧ w.heap.size ≤ g ∧ w'.rowIs g 3 512 (fun j => .int .i64 (syT was shape lines 8 j)) ∧ Below w.heap.size w w' := by
  obtain ⟨i0, hi, hz0, hz1, hz2⟩ := info_parts Fx.info3
  obtain ⟨b, off, rfl, hbl, _⟩ := rd 0 (by omega)
  unfold maxLen at hcm
  have HM := Lib.hid (fun W => may_ok 2 was shape W true (by symm; exact decide_eq_true ⟨by decide, by omega, by omega⟩))
  have HI := Lib.hid (in_yes (some ⟨b, off, none⟩) cap lines 256 (-268435455) 268435455 _ hl (by decide) rd hin)
  have HK := Lib.hid (fun W => maker_ok 2 was shape W)
  have hmk : (Instr.makeSlice 22 (.int .i64 512) (.int .i64 512)).run Try.prog w = .ok (.slice (some ⟨w.heap.size, 0, none⟩) 512 512) (w.alloc (.cells (madeCells #[.int .i64 0] 512) 3)) := run_make_row (P := Try.prog) 22 3 i0 (.int .i64 0) Try.underlying22 hi hz0 hz1 rfl .i64 .i64 512 (by rw [hz2]; omega) (by omega) w
  have R0 := Lib.hid ((World.rowIs_made w (.int .i64 0) 512 3).congr (g := fun j => .int .i64 (syT was shape lines 0 j)) fun j _ => by simp [syT])
  have RD := Lib.hid rd
  have HIN := Lib.hid hin
  have HL := Lib.hid hl
  have Hwas := Lib.hid hwas
  have Hshape := Lib.hid hshape
  clear rd hin hl hwas hshape
  refine (callsIn_wide (n := 5)).1 ?_
  refine callsIn_of_wp_marks Try.func14 rfl trivial ?_ rfl
  simp only [Try.ntmps14, List.size_toArray, List.length_cons, List.length_nil, Nat.reduceAdd, Nat.reduceSub, Array.replicate_succ, Array.replicate_zero, List.push_toArray, List.append_toArray, List.nil_append, List.cons_append]
  gi_wp2_with first
    | (refine ⟨trivial, ?_⟩; gi_at_call 31; refine (callsIn_wide.2 (HM.out _)).mono ?_; rintro e w1 ⟨rfl, rfl⟩)
    | (refine ⟨trivial, ?_⟩; gi_at_call 33; refine (callsIn_wide.2 (HI.out)).mono ?_; rintro e w1 ⟨rfl, rfl⟩)
    | (refine ⟨trivial, ?_⟩; gi_at_call 34; refine (callsIn_wide.2 (HK.out _)).mono ?_; rintro e w2 ⟨rfl, k1, k2, k3, k4, k5⟩; have K1 := Lib.hid k1; have K2 := Lib.hid k2; have K3 := Lib.hid k3; have K5 := Lib.hid k5; clear k1 k2 k3 k5)
  have hs2 : w2.heap.size = w.heap.size + 6 := by rw [k4]; simp
  clear k4
  simp only [World.size_alloc] at K1 K2 K3 K5
  have p0 : Below w.heap.size w (((w.alloc (.cells (madeCells #[.int .i64 0] 512) 3)).alloc (.cells #[.slice (some ⟨w.heap.size, 0, none⟩) 512 512] 22)).alloc (.cells #[.slice (some ⟨b, off, none⟩) 256 cap] 22)) := (((Below.refl _ w).alloc (Nat.le_refl _) _).alloc (by simp) _).alloc (by simp; omega) _
  have hB2 : Below w.heap.size w w2 := p0.trans (K5.out.mono (by omega))
  have hO2 : Boxed w2 (w.heap.size + 1) 22 (.slice (some ⟨w.heap.size, 0, none⟩) 512 512) := (K5.out.block _ (by omega)).trans (((Boxed.new (w.alloc (.cells (madeCells #[.int .i64 0] 512) 3)) 22 (.slice (some ⟨w.heap.size, 0, none⟩) 512 512)).alloc _).at_size (by simp))
  have hL2 : Boxed w2 (w.heap.size + 1 + 1) 22 (.slice (some ⟨b, off, none⟩) 256 cap) := (K5.out.block _ (by omega)).trans ((Boxed.new ((w.alloc (.cells (madeCells #[.int .i64 0] 512) 3)).alloc (.cells #[.slice (some ⟨w.heap.size, 0, none⟩) 512 512] 22)) 22 (.slice (some ⟨b, off, none⟩) 256 cap)).at_size (by simp))
  have hR2 : w2.rowIs w.heap.size 3 512 (fun j => .int .i64 (syT was shape lines 0 j)) := ((R0.out.alloc _).alloc _).of_block (K5.out.block _ (by omega))
  clear p0 R0 HM HI HK hmk K5
  obtain ⟨Bs, hBs⟩ : ∃ x, w.heap.size + 1 + 1 + 1 = x := ⟨_, rfl⟩
  rw [hBs] at K1 K2 K3 ⊢
  obtain ⟨Bl, hBl⟩ : ∃ x, w.heap.size + 1 + 1 = x := ⟨_, rfl⟩
  rw [hBl] at hL2 hBs ⊢
  obtain ⟨Bo, hBo⟩ : ∃ x, w.heap.size + 1 = x := ⟨_, rfl⟩
  rw [hBo] at hO2 hBl ⊢
  obtain ⟨go, hgo⟩ : ∃ x, w.heap.size = x := ⟨_, rfl⟩
  rw [hgo] at hO2 hR2 ⊢
  refine range_mem rfl (by decide) (gf := 48) (lb := #[.pointer (some ⟨Bs, 0, none⟩), .pointer (some ⟨Bs + 1, 0, none⟩), .pointer (some ⟨Bs + 2, 0, none⟩)]) rfl trivial (enters_of Try.func48 (by kernel_rfl) rfl)
    (WX.enc 64) (HxT (w2.heap.size + 1) was shape) (Tw Bs) 8 (fun k q => by have := q.2; omega) (fun _ => rfl)
    (fun l J W hl hW hlt hJ hY h0 => eight_in 4 (by decide) l Bs (w2.heap.size + 1) hl.symm was shape Hwas.out Hshape.out J W hlt hJ hY ((hW.block _ (by omega) (fun h => h)).trans K1.out) ((hW.block _ (by omega) (fun h => h)).trans K2.out) ((hW.block _ (by omega) (fun h => h)).trans K3.out) h0)
    (fun k W => (Boxed W Bo 22 (.slice (some ⟨go, 0, none⟩) 512 512) ∧ ∃ A, Boxed W Bl 22 (.slice A (256 - 32 * k) (cap - 32 * k)) ∧ (k < 8 → A = some ⟨b, off + 32 * k, none⟩)) ∧ W.rowIs go 3 512 (fun j => .int .i64 (syT was shape lines k j)) ∧ Below w.heap.size w W)
    (fun k X Y h hp => ?hI) ⟨⟨hO2, _, hL2, fun _ => rfl⟩, hR2, hB2⟩ (fun k x X o hs h => ?hHx)
    (fun x => { tmps := #[Value.int IntKind.u8 2, Value.int IntKind.u8 was, Value.int IntKind.u8 shape, Value.slice (some { block := b, off := off }) 256 cap, undef, undef, undef, undef, Value.slice none 0 0, Value.int IntKind.i64 0, Value.pointer (some { block := Bo, off := 0 }), Value.pointer (some { block := Bl, off := 0 }), .int .i64 x.pos, .slice (some ⟨x.row, 0, none⟩) 64 512, undef, undef, undef, undef, undef, Value.int IntKind.u8 2, Value.int IntKind.u8 was, Value.int IntKind.u8 shape, Value.bool true, Value.bool false, Value.slice (some { block := b, off := off }) 256 cap, Value.int IntKind.i64 256, Value.bool false, Value.slice (some { block := b, off := off }) 256 cap, Value.bool true, Value.bool false, Value.slice (some { block := go, off := 0 }) 512 512, Value.slice (some { block := b, off := off }) 256 cap, Value.int IntKind.u8 2, Value.int IntKind.u8 was, Value.int IntKind.u8 shape, Value.func (Fn.func 48) #[] #[Value.pointer (some { block := Bs, off := 0 }), Value.pointer (some { block := Bs + 1, off := 0 }), Value.pointer (some { block := Bs + 2, off := 0 })], .int .i64 x.pos, .slice (some ⟨x.row, 0, none⟩) 64 512, undef, undef, undef, undef, undef, undef, undef, undef, undef, undef, undef, undef, undef, undef, undef, undef, undef, undef, undef, undef, undef, undef, undef, undef, undef, undef, undef, undef, undef, undef, undef, undef, undef], defers := [] }) ?assign ?body ?done
  case hI =>
    obtain ⟨⟨h1, A, h2, hA⟩, h3, h4⟩ := h
    refine ⟨⟨(hp.block _ h1.lt (fun q => ?_)).trans h1, A, (hp.block _ h2.lt (fun q => ?_)).trans h2, hA⟩, h3.of_block (hp.block _ h3.lt (fun q => ?_)), h4.trans (hp.below h4.size (fun j q => ?_))⟩
    all_goals
      rcases q with q | q | q
      · have := q.1; omega
      · omega
      · omega
  case hHx =>
    obtain ⟨h1, h2, h3⟩ := h
    exact ⟨h1, h2, h3.of_block (World.putObj_heap_other (by omega))⟩
  case assign =>
    intro l x W K hK
    dsimp only [WX.enc]
    gi_wp2
    exact hK
  case body =>
    rintro l k ⟨pos, row⟩ W ⟨⟨h1, A, h2, hA⟩, h3, h4⟩ hk ⟨h5, h6, h7⟩ h8
    obtain rfl := hA hk
    dsimp only at h5 h6 h7 ⊢
    obtain ⟨P, hP⟩ : ∃ P : Nat, 112 + 32 * k = P := ⟨_, rfl⟩
    obtain rfl : pos = (P : Int) := by omega
    obtain ⟨Q, hQ⟩ : ∃ Q : Nat, 32 * k = Q := ⟨_, rfl⟩
    have HV0 : RdA W (some ⟨b, off + 32 * k, none⟩) (seg lines k) := seg_rd (RD.out.below h4)
    rw [hQ] at h2 HV0
    obtain ⟨M, hM⟩ : ∃ M : Nat, 256 - Q = M := ⟨_, rfl⟩
    obtain ⟨C, hC⟩ : ∃ C : Nat, cap - Q = C := ⟨_, rfl⟩
    rw [hM, hC] at h2
    have m0 : 32 ≤ M := by omega
    have m1 : M ≤ C := by omega
    have m2 : C ≤ 9223372036854775807 := by omega
    have cO := h1.cell
    have cL := h2.cell
    have fL := h2.frozen
    have HV := Lib.hid (inv_ok (some ⟨b, off + Q, none⟩) C (seg lines k) 32 64 32 8 23 W (seg_len HL.out hk) (.inr ⟨rfl, rfl, rfl, rfl, rfl⟩) HV0 (seg_in HIN.out))
    have hbk : ∀ j, -68719476736 ≤ bk (seg lines k) 32 8 23 j ∧ bk (seg lines k) 32 8 23 j ≤ 68719476736 := fun j => bk_in (N := 32) (seg_in HIN.out) rfl (seg_len HL.out hk) (.inr ⟨rfl, rfl⟩) j
    have HU := Lib.hid (fun W' gi ra rc => under_any (some ⟨row, 0, none⟩) (some ⟨gi, 0, none⟩) 512 64 (wt (if k = 0 then was else shape) shape) (mk 64 (bk (seg lines k) 32 8 23)) 64 64 26 W' (wt_len _ _) (mk_len _ _) (by omega) (by omega) ra rc (wt_in _ _) (fun j _ => by have := mk_bd (n := 64) (by decide) hbk j; omega) (by decide) (by decide))
    have hT : ∀ j, syT was shape lines (k + 1) j = addF (syT was shape lines k) P 64 (un (wt (if k = 0 then was else shape) shape) (mk 64 (bk (seg lines k) 32 8 23)) 26) j := fun j => by rw [← hP]; rfl
    have HT := Lib.hid hT
    have HUB := Lib.hid (fun j hj => syU_bd (was := was) (shape := shape) HL.out HIN.out k j hk hj)
    have HFB := Lib.hid (fun j => syT_bd (was := was) (shape := shape) HL.out HIN.out k j (Nat.le_of_lt hk))
    unfold syU at HUB
    have H1 := Lib.hid h1
    have H2 := Lib.hid h2
    have H3 := Lib.hid h3
    have H4 := Lib.hid h4
    have H7 := Lib.hid h7
    have q3 : P + 64 ≤ 512 := by omega
    have hPk := Lib.hid hP
    have hQk := Lib.hid hQ
    have hMk := Lib.hid hM
    have hCk := Lib.hid hC
    have hB2s := hB2.size
    clear hT h1 h2 h3 h4 h7 h5 hP hQ hM hC hA HV0 hbk
    generalize un (wt (if k = 0 then was else shape) shape) (mk 64 (bk (seg lines k) 32 8 23)) 26 = U at *
    by_cases hc : C = 32
    · obtain rfl : M = 32 := by omega
      subst hc
      gi_wp2_with first
        | (refine ⟨trivial, ?_⟩; gi_at_call 35; with_reducible refine (CallsIn.inRound l (callsIn_wide.2 (HV.out))).mono ?_; rintro e w3 ⟨gi, rfl, hgi, hri, hbi⟩; have b3 := Lib.hid hbi; have L3 := Lib.hid (H2.out.of_below hbi); have d3 := L3.out.cell; have e3 := L3.out.frozen; have ri3 := Lib.hid (hri.setOther (a := ⟨Bl, 0, none⟩) (show gi ≠ Bl by omega) (.slice (some ⟨b, off + Q, none⟩) 0 0)); have ro3 := Lib.hid ((H7.out.of_block (hbi.block row H7.out.lt)).setOther (a := ⟨Bl, 0, none⟩) (show row ≠ Bl by omega) (.slice (some ⟨b, off + Q, none⟩) 0 0)); have hu3 := Lib.hid (HU.out _ gi (row_rd ro3.out (by rw [wt_len]; omega)) (own_rd ri3.out)); have p3 : Hid (Part (fun j => j = Bl) W (w3.setCell ⟨Bl, 0, none⟩ (.slice (some ⟨b, off + Q, none⟩) 0 0))) := Lib.hid ((Part.of_below hbi).trans (Part.set _ rfl)); have s3 : Hid (Boxed (w3.setCell ⟨Bl, 0, none⟩ (.slice (some ⟨b, off + Q, none⟩) 0 0)) Bl 22 (.slice (some ⟨b, off + Q, none⟩) 0 0)) := Lib.hid (L3.out.set _); clear hri hbi)
        | (refine ⟨trivial, ?_⟩; gi_at_call 36; with_reducible refine (CallsIn.inRound l (callsIn_wide.2 (hu3.out))).mono ?_; rintro e w4 ⟨gu, rfl, hgu, hu, hbu⟩; have u4 := Lib.hid hu; have p4 := Lib.hid (p3.out.trans (Part.of_below hbu)); have s4 := Lib.hid (s3.out.of_below hbu); have g4 := hgu; clear hu hbu hgu)
      have szW : W.heap.size ≤ gu := by have := p3.out.size; omega
      have hgoW := H3.out.lt
      have hBoW := H1.out.lt
      have hBlW := H2.out.lt
      have x4 : Hid (Boxed w4 Bo 22 (.slice (some ⟨go, 0, none⟩) 512 512)) := Lib.hid ((p4.out.block Bo H1.out.lt (by omega)).trans H1.out)
      have r4 : Hid (w4.rowIs go 3 512 (fun j => .int .i64 (addF (syT was shape lines k) P 0 U j))) := Lib.hid ((p4.out.row H3.out (by omega)).congr fun j _ => by rw [addF_zero])
      have k4 := Lib.hid (Part.refl (fun j => j = go) w4)
      have hgl := u4.out.lt
      clear p3 hu3 ri3 ro3 L3 d3 e3 b3 HV HU s3 g4 cO cL fL
      gi_loopw [55] (fun i wr => ∃ n : Nat, n ≤ 64 ∧ i = .int .i64 n ∧ Hid (wr.rowIs go 3 512 (fun j => .int .i64 (addF (syT was shape lines k) P n U j))) ∧ Hid (Part (fun j => j = go) w4 wr)) (fun i _ => 64 - (intOf i).toNat)
      case atStart => exact ⟨0, by omega, rfl, r4, k4⟩
      case round =>
        obtain ⟨n, hn, rfl, hR, hP⟩ := hrel
        clear r4 k4
        by_cases hlt : n < 64
        · have cU := (hP.out.row u4.out (by omega)).cell hlt
          have xO : Boxed wr Bo 22 (.slice (some ⟨go, 0, none⟩) 512 512) := (hP.out.block Bo x4.out.lt (by omega)).trans x4.out
          have cO := xO.cell
          clear xO
          have cG := hR.out.cell (i := P + n) (by omega)
          rw [addF_at] at cG
          have fG := hR.out.frozen (P + n)
          have f1 := HFB.out (P + n)
          have f2 := HUB.out n hlt
          have R1 := Lib.hid (addF_step (v := syT was shape lines k (P + n) + U n) hR.out rfl)
          have P1 := Lib.hid (hP.out.trans (Part.set (p := ⟨go, P + n, none⟩) (.int .i64 (syT was shape lines k (P + n) + U n)) rfl))
          clear hR hP
          generalize syT was shape lines k (P + n) = X at *
          generalize U n = Y at *
          obtain ⟨f11, f12⟩ := f1
          obtain ⟨f21, f22⟩ := f2
          gi_wp2
          go_roundw
          case rel => exact ⟨n + 1, by omega, by go_num, R1, P1⟩
          case measure => simp [intOf]; omega
        · obtain rfl : n = 64 := by omega
          have R1 := hR.out
          have P1 := hP.out
          clear hR hP
          have hPk' := hPk.out
          have hQk' := hQk.out
          have hMk' := hMk.out
          have hCk' := hCk.out
          clear hgoW hBoW hBlW
          gi_wp2
          have hgoW := H3.out.lt
          have hBoW := H1.out.lt
          have hBlW := H2.out.lt
          refine ⟨⟨⟨(P1.block Bo x4.out.lt (by omega)).trans x4.out, (some ⟨b, off + Q, none⟩), ?_, fun h => ?_⟩, R1.congr fun j _ => by rw [HT.out], ?_⟩, ?_, fun j q => ?_⟩
          · rw [show 256 - 32 * (k + 1) = 0 by omega, show cap - 32 * (k + 1) = 0 by omega]
            exact (P1.block Bl s4.out.lt (by omega)).trans s4.out
          · exact absurd h (by omega)
          · exact (H4.out.trans (p4.out.below H4.out.size (fun j q => by omega))).trans (P1.below (by have := p4.out.size; have := H4.out.size; omega) (fun j q => by omega))
          · exact Nat.le_trans p4.out.size P1.size
          · have hj : j < W.heap.size ∧ Bl < j := by
              rcases q with q | q | q
              · have h1 := q.1; have h2 := q.2; omega
              · omega
              · omega
            exact (P1.block j (by have := p4.out.size; omega) (by omega)).trans (p4.out.block j hj.1 (by omega))
    · have hc3 : ¬ 32 = C := fun e => hc e.symm
      gi_wp2_with first
        | (refine ⟨trivial, ?_⟩; gi_at_call 35; with_reducible refine (CallsIn.inRound l (callsIn_wide.2 (HV.out))).mono ?_; rintro e w3 ⟨gi, rfl, hgi, hri, hbi⟩; have b3 := Lib.hid hbi; have L3 := Lib.hid (H2.out.of_below hbi); have d3 := L3.out.cell; have e3 := L3.out.frozen; have ri3 := Lib.hid (hri.setOther (a := ⟨Bl, 0, none⟩) (show gi ≠ Bl by omega) (.slice (some ⟨b, off + Q + 32, none⟩) (M - 32) (C - 32))); have ro3 := Lib.hid ((H7.out.of_block (hbi.block row H7.out.lt)).setOther (a := ⟨Bl, 0, none⟩) (show row ≠ Bl by omega) (.slice (some ⟨b, off + Q + 32, none⟩) (M - 32) (C - 32))); have hu3 := Lib.hid (HU.out _ gi (row_rd ro3.out (by rw [wt_len]; omega)) (own_rd ri3.out)); have p3 : Hid (Part (fun j => j = Bl) W (w3.setCell ⟨Bl, 0, none⟩ (.slice (some ⟨b, off + Q + 32, none⟩) (M - 32) (C - 32)))) := Lib.hid ((Part.of_below hbi).trans (Part.set _ rfl)); have s3 : Hid (Boxed (w3.setCell ⟨Bl, 0, none⟩ (.slice (some ⟨b, off + Q + 32, none⟩) (M - 32) (C - 32))) Bl 22 (.slice (some ⟨b, off + Q + 32, none⟩) (M - 32) (C - 32))) := Lib.hid (L3.out.set _); clear hri hbi)
        | (refine ⟨trivial, ?_⟩; gi_at_call 36; with_reducible refine (CallsIn.inRound l (callsIn_wide.2 (hu3.out))).mono ?_; rintro e w4 ⟨gu, rfl, hgu, hu, hbu⟩; have u4 := Lib.hid hu; have p4 := Lib.hid (p3.out.trans (Part.of_below hbu)); have s4 := Lib.hid (s3.out.of_below hbu); have g4 := hgu; clear hu hbu hgu)
      have szW : W.heap.size ≤ gu := by have := p3.out.size; omega
      have hgoW := H3.out.lt
      have hBoW := H1.out.lt
      have hBlW := H2.out.lt
      have x4 : Hid (Boxed w4 Bo 22 (.slice (some ⟨go, 0, none⟩) 512 512)) := Lib.hid ((p4.out.block Bo H1.out.lt (by omega)).trans H1.out)
      have r4 : Hid (w4.rowIs go 3 512 (fun j => .int .i64 (addF (syT was shape lines k) P 0 U j))) := Lib.hid ((p4.out.row H3.out (by omega)).congr fun j _ => by rw [addF_zero])
      have k4 := Lib.hid (Part.refl (fun j => j = go) w4)
      have hgl := u4.out.lt
      clear p3 hu3 ri3 ro3 L3 d3 e3 b3 HV HU s3 g4 cO cL fL
      gi_loopw [55] (fun i wr => ∃ n : Nat, n ≤ 64 ∧ i = .int .i64 n ∧ Hid (wr.rowIs go 3 512 (fun j => .int .i64 (addF (syT was shape lines k) P n U j))) ∧ Hid (Part (fun j => j = go) w4 wr)) (fun i _ => 64 - (intOf i).toNat)
      case atStart => exact ⟨0, by omega, rfl, r4, k4⟩
      case round =>
        obtain ⟨n, hn, rfl, hR, hP⟩ := hrel
        clear r4 k4
        by_cases hlt : n < 64
        · have cU := (hP.out.row u4.out (by omega)).cell hlt
          have xO : Boxed wr Bo 22 (.slice (some ⟨go, 0, none⟩) 512 512) := (hP.out.block Bo x4.out.lt (by omega)).trans x4.out
          have cO := xO.cell
          clear xO
          have cG := hR.out.cell (i := P + n) (by omega)
          rw [addF_at] at cG
          have fG := hR.out.frozen (P + n)
          have f1 := HFB.out (P + n)
          have f2 := HUB.out n hlt
          have R1 := Lib.hid (addF_step (v := syT was shape lines k (P + n) + U n) hR.out rfl)
          have P1 := Lib.hid (hP.out.trans (Part.set (p := ⟨go, P + n, none⟩) (.int .i64 (syT was shape lines k (P + n) + U n)) rfl))
          clear hR hP
          generalize syT was shape lines k (P + n) = X at *
          generalize U n = Y at *
          obtain ⟨f11, f12⟩ := f1
          obtain ⟨f21, f22⟩ := f2
          gi_wp2
          go_roundw
          case rel => exact ⟨n + 1, by omega, by go_num, R1, P1⟩
          case measure => simp [intOf]; omega
        · obtain rfl : n = 64 := by omega
          have R1 := hR.out
          have P1 := hP.out
          clear hR hP
          have hPk' := hPk.out
          have hQk' := hQk.out
          have hMk' := hMk.out
          have hCk' := hCk.out
          clear hgoW hBoW hBlW
          gi_wp2
          have hgoW := H3.out.lt
          have hBoW := H1.out.lt
          have hBlW := H2.out.lt
          refine ⟨⟨⟨(P1.block Bo x4.out.lt (by omega)).trans x4.out, (some ⟨b, off + Q + 32, none⟩), ?_, fun h => ?_⟩, R1.congr fun j _ => by rw [HT.out], ?_⟩, ?_, fun j q => ?_⟩
          · rw [show 256 - 32 * (k + 1) = (M - 32) by omega, show cap - 32 * (k + 1) = (C - 32) by omega]
            exact (P1.block Bl s4.out.lt (by omega)).trans s4.out
          · rw [show off + 32 * (k + 1) = off + Q + 32 by omega]
          · exact (H4.out.trans (p4.out.below H4.out.size (fun j q => by omega))).trans (P1.below (by have := p4.out.size; have := H4.out.size; omega) (fun j q => by omega))
          · exact Nat.le_trans p4.out.size P1.size
          · have hj : j < W.heap.size ∧ Bl < j := by
              rcases q with q | q | q
              · have h1 := q.1; have h2 := q.2; omega
              · omega
              · omega
            exact (P1.block j (by have := p4.out.size; omega) (by omega)).trans (p4.out.block j hj.1 (by omega))
  case done =>
    rintro W ⟨⟨h1, A, h2, hA⟩, h3, h4⟩ hlt hD
    have c1 := h1.cell
    gi_wp2
    refine ⟨by simp, .inl ⟨_, _, rfl, run_takeDeferred hD, ?_⟩⟩
    refine ⟨_, results_tmp2 rfl _ _ _, go, rfl, by omega, ?_, ?_⟩
    · exact h3.of_block (World.putObj_heap_other (by omega))
    · exact h4.trans ((Part.put (T := fun j => j = w2.heap.size) (.deferred none) rfl).below h4.size (fun j q => by omega))
set_option maxRecDepth 100000 in
set_option maxHeartbeats 8000000 in
theorem syn_L (seq was shape : Int) (A : Option Addr) (cap : Nat) (lines : List Int) (w : World) (hl : lines.length = 256) (hcap : 256 ≤ cap) (hcm : cap ≤ maxLen) (rd : RdA w A lines) (hin : InR (-268435455) 268435455 lines) (hseq : seq = 0 ∨ seq = 1 ∨ seq = 3) (hwas : was = 0 ∨ was = 1) (hshape : shape = 0 ∨ shape = 1) :
    Calls Try.prog 14 #[.int .u8 seq, .int .u8 was, .int .u8 shape, .slice A 256 cap] w fun e w' => ∃ g, e = .returned (.tuple #[.slice (some ⟨g, 0, none⟩) 512 512, .int .i64 0]) ∧ w.heap.size ≤ g ∧ w'.rowIs g 3 512 (fun j => .int .i64 (lyT seq was shape lines 1 j)) ∧ Below w.heap.size w w' := by
  obtain ⟨i0, hi, hz0, hz1, hz2⟩ := info_parts Fx.info3
  obtain ⟨b, off, rfl, hbl, _⟩ := rd 0 (by omega)
  unfold maxLen at hcm
  have HM := Lib.hid (fun W => may_ok seq was shape W true (by symm; exact decide_eq_true ⟨by omega, by omega, by omega⟩))
  have HI := Lib.hid (in_yes (some ⟨b, off, none⟩) cap lines 256 (-268435455) 268435455 _ hl (by decide) rd hin)
  have HK := Lib.hid (fun W => maker_ok seq was shape W)
  have hmk : (Instr.makeSlice 22 (.int .i64 512) (.int .i64 512)).run Try.prog w = .ok (.slice (some ⟨w.heap.size, 0, none⟩) 512 512) (w.alloc (.cells (madeCells #[.int .i64 0] 512) 3)) := run_make_row (P := Try.prog) 22 3 i0 (.int .i64 0) Try.underlying22 hi hz0 hz1 rfl .i64 .i64 512 (by rw [hz2]; omega) (by omega) w
  have R0 := Lib.hid ((World.rowIs_made w (.int .i64 0) 512 3).congr (g := fun j => .int .i64 (lyT seq was shape lines 0 j)) fun j _ => by simp [lyT])
  have RD := Lib.hid rd
  have HIN := Lib.hid hin
  have HL := Lib.hid hl
  have Hseq := Lib.hid hseq
  have Hwas := Lib.hid hwas
  have Hshape := Lib.hid hshape
  clear rd hin hl hseq hwas hshape
  refine (callsIn_wide (n := 5)).1 ?_
  refine callsIn_of_wp_marks Try.func14 rfl trivial ?_ rfl
  simp only [Try.ntmps14, List.size_toArray, List.length_cons, List.length_nil, Nat.reduceAdd, Nat.reduceSub, Array.replicate_succ, Array.replicate_zero, List.push_toArray, List.append_toArray, List.nil_append, List.cons_append]
  gi_wp2_with first
    | (refine ⟨trivial, ?_⟩; gi_at_call 31; refine (callsIn_wide.2 (HM.out _)).mono ?_; rintro e w1 ⟨rfl, rfl⟩)
    | (refine ⟨trivial, ?_⟩; gi_at_call 33; refine (callsIn_wide.2 (HI.out)).mono ?_; rintro e w1 ⟨rfl, rfl⟩)
    | (refine ⟨trivial, ?_⟩; gi_at_call 34; refine (callsIn_wide.2 (HK.out _)).mono ?_; rintro e w2 ⟨rfl, k1, k2, k3, k4, k5⟩; have K1 := Lib.hid k1; have K2 := Lib.hid k2; have K3 := Lib.hid k3; have K5 := Lib.hid k5; clear k1 k2 k3 k5)
  have hs2 : w2.heap.size = w.heap.size + 6 := by rw [k4]; simp
  clear k4
  simp only [World.size_alloc] at K1 K2 K3 K5
  have p0 : Below w.heap.size w (((w.alloc (.cells (madeCells #[.int .i64 0] 512) 3)).alloc (.cells #[.slice (some ⟨w.heap.size, 0, none⟩) 512 512] 22)).alloc (.cells #[.slice (some ⟨b, off, none⟩) 256 cap] 22)) := (((Below.refl _ w).alloc (Nat.le_refl _) _).alloc (by simp) _).alloc (by simp; omega) _
  have hB2 : Below w.heap.size w w2 := p0.trans (K5.out.mono (by omega))
  have hO2 : Boxed w2 (w.heap.size + 1) 22 (.slice (some ⟨w.heap.size, 0, none⟩) 512 512) := (K5.out.block _ (by omega)).trans (((Boxed.new (w.alloc (.cells (madeCells #[.int .i64 0] 512) 3)) 22 (.slice (some ⟨w.heap.size, 0, none⟩) 512 512)).alloc _).at_size (by simp))
  have hL2 : Boxed w2 (w.heap.size + 1 + 1) 22 (.slice (some ⟨b, off, none⟩) 256 cap) := (K5.out.block _ (by omega)).trans ((Boxed.new ((w.alloc (.cells (madeCells #[.int .i64 0] 512) 3)).alloc (.cells #[.slice (some ⟨w.heap.size, 0, none⟩) 512 512] 22)) 22 (.slice (some ⟨b, off, none⟩) 256 cap)).at_size (by simp))
  have hR2 : w2.rowIs w.heap.size 3 512 (fun j => .int .i64 (lyT seq was shape lines 0 j)) := ((R0.out.alloc _).alloc _).of_block (K5.out.block _ (by omega))
  clear p0 R0 HM HI HK hmk K5
  obtain ⟨Bs, hBs⟩ : ∃ x, w.heap.size + 1 + 1 + 1 = x := ⟨_, rfl⟩
  rw [hBs] at K1 K2 K3 ⊢
  obtain ⟨Bl, hBl⟩ : ∃ x, w.heap.size + 1 + 1 = x := ⟨_, rfl⟩
  rw [hBl] at hL2 hBs ⊢
  obtain ⟨Bo, hBo⟩ : ∃ x, w.heap.size + 1 = x := ⟨_, rfl⟩
  rw [hBo] at hO2 hBl ⊢
  obtain ⟨go, hgo⟩ : ∃ x, w.heap.size = x := ⟨_, rfl⟩
  rw [hgo] at hO2 hR2 ⊢
  refine range_mem rfl (by decide) (gf := 48) (lb := #[.pointer (some ⟨Bs, 0, none⟩), .pointer (some ⟨Bs + 1, 0, none⟩), .pointer (some ⟨Bs + 2, 0, none⟩)]) rfl trivial (enters_of Try.func48 (by kernel_rfl) rfl)
    (WX.enc 512) (HxL (w2.heap.size + 1) (wv seq was shape)) (Tw Bs) 1 (fun k q => by have := q.2; omega) (fun _ => rfl)
    (fun l J W hl hW hlt hJ hY h0 => one_in 4 (by decide) l Bs (w2.heap.size + 1) hl.symm seq was shape Hseq.out Hwas.out Hshape.out J W hlt hJ hY ((hW.block _ (by omega) (fun h => h)).trans K1.out) ((hW.block _ (by omega) (fun h => h)).trans K2.out) ((hW.block _ (by omega) (fun h => h)).trans K3.out) h0)
    (fun k W => (Boxed W Bo 22 (.slice (some ⟨go, 0, none⟩) 512 512) ∧ ∃ A, Boxed W Bl 22 (.slice A (256 - 256 * k) (cap - 256 * k)) ∧ (k < 1 → A = some ⟨b, off + 256 * k, none⟩)) ∧ W.rowIs go 3 512 (fun j => .int .i64 (lyT seq was shape lines k j)) ∧ Below w.heap.size w W)
    (fun k X Y h hp => ?hI) ⟨⟨hO2, _, hL2, fun _ => rfl⟩, hR2, hB2⟩ (fun k x X o hs h => ?hHx)
    (fun x => { tmps := #[Value.int IntKind.u8 seq, Value.int IntKind.u8 was, Value.int IntKind.u8 shape, Value.slice (some { block := b, off := off }) 256 cap, undef, undef, undef, undef, Value.slice none 0 0, Value.int IntKind.i64 0, Value.pointer (some { block := Bo, off := 0 }), Value.pointer (some { block := Bl, off := 0 }), .int .i64 x.pos, .slice (some ⟨x.row, 0, none⟩) 512 512, undef, undef, undef, undef, undef, Value.int IntKind.u8 seq, Value.int IntKind.u8 was, Value.int IntKind.u8 shape, Value.bool true, Value.bool false, Value.slice (some { block := b, off := off }) 256 cap, Value.int IntKind.i64 256, Value.bool false, Value.slice (some { block := b, off := off }) 256 cap, Value.bool true, Value.bool false, Value.slice (some { block := go, off := 0 }) 512 512, Value.slice (some { block := b, off := off }) 256 cap, Value.int IntKind.u8 seq, Value.int IntKind.u8 was, Value.int IntKind.u8 shape, Value.func (Fn.func 48) #[] #[Value.pointer (some { block := Bs, off := 0 }), Value.pointer (some { block := Bs + 1, off := 0 }), Value.pointer (some { block := Bs + 2, off := 0 })], .int .i64 x.pos, .slice (some ⟨x.row, 0, none⟩) 512 512, undef, undef, undef, undef, undef, undef, undef, undef, undef, undef, undef, undef, undef, undef, undef, undef, undef, undef, undef, undef, undef, undef, undef, undef, undef, undef, undef, undef, undef, undef, undef, undef, undef], defers := [] }) ?assign ?body ?done
  case hI =>
    obtain ⟨⟨h1, A, h2, hA⟩, h3, h4⟩ := h
    refine ⟨⟨(hp.block _ h1.lt (fun q => ?_)).trans h1, A, (hp.block _ h2.lt (fun q => ?_)).trans h2, hA⟩, h3.of_block (hp.block _ h3.lt (fun q => ?_)), h4.trans (hp.below h4.size (fun j q => ?_))⟩
    all_goals
      rcases q with q | q | q
      · have := q.1; omega
      · omega
      · omega
  case hHx =>
    obtain ⟨h1, h2, h3⟩ := h
    exact ⟨h1, h2, h3.of_block (World.putObj_heap_other (by omega))⟩
  case assign =>
    intro l x W K hK
    dsimp only [WX.enc]
    gi_wp2
    exact hK
  case body =>
    rintro l k ⟨pos, row⟩ W ⟨⟨h1, A, h2, hA⟩, h3, h4⟩ hk ⟨h5, h6, h7⟩ h8
    obtain rfl := hA hk
    dsimp only at h5 h6 h7 ⊢
    obtain ⟨P, hP⟩ : ∃ P : Nat, 0 = P := ⟨_, rfl⟩
    obtain rfl : pos = (P : Int) := by omega
    obtain ⟨Q, hQ⟩ : ∃ Q : Nat, 256 * k = Q := ⟨_, rfl⟩
    have HV0 : RdA W (some ⟨b, off + 256 * k, none⟩) lines := (by obtain rfl : k = 0 := (by omega); exact RD.out.below h4)
    rw [hQ] at h2 HV0
    obtain ⟨M, hM⟩ : ∃ M : Nat, 256 - Q = M := ⟨_, rfl⟩
    obtain ⟨C, hC⟩ : ∃ C : Nat, cap - Q = C := ⟨_, rfl⟩
    rw [hM, hC] at h2
    have m0 : 256 ≤ M := by omega
    have m1 : M ≤ C := by omega
    have m2 : C ≤ 9223372036854775807 := by omega
    have cO := h1.cell
    have cL := h2.cell
    have fL := h2.frozen
    have HV := Lib.hid (inv_ok (some ⟨b, off + Q, none⟩) C lines 256 512 256 1 26 W HL.out (.inl ⟨rfl, rfl, rfl, rfl, rfl⟩) HV0 (fun k hk => HIN.out k hk))
    have hbk : ∀ j, -68719476736 ≤ bk lines 256 1 26 j ∧ bk lines 256 1 26 j ≤ 68719476736 := fun j => bk_in (N := 256) (fun k hk => HIN.out k hk) rfl HL.out (.inl ⟨rfl, rfl⟩) j
    have HU := Lib.hid (fun W' gi ra rc => under_any (some ⟨row, 0, none⟩) (some ⟨gi, 0, none⟩) 512 512 (wv seq was shape) (mk 512 (bk lines 256 1 26)) 512 512 26 W' (wv_len _ _ _) (mk_len _ _) (by omega) (by omega) ra rc (wv_in _ _ _) (fun j _ => by have := mk_bd (n := 512) (by decide) hbk j; omega) (by decide) (by decide))
    have hT : ∀ j, lyT seq was shape lines (k + 1) j = addF (lyT seq was shape lines k) P 512 (un (wv seq was shape) (mk 512 (bk lines 256 1 26)) 26) j := fun j => by rw [← hP]; rfl
    have HT := Lib.hid hT
    have HUB := Lib.hid (fun j hj => lyU_bd (seq := seq) (was := was) (shape := shape) HL.out HIN.out j hj)
    have HFB := Lib.hid (fun j => lyT_bd (seq := seq) (was := was) (shape := shape) HL.out HIN.out k j)
    unfold lyU at HUB
    have H1 := Lib.hid h1
    have H2 := Lib.hid h2
    have H3 := Lib.hid h3
    have H4 := Lib.hid h4
    have H7 := Lib.hid h7
    have q3 : P + 512 ≤ 512 := by omega
    have hPk := Lib.hid hP
    have hQk := Lib.hid hQ
    have hMk := Lib.hid hM
    have hCk := Lib.hid hC
    have hB2s := hB2.size
    clear hT h1 h2 h3 h4 h7 h5 hP hQ hM hC hA HV0 hbk
    generalize un (wv seq was shape) (mk 512 (bk lines 256 1 26)) 26 = U at *
    by_cases hc : C = 256
    · obtain rfl : M = 256 := by omega
      subst hc
      gi_wp2_with first
        | (refine ⟨trivial, ?_⟩; gi_at_call 35; with_reducible refine (CallsIn.inRound l (callsIn_wide.2 (HV.out))).mono ?_; rintro e w3 ⟨gi, rfl, hgi, hri, hbi⟩; have b3 := Lib.hid hbi; have L3 := Lib.hid (H2.out.of_below hbi); have d3 := L3.out.cell; have e3 := L3.out.frozen; have ri3 := Lib.hid (hri.setOther (a := ⟨Bl, 0, none⟩) (show gi ≠ Bl by omega) (.slice (some ⟨b, off + Q, none⟩) 0 0)); have ro3 := Lib.hid ((H7.out.of_block (hbi.block row H7.out.lt)).setOther (a := ⟨Bl, 0, none⟩) (show row ≠ Bl by omega) (.slice (some ⟨b, off + Q, none⟩) 0 0)); have hu3 := Lib.hid (HU.out _ gi (row_rd ro3.out (by rw [wv_len]; omega)) (own_rd ri3.out)); have p3 : Hid (Part (fun j => j = Bl) W (w3.setCell ⟨Bl, 0, none⟩ (.slice (some ⟨b, off + Q, none⟩) 0 0))) := Lib.hid ((Part.of_below hbi).trans (Part.set _ rfl)); have s3 : Hid (Boxed (w3.setCell ⟨Bl, 0, none⟩ (.slice (some ⟨b, off + Q, none⟩) 0 0)) Bl 22 (.slice (some ⟨b, off + Q, none⟩) 0 0)) := Lib.hid (L3.out.set _); clear hri hbi)
        | (refine ⟨trivial, ?_⟩; gi_at_call 36; with_reducible refine (CallsIn.inRound l (callsIn_wide.2 (hu3.out))).mono ?_; rintro e w4 ⟨gu, rfl, hgu, hu, hbu⟩; have u4 := Lib.hid hu; have p4 := Lib.hid (p3.out.trans (Part.of_below hbu)); have s4 := Lib.hid (s3.out.of_below hbu); have g4 := hgu; clear hu hbu hgu)
      have szW : W.heap.size ≤ gu := by have := p3.out.size; omega
      have hgoW := H3.out.lt
      have hBoW := H1.out.lt
      have hBlW := H2.out.lt
      have x4 : Hid (Boxed w4 Bo 22 (.slice (some ⟨go, 0, none⟩) 512 512)) := Lib.hid ((p4.out.block Bo H1.out.lt (by omega)).trans H1.out)
      have r4 : Hid (w4.rowIs go 3 512 (fun j => .int .i64 (addF (lyT seq was shape lines k) P 0 U j))) := Lib.hid ((p4.out.row H3.out (by omega)).congr fun j _ => by rw [addF_zero])
      have k4 := Lib.hid (Part.refl (fun j => j = go) w4)
      have hgl := u4.out.lt
      clear p3 hu3 ri3 ro3 L3 d3 e3 b3 HV HU s3 g4 cO cL fL
      gi_loopw [55] (fun i wr => ∃ n : Nat, n ≤ 512 ∧ i = .int .i64 n ∧ Hid (wr.rowIs go 3 512 (fun j => .int .i64 (addF (lyT seq was shape lines k) P n U j))) ∧ Hid (Part (fun j => j = go) w4 wr)) (fun i _ => 512 - (intOf i).toNat)
      case atStart => exact ⟨0, by omega, rfl, r4, k4⟩
      case round =>
        obtain ⟨n, hn, rfl, hR, hP⟩ := hrel
        clear r4 k4
        by_cases hlt : n < 512
        · have cU := (hP.out.row u4.out (by omega)).cell hlt
          have xO : Boxed wr Bo 22 (.slice (some ⟨go, 0, none⟩) 512 512) := (hP.out.block Bo x4.out.lt (by omega)).trans x4.out
          have cO := xO.cell
          clear xO
          have cG := hR.out.cell (i := P + n) (by omega)
          rw [addF_at] at cG
          have fG := hR.out.frozen (P + n)
          have f1 := HFB.out (P + n)
          have f2 := HUB.out n hlt
          have R1 := Lib.hid (addF_step (v := lyT seq was shape lines k (P + n) + U n) hR.out rfl)
          have P1 := Lib.hid (hP.out.trans (Part.set (p := ⟨go, P + n, none⟩) (.int .i64 (lyT seq was shape lines k (P + n) + U n)) rfl))
          clear hR hP
          generalize lyT seq was shape lines k (P + n) = X at *
          generalize U n = Y at *
          obtain ⟨f11, f12⟩ := f1
          obtain ⟨f21, f22⟩ := f2
          gi_wp2
          go_roundw
          case rel => exact ⟨n + 1, by omega, by go_num, R1, P1⟩
          case measure => simp [intOf]; omega
        · obtain rfl : n = 512 := by omega
          have R1 := hR.out
          have P1 := hP.out
          clear hR hP
          have hPk' := hPk.out
          have hQk' := hQk.out
          have hMk' := hMk.out
          have hCk' := hCk.out
          clear hgoW hBoW hBlW
          gi_wp2
          have hgoW := H3.out.lt
          have hBoW := H1.out.lt
          have hBlW := H2.out.lt
          refine ⟨⟨⟨(P1.block Bo x4.out.lt (by omega)).trans x4.out, (some ⟨b, off + Q, none⟩), ?_, fun h => ?_⟩, R1.congr fun j _ => by rw [HT.out], ?_⟩, ?_, fun j q => ?_⟩
          · rw [show 256 - 256 * (k + 1) = 0 by omega, show cap - 256 * (k + 1) = 0 by omega]
            exact (P1.block Bl s4.out.lt (by omega)).trans s4.out
          · exact absurd h (by omega)
          · exact (H4.out.trans (p4.out.below H4.out.size (fun j q => by omega))).trans (P1.below (by have := p4.out.size; have := H4.out.size; omega) (fun j q => by omega))
          · exact Nat.le_trans p4.out.size P1.size
          · have hj : j < W.heap.size ∧ Bl < j := by
              rcases q with q | q | q
              · have h1 := q.1; have h2 := q.2; omega
              · omega
              · omega
            exact (P1.block j (by have := p4.out.size; omega) (by omega)).trans (p4.out.block j hj.1 (by omega))
    · have hc3 : ¬ 256 = C := fun e => hc e.symm
      gi_wp2_with first
        | (refine ⟨trivial, ?_⟩; gi_at_call 35; with_reducible refine (CallsIn.inRound l (callsIn_wide.2 (HV.out))).mono ?_; rintro e w3 ⟨gi, rfl, hgi, hri, hbi⟩; have b3 := Lib.hid hbi; have L3 := Lib.hid (H2.out.of_below hbi); have d3 := L3.out.cell; have e3 := L3.out.frozen; have ri3 := Lib.hid (hri.setOther (a := ⟨Bl, 0, none⟩) (show gi ≠ Bl by omega) (.slice (some ⟨b, off + Q + 256, none⟩) (M - 256) (C - 256))); have ro3 := Lib.hid ((H7.out.of_block (hbi.block row H7.out.lt)).setOther (a := ⟨Bl, 0, none⟩) (show row ≠ Bl by omega) (.slice (some ⟨b, off + Q + 256, none⟩) (M - 256) (C - 256))); have hu3 := Lib.hid (HU.out _ gi (row_rd ro3.out (by rw [wv_len]; omega)) (own_rd ri3.out)); have p3 : Hid (Part (fun j => j = Bl) W (w3.setCell ⟨Bl, 0, none⟩ (.slice (some ⟨b, off + Q + 256, none⟩) (M - 256) (C - 256)))) := Lib.hid ((Part.of_below hbi).trans (Part.set _ rfl)); have s3 : Hid (Boxed (w3.setCell ⟨Bl, 0, none⟩ (.slice (some ⟨b, off + Q + 256, none⟩) (M - 256) (C - 256))) Bl 22 (.slice (some ⟨b, off + Q + 256, none⟩) (M - 256) (C - 256))) := Lib.hid (L3.out.set _); clear hri hbi)
        | (refine ⟨trivial, ?_⟩; gi_at_call 36; with_reducible refine (CallsIn.inRound l (callsIn_wide.2 (hu3.out))).mono ?_; rintro e w4 ⟨gu, rfl, hgu, hu, hbu⟩; have u4 := Lib.hid hu; have p4 := Lib.hid (p3.out.trans (Part.of_below hbu)); have s4 := Lib.hid (s3.out.of_below hbu); have g4 := hgu; clear hu hbu hgu)
      have szW : W.heap.size ≤ gu := by have := p3.out.size; omega
      have hgoW := H3.out.lt
      have hBoW := H1.out.lt
      have hBlW := H2.out.lt
      have x4 : Hid (Boxed w4 Bo 22 (.slice (some ⟨go, 0, none⟩) 512 512)) := Lib.hid ((p4.out.block Bo H1.out.lt (by omega)).trans H1.out)
      have r4 : Hid (w4.rowIs go 3 512 (fun j => .int .i64 (addF (lyT seq was shape lines k) P 0 U j))) := Lib.hid ((p4.out.row H3.out (by omega)).congr fun j _ => by rw [addF_zero])
      have k4 := Lib.hid (Part.refl (fun j => j = go) w4)
      have hgl := u4.out.lt
      clear p3 hu3 ri3 ro3 L3 d3 e3 b3 HV HU s3 g4 cO cL fL
      gi_loopw [55] (fun i wr => ∃ n : Nat, n ≤ 512 ∧ i = .int .i64 n ∧ Hid (wr.rowIs go 3 512 (fun j => .int .i64 (addF (lyT seq was shape lines k) P n U j))) ∧ Hid (Part (fun j => j = go) w4 wr)) (fun i _ => 512 - (intOf i).toNat)
      case atStart => exact ⟨0, by omega, rfl, r4, k4⟩
      case round =>
        obtain ⟨n, hn, rfl, hR, hP⟩ := hrel
        clear r4 k4
        by_cases hlt : n < 512
        · have cU := (hP.out.row u4.out (by omega)).cell hlt
          have xO : Boxed wr Bo 22 (.slice (some ⟨go, 0, none⟩) 512 512) := (hP.out.block Bo x4.out.lt (by omega)).trans x4.out
          have cO := xO.cell
          clear xO
          have cG := hR.out.cell (i := P + n) (by omega)
          rw [addF_at] at cG
          have fG := hR.out.frozen (P + n)
          have f1 := HFB.out (P + n)
          have f2 := HUB.out n hlt
          have R1 := Lib.hid (addF_step (v := lyT seq was shape lines k (P + n) + U n) hR.out rfl)
          have P1 := Lib.hid (hP.out.trans (Part.set (p := ⟨go, P + n, none⟩) (.int .i64 (lyT seq was shape lines k (P + n) + U n)) rfl))
          clear hR hP
          generalize lyT seq was shape lines k (P + n) = X at *
          generalize U n = Y at *
          obtain ⟨f11, f12⟩ := f1
          obtain ⟨f21, f22⟩ := f2
          gi_wp2
          go_roundw
          case rel => exact ⟨n + 1, by omega, by go_num, R1, P1⟩
          case measure => simp [intOf]; omega
        · obtain rfl : n = 512 := by omega
          have R1 := hR.out
          have P1 := hP.out
          clear hR hP
          have hPk' := hPk.out
          have hQk' := hQk.out
          have hMk' := hMk.out
          have hCk' := hCk.out
          clear hgoW hBoW hBlW
          gi_wp2
          have hgoW := H3.out.lt
          have hBoW := H1.out.lt
          have hBlW := H2.out.lt
          refine ⟨⟨⟨(P1.block Bo x4.out.lt (by omega)).trans x4.out, (some ⟨b, off + Q + 256, none⟩), ?_, fun h => ?_⟩, R1.congr fun j _ => by rw [HT.out], ?_⟩, ?_, fun j q => ?_⟩
          · rw [show 256 - 256 * (k + 1) = (M - 256) by omega, show cap - 256 * (k + 1) = (C - 256) by omega]
            exact (P1.block Bl s4.out.lt (by omega)).trans s4.out
          · rw [show off + 256 * (k + 1) = off + Q + 256 by omega]
          · exact (H4.out.trans (p4.out.below H4.out.size (fun j q => by omega))).trans (P1.below (by have := p4.out.size; have := H4.out.size; omega) (fun j q => by omega))
          · exact Nat.le_trans p4.out.size P1.size
          · have hj : j < W.heap.size ∧ Bl < j := by
              rcases q with q | q | q
              · have h1 := q.1; have h2 := q.2; omega
              · omega
              · omega
            exact (P1.block j (by have := p4.out.size; omega) (by omega)).trans (p4.out.block j hj.1 (by omega))
  case done =>
    rintro W ⟨⟨h1, A, h2, hA⟩, h3, h4⟩ hlt hD
    have c1 := h1.cell
    gi_wp2
    refine ⟨by simp, .inl ⟨_, _, rfl, run_takeDeferred hD, ?_⟩⟩
    refine ⟨_, results_tmp2 rfl _ _ _, go, rfl, by omega, ?_, ?_⟩
    · exact h3.of_block (World.putObj_heap_other (by omega))
    · exact h4.trans ((Part.put (T := fun j => j = w2.heap.size) (.deferred none) rfl).below h4.size (fun j q => by omega))
end Go.Proofs.Yteknakakefhbmaa.Bl
