/- Samples analysed. -/
import Derived.Test.YteknakakefhbmaaBlIt
import Derived.RangeFuncNested
import Derived.RangeFuncBound
import Derived.RangeFuncCalls
import Derived.RangeFuncLeaves
import Derived.RangeFuncBox
import Derived.Shelf.Abstract
import Derived.Shelf.AbstractIn
import Derived.Shelf.RegionOpen
import Derived.WalkKit
import Derived.OwnWalkIn
import Derived.TacticsInMore
import Derived.LoopNIn
import Derived.LoopIn
import Derived.Maps.AppendAt
import Derived.ProofKit
import Derived.OpenShut
import Derived.Deep.OwnRows
import Derived.Lib.Hide
namespace Go.Proofs.Yteknakakefhbmaa.Bl
open Go Go.ChangeShapes Go.WideShapes Go.ChangeAt Go.RowKit Go.Shelf Go.Proofs.Yteknakakefhbmaa.Fx Go.Proofs.Yteknakakefhbmaa.Rk Go.Proofs.Yteknakakefhbmaa.Rg Go.Proofs.Yteknakakefhbmaa.Mm Go.Proofs.Yteknakakefhbmaa.Md

attribute [local go_sem] Oper.semAt_some

def allLe (M : Nat) : List Nat → Bool
  | [] => true
  | x :: xs => and (Nat.ble x M) (allLe M xs)
theorem allLe_at {M : Nat} : ∀ {xs : List Nat} {j : Nat}, allLe M xs = true → xs.getD j 0 ≤ M
  | [], _, _ => by simp
  | x :: xs, 0, h => by simp only [allLe, Bool.and_eq_true] at h; exact Nat.le_of_ble_eq_true h.1
  | x :: xs, j + 1, h => by simp only [allLe, Bool.and_eq_true] at h; simpa using allLe_at (j := j) h.2
theorem le_sl : allLe 4194304 win_sl = true := by kernel_rfl
theorem le_ss : allLe 4194304 win_ss = true := by kernel_rfl
theorem le_kl : allLe 4194304 win_kl = true := by kernel_rfl
theorem le_ks : allLe 4194304 win_ks = true := by kernel_rfl
theorem hf_in (sh : Int) (b : Bool) (j : Nat) : 0 ≤ hf sh b j ∧ hf sh b j ≤ 4194304 := by
  unfold hf hv
  split <;> cases b
  · have := allLe_at (j := j) le_sl; simp only [Bool.false_eq_true, if_false]; omega
  · have := allLe_at (j := j) le_ss; simp only [if_true]; omega
  · have := allLe_at (j := j) le_kl; simp only [Bool.false_eq_true, if_false]; omega
  · have := allLe_at (j := j) le_ks; simp only [if_true]; omega
theorem inR_mk {lo hi : Int} {n : Nat} {F : Nat → Int} (h : ∀ j, lo ≤ F j ∧ F j ≤ hi) : InR lo hi (mk n F) := fun j hj => by rw [mk_len] at hj; rw [mk_at hj]; exact h j
theorem inR_app {lo hi : Int} {a b : List Int} (ha : InR lo hi a) (hb : InR lo hi b) : InR lo hi (a ++ b) := fun j hj => by
  by_cases h : j < a.length
  · have e : (a ++ b).getD j 0 = a.getD j 0 := by simp [List.getD_eq_getElem?_getD, List.getElem?_append_left h]
    rw [e]; exact ha j h
  · have e : (a ++ b).getD j 0 = b.getD (j - a.length) 0 := by simp [List.getD_eq_getElem?_getD, List.getElem?_append_right (show a.length ≤ j by omega)]
    rw [e]; exact hb _ (by simp at hj; omega)
theorem inR_rep {lo hi x : Int} {n : Nat} (h0 : lo ≤ x) (h1 : x ≤ hi) : InR lo hi (List.replicate n x) := fun j hj => by
  rw [List.length_replicate] at hj
  simp [List.getD_eq_getElem?_getD, hj]; omega
theorem pc_in (was shape p : Int) : InR 0 4194304 (pc was shape p) := by
  unfold pc
  repeat' split
  · exact inR_mk fun j => hf_in _ _ _
  · exact inR_mk fun j => hf_in _ _ _
  · exact inR_rep (by decide) (by decide)
  · exact inR_rep (by decide) (by decide)
  · exact inR_mk fun j => hf_in _ _ _
  · exact inR_mk fun j => hf_in _ _ _
theorem acc_in (was shape : Int) (zs : List Int) : ∀ k, InR 0 4194304 (acc was shape zs k)
  | 0 => fun j hj => by simp [acc] at hj
  | k + 1 => inR_app (acc_in was shape zs k) (pc_in _ _ _)
theorem wv_in (seq was shape : Int) : InR 0 4194304 (wv seq was shape) := by
  unfold wv
  repeat' split
  all_goals exact acc_in _ _ _ _
theorem wt_in (was shape : Int) : InR 0 4194304 (wt was shape) := acc_in _ _ _ _
theorem row_rd {w : World} {g N : Nat} {L : List Int} (r : w.rowIs g 3 N (fun j => .int .i64 (L.getD j 0))) (h : L.length ≤ N) : RdA w (some ⟨g, 0, none⟩) L := fun i hi =>
  ⟨g, 0, rfl, r.lt, by rw [Nat.zero_add, r.cell (by omega)]⟩
theorem rd_drop {w : World} {b off p : Nat} {L : List Int} (r : RdA w (some ⟨b, off, none⟩) L) : RdA w (some ⟨b, off + p, none⟩) (L.drop p) := fun i hi => by
  have hi2 : p + i < L.length := by simp at hi; omega
  obtain ⟨b', o', e, h1, h2⟩ := r (p + i) hi2
  simp only [Option.some.injEq, Addr.mk.injEq, and_true] at e
  obtain ⟨rfl, rfl⟩ := e
  exact ⟨b, off + p, rfl, h1, by rw [show off + p + i = off + (p + i) by omega, h2]; simp [List.getD_eq_getElem?_getD, List.getElem?_drop]⟩
theorem inR_drop {lo hi : Int} {L : List Int} {p : Nat} (h : InR lo hi L) : InR lo hi (L.drop p) := fun j hj => by
  have := h (p + j) (by simp at hj; omega)
  simpa [List.getD_eq_getElem?_getD, List.getElem?_drop] using this
/-- Samples under a window are no greater than the transform lets them be. -/
theorem un_in {ws ls : List Int} {n : Nat} (hw : InR 0 4194304 ws) (hl : InR (-32768) 32767 ls) (hn : n ≤ ws.length) (hm : n ≤ ls.length) : InM 8388608 (mk n (un ws ls 14)) := fun j hj => by
  rw [mk_len] at hj
  rw [mk_at hj]
  unfold un
  obtain ⟨a, b⟩ := hw j (by omega)
  obtain ⟨c, d⟩ := hl j (by omega)
  have p := mul_in (M := 32768) (by omega) (by omega) a b
  generalize ls.getD j 0 * ws.getD j 0 = q at *
  unfold rnd
  simp
  omega

theorem own_block {w w' : World} {base e s g n cap : Nat} {xs : List Value} {k : Nat} (h : w.ownsRow base e s (.slice (some ⟨g, 0, none⟩) n cap) k xs) (hb : w'.heap[g]? = w.heap[g]?) : w'.ownsRow base e s (.slice (some ⟨g, 0, none⟩) n cap) k xs := by
  obtain ⟨h1, h2⟩ := h
  refine ⟨h1, ?_⟩
  rcases h2 with ⟨h, _⟩ | ⟨g', cap', cur, h, h3, h4, h5⟩
  · cases h
  · refine .inr ⟨g', cap', cur, h, h3, ?_, h5⟩
    simp only [Value.slice.injEq, Option.some.injEq, Addr.mk.injEq, and_true] at h
    rw [← h.1, hb, h.1]
    exact h4
theorem own_lt {w : World} {base e s g n cap : Nat} {xs : List Value} {k : Nat} (h : w.ownsRow base e s (.slice (some ⟨g, 0, none⟩) n cap) k xs) : g < w.heap.size := by
  rcases h.2 with ⟨h, _⟩ | ⟨g', cap', cur, h, h3, h4, h5⟩
  · cases h
  · simp only [Value.slice.injEq, Option.some.injEq, Addr.mk.injEq, and_true] at h
    rw [h.1]
    exact (Array.getElem?_eq_some_iff.1 h4).1
theorem inR_wide {zs : List Int} (h : InR (-32768) 32767 zs) : InR (-137438953472) 137438953472 zs := fun j hj => by have := h j hj; omega
/-- Lines of samples. -/
def anL (seq was shape : Int) (pcm : List Int) : List Int := mk 256 (fw (mk 512 (un (wv seq was shape) pcm 14)) 256 1)
def anT1 (was shape : Int) (pcm : List Int) (k : Nat) : List Int := mk 32 (fw (mk 64 (un (wt (if k = 0 then was else shape) shape) (pcm.drop (112 + 32 * k)) 14)) 32 8)
def anT (was shape : Int) (pcm : List Int) : Nat → List Int
  | 0 => []
  | k + 1 => anT was shape pcm k ++ anT1 was shape pcm k
theorem anT_len (was shape : Int) (pcm : List Int) : ∀ k, (anT was shape pcm k).length = 32 * k
  | 0 => rfl
  | k + 1 => by simp only [anT, List.length_append, anT_len was shape pcm k, anT1, mk_len]; omega

set_option maxRecDepth 100000 in
set_option maxHeartbeats 4000000 in
theorem ana_T (was shape : Int) (A : Option Addr) (cap : Nat) (pcm : List Int) (w : World) (hl : pcm.length = 512) (hcap : 512 ≤ cap) (hcm : cap ≤ maxLen) (rd : RdA w A pcm) (hin : InR (-32768) 32767 pcm) (hwas : was = 0 ∨ was = 1) (hshape : shape = 0 ∨ shape = 1) :
    Calls Try.prog 15 #[.int .u8 2, .int .u8 was, .int .u8 shape, .slice A 512 cap] w fun e w' => ∃ g, e = .returned (.tuple #[.slice (some ⟨g, 0, none⟩) 256 256, .int .i64 0]) ∧ w.heap.size ≤ g ∧ Fx.Own w.heap.size w' (.slice (some ⟨g, 0, none⟩) 256 256) (anT was shape pcm 8) ∧ Below w.heap.size w w' := by
  obtain ⟨i0, hi, hz0, hz1, hz2⟩ := info_parts Fx.info3
  obtain ⟨b, off, rfl, hbl, _⟩ := rd 0 (by omega)
  unfold maxLen at hcm
  have bP := Lib.hid (Boxed.new w 22 (.slice (some ⟨b, off, none⟩) 512 cap))
  have cP := (Boxed.new w 22 (.slice (some ⟨b, off, none⟩) 512 cap)).cell
  have p0 : Below w.heap.size w (w.alloc (.cells #[.slice (some ⟨b, off, none⟩) 512 cap] 22)) := (Below.refl _ w).alloc (Nat.le_refl _) _
  have HM := Lib.hid (fun W => may_ok 2 was shape W true (by symm; exact decide_eq_true ⟨by decide, by omega, by omega⟩))
  have HI := Lib.hid (in_yes (some ⟨b, off, none⟩) cap pcm 512 (-32768) 32767 _ hl (by decide) (rd.below p0) hin)
  have HK := Lib.hid (fun W => maker_ok 2 was shape W)
  have P0 := Lib.hid p0
  have RD := Lib.hid rd
  have HIN := Lib.hid hin
  have HL := Lib.hid hl
  have Hwas := Lib.hid hwas
  have Hshape := Lib.hid hshape
  clear p0 rd hin hl hwas hshape
  refine (callsIn_wide (n := 5)).1 ?_
  refine callsIn_of_wp_marks Try.func15 rfl trivial ?_ rfl
  simp only [Try.ntmps15, List.size_toArray, List.length_cons, List.length_nil, Nat.reduceAdd, Nat.reduceSub, Array.replicate_succ, Array.replicate_zero, List.push_toArray, List.append_toArray, List.nil_append, List.cons_append]
  gi_wp2_with first
    | (refine ⟨trivial, ?_⟩; gi_at_call 31; refine (callsIn_wide.2 (HM.out _)).mono ?_; rintro e w1 ⟨rfl, rfl⟩)
    | (refine ⟨trivial, ?_⟩; gi_at_call 33; refine (callsIn_wide.2 (HI.out)).mono ?_; rintro e w1 ⟨rfl, rfl⟩)
    | (refine ⟨trivial, ?_⟩; gi_at_call 34; refine (callsIn_wide.2 (HK.out _)).mono ?_; rintro e w2 ⟨rfl, k1, k2, k3, k4, k5⟩; have K1 := Lib.hid k1; have K2 := Lib.hid k2; have K3 := Lib.hid k3; have K5 := Lib.hid k5; clear k1 k2 k3 k5)
    | (gi_at_make; refine wpListIn_make_own _ rfl _ _ 22 rfl w.heap.size 3 i0 (.int .i64 0) 1 Try.underlying22 hi hz0 hz1 .i64 .i64 256 256 rfl rfl rfl (by rw [hz2]; omega) (by unfold maxLen; omega) P0.out.size ?_; intro w1 ho1 hg1; have O1 := Lib.hid ho1; have G1 := Lib.hid hg1; clear ho1 hg1)
  have O2 := O1.out
  simp only [World.size_alloc] at O2
  have hgo : w.heap.size + 1 < w1.heap.size := own_lt O2
  have hs2 : w2.heap.size = w1.heap.size + 4 := by rw [k4]; simp
  clear k4
  simp only [World.size_alloc] at K1 K2 K3 K5
  have hP1 : Hid (Boxed w1 w.heap.size 22 (.slice (some ⟨b, off, none⟩) 512 cap)) := Lib.hid ((G1.out.block w.heap.size (by simp) (fun e => by cases e)).trans bP.out)
  have hB1 : Below w.heap.size w w1 := P0.out.grown G1.out (by simp) (fun k e => by cases e)
  have hB2 : Below w.heap.size w w2 := (hB1.alloc hB1.size (.cells #[.slice (some ⟨w.heap.size + 1, 0, none⟩) 0 256] 22)).trans (K5.out.mono (by omega))
  have hP2 : Boxed w2 w.heap.size 22 (.slice (some ⟨b, off, none⟩) 512 cap) := (K5.out.block _ (by omega)).trans (hP1.out.alloc _)
  have hO2 : Boxed w2 w1.heap.size 22 (.slice (some ⟨w.heap.size + 1, 0, none⟩) 0 256) := (K5.out.block _ (by omega)).trans (Boxed.new w1 22 _)
  have hR2 : w2.ownsRow w.heap.size 3 1 (.slice (some ⟨w.heap.size + 1, 0, none⟩) 0 256) 0 [] := own_block O2 ((K5.out.block _ (by omega)).trans (Below.heap_alloc _ _ _ (by omega)))
  clear G1 O1 O2 P0 HM HI HK hP1 cP bP
  obtain ⟨Bs, hBs⟩ : ∃ x, w1.heap.size + 1 = x := ⟨_, rfl⟩
  clear K5
  rw [hBs] at K1 K2 K3 ⊢
  obtain ⟨Bo, hBo⟩ : ∃ x, w1.heap.size = x := ⟨_, rfl⟩
  rw [hBo] at hgo hs2 hO2 hBs ⊢
  obtain ⟨go, hgo2⟩ : ∃ x, w.heap.size + 1 = x := ⟨_, rfl⟩
  rw [hgo2] at hgo hO2 hR2 ⊢
  refine range_mem rfl (by decide) (gf := 48) (lb := #[.pointer (some ⟨Bs, 0, none⟩), .pointer (some ⟨Bs + 1, 0, none⟩), .pointer (some ⟨Bs + 2, 0, none⟩)]) rfl trivial (enters_of Try.func48 (by kernel_rfl) rfl)
    (WX.enc 64) (HxT (w2.heap.size + 1) was shape) (Tw Bs) 8 (fun k q => by have := q.2; omega) (fun _ => rfl)
    (fun l J W hl hW hlt hJ hY h0 => eight_in 4 (by decide) l Bs (w2.heap.size + 1) hl.symm was shape Hwas.out Hshape.out J W hlt hJ hY ((hW.block _ (by omega) (fun h => h)).trans K1.out) ((hW.block _ (by omega) (fun h => h)).trans K2.out) ((hW.block _ (by omega) (fun h => h)).trans K3.out) h0)
    (fun k W => (Boxed W w.heap.size 22 (.slice (some ⟨b, off, none⟩) 512 cap) ∧ Boxed W Bo 22 (.slice (some ⟨go, 0, none⟩) (32 * k) 256)) ∧ W.ownsRow w.heap.size 3 1 (.slice (some ⟨go, 0, none⟩) (32 * k) 256) (32 * k) ((anT was shape pcm k).map (Value.int .i64)) ∧ Below w.heap.size w W)
    (fun k X Y h hp => ?hI) ⟨⟨hP2, hO2⟩, hR2, hB2⟩ (fun k x X o hs h => ?hHx)
    (fun x => { tmps := #[Value.int IntKind.u8 2, Value.int IntKind.u8 was, Value.int IntKind.u8 shape, Value.slice (some { block := b, off := off }) 512 cap, undef, undef, undef, Value.pointer (some { block := w.heap.size, off := 0 }), Value.slice none 0 0, Value.int IntKind.i64 0, Value.pointer (some { block := Bo, off := 0 }), .int .i64 x.pos, .slice (some ⟨x.row, 0, none⟩) 64 512, undef, undef, Value.int IntKind.u8 2, Value.int IntKind.u8 was, Value.int IntKind.u8 shape, Value.bool true, Value.bool false, Value.slice (some { block := b, off := off }) 512 cap, Value.int IntKind.i64 512, Value.bool false, Value.slice (some { block := b, off := off }) 512 cap, Value.bool true, Value.bool false, Value.slice (some { block := go, off := 0 }) 0 256, Value.int IntKind.u8 2, Value.int IntKind.u8 was, Value.int IntKind.u8 shape, Value.func (Fn.func 48) #[] #[Value.pointer (some { block := Bs, off := 0 }), Value.pointer (some { block := Bs + 1, off := 0 }), Value.pointer (some { block := Bs + 2, off := 0 })], .int .i64 x.pos, .slice (some ⟨x.row, 0, none⟩) 64 512, undef, undef, undef, undef, undef, undef, undef, undef, undef, undef, undef, undef, undef], defers := [] }) ?assign ?body ?done
  case hI =>
    obtain ⟨⟨h1, h2⟩, h3, h4⟩ := h
    refine ⟨⟨(hp.block _ h1.lt (fun q => ?_)).trans h1, (hp.block _ h2.lt (fun q => ?_)).trans h2⟩, own_block h3 (hp.block _ (own_lt h3) (fun q => ?_)), h4.trans (hp.below h4.size (fun j q => ?_))⟩
    all_goals
      rcases q with q | q | q
      · have := q.1; omega
      · omega
      · omega
  case hHx =>
    obtain ⟨h1, h2, h3⟩ := h
    exact ⟨h1, h2, h3.of_block (World.putObj_heap_other (by omega))⟩
  case assign =>
    intro l x W K hK
    dsimp only [WX.enc]
    gi_wp2
    exact hK
  case body =>
    rintro l k ⟨pos, row⟩ W ⟨⟨h1, h2⟩, h3, h4⟩ hk ⟨h5, h6, h7⟩ h8
    dsimp only at h5 h6 h7 ⊢
    obtain ⟨P, hP⟩ : ∃ P : Nat, 112 + 32 * k = P := ⟨_, rfl⟩
    obtain rfl : pos = (P : Int) := by omega
    have cP := h1.cell
    have cO := h2.cell
    have fO := h2.frozen
    have q1 : (P : Int) ≤ 512 := by omega
    have q2 : ¬ cap = P := by omega
    have HU := Lib.hid (under_ok (some ⟨row, 0, none⟩) (some ⟨b, off + P, none⟩) 512 (cap - P) (wt (if k = 0 then was else shape) shape) (pcm.drop P) 64 (512 - P) 14 W (wt_len _ _) (by simp [HL.out]) (by omega) (by omega) (row_rd h7 (by rw [wt_len]; omega)) (rd_drop (RD.out.below h4)) (wt_in _ _) (inR_drop (inR_wide HIN.out)) (by decide) (by decide))
    have HF := Lib.hid (fun w3 hu => fwd_ok (some ⟨W.heap.size, 0, none⟩) 64 (mk 64 (un (wt (if k = 0 then was else shape) shape) (pcm.drop P) 14)) 64 32 32 8 w3 (mk_len _ _) (.inr ⟨rfl, rfl, rfl, rfl⟩) (own_rd hu) (un_in (wt_in _ _) (inR_drop HIN.out) (by rw [wt_len]; omega) (by simp [HL.out]; omega)))
    have hT : anT was shape pcm (k + 1) = anT was shape pcm k ++ mk 32 (fw (mk 64 (un (wt (if k = 0 then was else shape) shape) (pcm.drop P) 14)) 32 8) := by rw [← hP]; rfl
    have HT := Lib.hid hT
    have H1 := Lib.hid h1
    have H2 := Lib.hid h2
    have H3 := Lib.hid h3
    have H4 := Lib.hid h4
    clear hT h1 h2 h3 h4 h7 h5 hP
    generalize un (wt (if k = 0 then was else shape) shape) (pcm.drop P) 14 = UN at *
    gi_wp2_with first
      | (refine ⟨trivial, ?_⟩; gi_at_call 36; with_reducible refine (CallsIn.inRound l (callsIn_wide.2 (HU.out))).mono ?_; rintro e w3 ⟨rfl, hu, hbu⟩; have HF3 := Lib.hid (HF.out _ hu); have b3 := Lib.hid hbu; clear hu hbu)
      | (refine ⟨trivial, ?_⟩; gi_at_call 37; with_reducible refine (CallsIn.inRound l (callsIn_wide.2 (HF3.out))).mono ?_; rintro e w4 ⟨g4, rfl, hg4, hr4, hb4⟩; have b4 := Lib.hid (bt b3.out hb4); have rd4 := Lib.hid (own_rd hr4); have O4 := Lib.hid (own_block H3.out (b4.out.block _ (own_lt H3.out))); have c4 := (b4.out.cell (p := ⟨Bo, 0, none⟩) H2.out.lt).trans cO; have hsz4 := b4.out.size; clear hr4 hb4)
      | (gi_at_builtin; refine wpListIn_append_fits _ rfl (.tmp 42) (.tmp 43) 22 rfl w.heap.size 3 i0 1 Try.underlying22 hi hz1 go (32 * k) 256 _ rfl O4.out ⟨g4, 0, none⟩ 32 32 ((mk 32 (fw (mk 64 UN) 32 8)).map (Value.int .i64)) rfl (by simp [mk_len]) (rd_cells rd4.out rfl) (one64 _) (by omega) ?_; intro w5 ho5 hg5; have O5 := Lib.hid ho5; have G5 := Lib.hid hg5; have blk5 := Lib.hid (fun j (hj : j < w4.heap.size) (hne : j ≠ go) => hg5.block j hj (fun e => hne (by cases e; rfl))); have x5 : Boxed w5 Bo 22 (.slice (some ⟨go, 0, none⟩) (32 * k) 256) := (blk5.out Bo (Nat.lt_of_lt_of_le H2.out.lt hsz4) (by omega)).trans ((b4.out.block Bo H2.out.lt).trans H2.out); have X5 := Lib.hid x5; have c5 := x5.cell; have f5 := x5.frozen; clear ho5 hg5 c4 x5)
    have y5 : Boxed w5 w.heap.size 22 (.slice (some ⟨b, off, none⟩) 512 cap) := (blk5.out _ (Nat.lt_of_lt_of_le H1.out.lt hsz4) (by omega)).trans ((b4.out.block _ H1.out.lt).trans H1.out)
    have B5 : Below w.heap.size w w5 := (bel_up H4.out b4.out H4.out.size).grown G5.out (Nat.le_trans H4.out.size hsz4) (fun j e => by cases e; omega)
    have hlo := H2.out.lt
    have hsz5 := G5.out.size
    refine ⟨⟨⟨y5.other (by omega) _, X5.out.set _⟩, ?_, B5.setCell (p := ⟨Bo, 0, none⟩) (show w.heap.size ≤ Bo by omega) _⟩, ?_, fun j q => ?_⟩
    · rw [HT.out, List.map_append, show 32 * (k + 1) = 32 * k + 32 by omega]
      exact own_block O5.out (heap_other _ (by omega))
    · simp only [World.setCell, Array.size_modify]
      exact Nat.le_trans hsz4 hsz5
    · have hj : j < W.heap.size ∧ Bo < j := by
        rcases q with q | q | q
        · have h1 := q.1; have h2 := q.2; omega
        · omega
        · omega
      exact (heap_other _ (by omega)).trans ((blk5.out j (by omega) (by omega)).trans (b4.out.block j hj.1))
  case done =>
    rintro W ⟨⟨h1, h2⟩, h3, h4⟩ hlt hD
    have c2 := h2.cell
    gi_wp2
    refine ⟨by simp, .inl ⟨_, _, rfl, run_takeDeferred hD, ?_⟩⟩
    refine ⟨_, results_tmp2 rfl _ _ _, go, rfl, by omega, ?_, ?_⟩
    · have q := own_block h3 (World.putObj_heap_other (r := w2.heap.size) (o := .deferred none) (show go ≠ w2.heap.size by omega))
      unfold Fx.Own
      rw [anT_len]
      exact q
    · exact h4.trans ((Part.put (T := fun j => j = w2.heap.size) (.deferred none) rfl).below h4.size (fun j q => by have := hB2.size; omega))
def anLs (seq was shape : Int) (pcm : List Int) : Nat → List Int
  | 0 => []
  | k + 1 => anLs seq was shape pcm k ++ mk 256 (fw (mk 512 (un (wv seq was shape) (pcm.drop 0) 14)) 256 1)
theorem anLs_len (seq was shape : Int) (pcm : List Int) : ∀ k, (anLs seq was shape pcm k).length = 256 * k
  | 0 => rfl
  | k + 1 => by simp only [anLs, List.length_append, anLs_len seq was shape pcm k, mk_len]; omega
theorem anLs_one (seq was shape : Int) (pcm : List Int) : anLs seq was shape pcm 1 = anL seq was shape pcm := by simp [anLs, anL]
set_option maxRecDepth 100000 in
set_option maxHeartbeats 4000000 in
theorem ana_L (seq was shape : Int) (A : Option Addr) (cap : Nat) (pcm : List Int) (w : World) (hl : pcm.length = 512) (hcap : 512 ≤ cap) (hcm : cap ≤ maxLen) (rd : RdA w A pcm) (hin : InR (-32768) 32767 pcm) (hseq : seq = 0 ∨ seq = 1 ∨ seq = 3) (hwas : was = 0 ∨ was = 1) (hshape : shape = 0 ∨ shape = 1) :
    Calls Try.prog 15 #[.int .u8 seq, .int .u8 was, .int .u8 shape, .slice A 512 cap] w fun e w' => ∃ g, e = .returned (.tuple #[.slice (some ⟨g, 0, none⟩) 256 256, .int .i64 0]) ∧ w.heap.size ≤ g ∧ Fx.Own w.heap.size w' (.slice (some ⟨g, 0, none⟩) 256 256) (anLs seq was shape pcm 1) ∧ Below w.heap.size w w' := by
  obtain ⟨i0, hi, hz0, hz1, hz2⟩ := info_parts Fx.info3
  obtain ⟨b, off, rfl, hbl, _⟩ := rd 0 (by omega)
  unfold maxLen at hcm
  have bP := Lib.hid (Boxed.new w 22 (.slice (some ⟨b, off, none⟩) 512 cap))
  have cP := (Boxed.new w 22 (.slice (some ⟨b, off, none⟩) 512 cap)).cell
  have p0 : Below w.heap.size w (w.alloc (.cells #[.slice (some ⟨b, off, none⟩) 512 cap] 22)) := (Below.refl _ w).alloc (Nat.le_refl _) _
  have HM := Lib.hid (fun W => may_ok seq was shape W true (by symm; exact decide_eq_true ⟨by omega, by omega, by omega⟩))
  have HI := Lib.hid (in_yes (some ⟨b, off, none⟩) cap pcm 512 (-32768) 32767 _ hl (by decide) (rd.below p0) hin)
  have HK := Lib.hid (fun W => maker_ok seq was shape W)
  have P0 := Lib.hid p0
  have RD := Lib.hid rd
  have HIN := Lib.hid hin
  have HL := Lib.hid hl
  have Hseq := Lib.hid hseq
  have Hwas := Lib.hid hwas
  have Hshape := Lib.hid hshape
  clear p0 rd hin hl hseq hwas hshape
  refine (callsIn_wide (n := 5)).1 ?_
  refine callsIn_of_wp_marks Try.func15 rfl trivial ?_ rfl
  simp only [Try.ntmps15, List.size_toArray, List.length_cons, List.length_nil, Nat.reduceAdd, Nat.reduceSub, Array.replicate_succ, Array.replicate_zero, List.push_toArray, List.append_toArray, List.nil_append, List.cons_append]
  gi_wp2_with first
    | (refine ⟨trivial, ?_⟩; gi_at_call 31; refine (callsIn_wide.2 (HM.out _)).mono ?_; rintro e w1 ⟨rfl, rfl⟩)
    | (refine ⟨trivial, ?_⟩; gi_at_call 33; refine (callsIn_wide.2 (HI.out)).mono ?_; rintro e w1 ⟨rfl, rfl⟩)
    | (refine ⟨trivial, ?_⟩; gi_at_call 34; refine (callsIn_wide.2 (HK.out _)).mono ?_; rintro e w2 ⟨rfl, k1, k2, k3, k4, k5⟩; have K1 := Lib.hid k1; have K2 := Lib.hid k2; have K3 := Lib.hid k3; have K5 := Lib.hid k5; clear k1 k2 k3 k5)
    | (gi_at_make; refine wpListIn_make_own _ rfl _ _ 22 rfl w.heap.size 3 i0 (.int .i64 0) 1 Try.underlying22 hi hz0 hz1 .i64 .i64 256 256 rfl rfl rfl (by rw [hz2]; omega) (by unfold maxLen; omega) P0.out.size ?_; intro w1 ho1 hg1; have O1 := Lib.hid ho1; have G1 := Lib.hid hg1; clear ho1 hg1)
  have O2 := O1.out
  simp only [World.size_alloc] at O2
  have hgo : w.heap.size + 1 < w1.heap.size := own_lt O2
  have hs2 : w2.heap.size = w1.heap.size + 4 := by rw [k4]; simp
  clear k4
  simp only [World.size_alloc] at K1 K2 K3 K5
  have hP1 : Hid (Boxed w1 w.heap.size 22 (.slice (some ⟨b, off, none⟩) 512 cap)) := Lib.hid ((G1.out.block w.heap.size (by simp) (fun e => by cases e)).trans bP.out)
  have hB1 : Below w.heap.size w w1 := P0.out.grown G1.out (by simp) (fun k e => by cases e)
  have hB2 : Below w.heap.size w w2 := (hB1.alloc hB1.size (.cells #[.slice (some ⟨w.heap.size + 1, 0, none⟩) 0 256] 22)).trans (K5.out.mono (by omega))
  have hP2 : Boxed w2 w.heap.size 22 (.slice (some ⟨b, off, none⟩) 512 cap) := (K5.out.block _ (by omega)).trans (hP1.out.alloc _)
  have hO2 : Boxed w2 w1.heap.size 22 (.slice (some ⟨w.heap.size + 1, 0, none⟩) 0 256) := (K5.out.block _ (by omega)).trans (Boxed.new w1 22 _)
  have hR2 : w2.ownsRow w.heap.size 3 1 (.slice (some ⟨w.heap.size + 1, 0, none⟩) 0 256) 0 [] := own_block O2 ((K5.out.block _ (by omega)).trans (Below.heap_alloc _ _ _ (by omega)))
  clear G1 O1 O2 P0 HM HI HK hP1 cP bP
  obtain ⟨Bs, hBs⟩ : ∃ x, w1.heap.size + 1 = x := ⟨_, rfl⟩
  clear K5
  rw [hBs] at K1 K2 K3 ⊢
  obtain ⟨Bo, hBo⟩ : ∃ x, w1.heap.size = x := ⟨_, rfl⟩
  rw [hBo] at hgo hs2 hO2 hBs ⊢
  obtain ⟨go, hgo2⟩ : ∃ x, w.heap.size + 1 = x := ⟨_, rfl⟩
  rw [hgo2] at hgo hO2 hR2 ⊢
  refine range_mem rfl (by decide) (gf := 48) (lb := #[.pointer (some ⟨Bs, 0, none⟩), .pointer (some ⟨Bs + 1, 0, none⟩), .pointer (some ⟨Bs + 2, 0, none⟩)]) rfl trivial (enters_of Try.func48 (by kernel_rfl) rfl)
    (WX.enc 512) (HxL (w2.heap.size + 1) (wv seq was shape)) (Tw Bs) 1 (fun k q => by have := q.2; omega) (fun _ => rfl)
    (fun l J W hl hW hlt hJ hY h0 => one_in 4 (by decide) l Bs (w2.heap.size + 1) hl.symm seq was shape Hseq.out Hwas.out Hshape.out J W hlt hJ hY ((hW.block _ (by omega) (fun h => h)).trans K1.out) ((hW.block _ (by omega) (fun h => h)).trans K2.out) ((hW.block _ (by omega) (fun h => h)).trans K3.out) h0)
    (fun k W => (Boxed W w.heap.size 22 (.slice (some ⟨b, off, none⟩) 512 cap) ∧ Boxed W Bo 22 (.slice (some ⟨go, 0, none⟩) (256 * k) 256)) ∧ W.ownsRow w.heap.size 3 1 (.slice (some ⟨go, 0, none⟩) (256 * k) 256) (256 * k) ((anLs seq was shape pcm k).map (Value.int .i64)) ∧ Below w.heap.size w W)
    (fun k X Y h hp => ?hI) ⟨⟨hP2, hO2⟩, hR2, hB2⟩ (fun k x X o hs h => ?hHx)
    (fun x => { tmps := #[Value.int IntKind.u8 seq, Value.int IntKind.u8 was, Value.int IntKind.u8 shape, Value.slice (some { block := b, off := off }) 512 cap, undef, undef, undef, Value.pointer (some { block := w.heap.size, off := 0 }), Value.slice none 0 0, Value.int IntKind.i64 0, Value.pointer (some { block := Bo, off := 0 }), .int .i64 x.pos, .slice (some ⟨x.row, 0, none⟩) 512 512, undef, undef, Value.int IntKind.u8 seq, Value.int IntKind.u8 was, Value.int IntKind.u8 shape, Value.bool true, Value.bool false, Value.slice (some { block := b, off := off }) 512 cap, Value.int IntKind.i64 512, Value.bool false, Value.slice (some { block := b, off := off }) 512 cap, Value.bool true, Value.bool false, Value.slice (some { block := go, off := 0 }) 0 256, Value.int IntKind.u8 seq, Value.int IntKind.u8 was, Value.int IntKind.u8 shape, Value.func (Fn.func 48) #[] #[Value.pointer (some { block := Bs, off := 0 }), Value.pointer (some { block := Bs + 1, off := 0 }), Value.pointer (some { block := Bs + 2, off := 0 })], .int .i64 x.pos, .slice (some ⟨x.row, 0, none⟩) 512 512, undef, undef, undef, undef, undef, undef, undef, undef, undef, undef, undef, undef, undef], defers := [] }) ?assign ?body ?done
  case hI =>
    obtain ⟨⟨h1, h2⟩, h3, h4⟩ := h
    refine ⟨⟨(hp.block _ h1.lt (fun q => ?_)).trans h1, (hp.block _ h2.lt (fun q => ?_)).trans h2⟩, own_block h3 (hp.block _ (own_lt h3) (fun q => ?_)), h4.trans (hp.below h4.size (fun j q => ?_))⟩
    all_goals
      rcases q with q | q | q
      · have := q.1; omega
      · omega
      · omega
  case hHx =>
    obtain ⟨h1, h2, h3⟩ := h
    exact ⟨h1, h2, h3.of_block (World.putObj_heap_other (by omega))⟩
  case assign =>
    intro l x W K hK
    dsimp only [WX.enc]
    gi_wp2
    exact hK
  case body =>
    rintro l k ⟨pos, row⟩ W ⟨⟨h1, h2⟩, h3, h4⟩ hk ⟨h5, h6, h7⟩ h8
    dsimp only at h5 h6 h7 ⊢
    obtain ⟨P, hP⟩ : ∃ P : Nat, 0 = P := ⟨_, rfl⟩
    obtain rfl : pos = (P : Int) := by omega
    have cP := h1.cell
    have cO := h2.cell
    have fO := h2.frozen
    have q1 : (P : Int) ≤ 512 := by omega
    have q2 : ¬ cap = P := by omega
    have HU := Lib.hid (under_ok (some ⟨row, 0, none⟩) (some ⟨b, off + P, none⟩) 512 (cap - P) (wv seq was shape) (pcm.drop P) 512 (512 - P) 14 W (wv_len _ _ _) (by simp [HL.out]) (by omega) (by omega) (row_rd h7 (by rw [wv_len]; omega)) (rd_drop (RD.out.below h4)) (wv_in _ _ _) (inR_drop (inR_wide HIN.out)) (by decide) (by decide))
    have HF := Lib.hid (fun w3 hu => fwd_ok (some ⟨W.heap.size, 0, none⟩) 512 (mk 512 (un (wv seq was shape) (pcm.drop P) 14)) 512 256 256 1 w3 (mk_len _ _) (.inl ⟨rfl, rfl, rfl, rfl⟩) (own_rd hu) (un_in (wv_in _ _ _) (inR_drop HIN.out) (by rw [wv_len]; omega) (by simp [HL.out]; omega)))
    have hT : anLs seq was shape pcm (k + 1) = anLs seq was shape pcm k ++ mk 256 (fw (mk 512 (un (wv seq was shape) (pcm.drop P) 14)) 256 1) := by rw [← hP]; rfl
    have HT := Lib.hid hT
    have H1 := Lib.hid h1
    have H2 := Lib.hid h2
    have H3 := Lib.hid h3
    have H4 := Lib.hid h4
    clear hT h1 h2 h3 h4 h7 h5 hP
    generalize un (wv seq was shape) (pcm.drop P) 14 = UN at *
    gi_wp2_with first
      | (refine ⟨trivial, ?_⟩; gi_at_call 36; with_reducible refine (CallsIn.inRound l (callsIn_wide.2 (HU.out))).mono ?_; rintro e w3 ⟨rfl, hu, hbu⟩; have HF3 := Lib.hid (HF.out _ hu); have b3 := Lib.hid hbu; clear hu hbu)
      | (refine ⟨trivial, ?_⟩; gi_at_call 37; with_reducible refine (CallsIn.inRound l (callsIn_wide.2 (HF3.out))).mono ?_; rintro e w4 ⟨g4, rfl, hg4, hr4, hb4⟩; have b4 := Lib.hid (bt b3.out hb4); have rd4 := Lib.hid (own_rd hr4); have O4 := Lib.hid (own_block H3.out (b4.out.block _ (own_lt H3.out))); have c4 := (b4.out.cell (p := ⟨Bo, 0, none⟩) H2.out.lt).trans cO; have hsz4 := b4.out.size; clear hr4 hb4)
      | (gi_at_builtin; refine wpListIn_append_fits _ rfl (.tmp 42) (.tmp 43) 22 rfl w.heap.size 3 i0 1 Try.underlying22 hi hz1 go (256 * k) 256 _ rfl O4.out ⟨g4, 0, none⟩ 256 256 ((mk 256 (fw (mk 512 UN) 256 1)).map (Value.int .i64)) rfl (by simp [mk_len]) (rd_cells rd4.out rfl) (one64 _) (by omega) ?_; intro w5 ho5 hg5; have O5 := Lib.hid ho5; have G5 := Lib.hid hg5; have blk5 := Lib.hid (fun j (hj : j < w4.heap.size) (hne : j ≠ go) => hg5.block j hj (fun e => hne (by cases e; rfl))); have x5 : Boxed w5 Bo 22 (.slice (some ⟨go, 0, none⟩) (256 * k) 256) := (blk5.out Bo (Nat.lt_of_lt_of_le H2.out.lt hsz4) (by omega)).trans ((b4.out.block Bo H2.out.lt).trans H2.out); have X5 := Lib.hid x5; have c5 := x5.cell; have f5 := x5.frozen; clear ho5 hg5 c4 x5)
    have y5 : Boxed w5 w.heap.size 22 (.slice (some ⟨b, off, none⟩) 512 cap) := (blk5.out _ (Nat.lt_of_lt_of_le H1.out.lt hsz4) (by omega)).trans ((b4.out.block _ H1.out.lt).trans H1.out)
    have B5 : Below w.heap.size w w5 := (bel_up H4.out b4.out H4.out.size).grown G5.out (Nat.le_trans H4.out.size hsz4) (fun j e => by cases e; omega)
    have hlo := H2.out.lt
    have hsz5 := G5.out.size
    refine ⟨⟨⟨y5.other (by omega) _, X5.out.set _⟩, ?_, B5.setCell (p := ⟨Bo, 0, none⟩) (show w.heap.size ≤ Bo by omega) _⟩, ?_, fun j q => ?_⟩
    · rw [HT.out, List.map_append, show 256 * (k + 1) = 256 * k + 256 by omega]
      exact own_block O5.out (heap_other _ (by omega))
    · simp only [World.setCell, Array.size_modify]
      exact Nat.le_trans hsz4 hsz5
    · have hj : j < W.heap.size ∧ Bo < j := by
        rcases q with q | q | q
        · have h1 := q.1; have h2 := q.2; omega
        · omega
        · omega
      exact (heap_other _ (by omega)).trans ((blk5.out j (by omega) (by omega)).trans (b4.out.block j hj.1))
  case done =>
    rintro W ⟨⟨h1, h2⟩, h3, h4⟩ hlt hD
    have c2 := h2.cell
    gi_wp2
    refine ⟨by simp, .inl ⟨_, _, rfl, run_takeDeferred hD, ?_⟩⟩
    refine ⟨_, results_tmp2 rfl _ _ _, go, rfl, by omega, ?_, ?_⟩
    · have q := own_block h3 (World.putObj_heap_other (r := w2.heap.size) (o := .deferred none) (show go ≠ w2.heap.size by omega))
      unfold Fx.Own
      rw [anLs_len]
      exact q
    · exact h4.trans ((Part.put (T := fun j => j = w2.heap.size) (.deferred none) rfl).below h4.size (fun j q => by have := hB2.size; omega))
end Go.Proofs.Yteknakakefhbmaa.Bl
