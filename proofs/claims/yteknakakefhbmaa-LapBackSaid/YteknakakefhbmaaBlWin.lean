/- Windows of frames, numbers under them, and what may be. -/
import Derived.Test.YteknakakefhbmaaBlJoin
import Derived.Test.YteknakakefhbmaaMdAl
import Derived.WalkKit
import Derived.Below
import Derived.RegionTactic
import Derived.Deep.QuietTactic
import Derived.BigQuiet
import Derived.ChangeAlike
import Derived.Deep.OwnRows
import Derived.Deep.RegionLaw
import Derived.ProofKit
import Derived.OpenShut
import Derived.ChangeSlices
import Derived.Lib.Hide
namespace Go.Proofs.Yteknakakefhbmaa.Bl
open Go Go.ChangeShapes Go.WideShapes Go.ChangeAt Go.RowKit Go.Proofs.Yteknakakefhbmaa.Fx Go.Proofs.Yteknakakefhbmaa.Rk

def pS : List Int := [0, 2, 5, 3]
def pE : List Int := [3, 1, 2, 4]
def pL : List Int := [0, 4]
def pT : List Int := [1, 5]
/-- A frame's window, a short one. -/
def wv (seq was shape : Int) : List Int := if seq = 1 then acc was shape pS 4 else if seq = 3 then acc was shape pE 4 else acc was shape pL 2
def wt (was shape : Int) : List Int := acc was shape pT 2
theorem pc_len (was shape p : Int) : (pc was shape p).length = if p = 0 then 256 else if p = 1 then 32 else if p = 2 then 112 else if p = 3 then 112 else if p = 4 then 256 else 32 := by
  unfold pc
  repeat' split
  all_goals simp [mk_len]
theorem wv_len (seq was shape : Int) : (wv seq was shape).length = 512 := by
  unfold wv
  repeat' split
  all_goals simp [acc, pS, pE, pL, pc_len]
theorem wt_len (was shape : Int) : (wt was shape).length = 64 := by simp [wt, acc, pT, pc_len]
theorem lit_rd (w : World) (zs : List Int) (t : TypeId) : RdA (w.alloc (.cells (zs.map (Value.int .i64)).toArray t)) (some ⟨w.heap.size, 0, none⟩) zs := fun i hi =>
  ⟨w.heap.size, 0, rfl, by simp, by
    rw [Nat.zero_add]
    exact (World.rowIs_alloc w (zs.map (Value.int .i64)).toArray t (fun j => .int .i64 (zs.getD j 0)) (fun j hj => by simp at hj; simp [hj])).cell (by simpa using hi)⟩
theorem pcs_ok {was shape : Int} {zs : List Int} {n : Nat} (h : zs = pS ∨ zs = pE ∨ zs = pL ∨ zs = pT) (hn : zs.length = n) : n ≤ 8 ∧ (∀ k, k < zs.length → 0 ≤ zs.getD k 0 ∧ zs.getD k 0 ≤ 5) ∧ ∀ k, k ≤ zs.length → (acc was shape zs k).length ≤ 512 := by
  subst hn
  rcases h with rfl | rfl | rfl | rfl
  all_goals
    refine ⟨by decide, by decide, fun k hk => ?_⟩
    simp only [pS, pE, pL, pT, List.length_cons, List.length_nil] at hk
    match k, hk with
    | 0, _ => simp [acc]
    | 1, _ => simp [acc, pS, pE, pL, pT, pc_len]
    | 2, _ => simp [acc, pS, pE, pL, pT, pc_len]
    | 3, h => first | (exfalso; omega) | simp [acc, pS, pE, pc_len]
    | 4, h => first | (exfalso; omega) | simp [acc, pS, pE, pc_len]
/-- Pieces that have just been laid, joined. -/
def JP (was shape : Int) (zs : List Int) (n m : Nat) (w : World) (e : Ending) (w' : World) : Prop := ∃ g, e = .returned (.slice (some ⟨g, 0, none⟩) m 512) ∧ w.heap.size < g ∧ w'.rowIs g 3 512 (fun j => .int .i64 ((acc was shape zs n).getD j 0)) ∧ Below w.heap.size w w'
theorem joined_lit (was shape : Int) (zs : List Int) (n m : Nat) (w : World) (hz : zs = pS ∨ zs = pE ∨ zs = pL ∨ zs = pT) (hn : zs.length = n) (hm : (acc was shape zs n).length = m) (hwas : was = 0 ∨ was = 1) (hshape : shape = 0 ∨ shape = 1) :
    Calls Try.prog 47 #[.int .u8 was, .int .u8 shape, .slice (some ⟨w.heap.size, 0, none⟩) n n] (w.alloc (.cells (zs.map (Value.int .i64)).toArray 3)) (JP was shape zs n m w) := by
  obtain ⟨h1, h2, h3⟩ := pcs_ok (was := was) (shape := shape) hz hn
  have := joined_ok was shape (some ⟨w.heap.size, 0, none⟩) n zs (w.alloc (.cells (zs.map (Value.int .i64)).toArray 3)) hwas hshape (by omega) (lit_rd w zs 3) h2 h3
  rw [hn, hm] at this
  refine this.mono fun e w' ⟨g, e1, hg, hr, hb⟩ => ⟨g, e1, by simp at hg; omega, hr, ?_⟩
  exact ((Below.refl w.heap.size w).alloc (Nat.le_refl _) _).trans (hb.mono (by simp))
theorem join_L (was shape : Int) (w : World) (hwas : was = 0 ∨ was = 1) (hshape : shape = 0 ∨ shape = 1) : Calls Try.prog 47 #[.int .u8 was, .int .u8 shape, .slice (some ⟨w.heap.size, 0, none⟩) 2 2] (w.alloc (.cells #[.int .i64 0, .int .i64 4] 3)) (JP was shape pL 2 512 w) := joined_lit was shape pL 2 512 w (.inr (.inr (.inl rfl))) rfl (wv_len 0 was shape) hwas hshape
theorem join_S (was shape : Int) (w : World) (hwas : was = 0 ∨ was = 1) (hshape : shape = 0 ∨ shape = 1) : Calls Try.prog 47 #[.int .u8 was, .int .u8 shape, .slice (some ⟨w.heap.size, 0, none⟩) 4 4] (w.alloc (.cells #[.int .i64 0, .int .i64 2, .int .i64 5, .int .i64 3] 3)) (JP was shape pS 4 512 w) := joined_lit was shape pS 4 512 w (.inl rfl) rfl (wv_len 1 was shape) hwas hshape
theorem join_E (was shape : Int) (w : World) (hwas : was = 0 ∨ was = 1) (hshape : shape = 0 ∨ shape = 1) : Calls Try.prog 47 #[.int .u8 was, .int .u8 shape, .slice (some ⟨w.heap.size, 0, none⟩) 4 4] (w.alloc (.cells #[.int .i64 3, .int .i64 1, .int .i64 2, .int .i64 4] 3)) (JP was shape pE 4 512 w) := joined_lit was shape pE 4 512 w (.inr (.inl rfl)) rfl (wv_len 3 was shape) hwas hshape
theorem join_T (was shape : Int) (w : World) (hwas : was = 0 ∨ was = 1) (hshape : shape = 0 ∨ shape = 1) : Calls Try.prog 47 #[.int .u8 was, .int .u8 shape, .slice (some ⟨w.heap.size, 0, none⟩) 2 2] (w.alloc (.cells #[.int .i64 1, .int .i64 5] 3)) (JP was shape pT 2 64 w) := joined_lit was shape pT 2 64 w (.inr (.inr (.inr rfl))) rfl (wt_len was shape) hwas hshape
set_option maxRecDepth 100000 in
theorem long_ok (seq was shape : Int) (w : World) (hs : seq = 0 ∨ seq = 1 ∨ seq = 3) (hwas : was = 0 ∨ was = 1) (hshape : shape = 0 ∨ shape = 1) :
    Calls Try.prog 32 #[.int .u8 seq, .int .u8 was, .int .u8 shape] w fun e w' => ∃ g, e = .returned (.slice (some ⟨g, 0, none⟩) 512 512) ∧ w.heap.size < g ∧ w'.rowIs g 3 512 (fun j => .int .i64 ((wv seq was shape).getD j 0)) ∧ Below w.heap.size w w' := by
  rcases hs with rfl | rfl | rfl
  · have HJ := Lib.hid (join_L was shape w hwas hshape)
    clear hwas hshape
    go_enter Try.func32, Try.ntmps32
    go_wp2_with (go_at_call 47; ((with_reducible refine (HJ.out).mono ?_); rintro e w1 ⟨g, rfl, hg, hr, hb⟩; have hr1 := Lib.hid hr; clear hr))
    go_ret
    exact ⟨g, rfl, hg, hr1.out, hb⟩
  · have HJ := Lib.hid (join_S was shape w hwas hshape)
    clear hwas hshape
    go_enter Try.func32, Try.ntmps32
    go_wp2_with (go_at_call 47; ((with_reducible refine (HJ.out).mono ?_); rintro e w1 ⟨g, rfl, hg, hr, hb⟩; have hr1 := Lib.hid hr; clear hr))
    go_ret
    exact ⟨g, rfl, hg, hr1.out, hb⟩
  · have HJ := Lib.hid (join_E was shape w hwas hshape)
    clear hwas hshape
    go_enter Try.func32, Try.ntmps32
    go_wp2_with (go_at_call 47; ((with_reducible refine (HJ.out).mono ?_); rintro e w1 ⟨g, rfl, hg, hr, hb⟩; have hr1 := Lib.hid hr; clear hr))
    go_ret
    exact ⟨g, rfl, hg, hr1.out, hb⟩

/-! ### What may be -/
theorem may_ok (seq was shape : Int) (w : World) (b : Bool) (hb : b = decide (seq ≤ 3 ∧ was ≤ 1 ∧ shape ≤ 1)) :
    Calls Try.prog 31 #[.int .u8 seq, .int .u8 was, .int .u8 shape] w fun e w' => e = .returned (.bool b) ∧ w = w' := by
  by_cases c1 : seq ≤ 3
  · by_cases c2 : was ≤ 1
    · by_cases c3 : shape ≤ 1
      · obtain rfl : b = true := by rw [hb]; exact decide_eq_true ⟨c1, c2, c3⟩
        clear hb
        go_enter Try.func31, Try.ntmps31
        go_wp2
        go_ret
        exact ⟨rfl, rfl⟩
      · obtain rfl : b = false := by rw [hb]; exact decide_eq_false (fun h => c3 h.2.2)
        clear hb
        go_enter Try.func31, Try.ntmps31
        go_wp2
        go_ret
        exact ⟨rfl, rfl⟩
    · obtain rfl : b = false := by rw [hb]; exact decide_eq_false (fun h => c2 h.2.1)
      clear hb
      go_enter Try.func31, Try.ntmps31
      go_wp2
      go_ret
      exact ⟨rfl, rfl⟩
  · obtain rfl : b = false := by rw [hb]; exact decide_eq_false (fun h => c1 h.1)
    clear hb
    go_enter Try.func31, Try.ntmps31
    go_wp2
    go_ret
    exact ⟨rfl, rfl⟩
/-- All of a list are from a number to another. -/
def InR (lo hi : Int) (zs : List Int) : Prop := ∀ j, j < zs.length → lo ≤ zs.getD j 0 ∧ zs.getD j 0 ≤ hi
theorem not_inR {lo hi : Int} {zs : List Int} (h : ¬ InR lo hi zs) : ∃ j, j < zs.length ∧ ¬ (lo ≤ zs.getD j 0 ∧ zs.getD j 0 ≤ hi) ∧ ∀ i, i < j → lo ≤ zs.getD i 0 ∧ zs.getD i 0 ≤ hi := by
  have key : ∀ n, n ≤ zs.length → (∀ i, i < n → lo ≤ zs.getD i 0 ∧ zs.getD i 0 ≤ hi) ∨ ∃ j, j < zs.length ∧ ¬ (lo ≤ zs.getD j 0 ∧ zs.getD j 0 ≤ hi) ∧ ∀ i, i < j → lo ≤ zs.getD i 0 ∧ zs.getD i 0 ≤ hi := by
    intro n
    induction n with
    | zero => intro _; exact .inl fun i hi => by omega
    | succ n ih =>
      intro hn
      rcases ih (by omega) with a | a
      · by_cases c : lo ≤ zs.getD n 0 ∧ zs.getD n 0 ≤ hi
        · exact .inl fun i hi => by
            by_cases e : i = n
            · subst e; exact c
            · exact a i (by omega)
        · exact .inr ⟨n, by omega, c, a⟩
      · exact .inr a
  rcases key zs.length (Nat.le_refl _) with a | a
  · exact absurd a h
  · exact a
theorem in_yes (A : Option Addr) (cap : Nat) (zs : List Int) (n : Nat) (lo hi : Int) (w : World) (hn : zs.length = n) (hl : n ≤ 1000) (h : RdA w A zs) (hM : InR lo hi zs) : Calls Try.prog 33 #[.slice A n cap, .int .i64 lo, .int .i64 hi] w fun e w' => e = .returned (.bool true) ∧ w = w' := by
  subst hn
  have HR := Lib.hid h
  have HM := Lib.hid hM
  clear h hM
  go_enter Try.func33, Try.ntmps33
  go_wp2
  go_loop [11] (fun i => ∃ k : Nat, k ≤ zs.length ∧ i = .int .i64 k) (fun i => zs.length - (intOf i).toNat)
  case atStart => exact ⟨0, by omega, rfl⟩
  case round =>
    obtain ⟨k, hk, rfl⟩ := hrel
    by_cases hlt : k < zs.length
    · obtain ⟨b, off, rfl, hlb, c⟩ := HR.out k hlt
      obtain ⟨x0, x1⟩ := HM.out k hlt
      generalize zs.getD k 0 = X at *
      go_wp2
      go_round
      case rel => exact ⟨k + 1, by omega, by go_num⟩
      case measure => simp [intOf]; omega
    · have hlt2 : ¬ (k : Int) < zs.length := by omega
      go_wp2
      go_ret
      exact ⟨rfl, rfl⟩
theorem in_no (A : Option Addr) (cap : Nat) (zs : List Int) (n : Nat) (lo hi : Int) (w : World) (hn : zs.length = n) (hl : n ≤ 1000) (h : RdA w A zs) (hM : ¬ InR lo hi zs) : Calls Try.prog 33 #[.slice A n cap, .int .i64 lo, .int .i64 hi] w fun e w' => e = .returned (.bool false) ∧ w = w' := by
  subst hn
  have HR := Lib.hid h
  obtain ⟨j, hj, hbad, hok⟩ := not_inR hM
  have HM := Lib.hid hok
  have HB := Lib.hid hbad
  clear h hM hok hbad
  go_enter Try.func33, Try.ntmps33
  go_wp2
  go_loop [11] (fun i => ∃ k : Nat, k ≤ j ∧ i = .int .i64 k) (fun i => zs.length - (intOf i).toNat)
  case atStart => exact ⟨0, by omega, rfl⟩
  case round =>
    obtain ⟨k, hk, rfl⟩ := hrel
    obtain ⟨b, off, rfl, hlb, c⟩ := HR.out k (by omega)
    have hlt : k < zs.length := by omega
    by_cases hkj : k < j
    · obtain ⟨x0, x1⟩ := HM.out k hkj
      generalize zs.getD k 0 = X at *
      go_wp2
      go_round
      case rel => exact ⟨k + 1, by omega, by go_num⟩
      case measure => simp [intOf]; omega
    · have hkj2 : k = j := by omega
      subst hkj2
      have hb := HB.out
      clear HB
      generalize zs.getD k 0 = X at *
      by_cases c1 : X < lo
      · clear hb
        go_wp2
        go_ret
        exact ⟨rfl, rfl⟩
      · have c2 : hi < X := by omega
        clear hb
        go_wp2
        go_ret
        exact ⟨rfl, rfl⟩

/-! ### Numbers under a window -/
def un (ws ls : List Int) (b : Int) (j : Nat) : Int := rnd (ls.getD j 0 * ws.getD j 0) b
def upF (F : Nat → Int) (k : Nat) (j : Nat) : Int := if j < k then F j else 0
theorem upF_step {w : World} {g n k : Nat} {F : Nat → Int} {v : Int} (h : w.rowIs g 3 n (fun j => .int .i64 (upF F k j))) (hv : v = F k) : (w.setCell ⟨g, k, none⟩ (.int .i64 v)).rowIs g 3 n (fun j => .int .i64 (upF F (k + 1) j)) := by
  refine (h.set k (.int .i64 v)).congr fun i _ => ?_
  unfold upF
  by_cases e : i = k
  · subst e; simp [hv]
  · by_cases c : i < k
    · simp [e, c, show i < k + 1 by omega]
    · simp [e, c, show ¬ i < k + 1 by omega]
theorem upF_end {w : World} {g n : Nat} {F : Nat → Int} (h : w.rowIs g 3 n (fun j => .int .i64 (upF F n j))) : w.rowIs g 3 n (fun j => .int .i64 (F j)) :=
  h.congr fun i hi => by unfold upF; rw [if_pos hi]
theorem mul_in {x y M : Int} (h0 : -M ≤ x) (h1 : x ≤ M) (k0 : 0 ≤ y) (k1 : y ≤ 4194304) : -(M * 4194304) ≤ x * y ∧ x * y ≤ M * 4194304 := by
  have a : 0 ≤ (M - x) * y := Int.mul_nonneg (by omega) (by omega)
  have b : 0 ≤ (M + x) * y := Int.mul_nonneg (by omega) (by omega)
  have c : 0 ≤ M * (4194304 - y) := Int.mul_nonneg (by omega) (by omega)
  constructor <;> grind
set_option maxRecDepth 100000 in
set_option maxHeartbeats 2000000 in
theorem under_ok (A C : Option Addr) (ca cc : Nat) (ws ls : List Int) (n m : Nat) (b : Int) (w : World) (hn : ws.length = n) (hm : ls.length = m) (hnm : n ≤ m) (hm2 : m ≤ 1000) (ra : RdA w A ws) (rc : RdA w C ls) (hw : InR 0 4194304 ws) (hl : InR (-137438953472) 137438953472 ls) (b0 : 0 ≤ b) (b1 : b ≤ 62) :
    Calls Try.prog 36 #[.slice A n ca, .slice C m cc, .int .i64 b] w fun e w' => e = .returned (.slice (some ⟨w.heap.size, 0, none⟩) n n) ∧ w'.rowIs w.heap.size 3 n (fun j => .int .i64 (un ws ls b j)) ∧ Below w.heap.size w w' := by
  obtain ⟨i0, hi, hz0, hz1, hz2⟩ := info_parts info3
  have R0 : Hid ((w.alloc (.cells (madeCells #[.int .i64 0] n) 3)).rowIs w.heap.size 3 n (fun j => .int .i64 (upF (un ws ls b) 0 j))) := Lib.hid ((World.rowIs_made w (.int .i64 0) n 3).congr fun j _ => by unfold upF; simp)
  have B0 : Hid (Below w.heap.size w (w.alloc (.cells (madeCells #[.int .i64 0] n) 3))) := Lib.hid ((Below.refl _ _).alloc (Nat.le_refl _) _)
  have RA := Lib.hid ra
  have RC := Lib.hid rc
  have HW := Lib.hid hw
  have HL := Lib.hid hl
  have HN := Lib.hid hn
  have HM := Lib.hid hm
  clear ra rc hw hl hn hm
  go_enter Try.func36, Try.ntmps36
  go_wp2_with (refine wpList_make_row _ rfl _ _ 22 rfl 3 i0 (.int .i64 0) Try.underlying22 hi hz0 hz1 rfl .i64 .i64 n rfl rfl (by rw [hz2]; omega) (by omega) ?_)
  go_loopw [15] (fun i wr => ∃ k : Nat, k ≤ n ∧ i = .int .i64 k ∧ Hid (wr.rowIs w.heap.size 3 n (fun j => .int .i64 (upF (un ws ls b) k j))) ∧ Hid (Below w.heap.size w wr)) (fun i _ => n - (intOf i).toNat)
  case atStart => exact ⟨0, by omega, rfl, R0, B0⟩
  case round =>
    obtain ⟨k, hk, rfl, hR, hB⟩ := hrel
    clear R0 B0
    by_cases hlt : k < n
    · obtain ⟨x0, x1⟩ := HW.out k (by rw [HN.out]; exact hlt)
      obtain ⟨y0, y1⟩ := HL.out k (by rw [HM.out]; omega)
      obtain ⟨ba, oa, rfl, _, c1⟩ := RA.out.below hB.out k (by rw [HN.out]; exact hlt)
      obtain ⟨bc, oc, rfl, _, c2⟩ := RC.out.below hB.out k (by rw [HM.out]; omega)
      obtain ⟨p0, p1⟩ := mul_in y0 y1 x0 x1
      have gc := hR.out.cell hlt
      have e0 : upF (un ws ls b) k k = 0 := by unfold upF; rw [if_neg (by omega)]
      rw [e0] at gc
      have gf := hR.out.frozen k
      have R1 := Lib.hid (upF_step (v := un ws ls b k) hR.out rfl)
      have B1 := Lib.hid (hB.out.setCell (p := ⟨w.heap.size, k, none⟩) (Nat.le_refl _) (.int .i64 (un ws ls b k)))
      have hun : un ws ls b k = rnd (ls.getD k 0 * ws.getD k 0) b := rfl
      have HR := Lib.hid (round_in (ls.getD k 0 * ws.getD k 0) b wr (by omega) (by omega) b0 b1)
      rw [← hun] at HR
      clear hR hB hun e0
      generalize un ws ls b k = V at *
      have hmlt : (k : Int) < m := by omega
      generalize ls.getD k 0 = Y at *
      generalize ws.getD k 0 = X at *
      obtain ⟨p, hp⟩ : ∃ p, Y * X = p := ⟨_, rfl⟩
      have hp2 : IntKind.i64.wrap (Y * X) = p := by rw [hp]; rw [hp] at p0 p1; simp [IntKind.wrap, IntKind.bits, IntKind.signed]; omega
      rw [hp] at HR p0 p1
      clear hp
      go_wp2_with (go_at_call 43; ((with_reducible refine (HR.out).mono ?_); rintro e w6 ⟨rfl, rfl⟩))
      go_roundw
      case rel => exact ⟨k + 1, by omega, by go_num, R1, B1⟩
      case measure => simp [intOf]; omega
    · obtain rfl : k = n := by omega
      have R1 := upF_end hR.out
      have B1 := hB.out
      clear hR hB
      go_wp2
      go_ret
      exact ⟨rfl, R1, B1⟩
end Go.Proofs.Yteknakakefhbmaa.Bl
