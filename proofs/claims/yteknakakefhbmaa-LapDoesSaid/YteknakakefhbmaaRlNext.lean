/- What is next, by the answer. -/
import Derived.Test.YteknakakefhbmaaRlDone
import Derived.WalkKit
import Derived.Below
import Derived.RegionTactic
import Derived.Deep.QuietTactic
import Derived.BigQuiet
import Derived.ChangeAlike
import Derived.Deep.OwnRows
import Derived.Deep.RegionLaw
import Derived.ProofKit
import Derived.OpenShut
import Derived.ChangeSlices
import Derived.Lib.Hide
import Derived.Great.Walk
import Derived.ChangeKeysEq
import Derived.ChangeOld
import Derived.ShutString
namespace Go.Proofs.Yteknakakefhbmaa.Rl
open Go Go.ChangeShapes Go.WideShapes Go.ChangeAt Go.RowKit Go.Proofs.Yteknakakefhbmaa.Fx Go.Proofs.Yteknakakefhbmaa.Rk Go.Proofs.Yteknakakefhbmaa.Mm Go.Proofs.Yteknakakefhbmaa.Md Go.Proofs.Yteknakakefhbmaa.Bl Go.Proofs.Yteknakakefhbmaa.Cpy Go.Proofs.Yteknakakefhbmaa.Lp Go.Proofs.Yteknakakefhbmaa.Rf

set_option maxRecDepth 100000 in
set_option maxHeartbeats 2000000 in
theorem rnext_bad1 (A L : Option Addr) (cap cl : Nat) (tail lines : List Int) (seq0 sh0 seq shape : Int) (w : World) (rd : RdA w A tail) (h : ¬ LapOK tail seq0 sh0) :
    Calls Try.prog 26 #[lapV (.slice A tail.length cap) seq0 sh0, .int .u8 seq, .int .u8 shape, .slice L lines.length cl] w (AnsN (nO tail seq0 sh0 seq shape lines) w) := by
  obtain ⟨q1, q2, q3⟩ := two38 w (.slice A tail.length cap) (.int .u8 seq0) (.int .u8 sh0)
  have HO := Lib.hid (show nO tail seq0 sh0 seq shape lines = ⟨[], 0, 0, [], 8⟩ from if_pos h)
  have HC := rmay_no A cap tail seq0 sh0 _ (rd.below q3) h
  obtain ⟨x0, x1, x2, _⟩ := cell_in q1
  have Q2 := Lib.hid q2
  have Q3 := Lib.hid q3
  clear rd h q2 q3 q1
  unfold lapV at HC ⊢
  have HC := Lib.hid HC
  go_enter Try.func26, Try.ntmps26
  go_wp2_with (go_at_call 45; ((with_reducible refine (HC.out).mono ?_); rintro e w1 ⟨rfl, hb1⟩; have Q4 := Lib.hid ((hb1.block _ (by simp)).trans Q2.out); have B1 := Lib.hid (Q3.out.trans (hb1.mono (by simp; omega))); obtain ⟨c0, c1, c2, f0, f1, f2⟩ := cell_in Q4.out; clear hb1))
  obtain ⟨d0, d1, d2, _⟩ := cell_in (set3 (.slice none 0 0) (.int .u8 0) (.int .u8 0) Q4.out)
  refine bodyPost_ret (res3 rfl rfl (load38 d0 d1 d2)) rfl ?_
  exact ansN HO.out (own_nil _ _) (own_nil _ _) (bel3 _ _ _ B1.out (by omega))
set_option maxRecDepth 100000 in
set_option maxHeartbeats 2000000 in
theorem rnext_bad2 (A L : Option Addr) (cap cl : Nat) (tail lines : List Int) (seq0 sh0 seq shape : Int) (w : World) (s0 : 0 ≤ seq) (w0 : 0 ≤ sh0) (h0 : 0 ≤ shape) (rd : RdA w A tail) (hc : lines.length ≤ cl) (hcm : cl ≤ maxLen) (rl : RdA w L lines) (h : LapOK tail seq0 sh0) (he : (sO seq sh0 shape lines).2 ≠ 0) :
    Calls Try.prog 26 #[lapV (.slice A tail.length cap) seq0 sh0, .int .u8 seq, .int .u8 shape, .slice L lines.length cl] w (AnsN (nO tail seq0 sh0 seq shape lines) w) := by
  obtain ⟨q1, q2, q3⟩ := two38 w (.slice A tail.length cap) (.int .u8 seq0) (.int .u8 sh0)
  have HO := Lib.hid (show nO tail seq0 sh0 seq shape lines = ⟨[], 0, 0, [], (sO seq sh0 shape lines).2⟩ by unfold nO; rw [if_neg (by simpa using h), if_pos he])
  have HC := rmay_yes A cap tail seq0 sh0 _ (rd.below q3) h
  have HS := Lib.hid (fun W r => rsynth_O seq sh0 shape L cl lines W s0 w0 h0 hc hcm r)
  obtain ⟨x0, x1, x2, _⟩ := cell_in q1
  have Q1 := Lib.hid q1
  have Q2 := Lib.hid q2
  have Q3 := Lib.hid q3
  have RL := Lib.hid rl
  have hne : ((sO seq sh0 shape lines).2 != 0) = true := by simpa using he
  clear rd h q2 q3 q1 rl he hc hcm s0 w0 h0
  generalize sO seq sh0 shape lines = p at *
  obtain ⟨pl, pe⟩ := p
  unfold lapV at HC ⊢
  have HC := Lib.hid HC
  dsimp only at hne HO
  go_enter Try.func26, Try.ntmps26
  go_wp2_with first
    | (go_at_call 45; ((with_reducible refine (HC.out).mono ?_); rintro e w1 ⟨rfl, hb1⟩; have Q4 := Lib.hid ((hb1.block _ (by simp)).trans Q2.out); have Q5 := Lib.hid ((hb1.block _ (by simp; omega)).trans Q1.out); have B1 := Lib.hid (Q3.out.trans (hb1.mono (by simp; omega))); have z1 := hb1.size; obtain ⟨_, _, y2, _⟩ := cell_in Q5.out; clear hb1))
    | (go_at_call 20; ((with_reducible refine (HS.out _ (RL.out.below B1.out)).mono ?_); rintro e w2 ⟨v2, rfl, ho2, hb2⟩; obtain ⟨a2, k2, rfl, _⟩ := ho2.rd.open; have B2 := Lib.hid (bt B1.out hb2); have Q6 := Lib.hid ((hb2.block _ (by simp at z1; omega)).trans Q4.out); obtain ⟨c0, c1, c2, f0, f1, f2⟩ := cell_in Q6.out; clear ho2 hb2))
  obtain ⟨d0, d1, d2, _⟩ := cell_in (set3 (.slice none 0 0) (.int .u8 0) (.int .u8 0) Q6.out)
  refine bodyPost_ret (res3 rfl rfl (load38 d0 d1 d2)) rfl ?_
  exact ansN HO.out (own_nil _ _) (own_nil _ _) (bel3 _ _ _ B2.out (by omega))
set_option maxRecDepth 100000 in
set_option maxHeartbeats 2000000 in
theorem rnext_good (A L : Option Addr) (cap cl : Nat) (tail lines : List Int) (seq0 sh0 seq shape : Int) (w : World) (s0 : 0 ≤ seq) (w0 : 0 ≤ sh0) (h0 : 0 ≤ shape) (rd : RdA w A tail) (hc : lines.length ≤ cl) (hcm : cl ≤ maxLen) (rl : RdA w L lines) (h : LapOK tail seq0 sh0) (he : (sO seq sh0 shape lines).2 = 0) :
    Calls Try.prog 26 #[lapV (.slice A tail.length cap) seq0 sh0, .int .u8 seq, .int .u8 shape, .slice L lines.length cl] w (AnsN (nO tail seq0 sh0 seq shape lines) w) := by
  obtain ⟨q1, q2, q3⟩ := two38 w (.slice A tail.length cap) (.int .u8 seq0) (.int .u8 sh0)
  obtain ⟨hM, hl, hI⟩ := sO_zero he
  have HO := Lib.hid (show nO tail seq0 sh0 seq shape lines = ⟨mk 256 (fun j => SL seq sh0 shape lines (256 + j)), seq, shape, mk 256 (dP tail (SL seq sh0 shape lines)), 0⟩ from nO_good h hM hl hI)
  have HC := rmay_yes A cap tail seq0 sh0 _ (rd.below q3) h
  have HS := Lib.hid (fun W r => rsynth_O seq sh0 shape L cl lines W s0 w0 h0 hc hcm r)
  have HD := fun W ra ro => rdone_ok A L cap cl tail lines seq0 sh0 seq shape W s0 w0 h0 h hM hl hI (by omega) hcm ra ro
  obtain ⟨x0, x1, x2, _⟩ := cell_in q1
  have Q1 := Lib.hid q1
  have Q2 := Lib.hid q2
  have Q3 := Lib.hid q3
  have RL := Lib.hid rl
  have RD := Lib.hid rd
  clear rd h q2 q3 q1 rl hc hcm s0 w0 h0 hM hl hI
  generalize sO seq sh0 shape lines = p at *
  obtain ⟨pl, pe⟩ := p
  obtain rfl : pe = 0 := he
  unfold lapV at HC HD ⊢
  have HC := Lib.hid HC
  have HD := Lib.hid HD
  go_enter Try.func26, Try.ntmps26
  go_wp2_with first
    | (go_at_call 45; ((with_reducible refine (HC.out).mono ?_); rintro e w1 ⟨rfl, hb1⟩; have Q4 := Lib.hid ((hb1.block _ (by simp)).trans Q2.out); have Q5 := Lib.hid ((hb1.block _ (by simp; omega)).trans Q1.out); have B1 := Lib.hid (Q3.out.trans (hb1.mono (by simp; omega))); have z1 : w.heap.size + 1 < w1.heap.size := Nat.lt_of_lt_of_le (by simp) hb1.size; obtain ⟨y0, y1, y2, _⟩ := cell_in Q5.out; clear hb1))
    | (go_at_call 20; ((with_reducible refine (HS.out _ (RL.out.below B1.out)).mono ?_); rintro e w2 ⟨v2, rfl, ho2, hb2⟩; obtain ⟨a2, k2, rfl, _⟩ := ho2.rd.open; have B2 := Lib.hid (bt B1.out hb2); have z2 := Nat.lt_of_lt_of_le z1 hb2.size; have Q6 := Lib.hid ((hb2.block _ z1).trans Q4.out); have Q7 := Lib.hid ((hb2.block _ (show w.heap.size < w1.heap.size by omega)).trans Q5.out); obtain ⟨t0, t1, t2, _⟩ := cell_in Q7.out; clear ho2 hb2))
    | (go_at_call 46; ((with_reducible refine (HD.out _ (RD.out.below B2.out) (RL.out.below B2.out)).mono ?_); rintro e w3 ⟨v3, u3, rfl, ho3, hp3, hb3⟩; obtain ⟨g3, c3, rfl, _, hl3, _⟩ := own_open ho3 (mk_len _ _) (by decide); have O3 := Lib.hid ho3; have P3 := Lib.hid hp3; have B3 := Lib.hid (bt B2.out hb3); have z3 := Nat.lt_of_lt_of_le z2 hb3.size; obtain ⟨r0, r1, r2⟩ := box38 w3 (.slice (some ⟨g3, 0, none⟩) 256 c3) (.int .u8 seq) (.int .u8 shape); have Q8 := Lib.hid ((Below.heap_alloc w3 (.cells #[.slice (some ⟨g3, 0, none⟩) 256 c3, .int .u8 seq, .int .u8 shape] 38) _ z3).trans ((hb3.block _ z2).trans Q6.out)); obtain ⟨c0, c1, c2, f0, f1, f2⟩ := cell_in Q8.out; have Q9 := Lib.hid ((hb3.block _ z2).trans Q6.out); obtain ⟨j0, j1, j2, j3, j4, j5⟩ := cell_in Q9.out; have ne3 : w3.heap.size ≠ w.heap.size + 1 := (by omega); have ne4 : w.heap.size + 1 ≠ w3.heap.size := (by omega); clear ho3 hp3 hb3))
  obtain ⟨d0, d1, d2, _⟩ := cell_in ((Below.heap_alloc (((w3.setCell ⟨w.heap.size + 1, 0, none⟩ (.slice (some ⟨g3, 0, none⟩) 256 c3)).setCell ⟨w.heap.size + 1, 1, none⟩ (.int .u8 seq)).setCell ⟨w.heap.size + 1, 2, none⟩ (.int .u8 shape)) (.cells #[.slice (some ⟨g3, 0, none⟩) 256 c3, .int .u8 seq, .int .u8 shape] 38) _ (by rw [setsz, setsz, setsz]; exact z3)).trans (set3 (.slice (some ⟨g3, 0, none⟩) 256 c3) (.int .u8 seq) (.int .u8 shape) Q9.out))
  refine bodyPost_ret (res3 rfl rfl (load38 d0 d1 d2)) rfl ?_
  have bb := bel3 (.slice (some ⟨g3, 0, none⟩) 256 c3) (.int .u8 seq) (.int .u8 shape) B3.out (show w.heap.size ≤ w.heap.size + 1 by omega)
  exact ansN HO.out ((own_alloc (((O3.out.set (by omega)).set (by omega)).set (by omega)) _).rebase (by omega)) ((own_alloc (((P3.out.set (by omega)).set (by omega)).set (by omega)) _).rebase (by omega)) (bb.alloc bb.size _)
theorem rnext_O (A L : Option Addr) (cap cl : Nat) (tail lines : List Int) (seq0 sh0 seq shape : Int) (w : World) (s0 : 0 ≤ seq) (w0 : 0 ≤ sh0) (h0 : 0 ≤ shape) (rd : RdA w A tail) (hc : lines.length ≤ cl) (hcm : cl ≤ maxLen) (rl : RdA w L lines) :
    Calls Try.prog 26 #[lapV (.slice A tail.length cap) seq0 sh0, .int .u8 seq, .int .u8 shape, .slice L lines.length cl] w (AnsN (nO tail seq0 sh0 seq shape lines) w) := by
  by_cases h : LapOK tail seq0 sh0
  · by_cases he : (sO seq sh0 shape lines).2 = 0
    · exact rnext_good A L cap cl tail lines seq0 sh0 seq shape w s0 w0 h0 rd hc hcm rl h he
    · exact rnext_bad2 A L cap cl tail lines seq0 sh0 seq shape w s0 w0 h0 rd hc hcm rl h he
  · exact rnext_bad1 A L cap cl tail lines seq0 sh0 seq shape w rd h
end Go.Proofs.Yteknakakefhbmaa.Rl
