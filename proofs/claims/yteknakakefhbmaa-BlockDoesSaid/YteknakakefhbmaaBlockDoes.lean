/- The block does what the answer says. BlockDoes returns true, whatever the arguments, the memory and the schedule. No condition. -/
import Derived.Test.YteknakakefhbmaaRfPub
import Derived.WalkKit
import Derived.Below
import Derived.RegionTactic
import Derived.Deep.QuietTactic
import Derived.BigQuiet
import Derived.ChangeAlike
import Derived.Deep.OwnRows
import Derived.Deep.RegionLaw
import Derived.ProofKit
import Derived.OpenShut
import Derived.ChangeSlices
import Derived.Lib.Hide
import Derived.Great.Walk
import Derived.ChangeKeysEq
import Derived.ChangeOld
import Derived.ShutString
namespace Go.Proofs.Yteknakakefhbmaa.blockDoes
open Go Go.ChangeShapes Go.WideShapes Go.ChangeAt Go.RowKit Go.Proofs.Yteknakakefhbmaa.Fx Go.Proofs.Yteknakakefhbmaa.Rk Go.Proofs.Yteknakakefhbmaa.Mm Go.Proofs.Yteknakakefhbmaa.Md Go.Proofs.Yteknakakefhbmaa.Bl Go.Proofs.Yteknakakefhbmaa.Cpy Go.Proofs.Yteknakakefhbmaa.Rf

theorem u8_lo {x : Int} (h : (Lit.int .u8 x).wf = true) : 0 ≤ x := by simp [Lit.wf] at h; have e : IntKind.u8.min = 0 := rfl; omega
theorem caps {W : World} {a : Option Addr} {len cap : Nat} {z : List Int} (h : IsRow .i64 W a len cap z) : len ≤ cap ∧ cap ≤ maxLen := by
  rcases h with ⟨_, h1, h2, _⟩ | ⟨_, _, h1, h2, _⟩
  · subst h1 h2; unfold maxLen; omega
  · exact ⟨h1, h2⟩
theorem own_cap {base : Nat} {w : World} {A : Option Addr} {n c : Nat} {L : List Int} (h : Fx.Own base w (.slice A n c) L) (hn : L.length = n) : n ≤ c ∧ c ≤ maxLen := by
  subst hn
  obtain ⟨_, h⟩ := h
  rcases h with ⟨e, h⟩ | ⟨g, cap, cur, e, h3, h4, h5, h6, _⟩
  · simp only [Value.slice.injEq] at e; obtain ⟨_, e1, rfl⟩ := e; unfold maxLen; omega
  · simp only [Value.slice.injEq] at e; obtain ⟨_, _, rfl⟩ := e; exact ⟨h5, h6⟩
/-- Few numbers, and no great ones. -/
def Few (L : List Int) : Prop := L.length ≤ 1000 ∧ ∀ j, -4611686018427387904 ≤ L.getD j 0 ∧ L.getD j 0 ≤ 4611686018427387904
theorem few_in {L : List Int} {lo hi : Int} (h : L.length ≤ 1000) (hI : InR lo hi L) (h0 : -4611686018427387904 ≤ lo) (h1 : hi ≤ 4611686018427387904) : Few L := ⟨h, fun j => by
  by_cases hj : j < L.length
  · have := hI j hj; omega
  · have e : L.getD j 0 = 0 := by simp [List.getD_eq_getElem?_getD, List.getElem?_eq_none (by omega : L.length ≤ j)]
    rw [e]; omega⟩
theorem few_nil : Few [] := ⟨by simp, fun j => by simp⟩
theorem few_w (seq was shape : Int) : Few (wO seq was shape).1 := by
  unfold wO
  split
  · exact few_nil
  · exact few_in (by rw [wv_len]; omega) (wv_in _ _ _) (by omega) (by omega)
theorem few_a (seq was shape : Int) (pcm : List Int) : Few (aO seq was shape pcm).1 := by
  by_cases h : May seq was shape ∧ pcm.length = 512 ∧ InR (-32768) 32767 pcm
  · rw [aO_good h.1 h.2.1 h.2.2]
    exact few_in (by rw [AL_len]; omega) (AL_in h.2.1 h.2.2) (by omega) (by omega)
  · obtain ⟨c, hc, _⟩ := aO_bad h
    rw [hc]; exact few_nil
set_option maxRecDepth 100000 in
theorem few_s (seq was shape : Int) (lines : List Int) : Few (sO seq was shape lines).1 := by
  by_cases h1 : May seq was shape
  · by_cases h2 : lines.length = 256
    · by_cases h3 : InR (-268435455) 268435455 lines
      · rw [sO_good h1 h2 h3]
        dsimp only
        refine few_in (lo := -34359738368) (hi := 34359738368) (L := mk 512 (SL seq was shape lines)) (by rw [mk_len]; omega) (inR_mk fun j => ?_) (by omega) (by omega)
        unfold SL
        split
        · have := syT_bd h2 h3 (was := was) (shape := shape) 8 j (by decide); omega
        · have := lyT_bd h2 h3 (seq := seq) (was := was) (shape := shape) 1 j; omega
      · unfold sO; rw [if_neg (by simpa using h1), if_neg (by simpa using h2), if_pos h3]; exact few_nil
    · unfold sO; rw [if_neg (by simpa using h1), if_pos h2]; exact few_nil
  · unfold sO; rw [if_pos h1]; exact few_nil
theorem Mut.set {lo hi : Nat} {w : World} {A : Option Addr} {n k g i : Nat} {v : Value} (h : Mut lo hi w A n k) (hg : g < lo) : Mut lo hi (w.setCell ⟨g, i, none⟩ v) A n k := by
  rcases h with h | ⟨g', cap, F, e, h1, h2, h3, h4, h5⟩
  · exact .inl h
  · exact .inr ⟨g', cap, F, e, h1, h2, h3, h4.of_block (heap_other v (by omega)), h5⟩
set_option maxRecDepth 100000 in
theorem long (q a b : Int) (A A' : Option Addr) (cap cap' len len' : Nat) (w : World) (hl : 1000 < (len : Int) ∨ 1000 < (len' : Int)) : Calls Try.prog 4 #[.int .u8 q, .int .u8 a, .int .u8 b, .slice A len cap, .slice A' len' cap'] w fun e w' => e = .returned (.bool true) ∧ Below w.heap.size w w' := by
  by_cases h1 : 1000 < (len : Int)
  · clear hl
    go_enter Try.func4, Try.ntmps4
    go_wp2
    go_ret
    exact ⟨rfl, Below.refl _ _⟩
  · have h2 : 1000 < (len' : Int) := by omega
    clear hl
    go_enter Try.func4, Try.ntmps4
    go_wp2
    go_ret
    exact ⟨rfl, Below.refl _ _⟩
set_option maxRecDepth 100000 in
set_option maxHeartbeats 8000000 in
theorem does (q a b : Int) (A A' : Option Addr) (cap cap' : Nat) (zs xs : List Int) (w : World) (q0 : 0 ≤ q) (a0 : 0 ≤ a) (b0 : 0 ≤ b) (h0 : ¬ 1000 < (zs.length : Int)) (h0' : ¬ 1000 < (xs.length : Int)) (hr : Rd w (.slice A zs.length cap) zs) (hr' : Rd w (.slice A' xs.length cap') xs)
    (hc : Cp w A zs.length cap zs) (hc' : Cp w A' xs.length cap' xs) (hcap : xs.length ≤ cap' ∧ cap' ≤ maxLen) :
    Calls Try.prog 4 #[.int .u8 q, .int .u8 a, .int .u8 b, .slice A zs.length cap, .slice A' xs.length cap'] w fun e w' => e = .returned (.bool true) ∧ Below w.heap.size w w' := by
  have HZ := Lib.hid hr
  have HX := Lib.hid hr'
  have KZ := Lib.hid hc
  have KX := Lib.hid hc'
  have F0 := few_w q a b
  have F1 := few_a q a b zs
  have F2 := few_s q a b xs
  have G13 := fun w => window_O q a b w q0 a0 b0
  have G18 := fun w => rwindow_O q a b w q0 a0 b0
  have G15 := fun (Z : Option Addr) (c : Nat) (w : World) (hc : zs.length ≤ c ∧ c ≤ maxLen) r => analyse_O q a b Z zs.length c zs w q0 a0 b0 rfl hc.1 hc.2 r
  have G19 := fun w r => ranalyse_O q a b A cap zs w q0 a0 b0 r
  have G14 := fun (Z : Option Addr) (c : Nat) (w : World) (hc : xs.length ≤ c ∧ c ≤ maxLen) r => synth_O q a b Z xs.length c xs w q0 a0 b0 rfl hc.1 hc.2 r
  have G20 := fun w r => rsynth_O q a b A' cap' xs w q0 a0 b0 hcap.1 hcap.2 r
  generalize wO q a b = P at *
  generalize aO q a b zs = Q at *
  generalize sO q a b xs = S at *
  obtain ⟨L, e0⟩ := P
  obtain ⟨K, e1⟩ := Q
  obtain ⟨M, e2⟩ := S
  have H13 := Lib.hid G13
  have H18 := Lib.hid G18
  have H15 := Lib.hid G15
  have H19 := Lib.hid G19
  have H14 := Lib.hid G14
  have H20 := Lib.hid G20
  have HLb := Lib.hid F0
  have HKb := Lib.hid F1
  have HMb := Lib.hid F2
  have hz : zs.length ≤ 1000 := by omega
  have hx : xs.length ≤ 1000 := by omega
  have hz5 : zs.length ≤ 5000 := by omega
  have hx5 : xs.length ≤ 5000 := by omega
  have hL5 : L.length ≤ 5000 := by have : L.length ≤ 1000 := HLb.out.1; omega
  have hK5 : K.length ≤ 5000 := by have : K.length ≤ 1000 := HKb.out.1; omega
  have hM5 : M.length ≤ 5000 := by have : M.length ≤ 1000 := HMb.out.1; omega
  clear hr hr' hc hc' G13 G18 G15 G19 G14 G20 F0 F1 F2 q0 a0 b0 hcap
  go_enter Try.func4, Try.ntmps4
  go_wp2_with first
    | (at_builtin; refine wpList_copy _ rfl _ (.tmp 36) rfl rfl A zs.length cap zs rfl rfl hz KZ.out ?_; intro v2 w2 ho2 hb2; have b2 := Lib.hid hb2; have rd2 := Lib.hid ho2.rd; obtain ⟨Ao, co, rfl⟩ := ho2.rd.shape; have k2 := own_cap ho2 rfl; clear ho2 hb2)
    | (at_builtin; refine wpList_copy _ rfl _ (.tmp 38) rfl rfl A' xs.length cap' xs rfl rfl hx (KX.out.below b2.out) ?_; intro v3 w3 ho3 hb3; have b3 := Lib.hid (bt b2.out hb3); have rdo := Lib.hid (rd2.out.below hb3); have rdm := Lib.hid ho3.rd; obtain ⟨Am, cm, rfl⟩ := ho3.rd.shape; have k3 := own_cap ho3 rfl; clear ho3 hb3)
    | (go_at_call 13; ((with_reducible refine (H13.out _).mono ?_); rintro e w4 ⟨v4, rfl, ho, hb⟩; obtain ⟨Aa, ca, rfl⟩ := ho.rd.shape; have oa := Lib.hid ho; have s4 := Lib.hid hb; have b4 := Lib.hid (bt b3.out hb); clear ho hb))
    | (go_at_call 18; ((with_reducible refine (H18.out _).mono ?_); rintro e w5 ⟨v5, rfl, ho, hb⟩; obtain ⟨Ab, cb, rfl⟩ := ho.rd.shape; have ob := Lib.hid ho; have s5 := Lib.hid hb; have b5 := Lib.hid (bt b4.out hb); clear ho hb))
    | (go_at_call 15; ((with_reducible refine (H15.out Ao co _ k2 (rd_rdA (rdo.out.below (bt s4.out s5.out)))).mono ?_); rintro e w6 ⟨v6, rfl, ho, hb⟩; obtain ⟨Ac, cc, rfl⟩ := ho.rd.shape; have oc := Lib.hid ho; have s6 := Lib.hid hb; have b6 := Lib.hid (bt b5.out hb); clear ho hb))
    | (go_at_call 19; ((with_reducible refine (H19.out _ (rd_rdA (HZ.out.below b6.out))).mono ?_); rintro e w7 ⟨v7, rfl, ho, hb⟩; obtain ⟨Ad, cd, rfl⟩ := ho.rd.shape; have od := Lib.hid ho; have s7 := Lib.hid hb; have b7 := Lib.hid (bt b6.out hb); clear ho hb))
    | (go_at_call 14; ((with_reducible refine (H14.out Am cm _ k3 (rd_rdA (rdm.out.below (bt (bt (bt s4.out s5.out) s6.out) s7.out)))).mono ?_); rintro e w8 ⟨v8, rfl, ho, hb⟩; obtain ⟨Ax, cx, rfl⟩ := ho.rd.shape; have ox := Lib.hid ho; have s8 := Lib.hid hb; have b8 := Lib.hid (bt b7.out hb); clear ho hb))
    | (go_at_call 20; ((with_reducible refine (H20.out _ (rd_rdA (HX.out.below b8.out))).mono ?_); rintro e w9 ⟨v9, rfl, ho, hb⟩; obtain ⟨Ay, cy, rfl⟩ := ho.rd.shape; have oy := Lib.hid ho; have s9 := Lib.hid hb; have b9 := Lib.hid (bt b8.out hb); clear ho hb))
    | (go_at_call 21; ((with_reducible refine (same_yes (.slice Aa L.length ca) (.slice Ab L.length cb) L _ hL5 (oa.out.rd.below (bt (bt (bt (bt s5.out s6.out) s7.out) s8.out) s9.out)) (ob.out.rd.below (bt (bt (bt s6.out s7.out) s8.out) s9.out))).mono ?_); rintro e w10 ⟨rfl, hb⟩; have s10 := Lib.hid hb; clear hb))
    | (go_at_call 21; ((with_reducible refine (same_yes (.slice Ac K.length cc) (.slice Ad K.length cd) K _ hK5 (oc.out.rd.below (bt (bt (bt s7.out s8.out) s9.out) s10.out)) (od.out.rd.below (bt (bt s8.out s9.out) s10.out))).mono ?_); rintro e w11 ⟨rfl, hb⟩; have s11 := Lib.hid hb; clear hb))
    | (go_at_call 21; ((with_reducible refine (same_yes (.slice Ax M.length cx) (.slice Ay M.length cy) M _ hM5 (ox.out.rd.below (bt (bt s9.out s10.out) s11.out)) (oy.out.rd.below (bt s10.out s11.out))).mono ?_); rintro e w12 ⟨rfl, hb⟩; have s12 := Lib.hid hb; clear hb))
  have t9 := Lib.hid (bt (bt (bt s9.out s10.out) s11.out) s12.out)
  have t7 := Lib.hid (bt (bt s7.out s8.out) t9.out)
  have t5 := Lib.hid (bt (bt s5.out s6.out) t7.out)
  have ma := Lib.hid ((mut_of oa.out rfl HLb.out.2).below t5.out)
  have mc := Lib.hid ((mut_of oc.out rfl HKb.out.2).below t7.out)
  have mx := Lib.hid ((mut_of ox.out rfl HMb.out.2).below t9.out)
  have hB := Lib.hid (bt s4.out t5.out)
  have h45 : w4.heap.size ≤ w5.heap.size := s5.out.size
  have h34 : w3.heap.size ≤ w4.heap.size := s4.out.size
  have h67 : w6.heap.size ≤ w7.heap.size := s7.out.size
  have h56 : w5.heap.size ≤ w6.heap.size := s6.out.size
  clear H13 H18 H15 H19 H14 H20 s4 s5 s6 s7 s8 s9 s10 s11 s12 t9 t7 t5 ob od oy b4 b5 b6 b7 b8 b9 b2 rd2 KZ KX oa oc ox k2 k3
  go_loopw [25] (fun i wr => ∃ k : Nat, k ≤ L.length ∧ i = .int .i64 k ∧ Hid (Mut w3.heap.size w4.heap.size wr Aa L.length k) ∧ Hid (Mut w5.heap.size w6.heap.size wr Ac K.length 0) ∧ Hid (Mut w7.heap.size w8.heap.size wr Ax M.length 0) ∧ Hid (Below w3.heap.size w3 wr)) (fun i _ => L.length - (intOf i).toNat)
  case atStart => exact ⟨0, by omega, rfl, ma, mc, mx, hB⟩
  case round =>
    obtain ⟨k, hk, rfl, hM, hmc, hmx, hBr⟩ := hrel
    clear ma mc mx hB
    by_cases hlt : k < L.length
    · have hlt2 : (k : Int) < L.length := by omega
      rcases hM.out with hn | ⟨g, cg, F, rfl, hlo, hhi, hcg, hrow, hFz⟩
      · omega
      have gf := hrow.frozen k
      have gc := hrow.cell (i := k) (by omega)
      have gM := Lib.hid (mut_step (v := .int .i64 0) hlo hhi hcg hrow hFz)
      have gmc := Lib.hid (Mut.set (v := .int .i64 0) (g := g) (i := k) hmc.out (by omega))
      have gmx := Lib.hid (Mut.set (v := .int .i64 0) (g := g) (i := k) hmx.out (by omega))
      have gB := Lib.hid (hBr.out.setCell (p := ⟨g, k, none⟩) (show w3.heap.size ≤ g by omega) (.int .i64 0))
      clear hM hmc hmx hBr hrow hFz
      go_wp2
      go_roundw
      case rel => exact ⟨k + 1, by omega, by go_num, gM, gmc, gmx, gB⟩
      case measure => simp [intOf]; omega
    · have hend : ¬ (k : Int) < L.length := by omega
      clear hlt hM
      go_wp2
      go_loopw [26] (fun i wr => ∃ k : Nat, k ≤ K.length ∧ i = .int .i64 k ∧ Hid (Mut w5.heap.size w6.heap.size wr Ac K.length k) ∧ Hid (Mut w7.heap.size w8.heap.size wr Ax M.length 0) ∧ Hid (Below w3.heap.size w3 wr)) (fun i _ => K.length - (intOf i).toNat)
      case atStart => exact ⟨0, by omega, rfl, hmc, hmx, hBr⟩
      case round =>
        obtain ⟨k, hk, rfl, hM, hmx, hBr⟩ := hrel
        by_cases hlt : k < K.length
        · have hlt2 : (k : Int) < K.length := by omega
          rcases hM.out with hn | ⟨g, cg, F, rfl, hlo, hhi, hcg, hrow, hFz⟩
          · omega
          have gf := hrow.frozen k
          have gc := hrow.cell (i := k) (by omega)
          obtain ⟨z, hz, z0, z1⟩ := hFz k (Nat.le_refl _) hlt
          rw [hz] at gc
          have gM := Lib.hid (mut_step (v := .int .i64 (z + 1)) hlo hhi hcg hrow hFz)
          have gmx := Lib.hid (Mut.set (v := .int .i64 (z + 1)) (g := g) (i := k) hmx.out (by omega))
          have gB := Lib.hid (hBr.out.setCell (p := ⟨g, k, none⟩) (show w3.heap.size ≤ g by omega) (.int .i64 (z + 1)))
          clear hM hmx hBr hrow hFz hz
          go_wp2
          go_roundw
          case rel => exact ⟨k + 1, by omega, by go_num, gM, gmx, gB⟩
          case measure => simp [intOf]; omega
        · have hend : ¬ (k : Int) < K.length := by omega
          clear hlt hM
          go_wp2
          go_loopw [27] (fun i wr => ∃ k : Nat, k ≤ M.length ∧ i = .int .i64 k ∧ Hid (Mut w7.heap.size w8.heap.size wr Ax M.length k) ∧ Hid (Below w3.heap.size w3 wr)) (fun i _ => M.length - (intOf i).toNat)
          case atStart => exact ⟨0, by omega, rfl, hmx, hBr⟩
          case round =>
            obtain ⟨k, hk, rfl, hM, hBr⟩ := hrel
            by_cases hlt : k < M.length
            · have hlt2 : (k : Int) < M.length := by omega
              rcases hM.out with hn | ⟨g, cg, F, rfl, hlo, hhi, hcg, hrow, hFz⟩
              · omega
              have gf := hrow.frozen k
              have gc := hrow.cell (i := k) (by omega)
              obtain ⟨z, hz, z0, z1⟩ := hFz k (Nat.le_refl _) hlt
              rw [hz] at gc
              have gM := Lib.hid (mut_step (v := .int .i64 (z + 1)) hlo hhi hcg hrow hFz)
              have gB := Lib.hid (hBr.out.setCell (p := ⟨g, k, none⟩) (show w3.heap.size ≤ g by omega) (.int .i64 (z + 1)))
              clear hM hBr hrow hFz hz
              go_wp2
              go_roundw
              case rel => exact ⟨k + 1, by omega, by go_num, gM, gB⟩
              case measure => simp [intOf]; omega
            · have hend : ¬ (k : Int) < M.length := by omega
              clear hlt hM
              have hBf := Lib.hid (bt b3.out hBr.out)
              have r1 := Lib.hid (rdo.out.below hBr.out)
              have r2 := Lib.hid (rdm.out.below hBr.out)
              have r3 := Lib.hid (HZ.out.below hBf.out)
              have r4 := Lib.hid (HX.out.below hBf.out)
              clear hBr
              go_wp2_with first
                | (go_at_call 21; ((with_reducible refine (same_yes (.slice Ao zs.length co) (.slice A zs.length cap) zs _ hz5 r1.out r3.out).mono ?_); rintro e w8 ⟨rfl, hb8⟩; have e8 := Lib.hid hb8; clear hb8))
                | (go_at_call 21; ((with_reducible refine (same_yes (.slice Am xs.length cm) (.slice A' xs.length cap') xs _ hx5 (r2.out.below e8.out) (r4.out.below e8.out)).mono ?_); rintro e w9 ⟨rfl, hb9⟩; have e9 := Lib.hid hb9; clear hb9))
              go_ret
              exact ⟨rfl, bt hBf.out (bt e8.out e9.out)⟩
theorem walk (a0 a1 a2 : Int) (A : Option Addr) (len3 cap3 : Nat) (z3 : List Int) (O : Option Addr) (len4 cap4 : Nat) (z4 : List Int) (W : World) (g0 : (Lit.int .u8 a0).wf = true) (g1 : (Lit.int .u8 a1).wf = true) (g2 : (Lit.int .u8 a2).wf = true) (r3 : IsRow .i64 W A len3 cap3 z3) (r4 : IsRow .i64 W O len4 cap4 z4) :
    Calls Try.prog 4 #[.int .u8 a0, .int .u8 a1, .int .u8 a2, .slice A len3 cap3, .slice O len4 cap4] W fun e w' => e = .returned (.bool true) ∧ Below W.heap.size W w' := by
  have ko := caps r4
  obtain ⟨zs, hx3, RA, hr, hc⟩ := row_all r3
  obtain ⟨xs, hx4, RO, hr', hc'⟩ := row_all r4
  subst hx3 hx4
  by_cases n0 : 1000 < (zs.length : Int)
  · exact long a0 a1 a2 A O cap3 cap4 _ _ W (.inl n0)
  by_cases n1 : 1000 < (xs.length : Int)
  · exact long a0 a1 a2 A O cap3 cap4 _ _ W (.inr n1)
  exact does a0 a1 a2 A O cap3 cap4 zs xs W (u8_lo g0) (u8_lo g1) (u8_lo g2) n0 n1 hr hr' hc hc' ko

theorem own : ownKnob Try.prog.godebug = none := by kernel_rfl
theorem laidOut : laidOutB Try.prog = true := by kernel_rfl
set_option linter.unusedVariables false
set_option maxRecDepth 100000 in
theorem lifted (os : Os) (started : os.Started) (H : Type) (enc : TypeId × Value → H) :
    ReturnsInHanded {} Try.checked os 4 .any (Rows.blockDoesSpec.pre6 enc Try.prog Try.f4 Rows.blockDoesRow.domain false) (Rows.blockDoesSpec.post enc Try.prog Try.f4 false true false false) := by
  refine returnsInHanded_of_change (C := Try.checked) own started (by kernel_rfl) Try.func4
    (ChangeSpec.witness6 (enc := enc) (C := Try.checked) false ⟨#[], #[.int .u8 0, .int .u8 0, .int .u8 0, .slice none 0 0, .slice none 0 0], []⟩ 8 (by kernel_rfl) (by kernel_rfl) (by kernel_rfl) (by kernel_rfl)) ?_
  intro W base args ds gs before hval0 hW hcnd _
  have hval : ∀ (j : Nat) t v, Try.f4.params[j]? = some t → args[j]? = some v → Value.okWide Try.prog W .any base t v := hval0
  have hW' := hW
  obtain ⟨p, q, hA0, hV, rfl, hfz, hnd⟩ := hW
  have hA : DataW.TrodAll enc Try.prog W 0 (fun _ => true) true Try.f4.params.toList args.toList ds p := hA0
  rw [Try.params4] at hA hval
  obtain ⟨v0, vs0, d0, ds0, p0, q0, hargs, rfl, rfl, h0, r0⟩ := trodAll_cons hA
  obtain ⟨v1, vs1, d1, ds1, p1, q1, rfl, rfl, rfl, h1, r1⟩ := trodAll_cons r0
  obtain ⟨v2, vs2, d2, ds2, p2, q2, rfl, rfl, rfl, h2, r2⟩ := trodAll_cons r1
  obtain ⟨v3, vs3, d3, ds3, p3, q3, rfl, rfl, rfl, h3, r3⟩ := trodAll_cons r2
  obtain ⟨v4, vs4, d4, ds4, p4, q4, rfl, rfl, rfl, h4, r4⟩ := trodAll_cons r3
  obtain ⟨rfl, rfl, rfl⟩ := trodAll_nil r4
  obtain rfl : args = #[v0, v1, v2, v3, v4] := by cases args; simp_all
  obtain ⟨rfl, rfl⟩ := trodVars_none hV
  obtain ⟨a0, rfl, rfl, rfl, w0⟩ := open_int Try.underlying5 (hval 0 5 v0 rfl rfl) h0
  obtain ⟨a1, rfl, rfl, rfl, w1⟩ := open_int Try.underlying5 (hval 1 5 v1 rfl rfl) h1
  obtain ⟨a2, rfl, rfl, rfl, w2⟩ := open_int Try.underlying5 (hval 2 5 v2 rfl rfl) h2
  obtain ⟨a3, len3, cap3, rfl⟩ := okWide_slice Try.underlying22 (hval 3 22 v3 rfl rfl)
  have k3 := h3
  have lt3 : ∀ x ∈ p3, x.block < W.heap.size := by obtain ⟨m, hm⟩ := k3; exact DataW.trod_lt m _ _ _ hm
  obtain ⟨z3, w3⟩ : ∃ zs, IsRow .i64 W a3 len3 cap3 zs := by
    obtain ⟨fuel, hf⟩ := h3
    rcases open_ints Try.underlying22 Try.underlying3 (by kernel_rfl) hf with ⟨hcs, _⟩ | ⟨x, l, c, zs, hcs, _, hl, hm, hz, _, hcell, hwz⟩
    · simp [Value.cells] at hcs
      obtain ⟨rfl, rfl, rfl⟩ := hcs
      exact ⟨[], .inl ⟨rfl, rfl, rfl, rfl⟩⟩
    · simp [Value.cells] at hcs
      obtain ⟨rfl, rfl, rfl⟩ := hcs
      exact ⟨zs, .inr ⟨_, rfl, hl, hm, by simpa using hz, hcell, hwz⟩⟩
  obtain ⟨a4, len4, cap4, rfl⟩ := okWide_slice Try.underlying22 (hval 4 22 v4 rfl rfl)
  have k4 := h4
  have lt4 : ∀ x ∈ p4, x.block < W.heap.size := by obtain ⟨m, hm⟩ := k4; exact DataW.trod_lt m _ _ _ hm
  obtain ⟨z4, w4⟩ : ∃ zs, IsRow .i64 W a4 len4 cap4 zs := by
    obtain ⟨fuel, hf⟩ := h4
    rcases open_ints Try.underlying22 Try.underlying3 (by kernel_rfl) hf with ⟨hcs, _⟩ | ⟨x, l, c, zs, hcs, _, hl, hm, hz, _, hcell, hwz⟩
    · simp [Value.cells] at hcs
      obtain ⟨rfl, rfl, rfl⟩ := hcs
      exact ⟨[], .inl ⟨rfl, rfl, rfl, rfl⟩⟩
    · simp [Value.cells] at hcs
      obtain ⟨rfl, rfl, rfl⟩ := hcs
      exact ⟨zs, .inr ⟨_, rfl, hl, hm, by simpa using hz, hcell, hwz⟩⟩
  clear hA0 hval0
  refine (walk a0 a1 a2 a3 len3 cap3 z3 a4 len4 cap4 z4 W w0 w1 w2 w3 w4).mono fun e W' ⟨he, bel⟩ => ?_
  subst he
  exact ⟨_, rfl, _, _, _, [], _, [], hW', trodAll_mk1 (shut_bool Try.underlying4 _), (trodAll_cons_mk (shut_int Try.underlying5 w0) (trodAll_cons_mk (shut_int Try.underlying5 w1) (trodAll_cons_mk (shut_int Try.underlying5 w2) (trodAll_cons_mk (Below.trod laidOut (by kernel_rfl) (of_decide_eq_true (by kernel_rfl)) k3 bel lt3) (trodAll_cons_mk (Below.trod laidOut (by kernel_rfl) (of_decide_eq_true (by kernel_rfl)) k4 bel lt4) trodAll_mk0))))), rfl, bel.frame _, fun h => by cases h⟩

theorem over : Rows.blockDoesRow.holds Try.pinned (OpenSpec.ofChange Rows.blockDoesSpec) :=
  OpenClaim.holds_of_wide 4 Try.f4 rfl rfl rfl rfl rfl rfl rfl ⟨rfl, rfl, rfl, rfl, rfl⟩ rfl rfl rfl rfl rfl (by kernel_rfl) Try.func4 (by kernel_rfl)
    (of_decide_eq_true (by kernel_rfl)) (by unfold Func.isWrapper; first | (rw [if_pos (by decide +kernel)]; kernel_rfl) | (rw [if_neg (by decide +kernel)]; exact ⟨rfl, rfl⟩))
    (fun os started H enc _ => lifted os started H enc)

theorem proved : Rows.BlockDoesSaid := over
end Go.Proofs.Yteknakakefhbmaa.blockDoes
