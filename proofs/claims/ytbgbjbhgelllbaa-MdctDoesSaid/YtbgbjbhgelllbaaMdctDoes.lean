/- Samples are transformed, and lines back, as the document says; they stay, and what is answered is new memory. MdctDoes returns true, whatever the samples and the lines, the memory and the schedule. No condition. -/
import Derived.Test.YtbgbjbhgelllbaaMdPub
import Derived.WalkKit
import Derived.Below
import Derived.RegionTactic
import Derived.Deep.QuietTactic
import Derived.BigQuiet
import Derived.ChangeAlike
import Derived.Deep.OwnRows
import Derived.ProofKit
import Derived.OpenShut
import Derived.ChangeSlices
import Derived.Great.Walk
import Derived.ChangeKeysEq
import Derived.Laws.AppendOwn
import Derived.Laws.AppendOwnNone
import Derived.Laws.OwnMore
import Derived.OwnWalk
import Derived.Lib.Hide
import Derived.ChangeOld
namespace Go.Proofs.Ytbgbjbhgelllbaa.mdctDoes
open Go Go.ChangeShapes Go.WideShapes Go.ChangeAt Go.RowKit Go.Proofs.Ytbgbjbhgelllbaa.Fx Go.Proofs.Ytbgbjbhgelllbaa.Mm Go.Proofs.Ytbgbjbhgelllbaa.Md
/-- What append copies. -/
def Cp (w : World) (A : Option Addr) (n cap : Nat) (zs : List Int) : Prop :=
  (A = none ∧ n = 0 ∧ cap = 0) ∨ ∃ x, A = some x ∧ ∀ j u, (zs.map (Value.int .i64))[j]? = some u → w.cell? (x.add j) = some u
theorem Cp.below {w w' : World} {A : Option Addr} {n cap : Nat} {zs : List Int} (h : Cp w A n cap zs) (hb : Below w.heap.size w w') : Cp w' A n cap zs := by
  rcases h with h | ⟨x, rfl, h⟩
  · exact .inl h
  · exact .inr ⟨x, rfl, fun j u hu => (hb.cell (lt_of_cell (h j u hu))).trans (h j u hu)⟩
theorem cells_of {w : World} {b off : Nat} {zs : List Int} (r : RdA w (some ⟨b, off, none⟩) zs) : ∀ j u, (zs.map (Value.int .i64))[j]? = some u → w.cell? ((⟨b, off, none⟩ : Addr).add j) = some u := by
  intro j u hu
  rw [List.getElem?_map] at hu
  by_cases hj : j < zs.length
  · obtain ⟨b', off', e, _, c⟩ := r j hj
    simp only [Option.some.injEq, Addr.mk.injEq, and_true] at e
    obtain ⟨rfl, rfl⟩ := e
    rw [add_at, c, ← hu]
    simp [hj]
  · rw [List.getElem?_eq_none (by omega)] at hu
    simp at hu
theorem row_all {w : World} {a : Option Addr} {len cap : Nat} {zs : List Int} (h : IsRow .i64 w a len cap zs) : ∃ xs : List Int, xs.length = len ∧ RdA w a xs ∧ Rd w (.slice a xs.length cap) xs ∧ Cp w a len cap xs := by
  obtain ⟨xs, hl, hr, _, _⟩ := h.open
  have hr' : RdA w a xs := hr
  refine ⟨xs, hl, hr', ?_, ?_⟩
  · by_cases h0 : xs.length = 0
    · have : xs = [] := List.eq_nil_of_length_eq_zero h0
      subst this
      exact .inl ⟨_, _, rfl, rfl⟩
    · obtain ⟨b, off, rfl, hb, _⟩ := hr' 0 (by omega)
      rcases h with ⟨e, _⟩ | ⟨x, e, hlc, hm, _⟩
      · cases e
      · refine .inr ⟨b, off, cap, rfl, hb, by omega, hm, fun i hi => ?_⟩
        obtain ⟨b', off', e, _, c⟩ := hr' i hi
        simp only [Option.some.injEq, Addr.mk.injEq, and_true] at e
        obtain ⟨rfl, rfl⟩ := e
        exact c
  · rcases h with ⟨e, h1, h2, _⟩ | ⟨x, rfl, _⟩
    · exact .inl ⟨e, h1, h2⟩
    · refine .inr ⟨x, rfl, ?_⟩
      by_cases h0 : xs.length = 0
      · have : xs = [] := List.eq_nil_of_length_eq_zero h0
        subst this
        intro j u hu
        simp at hu
      · obtain ⟨b, off, e, hb, _⟩ := hr' 0 (by omega)
        simp only [Option.some.injEq] at e
        subst e
        exact cells_of hr'
theorem rd_rdA {w : World} {A : Option Addr} {n cap : Nat} {zs : List Int} (h : Rd w (.slice A n cap) zs) : RdA w A zs := by
  obtain ⟨A', cap', e, r⟩ := h.open
  simp only [Value.slice.injEq] at e
  obtain ⟨rfl, _, _⟩ := e
  exact r
/-- A copy by append. -/
theorem wpList_copy (w : World) {ops : Array Oper} {rest : List Oper} {o : Oper} {a : Act} {Q : Exit → Act → World → Prop} (hgd : o.guard = none) (s x : Operand)
    (ho : o.op = .call { callee := .builtin .append, args := #[s, x], argTypes := #[22, 22] }) (hs : a.eval s = .slice none 0 0) (A : Option Addr) (n cap : Nat) (zs : List Int) (hx : a.eval x = .slice A n cap) (hl : zs.length = n) (hn : n ≤ 1000) (hc : Cp w A n cap zs)
    (hK : ∀ v' w', Own w.heap.size w' v' zs → Below w.heap.size w w' → wpList Try.prog ops Q rest (a.put o.dst v') w') : wpList Try.prog ops Q (o :: rest) a w := by
  obtain ⟨i0, hi, hz0, hz1, hz2⟩ := info_parts info3
  rcases hc with ⟨rfl, rfl, rfl⟩ | ⟨x1, rfl, hc⟩
  · have : zs = [] := List.eq_nil_of_length_eq_zero hl
    subst this
    exact wpList_append_own_none hgd s x 22 ho w.heap.size 3 i0 1 Try.underlying22 hi _ 0 _ hs (World.ownsRow_nil w w.heap.size 3 1) hx (hK _ _ (own_nil _ _) (Below.refl _ _))
  · refine wpList_append_own w hgd s x 22 ho w.heap.size 3 i0 (.int .i64 0) 1 8 Try.underlying22 hi hz0 hz1 hz2 rfl (by decide) _ 0 _ hs (World.ownsRow_nil w w.heap.size 3 1) x1 n cap (zs.map (Value.int .i64)) hx (by simp [hl]) hc (one64 _) (by unfold maxLen; omega) (by omega) (Nat.le_refl _) ?_
    intro v' w' h1 h2 _
    refine hK v' w' ?_ ((Below.refl _ _).grown h2 (Nat.le_refl _) (fun k hk => by cases hk))
    unfold Own
    rw [Nat.zero_add, List.nil_append] at h1
    rw [hl]
    exact h1
/-- What may be written to. -/
def Mut (lo hi : Nat) (w : World) (A : Option Addr) (n k : Nat) : Prop :=
  n = 0 ∨ ∃ g cap F, A = some ⟨g, 0, none⟩ ∧ lo ≤ g ∧ g < hi ∧ n ≤ cap ∧ w.rowIs g 3 cap F ∧ ∀ j, k ≤ j → j < n → ∃ z : Int, F j = .int .i64 z ∧ -4611686018427387904 ≤ z ∧ z ≤ 4611686018427387904
theorem Mut.below {lo hi : Nat} {w w' : World} {A : Option Addr} {n k : Nat} (h : Mut lo hi w A n k) (hb : Below w.heap.size w w') : Mut lo hi w' A n k := by
  rcases h with h | ⟨g, cap, F, e, h1, h2, h3, h4, h5⟩
  · exact .inl h
  · exact .inr ⟨g, cap, F, e, h1, h2, h3, h4.of_block (hb.block _ h4.lt), h5⟩
theorem mut_of {base : Nat} {w : World} {A : Option Addr} {n cap : Nat} {L : List Int} (h : Own base w (.slice A n cap) L) (hn : n = L.length) (hb : ∀ j, -4611686018427387904 ≤ L.getD j 0 ∧ L.getD j 0 ≤ 4611686018427387904) : Mut base w.heap.size w A n 0 := by
  have hlt := h.lt
  subst hn
  obtain ⟨hx, ⟨e, hn⟩ | ⟨g, cap', cur, e, hg, hh, hc, hm, hs, ht⟩⟩ := h
  · exact .inl hn
  · simp only [Value.slice.injEq] at e
    obtain ⟨rfl, _, rfl⟩ := e
    refine .inr ⟨g, cap, fun j => cur[j]?.getD (.int .i64 0), rfl, hg, (hlt g rfl).2, hc, ⟨cur, hh, by omega, fun i hi => ?_⟩, fun j _ hj => ⟨L.getD j 0, ?_, hb j⟩⟩
    · have : i < cur.size := by omega
      simp [this]
    · have e : (cur.toList.take (L.length * 1))[j]? = (L.map (Value.int .i64))[j]? := by rw [ht]
      rw [List.getElem?_take_of_lt (by omega), List.getElem?_map] at e
      show cur[j]?.getD _ = _
      rw [← Array.getElem?_toList, e]
      simp [hj]
theorem mut_step {lo hi cap g n k : Nat} {w : World} {F : Nat → Value} {v : Value} (h1 : lo ≤ g) (h2 : g < hi) (h3 : n ≤ cap) (h4 : w.rowIs g 3 cap F) (h5 : ∀ j, k ≤ j → j < n → ∃ z : Int, F j = .int .i64 z ∧ -4611686018427387904 ≤ z ∧ z ≤ 4611686018427387904) : Mut lo hi (w.setCell ⟨g, k, none⟩ v) (some ⟨g, 0, none⟩) n (k + 1) :=
  .inr ⟨g, cap, _, rfl, h1, h2, h3, h4.set k v, fun j hj hn => by
    obtain ⟨z, e, hz⟩ := h5 j (by omega) hn
    exact ⟨z, by rw [if_neg (by omega)]; exact e, hz⟩⟩
theorem mk_bd {n : Nat} {f : Nat → Int} (h : ∀ j, -4611686018427387904 ≤ f j ∧ f j ≤ 4611686018427387904) (j : Nat) : -4611686018427387904 ≤ (mk n f).getD j 0 ∧ (mk n f).getD j 0 ≤ 4611686018427387904 := by
  by_cases hj : j < n
  · rw [mk_at hj]; exact h j
  · have e : (mk n f).getD j 0 = 0 := by simp [List.getElem?_eq_none (by rw [mk_len]; omega : (mk n f).length ≤ j)]
    rw [e]; omega
theorem any_bd {zs : List Int} {M : Int} (hM : InM M zs) (h0 : 0 ≤ M) (j : Nat) : -M ≤ zs.getD j 0 ∧ zs.getD j 0 ≤ M := by
  by_cases hj : j < zs.length
  · exact hM j hj
  · have e : zs.getD j 0 = 0 := by simp [List.getElem?_eq_none (by omega : zs.length ≤ j)]
    rw [e]; omega
theorem fw_bd {zs : List Int} {m s : Int} (hm : m ≤ 256) (hM : InM 8388608 zs) (k : Nat) : -4611686018427387904 ≤ fw zs m s k ∧ fw zs m s k ≤ 4611686018427387904 := by
  have := ds_in (f := fun k => zs.getD k 0) (c := cw m s (k : Int)) (M := 8388608) (N := (2 * m).toNat) (k := (2 * m).toNat) (fun j => cos_bd _) (fun j _ => any_bd hM (by decide) j) (Nat.le_refl _) (by omega) (by decide)
  exact rnd_bd (by decide) this.1 this.2
theorem bk_bd {zs : List Int} {m s b : Int} (hb : 0 ≤ b) (hm : m ≤ 256) (hM : InM 268435455 zs) (k : Nat) : -4611686018427387904 ≤ bk zs m s b k ∧ bk zs m s b k ≤ 4611686018427387904 := by
  have := ds_in (f := fun k => zs.getD k 0) (c := cv m s (k : Int)) (M := 268435455) (N := m.toNat) (k := m.toNat) (fun j => cos_bd _) (fun j _ => any_bd hM (by decide) j) (Nat.le_refl _) (by omega) (by decide)
  exact rnd_bd hb this.1 this.2
theorem nil_bd (j : Nat) : -4611686018427387904 ≤ ([] : List Int).getD j 0 ∧ ([] : List Int).getD j 0 ≤ 4611686018427387904 := by simp
set_option maxRecDepth 100000 in
theorem FO_bd {zs L : List Int} {c : Int} (h : FO zs L c) : L.length ≤ 1000 ∧ ∀ j, -4611686018427387904 ≤ L.getD j 0 ∧ L.getD j 0 ≤ 4611686018427387904 := by
  rcases h with ⟨_, h2, rfl, _⟩ | ⟨_, h2, rfl, _⟩ | ⟨_, _, rfl, _⟩ | ⟨_, _, rfl, _⟩ | ⟨_, _, rfl, _⟩
  · exact ⟨by rw [mk_len]; decide, mk_bd fun j => fw_bd (by decide) h2 j⟩
  · exact ⟨by rw [mk_len]; decide, mk_bd fun j => fw_bd (by decide) h2 j⟩
  all_goals exact ⟨by simp, nil_bd⟩
set_option maxRecDepth 100000 in
theorem IO_bd {zs L : List Int} {c : Int} (h : IO zs L c) : L.length ≤ 1000 ∧ ∀ j, -4611686018427387904 ≤ L.getD j 0 ∧ L.getD j 0 ≤ 4611686018427387904 := by
  rcases h with ⟨_, h2, rfl, _⟩ | ⟨_, h2, rfl, _⟩ | ⟨_, _, rfl, _⟩ | ⟨_, _, rfl, _⟩ | ⟨_, _, rfl, _⟩
  · exact ⟨by rw [mk_len]; decide, mk_bd fun j => bk_bd (by decide) (by decide) h2 j⟩
  · exact ⟨by rw [mk_len]; decide, mk_bd fun j => bk_bd (by decide) (by decide) h2 j⟩
  all_goals exact ⟨by simp, nil_bd⟩
set_option maxRecDepth 100000 in
theorem long (A A' : Option Addr) (cap cap' len len' : Nat) (w : World) (hl : 1000 < (len : Int) ∨ 1000 < (len' : Int)) : Calls Try.prog 4 #[.slice A len cap, .slice A' len' cap'] w fun e w' => e = .returned (.bool true) ∧ Below w.heap.size w w' := by
  by_cases h1 : 1000 < (len : Int)
  · clear hl
    go_enter Try.func4, Try.ntmps4
    go_wp2
    go_ret
    exact ⟨rfl, Below.refl _ _⟩
  · have h2 : 1000 < (len' : Int) := by omega
    clear hl
    go_enter Try.func4, Try.ntmps4
    go_wp2
    go_ret
    exact ⟨rfl, Below.refl _ _⟩
set_option maxRecDepth 100000 in
set_option maxHeartbeats 8000000 in
theorem does (A A' : Option Addr) (cap cap' : Nat) (zs xs L K : List Int) (c d : Int) (w : World) (h0 : ¬ 1000 < (zs.length : Int)) (h0' : ¬ 1000 < (xs.length : Int)) (hr : Rd w (.slice A zs.length cap) zs) (hr' : Rd w (.slice A' xs.length cap') xs)
    (hc : Cp w A zs.length cap zs) (hc' : Cp w A' xs.length cap' xs) (hF : FO zs L c) (hI : IO xs K d) :
    Calls Try.prog 4 #[.slice A zs.length cap, .slice A' xs.length cap'] w fun e w' => e = .returned (.bool true) ∧ Below w.heap.size w w' := by
  have HZ := Lib.hid hr
  have HX := Lib.hid hr'
  have KZ := Lib.hid hc
  have KX := Lib.hid hc'
  have HF9 := Lib.hid (fun A cap w r => fwdO hF A cap w r)
  have HF13 := Lib.hid (fun A cap w r => rfwdO hF A cap w r)
  have HI10 := Lib.hid (fun A cap w r => invO hI A cap w r)
  have HI14 := Lib.hid (fun A cap w r => rinvO hI A cap w r)
  have HLb := Lib.hid (FO_bd hF)
  have HKb := Lib.hid (IO_bd hI)
  have hz : zs.length ≤ 1000 := by omega
  have hx : xs.length ≤ 1000 := by omega
  have hz5 : zs.length ≤ 5000 := by omega
  have hx5 : xs.length ≤ 5000 := by omega
  have hL5 : L.length ≤ 5000 := by have := HLb.out.1; omega
  have hK5 : K.length ≤ 5000 := by have := HKb.out.1; omega
  clear hr hr' hc hc' hF hI
  go_enter Try.func4, Try.ntmps4
  go_wp2_with first
    | (at_builtin; refine wpList_copy _ rfl _ (.tmp 25) rfl rfl A zs.length cap zs rfl rfl hz KZ.out ?_; intro v2 w2 ho2 hb2; have b2 := Lib.hid hb2; have rd2 := Lib.hid ho2.rd; obtain ⟨Ao, co, rfl⟩ := ho2.rd.shape; clear ho2 hb2)
    | (at_builtin; refine wpList_copy _ rfl _ (.tmp 27) rfl rfl A' xs.length cap' xs rfl rfl hx (KX.out.below b2.out) ?_; intro v3 w3 ho3 hb3; have b3 := Lib.hid (belowT b2.out hb3); have rdo := Lib.hid (rd2.out.below hb3); have rdm := Lib.hid ho3.rd; obtain ⟨Am, cm, rfl⟩ := ho3.rd.shape; clear ho3 hb3)
    | (go_at_call 9; ((with_reducible refine (HF9.out Ao co _ (rd_rdA rdo.out)).mono ?_); rintro e w4 ⟨va, rfl, hoa, hb4⟩; obtain ⟨Aa, ca, rfl⟩ := hoa.rd.shape; have oa := Lib.hid hoa; have c34 := Lib.hid hb4; have b4 := Lib.hid (belowT b3.out hb4); clear hoa hb4))
    | (go_at_call 13; ((with_reducible refine (HF13.out A cap _ (rd_rdA (HZ.out.below b4.out))).mono ?_); rintro e w5 ⟨vb, rfl, hob, hb5⟩; obtain ⟨Ab, cb, rfl⟩ := hob.rd.shape; have ob := Lib.hid hob; have c45 := Lib.hid hb5; have c35 := Lib.hid (belowT c34.out hb5); have b5 := Lib.hid (belowT b4.out hb5); clear hob hb5))
    | (go_at_call 10; ((with_reducible refine (HI10.out Am cm _ (rd_rdA (rdm.out.below c35.out))).mono ?_); rintro e w6 ⟨vc, rfl, hoc, hb6⟩; obtain ⟨Ac, cc, rfl⟩ := hoc.rd.shape; have oc := Lib.hid hoc; have c46 := Lib.hid (belowT c45.out hb6); have c36 := Lib.hid (belowT c35.out hb6); have c56 := Lib.hid hb6; have b6 := Lib.hid (belowT b5.out hb6); clear hoc hb6))
    | (go_at_call 14; ((with_reducible refine (HI14.out A' cap' _ (rd_rdA (HX.out.below b6.out))).mono ?_); rintro e w7 ⟨vd, rfl, hod, hb7⟩; obtain ⟨Ad, cd, rfl⟩ := hod.rd.shape; have od := Lib.hid hod; have c47 := Lib.hid (belowT c46.out hb7); have c37 := Lib.hid (belowT c36.out hb7); have c57 := Lib.hid (belowT c56.out hb7); have c67 := Lib.hid hb7; clear hod hb7))
    | (go_at_call 15; ((with_reducible refine (same_yes (.slice Aa L.length ca) (.slice Ab L.length cb) L _ hL5 (oa.out.rd.below c47.out) (ob.out.rd.below c57.out)).mono ?_); rintro e w8 ⟨rfl, hb8⟩; have c48 := Lib.hid (belowT c47.out hb8); have c68 := Lib.hid (belowT c67.out hb8); have c78 := Lib.hid hb8; have c38 := Lib.hid (belowT c37.out hb8); clear hb8))
    | (go_at_call 15; ((with_reducible refine (same_yes (.slice Ac K.length cc) (.slice Ad K.length cd) K _ hK5 (oc.out.rd.below c68.out) (od.out.rd.below c78.out)).mono ?_); rintro e w9 ⟨rfl, hb9⟩; have c49 := Lib.hid (belowT c48.out hb9); have c69 := Lib.hid (belowT c68.out hb9); have c39 := Lib.hid (belowT c38.out hb9); clear hb9))
  have ma := Lib.hid ((mut_of oa.out rfl HLb.out.2).below c49.out)
  have ocz := Lib.hid (oc.out.below c69.out)
  have hB := Lib.hid c39.out
  have h45 : w4.heap.size ≤ w5.heap.size := c45.out.size
  have h35 : w3.heap.size ≤ w5.heap.size := c35.out.size
  clear HF9 HF13 HI10 HI14 c34 c45 c35 c46 c36 c56 c47 c37 c57 c67 c48 c68 c78 c38 c49 c69 c39 ob od b4 b5 b6 b2 rd2 KZ KX oa oc
  go_loopw [15] (fun i wr => ∃ k : Nat, k ≤ L.length ∧ i = .int .i64 k ∧ Hid (Mut w3.heap.size w4.heap.size wr Aa L.length k) ∧ Hid (Own w5.heap.size wr (.slice Ac K.length cc) K) ∧ Hid (Below w3.heap.size w3 wr)) (fun i _ => L.length - (intOf i).toNat)
  case atStart => exact ⟨0, by omega, rfl, ma, ocz, hB⟩
  case round =>
    obtain ⟨k, hk, rfl, hM, hO, hBr⟩ := hrel
    clear ma ocz hB
    by_cases hlt : k < L.length
    · have hlt2 : (k : Int) < L.length := by omega
      rcases hM.out with hn | ⟨g, cg, F, rfl, hlo, hhi, hcg, hrow, hFz⟩
      · omega
      obtain ⟨z, hz, z0, z1⟩ := hFz k (Nat.le_refl _) hlt
      have gc := hrow.cell (i := k) (by omega)
      rw [hz] at gc
      have gf := hrow.frozen k
      have gM := Lib.hid (mut_step (v := .int .i64 (z + 1)) hlo hhi hcg hrow hFz)
      have gO := Lib.hid (hO.out.set (x := .int .i64 (z + 1)) (g := g) (i := k) (Nat.lt_of_lt_of_le hhi h45))
      have gB := Lib.hid (hBr.out.setCell (p := ⟨g, k, none⟩) hlo (.int .i64 (z + 1)))
      clear hM hO hBr hrow hFz hz
      go_wp2
      go_roundw
      case rel => exact ⟨k + 1, by omega, by go_num, gM, gO, gB⟩
      case measure => simp [intOf]; omega
    · have hend : k = L.length := by omega
      subst hend
      clear hlt hM
      obtain ⟨hi2, hM2⟩ : ∃ hi, Hid (Mut w5.heap.size hi wr Ac K.length 0) := ⟨_, Lib.hid (mut_of hO.out rfl HKb.out.2)⟩
      have hB2 := Lib.hid hBr.out
      clear hO hBr
      go_wp2
      go_loopw [16] (fun i wr => ∃ k : Nat, k ≤ K.length ∧ i = .int .i64 k ∧ Hid (Mut w5.heap.size hi2 wr Ac K.length k) ∧ Hid (Below w3.heap.size w3 wr)) (fun i _ => K.length - (intOf i).toNat)
      case atStart => exact ⟨0, by omega, rfl, hM2, hB2⟩
      case round =>
        obtain ⟨k, hk, rfl, hM, hBr⟩ := hrel
        clear hM2 hB2
        by_cases hlt : k < K.length
        · have hlt2 : (k : Int) < K.length := by omega
          rcases hM.out with hn | ⟨g, cg, F, rfl, hlo, hhi, hcg, hrow, hFz⟩
          · omega
          obtain ⟨z, hz, z0, z1⟩ := hFz k (Nat.le_refl _) hlt
          have gc := hrow.cell (i := k) (by omega)
          rw [hz] at gc
          have gf := hrow.frozen k
          have gM := Lib.hid (mut_step (v := .int .i64 (z + 1)) hlo hhi hcg hrow hFz)
          have gB := Lib.hid (hBr.out.setCell (p := ⟨g, k, none⟩) (Nat.le_trans h35 hlo) (.int .i64 (z + 1)))
          clear hM hBr hrow hFz hz
          go_wp2
          go_roundw
          case rel => exact ⟨k + 1, by omega, by go_num, gM, gB⟩
          case measure => simp [intOf]; omega
        · have hend : k = K.length := by omega
          subst hend
          clear hlt hM
          have hBf := Lib.hid (belowT b3.out hBr.out)
          have r1 := Lib.hid (rdo.out.below hBr.out)
          have r2 := Lib.hid (rdm.out.below hBr.out)
          have r3 := Lib.hid (HZ.out.below hBf.out)
          have r4 := Lib.hid (HX.out.below hBf.out)
          clear hBr
          go_wp2_with first
            | (go_at_call 15; ((with_reducible refine (same_yes (.slice Ao zs.length co) (.slice A zs.length cap) zs _ hz5 r1.out r3.out).mono ?_); rintro e w8 ⟨rfl, hb8⟩; have e8 := Lib.hid hb8; clear hb8))
            | (go_at_call 15; ((with_reducible refine (same_yes (.slice Am xs.length cm) (.slice A' xs.length cap') xs _ hx5 (r2.out.below e8.out) (r4.out.below e8.out)).mono ?_); rintro e w9 ⟨rfl, hb9⟩; have e9 := Lib.hid hb9; clear hb9))
          go_ret
          exact ⟨rfl, belowT hBf.out (belowT e8.out e9.out)⟩
theorem walk (a0 : Option Addr) (len0 cap0 : Nat) (z0 : List Int) (a1 : Option Addr) (len1 cap1 : Nat) (z1 : List Int) (W : World) (w0 : IsRow .i64 W a0 len0 cap0 z0) (w1 : IsRow .i64 W a1 len1 cap1 z1) : Calls Try.prog 4 #[.slice a0 len0 cap0, .slice a1 len1 cap1] W fun e w' => e = .returned (.bool true) ∧ Below W.heap.size W w' := by
  obtain ⟨zs, hl, _, hr, hc⟩ := row_all w0
  obtain ⟨xs, hl', _, hr', hc'⟩ := row_all w1
  by_cases h0 : 1000 < (len0 : Int)
  · exact long a0 a1 cap0 cap1 len0 len1 W (.inl h0)
  by_cases h0' : 1000 < (len1 : Int)
  · exact long a0 a1 cap0 cap1 len0 len1 W (.inr h0')
  obtain ⟨L, c, hF⟩ := FO_is zs
  obtain ⟨K, d, hI⟩ := IO_is xs
  subst hl hl'
  exact does a0 a1 cap0 cap1 zs xs L K c d W h0 h0' hr hr' hc hc' hF hI
theorem own : ownKnob Try.prog.godebug = none := by kernel_rfl
theorem laidOut : laidOutB Try.prog = true := by kernel_rfl
set_option linter.unusedVariables false
set_option maxRecDepth 100000 in
theorem lifted (os : Os) (started : os.Started) (H : Type) (enc : TypeId × Value → H) :
    ReturnsInHanded {} Try.checked os 4 .any (Rows.mdctDoesSpec.pre6 enc Try.prog Try.f4 Rows.mdctDoesRow.domain false) (Rows.mdctDoesSpec.post enc Try.prog Try.f4 false true false false) := by
  refine returnsInHanded_of_change (C := Try.checked) own started (by kernel_rfl) Try.func4
    (ChangeSpec.witness6 (enc := enc) (C := Try.checked) false ⟨#[], #[.slice none 0 0, .slice none 0 0], []⟩ 8 (by kernel_rfl) (by kernel_rfl) (by kernel_rfl) (by kernel_rfl)) ?_
  intro W base args ds gs before hval0 hW hcnd _
  have hval : ∀ (j : Nat) t v, Try.f4.params[j]? = some t → args[j]? = some v → Value.okWide Try.prog W .any base t v := hval0
  have hW' := hW
  obtain ⟨p, q, hA0, hV, rfl, hfz, hnd⟩ := hW
  have hA : DataW.TrodAll enc Try.prog W 0 (fun _ => true) true Try.f4.params.toList args.toList ds p := hA0
  rw [Try.params4] at hA hval
  obtain ⟨v0, vs0, d0, ds0, p0, q0, hargs, rfl, rfl, h0, r0⟩ := trodAll_cons hA
  obtain ⟨v1, vs1, d1, ds1, p1, q1, rfl, rfl, rfl, h1, r1⟩ := trodAll_cons r0
  obtain ⟨rfl, rfl, rfl⟩ := trodAll_nil r1
  obtain rfl : args = #[v0, v1] := by cases args; simp_all
  obtain ⟨rfl, rfl⟩ := trodVars_none hV
  obtain ⟨a0, len0, cap0, rfl⟩ := okWide_slice Try.underlying22 (hval 0 22 v0 rfl rfl)
  have k0 := h0
  have lt0 : ∀ x ∈ p0, x.block < W.heap.size := by obtain ⟨m, hm⟩ := k0; exact DataW.trod_lt m _ _ _ hm
  obtain ⟨z0, w0⟩ : ∃ zs, IsRow .i64 W a0 len0 cap0 zs := by
    obtain ⟨fuel, hf⟩ := h0
    rcases open_ints Try.underlying22 Try.underlying3 (by kernel_rfl) hf with ⟨hcs, _⟩ | ⟨x, l, c, zs, hcs, _, hl, hm, hz, _, hcell, hwz⟩
    · simp [Value.cells] at hcs
      obtain ⟨rfl, rfl, rfl⟩ := hcs
      exact ⟨[], .inl ⟨rfl, rfl, rfl, rfl⟩⟩
    · simp [Value.cells] at hcs
      obtain ⟨rfl, rfl, rfl⟩ := hcs
      exact ⟨zs, .inr ⟨_, rfl, hl, hm, by simpa using hz, hcell, hwz⟩⟩
  obtain ⟨a1, len1, cap1, rfl⟩ := okWide_slice Try.underlying22 (hval 1 22 v1 rfl rfl)
  have k1 := h1
  have lt1 : ∀ x ∈ p1, x.block < W.heap.size := by obtain ⟨m, hm⟩ := k1; exact DataW.trod_lt m _ _ _ hm
  obtain ⟨z1, w1⟩ : ∃ zs, IsRow .i64 W a1 len1 cap1 zs := by
    obtain ⟨fuel, hf⟩ := h1
    rcases open_ints Try.underlying22 Try.underlying3 (by kernel_rfl) hf with ⟨hcs, _⟩ | ⟨x, l, c, zs, hcs, _, hl, hm, hz, _, hcell, hwz⟩
    · simp [Value.cells] at hcs
      obtain ⟨rfl, rfl, rfl⟩ := hcs
      exact ⟨[], .inl ⟨rfl, rfl, rfl, rfl⟩⟩
    · simp [Value.cells] at hcs
      obtain ⟨rfl, rfl, rfl⟩ := hcs
      exact ⟨zs, .inr ⟨_, rfl, hl, hm, by simpa using hz, hcell, hwz⟩⟩
  clear hA0 hval0
  refine (walk a0 len0 cap0 z0 a1 len1 cap1 z1 W w0 w1).mono fun e W' ⟨he, bel⟩ => ?_
  subst he
  exact ⟨_, rfl, _, _, _, [], _, [], hW', trodAll_mk1 (shut_bool Try.underlying4 _), (trodAll_cons_mk (Below.trod laidOut (by kernel_rfl) (of_decide_eq_true (by kernel_rfl)) k0 bel lt0) (trodAll_cons_mk (Below.trod laidOut (by kernel_rfl) (of_decide_eq_true (by kernel_rfl)) k1 bel lt1) trodAll_mk0)), rfl, bel.frame _, fun h => by cases h⟩

theorem over : Rows.mdctDoesRow.holds Try.pinned (OpenSpec.ofChange Rows.mdctDoesSpec) :=
  OpenClaim.holds_of_wide 4 Try.f4 rfl rfl rfl rfl rfl rfl rfl ⟨rfl, rfl, rfl, rfl, rfl⟩ rfl rfl rfl rfl rfl (by kernel_rfl) Try.func4 (by kernel_rfl)
    (of_decide_eq_true (by kernel_rfl)) (by unfold Func.isWrapper; first | (rw [if_pos (by decide +kernel)]; kernel_rfl) | (rw [if_neg (by decide +kernel)]; exact ⟨rfl, rfl⟩))
    (fun os started H enc _ => lifted os started H enc)

theorem proved : Rows.MdctDoesSaid := over
end Go.Proofs.Ytbgbjbhgelllbaa.mdctDoes
