/- Put and Get answer as the document says, what came in stays, and what is answered is new memory. BitsPuts returns true, whatever the bytes, the number, the place and the size, the memory and the schedule. No condition. -/
import Derived.Test.YteoljcbebiemlaaBiRef
import Derived.Test.YteoljcbebiemlaaBitsBack
import Derived.WalkKit
import Derived.OwnWalk
import Derived.Deep.OwnRows
import Derived.ProofKit
import Derived.OpenShut
import Derived.ShutString
import Derived.ChangeOld
import Derived.Below
import Derived.Lib.Hide
namespace Go.Proofs.Yteoljcbebiemlaa.bitsPuts
open Go Go.ChangeShapes Go.WideShapes Go.ChangeAt Go.RowKit Go.Proofs.Yteoljcbebiemlaa.Bi
open Go.Proofs.Yteoljcbebiemlaa.Cr (belowT IsRow)
open Go.Proofs.Yteoljcbebiemlaa.bitsBack (came src_of get_full own_cap)

theorem long (N A S : Int) (a0 : Option Addr) (l0 c0 : Nat) (w : World) (m0 : l0 ≤ maxLen) (h : 10000 < l0) :
    Calls Try.prog 4 #[.slice a0 l0 c0, .int .i64 N, .int .i64 A, .int .i64 S] w fun e w' => e = .returned (.bool true) ∧ Below w.heap.size w w' := by
  unfold maxLen at m0
  go_enter Try.func4, Try.ntmps4
  go_wp2
  go_ret
  exact ⟨rfl, Below.refl _ _⟩

/-- Both Gets answer the same. -/
def Gets (w : World) (v : Value) (A S m nx er : Int) : Prop :=
  (∀ w1, Below w.heap.size w w1 → Calls Try.prog 16 #[v, .int .i64 A, .int .i64 S] w1 fun e w' => e = .returned (.tuple #[.int .i64 m, .int .i64 nx, .int .i64 er]) ∧ w1 = w') ∧
  (∀ w1, Below w.heap.size w w1 → Calls Try.prog 21 #[v, .int .i64 A, .int .i64 S] w1 fun e w' => e = .returned (.tuple #[.int .i64 m, .int .i64 nx, .int .i64 er]) ∧ w1 = w')

set_option maxRecDepth 100000 in
theorem bad (N A S m nx er : Int) (a0 : Option Addr) (c0 : Nat) (za : List Int) (w : World) (la : za.length ≤ 10000) (ra : Src8 w (.slice a0 za.length c0) za) (_ : 0 ≤ er) (_ : er ≤ 8) (hp : S < 0 ∨ 31 < S ∨ N < 0 ∨ 2 ^ S.toNat ≤ N) (hG : Gets w (.slice a0 za.length c0) A S m nx er) :
    Calls Try.prog 4 #[.slice a0 za.length c0, .int .i64 N, .int .i64 A, .int .i64 S] w fun e w' => e = .returned (.bool true) ∧ Below w.heap.size w w' := by
  have q0 := conv_src ra
  have q1 := conv_zero w none 0
  have HP := Lib.hid hp
  have HG1 := Lib.hid hG.1
  have HG2 := Lib.hid hG.2
  clear hp hG ra
  go_enter Try.func4, Try.ntmps4
  go_wp2_with (first
    | (go_at_call 15; ((with_reducible refine (put_bad _ N S _ HP.out).mono ?_); rintro e w1 ⟨rfl, rfl⟩))
    | (go_at_call 20; ((with_reducible refine (rput_bad _ N S _ HP.out).mono ?_); rintro e w1 ⟨rfl, rfl⟩))
    | (go_at_call 16; ((with_reducible refine (HG1.out _ (Below.refl _ _)).mono ?_); rintro e w1 ⟨rfl, rfl⟩))
    | (go_at_call 21; ((with_reducible refine (HG2.out _ (Below.refl _ _)).mono ?_); rintro e w1 ⟨rfl, rfl⟩)))
  go_loopw [21] (fun i wr => i = .int .i64 0 ∧ wr = w) (fun _ _ => 0)
  case atStart => exact ⟨rfl, rfl⟩
  case round =>
    obtain ⟨rfl, rfl⟩ := hrel
    go_wp2
    go_ret
    exact ⟨rfl, Below.refl _ _⟩

theorem own_row8 {w : World} {base g n cap : Nat} {zs : List Int} (h : Cr.Own base w (.slice (some ⟨g, 0, none⟩) n cap) zs) : (∃ F, w.rowIs g 5 cap F ∧ ∀ j, j < n → F j = .int .u8 (zs.getD j 0)) ∧ zs.length = n ∧ n ≤ cap ∧ base ≤ g := by
  have hcells := @World.ownsRow.cells _ _ _ _ _ _ _ h
  have hlt := h.lt g rfl
  obtain ⟨hx, ⟨e, _⟩ | ⟨g', cap', cur, e, hg, hh, hc, hm, hs, ht⟩⟩ := h
  · simp at e
  · simp only [Value.slice.injEq, Option.some.injEq, Addr.mk.injEq] at e
    obtain ⟨⟨rfl, _⟩, rfl, rfl⟩ := e
    refine ⟨⟨fun i => (cur[i]?).getD undef, ⟨cur, hh, by omega, fun i hi => ?_⟩, fun i hi => ?_⟩, rfl, hc, hg⟩
    · have : i < cur.size := by omega
      simp [this]
    · have h1 := hcells (g := g) rfl i (.int .u8 (zs.getD i 0)) (by simp [hi])
      rw [Addr.add_lit, Nat.zero_add] at h1
      have : i < cur.size := by omega
      simp [World.cell?, hh, this] at h1
      simp [this, h1]

set_option maxRecDepth 100000 in
set_option maxHeartbeats 1000000 in
theorem good (N A m nx er : Int) (s : Nat) (a0 : Option Addr) (c0 : Nat) (za : List Int) (w : World) (la : za.length ≤ 10000) (ra : Src8 w (.slice a0 za.length c0) za) (hza : ∀ z ∈ za, 0 ≤ z ∧ z ≤ 255) (_ : 0 ≤ er) (_ : er ≤ 8) (s1 : s ≤ 31) (n0 : 0 ≤ N) (n1 : N < 2 ^ s) (hG : Gets w (.slice a0 za.length c0) A s m nx er) :
    Calls Try.prog 4 #[.slice a0 za.length c0, .int .i64 N, .int .i64 A, .int .i64 s] w fun e w' => e = .returned (.bool true) ∧ Below w.heap.size w w' := by
  have q0 := conv_src ra
  have HP : Hid (∀ w1, Below w.heap.size w w1 → Calls Try.prog 15 #[.slice a0 za.length c0, .int .i64 N, .int .i64 s] w1 fun e w' => ∃ g cap, e = .returned (.tuple #[.slice (some ⟨g, 0, none⟩) (za.length + s) cap, .int .i64 0]) ∧ Cr.Own w1.heap.size w' (.slice (some ⟨g, 0, none⟩) (za.length + s) cap) (za ++ bi N s) ∧ Below w1.heap.size w1 w') := Lib.hid fun w1 hw => put_src N s w1 (ra.below hw) (by omega) s1 n0 n1
  have HQ : Hid (∀ w1, Below w.heap.size w w1 → Calls Try.prog 20 #[.slice a0 za.length c0, .int .i64 N, .int .i64 s] w1 fun e w' => ∃ v, e = .returned (.tuple #[v, .int .i64 0]) ∧ Cr.Own w1.heap.size w' v (za ++ bi N s) ∧ Below w1.heap.size w1 w') := Lib.hid fun w1 hw => rput_src N s w1 (ra.below hw) (by omega) s1 n0 n1
  have HZ : Hid (∀ z ∈ za ++ bi N s, 0 ≤ z ∧ z ≤ 255) := Lib.hid fun z hz => by
    rcases List.mem_append.1 hz with h | h
    · exact hza z h
    · rcases bi_bits N s z h with h | h <;> omega
  have RA := Lib.hid ra
  have HG1 := Lib.hid hG.1
  have HG2 := Lib.hid hG.2
  clear hG ra hza n1
  go_enter Try.func4, Try.ntmps4
  go_wp2_with (first
    | (go_at_call 15; ((with_reducible refine (HP.out _ (Below.refl _ _)).mono ?_); rintro e w1 ⟨g, cap, rfl, ho1, hb1⟩))
    | (go_at_call 20; ((with_reducible refine (HQ.out _ hb1).mono ?_); rintro e w2 ⟨v2, rfl, ho2, hb2⟩; have ho3 := Cr.Own.below ho1 hb2; have hb12 := belowT hb1 hb2; have q1 := conv_src (own_src ho3); have q2 := conv_src (own_src ho2)))
    | (go_at_call 16; ((with_reducible refine (HG1.out _ hb12).mono ?_); rintro e w5 ⟨rfl, rfl⟩))
    | (go_at_call 21; ((with_reducible refine (HG2.out _ hb12).mono ?_); rintro e w5 ⟨rfl, rfl⟩)))
  obtain ⟨⟨F, hF, hFj⟩, hzl, hnc, hgb⟩ := own_row8 ho3
  have hF0 := Lib.hid hF
  have hFj0 := Lib.hid hFj
  have HL := Lib.hid hzl
  clear hF hFj q1 q2 ho2 hzl
  go_loopw [21] (fun i wr => ∃ k : Nat, k ≤ za.length + s ∧ i = .int .i64 k ∧ Below w.heap.size w wr ∧ ∃ F, Hid (wr.rowIs g 5 cap F) ∧ Hid (∀ j, k ≤ j → j < za.length + s → F j = .int .u8 ((za ++ bi N s).getD j 0))) (fun i _ => za.length + s - (intOf i).toNat)
  case atStart => exact ⟨0, by omega, rfl, hb12, F, hF0, Lib.hid fun j _ hj => hFj0.out j hj⟩
  case round =>
    obtain ⟨k, hk, rfl, hbel, G, hR, hJ⟩ := hrel
    by_cases hlt : k < za.length + s
    · have hi : (k : Int) < (za.length : Int) + (s : Int) := by omega
      have hd := HZ.out ((za ++ bi N s).getD k 0) (by
        have : k < (za ++ bi N s).length := by rw [HL.out]; exact hlt
        simp only [List.getD, List.getElem?_eq_getElem this, Option.getD_some]
        exact List.getElem_mem _)
      have qo := hR.out.cell (i := k) (by omega)
      rw [hJ.out k (Nat.le_refl _) hlt] at qo
      have qf := hR.out.frozen k
      generalize (za ++ bi N s).getD k 0 = d at qo hd
      obtain ⟨d0, d1⟩ := hd
      by_cases h5 : d = 255
      · subst h5
        have hst := Lib.hid (hR.out.set k (.int .u8 0))
        have hbs := hbel.setCell (p := ⟨g, k, none⟩) hgb (.int .u8 0)
        go_wp2
        go_roundw
        case rel => exact ⟨k + 1, by omega, by go_num, hbs, _, hst, Lib.hid fun j h1 h2 => by rw [if_neg (by omega)]; exact hJ.out j (by omega) h2⟩
        case measure => simp [intOf]; omega
      · have hst := Lib.hid (hR.out.set k (.int .u8 (d + 1)))
        have hbs := hbel.setCell (p := ⟨g, k, none⟩) hgb (.int .u8 (d + 1))
        have d2 : d + 1 ≤ 255 := by omega
        clear h5
        go_wp2
        go_roundw
        case rel => exact ⟨k + 1, by omega, by go_num, hbs, _, hst, Lib.hid fun j h1 h2 => by rw [if_neg (by omega)]; exact hJ.out j (by omega) h2⟩
        case measure => simp [intOf]; omega
    · have hend : k = za.length + s := by omega
      subst hend
      have q9 := conv_src (RA.out.below hbel)
      clear hR hJ
      go_wp2
      go_ret
      exact ⟨rfl, hbel⟩

theorem get_full10 (x : Addr) (n : Nat) (w : World) (hn : n ≤ 10000) :
    Calls Try.prog 16 #[.slice (some x) n n, .int .i64 n, .int .i64 0] w fun e w' => e = .returned (.tuple #[.int .i64 0, .int .i64 n, .int .i64 0]) ∧ w = w' := by
  go_enter Try.func16, Try.ntmps16
  go_wp2
  go_loop [6, 10, 40] (fun m _ i => i = .int .i64 0 ∧ m = .int .i64 0) (fun _ _ _ => 0)
  case atStart => exact ⟨rfl, rfl⟩
  case round =>
    obtain ⟨rfl, rfl⟩ := hrel
    go_wp2
    go_ret3
    exact ⟨rfl, rfl⟩

theorem walk (a0 : Option Addr) (l0 c0 : Nat) (z0 : List Int) (N A S : Int) (w : World) (w0 : IsRow .u8 w a0 l0 c0 z0) (_ : (Lit.int .i64 N).wf = true) (_ : (Lit.int .i64 A).wf = true) (_ : (Lit.int .i64 S).wf = true) :
    Calls Try.prog 4 #[.slice a0 l0 c0, .int .i64 N, .int .i64 A, .int .i64 S] w fun e w' => e = .returned (.bool true) ∧ Below w.heap.size w w' := by
  by_cases h : 10000 < l0
  · exact long N A S a0 l0 c0 w w0.le h
  have fin : ∀ za : List Int, za.length = l0 → (∀ z ∈ za, 0 ≤ z ∧ z ≤ 255) → Src8 w (.slice a0 za.length c0) za → (∃ m nx er, (0 ≤ er ∧ er ≤ 8) ∧ Gets w (.slice a0 za.length c0) A S m nx er) → Calls Try.prog 4 #[.slice a0 l0 c0, .int .i64 N, .int .i64 A, .int .i64 S] w fun e w' => e = .returned (.bool true) ∧ Below w.heap.size w w' := by
    intro za hl hza ra hget
    rw [← hl]
    obtain ⟨m, nx, er, he, hG⟩ := hget
    by_cases hp : S < 0 ∨ 31 < S ∨ N < 0 ∨ 2 ^ S.toNat ≤ N
    · exact bad N A S m nx er a0 c0 za w (by omega) ra he.1 he.2 hp hG
    · obtain ⟨s, rfl⟩ : ∃ s : Nat, S = s := ⟨S.toNat, by omega⟩
      rw [Int.toNat_natCast] at hp
      exact good N A m nx er s a0 c0 za w (by omega) ra hza he.1 he.2 (by omega) (by omega) (by omega) hG

  rcases came w0 with ⟨rfl, rfl, rfl⟩ | ⟨x, z, rfl, hz, hc, hlc, hcm, hb, hsh⟩
  · refine fin [] rfl (fun z h => by cases h) (.inl ⟨rfl, rfl⟩) ?_
    by_cases h1 : S < 0 ∨ 31 < S ∨ A < 0 ∨ 0 < A
    · exact ⟨0, 0, 2, by omega, fun w1 _ => get_arg none 0 0 A S w1 (by unfold maxLen; omega) (by omega), fun w1 _ => rget_arg none 0 0 A S w1 (by unfold maxLen; omega) (by omega)⟩
    by_cases h2 : 0 - A < S
    · exact ⟨0, 0, 5, by omega, fun w1 _ => get_end none 0 0 A S w1 (by unfold maxLen; omega) (by omega) (by omega) (by omega) (by omega) (by omega), fun w1 _ => rget_end none 0 0 A S w1 (by unfold maxLen; omega) (by omega) (by omega) (by omega) (by omega) (by omega)⟩
    obtain ⟨s, rfl⟩ : ∃ s : Nat, S = s := ⟨S.toNat, by omega⟩
    obtain ⟨a, rfl⟩ : ∃ a : Nat, A = a := ⟨A.toNat, by omega⟩
    obtain rfl : s = 0 := by omega
    obtain rfl : a = 0 := by omega
    exact ⟨0, 0, 0, by omega, fun w1 _ => get_nil w1, fun w1 _ => by simpa using rget_zero none 0 0 0 w1 (by unfold maxLen; omega) (by omega)⟩
  · subst hz
    refine fin z rfl hb (src_of hc) ?_
    by_cases h1 : S < 0 ∨ 31 < S ∨ A < 0 ∨ (z.length : Int) < A
    · exact ⟨0, 0, 2, by omega, fun w1 _ => get_arg (some x) z.length c0 A S w1 (by unfold maxLen; omega) h1, fun w1 _ => rget_arg (some x) z.length c0 A S w1 (by unfold maxLen; omega) h1⟩
    by_cases h2 : (z.length : Int) - A < S
    · exact ⟨0, 0, 5, by omega, fun w1 _ => get_end (some x) z.length c0 A S w1 (by unfold maxLen; omega) (by omega) (by omega) (by omega) (by omega) h2, fun w1 _ => rget_end (some x) z.length c0 A S w1 (by unfold maxLen; omega) (by omega) (by omega) (by omega) (by omega) h2⟩
    obtain ⟨s, rfl⟩ : ∃ s : Nat, S = s := ⟨S.toNat, by omega⟩
    obtain ⟨a, rfl⟩ : ∃ a : Nat, A = a := ⟨A.toNat, by omega⟩
    by_cases he : c0 = a
    · obtain rfl : s = 0 := by omega
      obtain rfl : c0 = z.length := by omega
      obtain rfl : a = z.length := by omega
      exact ⟨0, z.length, 0, by omega, fun w1 _ => get_full10 x z.length w1 (by omega), fun w1 _ => rget_zero (some x) z.length z.length z.length w1 (by unfold maxLen; omega) (Nat.le_refl _)⟩
    · obtain ⟨b, off, rfl⟩ := hsh (by omega)
      have ly : ((z.drop a).take s).length = s := by simp; omega
      by_cases h0 : s = 0
      · subst h0
        exact ⟨0, a, 0, by omega, fun w1 _ => get_zero b off z.length c0 a w1 (by unfold maxLen; omega) hlc (by omega), fun w1 _ => rget_zero _ z.length c0 a w1 (by unfold maxLen; omega) (by omega)⟩
      have hblk : b < w.heap.size := by
        have := hc 0 (.int .u8 (z.getD 0 0)) (by simp [show 0 < z.length by omega])
        have := lt_of_cell this
        simpa [Addr.add] using this
      have hcell : ∀ w1, Below w.heap.size w w1 → ∀ i, i < s → w1.cell? ⟨b, off + (a + i), none⟩ = some (.int .u8 (((z.drop a).take s).getD i 0)) := fun w1 hw i hi => by
        have := (hc.below hw) (a + i) (.int .u8 (z.getD (a + i) 0)) (by simp [show a + i < z.length by omega])
        rw [Addr.add_lit] at this
        rw [this]
        simp [hi]
      have hyb : ∀ y ∈ (z.drop a).take s, 0 ≤ y ∧ y ≤ 255 := fun y hy => hb y (List.mem_of_mem_drop (List.mem_of_mem_take hy))
      have k16 := fun w1 (hw : Below w.heap.size w w1) => get_room b off z.length c0 a s ((z.drop a).take s) w1 (by unfold maxLen; omega) hlc (by omega) (by omega) (by omega) ly (Nat.lt_of_lt_of_le hblk hw.size) hyb (fun i hi => by rw [Nat.add_assoc]; exact hcell w1 hw i hi)
      have k21 := fun w1 (hw : Below w.heap.size w w1) => rget_room b off z.length c0 a s ((z.drop a).take s) w1 (by unfold maxLen; omega) (by omega) (by omega) ly hyb (hcell w1 hw)
      by_cases hbits : Cr.Bits ((z.drop a).take s)
      · refine ⟨num ((z.drop a).take s), (a : Int) + s, 0, by omega, fun w1 hw => (k16 w1 hw).mono fun e w' h => ?_, fun w1 hw => (k21 w1 hw).mono fun e w' h => ?_⟩
        all_goals
          rcases h.1 with ⟨_, h3⟩ | ⟨h3, _⟩
          · exact ⟨h3, h.2⟩
          · exact absurd hbits h3
      · refine ⟨0, 0, 8, by omega, fun w1 hw => (k16 w1 hw).mono fun e w' h => ?_, fun w1 hw => (k21 w1 hw).mono fun e w' h => ?_⟩
        all_goals
          rcases h.1 with ⟨h3, _⟩ | ⟨_, h3⟩
          · exact absurd h3 hbits
          · exact ⟨h3, h.2⟩

theorem own : ownKnob Try.prog.godebug = none := by kernel_rfl
theorem laidOut : laidOutB Try.prog = true := by kernel_rfl
set_option linter.unusedVariables false
set_option maxRecDepth 100000 in
theorem lifted (os : Os) (started : os.Started) (H : Type) (enc : TypeId × Value → H) :
    ReturnsInHanded {} Try.checked os 4 .any (Rows.bitsPutsSpec.pre6 enc Try.prog Try.f4 Rows.bitsPutsRow.domain false) (Rows.bitsPutsSpec.post enc Try.prog Try.f4 false true false false) := by
  refine returnsInHanded_of_change (C := Try.checked) own started (by kernel_rfl) Try.func4
    (ChangeSpec.witness6 (enc := enc) (C := Try.checked) false ⟨#[], #[.slice none 0 0, .int .i64 0, .int .i64 0, .int .i64 0], []⟩ 8 (by kernel_rfl) (by kernel_rfl) (by kernel_rfl) (by kernel_rfl)) ?_
  intro W base args ds gs before hval0 hW hcnd _
  have hval : ∀ (j : Nat) t v, Try.f4.params[j]? = some t → args[j]? = some v → Value.okWide Try.prog W .any base t v := hval0
  have hW' := hW
  obtain ⟨p, q, hA0, hV, rfl, hfz, hnd⟩ := hW
  have hA : DataW.TrodAll enc Try.prog W 0 (fun _ => true) true Try.f4.params.toList args.toList ds p := hA0
  rw [Try.params4] at hA hval
  obtain ⟨v0, vs0, d0, ds0, p0, q0, hargs, rfl, rfl, h0, r0⟩ := trodAll_cons hA
  obtain ⟨v1, vs1, d1, ds1, p1, q1, rfl, rfl, rfl, h1, r1⟩ := trodAll_cons r0
  obtain ⟨v2, vs2, d2, ds2, p2, q2, rfl, rfl, rfl, h2, r2⟩ := trodAll_cons r1
  obtain ⟨v3, vs3, d3, ds3, p3, q3, rfl, rfl, rfl, h3, r3⟩ := trodAll_cons r2
  obtain ⟨rfl, rfl, rfl⟩ := trodAll_nil r3
  obtain rfl : args = #[v0, v1, v2, v3] := by cases args; simp_all
  obtain ⟨rfl, rfl⟩ := trodVars_none hV
  obtain ⟨a0, len0, cap0, rfl⟩ := okWide_slice Try.underlying22 (hval 0 22 v0 rfl rfl)
  have k0 := h0
  have lt0 : ∀ x ∈ p0, x.block < W.heap.size := by obtain ⟨m, hm⟩ := k0; exact DataW.trod_lt m _ _ _ hm
  obtain ⟨z0, w0⟩ : ∃ zs, IsRow .u8 W a0 len0 cap0 zs := by
    obtain ⟨fuel, hf⟩ := h0
    rcases open_ints Try.underlying22 Try.underlying5 (by kernel_rfl) hf with ⟨hcs, _⟩ | ⟨x, l, c, zs, hcs, _, hl, hm, hz, _, hcell, hwz⟩
    · simp [Value.cells] at hcs
      obtain ⟨rfl, rfl, rfl⟩ := hcs
      exact ⟨[], .inl ⟨rfl, rfl, rfl, rfl⟩⟩
    · simp [Value.cells] at hcs
      obtain ⟨rfl, rfl, rfl⟩ := hcs
      exact ⟨zs, .inr ⟨_, rfl, hl, hm, by simpa using hz, hcell, hwz⟩⟩
  obtain ⟨a1, rfl, rfl, rfl, w1⟩ := open_int Try.underlying3 (hval 1 3 v1 rfl rfl) h1
  obtain ⟨a2, rfl, rfl, rfl, w2⟩ := open_int Try.underlying3 (hval 2 3 v2 rfl rfl) h2
  obtain ⟨a3, rfl, rfl, rfl, w3⟩ := open_int Try.underlying3 (hval 3 3 v3 rfl rfl) h3
  clear hA0 hval0
  refine (walk a0 len0 cap0 z0 a1 a2 a3 W w0 w1 w2 w3).mono fun e W' ⟨he, bel⟩ => ?_
  subst he
  exact ⟨_, rfl, _, _, _, [], _, [], hW', trodAll_mk1 (shut_bool Try.underlying4 _), (trodAll_cons_mk (Below.trod laidOut (by kernel_rfl) (of_decide_eq_true (by kernel_rfl)) k0 bel lt0) (trodAll_cons_mk (shut_int Try.underlying3 w1) (trodAll_cons_mk (shut_int Try.underlying3 w2) (trodAll_cons_mk (shut_int Try.underlying3 w3) trodAll_mk0)))), rfl, bel.frame _, fun h => by cases h⟩

theorem over : Rows.bitsPutsRow.holds Try.pinned (OpenSpec.ofChange Rows.bitsPutsSpec) :=
  OpenClaim.holds_of_wide 4 Try.f4 rfl rfl rfl rfl rfl rfl rfl ⟨rfl, rfl, rfl, rfl, rfl⟩ rfl rfl rfl rfl rfl (by kernel_rfl) Try.func4 (by kernel_rfl)
    (of_decide_eq_true (by kernel_rfl)) (by unfold Func.isWrapper; first | (rw [if_pos (by decide +kernel)]; kernel_rfl) | (rw [if_neg (by decide +kernel)]; exact ⟨rfl, rfl⟩))
    (fun os started H enc _ => lifted os started H enc)

theorem proved : Rows.BitsPutsSaid := over
end Go.Proofs.Yteoljcbebiemlaa.bitsPuts
