/- No code begins another one. -/
import Derived.Test.YteklahfgplbmcaaDoorBkRr
import Derived.WalkKit
import Derived.Below
import Derived.RegionTactic
import Derived.Deep.QuietTactic
import Derived.BigQuiet
import Derived.ChangeAlike
import Derived.Deep.OwnRows
import Derived.Deep.Cut
import Derived.StillTailTactics
import Derived.ProofKit
import Derived.OpenShut
import Derived.Laws.EntriesVeiled
import Derived.Lib.Hide
import Derived.Deep.RegionHeld3
import Derived.Laws.AppendOwn
import Derived.Laws.AppendOwnNone
namespace Go.Proofs.YteklahfgplbmcaaDoor.BkPx
open Go Go.ChangeShapes Go.WideShapes Go.ChangeAt Go.RowKit Go.Proofs.YteklahfgplbmcaaDoor.Bk Go.Proofs.YteklahfgplbmcaaDoor.Bi Go.Proofs.YteklahfgplbmcaaDoor.Cr Go.Proofs.YteklahfgplbmcaaDoor.Fx

theorem wf8 {s : Int} (h : (Lit.int .u8 s).wf = true) : 0 ≤ s ∧ s ≤ 255 := by
  simp [Lit.wf] at h
  have e : IntKind.u8.min = 0 := rfl
  have e2 : IntKind.u8.max = 255 := rfl
  omega
theorem wf16 {s : Int} (h : (Lit.int .u16 s).wf = true) : 0 ≤ s ∧ s ≤ 65535 := by
  simp [Lit.wf] at h
  have e : IntKind.u16.min = 0 := rfl
  have e2 : IntKind.u16.max = 65535 := rfl
  omega

theorem readF_bad {E : List Nat} {p : Nat} {z : List Int} {A : Int} (h : (readF E p z A).2.2 ≠ 0) : readF E p z A = (0, 0, (readF E p z A).2.2) := by
  unfold readF at h ⊢
  simp only at h ⊢
  split
  · rfl
  · rename_i h1
    rw [if_neg h1] at h
    split
    · rfl
    · rename_i h2
      rw [if_neg h2] at h
      split
      · rfl
      · rename_i h3
        rw [if_neg h3] at h
        split
        · rfl
        · rename_i h4
          rw [if_neg h4] at h
          exact absurd rfl h
theorem own_r8 {base : Nat} {w : World} {v : Value} {zs : List Int} (h : Go.Proofs.YteklahfgplbmcaaDoor.Cr.Own base w v zs) : R8 w v zs := by
  have hcells := @World.ownsRow.cells _ _ _ _ _ _ _ h
  have hlt := h.lt
  obtain ⟨hx, ⟨rfl, hn⟩ | ⟨g, cap, cur, rfl, hg, hh, hc, hm, hs, ht⟩⟩ := h
  · exact .inl ⟨.inl rfl, by cases zs with | nil => rfl | cons _ _ => simp at hn⟩
  · refine .inr ⟨g, 0, cap, rfl, hc, hm, (hlt g rfl).2, fun i hi => ?_⟩
    have := hcells (g := g) rfl i (.int .u8 (zs.getD i 0)) (by simp [hi])
    rwa [addc] at this
theorem cd_pos (p r : Nat) : 1 ≤ (cd p r).length := by
  rw [cd_len]
  have := (dg_bd (r / 2 ^ p + 1) (r / 2 ^ p + 1) Nat.lt_two_pow_self (Nat.le_add_left 1 _)).1
  omega
theorem cd_19 {id : Nat} (h1 : 1 ≤ id) (h2 : id ≤ 12) {r : Nat} (hr : r < Nn id) : (cd (pl id) r).length ≤ 19 ∧ r / 2 ^ pl id + 1 < 1024 := by
  have hN : Nn id / 2 ^ pl id + 1 ≤ 122 ∧ (pl id = 0 → Nn id ≤ 121) ∧ pl id ≤ 2 ∧ (pl id = 1 → Nn id ≤ 169) ∧ Nn id ≤ 289 := by
    rcases ids h1 h2 with rfl | rfl | rfl | rfl | rfl | rfl | rfl | rfl | rfl | rfl | rfl | rfl <;> decide
  obtain ⟨a, b, c, d, e⟩ := hN
  have hq : r / 2 ^ pl id + 1 < 128 := by
    have := Nat.div_le_div_right (c := 2 ^ pl id) (Nat.le_of_lt hr)
    omega
  have hd := dg_le (n := r / 2 ^ pl id + 1) (d := 7) (Nat.le_add_left 1 _) (by omega)
  rw [cd_len]
  omega
theorem step_append_src (w : World) {ops : Array Oper} {o : Oper} {a : Act} {K : Act → World → Prop} {Q : Exit → Act → World → Prop} {E : Prop} (hgd : o.guard = none) (s x : Operand)
    (ho : o.op = .call { callee := .builtin .append, args := #[s, x], argTypes := #[28, 28] }) (base : Nat) (v : Value) (xs : List Int) (hs : a.eval s = v) (hown : Go.Proofs.YteklahfgplbmcaaDoor.Cr.Own base w v xs)
    (vx : Value) (zs : List Int) (hx : a.eval x = vx) (hsrc : Src8 w vx zs) (hl : xs.length + zs.length ≤ 1000000) (hbase : base ≤ w.heap.size)
    (h : ∀ v' w', Go.Proofs.YteklahfgplbmcaaDoor.Cr.Own base w' v' (xs ++ zs) → w.grownBy w' v.ownBlock → K (a.put o.dst v') w') : if Region.wanted o (yielded ops a.tmps) = true then Oper.wp Tryd.prog o a w K Q else E := by
  have hw : Region.wanted o (yielded ops a.tmps) = true := by simp [Region.wanted, hgd]
  rw [if_pos hw]
  obtain ⟨i0, hi, hz0, hz1, hz2⟩ := info_parts info5'
  rcases hsrc with ⟨rfl, rfl⟩ | ⟨y, c, rfl, hc⟩
  · have hrun := run_append_owned_none (P := Tryd.prog) (w := w) base 28 o.type 5 i0 1 Tryd.underlying28 hi v xs.length (xs.map (Value.int .u8)) hown
    unfold Oper.wp
    simp [execOp, ho, resolve, invoke, builtin, hs, hx, hrun, Result.andThen]
    exact h v w (by rw [List.append_nil]; exact hown) (grown_refl _ _)
  · refine wp_append_own w s x 28 ho base 5 i0 (.int .u8 0) 1 1 Tryd.underlying28 hi hz0 hz1 hz2 rfl (by decide) v xs.length (xs.map (Value.int .u8)) hs hown y zs.length c (zs.map (Value.int .u8)) hx (by simp) hc (one8' _) (by unfold maxLen; omega) (by omega) hbase fun v' w' h1 h2 h3 => h v' w' ?_ h2
    unfold Go.Proofs.YteklahfgplbmcaaDoor.Cr.Own
    rw [List.length_append, List.map_append]
    exact h1
theorem conv_d {w : World} {v : Value} {zs : List Int} (h : Src8 w v zs) (n : Nat) : (convert 28 9 v).run Tryd.prog (w.drewN n) = .ok (.string (strOfNums zs)) (w.drewN n) := conv_src (h.below (Go.Proofs.YteklahfgplbmcaaDoor.Fx.drewN_belowL w n))
theorem kb_al {w : World} {B E R n : Nat} {I p : Int} {o : Obj} (x : Kb w B I p E R n) : Kb (w.alloc o) B I p E R n := x.below (al w o)
theorem kb_bel {w w' : World} {B E R n : Nat} {I p : Int} (x : Kb w B I p E R n) (hb : Bel w w') : Kb w' B I p E R n := x.below hb.b
theorem kb_4 {w : World} {B E R n : Nat} {I p : Int} (x : Kb w B I p E R n) : w.cell? ⟨B, 0, none⟩ = some (.int .i64 I) ∧ w.cell? ⟨B, 1, none⟩ = some (.int .i64 p) ∧ w.cell? ⟨B, 2, none⟩ = some (.slice (some ⟨E, 0, none⟩) n n) ∧ w.cell? ⟨B, 3, none⟩ = some (.slice (some ⟨R, 0, none⟩) n n) := ⟨x.1, x.2.1, x.2.2.1, x.2.2.2.1⟩
set_option maxRecDepth 100000 in
set_option maxHeartbeats 8000000 in
theorem good (a e at' : Int) (A1 : Option Addr) (l1 c1 : Nat) (z1 : List Int) (A2 : Option Addr) (l2 c2 : Nat) (z2 : List Int) (w : World) (hs : Sh w) (ha : (Lit.int .u8 a).wf = true) (he : (Lit.int .u16 e).wf = true)
    (hl1 : z1.length = l1) (r1 : R8 w (.slice A1 l1 c1) z1) (hz1 : ∀ x ∈ z1, 0 ≤ x ∧ x ≤ 255) (hl2 : z2.length = l2) (r2 : R8 w (.slice A2 l2 c2) z2) (hz2 : ∀ x ∈ z2, 0 ≤ x ∧ x ≤ 255) (hs1 : ¬ 10000 < (l1 : Int)) (hs2 : ¬ 10000 < (l2 : Int)) :
    Calls Tryd.prog 7 #[.int .u8 a, .int .u16 e, .slice A1 l1 c1, .slice A2 l2 c2, .int .i64 at'] w fun e w' => e = .returned (.bool true) ∧ True ∧ Below w.heap.size w w' := by
  obtain ⟨a0, a1⟩ := wf8 ha
  obtain ⟨b0, b1⟩ := wf16 he
  clear ha he
  obtain ⟨id, hid⟩ : ∃ id : Nat, a % 12 + 1 = (id : Int) := ⟨(a % 12 + 1).toNat, by omega⟩
  have hidb : 1 ≤ id ∧ id ≤ 12 := by omega
  obtain ⟨h1, h2⟩ := hidb
  obtain ⟨f1, f2, f3, f4, f5, f6, f7, f8, f9, f10, f11, f12, f13, f14⟩ := facts h1 h2
  have hord := ord_is h1 h2
  obtain ⟨n, hn⟩ : ∃ r : Nat, e % (Nn id : Int) = (r : Int) := ⟨(e % (Nn id : Int)).toNat, by have := Int.emod_nonneg e (show (Nn id : Int) ≠ 0 by omega); omega⟩
  have hnN : n < Nn id := by have := Int.emod_lt_of_pos e (show (0 : Int) < (Nn id : Int) by omega); omega
  have htn : Int.tmod e (Nn id : Int) = (n : Int) := by rw [Int.tmod_eq_emod_of_nonneg b0]; exact hn
  have HA := Lib.hid (fun w (h : Sh w) => alive_ok w h)
  have HGet : Hid (∀ w, Sh w → Calls Tryd.prog 15 #[.int .i64 id] w fun e w' => ∃ E R, e = .returned (.tuple #[.agg #[.int .i64 id, .int .i64 (pl id), .slice (some ⟨E, 0, none⟩) (Nn id) (Nn id), .slice (some ⟨R, 0, none⟩) (Nn id) (Nn id)], .int .i64 0]) ∧ w'.rowIs E 3 (Nn id) (fun j => .int .i64 (ordI id j)) ∧ w'.rowIs R 3 (Nn id) (fun j => .int .i64 (rkI id j)) ∧ Below w.heap.size w w') := Lib.hid fun w h => (get_ok id w h1 h2 h).mono fun e w' ⟨v, h1, ⟨E, R, h2, h3, h4, h5, h6⟩, h7⟩ => ⟨E, R, by rw [h1, h2], h5, h6, h7⟩
  have hrkn := (hord.rank hnN)
  have h19 := cd_19 h1 h2 (r := rk id n) hrkn.1
  obtain ⟨cz, hcz⟩ : ∃ cz, cd (pl id) (rk id n) = cz := ⟨_, rfl⟩
  have HC : Hid (∀ w E R, Sh w → w.rowIs E 3 (Nn id) (fun j => .int .i64 (ordI id j)) → w.rowIs R 3 (Nn id) (fun j => .int .i64 (rkI id j)) → Calls Tryd.prog 16 #[.agg #[.int .i64 id, .int .i64 (pl id), .slice (some ⟨E, 0, none⟩) (Nn id) (Nn id), .slice (some ⟨R, 0, none⟩) (Nn id) (Nn id)], .int .i64 n] w fun e w' => ∃ g cap, e = .returned (.tuple #[.slice (some ⟨g, 0, none⟩) cz.length cap, .int .i64 0]) ∧ Go.Proofs.YteklahfgplbmcaaDoor.Cr.Own w.heap.size w' (.slice (some ⟨g, 0, none⟩) cz.length cap) cz ∧ Below w.heap.size w w') := Lib.hid fun w E R h he hr => (code_ok id E R n w h1 h2 h hnN he hr).mono fun e w' ⟨v, h1, ⟨g, cap, h2, ho⟩, h3⟩ => ⟨g, cap, by rw [h1, h2, hcz], by rw [← hcz]; rw [h2] at ho; exact ho, h3⟩
  have hcb := cd_bits (pl id) (rk id n)
  rw [hcz] at hcb
  have hrd : readF (ord id) (pl id) (cz ++ z1) 0 = ((n : Int), (cz.length : Int), 0) := by
    rw [← hcz, read_code (ord id) (pl id) (rk id n) z1 (by rw [hord.length]; exact hrkn.1) h19.2]
    have : (ord id).getD (rk id n) 0 = n := by
      have := hrkn.2
      change (ord id)[rk id n]? = some n at this
      rw [List.getD_eq_getElem?_getD, this]; rfl
    rw [this]
  have hc19 : cz.length ≤ 19 := by rw [← hcz]; exact h19.1
  have HR1 : Hid (∀ w E R v, Sh w → w.rowIs E 3 (Nn id) (fun j => .int .i64 (ordI id j)) → w.rowIs R 3 (Nn id) (fun j => .int .i64 (rkI id j)) → R8 w v (cz ++ z1) → Calls Tryd.prog 17 #[.agg #[.int .i64 id, .int .i64 (pl id), .slice (some ⟨E, 0, none⟩) (Nn id) (Nn id), .slice (some ⟨R, 0, none⟩) (Nn id) (Nn id)], v, .int .i64 0] w fun e w' => e = .returned (.tuple #[.int .i64 n, .int .i64 cz.length, .int .i64 0]) ∧ Below w.heap.size w w') := Lib.hid fun w E R v h he hr h8 => by
    have := read_ok id E R v (cz ++ z1) 0 w h1 h2 h he hr h8 (fun x hx => by
      rcases List.mem_append.1 hx with hx | hx
      · rcases hcb x hx with h | h <;> omega
      · exact hz1 x hx) (by rw [List.length_append]; omega)
    rwa [hrd] at this
  have HR2 : Hid (∀ w E R, Sh w → w.rowIs E 3 (Nn id) (fun j => .int .i64 (ordI id j)) → w.rowIs R 3 (Nn id) (fun j => .int .i64 (rkI id j)) → R8 w (.slice A2 l2 c2) z2 → Calls Tryd.prog 17 #[.agg #[.int .i64 id, .int .i64 (pl id), .slice (some ⟨E, 0, none⟩) (Nn id) (Nn id), .slice (some ⟨R, 0, none⟩) (Nn id) (Nn id)], .slice A2 l2 c2, .int .i64 at'] w fun e w' => e = T3 (readF (ord id) (pl id) z2 at') ∧ Below w.heap.size w w') := Lib.hid fun w E R h he hr h8 => read_ok id E R _ z2 at' w h1 h2 h he hr h8 hz2 (by omega)
  have HS := Lib.hid hs
  have RR1 := Lib.hid r1
  have RR2 := Lib.hid r2
  have HCB := Lib.hid hcb
  have HL1 := Lib.hid hl1
  have hz1l : z1.length ≤ 10000 := by omega
  have HZ1 := Lib.hid hz1
  clear hs r1 hz1 f1 f2 f3 f4 f5 f9 f10 f11 f12 f13 f14 hcb hrd hrkn h19 hcz hl1
  obtain ⟨x, nx, er, hrf⟩ : ∃ x nx er, readF (ord id) (pl id) z2 at' = (x, nx, er) := ⟨_, _, _, rfl⟩
  by_cases her : er = 0
  · subst her
    obtain ⟨aa, s, r0, rfl, hal, hr0, hcd0, hrf2⟩ := read_back (ord id) (pl id) z2 at' (by rw [hrf])
    rw [hord.length] at hr0
    obtain ⟨n0, hn1, hn2, hn3⟩ := hord.at hr0
    have hrk0 : rk id n0 = r0 := hn3
    have hg0 : (ord id).getD r0 0 = n0 := by rw [List.getD_eq_getElem?_getD, hn1]; rfl
    rw [hg0] at hrf2
    rw [hrf2] at HR2
    simp only [T3, Int.natCast_add] at HR2
    have hs1' : 1 ≤ s := by
      have h1 := cd_pos (pl id) r0
      have h2 := congrArg List.length hcd0
      rw [drop_take_len hal] at h2
      omega
    have hs19 : s ≤ 19 := by
      have h1 := (cd_19 h1 h2 hr0).1
      have h2 := congrArg List.length hcd0
      rw [drop_take_len hal] at h2
      omega
    have HC2 : Hid (∀ w E R, Sh w → w.rowIs E 3 (Nn id) (fun j => .int .i64 (ordI id j)) → w.rowIs R 3 (Nn id) (fun j => .int .i64 (rkI id j)) → Calls Tryd.prog 16 #[.agg #[.int .i64 id, .int .i64 (pl id), .slice (some ⟨E, 0, none⟩) (Nn id) (Nn id), .slice (some ⟨R, 0, none⟩) (Nn id) (Nn id)], .int .i64 n0] w fun e w' => ∃ v, e = .returned (.tuple #[v, .int .i64 0]) ∧ Src8 w' v ((z2.drop aa).take s) ∧ Below w.heap.size w w') := Lib.hid fun w E R h he hr => (code_ok id E R n0 w h1 h2 h hn2 he hr).mono fun e w' ⟨v, h1, hc, h3⟩ => ⟨v, h1, by
      have := cv hc
      rwa [hrk0, ← hcd0] at this, h3⟩
    rcases r2 with ⟨_, rfl⟩ | ⟨b, off, c, heq, q2, q3, q4, q5⟩
    · simp at hal; omega
    simp only [Value.slice.injEq] at heq
    obtain ⟨rfl, hll, rfl⟩ := heq
    have HPc : Hid (∀ w', Below w.heap.size w w' → Src8 w' (.slice (some ⟨b, off + aa, none⟩) s (c2 - aa)) ((z2.drop aa).take s)) := Lib.hid fun w' hb => Src8.below (r8_piece hal q5) hb
    have hq2 : l2 ≤ c2 := by omega
    unfold maxLen at q3
    have hal2 : aa + s ≤ l2 := by omega
    generalize (z2.drop aa).take s = zp at *
    clear hrf hrf2 hr0 hcd0 hn1 hn3 hrk0 hg0 hal q5 q2 hz2 hl2
    subst hll
    go_enter Tryd.func7, Tryd.ntmps7
    go_upto_region 9 with first
      | (go_at_call 18; ((with_reducible refine (HA.out _ HS.out).mono ?_); rintro e w1 ⟨rfl, hb1⟩))
      | (go_at_call 15; ((with_reducible refine (HGet.out _ (HS.out.below hb1)).mono ?_); rintro e w2 ⟨E, R, rfl, hE, hR, hb2⟩; obtain ⟨p0, p1, p2, p3, p4⟩ := kb_new w2 (id : Int) (pl id) E R (Nn id); have h3 := Lib.hid (bT (bT hb1 hb2) (al w2 (.cells #[.int .i64 (id : Int), .int .i64 (pl id), .slice (some ⟨E, 0, none⟩) (Nn id) (Nn id), .slice (some ⟨R, 0, none⟩) (Nn id) (Nn id)] 24))); have k3 := Lib.hid (kb_new w2 (id : Int) (pl id) E R (Nn id)); have hE3 := Lib.hid (r_al (o := (.cells #[.int .i64 (id : Int), .int .i64 (pl id), .slice (some ⟨E, 0, none⟩) (Nn id) (Nn id), .slice (some ⟨R, 0, none⟩) (Nn id) (Nn id)] 24)) hE); have hR3 := Lib.hid (r_al (o := (.cells #[.int .i64 (id : Int), .int .i64 (pl id), .slice (some ⟨E, 0, none⟩) (Nn id) (Nn id), .slice (some ⟨R, 0, none⟩) (Nn id) (Nn id)] 24)) hR)))
      | (go_at_call 16; ((with_reducible refine (HC.out _ _ _ (HS.out.below h3.out) hE3.out hR3.out).mono ?_); rintro e w4 ⟨g4, cap4, rfl, ho4, hb4⟩; obtain ⟨r0, r1, r2, r3, r4⟩ := k3.out.below hb4; have h4 := Lib.hid (bT h3.out hb4)))
    clear p0 p1 p2 p3 p4 r0 r1 r2 r3 r4
    have E4 := Lib.hid (r_bel hE3.out ⟨hb4⟩)
    have R4 := Lib.hid (r_bel hR3.out ⟨hb4⟩)
    have K4 := Lib.hid (kb_bel k3.out ⟨hb4⟩)
    clear k3 hE3 hR3 h3 hE hR hb2
    generalize w2.heap.size = B at *
    clear hb4
    have Kd := Lib.hid (kb_bel K4.out ⟨(Below.refl _ w4).drew⟩)
    have hod := Lib.hid (Go.Proofs.YteklahfgplbmcaaDoor.Cr.Own.below ho4 (Below.refl _ w4).drew)
    have hoe : Hid (Go.Proofs.YteklahfgplbmcaaDoor.Cr.Own w4.heap.size ((w4.alloc (.cells #[] 5)).drew) (.slice (some ⟨w4.heap.size, 0, none⟩) 0 0) []) := Lib.hid (Go.Proofs.YteklahfgplbmcaaDoor.Cr.Own.below (World.ownsRow_made w4 #[] 0 (Nat.le_refl _) (Nat.zero_le _) rfl) (Below.refl _ (w4.alloc (.cells #[] 5))).drew)
    have hba : Below w4.heap.size w4 ((w4.alloc (.cells #[] 5)).drew) := ((Below.refl _ w4).alloc (Nat.le_refl _) _).drew
    have Kda := Lib.hid (kb_bel K4.out ⟨hba⟩)
    have HOS := Lib.hid (own_src (Go.Proofs.YteklahfgplbmcaaDoor.Cr.Own.below ho4 hba))
    have HB := Lib.hid hba
    have hsz := Lib.hid hba.size
    clear ho4 hba
    go_region_held3 (fun w' => w'.cell? ⟨B, 0, none⟩ = some (.int .i64 (id : Int)) ∧ w'.cell? ⟨B, 1, none⟩ = some (.int .i64 (pl id)) ∧ w'.cell? ⟨B, 2, none⟩ = some (.slice (some ⟨E, 0, none⟩) (Nn id) (Nn id)) ∧ w'.cell? ⟨B, 3, none⟩ = some (.slice (some ⟨R, 0, none⟩) (Nn id) (Nn id)))
      (first
        | with_reducible exact kb_4 Kd.out
        | with_reducible exact kb_4 Kda.out
        | with_reducible exact kb_4 K6.out
        | with_reducible exact kb_4 K7.out
        | with_reducible exact kb_4 K8.out)
      (first
        | (refine step_append_src _ rfl (.tmp 63) (.tmp 64) rfl w4.heap.size _ [] rfl hoe.out _ cz rfl HOS.out (by simp; omega) hsz.out ?_; intro v6 w6 ho6 hg6; have hb6 := Lib.hid (Go.Proofs.YteklahfgplbmcaaDoor.Cr.below_grown HB.out hoe.out (Nat.le_refl _) hg6); have K6 := Lib.hid (kb_bel K4.out ⟨hb6.out⟩))
        | (refine step_append_src _ rfl (.tmp 65) (.tmp 66) rfl w4.heap.size _ _ rfl ho6 _ z1 rfl (r8_src (RR1.out.below (bT h4.out hb6.out))) (by simp; omega) hb6.out.size ?_; intro v7 w7 ho7 hg7; have b7 := Lib.hid (Go.Proofs.YteklahfgplbmcaaDoor.Cr.below_grown hb6.out ho6 (Nat.le_refl _) hg7); have h7 := Lib.hid (bT h4.out b7.out); have K7 := Lib.hid (kb_bel K4.out ⟨b7.out⟩))
        | (go_at_call 17; ((with_reducible refine (HR1.out _ _ _ _ (HS.out.below h7.out) (r_bel E4.out ⟨b7.out⟩) (r_bel R4.out ⟨b7.out⟩) (own_r8 ho7)).mono ?_); rintro e w8 ⟨rfl, hb8⟩; have h8 := Lib.hid (bT h7.out hb8); have b8 := Lib.hid (bT b7.out hb8); have K8 := Lib.hid (kb_bel K4.out ⟨b8.out⟩))))
    obtain ⟨u0, u1, u2, u3⟩ := kb_4 K8.out
    have h19n : ¬ (19 : Int) < (cz.length : Int) := by omega
    go_upto_region 16 with first
      | (go_at_call 17; ((with_reducible refine (HR2.out _ _ _ (HS.out.below h8.out) (r_bel E4.out ⟨b8.out⟩) (r_bel R4.out ⟨b8.out⟩) (RR2.out.below h8.out)).mono ?_); rintro e w9 ⟨rfl, hb9⟩; have h9 := Lib.hid (bT h8.out hb9); have b9 := Lib.hid (bT b8.out hb9); obtain ⟨t0, t1, t2, t3⟩ := kb_4 (kb_bel K4.out ⟨b9.out⟩)))
      | (go_at_call 16; ((with_reducible refine (HC2.out _ _ _ (HS.out.below h9.out) (r_bel E4.out ⟨b9.out⟩) (r_bel R4.out ⟨b9.out⟩)).mono ?_); rintro e w10 ⟨vc, rfl, hcv, hb10⟩; have h10 := Lib.hid (bT h9.out hb10)))
    have q3 := conv_d hcv
    have q4 := conv_d (HPc.out _ h10.out)
    have g1 : (aa : Int) + (s : Int) ≤ (c2 : Int) := by omega
    have g2 : (aa : Int) ≤ (c2 : Int) := by omega
    have g3 : ¬ c2 = aa := by omega
    have g4 : (aa : Int) ≤ (aa : Int) + (s : Int) := by omega
    have g5 : aa ≤ c2 := by omega
    have g6 : aa + s ≤ c2 := by omega
    have hd := Lib.hid (Go.Proofs.YteklahfgplbmcaaDoor.Fx.drewN_belowL w10)
    go_quiet (fail)
    go_wp2
    go_ret
    exact ⟨rfl, trivial, bT h10.out (hd.out _)⟩
  · have hrb := readF_bad (E := ord id) (p := pl id) (z := z2) (A := at') (by rw [hrf]; exact her)
    rw [hrf] at hrb
    simp only [Prod.mk.injEq] at hrb
    obtain ⟨rfl, rfl, _⟩ := hrb
    rw [hrf] at HR2
    simp only [T3] at HR2
    have hee : (er == 0) = false := by simp [her]
    have hen : (er != 0) = true := by simp [her]
    clear hrf r2 hz2 hl2
    go_enter Tryd.func7, Tryd.ntmps7
    go_upto_region 9 with first
      | (go_at_call 18; ((with_reducible refine (HA.out _ HS.out).mono ?_); rintro e w1 ⟨rfl, hb1⟩))
      | (go_at_call 15; ((with_reducible refine (HGet.out _ (HS.out.below hb1)).mono ?_); rintro e w2 ⟨E, R, rfl, hE, hR, hb2⟩; obtain ⟨p0, p1, p2, p3, p4⟩ := kb_new w2 (id : Int) (pl id) E R (Nn id); have h3 := Lib.hid (bT (bT hb1 hb2) (al w2 (.cells #[.int .i64 (id : Int), .int .i64 (pl id), .slice (some ⟨E, 0, none⟩) (Nn id) (Nn id), .slice (some ⟨R, 0, none⟩) (Nn id) (Nn id)] 24))); have k3 := Lib.hid (kb_new w2 (id : Int) (pl id) E R (Nn id)); have hE3 := Lib.hid (r_al (o := (.cells #[.int .i64 (id : Int), .int .i64 (pl id), .slice (some ⟨E, 0, none⟩) (Nn id) (Nn id), .slice (some ⟨R, 0, none⟩) (Nn id) (Nn id)] 24)) hE); have hR3 := Lib.hid (r_al (o := (.cells #[.int .i64 (id : Int), .int .i64 (pl id), .slice (some ⟨E, 0, none⟩) (Nn id) (Nn id), .slice (some ⟨R, 0, none⟩) (Nn id) (Nn id)] 24)) hR)))
      | (go_at_call 16; ((with_reducible refine (HC.out _ _ _ (HS.out.below h3.out) hE3.out hR3.out).mono ?_); rintro e w4 ⟨g4, cap4, rfl, ho4, hb4⟩; obtain ⟨r0, r1, r2, r3, r4⟩ := k3.out.below hb4; have h4 := Lib.hid (bT h3.out hb4)))
    clear p0 p1 p2 p3 p4 r0 r1 r2 r3 r4
    have E4 := Lib.hid (r_bel hE3.out ⟨hb4⟩)
    have R4 := Lib.hid (r_bel hR3.out ⟨hb4⟩)
    have K4 := Lib.hid (kb_bel k3.out ⟨hb4⟩)
    clear k3 hE3 hR3 h3 hE hR hb2
    generalize w2.heap.size = B at *
    clear hb4
    have Kd := Lib.hid (kb_bel K4.out ⟨(Below.refl _ w4).drew⟩)
    have hod := Lib.hid (Go.Proofs.YteklahfgplbmcaaDoor.Cr.Own.below ho4 (Below.refl _ w4).drew)
    have hoe : Hid (Go.Proofs.YteklahfgplbmcaaDoor.Cr.Own w4.heap.size ((w4.alloc (.cells #[] 5)).drew) (.slice (some ⟨w4.heap.size, 0, none⟩) 0 0) []) := Lib.hid (Go.Proofs.YteklahfgplbmcaaDoor.Cr.Own.below (World.ownsRow_made w4 #[] 0 (Nat.le_refl _) (Nat.zero_le _) rfl) (Below.refl _ (w4.alloc (.cells #[] 5))).drew)
    have hba : Below w4.heap.size w4 ((w4.alloc (.cells #[] 5)).drew) := ((Below.refl _ w4).alloc (Nat.le_refl _) _).drew
    have Kda := Lib.hid (kb_bel K4.out ⟨hba⟩)
    have HOS := Lib.hid (own_src (Go.Proofs.YteklahfgplbmcaaDoor.Cr.Own.below ho4 hba))
    have HB := Lib.hid hba
    have hsz := Lib.hid hba.size
    clear ho4 hba
    go_region_held3 (fun w' => w'.cell? ⟨B, 0, none⟩ = some (.int .i64 (id : Int)) ∧ w'.cell? ⟨B, 1, none⟩ = some (.int .i64 (pl id)) ∧ w'.cell? ⟨B, 2, none⟩ = some (.slice (some ⟨E, 0, none⟩) (Nn id) (Nn id)) ∧ w'.cell? ⟨B, 3, none⟩ = some (.slice (some ⟨R, 0, none⟩) (Nn id) (Nn id)))
      (first
        | with_reducible exact kb_4 Kd.out
        | with_reducible exact kb_4 Kda.out
        | with_reducible exact kb_4 K6.out
        | with_reducible exact kb_4 K7.out
        | with_reducible exact kb_4 K8.out)
      (first
        | (refine step_append_src _ rfl (.tmp 63) (.tmp 64) rfl w4.heap.size _ [] rfl hoe.out _ cz rfl HOS.out (by simp; omega) hsz.out ?_; intro v6 w6 ho6 hg6; have hb6 := Lib.hid (Go.Proofs.YteklahfgplbmcaaDoor.Cr.below_grown HB.out hoe.out (Nat.le_refl _) hg6); have K6 := Lib.hid (kb_bel K4.out ⟨hb6.out⟩))
        | (refine step_append_src _ rfl (.tmp 65) (.tmp 66) rfl w4.heap.size _ _ rfl ho6 _ z1 rfl (r8_src (RR1.out.below (bT h4.out hb6.out))) (by simp; omega) hb6.out.size ?_; intro v7 w7 ho7 hg7; have b7 := Lib.hid (Go.Proofs.YteklahfgplbmcaaDoor.Cr.below_grown hb6.out ho6 (Nat.le_refl _) hg7); have h7 := Lib.hid (bT h4.out b7.out); have K7 := Lib.hid (kb_bel K4.out ⟨b7.out⟩))
        | (go_at_call 17; ((with_reducible refine (HR1.out _ _ _ _ (HS.out.below h7.out) (r_bel E4.out ⟨b7.out⟩) (r_bel R4.out ⟨b7.out⟩) (own_r8 ho7)).mono ?_); rintro e w8 ⟨rfl, hb8⟩; have h8 := Lib.hid (bT h7.out hb8); have b8 := Lib.hid (bT b7.out hb8); have K8 := Lib.hid (kb_bel K4.out ⟨b8.out⟩))))
    obtain ⟨u0, u1, u2, u3⟩ := kb_4 K8.out
    have h19n : ¬ (19 : Int) < (cz.length : Int) := by omega
    go_wp2_with first
      | (go_at_call 17; ((with_reducible refine (HR2.out _ _ _ (HS.out.below h8.out) (r_bel E4.out ⟨b8.out⟩) (r_bel R4.out ⟨b8.out⟩) (RR2.out.below h8.out)).mono ?_); rintro e w9 ⟨rfl, hb9⟩))
    go_ret
    exact ⟨rfl, trivial, bT h8.out hb9⟩
theorem long (a e at' : Int) (A1 : Option Addr) (l1 c1 : Nat) (A2 : Option Addr) (l2 c2 : Nat) (w : World) (hs : Sh w) (h : 10000 < (l1 : Int) ∨ 10000 < (l2 : Int)) :
    Calls Tryd.prog 7 #[.int .u8 a, .int .u16 e, .slice A1 l1 c1, .slice A2 l2 c2, .int .i64 at'] w fun e w' => e = .returned (.bool true) ∧ True ∧ Below w.heap.size w w' := by
  have HA := Lib.hid (fun w (h : Sh w) => alive_ok w h)
  have HS := Lib.hid hs
  clear hs
  by_cases h1 : 10000 < (l1 : Int)
  · clear h
    go_enter Tryd.func7, Tryd.ntmps7
    go_wp2_with first
      | (go_at_call 18; ((with_reducible refine (HA.out _ HS.out).mono ?_); rintro e w1 ⟨rfl, hb1⟩))
    go_ret
    exact ⟨rfl, trivial, hb1⟩
  · have h2 : 10000 < (l2 : Int) := h.resolve_left h1
    clear h
    go_enter Tryd.func7, Tryd.ntmps7
    go_wp2_with first
      | (go_at_call 18; ((with_reducible refine (HA.out _ HS.out).mono ?_); rintro e w1 ⟨rfl, hb1⟩))
    go_ret
    exact ⟨rfl, trivial, hb1⟩
theorem main (a e : Int) (A1 : Option Addr) (l1 c1 : Nat) (z1 : List Int) (A2 : Option Addr) (l2 c2 : Nat) (z2 : List Int) (at' : Int) (w : World) (hs : Sh w) (ha : (Lit.int .u8 a).wf = true) (he : (Lit.int .u16 e).wf = true)
    (hz1 : Go.Proofs.YteklahfgplbmcaaDoor.Cr.IsRow .u8 w A1 l1 c1 z1) (hz2 : Go.Proofs.YteklahfgplbmcaaDoor.Cr.IsRow .u8 w A2 l2 c2 z2) :
    Calls Tryd.prog 7 #[.int .u8 a, .int .u16 e, .slice A1 l1 c1, .slice A2 l2 c2, .int .i64 at'] w fun e w' => e = .returned (.bool true) ∧ True ∧ Below w.heap.size w w' := by
  by_cases h : 10000 < (l1 : Int) ∨ 10000 < (l2 : Int)
  · exact long a e at' A1 l1 c1 A2 l2 c2 w hs h
  · obtain ⟨x1, k1, r1, b1⟩ := isrow8 hz1
    obtain ⟨x2, k2, r2, b2⟩ := isrow8 hz2
    exact good a e at' A1 l1 c1 x1 A2 l2 c2 x2 w hs ha he k1 r1 b1 k2 r2 b2 (fun g => h (.inl g)) (fun g => h (.inr g))
end Go.Proofs.YteklahfgplbmcaaDoor.BkPx
