/- Texts of one claim, one behind the other: HfT3, HfT4, HfT5, HfT6, HfT7, HfT8, HfT9, HfTa, HfTb, HfTc, BcLw, BcMn, HfSh. -/
import Derived.Test.YteklahfgplbmcaaDoorMrg10
import Derived.WalkKit
import Derived.Below
import Derived.RegionTactic
import Derived.Deep.QuietTactic
import Derived.BigQuiet
import Derived.ChangeAlike
import Derived.Deep.OwnRows
import Derived.Deep.Cut
import Derived.ProofKit
import Derived.OpenShut
import Derived.Laws.EntriesVeiled
import Derived.Lib.Hide
import Derived.Deep.RegionHeld3
import Derived.Laws.AppendOwn
import Derived.Laws.AppendOwnNone
import Derived.Maps.AppendAt
import Derived.Test.YteklahfgplbmcaaDoorMrg9
import Derived.Test.YteklahfgplbmcaaDoorEvOpen
import Derived.Test.YteklahfgplbmcaaDoorTab
import Derived.Test.YteklahfgplbmcaaDoorEvLaid
import Derived.Lib.LaidTab
import Derived.Deep.DeepHandedRow
set_option linter.unusedVariables false
/- The document's escape. -/
namespace Go.Proofs.YteklahfgplbmcaaDoor.Hf
open Go Go.ChangeShapes Go.WideShapes Go.ChangeAt Go.RowKit Go.Proofs.YteklahfgplbmcaaDoor.Bk Go.Proofs.YteklahfgplbmcaaDoor.Bi Go.Proofs.YteklahfgplbmcaaDoor.Cr Go.Proofs.YteklahfgplbmcaaDoor.Fx

open Go.Proofs.YteklahfgplbmcaaDoor.BkRf
set_option maxRecDepth 100000 in
set_option maxHeartbeats 4000000 in
theorem rescape_ok' (n : Nat) (w : World) (h0 : 16 ≤ n) (h1 : n ≤ 8191) : Calls Tryd.prog 95 #[.int .i64 n] w fun e w' => ∃ v, e = .returned v ∧ Cr.Own w.heap.size w' v (es1 n) ∧ Below w.heap.size w w' := by
  obtain ⟨d1, d2, d3, d4⟩ := dg16 (n := n) h0 h1
  have e : es1 (n : Int) = List.replicate (dg n - 1 - 4) 1 ++ 0 :: bi ((n - 2 ^ (dg n - 1) : Nat) : Int) (dg n - 1) := by unfold es1; rw [Int.natAbs_natCast, if_neg (by omega)]
  obtain ⟨d, hd⟩ : ∃ d, dg n = d + 5 := ⟨dg n - 5, by omega⟩
  rw [hd] at e d3 d4
  rw [show d + 5 - 1 = d + 4 by omega] at e d3
  rw [show d + 4 - 4 = d by omega] at e
  rw [e]
  have HE : Hid (∀ k : Nat, k < d → (2 : Int) ^ (k + 5) ≤ n) := Lib.hid fun k hk => by
    have : 2 ^ (k + 5) ≤ 2 ^ (d + 4) := Nat.pow_le_pow_right (by decide) (by omega)
    have : ((2 ^ (k + 5) : Nat) : Int) ≤ n := by omega
    push_cast at this; exact this
  have HX : Hid ((n : Int) < 2 ^ (d + 5)) := Lib.hid (by
    have : ((n : Nat) : Int) < ((2 ^ (d + 5) : Nat) : Int) := by omega
    push_cast at this; exact this)
  have H2 := Lib.hid (fun (s : Nat) (x : World) (h : s ≤ 31) => two_ok s x h)
  have hd8 : d ≤ 8 := by omega
  obtain ⟨P, hP⟩ : ∃ P : Nat, 2 ^ (d + 4) = P := ⟨_, rfl⟩
  have hPI : (2 : Int) ^ (d + 4) = (P : Int) := by rw [← hP]; push_cast; rfl
  rw [hP] at d3 ⊢
  obtain ⟨q, hq⟩ : ∃ q : Int, ((n - P : Nat) : Int) = q := ⟨_, rfl⟩
  have hqw : IntKind.i64.wrap ((n : Int) - (P : Int)) = q := by rw [IntKind.wrap_i64]; omega
  have hn5 : n < 2 ^ (d + 5) := d4
  have HB := Lib.hid (fun x => rbits_ok (d + 4) q x (by omega) (by omega) (by rw [hPI, ← hq]; rw [show d + 5 = (d + 4) + 1 by omega, Nat.pow_succ, hP] at hn5; omega))
  obtain ⟨d4', hd4⟩ : ∃ d4', d + 4 = d4' := ⟨_, rfl⟩
  rw [hd4] at HB hPI
  have H2P := Lib.hid (fun x => H2.out d4' x (by omega))
  rw [hPI] at H2P
  have hdw : IntKind.i64.wrap ((d : Int) + 4) = (d4' : Int) := by rw [IntKind.wrap_i64]; omega
  rw [hq, hd4]
  clear d1 d2 d3 d4 e hd hP hPI hq hn5 h0 hd4
  go_enter Tryd.func95, Tryd.ntmps95
  go_wp2
  go_loopw [3] (fun i wr => ∃ m : Nat, m ≤ d ∧ i = .int .i64 m ∧ w = wr) (fun i _ => d - (intOf i).toNat)
  case atStart => exact ⟨0, by omega, rfl, rfl⟩
  case round =>
    obtain ⟨m, hm, rfl, rfl⟩ := hrel
    obtain ⟨s, hs⟩ : ∃ s, m + 5 = s := ⟨_, rfl⟩
    have hsw : IntKind.i64.wrap ((m : Int) + 5) = (s : Int) := by rw [IntKind.wrap_i64]; omega
    have H2s := Lib.hid (H2.out s w (by omega))
    by_cases hlt : m < d
    · have ht := HE.out m hlt
      rw [hs] at ht
      obtain ⟨T, hT⟩ : ∃ T : Int, (2 : Int) ^ s = T := ⟨_, rfl⟩
      rw [hT] at ht H2s
      clear hT hs
      go_wp2_with (go_at_call 85; ((with_reducible refine (H2s.out).mono ?_); rintro e w1 ⟨rfl, rfl⟩))
      go_roundw
      case rel => exact ⟨m + 1, by omega, by go_num, trivial⟩
      case measure => simp [intOf]; omega
    · have hend : m = d := by omega
      subst hend
      have ht := HX.out
      rw [hs] at ht
      have ht2 : ¬ (2 : Int) ^ s ≤ n := by omega
      obtain ⟨T, hT⟩ : ∃ T : Int, (2 : Int) ^ s = T := ⟨_, rfl⟩
      rw [hT] at ht ht2 H2s
      clear hT hs
      go_wp2_with (go_at_call 85; ((with_reducible refine (H2s.out).mono ?_); rintro e w1 ⟨rfl, rfl⟩))
      go_loopw [4, 5] (fun s i wq => ∃ q : Nat, q ≤ m ∧ i = .int .i64 q ∧ Hid (Cr.Own w.heap.size wq s (List.replicate q 1)) ∧ Hid (Below w.heap.size w wq)) (fun _ i _ => m - (intOf i).toNat)
      case atStart => exact ⟨0, by omega, rfl, Lib.hid (by simpa using own8n w.heap.size w), Lib.hid (Below.refl _ _)⟩
      case round =>
        obtain ⟨q9, hq9, rfl, ho3, hb3⟩ := hrel
        have hsz3 := Lib.hid (hb3.out.size)
        by_cases hlq : q9 < m
        · go_wp2_with (at_builtin; refine wpList_append_src _ rfl (.tmp 18) (.tmp 19) rfl w.heap.size _ (List.replicate q9 1) rfl (own8_al ho3.out _) _ [1] rfl (one_src wr 1) (by simp; omega) (by have := hsz3.out; simp; omega) ?_; intro v6 w6 ho6 hg6 _; have hb6 := Lib.hid (Go.Proofs.YteklahfgplbmcaaDoor.Cr.below_grown (hb3.out.alloc hsz3.out _) (own8_al ho3.out _) (Nat.le_refl _) hg6); rw [← List.replicate_succ'] at ho6; have HO6 := Lib.hid ho6; clear ho6 hg6)
          go_roundw
          case rel => exact ⟨q9 + 1, by omega, by go_num, HO6, hb6⟩
          case measure => simp [intOf]; omega
        · have hend2 : q9 = m := by omega
          subst hend2
          have L9 := Lib.hid (show (List.replicate q9 (1 : Int)).length ≤ 8 by simp; omega)
          have hd4'12 : d4' ≤ 12 := by (have := hdw; rw [IntKind.wrap_i64] at this; omega)
          go_wp2_with first
            | (at_builtin; refine wpList_append_src _ rfl (.tmp 21) (.tmp 22) rfl w.heap.size _ (List.replicate q9 1) rfl (own8_al ho3.out _) _ [0] rfl (one_src wr 0) (by simp; omega) (by have := hsz3.out; simp; omega) ?_; intro v6 w6 ho6 hg6 _; have B6 := Lib.hid (Go.Proofs.YteklahfgplbmcaaDoor.Cr.below_grown (hb3.out.alloc hsz3.out _) (own8_al ho3.out _) (Nat.le_refl _) hg6); have O6 := Lib.hid ho6; clear ho6 hg6)
            | (go_at_call 85; ((with_reducible refine (H2P.out _).mono ?_); rintro e w1 ⟨rfl, rfl⟩))
            | (go_at_call 87; ((with_reducible refine (HB.out _).mono ?_); rintro e w7 ⟨v7, rfl, ho7, hb⟩; have S7 := Lib.hid (own_src ho7); have O7 := Lib.hid (Cr.Own.below O6.out hb); have B7 := Lib.hid (bT B6.out hb); clear ho7 hb))
            | (at_builtin; refine wpList_append_src _ rfl (.tmp 24) (.tmp 32) rfl w.heap.size _ _ rfl O7.out _ (bi q d4') rfl S7.out (by simp [bi_len]; omega) B7.out.size ?_; intro v8 w8 ho8 hg8 _; have O8 := Lib.hid ho8; have B8 := Lib.hid (Go.Proofs.YteklahfgplbmcaaDoor.Cr.below_grown B7.out O7.out (Nat.le_refl _) hg8); clear ho8 hg8)
          go_ret
          exact ⟨_, rfl, by have := O8.out; simpa [List.append_assoc] using this, B8.out⟩
end Go.Proofs.YteklahfgplbmcaaDoor.Hf

/- Three lists side by side. -/
namespace Go.Proofs.YteklahfgplbmcaaDoor.Hf
open Go Go.ChangeShapes Go.WideShapes Go.ChangeAt Go.RowKit Go.Proofs.YteklahfgplbmcaaDoor.Bk Go.Proofs.YteklahfgplbmcaaDoor.Bi Go.Proofs.YteklahfgplbmcaaDoor.Cr Go.Proofs.YteklahfgplbmcaaDoor.Fx

open Go.Proofs.YteklahfgplbmcaaDoor.BkRf
theorem wpList_push3_at (w : World) {ops : Array Oper} {rest : List Oper} {o : Oper} {a : Act} {Q : Exit → Act → World → Prop} (hgd : o.guard = none) (s x : Operand)
    (ho : o.op = .call { callee := .builtin .append, args := #[s, x], argTypes := #[22, 22] }) (base : Nat) (v : Value) (xs : List Int) (z : Int) (hs : a.eval s = v) (hown : Fx.Own base w v xs)
    (hx : a.eval x = .slice (some ⟨w.heap.size, 0, none⟩) 1 1) (hl : xs.length ≤ 100000) (hbase : base ≤ w.heap.size)
    (h : ∀ v' w', Fx.Own base w' v' (xs ++ [z]) → (w.alloc (.cells #[.int .i64 z] 3)).grownBy w' v.ownBlock → (v'.ownBlock = v.ownBlock ∨ v'.ownBlock = some (w.alloc (.cells #[.int .i64 z] 3)).heap.size) → wpList Tryd.prog ops Q rest (a.put o.dst v') w') : wpList Tryd.prog ops Q (o :: rest) a (w.alloc (.cells #[.int .i64 z] 3)) := by
  obtain ⟨i0, hi, hz0, hz1, hz2⟩ := info_parts' info3
  have r := World.rowIs_alloc w #[.int .i64 z] 3 (fun _ => .int .i64 z) (fun i hi => by
    have h1 : i < 1 := hi
    have : i = 0 := by omega
    subst this; rfl)
  refine wpList_append_own_at _ hgd s x 22 ho base 3 i0 (.int .i64 0) 1 8 Tryd.underlying22 hi hz0 hz1 hz2 rfl (by decide) v xs.length (xs.map (Value.int .i64)) hs (World.ownsRow.alloc hown _) ⟨w.heap.size, 0, none⟩ 1 1 [.int .i64 z] hx rfl (fun j u hu => by
    match j with
    | 0 => simp at hu; subst hu; exact r.cell (i := 0) (Nat.lt_succ_self 0)
    | j + 1 => simp at hu) (by simp [Value.oneCell']) (by unfold maxLen; omega) (by omega) (by simp; omega) fun v' w' h1 h2 _ h4 => h v' w' (Fx.own_push h1) h2 h4
theorem wpList_app8_at (w : World) {ops : Array Oper} {rest : List Oper} {o : Oper} {a : Act} {Q : Exit → Act → World → Prop} (hgd : o.guard = none) (s x : Operand)
    (ho : o.op = .call { callee := .builtin .append, args := #[s, x], argTypes := #[28, 28] }) (base : Nat) (v : Value) (xs : List Int) (hs : a.eval s = v) (hown : Cr.Own base w v xs)
    (vx : Value) (zs : List Int) (hx : a.eval x = vx) (hsrc : Src8 w vx zs) (hl : xs.length + zs.length ≤ 1000000) (hbase : base ≤ w.heap.size)
    (h : ∀ v' w', Cr.Own base w' v' (xs ++ zs) → w.grownBy w' v.ownBlock → (v'.ownBlock = v.ownBlock ∨ v'.ownBlock = some w.heap.size) → wpList Tryd.prog ops Q rest (a.put o.dst v') w') : wpList Tryd.prog ops Q (o :: rest) a w := by
  obtain ⟨i0, hi, hz0, hz1, hz2⟩ := info_parts info5'
  rcases hsrc with ⟨rfl, rfl⟩ | ⟨y, c, rfl, hc⟩
  · exact wpList_append_own_none hgd s x 28 ho base 5 i0 1 Tryd.underlying28 hi v xs.length (xs.map (Value.int .u8)) hs hown hx (h v w (by rw [List.append_nil]; exact hown) (grown_refl _ _) (.inl rfl))
  · refine wpList_append_own_at w hgd s x 28 ho base 5 i0 (.int .u8 0) 1 1 Tryd.underlying28 hi hz0 hz1 hz2 rfl (by decide) v xs.length (xs.map (Value.int .u8)) hs hown y zs.length c (zs.map (Value.int .u8)) hx (by simp) hc (one8' _) (by unfold maxLen; omega) (by omega) hbase fun v' w' h1 h2 h3 h4 => h v' w' ?_ h2 h4
    unfold Cr.Own
    rw [List.length_append, List.map_append]
    exact h1
def Ap (a b : Value) : Prop := ∀ g, a.ownBlock = some g → b.ownBlock ≠ some g
theorem Ap.symm {a b : Value} (h : Ap a b) : Ap b a := fun g h1 h2 => h g h2 h1
/-- Three lists that the call has made, side by side. -/
structure TS (w0 x : World) (t s e : Value) (tl sl el : List Int) : Prop where
  ot : Fx.Own w0.heap.size x t tl
  os : Cr.Own w0.heap.size x s sl
  oe : Cr.Own w0.heap.size x e el
  d1 : Ap t s
  d2 : Ap t e
  d3 : Ap s e
  b : Below w0.heap.size w0 x
theorem TS.below {w0 x y : World} {t s e : Value} {tl sl el : List Int} (h : TS w0 x t s e tl sl el) (hb : Below x.heap.size x y) : TS w0 y t s e tl sl el := ⟨h.ot.below hb, h.os.below hb, h.oe.below hb, h.d1, h.d2, h.d3, bT h.b hb⟩
theorem TS.al {w0 x : World} {t s e : Value} {tl sl el : List Int} (h : TS w0 x t s e tl sl el) (o : Obj) : TS w0 (x.alloc o) t s e tl sl el := h.below (Bk.al x o)
theorem own_far {x y : World} {base t : Nat} {size : Nat} {v : Value} {n : Nat} {xs : List Value} {r : Option Nat} (h : x.ownsRow base t size v n xs) (hg : x.grownBy y r) (hd : ∀ g, v.ownBlock = some g → r ≠ some g) : y.ownsRow base t size v n xs := by
  obtain ⟨hx, h2 | ⟨g, cap, cur, rfl, g1, g2, g3⟩⟩ := h
  · exact ⟨hx, .inl h2⟩
  · exact ⟨hx, .inr ⟨g, cap, cur, rfl, g1, (hg.block g (Array.getElem?_eq_some_iff.1 g2).1 (fun e => hd g rfl e.symm)).trans g2, g3⟩⟩
theorem ap_new {x : World} {base t size n : Nat} {xs : List Value} {a a' b : Value} (hb : x.ownsRow base t size b n xs) (h : Ap a b) (hat : a'.ownBlock = a.ownBlock ∨ a'.ownBlock = some x.heap.size) : Ap a' b := fun g h1 h2 => by
  rcases hat with e | e
  · exact h g (e ▸ h1) h2
  · rw [e] at h1
    have := (World.ownsRow.lt hb g h2).2
    simp at h1; omega
theorem TS.grow {w0 x y : World} {t s e v : Value} {tl sl el : List Int} (h : TS w0 x t s e tl sl el) (hv : v = t ∨ v = s ∨ v = e) (hg : x.grownBy y v.ownBlock) : Below w0.heap.size w0 y :=
  h.b.grown hg h.b.size (fun k hk => by
    rcases hv with rfl | rfl | rfl
    · exact (World.ownsRow.lt h.ot k hk).1
    · exact (World.ownsRow.lt h.os k hk).1
    · exact (World.ownsRow.lt h.oe k hk).1)
theorem TS.pushT {w0 x y : World} {t s e t' : Value} {tl sl el tl' : List Int} (h : TS w0 x t s e tl sl el) (ho : Fx.Own w0.heap.size y t' tl') (hg : x.grownBy y t.ownBlock) (hat : t'.ownBlock = t.ownBlock ∨ t'.ownBlock = some x.heap.size) : TS w0 y t' s e tl' sl el :=
  ⟨ho, own_far h.os hg (fun g e1 e2 => h.d1 g e2 e1), own_far h.oe hg (fun g e1 e2 => h.d2 g e2 e1), ap_new h.os h.d1 hat, ap_new h.oe h.d2 hat, h.d3, h.grow (.inl rfl) hg⟩
theorem TS.pushS {w0 x y : World} {t s e s' : Value} {tl sl el sl' : List Int} (h : TS w0 x t s e tl sl el) (ho : Cr.Own w0.heap.size y s' sl') (hg : x.grownBy y s.ownBlock) (hat : s'.ownBlock = s.ownBlock ∨ s'.ownBlock = some x.heap.size) : TS w0 y t s' e tl sl' el :=
  ⟨own_far h.ot hg (fun g e1 e2 => h.d1 g e1 e2), ho, own_far h.oe hg (fun g e1 e2 => h.d3 g e2 e1), (ap_new h.ot h.d1.symm hat).symm, h.d2, ap_new h.oe h.d3 hat, h.grow (.inr (.inl rfl)) hg⟩
theorem TS.pushE {w0 x y : World} {t s e e' : Value} {tl sl el el' : List Int} (h : TS w0 x t s e tl sl el) (ho : Cr.Own w0.heap.size y e' el') (hg : x.grownBy y e.ownBlock) (hat : e'.ownBlock = e.ownBlock ∨ e'.ownBlock = some x.heap.size) : TS w0 y t s e' tl sl el' :=
  ⟨own_far h.ot hg (fun g e1 e2 => h.d2 g e1 e2), own_far h.os hg (fun g e1 e2 => h.d3 g e1 e2), ho, h.d1, (ap_new h.ot h.d2.symm hat).symm, (ap_new h.os h.d3.symm hat).symm, h.grow (.inr (.inr rfl)) hg⟩
theorem ts_new (w : World) : TS w w (.slice none 0 0) (.slice none 0 0) (.slice none 0 0) [] [] [] := ⟨Fx.own_nil w _, own8n _ _, own8n _ _, (fun g h => by cases h), (fun g h => by cases h), (fun g h => by cases h), Below.refl _ _⟩
end Go.Proofs.YteklahfgplbmcaaDoor.Hf

/- The document's Bits. -/
namespace Go.Proofs.YteklahfgplbmcaaDoor.Hf
open Go Go.ChangeShapes Go.WideShapes Go.ChangeAt Go.RowKit Go.Proofs.YteklahfgplbmcaaDoor.Bk Go.Proofs.YteklahfgplbmcaaDoor.Bi Go.Proofs.YteklahfgplbmcaaDoor.Cr Go.Proofs.YteklahfgplbmcaaDoor.Fx

open Go.Proofs.YteklahfgplbmcaaDoor.BkRf Go.Proofs.YteklahfgplbmcaaDoor.BkPx
theorem tl_snoc {i : Int} {zs : List Int} {k : Nat} (h : k < zs.length) : (zs.take (k + 1)).map (sz1 i) = (zs.take k).map (sz1 i) ++ [sz1 i (zs.getD k 0)] := by
  have e : zs.take (k + 1) = zs.take k ++ [zs.getD k 0] := by rw [List.take_add_one, List.getElem?_eq_getElem h]; simp [h]
  rw [e]; simp
theorem ap_fresh {x y : World} {base : Nat} {v e : Value} {l el : List Int} (ho : Cr.Own x.heap.size y v l) (he : Cr.Own base x e el) : Ap v e := fun g h1 h2 => by
  have := (World.ownsRow.lt ho g h1).1
  have := (World.ownsRow.lt he g h2).2
  omega
def eL (i : Int) (l : List Int) : List Int := if i = 11 then esc l else []
theorem eL_len {i : Int} {l : List Int} (h : ∀ v ∈ l, -8191 ≤ v ∧ v ≤ 8191) (hl : l.length ≤ 4) : (eL i l).length ≤ 84 := by
  unfold eL
  split
  · have := esc_len l h; omega
  · exact Nat.zero_le _

set_option maxRecDepth 100000 in
set_option maxHeartbeats 16000000 in
theorem rbits68_u (id n0 r0 : Nat) (a1 : Option Addr) (n1 c1 b2 off2 n2 c2 : Nat) (v : Value) (zs : List Int) (w : World) (i1 : 1 ≤ id) (i2 : id ≤ 11) (hsg : sgd id = false) (hr : Rd w v zs) (hl : zs.length ≤ 4) (hb : ∀ z ∈ zs, -8191 ≤ z ∧ z ≤ 8191)
    (hx : entX id (tld id zs) = 0) (hn : entI id (tld id zs) = n0) (hn2 : n0 < n2) (hb2 : b2 < w.heap.size) (hc2 : w.cell? ⟨b2, off2 + n0, none⟩ = some (.int .i64 r0)) (hr0 : r0 < 289) :
    Calls Tryd.prog 68 #[.agg #[.int .i64 id, .int .i64 (pl id), .slice a1 n1 c1, .slice (some ⟨b2, off2, none⟩) n2 c2], v] w fun e w' => ∃ v', e = .returned v' ∧ Cr.Own w.heap.size w' v' (cd (pl id) r0 ++ ((if sgd id then [] else sgn zs) ++ eL id zs)) ∧ Below w.heap.size w w' := by
  obtain ⟨A, cap, rfl, hA⟩ := hr.open
  have HB := Lib.hid (al w (.cells #[.int .i64 id, .int .i64 (pl id), .slice a1 n1 c1, .slice (some ⟨b2, off2, none⟩) n2 c2] 24))
  have HBX := Lib.hid (fun x h => bx1 (w := w) (a := .int .i64 (id : Int)) (b := .int .i64 (pl id)) (c := .slice a1 n1 c1) (d := .slice (some ⟨b2, off2, none⟩) n2 c2) (x := x) h)
  have H93 := Lib.hid (fun x => rsigned_ok id x i1 i2)
  have H23 : Hid (∀ x t, Rd x t (tld id zs) → Calls Tryd.prog 23 #[.int .i64 id, t] x fun e w' => e = .returned (.tuple #[.int .i64 n0, .int .i64 0]) ∧ Below x.heap.size x w') := Lib.hid fun x t h => by
    have q := rentry_ok id t (tld id zs) x i1 (by omega) h
    rwa [hx, hn] at q
  have H62 := Lib.hid (fun x => rcode_ok (pl id) r0 x (facts i1 (by omega : id ≤ 12)).2.2.2.2.2.1 hr0)
  have HC2 : Hid (∀ x, Below w.heap.size w x → x.cell? ⟨b2, off2 + n0, none⟩ = some (.int .i64 r0)) := Lib.hid fun x h => (h.cell (p := ⟨b2, off2 + n0, none⟩) hb2).trans hc2
  have hcdl : (cd (pl id) r0).length ≤ 1000 := by
    rw [cd_len]
    have := dg_le (n := r0 / 2 ^ pl id + 1) (d := 9) (Nat.le_add_left 1 _) (by have := Nat.div_le_self r0 (2 ^ pl id); omega)
    have := (facts i1 (by omega : id ≤ 12)).2.2.2.2.2.1
    omega
  have HA := Lib.hid hA
  have HBd := Lib.hid hb
  obtain ⟨n, hnn⟩ : ∃ n, zs.length = n := ⟨_, rfl⟩
  have HNN := Lib.hid hnn
  have n0I : (n0 : Int) < (n2 : Int) := by omega
  rw [hsg] at H93 ⊢
  have htld : Hid (tld id zs = zs.map (sz1 id)) := Lib.hid (by unfold tld; rw [hsg]; rfl)
  simp only [Bool.false_eq_true, if_false]
  rw [hnn] at hl ⊢
  clear hA hnn hr hb hx hn hc2
  obtain ⟨C, hC⟩ : ∃ C, cd (pl id) r0 = C := ⟨_, rfl⟩
  rw [hC] at H62 hcdl ⊢
  clear hC
  go_enter Tryd.func68, Tryd.ntmps68
  go_wp2
  generalize hW : w.alloc (.cells #[.int .i64 id, .int .i64 (pl id), .slice a1 n1 c1, .slice (some ⟨b2, off2, none⟩) n2 c2] 24) = W1 at *
  have p0 := (HBX.out _ (Below.refl _ _)).1
  go_loopw [5, 6, 7, 8] (fun t s e i wr => ∃ j : Nat, j ≤ n ∧ i = .int .i64 j ∧ Hid (TS W1 wr t s e ((zs.take j).map (sz1 id)) (sgn (zs.take j)) (eL id (zs.take j)))) (fun _ _ _ i _ => n - (intOf i).toNat)
  case atStart => exact ⟨0, by omega, rfl, Lib.hid (by simpa [sgn, eL, esc] using ts_new W1)⟩
  case round =>
    obtain ⟨j, hj, rfl, T0⟩ := hrel
    clear p0
    have p0 := (HBX.out _ T0.out.b).1
    by_cases hlt : j < n
    · obtain ⟨b, off, rfl, hb, c1'⟩ := HA.out j (by rw [HNN.out]; exact hlt)
      have c1 := ((bT HB.out T0.out.b).cell (p := ⟨b, off + j, none⟩) hb).trans c1'
      have hzb := HBd.out (zs.getD j 0) (by rw [List.getD_eq_getElem?_getD, List.getElem?_eq_getElem (by rw [HNN.out]; exact hlt)]; exact List.getElem_mem _)
      have hn1 := tl_snoc (i := (id : Int)) (zs := zs) (k := j) (by rw [HNN.out]; exact hlt)
      have hn2' := sgn_snoc (zs := zs) (k := j) (by rw [HNN.out]; exact hlt)
      have hn3 := esc_snoc (zs := zs) (k := j) (by rw [HNN.out]; exact hlt)
      have hls1 := sgn_len (zs.take j)
      have hls2 := eL_len (i := (id : Int)) (l := zs.take j) (fun v hv => HBd.out v (List.mem_of_mem_take hv)) (by rw [List.length_take]; omega)
      have hls3 : ((zs.take j).map (sz1 id)).length ≤ 4 := by rw [List.length_map, List.length_take]; omega
      have hls0 : (zs.take j).length ≤ 4 := by rw [List.length_take]; omega
      clear c1'
      obtain ⟨z, hz⟩ : ∃ z, zs.getD j 0 = z := ⟨_, rfl⟩
      rw [hz] at c1 hzb hn1 hn2' hn3
      have hn3' : eL id (zs.take (j + 1)) = eL id (zs.take j) ++ (if (id : Int) = 11 then es1 z else []) := by unfold eL; split <;> simp [hn3]
      obtain ⟨q, hq⟩ : ∃ q : Nat, z.natAbs = q := ⟨_, rfl⟩
      have H94 : Hid (∀ x, Calls Tryd.prog 94 #[.int .i64 z] x fun e w' => e = .returned (.int .i64 q) ∧ x = w') := Lib.hid fun x => by rw [← hq]; exact rabs_ok z x (by omega) (by omega)
      have heq : es1 z = es1 q := by unfold es1; rw [Int.natAbs_natCast, hq]
      have HES : Hid ((es1 q).length ≤ 21) := Lib.hid (es1_len (by omega) (by omega))
      generalize htl : (zs.take j).map (sz1 id) = tl at *
      generalize hsl : sgn (zs.take j) = sl at *
      generalize hel : eL id (zs.take j) = el at *
      have HLS := Lib.hid (show sl.length ≤ 4 ∧ el.length ≤ 84 ∧ tl.length ≤ 4 from ⟨by omega, hls2, hls3⟩)
      by_cases h11 : (id : Int) = 11
      · by_cases h16 : q < 16
        · have HNX : Hid ((zs.take (j + 1)).map (sz1 id) = tl ++ [(q : Int)] ∧ sgn (zs.take (j + 1)) = sl ++ sg1 z ∧ eL id (zs.take (j + 1)) = el) := Lib.hid ⟨by rw [hn1]; unfold sz1; rw [if_pos h11, hq, Nat.min_eq_left (by omega)], hn2', by rw [hn3', if_pos h11, heq]; unfold es1; rw [Int.natAbs_natCast, if_pos h16, List.append_nil]⟩
          have g16 : ¬ 15 < (q : Int) := by omega
          have h11b : ((id : Int) == 11) = true := by simp [h11]
          clear h11 hls1 hls2 hls3 hls0 hn1 hn2' hn3 hn3' hz hq heq htl hsl hel h16
          by_cases hz1 : z < 0
          · have e : sg1 z = [1] := by unfold sg1; rw [if_pos hz1]
            rw [e] at HNX
            have hz2 : ¬ 0 < z := by omega
            clear e
            go_wp2_with first
              | (go_at_call 93; ((with_reducible refine (H93.out _).mono ?_); rintro e w1 ⟨rfl, hb⟩; have T1 := Lib.hid (T0.out.below hb); clear p0; have p0 := (HBX.out _ T1.out.b).1; clear hb))
              | (at_builtin; refine wpList_app8_at _ rfl (.tmp 33) (.tmp 34) rfl W1.heap.size _ sl rfl (T1.out.al _).os _ [1] rfl (one_src w1 1) (by have := HLS.out; simp; omega) (by have := T1.out.b.size; simp; omega) ?_; intro v2 w2 ho hg hat; have T2 := Lib.hid ((T1.out.al _).pushS ho hg hat); clear p0; have p0 := (HBX.out _ T2.out.b).1; clear ho hg hat)
              | (go_at_call 94; ((with_reducible refine (H94.out _).mono ?_); rintro e w3 ⟨rfl, rfl⟩))
              | (at_builtin; refine wpList_push3_at _ rfl (.tmp 54) (.tmp 56) rfl W1.heap.size _ tl (q : Int) rfl T2.out.ot rfl (by have := HLS.out; omega) T2.out.b.size ?_; intro v7 w7 ho hg hat; have T7 := Lib.hid ((T2.out.al _).pushT ho hg hat); clear ho hg hat)
            go_roundw
            case rel => exact ⟨j + 1, by omega, by go_num, Lib.hid (by rw [HNX.out.1, HNX.out.2.1, HNX.out.2.2]; exact T7.out)⟩
            case measure => simp [intOf]; omega
          by_cases hz2 : 0 < z
          · have e : sg1 z = [0] := by unfold sg1; rw [if_neg hz1, if_pos hz2]
            rw [e] at HNX
            clear e
            go_wp2_with first
              | (go_at_call 93; ((with_reducible refine (H93.out _).mono ?_); rintro e w1 ⟨rfl, hb⟩; have T1 := Lib.hid (T0.out.below hb); clear p0; have p0 := (HBX.out _ T1.out.b).1; clear hb))
              | (at_builtin; refine wpList_app8_at _ rfl (.tmp 38) (.tmp 39) rfl W1.heap.size _ sl rfl (T1.out.al _).os _ [0] rfl (one_src w1 0) (by have := HLS.out; simp; omega) (by have := T1.out.b.size; simp; omega) ?_; intro v2 w2 ho hg hat; have T2 := Lib.hid ((T1.out.al _).pushS ho hg hat); clear p0; have p0 := (HBX.out _ T2.out.b).1; clear ho hg hat)
              | (go_at_call 94; ((with_reducible refine (H94.out _).mono ?_); rintro e w3 ⟨rfl, rfl⟩))
              | (at_builtin; refine wpList_push3_at _ rfl (.tmp 54) (.tmp 56) rfl W1.heap.size _ tl (q : Int) rfl T2.out.ot rfl (by have := HLS.out; omega) T2.out.b.size ?_; intro v7 w7 ho hg hat; have T7 := Lib.hid ((T2.out.al _).pushT ho hg hat); clear ho hg hat)
            go_roundw
            case rel => exact ⟨j + 1, by omega, by go_num, Lib.hid (by rw [HNX.out.1, HNX.out.2.1, HNX.out.2.2]; exact T7.out)⟩
            case measure => simp [intOf]; omega
          · have e : sg1 z = [] := by unfold sg1; rw [if_neg hz1, if_neg hz2]
            rw [e, List.append_nil] at HNX
            clear e
            go_wp2_with first
              | (go_at_call 93; ((with_reducible refine (H93.out _).mono ?_); rintro e w1 ⟨rfl, hb⟩; have T1 := Lib.hid (T0.out.below hb); clear p0; have p0 := (HBX.out _ T1.out.b).1; clear hb))
              | (go_at_call 94; ((with_reducible refine (H94.out _).mono ?_); rintro e w3 ⟨rfl, rfl⟩))
              | (at_builtin; refine wpList_push3_at _ rfl (.tmp 54) (.tmp 56) rfl W1.heap.size _ tl (q : Int) rfl T1.out.ot rfl (by have := HLS.out; omega) T1.out.b.size ?_; intro v7 w7 ho hg hat; have T7 := Lib.hid ((T1.out.al _).pushT ho hg hat); clear ho hg hat)
            go_roundw
            case rel => exact ⟨j + 1, by omega, by go_num, Lib.hid (by rw [HNX.out.1, HNX.out.2.1, HNX.out.2.2]; exact T7.out)⟩
            case measure => simp [intOf]; omega
        · have HNX : Hid ((zs.take (j + 1)).map (sz1 id) = tl ++ [16] ∧ sgn (zs.take (j + 1)) = sl ++ sg1 z ∧ eL id (zs.take (j + 1)) = el ++ es1 q) := Lib.hid ⟨by rw [hn1]; unfold sz1; rw [if_pos h11, hq, Nat.min_eq_right (by omega)]; rfl, hn2', by rw [hn3', if_pos h11, heq]⟩
          have g16 : 15 < (q : Int) := by omega
          have H95 := Lib.hid (fun x => rescape_ok' q x (by omega) (by omega))
          have hnz : z ≠ 0 := by omega
          have h11b : ((id : Int) == 11) = true := by simp [h11]
          clear h11 hls1 hls2 hls3 hls0 hn1 hn2' hn3 hn3' hz hq heq htl hsl hel h16
          by_cases hz1 : z < 0
          · have e : sg1 z = [1] := by unfold sg1; rw [if_pos hz1]
            rw [e] at HNX
            have hz2 : ¬ 0 < z := by omega
            clear e
            go_wp2_with first
              | (go_at_call 93; ((with_reducible refine (H93.out _).mono ?_); rintro e w1 ⟨rfl, hb⟩; have T1 := Lib.hid (T0.out.below hb); clear p0; have p0 := (HBX.out _ T1.out.b).1; clear hb))
              | (at_builtin; refine wpList_app8_at _ rfl (.tmp 33) (.tmp 34) rfl W1.heap.size _ sl rfl (T1.out.al _).os _ [1] rfl (one_src w1 1) (by have := HLS.out; simp; omega) (by have := T1.out.b.size; simp; omega) ?_; intro v2 w2 ho hg hat; have T2 := Lib.hid ((T1.out.al _).pushS ho hg hat); clear p0; have p0 := (HBX.out _ T2.out.b).1; clear ho hg hat)
              | (go_at_call 94; ((with_reducible refine (H94.out _).mono ?_); rintro e w3 ⟨rfl, rfl⟩))
              | (go_at_call 95; ((with_reducible refine (H95.out _).mono ?_); rintro e w4 ⟨v4, rfl, ho, hb⟩; have T4 := Lib.hid (T2.out.below hb); have S4 := Lib.hid (own_src ho); clear p0; have p0 := (HBX.out _ T4.out.b).1; clear ho hb))
              | (at_builtin; refine wpList_app8_at _ rfl (.tmp 50) (.tmp 52) rfl W1.heap.size _ el rfl T4.out.oe _ (es1 q) rfl S4.out (by have := HLS.out; have := HES.out; omega) T4.out.b.size ?_; intro v5 w5 ho hg hat; have T5 := Lib.hid (T4.out.pushE ho hg hat); clear p0; have p0 := (HBX.out _ T5.out.b).1; clear ho hg hat)
              | (at_builtin; refine wpList_push3_at _ rfl (.tmp 54) (.tmp 56) rfl W1.heap.size _ tl 16 rfl T5.out.ot rfl (by have := HLS.out; omega) T5.out.b.size ?_; intro v7 w7 ho hg hat; have T7 := Lib.hid ((T5.out.al _).pushT ho hg hat); clear ho hg hat)
            go_roundw
            case rel => exact ⟨j + 1, by omega, by go_num, Lib.hid (by rw [HNX.out.1, HNX.out.2.1, HNX.out.2.2]; exact T7.out)⟩
            case measure => simp [intOf]; omega
          by_cases hz2 : 0 < z
          · have e : sg1 z = [0] := by unfold sg1; rw [if_neg hz1, if_pos hz2]
            rw [e] at HNX
            clear e
            go_wp2_with first
              | (go_at_call 93; ((with_reducible refine (H93.out _).mono ?_); rintro e w1 ⟨rfl, hb⟩; have T1 := Lib.hid (T0.out.below hb); clear p0; have p0 := (HBX.out _ T1.out.b).1; clear hb))
              | (at_builtin; refine wpList_app8_at _ rfl (.tmp 38) (.tmp 39) rfl W1.heap.size _ sl rfl (T1.out.al _).os _ [0] rfl (one_src w1 0) (by have := HLS.out; simp; omega) (by have := T1.out.b.size; simp; omega) ?_; intro v2 w2 ho hg hat; have T2 := Lib.hid ((T1.out.al _).pushS ho hg hat); clear p0; have p0 := (HBX.out _ T2.out.b).1; clear ho hg hat)
              | (go_at_call 94; ((with_reducible refine (H94.out _).mono ?_); rintro e w3 ⟨rfl, rfl⟩))
              | (go_at_call 95; ((with_reducible refine (H95.out _).mono ?_); rintro e w4 ⟨v4, rfl, ho, hb⟩; have T4 := Lib.hid (T2.out.below hb); have S4 := Lib.hid (own_src ho); clear p0; have p0 := (HBX.out _ T4.out.b).1; clear ho hb))
              | (at_builtin; refine wpList_app8_at _ rfl (.tmp 50) (.tmp 52) rfl W1.heap.size _ el rfl T4.out.oe _ (es1 q) rfl S4.out (by have := HLS.out; have := HES.out; omega) T4.out.b.size ?_; intro v5 w5 ho hg hat; have T5 := Lib.hid (T4.out.pushE ho hg hat); clear p0; have p0 := (HBX.out _ T5.out.b).1; clear ho hg hat)
              | (at_builtin; refine wpList_push3_at _ rfl (.tmp 54) (.tmp 56) rfl W1.heap.size _ tl 16 rfl T5.out.ot rfl (by have := HLS.out; omega) T5.out.b.size ?_; intro v7 w7 ho hg hat; have T7 := Lib.hid ((T5.out.al _).pushT ho hg hat); clear ho hg hat)
            go_roundw
            case rel => exact ⟨j + 1, by omega, by go_num, Lib.hid (by rw [HNX.out.1, HNX.out.2.1, HNX.out.2.2]; exact T7.out)⟩
            case measure => simp [intOf]; omega
          · exact absurd (show z = 0 by omega) hnz
      · have HNX : Hid ((zs.take (j + 1)).map (sz1 id) = tl ++ [(q : Int)] ∧ sgn (zs.take (j + 1)) = sl ++ sg1 z ∧ eL id (zs.take (j + 1)) = el) := Lib.hid ⟨by rw [hn1]; unfold sz1; rw [if_neg h11, hq], hn2', by rw [hn3', if_neg h11, List.append_nil]⟩
        have h11b : ((id : Int) == 11) = false := by simp [h11]
        clear h11 hls1 hls2 hls3 hls0 hn1 hn2' hn3 hn3' hz hq heq htl hsl hel
        by_cases hz1 : z < 0
        · have e : sg1 z = [1] := by unfold sg1; rw [if_pos hz1]
          rw [e] at HNX
          have hz2 : ¬ 0 < z := by omega
          clear e
          go_wp2_with first
            | (go_at_call 93; ((with_reducible refine (H93.out _).mono ?_); rintro e w1 ⟨rfl, hb⟩; have T1 := Lib.hid (T0.out.below hb); clear p0; have p0 := (HBX.out _ T1.out.b).1; clear hb))
            | (at_builtin; refine wpList_app8_at _ rfl (.tmp 33) (.tmp 34) rfl W1.heap.size _ sl rfl (T1.out.al _).os _ [1] rfl (one_src w1 1) (by have := HLS.out; simp; omega) (by have := T1.out.b.size; simp; omega) ?_; intro v2 w2 ho hg hat; have T2 := Lib.hid ((T1.out.al _).pushS ho hg hat); clear p0; have p0 := (HBX.out _ T2.out.b).1; clear ho hg hat)
            | (go_at_call 94; ((with_reducible refine (H94.out _).mono ?_); rintro e w3 ⟨rfl, rfl⟩))
            | (at_builtin; refine wpList_push3_at _ rfl (.tmp 54) (.tmp 56) rfl W1.heap.size _ tl (q : Int) rfl T2.out.ot rfl (by have := HLS.out; omega) T2.out.b.size ?_; intro v7 w7 ho hg hat; have T7 := Lib.hid ((T2.out.al _).pushT ho hg hat); clear ho hg hat)
          go_roundw
          case rel => exact ⟨j + 1, by omega, by go_num, Lib.hid (by rw [HNX.out.1, HNX.out.2.1, HNX.out.2.2]; exact T7.out)⟩
          case measure => simp [intOf]; omega
        by_cases hz2 : 0 < z
        · have e : sg1 z = [0] := by unfold sg1; rw [if_neg hz1, if_pos hz2]
          rw [e] at HNX
          clear e
          go_wp2_with first
            | (go_at_call 93; ((with_reducible refine (H93.out _).mono ?_); rintro e w1 ⟨rfl, hb⟩; have T1 := Lib.hid (T0.out.below hb); clear p0; have p0 := (HBX.out _ T1.out.b).1; clear hb))
            | (at_builtin; refine wpList_app8_at _ rfl (.tmp 38) (.tmp 39) rfl W1.heap.size _ sl rfl (T1.out.al _).os _ [0] rfl (one_src w1 0) (by have := HLS.out; simp; omega) (by have := T1.out.b.size; simp; omega) ?_; intro v2 w2 ho hg hat; have T2 := Lib.hid ((T1.out.al _).pushS ho hg hat); clear p0; have p0 := (HBX.out _ T2.out.b).1; clear ho hg hat)
            | (go_at_call 94; ((with_reducible refine (H94.out _).mono ?_); rintro e w3 ⟨rfl, rfl⟩))
            | (at_builtin; refine wpList_push3_at _ rfl (.tmp 54) (.tmp 56) rfl W1.heap.size _ tl (q : Int) rfl T2.out.ot rfl (by have := HLS.out; omega) T2.out.b.size ?_; intro v7 w7 ho hg hat; have T7 := Lib.hid ((T2.out.al _).pushT ho hg hat); clear ho hg hat)
          go_roundw
          case rel => exact ⟨j + 1, by omega, by go_num, Lib.hid (by rw [HNX.out.1, HNX.out.2.1, HNX.out.2.2]; exact T7.out)⟩
          case measure => simp [intOf]; omega
        · have e : sg1 z = [] := by unfold sg1; rw [if_neg hz1, if_neg hz2]
          rw [e, List.append_nil] at HNX
          clear e
          go_wp2_with first
            | (go_at_call 93; ((with_reducible refine (H93.out _).mono ?_); rintro e w1 ⟨rfl, hb⟩; have T1 := Lib.hid (T0.out.below hb); clear p0; have p0 := (HBX.out _ T1.out.b).1; clear hb))
            | (go_at_call 94; ((with_reducible refine (H94.out _).mono ?_); rintro e w3 ⟨rfl, rfl⟩))
            | (at_builtin; refine wpList_push3_at _ rfl (.tmp 54) (.tmp 56) rfl W1.heap.size _ tl (q : Int) rfl T1.out.ot rfl (by have := HLS.out; omega) T1.out.b.size ?_; intro v7 w7 ho hg hat; have T7 := Lib.hid ((T1.out.al _).pushT ho hg hat); clear ho hg hat)
          go_roundw
          case rel => exact ⟨j + 1, by omega, by go_num, Lib.hid (by rw [HNX.out.1, HNX.out.2.1, HNX.out.2.2]; exact T7.out)⟩
          case measure => simp [intOf]; omega
    · have hend : j = n := by omega
      subst hend
      have ht : zs.take j = zs := List.take_of_length_le (by rw [HNN.out]; omega)
      rw [ht] at T0
      have HTL := Lib.hid T0.out.ot.rd
      rw [← htld.out] at HTL
      have hLL : Hid ((sgn zs).length ≤ 4 ∧ (eL id zs).length ≤ 84) := Lib.hid ⟨by have := sgn_len zs; have := HNN.out; omega, eL_len HBd.out (by have := HNN.out; omega)⟩
      clear ht
      clear p0
      obtain ⟨p0, p1, p2, p3⟩ := HBX.out _ T0.out.b
      go_upto_region 20 with first
        | (go_at_call 23; ((with_reducible refine (H23.out _ _ HTL.out).mono ?_); rintro e w1 ⟨rfl, hb⟩; have T1 := Lib.hid (T0.out.below hb); clear p0 p1 p2 p3; obtain ⟨p0, p1, p2, p3⟩ := HBX.out _ T1.out.b; have k1 := HC2.out _ (bT HB.out T1.out.b); clear hb))
      have Td := Lib.hid (T1.out.below (Below.refl w1.heap.size w1).drew)
      have Q0 := Lib.hid (HBX.out _ Td.out.b)
      have k2 := HC2.out _ (bT HB.out Td.out.b)
      go_region_held3 (fun w' => (w'.cell? ⟨w.heap.size, 0, none⟩ = some (.int .i64 (id : Int)) ∧ w'.cell? ⟨w.heap.size, 1, none⟩ = some (.int .i64 (pl id)) ∧ w'.cell? ⟨w.heap.size, 2, none⟩ = some (.slice a1 n1 c1) ∧ w'.cell? ⟨w.heap.size, 3, none⟩ = some (.slice (some ⟨b2, off2, none⟩) n2 c2)) ∧ w'.cell? ⟨b2, off2 + n0, none⟩ = some (.int .i64 r0))
        (first
          | with_reducible exact ⟨Q0.out, k2⟩
          | with_reducible exact ⟨⟨p0, p1, p2, p3⟩, k1⟩
          | with_reducible exact ⟨Q2.out, k3⟩)
        (first
          | (go_at_call 62; ((with_reducible refine (H62.out _).mono ?_); rintro e w2 ⟨v2, rfl, ho, hb⟩; have T2 := Lib.hid (Td.out.below hb); have Q2 := Lib.hid (HBX.out _ T2.out.b); have k3 := HC2.out _ (bT HB.out T2.out.b); have O2 := Lib.hid (own8_rebase ho Td.out.b.size); have AP2 := Lib.hid (ap_fresh ho Td.out.oe); clear ho hb)))
      clear p0 p1 p2 p3
      obtain ⟨p0, p1, p2, p3⟩ := Q2.out
      go_wp2_with first
        | (at_builtin; refine wpList_append_src _ rfl (.tmp 73) (.tmp 74) rfl W1.heap.size _ C rfl O2.out _ (sgn zs) rfl (own_src T2.out.os) (by have := hLL.out; omega) T2.out.b.size ?_; intro v3 w3 ho hg _; have O3 := Lib.hid ho; have E3 := Lib.hid (own_src (own_far T2.out.oe hg (fun g e1 e2 => AP2.out g e2 e1))); have B3 := Lib.hid (Go.Proofs.YteklahfgplbmcaaDoor.Cr.below_grown T2.out.b O2.out (Nat.le_refl _) hg); clear ho hg)
        | (at_builtin; refine wpList_append_src _ rfl (.tmp 76) (.tmp 77) rfl W1.heap.size _ _ rfl O3.out _ (eL id zs) rfl E3.out (by have := hLL.out; rw [List.length_append]; omega) B3.out.size ?_; intro v4 w4 ho hg _; have O4 := Lib.hid ho; have B4 := Lib.hid (Go.Proofs.YteklahfgplbmcaaDoor.Cr.below_grown B3.out O3.out (Nat.le_refl _) hg); clear ho hg)
      go_ret
      exact ⟨_, rfl, by have := own8_rebase O4.out HB.out.size; rw [List.append_assoc] at this; exact this, bT HB.out B4.out⟩
end Go.Proofs.YteklahfgplbmcaaDoor.Hf

/- The document's Bits, of a book with signs. -/
namespace Go.Proofs.YteklahfgplbmcaaDoor.Hf
open Go Go.ChangeShapes Go.WideShapes Go.ChangeAt Go.RowKit Go.Proofs.YteklahfgplbmcaaDoor.Bk Go.Proofs.YteklahfgplbmcaaDoor.Bi Go.Proofs.YteklahfgplbmcaaDoor.Cr Go.Proofs.YteklahfgplbmcaaDoor.Fx
open Go.Proofs.YteklahfgplbmcaaDoor.BkRf Go.Proofs.YteklahfgplbmcaaDoor.BkPx

set_option maxRecDepth 100000 in
set_option maxHeartbeats 16000000 in
theorem rbits68_s (id n0 r0 : Nat) (a1 : Option Addr) (n1 c1 b2 off2 n2 c2 : Nat) (v : Value) (zs : List Int) (w : World) (i1 : 1 ≤ id) (i2 : id ≤ 11) (hsg : sgd id = true) (hr : Rd w v zs) (hl : zs.length ≤ 4) (hb : ∀ z ∈ zs, -8191 ≤ z ∧ z ≤ 8191)
    (hx : entX id (tld id zs) = 0) (hn : entI id (tld id zs) = n0) (hn2 : n0 < n2) (hb2 : b2 < w.heap.size) (hc2 : w.cell? ⟨b2, off2 + n0, none⟩ = some (.int .i64 r0)) (hr0 : r0 < 289) :
    Calls Tryd.prog 68 #[.agg #[.int .i64 id, .int .i64 (pl id), .slice a1 n1 c1, .slice (some ⟨b2, off2, none⟩) n2 c2], v] w fun e w' => ∃ v', e = .returned v' ∧ Cr.Own w.heap.size w' v' (cd (pl id) r0 ++ ((if sgd id then [] else sgn zs) ++ eL id zs)) ∧ Below w.heap.size w w' := by
  obtain ⟨A, cap, rfl, hA⟩ := hr.open
  have HB := Lib.hid (al w (.cells #[.int .i64 id, .int .i64 (pl id), .slice a1 n1 c1, .slice (some ⟨b2, off2, none⟩) n2 c2] 24))
  have HBX := Lib.hid (fun x h => bx1 (w := w) (a := .int .i64 (id : Int)) (b := .int .i64 (pl id)) (c := .slice a1 n1 c1) (d := .slice (some ⟨b2, off2, none⟩) n2 c2) (x := x) h)
  have H93 := Lib.hid (fun x => rsigned_ok id x i1 i2)
  have H23 : Hid (∀ x t, Rd x t (tld id zs) → Calls Tryd.prog 23 #[.int .i64 id, t] x fun e w' => e = .returned (.tuple #[.int .i64 n0, .int .i64 0]) ∧ Below x.heap.size x w') := Lib.hid fun x t h => by
    have q := rentry_ok id t (tld id zs) x i1 (by omega) h
    rwa [hx, hn] at q
  have H62 := Lib.hid (fun x => rcode_ok (pl id) r0 x (facts i1 (by omega : id ≤ 12)).2.2.2.2.2.1 hr0)
  have HC2 : Hid (∀ x, Below w.heap.size w x → x.cell? ⟨b2, off2 + n0, none⟩ = some (.int .i64 r0)) := Lib.hid fun x h => (h.cell (p := ⟨b2, off2 + n0, none⟩) hb2).trans hc2
  have hcdl : (cd (pl id) r0).length ≤ 1000 := by
    rw [cd_len]
    have := dg_le (n := r0 / 2 ^ pl id + 1) (d := 9) (Nat.le_add_left 1 _) (by have := Nat.div_le_self r0 (2 ^ pl id); omega)
    have := (facts i1 (by omega : id ≤ 12)).2.2.2.2.2.1
    omega
  have HA := Lib.hid hA
  have HBd := Lib.hid hb
  obtain ⟨n, hnn⟩ : ∃ n, zs.length = n := ⟨_, rfl⟩
  have HNN := Lib.hid hnn
  have n0I : (n0 : Int) < (n2 : Int) := by omega
  rw [hsg] at H93 ⊢
  have htld : Hid (tld id zs = zs) := Lib.hid (by unfold tld; rw [hsg]; rfl)
  have hel : eL id zs = [] := by
    unfold eL
    rw [if_neg (fun h => by
      obtain rfl : id = 11 := by omega
      exact absurd hsg (by decide))]
  rw [hel]
  simp only [if_true, List.append_nil]
  clear hel
  rw [hnn] at hl ⊢
  clear hA hnn hr hb hx hn hc2
  obtain ⟨C, hC⟩ : ∃ C, cd (pl id) r0 = C := ⟨_, rfl⟩
  rw [hC] at H62 hcdl ⊢
  clear hC
  go_enter Tryd.func68, Tryd.ntmps68
  go_wp2
  generalize hW : w.alloc (.cells #[.int .i64 id, .int .i64 (pl id), .slice a1 n1 c1, .slice (some ⟨b2, off2, none⟩) n2 c2] 24) = W1 at *
  have p0 := (HBX.out _ (Below.refl _ _)).1
  go_loopw [5, 6, 7, 8] (fun t s e i wr => ∃ j : Nat, j ≤ n ∧ i = .int .i64 j ∧ s = .slice none 0 0 ∧ e = .slice none 0 0 ∧ Hid (Fx.Own W1.heap.size wr t (zs.take j)) ∧ Hid (Below W1.heap.size W1 wr)) (fun _ _ _ i _ => n - (intOf i).toNat)
  case atStart => exact ⟨0, by omega, rfl, rfl, rfl, Lib.hid (by simpa using Fx.own_nil W1 W1.heap.size), Lib.hid (Below.refl _ _)⟩
  case round =>
    obtain ⟨j, hj, rfl, rfl, rfl, O0, B0⟩ := hrel
    clear p0
    have p0 := (HBX.out _ B0.out).1
    by_cases hlt : j < n
    · obtain ⟨b, off, rfl, hb, c1'⟩ := HA.out j (by rw [HNN.out]; exact hlt)
      have c1 := ((bT HB.out B0.out).cell (p := ⟨b, off + j, none⟩) hb).trans c1'
      have hst : Hid (zs.take (j + 1) = zs.take j ++ [zs.getD j 0]) := Lib.hid (by rw [List.take_add_one, List.getElem?_eq_getElem (by rw [HNN.out]; exact hlt)]; simp [HNN.out, hlt])
      have hls0 : Hid ((zs.take j).length ≤ 100000) := Lib.hid (by rw [List.length_take]; omega)
      clear c1'
      obtain ⟨z, hz⟩ : ∃ z, zs.getD j 0 = z := ⟨_, rfl⟩
      rw [hz] at c1 hst
      generalize htl : zs.take j = tl at *
      clear hz htl
      go_wp2_with first
        | (go_at_call 93; ((with_reducible refine (H93.out _).mono ?_); rintro e w1 ⟨rfl, hb⟩; have O1 := Lib.hid (O0.out.below hb); have B1 := Lib.hid (bT B0.out hb); clear hb))
        | (at_builtin; refine wpList_push3 _ rfl (.tmp 27) (.tmp 29) rfl W1.heap.size _ tl z rfl O1.out rfl hls0.out B1.out.size ?_; intro v7 w7 ho hg; have O7 := Lib.hid ho; have B7 := Lib.hid (Fx.below_grown (al_b B1.out) (World.ownsRow.alloc O1.out _) (Nat.le_refl _) hg); clear ho hg)
      go_roundw
      case rel => exact ⟨j + 1, by omega, by go_num, rfl, rfl, Lib.hid (by rw [hst.out]; exact O7.out), B7⟩
      case measure => simp [intOf]; omega
    · have hend : j = n := by omega
      subst hend
      have ht : zs.take j = zs := List.take_of_length_le (by rw [HNN.out]; omega)
      rw [ht] at O0
      have HTL := Lib.hid O0.out.rd
      rw [← htld.out] at HTL
      have SN := Lib.hid src_nil
      clear ht p0
      obtain ⟨p0, p1, p2, p3⟩ := HBX.out _ B0.out
      go_upto_region 20 with first
        | (go_at_call 23; ((with_reducible refine (H23.out _ _ HTL.out).mono ?_); rintro e w1 ⟨rfl, hb⟩; have B1 := Lib.hid (bT B0.out hb); clear p0 p1 p2 p3; obtain ⟨p0, p1, p2, p3⟩ := HBX.out _ B1.out; have k1 := HC2.out _ (bT HB.out B1.out); clear hb))
      have Bd := Lib.hid (bT B1.out (Below.refl w1.heap.size w1).drew)
      have Q0 := Lib.hid (HBX.out _ Bd.out)
      have k2 := HC2.out _ (bT HB.out Bd.out)
      go_region_held3 (fun w' => (w'.cell? ⟨w.heap.size, 0, none⟩ = some (.int .i64 (id : Int)) ∧ w'.cell? ⟨w.heap.size, 1, none⟩ = some (.int .i64 (pl id)) ∧ w'.cell? ⟨w.heap.size, 2, none⟩ = some (.slice a1 n1 c1) ∧ w'.cell? ⟨w.heap.size, 3, none⟩ = some (.slice (some ⟨b2, off2, none⟩) n2 c2)) ∧ w'.cell? ⟨b2, off2 + n0, none⟩ = some (.int .i64 r0))
        (first
          | with_reducible exact ⟨Q0.out, k2⟩
          | with_reducible exact ⟨⟨p0, p1, p2, p3⟩, k1⟩
          | with_reducible exact ⟨Q2.out, k3⟩)
        (first
          | (go_at_call 62; ((with_reducible refine (H62.out _).mono ?_); rintro e w2 ⟨v2, rfl, ho, hb⟩; have B2 := Lib.hid (bT Bd.out hb); have Q2 := Lib.hid (HBX.out _ B2.out); have k3 := HC2.out _ (bT HB.out B2.out); have O2 := Lib.hid (own8_rebase ho Bd.out.size); clear ho hb)))
      clear p0 p1 p2 p3
      obtain ⟨p0, p1, p2, p3⟩ := Q2.out
      go_wp2_with first
        | (at_builtin; refine wpList_append_src _ rfl (.tmp 73) (.tmp 74) rfl W1.heap.size _ C rfl O2.out _ [] rfl (SN.out _) (by simp only [List.length_nil, List.length_append]; omega) B2.out.size ?_; intro v3 w3 ho hg _; have O3 := Lib.hid ho; have B3 := Lib.hid (Go.Proofs.YteklahfgplbmcaaDoor.Cr.below_grown B2.out O2.out (Nat.le_refl _) hg); clear ho hg)
        | (at_builtin; refine wpList_append_src _ rfl (.tmp 76) (.tmp 77) rfl W1.heap.size _ _ rfl O3.out _ [] rfl (SN.out _) (by simp only [List.length_nil, List.length_append]; omega) B3.out.size ?_; intro v4 w4 ho hg _; have O4 := Lib.hid ho; have B4 := Lib.hid (Go.Proofs.YteklahfgplbmcaaDoor.Cr.below_grown B3.out O3.out (Nat.le_refl _) hg); clear ho hg)
      go_ret
      exact ⟨_, rfl, by have := own8_rebase O4.out HB.out.size; simpa using this, bT HB.out B4.out⟩
end Go.Proofs.YteklahfgplbmcaaDoor.Hf

/- The document's Put and Cost. -/
namespace Go.Proofs.YteklahfgplbmcaaDoor.Hf
open Go Go.ChangeShapes Go.WideShapes Go.ChangeAt Go.RowKit Go.Proofs.YteklahfgplbmcaaDoor.Bk Go.Proofs.YteklahfgplbmcaaDoor.Bi Go.Proofs.YteklahfgplbmcaaDoor.Cr Go.Proofs.YteklahfgplbmcaaDoor.Fx

open Go.Proofs.YteklahfgplbmcaaDoor.BkRf Go.Proofs.YteklahfgplbmcaaDoor.BkPx Go.Proofs.YteklahfgplbmcaaDoor.BkEn
set_option maxRecDepth 100000 in
theorem rbits_any (id : Nat) (a1 a2 : Option Addr) (n1 c1 c2 : Nat) (v : Value) (zs : List Int) (w : World) (i1 : 1 ≤ id) (i2 : id ≤ 11) (r2 : Rd w (.slice a2 (rkL id).length c2) (rkL id)) (rv : Rd w v zs) (hx : eX id zs = 0) :
    Calls Tryd.prog 68 #[.agg #[.int .i64 id, .int .i64 (pl id), .slice a1 n1 c1, .slice a2 (rkL id).length c2], v] w fun e w' => ∃ v', e = .returned v' ∧ Cr.Own w.heap.size w' v' (vZ id (pl id) (zi (ord id)) (rkL id) zs) ∧ Below w.heap.size w w' := by
  obtain ⟨n, hn, hvs, _, hZ, hzl, hzb⟩ := vZ_of i1 i2 hx
  obtain ⟨l0, l1, _⟩ := lims i1 i2
  have hz8 : ∀ z ∈ zs, -8191 ≤ z ∧ z ≤ 8191 := fun z hz => by have := hzb z hz; omega
  have hz4 : zs.length ≤ 4 := by rw [hzl]; exact (facts i1 (by omega : id ≤ 12)).2.2.2.2.1
  obtain ⟨id', n', e', _, _, _, _, _, _, hvs', ex, en⟩ := eE_ok hx
  obtain rfl : id' = id := by omega
  have hnn : n' = n := by
    have q1 := ent_of (id := id') i1 (by omega) hn
    rw [hvs, en] at q1
    have := q1.1
    omega
  subst hnn
  have hm : n' < (rkL id').length := by rw [rkL_len]; exact hn
  obtain ⟨b, off, e, hlb, hc⟩ := rd_at r2 hm
  subst e
  rw [rkL_get hn] at hc
  have hr0 : rk id' n' < 289 := Nat.lt_of_lt_of_le ((ord_is i1 (by omega : id' ≤ 12)).rank hn).1 (facts i1 (by omega : id' ≤ 12)).2.2.2.2.2.2.2.1
  rw [hZ]
  cases hsg : sgd (id' : Int)
  · have q := rbits68_u id' n' (rk id' n') a1 n1 c1 b off (rkL id').length c2 v zs w i1 i2 hsg rv hz4 hz8 ex en hm hlb hc hr0
    rw [hsg] at q
    exact q
  · have q := rbits68_s id' n' (rk id' n') a1 n1 c1 b off (rkL id').length c2 v zs w i1 i2 hsg rv hz4 hz8 ex en hm hlb hc hr0
    rw [hsg] at q
    exact q
theorem eX_cases {id : Nat} (i1 : 1 ≤ id) (i2 : id ≤ 11) (zs : List Int) : eX id zs = if zs.length ≠ dm id then 4 else if fitB id zs then 0 else 2 := by
  unfold eX; rw [if_neg (by omega), Int.toNat_natCast]
set_option maxRecDepth 100000 in
set_option maxHeartbeats 8000000 in
theorem rput_any (vb : Value) (zb : List Int) (i p : Int) (a1 a2 : Option Addr) (c1 c2 : Nat) (A B : List Int) (v : Value) (zs : List Int) (w : World) (hA : A.length ≤ maxLen) (hB : B.length ≤ maxLen) (r1 : Rd w (.slice a1 A.length c1) A) (r2 : Rd w (.slice a2 B.length c2) B) (rv : Rd w v zs) (hl : zs.length ≤ maxLen) (sb : Src8 w vb zb) (lb : zb.length ≤ 20000) :
    Calls Tryd.prog 31 #[vb, .agg #[.int .i64 i, .int .i64 p, .slice a1 A.length c1, .slice a2 B.length c2], v] w fun e w' => ∃ v', e = .returned (.tuple #[v', .int .i64 (vX i p A B zs)]) ∧ Cr.Own w.heap.size w' v' (pZ zb i p A B zs) ∧ Below w.heap.size w w' := by
  have HB := Lib.hid (al w (.cells #[.int .i64 i, .int .i64 p, .slice a1 A.length c1, .slice a2 B.length c2] 24))
  have HX := Lib.hid (fun x h => bx1 (w := w) (a := .int .i64 i) (b := .int .i64 p) (c := .slice a1 A.length c1) (d := .slice a2 B.length c2) (x := x) h)
  obtain ⟨p0, p1, p2, p3⟩ := HX.out _ (Below.refl _ _)
  have H66 := Lib.hid (fun x (h : Below w.heap.size w x) => rasked_ok i p a1 a2 c1 c2 A B x hA hB (r1.below h) (r2.below h))
  by_cases ha : aX i p A B = 0
  · have hk : IsBk i p A B := by
      by_cases hk : IsBk i p A B
      · exact hk
      · unfold aX at ha; rw [if_neg hk] at ha; exact absurd ha (by decide)
    have h12 : ¬ i = 12 := by
      intro h
      unfold aX at ha
      rw [if_pos hk, if_pos h] at ha; exact absurd ha (by decide)
    obtain ⟨id, rfl, i1, i2', rfl, y1, y2, y3, y4, rfl, rfl⟩ := isbk_nn hk
    clear y1 y2 y3 y4
    have i2 : id ≤ 11 := by omega
    rw [ha] at H66
    have hvX : vX id (pl id) (zi (ord id)) (rkL id) zs = eX id zs := by unfold vX; rw [if_pos hk]
    have hpz : pZ zb id (pl id) (zi (ord id)) (rkL id) zs = if eX id zs = 0 then zb ++ vZ id (pl id) (zi (ord id)) (rkL id) zs else [] := by unfold pZ; rw [hvX]
    rw [hvX, hpz, eX_cases i1 i2]
    have H58 := Lib.hid (fun x => dim_ok (id : Int) x (by omega) (by omega))
    simp only [Int.toNat_natCast] at H58
    have H67 := Lib.hid (fun x (h : Below w.heap.size w x) => rfit_ok id v zs x i1 i2 hl (rv.below h))
    have hex := eX_cases i1 i2 zs
    have H68g : eX id zs = 0 → ∀ x, Below w.heap.size w x → Calls Tryd.prog 68 #[.agg #[.int .i64 id, .int .i64 (pl id), .slice a1 (zi (ord id)).length c1, .slice a2 (rkL id).length c2], v] x fun e w' => ∃ v', e = .returned v' ∧ Cr.Own x.heap.size w' v' (vZ id (pl id) (zi (ord id)) (rkL id) zs) ∧ Below x.heap.size x w' := fun hx x h => rbits_any id a1 a2 _ c1 c2 v zs x i1 i2 (r2.below h) (rv.below h) hx
    have hzl := vZ_len id (pl id) (zi (ord id)) (rkL id) zs
    obtain ⟨A0, cap0, hve, _⟩ := rv.open
    have SB := Lib.hid sb
    by_cases hd : zs.length = dm id
    · rw [if_neg (by simp [hd])] at hex ⊢
      cases hf : fitB (id : Int) zs
      · rw [hf] at H67
        simp only [Bool.false_eq_true, if_false]
        rw [if_neg (by decide)]
        rw [← hd] at H58
        clear ha hk h12 hvX hpz hex H68g hzl hd hf hA hB r1 r2 rv hl sb lb
        subst hve
        generalize zs.length = n at *
        generalize (zi (ord id)).length = m1 at *
        generalize (rkL id).length = m2 at *
        generalize (id : Int) = I at *
        go_enter Tryd.func31, Tryd.ntmps31
        go_wp2_with first
          | (go_at_call 66; ((with_reducible refine (H66.out _ HB.out).mono ?_); rintro e w1 ⟨rfl, hb⟩; have B1 := Lib.hid (bT HB.out hb); have X1 := Lib.hid hb; clear p0 p1 p2 p3; obtain ⟨p0, p1, p2, p3⟩ := HX.out _ X1.out; clear hb))
          | (go_at_call 58; ((with_reducible refine (H58.out _).mono ?_); rintro e w9 ⟨rfl, rfl⟩))
          | (go_at_call 67; ((with_reducible refine (H67.out _ B1.out).mono ?_); rintro e w2 ⟨rfl, hb⟩; have B2 := Lib.hid (bT B1.out hb); have X2 := Lib.hid (bT X1.out hb); clear p0 p1 p2 p3; obtain ⟨p0, p1, p2, p3⟩ := HX.out _ X2.out; clear hb))
        go_ret2
        exact ⟨_, rfl, own8n _ _, B2.out⟩
      · rw [hf] at H67 hex
        simp only [if_true] at hex
        have H68 := Lib.hid (H68g hex)
        simp only [if_true]
        rw [← hd] at H58
        clear ha hk h12 hvX hpz hex H68g hd hf hA hB r1 r2 rv hl sb
        subst hve
        generalize vZ id (pl id) (zi (ord id)) (rkL id) zs = Z at *
        have HLn : Hid (zb.length ≤ 20000 ∧ Z.length ≤ 120) := Lib.hid ⟨lb, hzl⟩
        clear lb hzl
        generalize zs.length = n at *
        generalize (zi (ord id)).length = m1 at *
        generalize (rkL id).length = m2 at *
        generalize (id : Int) = I at *
        go_enter Tryd.func31, Tryd.ntmps31
        go_wp2_with first
          | (go_at_call 66; ((with_reducible refine (H66.out _ HB.out).mono ?_); rintro e w1 ⟨rfl, hb⟩; have B1 := Lib.hid (bT HB.out hb); have X1 := Lib.hid hb; clear p0 p1 p2 p3; obtain ⟨p0, p1, p2, p3⟩ := HX.out _ X1.out; clear hb))
          | (go_at_call 58; ((with_reducible refine (H58.out _).mono ?_); rintro e w9 ⟨rfl, rfl⟩))
          | (go_at_call 67; ((with_reducible refine (H67.out _ B1.out).mono ?_); rintro e w2 ⟨rfl, hb⟩; have B2 := Lib.hid (bT B1.out hb); have X2 := Lib.hid (bT X1.out hb); clear p0 p1 p2 p3; obtain ⟨p0, p1, p2, p3⟩ := HX.out _ X2.out; clear hb))
          | (at_builtin; refine wpList_append_src _ rfl (.tmp 26) (.tmp 27) rfl w.heap.size _ [] rfl (own8n w.heap.size w2) _ zb rfl (SB.out.below B2.out) (by have := HLn.out; simp only [List.length_nil]; omega) B2.out.size ?_; intro v3 w3 ho hg _; have O3 := Lib.hid ho; have B3 := Lib.hid (Go.Proofs.YteklahfgplbmcaaDoor.Cr.below_grown B2.out (own8n w.heap.size w2) (Nat.le_refl _) hg); have K3 := Lib.hid (keep_grown X2.out (own8n w.heap.size w2) hg (by simp [Value.ownBlock])); clear p0 p1 p2 p3; obtain ⟨p0, p1, p2, p3⟩ := K3.out; clear ho hg)
          | (go_at_call 68; ((with_reducible refine (H68.out _ B3.out).mono ?_); rintro e w4 ⟨v4, rfl, ho, hb⟩; have S4 := Lib.hid (own_src ho); have O4 := Lib.hid (Cr.Own.below O3.out hb); have B4 := Lib.hid (bT B3.out hb); clear ho hb))
          | (at_builtin; refine wpList_append_src _ rfl (.tmp 29) (.tmp 32) rfl w.heap.size _ _ rfl O4.out _ Z rfl S4.out (by have := HLn.out; simp only [List.length_append, List.length_nil]; omega) B4.out.size ?_; intro v5 w5 ho hg _; have O5 := Lib.hid ho; have B5 := Lib.hid (Go.Proofs.YteklahfgplbmcaaDoor.Cr.below_grown B4.out O4.out (Nat.le_refl _) hg); clear ho hg)
        go_ret2
        exact ⟨_, rfl, by have := O5.out; simpa using this, B5.out⟩
    · rw [if_pos (by simp [hd])]
      rw [if_neg (by decide)]
      have hne : ((zs.length : Int) == ((dm id : Nat) : Int)) = false := by simp; omega
      have hne2 : ¬ (zs.length : Int) = ((dm id : Nat) : Int) := by omega
      clear ha hk h12 hvX hpz hex H68g hzl hd hA hB r1 r2 rv hl sb lb H67
      subst hve
      generalize zs.length = n at *
      generalize (zi (ord id)).length = m1 at *
      generalize (rkL id).length = m2 at *
      generalize dm id = d at *
      generalize (id : Int) = I at *
      go_enter Tryd.func31, Tryd.ntmps31
      go_wp2_with first
        | (go_at_call 66; ((with_reducible refine (H66.out _ HB.out).mono ?_); rintro e w1 ⟨rfl, hb⟩; have B1 := Lib.hid (bT HB.out hb); have X1 := Lib.hid hb; clear p0 p1 p2 p3; obtain ⟨p0, p1, p2, p3⟩ := HX.out _ X1.out; clear hb))
        | (go_at_call 58; ((with_reducible refine (H58.out _).mono ?_); rintro e w9 ⟨rfl, rfl⟩))
      go_ret2
      exact ⟨_, rfl, own8n _ _, B1.out⟩
  · have hv : vX i p A B zs = aX i p A B := by
      unfold vX aX at *
      by_cases hk : IsBk i p A B
      · rw [if_pos hk] at ha ⊢
        rw [if_pos hk]
        by_cases h12 : i = 12
        · rw [if_pos h12]; unfold eX; rw [if_pos (by omega)]
        · rw [if_neg h12] at ha; exact absurd rfl ha
      · rw [if_neg hk, if_neg hk]
    have hpz : pZ zb i p A B zs = [] := by unfold pZ; rw [if_neg (by rw [hv]; exact ha)]
    rw [hv, hpz]
    have hab : (aX i p A B == 0) = false := by simp [ha]
    generalize aX i p A B = X at *
    clear hv hpz hA hB r1 r2 rv hl sb lb
    go_enter Tryd.func31, Tryd.ntmps31
    go_wp2_with first
      | (go_at_call 66; ((with_reducible refine (H66.out _ HB.out).mono ?_); rintro e w1 ⟨rfl, hb⟩; have B1 := Lib.hid (bT HB.out hb); have X1 := Lib.hid hb; clear p0 p1 p2 p3; obtain ⟨p0, p1, p2, p3⟩ := HX.out _ X1.out; clear hb))
    go_ret2
    exact ⟨_, rfl, own8n _ _, B1.out⟩
set_option maxRecDepth 100000 in
theorem rcost_any (i p : Int) (a1 a2 : Option Addr) (c1 c2 : Nat) (A B : List Int) (v : Value) (zs : List Int) (w : World) (hA : A.length ≤ maxLen) (hB : B.length ≤ maxLen) (r1 : Rd w (.slice a1 A.length c1) A) (r2 : Rd w (.slice a2 B.length c2) B) (rv : Rd w v zs) (hl : zs.length ≤ maxLen) :
    Calls Tryd.prog 35 #[.agg #[.int .i64 i, .int .i64 p, .slice a1 A.length c1, .slice a2 B.length c2], v] w fun e w' => e = .returned (.tuple #[.int .i64 ((vZ i p A B zs).length : Nat), .int .i64 (vX i p A B zs)]) ∧ Below w.heap.size w w' := by
  have HB := Lib.hid (al w (.cells #[.int .i64 i, .int .i64 p, .slice a1 A.length c1, .slice a2 B.length c2] 24))
  obtain ⟨p0, p1, p2, p3⟩ := bx1 (w := w) (a := .int .i64 i) (b := .int .i64 p) (c := .slice a1 A.length c1) (d := .slice a2 B.length c2) (Below.refl _ _)
  have H31 : Hid (∀ x, Below w.heap.size w x → Calls Tryd.prog 31 #[.slice none 0 0, .agg #[.int .i64 i, .int .i64 p, .slice a1 A.length c1, .slice a2 B.length c2], v] x fun e w' => ∃ v', e = .returned (.tuple #[v', .int .i64 (vX i p A B zs)]) ∧ Cr.Own x.heap.size w' v' (vZ i p A B zs) ∧ Below x.heap.size x w') := Lib.hid fun x h => (rput_any (.slice none 0 0) [] i p a1 a2 c1 c2 A B v zs x hA hB (r1.below h) (r2.below h) (rv.below h) hl (src_nil x) (by decide)).mono fun e w' ⟨v', h1, h2, h3⟩ => ⟨v', h1, by
    have e : pZ [] i p A B zs = vZ i p A B zs := by
      unfold pZ
      by_cases c : vX i p A B zs = 0
      · rw [if_pos c, List.nil_append]
      · rw [if_neg c]; unfold vZ; rw [if_neg c]
    rwa [e] at h2, h3⟩
  generalize vX i p A B zs = X at *
  generalize vZ i p A B zs = Z at *
  clear hA hB r1 r2 rv hl
  go_enter Tryd.func35, Tryd.ntmps35
  go_wp2_with first
    | (go_at_call 31; ((with_reducible refine (H31.out _ HB.out).mono ?_); rintro e w1 ⟨v1, rfl, ho1, hb⟩; obtain ⟨a9, c9, rfl⟩ := (own_src ho1).shape; have B1 := Lib.hid (bT HB.out hb); clear ho1 hb))
  go_ret2
  exact ⟨rfl, B1.out⟩
end Go.Proofs.YteklahfgplbmcaaDoor.Hf

/- The document's escape, read. -/
namespace Go.Proofs.YteklahfgplbmcaaDoor.Hf
open Go Go.ChangeShapes Go.WideShapes Go.ChangeAt Go.RowKit Go.Proofs.YteklahfgplbmcaaDoor.Bk Go.Proofs.YteklahfgplbmcaaDoor.Bi Go.Proofs.YteklahfgplbmcaaDoor.Cr Go.Proofs.YteklahfgplbmcaaDoor.Fx

open Go.Proofs.YteklahfgplbmcaaDoor.BkPx Go.Proofs.YteklahfgplbmcaaDoor.BkRf
theorem rd1_0 (z : List Int) (A : Int) (s : Nat) : rd1 z A 0 s = getF z A s := by unfold rd1; rw [if_pos rfl]
set_option maxRecDepth 100000 in
set_option maxHeartbeats 4000000 in
theorem rescaped_ok (v : Value) (z : List Int) (A : Int) (w : World) (hv : R8 w v z) (hz : ∀ x ∈ z, 0 ≤ x ∧ x ≤ 255) (hl : z.length ≤ 20000) :
    Calls Tryd.prog 98 #[v, .int .i64 A] w fun e w' => (∃ x y, e = .returned (.tuple #[.int .i64 x, .int .i64 y, .int .i64 (gO z 9 0 A 0).2.2]) ∧ ((gO z 9 0 A 0).2.2 = 0 → x = (gO z 9 0 A 0).1 ∧ y = (gO z 9 0 A 0).2.1)) ∧ w = w' := by
  have HG := Lib.hid (fun (A : Int) (s : Nat) (h : s ≤ 31) => rget_all v z A s w hv hz hl h)
  have H2 := Lib.hid (fun (s : Nat) (h : s ≤ 31) => two_ok s w h)
  have HNm := Lib.hid (fun (A : Int) (s : Nat) (h : (getF z A s).2.2 = 0) => getF_num h)
  have HBad := Lib.hid (fun (A : Int) (s : Nat) (h : (getF z A s).2.2 ≠ 0) => getF_bad h)
  have HF : Hid (∀ (f k : Nat) (A E : Int), gO z (f + 1) k A E = if (rd1 z A E 1).1 = 1 then gO z f (k + 1) (rd1 z A E 1).2.1 (rd1 z A E 1).2.2 else (2 ^ (k + 4) + (rd1 z (rd1 z A E 1).2.1 (rd1 z A E 1).2.2 (k + 4)).1, (rd1 z (rd1 z A E 1).2.1 (rd1 z A E 1).2.2 (k + 4)).2)) := Lib.hid fun f k A E => rfl
  have H0 : Hid (∀ (k : Nat) (A E : Int), gO z 0 k A E = (0, A, 8)) := Lib.hid fun k A E => rfl
  have HErr : Hid (∀ (A E : Int) (s : Nat), E ≠ 0 → rd1 z A E s = (0, A, E)) := Lib.hid fun A E s h => rd1_err h
  have H10 := Lib.hid (fun A s => rd1_0 z A s)
  obtain ⟨T, hT⟩ : ∃ T, gO z 9 0 A 0 = T := ⟨_, rfl⟩
  rw [hT]
  have HT := Lib.hid hT
  obtain ⟨a0, n0, c0, rfl⟩ : ∃ a0 n0 c0, v = .slice a0 n0 c0 := by obtain ⟨a, c, h⟩ := (r8_src hv).shape; exact ⟨a, _, c, h⟩
  clear hv hz hl hT
  go_enter Tryd.func98, Tryd.ntmps98
  go_wp2
  go_loopw [1, 7] (fun a m wr => ∃ (k : Nat) (A1 : Int), k ≤ 8 ∧ a = .int .i64 A1 ∧ m = .int .i64 k ∧ w = wr ∧ Hid (gO z (9 - k) k A1 0 = T)) (fun _ m _ => 9 - (intOf m).toNat)
  case atStart => exact ⟨0, A, by omega, rfl, rfl, rfl, HT⟩
  case round =>
    obtain ⟨k, A1, hk, rfl, rfl, rfl, hh⟩ := hrel
    have hTT := hh.out
    have HGB : Hid (Calls Tryd.prog 88 #[.slice a0 n0 c0, .int .i64 A1, .int .i64 1] w fun e w' => e = T3 (getF z A1 1) ∧ w = w') := Lib.hid (HG.out A1 1 (by decide))
    rw [show 9 - k = (8 - k) + 1 by omega, HF.out, H10.out] at hTT
    have hnm := HNm.out A1 1
    have hbad := HBad.out A1 1
    generalize getF z A1 1 = Q at *
    obtain ⟨b, A2, E2⟩ := Q
    simp only [T3] at HGB
    simp only at hTT hnm hbad
    by_cases hE : E2 = 0
    · subst hE
      have hnm2 := hnm rfl
      clear hnm hbad
      by_cases hb1 : b = 1
      · subst hb1
        rw [if_pos rfl] at hTT
        by_cases h8 : k = 8
        · subst h8
          rw [show 8 - 8 = 0 from rfl, H0.out] at hTT
          have HH : Hid (T.2.2 = 8) := Lib.hid (by rw [← hTT])
          clear hh hTT hnm2
          go_wp2_with (go_at_call 88; ((with_reducible refine (HGB.out).mono ?_); rintro e w2 ⟨rfl, rfl⟩))
          go_ret3
          exact ⟨⟨0, 0, by rw [HH.out]; first | done | rfl, fun h => absurd (HH.out.symm.trans h) (by decide)⟩, rfl⟩
        · have HH : Hid (gO z (9 - (k + 1)) (k + 1) A2 0 = T) := Lib.hid (by rw [show 9 - (k + 1) = 8 - k by omega]; exact hTT)
          clear hh hTT hnm2
          go_wp2_with (go_at_call 88; ((with_reducible refine (HGB.out).mono ?_); rintro e w2 ⟨rfl, rfl⟩))
          go_roundw
          case rel => exact ⟨k + 1, A2, by omega, rfl, by go_num, trivial, HH⟩
          case measure => simp [intOf]; omega
      · have hb0 : b = 0 := by omega
        subst hb0
        rw [if_neg (by decide), H10.out] at hTT
        obtain ⟨kk, hkk⟩ : ∃ kk, k + 4 = kk := ⟨_, rfl⟩
        have hkw : IntKind.i64.wrap ((k : Int) + 4) = (kk : Int) := by rw [IntKind.wrap_i64]; omega
        rw [hkk] at hTT
        obtain ⟨p1, p2⟩ := pw (k := kk) (by omega)
        have HGk := Lib.hid (HG.out A2 kk (by omega))
        have H2k := Lib.hid (H2.out kk (by omega))
        have hnm3 := HNm.out A2 kk
        have hbad3 := HBad.out A2 kk
        generalize getF z A2 kk = Q at *
        obtain ⟨m, A3, E3⟩ := Q
        simp only [T3] at HGk
        simp only at hTT hnm3 hbad3
        obtain ⟨P, hP⟩ : ∃ P : Int, (2 : Int) ^ kk = P := ⟨_, rfl⟩
        rw [hP] at hTT p1 p2 H2k hnm3
        have hm : 0 ≤ m ∧ m < P := by
          by_cases h : E3 = 0
          · exact hnm3 h
          · have := hbad3 h
            simp only [Prod.mk.injEq] at this
            omega
        have hSw : IntKind.i64.wrap (m + P) = P + m := by rw [IntKind.wrap_i64]; omega
        have HT2 := Lib.hid hTT
        clear hh hTT hkk hnm3 hbad3 hnm2 hP
        go_wp2_with first
          | (go_at_call 88; ((with_reducible refine (HGB.out).mono ?_); rintro e w2 ⟨rfl, rfl⟩))
          | (go_at_call 88; ((with_reducible refine (HGk.out).mono ?_); rintro e w2 ⟨rfl, rfl⟩))
          | (go_at_call 85; ((with_reducible refine (H2k.out).mono ?_); rintro e w2 ⟨rfl, rfl⟩))
        go_ret3
        exact ⟨⟨_, _, by rw [← HT2.out]; first | done | rfl, fun _ => by rw [← HT2.out]; exact ⟨rfl, rfl⟩⟩, rfl⟩
    · have hq := hbad hE
      simp only [Prod.mk.injEq, and_true] at hq
      obtain ⟨rfl, rfl⟩ := hq
      rw [if_neg (by decide), HErr.out _ _ _ hE] at hTT
      have HH : Hid (T.2.2 = E2) := Lib.hid (by rw [← hTT])
      have hEb : (E2 == 0) = false := by simp [hE]
      clear hh hTT hnm hbad
      go_wp2_with (go_at_call 88; ((with_reducible refine (HGB.out).mono ?_); rintro e w2 ⟨rfl, rfl⟩))
      go_ret3
      exact ⟨⟨0, 0, by rw [HH.out]; first | done | rfl, fun h => absurd (HH.out.symm.trans h) hE⟩, rfl⟩
end Go.Proofs.YteklahfgplbmcaaDoor.Hf

/- Two lists side by side, one written into; what the document reads, plain. -/
namespace Go.Proofs.YteklahfgplbmcaaDoor.Hf
open Go Go.ChangeShapes Go.WideShapes Go.ChangeAt Go.RowKit Go.Proofs.YteklahfgplbmcaaDoor.Bk Go.Proofs.YteklahfgplbmcaaDoor.Bi Go.Proofs.YteklahfgplbmcaaDoor.Cr Go.Proofs.YteklahfgplbmcaaDoor.Fx

open Go.Proofs.YteklahfgplbmcaaDoor.BkPx Go.Proofs.YteklahfgplbmcaaDoor.BkRf
/-- The values in a block of their own, the signs beside them. -/
structure VS (w0 x : World) (g cap : Nat) (l : List Int) (s : Value) (sl : List Int) : Prop where
  row : ∃ f, x.rowIs g 3 cap f ∧ l.length ≤ cap ∧ cap ≤ maxLen ∧ ∀ k, k < l.length → f k = .int .i64 (l.getD k 0)
  g0 : w0.heap.size ≤ g
  os : Fx.Own w0.heap.size x s sl
  d : s.ownBlock ≠ some g
  b : Below w0.heap.size w0 x
theorem VS.cell {w0 x : World} {g cap : Nat} {l : List Int} {s : Value} {sl : List Int} (h : VS w0 x g cap l s sl) {j : Nat} (hj : j < l.length) : x.cell? ⟨g, j, none⟩ = some (.int .i64 (l.getD j 0)) ∧ x.frozen? ⟨g, j, none⟩ = false := by
  obtain ⟨f, hr, h1, h2, h3⟩ := h.row
  exact ⟨by rw [hr.cell (by omega), h3 j hj], hr.frozen j⟩
theorem VS.lt {w0 x : World} {g cap : Nat} {l : List Int} {s : Value} {sl : List Int} (h : VS w0 x g cap l s sl) : g < x.heap.size := by
  obtain ⟨f, hr, _⟩ := h.row
  exact hr.lt
theorem VS.below {w0 x y : World} {g cap : Nat} {l : List Int} {s : Value} {sl : List Int} (h : VS w0 x g cap l s sl) (hb : Below x.heap.size x y) : VS w0 y g cap l s sl := by
  have hlt := h.lt
  obtain ⟨f, hr, h1⟩ := h.row
  exact ⟨⟨f, hr.of_block (hb.block g hlt), h1⟩, h.g0, h.os.below hb, h.d, bT h.b hb⟩
theorem VS.al {w0 x : World} {g cap : Nat} {l : List Int} {s : Value} {sl : List Int} (h : VS w0 x g cap l s sl) (o : Obj) : VS w0 (x.alloc o) g cap l s sl := h.below (Bk.al x o)
theorem below_set {w0 x : World} {g j : Nat} (v : Value) (h : Below w0.heap.size w0 x) (hg : w0.heap.size ≤ g) : Below w0.heap.size w0 (x.setCell ⟨g, j, none⟩ v) :=
  ⟨h.os, h.tape, h.output, Nat.le_trans h.size (by simp [World.setCell]), fun k hk => (Below.heap_setCell x ⟨g, j, none⟩ v k (by show k ≠ g; omega)).trans (h.block k hk)⟩
theorem VS.set {w0 x : World} {g cap : Nat} {d l : List Int} {v : Int} {s : Value} {sl : List Int} (h : VS w0 x g cap (d ++ v :: l) s sl) (u : Int) : VS w0 (x.setCell ⟨g, d.length, none⟩ (.int .i64 u)) g cap (d ++ u :: l) s sl := by
  have hlt := h.lt
  obtain ⟨f, hr, h1, h2, h3⟩ := h.row
  refine ⟨⟨_, hr.set d.length (.int .i64 u), by simpa using h1, h2, fun k hk => ?_⟩, h.g0, ?_, h.d, below_set _ h.b h.g0⟩
  · by_cases hkd : k = d.length
    · subst hkd; rw [if_pos rfl]; simp
    · rw [if_neg hkd, h3 k (by simpa using hk)]
      by_cases hlt : k < d.length
      · simp [List.getElem?_append, hlt]
      · obtain ⟨m, rfl⟩ : ∃ m, k = d.length + (m + 1) := ⟨k - d.length - 1, by omega⟩
        simp [List.getElem?_append]
  · obtain ⟨hx, h4 | ⟨gs, cs, cur, rfl, g1, g2, g3⟩⟩ := h.os
    · exact ⟨hx, .inl h4⟩
    · exact ⟨hx, .inr ⟨gs, cs, cur, rfl, g1, (Fx.heap_other (a := g) (i := d.length) (.int .i64 u) (fun e => h.d (by rw [e]; rfl))).trans g2, g3⟩⟩
theorem VS.push {w0 x y : World} {g cap : Nat} {l : List Int} {s s' : Value} {sl sl' : List Int} (h : VS w0 x g cap l s sl) (ho : Fx.Own w0.heap.size y s' sl') (hg : x.grownBy y s.ownBlock) (hat : s'.ownBlock = s.ownBlock ∨ s'.ownBlock = some x.heap.size) : VS w0 y g cap l s' sl' := by
  have hlt := h.lt
  obtain ⟨f, hr, h1⟩ := h.row
  refine ⟨⟨f, hr.of_block (hg.block g hlt (fun e => h.d e.symm)), h1⟩, h.g0, ho, ?_, Fx.below_grown h.b h.os (Nat.le_refl _) hg⟩
  rcases hat with e | e
  · rw [e]; exact h.d
  · rw [e]; intro q; simp at q; omega
theorem VS.sopen {w0 x : World} {g cap : Nat} {l : List Int} {s : Value} {sl : List Int} (h : VS w0 x g cap l s sl) (hn : 1 ≤ sl.length) : ∃ gs cs, s = .slice (some ⟨gs, 0, none⟩) sl.length cs := by
  obtain ⟨hx, ⟨_, h4⟩ | ⟨gs, cs, cur, rfl, g1, g2, g3⟩⟩ := h.os
  · omega
  · exact ⟨gs, cs, rfl⟩
theorem VS.scell {w0 x : World} {g cap gs n cs : Nat} {l : List Int} {sl : List Int} (h : VS w0 x g cap l (.slice (some ⟨gs, 0, none⟩) n cs) sl) {j : Nat} (hj : j < sl.length) : x.cell? ⟨gs, j, none⟩ = some (.int .i64 (sl.getD j 0)) := by
  have := @World.ownsRow.cells _ _ _ _ _ _ _ h.os gs rfl j (.int .i64 (sl.getD j 0)) (by simp [hj])
  rw [Fx.add_at, Nat.zero_add] at this
  exact this
theorem VS.rd {w0 x : World} {g cap : Nat} {l : List Int} {s : Value} {sl : List Int} (h : VS w0 x g cap l s sl) : Rd x (.slice (some ⟨g, 0, none⟩) l.length cap) l := by
  have hlt := h.lt
  have hc := fun j hj => (h.cell (j := j) hj).1
  obtain ⟨f, hr, h1, h2, h3⟩ := h.row
  exact .inr ⟨g, 0, cap, rfl, hlt, h1, h2, fun i hi => by rw [Nat.zero_add]; exact hc i hi⟩
theorem vs_new {w1 x y : World} {v : Value} {vs : List Int} (ho : Own3 x.heap.size y v vs) (hn : 1 ≤ vs.length) (h1 : Below w1.heap.size w1 x) (hb : Below x.heap.size x y) : ∃ g cap, v = .slice (some ⟨g, 0, none⟩) vs.length cap ∧ VS w1 y g cap vs (.slice none 0 0) [] := by
  have hcells := @World.ownsRow.cells _ _ _ _ _ _ _ ho
  obtain ⟨hx, ⟨_, h4⟩ | ⟨g, cap, cur, rfl, hg, hh, hc, hm, hs, ht⟩⟩ := ho
  · omega
  · have hr : y.rowIs g 3 cap (fun k => (cur[k]?).getD (.int .i64 0)) := ⟨cur, hh, by omega, fun i hi => by simp [show i < cur.size from by omega]⟩
    refine ⟨g, cap, rfl, ⟨⟨_, hr, hc, hm, fun k hk => ?_⟩, Nat.le_trans h1.size hg, Fx.own_nil _ _, (by intro e; cases e), bT h1 hb⟩⟩
    have h5 := hcells rfl k (.int .i64 (vs.getD k 0)) (by simp [hk])
    rw [Fx.add_at, Nat.zero_add, hr.cell (by omega)] at h5
    exact Option.some.inj h5
/-- What the document makes of a value and a sign. -/
def tn (v s : Int) : Int := if s = 1 then -v else v
noncomputable def gY (I : Int) (z l : List Int) (A E : Int) : List Int × Int × Int := if I = 11 then gX z l A E else (l, A, E)
noncomputable def eR (T : List Int × Int × Int) : List Int × Int × Int := if T.2.2 ≠ 0 then ([], 0, T.2.2) else T
theorem eR_err {T : List Int × Int × Int} {E : Int} (h : T.2.2 = E) (he : E ≠ 0) : eR T = ([], 0, E) := by unfold eR; rw [if_pos (by rw [h]; exact he), h]
theorem eR_ok {T : List Int × Int × Int} (h : T.2.2 = 0) : eR T = T := by unfold eR; rw [if_neg (by rw [h]; simp)]
theorem gY_err {I : Int} {z l : List Int} {A E : Int} (h : E ≠ 0) : (gY I z l A E).2.2 = E := by
  unfold gY
  split
  · exact gX_err z l A E h
  · rfl
theorem gY_nil (I : Int) (z : List Int) (A E : Int) : gY I z [] A E = ([], A, E) := by unfold gY; split <;> rfl
theorem gY_one {I : Int} {z l : List Int} {u A E : Int} (h : ¬ (I = 11 ∧ (u = 16 ∨ u = -16))) : gY I z (u :: l) A E = (u :: (gY I z l A E).1, (gY I z l A E).2) := by
  unfold gY
  by_cases h1 : I = 11
  · simp only [if_pos h1]
    rw [gX, if_neg (fun e => h ⟨h1, .inl e⟩), if_neg (fun e => h ⟨h1, .inr e⟩)]
  · simp only [if_neg h1]
theorem gY_esc {z l : List Int} {s A E : Int} : gY 11 z (tn 16 s :: l) A E = (tn (gO z 9 0 A E).1 s :: (gY 11 z l (gO z 9 0 A E).2.1 (gO z 9 0 A E).2.2).1, (gY 11 z l (gO z 9 0 A E).2.1 (gO z 9 0 A E).2.2).2) := by
  unfold gY tn
  simp only [if_true]
  by_cases h : s = 1
  · simp only [if_pos h]; rw [gX, if_neg (by decide), if_pos rfl]
  · simp only [if_neg h]; rw [gX, if_pos rfl]
end Go.Proofs.YteklahfgplbmcaaDoor.Hf

/- The document's Read. -/
namespace Go.Proofs.YteklahfgplbmcaaDoor.Hf
open Go Go.ChangeShapes Go.WideShapes Go.ChangeAt Go.RowKit Go.Proofs.YteklahfgplbmcaaDoor.Bk Go.Proofs.YteklahfgplbmcaaDoor.Bi Go.Proofs.YteklahfgplbmcaaDoor.Cr Go.Proofs.YteklahfgplbmcaaDoor.Fx

open Go.Proofs.YteklahfgplbmcaaDoor.BkPx Go.Proofs.YteklahfgplbmcaaDoor.BkRf
theorem snoc_at {P : Int → Int → Int → Prop} {d sl vs : List Int} {j : Nat} {x b : Int} (hd : d.length = j) (hs : sl.length = j) (h : ∀ k, k < j → P (d.getD k 0) (vs.getD k 0) (sl.getD k 0)) (hx : P x (vs.getD j 0) b) : ∀ k, k < j + 1 → P ((d ++ [x]).getD k 0) (vs.getD k 0) ((sl ++ [b]).getD k 0) := by
  intro k hk
  by_cases hkj : k = j
  · subst hkj
    have e1 : (d ++ [x]).getD k 0 = x := by simp [hd]
    have e2 : (sl ++ [b]).getD k 0 = b := by simp [hs]
    rw [e1, e2]; exact hx
  · have e1 : (d ++ [x]).getD k 0 = d.getD k 0 := by simp [List.getElem?_append, hd, show k < j by omega]
    have e2 : (sl ++ [b]).getD k 0 = sl.getD k 0 := by simp [List.getElem?_append, hs, show k < j by omega]
    rw [e1, e2]; exact h k (by omega)
theorem VS.mid {w0 x : World} {g cap k : Nat} {d l : List Int} {v : Int} {s : Value} {sl : List Int} (h : VS w0 x g cap (d ++ v :: l) s sl) (hd : d.length = k) : x.cell? ⟨g, k, none⟩ = some (.int .i64 v) ∧ x.frozen? ⟨g, k, none⟩ = false ∧ ∀ u, VS w0 (x.setCell ⟨g, k, none⟩ (.int .i64 u)) g cap (d ++ u :: l) s sl := by
  subst hd
  obtain ⟨q1, q2⟩ := h.cell (j := d.length) (by simp)
  refine ⟨?_, q2, fun u => h.set u⟩
  rw [q1]; simp
theorem tn_16 {v s : Int} (h : 0 ≤ v) (h2 : tn v s = 16 ∨ tn v s = -16) : v = 16 := by
  unfold tn at h2
  split at h2 <;> omega
set_option maxRecDepth 100000 in
set_option maxHeartbeats 8000000 in
theorem rread_u (I p nx n0 t : Int) (a1 a2 : Option Addr) (m1 m2 c1 c2 n : Nat) (vs z : List Int) (vb : Value) (w : World)
    (h63 : ∀ x, Below w.heap.size w x → Calls Tryd.prog 63 #[.agg #[.int .i64 I, .int .i64 p, .slice a1 m1 c1, .slice a2 m2 c2], vb, .int .i64 t] x fun e w' => e = T3 (n0, nx, 0) ∧ Below x.heap.size x w')
    (h57 : ∀ x, Calls Tryd.prog 57 #[.int .i64 I, .int .i64 n0] x fun e w' => ∃ v, e = .returned v ∧ Own3 x.heap.size w' v vs ∧ Below x.heap.size x w')
    (h93 : ∀ x, Calls Tryd.prog 93 #[.int .i64 I] x fun e w' => e = .returned (.bool false) ∧ Below x.heap.size x w')
    (hn : vs.length = n) (n1 : 1 ≤ n) (n4 : n ≤ 4) (hb : ∀ v ∈ vs, 0 ≤ v ∧ v ≤ 1000) (hv : R8 w vb z) (hz : ∀ x ∈ z, 0 ≤ x ∧ x ≤ 255) (hl : z.length ≤ 20000) (S T : List Int × Int × Int) (hS : gS z vs nx 0 = S) (hT : gY I z S.1 S.2.1 S.2.2 = T) :
    Calls Tryd.prog 73 #[vb, .int .i64 t, .agg #[.int .i64 I, .int .i64 p, .slice a1 m1 c1, .slice a2 m2 c2]] w fun e w' => ∃ v, e = .returned (.tuple #[v, .int .i64 (eR T).2.1, .int .i64 (eR T).2.2]) ∧ Rd w' v (eR T).1 ∧ Below w.heap.size w w' := by
  obtain ⟨a0, m0, c0, rfl⟩ : ∃ a0 m0 c0, vb = .slice a0 m0 c0 := by obtain ⟨a, c, h⟩ := (r8_src hv).shape; exact ⟨a, _, c, h⟩
  obtain ⟨W1, hW1⟩ : ∃ W1, w.alloc (.cells #[.int .i64 I, .int .i64 p, .slice a1 m1 c1, .slice a2 m2 c2] 24) = W1 := ⟨_, rfl⟩
  have HB0 := Lib.hid (al w (.cells #[.int .i64 I, .int .i64 p, .slice a1 m1 c1, .slice a2 m2 c2] 24))
  have HX := Lib.hid (fun x h => bx1 (w := w) (a := .int .i64 I) (b := .int .i64 p) (c := .slice a1 m1 c1) (d := .slice a2 m2 c2) (x := x) h)
  rw [hW1] at HB0 HX
  obtain ⟨p0, p1, p2, p3⟩ := HX.out _ (Below.refl _ _)
  have B1 := Lib.hid (Below.refl W1.heap.size W1)
  have H63 := Lib.hid (fun x (h : Below W1.heap.size W1 x) => h63 x (bT HB0.out h))
  simp only [T3] at H63
  have H57 := Lib.hid h57
  have H93 := Lib.hid h93
  have HN := Lib.hid hn
  have HBd := Lib.hid hb
  have HG : Hid (∀ (A : Int) (x : World), Below W1.heap.size W1 x → Calls Tryd.prog 88 #[.slice a0 m0 c0, .int .i64 A, .int .i64 1] x fun e w' => e = T3 (getF z A 1) ∧ x = w') := Lib.hid (fun (A : Int) x h => rget_all (.slice a0 m0 c0) z A 1 x (hv.below (bT HB0.out h)) hz hl (by decide))
  have HE : Hid (∀ (A : Int) (x : World), Below W1.heap.size W1 x → Calls Tryd.prog 98 #[.slice a0 m0 c0, .int .i64 A] x fun e w' => (∃ x y, e = .returned (.tuple #[.int .i64 x, .int .i64 y, .int .i64 (gO z 9 0 A 0).2.2]) ∧ ((gO z 9 0 A 0).2.2 = 0 → x = (gO z 9 0 A 0).1 ∧ y = (gO z 9 0 A 0).2.1)) ∧ x = w') := Lib.hid (fun (A : Int) x h => rescaped_ok (.slice a0 m0 c0) z A x (hv.below (bT HB0.out h)) hz hl)
  have HBO := Lib.hid (fun A => gO_bd z A 0)
  have HBad := Lib.hid (fun (A : Int) (h : (getF z A 1).2.2 ≠ 0) => getF_bad h)
  have H10 := Lib.hid (fun A => rd1_0 z A 1)
  have HS := Lib.hid hS
  have HT := Lib.hid hT
  clear h63 h57 h93 hb hv hz hl hS hT hn
  go_enter Tryd.func73, Tryd.ntmps73
  go_upto_region 1 with fail
  clear hW1
  go_upto_region 7 with first
    | (go_at_call 63; ((with_reducible refine (H63.out _ B1.out).mono ?_); rintro e w1 ⟨rfl, hb⟩; have B2 := Lib.hid (bT B1.out hb); clear p0 p1 p2 p3; obtain ⟨p0, p1, p2, p3⟩ := HX.out _ B2.out; clear hb))
    | (go_at_call 57; ((with_reducible refine (H57.out _).mono ?_); rintro e w2 ⟨v2, rfl, ho, hb⟩; obtain ⟨g, cap, rfl, vsn⟩ := vs_new ho (by rw [HN.out]; exact n1) B2.out hb; have V2 := Lib.hid vsn; clear p0 p1 p2 p3; obtain ⟨p0, p1, p2, p3⟩ := HX.out _ V2.out.b; clear ho hb vsn))
    | (go_at_call 93; ((with_reducible refine (H93.out _).mono ?_); rintro e w3 ⟨rfl, hb⟩; have V3 := Lib.hid (V2.out.below hb); clear p0 p1 p2 p3; obtain ⟨p0, p1, p2, p3⟩ := HX.out _ V3.out.b; clear hb))
  clear H63 H57 H93
  rw [HN.out]
  go_wp2
  go_loopw [10, 13, 14] (fun a s i wr => ∃ (j : Nat) (A1 : Int) (d sl : List Int), j ≤ n ∧ a = .int .i64 A1 ∧ i = .int .i64 j ∧ sl.length = j ∧ Hid (d.length = j ∧ S = (d ++ (gS z (vs.drop j) A1 0).1, (gS z (vs.drop j) A1 0).2) ∧ ∀ k, k < j → d.getD k 0 = tn (vs.getD k 0) (sl.getD k 0)) ∧ Hid (VS W1 wr g cap vs s sl)) (fun _ _ i _ => n - (intOf i).toNat)
  case atStart => exact ⟨0, nx, [], [], by omega, rfl, rfl, rfl, Lib.hid ⟨rfl, by rw [List.drop_zero, HS.out]; rfl, fun k hk => absurd hk (Nat.not_lt_zero k)⟩, V3⟩
  case round =>
    obtain ⟨j, A1, d, sl, hj, rfl, rfl, hsl, hh, VW⟩ := hrel
    obtain ⟨hd, hSS, hdt⟩ := hh.out
    by_cases hlt : j < n
    · have hdc := drop_cons (l := vs) (j := j) (by rw [HN.out]; exact hlt)
      have hvb := HBd.out (vs.getD j 0) (by rw [List.getD_eq_getElem?_getD, List.getElem?_eq_getElem (by rw [HN.out]; exact hlt)]; exact List.getElem_mem _)
      obtain ⟨q1, q2⟩ := VW.out.cell (j := j) (by rw [HN.out]; exact hlt)
      have hsn := fun (x b : Int) (hx : x = tn (vs.getD j 0) b) => snoc_at (P := fun a b c => a = tn b c) (x := x) (b := b) hd hsl hdt hx
      obtain ⟨v, hvv⟩ : ∃ v, vs.getD j 0 = v := ⟨_, rfl⟩
      rw [hvv] at hdc hvb q1 hsn
      rw [hdc] at hSS
      by_cases h0 : v = 0
      · subst h0
        rw [gS, if_pos rfl] at hSS
        have HH : Hid ((d ++ [0]).length = j + 1 ∧ S = ((d ++ [0]) ++ (gS z (vs.drop (j + 1)) A1 0).1, (gS z (vs.drop (j + 1)) A1 0).2) ∧ ∀ k, k < j + 1 → (d ++ [0]).getD k 0 = tn (vs.getD k 0) ((sl ++ [0]).getD k 0)) := Lib.hid ⟨by simp [hd], by rw [hSS]; simp, hsn 0 0 (by unfold tn; simp)⟩
        clear hh hd hSS hdt hdc hvv hsn
        go_wp2_with (at_builtin; refine wpList_push3_at _ rfl (.tmp 58) (.tmp 60) rfl (W1.heap.size) _ sl 0 rfl VW.out.os rfl (by omega) VW.out.b.size ?_; intro v7 w7 ho hg hat; have V7 := Lib.hid ((VW.out.al _).push ho hg hat); clear ho hg hat)
        go_roundw
        case rel => exact ⟨j + 1, A1, d ++ [0], sl ++ [0], by omega, rfl, by go_num, by simp [hsl], HH, V7⟩
        case measure => simp [intOf]; omega
      · rw [gS, if_neg h0, H10.out] at hSS
        have h0g : 0 < v := by omega
        have HGB := Lib.hid (HG.out A1)
        have hbad := HBad.out A1
        generalize getF z A1 1 = Q at *
        obtain ⟨b, A2, E2⟩ := Q
        simp only [T3] at HGB
        simp only at hSS hbad
        by_cases hE : E2 = 0
        · subst hE
          have HH : Hid ((d ++ [tn v b]).length = j + 1 ∧ S = ((d ++ [tn v b]) ++ (gS z (vs.drop (j + 1)) A2 0).1, (gS z (vs.drop (j + 1)) A2 0).2) ∧ ∀ k, k < j + 1 → (d ++ [tn v b]).getD k 0 = tn (vs.getD k 0) ((sl ++ [b]).getD k 0)) := Lib.hid ⟨by simp [hd], by rw [hSS]; simp [tn], hsn _ b rfl⟩
          clear hh hd hSS hdt hdc hvv hsn hbad
          go_wp2_with first
            | (go_at_call 88; ((with_reducible refine (HGB.out _ VW.out.b).mono ?_); rintro e w4 ⟨rfl, rfl⟩))
            | (at_builtin; refine wpList_push3_at _ rfl (.tmp 58) (.tmp 60) rfl (W1.heap.size) _ sl b rfl VW.out.os rfl (by omega) VW.out.b.size ?_; intro v7 w7 ho hg hat; have V7 := Lib.hid ((VW.out.al _).push ho hg hat); clear ho hg hat)
          go_roundw
          case rel => exact ⟨j + 1, A2, d ++ [tn v b], sl ++ [b], by omega, rfl, by go_num, by simp [hsl], HH, V7⟩
          case measure => simp [intOf]; omega
        · have hSe : S.2.2 = E2 := by rw [hSS]; exact gS_err z _ _ _ hE
          have HR : Hid (eR T = ([], 0, E2)) := Lib.hid (by
            refine eR_err ?_ hE
            rw [← HT.out, hSe]
            exact gY_err hE)
          have hEb : (E2 == 0) = false := by simp [hE]
          have hEn : (E2 != 0) = true := by simp [hE]
          clear hh hd hSS hdt hdc hvv hsn hbad hSe
          go_wp2_with (go_at_call 88; ((with_reducible refine (HGB.out _ VW.out.b).mono ?_); rintro e w4 ⟨rfl, rfl⟩))
          go_ret3
          rw [HR.out]
          exact ⟨_, rfl, nil_rd _ _ _, bT HB0.out VW.out.b⟩
    · have hend : j = n := by omega
      subst hend
      rw [List.drop_eq_nil_of_le (by rw [HN.out]; exact Nat.le_refl _), gS, List.append_nil] at hSS
      have hS1 : S.1 = d := by rw [hSS]
      have hS2 : S.2 = (A1, 0) := by rw [hSS]
      rw [hS1, hS2] at HT
      obtain ⟨gs, cs, rfl⟩ := VW.out.sopen (by rw [hsl]; exact n1)
      have HD := Lib.hid hd
      have HDT := Lib.hid hdt
      have HSL := Lib.hid hsl
      rw [hsl]
      rw [hsl] at VW
      clear hh hd hSS hdt hS1 hS2 hlt
      go_wp2
      go_loopw [10, 16] (fun a i wq => ∃ (k : Nat) (A3 : Int) (f : List Int), k ≤ j ∧ a = .int .i64 A3 ∧ i = .int .i64 k ∧ Hid (f.length = k ∧ T = (f ++ (gY I z (d.drop k) A3 0).1, (gY I z (d.drop k) A3 0).2)) ∧ Hid (VS W1 wq g cap (f ++ vs.drop k) (.slice (some ⟨gs, 0, none⟩) j cs) sl)) (fun _ i _ => j - (intOf i).toNat)
      case atStart => exact ⟨0, A1, [], by omega, rfl, rfl, Lib.hid ⟨rfl, by rw [List.drop_zero]; exact HT.out.symm⟩, by simpa using VW⟩
      case round =>
        obtain ⟨k, A3, f, hk, rfl, rfl, hh, VQ⟩ := hrel
        obtain ⟨hf, hTT⟩ := hh.out
        obtain ⟨p0, p1, p2, p3⟩ := HX.out _ VQ.out.b
        by_cases hlt : k < j
        · have hvc := drop_cons (l := vs) (j := k) (by rw [HN.out]; exact hlt)
          have hdc := drop_cons (l := d) (j := k) (by rw [HD.out]; exact hlt)
          rw [HDT.out k hlt] at hdc
          have hvb := HBd.out (vs.getD k 0) (by rw [List.getD_eq_getElem?_getD, List.getElem?_eq_getElem (by rw [HN.out]; exact hlt)]; exact List.getElem_mem _)
          have q3 := VQ.out.scell (j := k) (by rw [HSL.out]; exact hlt)
          obtain ⟨v, hvv⟩ : ∃ v, vs.getD k 0 = v := ⟨_, rfl⟩
          obtain ⟨s, hss⟩ : ∃ s, sl.getD k 0 = s := ⟨_, rfl⟩
          rw [hvv] at hvc hvb
          rw [hvv, hss] at hdc
          rw [hss] at q3
          rw [hvc] at VQ
          rw [hdc] at hTT
          obtain ⟨q1, q2, hset⟩ := VQ.out.mid hf
          have HSET := Lib.hid hset
          have HF := Lib.hid hf
          have HSs := Lib.hid hss
          clear hset hvc hdc hvv hss hh hf
          by_cases hes : I = 11 ∧ v = 16
          · obtain ⟨h11, h16⟩ := hes
            subst h16
            rw [h11, gY_esc, ← h11] at hTT
            have h11b : (I == 11) = true := by simp [h11]
            clear h11
            have HEB := Lib.hid (HE.out A3)
            have hbo := HBO.out A3
            generalize gO z 9 0 A3 0 = Q at *
            obtain ⟨b, A4, E4⟩ := Q
            simp only at HEB hTT hbo
            by_cases hE : E4 = 0
            · subst hE
              have HTT := Lib.hid hTT
              clear hTT
              go_upto_region 22 with (go_at_call 98; ((with_reducible refine (HEB.out _ VQ.out.b).mono ?_); rintro e w5 ⟨⟨x5, y5, rfl, hxy⟩, rfl⟩; have XY := Lib.hid hxy; clear hxy))
              obtain ⟨rfl, rfl⟩ := XY.out trivial
              have V5 := Lib.hid (HSET.out x5)
              obtain ⟨t1, t2, hset5⟩ := V5.out.mid HF.out
              have t3 := V5.out.scell (j := k) (by rw [HSL.out]; exact hlt)
              rw [HSs.out] at t3
              clear HSs
              by_cases hs1 : s = 1
              · subst hs1
                have HH : Hid ((f ++ [-x5]).length = k + 1 ∧ T = ((f ++ [-x5]) ++ (gY I z (d.drop (k + 1)) y5 0).1, (gY I z (d.drop (k + 1)) y5 0).2)) := Lib.hid ⟨by simp [HF.out], by rw [HTT.out]; simp [tn]⟩
                have V6 : Hid (VS W1 ((wr.setCell ⟨g, k, none⟩ (.int .i64 x5)).setCell ⟨g, k, none⟩ (.int .i64 (-x5))) g cap ((f ++ [-x5]) ++ vs.drop (k + 1)) (.slice (some ⟨gs, 0, none⟩) j cs) sl) := Lib.hid (by simpa using hset5 (-x5))
                have hw : IntKind.i64.wrap (-x5) = -x5 := by rw [IntKind.wrap_i64]; omega
                clear hset5
                go_wp2
                go_roundw
                case rel => exact ⟨k + 1, y5, f ++ [-x5], by omega, rfl, by go_num, HH, V6⟩
                case measure => simp [intOf]; omega
              · have hsb : (s == 1) = false := by simp [hs1]
                have HH : Hid ((f ++ [x5]).length = k + 1 ∧ T = ((f ++ [x5]) ++ (gY I z (d.drop (k + 1)) y5 0).1, (gY I z (d.drop (k + 1)) y5 0).2)) := Lib.hid ⟨by simp [HF.out], by rw [HTT.out]; simp [tn, hs1]⟩
                have V6 : Hid (VS W1 (wr.setCell ⟨g, k, none⟩ (.int .i64 x5)) g cap ((f ++ [x5]) ++ vs.drop (k + 1)) (.slice (some ⟨gs, 0, none⟩) j cs) sl) := Lib.hid (by simpa using V5.out)
                clear hset5
                go_wp2
                go_roundw
                case rel => exact ⟨k + 1, y5, f ++ [x5], by omega, rfl, by go_num, HH, V6⟩
                case measure => simp [intOf]; omega
            · have HR : Hid (eR T = ([], 0, E4)) := Lib.hid (eR_err (by rw [hTT]; exact gY_err hE) hE)
              have HQB := Lib.hid (fun u => (HSET.out u).b)
              have hEb : (E4 == 0) = false := by simp [hE]
              have hEn : (E4 != 0) = true := by simp [hE]
              clear hTT
              go_wp2_with (go_at_call 98; ((with_reducible refine (HEB.out _ VQ.out.b).mono ?_); rintro e w5 ⟨⟨x5, y5, rfl, hxy⟩, rfl⟩; have XY := Lib.hid hxy; clear hxy))
              go_ret3
              rw [HR.out]
              exact ⟨_, rfl, nil_rd _ _ _, bT HB0.out (HQB.out _)⟩
          · rw [gY_one (fun h => hes ⟨h.1, tn_16 hvb.1 h.2⟩)] at hTT
            by_cases hs1 : s = 1
            · subst hs1
              have HH : Hid ((f ++ [-v]).length = k + 1 ∧ T = ((f ++ [-v]) ++ (gY I z (d.drop (k + 1)) A3 0).1, (gY I z (d.drop (k + 1)) A3 0).2)) := Lib.hid ⟨by simp [HF.out], by rw [hTT]; simp [tn]⟩
              have V6 : Hid (VS W1 (wr.setCell ⟨g, k, none⟩ (.int .i64 (-v))) g cap ((f ++ [-v]) ++ vs.drop (k + 1)) (.slice (some ⟨gs, 0, none⟩) j cs) sl) := Lib.hid (by simpa using HSET.out (-v))
              have hw : IntKind.i64.wrap (-v) = -v := by rw [IntKind.wrap_i64]; omega
              clear hTT
              by_cases h11 : I = 11
              · have h16 : (v == 16) = false := by simp; exact fun h => hes ⟨h11, h⟩
                have h11b : (I == 11) = true := by simp [h11]
                clear h11 hes
                go_wp2
                go_roundw
                case rel => exact ⟨k + 1, A3, f ++ [-v], by omega, rfl, by go_num, HH, V6⟩
                case measure => simp [intOf]; omega
              · have h11b : (I == 11) = false := by simp [h11]
                clear h11 hes
                go_wp2
                go_roundw
                case rel => exact ⟨k + 1, A3, f ++ [-v], by omega, rfl, by go_num, HH, V6⟩
                case measure => simp [intOf]; omega
            · have hsb : (s == 1) = false := by simp [hs1]
              have HH : Hid ((f ++ [v]).length = k + 1 ∧ T = ((f ++ [v]) ++ (gY I z (d.drop (k + 1)) A3 0).1, (gY I z (d.drop (k + 1)) A3 0).2)) := Lib.hid ⟨by simp [HF.out], by rw [hTT]; simp [tn, hs1]⟩
              have V6 : Hid (VS W1 wr g cap ((f ++ [v]) ++ vs.drop (k + 1)) (.slice (some ⟨gs, 0, none⟩) j cs) sl) := Lib.hid (by simpa using VQ.out)
              clear hTT
              by_cases h11 : I = 11
              · have h16 : (v == 16) = false := by simp; exact fun h => hes ⟨h11, h⟩
                have h11b : (I == 11) = true := by simp [h11]
                clear h11 hes
                go_wp2
                go_roundw
                case rel => exact ⟨k + 1, A3, f ++ [v], by omega, rfl, by go_num, HH, V6⟩
                case measure => simp [intOf]; omega
              · have h11b : (I == 11) = false := by simp [h11]
                clear h11 hes
                go_wp2
                go_roundw
                case rel => exact ⟨k + 1, A3, f ++ [v], by omega, rfl, by go_num, HH, V6⟩
                case measure => simp [intOf]; omega
        · have hend : k = j := by omega
          subst hend
          rw [List.drop_eq_nil_of_le (by rw [HD.out]; exact Nat.le_refl _), gY_nil, List.append_nil] at hTT
          rw [List.drop_eq_nil_of_le (by rw [HN.out]; exact Nat.le_refl _), List.append_nil] at VQ
          have HR : Hid (eR T = (f, A3, 0)) := Lib.hid (by rw [eR_ok (by rw [hTT]), hTT])
          have hRd := VQ.out.rd
          rw [hf] at hRd
          have HRd := Lib.hid hRd
          clear hh hf hTT hRd
          go_wp2
          go_ret3
          rw [HR.out]
          exact ⟨_, rfl, HRd.out, bT HB0.out VQ.out.b⟩
end Go.Proofs.YteklahfgplbmcaaDoor.Hf

/- The document's Get, of whatever book. -/
namespace Go.Proofs.YteklahfgplbmcaaDoor.Hf
open Go Go.ChangeShapes Go.WideShapes Go.ChangeAt Go.RowKit Go.Proofs.YteklahfgplbmcaaDoor.Bk Go.Proofs.YteklahfgplbmcaaDoor.Bi Go.Proofs.YteklahfgplbmcaaDoor.Cr Go.Proofs.YteklahfgplbmcaaDoor.Fx

open Go.Proofs.YteklahfgplbmcaaDoor.BkPx Go.Proofs.YteklahfgplbmcaaDoor.BkRf
set_option maxRecDepth 100000 in
theorem rread_e (I p er t : Int) (a1 a2 : Option Addr) (m1 m2 c1 c2 : Nat) (vb : Value) (w : World) (he : er ≠ 0)
    (h63 : ∀ x, Below w.heap.size w x → Calls Tryd.prog 63 #[.agg #[.int .i64 I, .int .i64 p, .slice a1 m1 c1, .slice a2 m2 c2], vb, .int .i64 t] x fun e w' => e = T3 (0, 0, er) ∧ Below x.heap.size x w') :
    Calls Tryd.prog 73 #[vb, .int .i64 t, .agg #[.int .i64 I, .int .i64 p, .slice a1 m1 c1, .slice a2 m2 c2]] w fun e w' => ∃ v, e = .returned (.tuple #[v, .int .i64 0, .int .i64 er]) ∧ Rd w' v [] ∧ Below w.heap.size w w' := by
  have HB := Lib.hid (al w (.cells #[.int .i64 I, .int .i64 p, .slice a1 m1 c1, .slice a2 m2 c2] 24))
  have HX := Lib.hid (fun x h => bx1 (w := w) (a := .int .i64 I) (b := .int .i64 p) (c := .slice a1 m1 c1) (d := .slice a2 m2 c2) (x := x) h)
  obtain ⟨p0, p1, p2, p3⟩ := HX.out _ (Below.refl _ _)
  have B1 := Lib.hid (Below.refl (w.alloc (.cells #[.int .i64 I, .int .i64 p, .slice a1 m1 c1, .slice a2 m2 c2] 24)).heap.size (w.alloc (.cells #[.int .i64 I, .int .i64 p, .slice a1 m1 c1, .slice a2 m2 c2] 24)))
  have H63 := Lib.hid (fun x (h : Below (w.alloc (.cells #[.int .i64 I, .int .i64 p, .slice a1 m1 c1, .slice a2 m2 c2] 24)).heap.size (w.alloc (.cells #[.int .i64 I, .int .i64 p, .slice a1 m1 c1, .slice a2 m2 c2] 24)) x) => h63 x (bT HB.out h))
  simp only [T3] at H63
  have hee : (er == 0) = false := by simp [he]
  have hen : (er != 0) = true := by simp [he]
  clear h63 he
  go_enter Tryd.func73, Tryd.ntmps73
  go_wp2_with (go_at_call 63; ((with_reducible refine (H63.out _ B1.out).mono ?_); rintro e w1 ⟨rfl, hb⟩; have B2 := Lib.hid (bT B1.out hb); clear p0 p1 p2 p3; obtain ⟨p0, p1, p2, p3⟩ := HX.out _ B2.out; clear hb))
  go_ret3
  exact ⟨_, rfl, nil_rd _ _ _, bT HB.out B2.out⟩
set_option maxRecDepth 100000 in
theorem rread_s (I p nx n0 t : Int) (a1 a2 : Option Addr) (m1 m2 c1 c2 : Nat) (vs : List Int) (vb : Value) (w : World)
    (h63 : ∀ x, Below w.heap.size w x → Calls Tryd.prog 63 #[.agg #[.int .i64 I, .int .i64 p, .slice a1 m1 c1, .slice a2 m2 c2], vb, .int .i64 t] x fun e w' => e = T3 (n0, nx, 0) ∧ Below x.heap.size x w')
    (h57 : ∀ x, Calls Tryd.prog 57 #[.int .i64 I, .int .i64 n0] x fun e w' => ∃ v, e = .returned v ∧ Own3 x.heap.size w' v vs ∧ Below x.heap.size x w')
    (h93 : ∀ x, Calls Tryd.prog 93 #[.int .i64 I] x fun e w' => e = .returned (.bool true) ∧ Below x.heap.size x w') :
    Calls Tryd.prog 73 #[vb, .int .i64 t, .agg #[.int .i64 I, .int .i64 p, .slice a1 m1 c1, .slice a2 m2 c2]] w fun e w' => ∃ v, e = .returned (.tuple #[v, .int .i64 nx, .int .i64 0]) ∧ Rd w' v vs ∧ Below w.heap.size w w' := by
  have HB := Lib.hid (al w (.cells #[.int .i64 I, .int .i64 p, .slice a1 m1 c1, .slice a2 m2 c2] 24))
  have HX := Lib.hid (fun x h => bx1 (w := w) (a := .int .i64 I) (b := .int .i64 p) (c := .slice a1 m1 c1) (d := .slice a2 m2 c2) (x := x) h)
  obtain ⟨p0, p1, p2, p3⟩ := HX.out _ (Below.refl _ _)
  have B1 := Lib.hid (Below.refl (w.alloc (.cells #[.int .i64 I, .int .i64 p, .slice a1 m1 c1, .slice a2 m2 c2] 24)).heap.size (w.alloc (.cells #[.int .i64 I, .int .i64 p, .slice a1 m1 c1, .slice a2 m2 c2] 24)))
  have H63 := Lib.hid (fun x (h : Below (w.alloc (.cells #[.int .i64 I, .int .i64 p, .slice a1 m1 c1, .slice a2 m2 c2] 24)).heap.size (w.alloc (.cells #[.int .i64 I, .int .i64 p, .slice a1 m1 c1, .slice a2 m2 c2] 24)) x) => h63 x (bT HB.out h))
  simp only [T3] at H63
  have H57 := Lib.hid h57
  have H93 := Lib.hid h93
  clear h63 h57 h93
  go_enter Tryd.func73, Tryd.ntmps73
  go_wp2_with first
    | (go_at_call 63; ((with_reducible refine (H63.out _ B1.out).mono ?_); rintro e w1 ⟨rfl, hb⟩; have B2 := Lib.hid (bT B1.out hb); clear p0 p1 p2 p3; obtain ⟨p0, p1, p2, p3⟩ := HX.out _ B2.out; clear hb))
    | (go_at_call 57; ((with_reducible refine (H57.out _).mono ?_); rintro e w2 ⟨v2, rfl, ho, hb⟩; have O3 := Lib.hid ho; have B3 := Lib.hid (bT B2.out hb); clear p0 p1 p2 p3; obtain ⟨p0, p1, p2, p3⟩ := HX.out _ B3.out; clear ho hb))
    | (go_at_call 93; ((with_reducible refine (H93.out _).mono ?_); rintro e w3 ⟨rfl, hb⟩; have O4 := Lib.hid (O3.out.below hb); have B4 := Lib.hid (bT B3.out hb); clear p0 p1 p2 p3; obtain ⟨p0, p1, p2, p3⟩ := HX.out _ B4.out; clear hb))
  go_ret3
  exact ⟨_, rfl, own3_rd O4.out, bT HB.out B4.out⟩
theorem gT_eq (z : List Int) (I : Int) (vs : List Int) (nx : Int) (h : sgd I = false) : gT z I vs nx = gY I z (gS z vs nx 0).1 (gS z vs nx 0).2.1 (gS z vs nx 0).2.2 := by
  unfold gT gY
  rw [h]
  simp only [Bool.false_eq_true, if_false]
theorem rread_any (vb : Value) (z : List Int) (t : Int) (i p : Int) (a1 a2 : Option Addr) (c1 c2 : Nat) (A B : List Int) (w : World) (hk : IsBk i p A B) (h12 : ¬ i = 12) (r1 : Rd w (.slice a1 A.length c1) A) (hv : R8 w vb z) (hz : ∀ x ∈ z, 0 ≤ x ∧ x ≤ 255) (hl : z.length ≤ 20000) :
    Calls Tryd.prog 73 #[vb, .int .i64 t, .agg #[.int .i64 i, .int .i64 p, .slice a1 A.length c1, .slice a2 B.length c2]] w fun e w' => ∃ v, e = .returned (.tuple #[v, .int .i64 (gV i p A B z t).2.1, .int .i64 (gV i p A B z t).2.2]) ∧ Rd w' v (gV i p A B z t).1 ∧ Below w.heap.size w w' := by
  obtain ⟨a0, c0, rfl⟩ : ∃ a0 c0, vb = .slice a0 z.length c0 := (r8_src hv).shape
  have hkk := hk
  obtain ⟨id, rfl, i1, i2, rfl, rfl, rfl⟩ := hk
  have i11 : id ≤ 11 := by omega
  have lz : (zi (ord id)).length = Nn id := by rw [zi_len, ord_len i1 i2]
  have lr : (rkL id).length = Nn id := rkL_len id
  have hRA := rd_RdA r1
  have hrd0 : rdF (id : Int) (pl id) (zi (ord id)) (rkL id) z t = readF (ord id) (pl id) z t := by unfold rdF; rw [if_pos hkk]; simp only [Int.toNat_natCast]
  have h63 : ∀ x, Below w.heap.size w x → Calls Tryd.prog 63 #[.agg #[.int .i64 id, .int .i64 (pl id), .slice a1 (zi (ord id)).length c1, .slice a2 (rkL id).length c2], .slice a0 z.length c0, .int .i64 t] x fun e w' => e = T3 (rdF (id : Int) (pl id) (zi (ord id)) (rkL id) z t) ∧ Below x.heap.size x w' := fun x h => by
    rw [hrd0, lz, lr]
    exact rfound_any id a1 a2 c1 c2 a0 c0 z t x i1 i2 (hRA.below h) (hv.below h) hz hl
  by_cases her : (rdF (id : Int) (pl id) (zi (ord id)) (rkL id) z t).2.2 = 0
  · obtain ⟨_, id2, n, a, s, e2, _, _, _, hn, _, _, _, hrd⟩ := rdF_ok her
    obtain rfl : id = id2 := by omega
    rw [hrd] at h63
    have e : gV id (pl id) (zi (ord id)) (rkL id) z t = eR (gT z id (vals (bs id) (lw id) (dm id) n) ((a + s : Nat) : Int)) := by
      unfold gV eR
      rw [if_neg h12, if_neg (by rw [her]; simp), hrd]
      simp only [Int.toNat_natCast]
    rw [e]
    have h57 := fun x => of_ok id n x i1 i2 hn
    have h93 := fun x => rsigned_ok id x i1 i11
    have hf := facts i1 (by omega : id ≤ 12)
    have hvl := vals_len (bs id) (lw id) (dm id) n
    cases hsg : sgd (id : Int)
    · rw [hsg] at h93
      have hlo : lw id = 0 := ((lims i1 i11).2.2.2 hsg).1
      have hvb := vals_bd (bs id) (lw id) hf.2.1 (dm id) n
      have hbb : ∀ v ∈ vals (bs id) (lw id) (dm id) n, 0 ≤ v ∧ v ≤ 1000 := fun v hv => by have := hvb v hv; omega
      have hd1 : 1 ≤ dm id := by
        rcases ids i1 i2 with rfl | rfl | rfl | rfl | rfl | rfl | rfl | rfl | rfl | rfl | rfl | rfl <;> decide
      rw [gT_eq z _ _ _ hsg]
      exact rread_u id (pl id) ((a + s : Nat) : Int) n t a1 a2 _ _ c1 c2 (dm id) _ z _ w h63 h57 h93 hvl hd1 hf.2.2.2.2.1 hbb hv hz hl _ _ rfl rfl
    · rw [hsg] at h93
      have h11 : ¬ (id : Int) = 11 := by
        intro h
        have : id = 11 := by omega
        subst this
        exact absurd hsg (by decide)
      have eT : eR (gT z id (vals (bs id) (lw id) (dm id) n) ((a + s : Nat) : Int)) = (vals (bs id) (lw id) (dm id) n, ((a + s : Nat) : Int), 0) := by
        unfold gT; rw [if_neg h11, hsg]; rfl
      rw [eT]
      exact rread_s id (pl id) ((a + s : Nat) : Int) n t a1 a2 _ _ c1 c2 _ _ w h63 h57 h93
  · have e : gV id (pl id) (zi (ord id)) (rkL id) z t = ([], 0, (rdF (id : Int) (pl id) (zi (ord id)) (rkL id) z t).2.2) := by unfold gV; rw [if_neg h12, if_pos her]
    have hbad : rdF (id : Int) (pl id) (zi (ord id)) (rkL id) z t = (0, 0, (rdF (id : Int) (pl id) (zi (ord id)) (rkL id) z t).2.2) := by
      rw [hrd0] at her ⊢
      exact readF_bad her
    rw [e]
    rw [hbad] at h63
    exact rread_e id (pl id) _ t a1 a2 _ _ c1 c2 _ w her h63
set_option maxRecDepth 100000 in
theorem rget33_any (vb : Value) (z : List Int) (t : Int) (i p : Int) (a1 a2 : Option Addr) (c1 c2 : Nat) (A B : List Int) (w : World) (hA : A.length ≤ maxLen) (hB : B.length ≤ maxLen) (r1 : Rd w (.slice a1 A.length c1) A) (r2 : Rd w (.slice a2 B.length c2) B) (hv : R8 w vb z) (hz : ∀ x ∈ z, 0 ≤ x ∧ x ≤ 255) (hl : z.length ≤ 20000) :
    Calls Tryd.prog 33 #[vb, .int .i64 t, .agg #[.int .i64 i, .int .i64 p, .slice a1 A.length c1, .slice a2 B.length c2]] w fun e w' => ∃ v, e = .returned (.tuple #[v, .int .i64 (gV i p A B z t).2.1, .int .i64 (gV i p A B z t).2.2]) ∧ Rd w' v (gV i p A B z t).1 ∧ Below w.heap.size w w' := by
  have HB := Lib.hid (al w (.cells #[.int .i64 i, .int .i64 p, .slice a1 A.length c1, .slice a2 B.length c2] 24))
  have HX := Lib.hid (fun x h => bx1 (w := w) (a := .int .i64 i) (b := .int .i64 p) (c := .slice a1 A.length c1) (d := .slice a2 B.length c2) (x := x) h)
  obtain ⟨p0, p1, p2, p3⟩ := HX.out _ (Below.refl _ _)
  have H66 := Lib.hid (fun x (h : Below w.heap.size w x) => rasked_ok i p a1 a2 c1 c2 A B x hA hB (r1.below h) (r2.below h))
  by_cases ha : aX i p A B = 0
  · have hk : IsBk i p A B := by
      by_cases hk : IsBk i p A B
      · exact hk
      · unfold aX at ha; rw [if_neg hk] at ha; exact absurd ha (by decide)
    have h12 : ¬ i = 12 := by
      intro h
      unfold aX at ha
      rw [if_pos hk, if_pos h] at ha; exact absurd ha (by decide)
    rw [ha] at H66
    have H73 := Lib.hid (fun x (h : Below w.heap.size w x) => rread_any vb z t i p a1 a2 c1 c2 A B x hk h12 (r1.below h) (hv.below h) hz hl)
    generalize gV i p A B z t = G at *
    generalize A.length = n1 at *
    generalize B.length = n2 at *
    obtain ⟨a0, m0, c0, rfl⟩ : ∃ a0 m0 c0, vb = .slice a0 m0 c0 := by obtain ⟨a, c, h⟩ := (r8_src hv).shape; exact ⟨a, _, c, h⟩
    clear ha hk h12 hA hB r1 r2 hv hz hl
    go_enter Tryd.func33, Tryd.ntmps33
    go_wp2_with first
      | (go_at_call 66; ((with_reducible refine (H66.out _ HB.out).mono ?_); rintro e w1 ⟨rfl, hb⟩; have B1 := Lib.hid (bT HB.out hb); have X1 := Lib.hid hb; clear p0 p1 p2 p3; obtain ⟨p0, p1, p2, p3⟩ := HX.out _ X1.out; clear hb))
      | (go_at_call 73; ((with_reducible refine (H73.out _ B1.out).mono ?_); rintro e w2 ⟨v2, rfl, hr, hb⟩; have R2 := Lib.hid hr; have B2 := Lib.hid (bT B1.out hb); clear hr hb))
    go_ret3
    exact ⟨_, rfl, R2.out, B2.out⟩
  · have hg : gV i p A B z t = ([], 0, aX i p A B) := by
      unfold gV aX at *
      by_cases hk : IsBk i p A B
      · rw [if_pos hk] at ha ⊢
        by_cases h12 : i = 12
        · rw [if_pos h12, if_pos hk, if_pos h12]
        · rw [if_neg h12] at ha; exact absurd rfl ha
      · rw [if_neg hk]
        by_cases h12 : i = 12
        · rw [if_pos h12, if_neg hk]
        · have e : rdF i p A B z t = (0, 0, 8) := by unfold rdF; rw [if_neg hk]
          rw [if_neg h12, e, if_pos (by decide), if_neg hk]
    rw [hg]
    have hab : (aX i p A B == 0) = false := by simp [ha]
    generalize aX i p A B = X at *
    have han : (X != 0) = true := by simp [ha]
    generalize A.length = n1 at *
    generalize B.length = n2 at *
    obtain ⟨a0, m0, c0, rfl⟩ : ∃ a0 m0 c0, vb = .slice a0 m0 c0 := by obtain ⟨a, c, h⟩ := (r8_src hv).shape; exact ⟨a, _, c, h⟩
    clear ha hg hA hB r1 r2 hv hz hl
    go_enter Tryd.func33, Tryd.ntmps33
    go_wp2_with (go_at_call 66; ((with_reducible refine (H66.out _ HB.out).mono ?_); rintro e w1 ⟨rfl, hb⟩; have B1 := Lib.hid (bT HB.out hb); have X1 := Lib.hid hb; clear p0 p1 p2 p3; obtain ⟨p0, p1, p2, p3⟩ := HX.out _ X1.out; clear hb))
    go_ret3
    exact ⟨_, rfl, nil_rd _ _ _, B1.out⟩
end Go.Proofs.YteklahfgplbmcaaDoor.Hf

/- Put, Get, Cost and Fits, as the document tells them. -/
namespace Go.Proofs.YteklahfgplbmcaaDoor.Hf
open Go Go.ChangeShapes Go.WideShapes Go.ChangeAt Go.RowKit Go.Proofs.YteklahfgplbmcaaDoor.Bk Go.Proofs.YteklahfgplbmcaaDoor.Bi Go.Proofs.YteklahfgplbmcaaDoor.Cr Go.Proofs.YteklahfgplbmcaaDoor.Fx

open Go.Proofs.YteklahfgplbmcaaDoor.BkRf Go.Proofs.YteklahfgplbmcaaDoor.BkPx Go.Proofs.YteklahfgplbmcaaDoor.BkEn
theorem own0h (w : World) : (w.alloc (.cells #[] 3)).ownsRow w.heap.size 3 1 (.slice (some ⟨w.heap.size, 0, none⟩) 0 0) 0 [] := ⟨rfl, .inr ⟨w.heap.size, 0, #[], rfl, Nat.le_refl _, heap_alloc_last w _, Nat.le_refl _, by unfold maxLen; omega, rfl, rfl⟩⟩
theorem rd_max {w : World} {v : Value} {zs : List Int} (h : Rd w v zs) : zs.length ≤ maxLen := by
  rcases h with ⟨_, _, _, rfl⟩ | ⟨_, _, cap, _, _, h1, h2, _⟩
  · exact Nat.zero_le _
  · omega
theorem gV_len (i p : Int) (A B z : List Int) (t : Int) : (gV i p A B z t).1.length ≤ 1000 := by
  unfold gV
  by_cases h1 : i = 12
  · rw [if_pos h1]; simp
  rw [if_neg h1]
  by_cases h2 : (rdF i p A B z t).2.2 = 0
  · obtain ⟨hk, id, n, a, s, rfl, i1, i2, _, _, _, _, _, hrd⟩ := rdF_ok h2
    have hd4 : dm id ≤ 4 := (facts i1 (by omega : id ≤ 12)).2.2.2.2.1
    rw [if_neg (by rw [h2]; simp), hrd]
    simp only [Int.toNat_natCast]
    split
    · simp
    · unfold gT
      split
      · rw [gX_len]
        split
        · rw [vals_len]; omega
        · rw [gS_len, vals_len]; omega
      · split
        · simp only [vals_len]; omega
        · rw [gS_len, vals_len]; omega
  · rw [if_pos h2]; simp
set_option maxRecDepth 100000 in
theorem out10 (i p t : Int) (a0 : Option Addr) (n0 c0 : Nat) (a1 a2 : Option Addr) (n1 c1 n2 c2 : Nat) (a3 : Option Addr) (n3 c3 : Nat) (w : World) (h : 10000 < n0 ∨ (2000 < n1 ∨ 2000 < n2) ∨ 1000 < n3) :
    Calls Tryd.prog 10 #[.slice a0 n0 c0, .int .i64 t, .agg #[.int .i64 i, .int .i64 p, .slice a1 n1 c1, .slice a2 n2 c2], .slice a3 n3 c3] w fun e w' => e = .returned (.bool true) ∧ Below w.heap.size w w' := by
  have HB := Lib.hid (al w (.cells #[.int .i64 i, .int .i64 p, .slice a1 n1 c1, .slice a2 n2 c2] 24))
  obtain ⟨p0, p1, p2, p3⟩ := bx1 (w := w) (a := .int .i64 i) (b := .int .i64 p) (c := .slice a1 n1 c1) (d := .slice a2 n2 c2) (Below.refl _ _)
  have HG := Lib.hid (fun w => great_ok i p a1 a2 n1 c1 n2 c2 w)
  by_cases h0 : (10000 : Int) < (n0 : Int)
  · clear h HG
    go_enter Tryd.func10, Tryd.ntmps10
    go_wp2
    go_ret
    exact ⟨rfl, HB.out⟩
  by_cases hg : 2000 < n1 ∨ 2000 < n2
  · rw [decide_eq_true hg] at HG
    clear h hg
    go_enter Tryd.func10, Tryd.ntmps10
    go_wp2_with (go_at_call 26; ((with_reducible refine (HG.out _).mono ?_); rintro e w1 ⟨rfl, hb1⟩; have hb2 := Lib.hid (bT HB.out hb1); clear hb1))
    go_ret
    exact ⟨rfl, hb2.out⟩
  · rw [decide_eq_false hg] at HG
    have h3 : (1000 : Int) < (n3 : Int) := by omega
    clear h hg
    go_enter Tryd.func10, Tryd.ntmps10
    go_wp2_with (go_at_call 26; ((with_reducible refine (HG.out _).mono ?_); rintro e w1 ⟨rfl, hb1⟩; have hb2 := Lib.hid (bT HB.out hb1); clear hb1))
    go_ret
    exact ⟨rfl, hb2.out⟩
set_option maxRecDepth 100000 in
set_option maxHeartbeats 16000000 in
theorem go10 (i p t : Int) (a0 : Option Addr) (c0 : Nat) (z : List Int) (a1 a2 : Option Addr) (c1 c2 : Nat) (A B : List Int) (a3 : Option Addr) (c3 : Nat) (zs : List Int) (w : World) (hs : Sh w) (hm : Hm w) (l0 : z.length ≤ 10000) (l1 : A.length ≤ 2000) (l2 : B.length ≤ 2000) (l3 : zs.length ≤ 1000)
    (hr : R8 w (.slice a0 z.length c0) z) (hz : ∀ x ∈ z, 0 ≤ x ∧ x ≤ 255) (r1 : Rd w (.slice a1 A.length c1) A) (r2 : Rd w (.slice a2 B.length c2) B) (r3 : Rd w (.slice a3 zs.length c3) zs) (hb : ∀ n ∈ zs, -9223372036854775808 ≤ n ∧ n ≤ 9223372036854775807) :
    Calls Tryd.prog 10 #[.slice a0 z.length c0, .int .i64 t, .agg #[.int .i64 i, .int .i64 p, .slice a1 A.length c1, .slice a2 B.length c2], .slice a3 zs.length c3] w fun e w' => e = .returned (.bool true) ∧ Below w.heap.size w w' := by
  have HB := Lib.hid (al w (.cells #[.int .i64 i, .int .i64 p, .slice a1 A.length c1, .slice a2 B.length c2] 24))
  have HX := Lib.hid (fun x h => bx1 (w := w) (a := .int .i64 i) (b := .int .i64 p) (c := .slice a1 A.length c1) (d := .slice a2 B.length c2) (x := x) h)
  obtain ⟨p0, p1, p2, p3⟩ := HX.out _ (Below.refl _ _)
  have HG := Lib.hid (fun w => great_ok i p a1 a2 A.length c1 B.length c2 w)
  rw [decide_eq_false (show ¬ (2000 < A.length ∨ 2000 < B.length) by omega)] at HG
  have g0 : ¬ (10000 : Int) < (z.length : Int) := by omega
  have g3 : ¬ (1000 : Int) < (zs.length : Int) := by omega
  have hA : A.length ≤ maxLen := by unfold maxLen; omega
  have hB : B.length ≤ maxLen := by unfold maxLen; omega
  have hl : zs.length ≤ maxLen := by unfold maxLen; omega
  have sb := r8_src hr
  have H30 := Lib.hid (fun x a5 c5 (h : Below w.heap.size w x) (h5 : Rd x (.slice a5 zs.length c5) zs) => put_any (.slice a0 z.length c0) z i p a1 a2 c1 c2 A B _ zs x (hs.below h) (hm.below h) (r1.below h) (r2.below h) h5 hl hb (sb.below h) (by omega))
  have H31 := Lib.hid (fun x (h : Below w.heap.size w x) => rput_any (.slice a0 z.length c0) z i p a1 a2 c1 c2 A B _ zs x hA hB (r1.below h) (r2.below h) (r3.below h) hl (sb.below h) (by omega))
  have H32 := Lib.hid (fun x (h : Below w.heap.size w x) => get32_ok (.slice a0 z.length c0) z t i p a1 a2 c1 c2 A B x (hs.below h) (r1.below h) (r2.below h) (hr.below h) hz (by omega))
  have H33 := Lib.hid (fun x (h : Below w.heap.size w x) => rget33_any (.slice a0 z.length c0) z t i p a1 a2 c1 c2 A B x hA hB (r1.below h) (r2.below h) (hr.below h) hz (by omega))
  have H34 := Lib.hid (fun x (h : Below w.heap.size w x) => cost_any i p a1 a2 c1 c2 A B _ zs x (hs.below h) (hm.below h) (r1.below h) (r2.below h) (r3.below h) hl hb)
  have H35 := Lib.hid (fun x (h : Below w.heap.size w x) => rcost_any i p a1 a2 c1 c2 A B _ zs x hA hB (r1.below h) (r2.below h) (r3.below h) hl)
  have H36 := Lib.hid (fun x (h : Below w.heap.size w x) => fits_any i _ zs x (hm.below h) hl (r3.below h))
  have H37 := Lib.hid (fun x (h : Below w.heap.size w x) => rfits_any i _ zs x hl (r3.below h))
  have HCV := Lib.hid (fun x (h : Below w.heap.size w x) => conv_src (sb.below h))
  have cv0 := HCV.out w (Below.refl _ _)
  have H3 := Lib.hid r3
  have HI : Hid (∀ w v v' zs, zs.length ≤ maxLen → Rd w v zs → Rd w v' zs → Calls Tryd.prog 25 #[v, v'] w fun e w' => e = .returned (.bool true) ∧ Below w.heap.size w w') := Lib.hid fun w v v' zs hl h h' => (ints_ok v v' zs zs w hl hl h h').mono fun e w' q => ⟨by simpa using q.1, q.2⟩
  have hgl : (gV i p A B z t).1.length ≤ 1000 := gV_len i p A B z t
  generalize vX i p A B zs = VX at *
  generalize pZ z i p A B zs = PZ at *
  generalize (vZ i p A B zs).length = VL at *
  generalize gV i p A B z t = GG at *
  obtain ⟨G, ga, ge⟩ := GG
  simp only at H32 H33 hgl
  generalize fR i zs = FR at *
  generalize fE i zs = FE at *
  have HLZ : Hid (zs.length ≤ 1000 ∧ zs.length ≤ maxLen ∧ G.length ≤ maxLen) := Lib.hid ⟨l3, hl, by unfold maxLen; omega⟩
  clear hs hm l0 l1 l2 l3 hr hz r1 r2 r3 hb hA hB hl sb hgl
  go_enter Tryd.func10, Tryd.ntmps10
  go_wp2_with first
    | (go_at_call 26; ((with_reducible refine (HG.out _).mono ?_); rintro e w1 ⟨rfl, hb⟩; have B1 := Lib.hid (bT HB.out hb); have X1 := Lib.hid hb; clear p0 p1 p2 p3; obtain ⟨p0, p1, p2, p3⟩ := HX.out w1 X1.out; have cv1 := HCV.out w1 B1.out; clear hb))
    | (at_builtin; refine wpList_copy _ rfl (.tmp 44) (.tmp 45) rfl w1.heap.size _ rfl a3 c3 zs (own0h w1) (by simp) rfl HLZ.out.1 (RdA.below (rd_RdA (H3.out.below B1.out)) (Bk.al w1 _)) ?_; intro v5 w2 ho5 hg5; have hb : Below w1.heap.size w1 w2 := (Bk.al w1 (.cells #[] 3)).grown hg5 (by simp) (fun k hk => (World.ownsRow.lt (own0h w1) k hk).1); have hr5 : Rd w2 v5 zs := Fx.Own.rd ho5; obtain ⟨a5, c5, h5⟩ := hr5.shape; subst h5; have R5 := Lib.hid hr5; have B2 := Lib.hid (bT B1.out hb); have X2 := Lib.hid (bT X1.out hb); clear p0 p1 p2 p3; obtain ⟨p0, p1, p2, p3⟩ := HX.out w2 X2.out; clear ho5 hg5 hr5 hb)
    | (go_at_call 30; ((with_reducible refine (H30.out _ _ _ B2.out R5.out).mono ?_); rintro e w3 ⟨v3, rfl, ho, hb⟩; have O3 := Lib.hid ho; clear ho; have B3 := Lib.hid (bT B2.out hb); have X3 := Lib.hid (bT X2.out hb); have S3 := Lib.hid hb; clear p0 p1 p2 p3; obtain ⟨p0, p1, p2, p3⟩ := HX.out w3 X3.out; clear hb))
    | (go_at_call 31; ((with_reducible refine (H31.out _ B3.out).mono ?_); rintro e w4 ⟨v4, rfl, ho, hb⟩; have O4 := Lib.hid ho; clear ho; have B4 := Lib.hid (bT B3.out hb); have X4 := Lib.hid (bT X3.out hb); have S4 := Lib.hid hb; clear p0 p1 p2 p3; obtain ⟨p0, p1, p2, p3⟩ := HX.out w4 X4.out; clear hb))
    | (go_at_call 32; ((with_reducible refine (H32.out _ B4.out).mono ?_); rintro e w5 ⟨v6, rfl, hr, hb⟩; obtain ⟨a6, c6, h6⟩ := hr.shape; subst h6; have R6 := Lib.hid hr; clear hr; have B5 := Lib.hid (bT B4.out hb); have X5 := Lib.hid (bT X4.out hb); have S5 := Lib.hid hb; clear p0 p1 p2 p3; obtain ⟨p0, p1, p2, p3⟩ := HX.out w5 X5.out; clear hb))
    | (go_at_call 33; ((with_reducible refine (H33.out _ B5.out).mono ?_); rintro e w6 ⟨v7, rfl, hr, hb⟩; obtain ⟨a7, c7, h7⟩ := hr.shape; subst h7; have R7 := Lib.hid hr; clear hr; have B6 := Lib.hid (bT B5.out hb); have X6 := Lib.hid (bT X5.out hb); have S6 := Lib.hid hb; clear p0 p1 p2 p3; obtain ⟨p0, p1, p2, p3⟩ := HX.out w6 X6.out; clear hb))
    | (go_at_call 34; ((with_reducible refine (H34.out _ B6.out).mono ?_); rintro e w7 ⟨rfl, hb⟩; have B7 := Lib.hid (bT B6.out hb); have X7 := Lib.hid (bT X6.out hb); have S7 := Lib.hid hb; clear p0 p1 p2 p3; obtain ⟨p0, p1, p2, p3⟩ := HX.out w7 X7.out; clear hb))
    | (go_at_call 35; ((with_reducible refine (H35.out _ B7.out).mono ?_); rintro e w8 ⟨rfl, hb⟩; have B8 := Lib.hid (bT B7.out hb); have X8 := Lib.hid (bT X7.out hb); have S8 := Lib.hid hb; clear p0 p1 p2 p3; obtain ⟨p0, p1, p2, p3⟩ := HX.out w8 X8.out; clear hb))
    | (go_at_call 36; ((with_reducible refine (H36.out _ B8.out).mono ?_); rintro e w9 ⟨rfl, hb⟩; have B9 := Lib.hid (bT B8.out hb); have X9 := Lib.hid (bT X8.out hb); have S9 := Lib.hid hb; clear p0 p1 p2 p3; obtain ⟨p0, p1, p2, p3⟩ := HX.out w9 X9.out; clear hb))
    | (go_at_call 37; ((with_reducible refine (H37.out _ B9.out).mono ?_); rintro e w10 ⟨rfl, hb⟩; have B10 := Lib.hid (bT B9.out hb); have T7 := Lib.hid (bT S7.out (bT S8.out (bT S9.out hb))); have T6 := Lib.hid (bT S6.out T7.out); have T4 := Lib.hid (bT S5.out T6.out); have T3' := Lib.hid (bT S4.out T4.out); have T2 := Lib.hid (bT S3.out T3'.out); have cv3 := conv_src ((own_src O3.out).below T3'.out); have cv4 := conv_src ((own_src O4.out).below T4.out); clear hb))
    | (go_at_call_of 25 (Value.slice a6 G.length c6); ((with_reducible refine (HI.out _ _ _ G HLZ.out.2.2 (R6.out.below T6.out) (R7.out.below T7.out)).mono ?_); rintro e w11 ⟨rfl, hb⟩; have B11 := Lib.hid (bT B10.out hb); have T11 := Lib.hid (bT T2.out hb); have cv11 := HCV.out w11 B11.out; clear hb))
    | (go_at_call_of 25 (Value.slice a5 zs.length c5); ((with_reducible refine (HI.out _ _ _ zs HLZ.out.2.1 (R5.out.below T11.out) (H3.out.below B11.out)).mono ?_); rintro e w12 ⟨rfl, hb⟩; have B12 := Lib.hid (bT B11.out hb); clear hb))
  go_ret
  exact ⟨rfl, B12.out⟩
end Go.Proofs.YteklahfgplbmcaaDoor.Hf

/- Whatever book, entry, bits and place: the program and the document code and read the same: the walk. -/
namespace Go.Proofs.YteklahfgplbmcaaDoor.BkRf
open Go Go.ChangeShapes Go.WideShapes Go.ChangeAt Go.RowKit Go.Proofs.YteklahfgplbmcaaDoor.Bk Go.Proofs.YteklahfgplbmcaaDoor.Bi Go.Proofs.YteklahfgplbmcaaDoor.Cr Go.Proofs.YteklahfgplbmcaaDoor.Fx

open Go.Proofs.YteklahfgplbmcaaDoor.BkPx
set_option maxRecDepth 100000 in
theorem law_out (i p n at' : Int) (a1 a2 : Option Addr) (n1 c1 n2 c2 : Nat) (a0 : Option Addr) (n0 c0 : Nat) (w : World) (h : (2000 < n1 ∨ 2000 < n2) ∨ 10000 < n0) :
    Calls Tryd.prog 5 #[.agg #[.int .i64 i, .int .i64 p, .slice a1 n1 c1, .slice a2 n2 c2], .int .i64 n, .slice a0 n0 c0, .int .i64 at'] w fun e w' => e = .returned (.bool true) ∧ Below w.heap.size w w' := by
  have HB := Lib.hid (al w (.cells #[.int .i64 i, .int .i64 p, .slice a1 n1 c1, .slice a2 n2 c2] 24))
  obtain ⟨p0, p1, p2, p3⟩ := bx1 (w := w) (a := .int .i64 i) (b := .int .i64 p) (c := .slice a1 n1 c1) (d := .slice a2 n2 c2) (Below.refl _ _)
  have HG := Lib.hid (fun w => great_ok i p a1 a2 n1 c1 n2 c2 w)
  by_cases hg : 2000 < n1 ∨ 2000 < n2
  · rw [decide_eq_true hg] at HG
    clear h hg
    go_enter Tryd.func5, Tryd.ntmps5
    go_wp2_with (go_at_call 26; ((with_reducible refine (HG.out _).mono ?_); rintro e w1 ⟨rfl, hb1⟩; have hb2 := Lib.hid (bT HB.out hb1); clear hb1))
    go_ret
    exact ⟨rfl, hb2.out⟩
  · rw [decide_eq_false hg] at HG
    have h0 : (10000 : Int) < (n0 : Int) := by omega
    clear h hg
    go_enter Tryd.func5, Tryd.ntmps5
    go_wp2_with (go_at_call 26; ((with_reducible refine (HG.out _).mono ?_); rintro e w1 ⟨rfl, hb1⟩; have hb2 := Lib.hid (bT HB.out hb1); clear hb1))
    go_ret
    exact ⟨rfl, hb2.out⟩
theorem own8_src {base : Nat} {w : World} {v : Value} {zs : List Int} (h : Cr.Own base w v zs) : Src8 w v zs := own_src h
set_option maxRecDepth 100000 in
set_option maxHeartbeats 8000000 in
theorem law_go (i p n at' : Int) (a1 a2 : Option Addr) (c1 c2 : Nat) (A B : List Int) (a0 : Option Addr) (c0 : Nat) (z : List Int) (w : World) (hs : Sh w) (lA : A.length ≤ 2000) (lB : B.length ≤ 2000) (lz : z.length ≤ 10000)
    (r1 : Rd w (.slice a1 A.length c1) A) (r2 : Rd w (.slice a2 B.length c2) B) (hv : R8 w (.slice a0 z.length c0) z) (hsrc : Src8 w (.slice a0 z.length c0) z) (hz : ∀ x ∈ z, 0 ≤ x ∧ x ≤ 255) :
    Calls Tryd.prog 5 #[.agg #[.int .i64 i, .int .i64 p, .slice a1 A.length c1, .slice a2 B.length c2], .int .i64 n, .slice a0 z.length c0, .int .i64 at'] w fun e w' => e = .returned (.bool true) ∧ Below w.heap.size w w' := by
  have HB := Lib.hid (al w (.cells #[.int .i64 i, .int .i64 p, .slice a1 A.length c1, .slice a2 B.length c2] 24))
  have HX := Lib.hid (fun x h => bx1 (w := w) (a := .int .i64 i) (b := .int .i64 p) (c := .slice a1 A.length c1) (d := .slice a2 B.length c2) (x := x) h)
  obtain ⟨p0, p1, p2, p3⟩ := HX.out _ (Below.refl _ _)
  have HG := Lib.hid (fun w => great_ok i p a1 a2 A.length c1 B.length c2 w)
  rw [decide_eq_false (show ¬ (2000 < A.length ∨ 2000 < B.length) by omega)] at HG
  have h0 : ¬ (10000 : Int) < (z.length : Int) := by omega
  have hA : A.length ≤ maxLen := by unfold maxLen; omega
  have hB : B.length ≤ maxLen := by unfold maxLen; omega
  have H16 := Lib.hid (fun x (h : Below w.heap.size w x) => pcd_any i p n a1 a2 c1 c2 A B x (hs.below h) (r1.below h) (r2.below h))
  have H27 := Lib.hid (fun x (h : Below w.heap.size w x) => rcd_any i p n a1 a2 c1 c2 A B x hA hB (r1.below h) (r2.below h))
  have H17 := Lib.hid (fun x (h : Below w.heap.size w x) => pread_any i p at' a1 a2 c1 c2 A B (.slice a0 z.length c0) z x (hs.below h) (r1.below h) (r2.below h) (hv.below h) hz (by omega))
  have H28 := Lib.hid (fun x (h : Below w.heap.size w x) => rread_any i p at' a1 a2 c1 c2 A B a0 c0 z x hA hB (r1.below h) (r2.below h) (hv.below h) hz (by omega))
  have HCV := Lib.hid (fun x (h : Below w.heap.size w x) => conv_src (hsrc.below h))
  generalize cdX i p A B n = X at *
  generalize cdL i p A B n = L at *
  obtain ⟨⟨y1, y2, y3⟩, hy⟩ : ∃ y, rdF i p A B z at' = y := ⟨_, rfl⟩
  rw [hy] at H17 H28
  clear hy hA hB r1 r2 hv hsrc hs hz
  go_enter Tryd.func5, Tryd.ntmps5
  go_wp2_with first
    | (go_at_call 26; ((with_reducible refine (HG.out _).mono ?_); rintro e w1 ⟨rfl, hb1⟩; have B1 := Lib.hid (bT HB.out hb1); have X1 := Lib.hid hb1; clear p0 p1 p2 p3; obtain ⟨p0, p1, p2, p3⟩ := HX.out w1 hb1; have cv1 := HCV.out w1 B1.out; clear hb1))
    | (go_at_call 16; ((with_reducible refine (H16.out _ B1.out).mono ?_); rintro e w2 ⟨v2, rfl, ho2, hb⟩; have O2 := Lib.hid ho2; have B2 := Lib.hid (bT B1.out hb); have X2 := Lib.hid (bT X1.out hb); have S2 := Lib.hid hb; clear p0 p1 p2 p3 ho2; obtain ⟨p0, p1, p2, p3⟩ := HX.out w2 X2.out; clear hb))
    | (go_at_call 27; ((with_reducible refine (H27.out _ B2.out).mono ?_); rintro e w3 ⟨v3, rfl, ho3, hb⟩; have O3 := Lib.hid ho3; have B3 := Lib.hid (bT B2.out hb); have X3 := Lib.hid (bT X2.out hb); have S3 := Lib.hid hb; clear p0 p1 p2 p3 ho3; obtain ⟨p0, p1, p2, p3⟩ := HX.out w3 X3.out; clear hb))
    | (go_at_call 17; ((with_reducible refine (H17.out _ B3.out).mono ?_); rintro e w4 ⟨rfl, hb⟩; simp only [T3]; have B4 := Lib.hid (bT B3.out hb); have X4 := Lib.hid (bT X3.out hb); have S4 := Lib.hid hb; clear p0 p1 p2 p3; obtain ⟨p0, p1, p2, p3⟩ := HX.out w4 X4.out; clear hb))
    | (go_at_call 28; ((with_reducible refine (H28.out _ B4.out).mono ?_); rintro e w5 ⟨rfl, hb⟩; simp only [T3]; have B5 := Lib.hid (bT B4.out hb); have cv5 := HCV.out w5 B5.out; have cv2 := conv_src ((own8_src O2.out).below (bT S3.out (bT S4.out hb))); have cv3 := conv_src ((own8_src O3.out).below (bT S4.out hb)); clear hb))
  go_ret
  exact ⟨rfl, B5.out⟩
end Go.Proofs.YteklahfgplbmcaaDoor.BkRf

/- Whatever book, entry, bits and place: the law; a book that came in. -/
namespace Go.Proofs.YteklahfgplbmcaaDoor.BcMn
open Go Go.Ev Go.ChangeShapes Go.WideShapes Go.ChangeAt Go.RowKit Go.Proofs.YteklahfgplbmcaaDoor.Bk Go.Proofs.YteklahfgplbmcaaDoor.BkRf Go.Proofs.YteklahfgplbmcaaDoor.BkEn Go.Proofs.YteklahfgplbmcaaDoor.Bi Go.Proofs.YteklahfgplbmcaaDoor.Cr Go.Proofs.YteklahfgplbmcaaDoor.Fx
section
variable {H : Type} {enc : TypeId × Value → H} {P : Program} {W : World} {base b0 : Nat} {spare : Nat → Bool} {held : Bool} {r : Reach}
theorem open_rowI {t e : TypeId} {k : IntKind} {fuel : Nat} {c : Value} {x : DataW H × List MemPlace} (ht : P.underlying t = some (.slice e)) (he : P.underlying e = some (.int k)) (hc : P.cellsOf e = 1)
    (h : DataW.trod enc P W b0 (fun _ => true) held fuel t [c] = some x) :
    ∃ a n cap zs, c = .slice a n cap ∧ Go.Proofs.YteklahfgplbmcaaDoor.Cr.IsRow k W a n cap zs := by
  rcases open_ints ht he hc h with ⟨hcs, _⟩ | ⟨a, len, cap, zs, hcs, _, hl, hm, hz, _, hcell, hwf⟩
  · simp at hcs
    exact ⟨none, 0, 0, [], hcs, .inl ⟨rfl, rfl, rfl, rfl⟩⟩
  · simp at hcs
    exact ⟨some a, len, cap, zs, hcs, .inr ⟨_, rfl, hl, hm, by simpa using hz, hcell, hwf⟩⟩
theorem open_bookR {T : TypeId} {f0 f1 f2 f3 : Field} {e : TypeId} {v : Value} {d : DataW H} {p : List MemPlace} (ht : P.underlying T = some (.struct #[f0, f1, f2, f3])) (o0 : f0.offset = 0) (o1 : f1.offset = 1) (o2 : f2.offset = 2) (o3 : f3.offset = 3)
    (h0 : P.underlying f0.type = some (.int .i64)) (h1 : P.underlying f1.type = some (.int .i64)) (h2 : P.underlying f2.type = some (.slice e)) (h3 : P.underlying f3.type = some (.slice e)) (he : P.underlying e = some (.int .i64))
    (c0 : P.cellsOf f0.type = 1) (c1 : P.cellsOf f1.type = 1) (c2 : P.cellsOf f2.type = 1) (c3 : P.cellsOf f3.type = 1) (ce : P.cellsOf e = 1) (hcT : P.cellsOf T = 4)
    (hv : Value.okWide P W r base T v) (h : DataW.Trod enc P W b0 (fun _ => true) held T v d p) :
    ∃ i q a n cap zs b m cb ys, v = .agg #[.int .i64 i, .int .i64 q, .slice a n cap, .slice b m cb] ∧ (Lit.int .i64 i).wf = true ∧ (Lit.int .i64 q).wf = true ∧ Go.Proofs.YteklahfgplbmcaaDoor.Cr.IsRow .i64 W a n cap zs ∧ Go.Proofs.YteklahfgplbmcaaDoor.Cr.IsRow .i64 W b m cb ys := by
  obtain ⟨cs, rfl, hs⟩ := okWide_struct ht hv
  rw [hcT] at hs
  obtain ⟨fuel, hf⟩ := h
  obtain ⟨x0, x1, x2, x3, rfl⟩ : ∃ x0 x1 x2 x3, cs = #[x0, x1, x2, x3] := by
    obtain ⟨l⟩ := cs
    match l, hs with
    | [x0, x1, x2, x3], _ => exact ⟨x0, x1, x2, x3, rfl⟩
  have hf' : DataW.trod enc P W b0 (fun _ => true) held fuel T [x0, x1, x2, x3] = some (d, p) := by simpa [Value.cells] using hf
  obtain ⟨xs, n, _, _, _, hl, hi⟩ := DataW.trod_struct ht hf'
  have q0 := hi 0 f0 rfl
  have q1 := hi 1 f1 rfl
  have q2 := hi 2 f2 rfl
  have q3 := hi 3 f3 rfl
  rw [o0, c0] at q0
  rw [o1, c1] at q1
  rw [o2, c2] at q2
  rw [o3, c3] at q3
  have hl4 : xs.length = 4 := by simpa using hl
  match xs, hl4 with
  | [y0, y1, y2, y3], _ =>
  obtain ⟨k0, e0, _, w0⟩ := DataW.trod_int h0 (show _ = some y0 from q0)
  obtain ⟨k1, e1, _, w1⟩ := DataW.trod_int h1 (show _ = some y1 from q1)
  have q2' : DataW.trod enc P W b0 (fun _ => true) held n f2.type [x2] = some y2 := by simpa using q2
  have q3' : DataW.trod enc P W b0 (fun _ => true) held n f3.type [x3] = some y3 := by simpa using q3
  obtain ⟨a, n2, cap, zs, e2, g1⟩ := open_rowI h2 he ce q2'
  obtain ⟨b, n3, cb, ys, e3, g4⟩ := open_rowI h3 he ce q3'
  simp at e0 e1
  subst e0 e1 e2 e3
  exact ⟨k0, k1, a, n2, cap, zs, b, n3, cb, ys, rfl, w0, w1, g1, g4⟩
end
theorem main (i p : Int) (a1 : Option Addr) (n1 c1 : Nat) (z1 : List Int) (a2 : Option Addr) (n2 c2 : Nat) (z2 : List Int) (n : Int) (a0 : Option Addr) (n0 c0 : Nat) (z0 : List Int) (at' : Int) (w : World) (hs : Sh w)
    (h1 : Go.Proofs.YteklahfgplbmcaaDoor.Cr.IsRow .i64 w a1 n1 c1 z1) (h2 : Go.Proofs.YteklahfgplbmcaaDoor.Cr.IsRow .i64 w a2 n2 c2 z2) (h0 : Go.Proofs.YteklahfgplbmcaaDoor.Cr.IsRow .u8 w a0 n0 c0 z0) :
    Calls Tryd.prog 5 #[.agg #[.int .i64 i, .int .i64 p, .slice a1 n1 c1, .slice a2 n2 c2], .int .i64 n, .slice a0 n0 c0, .int .i64 at'] w fun e w' => e = .returned (.bool true) ∧ True ∧ Below w.heap.size w w' := by
  have key : Calls Tryd.prog 5 #[.agg #[.int .i64 i, .int .i64 p, .slice a1 n1 c1, .slice a2 n2 c2], .int .i64 n, .slice a0 n0 c0, .int .i64 at'] w fun e w' => e = .returned (.bool true) ∧ Below w.heap.size w w' := by
    by_cases h : (2000 < n1 ∨ 2000 < n2) ∨ 10000 < n0
    · exact law_out i p n at' a1 a2 n1 c1 n2 c2 a0 n0 c0 w h
    obtain ⟨A, hA, r1, _, _⟩ := isrow_rd h1
    obtain ⟨B, hB, r2, _, _⟩ := isrow_rd h2
    obtain ⟨z, hZ, r0, b0⟩ := isrow8 h0
    subst hA hB hZ
    exact law_go i p n at' a1 a2 c1 c2 A B a0 c0 z w hs (by omega) (by omega) (by omega) r1 r2 r0 (r8_src r0) b0
  exact key.mono fun _ _ h => ⟨h.1, trivial, h.2⟩
end Go.Proofs.YteklahfgplbmcaaDoor.BcMn

/- What the rows list are the tables of shapes and of the greatest sizes. -/
namespace Go.Proofs.YteklahfgplbmcaaDoor.Hf
open Go Go.Ev Go.ChangeShapes Go.WideShapes Go.ChangeAt Go.RowKit Go.Proofs.YteklahfgplbmcaaDoor.Bk

theorem sh_hm {laid : List (String × DataW Unit)} {w : World} (hL : laidMetH Tryd.prog laid w) (h1 : (laid.all fun x => x.2.handleName?.isNone) = true) (h2 : Named Tryd.prog laid [(0, 83), (1, 107)])
    (h3 : flats E laid [(0, 83), (1, 107)] = some [(0, [.int .i64 4, .int .i64 (-1), .int .i64 1, .int .i64 0, .int .i64 4, .int .i64 (-1), .int .i64 1, .int .i64 1, .int .i64 4, .int .i64 0, .int .i64 2, .int .i64 0, .int .i64 4, .int .i64 0, .int .i64 2, .int .i64 1, .int .i64 2, .int .i64 (-4), .int .i64 4, .int .i64 0, .int .i64 2, .int .i64 (-4), .int .i64 4, .int .i64 1, .int .i64 2, .int .i64 0, .int .i64 7, .int .i64 1, .int .i64 2, .int .i64 0, .int .i64 7, .int .i64 2, .int .i64 2, .int .i64 0, .int .i64 12, .int .i64 1, .int .i64 2, .int .i64 0, .int .i64 12, .int .i64 2, .int .i64 2, .int .i64 0, .int .i64 16, .int .i64 2, .int .i64 1, .int .i64 (-60), .int .i64 60, .int .i64 0]), (1, [.int .i64 1, .int .i64 1, .int .i64 2, .int .i64 2, .int .i64 4, .int .i64 4, .int .i64 7, .int .i64 7, .int .i64 12, .int .i64 12, .int .i64 8191])]) : Sh w ∧ Hm w := by
  rw [MakeChecks.laidMetH_plain _ _ _ h1] at hL
  obtain ⟨ps, hl, _⟩ := hL
  obtain ⟨⟨c, t, fz, hc, hd⟩, ⟨c', t', fz', hc', hd'⟩, _⟩ := flats_ok h2 h3 hl
  have q := hd (fun _ => none)
  have q' := hd' (fun _ => none)
  simp [denL, den] at q
  simp [denL, den] at q'
  have e1 : c = #[.int .i64 4, .int .i64 (-1), .int .i64 1, .int .i64 0, .int .i64 4, .int .i64 (-1), .int .i64 1, .int .i64 1, .int .i64 4, .int .i64 0, .int .i64 2, .int .i64 0, .int .i64 4, .int .i64 0, .int .i64 2, .int .i64 1, .int .i64 2, .int .i64 (-4), .int .i64 4, .int .i64 0, .int .i64 2, .int .i64 (-4), .int .i64 4, .int .i64 1, .int .i64 2, .int .i64 0, .int .i64 7, .int .i64 1, .int .i64 2, .int .i64 0, .int .i64 7, .int .i64 2, .int .i64 2, .int .i64 0, .int .i64 12, .int .i64 1, .int .i64 2, .int .i64 0, .int .i64 12, .int .i64 2, .int .i64 2, .int .i64 0, .int .i64 16, .int .i64 2, .int .i64 1, .int .i64 (-60), .int .i64 60, .int .i64 0] := by
    clear q' hd' hc' hd hc hl h3
    cases c; simp_all
  have e2 : c' = #[.int .i64 1, .int .i64 1, .int .i64 2, .int .i64 2, .int .i64 4, .int .i64 4, .int .i64 7, .int .i64 7, .int .i64 12, .int .i64 12, .int .i64 8191] := by
    clear q hd' hc' hd hc hl h3 e1
    cases c'; simp_all
  clear q q' hd hd'
  subst e1 e2
  refine ⟨⟨(Array.getElem?_eq_some_iff.1 hc).1, fun k hk => ?_⟩, ⟨(Array.getElem?_eq_some_iff.1 hc').1, fun k hk => ?_⟩⟩
  · have hk' : k = 0 ∨ k = 1 ∨ k = 2 ∨ k = 3 ∨ k = 4 ∨ k = 5 ∨ k = 6 ∨ k = 7 ∨ k = 8 ∨ k = 9 ∨ k = 10 ∨ k = 11 := by omega
    rcases hk' with rfl | rfl | rfl | rfl | rfl | rfl | rfl | rfl | rfl | rfl | rfl | rfl <;> (simp only [World.cell?, hc]; refine ⟨rfl, rfl, rfl, rfl⟩)
  · have hk' : k = 0 ∨ k = 1 ∨ k = 2 ∨ k = 3 ∨ k = 4 ∨ k = 5 ∨ k = 6 ∨ k = 7 ∨ k = 8 ∨ k = 9 ∨ k = 10 := by omega
    rcases hk' with rfl | rfl | rfl | rfl | rfl | rfl | rfl | rfl | rfl | rfl | rfl <;> (simp only [World.cell?, hc']; rfl)
end Go.Proofs.YteklahfgplbmcaaDoor.Hf
