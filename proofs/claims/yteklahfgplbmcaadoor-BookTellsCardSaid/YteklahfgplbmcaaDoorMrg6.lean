/- Texts of one claim, one behind the other: BtLw, BtMn. -/
import Derived.Test.YteklahfgplbmcaaDoorBtEn
import Derived.Test.YteklahfgplbmcaaDoorMrg5
import Derived.Test.YteklahfgplbmcaaDoorBkEn
import Derived.Laws.Rows
import Derived.Deep.WholeRow
import Derived.WalkKit
import Derived.Below
import Derived.RegionTactic
import Derived.Deep.QuietTactic
import Derived.BigQuiet
import Derived.ChangeAlike
import Derived.Deep.OwnRows
import Derived.Deep.Cut
import Derived.ProofKit
import Derived.OpenShut
import Derived.Laws.EntriesVeiled
import Derived.Lib.Hide
import Derived.Deep.RegionHeld3
import Derived.Laws.AppendOwn
import Derived.Laws.AppendOwnNone
set_option linter.unusedVariables false
/- Whatever book, entry and values: the program and the document answer the same: the walk. -/
namespace Go.Proofs.YteklahfgplbmcaaDoor.BkRf
open Go Go.ChangeShapes Go.WideShapes Go.ChangeAt Go.RowKit Go.Proofs.YteklahfgplbmcaaDoor.Bk Go.Proofs.YteklahfgplbmcaaDoor.Bi Go.Proofs.YteklahfgplbmcaaDoor.Cr Go.Proofs.YteklahfgplbmcaaDoor.Fx

structure BB (a b : World) : Prop where
  b : Below a.heap.size a b
theorem BB.trans {a b c : World} (h : BB a b) (k : BB b c) : BB a c := ⟨bT h.b k.b⟩
theorem BB.al (a : World) (o : Obj) : BB a (a.alloc o) := ⟨Bk.al a o⟩
theorem own0 (w : World) : (w.alloc (.cells #[] 3)).ownsRow w.heap.size 3 1 (.slice (some ⟨w.heap.size, 0, none⟩) 0 0) 0 [] := ⟨rfl, .inr ⟨w.heap.size, 0, #[], rfl, Nat.le_refl _, heap_alloc_last w _, Nat.le_refl _, by unfold maxLen; omega, rfl, rfl⟩⟩
theorem rd_a {w : World} {A : Option Addr} {cap : Nat} {zs : List Int} (h : Rd w (.slice A zs.length cap) zs) : RdA w A zs := by
  obtain ⟨A', cap', e, h⟩ := h.open
  cases e
  exact h
theorem h_keep {x y : World} {c : Array Value} (h : BB (x.alloc (.cells c 24)) y) : y.heap[x.heap.size]? = some (.cells c 24) := (h.b.block _ (by simp)).trans (heap_alloc_last x _)
abbrev bk (i p : Int) (a1 : Option Addr) (n1 c1 : Nat) (a2 : Option Addr) (n2 c2 : Nat) : Array Value := #[.int .i64 i, .int .i64 p, .slice a1 n1 c1, .slice a2 n2 c2]
set_option maxRecDepth 100000 in
set_option maxHeartbeats 8000000 in
theorem go (I n : Int) (A : Option Addr) (cap : Nat) (zs : List Int) (w : World) (hs : Sh w) (hr : Rd w (.slice A zs.length cap) zs) (hl : zs.length ≤ 1000)
    (i p e1 e2 g e3 : Int) (O R V : List Int) (lO : O.length ≤ maxLen) (lR : R.length ≤ maxLen) (lV : V.length ≤ maxLen)
    (H15 : Hid (∀ w, Sh w → Calls Tryd.prog 15 #[.int .i64 I] w fun e w' => ∃ a1 c1 a2 c2, e = .returned (.tuple #[.agg (bk i p a1 O.length c1 a2 R.length c2), .int .i64 e1]) ∧ Rd w' (.slice a1 O.length c1) O ∧ Rd w' (.slice a2 R.length c2) R ∧ BB w w'))
    (H19 : Hid (∀ w, Calls Tryd.prog 19 #[.int .i64 I] w fun e w' => ∃ a1 c1 a2 c2, e = .returned (.tuple #[.agg (bk i p a1 O.length c1 a2 R.length c2), .int .i64 e1]) ∧ Rd w' (.slice a1 O.length c1) O ∧ Rd w' (.slice a2 R.length c2) R ∧ BB w w'))
    (H20 : Hid (∀ w, Sh w → Calls Tryd.prog 20 #[.int .i64 I, .int .i64 n] w fun e w' => ∃ v, e = .returned (.tuple #[v, .int .i64 e2]) ∧ Rd w' v V ∧ BB w w'))
    (H21 : Hid (∀ w, Calls Tryd.prog 21 #[.int .i64 I, .int .i64 n] w fun e w' => ∃ v, e = .returned (.tuple #[v, .int .i64 e2]) ∧ Rd w' v V ∧ BB w w'))
    (H22 : Hid (∀ w v, Sh w → Rd w v zs → Calls Tryd.prog 22 #[.int .i64 I, v] w fun e w' => e = .returned (.tuple #[.int .i64 g, .int .i64 e3]) ∧ BB w w'))
    (H23 : Hid (∀ w v, Rd w v zs → Calls Tryd.prog 23 #[.int .i64 I, v] w fun e w' => e = .returned (.tuple #[.int .i64 g, .int .i64 e3]) ∧ BB w w')) :
    Calls Tryd.prog 4 #[.int .i64 I, .int .i64 n, .slice A zs.length cap] w fun e w' => e = .returned (.bool true) ∧ Below w.heap.size w w' := by
  have HS := Lib.hid hs
  have HR := Lib.hid hr
  have HLO := Lib.hid lO
  have HLR := Lib.hid lR
  have HLV := Lib.hid lV
  have HI : Hid (∀ w v v' zs, zs.length ≤ maxLen → Rd w v zs → Rd w v' zs → Calls Tryd.prog 25 #[v, v'] w fun e w' => e = .returned (.bool true) ∧ BB w w') := Lib.hid fun w v v' zs hl h h' => (ints_ok v v' zs zs w hl hl h h').mono fun e w' q => ⟨by simpa using q.1, ⟨q.2⟩⟩
  have HSm : Hid (∀ w i p s1 s2 s3 s4, Rd w s1 O → Rd w s2 R → Rd w s3 O → Rd w s4 R → Calls Tryd.prog 24 #[.agg #[.int .i64 i, .int .i64 p, s1, s2], .agg #[.int .i64 i, .int .i64 p, s3, s4]] w fun e w' => e = .returned (.bool true) ∧ BB w w') := Lib.hid fun w i p s1 s2 s3 s4 r1 r2 r3 r4 => (bsame_yes i p s1 s2 s3 s4 O R w lO lR r1 r2 r3 r4).mono fun e w' q => ⟨q.1, ⟨q.2⟩⟩
  clear hs hr lO lR lV
  go_enter Tryd.func4, Tryd.ntmps4
  go_wp2_with first
    | (at_builtin; refine wpList_copy _ rfl (.tmp 23) (.tmp 24) rfl w.heap.size _ rfl A cap zs (own0 w) (by simp) rfl hl (RdA.below (rd_a HR.out) (Bk.al w _)) ?_; intro v5 w5 ho5 hg5; have hb5 : BB w w5 := ⟨(Bk.al w (.cells #[] 3)).grown hg5 (by simp) (fun k hk => (World.ownsRow.lt (own0 w) k hk).1)⟩; have hr5 : Rd w5 v5 zs := Fx.Own.rd ho5; obtain ⟨a5, c5, h5⟩ := hr5.shape; subst h5; have R5 := Lib.hid hr5; have B5 := Lib.hid hb5; clear ho5 hg5 hb5 hr5)
    | (go_at_call 15; ((with_reducible refine (H15.out _ (HS.out.below B5.out.b)).mono ?_); rintro e w6 ⟨a1, c1, a2, c2, rfl, r1, r2, hb6⟩; have R1 := Lib.hid r1; have R2 := Lib.hid r2; have B6 := Lib.hid hb6; clear r1 r2 hb6))
    | (go_at_call 19; ((with_reducible refine (H19.out _).mono ?_); rintro e w7 ⟨a3, c3, a4, c4, rfl, r3, r4, hb7⟩; have R3 := Lib.hid r3; have R4 := Lib.hid r4; have B7 := Lib.hid hb7; have K6 := Lib.hid (h_keep hb7); clear r3 r4 hb7))
    | (refine wpList_store_row rfl 24 _ _ rfl w6.heap.size (bk i p a1 O.length c1 a2 R.length c2) rfl rfl 24 #[.int .i64 0, .int .i64 0, .slice none 0 0, .slice none 0 0] (heap_alloc_last w6 _) size24 rfl (one_bk2 _ _ _ _ _ _ _ _) ?_; rw [World.setRow_alloc_new])
    | (refine wpList_store_row rfl 24 _ _ rfl w7.heap.size (bk i p a3 O.length c3 a4 R.length c4) rfl rfl 24 #[.int .i64 0, .int .i64 0, .slice none 0 0, .slice none 0 0] (heap_alloc_last w7 _) size24 rfl (one_bk2 _ _ _ _ _ _ _ _) ?_; rw [World.setRow_alloc_new])
    | (go_at_call 20; (have hF : BB w5 (w7.alloc (.cells (bk i p a3 O.length c3 a4 R.length c4) 24)) := B6.out.trans ((BB.al _ _).trans (B7.out.trans (BB.al _ _))); have F7 := Lib.hid hF; clear hF; (with_reducible refine (H20.out _ (HS.out.below (B5.out.trans F7.out).b)).mono ?_); rintro e w8 ⟨v8, rfl, r8, hb8⟩; obtain ⟨a8, c8, h8⟩ := r8.shape; subst h8; have R8 := Lib.hid r8; have B8 := Lib.hid hb8; have K7 := Lib.hid (h_keep hb8); clear r8 hb8))
    | (go_at_call 21; ((with_reducible refine (H21.out _).mono ?_); rintro e w9 ⟨v9, rfl, r9, hb9⟩; obtain ⟨a9, c9, h9⟩ := r9.shape; subst h9; have R9 := Lib.hid r9; have B9 := Lib.hid hb9; have F9 := Lib.hid (F7.out.trans (B8.out.trans hb9)); clear r9 hb9))
    | (go_at_call 22; ((with_reducible refine (H22.out _ _ (HS.out.below (B5.out.trans F9.out).b) (R5.out.below F9.out.b)).mono ?_); rintro e w10 ⟨rfl, hb10⟩; have F10 := Lib.hid (F9.out.trans hb10); have B10 := Lib.hid hb10; clear hb10))
    | (go_at_call 23; ((with_reducible refine (H23.out _ _ (HR.out.below (B5.out.trans F10.out).b)).mono ?_); rintro e w11 ⟨rfl, hb11⟩; have F11 := Lib.hid (F10.out.trans hb11); have B811 := Lib.hid (B9.out.trans (B10.out.trans hb11)); have B911 := Lib.hid (B10.out.trans hb11); have B7F := Lib.hid ((BB.al w7 (.cells (bk i p a3 O.length c3 a4 R.length c4) 24)).trans (B8.out.trans B811.out)); have B6F := Lib.hid ((BB.al w6 (.cells (bk i p a1 O.length c1 a2 R.length c2) 24)).trans (B7.out.trans B7F.out)); have k6 := Lib.hid ((B7F.out.b.block _ (Array.getElem?_eq_some_iff.1 K6.out).1).trans K6.out); have k7 := Lib.hid ((B811.out.b.block _ (Array.getElem?_eq_some_iff.1 K7.out).1).trans K7.out); clear hb11))
    | (refine wpList_load_row rfl 24 _ rfl w6.heap.size rfl 24 (bk i p a1 O.length c1 a2 R.length c2) _ _ k6.out Tryd.underlying24 rfl size24 ?_)
    | (refine wpList_load_row rfl 24 _ rfl w7.heap.size rfl 24 (bk i p a3 O.length c3 a4 R.length c4) _ _ k7.out Tryd.underlying24 rfl size24 ?_)
    | (go_at_call 24; ((with_reducible refine (HSm.out _ _ _ _ _ _ _ (R1.out.below B6F.out.b) (R2.out.below B6F.out.b) (R3.out.below B7F.out.b) (R4.out.below B7F.out.b)).mono ?_); rintro e w12 ⟨rfl, hb12⟩; have B12 := Lib.hid hb12; clear hb12))
    | (go_at_call_of 25 (Value.slice a8 V.length c8); ((with_reducible refine (HI.out _ _ _ V HLV.out (R8.out.below (B811.out.trans B12.out).b) (R9.out.below (B911.out.trans B12.out).b)).mono ?_); rintro e w13 ⟨rfl, hb13⟩; have B13 := Lib.hid (B12.out.trans hb13); clear hb13))
    | (go_at_call_of 25 (Value.slice a5 zs.length c5); ((with_reducible refine (HI.out _ _ _ zs (by unfold maxLen; omega) (R5.out.below (F11.out.trans B13.out).b) (HR.out.below (B5.out.trans (F11.out.trans B13.out)).b)).mono ?_); rintro e w14 ⟨rfl, hb14⟩; have B14 := Lib.hid (B5.out.trans (F11.out.trans (B13.out.trans hb14))); clear hb14))
  go_ret
  exact ⟨rfl, B14.out.b⟩
end Go.Proofs.YteklahfgplbmcaaDoor.BkRf

/- Whatever book, entry and values: the program and the document answer the same. -/
namespace Go.Proofs.YteklahfgplbmcaaDoor.BtMn
open Go Go.ChangeShapes Go.WideShapes Go.ChangeAt Go.RowKit Go.Proofs.YteklahfgplbmcaaDoor.Bk Go.Proofs.YteklahfgplbmcaaDoor.BkRf Go.Proofs.YteklahfgplbmcaaDoor.BkEn Go.Proofs.YteklahfgplbmcaaDoor.Bi Go.Proofs.YteklahfgplbmcaaDoor.Cr Go.Proofs.YteklahfgplbmcaaDoor.Fx
theorem long (I n : Int) (A : Option Addr) (len cap : Nat) (w : World) (h : 1000 < (len : Int)) :
    Calls Tryd.prog 4 #[.int .i64 I, .int .i64 n, .slice A len cap] w fun e w' => e = .returned (.bool true) ∧ Below w.heap.size w w' := by
  go_enter Tryd.func4, Tryd.ntmps4
  go_wp2
  go_ret
  exact ⟨rfl, Below.refl _ _⟩
theorem rnil (w : World) : Rd w (.slice none 0 0) [] := .inl ⟨none, 0, rfl, rfl⟩
theorem badI (I n : Int) (A : Option Addr) (cap : Nat) (zs : List Int) (w : World) (hs : Sh w) (hr : Rd w (.slice A zs.length cap) zs) (hl : zs.length ≤ 1000) (hI : I < 1 ∨ 12 < I) :
    Calls Tryd.prog 4 #[.int .i64 I, .int .i64 n, .slice A zs.length cap] w fun e w' => e = .returned (.bool true) ∧ Below w.heap.size w w' :=
  BkRf.go I n A cap zs w hs hr hl 0 0 2 2 0 2 [] [] [] (Nat.zero_le _) (Nat.zero_le _) (Nat.zero_le _)
    (Lib.hid fun w _ => (get_bad I w hI).mono fun e w' q => ⟨none, 0, none, 0, q.1, rnil w', rnil w', ⟨q.2⟩⟩)
    (Lib.hid fun w => (rget_bad I w hI).mono fun e w' q => ⟨none, 0, none, 0, q.1, rnil w', rnil w', ⟨q.2⟩⟩)
    (Lib.hid fun w _ => (values_bad1 I n w hI).mono fun e w' q => ⟨_, q.1, rnil w', ⟨q.2⟩⟩)
    (Lib.hid fun w => (rval_bad I n w (by omega)).mono fun e w' q => ⟨_, q.1, rnil w', ⟨q.2 ▸ Below.refl _ _⟩⟩)
    (Lib.hid fun w v _ _ => (entry_bad I v w hI).mono fun e w' q => ⟨q.1, ⟨q.2⟩⟩)
    (Lib.hid fun w v _ => (rentry_bad I v w hI).mono fun e w' q => ⟨q.1, ⟨q.2⟩⟩)
theorem zo_len {id : Nat} (h1 : 1 ≤ id) (h2 : id ≤ 12) : (zi (ord id)).length = Nn id := by rw [zi_len, ord_len h1 h2]
theorem zo_get {id j : Nat} : ordI id j = (zi (ord id)).getD j 0 := by
  unfold ordI zi
  simp only [List.getD_eq_getElem?_getD, List.getElem?_map]
  cases (ord id)[j]? <;> rfl
theorem get15 {id : Nat} (h1 : 1 ≤ id) (h2 : id ≤ 12) (w : World) (hs : Sh w) : Calls Tryd.prog 15 #[.int .i64 id] w fun e w' => ∃ a1 c1 a2 c2, e = .returned (.tuple #[.agg (bk id (pl id) a1 (zi (ord id)).length c1 a2 (rkL id).length c2), .int .i64 0]) ∧ Rd w' (.slice a1 (zi (ord id)).length c1) (zi (ord id)) ∧ Rd w' (.slice a2 (rkL id).length c2) (rkL id) ∧ BB w w' := by
  have f8 : Nn id ≤ 289 := (facts h1 h2).2.2.2.2.2.2.2.1
  refine (get_ok id w h1 h2 hs).mono ?_
  rintro e w' ⟨v, rfl, ⟨E, R, rfl, _, _, hE, hR⟩, hb⟩
  rw [zo_len h1 h2, rkL_len]
  exact ⟨_, _, _, _, rfl, rd_row hE (zo_len h1 h2) (by unfold maxLen; omega) (fun j _ => zo_get), rd_row hR (rkL_len id) (by unfold maxLen; omega) (fun j hj => (rkL_get hj).symm), ⟨hb⟩⟩
theorem get19 {id : Nat} (h1 : 1 ≤ id) (h2 : id ≤ 12) (w : World) : Calls Tryd.prog 19 #[.int .i64 id] w fun e w' => ∃ a1 c1 a2 c2, e = .returned (.tuple #[.agg (bk id (pl id) a1 (zi (ord id)).length c1 a2 (rkL id).length c2), .int .i64 0]) ∧ Rd w' (.slice a1 (zi (ord id)).length c1) (zi (ord id)) ∧ Rd w' (.slice a2 (rkL id).length c2) (rkL id) ∧ BB w w' := by
  refine (rget_ok id w h1 h2).mono ?_
  rintro e w' ⟨v1, v2, rfl, r1, r2, hb⟩
  obtain ⟨a1, c1, rfl⟩ := r1.shape
  obtain ⟨a2, c2, rfl⟩ := r2.shape
  exact ⟨_, _, _, _, rfl, r1, r2, ⟨hb⟩⟩
theorem good (id : Nat) (n : Int) (A : Option Addr) (cap : Nat) (zs : List Int) (w : World) (hs : Sh w) (hr : Rd w (.slice A zs.length cap) zs) (hl : zs.length ≤ 1000) (hb : ∀ z ∈ zs, -9223372036854775808 ≤ z ∧ z ≤ 9223372036854775807) (h1 : 1 ≤ id) (h2 : id ≤ 12) :
    Calls Tryd.prog 4 #[.int .i64 id, .int .i64 n, .slice A zs.length cap] w fun e w' => e = .returned (.bool true) ∧ Below w.heap.size w w' := by
  have f5 : dm id ≤ 4 := (facts h1 h2).2.2.2.2.1
  have f8 : Nn id ≤ 289 := (facts h1 h2).2.2.2.2.2.2.2.1
  have lO : (zi (ord id)).length ≤ maxLen := by rw [zo_len h1 h2]; unfold maxLen; omega
  have lR : (rkL id).length ≤ maxLen := by rw [rkL_len]; unfold maxLen; omega
  by_cases hn : n < 0 ∨ (Nn id : Int) ≤ n
  · exact BkRf.go id n A cap zs w hs hr hl id (pl id) 0 2 (entI id zs) (entX id zs) (zi (ord id)) (rkL id) [] lO lR (Nat.zero_le _)
      (Lib.hid fun w hs => get15 h1 h2 w hs) (Lib.hid fun w => get19 h1 h2 w)
      (Lib.hid fun w hs => (values_bad2 id n w h1 h2 hs hn).mono fun e w' q => ⟨_, q.1, rnil w', ⟨q.2⟩⟩)
      (Lib.hid fun w => by
        by_cases h0 : n < 0
        · exact (rval_bad id n w (by omega)).mono fun e w' q => ⟨_, q.1, rnil w', ⟨q.2 ▸ Below.refl _ _⟩⟩
        · exact (rval_big id n w h1 h2 (by omega)).mono fun e w' q => ⟨_, q.1, rnil w', ⟨q.2⟩⟩)
      (Lib.hid fun w v hs h => (entry_ok id v zs w h1 h2 hs (by unfold maxLen; omega) hb h).mono fun e w' q => ⟨q.1, ⟨q.2⟩⟩)
      (Lib.hid fun w v h => (rentry_ok id v zs w h1 h2 h).mono fun e w' q => ⟨q.1, ⟨q.2⟩⟩)
  · obtain ⟨m, rfl⟩ : ∃ m : Nat, n = (m : Int) := ⟨n.toNat, by omega⟩
    have hm : m < Nn id := by omega
    exact BkRf.go id m A cap zs w hs hr hl id (pl id) 0 0 (entI id zs) (entX id zs) (zi (ord id)) (rkL id) (vals (bs id) (lw id) (dm id) m) lO lR (by rw [vals_len]; unfold maxLen; omega)
      (Lib.hid fun w hs => get15 h1 h2 w hs) (Lib.hid fun w => get19 h1 h2 w)
      (Lib.hid fun w hs => (values_ok id m w h1 h2 hs hm).mono fun e w' q => by
        obtain ⟨O, q1, _, q3, q4⟩ := q
        exact ⟨_, q1, rd_row q3 (vals_len _ _ _ _) (by unfold maxLen; omega) (fun j _ => rfl), ⟨q4⟩⟩)
      (Lib.hid fun w => (rval_ok id m w h1 h2 hm).mono fun e w' q => by
        obtain ⟨v, q1, q2, q3⟩ := q
        exact ⟨_, q1, own3_rd q2, ⟨q3⟩⟩)
      (Lib.hid fun w v hs h => (entry_ok id v zs w h1 h2 hs (by unfold maxLen; omega) hb h).mono fun e w' q => ⟨q.1, ⟨q.2⟩⟩)
      (Lib.hid fun w v h => (rentry_ok id v zs w h1 h2 h).mono fun e w' q => ⟨q.1, ⟨q.2⟩⟩)
theorem main (I n : Int) (A : Option Addr) (len cap : Nat) (z : List Int) (w : World) (hs : Sh w) (hz : Go.Proofs.YteklahfgplbmcaaDoor.Cr.IsRow .i64 w A len cap z) :
    Calls Tryd.prog 4 #[.int .i64 I, .int .i64 n, .slice A len cap] w fun e w' => e = .returned (.bool true) ∧ True ∧ Below w.heap.size w w' := by
  have key : Calls Tryd.prog 4 #[.int .i64 I, .int .i64 n, .slice A len cap] w fun e w' => e = .returned (.bool true) ∧ Below w.heap.size w w' := by
    by_cases h : 1000 < (len : Int)
    · exact long I n A len cap w h
    obtain ⟨xs, hl, hr, _, hb⟩ := isrow_rd hz
    subst hl
    by_cases hI : I < 1 ∨ 12 < I
    · exact badI I n A cap xs w hs hr (by omega) hI
    obtain ⟨id, rfl⟩ : ∃ id : Nat, I = (id : Int) := ⟨I.toNat, by omega⟩
    exact good id n A cap xs w hs hr (by omega) hb (by omega) (by omega)
  exact key.mono fun _ _ h => ⟨h.1, trivial, h.2⟩
end Go.Proofs.YteklahfgplbmcaaDoor.BtMn
