/- Windows are got as they were put, whatever stands behind, and put as these bits when got. InfoBack returns true, whatever the rate, the windows, the bytes and the place, the memory and the schedule. No condition. -/
import Derived.Test.YtchefgnefcabnaaInOk
import Derived.Test.YtchefgnefcabnaaInAlive
import Derived.Test.YtchefgnefcabnaaEvOpen
import Derived.WalkKit
import Derived.OwnWalk
import Derived.RegionTactic
import Derived.Deep.RegionHeld3
import Derived.Deep.QuietTactic
import Derived.BigQuiet
import Derived.ProofKit
import Derived.OpenShut
import Derived.ShutString
import Derived.ChangeOld
import Derived.Below
import Derived.Lib.Hide
namespace Go.Proofs.Ytchefgnefcabnaa.infoBack
open Go Go.Ev Go.ChangeShapes Go.WideShapes Go.ChangeAt Go.RowKit Go.Shelf Go.Proofs.Ytchefgnefcabnaa.In Go.Proofs.Ytchefgnefcabnaa.Bi Go.Proofs.Ytchefgnefcabnaa.If
open Go.Proofs.Ytchefgnefcabnaa.Cr (Own Bits Sl IsRow below_grown)
open Go.Proofs.Ytchefgnefcabnaa.If (belowT)

theorem came {w : World} {a : Option Addr} {len cap : Nat} {zs : List Int} (h : IsRow .u8 w a len cap zs) : ∃ z, z.length = len ∧ Src8 w (.slice a z.length cap) z ∧ Sl w (.slice a z.length cap) z ∧ (∀ n ∈ z, 0 ≤ n ∧ n ≤ 255) := by
  obtain ⟨xs, h1, h2, h3⟩ := h.sl
  refine ⟨xs, h1, ?_, h2, h3⟩
  rcases h with ⟨rfl, rfl, rfl, rfl⟩ | ⟨x, rfl, hl, hm, hz, hc, hwf⟩
  · obtain rfl := List.eq_nil_of_length_eq_zero h1
    exact .inl ⟨rfl, rfl⟩
  · refine .inr ⟨x, cap, rfl, fun j u hu => ?_⟩
    have hj : j < xs.length := by have := (List.getElem?_eq_some_iff.1 hu).1; simpa using this
    rcases h2 with ⟨_, _, e, rfl⟩ | ⟨b, off, cap', e, lb, hc', hm', cl⟩
    · simp at hj
    · cases e
      have := cl j hj
      rw [Addr.add_lit, this]
      simpa [hj] using hu
theorem sl_src {w : World} {v : Value} {zs : List Int} {b off : Nat} {k n cap : Nat} (h : Sl w v zs) (e : v = .slice (some ⟨b, off, none⟩) zs.length cap) (hk : k + n ≤ zs.length) : Src8 w (.slice (some ⟨b, off + k, none⟩) n (cap - k)) ((zs.drop k).take n) := by
  subst e
  have ly : ((zs.drop k).take n).length = n := by simp; omega
  refine .inr ⟨_, _, by rw [ly], fun j u hu => ?_⟩
  have hj : j < n := by have := (List.getElem?_eq_some_iff.1 hu).1; rw [List.length_map, ly] at this; exact this
  rcases h with ⟨_, _, e, rfl⟩ | ⟨b', off', cap', e, lb, hc', hm', cl⟩
  · simp at hk; omega
  · cases e
    have := cl (k + j) (by omega)
    rw [Addr.add_lit, show off + k + j = off + (k + j) by omega, this]
    rw [← hu]
    simp [hj, List.getElem?_drop, show k + j < zs.length by omega]
theorem drewN_below (w : World) : ∀ n, Below w.heap.size w (w.drewN n)
  | 0 => Below.refl _ _
  | n + 1 => (drewN_below w n).drew
set_option maxRecDepth 100000 in
/-- Two lists that are the same. -/
theorem ints_same (a1 a2 : Option Addr) (c1 c2 : Nat) (zs : List Int) (w : World) (hl : zs.length ≤ 100000) (h1 : RdA w a1 zs) (h2 : RdA w a2 zs) :
    Calls Try.prog 28 #[.slice a1 zs.length c1, .slice a2 zs.length c2] w fun e w' => e = .returned (.bool true) ∧ Below w.heap.size w w' := by
  have H1 := Lib.hid h1
  have H2 := Lib.hid h2
  clear h1 h2
  go_enter Try.func28, Try.ntmps28
  go_wp2
  go_loopw [5] (fun i wr => ∃ k : Nat, k ≤ zs.length ∧ i = .int .i64 k ∧ Below w.heap.size w wr) (fun i _ => zs.length - (intOf i).toNat)
  case atStart => exact ⟨0, by omega, rfl, Below.refl _ _⟩
  case round =>
    obtain ⟨k, hk, rfl, hbel⟩ := hrel
    by_cases hlt : k < zs.length
    · obtain ⟨b, off, rfl, lb, q1⟩ := H1.out.below hbel k hlt
      obtain ⟨b', off', rfl, lb', q2⟩ := H2.out.below hbel k hlt
      generalize zs.getD k 0 = x at *
      go_wp2
      go_quiet (fail)
      go_wp2
      go_roundw
      case rel => exact ⟨k + 1, by omega, by go_num, hbel.trans ((drewN_below wr nq).mono hbel.size)⟩
      case measure => simp [intOf]; omega
    · obtain rfl : k = zs.length := by omega
      go_wp2
      go_ret
      exact ⟨rfl, hbel⟩
set_option maxRecDepth 100000 in
/-- Windows that are the same. -/
theorem same_yes (s h m : Int) (a1 a2 : Option Addr) (c1 c2 : Nat) (zs : List Int) (w : World) (hl : zs.length ≤ 100000) (h1 : RdA w a1 zs) (h2 : RdA w a2 zs) :
    Calls Try.prog 10 #[.agg #[.int .u8 s, .int .u8 h, .int .i64 m, .slice a1 zs.length c1], .agg #[.int .u8 s, .int .u8 h, .int .i64 m, .slice a2 zs.length c2]] w fun e w' => e = .returned (.bool true) ∧ Below w.heap.size w w' := by
  have HI := Lib.hid (fun w1 (k : Below w.heap.size w w1) => ints_same a1 a2 c1 c2 zs w1 hl (h1.below k) (h2.below k))
  have HB := Lib.hid (((Below.refl w.heap.size w).alloc (Nat.le_refl _) (.cells #[.int .u8 s, .int .u8 h, .int .i64 m, .slice a1 zs.length c1] 24)).alloc (by simp) (.cells #[.int .u8 s, .int .u8 h, .int .i64 m, .slice a2 zs.length c2] 24))
  clear h1 h2
  go_enter Try.func10, Try.ntmps10
  go_wp2_with (go_at_call 28; ((with_reducible refine (HI.out _ HB.out).mono ?_); rintro e w1 ⟨rfl, hb1⟩; have hb2 := belowT HB.out hb1))
  go_ret
  exact ⟨rfl, hb2⟩
theorem same_none (w : World) : Calls Try.prog 10 #[.agg #[.int .u8 0, .int .u8 0, .int .i64 0, .slice none 0 0], .agg #[.int .u8 0, .int .u8 0, .int .i64 0, .slice none 0 0]] w fun e w' => e = .returned (.bool true) ∧ Below w.heap.size w w' :=
  same_yes 0 0 0 none none 0 0 [] w (by decide) (fun i hi => by simp at hi) (fun i hi => by simp at hi)
theorem get_put {w : World} {a : Option Addr} {c : Nat} {r s h m : Int} {gz zb : List Int} (hs : Sl w (.slice a (putL s h m gz ++ zb).length c) (putL s h m gz ++ zb)) (hl : (putL s h m gz ++ zb).length ≤ maxLen) (hb : ∀ z ∈ zb, 0 ≤ z ∧ z ≤ 255) (hc : chk r s h m gz = 0) (s0 : 0 ≤ s) (h0 : 0 ≤ h) :
    Calls Try.prog 9 #[.slice a ((putL s h m gz).length + zb.length) c, .int .i64 0, .int .i64 r] w fun e w' => ∃ g cap, e = .returned (.tuple #[.agg #[.int .u8 s, .int .u8 h, .int .i64 m, .slice (some ⟨g, 0, none⟩) gz.length cap], .int .i64 (putL s h m gz).length, .int .i64 0]) ∧ RdA w' (some ⟨g, 0, none⟩) gz ∧ Below w.heap.size w w' := by
  obtain ⟨X, hX⟩ : ∃ X, X = putL s h m gz ++ zb := ⟨_, rfl⟩
  rw [← List.length_append]
  rw [← hX] at hs hl ⊢
  have hz : ∀ z ∈ X, 0 ≤ z ∧ z ≤ 255 := by
    intro z hz
    rw [hX, List.mem_append] at hz
    rcases hz with hz | hz
    · unfold putL at hz
      simp only [List.mem_append] at hz
      rcases hz with hz | hz
      · rcases pre_bits s h m z hz with h | h <;> omega
      · split at hz
        · rcases grb_bits gz z hz with h | h <;> omega
        · simp at hz; omega
    · exact hb z hz
  refine (get_ok hs hl hz 0 r).mono ?_
  rintro e w' (⟨E, _, _, hbad, _⟩ | ⟨q, h', m', gz', g, cap', rfl, hg, rd, hbl⟩)
  · exact (hbad s h m gz zb s0 h0 hc (by decide) (by rw [hX]; rfl)).elim
  · obtain ⟨rfl, rfl, rfl, rfl⟩ := hg.one s h m gz zb s0 h0 hc (by rw [hX]; rfl)
    exact ⟨g, cap', by rw [Int.zero_add], rd, hbl⟩
theorem get_bad {w : World} {a : Option Addr} {c : Nat} {A r : Int} {zs : List Int} (hs : Sl w (.slice a zs.length c) zs) (hl : zs.length ≤ maxLen) (hz : ∀ z ∈ zs, 0 ≤ z ∧ z ≤ 255) (hbad : Bad zs A r) :
    Calls Try.prog 9 #[.slice a zs.length c, .int .i64 A, .int .i64 r] w fun e w' => ∃ E, (E == 0) = false ∧ (E != 0) = true ∧ e = .returned (.tuple #[.agg #[.int .u8 0, .int .u8 0, .int .i64 0, .slice none 0 0], .int .i64 0, .int .i64 E]) ∧ Below w.heap.size w w' := by
  refine (get_ok hs hl hz A r).mono ?_
  rintro e w' (⟨E, hE, rfl, _, hb⟩ | ⟨q, h', m', gz', g, cap', rfl, hg, rd, hbl⟩)
  · exact ⟨E, by simpa using hE, by simpa using hE, rfl, hb⟩
  · exact (hbad q h' m' gz' _ hg.q0 hg.h0 hg.c hg.a hg.e).elim
theorem get_good {w : World} {a : Option Addr} {c : Nat} {A r : Int} {zs : List Int} (hs : Sl w (.slice a zs.length c) zs) (hl : zs.length ≤ maxLen) (hz : ∀ z ∈ zs, 0 ≤ z ∧ z ≤ 255) (hbad : ¬ Bad zs A r) :
    Calls Try.prog 9 #[.slice a zs.length c, .int .i64 A, .int .i64 r] w fun e w' => ∃ q h m gz g cap, In.Good zs A r q h m gz ∧ e = .returned (.tuple #[.agg #[.int .u8 q, .int .u8 h, .int .i64 m, .slice (some ⟨g, 0, none⟩) gz.length cap], .int .i64 (A + (putL q h m gz).length), .int .i64 0]) ∧ RdA w' (some ⟨g, 0, none⟩) gz ∧ Below w.heap.size w w' := by
  refine (get_ok hs hl hz A r).mono ?_
  rintro e w' (⟨E, _, _, hb, _⟩ | ⟨q, h', m', gz', g, cap', rfl, hg, rd, hbl⟩)
  · exact absurd hb hbad
  · exact ⟨q, h', m', gz', g, cap', hg, rfl, rd, hbl⟩
theorem some_at {zs : List Int} {A r : Int} (h : ¬ Bad zs A r) : 0 ≤ A ∧ A < zs.length := by
  refine Classical.byContradiction fun hn => h fun q h m gz rest _ _ _ hA hp => ?_
  have := congrArg List.length hp
  simp [putL, pre_len] at this
  split at this <;> omega
theorem good_len {zs gz : List Int} {A r q h m : Int} (g : In.Good zs A r q h m gz) : 11 ≤ (putL q h m gz).length ∧ (putL q h m gz).length ≤ 15 ∧ gz.length ≤ 8 := by
  obtain ⟨r0, r1, s3, p1, m0, m1, hg⟩ := chk_parts g.c
  have hlen : ∀ {zs : List Int} {l : Int}, grp zs l = true → (zs.length : Int) ≤ l := by
    intro zs
    induction zs with
    | nil => intro l h; simp [grp] at h; simp [h]
    | cons n zs ih => intro l h; obtain ⟨a, b, c⟩ := grp_cons h; have := ih c; simp; omega
  have h8 := hlen hg
  by_cases c : q = 2
  · subst c
    rw [show win 2 = 8 from rfl] at hg h8
    simp [putL, pre_len, (grb_len hg).1]
    omega
  · rw [show win q = 1 by unfold win; rw [if_neg c]] at h8
    simp [putL, pre_len, c]
    omega
set_option maxRecDepth 100000 in
set_option maxHeartbeats 8000000 in
theorem main00 (r s h m : Int) (a : Option Addr) (cap : Nat) (gz : List Int) (a1 : Option Addr) (c1 : Nat) (zh : List Int) (a2 : Option Addr) (c2 : Nat) (zb : List Int) (A : Int) (w : World) (s0 : 0 ≤ s) (h0 : 0 ≤ h) (hl : gz.length ≤ 1000) (hr : RdA w a gz) (lh : zh.length ≤ 10000) (lb : zb.length ≤ 10000)
    (sh : Src8 w (.slice a1 zh.length c1) zh) (bh : ∀ z ∈ zh, 0 ≤ z ∧ z ≤ 255) (sb : Sl w (.slice a2 zb.length c2) zb) (bb : ∀ z ∈ zb, 0 ≤ z ∧ z ≤ 255) (hc : ¬ chk r s h m gz = 0) (hq : Bad zb A r) :
    Calls Try.prog 3 #[.int .i64 r, .agg #[.int .u8 s, .int .u8 h, .int .i64 m, .slice a gz.length cap], .slice a1 zh.length c1, .slice a2 zb.length c2, .int .i64 A] w fun e w' => e = .returned (.bool true) ∧ Below w.heap.size w w' := by
  have HB := Lib.hid (box_below w (.cells #[.int .u8 s, .int .u8 h, .int .i64 m, .slice a gz.length cap] 24))
  have HP := Lib.hid (fun w1 (k : Below w.heap.size w w1) => put_ok r s h m a cap gz w1 (by omega) (hr.below k) s0 h0)
  have HG := Lib.hid (fun w1 (k : Below w.heap.size w w1) => get_bad (A := A) (r := r) (sb.below k) (by unfold maxLen; omega) bb hq)
  have HR := Lib.hid hr
  have SH := Lib.hid sh
  have BH := Lib.hid bh
  have SB := Lib.hid sb
  have l1 : ¬ (1000 : Int) < (gz.length : Int) := by omega
  have l2 : ¬ (10000 : Int) < (zh.length : Int) := by omega
  have l3 : ¬ (10000 : Int) < (zb.length : Int) := by omega
  have HC := Lib.hid hc
  clear hr sh bh sb hq bb
  have c6 : (chk r s h m gz == 0) = false := by simpa using hc
  have hne : ¬ chk r s h m gz = 0 := hc
  clear hc
  go_enter Try.func3, Try.ntmps3
  go_wp2_with (first
    | (go_at_call 7; ((with_reducible refine (In.alive_ok _).mono ?_); rintro e w1 ⟨rfl, hb⟩; have hb1 := belowT HB.out hb; obtain ⟨z0, z1, z2, z3⟩ := boxed w s h m (.slice a gz.length cap) w1 hb; have HB1 := Lib.hid hb; clear hb))
    | (go_at_call 8; ((with_reducible refine (HP.out _ hb1).mono ?_); rintro e w6 ⟨⟨v2, rfl, _, k2⟩, hb⟩; obtain rfl := k2 hne; have hb6 := belowT hb1 hb; clear k2 hb))
    | (go_at_call 9; ((with_reducible refine (HG.out _ hb6).mono ?_); rintro e w7 ⟨E, e1, e2, rfl, hb⟩; have hb7 := belowT hb6 hb; have hb7a := belowT hb7 ((Below.refl w7.heap.size w7).alloc (Nat.le_refl _) (.cells #[.int .u8 0, .int .u8 0, .int .i64 0, .slice none 0 0] 24)); clear hb))
    | (go_at_call 10; ((with_reducible refine (same_none _).mono ?_); rintro e w8 ⟨rfl, hb⟩; have hb8 := belowT hb7a hb; clear hb)))
  go_ret
  exact ⟨rfl, hb8⟩
set_option maxRecDepth 100000 in
set_option maxHeartbeats 8000000 in
theorem main10 (r s h m : Int) (a : Option Addr) (cap : Nat) (gz : List Int) (a1 : Option Addr) (c1 : Nat) (zh : List Int) (a2 : Option Addr) (c2 : Nat) (zb : List Int) (A : Int) (w : World) (s0 : 0 ≤ s) (h0 : 0 ≤ h) (hl : gz.length ≤ 1000) (hr : RdA w a gz) (lh : zh.length ≤ 10000) (lb : zb.length ≤ 10000)
    (sh : Src8 w (.slice a1 zh.length c1) zh) (bh : ∀ z ∈ zh, 0 ≤ z ∧ z ≤ 255) (sb : Sl w (.slice a2 zb.length c2) zb) (bb : ∀ z ∈ zb, 0 ≤ z ∧ z ≤ 255) (hc : chk r s h m gz = 0) (hq : Bad zb A r) :
    Calls Try.prog 3 #[.int .i64 r, .agg #[.int .u8 s, .int .u8 h, .int .i64 m, .slice a gz.length cap], .slice a1 zh.length c1, .slice a2 zb.length c2, .int .i64 A] w fun e w' => e = .returned (.bool true) ∧ Below w.heap.size w w' := by
  have HB := Lib.hid (box_below w (.cells #[.int .u8 s, .int .u8 h, .int .i64 m, .slice a gz.length cap] 24))
  have HP := Lib.hid (fun w1 (k : Below w.heap.size w w1) => put_ok r s h m a cap gz w1 (by omega) (hr.below k) s0 h0)
  have HG := Lib.hid (fun w1 (k : Below w.heap.size w w1) => get_bad (A := A) (r := r) (sb.below k) (by unfold maxLen; omega) bb hq)
  have HR := Lib.hid hr
  have SH := Lib.hid sh
  have BH := Lib.hid bh
  have SB := Lib.hid sb
  have l1 : ¬ (1000 : Int) < (gz.length : Int) := by omega
  have l2 : ¬ (10000 : Int) < (zh.length : Int) := by omega
  have l3 : ¬ (10000 : Int) < (zb.length : Int) := by omega
  have HC := Lib.hid hc
  clear hr sh bh sb hq bb
  have HL : Hid ((putL s h m gz).length ≤ 1000) := Lib.hid (by
    have h1 := chk_parts hc
    by_cases e : s = 2
    · subst e
      rw [show win 2 = 8 from rfl] at h1
      simp [putL, pre_len, (grb_len h1.2.2.2.2.2.2).1]
    · simp [putL, pre_len, e])
  rw [hc] at HP
  clear hc
  go_enter Try.func3, Try.ntmps3
  go_wp2_with (first
    | (go_at_call 7; ((with_reducible refine (In.alive_ok _).mono ?_); rintro e w1 ⟨rfl, hb⟩; have hb1 := belowT HB.out hb; obtain ⟨z0, z1, z2, z3⟩ := boxed w s h m (.slice a gz.length cap) w1 hb; have HB1 := Lib.hid hb; clear hb))
    | (go_at_call 8; ((with_reducible refine (HP.out _ hb1).mono ?_); rintro e w2 ⟨⟨v2, rfl, k2, _⟩, hb⟩; obtain ⟨a3, c3, rfl⟩ := (k2 (by trivial)).shape; have S2 := Lib.hid (k2 (by trivial)); have hb2 := belowT hb1 hb; have HB2 := Lib.hid (belowT HB1.out hb); clear k2 hb; have hoe : Cr.Own w2.heap.size (w2.alloc (.cells #[] 5)) (.slice (some ⟨w2.heap.size, 0, none⟩) 0 0) [] := World.ownsRow_made w2 #[] 0 (Nat.le_refl _) (Nat.zero_le _) rfl; have hba : Below w2.heap.size w2 (w2.alloc (.cells #[] 5)) := (Below.refl _ _).alloc (Nat.le_refl _) _; have hsz := hba.size))
    | (at_builtin; refine wpList_append_src _ rfl (.tmp 51) (.tmp 52) rfl w2.heap.size _ [] rfl hoe _ (putL s h m gz) rfl (S2.out.below hba) (by have := HL.out; simp; omega) hsz ?_; intro v3 w3 ho3 hg3 _; have hb3 := below_grown hba hoe (Nat.le_refl _) hg3; have hs3 := hb3.size)
    | (at_builtin; refine wpList_append_src _ rfl (.tmp 53) (.tmp 54) rfl w2.heap.size _ _ rfl ho3 _ zh rfl (SH.out.below (belowT hb2 hb3)) (by have := HL.out; simp; omega) hs3 ?_; intro v4 w4 ho4 hg4 _; have hb4 := below_grown hb3 ho3 (Nat.le_refl _) hg4; have hb24 := belowT hb2 hb4; obtain ⟨a4, c4, rfl⟩ := (own_src ho4).shape; have HX := Lib.hid (get_put (r := r) (s := s) (h := h) (m := m) (gz := gz) (zb := zh) (w := w4) (a := a4) (c := c4) (by have := ho4.sl; simpa using this) (by have := HL.out; simp; unfold maxLen; omega) BH.out HC.out s0 h0); have HB4 := Lib.hid (belowT HB2.out hb4); have e4 : ([] ++ putL s h m gz ++ zh).length = (putL s h m gz ++ zh).length := rfl)
    | (go_at_call 9; ((with_reducible refine HX.out.mono ?_); rintro e w5 ⟨g5, cap5, rfl, rd5, hb⟩; have hb5 := belowT hb24 hb; have HB5 := Lib.hid (belowT HB4.out hb); obtain ⟨z05, z15, z25, z35⟩ := boxed w s h m (.slice a gz.length cap) _ HB5.out; have hal := (Below.refl w5.heap.size w5).alloc (Nat.le_refl _) (.cells #[.int .u8 s, .int .u8 h, .int .i64 m, .slice (some ⟨g5, 0, none⟩) gz.length cap5] 24); have HS := Lib.hid (same_yes s h m (some ⟨g5, 0, none⟩) a cap5 cap gz _ (by omega) (rd5.below hal) (HR.out.below (belowT hb5 hal))); have hb5a := belowT hb5 hal; have HB5a := Lib.hid (belowT HB5.out hal); obtain ⟨z05a, z15a, z25a, z35a⟩ := boxed w s h m (.slice a gz.length cap) _ HB5a.out; clear hb rd5 hal))
    | (go_at_call 10; ((with_reducible refine HS.out.mono ?_); rintro e w6 ⟨rfl, hb⟩; have hb6 := belowT hb5a hb; clear hb))
    | (go_at_call 9; ((with_reducible refine (HG.out _ hb6).mono ?_); rintro e w7 ⟨E, e1, e2, rfl, hb⟩; have hb7 := belowT hb6 hb; have hb7a := belowT hb7 ((Below.refl w7.heap.size w7).alloc (Nat.le_refl _) (.cells #[.int .u8 0, .int .u8 0, .int .i64 0, .slice none 0 0] 24)); clear hb))
    | (go_at_call 10; ((with_reducible refine (same_none _).mono ?_); rintro e w8 ⟨rfl, hb⟩; have hb8 := belowT hb7a hb; clear hb)))
  go_ret
  exact ⟨rfl, hb8⟩
set_option maxRecDepth 100000 in
set_option maxHeartbeats 8000000 in
theorem main01 (r s h m : Int) (a : Option Addr) (cap : Nat) (gz : List Int) (a1 : Option Addr) (c1 : Nat) (zh : List Int) (a2 : Option Addr) (c2 : Nat) (zb : List Int) (A : Int) (w : World) (s0 : 0 ≤ s) (h0 : 0 ≤ h) (hl : gz.length ≤ 1000) (hr : RdA w a gz) (lh : zh.length ≤ 10000) (lb : zb.length ≤ 10000)
    (sh : Src8 w (.slice a1 zh.length c1) zh) (bh : ∀ z ∈ zh, 0 ≤ z ∧ z ≤ 255) (sb : Sl w (.slice a2 zb.length c2) zb) (bb : ∀ z ∈ zb, 0 ≤ z ∧ z ≤ 255) (hc : ¬ chk r s h m gz = 0) (hq : ¬ Bad zb A r) :
    Calls Try.prog 3 #[.int .i64 r, .agg #[.int .u8 s, .int .u8 h, .int .i64 m, .slice a gz.length cap], .slice a1 zh.length c1, .slice a2 zb.length c2, .int .i64 A] w fun e w' => e = .returned (.bool true) ∧ Below w.heap.size w w' := by
  have HB := Lib.hid (box_below w (.cells #[.int .u8 s, .int .u8 h, .int .i64 m, .slice a gz.length cap] 24))
  have HP := Lib.hid (fun w1 (k : Below w.heap.size w w1) => put_ok r s h m a cap gz w1 (by omega) (hr.below k) s0 h0)
  have HG := Lib.hid (fun w1 (k : Below w.heap.size w w1) => get_good (A := A) (r := r) (sb.below k) (by unfold maxLen; omega) bb hq)
  have HR := Lib.hid hr
  have SH := Lib.hid sh
  have BH := Lib.hid bh
  have SB := Lib.hid sb
  have l1 : ¬ (1000 : Int) < (gz.length : Int) := by omega
  have l2 : ¬ (10000 : Int) < (zh.length : Int) := by omega
  have l3 : ¬ (10000 : Int) < (zb.length : Int) := by omega
  have HC := Lib.hid hc
  obtain ⟨A0, A1⟩ := some_at hq
  obtain ⟨A', rfl⟩ : ∃ k : Nat, A = k := ⟨A.toNat, by omega⟩
  have sb' := sb
  obtain ⟨b2, off2, rfl, lc2, lm2⟩ : ∃ b2 off2, a2 = some ⟨b2, off2, none⟩ ∧ zb.length ≤ c2 ∧ c2 ≤ maxLen := by
    rcases sb' with ⟨_, _, _, rfl⟩ | ⟨b, off, cap', e, _, hc', hm', _⟩
    · simp at A1; omega
    · cases e; exact ⟨b, off, rfl, hc', hm'⟩
  unfold maxLen at lm2
  have hnc : ¬ c2 = A' := by omega
  clear hr sh bh sb sb' hq bb
  have c6 : (chk r s h m gz == 0) = false := by simpa using hc
  have hne : ¬ chk r s h m gz = 0 := hc
  clear hc
  go_enter Try.func3, Try.ntmps3
  go_wp2_with (first
    | (go_at_call 7; ((with_reducible refine (In.alive_ok _).mono ?_); rintro e w1 ⟨rfl, hb⟩; have hb1 := belowT HB.out hb; obtain ⟨z0, z1, z2, z3⟩ := boxed w s h m (.slice a gz.length cap) w1 hb; have HB1 := Lib.hid hb; clear hb))
    | (go_at_call 8; ((with_reducible refine (HP.out _ hb1).mono ?_); rintro e w6 ⟨⟨v2, rfl, _, k2⟩, hb⟩; obtain rfl := k2 hne; have hb6 := belowT hb1 hb; clear k2 hb))
    | (go_at_call 9; ((with_reducible refine (HG.out _ hb6).mono ?_); rintro e w7 ⟨q, h', m', g', g7, cap7, hgd, rfl, rd7, hb⟩; have hb7 := belowT hb6 hb; have GD := Lib.hid hgd; have hgl := good_len hgd; have hal := (Below.refl w7.heap.size w7).alloc (Nat.le_refl _) (.cells #[.int .u8 q, .int .u8 h', .int .i64 m', .slice (some ⟨g7, 0, none⟩) g'.length cap7] 24); have RD := Lib.hid (rd7.below hal); have hb7a := belowT hb7 hal; have HP2 := Lib.hid (put_ok r q h' m' (some ⟨g7, 0, none⟩) cap7 g' _ (by omega) RD.out hgd.q0 hgd.h0); rw [hgd.c] at HP2; clear hb rd7 hal hgd))
    | (go_at_call 8; ((with_reducible refine HP2.out.mono ?_); rintro e w8 ⟨⟨v8, rfl, k8, _⟩, hb⟩; obtain ⟨a8, c8, rfl⟩ := (k8 (by trivial)).shape; have S8 := Lib.hid (k8 (by trivial)); have hb8 := belowT hb7a hb; have HB8 := Lib.hid hb; clear k8 hb)))
  have hgc := GD.out.c
  have hgle := GD.out.le
  have hge : ((zb.drop A').take (putL q h' m' g').length) = putL q h' m' g' := by
    have e := GD.out.e
    rw [Int.toNat_natCast] at e
    rw [e, List.take_append_of_le_length (Nat.le_refl _), List.take_of_length_le (Nat.le_refl _)]
  have HCK := Lib.hid (fun w1 (k : Below w8.heap.size w8 w1) => check_ok r q h' m' (some ⟨g7, 0, none⟩) cap7 g' w1 (by omega) (RD.out.below (belowT HB8.out k)))
  rw [hgc] at HCK
  obtain ⟨n, hn⟩ : ∃ n, (putL q h' m' g').length = n := ⟨_, rfl⟩
  have KS : Hid (∀ w', Below w8.heap.size w8 w' → (convert 25 9 (.slice a8 n c8)).run Try.prog w' = .ok (.string (strOfNums (putL q h' m' g'))) w' ∧ (convert 25 9 (.slice (some ⟨b2, off2 + A', none⟩) n (c2 - A'))).run Try.prog w' = .ok (.string (strOfNums (putL q h' m' g'))) w' ∧ w'.cell? ⟨w7.heap.size, 0, none⟩ = some (.int .u8 q) ∧ w'.cell? ⟨w7.heap.size, 1, none⟩ = some (.int .u8 h') ∧ w'.cell? ⟨w7.heap.size, 2, none⟩ = some (.int .i64 m') ∧ w'.cell? ⟨w7.heap.size, 3, none⟩ = some (.slice (some ⟨g7, 0, none⟩) g'.length cap7)) := Lib.hid fun w' k => by
    have z := boxed w7 q h' m' (.slice (some ⟨g7, 0, none⟩) g'.length cap7) w' (belowT HB8.out k)
    refine ⟨?_, ?_, z⟩
    · have := S8.out.below k
      rw [hn] at this
      exact conv_src this
    · have := sl_src (k := A') (n := n) (SB.out.below (belowT hb8 k)) rfl (by omega)
      rw [← hn, hge] at this
      rw [← hn]
      exact conv_src this
  rw [hn] at hgl hgle
  have hn1 : 11 ≤ n := hgl.1
  have hn2 : A' + n ≤ zb.length := by omega
  have hn3 : A' + n ≤ c2 := by omega
  have hw1 : IntKind.i64.wrap ((A' : Int) + (n : Int)) = (A' : Int) + (n : Int) := Bi.i64_in (by omega) (by omega)
  have hi1 : (0 : Int) ≤ (A' : Int) := by omega
  have hi2 : (A' : Int) ≤ (A' : Int) + (n : Int) := by omega
  have hi3 : (A' : Int) + (n : Int) ≤ (c2 : Int) := by omega
  have ht1 : ((A' : Int) + (n : Int)).toNat = A' + n := by omega
  have ht2 : ((A' : Int) + (n : Int) - (A' : Int)).toNat = n := by omega
  simp only [hn]
  clear hgl hgle hge hgc hn
  generalize strOfNums (putL q h' m' g') = STR at *
  obtain ⟨s1, s2, s3, s4, s5, s6⟩ := KS.out _ (Below.refl _ w8)
  go_region_held3 (fun w' => (convert 25 9 (.slice a8 n c8)).run Try.prog w' = .ok (.string STR) w' ∧ (convert 25 9 (.slice (some ⟨b2, off2 + A', none⟩) n (c2 - A'))).run Try.prog w' = .ok (.string STR) w' ∧ w'.cell? ⟨w7.heap.size, 0, none⟩ = some (.int .u8 q) ∧ w'.cell? ⟨w7.heap.size, 1, none⟩ = some (.int .u8 h') ∧ w'.cell? ⟨w7.heap.size, 2, none⟩ = some (.int .i64 m') ∧ w'.cell? ⟨w7.heap.size, 3, none⟩ = some (.slice (some ⟨g7, 0, none⟩) g'.length cap7)) (first | exact KS.out _ ((Below.refl _ _).drew) | exact KS.out _ hb9k) (first | (go_at_call 11; ((with_reducible refine (HCK.out _ ((Below.refl _ _).drew)).mono ?_); rintro e w9 ⟨rfl, hb9⟩; have hb9k : Below w8.heap.size w8 w9 := ((Below.refl _ w8).drew).trans hb9)))
  go_wp2
  go_ret
  exact ⟨rfl, belowT hb8 hb9k⟩
set_option maxRecDepth 100000 in
set_option maxHeartbeats 8000000 in
theorem main11 (r s h m : Int) (a : Option Addr) (cap : Nat) (gz : List Int) (a1 : Option Addr) (c1 : Nat) (zh : List Int) (a2 : Option Addr) (c2 : Nat) (zb : List Int) (A : Int) (w : World) (s0 : 0 ≤ s) (h0 : 0 ≤ h) (hl : gz.length ≤ 1000) (hr : RdA w a gz) (lh : zh.length ≤ 10000) (lb : zb.length ≤ 10000)
    (sh : Src8 w (.slice a1 zh.length c1) zh) (bh : ∀ z ∈ zh, 0 ≤ z ∧ z ≤ 255) (sb : Sl w (.slice a2 zb.length c2) zb) (bb : ∀ z ∈ zb, 0 ≤ z ∧ z ≤ 255) (hc : chk r s h m gz = 0) (hq : ¬ Bad zb A r) :
    Calls Try.prog 3 #[.int .i64 r, .agg #[.int .u8 s, .int .u8 h, .int .i64 m, .slice a gz.length cap], .slice a1 zh.length c1, .slice a2 zb.length c2, .int .i64 A] w fun e w' => e = .returned (.bool true) ∧ Below w.heap.size w w' := by
  have HB := Lib.hid (box_below w (.cells #[.int .u8 s, .int .u8 h, .int .i64 m, .slice a gz.length cap] 24))
  have HP := Lib.hid (fun w1 (k : Below w.heap.size w w1) => put_ok r s h m a cap gz w1 (by omega) (hr.below k) s0 h0)
  have HG := Lib.hid (fun w1 (k : Below w.heap.size w w1) => get_good (A := A) (r := r) (sb.below k) (by unfold maxLen; omega) bb hq)
  have HR := Lib.hid hr
  have SH := Lib.hid sh
  have BH := Lib.hid bh
  have SB := Lib.hid sb
  have l1 : ¬ (1000 : Int) < (gz.length : Int) := by omega
  have l2 : ¬ (10000 : Int) < (zh.length : Int) := by omega
  have l3 : ¬ (10000 : Int) < (zb.length : Int) := by omega
  have HC := Lib.hid hc
  obtain ⟨A0, A1⟩ := some_at hq
  obtain ⟨A', rfl⟩ : ∃ k : Nat, A = k := ⟨A.toNat, by omega⟩
  have sb' := sb
  obtain ⟨b2, off2, rfl, lc2, lm2⟩ : ∃ b2 off2, a2 = some ⟨b2, off2, none⟩ ∧ zb.length ≤ c2 ∧ c2 ≤ maxLen := by
    rcases sb' with ⟨_, _, _, rfl⟩ | ⟨b, off, cap', e, _, hc', hm', _⟩
    · simp at A1; omega
    · cases e; exact ⟨b, off, rfl, hc', hm'⟩
  unfold maxLen at lm2
  have hnc : ¬ c2 = A' := by omega
  clear hr sh bh sb sb' hq bb
  have HL : Hid ((putL s h m gz).length ≤ 1000) := Lib.hid (by
    have h1 := chk_parts hc
    by_cases e : s = 2
    · subst e
      rw [show win 2 = 8 from rfl] at h1
      simp [putL, pre_len, (grb_len h1.2.2.2.2.2.2).1]
    · simp [putL, pre_len, e])
  rw [hc] at HP
  clear hc
  go_enter Try.func3, Try.ntmps3
  go_wp2_with (first
    | (go_at_call 7; ((with_reducible refine (In.alive_ok _).mono ?_); rintro e w1 ⟨rfl, hb⟩; have hb1 := belowT HB.out hb; obtain ⟨z0, z1, z2, z3⟩ := boxed w s h m (.slice a gz.length cap) w1 hb; have HB1 := Lib.hid hb; clear hb))
    | (go_at_call 8; ((with_reducible refine (HP.out _ hb1).mono ?_); rintro e w2 ⟨⟨v2, rfl, k2, _⟩, hb⟩; obtain ⟨a3, c3, rfl⟩ := (k2 (by trivial)).shape; have S2 := Lib.hid (k2 (by trivial)); have hb2 := belowT hb1 hb; have HB2 := Lib.hid (belowT HB1.out hb); clear k2 hb; have hoe : Cr.Own w2.heap.size (w2.alloc (.cells #[] 5)) (.slice (some ⟨w2.heap.size, 0, none⟩) 0 0) [] := World.ownsRow_made w2 #[] 0 (Nat.le_refl _) (Nat.zero_le _) rfl; have hba : Below w2.heap.size w2 (w2.alloc (.cells #[] 5)) := (Below.refl _ _).alloc (Nat.le_refl _) _; have hsz := hba.size))
    | (at_builtin; refine wpList_append_src _ rfl (.tmp 51) (.tmp 52) rfl w2.heap.size _ [] rfl hoe _ (putL s h m gz) rfl (S2.out.below hba) (by have := HL.out; simp; omega) hsz ?_; intro v3 w3 ho3 hg3 _; have hb3 := below_grown hba hoe (Nat.le_refl _) hg3; have hs3 := hb3.size)
    | (at_builtin; refine wpList_append_src _ rfl (.tmp 53) (.tmp 54) rfl w2.heap.size _ _ rfl ho3 _ zh rfl (SH.out.below (belowT hb2 hb3)) (by have := HL.out; simp; omega) hs3 ?_; intro v4 w4 ho4 hg4 _; have hb4 := below_grown hb3 ho3 (Nat.le_refl _) hg4; have hb24 := belowT hb2 hb4; obtain ⟨a4, c4, rfl⟩ := (own_src ho4).shape; have HX := Lib.hid (get_put (r := r) (s := s) (h := h) (m := m) (gz := gz) (zb := zh) (w := w4) (a := a4) (c := c4) (by have := ho4.sl; simpa using this) (by have := HL.out; simp; unfold maxLen; omega) BH.out HC.out s0 h0); have HB4 := Lib.hid (belowT HB2.out hb4); have e4 : ([] ++ putL s h m gz ++ zh).length = (putL s h m gz ++ zh).length := rfl)
    | (go_at_call 9; ((with_reducible refine HX.out.mono ?_); rintro e w5 ⟨g5, cap5, rfl, rd5, hb⟩; have hb5 := belowT hb24 hb; have HB5 := Lib.hid (belowT HB4.out hb); obtain ⟨z05, z15, z25, z35⟩ := boxed w s h m (.slice a gz.length cap) _ HB5.out; have hal := (Below.refl w5.heap.size w5).alloc (Nat.le_refl _) (.cells #[.int .u8 s, .int .u8 h, .int .i64 m, .slice (some ⟨g5, 0, none⟩) gz.length cap5] 24); have HS := Lib.hid (same_yes s h m (some ⟨g5, 0, none⟩) a cap5 cap gz _ (by omega) (rd5.below hal) (HR.out.below (belowT hb5 hal))); have hb5a := belowT hb5 hal; have HB5a := Lib.hid (belowT HB5.out hal); obtain ⟨z05a, z15a, z25a, z35a⟩ := boxed w s h m (.slice a gz.length cap) _ HB5a.out; clear hb rd5 hal))
    | (go_at_call 10; ((with_reducible refine HS.out.mono ?_); rintro e w6 ⟨rfl, hb⟩; have hb6 := belowT hb5a hb; clear hb))
    | (go_at_call 9; ((with_reducible refine (HG.out _ hb6).mono ?_); rintro e w7 ⟨q, h', m', g', g7, cap7, hgd, rfl, rd7, hb⟩; have hb7 := belowT hb6 hb; have GD := Lib.hid hgd; have hgl := good_len hgd; have hal := (Below.refl w7.heap.size w7).alloc (Nat.le_refl _) (.cells #[.int .u8 q, .int .u8 h', .int .i64 m', .slice (some ⟨g7, 0, none⟩) g'.length cap7] 24); have RD := Lib.hid (rd7.below hal); have hb7a := belowT hb7 hal; have HP2 := Lib.hid (put_ok r q h' m' (some ⟨g7, 0, none⟩) cap7 g' _ (by omega) RD.out hgd.q0 hgd.h0); rw [hgd.c] at HP2; clear hb rd7 hal hgd))
    | (go_at_call 8; ((with_reducible refine HP2.out.mono ?_); rintro e w8 ⟨⟨v8, rfl, k8, _⟩, hb⟩; obtain ⟨a8, c8, rfl⟩ := (k8 (by trivial)).shape; have S8 := Lib.hid (k8 (by trivial)); have hb8 := belowT hb7a hb; have HB8 := Lib.hid hb; clear k8 hb)))
  have hgc := GD.out.c
  have hgle := GD.out.le
  have hge : ((zb.drop A').take (putL q h' m' g').length) = putL q h' m' g' := by
    have e := GD.out.e
    rw [Int.toNat_natCast] at e
    rw [e, List.take_append_of_le_length (Nat.le_refl _), List.take_of_length_le (Nat.le_refl _)]
  have HCK := Lib.hid (fun w1 (k : Below w8.heap.size w8 w1) => check_ok r q h' m' (some ⟨g7, 0, none⟩) cap7 g' w1 (by omega) (RD.out.below (belowT HB8.out k)))
  rw [hgc] at HCK
  obtain ⟨n, hn⟩ : ∃ n, (putL q h' m' g').length = n := ⟨_, rfl⟩
  have KS : Hid (∀ w', Below w8.heap.size w8 w' → (convert 25 9 (.slice a8 n c8)).run Try.prog w' = .ok (.string (strOfNums (putL q h' m' g'))) w' ∧ (convert 25 9 (.slice (some ⟨b2, off2 + A', none⟩) n (c2 - A'))).run Try.prog w' = .ok (.string (strOfNums (putL q h' m' g'))) w' ∧ w'.cell? ⟨w7.heap.size, 0, none⟩ = some (.int .u8 q) ∧ w'.cell? ⟨w7.heap.size, 1, none⟩ = some (.int .u8 h') ∧ w'.cell? ⟨w7.heap.size, 2, none⟩ = some (.int .i64 m') ∧ w'.cell? ⟨w7.heap.size, 3, none⟩ = some (.slice (some ⟨g7, 0, none⟩) g'.length cap7)) := Lib.hid fun w' k => by
    have z := boxed w7 q h' m' (.slice (some ⟨g7, 0, none⟩) g'.length cap7) w' (belowT HB8.out k)
    refine ⟨?_, ?_, z⟩
    · have := S8.out.below k
      rw [hn] at this
      exact conv_src this
    · have := sl_src (k := A') (n := n) (SB.out.below (belowT hb8 k)) rfl (by omega)
      rw [← hn, hge] at this
      rw [← hn]
      exact conv_src this
  rw [hn] at hgl hgle
  have hn1 : 11 ≤ n := hgl.1
  have hn2 : A' + n ≤ zb.length := by omega
  have hn3 : A' + n ≤ c2 := by omega
  have hw1 : IntKind.i64.wrap ((A' : Int) + (n : Int)) = (A' : Int) + (n : Int) := Bi.i64_in (by omega) (by omega)
  have hi1 : (0 : Int) ≤ (A' : Int) := by omega
  have hi2 : (A' : Int) ≤ (A' : Int) + (n : Int) := by omega
  have hi3 : (A' : Int) + (n : Int) ≤ (c2 : Int) := by omega
  have ht1 : ((A' : Int) + (n : Int)).toNat = A' + n := by omega
  have ht2 : ((A' : Int) + (n : Int) - (A' : Int)).toNat = n := by omega
  simp only [hn]
  clear hgl hgle hge hgc hn
  generalize strOfNums (putL q h' m' g') = STR at *
  obtain ⟨s1, s2, s3, s4, s5, s6⟩ := KS.out _ (Below.refl _ w8)
  go_region_held3 (fun w' => (convert 25 9 (.slice a8 n c8)).run Try.prog w' = .ok (.string STR) w' ∧ (convert 25 9 (.slice (some ⟨b2, off2 + A', none⟩) n (c2 - A'))).run Try.prog w' = .ok (.string STR) w' ∧ w'.cell? ⟨w7.heap.size, 0, none⟩ = some (.int .u8 q) ∧ w'.cell? ⟨w7.heap.size, 1, none⟩ = some (.int .u8 h') ∧ w'.cell? ⟨w7.heap.size, 2, none⟩ = some (.int .i64 m') ∧ w'.cell? ⟨w7.heap.size, 3, none⟩ = some (.slice (some ⟨g7, 0, none⟩) g'.length cap7)) (first | exact KS.out _ ((Below.refl _ _).drew) | exact KS.out _ hb9k) (first | (go_at_call 11; ((with_reducible refine (HCK.out _ ((Below.refl _ _).drew)).mono ?_); rintro e w9 ⟨rfl, hb9⟩; have hb9k : Below w8.heap.size w8 w9 := ((Below.refl _ w8).drew).trans hb9)))
  go_wp2
  go_ret
  exact ⟨rfl, belowT hb8 hb9k⟩
set_option maxRecDepth 100000 in
theorem long (r s h m : Int) (a : Option Addr) (cap : Nat) (gz : List Int) (a1 : Option Addr) (n1 c1 : Nat) (a2 : Option Addr) (n2 c2 : Nat) (A : Int) (w : World) (m0 : gz.length ≤ maxLen) (m1 : n1 ≤ maxLen) (m2 : n2 ≤ maxLen) (hlong : 1000 < gz.length ∨ 10000 < n1 ∨ 10000 < n2) :
    Calls Try.prog 3 #[.int .i64 r, .agg #[.int .u8 s, .int .u8 h, .int .i64 m, .slice a gz.length cap], .slice a1 n1 c1, .slice a2 n2 c2, .int .i64 A] w fun e w' => e = .returned (.bool true) ∧ Below w.heap.size w w' := by
  have HB := Lib.hid (box_below w (.cells #[.int .u8 s, .int .u8 h, .int .i64 m, .slice a gz.length cap] 24))
  unfold maxLen at m0 m1 m2
  by_cases h1 : 1000 < gz.length
  · have h1' : (1000 : Int) < (gz.length : Int) := by omega
    clear hlong
    go_enter Try.func3, Try.ntmps3
    go_wp2_with (go_at_call 7; ((with_reducible refine (In.alive_ok _).mono ?_); rintro e w1 ⟨rfl, hb⟩; have hb1 := belowT HB.out hb; obtain ⟨z0, z1, z2, z3⟩ := boxed w s h m (.slice a gz.length cap) w1 hb; clear hb))
    go_ret
    exact ⟨rfl, hb1⟩
  have h1' : ¬ (1000 : Int) < (gz.length : Int) := by omega
  by_cases h2 : 10000 < n1
  · have h2' : (10000 : Int) < (n1 : Int) := by omega
    clear hlong
    go_enter Try.func3, Try.ntmps3
    go_wp2_with (go_at_call 7; ((with_reducible refine (In.alive_ok _).mono ?_); rintro e w1 ⟨rfl, hb⟩; have hb1 := belowT HB.out hb; obtain ⟨z0, z1, z2, z3⟩ := boxed w s h m (.slice a gz.length cap) w1 hb; clear hb))
    go_ret
    exact ⟨rfl, hb1⟩
  · have h2' : ¬ (10000 : Int) < (n1 : Int) := by omega
    have h3 : (10000 : Int) < (n2 : Int) := by omega
    clear hlong
    go_enter Try.func3, Try.ntmps3
    go_wp2_with (go_at_call 7; ((with_reducible refine (In.alive_ok _).mono ?_); rintro e w1 ⟨rfl, hb⟩; have hb1 := belowT HB.out hb; obtain ⟨z0, z1, z2, z3⟩ := boxed w s h m (.slice a gz.length cap) w1 hb; clear hb))
    go_ret
    exact ⟨rfl, hb1⟩
set_option linter.unusedVariables false in
theorem walk (r s h m : Int) (a : Option Addr) (cap : Nat) (gz : List Int) (a1 : Option Addr) (n1 c1 : Nat) (z1 : List Int) (a2 : Option Addr) (n2 c2 : Nat) (z2 : List Int) (A : Int) (w : World) (hr : (Lit.int .i64 r).wf = true) (hs : (Lit.int .u8 s).wf = true) (hh : (Lit.int .u8 h).wf = true) (hm : (Lit.int .i64 m).wf = true) (hl : gz.length ≤ maxLen) (hrow : RowA .i64 w a gz) (he : ∀ n ∈ gz, (Lit.int .i64 n).wf = true) (w1 : IsRow .u8 w a1 n1 c1 z1) (w2 : IsRow .u8 w a2 n2 c2 z2) (hA : (Lit.int .i64 A).wf = true) :
    Calls Try.prog 3 #[.int .i64 r, .agg #[.int .u8 s, .int .u8 h, .int .i64 m, .slice a gz.length cap], .slice a1 n1 c1, .slice a2 n2 c2, .int .i64 A] w fun e w' => e = .returned (.bool true) ∧ Below w.heap.size w w' := by
  by_cases hlong : 1000 < gz.length ∨ 10000 < n1 ∨ 10000 < n2
  · exact long r s h m a cap gz a1 n1 c1 a2 n2 c2 A w hl w1.le w2.le hlong
  obtain ⟨zh, rfl, q1, _, q2⟩ := came w1
  obtain ⟨zb, rfl, _, q3, q4⟩ := came w2
  have s0 := (bounds_u8 hs).1
  have h0 := (bounds_u8 hh).1
  by_cases hc : chk r s h m gz = 0
  · by_cases hq : Bad zb A r
    · exact main10 r s h m a cap gz a1 c1 zh a2 c2 zb A w s0 h0 (by omega) hrow (by omega) (by omega) q1 q2 q3 q4 hc hq
    · exact main11 r s h m a cap gz a1 c1 zh a2 c2 zb A w s0 h0 (by omega) hrow (by omega) (by omega) q1 q2 q3 q4 hc hq
  · by_cases hq : Bad zb A r
    · exact main00 r s h m a cap gz a1 c1 zh a2 c2 zb A w s0 h0 (by omega) hrow (by omega) (by omega) q1 q2 q3 q4 hc hq
    · exact main01 r s h m a cap gz a1 c1 zh a2 c2 zb A w s0 h0 (by omega) hrow (by omega) (by omega) q1 q2 q3 q4 hc hq
theorem own : ownKnob Try.prog.godebug = none := by kernel_rfl
theorem laidOut : laidOutB Try.prog = true := by kernel_rfl
set_option linter.unusedVariables false
set_option maxRecDepth 100000 in
theorem lifted (os : Os) (started : os.Started) (H : Type) (enc : TypeId × Value → H) :
    ReturnsInHanded {} Try.checked os 3 .any (Rows.infoBackSpec.pre6 enc Try.prog Try.f3 Rows.infoBackRow.domain false) (Rows.infoBackSpec.post enc Try.prog Try.f3 false true false false) := by
  refine returnsInHanded_of_change (C := Try.checked) own started (by kernel_rfl) Try.func3
    (ChangeSpec.witness6 (enc := enc) (C := Try.checked) false ⟨#[], #[.int .i64 0, .agg #[.int .u8 0, .int .u8 0, .int .i64 0, .slice none 0 0], .slice none 0 0, .slice none 0 0, .int .i64 0], []⟩ 8 (by kernel_rfl) (by kernel_rfl) (by kernel_rfl) (by kernel_rfl)) ?_
  intro W base args ds gs before hval0 hW hcnd _
  have hval : ∀ (j : Nat) t v, Try.f3.params[j]? = some t → args[j]? = some v → Value.okWide Try.prog W .any base t v := hval0
  have hW' := hW
  obtain ⟨p, q, hA0, hV, rfl, hfz, hnd⟩ := hW
  have hA : DataW.TrodAll enc Try.prog W 0 (fun _ => true) true Try.f3.params.toList args.toList ds p := hA0
  rw [Try.params3] at hA hval
  obtain ⟨v0, vs0, d0, ds0, p0, q0, hargs, rfl, rfl, h0, r0⟩ := trodAll_cons hA
  obtain ⟨v1, vs1, d1, ds1, p1, q1, rfl, rfl, rfl, h1, r1⟩ := trodAll_cons r0
  obtain ⟨v2, vs2, d2, ds2, p2, q2, rfl, rfl, rfl, h2, r2⟩ := trodAll_cons r1
  obtain ⟨v3, vs3, d3, ds3, p3, q3, rfl, rfl, rfl, h3, r3⟩ := trodAll_cons r2
  obtain ⟨v4, vs4, d4, ds4, p4, q4, rfl, rfl, rfl, h4, r4⟩ := trodAll_cons r3
  obtain ⟨rfl, rfl, rfl⟩ := trodAll_nil r4
  obtain rfl : args = #[v0, v1, v2, v3, v4] := by cases args; simp_all
  obtain ⟨rfl, rfl⟩ := trodVars_none hV
  obtain ⟨a0, rfl, rfl, rfl, w0⟩ := open_int Try.underlying3 (hval 0 3 v0 rfl rfl) h0
  have k1 := h1
  have lt1 : ∀ x ∈ p1, x.block < W.heap.size := by obtain ⟨m, hm⟩ := k1; exact DataW.trod_lt m _ _ _ hm
  obtain ⟨a1s, a1h, a1m, a1a, a1c, a1z, rfl, w1s, w1h, w1m, l1, r1r, e1⟩ := open_info Try.underlying24 rfl rfl rfl rfl Try.underlying5 Try.underlying5 Try.underlying3 Try.underlying22 Try.underlying3 (by kernel_rfl) (by kernel_rfl) (by kernel_rfl) (by kernel_rfl) (by kernel_rfl) (by kernel_rfl) (hval 1 24 v1 rfl rfl) h1
  obtain ⟨a2, len2, cap2, rfl⟩ := okWide_slice Try.underlying25 (hval 2 25 v2 rfl rfl)
  have k2 := h2
  have lt2 : ∀ x ∈ p2, x.block < W.heap.size := by obtain ⟨m, hm⟩ := k2; exact DataW.trod_lt m _ _ _ hm
  obtain ⟨z2, w2⟩ : ∃ zs, IsRow .u8 W a2 len2 cap2 zs := by
    obtain ⟨fuel, hf⟩ := h2
    rcases open_ints Try.underlying25 Try.underlying5 (by kernel_rfl) hf with ⟨hcs, _⟩ | ⟨x, l, c, zs, hcs, _, hl, hm, hz, _, hcell, hwz⟩
    · simp [Value.cells] at hcs
      obtain ⟨rfl, rfl, rfl⟩ := hcs
      exact ⟨[], .inl ⟨rfl, rfl, rfl, rfl⟩⟩
    · simp [Value.cells] at hcs
      obtain ⟨rfl, rfl, rfl⟩ := hcs
      exact ⟨zs, .inr ⟨_, rfl, hl, hm, by simpa using hz, hcell, hwz⟩⟩
  obtain ⟨a3, len3, cap3, rfl⟩ := okWide_slice Try.underlying25 (hval 3 25 v3 rfl rfl)
  have k3 := h3
  have lt3 : ∀ x ∈ p3, x.block < W.heap.size := by obtain ⟨m, hm⟩ := k3; exact DataW.trod_lt m _ _ _ hm
  obtain ⟨z3, w3⟩ : ∃ zs, IsRow .u8 W a3 len3 cap3 zs := by
    obtain ⟨fuel, hf⟩ := h3
    rcases open_ints Try.underlying25 Try.underlying5 (by kernel_rfl) hf with ⟨hcs, _⟩ | ⟨x, l, c, zs, hcs, _, hl, hm, hz, _, hcell, hwz⟩
    · simp [Value.cells] at hcs
      obtain ⟨rfl, rfl, rfl⟩ := hcs
      exact ⟨[], .inl ⟨rfl, rfl, rfl, rfl⟩⟩
    · simp [Value.cells] at hcs
      obtain ⟨rfl, rfl, rfl⟩ := hcs
      exact ⟨zs, .inr ⟨_, rfl, hl, hm, by simpa using hz, hcell, hwz⟩⟩
  obtain ⟨a4, rfl, rfl, rfl, w4⟩ := open_int Try.underlying3 (hval 4 3 v4 rfl rfl) h4
  clear hA0 hval0
  refine (walk a0 a1s a1h a1m a1a a1c a1z a2 len2 cap2 z2 a3 len3 cap3 z3 a4 W w0 w1s w1h w1m l1 r1r e1 w2 w3 w4).mono fun e W' ⟨he, bel⟩ => ?_
  subst he
  exact ⟨_, rfl, _, _, _, [], _, [], hW', trodAll_mk1 (shut_bool Try.underlying4 _), (trodAll_cons_mk (shut_int Try.underlying3 w0) (trodAll_cons_mk (Below.trod laidOut (by kernel_rfl) (of_decide_eq_true (by kernel_rfl)) k1 bel lt1) (trodAll_cons_mk (Below.trod laidOut (by kernel_rfl) (of_decide_eq_true (by kernel_rfl)) k2 bel lt2) (trodAll_cons_mk (Below.trod laidOut (by kernel_rfl) (of_decide_eq_true (by kernel_rfl)) k3 bel lt3) (trodAll_cons_mk (shut_int Try.underlying3 w4) trodAll_mk0))))), rfl, bel.frame _, fun h => by cases h⟩

theorem over : Rows.infoBackRow.holds Try.pinned (OpenSpec.ofChange Rows.infoBackSpec) :=
  OpenClaim.holds_of_wide 3 Try.f3 rfl rfl rfl rfl rfl rfl rfl ⟨rfl, rfl, rfl, rfl, rfl⟩ rfl rfl rfl rfl rfl (by kernel_rfl) Try.func3 (by kernel_rfl)
    (of_decide_eq_true (by kernel_rfl)) (by unfold Func.isWrapper; first | (rw [if_pos (by decide +kernel)]; kernel_rfl) | (rw [if_neg (by decide +kernel)]; exact ⟨rfl, rfl⟩))
    (fun os started H enc _ => lifted os started H enc)

theorem proved : Rows.InfoBackSaid := over
end Go.Proofs.Ytchefgnefcabnaa.infoBack
