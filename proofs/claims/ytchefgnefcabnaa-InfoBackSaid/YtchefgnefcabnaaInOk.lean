/- What info's Get answers, all in one. -/
import Derived.Test.YtchefgnefcabnaaInGet
import Derived.Test.YtchefgnefcabnaaMrg2
namespace Go.Proofs.Ytchefgnefcabnaa.In
open Go Go.ChangeShapes Go.WideShapes Go.ChangeAt Go.RowKit Go.Shelf Go.Proofs.Ytchefgnefcabnaa.Bi Go.Proofs.Ytchefgnefcabnaa.If
open Go.Proofs.Ytchefgnefcabnaa.Cr (Own Bits Sl)

theorem putL_eq (q h m : Int) (gz : List Int) : putL q h m gz = bi 0 1 ++ (bi q 2 ++ (bi h 1 ++ (if q = 2 then bi m 4 ++ grb gz else bi m 6 ++ [0]))) := by
  unfold putL pre
  split <;> simp [List.append_assoc]
theorem chain {zs rest gz' : List Int} {A z q h A1 A2 A3 E1 E2 E3 r q' h' m' : Int} (h1 : gs zs A 0 1 = (z, A1, E1)) (h2 : gs zs A1 E1 2 = (q, A2, E2)) (h3 : gs zs A2 E2 1 = (h, A3, E3))
    (hc : chk r q' h' m' gz' = 0) (q0 : 0 ≤ q') (h0 : 0 ≤ h') (hA : 0 ≤ A) (hp : zs.drop A.toNat = putL q' h' m' gz' ++ rest) :
    z = 0 ∧ q = q' ∧ h = h' ∧ E3 = 0 ∧ A3 = A + 4 ∧ zs.drop A3.toNat = (if q' = 2 then bi m' 4 ++ grb gz' else bi m' 6 ++ [0]) ++ rest := by
  obtain ⟨r0, r1, s3, p1, m0, m1, hg⟩ := chk_parts hc
  rw [putL_eq, List.append_assoc, List.append_assoc, List.append_assoc] at hp
  obtain ⟨a1, b1⟩ := gs_run (s := 1) hA hp (by decide) (by decide) (by decide)
  rw [a1] at h1
  simp only [Prod.mk.injEq] at h1
  obtain ⟨rfl, rfl, rfl⟩ := h1
  obtain ⟨a2, b2⟩ := gs_run (s := 2) (by omega) b1 q0 (by omega) (by decide)
  rw [a2] at h2
  simp only [Prod.mk.injEq] at h2
  obtain ⟨rfl, rfl, rfl⟩ := h2
  obtain ⟨a3, b3⟩ := gs_run (s := 1) (by omega) b2 h0 (by omega) (by decide)
  rw [a3] at h3
  simp only [Prod.mk.injEq] at h3
  obtain ⟨rfl, rfl, rfl⟩ := h3
  exact ⟨rfl, rfl, rfl, rfl, by omega, b3⟩
theorem chain_short {zs rest gz gz' : List Int} {A z q h m A1 A2 A3 A4 A5 E1 E2 E3 E4 E5 r q' h' m' : Int} (h1 : gs zs A 0 1 = (z, A1, E1)) (h2 : gs zs A1 E1 2 = (q, A2, E2)) (h3 : gs zs A2 E2 1 = (h, A3, E3)) (hq : q = 2)
    (h4 : gs zs A3 E3 4 = (m, A4, E4)) (hg : gl zs A4 E4 7 = gz) (ha : (gi zs A4 E4 7).2.1 = A5) (he : (gi zs A4 E4 7).2.2 = E5)
    (hc : chk r q' h' m' gz' = 0) (q0 : 0 ≤ q') (h0 : 0 ≤ h') (hA : 0 ≤ A) (hp : zs.drop A.toNat = putL q' h' m' gz' ++ rest) :
    z = 0 ∧ q = q' ∧ h = h' ∧ m = m' ∧ gz = gz' ∧ E5 = 0 := by
  obtain ⟨c1, c2, c3, c4, c5, c6⟩ := chain h1 h2 h3 hc q0 h0 hA hp
  obtain ⟨r0, r1, s3, p1, m0, m1, hgr⟩ := chk_parts hc
  subst hq
  subst c2
  have hmb := mny_bits true r0 r1
  rw [show ((2 : Int) == 2) = true from rfl] at m1
  rw [show win 2 = 8 from rfl] at hgr
  rw [if_pos rfl, List.append_assoc] at c6
  subst c4
  obtain ⟨a4, b4⟩ := gs_run (s := 4) (by omega) c6 m0 (by simp at hmb; omega) (by decide)
  rw [a4] at h4
  simp only [Prod.mk.injEq] at h4
  obtain ⟨rfl, rfl, rfl⟩ := h4
  obtain ⟨gl7, gne⟩ := grb_len hgr
  obtain ⟨a5, b5⟩ := gi_run (A := A3 + (4 : Nat)) (by omega) 7 (grb gz') rest gl7 (grb_bits gz') b4
  refine ⟨c1, rfl, c3, rfl, ?_, ?_⟩
  · rw [← hg]
    unfold gl
    rw [a5]
    exact grow_grb (grp_pos hgr) gne
  · rw [← he, a5]
theorem chain_long {zs rest gz' : List Int} {A z q h m z2 A1 A2 A3 A4 A5 E1 E2 E3 E4 E5 r q' h' m' : Int} (h1 : gs zs A 0 1 = (z, A1, E1)) (h2 : gs zs A1 E1 2 = (q, A2, E2)) (h3 : gs zs A2 E2 1 = (h, A3, E3)) (hq : ¬ q = 2)
    (h4 : gs zs A3 E3 6 = (m, A4, E4)) (h5 : gs zs A4 E4 1 = (z2, A5, E5))
    (hc : chk r q' h' m' gz' = 0) (q0 : 0 ≤ q') (h0 : 0 ≤ h') (hA : 0 ≤ A) (hp : zs.drop A.toNat = putL q' h' m' gz' ++ rest) :
    z + z2 = 0 ∧ q = q' ∧ h = h' ∧ m = m' ∧ [1] = gz' ∧ E5 = 0 := by
  obtain ⟨c1, c2, c3, c4, c5, c6⟩ := chain h1 h2 h3 hc q0 h0 hA hp
  obtain ⟨r0, r1, s3, p1, m0, m1, hgr⟩ := chk_parts hc
  subst c2
  have hmb := mny_bits (q == 2) r0 r1
  have hq2 : (q == 2) = false := by simpa using hq
  rw [hq2] at hmb m1
  rw [show win q = 1 by unfold win; rw [if_neg hq]] at hgr
  rw [if_neg hq, List.append_assoc] at c6
  subst c4
  obtain ⟨a4, b4⟩ := gs_run (s := 6) (by omega) c6 m0 (by simp at hmb; omega) (by decide)
  rw [a4] at h4
  simp only [Prod.mk.injEq] at h4
  obtain ⟨rfl, rfl, rfl⟩ := h4
  obtain ⟨a5, b5⟩ := gs_run (zs := zs) (A := A3 + ((6 : Nat) : Int)) (s := 1) (n := 0) (rest := rest) (by omega) (by rw [b4]; rfl) (by decide) (by decide) (by decide)
  rw [a5] at h5
  simp only [Prod.mk.injEq] at h5
  obtain ⟨rfl, rfl, rfl⟩ := h5
  exact ⟨by omega, rfl, c3, rfl, (grp_one hgr).symm, rfl⟩
/-- No windows are written at a place. -/
def Bad (zs : List Int) (A r : Int) : Prop := ∀ (q h m : Int) (gz rest : List Int), 0 ≤ q → 0 ≤ h → chk r q h m gz = 0 → 0 ≤ A → zs.drop A.toNat = putL q h m gz ++ rest → False
/-- These are. -/
structure Good (zs : List Int) (A r q h m : Int) (gz : List Int) : Prop where
  c : chk r q h m gz = 0
  q0 : 0 ≤ q
  h0 : 0 ≤ h
  a : 0 ≤ A
  le : A + (putL q h m gz).length ≤ zs.length
  e : zs.drop A.toNat = putL q h m gz ++ zs.drop (A + (putL q h m gz).length).toNat
  one : ∀ (q' h' m' : Int) (gz' rest : List Int), 0 ≤ q' → 0 ≤ h' → chk r q' h' m' gz' = 0 → zs.drop A.toNat = putL q' h' m' gz' ++ rest → q' = q ∧ h' = h ∧ m' = m ∧ gz' = gz
theorem good_short {zs gz : List Int} {A z q h m A1 A2 A3 A4 A5 E1 E2 E3 E4 r : Int} (h1 : gs zs A 0 1 = (z, A1, E1)) (h2 : gs zs A1 E1 2 = (q, A2, E2)) (h3 : gs zs A2 E2 1 = (h, A3, E3)) (hq : q = 2)
    (h4 : gs zs A3 E3 4 = (m, A4, E4)) (hg : gl zs A4 E4 7 = gz) (ha : (gi zs A4 E4 7).2.1 = A5) (he : (gi zs A4 E4 7).2.2 = 0) (hz : z = 0) (hc : chk r q h m gz = 0) : Good zs A r q h m gz ∧ A5 = A + (putL q h m gz).length := by
  have g5 := gi_good zs A4 E4 6 he
  obtain ⟨i1, i2, i3, i4, i5, i6⟩ := g5
  obtain ⟨j1, j2, j3, j4, j5, j6, j7⟩ := gs_good h4 i1
  obtain ⟨k1, k2, k3, k4, k5, k6, k7⟩ := gs_good h3 j1
  obtain ⟨l1, l2, l3, l4, l5, l6, l7⟩ := gs_good h2 k1
  obtain ⟨n1, n2, n3, n4, n5, n6, n7⟩ := gs_good h1 l1
  obtain ⟨r0, r1, s3, p1, m0, m1, hgr⟩ := chk_parts hc
  have hgb : grb gz = (gi zs A4 E4 7).1 := by
    rw [← hg]
    have := (grb_grow (gi zs A4 E4 7).1 [1] i6 (by simp) (by simp)).1
    unfold gl
    rw [this]
    simp [grb, grt, ones]
  have hlen : (putL q h m gz).length = 15 := by
    subst hq
    rw [show win 2 = 8 from rfl] at hgr
    simp [putL, pre_len, (grb_len hgr).1]
  have hA5 : A5 = A + 15 := by rw [← ha, i3]; omega
  refine ⟨⟨hc, l6, k6, n2, ?_, ?_, ?_⟩, by rw [hlen]; omega⟩
  · rw [hlen]
    rw [ha] at i4
    omega
  · rw [hlen, ← show A5 = A + ((15 : Nat) : Int) from hA5, n5, l5, k5, j5, i5, putL_eq, if_pos hq, hgb, hz, ha]
    simp only [List.append_assoc]
  · intro q' h' m' gz' rest q0 h0 hc' hp
    obtain ⟨_, c2, c3, c4, c5, _⟩ := chain_short h1 h2 h3 hq h4 hg ha he hc' q0 h0 n2 hp
    exact ⟨c2.symm, c3.symm, c4.symm, c5.symm⟩
theorem good_long {zs : List Int} {A z q h m z2 A1 A2 A3 A4 A5 E1 E2 E3 E4 r : Int} (h1 : gs zs A 0 1 = (z, A1, E1)) (h2 : gs zs A1 E1 2 = (q, A2, E2)) (h3 : gs zs A2 E2 1 = (h, A3, E3)) (hq : ¬ q = 2)
    (h4 : gs zs A3 E3 6 = (m, A4, E4)) (h5 : gs zs A4 E4 1 = (z2, A5, 0)) (hz : z + z2 = 0) (hc : chk r q h m [1] = 0) : Good zs A r q h m [1] ∧ A5 = A + (putL q h m [1]).length := by
  obtain ⟨i1, i2, i3, i4, i5, i6, i7⟩ := gs_good h5 rfl
  obtain ⟨j1, j2, j3, j4, j5, j6, j7⟩ := gs_good h4 i1
  obtain ⟨k1, k2, k3, k4, k5, k6, k7⟩ := gs_good h3 j1
  obtain ⟨l1, l2, l3, l4, l5, l6, l7⟩ := gs_good h2 k1
  obtain ⟨n1, n2, n3, n4, n5, n6, n7⟩ := gs_good h1 l1
  have hlen : (putL q h m [1]).length = 11 := by
    simp [putL, pre_len, hq]
  have hA5 : A5 = A + 11 := by omega
  have e2 : z2 = 0 := by omega
  have e1 : z = 0 := by omega
  refine ⟨⟨hc, l6, k6, n2, ?_, ?_, ?_⟩, by rw [hlen]; omega⟩
  · rw [hlen]
    omega
  · rw [hlen, ← show A5 = A + ((11 : Nat) : Int) from hA5, n5, l5, k5, j5, i5, putL_eq, if_neg hq, e1, e2, bi_one 0 (by decide) (by decide)]
    simp only [List.append_assoc]
  · intro q' h' m' gz' rest q0 h0 hc' hp
    obtain ⟨_, c2, c3, c4, c5, _⟩ := chain_long h1 h2 h3 hq h4 h5 hc' q0 h0 n2 hp
    exact ⟨c2.symm, c3.symm, c4.symm, c5.symm⟩
/-- What Get answers. -/
theorem get_ok {w : World} {a : Option Addr} {c : Nat} {zs : List Int} (hs : Sl w (.slice a zs.length c) zs) (hl : zs.length ≤ maxLen) (hz : ∀ z ∈ zs, 0 ≤ z ∧ z ≤ 255) (A r : Int) :
    Calls Try.prog 9 #[.slice a zs.length c, .int .i64 A, .int .i64 r] w fun e w' =>
      (∃ E, E ≠ 0 ∧ e = .returned (.tuple #[.agg #[.int .u8 0, .int .u8 0, .int .i64 0, .slice none 0 0], .int .i64 0, .int .i64 E]) ∧ Bad zs A r ∧ Below w.heap.size w w') ∨
      (∃ q h m gz g cap, e = .returned (.tuple #[.agg #[.int .u8 q, .int .u8 h, .int .i64 m, .slice (some ⟨g, 0, none⟩) gz.length cap], .int .i64 (A + (putL q h m gz).length), .int .i64 0]) ∧ Good zs A r q h m gz ∧ RdA w' (some ⟨g, 0, none⟩) gz ∧ Below w.heap.size w w') := by
  by_cases hr : r < 0 ∨ 11 < r
  · exact (get_rate A r hr).mono fun e w' ⟨h1, h2⟩ => .inl ⟨2, by decide, h1, fun q h m gz rest q0 h0 hc => absurd (chk_parts hc) (by omega), h2⟩
  have r0 : 0 ≤ r := by omega
  have r1 : r ≤ 11 := by omega
  obtain ⟨⟨z, A1, E1⟩, h1⟩ : ∃ x, gs zs A 0 1 = x := ⟨_, rfl⟩
  obtain ⟨⟨q, A2, E2⟩, h2⟩ : ∃ x, gs zs A1 E1 2 = x := ⟨_, rfl⟩
  obtain ⟨⟨h, A3, E3⟩, h3⟩ : ∃ x, gs zs A2 E2 1 = x := ⟨_, rfl⟩
  by_cases hq : q = 2
  · obtain ⟨⟨m, A4, E4⟩, h4⟩ : ∃ x, gs zs A3 E3 4 = x := ⟨_, rfl⟩
    obtain ⟨gz, hg⟩ : ∃ x, gl zs A4 E4 7 = x := ⟨_, rfl⟩
    obtain ⟨A5, ha⟩ : ∃ x, (gi zs A4 E4 7).2.1 = x := ⟨_, rfl⟩
    obtain ⟨E5, he⟩ : ∃ x, (gi zs A4 E4 7).2.2 = x := ⟨_, rfl⟩
    by_cases e5 : E5 = 0
    · subst e5
      by_cases hz0 : z = 0
      · by_cases hc : chk r q h m gz = 0
        · refine (short4 hs hl hz r0 r1 h1 h2 h3 hq h4 hg ha he rfl hz0 hc).mono fun e w' ⟨g, cap, k1, k2, k3⟩ => .inr ⟨q, h, m, gz, g, cap, ?_, ?_, k2, k3⟩
          · rw [k1, (good_short h1 h2 h3 hq h4 hg ha he hz0 hc).2]
          · exact (good_short h1 h2 h3 hq h4 hg ha he hz0 hc).1
        · refine (short3 hs hl hz r0 r1 h1 h2 h3 hq h4 hg ha he rfl hz0 hc).mono fun e w' ⟨k1, k2⟩ => .inl ⟨8, by decide, k1, ?_, k2⟩
          intro q' h' m' gz' rest q0 h0 hc' hA hp
          obtain ⟨_, rfl, rfl, rfl, rfl, _⟩ := chain_short h1 h2 h3 hq h4 hg ha he hc' q0 h0 hA hp
          exact hc hc'
      · refine (short2 hs hl hz r0 r1 h1 h2 h3 hq h4 hg ha he rfl hz0).mono fun e w' ⟨k1, k2⟩ => .inl ⟨8, by decide, k1, ?_, k2⟩
        intro q' h' m' gz' rest q0 h0 hc' hA hp
        exact hz0 (chain_short h1 h2 h3 hq h4 hg ha he hc' q0 h0 hA hp).1
    · refine (short1 hs hl hz r0 r1 h1 h2 h3 hq h4 hg ha he e5).mono fun e w' ⟨k1, k2⟩ => .inl ⟨E5, e5, k1, ?_, k2⟩
      intro q' h' m' gz' rest q0 h0 hc' hA hp
      exact e5 (chain_short h1 h2 h3 hq h4 hg ha he hc' q0 h0 hA hp).2.2.2.2.2
  · obtain ⟨⟨m, A4, E4⟩, h4⟩ : ∃ x, gs zs A3 E3 6 = x := ⟨_, rfl⟩
    obtain ⟨⟨z2, A5, E5⟩, h5⟩ : ∃ x, gs zs A4 E4 1 = x := ⟨_, rfl⟩
    by_cases e5 : E5 = 0
    · subst e5
      by_cases hz0 : z + z2 = 0
      · by_cases hc : chk r q h m [1] = 0
        · refine (long4 hs hl hz r0 r1 h1 h2 h3 hq h4 h5 rfl rfl hz0 hc).mono fun e w' ⟨g, cap, k1, k2, k3⟩ => .inr ⟨q, h, m, [1], g, cap, ?_, ?_, k2, k3⟩
          · rw [k1, (good_long h1 h2 h3 hq h4 h5 hz0 hc).2]
          · exact (good_long h1 h2 h3 hq h4 h5 hz0 hc).1
        · refine (long3 hs hl hz r0 r1 h1 h2 h3 hq h4 h5 rfl rfl hz0 hc).mono fun e w' ⟨k1, k2⟩ => .inl ⟨8, by decide, k1, ?_, k2⟩
          intro q' h' m' gz' rest q0 h0 hc' hA hp
          obtain ⟨_, rfl, rfl, rfl, rfl, _⟩ := chain_long h1 h2 h3 hq h4 h5 hc' q0 h0 hA hp
          exact hc hc'
      · refine (long2 hs hl hz r0 r1 h1 h2 h3 hq h4 h5 rfl rfl hz0).mono fun e w' ⟨k1, k2⟩ => .inl ⟨8, by decide, k1, ?_, k2⟩
        intro q' h' m' gz' rest q0 h0 hc' hA hp
        exact hz0 (chain_long h1 h2 h3 hq h4 h5 hc' q0 h0 hA hp).1
    · refine (long1 hs hl hz r0 r1 h1 h2 h3 hq h4 h5 rfl e5).mono fun e w' ⟨k1, k2⟩ => .inl ⟨E5, e5, k1, ?_, k2⟩
      intro q' h' m' gz' rest q0 h0 hc' hA hp
      exact e5 (chain_long h1 h2 h3 hq h4 h5 hc' q0 h0 hA hp).2.2.2.2.2
/-- What Put answers to no bits. -/
theorem put_ok (r s h m : Int) (a : Option Addr) (cap : Nat) (zs : List Int) (w : World) (hl : zs.length ≤ 100000) (hr : RdA w a zs) (s0 : 0 ≤ s) (h0 : 0 ≤ h) :
    Calls Try.prog 8 #[.slice none 0 0, .int .i64 r, .agg #[.int .u8 s, .int .u8 h, .int .i64 m, .slice a zs.length cap]] w fun e w' => (∃ v, e = .returned (.tuple #[v, .int .i64 (chk r s h m zs)]) ∧ (chk r s h m zs = 0 → Src8 w' v (putL s h m zs)) ∧ (chk r s h m zs ≠ 0 → v = .slice none 0 0)) ∧ Below w.heap.size w w' := by
  by_cases hc : chk r s h m zs = 0
  · by_cases hs : s = 2
    · exact (put_short r s h m a cap zs w hl hr hc s0 h0 hs).mono fun e w' ⟨v, k1, k2, k3⟩ => ⟨⟨v, by rw [k1, hc], fun _ => k2, fun h => absurd hc h⟩, k3⟩
    · exact (put_long r s h m a cap zs w hl hr hc s0 h0 hs).mono fun e w' ⟨v, k1, k2, k3⟩ => ⟨⟨v, by rw [k1, hc], fun _ => k2, fun h => absurd hc h⟩, k3⟩
  · exact (put_err r s h m a cap zs w hl hr hc).mono fun e w' ⟨k1, k2⟩ => ⟨⟨_, k1, fun h => absurd h hc, fun _ => rfl⟩, k2⟩
end Go.Proofs.Ytchefgnefcabnaa.In
