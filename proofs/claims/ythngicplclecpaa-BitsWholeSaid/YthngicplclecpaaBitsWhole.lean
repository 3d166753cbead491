/- What is unpacked is packed as it was, and what is packed is unpacked as it was. BitsWhole returns true, whatever the bytes, the memory and the schedule. No condition. -/
import Derived.Test.YthngicplclecpaaBpIn
namespace Go.Proofs.Ythngicplclecpaa.bitsWhole
open Go Go.ChangeShapes Go.WideShapes Go.ChangeAt Go.RowKit Go.Proofs.Ythngicplclecpaa.Bi
open Go.Proofs.Ythngicplclecpaa.Cr (belowT IsRow)

/-! ### There and back -/
theorem dg_bits (X : Int) (s k : Nat) : dg X s k = 0 ∨ dg X s k = 1 := by unfold dg; omega
theorem un_get (zs : List Int) (i : Nat) (h : i < 8 * zs.length) : (un zs).getD i 0 = adg zs i := by simp [un, upto, h]
theorem un_bits (zs : List Int) : Cr.Bits (un zs) := by
  intro z hz
  obtain ⟨i, hi, rfl⟩ := List.getElem_of_mem hz
  have e := un_get zs i (by rw [un_len] at hi; exact hi)
  rw [List.getD, List.getElem?_eq_getElem hi] at e
  have e2 : (un zs)[i] = adg zs i := e
  rw [e2]
  exact dg_bits _ _ _
theorem dk_un (zs : List Int) (j r : Nat) (hj : j < zs.length) (hr : r < 8) : dk (un zs) (un zs).length (8 * j + r) = dg (zs.getD j 0) 8 r := by
  unfold dk
  rw [un_len, if_pos (by omega), un_get zs _ (by omega), adg_at zs j r hr]
theorem digits8 {z : Int} (h0 : 0 ≤ z) (h1 : z ≤ 255) : 128 * dg z 8 0 + 64 * dg z 8 1 + 32 * dg z 8 2 + 16 * dg z 8 3 + 8 * dg z 8 4 + 4 * dg z 8 5 + 2 * dg z 8 6 + dg z 8 7 = z := by
  unfold dg
  simp only [Nat.reduceSub, Nat.reduceAdd, Int.reducePow]
  omega
theorem pk_un (zs : List Int) (hz : ∀ z ∈ zs, 0 ≤ z ∧ z ≤ 255) (j : Nat) (hj : j < zs.length) : pk (un zs) (un zs).length j = zs.getD j 0 := by
  have hb := hz (zs.getD j 0) (by simp [hj])
  unfold pk
  have h0 := dk_un zs j 0 hj (by omega)
  rw [Nat.add_zero] at h0
  rw [h0, dk_un zs j 1 hj (by omega), dk_un zs j 2 hj (by omega), dk_un zs j 3 hj (by omega), dk_un zs j 4 hj (by omega), dk_un zs j 5 hj (by omega), dk_un zs j 6 hj (by omega), dk_un zs j 7 hj (by omega)]
  exact digits8 hb.1 hb.2
theorem pkl_un (zs : List Int) (hz : ∀ z ∈ zs, 0 ≤ z ∧ z ≤ 255) : pkl (un zs) = zs := by
  refine List.ext_getElem (by rw [pkl_len, un_len]; omega) fun j h1 h2 => ?_
  have e := pk_un zs hz j h2
  rw [List.getD, List.getElem?_eq_getElem h2] at e
  simp only [pkl, List.getElem_map, List.getElem_range]
  exact e
theorem dg_pk {zs : List Int} (h : Cr.Bits zs) (j r : Nat) (hr : r < 8) : dg (pk zs zs.length j) 8 r = dk zs zs.length (8 * j + r) := by
  have h0 := dk_bd h zs.length (8 * j); have h1 := dk_bd h zs.length (8 * j + 1); have h2 := dk_bd h zs.length (8 * j + 2); have h3 := dk_bd h zs.length (8 * j + 3)
  have h4 := dk_bd h zs.length (8 * j + 4); have h5 := dk_bd h zs.length (8 * j + 5); have h6 := dk_bd h zs.length (8 * j + 6); have h7 := dk_bd h zs.length (8 * j + 7)
  unfold dg pk
  have hc : r = 0 ∨ r = 1 ∨ r = 2 ∨ r = 3 ∨ r = 4 ∨ r = 5 ∨ r = 6 ∨ r = 7 := by omega
  rcases hc with rfl | rfl | rfl | rfl | rfl | rfl | rfl | rfl
  all_goals
    simp only [Nat.add_zero, Nat.reduceSub, Int.reducePow]
    omega
theorem un_pkl {zs : List Int} (h : Cr.Bits zs) (i : Nat) (hi : i < 8 * ((zs.length + 7) / 8)) : (un (pkl zs)).getD i 0 = dk zs zs.length i := by
  rw [un_get _ _ (by rw [pkl_len]; exact hi)]
  unfold adg
  have hj : i / 8 < (zs.length + 7) / 8 := by omega
  have e : (pkl zs).getD (i / 8) 0 = pk zs zs.length (i / 8) := by simp [pkl, hj]
  rw [e, dg_pk h _ _ (Nat.mod_lt _ (by omega)), show 8 * (i / 8) + i % 8 = i by omega]
theorem pkl_bd {zs : List Int} (h : Cr.Bits zs) : ∀ z ∈ pkl zs, 0 ≤ z ∧ z ≤ 255 := by
  intro z hz
  simp only [pkl, List.mem_map] at hz
  obtain ⟨j, _, rfl⟩ := hz
  exact pk_bd h _ _

/-- What a call has made, as it comes in again. -/
theorem own_at {base : Nat} {w : World} {v : Value} {zs : List Int} (h : Cr.Own base w v zs) (hne : zs ≠ []) : ∃ g cap, v = .slice (some ⟨g, 0, none⟩) zs.length cap ∧ zs.length ≤ cap ∧ cap ≤ maxLen ∧ At w.heap.size w (some ⟨g, 0, none⟩) zs := by
  have hcells := @World.ownsRow.cells _ _ _ _ _ _ _ h
  have hlt := h.lt
  obtain ⟨hx, ⟨rfl, hn⟩ | ⟨g, cap, cur, rfl, hg, hh, hc, hm, hs, ht⟩⟩ := h
  · exact absurd (List.eq_nil_of_length_eq_zero hn) hne
  · refine ⟨g, cap, rfl, by omega, by omega, fun i hi => ⟨g, 0, rfl, (hlt g rfl).2, ?_⟩⟩
    have := hcells rfl i (.int .u8 (zs.getD i 0)) (by simp [hi])
    rw [Addr.add_lit] at this
    exact this
theorem at_take {w : World} {g n : Nat} {us zs : List Int} (h : At w.heap.size w (some ⟨g, 0, none⟩) us) (c : Nat) (hn : zs.length = n) (hle : n ≤ us.length) (he : ∀ i, i < n → us.getD i 0 = zs.getD i 0) : Src8 w (.slice (some ⟨g, 0, none⟩) n c) zs := by
  refine .inr ⟨⟨g, 0, none⟩, c, by rw [hn], fun j u hu => ?_⟩
  have hj := (List.getElem?_eq_some_iff.1 hu).1
  rw [List.length_map] at hj
  obtain ⟨g', off, e, _, hc⟩ := h j (by omega)
  cases e
  rw [Addr.add_lit, hc, he j (by omega), ← hu]
  simp [hj]

theorem Src8.drewN {w : World} {v : Value} {zs : List Int} (h : Src8 w v zs) (n : Nat) : Src8 (w.drewN n) v zs := by
  rcases h with h | ⟨x, c, e, h⟩
  · exact .inl h
  · exact .inr ⟨x, c, e, fun j u hu => (by simpa using h j u hu)⟩
theorem At.drewN {w : World} {a : Option Addr} {zs : List Int} (h : At w.heap.size w a zs) (n : Nat) : At (w.drewN n).heap.size (w.drewN n) a zs := fun i hi => by
  obtain ⟨g, off, e, hg, hc⟩ := h i hi
  exact ⟨g, off, e, by simpa using hg, by simpa using hc⟩
theorem long (a0 : Option Addr) (l0 c0 : Nat) (w : World) (m0 : l0 ≤ maxLen) (h : 10000 < l0) :
    Calls Try.prog 4 #[.slice a0 l0 c0] w fun e w' => e = .returned (.bool true) ∧ Below w.heap.size w w' := by
  unfold maxLen at m0
  go_enter Try.func4, Try.ntmps4
  go_wp2_with (go_at_call 9; ((with_reducible refine (alive_ok _).mono ?_); rintro e w1 ⟨rfl, hb1⟩))
  go_ret
  exact ⟨rfl, hb1⟩

set_option maxRecDepth 100000 in
set_option maxHeartbeats 1000000 in
/-- No bytes at all. -/
theorem none_in (a0 : Option Addr) (c0 : Nat) (w : World) (hs : Src8 w (.slice a0 0 c0) []) (hc : c0 ≤ maxLen) :
    Calls Try.prog 4 #[.slice a0 0 c0] w fun e w' => e = .returned (.bool true) ∧ Below w.heap.size w w' := by
  have H7 : Hid (∀ a c w1, Calls Try.prog 7 #[.slice a 0 c] w1 fun e w' => ∃ a2 c2, e = .returned (.tuple #[.slice a2 0 c2, .int .i64 0]) ∧ c2 ≤ maxLen ∧ Below w1.heap.size w1 w') := Lib.hid fun a c w1 => (unpack_ok a c [] w1 (by simp) (fun z h => by cases h) (fun i hi => by simp at hi)).mono fun e w' ⟨v, he, ho, hb⟩ => by
    obtain ⟨hx, ⟨rfl, hn⟩ | ⟨g, cap, cur, rfl, hg, hh, hc, hm, hs, ht⟩⟩ := ho
    · exact ⟨none, 0, he, by unfold maxLen; omega, hb⟩
    · exact ⟨_, cap, he, by omega, hb⟩
  have H5 : Hid (∀ a c w1, Calls Try.prog 5 #[.slice a 0 c] w1 fun e w' => Below w1.heap.size w1 w' ∧ e = .returned (.tuple #[.slice (some ⟨w1.heap.size, 0, none⟩) 0 0, .int .i64 0])) := Lib.hid fun a c w1 => (pack_ok w1.heap.size a c [] w1 (Nat.le_refl _) (by simp) (fun z h => by cases h) (fun i hi => by simp at hi)).mono fun e w' h => ⟨h.1, h.2.elim (fun h => h.2.1) (fun h => absurd (fun z hz => by cases hz) h.1)⟩
  have hcz : ∀ W a c, (convert 22 9 (.slice a 0 c)).run Try.prog W = .ok (.string (strOfNums [])) W := conv_zero
  clear hs
  go_enter Try.func4, Try.ntmps4
  go_wp2_with (first
    | (go_at_call 9; ((with_reducible refine (alive_ok _).mono ?_); rintro e w1 ⟨rfl, hb1⟩))
    | (go_at_call 7; ((with_reducible refine (H7.out _ _ w1).mono ?_); rintro e w2 ⟨a2, c2, rfl, k2, hb2⟩; have hb12 := belowT hb1 hb2))
    | (go_at_call 5; ((with_reducible refine (H5.out _ _ w2).mono ?_); rintro e w3 ⟨hb3, rfl⟩; have hb13 := belowT hb12 hb3))
    | (go_at_call 5; ((with_reducible refine (H5.out _ _ w3).mono ?_); rintro e w4 ⟨hb4, rfl⟩; have hb14 := belowT hb13 hb4))
    | (go_at_call 7; ((with_reducible refine (H7.out _ _ w4).mono ?_); rintro e w5 ⟨a5, c5, rfl, k5, hb5⟩; have hb15 := belowT hb14 hb5)))
  go_quiet (fail)
  have hbW : Below w.heap.size w (w5.drewN nq) := by
    have e : Below w.heap.size w w5 := hb15
    exact ⟨e.os, e.tape, e.output, e.size, e.block⟩
  generalize w5.drewN nq = W at *
  have HBW := Lib.hid hbW
  clear hbW
  go_wp2
  go_loopw [12] (fun i wr => i = .int .i64 0 ∧ wr = W) (fun _ _ => 0)
  case atStart => exact ⟨rfl, rfl⟩
  case round =>
    obtain ⟨rfl, rfl⟩ := hrel
    have hb := HBW.out
    go_wp2
    go_ret
    exact ⟨rfl, hb⟩

set_option maxRecDepth 100000 in
set_option maxHeartbeats 1000000 in
theorem good (a0 : Option Addr) (c0 : Nat) (zs : List Int) (w : World) (hne : zs ≠ []) (hl : zs.length ≤ 10000) (hz : ∀ z ∈ zs, 0 ≤ z ∧ z ≤ 255) (hv : At w.heap.size w a0 zs) (hs : Src8 w (.slice a0 zs.length c0) zs) (hbits : Cr.Bits zs) :
    Calls Try.prog 4 #[.slice a0 zs.length c0] w fun e w' => e = .returned (.bool true) ∧ Below w.heap.size w w' := by
  have HV : Hid (∀ w1, Below w.heap.size w w1 → At w1.heap.size w1 a0 zs) := Lib.hid fun w1 hb i hi => by obtain ⟨g, off, e, hg, hc⟩ := hv.below hb i hi; exact ⟨g, off, e, Nat.lt_of_lt_of_le hg hb.size, hc⟩
  have n0 : 0 < zs.length := List.length_pos_iff.2 hne
  have hun : un zs ≠ [] := fun e => by have := un_len zs; rw [e] at this; simp at this; omega
  have hup : un (pkl zs) ≠ [] := fun e => by have := un_len (pkl zs); rw [e, pkl_len] at this; simp at this; omega
  have H7 : Hid (∀ w1, Below w.heap.size w w1 → Calls Try.prog 7 #[.slice a0 zs.length c0] w1 fun e w' => ∃ g cap, e = .returned (.tuple #[.slice (some ⟨g, 0, none⟩) (8 * zs.length) cap, .int .i64 0]) ∧ At w'.heap.size w' (some ⟨g, 0, none⟩) (un zs) ∧ Below w1.heap.size w1 w') := Lib.hid fun w1 hb => (unpack_ok a0 c0 zs w1 (by omega) hz (HV.out w1 hb)).mono fun e w' ⟨v, he, ho, hb⟩ => by
    obtain ⟨g, cap, rfl, _, _, ha⟩ := own_at ho hun
    rw [un_len] at he
    exact ⟨g, cap, he, ha, hb⟩
  have H5 : Hid (∀ g cap w1, At w1.heap.size w1 (some ⟨g, 0, none⟩) (un zs) → Calls Try.prog 5 #[.slice (some ⟨g, 0, none⟩) (8 * zs.length) cap] w1 fun e w' => Below w1.heap.size w1 w' ∧ e = .returned (.tuple #[.slice (some ⟨w1.heap.size, 0, none⟩) zs.length zs.length, .int .i64 0]) ∧ Src8 w' (.slice (some ⟨w1.heap.size, 0, none⟩) zs.length zs.length) zs) := Lib.hid fun g cap w1 ha => by
    have h := pack_ok w1.heap.size (some ⟨g, 0, none⟩) cap (un zs) w1 (Nat.le_refl _) (by rw [un_len]; omega) (fun z hz => by have := un_bits zs z hz; omega) ha
    rw [un_len] at h
    refine h.mono fun e w' hh => ⟨hh.1, ?_⟩
    rcases hh.2 with ⟨_, he, hp⟩ | ⟨hn, _⟩
    · have hm : (8 * zs.length + 7) / 8 = zs.length := by omega
      rw [hm] at he hp
      have hp2 : Pkd w' w1.heap.size (((un zs).length + 7) / 8) (un zs) (un zs).length := by rw [un_len, hm]; exact hp
      have hsr := pkd_src hp2 zs.length
      rw [un_len, hm, pkl_un zs hz] at hsr
      exact ⟨he, hsr⟩
    · exact absurd (un_bits zs) hn
  have H5' : Hid (∀ w1, Below w.heap.size w w1 → Calls Try.prog 5 #[.slice a0 zs.length c0] w1 fun e w' => Below w1.heap.size w1 w' ∧ e = .returned (.tuple #[.slice (some ⟨w1.heap.size, 0, none⟩) ((zs.length + 7) / 8) ((zs.length + 7) / 8), .int .i64 0]) ∧ At w'.heap.size w' (some ⟨w1.heap.size, 0, none⟩) (pkl zs)) := Lib.hid fun w1 hb => (pack_ok w1.heap.size a0 c0 zs w1 (Nat.le_refl _) (by omega) hz (HV.out w1 hb)).mono fun e w' h => ⟨h.1, h.2.elim (fun h => ⟨h.2.1, pkd_at h.2.2⟩) (fun h => absurd hbits h.1)⟩
  have H7' : Hid (∀ g w1, At w1.heap.size w1 (some ⟨g, 0, none⟩) (pkl zs) → Calls Try.prog 7 #[.slice (some ⟨g, 0, none⟩) ((zs.length + 7) / 8) ((zs.length + 7) / 8)] w1 fun e w' => ∃ g2 cap, e = .returned (.tuple #[.slice (some ⟨g2, 0, none⟩) (8 * ((zs.length + 7) / 8)) cap, .int .i64 0]) ∧ 8 * ((zs.length + 7) / 8) ≤ cap ∧ cap ≤ maxLen ∧ At w'.heap.size w' (some ⟨g2, 0, none⟩) (un (pkl zs)) ∧ Below w1.heap.size w1 w') := Lib.hid fun g w1 ha => by
    have h := unpack_ok (some ⟨g, 0, none⟩) ((zs.length + 7) / 8) (pkl zs) w1 (by rw [pkl_len]; omega) (pkl_bd hbits) ha
    rw [pkl_len] at h
    refine h.mono fun e w' ⟨v, he, ho, hb⟩ => ?_
    obtain ⟨g2, cap, rfl, h1, h2, ha2⟩ := own_at ho hup
    rw [un_len, pkl_len] at he h1
    exact ⟨g2, cap, he, h1, h2, ha2, hb⟩
  have HT : Hid (∀ w' g2 c, At w'.heap.size w' (some ⟨g2, 0, none⟩) (un (pkl zs)) → (convert 22 9 (.slice (some ⟨g2, 0, none⟩) zs.length c)).run Try.prog w' = .ok (.string (strOfNums zs)) w') := Lib.hid fun w' g2 c ha => conv_src (at_take ha c rfl (by rw [un_len, pkl_len]; omega) fun i hi => by
    rw [un_pkl hbits i (by omega)]; unfold dk; rw [if_pos hi])
  have HZ0 : Hid (∀ w' g2, At w'.heap.size w' (some ⟨g2, 0, none⟩) (un (pkl zs)) → ∀ i, zs.length ≤ i → i < 8 * ((zs.length + 7) / 8) → w'.cell? ⟨g2, i, none⟩ = some (.int .u8 0)) := Lib.hid fun w' g2 ha i h1 h2 => by
    obtain ⟨g', off, e, _, hc⟩ := ha i (by rw [un_len, pkl_len]; exact h2)
    cases e
    rw [Nat.zero_add, un_pkl hbits i h2, dk_out _ _ _ h1] at hc
    exact hc
  have HS := Lib.hid hs
  obtain ⟨M, hM⟩ : ∃ M, 8 * ((zs.length + 7) / 8) = M := ⟨_, rfl⟩
  rw [hM] at H7' HZ0
  have hM1 : zs.length ≤ M := by omega
  have hM2 : M ≤ zs.length + 7 := by omega
  have hM3 : M ≤ 100000 := by omega
  clear hs hv hz hbits hun hup hne
  go_enter Try.func4, Try.ntmps4
  go_wp2_with (first
    | (go_at_call 9; ((with_reducible refine (alive_ok _).mono ?_); rintro e w1 ⟨rfl, hb1⟩; have q0 := conv_src (HS.out.below hb1)))
    | (go_at_call 7; ((with_reducible refine (H7.out _ hb1).mono ?_); rintro e w2 ⟨g, cap, rfl, ha2, hb2⟩; have hb12 := belowT hb1 hb2))
    | (go_at_call 5; ((with_reducible refine (H5.out g cap _ ha2).mono ?_); rintro e w3 ⟨hb3, rfl, ho3⟩; have hb13 := belowT hb12 hb3; have q1 := conv_src ho3; have q2 := conv_src (HS.out.below hb13)))
    | (go_at_call 5; ((with_reducible refine (H5'.out _ hb13).mono ?_); rintro e w4 ⟨hb4, rfl, ha4⟩; have hb14 := belowT hb13 hb4))
    | (go_at_call 7; ((with_reducible refine (H7'.out _ _ ha4).mono ?_); rintro e w5 ⟨g2, cap2, rfl, hk1, hk2, ha5, hb5⟩; have hb15 := belowT hb14 hb5; have q3 := HT.out w5 g2 cap2 ha5; have q4 := conv_src (HS.out.below hb15))))
  have t1 : decide (M < zs.length) = false := by simp; omega
  have t2 : decide (IntKind.i64.wrap ((zs.length : Int) + 7) < (M : Int)) = false := by rw [show IntKind.i64.wrap ((zs.length : Int) + 7) = (zs.length : Int) + 7 by rw [IntKind.wrap_i64]; omega]; simp; omega
  clear hM
  have hk3 : zs.length ≤ cap2 := by omega
  have hk4 : ¬ cap2 = 0 := by omega
  have q3n : ∀ n, (convert 22 9 (.slice (some ⟨g2, 0, none⟩) zs.length cap2)).run Try.prog (w5.drewN n) = .ok (.string (strOfNums zs)) (w5.drewN n) := fun n => HT.out (w5.drewN n) g2 cap2 (At.drewN ha5 n)
  have q4n : ∀ n, (convert 22 9 (.slice a0 zs.length c0)).run Try.prog (w5.drewN n) = .ok (.string (strOfNums zs)) (w5.drewN n) := fun n => conv_src (Src8.drewN (HS.out.below hb15) n)
  clear q3 q4
  go_quiet (fail)
  have hz0 : ∀ i, zs.length ≤ i → i < M → (w5.drewN nq).cell? ⟨g2, i, none⟩ = some (.int .u8 0) := HZ0.out w5 g2 ha5
  have hbW : Below w.heap.size w (w5.drewN nq) := by
    have e : Below w.heap.size w w5 := hb15
    exact ⟨e.os, e.tape, e.output, e.size, e.block⟩
  generalize w5.drewN nq = W at *
  have HBW := Lib.hid hbW
  have HZW := Lib.hid hz0
  clear hz0 hbW q3n q4n
  go_wp2
  go_loopw [12] (fun i wr => ∃ k : Nat, zs.length ≤ k ∧ k ≤ M ∧ i = .int .i64 k ∧ wr = W) (fun i _ => M - (intOf i).toNat)
  case atStart => exact ⟨zs.length, Nat.le_refl _, hM1, rfl, rfl⟩
  case round =>
    obtain ⟨k, h1, h2, rfl, rfl⟩ := hrel
    by_cases hlt : k < M
    · have hc := HZW.out k h1 hlt
      have hlt' : (k : Int) < (M : Int) := by omega
      go_wp2
      go_roundw
      case rel => exact ⟨k + 1, by omega, by omega, by go_num, trivial⟩
      case measure => simp [intOf]; omega
    · have hlt' : ¬ (k : Int) < (M : Int) := by omega
      have hb := HBW.out
      go_wp2
      go_ret
      exact ⟨rfl, hb⟩

set_option maxRecDepth 100000 in
set_option maxHeartbeats 1000000 in
theorem bad (a0 : Option Addr) (c0 : Nat) (zs : List Int) (w : World) (hne : zs ≠ []) (hl : zs.length ≤ 10000) (hz : ∀ z ∈ zs, 0 ≤ z ∧ z ≤ 255) (hv : At w.heap.size w a0 zs) (hs : Src8 w (.slice a0 zs.length c0) zs) (hbits : ¬ Cr.Bits zs) :
    Calls Try.prog 4 #[.slice a0 zs.length c0] w fun e w' => e = .returned (.bool true) ∧ Below w.heap.size w w' := by
  have HV : Hid (∀ w1, Below w.heap.size w w1 → At w1.heap.size w1 a0 zs) := Lib.hid fun w1 hb i hi => by obtain ⟨g, off, e, hg, hc⟩ := hv.below hb i hi; exact ⟨g, off, e, Nat.lt_of_lt_of_le hg hb.size, hc⟩
  have n0 : 0 < zs.length := List.length_pos_iff.2 hne
  have hun : un zs ≠ [] := fun e => by have := un_len zs; rw [e] at this; simp at this; omega
  have H7 : Hid (∀ w1, Below w.heap.size w w1 → Calls Try.prog 7 #[.slice a0 zs.length c0] w1 fun e w' => ∃ g cap, e = .returned (.tuple #[.slice (some ⟨g, 0, none⟩) (8 * zs.length) cap, .int .i64 0]) ∧ At w'.heap.size w' (some ⟨g, 0, none⟩) (un zs) ∧ Below w1.heap.size w1 w') := Lib.hid fun w1 hb => (unpack_ok a0 c0 zs w1 (by omega) hz (HV.out w1 hb)).mono fun e w' ⟨v, he, ho, hb⟩ => by
    obtain ⟨g, cap, rfl, _, _, ha⟩ := own_at ho hun
    rw [un_len] at he
    exact ⟨g, cap, he, ha, hb⟩
  have H5 : Hid (∀ g cap w1, At w1.heap.size w1 (some ⟨g, 0, none⟩) (un zs) → Calls Try.prog 5 #[.slice (some ⟨g, 0, none⟩) (8 * zs.length) cap] w1 fun e w' => Below w1.heap.size w1 w' ∧ e = .returned (.tuple #[.slice (some ⟨w1.heap.size, 0, none⟩) zs.length zs.length, .int .i64 0]) ∧ Src8 w' (.slice (some ⟨w1.heap.size, 0, none⟩) zs.length zs.length) zs) := Lib.hid fun g cap w1 ha => by
    have h := pack_ok w1.heap.size (some ⟨g, 0, none⟩) cap (un zs) w1 (Nat.le_refl _) (by rw [un_len]; omega) (fun z hz => by have := un_bits zs z hz; omega) ha
    rw [un_len] at h
    refine h.mono fun e w' hh => ⟨hh.1, ?_⟩
    rcases hh.2 with ⟨_, he, hp⟩ | ⟨hn, _⟩
    · have hm : (8 * zs.length + 7) / 8 = zs.length := by omega
      rw [hm] at he hp
      have hp2 : Pkd w' w1.heap.size (((un zs).length + 7) / 8) (un zs) (un zs).length := by rw [un_len, hm]; exact hp
      have hsr := pkd_src hp2 zs.length
      rw [un_len, hm, pkl_un zs hz] at hsr
      exact ⟨he, hsr⟩
    · exact absurd (un_bits zs) hn
  have H5' : Hid (∀ w1, Below w.heap.size w w1 → Calls Try.prog 5 #[.slice a0 zs.length c0] w1 fun e w' => Below w1.heap.size w1 w' ∧ e = .returned (.tuple #[.slice none 0 0, .int .i64 8])) := Lib.hid fun w1 hb => (pack_ok w1.heap.size a0 c0 zs w1 (Nat.le_refl _) (by omega) hz (HV.out w1 hb)).mono fun e w' h => ⟨h.1, h.2.elim (fun h => absurd h.1 hbits) (fun h => h.2)⟩
  have HS := Lib.hid hs
  clear hs hv hz hbits hun hne
  go_enter Try.func4, Try.ntmps4
  go_wp2_with (first
    | (go_at_call 9; ((with_reducible refine (alive_ok _).mono ?_); rintro e w1 ⟨rfl, hb1⟩; have q0 := conv_src (HS.out.below hb1)))
    | (go_at_call 7; ((with_reducible refine (H7.out _ hb1).mono ?_); rintro e w2 ⟨g, cap, rfl, ha2, hb2⟩; have hb12 := belowT hb1 hb2))
    | (go_at_call 5; ((with_reducible refine (H5.out g cap _ ha2).mono ?_); rintro e w3 ⟨hb3, rfl, ho3⟩; have hb13 := belowT hb12 hb3; have q1 := conv_src ho3; have q2 := conv_src (HS.out.below hb13)))
    | (go_at_call 5; ((with_reducible refine (H5'.out _ hb13).mono ?_); rintro e w4 ⟨hb4, rfl⟩; have hb14 := belowT hb13 hb4)))
  go_ret
  exact ⟨rfl, hb14⟩

theorem walk (a0 : Option Addr) (l0 c0 : Nat) (z0 : List Int) (w : World) (w0 : IsRow .u8 w a0 l0 c0 z0) :
    Calls Try.prog 4 #[.slice a0 l0 c0] w fun e w' => e = .returned (.bool true) ∧ Below w.heap.size w w' := by
  by_cases h : 10000 < l0
  · exact long a0 l0 c0 w w0.le h
  obtain ⟨zs, rfl, hz, hv, hs, _, hcm⟩ := came w0
  by_cases hne : zs = []
  · subst hne; exact none_in a0 c0 w hs hcm
  by_cases hb : Cr.Bits zs
  · exact good a0 c0 zs w hne (by omega) hz hv hs hb
  · exact bad a0 c0 zs w hne (by omega) hz hv hs hb

theorem own : ownKnob Try.prog.godebug = none := by kernel_rfl
theorem laidOut : laidOutB Try.prog = true := by kernel_rfl
set_option linter.unusedVariables false
set_option maxRecDepth 100000 in
theorem lifted (os : Os) (started : os.Started) (H : Type) (enc : TypeId × Value → H) :
    ReturnsInHanded {} Try.checked os 4 .any (Rows.bitsWholeSpec.pre6 enc Try.prog Try.f4 Rows.bitsWholeRow.domain false) (Rows.bitsWholeSpec.post enc Try.prog Try.f4 false true false false) := by
  refine returnsInHanded_of_change (C := Try.checked) own started (by kernel_rfl) Try.func4
    (ChangeSpec.witness6 (enc := enc) (C := Try.checked) false ⟨#[], #[.slice none 0 0], []⟩ 8 (by kernel_rfl) (by kernel_rfl) (by kernel_rfl) (by kernel_rfl)) ?_
  intro W base args ds gs before hval0 hW hcnd _
  have hval : ∀ (j : Nat) t v, Try.f4.params[j]? = some t → args[j]? = some v → Value.okWide Try.prog W .any base t v := hval0
  have hW' := hW
  obtain ⟨p, q, hA0, hV, rfl, hfz, hnd⟩ := hW
  have hA : DataW.TrodAll enc Try.prog W 0 (fun _ => true) true Try.f4.params.toList args.toList ds p := hA0
  rw [Try.params4] at hA hval
  obtain ⟨v0, vs0, d0, ds0, p0, q0, hargs, rfl, rfl, h0, r0⟩ := trodAll_cons hA
  obtain ⟨rfl, rfl, rfl⟩ := trodAll_nil r0
  obtain rfl : args = #[v0] := by cases args; simp_all
  obtain ⟨rfl, rfl⟩ := trodVars_none hV
  obtain ⟨a0, len0, cap0, rfl⟩ := okWide_slice Try.underlying22 (hval 0 22 v0 rfl rfl)
  have k0 := h0
  have lt0 : ∀ x ∈ p0, x.block < W.heap.size := by obtain ⟨m, hm⟩ := k0; exact DataW.trod_lt m _ _ _ hm
  obtain ⟨z0, w0⟩ : ∃ zs, IsRow .u8 W a0 len0 cap0 zs := by
    obtain ⟨fuel, hf⟩ := h0
    rcases open_ints Try.underlying22 Try.underlying5 (by kernel_rfl) hf with ⟨hcs, _⟩ | ⟨x, l, c, zs, hcs, _, hl, hm, hz, _, hcell, hwz⟩
    · simp [Value.cells] at hcs
      obtain ⟨rfl, rfl, rfl⟩ := hcs
      exact ⟨[], .inl ⟨rfl, rfl, rfl, rfl⟩⟩
    · simp [Value.cells] at hcs
      obtain ⟨rfl, rfl, rfl⟩ := hcs
      exact ⟨zs, .inr ⟨_, rfl, hl, hm, by simpa using hz, hcell, hwz⟩⟩
  clear hA0 hval0
  refine (walk a0 len0 cap0 z0 W w0).mono fun e W' ⟨he, bel⟩ => ?_
  subst he
  exact ⟨_, rfl, _, _, _, [], _, [], hW', trodAll_mk1 (shut_bool Try.underlying4 _), (trodAll_cons_mk (Below.trod laidOut (by kernel_rfl) (of_decide_eq_true (by kernel_rfl)) k0 bel lt0) trodAll_mk0), rfl, bel.frame _, fun h => by cases h⟩

theorem over : Rows.bitsWholeRow.holds Try.pinned (OpenSpec.ofChange Rows.bitsWholeSpec) :=
  OpenClaim.holds_of_wide 4 Try.f4 rfl rfl rfl rfl rfl rfl rfl ⟨rfl, rfl, rfl, rfl, rfl⟩ rfl rfl rfl rfl rfl (by kernel_rfl) Try.func4 (by kernel_rfl)
    (of_decide_eq_true (by kernel_rfl)) (by unfold Func.isWrapper; first | (rw [if_pos (by decide +kernel)]; kernel_rfl) | (rw [if_neg (by decide +kernel)]; exact ⟨rfl, rfl⟩))
    (fun os started H enc _ => lifted os started H enc)

theorem proved : Rows.BitsWholeSaid := over

end Go.Proofs.Ythngicplclecpaa.bitsWhole
