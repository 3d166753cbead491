/- What the document's Pack and Unpack answer. -/
import Derived.Test.YthngicplclecpaaBpPk
import Derived.Test.YthngicplclecpaaBiRef
namespace Go.Proofs.Ythngicplclecpaa.Bi
open Go Go.ChangeShapes Go.WideShapes Go.ChangeAt Go.RowKit
open Go.Proofs.Ythngicplclecpaa.Cr (belowT below_grown)

/-! ### The document's bytes -/
def hn (zs : List Int) (j : Nat) : Nat → Int
  | 0 => 0
  | r + 1 => 2 * hn zs j r + dk zs zs.length (8 * j + r)
theorem hn_end (zs : List Int) (j : Nat) : hn zs j 8 = pk zs zs.length j := by
  unfold pk
  simp only [hn, Nat.add_zero]
  omega
theorem hn_bd {zs : List Int} (h : Cr.Bits zs) (j : Nat) : ∀ r, 0 ≤ hn zs j r ∧ hn zs j r < 2 ^ r
  | 0 => by simp [hn]
  | r + 1 => by
    have h1 := hn_bd h j r
    have h2 := dk_bd h zs.length (8 * j + r)
    rw [hn, Int.pow_succ]
    omega
def pkt (zs : List Int) (j : Nat) : List Int := (List.range j).map (pk zs zs.length)
theorem pkt_len (zs : List Int) (j : Nat) : (pkt zs j).length = j := by simp [pkt]
theorem pkt_succ (zs : List Int) (j : Nat) : pkt zs (j + 1) = pkt zs j ++ [pk zs zs.length j] := by simp [pkt, List.range_succ]

set_option maxRecDepth 100000 in
set_option maxHeartbeats 2000000 in
theorem rpacked_ok (b : Nat) (a0 : Option Addr) (c0 : Nat) (zs : List Int) (w : World) (hbw : b ≤ w.heap.size) (hl : zs.length ≤ 100000) (hz : Cr.Bits zs) (hv : At b w a0 zs) :
    Calls Try.prog 10 #[.slice a0 zs.length c0] w fun e w' => ∃ v, e = .returned v ∧ Cr.Own w.heap.size w' v (pkl zs) ∧ Below w.heap.size w w' := by
  obtain ⟨i0, hi, hz0, hz1, hz2⟩ := info_parts info5'
  have HN := Lib.hid (World.ownsRow_nil w w.heap.size 5 1)
  have HV := Lib.hid hv
  have HZ := Lib.hid hz
  have HD := Lib.hid (fun k i => dk_bd hz k i)
  have HH := Lib.hid (fun j r => hn_bd hz j r)
  have HP := Lib.hid (fun k i => pk_bd hz k i)
  clear hv hz
  go_enter Try.func10, Try.ntmps10
  go_wp2
  go_loopw [3, 4] (fun v i wr => ∃ j : Nat, j ≤ (zs.length + 7) / 8 ∧ i = .int .i64 ((8 * j : Nat) : Int) ∧ Hid (Cr.Own w.heap.size wr v (pkt zs j)) ∧ Hid (Below w.heap.size w wr)) (fun _ i _ => zs.length + 8 - (intOf i).toNat)
  case atStart => exact ⟨0, by omega, rfl, Lib.hid HN.out, Lib.hid (Below.refl _ _)⟩
  case round =>
    obtain ⟨j, hj, rfl, hO, hB⟩ := hrel
    by_cases hlt : 8 * j < zs.length
    · have hlt' : ((8 * j : Nat) : Int) < (zs.length : Int) := by omega
      go_wp2
      go_loopw [5, 6] (fun n i w2 => ∃ r : Nat, r ≤ 8 ∧ i = .int .i64 r ∧ n = .int .i64 (hn zs j r) ∧ w2 = wr) (fun _ i _ => 8 - (intOf i).toNat)
      case atStart => exact ⟨0, by omega, rfl, rfl, rfl⟩
      case round =>
        obtain ⟨r, hr, rfl, rfl, rfl⟩ := hrel
        by_cases hr8 : r < 8
        · have hnb := HH.out j r
          have hnb1 := HH.out j (r + 1)
          have hdb := HD.out zs.length (8 * j + r)
          have hp2 : (2 : Int) ^ r ≤ 256 ∧ (2 : Int) ^ (r + 1) ≤ 512 := by
            have : r = 0 ∨ r = 1 ∨ r = 2 ∨ r = 3 ∨ r = 4 ∨ r = 5 ∨ r = 6 ∨ r = 7 := by omega
            rcases this with rfl | rfl | rfl | rfl | rfl | rfl | rfl | rfl <;> decide
          have hn1 : hn zs j (r + 1) = 2 * hn zs j r + dk zs zs.length (8 * j + r) := rfl
          by_cases hin : 8 * j + r < zs.length
          · obtain ⟨g, off, hg, hc⟩ := (HV.out.below hB.out).src hin
            subst hg
            have hdv : dk zs zs.length (8 * j + r) = zs.getD (8 * j + r) 0 := by unfold dk; rw [if_pos hin]
            rw [← hdv] at hc
            obtain ⟨d, hd⟩ : ∃ d, dk zs zs.length (8 * j + r) = d := ⟨_, rfl⟩
            rw [hd] at hc hdb hn1
            obtain ⟨X, hX⟩ : ∃ X, hn zs j r = X := ⟨_, rfl⟩
            rw [hX] at hnb hn1 ⊢
            obtain ⟨Y, hY⟩ : ∃ Y, hn zs j (r + 1) = Y := ⟨_, rfl⟩
            rw [hY] at hnb1 hn1
            have HY := Lib.hid hY
            obtain ⟨x0, x1⟩ := hnb
            have x2 : X ≤ 256 := by omega
            obtain ⟨d0, d1⟩ := hdb
            have hi2 : ((8 * j : Nat) : Int) + (r : Int) = ((8 * j + r : Nat) : Int) := by omega
            have hi3 : ((8 * j + r : Nat) : Int) < (zs.length : Int) := by omega
            have hr8' : (r : Int) < 8 := by omega
            have hn2 := Lib.hid hn1
            clear hX hY hd hdv x1 hp2 hnb1 hn1
            go_wp2
            go_roundw
            case rel => exact ⟨r + 1, by omega, by go_num, by rw [HY.out, hn2.out], trivial⟩
            case measure => simp [intOf]; omega
          · have hdv : dk zs zs.length (8 * j + r) = 0 := dk_out _ _ _ (by omega)
            rw [hdv] at hn1
            obtain ⟨X, hX⟩ : ∃ X, hn zs j r = X := ⟨_, rfl⟩
            rw [hX] at hnb hn1 ⊢
            obtain ⟨Y, hY⟩ : ∃ Y, hn zs j (r + 1) = Y := ⟨_, rfl⟩
            rw [hY] at hn1
            have HY := Lib.hid hY
            obtain ⟨x0, x1⟩ := hnb
            have x2 : X ≤ 256 := by omega
            have hi2 : ((8 * j : Nat) : Int) + (r : Int) = ((8 * j + r : Nat) : Int) := by omega
            have hi3 : ¬ ((8 * j + r : Nat) : Int) < (zs.length : Int) := by omega
            have hr8' : (r : Int) < 8 := by omega
            have hn2 := Lib.hid (show 2 * X = Y by omega)
            clear hX hY hdv x1 hp2 hnb1 hn1
            go_wp2
            go_roundw
            case rel => exact ⟨r + 1, by omega, by go_num, by rw [HY.out, hn2.out], trivial⟩
            case measure => simp [intOf]; omega
        · obtain rfl : r = 8 := by omega
          have hpb := HP.out zs.length j
          rw [hn_end]
          have hsn := Lib.hid (pkt_succ zs j)
          obtain ⟨X, hX⟩ : ∃ X, pk zs zs.length j = X := ⟨_, rfl⟩
          rw [hX] at hpb hsn ⊢
          obtain ⟨x0, x1⟩ := hpb
          have ho1 := hO.out
          have hs1 := hB.out.size
          have hpl := pkt_len zs j
          clear hX
          go_wp2_with (at_builtin; refine wpList_append_own _ rfl _ _ 22 rfl w.heap.size 5 i0 (.int .u8 0) 1 1 Try.underlying22 hi hz0 hz1 hz2 rfl (by decide) _ _ _ rfl (ho1.alloc _) ⟨wr.heap.size, 0, none⟩ 1 1 [.int .u8 X] rfl rfl ?c1 ?c2 ?c3 ?c4 ?c5 ?_)
          case c1 =>
            intro j u hj
            match j, hj with
            | 0, hj => simp at hj; subst hj; simp [Addr.add]
          case c2 => intro u hu; simp at hu; subst hu; rfl
          case c3 => rw [hpl]; unfold maxLen; omega
          case c4 => rw [hpl]; omega
          case c5 => simp; omega
          intro v2 w2 ho2 hg2 _
          have ho3 : Cr.Own w.heap.size w2 v2 (pkt zs (j + 1)) := by rw [hsn.out]; unfold Cr.Own; rw [List.length_append, List.map_append, hpl]; exact ho2
          have hb2 : Below w.heap.size w w2 := (hB.out.alloc hs1 _).grown hg2 (by simp; omega) (fun k hk => (ho1.lt k hk).1)
          clear ho1 ho2 hg2 hO hB
          go_wp2
          go_roundw
          case rel => exact ⟨j + 1, by omega, by go_num, Lib.hid ho3, Lib.hid hb2⟩
          case measure => simp [intOf]; omega
    · have hje : j = (zs.length + 7) / 8 := by omega
      have hlt' : ¬ ((8 * j : Nat) : Int) < (zs.length : Int) := by omega
      have ho : Cr.Own w.heap.size wr u3 (pkl zs) := by have := hO.out; rw [hje] at this; exact this
      have hb := hB.out
      go_wp2
      go_ret
      exact ⟨_, rfl, ho, hb⟩

set_option maxRecDepth 100000 in
set_option maxHeartbeats 2000000 in
theorem rpack_ok (b : Nat) (a0 : Option Addr) (c0 : Nat) (zs : List Int) (w : World) (hbw : b ≤ w.heap.size) (hl : zs.length ≤ 100000) (hz : ∀ z ∈ zs, 0 ≤ z ∧ z ≤ 255) (hv : At b w a0 zs) :
    Calls Try.prog 6 #[.slice a0 zs.length c0] w fun e w' => Below w.heap.size w w' ∧ ((Cr.Bits zs ∧ ∃ v, e = .returned (.tuple #[v, .int .i64 0]) ∧ Cr.Own w.heap.size w' v (pkl zs)) ∨ (¬ Cr.Bits zs ∧ e = .returned (.tuple #[.slice none 0 0, .int .i64 8]))) := by
  have HV := Lib.hid hv
  have HZ := Lib.hid hz
  clear hv hz
  go_enter Try.func6, Try.ntmps6
  go_wp2
  go_loop [4] (fun i => ∃ k : Nat, k ≤ zs.length ∧ i = .int .i64 k ∧ Hid (∀ i, i < k → zs.getD i 0 = 0 ∨ zs.getD i 0 = 1)) (fun i => zs.length - (intOf i).toNat)
  case atStart => exact ⟨0, by omega, rfl, Lib.hid fun i h => by omega⟩
  case round =>
    obtain ⟨k, hk, rfl, hA⟩ := hrel
    by_cases hlt : k < zs.length
    · obtain ⟨g, off, hg, hc⟩ := HV.out.src hlt
      subst hg
      have hd := HZ.out (zs.getD k 0) (by simp [hlt])
      have hlt' : (k : Int) < (zs.length : Int) := by omega
      have hA' : ∀ d, zs.getD k 0 = d → (d = 0 ∨ d = 1) → Hid (∀ i, i < k + 1 → zs.getD i 0 = 0 ∨ zs.getD i 0 = 1) := fun d hd hd01 => Lib.hid fun i hi => by
        by_cases h : i = k
        · subst h; rw [hd]; exact hd01
        · exact hA.out i (by omega)
      obtain ⟨d, hdd⟩ : ∃ d, zs.getD k 0 = d := ⟨_, rfl⟩
      rw [hdd] at hc hd
      obtain ⟨d0, d1⟩ := hd
      by_cases h1 : d ≤ 1
      · have gA := hA' d hdd (by omega)
        clear hA' hdd
        go_wp2
        go_round
        case rel => exact ⟨k + 1, by omega, by go_num, gA⟩
        case measure => simp [intOf]; omega
      · have hnb := Lib.hid (fun (h : Cr.Bits zs) => show False by have := h (zs.getD k 0) (by simp [hlt]); omega)
        have h1' : 1 < d := by omega
        clear hA' hdd
        go_wp2
        go_ret2
        exact ⟨Below.refl _ _, .inr ⟨hnb.out, rfl⟩⟩
    · obtain rfl : k = zs.length := by omega
      have hbits := Lib.hid (bits_take hA.out rfl)
      go_wp2_with (go_at_call 10; ((with_reducible refine (rpacked_ok b a0 c0 zs _ hbw hl hbits.out HV.out).mono ?_); rintro e w1 ⟨v1, rfl, ho1, hb1⟩))
      go_ret2
      exact ⟨hb1, .inl ⟨hbits.out, _, rfl, ho1⟩⟩

theorem un_succ (zs : List Int) (i : Nat) : upto zs (8 * (i + 1)) = upto zs (8 * i) ++ bi (zs.getD i 0) 8 := by
  have e : 8 * (i + 1) = 8 * i + 1 + 1 + 1 + 1 + 1 + 1 + 1 + 1 := by omega
  rw [e]
  simp only [upto_succ, List.append_assoc, List.cons_append, List.nil_append, Nat.add_assoc, Nat.reduceAdd]
  have h := fun k (hk : k < 8) => adg_at zs i k hk
  have h0 := h 0 (by omega)
  rw [Nat.add_zero] at h0
  rw [h0, h 1 (by omega), h 2 (by omega), h 3 (by omega), h 4 (by omega), h 5 (by omega), h 6 (by omega), h 7 (by omega)]
  rfl

set_option maxRecDepth 100000 in
set_option maxHeartbeats 2000000 in
theorem ropened_ok (b : Nat) (a0 : Option Addr) (c0 : Nat) (zs : List Int) (w : World) (hbw : b ≤ w.heap.size) (hl : zs.length ≤ 100000) (hz : ∀ z ∈ zs, 0 ≤ z ∧ z ≤ 255) (hv : At b w a0 zs) :
    Calls Try.prog 13 #[.slice a0 zs.length c0] w fun e w' => ∃ v, e = .returned v ∧ Cr.Own w.heap.size w' v (un zs) ∧ Below w.heap.size w w' := by
  have HN := Lib.hid (World.ownsRow_nil w w.heap.size 5 1)
  have HV := Lib.hid hv
  have HZ := Lib.hid hz
  clear hv hz
  go_enter Try.func13, Try.ntmps13
  go_wp2
  go_loopw [3, 4] (fun v i wr => ∃ j : Nat, j ≤ zs.length ∧ i = .int .i64 j ∧ Hid (Cr.Own w.heap.size wr v (upto zs (8 * j))) ∧ Hid (Below w.heap.size w wr)) (fun _ i _ => zs.length - (intOf i).toNat)
  case atStart => exact ⟨0, by omega, rfl, Lib.hid HN.out, Lib.hid (Below.refl _ _)⟩
  case round =>
    obtain ⟨j, hj, rfl, hO, hB⟩ := hrel
    by_cases hlt : j < zs.length
    · obtain ⟨g, off, hg, hc⟩ := (HV.out.below hB.out).src hlt
      subst hg
      have hd := HZ.out (zs.getD j 0) (by simp [hlt])
      have hsu := Lib.hid (un_succ zs j)
      obtain ⟨d, hdd⟩ : ∃ d, zs.getD j 0 = d := ⟨_, rfl⟩
      rw [hdd] at hc hd hsu
      obtain ⟨d0, d1⟩ := hd
      have hlt' : (j : Int) < (zs.length : Int) := by omega
      have HB8 : Hid (∀ w, Calls Try.prog 18 #[.int .i64 d, .int .i64 8] w fun e w' => ∃ v, e = .returned v ∧ Cr.Own w.heap.size w' v (bi d 8) ∧ Below w.heap.size w w') := Lib.hid fun w => rbits_ok 8 d w (by omega) d0 (by omega)
      have hul := upto_len zs (8 * j)
      have hbl := bi_len d 8
      have hs0 := hB.out.size
      clear hdd
      go_wp2_with (first
        | (go_at_call 18; ((with_reducible refine (HB8.out _).mono ?_); rintro e w3 ⟨v3, rfl, ho3, hb3⟩; have ho4 := Cr.Own.below hO.out hb3; have hb4 := belowT hB.out (hb3); have hs4 := hb4.size))
        | (at_builtin; refine wpList_append_src _ rfl (.tmp 11) (.tmp 17) rfl w.heap.size _ _ rfl ho4 _ (bi d 8) rfl (own_src ho3) (by rw [hul, hbl]; omega) hs4 ?_; intro v5 w5 ho5 hg5 _; have hb5 := below_grown hb4 ho4 (Nat.le_refl _) hg5))
      rw [← hsu.out] at ho5
      go_roundw
      case rel => exact ⟨j + 1, by omega, by go_num, Lib.hid ho5, Lib.hid hb5⟩
      case measure => simp [intOf]; omega
    · obtain rfl : j = zs.length := by omega
      have ho : Cr.Own w.heap.size wr u3 (un zs) := hO.out
      have hb := hB.out
      go_wp2
      go_ret
      exact ⟨_, rfl, ho, hb⟩

theorem runpack_ok (b : Nat) (a0 : Option Addr) (c0 : Nat) (zs : List Int) (w : World) (hbw : b ≤ w.heap.size) (hl : zs.length ≤ 100000) (hz : ∀ z ∈ zs, 0 ≤ z ∧ z ≤ 255) (hv : At b w a0 zs) :
    Calls Try.prog 8 #[.slice a0 zs.length c0] w fun e w' => ∃ v, e = .returned (.tuple #[v, .int .i64 0]) ∧ Cr.Own w.heap.size w' v (un zs) ∧ Below w.heap.size w w' := by
  have HO := Lib.hid (ropened_ok b a0 c0 zs w hbw hl hz hv)
  clear hv hz
  go_enter Try.func8, Try.ntmps8
  go_wp2_with (go_at_call 13; ((with_reducible refine HO.out.mono ?_); rintro e w1 ⟨v1, rfl, ho1, hb1⟩))
  go_ret2
  exact ⟨_, rfl, ho1, hb1⟩
end Go.Proofs.Ythngicplclecpaa.Bi
