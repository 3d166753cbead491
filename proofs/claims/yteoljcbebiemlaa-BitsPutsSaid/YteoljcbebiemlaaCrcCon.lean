/- What crc's calls do. -/
import Derived.Test.YteoljcbebiemlaaRows
import Derived.Test.YteoljcbebiemlaaCrcMath
import Derived.WalkKit
import Derived.ProofKit
import Derived.OpenShut
import Derived.Lib.Hide
namespace Go.Proofs.Yteoljcbebiemlaa.Cr
open Go Go.ChangeShapes Go.WideShapes Go.ChangeAt Go.RowKit

/-- A slice of small numbers, as it lies in memory. -/
def Sl (w : World) (v : Value) (zs : List Int) : Prop :=
  (∃ a cap, v = .slice a 0 cap ∧ zs = []) ∨
  ∃ b off cap, v = .slice (some ⟨b, off, none⟩) zs.length cap ∧ b < w.heap.size ∧ zs.length ≤ cap ∧ cap ≤ maxLen ∧ ∀ i, i < zs.length → w.cell? ⟨b, off + i, none⟩ = some (.int .u8 (zs.getD i 0))

theorem Sl.below {w w' : World} {v : Value} {zs : List Int} (h : Sl w v zs) (hb : Below w.heap.size w w') : Sl w' v zs := by
  rcases h with h | ⟨b, off, cap, h1, h2, h3, h4, h5⟩
  · exact .inl h
  · exact .inr ⟨b, off, cap, h1, Nat.lt_of_lt_of_le h2 hb.size, h3, h4, fun i hi => (hb.cell (p := ⟨b, off + i, none⟩) h2).trans (h5 i hi)⟩

/-- Bits, out of numbers. -/
def bl (zs : List Int) : List Bool := zs.map (· == 1)
def Bits (zs : List Int) : Prop := ∀ z ∈ zs, z = 0 ∨ z = 1

theorem w_of (s : W) : 0 ≤ ((s.toNat : Nat) : Int) ∧ ((s.toNat : Nat) : Int) < 65536 := by
  have := s.isLt; omega
theorem top_of (s : W) : ((s.toNat : Nat) : Int) / 32768 = if s.msb then 1 else 0 := by
  have := s.isLt
  by_cases h : s.msb
  · rw [if_pos h]
    have := BitVec.msb_eq_true_iff_two_mul_ge.1 h
    omega
  · rw [if_neg h]
    rw [Bool.not_eq_true] at h
    have := BitVec.msb_eq_false_iff_two_mul_lt.1 h
    omega
theorem shl_of (s : W) : IntKind.u16.wrap (((s.toNat : Nat) : Int) * 2) = (((s <<< 1).toNat : Nat) : Int) := by
  have := s.isLt
  simp [IntKind.wrap, IntKind.bits, IntKind.signed, BitVec.toNat_shiftLeft, Nat.shiftLeft_eq]
theorem xor_of (s : W) : bits .xor .u16 ((s.toNat : Nat) : Int) 32773 = (((s ^^^ 0x8005#16).toNat : Nat) : Int) := by
  have e : bits .xor .u16 ((s.toNat : Nat) : Int) 32773 = IntKind.u16.wrap (((BitVec.ofInt IntKind.u16.bits ((s.toNat : Nat) : Int) ^^^ BitVec.ofInt IntKind.u16.bits 32773).toNat : Nat) : Int) := rfl
  have e1 : BitVec.ofInt IntKind.u16.bits ((s.toNat : Nat) : Int) = s := by
    apply BitVec.eq_of_toNat_eq
    rw [BitVec.toNat_ofInt]
    have := s.isLt
    show (((s.toNat : Nat) : Int) % ((2 ^ 16 : Nat) : Int)).toNat = s.toNat
    omega
  rw [e, e1]
  have := (s ^^^ 0x8005#16).isLt
  show IntKind.u16.wrap (((s ^^^ BitVec.ofInt 16 32773).toNat : Nat) : Int) = _
  rw [show BitVec.ofInt 16 32773 = 0x8005#16 by decide]
  clear e e1
  generalize s ^^^ 0x8005#16 = t at *
  simp only [IntKind.wrap, IntKind.bits, IntKind.signed]
  simp
  omega

theorem u16_in {x : Int} (h0 : 0 ≤ x) (h1 : x ≤ 65535) : IntKind.u16.wrap x = x := by
  simp [IntKind.wrap, IntKind.bits, IntKind.signed]; omega

def crcI (S : Int) (zs : List Int) : Int := ((run (BitVec.ofNat 16 S.toNat) (bl zs)).toNat : Nat)
theorem crcI_bd (S : Int) (zs : List Int) : 0 ≤ crcI S zs ∧ crcI S zs ≤ 65535 := by
  have := (run (BitVec.ofNat 16 S.toNat) (bl zs)).isLt
  unfold crcI; omega
theorem crcI_nil {S : Int} (s0 : 0 ≤ S) (s1 : S ≤ 65535) : crcI S [] = S := by
  unfold crcI bl
  simp only [List.map_nil, run_nil, BitVec.toNat_ofNat]
  omega
theorem crcI_ofNat (S : Int) (zs : List Int) : BitVec.ofNat 16 (crcI S zs).toNat = run (BitVec.ofNat 16 S.toNat) (bl zs) := by
  unfold crcI
  rw [Int.toNat_natCast]
  apply BitVec.eq_of_toNat_eq
  rw [BitVec.toNat_ofNat]
  exact Nat.mod_eq_of_lt (BitVec.isLt _)
theorem crcI_append (S : Int) (a b : List Int) : crcI S (a ++ b) = crcI (crcI S a) b := by
  have e : run (BitVec.ofNat 16 S.toNat) (bl (a ++ b)) = run (run (BitVec.ofNat 16 S.toNat) (bl a)) (bl b) := by
    unfold bl
    rw [List.map_append, run_append]
  rw [crcI, e, ← crcI_ofNat S a]
  rfl
theorem crcI_one (V d : Int) : crcI V [d] = ((stepB (BitVec.ofNat 16 V.toNat) (d == 1)).toNat : Nat) := rfl
/-- A step, as the code goes it: the bit is unlike the highest one. -/
theorem step_un {V d : Int} (v0 : 0 ≤ V) (v1 : V ≤ 65535) (hd : d = 0 ∨ d = 1) (h : V / 32768 ≠ d) : bits .xor .u16 (IntKind.u16.wrap (V * 2)) 32773 = crcI V [d] := by
  have e : ((BitVec.ofNat 16 V.toNat).toNat : Int) = V := by rw [BitVec.toNat_ofNat]; omega
  rw [crcI_one V d]
  generalize BitVec.ofNat 16 V.toNat = s at *
  subst e
  rw [shl_of, xor_of]
  rw [top_of] at h
  unfold stepB
  rw [if_pos]
  cases hm : s.msb <;> rw [hm] at h <;> rcases hd with rfl | rfl <;> simp at h ⊢
theorem step_like {V d : Int} (v0 : 0 ≤ V) (v1 : V ≤ 65535) (hd : d = 0 ∨ d = 1) (h : V / 32768 = d) : IntKind.u16.wrap (V * 2) = crcI V [d] := by
  have e : ((BitVec.ofNat 16 V.toNat).toNat : Int) = V := by rw [BitVec.toNat_ofNat]; omega
  rw [crcI_one V d]
  generalize BitVec.ofNat 16 V.toNat = s at *
  subst e
  rw [shl_of]
  rw [top_of] at h
  unfold stepB
  rw [if_neg, BitVec.xor_zero]
  cases hm : s.msb <;> rw [hm] at h <;> rcases hd with rfl | rfl <;> simp at h ⊢

theorem take_snoc {zs : List Int} {k : Nat} (h : k < zs.length) : zs.take (k + 1) = zs.take k ++ [zs.getD k 0] := by
  rw [List.take_succ_eq_append_getElem h]
  simp [h]

theorem word_step (B : Nat) (V d : Int) (w : World) (v0 : 0 ≤ V) (v1 : V ≤ 65535) (hd : d = 0 ∨ d = 1) (hcell : w.cell? ⟨B, 0, none⟩ = some (.int .u16 V)) (hfz : w.frozen? ⟨B, 0, none⟩ = false) :
    Calls Try.prog 37 #[.int .u8 d, .pointer (some ⟨B, 0, none⟩)] w fun e w' => e = .returned (.tuple #[]) ∧ w'.cell? ⟨B, 0, none⟩ = some (.int .u16 (crcI V [d])) ∧ w'.frozen? ⟨B, 0, none⟩ = false ∧ Below B w w' := by
  by_cases hu : V / 32768 = d
  · have hv := Lib.hid (step_like v0 v1 hd hu)
    have hb : (V / 32768 != d) = false := by simp [hu]
    have hd0 : 0 ≤ d := by omega
    have hd1 : d ≤ 1 := by omega
    clear hu hd
    go_enter Try.func37, Try.ntmps37
    go_wp2
    go_end0
    exact ⟨rfl, by rw [World.cell?_setCell_same _ _ _ hcell, hv.out], (World.frozen?_setCell _ _ _ _).trans hfz, (Below.refl B w).setCell (p := ⟨B, 0, none⟩) (Nat.le_refl B) _⟩
  · have hv := Lib.hid (step_un v0 v1 hd hu)
    have hb : (V / 32768 != d) = true := by simp [hu]
    have hd0 : 0 ≤ d := by omega
    have hd1 : d ≤ 1 := by omega
    clear hu hd
    go_enter Try.func37, Try.ntmps37
    go_wp2
    go_end0
    exact ⟨rfl, by rw [World.cell?_setCell_same _ _ _ (World.cell?_setCell_same _ _ _ hcell), hv.out], (World.frozen?_setCell _ _ _ _).trans ((World.frozen?_setCell _ _ _ _).trans hfz), ((Below.refl B w).setCell (p := ⟨B, 0, none⟩) (Nat.le_refl B) _).setCell (p := ⟨B, 0, none⟩) (Nat.le_refl B) _⟩

theorem over_nil (S : Int) (a : Option Addr) (cap : Nat) (w : World) (s0 : 0 ≤ S) (s1 : S ≤ 65535) :
    Calls Try.prog 24 #[.int .i64 S, .slice a 0 cap] w fun e w' => e = .returned (.tuple #[.int .i64 S, .int .i64 0]) ∧ Below w.heap.size w w' := by
  have e1 := u16_in s0 s1
  have hb : Below w.heap.size w (w.alloc (.cells #[.int .u16 S] 46)) := (Below.refl _ _).alloc (Nat.le_refl _) _
  go_enter Try.func24, Try.ntmps24
  go_wp2
  go_loopw [21] (fun i wr => i = .int .i64 0 ∧ wr = w.alloc (.cells #[.int .u16 S] 46)) (fun _ _ => 0)
  case atStart => exact ⟨rfl, rfl⟩
  case round =>
    obtain ⟨rfl, rfl⟩ := hrel
    go_wp2
    go_ret2
    exact ⟨rfl, hb⟩

theorem over_some (S : Int) (b off cap : Nat) (zs : List Int) (w : World) (s0 : 0 ≤ S) (s1 : S ≤ 65535) (hbits : Bits zs) (hb : b < w.heap.size) (hl : zs.length ≤ cap) (hm : cap ≤ maxLen) (hc : ∀ i, i < zs.length → w.cell? ⟨b, off + i, none⟩ = some (.int .u8 (zs.getD i 0))) :
    Calls Try.prog 24 #[.int .i64 S, .slice (some ⟨b, off, none⟩) zs.length cap] w fun e w' => e = .returned (.tuple #[.int .i64 (crcI S zs), .int .i64 0]) ∧ Below w.heap.size w w' := by
  have e1 := u16_in s0 s1
  unfold maxLen at hm
  have HC := Lib.hid hc
  have HB := Lib.hid hbits
  clear hc hbits
  have hw0 : Below w.heap.size w (w.alloc (.cells #[.int .u16 S] 46)) := (Below.refl _ _).alloc (Nat.le_refl _) _
  go_enter Try.func24, Try.ntmps24
  go_wp2
  go_loopw [21] (fun i wr => ∃ k : Nat, k ≤ zs.length ∧ i = .int .i64 k ∧ wr.cell? ⟨w.heap.size, 0, none⟩ = some (.int .u16 (crcI S (zs.take k))) ∧ wr.frozen? ⟨w.heap.size, 0, none⟩ = false ∧ Below w.heap.size w wr) (fun i _ => zs.length - (intOf i).toNat)
  case atStart => exact ⟨0, by omega, rfl, by rw [List.take_zero, crcI_nil s0 s1]; simp [go_sem], by simp [go_sem], hw0⟩
  case round =>
    obtain ⟨k, hk, rfl, hcell, hfz, hbel⟩ := hrel
    by_cases hlt : k < zs.length
    · have hz : wr.cell? ⟨b, off + k, none⟩ = some (.int .u8 (zs.getD k 0)) := (hbel.cell (p := ⟨b, off + k, none⟩) hb).trans (HC.out k hlt)
      have hd : zs.getD k 0 = 0 ∨ zs.getD k 0 = 1 := HB.out _ (by simp [hlt])
      have hst : Hid (crcI S (zs.take (k + 1)) = crcI (crcI S (zs.take k)) [zs.getD k 0]) := Lib.hid (by rw [take_snoc hlt, crcI_append])
      have vb := crcI_bd S (zs.take k)
      generalize crcI S (zs.take k) = V at *
      generalize zs.getD k 0 = d at *
      obtain ⟨v0, v1⟩ := vb
      go_wp2_with (go_at_call 37; refine (word_step w.heap.size V d _ v0 v1 hd hcell hfz).mono ?_; rintro e w' ⟨rfl, hcell', hfz', hbel'⟩)
      go_roundw
      case rel => exact ⟨k + 1, by omega, by go_num, by rw [hst.out]; exact hcell', hfz', hbel.trans hbel'⟩
      case measure => simp [intOf]; omega
    · have hend : k = zs.length := by omega
      subst hend
      rw [List.take_length] at hcell
      have vb := crcI_bd S zs
      obtain ⟨v0, v1⟩ := vb
      go_wp2
      go_ret2
      exact ⟨rfl, hbel⟩

/-- A sum that goes on over bits, wherever they lie. -/
theorem over_ok (S : Int) (v : Value) (zs : List Int) (w : World) (s0 : 0 ≤ S) (s1 : S ≤ 65535) (hbits : Bits zs) (h : Sl w v zs) :
    Calls Try.prog 24 #[.int .i64 S, v] w fun e w' => e = .returned (.tuple #[.int .i64 (crcI S zs), .int .i64 0]) ∧ Below w.heap.size w w' := by
  rcases h with ⟨a, cap, rfl, rfl⟩ | ⟨b, off, cap, rfl, h2, h3, h4, h5⟩
  · rw [crcI_nil s0 s1]; exact over_nil S a cap w s0 s1
  · exact over_some S b off cap zs w s0 s1 hbits h2 h3 h4 h5

def sum (zs : List Int) : Int := crcI 65535 zs
theorem of_ok (v : Value) (zs : List Int) (w : World) (hbits : Bits zs) (h : Sl w v zs) :
    Calls Try.prog 25 #[v] w fun e w' => e = .returned (.tuple #[.int .i64 (sum zs), .int .i64 0]) ∧ Below w.heap.size w w' := by
  have hv : ∃ a l c, v = .slice a l c := by
    rcases h with ⟨a, cap, h, _⟩ | ⟨b, off, cap, h, _⟩
    · exact ⟨_, _, _, h⟩
    · exact ⟨_, _, _, h⟩
  obtain ⟨a, l, c, rfl⟩ := hv
  go_enter Try.func25, Try.ntmps25
  go_wp2_with (go_at_call 24; refine (over_ok 65535 _ zs _ (by decide) (by decide) hbits h).mono ?_; rintro e w' ⟨rfl, hb⟩)
  go_ret2
  exact ⟨rfl, hb⟩

theorem info5 : (Try.prog.info? 5).map (fun i => (i.zero, i.size, i.bytes)) = some (some (.int .u8 0), 1, 1) := by kernel_rfl

def par (zs : List Int) : List Int := zs.map (· % 2)
def Own (base : Nat) (w : World) (v : Value) (zs : List Int) : Prop := w.ownsRow base 5 1 v zs.length (zs.map (Value.int .u8))

theorem bits_ok (v : Value) (zs : List Int) (w : World) (hz : ∀ z ∈ zs, 0 ≤ z ∧ z ≤ 255) (hl : zs.length ≤ 20000) (h : Sl w v zs) :
    Calls Try.prog 29 #[v] w fun e w' => ∃ v', e = .returned v' ∧ Own w.heap.size w' v' (par zs) ∧ (zs = [] → v' = .slice none 0 0) ∧ Below w.heap.size w w' := by
  obtain ⟨i0, hi, hz0, hz1, hz2⟩ := info_parts info5
  rcases h with ⟨a, cap, rfl, rfl⟩ | ⟨b, off, cap, rfl, hb, hcap, hm, hc⟩
  · go_enter Try.func29, Try.ntmps29
    go_wp2
    go_loop [3, 4] (fun o i => o = .slice none 0 0 ∧ i = .int .i64 0) (fun _ _ => 0)
    case atStart => exact ⟨rfl, rfl⟩
    case round =>
      obtain ⟨rfl, rfl⟩ := hrel
      go_wp2
      go_ret
      exact ⟨_, rfl, World.ownsRow_nil _ _ _ _, by first | exact fun _ => rfl | rfl, Below.refl _ _⟩
  · unfold maxLen at hm
    have HC := Lib.hid hc
    have HZ := Lib.hid hz
    clear hc hz
    go_enter Try.func29, Try.ntmps29
    go_wp2
    go_loopw [3, 4] (fun o i wr => ∃ k : Nat, k ≤ zs.length ∧ i = .int .i64 k ∧ wr.ownsRow w.heap.size 5 1 o k ((par (zs.take k)).map (Value.int .u8)) ∧ (k = 0 → o = .slice none 0 0) ∧ Below w.heap.size w wr) (fun _ i _ => zs.length - (intOf i).toNat)
    case atStart => exact ⟨0, by omega, rfl, World.ownsRow_nil _ _ _ _, fun _ => rfl, Below.refl _ _⟩
    case round =>
      obtain ⟨k, hk, rfl, hown, hnil, hbel⟩ := hrel
      have HN := Lib.hid hnil
      clear hnil
      by_cases hlt : k < zs.length
      · have hzk : wr.cell? ⟨b, off + k, none⟩ = some (.int .u8 (zs.getD k 0)) := (hbel.cell (p := ⟨b, off + k, none⟩) hb).trans (HC.out k hlt)
        have hd := HZ.out (zs.getD k 0) (by simp [hlt])
        have hp : Hid (par (zs.take (k + 1)) = par (zs.take k) ++ [zs.getD k 0 % 2]) := Lib.hid (by unfold par; rw [take_snoc hlt, List.map_append]; rfl)
        have hsz := hbel.size
        generalize zs.getD k 0 = d at *
        obtain ⟨d0, d1⟩ := hd
        go_wp2_with (at_builtin; refine wpList_append_own _ rfl _ _ 22 rfl w.heap.size 5 i0 (.int .u8 0) 1 1 Try.underlying22 hi hz0 hz1 hz2 rfl (by decide) _ _ _ rfl (hown.alloc _) ⟨wr.heap.size, 0, none⟩ 1 1 [.int .u8 (d % 2)] rfl rfl ?c1 ?c2 ?c3 ?c4 ?c5 ?_)
        case c1 =>
          intro j u hj
          match j, hj with
          | 0, hj => simp at hj; subst hj; simp [Addr.add]
        case c2 => intro u hu; simp at hu; subst hu; rfl
        case c3 => unfold maxLen; omega
        case c4 => omega
        case c5 => simp; omega
        intro v' w1 hown' hgrow _
        have hb1 : Below w.heap.size w w1 := (hbel.alloc hsz _).grown hgrow (by simp; omega) (fun j hj => (hown.lt j hj).1)
        have hown2 : w1.ownsRow w.heap.size 5 1 v' (k + 1) ((par (zs.take (k + 1))).map (Value.int .u8)) := by
          rw [hp.out, List.map_append]; exact hown'
        clear hown' hgrow hown hzk
        go_wp2
        go_roundw
        case rel => exact ⟨k + 1, by omega, by go_num, hown2, fun h => absurd h (by omega), hb1⟩
        case measure => simp [intOf]; omega
      · have hend : k = zs.length := by omega
        subst hend
        rw [List.take_length] at hown
        have hn : (par zs).length = zs.length := by simp [par]
        have hown3 : Own w.heap.size wr u3 (par zs) := by unfold Own; rw [hn]; exact hown
        clear hown hn
        go_wp2
        go_ret
        exact ⟨_, rfl, hown3, fun h => HN.out (by rw [h]; rfl), hbel⟩

theorem add_at (g i : Nat) : (⟨g, 0, none⟩ : Addr).add i = ⟨g, 0 + i, none⟩ := by
  unfold Addr.add
  split
  · subst_vars; rfl
  · rfl
theorem Own.sl {base : Nat} {w : World} {v : Value} {zs : List Int} (h : Own base w v zs) : Sl w v zs := by
  have hlt := h.lt
  have hcells := @World.ownsRow.cells _ _ _ _ _ _ _ h
  obtain ⟨hx, ⟨rfl, hn⟩ | ⟨g, cap, cur, rfl, hg, hh, hc, hm, hs, ht⟩⟩ := h
  · exact .inl ⟨none, 0, rfl, by cases zs with | nil => rfl | cons _ _ => simp at hn⟩
  · refine .inr ⟨g, 0, cap, rfl, (hlt g rfl).2, hc, hm, fun i hi => ?_⟩
    have := hcells (g := g) rfl i (.int .u8 (zs.getD i 0)) (by simp [hi])
    rwa [add_at] at this
theorem Own.below {base : Nat} {w w' : World} {v : Value} {zs : List Int} (h : Own base w v zs) (hb : Below w.heap.size w w') : Own base w' v zs := by
  have hlt := h.lt
  obtain ⟨hx, h | ⟨g, cap, cur, rfl, hg, hh, hc, hm, hs, ht⟩⟩ := h
  · exact ⟨hx, .inl h⟩
  · exact ⟨hx, .inr ⟨g, cap, cur, rfl, hg, (hb.block g (hlt g rfl).2).trans hh, hc, hm, hs, ht⟩⟩
theorem belowT {w w1 w2 : World} (a : Below w.heap.size w w1) (b : Below w1.heap.size w1 w2) : Below w.heap.size w w2 := a.trans (b.mono a.size)
theorem par_bits (zs : List Int) (hz : ∀ z ∈ zs, 0 ≤ z ∧ z ≤ 255) : Bits (par zs) := by
  intro z h
  simp only [par, List.mem_map] at h
  obtain ⟨x, hx, rfl⟩ := h
  have := hz x hx
  omega
theorem par_len (zs : List Int) : (par zs).length = zs.length := by simp [par]
theorem par_append (a b : List Int) : par (a ++ b) = par a ++ par b := by simp [par]

/-- The law's own list of bits, of a slice that lay there when the law was called. -/
theorem bitsB {W : World} {v : Value} {zs : List Int} (hz : ∀ z ∈ zs, 0 ≤ z ∧ z ≤ 255) (hl : zs.length ≤ 20000) (h : Sl W v zs) (w : World) (hb : Below W.heap.size W w) :
    Calls Try.prog 29 #[v] w fun e w' => ∃ v', e = .returned v' ∧ Own w.heap.size w' v' (par zs) ∧ W.heap.size ≤ w.heap.size ∧ Below w.heap.size w w' ∧ Below W.heap.size W w' :=
  (bits_ok v zs w hz hl (h.below hb)).mono fun _ _ ⟨v', h1, h2, _, h4⟩ => ⟨v', h1, h2, hb.size, h4, belowT hb h4⟩
theorem bitsN {W : World} {v : Value} (h : Sl W v []) (w : World) (hb : Below W.heap.size W w) :
    Calls Try.prog 29 #[v] w fun e w' => e = .returned (.slice none 0 0) ∧ Below w.heap.size w w' ∧ Below W.heap.size W w' :=
  (bits_ok v [] w (by simp) (by simp) (h.below hb)).mono fun _ _ ⟨v', h1, _, h3, h4⟩ => ⟨by rw [h1, h3 rfl], h4, belowT hb h4⟩
theorem bitsC {W : World} {v : Value} {zs : List Int} (hne : zs ≠ []) (hz : ∀ z ∈ zs, 0 ≤ z ∧ z ≤ 255) (hl : zs.length ≤ 20000) (h : Sl W v zs) (w : World) (hb : Below W.heap.size W w) :
    Calls Try.prog 29 #[v] w fun e w' => ∃ g cap, e = .returned (.slice (some ⟨g, 0, none⟩) zs.length cap) ∧ Own w.heap.size w' (.slice (some ⟨g, 0, none⟩) zs.length cap) (par zs) ∧ Below w.heap.size w w' ∧ Below W.heap.size W w' :=
  (bits_ok v zs w hz hl (h.below hb)).mono fun _ _ ⟨v', h1, h2, _, h4⟩ => by
    have h2' := h2
    obtain ⟨hx, ⟨_, hn⟩ | ⟨g, cap, cur, rfl, hg, hh, hc, hm, hs, ht⟩⟩ := h2
    · rw [par_len] at hn
      exact absurd (List.length_eq_zero_iff.1 hn) hne
    · rw [par_len] at h1 h2'
      exact ⟨g, cap, h1, h2', h4, belowT hb h4⟩
theorem ofB {W : World} {v : Value} {zs : List Int} (hbits : Bits zs) (w : World) (h : Sl w v zs) (hb : Below W.heap.size W w) :
    Calls Try.prog 25 #[v] w fun e w' => e = .returned (.tuple #[.int .i64 (sum zs), .int .i64 0]) ∧ Below w.heap.size w w' ∧ Below W.heap.size W w' :=
  (of_ok v zs w hbits h).mono fun _ _ ⟨h1, h2⟩ => ⟨h1, h2, belowT hb h2⟩
theorem overB {W : World} {v : Value} {zs : List Int} {S : Int} (s0 : 0 ≤ S) (s1 : S ≤ 65535) (hbits : Bits zs) (w : World) (h : Sl w v zs) (hb : Below W.heap.size W w) :
    Calls Try.prog 24 #[.int .i64 S, v] w fun e w' => e = .returned (.tuple #[.int .i64 (crcI S zs), .int .i64 0]) ∧ Below w.heap.size w w' ∧ Below W.heap.size W w' :=
  (over_ok S v zs w s0 s1 hbits h).mono fun _ _ ⟨h1, h2⟩ => ⟨h1, h2, belowT hb h2⟩
theorem sum_bd (zs : List Int) : 0 ≤ sum zs ∧ sum zs ≤ 65535 := crcI_bd _ _
theorem sum_append (a b : List Int) : sum (a ++ b) = crcI (sum a) b := crcI_append _ _ _
theorem crcI_inj {S T : Int} {zs : List Int} (s0 : 0 ≤ S) (s1 : S ≤ 65535) (t0 : 0 ≤ T) (t1 : T ≤ 65535) (h : crcI S zs = crcI T zs) : S = T := by
  unfold crcI at h
  have h1 : run (BitVec.ofNat 16 S.toNat) (bl zs) = run (BitVec.ofNat 16 T.toNat) (bl zs) := BitVec.eq_of_toNat_eq (by omega)
  have h2 := congrArg BitVec.toNat (run_inj h1)
  simp only [BitVec.toNat_ofNat] at h2
  omega
/-- What a law is told of a slice that came in. -/
def IsRow (k : IntKind) (w : World) (a : Option Addr) (len cap : Nat) (zs : List Int) : Prop :=
  (a = none ∧ len = 0 ∧ cap = 0 ∧ zs = []) ∨
  ∃ x, a = some x ∧ len ≤ cap ∧ cap ≤ maxLen ∧ zs.length = cap ∧ (∀ i, i < zs.length → w.cell? (x.add i) = some (.int k (zs.getD i 0))) ∧ ∀ n ∈ zs, (Lit.int k n).wf = true
theorem lt_of_cell {w : World} {p : Addr} {v : Value} (h : w.cell? p = some v) : p.block < w.heap.size := by
  refine Nat.not_le.1 fun hle => ?_
  have : w.heap[p.block]? = none := by simp; omega
  simp [World.cell?, this] at h
theorem IsRow.sl {w : World} {a : Option Addr} {len cap : Nat} {zs : List Int} (h : IsRow .u8 w a len cap zs) : ∃ xs : List Int, xs.length = len ∧ Sl w (.slice a xs.length cap) xs ∧ ∀ z ∈ xs, 0 ≤ z ∧ z ≤ 255 := by
  rcases h with ⟨rfl, rfl, rfl, rfl⟩ | ⟨x, rfl, hl, hm, hz, hc, hwf⟩
  · exact ⟨[], rfl, .inl ⟨_, _, rfl, rfl⟩, by simp⟩
  · have hlen : (zs.take len).length = len := by simp; omega
    refine ⟨zs.take len, hlen, ?_, fun z hz' => bounds_u8 (hwf z (List.mem_of_mem_take hz'))⟩
    rw [hlen]
    by_cases h0 : len = 0
    · subst h0; exact .inl ⟨_, _, rfl, rfl⟩
    · obtain ⟨b, off, rfl, hc'⟩ := ints_at hc (by omega)
      have hb := lt_of_cell (hc' 0 (by omega))
      refine .inr ⟨b, off, cap, by rw [hlen], hb, by omega, hm, fun i hi => ?_⟩
      rw [hlen] at hi
      rw [hc' i (by omega)]
      simp [hi]
theorem one8 (zs : List Int) : ∀ u ∈ zs.map (Value.int .u8), u.oneCell' = true := by
  intro u hu
  simp only [List.mem_map] at hu
  obtain ⟨x, _, rfl⟩ := hu
  rfl
theorem own_append {base : Nat} {w : World} {v : Value} {a b : List Int} (h : w.ownsRow base 5 1 v ((par a).length + b.length) ((par a).map (Value.int .u8) ++ (par b).map (Value.int .u8))) : Own base w v (par (a ++ b)) := by
  unfold Own
  rw [par_append, List.length_append, List.map_append, par_len b]
  exact h
theorem below_grown {W w w' : World} {base : Nat} {v : Value} {zs : List Int} (hb : Below W.heap.size W w) (ho : Own base w v zs) (hle : W.heap.size ≤ base) (hg : w.grownBy w' v.ownBlock) : Below W.heap.size W w' :=
  hb.grown hg hb.size fun k hk => Nat.le_trans hle (ho.lt k hk).1
theorem IsRow.le {w : World} {a : Option Addr} {len cap : Nat} {zs : List Int} (h : IsRow .u8 w a len cap zs) : len ≤ maxLen := by
  rcases h with ⟨_, rfl, _, _⟩ | ⟨_, _, hl, hm, _⟩
  · unfold maxLen; omega
  · omega
end Go.Proofs.Yteoljcbebiemlaa.Cr
