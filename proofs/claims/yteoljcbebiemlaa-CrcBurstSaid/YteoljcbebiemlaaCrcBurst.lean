/- Bits that are turned, all of them among 16 that stand one behind the other, give another sum. CrcBurst returns true, whatever the bits, the place and the bits that are turned, the memory and the schedule. No condition. -/
import Derived.Test.YteoljcbebiemlaaCrcWin
import Derived.Test.YteoljcbebiemlaaCrcAlive
import Derived.WalkKit
import Derived.RegionTactic
import Derived.ChangeAlike
import Derived.ProofKit
import Derived.OpenShut
import Derived.ShutString
import Derived.ChangeOld
import Derived.Below
import Derived.Lib.Hide
namespace Go.Proofs.Yteoljcbebiemlaa.crcBurst
open Go Go.ChangeShapes Go.WideShapes Go.ChangeAt Go.RowKit Go.Proofs.Yteoljcbebiemlaa.Cr

theorem long (a0 : Option Addr) (l0 c0 : Nat) (A T : Int) (w : World) (m0 : l0 ≤ maxLen) (h0 : l0 = 0 ∨ 20000 < l0) :
    Calls Try.prog 11 #[.slice a0 l0 c0, .int .u16 A, .int .u16 T] w fun e w' => e = .returned (.bool true) ∧ Below w.heap.size w w' := by
  unfold maxLen at m0
  by_cases h : l0 = 0
  · subst h
    go_enter Try.func11, Try.ntmps11
    go_wp2_with (go_at_call 26; refine (alive_ok _).mono ?_; rintro e w' ⟨rfl, hb⟩)
    go_ret
    exact ⟨rfl, by assumption⟩
  · have h1 : 20000 < l0 := by omega
    have h2 : ((l0 : Int) == 0) = false := by simp; omega
    clear h0 h
    go_enter Try.func11, Try.ntmps11
    go_wp2_with (go_at_call 26; refine (alive_ok _).mono ?_; rintro e w' ⟨rfl, hb⟩)
    go_ret
    exact ⟨rfl, by assumption⟩

/-- A row of the call's own, number for number, none of them frozen. -/
def Row (w : World) (g : Nat) (zs : List Int) : Prop := ∀ j, j < zs.length → w.cell? ⟨g, j, none⟩ = some (.int .u8 (zs.getD j 0)) ∧ w.frozen? ⟨g, j, none⟩ = false
theorem row_of {base : Nat} {w : World} {g n cap : Nat} {zs : List Int} (h : Own base w (.slice (some ⟨g, 0, none⟩) n cap) zs) : Row w g zs ∧ base ≤ g := by
  have hcells := @World.ownsRow.cells _ _ _ _ _ _ _ h
  have hlt := h.lt g rfl
  refine ⟨fun j hj => ⟨?_, ?_⟩, hlt.1⟩
  · have := hcells (g := g) rfl j (.int .u8 (zs.getD j 0)) (by simp [hj])
    rwa [add_at, Nat.zero_add] at this
  · obtain ⟨hx, ⟨h1, _⟩ | ⟨g', cap', cur, h1, hg, hh, hc, hm, hs, ht⟩⟩ := h
    · cases h1
    · simp only [Value.slice.injEq, Option.some.injEq, Addr.mk.injEq] at h1
      obtain ⟨⟨rfl, _⟩, _⟩ := h1
      simp [World.frozen?, hh]
theorem row_set {w : World} {g f k : Nat} {zs : List Int} {T v : Int} (h : Row w g (md zs f T k)) (hk : f + k < zs.length) (hv : v = (zs.getD (f + k) 0 + T / 2 ^ k % 2) % 2) : Row (w.setCell ⟨g, f + k, none⟩ (.int .u8 v)) g (md zs f T (k + 1)) := by
  intro j hj
  rw [md_len] at hj
  have hj' := h j (by rw [md_len]; exact hj)
  have hcur := h (f + k) (by rw [md_len]; exact hk)
  refine ⟨?_, (World.frozen?_setCell _ _ _ _).trans hj'.2⟩
  by_cases e : j = f + k
  · subst e
    rw [World.cell?_setCell_same _ _ _ hcur.1, md_new hk, hv]
  · rw [World.cell?_setCell_other _ _ _ _ (by simp), md_old hj e]
    exact hj'.1
theorem row_drew {w : World} {g : Nat} {zs : List Int} (h : Row w g zs) : Row w.drew g zs := h

theorem row_below {w w' : World} {g : Nat} {zs : List Int} (h : Row w g zs) (hg : g < w.heap.size) (hb : Below w.heap.size w w') : Row w' g zs := fun j hj =>
  ⟨(hb.cell (p := ⟨g, j, none⟩) hg).trans (h j hj).1, (hb.frozen (p := ⟨g, j, none⟩) hg).trans (h j hj).2⟩
theorem own_bd {base : Nat} {w : World} {g n cap : Nat} {zs : List Int} (h : Own base w (.slice (some ⟨g, 0, none⟩) n cap) zs) : n ≤ cap ∧ cap ≤ maxLen ∧ g < w.heap.size := by
  refine ⟨?_, ?_, (h.lt g rfl).2⟩
  all_goals
    obtain ⟨hx, ⟨h1, _⟩ | ⟨g', cap', cur, h1, hg, hh, hc, hm, hs, ht⟩⟩ := h
    · cases h1
    · simp only [Value.slice.injEq] at h1
      obtain ⟨_, h2, rfl⟩ := h1
      omega
theorem row_sl {w : World} {g cap n : Nat} {zs : List Int} (h : Row w g zs) (hg : g < w.heap.size) (hn : zs.length = n) (h1 : n ≤ cap) (h2 : cap ≤ maxLen) : Sl w (.slice (some ⟨g, 0, none⟩) n cap) zs :=
  .inr ⟨g, 0, cap, by rw [hn], hg, by omega, h2, fun i hi => by rw [Nat.zero_add]; exact (h i hi).1⟩

def Both (w : World) (gb gc : Nat) (zb zc : List Int) : Prop := Row w gb zb ∧ Row w gc zc ∧ gb < w.heap.size ∧ gc < w.heap.size
theorem both_below {w w' : World} {gb gc : Nat} {zb zc : List Int} (h : Both w gb gc zb zc) (hb : Below w.heap.size w w') : Both w' gb gc zb zc :=
  ⟨row_below h.1 h.2.2.1 hb, row_below h.2.1 h.2.2.2 hb, Nat.lt_of_lt_of_le h.2.2.1 hb.size, Nat.lt_of_lt_of_le h.2.2.2 hb.size⟩
theorem both_b {w : World} {gb gc cap n : Nat} {zb zc : List Int} (h : Both w gb gc zb zc) (hn : zb.length = n) (h1 : n ≤ cap) (h2 : cap ≤ maxLen) : Sl w (.slice (some ⟨gb, 0, none⟩) n cap) zb := row_sl h.1 h.2.2.1 hn h1 h2
theorem both_c {w : World} {gb gc cap n : Nat} {zb zc : List Int} (h : Both w gb gc zb zc) (hn : zc.length = n) (h1 : n ≤ cap) (h2 : cap ≤ maxLen) : Sl w (.slice (some ⟨gc, 0, none⟩) n cap) zc := row_sl h.2.1 h.2.2.2 hn h1 h2
theorem conv_of {w : World} {g n cap : Nat} {zs : List Int} (h : Row w g zs) (hn : zs.length = n) : (convert 22 9 (.slice (some ⟨g, 0, none⟩) n cap)).run Try.prog w = .ok (.string (strOfNums zs)) w :=
  run_convert_bytes_arg w 22 5 Try.underlying22 Try.underlying5 g 0 n cap zs hn (fun i hi => by rw [Nat.zero_add]; exact (h i (by omega)).1) 9 Try.underlying9

theorem retB {b : Bool} (h : b = true) : Ending.returned (.bool b) = .returned (.bool true) := by rw [h]

set_option maxRecDepth 100000 in
set_option maxHeartbeats 2000000 in
theorem short (a0 : Option Addr) (c0 : Nat) (za : List Int) (A T : Int) (w : World) (x0 : 0 ≤ A) (x1 : A ≤ 65535) (t0 : 0 ≤ T) (t1 : T ≤ 65535) (hne : za ≠ []) (hla : za.length ≤ 20000) (hza : ∀ z ∈ za, 0 ≤ z ∧ z ≤ 255) (hsa : Sl w (.slice a0 za.length c0) za) :
    Calls Try.prog 11 #[.slice a0 za.length c0, .int .u16 A, .int .u16 T] w fun e w' => e = .returned (.bool true) ∧ Below w.heap.size w w' := by
  have n0 : 0 < za.length := List.length_pos_iff.2 hne
  have n1 : ((za.length : Int) == 0) = false := by simp; exact hne
  obtain ⟨f, hf⟩ : ∃ f : Nat, A % (za.length : Int) = (f : Int) := ⟨(A % (za.length : Int)).toNat, by have := Int.emod_nonneg A (b := (za.length : Int)) (by omega); omega⟩
  have hf1 : f < za.length := by have := Int.emod_lt_of_pos A (b := (za.length : Int)) (by omega); omega
  have Ne := Lib.hid hne
  have Za := Lib.hid hza
  have Sa := Lib.hid hsa
  clear hza hsa hne
  go_enter Try.func11, Try.ntmps11
  go_wp2_with (first
    | (go_at_call 26; refine (alive_ok _).mono ?_; rintro e w' ⟨rfl, hb⟩)
    | (go_at_call 29; (have _hq := hownb); ((with_reducible refine (bitsC (W := w) (zs := za) Ne.out Za.out hla Sa.out _ (by assumption)).mono ?_); rintro e wc ⟨gc, capc, rfl, hownc, hblc, hbc⟩))
    | (go_at_call 29; ((with_reducible refine (bitsC (W := w) (zs := za) Ne.out Za.out hla Sa.out _ (by assumption)).mono ?_); rintro e wb ⟨gb, capb, rfl, hownb, hblb, hbb⟩)))
  simp only [hf]
  have hslb := hownb.sl
  obtain ⟨hrow, hgc⟩ := row_of hownc
  obtain ⟨hc1, hc2, hc3⟩ := own_bd hownc
  have hc4 := hblc.size
  have hbits := Lib.hid (par_bits za Za.out)
  have hlen := par_len za
  have hrow0 : Row wc gc (md (par za) f T 0) := fun j hj => by
    rw [md_len] at hj
    rw [md_zero hj]
    exact hrow j hj
  clear hrow
  go_loopw [11] (fun i wr => ∃ k : Nat, k ≤ 16 ∧ f + k ≤ za.length ∧ i = .int .i64 k ∧ Hid (Row wr gc (md (par za) f T k)) ∧ Below wb.heap.size wb wr) (fun i _ => 16 - (intOf i).toNat)
  case atStart => exact ⟨0, by omega, by omega, rfl, Lib.hid hrow0, hblc⟩
  case round =>
    obtain ⟨k, hk, hfk, rfl, hR, hbel⟩ := hrel
    by_cases hlt : k < 16 ∧ f + k < za.length
    · obtain ⟨hlt, hlt2⟩ := hlt
      have hlt3 : f + k < (par za).length := by omega
      have hcf := hR.out (f + k) (by rw [md_len]; exact hlt3)
      rw [md_cur hlt3] at hcf
      obtain ⟨hcell, hfz⟩ := hcf
      have hz01 := hbits.out ((par za).getD (f + k) 0) (by simp [hlt3])
      have hsb := shr_bd t0 t1 k
      have hand := and_one hsb.1 hsb.2
      have hd01 : T / 2 ^ k % 2 = 0 ∨ T / 2 ^ k % 2 = 1 := by omega
      have hxor := Lib.hid (xor01 hz01 hd01)
      have hset := Lib.hid (fun v hv => row_set (T := T) (v := v) hR.out hlt3 hv)
      generalize (par za).getD (f + k) 0 = z at *
      generalize T / 2 ^ k % 2 = d at *
      have hd0 : 0 ≤ d := by omega
      have hd1 : d ≤ 1 := by omega
      go_wp2
      go_region
      all_goals
        go_wp2
        go_roundw
        case rel => exact ⟨k + 1, by omega, by omega, by go_num, Lib.hid (row_drew (hset.out _ (by rw [hxor.out]))), (hbel.setCell (p := ⟨gc, f + k, none⟩) hgc _).drew⟩
        case measure => simp [intOf]; omega
    · have hrowb := (row_of hownb).1
      obtain ⟨hb1, hb2, hb3⟩ := own_bd hownb
      have hrb := row_below hrowb hb3 hbel
      have hml := md_len (par za) f T k
      have hgc' : gc < wr.heap.size := lt_of_cell (hR.out 0 (by rw [hml, hlen]; exact n0)).1
      have hB := Lib.hid (show Both wr gb gc (par za) (md (par za) f T k) from ⟨hrb, hR.out, Nat.lt_of_lt_of_le hb3 hbel.size, hgc'⟩)
      have hzc := Lib.hid (md_bits (f := f) (T := T) (k := k) hbits.out)
      have hburst := Lib.hid (burst (f := f) (T := T) (k := k) hbits.out hk)
      have hstr := Lib.hid (str_inj hbits.out hzc.out)
      have hzl : (md (par za) f T k).length = za.length := hml.trans hlen
      have HL := Lib.hid hlen
      have HZ := Lib.hid hzl
      clear hml hrb hrowb hrow0 hR hslb hzl hlen
      generalize md (par za) f T k = zc at *
      have EQ : Hid (((sum (par za) == sum zc) == ((strOfNums (par za)).toList == (strOfNums zc).toList)) = true) := Lib.hid (by
        by_cases hq : par za = zc
        · rw [hq]; simp
        · have h1 : (sum (par za) == sum zc) = false := by rw [Bool.eq_false_iff]; intro h; exact hq (hburst.out (by simpa using h))
          have h2 : ((strOfNums (par za)).toList == (strOfNums zc).toList) = false := by
            rw [Bool.eq_false_iff]; intro h
            rw [ByteArray.toList_eq, ByteArray.toList_eq] at h
            exact hq (hstr.out (bytes_inj (by simpa using h)))
          rw [h1, h2]; rfl)
      have hbw := belowT hbb hbel
      by_cases c16 : k < 16
      · have cn : ¬ f + k < za.length := fun h => hlt ⟨c16, h⟩
        clear hlt
        go_wp2_with (first
          | (go_at_call 25; ((with_reducible refine (ofB (W := w) (v := .slice (some ⟨gb, 0, none⟩) za.length capb) hbits.out _ (both_b hB.out HL.out hb1 hb2) hbw).mono ?_); rintro e w5 ⟨rfl, hbl5, hb5⟩; have hB5 := Lib.hid (both_below hB.out hbl5)))
          | (go_at_call 25; ((with_reducible refine (ofB (W := w) (v := .slice (some ⟨gc, 0, none⟩) za.length capc) hzc.out _ (both_c hB5.out HZ.out hc1 hc2) hb5).mono ?_); rintro e w6 ⟨rfl, hbl6, hb6⟩; have hB6 := both_below hB5.out hbl6; have g1 := conv_of (cap := capb) hB6.1 HL.out; have g2 := conv_of (cap := capc) hB6.2.1 HZ.out; clear hB6)))
        go_ret
        exact ⟨retB EQ.out, by assumption⟩
      · clear hlt
        go_wp2_with (first
          | (go_at_call 25; ((with_reducible refine (ofB (W := w) (v := .slice (some ⟨gb, 0, none⟩) za.length capb) hbits.out _ (both_b hB.out HL.out hb1 hb2) hbw).mono ?_); rintro e w5 ⟨rfl, hbl5, hb5⟩; have hB5 := Lib.hid (both_below hB.out hbl5)))
          | (go_at_call 25; ((with_reducible refine (ofB (W := w) (v := .slice (some ⟨gc, 0, none⟩) za.length capc) hzc.out _ (both_c hB5.out HZ.out hc1 hc2) hb5).mono ?_); rintro e w6 ⟨rfl, hbl6, hb6⟩; have hB6 := both_below hB5.out hbl6; have g1 := conv_of (cap := capb) hB6.1 HL.out; have g2 := conv_of (cap := capc) hB6.2.1 HZ.out; clear hB6)))
        go_ret
        exact ⟨retB EQ.out, by assumption⟩

theorem walk (a0 : Option Addr) (l0 c0 : Nat) (z0 : List Int) (A T : Int) (w : World) (w0 : IsRow .u8 w a0 l0 c0 z0) (wx : (Lit.int .u16 A).wf = true) (wt : (Lit.int .u16 T).wf = true) :
    Calls Try.prog 11 #[.slice a0 l0 c0, .int .u16 A, .int .u16 T] w fun e w' => e = .returned (.bool true) ∧ Below w.heap.size w w' := by
  have m0 := w0.le
  have hX : 0 ≤ A ∧ A ≤ 65535 := bounds_u16 wx
  have hT : 0 ≤ T ∧ T ≤ 65535 := bounds_u16 wt
  by_cases h : l0 = 0 ∨ 20000 < l0
  · exact long a0 l0 c0 A T w m0 h
  obtain ⟨za, rfl, sa, ha⟩ := w0.sl
  exact short a0 c0 za A T w hX.1 hX.2 hT.1 hT.2 (by intro e; subst e; exact h (.inl rfl)) (by omega) ha sa

theorem own : ownKnob Try.prog.godebug = none := by kernel_rfl
theorem laidOut : laidOutB Try.prog = true := by kernel_rfl
set_option linter.unusedVariables false
set_option maxRecDepth 100000 in
theorem lifted (os : Os) (started : os.Started) (H : Type) (enc : TypeId × Value → H) :
    ReturnsInHanded {} Try.checked os 11 .any (Rows.crcBurstSpec.pre6 enc Try.prog Try.f11 Rows.crcBurstRow.domain false) (Rows.crcBurstSpec.post enc Try.prog Try.f11 false true false false) := by
  refine returnsInHanded_of_change (C := Try.checked) own started (by kernel_rfl) Try.func11
    (ChangeSpec.witness6 (enc := enc) (C := Try.checked) false ⟨#[], #[.slice none 0 0, .int .u16 0, .int .u16 0], []⟩ 8 (by kernel_rfl) (by kernel_rfl) (by kernel_rfl) (by kernel_rfl)) ?_
  intro W base args ds gs before hval0 hW hcnd _
  have hval : ∀ (j : Nat) t v, Try.f11.params[j]? = some t → args[j]? = some v → Value.okWide Try.prog W .any base t v := hval0
  have hW' := hW
  obtain ⟨p, q, hA0, hV, rfl, hfz, hnd⟩ := hW
  have hA : DataW.TrodAll enc Try.prog W 0 (fun _ => true) true Try.f11.params.toList args.toList ds p := hA0
  rw [Try.params11] at hA hval
  obtain ⟨v0, vs0, d0, ds0, p0, q0, hargs, rfl, rfl, h0, r0⟩ := trodAll_cons hA
  obtain ⟨v1, vs1, d1, ds1, p1, q1, rfl, rfl, rfl, h1, r1⟩ := trodAll_cons r0
  obtain ⟨v2, vs2, d2, ds2, p2, q2, rfl, rfl, rfl, h2, r2⟩ := trodAll_cons r1
  obtain ⟨rfl, rfl, rfl⟩ := trodAll_nil r2
  obtain rfl : args = #[v0, v1, v2] := by cases args; simp_all
  obtain ⟨rfl, rfl⟩ := trodVars_none hV
  obtain ⟨a0, len0, cap0, rfl⟩ := okWide_slice Try.underlying22 (hval 0 22 v0 rfl rfl)
  have k0 := h0
  have lt0 : ∀ x ∈ p0, x.block < W.heap.size := by obtain ⟨m, hm⟩ := k0; exact DataW.trod_lt m _ _ _ hm
  obtain ⟨z0, w0⟩ : ∃ zs, IsRow .u8 W a0 len0 cap0 zs := by
    obtain ⟨fuel, hf⟩ := h0
    rcases open_ints Try.underlying22 Try.underlying5 (by kernel_rfl) hf with ⟨hcs, _⟩ | ⟨x, l, c, zs, hcs, _, hl, hm, hz, _, hcell, hwz⟩
    · simp [Value.cells] at hcs
      obtain ⟨rfl, rfl, rfl⟩ := hcs
      exact ⟨[], .inl ⟨rfl, rfl, rfl, rfl⟩⟩
    · simp [Value.cells] at hcs
      obtain ⟨rfl, rfl, rfl⟩ := hcs
      exact ⟨zs, .inr ⟨_, rfl, hl, hm, by simpa using hz, hcell, hwz⟩⟩
  obtain ⟨a1, rfl, rfl, rfl, w1⟩ := open_int Try.underlying46 (hval 1 46 v1 rfl rfl) h1
  obtain ⟨a2, rfl, rfl, rfl, w2⟩ := open_int Try.underlying46 (hval 2 46 v2 rfl rfl) h2
  clear hA0 hval0
  refine (walk a0 len0 cap0 z0 a1 a2 W w0 w1 w2).mono fun e W' ⟨he, bel⟩ => ?_
  subst he
  exact ⟨_, rfl, _, _, _, [], _, [], hW', trodAll_mk1 (shut_bool Try.underlying4 _), (trodAll_cons_mk (Below.trod laidOut (by kernel_rfl) (of_decide_eq_true (by kernel_rfl)) k0 bel lt0) (trodAll_cons_mk (shut_int Try.underlying46 w1) (trodAll_cons_mk (shut_int Try.underlying46 w2) trodAll_mk0))), rfl, bel.frame _, fun h => by cases h⟩

theorem over : Rows.crcBurstRow.holds Try.pinned (OpenSpec.ofChange Rows.crcBurstSpec) :=
  OpenClaim.holds_of_wide 11 Try.f11 rfl rfl rfl rfl rfl rfl rfl ⟨rfl, rfl, rfl, rfl, rfl⟩ rfl rfl rfl rfl rfl (by kernel_rfl) Try.func11 (by kernel_rfl)
    (of_decide_eq_true (by kernel_rfl)) (by unfold Func.isWrapper; first | (rw [if_pos (by decide +kernel)]; kernel_rfl) | (rw [if_neg (by decide +kernel)]; exact ⟨rfl, rfl⟩))
    (fun os started H enc _ => lifted os started H enc)

theorem proved : Rows.CrcBurstSaid := over
end Go.Proofs.Yteoljcbebiemlaa.crcBurst
