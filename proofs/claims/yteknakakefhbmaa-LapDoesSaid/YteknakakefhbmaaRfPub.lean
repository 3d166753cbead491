/- What the answer answers. -/
import Derived.Test.YteknakakefhbmaaRfNum
import Derived.WalkKit
import Derived.Below
import Derived.RegionTactic
import Derived.Deep.QuietTactic
import Derived.BigQuiet
import Derived.ChangeAlike
import Derived.Deep.OwnRows
import Derived.Deep.RegionLaw
import Derived.ProofKit
import Derived.OpenShut
import Derived.ChangeSlices
import Derived.Lib.Hide
import Derived.Great.Walk
import Derived.ChangeKeysEq
import Derived.ChangeOld
import Derived.ShutString
namespace Go.Proofs.Yteknakakefhbmaa.Rf
open Go Go.ChangeShapes Go.WideShapes Go.ChangeAt Go.RowKit Go.Proofs.Yteknakakefhbmaa.Fx Go.Proofs.Yteknakakefhbmaa.Rk Go.Proofs.Yteknakakefhbmaa.Mm Go.Proofs.Yteknakakefhbmaa.Md Go.Proofs.Yteknakakefhbmaa.Bl Go.Proofs.Yteknakakefhbmaa.Cpy

/-- The error of what is asked. -/
def aE (seq was shape : Int) (l : List Int) (many : Nat) (low high : Int) : Int := if ¬ May seq was shape then 2 else if l.length ≠ many then 4 else if ¬ InR low high l then 2 else 0
set_option maxRecDepth 100000 in
set_option maxHeartbeats 4000000 in
theorem asked_ok (seq was shape : Int) (A : Option Addr) (cap many : Nat) (low high : Int) (l : List Int) (w : World) (hm : many ≤ 1000) (rd : RdA w A l) :
    Calls Try.prog 39 #[.int .u8 seq, .int .u8 was, .int .u8 shape, .slice A l.length cap, .int .i64 many, .int .i64 low, .int .i64 high] w fun e w' => e = .returned (.int .i64 (aE seq was shape l many low high)) ∧ w = w' := by
  unfold aE
  by_cases hM : May seq was shape
  · rw [if_neg (by simpa using hM)]
    obtain ⟨m1, m2, m3⟩ := hM
    have k1 : ¬ 3 < seq := by omega
    have k2 : ¬ 1 < was := by omega
    have k3 : ¬ 1 < shape := by omega
    clear m1 m2 m3
    by_cases hl : l.length = many
    · rw [if_neg (by simpa using hl)]
      have HR := Lib.hid rd
      have HL := Lib.hid hl
      rw [hl]
      by_cases hI : InR low high l
      · rw [if_neg (by simpa using hI)]
        have HI := Lib.hid hI
        clear rd hl hI
        go_enter Try.func39, Try.ntmps39
        go_wp2
        go_loop [15] (fun i => ∃ k : Nat, k ≤ many ∧ i = .int .i64 k) (fun i => many - (intOf i).toNat)
        case atStart => exact ⟨0, by omega, rfl⟩
        case round =>
          obtain ⟨k, hk, rfl⟩ := hrel
          by_cases hlt : k < many
          · obtain ⟨b, off, rfl, hlb, c⟩ := HR.out k (by rw [HL.out]; exact hlt)
            obtain ⟨y0, y1⟩ := HI.out k (by rw [HL.out]; exact hlt)
            have i1 : (k : Int) < (many : Int) := by omega
            have y2 : ¬ l.getD k 0 < low := by omega
            have y3 : ¬ high < l.getD k 0 := by omega
            generalize l.getD k 0 = X at *
            go_wp2
            go_round
            case rel => exact ⟨k + 1, by omega, by go_num⟩
            case measure => simp [intOf]; omega
          · have hlt2 : ¬ (k : Int) < (many : Int) := by omega
            go_wp2
            go_ret
            exact ⟨rfl, rfl⟩
      · rw [if_pos hI]
        obtain ⟨j, hj, hbad, hok⟩ := not_inR hI
        have HM := Lib.hid hok
        have HB := Lib.hid hbad
        rw [hl] at hj
        clear rd hl hI hok hbad
        go_enter Try.func39, Try.ntmps39
        go_wp2
        go_loop [15] (fun i => ∃ k : Nat, k ≤ j ∧ i = .int .i64 k) (fun i => many - (intOf i).toNat)
        case atStart => exact ⟨0, by omega, rfl⟩
        case round =>
          obtain ⟨k, hk, rfl⟩ := hrel
          obtain ⟨b, off, rfl, hlb, c⟩ := HR.out k (by rw [HL.out]; omega)
          have hlt : k < many := by omega
          have i1 : (k : Int) < (many : Int) := by omega
          by_cases hkj : k < j
          · obtain ⟨y0, y1⟩ := HM.out k hkj
            have y2 : ¬ l.getD k 0 < low := by omega
            have y3 : ¬ high < l.getD k 0 := by omega
            generalize l.getD k 0 = X at *
            go_wp2
            go_round
            case rel => exact ⟨k + 1, by omega, by go_num⟩
            case measure => simp [intOf]; omega
          · have hkj2 : k = j := by omega
            subst hkj2
            have hb := HB.out
            clear HB
            generalize l.getD k 0 = X at *
            by_cases d1 : X < low
            · clear hb
              go_wp2
              go_ret
              exact ⟨rfl, rfl⟩
            · have d2 : high < X := by omega
              clear hb
              go_wp2
              go_ret
              exact ⟨rfl, rfl⟩
    · rw [if_pos hl]
      have hl2 : ((l.length : Int) != (many : Int)) = true := by simp; omega
      clear rd
      go_enter Try.func39, Try.ntmps39
      go_wp2
      go_ret
      exact ⟨rfl, rfl⟩
  · rw [if_pos hM]
    clear rd
    by_cases m1 : 3 < seq
    · go_enter Try.func39, Try.ntmps39
      go_wp2
      go_ret
      exact ⟨rfl, rfl⟩
    · by_cases m2 : 1 < was
      · go_enter Try.func39, Try.ntmps39
        go_wp2
        go_ret
        exact ⟨rfl, rfl⟩
      · have m3 : 1 < shape := by unfold May at hM; omega
        go_enter Try.func39, Try.ntmps39
        go_wp2
        go_ret
        exact ⟨rfl, rfl⟩
set_option maxRecDepth 100000 in
set_option maxHeartbeats 4000000 in
theorem rwindow_O (seq was shape : Int) (w : World) (s0 : 0 ≤ seq) (w0 : 0 ≤ was) (h0 : 0 ≤ shape) : Calls Try.prog 18 #[.int .u8 seq, .int .u8 was, .int .u8 shape] w (Ans (wO seq was shape) w) := by
  unfold wO
  by_cases hM : May seq was shape
  · by_cases h2 : seq = 2
    · rw [if_pos (.inl h2)]
      subst h2
      go_enter Try.func18, Try.ntmps18
      go_wp2
      go_ret2
      exact ⟨_, rfl, own_nil _ _, Below.refl _ _⟩
    · rw [if_neg (by intro q; rcases q with q | q; exact h2 q; exact q hM)]
      obtain ⟨a1, a2, a3⟩ := may_in hM s0 w0 h0
      have HV := Lib.hid (vals_ok seq was shape w (by omega) a2 a3)
      obtain ⟨m1, m2, m3⟩ := hM
      have k1 : ¬ 3 < seq := by omega
      have k2 : ¬ 1 < was := by omega
      have k3 : ¬ 1 < shape := by omega
      have k4 : (seq == 2) = false := by simpa using h2
      clear m1 m2 m3 a1 a2 a3 s0 w0 h0
      go_enter Try.func18, Try.ntmps18
      go_wp2_with (go_at_call 38; ((with_reducible refine (HV.out).mono ?_); rintro e w1 ⟨v1, rfl, ho1, hb1⟩; have O1 := Lib.hid ho1; have B1 := Lib.hid hb1; clear ho1 hb1))
      go_ret2
      exact ⟨_, rfl, O1.out, B1.out⟩
  · rw [if_pos (.inr hM)]
    clear s0 w0 h0
    by_cases m1 : 3 < seq
    · go_enter Try.func18, Try.ntmps18
      go_wp2
      go_ret2
      exact ⟨_, rfl, own_nil _ _, Below.refl _ _⟩
    · by_cases h2 : seq = 2
      · subst h2
        go_enter Try.func18, Try.ntmps18
        go_wp2
        go_ret2
        exact ⟨_, rfl, own_nil _ _, Below.refl _ _⟩
      · have k4 : (seq == 2) = false := by simpa using h2
        by_cases m2 : 1 < was
        · go_enter Try.func18, Try.ntmps18
          go_wp2
          go_ret2
          exact ⟨_, rfl, own_nil _ _, Below.refl _ _⟩
        · have m3 : 1 < shape := by unfold May at hM; omega
          go_enter Try.func18, Try.ntmps18
          go_wp2
          go_ret2
          exact ⟨_, rfl, own_nil _ _, Below.refl _ _⟩
theorem aO_E (seq was shape : Int) (pcm : List Int) (h : aE seq was shape pcm 512 (-32768) 32767 ≠ 0) : aO seq was shape pcm = ([], aE seq was shape pcm 512 (-32768) 32767) := by
  unfold aE at h ⊢
  unfold aO
  split
  · rfl
  · split
    · rfl
    · split
      · rfl
      · rename_i a b c; rw [if_neg a, if_neg b, if_neg c] at h; exact absurd rfl h
theorem sO_E (seq was shape : Int) (lines : List Int) (h : aE seq was shape lines 256 (-268435455) 268435455 ≠ 0) : sO seq was shape lines = ([], aE seq was shape lines 256 (-268435455) 268435455) := by
  unfold aE at h ⊢
  unfold sO
  split
  · rfl
  · split
    · rfl
    · split
      · rfl
      · rename_i a b c; rw [if_neg a, if_neg b, if_neg c] at h; exact absurd rfl h
theorem aE_z {seq was shape : Int} {l : List Int} {many : Nat} {low high : Int} (h : aE seq was shape l many low high = 0) : May seq was shape ∧ l.length = many ∧ InR low high l := by
  unfold aE at h
  by_cases h1 : May seq was shape
  · rw [if_neg (by simpa using h1)] at h
    by_cases h2 : l.length = many
    · rw [if_neg (by simpa using h2)] at h
      by_cases h3 : InR low high l
      · exact ⟨h1, h2, h3⟩
      · rw [if_pos h3] at h; exact absurd h (by decide)
    · rw [if_pos h2] at h; exact absurd h (by decide)
  · rw [if_pos h1] at h; exact absurd h (by decide)
set_option maxRecDepth 100000 in
set_option maxHeartbeats 4000000 in
theorem lines_ok (seq was shape : Int) (A : Option Addr) (cap : Nat) (pcm : List Int) (w : World) (s0 : 0 ≤ seq) (w0 : 0 ≤ was) (h0 : 0 ≤ shape) (hM : May seq was shape) (hl : pcm.length = 512) (rd : RdA w A pcm) (hI : InR (-32768) 32767 pcm) :
    Calls Try.prog 40 #[.int .u8 seq, .int .u8 was, .int .u8 shape, .slice A pcm.length cap] w fun e w' => ∃ v, e = .returned v ∧ Fx.Own w.heap.size w' v (AL seq was shape pcm) ∧ Below w.heap.size w w' := by
  obtain ⟨a1, a2, a3⟩ := may_in hM s0 w0 h0
  rw [hl]
  unfold AL
  by_cases h : seq = 2
  · subst h; exact lines_T was shape A cap pcm w a2 a3 hl rd hI
  · rw [if_neg h]; exact lines_L seq was shape A cap pcm w (by omega) a2 a3 hl rd hI
set_option maxRecDepth 100000 in
set_option maxHeartbeats 4000000 in
theorem numbers_ok (seq was shape : Int) (A : Option Addr) (cap : Nat) (lines : List Int) (w : World) (s0 : 0 ≤ seq) (w0 : 0 ≤ was) (h0 : 0 ≤ shape) (hM : May seq was shape) (hl : lines.length = 256) (hc : 256 ≤ cap) (hcm : cap ≤ maxLen) (rd : RdA w A lines) (hI : InR (-268435455) 268435455 lines) :
    Calls Try.prog 41 #[.int .u8 seq, .int .u8 was, .int .u8 shape, .slice A lines.length cap] w fun e w' => ∃ v, e = .returned v ∧ Fx.Own w.heap.size w' v (mk 512 (SL seq was shape lines)) ∧ Below w.heap.size w w' := by
  obtain ⟨a1, a2, a3⟩ := may_in hM s0 w0 h0
  rw [hl]
  by_cases h : seq = 2
  · subst h; exact numbers_T was shape A cap lines w a2 a3 hl hc hcm rd hI
  · rw [show SL seq was shape lines = lyT seq was shape lines 1 from funext fun j => by unfold SL; rw [if_neg h]]; exact numbers_L seq was shape A cap lines w (by omega) a2 a3 hl rd hI
set_option maxRecDepth 100000 in
set_option maxHeartbeats 4000000 in
theorem ranalyse_O (seq was shape : Int) (A : Option Addr) (cap : Nat) (pcm : List Int) (w : World) (s0 : 0 ≤ seq) (w0 : 0 ≤ was) (h0 : 0 ≤ shape) (rd : RdA w A pcm) :
    Calls Try.prog 19 #[.int .u8 seq, .int .u8 was, .int .u8 shape, .slice A pcm.length cap] w (Ans (aO seq was shape pcm) w) := by
  have HA := Lib.hid (show Calls Try.prog 39 #[.int .u8 seq, .int .u8 was, .int .u8 shape, .slice A pcm.length cap, .int .i64 512, .int .i64 (-32768), .int .i64 32767] w _ from asked_ok seq was shape A cap 512 (-32768) 32767 pcm w (by decide) rd)
  by_cases he : aE seq was shape pcm 512 (-32768) 32767 = 0
  · obtain ⟨hM, hl, hI⟩ := aE_z he
    rw [aO_good hM hl hI]
    rw [he] at HA
    have HL := Lib.hid (lines_ok seq was shape A cap pcm w s0 w0 h0 hM hl rd hI)
    clear rd s0 w0 h0 hM hl hI he
    go_enter Try.func19, Try.ntmps19
    go_wp2_with first
      | (go_at_call 39; ((with_reducible refine (HA.out).mono ?_); rintro e w1 ⟨rfl, rfl⟩))
      | (go_at_call 40; ((with_reducible refine (HL.out).mono ?_); rintro e w2 ⟨v2, rfl, ho2, hb2⟩; have O2 := Lib.hid ho2; have B2 := Lib.hid hb2; clear ho2 hb2))
    go_ret2
    exact ⟨_, rfl, O2.out, B2.out⟩
  · rw [aO_E _ _ _ _ he]
    generalize aE seq was shape pcm 512 (-32768) 32767 = E at *
    clear rd s0 w0 h0
    go_enter Try.func19, Try.ntmps19
    go_wp2_with (go_at_call 39; ((with_reducible refine (HA.out).mono ?_); rintro e w1 ⟨rfl, rfl⟩))
    go_ret2
    exact ⟨_, rfl, own_nil _ _, Below.refl _ _⟩
set_option maxRecDepth 100000 in
set_option maxHeartbeats 4000000 in
theorem rsynth_O (seq was shape : Int) (A : Option Addr) (cap : Nat) (lines : List Int) (w : World) (s0 : 0 ≤ seq) (w0 : 0 ≤ was) (h0 : 0 ≤ shape) (hc : lines.length ≤ cap) (hcm : cap ≤ maxLen) (rd : RdA w A lines) :
    Calls Try.prog 20 #[.int .u8 seq, .int .u8 was, .int .u8 shape, .slice A lines.length cap] w (Ans (sO seq was shape lines) w) := by
  have HA := Lib.hid (show Calls Try.prog 39 #[.int .u8 seq, .int .u8 was, .int .u8 shape, .slice A lines.length cap, .int .i64 256, .int .i64 (-268435455), .int .i64 268435455] w _ from asked_ok seq was shape A cap 256 (-268435455) 268435455 lines w (by decide) rd)
  by_cases he : aE seq was shape lines 256 (-268435455) 268435455 = 0
  · obtain ⟨hM, hl, hI⟩ := aE_z he
    rw [sO_good hM hl hI]
    rw [he] at HA
    have HL := Lib.hid (numbers_ok seq was shape A cap lines w s0 w0 h0 hM hl (by omega) hcm rd hI)
    clear rd s0 w0 h0 hM hl hI he hc hcm
    go_enter Try.func20, Try.ntmps20
    go_wp2_with first
      | (go_at_call 39; ((with_reducible refine (HA.out).mono ?_); rintro e w1 ⟨rfl, rfl⟩))
      | (go_at_call 41; ((with_reducible refine (HL.out).mono ?_); rintro e w2 ⟨v2, rfl, ho2, hb2⟩; have O2 := Lib.hid ho2; have B2 := Lib.hid hb2; clear ho2 hb2))
    go_ret2
    exact ⟨_, rfl, O2.out, B2.out⟩
  · rw [sO_E _ _ _ _ he]
    generalize aE seq was shape lines 256 (-268435455) 268435455 = E at *
    clear rd s0 w0 h0 hc hcm
    go_enter Try.func20, Try.ntmps20
    go_wp2_with (go_at_call 39; ((with_reducible refine (HA.out).mono ?_); rintro e w1 ⟨rfl, rfl⟩))
    go_ret2
    exact ⟨_, rfl, own_nil _ _, Below.refl _ _⟩
end Go.Proofs.Yteknakakefhbmaa.Rf
