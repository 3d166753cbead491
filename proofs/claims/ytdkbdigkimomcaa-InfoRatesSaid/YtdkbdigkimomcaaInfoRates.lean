/- Windows that may be at a rate may be at each greater one; and a channel may send all bands of its rate, and no more. InfoRates returns true, whatever the two rates and the windows, the memory and the schedule. No condition. -/
import Derived.Test.YtdkbdigkimomcaaIfBox
import Derived.WalkKit
import Derived.Below
import Derived.RegionTactic
import Derived.Deep.QuietTactic
import Derived.BigQuiet
import Derived.ChangeAlike
import Derived.Deep.OwnRows
import Derived.ProofKit
import Derived.OpenShut
import Derived.ShutString
import Derived.ChangeOld
import Derived.Lib.Hide
namespace Go.Proofs.Ytdkbdigkimomcaa.infoRates
open Go Go.Ev Go.ChangeShapes Go.WideShapes Go.ChangeAt Go.RowKit Go.Proofs.Ytdkbdigkimomcaa.Lo Go.Proofs.Ytdkbdigkimomcaa.Bd Go.Proofs.Ytdkbdigkimomcaa.If

theorem rates_hi (p q s h m : Int) (a : Option Addr) (cap : Nat) (zs : List Int) (w : World) (hpq : q < p) (HX : Bxi w (w.alloc (.cells #[.int .u8 s, .int .u8 h, .int .i64 m, .slice a zs.length cap] 24)) s h m (.slice a zs.length cap))
    (HA : Hid (∀ w1, Bxi w w1 s h m (.slice a zs.length cap) → Calls Try.prog 6 #[] w1 fun e w' => e = .returned (.bool true) ∧ Bxi w w' s h m (.slice a zs.length cap)))
    (HC : Hid (∀ r m w1, Bxi w w1 s h m (.slice a zs.length cap) → Calls Try.prog 10 #[.int .i64 r, .agg #[.int .u8 s, .int .u8 h, .int .i64 m, .slice a zs.length cap]] w1 fun e w' => e = .returned (.int .i64 (chk r s h m zs)) ∧ Bxi w w' s h m (.slice a zs.length cap))) (hl' : ¬ 1000 < (zs.length : Int)) :
    Calls Try.prog 5 #[.int .i64 p, .int .i64 q, .agg #[.int .u8 s, .int .u8 h, .int .i64 m, .slice a zs.length cap]] w fun e w' => e = .returned (.bool true) ∧ Below w.heap.size w w' := by
  by_cases hlow : q < 0 ∨ 11 < q
  · have HM := Lib.hid (fun w1 (x : Bxi w w1 s h m (.slice a zs.length cap)) => (many_bad q (s == 2) w1 hlow).mono fun e w' (k : e = .returned (.tuple #[.int .i64 0, .int .i64 2]) ∧ w1 = w') => And.intro k.1 (k.2 ▸ x : Bxi w w' s h m (.slice a zs.length cap)))
    have HC1 := Lib.hid (HC.out q m)
    rw [chk_arg hlow] at HC1
    clear HC
    go_enter Try.func5, Try.ntmps5
    go_wp2_with (first | (go_at_call 6; ((with_reducible refine (HA.out _ ‹_›).mono ?_); rintro e w' ⟨rfl, hx⟩; obtain ⟨z0, z1, z2, z3, z4, _⟩ := hx.out)) | (go_at_call 13; ((with_reducible refine (HM.out _ ‹_›).mono ?_); rintro e w' ⟨rfl, hx⟩; obtain ⟨z0, z1, z2, z3, z4, _⟩ := hx.out)) | (go_at_call 10; ((with_reducible refine (HC1.out _ ‹_›).mono ?_); rintro e w' ⟨rfl, hx⟩; obtain ⟨z0, z1, z2, z3, z4, _⟩ := hx.out)))
    go_ret
    exact ⟨rfl, hx.out.2.2.2.2.2⟩
  have r0 : 0 ≤ q := by omega
  have r1 : q ≤ 11 := by omega
  have HM := Lib.hid (fun w1 (x : Bxi w w1 s h m (.slice a zs.length cap)) => (many_k q (s == 2) w1 r0 r1).mono fun e w' (k : e = .returned (.tuple #[.int .i64 (mny q (s == 2)), .int .i64 0]) ∧ Below w1.heap.size w1 w') => And.intro k.1 (x.below k.2))
  have hM := mny_bd (b := s == 2) r0 r1
  have HC1 := Lib.hid (HC.out q m)
  by_cases hc : chk q s h m zs = 0
  · rw [hc] at HC1
    have hd : ¬ (3 < s ∨ 1 < h ∨ m < 0 ∨ mny q (s == 2) < m ∨ grp zs (win s) = false) := fun d => by rw [chk_bad hlow d] at hc; omega
    have HC2 := Lib.hid (HC.out p m)
    have HC3 := Lib.hid (HC.out q (mny q (s == 2)))
    have HC4 := Lib.hid (HC.out q (mny q (s == 2) + 1))
    rw [chk_ok hlow (by rintro (k | k | k | k | k) <;> first | omega | exact hd (.inl k) | exact hd (.inr (.inl k)) | exact hd (.inr (.inr (.inr (.inr k)))))] at HC3
    rw [chk_bad hlow (.inr (.inr (.inr (.inl (by omega)))))] at HC4
    by_cases hhi : 11 < p
    · rw [chk_arg (.inr hhi)] at HC2
      clear hd HC
      generalize mny q (s == 2) = M at *
      obtain ⟨hM0, hM1⟩ := hM
      go_enter Try.func5, Try.ntmps5
      go_wp2_with (first | (go_at_call 6; ((with_reducible refine (HA.out _ ‹_›).mono ?_); rintro e w' ⟨rfl, hx⟩; obtain ⟨z0, z1, z2, z3, z4, _⟩ := hx.out)) | (go_at_call 13; ((with_reducible refine (HM.out _ ‹_›).mono ?_); rintro e w' ⟨rfl, hx⟩; obtain ⟨z0, z1, z2, z3, z4, _⟩ := hx.out)) | (go_at_call 10; ((with_reducible refine (HC1.out _ ‹_›).mono ?_); rintro e w' ⟨rfl, hx⟩; obtain ⟨z0, z1, z2, z3, z4, _⟩ := hx.out)) | (go_at_call 10; ((with_reducible refine (HC2.out _ ‹_›).mono ?_); rintro e w' ⟨rfl, hx⟩; obtain ⟨z0, z1, z2, z3, z4, _⟩ := hx.out)) | (go_at_call 10; ((with_reducible refine (HC3.out _ (Bxi.set ‹Bxi w _ s h _ _› _)).mono ?_); rintro e w' ⟨rfl, hx⟩; obtain ⟨z0, z1, z2, z3, z4, _⟩ := hx.out)) | (go_at_call 10; ((with_reducible refine (HC4.out _ (Bxi.set ‹Bxi w _ s h _ _› _)).mono ?_); rintro e w' ⟨rfl, hx⟩; obtain ⟨z0, z1, z2, z3, z4, _⟩ := hx.out)))
      go_ret
      exact ⟨rfl, hx.out.2.2.2.2.2⟩
    · have hmm := mny_mono (q := p) (s == 2) r0 (by omega) (by omega)
      rw [chk_ok (by omega) (by rintro (k | k | k | k | k) <;> first | exact hd (.inl k) | exact hd (.inr (.inl k)) | exact hd (.inr (.inr (.inl k))) | exact hd (.inr (.inr (.inr (.inl (by omega))))) | exact hd (.inr (.inr (.inr (.inr k)))))] at HC2
      clear hd HC hmm
      generalize mny q (s == 2) = M at *
      obtain ⟨hM0, hM1⟩ := hM
      go_enter Try.func5, Try.ntmps5
      go_wp2_with (first | (go_at_call 6; ((with_reducible refine (HA.out _ ‹_›).mono ?_); rintro e w' ⟨rfl, hx⟩; obtain ⟨z0, z1, z2, z3, z4, _⟩ := hx.out)) | (go_at_call 13; ((with_reducible refine (HM.out _ ‹_›).mono ?_); rintro e w' ⟨rfl, hx⟩; obtain ⟨z0, z1, z2, z3, z4, _⟩ := hx.out)) | (go_at_call 10; ((with_reducible refine (HC1.out _ ‹_›).mono ?_); rintro e w' ⟨rfl, hx⟩; obtain ⟨z0, z1, z2, z3, z4, _⟩ := hx.out)) | (go_at_call 10; ((with_reducible refine (HC2.out _ ‹_›).mono ?_); rintro e w' ⟨rfl, hx⟩; obtain ⟨z0, z1, z2, z3, z4, _⟩ := hx.out)) | (go_at_call 10; ((with_reducible refine (HC3.out _ (Bxi.set ‹Bxi w _ s h _ _› _)).mono ?_); rintro e w' ⟨rfl, hx⟩; obtain ⟨z0, z1, z2, z3, z4, _⟩ := hx.out)) | (go_at_call 10; ((with_reducible refine (HC4.out _ (Bxi.set ‹Bxi w _ s h _ _› _)).mono ?_); rintro e w' ⟨rfl, hx⟩; obtain ⟨z0, z1, z2, z3, z4, _⟩ := hx.out)))
      go_ret
      exact ⟨rfl, hx.out.2.2.2.2.2⟩
  · clear HC
    generalize chk q s h m zs = C at *
    generalize mny q (s == 2) = M at *
    go_enter Try.func5, Try.ntmps5
    go_wp2_with (first | (go_at_call 6; ((with_reducible refine (HA.out _ ‹_›).mono ?_); rintro e w' ⟨rfl, hx⟩; obtain ⟨z0, z1, z2, z3, z4, _⟩ := hx.out)) | (go_at_call 13; ((with_reducible refine (HM.out _ ‹_›).mono ?_); rintro e w' ⟨rfl, hx⟩; obtain ⟨z0, z1, z2, z3, z4, _⟩ := hx.out)) | (go_at_call 10; ((with_reducible refine (HC1.out _ ‹_›).mono ?_); rintro e w' ⟨rfl, hx⟩; obtain ⟨z0, z1, z2, z3, z4, _⟩ := hx.out)))
    go_ret
    exact ⟨rfl, hx.out.2.2.2.2.2⟩
theorem rates_lo (p q s h m : Int) (a : Option Addr) (cap : Nat) (zs : List Int) (w : World) (hpq : p < q) (HX : Bxi w (w.alloc (.cells #[.int .u8 s, .int .u8 h, .int .i64 m, .slice a zs.length cap] 24)) s h m (.slice a zs.length cap))
    (HA : Hid (∀ w1, Bxi w w1 s h m (.slice a zs.length cap) → Calls Try.prog 6 #[] w1 fun e w' => e = .returned (.bool true) ∧ Bxi w w' s h m (.slice a zs.length cap)))
    (HC : Hid (∀ r m w1, Bxi w w1 s h m (.slice a zs.length cap) → Calls Try.prog 10 #[.int .i64 r, .agg #[.int .u8 s, .int .u8 h, .int .i64 m, .slice a zs.length cap]] w1 fun e w' => e = .returned (.int .i64 (chk r s h m zs)) ∧ Bxi w w' s h m (.slice a zs.length cap))) (hl' : ¬ 1000 < (zs.length : Int)) :
    Calls Try.prog 5 #[.int .i64 p, .int .i64 q, .agg #[.int .u8 s, .int .u8 h, .int .i64 m, .slice a zs.length cap]] w fun e w' => e = .returned (.bool true) ∧ Below w.heap.size w w' := by
  by_cases hlow : p < 0 ∨ 11 < p
  · have HM := Lib.hid (fun w1 (x : Bxi w w1 s h m (.slice a zs.length cap)) => (many_bad p (s == 2) w1 hlow).mono fun e w' (k : e = .returned (.tuple #[.int .i64 0, .int .i64 2]) ∧ w1 = w') => And.intro k.1 (k.2 ▸ x : Bxi w w' s h m (.slice a zs.length cap)))
    have HC1 := Lib.hid (HC.out p m)
    rw [chk_arg hlow] at HC1
    clear HC
    go_enter Try.func5, Try.ntmps5
    go_wp2_with (first | (go_at_call 6; ((with_reducible refine (HA.out _ ‹_›).mono ?_); rintro e w' ⟨rfl, hx⟩; obtain ⟨z0, z1, z2, z3, z4, _⟩ := hx.out)) | (go_at_call 13; ((with_reducible refine (HM.out _ ‹_›).mono ?_); rintro e w' ⟨rfl, hx⟩; obtain ⟨z0, z1, z2, z3, z4, _⟩ := hx.out)) | (go_at_call 10; ((with_reducible refine (HC1.out _ ‹_›).mono ?_); rintro e w' ⟨rfl, hx⟩; obtain ⟨z0, z1, z2, z3, z4, _⟩ := hx.out)))
    go_ret
    exact ⟨rfl, hx.out.2.2.2.2.2⟩
  have r0 : 0 ≤ p := by omega
  have r1 : p ≤ 11 := by omega
  have HM := Lib.hid (fun w1 (x : Bxi w w1 s h m (.slice a zs.length cap)) => (many_k p (s == 2) w1 r0 r1).mono fun e w' (k : e = .returned (.tuple #[.int .i64 (mny p (s == 2)), .int .i64 0]) ∧ Below w1.heap.size w1 w') => And.intro k.1 (x.below k.2))
  have hM := mny_bd (b := s == 2) r0 r1
  have HC1 := Lib.hid (HC.out p m)
  by_cases hc : chk p s h m zs = 0
  · rw [hc] at HC1
    have hd : ¬ (3 < s ∨ 1 < h ∨ m < 0 ∨ mny p (s == 2) < m ∨ grp zs (win s) = false) := fun d => by rw [chk_bad hlow d] at hc; omega
    have HC2 := Lib.hid (HC.out q m)
    have HC3 := Lib.hid (HC.out p (mny p (s == 2)))
    have HC4 := Lib.hid (HC.out p (mny p (s == 2) + 1))
    rw [chk_ok hlow (by rintro (k | k | k | k | k) <;> first | omega | exact hd (.inl k) | exact hd (.inr (.inl k)) | exact hd (.inr (.inr (.inr (.inr k)))))] at HC3
    rw [chk_bad hlow (.inr (.inr (.inr (.inl (by omega)))))] at HC4
    by_cases hhi : 11 < q
    · rw [chk_arg (.inr hhi)] at HC2
      clear hd HC
      generalize mny p (s == 2) = M at *
      obtain ⟨hM0, hM1⟩ := hM
      go_enter Try.func5, Try.ntmps5
      go_wp2_with (first | (go_at_call 6; ((with_reducible refine (HA.out _ ‹_›).mono ?_); rintro e w' ⟨rfl, hx⟩; obtain ⟨z0, z1, z2, z3, z4, _⟩ := hx.out)) | (go_at_call 13; ((with_reducible refine (HM.out _ ‹_›).mono ?_); rintro e w' ⟨rfl, hx⟩; obtain ⟨z0, z1, z2, z3, z4, _⟩ := hx.out)) | (go_at_call 10; ((with_reducible refine (HC1.out _ ‹_›).mono ?_); rintro e w' ⟨rfl, hx⟩; obtain ⟨z0, z1, z2, z3, z4, _⟩ := hx.out)) | (go_at_call 10; ((with_reducible refine (HC2.out _ ‹_›).mono ?_); rintro e w' ⟨rfl, hx⟩; obtain ⟨z0, z1, z2, z3, z4, _⟩ := hx.out)) | (go_at_call 10; ((with_reducible refine (HC3.out _ (Bxi.set ‹Bxi w _ s h _ _› _)).mono ?_); rintro e w' ⟨rfl, hx⟩; obtain ⟨z0, z1, z2, z3, z4, _⟩ := hx.out)) | (go_at_call 10; ((with_reducible refine (HC4.out _ (Bxi.set ‹Bxi w _ s h _ _› _)).mono ?_); rintro e w' ⟨rfl, hx⟩; obtain ⟨z0, z1, z2, z3, z4, _⟩ := hx.out)))
      go_ret
      exact ⟨rfl, hx.out.2.2.2.2.2⟩
    · have hmm := mny_mono (q := q) (s == 2) r0 (by omega) (by omega)
      rw [chk_ok (by omega) (by rintro (k | k | k | k | k) <;> first | exact hd (.inl k) | exact hd (.inr (.inl k)) | exact hd (.inr (.inr (.inl k))) | exact hd (.inr (.inr (.inr (.inl (by omega))))) | exact hd (.inr (.inr (.inr (.inr k)))))] at HC2
      clear hd HC hmm
      generalize mny p (s == 2) = M at *
      obtain ⟨hM0, hM1⟩ := hM
      go_enter Try.func5, Try.ntmps5
      go_wp2_with (first | (go_at_call 6; ((with_reducible refine (HA.out _ ‹_›).mono ?_); rintro e w' ⟨rfl, hx⟩; obtain ⟨z0, z1, z2, z3, z4, _⟩ := hx.out)) | (go_at_call 13; ((with_reducible refine (HM.out _ ‹_›).mono ?_); rintro e w' ⟨rfl, hx⟩; obtain ⟨z0, z1, z2, z3, z4, _⟩ := hx.out)) | (go_at_call 10; ((with_reducible refine (HC1.out _ ‹_›).mono ?_); rintro e w' ⟨rfl, hx⟩; obtain ⟨z0, z1, z2, z3, z4, _⟩ := hx.out)) | (go_at_call 10; ((with_reducible refine (HC2.out _ ‹_›).mono ?_); rintro e w' ⟨rfl, hx⟩; obtain ⟨z0, z1, z2, z3, z4, _⟩ := hx.out)) | (go_at_call 10; ((with_reducible refine (HC3.out _ (Bxi.set ‹Bxi w _ s h _ _› _)).mono ?_); rintro e w' ⟨rfl, hx⟩; obtain ⟨z0, z1, z2, z3, z4, _⟩ := hx.out)) | (go_at_call 10; ((with_reducible refine (HC4.out _ (Bxi.set ‹Bxi w _ s h _ _› _)).mono ?_); rintro e w' ⟨rfl, hx⟩; obtain ⟨z0, z1, z2, z3, z4, _⟩ := hx.out)))
      go_ret
      exact ⟨rfl, hx.out.2.2.2.2.2⟩
  · clear HC
    generalize chk p s h m zs = C at *
    generalize mny p (s == 2) = M at *
    go_enter Try.func5, Try.ntmps5
    go_wp2_with (first | (go_at_call 6; ((with_reducible refine (HA.out _ ‹_›).mono ?_); rintro e w' ⟨rfl, hx⟩; obtain ⟨z0, z1, z2, z3, z4, _⟩ := hx.out)) | (go_at_call 13; ((with_reducible refine (HM.out _ ‹_›).mono ?_); rintro e w' ⟨rfl, hx⟩; obtain ⟨z0, z1, z2, z3, z4, _⟩ := hx.out)) | (go_at_call 10; ((with_reducible refine (HC1.out _ ‹_›).mono ?_); rintro e w' ⟨rfl, hx⟩; obtain ⟨z0, z1, z2, z3, z4, _⟩ := hx.out)))
    go_ret
    exact ⟨rfl, hx.out.2.2.2.2.2⟩
theorem rates_eq (p s h m : Int) (a : Option Addr) (cap : Nat) (zs : List Int) (w : World) (_ : True) (HX : Bxi w (w.alloc (.cells #[.int .u8 s, .int .u8 h, .int .i64 m, .slice a zs.length cap] 24)) s h m (.slice a zs.length cap))
    (HA : Hid (∀ w1, Bxi w w1 s h m (.slice a zs.length cap) → Calls Try.prog 6 #[] w1 fun e w' => e = .returned (.bool true) ∧ Bxi w w' s h m (.slice a zs.length cap)))
    (HC : Hid (∀ r m w1, Bxi w w1 s h m (.slice a zs.length cap) → Calls Try.prog 10 #[.int .i64 r, .agg #[.int .u8 s, .int .u8 h, .int .i64 m, .slice a zs.length cap]] w1 fun e w' => e = .returned (.int .i64 (chk r s h m zs)) ∧ Bxi w w' s h m (.slice a zs.length cap))) (hl' : ¬ 1000 < (zs.length : Int)) :
    Calls Try.prog 5 #[.int .i64 p, .int .i64 p, .agg #[.int .u8 s, .int .u8 h, .int .i64 m, .slice a zs.length cap]] w fun e w' => e = .returned (.bool true) ∧ Below w.heap.size w w' := by
  by_cases hlow : p < 0 ∨ 11 < p
  · have HM := Lib.hid (fun w1 (x : Bxi w w1 s h m (.slice a zs.length cap)) => (many_bad p (s == 2) w1 hlow).mono fun e w' (k : e = .returned (.tuple #[.int .i64 0, .int .i64 2]) ∧ w1 = w') => And.intro k.1 (k.2 ▸ x : Bxi w w' s h m (.slice a zs.length cap)))
    have HC1 := Lib.hid (HC.out p m)
    rw [chk_arg hlow] at HC1
    clear HC
    go_enter Try.func5, Try.ntmps5
    go_wp2_with (first | (go_at_call 6; ((with_reducible refine (HA.out _ ‹_›).mono ?_); rintro e w' ⟨rfl, hx⟩; obtain ⟨z0, z1, z2, z3, z4, _⟩ := hx.out)) | (go_at_call 13; ((with_reducible refine (HM.out _ ‹_›).mono ?_); rintro e w' ⟨rfl, hx⟩; obtain ⟨z0, z1, z2, z3, z4, _⟩ := hx.out)) | (go_at_call 10; ((with_reducible refine (HC1.out _ ‹_›).mono ?_); rintro e w' ⟨rfl, hx⟩; obtain ⟨z0, z1, z2, z3, z4, _⟩ := hx.out)))
    go_ret
    exact ⟨rfl, hx.out.2.2.2.2.2⟩
  have r0 : 0 ≤ p := by omega
  have r1 : p ≤ 11 := by omega
  have HM := Lib.hid (fun w1 (x : Bxi w w1 s h m (.slice a zs.length cap)) => (many_k p (s == 2) w1 r0 r1).mono fun e w' (k : e = .returned (.tuple #[.int .i64 (mny p (s == 2)), .int .i64 0]) ∧ Below w1.heap.size w1 w') => And.intro k.1 (x.below k.2))
  have hM := mny_bd (b := s == 2) r0 r1
  have HC1 := Lib.hid (HC.out p m)
  by_cases hc : chk p s h m zs = 0
  · rw [hc] at HC1
    have hd : ¬ (3 < s ∨ 1 < h ∨ m < 0 ∨ mny p (s == 2) < m ∨ grp zs (win s) = false) := fun d => by rw [chk_bad hlow d] at hc; omega
    have HC2 := Lib.hid (HC.out p m)
    have HC3 := Lib.hid (HC.out p (mny p (s == 2)))
    have HC4 := Lib.hid (HC.out p (mny p (s == 2) + 1))
    rw [chk_ok hlow (by rintro (k | k | k | k | k) <;> first | omega | exact hd (.inl k) | exact hd (.inr (.inl k)) | exact hd (.inr (.inr (.inr (.inr k)))))] at HC3
    rw [chk_bad hlow (.inr (.inr (.inr (.inl (by omega)))))] at HC4
    by_cases hhi : 11 < p
    · omega
    · have hmm := mny_mono (q := p) (s == 2) r0 (by omega) (by omega)
      rw [chk_ok (by omega) (by rintro (k | k | k | k | k) <;> first | exact hd (.inl k) | exact hd (.inr (.inl k)) | exact hd (.inr (.inr (.inl k))) | exact hd (.inr (.inr (.inr (.inl (by omega))))) | exact hd (.inr (.inr (.inr (.inr k)))))] at HC2
      clear hd HC hmm
      generalize mny p (s == 2) = M at *
      obtain ⟨hM0, hM1⟩ := hM
      go_enter Try.func5, Try.ntmps5
      go_wp2_with (first | (go_at_call 6; ((with_reducible refine (HA.out _ ‹_›).mono ?_); rintro e w' ⟨rfl, hx⟩; obtain ⟨z0, z1, z2, z3, z4, _⟩ := hx.out)) | (go_at_call 13; ((with_reducible refine (HM.out _ ‹_›).mono ?_); rintro e w' ⟨rfl, hx⟩; obtain ⟨z0, z1, z2, z3, z4, _⟩ := hx.out)) | (go_at_call 10; ((with_reducible refine (HC1.out _ ‹_›).mono ?_); rintro e w' ⟨rfl, hx⟩; obtain ⟨z0, z1, z2, z3, z4, _⟩ := hx.out)) | (go_at_call 10; ((with_reducible refine (HC2.out _ ‹_›).mono ?_); rintro e w' ⟨rfl, hx⟩; obtain ⟨z0, z1, z2, z3, z4, _⟩ := hx.out)) | (go_at_call 10; ((with_reducible refine (HC3.out _ (Bxi.set ‹Bxi w _ s h _ _› _)).mono ?_); rintro e w' ⟨rfl, hx⟩; obtain ⟨z0, z1, z2, z3, z4, _⟩ := hx.out)) | (go_at_call 10; ((with_reducible refine (HC4.out _ (Bxi.set ‹Bxi w _ s h _ _› _)).mono ?_); rintro e w' ⟨rfl, hx⟩; obtain ⟨z0, z1, z2, z3, z4, _⟩ := hx.out)))
      go_ret
      exact ⟨rfl, hx.out.2.2.2.2.2⟩
  · clear HC
    generalize chk p s h m zs = C at *
    generalize mny p (s == 2) = M at *
    go_enter Try.func5, Try.ntmps5
    go_wp2_with (first | (go_at_call 6; ((with_reducible refine (HA.out _ ‹_›).mono ?_); rintro e w' ⟨rfl, hx⟩; obtain ⟨z0, z1, z2, z3, z4, _⟩ := hx.out)) | (go_at_call 13; ((with_reducible refine (HM.out _ ‹_›).mono ?_); rintro e w' ⟨rfl, hx⟩; obtain ⟨z0, z1, z2, z3, z4, _⟩ := hx.out)) | (go_at_call 10; ((with_reducible refine (HC1.out _ ‹_›).mono ?_); rintro e w' ⟨rfl, hx⟩; obtain ⟨z0, z1, z2, z3, z4, _⟩ := hx.out)))
    go_ret
    exact ⟨rfl, hx.out.2.2.2.2.2⟩
theorem main (p q s h m : Int) (a : Option Addr) (cap : Nat) (zs : List Int) (w : World) (hr : RdA w a zs) (_ : -9223372036854775808 ≤ m ∧ m ≤ 9223372036854775807) :
    Calls Try.prog 5 #[.int .i64 p, .int .i64 q, .agg #[.int .u8 s, .int .u8 h, .int .i64 m, .slice a zs.length cap]] w fun e w' => e = .returned (.bool true) ∧ Below w.heap.size w w' := by
  have HX := bxi w s h m (.slice a zs.length cap)
  have HA := Lib.hid (fun w1 (x : Bxi w w1 s h m (.slice a zs.length cap)) => (if_alive w1).mono fun e w' (k : e = .returned (.bool true) ∧ Below w1.heap.size w1 w') => And.intro k.1 (x.below k.2))
  by_cases hl : 1000 < zs.length
  · have hl' : 1000 < (zs.length : Int) := by omega
    clear hr
    go_enter Try.func5, Try.ntmps5
    go_wp2_with (first | (go_at_call 6; ((with_reducible refine (HA.out _ ‹_›).mono ?_); rintro e w' ⟨rfl, hx⟩; obtain ⟨z0, z1, z2, z3, z4, _⟩ := hx.out)))
    go_ret
    exact ⟨rfl, hx.out.2.2.2.2.2⟩
  have hl' : ¬ 1000 < (zs.length : Int) := by omega
  have HC := Lib.hid (fun r m w1 (x : Bxi w w1 s h m (.slice a zs.length cap)) => (check_ok r s h m a cap zs w1 (by omega) (hr.below x.out.2.2.2.2.2)).mono fun e w' (k : e = .returned (.int .i64 (chk r s h m zs)) ∧ Below w1.heap.size w1 w') => And.intro k.1 (x.below k.2))
  clear hr
  by_cases hpq : q < p
  · exact rates_hi p q s h m a cap zs w hpq HX HA HC hl'
  by_cases hpq2 : p < q
  · exact rates_lo p q s h m a cap zs w hpq2 HX HA HC hl'
  · obtain rfl : p = q := by omega
    exact rates_eq p s h m a cap zs w trivial HX HA HC hl'
theorem wfm {x : Int} (h : (Lit.int .i64 x).wf = true) : -9223372036854775808 ≤ x ∧ x ≤ 9223372036854775807 := by
  simp [Lit.wf] at h
  have e : IntKind.i64.min = -9223372036854775808 := rfl
  have e2 : IntKind.i64.max = 9223372036854775807 := rfl
  omega
set_option linter.unusedVariables false in
theorem walk (p q s h m : Int) (a : Option Addr) (cap : Nat) (zs : List Int) (w : World) (h0 : (Lit.int .i64 p).wf = true) (h1 : (Lit.int .i64 q).wf = true) (hs : (Lit.int .u8 s).wf = true) (hh : (Lit.int .u8 h).wf = true) (hm : (Lit.int .i64 m).wf = true) (hl : zs.length ≤ maxLen) (hr : RowA .i64 w a zs) (he : ∀ n ∈ zs, (Lit.int .i64 n).wf = true) :
    Calls Try.prog 5 #[.int .i64 p, .int .i64 q, .agg #[.int .u8 s, .int .u8 h, .int .i64 m, .slice a zs.length cap]] w fun e w' => e = .returned (.bool true) ∧ Below w.heap.size w w' := main p q s h m a cap zs w hr (wfm hm)
theorem own : ownKnob Try.prog.godebug = none := by kernel_rfl
theorem laidOut : laidOutB Try.prog = true := by kernel_rfl
set_option linter.unusedVariables false
set_option maxRecDepth 100000 in
theorem lifted (os : Os) (started : os.Started) (H : Type) (enc : TypeId × Value → H) :
    ReturnsInHanded {} Try.checked os 5 .any (Rows.infoRatesSpec.pre6 enc Try.prog Try.f5 Rows.infoRatesRow.domain false) (Rows.infoRatesSpec.post enc Try.prog Try.f5 false true false false) := by
  refine returnsInHanded_of_change (C := Try.checked) own started (by kernel_rfl) Try.func5
    (ChangeSpec.witness6 (enc := enc) (C := Try.checked) false ⟨#[], #[.int .i64 0, .int .i64 0, .agg #[.int .u8 0, .int .u8 0, .int .i64 0, .slice none 0 0]], []⟩ 8 (by kernel_rfl) (by kernel_rfl) (by kernel_rfl) (by kernel_rfl)) ?_
  intro W base args ds gs before hval0 hW hcnd _
  have hval : ∀ (j : Nat) t v, Try.f5.params[j]? = some t → args[j]? = some v → Value.okWide Try.prog W .any base t v := hval0
  have hW' := hW
  obtain ⟨p, q, hA0, hV, rfl, hfz, hnd⟩ := hW
  have hA : DataW.TrodAll enc Try.prog W 0 (fun _ => true) true Try.f5.params.toList args.toList ds p := hA0
  rw [Try.params5] at hA hval
  obtain ⟨v0, vs0, d0, ds0, p0, q0, hargs, rfl, rfl, h0, r0⟩ := trodAll_cons hA
  obtain ⟨v1, vs1, d1, ds1, p1, q1, rfl, rfl, rfl, h1, r1⟩ := trodAll_cons r0
  obtain ⟨v2, vs2, d2, ds2, p2, q2, rfl, rfl, rfl, h2, r2⟩ := trodAll_cons r1
  obtain ⟨rfl, rfl, rfl⟩ := trodAll_nil r2
  obtain rfl : args = #[v0, v1, v2] := by cases args; simp_all
  obtain ⟨rfl, rfl⟩ := trodVars_none hV
  obtain ⟨a0, rfl, rfl, rfl, w0⟩ := open_int Try.underlying3 (hval 0 3 v0 rfl rfl) h0
  obtain ⟨a1, rfl, rfl, rfl, w1⟩ := open_int Try.underlying3 (hval 1 3 v1 rfl rfl) h1
  have k2 := h2
  have lt2 : ∀ x ∈ p2, x.block < W.heap.size := by obtain ⟨m, hm⟩ := k2; exact DataW.trod_lt m _ _ _ hm
  obtain ⟨a2s, a2h, a2m, a2a, a2c, a2z, rfl, w2s, w2h, w2m, l2, r2r, e2⟩ := open_info Try.underlying24 rfl rfl rfl rfl Try.underlying5 Try.underlying5 Try.underlying3 Try.underlying22 Try.underlying3 (by kernel_rfl) (by kernel_rfl) (by kernel_rfl) (by kernel_rfl) (by kernel_rfl) (by kernel_rfl) (hval 2 24 v2 rfl rfl) h2
  clear hA0 hval0
  refine (walk a0 a1 a2s a2h a2m a2a a2c a2z W w0 w1 w2s w2h w2m l2 r2r e2).mono fun e W' ⟨he, bel⟩ => ?_
  subst he
  exact ⟨_, rfl, _, _, _, [], _, [], hW', trodAll_mk1 (shut_bool Try.underlying4 _), (trodAll_cons_mk (shut_int Try.underlying3 w0) (trodAll_cons_mk (shut_int Try.underlying3 w1) (trodAll_cons_mk (Below.trod laidOut (by kernel_rfl) (of_decide_eq_true (by kernel_rfl)) k2 bel lt2) trodAll_mk0))), rfl, bel.frame _, fun h => by cases h⟩

theorem over : Rows.infoRatesRow.holds Try.pinned (OpenSpec.ofChange Rows.infoRatesSpec) :=
  OpenClaim.holds_of_wide 5 Try.f5 rfl rfl rfl rfl rfl rfl rfl ⟨rfl, rfl, rfl, rfl, rfl⟩ rfl rfl rfl rfl rfl (by kernel_rfl) Try.func5 (by kernel_rfl)
    (of_decide_eq_true (by kernel_rfl)) (by unfold Func.isWrapper; first | (rw [if_pos (by decide +kernel)]; kernel_rfl) | (rw [if_neg (by decide +kernel)]; exact ⟨rfl, rfl⟩))
    (fun os started H enc _ => lifted os started H enc)

theorem proved : Rows.InfoRatesSaid := over
end Go.Proofs.Ytdkbdigkimomcaa.infoRates
