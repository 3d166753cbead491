/- Texts of one claim, one behind the other: ItMa, ItRf, ItRg. -/
import Derived.Test.YtjbllbmcalpbhaaDoorMrg0
import Derived.WalkKit
import Derived.Below
import Derived.Laws.AppendOwn
import Derived.Laws.AppendOwnNone
import Derived.RegionTactic
import Derived.Deep.QuietTactic
import Derived.BigQuiet
import Derived.WalkSpells
import Derived.ProofKit
import Derived.OpenShut
import Derived.Lib.Hide
set_option linter.unusedVariables false
/- Windows' groups, as numbers. -/
namespace Go.Proofs.YtjbllbmcalpbhaaDoor.It
open Go Go.Proofs.YtjbllbmcalpbhaaDoor.Lo Go.Proofs.YtjbllbmcalpbhaaDoor.Bd Go.Proofs.YtjbllbmcalpbhaaDoor.If

/-- More bands at a greater rate. -/
theorem mny_mono_n : ∀ (b : Bool) (n : Nat), n < 12 → ∀ k : Nat, k < 12 → n ≤ k → mny n b ≤ mny k b := by decide +kernel
theorem mny_mono {r q : Int} (b : Bool) (r0 : 0 ≤ r) (h : r ≤ q) (q1 : q ≤ 11) : mny r b ≤ mny q b := by
  have := mny_mono_n b r.toNat (by omega) q.toNat (by omega) (by omega)
  rwa [show ((r.toNat : Nat) : Int) = r by omega, show ((q.toNat : Nat) : Int) = q by omega] at this
/-- What may be at some rate may be at the greatest. -/
theorem chk_mono {r s h m : Int} {zs : List Int} (r0 : 0 ≤ r) (r1 : r ≤ 11) (c : chk r s h m zs = 0) : chk 11 s h m zs = 0 := by
  have hr : ¬ (r < 0 ∨ 11 < r) := by omega
  have hd : ¬ (3 < s ∨ 1 < h ∨ m < 0 ∨ mny r (s == 2) < m ∨ grp zs (win s) = false) := fun d => by rw [chk_bad hr d] at c; omega
  have hm := mny_mono (s == 2) r0 r1 (Int.le_refl 11)
  refine chk_ok (by omega) (fun d => ?_)
  rcases d with d | d | d | d | d
  · exact hd (.inl d)
  · exact hd (.inr (.inl d))
  · exact hd (.inr (.inr (.inl d)))
  · exact hd (.inr (.inr (.inr (.inl (by omega)))))
  · exact hd (.inr (.inr (.inr (.inr d))))
theorem chk_two {r s h m : Int} {zs : List Int} (r0 : 0 ≤ r) (r1 : r ≤ 11) : chk r s h m zs = 0 ∨ chk r s h m zs = 8 := by
  by_cases d : (3 < s ∨ 1 < h ∨ m < 0 ∨ mny r (s == 2) < m ∨ grp zs (win s) = false)
  · exact .inr (chk_bad (by omega) d)
  · exact .inl (chk_ok (by omega) d)
theorem grp_zero {zs : List Int} : grp zs 0 = true ↔ zs = [] := by
  cases zs with
  | nil => simp [grp]
  | cons n zs => simp only [grp]; rw [if_pos (by omega)]; simp
theorem grp_one {zs : List Int} : grp zs 1 = true ↔ zs = [1] := by
  cases zs with
  | nil => simp [grp]
  | cons n zs =>
    simp only [grp]
    by_cases c : n < 1 ∨ 1 < n
    · rw [if_pos c]; simp; omega
    · rw [if_neg c, show (1 : Int) - n = 0 by omega, grp_zero]
      have : n = 1 := by omega
      subst this
      simp
/-- Each window's group. -/
def ins : Nat → List Int → List Int
  | _, [] => []
  | g, n :: zs => List.replicate n.toNat (g : Int) ++ ins (g + 1) zs
theorem ins_at {zs : List Int} {k : Nat} (h : k < zs.length) (g : Nat) : ins g (zs.drop k) = List.replicate (zs.getD k 0).toNat (g : Int) ++ ins (g + 1) (zs.drop (k + 1)) := by
  rw [List.drop_eq_getElem_cons h, ins]
  simp [h]
theorem grp_cons {n l : Int} {zs : List Int} (h : grp (n :: zs) l = true) : 1 ≤ n ∧ n ≤ l ∧ grp zs (l - n) = true := by
  simp only [grp] at h
  by_cases c : n < 1 ∨ l < n
  · rw [if_pos c] at h; simp at h
  · rw [if_neg c] at h; exact ⟨by omega, by omega, h⟩
theorem ins_len : ∀ (zs : List Int) (l : Int) (g : Nat), grp zs l = true → ((ins g zs).length : Int) = l
  | [], l, g, h => by simp [grp] at h; simp [ins, h]
  | n :: zs, l, g, h => by
    obtain ⟨a, b, c⟩ := grp_cons h
    have := ins_len zs (l - n) (g + 1) c
    simp only [ins, List.length_append, List.length_replicate]
    omega
theorem ins_get : ∀ (zs : List Int) (l x : Int) (g : Nat), grp zs l = true → 0 ≤ x → x < l → (ins g zs).getD x.toNat 0 = g + gof zs x
  | [], l, x, g, h, x0, x1 => by simp [grp] at h; omega
  | n :: zs, l, x, g, h, x0, x1 => by
    obtain ⟨a, b, c⟩ := grp_cons h
    simp only [ins, gof]
    by_cases d : n ≤ x
    · rw [if_pos d]
      have ih := ins_get zs (l - n) (x - n) (g + 1) c (by omega) (by omega)
      rw [List.getD_eq_getElem?_getD, List.getElem?_append_right (by simp; omega), ← List.getD_eq_getElem?_getD]
      simp only [List.length_replicate]
      rw [show x.toNat - n.toNat = (x - n).toNat by omega, ih]
      push_cast; omega
    · rw [if_neg d]
      rw [List.getD_eq_getElem?_getD, List.getElem?_append_left (by simp; omega)]
      rw [List.getElem?_replicate, if_pos (by omega)]
      simp
end Go.Proofs.YtjbllbmcalpbhaaDoor.It

/- The document's calls about windows. -/
namespace Go.Proofs.YtjbllbmcalpbhaaDoor.It
open Go Go.ChangeShapes Go.WideShapes Go.ChangeAt Go.RowKit Go.Proofs.YtjbllbmcalpbhaaDoor.Lo Go.Proofs.YtjbllbmcalpbhaaDoor.Bd Go.Proofs.YtjbllbmcalpbhaaDoor.If

theorem bT {a b c : World} (h : Below a.heap.size a b) (k : Below b.heap.size b c) : Below a.heap.size a c := h.trans (k.mono h.size)
theorem rmany_k (r : Int) (b : Bool) (w : World) (r0 : 0 ≤ r) (r1 : r ≤ 11) : Calls Tryd.prog 27 #[.int .i64 r, .bool b] w fun e w' => e = .returned (.tuple #[.int .i64 (mny r b), .int .i64 0]) ∧ Below w.heap.size w w' := rmany_ok r b w r0 r1
set_option maxRecDepth 100000 in
set_option maxHeartbeats 2000000 in
theorem may_ok (r s h m : Int) (a : Option Addr) (cap : Nat) (zs : List Int) (w : World) (hl : zs.length ≤ 100000) (hr : RdA w a zs) (r0 : 0 ≤ r) (r1 : r ≤ 11) :
    Calls Tryd.prog 23 #[.int .i64 r, .agg #[.int .u8 s, .int .u8 h, .int .i64 m, .slice a zs.length cap]] w fun e w' => e = .returned (.bool (chk r s h m zs == 0)) ∧ Below w.heap.size w w' := by
  have HB := Lib.hid (box_below w (.cells #[.int .u8 s, .int .u8 h, .int .i64 m, .slice a zs.length cap] 24))
  have hr01 : ¬ (r < 0 ∨ 11 < r) := by omega
  have HM := Lib.hid (fun w => rmany_k r (s == 2) w r0 r1)
  have hM := mny_bd (r := r) (b := s == 2) r0 r1
  have HR := Lib.hid (fun w1 (k : Below w.heap.size w w1) => hr.below k)
  have hF := fun c => @chk_bad r s h m zs hr01 c
  have hT := fun c => @chk_ok r s h m zs hr01 c
  generalize hch : chk r s h m zs = C at *
  clear hch hr
  generalize mny r (s == 2) = M at *
  obtain ⟨hM0, hM1⟩ := hM
  by_cases c2 : 3 < s
  · obtain rfl := hF (.inl c2)
    clear hF hT hr01
    go_enter Tryd.func23, Tryd.ntmps23
    go_wp2_with (go_at_call 27; ((with_reducible refine (HM.out _).mono ?_); rintro e w1 ⟨rfl, hb⟩; have hb1 := bT HB.out hb; obtain ⟨z0, z1, z2, z3⟩ := boxed w s h m (.slice a zs.length cap) w1 hb; clear hb))
    go_ret
    exact ⟨rfl, hb1⟩
  by_cases c3 : 1 < h
  · obtain rfl := hF (.inr (.inl c3))
    clear hF hT hr01
    go_enter Tryd.func23, Tryd.ntmps23
    go_wp2_with (go_at_call 27; ((with_reducible refine (HM.out _).mono ?_); rintro e w1 ⟨rfl, hb⟩; have hb1 := bT HB.out hb; obtain ⟨z0, z1, z2, z3⟩ := boxed w s h m (.slice a zs.length cap) w1 hb; clear hb))
    go_ret
    exact ⟨rfl, hb1⟩
  by_cases c4 : m < 0
  · obtain rfl := hF (.inr (.inr (.inl c4)))
    clear hF hT hr01
    go_enter Tryd.func23, Tryd.ntmps23
    go_wp2_with (go_at_call 27; ((with_reducible refine (HM.out _).mono ?_); rintro e w1 ⟨rfl, hb⟩; have hb1 := bT HB.out hb; obtain ⟨z0, z1, z2, z3⟩ := boxed w s h m (.slice a zs.length cap) w1 hb; clear hb))
    go_ret
    exact ⟨rfl, hb1⟩
  by_cases c5 : M < m
  · obtain rfl := hF (.inr (.inr (.inr (.inl c5))))
    clear hF hT hr01
    go_enter Tryd.func23, Tryd.ntmps23
    go_wp2_with (go_at_call 27; ((with_reducible refine (HM.out _).mono ?_); rintro e w1 ⟨rfl, hb⟩; have hb1 := bT HB.out hb; obtain ⟨z0, z1, z2, z3⟩ := boxed w s h m (.slice a zs.length cap) w1 hb; clear hb))
    go_ret
    exact ⟨rfl, hb1⟩
  have hC : (C == 0) = grp zs (win s) := by
    cases hg : grp zs (win s)
    · rw [hF (.inr (.inr (.inr (.inr hg))))]; rfl
    · rw [hT (by rw [hg]; rintro (x | x | x | x | x) <;> first | omega | cases x)]; rfl
  rw [hC]
  clear hC hF hT hr01
  by_cases cs : s = 2
  · subst cs
    rw [show win 2 = 8 from rfl]
    obtain ⟨R, hR⟩ : ∃ R, grp zs 8 = R := ⟨_, rfl⟩
    have HG : Hid (grp (zs.drop 0) 8 = R) := Lib.hid hR
    rw [hR]
    clear hR
    have c22 : ((2 : Int) == 2) = true := rfl
    rw [c22] at HM
    go_enter Tryd.func23, Tryd.ntmps23
    go_wp2_with (go_at_call 27; ((with_reducible refine (HM.out _).mono ?_); rintro e w1 ⟨rfl, hb⟩; have hb1 := bT HB.out hb; obtain ⟨z0, z1, z2, z3⟩ := boxed w 2 h m (.slice a zs.length cap) w1 hb; clear hb))
    have HR1 := Lib.hid (HR.out w1 hb1)
    go_loop [7, 8] (fun l i => ∃ (k : Nat) (l0 : Int), k ≤ zs.length ∧ 0 ≤ l0 ∧ l0 ≤ 8 ∧ Hid (grp (zs.drop k) l0 = R) ∧ i = .int .i64 k ∧ l = .int .i64 l0) (fun _ i => zs.length - (intOf i).toNat)
    case atStart => exact ⟨0, 8, by omega, by omega, by omega, HG, rfl, rfl⟩
    case round =>
      obtain ⟨k, l0, hk, q0, q1, hg, rfl, rfl⟩ := hrel
      by_cases hlt : k < zs.length
      · obtain ⟨b, off, rfl, hlb, c⟩ := HR1.out k hlt
        have hga := hg.out
        rw [grp_at hlt] at hga
        clear hg HG
        generalize zs.getD k 0 = n at *
        by_cases c1 : n < 1
        · rw [if_pos (.inl c1)] at hga
          subst hga
          go_wp2
          go_ret
          exact ⟨rfl, hb1⟩
        by_cases c2 : l0 < n
        · rw [if_pos (.inr c2)] at hga
          subst hga
          go_wp2
          go_ret
          exact ⟨rfl, hb1⟩
        rw [if_neg (by omega)] at hga
        have HGA := Lib.hid hga
        clear hga
        go_wp2
        go_round
        case rel => exact ⟨k + 1, l0 - n, by omega, by omega, by omega, HGA, by go_num, rfl⟩
        case measure => simp [intOf]; omega
      · have hend : k = zs.length := by omega
        have hga := hg.out
        rw [hend, grp_end] at hga
        clear hg HG
        subst hga
        have hlt2 : ¬ (k : Int) < zs.length := by omega
        go_wp2
        go_ret
        exact ⟨rfl, hb1⟩
  · have hs2 : (s == 2) = false := by simpa using cs
    rw [hs2] at HM
    rw [show win s = 1 by unfold win; rw [if_neg cs]]
    have hne : (s != 2) = true := by simp [cs]
    by_cases hz : zs.length = 1
    · obtain ⟨x, rfl⟩ := List.length_eq_one_iff.1 hz
      clear hz
      have hg : grp [x] 1 = (x == 1) := by
        by_cases e : x = 1
        · subst e; rfl
        · have hn : ¬ grp [x] 1 = true := fun q => e (by have := grp_one.1 q; simpa using this)
          rw [show grp [x] 1 = false by simpa using hn]
          simp [e]
      rw [hg]
      clear hg
      obtain ⟨b, off, rfl, hlb, c⟩ := HR.out _ HB.out 0 (by simp)
      simp only [Nat.add_zero, List.getD_cons_zero] at c
      go_enter Tryd.func23, Tryd.ntmps23
      go_wp2_with (go_at_call 27; ((with_reducible refine (HM.out _).mono ?_); rintro e w1 ⟨rfl, hb⟩; have hb1 := bT HB.out hb; obtain ⟨z0, z1, z2, z3⟩ := boxed w s h m (.slice (some ⟨b, off, none⟩) [x].length cap) w1 hb; have c9 := (hb.cell (p := ⟨b, off, none⟩) hlb).trans c; clear hb))
      go_ret
      exact ⟨rfl, hb1⟩
    · have hg : grp zs 1 = false := by
        have hn : ¬ grp zs 1 = true := fun q => hz (by rw [grp_one.1 q]; rfl)
        simpa using hn
      rw [hg]
      have hz2 : ((zs.length : Int) == 1) = false := by simp; omega
      have hz3 : ¬ (zs.length : Int) = 1 := by omega
      clear hg hz
      go_enter Tryd.func23, Tryd.ntmps23
      go_wp2_with (go_at_call 27; ((with_reducible refine (HM.out _).mono ?_); rintro e w1 ⟨rfl, hb⟩; have hb1 := bT HB.out hb; obtain ⟨z0, z1, z2, z3⟩ := boxed w s h m (.slice a zs.length cap) w1 hb; clear hb))
      go_ret
      exact ⟨rfl, hb1⟩
end Go.Proofs.YtjbllbmcalpbhaaDoor.It

/- The document's calls about windows: whether, how many, which group. -/
namespace Go.Proofs.YtjbllbmcalpbhaaDoor.It
open Go Go.ChangeShapes Go.WideShapes Go.ChangeAt Go.RowKit Go.Proofs.YtjbllbmcalpbhaaDoor.Lo Go.Proofs.YtjbllbmcalpbhaaDoor.Bd Go.Proofs.YtjbllbmcalpbhaaDoor.If

theorem box_k {w : World} {s h m : Int} {v : Value} {x : World} (hb : Below (w.alloc (.cells #[.int .u8 s, .int .u8 h, .int .i64 m, v] 24)).heap.size (w.alloc (.cells #[.int .u8 s, .int .u8 h, .int .i64 m, v] 24)) x) : Below w.heap.size w x := bT (box_below w _) hb
set_option maxRecDepth 100000 in
theorem rcheck_ok (r s h m : Int) (a : Option Addr) (cap : Nat) (zs : List Int) (w : World) (hl : zs.length ≤ 100000) (hr : RdA w a zs) :
    Calls Tryd.prog 11 #[.int .i64 r, .agg #[.int .u8 s, .int .u8 h, .int .i64 m, .slice a zs.length cap]] w fun e w' => e = .returned (.int .i64 (chk r s h m zs)) ∧ Below w.heap.size w w' := by
  have HB := Lib.hid (box_below w (.cells #[.int .u8 s, .int .u8 h, .int .i64 m, .slice a zs.length cap] 24))
  by_cases c0 : r < 0
  · rw [chk_arg (.inl c0)]
    go_enter Tryd.func11, Tryd.ntmps11
    go_wp2
    go_ret
    exact ⟨rfl, HB.out⟩
  by_cases c1 : 11 < r
  · rw [chk_arg (.inr c1)]
    go_enter Tryd.func11, Tryd.ntmps11
    go_wp2
    go_ret
    exact ⟨rfl, HB.out⟩
  have HM := Lib.hid (fun w1 (k : Below w.heap.size w w1) => may_ok r s h m a cap zs w1 hl (hr.below k) (by omega) (by omega))
  have h2 := chk_two (r := r) (s := s) (h := h) (m := m) (zs := zs) (by omega) (by omega)
  clear hr
  generalize chk r s h m zs = C at *
  rcases h2 with rfl | rfl
  · rw [show ((0 : Int) == 0) = true from rfl] at HM
    go_enter Tryd.func11, Tryd.ntmps11
    go_wp2_with (go_at_call 23; ((with_reducible refine (HM.out _ HB.out).mono ?_); rintro e w1 ⟨rfl, hb⟩; have hb1 := box_k hb; clear hb))
    go_ret
    exact ⟨rfl, hb1⟩
  · rw [show ((8 : Int) == 0) = false from rfl] at HM
    go_enter Tryd.func11, Tryd.ntmps11
    go_wp2_with (go_at_call 23; ((with_reducible refine (HM.out _ HB.out).mono ?_); rintro e w1 ⟨rfl, hb⟩; have hb1 := box_k hb; clear hb))
    go_ret
    exact ⟨rfl, hb1⟩
set_option maxRecDepth 100000 in
theorem some_ok (s h m : Int) (a : Option Addr) (cap : Nat) (zs : List Int) (w : World) (hl : zs.length ≤ 100000) (hr : RdA w a zs) :
    Calls Tryd.prog 17 #[.agg #[.int .u8 s, .int .u8 h, .int .i64 m, .slice a zs.length cap]] w fun e w' => e = .returned (.bool (chk 11 s h m zs == 0)) ∧ Below w.heap.size w w' := by
  have HB := Lib.hid (box_below w (.cells #[.int .u8 s, .int .u8 h, .int .i64 m, .slice a zs.length cap] 24))
  have HM := Lib.hid (fun r w1 (k : Below w.heap.size w w1) r0 r1 => may_ok r s h m a cap zs w1 hl (hr.below k) r0 r1)
  have HX := Lib.hid (fun x hx => boxed w s h m (.slice a zs.length cap) x hx)
  have HK := Lib.hid (fun (k : Nat) (q : chk k s h m zs = 0) (q1 : k ≤ 11) => chk_mono (r := (k : Int)) (by omega) (by omega) q)
  have HT := Lib.hid (fun (k : Nat) (q1 : k ≤ 11) => chk_two (r := (k : Int)) (s := s) (h := h) (m := m) (zs := zs) (by omega) (by omega))
  have HE : Hid (chk ((11 : Nat) : Int) s h m zs = chk 11 s h m zs) := Lib.hid rfl
  clear hr
  generalize hC : (fun r => chk r s h m zs) = C
  have hCr : ∀ r, chk r s h m zs = C r := fun r => by rw [← hC]
  clear hC
  simp only [hCr] at HM HK HT HE ⊢
  clear hCr
  obtain ⟨R, hR⟩ : ∃ R, R = (C 11 == 0) := ⟨_, rfl⟩
  rw [← hR]
  have HV := Lib.hid hR
  clear hR
  have HY : Hid (∀ x, Below (w.alloc (.cells #[.int .u8 s, .int .u8 h, .int .i64 m, .slice a zs.length cap] 24)).heap.size (w.alloc (.cells #[.int .u8 s, .int .u8 h, .int .i64 m, .slice a zs.length cap] 24)) x → Below w.heap.size w x) := Lib.hid (fun x hx => box_k hx)
  go_enter Tryd.func17, Tryd.ntmps17
  go_wp2
  generalize hw0 : w.alloc (.cells #[.int .u8 s, .int .u8 h, .int .i64 m, .slice a zs.length cap] 24) = w0 at *
  go_loopw [3] (fun i wr => ∃ k : Nat, k ≤ 12 ∧ i = .int .i64 k ∧ Below w0.heap.size w0 wr ∧ (k = 12 → C 11 ≠ 0)) (fun i _ => 12 - (intOf i).toNat)
  case atStart => exact ⟨0, by omega, rfl, Below.refl _ _, fun q => by omega⟩
  case round =>
    obtain ⟨k, hk, rfl, hb, hn⟩ := hrel
    obtain ⟨z0, z1, z2, z3⟩ := HX.out wr hb
    have hbw := HY.out wr hb
    by_cases hlt : k ≤ 11
    · have hq := HM.out k wr hbw (by omega) (by omega)
      have hm0 := fun q => HK.out k q hlt
      have hm1 := HT.out k hlt
      have hm2 : C k ≠ 0 → k = 11 → C 11 ≠ 0 := fun q e => by subst e; exact q
      generalize C k = D at *
      rcases hm1 with rfl | rfl
      · have e11 := hm0 rfl
        rw [show ((0 : Int) == 0) = true from rfl] at hq
        have HQ := Lib.hid hq
        obtain rfl : R = true := by rw [HV.out, e11]; rfl
        clear hm0 hm2 hq hn HE e11 HV
        go_wp2_with (go_at_call 23; ((with_reducible refine (HQ.out).mono ?_); rintro e w1 ⟨rfl, hb1⟩))
        go_ret
        exact ⟨rfl, bT hbw hb1⟩
      · rw [show ((8 : Int) == 0) = false from rfl] at hq
        have HQ := Lib.hid hq
        have HN := Lib.hid (hm2 (by omega))
        clear hm0 hm2 hq hn
        go_wp2_with (go_at_call 23; ((with_reducible refine (HQ.out).mono ?_); rintro e w1 ⟨rfl, hb1⟩))
        go_roundw
        case rel => exact ⟨k + 1, by omega, by go_num, bT hb hb1, fun q => HN.out (by omega)⟩
        case measure => simp [intOf]; omega
    · have hend : k = 12 := by omega
      have h11 := hn hend
      subst hend
      obtain rfl : R = false := by rw [HV.out]; simpa using h11
      clear h11 hn HV hk
      go_wp2
      go_ret
      exact ⟨rfl, hbw⟩
theorem rmany10 (s h m : Int) (v : Value) (w : World) : Calls Tryd.prog 18 #[.agg #[.int .u8 s, .int .u8 h, .int .i64 m, v]] w fun e w' => e = .returned (.int .i64 (win s)) ∧ Below w.heap.size w w' := by
  have HB := Lib.hid (box_below w (.cells #[.int .u8 s, .int .u8 h, .int .i64 m, v] 24))
  by_cases c : s = 2
  · subst c
    rw [show win 2 = 8 from rfl]
    go_enter Tryd.func18, Tryd.ntmps18
    go_wp2
    go_ret
    exact ⟨rfl, HB.out⟩
  · rw [show win s = 1 by unfold win; rw [if_neg c]]
    have c2 : (s == 2) = false := by simpa using c
    go_enter Tryd.func18, Tryd.ntmps18
    go_wp2
    go_ret
    exact ⟨rfl, HB.out⟩
theorem rwindows_k (s h m : Int) (a : Option Addr) (cap : Nat) (zs : List Int) (w : World) (hl : zs.length ≤ 100000) (hr : RdA w a zs) :
    Calls Tryd.prog 6 #[.agg #[.int .u8 s, .int .u8 h, .int .i64 m, .slice a zs.length cap]] w fun e w' => e = .returned (.tuple #[.int .i64 (if chk 11 s h m zs = 0 then win s else 0), .int .i64 (chk 11 s h m zs)]) ∧ Below w.heap.size w w' := by
  have HB := Lib.hid (box_below w (.cells #[.int .u8 s, .int .u8 h, .int .i64 m, .slice a zs.length cap] 24))
  have HS := Lib.hid (fun w1 (k : Below w.heap.size w w1) => some_ok s h m a cap zs w1 hl (hr.below k))
  have HM := Lib.hid (fun w1 => rmany10 s h m (.slice a zs.length cap) w1)
  have h2 := chk_two (r := 11) (s := s) (h := h) (m := m) (zs := zs) (by omega) (by omega)
  clear hr
  generalize chk 11 s h m zs = C at *
  generalize win s = W at *
  rcases h2 with rfl | rfl
  · rw [show ((0 : Int) == 0) = true from rfl] at HS
    rw [if_pos rfl]
    go_enter Tryd.func6, Tryd.ntmps6
    go_wp2_with (first | (go_at_call 17; ((with_reducible refine (HS.out _ HB.out).mono ?_); rintro e w1 ⟨rfl, hb⟩; obtain ⟨z0, z1, z2, z3⟩ := boxed w s h m (.slice a zs.length cap) w1 hb; have hb1 := box_k hb; clear hb)) | (go_at_call 18; ((with_reducible refine (HM.out _).mono ?_); rintro e w2 ⟨rfl, hb2⟩)))
    go_ret2
    exact ⟨rfl, bT hb1 hb2⟩
  · rw [show ((8 : Int) == 0) = false from rfl] at HS
    rw [if_neg (by decide)]
    go_enter Tryd.func6, Tryd.ntmps6
    go_wp2_with (first | (go_at_call 17; ((with_reducible refine (HS.out _ HB.out).mono ?_); rintro e w1 ⟨rfl, hb⟩; obtain ⟨z0, z1, z2, z3⟩ := boxed w s h m (.slice a zs.length cap) w1 hb; have hb1 := box_k hb; clear hb)) | (go_at_call 18; ((with_reducible refine (HM.out _).mono ?_); rintro e w2 ⟨rfl, hb2⟩)))
    go_ret2
    exact ⟨rfl, hb1⟩
/-- May a sequence follow? -/
def aft (a n : Int) : Bool := decide (a ≤ 3 ∧ n ≤ 3 ∧ (((a = 0 ∨ a = 3) ∧ n ≤ 1) ∨ ((a = 1 ∨ a = 2) ∧ 2 ≤ n)))
set_option maxRecDepth 100000 in
theorem rafter_ok (p n : Int) (w : World) (p0 : 0 ≤ p) (n0 : 0 ≤ n) : Calls Tryd.prog 13 #[.int .u8 p, .int .u8 n] w fun e w' => e = .returned (.bool (aft p n)) ∧ w = w' := by
  by_cases c : 3 < p
  · rw [show aft p n = false from decide_eq_false (by omega)]
    have d0 : (p == 0) = false := by simp; omega
    have d1 : (p == 1) = false := by simp; omega
    have d2 : (p == 2) = false := by simp; omega
    have d3 : (p == 3) = false := by simp; omega
    go_enter Tryd.func13, Tryd.ntmps13
    go_wp2
    go_ret
    exact ⟨rfl, rfl⟩
  have hp : p = 0 ∨ p = 1 ∨ p = 2 ∨ p = 3 := by omega
  by_cases d : 3 < n
  · have d0 : (n == 0) = false := by simp; omega
    have d1 : (n == 1) = false := by simp; omega
    have d2 : (n == 2) = false := by simp; omega
    have d3 : (n == 3) = false := by simp; omega
    rw [show aft p n = false from decide_eq_false (by omega)]
    rcases hp with rfl | rfl | rfl | rfl
    all_goals
      go_enter Tryd.func13, Tryd.ntmps13
      go_wp2
      go_ret
      exact ⟨rfl, rfl⟩
  have hn : n = 0 ∨ n = 1 ∨ n = 2 ∨ n = 3 := by omega
  rcases hp with rfl | rfl | rfl | rfl <;> rcases hn with rfl | rfl | rfl | rfl
  all_goals
    first | (rw [show aft _ _ = true from rfl]) | (rw [show aft _ _ = false from rfl])
    go_enter Tryd.func13, Tryd.ntmps13
    go_wp2
    go_ret
    exact ⟨rfl, rfl⟩
end Go.Proofs.YtjbllbmcalpbhaaDoor.It
