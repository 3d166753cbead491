/- Texts of one claim, one behind the other: InPc, InMath, InPut. -/
import Derived.Test.YtchefgnefcabnaaBiSrc
import Derived.Test.YtchefgnefcabnaaMrg0
import Derived.RangeFuncNested
import Derived.RangeFuncBox
import Derived.WalkKit
import Derived.OwnWalk
import Derived.ProofKit
import Derived.OpenShut
import Derived.Lib.Hide
import Derived.Test.YtchefgnefcabnaaBiMath
import Derived.WalkSpells
set_option linter.unusedVariables false
/- Info's Put: its closure, and what it answers to no bits. -/
namespace Go.Proofs.Ytchefgnefcabnaa.In
open Go Go.ChangeShapes Go.WideShapes Go.ChangeAt Go.RowKit Go.Shelf Go.Proofs.Ytchefgnefcabnaa.Bi Go.Proofs.Ytchefgnefcabnaa.If
open Go.Proofs.Ytchefgnefcabnaa.Cr (Own)

/-- The box of the bits so far. -/
def PS (w0 : World) (Bo : Nat) (w : World) (L : List Int) : Prop := ∃ v, Boxed w Bo 25 v ∧ Src8 w v L ∧ Below Bo w0 w
theorem PS.lt {w0 w : World} {Bo : Nat} {L : List Int} (h : PS w0 Bo w L) : Bo < w.heap.size := by obtain ⟨v, h, _⟩ := h; exact h.lt
theorem PS.bel {w0 w : World} {Bo : Nat} {L : List Int} (h : PS w0 Bo w L) : Below Bo w0 w := by obtain ⟨v, _, _, h⟩ := h; exact h
set_option maxRecDepth 100000 in
set_option maxHeartbeats 1000000 in
theorem pc_ok {w0 w : World} {Bo : Nat} {L : List Int} (hp : PS w0 Bo w L) (X : Int) (s : Nat) {S : Int} (hS : S = s) (hl : L.length ≤ 100000) (s1 : s ≤ 31) (x0 : 0 ≤ X) (x1 : X < 2 ^ s) :
    Calls Try.prog 23 #[.int .i64 X, .int .i64 S, .pointer (some ⟨Bo, 0, none⟩)] w fun e w' => (∃ v, e = .returned v) ∧ PS w0 Bo w' (L ++ bi X s) := by
  subst hS
  obtain ⟨v, hbx, hsrc, hbel⟩ := hp
  have hc := hbx.cell
  have HS := Lib.hid (put_src X s w hsrc hl s1 x0 x1)
  have HB := Lib.hid hbel
  clear hsrc hbel x1
  go_enter Try.func23, Try.ntmps23
  go_wp2_with (go_at_call 24; ((with_reducible refine (HS.out).mono ?_); rintro e w1 ⟨g, cap, rfl, ho, hb⟩; have hbx1 : Boxed w1 Bo 25 v := (hb.block Bo hbx.lt).trans hbx; have hc1 := hbx1.cell; have hf1 := hbx1.frozen))
  go_end0
  have hlt := hbx.lt
  have h1 : Below Bo w w1 := hb.mono (by omega)
  refine ⟨⟨_, rfl⟩, _, hbx1.set _, own_src (ownsRow_setCell_below ho (by simpa using hlt) _), (HB.out.trans h1).setCell (by simp) _⟩
end Go.Proofs.Ytchefgnefcabnaa.In

/- The bits of windows, as plain lists. -/
namespace Go.Proofs.Ytchefgnefcabnaa.In
open Go Go.Proofs.Ytchefgnefcabnaa.Bi Go.Proofs.Ytchefgnefcabnaa.If
open Go.Proofs.Ytchefgnefcabnaa.Cr (Bits)

/-- The bits of one group. -/
def ones (n : Int) : List Int := List.replicate (n - 1).toNat 1
/-- The bits of groups: nought ahead of each but the first. -/
def grt : List Int → List Int
  | [] => []
  | n :: zs => 0 :: (ones n ++ grt zs)
def grb : List Int → List Int
  | [] => []
  | n :: zs => ones n ++ grt zs
/-- The bits of the first k groups. -/
theorem grt_append (a b : List Int) : grt (a ++ b) = grt a ++ grt b := by
  induction a with
  | nil => rfl
  | cons n a ih => simp [grt, ih]
theorem grb_first {zs : List Int} (h : 0 < zs.length) : grb (zs.take 1) = ones (zs.getD 0 0) := by
  cases zs with
  | nil => simp at h
  | cons n zs => simp [grb, grt]
theorem grb_next {zs : List Int} {k : Nat} (hk : 0 < k) (h : k < zs.length) : grb (zs.take (k + 1)) = grb (zs.take k) ++ [0] ++ ones (zs.getD k 0) := by
  have e : zs.take (k + 1) = zs.take k ++ [zs.getD k 0] := by rw [List.take_add_one, List.getElem?_eq_getElem h]; simp [h]
  rw [e]
  cases zs with
  | nil => simp at h
  | cons n zs =>
    obtain ⟨j, rfl⟩ : ∃ j, k = j + 1 := ⟨k - 1, by omega⟩
    simp only [List.take_succ_cons, List.cons_append, grb, grt_append, grt, List.append_assoc]
    simp
/-- All of it. -/
def pre (s h m : Int) : List Int := bi 0 1 ++ bi s 2 ++ bi h 1 ++ (if s = 2 then bi m 4 else bi m 6)
def putL (s h m : Int) (zs : List Int) : List Int := pre s h m ++ (if s = 2 then grb zs else [0])
theorem bi_one (x : Int) (h0 : 0 ≤ x) (h1 : x ≤ 1) : bi x 1 = [x] := by
  simp only [bi]
  congr 1
  simp
  omega

/-! ### Groups, of their bits -/
def grow (l : List Int) (n : Int) : List Int := if n = 1 then l.dropLast ++ [l.getLast?.getD 0 + 1] else l ++ [1]
theorem grow_ones (l : List Int) (a : Int) : ∀ j : Nat, (List.replicate j (1 : Int)).foldl grow (l ++ [a]) = l ++ [a + j]
  | 0 => by simp
  | j + 1 => by
    rw [List.replicate_succ, List.foldl_cons]
    have e : grow (l ++ [a]) 1 = l ++ [a + 1] := by simp [grow]
    rw [e, grow_ones l (a + 1) j]
    congr 2
    omega
theorem grow_grt : ∀ (zs l : List Int), (∀ z ∈ zs, 1 ≤ z) → (grt zs).foldl grow l = l ++ zs
  | [], l, _ => by simp [grt]
  | n :: zs, l, h => by
    have hn := h n (by simp)
    have e : grow l 0 = l ++ [1] := by simp [grow]
    rw [grt, List.foldl_cons, e, List.foldl_append, ones, grow_ones l 1 (n - 1).toNat, grow_grt zs _ (fun z hz => h z (by simp [hz]))]
    rw [show (1 : Int) + ((n - 1).toNat : Int) = n by omega]
    simp
/-- Groups that may be come back. -/
theorem grow_grb {zs : List Int} (h : ∀ z ∈ zs, 1 ≤ z) (hne : zs ≠ []) : (grb zs).foldl grow [1] = zs := by
  cases zs with
  | nil => exact absurd rfl hne
  | cons n zs =>
    have hn := h n (by simp)
    have e := grow_ones [] 1 (n - 1).toNat
    rw [List.nil_append, List.nil_append] at e
    rw [grb, List.foldl_append, ones, e, grow_grt zs _ (fun z hz => h z (by simp [hz]))]
    rw [show (1 : Int) + ((n - 1).toNat : Int) = n by omega]
    rfl
theorem ones_succ {n : Int} (h : 1 ≤ n) : ones (n + 1) = ones n ++ [1] := by
  unfold ones
  rw [show (n + 1 - 1).toNat = (n - 1).toNat + 1 by omega, List.replicate_succ']
theorem grb_last1 (a : List Int) (n : Int) (h : 1 ≤ n) : grb (a ++ [n + 1]) = grb (a ++ [n]) ++ [1] := by
  cases a with
  | nil => simp [grb, grt, ones_succ h]
  | cons x a => simp [grb, grt_append, grt, ones_succ h]
theorem grb_last0 (a : List Int) (h : a ≠ []) : grb (a ++ [1]) = grb a ++ [0] := by
  cases a with
  | nil => exact absurd rfl h
  | cons x a => simp [grb, grt_append, grt, ones]
/-- Bits that were read are those of their groups. -/
theorem grb_grow : ∀ (bs l : List Int), Bits bs → l ≠ [] → (∀ z ∈ l, 1 ≤ z) → grb (bs.foldl grow l) = grb l ++ bs ∧ (∀ z ∈ bs.foldl grow l, 1 ≤ z) ∧ bs.foldl grow l ≠ []
  | [], l, _, hne, h1 => by simp [hne]; exact h1
  | b :: bs, l, hb, hne, h1 => by
    have hb0 := hb b (by simp)
    have hbs : Bits bs := fun z hz => hb z (by simp [hz])
    obtain ⟨a, n, rfl⟩ : ∃ a n, l = a ++ [n] := by
      rcases List.eq_nil_or_concat l with rfl | ⟨a, n, rfl⟩
      · exact absurd rfl hne
      · exact ⟨a, n, by simp⟩
    have hn := h1 n (by simp)
    by_cases c : b = 1
    · subst c
      have e : grow (a ++ [n]) 1 = a ++ [n + 1] := by simp [grow]
      have k := grb_grow bs (a ++ [n + 1]) hbs (by simp) (fun z hz => by
        simp at hz
        rcases hz with hz | rfl
        · exact h1 z (by simp [hz])
        · omega)
      rw [List.foldl_cons, e]
      refine ⟨?_, k.2.1, k.2.2⟩
      rw [k.1, grb_last1 a n hn]
      simp
    · have hb1 : b = 0 := by omega
      subst hb1
      have e : grow (a ++ [n]) 0 = a ++ [n] ++ [1] := by simp [grow]
      have k := grb_grow bs (a ++ [n] ++ [1]) hbs (by simp) (fun z hz => by
        simp at hz
        rcases hz with hz | rfl | rfl
        · exact h1 z (by simp [hz])
        · omega
        · omega)
      rw [List.foldl_cons, e]
      refine ⟨?_, k.2.1, k.2.2⟩
      rw [k.1, grb_last0 _ (by simp)]
      simp
theorem grp_cons {n : Int} {zs : List Int} {l : Int} (h : grp (n :: zs) l = true) : 1 ≤ n ∧ n ≤ l ∧ grp zs (l - n) = true := by
  unfold grp at h
  by_cases c : n < 1 ∨ l < n
  · rw [if_pos c] at h; cases h
  · rw [if_neg c] at h; exact ⟨by omega, by omega, h⟩
theorem grp_pos : ∀ {zs : List Int} {l : Int}, grp zs l = true → ∀ z ∈ zs, 1 ≤ z
  | [], _, _, z, hz => by cases hz
  | n :: zs, l, h, z, hz => by
    obtain ⟨a, b, c⟩ := grp_cons h
    rcases List.mem_cons.1 hz with rfl | hz
    · exact a
    · exact grp_pos c z hz
theorem grt_len : ∀ {zs : List Int} {l : Int}, grp zs l = true → ((grt zs).length : Int) = l
  | [], l, h => by simp [grp] at h; simp [grt, h]
  | n :: zs, l, h => by
    obtain ⟨a, b, c⟩ := grp_cons h
    have := grt_len c
    simp [grt, ones]
    omega
theorem grb_len {zs : List Int} (h : grp zs 8 = true) : (grb zs).length = 7 ∧ zs ≠ [] := by
  cases zs with
  | nil => simp [grp] at h
  | cons n zs =>
    obtain ⟨a, b, c⟩ := grp_cons h
    have := grt_len c
    refine ⟨?_, by simp⟩
    simp [grb, ones]
    omega
theorem grp_one {zs : List Int} (h : grp zs 1 = true) : zs = [1] := by
  cases zs with
  | nil => simp [grp] at h
  | cons n zs =>
    obtain ⟨a, b, c⟩ := grp_cons h
    obtain rfl : n = 1 := by omega
    cases zs with
    | nil => rfl
    | cons m zs => obtain ⟨a, b, c⟩ := grp_cons c; omega
theorem ones_bits (n : Int) : Bits (ones n) := fun z hz => by
  have := (List.mem_replicate.1 hz).2
  omega
theorem grt_bits : ∀ zs, Bits (grt zs)
  | [] => fun z hz => by cases hz
  | n :: zs => fun z hz => by
    simp only [grt, List.mem_cons, List.mem_append] at hz
    rcases hz with rfl | hz | hz
    · omega
    · exact ones_bits n z hz
    · exact grt_bits zs z hz
theorem grb_bits (zs : List Int) : Bits (grb zs) := by
  cases zs with
  | nil => exact fun z hz => by cases hz
  | cons n zs =>
    intro z hz
    simp only [grb, List.mem_append] at hz
    rcases hz with hz | hz
    · exact ones_bits n z hz
    · exact grt_bits zs z hz
theorem pre_len (s h m : Int) : (pre s h m).length = if s = 2 then 8 else 10 := by
  unfold pre
  split <;> simp [bi_len]
theorem pre_bits (s h m : Int) : Bits (pre s h m) := by
  intro z hz
  unfold pre at hz
  simp only [List.mem_append] at hz
  split at hz
  · rcases hz with ((hz | hz) | hz) | hz <;> exact bi_bits _ _ z hz
  · rcases hz with ((hz | hz) | hz) | hz <;> exact bi_bits _ _ z hz
/-- What check says, when all is well. -/
theorem chk_parts {r s h m : Int} {zs : List Int} (hc : chk r s h m zs = 0) : 0 ≤ r ∧ r ≤ 11 ∧ s ≤ 3 ∧ h ≤ 1 ∧ 0 ≤ m ∧ m ≤ mny r (s == 2) ∧ grp zs (win s) = true := by
  unfold chk at hc
  by_cases c : r < 0 ∨ 11 < r
  · rw [if_pos c] at hc; omega
  rw [if_neg c] at hc
  by_cases d : 3 < s ∨ 1 < h ∨ m < 0 ∨ mny r (s == 2) < m ∨ grp zs (win s) = false
  · rw [if_pos d] at hc; omega
  · refine ⟨by omega, by omega, ?_, ?_, ?_, ?_, ?_⟩
    · exact Int.not_lt.1 fun h => d (.inl h)
    · exact Int.not_lt.1 fun h => d (.inr (.inl h))
    · exact Int.not_lt.1 fun h => d (.inr (.inr (.inl h)))
    · exact Int.not_lt.1 fun h => d (.inr (.inr (.inr (.inl h))))
    · cases hg : grp zs (win s)
      · exact absurd (.inr (.inr (.inr (.inr hg)))) d
      · rfl
theorem mny_n : ∀ (b : Bool) (n : Nat), n < 12 → mny n b ≤ if b then 15 else 63 := by decide +kernel
theorem mny_bits {r : Int} (b : Bool) (r0 : 0 ≤ r) (r1 : r ≤ 11) : mny r b ≤ if b then 15 else 63 := by
  have := mny_n b r.toNat (by omega)
  rwa [show ((r.toNat : Nat) : Int) = r by omega] at this
end Go.Proofs.Ytchefgnefcabnaa.In

/- What info's Put answers to no bits. -/
namespace Go.Proofs.Ytchefgnefcabnaa.In
open Go Go.ChangeShapes Go.WideShapes Go.ChangeAt Go.RowKit Go.Shelf Go.Proofs.Ytchefgnefcabnaa.Bi Go.Proofs.Ytchefgnefcabnaa.If
open Go.Proofs.Ytchefgnefcabnaa.Cr (Own Bits)
open Go.Proofs.Ytchefgnefcabnaa.If (belowT)

set_option maxRecDepth 100000 in
theorem clone_nil (w : World) : Calls Try.prog 22 #[.slice none 0 0] w fun e w' => e = .returned (.slice none 0 0) ∧ w = w' := by
  have hq := run_eql_nil_slice (P := Try.prog) w 25 5 none 0 0 0 0 Try.underlying25
  go_enter Try.func22, Try.ntmps22
  go_wp2
  go_ret
  exact ⟨rfl, rfl⟩
set_option maxRecDepth 100000 in
/-- What Put hands back: its bits, fresh. -/
theorem put_err (r s h m : Int) (a : Option Addr) (cap : Nat) (zs : List Int) (w : World) (hl : zs.length ≤ 100000) (hr : RdA w a zs) (hc : chk r s h m zs ≠ 0) :
    Calls Try.prog 8 #[.slice none 0 0, .int .i64 r, .agg #[.int .u8 s, .int .u8 h, .int .i64 m, .slice a zs.length cap]] w fun e w' => e = .returned (.tuple #[.slice none 0 0, .int .i64 (chk r s h m zs)]) ∧ Below w.heap.size w w' := by
  have HB := Lib.hid (box_below w (.cells #[.int .u8 s, .int .u8 h, .int .i64 m, .slice a zs.length cap] 24))
  have HC := Lib.hid (fun w1 (k : Below w.heap.size w w1) => check_ok r s h m a cap zs w1 hl (hr.below k))
  clear hr
  generalize chk r s h m zs = C at *
  go_enter Try.func8, Try.ntmps8
  go_wp2_with (go_at_call 11; ((with_reducible refine (HC.out _ HB.out).mono ?_); rintro e w1 ⟨rfl, hb⟩; have hb1 := belowT HB.out hb))
  go_ret2
  exact ⟨rfl, hb1⟩
set_option maxRecDepth 100000 in
set_option maxHeartbeats 2000000 in
theorem put_long (r s h m : Int) (a : Option Addr) (cap : Nat) (zs : List Int) (w : World) (hl : zs.length ≤ 100000) (hr : RdA w a zs) (hc : chk r s h m zs = 0) (s0 : 0 ≤ s) (h0 : 0 ≤ h) (hs : ¬ s = 2) :
    Calls Try.prog 8 #[.slice none 0 0, .int .i64 r, .agg #[.int .u8 s, .int .u8 h, .int .i64 m, .slice a zs.length cap]] w fun e w' => ∃ v, e = .returned (.tuple #[v, .int .i64 0]) ∧ Src8 w' v (putL s h m zs) ∧ Below w.heap.size w w' := by
  have HB := Lib.hid (box_below w (.cells #[.int .u8 s, .int .u8 h, .int .i64 m, .slice a zs.length cap] 24))
  have HC := Lib.hid (fun w1 (k : Below w.heap.size w w1) => check_ok r s h m a cap zs w1 hl (hr.below k))
  rw [hc] at HC
  obtain ⟨r0, r1, s3, h1, m0, m1, hg⟩ := chk_parts hc
  have hmb := mny_bits (s == 2) r0 r1
  have HR := Lib.hid hr
  clear hr hc
  have hs2 : (s == 2) = false := by simpa using hs
  rw [hs2] at m1 hmb
  have m2 : m ≤ 63 := by simp at hmb; omega
  have hne : (s != 2) = true := by simp [hs]
  clear m1 hmb HR
  go_enter Try.func8, Try.ntmps8
  go_wp2_with (first
    | (go_at_call 11; ((with_reducible refine (HC.out _ HB.out).mono ?_); rintro e w1 ⟨rfl, hb⟩; have HB1 := Lib.hid hb; have hsz := hb.size; have hbw := belowT HB.out hb; have hsz1 := hbw.size; obtain ⟨z0, z1, z2, z3⟩ := boxed w s h m (.slice a zs.length cap) w1 hb; clear hb))
    | (go_at_call 22; ((with_reducible refine (clone_nil _).mono ?_); rintro e w2 ⟨rfl, rfl⟩; have HP0 : Hid (PS w1 w1.heap.size (w1.alloc (.cells #[.slice none 0 0] 25)) []) := Lib.hid ⟨_, Boxed.new w1 25 _, .inl ⟨rfl, rfl⟩, (Below.refl _ w1).alloc (Nat.le_refl _) _⟩; have HF : Hid (∀ x, Below w1.heap.size w1 x → x.cell? ⟨w.heap.size, 0, none⟩ = some (.int .u8 s) ∧ x.cell? ⟨w.heap.size, 1, none⟩ = some (.int .u8 h) ∧ x.cell? ⟨w.heap.size, 2, none⟩ = some (.int .i64 m) ∧ x.cell? ⟨w.heap.size, 3, none⟩ = some (.slice a zs.length cap)) := Lib.hid (fun x hx => boxed w s h m (.slice a zs.length cap) x (HB1.out.trans (hx.mono hsz)))))
    | (go_at_call 23; ((with_reducible refine (pc_ok HP0.out 0 1 (by first | rfl | decide | omega) (by first | (simp [bi_len]; done) | (simp [bi_len]; omega)) (by omega) (by first | decide | omega) (by first | decide | omega)).mono ?_); rintro e x1 ⟨⟨v1, rfl⟩, hp1⟩; have hq1 := hp1.bel; obtain ⟨a1, b1, c1, d1⟩ := HF.out x1 hq1; have HP1 := Lib.hid hp1; clear hp1 hq1))
    | (go_at_call 23; ((with_reducible refine (pc_ok HP1.out s 2 (by first | rfl | decide | omega) (by first | (simp [bi_len]; done) | (simp [bi_len]; omega)) (by omega) (by first | decide | omega) (by first | decide | omega)).mono ?_); rintro e x2 ⟨⟨v2, rfl⟩, hp2⟩; have hq2 := hp2.bel; obtain ⟨a2, b2, c2, d2⟩ := HF.out x2 hq2; have HP2 := Lib.hid hp2; clear hp2 hq2))
    | (go_at_call 23; ((with_reducible refine (pc_ok HP2.out h 1 (by first | rfl | decide | omega) (by first | (simp [bi_len]; done) | (simp [bi_len]; omega)) (by omega) (by first | decide | omega) (by first | decide | omega)).mono ?_); rintro e x3 ⟨⟨v3, rfl⟩, hp3⟩; have hq3 := hp3.bel; obtain ⟨a3, b3, c3, d3⟩ := HF.out x3 hq3; have HP3 := Lib.hid hp3; clear hp3 hq3))
    | (go_at_call 23; ((with_reducible refine (pc_ok HP3.out m 6 (by first | rfl | decide | omega) (by first | (simp [bi_len]; done) | (simp [bi_len]; omega)) (by omega) (by first | decide | omega) (by first | decide | omega)).mono ?_); rintro e x4 ⟨⟨v4, rfl⟩, hp4⟩; have hq4 := hp4.bel; obtain ⟨a4, b4, c4, d4⟩ := HF.out x4 hq4; have HP4 := Lib.hid hp4; clear hp4 hq4))
    | (go_at_call 23; ((with_reducible refine (pc_ok HP4.out 0 1 (by first | rfl | decide | omega) (by first | (simp [bi_len]; done) | (simp [bi_len]; omega)) (by omega) (by first | decide | omega) (by first | decide | omega)).mono ?_); rintro e x5 ⟨⟨v5, rfl⟩, hp5⟩; have hq5 := hp5.bel; obtain ⟨a5, b5, c5, d5⟩ := HF.out x5 hq5; obtain ⟨V, bV, sV, eV⟩ := hp5; have cV := bV.cell; clear hq5)))
  go_ret2
  refine ⟨_, rfl, ?_, hbw.trans (eV.mono hsz1)⟩
  have e : [] ++ bi 0 1 ++ bi s 2 ++ bi h 1 ++ bi m 6 ++ bi 0 1 = putL s h m zs := by
    unfold putL pre
    rw [if_neg hs, if_neg hs]
    simp [bi]
  rw [e] at sV
  exact sV
set_option maxRecDepth 100000 in
set_option maxHeartbeats 2000000 in
theorem put_short (r s h m : Int) (a : Option Addr) (cap : Nat) (zs : List Int) (w : World) (hl : zs.length ≤ 100000) (hr : RdA w a zs) (hc : chk r s h m zs = 0) (s0 : 0 ≤ s) (h0 : 0 ≤ h) (hs : s = 2) :
    Calls Try.prog 8 #[.slice none 0 0, .int .i64 r, .agg #[.int .u8 s, .int .u8 h, .int .i64 m, .slice a zs.length cap]] w fun e w' => ∃ v, e = .returned (.tuple #[v, .int .i64 0]) ∧ Src8 w' v (putL s h m zs) ∧ Below w.heap.size w w' := by
  have HB := Lib.hid (box_below w (.cells #[.int .u8 s, .int .u8 h, .int .i64 m, .slice a zs.length cap] 24))
  have HC := Lib.hid (fun w1 (k : Below w.heap.size w w1) => check_ok r s h m a cap zs w1 hl (hr.below k))
  rw [hc] at HC
  obtain ⟨r0, r1, s3, h1, m0, m1, hg⟩ := chk_parts hc
  have hmb := mny_bits (s == 2) r0 r1
  have HR := Lib.hid hr
  clear hr hc
  obtain rfl := hs
  rw [show ((2 : Int) == 2) = true from rfl] at m1 hmb
  have m2 : m ≤ 15 := by simp at hmb; omega
  rw [show win 2 = 8 from rfl] at hg
  have HG : Hid (grp (zs.drop 0) 8 = true) := Lib.hid hg
  have HPO := Lib.hid (grp_pos hg)
  clear m1 hmb hg
  go_enter Try.func8, Try.ntmps8
  go_wp2_with (first
    | (go_at_call 11; ((with_reducible refine (HC.out _ HB.out).mono ?_); rintro e w1 ⟨rfl, hb⟩; have HB1 := Lib.hid hb; have hsz := hb.size; have hbw := belowT HB.out hb; have hsz1 := hbw.size; obtain ⟨z0, z1, z2, z3⟩ := boxed w 2 h m (.slice a zs.length cap) w1 hb; clear hb))
    | (go_at_call 22; ((with_reducible refine (clone_nil _).mono ?_); rintro e w2 ⟨rfl, rfl⟩; have HP0 : Hid (PS w1 w1.heap.size (w1.alloc (.cells #[.slice none 0 0] 25)) []) := Lib.hid ⟨_, Boxed.new w1 25 _, .inl ⟨rfl, rfl⟩, (Below.refl _ w1).alloc (Nat.le_refl _) _⟩; have HF : Hid (∀ x, Below w1.heap.size w1 x → x.cell? ⟨w.heap.size, 0, none⟩ = some (.int .u8 2) ∧ x.cell? ⟨w.heap.size, 1, none⟩ = some (.int .u8 h) ∧ x.cell? ⟨w.heap.size, 2, none⟩ = some (.int .i64 m) ∧ x.cell? ⟨w.heap.size, 3, none⟩ = some (.slice a zs.length cap)) := Lib.hid (fun x hx => boxed w 2 h m (.slice a zs.length cap) x (HB1.out.trans (hx.mono hsz)))))
    | (go_at_call 23; ((with_reducible refine (pc_ok HP0.out 0 1 (by first | rfl | decide | omega) (by first | (simp [bi_len]; done) | (simp [bi_len]; omega)) (by omega) (by first | decide | omega) (by first | decide | omega)).mono ?_); rintro e x1 ⟨⟨v1, rfl⟩, hp1⟩; have hq1 := hp1.bel; obtain ⟨a1, b1, c1, d1⟩ := HF.out x1 hq1; have HP1 := Lib.hid hp1; clear hp1 hq1))
    | (go_at_call 23; ((with_reducible refine (pc_ok HP1.out 2 2 (by first | rfl | decide | omega) (by first | (simp [bi_len]; done) | (simp [bi_len]; omega)) (by omega) (by first | decide | omega) (by first | decide | omega)).mono ?_); rintro e x2 ⟨⟨v2, rfl⟩, hp2⟩; have hq2 := hp2.bel; obtain ⟨a2, b2, c2, d2⟩ := HF.out x2 hq2; have HP2 := Lib.hid hp2; clear hp2 hq2))
    | (go_at_call 23; ((with_reducible refine (pc_ok HP2.out h 1 (by first | rfl | decide | omega) (by first | (simp [bi_len]; done) | (simp [bi_len]; omega)) (by omega) (by first | decide | omega) (by first | decide | omega)).mono ?_); rintro e x3 ⟨⟨v3, rfl⟩, hp3⟩; have hq3 := hp3.bel; obtain ⟨a3, b3, c3, d3⟩ := HF.out x3 hq3; have HP3 := Lib.hid hp3; clear hp3 hq3))
    | (go_at_call 23; ((with_reducible refine (pc_ok HP3.out m 4 (by first | rfl | decide | omega) (by first | (simp [bi_len]; done) | (simp [bi_len]; omega)) (by omega) (by first | decide | omega) (by first | decide | omega)).mono ?_); rintro e x4 ⟨⟨v4, rfl⟩, hp4⟩; have hq4 := hp4.bel; obtain ⟨a4, b4, c4, d4⟩ := HF.out x4 hq4; have HP4 := Lib.hid hp4; clear hp4 hq4)))
  have e0 : [] ++ bi 0 1 ++ bi 2 2 ++ bi h 1 ++ bi m 4 = pre 2 h m ++ grb (zs.take 0) := by simp [pre, grb]
  rw [e0] at HP4
  clear e0 HP0 HP1 HP2 HP3 HC
  go_loopw [51] (fun i wr => ∃ (k : Nat) (l : Int), i = .int .i64 k ∧ k ≤ zs.length ∧ Hid (PS w1 w1.heap.size wr (pre 2 h m ++ grb (zs.take k))) ∧ Hid (grp (zs.drop k) l = true) ∧ Hid (((grb (zs.take k)).length : Int) + l ≤ 8)) (fun i _ => zs.length - (intOf i).toNat)
  case atStart => exact ⟨0, 8, rfl, Nat.zero_le _, HP4, HG, Lib.hid (by simp [grb])⟩
  case round =>
    obtain ⟨k, l, rfl, hk, hP, hgr, hle⟩ := hrel
    obtain ⟨f1, f2, f3, f4⟩ := HF.out _ hP.out.bel
    by_cases hlt : k < zs.length
    · have hga := hgr.out
      rw [grp_at hlt] at hga
      have hn3 : ¬ (zs.getD k 0 < 1 ∨ l < zs.getD k 0) := fun c => by rw [if_pos c] at hga; cases hga
      rw [if_neg hn3] at hga
      have hfi := Lib.hid (grb_first (zs := zs))
      have hnx := Lib.hid (fun (q : 0 < k) => grb_next q hlt)
      obtain ⟨b, off, ea, hlb, c⟩ := (HR.out.below (hbw.trans (hP.out.bel.mono hsz1))) k hlt
      subst ea
      obtain ⟨n, hn⟩ : ∃ n, zs.getD k 0 = n := ⟨_, rfl⟩
      rw [hn] at hga hn3 hnx c
      obtain ⟨n1, n2⟩ : 1 ≤ n ∧ n ≤ l := by omega
      have n3 := hga
      have HNN := Lib.hid hn
      have l8 : l ≤ 8 := by have := hle.out; omega
      clear hgr hga hn3 hn
      generalize wr = wo at *
      by_cases hk0 : k = 0
      · have hk1 : ¬ (0 : Int) < (k : Int) := by omega
        have HN : Hid (grb (zs.take (k + 1)) = grb (zs.take k) ++ ones n) := Lib.hid (by
          have q := HNN.out
          rw [hk0] at q hlt ⊢
          rw [hfi.out hlt, q]
          simp [grb])
        clear hnx hfi hk0
        go_wp2
        go_loopw [62] (fun i wr => ∃ j : Nat, i = .int .i64 j ∧ (j : Int) ≤ n - 1 ∧ Hid (PS w1 w1.heap.size wr ((pre 2 h m ++ grb (zs.take k)) ++ List.replicate j 1))) (fun i _ => (n - 1 - intOf i).toNat)
        case atStart => exact ⟨0, rfl, by omega, Lib.hid (by have q := hP.out; simpa [bi_one] using q)⟩
        case round =>
          obtain ⟨j, rfl, hj, hJ⟩ := hrel
          by_cases hjl : (j : Int) < n - 1
          · have HL : Hid (((pre 2 h m ++ grb (zs.take k)) ++ List.replicate j 1).length ≤ 100000) := Lib.hid (by have q1 := hle.out; simp [pre_len]; omega)
            go_wp2_with (go_at_call 23; ((with_reducible refine (pc_ok hJ.out 1 1 (by first | rfl | decide | omega) (by first | exact HL.out | (have := HL.out; simp; omega)) (by omega) (by decide) (by decide)).mono ?_); rintro e y2 ⟨⟨vy, rfl⟩, hp1⟩; have hq1 := hp1.bel; obtain ⟨e1, e2, e3, e4⟩ := HF.out y2 hq1; have HZ := Lib.hid hp1; clear hp1 hq1))
            go_roundw
            case rel => exact ⟨j + 1, by go_num, by omega, Lib.hid (by have q := HZ.out; rw [bi_one 1 (by decide) (by decide)] at q; rw [List.replicate_succ', ← List.append_assoc]; exact q)⟩
            case measure => simp [intOf]; omega
          · have hje : (j : Int) = n - 1 := by omega
            have hjn : j = (n - 1).toNat := by omega
            go_wp2
            go_roundw
            case rel =>
              refine ⟨k + 1, l - n, by go_num, by omega, Lib.hid ?_, Lib.hid n3, Lib.hid ?_⟩
              · have q := hJ.out
                rw [hjn] at q
                rw [HN.out]
                first | exact q | (simpa [ones, grb] using q)
              · rw [HN.out]; have q := hle.out; simp [ones] at q ⊢; omega
            case measure => simp [intOf]; omega
      · have hk1 : (0 : Int) < k := by omega
        have HN : Hid (grb (zs.take (k + 1)) = grb (zs.take k) ++ [0] ++ ones n) := Lib.hid (by rw [hnx.out (by omega)])
        have HL : Hid ((pre 2 h m ++ grb (zs.take k)).length ≤ 100000) := Lib.hid (by have q1 := hle.out; simp [pre_len]; omega)
        clear hnx hfi
        go_wp2_with (go_at_call 23; ((with_reducible refine (pc_ok hP.out 0 1 (by first | rfl | decide | omega) (by first | exact HL.out | (have := HL.out; simp; omega)) (by omega) (by decide) (by decide)).mono ?_); rintro e y1 ⟨⟨vy, rfl⟩, hp1⟩; have hq1 := hp1.bel; obtain ⟨e1, e2, e3, e4⟩ := HF.out y1 hq1; have HY := Lib.hid hp1; clear hp1 hq1))
        generalize y1 = yo at *
        go_loopw [62] (fun i wr => ∃ j : Nat, i = .int .i64 j ∧ (j : Int) ≤ n - 1 ∧ Hid (PS w1 w1.heap.size wr ((pre 2 h m ++ grb (zs.take k) ++ [0]) ++ List.replicate j 1))) (fun i _ => (n - 1 - intOf i).toNat)
        case atStart => exact ⟨0, rfl, by omega, Lib.hid (by have q := HY.out; simpa [bi_one] using q)⟩
        case round =>
          obtain ⟨j, rfl, hj, hJ⟩ := hrel
          by_cases hjl : (j : Int) < n - 1
          · have HL : Hid (((pre 2 h m ++ grb (zs.take k) ++ [0]) ++ List.replicate j 1).length ≤ 100000) := Lib.hid (by have q1 := hle.out; simp [pre_len]; omega)
            go_wp2_with (go_at_call 23; ((with_reducible refine (pc_ok hJ.out 1 1 (by first | rfl | decide | omega) (by first | exact HL.out | (have := HL.out; simp; omega)) (by omega) (by decide) (by decide)).mono ?_); rintro e y2 ⟨⟨vy, rfl⟩, hp1⟩; have hq1 := hp1.bel; obtain ⟨e1, e2, e3, e4⟩ := HF.out y2 hq1; have HZ := Lib.hid hp1; clear hp1 hq1))
            go_roundw
            case rel => exact ⟨j + 1, by go_num, by omega, Lib.hid (by have q := HZ.out; rw [bi_one 1 (by decide) (by decide)] at q; rw [List.replicate_succ', ← List.append_assoc]; exact q)⟩
            case measure => simp [intOf]; omega
          · have hje : (j : Int) = n - 1 := by omega
            have hjn : j = (n - 1).toNat := by omega
            go_wp2
            go_roundw
            case rel =>
              refine ⟨k + 1, l - n, by go_num, by omega, Lib.hid ?_, Lib.hid n3, Lib.hid ?_⟩
              · have q := hJ.out
                rw [hjn] at q
                rw [HN.out]
                first | exact q | (simpa [ones, grb] using q)
              · rw [HN.out]; have q := hle.out; simp [ones] at q ⊢; omega
            case measure => simp [intOf]; omega
    · obtain rfl : k = zs.length := by omega
      obtain ⟨V, bV, sV, eV⟩ := hP.out
      have cV := bV.cell
      have hend : ¬ ((zs.length : Nat) : Int) < (zs.length : Int) := by omega
      go_wp2
      go_ret2
      refine ⟨_, rfl, ?_, hbw.trans (eV.mono hsz1)⟩
      rw [List.take_length] at sV
      unfold putL
      rw [if_pos rfl]
      exact sV
end Go.Proofs.Ytchefgnefcabnaa.In
