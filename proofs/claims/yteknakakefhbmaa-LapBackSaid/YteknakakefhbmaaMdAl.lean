/- Errors of the transform, lists of noughts, and that it is alive. -/
import Derived.Test.YteknakakefhbmaaMdGo
import Derived.WalkKit
import Derived.Below
import Derived.RegionTactic
import Derived.Deep.QuietTactic
import Derived.BigQuiet
import Derived.ChangeAlike
import Derived.Deep.OwnRows
import Derived.ProofKit
import Derived.OpenShut
import Derived.ChangeSlices
import Derived.Great.Walk
import Derived.ChangeKeysEq
import Derived.Lib.Hide
namespace Go.Proofs.Yteknakakefhbmaa.Md
open Go Go.ChangeShapes Go.WideShapes Go.ChangeAt Go.RowKit Go.Proofs.Yteknakakefhbmaa.Fx Go.Proofs.Yteknakakefhbmaa.Mm

def IsRow (k : IntKind) (w : World) (a : Option Addr) (len cap : Nat) (zs : List Int) : Prop :=
  (a = none ∧ len = 0 ∧ cap = 0 ∧ zs = []) ∨
  ∃ x, a = some x ∧ len ≤ cap ∧ cap ≤ maxLen ∧ zs.length = cap ∧ (∀ i, i < zs.length → w.cell? (x.add i) = some (.int k (zs.getD i 0))) ∧ ∀ n ∈ zs, (Lit.int k n).wf = true
theorem lt_of_cell {w : World} {p : Addr} {v : Value} (h : w.cell? p = some v) : p.block < w.heap.size := by
  refine Nat.not_le.1 fun hle => ?_
  have : w.heap[p.block]? = none := by simp; omega
  simp [World.cell?, this] at h
/-- Cells of a kind, at an address. -/
def RdK (k : IntKind) (w : World) (A : Option Addr) (zs : List Int) : Prop := ∀ i, i < zs.length → ∃ b off, A = some ⟨b, off, none⟩ ∧ b < w.heap.size ∧ w.cell? ⟨b, off + i, none⟩ = some (.int k (zs.getD i 0))
theorem RdK.below {k : IntKind} {w w' : World} {A : Option Addr} {zs : List Int} (h : RdK k w A zs) (hb : Below w.heap.size w w') : RdK k w' A zs := fun i hi => by
  obtain ⟨b, off, e, h1, h2⟩ := h i hi
  exact ⟨b, off, e, Nat.lt_of_lt_of_le h1 hb.size, (hb.cell (p := ⟨b, off + i, none⟩) h1).trans h2⟩
theorem IsRow.open {k : IntKind} {w : World} {a : Option Addr} {len cap : Nat} {zs : List Int} (h : IsRow k w a len cap zs) : ∃ xs : List Int, xs.length = len ∧ RdK k w a xs ∧ len ≤ maxLen ∧ ∀ n ∈ xs, (Lit.int k n).wf = true := by
  rcases h with ⟨rfl, rfl, rfl, rfl⟩ | ⟨x, rfl, hl, hm, hz, hc, hwf⟩
  · exact ⟨[], rfl, fun i hi => absurd hi (by simp), by unfold maxLen; omega, fun n h => by cases h⟩
  · have hlen : (zs.take len).length = len := by simp; omega
    refine ⟨zs.take len, hlen, fun i hi => ?_, by omega, fun n h => hwf n (List.mem_of_mem_take h)⟩
    rw [hlen] at hi
    obtain ⟨b, off, rfl, hc'⟩ := ints_at hc (by omega)
    have q := hc' i (by omega)
    exact ⟨b, off, rfl, lt_of_cell q, by rw [q]; simp [hi]⟩
theorem rdA_row {w : World} {g n : Nat} {f : Nat → Int} {zs : List Int} (r : w.rowIs g 3 n (fun j => .int .i64 (f j))) (hl : zs.length = n) (hf : ∀ j, j < n → f j = zs.getD j 0) : RdA w (some ⟨g, 0, none⟩) zs := fun i hi =>
  ⟨g, 0, rfl, r.lt, by rw [Nat.zero_add, r.cell (by omega), hf i (by omega)]⟩
/-- A list by its numbers. -/
def lst (f : Nat → Int) (n : Nat) : List Int := (List.range n).map f
theorem lst_len (f : Nat → Int) (n : Nat) : (lst f n).length = n := by simp [lst]
theorem lst_at (f : Nat → Int) {n j : Nat} (h : j < n) : (lst f n).getD j 0 = f j := by simp [lst, h]
theorem lst_out (f : Nat → Int) {n j : Nat} (h : n ≤ j) : (lst f n).getD j 0 = 0 := by
  simp [lst]
  have : (List.range n)[j]? = none := by simp; omega
  rw [this]; rfl
theorem rd_lst {w : World} {g n : Nat} {f : Nat → Int} (r : w.rowIs g 3 n (fun j => .int .i64 (f j))) : RdA w (some ⟨g, 0, none⟩) (lst f n) := rdA_row r (lst_len f n) fun j h => (lst_at f h).symm

theorem fwd_ok (A : Option Addr) (cap : Nat) (zs : List Int) (len N : Nat) (M s : Int) (w : World) (hl : zs.length = len) (hk : (len = 512 ∧ N = 256 ∧ M = 256 ∧ s = 1) ∨ (len = 64 ∧ N = 32 ∧ M = 32 ∧ s = 8)) (h : RdA w A zs) (hM : InM 8388608 zs) :
    Calls Try.prog 37 #[.slice A len cap] w fun e w' => ∃ g, e = .returned (.tuple #[.slice (some ⟨g, 0, none⟩) N N, .int .i64 0]) ∧ w.heap.size ≤ g ∧ w'.rowIs g 3 N (fun j => .int .i64 (fw zs M s j)) ∧ Below w.heap.size w w' := by
  rcases hk with ⟨rfl, rfl, rfl, rfl⟩ | ⟨rfl, rfl, rfl, rfl⟩
  · exact fwd256 A cap zs w hl h hM
  · exact fwd32 A cap zs w hl h hM
theorem inv_ok (A : Option Addr) (cap : Nat) (zs : List Int) (len N : Nat) (M s b : Int) (w : World) (hl : zs.length = len) (hk : (len = 256 ∧ N = 512 ∧ M = 256 ∧ s = 1 ∧ b = 26) ∨ (len = 32 ∧ N = 64 ∧ M = 32 ∧ s = 8 ∧ b = 23)) (h : RdA w A zs) (hM : InM 268435455 zs) :
    Calls Try.prog 35 #[.slice A len cap] w fun e w' => ∃ g, e = .returned (.tuple #[.slice (some ⟨g, 0, none⟩) N N, .int .i64 0]) ∧ w.heap.size ≤ g ∧ w'.rowIs g 3 N (fun j => .int .i64 (bk zs M s b j)) ∧ Below w.heap.size w w' := by
  rcases hk with ⟨rfl, rfl, rfl, rfl, rfl⟩ | ⟨rfl, rfl, rfl, rfl, rfl⟩
  · exact inv256 A cap zs w hl h hM
  · exact inv32 A cap zs w hl h hM
theorem fwd_many (A : Option Addr) (cap len : Nat) (w : World) (h1 : len ≠ 512) (h2 : len ≠ 64) : Calls Try.prog 37 #[.slice A len cap] w fun e w' => e = .returned (.tuple #[.slice none 0 0, .int .i64 4]) ∧ w = w' := by
  have c1 : ((len : Int) != 512) = true := by simp; omega
  have c2 : ((len : Int) != 64) = true := by simp; omega
  go_enter Try.func37, Try.ntmps37
  go_wp2
  go_ret2
  exact ⟨rfl, rfl⟩
theorem fwd_arg512 (A : Option Addr) (cap : Nat) (zs : List Int) (w : World) (hl : zs.length = 512) (h : RdA w A zs) (hM : ¬ InM 8388608 zs) : Calls Try.prog 37 #[.slice A 512 cap] w fun e w' => e = .returned (.tuple #[.slice none 0 0, .int .i64 2]) ∧ w = w' := by
  have HW := Lib.hid (hl ▸ within_no A cap zs 8388608 w (by omega) h hM (by decide) (by decide))
  clear h hM hl
  go_enter Try.func37, Try.ntmps37
  go_wp2_with (go_at_call 49; ((with_reducible refine (HW.out).mono ?_); rintro e w1 ⟨rfl, rfl⟩))
  go_ret2
  exact ⟨rfl, rfl⟩
theorem fwd_arg64 (A : Option Addr) (cap : Nat) (zs : List Int) (w : World) (hl : zs.length = 64) (h : RdA w A zs) (hM : ¬ InM 8388608 zs) : Calls Try.prog 37 #[.slice A 64 cap] w fun e w' => e = .returned (.tuple #[.slice none 0 0, .int .i64 2]) ∧ w = w' := by
  have HW := Lib.hid (hl ▸ within_no A cap zs 8388608 w (by omega) h hM (by decide) (by decide))
  clear h hM hl
  go_enter Try.func37, Try.ntmps37
  go_wp2_with (go_at_call 49; ((with_reducible refine (HW.out).mono ?_); rintro e w1 ⟨rfl, rfl⟩))
  go_ret2
  exact ⟨rfl, rfl⟩
theorem fwd_bad (A : Option Addr) (cap : Nat) (zs : List Int) (len : Nat) (w : World) (hl : zs.length = len) (h : RdA w A zs) (hb : ¬ ((len = 512 ∨ len = 64) ∧ InM 8388608 zs)) :
    Calls Try.prog 37 #[.slice A len cap] w fun e w' => ∃ c : Int, (c == 0) = false ∧ e = .returned (.tuple #[.slice none 0 0, .int .i64 c]) ∧ w = w' := by
  by_cases h1 : len = 512
  · subst h1
    exact (fwd_arg512 A cap zs w hl h (fun k => hb ⟨.inl rfl, k⟩)).mono fun e w' q => ⟨2, rfl, q.1, q.2⟩
  by_cases h2 : len = 64
  · subst h2
    exact (fwd_arg64 A cap zs w hl h (fun k => hb ⟨.inr rfl, k⟩)).mono fun e w' q => ⟨2, rfl, q.1, q.2⟩
  exact (fwd_many A cap len w h1 h2).mono fun e w' q => ⟨4, rfl, q.1, q.2⟩
theorem inv_many (A : Option Addr) (cap len : Nat) (w : World) (h1 : len ≠ 256) (h2 : len ≠ 32) : Calls Try.prog 35 #[.slice A len cap] w fun e w' => e = .returned (.tuple #[.slice none 0 0, .int .i64 4]) ∧ w = w' := by
  have c1 : ((len : Int) != 256) = true := by simp; omega
  have c2 : ((len : Int) != 32) = true := by simp; omega
  go_enter Try.func35, Try.ntmps35
  go_wp2
  go_ret2
  exact ⟨rfl, rfl⟩
theorem inv_arg256 (A : Option Addr) (cap : Nat) (zs : List Int) (w : World) (hl : zs.length = 256) (h : RdA w A zs) (hM : ¬ InM 268435455 zs) : Calls Try.prog 35 #[.slice A 256 cap] w fun e w' => e = .returned (.tuple #[.slice none 0 0, .int .i64 2]) ∧ w = w' := by
  have HW := Lib.hid (hl ▸ within_no A cap zs 268435455 w (by omega) h hM (by decide) (by decide))
  clear h hM hl
  go_enter Try.func35, Try.ntmps35
  go_wp2_with (go_at_call 49; ((with_reducible refine (HW.out).mono ?_); rintro e w1 ⟨rfl, rfl⟩))
  go_ret2
  exact ⟨rfl, rfl⟩
theorem inv_arg32 (A : Option Addr) (cap : Nat) (zs : List Int) (w : World) (hl : zs.length = 32) (h : RdA w A zs) (hM : ¬ InM 268435455 zs) : Calls Try.prog 35 #[.slice A 32 cap] w fun e w' => e = .returned (.tuple #[.slice none 0 0, .int .i64 2]) ∧ w = w' := by
  have HW := Lib.hid (hl ▸ within_no A cap zs 268435455 w (by omega) h hM (by decide) (by decide))
  clear h hM hl
  go_enter Try.func35, Try.ntmps35
  go_wp2_with (go_at_call 49; ((with_reducible refine (HW.out).mono ?_); rintro e w1 ⟨rfl, rfl⟩))
  go_ret2
  exact ⟨rfl, rfl⟩
theorem inv_bad (A : Option Addr) (cap : Nat) (zs : List Int) (len : Nat) (w : World) (hl : zs.length = len) (h : RdA w A zs) (hb : ¬ ((len = 256 ∨ len = 32) ∧ InM 268435455 zs)) :
    Calls Try.prog 35 #[.slice A len cap] w fun e w' => ∃ c : Int, (c == 0) = false ∧ e = .returned (.tuple #[.slice none 0 0, .int .i64 c]) ∧ w = w' := by
  by_cases h1 : len = 256
  · subst h1
    exact (inv_arg256 A cap zs w hl h (fun k => hb ⟨.inl rfl, k⟩)).mono fun e w' q => ⟨2, rfl, q.1, q.2⟩
  by_cases h2 : len = 32
  · subst h2
    exact (inv_arg32 A cap zs w hl h (fun k => hb ⟨.inr rfl, k⟩)).mono fun e w' q => ⟨2, rfl, q.1, q.2⟩
  exact (inv_many A cap len w h1 h2).mono fun e w' q => ⟨4, rfl, q.1, q.2⟩
theorem noughts_yes (A : Option Addr) (cap : Nat) (zs : List Int) (len : Nat) (m : Int) (w : World) (hm : m = len) (hl : zs.length = len) (hs : len ≤ 1000) (h : RdA w A zs) (hz : ∀ j, j < len → zs.getD j 0 = 0) :
    Calls Try.prog 17 #[.slice A len cap, .int .i64 m] w fun e w' => e = .returned (.bool true) ∧ w = w' := by
  have HR := Lib.hid h
  have HZ := Lib.hid hz
  clear h hz
  subst hm
  go_enter Try.func17, Try.ntmps17
  go_wp2
  go_loop [5] (fun i => ∃ k : Nat, k ≤ len ∧ i = .int .i64 k) (fun i => len - (intOf i).toNat)
  case atStart => exact ⟨0, by omega, rfl⟩
  case round =>
    obtain ⟨k, hk, rfl⟩ := hrel
    by_cases hlt : k < len
    · obtain ⟨b, off, rfl, hlb, c⟩ := HR.out k (by omega)
      rw [HZ.out k hlt] at c
      go_wp2
      go_round
      case rel => exact ⟨k + 1, by omega, by go_num⟩
      case measure => simp [intOf]; omega
    · have hlt2 : ¬ (k : Int) < len := by omega
      go_wp2
      go_ret
      exact ⟨rfl, rfl⟩
theorem noughts_no (A : Option Addr) (cap : Nat) (zs : List Int) (len j : Nat) (m : Int) (w : World) (hl : zs.length = len) (hs : len ≤ 1000) (h : RdA w A zs) (hj : j < len) (hz : zs.getD j 0 ≠ 0) :
    Calls Try.prog 17 #[.slice A len cap, .int .i64 m] w fun e w' => e = .returned (.bool false) ∧ w = w' := by
  have HR := Lib.hid h
  have HZ := Lib.hid hz
  clear h hz
  go_enter Try.func17, Try.ntmps17
  go_wp2
  go_loop [5] (fun i => ∃ k : Nat, k ≤ j ∧ i = .int .i64 k) (fun i => len - (intOf i).toNat)
  case atStart => exact ⟨0, by omega, rfl⟩
  case round =>
    obtain ⟨k, hk, rfl⟩ := hrel
    have hlt : k < len := by omega
    obtain ⟨b, off, rfl, hlb, c⟩ := HR.out k (by omega)
    by_cases hc : zs.getD k 0 = 0
    · have hkj : k ≠ j := fun e => HZ.out (by rw [← e]; exact hc)
      rw [hc] at c
      clear hc
      go_wp2
      go_round
      case rel => exact ⟨k + 1, by omega, by go_num⟩
      case measure => simp [intOf]; omega
    · have hc2 : ((zs.getD k 0 : Int) == 0) = false := by simpa using hc
      clear hc
      generalize zs.getD k 0 = X at *
      go_wp2
      go_ret
      exact ⟨rfl, rfl⟩
theorem bne_of {c : Int} (h : (c == 0) = false) : (c != 0) = true := by simp [bne, h]
/-- One list of noughts but for one. -/
def z1 (_ : Nat) : Int := 0
def z2 (j : Nat) : Int := if j = 40 then 8388608 else 0
theorem fw_z1 : ∀ j, j < 32 → fw (lst z1 64) 32 8 j = 0 := by decide +kernel
theorem fw_z2 : fw (lst z2 64) 32 8 0 ≠ 0 := by decide +kernel
theorem fw_z2l : (lst (fw (lst z2 64) 32 8) 32).getD 0 0 ≠ 0 := by
  rw [lst_at _ (by decide)]
  exact fw_z2
theorem z2_set {w : World} {g : Nat} (r : w.rowIs g 3 64 (fun _ => .int .i64 0)) : RdA (w.setCell ⟨g, 40, none⟩ (.int .i64 8388608)) (some ⟨g, 0, none⟩) (lst z2 64) := rd_lst (f := z2) ((r.set 40 (.int .i64 8388608)).congr fun i _ => by
  unfold z2
  by_cases h : i = 40
  · rw [if_pos h, if_pos h]
  · rw [if_neg h, if_neg h])
theorem in_z1 : InM 8388608 (lst z1 64) := by
  intro j hj
  rw [lst_len] at hj
  rw [lst_at _ hj]
  unfold z1; omega
theorem in_z2 : InM 8388608 (lst z2 64) := by
  intro j hj
  rw [lst_len] at hj
  rw [lst_at _ hj]
  unfold z2; split <;> omega
end Go.Proofs.Yteknakakefhbmaa.Md
