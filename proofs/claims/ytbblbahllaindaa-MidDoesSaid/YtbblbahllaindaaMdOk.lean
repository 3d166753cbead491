/- What mid's Split and Join do. -/
import Derived.Test.YtbblbahllaindaaMdPair
import Derived.Test.YtbblbahllaindaaTab
import Derived.Test.YtbblbahllaindaaEvLaw
import Derived.WalkKit
import Derived.Laws.EntriesVeiled
import Derived.OwnWalk
import Derived.ProofKit
import Derived.OpenShut
import Derived.Lib.Hide
namespace Go.Proofs.Ytbblbahllaindaa.Md
open Go Go.ChangeShapes Go.WideShapes Go.ChangeAt Go.RowKit Go.Proofs.Ytbblbahllaindaa.Lo

/-- The answer: two new rows. -/
def Two (w : World) (n : Nat) (F G : Nat → Int) (e : Ending) (w' : World) : Prop :=
  ∃ gx gy, e = .returned (.tuple #[.slice (some ⟨gx, 0, none⟩) n n, .slice (some ⟨gy, 0, none⟩) n n, .int .i64 0]) ∧ (w.heap.size ≤ gx ∧ w.heap.size ≤ gy ∧ gx ≠ gy) ∧ w'.rowIs gx 3 n (fun j => .int .i64 (F j)) ∧ w'.rowIs gy 3 n (fun j => .int .i64 (G j)) ∧ Below w.heap.size w w'

def Fit (za zb : List Int) (n : Nat) : Prop := za.length = n ∧ zb.length = n ∧ n ≤ 256 ∧ InLine za ∧ InLine zb

theorem rd_shape {w : World} {v : Value} {z : List Int} (h : Rd w v z) (hz : z.length ≠ 0) : ∃ b off c, v = .slice (some ⟨b, off, none⟩) z.length c ∧ b < w.heap.size ∧ ∀ i, i < z.length → w.cell? ⟨b, off + i, none⟩ = some (.int .i64 (z.getD i 0)) := by
  rcases h with ⟨a, cap, rfl, rfl⟩ | ⟨b, off, cap, rfl, h1, _, _, h4⟩
  · exact absurd rfl hz
  · exact ⟨b, off, cap, rfl, h1, h4⟩
theorem rd_any {w : World} {v : Value} {z : List Int} (h : Rd w v z) : ∃ a c, v = .slice a z.length c := by
  rcases h with ⟨a, cap, rfl, rfl⟩ | ⟨b, off, cap, rfl, _⟩
  · exact ⟨_, _, rfl⟩
  · exact ⟨_, _, rfl⟩

theorem pairs_jo (v0 v1 : Value) (za zb : List Int) (n : Nat) (w : World) (hf : Fit za zb n) (ra : Rd w v0 za) (rb : Rd w v1 zb) :
    Calls Try.prog 13 #[v0, v1, .func (.func 18) #[] #[], .func (.func 19) #[] #[]] w (Two w n (fun j => kept (za.getD j 0 + zb.getD j 0)) (fun j => kept (za.getD j 0 - zb.getD j 0))) := by
  obtain ⟨la, lb, hn, ia, ib⟩ := hf
  by_cases h0 : n = 0
  · obtain ⟨a, c, rfl⟩ := rd_any ra
    obtain ⟨a', c', rfl⟩ := rd_any rb
    rw [la, lb, h0]
    exact pair_zero a a' c c' _ _ w _ _
  · have ra' := ra
    have rb' := rb
    obtain ⟨b, off, c, rfl, k0, c0⟩ := rd_shape ra (by omega)
    obtain ⟨b', off', c', rfl, k1, c1⟩ := rd_shape rb (by omega)
    rw [la] at ra' c0 ⊢
    rw [lb] at rb' c1 ⊢
    exact pair_jo b off c b' off' c' n za zb w hn la lb ia ib ra' rb' k0 k1 c0 c1
theorem pairs_sp (v0 v1 : Value) (za zb : List Int) (n p : Nat) (w : World) (hf : Fit za zb n) (ra : Rd w v0 za) (rb : Rd w v1 zb) (kp : p < w.heap.size) (hp : w.cell? ⟨p, 0, none⟩ = some (.func (.func 11) #[] #[])) :
    Calls Try.prog 13 #[v0, v1, .func (.func 14) #[] #[.pointer (some ⟨p, 0, none⟩)], .func (.func 15) #[] #[.pointer (some ⟨p, 0, none⟩)]] w (Two w n (fun j => kept (half (za.getD j 0 + zb.getD j 0))) (fun j => kept (half (za.getD j 0 - zb.getD j 0)))) := by
  obtain ⟨la, lb, hn, ia, ib⟩ := hf
  by_cases h0 : n = 0
  · obtain ⟨a, c, rfl⟩ := rd_any ra
    obtain ⟨a', c', rfl⟩ := rd_any rb
    rw [la, lb, h0]
    exact pair_zero a a' c c' _ _ w _ _
  · have ra' := ra
    have rb' := rb
    obtain ⟨b, off, c, rfl, k0, c0⟩ := rd_shape ra (by omega)
    obtain ⟨b', off', c', rfl, k1, c1⟩ := rd_shape rb (by omega)
    rw [la] at ra' c0 ⊢
    rw [lb] at rb' c1 ⊢
    exact pair_sp b off c b' off' c' n za zb p w hn la lb ia ib ra' rb' k0 k1 c0 c1 kp hp

/-- What is no pair of lists of lines. -/
theorem unfit {za zb : List Int} (h : ¬ ∃ n, Fit za zb n) : (za.length ≠ zb.length ∨ 256 < za.length) ∨ (za.length = zb.length ∧ za.length ≤ 256 ∧ (Bad za 0 ∨ (InLine za ∧ Bad zb 0))) := by
  by_cases h1 : za.length ≠ zb.length ∨ 256 < za.length
  · exact .inl h1
  · refine .inr ⟨by omega, by omega, ?_⟩
    by_cases ha : InLine za
    · by_cases hb : InLine zb
      · exact absurd ⟨za.length, rfl, by omega, by omega, ha, hb⟩ h
      · exact .inr ⟨ha, bad_of hb⟩
    · exact .inl (bad_of ha)
theorem pairs_bad (v0 v1 : Value) (za zb : List Int) (m0 : za.length ≤ 1000) (m1 : zb.length ≤ 1000) (h : ¬ ∃ n, Fit za zb n) : ∃ r : Int, (r = 2 ∨ r = 4) ∧ ∀ (f g : Value) (w : World), Rd w v0 za → Rd w v1 zb → Calls Try.prog 13 #[v0, v1, f, g] w fun e w' => e = .returned (.tuple #[.slice none 0 0, .slice none 0 0, .int .i64 r]) ∧ w = w' := by
  rcases unfit h with h | ⟨h1, h2, h3⟩
  · refine ⟨4, .inr rfl, fun f g w ra rb => ?_⟩
    obtain ⟨a, c, rfl⟩ := rd_any ra
    obtain ⟨a', c', rfl⟩ := rd_any rb
    exact pair_many a a' _ _ c c' f g w m0 m1 h
  · refine ⟨2, .inl rfl, fun f g w ra rb => ?_⟩
    have ra' := ra
    have rb' := rb
    obtain ⟨a, c, rfl⟩ := rd_any ra
    obtain ⟨a', c', rfl⟩ := rd_any rb
    rw [← h1] at rb' ⊢
    exact pair_arg a a' _ c c' za zb f g w h2 ra' rb' h3

theorem join_ok (v0 v1 : Value) (za zb : List Int) (n : Nat) (w : World) (hf : Fit za zb n) (ra : Rd w v0 za) (rb : Rd w v1 zb) :
    Calls Try.prog 7 #[v0, v1] w (Two w n (fun j => kept (za.getD j 0 + zb.getD j 0)) (fun j => kept (za.getD j 0 - zb.getD j 0))) := by
  have HC := Lib.hid (pairs_jo v0 v1 za zb n w hf ra rb)
  go_enter Try.func7, Try.ntmps7
  go_wp2_with (go_at_call 13; ((with_reducible refine (HC.out).mono ?_); rintro e w1 ⟨gx, gy, rfl, h⟩))
  go_ret3
  exact ⟨gx, gy, rfl, h⟩

theorem boxed36 (w : World) : Below w.heap.size w (w.alloc (.cells #[.func (.func 11) #[] #[]] 33)) ∧ (w.alloc (.cells #[.func (.func 11) #[] #[]] 33)).cell? ⟨w.heap.size, 0, none⟩ = some (.func (.func 11) #[] #[]) ∧ w.heap.size < (w.alloc (.cells #[.func (.func 11) #[] #[]] 33)).heap.size := by
  refine ⟨(Below.refl _ w).alloc (Nat.le_refl _) _, ?_, ?_⟩
  · simp [go_sem]
  · simp
theorem new36 (w : World) : (w.alloc (.cells #[.nilFunc] 33)).cell? ⟨w.heap.size, 0, none⟩ = some .nilFunc ∧ (w.alloc (.cells #[.nilFunc] 33)).frozen? ⟨w.heap.size, 0, none⟩ = false := by
  constructor
  · simp [go_sem]
  · simp [go_sem]
theorem split_ok (v0 v1 : Value) (za zb : List Int) (n : Nat) (w : World) (hf : Fit za zb n) (ra : Rd w v0 za) (rb : Rd w v1 zb) :
    Calls Try.prog 5 #[v0, v1] w (Two w n (fun j => kept (half (za.getD j 0 + zb.getD j 0))) (fun j => kept (half (za.getD j 0 - zb.getD j 0)))) := by
  obtain ⟨b1, b2, b3⟩ := boxed36 w
  have HC := Lib.hid (pairs_sp v0 v1 za zb n w.heap.size _ hf (ra.below b1) (rb.below b1) b3 b2)
  have B1 := Lib.hid b1
  obtain ⟨c1, c2⟩ := new36 w
  clear b1 b2 b3
  go_enter Try.func5, Try.ntmps5
  go_wp2_with (go_at_call 13; ((with_reducible refine (HC.out).mono ?_); rintro e w1 ⟨gx, gy, rfl, h⟩))
  go_ret3
  have hs := B1.out.size
  exact ⟨gx, gy, rfl, ⟨Nat.le_trans hs h.1.1, Nat.le_trans hs h.1.2.1, h.1.2.2⟩, h.2.1, h.2.2.1, belowT B1.out h.2.2.2⟩
theorem both_bad (v0 v1 : Value) (za zb : List Int) (m0 : za.length ≤ 1000) (m1 : zb.length ≤ 1000) (h : ¬ ∃ n, Fit za zb n) : ∃ r : Int, (r = 2 ∨ r = 4) ∧
    (∀ w, Rd w v0 za → Rd w v1 zb → Calls Try.prog 7 #[v0, v1] w fun e w' => e = .returned (.tuple #[.slice none 0 0, .slice none 0 0, .int .i64 r]) ∧ Below w.heap.size w w') ∧
    (∀ w, Rd w v0 za → Rd w v1 zb → Calls Try.prog 5 #[v0, v1] w fun e w' => e = .returned (.tuple #[.slice none 0 0, .slice none 0 0, .int .i64 r]) ∧ Below w.heap.size w w') := by
  obtain ⟨r, hr, h1⟩ := pairs_bad v0 v1 za zb m0 m1 h
  refine ⟨r, hr, fun w ra rb => ?_, fun w ra rb => ?_⟩
  · have HC := Lib.hid (h1 (.func (.func 18) #[] #[]) (.func (.func 19) #[] #[]) w ra rb)
    go_enter Try.func7, Try.ntmps7
    go_wp2_with (go_at_call 13; ((with_reducible refine (HC.out).mono ?_); rintro e w1 ⟨rfl, rfl⟩))
    go_ret3
    exact ⟨rfl, Below.refl _ _⟩
  · obtain ⟨b1, b2, b3⟩ := boxed36 w
    have HC := Lib.hid (h1 (.func (.func 14) #[] #[.pointer (some ⟨w.heap.size, 0, none⟩)]) (.func (.func 15) #[] #[.pointer (some ⟨w.heap.size, 0, none⟩)]) _ (ra.below b1) (rb.below b1))
    have B1 := Lib.hid b1
    obtain ⟨c1, c2⟩ := new36 w
    clear b1 b2 b3
    go_enter Try.func5, Try.ntmps5
    go_wp2_with (go_at_call 13; ((with_reducible refine (HC.out).mono ?_); rintro e w1 ⟨rfl, rfl⟩))
    go_ret3
    exact ⟨rfl, B1.out⟩
open Go.Ev in
theorem md_alive_runs : (callR ((E.up 40).up 40) 40 .nil 0 10 []).map (fun x => match x.1 with | .bool true => true | _ => false) = some true := by kernel_rfl
open Go.Ev in
theorem md_alive (w : World) : Calls Try.prog 10 #[] w fun e w' => e = .returned (.bool true) ∧ Below w.heap.size w w' := by
  obtain ⟨v, h', nx', h1, h2⟩ := ran md_alive_runs
  subst h2
  exact call0 rfl h1 w rfl (fun _ => rfl)

/-- A row as a list. -/
def mk (n : Nat) (F : Nat → Int) : List Int := (List.range n).map F
theorem mk_len (n : Nat) (F : Nat → Int) : (mk n F).length = n := by simp [mk]
theorem mk_at {n : Nat} {F : Nat → Int} {j : Nat} (h : j < n) : (mk n F).getD j 0 = F j := by simp [mk, h]
theorem mk_rd {w : World} {g n : Nat} {F : Nat → Int} (h : w.rowIs g 3 n (fun j => .int .i64 (F j))) (hn : n ≤ 256) : Rd w (.slice (some ⟨g, 0, none⟩) n n) (mk n F) :=
  rd_row h (mk_len n F) (by unfold maxLen; omega) fun j hj => (mk_at hj).symm
theorem mk_in {n : Nat} {F : Nat → Int} (h : ∀ j, -268435455 ≤ F j ∧ F j ≤ 268435455) : InLine (mk n F) := fun z hz => by
  simp only [mk, List.mem_map] at hz
  obtain ⟨j, _, rfl⟩ := hz
  exact h j
end Go.Proofs.Ytbblbahllaindaa.Md
