/- What the document's own answer tells of two lists. -/
import Derived.Test.YtbblbahllaindaaMdRf
import Derived.WalkKit
import Derived.OwnWalk
import Derived.RegionTactic
import Derived.Deep.RegionHeld3
import Derived.Deep.AppendLies
import Derived.ProofKit
import Derived.OpenShut
import Derived.Lib.Hide
namespace Go.Proofs.Ytbblbahllaindaa.Md
open Go Go.ChangeShapes Go.WideShapes Go.ChangeAt Go.RowKit Go.Proofs.Ytbblbahllaindaa.Lo Go.Proofs.Ytbblbahllaindaa.Bd

def In2 (za zb : List Int) (j : Nat) : Prop := (-268435455 ≤ za.getD j 0 ∧ za.getD j 0 ≤ 268435455) ∧ (-268435455 ≤ zb.getD j 0 ∧ zb.getD j 0 ≤ 268435455)
theorem inl_at {zs : List Int} {n : Nat} (h : zs.length = n) : InLine zs ↔ ∀ j, j < n → -268435455 ≤ zs.getD j 0 ∧ zs.getD j 0 ≤ 268435455 := by
  subst h
  constructor
  · intro h j hj
    exact h _ (by rw [List.getD_eq_getElem?_getD, List.getElem?_eq_getElem hj]; exact List.getElem_mem hj)
  · intro h z hz
    obtain ⟨j, hj, rfl⟩ := List.mem_iff_getElem.1 hz
    have := h j hj
    simpa [List.getD_eq_getElem?_getD, List.getElem?_eq_getElem hj] using this
theorem fit_in {za zb : List Int} {n : Nat} (h : Fit za zb n) {j : Nat} (hj : j < n) : In2 za zb j := ⟨(inl_at h.1).1 h.2.2.2.1 j hj, (inl_at h.2.1).1 h.2.2.2.2 j hj⟩
theorem unfit_in {za zb : List Int} (h : ¬ ∃ n, Fit za zb n) (h1 : za.length = zb.length) (h2 : za.length ≤ 256) : ∃ j, 0 ≤ j ∧ j < za.length ∧ ¬ In2 za zb j := by
  refine Classical.byContradiction fun c => h ⟨za.length, rfl, h1.symm, h2, (inl_at rfl).2 fun j hj => ?_, (inl_at h1.symm).2 fun j hj => ?_⟩
  · exact (Classical.byContradiction fun q => c ⟨j, by omega, hj, fun p => q p.1⟩)
  · exact (Classical.byContradiction fun q => c ⟨j, by omega, hj, fun p => q p.2⟩)
theorem asked_many (a a' : Option Addr) (n n' cap cap' : Nat) (w : World) (m0 : n ≤ 1000) (m1 : n' ≤ 1000) (h : n ≠ n' ∨ 256 < n) : Calls Try.prog 16 #[.slice a n cap, .slice a' n' cap'] w fun e w' => e = .returned (.int .i64 4) ∧ w = w' := by
  by_cases h1 : n = n'
  · subst h1
    have h2 : 256 < n := by omega
    clear h
    go_enter Try.func16, Try.ntmps16
    go_wp2
    go_ret
    exact ⟨rfl, rfl⟩
  · have h2 : ((n : Int) != (n' : Int)) = true := by simp; omega
    clear h
    go_enter Try.func16, Try.ntmps16
    go_wp2
    go_ret
    exact ⟨rfl, rfl⟩
set_option maxRecDepth 100000 in
theorem asked_loop (b off cap b' off' cap' n : Nat) (za zb : List Int) (w : World) (hn : n ≤ 256) (la : za.length = n) (lb : zb.length = n) (ca : ∀ i, i < n → w.cell? ⟨b, off + i, none⟩ = some (.int .i64 (za.getD i 0))) (cb : ∀ i, i < n → w.cell? ⟨b', off' + i, none⟩ = some (.int .i64 (zb.getD i 0)))
    (R : Int) (hR : (R = 0 ∧ ∀ j, j < n → In2 za zb j) ∨ (R = 2 ∧ ∃ j, 0 ≤ j ∧ j < n ∧ ¬ In2 za zb j)) : Calls Try.prog 16 #[.slice (some ⟨b, off, none⟩) n cap, .slice (some ⟨b', off', none⟩) n cap'] w fun e w' => e = .returned (.int .i64 R) ∧ w = w' := by
  have CA := Lib.hid ca
  have CB := Lib.hid cb
  have HR := Lib.hid hR
  clear ca cb hR la lb
  go_enter Try.func16, Try.ntmps16
  go_wp2
  go_loop [5] (fun i => ∃ k : Nat, k ≤ n ∧ i = .int .i64 k ∧ Hid ((R = 0 ∧ ∀ j, j < n → In2 za zb j) ∨ (R = 2 ∧ ∃ j, k ≤ j ∧ j < n ∧ ¬ In2 za zb j))) (fun i => n - (intOf i).toNat)
  case atStart => exact ⟨0, by omega, rfl, HR⟩
  case round =>
    obtain ⟨k, hk, rfl, hI⟩ := hrel
    clear HR
    by_cases hlt : k < n
    · have c0 := CA.out k hlt
      have c1 := CB.out k hlt
      by_cases hin : In2 za zb k
      · have hI2 : Hid ((R = 0 ∧ ∀ j, j < n → In2 za zb j) ∨ (R = 2 ∧ ∃ j, k + 1 ≤ j ∧ j < n ∧ ¬ In2 za zb j)) := by
          refine Lib.hid ?_
          rcases hI.out with h | ⟨h, j, h1, h2, h3⟩
          · exact .inl h
          · refine .inr ⟨h, j, ?_, h2, h3⟩
            by_cases e : j = k
            · subst e; exact absurd hin h3
            · omega
        obtain ⟨⟨i0, i1⟩, i2, i3⟩ := hin
        clear hI
        generalize za.getD k 0 = X at *
        generalize zb.getD k 0 = Y at *
        go_wp2
        go_round
        case rel => exact ⟨k + 1, by omega, by go_num, hI2⟩
        case measure => simp [intOf]; omega
      · have hr : R = 2 := by
          rcases hI.out with ⟨h, h2⟩ | ⟨h, _⟩
          · exact absurd (h2 k hlt) hin
          · exact h
        subst hr
        clear hI
        unfold In2 at hin
        generalize za.getD k 0 = X at *
        generalize zb.getD k 0 = Y at *
        by_cases t0 : X < -268435455
        · clear hin
          go_wp2
          go_ret
          exact ⟨rfl, rfl⟩
        by_cases t1 : 268435455 < X
        · clear hin
          go_wp2
          go_ret
          exact ⟨rfl, rfl⟩
        by_cases t2 : Y < -268435455
        · clear hin
          go_wp2
          go_ret
          exact ⟨rfl, rfl⟩
        · have t3 : 268435455 < Y := by omega
          clear hin
          go_wp2
          go_ret
          exact ⟨rfl, rfl⟩
    · have hr : R = 0 := by
        rcases hI.out with ⟨h, _⟩ | ⟨_, j, h1, h2, _⟩
        · exact h
        · omega
      subst hr
      clear hI
      go_wp2
      go_ret
      exact ⟨rfl, rfl⟩
set_option maxRecDepth 100000 in
theorem asked_zero (a a' : Option Addr) (cap cap' : Nat) (w : World) : Calls Try.prog 16 #[.slice a 0 cap, .slice a' 0 cap'] w fun e w' => e = .returned (.int .i64 0) ∧ w = w' := by
  go_enter Try.func16, Try.ntmps16
  go_wp2
  go_loop [5] (fun i => i = .int .i64 0) (fun _ => 0)
  case atStart => exact rfl
  case round =>
    subst hrel
    go_wp2
    go_ret
    exact ⟨rfl, rfl⟩
theorem asked_ok (v0 v1 : Value) (za zb : List Int) (n : Nat) (w : World) (hf : Fit za zb n) (ra : Rd w v0 za) (rb : Rd w v1 zb) : Calls Try.prog 16 #[v0, v1] w fun e w' => e = .returned (.int .i64 0) ∧ w = w' := by
  obtain ⟨la, lb, hn, ia, ib⟩ := id hf
  by_cases h0 : n = 0
  · subst h0
    obtain ⟨a, c, rfl⟩ := rd_any ra
    obtain ⟨a', c', rfl⟩ := rd_any rb
    rw [la, lb]
    exact asked_zero _ _ _ _ w
  · obtain ⟨b, off, c, rfl, _, ca⟩ := rd_shape ra (by omega)
    obtain ⟨b', off', c', rfl, _, cb⟩ := rd_shape rb (by omega)
    rw [la] at ca ⊢
    rw [lb] at cb ⊢
    exact asked_loop b off c b' off' c' n za zb w hn la lb ca cb 0 (.inl ⟨rfl, fun j hj => fit_in hf hj⟩)
theorem asked_bad (v0 v1 : Value) (za zb : List Int) (m0 : za.length ≤ 1000) (m1 : zb.length ≤ 1000) (h : ¬ ∃ n, Fit za zb n) (w : World) (ra : Rd w v0 za) (rb : Rd w v1 zb) : Calls Try.prog 16 #[v0, v1] w fun e w' => e = .returned (.int .i64 (ce za zb)) ∧ w = w' := by
  by_cases c : za.length ≠ zb.length ∨ 256 < za.length
  · rw [show ce za zb = 4 from if_pos c]
    obtain ⟨a, cc, rfl⟩ := rd_any ra
    obtain ⟨a', c', rfl⟩ := rd_any rb
    exact asked_many _ _ _ _ _ _ w m0 m1 c
  · rw [show ce za zb = 2 from if_neg c]
    have hj := unfit_in h (by omega) (by omega)
    obtain ⟨j, _, hj2, _⟩ := id hj
    obtain ⟨b, off, cc, rfl, _, ca⟩ := rd_shape ra (by omega)
    obtain ⟨b', off', c', rfl, _, cb⟩ := rd_shape rb (by omega)
    have e : zb.length = za.length := by omega
    rw [e] at cb ⊢
    exact asked_loop b off cc b' off' c' za.length za zb w (by omega) rfl e ca cb 2 (.inr ⟨rfl, hj⟩)
end Go.Proofs.Ytbblbahllaindaa.Md
