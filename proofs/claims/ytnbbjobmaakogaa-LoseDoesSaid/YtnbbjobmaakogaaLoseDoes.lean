/- Lost frames' sequences and lines are as the document says, what came in stays, and what is answered is new memory. LoseDoes returns true, whatever the sequence, the lines and the numbers, the memory and the schedule. No condition. -/
import Derived.Test.YtnbbjobmaakogaaLoFil
import Derived.WalkKit
import Derived.Laws.AppendOwn
import Derived.Laws.AppendOwnNone
import Derived.Deep.QuietTactic
import Derived.BigQuiet
import Derived.ProofKit
import Derived.OpenShut
import Derived.ShutString
import Derived.ChangeOld
import Derived.Below
import Derived.Lib.Hide
namespace Go.Proofs.Ytnbbjobmaakogaa.loseDoes
open Go Go.ChangeShapes Go.WideShapes Go.ChangeAt Go.RowKit Go.Proofs.Ytnbbjobmaakogaa.Lo

theorem one64 (zs : List Int) : ∀ u ∈ zs.map (Value.int .i64), u.oneCell' = true := by
  intro u hu
  simp only [List.mem_map] at hu
  obtain ⟨x, _, rfl⟩ := hu
  rfl
theorem add_at (b o i : Nat) : (⟨b, o, none⟩ : Addr).add i = ⟨b, o + i, none⟩ := by simp [Addr.add]
theorem own_rd {w : World} {base : Nat} {v : Value} {zs : List Int} (h : w.ownsRow base 3 1 v (0 + zs.length) ([] ++ zs.map (Value.int .i64))) : Rd w v zs := by
  rw [Nat.zero_add, List.nil_append] at h
  have hlt := h.lt
  have hcells := @World.ownsRow.cells _ _ _ _ _ _ _ h
  obtain ⟨hx, ⟨rfl, hn⟩ | ⟨g, cap, cur, rfl, hg, hh, hc, hm, hs, ht⟩⟩ := h
  · exact .inl ⟨none, 0, rfl, by cases zs with | nil => rfl | cons _ _ => simp at hn⟩
  · refine .inr ⟨g, 0, cap, rfl, (hlt g rfl).2, hc, hm, fun i hi => ?_⟩
    have := hcells (g := g) rfl i (.int .i64 (zs.getD i 0)) (by simp [hi])
    rwa [add_at] at this
theorem nil_rd (w : World) (a : Option Addr) (c : Nat) : Rd w (.slice a 0 c) [] := .inl ⟨_, _, rfl, rfl⟩
theorem add_block (x : Addr) (i : Nat) : (x.add i).block = x.block := by unfold Addr.add; split <;> rfl
/-- The cells of what came in. -/
def Cl (w : World) (x : Addr) (zs : List Int) : Prop := ∀ j u, (zs.map (Value.int .i64))[j]? = some u → w.cell? (x.add j) = some u
theorem Cl.below {w w' : World} {x : Addr} {zs : List Int} (h : Cl w x zs) (hb : Below w.heap.size w w') : Cl w' x zs := fun j u hu => (hb.cell (lt_of_cell (h j u hu))).trans (h j u hu)
theorem lf_rd {w : World} {g : Nat} {F : Nat → Int} (h : w.rowIs g 3 256 (fun j => .int .i64 (F j))) : Rd w (.slice (some ⟨g, 0, none⟩) 256 256) ((List.range 256).map F) :=
  rd_row h (by simp) (by unfold maxLen; omega) fun j hj => by simp [hj]

set_option maxRecDepth 100000 in
set_option maxHeartbeats 2000000 in
theorem nn (s : Int) (T M : Int) (w : World) (s0 : 0 ≤ s) (hG : ¬ Lo.Good [] [] T M) :
    Calls Try.prog 13 #[.int .u8 s, .slice none 0 0, .slice none 0 0, .int .i64 T, .int .i64 M] w fun e w' => e = .returned (.bool true) ∧ Below w.heap.size w w' := by
  obtain ⟨i0, hi, hz0, hz1, hz2⟩ := info_parts info3
  obtain ⟨A, hA⟩ : ∃ A, seqA s = A := ⟨_, rfl⟩
  obtain ⟨E, hE⟩ : ∃ E, seqE s = E := ⟨_, rfl⟩
  have hEb : 0 ≤ E ∧ E ≤ 2 := by rw [← hE]; unfold seqE; split <;> omega
  have H29 : ∀ w, Calls Try.prog 29 #[.int .u8 s] w fun e w' => e = .returned (.tuple #[.int .u8 A, .int .i64 E]) ∧ w = w' := fun w => by rw [← hA, ← hE]; exact seq_any s w s0
  have H33 : ∀ w, Calls Try.prog 33 #[.int .u8 s] w fun e w' => e = .returned (.tuple #[.int .u8 A, .int .i64 E]) ∧ w = w' := fun w => by rw [← hA, ← hE]; exact rseq_any s w s0
  obtain ⟨e0, e1⟩ := hEb
  clear hA hE
  have h29 := Lib.hid H29
  have h33 := Lib.hid H33
  clear H29 H33
  obtain ⟨R, hR⟩ : ∃ R, errF [] [] T M = R := ⟨_, rfl⟩
  have hRb := errF_bd [] [] T M
  rw [hR] at hRb
  have r0 : 2 ≤ R ∧ R ≤ 4 := by omega
  have H30 : ∀ v0 v1 w, Rd w v0 [] → Rd w v1 [] → Calls Try.prog 30 #[v0, v1, .int .i64 T, .int .i64 M] w fun e w' => e = .returned (.tuple #[.slice none 0 0, .int .i64 R]) ∧ w = w' := fun v0 v1 w r1 r2 => by rw [← hR]; exact lines_bad v0 v1 _ _ T M w (by simp) (by simp) r1 r2 hG
  have H34 : ∀ v0 v1 w, Rd w v0 [] → Rd w v1 [] → Calls Try.prog 34 #[v0, v1, .int .i64 T, .int .i64 M] w fun e w' => e = .returned (.tuple #[.slice none 0 0, .int .i64 R]) ∧ w = w' := fun v0 v1 w r1 r2 => by rw [← hR]; exact rlines_bad v0 v1 _ _ T M w (by simp) (by simp) r1 r2 hG
  have h30 := Lib.hid H30
  have h34 := Lib.hid H34
  clear H30 H34 hR hRb hG
  go_enter Try.func13, Try.ntmps13
  go_wp2_with (first
    | (at_builtin; refine wpList_append_own_none rfl _ (.tmp 30) 22 rfl w.heap.size 3 i0 1 Try.underlying22 hi _ _ _ rfl (World.ownsRow_nil w w.heap.size 3 1) rfl ?_)
    | (at_builtin; refine wpList_append_own_none rfl _ (.tmp 32) 22 rfl w.heap.size 3 i0 1 Try.underlying22 hi _ _ _ rfl (World.ownsRow_nil _ w.heap.size 3 1) rfl ?_)
    | (go_at_call 29; ((with_reducible refine (h29.out _).mono ?_); rintro e w5 ⟨rfl, rfl⟩))
    | (go_at_call 33; ((with_reducible refine (h33.out _).mono ?_); rintro e w5 ⟨rfl, rfl⟩))
    | (go_at_call 30; ((with_reducible refine (h30.out _ _ _ (nil_rd _ none 0) (nil_rd _ none 0)).mono ?_); rintro e w5 ⟨rfl, rfl⟩))
    | (go_at_call 34; ((with_reducible refine (h34.out _ _ _ (nil_rd _ none 0) (nil_rd _ none 0)).mono ?_); rintro e w5 ⟨rfl, rfl⟩))
    | (go_at_call 26; ((with_reducible refine (same_yes (.slice none 0 0) (.slice none 0 0) [] _ (by simp) (nil_rd _ none 0) (nil_rd _ none 0)).mono ?_); rintro e w6 ⟨rfl, hb6⟩)))
  go_loopw [21] (fun i wr => i = .int .i64 0 ∧ wr = w6) (fun _ _ => 0)
  case atStart => exact ⟨rfl, rfl⟩
  case round =>
    obtain ⟨rfl, rfl⟩ := hrel
    go_wp2_with (first
      | (go_at_call 26; have hq := hba; clear hq; ((with_reducible refine (same_yes _ _ [] _ (by simp) (nil_rd _ none 0) (nil_rd _ none 0)).mono ?_); rintro e wc ⟨rfl, hbc⟩))
      | (go_at_call 26; ((with_reducible refine (same_yes _ _ [] _ (by simp) (nil_rd _ none 0) (nil_rd _ none 0)).mono ?_); rintro e wa ⟨rfl, hba⟩)))
    go_ret
    exact ⟨rfl, belowT (Below.refl _ _) (belowT hb6 (belowT hba hbc))⟩

set_option maxRecDepth 100000 in
set_option maxHeartbeats 2000000 in
theorem ns (s : Int) (x1 : Addr) (c1 : Nat) (za : List Int) (T M : Int) (w : World) (s0 : 0 ≤ s) (ra : Rd w (.slice (some x1) za.length c1) za) (ka : Cl w x1 za) (la : za.length ≤ 1000) (hG : ¬ Lo.Good [] za T M) :
    Calls Try.prog 13 #[.int .u8 s, .slice none 0 0, .slice (some x1) za.length c1, .int .i64 T, .int .i64 M] w fun e w' => e = .returned (.bool true) ∧ Below w.heap.size w w' := by
  obtain ⟨i0, hi, hz0, hz1, hz2⟩ := info_parts info3
  obtain ⟨A, hA⟩ : ∃ A, seqA s = A := ⟨_, rfl⟩
  obtain ⟨E, hE⟩ : ∃ E, seqE s = E := ⟨_, rfl⟩
  have hEb : 0 ≤ E ∧ E ≤ 2 := by rw [← hE]; unfold seqE; split <;> omega
  have H29 : ∀ w, Calls Try.prog 29 #[.int .u8 s] w fun e w' => e = .returned (.tuple #[.int .u8 A, .int .i64 E]) ∧ w = w' := fun w => by rw [← hA, ← hE]; exact seq_any s w s0
  have H33 : ∀ w, Calls Try.prog 33 #[.int .u8 s] w fun e w' => e = .returned (.tuple #[.int .u8 A, .int .i64 E]) ∧ w = w' := fun w => by rw [← hA, ← hE]; exact rseq_any s w s0
  obtain ⟨e0, e1⟩ := hEb
  clear hA hE
  have h29 := Lib.hid H29
  have h33 := Lib.hid H33
  clear H29 H33
  have RA := Lib.hid ra
  have KA := Lib.hid ka
  clear ra ka
  obtain ⟨R, hR⟩ : ∃ R, errF [] za T M = R := ⟨_, rfl⟩
  have hRb := errF_bd [] za T M
  rw [hR] at hRb
  have r0 : 2 ≤ R ∧ R ≤ 4 := by omega
  have H30 : ∀ v0 v1 w, Rd w v0 [] → Rd w v1 za → Calls Try.prog 30 #[v0, v1, .int .i64 T, .int .i64 M] w fun e w' => e = .returned (.tuple #[.slice none 0 0, .int .i64 R]) ∧ w = w' := fun v0 v1 w r1 r2 => by rw [← hR]; exact lines_bad v0 v1 _ _ T M w (by simp) la r1 r2 hG
  have H34 : ∀ v0 v1 w, Rd w v0 [] → Rd w v1 za → Calls Try.prog 34 #[v0, v1, .int .i64 T, .int .i64 M] w fun e w' => e = .returned (.tuple #[.slice none 0 0, .int .i64 R]) ∧ w = w' := fun v0 v1 w r1 r2 => by rw [← hR]; exact rlines_bad v0 v1 _ _ T M w (by simp) la r1 r2 hG
  have h30 := Lib.hid H30
  have h34 := Lib.hid H34
  clear H30 H34 hR hRb hG
  go_enter Try.func13, Try.ntmps13
  go_wp2_with (first
    | (at_builtin; refine wpList_append_own_none rfl _ (.tmp 30) 22 rfl w.heap.size 3 i0 1 Try.underlying22 hi _ _ _ rfl (World.ownsRow_nil w w.heap.size 3 1) rfl ?_)
    | (at_builtin; refine wpList_append_own _ rfl _ (.tmp 32) 22 rfl w.heap.size 3 i0 (.int .i64 0) 1 8 Try.underlying22 hi hz0 hz1 hz2 rfl (by decide) _ _ _ rfl (World.ownsRow_nil w w.heap.size 3 1) x1 za.length c1 (za.map (Value.int .i64)) rfl (by simp) (KA.out.below (Below.refl _ _)) (one64 _) (by unfold maxLen; omega) (by omega) (Nat.le_refl _) ?_; intro v4 w4 hown4 hgrow4 _; have hb4 : Below w.heap.size w w4 := (Below.refl _ _).grown hgrow4 (Nat.le_refl _) (fun k hk => by cases hk); have hx4 := Lib.hid (own_rd hown4); clear hown4 hgrow4)
    | (go_at_call 29; ((with_reducible refine (h29.out _).mono ?_); rintro e w5 ⟨rfl, rfl⟩))
    | (go_at_call 33; ((with_reducible refine (h33.out _).mono ?_); rintro e w5 ⟨rfl, rfl⟩))
    | (go_at_call 30; ((with_reducible refine (h30.out _ _ _ (nil_rd _ none 0) hx4.out).mono ?_); rintro e w5 ⟨rfl, rfl⟩))
    | (go_at_call 34; ((with_reducible refine (h34.out _ _ _ (nil_rd _ none 0) (RA.out.below hb4)).mono ?_); rintro e w5 ⟨rfl, rfl⟩))
    | (go_at_call 26; ((with_reducible refine (same_yes (.slice none 0 0) (.slice none 0 0) [] _ (by simp) (nil_rd _ none 0) (nil_rd _ none 0)).mono ?_); rintro e w6 ⟨rfl, hb6⟩)))
  go_loopw [21] (fun i wr => i = .int .i64 0 ∧ wr = w6) (fun _ _ => 0)
  case atStart => exact ⟨rfl, rfl⟩
  case round =>
    obtain ⟨rfl, rfl⟩ := hrel
    go_wp2_with (first
      | (go_at_call 26; have hq := hba; clear hq; ((with_reducible refine (same_yes _ _ za _ la ((hx4.out.below hb6).below hba) (((RA.out.below hb4).below hb6).below hba)).mono ?_); rintro e wc ⟨rfl, hbc⟩))
      | (go_at_call 26; ((with_reducible refine (same_yes _ _ [] _ (by simp) (nil_rd _ none 0) (nil_rd _ none 0)).mono ?_); rintro e wa ⟨rfl, hba⟩)))
    go_ret
    exact ⟨rfl, belowT hb4 (belowT hb6 (belowT hba hbc))⟩

set_option maxRecDepth 100000 in
set_option maxHeartbeats 2000000 in
theorem sn (s : Int) (x0 : Addr) (c0 : Nat) (zb : List Int) (T M : Int) (w : World) (s0 : 0 ≤ s) (rb : Rd w (.slice (some x0) zb.length c0) zb) (kb : Cl w x0 zb) (lb : zb.length ≤ 1000) (hG : ¬ Lo.Good zb [] T M) :
    Calls Try.prog 13 #[.int .u8 s, .slice (some x0) zb.length c0, .slice none 0 0, .int .i64 T, .int .i64 M] w fun e w' => e = .returned (.bool true) ∧ Below w.heap.size w w' := by
  obtain ⟨i0, hi, hz0, hz1, hz2⟩ := info_parts info3
  obtain ⟨A, hA⟩ : ∃ A, seqA s = A := ⟨_, rfl⟩
  obtain ⟨E, hE⟩ : ∃ E, seqE s = E := ⟨_, rfl⟩
  have hEb : 0 ≤ E ∧ E ≤ 2 := by rw [← hE]; unfold seqE; split <;> omega
  have H29 : ∀ w, Calls Try.prog 29 #[.int .u8 s] w fun e w' => e = .returned (.tuple #[.int .u8 A, .int .i64 E]) ∧ w = w' := fun w => by rw [← hA, ← hE]; exact seq_any s w s0
  have H33 : ∀ w, Calls Try.prog 33 #[.int .u8 s] w fun e w' => e = .returned (.tuple #[.int .u8 A, .int .i64 E]) ∧ w = w' := fun w => by rw [← hA, ← hE]; exact rseq_any s w s0
  obtain ⟨e0, e1⟩ := hEb
  clear hA hE
  have h29 := Lib.hid H29
  have h33 := Lib.hid H33
  clear H29 H33
  have RB := Lib.hid rb
  have KB := Lib.hid kb
  clear rb kb
  obtain ⟨R, hR⟩ : ∃ R, errF zb [] T M = R := ⟨_, rfl⟩
  have hRb := errF_bd zb [] T M
  rw [hR] at hRb
  have r0 : 2 ≤ R ∧ R ≤ 4 := by omega
  have H30 : ∀ v0 v1 w, Rd w v0 zb → Rd w v1 [] → Calls Try.prog 30 #[v0, v1, .int .i64 T, .int .i64 M] w fun e w' => e = .returned (.tuple #[.slice none 0 0, .int .i64 R]) ∧ w = w' := fun v0 v1 w r1 r2 => by rw [← hR]; exact lines_bad v0 v1 _ _ T M w lb (by simp) r1 r2 hG
  have H34 : ∀ v0 v1 w, Rd w v0 zb → Rd w v1 [] → Calls Try.prog 34 #[v0, v1, .int .i64 T, .int .i64 M] w fun e w' => e = .returned (.tuple #[.slice none 0 0, .int .i64 R]) ∧ w = w' := fun v0 v1 w r1 r2 => by rw [← hR]; exact rlines_bad v0 v1 _ _ T M w lb (by simp) r1 r2 hG
  have h30 := Lib.hid H30
  have h34 := Lib.hid H34
  clear H30 H34 hR hRb hG
  go_enter Try.func13, Try.ntmps13
  go_wp2_with (first
    | (at_builtin; refine wpList_append_own _ rfl _ (.tmp 30) 22 rfl w.heap.size 3 i0 (.int .i64 0) 1 8 Try.underlying22 hi hz0 hz1 hz2 rfl (by decide) _ _ _ rfl (World.ownsRow_nil w w.heap.size 3 1) x0 zb.length c0 (zb.map (Value.int .i64)) rfl (by simp) KB.out (one64 _) (by unfold maxLen; omega) (by omega) (Nat.le_refl _) ?_; intro v3 w3 hown3 hgrow3 _; have hb3 : Below w.heap.size w w3 := (Below.refl _ _).grown hgrow3 (Nat.le_refl _) (fun k hk => by cases hk); have hx3 := Lib.hid (own_rd hown3); clear hown3 hgrow3)
    | (at_builtin; refine wpList_append_own_none rfl _ (.tmp 32) 22 rfl w3.heap.size 3 i0 1 Try.underlying22 hi _ _ _ rfl (World.ownsRow_nil _ w3.heap.size 3 1) rfl ?_)
    | (go_at_call 29; ((with_reducible refine (h29.out _).mono ?_); rintro e w5 ⟨rfl, rfl⟩))
    | (go_at_call 33; ((with_reducible refine (h33.out _).mono ?_); rintro e w5 ⟨rfl, rfl⟩))
    | (go_at_call 30; ((with_reducible refine (h30.out _ _ _ hx3.out (nil_rd _ none 0)).mono ?_); rintro e w5 ⟨rfl, rfl⟩))
    | (go_at_call 34; ((with_reducible refine (h34.out _ _ _ (RB.out.below hb3) (nil_rd _ none 0)).mono ?_); rintro e w5 ⟨rfl, rfl⟩))
    | (go_at_call 26; ((with_reducible refine (same_yes (.slice none 0 0) (.slice none 0 0) [] _ (by simp) (nil_rd _ none 0) (nil_rd _ none 0)).mono ?_); rintro e w6 ⟨rfl, hb6⟩)))
  go_loopw [21] (fun i wr => i = .int .i64 0 ∧ wr = w6) (fun _ _ => 0)
  case atStart => exact ⟨rfl, rfl⟩
  case round =>
    obtain ⟨rfl, rfl⟩ := hrel
    go_wp2_with (first
      | (go_at_call 26; have hq := hba; clear hq; ((with_reducible refine (same_yes _ _ [] _ (by simp) (nil_rd _ none 0) (nil_rd _ none 0)).mono ?_); rintro e wc ⟨rfl, hbc⟩))
      | (go_at_call 26; ((with_reducible refine (same_yes _ _ zb _ lb (hx3.out.below hb6) ((RB.out.below hb3).below hb6)).mono ?_); rintro e wa ⟨rfl, hba⟩)))
    go_ret
    exact ⟨rfl, belowT hb3 (belowT hb6 (belowT hba hbc))⟩

set_option maxRecDepth 100000 in
set_option maxHeartbeats 2000000 in
theorem ss (s : Int) (x0 : Addr) (c0 : Nat) (zb : List Int) (x1 : Addr) (c1 : Nat) (za : List Int) (T M : Int) (w : World) (s0 : 0 ≤ s) (rb : Rd w (.slice (some x0) zb.length c0) zb) (kb : Cl w x0 zb) (lb : zb.length ≤ 1000) (ra : Rd w (.slice (some x1) za.length c1) za) (ka : Cl w x1 za) (la : za.length ≤ 1000) (hG : ¬ Lo.Good zb za T M) :
    Calls Try.prog 13 #[.int .u8 s, .slice (some x0) zb.length c0, .slice (some x1) za.length c1, .int .i64 T, .int .i64 M] w fun e w' => e = .returned (.bool true) ∧ Below w.heap.size w w' := by
  obtain ⟨i0, hi, hz0, hz1, hz2⟩ := info_parts info3
  obtain ⟨A, hA⟩ : ∃ A, seqA s = A := ⟨_, rfl⟩
  obtain ⟨E, hE⟩ : ∃ E, seqE s = E := ⟨_, rfl⟩
  have hEb : 0 ≤ E ∧ E ≤ 2 := by rw [← hE]; unfold seqE; split <;> omega
  have H29 : ∀ w, Calls Try.prog 29 #[.int .u8 s] w fun e w' => e = .returned (.tuple #[.int .u8 A, .int .i64 E]) ∧ w = w' := fun w => by rw [← hA, ← hE]; exact seq_any s w s0
  have H33 : ∀ w, Calls Try.prog 33 #[.int .u8 s] w fun e w' => e = .returned (.tuple #[.int .u8 A, .int .i64 E]) ∧ w = w' := fun w => by rw [← hA, ← hE]; exact rseq_any s w s0
  obtain ⟨e0, e1⟩ := hEb
  clear hA hE
  have h29 := Lib.hid H29
  have h33 := Lib.hid H33
  clear H29 H33
  have RB := Lib.hid rb
  have KB := Lib.hid kb
  clear rb kb
  have RA := Lib.hid ra
  have KA := Lib.hid ka
  clear ra ka
  obtain ⟨R, hR⟩ : ∃ R, errF zb za T M = R := ⟨_, rfl⟩
  have hRb := errF_bd zb za T M
  rw [hR] at hRb
  have r0 : 2 ≤ R ∧ R ≤ 4 := by omega
  have H30 : ∀ v0 v1 w, Rd w v0 zb → Rd w v1 za → Calls Try.prog 30 #[v0, v1, .int .i64 T, .int .i64 M] w fun e w' => e = .returned (.tuple #[.slice none 0 0, .int .i64 R]) ∧ w = w' := fun v0 v1 w r1 r2 => by rw [← hR]; exact lines_bad v0 v1 _ _ T M w lb la r1 r2 hG
  have H34 : ∀ v0 v1 w, Rd w v0 zb → Rd w v1 za → Calls Try.prog 34 #[v0, v1, .int .i64 T, .int .i64 M] w fun e w' => e = .returned (.tuple #[.slice none 0 0, .int .i64 R]) ∧ w = w' := fun v0 v1 w r1 r2 => by rw [← hR]; exact rlines_bad v0 v1 _ _ T M w lb la r1 r2 hG
  have h30 := Lib.hid H30
  have h34 := Lib.hid H34
  clear H30 H34 hR hRb hG
  go_enter Try.func13, Try.ntmps13
  go_wp2_with (first
    | (at_builtin; refine wpList_append_own _ rfl _ (.tmp 30) 22 rfl w.heap.size 3 i0 (.int .i64 0) 1 8 Try.underlying22 hi hz0 hz1 hz2 rfl (by decide) _ _ _ rfl (World.ownsRow_nil w w.heap.size 3 1) x0 zb.length c0 (zb.map (Value.int .i64)) rfl (by simp) KB.out (one64 _) (by unfold maxLen; omega) (by omega) (Nat.le_refl _) ?_; intro v3 w3 hown3 hgrow3 _; have hb3 : Below w.heap.size w w3 := (Below.refl _ _).grown hgrow3 (Nat.le_refl _) (fun k hk => by cases hk); have hx3 := Lib.hid (own_rd hown3); clear hown3 hgrow3)
    | (at_builtin; refine wpList_append_own _ rfl _ (.tmp 32) 22 rfl w3.heap.size 3 i0 (.int .i64 0) 1 8 Try.underlying22 hi hz0 hz1 hz2 rfl (by decide) _ _ _ rfl (World.ownsRow_nil w3 w3.heap.size 3 1) x1 za.length c1 (za.map (Value.int .i64)) rfl (by simp) (KA.out.below hb3) (one64 _) (by unfold maxLen; omega) (by omega) (Nat.le_refl _) ?_; intro v4 w4 hown4 hgrow4 _; have hb4 : Below w3.heap.size w3 w4 := (Below.refl _ _).grown hgrow4 (Nat.le_refl _) (fun k hk => by cases hk); have hx4 := Lib.hid (own_rd hown4); clear hown4 hgrow4)
    | (go_at_call 29; ((with_reducible refine (h29.out _).mono ?_); rintro e w5 ⟨rfl, rfl⟩))
    | (go_at_call 33; ((with_reducible refine (h33.out _).mono ?_); rintro e w5 ⟨rfl, rfl⟩))
    | (go_at_call 30; ((with_reducible refine (h30.out _ _ _ (hx3.out.below hb4) hx4.out).mono ?_); rintro e w5 ⟨rfl, rfl⟩))
    | (go_at_call 34; ((with_reducible refine (h34.out _ _ _ (RB.out.below (belowT hb3 hb4)) (RA.out.below (belowT hb3 hb4))).mono ?_); rintro e w5 ⟨rfl, rfl⟩))
    | (go_at_call 26; ((with_reducible refine (same_yes (.slice none 0 0) (.slice none 0 0) [] _ (by simp) (nil_rd _ none 0) (nil_rd _ none 0)).mono ?_); rintro e w6 ⟨rfl, hb6⟩)))
  go_loopw [21] (fun i wr => i = .int .i64 0 ∧ wr = w6) (fun _ _ => 0)
  case atStart => exact ⟨rfl, rfl⟩
  case round =>
    obtain ⟨rfl, rfl⟩ := hrel
    go_wp2_with (first
      | (go_at_call 26; have hq := hba; clear hq; ((with_reducible refine (same_yes _ _ za _ la ((hx4.out.below hb6).below hba) (((RA.out.below (belowT hb3 hb4)).below hb6).below hba)).mono ?_); rintro e wc ⟨rfl, hbc⟩))
      | (go_at_call 26; ((with_reducible refine (same_yes _ _ zb _ lb ((hx3.out.below hb4).below hb6) ((RB.out.below (belowT hb3 hb4)).below hb6)).mono ?_); rintro e wa ⟨rfl, hba⟩)))
    go_ret
    exact ⟨rfl, belowT (belowT hb3 hb4) (belowT hb6 (belowT hba hbc))⟩

set_option maxRecDepth 100000 in
set_option maxHeartbeats 2000000 in
theorem gn (s : Int) (x0 : Addr) (c0 : Nat) (zb : List Int) (T M : Int) (w : World) (s0 : 0 ≤ s) (rb : Rd w (.slice (some x0) zb.length c0) zb) (kb : Cl w x0 zb) (lb : zb.length ≤ 1000) (hG : Lo.Good zb [] T M) :
    Calls Try.prog 13 #[.int .u8 s, .slice (some x0) zb.length c0, .slice none 0 0, .int .i64 T, .int .i64 M] w fun e w' => e = .returned (.bool true) ∧ Below w.heap.size w w' := by
  obtain ⟨i0, hi, hz0, hz1, hz2⟩ := info_parts info3
  obtain ⟨A, hA⟩ : ∃ A, seqA s = A := ⟨_, rfl⟩
  obtain ⟨E, hE⟩ : ∃ E, seqE s = E := ⟨_, rfl⟩
  have hEb : 0 ≤ E ∧ E ≤ 2 := by rw [← hE]; unfold seqE; split <;> omega
  have H29 : ∀ w, Calls Try.prog 29 #[.int .u8 s] w fun e w' => e = .returned (.tuple #[.int .u8 A, .int .i64 E]) ∧ w = w' := fun w => by rw [← hA, ← hE]; exact seq_any s w s0
  have H33 : ∀ w, Calls Try.prog 33 #[.int .u8 s] w fun e w' => e = .returned (.tuple #[.int .u8 A, .int .i64 E]) ∧ w = w' := fun w => by rw [← hA, ← hE]; exact rseq_any s w s0
  obtain ⟨e0, e1⟩ := hEb
  clear hA hE
  have h29 := Lib.hid H29
  have h33 := Lib.hid H33
  clear H29 H33
  have RB := Lib.hid rb
  have KB := Lib.hid kb
  clear rb kb
  have HG := Lib.hid hG
  clear hG
  go_enter Try.func13, Try.ntmps13
  go_wp2_with (first
    | (at_builtin; refine wpList_append_own _ rfl _ (.tmp 30) 22 rfl w.heap.size 3 i0 (.int .i64 0) 1 8 Try.underlying22 hi hz0 hz1 hz2 rfl (by decide) _ _ _ rfl (World.ownsRow_nil w w.heap.size 3 1) x0 zb.length c0 (zb.map (Value.int .i64)) rfl (by simp) KB.out (one64 _) (by unfold maxLen; omega) (by omega) (Nat.le_refl _) ?_; intro v3 w3 hown3 hgrow3 _; have hb3 : Below w.heap.size w w3 := (Below.refl _ _).grown hgrow3 (Nat.le_refl _) (fun k hk => by cases hk); have hx3 := Lib.hid (own_rd hown3); clear hown3 hgrow3)
    | (at_builtin; refine wpList_append_own_none rfl _ (.tmp 32) 22 rfl w3.heap.size 3 i0 1 Try.underlying22 hi _ _ _ rfl (World.ownsRow_nil _ w3.heap.size 3 1) rfl ?_)
    | (go_at_call 29; ((with_reducible refine (h29.out _).mono ?_); rintro e w5 ⟨rfl, rfl⟩))
    | (go_at_call 33; ((with_reducible refine (h33.out _).mono ?_); rintro e w5 ⟨rfl, rfl⟩))
    | (go_at_call 30; ((with_reducible refine (lines_good _ _ zb [] T M _ hx3.out (nil_rd _ none 0) HG.out).mono ?_); rintro e w7 ⟨g, hg, rfl, hr7, hb7⟩; have hR7 := Lib.hid hr7; clear hr7))
    | (go_at_call 34; ((with_reducible refine (rlines_good _ _ zb [] T M _ ((RB.out.below hb3).below hb7) (nil_rd _ none 0) HG.out).mono ?_); rintro e w8 ⟨g8, _, rfl, hr8, hb8⟩; have hR8 := Lib.hid hr8; clear hr8; have hR9 := Lib.hid (hR7.out.of_block (hb8.block _ hR7.out.lt))))
    | (go_at_call 26; ((with_reducible refine (same_yes (.slice (some ⟨g, 0, none⟩) 256 256) (.slice (some ⟨g8, 0, none⟩) 256 256) _ _ (by simp) (lf_rd hR9.out) (lf_rd hR8.out)).mono ?_); rintro e w6 ⟨rfl, hb6⟩; have hR6 := Lib.hid (hR9.out.of_block (hb6.block _ hR9.out.lt)))))
  have hb9 := belowT hb7 (belowT hb8 hb6)
  go_loopw [21] (fun i wr => ∃ k : Nat, k ≤ 256 ∧ i = .int .i64 k ∧ Below w3.heap.size w3 wr ∧ ∃ F, Hid (wr.rowIs g 3 256 F)) (fun i _ => 256 - (intOf i).toNat)
  case atStart => exact ⟨0, by omega, rfl, hb9, _, hR6⟩
  case round =>
    obtain ⟨k, hk, rfl, hbel, F, hR⟩ := hrel
    by_cases hlt : k < 256
    · have qo := hR.out.cell hlt
      have qf := hR.out.frozen k
      have hst := Lib.hid (hR.out.set k (.int .i64 7))
      go_wp2
      go_roundw
      case rel => exact ⟨k + 1, by omega, by go_num, hbel.setCell (p := ⟨g, k, none⟩) hg _, _, hst⟩
      case measure => simp [intOf]; omega
    · clear hR
      have hend : k = 256 := by omega
      subst hend
      go_wp2_with (first
        | (go_at_call 26; have hq := hba; clear hq; ((with_reducible refine (same_yes _ _ [] _ (by simp) (nil_rd _ none 0) (nil_rd _ none 0)).mono ?_); rintro e wc ⟨rfl, hbc⟩))
        | (go_at_call 26; ((with_reducible refine (same_yes _ _ zb _ lb (hx3.out.below hbel) ((RB.out.below hb3).below hbel)).mono ?_); rintro e wa ⟨rfl, hba⟩)))
      go_ret
      exact ⟨rfl, belowT hb3 (belowT hbel (belowT hba hbc))⟩

set_option maxRecDepth 100000 in
set_option maxHeartbeats 2000000 in
theorem gs (s : Int) (x0 : Addr) (c0 : Nat) (zb : List Int) (x1 : Addr) (c1 : Nat) (za : List Int) (T M : Int) (w : World) (s0 : 0 ≤ s) (rb : Rd w (.slice (some x0) zb.length c0) zb) (kb : Cl w x0 zb) (lb : zb.length ≤ 1000) (ra : Rd w (.slice (some x1) za.length c1) za) (ka : Cl w x1 za) (la : za.length ≤ 1000) (hG : Lo.Good zb za T M) :
    Calls Try.prog 13 #[.int .u8 s, .slice (some x0) zb.length c0, .slice (some x1) za.length c1, .int .i64 T, .int .i64 M] w fun e w' => e = .returned (.bool true) ∧ Below w.heap.size w w' := by
  obtain ⟨i0, hi, hz0, hz1, hz2⟩ := info_parts info3
  obtain ⟨A, hA⟩ : ∃ A, seqA s = A := ⟨_, rfl⟩
  obtain ⟨E, hE⟩ : ∃ E, seqE s = E := ⟨_, rfl⟩
  have hEb : 0 ≤ E ∧ E ≤ 2 := by rw [← hE]; unfold seqE; split <;> omega
  have H29 : ∀ w, Calls Try.prog 29 #[.int .u8 s] w fun e w' => e = .returned (.tuple #[.int .u8 A, .int .i64 E]) ∧ w = w' := fun w => by rw [← hA, ← hE]; exact seq_any s w s0
  have H33 : ∀ w, Calls Try.prog 33 #[.int .u8 s] w fun e w' => e = .returned (.tuple #[.int .u8 A, .int .i64 E]) ∧ w = w' := fun w => by rw [← hA, ← hE]; exact rseq_any s w s0
  obtain ⟨e0, e1⟩ := hEb
  clear hA hE
  have h29 := Lib.hid H29
  have h33 := Lib.hid H33
  clear H29 H33
  have RB := Lib.hid rb
  have KB := Lib.hid kb
  clear rb kb
  have RA := Lib.hid ra
  have KA := Lib.hid ka
  clear ra ka
  have HG := Lib.hid hG
  clear hG
  go_enter Try.func13, Try.ntmps13
  go_wp2_with (first
    | (at_builtin; refine wpList_append_own _ rfl _ (.tmp 30) 22 rfl w.heap.size 3 i0 (.int .i64 0) 1 8 Try.underlying22 hi hz0 hz1 hz2 rfl (by decide) _ _ _ rfl (World.ownsRow_nil w w.heap.size 3 1) x0 zb.length c0 (zb.map (Value.int .i64)) rfl (by simp) KB.out (one64 _) (by unfold maxLen; omega) (by omega) (Nat.le_refl _) ?_; intro v3 w3 hown3 hgrow3 _; have hb3 : Below w.heap.size w w3 := (Below.refl _ _).grown hgrow3 (Nat.le_refl _) (fun k hk => by cases hk); have hx3 := Lib.hid (own_rd hown3); clear hown3 hgrow3)
    | (at_builtin; refine wpList_append_own _ rfl _ (.tmp 32) 22 rfl w3.heap.size 3 i0 (.int .i64 0) 1 8 Try.underlying22 hi hz0 hz1 hz2 rfl (by decide) _ _ _ rfl (World.ownsRow_nil w3 w3.heap.size 3 1) x1 za.length c1 (za.map (Value.int .i64)) rfl (by simp) (KA.out.below hb3) (one64 _) (by unfold maxLen; omega) (by omega) (Nat.le_refl _) ?_; intro v4 w4 hown4 hgrow4 _; have hb4 : Below w3.heap.size w3 w4 := (Below.refl _ _).grown hgrow4 (Nat.le_refl _) (fun k hk => by cases hk); have hx4 := Lib.hid (own_rd hown4); clear hown4 hgrow4)
    | (go_at_call 29; ((with_reducible refine (h29.out _).mono ?_); rintro e w5 ⟨rfl, rfl⟩))
    | (go_at_call 33; ((with_reducible refine (h33.out _).mono ?_); rintro e w5 ⟨rfl, rfl⟩))
    | (go_at_call 30; ((with_reducible refine (lines_good _ _ zb za T M _ (hx3.out.below hb4) hx4.out HG.out).mono ?_); rintro e w7 ⟨g, hg, rfl, hr7, hb7⟩; have hR7 := Lib.hid hr7; clear hr7))
    | (go_at_call 34; ((with_reducible refine (rlines_good _ _ zb za T M _ ((RB.out.below (belowT hb3 hb4)).below hb7) ((RA.out.below (belowT hb3 hb4)).below hb7) HG.out).mono ?_); rintro e w8 ⟨g8, _, rfl, hr8, hb8⟩; have hR8 := Lib.hid hr8; clear hr8; have hR9 := Lib.hid (hR7.out.of_block (hb8.block _ hR7.out.lt))))
    | (go_at_call 26; ((with_reducible refine (same_yes (.slice (some ⟨g, 0, none⟩) 256 256) (.slice (some ⟨g8, 0, none⟩) 256 256) _ _ (by simp) (lf_rd hR9.out) (lf_rd hR8.out)).mono ?_); rintro e w6 ⟨rfl, hb6⟩; have hR6 := Lib.hid (hR9.out.of_block (hb6.block _ hR9.out.lt)))))
  have hb9 := belowT hb7 (belowT hb8 hb6)
  go_loopw [21] (fun i wr => ∃ k : Nat, k ≤ 256 ∧ i = .int .i64 k ∧ Below w4.heap.size w4 wr ∧ ∃ F, Hid (wr.rowIs g 3 256 F)) (fun i _ => 256 - (intOf i).toNat)
  case atStart => exact ⟨0, by omega, rfl, hb9, _, hR6⟩
  case round =>
    obtain ⟨k, hk, rfl, hbel, F, hR⟩ := hrel
    by_cases hlt : k < 256
    · have qo := hR.out.cell hlt
      have qf := hR.out.frozen k
      have hst := Lib.hid (hR.out.set k (.int .i64 7))
      go_wp2
      go_roundw
      case rel => exact ⟨k + 1, by omega, by go_num, hbel.setCell (p := ⟨g, k, none⟩) hg _, _, hst⟩
      case measure => simp [intOf]; omega
    · clear hR
      have hend : k = 256 := by omega
      subst hend
      go_wp2_with (first
        | (go_at_call 26; have hq := hba; clear hq; ((with_reducible refine (same_yes _ _ za _ la ((hx4.out.below hbel).below hba) (((RA.out.below (belowT hb3 hb4)).below hbel).below hba)).mono ?_); rintro e wc ⟨rfl, hbc⟩))
        | (go_at_call 26; ((with_reducible refine (same_yes _ _ zb _ lb ((hx3.out.below hb4).below hbel) ((RB.out.below (belowT hb3 hb4)).below hbel)).mono ?_); rintro e wa ⟨rfl, hba⟩)))
      go_ret
      exact ⟨rfl, belowT (belowT hb3 hb4) (belowT hbel (belowT hba hbc))⟩

theorem long (s : Int) (a0 a1 : Option Addr) (l0 l1 c0 c1 : Nat) (T M : Int) (w : World) (m0 : l0 ≤ maxLen) (m1 : l1 ≤ maxLen) (h : 1000 < l0 ∨ 1000 < l1) :
    Calls Try.prog 13 #[.int .u8 s, .slice a0 l0 c0, .slice a1 l1 c1, .int .i64 T, .int .i64 M] w fun e w' => e = .returned (.bool true) ∧ Below w.heap.size w w' := by
  unfold maxLen at m0 m1
  by_cases h0 : 1000 < l0
  · go_enter Try.func13, Try.ntmps13
    go_wp2
    go_ret
    exact ⟨rfl, Below.refl _ _⟩
  · have h1 : 1000 < l1 := by omega
    clear h
    go_enter Try.func13, Try.ntmps13
    go_wp2
    go_ret
    exact ⟨rfl, Below.refl _ _⟩

/-- What came in, in the walk's two forms. -/
theorem came {w : World} {a : Option Addr} {len cap : Nat} {zs : List Int} (h : IsRow .i64 w a len cap zs) : (a = none ∧ len = 0 ∧ cap = 0) ∨ ∃ x z, a = some x ∧ z.length = len ∧ Rd w (.slice (some x) z.length cap) z ∧ Cl w x z := by
  rcases h with ⟨rfl, rfl, rfl, rfl⟩ | ⟨x, rfl, hl, hm, hz, hc, hwf⟩
  · exact .inl ⟨rfl, rfl, rfl⟩
  · obtain ⟨z, h1, h2, _⟩ := (show IsRow .i64 w (some x) len cap zs from .inr ⟨x, rfl, hl, hm, hz, hc, hwf⟩).rd
    have hlen : (zs.take len).length = len := by simp; omega
    refine .inr ⟨x, zs.take len, rfl, hlen, ?_, fun j u hu => ?_⟩
    · rw [hlen]
      by_cases h0 : len = 0
      · subst h0; exact .inl ⟨_, _, rfl, by simp⟩
      · obtain ⟨b, off, rfl, hc'⟩ := ints_at hc (by omega)
        have hb := lt_of_cell (hc' 0 (by omega))
        refine .inr ⟨b, off, cap, by rw [hlen], hb, by omega, hm, fun i hi => ?_⟩
        rw [hlen] at hi
        rw [hc' i (by omega)]
        simp [hi]
    · have hj : j < len := by
        have h3 := (List.getElem?_eq_some_iff.1 hu).1
        rw [List.length_map, hlen] at h3
        exact h3
      rw [hc j (by omega), ← hu]
      simp [hj, List.getElem?_take, show j < zs.length by omega]

theorem walk (s : Int) (a0 : Option Addr) (l0 c0 : Nat) (z0 : List Int) (a1 : Option Addr) (l1 c1 : Nat) (z1 : List Int) (T M : Int) (w : World) (hs : (Lit.int .u8 s).wf = true) (w0 : IsRow .i64 w a0 l0 c0 z0) (w1 : IsRow .i64 w a1 l1 c1 z1) (_ : (Lit.int .i64 T).wf = true) (_ : (Lit.int .i64 M).wf = true) :
    Calls Try.prog 13 #[.int .u8 s, .slice a0 l0 c0, .slice a1 l1 c1, .int .i64 T, .int .i64 M] w fun e w' => e = .returned (.bool true) ∧ Below w.heap.size w w' := by
  have sb := bounds_u8 hs
  by_cases h : 1000 < l0 ∨ 1000 < l1
  · exact long s a0 a1 l0 l1 c0 c1 T M w w0.le w1.le h
  rcases came w0 with ⟨rfl, rfl, rfl⟩ | ⟨x0, zb, rfl, rfl, rb, kb⟩
  · rcases came w1 with ⟨rfl, rfl, rfl⟩ | ⟨x1, za, rfl, rfl, ra, ka⟩
    · exact nn s T M w sb.1 (fun g => by simp [Lo.Good] at g)
    · exact ns s x1 c1 za T M w sb.1 ra ka (by omega) (fun g => by simp [Lo.Good] at g)
  · rcases came w1 with ⟨rfl, rfl, rfl⟩ | ⟨x1, za, rfl, rfl, ra, ka⟩
    · by_cases hG : Lo.Good zb [] T M
      · exact gn s x0 c0 zb T M w sb.1 rb kb (by omega) hG
      · exact sn s x0 c0 zb T M w sb.1 rb kb (by omega) hG
    · by_cases hG : Lo.Good zb za T M
      · exact gs s x0 c0 zb x1 c1 za T M w sb.1 rb kb (by omega) ra ka (by omega) hG
      · exact ss s x0 c0 zb x1 c1 za T M w sb.1 rb kb (by omega) ra ka (by omega) hG

theorem own : ownKnob Try.prog.godebug = none := by kernel_rfl
theorem laidOut : laidOutB Try.prog = true := by kernel_rfl
set_option linter.unusedVariables false
set_option maxRecDepth 100000 in
theorem lifted (os : Os) (started : os.Started) (H : Type) (enc : TypeId × Value → H) :
    ReturnsInHanded {} Try.checked os 13 .any (Rows.loseDoesSpec.pre6 enc Try.prog Try.f13 Rows.loseDoesRow.domain false) (Rows.loseDoesSpec.post enc Try.prog Try.f13 false true false false) := by
  refine returnsInHanded_of_change (C := Try.checked) own started (by kernel_rfl) Try.func13
    (ChangeSpec.witness6 (enc := enc) (C := Try.checked) false ⟨#[], #[.int .u8 0, .slice none 0 0, .slice none 0 0, .int .i64 0, .int .i64 0], []⟩ 8 (by kernel_rfl) (by kernel_rfl) (by kernel_rfl) (by kernel_rfl)) ?_
  intro W base args ds gs before hval0 hW hcnd _
  have hval : ∀ (j : Nat) t v, Try.f13.params[j]? = some t → args[j]? = some v → Value.okWide Try.prog W .any base t v := hval0
  have hW' := hW
  obtain ⟨p, q, hA0, hV, rfl, hfz, hnd⟩ := hW
  have hA : DataW.TrodAll enc Try.prog W 0 (fun _ => true) true Try.f13.params.toList args.toList ds p := hA0
  rw [Try.params13] at hA hval
  obtain ⟨v0, vs0, d0, ds0, p0, q0, hargs, rfl, rfl, h0, r0⟩ := trodAll_cons hA
  obtain ⟨v1, vs1, d1, ds1, p1, q1, rfl, rfl, rfl, h1, r1⟩ := trodAll_cons r0
  obtain ⟨v2, vs2, d2, ds2, p2, q2, rfl, rfl, rfl, h2, r2⟩ := trodAll_cons r1
  obtain ⟨v3, vs3, d3, ds3, p3, q3, rfl, rfl, rfl, h3, r3⟩ := trodAll_cons r2
  obtain ⟨v4, vs4, d4, ds4, p4, q4, rfl, rfl, rfl, h4, r4⟩ := trodAll_cons r3
  obtain ⟨rfl, rfl, rfl⟩ := trodAll_nil r4
  obtain rfl : args = #[v0, v1, v2, v3, v4] := by cases args; simp_all
  obtain ⟨rfl, rfl⟩ := trodVars_none hV
  obtain ⟨a0, rfl, rfl, rfl, w0⟩ := open_int Try.underlying5 (hval 0 5 v0 rfl rfl) h0
  obtain ⟨a1, len1, cap1, rfl⟩ := okWide_slice Try.underlying22 (hval 1 22 v1 rfl rfl)
  have k1 := h1
  have lt1 : ∀ x ∈ p1, x.block < W.heap.size := by obtain ⟨m, hm⟩ := k1; exact DataW.trod_lt m _ _ _ hm
  obtain ⟨z1, w1⟩ : ∃ zs, IsRow .i64 W a1 len1 cap1 zs := by
    obtain ⟨fuel, hf⟩ := h1
    rcases open_ints Try.underlying22 Try.underlying3 (by kernel_rfl) hf with ⟨hcs, _⟩ | ⟨x, l, c, zs, hcs, _, hl, hm, hz, _, hcell, hwz⟩
    · simp [Value.cells] at hcs
      obtain ⟨rfl, rfl, rfl⟩ := hcs
      exact ⟨[], .inl ⟨rfl, rfl, rfl, rfl⟩⟩
    · simp [Value.cells] at hcs
      obtain ⟨rfl, rfl, rfl⟩ := hcs
      exact ⟨zs, .inr ⟨_, rfl, hl, hm, by simpa using hz, hcell, hwz⟩⟩
  obtain ⟨a2, len2, cap2, rfl⟩ := okWide_slice Try.underlying22 (hval 2 22 v2 rfl rfl)
  have k2 := h2
  have lt2 : ∀ x ∈ p2, x.block < W.heap.size := by obtain ⟨m, hm⟩ := k2; exact DataW.trod_lt m _ _ _ hm
  obtain ⟨z2, w2⟩ : ∃ zs, IsRow .i64 W a2 len2 cap2 zs := by
    obtain ⟨fuel, hf⟩ := h2
    rcases open_ints Try.underlying22 Try.underlying3 (by kernel_rfl) hf with ⟨hcs, _⟩ | ⟨x, l, c, zs, hcs, _, hl, hm, hz, _, hcell, hwz⟩
    · simp [Value.cells] at hcs
      obtain ⟨rfl, rfl, rfl⟩ := hcs
      exact ⟨[], .inl ⟨rfl, rfl, rfl, rfl⟩⟩
    · simp [Value.cells] at hcs
      obtain ⟨rfl, rfl, rfl⟩ := hcs
      exact ⟨zs, .inr ⟨_, rfl, hl, hm, by simpa using hz, hcell, hwz⟩⟩
  obtain ⟨a3, rfl, rfl, rfl, w3⟩ := open_int Try.underlying3 (hval 3 3 v3 rfl rfl) h3
  obtain ⟨a4, rfl, rfl, rfl, w4⟩ := open_int Try.underlying3 (hval 4 3 v4 rfl rfl) h4
  clear hA0 hval0
  refine (walk a0 a1 len1 cap1 z1 a2 len2 cap2 z2 a3 a4 W w0 w1 w2 w3 w4).mono fun e W' ⟨he, bel⟩ => ?_
  subst he
  exact ⟨_, rfl, _, _, _, [], _, [], hW', trodAll_mk1 (shut_bool Try.underlying4 _), (trodAll_cons_mk (shut_int Try.underlying5 w0) (trodAll_cons_mk (Below.trod laidOut (by kernel_rfl) (of_decide_eq_true (by kernel_rfl)) k1 bel lt1) (trodAll_cons_mk (Below.trod laidOut (by kernel_rfl) (of_decide_eq_true (by kernel_rfl)) k2 bel lt2) (trodAll_cons_mk (shut_int Try.underlying3 w3) (trodAll_cons_mk (shut_int Try.underlying3 w4) trodAll_mk0))))), rfl, bel.frame _, fun h => by cases h⟩

theorem over : Rows.loseDoesRow.holds Try.pinned (OpenSpec.ofChange Rows.loseDoesSpec) :=
  OpenClaim.holds_of_wide 13 Try.f13 rfl rfl rfl rfl rfl rfl rfl ⟨rfl, rfl, rfl, rfl, rfl⟩ rfl rfl rfl rfl rfl (by kernel_rfl) Try.func13 (by kernel_rfl)
    (of_decide_eq_true (by kernel_rfl)) (by unfold Func.isWrapper; first | (rw [if_pos (by decide +kernel)]; kernel_rfl) | (rw [if_neg (by decide +kernel)]; exact ⟨rfl, rfl⟩))
    (fun os started H enc _ => lifted os started H enc)

theorem proved : Rows.LoseDoesSaid := over
end Go.Proofs.Ytnbbjobmaakogaa.loseDoes
