/- What is put is got, whatever stands around it. BitsBack returns true, whatever the number, its size, the bytes and the place, the memory and the schedule. No condition. -/
import Derived.Test.YteoljcbebiemlaaBiSrc
import Derived.WalkKit
import Derived.OwnWalk
import Derived.Deep.QuietTactic
import Derived.BigQuiet
import Derived.ProofKit
import Derived.OpenShut
import Derived.ShutString
import Derived.ChangeOld
import Derived.Below
import Derived.Lib.Hide
namespace Go.Proofs.Yteoljcbebiemlaa.bitsBack
open Go Go.ChangeShapes Go.WideShapes Go.ChangeAt Go.RowKit Go.Proofs.Yteoljcbebiemlaa.Bi
open Go.Proofs.Yteoljcbebiemlaa.Cr (belowT below_grown Sl IsRow)

theorem drewN_below (w : World) : ∀ n, Below w.heap.size w (w.drewN n)
  | 0 => Below.refl _ _
  | n + 1 => (drewN_below w n).drew
theorem retB {a : Bool} (h : a = true) : Ending.returned (.bool a) = .returned (.bool true) := by rw [h]
theorem conv_d {w : World} {v : Value} {zs : List Int} (h : Src8 w v zs) (n : Nat) : (convert 22 9 v).run Try.prog (w.drewN n) = .ok (.string (strOfNums zs)) (w.drewN n) := conv_src (h.below (drewN_below w n))
theorem head_src {w : World} {base g n cap : Nat} {za zs : List Int} (h : Cr.Own base w (.slice (some ⟨g, 0, none⟩) n cap) (za ++ zs)) : Src8 w (.slice (some ⟨g, 0, none⟩) za.length cap) za := by
  have hcells := @World.ownsRow.cells _ _ _ _ _ _ _ h
  exact .inr ⟨_, _, rfl, fun j u hu => hcells rfl j u (by rw [List.map_append, List.getElem?_append_left (List.getElem?_eq_some_iff.1 hu).1]; exact hu)⟩
theorem own_cap {base g n cap : Nat} {w : World} {zs : List Int} (h : Cr.Own base w (.slice (some ⟨g, 0, none⟩) n cap) zs) : n ≤ cap ∧ cap ≤ 9223372036854775807 := by
  obtain ⟨hx, ⟨e, _⟩ | ⟨g', cap', cur, e, hg, hh, hc, hm, hs, ht⟩⟩ := h
  · simp at e
  · simp only [Value.slice.injEq] at e
    obtain ⟨_, rfl, rfl⟩ := e
    unfold maxLen at hm
    exact ⟨hc, by omega⟩
theorem mid_take (za ys zb : List Int) : ((([] ++ (za ++ ys)) ++ zb).drop za.length).take ys.length = ys := by
  simp [List.drop_append, List.take_append]
theorem getB {base : Nat} {w : World} {v : Value} {za zb : List Int} {N : Int} {s : Nat} (ho : Cr.Own base w v (([] ++ (za ++ bi N s)) ++ zb)) (hza : ∀ z ∈ za, 0 ≤ z ∧ z ≤ 255) (hzb : ∀ z ∈ zb, 0 ≤ z ∧ z ≤ 255) (s1 : s ≤ 31) (n0 : 0 ≤ N) (n1 : N < 2 ^ s) :
    Calls Try.prog 16 #[v, .int .i64 za.length, .int .i64 s] w fun e w' => e = .returned (.tuple #[.int .i64 N, .int .i64 ((za.length : Int) + s), .int .i64 0]) ∧ w = w' := by
  have e := mid_take za (bi N s) zb
  rw [bi_len] at e
  have hb := bi_bits N s
  have := get_own ho (fun z hz => by
    simp only [List.nil_append, List.append_assoc, List.mem_append] at hz
    rcases hz with h | h | h
    · exact hza z h
    · rcases hb z h with h | h <;> omega
    · exact hzb z h) za.length s s1 (by simp [bi_len]) (by rw [e]; exact hb)
  rw [e, num_bi s N n0 n1] at this
  exact this

set_option maxRecDepth 100000 in
set_option maxHeartbeats 4000000 in
theorem k_err (N : Int) (s : Nat) (a0 : Option Addr) (c0 : Nat) (za : List Int) (a1 : Option Addr) (c1 : Nat) (zb : List Int) (A : Int) (w : World) (lb : zb.length ≤ 1000) (la : za.length ≤ 1000) (ra : Src8 w (.slice a0 za.length c0) za) (rb : Src8 w (.slice a1 zb.length c1) zb) (s1 : s ≤ 31) (n0 : 0 ≤ N) (n1 : N < 2 ^ s) (hza : ∀ z ∈ za, 0 ≤ z ∧ z ≤ 255) (hzb : ∀ z ∈ zb, 0 ≤ z ∧ z ≤ 255) (r : Int) (r0 : (r == 0) = false) (hG : ∀ w1, Below w.heap.size w w1 → Calls Try.prog 16 #[.slice a1 zb.length c1, .int .i64 A, .int .i64 s] w1 fun e w' => e = .returned (.tuple #[.int .i64 0, .int .i64 0, .int .i64 r]) ∧ w1 = w') :
    Calls Try.prog 6 #[.int .i64 N, .int .i64 s, .slice a0 za.length c0, .slice a1 zb.length c1, .int .i64 A] w fun e w' => e = .returned (.bool true) ∧ Below w.heap.size w w' := by
  have RA := Lib.hid ra
  have r1 : (r != 0) = true := by rw [bne, r0]; rfl
  have HG := Lib.hid hG
  clear ra hG
  have RB := Lib.hid rb
  clear rb
  have HP : Hid (∀ w1, Below w.heap.size w w1 → Calls Try.prog 15 #[.slice a0 za.length c0, .int .i64 N, .int .i64 s] w1 fun e w' => ∃ g cap, e = .returned (.tuple #[.slice (some ⟨g, 0, none⟩) (za.length + s) cap, .int .i64 0]) ∧ Cr.Own w1.heap.size w' (.slice (some ⟨g, 0, none⟩) (za.length + s) cap) (za ++ bi N s) ∧ Below w1.heap.size w1 w') := Lib.hid fun w1 hw => put_src N s w1 (RA.out.below hw) (by omega) s1 n0 n1
  have HB : Hid (∀ (base : Nat) (w : World) (v : Value), Cr.Own base w v (([] ++ (za ++ bi N s)) ++ zb) → Calls Try.prog 16 #[v, .int .i64 za.length, .int .i64 s] w fun e w' => e = .returned (.tuple #[.int .i64 N, .int .i64 ((za.length : Int) + s), .int .i64 0]) ∧ w = w') := Lib.hid fun _ _ _ ho => getB ho hza hzb s1 n0 n1
  have n2 : N ≤ 2147483648 := by have := pow_bd (s := s) (by omega); omega
  have hlen := bi_len N s
  have z1 : IntKind.i64.wrap ((za.length : Int) + (s : Int)) = (za.length : Int) + (s : Int) := i64_in (by omega) (by omega)
  have z2 : IntKind.i64.wrap (za.length : Int) = za.length := i64_in (by omega) (by omega)
  clear n1 hza hzb
  go_enter Try.func6, Try.ntmps6
  go_wp2_with (first
    | (go_at_call 19; ((with_reducible refine (alive_ok _).mono ?_); rintro e w1 ⟨rfl, hb1⟩))
    | (go_at_call 15; ((with_reducible refine (HP.out _ hb1).mono ?_); rintro e w2 ⟨g, cap, rfl, ho2, hb2⟩; have hb12 := belowT hb1 hb2; have hoe : Cr.Own w2.heap.size (w2.alloc (.cells #[] 5)) (.slice (some ⟨w2.heap.size, 0, none⟩) 0 0) [] := World.ownsRow_made w2 #[] 0 (Nat.le_refl _) (Nat.zero_le _) rfl; have hba : Below w2.heap.size w2 (w2.alloc (.cells #[] 5)) := (Below.refl _ _).alloc (Nat.le_refl _) _; have hsz := hba.size))
    | (at_builtin; refine wpList_append_src _ rfl (.tmp 46) (.tmp 47) rfl w2.heap.size _ [] rfl hoe _ (za ++ bi N s) rfl (own_src (Cr.Own.below ho2 hba)) (by simp [hlen]; omega) hsz ?_; intro v3 w3 ho3 hg3 _; have hb3 := below_grown hba hoe (Nat.le_refl _) hg3; have hs3 := hb3.size)
    | (at_builtin; refine wpList_append_src _ rfl (.tmp 48) (.tmp 49) rfl w2.heap.size _ _ rfl ho3 _ zb rfl (RB.out.below (belowT hb12 hb3)) (by simp [hlen]; omega) hs3 ?_; intro v4 w4 ho4 hg4 _; have hb4 := below_grown hb3 ho3 (Nat.le_refl _) hg4; have hb24 := belowT hb12 hb4)
    | (go_at_call 16; ((with_reducible refine (HB.out _ _ _ ho4).mono ?_); rintro e w5 ⟨rfl, rfl⟩; have q1 := conv_d (head_src (Cr.Own.below ho2 hb4)); have q2 := conv_d (RA.out.below hb24); have hcp := own_cap ho2; have hcp1 : (za.length : Int) ≤ (cap : Int) := (by omega); have hcp2 : za.length ≤ cap := (by omega))))
  go_quiet (fail)
  have hd := drewN_below w4 nq
  generalize w4.drewN nq = w6 at *
  have hb6 := belowT hb24 hd
  go_wp2_with (first
    | (go_at_call 16; ((with_reducible refine (HG.out _ hb6).mono ?_); rintro e w7 ⟨rfl, rfl⟩)))
  go_ret
  exact ⟨rfl, hb6⟩

set_option maxRecDepth 100000 in
set_option maxHeartbeats 4000000 in
theorem k_none (N : Int)  (a0 : Option Addr) (c0 : Nat) (za : List Int)   (w : World) (la : za.length ≤ 1000) (ra : Src8 w (.slice a0 za.length c0) za) (n0 : 0 ≤ N) (n1 : N < 2 ^ 0) (hza : ∀ z ∈ za, 0 ≤ z ∧ z ≤ 255) (hG : ∀ w1, Below w.heap.size w w1 → Calls Try.prog 16 #[.slice none 0 0, .int .i64 0, .int .i64 0] w1 fun e w' => e = .returned (.tuple #[.int .i64 0, .int .i64 0, .int .i64 0]) ∧ w1 = w') :
    Calls Try.prog 6 #[.int .i64 N, .int .i64 0, .slice a0 za.length c0, .slice none 0 0, .int .i64 0] w fun e w' => e = .returned (.bool true) ∧ Below w.heap.size w w' := by
  have RA := Lib.hid ra
  have HC : Hid (∀ w1, Calls Try.prog 15 #[.slice none 0 0, .int .i64 0, .int .i64 0] w1 fun e w' => ∃ g cap, e = .returned (.tuple #[.slice (some ⟨g, 0, none⟩) 0 cap, .int .i64 0]) ∧ Cr.Own w1.heap.size w' (.slice (some ⟨g, 0, none⟩) 0 cap) [] ∧ Below w1.heap.size w1 w') := Lib.hid fun w1 => by
    have := put_src 0 0 w1 (v0 := .slice none 0 0) (.inl ⟨rfl, rfl⟩) (by simp) (by omega) (by omega) (by decide)
    simpa [bi] using this
  have HG := Lib.hid hG
  clear ra hG
  have HP : Hid (∀ w1, Below w.heap.size w w1 → Calls Try.prog 15 #[.slice a0 za.length c0, .int .i64 N, .int .i64 0] w1 fun e w' => ∃ g cap, e = .returned (.tuple #[.slice (some ⟨g, 0, none⟩) (za.length + 0) cap, .int .i64 0]) ∧ Cr.Own w1.heap.size w' (.slice (some ⟨g, 0, none⟩) (za.length + 0) cap) (za ++ bi N 0) ∧ Below w1.heap.size w1 w') := Lib.hid fun w1 hw => put_src N 0 w1 (RA.out.below hw) (by omega) (by omega) n0 n1
  have HB : Hid (∀ (base : Nat) (w : World) (v : Value), Cr.Own base w v (([] ++ (za ++ bi N 0)) ++ []) → Calls Try.prog 16 #[v, .int .i64 za.length, .int .i64 0] w fun e w' => e = .returned (.tuple #[.int .i64 N, .int .i64 (za.length), .int .i64 0]) ∧ w = w') := Lib.hid fun _ _ _ ho => by simpa using getB ho hza (fun z h => by cases h) (s := 0) (by omega) n0 n1
  have n2 : N ≤ 2147483648 := by have := pow_bd (s := 0) (by omega); omega
  have hlen := bi_len N 0
  have z1 : IntKind.i64.wrap ((za.length : Int) + (0 : Int)) = (za.length : Int) + (0 : Int) := i64_in (by omega) (by omega)
  have z2 : IntKind.i64.wrap (za.length : Int) = za.length := i64_in (by omega) (by omega)
  clear n1 hza
  go_enter Try.func6, Try.ntmps6
  go_wp2_with (first
    | (go_at_call 19; ((with_reducible refine (alive_ok _).mono ?_); rintro e w1 ⟨rfl, hb1⟩))
    | (go_at_call 15; ((with_reducible refine (HP.out _ hb1).mono ?_); rintro e w2 ⟨g, cap, rfl, ho2, hb2⟩; have hb12 := belowT hb1 hb2; have hoe : Cr.Own w2.heap.size (w2.alloc (.cells #[] 5)) (.slice (some ⟨w2.heap.size, 0, none⟩) 0 0) [] := World.ownsRow_made w2 #[] 0 (Nat.le_refl _) (Nat.zero_le _) rfl; have hba : Below w2.heap.size w2 (w2.alloc (.cells #[] 5)) := (Below.refl _ _).alloc (Nat.le_refl _) _; have hsz := hba.size))
    | (at_builtin; refine wpList_append_src _ rfl (.tmp 46) (.tmp 47) rfl w2.heap.size _ [] rfl hoe _ (za ++ bi N 0) rfl (own_src (Cr.Own.below ho2 hba)) (by simp [hlen]; omega) hsz ?_; intro v3 w3 ho3 hg3 _; have hb3 := below_grown hba hoe (Nat.le_refl _) hg3; have hs3 := hb3.size)
    | (at_builtin; refine wpList_append_src _ rfl (.tmp 48) (.tmp 49) rfl w2.heap.size _ _ rfl ho3 _ [] rfl (.inl ⟨rfl, rfl⟩) (by simp [hlen]; omega) hs3 ?_; intro v4 w4 ho4 hg4 _; have hb4 := below_grown hb3 ho3 (Nat.le_refl _) hg4; have hb24 := belowT hb12 hb4)
    | (go_at_call 16; ((with_reducible refine (HB.out _ _ _ ho4).mono ?_); rintro e w5 ⟨rfl, rfl⟩; have q1 := conv_d (head_src (Cr.Own.below ho2 hb4)); have q2 := conv_d (RA.out.below hb24); have hcp := own_cap ho2; have hcp1 : (za.length : Int) ≤ (cap : Int) := (by omega); have hcp2 : za.length ≤ cap := (by omega))))
  go_quiet (fail)
  have hd := drewN_below w4 nq
  generalize w4.drewN nq = w6 at *
  have hb6 := belowT hb24 hd
  go_wp2_with (first
    | (go_at_call 16; ((with_reducible refine (HG.out _ hb6).mono ?_); rintro e w7 ⟨rfl, rfl⟩))
    | (go_at_call 15; have hq := HG; ((with_reducible refine (HC.out _).mono ?_); rintro e w8 ⟨g8, cap8, rfl, ho8, hb8⟩; have q3 := conv_d (own_src ho8); have q4 := conv_d (w := w8) (.inl ⟨rfl, rfl⟩))))
  go_quiet (fail)
  go_wp2
  go_ret
  exact ⟨rfl, belowT hb6 (belowT hb8 (drewN_below _ _))⟩

set_option maxRecDepth 100000 in
set_option maxHeartbeats 4000000 in
theorem k_eq (N : Int)  (a0 : Option Addr) (c0 : Nat) (za : List Int) (x1 : Addr) (zb : List Int)  (w : World) (lb : zb.length ≤ 1000) (la : za.length ≤ 1000) (ra : Src8 w (.slice a0 za.length c0) za) (rb : Src8 w (.slice (some x1) zb.length zb.length) zb) (n0 : 0 ≤ N) (n1 : N < 2 ^ 0) (hza : ∀ z ∈ za, 0 ≤ z ∧ z ≤ 255) (hzb : ∀ z ∈ zb, 0 ≤ z ∧ z ≤ 255) (hG : ∀ w1, Below w.heap.size w w1 → Calls Try.prog 16 #[.slice (some x1) zb.length zb.length, .int .i64 zb.length, .int .i64 0] w1 fun e w' => e = .returned (.tuple #[.int .i64 0, .int .i64 zb.length, .int .i64 0]) ∧ w1 = w') :
    Calls Try.prog 6 #[.int .i64 N, .int .i64 0, .slice a0 za.length c0, .slice (some x1) zb.length zb.length, .int .i64 zb.length] w fun e w' => e = .returned (.bool true) ∧ Below w.heap.size w w' := by
  have RA := Lib.hid ra
  have HC : Hid (∀ w1, Calls Try.prog 15 #[.slice none 0 0, .int .i64 0, .int .i64 0] w1 fun e w' => ∃ g cap, e = .returned (.tuple #[.slice (some ⟨g, 0, none⟩) 0 cap, .int .i64 0]) ∧ Cr.Own w1.heap.size w' (.slice (some ⟨g, 0, none⟩) 0 cap) [] ∧ Below w1.heap.size w1 w') := Lib.hid fun w1 => by
    have := put_src 0 0 w1 (v0 := .slice none 0 0) (.inl ⟨rfl, rfl⟩) (by simp) (by omega) (by omega) (by decide)
    simpa [bi] using this
  have HG := Lib.hid hG
  clear ra hG
  have RB := Lib.hid rb
  clear rb
  have HP : Hid (∀ w1, Below w.heap.size w w1 → Calls Try.prog 15 #[.slice a0 za.length c0, .int .i64 N, .int .i64 0] w1 fun e w' => ∃ g cap, e = .returned (.tuple #[.slice (some ⟨g, 0, none⟩) (za.length + 0) cap, .int .i64 0]) ∧ Cr.Own w1.heap.size w' (.slice (some ⟨g, 0, none⟩) (za.length + 0) cap) (za ++ bi N 0) ∧ Below w1.heap.size w1 w') := Lib.hid fun w1 hw => put_src N 0 w1 (RA.out.below hw) (by omega) (by omega) n0 n1
  have HB : Hid (∀ (base : Nat) (w : World) (v : Value), Cr.Own base w v (([] ++ (za ++ bi N 0)) ++ zb) → Calls Try.prog 16 #[v, .int .i64 za.length, .int .i64 0] w fun e w' => e = .returned (.tuple #[.int .i64 N, .int .i64 (za.length), .int .i64 0]) ∧ w = w') := Lib.hid fun _ _ _ ho => by simpa using getB ho hza hzb (s := 0) (by omega) n0 n1
  have n2 : N ≤ 2147483648 := by have := pow_bd (s := 0) (by omega); omega
  have hlen := bi_len N 0
  have z1 : IntKind.i64.wrap ((za.length : Int) + (0 : Int)) = (za.length : Int) + (0 : Int) := i64_in (by omega) (by omega)
  have z2 : IntKind.i64.wrap (za.length : Int) = za.length := i64_in (by omega) (by omega)
  clear n1 hza hzb
  go_enter Try.func6, Try.ntmps6
  go_wp2_with (first
    | (go_at_call 19; ((with_reducible refine (alive_ok _).mono ?_); rintro e w1 ⟨rfl, hb1⟩))
    | (go_at_call 15; ((with_reducible refine (HP.out _ hb1).mono ?_); rintro e w2 ⟨g, cap, rfl, ho2, hb2⟩; have hb12 := belowT hb1 hb2; have hoe : Cr.Own w2.heap.size (w2.alloc (.cells #[] 5)) (.slice (some ⟨w2.heap.size, 0, none⟩) 0 0) [] := World.ownsRow_made w2 #[] 0 (Nat.le_refl _) (Nat.zero_le _) rfl; have hba : Below w2.heap.size w2 (w2.alloc (.cells #[] 5)) := (Below.refl _ _).alloc (Nat.le_refl _) _; have hsz := hba.size))
    | (at_builtin; refine wpList_append_src _ rfl (.tmp 46) (.tmp 47) rfl w2.heap.size _ [] rfl hoe _ (za ++ bi N 0) rfl (own_src (Cr.Own.below ho2 hba)) (by simp [hlen]; omega) hsz ?_; intro v3 w3 ho3 hg3 _; have hb3 := below_grown hba hoe (Nat.le_refl _) hg3; have hs3 := hb3.size)
    | (at_builtin; refine wpList_append_src _ rfl (.tmp 48) (.tmp 49) rfl w2.heap.size _ _ rfl ho3 _ zb rfl (RB.out.below (belowT hb12 hb3)) (by simp [hlen]; omega) hs3 ?_; intro v4 w4 ho4 hg4 _; have hb4 := below_grown hb3 ho3 (Nat.le_refl _) hg4; have hb24 := belowT hb12 hb4)
    | (go_at_call 16; ((with_reducible refine (HB.out _ _ _ ho4).mono ?_); rintro e w5 ⟨rfl, rfl⟩; have q1 := conv_d (head_src (Cr.Own.below ho2 hb4)); have q2 := conv_d (RA.out.below hb24); have hcp := own_cap ho2; have hcp1 : (za.length : Int) ≤ (cap : Int) := (by omega); have hcp2 : za.length ≤ cap := (by omega))))
  go_quiet (fail)
  have hd := drewN_below w4 nq
  generalize w4.drewN nq = w6 at *
  have hb6 := belowT hb24 hd
  go_wp2_with (first
    | (go_at_call 16; ((with_reducible refine (HG.out _ hb6).mono ?_); rintro e w7 ⟨rfl, rfl⟩))
    | (go_at_call 15; have hq := HG; ((with_reducible refine (HC.out _).mono ?_); rintro e w8 ⟨g8, cap8, rfl, ho8, hb8⟩; have q3 := conv_d (own_src ho8); have q4 := conv_d (w := w8) ((.inr ⟨x1, 0, rfl, fun j u hu => by simp at hu⟩ : Src8 w8 (.slice (some x1) 0 0) [])))))
  go_quiet (fail)
  go_wp2
  go_ret
  exact ⟨rfl, belowT hb6 (belowT hb8 (drewN_below _ _))⟩

set_option maxRecDepth 100000 in
set_option maxHeartbeats 4000000 in
theorem k_lt (N : Int) (s : Nat) (a0 : Option Addr) (c0 : Nat) (za : List Int) (b1 o1 c1 : Nat) (zb : List Int) (A : Nat) (w : World) (lb : zb.length ≤ 1000) (la : za.length ≤ 1000) (ra : Src8 w (.slice a0 za.length c0) za) (rb : Src8 w (.slice (some ⟨b1, o1, none⟩) zb.length c1) zb) (s1 : s ≤ 31) (n0 : 0 ≤ N) (n1 : N < 2 ^ s) (hza : ∀ z ∈ za, 0 ≤ z ∧ z ≤ 255) (hzb : ∀ z ∈ zb, 0 ≤ z ∧ z ≤ 255) (hA : A < c1) (hAs : A + s ≤ zb.length) (hbits : Cr.Bits ((zb.drop A).take s)) (hc1 : zb.length ≤ c1) (hm1 : c1 ≤ maxLen) (hG : ∀ w1, Below w.heap.size w w1 → Calls Try.prog 16 #[.slice (some ⟨b1, o1, none⟩) zb.length c1, .int .i64 A, .int .i64 s] w1 fun e w' => e = .returned (.tuple #[.int .i64 (num ((zb.drop A).take s)), .int .i64 ((A : Int) + s), .int .i64 0]) ∧ w1 = w') :
    Calls Try.prog 6 #[.int .i64 N, .int .i64 s, .slice a0 za.length c0, .slice (some ⟨b1, o1, none⟩) zb.length c1, .int .i64 A] w fun e w' => e = .returned (.bool true) ∧ Below w.heap.size w w' := by
  have RA := Lib.hid ra
  obtain ⟨ys, hys⟩ : ∃ ys, (zb.drop A).take s = ys := ⟨_, rfl⟩
  have ly : ys.length = s := by rw [← hys]; simp; omega
  rw [hys] at hbits hG
  have hnb := num_bd s ys ly hbits
  have hpw := pow_bd s1
  have HC : Hid (∀ w1, Calls Try.prog 15 #[.slice none 0 0, .int .i64 (num ys), .int .i64 s] w1 fun e w' => ∃ g cap, e = .returned (.tuple #[.slice (some ⟨g, 0, none⟩) s cap, .int .i64 0]) ∧ Cr.Own w1.heap.size w' (.slice (some ⟨g, 0, none⟩) s cap) ys ∧ Below w1.heap.size w1 w') := Lib.hid fun w1 => by
    have := put_src (num ys) s w1 (v0 := .slice none 0 0) (.inl ⟨rfl, rfl⟩) (by simp) s1 hnb.1 hnb.2
    simp only [List.nil_append, List.length_nil, Nat.zero_add, bi_num s ys ly hbits] at this
    exact this
  have HS : Hid (∀ w1, Below w.heap.size w w1 → Src8 w1 (.slice (some ⟨b1, o1 + A, none⟩) s (c1 - A)) ys) := Lib.hid fun w1 hw => by
    have h := rb.below hw
    rcases h with ⟨e, _⟩ | ⟨x, c, e, hc⟩
    · simp at e
    · simp only [Value.slice.injEq, Option.some.injEq] at e
      obtain ⟨rfl, _, rfl⟩ := e
      refine .inr ⟨_, _, by rw [ly], fun j u hu => ?_⟩
      have hj : j < s := by have := (List.getElem?_eq_some_iff.1 hu).1; rw [List.length_map, ly] at this; exact this
      have := hc (A + j) u (by rw [← hu, ← hys]; simp [hj, List.getElem?_drop])
      rwa [show (⟨b1, o1, none⟩ : Addr).add (A + j) = (⟨b1, o1 + A, none⟩ : Addr).add j by rw [Addr.add_lit, Addr.add_lit, Nat.add_assoc]] at this
  have m0 : 0 ≤ num ys := hnb.1
  have m1 : num ys ≤ 2147483648 := by omega
  have hA' : ¬ c1 = A := by omega
  unfold maxLen at hm1
  have HG := Lib.hid hG
  clear hys hnb hpw ly hbits
  clear ra hG
  have RB := Lib.hid rb
  clear rb
  have HP : Hid (∀ w1, Below w.heap.size w w1 → Calls Try.prog 15 #[.slice a0 za.length c0, .int .i64 N, .int .i64 s] w1 fun e w' => ∃ g cap, e = .returned (.tuple #[.slice (some ⟨g, 0, none⟩) (za.length + s) cap, .int .i64 0]) ∧ Cr.Own w1.heap.size w' (.slice (some ⟨g, 0, none⟩) (za.length + s) cap) (za ++ bi N s) ∧ Below w1.heap.size w1 w') := Lib.hid fun w1 hw => put_src N s w1 (RA.out.below hw) (by omega) s1 n0 n1
  have HB : Hid (∀ (base : Nat) (w : World) (v : Value), Cr.Own base w v (([] ++ (za ++ bi N s)) ++ zb) → Calls Try.prog 16 #[v, .int .i64 za.length, .int .i64 s] w fun e w' => e = .returned (.tuple #[.int .i64 N, .int .i64 ((za.length : Int) + s), .int .i64 0]) ∧ w = w') := Lib.hid fun _ _ _ ho => getB ho hza hzb s1 n0 n1
  have n2 : N ≤ 2147483648 := by have := pow_bd (s := s) (by omega); omega
  have hlen := bi_len N s
  have z1 : IntKind.i64.wrap ((za.length : Int) + (s : Int)) = (za.length : Int) + (s : Int) := i64_in (by omega) (by omega)
  have z2 : IntKind.i64.wrap (za.length : Int) = za.length := i64_in (by omega) (by omega)
  clear n1 hza hzb
  go_enter Try.func6, Try.ntmps6
  go_wp2_with (first
    | (go_at_call 19; ((with_reducible refine (alive_ok _).mono ?_); rintro e w1 ⟨rfl, hb1⟩))
    | (go_at_call 15; ((with_reducible refine (HP.out _ hb1).mono ?_); rintro e w2 ⟨g, cap, rfl, ho2, hb2⟩; have hb12 := belowT hb1 hb2; have hoe : Cr.Own w2.heap.size (w2.alloc (.cells #[] 5)) (.slice (some ⟨w2.heap.size, 0, none⟩) 0 0) [] := World.ownsRow_made w2 #[] 0 (Nat.le_refl _) (Nat.zero_le _) rfl; have hba : Below w2.heap.size w2 (w2.alloc (.cells #[] 5)) := (Below.refl _ _).alloc (Nat.le_refl _) _; have hsz := hba.size))
    | (at_builtin; refine wpList_append_src _ rfl (.tmp 46) (.tmp 47) rfl w2.heap.size _ [] rfl hoe _ (za ++ bi N s) rfl (own_src (Cr.Own.below ho2 hba)) (by simp [hlen]; omega) hsz ?_; intro v3 w3 ho3 hg3 _; have hb3 := below_grown hba hoe (Nat.le_refl _) hg3; have hs3 := hb3.size)
    | (at_builtin; refine wpList_append_src _ rfl (.tmp 48) (.tmp 49) rfl w2.heap.size _ _ rfl ho3 _ zb rfl (RB.out.below (belowT hb12 hb3)) (by simp [hlen]; omega) hs3 ?_; intro v4 w4 ho4 hg4 _; have hb4 := below_grown hb3 ho3 (Nat.le_refl _) hg4; have hb24 := belowT hb12 hb4)
    | (go_at_call 16; ((with_reducible refine (HB.out _ _ _ ho4).mono ?_); rintro e w5 ⟨rfl, rfl⟩; have q1 := conv_d (head_src (Cr.Own.below ho2 hb4)); have q2 := conv_d (RA.out.below hb24); have hcp := own_cap ho2; have hcp1 : (za.length : Int) ≤ (cap : Int) := (by omega); have hcp2 : za.length ≤ cap := (by omega))))
  go_quiet (fail)
  have hd := drewN_below w4 nq
  generalize w4.drewN nq = w6 at *
  have hb6 := belowT hb24 hd
  go_wp2_with (first
    | (go_at_call 16; ((with_reducible refine (HG.out _ hb6).mono ?_); rintro e w7 ⟨rfl, rfl⟩))
    | (go_at_call 15; ((with_reducible refine (HC.out _).mono ?_); rintro e w8 ⟨g8, cap8, rfl, ho8, hb8⟩; have q3 := conv_d (own_src ho8); have q4 := conv_d (HS.out _ (belowT hb6 hb8)))))
  go_quiet (fail)
  go_wp2
  go_ret
  exact ⟨rfl, belowT hb6 (belowT hb8 (drewN_below _ _))⟩

set_option maxRecDepth 100000 in
set_option maxHeartbeats 4000000 in
theorem b_err (N : Int) (S : Int) (a0 : Option Addr) (c0 : Nat) (za : List Int) (a1 : Option Addr) (c1 : Nat) (zb : List Int) (A : Int) (w : World) (lb : zb.length ≤ 1000) (la : za.length ≤ 1000) (ra : Src8 w (.slice a0 za.length c0) za) (rb : Src8 w (.slice a1 zb.length c1) zb) (hP : ∀ w1, Calls Try.prog 15 #[.slice a0 za.length c0, .int .i64 N, .int .i64 S] w1 fun e w' => e = .returned (.tuple #[.slice none 0 0, .int .i64 2]) ∧ w1 = w') (r : Int) (r0 : (r == 0) = false) (hG : ∀ w1, Below w.heap.size w w1 → Calls Try.prog 16 #[.slice a1 zb.length c1, .int .i64 A, .int .i64 S] w1 fun e w' => e = .returned (.tuple #[.int .i64 0, .int .i64 0, .int .i64 r]) ∧ w1 = w') :
    Calls Try.prog 6 #[.int .i64 N, .int .i64 S, .slice a0 za.length c0, .slice a1 zb.length c1, .int .i64 A] w fun e w' => e = .returned (.bool true) ∧ Below w.heap.size w w' := by
  have RA := Lib.hid ra
  have r1 : (r != 0) = true := by rw [bne, r0]; rfl
  have HG := Lib.hid hG
  clear ra hG
  have RB := Lib.hid rb
  clear rb
  have HP := Lib.hid hP
  clear hP
  go_enter Try.func6, Try.ntmps6
  go_wp2_with (first
    | (go_at_call 19; ((with_reducible refine (alive_ok _).mono ?_); rintro e w1 ⟨rfl, hb1⟩))
    | (go_at_call 15; ((with_reducible refine (HP.out _).mono ?_); rintro e w2 ⟨rfl, rfl⟩))
    | (go_at_call 16; ((with_reducible refine (HG.out _ hb1).mono ?_); rintro e w7 ⟨rfl, rfl⟩)))
  go_ret
  exact ⟨rfl, hb1⟩

set_option maxRecDepth 100000 in
set_option maxHeartbeats 4000000 in
theorem b_none (N : Int)  (a0 : Option Addr) (c0 : Nat) (za : List Int)   (w : World) (la : za.length ≤ 1000) (ra : Src8 w (.slice a0 za.length c0) za) (hP : ∀ w1, Calls Try.prog 15 #[.slice a0 za.length c0, .int .i64 N, .int .i64 0] w1 fun e w' => e = .returned (.tuple #[.slice none 0 0, .int .i64 2]) ∧ w1 = w') (hG : ∀ w1, Below w.heap.size w w1 → Calls Try.prog 16 #[.slice none 0 0, .int .i64 0, .int .i64 0] w1 fun e w' => e = .returned (.tuple #[.int .i64 0, .int .i64 0, .int .i64 0]) ∧ w1 = w') :
    Calls Try.prog 6 #[.int .i64 N, .int .i64 0, .slice a0 za.length c0, .slice none 0 0, .int .i64 0] w fun e w' => e = .returned (.bool true) ∧ Below w.heap.size w w' := by
  have RA := Lib.hid ra
  have HC : Hid (∀ w1, Calls Try.prog 15 #[.slice none 0 0, .int .i64 0, .int .i64 0] w1 fun e w' => ∃ g cap, e = .returned (.tuple #[.slice (some ⟨g, 0, none⟩) 0 cap, .int .i64 0]) ∧ Cr.Own w1.heap.size w' (.slice (some ⟨g, 0, none⟩) 0 cap) [] ∧ Below w1.heap.size w1 w') := Lib.hid fun w1 => by
    have := put_src 0 0 w1 (v0 := .slice none 0 0) (.inl ⟨rfl, rfl⟩) (by simp) (by omega) (by omega) (by decide)
    simpa [bi] using this
  have HG := Lib.hid hG
  clear ra hG
  have HP := Lib.hid hP
  clear hP
  go_enter Try.func6, Try.ntmps6
  go_wp2_with (first
    | (go_at_call 19; ((with_reducible refine (alive_ok _).mono ?_); rintro e w1 ⟨rfl, hb1⟩))
    | (go_at_call 15; ((with_reducible refine (HP.out _).mono ?_); rintro e w2 ⟨rfl, rfl⟩))
    | (go_at_call 16; ((with_reducible refine (HG.out _ hb1).mono ?_); rintro e w7 ⟨rfl, rfl⟩))
    | (go_at_call 15; have hq := HG; ((with_reducible refine (HC.out _).mono ?_); rintro e w8 ⟨g8, cap8, rfl, ho8, hb8⟩; have q3 := conv_d (own_src ho8); have q4 := conv_d (w := w8) (.inl ⟨rfl, rfl⟩))))
  go_quiet (fail)
  go_wp2
  go_ret
  exact ⟨rfl, belowT hb1 (belowT hb8 (drewN_below _ _))⟩

set_option maxRecDepth 100000 in
set_option maxHeartbeats 4000000 in
theorem b_eq (N : Int)  (a0 : Option Addr) (c0 : Nat) (za : List Int) (x1 : Addr) (zb : List Int)  (w : World) (lb : zb.length ≤ 1000) (la : za.length ≤ 1000) (ra : Src8 w (.slice a0 za.length c0) za) (rb : Src8 w (.slice (some x1) zb.length zb.length) zb) (hP : ∀ w1, Calls Try.prog 15 #[.slice a0 za.length c0, .int .i64 N, .int .i64 0] w1 fun e w' => e = .returned (.tuple #[.slice none 0 0, .int .i64 2]) ∧ w1 = w') (hG : ∀ w1, Below w.heap.size w w1 → Calls Try.prog 16 #[.slice (some x1) zb.length zb.length, .int .i64 zb.length, .int .i64 0] w1 fun e w' => e = .returned (.tuple #[.int .i64 0, .int .i64 zb.length, .int .i64 0]) ∧ w1 = w') :
    Calls Try.prog 6 #[.int .i64 N, .int .i64 0, .slice a0 za.length c0, .slice (some x1) zb.length zb.length, .int .i64 zb.length] w fun e w' => e = .returned (.bool true) ∧ Below w.heap.size w w' := by
  have RA := Lib.hid ra
  have HC : Hid (∀ w1, Calls Try.prog 15 #[.slice none 0 0, .int .i64 0, .int .i64 0] w1 fun e w' => ∃ g cap, e = .returned (.tuple #[.slice (some ⟨g, 0, none⟩) 0 cap, .int .i64 0]) ∧ Cr.Own w1.heap.size w' (.slice (some ⟨g, 0, none⟩) 0 cap) [] ∧ Below w1.heap.size w1 w') := Lib.hid fun w1 => by
    have := put_src 0 0 w1 (v0 := .slice none 0 0) (.inl ⟨rfl, rfl⟩) (by simp) (by omega) (by omega) (by decide)
    simpa [bi] using this
  have HG := Lib.hid hG
  clear ra hG
  have RB := Lib.hid rb
  clear rb
  have HP := Lib.hid hP
  clear hP
  go_enter Try.func6, Try.ntmps6
  go_wp2_with (first
    | (go_at_call 19; ((with_reducible refine (alive_ok _).mono ?_); rintro e w1 ⟨rfl, hb1⟩))
    | (go_at_call 15; ((with_reducible refine (HP.out _).mono ?_); rintro e w2 ⟨rfl, rfl⟩))
    | (go_at_call 16; ((with_reducible refine (HG.out _ hb1).mono ?_); rintro e w7 ⟨rfl, rfl⟩))
    | (go_at_call 15; have hq := HG; ((with_reducible refine (HC.out _).mono ?_); rintro e w8 ⟨g8, cap8, rfl, ho8, hb8⟩; have q3 := conv_d (own_src ho8); have q4 := conv_d (w := w8) ((.inr ⟨x1, 0, rfl, fun j u hu => by simp at hu⟩ : Src8 w8 (.slice (some x1) 0 0) [])))))
  go_quiet (fail)
  go_wp2
  go_ret
  exact ⟨rfl, belowT hb1 (belowT hb8 (drewN_below _ _))⟩

set_option maxRecDepth 100000 in
set_option maxHeartbeats 4000000 in
theorem b_lt (N : Int) (s : Nat) (a0 : Option Addr) (c0 : Nat) (za : List Int) (b1 o1 c1 : Nat) (zb : List Int) (A : Nat) (w : World) (lb : zb.length ≤ 1000) (la : za.length ≤ 1000) (ra : Src8 w (.slice a0 za.length c0) za) (rb : Src8 w (.slice (some ⟨b1, o1, none⟩) zb.length c1) zb) (hP : ∀ w1, Calls Try.prog 15 #[.slice a0 za.length c0, .int .i64 N, .int .i64 s] w1 fun e w' => e = .returned (.tuple #[.slice none 0 0, .int .i64 2]) ∧ w1 = w') (hA : A < c1) (hAs : A + s ≤ zb.length) (s1 : s ≤ 31) (hbits : Cr.Bits ((zb.drop A).take s)) (hc1 : zb.length ≤ c1) (hm1 : c1 ≤ maxLen) (hG : ∀ w1, Below w.heap.size w w1 → Calls Try.prog 16 #[.slice (some ⟨b1, o1, none⟩) zb.length c1, .int .i64 A, .int .i64 s] w1 fun e w' => e = .returned (.tuple #[.int .i64 (num ((zb.drop A).take s)), .int .i64 ((A : Int) + s), .int .i64 0]) ∧ w1 = w') :
    Calls Try.prog 6 #[.int .i64 N, .int .i64 s, .slice a0 za.length c0, .slice (some ⟨b1, o1, none⟩) zb.length c1, .int .i64 A] w fun e w' => e = .returned (.bool true) ∧ Below w.heap.size w w' := by
  have RA := Lib.hid ra
  obtain ⟨ys, hys⟩ : ∃ ys, (zb.drop A).take s = ys := ⟨_, rfl⟩
  have ly : ys.length = s := by rw [← hys]; simp; omega
  rw [hys] at hbits hG
  have hnb := num_bd s ys ly hbits
  have hpw := pow_bd s1
  have HC : Hid (∀ w1, Calls Try.prog 15 #[.slice none 0 0, .int .i64 (num ys), .int .i64 s] w1 fun e w' => ∃ g cap, e = .returned (.tuple #[.slice (some ⟨g, 0, none⟩) s cap, .int .i64 0]) ∧ Cr.Own w1.heap.size w' (.slice (some ⟨g, 0, none⟩) s cap) ys ∧ Below w1.heap.size w1 w') := Lib.hid fun w1 => by
    have := put_src (num ys) s w1 (v0 := .slice none 0 0) (.inl ⟨rfl, rfl⟩) (by simp) s1 hnb.1 hnb.2
    simp only [List.nil_append, List.length_nil, Nat.zero_add, bi_num s ys ly hbits] at this
    exact this
  have HS : Hid (∀ w1, Below w.heap.size w w1 → Src8 w1 (.slice (some ⟨b1, o1 + A, none⟩) s (c1 - A)) ys) := Lib.hid fun w1 hw => by
    have h := rb.below hw
    rcases h with ⟨e, _⟩ | ⟨x, c, e, hc⟩
    · simp at e
    · simp only [Value.slice.injEq, Option.some.injEq] at e
      obtain ⟨rfl, _, rfl⟩ := e
      refine .inr ⟨_, _, by rw [ly], fun j u hu => ?_⟩
      have hj : j < s := by have := (List.getElem?_eq_some_iff.1 hu).1; rw [List.length_map, ly] at this; exact this
      have := hc (A + j) u (by rw [← hu, ← hys]; simp [hj, List.getElem?_drop])
      rwa [show (⟨b1, o1, none⟩ : Addr).add (A + j) = (⟨b1, o1 + A, none⟩ : Addr).add j by rw [Addr.add_lit, Addr.add_lit, Nat.add_assoc]] at this
  have m0 : 0 ≤ num ys := hnb.1
  have m1 : num ys ≤ 2147483648 := by omega
  have hA' : ¬ c1 = A := by omega
  unfold maxLen at hm1
  have HG := Lib.hid hG
  clear hys hnb hpw ly hbits
  clear ra hG
  have RB := Lib.hid rb
  clear rb
  have HP := Lib.hid hP
  clear hP
  go_enter Try.func6, Try.ntmps6
  go_wp2_with (first
    | (go_at_call 19; ((with_reducible refine (alive_ok _).mono ?_); rintro e w1 ⟨rfl, hb1⟩))
    | (go_at_call 15; ((with_reducible refine (HP.out _).mono ?_); rintro e w2 ⟨rfl, rfl⟩))
    | (go_at_call 16; ((with_reducible refine (HG.out _ hb1).mono ?_); rintro e w7 ⟨rfl, rfl⟩))
    | (go_at_call 15; ((with_reducible refine (HC.out _).mono ?_); rintro e w8 ⟨g8, cap8, rfl, ho8, hb8⟩; have q3 := conv_d (own_src ho8); have q4 := conv_d (HS.out _ (belowT hb1 hb8)))))
  go_quiet (fail)
  go_wp2
  go_ret
  exact ⟨rfl, belowT hb1 (belowT hb8 (drewN_below _ _))⟩

/-- Nothing is read, where there is no room. -/
theorem get_full (x : Addr) (n : Nat) (w : World) (hn : n ≤ 1000) :
    Calls Try.prog 16 #[.slice (some x) n n, .int .i64 n, .int .i64 0] w fun e w' => e = .returned (.tuple #[.int .i64 0, .int .i64 n, .int .i64 0]) ∧ w = w' := by
  go_enter Try.func16, Try.ntmps16
  go_wp2
  go_loop [6, 10, 40] (fun m _ i => i = .int .i64 0 ∧ m = .int .i64 0) (fun _ _ _ => 0)
  case atStart => exact ⟨rfl, rfl⟩
  case round =>
    obtain ⟨rfl, rfl⟩ := hrel
    go_wp2
    go_ret3
    exact ⟨rfl, rfl⟩
theorem long (N S A : Int) (a0 a1 : Option Addr) (l0 l1 c0 c1 : Nat) (w : World) (m0 : l0 ≤ maxLen) (m1 : l1 ≤ maxLen) (h : 1000 < l0 ∨ 1000 < l1) :
    Calls Try.prog 6 #[.int .i64 N, .int .i64 S, .slice a0 l0 c0, .slice a1 l1 c1, .int .i64 A] w fun e w' => e = .returned (.bool true) ∧ Below w.heap.size w w' := by
  unfold maxLen at m0 m1
  by_cases h0 : 1000 < l0
  · go_enter Try.func6, Try.ntmps6
    go_wp2_with (go_at_call 19; ((with_reducible refine (alive_ok _).mono ?_); rintro e w1 ⟨rfl, hb1⟩))
    go_ret
    exact ⟨rfl, hb1⟩
  · have h1 : 1000 < l1 := by omega
    clear h
    go_enter Try.func6, Try.ntmps6
    go_wp2_with (go_at_call 19; ((with_reducible refine (alive_ok _).mono ?_); rintro e w1 ⟨rfl, hb1⟩))
    go_ret
    exact ⟨rfl, hb1⟩

/-- What came in. -/
theorem came {w : World} {a : Option Addr} {len cap : Nat} {zs : List Int} (h : IsRow .u8 w a len cap zs) : (a = none ∧ len = 0 ∧ cap = 0) ∨ ∃ x z, a = some x ∧ z.length = len ∧ Cl w x z ∧ len ≤ cap ∧ cap ≤ maxLen ∧ (∀ n ∈ z, 0 ≤ n ∧ n ≤ 255) ∧ (0 < cap → ∃ b off, x = ⟨b, off, none⟩) := by
  rcases h with ⟨rfl, rfl, rfl, rfl⟩ | ⟨x, rfl, hl, hm, hz, hc, hwf⟩
  · exact .inl ⟨rfl, rfl, rfl⟩
  · have hlen : (zs.take len).length = len := by simp; omega
    refine .inr ⟨x, zs.take len, rfl, hlen, fun j u hu => ?_, hl, hm, fun n hn => ?_, fun h0 => ?_⟩
    · have hj : j < len := by
        have h3 := (List.getElem?_eq_some_iff.1 hu).1
        rw [List.length_map, hlen] at h3
        exact h3
      rw [hc j (by omega), ← hu]
      simp [hj, show j < zs.length by omega]
    · exact bounds_u8 (hwf n (List.mem_of_mem_take hn))
    · obtain ⟨b, off, e, _⟩ := ints_at hc (by omega)
      exact ⟨b, off, e⟩
theorem src_of {w : World} {x : Addr} {c : Nat} {z : List Int} (h : Cl w x z) : Src8 w (.slice (some x) z.length c) z := .inr ⟨x, c, rfl, h⟩

theorem part2 (N S A : Int) (a0 : Option Addr) (c0 : Nat) (za : List Int) (a1 : Option Addr) (l1 c1 : Nat) (z1 : List Int) (w : World) (la : za.length ≤ 1000) (ra : Src8 w (.slice a0 za.length c0) za) (hza : ∀ z ∈ za, 0 ≤ z ∧ z ≤ 255) (hw1 : IsRow .u8 w a1 l1 c1 z1) (hl1 : l1 ≤ 1000) :
    Calls Try.prog 6 #[.int .i64 N, .int .i64 S, .slice a0 za.length c0, .slice a1 l1 c1, .int .i64 A] w fun e w' => e = .returned (.bool true) ∧ Below w.heap.size w w' := by
  -- a wrong get, whatever was put
  have bad : ∀ (zb : List Int) (r : Int), zb.length = l1 → (r == 0) = false → (∀ z ∈ zb, 0 ≤ z ∧ z ≤ 255) → Src8 w (.slice a1 zb.length c1) zb → (∀ w1, Below w.heap.size w w1 → Calls Try.prog 16 #[.slice a1 zb.length c1, .int .i64 A, .int .i64 S] w1 fun e w' => e = .returned (.tuple #[.int .i64 0, .int .i64 0, .int .i64 r]) ∧ w1 = w') →
      Calls Try.prog 6 #[.int .i64 N, .int .i64 S, .slice a0 za.length c0, .slice a1 l1 c1, .int .i64 A] w fun e w' => e = .returned (.bool true) ∧ Below w.heap.size w w' := by
    intro zb r lb hr hzb rb hG
    rw [← lb]
    by_cases hp : S < 0 ∨ 31 < S ∨ N < 0 ∨ 2 ^ S.toNat ≤ N
    · exact b_err N S a0 c0 za a1 c1 zb A w (by omega) la ra rb (fun w1 => put_bad _ N S w1 hp) r hr hG
    · obtain ⟨s, rfl⟩ : ∃ s : Nat, S = s := ⟨S.toNat, by omega⟩
      rw [Int.toNat_natCast] at hp
      exact k_err N s a0 c0 za a1 c1 zb A w (by omega) la ra rb (by omega) (by omega) (by omega) hza hzb r hr hG
  have hin : ∃ zb, zb.length = l1 ∧ (∀ z ∈ zb, 0 ≤ z ∧ z ≤ 255) ∧ Src8 w (.slice a1 zb.length c1) zb := by
    rcases came hw1 with ⟨rfl, rfl, rfl⟩ | ⟨x, z, rfl, hz, hc, _, _, hb, _⟩
    · exact ⟨[], rfl, (fun z h => by cases h), .inl ⟨rfl, rfl⟩⟩
    · exact ⟨z, hz, hb, src_of hc⟩
  obtain ⟨zq, lq, hq, rq⟩ := hin
  by_cases h1 : S < 0 ∨ 31 < S ∨ A < 0 ∨ (l1 : Int) < A
  · exact bad zq 2 lq rfl hq rq fun w1 _ => get_arg a1 zq.length c1 A S w1 (by unfold maxLen; omega) (by omega)
  by_cases h2 : (l1 : Int) - A < S
  · exact bad zq 5 lq rfl hq rq fun w1 _ => get_end a1 zq.length c1 A S w1 (by unfold maxLen; omega) (by omega) (by omega) (by omega) (by omega) (by omega)
  obtain ⟨s, rfl⟩ : ∃ s : Nat, S = s := ⟨S.toNat, by omega⟩
  obtain ⟨a, rfl⟩ : ∃ a : Nat, A = a := ⟨A.toNat, by omega⟩
  rcases came hw1 with ⟨rfl, rfl, rfl⟩ | ⟨x, z, rfl, hz, hc, hlc, hcm, hb, hsh⟩
  · obtain rfl : s = 0 := by omega
    obtain rfl : a = 0 := by omega
    by_cases hp : N < 0 ∨ 2 ^ 0 ≤ N
    · exact b_none N a0 c0 za w la ra (fun w1 => put_bad _ N 0 w1 (.inr (.inr hp))) fun w1 _ => get_nil w1
    · exact k_none N a0 c0 za w la ra (by omega) (by omega) hza fun w1 _ => get_nil w1
  · by_cases he : c1 = a
    · obtain rfl : s = 0 := by omega
      obtain rfl : c1 = z.length := by omega
      obtain rfl : a = z.length := by omega
      obtain rfl : l1 = z.length := by omega
      by_cases hp : N < 0 ∨ 2 ^ 0 ≤ N
      · exact b_eq N a0 c0 za x z w (by omega) la ra (src_of hc) (fun w1 => put_bad _ N 0 w1 (.inr (.inr hp))) fun w1 _ => get_full x z.length w1 (by omega)
      · exact k_eq N a0 c0 za x z w (by omega) la ra (src_of hc) (by omega) (by omega) hza hb fun w1 _ => get_full x z.length w1 (by omega)
    · obtain ⟨b, off, rfl⟩ := hsh (by omega)
      subst hz
      have ly : ((z.drop a).take s).length = s := by simp; omega
      have hroom : ∀ w1, Below w.heap.size w w1 → Calls Try.prog 16 #[.slice (some ⟨b, off, none⟩) z.length c1, .int .i64 a, .int .i64 s] w1 fun e w' => ((Cr.Bits ((z.drop a).take s) ∧ e = .returned (.tuple #[.int .i64 (num ((z.drop a).take s)), .int .i64 ((a : Int) + s), .int .i64 0])) ∨ (¬ Cr.Bits ((z.drop a).take s) ∧ e = .returned (.tuple #[.int .i64 0, .int .i64 0, .int .i64 8]))) ∧ w1 = w' := fun w1 hw => by
        by_cases h0 : z.length = 0
        · obtain rfl : s = 0 := by omega
          obtain rfl : a = 0 := by omega
          have ez : z = [] := List.eq_nil_of_length_eq_zero h0
          subst ez
          exact (get_zero b off 0 c1 0 w1 (by unfold maxLen; omega) (by omega) (by omega)).mono fun e w' h => ⟨.inl ⟨(fun z hz => by simp at hz), by rw [h.1]; rfl⟩, h.2⟩
        · have hblk : b < w.heap.size := by
            have := hc 0 (.int .u8 (z.getD 0 0)) (by simp [show 0 < z.length by omega])
            have := lt_of_cell this
            simpa [Addr.add] using this
          refine get_room b off z.length c1 a s ((z.drop a).take s) w1 (by unfold maxLen; omega) hlc (by omega) (by omega) (by omega) ly (Nat.lt_of_lt_of_le hblk hw.size) (fun y hy => hb y (List.mem_of_mem_drop (List.mem_of_mem_take hy))) fun i hi => ?_
          have := (hc.below hw) (a + i) (.int .u8 (z.getD (a + i) 0)) (by simp [show a + i < z.length by omega])
          rw [show (⟨b, off, none⟩ : Addr).add (a + i) = ⟨b, off + a + i, none⟩ by rw [Addr.add_lit, Nat.add_assoc]] at this
          rw [this]
          simp [hi]
      by_cases hbits : Cr.Bits ((z.drop a).take s)
      · have hG : ∀ w1, Below w.heap.size w w1 → Calls Try.prog 16 #[.slice (some ⟨b, off, none⟩) z.length c1, .int .i64 a, .int .i64 s] w1 fun e w' => e = .returned (.tuple #[.int .i64 (num ((z.drop a).take s)), .int .i64 ((a : Int) + s), .int .i64 0]) ∧ w1 = w' := fun w1 hw => (hroom w1 hw).mono fun e w' h => by
          rcases h.1 with ⟨_, h3⟩ | ⟨h3, _⟩
          · exact ⟨h3, h.2⟩
          · exact absurd hbits h3
        by_cases hp : N < 0 ∨ 2 ^ s ≤ N
        · exact b_lt N s a0 c0 za b off c1 z a w (by omega) la ra (src_of hc) (fun w1 => put_bad _ N s w1 (by rw [Int.toNat_natCast]; exact .inr (.inr hp))) (by omega) (by omega) (by omega) hbits hlc hcm hG
        · exact k_lt N s a0 c0 za b off c1 z a w (by omega) la ra (src_of hc) (by omega) (by omega) (by omega) hza hb (by omega) (by omega) hbits hlc hcm hG
      · exact bad z 8 rfl rfl hb (src_of hc) fun w1 hw => (hroom w1 hw).mono fun e w' h => by
          rcases h.1 with ⟨h3, _⟩ | ⟨_, h3⟩
          · exact absurd h3 hbits
          · exact ⟨h3, h.2⟩

theorem walk (N S : Int) (a0 : Option Addr) (l0 c0 : Nat) (z0 : List Int) (a1 : Option Addr) (l1 c1 : Nat) (z1 : List Int) (A : Int) (w : World) (_ : (Lit.int .i64 N).wf = true) (_ : (Lit.int .i64 S).wf = true) (w0 : IsRow .u8 w a0 l0 c0 z0) (w1 : IsRow .u8 w a1 l1 c1 z1) (_ : (Lit.int .i64 A).wf = true) :
    Calls Try.prog 6 #[.int .i64 N, .int .i64 S, .slice a0 l0 c0, .slice a1 l1 c1, .int .i64 A] w fun e w' => e = .returned (.bool true) ∧ Below w.heap.size w w' := by
  by_cases h : 1000 < l0 ∨ 1000 < l1
  · exact long N S A a0 a1 l0 l1 c0 c1 w w0.le w1.le h
  rcases came w0 with ⟨rfl, rfl, rfl⟩ | ⟨x, z, rfl, hz, hc, _, _, hb, _⟩
  · exact part2 N S A none 0 [] a1 l1 c1 z1 w (by simp) (.inl ⟨rfl, rfl⟩) (fun z h => by cases h) w1 (by omega)
  · subst hz
    exact part2 N S A (some x) c0 z a1 l1 c1 z1 w (by omega) (src_of hc) hb w1 (by omega)

theorem own : ownKnob Try.prog.godebug = none := by kernel_rfl
theorem laidOut : laidOutB Try.prog = true := by kernel_rfl
set_option linter.unusedVariables false
set_option maxRecDepth 100000 in
theorem lifted (os : Os) (started : os.Started) (H : Type) (enc : TypeId × Value → H) :
    ReturnsInHanded {} Try.checked os 6 .any (Rows.bitsBackSpec.pre6 enc Try.prog Try.f6 Rows.bitsBackRow.domain false) (Rows.bitsBackSpec.post enc Try.prog Try.f6 false true false false) := by
  refine returnsInHanded_of_change (C := Try.checked) own started (by kernel_rfl) Try.func6
    (ChangeSpec.witness6 (enc := enc) (C := Try.checked) false ⟨#[], #[.int .i64 0, .int .i64 0, .slice none 0 0, .slice none 0 0, .int .i64 0], []⟩ 8 (by kernel_rfl) (by kernel_rfl) (by kernel_rfl) (by kernel_rfl)) ?_
  intro W base args ds gs before hval0 hW hcnd _
  have hval : ∀ (j : Nat) t v, Try.f6.params[j]? = some t → args[j]? = some v → Value.okWide Try.prog W .any base t v := hval0
  have hW' := hW
  obtain ⟨p, q, hA0, hV, rfl, hfz, hnd⟩ := hW
  have hA : DataW.TrodAll enc Try.prog W 0 (fun _ => true) true Try.f6.params.toList args.toList ds p := hA0
  rw [Try.params6] at hA hval
  obtain ⟨v0, vs0, d0, ds0, p0, q0, hargs, rfl, rfl, h0, r0⟩ := trodAll_cons hA
  obtain ⟨v1, vs1, d1, ds1, p1, q1, rfl, rfl, rfl, h1, r1⟩ := trodAll_cons r0
  obtain ⟨v2, vs2, d2, ds2, p2, q2, rfl, rfl, rfl, h2, r2⟩ := trodAll_cons r1
  obtain ⟨v3, vs3, d3, ds3, p3, q3, rfl, rfl, rfl, h3, r3⟩ := trodAll_cons r2
  obtain ⟨v4, vs4, d4, ds4, p4, q4, rfl, rfl, rfl, h4, r4⟩ := trodAll_cons r3
  obtain ⟨rfl, rfl, rfl⟩ := trodAll_nil r4
  obtain rfl : args = #[v0, v1, v2, v3, v4] := by cases args; simp_all
  obtain ⟨rfl, rfl⟩ := trodVars_none hV
  obtain ⟨a0, rfl, rfl, rfl, w0⟩ := open_int Try.underlying3 (hval 0 3 v0 rfl rfl) h0
  obtain ⟨a1, rfl, rfl, rfl, w1⟩ := open_int Try.underlying3 (hval 1 3 v1 rfl rfl) h1
  obtain ⟨a2, len2, cap2, rfl⟩ := okWide_slice Try.underlying22 (hval 2 22 v2 rfl rfl)
  have k2 := h2
  have lt2 : ∀ x ∈ p2, x.block < W.heap.size := by obtain ⟨m, hm⟩ := k2; exact DataW.trod_lt m _ _ _ hm
  obtain ⟨z2, w2⟩ : ∃ zs, IsRow .u8 W a2 len2 cap2 zs := by
    obtain ⟨fuel, hf⟩ := h2
    rcases open_ints Try.underlying22 Try.underlying5 (by kernel_rfl) hf with ⟨hcs, _⟩ | ⟨x, l, c, zs, hcs, _, hl, hm, hz, _, hcell, hwz⟩
    · simp [Value.cells] at hcs
      obtain ⟨rfl, rfl, rfl⟩ := hcs
      exact ⟨[], .inl ⟨rfl, rfl, rfl, rfl⟩⟩
    · simp [Value.cells] at hcs
      obtain ⟨rfl, rfl, rfl⟩ := hcs
      exact ⟨zs, .inr ⟨_, rfl, hl, hm, by simpa using hz, hcell, hwz⟩⟩
  obtain ⟨a3, len3, cap3, rfl⟩ := okWide_slice Try.underlying22 (hval 3 22 v3 rfl rfl)
  have k3 := h3
  have lt3 : ∀ x ∈ p3, x.block < W.heap.size := by obtain ⟨m, hm⟩ := k3; exact DataW.trod_lt m _ _ _ hm
  obtain ⟨z3, w3⟩ : ∃ zs, IsRow .u8 W a3 len3 cap3 zs := by
    obtain ⟨fuel, hf⟩ := h3
    rcases open_ints Try.underlying22 Try.underlying5 (by kernel_rfl) hf with ⟨hcs, _⟩ | ⟨x, l, c, zs, hcs, _, hl, hm, hz, _, hcell, hwz⟩
    · simp [Value.cells] at hcs
      obtain ⟨rfl, rfl, rfl⟩ := hcs
      exact ⟨[], .inl ⟨rfl, rfl, rfl, rfl⟩⟩
    · simp [Value.cells] at hcs
      obtain ⟨rfl, rfl, rfl⟩ := hcs
      exact ⟨zs, .inr ⟨_, rfl, hl, hm, by simpa using hz, hcell, hwz⟩⟩
  obtain ⟨a4, rfl, rfl, rfl, w4⟩ := open_int Try.underlying3 (hval 4 3 v4 rfl rfl) h4
  clear hA0 hval0
  refine (walk a0 a1 a2 len2 cap2 z2 a3 len3 cap3 z3 a4 W w0 w1 w2 w3 w4).mono fun e W' ⟨he, bel⟩ => ?_
  subst he
  exact ⟨_, rfl, _, _, _, [], _, [], hW', trodAll_mk1 (shut_bool Try.underlying4 _), (trodAll_cons_mk (shut_int Try.underlying3 w0) (trodAll_cons_mk (shut_int Try.underlying3 w1) (trodAll_cons_mk (Below.trod laidOut (by kernel_rfl) (of_decide_eq_true (by kernel_rfl)) k2 bel lt2) (trodAll_cons_mk (Below.trod laidOut (by kernel_rfl) (of_decide_eq_true (by kernel_rfl)) k3 bel lt3) (trodAll_cons_mk (shut_int Try.underlying3 w4) trodAll_mk0))))), rfl, bel.frame _, fun h => by cases h⟩

theorem over : Rows.bitsBackRow.holds Try.pinned (OpenSpec.ofChange Rows.bitsBackSpec) :=
  OpenClaim.holds_of_wide 6 Try.f6 rfl rfl rfl rfl rfl rfl rfl ⟨rfl, rfl, rfl, rfl, rfl⟩ rfl rfl rfl rfl rfl (by kernel_rfl) Try.func6 (by kernel_rfl)
    (of_decide_eq_true (by kernel_rfl)) (by unfold Func.isWrapper; first | (rw [if_pos (by decide +kernel)]; kernel_rfl) | (rw [if_neg (by decide +kernel)]; exact ⟨rfl, rfl⟩))
    (fun os started H enc _ => lifted os started H enc)

theorem proved : Rows.BitsBackSaid := over
end Go.Proofs.Yteoljcbebiemlaa.bitsBack
