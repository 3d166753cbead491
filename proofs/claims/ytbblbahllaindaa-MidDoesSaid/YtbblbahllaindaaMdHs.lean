/- Middles and sides, left and right, as the document's own answer makes them. -/
import Derived.Test.YtbblbahllaindaaMdAs
import Derived.WalkKit
import Derived.OwnWalk
import Derived.RegionTactic
import Derived.Deep.RegionHeld3
import Derived.Deep.AppendLies
import Derived.ProofKit
import Derived.OpenShut
import Derived.Lib.Hide
namespace Go.Proofs.Ytbblbahllaindaa.Md
open Go Go.ChangeShapes Go.WideShapes Go.ChangeAt Go.RowKit Go.Proofs.Ytbblbahllaindaa.Lo

/-- Two lists that lie apart. -/
def Dis (m s : Value) : Prop := ∀ g, m.ownBlock = some g → s.ownBlock = some g → False
theorem dis_nil (s : Value) : Dis (.slice none 0 0) s := fun g h => by cases h
theorem ow_nil (base : Nat) (w : World) (F : Nat → Int) : Bd.Own base w (.slice none 0 0) (mk 0 F) := World.ownsRow_nil w base 3 1
theorem al2 (w : World) (o : Obj) : Below w.heap.size w (w.alloc o).drew := ((Below.refl _ w).alloc (Nat.le_refl _) o).drew
theorem own_far {base : Nat} {w w' : World} {v : Value} {xs : List Int} {row : Option Nat} (h : Bd.Own base w v xs) (hg : w.grownBy w' row) (hne : ∀ g, v.ownBlock = some g → row ≠ some g) : Bd.Own base w' v xs := by
  have hlt := h.lt
  obtain ⟨hx, h | ⟨g, cap, cur, rfl, hb, hh, hc, hm, hs, ht⟩⟩ := h
  · exact ⟨hx, .inl h⟩
  · exact ⟨hx, .inr ⟨g, cap, cur, rfl, hb, (hg.block g (hlt g rfl).2 (fun e => hne g rfl e.symm)).trans hh, hc, hm, hs, ht⟩⟩
theorem mk_push (k : Nat) (F : Nat → Int) : mk (k + 1) F = mk k F ++ [F k] := by simp [mk, List.range_succ]
theorem info3p : (Try.prog.info? 3).map (fun i => (i.zero, i.size, i.bytes)) = some (some (.int .i64 0), 1, 8) := by kernel_rfl
theorem new_1 (w : World) (V : Int) : ((w.alloc (.cells #[.int .i64 V] 3)).drew).cell? ⟨w.heap.size, 0, none⟩ = some (.int .i64 V) := by
  simp [go_sem]
/-- One number more, at a step of a region that draws. -/
theorem step_push (w : World) {ops : Array Oper} {o : Oper} {a : Act} {K : Act → World → Prop} {Q : Exit → Act → World → Prop} {E : Prop} (hgd : o.guard = none) (s x : Operand)
    (ho : o.op = .call { callee := .builtin .append, args := #[s, x], argTypes := #[22, 22] }) (base : Nat) (v : Value) (xs : List Int) (hs : a.eval s = v) (hown : Bd.Own base w v xs)
    (B : Nat) (V : Int) (hx : a.eval x = .slice (some ⟨B, 0, none⟩) 1 1) (hB : w.cell? ⟨B, 0, none⟩ = some (.int .i64 V)) (hl : xs.length ≤ 1000) (hbase : base ≤ w.heap.size) (H : Nat) (hH : w.heap.size = H)
    (h : ∀ v' w', Bd.Own base w' v' (xs ++ [V]) → w.grownBy w' v.ownBlock → (∀ g, v'.ownBlock = some g → v.ownBlock = some g ∨ g = H) → w.heap.size ≤ w'.heap.size → K (a.put o.dst v') w') : if Region.wanted o (yielded ops a.tmps) = true then Oper.wp Try.prog o a w K Q else E := by
  obtain ⟨i0, hi, hz0, hz1, hz2⟩ := info_parts info3p
  refine step_append_lies w hgd s x 22 ho base 3 i0 (.int .i64 0) 1 8 Try.underlying22 hi hz0 hz1 hz2 rfl (by decide) v xs.length (xs.map (Value.int .i64)) hs hown ⟨B, 0, none⟩ 1 1 [.int .i64 V] hx rfl (fun j u hu => ?_) (fun u hu => by simp at hu; subst hu; rfl) (by decide) (by unfold maxLen; omega) (by omega) hbase H hH fun g cap w' h1 h2 h3 h4 => h _ w' (Bd.own_push h1) h2 (fun g' e => ?_) h2.size
  · match j, hu with
    | 0, hu => simp at hu; subst hu; simpa [Addr.add] using hB
  · have : g = g' := by simpa [Value.ownBlock] using e
    subst this
    exact h3
def Pr (n : Nat) (F G : Nat → Int) (w : World) (e : Ending) (w' : World) : Prop := ∃ x y, e = .returned (.tuple #[x, y]) ∧ Bd.Own w.heap.size w' x (mk n F) ∧ Bd.Own w.heap.size w' y (mk n G) ∧ Below w.heap.size w w'
set_option maxRecDepth 100000 in
set_option maxHeartbeats 4000000 in
theorem halves_loop (b off cap b' off' cap' n : Nat) (za zb : List Int) (w : World) (hn : n ≤ 256) (lb0 : b < w.heap.size) (lb1 : b' < w.heap.size) (ca : ∀ i, i < n → w.cell? ⟨b, off + i, none⟩ = some (.int .i64 (za.getD i 0))) (cb : ∀ i, i < n → w.cell? ⟨b', off' + i, none⟩ = some (.int .i64 (zb.getD i 0)))
    (hin : ∀ j, j < n → In2 za zb j) : Calls Try.prog 17 #[.slice (some ⟨b, off, none⟩) n cap, .slice (some ⟨b', off', none⟩) n cap'] w (Pr n (fun j => kept (half (za.getD j 0 + zb.getD j 0))) (fun j => kept (half (za.getD j 0 - zb.getD j 0))) w) := by
  have CA := Lib.hid ca
  have CB := Lib.hid cb
  have HI := Lib.hid hin
  obtain ⟨F, hF⟩ : ∃ F : Nat → Int, F = fun j => kept (half (za.getD j 0 + zb.getD j 0)) := ⟨_, rfl⟩
  obtain ⟨G, hG⟩ : ∃ G : Nat → Int, G = fun j => kept (half (za.getD j 0 - zb.getD j 0)) := ⟨_, rfl⟩
  rw [← hF, ← hG]
  have HF := Lib.hid hF
  have HG := Lib.hid hG
  clear ca cb hin hF hG
  go_enter Try.func17, Try.ntmps17
  go_wp2
  go_loopw [6, 7, 8] (fun m s i wr => ∃ k : Nat, k ≤ n ∧ i = .int .i64 k ∧ Hid (Bd.Own w.heap.size wr m (mk k F)) ∧ Hid (Bd.Own w.heap.size wr s (mk k G)) ∧ Hid (Dis m s) ∧ Hid (Below w.heap.size w wr)) (fun _ _ i _ => n - (intOf i).toNat)
  case atStart => exact ⟨0, by omega, rfl, Lib.hid (ow_nil _ _ _), Lib.hid (ow_nil _ _ _), Lib.hid (dis_nil _), Lib.hid (Below.refl _ _)⟩
  case round =>
    obtain ⟨k, hk, rfl, hM, hS, hD, hB⟩ := hrel
    by_cases hlt : k < n
    · have c0 := (hB.out.cell (p := ⟨b, off + k, none⟩) lb0).trans (CA.out k hlt)
      have c1 := (hB.out.cell (p := ⟨b', off' + k, none⟩) lb1).trans (CB.out k hlt)
      obtain ⟨⟨i0, i1⟩, i2, i3⟩ := HI.out k hlt
      have eF : Hid (F k = kept (half (za.getD k 0 + zb.getD k 0))) := Lib.hid (by rw [HF.out])
      have eG : Hid (G k = kept (half (za.getD k 0 - zb.getD k 0))) := Lib.hid (by rw [HG.out])
      have lr0 := Nat.lt_of_lt_of_le lb0 hB.out.size
      have lr1 := Nat.lt_of_lt_of_le lb1 hB.out.size
      generalize za.getD k 0 = X at *
      generalize zb.getD k 0 = Y at *
      have x1 : IntKind.i64.wrap (X + Y) = X + Y := i64_in (by omega) (by omega)
      have x2 : IntKind.i64.wrap (X - Y) = X - Y := i64_in (by omega) (by omega)
      have hkn : (k : Int) < (n : Int) := by omega
      obtain ⟨V, hV⟩ : ∃ V, V = kept (half (X + Y)) := ⟨_, rfl⟩
      obtain ⟨U, hU⟩ : ∃ U, U = kept (half (X - Y)) := ⟨_, rfl⟩
      have d0 := (hB.out.cell (p := ⟨b, off + k, none⟩) lb0).symm.trans c0
      have d1 := (hB.out.cell (p := ⟨b', off' + k, none⟩) lb1).symm.trans c1
      have HK1 := Lib.hid (show ∀ w, Calls Try.prog 23 #[.int .i64 (half (X + Y))] w fun e w' => e = .returned (.int .i64 V) ∧ w = w' by rw [hV]; exact fun w => rkept_ok _ w)
      have HK2 := Lib.hid (show ∀ w, Calls Try.prog 23 #[.int .i64 (half (X - Y))] w fun e w' => e = .returned (.int .i64 U) ∧ w = w' by rw [hU]; exact fun w => rkept_ok _ w)
      have HMl := Lib.hid (mk_len k F)
      have HGl := Lib.hid (mk_len k G)
      have EV := Lib.hid hV
      have EU := Lib.hid hU
      clear hV hU
      go_wp2
      have KEEP := Lib.hid (fun (W : World) (hW : Below wr.heap.size wr W) => (⟨(hW.cell (p := ⟨b, off + k, none⟩) lr0).trans c0, (hW.cell (p := ⟨b', off' + k, none⟩) lr1).trans c1, hW⟩ : W.cell? ⟨b, off + k, none⟩ = some (.int .i64 X) ∧ W.cell? ⟨b', off' + k, none⟩ = some (.int .i64 Y) ∧ Below wr.heap.size wr W))
      go_region_held3 (fun w' => w'.cell? ⟨b, off + k, none⟩ = some (.int .i64 X) ∧ w'.cell? ⟨b', off' + k, none⟩ = some (.int .i64 Y)) (first | exact ⟨(KEEP.out _ (by first | exact (Below.refl _ _).drew | exact al2 _ _)).1, (KEEP.out _ (by first | exact (Below.refl _ _).drew | exact al2 _ _)).2.1⟩ | exact ⟨(hg4.cell_far ⟨b, off + k, none⟩ (Nat.lt_of_lt_of_le lr0 (al2 _ _).size) (fun e => by have := (hM.out.lt b e.symm).1; omega)).trans (KEEP.out _ (al2 _ _)).1, (hg4.cell_far ⟨b', off' + k, none⟩ (Nat.lt_of_lt_of_le lr1 (al2 _ _).size) (fun e => by have := (hM.out.lt b' e.symm).1; omega)).trans (KEEP.out _ (al2 _ _)).2.1⟩)
        (first
          | (go_at_call 24; ((with_reducible refine (down1_ok (X + Y) _ (by omega) (by omega)).mono ?_); rintro e _ ⟨rfl, rfl⟩))
          | (go_at_call 23; ((with_reducible refine (HK1.out _).mono ?_); rintro e _ ⟨rfl, rfl⟩))
          | (refine step_push _ rfl (.tmp 15) (.tmp 27) rfl w.heap.size _ (mk k F) rfl (hM.out.below (al2 wr (.cells #[.int .i64 V] 3))) wr.heap.size V rfl (new_1 wr V) (by rw [HMl.out]; omega) (Nat.le_trans hB.out.size (al2 wr _).size) (wr.heap.size + 1) (by simp) ?_; intro v4 w4 ho4 hg4 hd4 hsz))
      clear c0 c1 KEEP lr0 lr1
      have M4 := Lib.hid ho4
      have S4 := Lib.hid (own_far (hS.out.below (al2 wr (.cells #[.int .i64 V] 3))) hg4 (fun g e1 e2 => hD.out g e2 e1))
      have B4 := Lib.hid (Bd.below_grown (belowT hB.out (al2 wr (.cells #[.int .i64 V] 3))) (hM.out.below (al2 wr (.cells #[.int .i64 V] 3))) (Nat.le_refl _) hg4)
      have D4 := Lib.hid (fun g (e1 : v4.ownBlock = some g) (e2 : u7.ownBlock = some g) => (hd4 g e1).elim (fun e3 => hD.out g e3 e2) (fun e3 => by have := (hS.out.lt g e2).2; omega))
      clear ho4 hg4 hd4 hM hS hD hB
      have c0 := (B4.out.cell (p := ⟨b, off + k, none⟩) lb0).trans d0
      have c1 := (B4.out.cell (p := ⟨b', off' + k, none⟩) lb1).trans d1
      have lr0 := Nat.lt_of_lt_of_le lb0 B4.out.size
      have lr1 := Nat.lt_of_lt_of_le lb1 B4.out.size
      go_wp2
      have KEEP := Lib.hid (fun (W : World) (hW : Below w4.heap.size w4 W) => (⟨(hW.cell (p := ⟨b, off + k, none⟩) lr0).trans c0, (hW.cell (p := ⟨b', off' + k, none⟩) lr1).trans c1, hW⟩ : W.cell? ⟨b, off + k, none⟩ = some (.int .i64 X) ∧ W.cell? ⟨b', off' + k, none⟩ = some (.int .i64 Y) ∧ Below w4.heap.size w4 W))
      go_region_held3 (fun w' => w'.cell? ⟨b, off + k, none⟩ = some (.int .i64 X) ∧ w'.cell? ⟨b', off' + k, none⟩ = some (.int .i64 Y)) (first | exact ⟨(KEEP.out _ (by first | exact (Below.refl _ _).drew | exact al2 _ _)).1, (KEEP.out _ (by first | exact (Below.refl _ _).drew | exact al2 _ _)).2.1⟩ | exact ⟨(hg5.cell_far ⟨b, off + k, none⟩ (Nat.lt_of_lt_of_le lr0 (al2 _ _).size) (fun e => by have := (S4.out.lt b e.symm).1; omega)).trans (KEEP.out _ (al2 _ _)).1, (hg5.cell_far ⟨b', off' + k, none⟩ (Nat.lt_of_lt_of_le lr1 (al2 _ _).size) (fun e => by have := (S4.out.lt b' e.symm).1; omega)).trans (KEEP.out _ (al2 _ _)).2.1⟩)
        (first
          | (go_at_call 24; ((with_reducible refine (down1_ok (X - Y) _ (by omega) (by omega)).mono ?_); rintro e _ ⟨rfl, rfl⟩))
          | (go_at_call 23; ((with_reducible refine (HK2.out _).mono ?_); rintro e _ ⟨rfl, rfl⟩))
          | (refine step_push _ rfl (.tmp 29) (.tmp 41) rfl w.heap.size _ (mk k G) rfl (S4.out.below (al2 w4 (.cells #[.int .i64 U] 3))) w4.heap.size U rfl (new_1 w4 U) (by rw [HGl.out]; omega) (Nat.le_trans B4.out.size (al2 w4 _).size) (w4.heap.size + 1) (by simp) ?_; intro v5 w5 ho5 hg5 hd5 hsz))
      have G5 := Lib.hid ho5
      have M5 := Lib.hid (own_far (M4.out.below (al2 w4 (.cells #[.int .i64 U] 3))) hg5 (fun g e1 e2 => D4.out g e1 e2))
      have B5 := Lib.hid (Bd.below_grown (belowT B4.out (al2 w4 (.cells #[.int .i64 U] 3))) (S4.out.below (al2 w4 (.cells #[.int .i64 U] 3))) (Nat.le_refl _) hg5)
      have D5 : Hid (Dis v4 v5) := Lib.hid (fun g e1 e2 => (hd5 g e2).elim (fun e3 => D4.out g e1 e3) (fun e3 => by have := (M4.out.lt g e1).2; omega))
      clear ho5 hg5 hd5 c0 c1 KEEP lr0 lr1
      go_wp2
      go_roundw
      case rel => exact ⟨k + 1, by omega, by go_num, Lib.hid (by rw [mk_push, eF.out, ← EV.out]; exact M5.out), Lib.hid (by rw [mk_push, eG.out, ← EU.out]; exact G5.out), D5, B5⟩
      case measure => simp [intOf]; omega
    · obtain rfl : k = n := by omega
      go_wp2
      go_ret2
      exact ⟨_, _, rfl, hM.out, hS.out, hB.out⟩
def Pr3 (n : Nat) (F G : Nat → Int) (w : World) (e : Ending) (w' : World) : Prop := ∃ x y, e = .returned (.tuple #[x, y, .int .i64 0]) ∧ Bd.Own w.heap.size w' x (mk n F) ∧ Bd.Own w.heap.size w' y (mk n G) ∧ Below w.heap.size w w'
set_option maxRecDepth 100000 in
theorem halves_zero (a a' : Option Addr) (cap cap' : Nat) (F G : Nat → Int) (w : World) : Calls Try.prog 17 #[.slice a 0 cap, .slice a' 0 cap'] w (Pr 0 F G w) := by
  go_enter Try.func17, Try.ntmps17
  go_wp2
  go_loopw [6, 7, 8] (fun m s i wr => i = .int .i64 0 ∧ m = .slice none 0 0 ∧ s = .slice none 0 0 ∧ wr = w) (fun _ _ _ _ => 0)
  case atStart => exact ⟨rfl, rfl, rfl, rfl⟩
  case round =>
    obtain ⟨rfl, rfl, rfl, rfl⟩ := hrel
    go_wp2
    go_ret2
    exact ⟨_, _, rfl, ow_nil _ _ _, ow_nil _ _ _, Below.refl _ _⟩
theorem halves_ok (v0 v1 : Value) (za zb : List Int) (n : Nat) (w : World) (hf : Fit za zb n) (ra : Rd w v0 za) (rb : Rd w v1 zb) : Calls Try.prog 17 #[v0, v1] w (Pr n (fun j => kept (half (za.getD j 0 + zb.getD j 0))) (fun j => kept (half (za.getD j 0 - zb.getD j 0))) w) := by
  obtain ⟨la, lb, hn, ia, ib⟩ := id hf
  by_cases h0 : n = 0
  · subst h0
    obtain ⟨a, c, rfl⟩ := rd_any ra
    obtain ⟨a', c', rfl⟩ := rd_any rb
    rw [la, lb]
    exact halves_zero _ _ _ _ _ _ w
  · obtain ⟨b, off, c, rfl, l0, ca⟩ := rd_shape ra (by omega)
    obtain ⟨b', off', c', rfl, l1, cb⟩ := rd_shape rb (by omega)
    rw [la] at ca ⊢
    rw [lb] at cb ⊢
    exact halves_loop b off c b' off' c' n za zb w hn l0 l1 ca cb (fun j hj => fit_in hf hj)
theorem rsplit_ok (v0 v1 : Value) (za zb : List Int) (n : Nat) (w : World) (hf : Fit za zb n) (ra : Rd w v0 za) (rb : Rd w v1 zb) : Calls Try.prog 6 #[v0, v1] w (Pr3 n (fun j => kept (half (za.getD j 0 + zb.getD j 0))) (fun j => kept (half (za.getD j 0 - zb.getD j 0))) w) := by
  have HA := Lib.hid (asked_ok v0 v1 za zb n w hf ra rb)
  have HC := Lib.hid (halves_ok v0 v1 za zb n w hf ra rb)
  clear hf ra rb
  go_enter Try.func6, Try.ntmps6
  go_wp2_with (first
    | (go_at_call 16; ((with_reducible refine (HA.out).mono ?_); rintro e w1 ⟨rfl, rfl⟩))
    | (go_at_call 17; ((with_reducible refine (HC.out).mono ?_); rintro e w2 ⟨x, y, rfl, h1, h2, h3⟩)))
  go_ret3
  exact ⟨_, _, rfl, h1, h2, h3⟩
theorem rsplit_bad (v0 v1 : Value) (za zb : List Int) (m0 : za.length ≤ 1000) (m1 : zb.length ≤ 1000) (h : ¬ ∃ n, Fit za zb n) (w : World) (ra : Rd w v0 za) (rb : Rd w v1 zb) : Calls Try.prog 6 #[v0, v1] w fun e w' => e = .returned (.tuple #[.slice none 0 0, .slice none 0 0, .int .i64 (ce za zb)]) ∧ w = w' := by
  have HA := Lib.hid (asked_bad v0 v1 za zb m0 m1 h w ra rb)
  have hb := ce_bd za zb
  generalize ce za zb = r at *
  have hr : (r != 0) = true := by simp; omega
  clear h ra rb
  go_enter Try.func6, Try.ntmps6
  go_wp2_with (go_at_call 16; ((with_reducible refine (HA.out).mono ?_); rintro e w1 ⟨rfl, rfl⟩))
  go_ret3
  exact ⟨rfl, rfl⟩
set_option maxRecDepth 100000 in
set_option maxHeartbeats 4000000 in
theorem sums_loop (b off cap b' off' cap' n : Nat) (za zb : List Int) (w : World) (hn : n ≤ 256) (lb0 : b < w.heap.size) (lb1 : b' < w.heap.size) (ca : ∀ i, i < n → w.cell? ⟨b, off + i, none⟩ = some (.int .i64 (za.getD i 0))) (cb : ∀ i, i < n → w.cell? ⟨b', off' + i, none⟩ = some (.int .i64 (zb.getD i 0)))
    (hin : ∀ j, j < n → In2 za zb j) : Calls Try.prog 20 #[.slice (some ⟨b, off, none⟩) n cap, .slice (some ⟨b', off', none⟩) n cap'] w (Pr n (fun j => kept (za.getD j 0 + zb.getD j 0)) (fun j => kept (za.getD j 0 - zb.getD j 0)) w) := by
  have CA := Lib.hid ca
  have CB := Lib.hid cb
  have HI := Lib.hid hin
  obtain ⟨F, hF⟩ : ∃ F : Nat → Int, F = fun j => kept (za.getD j 0 + zb.getD j 0) := ⟨_, rfl⟩
  obtain ⟨G, hG⟩ : ∃ G : Nat → Int, G = fun j => kept (za.getD j 0 - zb.getD j 0) := ⟨_, rfl⟩
  rw [← hF, ← hG]
  have HF := Lib.hid hF
  have HG := Lib.hid hG
  clear ca cb hin hF hG
  go_enter Try.func20, Try.ntmps20
  go_wp2
  go_loopw [6, 7, 8] (fun m s i wr => ∃ k : Nat, k ≤ n ∧ i = .int .i64 k ∧ Hid (Bd.Own w.heap.size wr m (mk k F)) ∧ Hid (Bd.Own w.heap.size wr s (mk k G)) ∧ Hid (Dis m s) ∧ Hid (Below w.heap.size w wr)) (fun _ _ i _ => n - (intOf i).toNat)
  case atStart => exact ⟨0, by omega, rfl, Lib.hid (ow_nil _ _ _), Lib.hid (ow_nil _ _ _), Lib.hid (dis_nil _), Lib.hid (Below.refl _ _)⟩
  case round =>
    obtain ⟨k, hk, rfl, hM, hS, hD, hB⟩ := hrel
    by_cases hlt : k < n
    · have c0 := (hB.out.cell (p := ⟨b, off + k, none⟩) lb0).trans (CA.out k hlt)
      have c1 := (hB.out.cell (p := ⟨b', off' + k, none⟩) lb1).trans (CB.out k hlt)
      obtain ⟨⟨i0, i1⟩, i2, i3⟩ := HI.out k hlt
      have eF : Hid (F k = kept (za.getD k 0 + zb.getD k 0)) := Lib.hid (by rw [HF.out])
      have eG : Hid (G k = kept (za.getD k 0 - zb.getD k 0)) := Lib.hid (by rw [HG.out])
      have lr0 := Nat.lt_of_lt_of_le lb0 hB.out.size
      have lr1 := Nat.lt_of_lt_of_le lb1 hB.out.size
      generalize za.getD k 0 = X at *
      generalize zb.getD k 0 = Y at *
      have x1 : IntKind.i64.wrap (X + Y) = X + Y := i64_in (by omega) (by omega)
      have x2 : IntKind.i64.wrap (X - Y) = X - Y := i64_in (by omega) (by omega)
      have hkn : (k : Int) < (n : Int) := by omega
      obtain ⟨V, hV⟩ : ∃ V, V = kept (X + Y) := ⟨_, rfl⟩
      obtain ⟨U, hU⟩ : ∃ U, U = kept (X - Y) := ⟨_, rfl⟩
      have d0 := (hB.out.cell (p := ⟨b, off + k, none⟩) lb0).symm.trans c0
      have d1 := (hB.out.cell (p := ⟨b', off' + k, none⟩) lb1).symm.trans c1
      have HK1 := Lib.hid (show ∀ w, Calls Try.prog 23 #[.int .i64 (X + Y)] w fun e w' => e = .returned (.int .i64 V) ∧ w = w' by rw [hV]; exact fun w => rkept_ok _ w)
      have HK2 := Lib.hid (show ∀ w, Calls Try.prog 23 #[.int .i64 (X - Y)] w fun e w' => e = .returned (.int .i64 U) ∧ w = w' by rw [hU]; exact fun w => rkept_ok _ w)
      have HMl := Lib.hid (mk_len k F)
      have HGl := Lib.hid (mk_len k G)
      have EV := Lib.hid hV
      have EU := Lib.hid hU
      clear hV hU
      go_wp2
      have KEEP := Lib.hid (fun (W : World) (hW : Below wr.heap.size wr W) => (⟨(hW.cell (p := ⟨b, off + k, none⟩) lr0).trans c0, (hW.cell (p := ⟨b', off' + k, none⟩) lr1).trans c1, hW⟩ : W.cell? ⟨b, off + k, none⟩ = some (.int .i64 X) ∧ W.cell? ⟨b', off' + k, none⟩ = some (.int .i64 Y) ∧ Below wr.heap.size wr W))
      go_region_held3 (fun w' => w'.cell? ⟨b, off + k, none⟩ = some (.int .i64 X) ∧ w'.cell? ⟨b', off' + k, none⟩ = some (.int .i64 Y)) (first | exact ⟨(KEEP.out _ (by first | exact (Below.refl _ _).drew | exact al2 _ _)).1, (KEEP.out _ (by first | exact (Below.refl _ _).drew | exact al2 _ _)).2.1⟩ | exact ⟨(hg4.cell_far ⟨b, off + k, none⟩ (Nat.lt_of_lt_of_le lr0 (al2 _ _).size) (fun e => by have := (hM.out.lt b e.symm).1; omega)).trans (KEEP.out _ (al2 _ _)).1, (hg4.cell_far ⟨b', off' + k, none⟩ (Nat.lt_of_lt_of_le lr1 (al2 _ _).size) (fun e => by have := (hM.out.lt b' e.symm).1; omega)).trans (KEEP.out _ (al2 _ _)).2.1⟩)
        (first
          | (go_at_call 23; ((with_reducible refine (HK1.out _).mono ?_); rintro e _ ⟨rfl, rfl⟩))
          | (refine step_push _ rfl (.tmp 15) (.tmp 26) rfl w.heap.size _ (mk k F) rfl (hM.out.below (al2 wr (.cells #[.int .i64 V] 3))) wr.heap.size V rfl (new_1 wr V) (by rw [HMl.out]; omega) (Nat.le_trans hB.out.size (al2 wr _).size) (wr.heap.size + 1) (by simp) ?_; intro v4 w4 ho4 hg4 hd4 hsz))
      clear c0 c1 KEEP lr0 lr1
      have M4 := Lib.hid ho4
      have S4 := Lib.hid (own_far (hS.out.below (al2 wr (.cells #[.int .i64 V] 3))) hg4 (fun g e1 e2 => hD.out g e2 e1))
      have B4 := Lib.hid (Bd.below_grown (belowT hB.out (al2 wr (.cells #[.int .i64 V] 3))) (hM.out.below (al2 wr (.cells #[.int .i64 V] 3))) (Nat.le_refl _) hg4)
      have D4 := Lib.hid (fun g (e1 : v4.ownBlock = some g) (e2 : u7.ownBlock = some g) => (hd4 g e1).elim (fun e3 => hD.out g e3 e2) (fun e3 => by have := (hS.out.lt g e2).2; omega))
      clear ho4 hg4 hd4 hM hS hD hB
      have c0 := (B4.out.cell (p := ⟨b, off + k, none⟩) lb0).trans d0
      have c1 := (B4.out.cell (p := ⟨b', off' + k, none⟩) lb1).trans d1
      have lr0 := Nat.lt_of_lt_of_le lb0 B4.out.size
      have lr1 := Nat.lt_of_lt_of_le lb1 B4.out.size
      go_wp2
      have KEEP := Lib.hid (fun (W : World) (hW : Below w4.heap.size w4 W) => (⟨(hW.cell (p := ⟨b, off + k, none⟩) lr0).trans c0, (hW.cell (p := ⟨b', off' + k, none⟩) lr1).trans c1, hW⟩ : W.cell? ⟨b, off + k, none⟩ = some (.int .i64 X) ∧ W.cell? ⟨b', off' + k, none⟩ = some (.int .i64 Y) ∧ Below w4.heap.size w4 W))
      go_region_held3 (fun w' => w'.cell? ⟨b, off + k, none⟩ = some (.int .i64 X) ∧ w'.cell? ⟨b', off' + k, none⟩ = some (.int .i64 Y)) (first | exact ⟨(KEEP.out _ (by first | exact (Below.refl _ _).drew | exact al2 _ _)).1, (KEEP.out _ (by first | exact (Below.refl _ _).drew | exact al2 _ _)).2.1⟩ | exact ⟨(hg5.cell_far ⟨b, off + k, none⟩ (Nat.lt_of_lt_of_le lr0 (al2 _ _).size) (fun e => by have := (S4.out.lt b e.symm).1; omega)).trans (KEEP.out _ (al2 _ _)).1, (hg5.cell_far ⟨b', off' + k, none⟩ (Nat.lt_of_lt_of_le lr1 (al2 _ _).size) (fun e => by have := (S4.out.lt b' e.symm).1; omega)).trans (KEEP.out _ (al2 _ _)).2.1⟩)
        (first
          | (go_at_call 23; ((with_reducible refine (HK2.out _).mono ?_); rintro e _ ⟨rfl, rfl⟩))
          | (refine step_push _ rfl (.tmp 28) (.tmp 39) rfl w.heap.size _ (mk k G) rfl (S4.out.below (al2 w4 (.cells #[.int .i64 U] 3))) w4.heap.size U rfl (new_1 w4 U) (by rw [HGl.out]; omega) (Nat.le_trans B4.out.size (al2 w4 _).size) (w4.heap.size + 1) (by simp) ?_; intro v5 w5 ho5 hg5 hd5 hsz))
      have G5 := Lib.hid ho5
      have M5 := Lib.hid (own_far (M4.out.below (al2 w4 (.cells #[.int .i64 U] 3))) hg5 (fun g e1 e2 => D4.out g e1 e2))
      have B5 := Lib.hid (Bd.below_grown (belowT B4.out (al2 w4 (.cells #[.int .i64 U] 3))) (S4.out.below (al2 w4 (.cells #[.int .i64 U] 3))) (Nat.le_refl _) hg5)
      have D5 : Hid (Dis v4 v5) := Lib.hid (fun g e1 e2 => (hd5 g e2).elim (fun e3 => D4.out g e1 e3) (fun e3 => by have := (M4.out.lt g e1).2; omega))
      clear ho5 hg5 hd5 c0 c1 KEEP lr0 lr1
      go_wp2
      go_roundw
      case rel => exact ⟨k + 1, by omega, by go_num, Lib.hid (by rw [mk_push, eF.out, ← EV.out]; exact M5.out), Lib.hid (by rw [mk_push, eG.out, ← EU.out]; exact G5.out), D5, B5⟩
      case measure => simp [intOf]; omega
    · obtain rfl : k = n := by omega
      go_wp2
      go_ret2
      exact ⟨_, _, rfl, hM.out, hS.out, hB.out⟩
set_option maxRecDepth 100000 in
theorem sums_zero (a a' : Option Addr) (cap cap' : Nat) (F G : Nat → Int) (w : World) : Calls Try.prog 20 #[.slice a 0 cap, .slice a' 0 cap'] w (Pr 0 F G w) := by
  go_enter Try.func20, Try.ntmps20
  go_wp2
  go_loopw [6, 7, 8] (fun m s i wr => i = .int .i64 0 ∧ m = .slice none 0 0 ∧ s = .slice none 0 0 ∧ wr = w) (fun _ _ _ _ => 0)
  case atStart => exact ⟨rfl, rfl, rfl, rfl⟩
  case round =>
    obtain ⟨rfl, rfl, rfl, rfl⟩ := hrel
    go_wp2
    go_ret2
    exact ⟨_, _, rfl, ow_nil _ _ _, ow_nil _ _ _, Below.refl _ _⟩
theorem sums_ok (v0 v1 : Value) (za zb : List Int) (n : Nat) (w : World) (hf : Fit za zb n) (ra : Rd w v0 za) (rb : Rd w v1 zb) : Calls Try.prog 20 #[v0, v1] w (Pr n (fun j => kept (za.getD j 0 + zb.getD j 0)) (fun j => kept (za.getD j 0 - zb.getD j 0)) w) := by
  obtain ⟨la, lb, hn, ia, ib⟩ := id hf
  by_cases h0 : n = 0
  · subst h0
    obtain ⟨a, c, rfl⟩ := rd_any ra
    obtain ⟨a', c', rfl⟩ := rd_any rb
    rw [la, lb]
    exact sums_zero _ _ _ _ _ _ w
  · obtain ⟨b, off, c, rfl, l0, ca⟩ := rd_shape ra (by omega)
    obtain ⟨b', off', c', rfl, l1, cb⟩ := rd_shape rb (by omega)
    rw [la] at ca ⊢
    rw [lb] at cb ⊢
    exact sums_loop b off c b' off' c' n za zb w hn l0 l1 ca cb (fun j hj => fit_in hf hj)
theorem rjoin_ok (v0 v1 : Value) (za zb : List Int) (n : Nat) (w : World) (hf : Fit za zb n) (ra : Rd w v0 za) (rb : Rd w v1 zb) : Calls Try.prog 8 #[v0, v1] w (Pr3 n (fun j => kept (za.getD j 0 + zb.getD j 0)) (fun j => kept (za.getD j 0 - zb.getD j 0)) w) := by
  have HA := Lib.hid (asked_ok v0 v1 za zb n w hf ra rb)
  have HC := Lib.hid (sums_ok v0 v1 za zb n w hf ra rb)
  clear hf ra rb
  go_enter Try.func8, Try.ntmps8
  go_wp2_with (first
    | (go_at_call 16; ((with_reducible refine (HA.out).mono ?_); rintro e w1 ⟨rfl, rfl⟩))
    | (go_at_call 20; ((with_reducible refine (HC.out).mono ?_); rintro e w2 ⟨x, y, rfl, h1, h2, h3⟩)))
  go_ret3
  exact ⟨_, _, rfl, h1, h2, h3⟩
theorem rjoin_bad (v0 v1 : Value) (za zb : List Int) (m0 : za.length ≤ 1000) (m1 : zb.length ≤ 1000) (h : ¬ ∃ n, Fit za zb n) (w : World) (ra : Rd w v0 za) (rb : Rd w v1 zb) : Calls Try.prog 8 #[v0, v1] w fun e w' => e = .returned (.tuple #[.slice none 0 0, .slice none 0 0, .int .i64 (ce za zb)]) ∧ w = w' := by
  have HA := Lib.hid (asked_bad v0 v1 za zb m0 m1 h w ra rb)
  have hb := ce_bd za zb
  generalize ce za zb = r at *
  have hr : (r != 0) = true := by simp; omega
  clear h ra rb
  go_enter Try.func8, Try.ntmps8
  go_wp2_with (go_at_call 16; ((with_reducible refine (HA.out).mono ?_); rintro e w1 ⟨rfl, rfl⟩))
  go_ret3
  exact ⟨rfl, rfl⟩
end Go.Proofs.Ytbblbahllaindaa.Md
