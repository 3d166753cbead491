/- What is quantised, and its lines are made, and quantised again, has the same lines again; and no line of another quantised one is nearer. QuantBack returns true, whatever the rate, the windows, the books, the steps, the lines, the number, the memory and the schedule. Condition: package power's table of four numbers holds its values, as the row lists it. -/
import Derived.Test.YtanjcbnkkhbkkaaDoorMrg1
import Derived.Test.YtanjcbnkkhbkkaaDoorCards
import Derived.Test.YtanjcbnkkhbkkaaDoorTie
import Derived.Deep.DeepHandedRow
import Derived.Lib.LaidTab
import Derived.Lib.Hide
namespace Go.Proofs.YtanjcbnkkhbkkaaDoor.quantBack
open Go Go.Ev Go.ChangeShapes Go.WideShapes Go.ChangeAt Go.RowKit Go.Proofs.YtanjcbnkkhbkkaaDoor.If Go.Proofs.YtanjcbnkkhbkkaaDoor.Bd Go.Proofs.YtanjcbnkkhbkkaaDoor.Qn

theorem row_on {w w' : World} {g n : Nat} {t : TypeId} {f : Nat → Value} (h : w.rowIs g t n f) (b : Below w.heap.size w w') : w'.rowIs g t n f := h.of_block (b.block g h.lt)
set_option linter.unusedVariables false
/-- What stays, whatever is called. -/
structure K (w : World) (ga : Option Addr) (gz : List Int) (O P A : Option Addr) (B S : List (List Int)) (lz : List Int) (s h m : Int) (gc : Nat) (W : World) : Prop where
  q : Fx.Qs W
  i : Inp W ga gz O P B S
  l : RdA W A lz
  b : Below w.heap.size w W
  y : W.cell? ⟨w.heap.size, 0, none⟩ = some (.int .u8 s) ∧ W.cell? ⟨w.heap.size, 1, none⟩ = some (.int .u8 h) ∧ W.cell? ⟨w.heap.size, 2, none⟩ = some (.int .i64 m) ∧ W.cell? ⟨w.heap.size, 3, none⟩ = some (.slice ga gz.length gc)
  z : w.heap.size < W.heap.size
theorem K.on {w : World} {ga : Option Addr} {gz : List Int} {O P A : Option Addr} {B S : List (List Int)} {lz : List Int} {s h m : Int} {gc : Nat} {W W' : World} (k : K w ga gz O P A B S lz s h m gc W) (b : Below W.heap.size W W') : K w ga gz O P A B S lz s h m gc W' :=
  ⟨k.q.below b, k.i.below b, k.l.below b, belowT k.b b, ⟨(b.cell (p := ⟨w.heap.size, 0, none⟩) k.z).trans k.y.1, (b.cell (p := ⟨w.heap.size, 1, none⟩) k.z).trans k.y.2.1, (b.cell (p := ⟨w.heap.size, 2, none⟩) k.z).trans k.y.2.2.1, (b.cell (p := ⟨w.heap.size, 3, none⟩) k.z).trans k.y.2.2.2⟩, Nat.lt_of_lt_of_le k.z b.size⟩

set_option maxRecDepth 100000 in
theorem great (r s h m : Int) (ga : Option Addr) (gc : Nat) (gz : List Int) (O P A : Option Addr) (oc pc lc : Nat) (B S : List (List Int)) (lz : List Int) (by' : Int) (w : World) (hT : Tb w) (hqs : Fx.Qs w) (hgl : gz.length ≤ maxLen) (hB : B.length ≤ maxLen) (hS : S.length ≤ maxLen) (hL : lz.length ≤ maxLen) (hBr : ∀ i, i < B.length → (B.getD i []).length ≤ maxLen) (hSr : ∀ i, i < S.length → (S.getD i []).length ≤ maxLen) (rg : RdA w ga gz) (rB : RdR w O B) (rS : RdR w P S) (rl : RdA w A lz) (hgr : grt gz.length B S lz.length = true) :
    Calls Tryd.prog 13 #[.int .i64 r, .agg #[.int .u8 s, .int .u8 h, .int .i64 m, .slice ga gz.length gc], .slice O B.length oc, .slice P S.length pc, .slice A lz.length lc, .int .i16 by'] w fun e w' => e = .returned (.bool true) ∧ Below w.heap.size w w' := by
  have HB := Lib.hid (box_below w (.cells #[.int .u8 s, .int .u8 h, .int .i64 m, .slice ga gz.length gc] 50))
  obtain ⟨y0, y1, y2, y3⟩ := boxed w s h m (.slice ga gz.length gc) _ (Below.refl _ _)
  have HA := Lib.hid (alive36 _ (hT.below HB.out))
  have HG := Lib.hid (fun W (hW : Below w.heap.size w W) => great_ok s h m ga gc gz O P A oc pc lc lz.length B S W hgl hB hS hL hBr hSr (rB.below hW) (rS.below hW))
  rw [hgr] at HG
  clear hT hqs hBr hSr rg rB rS rl
  go_enter Tryd.func13, Tryd.ntmps13
  go_wp2_with (first
    | (go_at_call 36; ((with_reducible refine (HA.out).mono ?_); rintro e w1 ⟨rfl, hb1⟩; have hbb := belowT HB.out hb1; have c0 := (hb1.cell (p := ⟨w.heap.size, 0, none⟩) (by simp)).trans y0; have c1 := (hb1.cell (p := ⟨w.heap.size, 1, none⟩) (by simp)).trans y1; have c2 := (hb1.cell (p := ⟨w.heap.size, 2, none⟩) (by simp)).trans y2; have c3 := (hb1.cell (p := ⟨w.heap.size, 3, none⟩) (by simp)).trans y3))
    | (go_at_call 29; ((with_reducible refine (HG.out _ hbb).mono ?_); rintro e w2 ⟨rfl, hb2⟩; have hbc := belowT hbb hb2)))
  go_ret
  exact ⟨rfl, hbc⟩

set_option maxRecDepth 100000 in
theorem wrong (r s h m : Int) (ga : Option Addr) (gc : Nat) (gz : List Int) (O P A : Option Addr) (oc pc lc : Nat) (B S : List (List Int)) (lz : List Int) (by' : Int) (w : World) (hT : Tb w) (hqs : Fx.Qs w) (hgl : gz.length ≤ maxLen) (hB : B.length ≤ maxLen) (hS : S.length ≤ maxLen) (hL : lz.length ≤ maxLen) (hBr : ∀ i, i < B.length → (B.getD i []).length ≤ maxLen) (hSr : ∀ i, i < S.length → (S.getD i []).length ≤ maxLen) (rg : RdA w ga gz) (rB : RdR w O B) (rS : RdR w P S) (rl : RdA w A lz) (hgr : grt gz.length B S lz.length = false) (hf : ¬ Fine r s h m gz B S lz 268435455) :
    Calls Tryd.prog 13 #[.int .i64 r, .agg #[.int .u8 s, .int .u8 h, .int .i64 m, .slice ga gz.length gc], .slice O B.length oc, .slice P S.length pc, .slice A lz.length lc, .int .i16 by'] w fun e w' => e = .returned (.bool true) ∧ Below w.heap.size w w' := by
  have HB := Lib.hid (box_below w (.cells #[.int .u8 s, .int .u8 h, .int .i64 m, .slice ga gz.length gc] 50))
  obtain ⟨y0, y1, y2, y3⟩ := boxed w s h m (.slice ga gz.length gc) _ (Below.refl _ _)
  obtain ⟨g1, g2, g3, g4⟩ := grt_no hgr
  have HA := Lib.hid (alive36 _ (hT.below HB.out))
  have HG := Lib.hid (fun W (hW : Below w.heap.size w W) => great_ok s h m ga gc gz O P A oc pc lc lz.length B S W hgl hB hS hL hBr hSr (rB.below hW) (rS.below hW))
  rw [hgr] at HG
  have I : Inp w ga gz O P B S := ⟨g1, g2, g3, hBr, hSr, rg, rB, rS⟩
  have K1 : Hid (K w ga gz O P A B S lz s h m gc (w.alloc (.cells #[.int .u8 s, .int .u8 h, .int .i64 m, .slice ga gz.length gc] 50))) := Lib.hid ⟨hqs.below HB.out, I.below HB.out, rl.below HB.out, HB.out, ⟨y0, y1, y2, y3⟩, by simp⟩
  have HX := Lib.hid (fun W (k : K w ga gz O P A B S lz s h m gc W) => quant_err r s h m ga gc gz O P A oc pc lc B S lz W k.i g4 k.l hf)
  clear hT hqs hBr hSr rg rB rS rl I hf y0 y1 y2 y3 g1 g2 g3 g4
  obtain ⟨y0, y1, y2, y3⟩ := K1.out.y
  go_enter Tryd.func13, Tryd.ntmps13
  go_wp2_with (first
    | (go_at_call 36; ((with_reducible refine (HA.out).mono ?_); rintro e w1 ⟨rfl, hb1⟩; have K2 := Lib.hid (K1.out.on hb1); obtain ⟨c0, c1, c2, c3⟩ := K2.out.y))
    | (go_at_call 29; ((with_reducible refine (HG.out _ K2.out.b).mono ?_); rintro e w2 ⟨rfl, hb2⟩; have K3 := Lib.hid (K2.out.on hb2); obtain ⟨c0, c1, c2, c3⟩ := K3.out.y))
    | (go_at_call 33; ((with_reducible refine (HX.out _ K3.out).mono ?_); rintro e w3 ⟨c, hc, rfl, hb3⟩; have hc1 : (c != 0) = true := (by simpa using hc); have hc2 : (c == 0) = false := (by simpa using hc); have K4 := Lib.hid (K3.out.on hb3))))
  go_ret
  exact ⟨rfl, K4.out.b⟩

set_option maxRecDepth 100000 in
set_option maxHeartbeats 8000000 in
theorem good (r s h m : Int) (ga : Option Addr) (gc : Nat) (gz : List Int) (O P A : Option Addr) (oc pc lc : Nat) (B S : List (List Int)) (lz : List Int) (by' : Int) (w : World) (hT : Tb w) (hqs : Fx.Qs w) (hgl : gz.length ≤ maxLen) (hB : B.length ≤ maxLen) (hS : S.length ≤ maxLen) (hL : lz.length ≤ maxLen) (hBr : ∀ i, i < B.length → (B.getD i []).length ≤ maxLen) (hSr : ∀ i, i < S.length → (S.getD i []).length ≤ maxLen) (rg : RdA w ga gz) (rB : RdR w O B) (rS : RdR w P S) (rl : RdA w A lz) (hgr : grt gz.length B S lz.length = false) (hf : Fine r s h m gz B S lz 268435455) (b0 : -32768 ≤ by') (b1 : by' ≤ 32767) :
    Calls Tryd.prog 13 #[.int .i64 r, .agg #[.int .u8 s, .int .u8 h, .int .i64 m, .slice ga gz.length gc], .slice O B.length oc, .slice P S.length pc, .slice A lz.length lc, .int .i16 by'] w fun e w' => e = .returned (.bool true) ∧ Below w.heap.size w w' := by
  have HB := Lib.hid (box_below w (.cells #[.int .u8 s, .int .u8 h, .int .i64 m, .slice ga gz.length gc] 50))
  obtain ⟨y0, y1, y2, y3⟩ := boxed w s h m (.slice ga gz.length gc) _ (Below.refl _ _)
  obtain ⟨g1, g2, g3, g4⟩ := grt_no hgr
  have HA := Lib.hid (alive36 _ (hT.below HB.out))
  have HG := Lib.hid (fun W (hW : Below w.heap.size w W) => great_ok s h m ga gc gz O P A oc pc lc lz.length B S W hgl hB hS hL hBr hSr (rB.below hW) (rS.below hW))
  rw [hgr] at HG
  have I : Inp w ga gz O P B S := ⟨g1, g2, g3, hBr, hSr, rg, rB, rS⟩
  have K1 : Hid (K w ga gz O P A B S lz s h m gc (w.alloc (.cells #[.int .u8 s, .int .u8 h, .int .i64 m, .slice ga gz.length gc] 50))) := Lib.hid ⟨hqs.below HB.out, I.below HB.out, rl.below HB.out, HB.out, ⟨y0, y1, y2, y3⟩, by simp⟩
  have hl := hf.2.1
  have hq := hf.1
  have hin := hf.2.2
  -- the numbers
  obtain ⟨Q, hQ⟩ : ∃ Q, QV r s m gz B S lz Fx.FQ = Q := ⟨_, rfl⟩
  obtain ⟨a, ha⟩ : ∃ a, QV r s m gz B S (mkq Q) Fx.FL = a := ⟨_, rfl⟩
  obtain ⟨R, hR⟩ : ∃ R, QV r s m gz B S (mkq a) Fx.FQ = R := ⟨_, rfl⟩
  obtain ⟨b, hb⟩ : ∃ b, QV r s m gz B S (mkq R) Fx.FL = b := ⟨_, rfl⟩
  obtain ⟨C, hC⟩ : ∃ C, QV r s m gz B S (mkq fun n => oth (Q n) by') Fx.FL = C := ⟨_, rfl⟩
  have eQ : ∀ k, k < 256 → Q k = st (Cn r s m gz B k) Fx.FQ (lz.getD k 0) (stp r s gz S k) := fun k _ => by rw [← hQ, qv_st]
  have ea : ∀ k, k < 256 → a k = st (Cn r s m gz B k) Fx.FL (Q k) (stp r s gz S k) := fun k hk => by rw [← ha, qv_st, mkq_get Q hk]
  have eR : ∀ k, k < 256 → R k = st (Cn r s m gz B k) Fx.FQ (a k) (stp r s gz S k) := fun k hk => by rw [← hR, qv_st, mkq_get a hk]
  have eb : ∀ k, k < 256 → b k = st (Cn r s m gz B k) Fx.FL (R k) (stp r s gz S k) := fun k hk => by rw [← hb, qv_st, mkq_get R hk]
  have eC : ∀ k, k < 256 → C k = st (Cn r s m gz B k) Fx.FL (oth (Q k) by') (stp r s gz S k) := fun k hk => by rw [← hC, qv_st, mkq_get _ hk]
  have bQ : ∀ k, k < 256 → -8191 ≤ Q k ∧ Q k ≤ 8191 := fun k hk => by rw [eQ k hk]; exact st_fq_bd (step_in hq hk) (hin k hk).1 (hin k hk).2
  have ba : ∀ k, k < 256 → -268435455 ≤ a k ∧ a k ≤ 268435455 := fun k hk => by rw [ea k hk]; exact st_fl_bd (step_in hq hk) (bQ k hk).1 (bQ k hk).2
  have bR : ∀ k, k < 256 → -8191 ≤ R k ∧ R k ≤ 8191 := fun k hk => by rw [eR k hk]; exact st_fq_bd (step_in hq hk) (ba k hk).1 (ba k hk).2
  have bC : ∀ k, k < 256 → -268435455 ≤ C k ∧ C k ≤ 268435455 := fun k hk => by rw [eC k hk]; exact st_fl_bd (step_in hq hk) (oth_bd _ _).1 (oth_bd _ _).2
  have HS : Hid (∀ k, k < 256 → a k = b k) := Lib.hid fun k hk => by rw [eb k hk, eR k hk, ea k hk, eQ k hk]; exact (st_again (step_in hq hk) (hin k hk).1 (hin k hk).2).symm
  have HN : Hid (∀ k, k < 256 → ¬ far (lz.getD k 0) (C k) < far (lz.getD k 0) (a k)) := Lib.hid fun k hk => by rw [eC k hk, ea k hk, eQ k hk]; exact st_near (step_in hq hk) (hin k hk).1 (hin k hk).2 (oth_bd _ _).1 (oth_bd _ _).2
  have HQB := Lib.hid bQ
  have HAB := Lib.hid ba
  have HCB := Lib.hid bC
  have HIN := Lib.hid hin
  -- the calls
  have X1 : Hid (∀ W, K w ga gz O P A B S lz s h m gc W → Calls Tryd.prog 33 #[.int .i64 r, .agg #[.int .u8 s, .int .u8 h, .int .i64 m, .slice ga gz.length gc], .slice O B.length oc, .slice P S.length pc, .slice A 256 lc] W fun e w' => Ansr W w' e Q) := Lib.hid fun W k => by
    have := quant_good r s h m ga gc gz O P A oc pc lc B S lz W k.q k.i k.l hf
    rw [hl, hQ] at this; exact this
  have X2 : Hid (∀ W g, K w ga gz O P A B S lz s h m gc W → RdA W (some ⟨g, 0, none⟩) (mkq Q) → Calls Tryd.prog 31 #[.int .i64 r, .agg #[.int .u8 s, .int .u8 h, .int .i64 m, .slice ga gz.length gc], .slice O B.length oc, .slice P S.length pc, .slice (some ⟨g, 0, none⟩) 256 256] W fun e w' => Ansr W w' e a) := Lib.hid fun W g k rd => by
    have := lines_good r s h m ga gc gz O P (some ⟨g, 0, none⟩) oc pc 256 B S (mkq Q) W k.q k.i rd ⟨hq, mkq_len _, fun j hj => by rw [mkq_get Q hj]; exact bQ j hj⟩
    rw [mkq_len, ha] at this; exact this
  have X3 : Hid (∀ W g, K w ga gz O P A B S lz s h m gc W → RdA W (some ⟨g, 0, none⟩) (mkq a) → Calls Tryd.prog 33 #[.int .i64 r, .agg #[.int .u8 s, .int .u8 h, .int .i64 m, .slice ga gz.length gc], .slice O B.length oc, .slice P S.length pc, .slice (some ⟨g, 0, none⟩) 256 256] W fun e w' => Ansr W w' e R) := Lib.hid fun W g k rd => by
    have := quant_good r s h m ga gc gz O P (some ⟨g, 0, none⟩) oc pc 256 B S (mkq a) W k.q k.i rd ⟨hq, mkq_len _, fun j hj => by rw [mkq_get a hj]; exact ba j hj⟩
    rw [mkq_len, hR] at this; exact this
  have X4 : Hid (∀ W g, K w ga gz O P A B S lz s h m gc W → RdA W (some ⟨g, 0, none⟩) (mkq R) → Calls Tryd.prog 31 #[.int .i64 r, .agg #[.int .u8 s, .int .u8 h, .int .i64 m, .slice ga gz.length gc], .slice O B.length oc, .slice P S.length pc, .slice (some ⟨g, 0, none⟩) 256 256] W fun e w' => Ansr W w' e b) := Lib.hid fun W g k rd => by
    have := lines_good r s h m ga gc gz O P (some ⟨g, 0, none⟩) oc pc 256 B S (mkq R) W k.q k.i rd ⟨hq, mkq_len _, fun j hj => by rw [mkq_get R hj]; exact bR j hj⟩
    rw [mkq_len, hb] at this; exact this
  have X5 : Hid (∀ W g, K w ga gz O P A B S lz s h m gc W → RdA W (some ⟨g, 0, none⟩) (mkq fun n => oth (Q n) by') → Calls Tryd.prog 31 #[.int .i64 r, .agg #[.int .u8 s, .int .u8 h, .int .i64 m, .slice ga gz.length gc], .slice O B.length oc, .slice P S.length pc, .slice (some ⟨g, 0, none⟩) 256 256] W fun e w' => Ansr W w' e C) := Lib.hid fun W g k rd => by
    have := lines_good r s h m ga gc gz O P (some ⟨g, 0, none⟩) oc pc 256 B S (mkq fun n => oth (Q n) by') W k.q k.i rd ⟨hq, mkq_len _, fun j hj => by rw [mkq_get _ hj]; exact oth_bd _ _⟩
    rw [mkq_len, hC] at this; exact this
  have hmk : ∀ w : World, (Instr.makeSlice 39 (.int .i64 256) (.int .i64 256)).run Tryd.prog w = .ok (.slice (some ⟨w.heap.size, 0, none⟩) 256 256) (w.alloc (.cells (madeCells #[.int .i64 0] 256) 3)) := fun w => run_make_row' 39 3 (.int .i64 0) 8 Tryd.underlying39 info3' rfl .i64 .i64 256 (by decide) (by decide) w
  rw [hl] at hgr HG g4 ⊢
  clear hT hqs hBr hSr rg rB rS rl I hf y0 y1 y2 y3 hq hin bQ ba bR bC eQ ea eR eb eC hQ ha hR hb hC hgl hB hS hL hgr
  obtain ⟨y0, y1, y2, y3⟩ := K1.out.y
  go_enter Tryd.func13, Tryd.ntmps13
  go_wp2_with (first
    | (go_at_call 36; ((with_reducible refine (HA.out).mono ?_); rintro e w1 ⟨rfl, hb1⟩; have K2 := Lib.hid (K1.out.on hb1); obtain ⟨c0, c1, c2, c3⟩ := K2.out.y))
    | (go_at_call 29; ((with_reducible refine (HG.out _ K2.out.b).mono ?_); rintro e w2 ⟨rfl, hb2⟩; have K3 := Lib.hid (K2.out.on hb2); obtain ⟨c0, c1, c2, c3⟩ := K3.out.y))
    | (go_at_call 33; ((with_reducible refine (X1.out _ K3.out).mono ?_); rintro e w3 ⟨p1, rfl, hr1, hg1, hb3⟩; have K4 := Lib.hid (K3.out.on hb3); have R4 := Lib.hid hr1; clear hr1; obtain ⟨c0, c1, c2, c3⟩ := K4.out.y))
    | (go_at_call 31; ((with_reducible refine (X2.out _ p1 K4.out (rda_row R4.out)).mono ?_); rintro e w4 ⟨p2, rfl, hr2, hg2, hb4⟩; have K5 := Lib.hid (K4.out.on hb4); have R5 := Lib.hid hr2; clear hr2; obtain ⟨c0, c1, c2, c3⟩ := K5.out.y))
    | (go_at_call 33; ((with_reducible refine (X3.out _ p2 K5.out (rda_row R5.out)).mono ?_); rintro e w5 ⟨p3, rfl, hr3, hg3, hb5⟩; have K6 := Lib.hid (K5.out.on hb5); have R6 := Lib.hid hr3; clear hr3; obtain ⟨c0, c1, c2, c3⟩ := K6.out.y))
    | (go_at_call 31; ((with_reducible refine (X4.out _ p3 K6.out (rda_row R6.out)).mono ?_); rintro e w6 ⟨p4, rfl, hr4, hg4, hb6⟩; have K7 := Lib.hid (K6.out.on hb6); have R7 := Lib.hid hr4; clear hr4; obtain ⟨c0, c1, c2, c3⟩ := K7.out.y)))
  have q1 := Lib.hid (row_on (row_on (row_on R4.out hb4) hb5) hb6)
  have q2 := Lib.hid (row_on (row_on R5.out hb5) hb6)
  have q4 := R7
  have p1l := q1.out.lt
  have p2l := q2.out.lt
  have p4l := q4.out.lt
  have HM : Hid ((w6.alloc (.cells (madeCells #[.int .i64 0] 256) 3)).rowIs w6.heap.size 3 256 (fun j => .int .i64 (if j < 0 then oth (Q j) by' else 0))) := Lib.hid ((World.rowIs_made w6 (.int .i64 0) 256 3).congr fun j _ => by simp)
  have HBm : Hid (Below w6.heap.size w6 (w6.alloc (.cells (madeCells #[.int .i64 0] 256) 3))) := Lib.hid ((Below.refl _ _).alloc (Nat.le_refl _) _)
  clear R4 R5 R6 R7 K1 K2 K3 K4 K5 K6 X1 X2 X3 X4 HA HG c0 c1 c2 c3 y0 y1 y2 y3 hb1 hb2 hb3 hb4 hb5 hb6 hg1 hg2 hg3 hg4 g1 g2 g3 g4
  go_loopw [23] (fun i wr => ∃ k : Nat, k ≤ 256 ∧ i = .int .i64 k ∧ Hid (wr.rowIs w6.heap.size 3 256 (fun j => .int .i64 (if j < k then oth (Q j) by' else 0))) ∧ Hid (Below w6.heap.size w6 wr)) (fun i _ => 256 - (intOf i).toNat)
  case atStart => exact ⟨0, by omega, rfl, HM, HBm⟩
  case round =>
    obtain ⟨k, hk, rfl, hR, hB⟩ := hrel
    by_cases hlt : k < 256
    · have cq := (row_on q1.out hB.out).cell (i := k) hlt
      have co := hR.out.cell (i := k) hlt
      have cf := hR.out.frozen k
      have hcA := fun v => ((row_on q2.out hB.out).setOther (a := ⟨w6.heap.size, k, none⟩) (by simp; omega) v).cell (i := k) hlt
      have hcB := fun v => ((row_on q4.out hB.out).setOther (a := ⟨w6.heap.size, k, none⟩) (by simp; omega) v).cell (i := k) hlt
      rw [← HS.out k hlt] at hcB
      have gR : ∀ v nq, v = oth (Q k) by' → Hid (((wr.setCell ⟨w6.heap.size, k, none⟩ (.int .i64 v)).drewN nq).rowIs w6.heap.size 3 256 (fun j => .int .i64 (if j < k + 1 then oth (Q j) by' else 0))) := fun v nq hv => Lib.hid <| by
        have h := hR.out.set k (.int .i64 v)
        have h2 : ((wr.setCell ⟨w6.heap.size, k, none⟩ (.int .i64 v)).drewN nq).rowIs w6.heap.size 3 256 _ := h
        refine h2.congr fun j hj => ?_
        by_cases e : j = k
        · subst e; rw [if_pos rfl, if_pos (by omega), hv]
        · rw [if_neg e]
          by_cases e2 : j < k
          · rw [if_pos e2, if_pos (by omega)]
          · rw [if_neg e2, if_neg (by omega)]
      have gB : ∀ v nq, Hid (Below w6.heap.size w6 ((wr.setCell ⟨w6.heap.size, k, none⟩ (.int .i64 v)).drewN nq)) := fun v nq => Lib.hid (by
        have e := hB.out.setCell (p := ⟨w6.heap.size, k, none⟩) (Nat.le_refl _) (.int .i64 v)
        exact ⟨e.os, e.tape, e.output, e.size, e.block⟩)
      obtain ⟨bq0, bq1⟩ := HQB.out k hlt
      have hov : ∀ v, v = max (min (Q k + by') 8191) (-8191) → v = oth (Q k) by' := fun v h => h
      clear hR hB
      obtain ⟨O', hO'⟩ : ∃ O', oth (Q k) by' = O' := ⟨_, rfl⟩
      rw [hO'] at gR hov
      clear hO'
      generalize Q k = V at *
      generalize a k = AV at *
      have e1 : IntKind.i64.wrap (V + by') = V + by' := Fx.i64_in (by omega) (by omega)
      have e2 : IntKind.i64.wrap by' = by' := Fx.i64_in (by omega) (by omega)
      have hlt' : (k : Int) < 256 := by omega
      by_cases hv1 : V + by' ≤ 8191
      · by_cases hv2 : -8191 ≤ V + by'
        · have hv := hov (V + by') (by omega)
          subst hv
          have ca := hcA (.int .i64 (V + by'))
          have cb := hcB (.int .i64 (V + by'))
          have gR1 := fun nq => gR (V + by') nq rfl
          have gB1 := fun nq => gB (V + by') nq
          clear gR gB hcA hcB hov
          go_wp2
          go_quiet (fail)
          go_wp2
          go_roundw
          case rel => exact ⟨k + 1, by omega, by go_num, gR1 _, gB1 _⟩
          case measure => simp [intOf]; omega
        · have hv := hov (-8191) (by omega)
          subst hv
          have ca := hcA (.int .i64 (-8191))
          have cb := hcB (.int .i64 (-8191))
          have gR1 := fun nq => gR (-8191) nq rfl
          have gB1 := fun nq => gB (-8191) nq
          have hv3 : V + by' < -8191 := by omega
          clear gR gB hcA hcB hov
          go_wp2
          go_quiet (fail)
          go_wp2
          go_roundw
          case rel => exact ⟨k + 1, by omega, by go_num, gR1 _, gB1 _⟩
          case measure => simp [intOf]; omega
      · have hv := hov 8191 (by omega)
        subst hv
        have ca := hcA (.int .i64 8191)
        have cb := hcB (.int .i64 8191)
        have gR1 := fun nq => gR 8191 nq rfl
        have gB1 := fun nq => gB 8191 nq
        have hv3 : 8191 < V + by' := by omega
        clear gR gB hcA hcB hov
        go_wp2
        go_quiet (fail)
        go_wp2
        go_roundw
        case rel => exact ⟨k + 1, by omega, by go_num, gR1 _, gB1 _⟩
        case measure => simp [intOf]; omega
    · have hke : k = 256 := by omega
      subst hke
      have K8 := Lib.hid (K7.out.on hB.out)
      have r5 : wr.rowIs w6.heap.size 3 256 (fun j => .int .i64 ((fun n => oth (Q n) by') j)) := hR.out.congr fun j hj => by rw [if_pos hj]
      have X6 := Lib.hid (X5.out wr w6.heap.size K8.out (rda_row r5))
      have q2' := Lib.hid (row_on q2.out hB.out)
      clear hR hB X5 q1 q2 q4 HM HBm HS HQB
      obtain ⟨c0, c1, c2, c3⟩ := K8.out.y
      go_wp2_with (go_at_call 31; ((with_reducible refine X6.out.mono ?_); rintro e w8 ⟨p6, rfl, hr6, hg6, hb8⟩; have K9 := Lib.hid (K8.out.on hb8); have q2w := Lib.hid (row_on q2'.out hb8); have q6 := Lib.hid hr6; clear hr6 hb8))
      go_loopw [26] (fun i wr => ∃ k : Nat, k ≤ 256 ∧ i = .int .i64 k ∧ Hid (Below w8.heap.size w8 wr)) (fun i _ => 256 - (intOf i).toNat)
      case atStart => exact ⟨0, by omega, rfl, Lib.hid (Below.refl _ _)⟩
      case round =>
        obtain ⟨k, hk, rfl, hB⟩ := hrel
        by_cases hlt : k < 256
        · obtain ⟨ab, ao, e, _, cx⟩ := (K9.out.l.below hB.out) k (by omega)
          subst e
          have ca := (row_on q2w.out hB.out).cell (i := k) hlt
          have cc := (row_on q6.out hB.out).cell (i := k) hlt
          have hbx := HIN.out k hlt
          have hba := HAB.out k hlt
          have hbc := HCB.out k hlt
          have hn := HN.out k hlt
          generalize lz.getD k 0 = X at *
          generalize a k = AV at *
          generalize C k = CV at *
          have hf1 := fun W => far_ok40 X CV W (by omega) (by omega) (by omega) (by omega)
          have hf2 := fun W => far_ok40 X AV W (by omega) (by omega) (by omega) (by omega)
          have hd : decide (far X CV < far X AV) = false := by simpa using hn
          generalize far X CV = F1 at *
          generalize far X AV = F2 at *
          have hlt' : (k : Int) < 256 := by omega
          clear hn hbx hba hbc
          go_wp2
          go_quiet ((first | ((with_reducible refine (hf1 _).mono ?_); intro e w' h; exact ⟨h.1, _, h.2.symm⟩) | ((with_reducible refine (hf2 _).mono ?_); intro e w' h; exact ⟨h.1, _, h.2.symm⟩)))
          have gB := Lib.hid (belowT hB.out (Fx.drewN_below wr nq))
          go_wp2
          go_roundw
          case rel => exact ⟨k + 1, by omega, by go_num, gB⟩
          case measure => simp [intOf]; omega
        · have hke : k = 256 := by omega
          subst hke
          have hend := (K9.out.on hB.out).b
          clear hB
          go_wp2
          go_ret
          exact ⟨rfl, hend⟩

theorem i16_at {x : Int} (h : (Lit.int .i16 x).wf = true) : -32768 ≤ x ∧ x ≤ 32767 := by
  simp [Lit.wf] at h
  have e : IntKind.i16.min = -32768 := rfl
  have e2 : IntKind.i16.max = 32767 := rfl
  omega
theorem named : Named Tryd.prog Rows.quantBackRow.laid [(0, 80)] := ⟨by kernel_rfl, by kernel_rfl, trivial⟩
theorem flat1 : flats E Rows.quantBackRow.laid [(0, 80)] = some [(0, [.int .i64 1073741824, .int .i64 1276901417, .int .i64 1518500250, .int .i64 1805811301])] := by kernel_rfl
theorem walk (a0 : Int) (a1s a1h a1m : Int) (a1a : Option Addr) (a1c : Nat) (a1z : List Int) (a2 : Option Addr) (len2 cap2 : Nat) (z2 : List (List Int)) (a3 : Option Addr) (len3 cap3 : Nat) (z3 : List (List Int)) (a4 : Option Addr) (len4 cap4 : Nat) (z4 : List Int) (a5 : Int) (w : World)
    (_ : (Lit.int .i64 a0).wf = true) (_ : (Lit.int .u8 a1s).wf = true) (_ : (Lit.int .u8 a1h).wf = true) (_ : (Lit.int .i64 a1m).wf = true) (l1 : a1z.length ≤ maxLen) (r1 : RowA .i64 w a1a a1z) (_ : ∀ n ∈ a1z, (Lit.int .i64 n).wf = true) (w2 : Rws w a2 len2 cap2 z2) (w3 : Rws w a3 len3 cap3 z3) (w4 : Qn.IsRow .i64 w a4 len4 cap4 z4) (w5 : (Lit.int .i16 a5).wf = true) (hL : laidMetH Tryd.prog Rows.quantBackRow.laid w) :
    Calls Tryd.prog 13 #[.int .i64 a0, .agg #[.int .u8 a1s, .int .u8 a1h, .int .i64 a1m, .slice a1a a1z.length a1c], .slice a2 len2 cap2, .slice a3 len3 cap3, .slice a4 len4 cap4, .int .i16 a5] w fun e w' => e = .returned (.bool true) ∧ Below w.heap.size w w' := by
  obtain ⟨rfl, rB, hBr, hB⟩ := w2
  obtain ⟨rfl, rS, hSr, hS⟩ := w3
  obtain ⟨lz, rfl, rl, hl⟩ := row_rd w4
  obtain ⟨b0, b1⟩ := i16_at w5
  have hT : Tb w := laidG (by kernel_rfl) named flat1 hL
  have hqs := Fx.qs_of hL (by kernel_rfl) named flat1
  by_cases hgr : grt a1z.length z2 z3 lz.length = true
  · exact great a0 a1s a1h a1m a1a a1c a1z a2 a3 a4 cap2 cap3 cap4 z2 z3 lz a5 w hT hqs l1 hB hS hl hBr hSr (rowa_rd r1) rB rS rl hgr
  have hgr' : grt a1z.length z2 z3 lz.length = false := by simpa using hgr
  by_cases hf : Fine a0 a1s a1h a1m a1z z2 z3 lz 268435455
  · exact good a0 a1s a1h a1m a1a a1c a1z a2 a3 a4 cap2 cap3 cap4 z2 z3 lz a5 w hT hqs l1 hB hS hl hBr hSr (rowa_rd r1) rB rS rl hgr' hf b0 b1
  · exact wrong a0 a1s a1h a1m a1a a1c a1z a2 a3 a4 cap2 cap3 cap4 z2 z3 lz a5 w hT hqs l1 hB hS hl hBr hSr (rowa_rd r1) rB rS rl hgr' hf
noncomputable def laidWorld (os : Os) : World := lay E Rows.quantBackRow.laid [(0, 80)] (World.holding Tryd.prog os ⟨#[], #[.int .i64 0, .agg #[.int .u8 0, .int .u8 0, .int .i64 0, .slice none 0 0], .slice none 0 0, .slice none 0 0, .slice none 0 0, .int .i16 0], []⟩)
theorem laid_os (os : Os) : (laidWorld os).os = os := by kernel_rfl
theorem own : ownKnob Tryd.prog.godebug = none := by kernel_rfl
theorem laidOut : laidOutB Tryd.prog = true := by kernel_rfl
set_option linter.unusedVariables false
theorem laid_met (os : Os) (args : Array Value) : laidMet Tryd.prog Rows.quantBackRow.laid ((laidWorld os).forCall (fun _ _ => 0) ⟨#[], args, []⟩).memory := laidMet_of_run' 8 (by kernel_rfl) (by kernel_rfl)
set_option maxRecDepth 100000 in
theorem lifted (os : Os) (started : os.Started) (H : Type) (enc : TypeId × Value → H) (F : Stop.Interp) :
    ReturnsInHanded {} Tryd.checked os 13 .any ((OpenSpec.ofChange Rows.quantBackSpec).preRow enc Tryd.prog Tryd.f13 Rows.quantBackRow.domain false Rows.quantBackRow.laid) (((OpenSpec.ofChange Rows.quantBackSpec).at F).post enc Tryd.prog Tryd.f13 false true false false) := by
  refine returnsInHanded_of_row (C := Tryd.checked) (s := OpenSpec.ofChange Rows.quantBackSpec) own started (by kernel_rfl) Tryd.func13
    (witness_row_at (enc := enc) (C := Tryd.checked) false (laidWorld os) #[.int .i64 0, .agg #[.int .u8 0, .int .u8 0, .int .i64 0, .slice none 0 0], .slice none 0 0, .slice none 0 0, .slice none 0 0, .int .i16 0] (laid_os os) (by kernel_rfl) (by kernel_rfl) (by kernel_rfl)
      (OpenSpec.preRow_of_cond 8 (show DataW.whole enc Tryd.prog ((laidWorld os).forCall (fun _ _ => 0) ⟨#[], #[.int .i64 0, .agg #[.int .u8 0, .int .u8 0, .int .i64 0, .slice none 0 0], .slice none 0 0, .slice none 0 0, .slice none 0 0, .int .i16 0], []⟩).memory Tryd.f13.params.toList Rows.quantBackSpec.vars false #[.int .i64 0, .agg #[.int .u8 0, .int .u8 0, .int .i64 0, .slice none 0 0], .slice none 0 0, .slice none 0 0, .slice none 0 0, .int .i16 0].toList 8 = some ([.lit (.int .i64 0), .agg [.lit (.int .u8 0), .lit (.int .u8 0), .lit (.int .i64 0), .nil], .nil, .nil, .nil, .lit (.int .i16 0)], [], []) by kernel_rfl) (by kernel_rfl) (fun k hk => by cases hk) (by kernel_rfl) (laid_met os _))) ?_
  intro W base args ds gs before hval0 hW _ _ _ hL _ _
  have hval : ∀ (j : Nat) t v, Tryd.f13.params[j]? = some t → args[j]? = some v → Value.okWide Tryd.prog W .any base t v := hval0
  have hW' := hW
  obtain ⟨p, q, hA0, hV, rfl, hfz, hnd⟩ := hW
  have hA : DataW.TrodAll enc Tryd.prog W 0 (fun _ => true) true Tryd.f13.params.toList args.toList ds p := hA0
  rw [Tryd.params13] at hA hval
  obtain ⟨v0, vs0, d0, ds0, p0, q0, hargs, rfl, rfl, h0, r0⟩ := trodAll_cons hA
  obtain ⟨v1, vs1, d1, ds1, p1, q1, rfl, rfl, rfl, h1, r1⟩ := trodAll_cons r0
  obtain ⟨v2, vs2, d2, ds2, p2, q2, rfl, rfl, rfl, h2, r2⟩ := trodAll_cons r1
  obtain ⟨v3, vs3, d3, ds3, p3, q3, rfl, rfl, rfl, h3, r3⟩ := trodAll_cons r2
  obtain ⟨v4, vs4, d4, ds4, p4, q4, rfl, rfl, rfl, h4, r4⟩ := trodAll_cons r3
  obtain ⟨v5, vs5, d5, ds5, p5, q5, rfl, rfl, rfl, h5, r5⟩ := trodAll_cons r4
  obtain ⟨rfl, rfl, rfl⟩ := trodAll_nil r5
  obtain rfl : args = #[v0, v1, v2, v3, v4, v5] := by cases args; simp_all
  obtain ⟨rfl, rfl⟩ := trodVars_none hV
  obtain ⟨a0, rfl, rfl, rfl, w0⟩ := open_int Tryd.underlying3 (hval 0 3 v0 rfl rfl) h0
  have k1 := h1
  have lt1 : ∀ x ∈ p1, x.block < W.heap.size := by obtain ⟨m, hm⟩ := k1; exact DataW.trod_lt m _ _ _ hm
  obtain ⟨a1s, a1h, a1m, a1a, a1c, a1z, rfl, w1s, w1h, w1m, l1, r1r, e1⟩ := open_info Tryd.underlying50 rfl rfl rfl rfl Tryd.underlying5 Tryd.underlying5 Tryd.underlying3 Tryd.underlying39 Tryd.underlying3 (by kernel_rfl) (by kernel_rfl) (by kernel_rfl) (by kernel_rfl) (by kernel_rfl) (by kernel_rfl) (hval 1 50 v1 rfl rfl) h1
  obtain ⟨a2, len2, cap2, rfl⟩ := okWide_slice Tryd.underlying51 (hval 2 51 v2 rfl rfl)
  have k2 := h2
  have lt2 : ∀ x ∈ p2, x.block < W.heap.size := by obtain ⟨m, hm⟩ := k2; exact DataW.trod_lt m _ _ _ hm
  obtain ⟨z2, w2⟩ := open_rows Tryd.underlying51 Tryd.underlying39 Tryd.underlying3 (by kernel_rfl) (by kernel_rfl) h2
  obtain ⟨a3, len3, cap3, rfl⟩ := okWide_slice Tryd.underlying51 (hval 3 51 v3 rfl rfl)
  have k3 := h3
  have lt3 : ∀ x ∈ p3, x.block < W.heap.size := by obtain ⟨m, hm⟩ := k3; exact DataW.trod_lt m _ _ _ hm
  obtain ⟨z3, w3⟩ := open_rows Tryd.underlying51 Tryd.underlying39 Tryd.underlying3 (by kernel_rfl) (by kernel_rfl) h3
  obtain ⟨a4, len4, cap4, rfl⟩ := okWide_slice Tryd.underlying39 (hval 4 39 v4 rfl rfl)
  have k4 := h4
  have lt4 : ∀ x ∈ p4, x.block < W.heap.size := by obtain ⟨m, hm⟩ := k4; exact DataW.trod_lt m _ _ _ hm
  obtain ⟨z4, w4⟩ : ∃ zs, IsRow .i64 W a4 len4 cap4 zs := by
    obtain ⟨fuel, hf⟩ := h4
    rcases open_ints Tryd.underlying39 Tryd.underlying3 (by kernel_rfl) hf with ⟨hcs, _⟩ | ⟨x, l, c, zs, hcs, _, hl, hm, hz, _, hcell, hwz⟩
    · simp [Value.cells] at hcs
      obtain ⟨rfl, rfl, rfl⟩ := hcs
      exact ⟨[], .inl ⟨rfl, rfl, rfl, rfl⟩⟩
    · simp [Value.cells] at hcs
      obtain ⟨rfl, rfl, rfl⟩ := hcs
      exact ⟨zs, .inr ⟨_, rfl, hl, hm, by simpa using hz, hcell, hwz⟩⟩
  obtain ⟨a5, rfl, rfl, rfl, w5⟩ := open_int Tryd.underlying62 (hval 5 62 v5 rfl rfl) h5
  clear hA0 hval0
  refine (walk a0 a1s a1h a1m a1a a1c a1z a2 len2 cap2 z2 a3 len3 cap3 z3 a4 len4 cap4 z4 a5 W w0 w1s w1h w1m l1 r1r e1 w2 w3 w4 w5 hL).mono fun e W' ⟨he, bel⟩ => ?_
  subst he
  exact ⟨_, rfl, _, _, _, [], _, [], hW', trodAll_mk1 (shut_bool Tryd.underlying4 _), (trodAll_cons_mk (shut_int Tryd.underlying3 w0) (trodAll_cons_mk (Below.trod laidOut (by kernel_rfl) (of_decide_eq_true (by kernel_rfl)) k1 bel lt1) (trodAll_cons_mk (Below.trod laidOut (by kernel_rfl) (of_decide_eq_true (by kernel_rfl)) k2 bel lt2) (trodAll_cons_mk (Below.trod laidOut (by kernel_rfl) (of_decide_eq_true (by kernel_rfl)) k3 bel lt3) (trodAll_cons_mk (Below.trod laidOut (by kernel_rfl) (of_decide_eq_true (by kernel_rfl)) k4 bel lt4) (trodAll_cons_mk (shut_int Tryd.underlying62 w5) trodAll_mk0)))))), rfl, bel.frame _, fun h => by cases h⟩

theorem said : Rows.QuantBackSaid :=
  OpenClaim.holds_of_cond 13 Tryd.f13 rfl rfl rfl rfl rfl rfl rfl ⟨rfl, rfl, rfl, rfl, rfl⟩ rfl rfl rfl rfl rfl (by kernel_rfl) Tryd.func13 (by kernel_rfl)
    (of_decide_eq_true (by kernel_rfl)) (by unfold Func.isWrapper; first | (rw [if_pos (by decide +kernel)]; kernel_rfl) | (rw [if_neg (by decide +kernel)]; exact ⟨rfl, rfl⟩))
    (fun os started H enc _ F => by rw [OpenClaim.pre_eq_preRow]; exact lifted os started H enc F)

theorem plain (f : FuncId) (fn : Func) (hf : Tryd.pinned.checked.prog.funcNamed "reedpipe/reedpipelaw14.QuantBack" = some f) (hfn : Tryd.pinned.checked.prog.funcs[f]? = some fn) :
    false = Tryd.pinned.checked.prog.looks [] ∧ ∀ (j : Nat) t, fn.params[j]? = some t → Tryd.pinned.checked.prog.wantsStandIn t = false := by
  obtain rfl : f = 13 := Option.some.inj ((show Tryd.prog.funcNamed "reedpipe/reedpipelaw14.QuantBack" = some 13 by kernel_rfl).symm.trans hf) |>.symm
  obtain rfl : fn = Tryd.f13 := (Option.some.inj (Tryd.func13.symm.trans hfn)).symm
  refine ⟨by kernel_rfl, fun j t ht => ?_⟩
  rw [Tryd.params13] at ht
  have hm : t ∈ [3, 50, 51, 51, 39, 62] := by simpa using Array.mem_of_getElem? ht
  have hall : ([3, 50, 51, 51, 39, 62].all fun u => !Tryd.prog.wantsStandIn u) = true := by kernel_rfl
  exact (show Tryd.prog.wantsStandIn t = false by simpa using List.all_eq_true.1 hall t hm)

theorem proved : Rows.QuantBackCardSaid :=
  Claim7.holds_tied_plain_at .later [] _ _ _ _ said (fun _ h => by cases h) (by kernel_rfl) (fun _ h => by cases h) quantBack_row_tie rfl ⟨rfl, rfl⟩ (by kernel_rfl) rfl plain (by kernel_rfl)


end Go.Proofs.YtanjcbnkkhbkkaaDoor.quantBack
