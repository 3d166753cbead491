/- With greater steps no quantised line is greater in size, and no line of a quantised one less; and lines that are turned over are quantised so. QuantCoarser returns true, whatever the rate, the windows, the books, the steps, the lines, the number, the memory and the schedule. Condition: package power's table of four numbers holds its values, as the row lists it. -/
import Derived.Test.YtanjcbnkkhbkkaaDoorMrg1
import Derived.Test.YtanjcbnkkhbkkaaDoorCards
import Derived.Test.YtanjcbnkkhbkkaaDoorTie
import Derived.Deep.DeepHandedRow
import Derived.Deep.RegionHeld3
import Derived.Laws.OwnMore
import Derived.Maps.AppendAt
import Derived.Lib.LaidTab
import Derived.Lib.Hide
namespace Go.Proofs.YtanjcbnkkhbkkaaDoor.quantCoarser
open Go Go.Ev Go.ChangeShapes Go.WideShapes Go.ChangeAt Go.RowKit Go.Proofs.YtanjcbnkkhbkkaaDoor.If Go.Proofs.YtanjcbnkkhbkkaaDoor.Bd Go.Proofs.YtanjcbnkkhbkkaaDoor.Qn

set_option linter.unusedVariables false
theorem info39 : (Tryd.prog.info? 39).map (fun i => (i.zero, i.size, i.bytes)) = some (some (.slice none 0 0), 1, 24) := by kernel_rfl
theorem qe_gsr {r s h m more : Int} {gz : List Int} {B S : List (List Int)} (m0 : 0 ≤ more) (m1 : more ≤ 255) (hq : QE r s h m gz B S 0) : QE r s h m gz B (gsr more S) 0 := by
  obtain ⟨hck, hBl, hSl, hBm, hSm, hnb⟩ := qe_zero hq
  have hB : shp gz.length m B = true := by
    rcases hq with ⟨h1, h2⟩ | ⟨h1, h2, h3⟩ | ⟨_, h2, _⟩
    · exact absurd hck h1
    · exact absurd h3 (by decide)
    · exact h2
  have hS : shp gz.length m S = true := by
    rcases hq with ⟨h1, h2⟩ | ⟨h1, h2, h3⟩ | ⟨_, _, h2, _⟩
    · exact absurd hck h1
    · exact absurd h3 (by decide)
    · exact h2
  refine .inr (.inr ⟨hck, hB, ?_, .inr ⟨?_, rfl⟩⟩)
  · rw [← hS]
    unfold shp shw
    rw [gsr_len]
    congr 1
    unfold gsr
    rw [List.all_map]
    congr 1
    funext l
    simp [gsl_len]
  · rintro ⟨g, b, hg, hb, _, hbad⟩
    have hn := hnb g b hg hb
    have e1 := hBm g hg
    have e2 := hSm g (by omega)
    rw [gsr_row more S (by omega), gsl_get more _ (by omega)] at hbad
    apply hn
    rcases hbad with h1 | h1 | ⟨h1, h2⟩
    · exact .inl h1
    · exact .inr (.inl h1)
    · refine .inr (.inr ⟨h1, Classical.byContradiction fun hh => ?_⟩)
      have := gst_in (more := more) (V := (S.getD g []).getD b 0) m0 m1 (by omega) (by omega)
      omega
theorem stp_gsr {r s h m more : Int} {gz : List Int} {B S : List (List Int)} (hq : QE r s h m gz B S 0) {k : Nat} (hk : k < 256) (c : Cn r s m gz B k) : stp r s gz (gsr more S) k = gst more (stp r s gz S k) := by
  obtain ⟨hck, hBl, hSl, hBm, hSm, hnb⟩ := qe_zero hq
  have hg := gk_lt hck hk
  have e2 := hSm (gk s gz k) (by omega)
  unfold stp
  rw [gsr_row more S (by omega), gsl_get more _ (by have := c.1; omega)]

set_option maxRecDepth 100000 in
theorem great (r s h m : Int) (ga : Option Addr) (gc : Nat) (gz : List Int) (O P A : Option Addr) (oc pc lc : Nat) (B S : List (List Int)) (lz : List Int) (more : Int) (w : World) (hT : Tb w) (hqs : Fx.Qs w) (hgl : gz.length ≤ maxLen) (hB : B.length ≤ maxLen) (hS : S.length ≤ maxLen) (hL : lz.length ≤ maxLen) (hBr : ∀ i, i < B.length → (B.getD i []).length ≤ maxLen) (hSr : ∀ i, i < S.length → (S.getD i []).length ≤ maxLen) (rg : RdA w ga gz) (rB : RdR w O B) (rS : RdR w P S) (rl : RdA w A lz) (hgr : grt gz.length B S lz.length = true) :
    Calls Tryd.prog 14 #[.int .i64 r, .agg #[.int .u8 s, .int .u8 h, .int .i64 m, .slice ga gz.length gc], .slice O B.length oc, .slice P S.length pc, .slice A lz.length lc, .int .u8 more] w fun e w' => e = .returned (.bool true) ∧ Below w.heap.size w w' := by
  have HB := Lib.hid (box_below w (.cells #[.int .u8 s, .int .u8 h, .int .i64 m, .slice ga gz.length gc] 50))
  obtain ⟨y0, y1, y2, y3⟩ := boxed w s h m (.slice ga gz.length gc) _ (Below.refl _ _)
  have HA := Lib.hid (alive36 _ (hT.below HB.out))
  have HG := Lib.hid (fun W (hW : Below w.heap.size w W) => great_ok s h m ga gc gz O P A oc pc lc lz.length B S W hgl hB hS hL hBr hSr (rB.below hW) (rS.below hW))
  rw [hgr] at HG
  clear hT hqs hBr hSr rg rB rS rl
  go_enter Tryd.func14, Tryd.ntmps14
  go_wp2_with (first
    | (go_at_call 36; ((with_reducible refine (HA.out).mono ?_); rintro e w1 ⟨rfl, hb1⟩; have hbb := belowT HB.out hb1; have c0 := (hb1.cell (p := ⟨w.heap.size, 0, none⟩) (by simp)).trans y0; have c1 := (hb1.cell (p := ⟨w.heap.size, 1, none⟩) (by simp)).trans y1; have c2 := (hb1.cell (p := ⟨w.heap.size, 2, none⟩) (by simp)).trans y2; have c3 := (hb1.cell (p := ⟨w.heap.size, 3, none⟩) (by simp)).trans y3))
    | (go_at_call 29; ((with_reducible refine (HG.out _ hbb).mono ?_); rintro e w2 ⟨rfl, hb2⟩; have hbc := belowT hbb hb2)))
  go_ret
  exact ⟨rfl, hbc⟩

set_option maxRecDepth 100000 in
theorem wrong (r s h m : Int) (ga : Option Addr) (gc : Nat) (gz : List Int) (O P A : Option Addr) (oc pc lc : Nat) (B S : List (List Int)) (lz : List Int) (more : Int) (w : World) (hT : Tb w) (hqs : Fx.Qs w) (hgl : gz.length ≤ maxLen) (hB : B.length ≤ maxLen) (hS : S.length ≤ maxLen) (hL : lz.length ≤ maxLen) (hBr : ∀ i, i < B.length → (B.getD i []).length ≤ maxLen) (hSr : ∀ i, i < S.length → (S.getD i []).length ≤ maxLen) (rg : RdA w ga gz) (rB : RdR w O B) (rS : RdR w P S) (rl : RdA w A lz) (hgr : grt gz.length B S lz.length = false) (hf : ¬ Fine r s h m gz B S lz 268435455) :
    Calls Tryd.prog 14 #[.int .i64 r, .agg #[.int .u8 s, .int .u8 h, .int .i64 m, .slice ga gz.length gc], .slice O B.length oc, .slice P S.length pc, .slice A lz.length lc, .int .u8 more] w fun e w' => e = .returned (.bool true) ∧ Below w.heap.size w w' := by
  have HB := Lib.hid (box_below w (.cells #[.int .u8 s, .int .u8 h, .int .i64 m, .slice ga gz.length gc] 50))
  obtain ⟨y0, y1, y2, y3⟩ := boxed w s h m (.slice ga gz.length gc) _ (Below.refl _ _)
  obtain ⟨g1, g2, g3, g4⟩ := grt_no hgr
  have HA := Lib.hid (alive36 _ (hT.below HB.out))
  have HG := Lib.hid (fun W (hW : Below w.heap.size w W) => great_ok s h m ga gc gz O P A oc pc lc lz.length B S W hgl hB hS hL hBr hSr (rB.below hW) (rS.below hW))
  rw [hgr] at HG
  have I : Inp w ga gz O P B S := ⟨g1, g2, g3, hBr, hSr, rg, rB, rS⟩
  have K1 : Hid (K w ga gz O P A B S lz s h m gc (w.alloc (.cells #[.int .u8 s, .int .u8 h, .int .i64 m, .slice ga gz.length gc] 50))) := Lib.hid ⟨hqs.below HB.out, I.below HB.out, rl.below HB.out, HB.out, ⟨y0, y1, y2, y3⟩, by simp⟩
  have HX := Lib.hid (fun W (k : K w ga gz O P A B S lz s h m gc W) => quant_err r s h m ga gc gz O P A oc pc lc B S lz W k.i g4 k.l hf)
  clear hT hqs hBr hSr rg rB rS rl I hf y0 y1 y2 y3 g1 g2 g3 g4
  obtain ⟨y0, y1, y2, y3⟩ := K1.out.y
  go_enter Tryd.func14, Tryd.ntmps14
  go_wp2_with (first
    | (go_at_call 36; ((with_reducible refine (HA.out).mono ?_); rintro e w1 ⟨rfl, hb1⟩; have K2 := Lib.hid (K1.out.on hb1); obtain ⟨c0, c1, c2, c3⟩ := K2.out.y))
    | (go_at_call 29; ((with_reducible refine (HG.out _ K2.out.b).mono ?_); rintro e w2 ⟨rfl, hb2⟩; have K3 := Lib.hid (K2.out.on hb2); obtain ⟨c0, c1, c2, c3⟩ := K3.out.y))
    | (go_at_call 33; ((with_reducible refine (HX.out _ K3.out).mono ?_); rintro e w3 ⟨c, hc, rfl, hb3⟩; have hc1 : (c != 0) = true := (by simpa using hc); have hc2 : (c == 0) = false := (by simpa using hc); have K4 := Lib.hid (K3.out.on hb3))))
  go_ret
  exact ⟨rfl, K4.out.b⟩

theorem one_int (x : Int) : ∀ u ∈ [Value.int .i64 x], u.oneCell' = true := by simp [Value.oneCell']
theorem set_last (l : List Value) (u : Value) {x : Value} {j : Nat} (h : l.length = j) : (l ++ [x]).set j u = l ++ [u] := by
  subst h; simp
/-- A list that grows: what a store into it leaves. -/
theorem own_cells {base : Nat} {w : World} {g n cap : Nat} {zs : List Int} (h : w.ownsRow base 3 1 (.slice (some ⟨g, 0, none⟩) n cap) n (zs.map (Value.int .i64))) (hn : zs.length = n) {j : Nat} (hj : j < n) : w.cell? ⟨g, j, none⟩ = some (.int .i64 (zs.getD j 0)) := by
  have hc := @World.ownsRow.cells _ _ _ _ _ _ _ h (g := g) rfl j (.int .i64 (zs.getD j 0)) (by simp [show j < zs.length by omega])
  rw [Addr.add_lit, Nat.zero_add] at hc
  exact hc

set_option maxRecDepth 100000 in
set_option maxHeartbeats 16000000 in
theorem good (r s h m : Int) (ga : Option Addr) (gc : Nat) (gz : List Int) (O P A : Option Addr) (oc pc lc : Nat) (B S : List (List Int)) (lz : List Int) (more : Int) (w : World) (hT : Tb w) (hqs : Fx.Qs w) (hgl : gz.length ≤ maxLen) (hB : B.length ≤ maxLen) (hS : S.length ≤ maxLen) (hL : lz.length ≤ maxLen) (hBr : ∀ i, i < B.length → (B.getD i []).length ≤ maxLen) (hSr : ∀ i, i < S.length → (S.getD i []).length ≤ maxLen) (rg : RdA w ga gz) (rB : RdR w O B) (rS : RdR w P S) (rl : RdA w A lz) (hgr : grt gz.length B S lz.length = false) (hf : Fine r s h m gz B S lz 268435455) (b0 : 0 ≤ more) (b1 : more ≤ 255) :
    Calls Tryd.prog 14 #[.int .i64 r, .agg #[.int .u8 s, .int .u8 h, .int .i64 m, .slice ga gz.length gc], .slice O B.length oc, .slice P S.length pc, .slice A lz.length lc, .int .u8 more] w fun e w' => e = .returned (.bool true) ∧ Below w.heap.size w w' := by
  have HB := Lib.hid (box_below w (.cells #[.int .u8 s, .int .u8 h, .int .i64 m, .slice ga gz.length gc] 50))
  obtain ⟨y0, y1, y2, y3⟩ := boxed w s h m (.slice ga gz.length gc) _ (Below.refl _ _)
  obtain ⟨g1, g2, g3, g4⟩ := grt_no hgr
  have HA := Lib.hid (alive36 _ (hT.below HB.out))
  have HG := Lib.hid (fun W (hW : Below w.heap.size w W) => great_ok s h m ga gc gz O P A oc pc lc lz.length B S W hgl hB hS hL hBr hSr (rB.below hW) (rS.below hW))
  rw [hgr] at HG
  have I : Inp w ga gz O P B S := ⟨g1, g2, g3, hBr, hSr, rg, rB, rS⟩
  have K1 : Hid (K w ga gz O P A B S lz s h m gc (w.alloc (.cells #[.int .u8 s, .int .u8 h, .int .i64 m, .slice ga gz.length gc] 50))) := Lib.hid ⟨hqs.below HB.out, I.below HB.out, rl.below HB.out, HB.out, ⟨y0, y1, y2, y3⟩, by simp⟩
  have hl := hf.2.1
  have hq := hf.1
  have hin := hf.2.2
  have hq' := qe_gsr b0 b1 hq
  -- the numbers
  obtain ⟨Q, hQ⟩ : ∃ Q, QV r s m gz B S lz Fx.FQ = Q := ⟨_, rfl⟩
  obtain ⟨R, hR⟩ : ∃ R, QV r s m gz B (gsr more S) lz Fx.FQ = R := ⟨_, rfl⟩
  obtain ⟨T, hTT⟩ : ∃ T, QV r s m gz B S (mkq fun n => -lz.getD n 0) Fx.FQ = T := ⟨_, rfl⟩
  obtain ⟨a, ha⟩ : ∃ a, QV r s m gz B S (mkq Q) Fx.FL = a := ⟨_, rfl⟩
  obtain ⟨b, hb⟩ : ∃ b, QV r s m gz B (gsr more S) (mkq Q) Fx.FL = b := ⟨_, rfl⟩
  have eQ : ∀ k, k < 256 → Q k = st (Cn r s m gz B k) Fx.FQ (lz.getD k 0) (stp r s gz S k) := fun k _ => by rw [← hQ, qv_st]
  have eR : ∀ k, k < 256 → R k = st (Cn r s m gz B k) Fx.FQ (lz.getD k 0) (stp r s gz (gsr more S) k) := fun k _ => by rw [← hR, qv_st]
  have eT : ∀ k, k < 256 → T k = st (Cn r s m gz B k) Fx.FQ (-lz.getD k 0) (stp r s gz S k) := fun k hk => by rw [← hTT, qv_st, mkq_get _ hk]
  have ea : ∀ k, k < 256 → a k = st (Cn r s m gz B k) Fx.FL (Q k) (stp r s gz S k) := fun k hk => by rw [← ha, qv_st, mkq_get Q hk]
  have eb : ∀ k, k < 256 → b k = st (Cn r s m gz B k) Fx.FL (Q k) (stp r s gz (gsr more S) k) := fun k hk => by rw [← hb, qv_st, mkq_get Q hk]
  have hst : ∀ k, k < 256 → Cn r s m gz B k → 0 ≤ stp r s gz S k ∧ stp r s gz S k ≤ stp r s gz (gsr more S) k ∧ stp r s gz (gsr more S) k ≤ 255 := fun k hk c => by
    have := step_in hq hk c
    rw [stp_gsr hq hk c]
    exact gst_in b0 b1 this.1 this.2
  have bQ : ∀ k, k < 256 → -8191 ≤ Q k ∧ Q k ≤ 8191 := fun k hk => by rw [eQ k hk]; exact st_fq_bd (step_in hq hk) (hin k hk).1 (hin k hk).2
  have bR : ∀ k, k < 256 → -8191 ≤ R k ∧ R k ≤ 8191 := fun k hk => by rw [eR k hk]; exact st_fq_bd (step_in hq' hk) (hin k hk).1 (hin k hk).2
  have ba : ∀ k, k < 256 → -268435455 ≤ a k ∧ a k ≤ 268435455 := fun k hk => by rw [ea k hk]; exact st_fl_bd (step_in hq hk) (bQ k hk).1 (bQ k hk).2
  have bb : ∀ k, k < 256 → -268435455 ≤ b k ∧ b k ≤ 268435455 := fun k hk => by rw [eb k hk]; exact st_fl_bd (step_in hq' hk) (bQ k hk).1 (bQ k hk).2
  have H1 : Hid (∀ k, k < 256 → ¬ far (Q k) 0 < far (R k) 0) := Lib.hid fun k hk => by rw [eQ k hk, eR k hk]; exact st_smaller (hst k hk) (hin k hk).1 (hin k hk).2
  have H2 : Hid (∀ k, k < 256 → ¬ far (b k) 0 < far (a k) 0) := Lib.hid fun k hk => by rw [ea k hk, eb k hk]; exact st_greater (hst k hk) (bQ k hk).1 (bQ k hk).2
  have H3 : Hid (∀ k, k < 256 → T k = -Q k) := Lib.hid fun k hk => by rw [eQ k hk, eT k hk]; exact st_turned (step_in hq hk) (hin k hk).1 (hin k hk).2
  have HQB := Lib.hid bQ
  have HRB := Lib.hid bR
  have HAB := Lib.hid ba
  have HBB := Lib.hid bb
  have HIN := Lib.hid hin
  have HSR := Lib.hid hSr
  -- the calls
  have X1 : Hid (∀ W, K w ga gz O P A B S lz s h m gc W → Calls Tryd.prog 33 #[.int .i64 r, .agg #[.int .u8 s, .int .u8 h, .int .i64 m, .slice ga gz.length gc], .slice O B.length oc, .slice P S.length pc, .slice A 256 lc] W fun e w' => Ansr W w' e Q) := Lib.hid fun W k => by
    have := quant_good r s h m ga gc gz O P A oc pc lc B S lz W k.q k.i k.l hf
    rw [hl, hQ] at this; exact this
  have X2 : Hid (∀ W G cg, K w ga gz O P A B S lz s h m gc W → RdR W G (gsr more S) → Calls Tryd.prog 33 #[.int .i64 r, .agg #[.int .u8 s, .int .u8 h, .int .i64 m, .slice ga gz.length gc], .slice O B.length oc, .slice G S.length cg, .slice A 256 lc] W fun e w' => Ansr W w' e R) := Lib.hid fun W G cg k rd => by
    have I' : Inp W ga gz O G B (gsr more S) := ⟨k.i.gl, k.i.bl, by rw [gsr_len]; exact k.i.sl, k.i.br, fun i hi => by rw [gsr_len] at hi; rw [gsr_row more S hi, gsl_len]; exact k.i.sr i hi, k.i.hg, k.i.rB, rd⟩
    have := quant_good r s h m ga gc gz O G A oc cg lc B (gsr more S) lz W k.q I' k.l ⟨hq', hl, hin⟩
    rw [hl, hR, gsr_len] at this; exact this
  have X3 : Hid (∀ W g, K w ga gz O P A B S lz s h m gc W → RdA W (some ⟨g, 0, none⟩) (mkq fun n => -lz.getD n 0) → Calls Tryd.prog 33 #[.int .i64 r, .agg #[.int .u8 s, .int .u8 h, .int .i64 m, .slice ga gz.length gc], .slice O B.length oc, .slice P S.length pc, .slice (some ⟨g, 0, none⟩) 256 256] W fun e w' => Ansr W w' e T) := Lib.hid fun W g k rd => by
    have := quant_good r s h m ga gc gz O P (some ⟨g, 0, none⟩) oc pc 256 B S (mkq fun n => -lz.getD n 0) W k.q k.i rd ⟨hq, mkq_len _, fun j hj => by rw [mkq_get _ hj]; have := hin j hj; omega⟩
    rw [mkq_len, hTT] at this; exact this
  have X4 : Hid (∀ W g, K w ga gz O P A B S lz s h m gc W → RdA W (some ⟨g, 0, none⟩) (mkq Q) → Calls Tryd.prog 31 #[.int .i64 r, .agg #[.int .u8 s, .int .u8 h, .int .i64 m, .slice ga gz.length gc], .slice O B.length oc, .slice P S.length pc, .slice (some ⟨g, 0, none⟩) 256 256] W fun e w' => Ansr W w' e a) := Lib.hid fun W g k rd => by
    have := lines_good r s h m ga gc gz O P (some ⟨g, 0, none⟩) oc pc 256 B S (mkq Q) W k.q k.i rd ⟨hq, mkq_len _, fun j hj => by rw [mkq_get Q hj]; exact bQ j hj⟩
    rw [mkq_len, ha] at this; exact this
  have X5 : Hid (∀ W G cg g, K w ga gz O P A B S lz s h m gc W → RdR W G (gsr more S) → RdA W (some ⟨g, 0, none⟩) (mkq Q) → Calls Tryd.prog 31 #[.int .i64 r, .agg #[.int .u8 s, .int .u8 h, .int .i64 m, .slice ga gz.length gc], .slice O B.length oc, .slice G S.length cg, .slice (some ⟨g, 0, none⟩) 256 256] W fun e w' => Ansr W w' e b) := Lib.hid fun W G cg g k rd rq => by
    have I' : Inp W ga gz O G B (gsr more S) := ⟨k.i.gl, k.i.bl, by rw [gsr_len]; exact k.i.sl, k.i.br, fun i hi => by rw [gsr_len] at hi; rw [gsr_row more S hi, gsl_len]; exact k.i.sr i hi, k.i.hg, k.i.rB, rd⟩
    have := lines_good r s h m ga gc gz O G (some ⟨g, 0, none⟩) oc cg 256 B (gsr more S) (mkq Q) W k.q I' rq ⟨hq', mkq_len _, fun j hj => by rw [mkq_get Q hj]; exact bQ j hj⟩
    rw [mkq_len, hb, gsr_len] at this; exact this
  have hSm : ∀ i, i < S.length → ((S.getD i []).length : Int) = m := (qe_zero hq).2.2.2.2.1
  have hm41 : m ≤ 100 := by
    have c := chk_parts (qe_zero hq).1
    have rr := chk_rate (qe_zero hq).1
    have := (mny_bd (r := r) (b := (s == 2)) rr.1 rr.2).2
    omega
  have HSM := Lib.hid hSm
  have hmk : ∀ w : World, (Instr.makeSlice 39 (.int .i64 256) (.int .i64 256)).run Tryd.prog w = .ok (.slice (some ⟨w.heap.size, 0, none⟩) 256 256) (w.alloc (.cells (madeCells #[.int .i64 0] 256) 3)) := fun w => run_make_row' 39 3 (.int .i64 0) 8 Tryd.underlying39 info3' rfl .i64 .i64 256 (by decide) (by decide) w
  obtain ⟨i3, hi3, hz30, hz31, hz32⟩ := info_parts info3'
  obtain ⟨i9, hi9, hz90, hz91, hz92⟩ := info_parts info39
  have sl100 : S.length ≤ 100 := g3
  rw [hl] at hgr HG g4 ⊢
  clear hT hqs hBr hSr rg rB rS rl I hf y0 y1 y2 y3 hq hq' hin hst bQ ba bR bb eQ ea eR eb eT hQ ha hR hb hTT hgl hB hS hL hgr hSm
  obtain ⟨y0, y1, y2, y3⟩ := K1.out.y
  go_enter Tryd.func14, Tryd.ntmps14
  go_wp2_with (first
    | (go_at_call 36; ((with_reducible refine (HA.out).mono ?_); rintro e w1 ⟨rfl, hb1⟩; have K2 := Lib.hid (K1.out.on hb1); obtain ⟨c0, c1, c2, c3⟩ := K2.out.y))
    | (go_at_call 29; ((with_reducible refine (HG.out _ K2.out.b).mono ?_); rintro e w2 ⟨rfl, hb2⟩; have K3 := Lib.hid (K2.out.on hb2); obtain ⟨c0, c1, c2, c3⟩ := K3.out.y))
    | (go_at_call 33; ((with_reducible refine (X1.out _ K3.out).mono ?_); rintro e w3 ⟨p1, rfl, hr1, hg1, hb3⟩; have K4 := Lib.hid (K3.out.on hb3); have R4 := Lib.hid hr1; clear hr1; obtain ⟨c0, c1, c2, c3⟩ := K4.out.y)))
  clear K1 K2 K3 X1 HA HG c0 c1 c2 c3 y0 y1 y2 y3 hb1 hb2 hb3 hg1 g1 g2 g3 g4
  go_loopw [16, 17] (fun v i wr => ∃ k : Nat, k ≤ S.length ∧ i = .int .i64 k ∧ Hid (Gr w3.heap.size wr v ((gsr more S).take k)) ∧ Hid (Below w3.heap.size w3 wr)) (fun _ i _ => S.length - (intOf i).toNat)
  case atStart => exact ⟨0, by omega, rfl, Lib.hid (Gr.nil _ _), Lib.hid (Below.refl _ _)⟩
  case round =>
    obtain ⟨k, hk, rfl, hG, hB⟩ := hrel
    by_cases hlt : k < S.length
    · have hlt' : (k : Int) < (S.length : Int) := by omega
      have K5 := Lib.hid (K4.out.on hB.out)
      obtain ⟨sb, so, sa, sc, eP, lsb, cS, rdS⟩ := K5.out.i.rS k hlt
      subst eP
      have hsl := HSM.out k hlt
      have hmx := HSR.out k hlt
      obtain ⟨Z, hZ⟩ : ∃ Z, S.getD k [] = Z := ⟨_, rfl⟩
      rw [hZ] at cS rdS hsl hmx
      have hgrow : Hid ((gsr more S).take (k + 1) = (gsr more S).take k ++ [gsl more Z]) := Lib.hid (by rw [List.take_succ_eq_append_getElem (by rw [gsr_len]; exact hlt)]; congr 2; simp [gsr]; rw [← hZ]; simp [hlt])
      have hlen : Hid (((gsr more S).take k).length = k) := Lib.hid (by rw [List.length_take, gsr_len]; omega)
      clear hZ
      have RZ := Lib.hid rdS
      have CS := Lib.hid cS
      clear rdS cS
      have hzl : Z.length ≤ 100 := by omega
      generalize wr = wo at *
      go_wp2
      go_loopw [18, 19] (fun v i w2 => ∃ j : Nat, j ≤ Z.length ∧ i = .int .i64 j ∧ Hid (w2.ownsRow wo.heap.size 3 1 v j ((gsl more (Z.take j)).map (Value.int .i64))) ∧ Hid (Below wo.heap.size wo w2)) (fun _ i _ => Z.length - (intOf i).toNat)
      case atStart => exact ⟨0, by omega, rfl, Lib.hid (World.ownsRow_nil _ _ 3 1), Lib.hid (Below.refl _ _)⟩
      case round =>
        obtain ⟨j, hj, rfl, hO, hB2⟩ := hrel
        by_cases hjlt : j < Z.length
        · obtain ⟨b2, o2, e2, lb2, cZ⟩ := RZ.out j hjlt
          subst e2
          have htk := Lib.hid (gsl_take more Z hjlt)
          have hjl : Hid ((gsl more (Z.take j)).length = j) := Lib.hid (by rw [gsl_len, List.length_take]; omega)
          have hjm : (j : Int) < (Z.length : Int) := by omega
          obtain ⟨V, hV⟩ : ∃ V, Z.getD j 0 = V := ⟨_, rfl⟩
          rw [hV] at htk cZ
          have CC : Hid (∀ W, Below wo.heap.size wo W → W.cell? ⟨sb, so + k, none⟩ = some (.slice (some ⟨b2, o2, none⟩) Z.length sc) ∧ W.cell? ⟨b2, o2 + j, none⟩ = some (.int .i64 V)) := Lib.hid fun W hW => ⟨(hW.cell (p := ⟨sb, so + k, none⟩) lsb).trans CS.out, (hW.cell (p := ⟨b2, o2 + j, none⟩) lb2).trans cZ⟩
          obtain ⟨cS4, cZ4⟩ := CC.out _ hB2.out
          obtain ⟨U, hUw⟩ : ∃ U, IntKind.i64.wrap (V + more) = U := ⟨_, rfl⟩
          have hU2 : wrap64 (V + more) = U := by rw [← hUw, IntKind.wrap_i64]; unfold wrap64; first | rfl | omega
          have hmw : IntKind.i64.wrap more = more := Fx.i64_in (by omega) (by omega)
          have hmw2 : wrap64 more = more := w64k ⟨b0, by omega⟩
          have hc3 : j + 1 ≤ maxLen := by unfold maxLen; omega
          have hc4 : (j + 1) * 8 ≤ 140737488355328 := by omega
          have hc5 : ∀ o, wo.heap.size ≤ (wr.alloc o).heap.size := fun o => by have := hB2.out.size; simp; omega
          clear hV cZ
          by_cases hv : 255 < V
          · by_cases hu0 : U ≤ 255
            · have hu : U ≤ 255 := by omega
              have hgv : gst more V = V := by unfold gst; rw [hUw]; first | (rw [if_pos hv]) | (rw [if_neg (by omega)]; omega)
              go_wp2_with (at_builtin; refine wpList_append_own _ rfl _ _ 39 rfl wo.heap.size 3 i3 (.int .i64 0) 1 8 Tryd.underlying39 hi3 hz30 hz31 hz32 rfl (by decide) _ _ _ rfl (hO.out.alloc _) ⟨wr.heap.size, 0, none⟩ 1 1 [.int .i64 U] rfl rfl (cell_one_new _ _ _) (one_int _) hc3 hc4 (hc5 _) ?_)
              intro v2 w5 ho2 hg2 _
              have hb5 := Lib.hid ((hB2.out.alloc hB2.out.size (.cells #[.int .i64 U] 3)).grown hg2 (by simp; have := hB2.out.size; omega) (fun kk hkk => (hO.out.lt kk hkk).1))
              obtain ⟨g5, cap5, rfl⟩ := ownsRow_succ ho2
              have cS5 := CC.out _ hb5.out
              obtain ⟨cS6, cZ6⟩ := cS5
              have HO2 := Lib.hid ho2
              clear ho2 hg2 hO hB2 cS4 cZ4
              have cl := own_cells (zs := gsl more (Z.take j) ++ [U]) (by rw [List.map_append]; exact HO2.out) (by rw [List.length_append, hjl.out]; rfl) (j := j) (by omega)
              have cf := HO2.out.frozenAt j
              have hst := Lib.hid (HO2.out.stored j (.int .i64 V)).1
              have hbs := Lib.hid (hb5.out.setCell (p := ⟨g5, j, none⟩) (HO2.out.lt g5 rfl).1 (.int .i64 V))
              clear hb5
              go_wp2
              go_roundw
              case rel =>
                refine ⟨j + 1, by omega, by go_num, Lib.hid ?_, hbs⟩
                rw [htk.out, hgv]
                have := hst.out
                rw [set_last _ _ (by rw [List.length_map]; exact hjl.out)] at this
                rw [List.map_append]
                exact this
              case measure => simp [intOf]; omega
            · have hu : 255 < U := by omega
              have hgv : gst more V = V := by unfold gst; rw [hUw]; first | (rw [if_pos hv]) | (rw [if_neg (by omega)]; omega)
              go_wp2_with (at_builtin; refine wpList_append_own _ rfl _ _ 39 rfl wo.heap.size 3 i3 (.int .i64 0) 1 8 Tryd.underlying39 hi3 hz30 hz31 hz32 rfl (by decide) _ _ _ rfl (hO.out.alloc _) ⟨wr.heap.size, 0, none⟩ 1 1 [.int .i64 255] rfl rfl (cell_one_new _ _ _) (one_int _) hc3 hc4 (hc5 _) ?_)
              intro v2 w5 ho2 hg2 _
              have hb5 := Lib.hid ((hB2.out.alloc hB2.out.size (.cells #[.int .i64 255] 3)).grown hg2 (by simp; have := hB2.out.size; omega) (fun kk hkk => (hO.out.lt kk hkk).1))
              obtain ⟨g5, cap5, rfl⟩ := ownsRow_succ ho2
              have cS5 := CC.out _ hb5.out
              obtain ⟨cS6, cZ6⟩ := cS5
              have HO2 := Lib.hid ho2
              clear ho2 hg2 hO hB2 cS4 cZ4
              have cl := own_cells (zs := gsl more (Z.take j) ++ [255]) (by rw [List.map_append]; exact HO2.out) (by rw [List.length_append, hjl.out]; rfl) (j := j) (by omega)
              have cf := HO2.out.frozenAt j
              have hst := Lib.hid (HO2.out.stored j (.int .i64 V)).1
              have hbs := Lib.hid (hb5.out.setCell (p := ⟨g5, j, none⟩) (HO2.out.lt g5 rfl).1 (.int .i64 V))
              clear hb5
              go_wp2
              go_roundw
              case rel =>
                refine ⟨j + 1, by omega, by go_num, Lib.hid ?_, hbs⟩
                rw [htk.out, hgv]
                have := hst.out
                rw [set_last _ _ (by rw [List.length_map]; exact hjl.out)] at this
                rw [List.map_append]
                exact this
              case measure => simp [intOf]; omega
          · by_cases hu0 : U ≤ 255
            · have hu : U ≤ 255 := by omega
              have hgv : gst more V = U := by unfold gst; rw [hUw]; first | (rw [if_pos hv]) | (rw [if_neg (by omega)]; omega)
              go_wp2_with (at_builtin; refine wpList_append_own _ rfl _ _ 39 rfl wo.heap.size 3 i3 (.int .i64 0) 1 8 Tryd.underlying39 hi3 hz30 hz31 hz32 rfl (by decide) _ _ _ rfl (hO.out.alloc _) ⟨wr.heap.size, 0, none⟩ 1 1 [.int .i64 U] rfl rfl (cell_one_new _ _ _) (one_int _) hc3 hc4 (hc5 _) ?_)
              intro v2 w5 ho2 hg2 _
              have hb5 := Lib.hid ((hB2.out.alloc hB2.out.size (.cells #[.int .i64 U] 3)).grown hg2 (by simp; have := hB2.out.size; omega) (fun kk hkk => (hO.out.lt kk hkk).1))
              obtain ⟨g5, cap5, rfl⟩ := ownsRow_succ ho2
              have cS5 := CC.out _ hb5.out
              obtain ⟨cS6, cZ6⟩ := cS5
              have HO2 := Lib.hid ho2
              clear ho2 hg2 hO hB2 cS4 cZ4
              go_wp2
              go_roundw
              case rel =>
                refine ⟨j + 1, by omega, by go_num, Lib.hid ?_, hb5⟩
                rw [htk.out, hgv, List.map_append]
                exact HO2.out
              case measure => simp [intOf]; omega
            · have hu : 255 < U := by omega
              have hgv : gst more V = 255 := by unfold gst; rw [hUw]; first | (rw [if_pos hv]) | (rw [if_neg (by omega)]; omega)
              go_wp2_with (at_builtin; refine wpList_append_own _ rfl _ _ 39 rfl wo.heap.size 3 i3 (.int .i64 0) 1 8 Tryd.underlying39 hi3 hz30 hz31 hz32 rfl (by decide) _ _ _ rfl (hO.out.alloc _) ⟨wr.heap.size, 0, none⟩ 1 1 [.int .i64 255] rfl rfl (cell_one_new _ _ _) (one_int _) hc3 hc4 (hc5 _) ?_)
              intro v2 w5 ho2 hg2 _
              have hb5 := Lib.hid ((hB2.out.alloc hB2.out.size (.cells #[.int .i64 255] 3)).grown hg2 (by simp; have := hB2.out.size; omega) (fun kk hkk => (hO.out.lt kk hkk).1))
              obtain ⟨g5, cap5, rfl⟩ := ownsRow_succ ho2
              have cS5 := CC.out _ hb5.out
              obtain ⟨cS6, cZ6⟩ := cS5
              have HO2 := Lib.hid ho2
              clear ho2 hg2 hO hB2 cS4 cZ4
              go_wp2
              go_roundw
              case rel =>
                refine ⟨j + 1, by omega, by go_num, Lib.hid ?_, hb5⟩
                rw [htk.out, hgv, List.map_append]
                exact HO2.out
              case measure => simp [intOf]; omega
        · obtain rfl : j = Z.length := by omega
          have cS4 := (hB2.out.cell (p := ⟨sb, so + k, none⟩) lsb).trans CS.out
          have hO' : Hid (wr.ownsRow wo.heap.size 3 1 u18 Z.length ((gsl more Z).map (Value.int .i64))) := Lib.hid (by have := hO.out; rwa [List.take_length] at this)
          have hRV : Hid (RowV wr u18 (gsl more Z)) := Lib.hid (RowV.of_own (by rw [gsl_len]; exact hO'.out))
          obtain ⟨a8, c8, e8, _⟩ := hRV.out.rd
          rw [gsl_len] at e8
          subst e8
          have hba : Below wr.heap.size wr (wr.alloc (.cells #[.slice a8 Z.length c8] 39)) := (Below.refl _ _).alloc (Nat.le_refl _) _
          have hG1 := (hG.out.below hB2.out).below hba
          have hB3 : Hid (Below w3.heap.size w3 (wr.alloc (.cells #[.slice a8 Z.length c8] 39))) := Lib.hid ((belowT hB.out hB2.out).trans (hba.mono (belowT hB.out hB2.out).size))
          obtain ⟨vals, ho1, hr1⟩ := hG1
          have hr2 := Lib.hid hr1
          have hu2 : Hid (RowV (wr.alloc (.cells #[.slice a8 Z.length c8] 39)) (.slice a8 Z.length c8) (gsl more Z)) := Lib.hid (hRV.out.of_heap fun g cur hg => (hba.block g (Array.getElem?_eq_some_iff.1 hg).1).trans hg)
          have hrl : Hid (((gsr more S).take k).length = k) := hlen
          have hc3 : ((gsr more S).take k).length + 1 ≤ maxLen := by rw [hlen.out]; unfold maxLen; omega
          have hc4 : (((gsr more S).take k).length + 1) * 24 ≤ 140737488355328 := by rw [hlen.out]; omega
          have hc5 := hB3.out.size
          have hos : ∀ u ∈ [Value.slice a8 Z.length c8], u.oneCell' = true := by simp [Value.oneCell']
          clear hr1 hO hO' hba hRV hG hB hB2 RZ CS hmx hsl
          go_wp2_with (at_builtin; refine wpList_append_own _ rfl _ _ 51 rfl w3.heap.size 39 i9 (.slice none 0 0) 1 24 Tryd.underlying51 hi9 hz90 hz91 hz92 rfl (by decide) _ _ _ rfl ho1 ⟨wr.heap.size, 0, none⟩ 1 1 [.slice a8 Z.length c8] rfl rfl (cell_one_new _ _ _) hos hc3 hc4 hc5 ?_)
          intro v2 w5 ho2 hg2 _
          have hG5 : Hid (Gr w3.heap.size w5 v2 ((gsr more S).take (k + 1))) := Lib.hid (by rw [hgrow.out]; exact Gr.push ho1 hr2.out hu2.out (by rw [List.length_take]; exact ho2) hg2)
          have hB5 : Hid (Below w3.heap.size w3 w5) := Lib.hid (hB3.out.grown hg2 hc5 (fun kk hkk => (ho1.lt kk hkk).1))
          clear ho1 ho2 hg2 hr2 hu2 hB3 cS4
          go_wp2
          go_roundw
          case rel => exact ⟨k + 1, by omega, by go_num, hG5, hB5⟩
          case measure => simp [intOf]; omega
    · obtain rfl : k = S.length := by omega
      have hGf := hG.out
      rw [List.take_of_length_le (by rw [gsr_len]; omega)] at hGf
      obtain ⟨G, cg, e9, rdG⟩ := hGf.rd
      rw [gsr_len] at e9
      subst e9
      have K6 := Lib.hid (K4.out.on hB.out)
      have RG := Lib.hid rdG
      have q1 := Lib.hid (row_on R4.out hB.out)
      clear hG hB hGf rdG R4 K4
      generalize wr = wg at *
      have HM : Hid ((wg.alloc (.cells (madeCells #[.int .i64 0] 256) 3)).rowIs wg.heap.size 3 256 (fun j => .int .i64 (if j < 0 then -lz.getD j 0 else 0))) := Lib.hid ((World.rowIs_made wg (.int .i64 0) 256 3).congr fun j _ => by simp)
      have HBm : Hid (Below wg.heap.size wg (wg.alloc (.cells (madeCells #[.int .i64 0] 256) 3))) := Lib.hid ((Below.refl _ _).alloc (Nat.le_refl _) _)
      go_wp2
      go_loopw [21] (fun i w2 => ∃ n : Nat, n ≤ 256 ∧ i = .int .i64 n ∧ Hid (w2.rowIs wg.heap.size 3 256 (fun j => .int .i64 (if j < n then -lz.getD j 0 else 0))) ∧ Hid (Below wg.heap.size wg w2)) (fun i _ => 256 - (intOf i).toNat)
      case atStart => exact ⟨0, by omega, rfl, HM, HBm⟩
      case round =>
        obtain ⟨n, hn, rfl, hR, hB⟩ := hrel
        by_cases hlt2 : n < 256
        · have hlt' : (n : Int) < 256 := by omega
          obtain ⟨ab, ao, eA, _, cx⟩ := (K6.out.on hB.out).l n (by omega)
          subst eA
          have hbx := HIN.out n hlt2
          have co := hR.out.cell (i := n) hlt2
          have cf := hR.out.frozen n
          have gR : ∀ v, v = -lz.getD n 0 → Hid ((wr.setCell ⟨wg.heap.size, n, none⟩ (.int .i64 v)).rowIs wg.heap.size 3 256 (fun j => .int .i64 (if j < n + 1 then -lz.getD j 0 else 0))) := fun v hv => Lib.hid <| by
            refine (hR.out.set n (.int .i64 v)).congr fun j hj => ?_
            by_cases e : j = n
            · subst e; rw [if_pos rfl, if_pos (by omega), hv]
            · rw [if_neg e]
              by_cases e2 : j < n
              · rw [if_pos e2, if_pos (by omega)]
              · rw [if_neg e2, if_neg (by omega)]
          have gB := Lib.hid (hB.out.setCell (p := ⟨wg.heap.size, n, none⟩) (Nat.le_refl _) (.int .i64 (-lz.getD n 0)))
          have gR1 := gR _ rfl
          obtain ⟨X, hX⟩ : ∃ X, lz.getD n 0 = X := ⟨_, rfl⟩
          rw [hX] at cx hbx gB gR1
          clear gR hR hB hX
          obtain ⟨x0, x1⟩ := hbx
          have e1 : IntKind.i64.wrap (-X) = -X := Fx.i64_in (by omega) (by omega)
          have e2 : wrap64 (-X) = -X := Fx.w64 (by omega) (by omega)
          go_wp2
          go_roundw
          case rel => exact ⟨n + 1, by omega, by go_num, gR1, gB⟩
          case measure => simp [intOf]; omega
        · have hne : n = 256 := by omega
          subst hne
          have K7 := Lib.hid (K6.out.on hB.out)
          have r7 : Hid (wr.rowIs wg.heap.size 3 256 (fun j => .int .i64 ((fun n => -lz.getD n 0) j))) := Lib.hid (hR.out.congr fun j hj => by rw [if_pos hj])
          have RG7 := Lib.hid (RG.out.below hB.out)
          have q7 := Lib.hid (row_on q1.out hB.out)
          clear hR hB HM HBm q1 RG K6
          obtain ⟨c0, c1, c2, c3⟩ := K7.out.y
          go_wp2_with (first
            | (go_at_call 33; ((with_reducible refine (X2.out _ _ _ K7.out RG7.out).mono ?_); rintro e w8 ⟨p8, rfl, hr8, hg8, hb8⟩; have K8 := Lib.hid (K7.out.on hb8); have r8 := Lib.hid hr8; have z8 := Lib.hid hb8; clear hr8; obtain ⟨c0, c1, c2, c3⟩ := K8.out.y))
            | (go_at_call 33; ((with_reducible refine (X3.out _ wg.heap.size K8.out (rda_row (row_on r7.out z8.out))).mono ?_); rintro e w9 ⟨p9, rfl, hr9, hg9, hb9⟩; have K9 := Lib.hid (K8.out.on hb9); have r9 := Lib.hid hr9; have y9 := Lib.hid hb9; have z9 := Lib.hid (belowT z8.out hb9); clear hr9; obtain ⟨c0, c1, c2, c3⟩ := K9.out.y))
            | (go_at_call 31; ((with_reducible refine (X4.out _ p1 K9.out (rda_row (row_on q7.out z9.out))).mono ?_); rintro e w10 ⟨p10, rfl, hr10, hg10, hb10⟩; have K10 := Lib.hid (K9.out.on hb10); have r10 := Lib.hid hr10; have z10 := Lib.hid (belowT z9.out hb10); clear hr10; obtain ⟨c0, c1, c2, c3⟩ := K10.out.y))
            | (go_at_call 31; ((with_reducible refine (X5.out _ _ _ p1 K10.out (RG7.out.below z10.out) (rda_row (row_on q7.out z10.out))).mono ?_); rintro e w11 ⟨p11, rfl, hr11, hg11, hb11⟩; have K11 := Lib.hid (K10.out.on hb11); have r11 := Lib.hid hr11; have z11 := Lib.hid (belowT z10.out hb11); clear hr11; obtain ⟨c0, c1, c2, c3⟩ := K11.out.y)))
          have s1 := Lib.hid (row_on q7.out z11.out)
          have s2 := Lib.hid (row_on (row_on (row_on r8.out y9.out) hb10) hb11)
          have s3 := Lib.hid (row_on (row_on r9.out hb10) hb11)
          have s4 := Lib.hid (row_on r10.out hb11)
          have s5 := r11
          clear X2 X3 X4 X5 K7 K8 K9 K10 r7 r8 r9 r10 r11 q7 RG7 z8 z9 z10 z11 y9 hb8 hb9 hb10 hb11 hg8 hg9 hg10 hg11 c0 c1 c2 c3
          go_loopw [30] (fun i w2 => ∃ k : Nat, k ≤ 256 ∧ i = .int .i64 k ∧ Hid (Below w11.heap.size w11 w2)) (fun i _ => 256 - (intOf i).toNat)
          case atStart => exact ⟨0, by omega, rfl, Lib.hid (Below.refl _ _)⟩
          case round =>
            obtain ⟨k, hk, rfl, hB⟩ := hrel
            by_cases hlt : k < 256
            · have d1 := (row_on s1.out hB.out).cell (i := k) hlt
              have d2 := (row_on s2.out hB.out).cell (i := k) hlt
              have d3 := (row_on s3.out hB.out).cell (i := k) hlt
              have d4 := (row_on s4.out hB.out).cell (i := k) hlt
              have d5 := (row_on s5.out hB.out).cell (i := k) hlt
              have hbq := HQB.out k hlt
              have hbr := HRB.out k hlt
              have hba := HAB.out k hlt
              have hbb := HBB.out k hlt
              have n1 := H1.out k hlt
              have n2 := H2.out k hlt
              have n3 := H3.out k hlt
              rw [n3] at d3
              clear n3
              generalize Q k = QV' at *
              generalize R k = RV' at *
              generalize a k = AV' at *
              generalize b k = BV' at *
              have hf1 := fun W => far_ok40 QV' 0 W (by omega) (by omega) (by omega) (by omega)
              have hf2 := fun W => far_ok40 RV' 0 W (by omega) (by omega) (by omega) (by omega)
              have hf3 := fun W => far_ok40 AV' 0 W (by omega) (by omega) (by omega) (by omega)
              have hf4 := fun W => far_ok40 BV' 0 W (by omega) (by omega) (by omega) (by omega)
              have t1 : decide (far QV' 0 < far RV' 0) = false := by simpa using n1
              have t2 : decide (far BV' 0 < far AV' 0) = false := by simpa using n2
              generalize far QV' 0 = F1 at *
              generalize far RV' 0 = F2 at *
              generalize far AV' 0 = F3 at *
              generalize far BV' 0 = F4 at *
              have e1 : IntKind.i64.wrap (-QV') = -QV' := Fx.i64_in (by omega) (by omega)
              have e2 : wrap64 (-QV') = -QV' := Fx.w64 (by omega) (by omega)
              have hlt' : (k : Int) < 256 := by omega
              clear n1 n2 hbq hbr hba hbb
              go_wp2
              go_quiet ((first | ((with_reducible refine (hf1 _).mono ?_); intro e w' h; exact ⟨h.1, _, h.2.symm⟩) | ((with_reducible refine (hf2 _).mono ?_); intro e w' h; exact ⟨h.1, _, h.2.symm⟩) | ((with_reducible refine (hf3 _).mono ?_); intro e w' h; exact ⟨h.1, _, h.2.symm⟩) | ((with_reducible refine (hf4 _).mono ?_); intro e w' h; exact ⟨h.1, _, h.2.symm⟩)))
              have gB := Lib.hid (belowT hB.out (Fx.drewN_below wr nq))
              go_wp2
              go_roundw
              case rel => exact ⟨k + 1, by omega, by go_num, gB⟩
              case measure => simp [intOf]; omega
            · have hke : k = 256 := by omega
              subst hke
              have hend := (K11.out.on hB.out).b
              clear hB
              go_wp2
              go_ret
              exact ⟨rfl, hend⟩

theorem u8_in {x : Int} (h : (Lit.int .u8 x).wf = true) : 0 ≤ x ∧ x ≤ 255 := by
  simp [Lit.wf] at h
  have e : IntKind.u8.min = 0 := rfl
  have e2 : IntKind.u8.max = 255 := rfl
  omega
theorem named : Named Tryd.prog Rows.quantCoarserRow.laid [(0, 80)] := ⟨by kernel_rfl, by kernel_rfl, trivial⟩
theorem flat1 : flats E Rows.quantCoarserRow.laid [(0, 80)] = some [(0, [.int .i64 1073741824, .int .i64 1276901417, .int .i64 1518500250, .int .i64 1805811301])] := by kernel_rfl
theorem walk (a0 : Int) (a1s a1h a1m : Int) (a1a : Option Addr) (a1c : Nat) (a1z : List Int) (a2 : Option Addr) (len2 cap2 : Nat) (z2 : List (List Int)) (a3 : Option Addr) (len3 cap3 : Nat) (z3 : List (List Int)) (a4 : Option Addr) (len4 cap4 : Nat) (z4 : List Int) (a5 : Int) (w : World)
    (_ : (Lit.int .i64 a0).wf = true) (_ : (Lit.int .u8 a1s).wf = true) (_ : (Lit.int .u8 a1h).wf = true) (_ : (Lit.int .i64 a1m).wf = true) (l1 : a1z.length ≤ maxLen) (r1 : RowA .i64 w a1a a1z) (_ : ∀ n ∈ a1z, (Lit.int .i64 n).wf = true) (w2 : Rws w a2 len2 cap2 z2) (w3 : Rws w a3 len3 cap3 z3) (w4 : Qn.IsRow .i64 w a4 len4 cap4 z4) (w5 : (Lit.int .u8 a5).wf = true) (hL : laidMetH Tryd.prog Rows.quantCoarserRow.laid w) :
    Calls Tryd.prog 14 #[.int .i64 a0, .agg #[.int .u8 a1s, .int .u8 a1h, .int .i64 a1m, .slice a1a a1z.length a1c], .slice a2 len2 cap2, .slice a3 len3 cap3, .slice a4 len4 cap4, .int .u8 a5] w fun e w' => e = .returned (.bool true) ∧ Below w.heap.size w w' := by
  obtain ⟨rfl, rB, hBr, hB⟩ := w2
  obtain ⟨rfl, rS, hSr, hS⟩ := w3
  obtain ⟨lz, rfl, rl, hl⟩ := row_rd w4
  obtain ⟨b0, b1⟩ := u8_in w5
  have hT : Tb w := laidG (by kernel_rfl) named flat1 hL
  have hqs := Fx.qs_of hL (by kernel_rfl) named flat1
  by_cases hgr : grt a1z.length z2 z3 lz.length = true
  · exact great a0 a1s a1h a1m a1a a1c a1z a2 a3 a4 cap2 cap3 cap4 z2 z3 lz a5 w hT hqs l1 hB hS hl hBr hSr (rowa_rd r1) rB rS rl hgr
  have hgr' : grt a1z.length z2 z3 lz.length = false := by simpa using hgr
  by_cases hf : Fine a0 a1s a1h a1m a1z z2 z3 lz 268435455
  · exact good a0 a1s a1h a1m a1a a1c a1z a2 a3 a4 cap2 cap3 cap4 z2 z3 lz a5 w hT hqs l1 hB hS hl hBr hSr (rowa_rd r1) rB rS rl hgr' hf b0 b1
  · exact wrong a0 a1s a1h a1m a1a a1c a1z a2 a3 a4 cap2 cap3 cap4 z2 z3 lz a5 w hT hqs l1 hB hS hl hBr hSr (rowa_rd r1) rB rS rl hgr' hf
noncomputable def laidWorld (os : Os) : World := lay E Rows.quantCoarserRow.laid [(0, 80)] (World.holding Tryd.prog os ⟨#[], #[.int .i64 0, .agg #[.int .u8 0, .int .u8 0, .int .i64 0, .slice none 0 0], .slice none 0 0, .slice none 0 0, .slice none 0 0, .int .u8 0], []⟩)
theorem laid_os (os : Os) : (laidWorld os).os = os := by kernel_rfl
theorem own : ownKnob Tryd.prog.godebug = none := by kernel_rfl
theorem laidOut : laidOutB Tryd.prog = true := by kernel_rfl
set_option linter.unusedVariables false
theorem laid_met (os : Os) (args : Array Value) : laidMet Tryd.prog Rows.quantCoarserRow.laid ((laidWorld os).forCall (fun _ _ => 0) ⟨#[], args, []⟩).memory := laidMet_of_run' 8 (by kernel_rfl) (by kernel_rfl)
set_option maxRecDepth 100000 in
theorem lifted (os : Os) (started : os.Started) (H : Type) (enc : TypeId × Value → H) (F : Stop.Interp) :
    ReturnsInHanded {} Tryd.checked os 14 .any ((OpenSpec.ofChange Rows.quantCoarserSpec).preRow enc Tryd.prog Tryd.f14 Rows.quantCoarserRow.domain false Rows.quantCoarserRow.laid) (((OpenSpec.ofChange Rows.quantCoarserSpec).at F).post enc Tryd.prog Tryd.f14 false true false false) := by
  refine returnsInHanded_of_row (C := Tryd.checked) (s := OpenSpec.ofChange Rows.quantCoarserSpec) own started (by kernel_rfl) Tryd.func14
    (witness_row_at (enc := enc) (C := Tryd.checked) false (laidWorld os) #[.int .i64 0, .agg #[.int .u8 0, .int .u8 0, .int .i64 0, .slice none 0 0], .slice none 0 0, .slice none 0 0, .slice none 0 0, .int .u8 0] (laid_os os) (by kernel_rfl) (by kernel_rfl) (by kernel_rfl)
      (OpenSpec.preRow_of_cond 8 (show DataW.whole enc Tryd.prog ((laidWorld os).forCall (fun _ _ => 0) ⟨#[], #[.int .i64 0, .agg #[.int .u8 0, .int .u8 0, .int .i64 0, .slice none 0 0], .slice none 0 0, .slice none 0 0, .slice none 0 0, .int .u8 0], []⟩).memory Tryd.f14.params.toList Rows.quantCoarserSpec.vars false #[.int .i64 0, .agg #[.int .u8 0, .int .u8 0, .int .i64 0, .slice none 0 0], .slice none 0 0, .slice none 0 0, .slice none 0 0, .int .u8 0].toList 8 = some ([.lit (.int .i64 0), .agg [.lit (.int .u8 0), .lit (.int .u8 0), .lit (.int .i64 0), .nil], .nil, .nil, .nil, .lit (.int .u8 0)], [], []) by kernel_rfl) (by kernel_rfl) (fun k hk => by cases hk) (by kernel_rfl) (laid_met os _))) ?_
  intro W base args ds gs before hval0 hW _ _ _ hL _ _
  have hval : ∀ (j : Nat) t v, Tryd.f14.params[j]? = some t → args[j]? = some v → Value.okWide Tryd.prog W .any base t v := hval0
  have hW' := hW
  obtain ⟨p, q, hA0, hV, rfl, hfz, hnd⟩ := hW
  have hA : DataW.TrodAll enc Tryd.prog W 0 (fun _ => true) true Tryd.f14.params.toList args.toList ds p := hA0
  rw [Tryd.params14] at hA hval
  obtain ⟨v0, vs0, d0, ds0, p0, q0, hargs, rfl, rfl, h0, r0⟩ := trodAll_cons hA
  obtain ⟨v1, vs1, d1, ds1, p1, q1, rfl, rfl, rfl, h1, r1⟩ := trodAll_cons r0
  obtain ⟨v2, vs2, d2, ds2, p2, q2, rfl, rfl, rfl, h2, r2⟩ := trodAll_cons r1
  obtain ⟨v3, vs3, d3, ds3, p3, q3, rfl, rfl, rfl, h3, r3⟩ := trodAll_cons r2
  obtain ⟨v4, vs4, d4, ds4, p4, q4, rfl, rfl, rfl, h4, r4⟩ := trodAll_cons r3
  obtain ⟨v5, vs5, d5, ds5, p5, q5, rfl, rfl, rfl, h5, r5⟩ := trodAll_cons r4
  obtain ⟨rfl, rfl, rfl⟩ := trodAll_nil r5
  obtain rfl : args = #[v0, v1, v2, v3, v4, v5] := by cases args; simp_all
  obtain ⟨rfl, rfl⟩ := trodVars_none hV
  obtain ⟨a0, rfl, rfl, rfl, w0⟩ := open_int Tryd.underlying3 (hval 0 3 v0 rfl rfl) h0
  have k1 := h1
  have lt1 : ∀ x ∈ p1, x.block < W.heap.size := by obtain ⟨m, hm⟩ := k1; exact DataW.trod_lt m _ _ _ hm
  obtain ⟨a1s, a1h, a1m, a1a, a1c, a1z, rfl, w1s, w1h, w1m, l1, r1r, e1⟩ := open_info Tryd.underlying50 rfl rfl rfl rfl Tryd.underlying5 Tryd.underlying5 Tryd.underlying3 Tryd.underlying39 Tryd.underlying3 (by kernel_rfl) (by kernel_rfl) (by kernel_rfl) (by kernel_rfl) (by kernel_rfl) (by kernel_rfl) (hval 1 50 v1 rfl rfl) h1
  obtain ⟨a2, len2, cap2, rfl⟩ := okWide_slice Tryd.underlying51 (hval 2 51 v2 rfl rfl)
  have k2 := h2
  have lt2 : ∀ x ∈ p2, x.block < W.heap.size := by obtain ⟨m, hm⟩ := k2; exact DataW.trod_lt m _ _ _ hm
  obtain ⟨z2, w2⟩ := open_rows Tryd.underlying51 Tryd.underlying39 Tryd.underlying3 (by kernel_rfl) (by kernel_rfl) h2
  obtain ⟨a3, len3, cap3, rfl⟩ := okWide_slice Tryd.underlying51 (hval 3 51 v3 rfl rfl)
  have k3 := h3
  have lt3 : ∀ x ∈ p3, x.block < W.heap.size := by obtain ⟨m, hm⟩ := k3; exact DataW.trod_lt m _ _ _ hm
  obtain ⟨z3, w3⟩ := open_rows Tryd.underlying51 Tryd.underlying39 Tryd.underlying3 (by kernel_rfl) (by kernel_rfl) h3
  obtain ⟨a4, len4, cap4, rfl⟩ := okWide_slice Tryd.underlying39 (hval 4 39 v4 rfl rfl)
  have k4 := h4
  have lt4 : ∀ x ∈ p4, x.block < W.heap.size := by obtain ⟨m, hm⟩ := k4; exact DataW.trod_lt m _ _ _ hm
  obtain ⟨z4, w4⟩ : ∃ zs, IsRow .i64 W a4 len4 cap4 zs := by
    obtain ⟨fuel, hf⟩ := h4
    rcases open_ints Tryd.underlying39 Tryd.underlying3 (by kernel_rfl) hf with ⟨hcs, _⟩ | ⟨x, l, c, zs, hcs, _, hl, hm, hz, _, hcell, hwz⟩
    · simp [Value.cells] at hcs
      obtain ⟨rfl, rfl, rfl⟩ := hcs
      exact ⟨[], .inl ⟨rfl, rfl, rfl, rfl⟩⟩
    · simp [Value.cells] at hcs
      obtain ⟨rfl, rfl, rfl⟩ := hcs
      exact ⟨zs, .inr ⟨_, rfl, hl, hm, by simpa using hz, hcell, hwz⟩⟩
  obtain ⟨a5, rfl, rfl, rfl, w5⟩ := open_int Tryd.underlying5 (hval 5 5 v5 rfl rfl) h5
  clear hA0 hval0
  refine (walk a0 a1s a1h a1m a1a a1c a1z a2 len2 cap2 z2 a3 len3 cap3 z3 a4 len4 cap4 z4 a5 W w0 w1s w1h w1m l1 r1r e1 w2 w3 w4 w5 hL).mono fun e W' ⟨he, bel⟩ => ?_
  subst he
  exact ⟨_, rfl, _, _, _, [], _, [], hW', trodAll_mk1 (shut_bool Tryd.underlying4 _), (trodAll_cons_mk (shut_int Tryd.underlying3 w0) (trodAll_cons_mk (Below.trod laidOut (by kernel_rfl) (of_decide_eq_true (by kernel_rfl)) k1 bel lt1) (trodAll_cons_mk (Below.trod laidOut (by kernel_rfl) (of_decide_eq_true (by kernel_rfl)) k2 bel lt2) (trodAll_cons_mk (Below.trod laidOut (by kernel_rfl) (of_decide_eq_true (by kernel_rfl)) k3 bel lt3) (trodAll_cons_mk (Below.trod laidOut (by kernel_rfl) (of_decide_eq_true (by kernel_rfl)) k4 bel lt4) (trodAll_cons_mk (shut_int Tryd.underlying5 w5) trodAll_mk0)))))), rfl, bel.frame _, fun h => by cases h⟩

theorem said : Rows.QuantCoarserSaid :=
  OpenClaim.holds_of_cond 14 Tryd.f14 rfl rfl rfl rfl rfl rfl rfl ⟨rfl, rfl, rfl, rfl, rfl⟩ rfl rfl rfl rfl rfl (by kernel_rfl) Tryd.func14 (by kernel_rfl)
    (of_decide_eq_true (by kernel_rfl)) (by unfold Func.isWrapper; first | (rw [if_pos (by decide +kernel)]; kernel_rfl) | (rw [if_neg (by decide +kernel)]; exact ⟨rfl, rfl⟩))
    (fun os started H enc _ F => by rw [OpenClaim.pre_eq_preRow]; exact lifted os started H enc F)

theorem plain (f : FuncId) (fn : Func) (hf : Tryd.pinned.checked.prog.funcNamed "reedpipe/reedpipelaw14.QuantCoarser" = some f) (hfn : Tryd.pinned.checked.prog.funcs[f]? = some fn) :
    false = Tryd.pinned.checked.prog.looks [] ∧ ∀ (j : Nat) t, fn.params[j]? = some t → Tryd.pinned.checked.prog.wantsStandIn t = false := by
  obtain rfl : f = 14 := Option.some.inj ((show Tryd.prog.funcNamed "reedpipe/reedpipelaw14.QuantCoarser" = some 14 by kernel_rfl).symm.trans hf) |>.symm
  obtain rfl : fn = Tryd.f14 := (Option.some.inj (Tryd.func14.symm.trans hfn)).symm
  refine ⟨by kernel_rfl, fun j t ht => ?_⟩
  rw [Tryd.params14] at ht
  have hm : t ∈ [3, 50, 51, 51, 39, 5] := by simpa using Array.mem_of_getElem? ht
  have hall : ([3, 50, 51, 51, 39, 5].all fun u => !Tryd.prog.wantsStandIn u) = true := by kernel_rfl
  exact (show Tryd.prog.wantsStandIn t = false by simpa using List.all_eq_true.1 hall t hm)

theorem proved : Rows.QuantCoarserCardSaid :=
  Claim7.holds_tied_plain_at .later [] _ _ _ _ said (fun _ h => by cases h) (by kernel_rfl) (fun _ h => by cases h) quantCoarser_row_tie rfl ⟨rfl, rfl⟩ (by kernel_rfl) rfl plain (by kernel_rfl)


end Go.Proofs.YtanjcbnkkhbkkaaDoor.quantCoarser
