/- A line hangs on itself, its book and step alone. QuantOwn returns true, whatever the rate, the windows, the books, the steps, the lines, the window and the place in it, the memory and the schedule. Condition: package power's table of four numbers holds its values, as the row lists it. -/
import Derived.Test.YtanjcbnkkhbkkaaDoorMrg1
import Derived.Test.YtanjcbnkkhbkkaaDoorCards
import Derived.Test.YtanjcbnkkhbkkaaDoorTie
import Derived.Deep.DeepHandedRow
import Derived.Deep.RegionHeld3
import Derived.Lib.LaidTab
import Derived.Lib.Hide
namespace Go.Proofs.YtanjcbnkkhbkkaaDoor.quantOwn
open Go Go.Ev Go.ChangeShapes Go.WideShapes Go.ChangeAt Go.RowKit Go.Proofs.YtanjcbnkkhbkkaaDoor.If Go.Proofs.YtanjcbnkkhbkkaaDoor.Bd Go.Proofs.YtanjcbnkkhbkkaaDoor.Qn

/-- Some answer. -/
def AnyO (w w' : World) (e : Ending) : Prop := ∃ v l d f, e = .returned (.tuple #[.slice v l d, .int .i64 f]) ∧ Below w.heap.size w w'
set_option linter.unusedVariables false
set_option maxRecDepth 100000 in
theorem great (r s h m : Int) (ga : Option Addr) (gc : Nat) (gz : List Int) (O P A : Option Addr) (oc pc lc : Nat) (B S : List (List Int)) (lz : List Int) (x n : Int) (w : World) (hT : Tb w) (hqs : Fx.Qs w) (hgl : gz.length ≤ maxLen) (hB : B.length ≤ maxLen) (hS : S.length ≤ maxLen) (hL : lz.length ≤ maxLen) (hBr : ∀ i, i < B.length → (B.getD i []).length ≤ maxLen) (hSr : ∀ i, i < S.length → (S.getD i []).length ≤ maxLen) (rg : RdA w ga gz) (rB : RdR w O B) (rS : RdR w P S) (rl : RdA w A lz) (hgr : grt gz.length B S lz.length = true) :
    Calls Tryd.prog 12 #[.int .i64 r, .agg #[.int .u8 s, .int .u8 h, .int .i64 m, .slice ga gz.length gc], .slice O B.length oc, .slice P S.length pc, .slice A lz.length lc, .int .i64 x, .int .i64 n] w fun e w' => e = .returned (.bool true) ∧ Below w.heap.size w w' := by
  have HB := Lib.hid (box_below w (.cells #[.int .u8 s, .int .u8 h, .int .i64 m, .slice ga gz.length gc] 50))
  obtain ⟨y0, y1, y2, y3⟩ := boxed w s h m (.slice ga gz.length gc) _ (Below.refl _ _)
  have HA := Lib.hid (alive36 _ (hT.below HB.out))
  have HG := Lib.hid (fun W (hW : Below w.heap.size w W) => great_ok s h m ga gc gz O P A oc pc lc lz.length B S W hgl hB hS hL hBr hSr (rB.below hW) (rS.below hW))
  rw [hgr] at HG
  clear hT hqs hBr hSr rg rB rS rl
  go_enter Tryd.func12, Tryd.ntmps12
  go_wp2_with (first
    | (go_at_call 36; ((with_reducible refine (HA.out).mono ?_); rintro e w1 ⟨rfl, hb1⟩; have hbb := belowT HB.out hb1; have c0 := (hb1.cell (p := ⟨w.heap.size, 0, none⟩) (by simp)).trans y0; have c1 := (hb1.cell (p := ⟨w.heap.size, 1, none⟩) (by simp)).trans y1; have c2 := (hb1.cell (p := ⟨w.heap.size, 2, none⟩) (by simp)).trans y2; have c3 := (hb1.cell (p := ⟨w.heap.size, 3, none⟩) (by simp)).trans y3))
    | (go_at_call 29; ((with_reducible refine (HG.out _ hbb).mono ?_); rintro e w2 ⟨rfl, hb2⟩; have hbc := belowT hbb hb2)))
  go_ret
  exact ⟨rfl, hbc⟩

theorem any_lines {r s h m : Int} {ga : Option Addr} {gc : Nat} {gz : List Int} {O P A : Option Addr} {oc pc lc : Nat} {B S : List (List Int)} {lz : List Int} {w : World} (W : World) (k : K w ga gz O P A B S lz s h m gc W) (g4 : lz.length ≤ 1000) : Calls Tryd.prog 31 #[.int .i64 r, .agg #[.int .u8 s, .int .u8 h, .int .i64 m, .slice ga gz.length gc], .slice O B.length oc, .slice P S.length pc, .slice A lz.length lc] W fun e w' => AnyO W w' e := by
  by_cases hf : Fine r s h m gz B S lz 8191
  · exact (lines_good r s h m ga gc gz O P A oc pc lc B S lz W k.q k.i k.l hf).mono fun e w' ⟨g, he, _, _, hb⟩ => ⟨_, _, _, _, he, hb⟩
  · exact (lines_err r s h m ga gc gz O P A oc pc lc B S lz W k.i g4 k.l hf).mono fun e w' ⟨c, _, he, hb⟩ => ⟨_, _, _, _, he, hb⟩
theorem any_quant {r s h m : Int} {ga : Option Addr} {gc : Nat} {gz : List Int} {O P A : Option Addr} {oc pc lc : Nat} {B S : List (List Int)} {lz : List Int} {w : World} (W : World) (k : K w ga gz O P A B S lz s h m gc W) (g4 : lz.length ≤ 1000) : Calls Tryd.prog 33 #[.int .i64 r, .agg #[.int .u8 s, .int .u8 h, .int .i64 m, .slice ga gz.length gc], .slice O B.length oc, .slice P S.length pc, .slice A lz.length lc] W fun e w' => AnyO W w' e := by
  by_cases hf : Fine r s h m gz B S lz 268435455
  · exact (quant_good r s h m ga gc gz O P A oc pc lc B S lz W k.q k.i k.l hf).mono fun e w' ⟨g, he, _, _, hb⟩ => ⟨_, _, _, _, he, hb⟩
  · exact (quant_err r s h m ga gc gz O P A oc pc lc B S lz W k.i g4 k.l hf).mono fun e w' ⟨c, _, he, hb⟩ => ⟨_, _, _, _, he, hb⟩

theorem tdw (s : Int) : 32 ≤ Int.tdiv 256 (win s) ∧ Int.tdiv 256 (win s) ≤ 256 := by unfold win; split <;> decide
set_option maxRecDepth 100000 in
set_option maxHeartbeats 4000000 in
/-- Nothing is asked. -/
theorem early (r s h m : Int) (ga : Option Addr) (gc : Nat) (gz : List Int) (O P A : Option Addr) (oc pc lc : Nat) (B S : List (List Int)) (lz : List Int) (x n : Int) (w : World) (hT : Tb w) (hqs : Fx.Qs w) (hgl : gz.length ≤ maxLen) (hB : B.length ≤ maxLen) (hS : S.length ≤ maxLen) (hL : lz.length ≤ maxLen) (hBr : ∀ i, i < B.length → (B.getD i []).length ≤ maxLen) (hSr : ∀ i, i < S.length → (S.getD i []).length ≤ maxLen) (rg : RdA w ga gz) (rB : RdR w O B) (rS : RdR w P S) (rl : RdA w A lz) (hgr : grt gz.length B S lz.length = false) (hx : chk 11 s h m gz ≠ 0 ∨ x < 0 ∨ win s ≤ x ∨ n < 0 ∨ Int.tdiv 256 (win s) ≤ n ∨ lz.length ≠ 256) :
    Calls Tryd.prog 12 #[.int .i64 r, .agg #[.int .u8 s, .int .u8 h, .int .i64 m, .slice ga gz.length gc], .slice O B.length oc, .slice P S.length pc, .slice A lz.length lc, .int .i64 x, .int .i64 n] w fun e w' => e = .returned (.bool true) ∧ Below w.heap.size w w' := by
  have HB := Lib.hid (box_below w (.cells #[.int .u8 s, .int .u8 h, .int .i64 m, .slice ga gz.length gc] 50))
  obtain ⟨y0, y1, y2, y3⟩ := boxed w s h m (.slice ga gz.length gc) _ (Below.refl _ _)
  obtain ⟨g1, g2, g3, g4⟩ := grt_no hgr
  have HA := Lib.hid (alive36 _ (hT.below HB.out))
  have HG := Lib.hid (fun W (hW : Below w.heap.size w W) => great_ok s h m ga gc gz O P A oc pc lc lz.length B S W hgl hB hS hL hBr hSr (rB.below hW) (rS.below hW))
  rw [hgr] at HG
  have I : Inp w ga gz O P B S := ⟨g1, g2, g3, hBr, hSr, rg, rB, rS⟩
  have K1 : Hid (K w ga gz O P A B S lz s h m gc (w.alloc (.cells #[.int .u8 s, .int .u8 h, .int .i64 m, .slice ga gz.length gc] 50))) := Lib.hid ⟨hqs.below HB.out, I.below HB.out, rl.below HB.out, HB.out, ⟨y0, y1, y2, y3⟩, by simp⟩
  have HW := Lib.hid (fun W (k : K w ga gz O P A B S lz s h m gc W) => windows_k s h m ga gc gz W (by omega) k.i.hg)
  have X1 := Lib.hid (fun W (k : K w ga gz O P A B S lz s h m gc W) => any_lines (r := r) (oc := oc) (pc := pc) (lc := lc) W k g4)
  have X2 := Lib.hid (fun W (k : K w ga gz O P A B S lz s h m gc W) => any_quant (r := r) (oc := oc) (pc := pc) (lc := lc) W k g4)
  clear hT hqs hBr hSr rg rB rS rl I y0 y1 y2 y3 g1 g2 g3
  obtain ⟨y0, y1, y2, y3⟩ := K1.out.y
  obtain ⟨c, hc⟩ : ∃ c, chk 11 s h m gz = c := ⟨_, rfl⟩
  obtain ⟨M, hM⟩ : ∃ M, win s = M := ⟨_, rfl⟩
  have hM1 := win_bd s
  have hD1 := tdw s
  rw [hc, hM] at HW hx
  rw [hM] at hM1 hD1
  clear hc hM
  by_cases h1 : c = 0
  · subst h1
    simp only [if_true] at HW
    by_cases h2 : x < 0
    · clear hx
      go_enter Tryd.func12, Tryd.ntmps12
      go_wp2_with (first
    | (go_at_call 36; ((with_reducible refine (HA.out).mono ?_); rintro e w1 ⟨rfl, hb1⟩; have K2 := Lib.hid (K1.out.on hb1); obtain ⟨c0, c1, c2, c3⟩ := K2.out.y))
    | (go_at_call 29; ((with_reducible refine (HG.out _ K2.out.b).mono ?_); rintro e w2 ⟨rfl, hb2⟩; have K3 := Lib.hid (K2.out.on hb2); obtain ⟨c0, c1, c2, c3⟩ := K3.out.y))
    | (go_at_call 31; ((with_reducible refine (X1.out _ K3.out).mono ?_); rintro e w3 ⟨v1, l1, d1, f1, rfl, hb3⟩; have K4 := Lib.hid (K3.out.on hb3); obtain ⟨c0, c1, c2, c3⟩ := K4.out.y))
    | (go_at_call 33; ((with_reducible refine (X2.out _ K4.out).mono ?_); rintro e w4 ⟨v2, l2, d2, f2, rfl, hb4⟩; have K5 := Lib.hid (K4.out.on hb4); obtain ⟨c0, c1, c2, c3⟩ := K5.out.y))
    | (go_at_call 37; ((with_reducible refine (HW.out _ K5.out).mono ?_); rintro e w5 ⟨rfl, hb5⟩; have K6 := Lib.hid (K5.out.on hb5); obtain ⟨c0, c1, c2, c3⟩ := K6.out.y)))
      go_ret
      exact ⟨rfl, K6.out.b⟩
    by_cases h3 : M ≤ x
    · clear hx
      go_enter Tryd.func12, Tryd.ntmps12
      go_wp2_with (first
    | (go_at_call 36; ((with_reducible refine (HA.out).mono ?_); rintro e w1 ⟨rfl, hb1⟩; have K2 := Lib.hid (K1.out.on hb1); obtain ⟨c0, c1, c2, c3⟩ := K2.out.y))
    | (go_at_call 29; ((with_reducible refine (HG.out _ K2.out.b).mono ?_); rintro e w2 ⟨rfl, hb2⟩; have K3 := Lib.hid (K2.out.on hb2); obtain ⟨c0, c1, c2, c3⟩ := K3.out.y))
    | (go_at_call 31; ((with_reducible refine (X1.out _ K3.out).mono ?_); rintro e w3 ⟨v1, l1, d1, f1, rfl, hb3⟩; have K4 := Lib.hid (K3.out.on hb3); obtain ⟨c0, c1, c2, c3⟩ := K4.out.y))
    | (go_at_call 33; ((with_reducible refine (X2.out _ K4.out).mono ?_); rintro e w4 ⟨v2, l2, d2, f2, rfl, hb4⟩; have K5 := Lib.hid (K4.out.on hb4); obtain ⟨c0, c1, c2, c3⟩ := K5.out.y))
    | (go_at_call 37; ((with_reducible refine (HW.out _ K5.out).mono ?_); rintro e w5 ⟨rfl, hb5⟩; have K6 := Lib.hid (K5.out.on hb5); obtain ⟨c0, c1, c2, c3⟩ := K6.out.y)))
      go_ret
      exact ⟨rfl, K6.out.b⟩
    have h3' : x < M := by omega
    by_cases h4 : n < 0
    · clear hx
      go_enter Tryd.func12, Tryd.ntmps12
      go_wp2_with (first
    | (go_at_call 36; ((with_reducible refine (HA.out).mono ?_); rintro e w1 ⟨rfl, hb1⟩; have K2 := Lib.hid (K1.out.on hb1); obtain ⟨c0, c1, c2, c3⟩ := K2.out.y))
    | (go_at_call 29; ((with_reducible refine (HG.out _ K2.out.b).mono ?_); rintro e w2 ⟨rfl, hb2⟩; have K3 := Lib.hid (K2.out.on hb2); obtain ⟨c0, c1, c2, c3⟩ := K3.out.y))
    | (go_at_call 31; ((with_reducible refine (X1.out _ K3.out).mono ?_); rintro e w3 ⟨v1, l1, d1, f1, rfl, hb3⟩; have K4 := Lib.hid (K3.out.on hb3); obtain ⟨c0, c1, c2, c3⟩ := K4.out.y))
    | (go_at_call 33; ((with_reducible refine (X2.out _ K4.out).mono ?_); rintro e w4 ⟨v2, l2, d2, f2, rfl, hb4⟩; have K5 := Lib.hid (K4.out.on hb4); obtain ⟨c0, c1, c2, c3⟩ := K5.out.y))
    | (go_at_call 37; ((with_reducible refine (HW.out _ K5.out).mono ?_); rintro e w5 ⟨rfl, hb5⟩; have K6 := Lib.hid (K5.out.on hb5); obtain ⟨c0, c1, c2, c3⟩ := K6.out.y)))
      go_ret
      exact ⟨rfl, K6.out.b⟩
    have hm0 : ¬ M = 0 := by omega
    obtain ⟨D, hD⟩ : ∃ D, Int.tdiv 256 M = D := ⟨_, rfl⟩
    rw [hD] at hx hD1
    have hwD : wrap64 D = D := w64k ⟨by omega, by omega⟩
    by_cases h5 : D ≤ n
    · clear hx
      go_enter Tryd.func12, Tryd.ntmps12
      go_wp2_with (first
    | (go_at_call 36; ((with_reducible refine (HA.out).mono ?_); rintro e w1 ⟨rfl, hb1⟩; have K2 := Lib.hid (K1.out.on hb1); obtain ⟨c0, c1, c2, c3⟩ := K2.out.y))
    | (go_at_call 29; ((with_reducible refine (HG.out _ K2.out.b).mono ?_); rintro e w2 ⟨rfl, hb2⟩; have K3 := Lib.hid (K2.out.on hb2); obtain ⟨c0, c1, c2, c3⟩ := K3.out.y))
    | (go_at_call 31; ((with_reducible refine (X1.out _ K3.out).mono ?_); rintro e w3 ⟨v1, l1, d1, f1, rfl, hb3⟩; have K4 := Lib.hid (K3.out.on hb3); obtain ⟨c0, c1, c2, c3⟩ := K4.out.y))
    | (go_at_call 33; ((with_reducible refine (X2.out _ K4.out).mono ?_); rintro e w4 ⟨v2, l2, d2, f2, rfl, hb4⟩; have K5 := Lib.hid (K4.out.on hb4); obtain ⟨c0, c1, c2, c3⟩ := K5.out.y))
    | (go_at_call 37; ((with_reducible refine (HW.out _ K5.out).mono ?_); rintro e w5 ⟨rfl, hb5⟩; have K6 := Lib.hid (K5.out.on hb5); obtain ⟨c0, c1, c2, c3⟩ := K6.out.y)))
      go_ret
      exact ⟨rfl, K6.out.b⟩
    have h5' : n < D := by omega
    have h6 : lz.length ≠ 256 := by omega
    have h6' : ((lz.length : Int) != 256) = true := by simp; omega
    clear hx h6
    go_enter Tryd.func12, Tryd.ntmps12
    go_wp2_with (first
    | (go_at_call 36; ((with_reducible refine (HA.out).mono ?_); rintro e w1 ⟨rfl, hb1⟩; have K2 := Lib.hid (K1.out.on hb1); obtain ⟨c0, c1, c2, c3⟩ := K2.out.y))
    | (go_at_call 29; ((with_reducible refine (HG.out _ K2.out.b).mono ?_); rintro e w2 ⟨rfl, hb2⟩; have K3 := Lib.hid (K2.out.on hb2); obtain ⟨c0, c1, c2, c3⟩ := K3.out.y))
    | (go_at_call 31; ((with_reducible refine (X1.out _ K3.out).mono ?_); rintro e w3 ⟨v1, l1, d1, f1, rfl, hb3⟩; have K4 := Lib.hid (K3.out.on hb3); obtain ⟨c0, c1, c2, c3⟩ := K4.out.y))
    | (go_at_call 33; ((with_reducible refine (X2.out _ K4.out).mono ?_); rintro e w4 ⟨v2, l2, d2, f2, rfl, hb4⟩; have K5 := Lib.hid (K4.out.on hb4); obtain ⟨c0, c1, c2, c3⟩ := K5.out.y))
    | (go_at_call 37; ((with_reducible refine (HW.out _ K5.out).mono ?_); rintro e w5 ⟨rfl, hb5⟩; have K6 := Lib.hid (K5.out.on hb5); obtain ⟨c0, c1, c2, c3⟩ := K6.out.y)))
    go_ret
    exact ⟨rfl, K6.out.b⟩
  · have hc1 : (c != 0) = true := by simpa using h1
    have hc2 : (c == 0) = false := by simpa using h1
    rw [if_neg h1] at HW
    clear hx
    go_enter Tryd.func12, Tryd.ntmps12
    go_wp2_with (first
    | (go_at_call 36; ((with_reducible refine (HA.out).mono ?_); rintro e w1 ⟨rfl, hb1⟩; have K2 := Lib.hid (K1.out.on hb1); obtain ⟨c0, c1, c2, c3⟩ := K2.out.y))
    | (go_at_call 29; ((with_reducible refine (HG.out _ K2.out.b).mono ?_); rintro e w2 ⟨rfl, hb2⟩; have K3 := Lib.hid (K2.out.on hb2); obtain ⟨c0, c1, c2, c3⟩ := K3.out.y))
    | (go_at_call 31; ((with_reducible refine (X1.out _ K3.out).mono ?_); rintro e w3 ⟨v1, l1, d1, f1, rfl, hb3⟩; have K4 := Lib.hid (K3.out.on hb3); obtain ⟨c0, c1, c2, c3⟩ := K4.out.y))
    | (go_at_call 33; ((with_reducible refine (X2.out _ K4.out).mono ?_); rintro e w4 ⟨v2, l2, d2, f2, rfl, hb4⟩; have K5 := Lib.hid (K4.out.on hb4); obtain ⟨c0, c1, c2, c3⟩ := K5.out.y))
    | (go_at_call 37; ((with_reducible refine (HW.out _ K5.out).mono ?_); rintro e w5 ⟨rfl, hb5⟩; have K6 := Lib.hid (K5.out.on hb5); obtain ⟨c0, c1, c2, c3⟩ := K6.out.y)))
    go_ret
    exact ⟨rfl, K6.out.b⟩

/-! ### The numbers -/
theorem near_nought {s : Int} (hs : 0 ≤ s) : Fx.NQ 0 s = 0 := by
  have h : Fx.NearS 0 s 0 := by
    unfold Fx.NearS Fx.Near
    rw [if_neg (by omega)]
    have a := Fx.ln_zero hs
    have b := (Fx.ln_bd (q := 1) hs (by omega)).1
    refine ⟨by omega, by omega, .inr ?_, .inl rfl⟩
    rw [show (0 : Int) + 1 = 1 by omega]; omega
  exact Fx.nearS_one hs (Fx.NQ_is 0 s) h
theorem own_fl {c : Prop} (h : c) {X T : Int} (t0 : 0 ≤ T) (t1 : T ≤ 255) (x0 : -8191 ≤ X) (x1 : X ≤ 8191) : Fx.FL X T = st c Fx.FL X T ∧ Fx.EL X T = 0 := by
  obtain ⟨a, b⟩ := Fx.FL_ok (q := X) (s := T) (by unfold Fx.badL; omega)
  rw [a, b, st_fl h t0 t1 x0 x1]
  exact ⟨rfl, rfl⟩
theorem own_fq {c : Prop} (h : c) {X T : Int} (t0 : 0 ≤ T) (t1 : T ≤ 255) (x0 : -268435455 ≤ X) (x1 : X ≤ 268435455) : Fx.FQ X T = st c Fx.FQ X T ∧ Fx.EQ X T = 0 := by
  obtain ⟨a, b⟩ := Fx.FQ_ok (q := X) (s := T) (by unfold Fx.badQ; omega)
  refine ⟨?_, b⟩
  by_cases hx : X = 0
  · subst hx; rw [st_zero, a, near_nought t0]
  · rw [st_fq h t0 t1 x0 x1 hx, a]
theorem tdl (s : Int) : Int.tdiv 256 (win s) = (LN s : Nat) := by unfold win LN; split <;> rfl
theorem ln_in (s : Int) : LN s = 32 ∨ LN s = 256 := by unfold LN; split <;> simp
theorem wn_in (s : Int) : WN s = 8 ∨ WN s = 1 := by unfold WN; split <;> simp

set_option maxRecDepth 100000 in
set_option maxHeartbeats 4000000 in
/-- What is asked is refused. -/
theorem refused (r s h m : Int) (ga : Option Addr) (gc : Nat) (gz : List Int) (O P A : Option Addr) (oc pc lc : Nat) (B S : List (List Int)) (lz : List Int) (x n : Int) (w : World) (hT : Tb w) (hqs : Fx.Qs w) (hgl : gz.length ≤ maxLen) (hB : B.length ≤ maxLen) (hS : S.length ≤ maxLen) (hL : lz.length ≤ maxLen) (hBr : ∀ i, i < B.length → (B.getD i []).length ≤ maxLen) (hSr : ∀ i, i < S.length → (S.getD i []).length ≤ maxLen) (rg : RdA w ga gz) (rB : RdR w O B) (rS : RdR w P S) (rl : RdA w A lz) (hgr : grt gz.length B S lz.length = false) (hc : chk 11 s h m gz = 0) (x0 : 0 ≤ x) (x1 : x < win s) (n0 : 0 ≤ n) (n1 : n < Int.tdiv 256 (win s)) (hl : lz.length = 256) (hf : ¬ Fine r s h m gz B S lz 268435455) :
    Calls Tryd.prog 12 #[.int .i64 r, .agg #[.int .u8 s, .int .u8 h, .int .i64 m, .slice ga gz.length gc], .slice O B.length oc, .slice P S.length pc, .slice A lz.length lc, .int .i64 x, .int .i64 n] w fun e w' => e = .returned (.bool true) ∧ Below w.heap.size w w' := by
  have HB := Lib.hid (box_below w (.cells #[.int .u8 s, .int .u8 h, .int .i64 m, .slice ga gz.length gc] 50))
  obtain ⟨y0, y1, y2, y3⟩ := boxed w s h m (.slice ga gz.length gc) _ (Below.refl _ _)
  obtain ⟨g1, g2, g3, g4⟩ := grt_no hgr
  have HA := Lib.hid (alive36 _ (hT.below HB.out))
  have HG := Lib.hid (fun W (hW : Below w.heap.size w W) => great_ok s h m ga gc gz O P A oc pc lc lz.length B S W hgl hB hS hL hBr hSr (rB.below hW) (rS.below hW))
  rw [hgr] at HG
  have I : Inp w ga gz O P B S := ⟨g1, g2, g3, hBr, hSr, rg, rB, rS⟩
  have K1 : Hid (K w ga gz O P A B S lz s h m gc (w.alloc (.cells #[.int .u8 s, .int .u8 h, .int .i64 m, .slice ga gz.length gc] 50))) := Lib.hid ⟨hqs.below HB.out, I.below HB.out, rl.below HB.out, HB.out, ⟨y0, y1, y2, y3⟩, by simp⟩
  have HW := Lib.hid (fun W (k : K w ga gz O P A B S lz s h m gc W) => windows_k s h m ga gc gz W (by omega) k.i.hg)
  have hf8 : ¬ Fine r s h m gz B S lz 8191 := fun f => hf ⟨f.1, f.2.1, fun j hj => by have := f.2.2 j hj; omega⟩
  have X1 := Lib.hid (fun W (k : K w ga gz O P A B S lz s h m gc W) => lines_err r s h m ga gc gz O P A oc pc lc B S lz W k.i g4 k.l hf8)
  have X2 := Lib.hid (fun W (k : K w ga gz O P A B S lz s h m gc W) => quant_err r s h m ga gc gz O P A oc pc lc B S lz W k.i g4 k.l hf)
  have X3 : Hid (∀ W, Calls Tryd.prog 38 #[.int .i64 r, .bool (s == 2), .int .i64 n] W fun e w' => ∃ b c, e = .returned (.tuple #[.int .i64 b, .int .i64 c]) ∧ Below W.heap.size W w') := Lib.hid fun W => by
    by_cases hr : r < 0 ∨ 11 < r
    · exact (of_bad r n (s == 2) W hr).mono fun e w' ⟨⟨c, he⟩, hb⟩ => ⟨_, _, he, hb⟩
    · exact (of_in r n (s == 2) W (by omega) (by omega) n0 (by rw [ln_nof, ← tdl]; exact n1)).mono fun e w' ⟨b, he, _, hb⟩ => ⟨_, _, he, hb⟩
  have X4 := Lib.hid (fun W (k : K w ga gz O P A B S lz s h m gc W) => group_ok s h m ga gc gz x W (by omega) k.i.hg hc x0 x1)
  rw [hc] at HW
  simp only [if_true] at HW
  have hD := tdw s
  have hW := win_bd s
  have hxD : 0 ≤ x * Int.tdiv 256 (win s) ∧ x * Int.tdiv 256 (win s) ≤ 2048 := by
    rw [tdl]; rw [wn_win] at x1
    rcases ln_in s with e | e <;> rcases wn_in s with e2 | e2 <;> rw [e] <;> rw [e2] at x1 <;> omega
  rw [hl] at HG X1 X2 ⊢
  clear hT hqs hBr hSr rg rB rS rl I y0 y1 y2 y3 g1 g2 g3 g4 hf hf8 hgr hc hl hL
  obtain ⟨y0, y1, y2, y3⟩ := K1.out.y
  obtain ⟨M, hM⟩ : ∃ M, win s = M := ⟨_, rfl⟩
  rw [hM] at HW hD hW hxD x1 n1
  clear hM
  obtain ⟨D, hDD⟩ : ∃ D, Int.tdiv 256 M = D := ⟨_, rfl⟩
  rw [hDD] at hD hxD n1
  have hwD : wrap64 D = D := w64k ⟨by omega, by omega⟩
  have hm0 : ¬ M = 0 := by omega
  obtain ⟨p, hp⟩ : ∃ p, x * D = p := ⟨_, rfl⟩
  rw [hp] at hxD
  have hwp : wrap64 p = p := w64k ⟨by omega, by omega⟩
  have hwpn : wrap64 (p + n) = p + n := w64k ⟨by omega, by omega⟩
  have h1 : ¬ x < 0 := by omega
  have h2 : ¬ M ≤ x := by omega
  have h3 : ¬ n < 0 := by omega
  have h4 : ¬ D ≤ n := by omega
  go_enter Tryd.func12, Tryd.ntmps12
  go_wp2_with (first
    | (go_at_call 36; ((with_reducible refine (HA.out).mono ?_); rintro e w1 ⟨rfl, hb1⟩; have K2 := Lib.hid (K1.out.on hb1); obtain ⟨c0, c1, c2, c3⟩ := K2.out.y))
    | (go_at_call 29; ((with_reducible refine (HG.out _ K2.out.b).mono ?_); rintro e w2 ⟨rfl, hb2⟩; have K3 := Lib.hid (K2.out.on hb2); obtain ⟨c0, c1, c2, c3⟩ := K3.out.y))
    | (go_at_call 31; ((with_reducible refine (X1.out _ K3.out).mono ?_); rintro e w3 ⟨f1, hf1, rfl, hb3⟩; have hf1' : (f1 != 0) = true := (by simpa using hf1); have hf1'' : (f1 == 0) = false := (by simpa using hf1); have K4 := Lib.hid (K3.out.on hb3); obtain ⟨c0, c1, c2, c3⟩ := K4.out.y))
    | (go_at_call 33; ((with_reducible refine (X2.out _ K4.out).mono ?_); rintro e w4 ⟨f2, hf2, rfl, hb4⟩; have hf2' : (f2 != 0) = true := (by simpa using hf2); have hf2'' : (f2 == 0) = false := (by simpa using hf2); have K5 := Lib.hid (K4.out.on hb4); obtain ⟨c0, c1, c2, c3⟩ := K5.out.y))
    | (go_at_call 37; ((with_reducible refine (HW.out _ K5.out).mono ?_); rintro e w5 ⟨rfl, hb5⟩; have K6 := Lib.hid (K5.out.on hb5); obtain ⟨c0, c1, c2, c3⟩ := K6.out.y))
    | (go_at_call 38; ((with_reducible refine (X3.out _).mono ?_); rintro e w6 ⟨b6, d6, rfl, hb6⟩; have K7 := Lib.hid (K6.out.on hb6); obtain ⟨c0, c1, c2, c3⟩ := K7.out.y))
    | (go_at_call 39; ((with_reducible refine (X4.out _ K7.out).mono ?_); rintro e w7 ⟨rfl, hb7⟩; have K8 := Lib.hid (K7.out.on hb7); obtain ⟨c0, c1, c2, c3⟩ := K8.out.y)))
  go_ret
  exact ⟨rfl, K8.out.b⟩

set_option maxRecDepth 100000 in
set_option maxHeartbeats 8000000 in
theorem own_gn (r s h m : Int) (ga : Option Addr) (gc : Nat) (gz : List Int) (O P A : Option Addr) (oc pc lc : Nat) (B S : List (List Int)) (lz : List Int) (x n : Int) (w : World) (hT : Tb w) (hqs : Fx.Qs w) (hgl : gz.length ≤ maxLen) (hB : B.length ≤ maxLen) (hS : S.length ≤ maxLen) (hL : lz.length ≤ maxLen) (hBr : ∀ i, i < B.length → (B.getD i []).length ≤ maxLen) (hSr : ∀ i, i < S.length → (S.getD i []).length ≤ maxLen) (rg : RdA w ga gz) (rB : RdR w O B) (rS : RdR w P S) (rl : RdA w A lz) (hgr : grt gz.length B S lz.length = false) (hc : chk 11 s h m gz = 0) (i j k : Nat) (ex : x = (i : Int)) (en : n = (j : Int)) (hi : i < WN s) (hj : j < LN s) (hk : k = i * LN s + j) (hl : lz.length = 256) (hf : Fine r s h m gz B S lz 268435455) (hf8 : Fine r s h m gz B S lz 8191) (hm : ¬ (bk r s k : Int) < m) :
    Calls Tryd.prog 12 #[.int .i64 r, .agg #[.int .u8 s, .int .u8 h, .int .i64 m, .slice ga gz.length gc], .slice O B.length oc, .slice P S.length pc, .slice A lz.length lc, .int .i64 x, .int .i64 n] w fun e w' => e = .returned (.bool true) ∧ Below w.heap.size w w' := by
  have HB := Lib.hid (box_below w (.cells #[.int .u8 s, .int .u8 h, .int .i64 m, .slice ga gz.length gc] 50))
  obtain ⟨y0, y1, y2, y3⟩ := boxed w s h m (.slice ga gz.length gc) _ (Below.refl _ _)
  obtain ⟨g1, g2, g3, g4⟩ := grt_no hgr
  have HA := Lib.hid (alive36 _ (hT.below HB.out))
  have HG := Lib.hid (fun W (hW : Below w.heap.size w W) => great_ok s h m ga gc gz O P A oc pc lc lz.length B S W hgl hB hS hL hBr hSr (rB.below hW) (rS.below hW))
  rw [hgr] at HG
  have I : Inp w ga gz O P B S := ⟨g1, g2, g3, hBr, hSr, rg, rB, rS⟩
  have K1 : Hid (K w ga gz O P A B S lz s h m gc (w.alloc (.cells #[.int .u8 s, .int .u8 h, .int .i64 m, .slice ga gz.length gc] 50))) := Lib.hid ⟨hqs.below HB.out, I.below HB.out, rl.below HB.out, HB.out, ⟨y0, y1, y2, y3⟩, by simp⟩
  have HW := Lib.hid (fun W (k : K w ga gz O P A B S lz s h m gc W) => windows_k s h m ga gc gz W (by omega) k.i.hg)
  have hq := hf.1
  obtain ⟨hck, hBl, hSl, hBm, hSm, hnb⟩ := qe_zero hq
  obtain ⟨r0, r1⟩ := chk_rate hck
  have hk256 : k < 256 := by
    have e := ln_wn s
    have : (i + 1) * LN s ≤ WN s * LN s := Nat.mul_le_mul_right _ hi
    rw [Nat.add_mul, e] at this
    omega
  have hkm : k % LN s = j := by rw [hk, Nat.add_comm, Nat.add_mul_mod_self_right]; exact Nat.mod_eq_of_lt hj
  have hkd : k / LN s = i := by rw [hk, Nat.add_comm, Nat.add_mul_div_right _ _ (by have := ln_in s; omega), Nat.div_eq_of_lt hj]; omega
  have hgl2 := gk_lt hck hk256
  have hgB : gk s gz k < B.length := by omega
  have hgS : gk s gz k < S.length := by omega
  have hrB := hBm _ hgB
  have hrS := hSm _ hgS
  have hin := hf.2.2 k hk256
  have hin8 := hf8.2.2 k hk256
  have X1 : Hid (∀ W, K w ga gz O P A B S lz s h m gc W → Calls Tryd.prog 31 #[.int .i64 r, .agg #[.int .u8 s, .int .u8 h, .int .i64 m, .slice ga gz.length gc], .slice O B.length oc, .slice P S.length pc, .slice A lz.length lc] W fun e w' => Ansr W w' e (QV r s m gz B S lz Fx.FL)) := Lib.hid fun W k => lines_good r s h m ga gc gz O P A oc pc lc B S lz W k.q k.i k.l hf8
  have X2 : Hid (∀ W, K w ga gz O P A B S lz s h m gc W → Calls Tryd.prog 33 #[.int .i64 r, .agg #[.int .u8 s, .int .u8 h, .int .i64 m, .slice ga gz.length gc], .slice O B.length oc, .slice P S.length pc, .slice A lz.length lc] W fun e w' => Ansr W w' e (QV r s m gz B S lz Fx.FQ)) := Lib.hid fun W k => quant_good r s h m ga gc gz O P A oc pc lc B S lz W k.q k.i k.l hf
  have X3 : Hid (∀ W, Calls Tryd.prog 38 #[.int .i64 r, .bool (s == 2), .int .i64 n] W fun e w' => e = .returned (.tuple #[.int .i64 (bk r s k : Nat), .int .i64 0]) ∧ Below W.heap.size W w') := Lib.hid fun W => by
    refine (of_in r n (s == 2) W r0 r1 (by omega) (by rw [ln_nof]; omega)).mono fun e w' ⟨b, he, hb, hw⟩ => ⟨?_, hw⟩
    rw [he, bk_eq (k := k) r0 r1 (by rw [hkm, ← en]; exact hb)]
  have X4 : Hid (∀ W, K w ga gz O P A B S lz s h m gc W → Calls Tryd.prog 39 #[.agg #[.int .u8 s, .int .u8 h, .int .i64 m, .slice ga gz.length gc], .int .i64 x] W fun e w' => e = .returned (.tuple #[.int .i64 (gk s gz k : Nat), .int .i64 0]) ∧ Below W.heap.size W w') := Lib.hid fun W k' => by
    have := group_ok s h m ga gc gz x W (by omega) k'.i.hg hc (by omega) (by rw [wn_win]; omega)
    unfold gk; rw [hkd, ← ex]; exact this
  have eL := qv_st r s m gz B S lz Fx.FL k
  have eQ := qv_st r s m gz B S lz Fx.FQ k
  rw [hc] at HW
  simp only [if_true] at HW
  have hlnw := ln_in s
  have hwnw := wn_in s
  have hxk : x * Int.tdiv 256 (win s) + n = (k : Int) ∧ 0 ≤ x * Int.tdiv 256 (win s) ∧ x * Int.tdiv 256 (win s) ≤ 2048 := by
    rw [tdl, ex, en, hk]
    rcases hlnw with e | e <;> rw [e] at hj ⊢ <;> rcases hwnw with e2 | e2 <;> rw [e2] at hi <;> omega
  have hD := tdw s
  have hM1 := win_bd s
  have hwin : x < win s := by rw [wn_win]; omega
  have hnd : n < Int.tdiv 256 (win s) := by rw [tdl]; omega
  have hx0 : 0 ≤ x := by omega
  have hn0 : 0 ≤ n := by omega

  obtain ⟨ab, ao, eA, lab, cA0⟩ := rl k (by omega)
  subst eA
  rw [hl] at HG X1 X2 ⊢
  clear cA0
  have hcn : ¬ Cn r s m gz B k := fun c => hm c.1
  rw [st_not hcn] at eL eQ
  clear hcn hrB hrS
  clear hT hqs hBr hSr rg rB rS rl I y0 y1 y2 y3 g1 g2 g3 g4 hf hf8 hgr hc hq hnb hl hL hB hS hgl hck hBl hSl hBm hSm hkm hkd hgl2 hk ex en hi hj hlnw hwnw
  obtain ⟨y0, y1, y2, y3⟩ := K1.out.y
  obtain ⟨M, hM⟩ : ∃ M, win s = M := ⟨_, rfl⟩
  rw [hM] at HW hD hM1 hxk hwin hnd
  clear hM
  obtain ⟨D, hDD⟩ : ∃ D, Int.tdiv 256 M = D := ⟨_, rfl⟩
  rw [hDD] at hD hxk hnd
  have hwD : wrap64 D = D := w64k ⟨by omega, by omega⟩
  have hm0 : ¬ M = 0 := by omega
  obtain ⟨p, hp⟩ : ∃ p, x * D = p := ⟨_, rfl⟩
  rw [hp] at hxk
  have hwp : wrap64 p = p := w64k ⟨by omega, by omega⟩
  have hwpn : wrap64 (p + n) = (k : Int) := by rw [w64k ⟨by omega, by omega⟩]; omega
  have h1 : ¬ x < 0 := by omega
  have h2 : ¬ M ≤ x := by omega
  have h3 : ¬ n < 0 := by omega
  have h4 : ¬ D ≤ n := by omega
  have h5 : (k : Int) < 256 := by omega
  have h6 : ((gk s gz k : Nat) : Int) < (B.length : Int) := by omega
  have h7 : ((gk s gz k : Nat) : Int) < (S.length : Int) := by omega
  generalize gk s gz k = g' at *
  generalize bk r s k = b' at *
  clear hxk
  go_enter Tryd.func12, Tryd.ntmps12
  go_wp2_with (first
    | (go_at_call 36; ((with_reducible refine (HA.out).mono ?_); rintro e w1 ⟨rfl, hb1⟩; have K2 := Lib.hid (K1.out.on hb1); obtain ⟨c0, c1, c2, c3⟩ := K2.out.y))
    | (go_at_call 29; ((with_reducible refine (HG.out _ K2.out.b).mono ?_); rintro e w2 ⟨rfl, hb2⟩; have K3 := Lib.hid (K2.out.on hb2); obtain ⟨c0, c1, c2, c3⟩ := K3.out.y))
    | (go_at_call 31; ((with_reducible refine (X1.out _ K3.out).mono ?_); rintro e w3 ⟨p1, rfl, hr1, _, hb3⟩; have R1 := Lib.hid hr1; clear hr1; have K4 := Lib.hid (K3.out.on hb3); obtain ⟨c0, c1, c2, c3⟩ := K4.out.y))
    | (go_at_call 33; ((with_reducible refine (X2.out _ K4.out).mono ?_); rintro e w4 ⟨p2, rfl, hr2, _, hb4⟩; have R2 := Lib.hid hr2; clear hr2; have z4 := Lib.hid hb4; have K5 := Lib.hid (K4.out.on hb4); obtain ⟨c0, c1, c2, c3⟩ := K5.out.y))
    | (go_at_call 37; ((with_reducible refine (HW.out _ K5.out).mono ?_); rintro e w5 ⟨rfl, hb5⟩; have z5 := Lib.hid (belowT z4.out hb5); have y5 := Lib.hid hb5; have K6 := Lib.hid (K5.out.on hb5); obtain ⟨c0, c1, c2, c3⟩ := K6.out.y))
    | (go_at_call 38; ((with_reducible refine (X3.out _).mono ?_); rintro e w6 ⟨rfl, hb6⟩; have z6 := Lib.hid (belowT z5.out hb6); have y6 := Lib.hid (belowT y5.out hb6); have K7 := Lib.hid (K6.out.on hb6); obtain ⟨c0, c1, c2, c3⟩ := K7.out.y))
    | (go_at_call 39; ((with_reducible refine (X4.out _ K7.out).mono ?_); rintro e w7 ⟨rfl, hb7⟩; have z7 := Lib.hid (belowT z6.out hb7); have y7 := Lib.hid (belowT y6.out hb7); have K8 := Lib.hid (K7.out.on hb7); obtain ⟨c0, c1, c2, c3⟩ := K8.out.y; have a7 := (row_on R1.out z7.out).cell (i := k) (by omega); have q7 := (row_on R2.out y7.out).cell (i := k) (by omega); rw [eQ] at q7; rw [eL] at a7)))
  go_ret
  exact ⟨rfl, K8.out.b⟩

set_option maxRecDepth 100000 in
set_option maxHeartbeats 8000000 in
theorem own_gl (r s h m : Int) (ga : Option Addr) (gc : Nat) (gz : List Int) (O P A : Option Addr) (oc pc lc : Nat) (B S : List (List Int)) (lz : List Int) (x n : Int) (w : World) (hT : Tb w) (hqs : Fx.Qs w) (hgl : gz.length ≤ maxLen) (hB : B.length ≤ maxLen) (hS : S.length ≤ maxLen) (hL : lz.length ≤ maxLen) (hBr : ∀ i, i < B.length → (B.getD i []).length ≤ maxLen) (hSr : ∀ i, i < S.length → (S.getD i []).length ≤ maxLen) (rg : RdA w ga gz) (rB : RdR w O B) (rS : RdR w P S) (rl : RdA w A lz) (hgr : grt gz.length B S lz.length = false) (hc : chk 11 s h m gz = 0) (i j k : Nat) (ex : x = (i : Int)) (en : n = (j : Int)) (hi : i < WN s) (hj : j < LN s) (hk : k = i * LN s + j) (hl : lz.length = 256) (hf : Fine r s h m gz B S lz 268435455) (hf8 : Fine r s h m gz B S lz 8191) (hm : (bk r s k : Int) < m) (hs : (B.getD (gk s gz k) []).getD (bk r s k) 0 < 1) :
    Calls Tryd.prog 12 #[.int .i64 r, .agg #[.int .u8 s, .int .u8 h, .int .i64 m, .slice ga gz.length gc], .slice O B.length oc, .slice P S.length pc, .slice A lz.length lc, .int .i64 x, .int .i64 n] w fun e w' => e = .returned (.bool true) ∧ Below w.heap.size w w' := by
  have HB := Lib.hid (box_below w (.cells #[.int .u8 s, .int .u8 h, .int .i64 m, .slice ga gz.length gc] 50))
  obtain ⟨y0, y1, y2, y3⟩ := boxed w s h m (.slice ga gz.length gc) _ (Below.refl _ _)
  obtain ⟨g1, g2, g3, g4⟩ := grt_no hgr
  have HA := Lib.hid (alive36 _ (hT.below HB.out))
  have HG := Lib.hid (fun W (hW : Below w.heap.size w W) => great_ok s h m ga gc gz O P A oc pc lc lz.length B S W hgl hB hS hL hBr hSr (rB.below hW) (rS.below hW))
  rw [hgr] at HG
  have I : Inp w ga gz O P B S := ⟨g1, g2, g3, hBr, hSr, rg, rB, rS⟩
  have K1 : Hid (K w ga gz O P A B S lz s h m gc (w.alloc (.cells #[.int .u8 s, .int .u8 h, .int .i64 m, .slice ga gz.length gc] 50))) := Lib.hid ⟨hqs.below HB.out, I.below HB.out, rl.below HB.out, HB.out, ⟨y0, y1, y2, y3⟩, by simp⟩
  have HW := Lib.hid (fun W (k : K w ga gz O P A B S lz s h m gc W) => windows_k s h m ga gc gz W (by omega) k.i.hg)
  have hq := hf.1
  obtain ⟨hck, hBl, hSl, hBm, hSm, hnb⟩ := qe_zero hq
  obtain ⟨r0, r1⟩ := chk_rate hck
  have hk256 : k < 256 := by
    have e := ln_wn s
    have : (i + 1) * LN s ≤ WN s * LN s := Nat.mul_le_mul_right _ hi
    rw [Nat.add_mul, e] at this
    omega
  have hkm : k % LN s = j := by rw [hk, Nat.add_comm, Nat.add_mul_mod_self_right]; exact Nat.mod_eq_of_lt hj
  have hkd : k / LN s = i := by rw [hk, Nat.add_comm, Nat.add_mul_div_right _ _ (by have := ln_in s; omega), Nat.div_eq_of_lt hj]; omega
  have hgl2 := gk_lt hck hk256
  have hgB : gk s gz k < B.length := by omega
  have hgS : gk s gz k < S.length := by omega
  have hrB := hBm _ hgB
  have hrS := hSm _ hgS
  have hin := hf.2.2 k hk256
  have hin8 := hf8.2.2 k hk256
  have X1 : Hid (∀ W, K w ga gz O P A B S lz s h m gc W → Calls Tryd.prog 31 #[.int .i64 r, .agg #[.int .u8 s, .int .u8 h, .int .i64 m, .slice ga gz.length gc], .slice O B.length oc, .slice P S.length pc, .slice A lz.length lc] W fun e w' => Ansr W w' e (QV r s m gz B S lz Fx.FL)) := Lib.hid fun W k => lines_good r s h m ga gc gz O P A oc pc lc B S lz W k.q k.i k.l hf8
  have X2 : Hid (∀ W, K w ga gz O P A B S lz s h m gc W → Calls Tryd.prog 33 #[.int .i64 r, .agg #[.int .u8 s, .int .u8 h, .int .i64 m, .slice ga gz.length gc], .slice O B.length oc, .slice P S.length pc, .slice A lz.length lc] W fun e w' => Ansr W w' e (QV r s m gz B S lz Fx.FQ)) := Lib.hid fun W k => quant_good r s h m ga gc gz O P A oc pc lc B S lz W k.q k.i k.l hf
  have X3 : Hid (∀ W, Calls Tryd.prog 38 #[.int .i64 r, .bool (s == 2), .int .i64 n] W fun e w' => e = .returned (.tuple #[.int .i64 (bk r s k : Nat), .int .i64 0]) ∧ Below W.heap.size W w') := Lib.hid fun W => by
    refine (of_in r n (s == 2) W r0 r1 (by omega) (by rw [ln_nof]; omega)).mono fun e w' ⟨b, he, hb, hw⟩ => ⟨?_, hw⟩
    rw [he, bk_eq (k := k) r0 r1 (by rw [hkm, ← en]; exact hb)]
  have X4 : Hid (∀ W, K w ga gz O P A B S lz s h m gc W → Calls Tryd.prog 39 #[.agg #[.int .u8 s, .int .u8 h, .int .i64 m, .slice ga gz.length gc], .int .i64 x] W fun e w' => e = .returned (.tuple #[.int .i64 (gk s gz k : Nat), .int .i64 0]) ∧ Below W.heap.size W w') := Lib.hid fun W k' => by
    have := group_ok s h m ga gc gz x W (by omega) k'.i.hg hc (by omega) (by rw [wn_win]; omega)
    unfold gk; rw [hkd, ← ex]; exact this
  have eL := qv_st r s m gz B S lz Fx.FL k
  have eQ := qv_st r s m gz B S lz Fx.FQ k
  rw [hc] at HW
  simp only [if_true] at HW
  have hlnw := ln_in s
  have hwnw := wn_in s
  have hxk : x * Int.tdiv 256 (win s) + n = (k : Int) ∧ 0 ≤ x * Int.tdiv 256 (win s) ∧ x * Int.tdiv 256 (win s) ≤ 2048 := by
    rw [tdl, ex, en, hk]
    rcases hlnw with e | e <;> rw [e] at hj ⊢ <;> rcases hwnw with e2 | e2 <;> rw [e2] at hi <;> omega
  have hD := tdw s
  have hM1 := win_bd s
  have hwin : x < win s := by rw [wn_win]; omega
  have hnd : n < Int.tdiv 256 (win s) := by rw [tdl]; omega
  have hx0 : 0 ≤ x := by omega
  have hn0 : 0 ≤ n := by omega

  obtain ⟨ab, ao, eA, lab, cA0⟩ := rl k (by omega)
  subst eA
  rw [hl] at HG X1 X2 ⊢
  obtain ⟨bb, bo, ba, bc, eO, lbb, cR0, rdB⟩ := rB _ hgB
  subst eO
  obtain ⟨b2, o2, rfl, lb2, cV0⟩ := rdB _ (show bk r s k < (B.getD (gk s gz k) []).length by omega)
  have hm1 := hBr _ hgB
  obtain ⟨sb, so, sa, sc, eP, lsb, cS0, rdS⟩ := rS _ hgS
  subst eP
  obtain ⟨s2b, s2o, rfl, ls2, cT0⟩ := rdS _ (show bk r s k < (S.getD (gk s gz k) []).length by omega)
  have hm2 := hSr _ hgS
  have HC : Hid (∀ W, Below w.heap.size w W → W.cell? ⟨bb, bo + gk s gz k, none⟩ = some (.slice (some ⟨b2, o2, none⟩) (B.getD (gk s gz k) []).length bc) ∧ W.cell? ⟨b2, o2 + bk r s k, none⟩ = some (.int .i64 ((B.getD (gk s gz k) []).getD (bk r s k) 0)) ∧ W.cell? ⟨sb, so + gk s gz k, none⟩ = some (.slice (some ⟨s2b, s2o, none⟩) (S.getD (gk s gz k) []).length sc) ∧ W.cell? ⟨s2b, s2o + bk r s k, none⟩ = some (.int .i64 (stp r s gz S k)) ∧ W.cell? ⟨ab, ao + k, none⟩ = some (.int .i64 (lz.getD k 0))) := Lib.hid fun W hW =>
    ⟨(hW.cell (p := ⟨bb, bo + gk s gz k, none⟩) lbb).trans cR0, (hW.cell (p := ⟨b2, o2 + bk r s k, none⟩) lb2).trans cV0, (hW.cell (p := ⟨sb, so + gk s gz k, none⟩) lsb).trans cS0, (hW.cell (p := ⟨s2b, s2o + bk r s k, none⟩) ls2).trans cT0, (hW.cell (p := ⟨ab, ao + k, none⟩) lab).trans cA0⟩
  have hbl : ((bk r s k : Nat) : Int) < ((B.getD (gk s gz k) []).length : Int) := by omega
  have hsl : ((bk r s k : Nat) : Int) < ((S.getD (gk s gz k) []).length : Int) := by omega
  clear rdB rdS cR0 cV0 cS0 cT0 cA0
  have hcn : ¬ Cn r s m gz B k := fun c => by
    have := c.2
    simp only [snt, Bool.and_eq_true, decide_eq_true_eq] at this
    omega
  rw [st_not hcn] at eL eQ
  clear hcn
  generalize (B.getD (gk s gz k) []).getD (bk r s k) 0 = V at *
  generalize (B.getD (gk s gz k) []).length = Lb at *
  generalize (S.getD (gk s gz k) []).length = Ls at *
  clear hrB hrS
  clear hT hqs hBr hSr rg rB rS rl I y0 y1 y2 y3 g1 g2 g3 g4 hf hf8 hgr hc hq hnb hl hL hB hS hgl hck hBl hSl hBm hSm hkm hkd hgl2 hk ex en hi hj hlnw hwnw
  obtain ⟨y0, y1, y2, y3⟩ := K1.out.y
  obtain ⟨M, hM⟩ : ∃ M, win s = M := ⟨_, rfl⟩
  rw [hM] at HW hD hM1 hxk hwin hnd
  clear hM
  obtain ⟨D, hDD⟩ : ∃ D, Int.tdiv 256 M = D := ⟨_, rfl⟩
  rw [hDD] at hD hxk hnd
  have hwD : wrap64 D = D := w64k ⟨by omega, by omega⟩
  have hm0 : ¬ M = 0 := by omega
  obtain ⟨p, hp⟩ : ∃ p, x * D = p := ⟨_, rfl⟩
  rw [hp] at hxk
  have hwp : wrap64 p = p := w64k ⟨by omega, by omega⟩
  have hwpn : wrap64 (p + n) = (k : Int) := by rw [w64k ⟨by omega, by omega⟩]; omega
  have h1 : ¬ x < 0 := by omega
  have h2 : ¬ M ≤ x := by omega
  have h3 : ¬ n < 0 := by omega
  have h4 : ¬ D ≤ n := by omega
  have h5 : (k : Int) < 256 := by omega
  have h6 : ((gk s gz k : Nat) : Int) < (B.length : Int) := by omega
  have h7 : ((gk s gz k : Nat) : Int) < (S.length : Int) := by omega
  generalize gk s gz k = g' at *
  generalize bk r s k = b' at *
  clear hxk
  go_enter Tryd.func12, Tryd.ntmps12
  go_wp2_with (first
    | (go_at_call 36; ((with_reducible refine (HA.out).mono ?_); rintro e w1 ⟨rfl, hb1⟩; have K2 := Lib.hid (K1.out.on hb1); obtain ⟨c0, c1, c2, c3⟩ := K2.out.y))
    | (go_at_call 29; ((with_reducible refine (HG.out _ K2.out.b).mono ?_); rintro e w2 ⟨rfl, hb2⟩; have K3 := Lib.hid (K2.out.on hb2); obtain ⟨c0, c1, c2, c3⟩ := K3.out.y))
    | (go_at_call 31; ((with_reducible refine (X1.out _ K3.out).mono ?_); rintro e w3 ⟨p1, rfl, hr1, _, hb3⟩; have R1 := Lib.hid hr1; clear hr1; have K4 := Lib.hid (K3.out.on hb3); obtain ⟨c0, c1, c2, c3⟩ := K4.out.y))
    | (go_at_call 33; ((with_reducible refine (X2.out _ K4.out).mono ?_); rintro e w4 ⟨p2, rfl, hr2, _, hb4⟩; have R2 := Lib.hid hr2; clear hr2; have z4 := Lib.hid hb4; have K5 := Lib.hid (K4.out.on hb4); obtain ⟨c0, c1, c2, c3⟩ := K5.out.y))
    | (go_at_call 37; ((with_reducible refine (HW.out _ K5.out).mono ?_); rintro e w5 ⟨rfl, hb5⟩; have z5 := Lib.hid (belowT z4.out hb5); have y5 := Lib.hid hb5; have K6 := Lib.hid (K5.out.on hb5); obtain ⟨c0, c1, c2, c3⟩ := K6.out.y))
    | (go_at_call 38; ((with_reducible refine (X3.out _).mono ?_); rintro e w6 ⟨rfl, hb6⟩; have z6 := Lib.hid (belowT z5.out hb6); have y6 := Lib.hid (belowT y5.out hb6); have K7 := Lib.hid (K6.out.on hb6); obtain ⟨c0, c1, c2, c3⟩ := K7.out.y))
    | (go_at_call 39; ((with_reducible refine (X4.out _ K7.out).mono ?_); rintro e w7 ⟨rfl, hb7⟩; have z7 := Lib.hid (belowT z6.out hb7); have y7 := Lib.hid (belowT y6.out hb7); have K8 := Lib.hid (K7.out.on hb7); obtain ⟨c0, c1, c2, c3⟩ := K8.out.y; have a7 := (row_on R1.out z7.out).cell (i := k) (by omega); have q7 := (row_on R2.out y7.out).cell (i := k) (by omega); rw [eQ] at q7; rw [eL] at a7; obtain ⟨d1, d2, d3, d4, d5⟩ := HC.out _ K8.out.b)))
  go_ret
  exact ⟨rfl, K8.out.b⟩

set_option maxRecDepth 100000 in
set_option maxHeartbeats 8000000 in
theorem own_gu (r s h m : Int) (ga : Option Addr) (gc : Nat) (gz : List Int) (O P A : Option Addr) (oc pc lc : Nat) (B S : List (List Int)) (lz : List Int) (x n : Int) (w : World) (hT : Tb w) (hqs : Fx.Qs w) (hgl : gz.length ≤ maxLen) (hB : B.length ≤ maxLen) (hS : S.length ≤ maxLen) (hL : lz.length ≤ maxLen) (hBr : ∀ i, i < B.length → (B.getD i []).length ≤ maxLen) (hSr : ∀ i, i < S.length → (S.getD i []).length ≤ maxLen) (rg : RdA w ga gz) (rB : RdR w O B) (rS : RdR w P S) (rl : RdA w A lz) (hgr : grt gz.length B S lz.length = false) (hc : chk 11 s h m gz = 0) (i j k : Nat) (ex : x = (i : Int)) (en : n = (j : Int)) (hi : i < WN s) (hj : j < LN s) (hk : k = i * LN s + j) (hl : lz.length = 256) (hf : Fine r s h m gz B S lz 268435455) (hf8 : Fine r s h m gz B S lz 8191) (hm : (bk r s k : Int) < m) (hs : 11 < (B.getD (gk s gz k) []).getD (bk r s k) 0) :
    Calls Tryd.prog 12 #[.int .i64 r, .agg #[.int .u8 s, .int .u8 h, .int .i64 m, .slice ga gz.length gc], .slice O B.length oc, .slice P S.length pc, .slice A lz.length lc, .int .i64 x, .int .i64 n] w fun e w' => e = .returned (.bool true) ∧ Below w.heap.size w w' := by
  have HB := Lib.hid (box_below w (.cells #[.int .u8 s, .int .u8 h, .int .i64 m, .slice ga gz.length gc] 50))
  obtain ⟨y0, y1, y2, y3⟩ := boxed w s h m (.slice ga gz.length gc) _ (Below.refl _ _)
  obtain ⟨g1, g2, g3, g4⟩ := grt_no hgr
  have HA := Lib.hid (alive36 _ (hT.below HB.out))
  have HG := Lib.hid (fun W (hW : Below w.heap.size w W) => great_ok s h m ga gc gz O P A oc pc lc lz.length B S W hgl hB hS hL hBr hSr (rB.below hW) (rS.below hW))
  rw [hgr] at HG
  have I : Inp w ga gz O P B S := ⟨g1, g2, g3, hBr, hSr, rg, rB, rS⟩
  have K1 : Hid (K w ga gz O P A B S lz s h m gc (w.alloc (.cells #[.int .u8 s, .int .u8 h, .int .i64 m, .slice ga gz.length gc] 50))) := Lib.hid ⟨hqs.below HB.out, I.below HB.out, rl.below HB.out, HB.out, ⟨y0, y1, y2, y3⟩, by simp⟩
  have HW := Lib.hid (fun W (k : K w ga gz O P A B S lz s h m gc W) => windows_k s h m ga gc gz W (by omega) k.i.hg)
  have hq := hf.1
  obtain ⟨hck, hBl, hSl, hBm, hSm, hnb⟩ := qe_zero hq
  obtain ⟨r0, r1⟩ := chk_rate hck
  have hk256 : k < 256 := by
    have e := ln_wn s
    have : (i + 1) * LN s ≤ WN s * LN s := Nat.mul_le_mul_right _ hi
    rw [Nat.add_mul, e] at this
    omega
  have hkm : k % LN s = j := by rw [hk, Nat.add_comm, Nat.add_mul_mod_self_right]; exact Nat.mod_eq_of_lt hj
  have hkd : k / LN s = i := by rw [hk, Nat.add_comm, Nat.add_mul_div_right _ _ (by have := ln_in s; omega), Nat.div_eq_of_lt hj]; omega
  have hgl2 := gk_lt hck hk256
  have hgB : gk s gz k < B.length := by omega
  have hgS : gk s gz k < S.length := by omega
  have hrB := hBm _ hgB
  have hrS := hSm _ hgS
  have hin := hf.2.2 k hk256
  have hin8 := hf8.2.2 k hk256
  have X1 : Hid (∀ W, K w ga gz O P A B S lz s h m gc W → Calls Tryd.prog 31 #[.int .i64 r, .agg #[.int .u8 s, .int .u8 h, .int .i64 m, .slice ga gz.length gc], .slice O B.length oc, .slice P S.length pc, .slice A lz.length lc] W fun e w' => Ansr W w' e (QV r s m gz B S lz Fx.FL)) := Lib.hid fun W k => lines_good r s h m ga gc gz O P A oc pc lc B S lz W k.q k.i k.l hf8
  have X2 : Hid (∀ W, K w ga gz O P A B S lz s h m gc W → Calls Tryd.prog 33 #[.int .i64 r, .agg #[.int .u8 s, .int .u8 h, .int .i64 m, .slice ga gz.length gc], .slice O B.length oc, .slice P S.length pc, .slice A lz.length lc] W fun e w' => Ansr W w' e (QV r s m gz B S lz Fx.FQ)) := Lib.hid fun W k => quant_good r s h m ga gc gz O P A oc pc lc B S lz W k.q k.i k.l hf
  have X3 : Hid (∀ W, Calls Tryd.prog 38 #[.int .i64 r, .bool (s == 2), .int .i64 n] W fun e w' => e = .returned (.tuple #[.int .i64 (bk r s k : Nat), .int .i64 0]) ∧ Below W.heap.size W w') := Lib.hid fun W => by
    refine (of_in r n (s == 2) W r0 r1 (by omega) (by rw [ln_nof]; omega)).mono fun e w' ⟨b, he, hb, hw⟩ => ⟨?_, hw⟩
    rw [he, bk_eq (k := k) r0 r1 (by rw [hkm, ← en]; exact hb)]
  have X4 : Hid (∀ W, K w ga gz O P A B S lz s h m gc W → Calls Tryd.prog 39 #[.agg #[.int .u8 s, .int .u8 h, .int .i64 m, .slice ga gz.length gc], .int .i64 x] W fun e w' => e = .returned (.tuple #[.int .i64 (gk s gz k : Nat), .int .i64 0]) ∧ Below W.heap.size W w') := Lib.hid fun W k' => by
    have := group_ok s h m ga gc gz x W (by omega) k'.i.hg hc (by omega) (by rw [wn_win]; omega)
    unfold gk; rw [hkd, ← ex]; exact this
  have eL := qv_st r s m gz B S lz Fx.FL k
  have eQ := qv_st r s m gz B S lz Fx.FQ k
  rw [hc] at HW
  simp only [if_true] at HW
  have hlnw := ln_in s
  have hwnw := wn_in s
  have hxk : x * Int.tdiv 256 (win s) + n = (k : Int) ∧ 0 ≤ x * Int.tdiv 256 (win s) ∧ x * Int.tdiv 256 (win s) ≤ 2048 := by
    rw [tdl, ex, en, hk]
    rcases hlnw with e | e <;> rw [e] at hj ⊢ <;> rcases hwnw with e2 | e2 <;> rw [e2] at hi <;> omega
  have hD := tdw s
  have hM1 := win_bd s
  have hwin : x < win s := by rw [wn_win]; omega
  have hnd : n < Int.tdiv 256 (win s) := by rw [tdl]; omega
  have hx0 : 0 ≤ x := by omega
  have hn0 : 0 ≤ n := by omega

  obtain ⟨ab, ao, eA, lab, cA0⟩ := rl k (by omega)
  subst eA
  rw [hl] at HG X1 X2 ⊢
  obtain ⟨bb, bo, ba, bc, eO, lbb, cR0, rdB⟩ := rB _ hgB
  subst eO
  obtain ⟨b2, o2, rfl, lb2, cV0⟩ := rdB _ (show bk r s k < (B.getD (gk s gz k) []).length by omega)
  have hm1 := hBr _ hgB
  obtain ⟨sb, so, sa, sc, eP, lsb, cS0, rdS⟩ := rS _ hgS
  subst eP
  obtain ⟨s2b, s2o, rfl, ls2, cT0⟩ := rdS _ (show bk r s k < (S.getD (gk s gz k) []).length by omega)
  have hm2 := hSr _ hgS
  have HC : Hid (∀ W, Below w.heap.size w W → W.cell? ⟨bb, bo + gk s gz k, none⟩ = some (.slice (some ⟨b2, o2, none⟩) (B.getD (gk s gz k) []).length bc) ∧ W.cell? ⟨b2, o2 + bk r s k, none⟩ = some (.int .i64 ((B.getD (gk s gz k) []).getD (bk r s k) 0)) ∧ W.cell? ⟨sb, so + gk s gz k, none⟩ = some (.slice (some ⟨s2b, s2o, none⟩) (S.getD (gk s gz k) []).length sc) ∧ W.cell? ⟨s2b, s2o + bk r s k, none⟩ = some (.int .i64 (stp r s gz S k)) ∧ W.cell? ⟨ab, ao + k, none⟩ = some (.int .i64 (lz.getD k 0))) := Lib.hid fun W hW =>
    ⟨(hW.cell (p := ⟨bb, bo + gk s gz k, none⟩) lbb).trans cR0, (hW.cell (p := ⟨b2, o2 + bk r s k, none⟩) lb2).trans cV0, (hW.cell (p := ⟨sb, so + gk s gz k, none⟩) lsb).trans cS0, (hW.cell (p := ⟨s2b, s2o + bk r s k, none⟩) ls2).trans cT0, (hW.cell (p := ⟨ab, ao + k, none⟩) lab).trans cA0⟩
  have hbl : ((bk r s k : Nat) : Int) < ((B.getD (gk s gz k) []).length : Int) := by omega
  have hsl : ((bk r s k : Nat) : Int) < ((S.getD (gk s gz k) []).length : Int) := by omega
  clear rdB rdS cR0 cV0 cS0 cT0 cA0
  have hcn : ¬ Cn r s m gz B k := fun c => by
    have := c.2
    simp only [snt, Bool.and_eq_true, decide_eq_true_eq] at this
    omega
  rw [st_not hcn] at eL eQ
  clear hcn
  generalize (B.getD (gk s gz k) []).getD (bk r s k) 0 = V at *
  generalize (B.getD (gk s gz k) []).length = Lb at *
  generalize (S.getD (gk s gz k) []).length = Ls at *
  clear hrB hrS
  clear hT hqs hBr hSr rg rB rS rl I y0 y1 y2 y3 g1 g2 g3 g4 hf hf8 hgr hc hq hnb hl hL hB hS hgl hck hBl hSl hBm hSm hkm hkd hgl2 hk ex en hi hj hlnw hwnw
  obtain ⟨y0, y1, y2, y3⟩ := K1.out.y
  obtain ⟨M, hM⟩ : ∃ M, win s = M := ⟨_, rfl⟩
  rw [hM] at HW hD hM1 hxk hwin hnd
  clear hM
  obtain ⟨D, hDD⟩ : ∃ D, Int.tdiv 256 M = D := ⟨_, rfl⟩
  rw [hDD] at hD hxk hnd
  have hwD : wrap64 D = D := w64k ⟨by omega, by omega⟩
  have hm0 : ¬ M = 0 := by omega
  obtain ⟨p, hp⟩ : ∃ p, x * D = p := ⟨_, rfl⟩
  rw [hp] at hxk
  have hwp : wrap64 p = p := w64k ⟨by omega, by omega⟩
  have hwpn : wrap64 (p + n) = (k : Int) := by rw [w64k ⟨by omega, by omega⟩]; omega
  have h1 : ¬ x < 0 := by omega
  have h2 : ¬ M ≤ x := by omega
  have h3 : ¬ n < 0 := by omega
  have h4 : ¬ D ≤ n := by omega
  have h5 : (k : Int) < 256 := by omega
  have h6 : ((gk s gz k : Nat) : Int) < (B.length : Int) := by omega
  have h7 : ((gk s gz k : Nat) : Int) < (S.length : Int) := by omega
  generalize gk s gz k = g' at *
  generalize bk r s k = b' at *
  clear hxk
  go_enter Tryd.func12, Tryd.ntmps12
  go_wp2_with (first
    | (go_at_call 36; ((with_reducible refine (HA.out).mono ?_); rintro e w1 ⟨rfl, hb1⟩; have K2 := Lib.hid (K1.out.on hb1); obtain ⟨c0, c1, c2, c3⟩ := K2.out.y))
    | (go_at_call 29; ((with_reducible refine (HG.out _ K2.out.b).mono ?_); rintro e w2 ⟨rfl, hb2⟩; have K3 := Lib.hid (K2.out.on hb2); obtain ⟨c0, c1, c2, c3⟩ := K3.out.y))
    | (go_at_call 31; ((with_reducible refine (X1.out _ K3.out).mono ?_); rintro e w3 ⟨p1, rfl, hr1, _, hb3⟩; have R1 := Lib.hid hr1; clear hr1; have K4 := Lib.hid (K3.out.on hb3); obtain ⟨c0, c1, c2, c3⟩ := K4.out.y))
    | (go_at_call 33; ((with_reducible refine (X2.out _ K4.out).mono ?_); rintro e w4 ⟨p2, rfl, hr2, _, hb4⟩; have R2 := Lib.hid hr2; clear hr2; have z4 := Lib.hid hb4; have K5 := Lib.hid (K4.out.on hb4); obtain ⟨c0, c1, c2, c3⟩ := K5.out.y))
    | (go_at_call 37; ((with_reducible refine (HW.out _ K5.out).mono ?_); rintro e w5 ⟨rfl, hb5⟩; have z5 := Lib.hid (belowT z4.out hb5); have y5 := Lib.hid hb5; have K6 := Lib.hid (K5.out.on hb5); obtain ⟨c0, c1, c2, c3⟩ := K6.out.y))
    | (go_at_call 38; ((with_reducible refine (X3.out _).mono ?_); rintro e w6 ⟨rfl, hb6⟩; have z6 := Lib.hid (belowT z5.out hb6); have y6 := Lib.hid (belowT y5.out hb6); have K7 := Lib.hid (K6.out.on hb6); obtain ⟨c0, c1, c2, c3⟩ := K7.out.y))
    | (go_at_call 39; ((with_reducible refine (X4.out _ K7.out).mono ?_); rintro e w7 ⟨rfl, hb7⟩; have z7 := Lib.hid (belowT z6.out hb7); have y7 := Lib.hid (belowT y6.out hb7); have K8 := Lib.hid (K7.out.on hb7); obtain ⟨c0, c1, c2, c3⟩ := K8.out.y; have a7 := (row_on R1.out z7.out).cell (i := k) (by omega); have q7 := (row_on R2.out y7.out).cell (i := k) (by omega); rw [eQ] at q7; rw [eL] at a7; obtain ⟨d1, d2, d3, d4, d5⟩ := HC.out _ K8.out.b)))
  go_ret
  exact ⟨rfl, K8.out.b⟩

set_option maxRecDepth 100000 in
set_option maxHeartbeats 8000000 in
theorem own_gs (r s h m : Int) (ga : Option Addr) (gc : Nat) (gz : List Int) (O P A : Option Addr) (oc pc lc : Nat) (B S : List (List Int)) (lz : List Int) (x n : Int) (w : World) (hT : Tb w) (hqs : Fx.Qs w) (hgl : gz.length ≤ maxLen) (hB : B.length ≤ maxLen) (hS : S.length ≤ maxLen) (hL : lz.length ≤ maxLen) (hBr : ∀ i, i < B.length → (B.getD i []).length ≤ maxLen) (hSr : ∀ i, i < S.length → (S.getD i []).length ≤ maxLen) (rg : RdA w ga gz) (rB : RdR w O B) (rS : RdR w P S) (rl : RdA w A lz) (hgr : grt gz.length B S lz.length = false) (hc : chk 11 s h m gz = 0) (i j k : Nat) (ex : x = (i : Int)) (en : n = (j : Int)) (hi : i < WN s) (hj : j < LN s) (hk : k = i * LN s + j) (hl : lz.length = 256) (hf : Fine r s h m gz B S lz 268435455) (hf8 : Fine r s h m gz B S lz 8191) (hm : (bk r s k : Int) < m) (hs : snt ((B.getD (gk s gz k) []).getD (bk r s k) 0) = true) :
    Calls Tryd.prog 12 #[.int .i64 r, .agg #[.int .u8 s, .int .u8 h, .int .i64 m, .slice ga gz.length gc], .slice O B.length oc, .slice P S.length pc, .slice A lz.length lc, .int .i64 x, .int .i64 n] w fun e w' => e = .returned (.bool true) ∧ Below w.heap.size w w' := by
  have HB := Lib.hid (box_below w (.cells #[.int .u8 s, .int .u8 h, .int .i64 m, .slice ga gz.length gc] 50))
  obtain ⟨y0, y1, y2, y3⟩ := boxed w s h m (.slice ga gz.length gc) _ (Below.refl _ _)
  obtain ⟨g1, g2, g3, g4⟩ := grt_no hgr
  have HA := Lib.hid (alive36 _ (hT.below HB.out))
  have HG := Lib.hid (fun W (hW : Below w.heap.size w W) => great_ok s h m ga gc gz O P A oc pc lc lz.length B S W hgl hB hS hL hBr hSr (rB.below hW) (rS.below hW))
  rw [hgr] at HG
  have I : Inp w ga gz O P B S := ⟨g1, g2, g3, hBr, hSr, rg, rB, rS⟩
  have K1 : Hid (K w ga gz O P A B S lz s h m gc (w.alloc (.cells #[.int .u8 s, .int .u8 h, .int .i64 m, .slice ga gz.length gc] 50))) := Lib.hid ⟨hqs.below HB.out, I.below HB.out, rl.below HB.out, HB.out, ⟨y0, y1, y2, y3⟩, by simp⟩
  have HW := Lib.hid (fun W (k : K w ga gz O P A B S lz s h m gc W) => windows_k s h m ga gc gz W (by omega) k.i.hg)
  have hq := hf.1
  obtain ⟨hck, hBl, hSl, hBm, hSm, hnb⟩ := qe_zero hq
  obtain ⟨r0, r1⟩ := chk_rate hck
  have hk256 : k < 256 := by
    have e := ln_wn s
    have : (i + 1) * LN s ≤ WN s * LN s := Nat.mul_le_mul_right _ hi
    rw [Nat.add_mul, e] at this
    omega
  have hkm : k % LN s = j := by rw [hk, Nat.add_comm, Nat.add_mul_mod_self_right]; exact Nat.mod_eq_of_lt hj
  have hkd : k / LN s = i := by rw [hk, Nat.add_comm, Nat.add_mul_div_right _ _ (by have := ln_in s; omega), Nat.div_eq_of_lt hj]; omega
  have hgl2 := gk_lt hck hk256
  have hgB : gk s gz k < B.length := by omega
  have hgS : gk s gz k < S.length := by omega
  have hrB := hBm _ hgB
  have hrS := hSm _ hgS
  have hin := hf.2.2 k hk256
  have hin8 := hf8.2.2 k hk256
  have X1 : Hid (∀ W, K w ga gz O P A B S lz s h m gc W → Calls Tryd.prog 31 #[.int .i64 r, .agg #[.int .u8 s, .int .u8 h, .int .i64 m, .slice ga gz.length gc], .slice O B.length oc, .slice P S.length pc, .slice A lz.length lc] W fun e w' => Ansr W w' e (QV r s m gz B S lz Fx.FL)) := Lib.hid fun W k => lines_good r s h m ga gc gz O P A oc pc lc B S lz W k.q k.i k.l hf8
  have X2 : Hid (∀ W, K w ga gz O P A B S lz s h m gc W → Calls Tryd.prog 33 #[.int .i64 r, .agg #[.int .u8 s, .int .u8 h, .int .i64 m, .slice ga gz.length gc], .slice O B.length oc, .slice P S.length pc, .slice A lz.length lc] W fun e w' => Ansr W w' e (QV r s m gz B S lz Fx.FQ)) := Lib.hid fun W k => quant_good r s h m ga gc gz O P A oc pc lc B S lz W k.q k.i k.l hf
  have X3 : Hid (∀ W, Calls Tryd.prog 38 #[.int .i64 r, .bool (s == 2), .int .i64 n] W fun e w' => e = .returned (.tuple #[.int .i64 (bk r s k : Nat), .int .i64 0]) ∧ Below W.heap.size W w') := Lib.hid fun W => by
    refine (of_in r n (s == 2) W r0 r1 (by omega) (by rw [ln_nof]; omega)).mono fun e w' ⟨b, he, hb, hw⟩ => ⟨?_, hw⟩
    rw [he, bk_eq (k := k) r0 r1 (by rw [hkm, ← en]; exact hb)]
  have X4 : Hid (∀ W, K w ga gz O P A B S lz s h m gc W → Calls Tryd.prog 39 #[.agg #[.int .u8 s, .int .u8 h, .int .i64 m, .slice ga gz.length gc], .int .i64 x] W fun e w' => e = .returned (.tuple #[.int .i64 (gk s gz k : Nat), .int .i64 0]) ∧ Below W.heap.size W w') := Lib.hid fun W k' => by
    have := group_ok s h m ga gc gz x W (by omega) k'.i.hg hc (by omega) (by rw [wn_win]; omega)
    unfold gk; rw [hkd, ← ex]; exact this
  have eL := qv_st r s m gz B S lz Fx.FL k
  have eQ := qv_st r s m gz B S lz Fx.FQ k
  rw [hc] at HW
  simp only [if_true] at HW
  have hlnw := ln_in s
  have hwnw := wn_in s
  have hxk : x * Int.tdiv 256 (win s) + n = (k : Int) ∧ 0 ≤ x * Int.tdiv 256 (win s) ∧ x * Int.tdiv 256 (win s) ≤ 2048 := by
    rw [tdl, ex, en, hk]
    rcases hlnw with e | e <;> rw [e] at hj ⊢ <;> rcases hwnw with e2 | e2 <;> rw [e2] at hi <;> omega
  have hD := tdw s
  have hM1 := win_bd s
  have hwin : x < win s := by rw [wn_win]; omega
  have hnd : n < Int.tdiv 256 (win s) := by rw [tdl]; omega
  have hx0 : 0 ≤ x := by omega
  have hn0 : 0 ≤ n := by omega

  obtain ⟨ab, ao, eA, lab, cA0⟩ := rl k (by omega)
  subst eA
  rw [hl] at HG X1 X2 ⊢
  obtain ⟨bb, bo, ba, bc, eO, lbb, cR0, rdB⟩ := rB _ hgB
  subst eO
  obtain ⟨b2, o2, rfl, lb2, cV0⟩ := rdB _ (show bk r s k < (B.getD (gk s gz k) []).length by omega)
  have hm1 := hBr _ hgB
  obtain ⟨sb, so, sa, sc, eP, lsb, cS0, rdS⟩ := rS _ hgS
  subst eP
  obtain ⟨s2b, s2o, rfl, ls2, cT0⟩ := rdS _ (show bk r s k < (S.getD (gk s gz k) []).length by omega)
  have hm2 := hSr _ hgS
  have HC : Hid (∀ W, Below w.heap.size w W → W.cell? ⟨bb, bo + gk s gz k, none⟩ = some (.slice (some ⟨b2, o2, none⟩) (B.getD (gk s gz k) []).length bc) ∧ W.cell? ⟨b2, o2 + bk r s k, none⟩ = some (.int .i64 ((B.getD (gk s gz k) []).getD (bk r s k) 0)) ∧ W.cell? ⟨sb, so + gk s gz k, none⟩ = some (.slice (some ⟨s2b, s2o, none⟩) (S.getD (gk s gz k) []).length sc) ∧ W.cell? ⟨s2b, s2o + bk r s k, none⟩ = some (.int .i64 (stp r s gz S k)) ∧ W.cell? ⟨ab, ao + k, none⟩ = some (.int .i64 (lz.getD k 0))) := Lib.hid fun W hW =>
    ⟨(hW.cell (p := ⟨bb, bo + gk s gz k, none⟩) lbb).trans cR0, (hW.cell (p := ⟨b2, o2 + bk r s k, none⟩) lb2).trans cV0, (hW.cell (p := ⟨sb, so + gk s gz k, none⟩) lsb).trans cS0, (hW.cell (p := ⟨s2b, s2o + bk r s k, none⟩) ls2).trans cT0, (hW.cell (p := ⟨ab, ao + k, none⟩) lab).trans cA0⟩
  have hbl : ((bk r s k : Nat) : Int) < ((B.getD (gk s gz k) []).length : Int) := by omega
  have hsl : ((bk r s k : Nat) : Int) < ((S.getD (gk s gz k) []).length : Int) := by omega
  clear rdB rdS cR0 cV0 cS0 cT0 cA0
  have hcn : Cn r s m gz B k := ⟨hm, hs⟩
  obtain ⟨t0, t1⟩ := step_in hq hk256 hcn
  obtain ⟨u1, u2⟩ := own_fq hcn t0 t1 hin.1 hin.2
  rw [← u1] at eQ
  obtain ⟨u3, u4⟩ := own_fl hcn t0 t1 hin8.1 hin8.2
  rw [← u3] at eL
  clear hcn u1 u3
  have hv : 1 ≤ (B.getD (gk s gz k) []).getD (bk r s k) 0 ∧ (B.getD (gk s gz k) []).getD (bk r s k) 0 ≤ 11 := by simpa [snt] using hs
  obtain ⟨v1, v2⟩ := hv
  clear hs
  generalize (B.getD (gk s gz k) []).getD (bk r s k) 0 = V at *
  generalize (B.getD (gk s gz k) []).length = Lb at *
  generalize (S.getD (gk s gz k) []).length = Ls at *
  clear hrB hrS
  generalize stp r s gz S k = T at *
  generalize lz.getD k 0 = X at *
  clear hT hqs hBr hSr rg rB rS rl I y0 y1 y2 y3 g1 g2 g3 g4 hf hf8 hgr hc hq hnb hl hL hB hS hgl hck hBl hSl hBm hSm hkm hkd hgl2 hk ex en hi hj hlnw hwnw
  obtain ⟨y0, y1, y2, y3⟩ := K1.out.y
  obtain ⟨M, hM⟩ : ∃ M, win s = M := ⟨_, rfl⟩
  rw [hM] at HW hD hM1 hxk hwin hnd
  clear hM
  obtain ⟨D, hDD⟩ : ∃ D, Int.tdiv 256 M = D := ⟨_, rfl⟩
  rw [hDD] at hD hxk hnd
  have hwD : wrap64 D = D := w64k ⟨by omega, by omega⟩
  have hm0 : ¬ M = 0 := by omega
  obtain ⟨p, hp⟩ : ∃ p, x * D = p := ⟨_, rfl⟩
  rw [hp] at hxk
  have hwp : wrap64 p = p := w64k ⟨by omega, by omega⟩
  have hwpn : wrap64 (p + n) = (k : Int) := by rw [w64k ⟨by omega, by omega⟩]; omega
  have h1 : ¬ x < 0 := by omega
  have h2 : ¬ M ≤ x := by omega
  have h3 : ¬ n < 0 := by omega
  have h4 : ¬ D ≤ n := by omega
  have h5 : (k : Int) < 256 := by omega
  have h6 : ((gk s gz k : Nat) : Int) < (B.length : Int) := by omega
  have h7 : ((gk s gz k : Nat) : Int) < (S.length : Int) := by omega
  generalize gk s gz k = g' at *
  generalize bk r s k = b' at *
  clear hxk
  have HC3 : Hid (∀ w', Below w.heap.size w w' → w'.cell? ⟨sb, so + g', none⟩ = some (.slice (some ⟨s2b, s2o, none⟩) Ls sc) ∧ w'.cell? ⟨s2b, s2o + b', none⟩ = some (.int .i64 T) ∧ w'.cell? ⟨ab, ao + k, none⟩ = some (.int .i64 X)) := Lib.hid fun w' hw => by obtain ⟨d1, d2, d3, d4, d5⟩ := HC.out w' hw; exact ⟨d3, d4, d5⟩
  have HL17 := Lib.hid (fun W (k : Fx.Qs W) => Fx.line_k X T (Fx.Kp.refl k))
  have HL19 := Lib.hid (fun W (k : Fx.Qs W) => Fx.quant_k X T (Fx.Kp.refl k))
  have e256 : (k : Int) < 256 := h5
  go_enter Tryd.func12, Tryd.ntmps12
  go_wp2_with (first
    | (go_at_call 36; ((with_reducible refine (HA.out).mono ?_); rintro e w1 ⟨rfl, hb1⟩; have K2 := Lib.hid (K1.out.on hb1); obtain ⟨c0, c1, c2, c3⟩ := K2.out.y))
    | (go_at_call 29; ((with_reducible refine (HG.out _ K2.out.b).mono ?_); rintro e w2 ⟨rfl, hb2⟩; have K3 := Lib.hid (K2.out.on hb2); obtain ⟨c0, c1, c2, c3⟩ := K3.out.y))
    | (go_at_call 31; ((with_reducible refine (X1.out _ K3.out).mono ?_); rintro e w3 ⟨p1, rfl, hr1, _, hb3⟩; have R1 := Lib.hid hr1; clear hr1; have K4 := Lib.hid (K3.out.on hb3); obtain ⟨c0, c1, c2, c3⟩ := K4.out.y))
    | (go_at_call 33; ((with_reducible refine (X2.out _ K4.out).mono ?_); rintro e w4 ⟨p2, rfl, hr2, _, hb4⟩; have R2 := Lib.hid hr2; clear hr2; have z4 := Lib.hid hb4; have K5 := Lib.hid (K4.out.on hb4); obtain ⟨c0, c1, c2, c3⟩ := K5.out.y))
    | (go_at_call 37; ((with_reducible refine (HW.out _ K5.out).mono ?_); rintro e w5 ⟨rfl, hb5⟩; have z5 := Lib.hid (belowT z4.out hb5); have y5 := Lib.hid hb5; have K6 := Lib.hid (K5.out.on hb5); obtain ⟨c0, c1, c2, c3⟩ := K6.out.y))
    | (go_at_call 38; ((with_reducible refine (X3.out _).mono ?_); rintro e w6 ⟨rfl, hb6⟩; have z6 := Lib.hid (belowT z5.out hb6); have y6 := Lib.hid (belowT y5.out hb6); have K7 := Lib.hid (K6.out.on hb6); obtain ⟨c0, c1, c2, c3⟩ := K7.out.y))
    | (go_at_call 39; ((with_reducible refine (X4.out _ K7.out).mono ?_); rintro e w7 ⟨rfl, hb7⟩; have z7 := Lib.hid (belowT z6.out hb7); have y7 := Lib.hid (belowT y6.out hb7); have K8 := Lib.hid (K7.out.on hb7); obtain ⟨c0, c1, c2, c3⟩ := K8.out.y; have a7 := (row_on R1.out z7.out).cell (i := k) (by omega); have q7 := (row_on R2.out y7.out).cell (i := k) (by omega); rw [eQ] at q7; rw [eL] at a7; obtain ⟨d1, d2, d3, d4, d5⟩ := HC.out _ K8.out.b)))
  go_region_held3 (fun w' => w'.cell? ⟨sb, so + g', none⟩ = some (.slice (some ⟨s2b, s2o, none⟩) Ls sc) ∧ w'.cell? ⟨s2b, s2o + b', none⟩ = some (.int .i64 T) ∧ w'.cell? ⟨ab, ao + k, none⟩ = some (.int .i64 X)) (first | exact HC3.out _ K8.out.b.drew | exact HC3.out _ K9.out.b) (first | (go_at_call 17; ((with_reducible refine (HL17.out _ (K8.out.on ((Below.refl _ _).drew)).q).mono ?_); rintro e w8 ⟨rfl, kp8⟩; have hb8 := kp8.2; have K9 := Lib.hid ((K8.out.on ((Below.refl _ _).drew)).on hb8); have z8 := Lib.hid (belowT (z7.out.drew) hb8); have y8 := Lib.hid (belowT (y7.out.drew) hb8))))
  clear a7 q7 d1 d2 d3 d4 d5
  obtain ⟨c0, c1, c2, c3⟩ := K9.out.y
  have a8 := (row_on R1.out z8.out).cell (i := k) (by omega)
  rw [eL] at a8
  go_wp2
  obtain ⟨d1, d2, d3, d4, d5⟩ := HC.out _ K9.out.b
  go_region_held3 (fun w' => w'.cell? ⟨sb, so + g', none⟩ = some (.slice (some ⟨s2b, s2o, none⟩) Ls sc) ∧ w'.cell? ⟨s2b, s2o + b', none⟩ = some (.int .i64 T) ∧ w'.cell? ⟨ab, ao + k, none⟩ = some (.int .i64 X)) (first | exact HC3.out _ K9.out.b.drew | exact HC3.out _ K10.out.b) (first | (go_at_call 19; ((with_reducible refine (HL19.out _ (K9.out.on ((Below.refl _ _).drew)).q).mono ?_); rintro e w9 ⟨rfl, kp9⟩; have hb9 := kp9.2; have K10 := Lib.hid ((K9.out.on ((Below.refl _ _).drew)).on hb9); have y9 := Lib.hid (belowT (y8.out.drew) hb9))))
  have q9 := (row_on R2.out y9.out).cell (i := k) (by omega)
  rw [eQ] at q9
  go_wp2
  go_ret
  exact ⟨rfl, K10.out.b⟩

set_option maxRecDepth 100000 in
set_option maxHeartbeats 8000000 in
theorem own_en (r s h m : Int) (ga : Option Addr) (gc : Nat) (gz : List Int) (O P A : Option Addr) (oc pc lc : Nat) (B S : List (List Int)) (lz : List Int) (x n : Int) (w : World) (hT : Tb w) (hqs : Fx.Qs w) (hgl : gz.length ≤ maxLen) (hB : B.length ≤ maxLen) (hS : S.length ≤ maxLen) (hL : lz.length ≤ maxLen) (hBr : ∀ i, i < B.length → (B.getD i []).length ≤ maxLen) (hSr : ∀ i, i < S.length → (S.getD i []).length ≤ maxLen) (rg : RdA w ga gz) (rB : RdR w O B) (rS : RdR w P S) (rl : RdA w A lz) (hgr : grt gz.length B S lz.length = false) (hc : chk 11 s h m gz = 0) (i j k : Nat) (ex : x = (i : Int)) (en : n = (j : Int)) (hi : i < WN s) (hj : j < LN s) (hk : k = i * LN s + j) (hl : lz.length = 256) (hf : Fine r s h m gz B S lz 268435455) (hf8 : ¬ Fine r s h m gz B S lz 8191) (hm : ¬ (bk r s k : Int) < m) :
    Calls Tryd.prog 12 #[.int .i64 r, .agg #[.int .u8 s, .int .u8 h, .int .i64 m, .slice ga gz.length gc], .slice O B.length oc, .slice P S.length pc, .slice A lz.length lc, .int .i64 x, .int .i64 n] w fun e w' => e = .returned (.bool true) ∧ Below w.heap.size w w' := by
  have HB := Lib.hid (box_below w (.cells #[.int .u8 s, .int .u8 h, .int .i64 m, .slice ga gz.length gc] 50))
  obtain ⟨y0, y1, y2, y3⟩ := boxed w s h m (.slice ga gz.length gc) _ (Below.refl _ _)
  obtain ⟨g1, g2, g3, g4⟩ := grt_no hgr
  have HA := Lib.hid (alive36 _ (hT.below HB.out))
  have HG := Lib.hid (fun W (hW : Below w.heap.size w W) => great_ok s h m ga gc gz O P A oc pc lc lz.length B S W hgl hB hS hL hBr hSr (rB.below hW) (rS.below hW))
  rw [hgr] at HG
  have I : Inp w ga gz O P B S := ⟨g1, g2, g3, hBr, hSr, rg, rB, rS⟩
  have K1 : Hid (K w ga gz O P A B S lz s h m gc (w.alloc (.cells #[.int .u8 s, .int .u8 h, .int .i64 m, .slice ga gz.length gc] 50))) := Lib.hid ⟨hqs.below HB.out, I.below HB.out, rl.below HB.out, HB.out, ⟨y0, y1, y2, y3⟩, by simp⟩
  have HW := Lib.hid (fun W (k : K w ga gz O P A B S lz s h m gc W) => windows_k s h m ga gc gz W (by omega) k.i.hg)
  have hq := hf.1
  obtain ⟨hck, hBl, hSl, hBm, hSm, hnb⟩ := qe_zero hq
  obtain ⟨r0, r1⟩ := chk_rate hck
  have hk256 : k < 256 := by
    have e := ln_wn s
    have : (i + 1) * LN s ≤ WN s * LN s := Nat.mul_le_mul_right _ hi
    rw [Nat.add_mul, e] at this
    omega
  have hkm : k % LN s = j := by rw [hk, Nat.add_comm, Nat.add_mul_mod_self_right]; exact Nat.mod_eq_of_lt hj
  have hkd : k / LN s = i := by rw [hk, Nat.add_comm, Nat.add_mul_div_right _ _ (by have := ln_in s; omega), Nat.div_eq_of_lt hj]; omega
  have hgl2 := gk_lt hck hk256
  have hgB : gk s gz k < B.length := by omega
  have hgS : gk s gz k < S.length := by omega
  have hrB := hBm _ hgB
  have hrS := hSm _ hgS
  have hin := hf.2.2 k hk256
  have X1 : Hid (∀ W, K w ga gz O P A B S lz s h m gc W → Calls Tryd.prog 31 #[.int .i64 r, .agg #[.int .u8 s, .int .u8 h, .int .i64 m, .slice ga gz.length gc], .slice O B.length oc, .slice P S.length pc, .slice A lz.length lc] W fun e w' => ∃ c, c ≠ 0 ∧ e = .returned (.tuple #[.slice none 0 0, .int .i64 c]) ∧ Below W.heap.size W w') := Lib.hid fun W k => lines_err r s h m ga gc gz O P A oc pc lc B S lz W k.i (by omega) k.l hf8
  have X2 : Hid (∀ W, K w ga gz O P A B S lz s h m gc W → Calls Tryd.prog 33 #[.int .i64 r, .agg #[.int .u8 s, .int .u8 h, .int .i64 m, .slice ga gz.length gc], .slice O B.length oc, .slice P S.length pc, .slice A lz.length lc] W fun e w' => Ansr W w' e (QV r s m gz B S lz Fx.FQ)) := Lib.hid fun W k => quant_good r s h m ga gc gz O P A oc pc lc B S lz W k.q k.i k.l hf
  have X3 : Hid (∀ W, Calls Tryd.prog 38 #[.int .i64 r, .bool (s == 2), .int .i64 n] W fun e w' => e = .returned (.tuple #[.int .i64 (bk r s k : Nat), .int .i64 0]) ∧ Below W.heap.size W w') := Lib.hid fun W => by
    refine (of_in r n (s == 2) W r0 r1 (by omega) (by rw [ln_nof]; omega)).mono fun e w' ⟨b, he, hb, hw⟩ => ⟨?_, hw⟩
    rw [he, bk_eq (k := k) r0 r1 (by rw [hkm, ← en]; exact hb)]
  have X4 : Hid (∀ W, K w ga gz O P A B S lz s h m gc W → Calls Tryd.prog 39 #[.agg #[.int .u8 s, .int .u8 h, .int .i64 m, .slice ga gz.length gc], .int .i64 x] W fun e w' => e = .returned (.tuple #[.int .i64 (gk s gz k : Nat), .int .i64 0]) ∧ Below W.heap.size W w') := Lib.hid fun W k' => by
    have := group_ok s h m ga gc gz x W (by omega) k'.i.hg hc (by omega) (by rw [wn_win]; omega)
    unfold gk; rw [hkd, ← ex]; exact this
  have eL := qv_st r s m gz B S lz Fx.FL k
  have eQ := qv_st r s m gz B S lz Fx.FQ k
  rw [hc] at HW
  simp only [if_true] at HW
  have hlnw := ln_in s
  have hwnw := wn_in s
  have hxk : x * Int.tdiv 256 (win s) + n = (k : Int) ∧ 0 ≤ x * Int.tdiv 256 (win s) ∧ x * Int.tdiv 256 (win s) ≤ 2048 := by
    rw [tdl, ex, en, hk]
    rcases hlnw with e | e <;> rw [e] at hj ⊢ <;> rcases hwnw with e2 | e2 <;> rw [e2] at hi <;> omega
  have hD := tdw s
  have hM1 := win_bd s
  have hwin : x < win s := by rw [wn_win]; omega
  have hnd : n < Int.tdiv 256 (win s) := by rw [tdl]; omega
  have hx0 : 0 ≤ x := by omega
  have hn0 : 0 ≤ n := by omega

  obtain ⟨ab, ao, eA, lab, cA0⟩ := rl k (by omega)
  subst eA
  rw [hl] at HG X1 X2 ⊢
  clear cA0
  have hcn : ¬ Cn r s m gz B k := fun c => hm c.1
  rw [st_not hcn] at eL eQ
  clear hcn hrB hrS
  clear hT hqs hBr hSr rg rB rS rl I y0 y1 y2 y3 g1 g2 g3 g4 hf hf8 hgr hc hq hnb hl hL hB hS hgl hck hBl hSl hBm hSm hkm hkd hgl2 hk ex en hi hj hlnw hwnw
  obtain ⟨y0, y1, y2, y3⟩ := K1.out.y
  obtain ⟨M, hM⟩ : ∃ M, win s = M := ⟨_, rfl⟩
  rw [hM] at HW hD hM1 hxk hwin hnd
  clear hM
  obtain ⟨D, hDD⟩ : ∃ D, Int.tdiv 256 M = D := ⟨_, rfl⟩
  rw [hDD] at hD hxk hnd
  have hwD : wrap64 D = D := w64k ⟨by omega, by omega⟩
  have hm0 : ¬ M = 0 := by omega
  obtain ⟨p, hp⟩ : ∃ p, x * D = p := ⟨_, rfl⟩
  rw [hp] at hxk
  have hwp : wrap64 p = p := w64k ⟨by omega, by omega⟩
  have hwpn : wrap64 (p + n) = (k : Int) := by rw [w64k ⟨by omega, by omega⟩]; omega
  have h1 : ¬ x < 0 := by omega
  have h2 : ¬ M ≤ x := by omega
  have h3 : ¬ n < 0 := by omega
  have h4 : ¬ D ≤ n := by omega
  have h5 : (k : Int) < 256 := by omega
  have h6 : ((gk s gz k : Nat) : Int) < (B.length : Int) := by omega
  have h7 : ((gk s gz k : Nat) : Int) < (S.length : Int) := by omega
  generalize gk s gz k = g' at *
  generalize bk r s k = b' at *
  clear hxk
  go_enter Tryd.func12, Tryd.ntmps12
  go_wp2_with (first
    | (go_at_call 36; ((with_reducible refine (HA.out).mono ?_); rintro e w1 ⟨rfl, hb1⟩; have K2 := Lib.hid (K1.out.on hb1); obtain ⟨c0, c1, c2, c3⟩ := K2.out.y))
    | (go_at_call 29; ((with_reducible refine (HG.out _ K2.out.b).mono ?_); rintro e w2 ⟨rfl, hb2⟩; have K3 := Lib.hid (K2.out.on hb2); obtain ⟨c0, c1, c2, c3⟩ := K3.out.y))
    | (go_at_call 31; ((with_reducible refine (X1.out _ K3.out).mono ?_); rintro e w3 ⟨f1, hf1, rfl, hb3⟩; have hf1' : (f1 != 0) = true := (by simpa using hf1); have hf1'' : (f1 == 0) = false := (by simpa using hf1); have K4 := Lib.hid (K3.out.on hb3); obtain ⟨c0, c1, c2, c3⟩ := K4.out.y))
    | (go_at_call 33; ((with_reducible refine (X2.out _ K4.out).mono ?_); rintro e w4 ⟨p2, rfl, hr2, _, hb4⟩; have R2 := Lib.hid hr2; clear hr2; have z4 := Lib.hid hb4; have K5 := Lib.hid (K4.out.on hb4); obtain ⟨c0, c1, c2, c3⟩ := K5.out.y))
    | (go_at_call 37; ((with_reducible refine (HW.out _ K5.out).mono ?_); rintro e w5 ⟨rfl, hb5⟩; have z5 := Lib.hid (belowT z4.out hb5); have y5 := Lib.hid hb5; have K6 := Lib.hid (K5.out.on hb5); obtain ⟨c0, c1, c2, c3⟩ := K6.out.y))
    | (go_at_call 38; ((with_reducible refine (X3.out _).mono ?_); rintro e w6 ⟨rfl, hb6⟩; have z6 := Lib.hid (belowT z5.out hb6); have y6 := Lib.hid (belowT y5.out hb6); have K7 := Lib.hid (K6.out.on hb6); obtain ⟨c0, c1, c2, c3⟩ := K7.out.y))
    | (go_at_call 39; ((with_reducible refine (X4.out _ K7.out).mono ?_); rintro e w7 ⟨rfl, hb7⟩; have z7 := Lib.hid (belowT z6.out hb7); have y7 := Lib.hid (belowT y6.out hb7); have K8 := Lib.hid (K7.out.on hb7); obtain ⟨c0, c1, c2, c3⟩ := K8.out.y; have q7 := (row_on R2.out y7.out).cell (i := k) (by omega); rw [eQ] at q7)))
  go_ret
  exact ⟨rfl, K8.out.b⟩

set_option maxRecDepth 100000 in
set_option maxHeartbeats 8000000 in
theorem own_el (r s h m : Int) (ga : Option Addr) (gc : Nat) (gz : List Int) (O P A : Option Addr) (oc pc lc : Nat) (B S : List (List Int)) (lz : List Int) (x n : Int) (w : World) (hT : Tb w) (hqs : Fx.Qs w) (hgl : gz.length ≤ maxLen) (hB : B.length ≤ maxLen) (hS : S.length ≤ maxLen) (hL : lz.length ≤ maxLen) (hBr : ∀ i, i < B.length → (B.getD i []).length ≤ maxLen) (hSr : ∀ i, i < S.length → (S.getD i []).length ≤ maxLen) (rg : RdA w ga gz) (rB : RdR w O B) (rS : RdR w P S) (rl : RdA w A lz) (hgr : grt gz.length B S lz.length = false) (hc : chk 11 s h m gz = 0) (i j k : Nat) (ex : x = (i : Int)) (en : n = (j : Int)) (hi : i < WN s) (hj : j < LN s) (hk : k = i * LN s + j) (hl : lz.length = 256) (hf : Fine r s h m gz B S lz 268435455) (hf8 : ¬ Fine r s h m gz B S lz 8191) (hm : (bk r s k : Int) < m) (hs : (B.getD (gk s gz k) []).getD (bk r s k) 0 < 1) :
    Calls Tryd.prog 12 #[.int .i64 r, .agg #[.int .u8 s, .int .u8 h, .int .i64 m, .slice ga gz.length gc], .slice O B.length oc, .slice P S.length pc, .slice A lz.length lc, .int .i64 x, .int .i64 n] w fun e w' => e = .returned (.bool true) ∧ Below w.heap.size w w' := by
  have HB := Lib.hid (box_below w (.cells #[.int .u8 s, .int .u8 h, .int .i64 m, .slice ga gz.length gc] 50))
  obtain ⟨y0, y1, y2, y3⟩ := boxed w s h m (.slice ga gz.length gc) _ (Below.refl _ _)
  obtain ⟨g1, g2, g3, g4⟩ := grt_no hgr
  have HA := Lib.hid (alive36 _ (hT.below HB.out))
  have HG := Lib.hid (fun W (hW : Below w.heap.size w W) => great_ok s h m ga gc gz O P A oc pc lc lz.length B S W hgl hB hS hL hBr hSr (rB.below hW) (rS.below hW))
  rw [hgr] at HG
  have I : Inp w ga gz O P B S := ⟨g1, g2, g3, hBr, hSr, rg, rB, rS⟩
  have K1 : Hid (K w ga gz O P A B S lz s h m gc (w.alloc (.cells #[.int .u8 s, .int .u8 h, .int .i64 m, .slice ga gz.length gc] 50))) := Lib.hid ⟨hqs.below HB.out, I.below HB.out, rl.below HB.out, HB.out, ⟨y0, y1, y2, y3⟩, by simp⟩
  have HW := Lib.hid (fun W (k : K w ga gz O P A B S lz s h m gc W) => windows_k s h m ga gc gz W (by omega) k.i.hg)
  have hq := hf.1
  obtain ⟨hck, hBl, hSl, hBm, hSm, hnb⟩ := qe_zero hq
  obtain ⟨r0, r1⟩ := chk_rate hck
  have hk256 : k < 256 := by
    have e := ln_wn s
    have : (i + 1) * LN s ≤ WN s * LN s := Nat.mul_le_mul_right _ hi
    rw [Nat.add_mul, e] at this
    omega
  have hkm : k % LN s = j := by rw [hk, Nat.add_comm, Nat.add_mul_mod_self_right]; exact Nat.mod_eq_of_lt hj
  have hkd : k / LN s = i := by rw [hk, Nat.add_comm, Nat.add_mul_div_right _ _ (by have := ln_in s; omega), Nat.div_eq_of_lt hj]; omega
  have hgl2 := gk_lt hck hk256
  have hgB : gk s gz k < B.length := by omega
  have hgS : gk s gz k < S.length := by omega
  have hrB := hBm _ hgB
  have hrS := hSm _ hgS
  have hin := hf.2.2 k hk256
  have X1 : Hid (∀ W, K w ga gz O P A B S lz s h m gc W → Calls Tryd.prog 31 #[.int .i64 r, .agg #[.int .u8 s, .int .u8 h, .int .i64 m, .slice ga gz.length gc], .slice O B.length oc, .slice P S.length pc, .slice A lz.length lc] W fun e w' => ∃ c, c ≠ 0 ∧ e = .returned (.tuple #[.slice none 0 0, .int .i64 c]) ∧ Below W.heap.size W w') := Lib.hid fun W k => lines_err r s h m ga gc gz O P A oc pc lc B S lz W k.i (by omega) k.l hf8
  have X2 : Hid (∀ W, K w ga gz O P A B S lz s h m gc W → Calls Tryd.prog 33 #[.int .i64 r, .agg #[.int .u8 s, .int .u8 h, .int .i64 m, .slice ga gz.length gc], .slice O B.length oc, .slice P S.length pc, .slice A lz.length lc] W fun e w' => Ansr W w' e (QV r s m gz B S lz Fx.FQ)) := Lib.hid fun W k => quant_good r s h m ga gc gz O P A oc pc lc B S lz W k.q k.i k.l hf
  have X3 : Hid (∀ W, Calls Tryd.prog 38 #[.int .i64 r, .bool (s == 2), .int .i64 n] W fun e w' => e = .returned (.tuple #[.int .i64 (bk r s k : Nat), .int .i64 0]) ∧ Below W.heap.size W w') := Lib.hid fun W => by
    refine (of_in r n (s == 2) W r0 r1 (by omega) (by rw [ln_nof]; omega)).mono fun e w' ⟨b, he, hb, hw⟩ => ⟨?_, hw⟩
    rw [he, bk_eq (k := k) r0 r1 (by rw [hkm, ← en]; exact hb)]
  have X4 : Hid (∀ W, K w ga gz O P A B S lz s h m gc W → Calls Tryd.prog 39 #[.agg #[.int .u8 s, .int .u8 h, .int .i64 m, .slice ga gz.length gc], .int .i64 x] W fun e w' => e = .returned (.tuple #[.int .i64 (gk s gz k : Nat), .int .i64 0]) ∧ Below W.heap.size W w') := Lib.hid fun W k' => by
    have := group_ok s h m ga gc gz x W (by omega) k'.i.hg hc (by omega) (by rw [wn_win]; omega)
    unfold gk; rw [hkd, ← ex]; exact this
  have eL := qv_st r s m gz B S lz Fx.FL k
  have eQ := qv_st r s m gz B S lz Fx.FQ k
  rw [hc] at HW
  simp only [if_true] at HW
  have hlnw := ln_in s
  have hwnw := wn_in s
  have hxk : x * Int.tdiv 256 (win s) + n = (k : Int) ∧ 0 ≤ x * Int.tdiv 256 (win s) ∧ x * Int.tdiv 256 (win s) ≤ 2048 := by
    rw [tdl, ex, en, hk]
    rcases hlnw with e | e <;> rw [e] at hj ⊢ <;> rcases hwnw with e2 | e2 <;> rw [e2] at hi <;> omega
  have hD := tdw s
  have hM1 := win_bd s
  have hwin : x < win s := by rw [wn_win]; omega
  have hnd : n < Int.tdiv 256 (win s) := by rw [tdl]; omega
  have hx0 : 0 ≤ x := by omega
  have hn0 : 0 ≤ n := by omega

  obtain ⟨ab, ao, eA, lab, cA0⟩ := rl k (by omega)
  subst eA
  rw [hl] at HG X1 X2 ⊢
  obtain ⟨bb, bo, ba, bc, eO, lbb, cR0, rdB⟩ := rB _ hgB
  subst eO
  obtain ⟨b2, o2, rfl, lb2, cV0⟩ := rdB _ (show bk r s k < (B.getD (gk s gz k) []).length by omega)
  have hm1 := hBr _ hgB
  obtain ⟨sb, so, sa, sc, eP, lsb, cS0, rdS⟩ := rS _ hgS
  subst eP
  obtain ⟨s2b, s2o, rfl, ls2, cT0⟩ := rdS _ (show bk r s k < (S.getD (gk s gz k) []).length by omega)
  have hm2 := hSr _ hgS
  have HC : Hid (∀ W, Below w.heap.size w W → W.cell? ⟨bb, bo + gk s gz k, none⟩ = some (.slice (some ⟨b2, o2, none⟩) (B.getD (gk s gz k) []).length bc) ∧ W.cell? ⟨b2, o2 + bk r s k, none⟩ = some (.int .i64 ((B.getD (gk s gz k) []).getD (bk r s k) 0)) ∧ W.cell? ⟨sb, so + gk s gz k, none⟩ = some (.slice (some ⟨s2b, s2o, none⟩) (S.getD (gk s gz k) []).length sc) ∧ W.cell? ⟨s2b, s2o + bk r s k, none⟩ = some (.int .i64 (stp r s gz S k)) ∧ W.cell? ⟨ab, ao + k, none⟩ = some (.int .i64 (lz.getD k 0))) := Lib.hid fun W hW =>
    ⟨(hW.cell (p := ⟨bb, bo + gk s gz k, none⟩) lbb).trans cR0, (hW.cell (p := ⟨b2, o2 + bk r s k, none⟩) lb2).trans cV0, (hW.cell (p := ⟨sb, so + gk s gz k, none⟩) lsb).trans cS0, (hW.cell (p := ⟨s2b, s2o + bk r s k, none⟩) ls2).trans cT0, (hW.cell (p := ⟨ab, ao + k, none⟩) lab).trans cA0⟩
  have hbl : ((bk r s k : Nat) : Int) < ((B.getD (gk s gz k) []).length : Int) := by omega
  have hsl : ((bk r s k : Nat) : Int) < ((S.getD (gk s gz k) []).length : Int) := by omega
  clear rdB rdS cR0 cV0 cS0 cT0 cA0
  have hcn : ¬ Cn r s m gz B k := fun c => by
    have := c.2
    simp only [snt, Bool.and_eq_true, decide_eq_true_eq] at this
    omega
  rw [st_not hcn] at eL eQ
  clear hcn
  generalize (B.getD (gk s gz k) []).getD (bk r s k) 0 = V at *
  generalize (B.getD (gk s gz k) []).length = Lb at *
  generalize (S.getD (gk s gz k) []).length = Ls at *
  clear hrB hrS
  clear hT hqs hBr hSr rg rB rS rl I y0 y1 y2 y3 g1 g2 g3 g4 hf hf8 hgr hc hq hnb hl hL hB hS hgl hck hBl hSl hBm hSm hkm hkd hgl2 hk ex en hi hj hlnw hwnw
  obtain ⟨y0, y1, y2, y3⟩ := K1.out.y
  obtain ⟨M, hM⟩ : ∃ M, win s = M := ⟨_, rfl⟩
  rw [hM] at HW hD hM1 hxk hwin hnd
  clear hM
  obtain ⟨D, hDD⟩ : ∃ D, Int.tdiv 256 M = D := ⟨_, rfl⟩
  rw [hDD] at hD hxk hnd
  have hwD : wrap64 D = D := w64k ⟨by omega, by omega⟩
  have hm0 : ¬ M = 0 := by omega
  obtain ⟨p, hp⟩ : ∃ p, x * D = p := ⟨_, rfl⟩
  rw [hp] at hxk
  have hwp : wrap64 p = p := w64k ⟨by omega, by omega⟩
  have hwpn : wrap64 (p + n) = (k : Int) := by rw [w64k ⟨by omega, by omega⟩]; omega
  have h1 : ¬ x < 0 := by omega
  have h2 : ¬ M ≤ x := by omega
  have h3 : ¬ n < 0 := by omega
  have h4 : ¬ D ≤ n := by omega
  have h5 : (k : Int) < 256 := by omega
  have h6 : ((gk s gz k : Nat) : Int) < (B.length : Int) := by omega
  have h7 : ((gk s gz k : Nat) : Int) < (S.length : Int) := by omega
  generalize gk s gz k = g' at *
  generalize bk r s k = b' at *
  clear hxk
  go_enter Tryd.func12, Tryd.ntmps12
  go_wp2_with (first
    | (go_at_call 36; ((with_reducible refine (HA.out).mono ?_); rintro e w1 ⟨rfl, hb1⟩; have K2 := Lib.hid (K1.out.on hb1); obtain ⟨c0, c1, c2, c3⟩ := K2.out.y))
    | (go_at_call 29; ((with_reducible refine (HG.out _ K2.out.b).mono ?_); rintro e w2 ⟨rfl, hb2⟩; have K3 := Lib.hid (K2.out.on hb2); obtain ⟨c0, c1, c2, c3⟩ := K3.out.y))
    | (go_at_call 31; ((with_reducible refine (X1.out _ K3.out).mono ?_); rintro e w3 ⟨f1, hf1, rfl, hb3⟩; have hf1' : (f1 != 0) = true := (by simpa using hf1); have hf1'' : (f1 == 0) = false := (by simpa using hf1); have K4 := Lib.hid (K3.out.on hb3); obtain ⟨c0, c1, c2, c3⟩ := K4.out.y))
    | (go_at_call 33; ((with_reducible refine (X2.out _ K4.out).mono ?_); rintro e w4 ⟨p2, rfl, hr2, _, hb4⟩; have R2 := Lib.hid hr2; clear hr2; have z4 := Lib.hid hb4; have K5 := Lib.hid (K4.out.on hb4); obtain ⟨c0, c1, c2, c3⟩ := K5.out.y))
    | (go_at_call 37; ((with_reducible refine (HW.out _ K5.out).mono ?_); rintro e w5 ⟨rfl, hb5⟩; have z5 := Lib.hid (belowT z4.out hb5); have y5 := Lib.hid hb5; have K6 := Lib.hid (K5.out.on hb5); obtain ⟨c0, c1, c2, c3⟩ := K6.out.y))
    | (go_at_call 38; ((with_reducible refine (X3.out _).mono ?_); rintro e w6 ⟨rfl, hb6⟩; have z6 := Lib.hid (belowT z5.out hb6); have y6 := Lib.hid (belowT y5.out hb6); have K7 := Lib.hid (K6.out.on hb6); obtain ⟨c0, c1, c2, c3⟩ := K7.out.y))
    | (go_at_call 39; ((with_reducible refine (X4.out _ K7.out).mono ?_); rintro e w7 ⟨rfl, hb7⟩; have z7 := Lib.hid (belowT z6.out hb7); have y7 := Lib.hid (belowT y6.out hb7); have K8 := Lib.hid (K7.out.on hb7); obtain ⟨c0, c1, c2, c3⟩ := K8.out.y; have q7 := (row_on R2.out y7.out).cell (i := k) (by omega); rw [eQ] at q7; obtain ⟨d1, d2, d3, d4, d5⟩ := HC.out _ K8.out.b)))
  go_ret
  exact ⟨rfl, K8.out.b⟩

set_option maxRecDepth 100000 in
set_option maxHeartbeats 8000000 in
theorem own_eu (r s h m : Int) (ga : Option Addr) (gc : Nat) (gz : List Int) (O P A : Option Addr) (oc pc lc : Nat) (B S : List (List Int)) (lz : List Int) (x n : Int) (w : World) (hT : Tb w) (hqs : Fx.Qs w) (hgl : gz.length ≤ maxLen) (hB : B.length ≤ maxLen) (hS : S.length ≤ maxLen) (hL : lz.length ≤ maxLen) (hBr : ∀ i, i < B.length → (B.getD i []).length ≤ maxLen) (hSr : ∀ i, i < S.length → (S.getD i []).length ≤ maxLen) (rg : RdA w ga gz) (rB : RdR w O B) (rS : RdR w P S) (rl : RdA w A lz) (hgr : grt gz.length B S lz.length = false) (hc : chk 11 s h m gz = 0) (i j k : Nat) (ex : x = (i : Int)) (en : n = (j : Int)) (hi : i < WN s) (hj : j < LN s) (hk : k = i * LN s + j) (hl : lz.length = 256) (hf : Fine r s h m gz B S lz 268435455) (hf8 : ¬ Fine r s h m gz B S lz 8191) (hm : (bk r s k : Int) < m) (hs : 11 < (B.getD (gk s gz k) []).getD (bk r s k) 0) :
    Calls Tryd.prog 12 #[.int .i64 r, .agg #[.int .u8 s, .int .u8 h, .int .i64 m, .slice ga gz.length gc], .slice O B.length oc, .slice P S.length pc, .slice A lz.length lc, .int .i64 x, .int .i64 n] w fun e w' => e = .returned (.bool true) ∧ Below w.heap.size w w' := by
  have HB := Lib.hid (box_below w (.cells #[.int .u8 s, .int .u8 h, .int .i64 m, .slice ga gz.length gc] 50))
  obtain ⟨y0, y1, y2, y3⟩ := boxed w s h m (.slice ga gz.length gc) _ (Below.refl _ _)
  obtain ⟨g1, g2, g3, g4⟩ := grt_no hgr
  have HA := Lib.hid (alive36 _ (hT.below HB.out))
  have HG := Lib.hid (fun W (hW : Below w.heap.size w W) => great_ok s h m ga gc gz O P A oc pc lc lz.length B S W hgl hB hS hL hBr hSr (rB.below hW) (rS.below hW))
  rw [hgr] at HG
  have I : Inp w ga gz O P B S := ⟨g1, g2, g3, hBr, hSr, rg, rB, rS⟩
  have K1 : Hid (K w ga gz O P A B S lz s h m gc (w.alloc (.cells #[.int .u8 s, .int .u8 h, .int .i64 m, .slice ga gz.length gc] 50))) := Lib.hid ⟨hqs.below HB.out, I.below HB.out, rl.below HB.out, HB.out, ⟨y0, y1, y2, y3⟩, by simp⟩
  have HW := Lib.hid (fun W (k : K w ga gz O P A B S lz s h m gc W) => windows_k s h m ga gc gz W (by omega) k.i.hg)
  have hq := hf.1
  obtain ⟨hck, hBl, hSl, hBm, hSm, hnb⟩ := qe_zero hq
  obtain ⟨r0, r1⟩ := chk_rate hck
  have hk256 : k < 256 := by
    have e := ln_wn s
    have : (i + 1) * LN s ≤ WN s * LN s := Nat.mul_le_mul_right _ hi
    rw [Nat.add_mul, e] at this
    omega
  have hkm : k % LN s = j := by rw [hk, Nat.add_comm, Nat.add_mul_mod_self_right]; exact Nat.mod_eq_of_lt hj
  have hkd : k / LN s = i := by rw [hk, Nat.add_comm, Nat.add_mul_div_right _ _ (by have := ln_in s; omega), Nat.div_eq_of_lt hj]; omega
  have hgl2 := gk_lt hck hk256
  have hgB : gk s gz k < B.length := by omega
  have hgS : gk s gz k < S.length := by omega
  have hrB := hBm _ hgB
  have hrS := hSm _ hgS
  have hin := hf.2.2 k hk256
  have X1 : Hid (∀ W, K w ga gz O P A B S lz s h m gc W → Calls Tryd.prog 31 #[.int .i64 r, .agg #[.int .u8 s, .int .u8 h, .int .i64 m, .slice ga gz.length gc], .slice O B.length oc, .slice P S.length pc, .slice A lz.length lc] W fun e w' => ∃ c, c ≠ 0 ∧ e = .returned (.tuple #[.slice none 0 0, .int .i64 c]) ∧ Below W.heap.size W w') := Lib.hid fun W k => lines_err r s h m ga gc gz O P A oc pc lc B S lz W k.i (by omega) k.l hf8
  have X2 : Hid (∀ W, K w ga gz O P A B S lz s h m gc W → Calls Tryd.prog 33 #[.int .i64 r, .agg #[.int .u8 s, .int .u8 h, .int .i64 m, .slice ga gz.length gc], .slice O B.length oc, .slice P S.length pc, .slice A lz.length lc] W fun e w' => Ansr W w' e (QV r s m gz B S lz Fx.FQ)) := Lib.hid fun W k => quant_good r s h m ga gc gz O P A oc pc lc B S lz W k.q k.i k.l hf
  have X3 : Hid (∀ W, Calls Tryd.prog 38 #[.int .i64 r, .bool (s == 2), .int .i64 n] W fun e w' => e = .returned (.tuple #[.int .i64 (bk r s k : Nat), .int .i64 0]) ∧ Below W.heap.size W w') := Lib.hid fun W => by
    refine (of_in r n (s == 2) W r0 r1 (by omega) (by rw [ln_nof]; omega)).mono fun e w' ⟨b, he, hb, hw⟩ => ⟨?_, hw⟩
    rw [he, bk_eq (k := k) r0 r1 (by rw [hkm, ← en]; exact hb)]
  have X4 : Hid (∀ W, K w ga gz O P A B S lz s h m gc W → Calls Tryd.prog 39 #[.agg #[.int .u8 s, .int .u8 h, .int .i64 m, .slice ga gz.length gc], .int .i64 x] W fun e w' => e = .returned (.tuple #[.int .i64 (gk s gz k : Nat), .int .i64 0]) ∧ Below W.heap.size W w') := Lib.hid fun W k' => by
    have := group_ok s h m ga gc gz x W (by omega) k'.i.hg hc (by omega) (by rw [wn_win]; omega)
    unfold gk; rw [hkd, ← ex]; exact this
  have eL := qv_st r s m gz B S lz Fx.FL k
  have eQ := qv_st r s m gz B S lz Fx.FQ k
  rw [hc] at HW
  simp only [if_true] at HW
  have hlnw := ln_in s
  have hwnw := wn_in s
  have hxk : x * Int.tdiv 256 (win s) + n = (k : Int) ∧ 0 ≤ x * Int.tdiv 256 (win s) ∧ x * Int.tdiv 256 (win s) ≤ 2048 := by
    rw [tdl, ex, en, hk]
    rcases hlnw with e | e <;> rw [e] at hj ⊢ <;> rcases hwnw with e2 | e2 <;> rw [e2] at hi <;> omega
  have hD := tdw s
  have hM1 := win_bd s
  have hwin : x < win s := by rw [wn_win]; omega
  have hnd : n < Int.tdiv 256 (win s) := by rw [tdl]; omega
  have hx0 : 0 ≤ x := by omega
  have hn0 : 0 ≤ n := by omega

  obtain ⟨ab, ao, eA, lab, cA0⟩ := rl k (by omega)
  subst eA
  rw [hl] at HG X1 X2 ⊢
  obtain ⟨bb, bo, ba, bc, eO, lbb, cR0, rdB⟩ := rB _ hgB
  subst eO
  obtain ⟨b2, o2, rfl, lb2, cV0⟩ := rdB _ (show bk r s k < (B.getD (gk s gz k) []).length by omega)
  have hm1 := hBr _ hgB
  obtain ⟨sb, so, sa, sc, eP, lsb, cS0, rdS⟩ := rS _ hgS
  subst eP
  obtain ⟨s2b, s2o, rfl, ls2, cT0⟩ := rdS _ (show bk r s k < (S.getD (gk s gz k) []).length by omega)
  have hm2 := hSr _ hgS
  have HC : Hid (∀ W, Below w.heap.size w W → W.cell? ⟨bb, bo + gk s gz k, none⟩ = some (.slice (some ⟨b2, o2, none⟩) (B.getD (gk s gz k) []).length bc) ∧ W.cell? ⟨b2, o2 + bk r s k, none⟩ = some (.int .i64 ((B.getD (gk s gz k) []).getD (bk r s k) 0)) ∧ W.cell? ⟨sb, so + gk s gz k, none⟩ = some (.slice (some ⟨s2b, s2o, none⟩) (S.getD (gk s gz k) []).length sc) ∧ W.cell? ⟨s2b, s2o + bk r s k, none⟩ = some (.int .i64 (stp r s gz S k)) ∧ W.cell? ⟨ab, ao + k, none⟩ = some (.int .i64 (lz.getD k 0))) := Lib.hid fun W hW =>
    ⟨(hW.cell (p := ⟨bb, bo + gk s gz k, none⟩) lbb).trans cR0, (hW.cell (p := ⟨b2, o2 + bk r s k, none⟩) lb2).trans cV0, (hW.cell (p := ⟨sb, so + gk s gz k, none⟩) lsb).trans cS0, (hW.cell (p := ⟨s2b, s2o + bk r s k, none⟩) ls2).trans cT0, (hW.cell (p := ⟨ab, ao + k, none⟩) lab).trans cA0⟩
  have hbl : ((bk r s k : Nat) : Int) < ((B.getD (gk s gz k) []).length : Int) := by omega
  have hsl : ((bk r s k : Nat) : Int) < ((S.getD (gk s gz k) []).length : Int) := by omega
  clear rdB rdS cR0 cV0 cS0 cT0 cA0
  have hcn : ¬ Cn r s m gz B k := fun c => by
    have := c.2
    simp only [snt, Bool.and_eq_true, decide_eq_true_eq] at this
    omega
  rw [st_not hcn] at eL eQ
  clear hcn
  generalize (B.getD (gk s gz k) []).getD (bk r s k) 0 = V at *
  generalize (B.getD (gk s gz k) []).length = Lb at *
  generalize (S.getD (gk s gz k) []).length = Ls at *
  clear hrB hrS
  clear hT hqs hBr hSr rg rB rS rl I y0 y1 y2 y3 g1 g2 g3 g4 hf hf8 hgr hc hq hnb hl hL hB hS hgl hck hBl hSl hBm hSm hkm hkd hgl2 hk ex en hi hj hlnw hwnw
  obtain ⟨y0, y1, y2, y3⟩ := K1.out.y
  obtain ⟨M, hM⟩ : ∃ M, win s = M := ⟨_, rfl⟩
  rw [hM] at HW hD hM1 hxk hwin hnd
  clear hM
  obtain ⟨D, hDD⟩ : ∃ D, Int.tdiv 256 M = D := ⟨_, rfl⟩
  rw [hDD] at hD hxk hnd
  have hwD : wrap64 D = D := w64k ⟨by omega, by omega⟩
  have hm0 : ¬ M = 0 := by omega
  obtain ⟨p, hp⟩ : ∃ p, x * D = p := ⟨_, rfl⟩
  rw [hp] at hxk
  have hwp : wrap64 p = p := w64k ⟨by omega, by omega⟩
  have hwpn : wrap64 (p + n) = (k : Int) := by rw [w64k ⟨by omega, by omega⟩]; omega
  have h1 : ¬ x < 0 := by omega
  have h2 : ¬ M ≤ x := by omega
  have h3 : ¬ n < 0 := by omega
  have h4 : ¬ D ≤ n := by omega
  have h5 : (k : Int) < 256 := by omega
  have h6 : ((gk s gz k : Nat) : Int) < (B.length : Int) := by omega
  have h7 : ((gk s gz k : Nat) : Int) < (S.length : Int) := by omega
  generalize gk s gz k = g' at *
  generalize bk r s k = b' at *
  clear hxk
  go_enter Tryd.func12, Tryd.ntmps12
  go_wp2_with (first
    | (go_at_call 36; ((with_reducible refine (HA.out).mono ?_); rintro e w1 ⟨rfl, hb1⟩; have K2 := Lib.hid (K1.out.on hb1); obtain ⟨c0, c1, c2, c3⟩ := K2.out.y))
    | (go_at_call 29; ((with_reducible refine (HG.out _ K2.out.b).mono ?_); rintro e w2 ⟨rfl, hb2⟩; have K3 := Lib.hid (K2.out.on hb2); obtain ⟨c0, c1, c2, c3⟩ := K3.out.y))
    | (go_at_call 31; ((with_reducible refine (X1.out _ K3.out).mono ?_); rintro e w3 ⟨f1, hf1, rfl, hb3⟩; have hf1' : (f1 != 0) = true := (by simpa using hf1); have hf1'' : (f1 == 0) = false := (by simpa using hf1); have K4 := Lib.hid (K3.out.on hb3); obtain ⟨c0, c1, c2, c3⟩ := K4.out.y))
    | (go_at_call 33; ((with_reducible refine (X2.out _ K4.out).mono ?_); rintro e w4 ⟨p2, rfl, hr2, _, hb4⟩; have R2 := Lib.hid hr2; clear hr2; have z4 := Lib.hid hb4; have K5 := Lib.hid (K4.out.on hb4); obtain ⟨c0, c1, c2, c3⟩ := K5.out.y))
    | (go_at_call 37; ((with_reducible refine (HW.out _ K5.out).mono ?_); rintro e w5 ⟨rfl, hb5⟩; have z5 := Lib.hid (belowT z4.out hb5); have y5 := Lib.hid hb5; have K6 := Lib.hid (K5.out.on hb5); obtain ⟨c0, c1, c2, c3⟩ := K6.out.y))
    | (go_at_call 38; ((with_reducible refine (X3.out _).mono ?_); rintro e w6 ⟨rfl, hb6⟩; have z6 := Lib.hid (belowT z5.out hb6); have y6 := Lib.hid (belowT y5.out hb6); have K7 := Lib.hid (K6.out.on hb6); obtain ⟨c0, c1, c2, c3⟩ := K7.out.y))
    | (go_at_call 39; ((with_reducible refine (X4.out _ K7.out).mono ?_); rintro e w7 ⟨rfl, hb7⟩; have z7 := Lib.hid (belowT z6.out hb7); have y7 := Lib.hid (belowT y6.out hb7); have K8 := Lib.hid (K7.out.on hb7); obtain ⟨c0, c1, c2, c3⟩ := K8.out.y; have q7 := (row_on R2.out y7.out).cell (i := k) (by omega); rw [eQ] at q7; obtain ⟨d1, d2, d3, d4, d5⟩ := HC.out _ K8.out.b)))
  go_ret
  exact ⟨rfl, K8.out.b⟩

set_option maxRecDepth 100000 in
set_option maxHeartbeats 8000000 in
theorem own_es (r s h m : Int) (ga : Option Addr) (gc : Nat) (gz : List Int) (O P A : Option Addr) (oc pc lc : Nat) (B S : List (List Int)) (lz : List Int) (x n : Int) (w : World) (hT : Tb w) (hqs : Fx.Qs w) (hgl : gz.length ≤ maxLen) (hB : B.length ≤ maxLen) (hS : S.length ≤ maxLen) (hL : lz.length ≤ maxLen) (hBr : ∀ i, i < B.length → (B.getD i []).length ≤ maxLen) (hSr : ∀ i, i < S.length → (S.getD i []).length ≤ maxLen) (rg : RdA w ga gz) (rB : RdR w O B) (rS : RdR w P S) (rl : RdA w A lz) (hgr : grt gz.length B S lz.length = false) (hc : chk 11 s h m gz = 0) (i j k : Nat) (ex : x = (i : Int)) (en : n = (j : Int)) (hi : i < WN s) (hj : j < LN s) (hk : k = i * LN s + j) (hl : lz.length = 256) (hf : Fine r s h m gz B S lz 268435455) (hf8 : ¬ Fine r s h m gz B S lz 8191) (hm : (bk r s k : Int) < m) (hs : snt ((B.getD (gk s gz k) []).getD (bk r s k) 0) = true) :
    Calls Tryd.prog 12 #[.int .i64 r, .agg #[.int .u8 s, .int .u8 h, .int .i64 m, .slice ga gz.length gc], .slice O B.length oc, .slice P S.length pc, .slice A lz.length lc, .int .i64 x, .int .i64 n] w fun e w' => e = .returned (.bool true) ∧ Below w.heap.size w w' := by
  have HB := Lib.hid (box_below w (.cells #[.int .u8 s, .int .u8 h, .int .i64 m, .slice ga gz.length gc] 50))
  obtain ⟨y0, y1, y2, y3⟩ := boxed w s h m (.slice ga gz.length gc) _ (Below.refl _ _)
  obtain ⟨g1, g2, g3, g4⟩ := grt_no hgr
  have HA := Lib.hid (alive36 _ (hT.below HB.out))
  have HG := Lib.hid (fun W (hW : Below w.heap.size w W) => great_ok s h m ga gc gz O P A oc pc lc lz.length B S W hgl hB hS hL hBr hSr (rB.below hW) (rS.below hW))
  rw [hgr] at HG
  have I : Inp w ga gz O P B S := ⟨g1, g2, g3, hBr, hSr, rg, rB, rS⟩
  have K1 : Hid (K w ga gz O P A B S lz s h m gc (w.alloc (.cells #[.int .u8 s, .int .u8 h, .int .i64 m, .slice ga gz.length gc] 50))) := Lib.hid ⟨hqs.below HB.out, I.below HB.out, rl.below HB.out, HB.out, ⟨y0, y1, y2, y3⟩, by simp⟩
  have HW := Lib.hid (fun W (k : K w ga gz O P A B S lz s h m gc W) => windows_k s h m ga gc gz W (by omega) k.i.hg)
  have hq := hf.1
  obtain ⟨hck, hBl, hSl, hBm, hSm, hnb⟩ := qe_zero hq
  obtain ⟨r0, r1⟩ := chk_rate hck
  have hk256 : k < 256 := by
    have e := ln_wn s
    have : (i + 1) * LN s ≤ WN s * LN s := Nat.mul_le_mul_right _ hi
    rw [Nat.add_mul, e] at this
    omega
  have hkm : k % LN s = j := by rw [hk, Nat.add_comm, Nat.add_mul_mod_self_right]; exact Nat.mod_eq_of_lt hj
  have hkd : k / LN s = i := by rw [hk, Nat.add_comm, Nat.add_mul_div_right _ _ (by have := ln_in s; omega), Nat.div_eq_of_lt hj]; omega
  have hgl2 := gk_lt hck hk256
  have hgB : gk s gz k < B.length := by omega
  have hgS : gk s gz k < S.length := by omega
  have hrB := hBm _ hgB
  have hrS := hSm _ hgS
  have hin := hf.2.2 k hk256
  have X1 : Hid (∀ W, K w ga gz O P A B S lz s h m gc W → Calls Tryd.prog 31 #[.int .i64 r, .agg #[.int .u8 s, .int .u8 h, .int .i64 m, .slice ga gz.length gc], .slice O B.length oc, .slice P S.length pc, .slice A lz.length lc] W fun e w' => ∃ c, c ≠ 0 ∧ e = .returned (.tuple #[.slice none 0 0, .int .i64 c]) ∧ Below W.heap.size W w') := Lib.hid fun W k => lines_err r s h m ga gc gz O P A oc pc lc B S lz W k.i (by omega) k.l hf8
  have X2 : Hid (∀ W, K w ga gz O P A B S lz s h m gc W → Calls Tryd.prog 33 #[.int .i64 r, .agg #[.int .u8 s, .int .u8 h, .int .i64 m, .slice ga gz.length gc], .slice O B.length oc, .slice P S.length pc, .slice A lz.length lc] W fun e w' => Ansr W w' e (QV r s m gz B S lz Fx.FQ)) := Lib.hid fun W k => quant_good r s h m ga gc gz O P A oc pc lc B S lz W k.q k.i k.l hf
  have X3 : Hid (∀ W, Calls Tryd.prog 38 #[.int .i64 r, .bool (s == 2), .int .i64 n] W fun e w' => e = .returned (.tuple #[.int .i64 (bk r s k : Nat), .int .i64 0]) ∧ Below W.heap.size W w') := Lib.hid fun W => by
    refine (of_in r n (s == 2) W r0 r1 (by omega) (by rw [ln_nof]; omega)).mono fun e w' ⟨b, he, hb, hw⟩ => ⟨?_, hw⟩
    rw [he, bk_eq (k := k) r0 r1 (by rw [hkm, ← en]; exact hb)]
  have X4 : Hid (∀ W, K w ga gz O P A B S lz s h m gc W → Calls Tryd.prog 39 #[.agg #[.int .u8 s, .int .u8 h, .int .i64 m, .slice ga gz.length gc], .int .i64 x] W fun e w' => e = .returned (.tuple #[.int .i64 (gk s gz k : Nat), .int .i64 0]) ∧ Below W.heap.size W w') := Lib.hid fun W k' => by
    have := group_ok s h m ga gc gz x W (by omega) k'.i.hg hc (by omega) (by rw [wn_win]; omega)
    unfold gk; rw [hkd, ← ex]; exact this
  have eL := qv_st r s m gz B S lz Fx.FL k
  have eQ := qv_st r s m gz B S lz Fx.FQ k
  rw [hc] at HW
  simp only [if_true] at HW
  have hlnw := ln_in s
  have hwnw := wn_in s
  have hxk : x * Int.tdiv 256 (win s) + n = (k : Int) ∧ 0 ≤ x * Int.tdiv 256 (win s) ∧ x * Int.tdiv 256 (win s) ≤ 2048 := by
    rw [tdl, ex, en, hk]
    rcases hlnw with e | e <;> rw [e] at hj ⊢ <;> rcases hwnw with e2 | e2 <;> rw [e2] at hi <;> omega
  have hD := tdw s
  have hM1 := win_bd s
  have hwin : x < win s := by rw [wn_win]; omega
  have hnd : n < Int.tdiv 256 (win s) := by rw [tdl]; omega
  have hx0 : 0 ≤ x := by omega
  have hn0 : 0 ≤ n := by omega

  obtain ⟨ab, ao, eA, lab, cA0⟩ := rl k (by omega)
  subst eA
  rw [hl] at HG X1 X2 ⊢
  obtain ⟨bb, bo, ba, bc, eO, lbb, cR0, rdB⟩ := rB _ hgB
  subst eO
  obtain ⟨b2, o2, rfl, lb2, cV0⟩ := rdB _ (show bk r s k < (B.getD (gk s gz k) []).length by omega)
  have hm1 := hBr _ hgB
  obtain ⟨sb, so, sa, sc, eP, lsb, cS0, rdS⟩ := rS _ hgS
  subst eP
  obtain ⟨s2b, s2o, rfl, ls2, cT0⟩ := rdS _ (show bk r s k < (S.getD (gk s gz k) []).length by omega)
  have hm2 := hSr _ hgS
  have HC : Hid (∀ W, Below w.heap.size w W → W.cell? ⟨bb, bo + gk s gz k, none⟩ = some (.slice (some ⟨b2, o2, none⟩) (B.getD (gk s gz k) []).length bc) ∧ W.cell? ⟨b2, o2 + bk r s k, none⟩ = some (.int .i64 ((B.getD (gk s gz k) []).getD (bk r s k) 0)) ∧ W.cell? ⟨sb, so + gk s gz k, none⟩ = some (.slice (some ⟨s2b, s2o, none⟩) (S.getD (gk s gz k) []).length sc) ∧ W.cell? ⟨s2b, s2o + bk r s k, none⟩ = some (.int .i64 (stp r s gz S k)) ∧ W.cell? ⟨ab, ao + k, none⟩ = some (.int .i64 (lz.getD k 0))) := Lib.hid fun W hW =>
    ⟨(hW.cell (p := ⟨bb, bo + gk s gz k, none⟩) lbb).trans cR0, (hW.cell (p := ⟨b2, o2 + bk r s k, none⟩) lb2).trans cV0, (hW.cell (p := ⟨sb, so + gk s gz k, none⟩) lsb).trans cS0, (hW.cell (p := ⟨s2b, s2o + bk r s k, none⟩) ls2).trans cT0, (hW.cell (p := ⟨ab, ao + k, none⟩) lab).trans cA0⟩
  have hbl : ((bk r s k : Nat) : Int) < ((B.getD (gk s gz k) []).length : Int) := by omega
  have hsl : ((bk r s k : Nat) : Int) < ((S.getD (gk s gz k) []).length : Int) := by omega
  clear rdB rdS cR0 cV0 cS0 cT0 cA0
  have hcn : Cn r s m gz B k := ⟨hm, hs⟩
  obtain ⟨t0, t1⟩ := step_in hq hk256 hcn
  obtain ⟨u1, u2⟩ := own_fq hcn t0 t1 hin.1 hin.2
  rw [← u1] at eQ
  clear eL
  clear hcn u1
  have hv : 1 ≤ (B.getD (gk s gz k) []).getD (bk r s k) 0 ∧ (B.getD (gk s gz k) []).getD (bk r s k) 0 ≤ 11 := by simpa [snt] using hs
  obtain ⟨v1, v2⟩ := hv
  clear hs
  generalize (B.getD (gk s gz k) []).getD (bk r s k) 0 = V at *
  generalize (B.getD (gk s gz k) []).length = Lb at *
  generalize (S.getD (gk s gz k) []).length = Ls at *
  clear hrB hrS
  generalize stp r s gz S k = T at *
  generalize lz.getD k 0 = X at *
  clear hT hqs hBr hSr rg rB rS rl I y0 y1 y2 y3 g1 g2 g3 g4 hf hf8 hgr hc hq hnb hl hL hB hS hgl hck hBl hSl hBm hSm hkm hkd hgl2 hk ex en hi hj hlnw hwnw
  obtain ⟨y0, y1, y2, y3⟩ := K1.out.y
  obtain ⟨M, hM⟩ : ∃ M, win s = M := ⟨_, rfl⟩
  rw [hM] at HW hD hM1 hxk hwin hnd
  clear hM
  obtain ⟨D, hDD⟩ : ∃ D, Int.tdiv 256 M = D := ⟨_, rfl⟩
  rw [hDD] at hD hxk hnd
  have hwD : wrap64 D = D := w64k ⟨by omega, by omega⟩
  have hm0 : ¬ M = 0 := by omega
  obtain ⟨p, hp⟩ : ∃ p, x * D = p := ⟨_, rfl⟩
  rw [hp] at hxk
  have hwp : wrap64 p = p := w64k ⟨by omega, by omega⟩
  have hwpn : wrap64 (p + n) = (k : Int) := by rw [w64k ⟨by omega, by omega⟩]; omega
  have h1 : ¬ x < 0 := by omega
  have h2 : ¬ M ≤ x := by omega
  have h3 : ¬ n < 0 := by omega
  have h4 : ¬ D ≤ n := by omega
  have h5 : (k : Int) < 256 := by omega
  have h6 : ((gk s gz k : Nat) : Int) < (B.length : Int) := by omega
  have h7 : ((gk s gz k : Nat) : Int) < (S.length : Int) := by omega
  generalize gk s gz k = g' at *
  generalize bk r s k = b' at *
  clear hxk
  have HC3 : Hid (∀ w', Below w.heap.size w w' → w'.cell? ⟨sb, so + g', none⟩ = some (.slice (some ⟨s2b, s2o, none⟩) Ls sc) ∧ w'.cell? ⟨s2b, s2o + b', none⟩ = some (.int .i64 T) ∧ w'.cell? ⟨ab, ao + k, none⟩ = some (.int .i64 X)) := Lib.hid fun w' hw => by obtain ⟨d1, d2, d3, d4, d5⟩ := HC.out w' hw; exact ⟨d3, d4, d5⟩
  have HL17 := Lib.hid (fun W (k : Fx.Qs W) => Fx.line_k X T (Fx.Kp.refl k))
  have HL19 := Lib.hid (fun W (k : Fx.Qs W) => Fx.quant_k X T (Fx.Kp.refl k))
  have e256 : (k : Int) < 256 := h5
  go_enter Tryd.func12, Tryd.ntmps12
  go_wp2_with (first
    | (go_at_call 36; ((with_reducible refine (HA.out).mono ?_); rintro e w1 ⟨rfl, hb1⟩; have K2 := Lib.hid (K1.out.on hb1); obtain ⟨c0, c1, c2, c3⟩ := K2.out.y))
    | (go_at_call 29; ((with_reducible refine (HG.out _ K2.out.b).mono ?_); rintro e w2 ⟨rfl, hb2⟩; have K3 := Lib.hid (K2.out.on hb2); obtain ⟨c0, c1, c2, c3⟩ := K3.out.y))
    | (go_at_call 31; ((with_reducible refine (X1.out _ K3.out).mono ?_); rintro e w3 ⟨f1, hf1, rfl, hb3⟩; have hf1' : (f1 != 0) = true := (by simpa using hf1); have hf1'' : (f1 == 0) = false := (by simpa using hf1); have K4 := Lib.hid (K3.out.on hb3); obtain ⟨c0, c1, c2, c3⟩ := K4.out.y))
    | (go_at_call 33; ((with_reducible refine (X2.out _ K4.out).mono ?_); rintro e w4 ⟨p2, rfl, hr2, _, hb4⟩; have R2 := Lib.hid hr2; clear hr2; have z4 := Lib.hid hb4; have K5 := Lib.hid (K4.out.on hb4); obtain ⟨c0, c1, c2, c3⟩ := K5.out.y))
    | (go_at_call 37; ((with_reducible refine (HW.out _ K5.out).mono ?_); rintro e w5 ⟨rfl, hb5⟩; have z5 := Lib.hid (belowT z4.out hb5); have y5 := Lib.hid hb5; have K6 := Lib.hid (K5.out.on hb5); obtain ⟨c0, c1, c2, c3⟩ := K6.out.y))
    | (go_at_call 38; ((with_reducible refine (X3.out _).mono ?_); rintro e w6 ⟨rfl, hb6⟩; have z6 := Lib.hid (belowT z5.out hb6); have y6 := Lib.hid (belowT y5.out hb6); have K7 := Lib.hid (K6.out.on hb6); obtain ⟨c0, c1, c2, c3⟩ := K7.out.y))
    | (go_at_call 39; ((with_reducible refine (X4.out _ K7.out).mono ?_); rintro e w7 ⟨rfl, hb7⟩; have z7 := Lib.hid (belowT z6.out hb7); have y7 := Lib.hid (belowT y6.out hb7); have K8 := Lib.hid (K7.out.on hb7); obtain ⟨c0, c1, c2, c3⟩ := K8.out.y; have q7 := (row_on R2.out y7.out).cell (i := k) (by omega); rw [eQ] at q7; obtain ⟨d1, d2, d3, d4, d5⟩ := HC.out _ K8.out.b)))
  obtain ⟨d1, d2, d3, d4, d5⟩ := HC.out _ K8.out.b
  go_region_held3 (fun w' => w'.cell? ⟨sb, so + g', none⟩ = some (.slice (some ⟨s2b, s2o, none⟩) Ls sc) ∧ w'.cell? ⟨s2b, s2o + b', none⟩ = some (.int .i64 T) ∧ w'.cell? ⟨ab, ao + k, none⟩ = some (.int .i64 X)) (first | exact HC3.out _ K8.out.b.drew | exact HC3.out _ K10.out.b) (first | (go_at_call 19; ((with_reducible refine (HL19.out _ (K8.out.on ((Below.refl _ _).drew)).q).mono ?_); rintro e w9 ⟨rfl, kp9⟩; have hb9 := kp9.2; have K10 := Lib.hid ((K8.out.on ((Below.refl _ _).drew)).on hb9); have y9 := Lib.hid (belowT (y7.out.drew) hb9))))
  have q9 := (row_on R2.out y9.out).cell (i := k) (by omega)
  rw [eQ] at q9
  go_wp2
  go_ret
  exact ⟨rfl, K10.out.b⟩


theorem named : Named Tryd.prog Rows.quantOwnRow.laid [(0, 80)] := ⟨by kernel_rfl, by kernel_rfl, trivial⟩
theorem flat1 : flats E Rows.quantOwnRow.laid [(0, 80)] = some [(0, [.int .i64 1073741824, .int .i64 1276901417, .int .i64 1518500250, .int .i64 1805811301])] := by kernel_rfl
theorem walk (a0 : Int) (a1s a1h a1m : Int) (a1a : Option Addr) (a1c : Nat) (a1z : List Int) (a2 : Option Addr) (len2 cap2 : Nat) (z2 : List (List Int)) (a3 : Option Addr) (len3 cap3 : Nat) (z3 : List (List Int)) (a4 : Option Addr) (len4 cap4 : Nat) (z4 : List Int) (a5 a6 : Int) (w : World)
    (_ : (Lit.int .i64 a0).wf = true) (_ : (Lit.int .u8 a1s).wf = true) (_ : (Lit.int .u8 a1h).wf = true) (_ : (Lit.int .i64 a1m).wf = true) (l1 : a1z.length ≤ maxLen) (r1 : RowA .i64 w a1a a1z) (_ : ∀ n ∈ a1z, (Lit.int .i64 n).wf = true) (w2 : Rws w a2 len2 cap2 z2) (w3 : Rws w a3 len3 cap3 z3) (w4 : Qn.IsRow .i64 w a4 len4 cap4 z4) (_ : (Lit.int .i64 a5).wf = true) (_ : (Lit.int .i64 a6).wf = true) (hL : laidMetH Tryd.prog Rows.quantOwnRow.laid w) :
    Calls Tryd.prog 12 #[.int .i64 a0, .agg #[.int .u8 a1s, .int .u8 a1h, .int .i64 a1m, .slice a1a a1z.length a1c], .slice a2 len2 cap2, .slice a3 len3 cap3, .slice a4 len4 cap4, .int .i64 a5, .int .i64 a6] w fun e w' => e = .returned (.bool true) ∧ Below w.heap.size w w' := by
  obtain ⟨rfl, rB, hBr, hB⟩ := w2
  obtain ⟨rfl, rS, hSr, hS⟩ := w3
  obtain ⟨lz, rfl, rl, hl⟩ := row_rd w4
  have hT : Tb w := laidG (by kernel_rfl) named flat1 hL
  have hqs := Fx.qs_of hL (by kernel_rfl) named flat1
  by_cases hgr : grt a1z.length z2 z3 lz.length = true
  · exact great a0 a1s a1h a1m a1a a1c a1z a2 a3 a4 cap2 cap3 cap4 z2 z3 lz a5 a6 w hT hqs l1 hB hS hl hBr hSr (rowa_rd r1) rB rS rl hgr
  have hgr' : grt a1z.length z2 z3 lz.length = false := by simpa using hgr
  by_cases hx : chk 11 a1s a1h a1m a1z ≠ 0 ∨ a5 < 0 ∨ win a1s ≤ a5 ∨ a6 < 0 ∨ Int.tdiv 256 (win a1s) ≤ a6 ∨ lz.length ≠ 256
  · exact early a0 a1s a1h a1m a1a a1c a1z a2 a3 a4 cap2 cap3 cap4 z2 z3 lz a5 a6 w hT hqs l1 hB hS hl hBr hSr (rowa_rd r1) rB rS rl hgr' hx
  have h1 : chk 11 a1s a1h a1m a1z = 0 := Classical.byContradiction fun hh => hx (.inl hh)
  have h2 : 0 ≤ a5 := by omega
  have h3 : a5 < win a1s := by omega
  have h4 : 0 ≤ a6 := by omega
  have h5 : a6 < Int.tdiv 256 (win a1s) := by omega
  have h6 : lz.length = 256 := by omega
  by_cases hf : Fine a0 a1s a1h a1m a1z z2 z3 lz 268435455
  · obtain ⟨i, ei⟩ : ∃ i : Nat, a5 = (i : Int) := ⟨a5.toNat, by omega⟩
    obtain ⟨j, ej⟩ : ∃ j : Nat, a6 = (j : Int) := ⟨a6.toNat, by omega⟩
    have hi : i < WN a1s := by rw [wn_win] at h3; omega
    have hj : j < LN a1s := by rw [tdl] at h5; omega
    obtain ⟨k, hk⟩ : ∃ k, k = i * LN a1s + j := ⟨_, rfl⟩
    have hsn : ∀ V : Int, ¬ V < 1 → ¬ 11 < V → snt V = true := fun V a b => by simp [snt]; omega
    by_cases hm : (bk a0 a1s k : Int) < a1m
    · by_cases hv1 : (z2.getD (gk a1s a1z k) []).getD (bk a0 a1s k) 0 < 1
      · by_cases hf8 : Fine a0 a1s a1h a1m a1z z2 z3 lz 8191
        · exact own_gl a0 a1s a1h a1m a1a a1c a1z a2 a3 a4 cap2 cap3 cap4 z2 z3 lz a5 a6 w hT hqs l1 hB hS hl hBr hSr (rowa_rd r1) rB rS rl hgr' h1 i j k ei ej hi hj hk h6 hf hf8 hm hv1
        · exact own_el a0 a1s a1h a1m a1a a1c a1z a2 a3 a4 cap2 cap3 cap4 z2 z3 lz a5 a6 w hT hqs l1 hB hS hl hBr hSr (rowa_rd r1) rB rS rl hgr' h1 i j k ei ej hi hj hk h6 hf hf8 hm hv1
      · by_cases hv2 : 11 < (z2.getD (gk a1s a1z k) []).getD (bk a0 a1s k) 0
        · by_cases hf8 : Fine a0 a1s a1h a1m a1z z2 z3 lz 8191
          · exact own_gu a0 a1s a1h a1m a1a a1c a1z a2 a3 a4 cap2 cap3 cap4 z2 z3 lz a5 a6 w hT hqs l1 hB hS hl hBr hSr (rowa_rd r1) rB rS rl hgr' h1 i j k ei ej hi hj hk h6 hf hf8 hm hv2
          · exact own_eu a0 a1s a1h a1m a1a a1c a1z a2 a3 a4 cap2 cap3 cap4 z2 z3 lz a5 a6 w hT hqs l1 hB hS hl hBr hSr (rowa_rd r1) rB rS rl hgr' h1 i j k ei ej hi hj hk h6 hf hf8 hm hv2
        · by_cases hf8 : Fine a0 a1s a1h a1m a1z z2 z3 lz 8191
          · exact own_gs a0 a1s a1h a1m a1a a1c a1z a2 a3 a4 cap2 cap3 cap4 z2 z3 lz a5 a6 w hT hqs l1 hB hS hl hBr hSr (rowa_rd r1) rB rS rl hgr' h1 i j k ei ej hi hj hk h6 hf hf8 hm (hsn _ hv1 hv2)
          · exact own_es a0 a1s a1h a1m a1a a1c a1z a2 a3 a4 cap2 cap3 cap4 z2 z3 lz a5 a6 w hT hqs l1 hB hS hl hBr hSr (rowa_rd r1) rB rS rl hgr' h1 i j k ei ej hi hj hk h6 hf hf8 hm (hsn _ hv1 hv2)
    · by_cases hf8 : Fine a0 a1s a1h a1m a1z z2 z3 lz 8191
      · exact own_gn a0 a1s a1h a1m a1a a1c a1z a2 a3 a4 cap2 cap3 cap4 z2 z3 lz a5 a6 w hT hqs l1 hB hS hl hBr hSr (rowa_rd r1) rB rS rl hgr' h1 i j k ei ej hi hj hk h6 hf hf8 hm
      · exact own_en a0 a1s a1h a1m a1a a1c a1z a2 a3 a4 cap2 cap3 cap4 z2 z3 lz a5 a6 w hT hqs l1 hB hS hl hBr hSr (rowa_rd r1) rB rS rl hgr' h1 i j k ei ej hi hj hk h6 hf hf8 hm
  · exact refused a0 a1s a1h a1m a1a a1c a1z a2 a3 a4 cap2 cap3 cap4 z2 z3 lz a5 a6 w hT hqs l1 hB hS hl hBr hSr (rowa_rd r1) rB rS rl hgr' h1 h2 h3 h4 h5 h6 hf
noncomputable def laidWorld (os : Os) : World := lay E Rows.quantOwnRow.laid [(0, 80)] (World.holding Tryd.prog os ⟨#[], #[.int .i64 0, .agg #[.int .u8 0, .int .u8 0, .int .i64 0, .slice none 0 0], .slice none 0 0, .slice none 0 0, .slice none 0 0, .int .i64 0, .int .i64 0], []⟩)
theorem laid_os (os : Os) : (laidWorld os).os = os := by kernel_rfl
theorem own : ownKnob Tryd.prog.godebug = none := by kernel_rfl
theorem laidOut : laidOutB Tryd.prog = true := by kernel_rfl
set_option linter.unusedVariables false
theorem laid_met (os : Os) (args : Array Value) : laidMet Tryd.prog Rows.quantOwnRow.laid ((laidWorld os).forCall (fun _ _ => 0) ⟨#[], args, []⟩).memory := laidMet_of_run' 8 (by kernel_rfl) (by kernel_rfl)
set_option maxRecDepth 100000 in
theorem lifted (os : Os) (started : os.Started) (H : Type) (enc : TypeId × Value → H) (F : Stop.Interp) :
    ReturnsInHanded {} Tryd.checked os 12 .any ((OpenSpec.ofChange Rows.quantOwnSpec).preRow enc Tryd.prog Tryd.f12 Rows.quantOwnRow.domain false Rows.quantOwnRow.laid) (((OpenSpec.ofChange Rows.quantOwnSpec).at F).post enc Tryd.prog Tryd.f12 false true false false) := by
  refine returnsInHanded_of_row (C := Tryd.checked) (s := OpenSpec.ofChange Rows.quantOwnSpec) own started (by kernel_rfl) Tryd.func12
    (witness_row_at (enc := enc) (C := Tryd.checked) false (laidWorld os) #[.int .i64 0, .agg #[.int .u8 0, .int .u8 0, .int .i64 0, .slice none 0 0], .slice none 0 0, .slice none 0 0, .slice none 0 0, .int .i64 0, .int .i64 0] (laid_os os) (by kernel_rfl) (by kernel_rfl) (by kernel_rfl)
      (OpenSpec.preRow_of_cond 8 (show DataW.whole enc Tryd.prog ((laidWorld os).forCall (fun _ _ => 0) ⟨#[], #[.int .i64 0, .agg #[.int .u8 0, .int .u8 0, .int .i64 0, .slice none 0 0], .slice none 0 0, .slice none 0 0, .slice none 0 0, .int .i64 0, .int .i64 0], []⟩).memory Tryd.f12.params.toList Rows.quantOwnSpec.vars false #[.int .i64 0, .agg #[.int .u8 0, .int .u8 0, .int .i64 0, .slice none 0 0], .slice none 0 0, .slice none 0 0, .slice none 0 0, .int .i64 0, .int .i64 0].toList 8 = some ([.lit (.int .i64 0), .agg [.lit (.int .u8 0), .lit (.int .u8 0), .lit (.int .i64 0), .nil], .nil, .nil, .nil, .lit (.int .i64 0), .lit (.int .i64 0)], [], []) by kernel_rfl) (by kernel_rfl) (fun k hk => by cases hk) (by kernel_rfl) (laid_met os _))) ?_
  intro W base args ds gs before hval0 hW _ _ _ hL _ _
  have hval : ∀ (j : Nat) t v, Tryd.f12.params[j]? = some t → args[j]? = some v → Value.okWide Tryd.prog W .any base t v := hval0
  have hW' := hW
  obtain ⟨p, q, hA0, hV, rfl, hfz, hnd⟩ := hW
  have hA : DataW.TrodAll enc Tryd.prog W 0 (fun _ => true) true Tryd.f12.params.toList args.toList ds p := hA0
  rw [Tryd.params12] at hA hval
  obtain ⟨v0, vs0, d0, ds0, p0, q0, hargs, rfl, rfl, h0, r0⟩ := trodAll_cons hA
  obtain ⟨v1, vs1, d1, ds1, p1, q1, rfl, rfl, rfl, h1, r1⟩ := trodAll_cons r0
  obtain ⟨v2, vs2, d2, ds2, p2, q2, rfl, rfl, rfl, h2, r2⟩ := trodAll_cons r1
  obtain ⟨v3, vs3, d3, ds3, p3, q3, rfl, rfl, rfl, h3, r3⟩ := trodAll_cons r2
  obtain ⟨v4, vs4, d4, ds4, p4, q4, rfl, rfl, rfl, h4, r4⟩ := trodAll_cons r3
  obtain ⟨v5, vs5, d5, ds5, p5, q5, rfl, rfl, rfl, h5, r5⟩ := trodAll_cons r4
  obtain ⟨v6, vs6, d6, ds6, p6, q6, rfl, rfl, rfl, h6, r6⟩ := trodAll_cons r5
  obtain ⟨rfl, rfl, rfl⟩ := trodAll_nil r6
  obtain rfl : args = #[v0, v1, v2, v3, v4, v5, v6] := by cases args; simp_all
  obtain ⟨rfl, rfl⟩ := trodVars_none hV
  obtain ⟨a0, rfl, rfl, rfl, w0⟩ := open_int Tryd.underlying3 (hval 0 3 v0 rfl rfl) h0
  have k1 := h1
  have lt1 : ∀ x ∈ p1, x.block < W.heap.size := by obtain ⟨m, hm⟩ := k1; exact DataW.trod_lt m _ _ _ hm
  obtain ⟨a1s, a1h, a1m, a1a, a1c, a1z, rfl, w1s, w1h, w1m, l1, r1r, e1⟩ := open_info Tryd.underlying50 rfl rfl rfl rfl Tryd.underlying5 Tryd.underlying5 Tryd.underlying3 Tryd.underlying39 Tryd.underlying3 (by kernel_rfl) (by kernel_rfl) (by kernel_rfl) (by kernel_rfl) (by kernel_rfl) (by kernel_rfl) (hval 1 50 v1 rfl rfl) h1
  obtain ⟨a2, len2, cap2, rfl⟩ := okWide_slice Tryd.underlying51 (hval 2 51 v2 rfl rfl)
  have k2 := h2
  have lt2 : ∀ x ∈ p2, x.block < W.heap.size := by obtain ⟨m, hm⟩ := k2; exact DataW.trod_lt m _ _ _ hm
  obtain ⟨z2, w2⟩ := open_rows Tryd.underlying51 Tryd.underlying39 Tryd.underlying3 (by kernel_rfl) (by kernel_rfl) h2
  obtain ⟨a3, len3, cap3, rfl⟩ := okWide_slice Tryd.underlying51 (hval 3 51 v3 rfl rfl)
  have k3 := h3
  have lt3 : ∀ x ∈ p3, x.block < W.heap.size := by obtain ⟨m, hm⟩ := k3; exact DataW.trod_lt m _ _ _ hm
  obtain ⟨z3, w3⟩ := open_rows Tryd.underlying51 Tryd.underlying39 Tryd.underlying3 (by kernel_rfl) (by kernel_rfl) h3
  obtain ⟨a4, len4, cap4, rfl⟩ := okWide_slice Tryd.underlying39 (hval 4 39 v4 rfl rfl)
  have k4 := h4
  have lt4 : ∀ x ∈ p4, x.block < W.heap.size := by obtain ⟨m, hm⟩ := k4; exact DataW.trod_lt m _ _ _ hm
  obtain ⟨z4, w4⟩ : ∃ zs, IsRow .i64 W a4 len4 cap4 zs := by
    obtain ⟨fuel, hf⟩ := h4
    rcases open_ints Tryd.underlying39 Tryd.underlying3 (by kernel_rfl) hf with ⟨hcs, _⟩ | ⟨x, l, c, zs, hcs, _, hl, hm, hz, _, hcell, hwz⟩
    · simp [Value.cells] at hcs
      obtain ⟨rfl, rfl, rfl⟩ := hcs
      exact ⟨[], .inl ⟨rfl, rfl, rfl, rfl⟩⟩
    · simp [Value.cells] at hcs
      obtain ⟨rfl, rfl, rfl⟩ := hcs
      exact ⟨zs, .inr ⟨_, rfl, hl, hm, by simpa using hz, hcell, hwz⟩⟩
  obtain ⟨a5, rfl, rfl, rfl, w5⟩ := open_int Tryd.underlying3 (hval 5 3 v5 rfl rfl) h5
  obtain ⟨a6, rfl, rfl, rfl, w6⟩ := open_int Tryd.underlying3 (hval 6 3 v6 rfl rfl) h6
  clear hA0 hval0
  refine (walk a0 a1s a1h a1m a1a a1c a1z a2 len2 cap2 z2 a3 len3 cap3 z3 a4 len4 cap4 z4 a5 a6 W w0 w1s w1h w1m l1 r1r e1 w2 w3 w4 w5 w6 hL).mono fun e W' ⟨he, bel⟩ => ?_
  subst he
  exact ⟨_, rfl, _, _, _, [], _, [], hW', trodAll_mk1 (shut_bool Tryd.underlying4 _), (trodAll_cons_mk (shut_int Tryd.underlying3 w0) (trodAll_cons_mk (Below.trod laidOut (by kernel_rfl) (of_decide_eq_true (by kernel_rfl)) k1 bel lt1) (trodAll_cons_mk (Below.trod laidOut (by kernel_rfl) (of_decide_eq_true (by kernel_rfl)) k2 bel lt2) (trodAll_cons_mk (Below.trod laidOut (by kernel_rfl) (of_decide_eq_true (by kernel_rfl)) k3 bel lt3) (trodAll_cons_mk (Below.trod laidOut (by kernel_rfl) (of_decide_eq_true (by kernel_rfl)) k4 bel lt4) (trodAll_cons_mk (shut_int Tryd.underlying3 w5) (trodAll_cons_mk (shut_int Tryd.underlying3 w6) trodAll_mk0))))))), rfl, bel.frame _, fun h => by cases h⟩

theorem said : Rows.QuantOwnSaid :=
  OpenClaim.holds_of_cond 12 Tryd.f12 rfl rfl rfl rfl rfl rfl rfl ⟨rfl, rfl, rfl, rfl, rfl⟩ rfl rfl rfl rfl rfl (by kernel_rfl) Tryd.func12 (by kernel_rfl)
    (of_decide_eq_true (by kernel_rfl)) (by unfold Func.isWrapper; first | (rw [if_pos (by decide +kernel)]; kernel_rfl) | (rw [if_neg (by decide +kernel)]; exact ⟨rfl, rfl⟩))
    (fun os started H enc _ F => by rw [OpenClaim.pre_eq_preRow]; exact lifted os started H enc F)

theorem plain (f : FuncId) (fn : Func) (hf : Tryd.pinned.checked.prog.funcNamed "reedpipe/reedpipelaw14.QuantOwn" = some f) (hfn : Tryd.pinned.checked.prog.funcs[f]? = some fn) :
    false = Tryd.pinned.checked.prog.looks [] ∧ ∀ (j : Nat) t, fn.params[j]? = some t → Tryd.pinned.checked.prog.wantsStandIn t = false := by
  obtain rfl : f = 12 := Option.some.inj ((show Tryd.prog.funcNamed "reedpipe/reedpipelaw14.QuantOwn" = some 12 by kernel_rfl).symm.trans hf) |>.symm
  obtain rfl : fn = Tryd.f12 := (Option.some.inj (Tryd.func12.symm.trans hfn)).symm
  refine ⟨by kernel_rfl, fun j t ht => ?_⟩
  rw [Tryd.params12] at ht
  have hm : t ∈ [3, 50, 51, 51, 39, 3, 3] := by simpa using Array.mem_of_getElem? ht
  have hall : ([3, 50, 51, 51, 39, 3, 3].all fun u => !Tryd.prog.wantsStandIn u) = true := by kernel_rfl
  exact (show Tryd.prog.wantsStandIn t = false by simpa using List.all_eq_true.1 hall t hm)

theorem proved : Rows.QuantOwnCardSaid :=
  Claim7.holds_tied_plain_at .later [] _ _ _ _ said (fun _ h => by cases h) (by kernel_rfl) (fun _ h => by cases h) quantOwn_row_tie rfl ⟨rfl, rfl⟩ (by kernel_rfl) rfl plain (by kernel_rfl)


end Go.Proofs.YtanjcbnkkhbkkaaDoor.quantOwn
