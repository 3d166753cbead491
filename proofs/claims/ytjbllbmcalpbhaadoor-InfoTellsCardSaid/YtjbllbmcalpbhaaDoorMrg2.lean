/- Texts of one claim, one behind the other: ItIn, ItSm, ItTw. -/
import Derived.Test.YtjbllbmcalpbhaaDoorMrg1
import Derived.WalkKit
import Derived.Below
import Derived.Laws.AppendOwn
import Derived.Laws.AppendOwnNone
import Derived.RegionTactic
import Derived.Deep.QuietTactic
import Derived.BigQuiet
import Derived.WalkSpells
import Derived.ProofKit
import Derived.OpenShut
import Derived.Lib.Hide
import Derived.Laws.OwnMore
set_option linter.unusedVariables false
/- Each window's group, and windows that are the same. -/
namespace Go.Proofs.YtjbllbmcalpbhaaDoor.It
open Go Go.ChangeShapes Go.WideShapes Go.ChangeAt Go.RowKit Go.Proofs.YtjbllbmcalpbhaaDoor.Lo Go.Proofs.YtjbllbmcalpbhaaDoor.Bd Go.Proofs.YtjbllbmcalpbhaaDoor.If

def intOf : Value → Int | .int _ q => q | _ => 0
theorem own_mono {b c : Nat} {w : World} {v : Value} {zs : List Int} (h : Own c w v zs) (hbc : b ≤ c) : Own b w v zs := by
  obtain ⟨h0, h1⟩ := h
  refine ⟨h0, ?_⟩
  rcases h1 with h1 | ⟨g, cap, cur, e, hg, r⟩
  · exact .inl h1
  · exact .inr ⟨g, cap, cur, e, Nat.le_trans hbc hg, r⟩
set_option maxRecDepth 100000 in
set_option maxHeartbeats 4000000 in
theorem in_ok (s h m : Int) (a : Option Addr) (cap : Nat) (zs : List Int) (w : World) (hl : zs.length ≤ 1000) (hr : RdA w a zs) (l : Int) (l0 : 0 ≤ l) (l8 : l ≤ 8) (hg : grp zs l = true) :
    Calls Tryd.prog 19 #[.agg #[.int .u8 s, .int .u8 h, .int .i64 m, .slice a zs.length cap]] w fun e w' => ∃ v, e = .returned v ∧ Own w.heap.size w' v (ins 0 zs) ∧ Below w.heap.size w w' := by
  obtain ⟨i0, hi, hz0, hz1, hz2⟩ := info_parts info3
  have HB := Lib.hid (box_below w (.cells #[.int .u8 s, .int .u8 h, .int .i64 m, .slice a zs.length cap] 24))
  have HR := Lib.hid (fun w1 (k : Below w.heap.size w w1) => hr.below k)
  have HX := Lib.hid (fun x hx => boxed w s h m (.slice a zs.length cap) x hx)
  have HY : Hid (∀ x, Below (w.alloc (.cells #[.int .u8 s, .int .u8 h, .int .i64 m, .slice a zs.length cap] 24)).heap.size (w.alloc (.cells #[.int .u8 s, .int .u8 h, .int .i64 m, .slice a zs.length cap] 24)) x → Below w.heap.size w x) := Lib.hid (fun x hx => box_k hx)
  have hlen := ins_len zs l 0 hg
  have HLEN := Lib.hid hlen
  clear hr hlen
  obtain ⟨R, hR⟩ : ∃ R, ins 0 zs = R := ⟨_, rfl⟩
  have HP : Hid (([] : List Int) ++ ins 0 (zs.drop 0) = R) := Lib.hid (by simpa using hR)
  rw [hR] at HLEN
  rw [hR]
  have HG : Hid (grp (zs.drop 0) l = true) := Lib.hid (by simpa using hg)
  clear hR hg
  have how : Own w.heap.size (w.alloc (.cells #[.int .u8 s, .int .u8 h, .int .i64 m, .slice a zs.length cap] 24)) (.slice none 0 0) [] := World.ownsRow_nil _ _ 3 1
  go_enter Tryd.func19, Tryd.ntmps19
  go_wp2
  have hs0 : w.heap.size + 1 = (w.alloc (.cells #[.int .u8 s, .int .u8 h, .int .i64 m, .slice a zs.length cap] 24)).heap.size := by simp
  generalize hw0 : w.alloc (.cells #[.int .u8 s, .int .u8 h, .int .i64 m, .slice a zs.length cap] 24) = w0 at *
  have how0 : Own w0.heap.size w0 (.slice none 0 0) [] := World.ownsRow_nil _ _ 3 1
  clear hw0 how
  go_loopw [3, 4, 5] (fun v gv kv wr => ∃ (g : Nat) (pre : List Int) (lf : Int), g ≤ zs.length ∧ gv = .int .i64 g ∧ Own w0.heap.size wr v pre ∧ Hid (pre ++ ins g (zs.drop g) = R) ∧ Hid (grp (zs.drop g) lf = true) ∧ 0 ≤ lf ∧ (pre.length : Int) + lf = l ∧ Below w0.heap.size w0 wr) (fun _ gv _ _ => zs.length - (intOf gv).toNat)
  case atStart => exact ⟨0, [], l, by omega, rfl, how0, HP, HG, l0, by simp, Below.refl _ _⟩
  case round =>
    obtain ⟨g, pre, lf, hk, rfl, hown, hP, hG, lf0, hlf, hb⟩ := hrel
    obtain ⟨z0, z1, z2, z3⟩ := HX.out wr hb
    have hbw := HY.out wr hb
    by_cases hlt : g < zs.length
    · have hgg := hG.out
      have hpp := hP.out
      rw [grp_at hlt] at hgg
      rw [ins_at hlt] at hpp
      have hzs := HR.out _ hbw g hlt
      have HZ := Lib.hid (fun x (hx : Below w0.heap.size w0 x) => HR.out x (HY.out x hx) g hlt)
      clear hG hP HG HP
      generalize zs.getD g 0 = n at *
      have hn : ¬ (n < 1 ∨ lf < n) := fun c => by rw [if_pos c] at hgg; simp at hgg
      rw [if_neg hn] at hgg
      have n0 : 1 ≤ n := by omega
      have n1 : n ≤ lf := by omega
      clear hn
      obtain ⟨nn, rfl⟩ : ∃ nn : Nat, n = nn := ⟨n.toNat, by omega⟩
      have HGG := Lib.hid hgg
      have HPP : Hid ((pre ++ List.replicate 0 (g : Int)) ++ (List.replicate (nn - 0) (g : Int) ++ ins (g + 1) (zs.drop (g + 1))) = R) := Lib.hid (by simpa using hpp)
      clear hgg hpp hzs
      have hown0 : Own w0.heap.size wr (u3) (pre ++ List.replicate 0 (g : Int)) := by simpa using hown
      clear hown z0 z1 z2 hbw
      go_wp2
      have hbo := hb
      clear hb z3
      generalize wr = wo at *
      go_loopw [3, 5] (fun v kv wr => ∃ (k : Nat), k ≤ nn ∧ kv = .int .i64 k ∧ Own w0.heap.size wr v (pre ++ List.replicate k (g : Int)) ∧ Hid ((pre ++ List.replicate k (g : Int)) ++ (List.replicate (nn - k) (g : Int) ++ ins (g + 1) (zs.drop (g + 1))) = R) ∧ Below w0.heap.size w0 wr) (fun _ kv _ => nn - (intOf kv).toNat)
      case atStart => exact ⟨0, by omega, rfl, hown0, HPP, hbo⟩
      case round =>
        obtain ⟨k, hkk, rfl, hown, hP, hb⟩ := hrel
        obtain ⟨b, off, rfl, hlb, c⟩ := HZ.out wr hb
        obtain ⟨z0, z1, z2, z3⟩ := HX.out wr hb
        have hle : w0.heap.size ≤ wr.heap.size := hb.size
        clear z0 z1 z2 hown0 HPP
        have hpl : (pre ++ List.replicate k (g : Int)).length = pre.length + k := by simp
        obtain ⟨pk, hpk⟩ : ∃ pk, pk = pre ++ List.replicate k (g : Int) := ⟨_, rfl⟩
        rw [← hpk] at hown hP hpl
        have HPK := Lib.hid hpk
        clear hpk
        by_cases hkn : k < nn
        · have hpl8 : pk.length ≤ 8 := by omega
          go_wp2_with (at_builtin; refine wpList_append_own _ rfl (.tmp 22) (.tmp 24) 22 rfl w0.heap.size 3 i0 (.int .i64 0) 1 8 Tryd.underlying22 hi hz0 hz1 hz2 rfl (by decide) _ _ _ rfl (World.ownsRow.alloc hown _) ⟨wr.heap.size, 0, none⟩ 1 1 [.int .i64 g] rfl rfl ?c1 ?c2 ?c3 ?c4 ?c5 ?_)
          first
          | case c1 =>
              intro j u hj
              match j, hj with
              | 0, hj => simp at hj; subst hj; simp [Addr.add]
          | skip
          case c2 => intro u hu; simp at hu; subst hu; rfl
          case c3 => unfold maxLen; first | omega | (simp; done) | (simp; omega)
          case c4 => first | omega | (simp; done) | (simp; omega)
          case c5 => first | omega | (simp; done) | (simp; omega)
          intro v2 w2 hown2 hgrow2 _
          have ho2 : Own w0.heap.size w2 v2 (pk ++ [(g : Int)]) := own_push (by rw [hpl]; exact hown2)
          have hb2 : Below w0.heap.size w0 w2 := below_grown (hb.alloc hle _) (hown.alloc _) (Nat.le_refl _) hgrow2
          have he : pk ++ [(g : Int)] = pre ++ List.replicate (k + 1) (g : Int) := by rw [HPK.out, List.append_assoc, List.replicate_succ']
          rw [he] at ho2
          have HQ : Hid ((pre ++ List.replicate (k + 1) (g : Int)) ++ (List.replicate (nn - (k + 1)) (g : Int) ++ ins (g + 1) (zs.drop (g + 1))) = R) := Lib.hid (by
            rw [← hP.out, ← he, show nn - k = (nn - (k + 1)) + 1 by omega, List.replicate_succ]; simp)
          clear he hP
          go_wp2
          go_roundw
          case rel => exact ⟨k + 1, by omega, by go_num, ho2, HQ, hb2⟩
          case measure => simp [intOf]; omega
        · have hkn' : k = nn := by omega
          subst hkn'
          have HQ : Hid (pk ++ ins (g + 1) (zs.drop (g + 1)) = R) := Lib.hid (by rw [← hP.out]; simp)
          clear hP
          go_wp2
          go_roundw
          case rel => exact ⟨g + 1, pk, lf - k, by omega, by go_num, hown, HQ, HGG, by omega, by omega, hb⟩
          case measure => simp [intOf]; omega
    · have hend : g = zs.length := by omega
      have hpp := hP.out
      rw [hend] at hpp
      simp [ins] at hpp
      subst hpp
      clear hP hG HP HG
      have hlt2 : ¬ (g : Int) < zs.length := by omega
      go_wp2
      go_ret
      exact ⟨_, rfl, own_mono hown (by omega), hbw⟩
end Go.Proofs.YtjbllbmcalpbhaaDoor.It

/- Which group a window is in, and windows that are the same. -/
namespace Go.Proofs.YtjbllbmcalpbhaaDoor.It
open Go Go.ChangeShapes Go.WideShapes Go.ChangeAt Go.RowKit Go.Proofs.YtjbllbmcalpbhaaDoor.Lo Go.Proofs.YtjbllbmcalpbhaaDoor.Bd Go.Proofs.YtjbllbmcalpbhaaDoor.If

theorem own_get {base : Nat} {w : World} {v : Value} {zs : List Int} (h : Own base w v zs) {i : Nat} (hi : i < zs.length) : ∃ g cap, v = .slice (some ⟨g, 0, none⟩) zs.length cap ∧ w.cell? ⟨g, i, none⟩ = some (.int .i64 (zs.getD i 0)) := by
  obtain ⟨g, cap, rfl, _, hr⟩ := Own.row h (by omega)
  exact ⟨g, cap, rfl, hr.cell hi⟩
/-- The group that both answer. -/
def gA (s h m : Int) (zs : List Int) (x : Int) : Int := if chk 11 s h m zs ≠ 0 ∨ x < 0 ∨ win s ≤ x then 0 else gof zs x
def gB (s h m : Int) (zs : List Int) (x : Int) : Int := if chk 11 s h m zs ≠ 0 then 8 else if x < 0 ∨ win s ≤ x then 2 else 0
theorem group_k (s h m : Int) (a : Option Addr) (cap : Nat) (zs : List Int) (x : Int) (w : World) (hl : zs.length ≤ 1000) (hr : RdA w a zs) :
    Calls Tryd.prog 7 #[.agg #[.int .u8 s, .int .u8 h, .int .i64 m, .slice a zs.length cap], .int .i64 x] w fun e w' => e = .returned (.tuple #[.int .i64 (gA s h m zs x), .int .i64 (gB s h m zs x)]) ∧ Below w.heap.size w w' := by
  unfold gA gB
  by_cases c : chk 11 s h m zs = 0
  · by_cases d : x < 0 ∨ win s ≤ x
    · rw [if_pos (.inr d), if_neg (by simp [c]), if_pos d]
      exact group_out s h m a cap zs x w (by omega) hr c d
    · rw [if_neg (by simp only [c]; omega), if_neg (by simp [c]), if_neg d]
      exact group_ok s h m a cap zs x w (by omega) hr c (by omega) (by omega)
  · rw [if_pos (.inl c), if_pos c]
    have := group_bad s h m a cap zs x w (by omega) hr c
    rcases chk_two (r := 11) (s := s) (h := h) (m := m) (zs := zs) (by omega) (by omega) with e | e
    · exact absurd e c
    · rw [e] at this; exact this
set_option maxRecDepth 100000 in
set_option maxHeartbeats 2000000 in
theorem rgroup_k (s h m : Int) (a : Option Addr) (cap : Nat) (zs : List Int) (x : Int) (w : World) (hl : zs.length ≤ 1000) (hr : RdA w a zs) (x0 : -9223372036854775808 ≤ x) (x1 : x ≤ 9223372036854775807) :
    Calls Tryd.prog 8 #[.agg #[.int .u8 s, .int .u8 h, .int .i64 m, .slice a zs.length cap], .int .i64 x] w fun e w' => e = .returned (.tuple #[.int .i64 (gA s h m zs x), .int .i64 (gB s h m zs x)]) ∧ Below w.heap.size w w' := by
  have HB := Lib.hid (box_below w (.cells #[.int .u8 s, .int .u8 h, .int .i64 m, .slice a zs.length cap] 24))
  have HS := Lib.hid (fun w1 (k : Below w.heap.size w w1) => some_ok s h m a cap zs w1 (by omega) (hr.below k))
  have HM := Lib.hid (fun w1 => rmany10 s h m (.slice a zs.length cap) w1)
  have HX := Lib.hid (fun y hy => boxed w s h m (.slice a zs.length cap) y hy)
  by_cases c : chk 11 s h m zs = 0
  · have hg : grp zs (win s) = true := by
      unfold chk at c
      rw [if_neg (by omega)] at c
      cases hgg : grp zs (win s)
      · rw [if_pos (.inr (.inr (.inr (.inr hgg))))] at c; omega
      · rfl
    have wb := win_bd s
    have HI := Lib.hid (fun w1 (k : Below w.heap.size w w1) => in_ok s h m a cap zs w1 hl (hr.below k) (win s) (by omega) wb.2 hg)
    have hlen := ins_len zs (win s) 0 hg
    have hget := ins_get zs (win s) x 0 hg
    unfold gA gB
    clear hr
    rw [c] at HS
    rw [show ((0 : Int) == 0) = true from rfl] at HS
    by_cases d0 : x < 0
    · rw [if_pos (.inr (.inl d0)), if_neg (by simp [c]), if_pos (.inl d0)]
      clear c hg hlen hget HI
      go_enter Tryd.func8, Tryd.ntmps8
      go_wp2_with (first
        | (go_at_call 17; ((with_reducible refine (HS.out _ HB.out).mono ?_); rintro e w1 ⟨rfl, hb⟩; obtain ⟨z0, z1, z2, z3⟩ := HX.out w1 hb; have hb1 := box_k hb; clear hb))
        | (go_at_call 18; ((with_reducible refine (HM.out _).mono ?_); rintro e w2 ⟨rfl, hb⟩; have hb2 := bT hb1 hb; clear hb)))
      go_ret2
      exact ⟨rfl, hb1⟩
    by_cases d1 : win s ≤ x
    · rw [if_pos (.inr (.inr d1)), if_neg (by simp [c]), if_pos (.inr d1)]
      clear c hg hlen hget HI
      generalize win s = W at *
      go_enter Tryd.func8, Tryd.ntmps8
      go_wp2_with (first
        | (go_at_call 17; ((with_reducible refine (HS.out _ HB.out).mono ?_); rintro e w1 ⟨rfl, hb⟩; obtain ⟨z0, z1, z2, z3⟩ := HX.out w1 hb; have hb1 := box_k hb; clear hb))
        | (go_at_call 18; ((with_reducible refine (HM.out _).mono ?_); rintro e w2 ⟨rfl, hb⟩; have hb2 := bT hb1 hb; clear hb)))
      go_ret2
      exact ⟨rfl, hb2⟩
    · rw [if_neg (by simp only [c]; omega), if_neg (by simp [c]), if_neg (by omega)]
      have hx := hget (by omega) (by omega)
      clear c hg hget
      generalize win s = W at *
      generalize gof zs x = G at *
      generalize ins 0 zs = L at *
      obtain ⟨k, rfl⟩ : ∃ k : Nat, x = k := ⟨x.toNat, by omega⟩
      have hkl : k < L.length := by omega
      rw [Int.toNat_natCast] at hx
      have hx2 : L.getD k 0 = G := by omega
      clear hx
      have HLW := Lib.hid hlen
      go_enter Tryd.func8, Tryd.ntmps8
      go_wp2_with (first
        | (go_at_call 17; ((with_reducible refine (HS.out _ HB.out).mono ?_); rintro e w1 ⟨rfl, hb⟩; obtain ⟨z0, z1, z2, z3⟩ := HX.out w1 hb; have hb1 := box_k hb; have H0 := Lib.hid hb; clear hb))
        | (go_at_call 18; ((with_reducible refine (HM.out _).mono ?_); rintro e w2 ⟨rfl, hb⟩; obtain ⟨y0, y1, y2, y3⟩ := HX.out w2 (bT H0.out hb); have hb2 := bT hb1 hb; clear hb))
        | (go_at_call 19; ((with_reducible refine (HI.out _ hb2).mono ?_); rintro e w3 ⟨v, rfl, ho, hb⟩; have hb3 := bT hb2 hb; obtain ⟨g, cp, rfl, hc⟩ := own_get ho hkl; rw [hx2] at hc; clear hb ho)))
      go_ret2
      exact ⟨rfl, hb3⟩
  · have h2 := chk_two (r := 11) (s := s) (h := h) (m := m) (zs := zs) (by omega) (by omega)
    unfold gA gB
    rw [if_pos (.inl c), if_pos c]
    clear hr
    generalize chk 11 s h m zs = C at *
    obtain rfl : C = 8 := by omega
    rw [show ((8 : Int) == 0) = false from rfl] at HS
    clear c h2
    go_enter Tryd.func8, Tryd.ntmps8
    go_wp2_with (first
        | (go_at_call 17; ((with_reducible refine (HS.out _ HB.out).mono ?_); rintro e w1 ⟨rfl, hb⟩; obtain ⟨z0, z1, z2, z3⟩ := HX.out w1 hb; have hb1 := box_k hb; clear hb))
        | (go_at_call 18; ((with_reducible refine (HM.out _).mono ?_); rintro e w2 ⟨rfl, hb⟩; have hb2 := bT hb1 hb; clear hb)))
    go_ret2
    exact ⟨rfl, hb1⟩
set_option maxRecDepth 100000 in
set_option maxHeartbeats 2000000 in
theorem ints_ok (a b : Option Addr) (c d : Nat) (xs ys : List Int) (w : World) (hl : xs.length ≤ 1000) (hm : ys.length ≤ maxLen) (hx : RdA w a xs) (hy : RdA w b ys) :
    Calls Tryd.prog 25 #[.slice a xs.length c, .slice b ys.length d] w fun e w' => e = .returned (.bool (xs == ys)) ∧ Below w.heap.size w w' := by
  unfold maxLen at hm
  by_cases hne : xs.length = ys.length
  · have HX := Lib.hid (fun w1 (k : Below w.heap.size w w1) => hx.below k)
    have HY := Lib.hid (fun w1 (k : Below w.heap.size w w1) => hy.below k)
    clear hx hy
    obtain ⟨R, hR⟩ : ∃ R, R = (xs == ys) := ⟨_, rfl⟩
    rw [← hR]
    have HV := Lib.hid hR
    clear hR
    have HNE := Lib.hid hne
    rw [← hne]
    clear hne hm
    go_enter Tryd.func25, Tryd.ntmps25
    go_wp2
    go_loopw [5] (fun iv wr => ∃ k : Nat, k ≤ xs.length ∧ iv = .int .i64 k ∧ Below w.heap.size w wr ∧ Hid (xs.take k = ys.take k)) (fun iv _ => xs.length - (intOf iv).toNat)
    case atStart => exact ⟨0, by omega, rfl, Below.refl _ _, Lib.hid (by simp)⟩
    case round =>
      obtain ⟨k, hk, rfl, hb, ht⟩ := hrel
      by_cases hlt : k < xs.length
      · obtain ⟨b1, o1, e1, _, q1⟩ := HX.out wr hb k hlt
        obtain ⟨b2, o2, e2, _, q2⟩ := HY.out wr hb k (by have := HNE.out; omega)
        have hlt2 : k < ys.length := by have := HNE.out; omega
        have hxk : xs.getD k 0 = xs[k] := by simp [hlt]
        have hyk : ys.getD k 0 = ys[k] := by simp [hlt2]
        have HD : Hid (xs.getD k 0 ≠ ys.getD k 0 → (xs == ys) = false) := Lib.hid (fun q => by
          have : xs ≠ ys := fun e => q (by rw [e])
          simpa using this)
        have HE : Hid (xs.getD k 0 = ys.getD k 0 → xs.take (k + 1) = ys.take (k + 1)) := Lib.hid (fun q => by
          rw [hxk, hyk] at q
          rw [List.take_add_one, List.take_add_one, ht.out, List.getElem?_eq_getElem hlt, List.getElem?_eq_getElem hlt2, q])
        clear hxk hyk ht
        subst e1 e2
        generalize xs.getD k 0 = x at *
        generalize ys.getD k 0 = y at *
        clear HX HY
        by_cases hxy : x = y
        · subst hxy
          have HE2 := Lib.hid (HE.out rfl)
          clear HE HD
          go_wp2
          go_quiet (fail)
          go_wp2
          go_roundw
          case rel => exact ⟨k + 1, by omega, by go_num, hb.trans ((drewN_below wr nq).mono hb.size), HE2⟩
          case measure => simp [intOf]; omega
        · obtain rfl : R = false := by rw [HV.out]; exact HD.out hxy
          have hx1 : (x == y) = false := by simpa using hxy
          have hx2 : (x != y) = true := by simp [hxy]
          clear HE HD HV
          go_wp2
          go_quiet (fail)
          go_wp2
          go_ret
          exact ⟨rfl, hb.trans ((drewN_below wr nq).mono hb.size)⟩
      · have hend : k = xs.length := by omega
        have ht2 := ht.out
        rw [hend, List.take_length, HNE.out, List.take_length] at ht2
        obtain rfl : R = true := by rw [HV.out, ht2]; simp
        clear ht ht2 HV
        have hlt3 : ¬ (k : Int) < xs.length := by omega
        go_wp2
        go_ret
        exact ⟨rfl, hb⟩
  · have hf : (xs == ys) = false := by
      have : xs ≠ ys := fun e => hne (by rw [e])
      simpa using this
    rw [hf]
    have h1 : ((xs.length : Int) == (ys.length : Int)) = false := by simp; omega
    have h2 : ((xs.length : Int) != (ys.length : Int)) = true := by simp; omega
    have h3 : ¬ (xs.length : Int) = (ys.length : Int) := by omega
    clear hf hx hy hm hl
    go_enter Tryd.func25, Tryd.ntmps25
    go_wp2
    go_ret
    exact ⟨rfl, Below.refl _ _⟩
set_option maxRecDepth 100000 in
set_option maxHeartbeats 2000000 in
theorem equal_ok (a b : Option Addr) (c d : Nat) (xs ys : List Int) (w : World) (hl : xs.length ≤ 1000) (hm : ys.length ≤ maxLen) (hx : RdA w a xs) (hy : RdA w b ys) :
    Calls Tryd.prog 24 #[.slice a xs.length c, .slice b ys.length d] w fun e w' => e = .returned (.bool (xs == ys)) ∧ Below w.heap.size w w' := by
  unfold maxLen at hm
  by_cases hne : xs.length = ys.length
  · have HX := Lib.hid (fun w1 (k : Below w.heap.size w w1) => hx.below k)
    have HY := Lib.hid (fun w1 (k : Below w.heap.size w w1) => hy.below k)
    clear hx hy
    obtain ⟨R, hR⟩ : ∃ R, R = (xs == ys) := ⟨_, rfl⟩
    rw [← hR]
    have HV := Lib.hid hR
    clear hR
    have HNE := Lib.hid hne
    rw [← hne]
    clear hne hm
    go_enter Tryd.func24, Tryd.ntmps24
    go_wp2
    go_loopw [5, 13] (fun jv iv wr => ∃ k : Nat, k ≤ xs.length ∧ iv = .int .i64 k ∧ Below w.heap.size w wr ∧ Hid (xs.take k = ys.take k)) (fun jv iv _ => xs.length - (intOf iv).toNat)
    case atStart => exact ⟨0, by omega, rfl, Below.refl _ _, Lib.hid (by simp)⟩
    case round =>
      obtain ⟨k, hk, rfl, hb, ht⟩ := hrel
      by_cases hlt : k < xs.length
      · obtain ⟨b1, o1, e1, _, q1⟩ := HX.out wr hb k hlt
        obtain ⟨b2, o2, e2, _, q2⟩ := HY.out wr hb k (by have := HNE.out; omega)
        have hlt2 : k < ys.length := by have := HNE.out; omega
        have hxk : xs.getD k 0 = xs[k] := by simp [hlt]
        have hyk : ys.getD k 0 = ys[k] := by simp [hlt2]
        have HD : Hid (xs.getD k 0 ≠ ys.getD k 0 → (xs == ys) = false) := Lib.hid (fun q => by
          have : xs ≠ ys := fun e => q (by rw [e])
          simpa using this)
        have HE : Hid (xs.getD k 0 = ys.getD k 0 → xs.take (k + 1) = ys.take (k + 1)) := Lib.hid (fun q => by
          rw [hxk, hyk] at q
          rw [List.take_add_one, List.take_add_one, ht.out, List.getElem?_eq_getElem hlt, List.getElem?_eq_getElem hlt2, q])
        clear hxk hyk ht
        subst e1 e2
        generalize xs.getD k 0 = x at *
        generalize ys.getD k 0 = y at *
        clear HX HY
        by_cases hxy : x = y
        · subst hxy
          have HE2 := Lib.hid (HE.out rfl)
          clear HE HD
          go_wp2
          go_quiet (fail)
          go_wp2
          go_roundw
          case rel => exact ⟨k + 1, by omega, by go_num, hb.trans ((drewN_below wr nq).mono hb.size), HE2⟩
          case measure => simp [intOf]; omega
        · obtain rfl : R = false := by rw [HV.out]; exact HD.out hxy
          have hx1 : (x == y) = false := by simpa using hxy
          have hx2 : (x != y) = true := by simp [hxy]
          clear HE HD HV
          go_wp2
          go_quiet (fail)
          go_wp2
          go_ret
          exact ⟨rfl, hb.trans ((drewN_below wr nq).mono hb.size)⟩
      · have hend : k = xs.length := by omega
        have ht2 := ht.out
        rw [hend, List.take_length, HNE.out, List.take_length] at ht2
        obtain rfl : R = true := by rw [HV.out, ht2]; simp
        clear ht ht2 HV
        have hlt3 : ¬ (k : Int) < xs.length := by omega
        go_wp2
        go_ret
        exact ⟨rfl, hb⟩
  · have hf : (xs == ys) = false := by
      have : xs ≠ ys := fun e => hne (by rw [e])
      simpa using this
    rw [hf]
    have h1 : ((xs.length : Int) == (ys.length : Int)) = false := by simp; omega
    have h2 : ((xs.length : Int) != (ys.length : Int)) = true := by simp; omega
    have h3 : ¬ (xs.length : Int) = (ys.length : Int) := by omega
    clear hf hx hy hm hl
    go_enter Tryd.func24, Tryd.ntmps24
    go_wp2
    go_ret
    exact ⟨rfl, Below.refl _ _⟩
end Go.Proofs.YtjbllbmcalpbhaaDoor.It

/- Windows that are the same, and copies. -/
namespace Go.Proofs.YtjbllbmcalpbhaaDoor.It
open Go Go.ChangeShapes Go.WideShapes Go.ChangeAt Go.RowKit Go.Proofs.YtjbllbmcalpbhaaDoor.Lo Go.Proofs.YtjbllbmcalpbhaaDoor.Bd Go.Proofs.YtjbllbmcalpbhaaDoor.If

/-- Are two the same? -/
def sm (s h m : Int) (xs : List Int) (s' h' m' : Int) (ys : List Int) : Bool := s == s' && h == h' && m == m' && xs == ys
/-- Two boxes that hold windows. -/
theorem boxed2 (w : World) (s h m : Int) (v : Value) (s' h' m' : Int) (v' : Value) (x : World) (hb : Below ((w.alloc (.cells #[.int .u8 s, .int .u8 h, .int .i64 m, v] 24)).alloc (.cells #[.int .u8 s', .int .u8 h', .int .i64 m', v'] 24)).heap.size ((w.alloc (.cells #[.int .u8 s, .int .u8 h, .int .i64 m, v] 24)).alloc (.cells #[.int .u8 s', .int .u8 h', .int .i64 m', v'] 24)) x) :
    (x.cell? ⟨w.heap.size, 0, none⟩ = some (.int .u8 s) ∧ x.cell? ⟨w.heap.size, 1, none⟩ = some (.int .u8 h) ∧ x.cell? ⟨w.heap.size, 2, none⟩ = some (.int .i64 m) ∧ x.cell? ⟨w.heap.size, 3, none⟩ = some v) ∧
    (x.cell? ⟨w.heap.size + 1, 0, none⟩ = some (.int .u8 s') ∧ x.cell? ⟨w.heap.size + 1, 1, none⟩ = some (.int .u8 h') ∧ x.cell? ⟨w.heap.size + 1, 2, none⟩ = some (.int .i64 m') ∧ x.cell? ⟨w.heap.size + 1, 3, none⟩ = some v') := by
  refine ⟨boxed w s h m v x (bT (box_below _ _) hb), ?_⟩
  have := boxed (w.alloc (.cells #[.int .u8 s, .int .u8 h, .int .i64 m, v] 24)) s' h' m' v' x hb
  rw [show (w.alloc (.cells #[.int .u8 s, .int .u8 h, .int .i64 m, v] 24)).heap.size = w.heap.size + 1 by simp] at this
  exact this
set_option maxRecDepth 100000 in
set_option maxHeartbeats 2000000 in
theorem same_ok (s h m : Int) (a : Option Addr) (c : Nat) (xs : List Int) (s' h' m' : Int) (b : Option Addr) (d : Nat) (ys : List Int) (w : World) (hl : xs.length ≤ 1000) (hm : ys.length ≤ maxLen) (hx : RdA w a xs) (hy : RdA w b ys) :
    Calls Tryd.prog 14 #[.agg #[.int .u8 s, .int .u8 h, .int .i64 m, .slice a xs.length c], .agg #[.int .u8 s', .int .u8 h', .int .i64 m', .slice b ys.length d]] w fun e w' => e = .returned (.bool (sm s h m xs s' h' m' ys)) ∧ Below w.heap.size w w' := by
  have HQ := Lib.hid (fun w1 (k : Below w.heap.size w w1) => equal_ok a b c d xs ys w1 hl hm (hx.below k) (hy.below k))
  have hB := boxed2 w s h m (.slice a xs.length c) s' h' m' (.slice b ys.length d) _ (Below.refl _ _)
  have hb2 : Below w.heap.size w ((w.alloc (.cells #[.int .u8 s, .int .u8 h, .int .i64 m, .slice a xs.length c] 24)).alloc (.cells #[.int .u8 s', .int .u8 h', .int .i64 m', .slice b ys.length d] 24)) := bT (box_below _ _) (box_below _ _)
  obtain ⟨⟨z0, z1, z2, z3⟩, y0, y1, y2, y3⟩ := hB
  clear hx hy hl hm
  unfold sm
  by_cases e0 : s = s'
  · by_cases e1 : h = h'
    · by_cases e2 : m = m'
      · have f : (s == s' && h == h' && m == m' && xs == ys) = (xs == ys) := by subst e0 e1 e2; simp
        rw [f]
        clear f
        generalize (xs == ys) = R at *
        subst e0 e1 e2
        go_enter Tryd.func14, Tryd.ntmps14
        go_wp2_with (go_at_call 24; ((with_reducible refine (HQ.out _ hb2).mono ?_); rintro e w3 ⟨rfl, hb⟩; have hb3 := bT hb2 hb; clear hb))
        go_ret
        exact ⟨rfl, hb3⟩
      · have f : (s == s' && h == h' && m == m' && xs == ys) = false := by simp [e2]
        rw [f]
        clear f
        have g : (m == m') = false := by simpa using e2
        subst e0 e1
        go_enter Tryd.func14, Tryd.ntmps14
        go_wp2_with (go_at_call 24; ((with_reducible refine (HQ.out _ hb2).mono ?_); rintro e w3 ⟨rfl, hb⟩; have hb3 := bT hb2 hb; clear hb))
        go_ret
        exact ⟨rfl, hb2⟩
    · have f : (s == s' && h == h' && m == m' && xs == ys) = false := by simp [e1]
      rw [f]
      clear f
      have g : (h == h') = false := by simpa using e1
      subst e0
      go_enter Tryd.func14, Tryd.ntmps14
      go_wp2_with (go_at_call 24; ((with_reducible refine (HQ.out _ hb2).mono ?_); rintro e w3 ⟨rfl, hb⟩; have hb3 := bT hb2 hb; clear hb))
      go_ret
      exact ⟨rfl, hb2⟩
  · have f : (s == s' && h == h' && m == m' && xs == ys) = false := by simp [e0]
    rw [f]
    clear f
    have g : (s == s') = false := by simpa using e0
    go_enter Tryd.func14, Tryd.ntmps14
    go_wp2_with (go_at_call 24; ((with_reducible refine (HQ.out _ hb2).mono ?_); rintro e w3 ⟨rfl, hb⟩; have hb3 := bT hb2 hb; clear hb))
    go_ret
    exact ⟨rfl, hb2⟩
set_option maxRecDepth 100000 in
set_option maxHeartbeats 2000000 in
theorem rsame_ok (s h m : Int) (a : Option Addr) (c : Nat) (xs : List Int) (s' h' m' : Int) (b : Option Addr) (d : Nat) (ys : List Int) (w : World) (hl : xs.length ≤ 1000) (hm : ys.length ≤ maxLen) (hx : RdA w a xs) (hy : RdA w b ys) :
    Calls Tryd.prog 15 #[.agg #[.int .u8 s, .int .u8 h, .int .i64 m, .slice a xs.length c], .agg #[.int .u8 s', .int .u8 h', .int .i64 m', .slice b ys.length d]] w fun e w' => e = .returned (.bool (sm s h m xs s' h' m' ys)) ∧ Below w.heap.size w w' := by
  have HQ := Lib.hid (fun w1 (k : Below w.heap.size w w1) => ints_ok a b c d xs ys w1 hl hm (hx.below k) (hy.below k))
  have hB := boxed2 w s h m (.slice a xs.length c) s' h' m' (.slice b ys.length d) _ (Below.refl _ _)
  have hb2 : Below w.heap.size w ((w.alloc (.cells #[.int .u8 s, .int .u8 h, .int .i64 m, .slice a xs.length c] 24)).alloc (.cells #[.int .u8 s', .int .u8 h', .int .i64 m', .slice b ys.length d] 24)) := bT (box_below _ _) (box_below _ _)
  obtain ⟨⟨z0, z1, z2, z3⟩, y0, y1, y2, y3⟩ := hB
  clear hx hy hl hm
  unfold sm
  by_cases e0 : s = s'
  · by_cases e1 : h = h'
    · by_cases e2 : m = m'
      · have f : (s == s' && h == h' && m == m' && xs == ys) = (xs == ys) := by subst e0 e1 e2; simp
        rw [f]
        clear f
        generalize (xs == ys) = R at *
        subst e0 e1 e2
        go_enter Tryd.func15, Tryd.ntmps15
        go_wp2_with (go_at_call 25; ((with_reducible refine (HQ.out _ hb2).mono ?_); rintro e w3 ⟨rfl, hb⟩; have hb3 := bT hb2 hb; clear hb))
        go_ret
        exact ⟨rfl, hb3⟩
      · have f : (s == s' && h == h' && m == m' && xs == ys) = false := by simp [e2]
        rw [f]
        clear f
        have g : (m == m') = false := by simpa using e2
        subst e0 e1
        go_enter Tryd.func15, Tryd.ntmps15
        go_wp2_with (go_at_call 25; ((with_reducible refine (HQ.out _ hb2).mono ?_); rintro e w3 ⟨rfl, hb⟩; have hb3 := bT hb2 hb; clear hb))
        go_ret
        exact ⟨rfl, hb2⟩
    · have f : (s == s' && h == h' && m == m' && xs == ys) = false := by simp [e1]
      rw [f]
      clear f
      have g : (h == h') = false := by simpa using e1
      subst e0
      go_enter Tryd.func15, Tryd.ntmps15
      go_wp2_with (go_at_call 25; ((with_reducible refine (HQ.out _ hb2).mono ?_); rintro e w3 ⟨rfl, hb⟩; have hb3 := bT hb2 hb; clear hb))
      go_ret
      exact ⟨rfl, hb2⟩
  · have f : (s == s' && h == h' && m == m' && xs == ys) = false := by simp [e0]
    rw [f]
    clear f
    have g : (s == s') = false := by simpa using e0
    go_enter Tryd.func15, Tryd.ntmps15
    go_wp2_with (go_at_call 25; ((with_reducible refine (HQ.out _ hb2).mono ?_); rintro e w3 ⟨rfl, hb⟩; have hb3 := bT hb2 hb; clear hb))
    go_ret
    exact ⟨rfl, hb2⟩
/-! ### Copies -/
theorem run_app0 (w : World) (ty : TypeId) (v : Value) (n : Nat) (base : Nat) (xs : List Value) (cap : Nat) (hown : w.ownsRow base 3 1 v n xs) :
    (Builtin.append_ #[22, 22] ty #[v, .slice none 0 cap]).run Tryd.prog w = .ok v w := by
  obtain ⟨i, hi, hz0, hz1, hz2⟩ := info_parts info3
  rcases hown.2 with ⟨rfl, rfl⟩ | ⟨g, cap, cur, rfl, _, _, hnc, _⟩
  · simp [Builtin.append_, run_underlying Tryd.underlying22, sizeOf, typeInfo, hi, Builtin.lenOf, Builtin.firstCells]
  · simp [Builtin.append_, run_underlying Tryd.underlying22, sizeOf, typeInfo, hi, Builtin.lenOf, Builtin.firstCells, hnc, storeCells]
/-- A copy by append. -/
theorem wpList_copy (w : World) {ops : Array Oper} {rest : List Oper} {o : Oper} {a : Act} {Q : Exit → Act → World → Prop} (hgd : o.guard = none) (s x : Operand)
    (ho : o.op = .call { callee := .builtin .append, args := #[s, x], argTypes := #[22, 22] }) (base : Nat) (v : Value) (hs : a.eval s = v) (A : Option Addr) (cap : Nat) (zs : List Int) (hown : w.ownsRow base 3 1 v 0 []) (hbs : base ≤ w.heap.size) (hx : a.eval x = .slice A zs.length cap) (hn : zs.length ≤ 1000) (hc : RdA w A zs)
    (hK : ∀ v' w', Own base w' v' zs → w.grownBy w' v.ownBlock → wpList Tryd.prog ops Q rest (a.put o.dst v') w') : wpList Tryd.prog ops Q (o :: rest) a w := by
  obtain ⟨i0, hi, hz0, hz1, hz2⟩ := info_parts info3
  have hA : (A = none ∧ zs = []) ∨ ∃ x, A = some x ∧ ∀ j u, (zs.map (Value.int .i64))[j]? = some u → w.cell? (x.add j) = some u := by
    cases A with
    | none =>
      refine .inl ⟨rfl, ?_⟩
      cases zs with
      | nil => rfl
      | cons z zs => obtain ⟨b, off, e, _⟩ := hc 0 (by simp); cases e
    | some x =>
      refine .inr ⟨x, rfl, fun j u hu => ?_⟩
      simp only [List.getElem?_map, Option.map_eq_some_iff] at hu
      obtain ⟨q, hq, rfl⟩ := hu
      obtain ⟨hj, rfl⟩ := List.getElem?_eq_some_iff.1 hq
      obtain ⟨b, off, e, _, h1⟩ := hc j hj
      simp only [Option.some.injEq] at e
      subst e
      rw [add_at, h1]
      simp [List.getD_eq_getElem?_getD, List.getElem?_eq_getElem hj]
  rcases hA with ⟨rfl, rfl⟩ | ⟨x1, rfl, hc2⟩
  · refine wpList_plain hgd fun K hK' => ?_
    have hrun := run_app0 w o.type v 0 base [] cap hown
    unfold Oper.wp
    simp only [List.length_nil] at hx
    simp [execOp, ho, resolve, invoke, builtin, hs, hx, hrun, Result.andThen]
    exact hK' _ _ (hK _ _ hown ⟨rfl, rfl, rfl, Nat.le_refl _, fun _ _ _ => rfl⟩)
  · refine wpList_append_own w hgd s x 22 ho base 3 i0 (.int .i64 0) 1 8 Tryd.underlying22 hi hz0 hz1 hz2 rfl (by decide) _ 0 _ hs hown x1 zs.length cap (zs.map (Value.int .i64)) hx (by simp) hc2 (one64 _) (by unfold maxLen; omega) (by omega) hbs ?_
    intro v' w' h1 h2 _
    refine hK v' w' ?_ h2
    unfold Own
    rw [Nat.zero_add, List.nil_append] at h1
    exact h1
theorem own_set {base : Nat} {w : World} {v : Value} {zs : List Int} (h : Own base w v zs) {p : Addr} (hp : p.block < base) (u : Value) : Own base (w.setCell p u) v zs := ownsRow_setCell_below h hp u
theorem fz0 (w : World) (c d : Array Value) (i : Nat) (x : World) (hb : Below ((w.alloc (.cells c 24)).alloc (.cells d 24)).heap.size ((w.alloc (.cells c 24)).alloc (.cells d 24)) x) : x.frozen? ⟨w.heap.size, i, none⟩ = false := by
  refine (hb.frozen (p := ⟨w.heap.size, i, none⟩) (by simp; omega)).trans ?_
  simp
theorem fz1 (w : World) (c d : Array Value) (i : Nat) (x : World) (hb : Below ((w.alloc (.cells c 24)).alloc (.cells d 24)).heap.size ((w.alloc (.cells c 24)).alloc (.cells d 24)) x) : x.frozen? ⟨w.heap.size + 1, i, none⟩ = false := by
  refine (hb.frozen (p := ⟨w.heap.size + 1, i, none⟩) (by simp)).trans ?_
  simp
set_option maxRecDepth 100000 in
set_option maxHeartbeats 2000000 in
theorem rtwin_ok (s h m : Int) (a : Option Addr) (c : Nat) (xs : List Int) (w : World) (hl : xs.length ≤ 1000) (hx : RdA w a xs) :
    Calls Tryd.prog 4 #[.agg #[.int .u8 s, .int .u8 h, .int .i64 m, .slice a xs.length c]] w fun e w' => ∃ v, e = .returned (.agg #[.int .u8 s, .int .u8 h, .int .i64 m, v]) ∧ Own (w.heap.size + 2) w' v xs ∧ Below w.heap.size w w' := by
  have HX := Lib.hid (fun w1 (k : Below w.heap.size w w1) => hx.below k)
  clear hx
  have hb2 : Below w.heap.size w ((w.alloc (.cells #[.int .u8 s, .int .u8 h, .int .i64 m, .slice a xs.length c] 24)).alloc (.cells #[.int .u8 0, .int .u8 0, .int .i64 0, .slice none 0 0] 24)) := bT (box_below _ _) (box_below _ _)
  have HB := Lib.hid (fun x hx => boxed2 w s h m (.slice a xs.length c) 0 0 0 (.slice none 0 0) x hx)
  have hsz : ((w.alloc (.cells #[.int .u8 s, .int .u8 h, .int .i64 m, .slice a xs.length c] 24)).alloc (.cells #[.int .u8 0, .int .u8 0, .int .i64 0, .slice none 0 0] 24)).heap.size = w.heap.size + 2 := by simp
  go_enter Tryd.func4, Tryd.ntmps4
  go_wp2_with (at_builtin; refine wpList_copy _ rfl (.tmp 4) (.tmp 6) rfl (w.heap.size + 2) _ rfl a c xs (World.ownsRow_nil _ _ 3 1) (by simp) rfl hl (HX.out _ hb2) ?_; intro v w3 ho hg; have hb3 := (Below.refl _ _).grown hg (Nat.le_refl _) (fun k hk => by cases hk); obtain ⟨⟨z0, z1, z2, z3⟩, y0, y1, y2, y3⟩ := HB.out w3 hb3; have F0 := (fun i => fz0 w _ _ i w3 hb3); have F1 := (fun i => fz1 w _ _ i w3 hb3); have HS := Lib.hid hb3.size; have HB3 := Lib.hid (bT hb2 hb3); obtain ⟨A', c', rfl⟩ := rd_shape ho.rd; have HO := Lib.hid ho; clear ho hg hb3)
  refine bodyPost_ret (by simp (maxDischargeDepth := 8) [results, Tryd.results4, go_sem, z0, z1, z2, z3, y0, y1, y2, y3]; try rfl) rfl ?_
  refine ⟨_, rfl, ?_, ?_⟩
  · with_reducible refine own_set (own_set (own_set (own_set (own_set HO.out ?_ _) ?_ _) ?_ _) ?_ _) ?_ _ <;> simp
  · with_reducible refine Below.setCell (Below.setCell (Below.setCell (Below.setCell (Below.setCell HB3.out ?_ _) ?_ _) ?_ _) ?_ _) ?_ _ <;> simp
theorem rd_nil {w : World} {xs : List Int} (h : RdA w none xs) : xs = [] := by
  cases xs with
  | nil => rfl
  | cons z zs => obtain ⟨b, off, e, _⟩ := h 0 (by simp); cases e
set_option maxRecDepth 100000 in
theorem clone_ok (a : Option Addr) (c : Nat) (xs : List Int) (w : World) (hl : xs.length ≤ 1000) (hx : RdA w a xs) :
    Calls Tryd.prog 20 #[.slice a xs.length c] w fun e w' => ∃ v, e = .returned v ∧ Own w.heap.size w' v xs ∧ Below w.heap.size w w' := by
  cases a with
  | none =>
    obtain rfl := rd_nil hx
    clear hx hl
    have hq := Lib.run_eql_slice_nil (P := Tryd.prog) w 22 3 none 0 c 0 0 Tryd.underlying22
    go_enter Tryd.func20, Tryd.ntmps20
    go_wp2
    go_ret
    exact ⟨_, rfl, World.ownsRow_nil _ _ 3 1, Below.refl _ _⟩
  | some A =>
    have HX := Lib.hid (fun w1 (k : Below w.heap.size w w1) => hx.below k)
    clear hx
    have hq := Lib.run_eql_slice_nil (P := Tryd.prog) w 22 3 (some A) xs.length c 0 0 Tryd.underlying22
    go_enter Tryd.func20, Tryd.ntmps20
    go_wp2_with (at_builtin; refine wpList_copy _ rfl (.tmp 5) (.tmp 6) rfl w.heap.size _ rfl (some A) c xs (World.ownsRow_made w #[] 0 (Nat.le_refl _) (by unfold maxLen; omega) rfl) (by simp) rfl hl (HX.out _ ((Below.refl _ _).alloc (Nat.le_refl _) _)) ?_; intro v w3 ho hg; have hb3 := ((Below.refl _ _).alloc (Nat.le_refl _) _).grown hg (by simp) (fun k hk => by cases hk; exact Nat.le_refl _))
    go_ret
    exact ⟨_, rfl, ho, hb3⟩
set_option maxRecDepth 100000 in
set_option maxHeartbeats 2000000 in
theorem twin_ok (s h m : Int) (a : Option Addr) (c : Nat) (xs : List Int) (w : World) (hl : xs.length ≤ 1000) (hx : RdA w a xs) :
    Calls Tryd.prog 9 #[.agg #[.int .u8 s, .int .u8 h, .int .i64 m, .slice a xs.length c]] w fun e w' => ∃ v, e = .returned (.agg #[.int .u8 s, .int .u8 h, .int .i64 m, v]) ∧ Own (w.heap.size + 2) w' v xs ∧ Below w.heap.size w w' := by
  have HX := Lib.hid (fun w1 (k : Below w.heap.size w w1) => clone_ok a c xs w1 hl (hx.below k))
  clear hx
  have hb2 : Below w.heap.size w ((w.alloc (.cells #[.int .u8 s, .int .u8 h, .int .i64 m, .slice a xs.length c] 24)).alloc (.cells #[.int .u8 0, .int .u8 0, .int .i64 0, .slice none 0 0] 24)) := bT (box_below _ _) (box_below _ _)
  have HB := Lib.hid (fun x hx => boxed2 w s h m (.slice a xs.length c) 0 0 0 (.slice none 0 0) x hx)
  have hsz : ((w.alloc (.cells #[.int .u8 s, .int .u8 h, .int .i64 m, .slice a xs.length c] 24)).alloc (.cells #[.int .u8 0, .int .u8 0, .int .i64 0, .slice none 0 0] 24)).heap.size = w.heap.size + 2 := by simp
  go_enter Tryd.func9, Tryd.ntmps9
  go_wp2_with (go_at_call 20; ((with_reducible refine (HX.out _ hb2).mono ?_); rintro e w3 ⟨v, rfl, ho, hb3⟩; obtain ⟨⟨z0, z1, z2, z3⟩, y0, y1, y2, y3⟩ := HB.out w3 hb3; have F0 := (fun i => fz0 w _ _ i w3 hb3); have F1 := (fun i => fz1 w _ _ i w3 hb3); have HS := Lib.hid hb3.size; have HB3 := Lib.hid (bT hb2 hb3); obtain ⟨A', c', rfl⟩ := rd_shape ho.rd; rw [hsz] at ho; have HO := Lib.hid ho; clear ho hb3))
  refine bodyPost_ret (by simp (maxDischargeDepth := 8) [results, Tryd.results9, go_sem, z0, z1, z2, z3, y0, y1, y2, y3]; try rfl) rfl ?_
  refine ⟨_, rfl, ?_, ?_⟩
  · with_reducible refine own_set (own_set (own_set (own_set (own_set HO.out ?_ _) ?_ _) ?_ _) ?_ _) ?_ _ <;> simp
  · with_reducible refine Below.setCell (Below.setCell (Below.setCell (Below.setCell (Below.setCell HB3.out ?_ _) ?_ _) ?_ _) ?_ _) ?_ _ <;> simp
end Go.Proofs.YtjbllbmcalpbhaaDoor.It
