/- Texts of one claim, one behind the other: HfMath, HfEnt, HfFit, HfSgn, HfEsc, HfJoin, HfEo, HfVb, HfPt, HfAl, HfNg, HfPush, HfSi. -/
import Derived.Test.YteklahfgplbmcaaDoorMrg2
import Derived.Test.YteklahfgplbmcaaDoorMrg9
import Derived.WalkKit
import Derived.Below
import Derived.RegionTactic
import Derived.Deep.QuietTactic
import Derived.BigQuiet
import Derived.ChangeAlike
import Derived.Deep.OwnRows
import Derived.Deep.Cut
import Derived.ProofKit
import Derived.OpenShut
import Derived.Laws.EntriesVeiled
import Derived.Lib.Hide
import Derived.Deep.RegionHeld3
import Derived.Laws.AppendOwn
import Derived.Laws.AppendOwnNone
import Derived.Test.YteklahfgplbmcaaDoorMrg3
import Derived.OwnWalk
import Derived.Test.YteklahfgplbmcaaDoorMrg8
import Derived.Test.YteklahfgplbmcaaDoorBkAl
set_option linter.unusedVariables false
/- What values are put as by a book, and how they are got, plain. -/
namespace Go.Proofs.YteklahfgplbmcaaDoor.Hf
open Go.Proofs.YteklahfgplbmcaaDoor.Bk Go.Proofs.YteklahfgplbmcaaDoor.Bi Go.Proofs.YteklahfgplbmcaaDoor.Cr

def lim (id : Nat) : Int := [0,1,1,2,2,4,4,7,7,12,12,8191].getD id 0
def sgd (i : Int) : Bool := i == 1 || i == 2 || i == 5 || i == 6
def sg1 (v : Int) : List Int := if v < 0 then [1] else if 0 < v then [0] else []
def sgn (zs : List Int) : List Int := zs.flatMap sg1
def es1 (v : Int) : List Int := if v.natAbs < 16 then [] else List.replicate (dg v.natAbs - 1 - 4) 1 ++ 0 :: bi ((v.natAbs - 2 ^ (dg v.natAbs - 1) : Nat) : Int) (dg v.natAbs - 1)
def esc (zs : List Int) : List Int := zs.flatMap es1
def sz1 (i : Int) (v : Int) : Int := if i = 11 then ((min v.natAbs 16 : Nat) : Int) else (v.natAbs : Int)
def tld (i : Int) (zs : List Int) : List Int := if sgd i then zs else zs.map (sz1 i)
def fitB (i : Int) (zs : List Int) : Bool := zs.all fun v => decide (-lim i.toNat ≤ v) && decide (v ≤ lim i.toNat)
def eX (i : Int) (zs : List Int) : Int := if i < 1 ∨ 11 < i then 2 else if zs.length ≠ dm i.toNat then 4 else if fitB i zs then 0 else 2
theorem eX_ok {i : Int} {zs : List Int} (h : eX i zs = 0) : ∃ id : Nat, i = id ∧ 1 ≤ id ∧ id ≤ 11 ∧ zs.length = dm id ∧ ∀ v ∈ zs, -lim id ≤ v ∧ v ≤ lim id := by
  unfold eX at h
  by_cases h1 : i < 1 ∨ 11 < i
  · rw [if_pos h1] at h; simp at h
  rw [if_neg h1] at h
  by_cases h2 : zs.length = dm i.toNat
  case neg => rw [if_pos h2] at h; simp at h
  rw [if_neg (by simp [h2])] at h
  by_cases h3 : fitB i zs = true
  case neg => rw [if_neg h3] at h; simp at h
  refine ⟨i.toNat, by omega, by omega, by omega, h2, fun v hv => ?_⟩
  have := List.all_eq_true.1 h3 v hv
  simp at this
  exact this
theorem eX_is {id : Nat} {zs : List Int} (h1 : 1 ≤ id) (h2 : id ≤ 11) (hl : zs.length = dm id) (hb : ∀ v ∈ zs, -lim id ≤ v ∧ v ≤ lim id) : eX id zs = 0 := by
  unfold eX
  rw [if_neg (by omega), if_neg (by simp [hl]), if_pos]
  exact List.all_eq_true.2 fun v hv => by have := hb v hv; simp; exact this
theorem lims {id : Nat} (h1 : 1 ≤ id) (h2 : id ≤ 11) : 0 ≤ lim id ∧ lim id ≤ 8191 ∧ (sgd id = true → lw id = -lim id ∧ hg id = lim id ∧ lim id ≤ 4) ∧ (sgd id = false → lw id = 0 ∧ (id ≠ 11 → hg id = lim id ∧ lim id ≤ 12) ∧ (id = 11 → hg id = 16 ∧ lim id = 8191)) := by
  have : id = 1 ∨ id = 2 ∨ id = 3 ∨ id = 4 ∨ id = 5 ∨ id = 6 ∨ id = 7 ∨ id = 8 ∨ id = 9 ∨ id = 10 ∨ id = 11 := by omega
  rcases this with rfl | rfl | rfl | rfl | rfl | rfl | rfl | rfl | rfl | rfl | rfl <;> decide
theorem tld_len (i : Int) (zs : List Int) : (tld i zs).length = zs.length := by unfold tld; split <;> simp
/-- Reading on behind an error. -/
def rd1 (z : List Int) (A E : Int) (s : Nat) : Int × Int × Int := if E = 0 then getF z A s else (0, A, E)
def gS (z : List Int) : List Int → Int → Int → List Int × Int × Int
  | [], A, E => ([], A, E)
  | v :: l, A, E => if v = 0 then (v :: (gS z l A E).1, (gS z l A E).2) else ((if (rd1 z A E 1).1 = 1 then -v else v) :: (gS z l (rd1 z A E 1).2.1 (rd1 z A E 1).2.2).1, (gS z l (rd1 z A E 1).2.1 (rd1 z A E 1).2.2).2)
def gO (z : List Int) : Nat → Nat → Int → Int → Int × Int × Int
  | 0, _, A, _ => (0, A, 8)
  | f + 1, k, A, E => if (rd1 z A E 1).1 = 1 then gO z f (k + 1) (rd1 z A E 1).2.1 (rd1 z A E 1).2.2 else (2 ^ (k + 4) + (rd1 z (rd1 z A E 1).2.1 (rd1 z A E 1).2.2 (k + 4)).1, (rd1 z (rd1 z A E 1).2.1 (rd1 z A E 1).2.2 (k + 4)).2)
def gX (z : List Int) : List Int → Int → Int → List Int × Int × Int
  | [], A, E => ([], A, E)
  | v :: l, A, E => if v = 16 then ((gO z 9 0 A E).1 :: (gX z l (gO z 9 0 A E).2.1 (gO z 9 0 A E).2.2).1, (gX z l (gO z 9 0 A E).2.1 (gO z 9 0 A E).2.2).2)
    else if v = -16 then (-(gO z 9 0 A E).1 :: (gX z l (gO z 9 0 A E).2.1 (gO z 9 0 A E).2.2).1, (gX z l (gO z 9 0 A E).2.1 (gO z 9 0 A E).2.2).2)
    else (v :: (gX z l A E).1, (gX z l A E).2)

theorem rd1_run {z rest : List Int} {a s : Nat} {n : Int} (h : z.drop a = bi n s ++ rest) (hs : 1 ≤ s) (n0 : 0 ≤ n) (n1 : n < 2 ^ s) : rd1 z a 0 s = (n, ((a + s : Nat) : Int), 0) ∧ z.drop (a + s) = rest := by
  have hlen := congrArg List.length h
  simp [bi_len] at hlen
  have e : (z.drop a).take s = bi n s := by rw [h]; exact List.take_left' (bi_len _ _)
  constructor
  · unfold rd1
    rw [if_pos rfl, getF_of (by omega) (by rw [e]; exact bi_bits _ _), e, num_bi s n n0 n1]
  · rw [← List.drop_drop, h]; exact List.drop_left' (bi_len _ _)
theorem rd1_good {z : List Int} {a : Nat} {E : Int} {s : Nat} (h : (rd1 z a E s).2.2 = 0) : E = 0 ∧ ∃ n : Int, rd1 z a E s = (n, ((a + s : Nat) : Int), 0) ∧ a + s ≤ z.length ∧ z.drop a = bi n s ++ z.drop (a + s) ∧ 0 ≤ n ∧ n < 2 ^ s := by
  unfold rd1 at h ⊢
  by_cases c : E = 0
  · rw [if_pos c] at h ⊢
    obtain ⟨a', ha, hl, hb, hg⟩ := getF_ok h
    obtain rfl : a' = a := by omega
    have ly := drop_take_len hl
    have hn := num_bd s _ ly hb
    refine ⟨c, _, hg, hl, ?_, hn.1, hn.2⟩
    rw [bi_num s _ ly hb, ← List.drop_drop]
    exact (List.take_append_drop s _).symm
  · rw [if_neg c] at h; exact absurd h c
theorem rd1_err {z : List Int} {A E : Int} {s : Nat} (h : E ≠ 0) : rd1 z A E s = (0, A, E) := by unfold rd1; rw [if_neg h]
theorem rd1_bd (z : List Int) (A E : Int) (s : Nat) : 0 ≤ (rd1 z A E s).1 ∧ (rd1 z A E s).1 < 2 ^ s := by
  have hp : (0 : Int) < 2 ^ s := Int.pow_pos (by decide)
  unfold rd1
  split
  · by_cases h : (getF z A s).2.2 = 0
    · obtain ⟨a, rfl, hl, hb, hg⟩ := getF_ok h
      rw [hg]
      exact num_bd s _ (drop_take_len hl) hb
    · rw [getF_bad h]; exact ⟨Int.le_refl _, hp⟩
  · exact ⟨Int.le_refl _, hp⟩
theorem gS_err (z : List Int) : ∀ (l : List Int) (A E : Int), E ≠ 0 → (gS z l A E).2.2 = E
  | [], _, _, _ => rfl
  | v :: l, A, E, h => by
    unfold gS
    split
    · exact gS_err z l A E h
    · rw [rd1_err h]; exact gS_err z l A E h
theorem gO_err (z : List Int) (f k : Nat) (A E : Int) (h : E ≠ 0) : (gO z (f + 1) k A E).2.2 = E := by
  unfold gO
  rw [rd1_err h]
  simp only [show ¬ ((0 : Int) = 1) by decide, if_false]
  rw [rd1_err h]
theorem gX_err (z : List Int) : ∀ (l : List Int) (A E : Int), E ≠ 0 → (gX z l A E).2.2 = E
  | [], _, _, _ => rfl
  | v :: l, A, E, h => by
    have h9 := gO_err z 8 0 A E h
    unfold gX
    split
    · show (gX z l _ (gO z 9 0 A E).2.2).2.2 = E
      rw [h9]; exact gX_err z l _ E h
    · split
      · show (gX z l _ (gO z 9 0 A E).2.2).2.2 = E
        rw [h9]; exact gX_err z l _ E h
      · exact gX_err z l A E h
theorem bi1 {n : Int} (h0 : 0 ≤ n) (h1 : n < 2) : bi n 1 = [n] := by simp [bi]; omega
theorem gS_run (z : List Int) (i : Int) : ∀ (zs : List Int) (a : Nat) (rest : List Int), z.drop a = sgn zs ++ rest →
    gS z (zs.map (sz1 i)) a 0 = (zs.map (fun v => if v < 0 then -sz1 i v else sz1 i v), ((a + (sgn zs).length : Nat) : Int), 0) ∧ z.drop (a + (sgn zs).length) = rest
  | [], a, rest, h => by
    simp [sgn] at h
    simp [gS, sgn, h]
  | v :: l, a, rest, h => by
    have hs : sgn (v :: l) = sg1 v ++ sgn l := by simp [sgn]
    rw [hs] at h ⊢
    have hz : sz1 i v = 0 ↔ v = 0 := by unfold sz1; split <;> omega
    simp only [List.map_cons]
    unfold gS
    by_cases h0 : v = 0
    · subst h0
      rw [if_pos (hz.2 rfl)]
      have e : sg1 0 = [] := rfl
      rw [e] at h ⊢
      obtain ⟨r1, r2⟩ := gS_run z i l a rest h
      rw [r1]
      refine ⟨by simp [hz.2 rfl], by simpa using r2⟩
    · rw [if_neg (fun c => h0 (hz.1 c))]
      by_cases hn : v < 0
      · have e : sg1 v = [1] := by unfold sg1; rw [if_pos hn]
        rw [e] at h ⊢
        obtain ⟨q1, q2⟩ := rd1_run (n := 1) (s := 1) (rest := sgn l ++ rest) (by rw [h]; simp [bi]) (by decide) (by decide) (by decide)
        rw [q1]
        obtain ⟨r1, r2⟩ := gS_run z i l (a + 1) rest q2
        dsimp only
        rw [r1, if_pos rfl, if_pos hn]
        refine ⟨?_, by rw [← r2]; congr 1; simp; omega⟩
        simp; omega
      · have e : sg1 v = [0] := by unfold sg1; rw [if_neg hn, if_pos (by omega)]
        rw [e] at h ⊢
        obtain ⟨q1, q2⟩ := rd1_run (n := 0) (s := 1) (rest := sgn l ++ rest) (by rw [h]; simp [bi]) (by decide) (by decide) (by decide)
        rw [q1]
        obtain ⟨r1, r2⟩ := gS_run z i l (a + 1) rest q2
        dsimp only
        rw [r1, if_neg (by decide), if_neg hn]
        refine ⟨?_, by rw [← r2]; congr 1; simp; omega⟩
        simp; omega
theorem gO_run {z : List Int} {m : Int} {rest : List Int} : ∀ (j f k a : Nat), j < f → z.drop a = List.replicate j 1 ++ 0 :: (bi m (k + j + 4) ++ rest) → 0 ≤ m → m < 2 ^ (k + j + 4) →
    gO z f k a 0 = (2 ^ (k + j + 4) + m, ((a + j + 1 + (k + j + 4) : Nat) : Int), 0) ∧ z.drop (a + j + 1 + (k + j + 4)) = rest
  | _, 0, _, _, h, _, _, _ => absurd h (by omega)
  | 0, f + 1, k, a, _, h, m0, m1 => by
    obtain ⟨q1, q2⟩ := rd1_run (n := 0) (s := 1) (rest := bi m (k + 0 + 4) ++ rest) (by rw [h]; simp [bi]) (by decide) (by decide) (by decide)
    obtain ⟨r1, r2⟩ := rd1_run (n := m) (s := k + 4) (rest := rest) q2 (by omega) m0 m1
    unfold gO
    rw [q1]
    simp only [show ¬ ((0 : Int) = 1) by decide, if_false]
    rw [r1]
    exact ⟨rfl, r2⟩
  | j + 1, f + 1, k, a, hj, h, m0, m1 => by
    obtain ⟨q1, q2⟩ := rd1_run (n := 1) (s := 1) (rest := List.replicate j 1 ++ 0 :: (bi m (k + (j + 1) + 4) ++ rest)) (by rw [h, List.replicate_succ]; simp [bi]) (by decide) (by decide) (by decide)
    have e : k + (j + 1) + 4 = k + 1 + j + 4 := by omega
    rw [e] at q2 m1 ⊢
    obtain ⟨r1, r2⟩ := gO_run j f (k + 1) (a + 1) (by omega) q2 m0 m1
    have e2 : a + (j + 1) + 1 + (k + 1 + j + 4) = a + 1 + j + 1 + (k + 1 + j + 4) := by omega
    rw [e2]
    refine ⟨?_, r2⟩
    unfold gO
    rw [q1, if_pos rfl]
    exact r1
theorem dg16 {n : Nat} (h : 16 ≤ n) (h2 : n ≤ 8191) : 5 ≤ dg n ∧ dg n ≤ 13 ∧ 2 ^ (dg n - 1) ≤ n ∧ n < 2 ^ dg n := by
  obtain ⟨a, b, c⟩ := dg_bd n n Nat.lt_two_pow_self (by omega)
  refine ⟨?_, dg_le (by omega) (by omega), b, c⟩
  have := dg_mono (a := 16) (b := n) (by omega) h
  have e : dg 16 = 5 := dg_uniq (by decide) (by decide) (by decide) (by decide)
  omega
theorem gX_run (z : List Int) : ∀ (zs : List Int) (a : Nat) (rest : List Int), (∀ v ∈ zs, -8191 ≤ v ∧ v ≤ 8191) → z.drop a = esc zs ++ rest →
    gX z (zs.map (fun v => if v < 0 then -sz1 11 v else sz1 11 v)) a 0 = (zs, ((a + (esc zs).length : Nat) : Int), 0) ∧ z.drop (a + (esc zs).length) = rest
  | [], a, rest, _, h => by
    simp [esc] at h
    simp [gX, esc, h]
  | v :: l, a, rest, hb, h => by
    have hs : esc (v :: l) = es1 v ++ esc l := by simp [esc]
    have hbl : ∀ u ∈ l, -8191 ≤ u ∧ u ≤ 8191 := fun u hu => hb u (by simp [hu])
    have hv := hb v (by simp)
    rw [hs] at h ⊢
    simp only [List.map_cons]
    unfold gX
    have hsz : sz1 11 v = ((min v.natAbs 16 : Nat) : Int) := by unfold sz1; rw [if_pos rfl]
    by_cases h16 : v.natAbs < 16
    · have e : es1 v = [] := by unfold es1; rw [if_pos h16]
      rw [e] at h ⊢
      have ev : (if v < 0 then -sz1 11 v else sz1 11 v) = v := by rw [hsz]; split <;> omega
      rw [ev, if_neg (by omega), if_neg (by omega)]
      obtain ⟨r1, r2⟩ := gX_run z l a rest hbl h
      rw [r1]
      exact ⟨rfl, r2⟩
    · obtain ⟨d1, d2, d3, d4⟩ := dg16 (n := v.natAbs) (by omega) (by omega)
      obtain ⟨j, hj⟩ : ∃ j, dg v.natAbs = j + 5 := ⟨dg v.natAbs - 5, by omega⟩
      obtain ⟨m, hm⟩ : ∃ m : Nat, v.natAbs - 2 ^ (j + 4) = m := ⟨_, rfl⟩
      rw [hj] at d3 d4
      rw [show j + 5 - 1 = j + 4 by omega] at d3
      rw [show j + 5 = (j + 4) + 1 by omega, Nat.pow_succ] at d4
      have e : es1 v = List.replicate j 1 ++ 0 :: bi (m : Int) (j + 4) := by
        unfold es1; rw [if_neg h16, hj, show j + 5 - 1 = j + 4 by omega, show j + 4 - 4 = j by omega, hm]
      have hm2 : m < 2 ^ (j + 4) := by omega
      have hz : z.drop a = List.replicate j 1 ++ 0 :: (bi (m : Int) (0 + j + 4) ++ (esc l ++ rest)) := by rw [h, e]; simp
      obtain ⟨q1, q2⟩ := gO_run (z := z) j 9 0 a (by omega) hz (by omega) (by rw [show 0 + j + 4 = j + 4 by omega]; exact_mod_cast hm2)
      rw [show 0 + j + 4 = j + 4 by omega] at q1 q2
      have el : (es1 v).length = j + 1 + (j + 4) := by rw [e]; simp [bi_len]; omega
      obtain ⟨r1, r2⟩ := gX_run z l (a + j + 1 + (j + 4)) rest hbl q2
      have ea : a + (es1 v ++ esc l).length = a + j + 1 + (j + 4) + (esc l).length := by rw [List.length_append, el]; omega
      rw [ea]
      refine ⟨?_, r2⟩
      have hval : (2 : Int) ^ (j + 4) + (m : Int) = v.natAbs := by
        have : (2 : Nat) ^ (j + 4) + m = v.natAbs := by omega
        exact_mod_cast this
      rw [hval] at q1
      by_cases hn : v < 0
      · rw [if_pos hn, hsz, show ((min v.natAbs 16 : Nat) : Int) = 16 by omega, if_neg (by decide), if_pos rfl, q1]
        dsimp only
        rw [r1]
        rw [show -((v.natAbs : Nat) : Int) = v by omega]
      · rw [if_neg hn, hsz, show ((min v.natAbs 16 : Nat) : Int) = 16 by omega, if_pos rfl, q1]
        dsimp only
        rw [r1]
        rw [show ((v.natAbs : Nat) : Int) = v by omega]
end Go.Proofs.YteklahfgplbmcaaDoor.Hf

/- The entry that stands for some values. -/
namespace Go.Proofs.YteklahfgplbmcaaDoor.Hf
open Go.Proofs.YteklahfgplbmcaaDoor.Bk Go.Proofs.YteklahfgplbmcaaDoor.Bi Go.Proofs.YteklahfgplbmcaaDoor.Cr Go.Proofs.YteklahfgplbmcaaDoor.BkEn
noncomputable def eE (i : Int) (zs : List Int) : Int := if eX i zs = 0 then entI i.toNat (tld i zs) else 0
theorem tld_in {id : Nat} {zs : List Int} (h1 : 1 ≤ id) (h2 : id ≤ 11) (hb : ∀ v ∈ zs, -lim id ≤ v ∧ v ≤ lim id) : (tld id zs).all (inR id) = true := by
  obtain ⟨l0, l1, l2, l3⟩ := lims h1 h2
  refine List.all_eq_true.2 fun v hv => ?_
  unfold tld at hv
  unfold inR
  cases hs : sgd (id : Int)
  · rw [hs] at hv
    simp only [Bool.false_eq_true, if_false] at hv
    obtain ⟨u, hu, rfl⟩ := List.mem_map.1 hv
    have := hb u hu
    obtain ⟨e1, e2, e3⟩ := l3 hs
    unfold sz1
    by_cases h11 : (id : Int) = 11
    · obtain ⟨e4, e5⟩ := e3 (by omega)
      rw [if_pos h11, e1, e4]; simp; omega
    · obtain ⟨e4, e5⟩ := e2 (by omega)
      rw [if_neg h11, e1, e4]; simp; omega
  · rw [hs] at hv
    simp only [if_true] at hv
    have := hb v hv
    obtain ⟨e1, e2, e3⟩ := l2 hs
    rw [e1, e2]; simp; omega
theorem eE_ok {i : Int} {zs : List Int} (h : eX i zs = 0) : ∃ id n : Nat, i = id ∧ 1 ≤ id ∧ id ≤ 11 ∧ zs.length = dm id ∧ (∀ v ∈ zs, -lim id ≤ v ∧ v ≤ lim id) ∧ eE i zs = n ∧ n < Nn id ∧ vals (bs id) (lw id) (dm id) n = tld i zs ∧ entX id (tld i zs) = 0 ∧ entI id (tld i zs) = n := by
  obtain ⟨id, rfl, h1, h2, hl, hb⟩ := eX_ok h
  have hx : entX id (tld id zs) = 0 := by
    unfold entX
    rw [if_pos (by rw [tld_len, hl]), if_pos (tld_in h1 h2 hb)]
  obtain ⟨n, hn, hn2, hn3⟩ := ent_yes h1 (by omega) hx
  refine ⟨id, n, rfl, h1, h2, hl, hb, ?_, hn2, hn3, hx, hn⟩
  unfold eE
  rw [if_pos h]
  exact hn
/-- What Put answers. -/
noncomputable def vL (B : List Int) (i p : Int) (zs : List Int) : List Int := cd p.toNat (B.getD (eE i zs).toNat 0).toNat ++ ((if sgd i then [] else sgn zs) ++ (if i = 11 then esc zs else []))

end Go.Proofs.YteklahfgplbmcaaDoor.Hf

/- Sizes, signs, how many values, and whether values fit. -/
namespace Go.Proofs.YteklahfgplbmcaaDoor.Hf
open Go Go.ChangeShapes Go.WideShapes Go.ChangeAt Go.RowKit Go.Proofs.YteklahfgplbmcaaDoor.Bk Go.Proofs.YteklahfgplbmcaaDoor.Bi Go.Proofs.YteklahfgplbmcaaDoor.Cr Go.Proofs.YteklahfgplbmcaaDoor.Fx

theorem size_v (v : Int) (w : World) (h0 : -9223372036854775807 ≤ v) (h1 : v ≤ 9223372036854775807) : Calls Tryd.prog 108 #[.int .i64 v] w fun e w' => e = .returned (.int .i64 (v.natAbs : Nat)) ∧ w = w' := by
  have hw : IntKind.i64.wrap (-v) = -v := by rw [IntKind.wrap_i64]; omega
  have hm : max v (-v) = ((v.natAbs : Nat) : Int) := by omega
  have HM := Lib.hid hm
  clear hm
  go_enter Tryd.func108, Tryd.ntmps108
  go_wp2
  go_ret
  exact ⟨by rw [← HM.out]; rfl, rfl⟩
theorem signed_ok (i : Int) (w : World) : Calls Tryd.prog 70 #[.int .i64 i] w fun e w' => e = .returned (.bool (sgd i)) ∧ w = w' := by
  by_cases h1 : i = 1
  · subst h1
    go_enter Tryd.func70, Tryd.ntmps70
    go_wp2
    go_ret
    exact ⟨rfl, rfl⟩
  by_cases h2 : i = 2
  · subst h2
    go_enter Tryd.func70, Tryd.ntmps70
    go_wp2
    go_ret
    exact ⟨rfl, rfl⟩
  by_cases h5 : i = 5
  · subst h5
    go_enter Tryd.func70, Tryd.ntmps70
    go_wp2
    go_ret
    exact ⟨rfl, rfl⟩
  by_cases h6 : i = 6
  · subst h6
    go_enter Tryd.func70, Tryd.ntmps70
    go_wp2
    go_ret
    exact ⟨rfl, rfl⟩
  have e : sgd i = false := by unfold sgd; simp [h1, h2, h5, h6]
  rw [e]
  have b1 : (i == 1) = false := by simp [h1]
  have b2 : (i == 2) = false := by simp [h2]
  have b5 : (i == 5) = false := by simp [h5]
  have b6 : (i == 6) = false := by simp [h6]
  clear e
  go_enter Tryd.func70, Tryd.ntmps70
  go_wp2
  go_ret
  exact ⟨rfl, rfl⟩
theorem dim_v (id : Nat) (w : World) (h1 : 1 ≤ id) (h2 : id ≤ 11) : Calls Tryd.prog 74 #[.int .i64 id] w fun e w' => e = .returned (.int .i64 (dm id : Nat)) ∧ w = w' := by
  by_cases h : id ≤ 4
  · have e : dm id = 4 := by
      have : id = 1 ∨ id = 2 ∨ id = 3 ∨ id = 4 := by omega
      rcases this with rfl | rfl | rfl | rfl <;> rfl
    rw [e]
    have hi : (id : Int) ≤ 4 := by omega
    clear e
    go_enter Tryd.func74, Tryd.ntmps74
    go_wp2
    go_ret
    exact ⟨rfl, rfl⟩
  · have e : dm id = 2 := by
      have : id = 5 ∨ id = 6 ∨ id = 7 ∨ id = 8 ∨ id = 9 ∨ id = 10 ∨ id = 11 := by omega
      rcases this with rfl | rfl | rfl | rfl | rfl | rfl | rfl <;> rfl
    rw [e]
    have hi : ¬ (id : Int) ≤ 4 := by omega
    clear e
    go_enter Tryd.func74, Tryd.ntmps74
    go_wp2
    go_ret
    exact ⟨rfl, rfl⟩
/-- The table of the greatest sizes. -/
def Hm (w : World) : Prop := 1 < w.heap.size ∧ ∀ k, k < 11 → w.cell? ⟨1, k, none⟩ = some (.int .i64 (lim (k + 1)))
theorem Hm.below {w w' : World} (h : Hm w) (hb : Below w.heap.size w w') : Hm w' :=
  ⟨Nat.lt_of_lt_of_le h.1 hb.size, fun k hk => (hb.cell (p := ⟨1, k, none⟩) h.1).trans (h.2 k hk)⟩
def fR (i : Int) (zs : List Int) : Bool := if i < 1 ∨ 11 < i then false else if zs.length ≠ dm i.toNat then false else fitB i zs
def fE (i : Int) (zs : List Int) : Int := if i < 1 ∨ 11 < i then 2 else if zs.length ≠ dm i.toNat then 4 else 0
theorem fits_out (i : Int) (v : Value) (zs : List Int) (w : World) (h : i < 1 ∨ 11 < i) :
    Calls Tryd.prog 36 #[.int .i64 i, v] w fun e w' => e = .returned (.tuple #[.bool (fR i zs), .int .i64 (fE i zs)]) ∧ Below w.heap.size w w' := by
  unfold fR fE
  rw [if_pos h, if_pos h]
  by_cases h1 : i < 1
  · clear h
    go_enter Tryd.func36, Tryd.ntmps36
    go_wp2
    go_ret2
    exact ⟨rfl, Below.refl _ _⟩
  · have h2 : 11 < i := by omega
    clear h
    go_enter Tryd.func36, Tryd.ntmps36
    go_wp2
    go_ret2
    exact ⟨rfl, Below.refl _ _⟩
set_option maxRecDepth 100000 in
set_option maxHeartbeats 4000000 in
theorem fits_any (i : Int) (v : Value) (zs : List Int) (w : World) (hm : Hm w) (hl : zs.length ≤ maxLen) (hr : Rd w v zs) :
    Calls Tryd.prog 36 #[.int .i64 i, v] w fun e w' => e = .returned (.tuple #[.bool (fR i zs), .int .i64 (fE i zs)]) ∧ Below w.heap.size w w' := by
  by_cases h : i < 1 ∨ 11 < i
  · exact fits_out i v zs w h
  obtain ⟨id, rfl⟩ : ∃ id : Nat, i = (id : Int) := ⟨i.toNat, by omega⟩
  obtain ⟨k, rfl⟩ : ∃ k, id = k + 1 := ⟨id - 1, by omega⟩
  obtain ⟨A, cap, rfl, hA⟩ := hr.open
  have HD := Lib.hid (fun w => dim_v (k + 1) w (by omega) (by omega))
  have hk : k ≤ 10 := by omega
  unfold maxLen at hl
  by_cases hd : zs.length = dm (k + 1)
  · have e1 : fE ((k + 1 : Nat) : Int) zs = 0 := by unfold fE; rw [if_neg h, Int.toNat_natCast, if_neg (by simp [hd])]
    have e2 : fR ((k + 1 : Nat) : Int) zs = fitB ((k + 1 : Nat) : Int) zs := by unfold fR; rw [if_neg h, Int.toNat_natCast, if_neg (by simp [hd])]
    rw [e1, e2]
    have hc := hm.2 k (by omega)
    obtain ⟨l0, l1, _⟩ := lims (id := k + 1) (by omega) (by omega)
    have HT : Hid ((∀ j, j < zs.length → -lim (k + 1) ≤ zs.getD j 0 ∧ zs.getD j 0 ≤ lim (k + 1)) → fitB ((k + 1 : Nat) : Int) zs = true) := Lib.hid fun hh => by
      unfold fitB
      rw [Int.toNat_natCast]
      refine List.all_eq_true.2 fun v hv => ?_
      obtain ⟨j, hj, rfl⟩ := List.getElem_of_mem hv
      have := hh j hj
      rw [List.getD_eq_getElem?_getD, List.getElem?_eq_getElem hj] at this
      simpa using this
    have HF : Hid (∀ j, j < zs.length → (zs.getD j 0 < -lim (k + 1) ∨ lim (k + 1) < zs.getD j 0) → fitB ((k + 1 : Nat) : Int) zs = false) := Lib.hid fun j hj hh => by
      cases hf : fitB ((k + 1 : Nat) : Int) zs
      · rfl
      · unfold fitB at hf
        rw [Int.toNat_natCast] at hf
        have := List.all_eq_true.1 hf (zs.getD j 0) (by rw [List.getD_eq_getElem?_getD, List.getElem?_eq_getElem hj]; exact List.getElem_mem _)
        simp only [Bool.and_eq_true, decide_eq_true_eq] at this
        omega
    have HA := Lib.hid hA
    obtain ⟨n, hn⟩ : ∃ n, zs.length = n := ⟨_, rfl⟩
    have HN := Lib.hid hn
    rw [hn] at HT HF hl hd ⊢
    rw [← hd] at HD
    generalize fitB ((k + 1 : Nat) : Int) zs = R at *
    generalize lim (k + 1) = L at *
    have hwL : IntKind.i64.wrap (-L) = -L := by rw [IntKind.wrap_i64]; omega
    have hw1 : IntKind.i64.wrap (((k + 1 : Nat) : Int) - 1) = (k : Int) := by rw [IntKind.wrap_i64]; omega
    have h1 : ¬ (((k + 1 : Nat) : Int) < 1) := by omega
    have h11 : ¬ (11 < ((k + 1 : Nat) : Int)) := by omega
    clear hA h hr hd hn e1 e2 hm
    generalize ((k + 1 : Nat) : Int) = I at *
    go_enter Tryd.func36, Tryd.ntmps36
    go_wp2_with (go_at_call 74; ((with_reducible refine (HD.out _).mono ?_); rintro e w1 ⟨rfl, rfl⟩))
    go_loopw [26] (fun i wr => ∃ j : Nat, j ≤ n ∧ i = .int .i64 j ∧ Hid (∀ q, q < j → -L ≤ zs.getD q 0 ∧ zs.getD q 0 ≤ L) ∧ Hid (Below w.heap.size w wr)) (fun i _ => n - (intOf i).toNat)
    case atStart => exact ⟨0, by omega, rfl, Lib.hid (fun q hq => absurd hq (by omega)), Lib.hid (Below.refl _ _)⟩
    case round =>
      obtain ⟨j, hj, rfl, hall, hbel⟩ := hrel
      by_cases hlt : j < n
      · obtain ⟨b, off, rfl, hb, c1'⟩ := HA.out j (by rw [HN.out]; exact hlt)
        have c1 := (hbel.out.cell (p := ⟨b, off + j, none⟩) hb).trans c1'
        have hO := Lib.hid (HF.out j hlt)
        clear c1'
        obtain ⟨z, hz⟩ : ∃ z, zs.getD j 0 = z := ⟨_, rfl⟩
        rw [hz] at c1 hO
        by_cases hz1 : z < -L
        · have he := Lib.hid (hO.out (.inl hz1))
          have hb2 := Lib.hid hbel.out
          clear hO hz hbel hall
          go_wp2
          go_ret2
          exact ⟨by rw [he.out]; rfl, hb2.out⟩
        by_cases hz2 : L < z
        · have he := Lib.hid (hO.out (.inr hz2))
          have hb2 := Lib.hid hbel.out
          clear hO hz hbel hall
          go_wp2
          go_ret2
          exact ⟨by rw [he.out]; rfl, hb2.out⟩
        · have hall2 : Hid (∀ q, q < j + 1 → -L ≤ zs.getD q 0 ∧ zs.getD q 0 ≤ L) := Lib.hid fun q hq => by
            by_cases hqj : q = j
            · subst hqj; rw [hz]; omega
            · exact hall.out q (by omega)
          clear hO hz hall
          go_wp2
          go_roundw
          case rel => exact ⟨j + 1, by omega, by go_num, hall2, hbel⟩
          case measure => simp [intOf]; omega
      · have hend : j = n := by omega
        subst hend
        have he := Lib.hid (HT.out hall.out)
        have hb2 := Lib.hid hbel.out
        clear hall hbel
        go_wp2
        go_ret2
        exact ⟨by rw [he.out]; rfl, hb2.out⟩
  · have e1 : fE ((k + 1 : Nat) : Int) zs = 4 := by unfold fE; rw [if_neg h, Int.toNat_natCast, if_pos (by simp [hd])]
    have e2 : fR ((k + 1 : Nat) : Int) zs = false := by unfold fR; rw [if_neg h, Int.toNat_natCast, if_pos (by simp [hd])]
    rw [e1, e2]
    have hne : ((zs.length : Int) == ((dm (k + 1) : Nat) : Int)) = false := by simp; omega
    have hne2 : ¬ (zs.length : Int) = ((dm (k + 1) : Nat) : Int) := by omega
    have h1 : ¬ (((k + 1 : Nat) : Int) < 1) := by omega
    have h11 : ¬ (11 < ((k + 1 : Nat) : Int)) := by omega
    clear e1 e2 hA h hr hd hm
    generalize zs.length = n at *
    generalize dm (k + 1) = d at *
    generalize ((k + 1 : Nat) : Int) = I at *
    go_enter Tryd.func36, Tryd.ntmps36
    go_wp2_with (go_at_call 74; ((with_reducible refine (HD.out _).mono ?_); rintro e w1 ⟨rfl, rfl⟩))
    go_ret2
    exact ⟨rfl, Below.refl _ _⟩
end Go.Proofs.YteklahfgplbmcaaDoor.Hf

/- The bits of signs. -/
namespace Go.Proofs.YteklahfgplbmcaaDoor.Hf
open Go Go.ChangeShapes Go.WideShapes Go.ChangeAt Go.RowKit Go.Proofs.YteklahfgplbmcaaDoor.Bk Go.Proofs.YteklahfgplbmcaaDoor.Bi Go.Proofs.YteklahfgplbmcaaDoor.Cr Go.Proofs.YteklahfgplbmcaaDoor.Fx

theorem own8n (base : Nat) (w : World) : Cr.Own base w (.slice none 0 0) [] := World.ownsRow_nil w _ 5 1
theorem own8_al {base : Nat} {w : World} {v : Value} {zs : List Int} (h : Cr.Own base w v zs) (o : Obj) : Cr.Own base (w.alloc o) v zs := Cr.Own.below h ((Below.refl w.heap.size w).alloc (Nat.le_refl _) o)
theorem one_src (w : World) (z : Int) : Src8 (w.alloc (.cells #[.int .u8 z] 5)) (.slice (some ⟨w.heap.size, 0, none⟩) 1 1) [z] := by
  have r := World.rowIs_alloc w #[.int .u8 z] 5 (fun _ => .int .u8 z) (fun i hi => by
    have h1 : i < 1 := hi
    have : i = 0 := by omega
    subst this; rfl)
  refine .inr ⟨⟨w.heap.size, 0, none⟩, 1, rfl, fun j u hu => ?_⟩
  match j with
  | 0 => simp at hu; subst hu; exact r.cell (i := 0) (Nat.lt_succ_self 0)
  | j + 1 => simp at hu
theorem sgn_snoc {zs : List Int} {k : Nat} (h : k < zs.length) : sgn (zs.take (k + 1)) = sgn (zs.take k) ++ sg1 (zs.getD k 0) := by
  have e : zs.take (k + 1) = zs.take k ++ [zs.getD k 0] := by rw [List.take_add_one, List.getElem?_eq_getElem h]; simp [h]
  rw [e]; simp [sgn]
theorem sgn_len (zs : List Int) : (sgn zs).length ≤ zs.length := by
  induction zs with
  | nil => simp [sgn]
  | cons v l ih =>
    have e : sgn (v :: l) = sg1 v ++ sgn l := by simp [sgn]
    rw [e, List.length_append]
    have : (sg1 v).length ≤ 1 := by unfold sg1; split <;> (try split) <;> simp
    simp; omega
set_option maxRecDepth 100000 in
set_option maxHeartbeats 4000000 in
theorem signs_ok (v : Value) (zs : List Int) (w : World) (hl : zs.length ≤ 1000) (h : Rd w v zs) :
    Calls Tryd.prog 90 #[v] w fun e w' => ∃ v', e = .returned v' ∧ Cr.Own w.heap.size w' v' (sgn zs) ∧ Below w.heap.size w w' := by
  obtain ⟨A, cap, rfl, hA⟩ := h.open
  have HA := Lib.hid hA
  have HSn := Lib.hid (fun k => sgn_snoc (zs := zs) (k := k))
  have HLn := Lib.hid (fun k => sgn_len (zs.take k))
  obtain ⟨n, hn⟩ : ∃ n, zs.length = n := ⟨_, rfl⟩
  have HN := Lib.hid hn
  rw [hn] at hl HSn ⊢
  clear hA hn h
  go_enter Tryd.func90, Tryd.ntmps90
  go_wp2
  go_loopw [3, 8] (fun s i wr => ∃ j : Nat, j ≤ n ∧ i = .int .i64 j ∧ Hid (Cr.Own w.heap.size wr s (sgn (zs.take j))) ∧ Hid (Below w.heap.size w wr)) (fun _ i _ => n - (intOf i).toNat)
  case atStart => exact ⟨0, by omega, rfl, Lib.hid (by simpa [sgn] using own8n w.heap.size w), Lib.hid (Below.refl _ _)⟩
  case round =>
    obtain ⟨j, hj, rfl, ho, hbel⟩ := hrel
    by_cases hlt : j < n
    · obtain ⟨b, off, rfl, hb, c1'⟩ := HA.out j (by rw [HN.out]; exact hlt)
      have c1 := (hbel.out.cell (p := ⟨b, off + j, none⟩) hb).trans c1'
      have hst := Lib.hid (HSn.out j hlt)
      have hle := Lib.hid (HLn.out j)
      have hsz := Lib.hid (hbel.out.size)
      clear c1'
      obtain ⟨z, hz⟩ : ∃ z, zs.getD j 0 = z := ⟨_, rfl⟩
      rw [hz] at c1 hst
      obtain ⟨ys, hys⟩ : ∃ ys, sgn (zs.take j) = ys := ⟨_, rfl⟩
      rw [hys] at ho hst hle
      have hyl : Hid (ys.length ≤ 1000) := Lib.hid (by have := hle.out; rw [List.length_take] at this; omega)
      clear hz hys hle
      by_cases hz1 : z < 0
      · have e : sg1 z = [1] := by unfold sg1; rw [if_pos hz1]
        rw [e] at hst
        clear e
        go_wp2_with (at_builtin; refine wpList_append_src _ rfl (.tmp 14) (.tmp 15) rfl w.heap.size _ ys rfl (own8_al ho.out _) _ [1] rfl (one_src wr 1) (by have := hyl.out; simp; omega) (by have := hsz.out; simp; omega) ?_; intro v6 w6 ho6 hg6 _; have hb6 := Lib.hid (Go.Proofs.YteklahfgplbmcaaDoor.Cr.below_grown (hbel.out.alloc hsz.out _) (own8_al ho.out _) (Nat.le_refl _) hg6); rw [← hst.out] at ho6; have HO6 := Lib.hid ho6; clear ho6 hg6)
        go_roundw
        case rel => exact ⟨j + 1, by omega, by go_num, HO6, hb6⟩
        case measure => simp [intOf]; omega
      by_cases hz2 : 0 < z
      · have e : sg1 z = [0] := by unfold sg1; rw [if_neg hz1, if_pos hz2]
        rw [e] at hst
        clear e
        go_wp2_with (at_builtin; refine wpList_append_src _ rfl (.tmp 19) (.tmp 20) rfl w.heap.size _ ys rfl (own8_al ho.out _) _ [0] rfl (one_src wr 0) (by have := hyl.out; simp; omega) (by have := hsz.out; simp; omega) ?_; intro v6 w6 ho6 hg6 _; have hb6 := Lib.hid (Go.Proofs.YteklahfgplbmcaaDoor.Cr.below_grown (hbel.out.alloc hsz.out _) (own8_al ho.out _) (Nat.le_refl _) hg6); rw [← hst.out] at ho6; have HO6 := Lib.hid ho6; clear ho6 hg6)
        go_roundw
        case rel => exact ⟨j + 1, by omega, by go_num, HO6, hb6⟩
        case measure => simp [intOf]; omega
      · have e : sg1 z = [] := by unfold sg1; rw [if_neg hz1, if_neg hz2]
        rw [e, List.append_nil] at hst
        rw [← hst.out] at ho
        clear e hst
        go_wp2
        go_roundw
        case rel => exact ⟨j + 1, by omega, by go_num, ho, hbel⟩
        case measure => simp [intOf]; omega
    · have hend : j = n := by omega
      subst hend
      have ht : zs.take j = zs := List.take_of_length_le (by rw [HN.out]; omega)
      rw [ht] at ho
      clear ht
      go_wp2
      go_ret
      exact ⟨_, rfl, ho.out, hbel.out⟩
end Go.Proofs.YteklahfgplbmcaaDoor.Hf

/- The bits of escapes. -/
namespace Go.Proofs.YteklahfgplbmcaaDoor.Hf
open Go Go.Shelf Go.Proofs.YteklahfgplbmcaaDoor.BkPx Go.ChangeShapes Go.WideShapes Go.ChangeAt Go.RowKit Go.Proofs.YteklahfgplbmcaaDoor.Bk Go.Proofs.YteklahfgplbmcaaDoor.Bi Go.Proofs.YteklahfgplbmcaaDoor.Cr Go.Proofs.YteklahfgplbmcaaDoor.Fx

theorem len_any (n : Nat) (h1 : 1 ≤ n) (h2 : n < 65536) (w : World) : Calls Tryd.prog 50 #[.int .u64 (n : Int)] w fun e w' => e = .returned (.int .i64 (dg n : Nat)) ∧ w = w' := by
  have h := Any.bits_Len (SlLaysF0.n15.bits (P := Tryd.prog) (ρ := Tryd.sortL_ren) { Tryd.sortL with }) (n : Int) w (by omega) (by omega)
  change Calls Tryd.prog 50 _ _ _ at h
  rw [Int.toNat_natCast, bitLen_dg h1 (by omega)] at h
  exact h.mono fun _ _ h => ⟨h.1, h.2.symm⟩
theorem esc_snoc {zs : List Int} {k : Nat} (h : k < zs.length) : esc (zs.take (k + 1)) = esc (zs.take k) ++ es1 (zs.getD k 0) := by
  have e : zs.take (k + 1) = zs.take k ++ [zs.getD k 0] := by rw [List.take_add_one, List.getElem?_eq_getElem h]; simp [h]
  rw [e]; simp [esc]
theorem es1_len {v : Int} (h0 : -8191 ≤ v) (h1 : v ≤ 8191) : (es1 v).length ≤ 21 := by
  unfold es1
  split
  · simp
  · obtain ⟨d1, d2, d3, d4⟩ := dg16 (n := v.natAbs) (by omega) (by omega)
    simp [bi_len]; omega
theorem esc_len : ∀ (zs : List Int), (∀ v ∈ zs, -8191 ≤ v ∧ v ≤ 8191) → (esc zs).length ≤ 21 * zs.length
  | [], _ => by simp [esc]
  | v :: l, h => by
    have e : esc (v :: l) = es1 v ++ esc l := by simp [esc]
    have h1 := h v (by simp)
    have h2 := esc_len l (fun u hu => h u (by simp [hu]))
    have h3 := es1_len h1.1 h1.2
    rw [e, List.length_append, List.length_cons]; omega
theorem own8_dr {base : Nat} {w : World} {v : Value} {zs : List Int} (h : Cr.Own base w v zs) : Cr.Own base w.drew v zs := Cr.Own.below h ((Below.refl w.heap.size w).drew)
theorem src8_dr {w : World} {v : Value} {zs : List Int} (h : Src8 w v zs) : Src8 w.drew v zs := h.below ((Below.refl w.heap.size w).drew)
set_option maxRecDepth 100000 in
set_option maxHeartbeats 8000000 in
theorem escapes_ok (v : Value) (zs : List Int) (w : World) (hl : zs.length ≤ 4) (hv : ∀ v ∈ zs, -8191 ≤ v ∧ v ≤ 8191) (h : Rd w v zs) :
    Calls Tryd.prog 91 #[v] w fun e w' => ∃ v', e = .returned v' ∧ Cr.Own w.heap.size w' v' (esc zs) ∧ Below w.heap.size w w' := by
  obtain ⟨A, cap, rfl, hA⟩ := h.open
  have HA := Lib.hid hA
  have HV := Lib.hid hv
  have HSn := Lib.hid (fun k => esc_snoc (zs := zs) (k := k))
  have HLn := Lib.hid (fun k => esc_len (zs.take k) (fun v hv' => hv v (List.mem_of_mem_take hv')))
  have HSz := Lib.hid (fun (z : Int) (w : World) (h : -8191 ≤ z ∧ z ≤ 8191) => size_v z w (by omega) (by omega))
  obtain ⟨n, hn⟩ : ∃ n, zs.length = n := ⟨_, rfl⟩
  have HN := Lib.hid hn
  rw [hn] at hl HSn ⊢
  clear hA hn h hv
  go_enter Tryd.func91, Tryd.ntmps91
  go_wp2
  go_loopw [3, 9] (fun s i wr => ∃ j : Nat, j ≤ n ∧ i = .int .i64 j ∧ Hid (Cr.Own w.heap.size wr s (esc (zs.take j))) ∧ Hid (Below w.heap.size w wr)) (fun _ i _ => n - (intOf i).toNat)
  case atStart => exact ⟨0, by omega, rfl, Lib.hid (by simpa [esc] using own8n w.heap.size w), Lib.hid (Below.refl _ _)⟩
  case round =>
    obtain ⟨j, hj, rfl, ho, hbel⟩ := hrel
    by_cases hlt : j < n
    · obtain ⟨b, off, rfl, hb, c1'⟩ := HA.out j (by rw [HN.out]; exact hlt)
      have c1 := (hbel.out.cell (p := ⟨b, off + j, none⟩) hb).trans c1'
      have hst := Lib.hid (HSn.out j hlt)
      have hle := Lib.hid (HLn.out j)
      have hsz := Lib.hid (hbel.out.size)
      have hzb := HV.out (zs.getD j 0) (by rw [List.getD_eq_getElem?_getD, List.getElem?_eq_getElem (by rw [HN.out]; exact hlt)]; exact List.getElem_mem _)
      clear c1'
      obtain ⟨z, hz⟩ : ∃ z, zs.getD j 0 = z := ⟨_, rfl⟩
      rw [hz] at c1 hst hzb
      obtain ⟨ys, hys⟩ : ∃ ys, esc (zs.take j) = ys := ⟨_, rfl⟩
      rw [hys] at ho hst hle
      have hyl : Hid (ys.length ≤ 84) := Lib.hid (by have := hle.out; rw [List.length_take] at this; omega)
      have HS := Lib.hid (fun w => HSz.out z w hzb)
      clear hz hys hle
      by_cases h16 : z.natAbs < 16
      · have e : es1 z = [] := by unfold es1; rw [if_pos h16]
        rw [e, List.append_nil] at hst
        rw [← hst.out] at ho
        have h16I : ((z.natAbs : Nat) : Int) < 16 := by omega
        clear e hst h16
        generalize ((z.natAbs : Nat) : Int) = q at *
        go_wp2_with (go_at_call 108; ((with_reducible refine (HS.out _).mono ?_); rintro e w1 ⟨rfl, rfl⟩))
        go_roundw
        case rel => exact ⟨j + 1, by omega, by go_num, ho, hbel⟩
        case measure => simp [intOf]; omega
      · obtain ⟨d1, d2, d3, d4⟩ := dg16 (n := z.natAbs) (by omega) (by omega)
        have e : es1 z = List.replicate (dg z.natAbs - 1 - 4) 1 ++ 0 :: bi ((z.natAbs - 2 ^ (dg z.natAbs - 1) : Nat) : Int) (dg z.natAbs - 1) := by unfold es1; rw [if_neg h16]
        rw [e] at hst
        clear e
        have HL := Lib.hid (fun w => len_any z.natAbs (by omega) (by omega) w)
        obtain ⟨d, hd⟩ : ∃ d, dg z.natAbs = d + 5 := ⟨dg z.natAbs - 5, by omega⟩
        rw [hd] at d3 d4 HL hst
        rw [show d + 5 - 1 = d + 4 by omega] at hst d3
        rw [show d + 4 - 4 = d by omega] at hst
        obtain ⟨P, hP⟩ : ∃ P : Nat, 2 ^ (d + 4) = P := ⟨_, rfl⟩
        have hPI : (2 : Int) ^ (d + 4) = (P : Int) := by rw [← hP]; push_cast; rfl
        rw [show d + 5 = (d + 4) + 1 by omega, Nat.pow_succ, hP] at d4
        rw [hP] at d3 hst
        have hd8 : d ≤ 8 := by omega
        obtain ⟨m, hm⟩ : ∃ m : Nat, z.natAbs = m := ⟨_, rfl⟩
        rw [hm] at d3 d4 HL HS hst h16
        have hm8 : m ≤ 8191 := by omega
        have hmw : IntKind.u64.wrap (m : Int) = (m : Int) := by rw [IntKind.wrap_u64]; omega
        obtain ⟨e4, he4⟩ : ∃ e4, d + 4 = e4 := ⟨_, rfl⟩
        rw [he4] at hP hPI hst
        obtain ⟨L5, hL5⟩ : ∃ L5 : Int, ((d + 5 : Nat) : Int) = L5 := ⟨_, rfl⟩
        rw [hL5] at HL
        have hdw : IntKind.i64.wrap (L5 - 1) = (e4 : Int) := by rw [IntKind.wrap_i64]; omega
        have hdw2 : IntKind.i64.wrap ((e4 : Int) - 4) = (d : Int) := by rw [IntKind.wrap_i64]; omega
        have he12 : e4 ≤ 12 := by omega
        have hPw : IntKind.i64.wrap (P : Int) = (P : Int) := by rw [IntKind.wrap_i64]; omega
        have h16I : ¬ ((m : Nat) : Int) < 16 := by omega
        have hmP : IntKind.i64.wrap ((m : Int) - (P : Int)) = ((m - P : Nat) : Int) := by rw [IntKind.wrap_i64]; omega
        have HPut := Lib.hid (fun (w : World) (v0 : Value) (zs : List Int) (hsrc : Src8 w v0 zs) (hl : zs.length ≤ 100000) => put_src (v0 := v0) (zs := zs) ((m - P : Nat) : Int) e4 w hsrc hl (by omega) (by omega) (by rw [hPI]; omega))
        obtain ⟨mP, hmP'⟩ : ∃ mP : Int, ((m - P : Nat) : Int) = mP := ⟨_, rfl⟩
        rw [hmP'] at HPut hst hmP
        clear h16 d1 d2 hd hm hzb HSz HV he4 hL5 hP hmP' d3 d4
        go_wp2_with first
          | (go_at_call 108; ((with_reducible refine (HS.out _).mono ?_); rintro e w1 ⟨rfl, rfl⟩))
          | (go_at_call 50; ((with_reducible refine (HL.out _).mono ?_); rintro e w1 ⟨rfl, rfl⟩))
        generalize wr = wo at *
        go_loopw [3, 23] (fun s i wq => ∃ q : Nat, q ≤ d ∧ i = .int .i64 q ∧ Hid (Cr.Own w.heap.size wq s (ys ++ List.replicate q 1)) ∧ Hid (Below w.heap.size w wq)) (fun _ i _ => d - (intOf i).toNat)
        case atStart => exact ⟨0, by omega, rfl, Lib.hid (by simpa using ho.out), hbel⟩
        case round =>
          obtain ⟨q, hq, rfl, ho3, hb3⟩ := hrel
          have hsz3 := Lib.hid (hb3.out.size)
          by_cases hlq : q < d
          · go_wp2_with (at_builtin; refine wpList_append_src _ rfl (.tmp 25) (.tmp 26) rfl w.heap.size _ (ys ++ List.replicate q 1) rfl (own8_al ho3.out _) _ [1] rfl (one_src wr 1) (by have := hyl.out; simp; omega) (by have := hsz3.out; simp; omega) ?_; intro v6 w6 ho6 hg6 _; have hb6 := Lib.hid (Go.Proofs.YteklahfgplbmcaaDoor.Cr.below_grown (hb3.out.alloc hsz3.out _) (own8_al ho3.out _) (Nat.le_refl _) hg6); rw [List.append_assoc, ← List.replicate_succ'] at ho6; have HO6 := Lib.hid ho6; clear ho6 hg6)
            go_roundw
            case rel => exact ⟨q + 1, by omega, by go_num, HO6, hb6⟩
            case measure => simp [intOf]; omega
          · have hend : q = d := by omega
            subst hend
            go_upto_region 11 with fail
            clear HL hbel hsz ho hq
            go_region_held3 (fun w' => True) (trivial)
              (first
                | (refine step_append_src _ rfl (.tmp 30) (.tmp 31) rfl w.heap.size _ _ rfl (own8_dr (own8_al ho3.out _)) _ [0] rfl (src8_dr (one_src wr 0)) (by have := hyl.out; simp; omega) ((hb3.out.alloc hsz3.out _).drew.size) ?_; intro v6 w6 ho6 hg6; have hb6 := Lib.hid (Go.Proofs.YteklahfgplbmcaaDoor.Cr.below_grown ((hb3.out.alloc hsz3.out _).drew) (own8_dr (own8_al ho3.out _)) (Nat.le_refl _) hg6); have HO6 := Lib.hid ho6; clear ho6 hg6)
                | (go_at_call 108; ((with_reducible refine (HS.out _).mono ?_); rintro e w1 ⟨rfl, rfl⟩))
                | (go_at_call 51; ((with_reducible refine (HPut.out _ _ _ (own_src HO6.out) (by have := hyl.out; simp; omega)).mono ?_); rintro e w7 ⟨g7, cap7, rfl, ho7, hb7⟩; have HO7 := Lib.hid ho7; have hb8 := Lib.hid (hb6.out.trans (hb7.mono hb6.out.size)); clear ho7)))
            have HO8 : Hid (Cr.Own w.heap.size w7 (.slice (some ⟨g7, 0, none⟩) (ys.length + (q + 1) + e4) cap7) (esc (zs.take (j + 1)))) := Lib.hid (by rw [hst.out]; have h := own8_rebase HO7.out hb6.out.size; simpa [List.append_assoc] using h)
            clear HO7 hst HPut
            go_wp2
            go_roundw
            case rel => exact ⟨j + 1, by omega, by go_num, HO8, hb8⟩
            case measure => simp [intOf]; omega
    · have hend : j = n := by omega
      subst hend
      have ht : zs.take j = zs := List.take_of_length_le (by rw [HN.out]; omega)
      rw [ht] at ho
      clear ht
      go_wp2
      go_ret
      exact ⟨_, rfl, ho.out, hbel.out⟩
end Go.Proofs.YteklahfgplbmcaaDoor.Hf

/- Two lists of bits in new memory. -/
namespace Go.Proofs.YteklahfgplbmcaaDoor.Hf
open Go Go.ChangeShapes Go.WideShapes Go.ChangeAt Go.RowKit Go.Proofs.YteklahfgplbmcaaDoor.Bk Go.Proofs.YteklahfgplbmcaaDoor.Bi Go.Proofs.YteklahfgplbmcaaDoor.Cr Go.Proofs.YteklahfgplbmcaaDoor.Fx

theorem grown_bel {W w' : World} {n : Nat} (h : W.grownBy w' none) (hn : n ≤ W.heap.size) : Below n W w' := (Below.refl _ _).grown h hn (fun k hk => by cases hk)
set_option maxRecDepth 100000 in
set_option maxHeartbeats 4000000 in
theorem join_ok (v1 v2 : Value) (z1 z2 : List Int) (w : World) (h1 : Src8 w v1 z1) (h2 : Src8 w v2 z2) (l1 : z1.length ≤ 20000) (l2 : z2.length ≤ 20000) :
    Calls Tryd.prog 65 #[v1, v2] w fun e w' => ∃ v, e = .returned v ∧ Cr.Own w.heap.size w' v (z1 ++ z2) ∧ Below w.heap.size w w' := by
  obtain ⟨a1, c1, rfl⟩ := h1.shape
  obtain ⟨a2, c2, rfl⟩ := h2.shape
  obtain ⟨i0, hi, hz0, hz1, hz2⟩ := info_parts info5'
  have S1 := Lib.hid h1
  have S2 := Lib.hid h2
  have hw : IntKind.i64.wrap ((z1.length : Int) + (z2.length : Int)) = ((z1.length + z2.length : Nat) : Int) := by rw [IntKind.wrap_i64]; omega
  obtain ⟨m, hm⟩ : ∃ m, z1.length + z2.length = m := ⟨_, rfl⟩
  rw [hm] at hw
  have hm4 : m ≤ 40000 := by omega
  have HL := Lib.hid (show z1.length ≤ 20000 ∧ z2.length ≤ 20000 from ⟨l1, l2⟩)
  clear h1 h2 hm l1 l2
  go_enter Tryd.func65, Tryd.ntmps65
  go_wp2_with first
    | (refine wpList_make_own _ rfl _ _ 28 rfl w.heap.size 5 i0 (.int .u8 0) 1 Tryd.underlying28 hi hz0 hz1 .i64 .i64 _ m rfl rfl rfl (by rw [hz2]; omega) (by unfold maxLen; omega) (Nat.le_refl _) ?_; intro w1 ho1 hg1; have hb1 := Lib.hid (grown_bel hg1 (Nat.le_refl _)); have HO1 : Hid (Cr.Own w.heap.size w1 (.slice (some ⟨w.heap.size, 0, none⟩) 0 m) []) := Lib.hid ho1; clear ho1 hg1)
    | (at_builtin; refine wpList_append_src _ rfl (.tmp 12) (.tmp 13) rfl w.heap.size _ [] rfl HO1.out _ z1 rfl (S1.out.below hb1.out) (by have := HL.out.1; simp; omega) hb1.out.size ?_; intro v2 w2 ho2 hg2 _; have hb2 := Lib.hid (Go.Proofs.YteklahfgplbmcaaDoor.Cr.below_grown hb1.out HO1.out (Nat.le_refl _) hg2); have HO2 := Lib.hid ho2; clear ho2 hg2)
    | (at_builtin; refine wpList_append_src _ rfl (.tmp 14) (.tmp 15) rfl w.heap.size _ _ rfl HO2.out _ z2 rfl (S2.out.below hb2.out) (by have := HL.out; simp; omega) hb2.out.size ?_; intro v3 w3 ho3 hg3 _; have hb3 := Lib.hid (Go.Proofs.YteklahfgplbmcaaDoor.Cr.below_grown hb2.out HO2.out (Nat.le_refl _) hg3); have HO3 := Lib.hid ho3; clear ho3 hg3)
  go_ret
  exact ⟨_, rfl, HO3.out, hb3.out⟩
end Go.Proofs.YteklahfgplbmcaaDoor.Hf

/- The entry that stands for some values. -/
namespace Go.Proofs.YteklahfgplbmcaaDoor.Hf
open Go Go.ChangeShapes Go.WideShapes Go.ChangeAt Go.RowKit Go.Proofs.YteklahfgplbmcaaDoor.Bk Go.Proofs.YteklahfgplbmcaaDoor.Bi Go.Proofs.YteklahfgplbmcaaDoor.Cr Go.Proofs.YteklahfgplbmcaaDoor.Fx

theorem fE_eX {i : Int} {zs : List Int} (h : fE i zs ≠ 0) : eX i zs = fE i zs ∧ eE i zs = 0 := by
  have e : eX i zs = fE i zs := by
    unfold fE eX at *
    by_cases h1 : i < 1 ∨ 11 < i
    · rw [if_pos h1, if_pos h1]
    · rw [if_neg h1] at h ⊢
      rw [if_neg h1]
      by_cases h2 : zs.length = dm i.toNat
      · rw [if_neg (by simp [h2])] at h; exact absurd rfl h
      · rw [if_pos h2, if_pos h2]
  exact ⟨e, by unfold eE; rw [if_neg (by rw [e]; exact h)]⟩
theorem fR_no {i : Int} {zs : List Int} (h : fE i zs = 0) (h2 : fR i zs = false) : eX i zs = 2 ∧ eE i zs = 0 := by
  have e : eX i zs = 2 := by
    unfold fE fR eX at *
    by_cases h1 : i < 1 ∨ 11 < i
    · rw [if_pos h1]
    · rw [if_neg h1] at h h2 ⊢
      by_cases h3 : zs.length = dm i.toNat
      · rw [if_neg (by simp [h3])] at h2 ⊢
        rw [if_neg (by simp [h2])]
      · rw [if_pos h3] at h; exact absurd h (by decide)
  exact ⟨e, by unfold eE; rw [if_neg (by rw [e]; decide)]⟩
theorem fR_yes {i : Int} {zs : List Int} (h : fE i zs = 0) (h2 : fR i zs = true) : eX i zs = 0 := by
  unfold fE fR eX at *
  by_cases h1 : i < 1 ∨ 11 < i
  · rw [if_pos h1] at h2; exact absurd h2 (by decide)
  · rw [if_neg h1] at h h2 ⊢
    by_cases h3 : zs.length = dm i.toNat
    · rw [if_neg (by simp [h3])] at h2 ⊢
      rw [if_pos h2]
    · rw [if_pos h3] at h2; exact absurd h2 (by decide)
theorem rd_of_row {w : World} {g n : Nat} {zs : List Int} (h : w.rowIs g 3 n (fun j => .int .i64 (zs.getD j 0))) (hn : zs.length = n) (hm : n ≤ maxLen) : Rd w (.slice (some ⟨g, 0, none⟩) n n) zs :=
  rd_row h hn hm (fun j _ => rfl)
set_option maxRecDepth 100000 in
set_option maxHeartbeats 8000000 in
theorem entryOf_szs (id : Nat) (v : Value) (zs : List Int) (w : World) (hs : Sh w) (h1 : 1 ≤ id) (h2 : id ≤ 11) (hr : Rd w v zs) (hl : zs.length ≤ 4) (hb : ∀ z ∈ zs, -8191 ≤ z ∧ z ≤ 8191) (hsg : sgd id = false)
    (HF : Hid (∀ w', Below w.heap.size w w' → Calls Tryd.prog 36 #[.int .i64 id, v] w' fun e w'' => e = .returned (.tuple #[.bool true, .int .i64 0]) ∧ Below w'.heap.size w' w''))
    (hx : entX id (zs.map (sz1 id)) = 0) :
    Calls Tryd.prog 89 #[.int .i64 id, v] w fun e w' => e = .returned (.tuple #[.int .i64 (entI id (zs.map (sz1 id))), .int .i64 0]) ∧ Below w.heap.size w w' := by
  obtain ⟨A, cap, rfl, hA⟩ := hr.open
  obtain ⟨i0, hi, hz0, hz1, hz2⟩ := info_parts' info3
  have HA := Lib.hid hA
  have HB := Lib.hid hb
  have HSg := Lib.hid (fun w => signed_ok (id : Int) w)
  rw [hsg] at HSg
  have HSz := Lib.hid (fun (z : Int) (w : World) (h : -8191 ≤ z ∧ z ≤ 8191) => size_v z w (by omega) (by omega))
  have HEn := Lib.hid (fun (w' : World) (v : Value) (hbw : Below w.heap.size w w') (h : Rd w' v (zs.map (sz1 id))) => by
    have := entry_ok id v (zs.map (sz1 id)) w' h1 (by omega) (hs.below hbw) (by rw [List.length_map]; unfold maxLen; omega) (fun u hu => by
      obtain ⟨z, hz, rfl⟩ := List.mem_map.1 hu
      have := hb z hz
      unfold sz1; split <;> omega) h
    rw [hx] at this
    exact this)
  obtain ⟨n, hn⟩ : ∃ n, zs.length = n := ⟨_, rfl⟩
  have HN := Lib.hid hn
  rw [hn] at hl HF ⊢
  clear hA hn hr hb hsg hx hs
  have hml : (zs.map (sz1 id)).length = zs.length := List.length_map ..
  have HG : Hid (∀ j, j < zs.length → (zs.map (sz1 id)).getD j 0 = sz1 id (zs.getD j 0)) := Lib.hid fun j hj => by simp [List.getD_eq_getElem?_getD, List.getElem?_map, List.getElem?_eq_getElem hj]
  rw [HN.out] at hml HG
  obtain ⟨ms, hms⟩ : ∃ ms, zs.map (sz1 id) = ms := ⟨_, rfl⟩
  rw [hms] at hml HG HEn ⊢
  have HML := Lib.hid hml
  clear hms hml
  obtain ⟨X, hX⟩ : ∃ X, entI id ms = X := ⟨_, rfl⟩
  rw [hX] at HEn ⊢
  clear hX
  have h11I : (id : Int) = 11 ∨ ((id : Int) == 11) = false := by
    by_cases h : (id : Int) = 11
    · exact .inl h
    · exact .inr (by simp [h])
  have HZ1 : Hid (∀ v : Int, sz1 id v = if (id : Int) = 11 then ((min v.natAbs 16 : Nat) : Int) else (v.natAbs : Int)) := Lib.hid fun v => rfl
  generalize (id : Int) = I at *
  go_enter Tryd.func89, Tryd.ntmps89
  go_wp2_with first
    | (go_at_call 36; ((with_reducible refine (HF.out _ (Below.refl _ _)).mono ?_); rintro e w1 ⟨rfl, hb1⟩; have B1 := Lib.hid hb1; clear hb1))
    | (go_at_call 70; ((with_reducible refine (HSg.out _).mono ?_); rintro e w2 ⟨rfl, rfl⟩))
    | (refine wpList_make_row _ rfl _ _ 22 rfl 3 i0 (.int .i64 0) Tryd.underlying22 hi hz0 hz1 rfl .i64 .i64 n rfl rfl (by rw [hz2]; omega) (by omega) ?_)
  have R0 : Hid ((w1.alloc (.cells (madeCells #[.int .i64 0] n) 3)).rowIs w1.heap.size 3 n (fun k => .int .i64 (if k < 0 then ms.getD k 0 else 0))) := Lib.hid ((World.rowIs_made w1 (.int .i64 0) n 3).congr (fun k _ => by rw [if_neg (by omega)]))
  have B2 := Lib.hid (B1.out.alloc B1.out.size (.cells (madeCells #[.int .i64 0] n) 3))
  have HSS := Lib.hid B1.out.size
  generalize w1.alloc (.cells (madeCells #[.int .i64 0] n) 3) = W2 at *
  generalize w1.heap.size = S at *
  clear B1 HF
  go_loopw [34] (fun i wr => ∃ j : Nat, j ≤ n ∧ i = .int .i64 j ∧ Hid (wr.rowIs S 3 n (fun k => .int .i64 (if k < j then ms.getD k 0 else 0))) ∧ Hid (Below w.heap.size w wr)) (fun i _ => n - (intOf i).toNat)
  case atStart => exact ⟨0, by omega, rfl, R0, B2⟩
  case round =>
    obtain ⟨j, hj, rfl, hR, hbel⟩ := hrel
    by_cases hlt : j < n
    · obtain ⟨b, off, rfl, hb, c1'⟩ := HA.out j (by rw [HN.out]; exact hlt)
      have c1 := (hbel.out.cell (p := ⟨b, off + j, none⟩) hb).trans c1'
      have hzb := HB.out (zs.getD j 0) (by rw [List.getD_eq_getElem?_getD, List.getElem?_eq_getElem (by rw [HN.out]; exact hlt)]; exact List.getElem_mem _)
      have hg := Lib.hid (HG.out j hlt)
      clear c1'
      obtain ⟨z, hz⟩ : ∃ z, zs.getD j 0 = z := ⟨_, rfl⟩
      rw [hz] at c1 hg hzb
      have HS := Lib.hid (fun w => HSz.out z w hzb)
      have c2 := hR.out.cell (i := j) hlt
      have c3 := hR.out.frozen j
      rw [if_neg (Nat.lt_irrefl j)] at c2
      have hgz := Lib.hid (hg.out.trans (HZ1.out z))
      have hzn : z.natAbs ≤ 8191 := by omega
      obtain ⟨q, hq⟩ : ∃ q : Nat, z.natAbs = q := ⟨_, rfl⟩
      rw [hq] at HS hgz hzn
      clear hz hg hq hzb
      have hR2 : Hid (∀ u : Int, u = ms.getD j 0 → (wr.setCell ⟨S, j, none⟩ (.int .i64 u)).rowIs S 3 n (fun k => .int .i64 (if k < j + 1 then ms.getD k 0 else 0))) := Lib.hid fun u hu => (hR.out.set j (.int .i64 u)).congr (fun k hk => by
        by_cases hkj : k = j
        · subst hkj; rw [if_pos rfl, if_pos (Nat.lt_succ_self k), hu]
        · rw [if_neg hkj]
          by_cases hkl : k < j
          · rw [if_pos hkl, if_pos (by omega)]
          · rw [if_neg hkl, if_neg (by omega)])
      have hR3 : Hid (∀ u y : Int, u = ms.getD j 0 → ((wr.setCell ⟨S, j, none⟩ (.int .i64 y)).setCell ⟨S, j, none⟩ (.int .i64 u)).rowIs S 3 n (fun k => .int .i64 (if k < j + 1 then ms.getD k 0 else 0))) := Lib.hid fun u y hu => ((hR.out.set j (.int .i64 y)).set j (.int .i64 u)).congr (fun k hk => by
        by_cases hkj : k = j
        · subst hkj; rw [if_pos rfl, if_pos (Nat.lt_succ_self k), hu]
        · rw [if_neg hkj, if_neg hkj]
          by_cases hkl : k < j
          · rw [if_pos hkl, if_pos (by omega)]
          · rw [if_neg hkl, if_neg (by omega)])
      rcases h11I with h11 | h11
      · subst h11
        rw [if_pos rfl] at hgz
        have c4 := fun y : Int => (hR.out.set j (.int .i64 y)).cell (i := j) hlt
        have c5 := fun y : Int => (hR.out.set j (.int .i64 y)).frozen j
        simp only [if_pos rfl] at c4
        clear hR
        go_wp2_with (go_at_call 108; ((with_reducible refine (HS.out _).mono ?_); rintro e w5 ⟨rfl, rfl⟩))
        go_roundw
        case rel =>
          have hu : min (q : Int) 16 = ms.getD j 0 := by rw [hgz.out]; omega
          exact ⟨j + 1, by omega, by go_num, Lib.hid (hR3.out _ _ hu), Lib.hid ((hbel.out.setCell (p := ⟨S, j, none⟩) HSS.out _).setCell (p := ⟨S, j, none⟩) HSS.out _)⟩
        case measure => simp [intOf]; omega
      · rw [if_neg (by simpa using h11)] at hgz
        clear hR
        go_wp2_with (go_at_call 108; ((with_reducible refine (HS.out _).mono ?_); rintro e w5 ⟨rfl, rfl⟩))
        go_roundw
        case rel => exact ⟨j + 1, by omega, by go_num, Lib.hid (hR2.out _ hgz.out.symm), Lib.hid (hbel.out.setCell (p := ⟨S, j, none⟩) HSS.out _)⟩
        case measure => simp [intOf]; omega
    · have hend : j = n := by omega
      subst hend
      have hrd := Lib.hid (rd_of_row (hR.out.congr (g := fun k => .int .i64 (ms.getD k 0)) (fun k hk => by rw [if_pos hk])) HML.out (by unfold maxLen; omega))
      clear hR
      go_wp2_with (go_at_call 22; ((with_reducible refine (HEn.out _ _ hbel.out hrd.out).mono ?_); rintro e w5 ⟨rfl, hb5⟩; have B5 := Lib.hid (hbel.out.trans (hb5.mono hbel.out.size)); clear hb5))
      go_ret2
      exact ⟨rfl, B5.out⟩

set_option maxHeartbeats 4000000 in
theorem entryOf_any (i : Int) (v : Value) (zs : List Int) (w : World) (hs : Sh w) (hm : Hm w) (hr : Rd w v zs) (hl : zs.length ≤ maxLen) (hb : ∀ z ∈ zs, -9223372036854775808 ≤ z ∧ z ≤ 9223372036854775807) :
    Calls Tryd.prog 89 #[.int .i64 i, v] w fun e w' => e = .returned (.tuple #[.int .i64 (eE i zs), .int .i64 (eX i zs)]) ∧ Below w.heap.size w w' := by
  have HF := Lib.hid (fun w' (hb : Below w.heap.size w w') => fits_any i v zs w' (hm.below hb) hl (hr.below hb))
  by_cases h1 : fE i zs = 0
  · cases h2 : fR i zs
    · obtain ⟨e1, e2⟩ := fR_no h1 h2
      rw [e1, e2]
      rw [h1, h2] at HF
      clear h1 h2 e1 e2 hs hm hr hl hb
      go_enter Tryd.func89, Tryd.ntmps89
      go_wp2_with (go_at_call 36; ((with_reducible refine (HF.out _ (Below.refl _ _)).mono ?_); rintro e w1 ⟨rfl, hb1⟩))
      go_ret2
      exact ⟨rfl, hb1⟩
    · have e1 := fR_yes h1 h2
      obtain ⟨id, n, rfl, i1, i2, il, ib, eqE, _, _, ex, en⟩ := eE_ok e1
      rw [h1, h2] at HF
      rw [e1, eqE]
      cases hsg : sgd id
      · unfold tld at ex en
        rw [hsg] at ex en
        simp only [Bool.false_eq_true, if_false] at ex en
        obtain ⟨l0, l1, _⟩ := lims i1 i2
        have := entryOf_szs id v zs w hs i1 i2 hr (by rw [il]; exact (facts i1 (by omega)).2.2.2.2.1) (fun z hz => by have := ib z hz; omega) hsg HF ex
        rw [en] at this
        exact this
      · unfold tld at ex en
        rw [hsg] at ex en
        simp only [if_true] at ex en
        have HSg := Lib.hid (fun w => signed_ok (id : Int) w)
        rw [hsg] at HSg
        have HEn := Lib.hid (fun (w' : World) (hbw : Below w.heap.size w w') => by
          have := entry_ok id v zs w' i1 (by omega) (hs.below hbw) hl hb (hr.below hbw)
          rw [ex, en] at this
          exact this)
        clear h1 h2 e1 hs hm hr hl hb il ib ex en eqE hsg
        go_enter Tryd.func89, Tryd.ntmps89
        go_wp2_with first
          | (go_at_call 36; ((with_reducible refine (HF.out _ (Below.refl _ _)).mono ?_); rintro e w1 ⟨rfl, hb1⟩; have B1 := Lib.hid hb1; clear hb1))
          | (go_at_call 70; ((with_reducible refine (HSg.out _).mono ?_); rintro e w2 ⟨rfl, rfl⟩))
          | (go_at_call 22; ((with_reducible refine (HEn.out _ B1.out).mono ?_); rintro e w3 ⟨rfl, hb3⟩; have B3 := Lib.hid (B1.out.trans (hb3.mono B1.out.size)); clear hb3))
        go_ret2
        exact ⟨rfl, B3.out⟩
  · obtain ⟨e1, e2⟩ := fE_eX h1
    rw [e1, e2]
    have hne : (fE i zs == 0) = false := by simp [h1]
    generalize fE i zs = F at *
    generalize fR i zs = R at *
    clear hs hm hr hl hb e1 e2
    go_enter Tryd.func89, Tryd.ntmps89
    go_wp2_with (go_at_call 36; ((with_reducible refine (HF.out _ (Below.refl _ _)).mono ?_); rintro e w1 ⟨rfl, hb1⟩))
    go_ret2
    exact ⟨rfl, hb1⟩
end Go.Proofs.YteklahfgplbmcaaDoor.Hf

/- Values' bits. -/
namespace Go.Proofs.YteklahfgplbmcaaDoor.Hf
open Go Go.ChangeShapes Go.WideShapes Go.ChangeAt Go.RowKit Go.Proofs.YteklahfgplbmcaaDoor.Bk Go.Proofs.YteklahfgplbmcaaDoor.Bi Go.Proofs.YteklahfgplbmcaaDoor.Cr Go.Proofs.YteklahfgplbmcaaDoor.Fx

open Go.Proofs.YteklahfgplbmcaaDoor.BkRf Go.Proofs.YteklahfgplbmcaaDoor.BkPx
noncomputable def vX (i p : Int) (A B : List Int) (zs : List Int) : Int := if IsBk i p A B then eX i zs else 8
noncomputable def vZ (i p : Int) (A B : List Int) (zs : List Int) : List Int := if vX i p A B zs = 0 then vL B i p zs else []
theorem zo_len' {id : Nat} (h1 : 1 ≤ id) (h2 : id ≤ 12) : (zi (ord id)).length = Nn id := by rw [zi_len, ord_len h1 h2]
theorem isbk_nn {i p : Int} {A B : List Int} (h : IsBk i p A B) : ∃ id : Nat, i = id ∧ 1 ≤ id ∧ id ≤ 12 ∧ p = pl id ∧ A.length = Nn id ∧ B.length = Nn id ∧ 1 ≤ Nn id ∧ Nn id ≤ 289 ∧ A = zi (ord id) ∧ B = rkL id := by
  obtain ⟨id, rfl, h1, h2, rfl, rfl, rfl⟩ := h
  have f := facts h1 h2
  exact ⟨id, rfl, h1, h2, rfl, zo_len' h1 h2, rkL_len id, f.2.2.2.2.2.2.1, f.2.2.2.2.2.2.2.1, rfl, rfl⟩
theorem cd_30 {i p : Int} {A B : List Int} (n : Int) : (cdL i p A B n).length ≤ 30 := by
  unfold cdL
  by_cases hk : IsBk i p A B
  · rw [if_pos hk]
    by_cases hn : 0 ≤ n ∧ n < (B.length : Int)
    · rw [if_pos hn]
      obtain ⟨id, rfl, h1, h2, rfl, _, hB, _, _, _, rfl⟩ := isbk_nn hk
      obtain ⟨m, rfl⟩ : ∃ m : Nat, n = (m : Int) := ⟨n.toNat, by omega⟩
      rw [Int.toNat_natCast, Int.toNat_natCast]
      have hm : m < Nn id := by omega
      rw [rkL_get hm]
      have := (cd_19 h1 h2 ((ord_is h1 h2).rank hm).1).1
      show (cd (pl id) (rk id m : Int).toNat).length ≤ 30
      rw [Int.toNat_natCast]
      unfold rk; omega
    · rw [if_neg hn]; simp
  · rw [if_neg hk]; simp
theorem vX_ok {i p : Int} {A B zs : List Int} (hk : IsBk i p A B) (h : eX i zs = 0) : vX i p A B zs = 0 ∧ vZ i p A B zs = vL B i p zs ∧ cdX i p A B (eE i zs) = 0 ∧ cdL i p A B (eE i zs) = cd p.toNat (B.getD (eE i zs).toNat 0).toNat := by
  have e0 : vX i p A B zs = 0 := by unfold vX; rw [if_pos hk, h]
  obtain ⟨id, n, rfl, h1, h2, _, _, en, hn, _⟩ := eE_ok h
  obtain ⟨id', e, _, _, _, _, hB, _⟩ := isbk_nn hk
  obtain rfl : id = id' := by omega
  have hin : 0 ≤ eE (id : Int) zs ∧ eE (id : Int) zs < (B.length : Int) := by rw [en]; omega
  refine ⟨e0, by unfold vZ; rw [if_pos e0], ?_, ?_⟩
  · unfold cdX; rw [if_pos hk, if_pos hin]
  · unfold cdL; rw [if_pos hk, if_pos hin]
theorem vX_bad {i p : Int} {A B zs : List Int} (hk : IsBk i p A B) (h : eX i zs ≠ 0) : vX i p A B zs = eX i zs ∧ vZ i p A B zs = [] ∧ cdX i p A B (eE i zs) = 0 := by
  have e0 : vX i p A B zs = eX i zs := by unfold vX; rw [if_pos hk]
  obtain ⟨id', e, _, _, _, _, hB, h0, _⟩ := isbk_nn hk
  refine ⟨e0, by unfold vZ; rw [if_neg (by rw [e0]; exact h)], ?_⟩
  unfold cdX eE
  rw [if_pos hk, if_neg h, if_pos (by omega)]
theorem vX_no {i p : Int} {A B zs : List Int} (hk : ¬ IsBk i p A B) : vX i p A B zs = 8 ∧ vZ i p A B zs = [] ∧ cdX i p A B (eE i zs) = 8 := by
  have e0 : vX i p A B zs = 8 := by unfold vX; rw [if_neg hk]
  refine ⟨e0, by unfold vZ; rw [if_neg (by rw [e0]; decide)], ?_⟩
  unfold cdX
  rw [if_neg hk]
theorem own_ne {b2 n : Nat} {w : World} {v : Value} {zs : List Int} (h : Cr.Own b2 w v zs) (hn : n < b2) : v.ownBlock ≠ some n := fun e => by
  have := (World.ownsRow.lt h n e).1
  omega
theorem keep_grown {w w3 w4 : World} {a b c d v : Value} {zs : List Int} (h : Below (w.alloc (.cells #[a, b, c, d] 24)).heap.size (w.alloc (.cells #[a, b, c, d] 24)) w3) (_ : Cr.Own w.heap.size w3 v zs) (hg : w3.grownBy w4 v.ownBlock) (hv : v.ownBlock ≠ some w.heap.size) :
    w4.cell? ⟨w.heap.size, 0, none⟩ = some a ∧ w4.cell? ⟨w.heap.size, 1, none⟩ = some b ∧ w4.cell? ⟨w.heap.size, 2, none⟩ = some c ∧ w4.cell? ⟨w.heap.size, 3, none⟩ = some d := by
  obtain ⟨q0, q1, q2, q3⟩ := bx1 h
  have hb : w4.heap[w.heap.size]? = w3.heap[w.heap.size]? := hg.block _ (by have := h.size; simp at this; omega) (fun e => hv e.symm)
  have hc : ∀ k, w4.cell? ⟨w.heap.size, k, none⟩ = w3.cell? ⟨w.heap.size, k, none⟩ := fun k => World.cell?_of_block (w := w3) (a := ⟨w.heap.size, k, none⟩) hb
  exact ⟨(hc 0).trans q0, (hc 1).trans q1, (hc 2).trans q2, (hc 3).trans q3⟩
set_option maxRecDepth 100000 in
set_option maxHeartbeats 8000000 in
theorem vbits_any (i p : Int) (a1 a2 : Option Addr) (c1 c2 : Nat) (A B : List Int) (v : Value) (zs : List Int) (w : World) (hs : Sh w) (hm : Hm w) (r1 : Rd w (.slice a1 A.length c1) A) (r2 : Rd w (.slice a2 B.length c2) B) (rv : Rd w v zs) (hl : zs.length ≤ maxLen) (hb : ∀ z ∈ zs, -9223372036854775808 ≤ z ∧ z ≤ 9223372036854775807) :
    Calls Tryd.prog 64 #[.agg #[.int .i64 i, .int .i64 p, .slice a1 A.length c1, .slice a2 B.length c2], v] w fun e w' => ∃ v', e = .returned (.tuple #[v', .int .i64 (vX i p A B zs)]) ∧ Cr.Own w.heap.size w' v' (vZ i p A B zs) ∧ Below w.heap.size w w' := by
  have HB := Lib.hid (al w (.cells #[.int .i64 i, .int .i64 p, .slice a1 A.length c1, .slice a2 B.length c2] 24))
  have HX := Lib.hid (fun x h => bx1 (w := w) (a := .int .i64 i) (b := .int .i64 p) (c := .slice a1 A.length c1) (d := .slice a2 B.length c2) (x := x) h)
  obtain ⟨p0, p1, p2, p3⟩ := HX.out _ (Below.refl _ _)
  have H89 := Lib.hid (fun x (h : Below w.heap.size w x) => entryOf_any i v zs x (hs.below h) (hm.below h) (rv.below h) hl hb)
  have H16 := Lib.hid (fun x (h : Below w.heap.size w x) => pcd_any i p (eE i zs) a1 a2 c1 c2 A B x (hs.below h) (r1.below h) (r2.below h))
  have H70 := Lib.hid (fun x => signed_ok i x)
  by_cases hk : IsBk i p A B
  · by_cases hx : eX i zs = 0
    · obtain ⟨e1, e2, e3, e4⟩ := vX_ok hk hx
      obtain ⟨id, n0, rfl, h1, h2, hzl, hzb, hzz⟩ := eE_ok hx
      clear hzz n0
      obtain ⟨l0, l1, _⟩ := lims h1 h2
      have hz4 : zs.length ≤ 4 := by rw [hzl]; exact (facts h1 (by omega)).2.2.2.2.1
      have hz8 : ∀ z ∈ zs, -8191 ≤ z ∧ z ≤ 8191 := fun z hz => by have := hzb z hz; omega
      have H90 := Lib.hid (fun x (h : Below w.heap.size w x) => signs_ok v zs x (by omega) (rv.below h))
      have H91 := Lib.hid (fun x (h : Below w.heap.size w x) => escapes_ok v zs x hz4 hz8 (rv.below h))
      have h30 := cd_30 (i := (id : Int)) (p := p) (A := A) (B := B) (eE id zs)
      have hE := esc_len zs hz8
      have hS := sgn_len zs
      rw [e1, e2]
      rw [e3] at H16
      have HV : Hid (vL B id p zs = cdL id p A B (eE id zs) ++ ((if sgd id then [] else sgn zs) ++ (if (id : Int) = 11 then esc zs else []))) := Lib.hid (by rw [e4]; rfl)
      rw [hx] at H89
      generalize cdL id p A B (eE id zs) = L at *
      generalize eE (id : Int) zs = n at *
      have HLn : Hid (L.length ≤ 30 ∧ (esc zs).length ≤ 84 ∧ (sgn zs).length ≤ 4) := Lib.hid ⟨h30, by omega, by omega⟩
      clear e1 e2 e3 e4 hx hk hs hm r1 r2 rv hl hb hzl hzb hz4 hz8 h30 hE hS l0 l1
      cases hsg : sgd (id : Int)
      · rw [hsg] at H70 HV
        simp only [Bool.false_eq_true, if_false] at HV
        by_cases h11 : (id : Int) = 11
        · rw [if_pos h11] at HV
          clear h1 h2 hsg
          generalize (id : Int) = I at *
          subst h11
          rw [HV.out]
          go_enter Tryd.func64, Tryd.ntmps64
          go_wp2_with first
            | (go_at_call 89; ((with_reducible refine (H89.out _ HB.out).mono ?_); rintro e w1 ⟨rfl, hb⟩; have B1 := Lib.hid (bT HB.out hb); have X1 := Lib.hid hb; clear p0 p1 p2 p3; obtain ⟨p0, p1, p2, p3⟩ := HX.out w1 X1.out; clear hb))
            | (go_at_call 16; ((with_reducible refine (H16.out _ B1.out).mono ?_); rintro e w2 ⟨v2, rfl, ho2, hb⟩; have O2 := Lib.hid (own8_rebase ho2 B1.out.size); have HSZ : Hid (v2.ownBlock ≠ some w.heap.size) := Lib.hid (own_ne ho2 (by have := X1.out.size; simp at this; omega)); have B2 := Lib.hid (bT B1.out hb); have X2 := Lib.hid (bT X1.out hb); clear p0 p1 p2 p3 ho2; obtain ⟨p0, p1, p2, p3⟩ := HX.out w2 X2.out; clear hb))
            | (go_at_call 70; ((with_reducible refine (H70.out _).mono ?_); rintro e w8 ⟨rfl, rfl⟩))
            | (go_at_call 90; ((with_reducible refine (H90.out _ B2.out).mono ?_); rintro e w3 ⟨v3, rfl, ho3, hb⟩; have O3 := Lib.hid (own_src ho3); have O23 := Lib.hid (Cr.Own.below O2.out hb); have B3 := Lib.hid (bT B2.out hb); have X3 := Lib.hid (bT X2.out hb); clear p0 p1 p2 p3 ho3; obtain ⟨p0, p1, p2, p3⟩ := HX.out w3 X3.out; clear hb))
            | (at_builtin; refine wpList_append_src _ rfl (.tmp 33) (.tmp 35) rfl w.heap.size _ L rfl O23.out _ (sgn zs) rfl O3.out (by have := HLn.out; omega) B3.out.size ?_; intro v4 w4 ho4 hg4 _; have O4 := Lib.hid ho4; have B4 := Lib.hid (Go.Proofs.YteklahfgplbmcaaDoor.Cr.below_grown B3.out O23.out (Nat.le_refl _) hg4); have K4 := Lib.hid (keep_grown X3.out O23.out hg4 HSZ.out); clear p0 p1 p2 p3 ho4 hg4; obtain ⟨p0, p1, p2, p3⟩ := K4.out)
            | (go_at_call 91; ((with_reducible refine (H91.out _ B4.out).mono ?_); rintro e w5 ⟨v5, rfl, ho5, hb⟩; have O5 := Lib.hid (own_src ho5); have O45 := Lib.hid (Cr.Own.below O4.out hb); have B5 := Lib.hid (bT B4.out hb); clear ho5 hb))
            | (at_builtin; refine wpList_append_src _ rfl (.tmp 40) (.tmp 42) rfl w.heap.size _ _ rfl O45.out _ (esc zs) rfl O5.out (by have := HLn.out; rw [List.length_append]; omega) B5.out.size ?_; intro v6 w6 ho6 hg6 _; have O6 := Lib.hid ho6; have B6 := Lib.hid (Go.Proofs.YteklahfgplbmcaaDoor.Cr.below_grown B5.out O45.out (Nat.le_refl _) hg6); clear ho6 hg6)
          go_ret2
          exact ⟨_, rfl, by rw [← List.append_assoc]; exact O6.out, B6.out⟩
        · rw [if_neg h11, List.append_nil] at HV
          have h11b : ((id : Int) == 11) = false := by simp [h11]
          clear h1 h2 hsg h11
          generalize (id : Int) = I at *
          rw [HV.out]
          go_enter Tryd.func64, Tryd.ntmps64
          go_wp2_with first
            | (go_at_call 89; ((with_reducible refine (H89.out _ HB.out).mono ?_); rintro e w1 ⟨rfl, hb⟩; have B1 := Lib.hid (bT HB.out hb); have X1 := Lib.hid hb; clear p0 p1 p2 p3; obtain ⟨p0, p1, p2, p3⟩ := HX.out w1 X1.out; clear hb))
            | (go_at_call 16; ((with_reducible refine (H16.out _ B1.out).mono ?_); rintro e w2 ⟨v2, rfl, ho2, hb⟩; have O2 := Lib.hid (own8_rebase ho2 B1.out.size); have HSZ : Hid (v2.ownBlock ≠ some w.heap.size) := Lib.hid (own_ne ho2 (by have := X1.out.size; simp at this; omega)); have B2 := Lib.hid (bT B1.out hb); have X2 := Lib.hid (bT X1.out hb); clear p0 p1 p2 p3 ho2; obtain ⟨p0, p1, p2, p3⟩ := HX.out w2 X2.out; clear hb))
            | (go_at_call 70; ((with_reducible refine (H70.out _).mono ?_); rintro e w8 ⟨rfl, rfl⟩))
            | (go_at_call 90; ((with_reducible refine (H90.out _ B2.out).mono ?_); rintro e w3 ⟨v3, rfl, ho3, hb⟩; have O3 := Lib.hid (own_src ho3); have O23 := Lib.hid (Cr.Own.below O2.out hb); have B3 := Lib.hid (bT B2.out hb); have X3 := Lib.hid (bT X2.out hb); clear p0 p1 p2 p3 ho3; obtain ⟨p0, p1, p2, p3⟩ := HX.out w3 X3.out; clear hb))
            | (at_builtin; refine wpList_append_src _ rfl (.tmp 33) (.tmp 35) rfl w.heap.size _ L rfl O23.out _ (sgn zs) rfl O3.out (by have := HLn.out; omega) B3.out.size ?_; intro v4 w4 ho4 hg4 _; have O4 := Lib.hid ho4; have B4 := Lib.hid (Go.Proofs.YteklahfgplbmcaaDoor.Cr.below_grown B3.out O23.out (Nat.le_refl _) hg4); have K4 := Lib.hid (keep_grown X3.out O23.out hg4 HSZ.out); clear p0 p1 p2 p3 ho4 hg4; obtain ⟨p0, p1, p2, p3⟩ := K4.out)
          go_ret2
          exact ⟨_, rfl, O4.out, B4.out⟩
      · rw [hsg] at H70 HV
        simp only [if_true] at HV
        have h11b : ((id : Int) == 11) = false := by
          have : id ≠ 11 := by intro h; subst h; exact absurd hsg (by decide)
          simp; omega
        rw [if_neg (by simpa using h11b), List.append_nil, List.append_nil] at HV
        clear h1 h2 hsg H90 H91
        generalize (id : Int) = I at *
        rw [HV.out]
        go_enter Tryd.func64, Tryd.ntmps64
        go_wp2_with first
          | (go_at_call 89; ((with_reducible refine (H89.out _ HB.out).mono ?_); rintro e w1 ⟨rfl, hb⟩; have B1 := Lib.hid (bT HB.out hb); have X1 := Lib.hid hb; clear p0 p1 p2 p3; obtain ⟨p0, p1, p2, p3⟩ := HX.out w1 X1.out; clear hb))
          | (go_at_call 16; ((with_reducible refine (H16.out _ B1.out).mono ?_); rintro e w2 ⟨v2, rfl, ho2, hb⟩; have O2 := Lib.hid (own8_rebase ho2 B1.out.size); have HSZ : Hid (v2.ownBlock ≠ some w.heap.size) := Lib.hid (own_ne ho2 (by have := X1.out.size; simp at this; omega)); have B2 := Lib.hid (bT B1.out hb); have X2 := Lib.hid (bT X1.out hb); clear p0 p1 p2 p3 ho2; obtain ⟨p0, p1, p2, p3⟩ := HX.out w2 X2.out; clear hb))
          | (go_at_call 70; ((with_reducible refine (H70.out _).mono ?_); rintro e w8 ⟨rfl, rfl⟩))
        go_ret2
        exact ⟨_, rfl, O2.out, B2.out⟩
    · obtain ⟨e1, e2, e3⟩ := vX_bad hk hx
      rw [e1, e2]
      rw [e3] at H16
      have hne : (eX i zs == 0) = false := by simp [hx]
      generalize eX i zs = X at *
      generalize cdL i p A B (eE i zs) = L at *
      generalize eE i zs = n at *
      clear e1 e2 e3 hk hs hm r1 r2 rv hl hb
      go_enter Tryd.func64, Tryd.ntmps64
      go_wp2_with first
        | (go_at_call 89; ((with_reducible refine (H89.out _ HB.out).mono ?_); rintro e w1 ⟨rfl, hb⟩; have B1 := Lib.hid (bT HB.out hb); have X1 := Lib.hid hb; clear p0 p1 p2 p3; obtain ⟨p0, p1, p2, p3⟩ := HX.out w1 X1.out; clear hb))
        | (go_at_call 16; ((with_reducible refine (H16.out _ B1.out).mono ?_); rintro e w2 ⟨v2, rfl, ho2, hb⟩; have O2 := Lib.hid (own8_rebase ho2 B1.out.size); have HSZ : Hid (v2.ownBlock ≠ some w.heap.size) := Lib.hid (own_ne ho2 (by have := X1.out.size; simp at this; omega)); have B2 := Lib.hid (bT B1.out hb); have X2 := Lib.hid (bT X1.out hb); clear p0 p1 p2 p3 ho2; obtain ⟨p0, p1, p2, p3⟩ := HX.out w2 X2.out; clear hb))
      go_ret2
      exact ⟨_, rfl, own8n _ _, B2.out⟩
  · obtain ⟨e1, e2, e3⟩ := vX_no (zs := zs) hk
    rw [e1, e2]
    rw [e3] at H16
    generalize eX i zs = X at *
    generalize cdL i p A B (eE i zs) = L at *
    generalize eE i zs = n at *
    clear e1 e2 e3 hk hs hm r1 r2 rv hl hb
    go_enter Tryd.func64, Tryd.ntmps64
    go_wp2_with first
      | (go_at_call 89; ((with_reducible refine (H89.out _ HB.out).mono ?_); rintro e w1 ⟨rfl, hb⟩; have B1 := Lib.hid (bT HB.out hb); have X1 := Lib.hid hb; clear p0 p1 p2 p3; obtain ⟨p0, p1, p2, p3⟩ := HX.out w1 X1.out; clear hb))
      | (go_at_call 16; ((with_reducible refine (H16.out _ B1.out).mono ?_); rintro e w2 ⟨v2, rfl, ho2, hb⟩; have O2 := Lib.hid (own8_rebase ho2 B1.out.size); have HSZ : Hid (v2.ownBlock ≠ some w.heap.size) := Lib.hid (own_ne ho2 (by have := X1.out.size; simp at this; omega)); have B2 := Lib.hid (bT B1.out hb); have X2 := Lib.hid (bT X1.out hb); clear p0 p1 p2 p3 ho2; obtain ⟨p0, p1, p2, p3⟩ := HX.out w2 X2.out; clear hb))
    go_ret2
    exact ⟨_, rfl, own8n _ _, B2.out⟩
end Go.Proofs.YteklahfgplbmcaaDoor.Hf

/- Put and Cost, of whatever book. -/
namespace Go.Proofs.YteklahfgplbmcaaDoor.Hf
open Go Go.ChangeShapes Go.WideShapes Go.ChangeAt Go.RowKit Go.Proofs.YteklahfgplbmcaaDoor.Bk Go.Proofs.YteklahfgplbmcaaDoor.Bi Go.Proofs.YteklahfgplbmcaaDoor.Cr Go.Proofs.YteklahfgplbmcaaDoor.Fx

open Go.Proofs.YteklahfgplbmcaaDoor.BkRf Go.Proofs.YteklahfgplbmcaaDoor.BkPx
theorem vZ_len (i p : Int) (A B zs : List Int) : (vZ i p A B zs).length ≤ 120 := by
  unfold vZ
  by_cases h : vX i p A B zs = 0
  · rw [if_pos h]
    have hk : IsBk i p A B := by
      by_cases hk : IsBk i p A B
      · exact hk
      · rw [(vX_no (zs := zs) hk).1] at h; exact absurd h (by decide)
    have hx : eX i zs = 0 := by
      unfold vX at h; rwa [if_pos hk] at h
    obtain ⟨_, _, _, e4⟩ := vX_ok hk hx
    have h30 := cd_30 (i := i) (p := p) (A := A) (B := B) (eE i zs)
    rw [e4] at h30
    obtain ⟨id, n, rfl, h1, h2, hzl, hzb, _⟩ := eE_ok hx
    obtain ⟨l0, l1, _⟩ := lims h1 h2
    have hz4 : zs.length ≤ 4 := by rw [hzl]; exact (facts h1 (by omega)).2.2.2.2.1
    have hE := esc_len zs (fun z hz => by have := hzb z hz; omega)
    have hS := sgn_len zs
    unfold vL
    rw [List.length_append, List.length_append]
    have q1 : (if sgd (id : Int) = true then [] else sgn zs).length ≤ 4 := by
      split
      · exact Nat.zero_le _
      · omega
    have q2 : (if (id : Int) = 11 then esc zs else []).length ≤ 84 := by
      split
      · omega
      · exact Nat.zero_le _
    omega
  · rw [if_neg h]; simp
/-- What Put answers. -/
noncomputable def pZ (zb : List Int) (i p : Int) (A B : List Int) (zs : List Int) : List Int := if vX i p A B zs = 0 then zb ++ vZ i p A B zs else []
set_option maxRecDepth 100000 in
set_option maxHeartbeats 4000000 in
theorem put_any (vb : Value) (zb : List Int) (i p : Int) (a1 a2 : Option Addr) (c1 c2 : Nat) (A B : List Int) (v : Value) (zs : List Int) (w : World) (hs : Sh w) (hm : Hm w) (r1 : Rd w (.slice a1 A.length c1) A) (r2 : Rd w (.slice a2 B.length c2) B) (rv : Rd w v zs) (hl : zs.length ≤ maxLen) (hb : ∀ z ∈ zs, -9223372036854775808 ≤ z ∧ z ≤ 9223372036854775807) (sb : Src8 w vb zb) (lb : zb.length ≤ 20000) :
    Calls Tryd.prog 30 #[vb, .agg #[.int .i64 i, .int .i64 p, .slice a1 A.length c1, .slice a2 B.length c2], v] w fun e w' => ∃ v', e = .returned (.tuple #[v', .int .i64 (vX i p A B zs)]) ∧ Cr.Own w.heap.size w' v' (pZ zb i p A B zs) ∧ Below w.heap.size w w' := by
  have HB := Lib.hid (al w (.cells #[.int .i64 i, .int .i64 p, .slice a1 A.length c1, .slice a2 B.length c2] 24))
  obtain ⟨p0, p1, p2, p3⟩ := bx1 (w := w) (a := .int .i64 i) (b := .int .i64 p) (c := .slice a1 A.length c1) (d := .slice a2 B.length c2) (Below.refl _ _)
  have H64 := Lib.hid (fun x (h : Below w.heap.size w x) => vbits_any i p a1 a2 c1 c2 A B v zs x (hs.below h) (hm.below h) (r1.below h) (r2.below h) (rv.below h) hl hb)
  have hz := vZ_len i p A B zs
  have HJ := Lib.hid (fun (x : World) (v2 : Value) (h : Below w.heap.size w x) (h2 : Src8 x v2 (vZ i p A B zs)) => join_ok vb v2 zb (vZ i p A B zs) x (sb.below h) h2 lb (by omega))
  have HP : Hid (vX i p A B zs = 0 → pZ zb i p A B zs = zb ++ vZ i p A B zs) := Lib.hid fun h => by unfold pZ; rw [if_pos h]
  have HN : Hid (vX i p A B zs ≠ 0 → pZ zb i p A B zs = []) := Lib.hid fun h => by unfold pZ; rw [if_neg h]
  generalize vX i p A B zs = X at *
  generalize vZ i p A B zs = Z at *
  generalize pZ zb i p A B zs = T at *
  clear hs hm r1 r2 rv hl hb sb lb hz
  by_cases hX : X = 0
  · have HT := Lib.hid (HP.out hX)
    subst hX
    clear HP HN
    go_enter Tryd.func30, Tryd.ntmps30
    go_wp2_with first
      | (go_at_call 64; ((with_reducible refine (H64.out _ HB.out).mono ?_); rintro e w1 ⟨v1, rfl, ho1, hb⟩; have O1 := Lib.hid (own_src ho1); have B1 := Lib.hid (bT HB.out hb); clear ho1 hb))
      | (go_at_call 65; ((with_reducible refine (HJ.out _ _ B1.out O1.out).mono ?_); rintro e w2 ⟨v2, rfl, ho2, hb⟩; have O2 := Lib.hid (own8_rebase ho2 B1.out.size); have B2 := Lib.hid (bT B1.out hb); clear ho2 hb))
    go_ret2
    exact ⟨_, rfl, by rw [HT.out]; exact O2.out, B2.out⟩
  · have HT := Lib.hid (HN.out hX)
    have hne : (X == 0) = false := by simp [hX]
    clear HP HN HJ
    go_enter Tryd.func30, Tryd.ntmps30
    go_wp2_with first
      | (go_at_call 64; ((with_reducible refine (H64.out _ HB.out).mono ?_); rintro e w1 ⟨v1, rfl, ho1, hb⟩; have B1 := Lib.hid (bT HB.out hb); clear ho1 hb))
    go_ret2
    exact ⟨_, rfl, by rw [HT.out]; exact own8n _ _, B1.out⟩
set_option maxRecDepth 100000 in
set_option maxHeartbeats 4000000 in
theorem cost_any (i p : Int) (a1 a2 : Option Addr) (c1 c2 : Nat) (A B : List Int) (v : Value) (zs : List Int) (w : World) (hs : Sh w) (hm : Hm w) (r1 : Rd w (.slice a1 A.length c1) A) (r2 : Rd w (.slice a2 B.length c2) B) (rv : Rd w v zs) (hl : zs.length ≤ maxLen) (hb : ∀ z ∈ zs, -9223372036854775808 ≤ z ∧ z ≤ 9223372036854775807) :
    Calls Tryd.prog 34 #[.agg #[.int .i64 i, .int .i64 p, .slice a1 A.length c1, .slice a2 B.length c2], v] w fun e w' => e = .returned (.tuple #[.int .i64 ((vZ i p A B zs).length : Nat), .int .i64 (vX i p A B zs)]) ∧ Below w.heap.size w w' := by
  have HB := Lib.hid (al w (.cells #[.int .i64 i, .int .i64 p, .slice a1 A.length c1, .slice a2 B.length c2] 24))
  obtain ⟨p0, p1, p2, p3⟩ := bx1 (w := w) (a := .int .i64 i) (b := .int .i64 p) (c := .slice a1 A.length c1) (d := .slice a2 B.length c2) (Below.refl _ _)
  have H64 := Lib.hid (fun x (h : Below w.heap.size w x) => vbits_any i p a1 a2 c1 c2 A B v zs x (hs.below h) (hm.below h) (r1.below h) (r2.below h) (rv.below h) hl hb)
  generalize vX i p A B zs = X at *
  generalize vZ i p A B zs = Z at *
  clear hs hm r1 r2 rv hl hb
  go_enter Tryd.func34, Tryd.ntmps34
  go_wp2_with first
    | (go_at_call 64; ((with_reducible refine (H64.out _ HB.out).mono ?_); rintro e w1 ⟨v1, rfl, ho1, hb⟩; obtain ⟨a9, c9, rfl⟩ := (own_src ho1).shape; have B1 := Lib.hid (bT HB.out hb); clear ho1 hb))
  go_ret2
  exact ⟨rfl, B1.out⟩
theorem isbk_of {id : Nat} (h1 : 1 ≤ id) (h2 : id ≤ 12) : IsBk id (pl id) (zi (ord id)) (rkL id) := ⟨id, rfl, h1, h2, rfl, rfl, rfl⟩
theorem get_bk {id : Nat} (h1 : 1 ≤ id) (h2 : id ≤ 12) (w : World) (hs : Sh w) : Calls Tryd.prog 15 #[.int .i64 id] w fun e w' => ∃ a1 c1 a2 c2, e = .returned (.tuple #[.agg #[.int .i64 id, .int .i64 (pl id), .slice a1 (zi (ord id)).length c1, .slice a2 (rkL id).length c2], .int .i64 0]) ∧ Rd w' (.slice a1 (zi (ord id)).length c1) (zi (ord id)) ∧ Rd w' (.slice a2 (rkL id).length c2) (rkL id) ∧ Below w.heap.size w w' := by
  have f8 : Nn id ≤ 289 := (facts h1 h2).2.2.2.2.2.2.2.1
  refine (get_ok id w h1 h2 hs).mono ?_
  rintro e w' ⟨v, rfl, ⟨E, R, rfl, _, _, hE, hR⟩, hb⟩
  rw [zo_len' h1 h2, rkL_len]
  exact ⟨_, _, _, _, rfl, rd_row hE (zo_len' h1 h2) (by unfold maxLen; omega) (fun j _ => by
    unfold ordI zi
    simp only [List.getD_eq_getElem?_getD, List.getElem?_map]
    cases (ord id)[j]? <;> rfl), rd_row hR (rkL_len id) (by unfold maxLen; omega) (fun j hj => (rkL_get hj).symm), hb⟩
end Go.Proofs.YteklahfgplbmcaaDoor.Hf

/- The examples that stand ahead of each statement. -/
namespace Go.Proofs.YteklahfgplbmcaaDoor.Hf
open Go Go.ChangeShapes Go.WideShapes Go.ChangeAt Go.RowKit Go.Proofs.YteklahfgplbmcaaDoor.Bk Go.Proofs.YteklahfgplbmcaaDoor.Bi Go.Proofs.YteklahfgplbmcaaDoor.Cr Go.Proofs.YteklahfgplbmcaaDoor.Fx

open Go.Proofs.YteklahfgplbmcaaDoor.BkRf Go.Proofs.YteklahfgplbmcaaDoor.BkPx
theorem one_put : pZ [] (1 : Nat) (pl 1) (zi (ord 1)) (rkL 1) [0, 0, 0, 0] = [1] ∧ vX (1 : Nat) (pl 1) (zi (ord 1)) (rkL 1) [0, 0, 0, 0] = 0 := by
  obtain ⟨e1, e2, _, _⟩ := vX_ok (zs := [0, 0, 0, 0]) (isbk_of (id := 1) (by decide) (by decide)) (by decide)
  refine ⟨?_, e1⟩
  unfold pZ
  rw [if_pos e1, e2]
  decide +kernel
theorem last_put : pZ [] (11 : Nat) (pl 11) (zi (ord 11)) (rkL 11) [0, 0] = [1, 0, 0] ∧ vX (11 : Nat) (pl 11) (zi (ord 11)) (rkL 11) [0, 0] = 0 := by
  obtain ⟨e1, e2, _, _⟩ := vX_ok (zs := [0, 0]) (isbk_of (id := 11) (by decide) (by decide)) (by decide)
  refine ⟨?_, e1⟩
  unfold pZ
  rw [if_pos e1, e2]
  decide +kernel
theorem al_b {w x : World} {o : Obj} (h : Below w.heap.size w x) : Below w.heap.size w (x.alloc o) := h.alloc h.size o
theorem bkeep {x y : World} {a1 : Option Addr} {n1 c1 : Nat} {a2 : Option Addr} {n2 c2 : Nat} {A B : List Int} {P Q : Prop} (h : Hid (P ∧ Q ∧ Rd x (.slice a1 n1 c1) A ∧ Rd x (.slice a2 n2 c2) B)) (hb : Below x.heap.size x y) : Hid (P ∧ Q ∧ Rd y (.slice a1 n1 c1) A ∧ Rd y (.slice a2 n2 c2) B) := Lib.hid ⟨h.out.1, h.out.2.1, h.out.2.2.1.below hb, h.out.2.2.2.below hb⟩
theorem src_nil (w : World) : Src8 w (.slice none 0 0) [] := .inl ⟨rfl, rfl⟩
set_option maxRecDepth 100000 in
set_option maxHeartbeats 8000000 in
theorem alive_ok (w : World) (hs : Sh w) (hm : Hm w) : Calls Tryd.prog 44 #[] w fun e w' => e = .returned (.bool true) ∧ Below w.heap.size w w' := by
  have G1 : Hid (∀ x, Below w.heap.size w x → Calls Tryd.prog 15 #[.int .i64 1] x fun e w' => ∃ a1 n1 c1 a2 n2 c2, e = .returned (.tuple #[.agg #[.int .i64 1, .int .i64 0, .slice a1 n1 c1, .slice a2 n2 c2], .int .i64 0]) ∧ Hid (n1 = (zi (ord 1)).length ∧ n2 = (rkL 1).length ∧ Rd w' (.slice a1 n1 c1) (zi (ord 1)) ∧ Rd w' (.slice a2 n2 c2) (rkL 1)) ∧ Below x.heap.size x w') := Lib.hid fun x h => (get_bk (id := 1) (by decide) (by decide) x (hs.below h)).mono fun e w' ⟨a1, c1, a2, c2, e1, r1, r2, b⟩ => ⟨a1, _, c1, a2, _, c2, e1, Lib.hid ⟨rfl, rfl, r1, r2⟩, b⟩
  have G2 : Hid (∀ x, Below w.heap.size w x → Calls Tryd.prog 15 #[.int .i64 11] x fun e w' => ∃ a1 n1 c1 a2 n2 c2, e = .returned (.tuple #[.agg #[.int .i64 11, .int .i64 2, .slice a1 n1 c1, .slice a2 n2 c2], .int .i64 0]) ∧ Hid (n1 = (zi (ord 11)).length ∧ n2 = (rkL 11).length ∧ Rd w' (.slice a1 n1 c1) (zi (ord 11)) ∧ Rd w' (.slice a2 n2 c2) (rkL 11)) ∧ Below x.heap.size x w') := Lib.hid fun x h => (get_bk (id := 11) (by decide) (by decide) x (hs.below h)).mono fun e w' ⟨a1, c1, a2, c2, e1, r1, r2, b⟩ => ⟨a1, _, c1, a2, _, c2, e1, Lib.hid ⟨rfl, rfl, r1, r2⟩, b⟩
  have P1 : Hid (∀ (x : World) (a1 : Option Addr) (n1 c1 : Nat) (a2 : Option Addr) (n2 c2 : Nat) (v : Value), Below w.heap.size w x → Hid (n1 = (zi (ord 1)).length ∧ n2 = (rkL 1).length ∧ Rd x (.slice a1 n1 c1) (zi (ord 1)) ∧ Rd x (.slice a2 n2 c2) (rkL 1)) → Rd x v [0, 0, 0, 0] → Calls Tryd.prog 30 #[.slice none 0 0, .agg #[.int .i64 1, .int .i64 0, .slice a1 n1 c1, .slice a2 n2 c2], v] x fun e w' => ∃ v', e = .returned (.tuple #[v', .int .i64 0]) ∧ Src8 w' v' [1] ∧ Below x.heap.size x w') := Lib.hid fun x a1 n1 c1 a2 n2 c2 v hb hh hv => by
    obtain ⟨rfl, rfl, r1, r2⟩ := hh.out
    refine (put_any (.slice none 0 0) [] (1 : Nat) (pl 1) a1 a2 c1 c2 (zi (ord 1)) (rkL 1) v [0, 0, 0, 0] x (hs.below hb) (hm.below hb) r1 r2 hv (by decide) (by decide) (src_nil x) (by decide)).mono ?_
    rintro e w' ⟨v', rfl, ho, hb⟩
    rw [one_put.1] at ho
    rw [one_put.2]
    exact ⟨v', rfl, own_src ho, hb⟩
  have P2 : Hid (∀ (x : World) (a1 : Option Addr) (n1 c1 : Nat) (a2 : Option Addr) (n2 c2 : Nat) (v : Value), Below w.heap.size w x → Hid (n1 = (zi (ord 11)).length ∧ n2 = (rkL 11).length ∧ Rd x (.slice a1 n1 c1) (zi (ord 11)) ∧ Rd x (.slice a2 n2 c2) (rkL 11)) → Rd x v [0, 0] → Calls Tryd.prog 30 #[.slice none 0 0, .agg #[.int .i64 11, .int .i64 2, .slice a1 n1 c1, .slice a2 n2 c2], v] x fun e w' => ∃ v', e = .returned (.tuple #[v', .int .i64 0]) ∧ Src8 w' v' [1, 0, 0] ∧ Below x.heap.size x w') := Lib.hid fun x a1 n1 c1 a2 n2 c2 v hb hh hv => by
    obtain ⟨rfl, rfl, r1, r2⟩ := hh.out
    refine (put_any (.slice none 0 0) [] (11 : Nat) (pl 11) a1 a2 c1 c2 (zi (ord 11)) (rkL 11) v [0, 0] x (hs.below hb) (hm.below hb) r1 r2 hv (by decide) (by decide) (src_nil x) (by decide)).mono ?_
    rintro e w' ⟨v', rfl, ho, hb⟩
    rw [last_put.1] at ho
    rw [last_put.2]
    exact ⟨v', rfl, own_src ho, hb⟩
  have HR4 : Hid (∀ w : World, Rd (w.alloc (.cells #[.int .i64 0, .int .i64 0, .int .i64 0, .int .i64 0] 3)) (.slice (some ⟨w.heap.size, 0, none⟩) 4 4) [0, 0, 0, 0]) := Lib.hid fun w => rd_new w [0, 0, 0, 0] (by decide)
  have HR4b : Hid (∀ (w : World) (o : Obj), Rd ((w.alloc o).alloc (.cells #[.int .i64 0, .int .i64 0, .int .i64 0, .int .i64 0] 3)) (.slice (some ⟨w.heap.size + 1, 0, none⟩) 4 4) [0, 0, 0, 0]) := Lib.hid fun w o => by have := HR4.out (w.alloc o); rwa [show (w.alloc o).heap.size = w.heap.size + 1 by simp] at this
  have HR2 : Hid (∀ w : World, Rd (w.alloc (.cells #[.int .i64 0, .int .i64 0] 3)) (.slice (some ⟨w.heap.size, 0, none⟩) 2 2) [0, 0]) := Lib.hid fun w => rd_new w [0, 0] (by decide)
  have e1 : (strOfNums [1]).toList = [1] := by first | rfl | decide +kernel | simp [strOfNums]
  have e2 : (strOfNums [1, 0, 0]).toList = [1, 0, 0] := by first | rfl | decide +kernel | simp [strOfNums]
  clear hs hm
  go_enter Tryd.func44, Tryd.ntmps44
  go_wp2_with first
    | (go_at_call 15; ((with_reducible refine (G1.out _ (Below.refl _ _)).mono ?_); rintro e w1 ⟨a1, n1, c1, a2, n2, c2, rfl, K1, hb⟩; have B1 := Lib.hid hb; clear hb))
    | (go_at_call 15; ((with_reducible refine (G2.out _ (al_b B1.out)).mono ?_); rintro e w2 ⟨a3, n3, c3, a4, n4, c4, rfl, K2, hb⟩; have B2 := Lib.hid (bT (al_b B1.out) hb); have X2 := Lib.hid hb; have D1 := Lib.hid (bT (al w1 (.cells #[.int .i64 1, .int .i64 0, .slice a1 n1 c1, .slice a2 n2 c2] 24)) hb); clear hb; obtain ⟨p0, p1, p2, p3⟩ := bx1 (bT X2.out (al w2 (.cells #[.int .i64 11, .int .i64 2, .slice a3 n3 c3, .slice a4 n4 c4] 24)))))
    | (go_at_call 30; ((with_reducible refine (P1.out _ _ _ _ _ _ _ _ (al_b (al_b B2.out)) (bkeep K1 (bT (bT D1.out (al _ _)) (al _ _))) (HR4b.out _ _)).mono ?_); rintro e w3 ⟨v3, rfl, s3, hb⟩; have S3 := Lib.hid s3; have B3 := Lib.hid (bT (al_b (al_b B2.out)) hb); have D2 := Lib.hid (bT (bT (al w2 (.cells #[.int .i64 11, .int .i64 2, .slice a3 n3 c3, .slice a4 n4 c4] 24)) (al _ _)) hb); clear p0 p1 p2 p3; obtain ⟨p0, p1, p2, p3⟩ := bx1 (w := w2) (bT (al _ _) hb); clear hb s3))
    | (go_at_call 30; ((with_reducible refine (P2.out _ _ _ _ _ _ _ _ (al_b B3.out) (bkeep K2 (bT D2.out (al _ _))) (HR2.out _)).mono ?_); rintro e w4 ⟨v4, rfl, s4, hb⟩; have B4 := Lib.hid (bT (al_b B3.out) hb); have q1 := conv_src (S3.out.below (bT (al _ _) hb)); have q2 := conv_src s4; clear hb s4))
  go_ret
  exact ⟨rfl, B4.out⟩
end Go.Proofs.YteklahfgplbmcaaDoor.Hf

/- Values whose signs are turned. -/
namespace Go.Proofs.YteklahfgplbmcaaDoor.Hf
open Go Go.ChangeShapes Go.WideShapes Go.ChangeAt Go.RowKit Go.Proofs.YteklahfgplbmcaaDoor.Bk Go.Proofs.YteklahfgplbmcaaDoor.Bi Go.Proofs.YteklahfgplbmcaaDoor.Cr Go.Proofs.YteklahfgplbmcaaDoor.Fx

def ng (v : Int) : Int := IntKind.i64.wrap (-v)
theorem ng_is {v : Int} (h0 : -9223372036854775807 ≤ v) (h1 : v ≤ 9223372036854775807) : ng v = -v := by unfold ng; rw [IntKind.wrap_i64]; omega
theorem ng_min : ng (-9223372036854775808) = -9223372036854775808 := by decide
theorem ng_bd (v : Int) : -9223372036854775808 ≤ ng v ∧ ng v ≤ 9223372036854775807 := by unfold ng; rw [IntKind.wrap_i64]; omega
theorem fit_ng {L v : Int} (_ : 0 ≤ L) (_ : L ≤ 8191) (h : -9223372036854775808 ≤ v ∧ v ≤ 9223372036854775807) : (decide (-L ≤ ng v) && decide (ng v ≤ L)) = (decide (-L ≤ v) && decide (v ≤ L)) := by
  by_cases hm : v = -9223372036854775808
  · subst hm
    rw [ng_min]
  · rw [ng_is (by omega) h.2]
    rw [Bool.eq_iff_iff]; simp; omega
theorem fitB_ng {i : Int} {zs : List Int} (h1 : ¬ (i < 1 ∨ 11 < i)) (h : ∀ z ∈ zs, -9223372036854775808 ≤ z ∧ z ≤ 9223372036854775807) : fitB i (zs.map ng) = fitB i zs := by
  obtain ⟨id, rfl⟩ : ∃ id : Nat, i = (id : Int) := ⟨i.toNat, by omega⟩
  obtain ⟨l0, l1, _⟩ := lims (id := id) (by omega) (by omega)
  unfold fitB
  rw [Int.toNat_natCast, List.all_map]
  induction zs with
  | nil => rfl
  | cons v l ih =>
    rw [List.all_cons, List.all_cons, ih (fun z hz => h z (by simp [hz]))]
    congr 1
    exact fit_ng l0 l1 (h v (by simp))
theorem fE_ng (i : Int) (zs : List Int) : fE i (zs.map ng) = fE i zs := by unfold fE; rw [List.length_map]
theorem fR_ng {i : Int} {zs : List Int} (h : ∀ z ∈ zs, -9223372036854775808 ≤ z ∧ z ≤ 9223372036854775807) : fR i (zs.map ng) = fR i zs := by
  unfold fR
  by_cases h1 : i < 1 ∨ 11 < i
  · rw [if_pos h1, if_pos h1]
  · rw [if_neg h1, if_neg h1, List.length_map, fitB_ng h1 h]
theorem eX_ng {i : Int} {zs : List Int} (h : ∀ z ∈ zs, -9223372036854775808 ≤ z ∧ z ≤ 9223372036854775807) : eX i (zs.map ng) = eX i zs := by
  unfold eX
  by_cases h1 : i < 1 ∨ 11 < i
  · rw [if_pos h1, if_pos h1]
  · rw [if_neg h1, if_neg h1, List.length_map, fitB_ng h1 h]
theorem vX_ng {i p : Int} {A B zs : List Int} (h : ∀ z ∈ zs, -9223372036854775808 ≤ z ∧ z ≤ 9223372036854775807) : vX i p A B (zs.map ng) = vX i p A B zs := by
  unfold vX; rw [eX_ng h]
theorem sgn_ng : ∀ {zs : List Int}, (∀ z ∈ zs, -8191 ≤ z ∧ z ≤ 8191) → (sgn (zs.map ng)).length = (sgn zs).length
  | [], _ => rfl
  | v :: l, h => by
    have hv := h v (by simp)
    have e1 : sgn (v :: l) = sg1 v ++ sgn l := by simp [sgn]
    have e2 : sgn ((v :: l).map ng) = sg1 (ng v) ++ sgn (l.map ng) := by simp [sgn]
    rw [e1, e2, List.length_append, List.length_append, sgn_ng (fun z hz => h z (by simp [hz])), ng_is (by omega) (by omega)]
    congr 1
    unfold sg1
    by_cases a : v < 0
    · rw [if_pos a, if_neg (by omega), if_pos (by omega)]; rfl
    · by_cases b : 0 < v
      · rw [if_neg a, if_pos b, if_pos (by omega)]; rfl
      · rw [if_neg a, if_neg b, if_neg (by omega), if_neg (by omega)]
theorem esc_ng : ∀ {zs : List Int}, (∀ z ∈ zs, -8191 ≤ z ∧ z ≤ 8191) → esc (zs.map ng) = esc zs
  | [], _ => rfl
  | v :: l, h => by
    have hv := h v (by simp)
    have e1 : esc (v :: l) = es1 v ++ esc l := by simp [esc]
    have e2 : esc ((v :: l).map ng) = es1 (ng v) ++ esc (l.map ng) := by simp [esc]
    rw [e1, e2, esc_ng (fun z hz => h z (by simp [hz])), ng_is (by omega) (by omega)]
    congr 1
    unfold es1
    rw [Int.natAbs_neg]
theorem vZ_ng {i p : Int} {A B zs : List Int} (hs : sgd i = false) (h : ∀ z ∈ zs, -9223372036854775808 ≤ z ∧ z ≤ 9223372036854775807) : (vZ i p A B (zs.map ng)).length = (vZ i p A B zs).length := by
  unfold vZ
  rw [vX_ng h]
  by_cases h0 : vX i p A B zs = 0
  · rw [if_pos h0, if_pos h0]
    have hk : BkRf.IsBk i p A B := by
      by_cases hk : BkRf.IsBk i p A B
      · exact hk
      · rw [(vX_no (zs := zs) hk).1] at h0; exact absurd h0 (by decide)
    have hx : eX i zs = 0 := by
      unfold vX at h0; rwa [if_pos hk] at h0
    have hx2 : eX i (zs.map ng) = 0 := by rw [eX_ng h]; exact hx
    obtain ⟨id, n, rfl, h1, h2, hzl, hzb, _⟩ := eE_ok hx
    obtain ⟨l0, l1, _⟩ := lims h1 h2
    have h8 : ∀ z ∈ zs, -8191 ≤ z ∧ z ≤ 8191 := fun z hz => by have := hzb z hz; omega
    have ht : tld id (zs.map ng) = tld id zs := by
      unfold tld
      rw [hs]
      simp only [Bool.false_eq_true, if_false]
      rw [List.map_map]
      refine List.map_congr_left fun z hz => ?_
      have := h8 z hz
      show sz1 id (ng z) = sz1 id z
      rw [ng_is (by omega) (by omega)]
      unfold sz1
      rw [Int.natAbs_neg]
    have he : eE id (zs.map ng) = eE id zs := by unfold eE; rw [if_pos hx, if_pos hx2, ht]
    unfold vL
    rw [he, hs, esc_ng h8]
    simp only [Bool.false_eq_true, if_false, List.length_append]
    rw [sgn_ng h8]
  · rw [if_neg h0, if_neg h0]
end Go.Proofs.YteklahfgplbmcaaDoor.Hf

/- One number behind a list. -/
namespace Go.Proofs.YteklahfgplbmcaaDoor.Hf
open Go Go.ChangeShapes Go.WideShapes Go.ChangeAt Go.RowKit Go.Proofs.YteklahfgplbmcaaDoor.Bk Go.Proofs.YteklahfgplbmcaaDoor.Bi Go.Proofs.YteklahfgplbmcaaDoor.Cr Go.Proofs.YteklahfgplbmcaaDoor.Fx

open Go.Proofs.YteklahfgplbmcaaDoor.BkRf Go.Proofs.YteklahfgplbmcaaDoor.BkPx Go.Proofs.YteklahfgplbmcaaDoor.BkEn
theorem info3u : (Tryd.prog.info? 3).map (fun i => (i.zero, i.size, i.bytes)) = some (some (.int .i64 0), 1, 8) := by kernel_rfl
/-- append of one number that has just been made a list of. -/
theorem wpList_push3 (w : World) {ops : Array Oper} {rest : List Oper} {o : Oper} {a : Act} {Q : Exit → Act → World → Prop} (hgd : o.guard = none) (s x : Operand)
    (ho : o.op = .call { callee := .builtin .append, args := #[s, x], argTypes := #[22, 22] }) (base : Nat) (v : Value) (xs : List Int) (z : Int) (hs : a.eval s = v) (hown : Fx.Own base w v xs)
    (hx : a.eval x = .slice (some ⟨w.heap.size, 0, none⟩) 1 1) (hl : xs.length ≤ 100000) (hbase : base ≤ w.heap.size)
    (h : ∀ v' w', Fx.Own base w' v' (xs ++ [z]) → (w.alloc (.cells #[.int .i64 z] 3)).grownBy w' v.ownBlock → wpList Tryd.prog ops Q rest (a.put o.dst v') w') : wpList Tryd.prog ops Q (o :: rest) a (w.alloc (.cells #[.int .i64 z] 3)) := by
  obtain ⟨i0, hi, hz0, hz1, hz2⟩ := info_parts' info3u
  have r := World.rowIs_alloc w #[.int .i64 z] 3 (fun _ => .int .i64 z) (fun i hi => by
    have h1 : i < 1 := hi
    have : i = 0 := by omega
    subst this; rfl)
  refine wpList_append_own _ hgd s x 22 ho base 3 i0 (.int .i64 0) 1 8 Tryd.underlying22 hi hz0 hz1 hz2 rfl (by decide) v xs.length (xs.map (Value.int .i64)) hs (World.ownsRow.alloc hown _) ⟨w.heap.size, 0, none⟩ 1 1 [.int .i64 z] hx rfl (fun j u hu => by
    match j with
    | 0 => simp at hu; subst hu; exact r.cell (i := 0) (Nat.lt_succ_self 0)
    | j + 1 => simp at hu) (by simp [Value.oneCell']) (by unfold maxLen; omega) (by omega) (by simp; omega) fun v' w' h1 h2 _ => h v' w' (Fx.own_push h1) h2
end Go.Proofs.YteklahfgplbmcaaDoor.Hf

/- Turned signs cost the same. -/
namespace Go.Proofs.YteklahfgplbmcaaDoor.Hf
open Go Go.ChangeShapes Go.WideShapes Go.ChangeAt Go.RowKit Go.Proofs.YteklahfgplbmcaaDoor.Bk Go.Proofs.YteklahfgplbmcaaDoor.Bi Go.Proofs.YteklahfgplbmcaaDoor.Cr Go.Proofs.YteklahfgplbmcaaDoor.Fx

open Go.Proofs.YteklahfgplbmcaaDoor.BkRf Go.Proofs.YteklahfgplbmcaaDoor.BkPx Go.Proofs.YteklahfgplbmcaaDoor.BkEn
theorem long14 (a : Int) (A : Option Addr) (len cap : Nat) (w : World) (hs : Sh w) (hm : Hm w) (h : 10 < (len : Int)) :
    Calls Tryd.prog 14 #[.int .u8 a, .slice A len cap] w fun e w' => e = .returned (.bool true) ∧ Below w.heap.size w w' := by
  have HA := Lib.hid (fun w (h : Sh w) (hm : Hm w) => alive_ok w h hm)
  have HS := Lib.hid hs
  have HM := Lib.hid hm
  clear hs hm
  go_enter Tryd.func14, Tryd.ntmps14
  go_wp2_with (go_at_call 44; ((with_reducible refine (HA.out _ HS.out HM.out).mono ?_); rintro e w1 ⟨rfl, hb1⟩))
  go_ret
  exact ⟨rfl, hb1⟩
set_option maxRecDepth 100000 in
set_option maxHeartbeats 8000000 in
theorem good14 (a : Int) (A : Option Addr) (cap : Nat) (zs : List Int) (w : World) (hs : Sh w) (hm : Hm w) (a0 : 0 ≤ a) (a1 : a ≤ 255) (hl : zs.length ≤ 10) (hr : Rd w (.slice A zs.length cap) zs) (hb : ∀ z ∈ zs, -9223372036854775808 ≤ z ∧ z ≤ 9223372036854775807) :
    Calls Tryd.prog 14 #[.int .u8 a, .slice A zs.length cap] w fun e w' => e = .returned (.bool true) ∧ Below w.heap.size w w' := by
  obtain ⟨id, hid⟩ : ∃ id : Nat, a % 11 + 1 = (id : Int) := ⟨(a % 11 + 1).toNat, by omega⟩
  have hidb : 1 ≤ id ∧ id ≤ 11 := by omega
  obtain ⟨h1, h2⟩ := hidb
  have hlm : zs.length ≤ maxLen := by unfold maxLen; omega
  have hbn : ∀ z ∈ zs.map ng, -9223372036854775808 ≤ z ∧ z ≤ 9223372036854775807 := fun z hz => by
    obtain ⟨u, _, rfl⟩ := List.mem_map.1 hz
    exact ng_bd u
  have hnl : (zs.map ng).length ≤ maxLen := by rw [List.length_map]; exact hlm
  have HA := Lib.hid (fun w (h : Sh w) (hm : Hm w) => alive_ok w h hm)
  have HG : Hid (∀ x, Below w.heap.size w x → Calls Tryd.prog 15 #[.int .i64 id] x fun e w' => ∃ a1 n1 c1 a2 n2 c2, e = .returned (.tuple #[.agg #[.int .i64 id, .int .i64 (pl id), .slice a1 n1 c1, .slice a2 n2 c2], .int .i64 0]) ∧ Hid (n1 = (zi (ord id)).length ∧ n2 = (rkL id).length ∧ Rd w' (.slice a1 n1 c1) (zi (ord id)) ∧ Rd w' (.slice a2 n2 c2) (rkL id)) ∧ Below x.heap.size x w') := Lib.hid fun x h => (get_bk (id := id) h1 (by omega) x (hs.below h)).mono fun e w' ⟨a1, c1, a2, c2, e1, r1, r2, b⟩ => ⟨a1, _, c1, a2, _, c2, e1, Lib.hid ⟨rfl, rfl, r1, r2⟩, b⟩
  have HF1 := Lib.hid (fun x (h : Below w.heap.size w x) => fits_any id (.slice A zs.length cap) zs x (hm.below h) hlm (hr.below h))
  have HF2 : Hid (∀ x v, Below w.heap.size w x → Rd x v (zs.map ng) → Calls Tryd.prog 36 #[.int .i64 id, v] x fun e w' => e = .returned (.tuple #[.bool (fR id zs), .int .i64 (fE id zs)]) ∧ Below x.heap.size x w') := Lib.hid fun x v h hv => by
    have := fits_any id v (zs.map ng) x (hm.below h) hnl hv
    rwa [fR_ng hb, fE_ng] at this
  have HC1 : Hid (∀ x (a1 : Option Addr) (n1 c1 : Nat) (a2 : Option Addr) (n2 c2 : Nat), Below w.heap.size w x → Hid (n1 = (zi (ord id)).length ∧ n2 = (rkL id).length ∧ Rd x (.slice a1 n1 c1) (zi (ord id)) ∧ Rd x (.slice a2 n2 c2) (rkL id)) → Calls Tryd.prog 34 #[.agg #[.int .i64 id, .int .i64 (pl id), .slice a1 n1 c1, .slice a2 n2 c2], .slice A zs.length cap] x fun e w' => e = .returned (.tuple #[.int .i64 ((vZ id (pl id) (zi (ord id)) (rkL id) zs).length : Nat), .int .i64 (vX id (pl id) (zi (ord id)) (rkL id) zs)]) ∧ Below x.heap.size x w') := Lib.hid fun x a1 n1 c1 a2 n2 c2 h hh => by
    obtain ⟨rfl, rfl, r1, r2⟩ := hh.out
    exact cost_any id (pl id) a1 a2 c1 c2 (zi (ord id)) (rkL id) _ zs x (hs.below h) (hm.below h) r1 r2 (hr.below h) hlm hb
  have HC2 : Hid (∀ x v (a1 : Option Addr) (n1 c1 : Nat) (a2 : Option Addr) (n2 c2 : Nat), Below w.heap.size w x → Hid (n1 = (zi (ord id)).length ∧ n2 = (rkL id).length ∧ Rd x (.slice a1 n1 c1) (zi (ord id)) ∧ Rd x (.slice a2 n2 c2) (rkL id)) → Rd x v (zs.map ng) → Calls Tryd.prog 34 #[.agg #[.int .i64 id, .int .i64 (pl id), .slice a1 n1 c1, .slice a2 n2 c2], v] x fun e w' => e = .returned (.tuple #[.int .i64 ((vZ id (pl id) (zi (ord id)) (rkL id) (zs.map ng)).length : Nat), .int .i64 (vX id (pl id) (zi (ord id)) (rkL id) zs)]) ∧ Below x.heap.size x w') := Lib.hid fun x v a1 n1 c1 a2 n2 c2 h hh hv => by
    obtain ⟨rfl, rfl, r1, r2⟩ := hh.out
    have := cost_any id (pl id) a1 a2 c1 c2 (zi (ord id)) (rkL id) v (zs.map ng) x (hs.below h) (hm.below h) r1 r2 hv hnl hbn
    rwa [vX_ng hb] at this
  have HZ : sgd id = false → (vZ id (pl id) (zi (ord id)) (rkL id) (zs.map ng)).length = (vZ id (pl id) (zi (ord id)) (rkL id) zs).length := fun h => vZ_ng h hb
  have h3 : ((id : Int) < 3 ∨ (id : Int) = 5 ∨ (id : Int) = 6) ∨ (¬ (id : Int) < 3 ∧ ((id : Int) == 5) = false ∧ ((id : Int) == 6) = false ∧ (vZ id (pl id) (zi (ord id)) (rkL id) (zs.map ng)).length = (vZ id (pl id) (zi (ord id)) (rkL id) zs).length) := by
    by_cases c : (id : Int) < 3 ∨ (id : Int) = 5 ∨ (id : Int) = 6
    · exact .inl c
    · refine .inr ⟨by omega, by simp; omega, by simp; omega, HZ ?_⟩
      have : ¬ (id = 1 ∨ id = 2 ∨ id = 5 ∨ id = 6) := by omega
      unfold sgd; simp; omega
  have HAl := Lib.hid hr
  have HSn : Hid (∀ k, k < zs.length → (zs.take (k + 1)).map ng = (zs.take k).map ng ++ [ng (zs.getD k 0)]) := Lib.hid fun k hk => by
    have e : zs.take (k + 1) = zs.take k ++ [zs.getD k 0] := by rw [List.take_add_one, List.getElem?_eq_getElem hk]; simp [hk]
    rw [e]; simp
  generalize vX id (pl id) (zi (ord id)) (rkL id) zs = X at *
  generalize (vZ id (pl id) (zi (ord id)) (rkL id) zs).length = L1 at *
  generalize (vZ id (pl id) (zi (ord id)) (rkL id) (zs.map ng)).length = L2 at *
  generalize fR id zs = R at *
  generalize fE id zs = F at *
  obtain ⟨A', cap', eA, hA⟩ := hr.open
  cases eA
  have HRA := Lib.hid hA
  have HS := Lib.hid hs
  have HM := Lib.hid hm
  obtain ⟨n, hn⟩ : ∃ n, zs.length = n := ⟨_, rfl⟩
  have HN := Lib.hid hn
  rw [hn] at hl HSn HF1 HC1 ⊢
  clear hs hm hb hbn hnl hlm hA hr HZ hn HAl
  go_enter Tryd.func14, Tryd.ntmps14
  go_wp2_with first
    | (go_at_call 44; ((with_reducible refine (HA.out _ HS.out HM.out).mono ?_); rintro e w1 ⟨rfl, hb⟩; have B1 := Lib.hid hb; clear hb))
    | (go_at_call 15; ((with_reducible refine (HG.out _ B1.out).mono ?_); rintro e w2 ⟨a2, n2, c2, a3, n3, c3, rfl, K2, hb⟩; have B2 := Lib.hid (bT B1.out hb); clear hb))
  have HBX := Lib.hid (fun x h => bx1 (w := w2) (a := .int .i64 (id : Int)) (b := .int .i64 (pl id)) (c := .slice a2 n2 c2) (d := .slice a3 n3 c3) (x := x) h)
  have B3 := Lib.hid (al_b (o := .cells #[.int .i64 (id : Int), .int .i64 (pl id), .slice a2 n2 c2, .slice a3 n3 c3] 24) B2.out)
  have K3 := bkeep K2 (al w2 (.cells #[.int .i64 (id : Int), .int .i64 (pl id), .slice a2 n2 c2, .slice a3 n3 c3] 24))
  generalize w2.alloc (.cells #[.int .i64 (id : Int), .int .i64 (pl id), .slice a2 n2 c2, .slice a3 n3 c3] 24) = W3 at *
  generalize w2.heap.size = S at *
  clear B1 B2 K2
  go_loopw [9, 10] (fun s i wr => ∃ j : Nat, j ≤ n ∧ i = .int .i64 j ∧ Hid (Fx.Own W3.heap.size wr s ((zs.take j).map ng)) ∧ Hid (Below W3.heap.size W3 wr)) (fun _ i _ => n - (intOf i).toNat)
  case atStart => exact ⟨0, by omega, rfl, Lib.hid (by simpa using Fx.own_nil W3 W3.heap.size), Lib.hid (Below.refl _ _)⟩
  case round =>
    obtain ⟨j, hj, rfl, ho, hbel⟩ := hrel
    by_cases hlt : j < n
    · obtain ⟨b, off, rfl, hb, c1'⟩ := HRA.out j (by rw [HN.out]; exact hlt)
      have c1 := ((bT B3.out hbel.out).cell (p := ⟨b, off + j, none⟩) hb).trans c1'
      have hst := Lib.hid (HSn.out j hlt)
      have hsz := Lib.hid (hbel.out.size)
      clear c1'
      obtain ⟨z, hz⟩ : ∃ z, zs.getD j 0 = z := ⟨_, rfl⟩
      rw [hz] at c1 hst
      obtain ⟨ys, hys⟩ : ∃ ys, (zs.take j).map ng = ys := ⟨_, rfl⟩
      have hyl : Hid (ys.length ≤ 100000) := Lib.hid (by rw [← hys, List.length_map, List.length_take]; omega)
      rw [hys] at ho hst
      clear hz hys
      obtain ⟨y, hy⟩ : ∃ y, ng z = y := ⟨_, rfl⟩
      rw [hy] at hst
      have hwy : IntKind.i64.wrap (-z) = y := hy
      clear hy
      go_wp2_with (at_builtin; refine wpList_push3 wr rfl (.tmp 43) (.tmp 49) rfl W3.heap.size _ ys y rfl ho.out rfl hyl.out hsz.out ?_; intro v6 w6 ho6 hg6; have hb6 := Lib.hid (Fx.below_grown (al_b hbel.out) (World.ownsRow.alloc ho.out _) (Nat.le_refl _) hg6); rw [← hst.out] at ho6; have HO6 := Lib.hid ho6; clear ho6 hg6)
      go_roundw
      case rel => exact ⟨j + 1, by omega, by go_num, HO6, hb6⟩
      case measure => simp [intOf]; omega
    · have hend : j = n := by omega
      subst hend
      have ht : zs.take j = zs := List.take_of_length_le (by rw [HN.out]; omega)
      rw [ht] at ho
      have HT := Lib.hid ho.out.rd
      obtain ⟨p0, p1, p2, p3⟩ := HBX.out _ hbel.out
      have C0 := Lib.hid (bT B3.out hbel.out)
      have XB := Lib.hid hbel.out
      clear ht ho
      rcases h3 with h3 | ⟨h3a, h3b, h3c, h3d⟩
      · have h3' : ((id : Int) < 3 ∨ ¬ (id : Int) < 3 ∧ (id : Int) = 5) ∨ ¬ (id : Int) < 3 ∧ ((id : Int) == 5) = false ∧ (id : Int) = 6 := by
          rcases h3 with h | h | h
          · exact .inl (.inl h)
          · exact .inl (.inr ⟨by omega, h⟩)
          · exact .inr ⟨by omega, by simp; omega, h⟩
        clear h3
        generalize (id : Int) = I at *
        rcases h3' with (h | ⟨h, rfl⟩) | ⟨h, h', rfl⟩
        all_goals
          go_wp2_with first
            | (go_at_call 36; ((with_reducible refine (HF1.out _ C0.out).mono ?_); rintro e w5 ⟨rfl, hb⟩; have C1 := Lib.hid (bT C0.out hb); have T1 := Lib.hid (HT.out.below hb); have X1 := Lib.hid (bT XB.out hb); clear p0 p1 p2 p3 hb; obtain ⟨p0, p1, p2, p3⟩ := HBX.out w5 X1.out))
            | (go_at_call 36; ((with_reducible refine (HF2.out _ _ C1.out T1.out).mono ?_); rintro e w6 ⟨rfl, hb⟩; have C2 := Lib.hid (bT C1.out hb); have T2 := Lib.hid (T1.out.below hb); have X2 := Lib.hid (bT X1.out hb); clear p0 p1 p2 p3 hb; obtain ⟨p0, p1, p2, p3⟩ := HBX.out w6 X2.out))
            | (go_at_call 34; ((with_reducible refine (HC1.out _ _ _ _ _ _ _ C2.out (bkeep K3 X2.out)).mono ?_); rintro e w7 ⟨rfl, hb⟩; have C3 := Lib.hid (bT C2.out hb); have T3 := Lib.hid (T2.out.below hb); have X3 := Lib.hid (bT X2.out hb); clear p0 p1 p2 p3 hb; obtain ⟨p0, p1, p2, p3⟩ := HBX.out w7 X3.out))
            | (go_at_call 34; ((with_reducible refine (HC2.out _ _ _ _ _ _ _ _ C3.out (bkeep K3 X3.out) T3.out).mono ?_); rintro e w8 ⟨rfl, hb⟩; have C4 := Lib.hid (bT C3.out hb); clear hb))
          go_ret
          exact ⟨rfl, C4.out⟩
      · subst h3d
        generalize (id : Int) = I at *
        go_wp2_with first
          | (go_at_call 36; ((with_reducible refine (HF1.out _ C0.out).mono ?_); rintro e w5 ⟨rfl, hb⟩; have C1 := Lib.hid (bT C0.out hb); have T1 := Lib.hid (HT.out.below hb); have X1 := Lib.hid (bT XB.out hb); clear p0 p1 p2 p3 hb; obtain ⟨p0, p1, p2, p3⟩ := HBX.out w5 X1.out))
          | (go_at_call 36; ((with_reducible refine (HF2.out _ _ C1.out T1.out).mono ?_); rintro e w6 ⟨rfl, hb⟩; have C2 := Lib.hid (bT C1.out hb); have T2 := Lib.hid (T1.out.below hb); have X2 := Lib.hid (bT X1.out hb); clear p0 p1 p2 p3 hb; obtain ⟨p0, p1, p2, p3⟩ := HBX.out w6 X2.out))
          | (go_at_call 34; ((with_reducible refine (HC1.out _ _ _ _ _ _ _ C2.out (bkeep K3 X2.out)).mono ?_); rintro e w7 ⟨rfl, hb⟩; have C3 := Lib.hid (bT C2.out hb); have T3 := Lib.hid (T2.out.below hb); have X3 := Lib.hid (bT X2.out hb); clear p0 p1 p2 p3 hb; obtain ⟨p0, p1, p2, p3⟩ := HBX.out w7 X3.out))
          | (go_at_call 34; ((with_reducible refine (HC2.out _ _ _ _ _ _ _ _ C3.out (bkeep K3 X3.out) T3.out).mono ?_); rintro e w8 ⟨rfl, hb⟩; have C4 := Lib.hid (bT C3.out hb); clear hb))
        go_ret
        exact ⟨rfl, C4.out⟩
theorem main14 (a : Int) (A : Option Addr) (len cap : Nat) (z : List Int) (w : World) (hs : Sh w) (hm : Hm w) (ha : (Lit.int .u8 a).wf = true) (hz : Go.Proofs.YteklahfgplbmcaaDoor.Cr.IsRow .i64 w A len cap z) :
    Calls Tryd.prog 14 #[.int .u8 a, .slice A len cap] w fun e w' => e = .returned (.bool true) ∧ True ∧ Below w.heap.size w w' := by
  have key : Calls Tryd.prog 14 #[.int .u8 a, .slice A len cap] w fun e w' => e = .returned (.bool true) ∧ Below w.heap.size w w' := by
    by_cases h : 10 < (len : Int)
    · exact long14 a A len cap w hs hm h
    obtain ⟨a0, a1⟩ := wf8 ha
    obtain ⟨xs, hl, hr, _, hb⟩ := isrow_rd hz
    subst hl
    exact good14 a A cap xs w hs hm a0 a1 (by omega) hr hb
  exact key.mono fun _ _ h => ⟨h.1, trivial, h.2⟩
end Go.Proofs.YteklahfgplbmcaaDoor.Hf
