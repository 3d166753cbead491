/- There and back: how near. -/
import Derived.Test.YteknakakefhbmaaMdGram
import Derived.Test.YteknakakefhbmaaMdSum
namespace Go.Proofs.Yteknakakefhbmaa.Mm
open Go Go.Proofs.Yteknakakefhbmaa.Fx

theorem sg_mulr (c : Int) (f : Nat → Int) (k : Nat) : sg f k * c = sg (fun j => f j * c) k := by
  rw [Int.mul_comm, ← sg_mul]
  exact sg_congr k fun j _ => Int.mul_comm _ _
theorem sg_sub (f g : Nat → Int) (k : Nat) : sg (fun j => f j - g j) k = sg f k - sg g k := by
  have := sg_add (fun j => f j - g j) g k
  rw [sg_congr (f := fun j => f j - g j + g j) (g := f) k (fun j _ => by omega)] at this
  omega
theorem mul_bd {x y M E : Int} (h0 : -M ≤ x) (h1 : x ≤ M) (k0 : -E ≤ y) (k1 : y ≤ E) : -(M * E) ≤ x * y ∧ x * y ≤ M * E := by
  have a : 0 ≤ (M - x) * (E + y) := Int.mul_nonneg (by omega) (by omega)
  have b : 0 ≤ (M + x) * (E - y) := Int.mul_nonneg (by omega) (by omega)
  have c : 0 ≤ (M - x) * (E - y) := Int.mul_nonneg (by omega) (by omega)
  have d : 0 ≤ (M + x) * (E + y) := Int.mul_nonneg (by omega) (by omega)
  constructor <;> grind
/-- The products of two rows of cosines. -/
def gr (m : Nat) (s : Int) (l n : Nat) : Int := sg (fun k => cosF (ar m s l k) * cosF (ar m s n k)) m
theorem gr_near (m : Nat) (s : Int) (l n : Nat) : -((m : Int) * 92446464) ≤ gr m s l n - 33554432 * (dw m s (l + n + 1 + m) + dw m s (l - n)) ∧ gr m s l n - 33554432 * (dw m s (l + n + 1 + m) + dw m s (l - n)) ≤ (m : Int) * 92446464 := by
  have e : gr m s l n - 33554432 * (dw m s (l + n + 1 + m) + dw m s (l - n)) = sg (fun k => cosF (ar m s l k) * cosF (ar m s n k) - 33554432 * (cosF (2 * ((l : Int) + n + 1 + m) * (2 * (k : Int) + 1) * s) + cosF (2 * ((l : Int) - n) * (2 * (k : Int) + 1) * s))) m := by
    rw [sg_sub, sg_mul, sg_add]; rfl
  rw [e]
  refine sg_bd m fun k _ => ?_
  have h := pb_all (ar m s l k) (ar m s n k)
  unfold Pb at h
  rw [show ar m s l k + ar m s n k = 2 * ((l : Int) + n + 1 + m) * (2 * (k : Int) + 1) * s by unfold ar; grind, show ar m s l k - ar m s n k = 2 * ((l : Int) - n) * (2 * (k : Int) + 1) * s by unfold ar; grind] at h
  exact h
theorem dw256_0 : dw 256 1 0 = 17179869184 := by
  have := dw_all (m := 256) (s := 1) (u := 0) (by decide)
  exact this
theorem dw256_1 : dw 256 1 512 = -17179869184 := by
  have := dw_all (m := 256) (s := 1) (u := 1) (by decide)
  exact this
theorem dw256_2 : dw 256 1 1024 = 17179869184 := by
  have := dw_all (m := 256) (s := 1) (u := 2) (by decide)
  exact this
theorem lo256 (z : Nat → Int) (n : Nat) (hn : n < 256) : sg (fun l => z l * (dw 256 1 ((l : Int) + n + 1 + (256 : Nat)) + dw 256 1 ((l : Int) - n))) 512 = 17179869184 * (z n - z (255 - n)) := by
  have e : sg (fun l => z l * (dw 256 1 ((l : Int) + n + 1 + (256 : Nat)) + dw 256 1 ((l : Int) - n))) 512 = sg (fun l => 17179869184 * (if l = n then z l else 0) + -17179869184 * (if l = 255 - n then z l else 0)) 512 := by
    refine sg_congr _ fun l hl => ?_
    have e1 : dw 256 1 ((l : Int) + n + 1 + (256 : Nat)) = if l = 255 - n then -17179869184 else 0 := by
      by_cases h : l = 255 - n
      · rw [if_pos h, show (l : Int) + n + 1 + (256 : Nat) = 512 by omega]; exact dw256_1
      · rw [if_neg h]; exact dw_256 (by omega)
    have e2 : dw 256 1 ((l : Int) - n) = if l = n then 17179869184 else 0 := by
      by_cases h : l = n
      · rw [if_pos h, show (l : Int) - n = 0 by omega]; exact dw256_0
      · rw [if_neg h]; exact dw_256 (by omega)
    rw [e1, e2]
    split <;> split <;> omega
  rw [e, sg_add, sg_mul, sg_mul, sg_one, sg_one, if_pos (by omega), if_pos (by omega)]
  omega
theorem hi256 (z : Nat → Int) (n : Nat) (hn : 256 ≤ n) (hn2 : n < 512) : sg (fun l => z l * (dw 256 1 ((l : Int) + n + 1 + (256 : Nat)) + dw 256 1 ((l : Int) - n))) 512 = 17179869184 * (z n + z (767 - n)) := by
  have e : sg (fun l => z l * (dw 256 1 ((l : Int) + n + 1 + (256 : Nat)) + dw 256 1 ((l : Int) - n))) 512 = sg (fun l => 17179869184 * (if l = n then z l else 0) + 17179869184 * (if l = 767 - n then z l else 0)) 512 := by
    refine sg_congr _ fun l hl => ?_
    have e1 : dw 256 1 ((l : Int) + n + 1 + (256 : Nat)) = if l = 767 - n then 17179869184 else 0 := by
      by_cases h : l = 767 - n
      · rw [if_pos h, show (l : Int) + n + 1 + (256 : Nat) = 1024 by omega]; exact dw256_2
      · rw [if_neg h]; exact dw_256 (by omega)
    have e2 : dw 256 1 ((l : Int) - n) = if l = n then 17179869184 else 0 := by
      by_cases h : l = n
      · rw [if_pos h, show (l : Int) - n = 0 by omega]; exact dw256_0
      · rw [if_neg h]; exact dw_256 (by omega)
    rw [e1, e2]
    split <;> split <;> omega
  rw [e, sg_add, sg_mul, sg_mul, sg_one, sg_one, if_pos (by omega), if_pos (by omega)]
  omega
set_option maxRecDepth 100000 in
theorem zg256 (z : Nat → Int) (hz : ∀ j, j < 512 → -8388608 ≤ z j ∧ z j ≤ 8388608) (n : Nat) (W : Int) (hW : sg (fun l => z l * (dw 256 1 ((l : Int) + n + 1 + (256 : Nat)) + dw 256 1 ((l : Int) - n))) 512 = 17179869184 * W) :
    -101645962114775384064 ≤ sg (fun l => z l * gr 256 1 l n) 512 - 576460752303423488 * W ∧ sg (fun l => z l * gr 256 1 l n) 512 - 576460752303423488 * W ≤ 101645962114775384064 := by
  have e : sg (fun l => z l * gr 256 1 l n) 512 - 33554432 * (17179869184 * W) = sg (fun l => z l * (gr 256 1 l n - 33554432 * (dw 256 1 ((l : Int) + n + 1 + (256 : Nat)) + dw 256 1 ((l : Int) - n)))) 512 := by
    rw [← hW, ← sg_mul, ← sg_sub]
    exact sg_congr _ fun l _ => by grind
  have := sg_bd (f := fun l => z l * (gr 256 1 l n - 33554432 * (dw 256 1 ((l : Int) + n + 1 + (256 : Nat)) + dw 256 1 ((l : Int) - n)))) (E := 198527269755420672) 512 fun l hl => by
    have g := gr_near 256 1 l n
    have q := mul_bd (hz l hl).1 (hz l hl).2 g.1 g.2
    have e : (8388608 : Int) * (((256 : Nat) : Int) * 92446464) = 198527269755420672 := by decide
    rw [e] at q
    generalize gr 256 1 l n = g1 at *
    generalize (dw 256 1 ((l : Int) + n + 1 + (256 : Nat)) + dw 256 1 ((l : Int) - n)) = g2 at *
    exact q
  rw [← e] at this
  have e2 : ((512 : Nat) : Int) * 198527269755420672 = 101645962114775384064 := by decide
  rw [e2] at this
  omega
set_option maxRecDepth 100000 in
set_option maxHeartbeats 2000000 in
theorem near256 (zs : List Int) (hz : ∀ j, j < 512 → -8388608 ≤ zs.getD j 0 ∧ zs.getD j 0 ≤ 8388608) (xs : List Int) (hx : ∀ k, k < 256 → xs.getD k 0 = fw zs 256 1 k) (n : Nat) (W : Int)
    (hW : sg (fun l => zs.getD l 0 * (dw 256 1 ((l : Int) + n + 1 + (256 : Nat)) + dw 256 1 ((l : Int) - n))) 512 = 17179869184 * W) : -305 ≤ bk xs 256 1 26 n - W ∧ bk xs 256 1 26 n - W ≤ 305 := by
  obtain ⟨S, hS⟩ : ∃ S : Nat → Int, ∀ k, S k = sg (fun l => zs.getD l 0 * cosF (ar 256 1 l k)) 512 := ⟨_, fun _ => rfl⟩
  have hf : ∀ k, fw zs 256 1 k = rnd (S k) 33 := fun k => by
    rw [hS]; unfold fw; rw [ds_sg, show ((2 : Int) * 256).toNat = 512 from rfl]; rfl
  have hb : bk xs 256 1 26 n = rnd (sg (fun k => fw zs 256 1 k * cosF (ar 256 1 n k)) 256) 26 := by
    unfold bk
    rw [ds_sg, show (256 : Int).toNat = 256 from rfl, sg_congr (g := fun k => fw zs 256 1 k * cosF (ar 256 1 n k)) 256 (fun k hk => by rw [hx k hk]; rfl)]
  have hG : sg (fun k => S k * cosF (ar 256 1 n k)) 256 = sg (fun l => zs.getD l 0 * gr 256 1 l n) 512 := by
    rw [sg_congr (g := fun k => sg (fun l => zs.getD l 0 * cosF (ar 256 1 l k) * cosF (ar 256 1 n k)) 512) 256 (fun k _ => by rw [hS, sg_mulr]), sg_swap]
    refine sg_congr _ fun l _ => ?_
    unfold gr
    rw [← sg_mul]
    exact sg_congr _ fun k _ => Int.mul_assoc _ _ _
  have hT : 8589934592 * sg (fun k => fw zs 256 1 k * cosF (ar 256 1 n k)) 256 - sg (fun k => S k * cosF (ar 256 1 n k)) 256 = sg (fun k => (8589934592 * fw zs 256 1 k - S k) * cosF (ar 256 1 n k)) 256 := by
    rw [← sg_mul, ← sg_sub]
    exact sg_congr _ fun k _ => by grind
  have hE := sg_bd (f := fun k => (8589934592 * fw zs 256 1 k - S k) * cosF (ar 256 1 n k)) (E := 288230376151711744) 256 fun k _ => by
    have q := rnd_near (n := S k) (b := 33) (by decide)
    rw [← hf] at q
    have e1 : (2 : Int) ^ ((33 : Int).toNat - 1) = 4294967296 := by decide
    have e2 : (2 : Int) ^ (33 : Int).toNat = 8589934592 := by decide
    rw [e1, e2] at q
    have c := cos_bd (ar 256 1 n k)
    have := mul_bd (x := 8589934592 * fw zs 256 1 k - S k) (M := 4294967296) (by omega) (by omega) c.1 c.2
    exact this
  rw [← hT, hG] at hE
  have hZ := zg256 (fun l => zs.getD l 0) hz n W hW
  have q := rnd_near (n := sg (fun k => fw zs 256 1 k * cosF (ar 256 1 n k)) 256) (b := 26) (by decide)
  rw [← hb] at q
  have e1 : (2 : Int) ^ ((26 : Int).toNat - 1) = 33554432 := by decide
  have e2 : (2 : Int) ^ (26 : Int).toNat = 67108864 := by decide
  rw [e1, e2] at q
  have e3 : ((256 : Nat) : Int) * 288230376151711744 = 73786976294838206464 := by decide
  rw [e3] at hE
  clear e1 e2 e3 hT hG hW hb hf hS hx hz
  generalize sg (fun l => zs.getD l 0 * gr 256 1 l n) 512 = U at *
  generalize sg (fun k => fw zs 256 1 k * cosF (ar 256 1 n k)) 256 = T at *
  generalize bk xs 256 1 26 n = y at *
  omega
theorem dw32_0 : dw 32 8 0 = 2147483648 := by
  have := dw_all (m := 32) (s := 8) (u := 0) (by decide)
  exact this
theorem dw32_1 : dw 32 8 64 = -2147483648 := by
  have := dw_all (m := 32) (s := 8) (u := 1) (by decide)
  exact this
theorem dw32_2 : dw 32 8 128 = 2147483648 := by
  have := dw_all (m := 32) (s := 8) (u := 2) (by decide)
  exact this
theorem lo32 (z : Nat → Int) (n : Nat) (hn : n < 32) : sg (fun l => z l * (dw 32 8 ((l : Int) + n + 1 + (32 : Nat)) + dw 32 8 ((l : Int) - n))) 64 = 2147483648 * (z n - z (31 - n)) := by
  have e : sg (fun l => z l * (dw 32 8 ((l : Int) + n + 1 + (32 : Nat)) + dw 32 8 ((l : Int) - n))) 64 = sg (fun l => 2147483648 * (if l = n then z l else 0) + -2147483648 * (if l = 31 - n then z l else 0)) 64 := by
    refine sg_congr _ fun l hl => ?_
    have e1 : dw 32 8 ((l : Int) + n + 1 + (32 : Nat)) = if l = 31 - n then -2147483648 else 0 := by
      by_cases h : l = 31 - n
      · rw [if_pos h, show (l : Int) + n + 1 + (32 : Nat) = 64 by omega]; exact dw32_1
      · rw [if_neg h]; exact dw_32 (by omega)
    have e2 : dw 32 8 ((l : Int) - n) = if l = n then 2147483648 else 0 := by
      by_cases h : l = n
      · rw [if_pos h, show (l : Int) - n = 0 by omega]; exact dw32_0
      · rw [if_neg h]; exact dw_32 (by omega)
    rw [e1, e2]
    split <;> split <;> omega
  rw [e, sg_add, sg_mul, sg_mul, sg_one, sg_one, if_pos (by omega), if_pos (by omega)]
  omega
theorem hi32 (z : Nat → Int) (n : Nat) (hn : 32 ≤ n) (hn2 : n < 64) : sg (fun l => z l * (dw 32 8 ((l : Int) + n + 1 + (32 : Nat)) + dw 32 8 ((l : Int) - n))) 64 = 2147483648 * (z n + z (95 - n)) := by
  have e : sg (fun l => z l * (dw 32 8 ((l : Int) + n + 1 + (32 : Nat)) + dw 32 8 ((l : Int) - n))) 64 = sg (fun l => 2147483648 * (if l = n then z l else 0) + 2147483648 * (if l = 95 - n then z l else 0)) 64 := by
    refine sg_congr _ fun l hl => ?_
    have e1 : dw 32 8 ((l : Int) + n + 1 + (32 : Nat)) = if l = 95 - n then 2147483648 else 0 := by
      by_cases h : l = 95 - n
      · rw [if_pos h, show (l : Int) + n + 1 + (32 : Nat) = 128 by omega]; exact dw32_2
      · rw [if_neg h]; exact dw_32 (by omega)
    have e2 : dw 32 8 ((l : Int) - n) = if l = n then 2147483648 else 0 := by
      by_cases h : l = n
      · rw [if_pos h, show (l : Int) - n = 0 by omega]; exact dw32_0
      · rw [if_neg h]; exact dw_32 (by omega)
    rw [e1, e2]
    split <;> split <;> omega
  rw [e, sg_add, sg_mul, sg_mul, sg_one, sg_one, if_pos (by omega), if_pos (by omega)]
  omega
set_option maxRecDepth 100000 in
theorem zg32 (z : Nat → Int) (hz : ∀ j, j < 64 → -8388608 ≤ z j ∧ z j ≤ 8388608) (n : Nat) (W : Int) (hW : sg (fun l => z l * (dw 32 8 ((l : Int) + n + 1 + (32 : Nat)) + dw 32 8 ((l : Int) - n))) 64 = 2147483648 * W) :
    -1588218158043365376 ≤ sg (fun l => z l * gr 32 8 l n) 64 - 72057594037927936 * W ∧ sg (fun l => z l * gr 32 8 l n) 64 - 72057594037927936 * W ≤ 1588218158043365376 := by
  have e : sg (fun l => z l * gr 32 8 l n) 64 - 33554432 * (2147483648 * W) = sg (fun l => z l * (gr 32 8 l n - 33554432 * (dw 32 8 ((l : Int) + n + 1 + (32 : Nat)) + dw 32 8 ((l : Int) - n)))) 64 := by
    rw [← hW, ← sg_mul, ← sg_sub]
    exact sg_congr _ fun l _ => by grind
  have := sg_bd (f := fun l => z l * (gr 32 8 l n - 33554432 * (dw 32 8 ((l : Int) + n + 1 + (32 : Nat)) + dw 32 8 ((l : Int) - n)))) (E := 24815908719427584) 64 fun l hl => by
    have g := gr_near 32 8 l n
    have q := mul_bd (hz l hl).1 (hz l hl).2 g.1 g.2
    have e : (8388608 : Int) * (((32 : Nat) : Int) * 92446464) = 24815908719427584 := by decide
    rw [e] at q
    generalize gr 32 8 l n = g1 at *
    generalize (dw 32 8 ((l : Int) + n + 1 + (32 : Nat)) + dw 32 8 ((l : Int) - n)) = g2 at *
    exact q
  rw [← e] at this
  have e2 : ((64 : Nat) : Int) * 24815908719427584 = 1588218158043365376 := by decide
  rw [e2] at this
  omega
set_option maxRecDepth 100000 in
set_option maxHeartbeats 2000000 in
theorem near32 (zs : List Int) (hz : ∀ j, j < 64 → -8388608 ≤ zs.getD j 0 ∧ zs.getD j 0 ≤ 8388608) (xs : List Int) (hx : ∀ k, k < 32 → xs.getD k 0 = fw zs 32 8 k) (n : Nat) (W : Int)
    (hW : sg (fun l => zs.getD l 0 * (dw 32 8 ((l : Int) + n + 1 + (32 : Nat)) + dw 32 8 ((l : Int) - n))) 64 = 2147483648 * W) : -305 ≤ bk xs 32 8 23 n - W ∧ bk xs 32 8 23 n - W ≤ 305 := by
  obtain ⟨S, hS⟩ : ∃ S : Nat → Int, ∀ k, S k = sg (fun l => zs.getD l 0 * cosF (ar 32 8 l k)) 64 := ⟨_, fun _ => rfl⟩
  have hf : ∀ k, fw zs 32 8 k = rnd (S k) 33 := fun k => by
    rw [hS]; unfold fw; rw [ds_sg, show ((2 : Int) * 32).toNat = 64 from rfl]; rfl
  have hb : bk xs 32 8 23 n = rnd (sg (fun k => fw zs 32 8 k * cosF (ar 32 8 n k)) 32) 23 := by
    unfold bk
    rw [ds_sg, show (32 : Int).toNat = 32 from rfl, sg_congr (g := fun k => fw zs 32 8 k * cosF (ar 32 8 n k)) 32 (fun k hk => by rw [hx k hk]; rfl)]
  have hG : sg (fun k => S k * cosF (ar 32 8 n k)) 32 = sg (fun l => zs.getD l 0 * gr 32 8 l n) 64 := by
    rw [sg_congr (g := fun k => sg (fun l => zs.getD l 0 * cosF (ar 32 8 l k) * cosF (ar 32 8 n k)) 64) 32 (fun k _ => by rw [hS, sg_mulr]), sg_swap]
    refine sg_congr _ fun l _ => ?_
    unfold gr
    rw [← sg_mul]
    exact sg_congr _ fun k _ => Int.mul_assoc _ _ _
  have hT : 8589934592 * sg (fun k => fw zs 32 8 k * cosF (ar 32 8 n k)) 32 - sg (fun k => S k * cosF (ar 32 8 n k)) 32 = sg (fun k => (8589934592 * fw zs 32 8 k - S k) * cosF (ar 32 8 n k)) 32 := by
    rw [← sg_mul, ← sg_sub]
    exact sg_congr _ fun k _ => by grind
  have hE := sg_bd (f := fun k => (8589934592 * fw zs 32 8 k - S k) * cosF (ar 32 8 n k)) (E := 288230376151711744) 32 fun k _ => by
    have q := rnd_near (n := S k) (b := 33) (by decide)
    rw [← hf] at q
    have e1 : (2 : Int) ^ ((33 : Int).toNat - 1) = 4294967296 := by decide
    have e2 : (2 : Int) ^ (33 : Int).toNat = 8589934592 := by decide
    rw [e1, e2] at q
    have c := cos_bd (ar 32 8 n k)
    have := mul_bd (x := 8589934592 * fw zs 32 8 k - S k) (M := 4294967296) (by omega) (by omega) c.1 c.2
    exact this
  rw [← hT, hG] at hE
  have hZ := zg32 (fun l => zs.getD l 0) hz n W hW
  have q := rnd_near (n := sg (fun k => fw zs 32 8 k * cosF (ar 32 8 n k)) 32) (b := 23) (by decide)
  rw [← hb] at q
  have e1 : (2 : Int) ^ ((23 : Int).toNat - 1) = 4194304 := by decide
  have e2 : (2 : Int) ^ (23 : Int).toNat = 8388608 := by decide
  rw [e1, e2] at q
  have e3 : ((32 : Nat) : Int) * 288230376151711744 = 9223372036854775808 := by decide
  rw [e3] at hE
  clear e1 e2 e3 hT hG hW hb hf hS hx hz
  generalize sg (fun l => zs.getD l 0 * gr 32 8 l n) 64 = U at *
  generalize sg (fun k => fw zs 32 8 k * cosF (ar 32 8 n k)) 32 = T at *
  generalize bk xs 32 8 23 n = y at *
  omega
end Go.Proofs.Yteknakakefhbmaa.Mm
