/- Arrays of whole numbers, held against one another. -/
import Derived.Test.YteklahfgplbmcaaDoorEvAop7
import Derived.DeepKeys
namespace Go.Ev
section
variable {P : Program} (E : Env P)

def inK (k : IntKind) (z : Int) : Bool := match z with | .ofNat m => Nat.ble m (maxN k) | .negSucc m => Nat.blt m (minN k)
theorem inK_wf {k : IntKind} {z : Int} (h : inK k z = true) : (Lit.int k z).wf = true := by
  have key : -(minN k : Int) ≤ z ∧ z ≤ maxN k := by
    cases z with
    | ofNat m => have := Nat.le_of_ble_eq_true h; have e : Int.ofNat m = (m : Int) := rfl; omega
    | negSucc m => have : m < minN k := Nat.le_of_ble_eq_true h; have e : Int.negSucc m = -((m : Int) + 1) := rfl; omega
  simp only [Lit.wf, Bool.and_eq_true, decide_eq_true_eq]
  obtain ⟨h1, h2⟩ := key
  cases k <;> simp only [minN, maxN] at h1 h2 <;> simp only [IntKind.min, IntKind.max, IntKind.signed, IntKind.bits] <;> simp <;> omega

/-- The numbers of a list of numbers of a kind. -/
def numsK (k : IntKind) : List RV → Option (List Int)
  | [] => some []
  | .int k' z :: l => (match sameK k' k, inK k z, numsK k l with | true, true, some m => some (z :: m) | _, _, _ => none)
  | _ :: _ => none
theorem numsK_ok {σ : Sig} {k : IntKind} : ∀ {l : List RV} {zs : List Int} {vs : List Value}, numsK k l = some zs → denL σ l = some vs → vs = zs.map (.int k) ∧ ∀ z ∈ zs, (Lit.int k z).wf = true
  | [], zs, vs, h, hd => by cases h; cases hd; exact ⟨rfl, by simp⟩
  | x :: l, zs, vs, h, hd => by
    obtain ⟨v, vs', h1, h2, rfl⟩ := denL_cons hd
    unfold numsK at h
    split at h <;> first | (cases h; done) | skip
    · rename_i heq; cases heq
    · rename_i k' z l' heq
      cases heq
      split at h <;> first | (cases h; done) | skip
      rename_i m hk hi hm
      cases h
      obtain rfl := sameK_ok hk
      cases h1
      obtain ⟨rfl, hw⟩ := numsK_ok hm h2
      refine ⟨rfl, fun z' hz => ?_⟩
      rcases List.mem_cons.1 hz with rfl | hz
      · exact inK_wf hi
      · exact hw z' hz

def eqZ : List Int → List Int → Bool
  | [], [] => true
  | a :: l, b :: m => (match eqI a b with | true => eqZ l m | false => false)
  | _, _ => false
theorem eqZ_ok : ∀ (a b : List Int), eqZ a b = decide (a = b)
  | [], [] => rfl
  | [], _ :: _ => rfl
  | _ :: _, [] => rfl
  | a :: l, b :: m => by
    unfold eqZ
    rw [eqI_eq]
    by_cases h : a = b
    · subst h; simp [eqZ_ok l m]
    · have : (a == b) = false := by simp [h]
      rw [this]
      simp [h]

def arrA (op : BinOp) (t : Nat) (x y : RV) : Option RV :=
  match E.und t, E.info t, x, y with
  | some (.array n e), some it, .agg xs, .agg ys => (match E.und e, E.info e with
    | some (.int k), some i => (match Nat.beq i.size 1, Nat.beq it.size n, numsK k xs, numsK k ys with
      | true, true, some a, some b => (match Nat.beq a.length n, Nat.beq b.length n, op with
        | true, true, .eql => some (.bool (eqZ a b))
        | true, true, .neq => some (.bool (!eqZ a b))
        | _, _, _ => none)
      | _, _, _, _ => none)
    | _, _ => none)
  | _, _, _, _ => none

theorem inj_map {α β : Type} {f : α → β} (hf : ∀ a b, f a = f b → a = b) : ∀ {l m : List α}, l.map f = m.map f → l = m
  | [], [], _ => rfl
  | [], _ :: _, h => by simp at h
  | _ :: _, [], h => by simp at h
  | a :: l, b :: m, h => by
    simp only [List.map_cons, List.cons.injEq] at h
    rw [hf _ _ h.1, inj_map hf h.2]
theorem mapM_some {α β : Type} {f : α → Option β} {g : α → β} : ∀ {l : List α}, (∀ i ∈ l, f i = some (g i)) → l.mapM f = some (l.map g)
  | [], _ => by simp
  | a :: l, h => by
    rw [List.mapM_cons, h a (by simp), mapM_some (l := l) (fun i hi => h i (by simp [hi]))]
    rfl

theorem lits_ok {t e n : Nat} {k : IntKind} (hu : P.underlying t = some (.array n e)) (he : P.underlying e = some (.int k)) (hc : P.cellsOf e = 1) (ht : P.cellsOf t = n) {zs : List Int} (hl : zs.length = n) (hw : ∀ z ∈ zs, (Lit.int k z).wf = true) :
    P.keyLits 2 t (zs.map (Value.int k)) = some (zs.map (Lit.int k)) := by
  have hi : ∀ i ∈ List.range n, P.keyLits 1 e (((zs.map (Value.int k)).drop (i * P.cellsOf e)).take (P.cellsOf e)) = some [Lit.int k (zs.getD i 0)] := by
    intro i hi
    have hlt : i < zs.length := by rw [hl]; exact List.mem_range.1 hi
    rw [hc, Nat.mul_one]
    have : ((zs.map (Value.int k)).drop i).take 1 = [Value.int k zs[i]] := by
      rw [List.drop_eq_getElem_cons (by simpa using hlt)]
      simp
    rw [this]
    have hz : zs.getD i 0 = zs[i] := by rw [List.getD_eq_getElem?_getD, List.getElem?_eq_getElem hlt]; rfl
    simp only [Program.keyLits, he, hz, true_and]
    rw [if_pos (hw _ (List.getElem_mem hlt))]
  unfold Program.keyLits
  simp only [hu, List.length_map]
  rw [if_pos (by rw [ht, hl]), mapM_some hi]
  simp only [Option.map_some, Option.some.injEq]
  apply List.ext_getElem?
  intro j
  rw [show ((List.range n).map fun i => [Lit.int k (zs.getD i 0)]).flatten = (List.range n).map fun i => Lit.int k (zs.getD i 0) by
    rw [← List.flatMap_def]; exact (List.map_eq_flatMap ..).symm]
  rw [List.getElem?_map, List.getElem?_map]
  by_cases hj : j < n
  · rw [List.getElem?_range hj, List.getElem?_eq_getElem (by omega)]
    simp [List.getD_eq_getElem?_getD, List.getElem?_eq_getElem (show j < zs.length by omega)]
  · rw [List.getElem?_eq_none (by simp; omega), List.getElem?_eq_none (by omega)]
    rfl

theorem arrA_ok {σ : Sig} {op : BinOp} {t : Nat} {x y r : RV} (h : arrA E op t x y = some r) {vx vy : Value} (hx : den σ x = some vx) (hy : den σ y = some vy) (ox oy : Operand) (w : World) :
    (eqGuard op t ox oy vx vy).run P w = .ok () w ∧ ∃ u, den σ r = some u ∧ (Go.binOp op t vx vy).run P w = .ok u w := by
  unfold arrA at h
  split at h <;> first | (cases h; done) | skip
  rename_i n e it xs ys hu hit
  split at h <;> first | (cases h; done) | skip
  rename_i k i he hi
  split at h <;> first | (cases h; done) | skip
  rename_i a b hs1 hs2 ha hb
  have hu' := E.und_ok hu
  have he' := E.und_ok he
  have hc : P.cellsOf e = 1 := by simp [Program.cellsOf, E.info_ok e i hi, Nat.eq_of_beq_eq_true hs1]
  have ht : P.cellsOf t = n := by simp [Program.cellsOf, E.info_ok t it hit, Nat.eq_of_beq_eq_true hs2]
  simp only [den] at hx hy
  cases hdx : denL σ xs with
  | none => rw [hdx] at hx; cases hx
  | some ax =>
    cases hdy : denL σ ys with
    | none => rw [hdy] at hy; cases hy
    | some ay =>
      rw [hdx] at hx
      rw [hdy] at hy
      cases hx
      cases hy
      obtain ⟨rfl, wa⟩ := numsK_ok ha hdx
      obtain ⟨rfl, wb⟩ := numsK_ok hb hdy
      have hg : P.eqGuardType P.depth t = false := by
        have : ∃ d, P.depth = d + 2 := ⟨2 * (P.types.size + Made.depth), rfl⟩
        obtain ⟨d, hd⟩ := this
        rw [hd]
        simp only [Program.eqGuardType, hu', he']
      have hgd : (eqGuard op t ox oy (.agg (a.map (Value.int k)).toArray) (.agg (b.map (Value.int k)).toArray)).run P w = .ok () w := run_eqGuard_agg w op t ox oy _ _ hg
      refine ⟨hgd, ?_⟩
      have hkt : P.keyTypeAt 2 t = true := by simp [Program.keyTypeAt, hu', he']
      have fin : a.length = n → b.length = n → (Op.equalIn 10000 t (.agg (a.map (Value.int k)).toArray) (.agg (b.map (Value.int k)).toArray)).run P w = .ok (eqZ a b) w := by
        intro la lb
        obtain ⟨r, hr, hiff⟩ := run_equalIn_deep 9998 2 t hkt w 2 2 (.agg (a.map (Value.int k)).toArray) (.agg (b.map (Value.int k)).toArray) (a.map (Lit.int k)) (b.map (Lit.int k))
          (by simp [Value.formed, hu', ht, la]) (by simp [Value.formed, hu', ht, lb]) (by simpa [Value.cells] using lits_ok hu' he' hc ht la wa) (by simpa [Value.cells] using lits_ok hu' he' hc ht lb wb)
        rw [hr, eqZ_ok]
        have inj : a.map (Lit.int k) = b.map (Lit.int k) ↔ a = b := by
          constructor
          · intro h
            exact inj_map (fun p q hpq => by cases hpq; rfl) h
          · intro h; rw [h]
        rw [inj] at hiff
        by_cases e : a = b
        · rw [hiff.2 e]; simp [e]
        · have : r = false := by cases r with | false => rfl | true => exact absurd (hiff.1 rfl) e
          rw [this]; simp [e]
      split at h <;> first | (cases h; done) | skip
      · rename_i l1 l2
        simp only [Option.some.injEq] at h
        subst h
        refine ⟨_, rfl, ?_⟩
        rw [run_eql_struct, fin (Nat.eq_of_beq_eq_true l1) (Nat.eq_of_beq_eq_true l2)]
        rfl
      · rename_i l1 l2
        simp only [Option.some.injEq] at h
        subst h
        refine ⟨_, rfl, ?_⟩
        rw [run_neq_struct, fin (Nat.eq_of_beq_eq_true l1) (Nat.eq_of_beq_eq_true l2)]
        rfl

/-- Two values by an operator, arrays too. -/
def binB (op : BinOp) (t : Nat) (x y : RV) (cx cy : Bool) : Option RV :=
  match binA E op t x y cx cy with
  | some v => some v
  | none => arrA E op t x y
theorem binB_ok {σ : Sig} {op : BinOp} {t : Nat} {x y r : RV} {cx cy : Bool} (h : binB E op t x y cx cy = some r) {vx vy : Value} (hx : den σ x = some vx) (hy : den σ y = some vy) (ox oy : Operand) (w : World) :
    (eqGuard op t ox oy vx vy).run P w = .ok () w ∧ ∃ u, den σ r = some u ∧ (Go.binOp op t vx vy).run P w = .ok u w := by
  unfold binB at h
  split at h
  · rename_i v hv
    cases h
    exact ⟨eqGuard_ok E hv hx hy ox oy w, binA_ok E hv hx hy w⟩
  · exact arrA_ok E h hx hy ox oy w
end
end Go.Ev
