/- Operations one by one. -/
import Derived.Test.YteklahfgplbmcaaDoorEvInt
import GoSem.Dispatch
import Derived.Laws.BytesString
namespace Go.Ev

/-- What an operation comes to. -/
inductive ANext where
  | val (v : RV) (h : Tr AObj) (nx : Nat)
  | skip (h : Tr AObj) (nx : Nat)
  | enter (f : Nat) (args : List RV)
  | yield (l : Nat) (args : List RV)
  | defer (f : Nat) (args captured : List RV)

section
variable {P : Program} (E : Env P)

/-- That the model does so. -/
def AOk (ρ : Operand → Value) (o : Oper) (σ : Sig) (h : Tr AObj) (w : World) : ANext → Prop
  | .val v h' _ => ∃ σ' w' u, (execOp ρ o).run P w = .ok (.value u) w' ∧ den σ' v = some u ∧ Way σ h w σ' h' w'
  | .skip h' _ => ∃ σ' w', (execOp ρ o).run P w = .ok .skip w' ∧ Way σ h w σ' h' w'
  | .enter f args => ∃ vs, (execOp ρ o).run P w = .ok (.enter f vs.toArray) w ∧ denL σ args = some vs
  | .yield l args => ∃ vs p, denL σ args = some vs ∧ σ l = some p ∧ (execOp ρ o).run P w = (Instr.yield p.1 vs.toArray).run P w
  | .defer f args cap => ∃ vs cs, denL σ args = some vs ∧ denL σ cap = some cs ∧ (execOp ρ o).run P w = .ok (.defer { target := .fn (.func f) cs.toArray, args := vs.toArray }) w

def pureOf {α : Type} : Sem α → Option α
  | .pure a => some a
  | _ => none
theorem pureOf_ok {α : Type} {s : Sem α} {a : α} (h : pureOf s = some a) : s = .pure a := by
  cases s <;> simp_all [pureOf]

def scal : Value → Option RV
  | .int k n => some (.int k n)
  | .bool b => some (.bool b)
  | _ => none
theorem scal_ok {σ : Sig} {v : Value} {x : RV} (h : scal v = some x) : den σ x = some v := by
  cases v <;> simp only [scal] at h <;> cases h <;> rfl

/-- Equal lists of letters. -/
def eqL : List UInt8 → List UInt8 → Bool
  | [], [] => true
  | x :: l, y :: m => match Nat.beq x.toNat y.toNat with | true => eqL l m | false => false
  | _, _ => false
theorem eqL_ok : ∀ (a b : List UInt8), eqL a b = (a == b)
  | [], [] => rfl
  | [], _ :: _ => rfl
  | _ :: _, [] => rfl
  | x :: l, y :: m => by
    simp only [eqL]
    cases hb : Nat.beq x.toNat y.toNat with
    | true =>
      have : x = y := UInt8.toNat_inj.1 (Nat.eq_of_beq_eq_true hb)
      subst this
      simp [eqL_ok l m]
    | false =>
      have : x ≠ y := fun e => by subst e; simp at hb
      simp [this]

def isConst : Operand → Bool
  | .const _ => true
  | _ => false

/-- Two values by an operator. -/
def binA (op : BinOp) (t : Nat) (x y : RV) (cx cy : Bool) : Option RV :=
  match x, y with
  | .int k a, .int k' b => intA op k a k' b
  | .str a, .str b => (match op with
    | .eql => some (.bool (eqL a b))
    | .neq => some (.bool (!eqL a b))
    | .add => (match Nat.blt (a.length + b.length) (2 ^ 62) with | true => some (.str (a ++ b)) | false => none)
    | .lss => some (.bool (Op.bytesLess a b))
    | .gtr => some (.bool (Op.bytesLess b a))
    | .leq => some (.bool (!Op.bytesLess b a))
    | .geq => some (.bool (!Op.bytesLess a b))
    | _ => none)
  | .bool a, .bool b => (match E.und t with
    | some .bool => (match op with | .eql => some (.bool (a == b)) | .neq => some (.bool (!(a == b))) | _ => none)
    | _ => none)
  | x, y => (match op with
    | .eql => nilEq x y t cx cy
    | .neq => (match nilEq x y t cx cy with | some b => (match b with | .bool b => some (.bool (!b)) | _ => none) | none => none)
    | _ => none)
where
  nilEq (x y : RV) (t : Nat) (_cx _cy : Bool) : Option RV :=
    match E.und t, x, y with
    | some (.pointer _), .ptr0, .ptr0 => some (.bool true)
    | some (.pointer _), .ptr0, .ptr _ _ => some (.bool false)
    | some (.pointer _), .ptr _ _, .ptr0 => some (.bool false)
    | some (.slice _), .slice0, .slice0 => some (.bool true)
    | some (.slice _), .slice0, .slice _ _ _ _ => some (.bool false)
    | some (.slice _), .slice _ _ _ _, .slice0 => some (.bool false)
    | some (.func _ _ _), .nilFunc, .nilFunc => some (.bool true)
    | some (.func _ _ _), .nilFunc, .fn _ _ _ => some (.bool false)
    | some (.func _ _ _), .fn _ _ _, .nilFunc => some (.bool false)
    | some (.func _ _ _), .nilFunc, .yield _ => some (.bool false)
    | some (.func _ _ _), .yield _, .nilFunc => some (.bool false)
    | some (.interface _), .nilIface, .iface _ _ => some (.bool false)
    | some (.interface _), .iface _ _, .nilIface => some (.bool false)
    | _, _, _ => none

theorem bytesLess_total : ∀ (a b : List UInt8), Op.bytesLess b a = !(Op.bytesLess a b || a == b)
  | [], [] => rfl
  | [], _ :: _ => by simp [Op.bytesLess]
  | _ :: _, [] => by simp [Op.bytesLess]
  | x :: l, y :: m => by
    simp only [Op.bytesLess, bytesLess_total l m]
    rcases Nat.lt_trichotomy x.toNat y.toNat with h | h | h
    · have h1 : x < y := UInt8.lt_iff_toNat_lt.2 h
      have h2 : ¬ y < x := fun h' => by have := UInt8.lt_iff_toNat_lt.1 h'; omega
      have h3 : x ≠ y := fun e => by subst e; omega
      have h4 : y ≠ x := fun e => h3 e.symm
      simp [h1, h2, h4]
    · have h3 : x = y := UInt8.toNat_inj.1 h
      subst h3
      have h2 : ¬ x < x := fun h' => by have := UInt8.lt_iff_toNat_lt.1 h'; omega
      simp [h2]
    · have h1 : y < x := UInt8.lt_iff_toNat_lt.2 h
      have h2 : ¬ x < y := fun h' => by have := UInt8.lt_iff_toNat_lt.1 h'; omega
      have h3 : x ≠ y := fun e => by subst e; omega
      simp [h1, h2, h3]

theorem nilEq_in {σ : Sig} {x y : RV} {t : Nat} {cx cy : Bool} {r : RV} (h : binA.nilEq E x y t cx cy = some r) {vx vy : Value} (hx : den σ x = some vx) (hy : den σ y = some vy) (w : World) (d : Nat) :
    ∃ b, r = .bool b ∧ (Op.equalIn (d + 1) t vx vy).run P w = .ok b w := by
  unfold binA.nilEq at h
  split at h <;> first | (cases h; done) | skip
  all_goals
    rename_i hu
    simp only [Option.some.injEq] at h
    refine ⟨_, h.symm, ?_⟩
    simp only [den] at hx hy
    simp only [Op.equalIn, Sem.run_bind, E.run_und hu, Result.andThen_ok]
    first
      | (cases hx; cases hy; rfl)
      | (cases hx; split at hy <;> first | (cases hy; done) | (cases hy; rfl) | (split at hy <;> first | (cases hy; done) | (cases hy; rfl)))
      | (cases hy; split at hx <;> first | (cases hx; done) | (cases hx; rfl) | (split at hx <;> first | (cases hx; done) | (cases hx; rfl)))

theorem nilEq_ok {σ : Sig} {x y : RV} {t : Nat} {cx cy : Bool} {r : RV} (h : binA.nilEq E x y t cx cy = some r) {vx vy : Value} (hx : den σ x = some vx) (hy : den σ y = some vy) (w : World) :
    ∃ b, r = .bool b ∧ (Op.equal t vx vy).run P w = .ok b w := nilEq_in E h hx hy w 9999

theorem eqGuard_ok {σ : Sig} {op : BinOp} {x y : RV} {t : Nat} {cx cy : Bool} {r : RV} (h : binA E op t x y cx cy = some r) {vx vy : Value} (hx : den σ x = some vx) (hy : den σ y = some vy) (ox oy : Operand) (w : World) :
    (eqGuard op t ox oy vx vy).run P w = .ok () w := by
  have key : (op = .eql ∨ op = .neq) → ((vx = .nilIface ∧ vy = .nilIface) ∨ (∃ a b, vx = .agg a ∧ vy = .agg b)) → False := by
    intro ho hv
    have hn : binA.nilEq E x y t cx cy = none ∧ (∀ k a, x ≠ .int k a) ∧ (∀ s, x ≠ .str s) ∧ (∀ b, x ≠ .bool b) := by
      rcases hv with ⟨rfl, rfl⟩ | ⟨a, b, rfl, rfl⟩
      · have ex : x = .nilIface := by
          cases x <;> simp only [den] at hx <;> first | rfl | (cases hx; done) | (split at hx <;> first | (cases hx; done) | (split at hx <;> cases hx))
        have ey : y = .nilIface := by
          cases y <;> simp only [den] at hy <;> first | rfl | (cases hy; done) | (split at hy <;> first | (cases hy; done) | (split at hy <;> cases hy))
        subst ex; subst ey
        refine ⟨?_, by simp, by simp, by simp⟩
        unfold binA.nilEq
        split <;> first | rfl | simp_all
      · have ex : ∃ l, x = .agg l := by
          cases x <;> simp only [den] at hx <;> first | exact ⟨_, rfl⟩ | (cases hx; done) | (split at hx <;> first | (cases hx; done) | (split at hx <;> cases hx))
        obtain ⟨l, rfl⟩ := ex
        refine ⟨?_, by simp, by simp, by simp⟩
        unfold binA.nilEq
        split <;> first | rfl | simp_all
    obtain ⟨n0, n1, n2, n3⟩ := hn
    rcases ho with rfl | rfl
    · unfold binA at h
      split at h
      · exact n1 _ _ rfl
      · exact n2 _ rfl
      · exact n3 _ rfl
      · simp only [n0] at h; cases h
    · unfold binA at h
      split at h
      · exact n1 _ _ rfl
      · exact n2 _ rfl
      · exact n3 _ rfl
      · simp only [n0] at h; cases h
  cases op <;> first | (simp [eqGuard]; done) | skip
  all_goals
    have k := key (by simp)
    unfold eqGuard
    cases vx <;> cases vy <;> first | rfl | (exact (k (.inl ⟨rfl, rfl⟩)).elim) | (exact (k (.inr ⟨_, _, rfl, rfl⟩)).elim)

theorem binA_ok {σ : Sig} {op : BinOp} {x y : RV} {t : Nat} {cx cy : Bool} {r : RV} (h : binA E op t x y cx cy = some r) {vx vy : Value} (hx : den σ x = some vx) (hy : den σ y = some vy) (w : World) :
    ∃ u, den σ r = some u ∧ (Go.binOp op t vx vy).run P w = .ok u w := by
  unfold binA at h
  split at h
  · -- ints
    rename_i k a k' b
    cases hx; cases hy
    obtain ⟨u, h1, h2⟩ := intA_ok h σ t
    exact ⟨u, h1, by rw [h2]; rfl⟩
  · -- strings
    rename_i a b
    cases hx; cases hy
    have ta : (ByteArray.mk a.toArray).toList = a := by rw [ByteArray.toList_eq]
    have tb : (ByteArray.mk b.toArray).toList = b := by rw [ByteArray.toList_eq]
    have sa : (ByteArray.mk a.toArray).size = a.length := rfl
    have sb : (ByteArray.mk b.toArray).size = b.length := rfl
    have str : ∀ op, Go.binOp op t (.string ⟨a.toArray⟩) (.string ⟨b.toArray⟩) = Op.stringOp op ⟨a.toArray⟩ ⟨b.toArray⟩ := fun op => by cases op <;> rfl
    rw [str]
    simp only [Op.stringOp, ta, tb, sa, sb]
    have e1 := eqL_ok a b
    have l1 := bytesLess_total a b
    have l2 := bytesLess_total b a
    cases op <;> simp only [] at h
    case add =>
      cases hb : Nat.blt (a.length + b.length) (2 ^ 62) with
      | false => rw [hb] at h; cases h
      | true =>
        rw [hb] at h
        simp only [Option.some.injEq] at h
        subst h
        have : a.length + b.length < 2 ^ 62 := Nat.le_of_ble_eq_true hb
        refine ⟨_, rfl, ?_⟩
        rw [if_neg (by simp [IntKind.max, IntKind.signed, IntKind.bits]; omega)]
        simp only [Sem.run_pure, Result.ok.injEq, Value.string.injEq, and_true]
        apply ByteArray.ext
        simp [ByteArray.data_append]
    all_goals first | (cases h; done) | skip
    all_goals
      simp only [Option.some.injEq] at h
      subst h
      refine ⟨_, rfl, ?_⟩
      simp [e1, l1]
  · rename_i a b
    cases hx; cases hy
    cases hu : E.und t with
    | none => rw [hu] at h; cases h
    | some d =>
      rw [hu] at h
      cases d <;> simp only [] at h <;> first | (cases h; done) | skip
      have hq : ∀ d, (Op.equalIn (d + 1) t (.bool a) (.bool b)).run P w = .ok (a == b) w := fun d => by
        simp only [Op.equalIn, Sem.run_bind, E.run_und hu, Result.andThen_ok]; rfl
      have hq' : (Op.equal t (.bool a) (.bool b)).run P w = .ok (a == b) w := hq 9999
      cases op <;> simp only [] at h <;> first | (cases h; done) | skip
      all_goals
        simp only [Option.some.injEq] at h
        subst h
        refine ⟨_, rfl, ?_⟩
        simp [Go.binOp, hq']
  · rename_i h1 h2 h3
    have nn : ∀ r', binA.nilEq E x y t cx cy = some r' → Go.binOp .eql t vx vy = (do pure (.bool (← Op.equal t vx vy))) ∧ Go.binOp .neq t vx vy = (do pure (.bool (!(← Op.equal t vx vy)))) := by
      intro r' hr
      unfold binA.nilEq at hr
      split at hr <;> first | (cases hr; done) | skip
      all_goals
        simp only [den] at hx hy
        first
          | (cases hx; cases hy; exact ⟨rfl, rfl⟩)
          | (cases hx; split at hy <;> first | (cases hy; done) | (cases hy; exact ⟨rfl, rfl⟩) | (split at hy <;> first | (cases hy; done) | (cases hy; exact ⟨rfl, rfl⟩)))
          | (cases hy; split at hx <;> first | (cases hx; done) | (cases hx; exact ⟨rfl, rfl⟩) | (split at hx <;> first | (cases hx; done) | (cases hx; exact ⟨rfl, rfl⟩)))
    cases op <;> simp only [] at h <;> first | (cases h; done) | skip
    · obtain ⟨b, rfl, hb⟩ := nilEq_ok E h hx hy w
      refine ⟨_, rfl, ?_⟩
      rw [(nn _ h).1]
      simp [hb]
    · cases hn : binA.nilEq E x y t cx cy with
      | none => rw [hn] at h; cases h
      | some r' =>
        obtain ⟨b, rfl, hb⟩ := nilEq_ok E hn hx hy w
        rw [hn] at h
        simp only [Option.some.injEq] at h
        subst h
        refine ⟨_, rfl, ?_⟩
        rw [(nn _ hn).2]
        simp [hb]

end
end Go.Ev
