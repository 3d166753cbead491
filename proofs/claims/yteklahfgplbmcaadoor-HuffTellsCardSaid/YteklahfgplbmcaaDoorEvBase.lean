/- A machine that runs a program on values whose memory is named by numbers of its own: values, memory, and how they stand to the model's. -/
import Derived.Calls
import Derived.Below
import Derived.Lib.Strings
namespace Go.Ev

/-- Things kept by number. -/
inductive Tr (α : Type) where
  | nil
  | node (l : Tr α) (a : Option α) (r : Tr α)

noncomputable def Tr.get {α : Type} (t : Tr α) (n : Nat) : Option α :=
  Tr.rec (motive := fun _ => Nat → Option α) (fun _ => none)
    (fun _ a _ gl gr n => Nat.rec (motive := fun _ => Option α) a (fun m _ => Nat.rec (motive := fun _ => Option α) (gl (Nat.div m 2)) (fun _ _ => gr (Nat.div m 2)) (Nat.mod m 2)) n) t n

theorem Tr.get_nil {α : Type} (n : Nat) : Tr.get (.nil : Tr α) n = none := rfl
theorem Tr.get_zero {α : Type} (l : Tr α) (a : Option α) (r : Tr α) : Tr.get (.node l a r) 0 = a := rfl
theorem Tr.get_succ {α : Type} (l : Tr α) (a : Option α) (r : Tr α) (m : Nat) : Tr.get (.node l a r) (m + 1) = match m % 2 with
    | 0 => l.get (m / 2)
    | _ + 1 => r.get (m / 2) := by
  show Nat.rec (motive := fun _ => Option α) (l.get (m / 2)) (fun _ _ => r.get (m / 2)) (m % 2) = _
  cases m % 2 <;> rfl

/-- The same, for a run outside the kernel. -/
def Tr.getC {α : Type} : Tr α → Nat → Option α
  | .nil, _ => none
  | .node _ a _, 0 => a
  | .node l _ r, m + 1 => match m % 2 with
    | 0 => l.getC (m / 2)
    | _ + 1 => r.getC (m / 2)
theorem Tr.get_getC {α : Type} : ∀ (t : Tr α) (n : Nat), t.get n = t.getC n
  | .nil, _ => rfl
  | .node l a r, 0 => rfl
  | .node l a r, m + 1 => by rw [Tr.get_succ, Tr.getC, Tr.get_getC l, Tr.get_getC r]
@[csimp] theorem Tr.get_eq : @Tr.get = @Tr.getC := by
  funext α t n
  exact Tr.get_getC t n

/-- A thing that is reckoned ahead of what is done with it. -/
noncomputable def Tr.force {α β : Type} (t : Tr α) (k : Tr α → β) : β := Tr.rec (motive := fun _ => β) (k .nil) (fun l a r _ _ => k (.node l a r)) t
def Tr.forceC {α β : Type} (t : Tr α) (k : Tr α → β) : β := k t
theorem Tr.force_eq {α β : Type} (t : Tr α) (k : Tr α → β) : t.force k = k t := by cases t <;> rfl
@[csimp] theorem Tr.force_forceC : @Tr.force = @Tr.forceC := by
  funext α β t k
  exact Tr.force_eq t k

noncomputable def Tr.setR {α : Type} (x : α) (d : Nat) : Tr α → Nat → Tr α :=
  Nat.rec (motive := fun _ => Tr α → Nat → Tr α) (fun t _ => t)
    (fun _ ih t n => Tr.rec (motive := fun _ => Tr α)
      (Nat.rec (motive := fun _ => Tr α) (.node .nil (some x) .nil) (fun m _ => Nat.rec (motive := fun _ => Tr α) (Tr.force (ih .nil (Nat.div m 2)) fun l => .node l none .nil) (fun _ _ => Tr.force (ih .nil (Nat.div m 2)) fun r => .node .nil none r) (Nat.mod m 2)) n)
      (fun l a r _ _ => Nat.rec (motive := fun _ => Tr α) (.node l (some x) r) (fun m _ => Nat.rec (motive := fun _ => Tr α) (Tr.force (ih l (Nat.div m 2)) fun l => .node l a r) (fun _ _ => Tr.force (ih r (Nat.div m 2)) fun r => .node l a r) (Nat.mod m 2)) n)
      t) d
def Tr.setC {α : Type} (x : α) : Nat → Tr α → Nat → Tr α
  | 0, t, _ => t
  | _ + 1, .nil, 0 => .node .nil (some x) .nil
  | d + 1, .nil, m + 1 => (match m % 2 with | 0 => .node (setC x d .nil (m / 2)) none .nil | _ + 1 => .node .nil none (setC x d .nil (m / 2)))
  | _ + 1, .node l _ r, 0 => .node l (some x) r
  | d + 1, .node l a r, m + 1 => (match m % 2 with | 0 => .node (setC x d l (m / 2)) a r | _ + 1 => .node l a (setC x d r (m / 2)))
theorem Tr.setR_setC {α : Type} (x : α) : ∀ (d : Nat) (t : Tr α) (n : Nat), Tr.setR x d t n = Tr.setC x d t n
  | 0, _, _ => rfl
  | d + 1, .nil, 0 => rfl
  | d + 1, .nil, m + 1 => by
    show Nat.rec (motive := fun _ => Tr α) (Tr.force (Tr.setR x d .nil (m / 2)) fun l => .node l none .nil) (fun _ _ => Tr.force (Tr.setR x d .nil (m / 2)) fun r => .node .nil none r) (m % 2) = _
    rw [Tr.setC, Tr.setR_setC x d]
    cases m % 2 <;> exact Tr.force_eq _ _
  | d + 1, .node l a r, 0 => rfl
  | d + 1, .node l a r, m + 1 => by
    show Nat.rec (motive := fun _ => Tr α) (Tr.force (Tr.setR x d l (m / 2)) fun l => .node l a r) (fun _ _ => Tr.force (Tr.setR x d r (m / 2)) fun r => .node l a r) (m % 2) = _
    rw [Tr.setC, Tr.setR_setC x d, Tr.setR_setC x d]
    cases m % 2 <;> exact Tr.force_eq _ _
@[csimp] theorem Tr.setR_eq : @Tr.setR = @Tr.setC := by
  funext α x d t n
  exact Tr.setR_setC x d t n

def Tr.set {α : Type} (t : Tr α) (n : Nat) (x : α) : Option (Tr α) :=
  match Nat.blt n 1073741824 with
  | true => some (Tr.setR x 31 t n)
  | false => none

theorem Tr.get_setC {α : Type} (x : α) : ∀ (d : Nat) (t : Tr α) (n : Nat), n + 1 < 2 ^ d →
    (Tr.setC x d t n).getC n = some x ∧ ∀ m, m ≠ n → (Tr.setC x d t n).getC m = t.getC m
  | 0, _, _, h => by simp at h
  | d + 1, t, 0, h => by
    cases t with
    | nil => exact ⟨rfl, fun m hm => by cases m with | zero => exact absurd rfl hm | succ m => simp only [Tr.setC, Tr.getC]; cases m % 2 <;> rfl⟩
    | node l a r => exact ⟨rfl, fun m hm => by cases m with | zero => exact absurd rfl hm | succ m => simp only [Tr.setC, Tr.getC]⟩
  | d + 1, t, n + 1, h => by
    have hd : n / 2 + 1 < 2 ^ d := by rw [Nat.pow_succ] at h; omega
    cases t with
    | nil =>
      obtain ⟨i1, i2⟩ := Tr.get_setC x d .nil (n / 2) hd
      simp only [Tr.setC]
      have hn2 := Nat.mod_two_eq_zero_or_one n
      rcases hn2 with e | e
      · rw [e]
        simp only
        refine ⟨by simp only [Tr.getC, e]; exact i1, fun m hm => ?_⟩
        cases m with
        | zero => rfl
        | succ m =>
          simp only [Tr.getC]
          rcases Nat.mod_two_eq_zero_or_one m with f | f
          · rw [f]; exact i2 (m / 2) (by omega)
          · rw [f]
      · rw [e]
        simp only
        refine ⟨by simp only [Tr.getC, e]; exact i1, fun m hm => ?_⟩
        cases m with
        | zero => rfl
        | succ m =>
          simp only [Tr.getC]
          rcases Nat.mod_two_eq_zero_or_one m with f | f
          · rw [f]
          · rw [f]; exact i2 (m / 2) (by omega)
    | node l a r =>
      simp only [Tr.setC]
      have hn2 := Nat.mod_two_eq_zero_or_one n
      rcases hn2 with e | e
      · obtain ⟨i1, i2⟩ := Tr.get_setC x d l (n / 2) hd
        rw [e]
        simp only
        refine ⟨by simp only [Tr.getC, e]; exact i1, fun m hm => ?_⟩
        cases m with
        | zero => rfl
        | succ m =>
          simp only [Tr.getC]
          rcases Nat.mod_two_eq_zero_or_one m with f | f
          · rw [f]; exact i2 (m / 2) (by omega)
          · rw [f]
      · obtain ⟨i1, i2⟩ := Tr.get_setC x d r (n / 2) hd
        rw [e]
        simp only
        refine ⟨by simp only [Tr.getC, e]; exact i1, fun m hm => ?_⟩
        cases m with
        | zero => rfl
        | succ m =>
          simp only [Tr.getC]
          rcases Nat.mod_two_eq_zero_or_one m with f | f
          · rw [f]
          · rw [f]; exact i2 (m / 2) (by omega)

theorem Tr.get_set {α : Type} {x : α} {t t' : Tr α} {n : Nat} (h : t.set n x = some t') : t'.get n = some x ∧ ∀ m, m ≠ n → t'.get m = t.get m := by
  unfold Tr.set at h
  cases hb : Nat.blt n 1073741824 with
  | false => rw [hb] at h; cases h
  | true =>
    rw [hb] at h
    simp only [Option.some.injEq] at h
    subst h
    have hn : n < 1073741824 := Nat.le_of_ble_eq_true hb
    have := Tr.get_setC x 31 t n (by omega)
    refine ⟨by rw [Tr.setR_setC, Tr.get_getC]; exact this.1, fun m hm => ?_⟩
    rw [Tr.setR_setC, Tr.get_getC, Tr.get_getC]
    exact this.2 m hm

/-- What stands in a list, by place. -/
def nth {α : Type} : List α → Nat → Option α
  | [], _ => none
  | x :: l, n => match n with | 0 => some x | n + 1 => nth l n
theorem nth_eq {α : Type} : ∀ (l : List α) (n : Nat), nth l n = l[n]?
  | [], _ => rfl
  | _ :: _, 0 => rfl
  | _ :: l, n + 1 => by simpa [nth] using nth_eq l n

def putAt {α : Type} : List α → Nat → α → List α
  | [], _, _ => []
  | x :: l, n, y => match n with | 0 => y :: l | n + 1 => x :: putAt l n y
theorem putAt_eq {α : Type} : ∀ (l : List α) (n : Nat) (y : α), putAt l n y = l.set n y
  | [], _, _ => rfl
  | _ :: _, 0, _ => rfl
  | _ :: l, n + 1, y => by simp [putAt, putAt_eq l n y]

/-- How much a slice may grow: a number, or all that its row has, but for some ahead of it. -/
inductive Cap where
  | ex (n : Nat)
  | rest (k : Nat)

def Cap.den (N : Nat) : Cap → Nat
  | .ex n => n
  | .rest k => N - k

inductive RV where
  | bool (b : Bool)
  | int (k : IntKind) (n : Int)
  | str (s : List UInt8)
  | ptr0
  | ptr (id off : Nat)
  | slice0
  | slice (id off len : Nat) (cap : Cap)
  | fn (f : Nat) (first captured : List RV)
  | yield (l : Nat)
  | nilFunc
  | iface (t : Nat) (v : RV)
  | nilIface
  | agg (cs : List RV)
  | tuple (vs : List RV)

/-- Of each number: the block in which it lies, and how many elements its row has. -/
abbrev Sig := Nat → Option (Nat × Nat)

mutual
def den (σ : Sig) : RV → Option Value
  | .bool b => some (.bool b)
  | .int k n => some (.int k n)
  | .str s => some (.string ⟨s.toArray⟩)
  | .ptr0 => some (.pointer none)
  | .ptr id off => match σ id with | some p => some (.pointer (some ⟨p.1, off, none⟩)) | none => none
  | .slice0 => some (.slice none 0 0)
  | .slice id off len cap => match σ id with | some p => some (.slice (some ⟨p.1, off, none⟩) len (cap.den p.2)) | none => none
  | .fn f a c => match denL σ a with
    | some a => (match denL σ c with | some c => some (.func (.func f) a.toArray c.toArray) | none => none)
    | none => none
  | .yield l => match σ l with | some p => some (.func (.yield p.1) #[] #[]) | none => none
  | .nilFunc => some .nilFunc
  | .iface t v => match den σ v with | some v => some (.iface t v) | none => none
  | .nilIface => some .nilIface
  | .agg cs => match denL σ cs with | some cs => some (.agg cs.toArray) | none => none
  | .tuple vs => match denL σ vs with | some vs => some (.tuple vs.toArray) | none => none
def denL (σ : Sig) : List RV → Option (List Value)
  | [] => some []
  | x :: l => match den σ x with
    | some v => (match denL σ l with | some vs => some (v :: vs) | none => none)
    | none => none
end

def Sig.le (σ σ' : Sig) : Prop := ∀ id p, σ id = some p → σ' id = some p
theorem Sig.le_refl (σ : Sig) : σ.le σ := fun _ _ h => h
theorem Sig.le_trans {a b c : Sig} (h : a.le b) (k : b.le c) : a.le c := fun i p hi => k i p (h i p hi)
def Sig.ext (σ : Sig) (id : Nat) (p : Nat × Nat) : Sig := fun j => if j = id then some p else σ j
theorem Sig.ext_same (σ : Sig) (id : Nat) (p : Nat × Nat) : σ.ext id p id = some p := by simp [Sig.ext]
theorem Sig.ext_other (σ : Sig) (id j : Nat) (p : Nat × Nat) (h : j ≠ id) : σ.ext id p j = σ j := by simp [Sig.ext, h]
theorem Sig.le_ext {σ : Sig} {id : Nat} {p : Nat × Nat} (h : σ id = none) : σ.le (σ.ext id p) := by
  intro j q hj
  by_cases e : j = id
  · subst e; rw [h] at hj; cases hj
  · rw [Sig.ext_other _ _ _ _ e]; exact hj

mutual
theorem den_mono {σ σ' : Sig} (h : σ.le σ') : ∀ (r : RV) (v : Value), den σ r = some v → den σ' r = some v
  | .bool _, _, e => e
  | .int _ _, _, e => e
  | .str _, _, e => e
  | .ptr0, _, e => e
  | .ptr id off, v, e => by
    simp only [den] at e ⊢
    cases hs : σ id with
    | none => rw [hs] at e; cases e
    | some p => rw [hs] at e; rw [h _ _ hs]; exact e
  | .slice0, _, e => e
  | .slice id off len cap, v, e => by
    simp only [den] at e ⊢
    cases hs : σ id with
    | none => rw [hs] at e; cases e
    | some p => rw [hs] at e; rw [h _ _ hs]; exact e
  | .fn f a c, v, e => by
    simp only [den] at e ⊢
    cases ha : denL σ a with
    | none => rw [ha] at e; cases e
    | some a' =>
      cases hc : denL σ c with
      | none => rw [ha, hc] at e; cases e
      | some c' => rw [ha, hc] at e; rw [denL_mono h _ _ ha, denL_mono h _ _ hc]; exact e
  | .yield l, v, e => by
    simp only [den] at e ⊢
    cases hs : σ l with
    | none => rw [hs] at e; cases e
    | some p => rw [hs] at e; rw [h _ _ hs]; exact e
  | .nilFunc, _, e => e
  | .iface t x, v, e => by
    simp only [den] at e ⊢
    cases hx : den σ x with
    | none => rw [hx] at e; cases e
    | some x' => rw [hx] at e; rw [den_mono h _ _ hx]; exact e
  | .nilIface, _, e => e
  | .agg cs, v, e => by
    simp only [den] at e ⊢
    cases hx : denL σ cs with
    | none => rw [hx] at e; cases e
    | some x' => rw [hx] at e; rw [denL_mono h _ _ hx]; exact e
  | .tuple vs, v, e => by
    simp only [den] at e ⊢
    cases hx : denL σ vs with
    | none => rw [hx] at e; cases e
    | some x' => rw [hx] at e; rw [denL_mono h _ _ hx]; exact e
theorem denL_mono {σ σ' : Sig} (h : σ.le σ') : ∀ (r : List RV) (v : List Value), denL σ r = some v → denL σ' r = some v
  | [], _, e => e
  | x :: l, v, e => by
    simp only [denL] at e ⊢
    cases hx : den σ x with
    | none => rw [hx] at e; cases e
    | some x' =>
      cases hl : denL σ l with
      | none => rw [hx, hl] at e; cases e
      | some l' => rw [hx, hl] at e; rw [den_mono h _ _ hx, denL_mono h _ _ hl]; exact e
end

theorem denL_cons {σ : Sig} {x : RV} {l : List RV} {vs : List Value} (h : denL σ (x :: l) = some vs) :
    ∃ v vs', den σ x = some v ∧ denL σ l = some vs' ∧ vs = v :: vs' := by
  simp only [denL] at h
  cases hx : den σ x with
  | none => rw [hx] at h; cases h
  | some v =>
    cases hl : denL σ l with
    | none => rw [hx, hl] at h; cases h
    | some vs' => rw [hx, hl] at h; cases h; exact ⟨v, vs', rfl, rfl, rfl⟩

theorem denL_cons_mk {σ : Sig} {x : RV} {l : List RV} {v : Value} {vs : List Value} (hx : den σ x = some v) (hl : denL σ l = some vs) : denL σ (x :: l) = some (v :: vs) := by
  simp [denL, hx, hl]

theorem denL_length {σ : Sig} : ∀ {l : List RV} {vs : List Value}, denL σ l = some vs → vs.length = l.length
  | [], vs, h => by cases h; rfl
  | x :: l, vs, h => by
    obtain ⟨v, vs', _, hl, rfl⟩ := denL_cons h
    simp [denL_length hl]

theorem denL_get {σ : Sig} : ∀ {l : List RV} {vs : List Value} (i : Nat) {x : RV}, denL σ l = some vs → l[i]? = some x → ∃ v, vs[i]? = some v ∧ den σ x = some v
  | [], _, i, x, _, h => by simp at h
  | y :: l, vs, i, x, hd, h => by
    obtain ⟨v, vs', hy, hl, rfl⟩ := denL_cons hd
    cases i with
    | zero => simp at h; subst h; exact ⟨v, rfl, hy⟩
    | succ i => simp at h; obtain ⟨u, hu, hx⟩ := denL_get i hl h; exact ⟨u, by simpa using hu, hx⟩

theorem denL_get_none {σ : Sig} {l : List RV} {vs : List Value} (i : Nat) (hd : denL σ l = some vs) (h : l[i]? = none) : vs[i]? = none := by
  have := denL_length hd
  simp at h ⊢
  omega

theorem denL_set {σ : Sig} : ∀ {l : List RV} {vs : List Value} (i : Nat) {x : RV} {v : Value}, denL σ l = some vs → den σ x = some v → denL σ (l.set i x) = some (vs.set i v)
  | [], vs, i, x, v, h, _ => by cases h; rfl
  | y :: l, vs, i, x, v, h, hx => by
    obtain ⟨u, vs', hy, hl, rfl⟩ := denL_cons h
    cases i with
    | zero => simp [denL, hx, hl]
    | succ i => simp [denL, hy, denL_set i hl hx]

theorem denL_append {σ : Sig} : ∀ {a b : List RV} {va vb : List Value}, denL σ a = some va → denL σ b = some vb → denL σ (a ++ b) = some (va ++ vb)
  | [], b, va, vb, ha, hb => by cases ha; exact hb
  | x :: a, b, va, vb, ha, hb => by
    obtain ⟨v, vs', hx, hl, rfl⟩ := denL_cons ha
    exact denL_cons_mk hx (denL_append hl hb)

theorem denL_replicate {σ : Sig} {x : RV} {v : Value} (h : den σ x = some v) : ∀ n, denL σ (List.replicate n x) = some (List.replicate n v)
  | 0 => rfl
  | n + 1 => denL_cons_mk h (denL_replicate h n)

/- Values of the model that name no memory, as they are here. -/
mutual
def rv : Value → Option RV
  | .bool b => some (.bool b)
  | .int k n => some (.int k n)
  | .string s => some (.str s.data.toList)
  | .pointer none => some .ptr0
  | .slice none 0 0 => some .slice0
  | .nilFunc => some .nilFunc
  | .nilIface => some .nilIface
  | .agg cs => match rvA cs with | some l => some (.agg l) | none => none
  | .tuple cs => match rvA cs with | some l => some (.tuple l) | none => none
  | .iface t v => match rv v with | some x => some (.iface t x) | none => none
  | _ => none
def rvA : Array Value → Option (List RV)
  | ⟨l⟩ => rvL l
def rvL : List Value → Option (List RV)
  | [] => some []
  | v :: l => match rv v with
    | some x => (match rvL l with | some xs => some (x :: xs) | none => none)
    | none => none
end

mutual
theorem den_rv (σ : Sig) : ∀ (v : Value) (x : RV), rv v = some x → den σ x = some v
  | .bool _, _, h => by simp only [rv, Option.some.injEq] at h; subst h; rfl
  | .int _ _, _, h => by simp only [rv, Option.some.injEq] at h; subst h; rfl
  | .string s, _, h => by simp only [rv, Option.some.injEq] at h; subst h; cases s; rfl
  | .pointer none, _, h => by simp only [rv, Option.some.injEq] at h; subst h; rfl
  | .pointer (some _), _, h => by simp [rv] at h
  | .slice none 0 0, _, h => by simp only [rv, Option.some.injEq] at h; subst h; rfl
  | .slice none 0 (_ + 1), _, h => by simp [rv] at h
  | .slice none (_ + 1) _, _, h => by simp [rv] at h
  | .slice (some _) _ _, _, h => by simp [rv] at h
  | .nilFunc, _, h => by simp only [rv, Option.some.injEq] at h; subst h; rfl
  | .nilIface, _, h => by simp only [rv, Option.some.injEq] at h; subst h; rfl
  | .agg cs, x, h => by
    simp only [rv] at h
    cases hl : rvA cs with
    | none => rw [hl] at h; cases h
    | some l =>
      rw [hl] at h; simp only [Option.some.injEq] at h; subst h
      have := den_rvA σ cs l hl
      simp [den, this]
  | .tuple cs, x, h => by
    simp only [rv] at h
    cases hl : rvA cs with
    | none => rw [hl] at h; cases h
    | some l =>
      rw [hl] at h; simp only [Option.some.injEq] at h; subst h
      have := den_rvA σ cs l hl
      simp [den, this]
  | .iface t v, x, h => by
    simp only [rv] at h
    cases hl : rv v with
    | none => rw [hl] at h; cases h
    | some l =>
      rw [hl] at h; simp only [Option.some.injEq] at h; subst h
      have := den_rv σ v l hl
      simp [den, this]
  | .float _ _, _, h => by simp [rv] at h
  | .complex _ _ _, _, h => by simp [rv] at h
  | .map _, _, h => by simp [rv] at h
  | .chan _, _, h => by simp [rv] at h
  | .func _ _ _, _, h => by simp [rv] at h
theorem den_rvA (σ : Sig) : ∀ (v : Array Value) (x : List RV), rvA v = some x → denL σ x = some v.toList
  | ⟨l⟩, x, h => by
    simp only [rvA] at h
    exact den_rvL σ l x h
theorem den_rvL (σ : Sig) : ∀ (v : List Value) (x : List RV), rvL v = some x → denL σ x = some v
  | [], x, h => by simp only [rvL, Option.some.injEq] at h; subst h; rfl
  | v :: l, x, h => by
    simp only [rvL] at h
    cases hv : rv v with
    | none => rw [hv] at h; cases h
    | some y =>
      cases hl : rvL l with
      | none => rw [hv, hl] at h; cases h
      | some ys =>
        rw [hv, hl] at h
        simp only [Option.some.injEq] at h; subst h
        exact denL_cons_mk (den_rv σ v y hv) (den_rvL σ l ys hl)
end

/-- What a number holds. 'cells n d t ex sz': n cells are known, each 'd' but for those of t; ex: the row has no more; else it has a number of elements of sz cells. 'ro': cells that are read alone. -/
inductive AObj where
  | cells (n : Nat) (d : RV) (t : Tr RV) (ex : Bool) (sz : Nat)
  | ro (n : Nat) (d : RV) (t : Tr RV)
  | loop (state : LoopState) (pending : Option Code) (fn : Nat) (tmps : List RV) (params : Array Tmp) (assign body : Code) (defers : Nat)
  | deferred (taken : Bool)
  | dead

def unf (c : Array Value) (fz : Nat × Nat) : Prop := ∀ i, i < c.size → ¬ (fz.1 ≤ i ∧ i < fz.2)

def ORel (σ : Sig) (N : Nat) : AObj → Obj → Prop
  | .cells n d t ex sz, .cells c _ fz => n ≤ c.size ∧ (∀ i, i < n → ∃ v, den σ ((t.get i).getD d) = some v ∧ c[i]? = some v) ∧ (ex = true → c.size = n) ∧ (ex = false → c.size = N * sz) ∧ unf c fz
  | .ro n d t, .cells c _ _ => ∀ i, i < n → ∃ v, den σ ((t.get i).getD d) = some v ∧ c[i]? = some v
  | .loop st pe fn tmps ps asg body dfr, .loop l => ∃ vs D, denL σ tmps = some vs ∧ σ dfr = some D ∧ l = { state := st, pending := pe, fn, tmps := vs.toArray, params := ps, assign := asg, body, defers := D.1 }
  | .deferred taken, .deferred ds => ds = if taken then none else some []
  | _, _ => False

theorem ORel_mono {σ σ' : Sig} (h : σ.le σ') {N : Nat} {o : AObj} {c : Obj} (r : ORel σ N o c) : ORel σ' N o c := by
  cases o <;> cases c <;> simp only [ORel] at r ⊢
  case cells.cells => exact ⟨r.1, fun i hi => let ⟨v, hv, hc⟩ := r.2.1 i hi; ⟨v, den_mono h _ _ hv, hc⟩, r.2.2⟩
  case ro.cells => exact fun i hi => let ⟨v, hv, hc⟩ := r i hi; ⟨v, den_mono h _ _ hv, hc⟩
  case loop.loop => obtain ⟨vs, D, h1, h2, h3⟩ := r; exact ⟨vs, D, denL_mono h _ _ h1, h _ _ h2, h3⟩
  case deferred.deferred => exact r

/-- Is it there? -/
def AObj.alive : AObj → Bool
  | .dead => false
  | _ => true
/-- May it be written? -/
def AObj.mine : AObj → Bool
  | .dead | .ro .. => false
  | _ => true
theorem AObj.alive_of_mine {o : AObj} (h : o.mine = true) : o.alive = true := by cases o <;> simp_all [AObj.mine, AObj.alive]

structure HRel (σ : Sig) (h : Tr AObj) (H : Array Obj) : Prop where
  dom : ∀ id, h.get id = none → σ id = none
  inj : ∀ i j b n m o o', σ i = some (b, n) → σ j = some (b, m) → h.get i = some o → h.get j = some o' → o.alive = true → o'.alive = true → i = j
  obj : ∀ id o, h.get id = some o → o.alive = true → ∃ b N c, σ id = some (b, N) ∧ H[b]? = some c ∧ ORel σ N o c

/-- The blocks that may be written. -/
def own (σ : Sig) (h : Tr AObj) (b : Nat) : Prop := ∃ id n o, σ id = some (b, n) ∧ h.get id = some o ∧ o.mine = true

/-- A way on: what is not one's own stays, and does not become one's own. -/
structure Way (σ : Sig) (h : Tr AObj) (w : World) (σ' : Sig) (h' : Tr AObj) (w' : World) : Prop where
  le : σ.le σ'
  rel : HRel σ' h' w'.heap
  os : w'.os = w.os
  tape : w'.tape = w.tape
  output : w'.output = w.output
  size : w.heap.size ≤ w'.heap.size
  keeps : ∀ b, b < w.heap.size → ¬ own σ h b → w'.heap[b]? = w.heap[b]? ∧ ¬ own σ' h' b

theorem Way.refl {σ : Sig} {h : Tr AObj} {w : World} (r : HRel σ h w.heap) : Way σ h w σ h w := ⟨Sig.le_refl σ, r, rfl, rfl, rfl, Nat.le_refl _, fun _ _ hb => ⟨rfl, hb⟩⟩
theorem Way.drew {σ : Sig} {h : Tr AObj} {w : World} (r : HRel σ h w.heap) : Way σ h w σ h w.drew := ⟨Sig.le_refl σ, r, rfl, rfl, rfl, Nat.le_refl _, fun _ _ hb => ⟨rfl, hb⟩⟩
theorem Way.trans {σ σ' σ'' : Sig} {h h' h'' : Tr AObj} {w w' w'' : World} (a : Way σ h w σ' h' w') (b : Way σ' h' w' σ'' h'' w'') : Way σ h w σ'' h'' w'' :=
  ⟨Sig.le_trans a.le b.le, b.rel, b.os.trans a.os, b.tape.trans a.tape, b.output.trans a.output, Nat.le_trans a.size b.size, fun k hk ho => by
    obtain ⟨h1, h2⟩ := a.keeps k hk ho
    obtain ⟨h3, h4⟩ := b.keeps k (Nat.lt_of_lt_of_le hk a.size) h2
    exact ⟨h3.trans h1, h4⟩⟩

theorem HRel.lt {H : Array Obj} {b : Nat} {c : Obj} (hb : H[b]? = some c) : b < H.size := (Array.getElem?_eq_some_iff.1 hb).1

/-- A new block. -/
theorem HRel.alloc {σ : Sig} {h h' : Tr AObj} {H : Array Obj} (r : HRel σ h H) {id : Nat} {o : AObj} {c : Obj} {N : Nat}
    (hid : h.get id = none) (hs : h.set id o = some h') (ho : o.alive = true → ORel (σ.ext id (H.size, N)) N o c) :
    HRel (σ.ext id (H.size, N)) h' (H.push c) ∧ σ.le (σ.ext id (H.size, N)) := by
  have hle : σ.le (σ.ext id (H.size, N)) := Sig.le_ext (r.dom id hid)
  obtain ⟨g1, g2⟩ := Tr.get_set hs
  refine ⟨⟨fun j hj => ?_, ?_, ?_⟩, hle⟩
  · by_cases e : j = id
    · subst e; rw [g1] at hj; cases hj
    · rw [Sig.ext_other _ _ _ _ e]; exact r.dom j (by rw [← g2 j e]; exact hj)
  · intro i j b n m oi oj hi hj hgi hgj ai aj
    by_cases ei : i = id
    · by_cases ej : j = id
      · rw [ei, ej]
      · subst ei
        rw [Sig.ext_same] at hi
        rw [Sig.ext_other _ _ _ _ ej] at hj
        rw [g2 j ej] at hgj
        obtain ⟨b', N', c', h1, h3, _⟩ := r.obj j oj hgj aj
        rw [hj] at h1
        simp only [Option.some.injEq, Prod.mk.injEq] at hi h1
        have := HRel.lt h3
        omega
    · by_cases ej : j = id
      · subst ej
        rw [Sig.ext_same] at hj
        rw [Sig.ext_other _ _ _ _ ei] at hi
        rw [g2 i ei] at hgi
        obtain ⟨b', N', c', h1, h3, _⟩ := r.obj i oi hgi ai
        rw [hi] at h1
        simp only [Option.some.injEq, Prod.mk.injEq] at hj h1
        have := HRel.lt h3
        omega
      · rw [Sig.ext_other _ _ _ _ ei] at hi
        rw [Sig.ext_other _ _ _ _ ej] at hj
        rw [g2 i ei] at hgi
        rw [g2 j ej] at hgj
        exact r.inj i j b n m oi oj hi hj hgi hgj ai aj
  · intro j oj hj aj
    by_cases e : j = id
    · subst e
      rw [g1] at hj
      cases hj
      exact ⟨H.size, N, c, Sig.ext_same _ _ _, by simp, ho aj⟩
    · rw [g2 j e] at hj
      obtain ⟨b, N', c', h1, h3, h4⟩ := r.obj j oj hj aj
      refine ⟨b, N', c', by rw [Sig.ext_other _ _ _ _ e]; exact h1, ?_, ORel_mono hle h4⟩
      have := HRel.lt h3
      rw [Array.getElem?_push, if_neg (by omega)]; exact h3

theorem Way.alloc {σ : Sig} {h h' : Tr AObj} {w : World} (r : HRel σ h w.heap) {id : Nat} {o : AObj} {c : Obj} (N : Nat)
    (hid : h.get id = none) (hs : h.set id o = some h') (ho : o.alive = true → ORel (σ.ext id (w.heap.size, N)) N o c) :
    Way σ h w (σ.ext id (w.heap.size, N)) h' (w.alloc c) := by
  obtain ⟨h1, h2⟩ := r.alloc (N := N) hid hs ho
  obtain ⟨g1, g2⟩ := Tr.get_set hs
  refine ⟨h2, h1, rfl, rfl, rfl, by simp, fun b hb hn => ⟨Go.RowKit.Below.heap_alloc w c b hb, ?_⟩⟩
  rintro ⟨j, n, oj, e1, e2, e3⟩
  by_cases e : j = id
  · subst e
    rw [Sig.ext_same] at e1
    simp only [Option.some.injEq, Prod.mk.injEq] at e1
    omega
  · rw [Sig.ext_other _ _ _ _ e] at e1
    rw [g2 j e] at e2
    exact hn ⟨j, n, oj, e1, e2, e3⟩

/-- A block whose content changes. -/
theorem HRel.change {σ : Sig} {h h' : Tr AObj} {H H' : Array Obj} (r : HRel σ h H) {id : Nat} {o o' : AObj} {b N : Nat} {c' : Obj}
    (hid : h.get id = some o) (ha : o.alive = true) (hb : σ id = some (b, N)) (hs : h.set id o' = some h')
    (hh : ∀ k, k ≠ b → H'[k]? = H[k]?) (hc : o'.alive = true → H'[b]? = some c' ∧ ORel σ N o' c') :
    HRel σ h' H' := by
  obtain ⟨g1, g2⟩ := Tr.get_set hs
  refine ⟨fun j hj => ?_, ?_, ?_⟩
  · by_cases e : j = id
    · subst e; rw [g1] at hj; cases hj
    · exact r.dom j (by rw [← g2 j e]; exact hj)
  · intro i j b' n m oi oj hi hj hgi hgj ai aj
    have hi' : ∃ o2, h.get i = some o2 ∧ o2.alive = true := by
      by_cases e : i = id
      · subst e; exact ⟨o, hid, ha⟩
      · rw [g2 i e] at hgi; exact ⟨oi, hgi, ai⟩
    have hj' : ∃ o2, h.get j = some o2 ∧ o2.alive = true := by
      by_cases e : j = id
      · subst e; exact ⟨o, hid, ha⟩
      · rw [g2 j e] at hgj; exact ⟨oj, hgj, aj⟩
    obtain ⟨o2, h2, a2⟩ := hi'
    obtain ⟨o3, h3, a3⟩ := hj'
    exact r.inj i j b' n m o2 o3 hi hj h2 h3 a2 a3
  · intro j oj hj aj
    by_cases e : j = id
    · subst e
      rw [g1] at hj
      cases hj
      exact ⟨b, N, c', hb, (hc aj).1, (hc aj).2⟩
    · rw [g2 j e] at hj
      obtain ⟨b', N', c, h1, h3, h4⟩ := r.obj j oj hj aj
      refine ⟨b', N', c, h1, ?_, h4⟩
      rw [hh b' ?_]; exact h3
      intro hbb
      subst hbb
      exact e (r.inj j id b' N' N oj o h1 hb hj hid aj ha)

theorem Way.change {σ : Sig} {h h' : Tr AObj} {w w' : World} (r : HRel σ h w.heap) {id : Nat} {o o' : AObj} {b N : Nat} {c' : Obj}
    (hid : h.get id = some o) (hm : o.mine = true) (hb : σ id = some (b, N)) (hs : h.set id o' = some h')
    (hos : w'.os = w.os) (htape : w'.tape = w.tape) (hout : w'.output = w.output) (hsz : w'.heap.size = w.heap.size)
    (hh : ∀ k, k ≠ b → w'.heap[k]? = w.heap[k]?) (hc : o'.alive = true → w'.heap[b]? = some c' ∧ ORel σ N o' c') :
    Way σ h w σ h' w' := by
  obtain ⟨g1, g2⟩ := Tr.get_set hs
  refine ⟨Sig.le_refl σ, r.change hid (AObj.alive_of_mine hm) hb hs hh hc, hos, htape, hout, by omega, fun k _ hn => ?_⟩
  have hk : k ≠ b := fun e => hn (e ▸ ⟨id, N, o, hb, hid, hm⟩)
  refine ⟨hh k hk, ?_⟩
  rintro ⟨j, n, oj, e1, e2, e3⟩
  by_cases e : j = id
  · subst e
    rw [hb] at e1
    simp only [Option.some.injEq, Prod.mk.injEq] at e1
    exact hk e1.1.symm
  · rw [g2 j e] at e2
    exact hn ⟨j, n, oj, e1, e2, e3⟩

end Go.Ev
