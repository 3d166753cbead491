/- The machine: frames, and how they stand to the model's. -/
import Derived.Test.YteklahfgplbmcaaDoorEvOne
namespace Go.Ev

inductive AItem where
  | code (c : Code)
  | inBlock (id : Nat)
  | inLoop (c : Code)
  | inScope (c : Code)
  | ops (all rest : List Oper)
  | inRange (l : Nat)
  | endRange (l : Nat)
  | start

inductive ADef where
  | collected (b : Nat)
  | fn (f : Nat) (args cap : List RV)

structure AFrame where
  fn : Nat
  tmps : List RV
  todo : List AItem
  defers : List ADef
  ret : Bool
  dfr : Bool
  round : Option Nat

structure AM where
  cur : AFrame
  stack : List AFrame
  heap : Tr AObj
  next : Nat

def IRel (σ : Sig) : AItem → Item → Prop
  | .code c, .code c' => c = c'
  | .inBlock i, .inBlock j => i = j
  | .inLoop c, .inLoop c' => c = c'
  | .inScope c, .inScope c' => c = c'
  | .ops all rest, .inRegion ops idxs => ops.toList = all ∧ ∃ k, idxs = (List.range ops.size).drop k ∧ rest = all.drop k
  | .inRange l, .inRangeFunc b => ∃ N, σ l = some (b, N)
  | .endRange l, .endRangeFunc b => ∃ N, σ l = some (b, N)
  | .start, .beginRound => True
  | _, _ => False

def DRel (σ : Sig) : ADef → Deferred → Prop
  | .collected b, d => ∃ B N, σ b = some (B, N) ∧ d = { target := .collected B, args := #[] }
  | .fn f args cap, d => ∃ vs cs, denL σ args = some vs ∧ denL σ cap = some cs ∧ d = { target := .fn (.func f) cs.toArray, args := vs.toArray }

def all2 {α β : Type} (R : α → β → Prop) : List α → List β → Prop
  | [], [] => True
  | a :: l, b :: m => R a b ∧ all2 R l m
  | _, _ => False

theorem all2_mono {α β : Type} {R R' : α → β → Prop} (h : ∀ a b, R a b → R' a b) : ∀ (l : List α) (m : List β), all2 R l m → all2 R' l m
  | [], [], _ => trivial
  | _ :: l, _ :: m, ⟨h1, h2⟩ => ⟨h _ _ h1, all2_mono h l m h2⟩
  | [], _ :: _, h' => h'.elim
  | _ :: _, [], h' => h'.elim

theorem all2_append {α β : Type} {R : α → β → Prop} : ∀ {l l' : List α} {m m' : List β}, all2 R l m → all2 R l' m' → all2 R (l ++ l') (m ++ m')
  | [], _, [], _, _, h => h
  | _ :: _, _, _ :: _, _, ⟨h1, h2⟩, h => ⟨h1, all2_append h2 h⟩
  | [], _, _ :: _, _, h, _ => h.elim
  | _ :: _, _, [], _, h, _ => h.elim

theorem all2_cons {α β : Type} {R : α → β → Prop} {a : α} {l : List α} {m : List β} (h : all2 R (a :: l) m) : ∃ b m', m = b :: m' ∧ R a b ∧ all2 R l m' := by
  cases m with
  | nil => exact h.elim
  | cons b m => exact ⟨b, m, rfl, h.1, h.2⟩
theorem all2_nil {α β : Type} {R : α → β → Prop} {m : List β} (h : all2 R [] m) : m = [] := by
  cases m with
  | nil => rfl
  | cons => exact h.elim

structure FRel (σ : Sig) (a : AFrame) (fr : Frame) : Prop where
  fn : fr.fn = a.fn
  tmps : denL σ a.tmps = some fr.tmps.toList
  todo : all2 (IRel σ) a.todo fr.todo
  defers : all2 (DRel σ) a.defers fr.defers
  mode : fr.mode = if a.ret then .returning else .run
  kind : fr.kind = if a.dfr then .deferred else .normal
  round : match a.round with
    | none => fr.roundOf = none
    | some l => ∃ b N, σ l = some (b, N) ∧ fr.roundOf = some b

theorem IRel_mono {σ σ' : Sig} (h : σ.le σ') : ∀ a b, IRel σ a b → IRel σ' a b := by
  intro a b r
  cases a <;> cases b <;> simp only [IRel] at r ⊢ <;> first | exact r | (obtain ⟨N, hN⟩ := r; exact ⟨N, h _ _ hN⟩)
theorem DRel_mono {σ σ' : Sig} (h : σ.le σ') : ∀ a b, DRel σ a b → DRel σ' a b := by
  intro a b r
  cases a
  · obtain ⟨B, N, h1, h2⟩ := r; exact ⟨B, N, h _ _ h1, h2⟩
  · obtain ⟨vs, cs, h1, h2, h3⟩ := r; exact ⟨vs, cs, denL_mono h _ _ h1, denL_mono h _ _ h2, h3⟩
theorem FRel.mono {σ σ' : Sig} (h : σ.le σ') {a : AFrame} {fr : Frame} (r : FRel σ a fr) : FRel σ' a fr :=
  ⟨r.fn, denL_mono h _ _ r.tmps, all2_mono (IRel_mono h) _ _ r.todo, all2_mono (DRel_mono h) _ _ r.defers, r.mode, r.kind, by
    have := r.round
    cases hr : a.round with
    | none => rw [hr] at this; exact this
    | some l => rw [hr] at this; obtain ⟨b, N, h1, h2⟩ := this; exact ⟨b, N, h _ _ h1, h2⟩⟩

section
variable {P : Program} (E : Env P)

structure MRel (σ : Sig) (s : AM) (bot : List Frame) (fr : Frame) (cs : List Frame) (w : World) : Prop where
  cur : FRel σ s.cur fr
  stack : ∃ frs, cs = frs ++ bot ∧ all2 (FRel σ) s.stack frs
  heap : HRel σ s.heap w.heap
  gl : GOk E σ

/-- Some steps on, to a state that stands so. -/
def Goes (σ : Sig) (s s' : AM) (bot : List Frame) (fr : Frame) (cs : List Frame) (w : World) : Prop :=
  ∃ σ' fr' cs' w', Steps P (lone fr cs w) (lone fr' cs' w') ∧ MRel E σ' s' bot fr' cs' w' ∧ Way σ s.heap w σ' s'.heap w'

variable {E}

theorem Goes.of_step {σ : Sig} {s s' : AM} {bot : List Frame} {fr fr' : Frame} {cs cs' : List Frame} {w w' : World} {σ' : Sig} (h : step P (lone fr cs w) = .next (lone fr' cs' w')) (m : MRel E σ' s' bot fr' cs' w') (a : Way σ s.heap w σ' s'.heap w') : Goes E σ s s' bot fr cs w :=
  ⟨σ', fr', cs', w', .one h, m, a⟩

theorem Goes.trans {σ : Sig} {s s' s'' : AM} {bot : List Frame} {fr : Frame} {cs : List Frame} {w : World} (h : Goes E σ s s' bot fr cs w)
    (k : ∀ σ' fr' cs' w', MRel E σ' s' bot fr' cs' w' → Goes E σ' s' s'' bot fr' cs' w') : Goes E σ s s'' bot fr cs w := by
  obtain ⟨σ', fr', cs', w', h1, h2, h3⟩ := h
  obtain ⟨σ'', fr'', cs'', w'', k1, k2, k3⟩ := k σ' fr' cs' w' h2
  exact ⟨σ'', fr'', cs'', w'', h1.trans k1, k2, h3.trans k3⟩

/-- The frame's next items. -/
theorem MRel.run {σ : Sig} {s : AM} {bot : List Frame} {fr : Frame} {cs : List Frame} {w : World} (m : MRel E σ s bot fr cs w) (h : s.cur.ret = false) : fr.mode = .run := by
  have := m.cur.mode; rw [h] at this; simpa using this

/-- The same state, with other things to do. -/
theorem MRel.to {σ : Sig} {s : AM} {bot : List Frame} {fr : Frame} {cs : List Frame} {w : World} (m : MRel E σ s bot fr cs w) {todo : List AItem} {items : List Item} (h : all2 (IRel σ) todo items) :
    MRel E σ { s with cur := { s.cur with todo := todo } } bot { fr with todo := items } cs w :=
  ⟨⟨m.cur.fn, m.cur.tmps, h, m.cur.defers, m.cur.mode, m.cur.kind, m.cur.round⟩, m.stack, m.heap, m.gl⟩

section steps
variable {fr : Frame} {cs : List Frame} {w : World} {k : List Item}

theorem st_skip (hm : fr.mode = .run) (ht : fr.todo = .code .skip :: k) : step P (lone fr cs w) = .next (lone { fr with todo := k } cs w) := step_lone_go (by simp [stepG, stepG.exec, hm, ht])
theorem st_label {l : Nat} (hm : fr.mode = .run) (ht : fr.todo = .code (.label l) :: k) : step P (lone fr cs w) = .next (lone { fr with todo := k } cs w) := step_lone_go (by simp [stepG, stepG.exec, hm, ht])
theorem st_inBlock {l : Nat} (hm : fr.mode = .run) (ht : fr.todo = .inBlock l :: k) : step P (lone fr cs w) = .next (lone { fr with todo := k } cs w) := step_lone_go (by simp [stepG, stepG.exec, hm, ht])
theorem st_inScope {c : Code} (hm : fr.mode = .run) (ht : fr.todo = .inScope c :: k) : step P (lone fr cs w) = .next (lone { fr with todo := k } cs w) := step_lone_go (by simp [stepG, stepG.exec, hm, ht])
theorem st_seq {a b : Code} (hm : fr.mode = .run) (ht : fr.todo = .code (.seq a b) :: k) : step P (lone fr cs w) = .next (lone { fr with todo := .code a :: .code b :: k } cs w) := step_lone_go (by simp [stepG, stepG.exec, hm, ht])
theorem st_cond {c : Operand} {x y : Code} {t : Bool} (hm : fr.mode = .run) (ht : fr.todo = .code (.cond c x y) :: k) (he : fr.eval c = .bool t) : step P (lone fr cs w) = .next (lone { fr with todo := .code (if t then x else y) :: k } cs w) :=
  step_lone_go (by simp [stepG, stepG.exec, hm, ht, he])
theorem st_block {id : Nat} {c : Code} (hm : fr.mode = .run) (ht : fr.todo = .code (.block id c) :: k) : step P (lone fr cs w) = .next (lone { fr with todo := .code c :: .inBlock id :: k } cs w) := step_lone_go (by simp [stepG, stepG.exec, hm, ht])
theorem st_loop {c : Code} (hm : fr.mode = .run) (ht : fr.todo = .code (.loop c) :: k) : step P (lone fr cs w) = .next (lone { fr with todo := .code c :: .inLoop c :: k } cs w) := step_lone_go (by simp [stepG, stepG.exec, hm, ht])
theorem st_inLoop {c : Code} (hm : fr.mode = .run) (ht : fr.todo = .inLoop c :: k) : step P (lone fr cs w) = .next (lone { fr with todo := .code c :: .inLoop c :: k } cs w) := step_lone_go (by simp [stepG, stepG.exec, hm, ht])
theorem st_scope {c : Code} (hm : fr.mode = .run) (ht : fr.todo = .code (.scope c) :: k) : step P (lone fr cs w) = .next (lone { fr with todo := .code c :: .inScope c :: k } cs w) := step_lone_go (by simp [stepG, stepG.exec, hm, ht])
theorem st_exit {id : Nat} {k' : List Item} (hm : fr.mode = .run) (ht : fr.todo = .code (.exit id) :: k) (he : exitTo id k = some k') : step P (lone fr cs w) = .next (lone { fr with todo := k' } cs w) := step_lone_go (by simp [stepG, stepG.exec, hm, ht, he])
theorem st_goto {l : Nat} {k' : List Item} (hm : fr.mode = .run) (ht : fr.todo = .code (.goto l) :: k) (he : gotoIn l k = some k') : step P (lone fr cs w) = .next (lone { fr with todo := k' } cs w) := step_lone_go (by simp [stepG, stepG.exec, hm, ht, he])
theorem st_region {id : Nat} {ops : Array Oper} (hm : fr.mode = .run) (ht : fr.todo = .code (.region id ops false) :: k) : step P (lone fr cs w) = .next (lone { fr with todo := .inRegion ops (List.range ops.size) :: k } cs w) := step_lone_go (by simp [stepG, stepG.exec, hm, ht])
theorem st_regionEnd {ops : Array Oper} (hm : fr.mode = .run) (ht : fr.todo = .inRegion ops [] :: k) : step P (lone fr cs w) = .next (lone { fr with todo := k } cs w) := step_lone_go (by simp [stepG, stepG.exec, hm, ht])
theorem st_opSkip {ops : Array Oper} {i : Nat} {rest : List Nat} (hm : fr.mode = .run) (ht : fr.todo = .inRegion ops (i :: rest) :: k) (h : ((ops[i]?).map (Region.wanted · (yielded ops fr.tmps))).getD false = false) :
    step P (lone fr cs w) = .next (lone (fr.finish undef) cs w) := step_lone_go (by simp [stepG, stepG.exec, hm, ht, h])
theorem st_ret (hm : fr.mode = .run) (ht : fr.todo = .code .ret :: k) (hr : fr.roundOf = none) : step P (lone fr cs w) = .next (lone { fr with mode := .returning } cs w) := step_lone_go (by simp [stepG, stepG.exec, hm, ht, hr])
theorem st_end (hm : fr.mode = .run) (ht : fr.todo = []) (hr : fr.roundOf = none) : step P (lone fr cs w) = .next (lone { fr with mode := .returning } cs w) := step_lone_go (by simp [stepG, stepG.exec, hm, ht, hr])

theorem apply_value {s : Sem Next} {v : Value} {w' : World} (h : s.run P w = .ok (.value v) w') : (stepG.apply P true fr cs none s w).bare = .go { frame := fr.finish v, callers := cs, status := .running, dying := none } w' := by simp [stepG.apply, h]
theorem apply_skip {s : Sem Next} {w' : World} (h : s.run P w = .ok .skip w') : (stepG.apply P true fr cs none s w).bare = .go { frame := fr.finish undef, callers := cs, status := .running, dying := none } w' := by simp [stepG.apply, h]
theorem apply_defer {s : Sem Next} {d : Deferred} {w' : World} (h : s.run P w = .ok (.defer d) w') : (stepG.apply P true fr cs none s w).bare = .go { frame := { fr with defers := d :: fr.defers }.finish undef, callers := cs, status := .running, dying := none } w' := by simp [stepG.apply, h]
theorem apply_enter {s : Sem Next} {f : FuncId} {args : Array Value} {w' : World} (hk : ∀ d wr re sa k, fr.todo ≠ .call d wr re sa :: k) (h : s.run P w = .ok (.enter f args) w') :
    (stepG.apply P true fr cs none s w).bare = .go { frame := Frame.enter P f args .normal, callers := fr :: cs, status := .running, dying := none } w' := by
  simp only [stepG.apply, Sem.runT_eq, h, if_true, GStep.bare_after]
  split
  · rename_i d re sa k heq; exact absurd heq (hk _ _ _ _ _)
  · rfl
theorem apply_round {s : Sem Next} {l : Nat} {f : FuncId} {tmps : Array Value} {asg body : Code} {w' : World} (h : s.run P w = .ok (.round l f tmps asg body) w') :
    (stepG.apply P true fr cs none s w).bare = .go { frame := Frame.round l f tmps asg body .normal, callers := fr :: cs, status := .running, dying := none } w' := by simp [stepG.apply, h]

theorem st_op {ops : Array Oper} {i : Nat} {rest : List Nat} {o : Oper} (hm : fr.mode = .run) (ht : fr.todo = .inRegion ops (i :: rest) :: k) (ho : ops[i]? = some o) (hw : Region.wanted o (yielded ops fr.tmps) = true) (hd : fr.roundOf = none ∨ ∀ c, o.op ≠ .defer c) :
    stepG P true { frame := fr, callers := cs, status := .running, dying := none } w = stepG.apply P true fr cs none (execOp fr.eval o) w := by
  have e : fr.oper? = some o := by simp [Frame.oper?, ht, ho]
  simp only [stepG, hm, stepG.exec, ht, ho, Option.map_some, Option.getD_some, hw, if_true, stepG.oper, e]
  split
  · rename_i l c h1 h2
    rcases hd with hd | hd
    · rw [hd] at h1; cases h1
    · exact absurd h2 (hd c)
  · rfl

end steps
end
end Go.Ev
