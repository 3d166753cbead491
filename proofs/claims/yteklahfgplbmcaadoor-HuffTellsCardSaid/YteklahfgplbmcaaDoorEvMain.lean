/- What a run comes to. -/
import Derived.Test.YteklahfgplbmcaaDoorEvSound3
namespace Go.Ev
section
variable {P : Program} {E : Env P}

theorem step_ok {σ : Sig} {s s' : AM} {bot : List Frame} {fr : Frame} {cs : List Frame} {w : World} (m : MRel E σ s bot fr cs w) (h : s.step E = some s') : Goes E σ s s' bot fr cs w := by
  unfold AM.step at h
  cases hret : s.cur.ret with
  | true => rw [hret] at h; exact unwind_ok m hret h
  | false =>
    rw [hret] at h
    have hm := m.run hret
    simp only at h
    have htodo := m.cur.todo
    cases ht : s.cur.todo with
    | nil =>
      rw [ht] at h htodo
      have htf := all2_nil htodo
      refine leave_ok m (fun hr _ => st_end hm htf hr) (fun b u w' hb hrun => ?_) h
      simp [stepG, stepG.exec, hm, htf, hb, hrun]
    | cons i k =>
      rw [ht] at h htodo
      obtain ⟨it, items, htf, hit, hitems⟩ := all2_cons htodo
      have go : ∀ {todo : List AItem} {items' : List Item}, step P (lone fr cs w) = .next (lone { fr with todo := items' } cs w) → all2 (IRel σ) todo items' → some (s.to todo) = some s' → Goes E σ s s' bot fr cs w := by
        intro todo items' hs hi he
        simp only [Option.some.injEq] at he
        subst he
        exact Goes.of_step hs (m.to hi) (Way.refl m.heap)
      cases i with
      | code c =>
        cases it <;> simp only [IRel] at hit
        subst hit
        exact code_ok m hret htf hitems h
      | inBlock id =>
        cases it <;> simp only [IRel] at hit
        exact go (todo := k) (st_inBlock hm htf) hitems h
      | inScope c =>
        cases it <;> simp only [IRel] at hit
        exact go (todo := k) (st_inScope hm htf) hitems h
      | inLoop c =>
        cases it <;> simp only [IRel] at hit
        subst hit
        exact go (todo := .code c :: .inLoop c :: k) (st_inLoop hm htf) ⟨rfl, rfl, hitems⟩ h
      | ops all rest =>
        have hs : s = { cur := { s.cur with tmps := s.cur.tmps, todo := .ops all rest :: k }, stack := s.stack, heap := s.heap, next := s.next } := by
          obtain ⟨⟨c1, c2, c3, c4, c5, c6, c7⟩, c8, c9, c10⟩ := s
          simp only at ht
          subst ht
          rfl
        simp only at h
        split at h <;> first | (cases h; done) | skip
        · rename_i tm h1 nx hops
          simp only [Option.some.injEq] at h
          subst h
          rw [hs] at m ⊢
          refine (opsA_goes hret rest _ _ _ hops σ bot fr cs w m).trans (fun σ' fr' cs' w' m' => ?_)
          obtain ⟨it', items', ht', hit', hitems'⟩ := all2_cons m'.cur.todo
          obtain ⟨ops, kk, rfl, ha, hr⟩ := ops_item hit'
          rw [ops_nil ha hr] at ht'
          exact Goes.of_step (st_regionEnd (m'.run hret) ht') (m'.to hitems') (Way.refl m'.heap)
        · rename_i tm h1 nx o rest' hops
          rw [hs] at m ⊢
          refine (opsA_goes hret rest _ _ _ hops σ bot fr cs w m).trans (fun σ' fr' cs' w' m' => ?_)
          exact op_ok (s := { cur := { s.cur with tmps := tm }, stack := s.stack, heap := h1, next := nx }) hret m' h
      | start =>
        cases it <;> simp only [IRel] at hit
        simp only at h
        split at h <;> first | (cases h; done) | skip
        rename_i l hrd
        have hround := m.cur.round
        rw [hrd] at hround
        obtain ⟨b0, N0, hl0, hfr⟩ := hround
        split at h <;> first | (cases h; done) | skip
        rename_i pe fn tmps ps asg body dfr hget
        split at h <;> first | (cases h; done) | skip
        rename_i h' hset
        simp only [Option.some.injEq] at h
        subst h
        obtain ⟨b, N, vs, D, e1, e2, e3, e4⟩ := loop_obj m.heap hget
        rw [hl0] at e1
        simp only [Option.some.injEq, Prod.mk.injEq] at e1
        obtain ⟨rfl, rfl⟩ := e1
        have hrun : (Instr.beginRound b0).run P w = .ok () (World.setO w b0 (.loop { state := .busy, pending := pe, fn, tmps := vs.toArray, params := ps, assign := asg, body, defers := D.1 })) := by
          simp only [Instr.beginRound, Sem.run_bind, run_getLoop e4, Result.andThen_ok, run_setObj e4, Sem.run_pure]
        have hway := Way.setO (w := w) m.heap hget rfl hl0 hset (HRel.lt e4) (c := .loop { state := .busy, pending := pe, fn, tmps := vs.toArray, params := ps, assign := asg, body, defers := D.1 }) (fun _ => ⟨vs, D, e2, e3, rfl⟩)
        have hfin : fr.finish undef = { fr with todo := items } := by unfold Frame.finish; rw [htf]
        have hstep : step P (lone fr cs w) = .next (lone { fr with todo := items } cs (World.setO w b0 (.loop { state := .busy, pending := pe, fn, tmps := vs.toArray, params := ps, assign := asg, body, defers := D.1 }))) := by
          refine step_lone_go ?_
          have hb : ∃ sm : Sem Next, stepG P true { frame := fr, callers := cs, status := .running, dying := none } w = stepG.apply P true fr cs none sm w ∧ sm.run P w = .ok .skip (World.setO w b0 (.loop { state := .busy, pending := pe, fn, tmps := vs.toArray, params := ps, assign := asg, body, defers := D.1 })) := by
            refine ⟨_, by simp only [stepG, stepG.exec, hm, htf]; rfl, ?_⟩
            simp [hfr, hrun]
          obtain ⟨sm, hb1, hb2⟩ := hb
          rw [hb1, ← hfin]
          exact apply_skip hb2
        exact Goes.of_step hstep ((m.to hitems).with hway) hway
      | inRange l => cases h
      | endRange l =>
        cases it <;> simp only [IRel] at hit
        rename_i b0
        obtain ⟨N0, hl0⟩ := hit
        simp only at h
        split at h <;> first | (cases h; done) | skip
        rename_i st pe fn tmps ps asg body dfr hget
        have main : st ≠ .busy → (match s.heap.set l .dead with | some h' => some { s with cur := { s.cur with todo := pend pe k }, heap := h' } | none => none) = some s' → Goes E σ s s' bot fr cs w := by
          intro hst h
          split at h <;> first | (cases h; done) | skip
          rename_i h' hset
          simp only [Option.some.injEq] at h
          subst h
          obtain ⟨b, N, vs, D, e1, e2, e3, e4⟩ := loop_obj m.heap hget
          rw [hl0] at e1
          simp only [Option.some.injEq, Prod.mk.injEq] at e1
          obtain ⟨rfl, rfl⟩ := e1
          have hb : (st == LoopState.busy) = false := by cases st <;> first | rfl | exact absurd rfl hst
          have hrun : (Instr.endLoop b0).run P w = .ok pe (World.setO w b0 (.loop { state := .exhausted, pending := pe, fn, tmps := vs.toArray, params := ps, assign := asg, body, defers := D.1 })) := by
            simp only [Instr.endLoop, Sem.run_bind, run_getLoop e4, Result.andThen_ok, hb, Bool.false_eq_true, if_false, run_setObj e4, Sem.run_pure]
          have hway := Way.setO (w := w) m.heap hget rfl hl0 hset (HRel.lt e4) (c := .loop { state := .exhausted, pending := pe, fn, tmps := vs.toArray, params := ps, assign := asg, body, defers := D.1 }) (fun ha => by cases ha)
          have hstep : step P (lone fr cs w) = .next (lone { fr with todo := (pe.map Item.code).toList ++ items } cs (World.setO w b0 (.loop { state := .exhausted, pending := pe, fn, tmps := vs.toArray, params := ps, assign := asg, body, defers := D.1 }))) := by
            refine step_lone_go ?_
            simp [stepG, stepG.exec, hm, htf, hrun]
          refine Goes.of_step hstep ((m.to (todo := pend pe k) (items := (pe.map Item.code).toList ++ items) ?_).with hway) hway
          cases pe with
          | none => exact hitems
          | some c => exact ⟨rfl, hitems⟩
        cases st with
        | busy => cases h
        | ready => exact main (by simp) h
        | done => exact main (by simp) h
        | exhausted => exact main (by simp) h

theorem run_ok : ∀ (n : Nat) {s s' : AM}, AM.run E n s = some s' → ∀ σ bot fr cs w, MRel E σ s bot fr cs w → Goes E σ s s' bot fr cs w
  | 0, s, s', h, σ, bot, fr, cs, w, m => by
    unfold AM.run at h
    split at h
    · simp only [Option.some.injEq] at h
      subst h
      exact ⟨σ, fr, cs, w, Steps.refl _ _, m, Way.refl m.heap⟩
    · exact step_ok m h
  | n + 1, s, s', h, σ, bot, fr, cs, w, m => by
    unfold AM.run at h
    split at h <;> first | (cases h; done) | skip
    rename_i s1 h1
    split at h
    · simp only [Option.some.injEq] at h
      subst h
      exact run_ok n h1 σ bot fr cs w m
    · exact (run_ok n h1 σ bot fr cs w m).trans (fun σ' fr' cs' w' m' => run_ok n h σ' bot fr' cs' w' m')

variable (E)

/-- A call, run: its result, and the memory behind it. -/
def callA (n : Nat) (h : Tr AObj) (nx : Nat) (f : Nat) (args : List RV) : Option (RV × Tr AObj × Nat) :=
  match E.func f with
  | some fn => (match enterF f fn args false with
    | some a => (match AM.run E n { cur := a, stack := [], heap := h, next := nx } with
      | some s => (match s.final with
        | true => (match Nat.beq s.cur.fn f with
          | true => (match resultA E s with | some v => some (v, s.heap, s.next) | none => none)
          | false => none)
        | false => none)
      | none => none)
    | none => none)
  | none => none

variable {E}

theorem callA_ok {n : Nat} {h h' : Tr AObj} {nx nx' f : Nat} {args : List RV} {v : RV} (hc : callA E n h nx f args = some (v, h', nx')) {σ : Sig} {w : World} (r : HRel σ h w.heap) (g : GOk E σ) {vs : List Value} (hd : denL σ args = some vs) :
    Calls P f vs.toArray w fun e w' => ∃ σ' u, e = .returned u ∧ den σ' v = some u ∧ Way σ h w σ' h' w' := by
  unfold callA at hc
  split at hc <;> first | (cases hc; done) | skip
  rename_i fn hfn
  split at hc <;> first | (cases hc; done) | skip
  rename_i a hen
  split at hc <;> first | (cases hc; done) | skip
  rename_i s hrun
  split at hc <;> first | (cases hc; done) | skip
  rename_i hfin
  split at hc <;> first | (cases hc; done) | skip
  rename_i hfnf
  split at hc <;> first | (cases hc; done) | skip
  rename_i v' hv
  simp only [Option.some.injEq, Prod.mk.injEq] at hc
  obtain ⟨rfl, rfl, rfl⟩ := hc
  intro cs
  have m : MRel E σ { cur := a, stack := [], heap := h, next := nx } cs (Frame.enter P f vs.toArray .normal) cs w := ⟨enterF_ok hfn hd hen, ⟨[], rfl, trivial⟩, r, g⟩
  obtain ⟨σ', fr', cs', w', h1, m', hway⟩ := run_ok n hrun σ cs _ cs w m
  obtain ⟨fn', u, r1, r2, r3⟩ := result_ok m' hv
  unfold AM.final at hfin
  split at hfin <;> first | (cases hfin; done) | skip
  rename_i hret hst hdef hdfr
  obtain ⟨frs, hf1, hf2⟩ := m'.stack
  rw [hst] at hf2
  have := all2_nil hf2
  subst this
  have hcs : cs' = cs := by simpa using hf1
  subst hcs
  have hdd := m'.cur.defers
  rw [hdef] at hdd
  have hdd := all2_nil hdd
  have hmode : fr'.mode = .returning := by rw [m'.cur.mode, hret]; rfl
  have hkind : fr'.kind = .normal := by rw [m'.cur.kind, hdfr]; rfl
  exact ⟨.returned u, w', fr', ⟨σ', u, rfl, r2, hway⟩, h1, m'.cur.fn.trans (Nat.eq_of_beq_eq_true hfnf), hmode, hdd, hkind, fn', r1, r3⟩

end
end Go.Ev
