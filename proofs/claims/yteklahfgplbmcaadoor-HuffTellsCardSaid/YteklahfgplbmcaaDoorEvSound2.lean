/- The machine's steps are the model's: calls, returns, ranges over functions. -/
import Derived.Test.YteklahfgplbmcaaDoorEvSound
namespace Go.Ev
section
variable {P : Program} {E : Env P}

theorem ret_next {fr c : Frame} {rest : List Frame} {w : World} {v : Value} (hk : fr.kind = .normal) : (doReturn P true fr (c :: rest) none v w).bare = .go { frame := c.finish v, callers := rest, status := .running, dying := none } w := by
  simp [doReturn, hk]

theorem ret_dfr {fr c : Frame} {rest : List Frame} {w : World} {v : Value} (hk : fr.kind = .deferred) (hc : ∀ chain, c.mode ≠ .panicking chain) : (doReturn P true fr (c :: rest) none v w).bare = .go { frame := c, callers := rest, status := .running, dying := none } w := by
  unfold doReturn
  rw [hk]
  obtain ⟨fn, tmps, todo, defers, mode, kind, ro⟩ := c
  cases mode with
  | run => rfl
  | returning => rfl
  | panicking chain => exact absurd rfl (hc chain)

theorem mode_ok {σ : Sig} {a : AFrame} {fr : Frame} (r : FRel σ a fr) : ∀ chain, fr.mode ≠ .panicking chain := by
  intro chain h
  have := r.mode
  rw [h] at this
  by_cases hr : a.ret = true <;> simp [hr] at this

/-- Back to the caller. -/
theorem back_ok {σ : Sig} {s s' : AM} {bot : List Frame} {fr : Frame} {cs : List Frame} {w : World} {v : RV} {u : Value} (m : MRel E σ s bot fr cs w) (hv : den σ v = some u) (h : s.back v = some s') :
    ∃ fr' cs', (doReturn P true fr cs none u w).bare = .go { frame := fr', callers := cs', status := .running, dying := none } w ∧ MRel E σ s' bot fr' cs' w ∧ s'.heap = s.heap := by
  unfold AM.back at h
  obtain ⟨frs, h1, h2⟩ := m.stack
  split at h <;> first | (cases h; done) | skip
  rename_i c rest hst
  rw [hst] at h2
  obtain ⟨cf, frs', rfl, hc, hr⟩ := all2_cons h2
  subst h1
  split at h
  · rename_i hdf
    simp only [Option.some.injEq] at h
    subst h
    have hk : fr.kind = .normal := by rw [m.cur.kind, hdf]; rfl
    exact ⟨_, _, ret_next hk, ⟨finish_ok hc hv, ⟨frs', rfl, hr⟩, m.heap, m.gl⟩, rfl⟩
  · rename_i hdf
    simp only [Option.some.injEq] at h
    subst h
    have hk : fr.kind = .deferred := by rw [m.cur.kind, hdf]; rfl
    exact ⟨_, _, ret_dfr hk (mode_ok hc), ⟨hc, ⟨frs', rfl, hr⟩, m.heap, m.gl⟩, rfl⟩

theorem loop_obj {σ : Sig} {h : Tr AObj} {w : World} (r : HRel σ h w.heap) {l : Nat} {st : LoopState} {pe : Option Code} {fn : Nat} {tmps : List RV} {ps : Array Tmp} {asg body : Code} {dfr : Nat} (hg : h.get l = some (.loop st pe fn tmps ps asg body dfr)) :
    ∃ b N vs D, σ l = some (b, N) ∧ denL σ tmps = some vs ∧ σ dfr = some D ∧ w.heap[b]? = some (.loop { state := st, pending := pe, fn, tmps := vs.toArray, params := ps, assign := asg, body, defers := D.1 }) := by
  obtain ⟨b, N, c, h1, h2, h3⟩ := r.obj l _ hg rfl
  cases c <;> simp only [ORel] at h3
  obtain ⟨vs, D, e1, e2, e3⟩ := h3
  subst e3
  exact ⟨b, N, vs, D, h1, e1, e2, h2⟩

theorem run_getLoop {w : World} {b : Nat} {l : Loop} (h : w.heap[b]? = some (.loop l)) : (Instr.getLoop b).run P w = .ok l w := by
  simp [Instr.getLoop, getObj, Sem.run, h]

def World.setO (w : World) (b : Nat) (o : Obj) : World := { w with heap := w.heap.setIfInBounds b o }

theorem run_setObj {w : World} {b : Nat} {l : Loop} {o : Obj} (h : w.heap[b]? = some (.loop l)) : (setObj b o).run P w = .ok () (World.setO w b o) := by
  simp [setObj, Sem.run, h, World.setO]

theorem Way.setO {σ : Sig} {h h' : Tr AObj} {w : World} (r : HRel σ h w.heap) {id : Nat} {o o' : AObj} {b N : Nat} {c : Obj} (hid : h.get id = some o) (hm : o.mine = true) (hb : σ id = some (b, N)) (hs : h.set id o' = some h') (hlt : b < w.heap.size) (ho : o'.alive = true → ORel σ N o' c) :
    Way σ h w σ h' (World.setO w b c) :=
  Way.change r hid hm hb hs rfl rfl rfl (by simp [World.setO]) (fun k hk => by simp [World.setO, Array.getElem?_setIfInBounds_ne (Ne.symm hk)]) (fun ha => ⟨by simp [World.setO, hlt], ho ha⟩)

theorem MRel.with {σ σ' : Sig} {s : AM} {bot : List Frame} {fr : Frame} {cs : List Frame} {w w' : World} (m : MRel E σ s bot fr cs w) {h' : Tr AObj} (a : Way σ s.heap w σ' h' w') : MRel E σ' { s with heap := h' } bot fr cs w' := by
  obtain ⟨frs, h1, h2⟩ := m.stack
  exact ⟨m.cur.mono a.le, ⟨frs, h1, all2_mono (fun _ _ r => r.mono a.le) _ _ h2⟩, a.rel, m.gl.mono E a.le⟩

theorem leave_ok {σ : Sig} {s s' : AM} {bot : List Frame} {fr : Frame} {cs : List Frame} {w : World} (m : MRel E σ s bot fr cs w) {jump : Option Code}
    (hn : fr.roundOf = none → (jump = none ∨ jump = some .ret) → step P (lone fr cs w) = .next (lone { fr with mode := .returning } cs w))
    (hr : ∀ b u w', fr.roundOf = some b → (Instr.endRound b jump).run P w = .ok u w' → (stepG P true { frame := fr, callers := cs, status := .running, dying := none } w).bare = (doReturn P true fr cs none u w').bare)
    (h : s.leave jump = some s') : Goes E σ s s' bot fr cs w := by
  unfold AM.leave at h
  have hround := m.cur.round
  split at h
  · rename_i hrd
    rw [hrd] at hround
    have fin : (jump = none ∨ jump = some .ret) → some { s with cur := { s.cur with ret := true } } = some s' → Goes E σ s s' bot fr cs w := by
      intro hj he
      simp only [Option.some.injEq] at he
      subst he
      exact Goes.of_step (hn hround hj) ⟨⟨m.cur.fn, m.cur.tmps, m.cur.todo, m.cur.defers, rfl, m.cur.kind, m.cur.round⟩, m.stack, m.heap, m.gl⟩ (Way.refl m.heap)
    split at h
    · exact fin (.inl rfl) h
    · exact fin (.inr rfl) h
    · cases h
  · rename_i l hrd
    rw [hrd] at hround
    obtain ⟨b0, N0, hl0, hfr⟩ := hround
    split at h <;> first | (cases h; done) | skip
    rename_i st pe fn tmps ps asg body dfr hget
    split at h <;> first | (cases h; done) | skip
    rename_i h' hset
    obtain ⟨b, N, vs, D, e1, e2, e3, e4⟩ := loop_obj m.heap hget
    rw [hl0] at e1
    simp only [Option.some.injEq, Prod.mk.injEq] at e1
    obtain ⟨rfl, rfl⟩ := e1
    have hrun : (Instr.endRound b0 jump).run P w = .ok (.bool jump.isNone) (World.setO w b0 (.loop { state := if jump.isNone then .ready else .done, pending := jump, fn, tmps := vs.toArray, params := ps, assign := asg, body, defers := D.1 })) := by
      simp only [Instr.endRound, Sem.run_bind, run_getLoop e4, Result.andThen_ok, run_setObj e4, Sem.run_pure]
    have hway := Way.setO (w := w) m.heap hget rfl hl0 hset (HRel.lt e4) (c := .loop { state := if jump.isNone then .ready else .done, pending := jump, fn, tmps := vs.toArray, params := ps, assign := asg, body, defers := D.1 })
      (fun _ => ⟨vs, D, e2, e3, by cases jump <;> rfl⟩)
    have hm := m.with hway
    obtain ⟨fr', cs', k1, k2, k3⟩ := back_ok (u := .bool jump.isNone) hm rfl h
    have hs := hr b0 _ _ hfr hrun
    exact Goes.of_step (step_lone_go (by rw [hs]; exact k1)) k2 (by rw [k3]; exact hway)

theorem exitTo_ok {σ : Sig} {id : Nat} : ∀ {k : List AItem} {items : List Item}, all2 (IRel σ) k items →
    (∀ k', exitToA id k = some k' → ∃ items', exitTo id items = some items' ∧ all2 (IRel σ) k' items') ∧ (exitToA id k = none → exitTo id items = none)
  | [], items, h => by rw [all2_nil h]; exact ⟨fun _ h => (by cases h), fun _ => rfl⟩
  | a :: k, items, h => by
    obtain ⟨it, items', rfl, h1, h2⟩ := all2_cons h
    have ih := exitTo_ok (id := id) h2
    cases a <;> cases it <;> simp only [IRel] at h1
    case inBlock.inBlock i j =>
      subst h1
      simp only [exitToA, exitTo]
      cases hb : Nat.beq i id with
      | true =>
        have : i = id := Nat.eq_of_beq_eq_true hb
        subst this
        simp only [beq_self_eq_true, if_true]
        exact ⟨fun k' hk => by simp only [Option.some.injEq] at hk; subst hk; exact ⟨_, rfl, h2⟩, fun h => by cases h⟩
      | false =>
        have : i ≠ id := fun e => by subst e; simp at hb
        simp only [beq_iff_eq, this, if_false]
        exact ih
    all_goals exact ih

theorem gotoIn_ok {σ : Sig} {l : Nat} : ∀ {k : List AItem} {items : List Item}, all2 (IRel σ) k items →
    (∀ k', gotoInA l k = some k' → ∃ items', gotoIn l items = some items' ∧ all2 (IRel σ) k' items') ∧ (gotoInA l k = none → gotoIn l items = none)
  | [], items, h => by rw [all2_nil h]; exact ⟨fun _ h => (by cases h), fun _ => rfl⟩
  | a :: k, items, h => by
    obtain ⟨it, items', rfl, h1, h2⟩ := all2_cons h
    have ih := gotoIn_ok (l := l) h2
    cases a <;> cases it <;> simp only [IRel] at h1
    case inScope.inScope i j =>
      subst h1
      simp only [gotoInA, gotoIn]
      cases hf : findLabel i l with
      | some rest => exact ⟨fun k' hk => by simp only [Option.some.injEq] at hk; subst hk; exact ⟨_, rfl, rfl, rfl, h2⟩, fun h => by cases h⟩
      | none => exact ih
    all_goals exact ih

theorem cond_ok {σ : Sig} {s : AM} {bot : List Frame} {fr : Frame} {cs : List Frame} {w : World} (m : MRel E σ s bot fr cs w) {c : Operand} {t : Bool} (h : ev E s.cur.tmps c = some (.bool t)) : fr.eval c = .bool t := by
  have := m.cur.ev m.gl c _ h
  simp only [den, Option.some.injEq] at this
  exact this.symm

theorem all2_one {α β : Type} {R : α → β → Prop} {a : α} {b : β} {l : List α} {m : List β} (h1 : R a b) (h2 : all2 R l m) : all2 R (a :: l) (b :: m) := ⟨h1, h2⟩

theorem rangeF_ok {σ : Sig} {s s' : AM} {bot : List Frame} {fr : Frame} {cs : List Frame} {w : World} (m : MRel E σ s bot fr cs w) (hret : s.cur.ret = false) {f : Operand} {ps : Array Tmp} {asg body : Code} {k : List AItem} {items : List Item} (ht : fr.todo = .code (.rangeFunc f ps asg body) :: items) (hk : all2 (IRel σ) k items)
    (h : s.rangeF E f ps asg body k = some s') : Goes E σ s s' bot fr cs w := by
  have hmode := m.run hret
  unfold AM.rangeF at h
  split at h <;> first | (cases h; done) | skip
  rename_i g first captured hf
  obtain ⟨vf, vc, f1, f2, f3⟩ := fn_den (m.cur.ev m.gl f _ hf)
  split at h <;> first | (cases h; done) | skip
  rename_i fn hfn
  obtain ⟨_, _, hcall⟩ := E.func_ok g fn hfn
  have hround := m.cur.round
  -- the call of the function that ranges
  have call : ∀ (L : Nat) (dd : List Deferred) (w1 : World), (Instr.enterLoop fr.fn fr.tmps ps asg body fr.roundOf).run P w = .ok (L, dd) w1 →
      step P (lone fr cs w) = .next (lone (Frame.enter P g (vf ++ [Value.func (.yield L) #[] #[]] ++ vc).toArray .normal) ({ fr with todo := .inRangeFunc L :: items, defers := dd ++ fr.defers } :: cs) w1) := by
    intro L dd w1 hrun
    have hb : (stepG P true { frame := fr, callers := cs, status := .running, dying := none } w).bare = (stepG.apply P true { fr with todo := .inRangeFunc L :: items, defers := dd ++ fr.defers } cs none (do let d ← resolve ({ fr with todo := .inRangeFunc L :: items, defers := dd ++ fr.defers } : Frame).eval { callee := .value f, args := #[.const (.func (.yield L) #[] #[])], argTypes := #[] } 0; invoke d.target d.args) w1).bare := by
      simp [stepG, hmode, stepG.exec, ht, hrun]
    refine step_lone_go ?_
    rw [hb]
    refine apply_enter (by simp) ?_
    have he : ({ fr with todo := .inRangeFunc L :: items, defers := dd ++ fr.defers } : Frame).eval f = fr.eval f := by rw [fr_eval, fr_eval]
    have hc : ({ fr with todo := .inRangeFunc L :: items, defers := dd ++ fr.defers } : Frame).eval (.const (.func (.yield L) #[] #[])) = .func (.yield L) #[] #[] := rfl
    simp only [Sem.run_bind, resolve, he, f3, Deferred.ofValue, Sem.run_pure, Result.andThen_ok, invoke, hcall]
    congr 2
    apply Array.ext'
    simp [hc]
  split at h
  · rename_i hrd
    rw [hrd] at hround
    split at h <;> first | (cases h; done) | skip
    rename_i hg1
    split at h <;> first | (cases h; done) | skip
    rename_i h1 hs1
    split at h <;> first | (cases h; done) | skip
    rename_i hg2
    split at h <;> first | (cases h; done) | skip
    rename_i h2 hs2
    split at h <;> first | (cases h; done) | skip
    rename_i a ha
    simp only [Option.some.injEq] at h
    subst h
    have w1 := Way.alloc (c := .deferred (some [])) m.heap 0 hg1 hs1 (fun _ => rfl)
    have e1 : (σ.ext s.next (w.heap.size, 0)) s.next = some (w.heap.size, 0) := Sig.ext_same _ _ _
    have hle1 : (σ.ext s.next (w.heap.size, 0)).le ((σ.ext s.next (w.heap.size, 0)).ext (s.next + 1) (w.heap.size + 1, 0)) := Sig.le_ext (w1.rel.dom _ hg2)
    have w2 := Way.alloc (σ := σ.ext s.next (w.heap.size, 0)) (w := w.alloc (.deferred (some []))) (c := .loop { state := .ready, pending := none, fn := s.cur.fn, tmps := fr.tmps.toList.toArray, params := ps, assign := asg, body, defers := w.heap.size }) w1.rel 0 hg2 hs2 (fun _ => by
      refine ⟨fr.tmps.toList, (w.heap.size, 0), ?_, ?_, rfl⟩
      · exact denL_mono (Sig.le_trans w1.le (by simpa using hle1)) _ _ m.cur.tmps
      · have := hle1 _ _ e1; simpa using this)
    have hrun : (Instr.enterLoop fr.fn fr.tmps ps asg body fr.roundOf).run P w = .ok (w.heap.size + 1, [{ target := .collected w.heap.size, args := #[] }]) ((w.alloc (.deferred (some []))).alloc (.loop { state := .ready, pending := none, fn := s.cur.fn, tmps := fr.tmps.toList.toArray, params := ps, assign := asg, body, defers := w.heap.size })) := by
      simp [Instr.enterLoop, hround, m.cur.fn]
    have hway := w1.trans w2
    simp only [World.size_alloc] at hway w2
    have hstep := call _ _ _ hrun
    have c := m.cur.mono hway.le
    obtain ⟨frs, hf1, hf2⟩ := m.stack
    have hy : ((σ.ext s.next (w.heap.size, 0)).ext (s.next + 1) (w.heap.size + 1, 0)) (s.next + 1) = some (w.heap.size + 1, 0) := Sig.ext_same _ _ _
    have hargs : denL ((σ.ext s.next (w.heap.size, 0)).ext (s.next + 1) (w.heap.size + 1, 0)) (first ++ [.yield (s.next + 1)] ++ captured) = some (vf ++ [Value.func (.yield (w.heap.size + 1)) #[] #[]] ++ vc) :=
      denL_append (denL_append (denL_mono hway.le _ _ f1) (by simp [denL, den, hy])) (denL_mono hway.le _ _ f2)
    refine Goes.of_step hstep ⟨enterF_ok hfn hargs ha, ⟨_ :: frs, by rw [hf1]; rfl, ?_, all2_mono (fun _ _ r => r.mono hway.le) _ _ hf2⟩, hway.rel, m.gl.mono E hway.le⟩ hway
    exact ⟨c.fn, c.tmps, all2_one ⟨0, hy⟩ (all2_mono (IRel_mono hway.le) _ _ hk), all2_one ⟨_, _, hle1 _ _ e1, rfl⟩ c.defers, c.mode, c.kind, c.round⟩
  · rename_i l hrd
    rw [hrd] at hround
    obtain ⟨b0, N0, hl0, hfr⟩ := hround
    split at h <;> first | (cases h; done) | skip
    rename_i st pe lfn ltmps lps lasg lbody dfr hget
    split at h <;> first | (cases h; done) | skip
    rename_i hg1
    split at h <;> first | (cases h; done) | skip
    rename_i h2 hs2
    split at h <;> first | (cases h; done) | skip
    rename_i a ha
    simp only [Option.some.injEq] at h
    subst h
    obtain ⟨b, N, vs, D, e1, e2, e3, e4⟩ := loop_obj m.heap hget
    rw [hl0] at e1
    simp only [Option.some.injEq, Prod.mk.injEq] at e1
    obtain ⟨rfl, rfl⟩ := e1
    have hle1 : σ.le (σ.ext s.next (w.heap.size, 0)) := Sig.le_ext (m.heap.dom _ hg1)
    have hway := Way.alloc (c := .loop { state := .ready, pending := none, fn := s.cur.fn, tmps := fr.tmps.toList.toArray, params := ps, assign := asg, body, defers := D.1 }) m.heap 0 hg1 hs2 (fun _ => ⟨fr.tmps.toList, D, denL_mono hle1 _ _ m.cur.tmps, hle1 _ _ e3, rfl⟩)
    have hrun : (Instr.enterLoop fr.fn fr.tmps ps asg body fr.roundOf).run P w = .ok (w.heap.size, []) (w.alloc (.loop { state := .ready, pending := none, fn := s.cur.fn, tmps := fr.tmps.toList.toArray, params := ps, assign := asg, body, defers := D.1 })) := by
      simp [Instr.enterLoop, hfr, m.cur.fn, run_getLoop e4]
    have hstep := call _ _ _ hrun
    have c := m.cur.mono hway.le
    obtain ⟨frs, hf1, hf2⟩ := m.stack
    have hy : (σ.ext s.next (w.heap.size, 0)) s.next = some (w.heap.size, 0) := Sig.ext_same _ _ _
    have hargs : denL (σ.ext s.next (w.heap.size, 0)) (first ++ [.yield s.next] ++ captured) = some (vf ++ [Value.func (.yield w.heap.size) #[] #[]] ++ vc) :=
      denL_append (denL_append (denL_mono hway.le _ _ f1) (by simp [denL, den, hy])) (denL_mono hway.le _ _ f2)
    refine Goes.of_step hstep ⟨enterF_ok hfn hargs ha, ⟨_ :: frs, by rw [hf1]; rfl, ?_, all2_mono (fun _ _ r => r.mono hway.le) _ _ hf2⟩, hway.rel, m.gl.mono E hway.le⟩ hway
    exact ⟨c.fn, c.tmps, all2_one ⟨0, hy⟩ (all2_mono (IRel_mono hway.le) _ _ hk), c.defers, c.mode, c.kind, c.round⟩

end
end Go.Ev
