/- The machine's steps are the model's: all of them; and what a call comes to. -/
import Derived.Test.YteklahfgplbmcaaDoorEvSound2
import Derived.Test.YteklahfgplbmcaaDoorEvDrawD
namespace Go.Ev
section
variable {P : Program} {E : Env P}

theorem foldSet_ok {σ : Sig} : ∀ (ps : List Nat) (as tm : List RV) {vs : List Value} {tmps : Array Value}, as.length = ps.length → denL σ as = some vs → denL σ tm = some tmps.toList →
    denL σ (foldSet ps as tm) = some ((ps.zip vs).foldl (fun (t : Array Value) (x : Nat × Value) => t.setIfInBounds x.1 x.2) tmps).toList
  | [], [], tm, vs, tmps, _, h, ht => by cases h; exact ht
  | [], _ :: _, _, _, _, h, _, _ => by cases h
  | _ :: _, [], _, _, _, h, _, _ => by cases h
  | p :: ps, a :: as, tm, vs, tmps, hl, h, ht => by
    obtain ⟨v, vs', h1, h2, rfl⟩ := denL_cons h
    simp only [foldSet, List.zip_cons_cons, List.foldl_cons, putAt_eq]
    exact foldSet_ok ps as _ (by simpa using hl) h2 (by rw [denL_set p ht h1]; simp)

theorem op_ok {σ : Sig} {s s' : AM} {bot : List Frame} {fr : Frame} {cs : List Frame} {w : World} (hret : s.cur.ret = false) {all rest : List Oper} {o : Oper} {k : List AItem}
    (m : MRel E σ { s with cur := { s.cur with todo := .ops all (o :: rest) :: k } } bot fr cs w) (h : s.op E all o rest k = some s') :
    Goes E σ { s with cur := { s.cur with todo := .ops all (o :: rest) :: k } } s' bot fr cs w := by
  obtain ⟨it, items, ht, hit, hitems⟩ := all2_cons m.cur.todo
  obtain ⟨ops, kk, rfl, ha, hr⟩ := ops_item hit
  obtain ⟨hk, ho, hr', hd⟩ := ops_cons ha hr
  rw [hd] at ht
  have hm := m.run hret
  have hw := wanted_eq m.cur.tmps ops o
  rw [ha] at hw
  unfold AM.op at h
  cases hwa : wantedA all o s.cur.tmps with
  | false => rw [hwa] at h; cases h
  | true =>
    rw [hwa] at h
    have hw' : Region.wanted o (yielded ops fr.tmps) = true := by rw [hw]; exact hwa
    cases hop : aop E o s.cur.tmps s.heap s.next with
    | none => rw [hop] at h; cases h
    | some n =>
      rw [hop] at h
      have hok := aop_ok (P := P) (w := w) m.heap (m.cur.ev m.gl) hop
      cases n with
      | val => cases h
      | skip => cases h
      | enter f args =>
        simp only at h
        obtain ⟨vs, h1, h2⟩ := hok
        have nd : ∀ c, o.op ≠ .defer c := by
          intro c hc
          simp only [execOp, hc, Sem.run_bind] at h1
          cases hrs : (resolve fr.eval c o.type).run P w <;> rw [hrs] at h1 <;> simp at h1
        have hstep := step_lone_go (P := P) (cs := cs) (by rw [st_op hm ht ho hw' (.inr nd)]; exact apply_enter (by rw [ht]; simp) h1)
        split at h
        · split at h <;> first | (cases h; done) | skip
          rename_i v h' nx' hcl
          simp only [Option.some.injEq] at h
          subst h
          obtain ⟨e, w', fr2, ⟨σ', u, rfl, r2, r3⟩, hcomes, _, hleave⟩ := E.cl_ok hcl m.heap m.gl h2 (fr :: cs)
          obtain ⟨frs, hf1, hf2⟩ := m.stack
          exact ⟨σ', fr.finish u, cs, w', (Steps.one hstep).trans (Steps.trans hcomes (.one (step_leave_returned hleave))),
            ⟨finish_ok (m.cur.mono r3.le) r2, ⟨frs, hf1, all2_mono (fun _ _ r => r.mono r3.le) _ _ hf2⟩, r3.rel, m.gl.mono E r3.le⟩, r3⟩
        · split at h <;> first | (cases h; done) | skip
          rename_i fn hfn
          split at h <;> first | (cases h; done) | skip
          rename_i a hen
          simp only [Option.some.injEq] at h
          subst h
          exact Goes.of_step hstep (m.push (enterF_ok hfn h2 hen)) (Way.refl m.heap)
      | yield l args =>
        simp only at h
        split at h <;> first | (cases h; done) | skip
        rename_i st pe fn tmps ps asg body dfr hget
        split at h <;> first | (cases h; done) | skip
        rename_i hlen
        have hlen : args.length = ps.size := Nat.eq_of_beq_eq_true hlen
        simp only [Option.some.injEq] at h
        subst h
        obtain ⟨vs, p, h1, h2, h3⟩ := hok
        obtain ⟨b, N, tvs, D, e1, e2, e3, e4⟩ := loop_obj m.heap hget
        rw [h2] at e1
        simp only [Option.some.injEq] at e1
        subst e1
        have hvl := denL_length h1
        have hrun : (execOp fr.eval o).run P w = .ok (.round b fn ((ps.toList.zip vs).foldl (fun (t : Array Value) (x : Nat × Value) => t.setIfInBounds x.1 x.2) tvs.toArray) asg body) w := by
          rw [h3]
          have hz : vs.length = ps.size := by omega
          simp only [Instr.yield, Sem.run_bind, run_getLoop e4, Result.andThen_ok, List.size_toArray, hz, ne_eq, not_true_eq_false, if_false, Sem.run_pure]
          congr 2
          rw [← Array.foldl_toList]
          simp
        have nd : ∀ c, o.op ≠ .defer c := by
          intro c hc
          simp only [execOp, hc, Sem.run_bind] at hrun
          cases hrs : (resolve fr.eval c o.type).run P w <;> rw [hrs] at hrun <;> simp at hrun
        have hstep := step_lone_go (P := P) (cs := cs) (by rw [st_op hm ht ho hw' (.inr nd)]; exact apply_round hrun)
        refine Goes.of_step hstep (m.push ⟨rfl, ?_, ⟨rfl, trivial, rfl, trivial⟩, trivial, rfl, rfl, ⟨b, N, h2, rfl⟩⟩) (Way.refl m.heap)
        exact foldSet_ok ps.toList args tmps (by rw [hlen]; simp) h1 e2
      | defer f args cap =>
        simp only at h
        split at h <;> first | (cases h; done) | skip
        rename_i hrd
        simp only [Option.some.injEq] at h
        subst h
        obtain ⟨vs, cvs, h1, h2, h3⟩ := hok
        have hro : fr.roundOf = none := by have := m.cur.round; simp only at this; rw [hrd] at this; exact this
        have hstep := step_lone_go (P := P) (cs := cs) (by rw [st_op hm ht ho hw' (.inl hro)]; exact apply_defer h3)
        have hfin : ({ fr with defers := { target := .fn (.func f) cvs.toArray, args := vs.toArray } :: fr.defers } : Frame).finish undef = { fr with defers := { target := .fn (.func f) cvs.toArray, args := vs.toArray } :: fr.defers, tmps := (match o.dst with | some d => fr.tmps.setIfInBounds d undef | none => fr.tmps), todo := .inRegion ops ((List.range ops.size).drop (kk + 1)) :: items } :=
          finish_op (fr := { fr with defers := { target := .fn (.func f) cvs.toArray, args := vs.toArray } :: fr.defers }) ht ho undef
        rw [hfin] at hstep
        refine Goes.of_step hstep ⟨⟨m.cur.fn, denL_putO m.cur.tmps o.dst rfl, ⟨⟨ha, kk + 1, rfl, hr'⟩, hitems⟩, ⟨⟨vs, cvs, h1, h2, rfl⟩, m.cur.defers⟩, m.cur.mode, m.cur.kind, m.cur.round⟩, m.stack, m.heap, m.gl⟩ (Way.refl m.heap)

theorem code_ok {σ : Sig} {s s' : AM} {bot : List Frame} {fr : Frame} {cs : List Frame} {w : World} (m : MRel E σ s bot fr cs w) (hret : s.cur.ret = false) {c : Code} {k : List AItem} {items : List Item} (ht : fr.todo = .code c :: items) (hk : all2 (IRel σ) k items)
    (h : s.code E c k = some s') : Goes E σ s s' bot fr cs w := by
  have hm := m.run hret
  have go : ∀ {todo : List AItem} {items' : List Item}, step P (lone fr cs w) = .next (lone { fr with todo := items' } cs w) → all2 (IRel σ) todo items' → some (s.to todo) = some s' → Goes E σ s s' bot fr cs w := by
    intro todo items' hs hi he
    simp only [Option.some.injEq] at he
    subst he
    exact Goes.of_step hs (m.to hi) (Way.refl m.heap)
  have lv : ∀ {jump : Option Code}, (fr.roundOf = none → (jump = none ∨ jump = some .ret) → step P (lone fr cs w) = .next (lone { fr with mode := .returning } cs w)) →
      (∀ b u w', fr.roundOf = some b → (Instr.endRound b jump).run P w = .ok u w' → (stepG P true { frame := fr, callers := cs, status := .running, dying := none } w).bare = (doReturn P true fr cs none u w').bare) → s.leave jump = some s' → Goes E σ s s' bot fr cs w :=
    fun h1 h2 h3 => leave_ok m h1 h2 h3
  unfold AM.code at h
  cases c with
  | skip => exact go (st_skip hm ht) hk h
  | label l => exact go (st_label hm ht) hk h
  | seq a b => exact go (todo := .code a :: .code b :: k) (st_seq hm ht) ⟨rfl, rfl, hk⟩ h
  | cond c x y =>
    simp only at h
    split at h <;> first | (cases h; done) | skip
    rename_i t hc
    have he := cond_ok m hc
    cases t with
    | true => exact go (todo := .code x :: k) (st_cond hm ht he) ⟨rfl, hk⟩ h
    | false => exact go (todo := .code y :: k) (st_cond hm ht he) ⟨rfl, hk⟩ h
  | block id b => exact go (todo := .code b :: .inBlock id :: k) (st_block hm ht) ⟨rfl, rfl, hk⟩ h
  | loop b => exact go (todo := .code b :: .inLoop b :: k) (st_loop hm ht) ⟨rfl, rfl, hk⟩ h
  | scope b => exact go (todo := .code b :: .inScope b :: k) (st_scope hm ht) ⟨rfl, rfl, hk⟩ h
  | exit id =>
    simp only at h
    obtain ⟨x1, x2⟩ := exitTo_ok (id := id) hk
    cases hx : exitToA id k with
    | some k' =>
      rw [hx] at h
      obtain ⟨items', i1, i2⟩ := x1 k' hx
      exact go (st_exit hm ht i1) i2 h
    | none =>
      rw [hx] at h
      refine lv (fun _ hj => by rcases hj with hj | hj <;> cases hj) (fun b u w' hb hrun => ?_) h
      simp [stepG, stepG.exec, hm, ht, x2 hx, hb, hrun]
  | goto l =>
    simp only at h
    obtain ⟨x1, x2⟩ := gotoIn_ok (l := l) hk
    cases hx : gotoInA l k with
    | some k' =>
      rw [hx] at h
      obtain ⟨items', i1, i2⟩ := x1 k' hx
      exact go (st_goto hm ht i1) i2 h
    | none =>
      rw [hx] at h
      refine lv (fun _ hj => by rcases hj with hj | hj <;> cases hj) (fun b u w' hb hrun => ?_) h
      simp [stepG, stepG.exec, hm, ht, x2 hx, hb, hrun]
  | ret =>
    refine lv (fun hr _ => st_ret hm ht hr) (fun b u w' hb hrun => ?_) h
    simp [stepG, stepG.exec, hm, ht, hb, hrun]
  | region id ops draw =>
    simp only at h
    cases draw with
    | true => exact draw_ok m hret ht hk h
    | false => exact go (todo := .ops ops.toList ops.toList :: k) (st_region hm ht) ⟨⟨rfl, 0, by simp, by simp⟩, hk⟩ h
  | rangeFunc f ps asg body => exact rangeF_ok m hret ht hk h
  | refuse why => cases h

def resF (tmps : Array Value) : ResultVar → Sem Value
  | .tmp t => pure (tmps.getD t undef)
  | .cell a t => do loadVar t (← asAddr (tmps.getD a undef))

theorem results_ok {σ : Sig} {h : Tr AObj} {w : World} (r : HRel σ h w.heap) {tm : List RV} {tmps : Array Value} (ht : denL σ tm = some tmps.toList) : ∀ (l : List ResultVar) {m : List RV}, resultsA E h tm l = some m →
    ∃ vs, denL σ m = some vs ∧ (l.mapM (resF tmps)).run P w = .ok vs w
  | [], m, hm => by
    simp only [resultsA, Option.some.injEq] at hm
    subst hm
    exact ⟨[], rfl, rfl⟩
  | .tmp t :: l, m, hm => by
    simp only [resultsA] at hm
    cases hl : resultsA E h tm l with
    | none => rw [hl] at hm; cases hm
    | some m' =>
      rw [hl] at hm
      simp only [Option.some.injEq] at hm
      subst hm
      obtain ⟨vs, h1, h2⟩ := results_ok r ht l hl
      have e : den σ (match nth tm t with | some v => v | none => .tuple []) = some (tmps.getD t undef) := by
        rw [nth_eq, Array.getD_eq_getD_getElem?]
        cases hn : tm[t]? with
        | none => have := denL_get_none t ht hn; rw [Array.getElem?_toList] at this; rw [this]; rfl
        | some v => obtain ⟨u, hu, hx⟩ := denL_get t ht hn; rw [Array.getElem?_toList] at hu; rw [hu]; exact hx
      refine ⟨_, denL_cons_mk e h1, ?_⟩
      simp only [List.mapM_cons, resF, Sem.run_bind, Sem.run_pure, Result.andThen_ok, h2]
  | .cell a t :: l, m, hm => by
    simp only [resultsA] at hm
    split at hm <;> first | (cases hm; done) | skip
    rename_i id off hn
    split at hm <;> first | (cases hm; done) | skip
    rename_i v hv
    cases hl : resultsA E h tm l with
    | none => rw [hl] at hm; cases hm
    | some m' =>
      rw [hl] at hm
      simp only [Option.some.injEq] at hm
      subst hm
      obtain ⟨vs, h1, h2⟩ := results_ok r ht l hl
      rw [nth_eq] at hn
      obtain ⟨u, hu, hx⟩ := denL_get a ht hn
      rw [Array.getElem?_toList] at hu
      obtain ⟨b, N, e1, e2⟩ := ptr_den hx
      obtain ⟨x, x1, x2⟩ := loadA_ok E r e1 hv
      refine ⟨_, denL_cons_mk x1 h1, ?_⟩
      have eg : tmps.getD a undef = .pointer (some ⟨b, off, none⟩) := by rw [Array.getD_eq_getD_getElem?, hu, e2]; rfl
      simp only [List.mapM_cons, resF, Sem.run_bind, eg, asAddr, Sem.run_pure, Result.andThen_ok, x2, h2]

theorem result_ok {σ : Sig} {s : AM} {bot : List Frame} {fr : Frame} {cs : List Frame} {w : World} (m : MRel E σ s bot fr cs w) {v : RV} (h : resultA E s = some v) :
    ∃ fn u, P.funcs[fr.fn]? = some fn ∧ den σ v = some u ∧ (results fn fr.tmps).run P w = .ok u w := by
  unfold resultA at h
  split at h <;> first | (cases h; done) | skip
  rename_i fn hfn
  obtain ⟨h1, _, _⟩ := E.func_ok _ fn hfn
  rw [← m.cur.fn] at h1
  have key : ∀ l, resultsA E s.heap s.cur.tmps fn.results.toList = some l → ∃ vs, denL σ l = some vs ∧ (results fn fr.tmps).run P w = .ok (if h : vs.toArray.size = 1 then vs.toArray[0] else .tuple vs.toArray) w := by
    intro l hl
    obtain ⟨vs, k1, k2⟩ := results_ok (P := P) m.heap m.cur.tmps _ hl
    refine ⟨vs, k1, ?_⟩
    have hm : (fn.results.mapM (resF fr.tmps)).run P w = .ok vs.toArray w := by
      rw [← Array.toArray_toList (xs := fn.results), List.mapM_toArray]
      simp only [Sem.run_map, k2, Result.andThen_ok]
    have hf : (results fn fr.tmps) = (do let vs ← fn.results.mapM (resF fr.tmps); pure (if h : vs.size = 1 then vs[0] else .tuple vs)) := by
      unfold results
      congr 1
    rw [hf]
    simp only [Sem.run_bind]
    rw [hm]
    rfl
  split at h <;> first | (cases h; done) | skip
  · rename_i x hl
    simp only [Option.some.injEq] at h
    subst h
    obtain ⟨vs, k1, k2⟩ := key _ hl
    obtain ⟨u, vs', e1, e2, rfl⟩ := denL_cons k1
    cases e2
    exact ⟨fn, u, h1, e1, by rw [k2]; rfl⟩
  · rename_i l hne hl
    simp only [Option.some.injEq] at h
    subst h
    obtain ⟨vs, k1, k2⟩ := key _ hl
    refine ⟨fn, .tuple vs.toArray, h1, by simp [den, k1], ?_⟩
    rw [k2, dif_neg]
    intro hs
    have hlen := denL_length k1
    have : l.length = 1 := by simp at hs; omega
    match l, this with
    | [x], _ => exact hne x rfl

theorem unwind_ok {σ : Sig} {s s' : AM} {bot : List Frame} {fr : Frame} {cs : List Frame} {w : World} (m : MRel E σ s bot fr cs w) (hret : s.cur.ret = true) (h : s.unwind E = some s') : Goes E σ s s' bot fr cs w := by
  have hm : fr.mode = .returning := by rw [m.cur.mode, hret]; rfl
  have hx : stepG P true { frame := fr, callers := cs, status := .running, dying := none } w = unwind P true fr cs none w := by simp [stepG, hm]
  have hdef := m.cur.defers
  obtain ⟨frs, hf1, hf2⟩ := m.stack
  unfold AM.unwind at h
  split at h
  · rename_i b ds hds
    rw [hds] at hdef
    obtain ⟨d, dd, hfd, ⟨B, N, hB, hd⟩, hrest⟩ := all2_cons hdef
    subst hd
    split at h <;> first | (cases h; done) | skip
    rename_i hget
    split at h <;> first | (cases h; done) | skip
    rename_i h' hset
    simp only [Option.some.injEq] at h
    subst h
    obtain ⟨b', N', c, e1, e2, e3⟩ := m.heap.obj b _ hget rfl
    rw [hB] at e1
    simp only [Option.some.injEq, Prod.mk.injEq] at e1
    obtain ⟨rfl, rfl⟩ := e1
    cases c <;> simp only [ORel] at e3
    rename_i calls
    have e3 : calls = some [] := by simpa using e3
    subst e3
    have hrun : (Instr.takeDeferred B).run P w = .ok [] (World.setO w B (.deferred none)) := by
      simp [Instr.takeDeferred, getObj, setObj, Sem.run, e2, World.setO]
    have hway := Way.setO (w := w) m.heap hget rfl hB hset (HRel.lt e2) (c := .deferred none) (fun _ => rfl)
    have hstep : step P (lone fr cs w) = .next (lone { fr with defers := dd } cs (World.setO w B (.deferred none))) := by
      refine step_lone_go ?_
      rw [hx]
      unfold unwind
      rw [hfd]
      simp [hrun]
    exact Goes.of_step hstep ⟨⟨m.cur.fn, denL_mono hway.le _ _ m.cur.tmps, all2_mono (IRel_mono hway.le) _ _ m.cur.todo, hrest, m.cur.mode, m.cur.kind, m.cur.round⟩, ⟨frs, hf1, hf2⟩, hway.rel, m.gl⟩ hway
  · rename_i f args cap ds hds
    rw [hds] at hdef
    obtain ⟨d, dd, hfd, ⟨vs, cvs, h1, h2, hd⟩, hrest⟩ := all2_cons hdef
    subst hd
    split at h <;> first | (cases h; done) | skip
    rename_i fn hfn
    split at h <;> first | (cases h; done) | skip
    rename_i a hen
    simp only [Option.some.injEq] at h
    subst h
    obtain ⟨_, _, hcall⟩ := E.func_ok f fn hfn
    have hstep : step P (lone fr cs w) = .next (lone (Frame.enter P f (vs ++ cvs).toArray .deferred) ({ fr with defers := dd } :: cs) w) := by
      refine step_lone_go ?_
      rw [hx]
      unfold unwind
      rw [hfd]
      simp [callDeferred, invoke, hcall]
    refine Goes.of_step hstep ⟨enterF_ok hfn (denL_append h1 h2) hen, ⟨_ :: frs, by rw [hf1]; rfl, ?_, hf2⟩, m.heap, m.gl⟩ (Way.refl m.heap)
    exact ⟨m.cur.fn, m.cur.tmps, m.cur.todo, hrest, m.cur.mode, m.cur.kind, m.cur.round⟩
  · rename_i hds
    rw [hds] at hdef
    have hfd := all2_nil hdef
    split at h <;> first | (cases h; done) | skip
    rename_i v hv
    obtain ⟨fn, u, r1, r2, r3⟩ := result_ok m hv
    obtain ⟨fr', cs', k1, k2, k3⟩ := back_ok m r2 h
    have hstep : step P (lone fr cs w) = .next (lone fr' cs' w) := by
      refine step_lone_go ?_
      rw [hx]
      unfold unwind
      rw [hfd]
      simp only [hm, r1]
      rw [Sem.runT_eq]
      simp only [r3, GStep.bare_after]
      exact k1
    exact Goes.of_step hstep k2 (by rw [k3]; exact Way.refl m.heap)

end
end Go.Ev
