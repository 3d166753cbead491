/- The machine's steps are the model's. -/
import Derived.Test.YteklahfgplbmcaaDoorEvRun
namespace Go.Ev
section
variable {P : Program} {E : Env P}

theorem fr_eval (fr : Frame) : fr.eval = (Act.mk fr.tmps []).eval := by funext x; cases x <;> rfl

theorem FRel.ev {σ : Sig} {a : AFrame} {fr : Frame} (r : FRel σ a fr) (hg : GOk E σ) : ∀ x v, ev E a.tmps x = some v → den σ v = some (fr.eval x) := by
  intro x v h
  rw [fr_eval]
  exact ev_ok E hg r.tmps h

theorem denL_putO {σ : Sig} {tm : List RV} {tmps : Array Value} (h : denL σ tm = some tmps.toList) (d : Option Nat) {v : RV} {u : Value} (hv : den σ v = some u) :
    denL σ (putO tm d v) = some (match d with | some d => tmps.setIfInBounds d u | none => tmps).toList := by
  cases d with
  | none => exact h
  | some d =>
    simp only [putO, putAt_eq]
    rw [denL_set d h hv]
    simp

theorem den_bool {σ : Sig} {x : RV} {b : Bool} (h : den σ x = some (.bool b)) : x = .bool b := by
  cases x <;> simp only [den] at h <;> first | (cases h; rfl) | (cases h; done) | (split at h <;> first | (cases h; done) | (split at h <;> cases h))

theorem yielded_eq {σ : Sig} {tm : List RV} {tmps : Array Value} (h : denL σ tm = some tmps.toList) (ops : Array Oper) (j : Nat) : yielded ops tmps j = yieldedA ops.toList tm j := by
  unfold yielded yieldedA
  rw [nth_eq]
  simp only [Array.getElem?_toList]
  cases ho : ops[j]? with
  | none => simp
  | some o =>
    cases hd : o.dst with
    | none => simp [hd]
    | some d =>
      simp only [Option.bind_some, hd, nth_eq]
      cases hn : tm[d]? with
      | none =>
        have := denL_get_none d h hn
        rw [Array.getElem?_toList] at this
        simp [this]
      | some x =>
        obtain ⟨u, hu, hx⟩ := denL_get d h hn
        rw [Array.getElem?_toList] at hu
        simp only [hu]
        cases u with
        | bool b => rw [den_bool hx]
        | _ =>
          have nb : ∀ b, x ≠ .bool b := fun b e => by subst e; simp [den] at hx
          cases x <;> first | rfl | exact absurd rfl (nb _)

theorem wanted_eq {σ : Sig} {tm : List RV} {tmps : Array Value} (h : denL σ tm = some tmps.toList) (ops : Array Oper) (o : Oper) : Region.wanted o (yielded ops tmps) = wantedA ops.toList o tm := by
  unfold Region.wanted wantedA
  cases hg : o.guard with
  | none => rfl
  | some g =>
    obtain ⟨j, want⟩ := g
    simp only [yielded_eq h]
    cases yieldedA ops.toList tm j with
    | none => rfl
    | some b => cases b <;> cases want <;> rfl

theorem range_drop {n k : Nat} (h : k < n) : (List.range n).drop k = k :: (List.range n).drop (k + 1) := by
  rw [List.drop_eq_getElem_cons (by simpa using h)]
  simp

/-- What the region's item says of its frame. -/
theorem ops_item {σ : Sig} {all rest : List Oper} {it : Item} (h : IRel σ (.ops all rest) it) : ∃ ops k, it = .inRegion ops ((List.range ops.size).drop k) ∧ ops.toList = all ∧ rest = all.drop k := by
  cases it <;> simp only [IRel] at h
  obtain ⟨h1, k, h2, h3⟩ := h
  subst h2
  exact ⟨_, k, rfl, h1, h3⟩

theorem ops_cons {all rest : List Oper} {o : Oper} {ops : Array Oper} {k : Nat} (h1 : ops.toList = all) (h2 : o :: rest = all.drop k) : k < ops.size ∧ ops[k]? = some o ∧ rest = all.drop (k + 1) ∧ (List.range ops.size).drop k = k :: (List.range ops.size).drop (k + 1) := by
  have hk : k < all.length := by
    rcases Nat.lt_or_ge k all.length with h | h
    · exact h
    · rw [List.drop_eq_nil_of_le h] at h2; cases h2
  have hs : k < ops.size := by rw [← h1] at hk; simpa using hk
  rw [List.drop_eq_getElem_cons hk] at h2
  simp only [List.cons.injEq] at h2
  refine ⟨hs, ?_, h2.2, range_drop hs⟩
  rw [← Array.getElem?_toList, h1, h2.1]
  simp [hk]

theorem ops_nil {all : List Oper} {ops : Array Oper} {k : Nat} (h1 : ops.toList = all) (h2 : [] = all.drop k) : (List.range ops.size).drop k = [] := by
  have : all.length ≤ k := by
    have := congrArg List.length h2
    simp at this
    omega
  rw [← h1] at this
  exact List.drop_eq_nil_of_le (by simpa using this)

/-- An operation done: the frame behind it. -/
theorem finish_op {fr : Frame} {ops : Array Oper} {k : Nat} {idx : List Nat} {items : List Item} {o : Oper} (ht : fr.todo = .inRegion ops (k :: idx) :: items) (ho : ops[k]? = some o) (v : Value) :
    fr.finish v = { fr with tmps := (match o.dst with | some d => fr.tmps.setIfInBounds d v | none => fr.tmps), todo := .inRegion ops idx :: items } := by
  unfold Frame.finish
  rw [ht]
  simp only [ho, Option.bind_some]
  cases o.dst <;> rfl

/-- The region, as far as it calls nothing. -/
theorem opsA_goes {s : AM} {all : List Oper} {kk : List AItem} (hret : s.cur.ret = false) :
    ∀ (rest : List Oper) (tm : List RV) (h : Tr AObj) (nx : Nat) {tm' : List RV} {h' : Tr AObj} {nx' : Nat} {rest' : List Oper}, opsA E all rest tm h nx = some (tm', h', nx', rest') →
      ∀ σ bot fr cs w, MRel E σ { cur := { s.cur with tmps := tm, todo := .ops all rest :: kk }, stack := s.stack, heap := h, next := nx } bot fr cs w →
        Goes E σ { cur := { s.cur with tmps := tm, todo := .ops all rest :: kk }, stack := s.stack, heap := h, next := nx } { cur := { s.cur with tmps := tm', todo := .ops all rest' :: kk }, stack := s.stack, heap := h', next := nx' } bot fr cs w
  | [], tm, h, nx, tm', h', nx', rest', he, σ, bot, fr, cs, w, m => by
    simp only [opsA, Option.some.injEq, Prod.mk.injEq] at he
    obtain ⟨rfl, rfl, rfl, rfl⟩ := he
    exact ⟨σ, fr, cs, w, Steps.refl _ _, m, Way.refl m.heap⟩
  | o :: rest, tm, h, nx, tm', h', nx', rest', he, σ, bot, fr, cs, w, m => by
    have stop : some (tm, h, nx, o :: rest) = some (tm', h', nx', rest') → Goes E σ { cur := { s.cur with tmps := tm, todo := .ops all (o :: rest) :: kk }, stack := s.stack, heap := h, next := nx } { cur := { s.cur with tmps := tm', todo := .ops all rest' :: kk }, stack := s.stack, heap := h', next := nx' } bot fr cs w := by
      intro he
      simp only [Option.some.injEq, Prod.mk.injEq] at he
      obtain ⟨rfl, rfl, rfl, rfl⟩ := he
      exact ⟨σ, fr, cs, w, Steps.refl _ _, m, Way.refl m.heap⟩
    obtain ⟨it, items, ht, hit, hitems⟩ := all2_cons m.cur.todo
    obtain ⟨ops, k, rfl, ha, hr⟩ := ops_item hit
    obtain ⟨hk, ho, hr', hd⟩ := ops_cons ha hr
    rw [hd] at ht
    have hm := m.run hret
    have hw := wanted_eq m.cur.tmps ops o
    rw [ha] at hw
    simp only [opsA] at he
    -- the frame behind a value
    have behind : ∀ (σ' : Sig) (v : RV) (u : Value) (h1 : Tr AObj) (nx1 : Nat) (w1 : World), den σ' v = some u → Way σ h w σ' h1 w1 →
        MRel E σ' { cur := { s.cur with tmps := putO tm o.dst v, todo := .ops all rest :: kk }, stack := s.stack, heap := h1, next := nx1 } bot (fr.finish u) cs w1 := by
      intro σ' v u h1 nx1 w1 hv hway
      rw [finish_op ht ho]
      have c := m.cur.mono hway.le
      obtain ⟨frs, hf1, hf2⟩ := m.stack
      refine ⟨⟨c.fn, denL_putO c.tmps o.dst hv, ⟨⟨ha, k + 1, rfl, hr'⟩, all2_mono (IRel_mono hway.le) _ _ hitems⟩, c.defers, c.mode, c.kind, c.round⟩, ⟨frs, hf1, all2_mono (fun _ _ r => r.mono hway.le) _ _ hf2⟩, hway.rel, m.gl.mono E hway.le⟩
    cases hwa : wantedA all o tm with
    | false =>
      rw [hwa] at he
      simp only at he
      have hstep := st_opSkip (P := P) (cs := cs) (w := w) hm ht (by simp [ho, hw, hwa])
      exact (Goes.of_step hstep (behind σ (.tuple []) undef h nx w rfl (Way.refl m.heap)) (Way.refl m.heap)).trans (fun σ' fr' cs' w' m' => opsA_goes hret rest _ _ _ he σ' bot fr' cs' w' m')
    | true =>
      rw [hwa] at he
      simp only at he
      cases hop : aop E o tm h nx with
      | none => rw [hop] at he; cases he
      | some n =>
        rw [hop] at he
        have hok := aop_ok (P := P) (w := w) m.heap (m.cur.ev m.gl) hop
        cases n with
        | val v h1 nx1 =>
          simp only at he
          obtain ⟨σ', w', u, h2, h3, h4⟩ := hok
          have nd : ∀ c, o.op ≠ .defer c := by
            intro c hc
            simp only [execOp, hc, Sem.run_bind] at h2
            cases hrs : (resolve fr.eval c o.type).run P w <;> rw [hrs] at h2 <;> simp at h2
          have hstep := step_lone_go (P := P) (cs := cs) (by rw [st_op hm ht ho (by rw [hw, hwa]) (.inr nd)]; exact apply_value h2)
          exact (Goes.of_step hstep (behind σ' v u h1 nx1 w' h3 h4) h4).trans (fun σ'' fr' cs' w'' m' => opsA_goes hret rest _ _ _ he σ'' bot fr' cs' w'' m')
        | skip h1 nx1 =>
          simp only at he
          obtain ⟨σ', w', h2, h4⟩ := hok
          have nd : ∀ c, o.op ≠ .defer c := by
            intro c hc
            simp only [execOp, hc, Sem.run_bind] at h2
            cases hrs : (resolve fr.eval c o.type).run P w <;> rw [hrs] at h2 <;> simp at h2
          have hstep := step_lone_go (P := P) (cs := cs) (by rw [st_op hm ht ho (by rw [hw, hwa]) (.inr nd)]; exact apply_skip h2)
          exact (Goes.of_step hstep (behind σ' (.tuple []) undef h1 nx1 w' rfl h4) h4).trans (fun σ'' fr' cs' w'' m' => opsA_goes hret rest _ _ _ he σ'' bot fr' cs' w'' m')
        | enter f args => exact stop he
        | yield l args => exact stop he
        | defer f args cap => exact stop he

theorem denL_undefs {σ : Sig} : ∀ n, denL σ (undefs n) = some (List.replicate n undef)
  | 0 => rfl
  | n + 1 => denL_cons_mk rfl (denL_undefs n)

theorem enterF_ok {σ : Sig} {f : Nat} {fn : Func} {args : List RV} {vs : List Value} {dfr : Bool} {a : AFrame} (hf : E.func f = some fn) (hd : denL σ args = some vs) (h : enterF f fn args dfr = some a) :
    FRel σ a (Frame.enter P f vs.toArray (if dfr then .deferred else .normal)) := by
  obtain ⟨h1, _, _⟩ := E.func_ok f fn hf
  unfold enterF at h
  split at h <;> first | (cases h; done) | skip
  rename_i b hb
  simp only [Option.some.injEq] at h
  subst h
  have hl := denL_length hd
  refine ⟨rfl, ?_, ?_, trivial, rfl, rfl, rfl⟩
  · simp only [Frame.enter, h1, Option.map_some, Option.getD_some]
    rw [denL_append hd (denL_undefs _)]
    simp [hl]
  · simp only [Frame.enter, h1, Option.bind_some, hb, Option.getD_some]
    exact ⟨rfl, trivial⟩

theorem MRel.push {σ : Sig} {s : AM} {bot : List Frame} {fr : Frame} {cs : List Frame} {w : World} (m : MRel E σ s bot fr cs w) {a : AFrame} {fr' : Frame} (h : FRel σ a fr') :
    MRel E σ { s with cur := a, stack := s.cur :: s.stack } bot fr' (fr :: cs) w := by
  obtain ⟨frs, h1, h2⟩ := m.stack
  exact ⟨h, ⟨fr :: frs, by rw [h1]; rfl, m.cur, h2⟩, m.heap, m.gl⟩

/-- A value handed to a frame. -/
theorem finish_ok {σ : Sig} {a : AFrame} {fr : Frame} (r : FRel σ a fr) {v : RV} {u : Value} (hv : den σ v = some u) : FRel σ (a.finish v) (fr.finish u) := by
  unfold AFrame.finish
  split
  · rename_i all o rest k heq
    have ht := r.todo
    rw [heq] at ht
    obtain ⟨it, items, h1, h2, h3⟩ := all2_cons ht
    obtain ⟨ops, kk, rfl, ha, hr⟩ := ops_item h2
    obtain ⟨hk, ho, hr', hd⟩ := ops_cons ha hr
    rw [hd] at h1
    rw [finish_op h1 ho]
    exact ⟨r.fn, denL_putO r.tmps o.dst hv, ⟨⟨ha, kk + 1, rfl, hr'⟩, h3⟩, r.defers, r.mode, r.kind, r.round⟩
  · rename_i l k heq
    have ht := r.todo
    rw [heq] at ht
    obtain ⟨it, items, h1, h2, h3⟩ := all2_cons ht
    cases it <;> simp only [IRel] at h2
    unfold Frame.finish
    rw [h1]
    exact ⟨r.fn, r.tmps, ⟨h2, h3⟩, r.defers, r.mode, r.kind, r.round⟩
  · rename_i k heq
    have ht := r.todo
    rw [heq] at ht
    obtain ⟨it, items, h1, h2, h3⟩ := all2_cons ht
    cases it <;> simp only [IRel] at h2
    unfold Frame.finish
    rw [h1]
    exact ⟨r.fn, r.tmps, h3, r.defers, r.mode, r.kind, r.round⟩
  · rename_i n1 n2 n3
    have : fr.finish u = fr := by
      unfold Frame.finish
      have ht := r.todo
      cases hc : fr.todo with
      | nil => rfl
      | cons it items =>
        rw [hc] at ht
        cases hat : a.todo with
        | nil => rw [hat] at ht; exact ht.elim
        | cons ait aitems =>
          rw [hat] at ht
          have h2 := ht.1
          cases ait with
          | ops all rest =>
            cases rest with
            | cons o rest => exact absurd hat (n1 _ _ _ _)
            | nil =>
              obtain ⟨ops, kk, rfl, ha, hr⟩ := ops_item h2
              rw [ops_nil ha hr]
          | inRange l => exact absurd hat (n2 _ _)
          | start => exact absurd hat (n3 _)
          | _ => cases it <;> simp only [IRel] at h2 <;> rfl
    rw [this]
    exact r

end
end Go.Ev
