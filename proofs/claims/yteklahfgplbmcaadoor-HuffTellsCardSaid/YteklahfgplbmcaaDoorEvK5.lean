/- The machine's steps once more, its fields handed on as they are. -/
import Derived.Test.YteklahfgplbmcaaDoorEvK4
namespace Go.Ev
section
variable {P : Program} (E : Env P)
noncomputable def fCond (fn n : Nat) (tm : FT) (df : List ADef) (dfr : Bool) (rd : Option Nat) (st : List AFrameK) (h : Tr AObj) (nx : Nat) (c : Operand) (x y : Code) (k : List AItem) : Option AMK := match evK E n tm c with
    | some (.bool t) => (match t with | true => some ⟨⟨fn, n, tm, .code x :: k, df, false, dfr, rd⟩, st, h, nx⟩ | false => some ⟨⟨fn, n, tm, .code y :: k, df, false, dfr, rd⟩, st, h, nx⟩)
    | _ => none
noncomputable def fExit (fn n : Nat) (tm : FT) (df : List ADef) (dfr : Bool) (rd : Option Nat) (st : List AFrameK) (h : Tr AObj) (nx : Nat) (id : Nat) (k : List AItem) : Option AMK := match exitToA id k with
    | some k' => some ⟨⟨fn, n, tm, k', df, false, dfr, rd⟩, st, h, nx⟩ | none => AMK.leave ⟨⟨fn, n, tm, .code (.exit id) :: k, df, false, dfr, rd⟩, st, h, nx⟩ (some (.exit id))
noncomputable def fOps (fn n : Nat) (tm : FT) (df : List ADef) (dfr : Bool) (rd : Option Nat) (st : List AFrameK) (h : Tr AObj) (nx : Nat) (all rest : List Oper) (k : List AItem) : Option AMK := match opsK E n all rest tm h nx with
        | some (tm, h, nx, []) => some ⟨⟨fn, n, tm, k, df, false, dfr, rd⟩, st, h, nx⟩
        | some (tm, h, nx, o :: rest') => AMK.op E ⟨⟨fn, n, tm, .ops all rest :: k, df, false, dfr, rd⟩, st, h, nx⟩ all o rest' k
        | none => none
noncomputable def fCode (fn n : Nat) (tm : FT) (df : List ADef) (dfr : Bool) (rd : Option Nat) (st : List AFrameK) (h : Tr AObj) (nx : Nat) (c : Code) (k : List AItem) : Option AMK :=
  match c with
  | .skip => some ⟨⟨fn, n, tm, k, df, false, dfr, rd⟩, st, h, nx⟩
  | .label _ => some ⟨⟨fn, n, tm, k, df, false, dfr, rd⟩, st, h, nx⟩
  | .seq a b => some ⟨⟨fn, n, tm, .code a :: .code b :: k, df, false, dfr, rd⟩, st, h, nx⟩
  | .cond c x y => fCond E fn n tm df dfr rd st h nx c x y k
  | .block id b => some ⟨⟨fn, n, tm, .code b :: .inBlock id :: k, df, false, dfr, rd⟩, st, h, nx⟩
  | .loop b => some ⟨⟨fn, n, tm, .code b :: .inLoop b :: k, df, false, dfr, rd⟩, st, h, nx⟩
  | .scope b => some ⟨⟨fn, n, tm, .code b :: .inScope b :: k, df, false, dfr, rd⟩, st, h, nx⟩
  | .exit id => fExit fn n tm df dfr rd st h nx id k
  | .goto l => kGoto ⟨⟨fn, n, tm, .code (.goto l) :: k, df, false, dfr, rd⟩, st, h, nx⟩ l k
  | .ret => AMK.leave ⟨⟨fn, n, tm, .code .ret :: k, df, false, dfr, rd⟩, st, h, nx⟩ (some .ret)
  | .region i ops draw => (match draw with
    | false => fOps E fn n tm df dfr rd st h nx ops.toList ops.toList k
    | true => kDraw E ⟨⟨fn, n, tm, .code (.region i ops true) :: k, df, false, dfr, rd⟩, st, h, nx⟩ ops.toList k)
  | .rangeFunc f ps asg body => AMK.rangeF E ⟨⟨fn, n, tm, .code (.rangeFunc f ps asg body) :: k, df, false, dfr, rd⟩, st, h, nx⟩ f ps asg body k
  | .refuse _ => none
noncomputable def fItem (fn n : Nat) (tm : FT) (df : List ADef) (dfr : Bool) (rd : Option Nat) (st : List AFrameK) (h : Tr AObj) (nx : Nat) (i : AItem) (k : List AItem) : Option AMK :=
  match i with
      | .code c => fCode E fn n tm df dfr rd st h nx c k
      | .inBlock _ => some ⟨⟨fn, n, tm, k, df, false, dfr, rd⟩, st, h, nx⟩
      | .inScope _ => some ⟨⟨fn, n, tm, k, df, false, dfr, rd⟩, st, h, nx⟩
      | .inLoop b => some ⟨⟨fn, n, tm, .code b :: .inLoop b :: k, df, false, dfr, rd⟩, st, h, nx⟩
      | .ops all rest => fOps E fn n tm df dfr rd st h nx all rest k
      | .start => kStart ⟨⟨fn, n, tm, .start :: k, df, false, dfr, rd⟩, st, h, nx⟩ k
      | .inRange _ => none
      | .endRange l => kEndRange ⟨⟨fn, n, tm, .endRange l :: k, df, false, dfr, rd⟩, st, h, nx⟩ l k
noncomputable def fStep (s : AMK) : Option AMK :=
  match s with
  | ⟨⟨fn, n, tm, todo, df, ret, dfr, rd⟩, st, h, nx⟩ => match ret with
    | true => AMK.unwind E ⟨⟨fn, n, tm, todo, df, true, dfr, rd⟩, st, h, nx⟩
    | false => match todo with
      | [] => AMK.leave ⟨⟨fn, n, tm, [], df, false, dfr, rd⟩, st, h, nx⟩ none
      | i :: k => fItem E fn n tm df dfr rd st h nx i k
noncomputable def AMK.runF (n : Nat) : AMK → Option AMK :=
  Nat.rec (motive := fun _ => AMK → Option AMK) (fun s => match s.final with | true => some s | false => fStep E s)
    (fun _ ih s => match ih s with
      | some s' => (match s'.final with
        | true => some s'
        | false => ih s')
      | none => none) n
/-- A call, run: its result, and the memory behind it. -/
noncomputable def callF (n : Nat) (h : Tr AObj) (nx : Nat) (f : Nat) (args : List RV) : Option (RV × Tr AObj × Nat) :=
  match E.func f with
  | some fn => (match enterK f fn args false with
    | some a => (match AMK.runF E n { cur := a, stack := [], heap := h, next := nx } with
      | some s => (match s.final with
        | true => (match Nat.beq s.cur.fn f with
          | true => (match resultK E s with | some v => some (v, s.heap, s.next) | none => none)
          | false => none)
        | false => none)
      | none => none)
    | none => none)
  | none => none

theorem fCode_eq (fn n : Nat) (tm : FT) (df : List ADef) (dfr : Bool) (rd : Option Nat) (st : List AFrameK) (h : Tr AObj) (nx : Nat) (c : Code) (k : List AItem) {s' : AMK}
    (e : fCode E fn n tm df dfr rd st h nx c k = some s') : AMK.code E ⟨⟨fn, n, tm, .code c :: k, df, false, dfr, rd⟩, st, h, nx⟩ c k = some s' ∨
      ∃ i ops, c = .region i ops false ∧ fOps E fn n tm df dfr rd st h nx ops.toList ops.toList k = some s' := by
  cases c
  case region i ops draw =>
    cases draw with
    | false => exact .inr ⟨i, ops, rfl, e⟩
    | true => exact .inl e
  case exit id =>
    refine .inl ?_
    simp only [fCode, fExit] at e
    simp only [AMK.code, kExit]
    split at e <;> rename_i hx <;> rw [hx] <;> exact e
  case cond c x y => exact .inl e
  all_goals exact .inl e
variable {E}
theorem one_ok {s s' : AMK} (hf : s.fits) (h : s.step E = some s') {σ : Sig} {bot : List Frame} {fr : Frame} {cs : List Frame} {w : World} (m : MRel E σ s.abs bot fr cs w) : s'.fits ∧ Goes E σ s.abs s'.abs bot fr cs w := by
  obtain ⟨h1, h2⟩ := AMK.step_ok E hf h
  exact ⟨h1, Ev.step_ok m h2⟩
theorem fStep_ok {s s' : AMK} (hf : s.fits) (h : fStep E s = some s') {σ : Sig} {bot : List Frame} {fr : Frame} {cs : List Frame} {w : World} (m : MRel E σ s.abs bot fr cs w) : s'.fits ∧ Goes E σ s.abs s'.abs bot fr cs w := by
  obtain ⟨⟨fn, n, tm, todo, df, ret, dfr, rd⟩, st, hp, nx⟩ := s
  cases ret with
  | true => exact one_ok hf (show AMK.step E _ = some s' from h) m
  | false =>
    cases todo with
    | nil => exact one_ok hf (show AMK.step E _ = some s' from h) m
    | cons i k =>
      cases i with
      | code c =>
        rcases fCode_eq E fn n tm df dfr rd st hp nx c k h with h' | ⟨i, ops, rfl, h'⟩
        · exact one_ok hf (show AMK.step E _ = some s' from h') m
        · have h1 : AMK.step E ⟨⟨fn, n, tm, .code (.region i ops false) :: k, df, false, dfr, rd⟩, st, hp, nx⟩ = some ⟨⟨fn, n, tm, .ops ops.toList ops.toList :: k, df, false, dfr, rd⟩, st, hp, nx⟩ := rfl
          obtain ⟨f1, g1⟩ := one_ok hf h1 m
          have h2 : AMK.step E ⟨⟨fn, n, tm, .ops ops.toList ops.toList :: k, df, false, dfr, rd⟩, st, hp, nx⟩ = some s' := h'
          refine ⟨(AMK.step_ok E f1 h2).1, g1.trans fun σ' fr' cs' w' m' => (one_ok f1 h2 m').2⟩
      | inBlock b => exact one_ok hf (show AMK.step E _ = some s' from h) m
      | inLoop b => exact one_ok hf (show AMK.step E _ = some s' from h) m
      | inScope b => exact one_ok hf (show AMK.step E _ = some s' from h) m
      | ops all rest => exact one_ok hf (show AMK.step E _ = some s' from h) m
      | inRange l => cases h
      | endRange l => exact one_ok hf (show AMK.step E _ = some s' from h) m
      | start => exact one_ok hf (show AMK.step E _ = some s' from h) m

theorem runF_ok : ∀ (n : Nat) {s s' : AMK}, s.fits → AMK.runF E n s = some s' → s'.fits ∧ ∀ σ bot fr cs w, MRel E σ s.abs bot fr cs w → Goes E σ s.abs s'.abs bot fr cs w
  | 0, s, s', hf, h => by
    have e : AMK.runF E 0 s = match s.final with | true => some s | false => fStep E s := rfl
    rw [e] at h
    split at h
    · simp only [Option.some.injEq] at h
      subst h
      exact ⟨hf, fun σ bot fr cs w m => ⟨σ, fr, cs, w, Steps.refl _ _, m, Way.refl m.heap⟩⟩
    · refine ⟨?_, fun σ bot fr cs w m => (fStep_ok hf h m).2⟩
      exact fits_ok hf h
  | n + 1, s, s', hf, h => by
    have e : AMK.runF E (n + 1) s = match AMK.runF E n s with
      | some s' => (match s'.final with
        | true => some s'
        | false => AMK.runF E n s')
      | none => none := rfl
    rw [e] at h
    split at h <;> first | (cases h; done) | skip
    rename_i s1 h1
    obtain ⟨f1, r1⟩ := runF_ok n hf h1
    split at h
    · simp only [Option.some.injEq] at h
      subst h
      exact ⟨f1, r1⟩
    · obtain ⟨f2, r2⟩ := runF_ok n f1 h
      exact ⟨f2, fun σ bot fr cs w m => (r1 σ bot fr cs w m).trans fun σ' fr' cs' w' m' => r2 σ' bot fr' cs' w' m'⟩
where
  fits_ok {s s' : AMK} (hf : s.fits) (h : fStep E s = some s') : s'.fits := by
    obtain ⟨⟨fn, n, tm, todo, df, ret, dfr, rd⟩, st, hp, nx⟩ := s
    cases ret with
    | true => exact (AMK.step_ok E hf (show AMK.step E _ = some s' from h)).1
    | false =>
      cases todo with
      | nil => exact (AMK.step_ok E hf (show AMK.step E _ = some s' from h)).1
      | cons i k =>
        cases i with
        | code c =>
          rcases fCode_eq E fn n tm df dfr rd st hp nx c k h with h' | ⟨i, ops, rfl, h'⟩
          · exact (AMK.step_ok E hf (show AMK.step E _ = some s' from h')).1
          · have f1 : AMK.fits ⟨⟨fn, n, tm, .ops ops.toList ops.toList :: k, df, false, dfr, rd⟩, st, hp, nx⟩ := hf
            exact (AMK.step_ok E f1 (show AMK.step E _ = some s' from h')).1
        | inBlock b => exact (AMK.step_ok E hf (show AMK.step E _ = some s' from h)).1
        | inLoop b => exact (AMK.step_ok E hf (show AMK.step E _ = some s' from h)).1
        | inScope b => exact (AMK.step_ok E hf (show AMK.step E _ = some s' from h)).1
        | ops all rest => exact (AMK.step_ok E hf (show AMK.step E _ = some s' from h)).1
        | inRange l => cases h
        | endRange l => exact (AMK.step_ok E hf (show AMK.step E _ = some s' from h)).1
        | start => exact (AMK.step_ok E hf (show AMK.step E _ = some s' from h)).1

theorem callF_ok {n : Nat} {h h' : Tr AObj} {nx nx' f : Nat} {args : List RV} {v : RV} (hc : callF E n h nx f args = some (v, h', nx')) {σ : Sig} {w : World} (r : HRel σ h w.heap) (g : GOk E σ) {vs : List Value} (hd : denL σ args = some vs) :
    Calls P f vs.toArray w fun e w' => ∃ σ' u, e = .returned u ∧ den σ' v = some u ∧ Way σ h w σ' h' w' := by
  unfold callF at hc
  split at hc <;> first | (cases hc; done) | skip
  rename_i fn hfn
  split at hc <;> first | (cases hc; done) | skip
  rename_i a hen
  split at hc <;> first | (cases hc; done) | skip
  rename_i s hrun
  split at hc <;> first | (cases hc; done) | skip
  rename_i hfin
  split at hc <;> first | (cases hc; done) | skip
  rename_i hfnf
  split at hc <;> first | (cases hc; done) | skip
  rename_i v' hv
  simp only [Option.some.injEq, Prod.mk.injEq] at hc
  obtain ⟨rfl, rfl, rfl⟩ := hc
  obtain ⟨a1, a2⟩ := enterK_ok hen
  intro cs
  have m : MRel E σ ({ cur := a, stack := [], heap := h, next := nx } : AMK).abs cs (Frame.enter P f vs.toArray .normal) cs w := ⟨enterF_ok hfn hd a2, ⟨[], rfl, trivial⟩, r, g⟩
  obtain ⟨_, hgo⟩ := runF_ok n (s := { cur := a, stack := [], heap := h, next := nx }) ⟨a1, by intro f hf; cases hf⟩ hrun
  obtain ⟨σ', fr', cs', w', h1, m', hway⟩ := hgo σ cs _ cs w m
  rw [resultK_eq] at hv
  rw [← AMK.final_eq] at hfin
  obtain ⟨fn', u, r1, r2, r3⟩ := result_ok m' hv
  unfold AM.final at hfin
  split at hfin <;> first | (cases hfin; done) | skip
  rename_i hret hst hdef hdfr
  obtain ⟨frs, hf1, hf2⟩ := m'.stack
  rw [hst] at hf2
  have := all2_nil hf2
  subst this
  have hcs : cs' = cs := by simpa using hf1
  subst hcs
  have hdd := m'.cur.defers
  rw [hdef] at hdd
  have hdd := all2_nil hdd
  have hmode : fr'.mode = .returning := by rw [m'.cur.mode, hret]; rfl
  have hkind : fr'.kind = .normal := by rw [m'.cur.kind, hdfr]; rfl
  exact ⟨.returned u, w', fr', ⟨σ', u, rfl, r2, hway⟩, h1, m'.cur.fn.trans (Nat.eq_of_beq_eq_true hfnf), hmode, hdd, hkind, fn', r1, r3⟩
end
end Go.Ev
