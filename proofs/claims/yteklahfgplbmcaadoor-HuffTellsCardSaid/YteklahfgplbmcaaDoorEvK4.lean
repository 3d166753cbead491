/- The machine over boxes: its runs. -/
import Derived.Test.YteklahfgplbmcaaDoorEvK3
namespace Go.Ev
section
variable {P : Program} (E : Env P)

/-- One operation, calls and all. -/
noncomputable def exec1K (cl : CL) (all : List Oper) (o : Oper) (n : Nat) (tm : FT) (h : Tr AObj) (nx : Nat) : Option (RV × Tr AObj × Nat) :=
  match wantedK all o n tm with
  | false => some (.tuple [], h, nx)
  | true => match rop E (evK E n tm) o.op h nx with
    | some (.val v h' nx') => some (v, h', nx')
    | some (.skip h' nx') => some (.tuple [], h', nx')
    | some (.enter f args) => cl h nx f args
    | _ => none
theorem exec1K_eq (cl : CL) (all : List Oper) (o : Oper) (n : Nat) (tm : FT) (h : Tr AObj) (nx : Nat) : exec1K E cl all o n tm h nx = exec1 E cl all o (tm.toL n) h nx := by
  unfold exec1K exec1
  rw [wantedK_eq, evK_eq, rop_eq]
  rfl

noncomputable def textK (cl : CL) (n : Nat) (all l : List Oper) : FT → Tr AObj → Nat → Option (FT × Tr AObj × Nat) :=
  List.rec (motive := fun _ => FT → Tr AObj → Nat → Option (FT × Tr AObj × Nat)) (fun tm h nx => some (tm, h, nx))
    (fun o _ ih tm h nx => match exec1K E cl all o n tm h nx with
      | some (v, h', nx') => ih (putK n tm o.dst v) h' nx'
      | none => none) l
theorem textK_ok {cl : CL} {n : Nat} (hn : n ≤ 512) {all : List Oper} : ∀ (l : List Oper) {tm tm' : FT} {h h' : Tr AObj} {nx nx' : Nat}, textK E cl n all l tm h nx = some (tm', h', nx') →
    ∃ es, textA E cl all l (tm.toL n) h nx = some (es, tm'.toL n, h', nx')
  | [], tm, tm', h, h', nx, nx', e => by
    simp only [textK, Option.some.injEq, Prod.mk.injEq] at e
    obtain ⟨rfl, rfl, rfl⟩ := e
    exact ⟨[], rfl⟩
  | o :: l, tm, tm', h, h', nx, nx', e => by
    have e' : textK E cl n all (o :: l) tm h nx = match exec1K E cl all o n tm h nx with
      | some (v, h', nx') => textK E cl n all l (putK n tm o.dst v) h' nx'
      | none => none := rfl
    rw [e', exec1K_eq] at e
    split at e <;> first | (cases e; done) | skip
    rename_i v h1 nx1 hx
    obtain ⟨es, he⟩ := textK_ok hn l e
    rw [putK_eq hn] at he
    refine ⟨⟨tm.toL n, h, nx, v⟩ :: es, ?_⟩
    rw [textA, hx]
    simp only [he]

theorem textA_length {cl : CL} {all : List Oper} : ∀ (l : List Oper) {tm tm' : List RV} {h h' : Tr AObj} {nx nx' : Nat} {es : List Ent}, textA E cl all l tm h nx = some (es, tm', h', nx') → tm'.length = tm.length
  | [], tm, tm', h, h', nx, nx', es, e => by simp only [textA, Option.some.injEq, Prod.mk.injEq] at e; rw [e.2.1]
  | o :: l, tm, tm', h, h', nx, nx', es, e => by
    simp only [textA] at e
    split at e <;> first | (cases e; done) | skip
    rename_i v h1 nx1 hx
    split at e <;> first | (cases e; done) | skip
    rename_i es' r hr
    simp only [Option.some.injEq, Prod.mk.injEq] at e
    obtain ⟨-, rfl⟩ := e
    rw [textA_length l hr]
    unfold putO
    split
    · rw [putAt_eq]; simp
    · rfl
theorem drawA_length {cl : CL} {all : List Oper} {tm tm' : List RV} {h h' : Tr AObj} {nx nx' : Nat} (e : drawA E cl all tm h nx = some (tm', h', nx')) : tm'.length = tm.length := by
  unfold drawA at e
  split at e <;> first | (cases e; done) | skip
  split at e <;> first | (cases e; done) | skip
  rename_i es tm1 h1 nx1 _ ht
  have := textA_length E _ ht
  have fin : ∀ {hh : Tr AObj}, some (tm1, hh, nx1) = some (tm', h', nx') → tm'.length = tm.length := fun e => by
    simp only [Option.some.injEq, Prod.mk.injEq] at e; rw [← e.1]; exact this
  split at e
  · exact fin e
  · split at e
    · exact fin e
    · split at e
      · exact fin e
      · split at e
        · exact fin e
        · cases e

/-- What of a region's order is known before it is run. -/
def orderly (all : List Oper) : Option Bool :=
  match masks [] all with
  | some ms => (match chk all ms with | true => some (strict all ms) | false => none)
  | none => none

/-- A region whose order is drawn. -/
noncomputable def drawK (cl : CL) (n : Nat) (all : List Oper) (tm : FT) (h : Tr AObj) (nx : Nat) : Option (FT × Tr AObj × Nat) :=
  match orderly all with
  | some true => textK E cl n all all tm h nx
  | some false => (match drawA E cl all (tm.toL n) h nx with
    | some (tm', h', nx') => some (FT.ofL tm', h', nx')
    | none => none)
  | none => none
theorem drawK_ok {cl : CL} {n : Nat} (hn : n ≤ 512) {all : List Oper} {tm tm' : FT} {h h' : Tr AObj} {nx nx' : Nat} (e : drawK E cl n all tm h nx = some (tm', h', nx')) :
    drawA E cl all (tm.toL n) h nx = some (tm'.toL n, h', nx') := by
  unfold drawK at e
  split at e
  · rename_i ho
    obtain ⟨es, he⟩ := textK_ok E hn all e
    unfold orderly at ho
    split at ho <;> first | (cases ho; done) | skip
    rename_i ms hms
    split at ho <;> first | (cases ho; done) | skip
    rename_i hc
    simp only [Option.some.injEq] at ho
    unfold drawA
    rw [hms]
    simp only [hc, he, ho]
  · split at e <;> first | (cases e; done) | skip
    rename_i t1 h1 n1 hd
    simp only [Option.some.injEq, Prod.mk.injEq] at e
    obtain ⟨rfl, rfl, rfl⟩ := e
    have hl := drawA_length E hd
    rw [FT.toL_length] at hl
    have := FT.toL_ofL (l := t1) (by omega)
    rw [hl] at this
    rw [hd, this]
  · cases e

noncomputable def AMK.rangeF (s : AMK) (f : Operand) (ps : Array Tmp) (asg body : Code) (k : List AItem) : Option AMK :=
  match evK E s.cur.n s.cur.tmps f with
  | some (.fn g first captured) => (match E.func g with
    | some fn =>
      (match s.cur.round with
      | none => (match s.heap.get s.next with
        | some _ => none
        | none => (match s.heap.set s.next (.deferred false) with
          | some h1 => (match h1.get (s.next + 1) with
            | some _ => none
            | none => (match h1.set (s.next + 1) (.loop .ready none s.cur.fn (s.cur.tmps.toL s.cur.n) ps asg body s.next) with
              | some h2 => (match enterK g fn (first ++ [.yield (s.next + 1)] ++ captured) false with
                | some a => some { cur := a, stack := { s.cur with todo := .inRange (s.next + 1) :: k, defers := .collected s.next :: s.cur.defers } :: s.stack, heap := h2, next := s.next + 2 }
                | none => none)
              | none => none))
          | none => none))
      | some l => (match s.heap.get l with
        | some (.loop _ _ _ _ _ _ _ dfr) => (match s.heap.get s.next with
          | some _ => none
          | none => (match s.heap.set s.next (.loop .ready none s.cur.fn (s.cur.tmps.toL s.cur.n) ps asg body dfr) with
            | some h2 => (match enterK g fn (first ++ [.yield s.next] ++ captured) false with
              | some a => some { cur := a, stack := { s.cur with todo := .inRange s.next :: k } :: s.stack, heap := h2, next := s.next + 1 }
              | none => none)
            | none => none))
        | _ => none))
    | none => none)
  | _ => none
theorem AMK.rangeF_ok {s s' : AMK} {f : Operand} {ps : Array Tmp} {asg body : Code} {k : List AItem} (hf : s.fits) (h : s.rangeF E f ps asg body k = some s') : s'.fits ∧ s.abs.rangeF E f ps asg body k = some s'.abs := by
  unfold AMK.rangeF at h
  unfold AM.rangeF
  have e : s.abs.cur.tmps = s.cur.tmps.toL s.cur.n := rfl
  have eh : s.abs.heap = s.heap := rfl
  have en : s.abs.next = s.next := rfl
  have er : s.abs.cur.round = s.cur.round := rfl
  have ef : s.abs.cur.fn = s.cur.fn := rfl
  rw [e, eh, en, er, ef]
  rw [evK_eq] at h
  have push : ∀ (t : List AItem) (d : List ADef), ∀ f ∈ ({ s.cur with todo := t, defers := d } :: s.stack), AFrameK.n f ≤ 512 := by
    intro t d f hf'
    rcases List.mem_cons.1 hf' with rfl | hf'
    · exact hf.1
    · exact hf.2 f hf'
  split at h <;> first | (cases h; done) | skip
  rename_i g first captured hev
  rw [hev]
  simp only
  split at h <;> first | (cases h; done) | skip
  rename_i fn hfn
  rw [hfn]
  simp only
  split at h
  · rename_i hr
    rw [hr]
    simp only
    split at h <;> first | (cases h; done) | skip
    rename_i h0
    rw [h0]
    simp only
    split at h <;> first | (cases h; done) | skip
    rename_i h1 hs1
    rw [hs1]
    simp only
    split at h <;> first | (cases h; done) | skip
    rename_i h2
    rw [h2]
    simp only
    split at h <;> first | (cases h; done) | skip
    rename_i h3 hs2
    rw [hs2]
    simp only
    split at h <;> first | (cases h; done) | skip
    rename_i a ha
    obtain ⟨a1, a2⟩ := enterK_ok ha
    rw [a2]
    simp only [Option.some.injEq] at h
    subst h
    exact ⟨⟨a1, push _ _⟩, rfl⟩
  · rename_i l hr
    rw [hr]
    simp only
    split at h <;> first | (cases h; done) | skip
    rename_i hg
    rw [hg]
    simp only
    split at h <;> first | (cases h; done) | skip
    rename_i h0
    rw [h0]
    simp only
    split at h <;> first | (cases h; done) | skip
    rename_i h3 hs2
    rw [hs2]
    simp only
    split at h <;> first | (cases h; done) | skip
    rename_i a ha
    obtain ⟨a1, a2⟩ := enterK_ok ha
    rw [a2]
    simp only [Option.some.injEq] at h
    subst h
    exact ⟨⟨a1, push _ _⟩, rfl⟩

def AMK.to (s : AMK) (todo : List AItem) : AMK := { s with cur := { s.cur with todo := todo } }
theorem AMK.to_abs (s : AMK) (todo : List AItem) : (s.to todo).abs = s.abs.to todo := rfl
theorem AMK.to_fits {s : AMK} (h : s.fits) (todo : List AItem) : (s.to todo).fits := h

noncomputable def kCond (s : AMK) (c : Operand) (x y : Code) (k : List AItem) : Option AMK := match evK E s.cur.n s.cur.tmps c with
    | some (.bool t) => (match t with | true => some (s.to (.code x :: k)) | false => some (s.to (.code y :: k)))
    | _ => none
noncomputable def kExit (s : AMK) (id : Nat) (k : List AItem) : Option AMK := match exitToA id k with | some k' => some (s.to k') | none => s.leave (some (.exit id))
noncomputable def kGoto (s : AMK) (l : Nat) (k : List AItem) : Option AMK := match gotoInA l k with | some k' => some (s.to k') | none => s.leave (some (.goto l))
noncomputable def kDraw (s : AMK) (ops : List Oper) (k : List AItem) : Option AMK := match drawK E E.cl s.cur.n ops s.cur.tmps s.heap s.next with
      | some (tm, h, nx) => some { cur := { s.cur with tmps := tm, todo := k }, stack := s.stack, heap := h, next := nx }
      | none => none
noncomputable def kRegion (s : AMK) (ops : Array Oper) (draw : Bool) (k : List AItem) : Option AMK := match draw with
    | false => some (s.to (.ops ops.toList ops.toList :: k))
    | true => kDraw E s ops.toList k

noncomputable def AMK.code (s : AMK) (c : Code) (k : List AItem) : Option AMK :=
  match c with
  | .skip => some (s.to k)
  | .label _ => some (s.to k)
  | .seq a b => some (s.to (.code a :: .code b :: k))
  | .cond c x y => kCond E s c x y k
  | .block id b => some (s.to (.code b :: .inBlock id :: k))
  | .loop b => some (s.to (.code b :: .inLoop b :: k))
  | .scope b => some (s.to (.code b :: .inScope b :: k))
  | .exit id => kExit s id k
  | .goto l => kGoto s l k
  | .ret => s.leave (some .ret)
  | .region _ ops draw => kRegion E s ops draw k
  | .rangeFunc f ps asg body => s.rangeF E f ps asg body k
  | .refuse _ => none
theorem AMK.code_ok {s s' : AMK} {c : Code} {k : List AItem} (hf : s.fits) (h : s.code E c k = some s') : s'.fits ∧ s.abs.code E c k = some s'.abs := by
  have e : s.abs.cur.tmps = s.cur.tmps.toL s.cur.n := rfl
  have eh : s.abs.heap = s.heap := rfl
  have en : s.abs.next = s.next := rfl
  cases c <;> simp only [AMK.code, AM.code] at h ⊢
  case skip => simp only [Option.some.injEq] at h; subst h; exact ⟨hf, rfl⟩
  case label => simp only [Option.some.injEq] at h; subst h; exact ⟨hf, rfl⟩
  case seq => simp only [Option.some.injEq] at h; subst h; exact ⟨hf, rfl⟩
  case block => simp only [Option.some.injEq] at h; subst h; exact ⟨hf, rfl⟩
  case loop => simp only [Option.some.injEq] at h; subst h; exact ⟨hf, rfl⟩
  case scope => simp only [Option.some.injEq] at h; subst h; exact ⟨hf, rfl⟩
  case refuse => cases h
  case ret => exact AMK.leave_ok hf h
  case rangeFunc => exact AMK.rangeF_ok E hf h
  case cond c x y =>
    unfold kCond at h
    rw [evK_eq] at h
    rw [e]
    split at h <;> first | (cases h; done) | skip
    rename_i t ht
    rw [ht]
    cases t <;> (simp only [Option.some.injEq] at h; subst h; exact ⟨hf, rfl⟩)
  case exit id =>
    unfold kExit at h
    split at h
    · rename_i k' hk
      rw [hk]; simp only [Option.some.injEq] at h; subst h; exact ⟨hf, rfl⟩
    · rename_i hk
      rw [hk]; exact AMK.leave_ok hf h
  case goto l =>
    unfold kGoto at h
    split at h
    · rename_i k' hk
      rw [hk]; simp only [Option.some.injEq] at h; subst h; exact ⟨hf, rfl⟩
    · rename_i hk
      rw [hk]; exact AMK.leave_ok hf h
  case region i ops draw =>
    unfold kRegion at h
    cases draw with
    | false => simp only [Option.some.injEq] at h; subst h; exact ⟨hf, rfl⟩
    | true =>
      simp only [kDraw] at h
      split at h <;> first | (cases h; done) | skip
      rename_i tm hh nx hd
      have := drawK_ok E hf.1 hd
      rw [e, eh, en, this]
      simp only [Option.some.injEq] at h
      subst h
      exact ⟨hf, rfl⟩

noncomputable def kOps (s : AMK) (all rest : List Oper) (k : List AItem) : Option AMK := match opsK E s.cur.n all rest s.cur.tmps s.heap s.next with
        | some (tm, h, nx, []) => some { cur := { s.cur with tmps := tm, todo := k }, stack := s.stack, heap := h, next := nx }
        | some (tm, h, nx, o :: rest') => AMK.op E { cur := { s.cur with tmps := tm }, stack := s.stack, heap := h, next := nx } all o rest' k
        | none => none
noncomputable def kStart (s : AMK) (k : List AItem) : Option AMK := match s.cur.round with
        | some l => (match s.heap.get l with
          | some (.loop .ready pe fn tmps ps asg body dfr) => (match s.heap.set l (.loop .busy pe fn tmps ps asg body dfr) with
            | some h' => some { s with cur := { s.cur with todo := k }, heap := h' }
            | none => none)
          | _ => none)
        | none => none
noncomputable def kEndRange (s : AMK) (l : Nat) (k : List AItem) : Option AMK := match s.heap.get l with
        | some (.loop st pe _ _ _ _ _ _) => (match st with
          | .busy => none
          | _ => (match s.heap.set l .dead with
            | some h' => some { s with cur := { s.cur with todo := pend pe k }, heap := h' }
            | none => none))
        | _ => none
noncomputable def kItem (s : AMK) (i : AItem) (k : List AItem) : Option AMK :=
  match i with
      | .code c => s.code E c k
      | .inBlock _ => some (s.to k)
      | .inScope _ => some (s.to k)
      | .inLoop b => some (s.to (.code b :: .inLoop b :: k))
      | .ops all rest => kOps E s all rest k
      | .start => kStart s k
      | .inRange _ => none
      | .endRange l => kEndRange s l k
noncomputable def AMK.step (s : AMK) : Option AMK :=
  match s.cur.ret with
  | true => s.unwind E
  | false => match s.cur.todo with
    | [] => s.leave none
    | i :: k => kItem E s i k
theorem AMK.step_ok {s s' : AMK} (hf : s.fits) (h : s.step E = some s') : s'.fits ∧ s.abs.step E = some s'.abs := by
  unfold AMK.step at h
  unfold AM.step
  have e : s.abs.cur.tmps = s.cur.tmps.toL s.cur.n := rfl
  have eh : s.abs.heap = s.heap := rfl
  have en : s.abs.next = s.next := rfl
  have er : s.abs.cur.ret = s.cur.ret := rfl
  have et : s.abs.cur.todo = s.cur.todo := rfl
  have ero : s.abs.cur.round = s.cur.round := rfl
  rw [er]
  split at h
  · rename_i hr
    rw [hr]; exact AMK.unwind_ok E hf h
  · rename_i hr
    rw [hr]
    simp only
    rw [et]
    split at h
    · rename_i ht
      rw [ht]; exact AMK.leave_ok hf h
    · rename_i i k ht
      rw [ht]
      unfold kItem at h
      cases i <;> simp only at h ⊢
      case code c => exact AMK.code_ok E hf h
      case inBlock => simp only [Option.some.injEq] at h; subst h; exact ⟨hf, rfl⟩
      case inScope => simp only [Option.some.injEq] at h; subst h; exact ⟨hf, rfl⟩
      case inLoop => simp only [Option.some.injEq] at h; subst h; exact ⟨hf, rfl⟩
      case inRange => cases h
      case ops all rest =>
        unfold kOps at h
        rw [e, eh, en, opsK_eq E hf.1]
        split at h <;> first | (cases h; done) | skip
        · rename_i tm hh nx ho
          rw [ho]
          simp only [Option.some.injEq] at h
          subst h
          exact ⟨hf, rfl⟩
        · rename_i tm hh nx o rest' ho
          rw [ho]
          exact AMK.op_ok E (s := { cur := { s.cur with tmps := tm }, stack := s.stack, heap := hh, next := nx }) hf h
      case start =>
        unfold kStart at h
        rw [ero, eh]
        split at h <;> first | (cases h; done) | skip
        rename_i l hl
        rw [hl]
        simp only
        split at h <;> first | (cases h; done) | skip
        rename_i hg
        rw [hg]
        simp only
        split at h <;> first | (cases h; done) | skip
        rename_i h' hs
        rw [hs]
        simp only [Option.some.injEq] at h
        subst h
        refine ⟨hf, ?_⟩
        rw [← hl]
        rfl
      case endRange l =>
        unfold kEndRange at h
        rw [eh]
        split at h <;> first | (cases h; done) | skip
        rename_i st pe _ _ _ _ _ _ hg
        rw [hg]
        cases st <;> simp only at h ⊢ <;> first | (cases h; done) | skip
        all_goals
          split at h <;> first | (cases h; done) | skip
          rename_i h' hs
          rw [hs]
          simp only [Option.some.injEq] at h
          subst h
          exact ⟨hf, rfl⟩

end
end Go.Ev
