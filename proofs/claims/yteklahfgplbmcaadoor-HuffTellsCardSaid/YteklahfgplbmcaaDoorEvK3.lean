/- The machine over boxes: its steps. -/
import Derived.Test.YteklahfgplbmcaaDoorEvK2
namespace Go.Ev
noncomputable def rdK (n : Nat) (t : FT) (i : Nat) : Option RV := match Nat.blt i n with | true => some (t.get i) | false => none
theorem rdK_eq (n : Nat) (t : FT) (i : Nat) : rdK n t i = nth (t.toL n) i := by
  unfold rdK
  rw [nth_eq, FT.toL_get]
  cases hb : Nat.blt i n with
  | true => rw [if_pos (show i < n from Nat.le_of_ble_eq_true hb)]
  | false => rw [if_neg (fun h => by rw [blt_eq, decide_eq_true h] at hb; cases hb)]
noncomputable def putK (n : Nat) (t : FT) (d : Option Nat) (v : RV) : FT :=
  match d with
  | some d => (match Nat.blt d n with | true => t.put d v | false => t)
  | none => t
theorem putK_eq {n : Nat} (hn : n ≤ 512) (t : FT) (d : Option Nat) (v : RV) : (putK n t d v).toL n = putO (t.toL n) d v := by
  cases d with
  | none => rfl
  | some d =>
    simp only [putK, putO]
    cases hb : Nat.blt d n with
    | true => exact FT.toL_put hn (Nat.le_of_ble_eq_true hb)
    | false =>
      simp only
      rw [putAt_eq, List.set_eq_of_length_le]
      rw [FT.toL_length]
      refine Nat.le_of_not_lt fun h => ?_
      rw [blt_eq, decide_eq_true h] at hb; cases hb

section
variable {P : Program} (E : Env P)

noncomputable def evK (n : Nat) (t : FT) : Rd
  | .tmp i => (match Nat.blt i n with | true => some (t.get i) | false => some (.tuple []))
  | .const v => rv v
  | .global g => (match Nat.blt g E.gl with | true => some (.ptr g 0) | false => none)
  | .func f => some (.fn f [] [])
theorem evK_eq (n : Nat) (t : FT) : evK E n t = ev E (t.toL n) := by
  funext x
  cases x <;> simp only [evK, ev]
  case global => rfl
  rename_i i
  rw [← rdK_eq, rdK]
  cases Nat.blt i n <;> rfl

noncomputable def yieldedK (all : List Oper) (n : Nat) (tm : FT) (j : Nat) : Option Bool :=
  match nth all j with
  | some o => (match o.dst with
    | some d => (match rdK n tm d with
      | some (.bool b) => some b
      | _ => none)
    | none => none)
  | none => none
noncomputable def wantedK (all : List Oper) (o : Oper) (n : Nat) (tm : FT) : Bool :=
  match o.guard with
  | none => true
  | some (j, want) => (match yieldedK all n tm j with
    | some b => (match b, want with | true, true => true | false, false => true | _, _ => false)
    | none => false)
theorem wantedK_eq (all : List Oper) (o : Oper) (n : Nat) (tm : FT) : wantedK all o n tm = wantedA all o (tm.toL n) := by
  unfold wantedK wantedA yieldedK yieldedA
  cases o.guard with
  | none => rfl
  | some p =>
    simp only
    cases nth all p.1 with
    | none => rfl
    | some o =>
      simp only
      cases o.dst with
      | none => rfl
      | some d => simp only [rdK_eq]; rfl

structure AFrameK where
  fn : Nat
  n : Nat
  tmps : FT
  todo : List AItem
  defers : List ADef
  ret : Bool
  dfr : Bool
  round : Option Nat
structure AMK where
  cur : AFrameK
  stack : List AFrameK
  heap : Tr AObj
  next : Nat
noncomputable def AFrameK.abs (f : AFrameK) : AFrame := ⟨f.fn, f.tmps.toL f.n, f.todo, f.defers, f.ret, f.dfr, f.round⟩
noncomputable def AMK.abs (s : AMK) : AM := ⟨s.cur.abs, s.stack.map AFrameK.abs, s.heap, s.next⟩
def AMK.fits (s : AMK) : Prop := s.cur.n ≤ 512 ∧ ∀ f ∈ s.stack, f.n ≤ 512

noncomputable def opsK (n : Nat) (all : List Oper) (l : List Oper) : FT → Tr AObj → Nat → Option (FT × Tr AObj × Nat × List Oper) :=
  List.rec (motive := fun _ => FT → Tr AObj → Nat → Option (FT × Tr AObj × Nat × List Oper)) (fun tm h nx => some (tm, h, nx, []))
    (fun o rest ih tm h nx => match wantedK all o n tm with
      | false => ih (putK n tm o.dst (.tuple [])) h nx
      | true => match rop E (evK E n tm) o.op h nx with
        | some (.val v h' nx') => ih (putK n tm o.dst v) h' nx'
        | some (.skip h' nx') => ih (putK n tm o.dst (.tuple [])) h' nx'
        | some (.enter _ _) => some (tm, h, nx, o :: rest)
        | some (.yield _ _) => some (tm, h, nx, o :: rest)
        | some (.defer _ _ _) => some (tm, h, nx, o :: rest)
        | none => none) l
theorem opsK_eq {n : Nat} (hn : n ≤ 512) (all : List Oper) : ∀ (l : List Oper) (tm : FT) (h : Tr AObj) (nx : Nat),
    opsA E all l (tm.toL n) h nx = (opsK E n all l tm h nx).map fun x => (x.1.toL n, x.2)
  | [], tm, h, nx => rfl
  | o :: rest, tm, h, nx => by
    have e : opsK E n all (o :: rest) tm h nx = match wantedK all o n tm with
      | false => opsK E n all rest (putK n tm o.dst (.tuple [])) h nx
      | true => match rop E (evK E n tm) o.op h nx with
        | some (.val v h' nx') => opsK E n all rest (putK n tm o.dst v) h' nx'
        | some (.skip h' nx') => opsK E n all rest (putK n tm o.dst (.tuple [])) h' nx'
        | some (.enter _ _) => some (tm, h, nx, o :: rest)
        | some (.yield _ _) => some (tm, h, nx, o :: rest)
        | some (.defer _ _ _) => some (tm, h, nx, o :: rest)
        | none => none := rfl
    rw [e, opsA, wantedK_eq]
    cases wantedA all o (tm.toL n) with
    | false => simp only; rw [← opsK_eq hn all rest, putK_eq hn]
    | true =>
      simp only
      rw [evK_eq, rop_eq]
      cases aop E o (tm.toL n) h nx with
      | none => rfl
      | some a => cases a <;> simp only [Option.map_some] <;> rw [← opsK_eq hn all rest, putK_eq hn]

noncomputable def enterK (f : Nat) (fn : Func) (args : List RV) (dfr : Bool) : Option AFrameK :=
  match fn.body with
  | some b => (match Nat.ble fn.ntmps 512 with
    | true => (match Nat.ble args.length fn.ntmps with
      | true => some { fn := f, n := fn.ntmps, tmps := FT.ofL args, todo := [.code b], defers := [], ret := false, dfr, round := none }
      | false => none)
    | false => none)
  | none => none
theorem enterK_ok {f : Nat} {fn : Func} {args : List RV} {dfr : Bool} {a : AFrameK} (h : enterK f fn args dfr = some a) : a.n ≤ 512 ∧ enterF f fn args dfr = some a.abs := by
  unfold enterK at h
  split at h <;> first | (cases h; done) | skip
  rename_i b hb
  split at h <;> first | (cases h; done) | skip
  rename_i h1
  split at h <;> first | (cases h; done) | skip
  rename_i h2
  simp only [Option.some.injEq] at h
  subst h
  refine ⟨Nat.le_of_ble_eq_true h1, ?_⟩
  unfold enterF
  rw [hb]
  simp only [AFrameK.abs, Option.some.injEq, AFrame.mk.injEq, true_and, and_true]
  exact (FT.toL_args (Nat.le_of_ble_eq_true h2) (Nat.le_of_ble_eq_true h1)).symm

noncomputable def AFrameK.finish (a : AFrameK) (v : RV) : AFrameK :=
  match a.todo with
  | .ops all (o :: rest) :: k => { a with tmps := putK a.n a.tmps o.dst v, todo := .ops all rest :: k }
  | .inRange l :: k => { a with todo := .endRange l :: k }
  | .start :: k => { a with todo := k }
  | _ => a
theorem AFrameK.finish_n (a : AFrameK) (v : RV) : (a.finish v).n = a.n := by unfold AFrameK.finish; split <;> rfl
theorem AFrameK.finish_eq {a : AFrameK} (hn : a.n ≤ 512) (v : RV) : (a.finish v).abs = a.abs.finish v := by
  obtain ⟨fn, n, tm, todo, df, ret, dfr, rd⟩ := a
  simp only [AFrameK.finish, AFrame.finish, AFrameK.abs]
  split <;> simp_all [putK_eq]

noncomputable def AMK.back (s : AMK) (v : RV) : Option AMK :=
  match s.stack with
  | [] => none
  | c :: rest => match s.cur.dfr with
    | false => some { s with cur := c.finish v, stack := rest }
    | true => some { s with cur := c, stack := rest }
theorem AMK.back_ok {s s' : AMK} {v : RV} (hf : s.fits) (h : s.back v = some s') : s'.fits ∧ s.abs.back v = some s'.abs := by
  obtain ⟨c, st, hp, nx⟩ := s
  obtain ⟨h1, h2⟩ := hf
  simp only [AMK.back, AM.back, AMK.abs] at h ⊢
  cases st with
  | nil => cases h
  | cons c' rest =>
    simp only [List.map_cons] at h ⊢
    have hc : c'.n ≤ 512 := h2 c' (by simp)
    have hr : ∀ f ∈ rest, f.n ≤ 512 := fun f hf => h2 f (by simp [hf])
    have e : c.abs.dfr = c.dfr := rfl
    rw [e]
    cases hd : c.dfr with
    | false =>
      rw [hd] at h
      simp only [Option.some.injEq] at h
      subst h
      refine ⟨⟨?_, hr⟩, ?_⟩
      · show (c'.finish v).n ≤ 512
        rw [AFrameK.finish_n]; exact hc
      · simp [AFrameK.finish_eq hc]
    | true =>
      rw [hd] at h
      simp only [Option.some.injEq] at h
      subst h
      exact ⟨⟨hc, hr⟩, rfl⟩

noncomputable def AMK.leave (s : AMK) (jump : Option Code) : Option AMK :=
  match s.cur.round with
  | none => (match jump with
    | none => some { s with cur := { s.cur with ret := true } }
    | some .ret => some { s with cur := { s.cur with ret := true } }
    | _ => none)
  | some l => (match s.heap.get l with
    | some (.loop _ _ fn tmps ps asg body dfr) => (match s.heap.set l (.loop (match jump with | none => .ready | some _ => .done) jump fn tmps ps asg body dfr) with
      | some h' => AMK.back { s with heap := h' } (.bool jump.isNone)
      | none => none)
    | _ => none)
theorem AMK.leave_ok {s s' : AMK} {j : Option Code} (hf : s.fits) (h : s.leave j = some s') : s'.fits ∧ s.abs.leave j = some s'.abs := by
  unfold AMK.leave at h
  unfold AM.leave
  have e : s.abs.cur.round = s.cur.round := rfl
  have eh : s.abs.heap = s.heap := rfl
  rw [e, eh]
  split at h
  · rename_i hr
    rw [hr]
    simp only
    split at h <;> first | (cases h; done) | skip
    all_goals
      simp only [Option.some.injEq] at h
      subst h
      exact ⟨hf, rfl⟩
  · rename_i l hr
    rw [hr]
    simp only
    split at h <;> first | (cases h; done) | skip
    rename_i hg
    rw [hg]
    cases j
    all_goals
      simp only at h ⊢
      split at h <;> first | (cases h; done) | skip
      rename_i h' hs
      rw [hs]
      exact AMK.back_ok (s := { s with heap := h' }) hf h

noncomputable def resultsK (h : Tr AObj) (n : Nat) (tm : FT) : List ResultVar → Option (List RV)
  | [] => some []
  | .tmp t :: l => (match resultsK h n tm l with
    | some m => some ((match rdK n tm t with | some v => v | none => .tuple []) :: m)
    | none => none)
  | .cell a t :: l => (match rdK n tm a with
    | some (.ptr id off) => (match loadA E h t id off with
      | some v => (match resultsK h n tm l with | some m => some (v :: m) | none => none)
      | none => none)
    | _ => none)
theorem resultsK_eq (h : Tr AObj) (n : Nat) (tm : FT) : ∀ l, resultsK E h n tm l = resultsA E h (tm.toL n) l
  | [] => rfl
  | .tmp t :: l => by rw [resultsK, resultsA, resultsK_eq h n tm l, rdK_eq]; rfl
  | .cell a t :: l => by rw [resultsK, resultsA, resultsK_eq h n tm l, rdK_eq]; rfl
noncomputable def resultK (s : AMK) : Option RV :=
  match E.func s.cur.fn with
  | some fn => (match resultsK E s.heap s.cur.n s.cur.tmps fn.results.toList with
    | some [v] => some v
    | some l => some (.tuple l)
    | none => none)
  | none => none
theorem resultK_eq (s : AMK) : resultK E s = resultA E s.abs := by
  unfold resultK resultA
  have e : s.abs.cur.fn = s.cur.fn := rfl
  have e2 : s.abs.cur.tmps = s.cur.tmps.toL s.cur.n := rfl
  have e3 : s.abs.heap = s.heap := rfl
  rw [e, e2, e3]
  cases E.func s.cur.fn with
  | none => rfl
  | some fn => simp only [resultsK_eq]; rfl

def AMK.final (s : AMK) : Bool :=
  match s.cur.ret, s.stack, s.cur.defers, s.cur.dfr with
  | true, [], [], false => true
  | _, _, _, _ => false
theorem AMK.final_eq (s : AMK) : s.abs.final = s.final := by
  obtain ⟨⟨fn, n, tm, todo, df, ret, dfr, rd⟩, st, hp, nx⟩ := s
  cases ret <;> cases st <;> cases df <;> cases dfr <;> rfl

noncomputable def AMK.unwind (s : AMK) : Option AMK :=
  match s.cur.defers with
  | .collected b :: ds => (match s.heap.get b with
    | some (.deferred false) => (match s.heap.set b (.deferred true) with
      | some h' => some { s with cur := { s.cur with defers := ds }, heap := h' }
      | none => none)
    | _ => none)
  | .fn f args cap :: ds => (match E.func f with
    | some fn => (match enterK f fn (args ++ cap) true with
      | some a => some { s with cur := a, stack := { s.cur with defers := ds } :: s.stack }
      | none => none)
    | none => none)
  | [] => match resultK E s with
    | some v => s.back v
    | none => none
theorem AMK.unwind_ok {s s' : AMK} (hf : s.fits) (h : s.unwind E = some s') : s'.fits ∧ s.abs.unwind E = some s'.abs := by
  unfold AMK.unwind at h
  unfold AM.unwind
  have e : s.abs.cur.defers = s.cur.defers := rfl
  have eh : s.abs.heap = s.heap := rfl
  rw [e, eh]
  split at h
  · rename_i b ds hd
    rw [hd]
    simp only
    split at h <;> first | (cases h; done) | skip
    rename_i hg
    rw [hg]
    simp only
    split at h <;> first | (cases h; done) | skip
    rename_i h' hs
    rw [hs]
    simp only [Option.some.injEq] at h
    subst h
    exact ⟨hf, rfl⟩
  · rename_i f args cap ds hd
    rw [hd]
    simp only
    split at h <;> first | (cases h; done) | skip
    rename_i fn hfn
    rw [hfn]
    simp only
    split at h <;> first | (cases h; done) | skip
    rename_i a ha
    obtain ⟨a1, a2⟩ := enterK_ok ha
    rw [a2]
    simp only [Option.some.injEq] at h
    subst h
    refine ⟨⟨a1, fun f hf' => ?_⟩, rfl⟩
    rcases List.mem_cons.1 hf' with rfl | hf'
    · exact hf.1
    · exact hf.2 f hf'
  · rename_i hd
    rw [hd]
    simp only
    rw [← resultK_eq]
    split at h <;> first | (cases h; done) | skip
    rename_i v hv
    rw [hv]
    exact AMK.back_ok hf h

theorem foldSet_length : ∀ (ps : List Nat) (as tm : List RV), (foldSet ps as tm).length = tm.length
  | [], _, _ => by simp [foldSet]
  | _ :: _, [], _ => by simp [foldSet]
  | p :: ps, a :: as, tm => by rw [foldSet, foldSet_length ps as, putAt_eq]; simp

theorem toL_fold {ps : List Nat} {as tm : List RV} (h : tm.length ≤ 512) : (FT.ofL (foldSet ps as tm)).toL tm.length = foldSet ps as tm := by
  have := FT.toL_ofL (l := foldSet ps as tm) (by rw [foldSet_length]; exact h)
  rw [foldSet_length] at this
  exact this

noncomputable def AMK.op (s : AMK) (all : List Oper) (o : Oper) (rest : List Oper) (k : List AItem) : Option AMK :=
  match wantedK all o s.cur.n s.cur.tmps with
  | false => none
  | true => match rop E (evK E s.cur.n s.cur.tmps) o.op s.heap s.next with
    | some (.enter f args) => (match E.big f with
      | true => (match E.cl s.heap s.next f args with
        | some (v, h', nx') => some { cur := AFrameK.finish { s.cur with todo := .ops all (o :: rest) :: k } v, stack := s.stack, heap := h', next := nx' }
        | none => none)
      | false => (match E.func f with
        | some fn => (match enterK f fn args false with
          | some a => some { s with cur := a, stack := { s.cur with todo := .ops all (o :: rest) :: k } :: s.stack }
          | none => none)
        | none => none))
    | some (.yield l args) => (match s.heap.get l with
      | some (.loop _ _ fn tmps ps asg body _) => (match Nat.beq args.length ps.size with
        | true => (match Nat.ble tmps.length 512 with
          | true => some { s with
            cur := { fn := fn, n := tmps.length, tmps := FT.ofL (foldSet ps.toList args tmps), todo := [.code asg, .start, .code body], defers := [], ret := false, dfr := false, round := some l }
            stack := { s.cur with todo := .ops all (o :: rest) :: k } :: s.stack }
          | false => none)
        | false => none)
      | _ => none)
    | some (.defer f args cap) => (match s.cur.round with
      | none => some { s with cur := { s.cur with tmps := putK s.cur.n s.cur.tmps o.dst (.tuple []), todo := .ops all rest :: k, defers := .fn f args cap :: s.cur.defers } }
      | some _ => none)
    | _ => none
theorem AMK.op_ok {s s' : AMK} {all : List Oper} {o : Oper} {rest : List Oper} {k : List AItem} (hf : s.fits) (h : s.op E all o rest k = some s') : s'.fits ∧ s.abs.op E all o rest k = some s'.abs := by
  unfold AMK.op at h
  unfold AM.op
  have e : s.abs.cur.tmps = s.cur.tmps.toL s.cur.n := rfl
  have eh : s.abs.heap = s.heap := rfl
  have en : s.abs.next = s.next := rfl
  have er : s.abs.cur.round = s.cur.round := rfl
  rw [e, eh, en, er, ← wantedK_eq]
  split at h <;> first | (cases h; done) | skip
  rename_i hw
  rw [hw]
  simp only
  rw [evK_eq, rop_eq] at h
  have push : ∀ f ∈ ({ s.cur with todo := AItem.ops all (o :: rest) :: k } :: s.stack), AFrameK.n f ≤ 512 := by
    intro f hf'
    rcases List.mem_cons.1 hf' with rfl | hf'
    · exact hf.1
    · exact hf.2 f hf'
  split at h <;> first | (cases h; done) | skip
  · rename_i f args ha
    rw [ha]
    simp only
    split at h
    · rename_i hb
      rw [hb]
      simp only
      split at h <;> first | (cases h; done) | skip
      rename_i v h' nx' hcl
      rw [hcl]
      simp only [Option.some.injEq] at h
      subst h
      refine ⟨⟨?_, hf.2⟩, ?_⟩
      · show (AFrameK.finish _ v).n ≤ 512
        rw [AFrameK.finish_n]; exact hf.1
      · have fe : (AFrameK.finish { s.cur with todo := AItem.ops all (o :: rest) :: k } v).abs = AFrame.finish { s.abs.cur with todo := AItem.ops all (o :: rest) :: k } v := AFrameK.finish_eq (a := { s.cur with todo := AItem.ops all (o :: rest) :: k }) hf.1 v
        simp only [AMK.abs] at fe ⊢
        rw [fe]
    · rename_i hb
      rw [hb]
      simp only
      split at h <;> first | (cases h; done) | skip
      rename_i fn hfn
      rw [hfn]
      simp only
      split at h <;> first | (cases h; done) | skip
      rename_i a ha
      obtain ⟨a1, a2⟩ := enterK_ok ha
      rw [a2]
      simp only [Option.some.injEq] at h
      subst h
      exact ⟨⟨a1, push⟩, rfl⟩
  · rename_i l args ha
    rw [ha]
    simp only
    split at h <;> first | (cases h; done) | skip
    rename_i hg
    rw [hg]
    simp only
    split at h <;> first | (cases h; done) | skip
    rename_i hb
    rw [hb]
    simp only
    split at h <;> first | (cases h; done) | skip
    rename_i hl
    simp only [Option.some.injEq] at h
    subst h
    have hl' := Nat.le_of_ble_eq_true hl
    refine ⟨⟨hl', push⟩, ?_⟩
    simp only [AMK.abs, AFrameK.abs, List.map_cons, Option.some.injEq, AM.mk.injEq, AFrame.mk.injEq, true_and, and_true]
    exact (toL_fold hl').symm
  · rename_i f args cap ha
    rw [ha]
    simp only
    split at h <;> first | (cases h; done) | skip
    rename_i hr
    rw [hr]
    simp only [Option.some.injEq] at h
    subst h
    refine ⟨⟨hf.1, hf.2⟩, ?_⟩
    simp only [AMK.abs, AFrameK.abs, putK_eq hf.1]
end
end Go.Ev
