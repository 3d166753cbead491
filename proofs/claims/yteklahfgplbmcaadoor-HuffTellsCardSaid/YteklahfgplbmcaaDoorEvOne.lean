/- One operation. -/
import Derived.Test.YteklahfgplbmcaaDoorEvArr
namespace Go.Ev
section
variable {P : Program} (E : Env P)

def evL (tm : List RV) : List Operand → Option (List RV)
  | [] => some []
  | x :: l => match ev E tm x with
    | some v => (match evL tm l with | some m => some (v :: m) | none => none)
    | none => none

theorem evL_ok {σ : Sig} {tm : List RV} {ρ : Operand → Value} (hρ : ∀ x r, ev E tm x = some r → den σ r = some (ρ x)) : ∀ (l : List Operand) {m : List RV}, evL E tm l = some m → denL σ m = some (l.map ρ)
  | [], m, h => by simp only [evL, Option.some.injEq] at h; subst h; rfl
  | x :: l, m, h => by
    simp only [evL] at h
    cases hx : ev E tm x with
    | none => rw [hx] at h; cases h
    | some v =>
      cases hl : evL E tm l with
      | none => rw [hx, hl] at h; cases h
      | some m' =>
        rw [hx, hl] at h
        simp only [Option.some.injEq] at h
        subst h
        exact denL_cons_mk (hρ x v hx) (evL_ok hρ l hl)

def evO (tm : List RV) : Option Operand → Option (Option RV)
  | none => some none
  | some x => match ev E tm x with | some v => some (some v) | none => none

theorem evO_ok {σ : Sig} {tm : List RV} {ρ : Operand → Value} (hρ : ∀ x r, ev E tm x = some r → den σ r = some (ρ x)) {x : Option Operand} {m : Option RV} (h : evO E tm x = some m) : denO σ m (x.map ρ) := by
  cases x with
  | none => simp only [evO, Option.some.injEq] at h; subst h; trivial
  | some x =>
    simp only [evO] at h
    cases hx : ev E tm x with
    | none => rw [hx] at h; cases h
    | some v => rw [hx] at h; simp only [Option.some.injEq] at h; subst h; exact hρ x v hx

/-- A value, the memory as it is. -/
def same (h : Tr AObj) (nx : Nat) : Option RV → Option ANext
  | some v => some (.val v h nx)
  | none => none

def aCall (c : Call) (tm : List RV) (h : Tr AObj) (nx : Nat) : Option ANext :=
  match evL E tm c.args.toList with
  | none => none
  | some args => match c.callee with
    | .builtin b => (match b, c.argTypes.toList, args with
      | .len, [t], [x] => same h nx (lenA E t x)
      | .cap, [t], [x] => same h nx (capA E t x)
      | .append, [st, xt], [s, x] => (match appendA E h nx st xt s x with
        | some (y, h', nx') => some (.val y h' nx')
        | none => (match appendM E h nx st xt s x with
          | some (y, h', nx') => some (.val y h' nx')
          | none => none))
      | .copy, [t, _], [d, s] => (match copyA E h t d s with
        | some (y, h') => some (.val y h' nx)
        | none => none)
      | .min, _, args => same h nx (minA args)
      | .max, _, args => same h nx (maxA args)
      | _, _, _ => none)
    | .value f => (match ev E tm f with
      | some (.fn g first captured) => (match E.func g with
        | some _ => some (.enter g (first ++ args ++ captured))
        | none => none)
      | some (.yield l) => some (.yield l args)
      | _ => none)
    | .invoke _ _ => none

def aop (o : Oper) (tm : List RV) (h : Tr AObj) (nx : Nat) : Option ANext :=
  match o.op with
  | .move x => same h nx (ev E tm x)
  | .assign x => same h nx (ev E tm x)
  | .pick c a b => (match ev E tm c with
    | some (.bool c) => (match c with | true => same h nx (ev E tm a) | false => same h nx (ev E tm b))
    | _ => none)
  | .alloc t => (match allocA E h nx t with | some h' => some (.val (.ptr nx 0) h' (nx + 1)) | none => none)
  | .box _ x => (match ev E tm x with
    | some v => (match boxA h nx v with | some h' => some (.val (.ptr nx 0) h' (nx + 1)) | none => none)
    | none => none)
  | .build t ps => (match partsA E tm ps.toList with
    | some ps => same h nx (buildA E t ps)
    | none => none)
  | .buildSlice t n ps => (match partsA E tm ps.toList with
    | some ps => (match buildSliceA E h nx t n ps with | some (v, h') => some (.val v h' (nx + 1)) | none => none)
    | none => none)
  | .load t a => (match ev E tm a with
    | some (.ptr id off) => same h nx (loadA E h t id off)
    | _ => none)
  | .store t a x => (match ev E tm a with
    | some (.ptr id off) => (match ev E tm x with
      | some v => (match storeA E h t id off v with | some h' => some (.skip h' nx) | none => none)
      | none => none)
    | _ => none)
  | .nilCheck x => (match ev E tm x with
    | some (.ptr id off) => some (.val (.ptr id off) h nx)
    | some (.fn f a c) => some (.val (.fn f a c) h nx)
    | some (.yield l) => some (.val (.yield l) h nx)
    | _ => none)
  | .binOp op t x y _ => (match ev E tm x with
    | some a => (match ev E tm y with
      | some b => same h nx (binB E op t a b (isConst x) (isConst y))
      | none => none)
    | none => none)
  | .unOp op _ x => (match ev E tm x with
    | some a => same h nx (unA op a)
    | none => none)
  | .convert s d x => (match ev E tm x with
    | some a => same h nx (convA E h s d a)
    | none => none)
  | .makeFunc fn first captured => (match fn with
    | .func f => (match evL E tm first.toList with
      | some a => (match evL E tm captured.toList with | some c => some (.val (.fn f a c) h nx) | none => none)
      | none => none)
    | _ => none)
  | .makeSlice t l c => (match ev E tm l with
    | some l => (match ev E tm c with
      | some c => (match makeA E h nx t l c with | some (v, h') => some (.val v h' (nx + 1)) | none => none)
      | none => none)
    | none => none)
  | .slice t x lo hi mx => (match ev E tm x with
    | some a => (match evO E tm lo with
      | some lo => (match evO E tm hi with
        | some hi => (match evO E tm mx with | some mx => same h nx (sliceA E h t a lo hi mx) | none => none)
        | none => none)
      | none => none)
    | none => none)
  | .fieldAddr t x f => (match ev E tm x with | some a => same h nx (fieldAddrA E t a f) | none => none)
  | .field t x f => (match ev E tm x with | some a => same h nx (fieldA E t a f) | none => none)
  | .indexAddr t x ix => (match ev E tm x with
    | some a => (match ev E tm ix with | some i => same h nx (indexAddrA E t a i) | none => none)
    | none => none)
  | .index t x ix => (match ev E tm x with
    | some a => (match ev E tm ix with | some i => same h nx (indexA E t a i) | none => none)
    | none => none)
  | .extract x i => (match ev E tm x with | some a => same h nx (extractA a i) | none => none)
  | .call c => aCall E c tm h nx
  | .defer c => (match c.callee with
    | .value f => (match ev E tm f with
      | some (.fn g first captured) => (match evL E tm c.args.toList with
        | some args => (match E.func g with | some _ => some (.defer g (first ++ args) captured) | none => none)
        | none => none)
      | _ => none)
    | _ => none)
  | _ => none

variable {E}

theorem AOk.same {ρ : Operand → Value} {o : Oper} {σ : Sig} {h : Tr AObj} {w : World} (r : HRel σ h w.heap) {nx : Nat} {x : Option RV} {n : ANext} (hs : same h nx x = some n)
    (hv : ∀ v, x = some v → ∃ u, den σ v = some u ∧ (execOp ρ o).run P w = .ok (.value u) w) : AOk (P := P) ρ o σ h w n := by
  cases x with
  | none => cases hs
  | some v =>
    simp only [Ev.same, Option.some.injEq] at hs
    subst hs
    obtain ⟨u, h1, h2⟩ := hv v rfl
    exact ⟨σ, w, u, h2, h1, Way.refl r⟩

theorem ptr_den {σ : Sig} {id off : Nat} {v : Value} (h : den σ (.ptr id off) = some v) : ∃ b N, σ id = some (b, N) ∧ v = .pointer (some ⟨b, off, none⟩) := by
  simp only [den] at h
  cases hs : σ id with
  | none => rw [hs] at h; cases h
  | some p => rw [hs] at h; simp only [Option.some.injEq] at h; exact ⟨p.1, p.2, rfl, h.symm⟩

theorem fn_den {σ : Sig} {f : Nat} {a c : List RV} {v : Value} (h : den σ (.fn f a c) = some v) : ∃ as cs, denL σ a = some as ∧ denL σ c = some cs ∧ v = .func (.func f) as.toArray cs.toArray := by
  simp only [den] at h
  cases ha : denL σ a with
  | none => rw [ha] at h; cases h
  | some as =>
    cases hc : denL σ c with
    | none => rw [ha, hc] at h; cases h
    | some cs => rw [ha, hc] at h; simp only [Option.some.injEq] at h; exact ⟨as, cs, rfl, rfl, h.symm⟩

theorem yield_den {σ : Sig} {l : Nat} {v : Value} (h : den σ (.yield l) = some v) : ∃ b N, σ l = some (b, N) ∧ v = .func (.yield b) #[] #[] := by
  simp only [den] at h
  cases hs : σ l with
  | none => rw [hs] at h; cases h
  | some p => rw [hs] at h; simp only [Option.some.injEq] at h; exact ⟨p.1, p.2, rfl, h.symm⟩

theorem toList_one {α : Type} {a : Array α} {x : α} (h : a.toList = [x]) : a = #[x] := Array.ext' h
theorem toList_two {α : Type} {a : Array α} {x y : α} (h : a.toList = [x, y]) : a = #[x, y] := Array.ext' h

theorem aCall_ok {ρ : Operand → Value} {o : Oper} {σ : Sig} {h : Tr AObj} {w : World} (r : HRel σ h w.heap) {tm : List RV} (hρ : ∀ x r, ev E tm x = some r → den σ r = some (ρ x)) {nx : Nat} {c : Call} {n : ANext} (ho : o.op = .call c) (hc : aCall E c tm h nx = some n) :
    AOk (P := P) ρ o σ h w n := by
  obtain ⟨callee, args, argTypes⟩ := c
  unfold aCall at hc
  simp only at hc
  have run : (execOp ρ o).run P w = ((resolve ρ ⟨callee, args, argTypes⟩ o.type).run P w).andThen fun d w' => (invoke d.target d.args).run P w' := by
    simp only [execOp, ho, Sem.run_bind]
  cases hargs : evL E tm args.toList with
  | none => rw [hargs] at hc; cases hc
  | some as =>
    rw [hargs] at hc
    simp only at hc
    have hd := evL_ok E hρ _ hargs
    have hm : args.map ρ = (args.toList.map ρ).toArray := by apply Array.ext'; simp
    cases callee with
    | invoke => cases hc
    | builtin b =>
      simp only at hc
      have run2 : ∃ cs, (execOp ρ o).run P w = (Go.builtin b argTypes o.type cs (args.toList.map ρ).toArray).run P w := by
        refine ⟨args.map fun x => match x with | .const _ => true | _ => false, ?_⟩
        rw [run]
        simp only [resolve, Sem.run_pure, Result.andThen_ok, invoke, hm]
        rfl
      obtain ⟨cns, run2⟩ := run2
      split at hc <;> first | (cases hc; done) | skip
      · rename_i t x hat
        obtain ⟨v, vs', d1, d2, d3⟩ := denL_cons hd
        cases d2
        refine AOk.same r hc (fun y hy => ?_)
        obtain ⟨u, u1, u2⟩ := lenA_ok E hy d1 o.type w
        refine ⟨u, u1, ?_⟩
        rw [run2, d3, toList_one hat]
        simp [Go.builtin, u2]
      · rename_i t x hat
        obtain ⟨v, vs', d1, d2, d3⟩ := denL_cons hd
        cases d2
        refine AOk.same r hc (fun y hy => ?_)
        obtain ⟨u, u1, u2⟩ := capA_ok E hy d1 o.type w
        refine ⟨u, u1, ?_⟩
        rw [run2, d3, toList_one hat]
        simp [Go.builtin, u2]
      · rename_i st xt s x hat
        obtain ⟨v, vs', d1, d2, d3⟩ := denL_cons hd
        obtain ⟨v2, vs2, d4, d5, rfl⟩ := denL_cons d2
        cases d5
        split at hc
        · rename_i y h' nx' ha
          simp only [Option.some.injEq] at hc
          subst hc
          obtain ⟨σ', w', u, u1, u2, u3⟩ := appendA_ok E r ha d1 d4 o.type
          refine ⟨σ', w', u, ?_, u2, u3⟩
          rw [run2, d3, toList_two hat]
          simp [Go.builtin, u1]
        · split at hc <;> first | (cases hc; done) | skip
          rename_i y h' nx' ha
          simp only [Option.some.injEq] at hc
          subst hc
          obtain ⟨σ', w', u, u1, u2, u3⟩ := appendM_ok E r ha d1 d4 o.type
          refine ⟨σ', w', u, ?_, u2, u3⟩
          rw [run2, d3, toList_two hat]
          simp [Go.builtin, u1]
      · rename_i t t2 d s hat
        obtain ⟨v, vs', d1, d2, d3⟩ := denL_cons hd
        obtain ⟨v2, vs2, d4, d5, rfl⟩ := denL_cons d2
        cases d5
        split at hc <;> first | (cases hc; done) | skip
        rename_i y h' ha
        simp only [Option.some.injEq] at hc
        subst hc
        obtain ⟨w', u, u1, u2, u3⟩ := copyA_ok E r ha d1 d4 (t2 := t2) o.type
        refine ⟨σ, w', u, ?_, u2, u3⟩
        rw [run2, d3, toList_two hat]
        simp [Go.builtin, u1]
      · refine AOk.same r hc (fun y hy => ?_)
        obtain ⟨u, u1, u2⟩ := minA_ok hy hd argTypes o.type w
        refine ⟨u, u1, ?_⟩
        rw [run2]
        simp only [Go.builtin, Sem.run_bind]
        rw [u2]
        rfl
      · refine AOk.same r hc (fun y hy => ?_)
        obtain ⟨u, u1, u2⟩ := maxA_ok hy hd argTypes o.type w
        refine ⟨u, u1, ?_⟩
        rw [run2]
        simp only [Go.builtin, Sem.run_bind]
        rw [u2]
        rfl
    | value f =>
      simp only at hc
      split at hc <;> first | (cases hc; done) | skip
      · rename_i g first captured hf
        split at hc <;> first | (cases hc; done) | skip
        rename_i fn hg
        simp only [Option.some.injEq] at hc
        subst hc
        obtain ⟨vf, vc, f1, f2, f3⟩ := fn_den (hρ f _ hf)
        obtain ⟨_, _, hcall⟩ := E.func_ok g fn hg
        refine ⟨vf ++ args.toList.map ρ ++ vc, ?_, denL_append (denL_append f1 hd) f2⟩
        rw [run]
        simp only [resolve, f3, Deferred.ofValue, Sem.run_pure, Result.andThen_ok, invoke, hcall, hm]
        congr 2
        apply Array.ext'
        simp
      · rename_i l hf
        simp only [Option.some.injEq] at hc
        subst hc
        obtain ⟨b, N, f1, f2⟩ := yield_den (hρ f _ hf)
        refine ⟨_, (b, N), hd, f1, ?_⟩
        rw [run]
        simp only [resolve, f2, Deferred.ofValue, Sem.run_pure, Result.andThen_ok, invoke, hm]
        simp

theorem aop_ok {ρ : Operand → Value} {o : Oper} {σ : Sig} {h : Tr AObj} {w : World} (r : HRel σ h w.heap) {tm : List RV} (hρ : ∀ x r, ev E tm x = some r → den σ r = some (ρ x)) {nx : Nat} {n : ANext} (ha : aop E o tm h nx = some n) :
    AOk (P := P) ρ o σ h w n := by
  unfold aop at ha
  split at ha <;> first | (cases ha; done) | skip
  · rename_i x ho
    exact AOk.same r ha (fun v hv => ⟨_, hρ x v hv, by simp [execOp, ho]⟩)
  · rename_i x ho
    exact AOk.same r ha (fun v hv => ⟨_, hρ x v hv, by simp [execOp, ho]⟩)
  · rename_i c a b ho
    split at ha <;> first | (cases ha; done) | skip
    rename_i cb hcb
    have h1 : ρ c = .bool cb := by have := hρ c _ hcb; simp only [den, Option.some.injEq] at this; exact this.symm
    cases cb
    · exact AOk.same r ha (fun v hv => ⟨_, hρ b v hv, by simp [execOp, ho, h1, asBool]⟩)
    · exact AOk.same r ha (fun v hv => ⟨_, hρ a v hv, by simp [execOp, ho, h1, asBool]⟩)
  · rename_i t ho
    split at ha <;> first | (cases ha; done) | skip
    rename_i h' hal
    simp only [Option.some.injEq] at ha
    subst ha
    obtain ⟨σ', w', u, u1, u2, u3⟩ := allocA_ok E r hal
    exact ⟨σ', w', u, by simp [execOp, ho, u1], u2, u3⟩
  · rename_i t x ho
    split at ha <;> first | (cases ha; done) | skip
    rename_i v hv
    split at ha <;> first | (cases ha; done) | skip
    rename_i h' hal
    simp only [Option.some.injEq] at ha
    subst ha
    obtain ⟨σ', w', u, u1, u2, u3⟩ := boxA_ok (P := P) (t := t) r (hρ x v hv) hal
    exact ⟨σ', w', u, by simp [execOp, ho, u1], u2, u3⟩
  · rename_i t ps ho
    split at ha <;> first | (cases ha; done) | skip
    rename_i qs hq
    have hp := partsA_ok E hρ _ hq
    have hp' : partsRel σ qs (ps.map fun (i, x) => (i, ρ x)).toList := by simpa using hp
    refine AOk.same r ha (fun v hv => ?_)
    obtain ⟨u, u1, u2⟩ := buildA_ok E hv hp' w
    exact ⟨u, u1, by simp [execOp, ho, u2]⟩
  · rename_i t n ps ho
    split at ha <;> first | (cases ha; done) | skip
    rename_i qs hq
    have hp := partsA_ok E hρ _ hq
    have hp' : partsRel σ qs (ps.map fun (i, x) => (i, ρ x)).toList := by simpa using hp
    split at ha <;> first | (cases ha; done) | skip
    rename_i v h' hb
    simp only [Option.some.injEq] at ha
    subst ha
    obtain ⟨σ', w', u, u1, u2, u3⟩ := buildSliceA_ok E r hb hp'
    exact ⟨σ', w', u, by simp [execOp, ho, u1], u2, u3⟩
  · rename_i t a ho
    split at ha <;> first | (cases ha; done) | skip
    rename_i id off hid
    obtain ⟨b, N, e1, e2⟩ := ptr_den (hρ a _ hid)
    refine AOk.same r ha (fun v hv => ?_)
    obtain ⟨u, u1, u2⟩ := loadA_ok E r e1 hv
    exact ⟨u, u1, by simp [execOp, ho, e2, Instr.loadAt, Instr.sureAddr, u2]⟩
  · rename_i t a x ho
    split at ha <;> first | (cases ha; done) | skip
    rename_i id off hid
    obtain ⟨b, N, e1, e2⟩ := ptr_den (hρ a _ hid)
    split at ha <;> first | (cases ha; done) | skip
    rename_i v hv
    split at ha <;> first | (cases ha; done) | skip
    rename_i h' hs
    simp only [Option.some.injEq] at ha
    subst ha
    obtain ⟨w', u1, u2⟩ := storeA_ok E r e1 (hρ x v hv) hs
    exact ⟨σ, w', by simp [execOp, ho, e2, Instr.storeAt, Instr.sureAddr, u1], u2⟩
  · rename_i x ho
    split at ha <;> first | (cases ha; done) | skip
    · rename_i id off hid
      simp only [Option.some.injEq] at ha
      subst ha
      obtain ⟨b, N, e1, e2⟩ := ptr_den (hρ x _ hid)
      exact ⟨σ, w, ρ x, by simp [execOp, ho, e2], hρ x _ hid, Way.refl r⟩
    · rename_i f a c hid
      simp only [Option.some.injEq] at ha
      subst ha
      obtain ⟨as, cs, _, _, e2⟩ := fn_den (hρ x _ hid)
      exact ⟨σ, w, ρ x, by simp [execOp, ho, e2], hρ x _ hid, Way.refl r⟩
    · rename_i l hid
      simp only [Option.some.injEq] at ha
      subst ha
      obtain ⟨b, N, e1, e2⟩ := yield_den (hρ x _ hid)
      exact ⟨σ, w, ρ x, by simp [execOp, ho, e2], hρ x _ hid, Way.refl r⟩
  · rename_i op t x y yt ho
    split at ha <;> first | (cases ha; done) | skip
    rename_i a hx
    split at ha <;> first | (cases ha; done) | skip
    rename_i b hy
    refine AOk.same r ha (fun v hv => ?_)
    obtain ⟨g, u, u1, u2⟩ := binB_ok E hv (hρ x a hx) (hρ y b hy) x y w
    exact ⟨u, u1, by simp [execOp, ho, g, u2]⟩
  · rename_i op t x ho
    split at ha <;> first | (cases ha; done) | skip
    rename_i a hx
    refine AOk.same r ha (fun v hv => ?_)
    obtain ⟨u, u1, u2⟩ := unA_ok (P := P) hv (hρ x a hx) w
    exact ⟨u, u1, by simp [execOp, ho, u2]⟩
  · rename_i s d x ho
    split at ha <;> first | (cases ha; done) | skip
    rename_i a hx
    refine AOk.same r ha (fun v hv => ?_)
    obtain ⟨u, u1, u2⟩ := convA_ok E r hv (hρ x a hx)
    exact ⟨u, u1, by simp [execOp, ho, u2]⟩
  · rename_i fn first captured ho
    split at ha <;> first | (cases ha; done) | skip
    rename_i f
    split at ha <;> first | (cases ha; done) | skip
    rename_i a hfa
    split at ha <;> first | (cases ha; done) | skip
    rename_i c hfc
    simp only [Option.some.injEq] at ha
    subst ha
    have d1 := evL_ok E hρ _ hfa
    have d2 := evL_ok E hρ _ hfc
    refine ⟨σ, w, .func (.func f) (first.map ρ) (captured.map ρ), by simp [execOp, ho, Instr.makeFunc], ?_, Way.refl r⟩
    simp only [den, d1, d2]
    congr 2 <;> (apply Array.ext'; simp)
  · rename_i t l c ho
    split at ha <;> first | (cases ha; done) | skip
    rename_i lv hl
    split at ha <;> first | (cases ha; done) | skip
    rename_i cv hcv
    split at ha <;> first | (cases ha; done) | skip
    rename_i v h' hm
    simp only [Option.some.injEq] at ha
    subst ha
    obtain ⟨σ', w', u, u1, u2, u3⟩ := makeA_ok E r hm (hρ l lv hl) (hρ c cv hcv)
    exact ⟨σ', w', u, by simp [execOp, ho, u1], u2, u3⟩
  · rename_i t x lo hi mx ho
    split at ha <;> first | (cases ha; done) | skip
    rename_i a hx
    split at ha <;> first | (cases ha; done) | skip
    rename_i lo' hlo
    split at ha <;> first | (cases ha; done) | skip
    rename_i hi' hhi
    split at ha <;> first | (cases ha; done) | skip
    rename_i mx' hmx
    refine AOk.same r ha (fun v hv => ?_)
    obtain ⟨u, u1, u2⟩ := sliceA_ok E r hv (hρ x a hx) (evO_ok E hρ hlo) (evO_ok E hρ hhi) (evO_ok E hρ hmx)
    exact ⟨u, u1, by simp [execOp, ho, u2]⟩
  · rename_i t x f ho
    split at ha <;> first | (cases ha; done) | skip
    rename_i a hx
    refine AOk.same r ha (fun v hv => ?_)
    obtain ⟨u, u1, u2⟩ := fieldAddrA_ok E hv (hρ x a hx) w
    exact ⟨u, u1, by simp [execOp, ho, u2]⟩
  · rename_i t x f ho
    split at ha <;> first | (cases ha; done) | skip
    rename_i a hx
    refine AOk.same r ha (fun v hv => ?_)
    obtain ⟨u, u1, u2⟩ := fieldA_ok E hv (hρ x a hx) w
    exact ⟨u, u1, by simp [execOp, ho, u2]⟩
  · rename_i t x ix ho
    split at ha <;> first | (cases ha; done) | skip
    rename_i a hx
    split at ha <;> first | (cases ha; done) | skip
    rename_i i hi
    refine AOk.same r ha (fun v hv => ?_)
    obtain ⟨u, u1, u2⟩ := indexAddrA_ok E hv (hρ x a hx) (hρ ix i hi) w
    exact ⟨u, u1, by simp [execOp, ho, u2]⟩
  · rename_i t x ix ho
    split at ha <;> first | (cases ha; done) | skip
    rename_i a hx
    split at ha <;> first | (cases ha; done) | skip
    rename_i i hi
    refine AOk.same r ha (fun v hv => ?_)
    obtain ⟨u, u1, u2⟩ := indexA_ok E hv (hρ x a hx) (hρ ix i hi) w
    exact ⟨u, u1, by simp [execOp, ho, u2]⟩
  · rename_i x i ho
    split at ha <;> first | (cases ha; done) | skip
    rename_i a hx
    refine AOk.same r ha (fun v hv => ?_)
    obtain ⟨u, u1, u2⟩ := extractA_ok (P := P) hv (hρ x a hx) w
    exact ⟨u, u1, by simp [execOp, ho, u2]⟩
  · rename_i c ho
    exact aCall_ok r hρ ho ha
  · rename_i c ho
    obtain ⟨callee, args, argTypes⟩ := c
    simp only at ha
    split at ha <;> first | (cases ha; done) | skip
    rename_i f
    split at ha <;> first | (cases ha; done) | skip
    rename_i g first captured hf
    split at ha <;> first | (cases ha; done) | skip
    rename_i as hargs
    split at ha <;> first | (cases ha; done) | skip
    simp only [Option.some.injEq] at ha
    subst ha
    have hd := evL_ok E hρ _ hargs
    have hm : args.map ρ = (args.toList.map ρ).toArray := by apply Array.ext'; simp
    obtain ⟨vf, vc, f1, f2, f3⟩ := fn_den (hρ f _ hf)
    refine ⟨vf ++ args.toList.map ρ, vc, denL_append f1 hd, f2, ?_⟩
    simp only [execOp, ho, Sem.run_bind, resolve, f3, Deferred.ofValue, Sem.run_pure, Result.andThen_ok, hm]
    congr 3
    apply Array.ext'
    simp

end
end Go.Ev
