/- One operation, its operands read by whatever means. -/
import Derived.Test.YteklahfgplbmcaaDoorEvK
namespace Go.Ev
section
variable {P : Program} (E : Env P)
abbrev Rd := Operand → Option RV

noncomputable def rL (r : Rd) (l : List Operand) : Option (List RV) :=
  List.rec (motive := fun _ => Option (List RV)) (some []) (fun x _ ih => Option.rec (motive := fun _ => Option (List RV)) none (fun v => Option.rec (motive := fun _ => Option (List RV)) none (fun m => some (v :: m)) ih) (r x)) l
theorem rL_eq (tm : List RV) : ∀ l, rL (ev E tm) l = evL E tm l
  | [] => rfl
  | x :: l => by
    show Option.rec (motive := fun _ => Option (List RV)) none (fun v => Option.rec (motive := fun _ => Option (List RV)) none (fun m => some (v :: m)) (rL (ev E tm) l)) (ev E tm x) = _
    rw [rL_eq tm l, evL]
    cases ev E tm x <;> cases evL E tm l <;> rfl
def rO (r : Rd) : Option Operand → Option (Option RV)
  | none => some none
  | some x => match r x with | some v => some (some v) | none => none
theorem rO_eq (tm : List RV) : ∀ x, rO (ev E tm) x = evO E tm x
  | none => rfl
  | some _ => rfl
def rP (r : Rd) : List (Nat × Operand) → Option (List (Nat × RV))
  | [] => some []
  | (i, x) :: l => match r x with
    | some v => (match rP r l with | some m => some ((i, v) :: m) | none => none)
    | none => none
theorem rP_eq (tm : List RV) : ∀ l, rP (ev E tm) l = partsA E tm l
  | [] => rfl
  | (i, x) :: l => by rw [rP, partsA, rP_eq tm l]; rfl

/-- A whole number that is reckoned ahead of what is done with it. -/
noncomputable def fi {β : Type} (z : Int) (k : Int → β) : β :=
  Int.rec (motive := fun _ => β) (fun m => Nat.rec (motive := fun _ => β) (k (.ofNat 0)) (fun p _ => k (.ofNat (Nat.succ p))) m) (fun m => Nat.rec (motive := fun _ => β) (k (.negSucc 0)) (fun p _ => k (.negSucc (Nat.succ p))) m) z
theorem fi_eq {β : Type} (z : Int) (k : Int → β) : fi z k = k z := by cases z <;> rename_i m <;> cases m <;> rfl
/-- A value so handed on. -/
noncomputable def fv (h : Tr AObj) (nx : Nat) (x : Option RV) : Option ANext :=
  match x with
  | some v => (match v with
    | .int k z => fi z fun z => some (.val (.int k z) h nx)
    | v => some (.val v h nx))
  | none => none
theorem fv_eq (h : Tr AObj) (nx : Nat) (x : Option RV) : fv h nx x = same h nx x := by
  cases x with
  | none => rfl
  | some v => cases v <;> first | rfl | (unfold fv same; exact fi_eq _ _)

def rPick (r : Rd) (h : Tr AObj) (nx : Nat) (c a b : Operand) : Option ANext := match r c with
    | some (.bool c) => (match c with | true => same h nx (r a) | false => same h nx (r b))
    | _ => none
def rAlloc (h : Tr AObj) (nx t : Nat) : Option ANext := match allocA E h nx t with | some h' => some (.val (.ptr nx 0) h' (nx + 1)) | none => none
def rBox (r : Rd) (h : Tr AObj) (nx : Nat) (x : Operand) : Option ANext := match r x with
    | some v => (match boxA h nx v with | some h' => some (.val (.ptr nx 0) h' (nx + 1)) | none => none)
    | none => none
def rBuild (r : Rd) (h : Tr AObj) (nx t : Nat) (ps : List (Nat × Operand)) : Option ANext := match rP r ps with
    | some ps => same h nx (buildA E t ps)
    | none => none
def rBuildSlice (r : Rd) (h : Tr AObj) (nx t n : Nat) (ps : List (Nat × Operand)) : Option ANext := match rP r ps with
    | some ps => (match buildSliceA E h nx t n ps with | some (v, h') => some (.val v h' (nx + 1)) | none => none)
    | none => none
def rLoad (r : Rd) (h : Tr AObj) (nx t : Nat) (a : Operand) : Option ANext := match r a with
    | some (.ptr id off) => same h nx (loadA E h t id off)
    | _ => none
def rStore (r : Rd) (h : Tr AObj) (nx t : Nat) (a x : Operand) : Option ANext := match r a with
    | some (.ptr id off) => (match r x with
      | some v => (match storeA E h t id off v with | some h' => some (.skip h' nx) | none => none)
      | none => none)
    | _ => none
def rNil (r : Rd) (h : Tr AObj) (nx : Nat) (x : Operand) : Option ANext := match r x with
    | some (.ptr id off) => some (.val (.ptr id off) h nx)
    | some (.fn f a c) => some (.val (.fn f a c) h nx)
    | some (.yield l) => some (.val (.yield l) h nx)
    | _ => none
noncomputable def rBin (r : Rd) (h : Tr AObj) (nx : Nat) (op : BinOp) (t : Nat) (x y : Operand) : Option ANext := match r x with
    | some a => (match r y with
      | some b => fv h nx (binB E op t a b (isConst x) (isConst y))
      | none => none)
    | none => none
noncomputable def rUn (r : Rd) (h : Tr AObj) (nx : Nat) (op : UnOp) (x : Operand) : Option ANext := match r x with
    | some a => fv h nx (unA op a)
    | none => none
noncomputable def rConv (r : Rd) (h : Tr AObj) (nx s d : Nat) (x : Operand) : Option ANext := match r x with
    | some a => fv h nx (convA E h s d a)
    | none => none
noncomputable def rFunc (r : Rd) (h : Tr AObj) (nx : Nat) (fn : Fn) (first captured : List Operand) : Option ANext := match fn with
    | .func f => (match rL r first with
      | some a => (match rL r captured with | some c => some (.val (.fn f a c) h nx) | none => none)
      | none => none)
    | _ => none
def rMake (r : Rd) (h : Tr AObj) (nx t : Nat) (l c : Operand) : Option ANext := match r l with
    | some l => (match r c with
      | some c => (match makeA E h nx t l c with | some (v, h') => some (.val v h' (nx + 1)) | none => none)
      | none => none)
    | none => none
def rSlice (r : Rd) (h : Tr AObj) (nx t : Nat) (x : Operand) (lo hi mx : Option Operand) : Option ANext := match r x with
    | some a => (match rO r lo with
      | some lo => (match rO r hi with
        | some hi => (match rO r mx with | some mx => same h nx (sliceA E h t a lo hi mx) | none => none)
        | none => none)
      | none => none)
    | none => none
def rFieldAddr (r : Rd) (h : Tr AObj) (nx t : Nat) (x : Operand) (f : Nat) : Option ANext := match r x with | some a => same h nx (fieldAddrA E t a f) | none => none
def rField (r : Rd) (h : Tr AObj) (nx t : Nat) (x : Operand) (f : Nat) : Option ANext := match r x with | some a => same h nx (fieldA E t a f) | none => none
def rIndexAddr (r : Rd) (h : Tr AObj) (nx t : Nat) (x ix : Operand) : Option ANext := match r x with
    | some a => (match r ix with | some i => same h nx (indexAddrA E t a i) | none => none)
    | none => none
def rIndex (r : Rd) (h : Tr AObj) (nx t : Nat) (x ix : Operand) : Option ANext := match r x with
    | some a => (match r ix with | some i => same h nx (indexA E t a i) | none => none)
    | none => none
def rExtract (r : Rd) (h : Tr AObj) (nx : Nat) (x : Operand) (i : Nat) : Option ANext := match r x with | some a => same h nx (extractA a i) | none => none
def rBuiltin (h : Tr AObj) (nx : Nat) (b : Builtin) (ts : List Nat) (args : List RV) : Option ANext := match b, ts, args with
      | .len, [t], [x] => same h nx (lenA E t x)
      | .cap, [t], [x] => same h nx (capA E t x)
      | .append, [st, xt], [s, x] => (match appendA E h nx st xt s x with
        | some (y, h', nx') => some (.val y h' nx')
        | none => (match appendM E h nx st xt s x with
          | some (y, h', nx') => some (.val y h' nx')
          | none => none))
      | .copy, [t, _], [d, s] => (match copyA E h t d s with
        | some (y, h') => some (.val y h' nx)
        | none => none)
      | .min, _, args => same h nx (minA args)
      | .max, _, args => same h nx (maxA args)
      | _, _, _ => none
def rCallV (r : Rd) (args : List RV) (f : Operand) : Option ANext := match r f with
      | some (.fn g first captured) => (match E.func g with
        | some _ => some (.enter g (first ++ args ++ captured))
        | none => none)
      | some (.yield l) => some (.yield l args)
      | _ => none
noncomputable def rCall (r : Rd) (h : Tr AObj) (nx : Nat) (c : Call) : Option ANext :=
  match rL r c.args.toList with
  | none => none
  | some args => match c.callee with
    | .builtin b => rBuiltin E h nx b c.argTypes.toList args
    | .value f => rCallV E r args f
    | .invoke _ _ => none
noncomputable def rDefer (r : Rd) (c : Call) : Option ANext := match c.callee with
    | .value f => (match r f with
      | some (.fn g first captured) => (match rL r c.args.toList with
        | some args => (match E.func g with | some _ => some (.defer g (first ++ args) captured) | none => none)
        | none => none)
      | _ => none)
    | _ => none

noncomputable def rop (r : Rd) (o : Op) (h : Tr AObj) (nx : Nat) : Option ANext :=
  match o with
  | .move x => same h nx (r x)
  | .assign x => same h nx (r x)
  | .pick c a b => rPick r h nx c a b
  | .alloc t => rAlloc E h nx t
  | .box _ x => rBox r h nx x
  | .build t ps => rBuild E r h nx t ps.toList
  | .buildSlice t n ps => rBuildSlice E r h nx t n ps.toList
  | .load t a => rLoad E r h nx t a
  | .store t a x => rStore E r h nx t a x
  | .nilCheck x => rNil r h nx x
  | .binOp op t x y _ => rBin E r h nx op t x y
  | .unOp op _ x => rUn r h nx op x
  | .convert s d x => rConv E r h nx s d x
  | .makeFunc fn first captured => rFunc r h nx fn first.toList captured.toList
  | .makeSlice t l c => rMake E r h nx t l c
  | .slice t x lo hi mx => rSlice E r h nx t x lo hi mx
  | .fieldAddr t x f => rFieldAddr E r h nx t x f
  | .field t x f => rField E r h nx t x f
  | .indexAddr t x ix => rIndexAddr E r h nx t x ix
  | .index t x ix => rIndex E r h nx t x ix
  | .extract x i => rExtract r h nx x i
  | .call c => rCall E r h nx c
  | .defer c => rDefer E r c
  | _ => none

theorem rop_eq (o : Oper) (tm : List RV) (h : Tr AObj) (nx : Nat) : rop E (ev E tm) o.op h nx = aop E o tm h nx := by
  unfold rop aop
  cases o.op <;> first
    | rfl
    | (simp only [rBuild, rBuildSlice, rFunc, rDefer, rCall, rCallV, rBuiltin, rBin, rUn, rConv, aCall, rL_eq, rP_eq, fv_eq]; done)
    | (simp only [rBuild, rBuildSlice, rFunc, rDefer, rCall, rCallV, rBuiltin, rBin, rUn, rConv, aCall, rL_eq, rP_eq, fv_eq]; rfl)
    | (simp only [rSlice, rO_eq]; rfl)
end
end Go.Ev
