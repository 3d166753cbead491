/- The machine: its steps. -/
import Derived.Test.YteklahfgplbmcaaDoorEvStep
import Derived.Test.YteklahfgplbmcaaDoorEvDrawDp
namespace Go.Ev
section
variable {P : Program} (E : Env P)

/-- A frame to which a value is handed. -/
def AFrame.finish (a : AFrame) (v : RV) : AFrame :=
  match a.todo with
  | .ops all (o :: rest) :: k => { a with tmps := putO a.tmps o.dst v, todo := .ops all rest :: k }
  | .inRange l :: k => { a with todo := .endRange l :: k }
  | .start :: k => { a with todo := k }
  | _ => a

/-- The operations of a region, as far as they call nothing. -/
def opsA (all : List Oper) : List Oper → List RV → Tr AObj → Nat → Option (List RV × Tr AObj × Nat × List Oper)
  | [], tm, h, nx => some (tm, h, nx, [])
  | o :: rest, tm, h, nx =>
    match wantedA all o tm with
    | false => opsA all rest (putO tm o.dst (.tuple [])) h nx
    | true => match aop E o tm h nx with
      | some (.val v h' nx') => opsA all rest (putO tm o.dst v) h' nx'
      | some (.skip h' nx') => opsA all rest (putO tm o.dst (.tuple [])) h' nx'
      | some (.enter _ _) => some (tm, h, nx, o :: rest)
      | some (.yield _ _) => some (tm, h, nx, o :: rest)
      | some (.defer _ _ _) => some (tm, h, nx, o :: rest)
      | none => none

def undefs : Nat → List RV
  | 0 => []
  | n + 1 => .tuple [] :: undefs n

def enterF (f : Nat) (fn : Func) (args : List RV) (dfr : Bool) : Option AFrame :=
  match fn.body with
  | some b => some { fn := f, tmps := args ++ undefs (fn.ntmps - args.length), todo := [.code b], defers := [], ret := false, dfr, round := none }
  | none => none

def exitToA (id : Nat) : List AItem → Option (List AItem)
  | [] => none
  | .inBlock i :: k => (match Nat.beq i id with | true => some k | false => exitToA id k)
  | _ :: k => exitToA id k

def gotoInA (l : Nat) : List AItem → Option (List AItem)
  | [] => none
  | .inScope body :: k => (match findLabel body l with
    | some rest => some (.code rest :: .inScope body :: k)
    | none => gotoInA l k)
  | _ :: k => gotoInA l k

/-- Back to the caller. -/
def AM.back (s : AM) (v : RV) : Option AM :=
  match s.stack with
  | [] => none
  | c :: rest => match s.cur.dfr with
    | false => some { s with cur := c.finish v, stack := rest }
    | true => some { s with cur := c, stack := rest }

def AM.leave (s : AM) (jump : Option Code) : Option AM :=
  match s.cur.round with
  | none => (match jump with
    | none => some { s with cur := { s.cur with ret := true } }
    | some .ret => some { s with cur := { s.cur with ret := true } }
    | _ => none)
  | some l => (match s.heap.get l with
    | some (.loop _ _ fn tmps ps asg body dfr) => (match s.heap.set l (.loop (match jump with | none => .ready | some _ => .done) jump fn tmps ps asg body dfr) with
      | some h' => AM.back { s with heap := h' } (.bool jump.isNone)
      | none => none)
    | _ => none)

def resultsA (h : Tr AObj) (tm : List RV) : List ResultVar → Option (List RV)
  | [] => some []
  | .tmp t :: l => (match resultsA h tm l with
    | some m => some ((match nth tm t with | some v => v | none => .tuple []) :: m)
    | none => none)
  | .cell a t :: l => (match nth tm a with
    | some (.ptr id off) => (match loadA E h t id off with
      | some v => (match resultsA h tm l with | some m => some (v :: m) | none => none)
      | none => none)
    | _ => none)

def resultA (s : AM) : Option RV :=
  match E.func s.cur.fn with
  | some fn => (match resultsA E s.heap s.cur.tmps fn.results.toList with
    | some [v] => some v
    | some l => some (.tuple l)
    | none => none)
  | none => none

/-- Is it over? -/
def AM.final (s : AM) : Bool :=
  match s.cur.ret, s.stack, s.cur.defers, s.cur.dfr with
  | true, [], [], false => true
  | _, _, _, _ => false

def AM.to (s : AM) (todo : List AItem) : AM := { s with cur := { s.cur with todo := todo } }

def AM.unwind (s : AM) : Option AM :=
  match s.cur.defers with
  | .collected b :: ds => (match s.heap.get b with
    | some (.deferred false) => (match s.heap.set b (.deferred true) with
      | some h' => some { s with cur := { s.cur with defers := ds }, heap := h' }
      | none => none)
    | _ => none)
  | .fn f args cap :: ds => (match E.func f with
    | some fn => (match enterF f fn (args ++ cap) true with
      | some a => some { s with cur := a, stack := { s.cur with defers := ds } :: s.stack }
      | none => none)
    | none => none)
  | [] => match resultA E s with
    | some v => s.back v
    | none => none

def foldSet : List Nat → List RV → List RV → List RV
  | p :: ps, a :: as, tm => foldSet ps as (putAt tm p a)
  | _, _, tm => tm

def AM.op (s : AM) (all : List Oper) (o : Oper) (rest : List Oper) (k : List AItem) : Option AM :=
  match wantedA all o s.cur.tmps with
  | false => none
  | true => match aop E o s.cur.tmps s.heap s.next with
    | some (.enter f args) => (match E.big f with
      | true => (match E.cl s.heap s.next f args with
        | some (v, h', nx') => some { cur := AFrame.finish { s.cur with todo := .ops all (o :: rest) :: k } v, stack := s.stack, heap := h', next := nx' }
        | none => none)
      | false => (match E.func f with
        | some fn => (match enterF f fn args false with
          | some a => some { s with cur := a, stack := { s.cur with todo := .ops all (o :: rest) :: k } :: s.stack }
          | none => none)
        | none => none))
    | some (.yield l args) => (match s.heap.get l with
      | some (.loop _ _ fn tmps ps asg body _) => (match Nat.beq args.length ps.size with
        | true => some { s with
            cur := { fn := fn, tmps := foldSet ps.toList args tmps, todo := [.code asg, .start, .code body], defers := [], ret := false, dfr := false, round := some l }
            stack := { s.cur with todo := .ops all (o :: rest) :: k } :: s.stack }
        | false => none)
      | _ => none)
    | some (.defer f args cap) => (match s.cur.round with
      | none => some { s with cur := { s.cur with tmps := putO s.cur.tmps o.dst (.tuple []), todo := .ops all rest :: k, defers := .fn f args cap :: s.cur.defers } }
      | some _ => none)
    | _ => none

/-- Into a range over a function. -/
def AM.rangeF (s : AM) (f : Operand) (ps : Array Tmp) (asg body : Code) (k : List AItem) : Option AM :=
  match ev E s.cur.tmps f with
  | some (.fn g first captured) => (match E.func g with
    | some fn =>
      (match s.cur.round with
      | none => (match s.heap.get s.next with
        | some _ => none
        | none => (match s.heap.set s.next (.deferred false) with
          | some h1 => (match h1.get (s.next + 1) with
            | some _ => none
            | none => (match h1.set (s.next + 1) (.loop .ready none s.cur.fn s.cur.tmps ps asg body s.next) with
              | some h2 => (match enterF g fn (first ++ [.yield (s.next + 1)] ++ captured) false with
                | some a => some { cur := a, stack := { s.cur with todo := .inRange (s.next + 1) :: k, defers := .collected s.next :: s.cur.defers } :: s.stack, heap := h2, next := s.next + 2 }
                | none => none)
              | none => none))
          | none => none))
      | some l => (match s.heap.get l with
        | some (.loop _ _ _ _ _ _ _ dfr) => (match s.heap.get s.next with
          | some _ => none
          | none => (match s.heap.set s.next (.loop .ready none s.cur.fn s.cur.tmps ps asg body dfr) with
            | some h2 => (match enterF g fn (first ++ [.yield s.next] ++ captured) false with
              | some a => some { cur := a, stack := { s.cur with todo := .inRange s.next :: k } :: s.stack, heap := h2, next := s.next + 1 }
              | none => none)
            | none => none))
        | _ => none))
    | none => none)
  | _ => none

def AM.code (s : AM) (c : Code) (k : List AItem) : Option AM :=
  match c with
  | .skip => some (s.to k)
  | .label _ => some (s.to k)
  | .seq a b => some (s.to (.code a :: .code b :: k))
  | .cond c x y => (match ev E s.cur.tmps c with
    | some (.bool t) => (match t with | true => some (s.to (.code x :: k)) | false => some (s.to (.code y :: k)))
    | _ => none)
  | .block id b => some (s.to (.code b :: .inBlock id :: k))
  | .loop b => some (s.to (.code b :: .inLoop b :: k))
  | .scope b => some (s.to (.code b :: .inScope b :: k))
  | .exit id => (match exitToA id k with | some k' => some (s.to k') | none => s.leave (some (.exit id)))
  | .goto l => (match gotoInA l k with | some k' => some (s.to k') | none => s.leave (some (.goto l)))
  | .ret => s.leave (some .ret)
  | .region _ ops draw => (match draw with
    | false => some (s.to (.ops ops.toList ops.toList :: k))
    | true => (match drawA E E.cl ops.toList s.cur.tmps s.heap s.next with
      | some (tm, h, nx) => some { cur := { s.cur with tmps := tm, todo := k }, stack := s.stack, heap := h, next := nx }
      | none => none))
  | .rangeFunc f ps asg body => s.rangeF E f ps asg body k
  | .refuse _ => none

def pend (pe : Option Code) (k : List AItem) : List AItem :=
  match pe with
  | some c => .code c :: k
  | none => k

def AM.step (s : AM) : Option AM :=
  match s.cur.ret with
  | true => s.unwind E
  | false => match s.cur.todo with
    | [] => s.leave none
    | i :: k => match i with
      | .code c => s.code E c k
      | .inBlock _ => some (s.to k)
      | .inScope _ => some (s.to k)
      | .inLoop b => some (s.to (.code b :: .inLoop b :: k))
      | .ops all rest => (match opsA E all rest s.cur.tmps s.heap s.next with
        | some (tm, h, nx, []) => some { cur := { s.cur with tmps := tm, todo := k }, stack := s.stack, heap := h, next := nx }
        | some (tm, h, nx, o :: rest') => AM.op E { cur := { s.cur with tmps := tm }, stack := s.stack, heap := h, next := nx } all o rest' k
        | none => none)
      | .start => (match s.cur.round with
        | some l => (match s.heap.get l with
          | some (.loop .ready pe fn tmps ps asg body dfr) => (match s.heap.set l (.loop .busy pe fn tmps ps asg body dfr) with
            | some h' => some { s with cur := { s.cur with todo := k }, heap := h' }
            | none => none)
          | _ => none)
        | none => none)
      | .inRange _ => none
      | .endRange l => (match s.heap.get l with
        | some (.loop st pe _ _ _ _ _ _) => (match st with
          | .busy => none
          | _ => (match s.heap.set l .dead with
            | some h' => some { s with cur := { s.cur with todo := pend pe k }, heap := h' }
            | none => none))
        | _ => none)

/-- So many steps, or till it is over: twice as many a time. -/
def AM.run : Nat → AM → Option AM
  | 0, s => (match s.final with | true => some s | false => s.step E)
  | n + 1, s => match AM.run n s with
    | some s' => (match s'.final with
      | true => some s'
      | false => AM.run n s')
    | none => none

end
end Go.Ev
