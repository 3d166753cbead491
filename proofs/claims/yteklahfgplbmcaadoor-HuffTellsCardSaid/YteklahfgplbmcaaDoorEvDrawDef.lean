/- Regions that draw their order: what is held ahead. -/
import Derived.Test.YteklahfgplbmcaaDoorEvOne
namespace Go.Ev
def putO (tm : List RV) (d : Option Nat) (v : RV) : List RV :=
  match d with
  | some d => putAt tm d v
  | none => tm

def yieldedA (all : List Oper) (tm : List RV) (j : Nat) : Option Bool :=
  match nth all j with
  | some o => (match o.dst with
    | some d => (match nth tm d with
      | some (.bool b) => some b
      | _ => none)
    | none => none)
  | none => none

def wantedA (all : List Oper) (o : Oper) (tm : List RV) : Bool :=
  match o.guard with
  | none => true
  | some (j, want) => (match yieldedA all tm j with
    | some b => (match b, want with | true, true => true | false, false => true | _, _ => false)
    | none => false)

def beqN : List (Nat × Nat) → List (Nat × Nat) → Bool
  | [], [] => true
  | (a, b) :: l, (c, d) :: m => match Nat.beq a c, Nat.beq b d with | true, true => beqN l m | _, _ => false
  | _, _ => false

def kindN : IntKind → Nat
  | .i8 => 0 | .i16 => 1 | .i32 => 2 | .i64 => 3 | .u8 => 4 | .u16 => 5 | .u32 => 6 | .u64 => 7
theorem kindN_inj {a b : IntKind} (h : Nat.beq (kindN a) (kindN b) = true) : a = b := by
  cases a <;> cases b <;> first | rfl | (exact absurd h (by decide))

def beqI : Int → Int → Bool
  | .ofNat a, .ofNat b => Nat.beq a b
  | .negSucc a, .negSucc b => Nat.beq a b
  | _, _ => false
theorem beqI_ok : ∀ {a b : Int}, beqI a b = true → a = b
  | .ofNat a, .ofNat b, h => by rw [Nat.eq_of_beq_eq_true h]
  | .negSucc a, .negSucc b, h => by rw [Nat.eq_of_beq_eq_true h]
  | .ofNat _, .negSucc _, h => by cases h
  | .negSucc _, .ofNat _, h => by cases h

def beqCap : Cap → Cap → Bool
  | .ex a, .ex b => Nat.beq a b
  | .rest a, .rest b => Nat.beq a b
  | _, _ => false
theorem beqCap_ok : ∀ {a b : Cap}, beqCap a b = true → a = b
  | .ex _, .ex _, h => by rw [Nat.eq_of_beq_eq_true h]
  | .rest _, .rest _, h => by rw [Nat.eq_of_beq_eq_true h]
  | .ex _, .rest _, h => by cases h
  | .rest _, .ex _, h => by cases h

mutual
def beqV : RV → RV → Bool
  | .bool a, .bool b => (match a, b with | true, true => true | false, false => true | _, _ => false)
  | .int k a, .int l b => (match Nat.beq (kindN k) (kindN l) with | true => beqI a b | false => false)
  | .str a, .str b => eqL a b
  | .ptr0, .ptr0 => true
  | .ptr a b, .ptr c d => (match Nat.beq a c with | true => Nat.beq b d | false => false)
  | .slice0, .slice0 => true
  | .slice a b c d, .slice a' b' c' d' => (match Nat.beq a a', Nat.beq b b', Nat.beq c c' with | true, true, true => beqCap d d' | _, _, _ => false)
  | .fn f a c, .fn g b d => (match Nat.beq f g, beqVs a b with | true, true => beqVs c d | _, _ => false)
  | .yield a, .yield b => Nat.beq a b
  | .nilFunc, .nilFunc => true
  | .iface t v, .iface u x => (match Nat.beq t u with | true => beqV v x | false => false)
  | .nilIface, .nilIface => true
  | .agg a, .agg b => beqVs a b
  | .tuple a, .tuple b => beqVs a b
  | _, _ => false
def beqVs : List RV → List RV → Bool
  | [], [] => true
  | x :: l, y :: m => (match beqV x y with | true => beqVs l m | false => false)
  | _, _ => false
end

mutual
theorem beqV_ok : ∀ (a b : RV), beqV a b = true → a = b
  | .bool a, b, h => by
    cases b <;> simp only [beqV] at h <;> first | (cases h; done) | skip
    rename_i b; cases a <;> cases b <;> first | rfl | (cases h; done)
  | .int k a, b, h => by
    cases b <;> simp only [beqV] at h <;> first | (cases h; done) | skip
    split at h <;> first | (cases h; done) | skip
    rename_i hk; rw [kindN_inj hk, beqI_ok h]
  | .str a, b, h => by
    cases b <;> simp only [beqV] at h <;> first | (cases h; done) | skip
    rw [eqL_ok] at h; rw [eq_of_beq h]
  | .ptr0, b, h => by cases b <;> simp only [beqV] at h <;> first | (cases h; done) | rfl
  | .ptr a o, b, h => by
    cases b <;> simp only [beqV] at h <;> first | (cases h; done) | skip
    split at h <;> first | (cases h; done) | skip
    rename_i hk; rw [Nat.eq_of_beq_eq_true hk, Nat.eq_of_beq_eq_true h]
  | .slice0, b, h => by cases b <;> simp only [beqV] at h <;> first | (cases h; done) | rfl
  | .slice a o l c, b, h => by
    cases b <;> simp only [beqV] at h <;> first | (cases h; done) | skip
    split at h <;> first | (cases h; done) | skip
    rename_i h1 h2 h3; rw [Nat.eq_of_beq_eq_true h1, Nat.eq_of_beq_eq_true h2, Nat.eq_of_beq_eq_true h3, beqCap_ok h]
  | .fn f a c, b, h => by
    cases b <;> simp only [beqV] at h <;> first | (cases h; done) | skip
    split at h <;> first | (cases h; done) | skip
    rename_i h1 h2; rw [Nat.eq_of_beq_eq_true h1, beqVs_ok _ _ h2, beqVs_ok _ _ h]
  | .yield a, b, h => by
    cases b <;> simp only [beqV] at h <;> first | (cases h; done) | skip
    rw [Nat.eq_of_beq_eq_true h]
  | .nilFunc, b, h => by cases b <;> simp only [beqV] at h <;> first | (cases h; done) | rfl
  | .iface t v, b, h => by
    cases b <;> simp only [beqV] at h <;> first | (cases h; done) | skip
    split at h <;> first | (cases h; done) | skip
    rename_i h1; rw [Nat.eq_of_beq_eq_true h1, beqV_ok _ _ h]
  | .nilIface, b, h => by cases b <;> simp only [beqV] at h <;> first | (cases h; done) | rfl
  | .agg a, b, h => by
    cases b <;> simp only [beqV] at h <;> first | (cases h; done) | skip
    rw [beqVs_ok _ _ h]
  | .tuple a, b, h => by
    cases b <;> simp only [beqV] at h <;> first | (cases h; done) | skip
    rw [beqVs_ok _ _ h]
theorem beqVs_ok : ∀ (a b : List RV), beqVs a b = true → a = b
  | [], b, h => by cases b <;> simp only [beqVs] at h <;> first | rfl | cases h
  | x :: l, b, h => by
    cases b <;> simp only [beqVs] at h <;> first | (cases h; done) | skip
    split at h <;> first | (cases h; done) | skip
    rename_i h1; rw [beqV_ok _ _ h1, beqVs_ok _ _ h]
end

def beqO : AObj → AObj → Bool
  | .cells n d t ex sz, .cells n' d' t' ex' sz' => (match Nat.beq n n', beqV d d', beqT t t', Nat.beq sz sz' with | true, true, true, true => (match ex, ex' with | true, true => true | false, false => true | _, _ => false) | _, _, _, _ => false)
  | .ro n d t, .ro n' d' t' => (match Nat.beq n n', beqV d d' with | true, true => beqT t t' | _, _ => false)
  | .deferred a, .deferred b => (match a, b with | true, true => true | false, false => true | _, _ => false)
  | .dead, .dead => true
  | _, _ => false
where
  beqT : Tr RV → Tr RV → Bool
    | .nil, .nil => true
    | .node l a r, .node l' a' r' => (match (match a, a' with | none, none => true | some x, some y => beqV x y | _, _ => false), beqT l l' with | true, true => beqT r r' | _, _ => false)
    | _, _ => false

theorem beqT_ok : ∀ (a b : Tr RV), beqO.beqT a b = true → a = b
  | .nil, b, h => by cases b <;> simp only [beqO.beqT] at h <;> first | rfl | cases h
  | .node l a r, b, h => by
    cases b <;> simp only [beqO.beqT] at h <;> first | (cases h; done) | skip
    rename_i l' a' r'
    split at h <;> first | (cases h; done) | skip
    rename_i h1 h2
    rw [beqT_ok _ _ h2, beqT_ok _ _ h]
    cases a <;> cases a' <;> simp only [] at h1 <;> first | rfl | (cases h1; done) | (rw [beqV_ok _ _ h1])

theorem beqO_ok : ∀ (a b : AObj), beqO a b = true → a = b
  | .cells n d t ex sz, b, h => by
    cases b <;> simp only [beqO] at h <;> first | (cases h; done) | skip
    rename_i ex' _
    split at h <;> first | (cases h; done) | skip
    rename_i h1 h2 h3 h4
    rw [Nat.eq_of_beq_eq_true h1, beqV_ok _ _ h2, beqT_ok _ _ h3, Nat.eq_of_beq_eq_true h4]
    cases ex <;> cases ex' <;> first | rfl | (cases h; done)
  | .ro n d t, b, h => by
    cases b <;> simp only [beqO] at h <;> first | (cases h; done) | skip
    split at h <;> first | (cases h; done) | skip
    rename_i h1 h2
    rw [Nat.eq_of_beq_eq_true h1, beqV_ok _ _ h2, beqT_ok _ _ h]
  | .loop .., b, h => by cases b <;> simp only [beqO] at h <;> cases h
  | .deferred a, b, h => by
    cases b <;> simp only [beqO] at h <;> first | (cases h; done) | skip
    rename_i b; cases a <;> cases b <;> first | rfl | (cases h; done)
  | .dead, b, h => by cases b <;> simp only [beqO] at h <;> first | rfl | cases h

def beqH : Tr AObj → Tr AObj → Bool
  | .nil, .nil => true
  | .node l a r, .node l' a' r' => (match (match a, a' with | none, none => true | some x, some y => beqO x y | _, _ => false), beqH l l' with | true, true => beqH r r' | _, _ => false)
  | _, _ => false
theorem beqH_ok : ∀ (a b : Tr AObj), beqH a b = true → a = b
  | .nil, b, h => by cases b <;> simp only [beqH] at h <;> first | rfl | cases h
  | .node l a r, b, h => by
    cases b <;> simp only [beqH] at h <;> first | (cases h; done) | skip
    rename_i l' a' r'
    split at h <;> first | (cases h; done) | skip
    rename_i h1 h2
    rw [beqH_ok _ _ h2, beqH_ok _ _ h]
    cases a <;> cases a' <;> simp only [] at h1 <;> first | rfl | (cases h1; done) | (rw [beqO_ok _ _ h1])

section
variable {P : Program} (E : Env P)

/-- What a call comes to, by whatever means. -/
abbrev CL := Tr AObj → Nat → Nat → List RV → Option (RV × Tr AObj × Nat)

/-- One operation, calls and all. -/
def exec1 (cl : CL) (all : List Oper) (o : Oper) (tm : List RV) (h : Tr AObj) (nx : Nat) : Option (RV × Tr AObj × Nat) :=
  match wantedA all o tm with
  | false => some (.tuple [], h, nx)
  | true => match aop E o tm h nx with
    | some (.val v h' nx') => some (v, h', nx')
    | some (.skip h' nx') => some (.tuple [], h', nx')
    | some (.enter f args) => cl h nx f args
    | _ => none

/-- Which operations look at no memory; which look at it alone. -/
def isP (o : Oper) : Bool :=
  match o.op with
  | .move _ | .assign _ | .pick .. | .build .. | .nilCheck _ | .binOp .. | .unOp .. | .makeFunc .. | .fieldAddr .. | .field .. | .indexAddr .. | .index .. | .extract .. => true
  | .call c => (match c.callee with | .builtin b => (match b with | .len | .cap | .min | .max => true | _ => false) | _ => false)
  | _ => false
def isR (o : Oper) : Bool :=
  match o.op with
  | .load .. | .convert .. | .slice .. => true
  | _ => false

end

def bnds (o : Oper) : List Nat := (o.after.toList.filter (Region.binds .any ·)).map (·.on)

def maskOf (acc : List Nat) : List Nat → Nat → Option Nat
  | [], s => some s
  | e :: l, s => match nth acc e with
    | some m => maskOf acc l (s ||| 2 ^ e ||| m)
    | none => none

def masks : List Nat → List Oper → Option (List Nat)
  | acc, [] => some acc
  | acc, o :: l => match maskOf acc (bnds o) 0 with
    | some m => masks (acc ++ [m]) l
    | none => none

/-- The slots that an operation looks at. -/
def looksA (all : List Oper) (o : Oper) : List Nat :=
  (o.op.operands.toList.filterMap fun | .tmp t => some t | _ => none) ++
  (match o.guard with
   | some (g, _) => (match nth all g with | some p => p.dst.toList | none => [])
   | none => [])

def chk (all : List Oper) (ms : List Nat) : Bool :=
  (all.zipIdx.all fun (o, i) => (looksA all o).all fun t => all.zipIdx.all fun (p, j) =>
    (match p.dst with | some d => !(Nat.beq d t) | none => true) || Nat.beq j i || (match Nat.blt j i with | true => (ms.getD i 0).testBit j | false => (ms.getD j 0).testBit i)) &&
  (all.zipIdx.all fun (o, i) => all.zipIdx.all fun (p, j) => Nat.beq i j || (match o.dst, p.dst with | some a, some b => !(Nat.beq a b) | _, _ => true))

section
variable {P : Program} (E : Env P)

structure Ent where
  tm : List RV
  h : Tr AObj
  nx : Nat
  v : RV

/-- The operations in the text's order. -/
def textA (cl : CL) (all : List Oper) : List Oper → List RV → Tr AObj → Nat → Option (List Ent × List RV × Tr AObj × Nat)
  | [], tm, h, nx => some ([], tm, h, nx)
  | o :: l, tm, h, nx => match exec1 E cl all o tm h nx with
    | some (v, h', nx') => (match textA cl all l (putO tm o.dst v) h' nx' with
      | some (es, r) => some (⟨tm, h, nx, v⟩ :: es, r)
      | none => none)
    | none => none

def zip3 : List Oper → List Ent → Nat → List (Oper × Nat × Ent)
  | o :: l, e :: m, i => (o, i, e) :: zip3 l m (i + 1)
  | _, _, _ => []

def isW (o : Oper) : Bool := match isP o, isR o with | false, false => true | _, _ => false

/-- Whatever order of those that turn memory: their values are these, and the memory behind them is this. -/
def dfs (cl : CL) (all : List Oper) (ms : List Nat) (items : List (Oper × Nat × Ent)) (hfin : Tr AObj) : Nat → Nat → Tr AObj → Bool
  | 0, _, _ => false
  | n + 1, done, h =>
    (items.all fun (o, i, e) => match isR o with
      | false => true
      | true => (match (items.all fun (o', w, _) => (!(isW o') || !((ms.getD i 0).testBit w) || done.testBit w) && !(done.testBit w && (ms.getD w 0).testBit i)) with
        | false => true
        | true => (match exec1 E cl all o e.tm h e.nx with | some (v, _, _) => beqV v e.v | none => false))) &&
    (items.all fun (o, i, e) => match isW o, done.testBit i with
      | true, false => (match (items.all fun (o', w, _) => !(isW o') || !((ms.getD i 0).testBit w) || done.testBit w) with
        | false => true
        | true => (match exec1 E cl all o e.tm h e.nx with | some (v, h', _) => beqV v e.v && dfs cl all ms items hfin n (done ||| 2 ^ i) h' | none => false))
      | _, _ => true) &&
    (match (items.all fun (o', w, _) => !(isW o') || done.testBit w) with | false => true | true => beqH h hfin)

/-- Are all that turn memory, and all that look at it, in one order, but for those that look alone? -/
def strict (all : List Oper) (ms : List Nat) : Bool :=
  all.zipIdx.all fun (o, i) => all.zipIdx.all fun (p, j) => !(Nat.blt i j) || isP o || isP p || (isR o && isR p) || (ms.getD j 0).testBit i

/-- The memory ahead of the text's operation number q. -/
def heapAt (es : List Ent) (hfin : Tr AObj) (q : Nat) : Tr AObj := match nth es q with | some e => e.h | none => hfin

/-- Are all that turn memory in one order? -/
def strictW (all : List Oper) (ms : List Nat) : Bool :=
  all.zipIdx.all fun (o, i) => all.zipIdx.all fun (p, j) => !(Nat.blt i j) || !(isW o) || !(isW p) || (ms.getD j 0).testBit i

/-- May operation i stand where just those ahead of q have turned memory? -/
def mayAt (all : List Oper) (ms : List Nat) (i q : Nat) : Bool :=
  all.zipIdx.all fun (p, j) => !(isW p) || ((!((ms.getD i 0).testBit j) || Nat.blt j q) && (!((ms.getD j 0).testBit i) || !(Nat.blt j q)))

/-- Does each that looks at memory see the same wherever it may stand? -/
def quietR (cl : CL) (all : List Oper) (ms : List Nat) (es : List Ent) (hfin : Tr AObj) : Bool :=
  (zip3 all es 0).all fun (o, i, e) => !(isR o) || (List.range (all.length + 1)).all fun q => !(mayAt all ms i q) ||
    (match exec1 E cl all o e.tm (heapAt es hfin q) e.nx with | some (v, _, _) => beqV v e.v | none => false)

end
end Go.Ev
