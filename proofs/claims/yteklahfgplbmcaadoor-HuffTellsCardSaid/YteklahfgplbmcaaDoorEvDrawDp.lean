/- Regions that draw their order: what is held ahead by the sets of those that turn memory; the region's run. -/
import Derived.Test.YteklahfgplbmcaaDoorEvDrawDef
namespace Go.Ev
/-- A mask of the places at which something holds. -/
def maskFrom {α : Type} (f : Nat → α → Bool) : Nat → List α → Nat
  | _, [] => 0
  | i, x :: l => (match f i x with | true => 2 ^ i | false => 0) ||| maskFrom f (i + 1) l
def has (a b : Nat) : Bool := Nat.beq (Nat.land a b) a
def no (a b : Nat) : Bool := Nat.beq (Nat.land a b) 0
def allL {α : Type} (p : α → Bool) : List α → Bool
  | [] => true
  | x :: l => match p x with | true => allL p l | false => false
def pmOf (all : List Oper) (ms : List Nat) (i : Nat) : Nat := maskFrom (fun w p => isW p && (ms.getD i 0).testBit w) 0 all
def smOf (all : List Oper) (ms : List Nat) (i : Nat) : Nat := maskFrom (fun w p => isW p && (ms.getD w 0).testBit i) 0 all
def wmOf (all : List Oper) : Nat := maskFrom (fun _ p => isW p) 0 all

structure QR where
  o : Oper
  e : Ent
  p : Nat
  s : Nat
def rItems (all : List Oper) (ms : List Nat) : List Oper → List Ent → Nat → List QR
  | o :: l, e :: m, i => (match isR o with | true => ⟨o, e, pmOf all ms i, smOf all ms i⟩ :: rItems all ms l m (i + 1) | false => rItems all ms l m (i + 1))
  | _, _, _ => []
def wItems (all : List Oper) (ms : List Nat) : List Oper → List Ent → Nat → List QR
  | o :: l, e :: m, i => (match isW o with | true => ⟨o, e, pmOf all ms i, 2 ^ i⟩ :: wItems all ms l m (i + 1) | false => wItems all ms l m (i + 1))
  | _, _, _ => []
structure QW where
  o : Oper
  e : Ent
  i : Nat
  p : Nat
  s : Nat
def wItemsF (all : List Oper) (ms : List Nat) : List Oper → List Ent → Nat → List QW
  | o :: l, e :: m, i => (match isW o with | true => ⟨o, e, i, pmOf all ms i, 2 ^ i⟩ :: wItemsF all ms l m (i + 1) | false => wItemsF all ms l m (i + 1))
  | _, _, _ => []
/-- An operation that makes something new, and looks at no memory. -/
def isA (o : Oper) : Bool :=
  match o.guard, o.op with
  | none, .alloc _ => true
  | none, .makeSlice .. => true
  | _, _ => false

section
variable {P : Program} (E : Env P)
/-- One of them carried out; its value must be the one of the text's order. -/
def runW (cl : CL) (all : List Oper) (q : QW) (h : Tr AObj) : Option (Tr AObj) :=
  match exec1 E cl all q.o q.e.tm h q.e.nx with
  | some (v, h', _) => (match beqV v q.e.v with | true => some h' | false => none)
  | none => none
/-- The memory behind those of a mask, in the text's order. -/
def hAt (cl : CL) (all : List Oper) (m : Nat) : List QW → Tr AObj → Option (Tr AObj)
  | [], h => some h
  | q :: ws, h => match no q.s m with
    | true => hAt cl all m ws h
    | false => (match runW E cl all q h with | some h' => hAt cl all m ws h' | none => none)
def outs (m : Nat) : List QW → Bool
  | [] => true
  | q :: ws => match no q.s m with | true => outs m ws | false => false
def news (m nx : Nat) : List QW → Bool
  | [] => true
  | q :: ws => match no q.s m with | true => news m nx ws | false => (match isA q.o, Nat.beq q.e.nx nx with | true, false => news m nx ws | _, _ => false)
/-- Whatever may be next behind a mask, its memory is the one of the text's order. -/
def edges (cl : CL) (all : List Oper) (m : Nat) : List QW → Tr AObj → Bool
  | [], _ => true
  | q :: rest, h => match no q.s m with
    | false => (match runW E cl all q h with | some h' => edges cl all m rest h' | none => false)
    | true => (match has q.p m with
      | false => edges cl all m rest h
      | true => (match hAt E cl all m rest h with
        | some H => (match runW E cl all q H with
          | some h1 => (match (outs m rest || (match isA q.o with | true => news m q.e.nx rest | false => false) || (match runW E cl all q h with
              | some h2 => (match hAt E cl all m rest h2 with | some H2 => beqH h1 H2 | none => false)
              | none => false)) with
            | true => edges cl all m rest h
            | false => false)
          | none => false)
        | none => false))
def maskS (f : Nat → Bool) : List QW → Nat
  | [] => 0
  | q :: ws => match f q.i with | true => Nat.lor q.s (maskS f ws) | false => maskS f ws
def subsets : List QW → List Nat
  | [] => [0]
  | q :: ws => subsets ws ++ (subsets ws).map (Nat.lor q.s)
def closedM (m : Nat) : List QW → Bool
  | [] => true
  | q :: ws => match no q.s m with
    | true => closedM m ws
    | false => match has q.p m with | true => closedM m ws | false => false
def looksR (cl : CL) (all : List Oper) (m : Nat) (H : Tr AObj) (rs : List QR) : Bool :=
  allL (fun q => match has q.p m with
    | false => true
    | true => (match no q.s m with
      | false => true
      | true => (match exec1 E cl all q.o q.e.tm H q.e.nx with | some (v, _, _) => beqV v q.e.v | none => false))) rs
def dpAt (cl : CL) (all : List Oper) (rs : List QR) (ws : List QW) (h0 : Tr AObj) (m : Nat) : Bool :=
  match closedM m ws with
  | false => true
  | true => match hAt E cl all m ws h0 with
    | some H => (match edges E cl all m ws h0 with | true => looksR E cl all m H rs | false => false)
    | none => false
/-- Whatever order: by what is behind each set of those that turn memory; the memory at the end. -/
def dpOK (cl : CL) (all : List Oper) (ms : List Nat) (es : List Ent) (h0 : Tr AObj) : Option (Tr AObj) :=
  match allL (dpAt E cl all (rItems all ms all es 0) (wItemsF all ms all es 0) h0) (subsets (wItemsF all ms all es 0)) with
  | true => hAt E cl all (maskS (fun _ => true) (wItemsF all ms all es 0)) (wItemsF all ms all es 0) h0
  | false => none

/-- A region whose order is drawn. -/
def drawA (cl : CL) (all : List Oper) (tm : List RV) (h : Tr AObj) (nx : Nat) : Option (List RV × Tr AObj × Nat) :=
  match masks [] all with
  | some ms => (match chk all ms, textA E cl all all tm h nx with
    | true, some (es, tm', h', nx') => (match strict all ms with
      | true => some (tm', h', nx')
      | false => (match (strictW all ms && quietR E cl all ms es h') with
        | true => some (tm', h', nx')
        | false => (match dpOK E cl all ms es h with
          | some H => some (tm', H, nx')
          | none => (match dfs E cl all ms (zip3 all es 0) h' (all.length + 1) 0 h with
            | true => some (tm', h', nx')
            | false => none))))
    | _, _ => none)
  | none => none

end
end Go.Ev
