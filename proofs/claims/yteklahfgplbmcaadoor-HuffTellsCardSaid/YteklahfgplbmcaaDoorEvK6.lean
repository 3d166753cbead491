/- The hot parts of the machine over boxes, written by what takes data apart. -/
import Derived.Test.YteklahfgplbmcaaDoorEvK5
namespace Go.Ev
noncomputable def isI {β : Type} (v : RV) (f : IntKind → Int → β) (d : β) : β :=
  RV.rec (motive_1 := fun _ => β) (motive_2 := fun _ => PUnit) (fun _ => d) (fun k n => f k n) (fun _ => d) d (fun _ _ => d) d (fun _ _ _ _ => d) (fun _ _ _ _ _ => d) (fun _ => d) d (fun _ _ _ => d) d (fun _ _ => d) (fun _ _ => d) .unit (fun _ _ _ _ => .unit) v
noncomputable def isPt {β : Type} (v : RV) (f : Nat → Nat → β) (d : β) : β :=
  RV.rec (motive_1 := fun _ => β) (motive_2 := fun _ => PUnit) (fun _ => d) (fun _ _ => d) (fun _ => d) d (fun i o => f i o) d (fun _ _ _ _ => d) (fun _ _ _ _ _ => d) (fun _ => d) d (fun _ _ _ => d) d (fun _ _ => d) (fun _ _ => d) .unit (fun _ _ _ _ => .unit) v
noncomputable def isS {β : Type} (v : RV) (f : Nat → Nat → Nat → β) (d : β) : β :=
  RV.rec (motive_1 := fun _ => β) (motive_2 := fun _ => PUnit) (fun _ => d) (fun _ _ => d) (fun _ => d) d (fun _ _ => d) d (fun i o l _ => f i o l) (fun _ _ _ _ _ => d) (fun _ => d) d (fun _ _ _ => d) d (fun _ _ => d) (fun _ _ => d) .unit (fun _ _ _ _ => .unit) v
noncomputable def isB {β : Type} (v : RV) (t f d : β) : β :=
  RV.rec (motive_1 := fun _ => β) (motive_2 := fun _ => PUnit) (fun b => Bool.rec (motive := fun _ => β) f t b) (fun _ _ => d) (fun _ => d) d (fun _ _ => d) d (fun _ _ _ _ => d) (fun _ _ _ _ _ => d) (fun _ => d) d (fun _ _ _ => d) d (fun _ _ => d) (fun _ _ => d) .unit (fun _ _ _ _ => .unit) v
/-- A value of one cell? -/
noncomputable def isO {β : Type} (v : RV) (t d : β) : β :=
  RV.rec (motive_1 := fun _ => β) (motive_2 := fun _ => PUnit) (fun _ => t) (fun _ _ => t) (fun _ => t) t (fun _ _ => t) t (fun _ _ _ _ => t) (fun _ _ _ _ _ => t) (fun _ => t) t (fun _ _ _ => t) t (fun _ _ => d) (fun _ _ => d) .unit (fun _ _ _ _ => .unit) v

noncomputable def nat2 {β : Type} (a b : Int) (f : Nat → Nat → β) (d : β) : β := Int.rec (motive := fun _ => β) (fun m => Int.rec (motive := fun _ => β) (fun n => f m n) (fun _ => d) b) (fun _ => d) a
noncomputable def mkN (k : IntKind) (h : Tr AObj) (nx m : Nat) : Option ANext :=
  Nat.rec (motive := fun _ => Option ANext) (some (.val (.int k (.ofNat 0)) h nx)) (fun p _ => some (.val (.int k (.ofNat (Nat.succ p))) h nx)) m
theorem mkN_eq (k : IntKind) (h : Tr AObj) (nx m : Nat) : mkN k h nx m = some (.val (.int k (m : Int)) h nx) := by cases m <;> rfl
noncomputable def mkB (h : Tr AObj) (nx : Nat) (b : Bool) : Option ANext :=
  Bool.rec (motive := fun _ => Option ANext) (some (.val (.bool false) h nx)) (some (.val (.bool true) h nx)) b
theorem mkB_eq (h : Tr AObj) (nx : Nat) (b : Bool) : mkB h nx b = some (.val (.bool b) h nx) := by cases b <;> rfl
noncomputable def mkP (h : Tr AObj) (nx id m : Nat) : Option ANext :=
  Nat.rec (motive := fun _ => Option ANext) (some (.val (.ptr id 0) h nx)) (fun p _ => some (.val (.ptr id (Nat.succ p)) h nx)) m
theorem mkP_eq (h : Tr AObj) (nx id m : Nat) : mkP h nx id m = some (.val (.ptr id m) h nx) := by cases m <;> rfl
noncomputable def bIf {β : Type} (b : Bool) (t f : β) : β := Bool.rec (motive := fun _ => β) f t b

noncomputable def qInt (h : Tr AObj) (nx : Nat) (op : BinOp) (k : IntKind) (a b : Int) (s : Option ANext) : Option ANext :=
  nat2 a b (fun m n =>
    BinOp.rec (motive := fun _ => Option ANext)
      (Bool.rec (motive := fun _ => Option ANext) s (mkN k h nx (Nat.add m n)) (Nat.ble (Nat.add m n) (maxN k)))
      (Bool.rec (motive := fun _ => Option ANext) s (Bool.rec (motive := fun _ => Option ANext) s (mkN k h nx (Nat.sub m n)) (Nat.ble (Nat.sub m n) (maxN k))) (Nat.ble n m))
      (Bool.rec (motive := fun _ => Option ANext) s (mkN k h nx (Nat.mul m n)) (Nat.ble (Nat.mul m n) (maxN k)))
      s s s s s s s s
      (mkB h nx (Nat.beq m n))
      (mkB h nx (Bool.rec (motive := fun _ => Bool) true false (Nat.beq m n)))
      (mkB h nx (Nat.blt m n))
      (mkB h nx (Nat.ble m n))
      (mkB h nx (Nat.blt n m))
      (mkB h nx (Nat.ble n m)) op) s

theorem wrapF_nat {k : IntKind} {m : Nat} (h : Nat.ble m (maxN k) = true) : wrapF k (m : Int) = m := by
  show wrapF k (Int.ofNat m) = Int.ofNat m
  simp only [wrapF, h]
theorem ble_not (a b : Nat) : (!Nat.blt a b) = Nat.ble b a := by
  rw [blt_eq]
  cases hb : Nat.ble b a with
  | true => have := Nat.le_of_ble_eq_true hb; simp; omega
  | false => have : ¬ b ≤ a := fun h => by rw [Nat.ble_eq_true_of_le h] at hb; cases hb
             simp; omega
theorem qInt_eq (h : Tr AObj) (nx : Nat) (op : BinOp) (k : IntKind) (a b : Int) : qInt h nx op k a b (fv h nx (intS op k a b)) = fv h nx (intS op k a b) := by
  rw [fv_eq]
  cases a with
  | negSucc m => rfl
  | ofNat m =>
    cases b with
    | negSucc n => rfl
    | ofNat n =>
      cases op <;> simp only [qInt, nat2]
      case add =>
        cases hb : Nat.ble (Nat.add m n) (maxN k) with
        | false => rfl
        | true =>
          simp only [mkN_eq, intS, same]
          have e : Int.ofNat m + Int.ofNat n = ((Nat.add m n : Nat) : Int) := rfl
          rw [e, wrapF_nat hb]
      case sub =>
        cases h1 : Nat.ble n m with
        | false => rfl
        | true =>
          cases hb : Nat.ble (Nat.sub m n) (maxN k) with
          | false => rfl
          | true =>
            simp only [mkN_eq, intS, same]
            have hle := Nat.le_of_ble_eq_true h1
            have e : Int.ofNat m - Int.ofNat n = ((Nat.sub m n : Nat) : Int) := by
              show (m : Int) - (n : Int) = ((m - n : Nat) : Int); omega
            rw [e, wrapF_nat hb]
      case mul =>
        cases hb : Nat.ble (Nat.mul m n) (maxN k) with
        | false => rfl
        | true =>
          simp only [mkN_eq, intS, same]
          have e : Int.ofNat m * Int.ofNat n = ((Nat.mul m n : Nat) : Int) := rfl
          rw [e, wrapF_nat hb]
      case eql => rw [mkB_eq]; rfl
      case neq => rw [mkB_eq]; simp only [intS, same, eqI]; cases Nat.beq m n <;> rfl
      case lss => rw [mkB_eq]; rfl
      case leq => rw [mkB_eq]; simp only [intS, same, ltI]; rw [ble_not]
      case gtr => rw [mkB_eq]; rfl
      case geq => rw [mkB_eq]; simp only [intS, same, ltI]; rw [ble_not]

section
variable {P : Program} (E : Env P)

noncomputable def qBin (r : Rd) (h : Tr AObj) (nx : Nat) (op : BinOp) (t : Nat) (x y : Operand) : Option ANext :=
  Option.rec (motive := fun _ => Option ANext) none (fun a => Option.rec (motive := fun _ => Option ANext) none (fun b =>
    (fun s => isI a (fun ka za => isI b (fun kb zb => bIf (isPlain op) (bIf (sameK ka kb) (qInt h nx op ka za zb s) s) s) s) s) (fv h nx (binB E op t a b (isConst x) (isConst y)))) (r y)) (r x)
where
  isPlain : BinOp → Bool
    | .shl => false
    | .shr => false
    | _ => true
theorem qBin_eq (r : Rd) (h : Tr AObj) (nx : Nat) (op : BinOp) (t : Nat) (x y : Operand) : qBin E r h nx op t x y = rBin E r h nx op t x y := by
  unfold qBin rBin
  cases r x with
  | none => rfl
  | some a =>
    cases r y with
    | none => rfl
    | some b =>
      simp only
      cases a <;> try rfl
      cases b <;> try rfl
      rename_i k a k' b
      simp only [isI]
      cases hp : qBin.isPlain op with
      | false => rfl
      | true =>
        cases hk : sameK k k' with
        | false => rfl
        | true =>
          obtain rfl := sameK_ok hk
          simp only [bIf]
          have e0 : ∀ r, binA E op t (.int k a) (.int k b) (isConst x) (isConst y) = some r → binB E op t (.int k a) (.int k b) (isConst x) (isConst y) = some r := by
            intro r hr
            simp only [binB, hr]
          have e1 : arrA E op t (.int k a) (.int k b) = none := by
            unfold arrA
            split <;> first | rfl | (rename_i hh _; cases hh)
          have e : binB E op t (.int k a) (.int k b) (isConst x) (isConst y) = intS op k a b := by
            simp only [binB, binA, intA, e1]
            cases op <;> simp only [hk] <;> first | (generalize intS _ k a b = z; cases z <;> rfl) | (cases hp; done)
          rw [e]
          exact qInt_eq h nx op k a b

noncomputable def qCell (h : Tr AObj) (nx id off : Nat) : Option ANext :=
  Option.rec (motive := fun _ => Option ANext) none (fun o =>
    AObj.rec (motive := fun _ => Option ANext)
      (fun n d t _ _ => bIf (Nat.blt off n) (Option.rec (motive := fun _ => Option ANext) (some (.val d h nx)) (fun x => some (.val x h nx)) (t.get off)) none)
      (fun n d t => bIf (Nat.blt off n) (Option.rec (motive := fun _ => Option ANext) (some (.val d h nx)) (fun x => some (.val x h nx)) (t.get off)) none)
      (fun _ _ _ _ _ _ _ _ => none) (fun _ => none) none o) (h.get id)
theorem qCell_eq (h : Tr AObj) (nx id off : Nat) : qCell h nx id off = same h nx (cellAt h id off) := by
  unfold qCell cellAt
  cases h.get id with
  | none => rfl
  | some o =>
    cases o with
    | cells n d t ex sz =>
      simp only [rowGet, bIf]
      cases Nat.blt off n with
      | false => rfl
      | true => cases t.get off <;> rfl
    | ro n d t =>
      simp only [rowGet, bIf]
      cases Nat.blt off n with
      | false => rfl
      | true => cases t.get off <;> rfl
    | loop => rfl
    | deferred => rfl
    | dead => rfl
noncomputable def qLoad (r : Rd) (h : Tr AObj) (nx t : Nat) (a : Operand) : Option ANext :=
  Option.rec (motive := fun _ => Option ANext) none (fun p => isPt p (fun id off =>
    Option.rec (motive := fun _ => Option ANext) none (fun g => bIf g (same h nx (loadA E h t id off)) (qCell h nx id off)) (E.agg t)) none) (r a)
theorem qLoad_eq (r : Rd) (h : Tr AObj) (nx t : Nat) (a : Operand) : qLoad E r h nx t a = rLoad E r h nx t a := by
  unfold qLoad rLoad
  cases r a with
  | none => rfl
  | some p =>
    cases p <;> try rfl
    rename_i id off
    simp only [isPt]
    unfold loadA
    cases hg : E.agg t with
    | none => rfl
    | some g =>
      cases g with
      | true => rfl
      | false => simp only [bIf]; exact qCell_eq h nx id off

/-- A type of one cell. -/
def Env.unit (t : Nat) : Bool := match E.info t with | some i => Nat.beq i.size 1 | none => false
noncomputable def qPut (h : Tr AObj) (nx id off : Nat) (x : RV) : Option ANext :=
  Option.rec (motive := fun _ => Option ANext) none (fun o =>
    AObj.rec (motive := fun _ => Option ANext)
      (fun n d t ex sz => bIf (Nat.blt off n) (Option.rec (motive := fun _ => Option ANext) none (fun t' => Option.rec (motive := fun _ => Option ANext) none (fun h' => some (.skip h' nx)) (h.set id (.cells n d t' ex sz))) (t.set off x)) none)
      (fun _ _ _ => none) (fun _ _ _ _ _ _ _ _ => none) (fun _ => none) none o) (h.get id)
noncomputable def qStore (r : Rd) (h : Tr AObj) (nx t : Nat) (a x : Operand) : Option ANext :=
  Option.rec (motive := fun _ => Option ANext) none (fun p => isPt p (fun id off =>
    Option.rec (motive := fun _ => Option ANext) none (fun v => (fun s => bIf (E.unit t) (isO v (qPut h nx id off v) s) s) (match storeA E h t id off v with | some h' => some (.skip h' nx) | none => none)) (r x)) none) (r a)
theorem qPut_eq (h : Tr AObj) (nx id off : Nat) {x : RV} (hx : x.one = true) : qPut h nx id off x = match putCell h id off x with | some h' => some (.skip h' nx) | none => none := by
  unfold qPut putCell
  cases h.get id with
  | none => rfl
  | some o =>
    cases o with
    | cells n d t ex sz =>
      simp only [bIf, hx]
      cases Nat.blt off n with
      | false => rfl
      | true =>
        simp only
        cases t.set off x with
        | none => rfl
        | some t' =>
          simp only
          cases h.set id (.cells n d t' ex sz) <;> rfl
    | ro => rfl
    | loop => rfl
    | deferred => rfl
    | dead => rfl
theorem qStore_eq (r : Rd) (h : Tr AObj) (nx t : Nat) (a x : Operand) : qStore E r h nx t a x = rStore E r h nx t a x := by
  unfold qStore rStore
  cases r a with
  | none => rfl
  | some p =>
    cases p <;> try rfl
    rename_i id off
    simp only [isPt]
    cases r x with
    | none => rfl
    | some v =>
      simp only
      cases hu : E.unit t with
      | false => rfl
      | true =>
        have key : v.one = true → qPut h nx id off v = match storeA E h t id off v with | some h' => some (.skip h' nx) | none => none := by
          intro ho
          rw [qPut_eq h nx id off ho]
          unfold storeA
          unfold Env.unit at hu
          cases hi : E.info t with
          | none => rw [hi] at hu; cases hu
          | some i =>
            rw [hi] at hu
            simp only at hu
            have hs : i.size = 1 := Nat.eq_of_beq_eq_true hu
            have hp : v.parts = [v] := by cases v <;> first | rfl | (cases ho; done)
            rw [hp]
            simp only [List.length_cons, List.length_nil, Nat.zero_add, hs]
            simp only [putCells]
            cases putCell h id off v <;> rfl
        simp only [bIf]
        cases v <;> first | (simp only [isO]; exact key rfl) | rfl

def eltS (t : Nat) : Option Nat := match E.und t with | some (.slice e) => (match E.info e with | some i => some i.size | none => none) | _ => none
def eltN (t : Nat) : Option (Nat × Nat) := match E.und t with | some (.array n e) => (match E.info e with | some i => some (n, i.size) | none => none) | _ => none
noncomputable def qIdx (r : Rd) (h : Tr AObj) (nx t : Nat) (x ix : Operand) : Option ANext :=
  Option.rec (motive := fun _ => Option ANext) none (fun a => Option.rec (motive := fun _ => Option ANext) none (fun i =>
    (fun s => Option.rec (motive := fun _ => Option ANext)
      (Option.rec (motive := fun _ => Option ANext) s (fun z => isPt a (fun id off => isI i (fun _ j => Int.rec (motive := fun _ => Option ANext) (fun j => bIf (Nat.blt j z.1) (mkP h nx id (Nat.add off (Nat.mul j z.2))) s) (fun _ => s) j) s) s) (eltN E t))
      (fun z => isS a (fun id off len => isI i (fun _ j => Int.rec (motive := fun _ => Option ANext) (fun j => bIf (Nat.blt j len) (mkP h nx id (Nat.add off (Nat.mul j z))) s) (fun _ => s) j) s) s) (eltS E t))
      (same h nx (indexAddrA E t a i))) (r ix)) (r x)
theorem qIdx_eq (r : Rd) (h : Tr AObj) (nx t : Nat) (x ix : Operand) : qIdx E r h nx t x ix = rIndexAddr E r h nx t x ix := by
  unfold qIdx rIndexAddr
  cases r x with
  | none => rfl
  | some a =>
    cases r ix with
    | none => rfl
    | some i =>
      simp only
      cases hs : eltS E t with
      | some z =>
        simp only
        cases a <;> try rfl
        rename_i id off len cap
        simp only [isS]
        cases i <;> try rfl
        rename_i k j
        simp only [isI]
        cases j with
        | negSucc j => rfl
        | ofNat j =>
          simp only
          cases hb : Nat.blt j len with
          | false => rfl
          | true =>
            simp only [bIf, mkP_eq]
            unfold eltS at hs
            split at hs <;> first | (cases hs; done) | skip
            rename_i e he
            split at hs <;> first | (cases hs; done) | skip
            rename_i inf hi
            simp only [Option.some.injEq] at hs
            subst hs
            simp only [indexAddrA, idx, he, hi, hb, same]
            rfl
      | none =>
        simp only
        cases hn : eltN E t with
        | none => rfl
        | some z =>
          simp only
          cases a <;> try rfl
          rename_i id off
          simp only [isPt]
          cases i <;> try rfl
          rename_i k j
          simp only [isI]
          cases j with
          | negSucc j => rfl
          | ofNat j =>
            simp only
            cases hb : Nat.blt j z.1 with
            | false => rfl
            | true =>
              simp only [bIf, mkP_eq]
              unfold eltN at hn
              split at hn <;> first | (cases hn; done) | skip
              rename_i n e he
              split at hn <;> first | (cases hn; done) | skip
              rename_i inf hi
              simp only [Option.some.injEq] at hn
              subst hn
              simp only [indexAddrA, idx, he, hi, hb, same]
              rfl

/-- How far a field stands behind its struct. -/
def offK (t f : Nat) : Option Nat := match fieldAddrA E t (.ptr 0 0) f with | some (.ptr _ o) => some o | _ => none
theorem offK_ok {t f o : Nat} (h : offK E t f = some o) (id off : Nat) : fieldAddrA E t (.ptr id off) f = some (.ptr id (off + o)) := by
  unfold offK fieldAddrA at h
  unfold fieldAddrA
  cases hu : E.und t with
  | none => rw [hu] at h; cases h
  | some d =>
    rw [hu] at h
    cases d <;> simp only at h ⊢ <;> first | (cases h; done) | skip
    rename_i fs
    cases hf : fs[f]? with
    | none => rw [hf] at h; cases h
    | some fd =>
      rw [hf] at h
      simp only at h ⊢
      cases hi : E.info fd.type with
      | none => rw [hi] at h; cases h
      | some inf =>
        rw [hi] at h
        simp only at h ⊢
        cases hz : Nat.beq inf.size 0 with
        | true => rw [hz] at h; cases h
        | false =>
          rw [hz] at h
          simp only [Nat.zero_add, Option.some.injEq] at h ⊢
          rw [h]
noncomputable def qFld (r : Rd) (h : Tr AObj) (nx t : Nat) (x : Operand) (f : Nat) : Option ANext :=
  Option.rec (motive := fun _ => Option ANext) none (fun a => (fun s => Option.rec (motive := fun _ => Option ANext) s (fun o => isPt a (fun id off => mkP h nx id (Nat.add off o)) s) (offK E t f)) (same h nx (fieldAddrA E t a f))) (r x)
theorem qFld_eq (r : Rd) (h : Tr AObj) (nx t : Nat) (x : Operand) (f : Nat) : qFld E r h nx t x f = rFieldAddr E r h nx t x f := by
  unfold qFld rFieldAddr
  cases r x with
  | none => rfl
  | some a =>
    simp only
    cases ho : offK E t f with
    | none => rfl
    | some o =>
      cases a <;> try rfl
      rename_i id off
      simp only [isPt, mkP_eq, offK_ok E ho, same]
      rfl

noncomputable def qop (r : Rd) (o : Op) (h : Tr AObj) (nx : Nat) : Option ANext :=
  Op.rec (motive := fun _ => Option ANext)
    (fun x => same h nx (r x)) (fun x => same h nx (r x)) (fun c a b => rPick r h nx c a b) (fun t => rAlloc E h nx t) (fun _ x => rBox r h nx x)
    (fun t ps => rBuild E r h nx t ps.toList) (fun t n ps => rBuildSlice E r h nx t n ps.toList) (fun _ _ _ _ => none)
    (fun t a => qLoad E r h nx t a) (fun t a x => qStore E r h nx t a x) (fun _ => none) (fun _ => none) (fun x => rNil r h nx x)
    (fun op t x y _ => qBin E r h nx op t x y) (fun op _ x => rUn r h nx op x) (fun s d x => rConv E r h nx s d x) (fun _ _ => none) (fun _ _ => none)
    (fun fn a c => rFunc r h nx fn a.toList c.toList) (fun _ _ => none) (fun _ _ => none) (fun t l c => rMake E r h nx t l c) (fun t x lo hi mx => rSlice E r h nx t x lo hi mx)
    (fun t x f => qFld E r h nx t x f) (fun t x f => rField E r h nx t x f) (fun t x ix => qIdx E r h nx t x ix) (fun t x ix => rIndex E r h nx t x ix)
    (fun _ _ _ _ => none) (fun _ _ _ _ => none) (fun _ _ _ => none) (fun _ _ _ _ => none) (fun _ _ => none) (fun _ _ => none) (fun _ => none) (fun _ _ _ _ => none)
    (fun x i => rExtract r h nx x i) (fun c => rCall E r h nx c) (fun _ => none) (fun c => rDefer E r c) (fun _ => none) (fun _ _ => none) (fun _ _ _ => none) (fun _ _ => none) o
theorem qop_eq (r : Rd) (o : Op) (h : Tr AObj) (nx : Nat) : qop E r o h nx = rop E r o h nx := by
  cases o <;> first
    | rfl
    | exact qLoad_eq E r h nx _ _
    | exact qStore_eq E r h nx _ _ _
    | exact qBin_eq E r h nx _ _ _ _
    | exact qFld_eq E r h nx _ _ _
    | exact qIdx_eq E r h nx _ _ _

noncomputable def evR (n : Nat) (t : FT) : Rd := fun x =>
  Operand.rec (motive := fun _ => Option RV) (fun i => bIf (Nat.blt i n) (some (t.get i)) (some (.tuple []))) (fun v => rv v) (fun g => bIf (Nat.blt g E.gl) (some (.ptr g 0)) none) (fun f => some (.fn f [] [])) x
theorem evR_eq (n : Nat) (t : FT) : evR E n t = evK E n t := by
  funext x
  cases x with
  | tmp i => simp only [evR, evK, bIf]; cases Nat.blt i n <;> rfl
  | const v => rfl
  | global g => simp only [evR, evK, bIf]; cases Nat.blt g E.gl <;> rfl
  | func f => rfl
noncomputable def putR (n : Nat) (t : FT) (d : Option Nat) (v : RV) : FT := Option.rec (motive := fun _ => FT) t (fun d => bIf (Nat.blt d n) (t.put d v) t) d
theorem putR_eq (n : Nat) (t : FT) (d : Option Nat) (v : RV) : putR n t d v = putK n t d v := by
  cases d with
  | none => rfl
  | some d => simp only [putR, putK, bIf]; cases Nat.blt d n <;> rfl

/-- A region's operations, handed on to what is to be done at the end, and where they stop. -/
noncomputable def opsR {β : Type} (n : Nat) (all : List Oper) (fin : FT → Tr AObj → Nat → Option β) (stop : FT → Tr AObj → Nat → Oper → List Oper → Option β) (l : List Oper) : FT → Tr AObj → Nat → Option β :=
  List.rec (motive := fun _ => FT → Tr AObj → Nat → Option β) fin
    (fun o rest ih tm h nx => bIf (Option.rec (motive := fun _ => Bool) true (fun _ => wantedK all o n tm) o.guard)
      (Option.rec (motive := fun _ => Option β) none (fun a =>
        ANext.rec (motive := fun _ => Option β) (fun v h' nx' => ih (putR n tm o.dst v) h' nx') (fun h' nx' => ih (putR n tm o.dst (.tuple [])) h' nx') (fun _ _ => stop tm h nx o rest) (fun _ _ => stop tm h nx o rest) (fun _ _ _ => stop tm h nx o rest) a)
        (qop E (evR E n tm) o.op h nx))
      (ih (putR n tm o.dst (.tuple [])) h nx)) l
theorem opsR_eq {β : Type} (n : Nat) (all : List Oper) (fin : FT → Tr AObj → Nat → Option β) (stop : FT → Tr AObj → Nat → Oper → List Oper → Option β) : ∀ (l : List Oper) (tm : FT) (h : Tr AObj) (nx : Nat),
    opsR E n all fin stop l tm h nx = match opsK E n all l tm h nx with
      | some (tm, h, nx, []) => fin tm h nx
      | some (tm, h, nx, o :: rest) => stop tm h nx o rest
      | none => none
  | [], tm, h, nx => rfl
  | o :: rest, tm, h, nx => by
    have e : opsR E n all fin stop (o :: rest) tm h nx = bIf (Option.rec (motive := fun _ => Bool) true (fun _ => wantedK all o n tm) o.guard)
      (Option.rec (motive := fun _ => Option β) none (fun a =>
        ANext.rec (motive := fun _ => Option β) (fun v h' nx' => opsR E n all fin stop rest (putR n tm o.dst v) h' nx') (fun h' nx' => opsR E n all fin stop rest (putR n tm o.dst (.tuple [])) h' nx') (fun _ _ => stop tm h nx o rest) (fun _ _ => stop tm h nx o rest) (fun _ _ _ => stop tm h nx o rest) a)
        (qop E (evR E n tm) o.op h nx))
      (opsR E n all fin stop rest (putR n tm o.dst (.tuple [])) h nx) := rfl
    have e2 : opsK E n all (o :: rest) tm h nx = match wantedK all o n tm with
      | false => opsK E n all rest (putK n tm o.dst (.tuple [])) h nx
      | true => match rop E (evK E n tm) o.op h nx with
        | some (.val v h' nx') => opsK E n all rest (putK n tm o.dst v) h' nx'
        | some (.skip h' nx') => opsK E n all rest (putK n tm o.dst (.tuple [])) h' nx'
        | some (.enter _ _) => some (tm, h, nx, o :: rest)
        | some (.yield _ _) => some (tm, h, nx, o :: rest)
        | some (.defer _ _ _) => some (tm, h, nx, o :: rest)
        | none => none := rfl
    have e3 : (Option.rec (motive := fun _ => Bool) true (fun _ => wantedK all o n tm) o.guard : Bool) = wantedK all o n tm := by
      unfold wantedK
      cases o.guard <;> rfl
    rw [e, e2, e3, qop_eq, evR_eq]
    cases wantedK all o n tm with
    | false =>
      simp only [bIf]
      rw [opsR_eq n all fin stop rest, putR_eq]
    | true =>
      simp only [bIf]
      cases rop E (evK E n tm) o.op h nx with
      | none => rfl
      | some a => cases a <;> simp only [putR_eq] <;> first | rfl | rw [opsR_eq n all fin stop rest]

noncomputable def gOps (fn n : Nat) (tm : FT) (df : List ADef) (dfr : Bool) (rd : Option Nat) (st : List AFrameK) (h : Tr AObj) (nx : Nat) (all rest : List Oper) (k : List AItem) : Option AMK :=
  opsR E n all (fun tm h nx => some ⟨⟨fn, n, tm, k, df, false, dfr, rd⟩, st, h, nx⟩)
    (fun tm h nx o rest' => AMK.op E ⟨⟨fn, n, tm, .ops all rest :: k, df, false, dfr, rd⟩, st, h, nx⟩ all o rest' k) rest tm h nx
theorem gOps_eq (fn n : Nat) (tm : FT) (df : List ADef) (dfr : Bool) (rd : Option Nat) (st : List AFrameK) (h : Tr AObj) (nx : Nat) (all rest : List Oper) (k : List AItem) :
    gOps E fn n tm df dfr rd st h nx all rest k = fOps E fn n tm df dfr rd st h nx all rest k := by
  unfold gOps
  rw [opsR_eq]
  rfl
noncomputable def gCond (fn n : Nat) (tm : FT) (df : List ADef) (dfr : Bool) (rd : Option Nat) (st : List AFrameK) (h : Tr AObj) (nx : Nat) (c : Operand) (x y : Code) (k : List AItem) : Option AMK :=
  Option.rec (motive := fun _ => Option AMK) none (fun v => isB v (some ⟨⟨fn, n, tm, .code x :: k, df, false, dfr, rd⟩, st, h, nx⟩) (some ⟨⟨fn, n, tm, .code y :: k, df, false, dfr, rd⟩, st, h, nx⟩) none) (evR E n tm c)
theorem gCond_eq (fn n : Nat) (tm : FT) (df : List ADef) (dfr : Bool) (rd : Option Nat) (st : List AFrameK) (h : Tr AObj) (nx : Nat) (c : Operand) (x y : Code) (k : List AItem) :
    gCond E fn n tm df dfr rd st h nx c x y k = fCond E fn n tm df dfr rd st h nx c x y k := by
  unfold gCond fCond
  rw [evR_eq]
  cases evK E n tm c with
  | none => rfl
  | some v => cases v <;> first | rfl | (rename_i b; cases b <;> rfl)

noncomputable def gCode (fn n : Nat) (tm : FT) (df : List ADef) (dfr : Bool) (rd : Option Nat) (st : List AFrameK) (h : Tr AObj) (nx : Nat) (c : Code) (k : List AItem) : Option AMK :=
  Code.rec (motive := fun _ => Option AMK)
    (some ⟨⟨fn, n, tm, k, df, false, dfr, rd⟩, st, h, nx⟩)
    (fun i ops draw => bIf draw (kDraw E ⟨⟨fn, n, tm, .code (.region i ops true) :: k, df, false, dfr, rd⟩, st, h, nx⟩ ops.toList k) (gOps E fn n tm df dfr rd st h nx ops.toList ops.toList k))
    (fun a b _ _ => some ⟨⟨fn, n, tm, .code a :: .code b :: k, df, false, dfr, rd⟩, st, h, nx⟩)
    (fun c x y _ _ => gCond E fn n tm df dfr rd st h nx c x y k)
    (fun id b _ => some ⟨⟨fn, n, tm, .code b :: .inBlock id :: k, df, false, dfr, rd⟩, st, h, nx⟩)
    (fun b _ => some ⟨⟨fn, n, tm, .code b :: .inLoop b :: k, df, false, dfr, rd⟩, st, h, nx⟩)
    (fun f ps asg body _ _ => fCode E fn n tm df dfr rd st h nx (.rangeFunc f ps asg body) k)
    (fun id => fCode E fn n tm df dfr rd st h nx (.exit id) k)
    (fun b _ => some ⟨⟨fn, n, tm, .code b :: .inScope b :: k, df, false, dfr, rd⟩, st, h, nx⟩)
    (fun _ => some ⟨⟨fn, n, tm, k, df, false, dfr, rd⟩, st, h, nx⟩)
    (fun l => fCode E fn n tm df dfr rd st h nx (.goto l) k)
    (fCode E fn n tm df dfr rd st h nx .ret k)
    (fun _ => none) c
theorem gCode_eq (fn n : Nat) (tm : FT) (df : List ADef) (dfr : Bool) (rd : Option Nat) (st : List AFrameK) (h : Tr AObj) (nx : Nat) (c : Code) (k : List AItem) :
    gCode E fn n tm df dfr rd st h nx c k = fCode E fn n tm df dfr rd st h nx c k := by
  cases c <;> first
    | rfl
    | exact gCond_eq E fn n tm df dfr rd st h nx _ _ _ k
    | (rename_i i ops draw; cases draw <;> first | rfl | exact gOps_eq E fn n tm df dfr rd st h nx _ _ k)

noncomputable def gItem (fn n : Nat) (tm : FT) (df : List ADef) (dfr : Bool) (rd : Option Nat) (st : List AFrameK) (h : Tr AObj) (nx : Nat) (i : AItem) (k : List AItem) : Option AMK :=
  AItem.rec (motive := fun _ => Option AMK)
    (fun c => gCode E fn n tm df dfr rd st h nx c k)
    (fun _ => some ⟨⟨fn, n, tm, k, df, false, dfr, rd⟩, st, h, nx⟩)
    (fun b => some ⟨⟨fn, n, tm, .code b :: .inLoop b :: k, df, false, dfr, rd⟩, st, h, nx⟩)
    (fun _ => some ⟨⟨fn, n, tm, k, df, false, dfr, rd⟩, st, h, nx⟩)
    (fun all rest => gOps E fn n tm df dfr rd st h nx all rest k)
    (fun _ => none)
    (fun l => kEndRange ⟨⟨fn, n, tm, .endRange l :: k, df, false, dfr, rd⟩, st, h, nx⟩ l k)
    (kStart ⟨⟨fn, n, tm, .start :: k, df, false, dfr, rd⟩, st, h, nx⟩ k) i
theorem gItem_eq (fn n : Nat) (tm : FT) (df : List ADef) (dfr : Bool) (rd : Option Nat) (st : List AFrameK) (h : Tr AObj) (nx : Nat) (i : AItem) (k : List AItem) :
    gItem E fn n tm df dfr rd st h nx i k = fItem E fn n tm df dfr rd st h nx i k := by
  cases i <;> first
    | rfl
    | exact gCode_eq E fn n tm df dfr rd st h nx _ k
    | exact gOps_eq E fn n tm df dfr rd st h nx _ _ k

/-- One step, if it isn't over. -/
noncomputable def gStep (s : AMK) : Option AMK :=
  AMK.rec (motive := fun _ => Option AMK) (fun cur st h nx => AFrameK.rec (motive := fun _ => Option AMK) (fun fn n tm todo df ret dfr rd =>
    Bool.rec (motive := fun _ => Option AMK)
      (List.rec (motive := fun _ => Option AMK) (AMK.leave ⟨⟨fn, n, tm, [], df, false, dfr, rd⟩, st, h, nx⟩ none) (fun i k _ => gItem E fn n tm df dfr rd st h nx i k) todo)
      (AMK.unwind E ⟨⟨fn, n, tm, todo, df, true, dfr, rd⟩, st, h, nx⟩) ret) cur) s
theorem gStep_eq (s : AMK) : gStep E s = fStep E s := by
  obtain ⟨⟨fn, n, tm, todo, df, ret, dfr, rd⟩, st, h, nx⟩ := s
  cases ret with
  | true => rfl
  | false =>
    cases todo with
    | nil => rfl
    | cons i k => exact gItem_eq E fn n tm df dfr rd st h nx i k
noncomputable def gFinal (s : AMK) : Bool :=
  AMK.rec (motive := fun _ => Bool) (fun cur st h nx => AFrameK.rec (motive := fun _ => Bool) (fun fn n tm todo df ret dfr rd =>
    Bool.rec (motive := fun _ => Bool) false (AMK.final ⟨⟨fn, n, tm, todo, df, true, dfr, rd⟩, st, h, nx⟩) ret) cur) s
theorem gFinal_eq (s : AMK) : gFinal s = s.final := by
  obtain ⟨⟨fn, n, tm, todo, df, ret, dfr, rd⟩, st, h, nx⟩ := s
  cases ret <;> rfl
noncomputable def AMK.runG (n : Nat) : AMK → Option AMK :=
  Nat.rec (motive := fun _ => AMK → Option AMK) (fun s => bIf (gFinal s) (some s) (gStep E s))
    (fun _ ih s => Option.rec (motive := fun _ => Option AMK) none (fun s' => bIf (gFinal s') (some s') (ih s')) (ih s)) n
theorem runG_eq : ∀ (n : Nat) (s : AMK), AMK.runG E n s = AMK.runF E n s
  | 0, s => by
    show bIf (gFinal s) (some s) (gStep E s) = match s.final with | true => some s | false => fStep E s
    rw [gFinal_eq, gStep_eq]
    cases s.final <;> rfl
  | n + 1, s => by
    have e : AMK.runG E (n + 1) s = Option.rec (motive := fun _ => Option AMK) none (fun s' => bIf (gFinal s') (some s') (AMK.runG E n s')) (AMK.runG E n s) := rfl
    have e2 : AMK.runF E (n + 1) s = match AMK.runF E n s with
      | some s' => (match s'.final with
        | true => some s'
        | false => AMK.runF E n s')
      | none => none := rfl
    rw [e, e2, runG_eq n s]
    cases AMK.runF E n s with
    | none => rfl
    | some s' =>
      simp only [gFinal_eq, runG_eq n s', bIf]
      cases s'.final <;> rfl

noncomputable def callR (n : Nat) (h : Tr AObj) (nx : Nat) (f : Nat) (args : List RV) : Option (RV × Tr AObj × Nat) :=
  match E.func f with
  | some fn => (match enterK f fn args false with
    | some a => (match AMK.runG E n { cur := a, stack := [], heap := h, next := nx } with
      | some s => (match s.final with
        | true => (match Nat.beq s.cur.fn f with
          | true => (match resultK E s with | some v => some (v, s.heap, s.next) | none => none)
          | false => none)
        | false => none)
      | none => none)
    | none => none)
  | none => none
theorem callR_eq (n : Nat) (h : Tr AObj) (nx : Nat) (f : Nat) (args : List RV) : callR E n h nx f args = callF E n h nx f args := by
  unfold callR callF
  simp only [runG_eq]
  rfl
variable {E}
theorem callR_ok {n : Nat} {h h' : Tr AObj} {nx nx' f : Nat} {args : List RV} {v : RV} (hc : callR E n h nx f args = some (v, h', nx')) {σ : Sig} {w : World} (r : HRel σ h w.heap) (g : GOk E σ) {vs : List Value} (hd : denL σ args = some vs) :
    Calls P f vs.toArray w fun e w' => ∃ σ' u, e = .returned u ∧ den σ' v = some u ∧ Way σ h w σ' h' w' := by
  rw [callR_eq] at hc
  exact callF_ok hc r g hd
end
end Go.Ev
