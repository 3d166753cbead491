/- What an operation does to such values; and that the model's does so. -/
import Derived.Test.YteklahfgplbmcaaDoorEvBase
import Derived.Laws.Sem
import Derived.Laws.World
import Derived.Laws.Cells
import Derived.Laws.Entries
namespace Go.Ev

/-- What is asked of the program's tables. -/
structure Env (P : Program) where
  info : Nat → Option TypeInfo
  info_ok : ∀ t i, info t = some i → P.info? t = some i
  func : Nat → Option Func
  func_ok : ∀ f fn, func f = some fn → P.funcs[f]? = some fn ∧ fn.body.isSome = true ∧ ∀ args w, (callFunc f args).run P w = .ok (.enter f args) w
  gl : Nat
  big : Nat → Bool
  mixed : P.follows .mixedOrders = true
  cl : Tr AObj → Nat → Nat → List RV → Option (RV × Tr AObj × Nat)
  cl_ok : ∀ {h h' : Tr AObj} {nx nx' f : Nat} {args : List RV} {v : RV}, cl h nx f args = some (v, h', nx') → ∀ {σ : Sig} {w : World}, HRel σ h w.heap → (∀ g, g < gl → ∃ n, σ g = some (g, n)) → ∀ {vs : List Value}, denL σ args = some vs →
    Calls P f vs.toArray w fun e w' => ∃ σ' u, e = .returned u ∧ den σ' v = some u ∧ Way σ h w σ' h' w'

section
variable {P : Program} (E : Env P)

def Env.und (t : Nat) : Option TypeDesc :=
  match E.info t with
  | none => none
  | some i => match i.desc with
    | .named _ u => (match E.info u with | some j => some j.desc | none => none)
    | d => some d

theorem Env.und_ok {t : Nat} {d : TypeDesc} (h : E.und t = some d) : P.underlying t = some d := by
  unfold Env.und at h
  unfold Program.underlying
  cases hi : E.info t with
  | none => rw [hi] at h; cases h
  | some i =>
    rw [hi] at h
    rw [E.info_ok t i hi]
    obtain ⟨desc, a1, a2, a3, a4, a5, a6, a7, a8, a9⟩ := i
    cases desc
    case named n u =>
      simp only at h ⊢
      cases hu : E.info u with
      | none => rw [hu] at h; cases h
      | some j => rw [hu] at h; rw [E.info_ok u j hu]; simpa using h
    all_goals simpa using h

theorem Env.run_und {t : Nat} {d : TypeDesc} (h : E.und t = some d) (w : World) : (underlying t).run P w = .ok d w := by
  simp [underlying, E.und_ok h]

theorem Env.run_info {t : Nat} {i : TypeInfo} (h : E.info t = some i) (w : World) : (typeInfo t).run P w = .ok i w := by
  simp [typeInfo, E.info_ok t i h]

theorem Env.run_size {t : Nat} {i : TypeInfo} (h : E.info t = some i) (w : World) : (sizeOf t).run P w = .ok i.size w := by
  simp [sizeOf, E.run_info h]

def Env.agg (t : Nat) : Option Bool :=
  match E.und t with
  | none => none
  | some (.struct _) => some true
  | some (.array _ _) => some true
  | some _ => some false

theorem Env.run_agg {t : Nat} {b : Bool} (h : E.agg t = some b) (w : World) : (isAgg t).run P w = .ok b w := by
  unfold Env.agg at h
  cases hu : E.und t with
  | none => rw [hu] at h; cases h
  | some d =>
    rw [hu] at h
    simp only [isAgg, Sem.run_bind, E.run_und hu, Result.andThen_ok]
    cases d <;> simp_all

/-- An operand. -/
def ev (tm : List RV) : Operand → Option RV
  | .tmp t => match nth tm t with | some v => some v | none => some (.tuple [])
  | .const v => rv v
  | .global g => match Nat.blt g E.gl with | true => some (.ptr g 0) | false => none
  | .func f => some (.fn f [] [])

def GOk (σ : Sig) : Prop := ∀ g, g < E.gl → ∃ n, σ g = some (g, n)
theorem GOk.mono {σ σ' : Sig} (h : GOk E σ) (hl : σ.le σ') : GOk E σ' := fun g hg => let ⟨n, hn⟩ := h g hg; ⟨n, hl _ _ hn⟩

theorem ev_ok {σ : Sig} {tm : List RV} {tmps : Array Value} {defers : List Deferred} (hg : GOk E σ) (ht : denL σ tm = some tmps.toList) {x : Operand} {r : RV} (h : ev E tm x = some r) :
    den σ r = some ((Act.mk tmps defers).eval x) := by
  cases x with
  | tmp t =>
    simp only [ev, nth_eq] at h
    cases hn : tm[t]? with
    | none =>
      rw [hn] at h
      simp only [Option.some.injEq] at h
      subst h
      have := denL_get_none t ht hn
      simp only [Act.eval, Array.getD_eq_getD_getElem?]
      rw [Array.getElem?_toList] at this
      rw [this]; rfl
    | some v =>
      rw [hn] at h
      simp only [Option.some.injEq] at h
      subst h
      obtain ⟨u, hu, hd⟩ := denL_get t ht hn
      simp only [Act.eval, Array.getD_eq_getD_getElem?]
      rw [Array.getElem?_toList] at hu
      rw [hu]; exact hd
  | const v => exact den_rv σ v r h
  | global g =>
    simp only [ev] at h
    cases hb : Nat.blt g E.gl with
    | false => rw [hb] at h; cases h
    | true =>
      rw [hb] at h
      simp only [Option.some.injEq] at h
      subst h
      obtain ⟨n, hn⟩ := hg g (Nat.le_of_ble_eq_true hb)
      simp [den, hn, Act.eval]
  | func f =>
    simp only [ev, Option.some.injEq] at h
    subst h
    simp [den, denL, Act.eval]

/-! Memory. -/

def rowGet (n : Nat) (d : RV) (t : Tr RV) (i : Nat) : Option RV :=
  match Nat.blt i n with
  | true => (match t.get i with | some x => some x | none => some d)
  | false => none

theorem rowGet_some {n : Nat} {d : RV} {t : Tr RV} {i : Nat} {x : RV} (h : rowGet n d t i = some x) : i < n ∧ (t.get i).getD d = x := by
  unfold rowGet at h
  cases hb : Nat.blt i n with
  | false => rw [hb] at h; cases h
  | true =>
    rw [hb] at h
    refine ⟨Nat.le_of_ble_eq_true hb, ?_⟩
    cases ht : t.get i <;> rw [ht] at h <;> simpa using h

def cellAt (h : Tr AObj) (id off : Nat) : Option RV :=
  match h.get id with
  | some (.cells n d t _ _) => rowGet n d t off
  | some (.ro n d t) => rowGet n d t off
  | _ => none

theorem cellAt_ok {σ : Sig} {h : Tr AObj} {w : World} (r : HRel σ h w.heap) {id off : Nat} {x : RV} (hc : cellAt h id off = some x) :
    ∃ b N v, σ id = some (b, N) ∧ den σ x = some v ∧ w.cell? ⟨b, off, none⟩ = some v := by
  unfold cellAt at hc
  cases hg : h.get id with
  | none => rw [hg] at hc; cases hc
  | some o =>
    rw [hg] at hc
    cases o with
    | cells n d t ex sz =>
      obtain ⟨hi, hx⟩ := rowGet_some hc
      obtain ⟨b, N, c, h1, h2, h3⟩ := r.obj id _ hg rfl
      cases c <;> simp only [ORel] at h3
      case cells c e fz =>
        obtain ⟨v, hv, hcv⟩ := h3.2.1 off hi
        exact ⟨b, N, v, h1, hx ▸ hv, by simp [World.cell?, h2, hcv]⟩
    | ro n d t =>
      obtain ⟨hi, hx⟩ := rowGet_some hc
      obtain ⟨b, N, c, h1, h2, h3⟩ := r.obj id _ hg rfl
      cases c <;> simp only [ORel] at h3
      case cells c e fz =>
        obtain ⟨v, hv, hcv⟩ := h3 off hi
        exact ⟨b, N, v, h1, hx ▸ hv, by simp [World.cell?, h2, hcv]⟩
    | loop => cases hc
    | deferred => cases hc
    | dead => cases hc

def cellsAt (h : Tr AObj) (id : Nat) : Nat → Nat → Option (List RV)
  | _, 0 => some []
  | off, n + 1 => match cellAt h id off with
    | some x => (match cellsAt h id (off + 1) n with | some l => some (x :: l) | none => none)
    | none => none

theorem cellsAt_ok {σ : Sig} {h : Tr AObj} {w : World} (r : HRel σ h w.heap) {id b N : Nat} (hs : σ id = some (b, N)) :
    ∀ (n off : Nat) {l : List RV}, cellsAt h id off n = some l → ∃ vs : List Value, denL σ l = some vs ∧ vs.length = n ∧ ∀ j v, vs[j]? = some v → w.cell? ⟨b, off + j, none⟩ = some v
  | 0, off, l, hl => by
    simp only [cellsAt, Option.some.injEq] at hl
    subst hl
    exact ⟨[], rfl, rfl, by simp⟩
  | n + 1, off, l, hl => by
    simp only [cellsAt] at hl
    cases hx : cellAt h id off with
    | none => rw [hx] at hl; cases hl
    | some x =>
      cases hr : cellsAt h id (off + 1) n with
      | none => rw [hx, hr] at hl; cases hl
      | some l' =>
        rw [hx, hr] at hl
        simp only [Option.some.injEq] at hl
        subst hl
        obtain ⟨vs, h1, h2, h3⟩ := cellsAt_ok r hs n (off + 1) hr
        obtain ⟨b', N', v, e1, e2, e3⟩ := cellAt_ok r hx
        rw [hs] at e1
        simp only [Option.some.injEq, Prod.mk.injEq] at e1
        obtain ⟨rfl, rfl⟩ := e1
        refine ⟨v :: vs, denL_cons_mk e2 h1, by simp [h2], fun j u hj => ?_⟩
        cases j with
        | zero => simp at hj; subst hj; exact e3
        | succ j => simp at hj; have := h3 j u hj; rwa [show off + 1 + j = off + (j + 1) by omega] at this

theorem addr_add (b off j : Nat) : (Addr.mk b off none).add j = ⟨b, off + j, none⟩ := by
  unfold Addr.add
  split
  · subst_vars; simp
  · rfl

theorem run_loadCells_of {w : World} {b off : Nat} {vs : List Value} {n : Nat} (hn : vs.length = n) (h : ∀ j v, vs[j]? = some v → w.cell? ⟨b, off + j, none⟩ = some v) :
    (loadCells ⟨b, off, none⟩ n).run P w = .ok vs.toArray w := by
  subst hn
  exact run_loadCells_list w _ vs (fun j v hj => by rw [addr_add]; exact h j v hj)

/-- Reading a variable. -/
def loadA (h : Tr AObj) (t id off : Nat) : Option RV :=
  match E.agg t with
  | some true => (match E.info t with
    | some i => (match cellsAt h id off i.size with | some l => some (.agg l) | none => none)
    | none => none)
  | some false => cellAt h id off
  | none => none

theorem loadA_ok {σ : Sig} {h : Tr AObj} {w : World} (r : HRel σ h w.heap) {t id off b N : Nat} (hs : σ id = some (b, N)) {x : RV} (hl : loadA E h t id off = some x) :
    ∃ v, den σ x = some v ∧ (loadVar t ⟨b, off, none⟩).run P w = .ok v w := by
  unfold loadA at hl
  cases ha : E.agg t with
  | none => rw [ha] at hl; cases hl
  | some bb =>
    rw [ha] at hl
    cases bb with
    | true =>
      cases hi : E.info t with
      | none => rw [hi] at hl; cases hl
      | some i =>
        rw [hi] at hl
        cases hc : cellsAt h id off i.size with
        | none => simp only [hc] at hl; cases hl
        | some l =>
          simp only [hc, Option.some.injEq] at hl
          subst hl
          obtain ⟨vs, h1, h2, h3⟩ := cellsAt_ok r hs _ _ hc
          exact ⟨.agg vs.toArray, by simp [den, h1], by simp [loadVar, E.run_agg ha, E.run_size hi, run_loadCells_of h2 h3]⟩
    | false =>
      obtain ⟨b', N', v, e1, e2, e3⟩ := cellAt_ok r hl
      rw [hs] at e1
      simp only [Option.some.injEq, Prod.mk.injEq] at e1
      obtain ⟨rfl, rfl⟩ := e1
      exact ⟨v, e2, by simp [loadVar, E.run_agg ha, e3]⟩

def RV.one : RV → Bool
  | .agg _ | .tuple _ => false
  | _ => true

theorem one_den {σ : Sig} {x : RV} {v : Value} (h1 : x.one = true) (h : den σ x = some v) : v.oneCell' = true := by
  cases x
  case agg => cases h1
  case tuple => cases h1
  all_goals
    simp only [den] at h
    first
      | (cases h; rfl)
      | (split at h <;> first | (cases h; done) | (cases h; rfl) | (split at h <;> first | (cases h; done) | (cases h; rfl)))

/-- Writing one cell. -/
def putCell (h : Tr AObj) (id off : Nat) (x : RV) : Option (Tr AObj) :=
  match h.get id with
  | some (.cells n d t ex sz) =>
    (match Nat.blt off n with
    | true => (match x.one with
      | true => (match t.set off x with | some t' => h.set id (.cells n d t' ex sz) | none => none)
      | false => none)
    | false => none)
  | _ => none

theorem putCell_ok {σ : Sig} {h h' : Tr AObj} {w : World} (r : HRel σ h w.heap) {id off b N : Nat} (hs : σ id = some (b, N)) {x : RV} {v : Value} (hv : den σ x = some v) (hp : putCell h id off x = some h') :
    (store ⟨b, off, none⟩ v).run P w = .ok () (w.setCell ⟨b, off, none⟩ v) ∧ Way σ h w σ h' (w.setCell ⟨b, off, none⟩ v) := by
  unfold putCell at hp
  cases hg : h.get id with
  | none => rw [hg] at hp; cases hp
  | some o =>
    rw [hg] at hp
    cases o with
    | cells n d t ex sz =>
      simp only at hp
      cases hb : Nat.blt off n with
      | false => rw [hb] at hp; cases hp
      | true =>
        rw [hb] at hp
        simp only at hp
        have hoff : off < n := Nat.le_of_ble_eq_true hb
        cases ho : x.one with
        | false => rw [ho] at hp; cases hp
        | true =>
          rw [ho] at hp
          simp only at hp
          cases hset : t.set off x with
          | none => rw [hset] at hp; cases hp
          | some t' =>
            rw [hset] at hp
            simp only at hp
            obtain ⟨g1, g2⟩ := Tr.get_set hset
            obtain ⟨b', N', c, h1, h2, h3⟩ := r.obj id _ hg rfl
            rw [hs] at h1
            simp only [Option.some.injEq, Prod.mk.injEq] at h1
            obtain ⟨rfl, rfl⟩ := h1
            cases c <;> simp only [ORel] at h3
            case cells c e fz =>
              obtain ⟨k1, k2, k3, k4, k5⟩ := h3
              have hlt : off < c.size := by omega
              have hcell : w.cell? ⟨b, off, none⟩ = some c[off] := by simp [World.cell?, h2, hlt]
              have hfz : w.frozen? ⟨b, off, none⟩ = false := by
                have := k5 off hlt
                simp only [World.frozen?, h2]
                simp only [Bool.and_eq_false_iff, decide_eq_false_iff_not]
                omega
              refine ⟨by rw [run_store _ _ _ _ _ (one_den ho hv)]; simp [hcell, hfz], ?_⟩
              refine Way.change r hg rfl hs hp rfl rfl rfl (by simp) (fun k hk => Go.RowKit.Below.heap_setCell _ _ _ _ hk) (fun _ => ⟨(by simp [World.setCell, Array.getElem?_modify, h2] : _ = some (Obj.cells (c.setIfInBounds off v) e fz)), ?_⟩)
              refine ⟨by simp; exact k1, fun i hi => ?_, fun he => by simp; exact k3 he, fun he => by simp; exact k4 he, fun i hi => k5 i (by simpa using hi)⟩
              by_cases e : i = off
              · subst e
                exact ⟨v, by rw [g1]; exact hv, by simp [hlt]⟩
              · obtain ⟨u, hu, hcu⟩ := k2 i hi
                exact ⟨u, by rw [g2 i e]; exact hu, by rw [Array.getElem?_setIfInBounds_ne (by omega)]; exact hcu⟩
    | ro => cases hp
    | loop => cases hp
    | deferred => cases hp
    | dead => cases hp

def putCells (h : Tr AObj) (id : Nat) : Nat → List RV → Option (Tr AObj)
  | _, [] => some h
  | off, x :: l => match putCell h id off x with
    | some h' => putCells h' id (off + 1) l
    | none => none

theorem putCells_ok {σ : Sig} {id b N : Nat} (hs : σ id = some (b, N)) (off : Nat) : ∀ (l : List RV) {h h' : Tr AObj} {w : World} (i : Nat) {vs : List Value}, HRel σ h w.heap → denL σ l = some vs → putCells h id (off + i) l = some h' →
    ∃ w', (storeCells ⟨b, off, none⟩ vs i).run P w = .ok () w' ∧ Way σ h w σ h' w'
  | [], h, h', w, i, vs, r, hd, hp => by
    cases hd
    simp only [putCells, Option.some.injEq] at hp
    subst hp
    exact ⟨w, by simp [storeCells], Way.refl r⟩
  | x :: l, h, h', w, i, vs, r, hd, hp => by
    obtain ⟨v, vs', h1, h2, rfl⟩ := denL_cons hd
    simp only [putCells] at hp
    cases hx : putCell h id (off + i) x with
    | none => rw [hx] at hp; cases hp
    | some h1' =>
      rw [hx] at hp
      obtain ⟨e1, e2⟩ := putCell_ok (P := P) r hs h1 hx
      obtain ⟨w', f1, f2⟩ := putCells_ok hs off l (i + 1) e2.rel h2 (by rw [← Nat.add_assoc]; exact hp)
      refine ⟨w', ?_, e2.trans f2⟩
      simp only [storeCells, Sem.run_bind, addr_add, e1, Result.andThen_ok, f1]

def RV.parts : RV → List RV
  | .agg cs => cs
  | v => [v]

theorem parts_den {σ : Sig} {x : RV} {v : Value} (h : den σ x = some v) : denL σ x.parts = some v.cells.toList := by
  have other : v.cells = #[v] → x.parts = [x] → denL σ x.parts = some v.cells.toList := fun h1 h2 => by rw [h1, h2]; exact denL_cons_mk h rfl
  cases x
  case agg cs =>
    simp only [den] at h
    cases hc : denL σ cs with
    | none => rw [hc] at h; cases h
    | some l => rw [hc] at h; simp only [Option.some.injEq] at h; subst h; simpa [RV.parts, Value.cells] using hc
  all_goals
    refine other ?_ rfl
    have h' := h
    simp only [den] at h'
    first
      | (cases h'; rfl)
      | (split at h' <;> first | (cases h'; done) | (cases h'; rfl) | (split at h' <;> first | (cases h'; done) | (cases h'; rfl)))

/-- Writing a variable. -/
def storeA (h : Tr AObj) (t id off : Nat) (x : RV) : Option (Tr AObj) :=
  match E.info t with
  | some i => (match Nat.beq x.parts.length i.size with
    | true => putCells h id off x.parts
    | false => none)
  | none => none

theorem storeA_ok {σ : Sig} {h h' : Tr AObj} {w : World} (r : HRel σ h w.heap) {t id off b N : Nat} (hs : σ id = some (b, N)) {x : RV} {v : Value} (hv : den σ x = some v) (hp : storeA E h t id off x = some h') :
    ∃ w', (storeVar t ⟨b, off, none⟩ v).run P w = .ok () w' ∧ Way σ h w σ h' w' := by
  unfold storeA at hp
  cases hi : E.info t with
  | none => rw [hi] at hp; cases hp
  | some i =>
    rw [hi] at hp
    cases hb : Nat.beq x.parts.length i.size with
    | false => simp only [hb] at hp; cases hp
    | true =>
      simp only [hb] at hp
      have hd := parts_den hv
      have hl : v.cells.size = i.size := by
        have := denL_length hd
        have := Nat.eq_of_beq_eq_true hb
        simp at *; omega
      obtain ⟨w', h1, h2⟩ := putCells_ok (P := P) hs off x.parts 0 r hd hp
      exact ⟨w', by simp [storeVar, E.run_size hi, hl, h1], h2⟩

/-- A row out of a list. -/
def fillT : Tr RV → Nat → List RV → Option (Tr RV)
  | t, _, [] => some t
  | t, n, x :: l => match t.set n x with
    | some t' => fillT t' (n + 1) l
    | none => none

theorem fillT_ok : ∀ (l : List RV) {t t' : Tr RV} {n : Nat}, fillT t n l = some t' → (∀ i x, l[i]? = some x → t'.get (n + i) = some x) ∧ ∀ m, m < n → t'.get m = t.get m
  | [], t, t', n, h => by
    simp only [fillT, Option.some.injEq] at h
    subst h
    exact ⟨by simp, fun _ _ => rfl⟩
  | x :: l, t, t', n, h => by
    simp only [fillT] at h
    cases hs : t.set n x with
    | none => rw [hs] at h; cases h
    | some t1 =>
      rw [hs] at h
      obtain ⟨g1, g2⟩ := Tr.get_set hs
      obtain ⟨f1, f2⟩ := fillT_ok l h
      refine ⟨fun i y hi => ?_, fun m hm => by rw [f2 m (by omega), g2 m (by omega)]⟩
      cases i with
      | zero => simp at hi; subst hi; rw [Nat.add_zero, f2 n (by omega), g1]
      | succ i => simp at hi; have := f1 i y hi; rwa [show n + 1 + i = n + (i + 1) by omega] at this

/-- An exact row of these cells. -/
def rowOf (l : List RV) (sz : Nat) : Option AObj :=
  match l with
  | [x] => some (.cells 1 x .nil true sz)
  | l => match fillT .nil 0 l with
    | some t => some (.cells l.length .nilFunc t true sz)
    | none => none

theorem rowOf_ok {l : List RV} {sz : Nat} {o : AObj} (h : rowOf l sz = some o) {σ : Sig} {vs : List Value} (hd : denL σ l = some vs) (N : Nat) (e : TypeId) :
    ORel σ N o (.cells vs.toArray e) := by
  have hl := denL_length hd
  have gen : ∀ d t, (∀ i x, l[i]? = some x → (t : Tr RV).get i = some x) → ORel σ N (.cells l.length d t true sz) (.cells vs.toArray e) := by
    intro d t ht
    refine ⟨by simp; omega, fun i hi => ?_, fun _ => by simp; omega, fun h => by simp at h, fun i hi => by simp⟩
    have hx : l[i]? = some l[i] := by simp [hi]
    obtain ⟨v, hv, hvd⟩ := denL_get i hd hx
    exact ⟨v, by rw [ht i _ hx]; exact hvd, by simpa using hv⟩
  unfold rowOf at h
  split at h
  · rename_i x
    simp only [Option.some.injEq] at h
    subst h
    refine ⟨by simp; simp at hl; omega, fun i hi => ?_, fun _ => by simp; simp at hl; omega, fun h => by simp at h, fun i hi => by simp⟩
    have : i = 0 := by omega
    subst this
    obtain ⟨v, hv, hvd⟩ := denL_get 0 hd (x := x) rfl
    exact ⟨v, by simpa [Tr.get_nil] using hvd, by simpa using hv⟩
  · cases hf : fillT .nil 0 l with
    | none => rw [hf] at h; cases h
    | some t =>
      rw [hf] at h
      simp only [Option.some.injEq] at h
      subst h
      exact gen _ _ (fun i x hx => by have := (fillT_ok l hf).1 i x hx; simpa using this)

theorem rowOf_alive {l : List RV} {sz : Nat} {o : AObj} (h : rowOf l sz = some o) : o.mine = true := by
  unfold rowOf at h
  split at h
  · simp only [Option.some.injEq] at h; subst h; rfl
  · split at h <;> first | (simp only [Option.some.injEq] at h; subst h; rfl) | cases h

/-- A new row. -/
def newA (h : Tr AObj) (nx : Nat) (l : List RV) (sz : Nat) : Option (Tr AObj) :=
  match h.get nx with
  | some _ => none
  | none => match rowOf l sz with
    | some o => h.set nx o
    | none => none

theorem newA_ok {σ : Sig} {h h' : Tr AObj} {w : World} (r : HRel σ h w.heap) {nx sz : Nat} {l : List RV} {vs : List Value} (hd : denL σ l = some vs) (hn : newA h nx l sz = some h') (e : TypeId) (N : Nat) :
    Way σ h w (σ.ext nx (w.heap.size, N)) h' (w.alloc (.cells vs.toArray e)) := by
  unfold newA at hn
  cases hg : h.get nx with
  | some o => rw [hg] at hn; cases hn
  | none =>
    rw [hg] at hn
    simp only at hn
    cases ho : rowOf l sz with
    | none => rw [ho] at hn; cases hn
    | some o =>
      rw [ho] at hn
      exact Way.alloc r N hg hn (fun _ => rowOf_ok ho (denL_mono (Sig.le_ext (r.dom nx hg)) _ _ hd) N e)

end
end Go.Ev
