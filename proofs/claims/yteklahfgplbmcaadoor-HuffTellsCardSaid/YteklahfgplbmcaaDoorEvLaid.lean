/- Variables of a package that are read alone: what a row's list says of them, as the machine's memory. -/
import Derived.Test.YteklahfgplbmcaaDoorEvEnv
import Derived.OpenShut
import Derived.MakeChecks
namespace Go.Ev
section
variable {P : Program} (E : Env P)

def Env.siz (t : Nat) : Option Nat := match E.info t with | some i => some i.size | none => none
theorem Env.siz_ok {t n : Nat} (h : E.siz t = some n) : P.cellsOf t = n := by
  unfold Env.siz at h
  cases hi : E.info t with
  | none => rw [hi] at h; cases h
  | some i =>
    rw [hi] at h
    simp only [Option.some.injEq] at h
    simp [Program.cellsOf, E.info_ok t i hi, h]

variable {H : Type}
def catA (g : DataW H → Option (List RV)) (s : Nat) : List (DataW H) → Option (List RV)
  | [] => some []
  | d :: r => match g d with
    | some l => (match Nat.beq l.length s with
      | true => (match catA g s r with | some l' => some (l ++ l') | none => none)
      | false => none)
    | none => none

def catS (g : Nat → DataW H → Option (List RV)) : Nat → List Field → List (DataW H) → Option (List RV)
  | _, [], [] => some []
  | off, f :: fs, d :: r => match Nat.beq f.offset off with
    | true => (match E.siz f.type with
      | some s => (match g f.type d with
        | some l => (match Nat.beq l.length s with
          | true => (match catS g (off + s) fs r with | some l' => some (l ++ l') | none => none)
          | false => none)
        | none => none)
      | none => none)
    | false => none
  | _, _, _ => none

/-- A row's datum, cell by cell. -/
def flat : Nat → Nat → DataW H → Option (List RV)
  | 0, _, _ => none
  | n + 1, t, d => match E.und t with
    | some .bool => (match d with | .lit (.bool b) => some [.bool b] | _ => none)
    | some (.int _) => (match d with | .lit (.int k z) => some [.int k z] | _ => none)
    | some .string => (match d with | .lit (.string bs) => some [.str bs] | _ => none)
    | some (.array _ e) => (match d with
      | .agg ds => (match E.siz e with
        | some s => (match catA (flat n e) s ds with
          | some l => (match E.siz t with | some st => (match Nat.beq l.length st with | true => some l | false => none) | none => none)
          | none => none)
        | none => none)
      | _ => none)
    | some (.struct fs) => (match d with
      | .agg ds => (match catS E (flat n) 0 fs.toList ds with
        | some l => (match E.siz t with | some st => (match Nat.beq l.length st with | true => some l | false => none) | none => none)
        | none => none)
      | _ => none)
    | _ => none

variable {E} {enc : TypeId × Value → H} {w : World} {base : Nat} {sp : Nat → Bool} {held : Bool}

theorem catA_ok {σ : Sig} {n e s fuel : Nat} (ih : ∀ {d : DataW H} {l : List RV} {cs : List Value} {p : List MemPlace}, flat E n e d = some l → DataW.trod enc P w base sp held fuel e cs = some (d, p) → denL σ l = some cs) :
    ∀ (xs : List (DataW H × List MemPlace)) {cs : List Value} {l : List RV}, catA (flat E n e) s (xs.map (·.1)) = some l → (∀ i, i < xs.length → DataW.trod enc P w base sp held fuel e ((cs.drop (i * s)).take s) = xs[i]?) → denL σ l = some (cs.take (xs.length * s))
  | [], cs, l, h, _ => by simp only [List.map_nil, catA, Option.some.injEq] at h; subst h; simp [denL]
  | x :: xs, cs, l, h, hx => by
    simp only [List.map_cons, catA] at h
    split at h <;> first | (cases h; done) | skip
    rename_i l0 h0
    split at h <;> first | (cases h; done) | skip
    rename_i hb
    split at h <;> first | (cases h; done) | skip
    rename_i l1 h1
    simp only [Option.some.injEq] at h
    subst h
    have hl := Nat.eq_of_beq_eq_true hb
    have e0 := hx 0 (by simp)
    simp only [Nat.zero_mul, List.drop_zero, List.getElem?_cons_zero] at e0
    have d0 := ih h0 (p := x.2) (by rw [e0])
    have d1 := catA_ok ih xs (cs := cs.drop s) h1 (fun i hi => by
      have := hx (i + 1) (by simp; omega)
      rw [List.getElem?_cons_succ] at this
      rw [List.drop_drop, show s + i * s = (i + 1) * s by rw [Nat.succ_mul]; omega]
      exact this)
    have := denL_append d0 d1
    rw [this, List.length_cons, Nat.succ_mul, Nat.add_comm, List.take_add]

theorem catS_ok {σ : Sig} {n fuel : Nat} (ih : ∀ {e : Nat} {d : DataW H} {l : List RV} {cs : List Value} {p : List MemPlace}, flat E n e d = some l → DataW.trod enc P w base sp held fuel e cs = some (d, p) → denL σ l = some cs) :
    ∀ (fs : List Field) (xs : List (DataW H × List MemPlace)) {off : Nat} {cs : List Value} {l : List RV}, catS E (flat E n) off fs (xs.map (·.1)) = some l →
      (∀ (i : Nat) (f : Field), fs[i]? = some f → DataW.trod enc P w base sp held fuel f.type ((cs.drop f.offset).take (P.cellsOf f.type)) = xs[i]?) → denL σ l = some ((cs.drop off).take l.length)
  | [], [], off, cs, l, h, _ => by simp only [List.map_nil, catS, Option.some.injEq] at h; subst h; simp [denL]
  | [], x :: xs, off, cs, l, h, _ => by simp [catS] at h
  | f :: fs, [], off, cs, l, h, _ => by simp [catS] at h
  | f :: fs, x :: xs, off, cs, l, h, hx => by
    simp only [List.map_cons, catS] at h
    split at h <;> first | (cases h; done) | skip
    rename_i hoff
    split at h <;> first | (cases h; done) | skip
    rename_i s hs
    split at h <;> first | (cases h; done) | skip
    rename_i l0 h0
    split at h <;> first | (cases h; done) | skip
    rename_i hb
    split at h <;> first | (cases h; done) | skip
    rename_i l1 h1
    simp only [Option.some.injEq] at h
    subst h
    have hl := Nat.eq_of_beq_eq_true hb
    have ho := Nat.eq_of_beq_eq_true hoff
    have e0 := hx 0 f (by simp)
    simp only [List.getElem?_cons_zero] at e0
    rw [ho, E.siz_ok hs] at e0
    have d0 := ih h0 (p := x.2) (by rw [e0])
    have d1 := catS_ok ih fs xs (cs := cs) h1 (fun i f' hi => by
      have := hx (i + 1) f' (by simpa using hi)
      rwa [List.getElem?_cons_succ] at this)
    have := denL_append d0 d1
    rw [this, List.length_append, hl, List.take_add, List.drop_drop]

theorem flat_ok {σ : Sig} : ∀ (n : Nat) {t fuel : Nat} {d : DataW H} {l : List RV} {cs : List Value} {p : List MemPlace}, flat E n t d = some l → DataW.trod enc P w base sp held fuel t cs = some (d, p) → denL σ l = some cs
  | 0, _, _, _, _, _, _, h, _ => by simp [flat] at h
  | n + 1, t, fuel, d, l, cs, p, h, ht => by
    simp only [flat] at h
    have fin : ∀ {l : List RV} {k st : Nat}, denL σ l = some (cs.take k) → P.cellsOf t = st → l.length = st → cs.length = P.cellsOf t → denL σ l = some cs := by
      intro l k st h1 h2 h3 h4
      have h5 := denL_length h1
      rw [List.length_take] at h5
      rw [h1, List.take_of_length_le (by omega)]
    cases hu : E.und t with
    | none => rw [hu] at h; cases h
    | some u =>
      rw [hu] at h
      have hu' := E.und_ok hu
      cases u <;> simp only at h <;> first | (cases h; done) | skip
      case bool =>
        obtain ⟨b, rfl, e⟩ := DataW.trod_bool hu' ht
        cases e
        simp only [Option.some.injEq] at h
        subst h
        rfl
      case int k =>
        obtain ⟨z, rfl, e, _⟩ := DataW.trod_int hu' ht
        cases e
        simp only [Option.some.injEq] at h
        subst h
        rfl
      case string =>
        obtain ⟨s, rfl, e, _⟩ := DataW.trod_string hu' ht
        cases e
        simp only [Option.some.injEq] at h
        subst h
        simp [denL, den]
      case array m e =>
        obtain ⟨xs, fuel', rfl, hx, hl, hm, hi⟩ := DataW.trod_array hu' ht
        cases hx
        simp only at h
        split at h <;> first | (cases h; done) | skip
        rename_i s hs
        split at h <;> first | (cases h; done) | skip
        rename_i l0 h0
        split at h <;> first | (cases h; done) | skip
        rename_i st hst
        split at h <;> first | (cases h; done) | skip
        rename_i hb
        simp only [Option.some.injEq] at h
        subst h
        rw [E.siz_ok hs] at hi
        exact fin (catA_ok (fun h1 h2 => flat_ok n h1 h2) xs h0 (fun i hh => hi i (by omega))) (E.siz_ok hst) (Nat.eq_of_beq_eq_true hb) hl
      case struct fs =>
        obtain ⟨xs, fuel', rfl, hx, hl, hm, hi⟩ := DataW.trod_struct hu' ht
        cases hx
        simp only at h
        split at h <;> first | (cases h; done) | skip
        rename_i l0 h0
        split at h <;> first | (cases h; done) | skip
        rename_i st hst
        split at h <;> first | (cases h; done) | skip
        rename_i hb
        simp only [Option.some.injEq] at h
        subst h
        have := catS_ok (σ := σ) (cs := cs) (fun h1 h2 => flat_ok n h1 h2) fs.toList xs h0 (fun i f hf => hi i f (by simpa using hf))
        rw [List.drop_zero] at this
        exact fin this (E.siz_ok hst) (Nat.eq_of_beq_eq_true hb) hl

/-- What a list's variables are called, where they lie, of what type. -/
def Named (P : Program) : List (String × DataW Unit) → List (Nat × Nat) → Prop
  | [], [] => True
  | (n, _) :: r, (g, t) :: s => P.globalNamed n = some g ∧ (P.globals[g]?).map (·.type) = some t ∧ Named P r s
  | _, _ => False

variable (E) in
def flats : List (String × DataW Unit) → List (Nat × Nat) → Option (List (Nat × List RV))
  | [], _ => some []
  | (_, d) :: r, (g, t) :: s => match flat E 8 t d with
    | some l => (match flats r s with | some x => some ((g, l) :: x) | none => none)
    | none => none
  | _, _ => none

/-- The cells are these. -/
def CellsAre (w : World) (g : Nat) (l : List RV) : Prop := ∃ c t fz, w.heap[g]? = some (.cells c t fz) ∧ ∀ σ, denL σ l = some c.toList

theorem flats_ok {w : World} : ∀ {laid : List (String × DataW Unit)} {gts : List (Nat × Nat)} {x : List (Nat × List RV)} {ps : List MemPlace}, Named P laid gts → flats E laid gts = some x → DataW.LaidVars P w laid ps → AllP (CellsAre w) x
  | [], gts, x, ps, _, h, _ => by simp only [flats, Option.some.injEq] at h; subst h; trivial
  | (n, d) :: r, [], x, ps, hn, _, _ => by simp [Named] at hn
  | (n, d) :: r, (g, t) :: s, x, ps, hn, h, hl => by
    obtain ⟨n1, n2, n3⟩ := hn
    obtain ⟨g', t', cs, fuel, p, q, l1, l2, l3, l4, l5, _⟩ := hl
    obtain rfl := Option.some.inj (n1.symm.trans l1)
    obtain rfl := Option.some.inj (n2.symm.trans l2)
    simp only [flats] at h
    split at h <;> first | (cases h; done) | skip
    rename_i l hf
    split at h <;> first | (cases h; done) | skip
    rename_i x' hx'
    simp only [Option.some.injEq] at h
    subst h
    refine ⟨?_, flats_ok n3 hx' l5⟩
    simp only [World.var?, n1, Option.bind_some] at l3
    split at l3 <;> first | (cases l3; done) | skip
    rename_i c ty fz hc
    simp only [Option.some.injEq] at l3
    subst l3
    exact ⟨c, ty, fz, hc, fun σ => flat_ok 8 hf l4⟩

def entriesOf : Nat → List RV → List (Nat × RV)
  | _, [] => []
  | i, x :: l => (i, x) :: entriesOf (i + 1) l
def roOf (l : List RV) : Option AObj := match fillP .nil (entriesOf 0 l) with
  | some t => some (.ro l.length .ptr0 t)
  | none => none
def deads : Nat → List (Nat × AObj)
  | 0 => []
  | n + 1 => (n, .dead) :: deads n
def ros : List (Nat × List RV) → Option (List (Nat × AObj))
  | [] => some []
  | (g, l) :: r => match roOf l with
    | some o => (match ros r with | some x => some ((g, o) :: x) | none => none)
    | none => none
def covers (h : Tr AObj) : Nat → Bool
  | 0 => true
  | n + 1 => match h.get n with | some _ => covers h n | none => false
def below (gl : Nat) : List (Nat × List RV) → Bool
  | [] => true
  | (g, _) :: r => match Nat.blt g gl with | true => below gl r | false => false
/-- The memory at the call: so many variables, those of the list known. -/
def heapG (gl : Nat) (x : List (Nat × List RV)) : Option (Tr AObj) :=
  match ros x with
  | some o => (match fillP .nil (deads gl) with
    | some t => (match fillP t o with
      | some h => (match covers h gl with | true => (match below gl x with | true => some h | false => none) | false => none)
      | none => none)
    | none => none)
  | none => none

def sigG (gl : Nat) : Sig := fun g => if g < gl then some (g, 0) else none

theorem covers_ok {h : Tr AObj} : ∀ {n : Nat}, covers h n = true → ∀ g, g < n → ∃ o, h.get g = some o
  | n + 1, hc, g, hg => by
    simp only [covers] at hc
    split at hc
    · rename_i o ho
      by_cases e : g = n
      · subst e; exact ⟨o, ho⟩
      · exact covers_ok hc g (by omega)
    · cases hc

theorem deads_mem : ∀ {n g : Nat} {o : AObj}, (g, o) ∈ deads n → o = .dead ∧ g < n
  | n + 1, g, o, h => by
    simp only [deads, List.mem_cons, Prod.mk.injEq] at h
    rcases h with ⟨rfl, rfl⟩ | h
    · exact ⟨rfl, by omega⟩
    · obtain ⟨h1, h2⟩ := deads_mem h
      exact ⟨h1, by omega⟩

theorem ros_mem : ∀ {x : List (Nat × List RV)} {o : List (Nat × AObj)}, ros x = some o → ∀ {g : Nat} {a : AObj}, (g, a) ∈ o → ∃ l, (g, l) ∈ x ∧ roOf l = some a
  | [], o, h, g, a, hm => by simp only [ros, Option.some.injEq] at h; subst h; cases hm
  | (g0, l0) :: r, o, h, g, a, hm => by
    simp only [ros] at h
    split at h <;> first | (cases h; done) | skip
    rename_i o0 h0
    split at h <;> first | (cases h; done) | skip
    rename_i o1 h1
    simp only [Option.some.injEq] at h
    subst h
    rcases List.mem_cons.1 hm with hm | hm
    · cases hm
      exact ⟨l0, by simp, h0⟩
    · obtain ⟨l, h2, h3⟩ := ros_mem h1 hm
      exact ⟨l, List.mem_cons_of_mem _ h2, h3⟩

theorem below_ok {gl : Nat} : ∀ {x : List (Nat × List RV)}, below gl x = true → ∀ {g : Nat} {l : List RV}, (g, l) ∈ x → g < gl
  | (g0, l0) :: r, h, g, l, hm => by
    simp only [below] at h
    split at h
    · rename_i hb
      rcases List.mem_cons.1 hm with hm | hm
      · cases hm; exact Nat.le_of_ble_eq_true hb
      · exact below_ok h hm
    · cases h

theorem entriesOf_mem : ∀ {l : List RV} {i j : Nat} {x : RV}, (j, x) ∈ entriesOf i l → i ≤ j ∧ l[j - i]? = some x
  | y :: l, i, j, x, h => by
    simp only [entriesOf, List.mem_cons, Prod.mk.injEq] at h
    rcases h with ⟨rfl, rfl⟩ | h
    · simp
    · obtain ⟨h1, h2⟩ := entriesOf_mem h
      refine ⟨by omega, ?_⟩
      rw [show j - i = (j - (i + 1)) + 1 by omega]
      simpa using h2

theorem fillP_has {α : Type} : ∀ (l : List (Nat × α)) {t t' : Tr α}, fillP t l = some t' → (∀ m x, t.get m = some x → ∃ y, t'.get m = some y) ∧ (∀ m x, (m, x) ∈ l → ∃ y, t'.get m = some y)
  | [], t, t', h => by simp only [fillP, Option.some.injEq] at h; subst h; exact ⟨fun _ x hx => ⟨x, hx⟩, by simp⟩
  | (n, y) :: l, t, t', h => by
    simp only [fillP] at h
    cases hs : t.set n y with
    | none => rw [hs] at h; cases h
    | some t1 =>
      rw [hs] at h
      obtain ⟨g1, g2⟩ := Tr.get_set hs
      obtain ⟨i1, i2⟩ := fillP_has l h
      have keep : ∀ m x, t.get m = some x → ∃ y, t'.get m = some y := by
        intro m x hx
        by_cases e : m = n
        · subst e; exact i1 m y g1
        · exact i1 m x (by rw [g2 m e]; exact hx)
      refine ⟨keep, fun m x hm => ?_⟩
      rcases List.mem_cons.1 hm with hm | hm
      · cases hm; exact i1 _ _ g1
      · exact i2 m x hm

theorem entriesOf_at : ∀ {l : List RV} {i j : Nat} {x : RV}, l[j]? = some x → (i + j, x) ∈ entriesOf i l
  | y :: l, i, 0, x, h => by simp only [List.getElem?_cons_zero, Option.some.injEq] at h; subst h; simp [entriesOf]
  | y :: l, i, j + 1, x, h => by
    simp only [List.getElem?_cons_succ] at h
    simp only [entriesOf, List.mem_cons]
    right
    have := entriesOf_at (i := i + 1) h
    rwa [show i + 1 + j = i + (j + 1) by omega] at this
  | [], _, _, _, h => by simp at h

theorem roOf_ok {l : List RV} {a : AObj} (h : roOf l = some a) {σ : Sig} {c : Array Value} {t : TypeId} {fz : Nat × Nat} (hd : denL σ l = some c.toList) : ORel σ 0 a (.cells c t fz) := by
  unfold roOf at h
  split at h <;> first | (cases h; done) | skip
  rename_i tr htr
  simp only [Option.some.injEq] at h
  subst h
  simp only [ORel]
  intro i hi
  have hx : l[i]? = some l[i] := List.getElem?_eq_getElem hi
  obtain ⟨y, hy⟩ := (fillP_has _ htr).2 i l[i] (by simpa using entriesOf_at (i := 0) hx)
  have : l[i]? = some y := by
    rcases fillP_ok _ htr i y hy with h1 | h1
    · have := (entriesOf_mem h1).2
      simpa using this
    · cases h1
  obtain ⟨v, hv, hdv⟩ := denL_get i hd this
  exact ⟨v, by rw [hy]; simpa using hdv, by simpa using hv⟩

theorem relG {w : World} {gl : Nat} {x : List (Nat × List RV)} {h : Tr AObj} (hh : heapG gl x = some h) (hx : AllP (CellsAre w) x) :
    HRel (sigG gl) h w.heap ∧ ∀ b, ¬ own (sigG gl) h b := by
  unfold heapG at hh
  split at hh <;> first | (cases hh; done) | skip
  rename_i o ho
  split at hh <;> first | (cases hh; done) | skip
  rename_i t ht
  split at hh <;> first | (cases hh; done) | skip
  rename_i h1 hf
  split at hh <;> first | (cases hh; done) | skip
  rename_i hcov
  split at hh <;> first | (cases hh; done) | skip
  rename_i hbel
  simp only [Option.some.injEq] at hh
  subst hh
  have what : ∀ id a, h1.get id = some a → (a = .dead ∧ id < gl) ∨ ∃ l, (id, l) ∈ x ∧ roOf l = some a := by
    intro id a ha
    rcases fillP_ok _ hf id a ha with k | k
    · exact .inr (ros_mem ho k)
    · rcases fillP_ok _ ht id a k with k | k
      · exact .inl (deads_mem k)
      · cases k
  refine ⟨⟨fun id hid => ?_, ?_, ?_⟩, ?_⟩
  · unfold sigG
    split
    · rename_i hlt
      obtain ⟨o', ho'⟩ := covers_ok hcov id hlt
      rw [hid] at ho'; cases ho'
    · rfl
  · intro i j b n m o1 o2 hi hj _ _ _ _
    unfold sigG at hi hj
    split at hi <;> split at hj <;> simp_all
  · intro id a ha al
    rcases what id a ha with ⟨rfl, _⟩ | ⟨l, hm, hr⟩
    · cases al
    · have hlt := below_ok hbel hm
      obtain ⟨c, ty, fz, hc, hd⟩ := AllP_ok hx hm
      exact ⟨id, 0, .cells c ty fz, by simp [sigG, hlt], hc, roOf_ok hr (hd _)⟩
  · rintro b ⟨id, n, a, _, ha, hm⟩
    rcases what id a ha with ⟨rfl, _⟩ | ⟨l, _, hr⟩
    · cases hm
    · unfold roOf at hr
      split at hr <;> first | (cases hr; done) | skip
      simp only [Option.some.injEq] at hr
      subst hr
      cases hm

/-- A call of plain values, over variables that are read alone. -/
theorem callG {gl : Nat} {x : List (Nat × List RV)} {h : Tr AObj} (hg : E.gl = gl) (hh : heapG gl x = some h) {n f : Nat} {args : List RV} {v : RV} {h' : Tr AObj} {nx' : Nat} (hc : callR E n h gl f args = some (v, h', nx')) (w : World) (hx : AllP (CellsAre w) x)
    {vs : List Value} (hd : denL (sigG gl) args = some vs) {u : Value} (hv : ∀ σ, den σ v = some u) :
    Calls P f vs.toArray w fun e w' => e = .returned u ∧ RowKit.Below w.heap.size w w' := by
  obtain ⟨r, no⟩ := relG hh hx
  refine (callR_ok hc r (fun g hlt => ⟨0, by rw [hg] at hlt; simp [sigG, hlt]⟩) hd).mono fun e w' ⟨σ', u', h1, h2, h3⟩ => ?_
  rw [hv σ'] at h2
  cases h2
  exact ⟨h1, ⟨h3.os, h3.tape, h3.output, h3.size, fun k hk => (h3.keeps k hk (no k)).1⟩⟩

/-- From a row's condition. -/
theorem laidG {w : World} {laid : List (String × DataW Unit)} {gts : List (Nat × Nat)} {x : List (Nat × List RV)} (hp : (laid.all fun x => x.2.handleName?.isNone) = true) (hn : Named P laid gts) (hf : flats E laid gts = some x) (h : laidMetH P laid w) : AllP (CellsAre w) x := by
  rw [MakeChecks.laidMetH_plain P laid w hp] at h
  obtain ⟨ps, hl, _⟩ := h
  exact flats_ok hn hf hl

variable (E) in
/-- The whole run of a row with a list. -/
noncomputable def runG (gl n : Nat) (laid : List (String × DataW Unit)) (gts : List (Nat × Nat)) (f : Nat) (args : List RV) : Option (RV × Tr AObj × Nat) :=
  match flats E laid gts with
  | some x => (match heapG gl x with
    | some h => callR E n h gl f args
    | none => none)
  | none => none

theorem runG_ok {gl n : Nat} {laid : List (String × DataW Unit)} {gts : List (Nat × Nat)} {f : Nat} {args : List RV} {v : RV} {h' : Tr AObj} {nx' : Nat} (hg : E.gl = gl) (hc : runG E gl n laid gts f args = some (v, h', nx')) (hp : (laid.all fun x => x.2.handleName?.isNone) = true) (hn : Named P laid gts)
    (w : World) (h : laidMetH P laid w) {vs : List Value} (hd : denL (sigG gl) args = some vs) {u : Value} (hv : ∀ σ, den σ v = some u) :
    Calls P f vs.toArray w fun e w' => e = .returned u ∧ RowKit.Below w.heap.size w w' := by
  unfold runG at hc
  split at hc <;> first | (cases hc; done) | skip
  rename_i x hx
  split at hc <;> first | (cases hc; done) | skip
  rename_i h0 hh
  exact callG hg hh hc w (laidG hp hn hx h) hd hv

/-- Plain cells as values. -/
def plainV : RV → Value
  | .bool b => .bool b
  | .int k z => .int k z
  | .str s => .string ⟨s.toArray⟩
  | _ => .nilFunc
variable (E) in
/-- What the witness's variables hold. -/
def lay (laid : List (String × DataW Unit)) (gts : List (Nat × Nat)) (w : World) : World :=
  match flats E laid gts with
  | some x => x.foldl (fun w y => { w with heap := w.heap.modify y.1 fun | .cells _ t fz => .cells (y.2.map plainV).toArray t fz | o => o }) w
  | none => w

end
end Go.Ev
