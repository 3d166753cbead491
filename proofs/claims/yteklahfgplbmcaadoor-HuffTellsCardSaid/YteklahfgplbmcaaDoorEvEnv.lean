/- The program's tables, kept by number. -/
import Derived.Test.YteklahfgplbmcaaDoorEvK6
namespace Go.Ev

def fillP {α : Type} : Tr α → List (Nat × α) → Option (Tr α)
  | t, [] => some t
  | t, (n, x) :: l => match t.set n x with
    | some t' => fillP t' l
    | none => none

theorem fillP_ok {α : Type} : ∀ (l : List (Nat × α)) {t t' : Tr α}, fillP t l = some t' → ∀ m x, t'.get m = some x → (m, x) ∈ l ∨ t.get m = some x
  | [], t, t', h, m, x, hx => by simp only [fillP, Option.some.injEq] at h; subst h; exact .inr hx
  | (n, y) :: l, t, t', h, m, x, hx => by
    simp only [fillP] at h
    cases hs : t.set n y with
    | none => rw [hs] at h; cases h
    | some t1 =>
      rw [hs] at h
      obtain ⟨g1, g2⟩ := Tr.get_set hs
      rcases fillP_ok l h m x hx with h1 | h1
      · exact .inl (List.mem_cons_of_mem _ h1)
      · by_cases e : m = n
        · subst e; rw [g1] at h1; cases h1; exact .inl (by simp)
        · rw [g2 m e] at h1; exact .inr h1

def tab {α : Type} (l : List (Nat × α)) : Tr α :=
  match fillP .nil l with
  | some t => t
  | none => .nil

theorem tab_ok {α : Type} {l : List (Nat × α)} {m : Nat} {x : α} (h : (tab l).get m = some x) : (m, x) ∈ l := by
  unfold tab at h
  split at h
  · rename_i t ht
    rcases fillP_ok l ht m x h with h1 | h1
    · exact h1
    · cases h1
  · cases h

def AllP {α : Type} (Q : Nat → α → Prop) : List (Nat × α) → Prop
  | [] => True
  | (n, x) :: l => Q n x ∧ AllP Q l
theorem AllP_ok {α : Type} {Q : Nat → α → Prop} : ∀ {l : List (Nat × α)}, AllP Q l → ∀ {n x}, (n, x) ∈ l → Q n x
  | [], _, n, x, h => by simp at h
  | (m, y) :: l, ⟨h1, h2⟩, n, x, h => by
    rcases List.mem_cons.1 h with h | h
    · cases h; exact h1
    · exact AllP_ok h2 h

def mkEnv (P : Program) (ts : List (Nat × TypeInfo)) (fs : List (Nat × Func)) (gl : Nat) (hm : P.follows .mixedOrders = true) (ht : AllP (fun n x => P.types[n]? = some x) ts)
    (hf : AllP (fun n x => P.funcs[n]? = some x ∧ x.body.isSome = true ∧ ∀ args w, (callFunc n args).run P w = .ok (.enter n args) w) fs) : Env P where
  info := (tab ts).get
  info_ok := fun t i h => by
    have := AllP_ok ht (tab_ok h)
    unfold Tables.info?
    rw [if_pos (Array.getElem?_eq_some_iff.1 this).1, this]
  func := (tab fs).get
  func_ok := fun f fn h => AllP_ok hf (tab_ok h)
  gl := gl
  big := fun _ => false
  mixed := hm
  cl := fun _ _ _ _ => none
  cl_ok := fun h => by cases h

/-- The same, where a region that draws its order may hold calls, each of so many steps. -/
noncomputable def Env.up {P : Program} (E : Env P) (n : Nat) : Env P where
  info := E.info
  info_ok := E.info_ok
  func := E.func
  func_ok := E.func_ok
  gl := E.gl
  big := E.big
  mixed := E.mixed
  cl := callR E n
  cl_ok := fun h _ _ r g _ hd => callR_ok h r g hd

/-- Nothing is known of the memory yet. -/
def none0 : Sig := fun _ => none
theorem rel0 (w : World) : HRel none0 .nil w.heap := ⟨fun _ _ => rfl, fun i j b n m o o' h => (by cases h), fun id o h => (by cases h)⟩
theorem way0 {σ : Sig} {h : Tr AObj} {w w' : World} (a : Way none0 .nil w σ h w') : RowKit.Below w.heap.size w w' :=
  ⟨a.os, a.tape, a.output, a.size, fun k hk => (a.keeps k hk (by rintro ⟨id, n, o, h, _⟩; cases h)).1⟩

/-- What a run that was held to be true was. -/
theorem ran {x : Option (RV × Tr AObj × Nat)} (h : x.map (fun x => match x.1 with | .bool true => true | _ => false) = some true) : ∃ v h' nx', x = some (v, h', nx') ∧ v = .bool true := by
  cases x with
  | none => cases h
  | some y =>
    obtain ⟨v, h', nx'⟩ := y
    simp only [Option.map_some, Option.some.injEq] at h
    refine ⟨v, h', nx', rfl, ?_⟩
    split at h
    · first | rfl | assumption
    · cases h

/-- A call of plain values that yields a plain value. -/
theorem call0 {P : Program} {E : Env P} (hg : E.gl = 0) {n f : Nat} {args : List RV} {v : RV} {h' : Tr AObj} {nx' : Nat} (hc : callR E n .nil 0 f args = some (v, h', nx')) (w : World) {vs : List Value} (hd : denL none0 args = some vs) {u : Value} (hv : ∀ σ, den σ v = some u) :
    Calls P f vs.toArray w fun e w' => e = .returned u ∧ RowKit.Below w.heap.size w w' :=
  (callR_ok hc (rel0 w) (fun g h => by rw [hg] at h; cases h) hd).mono fun e w' ⟨σ', u', h1, h2, h3⟩ => by
    rw [hv σ'] at h2
    cases h2
    exact ⟨h1, way0 h3⟩

end Go.Ev
