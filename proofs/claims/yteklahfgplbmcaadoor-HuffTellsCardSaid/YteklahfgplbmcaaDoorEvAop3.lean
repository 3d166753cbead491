/- Operations one by one: new memory. -/
import Derived.Test.YteklahfgplbmcaaDoorEvAop2
namespace Go.Ev
section
variable {P : Program} (E : Env P)

/-- Cells of the zero value. -/
def zeroOf (t : Nat) : Option (List RV) :=
  match E.info t with
  | some i => (match i.zero with
    | some z => (match rvA z.cells with | some l => some l | none => none)
    | none => none)
  | none => none

theorem zeroOf_ok {t : Nat} {l : List RV} (h : zeroOf E t = some l) (σ : Sig) (w : World) :
    ∃ z, (zeroValue t).run P w = .ok z w ∧ denL σ l = some z.cells.toList := by
  unfold zeroOf at h
  cases hi : E.info t with
  | none => rw [hi] at h; cases h
  | some i =>
    rw [hi] at h
    simp only at h
    cases hz : i.zero with
    | none => rw [hz] at h; cases h
    | some z =>
      rw [hz] at h
      simp only at h
      cases hr : rvA z.cells with
      | none => rw [hr] at h; cases h
      | some l' =>
        rw [hr] at h
        simp only [Option.some.injEq] at h
        subst h
        exact ⟨z, by simp [zeroValue, E.run_info hi, hz], den_rvA σ _ _ hr⟩

/-- A new variable. -/
def allocA (h : Tr AObj) (nx t : Nat) : Option (Tr AObj) :=
  match zeroOf E t with
  | some l => newA h nx l 1
  | none => none

theorem allocA_ok {σ : Sig} {h h' : Tr AObj} {w : World} (r : HRel σ h w.heap) {nx t : Nat} (ha : allocA E h nx t = some h') :
    ∃ σ' w' u, (Instr.alloc t true (.tuple #[])).run P w = .ok u w' ∧ den σ' (.ptr nx 0) = some u ∧ Way σ h w σ' h' w' := by
  unfold allocA at ha
  cases hz : zeroOf E t with
  | none => rw [hz] at ha; cases ha
  | some l =>
    rw [hz] at ha
    obtain ⟨z, h1, h2⟩ := zeroOf_ok E hz σ w
    have hw := newA_ok r h2 ha t 0
    refine ⟨_, _, .pointer (some ⟨w.heap.size, 0, none⟩), ?_, ?_, hw⟩
    · simp [Instr.alloc, h1, newVar, newRow]
    · simp [den, Sig.ext_same]

def boxA (h : Tr AObj) (nx : Nat) (x : RV) : Option (Tr AObj) := newA h nx x.parts 1

theorem boxA_ok {σ : Sig} {h h' : Tr AObj} {w : World} (r : HRel σ h w.heap) {nx t : Nat} {x : RV} {v : Value} (hx : den σ x = some v) (ha : boxA h nx x = some h') :
    ∃ σ' w' u, (Instr.box t v).run P w = .ok u w' ∧ den σ' (.ptr nx 0) = some u ∧ Way σ h w σ' h' w' := by
  have hw := newA_ok r (parts_den hx) ha t 0
  refine ⟨_, _, .pointer (some ⟨w.heap.size, 0, none⟩), ?_, ?_, hw⟩
  · simp [Instr.box, newVar, newRow]
  · simp [den, Sig.ext_same]

/-- Cells put into others. -/
def overlay : List RV → Nat → List RV → List RV
  | cs, _, [] => cs
  | cs, o, x :: l => overlay (putAt cs o x) (o + 1) l

theorem overlay_ok {σ : Sig} : ∀ (l : List RV) (cs : List RV) (o k : Nat) {vs us : List Value}, denL σ l = some vs → denL σ cs = some us →
    denL σ (overlay cs (o + k) l) = some (((vs.zipIdx k).foldl (fun (c : Array Value) (x : Value × Nat) => c.setIfInBounds (o + x.2) x.1) us.toArray).toList)
  | [], cs, o, k, vs, us, h1, h2 => by cases h1; simpa [overlay] using h2
  | x :: l, cs, o, k, vs, us, h1, h2 => by
    obtain ⟨v, vs', e1, e2, rfl⟩ := denL_cons h1
    simp only [overlay, putAt_eq]
    have := overlay_ok l (cs.set (o + k) x) o (k + 1) e2 (denL_set (o + k) h2 e1)
    rw [Nat.add_assoc]
    rw [this]
    simp

def fillA (place : Nat → Option (Nat × Nat)) (cs : List RV) : List (Nat × RV) → Option (List RV)
  | [] => some cs
  | (i, v) :: rest =>
    match place i with
    | none => none
    | some (off, size) =>
      (match Nat.beq v.parts.length size, Nat.ble (off + v.parts.length) cs.length with
      | true, true => fillA place (overlay cs off v.parts) rest
      | _, _ => none)

def partsRel (σ : Sig) : List (Nat × RV) → List (Nat × Value) → Prop
  | [], [] => True
  | (i, x) :: l, (j, v) :: m => i = j ∧ den σ x = some v ∧ partsRel σ l m
  | _, _ => False

theorem overlay_length : ∀ (l cs : List RV) (o : Nat), (overlay cs o l).length = cs.length
  | [], _, _ => rfl
  | x :: l, cs, o => by simp [overlay, overlay_length l, putAt_eq]

theorem fillA_ok {σ : Sig} {place : Nat → Option (Nat × Nat)} : ∀ (ps : List (Nat × RV)) (qs : List (Nat × Value)) {cs out : List RV} {us : List Value}, fillA place cs ps = some out → partsRel σ ps qs → denL σ cs = some us →
    ∃ c : Array Value, Instr.fill place us.toArray qs = some c ∧ denL σ out = some c.toList
  | [], [], cs, out, us, h, _, hd => by
    simp only [fillA, Option.some.injEq] at h
    subst h
    exact ⟨us.toArray, rfl, by simpa using hd⟩
  | [], _ :: _, _, _, _, _, h, _ => h.elim
  | _ :: _, [], _, _, _, _, h, _ => h.elim
  | (i, x) :: ps, (j, v) :: qs, cs, out, us, h, hp, hd => by
    obtain ⟨rfl, hx, hr⟩ := hp
    simp only [fillA] at h
    simp only [Instr.fill]
    cases hpl : place i with
    | none => rw [hpl] at h; cases h
    | some os =>
      obtain ⟨off, size⟩ := os
      rw [hpl] at h
      simp only at h
      split at h <;> first | (cases h; done) | skip
      rename_i hb1 hb2
      have l1 : x.parts.length = size := Nat.eq_of_beq_eq_true hb1
      have l2 : off + x.parts.length ≤ cs.length := Nat.le_of_ble_eq_true hb2
      have hv := parts_den hx
      have lv := denL_length hv
      have lc := denL_length hd
      simp only
      have cc : (decide (v.cells.size ≠ size) || decide (off + v.cells.size > us.toArray.size)) = false := by
        simp only [Array.length_toList] at lv
        simp only [List.size_toArray, Bool.or_eq_false_iff, decide_eq_false_iff_not]
        omega
      rw [if_neg (by rw [cc]; simp)]
      have ho := overlay_ok x.parts cs off 0 hv hd
      simp only [Nat.add_zero] at ho
      have hz : (v.cells.zipIdx.foldl (fun cs (c, j) => cs.setIfInBounds (off + j) c) us.toArray) = ((v.cells.toList.zipIdx 0).foldl (fun (c : Array Value) (x : Value × Nat) => c.setIfInBounds (off + x.2) x.1) us.toArray) := by
        rw [← Array.foldl_toList]
        simp
      rw [hz]
      have := fillA_ok ps qs h hr (us := ((v.cells.toList.zipIdx 0).foldl (fun (c : Array Value) (x : Value × Nat) => c.setIfInBounds (off + x.2) x.1) us.toArray).toList) ho
      simpa using this

/-- Parts of a composite. -/
def partsA (tm : List RV) : List (Nat × Operand) → Option (List (Nat × RV))
  | [] => some []
  | (i, x) :: l => match ev E tm x with
    | some v => (match partsA tm l with | some m => some ((i, v) :: m) | none => none)
    | none => none

theorem partsA_ok {σ : Sig} {tm : List RV} {ρ : Operand → Value} (hρ : ∀ x r, ev E tm x = some r → den σ r = some (ρ x)) : ∀ (l : List (Nat × Operand)) {m : List (Nat × RV)}, partsA E tm l = some m → partsRel σ m (l.map fun (i, x) => (i, ρ x))
  | [], m, h => by simp only [partsA, Option.some.injEq] at h; subst h; trivial
  | (i, x) :: l, m, h => by
    simp only [partsA] at h
    cases hx : ev E tm x with
    | none => rw [hx] at h; cases h
    | some v =>
      cases hl : partsA E tm l with
      | none => rw [hx, hl] at h; cases h
      | some m' =>
        rw [hx, hl] at h
        simp only [Option.some.injEq] at h
        subst h
        exact ⟨rfl, hρ x v hx, partsA_ok hρ l hl⟩

/-- L, so many times. -/
def times {α : Type} (l : List α) : Nat → List α
  | 0 => []
  | n + 1 => l ++ times l n

theorem denL_times {σ : Sig} {l : List RV} {vs : List Value} (h : denL σ l = some vs) : ∀ n, denL σ (times l n) = some (times vs n)
  | 0 => rfl
  | n + 1 => denL_append h (denL_times h n)

theorem times_length {α : Type} (l : List α) : ∀ n, (times l n).length = n * l.length
  | 0 => by simp [times]
  | n + 1 => by simp [times, times_length l n, Nat.succ_mul, Nat.add_comm]

theorem times_get {α : Type} (l : List α) : ∀ (n i : Nat), i < n * l.length → (times l n)[i]? = l[i % l.length]?
  | 0, i, h => by simp at h
  | n + 1, i, h => by
    simp only [times]
    by_cases hi : i < l.length
    · rw [List.getElem?_append_left hi, Nat.mod_eq_of_lt hi]
    · rw [List.getElem?_append_right (by omega), times_get l n (i - l.length) (by rw [Nat.succ_mul] at h; omega)]
      congr 1
      rw [Nat.mod_eq_sub_mod (a := i) (by omega)]

theorem range_times (z : Array Value) (n : Nat) : (Array.range (n * z.size)).map (fun i => z[i % z.size]!) = (times z.toList n).toArray := by
  apply Array.ext'
  apply List.ext_getElem?
  intro i
  by_cases hi : i < n * z.size
  · have hz : 0 < z.size := by
      rcases Nat.eq_zero_or_pos z.size with h | h
      · rw [h] at hi; simp at hi
      · exact h
    have hm : i % z.size < z.size := Nat.mod_lt _ hz
    rw [times_get _ _ _ (by simpa using hi)]
    simp [hi, hm]
  · rw [List.getElem?_eq_none (by simp; omega), List.getElem?_eq_none (by rw [times_length]; simp; omega)]

/-- A row of zero values, its elements known by one value if they are one cell. -/
def zerosRow (l : List RV) (n : Nat) : Option AObj :=
  match l with
  | [x] => some (.cells n x .nil true 1)
  | l => rowOf (times l n) l.length

theorem zerosRow_ok {l : List RV} {n : Nat} {o : AObj} (h : zerosRow l n = some o) {σ : Sig} {vs : List Value} (hd : denL σ l = some vs) (N : Nat) (e : TypeId) :
    ORel σ N o (.cells (times vs n).toArray e) ∧ o.mine = true := by
  unfold zerosRow at h
  split at h
  · rename_i x
    simp only [Option.some.injEq] at h
    subst h
    obtain ⟨v, vs', h1, h2, rfl⟩ := denL_cons hd
    cases h2
    have hl := times_length [v] n
    refine ⟨⟨by simp [hl], fun i hi => ⟨v, by simpa [Tr.get_nil] using h1, ?_⟩, fun _ => by simp [hl], fun h => by simp at h, fun i hi => by simp⟩, rfl⟩
    have := times_get [v] n i (by simpa using hi)
    simpa [Nat.mod_one] using this
  · exact ⟨rowOf_ok h (denL_times hd n) N e, rowOf_alive h⟩

def newRowA (h : Tr AObj) (nx : Nat) (o : Option AObj) : Option (Tr AObj) :=
  match h.get nx with
  | some _ => none
  | none => match o with
    | some o => h.set nx o
    | none => none

def makeA (h : Tr AObj) (nx t : Nat) (l c : RV) : Option (RV × Tr AObj) :=
  match E.und t, idx l, idx c with
  | some (.slice e), some l, some c => (match E.info e, zeroOf E e with
    | some inf, some z => (match Nat.ble l c, Nat.ble (c * (inf.bytes + 1)) (2 ^ 47), Nat.beq z.length inf.size, Nat.blt 0 inf.size with
      | true, true, true, true => (match newRowA h nx (zerosRow z c) with
        | some h' => some (.slice nx 0 l (.ex c), h')
        | none => none)
      | _, _, _, _ => none)
    | _, _ => none)
  | _, _, _ => none

theorem i64_wrap {n : Nat} (h : n ≤ 2 ^ 47) : IntKind.i64.wrap (n : Int) = n := by
  have e : (n : Int) % (2 ^ IntKind.i64.bits : Int) = n := by show (n : Int) % (2 ^ 64 : Int) = n; omega
  have c : decide ((n : Int) ≥ (2 ^ (IntKind.i64.bits - 1) : Int)) = false := by
    apply decide_eq_false
    show ¬ ((n : Int) ≥ (2 ^ 63 : Int))
    omega
  simp only [IntKind.wrap, e, c, Bool.and_false]
  rfl

theorem makeA_ok {σ : Sig} {h h' : Tr AObj} {w : World} (r : HRel σ h w.heap) {nx t : Nat} {l c y : RV} (hm : makeA E h nx t l c = some (y, h')) {vl vc : Value} (hl : den σ l = some vl) (hc : den σ c = some vc) :
    ∃ σ' w' u, (Instr.makeSlice t vl vc).run P w = .ok u w' ∧ den σ' y = some u ∧ Way σ h w σ' h' w' := by
  unfold makeA at hm
  split at hm <;> first | (cases hm; done) | skip
  rename_i e ln cn hu hli hci
  split at hm <;> first | (cases hm; done) | skip
  rename_i inf z hinf hz
  split at hm <;> first | (cases hm; done) | skip
  rename_i b1 b2 b3 b4
  cases hn : newRowA h nx (zerosRow z cn) with
  | none => rw [hn] at hm; cases hm
  | some h1 =>
    rw [hn] at hm
    simp only [Option.some.injEq, Prod.mk.injEq] at hm
    obtain ⟨rfl, rfl⟩ := hm
    obtain ⟨k1, rfl⟩ := idx_ok hli hl
    obtain ⟨k2, rfl⟩ := idx_ok hci hc
    have l1 : ln ≤ cn := Nat.le_of_ble_eq_true b1
    have l2 : cn * (inf.bytes + 1) ≤ 2 ^ 47 := Nat.le_of_ble_eq_true b2
    have l3 : z.length = inf.size := Nat.eq_of_beq_eq_true b3
    have l4 : 0 < inf.size := Nat.le_of_ble_eq_true b4
    have l5 : cn ≤ 2 ^ 47 := Nat.le_trans (by rw [Nat.mul_add]; omega) l2
    have l6 : cn * inf.bytes ≤ 2 ^ 47 := Nat.le_trans (by rw [Nat.mul_add]; omega) l2
    obtain ⟨zv, z1, z2⟩ := zeroOf_ok E hz σ w
    have zl := denL_length z2
    have zs : zv.cells.size = inf.size := by simp at zl; omega
    unfold newRowA at hn
    cases hg : h.get nx with
    | some o => rw [hg] at hn; cases hn
    | none =>
      rw [hg] at hn
      simp only at hn
      cases ho : zerosRow z cn with
      | none => rw [ho] at hn; cases hn
      | some o =>
        rw [ho] at hn
        simp only at hn
        have hw := Way.alloc (c := .cells (times zv.cells.toList cn).toArray e) r 0 hg hn (fun _ => (zerosRow_ok ho (denL_mono (Sig.le_ext (r.dom nx hg)) _ _ z2) 0 e).1)
        refine ⟨_, _, .slice (some ⟨w.heap.size, 0, none⟩) ln cn, ?_, by simp [den, Sig.ext_same, Cap.den], hw⟩
        have w1 : IntKind.i64.wrap (ln : Int) = ln := i64_wrap (by omega)
        have w2 : IntKind.i64.wrap (cn : Int) = cn := i64_wrap l5
        have c1 : ¬ ((cn : Int) < 0) := by omega
        have c2 : ¬ ((inf.bytes : Int) * cn > 2 ^ 48) := by
          have : (inf.bytes : Int) * cn = ((cn * inf.bytes : Nat) : Int) := by push_cast; exact Int.mul_comm _ _
          rw [this]; omega
        have c3 : ¬ ((cn : Int) < ln) := by omega
        simp only [Instr.makeSlice, Sem.run_bind, E.run_und hu, Result.andThen_ok, asInt, asIntOf, Sem.run_pure, E.run_info hinf, w1, w2]
        have c4 : (decide ((cn : Int) < 0) || decide ((inf.bytes : Int) * cn > 2 ^ 48) || decide ((ln : Int) < 0) || decide ((ln : Int) > cn)) = false := by
          simp only [Bool.or_eq_false_iff, decide_eq_false_iff_not]
          exact ⟨⟨⟨c1, c2⟩, by omega⟩, by omega⟩
        rw [if_neg (by rw [c4]; simp)]
        simp only [Sem.run_bind, run_askRoom, Result.andThen_ok, E.run_size hinf, Int.toNat_natCast]
        by_cases hc0 : cn = 0
        · subst hc0
          have e0 : ∀ f : Nat → Value, Array.map f (Array.range 0) = #[] := fun f => by apply Array.ext'; simp
          simp [newRow, times, e0]
        · have : ¬ cn * inf.size = 0 := by
            intro h0
            rcases Nat.mul_eq_zero.1 h0 with h0 | h0 <;> omega
          rw [if_neg this]
          simp only [Sem.run_bind, z1, Result.andThen_ok, Sem.run_pure, newRow, run_newObj]
          rw [← zs, range_times]
          rfl

end
end Go.Ev
