/- Operations one by one: conversions, slices, places. -/
import Derived.Test.YteklahfgplbmcaaDoorEvAop
namespace Go.Ev
section
variable {P : Program} (E : Env P)

def unA (op : UnOp) (x : RV) : Option RV :=
  match op, x with
  | .neg, .int k n => some (.int k (wrapF k (0 - n)))
  | .not, .bool b => some (.bool (!b))
  | op, .int k n => (match pureOf (Op.unary op (.int k n)) with | some v => scal v | none => none)
  | _, _ => none

theorem unA_ok {σ : Sig} {op : UnOp} {x r : RV} (h : unA op x = some r) {v : Value} (hx : den σ x = some v) (w : World) :
    ∃ u, den σ r = some u ∧ (Op.unary op v).run P w = .ok u w := by
  unfold unA at h
  split at h
  · cases hx
    simp only [Option.some.injEq] at h
    subst h
    exact ⟨_, rfl, by simp only [Op.unary, Op.intArith, wrapF_eq]; rfl⟩
  · cases hx
    simp only [Option.some.injEq] at h
    subst h
    exact ⟨_, rfl, rfl⟩
  · cases hx
    rename_i k n _
    cases hp : pureOf (Op.unary op (.int k n)) with
    | none => rw [hp] at h; cases h
    | some u => rw [hp] at h; rw [pureOf_ok hp]; exact ⟨u, scal_ok h, rfl⟩
  · cases h

def bytesOf : List RV → Option (List UInt8)
  | [] => some []
  | .int .u8 n :: l => (match bytesOf l with | some m => some (UInt8.ofNat n.toNat :: m) | none => none)
  | _ => none

theorem bytesOf_ok {σ : Sig} : ∀ {l : List RV} {m : List UInt8} {vs : List Value}, bytesOf l = some m → denL σ l = some vs → ∃ ns : List Int, vs = ns.map (Value.int .u8) ∧ m = ns.map fun n => UInt8.ofNat n.toNat
  | [], m, vs, h, hd => by
    cases hd
    simp only [bytesOf, Option.some.injEq] at h
    exact ⟨[], rfl, h.symm⟩
  | x :: l, m, vs, h, hd => by
    obtain ⟨v, vs', h1, h2, rfl⟩ := denL_cons hd
    unfold bytesOf at h
    split at h <;> first | (cases h; done) | skip
    · rename_i heq; cases heq
    · rename_i n l' heq
      cases heq
      cases hb : bytesOf l with
      | none => rw [hb] at h; cases h
      | some m' =>
        rw [hb] at h
        simp only [Option.some.injEq] at h
        obtain ⟨ns, e1, e2⟩ := bytesOf_ok hb h2
        cases h1
        exact ⟨n :: ns, by simp [e1], by simp [← h, e2]⟩

theorem foldl_push (ns : List Int) : ∀ (s : ByteArray), ns.foldl (fun r n => r.push (UInt8.ofNat n.toNat)) s = ⟨s.data ++ (ns.map fun n => UInt8.ofNat n.toNat).toArray⟩ := by
  induction ns with
  | nil => intro s; simp
  | cons n ns ih =>
    intro s
    rw [List.foldl_cons, ih]
    congr 1
    apply Array.ext'
    simp [ByteArray.push]

def convA (h : Tr AObj) (src dst : Nat) (x : RV) : Option RV :=
  match E.und src, E.und dst with
  | some s, some d => (match d, x with
    | .int k, .int _ n => some (.int k (wrapF k n))
    | .string, .str b => some (.str b)
    | .string, .slice0 => (match s with
      | .slice e => (match E.und e with | some (.int .u8) => some (.str []) | _ => none)
      | _ => none)
    | .string, .slice id off len _ => (match s with
      | .slice e => (match E.und e with
        | some (.int .u8) => (match cellsAt h id off len with
          | some l => (match bytesOf l with | some m => some (.str m) | none => none)
          | none => none)
        | _ => none)
      | _ => none)
    | _, _ => none)
  | _, _ => none

theorem convA_ok {σ : Sig} {h : Tr AObj} {w : World} (r : HRel σ h w.heap) {src dst : Nat} {x y : RV} (hc : convA E h src dst x = some y) {v : Value} (hx : den σ x = some v) :
    ∃ u, den σ y = some u ∧ (Go.convert src dst v).run P w = .ok u w := by
  unfold convA at hc
  cases hs : E.und src with
  | none => rw [hs] at hc; cases hc
  | some s =>
    cases hd : E.und dst with
    | none => rw [hs, hd] at hc; cases hc
    | some d =>
      rw [hs, hd] at hc
      simp only at hc
      split at hc
      · cases hx
        simp only [Option.some.injEq] at hc
        subst hc
        exact ⟨_, rfl, by rw [wrapF_eq]; simp [Go.convert, E.run_und hs, E.run_und hd, Conv.intToInt]⟩
      · cases hx
        simp only [Option.some.injEq] at hc
        subst hc
        exact ⟨_, rfl, by simp [Go.convert, E.run_und hs, E.run_und hd]⟩
      · cases hx
        split at hc <;> first | (cases hc; done) | skip
        split at hc <;> first | (cases hc; done) | skip
        rename_i e he
        simp only [Option.some.injEq] at hc
        subst hc
        refine ⟨_, rfl, ?_⟩
        rw [run_convert_bytes_string w src dst _ none 0 0 (E.und_ok hs) (E.und_ok he) (E.und_ok hd)]
        rfl
      · rename_i id off len cap
        split at hc <;> first | (cases hc; done) | skip
        split at hc <;> first | (cases hc; done) | skip
        rename_i e he
        cases hl : cellsAt h id off len with
        | none => rw [hl] at hc; cases hc
        | some l =>
          rw [hl] at hc
          simp only at hc
          cases hb : bytesOf l with
          | none => rw [hb] at hc; cases hc
          | some m =>
            rw [hb] at hc
            simp only [Option.some.injEq] at hc
            subst hc
            simp only [den] at hx
            cases hsg : σ id with
            | none => rw [hsg] at hx; cases hx
            | some p =>
              rw [hsg] at hx
              simp only [Option.some.injEq] at hx
              subst hx
              obtain ⟨b, N⟩ := p
              obtain ⟨vs, h1, h2, h3⟩ := cellsAt_ok r hsg _ _ hl
              obtain ⟨ns, rfl, rfl⟩ := bytesOf_ok hb h1
              refine ⟨_, rfl, ?_⟩
              rw [run_convert_bytes_string w src dst _ _ _ _ (E.und_ok hs) (E.und_ok he) (E.und_ok hd)]
              rw [run_bytesToString w _ _ _ ns (run_loadCells_of h2 h3), foldl_push]
              simp
      · cases hc

/-- A number that is an index. -/
def idx (x : RV) : Option Nat :=
  match x with
  | .int _ n => (match n with | .ofNat n => some n | .negSucc _ => none)
  | _ => none
theorem idx_ok {σ : Sig} {x : RV} {n : Nat} (h : idx x = some n) {v : Value} (hx : den σ x = some v) : ∃ k, v = .int k n := by
  unfold idx at h
  split at h
  · cases hx
    split at h
    · simp only [Option.some.injEq] at h; subst h; exact ⟨_, rfl⟩
    · cases h
  · cases h

/-- The place of an element. -/
def indexAddrA (t : Nat) (x ix : RV) : Option RV :=
  match idx ix with
  | none => none
  | some i => match E.und t, x with
    | some (.array len e), .ptr id off => (match Nat.blt i len, E.info e with
      | true, some inf => some (.ptr id (off + i * inf.size))
      | _, _ => none)
    | some (.slice e), .slice id off len _ => (match Nat.blt i len, E.info e with
      | true, some inf => some (.ptr id (off + i * inf.size))
      | _, _ => none)
    | _, _ => none

theorem indexAddrA_ok {σ : Sig} {t : Nat} {x ix r : RV} (h : indexAddrA E t x ix = some r) {vx vi : Value} (hx : den σ x = some vx) (hi : den σ ix = some vi) (w : World) :
    ∃ u, den σ r = some u ∧ (Instr.indexAt t vx vi).run P w = .ok u w := by
  unfold indexAddrA at h
  cases hn : idx ix with
  | none => rw [hn] at h; cases h
  | some i =>
    rw [hn] at h
    obtain ⟨k, rfl⟩ := idx_ok hn hi
    simp only at h
    split at h <;> first | (cases h; done) | skip
    · rename_i len e id off hu
      split at h <;> first | (cases h; done) | skip
      rename_i inf hb hinf
      simp only [Option.some.injEq] at h
      subst h
      have hlt : i < len := Nat.le_of_ble_eq_true hb
      simp only [den] at hx ⊢
      cases hs : σ id with
      | none => rw [hs] at hx; cases hx
      | some p =>
        rw [hs] at hx
        simp only [Option.some.injEq] at hx
        subst hx
        refine ⟨_, rfl, ?_⟩
        simp [Instr.indexAt, asIntOf, E.run_und hu, Instr.sureAddr, E.run_size hinf, hlt, addr_add]
    · rename_i e id off len cap hu
      split at h <;> first | (cases h; done) | skip
      rename_i inf hb hinf
      simp only [Option.some.injEq] at h
      subst h
      have hlt : i < len := Nat.le_of_ble_eq_true hb
      simp only [den] at hx ⊢
      cases hs : σ id with
      | none => rw [hs] at hx; cases hx
      | some p =>
        rw [hs] at hx
        simp only [Option.some.injEq] at hx
        subst hx
        refine ⟨_, rfl, ?_⟩
        simp [Instr.indexAt, asIntOf, E.run_und hu, E.run_size hinf, hlt, addr_add]

/-- The place of a field. -/
def fieldAddrA (t : Nat) (x : RV) (f : Nat) : Option RV :=
  match E.und t, x with
  | some (.struct fs), .ptr id off => (match fs[f]? with
    | some fd => (match E.info fd.type with
      | some inf => (match Nat.beq inf.size 0 with
        | true => none
        | false => some (.ptr id (off + fd.offset)))
      | none => none)
    | none => none)
  | _, _ => none

theorem fieldAddrA_ok {σ : Sig} {t f : Nat} {x r : RV} (h : fieldAddrA E t x f = some r) {vx : Value} (hx : den σ x = some vx) (w : World) :
    ∃ u, den σ r = some u ∧ (Instr.fieldAt t vx f).run P w = .ok u w := by
  unfold fieldAddrA at h
  split at h <;> first | (cases h; done) | skip
  rename_i fs id off hu
  split at h <;> first | (cases h; done) | skip
  rename_i fd hf
  split at h <;> first | (cases h; done) | skip
  rename_i inf hinf
  split at h <;> first | (cases h; done) | skip
  rename_i hz
  simp only [Option.some.injEq] at h
  subst h
  have hne : inf.size ≠ 0 := fun e => by rw [e] at hz; simp at hz
  simp only [den] at hx ⊢
  cases hs : σ id with
  | none => rw [hs] at hx; cases hx
  | some p =>
    rw [hs] at hx
    simp only [Option.some.injEq] at hx
    subst hx
    refine ⟨_, rfl, ?_⟩
    simp [Instr.fieldAt, E.run_und hu, hf, Instr.sureAddr, fieldPlace, E.run_size hinf, hne, addr_add]

def takeL {α : Type} : Nat → List α → List α
  | 0, _ => []
  | _ + 1, [] => []
  | n + 1, x :: l => x :: takeL n l
theorem takeL_eq {α : Type} : ∀ (n : Nat) (l : List α), takeL n l = l.take n
  | 0, _ => rfl
  | _ + 1, [] => rfl
  | n + 1, x :: l => by simp [takeL, takeL_eq n l]
def dropL {α : Type} : Nat → List α → List α
  | 0, l => l
  | _ + 1, [] => []
  | n + 1, _ :: l => dropL n l
theorem dropL_eq {α : Type} : ∀ (n : Nat) (l : List α), dropL n l = l.drop n
  | 0, _ => rfl
  | _ + 1, [] => rfl
  | n + 1, x :: l => by simp [dropL, dropL_eq n l]

theorem denL_drop {σ : Sig} : ∀ (n : Nat) {l : List RV} {vs : List Value}, denL σ l = some vs → denL σ (l.drop n) = some (vs.drop n)
  | 0, _, _, h => h
  | n + 1, [], _, h => by cases h; rfl
  | n + 1, x :: l, _, h => by obtain ⟨v, vs', _, h2, rfl⟩ := denL_cons h; exact denL_drop n h2
theorem denL_take {σ : Sig} : ∀ (n : Nat) {l : List RV} {vs : List Value}, denL σ l = some vs → denL σ (l.take n) = some (vs.take n)
  | 0, _, _, _ => rfl
  | n + 1, [], _, h => by cases h; rfl
  | n + 1, x :: l, _, h => by obtain ⟨v, vs', h1, h2, rfl⟩ := denL_cons h; exact denL_cons_mk h1 (denL_take n h2)

/-- A part of an aggregate. -/
def partA (t : Nat) (cs : List RV) (off : Nat) : Option RV :=
  match E.agg t with
  | some true => (match E.info t with
    | some i => some (.agg (takeL i.size (dropL off cs)))
    | none => none)
  | some false => nth cs off
  | none => none

theorem partA_ok {σ : Sig} {t off : Nat} {cs : List RV} {r : RV} (h : partA E t cs off = some r) {vs : List Value} (hd : denL σ cs = some vs) (w : World) :
    ∃ u, den σ r = some u ∧ (part t vs.toArray off).run P w = .ok u w := by
  unfold partA at h
  cases ha : E.agg t with
  | none => rw [ha] at h; cases h
  | some b =>
    rw [ha] at h
    cases b with
    | true =>
      cases hi : E.info t with
      | none => rw [hi] at h; cases h
      | some i =>
        rw [hi] at h
        simp only [Option.some.injEq] at h
        subst h
        refine ⟨.agg ((vs.drop off).take i.size).toArray, ?_, ?_⟩
        · simp [den, takeL_eq, dropL_eq, denL_take _ (denL_drop off hd)]
        · simp [part, E.run_agg ha, E.run_size hi, List.take_drop]
    | false =>
      simp only [nth_eq] at h
      obtain ⟨u, hu, hdu⟩ := denL_get off hd h
      exact ⟨u, hdu, by simp [part, E.run_agg ha, hu]⟩

def fieldA (t : Nat) (x : RV) (f : Nat) : Option RV :=
  match E.und t, x with
  | some (.struct fs), .agg cs => (match fs[f]? with
    | some fd => partA E fd.type cs fd.offset
    | none => none)
  | _, _ => none

theorem fieldA_ok {σ : Sig} {t f : Nat} {x r : RV} (h : fieldA E t x f = some r) {vx : Value} (hx : den σ x = some vx) (w : World) :
    ∃ u, den σ r = some u ∧ (Instr.field t vx f).run P w = .ok u w := by
  unfold fieldA at h
  split at h <;> first | (cases h; done) | skip
  rename_i fs cs hu
  split at h <;> first | (cases h; done) | skip
  rename_i fd hf
  simp only [den] at hx
  cases hc : denL σ cs with
  | none => rw [hc] at hx; cases hx
  | some vs =>
    rw [hc] at hx
    simp only [Option.some.injEq] at hx
    subst hx
    obtain ⟨u, h1, h2⟩ := partA_ok E h hc w
    exact ⟨u, h1, by simp [Instr.field, E.run_und hu, hf, asAgg, h2]⟩

def indexA (t : Nat) (x ix : RV) : Option RV :=
  match idx ix with
  | none => none
  | some i => match E.und t, x with
    | some (.array len e), .agg cs => (match Nat.blt i len, E.info e with
      | true, some inf => partA E e cs (i * inf.size)
      | _, _ => none)
    | some .string, .str s => (match nth s i with
      | some b => some (.int .u8 (Int.ofNat b.toNat))
      | none => none)
    | _, _ => none

theorem indexA_ok {σ : Sig} {t : Nat} {x ix r : RV} (h : indexA E t x ix = some r) {vx vi : Value} (hx : den σ x = some vx) (hi : den σ ix = some vi) (w : World) :
    ∃ u, den σ r = some u ∧ (Instr.index t vx vi).run P w = .ok u w := by
  unfold indexA at h
  cases hn : idx ix with
  | none => rw [hn] at h; cases h
  | some i =>
    rw [hn] at h
    obtain ⟨k, rfl⟩ := idx_ok hn hi
    simp only at h
    split at h <;> first | (cases h; done) | skip
    · rename_i len e cs hu
      split at h <;> first | (cases h; done) | skip
      rename_i inf hb hinf
      have hlt : i < len := Nat.le_of_ble_eq_true hb
      simp only [den] at hx
      cases hc : denL σ cs with
      | none => rw [hc] at hx; cases hx
      | some vs =>
        rw [hc] at hx
        simp only [Option.some.injEq] at hx
        subst hx
        obtain ⟨u, h1, h2⟩ := partA_ok E h hc w
        exact ⟨u, h1, by simp [Instr.index, asIntOf, E.run_und hu, E.run_size hinf, hlt, h2]⟩
    · rename_i s hu
      split at h <;> first | (cases h; done) | skip
      rename_i b hb
      rw [nth_eq] at hb
      cases hx
      simp only [Option.some.injEq] at h
      subst h
      refine ⟨_, rfl, ?_⟩
      have : (ByteArray.mk s.toArray)[i]? = some b := by
        have hlt : i < s.length := (List.getElem?_eq_some_iff.1 hb).1
        have : i < (ByteArray.mk s.toArray).size := hlt
        rw [getElem?_pos (ByteArray.mk s.toArray) i this]
        have := (List.getElem?_eq_some_iff.1 hb).2
        simp only [Option.some.injEq]
        rw [← this]
        rfl
      simp [Instr.index, asIntOf, E.run_und hu, this]

def extractA (x : RV) (i : Nat) : Option RV :=
  match x with
  | .tuple vs => nth vs i
  | _ => none

theorem extractA_ok {σ : Sig} {x r : RV} {i : Nat} (h : extractA x i = some r) {vx : Value} (hx : den σ x = some vx) (w : World) :
    ∃ u, den σ r = some u ∧ (Instr.extract vx i).run P w = .ok u w := by
  unfold extractA at h
  split at h <;> first | (cases h; done) | skip
  rename_i vs
  simp only [den] at hx
  cases hc : denL σ vs with
  | none => rw [hc] at hx; cases hx
  | some us =>
    rw [hc] at hx
    simp only [Option.some.injEq] at hx
    subst hx
    rw [nth_eq] at h
    obtain ⟨u, hu, hd⟩ := denL_get i hc h
    exact ⟨u, hd, by simp [Instr.extract, hu]⟩

end
end Go.Ev
