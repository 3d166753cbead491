/- len, cap, copy, min, max, slices of slices, composites. -/
import Derived.Test.YteklahfgplbmcaaDoorEvAop5
import GoSem.Dispatch
namespace Go.Ev
section
variable {P : Program} (E : Env P)

def lenA (t : Nat) (x : RV) : Option RV :=
  match E.und t, x with
  | some .string, .str s => some (.int .i64 (Int.ofNat s.length))
  | some (.array n _), _ => some (.int .i64 (Int.ofNat n))
  | some (.slice _), .slice0 => some (.int .i64 (Int.ofNat 0))
  | some (.slice _), .slice _ _ len _ => some (.int .i64 (Int.ofNat len))
  | _, _ => none

theorem lenA_ok {σ : Sig} {t : Nat} {x y : RV} (h : lenA E t x = some y) {v : Value} (hx : den σ x = some v) (ty : TypeId) (w : World) :
    ∃ u, den σ y = some u ∧ (Builtin.len_ #[t] ty #[v]).run P w = .ok u w := by
  unfold lenA at h
  split at h <;> first | (cases h; done) | skip
  all_goals
    rename_i hu
    simp only [Option.some.injEq] at h
    subst h
    refine ⟨_, rfl, ?_⟩
  · cases hx; simp [Builtin.len_, E.run_und hu, goInt]; rfl
  · simp [Builtin.len_, E.run_und hu, goInt]
  · cases hx; simp [Builtin.len_, E.run_und hu, goInt]
  · obtain ⟨b, N, _, rfl⟩ := den_slice hx; simp [Builtin.len_, E.run_und hu, goInt]

def capA (t : Nat) (x : RV) : Option RV :=
  match E.und t, x with
  | some (.slice _), .slice0 => some (.int .i64 (Int.ofNat 0))
  | some (.slice _), .slice _ _ _ (.ex c) => some (.int .i64 (Int.ofNat c))
  | _, _ => none

theorem capA_ok {σ : Sig} {t : Nat} {x y : RV} (h : capA E t x = some y) {v : Value} (hx : den σ x = some v) (ty : TypeId) (w : World) :
    ∃ u, den σ y = some u ∧ (Builtin.cap_ #[t] ty #[v]).run P w = .ok u w := by
  unfold capA at h
  split at h <;> first | (cases h; done) | skip
  all_goals
    rename_i hu
    simp only [Option.some.injEq] at h
    subst h
    refine ⟨_, rfl, ?_⟩
  · cases hx; simp [Builtin.cap_, E.run_und hu, goInt]
  · obtain ⟨b, N, _, rfl⟩ := den_slice hx; simp [Builtin.cap_, E.run_und hu, goInt, Cap.den]

def copyA (h : Tr AObj) (t : Nat) (d s : RV) : Option (RV × Tr AObj) :=
  match E.und t with
  | some (.slice et) => (match E.info et with
    | some inf => (match elemsA h inf.size s with
      | some (n, l) => (match d with
        | .slice0 => some (.int .i64 (Int.ofNat 0), h)
        | .slice id off len _ => (match putCells h id off (takeL (Nat.min n len * inf.size) l) with
          | some h' => some (.int .i64 (Int.ofNat (Nat.min n len)), h')
          | none => none)
        | _ => none)
      | none => none)
    | none => none)
  | _ => none

theorem copyA_ok {σ : Sig} {h h' : Tr AObj} {w : World} (r : HRel σ h w.heap) {t t2 : Nat} {d s y : RV} (hc : copyA E h t d s = some (y, h')) {vd vs : Value} (hd : den σ d = some vd) (hs : den σ s = some vs) (ty : TypeId) :
    ∃ w' u, (Builtin.copy_ #[t, t2] ty #[vd, vs]).run P w = .ok u w' ∧ den σ y = some u ∧ Way σ h w σ h' w' := by
  unfold copyA at hc
  split at hc <;> first | (cases hc; done) | skip
  rename_i et hu
  split at hc <;> first | (cases hc; done) | skip
  rename_i inf hinf
  cases he : elemsA h inf.size s with
  | none => rw [he] at hc; cases hc
  | some nl =>
    obtain ⟨n, l⟩ := nl
    rw [he] at hc
    simp only at hc
    obtain ⟨vl, e1, e2, e3, e4, e5⟩ := elemsA_ok (P := P) r he hs
    split at hc <;> first | (cases hc; done) | skip
    · cases hd
      simp only [Option.some.injEq, Prod.mk.injEq] at hc
      obtain ⟨rfl, rfl⟩ := hc
      obtain ⟨us, u1, u2⟩ := e5 0 (by omega)
      refine ⟨w, _, ?_, rfl, Way.refl r⟩
      simp [Builtin.copy_, E.run_und hu, E.run_size hinf, e3, u1, goInt]
    · rename_i id off len cap
      obtain ⟨b, N, hsg, rfl⟩ := den_slice hd
      split at hc <;> first | (cases hc; done) | skip
      rename_i h'' hp
      simp only [Option.some.injEq, Prod.mk.injEq] at hc
      obtain ⟨rfl, rfl⟩ := hc
      have hle : Nat.min n len ≤ n := Nat.min_le_left _ _
      obtain ⟨us, u1, u2⟩ := e5 _ hle
      rw [takeL_eq] at hp
      obtain ⟨w', g1, g2⟩ := putCells_ok (P := P) hsg off _ 0 r (denL_take _ e1) hp
      refine ⟨w', _, ?_, rfl, g2⟩
      subst u2
      simp only [Builtin.copy_]
      have e6 : (#[t, t2] : Array TypeId)[0]? = some t := rfl
      have e7 : (#[Value.slice (some ⟨b, off, none⟩) len (cap.den N), vs] : Array Value)[0]? = some (.slice (some ⟨b, off, none⟩) len (cap.den N)) := rfl
      have e8 : (#[Value.slice (some ⟨b, off, none⟩) len (cap.den N), vs] : Array Value)[1]? = some vs := rfl
      simp only [e6, e7, e8, Sem.run_bind, E.run_und hu, Result.andThen_ok, e3, E.run_size hinf, u1]
      simp [g1, goInt]

def intsOf : List RV → Option (List Value)
  | [] => some []
  | .int k n :: l => (match intsOf l with | some m => some (.int k n :: m) | none => none)
  | _ => none
theorem intsOf_ok {σ : Sig} : ∀ {l : List RV} {m vs : List Value}, intsOf l = some m → denL σ l = some vs → vs = m
  | [], m, vs, h, hd => by cases hd; simp only [intsOf, Option.some.injEq] at h; exact h
  | x :: l, m, vs, h, hd => by
    obtain ⟨v, vs', h1, h2, rfl⟩ := denL_cons hd
    unfold intsOf at h
    split at h <;> first | (cases h; done) | skip
    · rename_i heq; cases heq
    · rename_i k n l' heq
      cases heq
      cases hb : intsOf l with
      | none => rw [hb] at h; cases h
      | some m' =>
        rw [hb] at h
        simp only [Option.some.injEq] at h
        cases h1
        rw [intsOf_ok hb h2, h]

def minA (args : List RV) : Option RV :=
  match intsOf args with
  | some vs => (match pureOf (Builtin.min_ #[] 0 vs.toArray) with | some v => scal v | none => none)
  | none => none
def maxA (args : List RV) : Option RV :=
  match intsOf args with
  | some vs => (match pureOf (Builtin.max_ #[] 0 vs.toArray) with | some v => scal v | none => none)
  | none => none
theorem minA_ok {σ : Sig} {args : List RV} {y : RV} (h : minA args = some y) {vs : List Value} (hd : denL σ args = some vs) (at_ : Array TypeId) (ty : TypeId) (w : World) :
    ∃ u, den σ y = some u ∧ (Builtin.min_ at_ ty vs.toArray).run P w = .ok u w := by
  unfold minA at h
  cases hi : intsOf args with
  | none => rw [hi] at h; cases h
  | some m =>
    rw [hi] at h
    simp only at h
    rw [intsOf_ok hi hd]
    cases hp : pureOf (Builtin.min_ #[] 0 m.toArray) with
    | none => rw [hp] at h; cases h
    | some v =>
      rw [hp] at h
      refine ⟨v, scal_ok h, ?_⟩
      show (Builtin.min_ #[] 0 m.toArray).run P w = _
      rw [pureOf_ok hp]; rfl
theorem maxA_ok {σ : Sig} {args : List RV} {y : RV} (h : maxA args = some y) {vs : List Value} (hd : denL σ args = some vs) (at_ : Array TypeId) (ty : TypeId) (w : World) :
    ∃ u, den σ y = some u ∧ (Builtin.max_ at_ ty vs.toArray).run P w = .ok u w := by
  unfold maxA at h
  cases hi : intsOf args with
  | none => rw [hi] at h; cases h
  | some m =>
    rw [hi] at h
    simp only at h
    rw [intsOf_ok hi hd]
    cases hp : pureOf (Builtin.max_ #[] 0 m.toArray) with
    | none => rw [hp] at h; cases h
    | some v =>
      rw [hp] at h
      refine ⟨v, scal_ok h, ?_⟩
      show (Builtin.max_ #[] 0 m.toArray).run P w = _
      rw [pureOf_ok hp]; rfl

/-- A bound of a slice expression: none, or a number. -/
def bnd (x : Option RV) (dflt : Nat) : Option Nat :=
  match x with
  | none => some dflt
  | some x => idx x

theorem run_bound {w : World} {k : IntKind} {n y : Nat} (h : n ≤ y) (c : BoundsCode) : (Instr.sliceBound (.int k n) y c).run P w = .ok n w := by
  simp [Instr.sliceBound, asIntOf, h]

/-- The part of a slice, an array or a string. -/
def sliceA (h : Tr AObj) (t : Nat) (x : RV) (lo hi mx : Option RV) : Option RV :=
  match mx with
  | some _ => none
  | none => match E.und t, x with
    | some .string, .str s => (match bnd hi s.length, bnd lo 0 with
      | some hn, some ln => (match Nat.ble hn s.length, Nat.ble ln hn with
        | true, true => some (.str (takeL (hn - ln) (dropL ln s)))
        | _, _ => none)
      | _, _ => none)
    | some (.slice et), .slice0 => (match E.info et, bnd hi 0, bnd lo 0 with
      | some _, some 0, some 0 => some .slice0
      | _, _, _ => none)
    | some (.slice et), .slice id off len cap => (match E.info et, bnd hi len, bnd lo 0 with
      | some inf, some hn, some ln => (match Nat.ble ln hn with
        | true => (match cap with
          | .ex c => (match Nat.ble hn c with
            | true => (match Nat.beq c ln with
              | true => some (.slice id off (hn - ln) (.ex (c - ln)))
              | false => some (.slice id (off + ln * inf.size) (hn - ln) (.ex (c - ln))))
            | false => none)
          | .rest k => (match h.get id with
            | some (.cells n _ _ ex sz) => (match ex, Nat.beq sz inf.size, Nat.blt 0 sz, Nat.beq off (k * sz), Nat.ble (off + hn * sz) n with
              | false, true, true, true, true => (match Nat.beq ln 0 with
                | true => some (.slice id off hn (.rest k))
                | false => (match Nat.blt (off + ln * sz) n with
                  | true => some (.slice id (off + ln * sz) (hn - ln) (.rest (k + ln)))
                  | false => none))
              | _, _, _, _, _ => none)
            | _ => none))
        | false => none)
      | _, _, _ => none)
    | some (.array n et), .ptr id off => (match E.info et, bnd hi n, bnd lo 0 with
      | some inf, some hn, some ln => (match Nat.ble hn n, Nat.ble ln hn with
        | true, true => (match Nat.beq n ln with
          | true => some (.slice id off (hn - ln) (.ex (n - ln)))
          | false => some (.slice id (off + ln * inf.size) (hn - ln) (.ex (n - ln))))
        | _, _ => none)
      | _, _, _ => none)
    | _, _ => none

def denO (σ : Sig) : Option RV → Option Value → Prop
  | none, none => True
  | some x, some v => den σ x = some v
  | _, _ => False

theorem bnd_ok {σ : Sig} {x : Option RV} {d n : Nat} (h : bnd x d = some n) {v : Option Value} (hx : denO σ x v) : (v = none ∧ n = d) ∨ ∃ k, v = some (.int k n) := by
  cases x with
  | none =>
    cases v with
    | none => simp only [bnd, Option.some.injEq] at h; exact .inl ⟨rfl, h.symm⟩
    | some v => exact hx.elim
  | some x =>
    cases v with
    | none => exact hx.elim
    | some v => obtain ⟨k, rfl⟩ := idx_ok h hx; exact .inr ⟨k, rfl⟩

theorem run_bounds {w : World} {σ : Sig} {isS : Bool} {len cap hn ln : Nat} {lo hi : Option RV} {vl vh : Option Value} (h1 : bnd hi len = some hn) (h2 : bnd lo 0 = some ln) (d1 : denO σ hi vh) (d2 : denO σ lo vl) (hc : hn ≤ cap) (hl : ln ≤ hn) :
    (Instr.sliceBounds isS len cap vl vh none).run P w = .ok (ln, hn, cap) w := by
  rcases bnd_ok h1 d1 with ⟨rfl, rfl⟩ | ⟨k1, rfl⟩ <;> rcases bnd_ok h2 d2 with ⟨rfl, rfl⟩ | ⟨k2, rfl⟩
  all_goals simp [Instr.sliceBounds, run_bound, hc, hl]


theorem opt_map_denO {σ : Sig} {x : Option RV} {v : Option Value} (h : denO σ x v) (hn : x = none) : v = none := by
  subst hn; cases v with
  | none => rfl
  | some _ => exact h.elim

theorem sliceA_ok {σ : Sig} {h : Tr AObj} {w : World} (r : HRel σ h w.heap) {t : Nat} {x y : RV} {lo hi mx : Option RV} (hs : sliceA E h t x lo hi mx = some y) {v : Value} {vl vh vm : Option Value} (hx : den σ x = some v) (hlo : denO σ lo vl) (hhi : denO σ hi vh) (hmx : denO σ mx vm) :
    ∃ u, den σ y = some u ∧ (Instr.sliceAt t v vl vh vm).run P w = .ok u w := by
  unfold sliceA at hs
  split at hs <;> first | (cases hs; done) | skip
  obtain rfl := opt_map_denO hmx rfl
  split at hs <;> first | (cases hs; done) | skip
  · rename_i s hu
    cases hx
    split at hs <;> first | (cases hs; done) | skip
    rename_i hn ln h1 h2
    split at hs <;> first | (cases hs; done) | skip
    rename_i b1 b2
    have l1 : hn ≤ s.length := Nat.le_of_ble_eq_true b1
    have l2 : ln ≤ hn := Nat.le_of_ble_eq_true b2
    simp only [Option.some.injEq] at hs
    subst hs
    have hb := run_bounds (P := P) (w := w) (isS := false) (cap := s.length) h1 h2 hhi hlo l1 l2
    have hz : (ByteArray.mk s.toArray).size = s.length := rfl
    refine ⟨_, rfl, ?_⟩
    simp only [Instr.sliceAt, Sem.run_bind, E.run_und hu, Result.andThen_ok, Instr.slice, hz, Option.isSome_none, Bool.false_eq_true, if_false, hb, Sem.run_pure]
    congr 2
    apply ByteArray.ext
    rw [ByteArray.data_extract]
    simp [takeL_eq, dropL_eq]
  · rename_i et hu
    cases hx
    split at hs <;> first | (cases hs; done) | skip
    rename_i inf hinf h1 h2
    simp only [Option.some.injEq] at hs
    subst hs
    have hb := run_bounds (P := P) (w := w) (isS := true) (cap := 0) h1 h2 hhi hlo (Nat.le_refl _) (Nat.le_refl _)
    refine ⟨_, rfl, ?_⟩
    simp [Instr.sliceAt, E.run_und hu, Instr.slice, hb, E.run_size hinf]
  · rename_i et id off len cap hu
    obtain ⟨b, N, hsg, rfl⟩ := den_slice hx
    split at hs <;> first | (cases hs; done) | skip
    rename_i inf hn ln hinf h1 h2
    split at hs <;> first | (cases hs; done) | skip
    rename_i b2
    have l2 : ln ≤ hn := Nat.le_of_ble_eq_true b2
    split at hs
    · rename_i c
      split at hs <;> first | (cases hs; done) | skip
      rename_i b1
      have l1 : hn ≤ c := Nat.le_of_ble_eq_true b1
      have hb := run_bounds (P := P) (w := w) (isS := true) (cap := c) h1 h2 hhi hlo l1 l2
      split at hs
      · rename_i be
        have : c = ln := Nat.eq_of_beq_eq_true be
        simp only [Option.some.injEq] at hs
        subst hs
        subst this
        refine ⟨_, by simp only [den, hsg]; rfl, ?_⟩
        simp [Instr.sliceAt, E.run_und hu, Instr.slice, Cap.den, hb, E.run_size hinf]
      · rename_i be
        have : c ≠ ln := fun e => by subst e; simp at be
        simp only [Option.some.injEq] at hs
        subst hs
        refine ⟨_, by simp only [den, hsg]; rfl, ?_⟩
        simp only [Instr.sliceAt, Sem.run_bind, E.run_und hu, Result.andThen_ok, Instr.slice, Cap.den, hb, E.run_size hinf, Sem.run_pure, if_neg this]
        simp [addr_add]
    · rename_i k
      split at hs <;> first | (cases hs; done) | skip
      rename_i n d0 t0 ex sz hget
      split at hs <;> first | (cases hs; done) | skip
      rename_i c1 c2 c3 c4
      have s1 : sz = inf.size := Nat.eq_of_beq_eq_true c1
      have s2 : 0 < sz := Nat.le_of_ble_eq_true c2
      have s3 : off = k * sz := Nat.eq_of_beq_eq_true c3
      have s4 : off + hn * sz ≤ n := Nat.le_of_ble_eq_true c4
      obtain ⟨b', N', c, k1, k2, k3⟩ := r.obj id _ hget rfl
      rw [hsg] at k1
      simp only [Option.some.injEq, Prod.mk.injEq] at k1
      obtain ⟨rfl, rfl⟩ := k1
      cases c <;> simp only [ORel] at k3
      case cells c e fz =>
        obtain ⟨q1, q2, q3, q4, q5⟩ := k3
        have hcs : c.size = N * sz := q4 trivial
        have hN : k + hn ≤ N := by
          have : (k + hn) * sz ≤ N * sz := by rw [Nat.add_mul]; omega
          exact Nat.le_of_mul_le_mul_right this s2
        have hb := run_bounds (P := P) (w := w) (isS := true) (cap := N - k) h1 h2 hhi hlo (by omega) l2
        split at hs
        · rename_i be
          have : ln = 0 := Nat.eq_of_beq_eq_true be
          subst this
          simp only [Option.some.injEq] at hs
          subst hs
          refine ⟨_, by simp only [den, hsg]; rfl, ?_⟩
          simp only [Instr.sliceAt, Sem.run_bind, E.run_und hu, Result.andThen_ok, Instr.slice, Cap.den, hb, E.run_size hinf, Sem.run_pure]
          simp [addr_add]
        · rename_i be
          split at hs <;> first | (cases hs; done) | skip
          rename_i c5
          have s5 : off + ln * sz < n := Nat.le_of_ble_eq_true c5
          have hN2 : k + ln < N := by
            have : (k + ln) * sz < N * sz := by rw [Nat.add_mul]; omega
            exact Nat.lt_of_mul_lt_mul_right this
          simp only [Option.some.injEq] at hs
          subst hs
          refine ⟨_, by simp only [den, hsg]; rfl, ?_⟩
          have hne : ¬ (N - k = ln) := by omega
          simp only [Instr.sliceAt, Sem.run_bind, E.run_und hu, Result.andThen_ok, Instr.slice, Cap.den, hb, E.run_size hinf, Sem.run_pure, if_neg hne]
          simp [addr_add, s1, Nat.sub_sub]
  · rename_i n et id off hu
    simp only [den] at hx
    cases hsg : σ id with
    | none => rw [hsg] at hx; cases hx
    | some p =>
      rw [hsg] at hx
      simp only [Option.some.injEq] at hx
      subst hx
      split at hs <;> first | (cases hs; done) | skip
      rename_i inf hn ln hinf h1 h2
      split at hs <;> first | (cases hs; done) | skip
      rename_i b1 b2
      have l1 : hn ≤ n := Nat.le_of_ble_eq_true b1
      have l2 : ln ≤ hn := Nat.le_of_ble_eq_true b2
      have hb := run_bounds (P := P) (w := w) (isS := false) (cap := n) h1 h2 hhi hlo l1 l2
      split at hs
      · rename_i be
        have : n = ln := Nat.eq_of_beq_eq_true be
        simp only [Option.some.injEq] at hs
        subst hs
        refine ⟨_, by simp only [den, hsg]; rfl, ?_⟩
        simp only [Instr.sliceAt, Sem.run_bind, E.run_und hu, Result.andThen_ok, Instr.sureAddr, Sem.run_pure, hb, E.run_size hinf]
        simp [this, Cap.den]
      · rename_i be
        have : n ≠ ln := fun e => by subst e; simp at be
        simp only [Option.some.injEq] at hs
        subst hs
        refine ⟨_, by simp only [den, hsg]; rfl, ?_⟩
        simp only [Instr.sliceAt, Sem.run_bind, E.run_und hu, Result.andThen_ok, Instr.sureAddr, Sem.run_pure, hb, E.run_size hinf]
        simp [this, addr_add, Cap.den]

/-- A slice literal. -/
def buildSliceA (h : Tr AObj) (nx t len : Nat) (ps : List (Nat × RV)) : Option (RV × Tr AObj) :=
  match E.und t with
  | some (.slice e) => (match E.info e, zeroOf E e with
    | some inf, some z => (match Nat.beq z.length inf.size, Nat.ble (len * inf.size) (2 ^ 20), Nat.blt 0 inf.size with
      | true, true, true => (match fillA (fun i => some (i * inf.size, inf.size)) (times z len) ps with
        | some l => (match newA h nx l inf.size with
          | some h' => some (.slice nx 0 len (.ex len), h')
          | none => none)
        | none => none)
      | _, _, _ => none)
    | _, _ => none)
  | _ => none

theorem buildSliceA_ok {σ : Sig} {h h' : Tr AObj} {w : World} (r : HRel σ h w.heap) {nx t len : Nat} {ps : List (Nat × RV)} {qs : Array (Nat × Value)} {y : RV} (hb : buildSliceA E h nx t len ps = some (y, h')) (hp : partsRel σ ps qs.toList) :
    ∃ σ' w' u, (Instr.buildSlice t len qs).run P w = .ok u w' ∧ den σ' y = some u ∧ Way σ h w σ' h' w' := by
  unfold buildSliceA at hb
  split at hb <;> first | (cases hb; done) | skip
  rename_i e hu
  split at hb <;> first | (cases hb; done) | skip
  rename_i inf z hinf hz
  split at hb <;> first | (cases hb; done) | skip
  rename_i b1 b2 b3
  have l1 : z.length = inf.size := Nat.eq_of_beq_eq_true b1
  have l2 : len * inf.size ≤ 2 ^ 20 := Nat.le_of_ble_eq_true b2
  have l3 : 0 < inf.size := Nat.le_of_ble_eq_true b3
  split at hb <;> first | (cases hb; done) | skip
  rename_i l hf
  split at hb <;> first | (cases hb; done) | skip
  rename_i h'' hn
  simp only [Option.some.injEq, Prod.mk.injEq] at hb
  obtain ⟨rfl, rfl⟩ := hb
  obtain ⟨zv, z1, z2⟩ := zeroOf_ok E hz σ w
  have zs : zv.cells.size = inf.size := by have := denL_length z2; simp at this; omega
  obtain ⟨c, c1, c2⟩ := fillA_ok ps qs.toList hf hp (denL_times z2 len)
  have hw := newA_ok r c2 hn e 0
  refine ⟨_, _, .slice (some ⟨w.heap.size, 0, none⟩) len len, ?_, by simp [den, Sig.ext_same, Cap.den], hw⟩
  have n1 : ¬ (len * inf.size > 2 ^ 24) := by omega
  simp only [Instr.buildSlice, Sem.run_bind, E.run_und hu, Result.andThen_ok, E.run_size hinf, if_neg n1]
  by_cases h0 : len = 0
  · subst h0
    have e0 : ∀ f : Nat → Value, Array.map f (Array.range 0) = #[] := fun f => by apply Array.ext'; simp
    simp only [times] at c1
    simp [e0, c1, newRow]
  · have : ¬ (len * inf.size = 0) := by
      intro h1
      rcases Nat.mul_eq_zero.1 h1 with h1 | h1 <;> omega
    simp only [if_neg this, Sem.run_bind, z1, Result.andThen_ok, Sem.run_pure]
    rw [← zs, range_times, zs, c1]
    simp [newRow]

/-- A struct or array literal. -/
def buildA (t : Nat) (ps : List (Nat × RV)) : Option RV :=
  match zeroOf E t, E.und t with
  | some z, some (.struct fs) => (match structPlaces fs.toList with
    | some l => (match fillA (nth l) z ps with | some cs => some (.agg cs) | none => none)
    | none => none)
  | some z, some (.array _ e) => (match E.info e with
    | some inf => (match fillA (fun i => some (i * inf.size, inf.size)) z ps with | some cs => some (.agg cs) | none => none)
    | none => none)
  | _, _ => none
where
  structPlaces : List Field → Option (List (Nat × Nat))
    | [] => some []
    | f :: l => match E.info f.type with
      | some i => (match structPlaces l with | some m => some ((f.offset, i.size) :: m) | none => none)
      | none => none

theorem structPlaces_ok (w : World) : ∀ (l : List Field) {m : List (Nat × Nat)}, buildA.structPlaces E l = some m → (l.mapM fun f => (do pure (f.offset, ← sizeOf f.type) : Sem (Nat × Nat))).run P w = .ok m w
  | [], m, h => by simp only [buildA.structPlaces, Option.some.injEq] at h; subst h; rfl
  | f :: l, m, h => by
    simp only [buildA.structPlaces] at h
    cases hi : E.info f.type with
    | none => rw [hi] at h; cases h
    | some i =>
      rw [hi] at h
      simp only at h
      cases hl : buildA.structPlaces E l with
      | none => rw [hl] at h; cases h
      | some m' =>
        rw [hl] at h
        simp only [Option.some.injEq] at h
        subst h
        have ih := structPlaces_ok w l hl
        simp only [List.mapM_cons, Sem.run_bind, E.run_size hi, Result.andThen_ok, Sem.run_pure]
        rw [ih]
        rfl

theorem buildA_ok {σ : Sig} {t : Nat} {ps : List (Nat × RV)} {qs : Array (Nat × Value)} {y : RV} (hb : buildA E t ps = some y) (hp : partsRel σ ps qs.toList) (w : World) :
    ∃ u, den σ y = some u ∧ (Instr.build t qs).run P w = .ok u w := by
  unfold buildA at hb
  split at hb <;> first | (cases hb; done) | skip
  · rename_i z fs hz hu
    obtain ⟨zv, z1, z2⟩ := zeroOf_ok E hz σ w
    split at hb <;> first | (cases hb; done) | skip
    rename_i l hl
    split at hb <;> first | (cases hb; done) | skip
    rename_i cs hf
    simp only [Option.some.injEq] at hb
    subst hb
    obtain ⟨c, c1, c2⟩ := fillA_ok ps qs.toList hf hp z2
    refine ⟨.agg c, by simp [den, c2], ?_⟩
    have hm := structPlaces_ok E w fs.toList hl
    have hpl : (fun i => (l.toArray)[i]?) = nth l := by funext i; simp [nth_eq]
    have hm' : (fs.mapM fun f => (do pure (f.offset, ← sizeOf f.type) : Sem (Nat × Nat))).run P w = .ok l.toArray w := by
      rw [← Array.toArray_toList (xs := fs)]
      rw [List.mapM_toArray]
      simp only [Sem.run_map, hm, Result.andThen_ok]
    simp only [Instr.build, Sem.run_bind, z1, Result.andThen_ok, E.run_und hu, hm', hpl]
    rw [show zv.cells = zv.cells.toList.toArray from rfl, c1]
    rfl
  · rename_i z n e hz hu
    obtain ⟨zv, z1, z2⟩ := zeroOf_ok E hz σ w
    split at hb <;> first | (cases hb; done) | skip
    rename_i inf hinf
    split at hb <;> first | (cases hb; done) | skip
    rename_i cs hf
    simp only [Option.some.injEq] at hb
    subst hb
    obtain ⟨c, c1, c2⟩ := fillA_ok ps qs.toList hf hp z2
    refine ⟨.agg c, by simp [den, c2], ?_⟩
    simp only [Instr.build, Sem.run_bind, z1, Result.andThen_ok, E.run_und hu, E.run_size hinf]
    rw [show zv.cells = zv.cells.toList.toArray from rfl, c1]
    rfl

end
end Go.Ev
