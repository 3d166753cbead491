/- Regions that draw their order: those that only make something new stand anywhere. -/
import Derived.Test.YteklahfgplbmcaaDoorEvDrawC
import Derived.Test.YteklahfgplbmcaaDoorEvDrawDp
namespace Go.Ev
theorem maskFrom_bit {α : Type} {f : Nat → α → Bool} : ∀ (l : List α) (i w : Nat), (maskFrom f i l).testBit w = true → i ≤ w ∧ ∃ x, l[w - i]? = some x ∧ f w x = true
  | [], i, w, h => by simp [maskFrom] at h
  | x :: l, i, w, h => by
    simp only [maskFrom, Nat.testBit_or, Bool.or_eq_true] at h
    rcases h with h | h
    · cases hf : f i x with
      | false => rw [hf] at h; simp at h
      | true =>
        rw [hf] at h
        simp only [Nat.testBit_two_pow, decide_eq_true_eq] at h
        subst h
        exact ⟨Nat.le_refl _, x, by simp, hf⟩
    · obtain ⟨h1, y, h2, h3⟩ := maskFrom_bit l (i + 1) w h
      refine ⟨by omega, y, ?_, h3⟩
      rw [show w - i = (w - (i + 1)) + 1 by omega, List.getElem?_cons_succ]
      exact h2

theorem beq_of {a b : Nat} (h : a = b) : Nat.beq a b = true := by subst h; simp
theorem has_ok {a b : Nat} (h : ∀ w, a.testBit w = true → b.testBit w = true) : has a b = true := by
  unfold has
  apply beq_of 
  apply Nat.eq_of_testBit_eq
  intro w
  show (a &&& b).testBit w = a.testBit w
  rw [Nat.testBit_and]
  cases ha : a.testBit w with
  | false => rfl
  | true => rw [h w ha]; rfl
theorem no_ok {a b : Nat} (h : ∀ w, a.testBit w = true → b.testBit w = false) : no a b = true := by
  unfold no
  apply beq_of
  apply Nat.eq_of_testBit_eq
  intro w
  show (a &&& b).testBit w = (0 : Nat).testBit w
  rw [Nat.testBit_and, Nat.zero_testBit]
  cases ha : a.testBit w with
  | false => rfl
  | true => rw [h w ha]; rfl

theorem allL_mem {α : Type} {p : α → Bool} : ∀ {l : List α}, allL p l = true → ∀ x ∈ l, p x = true
  | [], _, x, hx => by cases hx
  | y :: l, h, x, hx => by
    unfold allL at h
    cases hy : p y with
    | false => rw [hy] at h; cases h
    | true =>
      rw [hy] at h
      rcases List.mem_cons.1 hx with rfl | hx
      · exact hy
      · exact allL_mem h x hx
theorem rItems_mem {all : List Oper} {ms : List Nat} : ∀ {l : List Oper} {m : List Ent} {i0 i : Nat} {o : Oper} {e : Ent}, (o, i, e) ∈ zip3 l m i0 → isR o = true → (⟨o, e, pmOf all ms i, smOf all ms i⟩ : QR) ∈ rItems all ms l m i0
  | [], _, _, _, _, _, h, _ => by simp [zip3] at h
  | _ :: _, [], _, _, _, _, h, _ => by simp [zip3] at h
  | o' :: l, e' :: m, i0, i, o, e, h, hr => by
    simp only [zip3, List.mem_cons, Prod.mk.injEq] at h
    rcases h with ⟨rfl, rfl, rfl⟩ | h
    · simp [rItems, hr]
    · have := rItems_mem (all := all) (ms := ms) h hr
      simp only [rItems]
      cases isR o' with
      | true => exact List.mem_cons_of_mem _ this
      | false => exact this

theorem Tr.setC_comm {α : Type} (x y : α) : ∀ (d : Nat) (t : Tr α) (a b : Nat), a ≠ b → Tr.setC x d (Tr.setC y d t b) a = Tr.setC y d (Tr.setC x d t a) b
  | 0, _, _, _, _ => rfl
  | d + 1, t, 0, 0, h => absurd rfl h
  | d + 1, t, 0, b + 1, _ => by
    cases t <;> simp only [Tr.setC] <;> rcases Nat.mod_two_eq_zero_or_one b with e | e <;> rw [e] <;> rfl
  | d + 1, t, a + 1, 0, _ => by
    cases t <;> simp only [Tr.setC] <;> rcases Nat.mod_two_eq_zero_or_one a with e | e <;> rw [e] <;> rfl
  | d + 1, t, a + 1, b + 1, h => by
    rcases Nat.mod_two_eq_zero_or_one a with e | e <;> rcases Nat.mod_two_eq_zero_or_one b with f | f
    · have hab : a / 2 ≠ b / 2 := by omega
      cases t <;> simp only [Tr.setC, e, f] <;> rw [Tr.setC_comm x y d _ _ _ hab]
    · cases t <;> simp only [Tr.setC, e, f]
    · cases t <;> simp only [Tr.setC, e, f]
    · have hab : a / 2 ≠ b / 2 := by omega
      cases t <;> simp only [Tr.setC, e, f] <;> rw [Tr.setC_comm x y d _ _ _ hab]
theorem Tr.set_comm {α : Type} {x y : α} {t t1 t2 : Tr α} {a b : Nat} (hab : a ≠ b) (h1 : t.set b y = some t1) (h2 : t1.set a x = some t2) : ∃ t3, t.set a x = some t3 ∧ t3.set b y = some t2 := by
  unfold Tr.set at h1 h2 ⊢
  cases ha : Nat.blt a 1073741824 with
  | false => rw [ha] at h2; cases h2
  | true =>
    cases hb : Nat.blt b 1073741824 with
    | false => rw [hb] at h1; cases h1
    | true =>
      rw [hb] at h1
      rw [ha] at h2
      simp only [Option.some.injEq] at h1 h2
      subst h1
      subst h2
      refine ⟨_, rfl, ?_⟩
      simp only [Option.some.injEq, Tr.setR_setC]
      exact (Tr.setC_comm x y 31 t a b hab).symm
theorem Tr.set_can {α : Type} {x y : α} {t t1 : Tr α} {a : Nat} (h : t.set a x = some t1) (s : Tr α) : ∃ s1, s.set a y = some s1 := by
  unfold Tr.set at h ⊢
  cases ha : Nat.blt a 1073741824 with
  | false => rw [ha] at h; cases h
  | true => exact ⟨_, rfl⟩

section
variable {P : Program} (E : Env P)

theorem makeA_A {h h' : Tr AObj} {nx t : Nat} {l c v : RV} (e : makeA E h nx t l c = some (v, h')) :
    ∃ ob, h.get nx = none ∧ h.set nx ob = some h' ∧ ∀ s : Tr AObj, s.get nx = none → ∀ s', s.set nx ob = some s' → makeA E s nx t l c = some (v, s') := by
  unfold makeA at e
  split at e <;> first | (cases e; done) | skip
  rename_i et ln cn hu hl hc
  split at e <;> first | (cases e; done) | skip
  rename_i inf z hi hz
  split at e <;> first | (cases e; done) | skip
  rename_i b1 b2 b3 b4
  split at e <;> first | (cases e; done) | skip
  rename_i h1 hn
  simp only [Option.some.injEq, Prod.mk.injEq] at e
  obtain ⟨rfl, rfl⟩ := e
  unfold newRowA at hn
  cases hg : h.get nx with
  | some x => rw [hg] at hn; cases hn
  | none =>
    rw [hg] at hn
    simp only at hn
    cases hr : zerosRow z cn with
    | none => rw [hr] at hn; cases hn
    | some ob =>
      rw [hr] at hn
      refine ⟨ob, rfl, hn, fun s hs s' hss => ?_⟩
      unfold makeA
      simp only [hu, hl, hc, hi, hz, b1, b2, b3, b4, newRowA, hs, hr, hss]

/-- What it makes. -/
theorem exec1_A {cl : CL} {all : List Oper} {o : Oper} (ha : isA o = true) {tm : List RV} {h h' : Tr AObj} {nx nx' : Nat} {v : RV} (e : exec1 E cl all o tm h nx = some (v, h', nx')) :
    ∃ ob, h.get nx = none ∧ h.set nx ob = some h' ∧ ∀ s : Tr AObj, s.get nx = none → ∀ s', s.set nx ob = some s' → exec1 E cl all o tm s nx = some (v, s', nx') := by
  unfold isA at ha
  split at ha <;> first | (cases ha; done) | skip
  · rename_i t hg ho
    have hw : wantedA all o tm = true := by simp [wantedA, hg]
    simp only [exec1, hw, aop, ho] at e ⊢
    simp only [allocA] at e ⊢
    cases hz : zeroOf E t with
    | none => rw [hz] at e; cases e
    | some z =>
      rw [hz] at e
      simp only [newA] at e ⊢
      cases hn : h.get nx with
      | some x => rw [hn] at e; cases e
      | none =>
        rw [hn] at e
        simp only at e
        cases hr : rowOf z 1 with
        | none => rw [hr] at e; cases e
        | some ob =>
          rw [hr] at e
          simp only at e
          cases hs : h.set nx ob with
          | none => rw [hs] at e; cases e
          | some h1 =>
            rw [hs] at e
            simp only [Option.some.injEq, Prod.mk.injEq] at e
            obtain ⟨rfl, rfl, rfl⟩ := e
            exact ⟨ob, rfl, hs, fun s hsn s' hss => by simp only [hsn, hss]⟩
  · rename_i t l c hg ho
    have hw : wantedA all o tm = true := by simp [wantedA, hg]
    simp only [exec1, hw, aop, ho] at e ⊢
    cases hl : ev E tm l with
    | none => rw [hl] at e; cases e
    | some lv =>
      cases hc : ev E tm c with
      | none => rw [hl, hc] at e; cases e
      | some cv =>
        rw [hl, hc] at e
        simp only at e ⊢
        cases hm : makeA E h nx t lv cv with
        | none => rw [hm] at e; cases e
        | some x =>
          rw [hm] at e
          simp only [Option.some.injEq, Prod.mk.injEq] at e
          obtain ⟨rfl, rfl, rfl⟩ := e
          obtain ⟨ob, m1, m2, m3⟩ := makeA_A E hm
          exact ⟨ob, m1, m2, fun s hs s' hss => by rw [m3 s hs s' hss]⟩

theorem wItemsF_mem {all : List Oper} {ms : List Nat} : ∀ {l : List Oper} {m : List Ent} {i0 i : Nat} {o : Oper} {e : Ent}, (o, i, e) ∈ zip3 l m i0 → isW o = true → (⟨o, e, i, pmOf all ms i, 2 ^ i⟩ : QW) ∈ wItemsF all ms l m i0
  | [], _, _, _, _, _, h, _ => by simp [zip3] at h
  | _ :: _, [], _, _, _, _, h, _ => by simp [zip3] at h
  | o' :: l, e' :: m, i0, i, o, e, h, hr => by
    simp only [zip3, List.mem_cons, Prod.mk.injEq] at h
    rcases h with ⟨rfl, rfl, rfl⟩ | h
    · simp [wItemsF, hr]
    · have := wItemsF_mem (all := all) (ms := ms) h hr
      simp only [wItemsF]
      cases isW o' with
      | true => exact List.mem_cons_of_mem _ this
      | false => exact this
theorem wItemsF_inv {all : List Oper} {ms : List Nat} : ∀ {l : List Oper} {m : List Ent} {i0 : Nat} {q : QW}, q ∈ wItemsF all ms l m i0 → (q.o, q.i, q.e) ∈ zip3 l m i0 ∧ isW q.o = true ∧ q.p = pmOf all ms q.i ∧ q.s = 2 ^ q.i
  | [], _, _, _, h => by simp [wItemsF] at h
  | _ :: _, [], _, _, h => by simp [wItemsF] at h
  | o' :: l, e' :: m, i0, q, h => by
    simp only [wItemsF] at h
    cases hw : isW o' with
    | true =>
      rw [hw] at h
      rcases List.mem_cons.1 h with rfl | h
      · exact ⟨by simp [zip3], hw, rfl, rfl⟩
      · obtain ⟨h1, h2⟩ := wItemsF_inv h
        exact ⟨by simp only [zip3]; exact List.mem_cons_of_mem _ h1, h2⟩
    | false =>
      rw [hw] at h
      obtain ⟨h1, h2⟩ := wItemsF_inv h
      exact ⟨by simp only [zip3]; exact List.mem_cons_of_mem _ h1, h2⟩

/-- The places of a list go up. -/
def Ups : List QW → Prop
  | [] => True
  | q :: l => (∀ x ∈ l, q.i < x.i) ∧ Ups l
theorem wItemsF_ups {all : List Oper} {ms : List Nat} : ∀ (l : List Oper) (m : List Ent) (i0 : Nat), Ups (wItemsF all ms l m i0)
  | [], _, _ => by simp [wItemsF, Ups]
  | _ :: _, [], _ => by simp [wItemsF, Ups]
  | o' :: l, e' :: m, i0 => by
    simp only [wItemsF]
    cases isW o' with
    | true =>
      refine ⟨fun x hx => ?_, wItemsF_ups l m (i0 + 1)⟩
      have h2 := (zip3_get (wItemsF_inv hx).1).1
      show i0 < x.i
      omega
    | false => exact wItemsF_ups l m (i0 + 1)

theorem hAt_cons (cl : CL) (all : List Oper) (m : Nat) (q : QW) (ws : List QW) (h : Tr AObj) : hAt E cl all m (q :: ws) h = match no q.s m with
    | true => hAt E cl all m ws h
    | false => (match runW E cl all q h with | some h' => hAt E cl all m ws h' | none => none) := rfl
theorem runW_some {cl : CL} {all : List Oper} {q : QW} {h h' : Tr AObj} (e : runW E cl all q h = some h') : ∃ nx', exec1 E cl all q.o q.e.tm h q.e.nx = some (q.e.v, h', nx') := by
  unfold runW at e
  split at e <;> first | (cases e; done) | skip
  rename_i v h1 nx1 hx
  split at e <;> first | (cases e; done) | skip
  rename_i hv
  simp only [Option.some.injEq] at e
  subst e
  exact ⟨nx1, by rw [hx, beqV_ok _ _ hv]⟩
theorem beqV_self_of {v u : RV} (h : beqV v u = true) : v = u := beqV_ok _ _ h

theorem outs_hAt {cl : CL} {all : List Oper} {m : Nat} : ∀ {ws : List QW} {h : Tr AObj}, outs m ws = true → hAt E cl all m ws h = some h
  | [], h, _ => rfl
  | q :: ws, h, ho => by
    unfold outs at ho
    rw [hAt_cons]
    cases hn : no q.s m with
    | true => rw [hn] at ho; exact outs_hAt ho
    | false => rw [hn] at ho; cases ho

theorem runW_A {cl : CL} {all : List Oper} {q : QW} (ha : isA q.o = true) {h h' : Tr AObj} (e : runW E cl all q h = some h') :
    ∃ ob, h.get q.e.nx = none ∧ h.set q.e.nx ob = some h' ∧ ∀ s : Tr AObj, s.get q.e.nx = none → ∀ s', s.set q.e.nx ob = some s' → runW E cl all q s = some s' := by
  unfold runW at e
  split at e <;> first | (cases e; done) | skip
  rename_i v h1 nx1 hx
  split at e <;> first | (cases e; done) | skip
  rename_i hv
  simp only [Option.some.injEq] at e
  subst e
  obtain ⟨ob, a1, a2, a3⟩ := exec1_A E ha hx
  refine ⟨ob, a1, a2, fun s hs s' hss => ?_⟩
  unfold runW
  rw [a3 s hs s' hss]
  simp only [hv]

/-- What is new ahead is new behind others that are new. -/
theorem news_hAt {cl : CL} {all : List Oper} {m nx : Nat} {ob : AObj} : ∀ {ws : List QW} {h H h2 : Tr AObj}, news m nx ws = true → hAt E cl all m ws h = some H → H.get nx = none → h.set nx ob = some h2 →
    h.get nx = none ∧ ∃ H2, H.set nx ob = some H2 ∧ hAt E cl all m ws h2 = some H2
  | [], h, H, h2, _, hh, hn, hs => by cases hh; exact ⟨hn, h2, hs, rfl⟩
  | q :: ws, h, H, h2, hw, hh, hn, hs => by
    unfold news at hw
    rw [hAt_cons] at hh ⊢
    cases hq : no q.s m with
    | true =>
      rw [hq] at hw hh
      exact news_hAt hw hh hn hs
    | false =>
      rw [hq] at hw hh
      simp only at hw hh ⊢
      split at hw <;> first | (cases hw; done) | skip
      rename_i ha hb
      have hne : nx ≠ q.e.nx := fun e => by rw [e] at hb; simp at hb
      split at hh <;> first | (cases hh; done) | skip
      rename_i h1 hr
      obtain ⟨ob1, a1, a2, a3⟩ := runW_A E ha hr
      obtain ⟨k2, hk2⟩ := Tr.set_can (y := ob1) a2 h2
      obtain ⟨h3, c1, c2⟩ := Tr.set_comm (fun e => hne e.symm) hs hk2
      rw [a2] at c1
      cases c1
      obtain ⟨g1, g2⟩ := Tr.get_set a2
      obtain ⟨i1, H2, i2, i3⟩ := news_hAt hw hh hn c2
      refine ⟨by rw [← g2 nx hne]; exact i1, H2, i2, ?_⟩
      obtain ⟨f1, f2⟩ := Tr.get_set hs
      rw [a3 h2 (by rw [f2 q.e.nx (fun e => hne e.symm)]; exact a1) _ hk2]
      exact i3

theorem land_pow {a b : Nat} (h : a ≠ b) (m : Nat) : Nat.land (2 ^ a) (Nat.lor m (2 ^ b)) = Nat.land (2 ^ a) m := by
  apply Nat.eq_of_testBit_eq
  intro w
  show ((2 ^ a) &&& (m ||| 2 ^ b)).testBit w = ((2 ^ a) &&& m).testBit w
  simp only [Nat.testBit_and, Nat.testBit_or, Nat.testBit_two_pow]
  by_cases e : a = w
  · subst e
    have : ¬ b = a := fun e => h e.symm
    simp [this]
  · simp [e]
theorem no_lor {a b : Nat} (h : a ≠ b) (m : Nat) : no (2 ^ a) (Nat.lor m (2 ^ b)) = no (2 ^ a) m := by
  unfold no
  rw [land_pow h]
theorem no_self (a m : Nat) : no (2 ^ a) (Nat.lor m (2 ^ a)) = false := by
  unfold no
  cases hb : Nat.beq (Nat.land (2 ^ a) (Nat.lor m (2 ^ a))) 0 with
  | false => rfl
  | true =>
    have e := Nat.eq_of_beq_eq_true hb
    have : ((2 ^ a) &&& (m ||| 2 ^ a)).testBit a = (0 : Nat).testBit a := congrArg (fun x => Nat.testBit x a) e
    simp at this
theorem no_bit {a m : Nat} : no (2 ^ a) m = !m.testBit a := by
  cases hb : m.testBit a with
  | false =>
    refine no_ok fun w hw => ?_
    rw [Nat.testBit_two_pow, decide_eq_true_eq] at hw
    subst hw; exact hb
  | true =>
    unfold no
    cases hn : Nat.beq (Nat.land (2 ^ a) m) 0 with
    | false => rfl
    | true =>
      have e := Nat.eq_of_beq_eq_true hn
      have : ((2 ^ a) &&& m).testBit a = (0 : Nat).testBit a := congrArg (fun x => Nat.testBit x a) e
      simp [hb] at this

def Pows (ws : List QW) : Prop := ∀ q ∈ ws, q.s = 2 ^ q.i
theorem hAt_lor {cl : CL} {all : List Oper} {m b : Nat} : ∀ {ws : List QW}, Pows ws → (∀ x ∈ ws, x.i ≠ b) → ∀ h, hAt E cl all (Nat.lor m (2 ^ b)) ws h = hAt E cl all m ws h
  | [], _, _, _ => rfl
  | q :: ws, hp, hn, h => by
    rw [hAt_cons, hAt_cons, hp q (by simp), no_lor (hn q (by simp))]
    have ih := fun h => hAt_lor (cl := cl) (all := all) (m := m) (b := b) (ws := ws) (fun x hx => hp x (by simp [hx])) (fun x hx => hn x (by simp [hx])) h
    cases no (2 ^ q.i) m with
    | true => exact ih h
    | false => cases runW E cl all q h with
      | none => rfl
      | some h' => exact ih h'

theorem edges_cons (cl : CL) (all : List Oper) (m : Nat) (q : QW) (rest : List QW) (h : Tr AObj) : edges E cl all m (q :: rest) h = match no q.s m with
    | false => (match runW E cl all q h with | some h' => edges E cl all m rest h' | none => false)
    | true => (match has q.p m with
      | false => edges E cl all m rest h
      | true => (match hAt E cl all m rest h with
        | some H => (match runW E cl all q H with
          | some h1 => (match (outs m rest || (match isA q.o with | true => news m q.e.nx rest | false => false) || (match runW E cl all q h with
              | some h2 => (match hAt E cl all m rest h2 with | some H2 => beqH h1 H2 | none => false)
              | none => false)) with
            | true => edges E cl all m rest h
            | false => false)
          | none => false)
        | none => false)) := rfl

theorem edges_ok {cl : CL} {all : List Oper} {m : Nat} : ∀ {ws : List QW} {h H : Tr AObj}, Ups ws → Pows ws → edges E cl all m ws h = true → hAt E cl all m ws h = some H → ∀ q ∈ ws, no q.s m = true → has q.p m = true →
    ∃ h1, runW E cl all q H = some h1 ∧ hAt E cl all (Nat.lor m q.s) ws h = some h1
  | [], _, _, _, _, _, _, q, hq, _, _ => by cases hq
  | x :: rest, h, H, hu, hp, he, hh, q, hq, hn, hs => by
    have hpr : Pows rest := fun y hy => hp y (by simp [hy])
    rw [edges_cons] at he
    rw [hAt_cons] at hh
    rcases List.mem_cons.1 hq with rfl | hq
    · rw [hn] at he hh
      simp only at he hh
      rw [hs, hh] at he
      simp only at he
      have hx := hp q (by simp)
      have hne : ∀ y ∈ rest, y.i ≠ q.i := fun y hy => by have := hu.1 y hy; omega
      rw [hAt_cons]
      have hl : ∀ h, hAt E cl all (Nat.lor m q.s) rest h = hAt E cl all m rest h := fun h => by rw [hx]; exact hAt_lor E hpr hne h
      have hself : no q.s (Nat.lor m q.s) = false := by rw [hx]; exact no_self _ _
      rw [hself]
      simp only
      cases hr : runW E cl all q H with
      | none => rw [hr] at he; cases he
      | some h1 =>
        rw [hr] at he
        simp only at he
        refine ⟨h1, rfl, ?_⟩
        split at he <;> first | (cases he; done) | skip
        rename_i hc
        rw [Bool.or_eq_true, Bool.or_eq_true] at hc
        rcases hc with (hc | hc) | hc
        · have := outs_hAt E (cl := cl) (all := all) (h := h) hc
          rw [hh] at this
          cases this
          rw [hr]
          simp only [hl]
          exact outs_hAt E hc
        · split at hc <;> first | (cases hc; done) | skip
          rename_i ha
          obtain ⟨ob, a1, a2, a3⟩ := runW_A E ha hr
          obtain ⟨h2, hs2⟩ := Tr.set_can (y := ob) a2 h
          obtain ⟨b1, H2, b2, b3⟩ := news_hAt E hc hh a1 hs2
          rw [a3 h b1 h2 hs2]
          simp only [hl]
          rw [b3]
          rw [a2] at b2
          exact b2.symm
        · split at hc <;> first | (cases hc; done) | skip
          rename_i h2 hr2
          split at hc <;> first | (cases hc; done) | skip
          rename_i H2 hh2
          rw [hl, hh2, beqH_ok _ _ hc]
    · have hlt := hu.1 q hq
      have hqs := hp q (by simp [hq])
      have hxs := hp x (by simp)
      rw [hAt_cons]
      have hb : no x.s (Nat.lor m q.s) = no x.s m := by rw [hxs, hqs]; exact no_lor (by omega) m
      rw [hb]
      cases hnx : no x.s m with
      | false =>
        rw [hnx] at he hh
        simp only at he hh ⊢
        cases hr : runW E cl all x h with
        | none => rw [hr] at hh; cases hh
        | some h' =>
          rw [hr] at he hh
          exact edges_ok hu.2 hpr he hh q hq hn hs
      | true =>
        rw [hnx] at he hh
        simp only at he hh ⊢
        have go : edges E cl all m rest h = true := by
          split at he
          · exact he
          · split at he <;> first | (cases he; done) | skip
            split at he <;> first | (cases he; done) | skip
            split at he <;> first | (cases he; done) | skip
            exact he
        exact edges_ok hu.2 hpr go hh q hq hn hs

theorem maskS_mem (f : Nat → Bool) : ∀ ws, maskS f ws ∈ subsets ws
  | [] => by simp [maskS, subsets]
  | q :: ws => by
    simp only [maskS, subsets, List.mem_append, List.mem_map]
    cases f q.i with
    | true => exact .inr ⟨_, maskS_mem f ws, rfl⟩
    | false => exact .inl (maskS_mem f ws)
theorem maskS_bit (f : Nat → Bool) : ∀ {ws : List QW}, Pows ws → ∀ j, (maskS f ws).testBit j = true ↔ ∃ q ∈ ws, q.i = j ∧ f j = true
  | [], _, j => by simp [maskS]
  | q :: ws, hp, j => by
    have ih := maskS_bit f (ws := ws) (fun x hx => hp x (by simp [hx])) j
    simp only [maskS]
    cases hf : f q.i with
    | true =>
      show ((q.s) ||| (maskS f ws)).testBit j = true ↔ _
      rw [Nat.testBit_or, hp q (by simp), Nat.testBit_two_pow, Bool.or_eq_true, ih, decide_eq_true_eq]
      constructor
      · rintro (e | ⟨x, hx, h⟩)
        · exact ⟨q, by simp, e, e ▸ hf⟩
        · exact ⟨x, by simp [hx], h⟩
      · rintro ⟨x, hx, h1, h2⟩
        rcases List.mem_cons.1 hx with rfl | hx
        · exact .inl h1
        · exact .inr ⟨x, hx, h1, h2⟩
    | false =>
      rw [ih]
      constructor
      · rintro ⟨x, hx, h⟩; exact ⟨x, by simp [hx], h⟩
      · rintro ⟨x, hx, h1, h2⟩
        rcases List.mem_cons.1 hx with rfl | hx
        · rw [h1] at hf; rw [hf] at h2; cases h2
        · exact ⟨x, hx, h1, h2⟩

theorem closedM_ok {m : Nat} : ∀ {ws : List QW}, (∀ q ∈ ws, no q.s m = false → has q.p m = true) → closedM m ws = true
  | [], _ => rfl
  | q :: ws, h => by
    unfold closedM
    have ih := closedM_ok (m := m) (ws := ws) (fun x hx => h x (by simp [hx]))
    cases hn : no q.s m with
    | true => exact ih
    | false => simp only; rw [h q (by simp) hn]; exact ih

end
end Go.Ev
