/- Regions that draw their order: the proof. -/
import Derived.Test.YteklahfgplbmcaaDoorEvDrawB
namespace Go.Ev
section
variable {P : Program} {E : Env P}

theorem ev_congr {tm tm' : List RV} {x : Operand} (h : ∀ t, x = .tmp t → tm[t]? = tm'[t]?) : ev E tm x = ev E tm' x := by
  cases x with
  | tmp t => simp only [ev, nth_eq]; rw [h t rfl]
  | const v => rfl
  | global g => rfl
  | func f => rfl

theorem evL_congr {tm tm' : List RV} : ∀ {l : List Operand}, (∀ x ∈ l, ev E tm x = ev E tm' x) → evL E tm l = evL E tm' l
  | [], _ => rfl
  | x :: l, h => by simp only [evL]; rw [h x (by simp), evL_congr fun y hy => h y (List.mem_cons_of_mem _ hy)]

theorem partsA_congr {tm tm' : List RV} : ∀ {l : List (Nat × Operand)}, (∀ x ∈ l.map (·.2), ev E tm x = ev E tm' x) → partsA E tm l = partsA E tm' l
  | [], _ => rfl
  | (i, x) :: l, h => by
    simp only [partsA]
    rw [h x (by simp), partsA_congr fun y hy => h y (by simp only [List.map_cons]; exact List.mem_cons_of_mem _ hy)]

theorem evO_congr {tm tm' : List RV} {x : Option Operand} (h : ∀ y ∈ x.toArray.toList, ev E tm y = ev E tm' y) : evO E tm x = evO E tm' x := by
  cases x with
  | none => rfl
  | some x => simp only [evO]; rw [h x (by simp)]

theorem aop_congr {tm tm' : List RV} {o : Oper} (e : ∀ x ∈ o.op.operands.toList, ev E tm x = ev E tm' x) (h : Tr AObj) (nx : Nat) : aop E o tm h nx = aop E o tm' h nx := by
  unfold aop
  cases ho : o.op <;> simp only [ho, Op.operands] at e ⊢
  case move x => rw [e x (by simp)]
  case assign x => rw [e x (by simp)]
  case pick c a b => rw [e c (by simp), e a (by simp), e b (by simp)]
  case box t x => rw [e x (by simp)]
  case build t ps => rw [partsA_congr (l := ps.toList) (fun x hx => e x (by simpa using hx))]
  case buildSlice t n ps => rw [partsA_congr (l := ps.toList) (fun x hx => e x (by simpa using hx))]
  case load t a => rw [e a (by simp)]
  case store t a x => rw [e a (by simp), e x (by simp)]
  case nilCheck x => rw [e x (by simp)]
  case binOp op t x y yt => rw [e x (by simp), e y (by simp)]
  case unOp op t x => rw [e x (by simp)]
  case convert s d x => rw [e x (by simp)]
  case makeFunc fn first captured => rw [evL_congr (l := first.toList) (fun x hx => e x (by simp [Array.mem_toList_iff.1 hx])), evL_congr (l := captured.toList) (fun x hx => e x (by simp [Array.mem_toList_iff.1 hx]))]
  case makeSlice t l c => rw [e l (by simp), e c (by simp)]
  case slice t x lo hi mx =>
    rw [e x (by simp), evO_congr (x := lo) (fun y hy => e y (by simp at hy; simp [hy])), evO_congr (x := hi) (fun y hy => e y (by simp at hy; simp [hy])), evO_congr (x := mx) (fun y hy => e y (by simp at hy; simp [hy]))]
  case fieldAddr t x f => rw [e x (by simp)]
  case field t x f => rw [e x (by simp)]
  case indexAddr t x ix => rw [e x (by simp), e ix (by simp)]
  case index t x ix => rw [e x (by simp), e ix (by simp)]
  case extract x i => rw [e x (by simp)]
  case call c =>
    obtain ⟨callee, args, argTypes⟩ := c
    simp only [Call.operands] at e
    unfold aCall
    simp only
    rw [evL_congr (l := args.toList) (fun x hx => e x (by simp [Array.mem_toList_iff.1 hx]))]
    cases callee with
    | value f => simp only; rw [e f (by simp)]
    | builtin b => rfl
    | invoke r m => rfl
  case defer c =>
    obtain ⟨callee, args, argTypes⟩ := c
    simp only [Call.operands] at e
    simp only
    rw [evL_congr (l := args.toList) (fun x hx => e x (by simp [Array.mem_toList_iff.1 hx]))]
    cases callee with
    | value f => simp only; rw [e f (by simp)]
    | builtin b => rfl
    | invoke r m => rfl

theorem exec1_congr {cl : CL} {all : List Oper} {tm tm' : List RV} {o : Oper} (e : ∀ t ∈ looksA all o, tm[t]? = tm'[t]?) (h : Tr AObj) (nx : Nat) : exec1 E cl all o tm h nx = exec1 E cl all o tm' h nx := by
  have h1 : wantedA all o tm = wantedA all o tm' := by
    unfold wantedA
    cases hg : o.guard with
    | none => rfl
    | some g =>
      obtain ⟨j, want⟩ := g
      have : yieldedA all tm j = yieldedA all tm' j := by
        unfold yieldedA
        cases hn : nth all j with
        | none => rfl
        | some p =>
          cases hd : p.dst with
          | none => simp only [hd]
          | some d =>
            simp only [hd, nth_eq]
            rw [e d (by unfold looksA; rw [hg]; simp only [hn, hd]; simp)]
      simp only [this]
  have h2 : aop E o tm h nx = aop E o tm' h nx := aop_congr (fun x hx => ev_congr fun t ht => e t (by
    unfold looksA
    exact List.mem_append_left _ (List.mem_filterMap.2 ⟨x, hx, by rw [ht]⟩))) h nx
  unfold exec1
  rw [h1, h2]

theorem exec1_P {cl : CL} {all : List Oper} {o : Oper} (hp : isP o = true) {tm : List RV} {h h1 : Tr AObj} {nx nx1 : Nat} {v : RV} (e : exec1 E cl all o tm h nx = some (v, h1, nx1)) (h' : Tr AObj) (nx' : Nat) : exec1 E cl all o tm h' nx' = some (v, h', nx') := by
  unfold exec1 at e ⊢
  cases hw : wantedA all o tm with
  | false =>
    rw [hw] at e
    simp only [Option.some.injEq, Prod.mk.injEq] at e
    rw [← e.1]
  | true =>
    rw [hw] at e
    simp only at e ⊢
    cases ha : aop E o tm h nx with
    | none => rw [ha] at e; cases e
    | some n =>
      obtain ⟨v', rfl, hall⟩ := aop_P E hp ha
      rw [ha] at e
      simp only [Option.some.injEq, Prod.mk.injEq] at e
      rw [hall h' nx', ← e.1]

theorem exec1_R {cl : CL} {all : List Oper} {o : Oper} (hr : isR o = true) {tm : List RV} {h h1 : Tr AObj} {nx nx1 : Nat} {v : RV} (e : exec1 E cl all o tm h nx = some (v, h1, nx1)) : h1 = h := by
  unfold exec1 at e
  cases hw : wantedA all o tm with
  | false =>
    rw [hw] at e
    simp only [Option.some.injEq, Prod.mk.injEq] at e
    exact e.2.1.symm
  | true =>
    rw [hw] at e
    simp only at e
    cases ha : aop E o tm h nx with
    | none => rw [ha] at e; cases e
    | some n =>
      obtain ⟨v', rfl, _⟩ := aop_R E hr ha
      rw [ha] at e
      simp only [Option.some.injEq, Prod.mk.injEq] at e
      exact e.2.1.symm

theorem zip3_mem : ∀ {all : List Oper} {es : List Ent} {i0 i : Nat} {o : Oper} {e : Ent}, all[i]? = some o → es[i]? = some e → (o, i0 + i, e) ∈ zip3 all es i0
  | [], _, _, _, _, _, h, _ => by simp at h
  | _ :: _, [], _, _, _, _, _, h => by simp at h
  | o' :: all, e' :: es, i0, 0, o, e, h1, h2 => by simp at h1 h2; subst h1; subst h2; simp [zip3]
  | o' :: all, e' :: es, i0, i + 1, o, e, h1, h2 => by
    simp at h1 h2
    have := zip3_mem (i0 := i0 + 1) h1 h2
    simp only [zip3]
    rw [show i0 + (i + 1) = i0 + 1 + i by omega]
    exact List.mem_cons_of_mem _ this

theorem zip3_get : ∀ {all : List Oper} {es : List Ent} {i0 i : Nat} {o : Oper} {e : Ent}, (o, i, e) ∈ zip3 all es i0 → i0 ≤ i ∧ all[i - i0]? = some o ∧ es[i - i0]? = some e
  | [], _, _, _, _, _, h => by simp [zip3] at h
  | _ :: _, [], _, _, _, _, h => by simp [zip3] at h
  | o' :: all, e' :: es, i0, i, o, e, h => by
    simp only [zip3, List.mem_cons] at h
    rcases h with h | h
    · cases h; simp
    · obtain ⟨h1, h2, h3⟩ := zip3_get h
      have : i - i0 = (i - (i0 + 1)) + 1 := by omega
      exact ⟨by omega, by rw [this]; simpa using h2, by rw [this]; simpa using h3⟩

def dsts : List Oper → List Ent → List (Option Nat × RV)
  | o :: l, e :: m => (o.dst, e.v) :: dsts l m
  | _, _ => []

theorem dsts_get : ∀ {l : List Oper} {es : List Ent} {k : Nat} {o : Oper} {e : Ent}, l[k]? = some o → es[k]? = some e → (dsts l es)[k]? = some (o.dst, e.v)
  | [], _, _, _, _, h, _ => by simp at h
  | _ :: _, [], _, _, _, _, h => by simp at h
  | _ :: _, _ :: _, 0, _, _, h1, h2 => by simp at h1 h2; subst h1; subst h2; rfl
  | _ :: l, _ :: es, k + 1, o, e, h1, h2 => by simp at h1 h2; simpa [dsts] using dsts_get h1 h2

theorem dsts_inv : ∀ {l : List Oper} {es : List Ent} {k : Nat} {d : Option Nat} {v : RV}, (dsts l es)[k]? = some (d, v) → ∃ o e, l[k]? = some o ∧ es[k]? = some e ∧ o.dst = d ∧ e.v = v
  | [], _, _, _, _, h => by simp [dsts] at h
  | _ :: _, [], _, _, _, h => by simp [dsts] at h
  | o :: _, e :: _, 0, _, _, h => by simp [dsts] at h; exact ⟨o, e, rfl, rfl, h.1, h.2⟩
  | _ :: l, _ :: es, k + 1, d, v, h => by simp [dsts] at h; simpa using dsts_inv h

theorem tmS_shift (S : Nat → Bool) : ∀ (l : List (Option Nat × RV)) (i : Nat) (tm : List RV), tmS S (i + 1) l tm = tmS (fun j => S (j + 1)) i l tm
  | [], _, _ => rfl
  | (d, v) :: l, i, tm => by simp only [tmS]; rw [tmS_shift S l (i + 1)]

theorem tmS_false (S : Nat → Bool) : ∀ (l : List (Option Nat × RV)) (i : Nat) (tm : List RV), (∀ j, i ≤ j → S j = false) → tmS S i l tm = tm
  | [], _, _, _ => rfl
  | (d, v) :: l, i, tm, h => by simp only [tmS]; rw [h i (Nat.le_refl _)]; exact tmS_false S l (i + 1) tm fun j hj => h j (by omega)

theorem textA_ok {cl : CL} {all : List Oper} : ∀ (l : List Oper) {tm tm' : List RV} {h h' : Tr AObj} {nx nx' : Nat} {es : List Ent}, textA E cl all l tm h nx = some (es, tm', h', nx') →
    es.length = l.length ∧ tm' = tmS (fun _ => true) 0 (dsts l es) tm ∧ (∀ e, es[0]? = some e → e.h = h) ∧ (es = [] → h' = h) ∧
    ∀ k o, l[k]? = some o → ∃ e h1 nx1, es[k]? = some e ∧ e.tm = tmS (fun j => decide (j < k)) 0 (dsts l es) tm ∧ exec1 E cl all o e.tm e.h e.nx = some (e.v, h1, nx1) ∧ (∀ e', es[k + 1]? = some e' → e'.h = h1) ∧ (k + 1 = l.length → h1 = h')
  | [], tm, tm', h, h', nx, nx', es, ht => by
    simp only [textA, Option.some.injEq, Prod.mk.injEq] at ht
    obtain ⟨rfl, rfl, rfl, rfl⟩ := ht
    exact ⟨rfl, rfl, by simp, fun _ => rfl, by simp⟩
  | o :: l, tm, tm', h, h', nx, nx', es, ht => by
    simp only [textA] at ht
    split at ht <;> first | (cases ht; done) | skip
    rename_i v h1 nx1 he
    split at ht <;> first | (cases ht; done) | skip
    rename_i es1 r hr
    simp only [Option.some.injEq, Prod.mk.injEq] at ht
    obtain ⟨rfl, rfl⟩ := ht
    obtain ⟨i1, i2, i4, i5, i3⟩ := textA_ok l hr
    refine ⟨by simp [i1], ?_, fun e he => by simp at he; subst he; rfl, fun h => by simp at h, fun k o' hk => ?_⟩
    · rw [i2]
      simp only [dsts, tmS]
      rw [tmS_shift]
    · cases k with
      | zero =>
        simp at hk
        subst hk
        refine ⟨_, h1, nx1, rfl, (tmS_false _ _ _ _ (by simp)).symm, he, fun e' he' => i4 e' (by simpa using he'), fun hl => ?_⟩
        have : l = [] := by simpa using hl
        subst this
        exact (i5 (List.length_eq_zero_iff.1 i1)).symm
      | succ k =>
        simp at hk
        obtain ⟨e, h2, nx2, e1, e2, e3, e4, e5⟩ := i3 k o' hk
        refine ⟨e, h2, nx2, by simpa using e1, ?_, e3, fun e' he' => e4 e' (by simpa using he'), fun hl => e5 (by simpa using hl)⟩
        rw [e2]
        simp only [dsts, tmS]
        rw [tmS_shift]
        simp

/-- What an operation that is next looks at is as it was in the text's order. -/
theorem agree {all : List Oper} {ms : List Nat} {es : List Ent} {S : Nat → Bool} (hm : masks [] all = some ms) (hc : chk all ms = true) (hcl : Closed all S) {i : Nat} {o : Oper} (hi : all[i]? = some o) (hn : S i = false) (hb : ∀ e ∈ bnds o, S e = true) (tm : List RV) :
    ∀ t ∈ looksA all o, (tmS S 0 (dsts all es) tm)[t]? = (tmS (fun j => decide (j < i)) 0 (dsts all es) tm)[t]? := by
  intro t ht
  have hml := (masks_ok all [] hm).1
  simp only [List.length_nil, Nat.zero_add] at hml
  have getm : ∀ {k : Nat} {o : Oper}, all[k]? = some o → ms[k]? = some (ms.getD k 0) := by
    intro k o hk
    have : k < ms.length := by rw [hml]; exact (List.getElem?_eq_some_iff.1 hk).1
    simp [List.getD, this]
  by_cases hw : ∃ (j : Nat) (p : Oper) (e : Ent), all[j]? = some p ∧ es[j]? = some e ∧ p.dst = some t
  · obtain ⟨j, p, e, hj, hje, hd⟩ := hw
    have uniq : ∀ k d u, (dsts all es)[k]? = some (d, u) → d = some t → k = j := by
      intro k d u hk hdt
      obtain ⟨p', e', h1, _, h3, _⟩ := dsts_inv hk
      exact chk_one hc h1 hj (by rw [h3, hdt]) hd
    have hdj := dsts_get hj hje
    rw [hd] at hdj
    have both : ∀ S' : Nat → Bool, S' j = true → (tmS S' 0 (dsts all es) tm)[t]? = if t < tm.length then some e.v else none := by
      intro S' hS
      split
      · rename_i hlt
        exact tmS_some _ 0 j tm hdj (by rw [Nat.zero_add]; exact hS) uniq hlt
      · rename_i hge
        rw [List.getElem?_eq_none (by rw [tmS_length]; omega)]
    have neither : ∀ S' : Nat → Bool, S' j = false → (tmS S' 0 (dsts all es) tm)[t]? = tm[t]? := by
      intro S' hS
      refine tmS_none _ 0 tm (fun k d v hk hsk hdt => ?_)
      have := uniq k d v hk hdt
      subst this
      rw [Nat.zero_add] at hsk
      rw [hS] at hsk; cases hsk
    by_cases hji : j = i
    · subst hji
      rw [neither S hn, neither _ (by simp)]
    · rcases chk_read hc hi hj ht hd hji with ⟨h1, h2⟩ | ⟨h1, h2⟩
      · have hSj := closed_mask hm hcl i i (Nat.le_refl _) o _ hi (getm hi) hb j h2
        rw [both S hSj, both _ (by simpa using h1)]
      · have hSj : S j = false := by
          cases hs : S j with
          | false => rfl
          | true =>
            have := closed_mask hm hcl j j (Nat.le_refl _) p _ hj (getm hj) (hcl j p hj hs) i h2
            rw [hn] at this; cases this
        rw [neither S hSj, neither _ (by simp; omega)]
  · have nw : ∀ S' : Nat → Bool, (tmS S' 0 (dsts all es) tm)[t]? = tm[t]? := by
      intro S'
      refine tmS_none _ 0 tm (fun k d v hk _ hdt => hw ?_)
      obtain ⟨p, e, h1, h2, h3, _⟩ := dsts_inv hk
      exact ⟨k, p, e, h1, h2, by rw [h3, hdt]⟩
    rw [nw, nw]

/-- One more: the slots. -/
theorem tmS_put {all : List Oper} {ms : List Nat} {es : List Ent} {S : Nat → Bool} (hc : chk all ms = true) {i : Nat} {o : Oper} {e : Ent} (hi : all[i]? = some o) (he : es[i]? = some e) (hn : S i = false) (tm : List RV) :
    putO (tmS S 0 (dsts all es) tm) o.dst e.v = tmS (fun j => S j || decide (j = i)) 0 (dsts all es) tm := by
  have hd := dsts_get hi he
  apply List.ext_getElem?
  intro t
  cases hod : o.dst with
  | none =>
    simp only [putO]
    by_cases hw : ∃ (j : Nat) (p : Oper) (e : Ent), all[j]? = some p ∧ es[j]? = some e ∧ p.dst = some t
    · obtain ⟨j, p, e', hj, hje, hdp⟩ := hw
      have hji : j ≠ i := fun h => by subst h; rw [hi] at hj; cases hj; rw [hod] at hdp; cases hdp
      have uniq : ∀ k d u, (dsts all es)[k]? = some (d, u) → d = some t → k = j := by
        intro k d u hk hdt
        obtain ⟨p', e', h1, _, h3, _⟩ := dsts_inv hk
        exact chk_one hc h1 hj (by rw [h3, hdt]) hdp
      have hdj := dsts_get hj hje
      rw [hdp] at hdj
      cases hS : S j with
      | true =>
        by_cases hlt : t < tm.length
        · rw [tmS_some _ 0 j tm hdj (by rw [Nat.zero_add]; exact hS) uniq hlt, tmS_some _ 0 j tm hdj (by rw [Nat.zero_add]; simp [hS]) uniq hlt]
        · rw [List.getElem?_eq_none (by rw [tmS_length]; omega), List.getElem?_eq_none (by rw [tmS_length]; omega)]
      | false =>
        rw [tmS_none _ 0 tm (fun k d v hk hsk hdt => ?_), tmS_none _ 0 tm (fun k d v hk hsk hdt => ?_)]
        · have := uniq k d v hk hdt; subst this; rw [Nat.zero_add] at hsk; simp [hS, hji] at hsk
        · have := uniq k d v hk hdt; subst this; rw [Nat.zero_add] at hsk; rw [hS] at hsk; cases hsk
    · rw [tmS_none _ 0 tm (fun k d v hk _ hdt => hw ?_), tmS_none _ 0 tm (fun k d v hk _ hdt => hw ?_)]
      all_goals
        obtain ⟨p, e, h1, h2, h3, _⟩ := dsts_inv hk
        exact ⟨k, p, e, h1, h2, by rw [h3, hdt]⟩
  | some d =>
    simp only [putO, putAt_eq]
    rw [hod] at hd
    have uniq : ∀ k d' u, (dsts all es)[k]? = some (d', u) → d' = some d → k = i := by
      intro k d' u hk hdt
      obtain ⟨p', e', h1, _, h3, _⟩ := dsts_inv hk
      exact chk_one hc h1 hi (by rw [h3, hdt]) hod
    by_cases htd : t = d
    · subst htd
      by_cases hlt : t < tm.length
      · rw [tmS_some _ 0 i tm hd (by rw [Nat.zero_add]; simp) uniq hlt]
        rw [List.getElem?_set_self (by rw [tmS_length]; exact hlt)]
      · rw [List.getElem?_eq_none (by simp [tmS_length]; omega), List.getElem?_eq_none (by rw [tmS_length]; omega)]
    · rw [List.getElem?_set_ne (Ne.symm htd)]
      by_cases hw : ∃ (j : Nat) (p : Oper) (e : Ent), all[j]? = some p ∧ es[j]? = some e ∧ p.dst = some t
      · obtain ⟨j, p, e', hj, hje, hdp⟩ := hw
        have hji : j ≠ i := fun h => by subst h; rw [hi] at hj; cases hj; rw [hod] at hdp; cases hdp; exact htd rfl
        have uniq : ∀ k d u, (dsts all es)[k]? = some (d, u) → d = some t → k = j := by
          intro k d u hk hdt
          obtain ⟨p', e', h1, _, h3, _⟩ := dsts_inv hk
          exact chk_one hc h1 hj (by rw [h3, hdt]) hdp
        have hdj := dsts_get hj hje
        rw [hdp] at hdj
        cases hS : S j with
        | true =>
          by_cases hlt : t < tm.length
          · rw [tmS_some _ 0 j tm hdj (by rw [Nat.zero_add]; exact hS) uniq hlt, tmS_some _ 0 j tm hdj (by rw [Nat.zero_add]; simp [hS]) uniq hlt]
          · rw [List.getElem?_eq_none (by rw [tmS_length]; omega), List.getElem?_eq_none (by rw [tmS_length]; omega)]
        | false =>
          rw [tmS_none _ 0 tm (fun k d v hk hsk hdt => ?_), tmS_none _ 0 tm (fun k d v hk hsk hdt => ?_)]
          · have := uniq k d v hk hdt; subst this; rw [Nat.zero_add] at hsk; simp [hS, hji] at hsk
          · have := uniq k d v hk hdt; subst this; rw [Nat.zero_add] at hsk; rw [hS] at hsk; cases hsk
      · rw [tmS_none _ 0 tm (fun k d v hk _ hdt => hw ?_), tmS_none _ 0 tm (fun k d v hk _ hdt => hw ?_)]
        all_goals
          obtain ⟨p, e, h1, h2, h3, _⟩ := dsts_inv hk
          exact ⟨k, p, e, h1, h2, by rw [h3, hdt]⟩

end
end Go.Ev
