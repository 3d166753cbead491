/- Regions that draw their order: the model's steps. -/
import Derived.Test.YteklahfgplbmcaaDoorEvDrawF
namespace Go.Ev
section
variable {P : Program} {E : Env P}

theorem st_regionD {fr : Frame} {cs : List Frame} {w : World} {k : List Item} {id : Nat} {ops : Array Oper} (hm : fr.mode = .run) (ht : fr.todo = .code (.region id ops true) :: k) :
    step P (lone fr cs w) = .next (lone { fr with todo := .inRegion ops (Region.schedule (P.follows .mixedOrders) ops (w.tape w.drawn (.order fr.fn id))) :: k } cs w.drew) :=
  step_lone_go (by simp [stepG, stepG.exec, hm, ht, choose, Sem.run, Question.forced, Question.cut])

/-- One operation of such a region. -/
theorem exec1_goes {a : AFrame} {st : List AFrame} {k : List AItem} {σ : Sig} {tm : List RV} {h h' : Tr AObj} {nx nx0 nx' : Nat} {bot : List Frame} {fr : Frame} {cs : List Frame} {w : World} {items : List Item} {ops : Array Oper} {i : Nat} {rest : List Nat} {o : Oper} {v : RV}
    (M : MRel E σ { cur := { a with tmps := tm, todo := k }, stack := st, heap := h, next := nx } bot { fr with todo := items } cs w) (hret : a.ret = false) (ht : fr.todo = .inRegion ops (i :: rest) :: items) (ho : ops[i]? = some o)
    (he : exec1 E E.cl ops.toList o tm h nx0 = some (v, h', nx')) :
    ∃ σ' fr' w', Steps P (lone fr cs w) (lone fr' cs w') ∧ fr'.todo = .inRegion ops rest :: items ∧ MRel E σ' { cur := { a with tmps := putO tm o.dst v, todo := k }, stack := st, heap := h', next := nx } bot { fr' with todo := items } cs w' ∧ Way σ h w σ' h' w' := by
  have hm : fr.mode = .run := by have := M.cur.mode; simp only [hret] at this; simpa using this
  have htm : denL σ tm = some fr.tmps.toList := M.cur.tmps
  have hw := wanted_eq htm ops o
  have hev : ∀ x v, ev E tm x = some v → den σ v = some (fr.eval x) := fun x v hx => by rw [fr_eval]; exact ev_ok E M.gl htm hx
  have behind : ∀ (σ' : Sig) (v : RV) (u : Value) (h1 : Tr AObj) (w1 : World), den σ' v = some u → Way σ h w σ' h1 w1 →
      (fr.finish u).todo = .inRegion ops rest :: items ∧ MRel E σ' { cur := { a with tmps := putO tm o.dst v, todo := k }, stack := st, heap := h1, next := nx } bot { fr.finish u with todo := items } cs w1 := by
    intro σ' v u h1 w1 hv hway
    rw [finish_op ht ho]
    have c := M.cur.mono hway.le
    obtain ⟨frs, hf1, hf2⟩ := M.stack
    exact ⟨rfl, ⟨c.fn, denL_putO (tmps := fr.tmps) c.tmps o.dst hv, c.todo, c.defers, c.mode, c.kind, c.round⟩, ⟨frs, hf1, all2_mono (fun _ _ r => r.mono hway.le) _ _ hf2⟩, hway.rel, M.gl.mono E hway.le⟩
  unfold exec1 at he
  cases hwa : wantedA ops.toList o tm with
  | false =>
    rw [hwa] at he
    simp only [Option.some.injEq, Prod.mk.injEq] at he
    obtain ⟨rfl, rfl, rfl⟩ := he
    obtain ⟨b1, b2⟩ := behind σ (.tuple []) undef h w rfl (Way.refl M.heap)
    exact ⟨σ, _, w, .one (st_opSkip hm ht (by simp [ho, hw, hwa])), b1, b2, Way.refl M.heap⟩
  | true =>
    rw [hwa] at he
    have hw' : Region.wanted o (yielded ops fr.tmps) = true := by rw [hw]; exact hwa
    simp only at he
    cases hop : aop E o tm h nx0 with
    | none => rw [hop] at he; cases he
    | some n =>
      rw [hop] at he
      have hok := aop_ok (P := P) (w := w) M.heap hev hop
      cases n with
      | val v1 h1 nx1 =>
        simp only [Option.some.injEq, Prod.mk.injEq] at he
        obtain ⟨rfl, rfl, rfl⟩ := he
        obtain ⟨σ', w', u, h2, h3, h4⟩ := hok
        have nd : ∀ c, o.op ≠ .defer c := by
          intro c hc
          simp only [execOp, hc, Sem.run_bind] at h2
          cases hrs : (resolve fr.eval c o.type).run P w <;> rw [hrs] at h2 <;> simp at h2
        obtain ⟨b1, b2⟩ := behind σ' v1 u h1 w' h3 h4
        exact ⟨σ', _, w', .one (step_lone_go (P := P) (cs := cs) (by rw [st_op hm ht ho hw' (.inr nd)]; exact apply_value h2)), b1, b2, h4⟩
      | skip h1 nx1 =>
        simp only [Option.some.injEq, Prod.mk.injEq] at he
        obtain ⟨rfl, rfl, rfl⟩ := he
        obtain ⟨σ', w', h2, h4⟩ := hok
        have nd : ∀ c, o.op ≠ .defer c := by
          intro c hc
          simp only [execOp, hc, Sem.run_bind] at h2
          cases hrs : (resolve fr.eval c o.type).run P w <;> rw [hrs] at h2 <;> simp at h2
        obtain ⟨b1, b2⟩ := behind σ' (.tuple []) undef h1 w' rfl h4
        exact ⟨σ', _, w', .one (step_lone_go (P := P) (cs := cs) (by rw [st_op hm ht ho hw' (.inr nd)]; exact apply_skip h2)), b1, b2, h4⟩
      | enter f args =>
        simp only at he
        obtain ⟨vs, h1, h2⟩ := hok
        have nd : ∀ c, o.op ≠ .defer c := by
          intro c hc
          simp only [execOp, hc, Sem.run_bind] at h1
          cases hrs : (resolve fr.eval c o.type).run P w <;> rw [hrs] at h1 <;> simp at h1
        have hstep := step_lone_go (P := P) (cs := cs) (by rw [st_op hm ht ho hw' (.inr nd)]; exact apply_enter (by rw [ht]; simp) h1)
        obtain ⟨e, w', fr2, ⟨σ', u, rfl, r2, r3⟩, hcomes, _, hleave⟩ := E.cl_ok he M.heap M.gl h2 (fr :: cs)
        obtain ⟨b1, b2⟩ := behind σ' v u h' w' r2 r3
        exact ⟨σ', _, w', (Steps.one hstep).trans (Steps.trans hcomes (.one (step_leave_returned hleave))), b1, b2, r3⟩
      | yield l args => cases he
      | defer f args cap => cases he

theorem tmS_ext {S S' : Nat → Bool} : ∀ (l : List (Option Nat × RV)) (i : Nat) (tm : List RV), (∀ j, i ≤ j → j < i + l.length → S j = S' j) → tmS S i l tm = tmS S' i l tm
  | [], _, _, _ => rfl
  | (d, v) :: l, i, tm, h => by
    simp only [tmS]
    rw [h i (Nat.le_refl _) (by simp)]
    exact tmS_ext l (i + 1) _ fun j h1 h2 => h j (by omega) (by simp; omega)

theorem dsts_length : ∀ {l : List Oper} {es : List Ent}, es.length = l.length → (dsts l es).length = l.length
  | [], [], _ => rfl
  | [], _ :: _, h => by simp at h
  | _ :: _, [], h => by simp at h
  | _ :: l, _ :: es, h => by simp [dsts, dsts_length (l := l) (es := es) (by simpa using h)]

theorem count_less {S : Nat → Bool} {i : Nat} : ∀ (l : List Nat), i ∈ l → S i = false → (l.countP fun j => !(S j || decide (j = i))) + 1 ≤ l.countP fun j => !S j := by
  have mono : ∀ l : List Nat, (l.countP fun j => !(S j || decide (j = i))) ≤ l.countP fun j => !S j := fun l => List.countP_mono_left fun j _ h => by
    simp only [Bool.not_or, Bool.and_eq_true] at h
    exact h.1
  intro l
  induction l with
  | nil => intro h; simp at h
  | cons a l ih =>
    intro h hs
    by_cases ha : a = i
    · subst ha
      have := mono l
      rw [List.countP_cons_of_neg (by simp), List.countP_cons_of_pos (by simp [hs])]
      omega
    · have hl : i ∈ l := by
        rcases List.mem_cons.1 h with h | h
        · exact absurd h.symm ha
        · exact h
      have := ih hl hs
      cases hsa : S a with
      | true => rw [List.countP_cons_of_neg (by simp [hsa]), List.countP_cons_of_neg (by simp [hsa])]; exact this
      | false => rw [List.countP_cons_of_pos (by simp [hsa, ha]), List.countP_cons_of_pos (by simp [hsa])]; omega

theorem mem_bnds {o : Oper} {e : Nat} : e ∈ bnds o ↔ ∃ g ∈ o.after.toList, Region.binds .any g = true ∧ g.on = e := by
  unfold bnds
  simp only [List.mem_map, List.mem_filter]
  exact ⟨fun ⟨g, ⟨h1, h2⟩, h3⟩ => ⟨g, h1, h2, h3⟩, fun ⟨g, h1, h2, h3⟩ => ⟨g, ⟨h1, h2⟩, h3⟩⟩

theorem bnds_lt {all : List Oper} {ms : List Nat} (hm : masks [] all = some ms) {i : Nat} {o : Oper} (hi : all[i]? = some o) : ∀ e ∈ bnds o, e < i := by
  obtain ⟨_, _, h3⟩ := masks_ok all [] hm
  obtain ⟨m, e1, e2⟩ := h3 i o hi
  intro e he
  have := maskOf_lt _ _ _ e2 e he
  simp at this
  omega

/-- In whatever order: 'Inv' says what the memory is, where those of S have been carried out. -/
theorem any_goes {a : AFrame} {st : List AFrame} {k : List AItem} {bot : List Frame} {cs : List Frame} {items : List Item} {ops : Array Oper} {ms : List Nat} {es : List Ent} {T0 : List RV} {hfin : Tr AObj} {nx : Nat}
    (hret : a.ret = false) (hm : masks [] ops.toList = some ms) (hc : chk ops.toList ms = true) (hes : es.length = ops.toList.length)
    (htx : ∀ i o, ops.toList[i]? = some o → ∃ e, es[i]? = some e ∧ e.tm = tmS (fun j => decide (j < i)) 0 (dsts ops.toList es) T0)
    (Inv : (Nat → Bool) → Tr AObj → Prop)
    (hInv : ∀ S h i o e, Inv S h → Closed ops.toList S → ops.toList[i]? = some o → es[i]? = some e → S i = false → (∀ b ∈ bnds o, S b = true) → ∃ h' nx', exec1 E E.cl ops.toList o e.tm h e.nx = some (e.v, h', nx') ∧ Inv (fun j => S j || decide (j = i)) h')
    (hEnd : ∀ S h, Inv S h → (∀ i, i < ops.size → S i = true) → h = hfin) :
    ∀ (fuel t : Nat) (listed : Array Bool) (S : Nat → Bool) (h : Tr AObj) (σ : Sig) (fr : Frame) (w : World),
      listed.size = ops.size → (∀ i, i < ops.size → listed[i]? = some (S i)) → Closed ops.toList S → Inv S h → ((List.range ops.size).countP fun j => !S j) ≤ fuel →
      MRel E σ { cur := { a with tmps := tmS S 0 (dsts ops.toList es) T0, todo := k }, stack := st, heap := h, next := nx } bot { fr with todo := items } cs w →
      fr.todo = .inRegion ops (Region.linearise.go .any ops fuel t listed []) :: items →
      ∃ σ' fr' w', Steps P (lone fr cs w) (lone fr' cs w') ∧ fr'.todo = .inRegion ops [] :: items ∧
        MRel E σ' { cur := { a with tmps := tmS (fun _ => true) 0 (dsts ops.toList es) T0, todo := k }, stack := st, heap := hfin, next := nx } bot { fr' with todo := items } cs w' ∧ Way σ h w σ' hfin w' := by
  have finish : ∀ (S : Nat → Bool) (h : Tr AObj) (σ : Sig) (fr : Frame) (w : World), (∀ i, i < ops.size → S i = true) → Inv S h →
      MRel E σ { cur := { a with tmps := tmS S 0 (dsts ops.toList es) T0, todo := k }, stack := st, heap := h, next := nx } bot { fr with todo := items } cs w → fr.todo = .inRegion ops [] :: items →
      ∃ σ' fr' w', Steps P (lone fr cs w) (lone fr' cs w') ∧ fr'.todo = .inRegion ops [] :: items ∧
        MRel E σ' { cur := { a with tmps := tmS (fun _ => true) 0 (dsts ops.toList es) T0, todo := k }, stack := st, heap := hfin, next := nx } bot { fr' with todo := items } cs w' ∧ Way σ h w σ' hfin w' := by
    intro S h σ fr w hall hinv M ht
    have hh := hEnd S h hinv hall
    subst hh
    have hS : tmS S 0 (dsts ops.toList es) T0 = tmS (fun _ => true) 0 (dsts ops.toList es) T0 := tmS_ext _ 0 _ fun j _ hj => hall j (by rw [dsts_length hes] at hj; simpa using hj)
    rw [hS] at M
    exact ⟨σ, fr, w, Steps.refl _ _, ht, M, Way.refl M.heap⟩
  intro fuel
  induction fuel with
  | zero =>
    intro t listed S h σ fr w _ hl _ hinv hcnt M ht
    simp only [Region.linearise.go, List.reverse_nil] at ht
    refine finish S h σ fr w (fun i hi => ?_) hinv M ht
    have h0 : ((List.range ops.size).countP fun j => !S j) = 0 := by omega
    rw [List.countP_eq_zero] at h0
    have := h0 i (List.mem_range.2 hi)
    simpa using this
  | succ fuel ih =>
    intro t listed S h σ fr w hls hl hcl hinv hcnt M ht
    have hgetD : ∀ i, i < ops.size → ∀ d, listed.getD i d = S i := by
      intro i hi d
      rw [Array.getD_eq_getD_getElem?, hl i hi]
      rfl
    simp only [Region.linearise.go] at ht
    cases hi : (Region.ready .any ops listed)[t % (Region.ready .any ops listed).length]? with
    | none =>
      have ht' : fr.todo = .inRegion ops [] :: items := by
        unfold Region.ready at hi
        rw [hi] at ht
        exact ht
      have hnil : Region.ready .any ops listed = [] := by
        cases hr : Region.ready .any ops listed with
        | nil => rfl
        | cons x xs =>
          rw [hr] at hi
          have hlt : t % (x :: xs).length < (x :: xs).length := Nat.mod_lt _ (by simp)
          simp at hi
          simp at hlt
          omega
      refine finish S h σ fr w ?_ hinv M ht'
      intro i
      induction i using Nat.strongRecOn with
      | _ i ihi =>
        intro hlt
        cases hs : S i with
        | true => rfl
        | false =>
          exfalso
          have hoi : ops[i]? = some ops[i] := by simp [hlt]
          have hol : ops.toList[i]? = some ops[i] := by rw [Array.getElem?_toList]; exact hoi
          have hmem : i ∈ Region.ready .any ops listed := by
            unfold Region.ready
            rw [List.mem_filter]
            refine ⟨List.mem_range.2 hlt, ?_⟩
            rw [hgetD i hlt, hs, hoi]
            simp only [Bool.not_false, Bool.true_and, Option.map_some, Option.getD_some]
            rw [Array.all_eq_true_iff_forall_mem]
            intro g hg
            cases hb : Region.binds .any g with
            | false => rfl
            | true =>
              have hin : g.on ∈ bnds ops[i] := mem_bnds.2 ⟨g, Array.mem_toList_iff.2 hg, hb, rfl⟩
              have hlt' := bnds_lt hm hol _ hin
              rw [hgetD _ (by omega), ihi _ hlt' (by omega)]
              rfl
          rw [hnil] at hmem
          simp at hmem
    | some i =>
      have hrd := List.mem_of_getElem? hi
      have ht' : fr.todo = .inRegion ops (i :: Region.linearise.go .any ops fuel (t / (Region.ready .any ops listed).length) (listed.setIfInBounds i true) []) :: items := by
        unfold Region.ready at hi ⊢
        rw [hi] at ht
        simp only at ht
        rw [linearise_go_acc] at ht
        exact ht
      unfold Region.ready at hrd
      rw [List.mem_filter] at hrd
      obtain ⟨hr1, hr2⟩ := hrd
      have hlt : i < ops.size := List.mem_range.1 hr1
      have hoi : ops[i]? = some ops[i] := by simp [hlt]
      have hol : ops.toList[i]? = some ops[i] := by rw [Array.getElem?_toList]; exact hoi
      rw [hgetD i hlt, hoi] at hr2
      simp only [Option.map_some, Option.getD_some, Bool.and_eq_true, Bool.not_eq_true'] at hr2
      obtain ⟨hSi, hedges⟩ := hr2
      have hbn : ∀ e ∈ bnds ops[i], S e = true := by
        intro e he
        obtain ⟨g, hg, hb, rfl⟩ := mem_bnds.1 he
        have h1 := (Array.all_eq_true_iff_forall_mem.1 hedges) g (Array.mem_toList_iff.1 hg)
        rw [hb] at h1
        have hlt' := bnds_lt hm hol _ he
        rw [hgetD _ (by omega)] at h1
        simpa using h1
      obtain ⟨e, he1, he2⟩ := htx i _ hol
      have hag := agree (es := es) hm hc hcl hol hSi hbn T0
      obtain ⟨h', nx', x1, x2⟩ := hInv S h i _ e hinv hcl hol he1 hSi hbn
      rw [he2, ← exec1_congr (E := E) hag] at x1
      obtain ⟨σ1, fr1, w1, s1, s2, s3, s4⟩ := exec1_goes M hret ht' hoi x1
      rw [tmS_put hc hol he1 hSi] at s3
      obtain ⟨σ2, fr2, w2, y1, y2, y3, y4⟩ := ih (t / (Region.ready .any ops listed).length) (listed.setIfInBounds i true) (fun j => S j || decide (j = i)) h' σ1 fr1 w1 (by simpa using hls)
        (fun j hj => by
          by_cases hji : j = i
          · subst hji
            rw [Array.getElem?_setIfInBounds_self_of_lt (by omega)]
            simp
          · rw [Array.getElem?_setIfInBounds_ne (fun h => hji h.symm), hl j hj]
            simp [hji])
        (fun k o hk hks e he => by
          by_cases hki : k = i
          · subst hki
            rw [hol] at hk
            cases hk
            simp [hbn e he]
          · have : S k = true := by simpa [hki] using hks
            simp [hcl k o hk this e he])
        x2 (by have := count_less (S := S) (List.range ops.size) (List.mem_range.2 hlt) hSi; omega) s3 s2
      exact ⟨σ2, fr2, w2, s1.trans y1, y2, y3, s4.trans y4⟩

section inv
variable {all : List Oper} {ms : List Nat} {es : List Ent} {hfin : Tr AObj}

def InvD (E : Env P) (all : List Oper) (ms : List Nat) (es : List Ent) (hfin : Tr AObj) (S : Nat → Bool) (h : Tr AObj) : Prop :=
  ∃ done n, (∀ i o, all[i]? = some o → done.testBit i = (S i && isW o)) ∧ dfs E E.cl all ms (zip3 all es 0) hfin n done h = true

theorem invD_end {S : Nat → Bool} {h : Tr AObj} (hi : InvD E all ms es hfin S h) (hall : ∀ i, i < all.length → S i = true) : h = hfin := by
  obtain ⟨done, n, hdone, hdfs⟩ := hi
  cases n with
  | zero => cases hdfs
  | succ n =>
    unfold dfs at hdfs
    rw [Bool.and_eq_true] at hdfs
    have h3 := hdfs.2
    have hw : ((zip3 all es 0).all fun (o', w, _) => !(isW o') || done.testBit w) = true := by
      rw [List.all_eq_true]
      rintro ⟨o', w', e'⟩ hmem
      obtain ⟨_, g1, _⟩ := zip3_get hmem
      rw [Nat.sub_zero] at g1
      have hlt : w' < all.length := (List.getElem?_eq_some_iff.1 g1).1
      show (!(isW o') || done.testBit w') = true
      rw [hdone w' o' g1, hall w' hlt, Bool.true_and]
      cases isW o' <;> rfl
    rw [hw] at h3
    exact beqH_ok _ _ h3

theorem getm {k : Nat} {o : Oper} (hm : masks [] all = some ms) (hk : all[k]? = some o) : ms[k]? = some (ms.getD k 0) := by
  have hml := (masks_ok all [] hm).1
  simp only [List.length_nil, Nat.zero_add] at hml
  have : k < ms.length := by rw [hml]; exact (List.getElem?_eq_some_iff.1 hk).1
  simp [List.getD, this]

theorem invD_step (hm : masks [] all = some ms) (htx : ∀ (i : Nat) (o : Oper), all[i]? = some o → ∃ (e : Ent) (h1 : Tr AObj) (nx1 : Nat), es[i]? = some e ∧ exec1 E E.cl all o e.tm e.h e.nx = some (e.v, h1, nx1))
    {S : Nat → Bool} {h : Tr AObj} {i : Nat} {o : Oper} {e : Ent} (hi : InvD E all ms es hfin S h) (hcl : Closed all S) (hol : all[i]? = some o) (he1 : es[i]? = some e) (hSi : S i = false) (hbn : ∀ b ∈ bnds o, S b = true) :
    ∃ h' nx', exec1 E E.cl all o e.tm h e.nx = some (e.v, h', nx') ∧ InvD E all ms es hfin (fun j => S j || decide (j = i)) h' := by
  obtain ⟨done, n, hdone, hdfs⟩ := hi
  obtain ⟨e', h1, nx1, he1', he3⟩ := htx i o hol
  rw [he1] at he1'
  cases he1'
  have hz := zip3_mem (i0 := 0) hol he1
  rw [Nat.zero_add] at hz
  cases n with
  | zero => cases hdfs
  | succ n =>
    have hdfs0 := hdfs
    unfold dfs at hdfs
    rw [Bool.and_eq_true, Bool.and_eq_true] at hdfs
    obtain ⟨⟨dR, dW⟩, _⟩ := hdfs
    have preds : ((zip3 all es 0).all fun (o', w, _) => !(isW o') || !((ms.getD i 0).testBit w) || done.testBit w) = true := by
      rw [List.all_eq_true]
      rintro ⟨o', w', e'⟩ hmem
      obtain ⟨_, g1, _⟩ := zip3_get hmem
      rw [Nat.sub_zero] at g1
      show (!(isW o') || !((ms.getD i 0).testBit w') || done.testBit w') = true
      cases hb : (ms.getD i 0).testBit w' with
      | false => simp
      | true =>
        have := closed_mask hm hcl i i (Nat.le_refl _) _ _ hol (getm hm hol) hbn w' hb
        simp only [hdone w' o' g1, this, Bool.true_and]
        cases isW o' <;> rfl
    have keep : isW o = false → ∀ j o', all[j]? = some o' → done.testBit j = ((S j || decide (j = i)) && isW o') := by
      intro hw j o' hj
      rw [hdone j o' hj]
      by_cases hji : j = i
      · subst hji
        rw [hol] at hj
        cases hj
        simp [hw]
      · simp [hji]
    cases hP : isP o with
    | true => exact ⟨h, e.nx, exec1_P hP he3 h e.nx, done, n + 1, keep (by simp [isW, hP]), hdfs0⟩
    | false =>
      cases hR : isR o with
      | true =>
        have hd := List.all_eq_true.1 dR _ hz
        simp only [hR] at hd
        have hcond : ((zip3 all es 0).all fun (o', w, _) => (!(isW o') || !((ms.getD i 0).testBit w) || done.testBit w) && !(done.testBit w && (ms.getD w 0).testBit i)) = true := by
          rw [List.all_eq_true]
          rintro ⟨o', w', e'⟩ hmem
          have hp := List.all_eq_true.1 preds _ hmem
          simp only at hp
          obtain ⟨_, g1, _⟩ := zip3_get hmem
          rw [Nat.sub_zero] at g1
          simp only [hp, Bool.true_and]
          cases hdw : done.testBit w' with
          | false => simp
          | true =>
            rw [hdone w' o' g1] at hdw
            simp only [Bool.and_eq_true] at hdw
            cases hb : (ms.getD w' 0).testBit i with
            | false => simp
            | true =>
              have := closed_mask hm hcl w' w' (Nat.le_refl _) _ _ g1 (getm hm g1) (hcl w' o' g1 hdw.1) i hb
              rw [hSi] at this; cases this
        rw [hcond] at hd
        simp only at hd
        cases hx : exec1 E E.cl all o e.tm h e.nx with
        | none => rw [hx] at hd; cases hd
        | some r =>
          obtain ⟨v, h', nx'⟩ := r
          rw [hx] at hd
          simp only at hd
          have hv := beqV_ok _ _ hd
          have hh := exec1_R hR hx
          subst hv
          subst hh
          exact ⟨_, nx', rfl, done, n + 1, keep (by simp [isW, hP, hR]), hdfs0⟩
      | false =>
        have hWi : isW o = true := by simp [isW, hP, hR]
        have hd := List.all_eq_true.1 dW _ hz
        have hdi : done.testBit i = false := by rw [hdone i _ hol, hSi]; rfl
        simp only [hWi, hdi, preds] at hd
        cases hx : exec1 E E.cl all o e.tm h e.nx with
        | none => rw [hx] at hd; cases hd
        | some r =>
          obtain ⟨v, h', nx'⟩ := r
          rw [hx] at hd
          simp only [Bool.and_eq_true] at hd
          have hv := beqV_ok _ _ hd.1
          subst hv
          refine ⟨h', nx', rfl, done ||| 2 ^ i, n, fun j o' hj => ?_, hd.2⟩
          rw [Nat.testBit_or, hdone j o' hj, Nat.testBit_two_pow]
          by_cases hji : j = i
          · subst hji
            rw [hol] at hj
            cases hj
            simp [hWi]
          · have : ¬ i = j := fun h => hji h.symm
            simp [hji, this]

theorem heapAt_eq (es : List Ent) (hfin : Tr AObj) (q : Nat) : heapAt es hfin q = match es[q]? with | some e => e.h | none => hfin := by
  unfold heapAt
  rw [nth_eq]
  cases es[q]? <;> rfl

def InvS (all : List Oper) (es : List Ent) (hfin : Tr AObj) (S : Nat → Bool) (h : Tr AObj) : Prop :=
  ∀ q, q ≤ all.length → (∀ j o, all[j]? = some o → isW o = true → (S j = true ↔ j < q)) → h = heapAt es hfin q

theorem strict_ok (h : strict all ms = true) {i j : Nat} {o p : Oper} (hi : all[i]? = some o) (hj : all[j]? = some p) (hij : i < j) (h1 : isP o = false) (h2 : isP p = false) (h3 : isR o = false ∨ isR p = false) : (ms.getD j 0).testBit i = true := by
  unfold strict at h
  have h4 := List.all_eq_true.1 (List.all_eq_true.1 h _ (zip_mem hi)) _ (zip_mem hj)
  have hb : Nat.blt i j = true := Nat.ble_eq_true_of_le hij
  simp only [hb, h1, h2] at h4
  rcases h3 with h3 | h3 <;> simpa [h3] using h4

theorem isW_P {o : Oper} (h : isW o = true) : isP o = false ∧ isR o = false := by
  unfold isW at h
  split at h
  · rename_i h1 h2; exact ⟨h1, h2⟩
  · cases h

theorem heapAt_next (hes : es.length = all.length) (htx : ∀ (i : Nat) (o : Oper), all[i]? = some o → ∃ (e : Ent) (h1 : Tr AObj) (nx1 : Nat), es[i]? = some e ∧ exec1 E E.cl all o e.tm e.h e.nx = some (e.v, h1, nx1) ∧ (∀ e', es[i + 1]? = some e' → e'.h = h1) ∧ (i + 1 = all.length → h1 = hfin))
    {i : Nat} {o : Oper} {e : Ent} {h1 : Tr AObj} {nx1 : Nat} (hi : all[i]? = some o) (he : es[i]? = some e) (hx : exec1 E E.cl all o e.tm e.h e.nx = some (e.v, h1, nx1)) : heapAt es hfin (i + 1) = h1 := by
  obtain ⟨e', h1', nx1', g1, g2, g3, g4⟩ := htx i o hi
  rw [he] at g1
  cases g1
  rw [hx] at g2
  simp only [Option.some.injEq, Prod.mk.injEq] at g2
  obtain ⟨_, rfl, _⟩ := g2
  rw [heapAt_eq]
  split
  · rename_i e' he'; exact g3 e' he'
  · rename_i hn
    have : es.length ≤ i + 1 := by simpa using hn
    have hlt := (List.getElem?_eq_some_iff.1 hi).1
    exact (g4 (by omega)).symm

theorem heapAt_quiet (hes : es.length = all.length) (htx : ∀ (i : Nat) (o : Oper), all[i]? = some o → ∃ (e : Ent) (h1 : Tr AObj) (nx1 : Nat), es[i]? = some e ∧ exec1 E E.cl all o e.tm e.h e.nx = some (e.v, h1, nx1) ∧ (∀ e', es[i + 1]? = some e' → e'.h = h1) ∧ (i + 1 = all.length → h1 = hfin)) (a : Nat) :
    ∀ d, a + d ≤ all.length → (∀ j o, a ≤ j → j < a + d → all[j]? = some o → isW o = false) → heapAt es hfin (a + d) = heapAt es hfin a
  | 0, _, _ => rfl
  | d + 1, hl, hq => by
    have ih := heapAt_quiet hes htx a d (by omega) (fun j o h1 h2 => hq j o h1 (by omega))
    have hlt : a + d < all.length := by omega
    have ho : all[a + d]? = some all[a + d] := by simp [hlt]
    obtain ⟨e, h1, nx1, g1, g2, _⟩ := htx _ _ ho
    have hn := heapAt_next (hfin := hfin) hes htx ho g1 g2
    have hw := hq _ _ (by omega) (by omega) ho
    have hh : h1 = e.h := by
      unfold isW at hw
      cases hP : isP all[a + d] with
      | true => have := exec1_P hP g2 e.h e.nx; rw [g2] at this; simp only [Option.some.injEq, Prod.mk.injEq] at this; exact this.2.1
      | false =>
        cases hR : isR all[a + d] with
        | true => exact exec1_R hR g2
        | false => rw [hP, hR] at hw; cases hw
    rw [show a + (d + 1) = a + d + 1 by omega, hn, hh, ← ih]
    rw [heapAt_eq]
    rw [g1]

theorem invS_step (hm : masks [] all = some ms) (hst : strict all ms = true) (hes : es.length = all.length)
    (htx : ∀ (i : Nat) (o : Oper), all[i]? = some o → ∃ (e : Ent) (h1 : Tr AObj) (nx1 : Nat), es[i]? = some e ∧ exec1 E E.cl all o e.tm e.h e.nx = some (e.v, h1, nx1) ∧ (∀ e', es[i + 1]? = some e' → e'.h = h1) ∧ (i + 1 = all.length → h1 = hfin))
    {S : Nat → Bool} {h : Tr AObj} {i : Nat} {o : Oper} {e : Ent} (hi : InvS all es hfin S h) (hcl : Closed all S) (hol : all[i]? = some o) (he1 : es[i]? = some e) (hSi : S i = false) (hbn : ∀ b ∈ bnds o, S b = true) :
    ∃ h' nx', exec1 E E.cl all o e.tm h e.nx = some (e.v, h', nx') ∧ InvS all es hfin (fun j => S j || decide (j = i)) h' := by
  obtain ⟨e', h1, nx1, he1', he3, he4, he5⟩ := htx i o hol
  rw [he1] at he1'
  cases he1'
  have hlt := (List.getElem?_eq_some_iff.1 hol).1
  have same : isW o = false → ∀ {h}, InvS all es hfin S h → InvS all es hfin (fun j => S j || decide (j = i)) h := by
    intro hw h hi q hq hc
    refine hi q hq (fun j o' hj hwj => ?_)
    have hji : j ≠ i := fun e => by subst e; rw [hol] at hj; cases hj; rw [hw] at hwj; cases hwj
    have := hc j o' hj hwj
    simpa [hji] using this
  cases hP : isP o with
  | true => exact ⟨h, e.nx, exec1_P hP he3 h e.nx, same (by simp [isW, hP]) hi⟩
  | false =>
    have here : (∀ j p, all[j]? = some p → isW p = true → j ≠ i → (S j = true ↔ j < i)) := by
      intro j p hj hwj hji
      obtain ⟨p1, p2⟩ := isW_P hwj
      rcases Nat.lt_or_gt_of_ne hji with hlt' | hgt
      · have hb := strict_ok hst hj hol hlt' p1 hP (.inl p2)
        have := closed_mask hm hcl i i (Nat.le_refl _) _ _ hol (getm hm hol) hbn j hb
        simp [this, hlt']
      · have hb := strict_ok hst hol hj hgt hP p1 (.inr p2)
        have : S j = false := by
          cases hs : S j with
          | false => rfl
          | true =>
            have := closed_mask hm hcl j j (Nat.le_refl _) _ _ hj (getm hm hj) (hcl j p hj hs) i hb
            rw [hSi] at this; cases this
        simp [this]; omega
    have hh : h = e.h := by
      have := hi i (by omega) (fun j p hj hwj => by
        by_cases hji : j = i
        · subst hji; simp [hSi]
        · exact here j p hj hwj hji)
      rw [this]
      rw [heapAt_eq]
      rw [he1]
    subst hh
    cases hR : isR o with
    | true => exact ⟨h1, nx1, he3, by rw [exec1_R hR he3]; exact same (by simp [isW, hP, hR]) hi⟩
    | false =>
      have hW : isW o = true := by simp [isW, hP, hR]
      refine ⟨h1, nx1, he3, fun q hq hc => ?_⟩
      have hiq : i < q := (hc i o hol hW).1 (by simp)
      have hn := heapAt_next (hfin := hfin) hes htx hol he1 he3
      have hqq := heapAt_quiet (hfin := hfin) hes htx (i + 1) (q - (i + 1)) (by omega) (fun j p h1 h2 hj => by
        cases hwj : isW p with
        | false => rfl
        | true =>
          have a1 := (hc j p hj hwj).2 (by omega)
          have hji : j ≠ i := by omega
          have a2 : S j = true := by simpa [hji] using a1
          have := (here j p hj hwj hji).1 a2
          omega)
      rw [show i + 1 + (q - (i + 1)) = q by omega] at hqq
      rw [hqq, hn]

theorem strictW_ok (h : strictW all ms = true) {i j : Nat} {o p : Oper} (hi : all[i]? = some o) (hj : all[j]? = some p) (hij : i < j) (h1 : isW o = true) (h2 : isW p = true) : (ms.getD j 0).testBit i = true := by
  unfold strictW at h
  have h4 := List.all_eq_true.1 (List.all_eq_true.1 h _ (zip_mem hi)) _ (zip_mem hj)
  have hb : Nat.blt i j = true := Nat.ble_eq_true_of_le hij
  simpa [hb, h1, h2] using h4

theorem isR_P {o : Oper} (hR : isR o = true) : isW o = false := by
  unfold isW
  rw [hR]
  cases isP o <;> rfl

/-- Those that have turned memory are the first ones. -/
theorem cut (hm : masks [] all = some ms) (hst : strictW all ms = true) {S : Nat → Bool} (hcl : Closed all S) :
    ∃ q, q ≤ all.length ∧ ∀ j o, all[j]? = some o → isW o = true → (S j = true ↔ j < q) := by
  have main : ∀ n, (∃ q, q ≤ n ∧ ∃ o, all[q]? = some o ∧ isW o = true ∧ S q = false ∧ ∀ j o, j < q → all[j]? = some o → isW o = true → S j = true) ∨ (∀ j o, j < n → all[j]? = some o → isW o = true → S j = true) := by
    intro n
    induction n with
    | zero => exact .inr (fun j o h => by omega)
    | succ n ih =>
      rcases ih with ⟨q, hq, r⟩ | hall
      · exact .inl ⟨q, by omega, r⟩
      · by_cases hx : ∃ o, all[n]? = some o ∧ isW o = true ∧ S n = false
        · obtain ⟨o, h1, h2, h3⟩ := hx
          exact .inl ⟨n, by omega, o, h1, h2, h3, hall⟩
        · refine .inr (fun j o hj ho hw => ?_)
          by_cases hjn : j = n
          · subst hjn
            cases hs : S j with
            | true => rfl
            | false => exact absurd ⟨o, ho, hw, hs⟩ hx
          · exact hall j o (by omega) ho hw
  rcases main all.length with ⟨q, hq, o, h1, h2, h3, h4⟩ | hall
  · refine ⟨q, hq, fun j p hj hwj => ⟨fun hs => ?_, fun hlt => h4 j p hlt hj hwj⟩⟩
    rcases Nat.lt_or_ge j q with hlt | hge
    · exact hlt
    · exfalso
      have hne : j ≠ q := fun e => by subst e; rw [h3] at hs; cases hs
      have hb := strictW_ok hst h1 hj (by omega) h2 hwj
      have := closed_mask hm hcl j j (Nat.le_refl _) _ _ hj (getm hm hj) (hcl j p hj hs) q hb
      rw [h3] at this; cases this
  · refine ⟨all.length, Nat.le_refl _, fun j p hj hwj => ⟨fun _ => (List.getElem?_eq_some_iff.1 hj).1, fun hlt => hall j p hlt hj hwj⟩⟩

theorem invQ_step (hm : masks [] all = some ms) (hst : strictW all ms = true) (hqr : quietR E E.cl all ms es hfin = true) (hes : es.length = all.length)
    (htx : ∀ (i : Nat) (o : Oper), all[i]? = some o → ∃ (e : Ent) (h1 : Tr AObj) (nx1 : Nat), es[i]? = some e ∧ exec1 E E.cl all o e.tm e.h e.nx = some (e.v, h1, nx1) ∧ (∀ e', es[i + 1]? = some e' → e'.h = h1) ∧ (i + 1 = all.length → h1 = hfin))
    {S : Nat → Bool} {h : Tr AObj} {i : Nat} {o : Oper} {e : Ent} (hi : InvS all es hfin S h) (hcl : Closed all S) (hol : all[i]? = some o) (he1 : es[i]? = some e) (hSi : S i = false) (hbn : ∀ b ∈ bnds o, S b = true) :
    ∃ h' nx', exec1 E E.cl all o e.tm h e.nx = some (e.v, h', nx') ∧ InvS all es hfin (fun j => S j || decide (j = i)) h' := by
  obtain ⟨e', h1, nx1, he1', he3, he4, he5⟩ := htx i o hol
  rw [he1] at he1'
  cases he1'
  have hlt := (List.getElem?_eq_some_iff.1 hol).1
  have same : isW o = false → ∀ {h}, InvS all es hfin S h → InvS all es hfin (fun j => S j || decide (j = i)) h := by
    intro hw h hi q hq hc
    refine hi q hq (fun j o' hj hwj => ?_)
    have hji : j ≠ i := fun e => by subst e; rw [hol] at hj; cases hj; rw [hw] at hwj; cases hwj
    have := hc j o' hj hwj
    simpa [hji] using this
  cases hP : isP o with
  | true => exact ⟨h, e.nx, exec1_P hP he3 h e.nx, same (by simp [isW, hP]) hi⟩
  | false =>
    cases hR : isR o with
    | true =>
      obtain ⟨q, hq, hc⟩ := cut hm hst hcl
      have hh := hi q hq hc
      have hz := zip3_mem (i0 := 0) hol he1
      rw [Nat.zero_add] at hz
      unfold quietR at hqr
      have h2 := List.all_eq_true.1 hqr _ hz
      simp only [hR, Bool.not_true, Bool.false_or] at h2
      have h3 := List.all_eq_true.1 h2 q (List.mem_range.2 (by omega))
      have hmay : mayAt all ms i q = true := by
        unfold mayAt
        rw [List.all_eq_true]
        rintro ⟨p, j⟩ hmem
        have hj : all[j]? = some p := by
          have := List.mem_zipIdx_iff_getElem?.1 hmem
          simpa using this
        show (!(isW p) || ((!((ms.getD i 0).testBit j) || Nat.blt j q) && (!((ms.getD j 0).testBit i) || !(Nat.blt j q)))) = true
        cases hwj : isW p with
        | false => rfl
        | true =>
          have hcj := hc j p hj hwj
          simp only [Bool.not_true, Bool.false_or, Bool.and_eq_true]
          refine ⟨?_, ?_⟩
          · cases hb : (ms.getD i 0).testBit j with
            | false => rfl
            | true =>
              have := closed_mask hm hcl i i (Nat.le_refl _) _ _ hol (getm hm hol) hbn j hb
              have := hcj.1 this
              exact (Nat.ble_eq_true_of_le this : Nat.blt j q = true)
          · cases hb : (ms.getD j 0).testBit i with
            | false => rfl
            | true =>
              cases hlt2 : Nat.blt j q with
              | false => rfl
              | true =>
                have hs := hcj.2 (Nat.le_of_ble_eq_true hlt2)
                have := closed_mask hm hcl j j (Nat.le_refl _) _ _ hj (getm hm hj) (hcl j p hj hs) i hb
                rw [hSi] at this; cases this
      rw [hmay] at h3
      simp only [Bool.not_true, Bool.false_or] at h3
      rw [← hh] at h3
      split at h3
      · rename_i v h4 nx4 hx4
        rw [beqV_ok _ _ h3] at hx4
        exact ⟨h4, nx4, hx4, by rw [exec1_R hR hx4]; exact same (isR_P hR) hi⟩
      · cases h3
    | false =>
      have hW : isW o = true := by simp [isW, hP, hR]
      have here : (∀ j p, all[j]? = some p → isW p = true → j ≠ i → (S j = true ↔ j < i)) := by
        intro j p hj hwj hji
        rcases Nat.lt_or_gt_of_ne hji with hlt' | hgt
        · have hb := strictW_ok hst hj hol hlt' hwj hW
          have := closed_mask hm hcl i i (Nat.le_refl _) _ _ hol (getm hm hol) hbn j hb
          simp [this, hlt']
        · have hb := strictW_ok hst hol hj hgt hW hwj
          have : S j = false := by
            cases hs : S j with
            | false => rfl
            | true =>
              have := closed_mask hm hcl j j (Nat.le_refl _) _ _ hj (getm hm hj) (hcl j p hj hs) i hb
              rw [hSi] at this; cases this
          simp [this]; omega
      have hh : h = e.h := by
        have := hi i (by omega) (fun j p hj hwj => by
          by_cases hji : j = i
          · subst hji; simp [hSi]
          · exact here j p hj hwj hji)
        rw [this]
        rw [heapAt_eq]
        rw [he1]
      subst hh
      refine ⟨h1, nx1, he3, fun q hq hc => ?_⟩
      have hiq : i < q := (hc i o hol hW).1 (by simp)
      have hn := heapAt_next (hfin := hfin) hes htx hol he1 he3
      have hqq := heapAt_quiet (hfin := hfin) hes htx (i + 1) (q - (i + 1)) (by omega) (fun j p h1 h2 hj => by
        cases hwj : isW p with
        | false => rfl
        | true =>
          have a1 := (hc j p hj hwj).2 (by omega)
          have hji : j ≠ i := by omega
          have a2 : S j = true := by simpa [hji] using a1
          have := (here j p hj hwj hji).1 a2
          omega)
      rw [show i + 1 + (q - (i + 1)) = q by omega] at hqq
      rw [hqq, hn]

def InvP (E : Env P) (all : List Oper) (ms : List Nat) (es : List Ent) (h0 : Tr AObj) (S : Nat → Bool) (h : Tr AObj) : Prop :=
  hAt E E.cl all (maskS S (wItemsF all ms all es 0)) (wItemsF all ms all es 0) h0 = some h

theorem maskS_congr {f g : Nat → Bool} : ∀ {ws : List QW}, (∀ q ∈ ws, f q.i = g q.i) → maskS f ws = maskS g ws
  | [], _ => rfl
  | q :: ws, h => by
    simp only [maskS]
    rw [h q (by simp), maskS_congr (ws := ws) fun x hx => h x (by simp [hx])]

theorem invP_step (hm : masks [] all = some ms) (hes : es.length = all.length) (htx : ∀ (i : Nat) (o : Oper), all[i]? = some o → ∃ (e : Ent) (h1 : Tr AObj) (nx1 : Nat), es[i]? = some e ∧ exec1 E E.cl all o e.tm e.h e.nx = some (e.v, h1, nx1)) {h0 : Tr AObj}
    (hdp : allL (dpAt E E.cl all (rItems all ms all es 0) (wItemsF all ms all es 0) h0) (subsets (wItemsF all ms all es 0)) = true)
    {S : Nat → Bool} {h : Tr AObj} {i : Nat} {o : Oper} {e : Ent} (hi : InvP E all ms es h0 S h) (hcl : Closed all S) (hol : all[i]? = some o) (he1 : es[i]? = some e) (hSi : S i = false) (hbn : ∀ b ∈ bnds o, S b = true) :
    ∃ h' nx', exec1 E E.cl all o e.tm h e.nx = some (e.v, h', nx') ∧ InvP E all ms es h0 (fun j => S j || decide (j = i)) h' := by
  obtain ⟨e', hx1, nx1, he1', he3⟩ := htx i o hol
  rw [he1] at he1'
  cases he1'
  have hz := zip3_mem (i0 := 0) hol he1
  rw [Nat.zero_add] at hz
  have hpw : Pows (wItemsF all ms all es 0) := fun q hq => (wItemsF_inv hq).2.2.2
  have hup := wItemsF_ups (all := all) (ms := ms) all es 0
  have place : ∀ w p, all[w]? = some p → isW p = true → ∃ q ∈ wItemsF all ms all es 0, q.i = w := by
    intro w p hw hp
    have hlt := (List.getElem?_eq_some_iff.1 hw).1
    have he : es[w]? = some (es[w]'(by omega)) := by rw [List.getElem?_eq_getElem]
    have := zip3_mem (i0 := 0) hw he
    rw [Nat.zero_add] at this
    exact ⟨_, wItemsF_mem (all := all) (ms := ms) this hp, rfl⟩
  have at' : ∀ q ∈ wItemsF all ms all es 0, all[q.i]? = some q.o ∧ isW q.o = true := by
    intro q hq
    obtain ⟨h1, h2, _⟩ := wItemsF_inv hq
    obtain ⟨_, h3, _⟩ := zip3_get h1
    rw [Nat.sub_zero] at h3
    exact ⟨h3, h2⟩
  have bit := fun j => maskS_bit S hpw j
  have hasP : ∀ j oj, all[j]? = some oj → (∀ b ∈ bnds oj, S b = true) → has (pmOf all ms j) (maskS S (wItemsF all ms all es 0)) = true := by
    intro j oj hj hb
    refine has_ok fun w hw => ?_
    obtain ⟨_, p, hp, hf⟩ := maskFrom_bit all 0 w hw
    rw [Nat.sub_zero] at hp
    simp only [Bool.and_eq_true] at hf
    have hsw := closed_mask hm hcl j j (Nat.le_refl _) _ _ hj (getm hm hj) hb w hf.2
    obtain ⟨q, hq, hqi⟩ := place w p hp hf.1
    exact (bit w).2 ⟨q, hq, hqi, hsw⟩
  have hclo : closedM (maskS S (wItemsF all ms all es 0)) (wItemsF all ms all es 0) = true := by
    refine closedM_ok fun q hq hn => ?_
    have hqs := hpw q hq
    rw [hqs, no_bit] at hn
    have hb : (maskS S (wItemsF all ms all es 0)).testBit q.i = true := by simpa using hn
    obtain ⟨_, _, _, hs⟩ := (bit q.i).1 hb
    obtain ⟨hqo, _⟩ := at' q hq
    rw [(wItemsF_inv hq).2.2.1]
    exact hasP q.i q.o hqo (hcl q.i q.o hqo hs)
  have hat := allL_mem hdp _ (maskS_mem S _)
  unfold dpAt at hat
  rw [hclo] at hat
  simp only at hat
  unfold InvP at hi
  rw [hi] at hat
  simp only at hat
  split at hat <;> first | (cases hat; done) | skip
  rename_i hed
  have keep : isW o = false → InvP E all ms es h0 (fun j => S j || decide (j = i)) h := by
    intro hw
    unfold InvP
    rw [maskS_congr (g := S)]
    · exact hi
    · intro q hq
      have : q.i ≠ i := fun hqi => by
        obtain ⟨h1, h2⟩ := at' q hq
        rw [hqi, hol] at h1
        cases h1
        rw [hw] at h2; cases h2
      simp [this]
  cases hP : isP o with
  | true => exact ⟨h, e.nx, exec1_P hP he3 h e.nx, keep (by simp [isW, hP])⟩
  | false =>
    cases hR : isR o with
    | true =>
      have hq := allL_mem hat _ (rItems_mem (all := all) (ms := ms) hz hR)
      have c1 := hasP i o hol hbn
      have c2 : no (smOf all ms i) (maskS S (wItemsF all ms all es 0)) = true := by
        refine no_ok fun w hw => ?_
        obtain ⟨_, p, hp, hf⟩ := maskFrom_bit all 0 w hw
        rw [Nat.sub_zero] at hp
        simp only [Bool.and_eq_true] at hf
        cases hb : (maskS S (wItemsF all ms all es 0)).testBit w with
        | false => rfl
        | true =>
          obtain ⟨_, _, _, hs⟩ := (bit w).1 hb
          have := closed_mask hm hcl w w (Nat.le_refl _) _ _ hp (getm hm hp) (hcl w p hp hs) i hf.2
          rw [hSi] at this; cases this
      simp only [c1, c2] at hq
      split at hq <;> first | (cases hq; done) | skip
      rename_i v h' nx' hx
      have hv := beqV_ok _ _ hq
      have hh := exec1_R hR hx
      subst hv
      subst hh
      exact ⟨_, nx', hx, keep (by simp [isW, hP, hR])⟩
    | false =>
      have hWi : isW o = true := by simp [isW, hP, hR]
      have hmem := wItemsF_mem (all := all) (ms := ms) hz hWi
      have hnb : (maskS S (wItemsF all ms all es 0)).testBit i = false := by
        cases hb : (maskS S (wItemsF all ms all es 0)).testBit i with
        | false => rfl
        | true => obtain ⟨_, _, _, hs⟩ := (bit i).1 hb; rw [hSi] at hs; cases hs
      obtain ⟨h1, r1, r2⟩ := edges_ok E hup hpw hed hi _ hmem (by show no (2 ^ i) _ = true; rw [no_bit, hnb]; rfl) (hasP i o hol hbn)
      obtain ⟨nx', hx⟩ := runW_some E r1
      refine ⟨h1, nx', hx, ?_⟩
      unfold InvP
      have hmm : maskS (fun j => S j || decide (j = i)) (wItemsF all ms all es 0) = Nat.lor (maskS S (wItemsF all ms all es 0)) (2 ^ i) := by
        apply Nat.eq_of_testBit_eq
        intro j
        show _ = ((maskS S (wItemsF all ms all es 0)) ||| 2 ^ i).testBit j
        rw [Nat.testBit_or, Nat.testBit_two_pow, Bool.eq_iff_iff, Bool.or_eq_true, maskS_bit _ hpw j, bit j, decide_eq_true_eq]
        constructor
        · rintro ⟨q, hq, h1, h2⟩
          simp only [Bool.or_eq_true, decide_eq_true_eq] at h2
          rcases h2 with h2 | h2
          · exact .inl ⟨q, hq, h1, h2⟩
          · exact .inr h2.symm
        · rintro (⟨q, hq, h1, h2⟩ | h2)
          · exact ⟨q, hq, h1, by simp [h2]⟩
          · subst h2
            exact ⟨_, hmem, rfl, by simp⟩
      rw [hmm]
      exact r2

theorem invP_end {h0 H : Tr AObj} (hend : hAt E E.cl all (maskS (fun _ => true) (wItemsF all ms all es 0)) (wItemsF all ms all es 0) h0 = some H)
    {S : Nat → Bool} {h : Tr AObj} (hi : InvP E all ms es h0 S h) (hall : ∀ i, i < all.length → S i = true) : h = H := by
  unfold InvP at hi
  rw [maskS_congr (g := fun _ => true)] at hi
  · rw [hi] at hend
    exact Option.some.inj hend
  · intro q hq
    obtain ⟨_, h3, _⟩ := zip3_get (wItemsF_inv hq).1
    rw [Nat.sub_zero] at h3
    exact hall q.i (List.getElem?_eq_some_iff.1 h3).1

theorem invS_end (hes : es.length = all.length) {S : Nat → Bool} {h : Tr AObj} (hi : InvS all es hfin S h) (hall : ∀ i, i < all.length → S i = true) : h = hfin := by
  have := hi all.length (Nat.le_refl _) (fun j o hj _ => by
    have hlt := (List.getElem?_eq_some_iff.1 hj).1
    simp [hall j hlt, hlt])
  rw [this]
  rw [heapAt_eq]
  rw [List.getElem?_eq_none (by omega)]

end inv

theorem draw_ok {σ : Sig} {s s' : AM} {bot : List Frame} {fr : Frame} {cs : List Frame} {w : World} (m : MRel E σ s bot fr cs w) (hret : s.cur.ret = false) {id : Nat} {ops : Array Oper} {k : List AItem} {items : List Item} (ht : fr.todo = .code (.region id ops true) :: items) (hk : all2 (IRel σ) k items)
    (h : (match drawA E E.cl ops.toList s.cur.tmps s.heap s.next with
      | some (tm, h, nx) => some ({ cur := { s.cur with tmps := tm, todo := k }, stack := s.stack, heap := h, next := nx } : AM)
      | none => none) = some s') : Goes E σ s s' bot fr cs w := by
  have hmode := m.run hret
  split at h <;> first | (cases h; done) | skip
  rename_i tm h1 nx hd
  simp only [Option.some.injEq] at h
  subst h
  unfold drawA at hd
  split at hd <;> first | (cases hd; done) | skip
  rename_i ms hms
  split at hd <;> first | (cases hd; done) | skip
  rename_i es tm' h' nx' hchk htext
  obtain ⟨t1, t2, t4, _, t3⟩ := textA_ok ops.toList htext
  have hstep := st_regionD (P := P) (cs := cs) (w := w) hmode ht
  have hsch : ∀ t, Region.schedule (P.follows .mixedOrders) ops t = Region.linearise.go .any ops ops.size t (Array.replicate ops.size false) [] := fun t => by
    simp only [Region.schedule, E.mixed, Bool.true_or, if_true]
    rfl
  rw [hsch] at hstep
  have wd := Way.drew (w := w) m.heap
  have hsize : ops.toList.length = ops.size := by simp
  have key : ∀ (hf : Tr AObj) (Inv : (Nat → Bool) → Tr AObj → Prop), Inv (fun _ => false) s.heap →
      (∀ S h i o e, Inv S h → Closed ops.toList S → ops.toList[i]? = some o → es[i]? = some e → S i = false → (∀ b ∈ bnds o, S b = true) → ∃ h' nx', exec1 E E.cl ops.toList o e.tm h e.nx = some (e.v, h', nx') ∧ Inv (fun j => S j || decide (j = i)) h') →
      (∀ S h, Inv S h → (∀ i, i < ops.size → S i = true) → h = hf) →
      Goes E σ s { cur := { s.cur with tmps := tm', todo := k }, stack := s.stack, heap := hf, next := nx' } bot fr cs w := by
    intro hf Inv hI0 hI1 hI2
    have M0 : MRel E σ { cur := { s.cur with tmps := tmS (fun _ => false) 0 (dsts ops.toList es) s.cur.tmps, todo := k }, stack := s.stack, heap := s.heap, next := nx' } bot { fr with todo := items } cs w.drew := by
      rw [tmS_false _ _ _ _ (fun _ _ => rfl)]
      exact ⟨⟨m.cur.fn, m.cur.tmps, hk, m.cur.defers, m.cur.mode, m.cur.kind, m.cur.round⟩, m.stack, m.heap, m.gl⟩
    obtain ⟨σ', fr', w', s1, s2, s3, s4⟩ := any_goes (a := s.cur) (T0 := s.cur.tmps) (hfin := hf) hret hms hchk t1 (fun i o hi => by obtain ⟨e, _, _, g1, g2, _⟩ := t3 i o hi; exact ⟨e, g1, g2⟩) Inv hI1 hI2 ops.size _ (Array.replicate ops.size false) (fun _ => false) s.heap σ
      { fr with todo := .inRegion ops (Region.linearise.go .any ops ops.size (w.tape w.drawn (.order fr.fn id)) (Array.replicate ops.size false) []) :: items } w.drew
      (by simp) (fun i hi => by simp [hi]) (fun k o _ hs => by cases hs) hI0
      (by have h9 : (List.range ops.size).countP (fun _ => true) ≤ (List.range ops.size).length := List.countP_le_length; rw [List.length_range] at h9; exact h9) M0 rfl
    rw [← t2] at s3
    have hm' : fr'.mode = .run := by have := s3.cur.mode; simp only [hret] at this; simpa using this
    have hend := st_regionEnd (P := P) (cs := cs) (w := w') hm' s2
    exact ⟨σ', _, cs, w', (Steps.one hstep).trans (s1.trans (.one hend)), s3, wd.trans s4⟩
  have htx : ∀ i o, ops.toList[i]? = some o → ∃ (e : Ent) (h1 : Tr AObj) (nx1 : Nat), es[i]? = some e ∧ exec1 E E.cl ops.toList o e.tm e.h e.nx = some (e.v, h1, nx1) ∧ (∀ e', es[i + 1]? = some e' → e'.h = h1) ∧ (i + 1 = ops.toList.length → h1 = h') := by
    intro i o hi
    obtain ⟨e, h1, nx1, g1, _, g3, g4, g5⟩ := t3 i o hi
    exact ⟨e, h1, nx1, g1, g3, g4, g5⟩
  split at hd
  · rename_i hst
    simp only [Option.some.injEq, Prod.mk.injEq] at hd
    obtain ⟨rfl, rfl, rfl⟩ := hd
    refine key h' (InvS ops.toList es h') (fun q hq hc => ?_) (fun S h i o e hi hcl hol he hsi hb => invS_step hms hst t1 htx hi hcl hol he hsi hb) (fun S h hi hall => invS_end t1 hi (by rw [hsize]; exact hall))
    have hq0 := heapAt_quiet (hfin := h') t1 htx 0 q (by omega) (fun j p _ hj hjp => by
      cases hw : isW p with
      | false => rfl
      | true => have := (hc j p hjp hw).2 (by omega); cases this)
    rw [Nat.zero_add] at hq0
    rw [hq0]
    rw [heapAt_eq]
    split
    · rename_i e he; exact (t4 e he).symm
    · rename_i hn
      have : es = [] := List.length_eq_zero_iff.1 (by simp at hn; simp [hn])
      have t5 := (textA_ok ops.toList htext).2.2.2.1
      exact (t5 this).symm
  · split at hd
    · rename_i hq1
      have hq0 := Bool.and_eq_true_iff.1 hq1
      simp only [Option.some.injEq, Prod.mk.injEq] at hd
      obtain ⟨rfl, rfl, rfl⟩ := hd
      refine key h' (InvS ops.toList es h') (fun q hq hc => ?_) (fun S h i o e hi hcl hol he hsi hb => invQ_step hms hq0.1 hq0.2 t1 htx hi hcl hol he hsi hb) (fun S h hi hall => invS_end t1 hi (by rw [hsize]; exact hall))
      have hq9 := heapAt_quiet (hfin := h') t1 htx 0 q (by omega) (fun j p _ hj hjp => by
        cases hw : isW p with
        | false => rfl
        | true => have := (hc j p hjp hw).2 (by omega); cases this)
      rw [Nat.zero_add] at hq9
      rw [hq9]
      rw [heapAt_eq]
      split
      · rename_i e he; exact (t4 e he).symm
      · rename_i hn
        have : es = [] := List.length_eq_zero_iff.1 (by simp at hn; simp [hn])
        have t5 := (textA_ok ops.toList htext).2.2.2.1
        exact (t5 this).symm
    · split at hd
      · rename_i hf hdp
        simp only [Option.some.injEq, Prod.mk.injEq] at hd
        obtain ⟨rfl, rfl, rfl⟩ := hd
        unfold dpOK at hdp
        split at hdp <;> first | (cases hdp; done) | skip
        rename_i hall
        refine key hf (InvP E ops.toList ms es s.heap) ?_ (fun S h i o e hi hcl hol he hsi hb => invP_step hms t1 (fun i o hi => by obtain ⟨e, h1, nx1, g1, g2, _⟩ := htx i o hi; exact ⟨e, h1, nx1, g1, g2⟩) hall hi hcl hol he hsi hb) (fun S h hi hall => invP_end hdp hi (by rw [hsize]; exact hall))
        unfold InvP
        refine outs_hAt E ?_
        have : ∀ ws : List QW, maskS (fun _ => false) ws = 0 := fun ws => by induction ws with | nil => rfl | cons q ws ih => exact ih
        rw [this]
        have : ∀ ws : List QW, outs 0 ws = true := fun ws => by
          induction ws with
          | nil => rfl
          | cons q ws ih =>
            unfold outs
            have : no q.s 0 = true := no_ok fun w _ => Nat.zero_testBit w
            rw [this]; exact ih
        exact this _
      split at hd <;> first | (cases hd; done) | skip
      rename_i hdfs
      simp only [Option.some.injEq, Prod.mk.injEq] at hd
      obtain ⟨rfl, rfl, rfl⟩ := hd
      refine key h' (InvD E ops.toList ms es h') ⟨0, _, fun i o _ => by simp, hdfs⟩ (fun S h i o e hi hcl hol he hsi hb => invD_step hms (fun i o hi => by obtain ⟨e, h1, nx1, g1, g2, _⟩ := htx i o hi; exact ⟨e, h1, nx1, g1, g2⟩) hi hcl hol he hsi hb) (fun S h hi hall => invD_end hi (by rw [hsize]; exact hall))


end
end Go.Ev
