/- A call that is known by a run of its own, and hands on new memory of plain things. -/
import Derived.Test.YtfeoafcghjpapaaDoorEvOrc
namespace Go.Ev
def adoptA : List AObj → Nat → Tr AObj → Option (Tr AObj)
  | [], _, h => some h
  | o :: l, nx, h => match h.get nx with
    | some _ => none
    | none => (match h.set nx o with | some h' => adoptA l (nx + 1) h' | none => none)

theorem adopt_ok {H : Array Obj} : ∀ (l : List (Nat × Nat × AObj)) {nx : Nat} {σ : Sig} {h h' : Tr AObj}, HRel σ h H → adoptA (l.map (·.2.2)) nx h = some h' →
    (∀ x ∈ l, x.2.2.alive = true ∧ ∃ c, H[x.1]? = some c ∧ ∀ σ, ORel σ x.2.1 x.2.2 c) → (l.map (·.1)).Nodup → (∀ x ∈ l, ∀ j o n, h.get j = some o → o.alive = true → σ j = some (x.1, n) → False) →
    ∃ σ', σ.le σ' ∧ HRel σ' h' H ∧ (∀ k x, l[k]? = some x → σ' (nx + k) = some (x.1, x.2.1)) ∧ (∀ b, own σ' h' b → own σ h b ∨ ∃ x ∈ l, x.1 = b)
  | [], nx, σ, h, h', r, e, _, _, _ => by
    cases e
    exact ⟨σ, Sig.le_refl σ, r, fun k x hx => by simp at hx, fun b hb => .inl hb⟩
  | (b, N, o) :: l, nx, σ, h, h', r, e, ho, hnd, hu => by
    simp only [List.map_cons, adoptA] at e
    cases hg : h.get nx with
    | some y => rw [hg] at e; cases e
    | none =>
      rw [hg] at e
      simp only at e
      cases hs : h.set nx o with
      | none => rw [hs] at e; cases e
      | some h1 =>
        rw [hs] at e
        simp only at e
        obtain ⟨g1, g2⟩ := Tr.get_set hs
        have hσ := r.dom nx hg
        obtain ⟨ha, c, hc, hor⟩ := ho (b, N, o) (by simp)
        have hle : σ.le (σ.ext nx (b, N)) := Sig.le_ext hσ
        have old : ∀ j, j ≠ nx → (σ.ext nx (b, N)) j = σ j := fun j hj => Sig.ext_other _ _ _ _ hj
        have r1 : HRel (σ.ext nx (b, N)) h1 H := by
          refine ⟨fun j hj => ?_, fun i j q m n oi oj hi hj hgi hgj ai aj => ?_, fun id oo hid hal => ?_⟩
          · by_cases ej : j = nx
            · subst ej; rw [g1] at hj; cases hj
            · rw [old j ej]; exact r.dom j (by rw [← g2 j ej]; exact hj)
          · by_cases ei : i = nx
            · subst ei
              by_cases ej : j = i
              · exact ej.symm
              · exfalso
                rw [Sig.ext_same] at hi
                cases hi
                rw [old j ej] at hj
                rw [g2 j ej] at hgj
                exact hu (b, N, o) (by simp) j oj n hgj aj hj
            · by_cases ej : j = nx
              · exfalso
                subst ej
                rw [Sig.ext_same] at hj
                cases hj
                rw [old i ei] at hi
                rw [g2 i ei] at hgi
                exact hu (b, N, o) (by simp) i oi m hgi ai hi
              · rw [old i ei] at hi
                rw [old j ej] at hj
                rw [g2 i ei] at hgi
                rw [g2 j ej] at hgj
                exact r.inj i j q m n oi oj hi hj hgi hgj ai aj
          · by_cases ei : id = nx
            · subst ei
              rw [g1] at hid
              cases hid
              exact ⟨b, N, c, Sig.ext_same _ _ _, hc, hor _⟩
            · rw [g2 id ei] at hid
              obtain ⟨b', N', c', k1, k2, k3⟩ := r.obj id oo hid hal
              exact ⟨b', N', c', by rw [old id ei]; exact k1, k2, ORel_mono hle k3⟩
        simp only [List.map_cons, List.nodup_cons] at hnd
        obtain ⟨σ', l1, l2, l3, l4⟩ := adopt_ok l r1 e (fun x hx => ho x (by simp [hx])) hnd.2 (fun x hx j oj n hj aj hσj => by
          by_cases ej : j = nx
          · subst ej
            rw [Sig.ext_same] at hσj
            simp only [Option.some.injEq, Prod.mk.injEq] at hσj
            exact hnd.1 (List.mem_map.2 ⟨x, hx, hσj.1.symm⟩)
          · rw [old j ej] at hσj
            rw [g2 j ej] at hj
            exact hu x (by simp [hx]) j oj n hj aj hσj)
        refine ⟨σ', Sig.le_trans hle l1, l2, fun k x hx => ?_, fun q hq => ?_⟩
        · cases k with
          | zero => simp at hx; subst hx; exact l1 nx _ (Sig.ext_same _ _ _)
          | succ k => simp at hx; have := l3 k x hx; rwa [show nx + 1 + k = nx + (k + 1) by omega] at this
        · rcases l4 q hq with ⟨id, n, oo, k1, k2, k3⟩ | ⟨x, hx, hxb⟩
          · by_cases ei : id = nx
            · subst ei
              rw [Sig.ext_same] at k1
              simp only [Option.some.injEq, Prod.mk.injEq] at k1
              exact .inr ⟨(b, N, o), by simp, k1.1⟩
            · rw [old id ei] at k1
              rw [g2 id ei] at k2
              exact .inl ⟨id, n, oo, k1, k2, k3⟩
          · exact .inr ⟨x, by simp [hx], hxb⟩
where
  ORel_mono {σ σ' : Sig} {N : Nat} {o : AObj} {c : Obj} (hl : σ.le σ') (h : ORel σ N o c) : ORel σ' N o c := by
    cases o with
    | cells n d t ex sz =>
      cases c <;> simp only [ORel] at h ⊢
      case cells c e fz =>
        obtain ⟨h1, h2, h3⟩ := h
        exact ⟨h1, fun i hi => by obtain ⟨v, hv, hcv⟩ := h2 i hi; exact ⟨v, den_mono hl _ _ hv, hcv⟩, h3⟩
    | ro n d t =>
      cases c <;> simp only [ORel] at h ⊢
      case cells c e fz => exact fun i hi => by obtain ⟨v, hv, hcv⟩ := h i hi; exact ⟨v, den_mono hl _ _ hv, hcv⟩
    | loop st pe fn tmps ps asg body dfr =>
      cases c <;> simp only [ORel] at h ⊢
      case loop L =>
        obtain ⟨vs, D, h1, h2, h3⟩ := h
        exact ⟨vs, D, denL_mono hl _ _ h1, hl _ _ h2, h3⟩
    | deferred tk => cases c <;> simp only [ORel] at h ⊢ <;> exact h
    | dead => cases c <;> simp only [ORel] at h ⊢

/-- New cells of plain things. -/
def plainC : AObj → Bool
  | .cells _ d t _ _ => (match scalV d with | true => scalT t | false => false)
  | _ => false
theorem plainC_any {N : Nat} {o : AObj} {c : Obj} (h : plainC o = true) {σ : Sig} (r : ORel σ N o c) (σ' : Sig) : ORel σ' N o c := by
  cases o <;> first | (cases h; done) | skip
  rename_i n d t ex sz
  have hh : scalV d = true ∧ scalT t = true := by
    unfold plainC at h
    simp only at h
    cases hd : scalV d with
    | false => rw [hd] at h; cases h
    | true => rw [hd] at h; exact ⟨rfl, h⟩
  cases c <;> simp only [ORel] at r ⊢
  case cells c e fz =>
    obtain ⟨h1, h2, h3⟩ := r
    refine ⟨h1, fun i hi => ?_, h3⟩
    obtain ⟨v, hv, hcv⟩ := h2 i hi
    refine ⟨v, ?_, hcv⟩
    rw [← hv]
    refine scalV_den ?_ _ _
    rw [Tr.get_getC]
    cases ht : t.getC i with
    | none => exact hh.1
    | some x => exact scalT_ok hh.2 i x ht

/-- Where a number stands in a list, behind another number. -/
def plc (ids : List Nat) (nx : Nat) (i : Nat) : Nat :=
  match ids with
  | [] => nx
  | j :: l => match Nat.beq i j with | true => nx | false => plc l (nx + 1) i
theorem plc_ok : ∀ {ids : List Nat} {nx i : Nat}, i ∈ ids → ∃ k, ids[k]? = some i ∧ plc ids nx i = nx + k
  | [], _, _, h => by cases h
  | j :: l, nx, i, h => by
    unfold plc
    cases hb : Nat.beq i j with
    | true => have := Nat.eq_of_beq_eq_true hb; subst this; exact ⟨0, rfl, rfl⟩
    | false =>
      have hne : i ≠ j := fun e => by subst e; simp at hb
      rcases List.mem_cons.1 h with h | h
      · exact absurd h hne
      · obtain ⟨k, h1, h2⟩ := plc_ok (nx := nx + 1) h
        exact ⟨k + 1, by simpa using h1, by simp only; rw [h2]; omega⟩

mutual
/-- The same value, its memory by other numbers. -/
def ren (f : Nat → Nat) : RV → RV
  | .ptr id off => .ptr (f id) off
  | .slice id off len cap => .slice (f id) off len cap
  | .agg cs => .agg (renL f cs)
  | .tuple vs => .tuple (renL f vs)
  | v => v
def renL (f : Nat → Nat) : List RV → List RV
  | [] => []
  | v :: l => ren f v :: renL f l
end
mutual
/-- Does a value lead to memory of these numbers alone? -/
def idsIn (ids : List Nat) : RV → Bool
  | .ptr id _ => ids.elem id
  | .slice id _ _ _ => ids.elem id
  | .agg cs => idsInL ids cs
  | .tuple vs => idsInL ids vs
  | v => scalV v
def idsInL (ids : List Nat) : List RV → Bool
  | [] => true
  | v :: l => match idsIn ids v with | true => idsInL ids l | false => false
end
mutual
theorem ren_ok {ids : List Nat} {f : Nat → Nat} {σ σ' : Sig} (hf : ∀ i ∈ ids, σ' (f i) = σ i) : ∀ (v : RV), idsIn ids v = true → den σ' (ren f v) = den σ v
  | .ptr id off, h => by
    have : id ∈ ids := by simpa [idsIn] using h
    simp only [ren, den, hf id this]
  | .slice id off len cap, h => by
    have : id ∈ ids := by simpa [idsIn] using h
    simp only [ren, den, hf id this]
  | .agg cs, h => by simp only [ren, den]; rw [renL_ok hf cs (by simpa [idsIn] using h)]
  | .tuple vs, h => by simp only [ren, den]; rw [renL_ok hf vs (by simpa [idsIn] using h)]
  | .bool _, _ => rfl
  | .int _ _, _ => rfl
  | .str _, _ => rfl
  | .ptr0, _ => rfl
  | .slice0, _ => rfl
  | .nilFunc, _ => rfl
  | .nilIface, _ => rfl
  | .fn _ _ _, h => by simp [idsIn, scalV] at h
  | .yield _, h => by simp [idsIn, scalV] at h
  | .iface _ _, h => by simp [idsIn, scalV] at h
theorem renL_ok {ids : List Nat} {f : Nat → Nat} {σ σ' : Sig} (hf : ∀ i ∈ ids, σ' (f i) = σ i) : ∀ (l : List RV), idsInL ids l = true → denL σ' (renL f l) = denL σ l
  | [], _ => rfl
  | v :: l, h => by
    unfold idsInL at h
    cases hv : idsIn ids v with
    | false => rw [hv] at h; cases h
    | true =>
      rw [hv] at h
      simp only [renL, denL, ren_ok hf v hv, renL_ok hf l h]
end

/-- The objects of some numbers. -/
def pick (h : Tr AObj) : List Nat → Option (List AObj)
  | [] => some []
  | i :: l => match h.get i, pick h l with
    | some o, some m => (match plainC o with | true => some (o :: m) | false => none)
    | _, _ => none
theorem pick_ok {h : Tr AObj} : ∀ {ids : List Nat} {os : List AObj}, pick h ids = some os → os.length = ids.length ∧ ∀ (k i : Nat), ids[k]? = some i → ∃ o, os[k]? = some o ∧ h.get i = some o ∧ plainC o = true
  | [], os, e => by cases e; exact ⟨rfl, fun k i h => by simp at h⟩
  | j :: l, os, e => by
    unfold pick at e
    split at e <;> first | (cases e; done) | skip
    rename_i o m h1 h2
    split at e <;> first | (cases e; done) | skip
    rename_i hp
    cases e
    obtain ⟨p1, p2⟩ := pick_ok h2
    refine ⟨by simp [p1], fun k i hk => ?_⟩
    cases k with
    | zero => simp at hk; subst hk; exact ⟨o, rfl, h1, hp⟩
    | succ k => simp at hk; obtain ⟨o', q1, q2⟩ := p2 k i hk; exact ⟨o', by simpa using q1, q2⟩

section
variable {P : Program}
theorem base_way {E : Env P} {n : Nat} {h0 h1 : Tr AObj} {nx1 f : Nat} {args : List RV} {v : RV} {vs0 : List Value} (hc : callR E n h0 E.gl f args = some (v, h1, nx1)) (hargs : ∀ σ, denL σ args = some vs0)
    (htop : topT E.gl h0) {h : Tr AObj} (hag : agreeN h h0 E.gl = true) {σ : Sig} {w : World} (r : HRel σ h w.heap) (g : GOk E σ) :
    Calls P f vs0.toArray w fun e w' => ∃ σ1 u, e = .returned u ∧ den σ1 v = some u ∧ HRel σ1 h1 w'.heap ∧ w'.os = w.os ∧ w'.tape = w.tape ∧ w'.output = w.output ∧ w.heap.size ≤ w'.heap.size ∧ ∀ b, b < w.heap.size → w'.heap[b]? = w.heap[b]? ∧ ¬ own σ1 h1 b := by
  have low : ∀ id o, h0.get id = some o → id < E.gl := fun id o hid => by
    rcases Nat.lt_or_ge id E.gl with hl | hl
    · exact hl
    · rw [htop id hl] at hid; cases hid
  have ag : ∀ id o, h0.get id = some o → h.get id = some o ∧ plainO o = true := fun id o hid => by
    obtain ⟨o', h2, h3, h4⟩ := agreeN_ok hag id (low id o hid)
    rw [hid] at h3
    cases h3
    exact ⟨h2, h4⟩
  have notmine : ∀ o, plainO o = true → o.mine = false := fun o ho => by cases o <;> first | rfl | (cases ho; done)
  have s0 : ∀ id, id < E.gl → (if id < E.gl then σ id else none) = σ id := fun id hid => by rw [if_pos hid]
  have r0 : HRel (fun id => if id < E.gl then σ id else none) h0 w.heap := by
    refine ⟨fun id hid => ?_, fun i j b p q o o' hi hj hgi hgj ai aj => ?_, fun id o hid ha => ?_⟩
    · by_cases hl : id < E.gl
      · obtain ⟨o, _, h3, _⟩ := agreeN_ok hag id hl
        rw [hid] at h3; cases h3
      · simp [hl]
    · rw [s0 i (low i o hgi)] at hi
      rw [s0 j (low j o' hgj)] at hj
      exact r.inj i j b p q o o' hi hj (ag i o hgi).1 (ag j o' hgj).1 ai aj
    · obtain ⟨h2, hp⟩ := ag id o hid
      obtain ⟨b, N, c, g1, g2, g3⟩ := r.obj id o h2 ha
      refine ⟨b, N, c, by simp only [s0 id (low id o hid)]; exact g1, g2, ?_⟩
      cases o <;> first | (cases hp; done) | (cases ha; done) | skip
      rename_i n d t
      obtain ⟨hd, hp⟩ := plainO_ro hp
      cases c <;> simp only [ORel] at g3 ⊢
      case cells c e fz =>
        intro i hi
        obtain ⟨v, hv, hcv⟩ := g3 i hi
        refine ⟨v, ?_, hcv⟩
        rw [← hv]
        refine scalV_den ?_ _ _
        rw [Tr.get_getC]
        cases ht : t.getC i with
        | none => exact hd
        | some x => exact scalT_ok hp i x ht
  have g0 : GOk E (fun id => if id < E.gl then σ id else none) := fun k hk => by
    obtain ⟨n, hn⟩ := g k hk
    exact ⟨n, by simp only [s0 k hk]; exact hn⟩
  refine (callR_ok hc r0 g0 (hargs _)).mono fun e w' ⟨σ1, u1, e1, e2, e3⟩ => ⟨σ1, u1, e1, e2, e3.rel, e3.os, e3.tape, e3.output, e3.size, fun b hb => e3.keeps b hb ?_⟩
  rintro ⟨id, n, o, _, hid, hm⟩
  rw [notmine o (ag id o hid).2] at hm
  cases hm

theorem gather {σ1 : Sig} {h1 : Tr AObj} {H : Array Obj} (r1 : HRel σ1 h1 H) : ∀ {ids : List Nat} {os : List AObj}, pick h1 ids = some os → ids.Nodup →
    ∃ l : List (Nat × Nat × AObj), l.map (·.2.2) = os ∧ (l.map (·.1)).Nodup ∧ (∀ x ∈ l, x.2.2.alive = true ∧ ∃ c, H[x.1]? = some c ∧ ∀ σ, ORel σ x.2.1 x.2.2 c) ∧
      (∀ (k i : Nat), ids[k]? = some i → ∃ x : Nat × Nat × AObj, l[k]? = some x ∧ σ1 i = some (x.1, x.2.1)) ∧ (∀ x ∈ l, ∃ i ∈ ids, σ1 i = some (x.1, x.2.1) ∧ ∃ o, h1.get i = some o ∧ o.mine = true ∧ o.alive = true)
  | [], os, e, _ => by cases e; exact ⟨[], rfl, by simp, by simp, fun k i h => by simp at h, by simp⟩
  | i :: ids, os, e, hnd => by
    unfold pick at e
    split at e <;> first | (cases e; done) | skip
    rename_i o m hg hp
    split at e <;> first | (cases e; done) | skip
    rename_i hpl
    cases e
    simp only [List.nodup_cons] at hnd
    obtain ⟨l, l1, l2, l3, l4, l5⟩ := gather r1 hp hnd.2
    have hcell : o.alive = true ∧ o.mine = true := by cases o <;> first | (cases hpl; done) | exact ⟨rfl, rfl⟩
    obtain ⟨b, N, c, q1, q2, q3⟩ := r1.obj i o hg hcell.1
    refine ⟨(b, N, o) :: l, by simp [l1], ?_, ?_, ?_, ?_⟩
    · simp only [List.map_cons, List.nodup_cons]
      refine ⟨fun hm => ?_, l2⟩
      obtain ⟨x, hx, hxb⟩ := List.mem_map.1 hm
      obtain ⟨j, hj, k1, o', k2, k3, k4⟩ := l5 x hx
      rw [hxb] at k1
      have := r1.inj i j b N x.2.1 o o' q1 k1 hg k2 hcell.1 k4
      subst this
      exact hnd.1 hj
    · intro x hx
      rcases List.mem_cons.1 hx with rfl | hx
      · exact ⟨hcell.1, c, q2, fun σ => plainC_any hpl q3 σ⟩
      · exact l3 x hx
    · intro k j hk
      cases k with
      | zero => simp at hk; subst hk; exact ⟨_, rfl, q1⟩
      | succ k => simp at hk; obtain ⟨x, y1, y2⟩ := l4 k j hk; exact ⟨x, by simpa using y1, y2⟩
    · intro x hx
      rcases List.mem_cons.1 hx with rfl | hx
      · exact ⟨i, by simp, q1, o, hg, hcell.2, hcell.1⟩
      · obtain ⟨j, hj, k⟩ := l5 x hx; exact ⟨j, by simp [hj], k⟩

theorem orcM_way {E : Env P} {n : Nat} {h0 h1 : Tr AObj} {nx1 f : Nat} {args : List RV} {v : RV} {vs0 : List Value} {ids : List Nat} {os : List AObj} (hc : callR E n h0 E.gl f args = some (v, h1, nx1)) (hargs : ∀ σ, denL σ args = some vs0)
    (htop : topT E.gl h0) (hnd : ids.Nodup) (hpick : pick h1 ids = some os) (hin : idsIn ids v = true) {h h' : Tr AObj} {nx : Nat} (hag : agreeN h h0 E.gl = true) (had : adoptA os nx h = some h') {σ : Sig} {w : World} (r : HRel σ h w.heap) (g : GOk E σ) :
    Calls P f vs0.toArray w fun e w' => ∃ σ' u, e = .returned u ∧ den σ' (ren (plc ids nx) v) = some u ∧ Way σ h w σ' h' w' := by
  refine (base_way hc hargs htop hag r g).mono fun e w' ⟨σ1, u, e1, e2, r1, o1, o2, o3, sz, kp⟩ => ?_
  obtain ⟨l, l1, l2, l3, l4, l5⟩ := gather r1 hpick hnd
  have r' : HRel σ h w'.heap := ⟨r.dom, r.inj, fun id o hid ha => by
    obtain ⟨b, N, c, g1, g2, g3⟩ := r.obj id o hid ha
    exact ⟨b, N, c, g1, by rw [(kp b (Array.getElem?_eq_some_iff.1 g2).1).1]; exact g2, g3⟩⟩
  have fresh : ∀ x ∈ l, w.heap.size ≤ x.1 := fun x hx => by
    obtain ⟨i, _, k1, o, k2, k3, _⟩ := l5 x hx
    rcases Nat.lt_or_ge x.1 w.heap.size with hl | hl
    · exact absurd ⟨i, x.2.1, o, k1, k2, k3⟩ (kp x.1 hl).2
    · exact hl
  rw [← l1] at had
  obtain ⟨σ', s1, s2, s3, s4⟩ := adopt_ok l r' had l3 l2 (fun x hx j o n hj ha hσ => by
    obtain ⟨b, N, c, g1, g2, _⟩ := r.obj j o hj ha
    rw [hσ] at g1
    cases g1
    have := (Array.getElem?_eq_some_iff.1 g2).1
    have := fresh x hx
    omega)
  refine ⟨σ', u, e1, ?_, s1, s2, o1, o2, o3, sz, fun b hb hn => ⟨(kp b hb).1, fun ho => ?_⟩⟩
  · rw [ren_ok (σ := σ1) (ids := ids) (fun i hi => ?_) v hin]
    · exact e2
    · obtain ⟨k, k1, k2⟩ := plc_ok (nx := nx) hi
      obtain ⟨x, y1, y2⟩ := l4 k i k1
      rw [k2, s3 k x y1, y2]
  · rcases s4 b ho with h | ⟨x, hx, hxb⟩
    · exact hn h
    · have := fresh x hx; omega

/-- The same program, where one call is known, and what new memory it hands on. -/
noncomputable def Env.orcM (E : Env P) (n : Nat) (h0 : Tr AObj) (f : Nat) (args : List RV) (v : RV) (ids : List Nat) (os : List AObj) (vs0 : List Value) (hc : ∃ h1 nx1, callR E n h0 E.gl f args = some (v, h1, nx1) ∧ pick h1 ids = some os) (hargs : ∀ σ, denL σ args = some vs0)
    (htop : topT E.gl h0) (hnd : ids.Nodup) (hin : idsIn ids v = true) : Env P where
  info := E.info
  info_ok := E.info_ok
  func := E.func
  func_ok := E.func_ok
  gl := E.gl
  big := fun g => match Nat.beq g f with | true => true | false => E.big g
  mixed := E.mixed
  cl := fun h nx g as => match Nat.beq g f with
    | true => (match beqVs as args, agreeN h h0 E.gl with
      | true, true => (match adoptA os nx h with | some h' => some (ren (plc ids nx) v, h', nx + os.length) | none => none)
      | _, _ => E.cl h nx g as)
    | false => E.cl h nx g as
  cl_ok := fun {h h' nx nx' g as v'} e {σ w} r gg vs hd => by
    split at e
    · rename_i hf
      split at e
      · rename_i h1 h2
        split at e <;> first | (cases e; done) | skip
        rename_i hn had
        simp only [Option.some.injEq, Prod.mk.injEq] at e
        obtain ⟨rfl, rfl, rfl⟩ := e
        have := Nat.eq_of_beq_eq_true hf
        subst this
        have := beqVs_ok _ _ h1
        subst this
        obtain ⟨k1, k2, hcc, hpk⟩ := hc
        have hv := hd
        rw [hargs σ] at hv
        cases hv
        exact orcM_way hcc hargs htop hnd hpk hin h2 had r gg
      · exact E.cl_ok e r gg hd
    · exact E.cl_ok e r gg hd
end
end Go.Ev
