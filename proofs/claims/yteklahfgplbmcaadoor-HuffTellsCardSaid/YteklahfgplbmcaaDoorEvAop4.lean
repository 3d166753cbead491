/- Operations one by one: append, copy, slices, composites. -/
import Derived.Test.YteklahfgplbmcaaDoorEvAop3
namespace Go.Ev
section
variable {P : Program} (E : Env P)

/-- What is appended: so many elements of sz cells. -/
def elemsA (h : Tr AObj) (sz : Nat) (x : RV) : Option (Nat × List RV) :=
  match x with
  | .slice0 => some (0, [])
  | .slice id off len _ => (match cellsAt h id off (len * sz) with | some l => some (len, l) | none => none)
  | .str s => (match Nat.beq sz 1 with | true => some (s.length, s.map fun b => .int .u8 (Int.ofNat b.toNat)) | false => none)
  | _ => none

theorem denL_bytes {σ : Sig} : ∀ s : List UInt8, denL σ (s.map fun b => RV.int .u8 (Int.ofNat b.toNat)) = some (s.map fun b => Value.int .u8 b.toNat)
  | [] => rfl
  | _ :: s => denL_cons_mk rfl (denL_bytes s)

theorem elemsA_ok {σ : Sig} {h : Tr AObj} {w : World} (r : HRel σ h w.heap) {sz n : Nat} {x : RV} {l : List RV} (he : elemsA h sz x = some (n, l)) {v : Value} (hx : den σ x = some v) :
    ∃ vs, denL σ l = some vs ∧ vs.length = n * sz ∧ (Builtin.lenOf v).run P w = .ok n w ∧ (Builtin.firstCells sz n v).run P w = .ok vs.toArray w ∧ (∀ m, m ≤ n → ∃ us, (Builtin.firstCells sz m v).run P w = .ok us w ∧ us = (vs.take (m * sz)).toArray) := by
  unfold elemsA at he
  split at he <;> first | (cases he; done) | skip
  · cases hx
    simp only [Option.some.injEq, Prod.mk.injEq] at he
    obtain ⟨rfl, rfl⟩ := he
    exact ⟨[], rfl, by simp, rfl, rfl, fun m hm => ⟨#[], rfl, by simp⟩⟩
  · rename_i id off len cap
    cases hc : cellsAt h id off (len * sz) with
    | none => rw [hc] at he; cases he
    | some l' =>
      rw [hc] at he
      simp only [Option.some.injEq, Prod.mk.injEq] at he
      obtain ⟨rfl, rfl⟩ := he
      simp only [den] at hx
      cases hs : σ id with
      | none => rw [hs] at hx; cases hx
      | some p =>
        rw [hs] at hx
        simp only [Option.some.injEq] at hx
        subst hx
        obtain ⟨b, N⟩ := p
        obtain ⟨vs, h1, h2, h3⟩ := cellsAt_ok r hs _ _ hc
        refine ⟨vs, h1, h2, rfl, run_loadCells_of h2 h3, fun m hm => ⟨_, run_loadCells_of (vs := vs.take (m * sz)) ?_ (fun j v hj => h3 j v ?_), rfl⟩⟩
        · rw [List.length_take, h2]
          exact Nat.min_eq_left (Nat.mul_le_mul_right _ hm)
        · rw [List.getElem?_take] at hj
          split at hj
          · exact hj
          · cases hj
  · rename_i s
    cases hx
    split at he <;> first | (cases he; done) | skip
    rename_i hb
    have : sz = 1 := Nat.eq_of_beq_eq_true hb
    subst this
    simp only [Option.some.injEq, Prod.mk.injEq] at he
    obtain ⟨rfl, rfl⟩ := he
    have ex : ∀ m, m ≤ s.length → ((ByteArray.mk s.toArray).extract 0 m).data.toList = s.take m := by
      intro m _
      rw [ByteArray.data_extract]
      simp
    refine ⟨_, denL_bytes s, by simp, rfl, ?_, fun m hm => ⟨_, rfl, ?_⟩⟩
    · simp only [Builtin.firstCells, Sem.run_pure]
      congr 1
      apply Array.ext'
      rw [Array.toList_map, ex _ (Nat.le_refl _)]
      simp
    · apply Array.ext'
      rw [Array.toList_map, ex _ hm]
      simp

theorem nextslicecap_le {need old : Nat} (h : old < need) : Builtin.nextslicecap need old ≤ 16 * need + 3000 := by
  have g : ∀ (k c : Nat), Builtin.growBy need k c ≤ 2 ^ k * c + (2 ^ k - 1) * 200 := by
    intro k
    induction k with
    | zero => intro c; simp [Builtin.growBy]
    | succ k ih =>
      intro c
      simp only [Builtin.growBy]
      have p : 0 < 2 ^ k := Nat.two_pow_pos k
      split
      · rw [Nat.pow_succ]
        have : c ≤ 2 ^ k * 2 * c := Nat.le_mul_of_pos_left c (by omega)
        omega
      · have h1 := ih (c + (c + 768) / 4)
        have h2 : c + (c + 768) / 4 ≤ 2 * c + 192 := by omega
        have h3 : 2 ^ k * (c + (c + 768) / 4) ≤ 2 ^ k * (2 * c + 192) := Nat.mul_le_mul_left _ h2
        have h4 : 2 ^ k * (2 * c + 192) = 2 ^ k * 2 * c + 2 ^ k * 192 := by rw [Nat.mul_add, ← Nat.mul_assoc]
        rw [Nat.pow_succ]
        omega
  unfold Builtin.nextslicecap
  split
  · omega
  · split
    · omega
    · have := g 4 old
      omega

/-- An open row: these cells, and more behind them. -/
def openRow (l : List RV) (sz : Nat) : Option AObj :=
  match fillT .nil 0 l with
  | some t => some (.cells l.length .nilFunc t false sz)
  | none => none

/-- To an appended slice a number is given anew, the former one's is dead. -/
def openAgain (h : Tr AObj) (id nx : Nat) (l : List RV) (sz : Nat) : Option (Tr AObj) :=
  match h.get nx with
  | some _ => none
  | none => match openRow l sz with
    | some o => (match h.set id .dead with | some h' => h'.set nx o | none => none)
    | none => none

theorem getElem?_append_left' {α : Type} {a b : Array α} {i : Nat} (h : i < a.size) : (a ++ b)[i]? = a[i]? := Array.getElem?_append_left h

theorem fillT_rel {l : List RV} {t : Tr RV} (h : fillT .nil 0 l = some t) {σ : Sig} {vs : List Value} (hd : denL σ l = some vs) (d : RV) (c : Array Value) (hc : ∀ (i : Nat) v, vs[i]? = some v → c[i]? = some v) :
    ∀ i, i < l.length → ∃ v, den σ ((t.get i).getD d) = some v ∧ c[i]? = some v := by
  intro i hi
  have hx : l[i]? = some l[i] := by simp [hi]
  obtain ⟨v, hv, hvd⟩ := denL_get i hd hx
  have := (fillT_ok l h).1 i _ hx
  rw [Nat.zero_add] at this
  exact ⟨v, by rw [this]; exact hvd, hc i v hv⟩


theorem storeRaw {b : Nat} {e : TypeId} {fz : Nat × Nat} (o : Nat) : ∀ (vs : List Value) {w : World} {c : Array Value} (i : Nat), w.heap[b]? = some (.cells c e fz) → unf c fz → (∀ v ∈ vs, v.oneCell' = true) → o + i + vs.length ≤ c.size →
    ∃ w' c', (storeCells ⟨b, o, none⟩ vs i).run P w = .ok () w' ∧ w'.heap[b]? = some (.cells c' e fz) ∧ c'.size = c.size ∧ (∀ j v, vs[j]? = some v → c'[o + i + j]? = some v) ∧ (∀ j, j < o + i → c'[j]? = c[j]?) ∧
      (∀ k, k ≠ b → w'.heap[k]? = w.heap[k]?) ∧ w'.os = w.os ∧ w'.tape = w.tape ∧ w'.output = w.output ∧ w'.heap.size = w.heap.size
  | [], w, c, i, h, _, _, _ => ⟨w, c, rfl, h, rfl, by simp, fun _ _ => rfl, fun _ _ => rfl, rfl, rfl, rfl, rfl⟩
  | v :: vs, w, c, i, h, hu, ho, hl => by
    have hlt : o + i < c.size := by simp at hl; omega
    have hcell : w.cell? ⟨b, o + i, none⟩ = some c[o + i] := by simp [World.cell?, h, hlt]
    have hfz : w.frozen? ⟨b, o + i, none⟩ = false := by
      have := hu (o + i) hlt
      simp only [World.frozen?, h, Bool.and_eq_false_iff, decide_eq_false_iff_not]
      omega
    have h1 : (w.setCell ⟨b, o + i, none⟩ v).heap[b]? = some (.cells (c.setIfInBounds (o + i) v) e fz) := by simp [World.setCell, Array.getElem?_modify, h]
    obtain ⟨w', c', e1, e2, e3, e4, e5, e6, e7, e8, e9, e10⟩ := storeRaw o vs (i + 1) h1 (fun j hj => hu j (by simpa using hj)) (fun u hu => ho u (List.mem_cons_of_mem _ hu)) (by simp at hl ⊢; omega)
    refine ⟨w', c', ?_, e2, by simpa using e3, ?_, ?_, ?_, e7, e8, e9, by simpa using e10⟩
    · simp only [storeCells, Sem.run_bind, addr_add]
      rw [run_store _ _ _ _ _ (ho v (by simp))]
      simp [hcell, hfz, e1]
    · intro j u hj
      cases j with
      | zero =>
        simp at hj
        subst hj
        rw [Nat.add_zero, e5 (o + i) (by omega)]
        simp [hlt]
      | succ j => simp at hj; have := e4 j u hj; rwa [show o + (i + 1) + j = o + i + (j + 1) by omega] at this
    · intro j hj
      rw [e5 j (by omega), Array.getElem?_setIfInBounds_ne (by omega)]
    · intro k hk
      rw [e6 k hk]
      exact Go.RowKit.Below.heap_setCell _ _ _ _ hk

/-- An old row under a new number. -/
theorem Way.again {σ : Sig} {h h1 h2 : Tr AObj} {w w' : World} (r : HRel σ h w.heap) {id nx : Nat} {o o' : AObj} {b N : Nat} {c' : Obj}
    (hid : h.get id = some o) (hm : o.mine = true) (hb : σ id = some (b, N)) (hnx : h.get nx = none) (hs1 : h.set id .dead = some h1) (hs2 : h1.set nx o' = some h2)
    (hos : w'.os = w.os) (htape : w'.tape = w.tape) (hout : w'.output = w.output) (hsz : w'.heap.size = w.heap.size)
    (hh : ∀ k, k ≠ b → w'.heap[k]? = w.heap[k]?) (hc : w'.heap[b]? = some c') (ho : ORel (σ.ext nx (b, N)) N o' c') :
    Way σ h w (σ.ext nx (b, N)) h2 w' := by
  have hle : σ.le (σ.ext nx (b, N)) := Sig.le_ext (r.dom nx hnx)
  have hne : id ≠ nx := fun e => by rw [e, hnx] at hid; cases hid
  obtain ⟨g1, g2⟩ := Tr.get_set hs1
  obtain ⟨f1, f2⟩ := Tr.get_set hs2
  have old : ∀ j oj, j ≠ nx → h2.get j = some oj → oj.alive = true → j ≠ id ∧ h.get j = some oj := by
    intro j oj hj hg ha
    rw [f2 j hj] at hg
    by_cases e : j = id
    · subst e; rw [g1] at hg; cases hg; cases ha
    · exact ⟨e, by rw [← g2 j e]; exact hg⟩
  have apart : ∀ j oj b' N', j ≠ id → h.get j = some oj → oj.alive = true → σ j = some (b', N') → b' ≠ b := by
    intro j oj b' N' hj hg ha hs e
    subst e
    exact hj (r.inj j id b' N' N oj o hs hb hg hid ha (AObj.alive_of_mine hm))
  refine ⟨hle, ⟨fun j hj => ?_, ?_, ?_⟩, hos, htape, hout, by omega, fun k _ hn => ?_⟩
  · by_cases e : j = nx
    · subst e; rw [f1] at hj; cases hj
    · rw [f2 j e] at hj
      by_cases e' : j = id
      · subst e'; rw [g1] at hj; cases hj
      · rw [g2 j e'] at hj
        rw [Sig.ext_other _ _ _ _ e]; exact r.dom j hj
  · intro i j b' n m oi oj hi hj hgi hgj ai aj
    by_cases ei : i = nx
    · by_cases ej : j = nx
      · rw [ei, ej]
      · obtain ⟨h3, h4⟩ := old j oj ej hgj aj
        subst ei
        rw [Sig.ext_same] at hi
        rw [Sig.ext_other _ _ _ _ ej] at hj
        simp only [Option.some.injEq, Prod.mk.injEq] at hi
        exact absurd hi.1.symm (apart j oj b' m h3 h4 aj hj)
    · by_cases ej : j = nx
      · obtain ⟨h3, h4⟩ := old i oi ei hgi ai
        subst ej
        rw [Sig.ext_same] at hj
        rw [Sig.ext_other _ _ _ _ ei] at hi
        simp only [Option.some.injEq, Prod.mk.injEq] at hj
        exact absurd hj.1.symm (apart i oi b' n h3 h4 ai hi)
      · obtain ⟨_, h4⟩ := old i oi ei hgi ai
        obtain ⟨_, h6⟩ := old j oj ej hgj aj
        rw [Sig.ext_other _ _ _ _ ei] at hi
        rw [Sig.ext_other _ _ _ _ ej] at hj
        exact r.inj i j b' n m oi oj hi hj h4 h6 ai aj
  · intro j oj hg ha
    by_cases e : j = nx
    · subst e
      rw [f1] at hg
      cases hg
      exact ⟨b, N, c', Sig.ext_same _ _ _, hc, ho⟩
    · obtain ⟨h3, h4⟩ := old j oj e hg ha
      obtain ⟨b', N', c, k1, k2, k3⟩ := r.obj j oj h4 ha
      exact ⟨b', N', c, by rw [Sig.ext_other _ _ _ _ e]; exact k1, by rw [hh b' (apart j oj b' N' h3 h4 ha k1)]; exact k2, ORel_mono hle k3⟩
  · have hk : k ≠ b := fun e => hn (e ▸ ⟨id, N, o, hb, hid, hm⟩)
    refine ⟨hh k hk, ?_⟩
    rintro ⟨j, n, oj, e1, e2, e3⟩
    by_cases e : j = nx
    · subst e
      rw [Sig.ext_same] at e1
      simp only [Option.some.injEq, Prod.mk.injEq] at e1
      exact hk e1.1.symm
    · obtain ⟨_, h4⟩ := old j oj e e2 (AObj.alive_of_mine e3)
      rw [Sig.ext_other _ _ _ _ e] at e1
      exact hn ⟨j, n, oj, e1, h4, e3⟩

end
end Go.Ev
