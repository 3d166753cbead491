/- A call that is known by a run of its own: nothing of it is done again. -/
import Derived.Test.YtfeoafcghjpapaaDoorEvLaid
namespace Go.Ev
def noMine : Tr AObj → Bool
  | .nil => true
  | .node l a r => (match (match a with | some o => !o.mine | none => true), noMine l with | true, true => noMine r | _, _ => false)
theorem noMine_ok : ∀ {h : Tr AObj}, noMine h = true → ∀ id o, h.getC id = some o → o.mine = false
  | .nil, _, id, o, h => by cases h
  | .node l a r, hn, id, o, h => by
    unfold noMine at hn
    split at hn <;> first | (cases hn; done) | skip
    rename_i h1 h2
    cases id with
    | zero =>
      simp only [Tr.getC] at h
      subst h
      simpa using h1
    | succ m =>
      simp only [Tr.getC] at h
      split at h
      · exact noMine_ok h2 _ o h
      · exact noMine_ok hn _ o h

def scalV : RV → Bool
  | .bool _ | .int _ _ | .str _ | .ptr0 | .slice0 | .nilFunc | .nilIface => true
  | _ => false
theorem scalV_den {v : RV} (h : scalV v = true) (σ σ' : Sig) : den σ v = den σ' v := by
  cases v <;> first | rfl | (cases h; done)
def scalT : Tr RV → Bool
  | .nil => true
  | .node l a r => (match (match a with | some o => scalV o | none => true), scalT l with | true, true => scalT r | _, _ => false)
theorem scalT_ok : ∀ {h : Tr RV}, scalT h = true → ∀ id o, h.getC id = some o → scalV o = true
  | .nil, _, id, o, h => by cases h
  | .node l a r, hn, id, o, h => by
    unfold scalT at hn
    split at hn <;> first | (cases hn; done) | skip
    rename_i h1 h2
    cases id with
    | zero =>
      simp only [Tr.getC] at h
      subst h
      simpa using h1
    | succ m =>
      simp only [Tr.getC] at h
      split at h
      · exact scalT_ok h2 _ o h
      · exact scalT_ok hn _ o h
/-- What is known ahead: variables that are read alone, of plain things, or nothing. -/
def plainO : AObj → Bool
  | .ro _ d t => (match scalV d with | true => scalT t | false => false)
  | .dead => true
  | _ => false
theorem plainO_ro {n : Nat} {d : RV} {t : Tr RV} (h : plainO (.ro n d t) = true) : scalV d = true ∧ scalT t = true := by
  unfold plainO at h
  simp only at h
  cases hd : scalV d with
  | false => rw [hd] at h; cases h
  | true => rw [hd] at h; exact ⟨rfl, h⟩
/-- Two memories are one below a number, and plain there. -/
def agreeN (h h0 : Tr AObj) : Nat → Bool
  | 0 => true
  | n + 1 => match h.get n, h0.get n with
    | some a, some b => (match plainO b, beqO a b with | true, true => agreeN h h0 n | _, _ => false)
    | _, _ => false
theorem agreeN_ok {h h0 : Tr AObj} : ∀ {n : Nat}, agreeN h h0 n = true → ∀ g, g < n → ∃ o, h.get g = some o ∧ h0.get g = some o ∧ plainO o = true
  | n + 1, ha, g, hg => by
    unfold agreeN at ha
    split at ha <;> first | (cases ha; done) | skip
    rename_i a b h1 h2
    split at ha <;> first | (cases ha; done) | skip
    rename_i hp hb
    have := beqO_ok _ _ hb
    subst this
    by_cases e : g = n
    · subst e; exact ⟨a, h1, h2, hp⟩
    · exact agreeN_ok ha g (by omega)
/-- Nothing stands from a number on. -/
def topT (n : Nat) (h : Tr AObj) : Prop := ∀ id, n ≤ id → h.get id = none

section
variable {P : Program}

theorem orc_way {E : Env P} {n : Nat} {h0 h1 : Tr AObj} {nx1 f : Nat} {args : List RV} {v : RV} {u : Value} {vs0 : List Value} (hc : callR E n h0 E.gl f args = some (v, h1, nx1)) (hu : ∀ σ, den σ v = some u) (hargs : ∀ σ, denL σ args = some vs0)
    (htop : topT E.gl h0) {h : Tr AObj} (hag : agreeN h h0 E.gl = true) {σ : Sig} {w : World} (r : HRel σ h w.heap) (g : GOk E σ) :
    Calls P f vs0.toArray w fun e w' => e = .returned u ∧ Way σ h w σ h w' := by
  have low : ∀ id o, h0.get id = some o → id < E.gl := fun id o hid => by
    rcases Nat.lt_or_ge id E.gl with hl | hl
    · exact hl
    · rw [htop id hl] at hid; cases hid
  have ag : ∀ id o, h0.get id = some o → h.get id = some o ∧ plainO o = true := fun id o hid => by
    obtain ⟨o', h2, h3, h4⟩ := agreeN_ok hag id (low id o hid)
    rw [hid] at h3
    cases h3
    exact ⟨h2, h4⟩
  have notmine : ∀ o, plainO o = true → o.mine = false := fun o ho => by cases o <;> first | rfl | (cases ho; done)
  have s0 : ∀ id, id < E.gl → (if id < E.gl then σ id else none) = σ id := fun id hid => by rw [if_pos hid]
  have r0 : HRel (fun id => if id < E.gl then σ id else none) h0 w.heap := by
    refine ⟨fun id hid => ?_, fun i j b p q o o' hi hj hgi hgj ai aj => ?_, fun id o hid ha => ?_⟩
    · by_cases hl : id < E.gl
      · obtain ⟨o, _, h3, _⟩ := agreeN_ok hag id hl
        rw [hid] at h3; cases h3
      · simp [hl]
    · rw [s0 i (low i o hgi)] at hi
      rw [s0 j (low j o' hgj)] at hj
      exact r.inj i j b p q o o' hi hj (ag i o hgi).1 (ag j o' hgj).1 ai aj
    · obtain ⟨h2, hp⟩ := ag id o hid
      obtain ⟨b, N, c, g1, g2, g3⟩ := r.obj id o h2 ha
      refine ⟨b, N, c, by simp only [s0 id (low id o hid)]; exact g1, g2, ?_⟩
      cases o <;> first | (cases hp; done) | (cases ha; done) | skip
      rename_i n d t
      obtain ⟨hd, hp⟩ := plainO_ro hp
      cases c <;> simp only [ORel] at g3 ⊢
      case cells c e fz =>
        intro i hi
        obtain ⟨v, hv, hcv⟩ := g3 i hi
        refine ⟨v, ?_, hcv⟩
        rw [← hv]
        refine scalV_den ?_ _ _
        rw [Tr.get_getC]
        cases ht : t.getC i with
        | none => exact hd
        | some x => exact scalT_ok hp i x ht
  have g0 : GOk E (fun id => if id < E.gl then σ id else none) := fun k hk => by
    obtain ⟨n, hn⟩ := g k hk
    exact ⟨n, by simp only [s0 k hk]; exact hn⟩
  refine (callR_ok hc r0 g0 (hargs _)).mono fun e w' ⟨σ1, u1, e1, e2, e3⟩ => ?_
  rw [hu σ1] at e2
  cases e2
  have keep : ∀ b, b < w.heap.size → w'.heap[b]? = w.heap[b]? := fun b hb => by
    refine (e3.keeps b hb ?_).1
    rintro ⟨id, n, o, _, hid, hm⟩
    rw [notmine o (ag id o hid).2] at hm
    cases hm
  refine ⟨e1, Sig.le_refl σ, ⟨r.dom, r.inj, fun id o hid ha => ?_⟩, e3.os, e3.tape, e3.output, e3.size, fun b hb hn => ⟨keep b hb, hn⟩⟩
  obtain ⟨b, N, c, g1, g2, g3⟩ := r.obj id o hid ha
  exact ⟨b, N, c, g1, by rw [keep b (Array.getElem?_eq_some_iff.1 g2).1]; exact g2, g3⟩

/-- The same program, where one call is known. -/
noncomputable def Env.orc (E : Env P) (n : Nat) (h0 : Tr AObj) (f : Nat) (args : List RV) (v : RV) (u : Value) (vs0 : List Value) (hc : ∃ h1 nx1, callR E n h0 E.gl f args = some (v, h1, nx1)) (hu : ∀ σ, den σ v = some u) (hargs : ∀ σ, denL σ args = some vs0)
    (htop : topT E.gl h0) : Env P where
  info := E.info
  info_ok := E.info_ok
  func := E.func
  func_ok := E.func_ok
  gl := E.gl
  big := fun g => match Nat.beq g f with | true => true | false => E.big g
  mixed := E.mixed
  cl := fun h nx g as => match Nat.beq g f with
    | true => (match beqVs as args, agreeN h h0 E.gl with | true, true => some (v, h, nx) | _, _ => E.cl h nx g as)
    | false => E.cl h nx g as
  cl_ok := fun {h h' nx nx' g as v'} e {σ w} r gg vs hd => by
    -- by cases
    split at e
    · rename_i hf
      split at e
      · rename_i h1 h2
        simp only [Option.some.injEq, Prod.mk.injEq] at e
        obtain ⟨rfl, rfl, rfl⟩ := e
        have := Nat.eq_of_beq_eq_true hf
        subst this
        have := beqVs_ok _ _ h1
        subst this
        obtain ⟨k1, k2, hcc⟩ := hc
        have hv := hd
        rw [hargs σ] at hv
        cases hv
        exact (orc_way hcc hu hargs htop h2 r gg).mono fun e w' ⟨x1, x2⟩ => ⟨σ, u, x1, hu σ, x2⟩
      · exact E.cl_ok e r gg hd
    · exact E.cl_ok e r gg hd
end
end Go.Ev
namespace Go.Ev
/-- All numbers of a memory are below one. -/
def belowT (n : Nat) : Nat → Nat → Tr AObj → Bool
  | _, _, .nil => true
  | off, st, .node l a r => match (match a with | some _ => Nat.blt off n | none => true), belowT n (off + st) (2 * st) l with
    | true, true => belowT n (off + 2 * st) (2 * st) r
    | _, _ => false
theorem belowT_ok {n : Nat} : ∀ {h : Tr AObj} {off st : Nat}, belowT n off st h = true → ∀ id o, h.getC id = some o → off + st * id < n
  | .nil, _, _, _, id, o, h => by cases h
  | .node l a r, off, st, hb, id, o, h => by
    unfold belowT at hb
    split at hb <;> first | (cases hb; done) | skip
    rename_i h1 h2
    cases id with
    | zero =>
      simp only [Tr.getC] at h
      subst h
      simp only [Nat.mul_zero, Nat.add_zero]
      exact Nat.le_of_ble_eq_true h1
    | succ m =>
      simp only [Tr.getC] at h
      have e : m = 2 * (m / 2) + m % 2 := by omega
      split at h
      · rename_i hm
        have := belowT_ok h2 _ o h
        have e2 : off + st * (m + 1) = off + st + 2 * st * (m / 2) := by
          rw [show m + 1 = 2 * (m / 2) + 1 by omega, Nat.mul_add, Nat.mul_one]
          rw [show st * (2 * (m / 2)) = 2 * st * (m / 2) by rw [← Nat.mul_assoc, Nat.mul_comm st 2]]
          omega
        omega
      · rename_i k hm
        have := belowT_ok hb _ o h
        have e2 : off + st * (m + 1) = off + 2 * st + 2 * st * (m / 2) := by
          rw [show m + 1 = 2 * (m / 2) + 2 by omega, Nat.mul_add]
          rw [show st * (2 * (m / 2)) = 2 * st * (m / 2) by rw [← Nat.mul_assoc, Nat.mul_comm st 2]]
          omega
        omega
theorem topT_ok {n : Nat} {h : Tr AObj} (hb : belowT n 0 1 h = true) : topT n h := by
  intro id hid
  rw [Tr.get_getC]
  cases hg : h.getC id with
  | none => rfl
  | some o =>
    have := belowT_ok hb id o hg
    omega
end Go.Ev
