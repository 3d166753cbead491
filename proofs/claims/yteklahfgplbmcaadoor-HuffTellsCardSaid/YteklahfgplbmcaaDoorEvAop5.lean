/- append, copy, len, cap, min, max. -/
import Derived.Test.YteklahfgplbmcaaDoorEvAop4
namespace Go.Ev
section
variable {P : Program} (E : Env P)

def allOne : List RV → Bool
  | [] => true
  | x :: l => match x.one with | true => allOne l | false => false

theorem allOne_ok {σ : Sig} : ∀ {l : List RV} {vs : List Value}, allOne l = true → denL σ l = some vs → ∀ v ∈ vs, v.oneCell' = true
  | [], vs, _, h => by cases h; simp
  | x :: l, vs, ha, h => by
    obtain ⟨v, vs', h1, h2, rfl⟩ := denL_cons h
    unfold allOne at ha
    cases ho : x.one with
    | false => rw [ho] at ha; cases ha
    | true =>
      rw [ho] at ha
      intro u hu
      rcases List.mem_cons.1 hu with rfl | hu
      · exact one_den ho h1
      · exact allOne_ok ha h2 u hu

/-- The row that grows. -/
def growA (h : Tr AObj) (nx sz : Nat) (ol l : List RV) : Option (Tr AObj) := newRowA h nx (openRow (ol ++ l) sz)

theorem growA_ok {σ : Sig} {h h' : Tr AObj} {w : World} (r : HRel σ h w.heap) {nx sz : Nat} {ol l : List RV} {vo vl rest : List Value} (hg : growA h nx sz ol l = some h') (ho : denL σ ol = some vo) (hl : denL σ l = some vl) (N : Nat) (hN : (vo ++ vl ++ rest).length = N * sz) (e : TypeId) :
    Way σ h w (σ.ext nx (w.heap.size, N)) h' (w.alloc (.cells (vo ++ vl ++ rest).toArray e)) := by
  unfold growA newRowA openRow at hg
  cases hx : h.get nx with
  | some o => rw [hx] at hg; cases hg
  | none =>
    rw [hx] at hg
    simp only at hg
    cases hf : fillT .nil 0 (ol ++ l) with
    | none => rw [hf] at hg; cases hg
    | some t =>
      rw [hf] at hg
      simp only at hg
      have hle : σ.le (σ.ext nx (w.heap.size, N)) := Sig.le_ext (r.dom nx hx)
      have hd := denL_append (denL_mono hle _ _ ho) (denL_mono hle _ _ hl)
      have hlen := denL_length hd
      refine Way.alloc r N hx hg (fun _ => ⟨by simp at hlen ⊢; omega, ?_, fun h => by simp at h, fun _ => by simpa using hN, fun i hi => by simp⟩)
      exact fillT_rel hf hd _ _ (fun i v hv => by
        have := (List.getElem?_eq_some_iff.1 hv).1
        simp only [List.getElem?_toArray]
        rw [List.getElem?_append_left this]; exact hv)

theorem run_grow {w : World} {st et : Nat} {inf : TypeInfo} {x : Value} {base : Option Addr} {sLen sCap n : Nat} {zv : Value} {xt : Nat} {vo vl : List Value}
    (hu : E.und st = some (.slice et)) (hi : E.info et = some inf) (hx : (∃ e', E.und xt = some (.slice e')) ∨ E.und xt = some .string) (hn : (Builtin.lenOf x).run P w = .ok n w) (hnew : (Builtin.firstCells inf.size n x).run P w.drew = .ok vl.toArray w.drew)
    (hold : (Builtin.firstCells inf.size sLen (.slice base sLen sCap)).run P w.drew = .ok vo.toArray w.drew) (hz : (zeroValue et).run P w.drew = .ok zv w.drew) (hgt : sCap < sLen + n) (hb : (16 * (sLen + n) + 3000) * (inf.bytes + 1) ≤ 2 ^ 47) (ty : TypeId) :
    ∃ N, sLen + n ≤ N ∧ (Builtin.append_ #[st, xt] ty #[.slice base sLen sCap, x]).run P w = .ok (.slice (some ⟨w.heap.size, 0, none⟩) (sLen + n) N) (w.drew.alloc (.cells (vo ++ vl ++ times zv.cells.toList (N - (sLen + n))).toArray et)) := by
  have b1 : (16 * (sLen + n) + 3000) * inf.bytes ≤ 2 ^ 47 := Nat.le_trans (Nat.mul_le_mul_left _ (by omega)) hb
  have b2 : 16 * (sLen + n) + 3000 ≤ 2 ^ 47 := Nat.le_trans (Nat.le_mul_of_pos_right _ (by omega)) hb
  refine ⟨(Question.appendCap (sLen + n) sCap et).cut (w.tape w.drawn (.appendCap (sLen + n) sCap et)), by simp [Question.cut], ?_⟩
  generalize hN : (Question.appendCap (sLen + n) sCap et).cut (w.tape w.drawn (.appendCap (sLen + n) sCap et)) = N
  have c0 : ¬ (sLen + n ≤ sCap) := by omega
  have c1 : ¬ (9223372036854775807 < ((sLen : Int) + (n : Int))) := by omega
  have c2 : ¬ (281474976710656 < Builtin.nextslicecap (sLen + n) sCap * inf.bytes) := by
    have h1 := Ev.nextslicecap_le hgt
    have h2 : Builtin.nextslicecap (sLen + n) sCap * inf.bytes ≤ (16 * (sLen + n) + 3000) * inf.bytes := Nat.mul_le_mul_right _ h1
    omega
  have zs : ∀ n, Builtin.zeroCells zv.cells n = (times zv.cells.toList n).toArray := fun n => range_times _ _
  have hq : (Question.appendCap (sLen + n) sCap et).forced = false := rfl
  rcases hx with ⟨e', hk⟩ | hk
  all_goals
    simp [Builtin.append_, E.run_und hu, E.run_und hk, E.run_size hi, E.run_info hi, hn, c0, c1, c2, hq, hN, hold, hnew, hz, zs, newRow]

def room (n b : Nat) : Bool := Nat.ble ((16 * n + 3000) * (b + 1)) (2 ^ 47)
theorem room_ok {n b : Nat} (h : room n b = true) : (16 * n + 3000) * (b + 1) ≤ 2 ^ 47 := Nat.le_of_ble_eq_true h

attribute [irreducible] room

def isSeq (t : Nat) : Bool :=
  match E.und t with
  | some (.slice _) => true
  | some .string => true
  | _ => false
theorem isSeq_ok {t : Nat} (h : isSeq E t = true) : (∃ e', E.und t = some (.slice e')) ∨ E.und t = some .string := by
  unfold isSeq at h
  split at h
  · rename_i e he; exact .inl ⟨e, he⟩
  · rename_i he; exact .inr he
  · cases h

theorem run_fits {w w' : World} {st et : Nat} {inf : TypeInfo} {x : Value} {b off : Nat} {sLen sCap n : Nat} {xt : Nat} {vl : List Value}
    (hu : E.und st = some (.slice et)) (hi : E.info et = some inf) (hx : (∃ e', E.und xt = some (.slice e')) ∨ E.und xt = some .string) (hn : (Builtin.lenOf x).run P w = .ok n w) (hnew : (Builtin.firstCells inf.size n x).run P w = .ok vl.toArray w)
    (hle : sLen + n ≤ sCap) (hs : (storeCells ⟨b, off + sLen * inf.size, none⟩ vl).run P w = .ok () w') (ty : TypeId) :
    (Builtin.append_ #[st, xt] ty #[.slice (some ⟨b, off, none⟩) sLen sCap, x]).run P w = .ok (.slice (some ⟨b, off, none⟩) (sLen + n) sCap) w' := by
  rcases hx with ⟨e', hk⟩ | hk
  all_goals
    simp [Builtin.append_, E.run_und hu, E.run_und hk, E.run_size hi, hn, hle, hnew, addr_add, hs]

/-- An append. -/
def appendA (h : Tr AObj) (nx st xt : Nat) (s x : RV) : Option (RV × Tr AObj × Nat) :=
  match E.und st, isSeq E xt with
  | some (.slice et), true => (match E.info et, zeroOf E et with
    | some inf, some z => (match elemsA h inf.size x with
      | some (n, l) => (match Nat.beq z.length inf.size, allOne l with
        | true, true => (match s with
          | .slice0 => (match n with
            | 0 => some (.slice0, h, nx)
            | n + 1 => (match room (n + 1) inf.bytes, growA h nx inf.size [] l with
              | true, some h' => some (.slice nx 0 (n + 1) (.rest 0), h', nx + 1)
              | _, _ => none))
          | .slice id off len (.ex c) => (match Nat.ble (len + n) c with
            | true => (match putCells h id (off + len * inf.size) l with
              | some h' => some (.slice id off (len + n) (.ex c), h', nx)
              | none => none)
            | false => (match cellsAt h id off (len * inf.size) with
              | some ol => (match room (len + n) inf.bytes, growA h nx inf.size ol l with
                | true, some h' => some (.slice nx 0 (len + n) (.rest 0), h', nx + 1)
                | _, _ => none)
              | none => none))
          | .slice id off len (.rest k) => (match off, k, h.get id, cellsAt h id 0 (len * inf.size) with
            | 0, 0, some (.cells _ _ _ ex sz), some ol => (match ex, Nat.beq sz inf.size, Nat.blt 0 sz, room (len + n) inf.bytes, openAgain h id nx (ol ++ l) inf.size, growA h nx inf.size ol l with
              | false, true, true, true, some h', some _ => some (.slice nx 0 (len + n) (.rest 0), h', nx + 1)
              | _, _, _, _, _, _ => none)
            | _, _, _, _ => none)
          | _ => none)
        | _, _ => none)
      | none => none)
    | _, _ => none)
  | _, _ => none


/-- A number forgotten. -/
theorem Way.forget {σ σ' : Sig} {h h1 h2 : Tr AObj} {w w' : World} (a : Way σ h w σ' h1 w') {id : Nat} (h0 : h1.get id ≠ none) (hd : h2.get id = some .dead) (ho : ∀ j, j ≠ id → h2.get j = h1.get j) : Way σ h w σ' h2 w' := by
  have key : ∀ j o, h2.get j = some o → o.alive = true → h1.get j = some o := by
    intro j o hj ha
    by_cases e : j = id
    · subst e; rw [hd] at hj; cases hj; cases ha
    · rw [← ho j e]; exact hj
  refine ⟨a.le, ⟨fun j hj => ?_, ?_, ?_⟩, a.os, a.tape, a.output, a.size, fun b hb hn => ?_⟩
  · by_cases e : j = id
    · subst e; rw [hd] at hj; cases hj
    · exact a.rel.dom j (by rw [← ho j e]; exact hj)
  · intro i j b n m o o' hi hj hgi hgj ai aj
    exact a.rel.inj i j b n m o o' hi hj (key i o hgi ai) (key j o' hgj aj) ai aj
  · intro j o hj ha
    exact a.rel.obj j o (key j o hj ha) ha
  · obtain ⟨k1, k2⟩ := a.keeps b hb hn
    refine ⟨k1, ?_⟩
    rintro ⟨j, n, o, e1, e2, e3⟩
    exact k2 ⟨j, n, o, e1, key j o e2 (AObj.alive_of_mine e3), e3⟩

theorem Way.of_drew {σ σ' : Sig} {h h' : Tr AObj} {w w' : World} (a : Way σ h w.drew σ' h' w') : Way σ h w σ' h' w' :=
  ⟨a.le, a.rel, a.os, a.tape, a.output, a.size, a.keeps⟩

theorem den_slice {σ : Sig} {id off len : Nat} {cap : Cap} {v : Value} (h : den σ (.slice id off len cap) = some v) : ∃ b N, σ id = some (b, N) ∧ v = .slice (some ⟨b, off, none⟩) len (cap.den N) := by
  simp only [den] at h
  cases hs : σ id with
  | none => rw [hs] at h; cases h
  | some p => rw [hs] at h; simp only [Option.some.injEq] at h; exact ⟨p.1, p.2, rfl, h.symm⟩

theorem appendA_ok {σ : Sig} {h h' : Tr AObj} {w : World} (r : HRel σ h w.heap) {nx nx' st xt : Nat} {s x y : RV} (ha : appendA E h nx st xt s x = some (y, h', nx')) {vs vx : Value} (hs : den σ s = some vs) (hx : den σ x = some vx) (ty : TypeId) :
    ∃ σ' w' u, (Builtin.append_ #[st, xt] ty #[vs, vx]).run P w = .ok u w' ∧ den σ' y = some u ∧ Way σ h w σ' h' w' := by
  unfold appendA at ha
  split at ha <;> first | (cases ha; done) | skip
  rename_i et hu hseq
  have hk := isSeq_ok E hseq
  split at ha <;> first | (cases ha; done) | skip
  rename_i inf z hinf hz
  cases he : elemsA h inf.size x with
  | none => rw [he] at ha; cases ha
  | some nl =>
    obtain ⟨n, l⟩ := nl
    rw [he] at ha
    simp only at ha
    split at ha <;> first | (cases ha; done) | skip
    rename_i hzl hal
    have zl : z.length = inf.size := Nat.eq_of_beq_eq_true hzl
    obtain ⟨vl, e1, e2, e3, e4, _⟩ := elemsA_ok (P := P) r he hx
    obtain ⟨_, _, _, _, e4', _⟩ := elemsA_ok (P := P) (w := w.drew) r he hx
    have e4d : (Builtin.firstCells inf.size n vx).run P w.drew = .ok vl.toArray w.drew := by
      obtain ⟨vl', f1, _, _, f4, _⟩ := elemsA_ok (P := P) (w := w.drew) r he hx
      rw [e1] at f1
      cases f1
      exact f4
    obtain ⟨zv, z1, z2⟩ := zeroOf_ok E hz σ w.drew
    have zvl : zv.cells.toList.length = inf.size := by rw [denL_length z2]; exact zl
    have grows : ∀ (base : Option Addr) (sLen sCap : Nat) (ol : List RV) (vo : List Value) (h'' : Tr AObj), denL σ ol = some vo → vo.length = sLen * inf.size → (Builtin.firstCells inf.size sLen (.slice base sLen sCap)).run P w.drew = .ok vo.toArray w.drew → sCap < sLen + n →
        (16 * (sLen + n) + 3000) * (inf.bytes + 1) ≤ 2 ^ 47 → growA h nx inf.size ol l = some h'' →
        ∃ σ' w' u, (Builtin.append_ #[st, xt] ty #[.slice base sLen sCap, vx]).run P w = .ok u w' ∧ den σ' (.slice nx 0 (sLen + n) (.rest 0)) = some u ∧ Way σ h w σ' h'' w' := by
      intro base sLen sCap ol vo h'' ho hvo hold hgt hb hg
      obtain ⟨N, hN, hr⟩ := run_grow E hu hinf hk e3 e4d hold z1 hgt hb ty
      have hw := growA_ok (w := w.drew) r hg ho e1 N (rest := times zv.cells.toList (N - (sLen + n))) (by
        rw [List.length_append, List.length_append, times_length, zvl, hvo, e2, ← Nat.add_mul, ← Nat.add_mul]
        congr 1; omega) et
      exact ⟨_, _, _, hr, by simp [den, Sig.ext_same, Cap.den], hw.of_drew⟩
    split at ha <;> first | (cases ha; done) | skip
    · -- nil
      cases hs
      cases n with
      | zero =>
        simp only [Option.some.injEq, Prod.mk.injEq] at ha
        obtain ⟨rfl, rfl, rfl⟩ := ha
        have : vl = [] := List.length_eq_zero_iff.1 (by simpa using e2)
        subst this
        refine ⟨σ, w, .slice none 0 0, ?_, rfl, Way.refl r⟩
        rcases hk with ⟨e', hk⟩ | hk
        all_goals simp [Builtin.append_, E.run_und hu, E.run_und hk, E.run_size hinf, e3, e4]
      | succ n =>
        simp only at ha
        split at ha <;> first | (cases ha; done) | skip
        rename_i h'' hb hg
        simp only [Option.some.injEq, Prod.mk.injEq] at ha
        obtain ⟨rfl, rfl, rfl⟩ := ha
        have := grows none 0 0 [] [] _ rfl (by simp) rfl (by omega) (by rw [Nat.zero_add]; exact room_ok hb) hg
        rwa [Nat.zero_add] at this
    · -- a known capacity
      rename_i id off len c
      obtain ⟨b, N, hsg, rfl⟩ := den_slice hs
      split at ha
      · rename_i hle
        have hle' : len + n ≤ c := by
          revert hle; generalize len + n = q; intro hle; exact Nat.le_of_ble_eq_true hle
        split at ha <;> first | (cases ha; done) | skip
        rename_i h'' hp
        simp only [Option.some.injEq, Prod.mk.injEq] at ha
        obtain ⟨rfl, rfl, rfl⟩ := ha
        obtain ⟨w', g1, g2⟩ := putCells_ok (P := P) hsg (off + len * inf.size) l 0 r e1 hp
        exact ⟨σ, w', _, run_fits E hu hinf hk e3 e4 hle' g1 ty, by simp [den, hsg, Cap.den], g2⟩
      · rename_i hle
        have hgt : c < len + n := by
          rcases Nat.lt_or_ge c (len + n) with hh | hh
          · exact hh
          · rw [Nat.ble_eq_true_of_le hh] at hle; cases hle
        split at ha <;> first | (cases ha; done) | skip
        rename_i ol hc
        split at ha <;> first | (cases ha; done) | skip
        rename_i h'' hb hg
        simp only [Option.some.injEq, Prod.mk.injEq] at ha
        obtain ⟨rfl, rfl, rfl⟩ := ha
        obtain ⟨vo, o1, o2, o3⟩ := cellsAt_ok r hsg _ _ hc
        exact grows _ _ _ ol vo _ o1 o2 (run_loadCells_of o2 o3) hgt (room_ok hb) hg
    · -- an open row
      rename_i id off len k
      obtain ⟨b, N, hsg, rfl⟩ := den_slice hs
      split at ha <;> first | (cases ha; done) | skip
      rename_i n0 d0 t0 ex sz ol hget hc
      split at ha <;> first | (cases ha; done) | skip
      rename_i h'' h3 hsz hsp hb hag hg
      simp only [Option.some.injEq, Prod.mk.injEq] at ha
      obtain ⟨rfl, rfl, rfl⟩ := ha
      have hsz' : sz = inf.size := Nat.eq_of_beq_eq_true hsz
      have hsp' : 0 < sz := Nat.le_of_ble_eq_true hsp
      subst hsz'
      obtain ⟨vo, o1, o2, o3⟩ := cellsAt_ok r hsg _ _ hc
      have hb' := room_ok hb
      simp only [Cap.den, Nat.sub_zero]
      -- the new number
      unfold openAgain at hag
      split at hag <;> first | (cases hag; done) | skip
      rename_i hnx
      split at hag <;> first | (cases hag; done) | skip
      rename_i o hop
      split at hag <;> first | (cases hag; done) | skip
      rename_i h1 hs1
      obtain ⟨g1, g2⟩ := Tr.get_set hs1
      obtain ⟨f1, f2⟩ := Tr.get_set hag
      have hne : id ≠ nx := fun e => by rw [e, hnx] at hget; cases hget
      by_cases hfit : len + n ≤ N
      · obtain ⟨b', N', c, k1, k2, k3⟩ := r.obj id _ hget rfl
        rw [hsg] at k1
        simp only [Option.some.injEq, Prod.mk.injEq] at k1
        obtain ⟨rfl, rfl⟩ := k1
        cases c <;> simp only [ORel] at k3
        case cells c e fz =>
          obtain ⟨q1, q2, q3, q4, q5⟩ := k3
          have hcs : c.size = N * inf.size := q4 trivial
          have hroom : len * inf.size + n * inf.size ≤ N * inf.size := by rw [← Nat.add_mul]; exact Nat.mul_le_mul_right _ hfit
          obtain ⟨w', c', s1, s2, s3, s4, s5, s6, s7, s8, s9, s10⟩ := storeRaw (P := P) (0 + len * inf.size) vl 0 k2 q5 (allOne_ok hal e1) (by rw [e2, hcs]; omega)
          have hle := Sig.le_ext (p := (b, N)) (r.dom nx hnx)
          have hden := denL_append (denL_mono hle _ _ o1) (denL_mono hle _ _ e1)
          unfold openRow at hop
          split at hop <;> first | (cases hop; done) | skip
          rename_i t hf
          simp only [Option.some.injEq] at hop
          subst hop
          have hlen := denL_length hden
          refine ⟨_, w', _, run_fits E hu hinf hk e3 e4 hfit s1 ty, by simp [den, Sig.ext_same, Cap.den], Way.again r hget rfl hsg hnx hs1 hag s7 s8 s9 s10 s6 s2 ⟨?_, ?_, fun h => by simp at h, fun _ => by rw [s3, hcs], fun i hi => q5 i (by omega)⟩⟩
          · rw [List.length_append, o2, e2] at hlen
            omega
          · refine fillT_rel hf hden _ _ (fun i v hv => ?_)
            rcases Nat.lt_or_ge i vo.length with hi | hi
            · rw [List.getElem?_append_left hi] at hv
              rw [s5 i (by omega)]
              have := o3 i v hv
              simpa [World.cell?, k2] using this
            · rw [List.getElem?_append_right hi] at hv
              have := s4 _ v hv
              rwa [show 0 + len * inf.size + 0 + (i - vo.length) = i by omega] at this
      · obtain ⟨σ', w', u, m1, m2, m3⟩ := grows (some ⟨b, 0, none⟩) len N ol vo h3 o1 o2 (run_loadCells_of o2 o3) (by omega) hb' hg
        unfold growA newRowA at hg
        rw [hnx, hop] at hg
        simp only at hg
        obtain ⟨p1, p2⟩ := Tr.get_set hg
        refine ⟨σ', w', u, m1, m2, m3.forget (id := id) ?_ ?_ ?_⟩
        · rw [p2 id hne, hget]; simp
        · rw [f2 id hne, g1]
        · intro j hj
          by_cases e : j = nx
          · subst e; rw [f1, p1]
          · rw [f2 j e, g2 j hj, p2 j e]

end
end Go.Ev
