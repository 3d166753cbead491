/- An append of a row that is made on the way: so many noughts. -/
import Derived.Test.YteklahfgplbmcaaDoorEvAop6
namespace Go.Ev
section
variable {P : Program} (E : Env P)

def isIntT (t : Nat) : Bool := match E.und t with | some (.int _) => true | _ => false
theorem isIntT_ok {t : Nat} (h : isIntT E t = true) : ∃ k, E.und t = some (.int k) := by
  unfold isIntT at h
  split at h
  · rename_i k hk; exact ⟨k, hk⟩
  · cases h

theorem run_growM {w : World} {st et xt : Nat} {inf : TypeInfo} {k k0 : IntKind} {base : Option Addr} {sLen sCap n : Nat} {zv : Value} {vo : List Value}
    (hu : E.und st = some (.slice et)) (hi : E.info et = some inf) (hk : E.und xt = some (.int k0)) (hp : 0 < inf.size)
    (hold : (Builtin.firstCells inf.size sLen (.slice base sLen sCap)).run P w.drew = .ok vo.toArray w.drew) (hz : (zeroValue et).run P w.drew = .ok zv w.drew) (hgt : sCap < sLen + n) (hb : (16 * (sLen + n) + 3000) * (inf.bytes + 1) ≤ 2 ^ 47) (ty : TypeId) :
    ∃ N, sLen + n ≤ N ∧ (Builtin.append_ #[st, xt] ty #[.slice base sLen sCap, .int k (n : Int)]).run P w = .ok (.slice (some ⟨w.heap.size, 0, none⟩) (sLen + n) N) (w.drew.alloc (.cells (vo ++ times zv.cells.toList n ++ times zv.cells.toList (N - (sLen + n))).toArray et)) := by
  have b1 : (16 * (sLen + n) + 3000) * inf.bytes ≤ 2 ^ 47 := Nat.le_trans (Nat.mul_le_mul_left _ (by omega)) hb
  have b2 : 16 * (sLen + n) + 3000 ≤ 2 ^ 47 := Nat.le_trans (Nat.le_mul_of_pos_right _ (by omega)) hb
  have b3 : n * inf.bytes ≤ 2 ^ 47 := Nat.le_trans (Nat.mul_le_mul_right _ (by omega)) b1
  refine ⟨(Question.appendCap (sLen + n) sCap et).cut (w.tape w.drawn (.appendCap (sLen + n) sCap et)), by simp [Question.cut], ?_⟩
  generalize hN : (Question.appendCap (sLen + n) sCap et).cut (w.tape w.drawn (.appendCap (sLen + n) sCap et)) = N
  have hw : IntKind.i64.wrap (n : Int) = (n : Int) := by rw [IntKind.wrap_i64]; omega
  have c3 : ¬ ((n : Int) < 0) := by omega
  have c4 : ¬ (281474976710656 < (n : Int) * (inf.bytes : Int)) := by
    rw [← Int.natCast_mul]; omega
  have c1 : ¬ (9223372036854775807 < ((sLen : Int) + (n : Int))) := by omega
  have c2 : ¬ (281474976710656 < Builtin.nextslicecap (sLen + n) sCap * inf.bytes) := by
    have h1 := Ev.nextslicecap_le hgt
    have h2 : Builtin.nextslicecap (sLen + n) sCap * inf.bytes ≤ (16 * (sLen + n) + 3000) * inf.bytes := Nat.mul_le_mul_right _ h1
    omega
  have c0 : ¬ (sLen + n ≤ sCap) := by omega
  have c6 : (n : Int).toNat = n := rfl
  have zs : ∀ n, Builtin.zeroCells zv.cells n = (times zv.cells.toList n).toArray := fun n => range_times _ _
  have hq : (Question.appendCap (sLen + n) sCap et).forced = false := rfl
  by_cases hn : n = 0
  · subst hn
    have d0 : ¬ (sLen ≤ sCap) := by omega
    have d1 : ¬ (9223372036854775807 < (sLen : Int)) := by omega
    have d2 : ¬ (281474976710656 < Builtin.nextslicecap sLen sCap * inf.bytes) := by simpa using c2
    have d3 : (Question.appendCap sLen sCap et).cut (w.tape w.drawn (.appendCap sLen sCap et)) = N := by simpa using hN
    have d4 : (Question.appendCap sLen sCap et).forced = false := rfl
    have d5 : IntKind.i64.wrap 0 = 0 := by rw [IntKind.wrap_i64]; rfl
    simp [Builtin.append_, asInt, asIntOf, E.run_und hu, E.run_und hk, E.run_size hi, E.run_info hi, d0, d1, d2, d3, d4, d5, hold, hz, zs, newRow, times]
  · have c5 : ¬ (n * inf.size = 0) := by
      have := Nat.mul_pos (show 0 < n by omega) hp
      omega
    simp [Builtin.append_, asInt, asIntOf, E.run_und hu, E.run_und hk, E.run_size hi, E.run_info hi, hw, c0, c1, c2, c3, c4, c5, c6, hq, hN, hold, hz, zs, newRow]
theorem run_fitsM {w w' : World} {st et xt : Nat} {inf : TypeInfo} {k k0 : IntKind} {b off : Nat} {sLen sCap n : Nat} {zv : Value}
    (hu : E.und st = some (.slice et)) (hi : E.info et = some inf) (hk : E.und xt = some (.int k0)) (hp : 0 < inf.size) (hz : (zeroValue et).run P w = .ok zv w) (hb : (16 * (sLen + n) + 3000) * (inf.bytes + 1) ≤ 2 ^ 47)
    (hle : sLen + n ≤ sCap) (hs : (storeCells ⟨b, off + sLen * inf.size, none⟩ (times zv.cells.toList n)).run P w = .ok () w') (ty : TypeId) :
    (Builtin.append_ #[st, xt] ty #[.slice (some ⟨b, off, none⟩) sLen sCap, .int k (n : Int)]).run P w = .ok (.slice (some ⟨b, off, none⟩) (sLen + n) sCap) w' := by
  have b1 : (16 * (sLen + n) + 3000) * inf.bytes ≤ 2 ^ 47 := Nat.le_trans (Nat.mul_le_mul_left _ (by omega)) hb
  have b2 : 16 * (sLen + n) + 3000 ≤ 2 ^ 47 := Nat.le_trans (Nat.le_mul_of_pos_right _ (by omega)) hb
  have b3 : n * inf.bytes ≤ 2 ^ 47 := Nat.le_trans (Nat.mul_le_mul_right _ (by omega)) b1
  have hw : IntKind.i64.wrap (n : Int) = (n : Int) := by rw [IntKind.wrap_i64]; omega
  have c3 : ¬ ((n : Int) < 0) := by omega
  have c4 : ¬ (281474976710656 < (n : Int) * (inf.bytes : Int)) := by
    rw [← Int.natCast_mul]; omega
  have zs : ∀ n, Builtin.zeroCells zv.cells n = (times zv.cells.toList n).toArray := fun n => range_times _ _
  by_cases hn : n = 0
  · subst hn
    have hle' : sLen ≤ sCap := by omega
    have d5 : IntKind.i64.wrap 0 = 0 := by rw [IntKind.wrap_i64]; rfl
    simp only [times] at hs
    simp [Builtin.append_, asInt, asIntOf, E.run_und hu, E.run_und hk, E.run_size hi, E.run_info hi, d5, hle', addr_add, hs]
  · have c5 : ¬ (n * inf.size = 0) := by
      have := Nat.mul_pos (show 0 < n by omega) hp
      omega
    simp [Builtin.append_, asInt, asIntOf, E.run_und hu, E.run_und hk, E.run_size hi, E.run_info hi, hw, hle, c3, c4, c5, hz, zs, addr_add, hs]

def appendM (h : Tr AObj) (nx st xt : Nat) (s x : RV) : Option (RV × Tr AObj × Nat) :=
  match isIntT E xt, E.und st with
  | true, some (.slice et) => (match x, E.info et, zeroOf E et with
    | .int _ (.ofNat n), some inf, some z => (match Nat.beq z.length inf.size, Nat.blt 0 inf.size, allOne z with
      | true, true, true => (match s with
        | .slice0 => (match n with
          | 0 => none
          | n + 1 => (match room (n + 1) inf.bytes, growA h nx inf.size [] (times z (n + 1)) with
            | true, some h' => some (.slice nx 0 (n + 1) (.rest 0), h', nx + 1)
            | _, _ => none))
        | .slice id off len (.rest k) => (match off, k, h.get id, cellsAt h id 0 (len * inf.size) with
            | 0, 0, some (.cells _ _ _ ex sz), some ol => (match ex, Nat.beq sz inf.size, room (len + n) inf.bytes, openAgain h id nx (ol ++ times z n) inf.size, growA h nx inf.size ol (times z n) with
              | false, true, true, some h', some _ => some (.slice nx 0 (len + n) (.rest 0), h', nx + 1)
              | _, _, _, _, _ => none)
            | _, _, _, _ => none)
        | _ => none)
      | _, _, _ => none)
    | _, _, _ => none)
  | _, _ => none

theorem allOne_append : ∀ (a b : List RV), allOne (a ++ b) = (allOne a && allOne b)
  | [], b => rfl
  | x :: a, b => by
    simp only [List.cons_append, allOne]
    cases x.one with
    | true => exact allOne_append a b
    | false => rfl
theorem allOne_times {z : List RV} (h : allOne z = true) : ∀ n, allOne (times z n) = true
  | 0 => rfl
  | n + 1 => by rw [times, allOne_append, h, allOne_times h n]; rfl

theorem appendM_ok {σ : Sig} {h h' : Tr AObj} {w : World} (r : HRel σ h w.heap) {nx nx' st xt : Nat} {s x y : RV} (ha : appendM E h nx st xt s x = some (y, h', nx')) {vs vx : Value} (hs : den σ s = some vs) (hx : den σ x = some vx) (ty : TypeId) :
    ∃ σ' w' u, (Builtin.append_ #[st, xt] ty #[vs, vx]).run P w = .ok u w' ∧ den σ' y = some u ∧ Way σ h w σ' h' w' := by
  unfold appendM at ha
  split at ha <;> first | (cases ha; done) | skip
  rename_i et hk hu
  obtain ⟨k0, hk⟩ := isIntT_ok E hk
  split at ha <;> first | (cases ha; done) | skip
  rename_i k n inf z hinf hz
  cases hx
  split at ha <;> first | (cases ha; done) | skip
  rename_i hzl hp hone
  have zl : z.length = inf.size := Nat.eq_of_beq_eq_true hzl
  have hp : 0 < inf.size := Nat.le_of_ble_eq_true hp
  have hn0 : Int.ofNat n = (n : Int) := rfl
  rw [hn0]
  obtain ⟨zv, z1, z2⟩ := zeroOf_ok E hz σ w.drew
  obtain ⟨zv', z1', z2'⟩ := zeroOf_ok E hz σ w
  have zvl : zv.cells.toList.length = inf.size := by rw [denL_length z2]; exact zl
  have grows : ∀ (base : Option Addr) (sLen sCap n : Nat) (ol : List RV) (vo : List Value) (h'' : Tr AObj), denL σ ol = some vo → vo.length = sLen * inf.size → (Builtin.firstCells inf.size sLen (.slice base sLen sCap)).run P w.drew = .ok vo.toArray w.drew → sCap < sLen + n →
      (16 * (sLen + n) + 3000) * (inf.bytes + 1) ≤ 2 ^ 47 → growA h nx inf.size ol (times z n) = some h'' →
      ∃ σ' w' u, (Builtin.append_ #[st, xt] ty #[.slice base sLen sCap, .int k (n : Int)]).run P w = .ok u w' ∧ den σ' (.slice nx 0 (sLen + n) (.rest 0)) = some u ∧ Way σ h w σ' h'' w' := by
    intro base sLen sCap n ol vo h'' ho hvo hold hgt hb hg
    obtain ⟨N, hN, hr⟩ := run_growM E (k := k) hu hinf hk hp hold z1 hgt hb ty
    have hw := growA_ok (w := w.drew) r hg ho (denL_times z2 n) N (rest := times zv.cells.toList (N - (sLen + n))) (by
      rw [List.length_append, List.length_append, times_length, times_length, zvl, hvo, ← Nat.add_mul, ← Nat.add_mul]
      congr 1; omega) et
    exact ⟨_, _, _, hr, by simp [den, Sig.ext_same, Cap.den], hw.of_drew⟩
  split at ha <;> first | (cases ha; done) | skip
  · cases hs
    split at ha <;> first | (cases ha; done) | skip
    rename_i n
    split at ha <;> first | (cases ha; done) | skip
    rename_i h'' hb hg
    simp only [Option.some.injEq, Prod.mk.injEq] at ha
    obtain ⟨rfl, rfl, rfl⟩ := ha
    have := grows none 0 0 (n + 1) [] [] _ rfl (by simp) rfl (by omega) (by rw [Nat.zero_add]; exact room_ok hb) hg
    rwa [Nat.zero_add] at this
  · rename_i id off len kk
    obtain ⟨b, N, hsg, rfl⟩ := den_slice hs
    split at ha <;> first | (cases ha; done) | skip
    rename_i n0 d0 t0 ex sz ol hget hc
    split at ha <;> first | (cases ha; done) | skip
    rename_i h'' h3 hsz hb hag hg
    simp only [Option.some.injEq, Prod.mk.injEq] at ha
    obtain ⟨rfl, rfl, rfl⟩ := ha
    have hsz' : sz = inf.size := Nat.eq_of_beq_eq_true hsz
    subst hsz'
    obtain ⟨vo, o1, o2, o3⟩ := cellsAt_ok r hsg _ _ hc
    have hb' := room_ok hb
    have e1 : denL σ (times z n) = some (times zv'.cells.toList n) := denL_times z2' n
    have zvl' : zv'.cells.toList.length = inf.size := by rw [denL_length z2']; exact zl
    have e2 : (times zv'.cells.toList n).length = n * inf.size := by rw [times_length, zvl']
    have hal := allOne_times hone n
    simp only [Cap.den, Nat.sub_zero]
    unfold openAgain at hag
    split at hag <;> first | (cases hag; done) | skip
    rename_i hnx
    split at hag <;> first | (cases hag; done) | skip
    rename_i o hop
    split at hag <;> first | (cases hag; done) | skip
    rename_i h1 hs1
    obtain ⟨g1, g2⟩ := Tr.get_set hs1
    obtain ⟨f1, f2⟩ := Tr.get_set hag
    have hne : id ≠ nx := fun e => by rw [e, hnx] at hget; cases hget
    by_cases hfit : len + n ≤ N
    · obtain ⟨b', N', c, k1, k2, k3⟩ := r.obj id _ hget rfl
      rw [hsg] at k1
      simp only [Option.some.injEq, Prod.mk.injEq] at k1
      obtain ⟨rfl, rfl⟩ := k1
      cases c <;> simp only [ORel] at k3
      case cells c e fz =>
        obtain ⟨q1, q2, q3, q4, q5⟩ := k3
        have hcs : c.size = N * inf.size := q4 trivial
        have hroom : len * inf.size + n * inf.size ≤ N * inf.size := by rw [← Nat.add_mul]; exact Nat.mul_le_mul_right _ hfit
        obtain ⟨w', c', s1, s2, s3, s4, s5, s6, s7, s8, s9, s10⟩ := storeRaw (P := P) (0 + len * inf.size) (times zv'.cells.toList n) 0 k2 q5 (allOne_ok hal e1) (by rw [e2, hcs]; omega)
        have hle := Sig.le_ext (p := (b, N)) (r.dom nx hnx)
        have hden := denL_append (denL_mono hle _ _ o1) (denL_mono hle _ _ e1)
        unfold openRow at hop
        split at hop <;> first | (cases hop; done) | skip
        rename_i t hf
        simp only [Option.some.injEq] at hop
        subst hop
        have hlen := denL_length hden
        refine ⟨_, w', _, run_fitsM E hu hinf hk hp z1' hb' hfit s1 ty, by simp [den, Sig.ext_same, Cap.den], Way.again r hget rfl hsg hnx hs1 hag s7 s8 s9 s10 s6 s2 ⟨?_, ?_, fun h => by simp at h, fun _ => by rw [s3, hcs], fun i hi => q5 i (by omega)⟩⟩
        · rw [List.length_append, o2, e2] at hlen
          omega
        · refine fillT_rel hf hden _ _ (fun i v hv => ?_)
          rcases Nat.lt_or_ge i vo.length with hi | hi
          · rw [List.getElem?_append_left hi] at hv
            rw [s5 i (by omega)]
            have := o3 i v hv
            simpa [World.cell?, k2] using this
          · rw [List.getElem?_append_right hi] at hv
            have := s4 _ v hv
            rwa [show 0 + len * inf.size + 0 + (i - vo.length) = i by omega] at this
    · obtain ⟨σ', w', u, m1, m2, m3⟩ := grows (some ⟨b, 0, none⟩) len N n ol vo h3 o1 o2 (run_loadCells_of o2 o3) (by omega) hb' hg
      unfold growA newRowA at hg
      rw [hnx, hop] at hg
      simp only at hg
      obtain ⟨p1, p2⟩ := Tr.get_set hg
      refine ⟨σ', w', u, m1, m2, m3.forget (id := id) ?_ ?_ ?_⟩
      · rw [p2 id hne, hget]; simp
      · rw [f2 id hne, g1]
      · intro j hj
        by_cases e : j = nx
        · subst e; rw [f1, p1]
        · rw [f2 j e, g2 j hj, p2 j e]
end
end Go.Ev
