/- The iterators over a number's bits and over bytes' bits. -/
import Derived.Test.YthngicplclecpaaOo
import Derived.Test.YthngicplclecpaaBiPut
import Derived.Test.YthngicplclecpaaBiSrc
namespace Go.Proofs.Ythngicplclecpaa.Bi
open Go Go.ChangeShapes Go.WideShapes Go.ChangeAt Go.RowKit Go.Shelf Go.Proofs.Ythngicplclecpaa.Oo

attribute [local go_sem] Oper.semAt_some

theorem room_any {F : Fence} (hd : F.depth = none) (k : Nat) : F.room k := fun d h => by rw [hd] at h; cases h
theorem yield_any {F : Fence} (hd : F.depth = none) {m : Nat} (m' : Nat) {P : Program} {l : Nat} {args : Array Value} {W : World} {R : Ending → World → Prop} (h : YieldAt F m P l args W R) : YieldAt F m' P l args W R := by
  obtain ⟨fn, tmps, assign, body, hy, hR⟩ := h
  exact ⟨fn, tmps, assign, body, hy, hR.1, fun c cs _ => hR.2 c cs (room_any hd _)⟩
theorem yield_in {F : Fence} {m : Nat} (l' : Nat) {P : Program} {l : Nat} {args : Array Value} {W : World} {R : Ending → World → Prop} (h : YieldAt F m P l args W R) : YieldAt (F.inRound l') m P l args W R := h

/-! ### A number's bits -/
def dg (X : Int) (s k : Nat) : Int := X / 2 ^ (s - 1 - k) % 2
set_option maxRecDepth 100000 in
set_option maxHeartbeats 1000000 in
theorem dig_gives (F : Fence) (n : Nat) (h40 : F.fn 19) (hro : F.round = none) (hn : 1 ≤ n) (Bs Bx : Nat) (X : Int) (s : Nat) (x0 : 0 ≤ X) (x1 : X ≤ 9223372036854775807) (s1 : s ≤ 63) (R : Nat → Obj → Prop) (hR3 : ∀ k v, R k (.cells #[v] 3))
    (w : World) (hs : Boxed w Bs 3 (.int .i64 s)) (hx : Boxed w Bx 3 (.int .i64 X)) :
    Gives F n Try.prog 19 #[.pointer (some ⟨Bs, 0, none⟩), .pointer (some ⟨Bx, 0, none⟩)] (fun x : Int => #[Value.int .u8 x]) (dg X s) s R w := by
  intro l J W hW hl hJ hY h0
  have hs' : Boxed W Bs 3 (.int .i64 s) := (hW.block Bs hs.lt).trans hs
  have hx' : Boxed W Bx 3 (.int .i64 X) := (hW.block Bx hx.lt).trans hx
  have hsc := hs'.cell
  refine callsIn_of_wp Try.func19 rfl h40 ?_ hro
  simp only [Try.ntmps19, List.size_toArray, List.length_cons, List.length_nil, Nat.reduceAdd, Nat.reduceSub, Array.replicate_succ, Array.replicate_zero, List.push_toArray, List.append_toArray, List.nil_append, List.cons_append]
  gi_wp2
  gi_loopw [4] (fun p wr => ∃ m : Nat, p = .int .i64 ((m : Int) - 1) ∧ m ≤ s ∧ Boxed wr Bx 3 (.int .i64 X) ∧ J (s - m) wr)
    (fun p _ => (intOf p + 1).toNat)
  case atStart =>
    exact ⟨s, rfl, Nat.le_refl _, hx', by rw [Nat.sub_self]; exact h0⟩
  case round =>
    obtain ⟨m, rfl, hm, hB, hJs⟩ := hrel
    have hBc := hB.cell
    cases m with
    | zero =>
      simp only [Int.natCast_zero, Int.zero_sub]
      gi_wp2
      go_end0
      exact ⟨⟨_, rfl⟩, hJs⟩
    | succ k =>
      rw [show ((k + 1 : Nat) : Int) - 1 = (k : Int) by omega]
      have hsb := shr_bd x0 x1 k
      have hand := and_one64 hsb.1 hsb.2
      obtain ⟨fn, tmps, assign, body, hy, hR⟩ := hY (s - (k + 1)) wr (by omega) hJs
      rw [show dg X s (s - (k + 1)) = X / 2 ^ k % 2 by unfold dg; rw [show s - 1 - (s - (k + 1)) = k by omega]] at hy
      rw [show s - (k + 1) + 1 = s - k by omega] at hR
      obtain ⟨d, hd⟩ : ∃ d, X / 2 ^ k % 2 = d := ⟨_, rfl⟩
      have hd0 : 0 ≤ d ∧ d ≤ 1 := by omega
      rw [hd] at hand hy
      obtain ⟨e0, e1⟩ := hd0
      obtain ⟨y0, y1⟩ := hsb
      clear hd
      gi_wp2
      refine hR.mono ?_
      rintro e W3 ⟨rfl, hJ3, hk3⟩
      have hB3 : Boxed W3 Bx 3 (.int .i64 X) := hk3.same _ _ hB (hR3 _ _)
      gi_wp2
      go_roundw
      case rel => exact ⟨k, by go_num, by omega, hB3, hJ3⟩
      case measure => first | (simp [intOf]; done) | (simp [intOf]; omega)

/-! ### What a function with loops over iterators leaves behind -/
def mkD (D : Nat) : Deferred := { target := .collected D, args := #[] }
theorem leaves_marks {F : Fence} {n : Nat} {P : Program} {fn : Func} {tmps : Array Value} {R : Ending → World → Prop} (K : World → Prop) (b : Nat) (hend : ∀ W, K W → LeavesInM F n P fn tmps R [] .returning W)
    (hp : ∀ W D, K W → b ≤ D → W.heap[D]? = some (.deferred (some [])) → K (W.putObj D (.deferred none))) :
    ∀ (Ds : List Nat) (W : World), K W → Ds.Nodup → (∀ D ∈ Ds, b ≤ D ∧ W.heap[D]? = some (.deferred (some []))) → LeavesInM F n P fn tmps R (Ds.map mkD) .returning W
  | [], W, hK, _, _ => hend W hK
  | D :: Ds, W, hK, hn, hD => by
    obtain ⟨hn1, hn2⟩ := List.nodup_cons.1 hn
    obtain ⟨hb, hd⟩ := hD D (List.mem_cons_self ..)
    refine ⟨by simp, .inl ⟨_, _, rfl, run_takeDeferred hd, leaves_marks K b hend hp Ds _ (hp W D hK hb hd) hn2 fun D' h' => ⟨(hD D' (List.mem_cons_of_mem _ h')).1, ?_⟩⟩⟩
    have hne : D ≠ D' := fun e => hn1 (by rw [e]; exact h')
    have e := World.putObj_heap_other (w := W) (r := D) (k := D') (o := .deferred none) hne.symm
    rw [e]
    exact (hD D' (List.mem_cons_of_mem _ h')).2

/-! ### Bytes' bits, one byte behind the other -/
def adg (zs : List Int) (k : Nat) : Int := dg (zs.getD (k / 8) 0) 8 (k % 8)
theorem adg_at (zs : List Int) (i k : Nat) (h : k < 8) : adg zs (8 * i + k) = dg (zs.getD i 0) 8 k := by
  unfold adg
  rw [show (8 * i + k) / 8 = i by omega, show (8 * i + k) % 8 = k by omega]
/-- What an iterator's rounds leave alone. -/
def Leave (b Bb : Nat) (k : Nat) (o : Obj) : Prop := k < b ∨ k = Bb ∨ o.isCells = false ∨ ∃ v t, t ≠ 22 ∧ t ≠ 5 ∧ o = .cells #[v] t

/-- Bytes at hand, in a block below b. -/
def At (b : Nat) (w : World) (a0 : Option Addr) (zs : List Int) : Prop := ∀ i, i < zs.length → ∃ g off, a0 = some ⟨g, off, none⟩ ∧ g < b ∧ w.cell? ⟨g, off + i, none⟩ = some (.int .u8 (zs.getD i 0))
theorem cell_same {A B : World} {g o : Nat} {v : Value} (h : A.cell? ⟨g, o, none⟩ = some v) (hs : ∀ ob, A.heap[g]? = some ob → B.heap[g]? = some ob) : B.cell? ⟨g, o, none⟩ = some v := by
  have hl := lt_of_cell h
  have e : A.heap[g]? = some A.heap[g] := Array.getElem?_eq_getElem hl
  have e2 := hs _ e
  rw [← h]
  unfold World.cell?
  rw [e, e2]
theorem At.keeps {b Bb : Nat} {A B : World} {a0 : Option Addr} {zs : List Int} (h : At b A a0 zs) (k : KeepsO (Leave b Bb) A B) : At b B a0 zs := fun i hi => by
  obtain ⟨g, off, e, hg, hc⟩ := h i hi
  exact ⟨g, off, e, hg, cell_same hc fun ob ho => k.same g ob ho (.inl hg)⟩
theorem At.below {b : Nat} {A B : World} {a0 : Option Addr} {zs : List Int} (h : At b A a0 zs) (k : Below A.heap.size A B) : At b B a0 zs := fun i hi => by
  obtain ⟨g, off, e, hg, hc⟩ := h i hi
  exact ⟨g, off, e, hg, cell_same hc fun ob ho => (k.block g (Array.getElem?_eq_some_iff.1 ho).1).trans ho⟩
theorem keepsO_own (R : Nat → Obj → Prop) (w2 : World) : OwnFrom w2.heap.size (fun (_ : Nat) W => KeepsO R w2 W) := fun _ A B row h hg hr =>
  ⟨Nat.le_trans h.size hg.size, fun k o hk ho => by
    have e := h.same k o hk ho
    refine (hg.block k (Array.getElem?_eq_some_iff.1 e).1 fun e' => ?_).trans e
    have := (hr k e'.symm).1
    have := (Array.getElem?_eq_some_iff.1 hk).1
    omega⟩
theorem keeps_of_below {R : Nat → Obj → Prop} {A B : World} (h : Below A.heap.size A B) : KeepsO R A B := ⟨h.size, fun k o hk _ => (h.block k (Array.getElem?_eq_some_iff.1 hk).1).trans hk⟩

theorem dig8_ok (X : Int) (w : World) :
    Calls Try.prog 17 #[.int .i64 X, .int .i64 8] w fun e w' => e = .returned (.func (.func 19) #[] #[.pointer (some ⟨w.heap.size + 1, 0, none⟩), .pointer (some ⟨w.heap.size, 0, none⟩)]) ∧ w' = (w.alloc (.cells #[.int .i64 X] 3)).alloc (.cells #[.int .i64 8] 3) := by
  go_enter Try.func17, Try.ntmps17
  go_wp2
  go_ret
  exact ⟨rfl, rfl⟩
set_option maxRecDepth 100000 in
set_option maxHeartbeats 2000000 in
theorem all_gives (n : Nat) (hn : 6 ≤ n) (b Bb : Nat) (a0 : Option Addr) (c0 : Nat) (zs : List Int) (hz : ∀ z ∈ zs, 0 ≤ z ∧ z ≤ 255) (hl0 : zs.length ≤ 1000000)
    (w : World) (hb : b ≤ w.heap.size) (hB : Boxed w Bb 22 (.slice a0 zs.length c0)) (hv : At b w a0 zs) :
    Gives Fence.wide n Try.prog 16 #[.pointer (some ⟨Bb, 0, none⟩)] (fun x : Int => #[Value.int .u8 x]) (adg zs) (8 * zs.length) (Leave b Bb) w := by
  intro l J W hW hl hJ hY h0
  have hB' : Boxed W Bb 22 (.slice a0 zs.length c0) := (hW.block Bb hB.lt).trans hB
  have bY := Boxed.new W 38 (.func (.yield l) #[] #[])
  have hB1 := hB'.alloc (.cells #[.func (.yield l) #[] #[]] 38)
  have hBc := hB1.cell
  have hv1 : At b (W.alloc (.cells #[.func (.yield l) #[] #[]] 38)) a0 zs := (hv.below hW).below ((Below.refl _ W).alloc (Nat.le_refl _) _)
  have hJ1 : J 0 (W.alloc (.cells #[.func (.yield l) #[] #[]] 38)) := hJ.alloc _ h0
  have h1 : 1 ≤ n := by omega
  refine callsIn_of_wp_marks Try.func16 rfl trivial ?_ rfl
  simp only [Try.ntmps16, List.size_toArray, List.length_cons, List.length_nil, Nat.reduceAdd, Nat.reduceSub, Array.replicate_succ, Array.replicate_zero, List.push_toArray, List.append_toArray, List.nil_append, List.cons_append]
  gi_wp2
  obtain ⟨W0, hW0⟩ : ∃ W0, W.alloc (.cells #[.func (.yield l) #[] #[]] 38) = W0 := ⟨_, rfl⟩
  have hs0 : W0.heap.size = W.heap.size + 1 := by rw [← hW0]; simp
  rw [hW0] at bY hB1 hv1 hJ1 ⊢
  clear hW0 hBc
  refine wpIn_loop (fun a' wr => ∃ (i : Nat) (Ds : List Nat) (u4 u5 u9 u10 u11 u12 u13 u14 u15 u16 u17 u18 u19 u20 : Value), i ≤ zs.length ∧ J (8 * i) wr ∧ Boxed wr W.heap.size 38 (.func (.yield l) #[] #[]) ∧ Boxed wr Bb 22 (.slice a0 zs.length c0) ∧ At b wr a0 zs ∧ W.heap.size + 1 ≤ wr.heap.size ∧ Ds.Nodup ∧ (∀ D ∈ Ds, W.heap.size ≤ D ∧ wr.heap[D]? = some (.deferred (some []))) ∧
    a' = { tmps := #[.func (.yield l) #[] #[], .pointer (some ⟨Bb, 0, none⟩), .pointer (some ⟨W.heap.size, 0, none⟩), undef, u4, u5, .slice a0 zs.length c0, .int .i64 zs.length, .int .i64 i, u9, u10, u11, u12, u13, u14, u15, u16, u17, u18, u19, u20], defers := Ds.map mkD }) (fun a' _ => zs.length - (intOf (a'.tmps.getD 8 undef)).toNat) ?_ ?_
  · exact ⟨0, [], _, _, _, _, _, _, _, _, _, _, _, _, _, _, Nat.zero_le _, hJ1, bY, hB1, hv1, by omega, List.nodup_nil, by simp, rfl⟩
  rintro a' wr ⟨i, Ds, u4, u5, u9, u10, u11, u12, u13, u14, u15, u16, u17, u18, u19, u20, hi, hJi, hY1, hBb, hAt, hsz, hnd, hDs, rfl⟩
  by_cases hlt : i < zs.length
  · obtain ⟨g, off, rfl, hg, hc⟩ := hAt i hlt
    have hzi := hz (zs.getD i 0) (by simp [hlt])
    have hdgz : ∀ k, k < 8 → adg zs (8 * i + k) = dg (zs.getD i 0) 8 k := fun k hk => adg_at zs i k hk
    obtain ⟨z, hz'⟩ : ∃ z, zs.getD i 0 = z := ⟨_, rfl⟩
    rw [hz'] at hc hzi hdgz
    obtain ⟨z0, z1⟩ := hzi
    have hlt' : (i : Int) < (zs.length : Int) := by omega
    gi_wp2_with (refine ⟨trivial, ?_⟩; gi_at_call 17; refine (callsIn_wide.2 (dig8_ok z _)).mono ?_; rintro e w2 ⟨rfl, hw2⟩; have HW := Lib.hid hw2; clear hw2)
    have hw2 := HW.out
    have hBx : Boxed w2 wr.heap.size 3 (.int .i64 z) := by rw [hw2]; exact (Boxed.new wr 3 (.int .i64 z)).alloc (.cells #[.int .i64 8] 3)
    have hBs : Boxed w2 (wr.heap.size + 1) 3 (.int .i64 ((8 : Nat) : Int)) := by
      rw [hw2]
      have h := Boxed.new (wr.alloc (.cells #[.int .i64 z] 3)) 3 (.int .i64 8)
      rw [World.size_alloc] at h
      exact h
    have hb2 : Below wr.heap.size wr w2 := by rw [hw2]; exact ((Below.refl _ wr).alloc (Nat.le_refl _) _).alloc (by simp) _
    have hk2 : KeepsO (Leave b Bb) wr w2 := keeps_of_below hb2
    have hJ2 : J (8 * i) w2 := by rw [hw2]; exact hJ.alloc _ (hJ.alloc _ hJi)
    have hsz2 := hb2.size
    clear hw2 HW
    refine range_own rfl (by omega) (gf := 19) (lb := #[.pointer (some ⟨wr.heap.size + 1, 0, none⟩), .pointer (some ⟨wr.heap.size, 0, none⟩)]) rfl trivial (enters_of Try.func19 (by kernel_rfl) rfl) (fun x : Int => #[Value.int .u8 x]) (dg z 8) 8 (fun _ o => ∃ v, o = .cells #[v] 3) (fun _ => rfl)
      (dig_gives Fence.wide (n - 1) trivial rfl (by omega) (wr.heap.size + 1) wr.heap.size z 8 z0 (by omega) (by omega) _ (fun k v => ⟨v, rfl⟩) w2 hBs hBx)
      (fun k W' => J (8 * i + k) W' ∧ KeepsO (Leave b Bb) w2 W') (OwnFrom.and ?own1 (keepsO_own _ w2)) ⟨by simpa using hJ2, KeepsO.refl _ _⟩
      (fun x => { tmps := #[.func (.yield l) #[] #[], .pointer (some ⟨Bb, 0, none⟩), .pointer (some ⟨W.heap.size, 0, none⟩), undef, .int .u8 z, .int .u8 x, .slice (some ⟨g, off, none⟩) zs.length c0, .int .i64 zs.length, .int .i64 i, .bool true, .pointer (some ⟨g, off + i, none⟩), .int .u8 z, .int .u8 z, .int .i64 z, .func (.func 19) #[] #[.pointer (some ⟨wr.heap.size + 1, 0, none⟩), .pointer (some ⟨wr.heap.size, 0, none⟩)], .int .u8 x, u16, u17, u18, u19, u20], defers := [] }) ?assign ?body ?done
    case own1 => exact fun k A B row h hg hr => hJ _ A B row h hg fun r e => ⟨Nat.le_trans (by have := hb2.size; omega) (hr r e).1, (hr r e).2⟩
    case assign =>
      intro l x W K hK
      gi_wp2
      exact hK
    case body =>
      rintro l' k W' ⟨hJk, hk⟩ hlk hsl
      have hY3 : Boxed W' W.heap.size 38 (.func (.yield l) #[] #[]) := hk.same _ _ (hk2.same _ _ hY1 (.inr (.inr (.inr ⟨_, 38, by decide, by decide, rfl⟩)))) (.inr (.inr (.inr ⟨_, 38, by decide, by decide, rfl⟩)))
      have hYc := hY3.cell
      obtain ⟨fn', tmps', assign', body', hy, hR⟩ := yield_in l' (yield_any (by rfl) (n - 1 - 1 - 1) (hY (8 * i + k) W' (by omega) hJk))
      rw [hdgz k hlk] at hy
      obtain ⟨d, hd⟩ : ∃ d, dg z 8 k = d := ⟨_, rfl⟩
      rw [hd] at hy
      rw [hd]
      gi_wp2
      refine ⟨fun _ => by omega, hR.mono ?_⟩
      rintro e W3 ⟨rfl, hJ3, hk3⟩
      gi_wp2
      refine ⟨⟨hJ3, hk.trans hk3⟩, hk3.mono ?_⟩
      rintro j o (⟨v, rfl⟩ | ⟨_, ho⟩)
      · exact .inr (.inr (.inr ⟨v, 3, by decide, by decide, rfl⟩))
      · exact .inr (.inr (.inl ho))
    case done =>
      rintro W' ⟨hJk, hk⟩ hsl hdef
      have hkk := hk2.trans hk
      gi_wp2
      refine ⟨⟨i + 1, w2.heap.size :: Ds, .int .u8 z, u5, .bool true, .pointer (some ⟨g, off + i, none⟩), .int .u8 z, .int .u8 z, .int .i64 z, .func (.func 19) #[] #[.pointer (some ⟨wr.heap.size + 1, 0, none⟩), .pointer (some ⟨wr.heap.size, 0, none⟩)], u15, u16, u17, u18, u19, .int .i64 ((i : Int) + 1), by omega, hJk, hkk.same _ _ hY1 (.inr (.inr (.inr ⟨_, 38, by decide, by decide, rfl⟩))), hkk.same _ _ hBb (.inr (.inl rfl)), hAt.keeps hkk, by omega, ?_, ?_, ?_⟩, ?_⟩
      · refine List.nodup_cons.2 ⟨fun hin => ?_, hnd⟩
        have := (Array.getElem?_eq_some_iff.1 (hDs _ hin).2).1
        omega
      · intro D hD
        rcases List.mem_cons.1 hD with rfl | hD
        · exact ⟨by omega, hdef⟩
        · exact ⟨(hDs D hD).1, hkk.same _ _ (hDs D hD).2 (.inr (.inr (.inl rfl)))⟩
      · simp [mkD]
      · simp [intOf]; omega
  · obtain rfl : i = zs.length := by omega
    gi_wp2
    refine leaves_marks (fun W' => J (8 * zs.length) W') W.heap.size (fun W' h => ?_) (fun W' D h h1 h2 => hJ.putObj _ h h1 h2 rfl) Ds wr hJi hnd hDs
    exact ⟨_, results_none rfl _ _ _, ⟨_, rfl⟩, h⟩
end Go.Proofs.Ythngicplclecpaa.Bi
