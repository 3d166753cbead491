/- Entries in their order, by the sort of the standard library. -/
import Derived.Test.YteklahfgplbmcaaDoorBkWt
import Derived.Test.YteklahfgplbmcaaDoorBkLay
import Derived.WalkKit
import Derived.Below
import Derived.RegionTactic
import Derived.Deep.QuietTactic
import Derived.BigQuiet
import Derived.ChangeAlike
import Derived.Deep.OwnRows
import Derived.ProofKit
import Derived.OpenShut
import Derived.Lib.Hide
namespace Go.Proofs.YteklahfgplbmcaaDoor.Bk
open Go Go.ChangeShapes Go.WideShapes Go.ChangeAt Go.RowKit Go.Proofs.YteklahfgplbmcaaDoor.Bi Go.Proofs.YteklahfgplbmcaaDoor.Cr

/-- What the comparison tells of two entries. -/
def cfI (wv : Nat → Int) (x y : Nat) : Int := if wv x ≠ wv y then wv x - wv y else (x : Int) - y
def e289 : Fin 289 → Value := fun x => .int .i64 ((x.val : Nat) : Int)
set_option maxHeartbeats 4000000 in
theorem cmp_ok (W : World) (B : Nat) (wv : Nat → Int) (x y : Nat) (hx : x < 289) (hy : y < 289) (r : W.rowIs B 84 289 (fun j => .int .u8 (wv j))) (hb : ∀ j, 0 ≤ wv j ∧ wv j ≤ 255) :
    Calls Tryd.prog 48 #[.int .i64 x, .int .i64 y, .pointer (some ⟨B, 0, none⟩)] W fun e w' => e = .returned (.int .i64 (cfI wv x y)) ∧ ∃ q, w' = W.drewN q := by
  have hcx := r.cell hx
  have hcy := r.cell hy
  obtain ⟨x0, x1⟩ := hb x
  obtain ⟨y0, y1⟩ := hb y
  have HCF := Lib.hid (show cfI wv x y = if wv x ≠ wv y then wv x - wv y else (x : Int) - y from rfl)
  clear r hb
  generalize wv x = X at *
  generalize wv y = Y at *
  generalize cfI wv x y = R at *
  by_cases hne : X = Y
  · subst hne
    have hR : R = (x : Int) - y := by rw [HCF.out, if_neg (by simp)]
    subst hR
    clear HCF
    go_enter Tryd.func48, Tryd.ntmps48
    go_wp2
    go_quiet (fail)
    go_wp2
    go_ret
    exact ⟨rfl, _, rfl⟩
  · have hR : R = X - Y := by rw [HCF.out, if_pos hne]
    subst hR
    clear HCF
    have hXY : (X == Y) = false := by simp [hne]
    go_enter Tryd.func48, Tryd.ntmps48
    go_wp2
    go_quiet (fail)
    go_wp2
    go_quiet (fail)
    go_wp2
    go_ret
    exact ⟨rfl, _, World.drewN_drewN _ _ _⟩

theorem row_sorted {w : World} {blk N n : Nat} {g : Nat → Value} {os : Array Obj} (r : w.rowIs blk 3 N g) (d : Array (Fin 289)) (hd : d.size = N) :
    (sortWorld e289 w blk 0 n d os).rowIs blk 3 N (fun j => e289 d[j]!) := by
  obtain ⟨c, hc, hs, hv⟩ := r
  have hlt : blk < w.heap.size := (Array.getElem?_eq_some_iff.1 hc).1
  refine ⟨Sort.putCells e289 0 d c, ?_, by simp [Sort.putCells, hs], fun i hi => ?_⟩
  · unfold sortWorld
    rw [Sort.heap_grow_old _ _ (by simpa [Sort.putRow, Sort.mapBlock, Sort.ahead] using hlt)]
    simp only [Sort.putRow, Sort.mapBlock, Sort.ahead]
    show (w.heap.modify blk _)[blk]? = _
    rw [Array.getElem?_modify, if_pos rfl, hc]; rfl
  · unfold Sort.putCells
    rw [Array.getElem?_mapIdx, hv i hi, Option.map_some, if_pos ⟨by omega, by omega⟩]; rfl
theorem kept_sorted {w : World} {blk n : Nat} {d : Array (Fin 289)} {os : Array Obj} : w.grownBy (sortWorld e289 w blk 0 n d os) (some blk) := by
  refine ⟨rfl, rfl, rfl, by simp [sortWorld, Sort.putRow, Sort.mapBlock, Sort.ahead], fun k hk hne => ?_⟩
  unfold sortWorld
  rw [Sort.heap_grow_old _ _ (by simpa [Sort.putRow, Sort.mapBlock, Sort.ahead] using hk)]
  have : blk ≠ k := fun e => hne (by rw [e])
  simp [Sort.putRow, Sort.mapBlock, Sort.ahead, Array.getElem?_modify, this]
theorem swo (wv : Nat → Int) : Sort.SWO (ltOf (fun x y : Fin 289 => cfI wv x.val y.val)) where
  irrefl x := by unfold ltOf cfI; simp
  trans x y z h1 h2 := by
    unfold ltOf cfI at *; simp only [decide_eq_true_eq] at *
    split at h1 <;> split at h2 <;> split <;> omega
  ntrans x y z h1 h2 := by
    unfold ltOf cfI at *; simp only [decide_eq_false_iff_not] at *
    split at h1 <;> split at h2 <;> split <;> omega
theorem sort_ok (id : Nat) (w : World) (B blk cap : Nat) (wv : Nat → Int) (h1 : 1 ≤ id) (h2 : id ≤ 12) (hne : B ≠ blk) (hwv : ∀ j, j < Nn id → wv j = (wt id j : Nat)) (hb : ∀ j, 0 ≤ wv j ∧ wv j ≤ 255)
    (rB : w.rowIs B 84 289 (fun j => .int .u8 (wv j))) (r : w.rowIs blk 3 (Nn id) (fun j => .int .i64 (j : Int))) :
    Calls Tryd.prog 47 #[.slice (some ⟨blk, 0, none⟩) (Nn id) cap, .func (.func 48) #[] #[.pointer (some ⟨B, 0, none⟩)]] w fun e w' => e = .returned (.tuple #[]) ∧ w'.rowIs blk 3 (Nn id) (fun j => .int .i64 ((ord id).getD j 0 : Nat)) ∧ w.grownBy w' (some blk) := by
  have hN : Nn id ≤ 289 := (facts h1 h2).2.2.2.2.2.2.2.1
  obtain ⟨d, hd, hdv⟩ : ∃ d : Array (Fin 289), d.size = Nn id ∧ ∀ j, j < Nn id → d[j]!.val = j := by
    refine ⟨Array.ofFn (n := Nn id) (fun i => ⟨i.val, by omega⟩), by simp, fun j hj => ?_⟩
    rw [getElem!_pos _ j (by simpa using hj)]; simp
  have eg : ∀ args w, (callFunc 48 args).run Tryd.prog w = .ok (.enter 48 args) w := enters_of Tryd.func48 (by kernel_rfl) rfl
  have hH : Sort.Holds e289 w blk 0 d := fun j hj => by
    rw [Nat.zero_add]
    refine ⟨?_, r.frozen j⟩
    rw [r.cell (i := j) (by omega)]; unfold e289; rw [hdv j (by omega)]
  have hcmp : CmpReads Tryd.prog 48 #[.pointer (some ⟨B, 0, none⟩)] e289 (fun x y : Fin 289 => cfI wv x.val y.val) blk 0 d.size w := fun m os dk hs x y => by
    have rB' : (sortWorld e289 w blk 0 m dk os).rowIs B 84 289 (fun j => .int .u8 (wv j)) := rB.of_block (kept_sorted.block B rB.lt (by simpa using hne))
    exact cmp_ok _ B wv x.val y.val x.isLt y.isLt rB' hb
  have hcon := Any.slices_SortFunc Tryd.sortL e289 (fun _ => rfl) (fun x y : Fin 289 => cfI wv x.val y.val) (swo wv) 48 #[.pointer (some ⟨B, 0, none⟩)] blk 0 cap d w eg hcmp.lays hH r.lt (by omega)
  change Calls Tryd.prog 47 _ _ _ at hcon
  rw [hd] at hcon
  refine hcon.mono ?_
  rintro e w' ⟨rfl, d', n, os, hp, hs, rfl⟩
  refine ⟨rfl, ?_, kept_sorted⟩
  have hd' : d'.size = Nn id := by rw [hp.1, hd]
  refine (row_sorted r d' hd').congr fun j hj => ?_
  unfold e289
  congr 1
  -- the order is the one there is
  have hperm : d'.toList.Perm d.toList := by
    have := hp.2.2
    rw [Array.extract_eq_self_of_le (by omega), Array.extract_eq_self_of_le (by omega)] at this
    exact this
  have hl : (d'.toList.map (fun x : Fin 289 => x.val)).length = Nn id := by simp [hd']
  have hget : ∀ j, j < Nn id → (d'.toList.map (fun x : Fin 289 => x.val))[j]? = some d'[j]!.val := fun j hj => by
    rw [List.getElem?_map, Array.getElem?_toList, Array.getElem?_eq_getElem (by omega), getElem!_pos d' j (by omega)]; rfl
  have hnod : (d'.toList.map (fun x : Fin 289 => x.val)).Nodup := by
    refine ((hperm.map _).nodup_iff).2 ?_
    have : d.toList.map (fun x : Fin 289 => x.val) = List.range (Nn id) := by
      apply List.ext_getElem?
      intro i
      by_cases hi : i < Nn id
      · rw [List.getElem?_map, Array.getElem?_toList, Array.getElem?_eq_getElem (by omega), Option.map_some, List.getElem?_range hi]
        have := hdv i hi
        rw [getElem!_pos d i (by omega)] at this
        rw [this]
      · rw [List.getElem?_eq_none (by simp [hd]; omega), List.getElem?_eq_none (by simp; omega)]
    rw [this]; exact List.nodup_range
  have hmem : ∀ x ∈ d'.toList, x.val < Nn id := by
    intro x hx
    obtain ⟨i, hi, rfl⟩ := List.mem_iff_getElem.1 (hperm.mem_iff.1 hx)
    have hi2 : i < d.size := by simpa using hi
    have := hdv i (by omega)
    rw [getElem!_pos d i hi2] at this
    rw [Array.getElem_toList, this]; omega
  have hord : IsOrd (wt id) (Nn id) (d'.toList.map (fun x : Fin 289 => x.val)) := by
    refine IsOrd.of ?_ ?_ hl
    · rw [List.pairwise_iff_getElem]
      intro i j hi hj hij
      rw [hl] at hi hj
      have e1 := hget i hi
      have e2 := hget j hj
      rw [List.getElem?_eq_getElem (by rw [hl]; exact hi)] at e1
      rw [List.getElem?_eq_getElem (by rw [hl]; exact hj)] at e2
      have hne' : d'[i]!.val ≠ d'[j]!.val := by
        intro e
        have := (List.nodup_iff_pairwise_ne.1 hnod)
        have := List.pairwise_iff_getElem.1 this i j (by rw [hl]; exact hi) (by rw [hl]; exact hj) hij
        exact this (by rw [Option.some.inj e1, Option.some.inj e2, e])
      rw [Option.some.inj e1, Option.some.inj e2]
      have hsij := hs i j (Nat.zero_le _) hij (by omega)
      unfold ltOf cfI at hsij
      simp only [decide_eq_false_iff_not] at hsij
      have w1 := hwv d'[i]!.val (hmem _ (by rw [getElem!_pos d' i (by omega)]; exact Array.getElem_mem_toList _))
      have w2 := hwv d'[j]!.val (hmem _ (by rw [getElem!_pos d' j (by omega)]; exact Array.getElem_mem_toList _))
      unfold lt
      split at hsij <;> omega
    · intro n hn
      obtain ⟨x, hx, rfl⟩ := List.mem_map.1 hn
      exact hmem x hx
  have hu := hord.uniq (ord_is h1 h2)
  have := hget j hj
  rw [hu] at this
  rw [List.getD_eq_getElem?_getD, this]; rfl
end Go.Proofs.YteklahfgplbmcaaDoor.Bk
