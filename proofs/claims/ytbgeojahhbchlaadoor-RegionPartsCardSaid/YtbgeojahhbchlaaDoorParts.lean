/-
  What the iterator that parts makes hands to whatever loop body: each part and its stretch, in memory's order; none, if the configuration does not fit. Conditions: the world holds the package's table and the configuration's box; a round leaves the cells of the iterator's own blocks as they were.
-/
import Derived.RangeFuncNested
import Derived.RangeFuncBound
import Derived.RangeFuncCalls
import Derived.RangeFuncLeaves
import Derived.Shelf.Abstract
import Derived.Shelf.RegionOpen
import Derived.WalkKit
import Derived.OwnWalkIn
import Derived.TacticsInMore
import Derived.LoopNIn
import Derived.LoopIn
import Derived.Test.YtbgeojahhbchlaaDoorSizes
namespace Go.Proofs.YtbgeojahhbchlaaDoor
open Go.RowKit Go.Shelf

/-- The cells of blocks from B on lie as they lay. -/
def KeepsCells (B : Nat) (W W' : World) : Prop := W.heap.size ≤ W'.heap.size ∧ ∀ b o, B ≤ b → W.heap[b]? = some o → o.isCells = true → W'.heap[b]? = some o
theorem KeepsCells.refl (B : Nat) (W : World) : KeepsCells B W W := ⟨Nat.le_refl _, fun _ _ _ h _ => h⟩
theorem KeepsCells.trans {B : Nat} {W W' W'' : World} (h : KeepsCells B W W') (g : KeepsCells B W' W'') : KeepsCells B W W'' :=
  ⟨Nat.le_trans h.1 g.1, fun b o hb ho hc => g.2 b o hb (h.2 b o hb ho hc) hc⟩
theorem KeepsCells.put {B : Nat} {w : World} (W : World) (l : Nat) (o o' : Obj) (_ : w.heap.size ≤ l) (h : W.heap[l]? = some o) (hc : o.isCells = false) (_ : o.isWalk = false) : KeepsCells B W (W.putObj l o') := by
  refine ⟨(grownBy_putObj' W l o').size, fun b x _ hx hxc => ?_⟩
  have hne : some b ≠ some l := fun e => by
    cases e; rw [h] at hx; cases hx; rw [hc] at hxc; cases hxc
  exact ((grownBy_putObj' W l o').block b (Array.getElem?_eq_some_iff.1 hx).1 hne).trans hx
theorem KeepsCells.grown {B : Nat} {W W' : World} {row : Option Nat} (hg : W.grownBy W' row) (hr : ∀ k, row = some k → k < B) : KeepsCells B W W' :=
  ⟨hg.size, fun b o hb ho _ => (hg.block b (Array.getElem?_eq_some_iff.1 ho).1 (fun e => by have := hr b e.symm; omega)).trans ho⟩

theorem parts_any (k p c : Int) (w : World) : Calls Tryd.prog 26 #[cf k p c] w fun e w' => e = .returned (.func (.func 32) #[] #[.pointer (some ⟨w.heap.size, 0, none⟩)]) ∧ w' = w.alloc (bx k p c) := by
  go_enter Tryd.func26, Tryd.ntmps26
  go_wp2
  go_ret
  exact ⟨rfl, rfl⟩

/-- All stretches, as one array. -/
abbrev allS (k p c : Int) : Array Value := #[.int .i64 0, .int .i64 1, .int .i64 1, .int .i64 0, .int .i64 p, .int .i64 3, .int .i64 0, .int .i64 p, .int .i64 2, .int .i64 0, .int .i64 p, .int .i64 (lg k p c), .int .i64 0, .int .i64 1, .int .i64 (hom k c)]
theorem index_0 (k p c : Int) (w : World) : (Instr.index 55 (.agg (allS k p c)) (.int .i64 0)).run Tryd.prog w = .ok (sv 0 1 1) w := by kernel_rfl
theorem index_1 (k p c : Int) (w : World) : (Instr.index 55 (.agg (allS k p c)) (.int .i64 1)).run Tryd.prog w = .ok (sv 0 p 3) w := by kernel_rfl
theorem index_2 (k p c : Int) (w : World) : (Instr.index 55 (.agg (allS k p c)) (.int .i64 2)).run Tryd.prog w = .ok (sv 0 p 2) w := by kernel_rfl
theorem index_3 (k p c : Int) (w : World) : (Instr.index 55 (.agg (allS k p c)) (.int .i64 3)).run Tryd.prog w = .ok (sv 0 p (lg k p c)) w := by kernel_rfl
theorem index_4 (k p c : Int) (w : World) : (Instr.index 55 (.agg (allS k p c)) (.int .i64 4)).run Tryd.prog w = .ok (sv 0 1 (hom k c)) w := by kernel_rfl
theorem index_at (k p c : Int) (j : Nat) (hj : j < 5) (w : World) : (Instr.index 55 (.agg (allS k p c)) (.int .i64 j)).run Tryd.prog w = .ok (sv 0 (own p j) (each k p c j)) w := by
  rcases (by omega : j = 0 ∨ j = 1 ∨ j = 2 ∨ j = 3 ∨ j = 4) with rfl | rfl | rfl | rfl | rfl
  · exact index_0 k p c w
  · exact index_1 k p c w
  · exact index_2 k p c w
  · exact index_3 k p c w
  · exact index_4 k p c w

def encs (k p c : Int) (x : Nat) : Array Value := #[.int .i64 x, sv (frm k p c x) (own p x) (each k p c x)]

theorem own4 (p : Int) : own p 4 = 1 := by simp [own]

/-- A block of all stretches. -/
def Alls (w : World) (b : Nat) (k p c : Int) : Prop := ∀ i, i < 15 → w.cell? ⟨b, i, none⟩ = (allS k p c)[i]?

abbrev put15 (w : World) (b : Nat) (k p c : Int) : World := (((((((((((((((w.setCell ⟨b, 0, none⟩ (.int .i64 0)).setCell ⟨b, 1, none⟩ (.int .i64 1)).setCell ⟨b, 2, none⟩ (.int .i64 1)).setCell ⟨b, 3, none⟩ (.int .i64 0)).setCell ⟨b, 4, none⟩ (.int .i64 p)).setCell ⟨b, 5, none⟩ (.int .i64 3)).setCell ⟨b, 6, none⟩ (.int .i64 0)).setCell ⟨b, 7, none⟩ (.int .i64 p)).setCell ⟨b, 8, none⟩ (.int .i64 2)).setCell ⟨b, 9, none⟩ (.int .i64 0)).setCell ⟨b, 10, none⟩ (.int .i64 p)).setCell ⟨b, 11, none⟩ (.int .i64 (lg k p c))).setCell ⟨b, 12, none⟩ (.int .i64 0)).setCell ⟨b, 13, none⟩ (.int .i64 1)).setCell ⟨b, 14, none⟩ (.int .i64 (hom k c)))
theorem set_same {w : World} {b i : Nat} {v : Value} (h : (w.cell? ⟨b, i, none⟩).isSome = true) : (w.setCell ⟨b, i, none⟩ v).cell? ⟨b, i, none⟩ = some v := World.cell?_setCell_same' _ _ _ h
theorem set_other {w : World} {b i j : Nat} {v : Value} (h : j ≠ i) : (w.setCell ⟨b, i, none⟩ v).cell? ⟨b, j, none⟩ = w.cell? ⟨b, j, none⟩ := World.cell?_setCell_other _ _ _ _ (fun e => h (by cases e; rfl))
theorem alls_put (w : World) (b : Nat) (k p c : Int) (h : ∀ i, i < 15 → (w.cell? ⟨b, i, none⟩).isSome = true) : Alls (put15 w b k p c) b k p c := by
  intro i hi
  rcases (by omega : i = 0 ∨ i = 1 ∨ i = 2 ∨ i = 3 ∨ i = 4 ∨ i = 5 ∨ i = 6 ∨ i = 7 ∨ i = 8 ∨ i = 9 ∨ i = 10 ∨ i = 11 ∨ i = 12 ∨ i = 13 ∨ i = 14) with rfl | rfl | rfl | rfl | rfl | rfl | rfl | rfl | rfl | rfl | rfl | rfl | rfl | rfl | rfl
  all_goals (have h' := h _ hi; simp [put15, set_same, set_other, h'])
theorem alls_new (w : World) (k p c : Int) : Alls (w.alloc (.cells (allS k p c) 55)) w.heap.size k p c := by
  intro i hi
  unfold World.cell?
  rw [World.alloc_heap_new]
  simp
abbrev zeros15 : Array Value := #[.int .i64 0, .int .i64 0, .int .i64 0, .int .i64 0, .int .i64 0, .int .i64 0, .int .i64 0, .int .i64 0, .int .i64 0, .int .i64 0, .int .i64 0, .int .i64 0, .int .i64 0, .int .i64 0, .int .i64 0]
theorem zeros_some (w : World) (i : Nat) (hi : i < 15) : ((w.alloc (.cells zeros15 55)).drew.cell? ⟨w.heap.size, i, none⟩).isSome = true := by
  show ((w.alloc (.cells zeros15 55)).cell? ⟨w.heap.size, i, none⟩).isSome = true
  unfold World.cell?
  rw [World.alloc_heap_new]
  simp [hi]

/-- The iterator's frame behind its array. -/
abbrev mid (l Bc b : Nat) (k p c : Int) : Array Value :=
  #[Value.func (Fn.yield l) #[] #[], Value.pointer (some ⟨Bc, 0, none⟩), undef, Value.pointer (some ⟨b, 0, none⟩), undef, undef,
    undef, cf k p c, Value.bool true, Value.bool false, sv 0 1 1, Value.pointer (some ⟨Bc, 1, none⟩), .int .i64 p, sv 0 p 3, Value.pointer (some ⟨Bc, 1, none⟩), .int .i64 p, sv 0 p 2, Value.pointer (some ⟨Bc, 1, none⟩), .int .i64 p, cf k p c,
    .int .i64 (lg k p c), sv 0 p (lg k p c), cf k p c, .int .i64 (hom k c), sv 0 1 (hom k c), .agg (allS k p c), undef, undef, undef, undef, undef, undef, undef, undef, undef,
    undef, undef, undef, undef, undef, undef, undef, undef]

theorem keepB {W w' : World} {b : Nat} {k p c : Int} (h : Box W b k p c) (hK : Kept W w') :
    w'.cell? ⟨b, 0, none⟩ = some (.int .i64 k) ∧ w'.cell? ⟨b, 1, none⟩ = some (.int .i64 p) ∧ w'.cell? ⟨b, 2, none⟩ = some (.int .i64 c) ∧ Kept W w' :=
  ⟨(h.kept hK).1, (h.kept hK).2.1, (h.kept hK).2.2, hK⟩

theorem kept_start_next {W w w' : World} {v : Value} {e : Ending} (hK : Kept W w) (h : e = .returned v ∧ Kept w w') : e = .returned v ∧ Kept W w' ∧ (∀ b o, b < w.heap.size → w'.cell? ⟨b, o, none⟩ = w.cell? ⟨b, o, none⟩) ∧
    (∀ b o, b < w.heap.size → w'.frozen? ⟨b, o, none⟩ = w.frozen? ⟨b, o, none⟩) ∧ (∀ b, b < w.heap.size → b < w'.heap.size) :=
  ⟨h.1, hK.next h.2.below, fun b o hb => h.2.below.cell (p := ⟨b, o, none⟩) hb, fun b o hb => h.2.below.frozen (p := ⟨b, o, none⟩) hb, fun _ hb => Nat.lt_of_lt_of_le hb h.2.below.size⟩
theorem Kept.ge {W w : World} (h : Kept W w) : W.heap.size ≤ w.heap.size := h.below.size
theorem Kept.set {W w : World} {b o : Nat} (h : Kept W w) (hb : W.heap.size ≤ b) (v : Value) (hT : Tab W) : Kept W (w.setCell ⟨b, o, none⟩ v) :=
  have hB := h.below.setCell (p := ⟨b, o, none⟩) hb v
  ⟨hT.below hB, hB⟩

set_option maxRecDepth 100000 in
set_option maxHeartbeats 4000000 in
theorem parts1_in (n : Nat) (k p c : Int) (Bc l B : Nat) (J Jx : List Nat → World → Prop) (W : World) (hT : Tab W) (hbox : Box W Bc k p c) (hB : B ≤ W.heap.size) (hJ : AbidesFrom W.heap.size J) (hf : fits k p c = true)
    (hY : ∀ pre x W1, J pre W1 → pre.length < 5 → YieldAt Fence.wide (n - 1) Tryd.prog l (encs k p c x) W1 fun e W' =>
      (e = .returned (.bool true) ∧ J (pre ++ [x]) W' ∧ KeepsCells B W1 W') ∨ (e = .returned (.bool false) ∧ Jx (pre ++ [x]) W'))
    (h0 : J [] W) :
    CallsIn Fence.wide n Tryd.prog 32 #[.func (.yield l) #[] #[], .pointer (some ⟨Bc, 0, none⟩)] W fun e W' => (∃ v, e = .returned v) ∧
      ((∃ xs, xs = List.range 5 ∧ J xs W') ∨ (∃ pre, (∃ j, j < 5 ∧ pre = List.range (j + 1)) ∧ Jx pre W')) := by
  have hm : RowKit.Hid (home k p c = hom k c) := Lib.hid (by unfold home; rw [if_pos hf])
  have hl : RowKit.Hid (logs k p c = lg k p c) := Lib.hid (by unfold logs; rw [if_pos hf])
  obtain ⟨b0, b1, b2⟩ := hbox
  have hlt := World.block_lt_of_cell? W _ b0
  have hbx : Box W Bc k p c := ⟨b0, b1, b2⟩
  have hK00 : Kept W (W.alloc (bx k p c)) := (Kept.start hT).alloc _
  have hK0 : Kept W (W.alloc (bx k p c)).drew := hK00.drew
  have hfn : ∀ f, Fence.wide.fn f := fun _ => trivial
  have hdep : Fence.wide.depth = none := rfl
  refine callsIn_of_wp Tryd.func32 rfl trivial ?_ rfl
  simp only [Tryd.ntmps32, List.size_toArray, List.length_cons, List.length_nil, Nat.reduceAdd, Nat.reduceSub, Array.replicate_succ, Array.replicate_zero, List.push_toArray, List.append_toArray, List.nil_append, List.cons_append]
  gi_wp2_with (gi_at_call 9; refine (callsIn_wide.2 (fits_any k p c _)).mono ?_; rintro e w' ⟨rfl, rfl⟩)
  refine wpIn_mono (Q := Exit.then (fun a' w' => ∃ b : Nat, Kept W w' ∧ Alls w' b k p c ∧ a' = { tmps := mid l Bc b k p c, defers := [] }) (fun _ _ _ => False)) ?_ ?_
  · refine wpIn_wide.2 ?_
    go_region_held3 (fun w' => (w'.cell? ⟨Bc, 0, none⟩ = some (.int .i64 k) ∧ w'.cell? ⟨Bc, 1, none⟩ = some (.int .i64 p) ∧ w'.cell? ⟨Bc, 2, none⟩ = some (.int .i64 c) ∧ Kept W w'))
      ((refine keepB hbx ?_; repeat (first | with_reducible assumption | with_reducible refine Kept.alloc ?_ _ | with_reducible refine Kept.drew ?_ | with_reducible refine Kept.set ?_ (by first | exact Nat.le_add_right _ _ | exact Kept.ge (by with_reducible assumption)) _ hT)))
      (first
      | (go_at_call 11; with_reducible refine (home_kept _ _ _ _ _ (Kept.start (Kept.tab (W := W) (by repeat (first | with_reducible assumption | with_reducible refine Kept.alloc ?_ _ | with_reducible refine Kept.drew ?_))))).mono ?_; rintro e w' h'; obtain ⟨rfl, hK2, hc2, hf2, hs2⟩ := kept_start_next (W := W) (by repeat (first | with_reducible assumption | with_reducible refine Kept.alloc ?_ _ | with_reducible refine Kept.drew ?_)) h'; clear h'; rw [hm.out])
      | (go_at_call 15; with_reducible refine (logs_kept _ _ _ _ _ (Kept.start (Kept.tab (W := W) (by repeat (first | with_reducible assumption | with_reducible refine Kept.alloc ?_ _ | with_reducible refine Kept.drew ?_))))).mono ?_; rintro e w' h'; obtain ⟨rfl, hK2, hc2, hf2, hs2⟩ := kept_start_next (W := W) (by repeat (first | with_reducible assumption | with_reducible refine Kept.alloc ?_ _ | with_reducible refine Kept.drew ?_)) h'; clear h'; rw [hl.out]))
    · exact ⟨_, Kept.alloc hK2 _, alls_new _ k p c, rfl⟩
    · exact ⟨_, by repeat (first | with_reducible assumption | with_reducible refine Kept.set ?_ (by first | exact Nat.le_add_right _ _ | exact Kept.ge (by with_reducible assumption)) _ hT),
        alls_put _ _ _ _ _ (fun i hi => by rw [hc2 _ _ (by simp)]; exact zeros_some _ i hi), rfl⟩
    · rename_i w1 _ hc1 _ hs1 _
      exact ⟨_, by repeat (first | with_reducible assumption | with_reducible refine Kept.set ?_ (by first | exact Nat.le_add_right _ _ | exact Kept.ge (by with_reducible assumption)) _ hT),
        alls_put _ _ _ _ _ (fun i hi => by rw [hc2 _ _ (hs1 _ (by simp)), hc1 _ _ (by simp)]; have h := zeros_some (W.alloc (bx k p c)) i hi; rw [World.size_alloc] at h; exact h), rfl⟩
  · rintro e a w1 hp
    cases e with
    | normal =>
      obtain ⟨b, hK1, hA, rfl⟩ := hp
      have a0 := hA 0 (by omega); have a1 := hA 1 (by omega); have a2 := hA 2 (by omega); have a3 := hA 3 (by omega); have a4 := hA 4 (by omega)
      have a5 := hA 5 (by omega); have a6 := hA 6 (by omega); have a7 := hA 7 (by omega); have a8 := hA 8 (by omega); have a9 := hA 9 (by omega)
      have a10 := hA 10 (by omega); have a11 := hA 11 (by omega); have a12 := hA 12 (by omega); have a13 := hA 13 (by omega); have a14 := hA 14 (by omega)
      simp only [allS, List.getElem?_toArray, List.getElem?_cons_succ, List.getElem?_cons_zero] at a0 a1 a2 a3 a4 a5 a6 a7 a8 a9 a10 a11 a12 a13 a14
      have hJ1 : J [] w1 := hJ [] W w1 none h0 ⟨hK1.below.os, hK1.below.tape, hK1.below.output, hK1.below.size, fun i hi _ => hK1.below.block i hi⟩ (fun r e => by cases e)
      clear hA
      gi_wp2
      have hB1 : W.heap.size ≤ w1.heap.size := hK1.ge
      clear a0 a1 a2 a3 a4 a5 a6 a7 a8 a9 a10 a11 a12 a13 a14
      gi_loopw [4, 27] (fun f i wr => ∃ j : Nat, j ≤ 5 ∧ i = .int .i64 j ∧ f = .int .i64 (frm k p c j) ∧ J (List.range j) wr ∧ W.heap.size ≤ wr.heap.size) (fun _ i _ => 5 - (intOf i).toNat)
      case atStart => exact ⟨0, by omega, rfl, rfl, hJ1, hB1⟩
      case round =>
        obtain ⟨j, hj, rfl, rfl, hJs, hsz⟩ := hrel
        by_cases hlt : j < 5
        · have hi := index_at k p c j hlt wr
          have hJ2 := hJ (List.range j) wr (wr.alloc (sx (frm k p c j) (own p j) (each k p c j))) none hJs (World.grownBy_alloc _ _ _) (fun r e => by cases e)
          obtain ⟨fn, tmps, assign, body, hy, hR⟩ := hY (List.range j) j _ hJ2 (by simp; omega)
          dsimp only [encs] at hy
          gi_wp2
          refine hR.mono ?_
          rintro e W3 (⟨rfl, hJ3, hk3⟩ | ⟨rfl, hJx3⟩)
          · have hbk : W3.heap[wr.heap.size]? = some (sx (frm k p c j) (own p j) (each k p c j)) := hk3.2 _ _ (by omega) (World.alloc_heap_new wr _) rfl
            have c0 : W3.cell? ⟨wr.heap.size, 0, none⟩ = some (.int .i64 (frm k p c j)) := by unfold World.cell?; rw [hbk]; rfl
            have c1 : W3.cell? ⟨wr.heap.size, 1, none⟩ = some (.int .i64 (own p j)) := by unfold World.cell?; rw [hbk]; rfl
            have c2 : W3.cell? ⟨wr.heap.size, 2, none⟩ = some (.int .i64 (each k p c j)) := by unfold World.cell?; rw [hbk]; rfl
            have hs3 : RowKit.Hid (wr.heap.size + 1 ≤ W3.heap.size) := Lib.hid (by have := hk3.1; simpa using this)
            have hbd := cells_bd hf j
            have hfb := frm_bd hf j
            have hJ4 := hJ _ W3 (W3.alloc (sx (frm k p c j) (own p j) (each k p c j))) none hJ3 (World.grownBy_alloc _ _ _) (fun r e => by cases e)
            have hnx := Lib.hid (frm_succ k p c j hlt)
            clear hbk hi hy
            gi_wp2_with (gi_at_call 27; refine (callsIn_wide.2 (cells_any _ _ _ (own p j * each k p c j) _ (Lib.hid rfl) (by omega) (by omega))).mono ?_; rintro e w' ⟨rfl, rfl⟩)
            go_roundw
            case rel => exact ⟨j + 1, by omega, by go_num, by rw [hnx.out], by rw [List.range_succ]; exact hJ4, by have := hs3.out; simp; omega⟩
            case measure => simp [intOf]; omega
          · gi_wp2
            refine bodyPost_ret (results_none rfl _ _ _) rfl ?_
            exact ⟨⟨_, rfl⟩, .inr ⟨List.range (j + 1), ⟨j, hlt, rfl⟩, by rw [List.range_succ]; exact hJx3⟩⟩
        · obtain rfl : j = 5 := by omega
          gi_wp2
          go_end0
          exact ⟨⟨_, rfl⟩, .inl ⟨_, rfl, hJs⟩⟩
    | ret => exact hp.elim
    | exit id => exact hp.elim
    | goto t => exact hp.elim
    | panic ch => exact hp.elim
    | outgrown => exact hp.elim

set_option maxRecDepth 100000 in
set_option maxHeartbeats 1000000 in
theorem parts1_no (n : Nat) (k p c : Int) (Bc l : Nat) (W : World) (hbox : Box W Bc k p c) (hf : fits k p c = false) :
    CallsIn Fence.wide n Tryd.prog 32 #[.func (.yield l) #[] #[], .pointer (some ⟨Bc, 0, none⟩)] W fun e W' => (∃ v, e = .returned v) ∧ W' = W.alloc (bx k p c) := by
  obtain ⟨b0, b1, b2⟩ := hbox
  have hfn : ∀ f, Fence.wide.fn f := fun _ => trivial
  have hdep : Fence.wide.depth = none := rfl
  refine callsIn_of_wp Tryd.func32 rfl trivial ?_ rfl
  simp only [Tryd.ntmps32, List.size_toArray, List.length_cons, List.length_nil, Nat.reduceAdd, Nat.reduceSub, Array.replicate_succ, Array.replicate_zero, List.push_toArray, List.append_toArray, List.nil_append, List.cons_append]
  gi_wp2_with (gi_at_call 9; refine (callsIn_wide.2 (fits_any k p c _)).mono ?_; rintro e w' ⟨rfl, rfl⟩)
  refine bodyPost_ret (results_none rfl _ _ _) rfl ?_
  exact ⟨⟨_, rfl⟩, rfl⟩

/-- What has come when all has: all parts, or none. -/
def allXs (k p c : Int) (xs : List Nat) : Prop := xs = if fits k p c = true then List.range 5 else []
/-- What has come when a round has said 'no more'. -/
def someXs (k p c : Int) (pre : List Nat) : Prop := fits k p c = true ∧ ∃ j, j < 5 ∧ pre = List.range (j + 1)

def nXs (k p c : Int) : Nat := if fits k p c = true then 5 else 0
theorem nXs_fits {k p c : Int} {m : Nat} (h : m < nXs k p c) : fits k p c = true ∧ m < 5 := by
  unfold nXs at h; split at h
  · exact ⟨by assumption, h⟩
  · omega

theorem parts_stops (n : Nat) (k p c : Int) (Bc B : Nat) (w : World) (hT : Tab w) (hbox : Box w Bc k p c) (hB : B ≤ w.heap.size) :
    SeqStopsK Fence.wide n Tryd.prog 32 #[.pointer (some ⟨Bc, 0, none⟩)] (encs k p c) (KeepsCells B) (allXs k p c) (someXs k p c) (nXs k p c) w := fun l J Jx W hW hJ _ hY h0 => by
  have hK : Kept w W := (Kept.start hT).next hW
  by_cases hf : fits k p c = true
  · refine (parts1_in n k p c Bc l B J Jx W hK.tab (hbox.kept hK) (Nat.le_trans hB hW.size) hJ hf (fun pre x W1 h1 h2 => hY pre x W1 h1 (by unfold nXs; rw [if_pos hf]; exact h2)) h0).mono ?_
    rintro e W' ⟨hv, ⟨xs, rfl, hj⟩ | ⟨pre, hp, hj⟩⟩
    · exact ⟨hv, .inl ⟨_, by unfold allXs; rw [if_pos hf], hj⟩⟩
    · exact ⟨hv, .inr ⟨pre, ⟨hf, hp⟩, hj⟩⟩
  · refine (parts1_no n k p c Bc l W (hbox.kept hK) (by simpa using hf)).mono ?_
    rintro e W' ⟨hv, rfl⟩
    exact ⟨hv, .inl ⟨[], by unfold allXs; rw [if_neg hf], hJ [] W _ none h0 (World.grownBy_alloc _ _ _) (fun r e => by cases e)⟩⟩

end Go.Proofs.YtbgeojahhbchlaaDoor
