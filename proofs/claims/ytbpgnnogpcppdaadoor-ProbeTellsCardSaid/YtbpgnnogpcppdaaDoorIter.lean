/-
  What the iterator that round makes hands to whatever loop body: each slot once, from the first one on, round and round, and what stands there. Conditions: the words are there; a round that goes on leaves them, and the iterator's own boxes, as they were.
-/
import Derived.RangeFuncNested
import Derived.RangeFuncBound
import Derived.RangeFuncCalls
import Derived.RangeFuncLeaves
import Derived.Shelf.Abstract
import Derived.Shelf.RegionOpen
import Derived.WalkKit
import Derived.OwnWalkIn
import Derived.TacticsInMore
import Derived.LoopNIn
import Derived.LoopIn
import Derived.Laws.IdiomCopy
import Derived.Test.YtbpgnnogpcppdaaDoorRefFind
namespace Go.Proofs.YtbpgnnogpcppdaaDoor
open Go.RowKit Go.Shelf

/-- What a round keeps: what lay, and the iterator's boxes. -/
structure Keeps (n₀ B0 B1 B2 : Nat) (v0 v1 v2 : Value) (W W' : World) : Prop where
  below : Below n₀ W W'
  k0 : Boxed W B0 23 v0 → Boxed W' B0 23 v0
  k1 : Boxed W B1 3 v1 → Boxed W' B1 3 v1
  k2 : Boxed W B2 3 v2 → Boxed W' B2 3 v2
theorem Keeps.trans {n₀ B0 B1 B2 : Nat} {v0 v1 v2 : Value} {A B C : World} (h : Keeps n₀ B0 B1 B2 v0 v1 v2 A B) (g : Keeps n₀ B0 B1 B2 v0 v1 v2 B C) : Keeps n₀ B0 B1 B2 v0 v1 v2 A C :=
  ⟨h.below.trans g.below, fun x => g.k0 (h.k0 x), fun x => g.k1 (h.k1 x), fun x => g.k2 (h.k2 x)⟩
theorem Keeps.put {n₀ B0 B1 B2 : Nat} {v0 v1 v2 : Value} {w : World} (hn : n₀ ≤ w.heap.size) (W : World) (l : Nat) (o o' : Obj) (hl : w.heap.size ≤ l) (h : W.heap[l]? = some o) (hc : o.isCells = false) (hw : o.isWalk = false) : Keeps n₀ B0 B1 B2 v0 v1 v2 W (W.putObj l o') :=
  have k : ∀ {B : Nat} {t : TypeId} {v : Value}, Boxed W B t v → Boxed (W.putObj l o') B t v := fun {B t v} hb => hb.kept (grownBy_putObj' W l o') (fun e => by
    injection e with e; subst e; unfold Boxed at hb; rw [h] at hb; cases hb; cases hc)
  ⟨belowK_b hn W l o o' hl h hc hw, k, k, k⟩

/-- A slot of n. -/
abbrev At (n : Nat) := { i : Nat // i < n }
abbrev plc {n : Nat} (l : List (At n)) : List Nat := l.map (·.1)
def encs (t : List Rc) (n : Nat) (x : At n) : Array Value := #[.int .i64 x.1, .agg #[.int .u64 (at' t x.1).1, .int .u64 (at' t x.1).2]]
/-- The first k slots of the way. -/
def way (f n k : Nat) : List Nat := (List.range k).map fun i => (f + i) % n
theorem way_zero (f n : Nat) : way f n 0 = [] := rfl
theorem way_succ (f n k : Nat) : way f n (k + 1) = way f n k ++ [(f + k) % n] := by unfold way; rw [List.range_succ, List.map_append]; rfl
theorem way_len (f n k : Nat) : (way f n k).length = k := by unfold way; simp

theorem round_any (s : Option Addr) (m c : Nat) (v f : Int) (w : World) : Calls Tryd.prog 44 #[.slice s m c, .int .i64 v, .int .i64 f] w fun e w' =>
    e = .returned (.func (.func 56) #[] #[.pointer (some ⟨w.heap.size, 0, none⟩), .pointer (some ⟨w.heap.size + 1, 0, none⟩), .pointer (some ⟨w.heap.size + 1 + 1, 0, none⟩)]) ∧
    w' = ((w.alloc (.cells #[.slice s m c] 23)).alloc (.cells #[.int .i64 v] 3)).alloc (.cells #[.int .i64 f] 3) := by
  go_enter Tryd.func44, Tryd.ntmps44
  go_wp2
  go_ret
  exact ⟨rfl, rfl⟩

theorem arr34 : Tryd.prog.underlying 34 = some (.array (Tryd.prog.arrayLen 34) (Tryd.prog.elem 34)) := by kernel_rfl
theorem slice_arr (b : Nat) (W : World) : (Instr.sliceAt 34 (.pointer (some ⟨b, 0, none⟩)) none none none).run Tryd.prog W = .ok (.slice (some ⟨b, 0, none⟩) 2 2) W := by
  have h1 : Tryd.prog.arrayLen 34 = 2 := by kernel_rfl
  have h2 : Tryd.prog.elem 34 = 24 := by kernel_rfl
  rw [run_sliceAt_array_all _ _ _ arr34, h1, h2, Tryd.sizeOf24]
  simp [Result.andThen, slicedAt, Addr.add]
theorem slice_lo1 (b o m c i : Nat) (h : i ≤ m) (hc : i < c) (w : World) : (Instr.sliceAt 23 (.slice (some ⟨b, o, none⟩) m c) (some (.int .i64 (i : Int))) none none).run Tryd.prog w = .ok (.slice (some ⟨b, o + i, none⟩) (m - i) (c - i)) w := by
  rw [run_sliceAt_slice _ _ _ _ _ _ elem23, run_slice_l _ _ _ _ _ elem23 _ _ (by omega) (by omega), elem23_is, Tryd.sizeOf24]
  simp only [Result.andThen, sliced, Int.toNat_natCast]
  rw [if_neg (by omega)]
  simp [Addr.add]
theorem slice_hi1 (sl : Option Addr) (m c i : Nat) (h : i ≤ c) (w : World) : (Instr.sliceAt 23 (.slice sl m c) none (some (.int .i64 (i : Int))) none).run Tryd.prog w = .ok (.slice sl i c) w := by
  rw [run_sliceAt_slice _ _ _ _ _ _ elem23, run_slice_h _ _ _ _ _ elem23 _ _ (by omega) (by omega), elem23_is, Tryd.sizeOf24]
  have e : sl.map (fun x => x.add (0 * 1)) = sl := by
    cases sl with
    | none => rfl
    | some a => obtain ⟨b, o, sp⟩ := a; simp [Addr.add]
  simp only [Result.andThen, sliced, Int.toNat_natCast, e, ite_self, Nat.sub_zero]
theorem size24 : (Tryd.prog.info? 24).map (·.size) = some 1 := by kernel_rfl

/-- A record's two cells. -/
def Boxed2 (W : World) (b : Nat) (p x : Int) : Prop := W.cell? ⟨b, 0, none⟩ = some (.int .u64 p) ∧ W.cell? ⟨b, 1, none⟩ = some (.int .u64 x)

/-- What stands in a slot, copied into a record of one's own. -/
theorem copy_out1 {w : World} {b o P c1 : Nat} {p : Int} (h0 : w.cell? ⟨b, o + P, none⟩ = some (.int .u64 p)) :
    ∃ W6, (Builtin.copy_ #[23, 23] 3 #[.slice (some ⟨w.heap.size, 0, none⟩) 2 2, .slice (some ⟨b, o + P, none⟩) 1 c1]).run Tryd.prog (w.alloc (.cells #[.int .u64 0, .int .u64 0] 34)).drew = .ok (.int .i64 1) W6 ∧ Boxed2 W6 w.heap.size p 0 ∧ Ext w W6 := by
  have hc0 : (w.alloc (.cells #[.int .u64 0, .int .u64 0] 34)).drew.cell? ⟨w.heap.size, 0, none⟩ = some (.int .u64 0) := by unfold World.cell?; show (match (w.alloc _).heap[w.heap.size]? with | some (Obj.cells c _ _) => _ | _ => _) = _; rw [World.alloc_heap_new]; rfl
  have hc1 : (w.alloc (.cells #[.int .u64 0, .int .u64 0] 34)).drew.cell? ⟨w.heap.size, 1, none⟩ = some (.int .u64 0) := by unfold World.cell?; show (match (w.alloc _).heap[w.heap.size]? with | some (Obj.cells c _ _) => _ | _ => _) = _; rw [World.alloc_heap_new]; rfl
  have hf0 : ∀ i, (w.alloc (.cells #[.int .u64 0, .int .u64 0] 34)).drew.frozen? ⟨w.heap.size, i, none⟩ = false := fun i => by
    show (w.alloc (.cells #[.int .u64 0, .int .u64 0] 34)).frozen? ⟨w.heap.size, i, none⟩ = false
    unfold World.frozen?; rw [World.alloc_heap_new]; simp
  have hE : Ext w (w.alloc (.cells #[.int .u64 0, .int .u64 0] 34)).drew := (Ext.new w _).drew
  have h := run_copy_cells (P := Tryd.prog) (w.alloc (.cells #[.int .u64 0, .int .u64 0] 34)).drew 23 23 3 24 w.heap.size 0 2 2 ⟨b, o + P, none⟩ 1 c1 [.int .u64 p] Tryd.underlying23 size24 rfl
    (fun j v hv => by
      match j, hv with
      | 0, hv => simp at hv; subst hv; rw [add_is]; exact hE.cell h0
      | j + 1, hv => simp at hv)
    (fun j hj => by simp at hj; subst hj; rw [Nat.add_zero, hc0]; rfl) (fun j hj => hf0 _) (by intro v hv; simp at hv; subst hv; rfl)
  refine ⟨_, h, ⟨?_, ?_⟩, ?_⟩
  · exact World.cell?_setCell_same' _ _ _ (by rw [hc0]; rfl)
  · show (World.setCell _ _ _).cell? _ = _; rw [World.cell?_setCell_other _ _ _ _ (fun e => by cases e)]; exact hc1
  · exact hE.setCell (Nat.le_refl _) _
theorem copy_out2 {w : World} {b o P c1 : Nat} {p x : Int} (h0 : w.cell? ⟨b, o + P, none⟩ = some (.int .u64 p)) (h1 : w.cell? ⟨b, o + P + 1, none⟩ = some (.int .u64 x)) :
    ∃ W6, (Builtin.copy_ #[23, 23] 3 #[.slice (some ⟨w.heap.size, 0, none⟩) 2 2, .slice (some ⟨b, o + P, none⟩) 2 c1]).run Tryd.prog (w.alloc (.cells #[.int .u64 0, .int .u64 0] 34)).drew = .ok (.int .i64 2) W6 ∧ Boxed2 W6 w.heap.size p x ∧ Ext w W6 := by
  have hc0 : (w.alloc (.cells #[.int .u64 0, .int .u64 0] 34)).drew.cell? ⟨w.heap.size, 0, none⟩ = some (.int .u64 0) := by unfold World.cell?; show (match (w.alloc _).heap[w.heap.size]? with | some (Obj.cells c _ _) => _ | _ => _) = _; rw [World.alloc_heap_new]; rfl
  have hc1 : (w.alloc (.cells #[.int .u64 0, .int .u64 0] 34)).drew.cell? ⟨w.heap.size, 1, none⟩ = some (.int .u64 0) := by unfold World.cell?; show (match (w.alloc _).heap[w.heap.size]? with | some (Obj.cells c _ _) => _ | _ => _) = _; rw [World.alloc_heap_new]; rfl
  have hf0 : ∀ i, (w.alloc (.cells #[.int .u64 0, .int .u64 0] 34)).drew.frozen? ⟨w.heap.size, i, none⟩ = false := fun i => by
    show (w.alloc (.cells #[.int .u64 0, .int .u64 0] 34)).frozen? ⟨w.heap.size, i, none⟩ = false
    unfold World.frozen?; rw [World.alloc_heap_new]; simp
  have hE : Ext w (w.alloc (.cells #[.int .u64 0, .int .u64 0] 34)).drew := (Ext.new w _).drew
  have h := run_copy_cells (P := Tryd.prog) (w.alloc (.cells #[.int .u64 0, .int .u64 0] 34)).drew 23 23 3 24 w.heap.size 0 2 2 ⟨b, o + P, none⟩ 2 c1 [.int .u64 p, .int .u64 x] Tryd.underlying23 size24 rfl
    (fun j v hv => by
      match j, hv with
      | 0, hv => simp at hv; subst hv; rw [add_is]; exact hE.cell h0
      | 1, hv => simp at hv; subst hv; rw [add_is]; exact hE.cell h1
      | j + 2, hv => simp at hv)
    (fun j hj => by
      match j, hj with
      | 0, _ => rw [Nat.add_zero, hc0]; rfl
      | 1, _ => rw [Nat.zero_add, hc1]; rfl
      | j + 2, hj => exact absurd (show j + 2 < 2 from hj) (by omega)) (fun j hj => hf0 _) (by intro v hv; simp at hv; rcases hv with rfl | rfl <;> rfl)
  refine ⟨_, h, ⟨?_, ?_⟩, ?_⟩
  · show ((World.setCell _ _ _).setCell _ _).cell? _ = _
    rw [World.cell?_setCell_other _ _ _ _ (fun e => by cases e)]; exact World.cell?_setCell_same' _ _ _ (by rw [hc0]; rfl)
  · exact World.cell?_setCell_same' _ _ _ (by rw [World.cell?_setCell_other _ _ _ _ (fun e => by cases e), hc1]; rfl)
  · exact (hE.setCell (Nat.le_refl _) _).setCell (Nat.le_refl _) _

set_option maxRecDepth 100000 in
set_option maxHeartbeats 4000000 in
theorem round1_1 (mm : Nat) (s : Option Addr) (N c f B0 B1 B2 l : Nat) (t : List Rc) (w0 : World) (J Jx : List (At N) → World → Prop) (W : World) (hS : WS w0 s N c (flatW 1 t)) (hN : t.length = N) (ht : Thin 1 t) (hf : f < N) (hE : Ext w0 W) (hJ : AbidesFrom W.heap.size J)
    (b0 : Boxed W B0 23 (.slice s N c)) (b1 : Boxed W B1 3 (.int .i64 1)) (b2 : Boxed W B2 3 (.int .i64 f))
    (hY : ∀ pre x W1, J pre W1 → pre.length < N → YieldAt Fence.wide (mm - 1) Tryd.prog l (encs t N x) W1 fun e W' =>
      (e = .returned (.bool true) ∧ J (pre ++ [x]) W' ∧ Keeps w0.heap.size B0 B1 B2 (.slice s N c) (.int .i64 1) (.int .i64 f) W1 W') ∨ (e = .returned (.bool false) ∧ Jx (pre ++ [x]) W'))
    (h0 : J [] W) :
    CallsIn Fence.wide mm Tryd.prog 56 #[.func (.yield l) #[] #[], .pointer (some ⟨B0, 0, none⟩), .pointer (some ⟨B1, 0, none⟩), .pointer (some ⟨B2, 0, none⟩)] W fun e W' => (∃ v, e = .returned v) ∧
      ((∃ xs : List (At N), plc xs = way f N N ∧ J xs W') ∨ (∃ pre : List (At N), (∃ k, k < N ∧ plc pre = way f N (k + 1)) ∧ Jx pre W')) := by
  have hc0 := b0.cell
  have hc1 := b1.cell
  have hn := hS.le
  have hnc := hS.lc
  have hfn : ∀ f, Fence.wide.fn f := fun _ => trivial
  have hdep : Fence.wide.depth = none := rfl
  have HS := Lib.hid hS
  have HT := Lib.hid ht
  have HN := Lib.hid hN
  clear hS ht hN
  refine callsIn_of_wp Tryd.func56 rfl trivial ?_ rfl
  simp only [Tryd.ntmps56, List.size_toArray, List.length_cons, List.length_nil, Nat.reduceAdd, Nat.reduceSub, Array.replicate_succ, Array.replicate_zero, List.push_toArray, List.append_toArray, List.nil_append, List.cons_append]
  gi_wp2
  clear hc0 hc1
  gi_loopw [14] (fun i wr => ∃ (k : Nat) (pre : List (At N)), k ≤ N ∧ i = .int .i64 k ∧ RowKit.Hid (plc pre = way f N k) ∧ J pre wr ∧ Ext w0 wr ∧ Boxed wr B0 23 (.slice s N c) ∧ Boxed wr B1 3 (.int .i64 1) ∧ Boxed wr B2 3 (.int .i64 f)) (fun i _ => N - (RowKit.intOf i).toNat)
  case atStart => exact ⟨0, [], by omega, rfl, Lib.hid rfl, h0, hE, b0, b1, b2⟩
  case round =>
    obtain ⟨k, pre, hk, rfl, hp, hJs, hEs, a0, a1, a2⟩ := hrel
    by_cases hlt : k < N
    · have hkN : (k : Int) < N := by omega
      obtain ⟨P, hPe⟩ : ∃ P, P = (f + k) % N := ⟨_, rfl⟩
      have hP : P < N := by rw [hPe]; exact Nat.mod_lt _ (by omega)
      have hq1 : ((f : Int) + k) % N = P := by rw [hPe, Int.natCast_emod, Int.natCast_add]
      have hq2 : ((f : Int) + k).tmod N = P := by rw [Int.tmod_eq_emod_of_nonneg (by omega)]; exact hq1
      have HP := Lib.hid hPe
      clear hPe
      obtain ⟨p, hx, up, b, o, rfl, e0⟩ := (HS.out.ext hEs).get (k := P) hP
      have hu : RowKit.Hid (at' t P = (p, 0)) := Lib.hid (by have := slot_1 HT.out hx; unfold at'; rw [this]; rfl)
      obtain ⟨W6, hcp, hb6, hE6⟩ := copy_out1 (c1 := c - P) e0
      have hsl1 := slice_lo1 b o N c P (by omega) (by omega)
      have hsl2 : ∀ W, (Instr.sliceAt 23 (.slice (some ⟨b, o + P, none⟩) (N - P) (c - P)) none (some (.int .i64 1)) none).run Tryd.prog W = .ok (.slice (some ⟨b, o + P, none⟩) 1 (c - P)) W := slice_hi1 (some ⟨b, o + P, none⟩) (N - P) (c - P) 1 (by omega)
      have hsl0 := slice_arr wr.heap.size
      have r0 := Boxed.lt a0
      have d0 : W6.cell? ⟨B0, 0, none⟩ = some (.slice (some ⟨b, o, none⟩) N c) := hE6.cell a0.cell
      have d1 : W6.cell? ⟨B1, 0, none⟩ = some (.int .i64 1) := hE6.cell a1.cell
      have c0 := a0.cell
      have c1 := a1.cell
      have c2 := a2.cell
      have k0 : (wr.alloc (.cells #[.int .u64 0, .int .u64 0] 34)).cell? ⟨B0, 0, none⟩ = some (.slice (some ⟨b, o, none⟩) N c) := (Ext.new wr _).cell c0
      have k1 : (wr.alloc (.cells #[.int .u64 0, .int .u64 0] 34)).cell? ⟨B1, 0, none⟩ = some (.int .i64 1) := (Ext.new wr _).cell c1
      obtain ⟨M1, eM1⟩ : ∃ M1, RowKit.Hid (N - P = M1) := ⟨_, Lib.hid rfl⟩
      obtain ⟨C1, eC1⟩ : ∃ C1, RowKit.Hid (c - P = C1) := ⟨_, Lib.hid rfl⟩
      rw [eM1.out, eC1.out] at hsl1
      rw [eM1.out, eC1.out] at hsl2
      rw [eC1.out] at hcp
      have hJ6 := hJ pre wr W6 none hJs ⟨hE6.os, hE6.tape, hE6.output, hE6.size, fun i hi _ => hE6.block i hi⟩ (fun r e => by cases e)
      have hlen : pre.length < N := by
        have h1 : (plc pre).length = (way f N k).length := by rw [hp.out]
        rw [way_len] at h1
        simp at h1; omega
      obtain ⟨fn, tmps, assign, body, hy, hR⟩ := hY pre ⟨P, hP⟩ W6 hJ6 hlen
      dsimp only [encs] at hy
      rw [hu.out] at hy
      dsimp only at hy
      have A0 := Lib.hid (show Boxed W6 B0 23 _ from (hE6.block _ a0.lt).trans a0)
      have A1 := Lib.hid (show Boxed W6 B1 3 _ from (hE6.block _ a1.lt).trans a1)
      have A2 := Lib.hid (show Boxed W6 B2 3 _ from (hE6.block _ a2.lt).trans a2)
      obtain ⟨f0, f1⟩ := hb6
      have H6 := Lib.hid (Ext.trans hEs hE6)
      have Hsl0 := Lib.hid hsl0
      have Hsl1 := Lib.hid hsl1
      have Hsl2 := Lib.hid hsl2
      have Hcp := Lib.hid hcp
      clear hx e0 a0 a1 a2 hE6 hJ6 hEs hsl0 hsl1 hsl2 hcp
      gi_wp2
      have hwP : IntKind.i64.wrap (P : Int) = P := IntWalk.i64_in _ (by omega)
      have hwP2 : IntKind.i64.wrap ((P : Int) * 2) = (P : Int) * 2 := IntWalk.i64_in _ (by omega)
      have hwP3 : RowKit.wrap64 (P : Int) = P := by rw [← hwP]; first | rfl | (unfold RowKit.wrap64; omega)
      have hsl0 := Hsl0.out
      have hsl1 := Hsl1.out
      have hsl2 := Hsl2.out
      have hcp := Hcp.out
      refine wpIn_wide.2 ?_
      go_region_held3 (fun w' => (w'.cell? ⟨B0, 0, none⟩ = some (.slice (some ⟨b, o, none⟩) N c) ∧ w'.cell? ⟨B1, 0, none⟩ = some (.int .i64 1)))
        (first
          | exact ⟨d0, d1⟩
          | exact ⟨k0, k1⟩
          | go_keep)
        (fail)
      rename_i hh
      clear hh hsl0 hsl1 hsl2 hcp k0 k1 c0 c1 c2
      gi_wp2
      refine hR.mono ?_
      rintro e W3 (⟨rfl, hJ3, hk3⟩ | ⟨rfl, hJx3⟩)
      · gi_wp2
        go_roundw
        case rel => exact ⟨k + 1, pre ++ [⟨P, hP⟩], by omega, by go_num, Lib.hid (by rw [way_succ, ← hp.out, ← HP.out]; simp), hJ3, Below.trans H6.out hk3.below, hk3.k0 A0.out, hk3.k1 A1.out, hk3.k2 A2.out⟩
        case measure => simp [RowKit.intOf]; omega
      · gi_wp2
        refine bodyPost_ret (results_none rfl _ _ _) rfl ?_
        exact ⟨⟨_, rfl⟩, .inr ⟨_, ⟨k, hlt, by rw [way_succ, ← hp.out, ← HP.out]; simp⟩, hJx3⟩⟩
    · obtain rfl : k = N := by omega
      gi_wp2
      go_end0
      exact ⟨⟨_, rfl⟩, .inl ⟨pre, hp.out, hJs⟩⟩

set_option maxRecDepth 100000 in
set_option maxHeartbeats 4000000 in
theorem round1_2 (mm : Nat) (s : Option Addr) (N m c f B0 B1 B2 l : Nat) (t : List Rc) (w0 : World) (J Jx : List (At N) → World → Prop) (W : World) (hS : WS w0 s m c (flatW 2 t)) (hN : t.length = N) (hM : m = N * 2) (ht : Thin 2 t) (hf : f < N) (hE : Ext w0 W) (hJ : AbidesFrom W.heap.size J)
    (b0 : Boxed W B0 23 (.slice s m c)) (b1 : Boxed W B1 3 (.int .i64 2)) (b2 : Boxed W B2 3 (.int .i64 f))
    (hY : ∀ pre x W1, J pre W1 → pre.length < N → YieldAt Fence.wide (mm - 1) Tryd.prog l (encs t N x) W1 fun e W' =>
      (e = .returned (.bool true) ∧ J (pre ++ [x]) W' ∧ Keeps w0.heap.size B0 B1 B2 (.slice s m c) (.int .i64 2) (.int .i64 f) W1 W') ∨ (e = .returned (.bool false) ∧ Jx (pre ++ [x]) W'))
    (h0 : J [] W) :
    CallsIn Fence.wide mm Tryd.prog 56 #[.func (.yield l) #[] #[], .pointer (some ⟨B0, 0, none⟩), .pointer (some ⟨B1, 0, none⟩), .pointer (some ⟨B2, 0, none⟩)] W fun e W' => (∃ v, e = .returned v) ∧
      ((∃ xs : List (At N), plc xs = way f N N ∧ J xs W') ∨ (∃ pre : List (At N), (∃ k, k < N ∧ plc pre = way f N (k + 1)) ∧ Jx pre W')) := by
  have hc0 := b0.cell
  have hc1 := b1.cell
  have hn := hS.le
  have hnc := hS.lc
  have hdv : (m : Int).tdiv 2 = N := by rw [quo_2]; omega
  have hNb : N ≤ 1048576 := by omega
  have HM := Lib.hid hM
  clear hM
  have hfn : ∀ f, Fence.wide.fn f := fun _ => trivial
  have hdep : Fence.wide.depth = none := rfl
  have HS := Lib.hid hS
  have HT := Lib.hid ht
  have HN := Lib.hid hN
  clear hS ht hN
  refine callsIn_of_wp Tryd.func56 rfl trivial ?_ rfl
  simp only [Tryd.ntmps56, List.size_toArray, List.length_cons, List.length_nil, Nat.reduceAdd, Nat.reduceSub, Array.replicate_succ, Array.replicate_zero, List.push_toArray, List.append_toArray, List.nil_append, List.cons_append]
  gi_wp2
  clear hc0 hc1
  gi_loopw [14] (fun i wr => ∃ (k : Nat) (pre : List (At N)), k ≤ N ∧ i = .int .i64 k ∧ RowKit.Hid (plc pre = way f N k) ∧ J pre wr ∧ Ext w0 wr ∧ Boxed wr B0 23 (.slice s m c) ∧ Boxed wr B1 3 (.int .i64 2) ∧ Boxed wr B2 3 (.int .i64 f)) (fun i _ => N - (RowKit.intOf i).toNat)
  case atStart => exact ⟨0, [], by omega, rfl, Lib.hid rfl, h0, hE, b0, b1, b2⟩
  case round =>
    obtain ⟨k, pre, hk, rfl, hp, hJs, hEs, a0, a1, a2⟩ := hrel
    by_cases hlt : k < N
    · have hkN : (k : Int) < N := by omega
      obtain ⟨P, hPe⟩ : ∃ P, P = (f + k) % N := ⟨_, rfl⟩
      have hP : P < N := by rw [hPe]; exact Nat.mod_lt _ (by omega)
      have hq1 : ((f : Int) + k) % N = P := by rw [hPe, Int.natCast_emod, Int.natCast_add]
      have hq2 : ((f : Int) + k).tmod N = P := by rw [Int.tmod_eq_emod_of_nonneg (by omega)]; exact hq1
      have HP := Lib.hid hPe
      clear hPe
      have hP2 : P * 2 + 1 < m := by have := HM.out; omega
      have hP3 : P * 2 < m := by omega
      obtain ⟨p, hx, up, b, o, rfl, e0⟩ := (HS.out.ext hEs).get (k := P * 2) hP3
      obtain ⟨x, hx1, ux, _, _, e', e1⟩ := (HS.out.ext hEs).get (k := P * 2 + 1) hP2
      cases e'
      have hu : RowKit.Hid (at' t P = (p, x)) := Lib.hid (by have := slot_2 hx hx1; unfold at'; rw [this]; rfl)
      obtain ⟨W6, hcp, hb6, hE6⟩ := copy_out2 (c1 := c - P * 2) e0 e1
      have hmulP : ((P : Int) * 2) = ((P * 2 : Nat) : Int) := by omega
      have hsl1 := slice_lo1 b o m c (P * 2) (by omega) (by omega)
      have hsl2 : ∀ W, (Instr.sliceAt 23 (.slice (some ⟨b, o + P * 2, none⟩) (m - P * 2) (c - P * 2)) none (some (.int .i64 2)) none).run Tryd.prog W = .ok (.slice (some ⟨b, o + P * 2, none⟩) 2 (c - P * 2)) W := slice_hi1 (some ⟨b, o + P * 2, none⟩) (m - P * 2) (c - P * 2) 2 (by omega)
      rw [← hmulP] at hsl1
      clear hmulP hx1 e1
      have hsl0 := slice_arr wr.heap.size
      have r0 := Boxed.lt a0
      have d0 : W6.cell? ⟨B0, 0, none⟩ = some (.slice (some ⟨b, o, none⟩) m c) := hE6.cell a0.cell
      have d1 : W6.cell? ⟨B1, 0, none⟩ = some (.int .i64 2) := hE6.cell a1.cell
      have c0 := a0.cell
      have c1 := a1.cell
      have c2 := a2.cell
      have k0 : (wr.alloc (.cells #[.int .u64 0, .int .u64 0] 34)).cell? ⟨B0, 0, none⟩ = some (.slice (some ⟨b, o, none⟩) m c) := (Ext.new wr _).cell c0
      have k1 : (wr.alloc (.cells #[.int .u64 0, .int .u64 0] 34)).cell? ⟨B1, 0, none⟩ = some (.int .i64 2) := (Ext.new wr _).cell c1
      obtain ⟨M1, eM1⟩ : ∃ M1, RowKit.Hid (m - P * 2 = M1) := ⟨_, Lib.hid rfl⟩
      obtain ⟨C1, eC1⟩ : ∃ C1, RowKit.Hid (c - P * 2 = C1) := ⟨_, Lib.hid rfl⟩
      rw [eM1.out, eC1.out] at hsl1
      rw [eM1.out, eC1.out] at hsl2
      rw [eC1.out] at hcp
      have hJ6 := hJ pre wr W6 none hJs ⟨hE6.os, hE6.tape, hE6.output, hE6.size, fun i hi _ => hE6.block i hi⟩ (fun r e => by cases e)
      have hlen : pre.length < N := by
        have h1 : (plc pre).length = (way f N k).length := by rw [hp.out]
        rw [way_len] at h1
        simp at h1; omega
      obtain ⟨fn, tmps, assign, body, hy, hR⟩ := hY pre ⟨P, hP⟩ W6 hJ6 hlen
      dsimp only [encs] at hy
      rw [hu.out] at hy
      dsimp only at hy
      have A0 := Lib.hid (show Boxed W6 B0 23 _ from (hE6.block _ a0.lt).trans a0)
      have A1 := Lib.hid (show Boxed W6 B1 3 _ from (hE6.block _ a1.lt).trans a1)
      have A2 := Lib.hid (show Boxed W6 B2 3 _ from (hE6.block _ a2.lt).trans a2)
      obtain ⟨f0, f1⟩ := hb6
      have H6 := Lib.hid (Ext.trans hEs hE6)
      have Hsl0 := Lib.hid hsl0
      have Hsl1 := Lib.hid hsl1
      have Hsl2 := Lib.hid hsl2
      have Hcp := Lib.hid hcp
      clear hx e0 a0 a1 a2 hE6 hJ6 hEs hsl0 hsl1 hsl2 hcp
      gi_wp2
      have hwP : IntKind.i64.wrap (P : Int) = P := IntWalk.i64_in _ (by omega)
      have hwP2 : IntKind.i64.wrap ((P : Int) * 2) = (P : Int) * 2 := IntWalk.i64_in _ (by omega)
      have hwP3 : RowKit.wrap64 (P : Int) = P := by rw [← hwP]; first | rfl | (unfold RowKit.wrap64; omega)
      have hsl0 := Hsl0.out
      have hsl1 := Hsl1.out
      have hsl2 := Hsl2.out
      have hcp := Hcp.out
      refine wpIn_wide.2 ?_
      go_region_held3 (fun w' => (w'.cell? ⟨B0, 0, none⟩ = some (.slice (some ⟨b, o, none⟩) m c) ∧ w'.cell? ⟨B1, 0, none⟩ = some (.int .i64 2)))
        (first
          | exact ⟨d0, d1⟩
          | exact ⟨k0, k1⟩
          | go_keep)
        (fail)
      rename_i hh
      clear hh hsl0 hsl1 hsl2 hcp k0 k1 c0 c1 c2
      gi_wp2
      refine hR.mono ?_
      rintro e W3 (⟨rfl, hJ3, hk3⟩ | ⟨rfl, hJx3⟩)
      · gi_wp2
        go_roundw
        case rel => exact ⟨k + 1, pre ++ [⟨P, hP⟩], by omega, by go_num, Lib.hid (by rw [way_succ, ← hp.out, ← HP.out]; simp), hJ3, Below.trans H6.out hk3.below, hk3.k0 A0.out, hk3.k1 A1.out, hk3.k2 A2.out⟩
        case measure => simp [RowKit.intOf]; omega
      · gi_wp2
        refine bodyPost_ret (results_none rfl _ _ _) rfl ?_
        exact ⟨⟨_, rfl⟩, .inr ⟨_, ⟨k, hlt, by rw [way_succ, ← hp.out, ← HP.out]; simp⟩, hJx3⟩⟩
    · obtain rfl : k = N := by omega
      gi_wp2
      go_end0
      exact ⟨⟨_, rfl⟩, .inl ⟨pre, hp.out, hJs⟩⟩

/-- What round's iterator hands over. -/
theorem round_stops (mm : Nat) (s : Option Addr) (N m c v f B0 B1 B2 : Nat) (t : List Rc) (w0 w : World) (hv : Wd v) (hS : WS w0 s m c (flatW v t)) (hN : t.length = N) (ht : Thin v t) (hf : f < N) (hE : Ext w0 w)
    (b0 : Boxed w B0 23 (.slice s m c)) (b1 : Boxed w B1 3 (.int .i64 v)) (b2 : Boxed w B2 3 (.int .i64 f)) :
    SeqStopsK Fence.wide mm Tryd.prog 56 #[.pointer (some ⟨B0, 0, none⟩), .pointer (some ⟨B1, 0, none⟩), .pointer (some ⟨B2, 0, none⟩)] (encs t N) (Keeps w0.heap.size B0 B1 B2 (.slice s m c) (.int .i64 v) (.int .i64 f))
      (fun xs => plc xs = way f N N) (fun pre => ∃ k, k < N ∧ plc pre = way f N (k + 1)) N w := fun l J Jx W hW hJ _ hY h0 => by
  have hm := hS.len
  rw [flatW_len hv, hN] at hm
  rcases hv with rfl | rfl
  · obtain rfl : N = m := by omega
    exact round1_1 mm s N c f B0 B1 B2 l t w0 J Jx W hS hN ht hf (Ext.trans hE hW) hJ ((hW.block _ b0.lt).trans b0) ((hW.block _ b1.lt).trans b1) ((hW.block _ b2.lt).trans b2) hY h0
  · exact round1_2 mm s N m c f B0 B1 B2 l t w0 J Jx W hS hN hm.symm ht hf (Ext.trans hE hW) hJ ((hW.block _ b0.lt).trans b0) ((hW.block _ b1.lt).trans b1) ((hW.block _ b2.lt).trans b2) hY h0

end Go.Proofs.YtbpgnnogpcppdaaDoor
