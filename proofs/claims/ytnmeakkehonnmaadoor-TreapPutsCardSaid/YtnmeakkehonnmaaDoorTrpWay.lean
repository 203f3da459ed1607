/-
  What the iterator that way makes hands to whatever loop body: the numbers that are met on the way to a key. Conditions: the keys and the links are there, and a way leads from the top over them; a round that goes on leaves them, and the iterator's own boxes, as they were.
-/
import Derived.RangeFuncNested
import Derived.RangeFuncBound
import Derived.RangeFuncCalls
import Derived.RangeFuncLeaves
import Derived.Shelf.Abstract
import Derived.Shelf.RegionOpen
import Derived.OwnWalkIn
import Derived.TacticsInMore
import Derived.LoopNIn
import Derived.LoopIn
import Derived.Test.YtnmeakkehonnmaaDoorTrpBuild
namespace Go.Proofs.YtnmeakkehonnmaaDoor.Trp
open Go.RowKit Go.Shelf

/-- There is one way alone. -/
theorem way_one {l : List Int} {L : List Pr} {q : Int} : ∀ {xs ys : List Int} {a : Int}, Way l L q a xs → Way l L q a ys → xs = ys
  | [], ys, a, h, g => by
    have e : a = 0 := h
    subst e
    exact (way_zero g).symm
  | x :: xs, ys, a, h, g => by
    have ha : a ≠ 0 := by obtain ⟨e, i, k, y, e2, _⟩ := h; omega
    obtain ⟨i, k, y, r, e1, e2, h1, h2, h3, h4, h5⟩ := way_some h ha
    obtain ⟨i', k', y', r', f1, f2, g1, g2, g3, g4, g5⟩ := way_some g ha
    cases e1
    subst f1
    have : i = i' := by omega
    subst this
    rw [h1] at g1; cases g1
    rw [h2] at g2; cases g2
    congr 1
    rcases Int.lt_trichotomy q k with c | c | c
    · exact way_one (h3 c) (g3 c)
    · rw [h5 c.symm, g5 c.symm]
    · exact way_one (h4 c) (g4 c)
open Classical in
/-- How long the way from a on is. -/
noncomputable def wlen (l : List Int) (L : List Pr) (q a : Int) : Nat := if h : ∃ xs, Way l L q a xs then (Classical.choose h).length else 0
theorem wlen_of {l : List Int} {L : List Pr} {q a : Int} {xs : List Int} (h : Way l L q a xs) : wlen l L q a = xs.length := by
  have hx : ∃ xs, Way l L q a xs := ⟨xs, h⟩
  unfold wlen
  rw [dif_pos hx, way_one (Classical.choose_spec hx) h]

/-- What a round keeps: what lay, and the iterator's boxes. -/
structure Keeps (n₀ B1 B2 B3 : Nat) (v1 v2 v3 : Value) (W W' : World) : Prop where
  below : Below n₀ W W'
  k1 : Boxed W B1 22 v1 → Boxed W' B1 22 v1
  k2 : Boxed W B2 25 v2 → Boxed W' B2 25 v2
  k3 : Boxed W B3 24 v3 → Boxed W' B3 24 v3
theorem Keeps.trans {n₀ B0 B1 B2 : Nat} {v0 v1 v2 : Value} {A B C : World} (h : Keeps n₀ B0 B1 B2 v0 v1 v2 A B) (g : Keeps n₀ B0 B1 B2 v0 v1 v2 B C) : Keeps n₀ B0 B1 B2 v0 v1 v2 A C :=
  ⟨h.below.trans g.below, fun x => g.k1 (h.k1 x), fun x => g.k2 (h.k2 x), fun x => g.k3 (h.k3 x)⟩
theorem Keeps.put {n₀ B0 B1 B2 : Nat} {v0 v1 v2 : Value} {w : World} (hn : n₀ ≤ w.heap.size) (W : World) (l : Nat) (o o' : Obj) (hl : w.heap.size ≤ l) (h : W.heap[l]? = some o) (hc : o.isCells = false) (hw : o.isWalk = false) : Keeps n₀ B0 B1 B2 v0 v1 v2 W (W.putObj l o') :=
  have k : ∀ {B : Nat} {t : TypeId} {v : Value}, Boxed W B t v → Boxed (W.putObj l o') B t v := fun {B t v} hb => hb.kept (grownBy_putObj' W l o') (fun e => by
    injection e with e; subst e; unfold Boxed at hb; rw [h] at hb; cases hb; cases hc)
  ⟨belowK_b hn W l o o' hl h hc hw, k, k, k⟩

def encs (x : Int) : Array Value := #[.int .i64 x]

/-- way makes the iterator, with four boxes. -/
theorem way_any (s : Option Addr) (n c : Nat) (r : Int) (sl : Option Addr) (m cl : Nat) (q : Int) (w : World) : Calls Tryd.prog 30 #[.slice s n c, .int .i64 r, .slice sl m cl, .int .u64 q] w fun e w' =>
    e = .returned (.func (.func 33) #[] #[.pointer (some ⟨w.heap.size + 1, 0, none⟩), .pointer (some ⟨w.heap.size, 0, none⟩), .pointer (some ⟨w.heap.size + 1 + 1 + 1, 0, none⟩), .pointer (some ⟨w.heap.size + 1 + 1, 0, none⟩)]) ∧
    w' = (((w.alloc (.cells #[.slice s n c] 22)).alloc (.cells #[.int .i64 r] 3)).alloc (.cells #[.slice sl m cl] 24)).alloc (.cells #[.int .u64 q] 25) := by
  go_enter Tryd.func30, Tryd.ntmps30
  go_wp2
  go_ret
  exact ⟨rfl, rfl⟩

set_option maxRecDepth 100000 in
set_option maxHeartbeats 4000000 in
theorem way1_in (mm : Nat) (s : Option Addr) (n c : Nat) (l : List Int) (r : Int) (sl : Option Addr) (m cl : Nat) (L : List Pr) (q : Int) (P : List Int) (B0 B1 B2 B3 lp : Nat) (w0 : World) (J Jx : List Int → World → Prop) (W : World) (hW : WS w0 s n c l) (hL : LS w0 sl m cl L) (hWy : Way l L q r P) (hE : Ext w0 W)
    (b0 : Boxed W B0 3 (.int .i64 r)) (b1 : Boxed W B1 22 (.slice s n c)) (b2 : Boxed W B2 25 (.int .u64 q)) (b3 : Boxed W B3 24 (.slice sl m cl))
    (hY : ∀ pre x W1, J pre W1 → pre.length < P.length → YieldAt Fence.wide (mm - 1) Tryd.prog lp (encs x) W1 fun e W' =>
      (e = .returned (.bool true) ∧ J (pre ++ [x]) W' ∧ Keeps w0.heap.size B1 B2 B3 (.slice s n c) (.int .u64 q) (.slice sl m cl) W1 W') ∨ (e = .returned (.bool false) ∧ Jx (pre ++ [x]) W'))
    (h0 : J [] W) :
    CallsIn Fence.wide mm Tryd.prog 33 #[.func (.yield lp) #[] #[], .pointer (some ⟨B0, 0, none⟩), .pointer (some ⟨B1, 0, none⟩), .pointer (some ⟨B2, 0, none⟩), .pointer (some ⟨B3, 0, none⟩)] W fun e W' => (∃ v, e = .returned v) ∧
      ((∃ xs, xs = P ∧ J xs W') ∨ (∃ pre : List Int, True ∧ Jx pre W')) := by
  have hc0 := b0.cell
  have hn := hW.le
  have hm := hL.le
  have hfn : ∀ f, Fence.wide.fn f := fun _ => trivial
  have hdep : Fence.wide.depth = none := rfl
  have HW := Lib.hid hW
  have HL := Lib.hid hL
  have HY := Lib.hid hWy
  clear hW hL hWy
  refine callsIn_of_wp Tryd.func33 rfl trivial ?_ rfl
  simp only [Tryd.ntmps33, List.size_toArray, List.length_cons, List.length_nil, Nat.reduceAdd, Nat.reduceSub, Array.replicate_succ, Array.replicate_zero, List.push_toArray, List.append_toArray, List.nil_append, List.cons_append]
  gi_wp2
  clear hc0
  gi_loopw [6] (fun av wr => ∃ (a : Int) (pre rest : List Int), av = .int .i64 a ∧ RowKit.Hid (pre ++ rest = P ∧ Way l L q a rest) ∧ J pre wr ∧ Ext w0 wr ∧ Boxed wr B1 22 (.slice s n c) ∧ Boxed wr B2 25 (.int .u64 q) ∧ Boxed wr B3 24 (.slice sl m cl)) (fun av _ => wlen l L q (RowKit.intOf av))
  case atStart => exact ⟨r, [], P, rfl, Lib.hid ⟨rfl, HY.out⟩, h0, hE, b1, b2, b3⟩
  case round =>
    obtain ⟨a, pre, rest, rfl, hP, hJs, hEs, a1, a2, a3⟩ := hrel
    by_cases ha : a = 0
    · subst ha
      gi_wp2
      go_end0
      have e := way_zero hP.out.2
      subst e
      exact ⟨⟨_, rfl⟩, .inl ⟨pre, by have := hP.out.1; simpa using this, hJs⟩⟩
    · obtain ⟨i, k', y, rest', rfl, rfl, hki, hLi, hA, hB, hC⟩ := way_some hP.out.2 ha
      have hP1 : RowKit.Hid (pre ++ ((i + 1 : Nat) : Int) :: rest' = P) := Lib.hid hP.out.1
      have hWl : RowKit.Hid (wlen l L q ((i + 1 : Nat) : Int) = rest'.length + 1) := Lib.hid (wlen_of hP.out.2)
      have hin : i < n := by rw [← HW.out.len]; exact (List.getElem?_eq_some_iff.1 hki).1
      have him : i < m := by rw [← HL.out.len]; exact (List.getElem?_eq_some_iff.1 hLi).1
      have hlen : pre.length < P.length := by rw [← hP1.out]; simp
      obtain ⟨fn, tmps, assign, body, hy, hR⟩ := hY pre ((i : Int) + 1) wr hJs hlen
      dsimp only [encs] at hy
      have hb1 : (((i : Int) + 1) != 0) = true := by simp; omega
      have hw1 : IntKind.i64.wrap ((i : Int) + 1 - 1) = i := by rw [IntWalk.i64_in _ (by omega)]; omega
      have hw2 : IntKind.i64.wrap (i : Int) = i := IntWalk.i64_in _ (by omega)
      have hi1 : (i : Int) < n := by omega
      have hi2 : (i : Int) < m := by omega
      gi_wp2
      refine hR.mono ?_
      rintro e W3 (⟨rfl, hJ3, hk3⟩ | ⟨rfl, hJx3⟩)
      · have hE3 : Ext w0 W3 := Below.trans hEs hk3.below
        have d1 := hk3.k1 a1
        have d2 := hk3.k2 a2
        have d3 := hk3.k3 a3
        have e1 := d1.cell
        have e2 := d2.cell
        have e3 := d3.cell
        obtain ⟨x, hx, ux, b, o, rfl, cx⟩ := (HW.out.ext hE3).get (k := i) hin
        obtain ⟨⟨y1, y2⟩, hyy, uy, bb, oo, rfl, cy1, cy2⟩ := (HL.out.ext hE3).get (k := i) him
        rw [hki] at hx
        rw [hLi] at hyy
        cases hx
        cases hyy
        clear hP hki hLi ha hR hy
        rcases Int.lt_trichotomy q k' with hlt | hlt | hlt
        · have hq1 : decide (q < k') = true := decide_eq_true hlt
          have hN : RowKit.Hid ((pre ++ [((i + 1 : Nat) : Int)]) ++ rest' = P ∧ Way l L q y1 rest') := Lib.hid ⟨by rw [← hP1.out]; simp, hA hlt⟩
          have hM : RowKit.Hid (wlen l L q y1 < wlen l L q ((i + 1 : Nat) : Int)) := Lib.hid (by rw [hWl.out, wlen_of hN.out.2]; omega)
          clear hA hB hC hlt
          gi_wp2
          exact ⟨⟨y1, _, rest', rfl, hN, hJ3, hE3, d1, d2, d3⟩, hM.out⟩
        · have hq1 : decide (q < k') = false := decide_eq_false (by omega)
          have hq2 : decide (k' < q) = false := decide_eq_false (by omega)
          have hN : RowKit.Hid (pre ++ [(i : Int) + 1] = P) := Lib.hid (by rw [← hP1.out, hC hlt.symm]; rfl)
          clear hA hB hC hlt
          gi_wp2
          refine bodyPost_ret (results_none rfl _ _ _) rfl ?_
          exact ⟨⟨_, rfl⟩, .inl ⟨_, hN.out, hJ3⟩⟩
        · have hq1 : decide (q < k') = false := decide_eq_false (by omega)
          have hq2 : decide (k' < q) = true := decide_eq_true hlt
          have hN : RowKit.Hid ((pre ++ [((i + 1 : Nat) : Int)]) ++ rest' = P ∧ Way l L q y2 rest') := Lib.hid ⟨by rw [← hP1.out]; simp, hB hlt⟩
          have hM : RowKit.Hid (wlen l L q y2 < wlen l L q ((i + 1 : Nat) : Int)) := Lib.hid (by rw [hWl.out, wlen_of hN.out.2]; omega)
          clear hA hB hC hlt
          gi_wp2
          exact ⟨⟨y2, _, rest', rfl, hN, hJ3, hE3, d1, d2, d3⟩, hM.out⟩
      · gi_wp2
        go_end0
        exact ⟨⟨_, rfl⟩, .inr ⟨_, trivial, hJx3⟩⟩

/-- What way's iterator hands over. -/
theorem way_stops (mm : Nat) (s : Option Addr) (n c : Nat) (l : List Int) (r : Int) (sl : Option Addr) (m cl : Nat) (L : List Pr) (q : Int) (P : List Int) (B0 B1 B2 B3 : Nat) (w0 w : World) (hW : WS w0 s n c l) (hL : LS w0 sl m cl L) (hWy : Way l L q r P) (hE : Ext w0 w)
    (b0 : Boxed w B0 3 (.int .i64 r)) (b1 : Boxed w B1 22 (.slice s n c)) (b2 : Boxed w B2 25 (.int .u64 q)) (b3 : Boxed w B3 24 (.slice sl m cl)) :
    SeqStopsK Fence.wide mm Tryd.prog 33 #[.pointer (some ⟨B0, 0, none⟩), .pointer (some ⟨B1, 0, none⟩), .pointer (some ⟨B2, 0, none⟩), .pointer (some ⟨B3, 0, none⟩)] encs (Keeps w0.heap.size B1 B2 B3 (.slice s n c) (.int .u64 q) (.slice sl m cl)) (fun xs => xs = P) (fun _ => True) P.length w := fun lp J Jx W hWW _ _ hY h0 =>
  way1_in mm s n c l r sl m cl L q P B0 B1 B2 B3 lp w0 J Jx W hW hL hWy (Ext.trans hE hWW) ((hWW.block _ b0.lt).trans b0) ((hWW.block _ b1.lt).trans b1) ((hWW.block _ b2.lt).trans b2) ((hWW.block _ b3.lt).trans b3) hY h0

end Go.Proofs.YtnmeakkehonnmaaDoor.Trp
