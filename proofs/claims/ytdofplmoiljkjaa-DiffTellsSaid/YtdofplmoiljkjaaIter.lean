/-
  What the iterator that unlike makes hands to whatever loop body: each place at which the words differ, rising, and b's word there. Conditions: the words are there, as many in a as in b; a round leaves them, and the iterator's own box, as they were.
-/
import Derived.RangeFuncNested
import Derived.RangeFuncBound
import Derived.RangeFuncCalls
import Derived.RangeFuncLeaves
import Derived.Shelf.Abstract
import Derived.Shelf.RegionOpen
import Derived.WalkKit
import Derived.OwnWalkIn
import Derived.TacticsInMore
import Derived.LoopNIn
import Derived.LoopIn
import Derived.Test.YtdofplmoiljkjaaLeaf
namespace Go.Proofs.Ytdofplmoiljkjaa
open Go.RowKit Go.Shelf

/-- What a round keeps: what lay, and the iterator's box. -/
def Keeps (n₀ Ba : Nat) (v : Value) (W W' : World) : Prop := Below n₀ W W' ∧ (Boxed W Ba 22 v → Boxed W' Ba 22 v)
theorem Keeps.refl (n₀ Ba : Nat) (v : Value) (W : World) : Keeps n₀ Ba v W W := ⟨Below.refl _ _, id⟩
theorem Keeps.trans {n₀ Ba : Nat} {v : Value} {A B C : World} (h : Keeps n₀ Ba v A B) (g : Keeps n₀ Ba v B C) : Keeps n₀ Ba v A C := ⟨h.1.trans g.1, fun x => g.2 (h.2 x)⟩
theorem Keeps.put {n₀ Ba : Nat} {v : Value} {w : World} (hn : n₀ ≤ w.heap.size) (W : World) (l : Nat) (o o' : Obj) (hl : w.heap.size ≤ l) (h : W.heap[l]? = some o) (hc : o.isCells = false) (hw : o.isWalk = false) : Keeps n₀ Ba v W (W.putObj l o') :=
  ⟨belowK_b hn W l o o' hl h hc hw, fun hb => hb.kept (grownBy_putObj' W l o') (fun e => by
    cases e; have : W.heap[Ba]? = _ := hb; rw [h] at this; cases this; cases hc)⟩

/-- A place of n. -/
abbrev At (n : Nat) := { i : Nat // i < n }
abbrev plc {n : Nat} (l : List (At n)) : List Nat := l.map (·.1)
def encs (b : List Int) (n : Nat) (x : At n) : Array Value := #[.int .i64 x.1, .int .u64 (b[x.1]?.getD 0)]

theorem unlike_any (s1 s2 : Option Addr) (n1 c1 n2 c2 : Nat) (w : World) : Calls Try.prog 23 #[.slice s1 n1 c1, .slice s2 n2 c2] w fun e w' =>
    e = .returned (.func (.func 27) #[] #[.pointer (some ⟨w.heap.size + 1, 0, none⟩), .pointer (some ⟨w.heap.size, 0, none⟩)]) ∧ w' = (w.alloc (.cells #[.slice s1 n1 c1] 22)).alloc (.cells #[.slice s2 n2 c2] 22) := by
  go_enter Try.func23, Try.ntmps23
  go_wp2
  go_ret
  exact ⟨rfl, rfl⟩

set_option maxRecDepth 100000 in
set_option maxHeartbeats 4000000 in
theorem unlike1_in (m : Nat) (sa sb : Option Addr) (n ca cb Ba Bb l : Nat) (a b : List Int) (w0 : World) (J Jx : List (At n) → World → Prop) (W : World) (hA : WS w0 sa n ca a) (hB : WS w0 sb n cb b) (hE : Ext w0 W) (hJ : AbidesFrom W.heap.size J)
    (ha : Boxed W Ba 22 (.slice sa n ca)) (hb : Boxed W Bb 22 (.slice sb n cb))
    (hY : ∀ pre x W1, J pre W1 → pre.length < n → YieldAt Fence.wide (m - 1) Try.prog l (encs b n x) W1 fun e W' =>
      (e = .returned (.bool true) ∧ J (pre ++ [x]) W' ∧ Keeps w0.heap.size Ba (.slice sa n ca) W1 W') ∨ (e = .returned (.bool false) ∧ Jx (pre ++ [x]) W'))
    (h0 : J [] W) :
    CallsIn Fence.wide m Try.prog 27 #[.func (.yield l) #[] #[], .pointer (some ⟨Bb, 0, none⟩), .pointer (some ⟨Ba, 0, none⟩)] W fun e W' => (∃ v, e = .returned v) ∧
      ((∃ xs, plc xs = unl a b n ∧ J xs W') ∨ (∃ pre : List (At n), (unl a b n ≠ []) ∧ Jx pre W')) := by
  have hcb := hb.cell
  have hn := hA.le
  have hfn : ∀ f, Fence.wide.fn f := fun _ => trivial
  have hdep : Fence.wide.depth = none := rfl
  have hA' := Lib.hid hA
  have hB' := Lib.hid hB
  clear hA hB
  refine callsIn_of_wp Try.func27 rfl trivial ?_ rfl
  simp only [Try.ntmps27, List.size_toArray, List.length_cons, List.length_nil, Nat.reduceAdd, Nat.reduceSub, Array.replicate_succ, Array.replicate_zero, List.push_toArray, List.append_toArray, List.nil_append, List.cons_append]
  gi_wp2
  clear hcb
  gi_loopw [8] (fun i wr => ∃ (k : Nat) (pre : List (At n)), k ≤ n ∧ i = .int .i64 k ∧ RowKit.Hid (plc pre = unl a b k) ∧ J pre wr ∧ Ext w0 wr ∧ Boxed wr Ba 22 (.slice sa n ca)) (fun i _ => n - (RowKit.intOf i).toNat)
  case atStart => exact ⟨0, [], by omega, rfl, Lib.hid rfl, h0, hE, ha⟩
  case round =>
    obtain ⟨k, pre, hk, rfl, hp, hJs, hEs, haS⟩ := hrel
    by_cases hlt : k < n
    · obtain ⟨x, hx, hux, b1, o1, rfl, hc1⟩ := (hA'.out.ext hEs).get hlt
      obtain ⟨y, hy, huy, b2, o2, rfl, hc2⟩ := (hB'.out.ext hEs).get hlt
      have HX : RowKit.Hid (a[k]?.getD 0 = x) := Lib.hid (by rw [hx]; rfl)
      have HY : RowKit.Hid (b[k]?.getD 0 = y) := Lib.hid (by rw [hy]; rfl)
      have hca := haS.cell
      clear hx hy
      by_cases hxy : x = y
      · subst hxy
        have hb1 : (x != x) = false := by simp
        gi_wp2
        go_roundw
        case rel => exact ⟨k + 1, pre, by omega, by go_num, Lib.hid (by rw [unl_no (by rw [HX.out, HY.out]), hp.out]), hJs, hEs, haS⟩
        case measure => simp [RowKit.intOf]; omega
      · have hb1 : (x != y) = true := by simpa using hxy
        have hlen : pre.length < n := by
          have h1 : (plc pre).length = (unl a b k).length := by rw [hp.out]
          have h2 := unl_len a b k
          simp at h1; omega
        have hne : a[k]?.getD 0 ≠ b[k]?.getD 0 := by rw [HX.out, HY.out]; exact hxy
        obtain ⟨fn, tmps, assign, body, hy, hR⟩ := hY pre ⟨k, hlt⟩ wr hJs hlen
        have hin : RowKit.Hid (unl a b (k + 1) = unl a b k ++ [k]) := Lib.hid (unl_yes hne)
        have hnn : RowKit.Hid (unl a b n ≠ []) := Lib.hid (fun e => by have := (mem_unl (a := a) (b := b)).2 ⟨hlt, hne⟩; rw [e] at this; cases this)
        clear hne
        dsimp only [encs] at hy
        rw [HY.out] at hy
        gi_wp2
        refine hR.mono ?_
        rintro e W3 (⟨rfl, hJ3, hk3⟩ | ⟨rfl, hJx3⟩)
        · gi_wp2
          go_roundw
          case rel => exact ⟨k + 1, pre ++ [⟨k, hlt⟩], by omega, by go_num, Lib.hid (by rw [hin.out, ← hp.out]; simp), hJ3, Below.trans hEs hk3.1, hk3.2 haS⟩
          case measure => simp [RowKit.intOf]; omega
        · gi_wp2
          refine bodyPost_ret (results_none rfl _ _ _) rfl ?_
          exact ⟨⟨_, rfl⟩, .inr ⟨_, hnn.out, hJx3⟩⟩
    · obtain rfl : k = n := by omega
      gi_wp2
      go_end0
      exact ⟨⟨_, rfl⟩, .inl ⟨pre, hp.out, hJs⟩⟩

theorem unlike_stops (m : Nat) (sa sb : Option Addr) (n ca cb Ba Bb : Nat) (a b : List Int) (w0 w : World) (hA : WS w0 sa n ca a) (hB : WS w0 sb n cb b) (hE : Ext w0 w) (ha : Boxed w Ba 22 (.slice sa n ca)) (hb : Boxed w Bb 22 (.slice sb n cb)) :
    SeqStopsK Fence.wide m Try.prog 27 #[.pointer (some ⟨Bb, 0, none⟩), .pointer (some ⟨Ba, 0, none⟩)] (encs b n) (Keeps w0.heap.size Ba (.slice sa n ca)) (fun xs => plc xs = unl a b n) (fun _ => unl a b n ≠ []) n w := fun l J Jx W hW hJ _ hY h0 =>
  unlike1_in m sa sb n ca cb Ba Bb l a b w0 J Jx W hA hB (Ext.trans hE hW) hJ ((hW.block _ ha.lt).trans ha) ((hW.block _ hb.lt).trans hb) hY h0

end Go.Proofs.Ytdofplmoiljkjaa
