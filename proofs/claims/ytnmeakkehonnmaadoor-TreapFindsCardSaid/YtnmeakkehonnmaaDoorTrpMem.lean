/-
  Slices of words, of ints and of pairs of ints, as lists of integers, in a world, what stays of them, cuts of them and appends onto rows of one's own. No condition: definitions, and facts on them.
-/
import Derived.Test.YtnmeakkehonnmaaDoorRows
import Derived.Test.YtnmeakkehonnmaaDoorMixRef
import Derived.Test.YtnmeakkehonnmaaDoorTrpSpec
import Derived.WalkKit
import Derived.ProofKit
import Derived.Lib.Hide
import Derived.Below
import Derived.IntWalk
import Derived.Deep.QuietTactic
import Derived.BigQuiet
import Derived.Deep.AppendLies
import Derived.Maps.AppendAt
import Derived.Deep.Draws
import Derived.OwnWalk
import Derived.RangeFuncRecord
import Derived.Laws.CopyOwn
import Derived.Laws.MakeOwn
import Derived.Laws.OwnMore
import Derived.Lib.AppendZeros
import Derived.Deep.RegionHeld3
namespace Go.Proofs.YtnmeakkehonnmaaDoor.Trp
open Go.RowKit (Below intOf)

/-- Nothing that lay has turned; new blocks may lie. -/
def Ext (w w' : World) : Prop := Below w.heap.size w w'

theorem Ext.refl (w : World) : Ext w w := Below.refl _ w
theorem Ext.trans {a b c : World} (h : Ext a b) (k : Ext b c) : Ext a c := Below.trans h (Below.mono k h.size)
theorem Ext.alloc {a w : World} (h : Ext a w) (o : Obj) : Ext a (w.alloc o) := Below.alloc h h.size o
theorem Ext.drewN {a w : World} (h : Ext a w) (n : Nat) : Ext a (w.drewN n) := ⟨h.os, h.tape, h.output, h.size, h.block⟩
theorem Ext.drew {a w : World} (h : Ext a w) : Ext a w.drew := ⟨h.os, h.tape, h.output, h.size, h.block⟩
theorem Ext.setCell {a w : World} (h : Ext a w) {b o : Nat} (hb : a.heap.size ≤ b) (v : Value) : Ext a (w.setCell ⟨b, o, none⟩ v) := Below.setCell (p := ⟨b, o, none⟩) h hb v
theorem Ext.grown {a w w' : World} (h : Ext a w) {row : Option Nat} (g : w.grownBy w' row) (hr : ∀ k, row = some k → a.heap.size ≤ k) : Ext a w' := Below.grown h g h.size hr
theorem Ext.size {a w : World} (h : Ext a w) : a.heap.size ≤ w.heap.size := Below.size h
theorem Ext.cell {w w' : World} {b o : Nat} {v : Value} (h : Ext w w') (hc : w.cell? ⟨b, o, none⟩ = some v) : w'.cell? ⟨b, o, none⟩ = some v :=
  (Below.cell (p := ⟨b, o, none⟩) h (World.block_lt_of_cell? w _ hc)).trans hc
theorem Ext.frozen {w w' : World} {b o : Nat} {v : Value} (h : Ext w w') (hc : w.cell? ⟨b, o, none⟩ = some v) : w'.frozen? ⟨b, o, none⟩ = w.frozen? ⟨b, o, none⟩ :=
  Below.frozen (p := ⟨b, o, none⟩) h (World.block_lt_of_cell? w _ hc)
theorem Ext.new (w : World) (o : Obj) : Ext w (w.alloc o) := (Ext.refl w).alloc o
theorem Ext.draws (w : World) (n : Nat) : Ext w (w.drewN n) := (Ext.refl w).drewN n
theorem gr_ext {w w' : World} (h : Gr w w') : Ext w w' := by
  obtain ⟨q, os, rfl⟩ := h
  refine ⟨rfl, rfl, rfl, by rw [Sort.size_grow]; exact Nat.le_add_right _ _, fun k hk => ?_⟩
  exact Sort.heap_grow_old (w.drewN q) os hk
theorem tab_ext {w w' : World} (h : Tab w) (e : Ext w w') : Tab w' :=
  ⟨e.cell h.c0, e.cell h.c1, e.cell h.c2, e.cell h.c3, e.cell h.c4, e.cell h.c5, e.cell h.c6, e.cell h.c7, e.cell h.c8⟩

theorem add_is (b o j : Nat) : (⟨b, o, none⟩ : Addr).add j = ⟨b, o + j, none⟩ := by unfold Addr.add; split <;> simp_all
theorem own_form {W : World} {base : Nat} {e : TypeId} {size n : Nat} {v : Value} {xs : List Value} (h : W.ownsRow base e size v n xs) : ∃ sl c, v = .slice sl n c := by
  rcases h.2 with ⟨rfl, rfl⟩ | ⟨g, cap, cur, rfl, _⟩
  · exact ⟨_, _, rfl⟩
  · exact ⟨_, _, rfl⟩
theorem own_ge {W : World} {base : Nat} {e : TypeId} {size n : Nat} {v : Value} {xs : List Value} (h : W.ownsRow base e size v n xs) : ∀ k, v.ownBlock = some k → base ≤ k := fun k hk => by
  rcases h.2 with ⟨rfl, _⟩ | ⟨g, cap, cur, rfl, hb, _⟩
  · cases hk
  · simp [Value.ownBlock] at hk; omega
theorem step_append_run {P : Program} (w : World) {ops : Array Oper} {o : Oper} {a : Act} {K : Act → World → Prop} {Q : Exit → Act → World → Prop} {E : Prop} (hgd : o.guard = none) (s x : Operand) (t tn : TypeId)
    (ho : o.op = .call { callee := .builtin .append, args := #[s, x], argTypes := #[t, tn] }) (vs vx : Value) (hs : a.eval s = vs) (hx : a.eval x = vx)
    (v' : Value) (w' : World) (hr : (Builtin.append_ #[t, tn] o.type #[vs, vx]).run P w = .ok v' w') (h : K (a.put o.dst v') w') :
    if Region.wanted o (yielded ops a.tmps) = true then Oper.wp P o a w K Q else E := by
  have hw : Region.wanted o (yielded ops a.tmps) = true := by simp [Region.wanted, hgd]
  rw [if_pos hw]
  exact Lib.wp_append_run w s x t tn ho vs vx hs hx v' w' hr h
theorem drop_cons {α : Type} {l : List α} {k : Nat} {y : α} (h : l[k]? = some y) : l.drop k = y :: l.drop (k + 1) := by
  obtain ⟨hl, e⟩ := List.getElem?_eq_some_iff.1 h
  rw [← e]; exact List.drop_eq_getElem_cons hl
theorem take_snoc {α : Type} {l : List α} {k : Nat} {y : α} (h : l[k]? = some y) : l.take (k + 1) = l.take k ++ [y] := by
  obtain ⟨hl, e⟩ := List.getElem?_eq_some_iff.1 h
  rw [← e]; exact (List.take_append_getElem hl).symm
theorem ret_bool {a b : Bool} (h : a = b) : Ending.returned (.bool a) = .returned (.bool b) := by rw [h]
theorem ne_at {α : Type} {xs ys : List α} {k : Nat} {x y : α} (hx : xs[k]? = some x) (hy : ys[k]? = some y) (h : x ≠ y) : xs ≠ ys := fun e => by
  subst e; rw [hx] at hy; cases hy; exact h rfl
theorem eq_all {α : Type} {xs ys : List α} {n : Nat} (h1 : xs.length = n) (h2 : ys.length = n) (h : ∀ j, j < n → xs[j]? = ys[j]?) : xs = ys := by
  apply List.ext_getElem?; intro i
  by_cases hi : i < n
  · exact h i hi
  · rw [List.getElem?_eq_none (by omega), List.getElem?_eq_none (by omega)]
/-- What lies below is read as before. -/
theorem lay {W w1 : World} (h : Ext W w1) : (∀ b o, b < W.heap.size → w1.cell? ⟨b, o, none⟩ = W.cell? ⟨b, o, none⟩) ∧ (∀ b o, b < W.heap.size → w1.frozen? ⟨b, o, none⟩ = W.frozen? ⟨b, o, none⟩) :=
  ⟨fun b o hb => Below.cell (p := ⟨b, o, none⟩) h hb, fun b o hb => Below.frozen (p := ⟨b, o, none⟩) h hb⟩
/-- Where a cut begins. -/
def cutAt (z : Nat) (sl : Option Addr) (c k : Nat) : Option Addr := if c = k then sl else sl.map (·.add (k * z))

/-! WS: slices of words. -/

/-- The slice of n words that is read from sl on. -/
def WS (w : World) (sl : Option Addr) (n c : Nat) (xs : List Int) : Prop :=
  xs.length = n ∧ n ≤ 1048576 ∧ n ≤ c ∧ c ≤ 9223372036854775807 ∧ ∀ (j : Nat) x, xs[j]? = some x → U64 x ∧ ∃ b o, sl = some ⟨b, o, none⟩ ∧ w.cell? ⟨b, o + j, none⟩ = some (.int .u64 x)
/-- The same, of whatever length. -/
def WSL (w : World) (sl : Option Addr) (n c : Nat) (xs : List Int) : Prop :=
  xs.length = n ∧ n ≤ c ∧ c ≤ 9223372036854775807 ∧ ∀ (j : Nat) x, xs[j]? = some x → U64 x ∧ ∃ b o, sl = some ⟨b, o, none⟩ ∧ w.cell? ⟨b, o + j, none⟩ = some (.int .u64 x)
section
variable {w w' : World} {sl : Option Addr} {n c : Nat} {xs : List Int}
theorem WS.ext (h : WS w sl n c xs) (e : Ext w w') : WS w' sl n c xs :=
  ⟨h.1, h.2.1, h.2.2.1, h.2.2.2.1, fun j x hx => by obtain ⟨hu, b, o, hs, hc0⟩ := h.2.2.2.2 j x hx; exact ⟨hu, b, o, hs, e.cell hc0⟩⟩
theorem WSL.ext (h : WSL w sl n c xs) (e : Ext w w') : WSL w' sl n c xs :=
  ⟨h.1, h.2.1, h.2.2.1, fun j x hx => by obtain ⟨hu, b, o, hs, hc0⟩ := h.2.2.2 j x hx; exact ⟨hu, b, o, hs, e.cell hc0⟩⟩
theorem WS.len (h : WS w sl n c xs) : xs.length = n := h.1
theorem WS.le (h : WS w sl n c xs) : n ≤ 1048576 := h.2.1
theorem WS.lc (h : WS w sl n c xs) : n ≤ c := h.2.2.1
theorem WS.cle (h : WS w sl n c xs) : c ≤ 9223372036854775807 := h.2.2.2.1
theorem WS.get (h : WS w sl n c xs) {k : Nat} (hk : k < n) : ∃ x, xs[k]? = some x ∧ U64 x ∧ ∃ b o, sl = some ⟨b, o, none⟩ ∧ w.cell? ⟨b, o + k, none⟩ = some (.int .u64 x) := by
  have hl : k < xs.length := by rw [h.1]; exact hk
  exact ⟨xs[k], List.getElem?_eq_getElem hl, h.2.2.2.2 k _ (List.getElem?_eq_getElem hl)⟩
theorem WSL.get (h : WSL w sl n c xs) {k : Nat} (hk : k < n) : ∃ x, xs[k]? = some x ∧ U64 x ∧ ∃ b o, sl = some ⟨b, o, none⟩ ∧ w.cell? ⟨b, o + k, none⟩ = some (.int .u64 x) := by
  have hl : k < xs.length := by rw [h.1]; exact hk
  exact ⟨xs[k], List.getElem?_eq_getElem hl, h.2.2.2 k _ (List.getElem?_eq_getElem hl)⟩
theorem WS.range (h : WS w sl n c xs) : ∀ x ∈ xs, U64 x := fun x hx => by
  obtain ⟨j, hj⟩ := List.mem_iff_getElem?.1 hx; exact (h.2.2.2.2 j x hj).1
theorem WS.empty (w : World) (sl : Option Addr) (c : Nat) (hc : c ≤ 9223372036854775807) : WS w sl 0 c [] := ⟨rfl, by omega, by omega, hc, fun j x h => by simp at h⟩
theorem WS.addr (h : WS w sl n c xs) (hn : 0 < n) : ∃ b o, sl = some ⟨b, o, none⟩ := by
  obtain ⟨x, _, _, b, o, e, _⟩ := h.get hn; exact ⟨b, o, e⟩
theorem WS.take (h : WS w sl n c xs) {k : Nat} (hk : k ≤ n) : WS w sl k c (xs.take k) := by
  refine ⟨by rw [List.length_take, h.len]; omega, by have := h.le; omega, by have := h.lc; omega, h.cle, fun j y hy => ?_⟩
  rw [List.getElem?_take] at hy
  split at hy
  · exact h.2.2.2.2 j y hy
  · cases hy
theorem WSL.take (h : WSL w sl n c xs) {k : Nat} (hk : k ≤ n) (hb : k ≤ 1048576) : WS w sl k c (xs.take k) := by
  refine ⟨by rw [List.length_take, h.1]; omega, hb, by have := h.2.1; omega, h.2.2.1, fun j y hy => ?_⟩
  rw [List.getElem?_take] at hy
  split at hy
  · exact h.2.2.2 j y hy
  · cases hy
theorem WS.drop (h : WS w sl n c xs) {k : Nat} (hk : k ≤ n) : WS w (cutAt 1 sl c k) (n - k) (c - k) (xs.drop k) := by
  refine ⟨by rw [List.length_drop, h.len], by have := h.le; omega, by have := h.lc; omega, by have := h.cle; omega, fun j y hy => ?_⟩
  rw [List.getElem?_drop] at hy
  obtain ⟨h1, b, o, rfl, hc0⟩ := h.2.2.2.2 (k + j) y hy
  have hl : k + j < n := by rw [← h.len]; exact (List.getElem?_eq_some_iff.1 hy).1
  refine ⟨h1, b, o + k * 1, ?_, ?_⟩
  · unfold cutAt
    rw [if_neg (by have := h.lc; omega), Option.map_some, add_is]
  · rw [show o + k * 1 + j = o + (k + j) by omega]; exact hc0
end

/-- Their cells, one after the other. -/
def flatWS : List Int → List Value
  | [] => []
  | x :: r => .int .u64 x :: flatWS r
theorem flatWS_len : ∀ L : List Int, (flatWS L).length = L.length * 1
  | [] => rfl
  | _ :: r => by simp [flatWS, flatWS_len r]; try omega
theorem flatWS_append : ∀ L M : List Int, flatWS (L ++ M) = flatWS L ++ flatWS M
  | [], _ => rfl
  | y :: r, M => by simp [flatWS, flatWS_append r M]
theorem flatWS_0 : ∀ (L : List Int) (k : Nat), (flatWS L)[k]? = L[k]?.map fun x => .int .u64 x
  | [], k => by simp [flatWS]
  | x :: r, 0 => by simp [flatWS]
  | x :: r, k + 1 => by simp [flatWS, flatWS_0 r k]
theorem flatWS_one (L : List Int) : ∀ u ∈ flatWS L, u.oneCell' = true := by
  induction L with
  | nil => intro u hu; cases hu
  | cons x r ih =>
    intro u hu
    simp only [flatWS, List.mem_cons] at hu
    rcases hu with rfl | hu
    · rfl
    · exact ih u hu
/-- What lies in a row of one's own is read. -/
theorem WS.of_own {w : World} {base n c : Nat} {v : Option Addr} {ys : List Int} (h : w.ownsRow base 25 1 (.slice v n c) n (flatWS ys)) (hn : ys.length = n) (hle : n ≤ 1048576) (hr : ∀ y ∈ ys, U64 y) : WS w v n c ys := by
  rcases h.2 with ⟨e, hz⟩ | ⟨g, cap, cur, e, _, hb, hnc, hcm, _, ht⟩
  · cases e
    have : ys = [] := List.eq_nil_of_length_eq_zero hn
    subst this
    exact WS.empty _ _ _ (by omega)
  · cases e
    refine ⟨hn, hle, hnc, by have := hcm; simp [maxLen] at this; omega, fun j y hj => ?_⟩
    have hjl : j < ys.length := (List.getElem?_eq_some_iff.1 hj).1
    have get : ∀ i, i < n * 1 → cur[i]? = (flatWS ys)[i]? := fun i hi => by
      rw [← ht, List.getElem?_take, if_pos hi]; simp
    refine ⟨hr y (List.mem_of_getElem? hj), g, 0, rfl, ?_⟩
    · simp only [World.cell?, hb]
      have := get j (by omega)
      rw [flatWS_0, hj] at this
      simpa using this
/-- The cells of a slice, as append asks for them. -/
theorem WS.news {w : World} {b o n c : Nat} {ys : List Int} (h : WS w (some ⟨b, o, none⟩) n c ys) : ∀ (j : Nat) u, (flatWS ys)[j]? = some u → w.cell? ((⟨b, o, none⟩ : Addr).add j) = some u := fun j u hu => by
  rw [add_is]
  rw [flatWS_0] at hu
  obtain ⟨y, hy, rfl⟩ := Option.map_eq_some_iff.1 hu
  obtain ⟨_, b', o', e, hc⟩ := h.2.2.2.2 j y hy
  cases e; exact hc
theorem infoWS : (Tryd.prog.info? 25).map (fun i => (i.zero, i.size, i.bytes)) = some (some (.int .u64 0), 1, 8) := by kernel_rfl
/-- append onto a row of one's own. -/
theorem appendWS {w : World} {base n m c : Nat} {v : Value} {ys zs : List Int} {sl : Option Addr} (hown : w.ownsRow base 25 1 v n (flatWS ys)) (hS : WS w sl m c zs) (hle : n + m ≤ 4194304) (hbase : base ≤ w.heap.size) (ty : TypeId) :
    ∃ v' w', (Builtin.append_ #[22, 22] ty #[v, .slice sl m c]).run Tryd.prog w = .ok v' w' ∧ w'.ownsRow base 25 1 v' (n + m) (flatWS (ys ++ zs)) ∧ w.grownBy w' v.ownBlock := by
  obtain ⟨i0, hi, hz0, hz1, hz2⟩ := info_parts infoWS
  cases sl with
  | none =>
    have hm : m = 0 := by
      rcases Nat.eq_zero_or_pos m with h | h
      · exact h
      · obtain ⟨b, o, e⟩ := hS.addr h; cases e
    subst hm
    have hz : zs = [] := List.eq_nil_of_length_eq_zero hS.len
    subst hz
    refine ⟨v, w, ?_, by simpa using hown, ⟨rfl, rfl, rfl, Nat.le_refl _, fun _ _ _ => rfl⟩⟩
    rcases hown.2 with ⟨rfl, rfl⟩ | ⟨g, cap, cur, rfl, _, _, hnc, _⟩
    · simp [Builtin.append_, run_underlying Tryd.underlying22, sizeOf, typeInfo, hi, Builtin.lenOf, Builtin.firstCells]
    · simp [Builtin.append_, run_underlying Tryd.underlying22, sizeOf, typeInfo, hi, Builtin.lenOf, Builtin.firstCells, hnc, storeCells]
  | some ad =>
    have hcells : ∀ (j : Nat) u, (flatWS zs)[j]? = some u → w.cell? (ad.add j) = some u := by
      rcases Nat.eq_zero_or_pos m with h | h
      · have hz : zs = [] := List.eq_nil_of_length_eq_zero (by rw [hS.len, h])
        subst hz; intro j u hu; simp [flatWS] at hu
      · obtain ⟨b, o, e⟩ := hS.addr h
        cases e; exact hS.news
    obtain ⟨v', w', hrun, h2, h3, _, _⟩ := run_append_own_at (P := Tryd.prog) w base 22 ty 25 i0 _ 1 8 Tryd.underlying22 hi hz0 hz1 hz2 rfl (by decide) v n (flatWS ys) hown ad m c (flatWS zs) (by rw [flatWS_len, hS.len]) hcells (flatWS_one zs) (by unfold maxLen; omega) (by omega) hbase
    exact ⟨v', w', hrun, by rw [flatWS_append]; exact h2, h3⟩
theorem appWS {w : World} {base n : Nat} {v : Value} {ys : List Int} (hown : w.ownsRow base 25 1 v n (flatWS ys)) {sl : Option Addr} {m c : Nat} {zs : List Int} (hS : WS w sl m c zs) (L : Nat) (hL : n + m = L) (hle : L ≤ 4194304) (hbase : base ≤ w.heap.size) :
    ∃ sl' c' w', RowKit.Hid ((Builtin.append_ #[22, 22] 22 #[v, .slice sl m c]).run Tryd.prog w = .ok (.slice sl' L c') w') ∧ w'.ownsRow base 25 1 (.slice sl' L c') L (flatWS (ys ++ zs)) ∧ w.grownBy w' v.ownBlock := by
  subst hL
  obtain ⟨v', w', hr, ho2, hg⟩ := appendWS hown hS hle hbase 22
  obtain ⟨sl', c', rfl⟩ := own_form ho2
  exact ⟨sl', c', w', Lib.hid hr, ho2, hg⟩
theorem step_appendWS (w : World) {ops : Array Oper} {o : Oper} {a : Act} {K : Act → World → Prop} {Q : Exit → Act → World → Prop} {E : Prop} (hgd : o.guard = none) (s x : Operand)
    (ho : o.op = .call { callee := .builtin .append, args := #[s, x], argTypes := #[22, 22] }) (base n : Nat) (v : Value) (ys : List Int) (hs : a.eval s = v) (hown : w.ownsRow base 25 1 v n (flatWS ys))
    (sl : Option Addr) (m c : Nat) (zs : List Int) (hx : a.eval x = .slice sl m c) (hS : WS w sl m c zs) (L : Nat) (hL : n + m = L) (hle : L ≤ 4194304) (hbase : base ≤ w.heap.size)
    (h : ∀ sl' c' w', w'.ownsRow base 25 1 (.slice sl' L c') L (flatWS (ys ++ zs)) → w.grownBy w' v.ownBlock → K (a.put o.dst (.slice sl' L c')) w') :
    if Region.wanted o (yielded ops a.tmps) = true then Oper.wp Tryd.prog o a w K Q else E := by
  subst hL
  obtain ⟨v', w', hr, ho2, hg⟩ := appendWS hown hS hle hbase o.type
  obtain ⟨sl', c', rfl⟩ := own_form ho2
  exact step_append_run w hgd s x 22 22 ho _ _ hs hx _ _ hr (h sl' c' w' ho2 hg)
theorem elemWS : Tryd.prog.underlying 22 = some (.slice (Tryd.prog.elem 22)) := by kernel_rfl
theorem elemWS_is : Tryd.prog.elem 22 = 25 := by kernel_rfl
theorem slice_hiWS (sl : Option Addr) (m c i : Nat) (h : i ≤ c) (w : World) : (Instr.sliceAt 22 (.slice sl m c) none (some (.int .i64 (i : Int))) none).run Tryd.prog w = .ok (.slice sl i c) w := by
  rw [run_sliceAt_slice _ _ _ _ _ _ elemWS, run_slice_h _ _ _ _ _ elemWS _ _ (by omega) (by omega), elemWS_is, Tryd.sizeOf25]
  have e : ∀ z, sl.map (fun x => x.add (0 * z)) = sl := by
    intro z
    cases sl with
    | none => rfl
    | some a => obtain ⟨b, o, sp⟩ := a; simp [Addr.add]
  simp only [Result.andThen, sliced, Int.toNat_natCast, e, ite_self, Nat.sub_zero]
theorem slice_loWS (sl : Option Addr) (m c i : Nat) (h : i ≤ m) (w : World) : (Instr.sliceAt 22 (.slice sl m c) (some (.int .i64 (i : Int))) none none).run Tryd.prog w = .ok (.slice (cutAt 1 sl c i) (m - i) (c - i)) w := by
  rw [run_sliceAt_slice _ _ _ _ _ _ elemWS, run_slice_l _ _ _ _ _ elemWS _ _ (by omega) (by omega), elemWS_is, Tryd.sizeOf25]
  simp only [Result.andThen, sliced, Int.toNat_natCast, cutAt]
/-- A slice that was just built. -/
theorem WS.row (w : World) (xs : List Int) (n : Nat) (hn : xs.length = n) (hle : n ≤ 1048576) (hx : ∀ x ∈ xs, U64 x) (cs : Array Value) (hc : cs = (flatWS xs).toArray) : WS (w.alloc (.cells cs 25)) (some ⟨w.heap.size, 0, none⟩) n n xs := by
  subst hc
  refine ⟨hn, hle, Nat.le_refl _, by omega, fun j y hj => ⟨hx y (List.mem_of_getElem? hj), w.heap.size, 0, rfl, ?_⟩⟩
  · have := flatWS_0 xs j; rw [hj] at this; unfold World.cell?; rw [World.alloc_heap_new]; simpa using this
/-- A slice of one that was just built. -/
theorem WS.lit (w : World) (x : Int) (hx : U64 x) : WS (w.alloc (.cells #[.int .u64 x] 25)) (some ⟨w.heap.size, 0, none⟩) 1 1 [x] := by
  refine ⟨rfl, by omega, by omega, by omega, fun j y hj => ?_⟩
  have hj0 : j = 0 := by have := (List.getElem?_eq_some_iff.1 hj).1; simp at this; omega
  subst hj0
  simp at hj
  subst hj
  refine ⟨hx, w.heap.size, 0, rfl, ?_⟩
  · unfold World.cell?; rw [World.alloc_heap_new]; rfl

/-! NS: slices of ints. -/

/-- The slice of n ints that is read from sl on. -/
def NS (w : World) (sl : Option Addr) (n c : Nat) (xs : List Int) : Prop :=
  xs.length = n ∧ n ≤ 1048576 ∧ n ≤ c ∧ c ≤ 9223372036854775807 ∧ ∀ (j : Nat) x, xs[j]? = some x → I64 x ∧ ∃ b o, sl = some ⟨b, o, none⟩ ∧ w.cell? ⟨b, o + j, none⟩ = some (.int .i64 x)
/-- The same, of whatever length. -/
def NSL (w : World) (sl : Option Addr) (n c : Nat) (xs : List Int) : Prop :=
  xs.length = n ∧ n ≤ c ∧ c ≤ 9223372036854775807 ∧ ∀ (j : Nat) x, xs[j]? = some x → I64 x ∧ ∃ b o, sl = some ⟨b, o, none⟩ ∧ w.cell? ⟨b, o + j, none⟩ = some (.int .i64 x)
section
variable {w w' : World} {sl : Option Addr} {n c : Nat} {xs : List Int}
theorem NS.ext (h : NS w sl n c xs) (e : Ext w w') : NS w' sl n c xs :=
  ⟨h.1, h.2.1, h.2.2.1, h.2.2.2.1, fun j x hx => by obtain ⟨hu, b, o, hs, hc0⟩ := h.2.2.2.2 j x hx; exact ⟨hu, b, o, hs, e.cell hc0⟩⟩
theorem NSL.ext (h : NSL w sl n c xs) (e : Ext w w') : NSL w' sl n c xs :=
  ⟨h.1, h.2.1, h.2.2.1, fun j x hx => by obtain ⟨hu, b, o, hs, hc0⟩ := h.2.2.2 j x hx; exact ⟨hu, b, o, hs, e.cell hc0⟩⟩
theorem NS.len (h : NS w sl n c xs) : xs.length = n := h.1
theorem NS.le (h : NS w sl n c xs) : n ≤ 1048576 := h.2.1
theorem NS.lc (h : NS w sl n c xs) : n ≤ c := h.2.2.1
theorem NS.cle (h : NS w sl n c xs) : c ≤ 9223372036854775807 := h.2.2.2.1
theorem NS.get (h : NS w sl n c xs) {k : Nat} (hk : k < n) : ∃ x, xs[k]? = some x ∧ I64 x ∧ ∃ b o, sl = some ⟨b, o, none⟩ ∧ w.cell? ⟨b, o + k, none⟩ = some (.int .i64 x) := by
  have hl : k < xs.length := by rw [h.1]; exact hk
  exact ⟨xs[k], List.getElem?_eq_getElem hl, h.2.2.2.2 k _ (List.getElem?_eq_getElem hl)⟩
theorem NSL.get (h : NSL w sl n c xs) {k : Nat} (hk : k < n) : ∃ x, xs[k]? = some x ∧ I64 x ∧ ∃ b o, sl = some ⟨b, o, none⟩ ∧ w.cell? ⟨b, o + k, none⟩ = some (.int .i64 x) := by
  have hl : k < xs.length := by rw [h.1]; exact hk
  exact ⟨xs[k], List.getElem?_eq_getElem hl, h.2.2.2 k _ (List.getElem?_eq_getElem hl)⟩
theorem NS.range (h : NS w sl n c xs) : ∀ x ∈ xs, I64 x := fun x hx => by
  obtain ⟨j, hj⟩ := List.mem_iff_getElem?.1 hx; exact (h.2.2.2.2 j x hj).1
theorem NS.empty (w : World) (sl : Option Addr) (c : Nat) (hc : c ≤ 9223372036854775807) : NS w sl 0 c [] := ⟨rfl, by omega, by omega, hc, fun j x h => by simp at h⟩
theorem NS.addr (h : NS w sl n c xs) (hn : 0 < n) : ∃ b o, sl = some ⟨b, o, none⟩ := by
  obtain ⟨x, _, _, b, o, e, _⟩ := h.get hn; exact ⟨b, o, e⟩
theorem NS.take (h : NS w sl n c xs) {k : Nat} (hk : k ≤ n) : NS w sl k c (xs.take k) := by
  refine ⟨by rw [List.length_take, h.len]; omega, by have := h.le; omega, by have := h.lc; omega, h.cle, fun j y hy => ?_⟩
  rw [List.getElem?_take] at hy
  split at hy
  · exact h.2.2.2.2 j y hy
  · cases hy
theorem NSL.take (h : NSL w sl n c xs) {k : Nat} (hk : k ≤ n) (hb : k ≤ 1048576) : NS w sl k c (xs.take k) := by
  refine ⟨by rw [List.length_take, h.1]; omega, hb, by have := h.2.1; omega, h.2.2.1, fun j y hy => ?_⟩
  rw [List.getElem?_take] at hy
  split at hy
  · exact h.2.2.2 j y hy
  · cases hy
theorem NS.drop (h : NS w sl n c xs) {k : Nat} (hk : k ≤ n) : NS w (cutAt 1 sl c k) (n - k) (c - k) (xs.drop k) := by
  refine ⟨by rw [List.length_drop, h.len], by have := h.le; omega, by have := h.lc; omega, by have := h.cle; omega, fun j y hy => ?_⟩
  rw [List.getElem?_drop] at hy
  obtain ⟨h1, b, o, rfl, hc0⟩ := h.2.2.2.2 (k + j) y hy
  have hl : k + j < n := by rw [← h.len]; exact (List.getElem?_eq_some_iff.1 hy).1
  refine ⟨h1, b, o + k * 1, ?_, ?_⟩
  · unfold cutAt
    rw [if_neg (by have := h.lc; omega), Option.map_some, add_is]
  · rw [show o + k * 1 + j = o + (k + j) by omega]; exact hc0
end

/-- Their cells, one after the other. -/
def flatNS : List Int → List Value
  | [] => []
  | x :: r => .int .i64 x :: flatNS r
theorem flatNS_len : ∀ L : List Int, (flatNS L).length = L.length * 1
  | [] => rfl
  | _ :: r => by simp [flatNS, flatNS_len r]; try omega
theorem flatNS_append : ∀ L M : List Int, flatNS (L ++ M) = flatNS L ++ flatNS M
  | [], _ => rfl
  | y :: r, M => by simp [flatNS, flatNS_append r M]
theorem flatNS_0 : ∀ (L : List Int) (k : Nat), (flatNS L)[k]? = L[k]?.map fun x => .int .i64 x
  | [], k => by simp [flatNS]
  | x :: r, 0 => by simp [flatNS]
  | x :: r, k + 1 => by simp [flatNS, flatNS_0 r k]
theorem flatNS_one (L : List Int) : ∀ u ∈ flatNS L, u.oneCell' = true := by
  induction L with
  | nil => intro u hu; cases hu
  | cons x r ih =>
    intro u hu
    simp only [flatNS, List.mem_cons] at hu
    rcases hu with rfl | hu
    · rfl
    · exact ih u hu
/-- What lies in a row of one's own is read. -/
theorem NS.of_own {w : World} {base n c : Nat} {v : Option Addr} {ys : List Int} (h : w.ownsRow base 3 1 (.slice v n c) n (flatNS ys)) (hn : ys.length = n) (hle : n ≤ 1048576) (hr : ∀ y ∈ ys, I64 y) : NS w v n c ys := by
  rcases h.2 with ⟨e, hz⟩ | ⟨g, cap, cur, e, _, hb, hnc, hcm, _, ht⟩
  · cases e
    have : ys = [] := List.eq_nil_of_length_eq_zero hn
    subst this
    exact NS.empty _ _ _ (by omega)
  · cases e
    refine ⟨hn, hle, hnc, by have := hcm; simp [maxLen] at this; omega, fun j y hj => ?_⟩
    have hjl : j < ys.length := (List.getElem?_eq_some_iff.1 hj).1
    have get : ∀ i, i < n * 1 → cur[i]? = (flatNS ys)[i]? := fun i hi => by
      rw [← ht, List.getElem?_take, if_pos hi]; simp
    refine ⟨hr y (List.mem_of_getElem? hj), g, 0, rfl, ?_⟩
    · simp only [World.cell?, hb]
      have := get j (by omega)
      rw [flatNS_0, hj] at this
      simpa using this
/-- The cells of a slice, as append asks for them. -/
theorem NS.news {w : World} {b o n c : Nat} {ys : List Int} (h : NS w (some ⟨b, o, none⟩) n c ys) : ∀ (j : Nat) u, (flatNS ys)[j]? = some u → w.cell? ((⟨b, o, none⟩ : Addr).add j) = some u := fun j u hu => by
  rw [add_is]
  rw [flatNS_0] at hu
  obtain ⟨y, hy, rfl⟩ := Option.map_eq_some_iff.1 hu
  obtain ⟨_, b', o', e, hc⟩ := h.2.2.2.2 j y hy
  cases e; exact hc
theorem infoNS : (Tryd.prog.info? 3).map (fun i => (i.zero, i.size, i.bytes)) = some (some (.int .i64 0), 1, 8) := by kernel_rfl
/-- append onto a row of one's own. -/
theorem appendNS {w : World} {base n m c : Nat} {v : Value} {ys zs : List Int} {sl : Option Addr} (hown : w.ownsRow base 3 1 v n (flatNS ys)) (hS : NS w sl m c zs) (hle : n + m ≤ 4194304) (hbase : base ≤ w.heap.size) (ty : TypeId) :
    ∃ v' w', (Builtin.append_ #[23, 23] ty #[v, .slice sl m c]).run Tryd.prog w = .ok v' w' ∧ w'.ownsRow base 3 1 v' (n + m) (flatNS (ys ++ zs)) ∧ w.grownBy w' v.ownBlock := by
  obtain ⟨i0, hi, hz0, hz1, hz2⟩ := info_parts infoNS
  cases sl with
  | none =>
    have hm : m = 0 := by
      rcases Nat.eq_zero_or_pos m with h | h
      · exact h
      · obtain ⟨b, o, e⟩ := hS.addr h; cases e
    subst hm
    have hz : zs = [] := List.eq_nil_of_length_eq_zero hS.len
    subst hz
    refine ⟨v, w, ?_, by simpa using hown, ⟨rfl, rfl, rfl, Nat.le_refl _, fun _ _ _ => rfl⟩⟩
    rcases hown.2 with ⟨rfl, rfl⟩ | ⟨g, cap, cur, rfl, _, _, hnc, _⟩
    · simp [Builtin.append_, run_underlying Tryd.underlying23, sizeOf, typeInfo, hi, Builtin.lenOf, Builtin.firstCells]
    · simp [Builtin.append_, run_underlying Tryd.underlying23, sizeOf, typeInfo, hi, Builtin.lenOf, Builtin.firstCells, hnc, storeCells]
  | some ad =>
    have hcells : ∀ (j : Nat) u, (flatNS zs)[j]? = some u → w.cell? (ad.add j) = some u := by
      rcases Nat.eq_zero_or_pos m with h | h
      · have hz : zs = [] := List.eq_nil_of_length_eq_zero (by rw [hS.len, h])
        subst hz; intro j u hu; simp [flatNS] at hu
      · obtain ⟨b, o, e⟩ := hS.addr h
        cases e; exact hS.news
    obtain ⟨v', w', hrun, h2, h3, _, _⟩ := run_append_own_at (P := Tryd.prog) w base 23 ty 3 i0 _ 1 8 Tryd.underlying23 hi hz0 hz1 hz2 rfl (by decide) v n (flatNS ys) hown ad m c (flatNS zs) (by rw [flatNS_len, hS.len]) hcells (flatNS_one zs) (by unfold maxLen; omega) (by omega) hbase
    exact ⟨v', w', hrun, by rw [flatNS_append]; exact h2, h3⟩
theorem appNS {w : World} {base n : Nat} {v : Value} {ys : List Int} (hown : w.ownsRow base 3 1 v n (flatNS ys)) {sl : Option Addr} {m c : Nat} {zs : List Int} (hS : NS w sl m c zs) (L : Nat) (hL : n + m = L) (hle : L ≤ 4194304) (hbase : base ≤ w.heap.size) :
    ∃ sl' c' w', RowKit.Hid ((Builtin.append_ #[23, 23] 23 #[v, .slice sl m c]).run Tryd.prog w = .ok (.slice sl' L c') w') ∧ w'.ownsRow base 3 1 (.slice sl' L c') L (flatNS (ys ++ zs)) ∧ w.grownBy w' v.ownBlock := by
  subst hL
  obtain ⟨v', w', hr, ho2, hg⟩ := appendNS hown hS hle hbase 23
  obtain ⟨sl', c', rfl⟩ := own_form ho2
  exact ⟨sl', c', w', Lib.hid hr, ho2, hg⟩
theorem step_appendNS (w : World) {ops : Array Oper} {o : Oper} {a : Act} {K : Act → World → Prop} {Q : Exit → Act → World → Prop} {E : Prop} (hgd : o.guard = none) (s x : Operand)
    (ho : o.op = .call { callee := .builtin .append, args := #[s, x], argTypes := #[23, 23] }) (base n : Nat) (v : Value) (ys : List Int) (hs : a.eval s = v) (hown : w.ownsRow base 3 1 v n (flatNS ys))
    (sl : Option Addr) (m c : Nat) (zs : List Int) (hx : a.eval x = .slice sl m c) (hS : NS w sl m c zs) (L : Nat) (hL : n + m = L) (hle : L ≤ 4194304) (hbase : base ≤ w.heap.size)
    (h : ∀ sl' c' w', w'.ownsRow base 3 1 (.slice sl' L c') L (flatNS (ys ++ zs)) → w.grownBy w' v.ownBlock → K (a.put o.dst (.slice sl' L c')) w') :
    if Region.wanted o (yielded ops a.tmps) = true then Oper.wp Tryd.prog o a w K Q else E := by
  subst hL
  obtain ⟨v', w', hr, ho2, hg⟩ := appendNS hown hS hle hbase o.type
  obtain ⟨sl', c', rfl⟩ := own_form ho2
  exact step_append_run w hgd s x 23 23 ho _ _ hs hx _ _ hr (h sl' c' w' ho2 hg)
theorem elemNS : Tryd.prog.underlying 23 = some (.slice (Tryd.prog.elem 23)) := by kernel_rfl
theorem elemNS_is : Tryd.prog.elem 23 = 3 := by kernel_rfl
theorem slice_hiNS (sl : Option Addr) (m c i : Nat) (h : i ≤ c) (w : World) : (Instr.sliceAt 23 (.slice sl m c) none (some (.int .i64 (i : Int))) none).run Tryd.prog w = .ok (.slice sl i c) w := by
  rw [run_sliceAt_slice _ _ _ _ _ _ elemNS, run_slice_h _ _ _ _ _ elemNS _ _ (by omega) (by omega), elemNS_is, Tryd.sizeOf3]
  have e : ∀ z, sl.map (fun x => x.add (0 * z)) = sl := by
    intro z
    cases sl with
    | none => rfl
    | some a => obtain ⟨b, o, sp⟩ := a; simp [Addr.add]
  simp only [Result.andThen, sliced, Int.toNat_natCast, e, ite_self, Nat.sub_zero]
theorem slice_loNS (sl : Option Addr) (m c i : Nat) (h : i ≤ m) (w : World) : (Instr.sliceAt 23 (.slice sl m c) (some (.int .i64 (i : Int))) none none).run Tryd.prog w = .ok (.slice (cutAt 1 sl c i) (m - i) (c - i)) w := by
  rw [run_sliceAt_slice _ _ _ _ _ _ elemNS, run_slice_l _ _ _ _ _ elemNS _ _ (by omega) (by omega), elemNS_is, Tryd.sizeOf3]
  simp only [Result.andThen, sliced, Int.toNat_natCast, cutAt]
/-- A slice that was just built. -/
theorem NS.row (w : World) (xs : List Int) (n : Nat) (hn : xs.length = n) (hle : n ≤ 1048576) (hx : ∀ x ∈ xs, I64 x) (cs : Array Value) (hc : cs = (flatNS xs).toArray) : NS (w.alloc (.cells cs 3)) (some ⟨w.heap.size, 0, none⟩) n n xs := by
  subst hc
  refine ⟨hn, hle, Nat.le_refl _, by omega, fun j y hj => ⟨hx y (List.mem_of_getElem? hj), w.heap.size, 0, rfl, ?_⟩⟩
  · have := flatNS_0 xs j; rw [hj] at this; unfold World.cell?; rw [World.alloc_heap_new]; simpa using this
/-- A slice of one that was just built. -/
theorem NS.lit (w : World) (x : Int) (hx : I64 x) : NS (w.alloc (.cells #[.int .i64 x] 3)) (some ⟨w.heap.size, 0, none⟩) 1 1 [x] := by
  refine ⟨rfl, by omega, by omega, by omega, fun j y hj => ?_⟩
  have hj0 : j = 0 := by have := (List.getElem?_eq_some_iff.1 hj).1; simp at this; omega
  subst hj0
  simp at hj
  subst hj
  refine ⟨hx, w.heap.size, 0, rfl, ?_⟩
  · unfold World.cell?; rw [World.alloc_heap_new]; rfl

/-! LS: slices of pairs. -/

/-- The slice of n pairs that is read from sl on. -/
def LS (w : World) (sl : Option Addr) (n c : Nat) (xs : List Pr) : Prop :=
  xs.length = n ∧ n ≤ 1048576 ∧ n ≤ c ∧ c ≤ 9223372036854775807 ∧ ∀ (j : Nat) x, xs[j]? = some x → Ip x ∧ ∃ b o, sl = some ⟨b, o, none⟩ ∧ w.cell? ⟨b, o + j * 2, none⟩ = some (.int .i64 x.1) ∧ w.cell? ⟨b, o + j * 2 + 1, none⟩ = some (.int .i64 x.2)
/-- The same, of whatever length. -/
def LSL (w : World) (sl : Option Addr) (n c : Nat) (xs : List Pr) : Prop :=
  xs.length = n ∧ n ≤ c ∧ c ≤ 9223372036854775807 ∧ ∀ (j : Nat) x, xs[j]? = some x → Ip x ∧ ∃ b o, sl = some ⟨b, o, none⟩ ∧ w.cell? ⟨b, o + j * 2, none⟩ = some (.int .i64 x.1) ∧ w.cell? ⟨b, o + j * 2 + 1, none⟩ = some (.int .i64 x.2)
section
variable {w w' : World} {sl : Option Addr} {n c : Nat} {xs : List Pr}
theorem LS.ext (h : LS w sl n c xs) (e : Ext w w') : LS w' sl n c xs :=
  ⟨h.1, h.2.1, h.2.2.1, h.2.2.2.1, fun j x hx => by obtain ⟨hu, b, o, hs, hc0, hc1⟩ := h.2.2.2.2 j x hx; exact ⟨hu, b, o, hs, e.cell hc0, e.cell hc1⟩⟩
theorem LSL.ext (h : LSL w sl n c xs) (e : Ext w w') : LSL w' sl n c xs :=
  ⟨h.1, h.2.1, h.2.2.1, fun j x hx => by obtain ⟨hu, b, o, hs, hc0, hc1⟩ := h.2.2.2 j x hx; exact ⟨hu, b, o, hs, e.cell hc0, e.cell hc1⟩⟩
theorem LS.len (h : LS w sl n c xs) : xs.length = n := h.1
theorem LS.le (h : LS w sl n c xs) : n ≤ 1048576 := h.2.1
theorem LS.lc (h : LS w sl n c xs) : n ≤ c := h.2.2.1
theorem LS.cle (h : LS w sl n c xs) : c ≤ 9223372036854775807 := h.2.2.2.1
theorem LS.get (h : LS w sl n c xs) {k : Nat} (hk : k < n) : ∃ x, xs[k]? = some x ∧ Ip x ∧ ∃ b o, sl = some ⟨b, o, none⟩ ∧ w.cell? ⟨b, o + k * 2, none⟩ = some (.int .i64 x.1) ∧ w.cell? ⟨b, o + k * 2 + 1, none⟩ = some (.int .i64 x.2) := by
  have hl : k < xs.length := by rw [h.1]; exact hk
  exact ⟨xs[k], List.getElem?_eq_getElem hl, h.2.2.2.2 k _ (List.getElem?_eq_getElem hl)⟩
theorem LSL.get (h : LSL w sl n c xs) {k : Nat} (hk : k < n) : ∃ x, xs[k]? = some x ∧ Ip x ∧ ∃ b o, sl = some ⟨b, o, none⟩ ∧ w.cell? ⟨b, o + k * 2, none⟩ = some (.int .i64 x.1) ∧ w.cell? ⟨b, o + k * 2 + 1, none⟩ = some (.int .i64 x.2) := by
  have hl : k < xs.length := by rw [h.1]; exact hk
  exact ⟨xs[k], List.getElem?_eq_getElem hl, h.2.2.2 k _ (List.getElem?_eq_getElem hl)⟩
theorem LS.range (h : LS w sl n c xs) : ∀ x ∈ xs, Ip x := fun x hx => by
  obtain ⟨j, hj⟩ := List.mem_iff_getElem?.1 hx; exact (h.2.2.2.2 j x hj).1
theorem LS.empty (w : World) (sl : Option Addr) (c : Nat) (hc : c ≤ 9223372036854775807) : LS w sl 0 c [] := ⟨rfl, by omega, by omega, hc, fun j x h => by simp at h⟩
theorem LS.addr (h : LS w sl n c xs) (hn : 0 < n) : ∃ b o, sl = some ⟨b, o, none⟩ := by
  obtain ⟨x, _, _, b, o, e, _⟩ := h.get hn; exact ⟨b, o, e⟩
theorem LS.take (h : LS w sl n c xs) {k : Nat} (hk : k ≤ n) : LS w sl k c (xs.take k) := by
  refine ⟨by rw [List.length_take, h.len]; omega, by have := h.le; omega, by have := h.lc; omega, h.cle, fun j y hy => ?_⟩
  rw [List.getElem?_take] at hy
  split at hy
  · exact h.2.2.2.2 j y hy
  · cases hy
theorem LSL.take (h : LSL w sl n c xs) {k : Nat} (hk : k ≤ n) (hb : k ≤ 1048576) : LS w sl k c (xs.take k) := by
  refine ⟨by rw [List.length_take, h.1]; omega, hb, by have := h.2.1; omega, h.2.2.1, fun j y hy => ?_⟩
  rw [List.getElem?_take] at hy
  split at hy
  · exact h.2.2.2 j y hy
  · cases hy
theorem LS.drop (h : LS w sl n c xs) {k : Nat} (hk : k ≤ n) : LS w (cutAt 2 sl c k) (n - k) (c - k) (xs.drop k) := by
  refine ⟨by rw [List.length_drop, h.len], by have := h.le; omega, by have := h.lc; omega, by have := h.cle; omega, fun j y hy => ?_⟩
  rw [List.getElem?_drop] at hy
  obtain ⟨h1, b, o, rfl, hc0, hc1⟩ := h.2.2.2.2 (k + j) y hy
  have hl : k + j < n := by rw [← h.len]; exact (List.getElem?_eq_some_iff.1 hy).1
  refine ⟨h1, b, o + k * 2, ?_, ?_, ?_⟩
  · unfold cutAt
    rw [if_neg (by have := h.lc; omega), Option.map_some, add_is]
  · rw [show o + k * 2 + j * 2 = o + (k + j) * 2 by omega]; exact hc0
  · rw [show o + k * 2 + j * 2 + 1 = o + (k + j) * 2 + 1 by omega]; exact hc1
end

/-- Their cells, one after the other. -/
def flatLS : List Pr → List Value
  | [] => []
  | x :: r => .int .i64 x.1 :: .int .i64 x.2 :: flatLS r
theorem flatLS_len : ∀ L : List Pr, (flatLS L).length = L.length * 2
  | [] => rfl
  | _ :: r => by simp [flatLS, flatLS_len r]; try omega
theorem flatLS_append : ∀ L M : List Pr, flatLS (L ++ M) = flatLS L ++ flatLS M
  | [], _ => rfl
  | y :: r, M => by simp [flatLS, flatLS_append r M]
theorem flatLS_0 : ∀ (L : List Pr) (k : Nat), (flatLS L)[k * 2]? = L[k]?.map fun x => .int .i64 x.1
  | [], k => by simp [flatLS]
  | x :: r, 0 => by simp [flatLS]
  | x :: r, k + 1 => by
    have e : (k + 1) * 2 = k * 2 + 1 + 1 := by omega
    rw [e]; simp [flatLS, flatLS_0 r k]
theorem flatLS_1 : ∀ (L : List Pr) (k : Nat), (flatLS L)[k * 2 + 1]? = L[k]?.map fun x => .int .i64 x.2
  | [], k => by simp [flatLS]
  | x :: r, 0 => by simp [flatLS]
  | x :: r, k + 1 => by
    have e : (k + 1) * 2 + 1 = k * 2 + 1 + 1 + 1 := by omega
    rw [e]; simp [flatLS, flatLS_1 r k]
theorem flatLS_one (L : List Pr) : ∀ u ∈ flatLS L, u.oneCell' = true := by
  induction L with
  | nil => intro u hu; cases hu
  | cons x r ih =>
    intro u hu
    simp only [flatLS, List.mem_cons] at hu
    rcases hu with rfl | rfl | hu
    · rfl
    · rfl
    · exact ih u hu
/-- What lies in a row of one's own is read. -/
theorem LS.of_own {w : World} {base n c : Nat} {v : Option Addr} {ys : List Pr} (h : w.ownsRow base 42 2 (.slice v n c) n (flatLS ys)) (hn : ys.length = n) (hle : n ≤ 1048576) (hr : ∀ y ∈ ys, Ip y) : LS w v n c ys := by
  rcases h.2 with ⟨e, hz⟩ | ⟨g, cap, cur, e, _, hb, hnc, hcm, _, ht⟩
  · cases e
    have : ys = [] := List.eq_nil_of_length_eq_zero hn
    subst this
    exact LS.empty _ _ _ (by omega)
  · cases e
    refine ⟨hn, hle, hnc, by have := hcm; simp [maxLen] at this; omega, fun j y hj => ?_⟩
    have hjl : j < ys.length := (List.getElem?_eq_some_iff.1 hj).1
    have get : ∀ i, i < n * 2 → cur[i]? = (flatLS ys)[i]? := fun i hi => by
      rw [← ht, List.getElem?_take, if_pos hi]; simp
    refine ⟨hr y (List.mem_of_getElem? hj), g, 0, rfl, ?_, ?_⟩
    · simp only [World.cell?, hb]
      have := get (j * 2) (by omega)
      rw [flatLS_0, hj] at this
      simpa using this
    · simp only [World.cell?, hb]
      have := get (j * 2 + 1) (by omega)
      rw [flatLS_1, hj] at this
      simpa using this
/-- The cells of a slice, as append asks for them. -/
theorem LS.news {w : World} {b o n c : Nat} {ys : List Pr} (h : LS w (some ⟨b, o, none⟩) n c ys) : ∀ (j : Nat) u, (flatLS ys)[j]? = some u → w.cell? ((⟨b, o, none⟩ : Addr).add j) = some u := fun j u hu => by
  rw [add_is]
  obtain ⟨k, hk⟩ : ∃ k, j = k * 2 ∨ j = k * 2 + 1 := ⟨j / 2, by omega⟩
  rcases hk with rfl | rfl
  · rw [flatLS_0] at hu
    obtain ⟨y, hy, rfl⟩ := Option.map_eq_some_iff.1 hu
    obtain ⟨_, b', o', e, hc, _⟩ := h.2.2.2.2 k y hy
    cases e; exact hc
  · rw [flatLS_1] at hu
    obtain ⟨y, hy, rfl⟩ := Option.map_eq_some_iff.1 hu
    obtain ⟨_, b', o', e, _, hc⟩ := h.2.2.2.2 k y hy
    cases e; exact hc
theorem infoLS : (Tryd.prog.info? 42).map (fun i => (i.zero, i.size, i.bytes)) = some (some (.agg #[.int .i64 0, .int .i64 0]), 2, 16) := by kernel_rfl
/-- append onto a row of one's own. -/
theorem appendLS {w : World} {base n m c : Nat} {v : Value} {ys zs : List Pr} {sl : Option Addr} (hown : w.ownsRow base 42 2 v n (flatLS ys)) (hS : LS w sl m c zs) (hle : n + m ≤ 4194304) (hbase : base ≤ w.heap.size) (ty : TypeId) :
    ∃ v' w', (Builtin.append_ #[24, 24] ty #[v, .slice sl m c]).run Tryd.prog w = .ok v' w' ∧ w'.ownsRow base 42 2 v' (n + m) (flatLS (ys ++ zs)) ∧ w.grownBy w' v.ownBlock := by
  obtain ⟨i0, hi, hz0, hz1, hz2⟩ := info_parts infoLS
  cases sl with
  | none =>
    have hm : m = 0 := by
      rcases Nat.eq_zero_or_pos m with h | h
      · exact h
      · obtain ⟨b, o, e⟩ := hS.addr h; cases e
    subst hm
    have hz : zs = [] := List.eq_nil_of_length_eq_zero hS.len
    subst hz
    refine ⟨v, w, ?_, by simpa using hown, ⟨rfl, rfl, rfl, Nat.le_refl _, fun _ _ _ => rfl⟩⟩
    rcases hown.2 with ⟨rfl, rfl⟩ | ⟨g, cap, cur, rfl, _, _, hnc, _⟩
    · simp [Builtin.append_, run_underlying Tryd.underlying24, sizeOf, typeInfo, hi, Builtin.lenOf, Builtin.firstCells]
    · simp [Builtin.append_, run_underlying Tryd.underlying24, sizeOf, typeInfo, hi, Builtin.lenOf, Builtin.firstCells, hnc, storeCells]
  | some ad =>
    have hcells : ∀ (j : Nat) u, (flatLS zs)[j]? = some u → w.cell? (ad.add j) = some u := by
      rcases Nat.eq_zero_or_pos m with h | h
      · have hz : zs = [] := List.eq_nil_of_length_eq_zero (by rw [hS.len, h])
        subst hz; intro j u hu; simp [flatLS] at hu
      · obtain ⟨b, o, e⟩ := hS.addr h
        cases e; exact hS.news
    obtain ⟨v', w', hrun, h2, h3, _, _⟩ := run_append_own_at (P := Tryd.prog) w base 24 ty 42 i0 _ 2 16 Tryd.underlying24 hi hz0 hz1 hz2 rfl (by decide) v n (flatLS ys) hown ad m c (flatLS zs) (by rw [flatLS_len, hS.len]) hcells (flatLS_one zs) (by unfold maxLen; omega) (by omega) hbase
    exact ⟨v', w', hrun, by rw [flatLS_append]; exact h2, h3⟩
theorem appLS {w : World} {base n : Nat} {v : Value} {ys : List Pr} (hown : w.ownsRow base 42 2 v n (flatLS ys)) {sl : Option Addr} {m c : Nat} {zs : List Pr} (hS : LS w sl m c zs) (L : Nat) (hL : n + m = L) (hle : L ≤ 4194304) (hbase : base ≤ w.heap.size) :
    ∃ sl' c' w', RowKit.Hid ((Builtin.append_ #[24, 24] 24 #[v, .slice sl m c]).run Tryd.prog w = .ok (.slice sl' L c') w') ∧ w'.ownsRow base 42 2 (.slice sl' L c') L (flatLS (ys ++ zs)) ∧ w.grownBy w' v.ownBlock := by
  subst hL
  obtain ⟨v', w', hr, ho2, hg⟩ := appendLS hown hS hle hbase 24
  obtain ⟨sl', c', rfl⟩ := own_form ho2
  exact ⟨sl', c', w', Lib.hid hr, ho2, hg⟩
theorem step_appendLS (w : World) {ops : Array Oper} {o : Oper} {a : Act} {K : Act → World → Prop} {Q : Exit → Act → World → Prop} {E : Prop} (hgd : o.guard = none) (s x : Operand)
    (ho : o.op = .call { callee := .builtin .append, args := #[s, x], argTypes := #[24, 24] }) (base n : Nat) (v : Value) (ys : List Pr) (hs : a.eval s = v) (hown : w.ownsRow base 42 2 v n (flatLS ys))
    (sl : Option Addr) (m c : Nat) (zs : List Pr) (hx : a.eval x = .slice sl m c) (hS : LS w sl m c zs) (L : Nat) (hL : n + m = L) (hle : L ≤ 4194304) (hbase : base ≤ w.heap.size)
    (h : ∀ sl' c' w', w'.ownsRow base 42 2 (.slice sl' L c') L (flatLS (ys ++ zs)) → w.grownBy w' v.ownBlock → K (a.put o.dst (.slice sl' L c')) w') :
    if Region.wanted o (yielded ops a.tmps) = true then Oper.wp Tryd.prog o a w K Q else E := by
  subst hL
  obtain ⟨v', w', hr, ho2, hg⟩ := appendLS hown hS hle hbase o.type
  obtain ⟨sl', c', rfl⟩ := own_form ho2
  exact step_append_run w hgd s x 24 24 ho _ _ hs hx _ _ hr (h sl' c' w' ho2 hg)
theorem elemLS : Tryd.prog.underlying 24 = some (.slice (Tryd.prog.elem 24)) := by kernel_rfl
theorem elemLS_is : Tryd.prog.elem 24 = 42 := by kernel_rfl
theorem slice_hiLS (sl : Option Addr) (m c i : Nat) (h : i ≤ c) (w : World) : (Instr.sliceAt 24 (.slice sl m c) none (some (.int .i64 (i : Int))) none).run Tryd.prog w = .ok (.slice sl i c) w := by
  rw [run_sliceAt_slice _ _ _ _ _ _ elemLS, run_slice_h _ _ _ _ _ elemLS _ _ (by omega) (by omega), elemLS_is, Tryd.sizeOf42]
  have e : ∀ z, sl.map (fun x => x.add (0 * z)) = sl := by
    intro z
    cases sl with
    | none => rfl
    | some a => obtain ⟨b, o, sp⟩ := a; simp [Addr.add]
  simp only [Result.andThen, sliced, Int.toNat_natCast, e, ite_self, Nat.sub_zero]
theorem slice_loLS (sl : Option Addr) (m c i : Nat) (h : i ≤ m) (w : World) : (Instr.sliceAt 24 (.slice sl m c) (some (.int .i64 (i : Int))) none none).run Tryd.prog w = .ok (.slice (cutAt 2 sl c i) (m - i) (c - i)) w := by
  rw [run_sliceAt_slice _ _ _ _ _ _ elemLS, run_slice_l _ _ _ _ _ elemLS _ _ (by omega) (by omega), elemLS_is, Tryd.sizeOf42]
  simp only [Result.andThen, sliced, Int.toNat_natCast, cutAt]
/-- A slice that was just built. -/
theorem LS.row (w : World) (xs : List Pr) (n : Nat) (hn : xs.length = n) (hle : n ≤ 1048576) (hx : ∀ x ∈ xs, Ip x) (cs : Array Value) (hc : cs = (flatLS xs).toArray) : LS (w.alloc (.cells cs 42)) (some ⟨w.heap.size, 0, none⟩) n n xs := by
  subst hc
  refine ⟨hn, hle, Nat.le_refl _, by omega, fun j y hj => ⟨hx y (List.mem_of_getElem? hj), w.heap.size, 0, rfl, ?_, ?_⟩⟩
  · have := flatLS_0 xs j; rw [hj] at this; unfold World.cell?; rw [World.alloc_heap_new]; simpa using this
  · have := flatLS_1 xs j; rw [hj] at this; unfold World.cell?; rw [World.alloc_heap_new]; simpa using this
/-- A slice of one that was just built. -/
theorem LS.lit (w : World) (x : Pr) (hx : Ip x) : LS (w.alloc (.cells #[.int .i64 x.1, .int .i64 x.2] 42)) (some ⟨w.heap.size, 0, none⟩) 1 1 [x] := by
  refine ⟨rfl, by omega, by omega, by omega, fun j y hj => ?_⟩
  have hj0 : j = 0 := by have := (List.getElem?_eq_some_iff.1 hj).1; simp at this; omega
  subst hj0
  simp at hj
  subst hj
  refine ⟨hx, w.heap.size, 0, rfl, ?_, ?_⟩
  · unfold World.cell?; rw [World.alloc_heap_new]; rfl
  · unfold World.cell?; rw [World.alloc_heap_new]; rfl

end Go.Proofs.YtnmeakkehonnmaaDoor.Trp
