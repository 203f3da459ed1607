/-
  Parts of a proof, one behind the other: AutMem, AutLeaf, AutState. Each says its own conditions.
-/
import Derived.Test.YtmonkcekkhfafaaGreatDoorM01
import Derived.Test.YtmonkcekkhfafaaGreatDoorM04
import Derived.Test.YtmonkcekkhfafaaGreatDoorM07
import Derived.Test.YtmonkcekkhfafaaGreatDoorRows
import Derived.WalkKit
import Derived.ProofKit
import Derived.Lib.Hide
import Derived.Below
import Derived.IntWalk
import Derived.Deep.QuietTactic
import Derived.BigQuiet
import Derived.Deep.AppendLies
import Derived.Maps.AppendAt
import Derived.Deep.Draws
import Derived.OwnWalk
import Derived.RangeFuncRecord
import Derived.Laws.CopyOwn
import Derived.Laws.MakeOwn
import Derived.Laws.OwnMore
import Derived.Lib.AppendZeros
import Derived.Deep.RegionHeld3
import Derived.DeepKeys

/- AutMem:
  Slices of words, of ints and of answers, as lists of integers, in a world, what stays of them, cuts of them and appends onto rows of one's own. No condition: definitions, and facts on them.
-/
namespace Go.Proofs.YtmonkcekkhfafaaGreatDoor.Aut
open Go.RowKit (Below intOf)

/-- Nothing that lay has turned; new blocks may lie. -/
def Ext (w w' : World) : Prop := Below w.heap.size w w'

theorem Ext.refl (w : World) : Ext w w := Below.refl _ w
theorem Ext.trans {a b c : World} (h : Ext a b) (k : Ext b c) : Ext a c := Below.trans h (Below.mono k h.size)
theorem Ext.alloc {a w : World} (h : Ext a w) (o : Obj) : Ext a (w.alloc o) := Below.alloc h h.size o
theorem Ext.drewN {a w : World} (h : Ext a w) (n : Nat) : Ext a (w.drewN n) := ⟨h.os, h.tape, h.output, h.size, h.block⟩
theorem Ext.drew {a w : World} (h : Ext a w) : Ext a w.drew := ⟨h.os, h.tape, h.output, h.size, h.block⟩
theorem Ext.setCell {a w : World} (h : Ext a w) {b o : Nat} (hb : a.heap.size ≤ b) (v : Value) : Ext a (w.setCell ⟨b, o, none⟩ v) := Below.setCell (p := ⟨b, o, none⟩) h hb v
theorem Ext.grown {a w w' : World} (h : Ext a w) {row : Option Nat} (g : w.grownBy w' row) (hr : ∀ k, row = some k → a.heap.size ≤ k) : Ext a w' := Below.grown h g h.size hr
theorem Ext.size {a w : World} (h : Ext a w) : a.heap.size ≤ w.heap.size := Below.size h
theorem Ext.cell {w w' : World} {b o : Nat} {v : Value} (h : Ext w w') (hc : w.cell? ⟨b, o, none⟩ = some v) : w'.cell? ⟨b, o, none⟩ = some v :=
  (Below.cell (p := ⟨b, o, none⟩) h (World.block_lt_of_cell? w _ hc)).trans hc
theorem Ext.frozen {w w' : World} {b o : Nat} {v : Value} (h : Ext w w') (hc : w.cell? ⟨b, o, none⟩ = some v) : w'.frozen? ⟨b, o, none⟩ = w.frozen? ⟨b, o, none⟩ :=
  Below.frozen (p := ⟨b, o, none⟩) h (World.block_lt_of_cell? w _ hc)
theorem Ext.new (w : World) (o : Obj) : Ext w (w.alloc o) := (Ext.refl w).alloc o
theorem Ext.draws (w : World) (n : Nat) : Ext w (w.drewN n) := (Ext.refl w).drewN n
def Ir (r : Rs) : Prop := I64 r.1 ∧ U64 r.2
theorem add_is (b o j : Nat) : (⟨b, o, none⟩ : Addr).add j = ⟨b, o + j, none⟩ := by unfold Addr.add; split <;> simp_all
theorem own_form {W : World} {base : Nat} {e : TypeId} {size n : Nat} {v : Value} {xs : List Value} (h : W.ownsRow base e size v n xs) : ∃ sl c, v = .slice sl n c := by
  rcases h.2 with ⟨rfl, rfl⟩ | ⟨g, cap, cur, rfl, _⟩
  · exact ⟨_, _, rfl⟩
  · exact ⟨_, _, rfl⟩
theorem own_ge {W : World} {base : Nat} {e : TypeId} {size n : Nat} {v : Value} {xs : List Value} (h : W.ownsRow base e size v n xs) : ∀ k, v.ownBlock = some k → base ≤ k := fun k hk => by
  rcases h.2 with ⟨rfl, _⟩ | ⟨g, cap, cur, rfl, hb, _⟩
  · cases hk
  · simp [Value.ownBlock] at hk; omega
theorem step_append_run {P : Program} (w : World) {ops : Array Oper} {o : Oper} {a : Act} {K : Act → World → Prop} {Q : Exit → Act → World → Prop} {E : Prop} (hgd : o.guard = none) (s x : Operand) (t tn : TypeId)
    (ho : o.op = .call { callee := .builtin .append, args := #[s, x], argTypes := #[t, tn] }) (vs vx : Value) (hs : a.eval s = vs) (hx : a.eval x = vx)
    (v' : Value) (w' : World) (hr : (Builtin.append_ #[t, tn] o.type #[vs, vx]).run P w = .ok v' w') (h : K (a.put o.dst v') w') :
    if Region.wanted o (yielded ops a.tmps) = true then Oper.wp P o a w K Q else E := by
  have hw : Region.wanted o (yielded ops a.tmps) = true := by simp [Region.wanted, hgd]
  rw [if_pos hw]
  exact Lib.wp_append_run w s x t tn ho vs vx hs hx v' w' hr h
theorem take_snoc {α : Type} {l : List α} {k : Nat} {y : α} (h : l[k]? = some y) : l.take (k + 1) = l.take k ++ [y] := by
  obtain ⟨hl, e⟩ := List.getElem?_eq_some_iff.1 h
  rw [← e]; exact (List.take_append_getElem hl).symm
theorem ret_bool {a b : Bool} (h : a = b) : Ending.returned (.bool a) = .returned (.bool b) := by rw [h]
theorem ne_at {α : Type} {xs ys : List α} {k : Nat} {x y : α} (hx : xs[k]? = some x) (hy : ys[k]? = some y) (h : x ≠ y) : xs ≠ ys := fun e => by
  subst e; rw [hx] at hy; cases hy; exact h rfl
theorem eq_all {α : Type} {xs ys : List α} {n : Nat} (h1 : xs.length = n) (h2 : ys.length = n) (h : ∀ j, j < n → xs[j]? = ys[j]?) : xs = ys := by
  apply List.ext_getElem?; intro i
  by_cases hi : i < n
  · exact h i hi
  · rw [List.getElem?_eq_none (by omega), List.getElem?_eq_none (by omega)]
/-- What lies below is read as before. -/
theorem lay {W w1 : World} (h : Ext W w1) : (∀ b o, b < W.heap.size → w1.cell? ⟨b, o, none⟩ = W.cell? ⟨b, o, none⟩) ∧ (∀ b o, b < W.heap.size → w1.frozen? ⟨b, o, none⟩ = W.frozen? ⟨b, o, none⟩) :=
  ⟨fun b o hb => Below.cell (p := ⟨b, o, none⟩) h hb, fun b o hb => Below.frozen (p := ⟨b, o, none⟩) h hb⟩
/-- Where a cut begins. -/
def cutAt (z : Nat) (sl : Option Addr) (c k : Nat) : Option Addr := if c = k then sl else sl.map (·.add (k * z))

/-! WS: slices of words. -/

/-- The slice of n words that is read from sl on. -/
def WS (w : World) (sl : Option Addr) (n c : Nat) (xs : List Int) : Prop :=
  xs.length = n ∧ n ≤ 1048576 ∧ n ≤ c ∧ c ≤ 9223372036854775807 ∧ ∀ (j : Nat) x, xs[j]? = some x → U64 x ∧ ∃ b o, sl = some ⟨b, o, none⟩ ∧ w.cell? ⟨b, o + j, none⟩ = some (.int .u64 x)
/-- The same, of whatever length. -/
def WSL (w : World) (sl : Option Addr) (n c : Nat) (xs : List Int) : Prop :=
  xs.length = n ∧ n ≤ c ∧ c ≤ 9223372036854775807 ∧ ∀ (j : Nat) x, xs[j]? = some x → U64 x ∧ ∃ b o, sl = some ⟨b, o, none⟩ ∧ w.cell? ⟨b, o + j, none⟩ = some (.int .u64 x)
section
variable {w w' : World} {sl : Option Addr} {n c : Nat} {xs : List Int}
theorem WS.ext (h : WS w sl n c xs) (e : Ext w w') : WS w' sl n c xs :=
  ⟨h.1, h.2.1, h.2.2.1, h.2.2.2.1, fun j x hx => by obtain ⟨hu, b, o, hs, hc0⟩ := h.2.2.2.2 j x hx; exact ⟨hu, b, o, hs, e.cell hc0⟩⟩
theorem WSL.ext (h : WSL w sl n c xs) (e : Ext w w') : WSL w' sl n c xs :=
  ⟨h.1, h.2.1, h.2.2.1, fun j x hx => by obtain ⟨hu, b, o, hs, hc0⟩ := h.2.2.2 j x hx; exact ⟨hu, b, o, hs, e.cell hc0⟩⟩
theorem WS.len (h : WS w sl n c xs) : xs.length = n := h.1
theorem WS.le (h : WS w sl n c xs) : n ≤ 1048576 := h.2.1
theorem WS.lc (h : WS w sl n c xs) : n ≤ c := h.2.2.1
theorem WS.cle (h : WS w sl n c xs) : c ≤ 9223372036854775807 := h.2.2.2.1
theorem WS.get (h : WS w sl n c xs) {k : Nat} (hk : k < n) : ∃ x, xs[k]? = some x ∧ U64 x ∧ ∃ b o, sl = some ⟨b, o, none⟩ ∧ w.cell? ⟨b, o + k, none⟩ = some (.int .u64 x) := by
  have hl : k < xs.length := by rw [h.1]; exact hk
  exact ⟨xs[k], List.getElem?_eq_getElem hl, h.2.2.2.2 k _ (List.getElem?_eq_getElem hl)⟩
theorem WSL.get (h : WSL w sl n c xs) {k : Nat} (hk : k < n) : ∃ x, xs[k]? = some x ∧ U64 x ∧ ∃ b o, sl = some ⟨b, o, none⟩ ∧ w.cell? ⟨b, o + k, none⟩ = some (.int .u64 x) := by
  have hl : k < xs.length := by rw [h.1]; exact hk
  exact ⟨xs[k], List.getElem?_eq_getElem hl, h.2.2.2 k _ (List.getElem?_eq_getElem hl)⟩
theorem WS.range (h : WS w sl n c xs) : ∀ x ∈ xs, U64 x := fun x hx => by
  obtain ⟨j, hj⟩ := List.mem_iff_getElem?.1 hx; exact (h.2.2.2.2 j x hj).1
theorem WS.empty (w : World) (sl : Option Addr) (c : Nat) (hc : c ≤ 9223372036854775807) : WS w sl 0 c [] := ⟨rfl, by omega, by omega, hc, fun j x h => by simp at h⟩
theorem WS.addr (h : WS w sl n c xs) (hn : 0 < n) : ∃ b o, sl = some ⟨b, o, none⟩ := by
  obtain ⟨x, _, _, b, o, e, _⟩ := h.get hn; exact ⟨b, o, e⟩
theorem WS.take (h : WS w sl n c xs) {k : Nat} (hk : k ≤ n) : WS w sl k c (xs.take k) := by
  refine ⟨by rw [List.length_take, h.len]; omega, by have := h.le; omega, by have := h.lc; omega, h.cle, fun j y hy => ?_⟩
  rw [List.getElem?_take] at hy
  split at hy
  · exact h.2.2.2.2 j y hy
  · cases hy
theorem WSL.take (h : WSL w sl n c xs) {k : Nat} (hk : k ≤ n) (hb : k ≤ 1048576) : WS w sl k c (xs.take k) := by
  refine ⟨by rw [List.length_take, h.1]; omega, hb, by have := h.2.1; omega, h.2.2.1, fun j y hy => ?_⟩
  rw [List.getElem?_take] at hy
  split at hy
  · exact h.2.2.2 j y hy
  · cases hy
theorem WS.drop (h : WS w sl n c xs) {k : Nat} (hk : k ≤ n) : WS w (cutAt 1 sl c k) (n - k) (c - k) (xs.drop k) := by
  refine ⟨by rw [List.length_drop, h.len], by have := h.le; omega, by have := h.lc; omega, by have := h.cle; omega, fun j y hy => ?_⟩
  rw [List.getElem?_drop] at hy
  obtain ⟨h1, b, o, rfl, hc0⟩ := h.2.2.2.2 (k + j) y hy
  have hl : k + j < n := by rw [← h.len]; exact (List.getElem?_eq_some_iff.1 hy).1
  refine ⟨h1, b, o + k * 1, ?_, ?_⟩
  · unfold cutAt
    rw [if_neg (by have := h.lc; omega), Option.map_some, add_is]
  · rw [show o + k * 1 + j = o + (k + j) by omega]; exact hc0
end

/-- Their cells, one after the other. -/
def flatWS : List Int → List Value
  | [] => []
  | x :: r => .int .u64 x :: flatWS r
theorem flatWS_len : ∀ L : List Int, (flatWS L).length = L.length * 1
  | [] => rfl
  | _ :: r => by simp [flatWS, flatWS_len r]; try omega
theorem flatWS_append : ∀ L M : List Int, flatWS (L ++ M) = flatWS L ++ flatWS M
  | [], _ => rfl
  | y :: r, M => by simp [flatWS, flatWS_append r M]
theorem flatWS_0 : ∀ (L : List Int) (k : Nat), (flatWS L)[k]? = L[k]?.map fun x => .int .u64 x
  | [], k => by simp [flatWS]
  | x :: r, 0 => by simp [flatWS]
  | x :: r, k + 1 => by simp [flatWS, flatWS_0 r k]
theorem flatWS_one (L : List Int) : ∀ u ∈ flatWS L, u.oneCell' = true := by
  induction L with
  | nil => intro u hu; cases hu
  | cons x r ih =>
    intro u hu
    simp only [flatWS, List.mem_cons] at hu
    rcases hu with rfl | hu
    · rfl
    · exact ih u hu
/-- What lies in a row of one's own is read. -/
theorem WS.of_own {w : World} {base n c : Nat} {v : Option Addr} {ys : List Int} (h : w.ownsRow base 26 1 (.slice v n c) n (flatWS ys)) (hn : ys.length = n) (hle : n ≤ 1048576) (hr : ∀ y ∈ ys, U64 y) : WS w v n c ys := by
  rcases h.2 with ⟨e, hz⟩ | ⟨g, cap, cur, e, _, hb, hnc, hcm, _, ht⟩
  · cases e
    have : ys = [] := List.eq_nil_of_length_eq_zero hn
    subst this
    exact WS.empty _ _ _ (by omega)
  · cases e
    refine ⟨hn, hle, hnc, by have := hcm; simp [maxLen] at this; omega, fun j y hj => ?_⟩
    have hjl : j < ys.length := (List.getElem?_eq_some_iff.1 hj).1
    have get : ∀ i, i < n * 1 → cur[i]? = (flatWS ys)[i]? := fun i hi => by
      rw [← ht, List.getElem?_take, if_pos hi]; simp
    refine ⟨hr y (List.mem_of_getElem? hj), g, 0, rfl, ?_⟩
    · simp only [World.cell?, hb]
      have := get j (by omega)
      rw [flatWS_0, hj] at this
      simpa using this
/-- The cells of a slice, as append asks for them. -/
theorem WS.news {w : World} {b o n c : Nat} {ys : List Int} (h : WS w (some ⟨b, o, none⟩) n c ys) : ∀ (j : Nat) u, (flatWS ys)[j]? = some u → w.cell? ((⟨b, o, none⟩ : Addr).add j) = some u := fun j u hu => by
  rw [add_is]
  rw [flatWS_0] at hu
  obtain ⟨y, hy, rfl⟩ := Option.map_eq_some_iff.1 hu
  obtain ⟨_, b', o', e, hc⟩ := h.2.2.2.2 j y hy
  cases e; exact hc
theorem infoWS : (Tryz.prog.info? 26).map (fun i => (i.zero, i.size, i.bytes)) = some (some (.int .u64 0), 1, 8) := by kernel_rfl
/-- append onto a row of one's own. -/
theorem appendWS {w : World} {base n m c : Nat} {v : Value} {ys zs : List Int} {sl : Option Addr} (hown : w.ownsRow base 26 1 v n (flatWS ys)) (hS : WS w sl m c zs) (hle : n + m ≤ 4194304) (hbase : base ≤ w.heap.size) (ty : TypeId) :
    ∃ v' w', (Builtin.append_ #[27, 27] ty #[v, .slice sl m c]).run Tryz.prog w = .ok v' w' ∧ w'.ownsRow base 26 1 v' (n + m) (flatWS (ys ++ zs)) ∧ w.grownBy w' v.ownBlock := by
  obtain ⟨i0, hi, hz0, hz1, hz2⟩ := info_parts infoWS
  cases sl with
  | none =>
    have hm : m = 0 := by
      rcases Nat.eq_zero_or_pos m with h | h
      · exact h
      · obtain ⟨b, o, e⟩ := hS.addr h; cases e
    subst hm
    have hz : zs = [] := List.eq_nil_of_length_eq_zero hS.len
    subst hz
    refine ⟨v, w, ?_, by simpa using hown, ⟨rfl, rfl, rfl, Nat.le_refl _, fun _ _ _ => rfl⟩⟩
    rcases hown.2 with ⟨rfl, rfl⟩ | ⟨g, cap, cur, rfl, _, _, hnc, _⟩
    · simp [Builtin.append_, run_underlying Tryz.underlying27, sizeOf, typeInfo, hi, Builtin.lenOf, Builtin.firstCells]
    · simp [Builtin.append_, run_underlying Tryz.underlying27, sizeOf, typeInfo, hi, Builtin.lenOf, Builtin.firstCells, hnc, storeCells]
  | some ad =>
    have hcells : ∀ (j : Nat) u, (flatWS zs)[j]? = some u → w.cell? (ad.add j) = some u := by
      rcases Nat.eq_zero_or_pos m with h | h
      · have hz : zs = [] := List.eq_nil_of_length_eq_zero (by rw [hS.len, h])
        subst hz; intro j u hu; simp [flatWS] at hu
      · obtain ⟨b, o, e⟩ := hS.addr h
        cases e; exact hS.news
    obtain ⟨v', w', hrun, h2, h3, _, _⟩ := run_append_own_at (P := Tryz.prog) w base 27 ty 26 i0 _ 1 8 Tryz.underlying27 hi hz0 hz1 hz2 rfl (by decide) v n (flatWS ys) hown ad m c (flatWS zs) (by rw [flatWS_len, hS.len]) hcells (flatWS_one zs) (by unfold maxLen; omega) (by omega) hbase
    exact ⟨v', w', hrun, by rw [flatWS_append]; exact h2, h3⟩
theorem appWS {w : World} {base n : Nat} {v : Value} {ys : List Int} (hown : w.ownsRow base 26 1 v n (flatWS ys)) {sl : Option Addr} {m c : Nat} {zs : List Int} (hS : WS w sl m c zs) (L : Nat) (hL : n + m = L) (hle : L ≤ 4194304) (hbase : base ≤ w.heap.size) :
    ∃ sl' c' w', RowKit.Hid ((Builtin.append_ #[27, 27] 27 #[v, .slice sl m c]).run Tryz.prog w = .ok (.slice sl' L c') w') ∧ w'.ownsRow base 26 1 (.slice sl' L c') L (flatWS (ys ++ zs)) ∧ w.grownBy w' v.ownBlock := by
  subst hL
  obtain ⟨v', w', hr, ho2, hg⟩ := appendWS hown hS hle hbase 27
  obtain ⟨sl', c', rfl⟩ := own_form ho2
  exact ⟨sl', c', w', Lib.hid hr, ho2, hg⟩
theorem step_appendWS (w : World) {ops : Array Oper} {o : Oper} {a : Act} {K : Act → World → Prop} {Q : Exit → Act → World → Prop} {E : Prop} (hgd : o.guard = none) (s x : Operand)
    (ho : o.op = .call { callee := .builtin .append, args := #[s, x], argTypes := #[27, 27] }) (base n : Nat) (v : Value) (ys : List Int) (hs : a.eval s = v) (hown : w.ownsRow base 26 1 v n (flatWS ys))
    (sl : Option Addr) (m c : Nat) (zs : List Int) (hx : a.eval x = .slice sl m c) (hS : WS w sl m c zs) (L : Nat) (hL : n + m = L) (hle : L ≤ 4194304) (hbase : base ≤ w.heap.size)
    (h : ∀ sl' c' w', w'.ownsRow base 26 1 (.slice sl' L c') L (flatWS (ys ++ zs)) → w.grownBy w' v.ownBlock → K (a.put o.dst (.slice sl' L c')) w') :
    if Region.wanted o (yielded ops a.tmps) = true then Oper.wp Tryz.prog o a w K Q else E := by
  subst hL
  obtain ⟨v', w', hr, ho2, hg⟩ := appendWS hown hS hle hbase o.type
  obtain ⟨sl', c', rfl⟩ := own_form ho2
  exact step_append_run w hgd s x 27 27 ho _ _ hs hx _ _ hr (h sl' c' w' ho2 hg)
theorem elemWS : Tryz.prog.underlying 27 = some (.slice (Tryz.prog.elem 27)) := by kernel_rfl
theorem elemWS_is : Tryz.prog.elem 27 = 26 := by kernel_rfl
theorem slice_hiWS (sl : Option Addr) (m c i : Nat) (h : i ≤ c) (w : World) : (Instr.sliceAt 27 (.slice sl m c) none (some (.int .i64 (i : Int))) none).run Tryz.prog w = .ok (.slice sl i c) w := by
  rw [run_sliceAt_slice _ _ _ _ _ _ elemWS, run_slice_h _ _ _ _ _ elemWS _ _ (by omega) (by omega), elemWS_is, Tryz.sizeOf26]
  have e : ∀ z, sl.map (fun x => x.add (0 * z)) = sl := by
    intro z
    cases sl with
    | none => rfl
    | some a => obtain ⟨b, o, sp⟩ := a; simp [Addr.add]
  simp only [Result.andThen, sliced, Int.toNat_natCast, e, ite_self, Nat.sub_zero]
theorem slice_loWS (sl : Option Addr) (m c i : Nat) (h : i ≤ m) (w : World) : (Instr.sliceAt 27 (.slice sl m c) (some (.int .i64 (i : Int))) none none).run Tryz.prog w = .ok (.slice (cutAt 1 sl c i) (m - i) (c - i)) w := by
  rw [run_sliceAt_slice _ _ _ _ _ _ elemWS, run_slice_l _ _ _ _ _ elemWS _ _ (by omega) (by omega), elemWS_is, Tryz.sizeOf26]
  simp only [Result.andThen, sliced, Int.toNat_natCast, cutAt]
/-- A slice that was just built. -/
theorem WS.row (w : World) (xs : List Int) (n : Nat) (hn : xs.length = n) (hle : n ≤ 1048576) (hx : ∀ x ∈ xs, U64 x) (cs : Array Value) (hc : cs = (flatWS xs).toArray) : WS (w.alloc (.cells cs 26)) (some ⟨w.heap.size, 0, none⟩) n n xs := by
  subst hc
  refine ⟨hn, hle, Nat.le_refl _, by omega, fun j y hj => ⟨hx y (List.mem_of_getElem? hj), w.heap.size, 0, rfl, ?_⟩⟩
  · have := flatWS_0 xs j; rw [hj] at this; unfold World.cell?; rw [World.alloc_heap_new]; simpa using this
/-- A slice of one that was just built. -/
theorem WS.lit (w : World) (x : Int) (hx : U64 x) : WS (w.alloc (.cells #[.int .u64 x] 26)) (some ⟨w.heap.size, 0, none⟩) 1 1 [x] := by
  refine ⟨rfl, by omega, by omega, by omega, fun j y hj => ?_⟩
  have hj0 : j = 0 := by have := (List.getElem?_eq_some_iff.1 hj).1; simp at this; omega
  subst hj0
  simp at hj
  subst hj
  refine ⟨hx, w.heap.size, 0, rfl, ?_⟩
  · unfold World.cell?; rw [World.alloc_heap_new]; rfl

/-! NS: slices of ints. -/

/-- The slice of n ints that is read from sl on. -/
def NS (w : World) (sl : Option Addr) (n c : Nat) (xs : List Int) : Prop :=
  xs.length = n ∧ n ≤ 1048576 ∧ n ≤ c ∧ c ≤ 9223372036854775807 ∧ ∀ (j : Nat) x, xs[j]? = some x → I64 x ∧ ∃ b o, sl = some ⟨b, o, none⟩ ∧ w.cell? ⟨b, o + j, none⟩ = some (.int .i64 x)
/-- The same, of whatever length. -/
def NSL (w : World) (sl : Option Addr) (n c : Nat) (xs : List Int) : Prop :=
  xs.length = n ∧ n ≤ c ∧ c ≤ 9223372036854775807 ∧ ∀ (j : Nat) x, xs[j]? = some x → I64 x ∧ ∃ b o, sl = some ⟨b, o, none⟩ ∧ w.cell? ⟨b, o + j, none⟩ = some (.int .i64 x)
section
variable {w w' : World} {sl : Option Addr} {n c : Nat} {xs : List Int}
theorem NS.ext (h : NS w sl n c xs) (e : Ext w w') : NS w' sl n c xs :=
  ⟨h.1, h.2.1, h.2.2.1, h.2.2.2.1, fun j x hx => by obtain ⟨hu, b, o, hs, hc0⟩ := h.2.2.2.2 j x hx; exact ⟨hu, b, o, hs, e.cell hc0⟩⟩
theorem NSL.ext (h : NSL w sl n c xs) (e : Ext w w') : NSL w' sl n c xs :=
  ⟨h.1, h.2.1, h.2.2.1, fun j x hx => by obtain ⟨hu, b, o, hs, hc0⟩ := h.2.2.2 j x hx; exact ⟨hu, b, o, hs, e.cell hc0⟩⟩
theorem NS.len (h : NS w sl n c xs) : xs.length = n := h.1
theorem NS.le (h : NS w sl n c xs) : n ≤ 1048576 := h.2.1
theorem NS.lc (h : NS w sl n c xs) : n ≤ c := h.2.2.1
theorem NS.cle (h : NS w sl n c xs) : c ≤ 9223372036854775807 := h.2.2.2.1
theorem NS.get (h : NS w sl n c xs) {k : Nat} (hk : k < n) : ∃ x, xs[k]? = some x ∧ I64 x ∧ ∃ b o, sl = some ⟨b, o, none⟩ ∧ w.cell? ⟨b, o + k, none⟩ = some (.int .i64 x) := by
  have hl : k < xs.length := by rw [h.1]; exact hk
  exact ⟨xs[k], List.getElem?_eq_getElem hl, h.2.2.2.2 k _ (List.getElem?_eq_getElem hl)⟩
theorem NSL.get (h : NSL w sl n c xs) {k : Nat} (hk : k < n) : ∃ x, xs[k]? = some x ∧ I64 x ∧ ∃ b o, sl = some ⟨b, o, none⟩ ∧ w.cell? ⟨b, o + k, none⟩ = some (.int .i64 x) := by
  have hl : k < xs.length := by rw [h.1]; exact hk
  exact ⟨xs[k], List.getElem?_eq_getElem hl, h.2.2.2 k _ (List.getElem?_eq_getElem hl)⟩
theorem NS.range (h : NS w sl n c xs) : ∀ x ∈ xs, I64 x := fun x hx => by
  obtain ⟨j, hj⟩ := List.mem_iff_getElem?.1 hx; exact (h.2.2.2.2 j x hj).1
theorem NS.empty (w : World) (sl : Option Addr) (c : Nat) (hc : c ≤ 9223372036854775807) : NS w sl 0 c [] := ⟨rfl, by omega, by omega, hc, fun j x h => by simp at h⟩
theorem NS.addr (h : NS w sl n c xs) (hn : 0 < n) : ∃ b o, sl = some ⟨b, o, none⟩ := by
  obtain ⟨x, _, _, b, o, e, _⟩ := h.get hn; exact ⟨b, o, e⟩
theorem NS.take (h : NS w sl n c xs) {k : Nat} (hk : k ≤ n) : NS w sl k c (xs.take k) := by
  refine ⟨by rw [List.length_take, h.len]; omega, by have := h.le; omega, by have := h.lc; omega, h.cle, fun j y hy => ?_⟩
  rw [List.getElem?_take] at hy
  split at hy
  · exact h.2.2.2.2 j y hy
  · cases hy
theorem NSL.take (h : NSL w sl n c xs) {k : Nat} (hk : k ≤ n) (hb : k ≤ 1048576) : NS w sl k c (xs.take k) := by
  refine ⟨by rw [List.length_take, h.1]; omega, hb, by have := h.2.1; omega, h.2.2.1, fun j y hy => ?_⟩
  rw [List.getElem?_take] at hy
  split at hy
  · exact h.2.2.2 j y hy
  · cases hy
theorem NS.drop (h : NS w sl n c xs) {k : Nat} (hk : k ≤ n) : NS w (cutAt 1 sl c k) (n - k) (c - k) (xs.drop k) := by
  refine ⟨by rw [List.length_drop, h.len], by have := h.le; omega, by have := h.lc; omega, by have := h.cle; omega, fun j y hy => ?_⟩
  rw [List.getElem?_drop] at hy
  obtain ⟨h1, b, o, rfl, hc0⟩ := h.2.2.2.2 (k + j) y hy
  have hl : k + j < n := by rw [← h.len]; exact (List.getElem?_eq_some_iff.1 hy).1
  refine ⟨h1, b, o + k * 1, ?_, ?_⟩
  · unfold cutAt
    rw [if_neg (by have := h.lc; omega), Option.map_some, add_is]
  · rw [show o + k * 1 + j = o + (k + j) by omega]; exact hc0
end

/-- Their cells, one after the other. -/
def flatNS : List Int → List Value
  | [] => []
  | x :: r => .int .i64 x :: flatNS r
theorem flatNS_len : ∀ L : List Int, (flatNS L).length = L.length * 1
  | [] => rfl
  | _ :: r => by simp [flatNS, flatNS_len r]; try omega
theorem flatNS_append : ∀ L M : List Int, flatNS (L ++ M) = flatNS L ++ flatNS M
  | [], _ => rfl
  | y :: r, M => by simp [flatNS, flatNS_append r M]
theorem flatNS_0 : ∀ (L : List Int) (k : Nat), (flatNS L)[k]? = L[k]?.map fun x => .int .i64 x
  | [], k => by simp [flatNS]
  | x :: r, 0 => by simp [flatNS]
  | x :: r, k + 1 => by simp [flatNS, flatNS_0 r k]
theorem flatNS_one (L : List Int) : ∀ u ∈ flatNS L, u.oneCell' = true := by
  induction L with
  | nil => intro u hu; cases hu
  | cons x r ih =>
    intro u hu
    simp only [flatNS, List.mem_cons] at hu
    rcases hu with rfl | hu
    · rfl
    · exact ih u hu
/-- What lies in a row of one's own is read. -/
theorem NS.of_own {w : World} {base n c : Nat} {v : Option Addr} {ys : List Int} (h : w.ownsRow base 3 1 (.slice v n c) n (flatNS ys)) (hn : ys.length = n) (hle : n ≤ 1048576) (hr : ∀ y ∈ ys, I64 y) : NS w v n c ys := by
  rcases h.2 with ⟨e, hz⟩ | ⟨g, cap, cur, e, _, hb, hnc, hcm, _, ht⟩
  · cases e
    have : ys = [] := List.eq_nil_of_length_eq_zero hn
    subst this
    exact NS.empty _ _ _ (by omega)
  · cases e
    refine ⟨hn, hle, hnc, by have := hcm; simp [maxLen] at this; omega, fun j y hj => ?_⟩
    have hjl : j < ys.length := (List.getElem?_eq_some_iff.1 hj).1
    have get : ∀ i, i < n * 1 → cur[i]? = (flatNS ys)[i]? := fun i hi => by
      rw [← ht, List.getElem?_take, if_pos hi]; simp
    refine ⟨hr y (List.mem_of_getElem? hj), g, 0, rfl, ?_⟩
    · simp only [World.cell?, hb]
      have := get j (by omega)
      rw [flatNS_0, hj] at this
      simpa using this
/-- The cells of a slice, as append asks for them. -/
theorem NS.news {w : World} {b o n c : Nat} {ys : List Int} (h : NS w (some ⟨b, o, none⟩) n c ys) : ∀ (j : Nat) u, (flatNS ys)[j]? = some u → w.cell? ((⟨b, o, none⟩ : Addr).add j) = some u := fun j u hu => by
  rw [add_is]
  rw [flatNS_0] at hu
  obtain ⟨y, hy, rfl⟩ := Option.map_eq_some_iff.1 hu
  obtain ⟨_, b', o', e, hc⟩ := h.2.2.2.2 j y hy
  cases e; exact hc
theorem infoNS : (Tryz.prog.info? 3).map (fun i => (i.zero, i.size, i.bytes)) = some (some (.int .i64 0), 1, 8) := by kernel_rfl
/-- append onto a row of one's own. -/
theorem appendNS {w : World} {base n m c : Nat} {v : Value} {ys zs : List Int} {sl : Option Addr} (hown : w.ownsRow base 3 1 v n (flatNS ys)) (hS : NS w sl m c zs) (hle : n + m ≤ 4194304) (hbase : base ≤ w.heap.size) (ty : TypeId) :
    ∃ v' w', (Builtin.append_ #[28, 28] ty #[v, .slice sl m c]).run Tryz.prog w = .ok v' w' ∧ w'.ownsRow base 3 1 v' (n + m) (flatNS (ys ++ zs)) ∧ w.grownBy w' v.ownBlock := by
  obtain ⟨i0, hi, hz0, hz1, hz2⟩ := info_parts infoNS
  cases sl with
  | none =>
    have hm : m = 0 := by
      rcases Nat.eq_zero_or_pos m with h | h
      · exact h
      · obtain ⟨b, o, e⟩ := hS.addr h; cases e
    subst hm
    have hz : zs = [] := List.eq_nil_of_length_eq_zero hS.len
    subst hz
    refine ⟨v, w, ?_, by simpa using hown, ⟨rfl, rfl, rfl, Nat.le_refl _, fun _ _ _ => rfl⟩⟩
    rcases hown.2 with ⟨rfl, rfl⟩ | ⟨g, cap, cur, rfl, _, _, hnc, _⟩
    · simp [Builtin.append_, run_underlying Tryz.underlying28, sizeOf, typeInfo, hi, Builtin.lenOf, Builtin.firstCells]
    · simp [Builtin.append_, run_underlying Tryz.underlying28, sizeOf, typeInfo, hi, Builtin.lenOf, Builtin.firstCells, hnc, storeCells]
  | some ad =>
    have hcells : ∀ (j : Nat) u, (flatNS zs)[j]? = some u → w.cell? (ad.add j) = some u := by
      rcases Nat.eq_zero_or_pos m with h | h
      · have hz : zs = [] := List.eq_nil_of_length_eq_zero (by rw [hS.len, h])
        subst hz; intro j u hu; simp [flatNS] at hu
      · obtain ⟨b, o, e⟩ := hS.addr h
        cases e; exact hS.news
    obtain ⟨v', w', hrun, h2, h3, _, _⟩ := run_append_own_at (P := Tryz.prog) w base 28 ty 3 i0 _ 1 8 Tryz.underlying28 hi hz0 hz1 hz2 rfl (by decide) v n (flatNS ys) hown ad m c (flatNS zs) (by rw [flatNS_len, hS.len]) hcells (flatNS_one zs) (by unfold maxLen; omega) (by omega) hbase
    exact ⟨v', w', hrun, by rw [flatNS_append]; exact h2, h3⟩
theorem appNS {w : World} {base n : Nat} {v : Value} {ys : List Int} (hown : w.ownsRow base 3 1 v n (flatNS ys)) {sl : Option Addr} {m c : Nat} {zs : List Int} (hS : NS w sl m c zs) (L : Nat) (hL : n + m = L) (hle : L ≤ 4194304) (hbase : base ≤ w.heap.size) :
    ∃ sl' c' w', RowKit.Hid ((Builtin.append_ #[28, 28] 28 #[v, .slice sl m c]).run Tryz.prog w = .ok (.slice sl' L c') w') ∧ w'.ownsRow base 3 1 (.slice sl' L c') L (flatNS (ys ++ zs)) ∧ w.grownBy w' v.ownBlock := by
  subst hL
  obtain ⟨v', w', hr, ho2, hg⟩ := appendNS hown hS hle hbase 28
  obtain ⟨sl', c', rfl⟩ := own_form ho2
  exact ⟨sl', c', w', Lib.hid hr, ho2, hg⟩
/-- A slice that was just built. -/
theorem NS.row (w : World) (xs : List Int) (n : Nat) (hn : xs.length = n) (hle : n ≤ 1048576) (hx : ∀ x ∈ xs, I64 x) (cs : Array Value) (hc : cs = (flatNS xs).toArray) : NS (w.alloc (.cells cs 3)) (some ⟨w.heap.size, 0, none⟩) n n xs := by
  subst hc
  refine ⟨hn, hle, Nat.le_refl _, by omega, fun j y hj => ⟨hx y (List.mem_of_getElem? hj), w.heap.size, 0, rfl, ?_⟩⟩
  · have := flatNS_0 xs j; rw [hj] at this; unfold World.cell?; rw [World.alloc_heap_new]; simpa using this
/-- A slice of one that was just built. -/
theorem NS.lit (w : World) (x : Int) (hx : I64 x) : NS (w.alloc (.cells #[.int .i64 x] 3)) (some ⟨w.heap.size, 0, none⟩) 1 1 [x] := by
  refine ⟨rfl, by omega, by omega, by omega, fun j y hj => ?_⟩
  have hj0 : j = 0 := by have := (List.getElem?_eq_some_iff.1 hj).1; simp at this; omega
  subst hj0
  simp at hj
  subst hj
  refine ⟨hx, w.heap.size, 0, rfl, ?_⟩
  · unfold World.cell?; rw [World.alloc_heap_new]; rfl

/-! RS: slices of answers. -/

/-- The slice of n answers that is read from sl on. -/
def RS (w : World) (sl : Option Addr) (n c : Nat) (xs : List Rs) : Prop :=
  xs.length = n ∧ n ≤ 1048576 ∧ n ≤ c ∧ c ≤ 9223372036854775807 ∧ ∀ (j : Nat) x, xs[j]? = some x → Ir x ∧ ∃ b o, sl = some ⟨b, o, none⟩ ∧ w.cell? ⟨b, o + j * 2, none⟩ = some (.int .i64 x.1) ∧ w.cell? ⟨b, o + j * 2 + 1, none⟩ = some (.int .u64 x.2)
/-- The same, of whatever length. -/
def RSL (w : World) (sl : Option Addr) (n c : Nat) (xs : List Rs) : Prop :=
  xs.length = n ∧ n ≤ c ∧ c ≤ 9223372036854775807 ∧ ∀ (j : Nat) x, xs[j]? = some x → Ir x ∧ ∃ b o, sl = some ⟨b, o, none⟩ ∧ w.cell? ⟨b, o + j * 2, none⟩ = some (.int .i64 x.1) ∧ w.cell? ⟨b, o + j * 2 + 1, none⟩ = some (.int .u64 x.2)
section
variable {w w' : World} {sl : Option Addr} {n c : Nat} {xs : List Rs}
theorem RS.ext (h : RS w sl n c xs) (e : Ext w w') : RS w' sl n c xs :=
  ⟨h.1, h.2.1, h.2.2.1, h.2.2.2.1, fun j x hx => by obtain ⟨hu, b, o, hs, hc0, hc1⟩ := h.2.2.2.2 j x hx; exact ⟨hu, b, o, hs, e.cell hc0, e.cell hc1⟩⟩
theorem RSL.ext (h : RSL w sl n c xs) (e : Ext w w') : RSL w' sl n c xs :=
  ⟨h.1, h.2.1, h.2.2.1, fun j x hx => by obtain ⟨hu, b, o, hs, hc0, hc1⟩ := h.2.2.2 j x hx; exact ⟨hu, b, o, hs, e.cell hc0, e.cell hc1⟩⟩
theorem RS.len (h : RS w sl n c xs) : xs.length = n := h.1
theorem RS.le (h : RS w sl n c xs) : n ≤ 1048576 := h.2.1
theorem RS.lc (h : RS w sl n c xs) : n ≤ c := h.2.2.1
theorem RS.cle (h : RS w sl n c xs) : c ≤ 9223372036854775807 := h.2.2.2.1
theorem RS.get (h : RS w sl n c xs) {k : Nat} (hk : k < n) : ∃ x, xs[k]? = some x ∧ Ir x ∧ ∃ b o, sl = some ⟨b, o, none⟩ ∧ w.cell? ⟨b, o + k * 2, none⟩ = some (.int .i64 x.1) ∧ w.cell? ⟨b, o + k * 2 + 1, none⟩ = some (.int .u64 x.2) := by
  have hl : k < xs.length := by rw [h.1]; exact hk
  exact ⟨xs[k], List.getElem?_eq_getElem hl, h.2.2.2.2 k _ (List.getElem?_eq_getElem hl)⟩
theorem RSL.get (h : RSL w sl n c xs) {k : Nat} (hk : k < n) : ∃ x, xs[k]? = some x ∧ Ir x ∧ ∃ b o, sl = some ⟨b, o, none⟩ ∧ w.cell? ⟨b, o + k * 2, none⟩ = some (.int .i64 x.1) ∧ w.cell? ⟨b, o + k * 2 + 1, none⟩ = some (.int .u64 x.2) := by
  have hl : k < xs.length := by rw [h.1]; exact hk
  exact ⟨xs[k], List.getElem?_eq_getElem hl, h.2.2.2 k _ (List.getElem?_eq_getElem hl)⟩
theorem RS.range (h : RS w sl n c xs) : ∀ x ∈ xs, Ir x := fun x hx => by
  obtain ⟨j, hj⟩ := List.mem_iff_getElem?.1 hx; exact (h.2.2.2.2 j x hj).1
theorem RS.empty (w : World) (sl : Option Addr) (c : Nat) (hc : c ≤ 9223372036854775807) : RS w sl 0 c [] := ⟨rfl, by omega, by omega, hc, fun j x h => by simp at h⟩
theorem RS.addr (h : RS w sl n c xs) (hn : 0 < n) : ∃ b o, sl = some ⟨b, o, none⟩ := by
  obtain ⟨x, _, _, b, o, e, _⟩ := h.get hn; exact ⟨b, o, e⟩
theorem RS.take (h : RS w sl n c xs) {k : Nat} (hk : k ≤ n) : RS w sl k c (xs.take k) := by
  refine ⟨by rw [List.length_take, h.len]; omega, by have := h.le; omega, by have := h.lc; omega, h.cle, fun j y hy => ?_⟩
  rw [List.getElem?_take] at hy
  split at hy
  · exact h.2.2.2.2 j y hy
  · cases hy
theorem RSL.take (h : RSL w sl n c xs) {k : Nat} (hk : k ≤ n) (hb : k ≤ 1048576) : RS w sl k c (xs.take k) := by
  refine ⟨by rw [List.length_take, h.1]; omega, hb, by have := h.2.1; omega, h.2.2.1, fun j y hy => ?_⟩
  rw [List.getElem?_take] at hy
  split at hy
  · exact h.2.2.2 j y hy
  · cases hy
theorem RS.drop (h : RS w sl n c xs) {k : Nat} (hk : k ≤ n) : RS w (cutAt 2 sl c k) (n - k) (c - k) (xs.drop k) := by
  refine ⟨by rw [List.length_drop, h.len], by have := h.le; omega, by have := h.lc; omega, by have := h.cle; omega, fun j y hy => ?_⟩
  rw [List.getElem?_drop] at hy
  obtain ⟨h1, b, o, rfl, hc0, hc1⟩ := h.2.2.2.2 (k + j) y hy
  have hl : k + j < n := by rw [← h.len]; exact (List.getElem?_eq_some_iff.1 hy).1
  refine ⟨h1, b, o + k * 2, ?_, ?_, ?_⟩
  · unfold cutAt
    rw [if_neg (by have := h.lc; omega), Option.map_some, add_is]
  · rw [show o + k * 2 + j * 2 = o + (k + j) * 2 by omega]; exact hc0
  · rw [show o + k * 2 + j * 2 + 1 = o + (k + j) * 2 + 1 by omega]; exact hc1
end

/-- Their cells, one after the other. -/
def flatRS : List Rs → List Value
  | [] => []
  | x :: r => .int .i64 x.1 :: .int .u64 x.2 :: flatRS r
theorem flatRS_0 : ∀ (L : List Rs) (k : Nat), (flatRS L)[k * 2]? = L[k]?.map fun x => .int .i64 x.1
  | [], k => by simp [flatRS]
  | x :: r, 0 => by simp [flatRS]
  | x :: r, k + 1 => by
    have e : (k + 1) * 2 = k * 2 + 1 + 1 := by omega
    rw [e]; simp [flatRS, flatRS_0 r k]
theorem flatRS_1 : ∀ (L : List Rs) (k : Nat), (flatRS L)[k * 2 + 1]? = L[k]?.map fun x => .int .u64 x.2
  | [], k => by simp [flatRS]
  | x :: r, 0 => by simp [flatRS]
  | x :: r, k + 1 => by
    have e : (k + 1) * 2 + 1 = k * 2 + 1 + 1 + 1 := by omega
    rw [e]; simp [flatRS, flatRS_1 r k]
/-- What lies in a row of one's own is read. -/
theorem RS.of_own {w : World} {base n c : Nat} {v : Option Addr} {ys : List Rs} (h : w.ownsRow base 63 2 (.slice v n c) n (flatRS ys)) (hn : ys.length = n) (hle : n ≤ 1048576) (hr : ∀ y ∈ ys, Ir y) : RS w v n c ys := by
  rcases h.2 with ⟨e, hz⟩ | ⟨g, cap, cur, e, _, hb, hnc, hcm, _, ht⟩
  · cases e
    have : ys = [] := List.eq_nil_of_length_eq_zero hn
    subst this
    exact RS.empty _ _ _ (by omega)
  · cases e
    refine ⟨hn, hle, hnc, by have := hcm; simp [maxLen] at this; omega, fun j y hj => ?_⟩
    have hjl : j < ys.length := (List.getElem?_eq_some_iff.1 hj).1
    have get : ∀ i, i < n * 2 → cur[i]? = (flatRS ys)[i]? := fun i hi => by
      rw [← ht, List.getElem?_take, if_pos hi]; simp
    refine ⟨hr y (List.mem_of_getElem? hj), g, 0, rfl, ?_, ?_⟩
    · simp only [World.cell?, hb]
      have := get (j * 2) (by omega)
      rw [flatRS_0, hj] at this
      simpa using this
    · simp only [World.cell?, hb]
      have := get (j * 2 + 1) (by omega)
      rw [flatRS_1, hj] at this
      simpa using this
/-- The cells of a slice, as append asks for them. -/
theorem RS.news {w : World} {b o n c : Nat} {ys : List Rs} (h : RS w (some ⟨b, o, none⟩) n c ys) : ∀ (j : Nat) u, (flatRS ys)[j]? = some u → w.cell? ((⟨b, o, none⟩ : Addr).add j) = some u := fun j u hu => by
  rw [add_is]
  obtain ⟨k, hk⟩ : ∃ k, j = k * 2 ∨ j = k * 2 + 1 := ⟨j / 2, by omega⟩
  rcases hk with rfl | rfl
  · rw [flatRS_0] at hu
    obtain ⟨y, hy, rfl⟩ := Option.map_eq_some_iff.1 hu
    obtain ⟨_, b', o', e, hc, _⟩ := h.2.2.2.2 k y hy
    cases e; exact hc
  · rw [flatRS_1] at hu
    obtain ⟨y, hy, rfl⟩ := Option.map_eq_some_iff.1 hu
    obtain ⟨_, b', o', e, _, hc⟩ := h.2.2.2.2 k y hy
    cases e; exact hc
/-- A slice that was just built. -/
theorem RS.row (w : World) (xs : List Rs) (n : Nat) (hn : xs.length = n) (hle : n ≤ 1048576) (hx : ∀ x ∈ xs, Ir x) (cs : Array Value) (hc : cs = (flatRS xs).toArray) : RS (w.alloc (.cells cs 63)) (some ⟨w.heap.size, 0, none⟩) n n xs := by
  subst hc
  refine ⟨hn, hle, Nat.le_refl _, by omega, fun j y hj => ⟨hx y (List.mem_of_getElem? hj), w.heap.size, 0, rfl, ?_, ?_⟩⟩
  · have := flatRS_0 xs j; rw [hj] at this; unfold World.cell?; rw [World.alloc_heap_new]; simpa using this
  · have := flatRS_1 xs j; rw [hj] at this; unfold World.cell?; rw [World.alloc_heap_new]; simpa using this
/-- A slice of one that was just built. -/
theorem RS.lit (w : World) (x : Rs) (hx : Ir x) : RS (w.alloc (.cells #[.int .i64 x.1, .int .u64 x.2] 63)) (some ⟨w.heap.size, 0, none⟩) 1 1 [x] := by
  refine ⟨rfl, by omega, by omega, by omega, fun j y hj => ?_⟩
  have hj0 : j = 0 := by have := (List.getElem?_eq_some_iff.1 hj).1; simp at this; omega
  subst hj0
  simp at hj
  subst hj
  refine ⟨hx, w.heap.size, 0, rfl, ?_, ?_⟩
  · unfold World.cell?; rw [World.alloc_heap_new]; rfl
  · unfold World.cell?; rw [World.alloc_heap_new]; rfl

end Go.Proofs.YtmonkcekkhfafaaGreatDoor.Aut

/- AutLeaf:
  What the document's small functions of objects return: keyed, valued, less, meant, tells, refuses, bit, every, Reads, words. Conditions: integers' bounds; the slices are there.
-/
namespace Go.Proofs.YtmonkcekkhfafaaGreatDoor.Aut
open Go.RowKit (Below intOf)
open Reg (cf bx)

set_option maxHeartbeats 1000000 in
theorem keyed_any (k p m : Int) (w : World) : Calls Tryz.prog 58 #[cf k p m] w fun e w' => e = .returned (.bool (keyed k)) ∧ Ext w w' := by
  by_cases h2 : k = 2
  · subst h2
    go_enter Tryz.func58, Tryz.ntmps58
    go_wp2
    go_ret
    exact ⟨rfl, Ext.new w _⟩
  · by_cases h3 : k = 3
    · subst h3
      go_enter Tryz.func58, Tryz.ntmps58
      go_wp2
      go_ret
      exact ⟨rfl, Ext.new w _⟩
    · have e2 : (k == 2) = false := by simpa using h2
      have e3 : (k == 3) = false := by simpa using h3
      have e4 : RowKit.Hid ((k == 4) = keyed k) := Lib.hid (by unfold keyed; by_cases h4 : k = 4 <;> simp [h2, h3, h4])
      clear h2 h3
      go_enter Tryz.func58, Tryz.ntmps58
      go_wp2
      go_ret
      exact ⟨ret_bool e4.out, Ext.new w _⟩

set_option maxHeartbeats 1000000 in
theorem valued_any (k p m : Int) (w : World) : Calls Tryz.prog 107 #[cf k p m] w fun e w' => e = .returned (.bool (valued k)) ∧ Ext w w' := by
  by_cases h3 : k = 3
  · subst h3
    go_enter Tryz.func107, Tryz.ntmps107
    go_wp2
    go_ret
    exact ⟨rfl, Ext.new w _⟩
  · have e3 : (k == 3) = false := by simpa using h3
    have e4 : RowKit.Hid ((k == 4) = valued k) := Lib.hid (by unfold valued; by_cases h4 : k = 4 <;> simp [h3, h4])
    clear h3
    go_enter Tryz.func107, Tryz.ntmps107
    go_wp2
    go_ret
    exact ⟨ret_bool e4.out, Ext.new w _⟩

set_option maxHeartbeats 1000000 in
theorem less_any' (k p m a b : Int) (w : World) (ha : U64 a) (hb : U64 b) : Calls Tryz.prog 102 #[cf k p m, .int .u64 a, .int .u64 b] w fun e w' => e = .returned (.bool (decide (ordK k a < ordK k b))) ∧ Ext w w' := by
  by_cases h4 : k = 4
  · subst h4
    have hl : RowKit.Hid (less a b = decide (ordK 4 a < ordK 4 b)) := Lib.hid rfl
    go_enter Tryz.func102, Tryz.ntmps102
    go_wp2_with (fail)
    refine (rless_any a b _ ha.1 ha.2 hb.1 hb.2).mono ?_
    rintro e w1 ⟨rfl, rfl⟩
    go_wp2_with (fail)
    go_ret
    exact ⟨ret_bool hl.out, Ext.new w _⟩
  · have e4 : (k == 4) = false := by simpa using h4
    have hl : RowKit.Hid (decide (a < b) = decide (ordK k a < ordK k b)) := Lib.hid (by unfold ordK; rw [if_neg h4, if_neg h4])
    clear h4
    go_enter Tryz.func102, Tryz.ntmps102
    go_wp2_with (fail)
    go_ret
    exact ⟨ret_bool hl.out, Ext.new w _⟩

set_option maxHeartbeats 1000000 in
theorem meant_any (k p m x : Int) (w : World) (hx : U64 x) : Calls Tryz.prog 101 #[cf k p m, .int .u64 x] w fun e w' => e = .returned (.tuple #[.int .u64 (meantK k x), .bool (mayK k x)]) ∧ Ext w w' := by
  by_cases h4 : k = 4
  · subst h4
    go_enter Tryz.func101, Tryz.ntmps101
    go_wp2_with (fail)
    refine (rcanon_any x _ hx.1 hx.2).mono ?_
    rintro e w1 ⟨rfl, rfl⟩
    go_wp2_with (fail)
    go_ret2
    exact ⟨rfl, Ext.new w _⟩
  · have e4 : (k == 4) = false := by simpa using h4
    have hl : RowKit.Hid (meantK k x = x ∧ mayK k x = decide (x ≤ 4611686018427387904)) := Lib.hid (by unfold meantK mayK; rw [if_neg h4, if_neg h4]; exact ⟨rfl, rfl⟩)
    clear h4
    go_enter Tryz.func101, Tryz.ntmps101
    go_wp2_with (fail)
    go_ret2
    rw [hl.out.1, hl.out.2]
    exact ⟨rfl, Ext.new w _⟩

abbrev rv (e v : Int) : Value := .agg #[.int .i64 e, .int .u64 v]
theorem bit_any (b : Bool) (w : World) : Calls Tryz.prog 105 #[.bool b] w fun e w' => e = .returned (.int .u64 (bitZ b)) ∧ w = w' := by
  cases b
  · go_enter Tryz.func105, Tryz.ntmps105
    go_wp2
    go_ret
    exact ⟨rfl, rfl⟩
  · go_enter Tryz.func105, Tryz.ntmps105
    go_wp2
    go_ret
    exact ⟨rfl, rfl⟩


set_option maxHeartbeats 1000000 in
/-- The document's words: whether two lists are the same. -/
theorem words_any (s1 s2 : Option Addr) (n m c1 c2 : Nat) (xs ys : List Int) (r : Bool) (w : World) (h1 : WS w s1 n c1 xs) (h2 : WS w s2 m c2 ys) (hr : RowKit.Hid (r = decide (xs = ys))) :
    Calls Tryz.prog 43 #[.slice s1 n c1, .slice s2 m c2] w fun e w' => e = .returned (.bool r) ∧ Ext w w' := by
  have hn := h1.le
  have hm := h2.le
  have H1 := Lib.hid h1
  have H2 := Lib.hid h2
  clear h1 h2
  by_cases hnm : n = m
  · subst hnm
    go_enter Tryz.func43, Tryz.ntmps43
    go_wp2_with (fail)
    go_loopw [5] (fun i w' => ∃ k q : Nat, k ≤ n ∧ i = .int .i64 k ∧ w' = w.drewN q ∧ RowKit.Hid (∀ j, j < k → xs[j]? = ys[j]?)) (fun i _ => n - (intOf i).toNat)
    case atStart => exact ⟨0, 0, by omega, rfl, rfl, Lib.hid (fun j hj => by omega)⟩
    case round =>
      obtain ⟨k, q, hk, rfl, rfl, hz⟩ := hrel
      by_cases hlt : k < n
      · obtain ⟨p, hx, _, b, o, rfl, hc⟩ := H1.out.get hlt
        obtain ⟨p', hy, _, b2, o2, rfl, hd⟩ := H2.out.get hlt
        have HX := Lib.hid hx
        have HY := Lib.hid hy
        clear hx hy
        by_cases hp : p = p'
        · subst hp
          have hb1 : (p != p) = false := by simp
          go_wp2_with (fail)
          go_quiet (fail)
          go_wp2
          go_roundw
          case rel => exact ⟨k + 1, q + nq, by omega, by go_num, rfl, Lib.hid (fun j hj => by
            by_cases e : j = k
            · subst e; rw [HX.out, HY.out]
            · exact hz.out j (by omega))⟩
          case measure => simp [intOf]; omega
        · have hb : (p != p') = true := by simpa using hp
          have HN : RowKit.Hid (p ≠ p') := Lib.hid hp
          clear hp
          go_wp2_with (fail)
          go_quiet (fail)
          go_wp2
          go_ret
          exact ⟨ret_bool (by rw [hr.out, decide_eq_false (ne_at HX.out HY.out HN.out)]), (Ext.draws w q).drewN nq⟩
      · obtain rfl : k = n := by omega
        go_wp2
        go_ret
        exact ⟨ret_bool (by rw [hr.out, decide_eq_true (eq_all H1.out.len H2.out.len hz.out)]), Ext.draws w q⟩
  · have hb : ((n : Int) != (m : Int)) = true := by simp; omega
    have hb2 : (n != m) = true := by simpa using hnm
    go_enter Tryz.func43, Tryz.ntmps43
    go_wp2
    go_ret
    exact ⟨ret_bool (by rw [hr.out, decide_eq_false (fun e => hnm (by rw [← H1.out.len, ← H2.out.len, e]))]), Ext.refl w⟩

end Go.Proofs.YtmonkcekkhfafaaGreatDoor.Aut

/- AutState:
  States as values, and what the document's New, votes, Own and Same return. Conditions: integers' bounds; the state's slices are there.
-/
namespace Go.Proofs.YtmonkcekkhfafaaGreatDoor.Aut
open Go.RowKit (Below intOf)
open Reg (cf bx)

/-- A slice: where it begins, its length, its room. -/
structure Sl where
  a : Option Addr
  n : Nat
  c : Nat
/-- A state's value, and its box. -/
abbrev sv (r : Int) (k v t : Sl) (cl : Bool) : Value := .agg #[.int .u64 r, .slice k.a k.n k.c, .slice v.a v.n v.c, .slice t.a t.n t.c, .bool cl]
abbrev sb (r : Int) (k v t : Sl) (cl : Bool) : Obj := .cells #[.int .u64 r, .slice k.a k.n k.c, .slice v.a v.n v.c, .slice t.a t.n t.c, .bool cl] 30
/-- The slices are those of the state. -/
def SS (w : World) (k v t : Sl) (s : St) : Prop := U64 s.reg ∧ WS w k.a k.n k.c s.keys ∧ WS w v.a v.n v.c s.vals ∧ NS w t.a t.n t.c s.votes
theorem SS.ext {w w' : World} {k v t : Sl} {s : St} (h : SS w k v t s) (e : Ext w w') : SS w' k v t s := ⟨h.1, h.2.1.ext e, h.2.2.1.ext e, h.2.2.2.ext e⟩
theorem SS.wd {w : World} {k v t : Sl} {s : St} (h : SS w k v t s) : Wd s := ⟨h.1, h.2.1.range, h.2.2.1.range, h.2.2.2.range⟩
/-- A call that answers a state. -/
def SE (s : St) (w : World) (f : Value → Value) (e : Ending) (w' : World) : Prop := Ext w w' ∧ ∃ k v t, e = .returned (f (sv s.reg k v t s.closed)) ∧ SS w' k v t s

/-- A state's box, a configuration's box: what is read there. -/
def Five (w : World) (b : Nat) (r : Int) (k v t : Sl) (cl : Bool) : Prop :=
  w.cell? ⟨b, 0, none⟩ = some (.int .u64 r) ∧ w.cell? ⟨b, 1, none⟩ = some (.slice k.a k.n k.c) ∧ w.cell? ⟨b, 2, none⟩ = some (.slice v.a v.n v.c) ∧ w.cell? ⟨b, 3, none⟩ = some (.slice t.a t.n t.c) ∧ w.cell? ⟨b, 4, none⟩ = some (.bool cl)
def Three (w : World) (b : Nat) (k p m : Int) : Prop := w.cell? ⟨b, 0, none⟩ = some (.int .i64 k) ∧ w.cell? ⟨b, 1, none⟩ = some (.int .i64 p) ∧ w.cell? ⟨b, 2, none⟩ = some (.int .i64 m)
theorem Five.ext {w w' : World} {b : Nat} {r : Int} {k v t : Sl} {cl : Bool} (h : Five w b r k v t cl) (e : Ext w w') : Five w' b r k v t cl := ⟨e.cell h.1, e.cell h.2.1, e.cell h.2.2.1, e.cell h.2.2.2.1, e.cell h.2.2.2.2⟩
theorem Three.ext {w w' : World} {b : Nat} {k p m : Int} (h : Three w b k p m) (e : Ext w w') : Three w' b k p m := ⟨e.cell h.1, e.cell h.2.1, e.cell h.2.2⟩
theorem five_new (w : World) (r : Int) (k v t : Sl) (cl : Bool) : Five (w.alloc (sb r k v t cl)) w.heap.size r k v t cl := by
  refine ⟨?_, ?_, ?_, ?_, ?_⟩ <;> (unfold World.cell?; rw [World.alloc_heap_new]; rfl)
theorem three_new (w : World) (k p m : Int) : Three (w.alloc (bx k p m)) w.heap.size k p m := by
  refine ⟨?_, ?_, ?_⟩ <;> (unfold World.cell?; rw [World.alloc_heap_new]; rfl)
/-- The boxes of a configuration and a state, laid one behind the other. -/
theorem both_new (w : World) (k p m r : Int) (a v t : Sl) (cl : Bool) : Three ((w.alloc (bx k p m)).alloc (sb r a v t cl)) w.heap.size k p m ∧ Five ((w.alloc (bx k p m)).alloc (sb r a v t cl)) (w.heap.size + 1) r a v t cl ∧ Ext w ((w.alloc (bx k p m)).alloc (sb r a v t cl)) := by
  refine ⟨(three_new w k p m).ext (Ext.new _ _), ?_, (Ext.new w _).alloc _⟩
  have h := five_new (w.alloc (bx k p m)) r a v t cl
  rwa [World.size_alloc] at h

set_option maxHeartbeats 4000000 in
set_option maxRecDepth 100000 in
theorem votes_any (k p m : Int) (a v t : Sl) (s : St) (w : World) (hm : I64 m) (hS : SS w a v t s) :
    Calls Tryz.prog 67 #[cf k p m, sv s.reg a v t s.closed] w fun e w' => e = .returned (.bool (decide (VotesOk m s))) ∧ Ext w w' := by
  obtain ⟨ka, kn, kc⟩ := a
  obtain ⟨va, vn, vc⟩ := v
  obtain ⟨ta, n, tc⟩ := t
  obtain ⟨r, ks, vs, vt, cl⟩ := s
  have hN : NS w ta n tc vt := hS.2.2.2
  have hn := hN.le
  have HN := Lib.hid hN
  have hm' := hm
  unfold I64 at hm'
  clear hS hN hm
  dsimp only [sv]
  have hE0 : Ext w ((w.alloc (bx k p m)).alloc (sb r ⟨ka, kn, kc⟩ ⟨va, vn, vc⟩ ⟨ta, n, tc⟩ cl)) := (Ext.new w _).alloc _
  have HE0 := Lib.hid hE0
  clear hE0
  by_cases hl : (n : Int) = m
  · have hlb : ((n : Int) != m) = false := by simpa using hl
    go_enter Tryz.func67, Tryz.ntmps67
    go_wp2_with (fail)
    go_loopw [5] (fun iv wr => ∃ i : Nat, i ≤ n ∧ iv = .int .i64 i ∧ wr = (w.alloc (bx k p m)).alloc (sb r ⟨ka, kn, kc⟩ ⟨va, vn, vc⟩ ⟨ta, n, tc⟩ cl) ∧ RowKit.Hid (∀ (j : Nat) x, j < i → vt[j]? = some x → 0 ≤ x ∧ x ≤ 8)) (fun i _ => n - (intOf i).toNat)
    case atStart => exact ⟨0, by omega, rfl, rfl, Lib.hid (fun j x hj => by omega)⟩
    case round =>
      obtain ⟨i, hi, rfl, rfl, hP⟩ := hrel
      by_cases hin : i < n
      · have hii : (i : Int) < n := by omega
        obtain ⟨x, hx, ix, b, o, rfl, cx⟩ := HN.out.get (k := i) hin
        have cx2 := HE0.out.cell cx
        have HX := Lib.hid hx
        clear hx cx
        by_cases h0 : x < 0
        · have hd : decide (x < 0) = true := decide_eq_true h0
          have hz : RowKit.Hid (decide (VotesOk m ⟨r, ks, vs, vt, cl⟩) = false) := Lib.hid (decide_eq_false (fun h => by have := h.2 x (List.mem_of_getElem? HX.out); omega))
          go_wp2_with (fail)
          go_ret
          exact ⟨ret_bool hz.out.symm, HE0.out⟩
        · have hd : decide (x < 0) = false := decide_eq_false h0
          by_cases h8 : 8 < x
          · have hd8 : decide (8 < x) = true := decide_eq_true h8
            have hz : RowKit.Hid (decide (VotesOk m ⟨r, ks, vs, vt, cl⟩) = false) := Lib.hid (decide_eq_false (fun h => by have := h.2 x (List.mem_of_getElem? HX.out); omega))
            go_wp2_with (fail)
            go_ret
            exact ⟨ret_bool hz.out.symm, HE0.out⟩
          · have hd8 : decide (8 < x) = false := decide_eq_false h8
            have hN2 : RowKit.Hid (∀ (j : Nat) y, j < i + 1 → vt[j]? = some y → 0 ≤ y ∧ y ≤ 8) := Lib.hid (fun j y hj hy => by
              by_cases e : j = i
              · subst e; rw [HX.out] at hy; cases hy; omega
              · exact hP.out j y (by omega) hy)
            clear h0 h8
            go_wp2_with (fail)
            go_roundw
            case rel => exact ⟨i + 1, by omega, by go_num, by first | rfl | trivial, hN2⟩
            case measure => simp [intOf]; omega
      · obtain rfl : i = n := by omega
        have hz : RowKit.Hid (decide (VotesOk m ⟨r, ks, vs, vt, cl⟩) = true) := Lib.hid (decide_eq_true ⟨by have := HN.out.len; simp only; omega, fun x hx => by
          obtain ⟨j, hj⟩ := List.mem_iff_getElem?.1 hx
          exact hP.out j x (by have := (List.getElem?_eq_some_iff.1 hj).1; rw [HN.out.len] at this; exact this) hj⟩)
        go_wp2_with (fail)
        go_ret
        exact ⟨ret_bool hz.out.symm, HE0.out⟩
  · have hlb : ((n : Int) != m) = true := by simpa using hl
    have hz : RowKit.Hid (decide (VotesOk m ⟨r, ks, vs, vt, cl⟩) = false) := Lib.hid (decide_eq_false (fun h => hl (by have := h.1; rw [← HN.out.len]; exact this)))
    go_enter Tryz.func67, Tryz.ntmps67
    go_wp2_with (fail)
    go_ret
    exact ⟨ret_bool hz.out.symm, HE0.out⟩

end Go.Proofs.YtmonkcekkhfafaaGreatDoor.Aut

