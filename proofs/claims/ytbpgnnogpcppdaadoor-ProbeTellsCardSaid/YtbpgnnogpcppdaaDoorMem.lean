/-
  Slices of words, of ints and of records, as lists of integers, in a world, and what stays of them. No condition: definitions, and facts on them.
-/
import Derived.Test.YtbpgnnogpcppdaaDoorRows
import Derived.Test.YtbpgnnogpcppdaaDoorMixRef
import Derived.Test.YtbpgnnogpcppdaaDoorSpec
import Derived.WalkKit
import Derived.ProofKit
import Derived.Lib.Hide
import Derived.Below
import Derived.IntWalk
import Derived.Deep.QuietTactic
import Derived.BigQuiet
import Derived.Deep.AppendLies
import Derived.Maps.AppendAt
import Derived.Deep.Draws
import Derived.OwnWalk
import Derived.RangeFuncRecord
import Derived.Laws.CopyOwn
import Derived.Laws.MakeOwn
import Derived.Laws.OwnMore
namespace Go.Proofs.YtbpgnnogpcppdaaDoor
open Go.RowKit (Below intOf)

/-- Nothing that lay has turned; new blocks may lie. -/
def Ext (w w' : World) : Prop := Below w.heap.size w w'

theorem Ext.refl (w : World) : Ext w w := Below.refl _ w
theorem Ext.trans {a b c : World} (h : Ext a b) (k : Ext b c) : Ext a c := Below.trans h (Below.mono k h.size)
theorem Ext.alloc {a w : World} (h : Ext a w) (o : Obj) : Ext a (w.alloc o) := Below.alloc h h.size o
theorem Ext.drewN {a w : World} (h : Ext a w) (n : Nat) : Ext a (w.drewN n) := ⟨h.os, h.tape, h.output, h.size, h.block⟩
theorem Ext.drew {a w : World} (h : Ext a w) : Ext a w.drew := ⟨h.os, h.tape, h.output, h.size, h.block⟩
theorem Ext.setCell {a w : World} (h : Ext a w) {b o : Nat} (hb : a.heap.size ≤ b) (v : Value) : Ext a (w.setCell ⟨b, o, none⟩ v) := Below.setCell (p := ⟨b, o, none⟩) h hb v
theorem Ext.grown {a w w' : World} (h : Ext a w) {row : Option Nat} (g : w.grownBy w' row) (hr : ∀ k, row = some k → a.heap.size ≤ k) : Ext a w' := Below.grown h g h.size hr
theorem Ext.size {a w : World} (h : Ext a w) : a.heap.size ≤ w.heap.size := Below.size h
theorem Ext.cell {w w' : World} {b o : Nat} {v : Value} (h : Ext w w') (hc : w.cell? ⟨b, o, none⟩ = some v) : w'.cell? ⟨b, o, none⟩ = some v :=
  (Below.cell (p := ⟨b, o, none⟩) h (World.block_lt_of_cell? w _ hc)).trans hc
theorem Ext.frozen {w w' : World} {b o : Nat} {v : Value} (h : Ext w w') (hc : w.cell? ⟨b, o, none⟩ = some v) : w'.frozen? ⟨b, o, none⟩ = w.frozen? ⟨b, o, none⟩ :=
  Below.frozen (p := ⟨b, o, none⟩) h (World.block_lt_of_cell? w _ hc)
theorem Ext.new (w : World) (o : Obj) : Ext w (w.alloc o) := (Ext.refl w).alloc o
theorem Ext.draws (w : World) (n : Nat) : Ext w (w.drewN n) := (Ext.refl w).drewN n
theorem Gr.ext {w w' : World} (h : Gr w w') : Ext w w' := by
  obtain ⟨q, os, rfl⟩ := h
  refine ⟨rfl, rfl, rfl, by rw [Sort.size_grow]; exact Nat.le_add_right _ _, fun k hk => ?_⟩
  exact Sort.heap_grow_old (w.drewN q) os hk
theorem Tab.ext {w w' : World} (h : Tab w) (e : Ext w w') : Tab w' :=
  ⟨e.cell h.c0, e.cell h.c1, e.cell h.c2, e.cell h.c3, e.cell h.c4, e.cell h.c5, e.cell h.c6, e.cell h.c7, e.cell h.c8⟩

/-- The slice of n words that is read from sl on. -/
def WS (w : World) (sl : Option Addr) (n c : Nat) (xs : List Int) : Prop :=
  xs.length = n ∧ n ≤ 1048576 ∧ n ≤ c ∧ c ≤ 9223372036854775807 ∧ ∀ j x, xs[j]? = some x → U64 x ∧ ∃ b o, sl = some ⟨b, o, none⟩ ∧ w.cell? ⟨b, o + j, none⟩ = some (.int .u64 x)
/-- The slice of n records that is read from sl on. -/
def QS (w : World) (sl : Option Addr) (n c : Nat) (ys : List Rc) : Prop :=
  ys.length = n ∧ n ≤ 1048576 ∧ n ≤ c ∧ c ≤ 9223372036854775807 ∧ ∀ j y, ys[j]? = some y → Ur y ∧ ∃ b o, sl = some ⟨b, o, none⟩ ∧ w.cell? ⟨b, o + j * 2, none⟩ = some (.int .u64 y.1) ∧ w.cell? ⟨b, o + j * 2 + 1, none⟩ = some (.int .u64 y.2)
/-- The slice of ints that is read from sl on. -/
def IS (w : World) (sl : Option Addr) (n : Nat) (xs : List Int) : Prop :=
  xs.length = n ∧ n ≤ 9223372036854775807 ∧ ∀ j x, xs[j]? = some x → I64 x ∧ ∃ b o, sl = some ⟨b, o, none⟩ ∧ w.cell? ⟨b, o + j, none⟩ = some (.int .i64 x)

section
variable {w w' : World} {sl : Option Addr} {n c : Nat} {xs : List Int} {ys : List Rc}
theorem WS.ext (h : WS w sl n c xs) (e : Ext w w') : WS w' sl n c xs :=
  ⟨h.1, h.2.1, h.2.2.1, h.2.2.2.1, fun j x hx => by obtain ⟨hu, b, o, hs, hc⟩ := h.2.2.2.2 j x hx; exact ⟨hu, b, o, hs, e.cell hc⟩⟩
theorem QS.ext (h : QS w sl n c ys) (e : Ext w w') : QS w' sl n c ys :=
  ⟨h.1, h.2.1, h.2.2.1, h.2.2.2.1, fun j x hx => by obtain ⟨hu, b, o, hs, hc, hd⟩ := h.2.2.2.2 j x hx; exact ⟨hu, b, o, hs, e.cell hc, e.cell hd⟩⟩
theorem IS.ext (h : IS w sl n xs) (e : Ext w w') : IS w' sl n xs := ⟨h.1, h.2.1, fun j x hx => by obtain ⟨hu, b, o, hs, hc⟩ := h.2.2 j x hx; exact ⟨hu, b, o, hs, e.cell hc⟩⟩
theorem WS.len (h : WS w sl n c xs) : xs.length = n := h.1
theorem QS.len (h : QS w sl n c ys) : ys.length = n := h.1
theorem IS.len (h : IS w sl n xs) : xs.length = n := h.1
theorem WS.le (h : WS w sl n c xs) : n ≤ 1048576 := h.2.1
theorem QS.le (h : QS w sl n c ys) : n ≤ 1048576 := h.2.1
theorem WS.lc (h : WS w sl n c xs) : n ≤ c := h.2.2.1
theorem QS.lc (h : QS w sl n c ys) : n ≤ c := h.2.2.1
theorem WS.cle (h : WS w sl n c xs) : c ≤ 9223372036854775807 := h.2.2.2.1
theorem QS.cle (h : QS w sl n c ys) : c ≤ 9223372036854775807 := h.2.2.2.1
theorem WS.get (h : WS w sl n c xs) {k : Nat} (hk : k < n) : ∃ x, xs[k]? = some x ∧ U64 x ∧ ∃ b o, sl = some ⟨b, o, none⟩ ∧ w.cell? ⟨b, o + k, none⟩ = some (.int .u64 x) := by
  have hl : k < xs.length := by rw [h.1]; exact hk
  exact ⟨xs[k], List.getElem?_eq_getElem hl, h.2.2.2.2 k _ (List.getElem?_eq_getElem hl)⟩
theorem IS.get (h : IS w sl n xs) {k : Nat} (hk : k < n) : ∃ x, xs[k]? = some x ∧ I64 x ∧ ∃ b o, sl = some ⟨b, o, none⟩ ∧ w.cell? ⟨b, o + k, none⟩ = some (.int .i64 x) := by
  have hl : k < xs.length := by rw [h.1]; exact hk
  exact ⟨xs[k], List.getElem?_eq_getElem hl, h.2.2 k _ (List.getElem?_eq_getElem hl)⟩
theorem QS.get (h : QS w sl n c ys) {k : Nat} (hk : k < n) : ∃ p x, ys[k]? = some (p, x) ∧ U64 p ∧ U64 x ∧ ∃ b o, sl = some ⟨b, o, none⟩ ∧ w.cell? ⟨b, o + k * 2, none⟩ = some (.int .u64 p) ∧ w.cell? ⟨b, o + k * 2 + 1, none⟩ = some (.int .u64 x) := by
  have hl : k < ys.length := by rw [h.1]; exact hk
  obtain ⟨h1, b, o, hs, hc, hd⟩ := h.2.2.2.2 k _ (List.getElem?_eq_getElem hl)
  exact ⟨ys[k].1, ys[k].2, List.getElem?_eq_getElem hl, h1.1, h1.2, b, o, hs, hc, hd⟩
theorem WS.u64 (h : WS w sl n c xs) : ∀ x ∈ xs, U64 x := fun x hx => by
  obtain ⟨j, hj⟩ := List.mem_iff_getElem?.1 hx; exact (h.2.2.2.2 j x hj).1
theorem QS.range (h : QS w sl n c ys) : ∀ y ∈ ys, Ur y := fun y hy => by
  obtain ⟨j, hj⟩ := List.mem_iff_getElem?.1 hy; exact (h.2.2.2.2 j y hj).1
theorem WS.empty (w : World) (sl : Option Addr) (c : Nat) (hc : c ≤ 9223372036854775807) : WS w sl 0 c [] := ⟨rfl, by omega, by omega, hc, fun j x h => by simp at h⟩
theorem QS.empty (w : World) (sl : Option Addr) (c : Nat) (hc : c ≤ 9223372036854775807) : QS w sl 0 c [] := ⟨rfl, by omega, by omega, hc, fun j x h => by simp at h⟩
theorem WS.addr (h : WS w sl n c xs) (hn : 0 < n) : ∃ b o, sl = some ⟨b, o, none⟩ := by
  obtain ⟨x, _, _, b, o, e, _⟩ := h.get hn; exact ⟨b, o, e⟩
theorem QS.addr (h : QS w sl n c ys) (hn : 0 < n) : ∃ b o, sl = some ⟨b, o, none⟩ := by
  obtain ⟨p, x, _, _, _, b, o, e, _⟩ := h.get hn; exact ⟨b, o, e⟩
end

/-- A record's cells. -/
def enc2 (y : Rc) : List Value := [.int .u64 y.1, .int .u64 y.2]
/-- Records' cells, one after the other. -/
def flat : List Rc → List Value
  | [] => []
  | y :: r => .int .u64 y.1 :: .int .u64 y.2 :: flat r
theorem flat_len : ∀ L : List Rc, (flat L).length = L.length * 2
  | [] => rfl
  | _ :: r => by simp [flat, flat_len r]; omega
theorem flat_append : ∀ L M : List Rc, flat (L ++ M) = flat L ++ flat M
  | [], _ => rfl
  | y :: r, M => by simp [flat, flat_append r M]
theorem cells_0 : ∀ (L : List Rc) (k : Nat), (flat L)[k * 2]? = L[k]?.map fun y => .int .u64 y.1
  | [], k => by simp [flat]
  | x :: r, 0 => by simp [flat]
  | x :: r, k + 1 => by
    have e : (k + 1) * 2 = k * 2 + 1 + 1 := by omega
    rw [e]; simp [flat, cells_0 r k]
theorem cells_1 : ∀ (L : List Rc) (k : Nat), (flat L)[k * 2 + 1]? = L[k]?.map fun y => .int .u64 y.2
  | [], k => by simp [flat]
  | x :: r, 0 => by simp [flat]
  | x :: r, k + 1 => by
    have e : (k + 1) * 2 + 1 = k * 2 + 1 + 1 + 1 := by omega
    rw [e]; simp [flat, cells_1 r k]
theorem flat_one (L : List Rc) : ∀ u ∈ flat L, u.oneCell' = true := by
  induction L with
  | nil => intro u hu; cases hu
  | cons x r ih =>
    intro u hu
    simp only [flat, List.mem_cons] at hu
    rcases hu with rfl | rfl | hu
    · rfl
    · rfl
    · exact ih u hu

theorem add_is (b o j : Nat) : (⟨b, o, none⟩ : Addr).add j = ⟨b, o + j, none⟩ := by unfold Addr.add; split <;> simp_all

/-- What lies in a row of one's own is read. -/
theorem qs_of_own {w : World} {base n c : Nat} {v : Option Addr} {ys : List Rc} (h : w.ownsRow base 34 2 (.slice v n c) n (flat ys)) (hn : ys.length = n) (hle : n ≤ 1048576) (hr : ∀ y ∈ ys, Ur y) : QS w v n c ys := by
  rcases h.2 with ⟨e, hz⟩ | ⟨g, cap, cur, e, _, hb, hnc, hcm, _, ht⟩
  · cases e
    have : ys = [] := List.eq_nil_of_length_eq_zero hn
    subst this
    exact QS.empty _ _ _ (by omega)
  · cases e
    refine ⟨hn, hle, hnc, by have := hcm; simp [maxLen] at this; omega, fun j y hj => ?_⟩
    have hjl : j < ys.length := (List.getElem?_eq_some_iff.1 hj).1
    have get : ∀ i, i < n * 2 → cur[i]? = (flat ys)[i]? := fun i hi => by
      rw [← ht, List.getElem?_take, if_pos hi]; simp
    refine ⟨hr y (List.mem_of_getElem? hj), g, 0, rfl, ?_, ?_⟩
    · simp only [World.cell?, hb]
      have := get (j * 2) (by omega)
      rw [cells_0, hj] at this
      simpa using this
    · simp only [World.cell?, hb]
      have := get (j * 2 + 1) (by omega)
      rw [cells_1, hj] at this
      simpa using this

/-- The cells of a slice of records, as append asks for them. -/
theorem QS.news {w : World} {b o n c : Nat} {ys : List Rc} (h : QS w (some ⟨b, o, none⟩) n c ys) : ∀ j u, (flat ys)[j]? = some u → w.cell? ((⟨b, o, none⟩ : Addr).add j) = some u := fun j u hu => by
  rw [add_is]
  obtain ⟨k, hk⟩ : ∃ k, j = k * 2 ∨ j = k * 2 + 1 := ⟨j / 2, by omega⟩
  rcases hk with rfl | rfl
  · rw [cells_0] at hu
    obtain ⟨y, hy, rfl⟩ := Option.map_eq_some_iff.1 hu
    obtain ⟨_, b', o', e, hc, _⟩ := h.2.2.2.2 k y hy
    cases e; exact hc
  · rw [cells_1] at hu
    obtain ⟨y, hy, rfl⟩ := Option.map_eq_some_iff.1 hu
    obtain ⟨_, b', o', e, _, hc⟩ := h.2.2.2.2 k y hy
    cases e; exact hc

theorem own_form {W : World} {base : Nat} {e : TypeId} {size n : Nat} {v : Value} {xs : List Value} (h : W.ownsRow base e size v n xs) : ∃ sl c, v = .slice sl n c := by
  rcases h.2 with ⟨rfl, rfl⟩ | ⟨g, cap, cur, rfl, _⟩
  · exact ⟨_, _, rfl⟩
  · exact ⟨_, _, rfl⟩
theorem own_ge {W : World} {base : Nat} {e : TypeId} {size n : Nat} {v : Value} {xs : List Value} (h : W.ownsRow base e size v n xs) : ∀ k, v.ownBlock = some k → base ≤ k := fun k hk => by
  rcases h.2 with ⟨rfl, _⟩ | ⟨g, cap, cur, rfl, hb, _⟩
  · cases hk
  · simp [Value.ownBlock] at hk; omega

theorem info34 : (Tryd.prog.info? 34).map (fun i => (i.zero, i.size, i.bytes)) = some (some (.agg #[.int .u64 0, .int .u64 0]), 2, 16) := by kernel_rfl
theorem info24 : (Tryd.prog.info? 24).map (fun i => (i.zero, i.size, i.bytes)) = some (some (.int .u64 0), 1, 8) := by kernel_rfl

theorem two_cells (W : World) (x y : Value) : ∀ j u, ([x, y] : List Value)[j]? = some u → (W.alloc (.cells #[x, y] 34)).cell? ((⟨W.heap.size, 0, none⟩ : Addr).add j) = some u := fun j u hu => by
  rw [add_is]
  unfold World.cell?
  rw [World.alloc_heap_new]
  match j, hu with
  | 0, hu => simpa using hu
  | 1, hu => simpa using hu
  | j + 2, hu => simp at hu

/-- The words of block g, from its start on, that may be written. -/
def RowW (w : World) (g : Nat) (xs : List Int) : Prop := ∀ j x, xs[j]? = some x → U64 x ∧ w.cell? ⟨g, j, none⟩ = some (.int .u64 x) ∧ w.frozen? ⟨g, j, none⟩ = false

section
variable {w w' : World} {g : Nat} {xs : List Int}
theorem RowW.ext (h : RowW w g xs) (e : Ext w w') : RowW w' g xs := fun j x hx => by
  obtain ⟨h1, h2, h3⟩ := h j x hx; exact ⟨h1, e.cell h2, (e.frozen h2).trans h3⟩
theorem RowW.set (h : RowW w g xs) {i : Nat} (hi : i < xs.length) {x : Int} (hx : U64 x) : RowW (w.setCell ⟨g, i, none⟩ (.int .u64 x)) g (xs.set i x) := fun j y hj => by
  by_cases e : i = j
  · subst e
    rw [List.getElem?_set_self hi] at hj
    cases hj
    obtain ⟨h1, h2, h3⟩ := h i _ (List.getElem?_eq_getElem hi)
    exact ⟨hx, World.cell?_setCell_same' _ _ _ (by rw [h2]; rfl), by simpa using h3⟩
  · rw [List.getElem?_set_ne e] at hj
    obtain ⟨h1, h2, h3⟩ := h j y hj
    exact ⟨h1, by rw [World.cell?_setCell_other _ _ _ _ (fun he => e (by cases he; rfl))]; exact h2, by simpa using h3⟩
theorem RowW.ws (h : RowW w g xs) {n c : Nat} (hn : xs.length = n) (hle : n ≤ 1048576) (hc : n ≤ c) (hcm : c ≤ 9223372036854775807) : WS w (some ⟨g, 0, none⟩) n c xs :=
  ⟨hn, hle, hc, hcm, fun j x hx => by obtain ⟨h1, h2, _⟩ := h j x hx; exact ⟨h1, g, 0, rfl, by simpa using h2⟩⟩
theorem RowW.get (h : RowW w g xs) {i : Nat} (hi : i < xs.length) : ∃ x, w.cell? ⟨g, i, none⟩ = some (.int .u64 x) ∧ w.frozen? ⟨g, i, none⟩ = false :=
  ⟨_, (h i _ (List.getElem?_eq_getElem hi)).2⟩
theorem rowW_of_block {cur : Array Value} (hb : w.heap[g]? = some (.cells cur 24 (0, 0))) (h : ∀ (j : Nat) (x : Int), xs[j]? = some x → U64 x ∧ cur[j]? = some (Value.int .u64 x)) : RowW w g xs := fun j x hx => by
  obtain ⟨h1, h2⟩ := h j x hx
  exact ⟨h1, by simp only [World.cell?, hb]; simpa using h2, by simp [World.frozen?, hb]⟩
end

abbrev zeros (n : Nat) : Array Value := madeCells #[.int .u64 0] n
theorem zeros_list (n : Nat) : (zeros n).toList = List.replicate n (.int .u64 0) := toList_madeCells_one _ n
theorem make_words (n : Nat) (hn : n ≤ 1048576) (W : World) : (Instr.makeSlice 23 (.int .i64 (n : Int)) (.int .i64 (n : Int))).run Tryd.prog W = .ok (.slice (some ⟨W.heap.size, 0, none⟩) n n) (W.alloc (.cells (zeros n) 24)) := by
  obtain ⟨i0, hi, hz0, hz1, hz2⟩ := info_parts info24
  have h := run_make (P := Tryd.prog) W 23 24 i0 _ Tryd.underlying23 hi hz0 .i64 .i64 n n (by omega) (by omega) (by rw [hz2]; omega) (by omega)
  simp only [Int.toNat_natCast, hz1, Nat.mul_one] at h
  exact h
theorem zeros_row (n : Nat) (W : World) : RowW (W.alloc (.cells (zeros n) 24)) W.heap.size (List.replicate n 0) :=
  rowW_of_block (World.alloc_heap_new W _) (fun j x hx => by
    have e : x = 0 := List.eq_of_mem_replicate (List.mem_of_getElem? hx)
    have hj : j < n := by have := (List.getElem?_eq_some_iff.1 hx).1; simpa using this
    subst e
    refine ⟨by unfold U64; omega, ?_⟩
    rw [← Array.getElem?_toList, zeros_list]; simp [hj])

theorem WS.vals {w : World} {b o n c : Nat} {xs : List Int} (h : WS w (some ⟨b, o, none⟩) n c xs) : ∀ j v, (xs.map (Value.int .u64))[j]? = some v → w.cell? ((⟨b, o, none⟩ : Addr).add j) = some v := fun j v hv => by
  rw [add_is]
  rw [List.getElem?_map] at hv
  obtain ⟨x, hx, rfl⟩ := Option.map_eq_some_iff.1 hv
  obtain ⟨_, b', o', e, hc⟩ := h.2.2.2.2 j x hx
  cases e; exact hc

/-- append of words onto none: none, or new ones. -/
theorem append_words {w : World} {sa : Option Addr} {n ca : Nat} {a : List Int} (hA : WS w sa n ca a) (ty : TypeId) :
    ∃ sl c w2, (Builtin.append_ #[23, 23] ty #[.slice none 0 0, .slice sa n ca]).run Tryd.prog w = .ok (.slice sl n c) w2 ∧ n ≤ c ∧ c ≤ 9223372036854775807 ∧ (0 < n → sl = some ⟨w.heap.size, 0, none⟩) ∧ RowW w2 w.heap.size a ∧ Below w.heap.size w w2 := by
  obtain ⟨i0, hi, hz0, hz1, hz2⟩ := info_parts info24
  by_cases h0 : n = 0
  · subst h0
    have ha : a = [] := List.eq_nil_of_length_eq_zero hA.len
    subst ha
    refine ⟨none, 0, w, ?_, by omega, by omega, by omega, fun j x hx => by simp at hx, Ext.refl w⟩
    cases sa with
    | none => simp [Builtin.append_, run_underlying Tryd.underlying23, sizeOf, typeInfo, hi, Builtin.lenOf, Builtin.firstCells]
    | some ad => simp [Builtin.append_, run_underlying Tryd.underlying23, sizeOf, typeInfo, hi, Builtin.lenOf, Builtin.firstCells, loadCells, loadCellsFrom]
  · obtain ⟨b, o, rfl⟩ := hA.addr (by omega)
    have hle := hA.le
    obtain ⟨v', w', hrun, h2, h3, h4, h5⟩ := run_append_own_at (P := Tryd.prog) w w.heap.size 23 ty 24 i0 _ 1 8 Tryd.underlying23 hi hz0 hz1 hz2 rfl (by decide) (.slice none 0 0) 0 [] (World.ownsRow_nil w w.heap.size 24 1) ⟨b, o, none⟩ n ca (a.map (Value.int .u64)) (by rw [List.length_map, hA.len]; omega) hA.vals
      (by intro v hv; obtain ⟨x, _, rfl⟩ := List.mem_map.1 hv; rfl) (by unfold maxLen; omega) (by omega) (Nat.le_refl _)
    rw [Nat.zero_add] at h2
    rcases h2.2 with ⟨_, hz⟩ | ⟨g, cap, cur, rfl, hb, hg, hnc, hcm, hcs, ht⟩
    · omega
    · have hgw : g = w.heap.size := by
        rcases h5 with h5 | h5
        · simp [Value.ownBlock] at h5
        · simpa [Value.ownBlock] using h5
      subst hgw
      refine ⟨_, cap, w', hrun, hnc, by unfold maxLen at hcm; omega, fun _ => rfl, rowW_of_block hg (fun j x hx => ⟨hA.u64 x (List.mem_of_getElem? hx), ?_⟩), Ext.grown (Ext.refl w) h3 (fun k e => by simp [Value.ownBlock] at e)⟩
      have hj : j < a.length := (List.getElem?_eq_some_iff.1 hx).1
      have h1 : (cur.toList.take (n * 1))[j]? = some (Value.int .u64 x) := by rw [ht, List.nil_append, List.getElem?_map, hx]; rfl
      rw [List.getElem?_take, if_pos (by rw [hA.len] at hj; omega)] at h1
      simpa using h1

/-- append of records onto a row of one's own. -/
theorem append_recs {w : World} {base n m c : Nat} {v : Value} {ys zs : List Rc} {sl : Option Addr} (hown : w.ownsRow base 34 2 v n (flat ys)) (hS : QS w sl m c zs) (hle : n + m ≤ 4194304) (hbase : base ≤ w.heap.size) (ty : TypeId) :
    ∃ v' w', (Builtin.append_ #[32, 32] ty #[v, .slice sl m c]).run Tryd.prog w = .ok v' w' ∧ w'.ownsRow base 34 2 v' (n + m) (flat (ys ++ zs)) ∧ w.grownBy w' v.ownBlock := by
  obtain ⟨i0, hi, hz0, hz1, hz2⟩ := info_parts info34
  cases sl with
  | none =>
    have hm : m = 0 := by
      rcases Nat.eq_zero_or_pos m with h | h
      · exact h
      · obtain ⟨_, _, _, _, _, b, o, e, _⟩ := hS.get h; cases e
    subst hm
    have hz : zs = [] := List.eq_nil_of_length_eq_zero hS.len
    subst hz
    refine ⟨v, w, ?_, by simpa using hown, ⟨rfl, rfl, rfl, Nat.le_refl _, fun _ _ _ => rfl⟩⟩
    rcases hown.2 with ⟨rfl, rfl⟩ | ⟨g, cap, cur, rfl, _, _, hnc, _⟩
    · simp [Builtin.append_, run_underlying Tryd.underlying32, sizeOf, typeInfo, hi, Builtin.lenOf, Builtin.firstCells]
    · simp [Builtin.append_, run_underlying Tryd.underlying32, sizeOf, typeInfo, hi, Builtin.lenOf, Builtin.firstCells, hnc, storeCells]
  | some ad =>
    have hcells : ∀ j u, (flat zs)[j]? = some u → w.cell? (ad.add j) = some u := by
      rcases Nat.eq_zero_or_pos m with h | h
      · have hz : zs = [] := List.eq_nil_of_length_eq_zero (by rw [hS.len, h])
        subst hz; intro j u hu; simp [flat] at hu
      · obtain ⟨_, _, _, _, _, b, o, e, _⟩ := hS.get h
        cases e; exact hS.news
    obtain ⟨v', w', hrun, h2, h3, _, _⟩ := run_append_own_at (P := Tryd.prog) w base 32 ty 34 i0 _ 2 16 Tryd.underlying32 hi hz0 hz1 hz2 rfl (by decide) v n (flat ys) hown ad m c (flat zs) (by rw [flat_len, hS.len]) hcells (flat_one zs) (by unfold maxLen; omega) (by omega) hbase
    exact ⟨v', w', hrun, by rw [flat_append]; exact h2, h3⟩

theorem drop_cons {α : Type} {l : List α} {k : Nat} {y : α} (h : l[k]? = some y) : l.drop k = y :: l.drop (k + 1) := by
  obtain ⟨hl, e⟩ := List.getElem?_eq_some_iff.1 h
  rw [← e]; exact List.drop_eq_getElem_cons hl
theorem take_snoc {α : Type} {l : List α} {k : Nat} {y : α} (h : l[k]? = some y) : l.take (k + 1) = l.take k ++ [y] := by
  obtain ⟨hl, e⟩ := List.getElem?_eq_some_iff.1 h
  rw [← e]; exact (List.take_append_getElem hl).symm
theorem ret_bool {a b : Bool} (h : a = b) : Ending.returned (.bool a) = .returned (.bool b) := by rw [h]
theorem ne_at {α : Type} {xs ys : List α} {k : Nat} {x y : α} (hx : xs[k]? = some x) (hy : ys[k]? = some y) (h : x ≠ y) : xs ≠ ys := fun e => by
  subst e; rw [hx] at hy; cases hy; exact h rfl
theorem eq_all {α : Type} {xs ys : List α} {n : Nat} (h1 : xs.length = n) (h2 : ys.length = n) (h : ∀ j, j < n → xs[j]? = ys[j]?) : xs = ys := by
  apply List.ext_getElem?; intro i
  by_cases hi : i < n
  · exact h i hi
  · rw [List.getElem?_eq_none (by omega), List.getElem?_eq_none (by omega)]

/-- A call that answers words and a number. -/
def WE (p : List Int × Int) (w : World) (e : Ending) (w' : World) : Prop := Ext w w' ∧ ∃ sl n c, e = .returned (.tuple #[.slice sl n c, .int .i64 p.2]) ∧ WS w' sl n c p.1

end Go.Proofs.YtbpgnnogpcppdaaDoor
