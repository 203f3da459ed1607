/-
  Slices of words, of ints, of writes and of pairs of ints, as lists of integers, in a world, and what stays of them. No condition: definitions, and facts on them.
-/
import Derived.Test.YtdofplmoiljkjaaRows
import Derived.Test.YtdofplmoiljkjaaNum
import Derived.WalkKit
import Derived.ProofKit
import Derived.Lib.Hide
import Derived.Below
import Derived.IntWalk
import Derived.Deep.QuietTactic
import Derived.BigQuiet
import Derived.Deep.AppendLies
import Derived.Maps.AppendAt
import Derived.Deep.Draws
import Derived.OwnWalk
namespace Go.Proofs.Ytdofplmoiljkjaa
open Go.RowKit (Below intOf)

def I64 (x : Int) : Prop := -9223372036854775808 ≤ x ∧ x < 9223372036854775808
def U64 (x : Int) : Prop := 0 ≤ x ∧ x < 18446744073709551616

/-- Nothing that lay has turned; new blocks may lie. -/
def Ext (w w' : World) : Prop := Below w.heap.size w w'

theorem Ext.refl (w : World) : Ext w w := Below.refl _ w
theorem Ext.trans {a b c : World} (h : Ext a b) (k : Ext b c) : Ext a c := Below.trans h (Below.mono k h.size)
theorem Ext.alloc {a w : World} (h : Ext a w) (o : Obj) : Ext a (w.alloc o) := Below.alloc h h.size o
theorem Ext.drewN {a w : World} (h : Ext a w) (n : Nat) : Ext a (w.drewN n) := ⟨h.os, h.tape, h.output, h.size, h.block⟩
theorem Ext.drew {a w : World} (h : Ext a w) : Ext a w.drew := ⟨h.os, h.tape, h.output, h.size, h.block⟩
theorem Ext.setCell {a w : World} (h : Ext a w) {b o : Nat} (hb : a.heap.size ≤ b) (v : Value) : Ext a (w.setCell ⟨b, o, none⟩ v) := Below.setCell (p := ⟨b, o, none⟩) h hb v
theorem Ext.grown {a w w' : World} (h : Ext a w) {row : Option Nat} (g : w.grownBy w' row) (hr : ∀ k, row = some k → a.heap.size ≤ k) : Ext a w' := Below.grown h g h.size hr
theorem Ext.size {a w : World} (h : Ext a w) : a.heap.size ≤ w.heap.size := Below.size h
theorem Ext.cell {w w' : World} {b o : Nat} {v : Value} (h : Ext w w') (hc : w.cell? ⟨b, o, none⟩ = some v) : w'.cell? ⟨b, o, none⟩ = some v :=
  (Below.cell (p := ⟨b, o, none⟩) h (World.block_lt_of_cell? w _ hc)).trans hc
theorem Ext.frozen {w w' : World} {b o : Nat} {v : Value} (h : Ext w w') (hc : w.cell? ⟨b, o, none⟩ = some v) : w'.frozen? ⟨b, o, none⟩ = w.frozen? ⟨b, o, none⟩ :=
  Below.frozen (p := ⟨b, o, none⟩) h (World.block_lt_of_cell? w _ hc)
theorem Ext.new (w : World) (o : Obj) : Ext w (w.alloc o) := (Ext.refl w).alloc o
theorem Ext.draws (w : World) (n : Nat) : Ext w (w.drewN n) := (Ext.refl w).drewN n

/-- The slice of n words that is read from sl on. -/
def WS (w : World) (sl : Option Addr) (n c : Nat) (xs : List Int) : Prop :=
  xs.length = n ∧ n ≤ 1048576 ∧ n ≤ c ∧ c ≤ 9223372036854775807 ∧ ∀ j x, xs[j]? = some x → U64 x ∧ ∃ b o, sl = some ⟨b, o, none⟩ ∧ w.cell? ⟨b, o + j, none⟩ = some (.int .u64 x)
/-- The slice of n writes that is read from sl on. -/
def RS (w : World) (sl : Option Addr) (n c : Nat) (ys : List Wr) : Prop :=
  ys.length = n ∧ n ≤ 1048576 ∧ n ≤ c ∧ c ≤ 9223372036854775807 ∧ ∀ j y, ys[j]? = some y → I64 y.1 ∧ U64 y.2 ∧ ∃ b o, sl = some ⟨b, o, none⟩ ∧ w.cell? ⟨b, o + j * 2, none⟩ = some (.int .i64 y.1) ∧ w.cell? ⟨b, o + j * 2 + 1, none⟩ = some (.int .u64 y.2)
/-- A slice of ints, of whatever length. -/
def IS (w : World) (sl : Option Addr) (n : Nat) : Prop :=
  n ≤ 9223372036854775807 ∧ ∀ j, j < n → ∃ x, I64 x ∧ ∃ b o, sl = some ⟨b, o, none⟩ ∧ w.cell? ⟨b, o + j, none⟩ = some (.int .i64 x)
/-- A slice of pairs of ints, of whatever length. -/
def PS (w : World) (sl : Option Addr) (n : Nat) : Prop :=
  n ≤ 9223372036854775807 ∧ ∀ j, j < n → ∃ x y, I64 x ∧ I64 y ∧ ∃ b o, sl = some ⟨b, o, none⟩ ∧ w.cell? ⟨b, o + j * 2, none⟩ = some (.int .i64 x) ∧ w.cell? ⟨b, o + j * 2 + 1, none⟩ = some (.int .i64 y)

section
variable {w w' : World} {sl : Option Addr} {n c : Nat} {xs : List Int} {ys : List Wr}
theorem WS.ext (h : WS w sl n c xs) (e : Ext w w') : WS w' sl n c xs :=
  ⟨h.1, h.2.1, h.2.2.1, h.2.2.2.1, fun j x hx => by obtain ⟨hu, b, o, hs, hc⟩ := h.2.2.2.2 j x hx; exact ⟨hu, b, o, hs, e.cell hc⟩⟩
theorem RS.ext (h : RS w sl n c ys) (e : Ext w w') : RS w' sl n c ys :=
  ⟨h.1, h.2.1, h.2.2.1, h.2.2.2.1, fun j x hx => by obtain ⟨hi, hu, b, o, hs, hc, hd⟩ := h.2.2.2.2 j x hx; exact ⟨hi, hu, b, o, hs, e.cell hc, e.cell hd⟩⟩
theorem IS.ext (h : IS w sl n) (e : Ext w w') : IS w' sl n := ⟨h.1, fun j hj => by obtain ⟨x, hx, b, o, hs, hc⟩ := h.2 j hj; exact ⟨x, hx, b, o, hs, e.cell hc⟩⟩
theorem PS.ext (h : PS w sl n) (e : Ext w w') : PS w' sl n := ⟨h.1, fun j hj => by obtain ⟨x, y, hx, hy, b, o, hs, hc, hd⟩ := h.2 j hj; exact ⟨x, y, hx, hy, b, o, hs, e.cell hc, e.cell hd⟩⟩
theorem WS.len (h : WS w sl n c xs) : xs.length = n := h.1
theorem RS.len (h : RS w sl n c ys) : ys.length = n := h.1
theorem WS.le (h : WS w sl n c xs) : n ≤ 1048576 := h.2.1
theorem RS.le (h : RS w sl n c ys) : n ≤ 1048576 := h.2.1
theorem WS.lc (h : WS w sl n c xs) : n ≤ c := h.2.2.1
theorem RS.lc (h : RS w sl n c ys) : n ≤ c := h.2.2.1
theorem WS.cle (h : WS w sl n c xs) : c ≤ 9223372036854775807 := h.2.2.2.1
theorem RS.cle (h : RS w sl n c ys) : c ≤ 9223372036854775807 := h.2.2.2.1
theorem WS.get (h : WS w sl n c xs) {k : Nat} (hk : k < n) : ∃ x, xs[k]? = some x ∧ U64 x ∧ ∃ b o, sl = some ⟨b, o, none⟩ ∧ w.cell? ⟨b, o + k, none⟩ = some (.int .u64 x) := by
  have hl : k < xs.length := by rw [h.1]; exact hk
  exact ⟨xs[k], List.getElem?_eq_getElem hl, h.2.2.2.2 k _ (List.getElem?_eq_getElem hl)⟩
theorem RS.get (h : RS w sl n c ys) {k : Nat} (hk : k < n) : ∃ p x, ys[k]? = some (p, x) ∧ I64 p ∧ U64 x ∧ ∃ b o, sl = some ⟨b, o, none⟩ ∧ w.cell? ⟨b, o + k * 2, none⟩ = some (.int .i64 p) ∧ w.cell? ⟨b, o + k * 2 + 1, none⟩ = some (.int .u64 x) := by
  have hl : k < ys.length := by rw [h.1]; exact hk
  obtain ⟨h1, h2, b, o, hs, hc, hd⟩ := h.2.2.2.2 k _ (List.getElem?_eq_getElem hl)
  exact ⟨ys[k].1, ys[k].2, List.getElem?_eq_getElem hl, h1, h2, b, o, hs, hc, hd⟩
theorem WS.u64 (h : WS w sl n c xs) : ∀ x ∈ xs, U64 x := fun x hx => by
  obtain ⟨j, hj⟩ := List.mem_iff_getElem?.1 hx; exact (h.2.2.2.2 j x hj).1
theorem RS.range (h : RS w sl n c ys) : ∀ y ∈ ys, I64 y.1 ∧ U64 y.2 := fun y hy => by
  obtain ⟨j, hj⟩ := List.mem_iff_getElem?.1 hy; exact ⟨(h.2.2.2.2 j y hj).1, (h.2.2.2.2 j y hj).2.1⟩
/-- The empty slice. -/
theorem WS.empty (w : World) (sl : Option Addr) (c : Nat) (hc : c ≤ 9223372036854775807) : WS w sl 0 c [] := ⟨rfl, by omega, by omega, hc, fun j x h => by simp at h⟩
theorem RS.empty (w : World) (sl : Option Addr) (c : Nat) (hc : c ≤ 9223372036854775807) : RS w sl 0 c [] := ⟨rfl, by omega, by omega, hc, fun j x h => by simp at h⟩
end

/-- A write's cells, one after the other. -/
def flat : List Wr → List Value
  | [] => []
  | y :: r => .int .i64 y.1 :: .int .u64 y.2 :: flat r
theorem flat_len : ∀ L : List Wr, (flat L).length = L.length * 2
  | [] => rfl
  | _ :: r => by simp [flat, flat_len r]; omega
theorem flat_append : ∀ L M : List Wr, flat (L ++ M) = flat L ++ flat M
  | [], _ => rfl
  | y :: r, M => by simp [flat, flat_append r M]
theorem flat_0 : ∀ (L : List Wr) (k : Nat), (flat L)[k * 2]? = L[k]?.map fun y => .int .i64 y.1
  | [], k => by simp [flat]
  | x :: r, 0 => by simp [flat]
  | x :: r, k + 1 => by
    have e : (k + 1) * 2 = k * 2 + 1 + 1 := by omega
    rw [e]; simp [flat, flat_0 r k]
theorem flat_1 : ∀ (L : List Wr) (k : Nat), (flat L)[k * 2 + 1]? = L[k]?.map fun y => .int .u64 y.2
  | [], k => by simp [flat]
  | x :: r, 0 => by simp [flat]
  | x :: r, k + 1 => by
    have e : (k + 1) * 2 + 1 = k * 2 + 1 + 1 + 1 := by omega
    rw [e]; simp [flat, flat_1 r k]
theorem flat_one (L : List Wr) : ∀ u ∈ flat L, u.oneCell' = true := by
  induction L with
  | nil => intro u hu; cases hu
  | cons x r ih =>
    intro u hu
    simp only [flat, List.mem_cons] at hu
    rcases hu with rfl | rfl | hu
    · rfl
    · rfl
    · exact ih u hu

theorem add_is (b o j : Nat) : (⟨b, o, none⟩ : Addr).add j = ⟨b, o + j, none⟩ := by unfold Addr.add; split <;> simp_all

/-- What lies in a row of one's own is read. -/
theorem rs_of_own {w : World} {base n c : Nat} {v : Option Addr} {ys : List Wr} (h : w.ownsRow base 48 2 (.slice v n c) n (flat ys)) (hn : ys.length = n) (hle : n ≤ 1048576) (hr : ∀ y ∈ ys, I64 y.1 ∧ U64 y.2) : RS w v n c ys := by
  rcases h.2 with ⟨e, hz⟩ | ⟨g, cap, cur, e, _, hb, hnc, hcm, _, ht⟩
  · cases e
    have : ys = [] := List.eq_nil_of_length_eq_zero hn
    subst this
    exact RS.empty _ _ _ (by omega)
  · cases e
    refine ⟨hn, hle, hnc, by have := hcm; simp [maxLen] at this; omega, fun j y hj => ?_⟩
    have hjl : j < ys.length := (List.getElem?_eq_some_iff.1 hj).1
    have get : ∀ i, i < n * 2 → cur[i]? = (flat ys)[i]? := fun i hi => by
      rw [← ht, List.getElem?_take, if_pos hi]; simp
    obtain ⟨h1, h2⟩ := hr y (List.mem_of_getElem? hj)
    refine ⟨h1, h2, g, 0, rfl, ?_, ?_⟩
    · simp only [World.cell?, hb]
      have := get (j * 2) (by omega)
      rw [flat_0, hj] at this
      simpa using this
    · simp only [World.cell?, hb]
      have := get (j * 2 + 1) (by omega)
      rw [flat_1, hj] at this
      simpa using this

/-- The cells of a slice of writes, as append asks for them. -/
theorem RS.news {w : World} {b o n c : Nat} {ys : List Wr} (h : RS w (some ⟨b, o, none⟩) n c ys) : ∀ j u, (flat ys)[j]? = some u → w.cell? ((⟨b, o, none⟩ : Addr).add j) = some u := fun j u hu => by
  rw [add_is]
  obtain ⟨k, hk⟩ : ∃ k, j = k * 2 ∨ j = k * 2 + 1 := ⟨j / 2, by omega⟩
  rcases hk with rfl | rfl
  · rw [flat_0] at hu
    obtain ⟨y, hy, rfl⟩ := Option.map_eq_some_iff.1 hu
    obtain ⟨_, _, b', o', e, hc, _⟩ := h.2.2.2.2 k y hy
    cases e; exact hc
  · rw [flat_1] at hu
    obtain ⟨y, hy, rfl⟩ := Option.map_eq_some_iff.1 hu
    obtain ⟨_, _, b', o', e, _, hc⟩ := h.2.2.2.2 k y hy
    cases e; exact hc

end Go.Proofs.Ytdofplmoiljkjaa
