/-
  Words, numbers, and what stays of a world; and which numbers are a call's, an answer's, a head's. No condition: definitions, and facts on them.
-/
import Derived.Test.YtknafhomikmiiaaRows
import Derived.WalkKit
import Derived.ProofKit
import Derived.Lib.Hide
import Derived.Below
import Derived.IntWalk
import Derived.Laws.StructEq
import Derived.DeepKeys
import Derived.Deep.QuietTactic
import Derived.BigQuiet
namespace Go.Proofs.Ytknafhomikmiiaa
open Go.RowKit (Below intOf)

def I64 (x : Int) : Prop := -9223372036854775808 ≤ x ∧ x < 9223372036854775808
def U64 (x : Int) : Prop := 0 ≤ x ∧ x < 18446744073709551616

/-- Nothing that lay has turned; new blocks may lie. -/
def Ext (w w' : World) : Prop := Below w.heap.size w w'

theorem Ext.refl (w : World) : Ext w w := Below.refl _ w
theorem Ext.trans {a b c : World} (h : Ext a b) (k : Ext b c) : Ext a c := Below.trans h (Below.mono k h.size)
theorem Ext.alloc {a w : World} (h : Ext a w) (o : Obj) : Ext a (w.alloc o) := Below.alloc h h.size o
theorem Ext.drewN {a w : World} (h : Ext a w) (n : Nat) : Ext a (w.drewN n) := ⟨h.os, h.tape, h.output, h.size, h.block⟩
theorem Ext.drew {a w : World} (h : Ext a w) : Ext a w.drew := ⟨h.os, h.tape, h.output, h.size, h.block⟩
theorem Ext.setCell {a w : World} (h : Ext a w) {b o : Nat} (hb : a.heap.size ≤ b) (v : Value) : Ext a (w.setCell ⟨b, o, none⟩ v) := Below.setCell (p := ⟨b, o, none⟩) h hb v
theorem Ext.size {a w : World} (h : Ext a w) : a.heap.size ≤ w.heap.size := Below.size h
theorem Ext.cell {w w' : World} {b o : Nat} {v : Value} (h : Ext w w') (hc : w.cell? ⟨b, o, none⟩ = some v) : w'.cell? ⟨b, o, none⟩ = some v :=
  (Below.cell (p := ⟨b, o, none⟩) h (World.block_lt_of_cell? w _ hc)).trans hc
theorem Ext.new (w : World) (o : Obj) : Ext w (w.alloc o) := (Ext.refl w).alloc o
theorem Ext.draws (w : World) (n : Nat) : Ext w (w.drewN n) := (Ext.refl w).drewN n

/-- n is from a to b. -/
def wi (n a b : Int) : Bool := decide (a ≤ n) && decide (n ≤ b)
theorem wi_yes {n a b : Int} (h : a ≤ n) (k : n ≤ b) : wi n a b = true := by simp [wi, h, k]
theorem wi_no {n a b : Int} (h : n < a ∨ b < n) : wi n a b = false := by
  unfold wi
  rcases h with h | h
  · have : ¬ a ≤ n := by omega
    simp [this]
  · have : ¬ n ≤ b := by omega
    simp [this]

/-- x where there is something, else 0; no error where there is something, else e. -/
def gate (b : Bool) (x : Int) : Int := if b = true then x else 0
def fail (b : Bool) (e : Int) : Int := if b = true then 0 else e
theorem gate_yes (x : Int) : gate true x = x := rfl
theorem gate_no (x : Int) : gate false x = 0 := rfl
theorem fail_yes (x : Int) : fail true x = 0 := rfl
theorem fail_no (x : Int) : fail false x = x := rfl

/-- Which head there is. -/
def okH (ph p : Int) : Bool := if ph = 0 then decide (p = 0) else wi ph 0 2 && wi p 0 15
/-- A head's phase, and its process. -/
def phaseOf (x : Int) : Int := if x = 0 then 0 else 1 + (x - 1) % 2
def procOf (x : Int) : Int := if x = 0 then 0 else (x - 1) / 2

end Go.Proofs.Ytknafhomikmiiaa
