/-
  Memory, as a list of words and links, in a world: what stays when other blocks are laid or written, and what a store makes of it. No condition: definitions, and facts on them.
-/
import Derived.Test.YthegokjhgdneoaaBad
namespace Go.Proofs.Ythegokjhgdneoaa

/-- The cells of block ab, from its start on, are these (word and links). -/
def Row (w : World) (ab : Nat) (L : List (Int × Int)) : Prop :=
  ∀ k x, L[k]? = some x → w.cell? ⟨ab, k * 2, none⟩ = some (.int .u64 x.1) ∧ w.cell? ⟨ab, k * 2 + 1, none⟩ = some (.int .i64 x.2) ∧ w.frozen? ⟨ab, k * 2, none⟩ = false ∧ w.frozen? ⟨ab, k * 2 + 1, none⟩ = false

/-- The variable of block mb is memory of these cells, which lie in block ab. -/
structure Mem (w : World) (mb ab : Nat) (s : Value) (L : List (Int × Int)) : Prop where
  m : w.cell? ⟨mb, 0, none⟩ = some s
  form : (s = .slice none 0 0 ∧ L = []) ∨ ∃ c, s = .slice (some ⟨ab, 0, none⟩) L.length c
  ne : mb ≠ ab
  row : Row w ab L

theorem Row.lt {w : World} {ab : Nat} {L : List (Int × Int)} (h : Row w ab L) {k : Nat} {x : Int × Int} (hk : L[k]? = some x) : ab < w.heap.size := lt_of_cell (h k x hk).1

theorem Row.far {w w' : World} {ab : Nat} {L : List (Int × Int)} {row : Option Nat} (h : Row w ab L) (g : w.grownBy w' row) (hne : some ab ≠ row) : Row w' ab L := fun k x hk => by
  obtain ⟨h1, h2, h3, h4⟩ := h k x hk
  have hl := h.lt hk
  exact ⟨g.cell h1 hne, g.cell h2 hne, (g.frozen_far _ hl hne).trans h3, (g.frozen_far _ hl hne).trans h4⟩

theorem Mem.lt {w : World} {mb ab : Nat} {s : Value} {L : List (Int × Int)} (h : Mem w mb ab s L) : mb < w.heap.size := lt_of_cell h.m

theorem Mem.far {w w' : World} {mb ab : Nat} {s : Value} {L : List (Int × Int)} {row : Option Nat} (h : Mem w mb ab s L) (g : w.grownBy w' row) (h1 : some mb ≠ row) (h2 : some ab ≠ row) : Mem w' mb ab s L :=
  ⟨g.cell h.m h1, h.form, h.ne, h.row.far g h2⟩

theorem grown_refl (w : World) (row : Option Nat) : w.grownBy w row := ⟨rfl, rfl, rfl, Nat.le_refl _, fun _ _ _ => rfl⟩

theorem grown_trans {a b c : World} {row : Option Nat} (h : a.grownBy b row) (k : b.grownBy c row) : a.grownBy c row :=
  ⟨k.os.trans h.os, k.tape.trans h.tape, k.output.trans h.output, Nat.le_trans h.size k.size, fun i hi hr => (k.block i (Nat.lt_of_lt_of_le hi h.size) hr).trans (h.block i hi hr)⟩

theorem grown_wide {a b : World} {row : Option Nat} (h : a.grownBy b none) : a.grownBy b row :=
  ⟨h.os, h.tape, h.output, h.size, fun i hi _ => h.block i hi (by simp)⟩

theorem grown_drewN (w : World) (n : Nat) (row : Option Nat) : w.grownBy (w.drewN n) row := ⟨rfl, rfl, rfl, Nat.le_refl _, fun _ _ _ => rfl⟩

/-- A store into block b. -/
theorem grown_set (w : World) (b o : Nat) (v : Value) : w.grownBy (w.setCell ⟨b, o, none⟩ v) (some b) :=
  ⟨rfl, rfl, rfl, by simp, fun k _ hr => RowKit.Below.heap_setCell _ _ _ _ (fun e => hr (by rw [e]))⟩

/-- What is written in new blocks alone has turned nothing old. -/
theorem grown_new {w w1 w2 : World} {row : Option Nat} {b : Nat} (h : w.grownBy w1 row) (g : w1.grownBy w2 (some b)) (hb : w.heap.size ≤ b) : w.grownBy w2 row :=
  ⟨g.os.trans h.os, g.tape.trans h.tape, g.output.trans h.output, Nat.le_trans h.size g.size, fun i hi hr => (g.block i (Nat.lt_of_lt_of_le hi h.size) (by simp; omega)).trans (h.block i hi hr)⟩

theorem frozen_set (w : World) (a b : Addr) (v : Value) : (w.setCell a v).frozen? b = w.frozen? b := by simp

/-- One cell's word and links are stored. -/
theorem Row.put2 {w : World} {ab : Nat} {L : List (Int × Int)} (h : Row w ab L) {i : Nat} {x : Int × Int} (hi : L[i]? = some x) (z l : Int) :
    Row ((w.setCell ⟨ab, i * 2, none⟩ (.int .u64 z)).setCell ⟨ab, i * 2 + 1, none⟩ (.int .i64 l)) ab (L.set i (z, l)) := fun k y hk => by
  obtain ⟨g1, g2, g3, g4⟩ := h i x hi
  have hil : i < L.length := (List.getElem?_eq_some_iff.1 hi).1
  by_cases e : i = k
  · subst e
    rw [List.getElem?_set_self hil] at hk
    cases hk
    refine ⟨?_, ?_, by simpa using g3, by simpa using g4⟩
    · rw [World.cell?_setCell_other _ _ _ _ (by simp)]
      exact World.cell?_setCell_same _ _ _ g1
    · refine World.cell?_setCell_same _ _ _ (u := .int .i64 x.2) ?_
      rw [World.cell?_setCell_other _ _ _ _ (by simp)]
      exact g2
  · rw [List.getElem?_set_ne e] at hk
    obtain ⟨k1, k2, k3, k4⟩ := h k y hk
    refine ⟨?_, ?_, by simpa using k3, by simpa using k4⟩
    · rw [World.cell?_setCell_other _ _ _ _ (by simp <;> omega), World.cell?_setCell_other _ _ _ _ (by simp <;> omega)]
      exact k1
    · rw [World.cell?_setCell_other _ _ _ _ (by simp <;> omega), World.cell?_setCell_other _ _ _ _ (by simp <;> omega)]
      exact k2

/-- One cell's links are stored. -/
theorem Row.putL {w : World} {ab : Nat} {L : List (Int × Int)} (h : Row w ab L) {i : Nat} {x : Int × Int} (hi : L[i]? = some x) (l : Int) :
    Row (w.setCell ⟨ab, i * 2 + 1, none⟩ (.int .i64 l)) ab (L.set i (x.1, l)) := fun k y hk => by
  obtain ⟨g1, g2, g3, g4⟩ := h i x hi
  have hil : i < L.length := (List.getElem?_eq_some_iff.1 hi).1
  by_cases e : i = k
  · subst e
    rw [List.getElem?_set_self hil] at hk
    cases hk
    refine ⟨?_, World.cell?_setCell_same _ _ _ g2, by simpa using g3, by simpa using g4⟩
    rw [World.cell?_setCell_other _ _ _ _ (by simp)]
    exact g1
  · rw [List.getElem?_set_ne e] at hk
    obtain ⟨k1, k2, k3, k4⟩ := h k y hk
    refine ⟨?_, ?_, by simpa using k3, by simpa using k4⟩
    · rw [World.cell?_setCell_other _ _ _ _ (by simp <;> omega)]
      exact k1
    · rw [World.cell?_setCell_other _ _ _ _ (by simp <;> omega)]
      exact k2

/-- The cells that New makes. -/
theorem row_made (w : World) (n : Nat) : Row (w.alloc (.cells (cells0 n) 53)) w.heap.size (List.replicate n (0, 0)) := fun k x hk => by
  rw [List.getElem?_replicate] at hk
  split at hk
  · rename_i hlt
    cases hk
    have e0 : (cells0 n)[k * 2]? = some (.int .u64 0) := by
      unfold cells0 madeCells
      rw [Array.getElem?_map, Array.getElem?_range]
      rw [if_pos (by omega)]
      simp
    have e1 : (cells0 n)[k * 2 + 1]? = some (.int .i64 0) := by
      unfold cells0 madeCells
      rw [Array.getElem?_map, Array.getElem?_range]
      rw [if_pos (by omega)]
      have : (k * 2 + 1) % 2 = 1 := by omega
      simp [this]
    have hb : (w.alloc (.cells (cells0 n) 53)).heap[w.heap.size]? = some (.cells (cells0 n) 53 (0, 0)) := heap_alloc_new w _
    refine ⟨?_, ?_, ?_, ?_⟩
    · simp only [World.cell?, hb]
      simpa using e0
    · simp only [World.cell?, hb]
      simpa using e1
    · simp only [World.frozen?, hb]
      simp
    · simp only [World.frozen?, hb]
      simp
  · cases hk

end Go.Proofs.Ythegokjhgdneoaa
