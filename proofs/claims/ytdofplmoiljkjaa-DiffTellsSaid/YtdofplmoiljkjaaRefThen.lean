/-
  What the document's own Then returns: each place that is written, rising, with its last write. Conditions: the writes are there; at most 2^20 in all.
-/
import Derived.Test.YtdofplmoiljkjaaCut
namespace Go.Proofs.Ytdofplmoiljkjaa
open Go.RowKit (Below intOf)

/-- The write at place i of a list is the last one of its place. -/
def Last (all : List Wr) (i : Nat) (p : Int) : Prop := ∀ (k : Nat) (y : Wr), i < k → all[k]? = some y → y.1 ≠ p
/-- The last ones among the first j, rising. -/
def Part (all : List Wr) (j : Nat) (ys : List Wr) : Prop := ys.Pairwise (fun x y => x.1 < y.1) ∧ ∀ p x, (p, x) ∈ ys ↔ ∃ i, i < j ∧ all[i]? = some (p, x) ∧ Last all i p

theorem part_zero (all : List Wr) : Part all 0 [] := ⟨List.Pairwise.nil, fun p x => by simp⟩
theorem part_skip {all ys : List Wr} {j : Nat} {p x : Int} (h : Part all j ys) (hj : all[j]? = some (p, x)) (hn : ¬ Last all j p) : Part all (j + 1) ys := by
  refine ⟨h.1, fun q z => (h.2 q z).trans ⟨fun ⟨i, hi, h1, h2⟩ => ⟨i, by omega, h1, h2⟩, fun ⟨i, hi, h1, h2⟩ => ?_⟩⟩
  by_cases e : i = j
  · subst e; rw [hj] at h1; cases h1; exact absurd h2 hn
  · exact ⟨i, by omega, h1, h2⟩
theorem part_ne {all ys : List Wr} {j : Nat} {p x : Int} (h : Part all j ys) (hj : all[j]? = some (p, x)) : ∀ y ∈ ys, y.1 ≠ p := fun y hy e => by
  obtain ⟨i, hi, h1, h2⟩ := (h.2 y.1 y.2).1 hy
  exact h2 j (p, x) hi hj (by rw [e])
theorem part_put {all ys : List Wr} {j a : Nat} {p x : Int} (h : Part all j ys) (hj : all[j]? = some (p, x)) (hl : Last all j p) (hlo : ∀ y ∈ ys.take a, y.1 < p) (hhi : ∀ y ∈ ys.drop a, p < y.1) : Part all (j + 1) (ys.take a ++ [(p, x)] ++ ys.drop a) := by
  have h1 := h.1
  rw [← List.take_append_drop a ys, List.pairwise_append] at h1
  refine ⟨?_, fun q z => ?_⟩
  · rw [List.append_assoc, List.pairwise_append]
    refine ⟨h1.1, ?_, fun y hy z hz => ?_⟩
    · rw [List.cons_append, List.nil_append, List.pairwise_cons]
      exact ⟨hhi, h1.2.1⟩
    · rcases List.mem_cons.1 (by simpa using hz) with rfl | hz
      · exact hlo y hy
      · exact h1.2.2 y hy z hz
  · have hm : (q, z) ∈ ys.take a ++ [(p, x)] ++ ys.drop a ↔ (q, z) = (p, x) ∨ (q, z) ∈ ys := by
      conv => rhs; rw [← List.take_append_drop a ys]
      simp only [List.mem_append, List.mem_cons, List.not_mem_nil, or_false]
      constructor
      · rintro ((h | h) | h)
        · exact .inr (.inl h)
        · exact .inl h
        · exact .inr (.inr h)
      · rintro (h | h | h)
        · exact .inl (.inr h)
        · exact .inl (.inl h)
        · exact .inr h
    rw [hm, h.2 q z]
    constructor
    · rintro (e | ⟨i, hi, h1, h2⟩)
      · cases e; exact ⟨j, by omega, hj, hl⟩
      · exact ⟨i, by omega, h1, h2⟩
    · rintro ⟨i, hi, h1, h2⟩
      by_cases e : i = j
      · subst e; rw [hj] at h1; cases h1; exact .inl rfl
      · exact .inr ⟨i, by omega, h1, h2⟩
theorem part_done {all ys : List Wr} {n : Nat} (hn : all.length = n) (h : Part all n ys) : IsThen all ys :=
  ⟨h.1, fun p x => (h.2 p x).trans ⟨fun ⟨i, _, h1, h2⟩ => lastW_iff.2 ⟨i, h1, h2⟩, fun hl => by
    obtain ⟨i, h1, h2⟩ := lastW_iff.1 hl
    exact ⟨i, by rw [← hn]; exact (List.getElem?_eq_some_iff.1 h1).1, h1, h2⟩⟩⟩
/-- All before a place are below, where the one ahead of it is. -/
theorem take_lt {ys : List Wr} (h : ys.Pairwise (fun x y => x.1 < y.1)) {a : Nat} {p : Int} (hp : a = 0 ∨ ∃ q z, ys[a - 1]? = some (q, z) ∧ q < p) : ∀ y ∈ ys.take a, y.1 < p := fun y hy => by
  obtain ⟨i, hi⟩ := List.mem_iff_getElem?.1 hy
  rw [List.getElem?_take] at hi
  split at hi
  · rename_i hia
    rcases hp with rfl | ⟨q, z, hq, hqp⟩
    · omega
    · obtain ⟨l1, e1⟩ := List.getElem?_eq_some_iff.1 hi
      obtain ⟨l2, e2⟩ := List.getElem?_eq_some_iff.1 hq
      by_cases e : i = a - 1
      · subst e; rw [hi] at hq; cases hq; exact hqp
      · have := List.pairwise_iff_getElem.1 h i (a - 1) l1 l2 (by omega)
        rw [e1, e2] at this
        simp only at this; omega
  · cases hi
theorem drop_gt {ys : List Wr} {a : Nat} {p : Int} (h : ∀ (i : Nat) (y : Wr), a ≤ i → ys[i]? = some y → p < y.1) : ∀ y ∈ ys.drop a, p < y.1 := fun y hy => by
  obtain ⟨i, hi⟩ := List.mem_iff_getElem?.1 hy
  rw [List.getElem?_drop] at hi
  exact h (a + i) y (by omega) hi

theorem step_append_writes (w : World) {ops : Array Oper} {o : Oper} {a : Act} {K : Act → World → Prop} {Q : Exit → Act → World → Prop} {E : Prop} (hgd : o.guard = none) (s x : Operand)
    (ho : o.op = .call { callee := .builtin .append, args := #[s, x], argTypes := #[23, 23] }) (base n : Nat) (v : Value) (ys : List Wr) (hs : a.eval s = v) (hown : w.ownsRow base 48 2 v n (flat ys))
    (sl : Option Addr) (m c : Nat) (zs : List Wr) (hx : a.eval x = .slice sl m c) (hS : RS w sl m c zs) (L : Nat) (hL : n + m = L) (hle : L ≤ 4194304) (hbase : base ≤ w.heap.size)
    (h : ∀ sl' c' w', w'.ownsRow base 48 2 (.slice sl' L c') L (flat (ys ++ zs)) → w.grownBy w' v.ownBlock → K (a.put o.dst (.slice sl' L c')) w') :
    if Region.wanted o (yielded ops a.tmps) = true then Oper.wp Try.prog o a w K Q else E := by
  subst hL
  obtain ⟨v', w', hr, ho2, hg⟩ := append_writes hown hS hle hbase o.type
  obtain ⟨sl', c', rfl⟩ := own_form ho2
  exact step_append_run w hgd s x 23 23 ho _ _ hs hx _ _ hr (h sl' c' w' ho2 hg)

end Go.Proofs.Ytdofplmoiljkjaa
