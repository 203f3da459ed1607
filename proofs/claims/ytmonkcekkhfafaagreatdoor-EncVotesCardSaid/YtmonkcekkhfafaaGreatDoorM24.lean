/-
  Parts of a proof, one behind the other: TrpPlain, TrpSpec, TrpMem, TrpLeaf, TrpTree, TrpFirst, TrpHang, TrpRef, TrpBuild. Each says its own conditions.
-/
import Derived.Test.YtmonkcekkhfafaaGreatDoorM05
import Derived.Lib.Hide
import Derived.Test.YtmonkcekkhfafaaGreatDoorRows
import Derived.WalkKit
import Derived.ProofKit
import Derived.Below
import Derived.IntWalk
import Derived.Deep.QuietTactic
import Derived.BigQuiet
import Derived.Deep.AppendLies
import Derived.Maps.AppendAt
import Derived.Deep.Draws
import Derived.OwnWalk
import Derived.RangeFuncRecord
import Derived.Laws.CopyOwn
import Derived.Laws.MakeOwn
import Derived.Laws.OwnMore
import Derived.Lib.AppendZeros
import Derived.Deep.RegionHeld3
import Derived.Laws.StructEq
import Derived.DeepKeys

/- TrpPlain:
  Trees of keys, by their mixed words: what they are, that there is one alone, the way to a key, their parts, and one key more. No condition: definitions, and facts on lists of integers.
-/
namespace Go.Proofs.YtmonkcekkhfafaaGreatDoor.Trp

abbrev Pr := Int × Int

/-- No two go at once. -/
def Apart (l : List Int) : Prop := l.Pairwise fun a b => mixed a ≠ mixed b
/-- Which one goes before all others: its place, from 0 on. -/
def top : List Int → Nat
  | [] => 0
  | [_] => 0
  | x :: y :: r => if mixed x < mixed ((y :: r).getD (top (y :: r)) 0) then top (y :: r) + 1 else 0

/-- t is the place of what goes before all others, the first such. -/
def IsTop (l : List Int) (t : Nat) : Prop := ∃ m, l[t]? = some m ∧ (∀ (j : Nat) x, l[j]? = some x → mixed x ≤ mixed m) ∧ ∀ (j : Nat) x, j < t → l[j]? = some x → mixed x < mixed m

theorem top_is : ∀ l : List Int, l ≠ [] → IsTop l (top l)
  | [], h => absurd rfl h
  | [x], _ => ⟨x, rfl, fun j y hj => by
      match j, hj with
      | 0, hj => simp at hj; subst hj; exact Int.le_refl _
      | j + 1, hj => simp at hj, fun j y hj => absurd hj (Nat.not_lt_zero _)⟩
  | x :: y :: r, _ => by
    obtain ⟨m, h1, h2, h3⟩ := top_is (y :: r) (by simp)
    have hg : (y :: r).getD (top (y :: r)) 0 = m := by rw [List.getD_eq_getElem?_getD, h1]; rfl
    unfold top
    rw [hg]
    split
    · rename_i hlt
      refine ⟨m, by simpa using h1, fun j z hj => ?_, fun j z hjt hj => ?_⟩
      · match j, hj with
        | 0, hj => simp at hj; subst hj; omega
        | j + 1, hj => exact h2 j z (by simpa using hj)
      · match j, hj with
        | 0, hj => simp at hj; subst hj; exact hlt
        | j + 1, hj => exact h3 j z (by omega) (by simpa using hj)
    · rename_i hlt
      refine ⟨x, rfl, fun j z hj => ?_, fun j z hj => absurd hj (Nat.not_lt_zero _)⟩
      match j, hj with
      | 0, hj => simp at hj; subst hj; exact Int.le_refl _
      | j + 1, hj => have := h2 j z (by simpa using hj); omega

theorem IsTop.lt {l : List Int} {t : Nat} (h : IsTop l t) : t < l.length := by
  obtain ⟨m, h1, _⟩ := h; exact (List.getElem?_eq_some_iff.1 h1).1
theorem IsTop.one {l : List Int} {s t : Nat} (h : IsTop l s) (g : IsTop l t) : s = t := by
  obtain ⟨m, h1, h2, h3⟩ := h
  obtain ⟨k, g1, g2, g3⟩ := g
  rcases Nat.lt_trichotomy s t with c | c | c
  · have := g3 s m c h1; have := h2 t k g1; omega
  · exact c
  · have := h3 t k c g1; have := g2 s m h1; omega
theorem top_eq {l : List Int} {t : Nat} (h : IsTop l t) : top l = t := by
  have hne : l ≠ [] := by intro e; subst e; have := h.lt; simp at this
  exact (top_is l hne).one h
theorem top_lt {l : List Int} (h : l ≠ []) : top l < l.length := (top_is l h).lt

theorem Apart.take {l : List Int} (h : Apart l) (n : Nat) : Apart (l.take n) := List.Pairwise.sublist (List.take_sublist n l) h
theorem Apart.drop {l : List Int} (h : Apart l) (n : Nat) : Apart (l.drop n) := List.Pairwise.sublist (List.drop_sublist n l) h
/-- The tree of keys whose numbers begin behind off: its top, and, key by key, its links. -/
def tree (l : List Int) (off : Nat) : Int × List Pr :=
  if _h : l = [] then (0, [])
  else
    let a := tree (l.take (top l)) off
    let b := tree (l.drop (top l + 1)) (off + top l + 1)
    (((off + top l + 1 : Nat) : Int), a.2 ++ (a.1, b.1) :: b.2)
termination_by l.length
decreasing_by
  · have := top_lt (l := l) (by assumption); simp; omega
  · have := top_lt (l := l) (by assumption); simp; omega

theorem tree_nil (off : Nat) : tree [] off = (0, []) := by unfold tree; simp
theorem tree_some {l : List Int} (h : l ≠ []) (off : Nat) : tree l off = (((off + top l + 1 : Nat) : Int), (tree (l.take (top l)) off).2 ++ ((tree (l.take (top l)) off).1, (tree (l.drop (top l + 1)) (off + top l + 1)).1) :: (tree (l.drop (top l + 1)) (off + top l + 1)).2) := by
  rw [tree]; simp [h]
theorem tree_at {l : List Int} {t : Nat} (h : IsTop l t) (off : Nat) : tree l off = (((off + t + 1 : Nat) : Int), (tree (l.take t) off).2 ++ ((tree (l.take t) off).1, (tree (l.drop (t + 1)) (off + t + 1)).1) :: (tree (l.drop (t + 1)) (off + t + 1)).2) := by
  have hne : l ≠ [] := by intro e; subst e; have := h.lt; simp at this
  rw [tree_some hne, top_eq h]

theorem tree_len : ∀ (n : Nat) (l : List Int) (off : Nat), l.length = n → (tree l off).2.length = n := by
  intro n
  induction n using Nat.strongRecOn with
  | ind n ih =>
    intro l off hl
    by_cases h : l = []
    · subst h; rw [tree_nil]; exact hl
    · have ht := top_lt h
      rw [tree_some h]
      simp only [List.length_append, List.length_cons]
      rw [ih (l.take (top l)).length (by simp; omega) _ _ rfl, ih (l.drop (top l + 1)).length (by simp; omega) _ _ rfl]
      simp; omega
theorem tree_root (l : List Int) (off : Nat) : (l = [] ∧ (tree l off).1 = 0) ∨ (l ≠ [] ∧ (tree l off).1 = ((off + top l + 1 : Nat) : Int)) := by
  by_cases h : l = []
  · exact .inl ⟨h, by rw [h, tree_nil]⟩
  · exact .inr ⟨h, by rw [tree_some h]⟩
theorem tree_root_bd (l : List Int) (off : Nat) : 0 ≤ (tree l off).1 ∧ (tree l off).1 ≤ off + l.length := by
  rcases tree_root l off with ⟨_, e⟩ | ⟨h, e⟩
  · rw [e]; omega
  · have := top_lt h; rw [e]; omega
theorem tree_bd : ∀ (n : Nat) (l : List Int) (off : Nat), l.length = n → ∀ x ∈ (tree l off).2, (0 ≤ x.1 ∧ x.1 ≤ off + l.length) ∧ (0 ≤ x.2 ∧ x.2 ≤ off + l.length) := by
  intro n
  induction n using Nat.strongRecOn with
  | ind n ih =>
    intro l off hl x hx
    by_cases h : l = []
    · subst h; rw [tree_nil] at hx; cases hx
    · have ht := top_lt h
      rw [tree_some h] at hx
      simp only [List.mem_append, List.mem_cons] at hx
      have r1 := tree_root_bd (l.take (top l)) off
      have r2 := tree_root_bd (l.drop (top l + 1)) (off + top l + 1)
      have e1 : (l.take (top l)).length = top l := by simp; omega
      have e2 : (l.drop (top l + 1)).length = l.length - (top l + 1) := by simp
      rcases hx with hx | rfl | hx
      · have := ih (l.take (top l)).length (by omega) _ _ rfl x hx
        omega
      · simp only; omega
      · have := ih (l.drop (top l + 1)).length (by omega) _ _ rfl x hx
        omega

/-- What stands behind d others more. -/
def sh (d : Nat) (x : Int) : Int := if x = 0 then 0 else x + d
def sh2 (d : Nat) (x : Pr) : Pr := (sh d x.1, sh d x.2)
/-! One step of 'good'. -/

/-- The child that a link names does not go before p. -/
def Under (p : Int) (l : List Int) : Prop := ∀ m, l[top l]? = some m → l ≠ [] → mixed m ≤ mixed p
/-! The way to a key. -/

def path (l : List Int) (off : Nat) (q : Int) : List Int :=
  if _h : l = [] then []
  else ((off + top l + 1 : Nat) : Int) ::
    (if q < l.getD (top l) 0 then path (l.take (top l)) off q
     else if l.getD (top l) 0 < q then path (l.drop (top l + 1)) (off + top l + 1) q
     else [])
termination_by l.length
decreasing_by
  · have := top_lt (l := l) (by assumption); simp; omega
  · have := top_lt (l := l) (by assumption); simp; omega

/-- A way over links: what is met from at on, till key is met, or 0. -/
def Way (l : List Int) (L : List Pr) (q : Int) : Int → List Int → Prop
  | at', [] => at' = 0
  | at', x :: xs => at' = x ∧ ∃ (i : Nat) (k : Int) (y : Pr), x = ((i + 1 : Nat) : Int) ∧ l[i]? = some k ∧ L[i]? = some y ∧ (q < k → Way l L q y.1 xs) ∧ (k < q → Way l L q y.2 xs) ∧ (k = q → xs = [])

/-- Where a key is met, it is met at the last. -/
def Rising (l : List Int) : Prop := l.Pairwise fun a b => a < b
theorem Rising.lt {l : List Int} (h : Rising l) {i j : Nat} {x y : Int} (hi : l[i]? = some x) (hj : l[j]? = some y) (hij : i < j) : x < y := by
  obtain ⟨hil, rfl⟩ := List.getElem?_eq_some_iff.1 hi
  obtain ⟨hjl, rfl⟩ := List.getElem?_eq_some_iff.1 hj
  exact List.pairwise_iff_getElem.1 h i j hil hjl hij
theorem Rising.take {l : List Int} (h : Rising l) (n : Nat) : Rising (l.take n) := List.Pairwise.sublist (List.take_sublist n l) h
theorem Rising.drop {l : List Int} (h : Rising l) (n : Nat) : Rising (l.drop n) := List.Pairwise.sublist (List.drop_sublist n l) h

/-! One key more. -/

/-- The numbers behind the place of the one more are one more. -/
def sk (k : Nat) (x : Int) : Int := if (k : Int) < x then x + 1 else x

/-- Up to j the way to q of the one is that of the other; there q hangs. -/
def Meets (s : List Int) (off k : Nat) (q : Int) (j : Nat) (p b : List Int) : Prop :=
  j ≤ p.length ∧ (∀ (i : Nat) x, i < j → p[i]? = some x → (∃ (z : Nat) (m : Int), x = ((off + z + 1 : Nat) : Int) ∧ s[z]? = some m ∧ mixed q < mixed m) ∧ b[i]? = some (sk (off + k) x)) ∧
  (∀ x, p[j]? = some x → ∃ (z : Nat) (m : Int), x = ((off + z + 1 : Nat) : Int) ∧ s[z]? = some m ∧ ¬ mixed q < mixed m) ∧
  b.length = j + 1 ∧ b[j]? = some ((off + k + 1 : Nat) : Int)

end Go.Proofs.YtmonkcekkhfafaaGreatDoor.Trp

/- TrpSpec:
  What each call of package treap is to answer, over lists of keys, and how answers hang together. No condition but those that each theorem says.
-/
namespace Go.Proofs.YtmonkcekkhfafaaGreatDoor.Trp

def I64 (x : Int) : Prop := -9223372036854775808 ≤ x ∧ x < 9223372036854775808
def U64 (x : Int) : Prop := 0 ≤ x ∧ x < 18446744073709551616
def Ip (r : Pr) : Prop := I64 r.1 ∧ I64 r.2

instance (l : List Int) : Decidable (Rising l) := inferInstanceAs (Decidable (l.Pairwise fun a b => a < b))

def buildS (l : List Int) : Int × List Pr × Int :=
  if 256 < l.length then (0, [], 4) else if Rising l then ((tree l 0).1, (tree l 0).2, 0) else (0, [], 1)
def rightS (l : List Int) (r : Int) (L : List Pr) : Bool := decide (buildS l = (r, L, 0))
/-- The number of the first one that is so, 0 where there is none. -/
def num (f : Int → Bool) : List Int → Nat
  | [] => 0
  | x :: r => if f x then 1 else if num f r = 0 then 0 else num f r + 1
def findS (l : List Int) (r : Int) (L : List Pr) (q : Int) : Int × Bool := if rightS l r L then ((num (fun x => x == q) l : Nat), decide (num (fun x => x == q) l ≠ 0)) else (0, false)
def nextS (l : List Int) (r : Int) (L : List Pr) (q : Int) : Int × Bool := if rightS l r L then ((num (fun x => decide (q ≤ x)) l : Nat), decide (num (fun x => decide (q ≤ x)) l ≠ 0)) else (0, false)
def pathS (l : List Int) (r : Int) (L : List Pr) (q : Int) : List Int := if rightS l r L then path l 0 q else []

theorem rising_of {l : List Int} (h : ∀ (i : Nat) x y, l[i]? = some x → l[i + 1]? = some y → x < y) : Rising l := by
  have key : ∀ (d i : Nat) x y, l[i]? = some x → l[i + d + 1]? = some y → x < y := by
    intro d
    induction d with
    | zero => exact fun i x y hx hy => h i x y hx hy
    | succ d ih =>
      intro i x y hx hy
      have hl := (List.getElem?_eq_some_iff.1 hy).1
      have hm : l[i + d + 1]? = some (l[i + d + 1]'(by omega)) := List.getElem?_eq_getElem (by omega)
      have h1 := ih i x _ hx hm
      have h2 := h (i + d + 1) _ y hm hy
      omega
  refine List.pairwise_iff_getElem.2 fun i j hi hj hij => ?_
  exact key (j - i - 1) i _ _ (List.getElem?_eq_getElem hi) (by rw [show i + (j - i - 1) + 1 = j by omega]; exact List.getElem?_eq_getElem hj)
theorem not_rising {l : List Int} {i : Nat} {x y : Int} (hx : l[i]? = some x) (hy : l[i + 1]? = some y) (h : y ≤ x) : ¬ Rising l := fun hr => by
  have := hr.lt hx hy (by omega); omega
theorem build_long {l : List Int} (h : 256 < l.length) : buildS l = (0, [], 4) := by unfold buildS; rw [if_pos h]
theorem build_bad {l : List Int} (h : ¬ 256 < l.length) (hr : ¬ Rising l) : buildS l = (0, [], 1) := by unfold buildS; rw [if_neg h, if_neg hr]
theorem build_ok {l : List Int} (h : ¬ 256 < l.length) (hr : Rising l) : buildS l = ((tree l 0).1, (tree l 0).2, 0) := by unfold buildS; rw [if_neg h, if_pos hr]
end Go.Proofs.YtmonkcekkhfafaaGreatDoor.Trp

/- TrpMem:
  Slices of words, of ints and of pairs of ints, as lists of integers, in a world, what stays of them, cuts of them and appends onto rows of one's own. No condition: definitions, and facts on them.
-/
namespace Go.Proofs.YtmonkcekkhfafaaGreatDoor.Trp
open Go.RowKit (Below intOf)

/-- Nothing that lay has turned; new blocks may lie. -/
def Ext (w w' : World) : Prop := Below w.heap.size w w'

theorem Ext.refl (w : World) : Ext w w := Below.refl _ w
theorem Ext.trans {a b c : World} (h : Ext a b) (k : Ext b c) : Ext a c := Below.trans h (Below.mono k h.size)
theorem Ext.alloc {a w : World} (h : Ext a w) (o : Obj) : Ext a (w.alloc o) := Below.alloc h h.size o
theorem Ext.drewN {a w : World} (h : Ext a w) (n : Nat) : Ext a (w.drewN n) := ⟨h.os, h.tape, h.output, h.size, h.block⟩
theorem Ext.drew {a w : World} (h : Ext a w) : Ext a w.drew := ⟨h.os, h.tape, h.output, h.size, h.block⟩
theorem Ext.setCell {a w : World} (h : Ext a w) {b o : Nat} (hb : a.heap.size ≤ b) (v : Value) : Ext a (w.setCell ⟨b, o, none⟩ v) := Below.setCell (p := ⟨b, o, none⟩) h hb v
theorem Ext.grown {a w w' : World} (h : Ext a w) {row : Option Nat} (g : w.grownBy w' row) (hr : ∀ k, row = some k → a.heap.size ≤ k) : Ext a w' := Below.grown h g h.size hr
theorem Ext.size {a w : World} (h : Ext a w) : a.heap.size ≤ w.heap.size := Below.size h
theorem Ext.cell {w w' : World} {b o : Nat} {v : Value} (h : Ext w w') (hc : w.cell? ⟨b, o, none⟩ = some v) : w'.cell? ⟨b, o, none⟩ = some v :=
  (Below.cell (p := ⟨b, o, none⟩) h (World.block_lt_of_cell? w _ hc)).trans hc
theorem Ext.frozen {w w' : World} {b o : Nat} {v : Value} (h : Ext w w') (hc : w.cell? ⟨b, o, none⟩ = some v) : w'.frozen? ⟨b, o, none⟩ = w.frozen? ⟨b, o, none⟩ :=
  Below.frozen (p := ⟨b, o, none⟩) h (World.block_lt_of_cell? w _ hc)
theorem Ext.new (w : World) (o : Obj) : Ext w (w.alloc o) := (Ext.refl w).alloc o
theorem Ext.draws (w : World) (n : Nat) : Ext w (w.drewN n) := (Ext.refl w).drewN n
theorem gr_ext {w w' : World} (h : Gr w w') : Ext w w' := by
  obtain ⟨q, os, rfl⟩ := h
  refine ⟨rfl, rfl, rfl, by rw [Sort.size_grow]; exact Nat.le_add_right _ _, fun k hk => ?_⟩
  exact Sort.heap_grow_old (w.drewN q) os hk
theorem tab_ext {w w' : World} (h : Tab w) (e : Ext w w') : Tab w' :=
  ⟨e.cell h.c0, e.cell h.c1, e.cell h.c2, e.cell h.c3, e.cell h.c4, e.cell h.c5, e.cell h.c6, e.cell h.c7, e.cell h.c8⟩

theorem add_is (b o j : Nat) : (⟨b, o, none⟩ : Addr).add j = ⟨b, o + j, none⟩ := by unfold Addr.add; split <;> simp_all
theorem take_snoc {α : Type} {l : List α} {k : Nat} {y : α} (h : l[k]? = some y) : l.take (k + 1) = l.take k ++ [y] := by
  obtain ⟨hl, e⟩ := List.getElem?_eq_some_iff.1 h
  rw [← e]; exact (List.take_append_getElem hl).symm
theorem ret_bool {a b : Bool} (h : a = b) : Ending.returned (.bool a) = .returned (.bool b) := by rw [h]
/-- What lies below is read as before. -/
theorem lay {W w1 : World} (h : Ext W w1) : (∀ b o, b < W.heap.size → w1.cell? ⟨b, o, none⟩ = W.cell? ⟨b, o, none⟩) ∧ (∀ b o, b < W.heap.size → w1.frozen? ⟨b, o, none⟩ = W.frozen? ⟨b, o, none⟩) :=
  ⟨fun b o hb => Below.cell (p := ⟨b, o, none⟩) h hb, fun b o hb => Below.frozen (p := ⟨b, o, none⟩) h hb⟩
/-- Where a cut begins. -/
def cutAt (z : Nat) (sl : Option Addr) (c k : Nat) : Option Addr := if c = k then sl else sl.map (·.add (k * z))

/-! WS: slices of words. -/

/-- The slice of n words that is read from sl on. -/
def WS (w : World) (sl : Option Addr) (n c : Nat) (xs : List Int) : Prop :=
  xs.length = n ∧ n ≤ 1048576 ∧ n ≤ c ∧ c ≤ 9223372036854775807 ∧ ∀ (j : Nat) x, xs[j]? = some x → U64 x ∧ ∃ b o, sl = some ⟨b, o, none⟩ ∧ w.cell? ⟨b, o + j, none⟩ = some (.int .u64 x)
/-- The same, of whatever length. -/
def WSL (w : World) (sl : Option Addr) (n c : Nat) (xs : List Int) : Prop :=
  xs.length = n ∧ n ≤ c ∧ c ≤ 9223372036854775807 ∧ ∀ (j : Nat) x, xs[j]? = some x → U64 x ∧ ∃ b o, sl = some ⟨b, o, none⟩ ∧ w.cell? ⟨b, o + j, none⟩ = some (.int .u64 x)
section
variable {w w' : World} {sl : Option Addr} {n c : Nat} {xs : List Int}
theorem WS.ext (h : WS w sl n c xs) (e : Ext w w') : WS w' sl n c xs :=
  ⟨h.1, h.2.1, h.2.2.1, h.2.2.2.1, fun j x hx => by obtain ⟨hu, b, o, hs, hc0⟩ := h.2.2.2.2 j x hx; exact ⟨hu, b, o, hs, e.cell hc0⟩⟩
theorem WSL.ext (h : WSL w sl n c xs) (e : Ext w w') : WSL w' sl n c xs :=
  ⟨h.1, h.2.1, h.2.2.1, fun j x hx => by obtain ⟨hu, b, o, hs, hc0⟩ := h.2.2.2 j x hx; exact ⟨hu, b, o, hs, e.cell hc0⟩⟩
theorem WS.len (h : WS w sl n c xs) : xs.length = n := h.1
theorem WS.le (h : WS w sl n c xs) : n ≤ 1048576 := h.2.1
theorem WS.lc (h : WS w sl n c xs) : n ≤ c := h.2.2.1
theorem WS.cle (h : WS w sl n c xs) : c ≤ 9223372036854775807 := h.2.2.2.1
theorem WS.get (h : WS w sl n c xs) {k : Nat} (hk : k < n) : ∃ x, xs[k]? = some x ∧ U64 x ∧ ∃ b o, sl = some ⟨b, o, none⟩ ∧ w.cell? ⟨b, o + k, none⟩ = some (.int .u64 x) := by
  have hl : k < xs.length := by rw [h.1]; exact hk
  exact ⟨xs[k], List.getElem?_eq_getElem hl, h.2.2.2.2 k _ (List.getElem?_eq_getElem hl)⟩
theorem WSL.get (h : WSL w sl n c xs) {k : Nat} (hk : k < n) : ∃ x, xs[k]? = some x ∧ U64 x ∧ ∃ b o, sl = some ⟨b, o, none⟩ ∧ w.cell? ⟨b, o + k, none⟩ = some (.int .u64 x) := by
  have hl : k < xs.length := by rw [h.1]; exact hk
  exact ⟨xs[k], List.getElem?_eq_getElem hl, h.2.2.2 k _ (List.getElem?_eq_getElem hl)⟩
theorem WS.empty (w : World) (sl : Option Addr) (c : Nat) (hc : c ≤ 9223372036854775807) : WS w sl 0 c [] := ⟨rfl, by omega, by omega, hc, fun j x h => by simp at h⟩
theorem WS.take (h : WS w sl n c xs) {k : Nat} (hk : k ≤ n) : WS w sl k c (xs.take k) := by
  refine ⟨by rw [List.length_take, h.len]; omega, by have := h.le; omega, by have := h.lc; omega, h.cle, fun j y hy => ?_⟩
  rw [List.getElem?_take] at hy
  split at hy
  · exact h.2.2.2.2 j y hy
  · cases hy
theorem WSL.take (h : WSL w sl n c xs) {k : Nat} (hk : k ≤ n) (hb : k ≤ 1048576) : WS w sl k c (xs.take k) := by
  refine ⟨by rw [List.length_take, h.1]; omega, hb, by have := h.2.1; omega, h.2.2.1, fun j y hy => ?_⟩
  rw [List.getElem?_take] at hy
  split at hy
  · exact h.2.2.2 j y hy
  · cases hy
theorem WS.drop (h : WS w sl n c xs) {k : Nat} (hk : k ≤ n) : WS w (cutAt 1 sl c k) (n - k) (c - k) (xs.drop k) := by
  refine ⟨by rw [List.length_drop, h.len], by have := h.le; omega, by have := h.lc; omega, by have := h.cle; omega, fun j y hy => ?_⟩
  rw [List.getElem?_drop] at hy
  obtain ⟨h1, b, o, rfl, hc0⟩ := h.2.2.2.2 (k + j) y hy
  have hl : k + j < n := by rw [← h.len]; exact (List.getElem?_eq_some_iff.1 hy).1
  refine ⟨h1, b, o + k * 1, ?_, ?_⟩
  · unfold cutAt
    rw [if_neg (by have := h.lc; omega), Option.map_some, add_is]
  · rw [show o + k * 1 + j = o + (k + j) by omega]; exact hc0
end

/-- Their cells, one after the other. -/
def flatWS : List Int → List Value
  | [] => []
  | x :: r => .int .u64 x :: flatWS r
theorem elemWS : Tryz.prog.underlying 27 = some (.slice (Tryz.prog.elem 27)) := by kernel_rfl
theorem elemWS_is : Tryz.prog.elem 27 = 26 := by kernel_rfl
theorem slice_hiWS (sl : Option Addr) (m c i : Nat) (h : i ≤ c) (w : World) : (Instr.sliceAt 27 (.slice sl m c) none (some (.int .i64 (i : Int))) none).run Tryz.prog w = .ok (.slice sl i c) w := by
  rw [run_sliceAt_slice _ _ _ _ _ _ elemWS, run_slice_h _ _ _ _ _ elemWS _ _ (by omega) (by omega), elemWS_is, Tryz.sizeOf26]
  have e : ∀ z, sl.map (fun x => x.add (0 * z)) = sl := by
    intro z
    cases sl with
    | none => rfl
    | some a => obtain ⟨b, o, sp⟩ := a; simp [Addr.add]
  simp only [Result.andThen, sliced, Int.toNat_natCast, e, ite_self, Nat.sub_zero]
theorem slice_loWS (sl : Option Addr) (m c i : Nat) (h : i ≤ m) (w : World) : (Instr.sliceAt 27 (.slice sl m c) (some (.int .i64 (i : Int))) none none).run Tryz.prog w = .ok (.slice (cutAt 1 sl c i) (m - i) (c - i)) w := by
  rw [run_sliceAt_slice _ _ _ _ _ _ elemWS, run_slice_l _ _ _ _ _ elemWS _ _ (by omega) (by omega), elemWS_is, Tryz.sizeOf26]
  simp only [Result.andThen, sliced, Int.toNat_natCast, cutAt]
/-! NS: slices of ints. -/

/-- The slice of n ints that is read from sl on. -/
def NS (w : World) (sl : Option Addr) (n c : Nat) (xs : List Int) : Prop :=
  xs.length = n ∧ n ≤ 1048576 ∧ n ≤ c ∧ c ≤ 9223372036854775807 ∧ ∀ (j : Nat) x, xs[j]? = some x → I64 x ∧ ∃ b o, sl = some ⟨b, o, none⟩ ∧ w.cell? ⟨b, o + j, none⟩ = some (.int .i64 x)
/-- The same, of whatever length. -/
def NSL (w : World) (sl : Option Addr) (n c : Nat) (xs : List Int) : Prop :=
  xs.length = n ∧ n ≤ c ∧ c ≤ 9223372036854775807 ∧ ∀ (j : Nat) x, xs[j]? = some x → I64 x ∧ ∃ b o, sl = some ⟨b, o, none⟩ ∧ w.cell? ⟨b, o + j, none⟩ = some (.int .i64 x)
section
variable {w w' : World} {sl : Option Addr} {n c : Nat} {xs : List Int}
theorem NS.ext (h : NS w sl n c xs) (e : Ext w w') : NS w' sl n c xs :=
  ⟨h.1, h.2.1, h.2.2.1, h.2.2.2.1, fun j x hx => by obtain ⟨hu, b, o, hs, hc0⟩ := h.2.2.2.2 j x hx; exact ⟨hu, b, o, hs, e.cell hc0⟩⟩
theorem NSL.ext (h : NSL w sl n c xs) (e : Ext w w') : NSL w' sl n c xs :=
  ⟨h.1, h.2.1, h.2.2.1, fun j x hx => by obtain ⟨hu, b, o, hs, hc0⟩ := h.2.2.2 j x hx; exact ⟨hu, b, o, hs, e.cell hc0⟩⟩
theorem NS.len (h : NS w sl n c xs) : xs.length = n := h.1
theorem NS.le (h : NS w sl n c xs) : n ≤ 1048576 := h.2.1
theorem NS.lc (h : NS w sl n c xs) : n ≤ c := h.2.2.1
theorem NS.cle (h : NS w sl n c xs) : c ≤ 9223372036854775807 := h.2.2.2.1
theorem NS.get (h : NS w sl n c xs) {k : Nat} (hk : k < n) : ∃ x, xs[k]? = some x ∧ I64 x ∧ ∃ b o, sl = some ⟨b, o, none⟩ ∧ w.cell? ⟨b, o + k, none⟩ = some (.int .i64 x) := by
  have hl : k < xs.length := by rw [h.1]; exact hk
  exact ⟨xs[k], List.getElem?_eq_getElem hl, h.2.2.2.2 k _ (List.getElem?_eq_getElem hl)⟩
theorem NSL.get (h : NSL w sl n c xs) {k : Nat} (hk : k < n) : ∃ x, xs[k]? = some x ∧ I64 x ∧ ∃ b o, sl = some ⟨b, o, none⟩ ∧ w.cell? ⟨b, o + k, none⟩ = some (.int .i64 x) := by
  have hl : k < xs.length := by rw [h.1]; exact hk
  exact ⟨xs[k], List.getElem?_eq_getElem hl, h.2.2.2 k _ (List.getElem?_eq_getElem hl)⟩
theorem NS.empty (w : World) (sl : Option Addr) (c : Nat) (hc : c ≤ 9223372036854775807) : NS w sl 0 c [] := ⟨rfl, by omega, by omega, hc, fun j x h => by simp at h⟩
theorem NS.take (h : NS w sl n c xs) {k : Nat} (hk : k ≤ n) : NS w sl k c (xs.take k) := by
  refine ⟨by rw [List.length_take, h.len]; omega, by have := h.le; omega, by have := h.lc; omega, h.cle, fun j y hy => ?_⟩
  rw [List.getElem?_take] at hy
  split at hy
  · exact h.2.2.2.2 j y hy
  · cases hy
theorem NSL.take (h : NSL w sl n c xs) {k : Nat} (hk : k ≤ n) (hb : k ≤ 1048576) : NS w sl k c (xs.take k) := by
  refine ⟨by rw [List.length_take, h.1]; omega, hb, by have := h.2.1; omega, h.2.2.1, fun j y hy => ?_⟩
  rw [List.getElem?_take] at hy
  split at hy
  · exact h.2.2.2 j y hy
  · cases hy
theorem NS.drop (h : NS w sl n c xs) {k : Nat} (hk : k ≤ n) : NS w (cutAt 1 sl c k) (n - k) (c - k) (xs.drop k) := by
  refine ⟨by rw [List.length_drop, h.len], by have := h.le; omega, by have := h.lc; omega, by have := h.cle; omega, fun j y hy => ?_⟩
  rw [List.getElem?_drop] at hy
  obtain ⟨h1, b, o, rfl, hc0⟩ := h.2.2.2.2 (k + j) y hy
  have hl : k + j < n := by rw [← h.len]; exact (List.getElem?_eq_some_iff.1 hy).1
  refine ⟨h1, b, o + k * 1, ?_, ?_⟩
  · unfold cutAt
    rw [if_neg (by have := h.lc; omega), Option.map_some, add_is]
  · rw [show o + k * 1 + j = o + (k + j) by omega]; exact hc0
end

/-- Their cells, one after the other. -/
def flatNS : List Int → List Value
  | [] => []
  | x :: r => .int .i64 x :: flatNS r
/-! LS: slices of pairs. -/

/-- The slice of n pairs that is read from sl on. -/
def LS (w : World) (sl : Option Addr) (n c : Nat) (xs : List Pr) : Prop :=
  xs.length = n ∧ n ≤ 1048576 ∧ n ≤ c ∧ c ≤ 9223372036854775807 ∧ ∀ (j : Nat) x, xs[j]? = some x → Ip x ∧ ∃ b o, sl = some ⟨b, o, none⟩ ∧ w.cell? ⟨b, o + j * 2, none⟩ = some (.int .i64 x.1) ∧ w.cell? ⟨b, o + j * 2 + 1, none⟩ = some (.int .i64 x.2)
/-- The same, of whatever length. -/
def LSL (w : World) (sl : Option Addr) (n c : Nat) (xs : List Pr) : Prop :=
  xs.length = n ∧ n ≤ c ∧ c ≤ 9223372036854775807 ∧ ∀ (j : Nat) x, xs[j]? = some x → Ip x ∧ ∃ b o, sl = some ⟨b, o, none⟩ ∧ w.cell? ⟨b, o + j * 2, none⟩ = some (.int .i64 x.1) ∧ w.cell? ⟨b, o + j * 2 + 1, none⟩ = some (.int .i64 x.2)
section
variable {w w' : World} {sl : Option Addr} {n c : Nat} {xs : List Pr}
theorem LS.ext (h : LS w sl n c xs) (e : Ext w w') : LS w' sl n c xs :=
  ⟨h.1, h.2.1, h.2.2.1, h.2.2.2.1, fun j x hx => by obtain ⟨hu, b, o, hs, hc0, hc1⟩ := h.2.2.2.2 j x hx; exact ⟨hu, b, o, hs, e.cell hc0, e.cell hc1⟩⟩
theorem LSL.ext (h : LSL w sl n c xs) (e : Ext w w') : LSL w' sl n c xs :=
  ⟨h.1, h.2.1, h.2.2.1, fun j x hx => by obtain ⟨hu, b, o, hs, hc0, hc1⟩ := h.2.2.2 j x hx; exact ⟨hu, b, o, hs, e.cell hc0, e.cell hc1⟩⟩
theorem LS.len (h : LS w sl n c xs) : xs.length = n := h.1
theorem LS.le (h : LS w sl n c xs) : n ≤ 1048576 := h.2.1
theorem LS.lc (h : LS w sl n c xs) : n ≤ c := h.2.2.1
theorem LS.cle (h : LS w sl n c xs) : c ≤ 9223372036854775807 := h.2.2.2.1
theorem LS.get (h : LS w sl n c xs) {k : Nat} (hk : k < n) : ∃ x, xs[k]? = some x ∧ Ip x ∧ ∃ b o, sl = some ⟨b, o, none⟩ ∧ w.cell? ⟨b, o + k * 2, none⟩ = some (.int .i64 x.1) ∧ w.cell? ⟨b, o + k * 2 + 1, none⟩ = some (.int .i64 x.2) := by
  have hl : k < xs.length := by rw [h.1]; exact hk
  exact ⟨xs[k], List.getElem?_eq_getElem hl, h.2.2.2.2 k _ (List.getElem?_eq_getElem hl)⟩
theorem LSL.get (h : LSL w sl n c xs) {k : Nat} (hk : k < n) : ∃ x, xs[k]? = some x ∧ Ip x ∧ ∃ b o, sl = some ⟨b, o, none⟩ ∧ w.cell? ⟨b, o + k * 2, none⟩ = some (.int .i64 x.1) ∧ w.cell? ⟨b, o + k * 2 + 1, none⟩ = some (.int .i64 x.2) := by
  have hl : k < xs.length := by rw [h.1]; exact hk
  exact ⟨xs[k], List.getElem?_eq_getElem hl, h.2.2.2 k _ (List.getElem?_eq_getElem hl)⟩
theorem LS.empty (w : World) (sl : Option Addr) (c : Nat) (hc : c ≤ 9223372036854775807) : LS w sl 0 c [] := ⟨rfl, by omega, by omega, hc, fun j x h => by simp at h⟩
theorem LS.take (h : LS w sl n c xs) {k : Nat} (hk : k ≤ n) : LS w sl k c (xs.take k) := by
  refine ⟨by rw [List.length_take, h.len]; omega, by have := h.le; omega, by have := h.lc; omega, h.cle, fun j y hy => ?_⟩
  rw [List.getElem?_take] at hy
  split at hy
  · exact h.2.2.2.2 j y hy
  · cases hy
theorem LSL.take (h : LSL w sl n c xs) {k : Nat} (hk : k ≤ n) (hb : k ≤ 1048576) : LS w sl k c (xs.take k) := by
  refine ⟨by rw [List.length_take, h.1]; omega, hb, by have := h.2.1; omega, h.2.2.1, fun j y hy => ?_⟩
  rw [List.getElem?_take] at hy
  split at hy
  · exact h.2.2.2 j y hy
  · cases hy
theorem LS.drop (h : LS w sl n c xs) {k : Nat} (hk : k ≤ n) : LS w (cutAt 2 sl c k) (n - k) (c - k) (xs.drop k) := by
  refine ⟨by rw [List.length_drop, h.len], by have := h.le; omega, by have := h.lc; omega, by have := h.cle; omega, fun j y hy => ?_⟩
  rw [List.getElem?_drop] at hy
  obtain ⟨h1, b, o, rfl, hc0, hc1⟩ := h.2.2.2.2 (k + j) y hy
  have hl : k + j < n := by rw [← h.len]; exact (List.getElem?_eq_some_iff.1 hy).1
  refine ⟨h1, b, o + k * 2, ?_, ?_, ?_⟩
  · unfold cutAt
    rw [if_neg (by have := h.lc; omega), Option.map_some, add_is]
  · rw [show o + k * 2 + j * 2 = o + (k + j) * 2 by omega]; exact hc0
  · rw [show o + k * 2 + j * 2 + 1 = o + (k + j) * 2 + 1 by omega]; exact hc1
end

/-- Their cells, one after the other. -/
def flatLS : List Pr → List Value
  | [] => []
  | x :: r => .int .i64 x.1 :: .int .i64 x.2 :: flatLS r
theorem infoLS : (Tryz.prog.info? 59).map (fun i => (i.zero, i.size, i.bytes)) = some (some (.agg #[.int .i64 0, .int .i64 0]), 2, 16) := by kernel_rfl
theorem elemLS : Tryz.prog.underlying 57 = some (.slice (Tryz.prog.elem 57)) := by kernel_rfl
theorem elemLS_is : Tryz.prog.elem 57 = 59 := by kernel_rfl
theorem slice_hiLS (sl : Option Addr) (m c i : Nat) (h : i ≤ c) (w : World) : (Instr.sliceAt 57 (.slice sl m c) none (some (.int .i64 (i : Int))) none).run Tryz.prog w = .ok (.slice sl i c) w := by
  rw [run_sliceAt_slice _ _ _ _ _ _ elemLS, run_slice_h _ _ _ _ _ elemLS _ _ (by omega) (by omega), elemLS_is, Tryz.sizeOf59]
  have e : ∀ z, sl.map (fun x => x.add (0 * z)) = sl := by
    intro z
    cases sl with
    | none => rfl
    | some a => obtain ⟨b, o, sp⟩ := a; simp [Addr.add]
  simp only [Result.andThen, sliced, Int.toNat_natCast, e, ite_self, Nat.sub_zero]
theorem slice_loLS (sl : Option Addr) (m c i : Nat) (h : i ≤ m) (w : World) : (Instr.sliceAt 57 (.slice sl m c) (some (.int .i64 (i : Int))) none none).run Tryz.prog w = .ok (.slice (cutAt 2 sl c i) (m - i) (c - i)) w := by
  rw [run_sliceAt_slice _ _ _ _ _ _ elemLS, run_slice_l _ _ _ _ _ elemLS _ _ (by omega) (by omega), elemLS_is, Tryz.sizeOf59]
  simp only [Result.andThen, sliced, Int.toNat_natCast, cutAt]
end Go.Proofs.YtmonkcekkhfafaaGreatDoor.Trp

/- TrpLeaf:
  When two pairs of ints are the same, and the document's Links: whether two lists of them are. Condition: the slices are there.
-/
namespace Go.Proofs.YtmonkcekkhfafaaGreatDoor.Trp
open Go.RowKit (Below intOf)

end Go.Proofs.YtmonkcekkhfafaaGreatDoor.Trp

/- TrpTree:
  What the document's own tree returns: the tree of the keys from one place to another one. Condition: the keys are there, the places within them.
-/
namespace Go.Proofs.YtmonkcekkhfafaaGreatDoor.Trp
open Go.RowKit (Below intOf)

theorem isTop_one (x : Int) : IsTop [x] 0 := ⟨x, rfl, fun j y hj => by
  match j, hj with
  | 0, hj => simp at hj; subst hj; exact Int.le_refl _
  | j + 1, hj => simp at hj, fun j y hj => absurd hj (Nat.not_lt_zero _)⟩
theorem isTop_new {l : List Int} {t : Nat} {m x : Int} (h : IsTop l t) (hm : l[t]? = some m) (hx : mixed m < mixed x) : IsTop (l ++ [x]) l.length := by
  obtain ⟨m', h1, h2, h3⟩ := h
  rw [hm] at h1; cases h1
  have get : ∀ (j : Nat) y, (l ++ [x])[j]? = some y → (j < l.length ∧ l[j]? = some y) ∨ (j = l.length ∧ y = x) := fun j y hy => by
    by_cases c : j < l.length
    · rw [List.getElem?_append_left c] at hy; exact .inl ⟨c, hy⟩
    · rw [List.getElem?_append_right (by omega)] at hy
      have : j - l.length = 0 := by have := (List.getElem?_eq_some_iff.1 hy).1; simp at this; omega
      rw [this] at hy; simp at hy; exact .inr ⟨by omega, hy.symm⟩
  refine ⟨x, by simp, fun j y hy => ?_, fun j y hj hy => ?_⟩
  · rcases get j y hy with ⟨_, hy⟩ | ⟨_, rfl⟩
    · have := h2 j y hy; omega
    · exact Int.le_refl _
  · rcases get j y hy with ⟨_, hy⟩ | ⟨e, _⟩
    · have := h2 j y hy; omega
    · omega
theorem isTop_old {l : List Int} {t : Nat} {m x : Int} (h : IsTop l t) (hm : l[t]? = some m) (hx : ¬ mixed m < mixed x) : IsTop (l ++ [x]) t := by
  have ht := h.lt
  obtain ⟨m', h1, h2, h3⟩ := h
  rw [hm] at h1; cases h1
  refine ⟨m, by rw [List.getElem?_append_left ht]; exact hm, fun j y hy => ?_, fun j y hj hy => ?_⟩
  · by_cases c : j < l.length
    · rw [List.getElem?_append_left c] at hy; exact h2 j y hy
    · rw [List.getElem?_append_right (by omega)] at hy
      have : j - l.length = 0 := by have := (List.getElem?_eq_some_iff.1 hy).1; simp at this; omega
      rw [this] at hy; simp at hy; subst hy; omega
  · rw [List.getElem?_append_left (by omega)] at hy; exact h3 j y hj hy

/-- The keys from one place to another one. -/
def seg {α : Type} (l : List α) (F T : Nat) : List α := (l.take T).drop F
end Go.Proofs.YtmonkcekkhfafaaGreatDoor.Trp

/- TrpFirst:
  What areRising, first and slices.Equal of pairs return. Conditions: the keys and the links are there; the package's table lies.
-/
namespace Go.Proofs.YtmonkcekkhfafaaGreatDoor.Trp
open Go.RowKit (Below intOf)

set_option maxHeartbeats 4000000 in
set_option maxRecDepth 100000 in
theorem rising_any (s : Option Addr) (n c : Nat) (l : List Int) (w : World) (hW : WS w s n c l) :
    Calls Tryz.prog 95 #[.slice s n c] w fun e w' => e = .returned (.bool (decide (Rising l))) ∧ Ext w w' := by
  have hn := hW.le
  have HW := Lib.hid hW
  clear hW
  go_enter Tryz.func95, Tryz.ntmps95
  go_wp2_with (fail)
  go_loopw [3] (fun iv wr => ∃ (i q : Nat), 1 ≤ i ∧ (i ≤ n ∨ i = 1) ∧ iv = .int .i64 i ∧ wr = w.drewN q ∧ RowKit.Hid (∀ (j : Nat) x y, j + 1 < i → l[j]? = some x → l[j + 1]? = some y → x < y)) (fun i _ => n - (intOf i).toNat)
  case atStart => exact ⟨1, 0, by omega, .inr rfl, rfl, rfl, Lib.hid (fun j x y hj => by omega)⟩
  case round =>
    obtain ⟨i, q, h1, h2, rfl, rfl, hP⟩ := hrel
    by_cases hi : i < n
    · have hin : (i : Int) < n := by omega
      obtain ⟨k, rfl⟩ : ∃ k, i = k + 1 := ⟨i - 1, by omega⟩
      obtain ⟨y, hy, uy, b, o, rfl, cy⟩ := HW.out.get (k := k + 1) hi
      obtain ⟨x, hx, ux, b', o', e, cx⟩ := HW.out.get (k := k) (by omega)
      cases e
      have hw1 : IntKind.i64.wrap ((k : Int) + 1 - 1) = k := by rw [IntWalk.i64_in _ (by omega)]; omega
      have hw2 : IntKind.i64.wrap (k : Int) = k := IntWalk.i64_in _ (by omega)
      have hkn : (k : Int) < n := by omega
      have HX := Lib.hid hx
      have HY := Lib.hid hy
      clear hx hy
      by_cases hb : y ≤ x
      · have hz : RowKit.Hid (decide (Rising l) = false) := Lib.hid (decide_eq_false (not_rising HX.out HY.out hb))
        have hdb : decide (y ≤ x) = true := decide_eq_true hb
        go_wp2_with (fail)
        go_quiet (fail)
        go_wp2_with (fail)
        go_ret
        exact ⟨ret_bool hz.out.symm, (Ext.draws w q).drewN nq⟩
      · have hdb : decide (y ≤ x) = false := decide_eq_false hb
        have hN : RowKit.Hid (∀ (j : Nat) x y, j + 1 < k + 1 + 1 → l[j]? = some x → l[j + 1]? = some y → x < y) := Lib.hid (fun j x' y' hj hx hy => by
          by_cases e : j = k
          · subst e; rw [HX.out] at hx; rw [HY.out] at hy; cases hx; cases hy; omega
          · exact hP.out j x' y' (by omega) hx hy)
        go_wp2_with (fail)
        go_quiet (fail)
        go_wp2_with (fail)
        go_roundw
        case rel => exact ⟨k + 1 + 1, q + nq, by omega, by omega, by go_num, rfl, hN⟩
        case measure => simp [intOf]; omega
    · have hni : ¬ (i : Int) < n := by omega
      have hR : RowKit.Hid (decide (Rising l) = true) := Lib.hid (decide_eq_true (rising_of (fun j x y hx hy => hP.out j x y (by
        have := (List.getElem?_eq_some_iff.1 hy).1; rw [HW.out.len] at this; omega) hx hy)))
      go_wp2_with (fail)
      go_ret
      exact ⟨ret_bool hR.out.symm, Ext.draws w q⟩

/-- The first i keys' top is tp. -/
def TopUp (l : List Int) (i tp : Nat) : Prop := (i = 0 ∧ tp = 0) ∨ IsTop (l.take i) tp
theorem topUp_new {l : List Int} {i tp : Nat} {m x : Int} (h : TopUp l i tp) (hx : l[i]? = some x) (hm : l[tp]? = some m) (hlt : mixed m < mixed x) : IsTop (l.take (i + 1)) i := by
  rcases h with ⟨rfl, rfl⟩ | h
  · rw [hx] at hm; cases hm; omega
  · have hl := (List.getElem?_eq_some_iff.1 hx).1
    have ht := h.lt
    have e := isTop_new h (m := m) (by rw [List.getElem?_take, if_pos (by simp at ht; omega)]; exact hm) hlt
    rw [take_snoc hx]
    have el : (l.take i).length = i := by simp; omega
    rw [el] at e; exact e
theorem topUp_old {l : List Int} {i tp : Nat} {m x : Int} (h : TopUp l i tp) (hx : l[i]? = some x) (hm : l[tp]? = some m) (hlt : ¬ mixed m < mixed x) : IsTop (l.take (i + 1)) tp := by
  rcases h with ⟨rfl, rfl⟩ | h
  · rw [take_snoc hx]; exact isTop_one x
  · have ht := h.lt
    rw [take_snoc hx]
    exact isTop_old h (m := m) (by rw [List.getElem?_take, if_pos (by simp at ht; omega)]; exact hm) hlt

set_option maxHeartbeats 4000000 in
set_option maxRecDepth 100000 in
theorem first_any (s : Option Addr) (n c : Nat) (l : List Int) (w : World) (hT : Tab w) (hW : WS w s n c l) (h0 : 0 < n) :
    Calls Tryz.prog 119 #[.slice s n c] w fun e w' => (∃ t : Nat, e = .returned (.int .i64 t) ∧ IsTop l t) ∧ Ext w w' := by
  have hn := hW.le
  have HW := Lib.hid hW
  have HT := Lib.hid hT
  clear hW hT
  go_enter Tryz.func119, Tryz.ntmps119
  go_wp2_with (fail)
  go_loopw [3, 8] (fun tv iv wr => ∃ (tp i : Nat), tp < n ∧ i ≤ n ∧ tv = .int .i64 tp ∧ iv = .int .i64 i ∧ Ext w wr ∧ RowKit.Hid (TopUp l i tp)) (fun _ i _ => n - (intOf i).toNat)
  case atStart => exact ⟨0, 0, by omega, by omega, rfl, rfl, Ext.refl w, Lib.hid (.inl ⟨rfl, rfl⟩)⟩
  case round =>
    obtain ⟨tp, i, h1, h2, rfl, rfl, hE, hP⟩ := hrel
    have HW1 := Lib.hid (HW.out.ext hE)
    have HT1 := Lib.hid (tab_ext HT.out hE)
    by_cases hi : i < n
    · have hin : (i : Int) < n := by omega
      obtain ⟨x, hx, ux, b, o, rfl, cx⟩ := HW1.out.get (k := i) hi
      obtain ⟨m, hm, um, b', o', e, cm⟩ := HW1.out.get (k := tp) h1
      cases e
      have htn : (tp : Int) < n := by omega
      have HX := Lib.hid hx
      have HM := Lib.hid hm
      clear hx hm
      by_cases hb : mixed m < mixed x
      · have hdb : decide (mixed m < mixed x) = true := decide_eq_true hb
        have hN : RowKit.Hid (TopUp l (i + 1) i) := Lib.hid (.inr (topUp_new hP.out HX.out HM.out hb))
        clear hb
        go_wp2_with (fail)
        refine (before_any x m wr HT1.out ux.1 ux.2 um.1 um.2).mono ?_
        rintro e w1 ⟨rfl, hg⟩
        rw [hdb]
        go_wp2_with (fail)
        go_roundw
        case rel => exact ⟨i, i + 1, hi, by omega, rfl, by go_num, hE.trans (gr_ext hg), hN⟩
        case measure => simp [intOf]; omega
      · have hdb : decide (mixed m < mixed x) = false := decide_eq_false hb
        have hN : RowKit.Hid (TopUp l (i + 1) tp) := Lib.hid (.inr (topUp_old hP.out HX.out HM.out hb))
        clear hb
        go_wp2_with (fail)
        refine (before_any x m wr HT1.out ux.1 ux.2 um.1 um.2).mono ?_
        rintro e w1 ⟨rfl, hg⟩
        rw [hdb]
        go_wp2_with (fail)
        go_roundw
        case rel => exact ⟨tp, i + 1, h1, by omega, rfl, by go_num, hE.trans (gr_ext hg), hN⟩
        case measure => simp [intOf]; omega
    · obtain rfl : i = n := by omega
      go_wp2_with (fail)
      go_ret
      refine ⟨⟨tp, rfl, ?_⟩, hE⟩
      rcases hP.out with ⟨e, _⟩ | h
      · omega
      · rwa [List.take_of_length_le (by rw [HW.out.len]; exact Nat.le_refl _)] at h

end Go.Proofs.YtmonkcekkhfafaaGreatDoor.Trp

/- TrpHang:
  What hang does: it writes the links of the keys' tree into a room of pairs, and returns its top. Conditions: the keys are there, and lay ahead of the room; the package's table lies.
-/
namespace Go.Proofs.YtmonkcekkhfafaaGreatDoor.Trp
open Go.RowKit (Below intOf)

/-- Room for n pairs, from o on in block b, that may be written. -/
def Room (w : World) (b o n : Nat) : Prop := ∀ j, j < n * 2 → (∃ v, w.cell? ⟨b, o + j, none⟩ = some v) ∧ w.frozen? ⟨b, o + j, none⟩ = false
/-- The slice of that room. -/
def RoomAt (sl : Option Addr) (n cl b o : Nat) : Prop := (0 < n → sl = some ⟨b, o, none⟩) ∧ n ≤ cl ∧ cl ≤ 9223372036854775807
/-- The pairs were written there, nothing else of what lay. -/
def Hung (w w' : World) (b o n : Nat) (L : List Pr) : Prop :=
  w.grownBy w' (some b) ∧ (∀ (j : Nat) (x : Pr), L[j]? = some x → w'.cell? ⟨b, o + j * 2, none⟩ = some (.int .i64 x.1) ∧ w'.cell? ⟨b, o + j * 2 + 1, none⟩ = some (.int .i64 x.2)) ∧
  (∀ i, (i < o ∨ o + n * 2 ≤ i) → w'.cell? ⟨b, i, none⟩ = w.cell? ⟨b, i, none⟩) ∧ ∀ i, w'.frozen? ⟨b, i, none⟩ = w.frozen? ⟨b, i, none⟩

theorem RoomAt.take {sl : Option Addr} {n cl b o t : Nat} (h : RoomAt sl n cl b o) (ht : t < n) : RoomAt sl t cl b o := ⟨fun _ => h.1 (by omega), by have := h.2.1; omega, h.2.2⟩
theorem RoomAt.drop {sl : Option Addr} {n cl b o t : Nat} (h : RoomAt sl n cl b o) (ht : t < n) : RoomAt (cutAt 2 sl cl (t + 1)) (n - (t + 1)) (cl - (t + 1)) b (o + (t + 1) * 2) :=
  ⟨fun h1 => by unfold cutAt; rw [if_neg (by have := h.2.1; omega), h.1 (by omega), Option.map_some, add_is], by have := h.2.1; omega, by have := h.2.2; omega⟩
theorem grown_of_ext {w w' : World} (b : Nat) (h : Ext w w') : w.grownBy w' (some b) := ⟨h.os, h.tape, h.output, h.size, fun k hk _ => h.block k hk⟩
theorem grown_then {w W W' : World} {b : Nat} (h : w.grownBy W (some b)) (h2 : W.grownBy W' (some b)) : w.grownBy W' (some b) :=
  ⟨h2.os.trans h.os, h2.tape.trans h.tape, h2.output.trans h.output, Nat.le_trans h.size h2.size, fun k hk hne => by
    rw [h2.block k (Nat.lt_of_lt_of_le hk h.size) hne, h.block k hk hne]⟩
theorem grown_set (w : World) (b i : Nat) (v : Value) : w.grownBy (w.setCell ⟨b, i, none⟩ v) (some b) := by
  refine ⟨rfl, rfl, rfl, by simp [World.setCell], fun k hk hne => ?_⟩
  have : b ≠ k := fun e => hne (by rw [e])
  simp [World.setCell, Array.getElem?_modify, this]
theorem Room.ext {w w' : World} {b o n : Nat} (h : Room w b o n) (e : Ext w w') : Room w' b o n := fun j hj => by
  obtain ⟨⟨v, h1⟩, h2⟩ := h j hj
  exact ⟨⟨v, e.cell h1⟩, by rw [e.frozen h1]; exact h2⟩
theorem Room.take {w : World} {b o n t : Nat} (h : Room w b o n) (ht : t ≤ n) : Room w b o t := fun j hj => h j (by omega)
theorem Room.drop {w : World} {b o n t : Nat} (h : Room w b o n) : Room w b (o + t * 2) (n - t) := fun j hj => by
  have := h (t * 2 + j) (by omega)
  rwa [← Nat.add_assoc] at this
theorem Room.hung {w w' : World} {b o n o' n' : Nat} {L : List Pr} (h : Room w b o n) (g : Hung w w' b o' n' L) (hL : L.length = n') : Room w' b o n := fun j hj => by
  obtain ⟨⟨v, h1⟩, h2⟩ := h j hj
  refine ⟨?_, by rw [g.2.2.2]; exact h2⟩
  by_cases hc : o + j < o' ∨ o' + n' * 2 ≤ o + j
  · exact ⟨v, by rw [g.2.2.1 _ hc]; exact h1⟩
  · obtain ⟨k, hk⟩ : ∃ k, o + j = o' + k * 2 ∨ o + j = o' + k * 2 + 1 := ⟨(o + j - o') / 2, by omega⟩
    have hkl : k < L.length := by omega
    have := g.2.1 k _ (List.getElem?_eq_getElem hkl)
    rcases hk with e | e
    · rw [e]; exact ⟨_, this.1⟩
    · rw [e]; exact ⟨_, this.2⟩
theorem Room.set {w : World} {b o n i : Nat} {v : Value} (h : Room w b o n) : Room (w.setCell ⟨b, i, none⟩ v) b o n := fun j hj => by
  obtain ⟨⟨u, h1⟩, h2⟩ := h j hj
  refine ⟨?_, by simpa using h2⟩
  by_cases e : o + j = i
  · subst e; exact ⟨v, World.cell?_setCell_same' _ _ _ (by rw [h1]; rfl)⟩
  · exact ⟨u, by rw [World.cell?_setCell_other _ _ _ _ (fun he => e (by cases he; rfl))]; exact h1⟩
theorem set_far {w : World} {b i k : Nat} {v : Value} (h : i ≠ k) : (w.setCell ⟨b, k, none⟩ v).cell? ⟨b, i, none⟩ = w.cell? ⟨b, i, none⟩ := World.cell?_setCell_other _ _ _ _ (fun he => h (by cases he; rfl))

theorem Room.get {w : World} {b o n : Nat} (h : Room w b o n) (j : Nat) (hj : j < n * 2) : ∃ v, w.cell? ⟨b, o + j, none⟩ = some v ∧ w.frozen? ⟨b, o + j, none⟩ = false := by
  obtain ⟨⟨v, h1⟩, h2⟩ := h j hj
  exact ⟨v, h1, h2⟩
/-- Two trees hung, and what is between them. -/
theorem hung_both {w w1 w2 w3 : World} {b o n t : Nat} {L M : List Pr} {a c : Int} (hR : Room w b o n) (ht : t < n) (hL : L.length = t) (hM : M.length = n - (t + 1)) (hE : Ext w w1)
    (h1 : Hung w1 w2 b o t L) (h2 : Hung (w2.setCell ⟨b, o + t * 2, none⟩ (.int .i64 a)) w3 b (o + (t + 1) * 2) (n - (t + 1)) M) :
    Hung w (w3.setCell ⟨b, o + t * 2 + 1, none⟩ (.int .i64 c)) b o n (L ++ (a, c) :: M) := by
  have R1 := (hR.ext hE).hung h1 hL
  have R2 : Room (w2.setCell ⟨b, o + t * 2, none⟩ (.int .i64 a)) b o n := R1.set
  have R3 := R2.hung h2 hM
  obtain ⟨g1, a1, b1, c1⟩ := h1
  obtain ⟨g2, a2, b2, c2⟩ := h2
  obtain ⟨⟨v1, hv1⟩, _⟩ := R1 (t * 2) (by omega)
  obtain ⟨⟨v3, hv3⟩, _⟩ := R3 (t * 2 + 1) (by omega)
  have hb : ∀ i, w1.cell? ⟨b, i, none⟩ = w.cell? ⟨b, i, none⟩ ∧ w1.frozen? ⟨b, i, none⟩ = w.frozen? ⟨b, i, none⟩ := fun i => by
    obtain ⟨⟨v, hv⟩, _⟩ := hR 0 (by omega)
    have hl := World.block_lt_of_cell? w _ hv
    exact ⟨Below.cell (p := ⟨b, i, none⟩) hE hl, Below.frozen (p := ⟨b, i, none⟩) hE hl⟩
  refine ⟨grown_then (grown_then (grown_then (grown_then (grown_of_ext b hE) g1) (grown_set _ _ _ _)) g2) (grown_set _ _ _ _), fun j x hx => ?_, fun i hi => ?_, fun i => ?_⟩
  · rcases Nat.lt_trichotomy j t with hj | hj | hj
    · rw [List.getElem?_append_left (by omega)] at hx
      have := a1 j x hx
      rw [set_far (by omega), set_far (by omega), b2 _ (by omega), b2 _ (by omega), set_far (by omega), set_far (by omega)]
      exact this
    · subst hj
      rw [List.getElem?_append_right (by omega), show j - L.length = 0 by omega] at hx
      simp at hx; subst hx
      rw [set_far (by omega), b2 _ (by omega)]
      refine ⟨World.cell?_setCell_same' _ _ _ (by rw [hv1]; rfl), ?_⟩
      have e : o + (j * 2 + 1) = o + j * 2 + 1 := by omega
      rw [e] at hv3
      exact World.cell?_setCell_same' _ _ _ (by rw [hv3]; rfl)
    · rw [List.getElem?_append_right (by omega), show j - L.length = (j - (t + 1)) + 1 by omega, List.getElem?_cons_succ] at hx
      have := a2 _ x hx
      rw [show o + (t + 1) * 2 + (j - (t + 1)) * 2 = o + j * 2 by omega] at this
      rw [set_far (by omega), set_far (by omega)]
      exact this
  · rw [set_far (by omega), b2 _ (by omega), set_far (by omega), b1 _ (by omega), (hb i).1]
  · rw [World.frozen?_setCell, c2, World.frozen?_setCell, c1, (hb i).2]

set_option maxHeartbeats 4000000 in
set_option maxRecDepth 100000 in
theorem hang_any (w0 : World) (b : Nat) (hT0 : Tab w0) (hb : w0.heap.size ≤ b) : ∀ (n : Nat) (s : Option Addr) (c : Nat) (l : List Int) (sl : Option Addr) (cl o A : Nat) (w : World), WS w0 s n c l → Ext w0 w → RoomAt sl n cl b o → Room w b o n → A + n ≤ 256 →
    Calls Tryz.prog 96 #[.slice s n c, .slice sl n cl, .int .i64 A] w fun e w' => e = .returned (.int .i64 (tree l A).1) ∧ Hung w w' b o n (tree l A).2 := by
  intro n
  induction n using Nat.strongRecOn with
  | ind n ih =>
    intro s c l sl cl o A w hW hE hS hR hA
    have HW := Lib.hid hW
    have HE := Lib.hid hE
    have HS := Lib.hid hS
    have HR := Lib.hid hR
    have HT := Lib.hid hT0
    clear hW hE hS hR hT0
    by_cases h0 : n = 0
    · subst h0
      have hl : RowKit.Hid (l = []) := Lib.hid (List.eq_nil_of_length_eq_zero HW.out.len)
      go_enter Tryz.func96, Tryz.ntmps96
      go_wp2
      go_ret
      rw [hl.out, tree_nil]
      exact ⟨rfl, ⟨rfl, rfl, rfl, Nat.le_refl _, fun _ _ _ => rfl⟩, fun j x h => by simp at h, fun _ _ => rfl, fun _ => rfl⟩
    · have hn0 : 0 < n := by omega
      have hne : decide (n = 0) = false := decide_eq_false h0
      have hnb : ((n : Int) == 0) = false := by simp; omega
      have hF := first_any s n c l w (tab_ext HT.out HE.out) (HW.out.ext HE.out) hn0
      obtain rfl := HS.out.1 hn0
      have hcl1 := HS.out.2.1
      have hcl2 := HS.out.2.2
      have hc1 := HW.out.lc
      have hc2 := HW.out.cle
      go_enter Tryz.func96, Tryz.ntmps96
      go_wp2_with (fail)
      refine hF.mono ?_
      rintro e w1 ⟨⟨t, rfl, hP⟩, hE1⟩
      have HP := Lib.hid hP
      have HE1 := Lib.hid hE1
      have ht : t < n := by rw [← HW.out.len]; exact hP.lt
      have hti : (t : Int) < n := by omega
      clear hP hE1 hF h0
      have hA' : (0 : Int) ≤ A := by omega
      have hq1 := slice_hiWS s n c t (by omega)
      have hq2 := slice_hiLS (some ⟨b, o, none⟩) n cl t (by omega)
      have hq3 : ∀ w : World, (Instr.sliceAt 27 (.slice s n c) (some (.int .i64 ((t : Int) + 1))) none none).run Tryz.prog w = .ok (.slice (cutAt 1 s c (t + 1)) (n - (t + 1)) (c - (t + 1))) w := slice_loWS s n c (t + 1) (by omega)
      have hq4 : ∀ w : World, (Instr.sliceAt 57 (.slice (some ⟨b, o, none⟩) n cl) (some (.int .i64 ((t : Int) + 1))) none none).run Tryz.prog w = .ok (.slice (cutAt 2 (some ⟨b, o, none⟩) cl (t + 1)) (n - (t + 1)) (cl - (t + 1))) w := slice_loLS (some ⟨b, o, none⟩) n cl (t + 1) (by omega)
      have HI1 : RowKit.Hid (Calls Tryz.prog 96 #[.slice s t c, .slice (some ⟨b, o, none⟩) t cl, .int .i64 A] w1.drew fun e w' => e = .returned (.int .i64 (tree (l.take t) A).1) ∧ Hung w1.drew w' b o t (tree (l.take t) A).2) :=
        Lib.hid (ih t ht s c (l.take t) (some ⟨b, o, none⟩) cl o A w1.drew (HW.out.take (by omega)) ((HE.out.trans HE1.out).drew) (HS.out.take ht) ((HR.out.ext HE1.out.drew).take (by omega)) (by omega))
      have HI2 : RowKit.Hid (∀ w2, Ext w0 w2 → Room w2 b o n → Calls Tryz.prog 96 #[.slice (cutAt 1 s c (t + 1)) (n - (t + 1)) (c - (t + 1)), .slice (cutAt 2 (some ⟨b, o, none⟩) cl (t + 1)) (n - (t + 1)) (cl - (t + 1)), .int .i64 ((A : Int) + t + 1)] w2 fun e w' => e = .returned (.int .i64 (tree (l.drop (t + 1)) (A + t + 1)).1) ∧ Hung w2 w' b (o + (t + 1) * 2) (n - (t + 1)) (tree (l.drop (t + 1)) (A + t + 1)).2) :=
        Lib.hid (fun w2 h1 h2 => ih (n - (t + 1)) (by omega) _ _ (l.drop (t + 1)) _ _ (o + (t + 1) * 2) (A + t + 1) w2 (HW.out.drop (by omega)) h1 (HS.out.drop ht) h2.drop (by omega))
      clear ih
      obtain ⟨LL, hLL⟩ : ∃ LL, RowKit.Hid (tree (l.take t) A = LL) := ⟨_, Lib.hid rfl⟩
      obtain ⟨MM, hMM⟩ : ∃ MM, RowKit.Hid (tree (l.drop (t + 1)) (A + t + 1) = MM) := ⟨_, Lib.hid rfl⟩
      rw [hLL.out] at HI1
      rw [hMM.out] at HI2
      have hlen1 : RowKit.Hid (LL.2.length = t) := Lib.hid (by rw [← hLL.out, tree_len _ _ _ rfl]; simp; have := HW.out.len; omega)
      have hlen2 : RowKit.Hid (MM.2.length = n - (t + 1)) := Lib.hid (by rw [← hMM.out, tree_len _ _ _ rfl]; simp; have := HW.out.len; omega)
      go_wp2_with (fail)
      go_region_held3 (fun _ => True) (trivial)
        ((go_at_call 96; with_reducible refine HI1.out.mono ?_; rintro e w2 ⟨rfl, hH⟩; obtain ⟨v2, hcv, hfv⟩ := Room.get (Room.hung (Room.ext HR.out (Ext.drew HE1.out)) hH hlen1.out) (t * 2) (by omega)))
      rename_i hh
      have HH := Lib.hid hH
      have HRm : RowKit.Hid (Room (w2.setCell ⟨b, o + t * 2, none⟩ (.int .i64 LL.1)) b o n) := Lib.hid (Room.set (Room.hung (Room.ext HR.out (Ext.drew HE1.out)) hH hlen1.out))
      have HEx : RowKit.Hid (Ext w0 (w2.setCell ⟨b, o + t * 2, none⟩ (.int .i64 LL.1))) := Lib.hid (Ext.grown (Ext.grown ((HE.out.trans HE1.out).drew) hH.1 (fun k e => by cases e; exact hb)) (grown_set _ _ _ _) (fun k e => by cases e; exact hb))
      obtain ⟨w3, hw3⟩ : ∃ w3, w2.setCell ⟨b, o + t * 2, none⟩ (.int .i64 LL.1) = w3 := ⟨_, rfl⟩
      rw [hw3] at HRm HEx ⊢
      have HW3 := Lib.hid hw3
      clear hw3 hh hH hcv hfv HI1 hq1 hq2
      have HI3 := Lib.hid (HI2.out w3.drew (HEx.out.drew) (Room.ext HRm.out (Ext.drew (Ext.refl w3))))
      have e1 : IntKind.i64.wrap ((t : Int) + 1) = t + 1 := IntWalk.i64_in _ (by omega)
      have e2 : IntKind.i64.wrap ((A : Int) + t) = A + t := IntWalk.i64_in _ (by omega)
      have e3 : IntKind.i64.wrap ((A : Int) + t + 1) = A + t + 1 := IntWalk.i64_in _ (by omega)
      go_wp2_with (fail)
      go_region_held3 (fun _ => True) (trivial)
        ((go_at_call 96; with_reducible refine HI3.out.mono ?_; rintro e w4 ⟨rfl, hH⟩; obtain ⟨v4, hcv, hfv⟩ := Room.get (Room.hung (Room.ext HRm.out (Ext.drew (Ext.refl w3))) hH hlen2.out) (t * 2 + 1) (by omega); rw [← Nat.add_assoc] at hcv hfv))
      rename_i hh
      clear hh hcv hfv
      go_wp2_with (fail)
      go_ret
      have HHH := hung_both (a := LL.1) (c := MM.1) HR.out ht hlen1.out hlen2.out (Ext.drew HE1.out) HH.out (by rw [HW3.out]; exact ⟨grown_then (grown_of_ext b (Ext.drew (Ext.refl w3))) hH.1, hH.2.1, hH.2.2.1, hH.2.2.2⟩)
      have et := tree_at HP.out A
      rw [hLL.out, hMM.out] at et
      rw [et]
      exact ⟨by congr 2, HHH⟩

end Go.Proofs.YtmonkcekkhfafaaGreatDoor.Trp

/- TrpRef:
  What the document's own Build and Right return. Condition: the keys and the links are there.
-/
namespace Go.Proofs.YtmonkcekkhfafaaGreatDoor.Trp
open Go.RowKit (Below intOf)

/-- A call that answers a top, links and a number. -/
def BE (p : Int × List Pr × Int) (w : World) (e : Ending) (w' : World) : Prop := Ext w w' ∧ ∃ sl m c, e = .returned (.tuple #[.int .i64 p.1, .slice sl m c, .int .i64 p.2.2]) ∧ LS w' sl m c p.2.1

end Go.Proofs.YtmonkcekkhfafaaGreatDoor.Trp

/- TrpBuild:
  What Build and Right return. Conditions: the keys and the links are there; the package's table lies.
-/
namespace Go.Proofs.YtmonkcekkhfafaaGreatDoor.Trp
open Go.RowKit (Below intOf)

abbrev zeros2 (n : Nat) : Array Value := madeCells #[.int .i64 0, .int .i64 0] (n * 2)
theorem make_pairs (n : Nat) (hn : n ≤ 256) (W : World) : (Instr.makeSlice 57 (.int .i64 (n : Int)) (.int .i64 (n : Int))).run Tryz.prog W = .ok (.slice (some ⟨W.heap.size, 0, none⟩) n n) (W.alloc (.cells (zeros2 n) 59)) := by
  obtain ⟨i0, hi, hz0, hz1, hz2⟩ := info_parts infoLS
  have h := run_make (P := Tryz.prog) W 57 59 i0 _ Tryz.underlying57 hi hz0 .i64 .i64 n n (by omega) (by omega) (by rw [hz2]; omega) (by omega)
  simp only [Int.toNat_natCast, hz1] at h
  exact h
theorem made_room (n : Nat) (W : World) : Room (W.alloc (.cells (zeros2 n) 59)) W.heap.size 0 n := fun j hj => by
  constructor
  · have : j < (zeros2 n).size := by rw [size_madeCells]; exact hj
    exact ⟨(zeros2 n)[j], by unfold World.cell?; rw [World.alloc_heap_new]; simp [this]⟩
  · unfold World.frozen?; rw [World.alloc_heap_new]; simp

set_option maxHeartbeats 4000000 in
set_option maxRecDepth 100000 in
theorem build_all (s : Option Addr) (n c : Nat) (l : List Int) (w : World) (hT : Tab w) (hW : WS w s n c l) :
    Calls Tryz.prog 54 #[.slice s n c] w (BE (buildS l) w) := by
  have hn := hW.le
  have HW := Lib.hid hW
  have HT := Lib.hid hT
  clear hW hT
  by_cases h0 : 256 < n
  · have hz : RowKit.Hid (buildS l = (0, [], 4)) := Lib.hid (build_long (by rw [HW.out.len]; exact h0))
    go_enter Tryz.func54, Tryz.ntmps54
    go_wp2
    go_ret3
    rw [hz.out]
    exact ⟨Ext.refl w, none, 0, 0, rfl, LS.empty _ _ _ (by omega)⟩
  · have hlong : RowKit.Hid (¬ 256 < l.length) := Lib.hid (by rw [HW.out.len]; exact h0)
    have h0' : n ≤ 256 := by omega
    have hdc : decide (256 < n) = false := decide_eq_false h0
    have hdi : decide ((256 : Int) < n) = false := decide_eq_false (by omega)
    have hRs := rising_any s n c l w HW.out
    clear h0
    by_cases hr : Rising l
    · rw [decide_eq_true hr] at hRs
      have HRi := Lib.hid hr
      clear hr
      go_enter Tryz.func54, Tryz.ntmps54
      go_wp2_with (fail)
      refine hRs.mono ?_
      rintro e w1 ⟨rfl, hE1⟩
      have HE1 := Lib.hid hE1
      have HT1 := Lib.hid (tab_ext HT.out hE1)
      have HW1 := Lib.hid (HW.out.ext hE1)
      have hmk := make_pairs n h0' w1
      clear hE1 hRs
      go_wp2_with (fail)
      refine (hang_any w1 w1.heap.size HT1.out (Nat.le_refl _) n s c l (some ⟨w1.heap.size, 0, none⟩) n 0 0 (w1.alloc (.cells (zeros2 n) 59)) HW1.out (Ext.new w1 _) ⟨fun _ => rfl, Nat.le_refl _, by omega⟩ (made_room n w1) (by omega)).mono ?_
      rintro e w3 ⟨rfl, hH⟩
      have HH := Lib.hid hH
      clear hH hmk
      go_wp2_with (fail)
      go_ret3
      rw [build_ok hlong.out HRi.out]
      have hl : (tree l 0).2.length = n := by rw [tree_len _ _ _ rfl]; exact HW.out.len
      refine ⟨HE1.out.trans (Ext.grown (Ext.new w1 _) HH.out.1 (fun k e => by cases e; exact Nat.le_refl _)), _, n, n, rfl, ⟨hl, by omega, Nat.le_refl _, by omega, fun j x hx => ⟨?_, w1.heap.size, 0, rfl, HH.out.2.1 j x hx⟩⟩⟩
      have := tree_bd _ l 0 rfl x (List.mem_of_getElem? hx)
      rw [HW.out.len] at this
      unfold Ip I64; omega
    · rw [decide_eq_false hr] at hRs
      have hz : RowKit.Hid (buildS l = (0, [], 1)) := Lib.hid (build_bad hlong.out hr)
      clear hr
      go_enter Tryz.func54, Tryz.ntmps54
      go_wp2_with (fail)
      refine hRs.mono ?_
      rintro e w1 ⟨rfl, hE1⟩
      go_wp2_with (fail)
      go_ret3
      rw [hz.out]
      exact ⟨hE1, none, 0, 0, rfl, LS.empty _ _ _ (by omega)⟩

theorem build_any (s : Option Addr) (n c : Nat) (l : List Int) (w : World) (hT : Tab w) (hW : WS w s n c l) (_ : n ≤ 256) :
    Calls Tryz.prog 54 #[.slice s n c] w (BE (buildS l) w) := build_all s n c l w hT hW

end Go.Proofs.YtmonkcekkhfafaaGreatDoor.Trp

