/-
  What each call of package treap is to answer, over lists of keys, and how answers hang together. No condition but those that each theorem says.
-/
import Derived.Test.YtnmeakkehonnmaaDoorTrpPlain
import Derived.Lib.Hide
namespace Go.Proofs.YtnmeakkehonnmaaDoor.Trp

def I64 (x : Int) : Prop := -9223372036854775808 ≤ x ∧ x < 9223372036854775808
def U64 (x : Int) : Prop := 0 ≤ x ∧ x < 18446744073709551616
def Ip (r : Pr) : Prop := I64 r.1 ∧ I64 r.2

instance (l : List Int) : Decidable (Rising l) := inferInstanceAs (Decidable (l.Pairwise fun a b => a < b))

def buildS (l : List Int) : Int × List Pr × Int :=
  if 256 < l.length then (0, [], 4) else if Rising l then ((tree l 0).1, (tree l 0).2, 0) else (0, [], 1)
def rightS (l : List Int) (r : Int) (L : List Pr) : Bool := decide (buildS l = (r, L, 0))
/-- The number of the first one that is so, 0 where there is none. -/
def num (f : Int → Bool) : List Int → Nat
  | [] => 0
  | x :: r => if f x then 1 else if num f r = 0 then 0 else num f r + 1
def findS (l : List Int) (r : Int) (L : List Pr) (q : Int) : Int × Bool := if rightS l r L then ((num (fun x => x == q) l : Nat), decide (num (fun x => x == q) l ≠ 0)) else (0, false)
def nextS (l : List Int) (r : Int) (L : List Pr) (q : Int) : Int × Bool := if rightS l r L then ((num (fun x => decide (q ≤ x)) l : Nat), decide (num (fun x => decide (q ≤ x)) l ≠ 0)) else (0, false)
def pathS (l : List Int) (r : Int) (L : List Pr) (q : Int) : List Int := if rightS l r L then path l 0 q else []

theorem num_hit {f : Int → Bool} : ∀ {l : List Int} {i : Nat} {x : Int}, (∀ (j : Nat) y, j < i → l[j]? = some y → f y = false) → l[i]? = some x → f x = true → num f l = i + 1
  | [], i, x, _, h, _ => by simp at h
  | z :: r, 0, x, _, h, hf => by simp at h; subst h; simp [num, hf]
  | z :: r, i + 1, x, hb, h, hf => by
    have h0 := hb 0 z (by omega) rfl
    have := num_hit (l := r) (i := i) (x := x) (fun j y hj hy => hb (j + 1) y (by omega) (by simpa using hy)) (by simpa using h) hf
    simp [num, h0, this]
theorem num_none {f : Int → Bool} : ∀ {l : List Int}, (∀ (j : Nat) y, l[j]? = some y → f y = false) → num f l = 0
  | [], _ => rfl
  | z :: r, hb => by
    have h0 := hb 0 z rfl
    have := num_none (l := r) (fun j y hy => hb (j + 1) y (by simpa using hy))
    simp [num, h0, this]
theorem num_inv (f : Int → Bool) (l : List Int) : (num f l = 0 ∧ ∀ (j : Nat) y, l[j]? = some y → f y = false) ∨ ∃ (i : Nat) (x : Int), num f l = i + 1 ∧ l[i]? = some x ∧ f x = true ∧ ∀ (j : Nat) y, j < i → l[j]? = some y → f y = false := by
  induction l with
  | nil => exact .inl ⟨rfl, fun j y h => by simp at h⟩
  | cons z r ih =>
    by_cases hz : f z = true
    · exact .inr ⟨0, z, by simp [num, hz], rfl, hz, fun j y h => by omega⟩
    · have hz' : f z = false := by simpa using hz
      rcases ih with ⟨h1, h2⟩ | ⟨i, x, h1, h2, h3, h4⟩
      · exact .inl ⟨by simp [num, hz', h1], fun j y hj => by
          match j, hj with
          | 0, hj => simp at hj; subst hj; exact hz'
          | j + 1, hj => exact h2 j y (by simpa using hj)⟩
      · exact .inr ⟨i + 1, x, by simp [num, hz', h1], by simpa using h2, h3, fun j y hj hy => by
          match j, hj, hy with
          | 0, _, hy => simp at hy; subst hy; exact hz'
          | j + 1, hj, hy => exact h4 j y (by omega) (by simpa using hy)⟩
theorem num_le (f : Int → Bool) (l : List Int) : num f l ≤ l.length := by
  rcases num_inv f l with ⟨h, _⟩ | ⟨i, x, h, h2, _⟩
  · omega
  · have := (List.getElem?_eq_some_iff.1 h2).1; omega

theorem rising_of {l : List Int} (h : ∀ (i : Nat) x y, l[i]? = some x → l[i + 1]? = some y → x < y) : Rising l := by
  have key : ∀ (d i : Nat) x y, l[i]? = some x → l[i + d + 1]? = some y → x < y := by
    intro d
    induction d with
    | zero => exact fun i x y hx hy => h i x y hx hy
    | succ d ih =>
      intro i x y hx hy
      have hl := (List.getElem?_eq_some_iff.1 hy).1
      have hm : l[i + d + 1]? = some (l[i + d + 1]'(by omega)) := List.getElem?_eq_getElem (by omega)
      have h1 := ih i x _ hx hm
      have h2 := h (i + d + 1) _ y hm hy
      omega
  refine List.pairwise_iff_getElem.2 fun i j hi hj hij => ?_
  exact key (j - i - 1) i _ _ (List.getElem?_eq_getElem hi) (by rw [show i + (j - i - 1) + 1 = j by omega]; exact List.getElem?_eq_getElem hj)
theorem not_rising {l : List Int} {i : Nat} {x y : Int} (hx : l[i]? = some x) (hy : l[i + 1]? = some y) (h : y ≤ x) : ¬ Rising l := fun hr => by
  have := hr.lt hx hy (by omega); omega
theorem apart_of {l : List Int} (h : Rising l) (hu : ∀ x ∈ l, U64 x) : Apart l := by
  refine List.pairwise_iff_getElem.2 fun i j hi hj hij e => ?_
  have h1 := List.pairwise_iff_getElem.1 h i j hi hj hij
  have u1 := hu _ (List.getElem_mem hi)
  have u2 := hu _ (List.getElem_mem hj)
  have := mixed_inj _ _ u1.1 u1.2 u2.1 u2.2 e
  omega

theorem build_long {l : List Int} (h : 256 < l.length) : buildS l = (0, [], 4) := by unfold buildS; rw [if_pos h]
theorem build_bad {l : List Int} (h : ¬ 256 < l.length) (hr : ¬ Rising l) : buildS l = (0, [], 1) := by unfold buildS; rw [if_neg h, if_neg hr]
theorem build_ok {l : List Int} (h : ¬ 256 < l.length) (hr : Rising l) : buildS l = ((tree l 0).1, (tree l 0).2, 0) := by unfold buildS; rw [if_neg h, if_pos hr]
theorem right_of {l : List Int} {r : Int} {L : List Pr} : rightS l r L = true ↔ ¬ 256 < l.length ∧ Rising l ∧ (tree l 0).1 = r ∧ (tree l 0).2 = L := by
  unfold rightS
  rw [decide_eq_true_iff]
  by_cases h : 256 < l.length
  · rw [build_long h]; simp [h]
  · by_cases hr : Rising l
    · rw [build_ok h hr]; simp [h, hr]
    · rw [build_bad h hr]; simp [h, hr]
theorem build_bd (l : List Int) : (0 ≤ (buildS l).1 ∧ (buildS l).1 ≤ 256) ∧ (buildS l).2.1.length ≤ 256 ∧ (∀ x ∈ (buildS l).2.1, (0 ≤ x.1 ∧ x.1 ≤ 256) ∧ (0 ≤ x.2 ∧ x.2 ≤ 256)) ∧ (0 ≤ (buildS l).2.2 ∧ (buildS l).2.2 ≤ 4) := by
  by_cases h : 256 < l.length
  · rw [build_long h]; simp
  · by_cases hr : Rising l
    · rw [build_ok h hr]
      have h1 := tree_root_bd l 0
      have h2 := tree_len _ l 0 rfl
      refine ⟨by simp only; omega, by simp only; omega, fun x hx => ?_, by simp⟩
      have h3 := tree_bd _ l 0 rfl x hx
      omega
    · rw [build_bad h hr]; simp

end Go.Proofs.YtnmeakkehonnmaaDoor.Trp
