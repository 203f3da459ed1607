/-
  Trees of keys, by their mixed words: what they are, that there is one alone, the way to a key, their parts, and one key more. No condition: definitions, and facts on lists of integers.
-/
import Derived.Test.YtnmeakkehonnmaaDoorMixWords
namespace Go.Proofs.YtnmeakkehonnmaaDoor.Trp

abbrev Pr := Int × Int

/-- No two go at once. -/
def Apart (l : List Int) : Prop := l.Pairwise fun a b => mixed a ≠ mixed b
/-- Which one goes before all others: its place, from 0 on. -/
def top : List Int → Nat
  | [] => 0
  | [_] => 0
  | x :: y :: r => if mixed x < mixed ((y :: r).getD (top (y :: r)) 0) then top (y :: r) + 1 else 0

/-- t is the place of what goes before all others, the first such. -/
def IsTop (l : List Int) (t : Nat) : Prop := ∃ m, l[t]? = some m ∧ (∀ (j : Nat) x, l[j]? = some x → mixed x ≤ mixed m) ∧ ∀ (j : Nat) x, j < t → l[j]? = some x → mixed x < mixed m

theorem top_is : ∀ l : List Int, l ≠ [] → IsTop l (top l)
  | [], h => absurd rfl h
  | [x], _ => ⟨x, rfl, fun j y hj => by
      match j, hj with
      | 0, hj => simp at hj; subst hj; exact Int.le_refl _
      | j + 1, hj => simp at hj, fun j y hj => absurd hj (Nat.not_lt_zero _)⟩
  | x :: y :: r, _ => by
    obtain ⟨m, h1, h2, h3⟩ := top_is (y :: r) (by simp)
    have hg : (y :: r).getD (top (y :: r)) 0 = m := by rw [List.getD_eq_getElem?_getD, h1]; rfl
    unfold top
    rw [hg]
    split
    · rename_i hlt
      refine ⟨m, by simpa using h1, fun j z hj => ?_, fun j z hjt hj => ?_⟩
      · match j, hj with
        | 0, hj => simp at hj; subst hj; omega
        | j + 1, hj => exact h2 j z (by simpa using hj)
      · match j, hj with
        | 0, hj => simp at hj; subst hj; exact hlt
        | j + 1, hj => exact h3 j z (by omega) (by simpa using hj)
    · rename_i hlt
      refine ⟨x, rfl, fun j z hj => ?_, fun j z hj => absurd hj (Nat.not_lt_zero _)⟩
      match j, hj with
      | 0, hj => simp at hj; subst hj; exact Int.le_refl _
      | j + 1, hj => have := h2 j z (by simpa using hj); omega

theorem IsTop.lt {l : List Int} {t : Nat} (h : IsTop l t) : t < l.length := by
  obtain ⟨m, h1, _⟩ := h; exact (List.getElem?_eq_some_iff.1 h1).1
theorem IsTop.one {l : List Int} {s t : Nat} (h : IsTop l s) (g : IsTop l t) : s = t := by
  obtain ⟨m, h1, h2, h3⟩ := h
  obtain ⟨k, g1, g2, g3⟩ := g
  rcases Nat.lt_trichotomy s t with c | c | c
  · have := g3 s m c h1; have := h2 t k g1; omega
  · exact c
  · have := h3 t k c g1; have := g2 s m h1; omega
theorem top_eq {l : List Int} {t : Nat} (h : IsTop l t) : top l = t := by
  have hne : l ≠ [] := by intro e; subst e; have := h.lt; simp at this
  exact (top_is l hne).one h
theorem top_lt {l : List Int} (h : l ≠ []) : top l < l.length := (top_is l h).lt

theorem Apart.ne {l : List Int} (h : Apart l) {i j : Nat} {x y : Int} (hi : l[i]? = some x) (hj : l[j]? = some y) (hij : i ≠ j) : mixed x ≠ mixed y := by
  obtain ⟨hil, rfl⟩ := List.getElem?_eq_some_iff.1 hi
  obtain ⟨hjl, rfl⟩ := List.getElem?_eq_some_iff.1 hj
  have h' := List.pairwise_iff_getElem.1 h
  rcases Nat.lt_or_ge i j with c | c
  · exact h' i j hil hjl c
  · exact fun e => h' j i hjl hil (by omega) e.symm
theorem Apart.take {l : List Int} (h : Apart l) (n : Nat) : Apart (l.take n) := List.Pairwise.sublist (List.take_sublist n l) h
theorem Apart.drop {l : List Int} (h : Apart l) (n : Nat) : Apart (l.drop n) := List.Pairwise.sublist (List.drop_sublist n l) h
/-- Where no two go at once, the greatest one is the top. -/
theorem isTop_of_max {l : List Int} (h : Apart l) {t : Nat} {m : Int} (ht : l[t]? = some m) (hm : ∀ (j : Nat) x, l[j]? = some x → mixed x ≤ mixed m) : IsTop l t :=
  ⟨m, ht, hm, fun j x hj hx => by have := hm j x hx; have := h.ne hx ht (by omega); omega⟩

/-- The tree of keys whose numbers begin behind off: its top, and, key by key, its links. -/
def tree (l : List Int) (off : Nat) : Int × List Pr :=
  if _h : l = [] then (0, [])
  else
    let a := tree (l.take (top l)) off
    let b := tree (l.drop (top l + 1)) (off + top l + 1)
    (((off + top l + 1 : Nat) : Int), a.2 ++ (a.1, b.1) :: b.2)
termination_by l.length
decreasing_by
  · have := top_lt (l := l) (by assumption); simp; omega
  · have := top_lt (l := l) (by assumption); simp; omega

theorem tree_nil (off : Nat) : tree [] off = (0, []) := by unfold tree; simp
theorem tree_some {l : List Int} (h : l ≠ []) (off : Nat) : tree l off = (((off + top l + 1 : Nat) : Int), (tree (l.take (top l)) off).2 ++ ((tree (l.take (top l)) off).1, (tree (l.drop (top l + 1)) (off + top l + 1)).1) :: (tree (l.drop (top l + 1)) (off + top l + 1)).2) := by
  rw [tree]; simp [h]
theorem tree_at {l : List Int} {t : Nat} (h : IsTop l t) (off : Nat) : tree l off = (((off + t + 1 : Nat) : Int), (tree (l.take t) off).2 ++ ((tree (l.take t) off).1, (tree (l.drop (t + 1)) (off + t + 1)).1) :: (tree (l.drop (t + 1)) (off + t + 1)).2) := by
  have hne : l ≠ [] := by intro e; subst e; have := h.lt; simp at this
  rw [tree_some hne, top_eq h]

theorem tree_len : ∀ (n : Nat) (l : List Int) (off : Nat), l.length = n → (tree l off).2.length = n := by
  intro n
  induction n using Nat.strongRecOn with
  | ind n ih =>
    intro l off hl
    by_cases h : l = []
    · subst h; rw [tree_nil]; exact hl
    · have ht := top_lt h
      rw [tree_some h]
      simp only [List.length_append, List.length_cons]
      rw [ih (l.take (top l)).length (by simp; omega) _ _ rfl, ih (l.drop (top l + 1)).length (by simp; omega) _ _ rfl]
      simp; omega
theorem tree_root (l : List Int) (off : Nat) : (l = [] ∧ (tree l off).1 = 0) ∨ (l ≠ [] ∧ (tree l off).1 = ((off + top l + 1 : Nat) : Int)) := by
  by_cases h : l = []
  · exact .inl ⟨h, by rw [h, tree_nil]⟩
  · exact .inr ⟨h, by rw [tree_some h]⟩
theorem tree_root_bd (l : List Int) (off : Nat) : 0 ≤ (tree l off).1 ∧ (tree l off).1 ≤ off + l.length := by
  rcases tree_root l off with ⟨_, e⟩ | ⟨h, e⟩
  · rw [e]; omega
  · have := top_lt h; rw [e]; omega
theorem tree_bd : ∀ (n : Nat) (l : List Int) (off : Nat), l.length = n → ∀ x ∈ (tree l off).2, (0 ≤ x.1 ∧ x.1 ≤ off + l.length) ∧ (0 ≤ x.2 ∧ x.2 ≤ off + l.length) := by
  intro n
  induction n using Nat.strongRecOn with
  | ind n ih =>
    intro l off hl x hx
    by_cases h : l = []
    · subst h; rw [tree_nil] at hx; cases hx
    · have ht := top_lt h
      rw [tree_some h] at hx
      simp only [List.mem_append, List.mem_cons] at hx
      have r1 := tree_root_bd (l.take (top l)) off
      have r2 := tree_root_bd (l.drop (top l + 1)) (off + top l + 1)
      have e1 : (l.take (top l)).length = top l := by simp; omega
      have e2 : (l.drop (top l + 1)).length = l.length - (top l + 1) := by simp
      rcases hx with hx | rfl | hx
      · have := ih (l.take (top l)).length (by omega) _ _ rfl x hx
        omega
      · simp only; omega
      · have := ih (l.drop (top l + 1)).length (by omega) _ _ rfl x hx
        omega

/-- What stands behind d others more. -/
def sh (d : Nat) (x : Int) : Int := if x = 0 then 0 else x + d
def sh2 (d : Nat) (x : Pr) : Pr := (sh d x.1, sh d x.2)
theorem tree_shift : ∀ (n : Nat) (l : List Int) (off d : Nat), l.length = n → tree l (off + d) = (sh d (tree l off).1, (tree l off).2.map (sh2 d)) := by
  intro n
  induction n using Nat.strongRecOn with
  | ind n ih =>
    intro l off d hl
    by_cases h : l = []
    · subst h; rw [tree_nil, tree_nil]; rfl
    · have ht := top_lt h
      rw [tree_some h, tree_some h off]
      have i1 := ih (l.take (top l)).length (by simp; omega) _ off d rfl
      have i2 := ih (l.drop (top l + 1)).length (by simp; omega) _ (off + top l + 1) d rfl
      have e : off + d + top l + 1 = off + top l + 1 + d := by omega
      rw [e, i1, i2]
      simp only [List.map_append, List.map_cons, sh2]
      refine Prod.ext ?_ rfl
      simp only [sh]
      rw [if_neg (by omega)]
      omega

/-! One step of 'good'. -/

theorem split_at {α : Type} {l : List α} {i : Nat} {p : α} (h : l[i]? = some p) : l = l.take i ++ p :: l.drop (i + 1) := by
  obtain ⟨hl, e⟩ := List.getElem?_eq_some_iff.1 h
  rw [← e, ← List.drop_eq_getElem_cons hl, List.take_append_drop]

/-- The child that a link names does not go before p. -/
def Under (p : Int) (l : List Int) : Prop := ∀ m, l[top l]? = some m → l ≠ [] → mixed m ≤ mixed p
theorem under_all {p : Int} {l : List Int} (h : Under p l) : ∀ (j : Nat) x, l[j]? = some x → mixed x ≤ mixed p := fun j x hx => by
  have hne : l ≠ [] := by intro e; subst e; simp at hx
  obtain ⟨m, h1, h2, _⟩ := top_is l hne
  have := h m h1 hne; have := h2 j x hx; omega

theorem good_step {l : List Int} (hA : Apart l) {i : Nat} {p : Int} (hp : l[i]? = some p) (off : Nat) {a b : Int} {L M : List Pr} (hL : L.length = i) :
    ((((off + i + 1 : Nat) : Int), L ++ (a, b) :: M) = tree l off) ↔ (Under p (l.take i) ∧ Under p (l.drop (i + 1)) ∧ (a, L) = tree (l.take i) off ∧ (b, M) = tree (l.drop (i + 1)) (off + i + 1)) := by
  have hil : i < l.length := (List.getElem?_eq_some_iff.1 hp).1
  constructor
  · intro h
    have hne : l ≠ [] := by intro e; subst e; simp at hil
    have ht := top_is l hne
    have hti : top l = i := by
      have := congrArg Prod.fst h
      rw [tree_some hne] at this
      simp only at this; omega
    rw [hti] at ht
    rw [tree_at ht] at h
    have hlen : (tree (l.take i) off).2.length = i := by rw [tree_len _ _ _ rfl]; simp; omega
    have h2 := congrArg Prod.snd h
    simp only at h2
    obtain ⟨e1, e2⟩ := List.append_inj h2 (by rw [hL, hlen])
    simp only [List.cons.injEq, Prod.mk.injEq] at e2
    obtain ⟨⟨ea, eb⟩, em⟩ := e2
    obtain ⟨m, t1, t2, t3⟩ := ht
    have : m = p := by rw [hp] at t1; exact (Option.some.inj t1).symm
    subst this
    refine ⟨fun x hx _ => t2 (top (l.take i)) x ?_, fun x hx _ => t2 (i + 1 + top (l.drop (i + 1))) x ?_, Prod.ext ea e1, Prod.ext eb em⟩
    · rw [List.getElem?_take] at hx
      split at hx
      · exact hx
      · cases hx
    · rw [List.getElem?_drop] at hx; exact hx
  · rintro ⟨u1, u2, e1, e2⟩
    have ht : IsTop l i := isTop_of_max hA hp (fun j x hx => by
      rcases Nat.lt_trichotomy j i with c | c | c
      · exact under_all u1 j x (by rw [List.getElem?_take, if_pos c]; exact hx)
      · subst c; rw [hp] at hx; cases hx; exact Int.le_refl _
      · exact under_all u2 (j - (i + 1)) x (by rw [List.getElem?_drop, show i + 1 + (j - (i + 1)) = j by omega]; exact hx))
    rw [tree_at ht, ← e1, ← e2]

/-! The way to a key. -/

def path (l : List Int) (off : Nat) (q : Int) : List Int :=
  if _h : l = [] then []
  else ((off + top l + 1 : Nat) : Int) ::
    (if q < l.getD (top l) 0 then path (l.take (top l)) off q
     else if l.getD (top l) 0 < q then path (l.drop (top l + 1)) (off + top l + 1) q
     else [])
termination_by l.length
decreasing_by
  · have := top_lt (l := l) (by assumption); simp; omega
  · have := top_lt (l := l) (by assumption); simp; omega

theorem path_nil (off : Nat) (q : Int) : path [] off q = [] := by unfold path; simp
theorem path_at {l : List Int} {t : Nat} {m : Int} (h : IsTop l t) (hm : l[t]? = some m) (off : Nat) (q : Int) : path l off q = ((off + t + 1 : Nat) : Int) ::
    (if q < m then path (l.take t) off q else if m < q then path (l.drop (t + 1)) (off + t + 1) q else []) := by
  have hne : l ≠ [] := by intro e; subst e; have := h.lt; simp at this
  have hg : l.getD t 0 = m := by rw [List.getD_eq_getElem?_getD, hm]; rfl
  rw [path]; simp [hne, top_eq h, hm]

theorem path_ne {l : List Int} (h : l ≠ []) (off : Nat) (q : Int) : path l off q ≠ [] := by
  obtain ⟨m, hm, _⟩ := top_is l h
  rw [path_at (top_is l h) hm]; simp

/-- A way over links: what is met from at on, till key is met, or 0. -/
def Way (l : List Int) (L : List Pr) (q : Int) : Int → List Int → Prop
  | at', [] => at' = 0
  | at', x :: xs => at' = x ∧ ∃ (i : Nat) (k : Int) (y : Pr), x = ((i + 1 : Nat) : Int) ∧ l[i]? = some k ∧ L[i]? = some y ∧ (q < k → Way l L q y.1 xs) ∧ (k < q → Way l L q y.2 xs) ∧ (k = q → xs = [])

theorem way_path (q : Int) : ∀ (n : Nat) (s X Y : List Int) (LX LY : List Pr), s.length = n → LX.length = X.length →
    Way (X ++ s ++ Y) (LX ++ (tree s X.length).2 ++ LY) q (tree s X.length).1 (path s X.length q) := by
  intro n
  induction n using Nat.strongRecOn with
  | ind n ih =>
    intro s X Y LX LY hs hX
    by_cases h : s = []
    · subst h; rw [tree_nil, path_nil]; rfl
    · have ht := top_is s h
      obtain ⟨m, hm, _⟩ := id ht
      have hlt := ht.lt
      rw [tree_at ht, path_at ht hm]
      refine ⟨rfl, X.length + top s, m, ((tree (s.take (top s)) X.length).1, (tree (s.drop (top s + 1)) (X.length + top s + 1)).1), rfl, ?_, ?_, ?_, ?_, ?_⟩
      · rw [List.append_assoc, List.getElem?_append_right (by omega), show X.length + top s - X.length = top s by omega, List.getElem?_append_left hlt]; exact hm
      · rw [List.append_assoc, List.getElem?_append_right (by omega), hX, show X.length + top s - X.length = top s by omega, List.getElem?_append_left (by simp only [List.length_append, List.length_cons]; rw [tree_len _ _ _ rfl]; simp; omega), List.getElem?_append_right (by rw [tree_len _ _ _ rfl]; simp; omega)]
        rw [tree_len _ _ _ rfl]
        have : top s - (s.take (top s)).length = 0 := by simp; omega
        rw [this]; rfl
      · intro hq
        rw [if_pos hq]
        have e := split_at hm
        have := ih (s.take (top s)).length (by simp; omega) (s.take (top s)) X (m :: s.drop (top s + 1) ++ Y) LX (((tree (s.take (top s)) X.length).1, (tree (s.drop (top s + 1)) (X.length + top s + 1)).1) :: (tree (s.drop (top s + 1)) (X.length + top s + 1)).2 ++ LY) rfl hX
        have e1 : X ++ s ++ Y = X ++ s.take (top s) ++ (m :: s.drop (top s + 1) ++ Y) := by
          have : X ++ s ++ Y = X ++ (s.take (top s) ++ m :: s.drop (top s + 1)) ++ Y := congrArg (fun z => X ++ z ++ Y) e
          rw [this]; simp
        rw [e1]
        simpa using this
      · intro hq
        rw [if_neg (by omega), if_pos hq]
        have e := split_at hm
        have hl : (X ++ s.take (top s) ++ [m]).length = X.length + top s + 1 := by simp; omega
        have := ih (s.drop (top s + 1)).length (by simp; omega) (s.drop (top s + 1)) (X ++ s.take (top s) ++ [m]) Y (LX ++ (tree (s.take (top s)) X.length).2 ++ [((tree (s.take (top s)) X.length).1, (tree (s.drop (top s + 1)) (X.length + top s + 1)).1)]) LY rfl (by
          simp only [List.length_append, List.length_cons, List.length_nil]; rw [tree_len _ _ _ rfl, hX])
        rw [hl] at this
        have e1 : X ++ s ++ Y = X ++ s.take (top s) ++ [m] ++ s.drop (top s + 1) ++ Y := by
          have : X ++ s ++ Y = X ++ (s.take (top s) ++ m :: s.drop (top s + 1)) ++ Y := congrArg (fun z => X ++ z ++ Y) e
          rw [this]; simp
        rw [e1]
        simpa using this
      · rintro rfl
        simp

theorem way_of (l : List Int) (q : Int) : Way l (tree l 0).2 q (tree l 0).1 (path l 0 q) := by
  have := way_path q l.length l [] [] [] [] rfl rfl
  simpa using this

/-- Where a key is met, it is met at the last. -/
def Rising (l : List Int) : Prop := l.Pairwise fun a b => a < b
theorem Rising.lt {l : List Int} (h : Rising l) {i j : Nat} {x y : Int} (hi : l[i]? = some x) (hj : l[j]? = some y) (hij : i < j) : x < y := by
  obtain ⟨hil, rfl⟩ := List.getElem?_eq_some_iff.1 hi
  obtain ⟨hjl, rfl⟩ := List.getElem?_eq_some_iff.1 hj
  exact List.pairwise_iff_getElem.1 h i j hil hjl hij
theorem Rising.take {l : List Int} (h : Rising l) (n : Nat) : Rising (l.take n) := List.Pairwise.sublist (List.take_sublist n l) h
theorem Rising.drop {l : List Int} (h : Rising l) (n : Nat) : Rising (l.drop n) := List.Pairwise.sublist (List.drop_sublist n l) h

theorem path_last (q : Int) : ∀ (n : Nat) (s : List Int) (off i : Nat), s.length = n → Rising s → s[i]? = some q → (path s off q).getLast? = some ((off + i + 1 : Nat) : Int) := by
  intro n
  induction n using Nat.strongRecOn with
  | ind n ih =>
    intro s off i hs hr hi
    have hil := (List.getElem?_eq_some_iff.1 hi).1
    have h : s ≠ [] := by intro e; subst e; simp at hil
    have ht := top_is s h
    obtain ⟨m, hm, _⟩ := id ht
    have hlt := ht.lt
    rw [path_at ht hm]
    rcases Nat.lt_trichotomy i (top s) with c | c | c
    · have := hr.lt hi hm c
      rw [if_pos this]
      have hi' : (s.take (top s))[i]? = some q := by rw [List.getElem?_take, if_pos c]; exact hi
      have hx := ih (s.take (top s)).length (by simp; omega) _ off i rfl (hr.take _) hi'
      rw [List.getLast?_cons, hx]; rfl
    · subst c
      rw [hm] at hi; cases hi
      simp
    · have := hr.lt hm hi c
      rw [if_neg (by omega), if_pos this]
      have hi' : (s.drop (top s + 1))[i - (top s + 1)]? = some q := by rw [List.getElem?_drop, show top s + 1 + (i - (top s + 1)) = i by omega]; exact hi
      have hx := ih (s.drop (top s + 1)).length (by simp; omega) _ (off + top s + 1) (i - (top s + 1)) rfl (hr.drop _) hi'
      rw [List.getLast?_cons, hx, show off + top s + 1 + (i - (top s + 1)) + 1 = off + i + 1 by omega]; rfl

/-! One key more. -/

/-- The numbers behind the place of the one more are one more. -/
def sk (k : Nat) (x : Int) : Int := if (k : Int) < x then x + 1 else x

/-- Up to j the way to q of the one is that of the other; there q hangs. -/
def Meets (s : List Int) (off k : Nat) (q : Int) (j : Nat) (p b : List Int) : Prop :=
  j ≤ p.length ∧ (∀ (i : Nat) x, i < j → p[i]? = some x → (∃ (z : Nat) (m : Int), x = ((off + z + 1 : Nat) : Int) ∧ s[z]? = some m ∧ mixed q < mixed m) ∧ b[i]? = some (sk (off + k) x)) ∧
  (∀ x, p[j]? = some x → ∃ (z : Nat) (m : Int), x = ((off + z + 1 : Nat) : Int) ∧ s[z]? = some m ∧ ¬ mixed q < mixed m) ∧
  b.length = j + 1 ∧ b[j]? = some ((off + k + 1 : Nat) : Int)

theorem puts (q : Int) : ∀ (n : Nat) (s : List Int) (off k : Nat), s.length = n → k ≤ s.length → Rising s → Apart (s.take k ++ q :: s.drop k) →
    (∀ (i : Nat) x, s[i]? = some x → (x < q ↔ i < k) ∧ x ≠ q) → ∃ j, Meets s off k q j (path s off q) (path (s.take k ++ q :: s.drop k) off q) := by
  intro n
  induction n using Nat.strongRecOn with
  | ind n ih =>
    intro s off k hs hk hr hA hq
    have hmk : (s.take k ++ q :: s.drop k)[k]? = some q := by
      rw [List.getElem?_append_right (by simp; omega)]
      have : k - (s.take k).length = 0 := by simp; omega
      rw [this]; rfl
    have left : ∀ i x, i < k → s[i]? = some x → (s.take k ++ q :: s.drop k)[i]? = some x := fun i x hi hx => by
      rw [List.getElem?_append_left (by simp; omega), List.getElem?_take, if_pos hi]; exact hx
    have right : ∀ i x, k ≤ i → s[i]? = some x → (s.take k ++ q :: s.drop k)[i + 1]? = some x := fun i x hi hx => by
      rw [List.getElem?_append_right (by simp; omega)]
      have : i + 1 - (s.take k).length = (i - k) + 1 := by simp; omega
      rw [this, List.getElem?_cons_succ, List.getElem?_drop, show k + (i - k) = i by omega]; exact hx
    have back : ∀ (j : Nat) x, (s.take k ++ q :: s.drop k)[j]? = some x → (j < k ∧ s[j]? = some x) ∨ (j = k ∧ x = q) ∨ (k < j ∧ s[j - 1]? = some x) := fun j x hx => by
      rcases Nat.lt_trichotomy j k with c | c | c
      · rw [List.getElem?_append_left (by simp; omega), List.getElem?_take, if_pos c] at hx; exact .inl ⟨c, hx⟩
      · subst c; rw [hmk] at hx; exact .inr (.inl ⟨rfl, (Option.some.inj hx).symm⟩)
      · rw [List.getElem?_append_right (by simp; omega)] at hx
        have : j - (s.take k).length = (j - 1 - k) + 1 := by simp; omega
        rw [this, List.getElem?_cons_succ, List.getElem?_drop, show k + (j - 1 - k) = j - 1 by omega] at hx
        exact .inr (.inr ⟨c, hx⟩)
    by_cases h : s = []
    · subst h
      have : k = 0 := by simpa using hk
      subst this
      refine ⟨0, by simp, fun i x hi => by omega, fun x hx => by simp [path_nil] at hx, ?_, ?_⟩
      · rw [path_at (t := 0) (m := q) (isTop_of_max hA rfl (fun j x hx => by
          match j, hx with
          | 0, hx => simp at hx; subst hx; exact Int.le_refl _
          | j + 1, hx => simp at hx)) rfl]; simp
      · rw [path_at (t := 0) (m := q) (isTop_of_max hA rfl (fun j x hx => by
          match j, hx with
          | 0, hx => simp at hx; subst hx; exact Int.le_refl _
          | j + 1, hx => simp at hx)) rfl]; simp
    · have ht := top_is s h
      obtain ⟨m, hm, hmax, _⟩ := id ht
      have hlt := ht.lt
      have hqm := hq _ _ hm
      by_cases hb : mixed q < mixed m
      · by_cases hc : top s < k
        · -- to the right
          have hmq : m < q := hqm.1.2 hc
          have ht2 : IsTop (s.take k ++ q :: s.drop k) (top s) := isTop_of_max hA (left _ _ hc hm) (fun j x hx => by
            rcases back j x hx with ⟨_, hx⟩ | ⟨_, rfl⟩ | ⟨_, hx⟩
            · exact hmax _ _ hx
            · omega
            · exact hmax _ _ hx)
          have e : (s.take k ++ q :: s.drop k).drop (top s + 1) = (s.drop (top s + 1)).take (k - (top s + 1)) ++ q :: (s.drop (top s + 1)).drop (k - (top s + 1)) := by
            rw [List.drop_append_of_le_length (by simp; omega), List.drop_take, List.drop_drop, show top s + 1 + (k - (top s + 1)) = k by omega]
          obtain ⟨j, h1, h2, h3, h4, h5⟩ := ih (s.drop (top s + 1)).length (by simp; omega) (s.drop (top s + 1)) (off + top s + 1) (k - (top s + 1)) rfl (by simp; omega) (hr.drop _) (by rw [← e]; exact hA.drop _) (fun i x hx => by
            rw [List.getElem?_drop] at hx
            have := hq _ _ hx
            exact ⟨by rw [this.1]; omega, this.2⟩)
          have ek : off + top s + 1 + (k - (top s + 1)) = off + k := by omega
          rw [ek] at h2 h5
          rw [path_at ht hm, if_neg (by omega), if_pos hmq, path_at ht2 (left _ _ hc hm), if_neg (by omega), if_pos hmq, e]
          refine ⟨j + 1, by rw [List.length_cons]; omega, fun i x hi hx => ?_, fun x hx => ?_, by rw [List.length_cons, h4], by rw [List.getElem?_cons_succ]; exact h5⟩
          · match i, hx with
            | 0, hx =>
              simp at hx; subst hx
              exact ⟨⟨top s, m, by simp, hm, hb⟩, by simp [sk]; omega⟩
            | i + 1, hx =>
              obtain ⟨⟨z, mm, e1, e2, e3⟩, e4⟩ := h2 i x (by omega) (by simpa using hx)
              exact ⟨⟨top s + 1 + z, mm, by rw [e1]; omega, by rw [List.getElem?_drop] at e2; exact e2, e3⟩, by simpa using e4⟩
          · obtain ⟨z, mm, e1, e2, e3⟩ := h3 x (by simpa using hx)
            exact ⟨top s + 1 + z, mm, by rw [e1]; omega, by rw [List.getElem?_drop] at e2; exact e2, e3⟩
        · -- to the left
          have hmq : q < m := by
            have := hqm.2
            have := fun h => hc (hqm.1.1 h)
            omega
          have ht2 : IsTop (s.take k ++ q :: s.drop k) (top s + 1) := isTop_of_max hA (right _ _ (by omega) hm) (fun j x hx => by
            rcases back j x hx with ⟨_, hx⟩ | ⟨_, rfl⟩ | ⟨_, hx⟩
            · exact hmax _ _ hx
            · omega
            · exact hmax _ _ hx)
          have e : (s.take k ++ q :: s.drop k).take (top s + 1) = (s.take (top s)).take k ++ q :: (s.take (top s)).drop k := by
            rw [List.take_append, List.take_of_length_le (l := s.take k) (by simp; omega)]
            have : top s + 1 - (s.take k).length = (top s - k) + 1 := by simp; omega
            rw [this, List.take_succ_cons, List.take_take, Nat.min_eq_left (by omega), List.drop_take]
          obtain ⟨j, h1, h2, h3, h4, h5⟩ := ih (s.take (top s)).length (by simp; omega) (s.take (top s)) off k rfl (by simp; omega) (hr.take _) (by rw [← e]; exact hA.take _) (fun i x hx => by
            rw [List.getElem?_take] at hx
            split at hx
            · exact hq _ _ hx
            · cases hx)
          rw [path_at ht hm, if_pos hmq, path_at ht2 (right _ _ (by omega) hm), if_pos hmq, e]
          have up : ∀ z mm, (s.take (top s))[z]? = some mm → s[z]? = some mm := fun z mm hz => by
            rw [List.getElem?_take] at hz
            split at hz
            · exact hz
            · cases hz
          refine ⟨j + 1, by rw [List.length_cons]; omega, fun i x hi hx => ?_, fun x hx => ?_, by rw [List.length_cons, h4], by rw [List.getElem?_cons_succ]; exact h5⟩
          · match i, hx with
            | 0, hx =>
              simp at hx; subst hx
              refine ⟨⟨top s, m, by simp, hm, hb⟩, ?_⟩
              simp only [List.getElem?_cons_zero, sk]
              rw [if_pos (by omega)]
              congr 1
            | i + 1, hx =>
              obtain ⟨⟨z, mm, e1, e2, e3⟩, e4⟩ := h2 i x (by omega) (by simpa using hx)
              exact ⟨⟨z, mm, e1, up _ _ e2, e3⟩, by simpa using e4⟩
          · obtain ⟨z, mm, e1, e2, e3⟩ := h3 x (by simpa using hx)
            exact ⟨z, mm, e1, up _ _ e2, e3⟩
      · -- q is the top
        have ht2 : IsTop (s.take k ++ q :: s.drop k) k := isTop_of_max hA hmk (fun j x hx => by
          rcases back j x hx with ⟨_, hx⟩ | ⟨_, rfl⟩ | ⟨_, hx⟩
          · have := hmax _ _ hx; omega
          · exact Int.le_refl _
          · have := hmax _ _ hx; omega)
        refine ⟨0, by simp, fun i x hi => by omega, fun x hx => ?_, ?_, ?_⟩
        · rw [path_at ht hm] at hx
          simp at hx; subst hx
          exact ⟨top s, m, by simp, hm, hb⟩
        · rw [path_at ht2 hmk]; simp
        · rw [path_at ht2 hmk]; simp

end Go.Proofs.YtnmeakkehonnmaaDoor.Trp
