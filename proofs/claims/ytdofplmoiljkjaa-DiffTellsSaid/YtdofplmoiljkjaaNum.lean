/-
  The plain part of stage 5: what makes words others, patching, and writes behind others, over lists of integers; the stage's theorem over them. No condition but those that each theorem says.
-/
import Derived.Lib.Hide
namespace Go.Proofs.Ytdofplmoiljkjaa

abbrev Wr := Int × Int

/-- The places, of the first k, at which a and b differ. -/
def unl (a b : List Int) (k : Nat) : List Nat := (List.range k).filter fun i => decide (a[i]?.getD 0 ≠ b[i]?.getD 0)
/-- The writes of these. -/
def ofK (a b : List Int) (base : Int) (k : Nat) : List Wr := (unl a b k).map fun (i : Nat) => (base + (i : Int), b[i]?.getD 0)

theorem unl_zero (a b : List Int) : unl a b 0 = [] := rfl
theorem unl_yes {a b : List Int} {k : Nat} (h : a[k]?.getD 0 ≠ b[k]?.getD 0) : unl a b (k + 1) = unl a b k ++ [k] := by
  unfold unl; rw [List.range_succ, List.filter_append]; simp [h]
theorem unl_no {a b : List Int} {k : Nat} (h : a[k]?.getD 0 = b[k]?.getD 0) : unl a b (k + 1) = unl a b k := by
  unfold unl; rw [List.range_succ, List.filter_append]; simp [h]
theorem unl_len (a b : List Int) (k : Nat) : (unl a b k).length ≤ k := by
  unfold unl; have := List.length_filter_le (fun i => decide (a[i]?.getD 0 ≠ b[i]?.getD 0)) (List.range k); simpa using this
theorem mem_unl {a b : List Int} {k i : Nat} : i ∈ unl a b k ↔ i < k ∧ a[i]?.getD 0 ≠ b[i]?.getD 0 := by
  unfold unl; simp
theorem ofK_yes {a b : List Int} {base : Int} {k : Nat} (h : a[k]?.getD 0 ≠ b[k]?.getD 0) : ofK a b base (k + 1) = ofK a b base k ++ [(base + k, b[k]?.getD 0)] := by
  unfold ofK; rw [unl_yes h]; simp
theorem ofK_no {a b : List Int} {base : Int} {k : Nat} (h : a[k]?.getD 0 = b[k]?.getD 0) : ofK a b base (k + 1) = ofK a b base k := by
  unfold ofK; rw [unl_no h]
theorem ofK_len (a b : List Int) (base : Int) (k : Nat) : (ofK a b base k).length = (unl a b k).length := by unfold ofK; simp
theorem ofK_le (a b : List Int) (base : Int) (k : Nat) : (ofK a b base k).length ≤ k := by rw [ofK_len]; exact unl_len a b k
theorem mem_ofK {a b : List Int} {base : Int} {k : Nat} {y : Wr} : y ∈ ofK a b base k ↔ ∃ i, i < k ∧ a[i]?.getD 0 ≠ b[i]?.getD 0 ∧ y = (base + i, b[i]?.getD 0) := by
  unfold ofK; rw [List.mem_map]
  constructor
  · rintro ⟨i, hi, rfl⟩; have := mem_unl.1 hi; exact ⟨i, this.1, this.2, rfl⟩
  · rintro ⟨i, hi, hne, rfl⟩; exact ⟨i, mem_unl.2 ⟨hi, hne⟩, rfl⟩
theorem unl_rises (a b : List Int) (k : Nat) : (unl a b k).Pairwise (· < ·) := by
  unfold unl; exact List.Pairwise.filter _ List.pairwise_lt_range
theorem ofK_rises (a b : List Int) (base : Int) (k : Nat) : (ofK a b base k).Pairwise (fun x y => x.1 < y.1) := by
  unfold ofK; rw [List.pairwise_map]; exact (unl_rises a b k).imp fun {i j} h => by show base + (i : Int) < base + (j : Int); omega
theorem get_getD {a : List Int} {i : Nat} (h : i < a.length) : a[i]? = some (a[i]?.getD 0) := by
  rw [List.getElem?_eq_getElem h]; rfl
theorem ext_getD {a b : List Int} (hl : a.length = b.length) (h : ∀ i, i < a.length → a[i]?.getD 0 = b[i]?.getD 0) : a = b := by
  apply List.ext_getElem? ; intro i
  by_cases hi : i < a.length
  · rw [get_getD hi, get_getD (a := b) (hl ▸ hi)]; exact congrArg some (h i hi)
  · rw [List.getElem?_eq_none (by omega), List.getElem?_eq_none (by omega)]
theorem unl_nil {a b : List Int} (hl : a.length = b.length) : unl a b a.length = [] ↔ a = b := by
  constructor
  · intro h
    refine ext_getD hl fun i hi => ?_
    by_cases he : a[i]?.getD 0 = b[i]?.getD 0
    · exact he
    · have := (mem_unl (a := a) (b := b)).2 ⟨hi, he⟩; rw [h] at this; cases this
  · rintro rfl; unfold unl; rw [List.filter_eq_nil_iff]; simp
theorem unl_swap (a b : List Int) (k : Nat) : unl a b k = unl b a k := by
  unfold unl; refine List.filter_congr fun i _ => ?_; exact decide_eq_decide.2 ⟨fun h e => h e.symm, fun h e => h e.symm⟩

/-- Patch. -/
def patchL (base : Int) : List Int → List Wr → Option (List Int)
  | a, [] => some a
  | a, y :: l => if y.1 < base ∨ (a.length : Int) ≤ y.1 - base then none else patchL base (a.set (y.1 - base).toNat y.2) l

theorem patch_bad {base : Int} {a : List Int} {y : Wr} {l : List Wr} (h : y.1 < base ∨ (a.length : Int) ≤ y.1 - base) : patchL base a (y :: l) = none := by rw [patchL, if_pos h]
theorem patch_ok {base : Int} {a : List Int} {y : Wr} {l : List Wr} (h : ¬ (y.1 < base ∨ (a.length : Int) ≤ y.1 - base)) : patchL base a (y :: l) = patchL base (a.set (y.1 - base).toNat y.2) l := by rw [patchL, if_neg h]
theorem patch_len {base : Int} : ∀ {l : List Wr} {a c : List Int}, patchL base a l = some c → c.length = a.length
  | [], a, c, h => by simp [patchL] at h; rw [h]
  | y :: l, a, c, h => by
    by_cases hb : y.1 < base ∨ (a.length : Int) ≤ y.1 - base
    · rw [patch_bad hb] at h; cases h
    · rw [patch_ok hb] at h; have := patch_len h; simpa using this
theorem patch_append {base : Int} : ∀ {l m : List Wr} {a b c : List Int}, patchL base a l = some b → patchL base b m = some c → patchL base a (l ++ m) = some c
  | [], m, a, b, c, h, g => by simp [patchL] at h; subst h; exact g
  | y :: l, m, a, b, c, h, g => by
    by_cases hb : y.1 < base ∨ (a.length : Int) ≤ y.1 - base
    · rw [patch_bad hb] at h; cases h
    · rw [patch_ok hb] at h; rw [List.cons_append, patch_ok hb]; exact patch_append h g
theorem patch_some {base : Int} : ∀ {l : List Wr} {a : List Int}, (∀ y ∈ l, base ≤ y.1 ∧ y.1 < base + a.length) → ∃ c, patchL base a l = some c
  | [], a, _ => ⟨a, rfl⟩
  | y :: l, a, h => by
    have h0 := h y (by simp)
    rw [patch_ok (by omega)]
    exact patch_some fun z hz => by have := h z (by simp [hz]); simpa using this

/-- The last write of a place. -/
def lastW : List Wr → Int → Option Int
  | [], _ => none
  | y :: r, p => match lastW r p with | some x => some x | none => if y.1 = p then some y.2 else none

theorem lastW_snoc (l : List Wr) (y : Wr) (p : Int) : lastW (l ++ [y]) p = if y.1 = p then some y.2 else lastW l p := by
  induction l with
  | nil => simp [lastW]
  | cons z r ih =>
    rw [List.cons_append, lastW, ih]
    by_cases h : y.1 = p
    · simp [h]
    · simp only [if_neg h]; rfl
theorem lastW_mem {l : List Wr} {p x : Int} (h : lastW l p = some x) : (p, x) ∈ l := by
  induction l with
  | nil => cases h
  | cons z r ih =>
    rw [lastW] at h
    split at h
    · rename_i x' hx; cases h; exact List.mem_cons_of_mem _ (ih hx)
    · split at h
      · rename_i he; cases h; rw [← he]; simp
      · cases h
theorem lastW_none {l : List Wr} {p : Int} : lastW l p = none ↔ ∀ y ∈ l, y.1 ≠ p := by
  induction l with
  | nil => simp [lastW]
  | cons z r ih =>
    rw [lastW]
    cases hr : lastW r p with
    | some x =>
      simp only [reduceCtorEq, false_iff]
      intro h
      exact h _ (List.mem_cons_of_mem _ (lastW_mem hr)) rfl
    | none =>
      have h1 := ih.1 hr
      by_cases he : z.1 = p
      · simp [he]
      · simp [he]; exact fun a b h => h1 (a, b) h
/-- .. by places of the list. -/
theorem lastW_at : ∀ {l : List Wr} {p x : Int}, lastW l p = some x → ∃ j : Nat, l[j]? = some (p, x) ∧ ∀ (k : Nat) (y : Wr), j < k → l[k]? = some y → y.1 ≠ p
  | [], _, _, h => by cases h
  | z :: r, p, x, h => by
    rw [lastW] at h
    split at h
    · rename_i x2 hx2
      cases h
      obtain ⟨j, a1, a2⟩ := lastW_at hx2
      exact ⟨j + 1, by simpa using a1, fun k y hk hy => by
        cases k with
        | zero => omega
        | succ k => exact a2 k y (by omega) (by simpa using hy)⟩
    · rename_i hn
      split at h
      · rename_i he
        cases h
        exact ⟨0, by simp [← he], fun k y hk hy => by
          cases k with
          | zero => omega
          | succ k => exact lastW_none.1 hn y (List.mem_of_getElem? (by simpa using hy))⟩
      · cases h
theorem lastW_iff {l : List Wr} {p x : Int} : lastW l p = some x ↔ ∃ j : Nat, l[j]? = some (p, x) ∧ ∀ (k : Nat) (y : Wr), j < k → l[k]? = some y → y.1 ≠ p := by
  refine ⟨lastW_at, ?_⟩
  rintro ⟨i, a1, a2⟩
  cases hr : lastW l p with
  | none => exact absurd rfl (lastW_none.1 hr (p, x) (List.mem_of_getElem? a1))
  | some x' =>
    obtain ⟨j, h1, h2⟩ := lastW_at hr
    rcases Nat.lt_trichotomy i j with hij | rfl | hij
    · exact absurd rfl (a2 j (p, x') hij h1)
    · rw [h1] at a1; cases a1; rfl
    · exact absurd rfl (h2 i (p, x) hij a1)

/-- What a patch leaves at a place: the last write of it, or what was there. -/
theorem patch_last {base : Int} : ∀ {l : List Wr} {a c : List Int}, patchL base a l = some c → ∀ j : Nat, j < a.length → c[j]?.getD 0 = (lastW l (base + j)).getD (a[j]?.getD 0)
  | [], a, c, h, j, _ => by simp [patchL] at h; subst h; rfl
  | y :: l, a, c, h, j, hj => by
    by_cases hb : y.1 < base ∨ (a.length : Int) ≤ y.1 - base
    · rw [patch_bad hb] at h; cases h
    · rw [patch_ok hb] at h
      have := patch_last h j (by simpa using hj)
      rw [this, lastW]
      cases lastW l (base + j) with
      | some x => rfl
      | none =>
        by_cases he : y.1 = base + j
        · have : (y.1 - base).toNat = j := by omega
          rw [if_pos he, this, List.getElem?_set_self hj]; rfl
        · have : (y.1 - base).toNat ≠ j := by omega
          rw [if_neg he, List.getElem?_set_ne this]

/-- Writes that all are of b's words, and are of each place at which a is not b, make b of a, in whatever order. -/
theorem patch_to {base : Int} : ∀ {l : List Wr} {a b : List Int}, a.length = b.length → (∀ y ∈ l, base ≤ y.1 ∧ y.1 < base + a.length ∧ b[(y.1 - base).toNat]?.getD 0 = y.2) →
    (∀ j : Nat, j < a.length → a[j]?.getD 0 ≠ b[j]?.getD 0 → ∃ y ∈ l, y.1 = base + j) → patchL base a l = some b
  | [], a, b, hl, _, h2 => by
    have : a = b := ext_getD hl fun i hi => by
      by_cases he : a[i]?.getD 0 = b[i]?.getD 0
      · exact he
      · obtain ⟨y, hy, _⟩ := h2 i hi he; cases hy
    rw [this]; rfl
  | y :: l, a, b, hl, h1, h2 => by
    obtain ⟨a1, a2, a3⟩ := h1 y (by simp)
    rw [patch_ok (by omega)]
    refine patch_to (by simpa using hl) (fun z hz => by have := h1 z (by simp [hz]); simpa using this) fun j hj hne => ?_
    rw [List.length_set] at hj
    by_cases he : (y.1 - base).toNat = j
    · subst he
      rw [List.getElem?_set_self hj] at hne
      exact absurd a3.symm hne
    · rw [List.getElem?_set_ne he] at hne
      obtain ⟨z, hz, hzj⟩ := h2 j hj hne
      rcases List.mem_cons.1 hz with rfl | hz
      · exact absurd (by omega) he
      · exact ⟨z, hz, hzj⟩

/-- Patch of a by Of of a and b is b. -/
theorem patch_of {a b : List Int} {base : Int} (hl : a.length = b.length) : patchL base a (ofK a b base a.length) = some b := by
  refine patch_to hl (fun y hy => ?_) fun j hj hne => ?_
  · obtain ⟨i, hi, _, rfl⟩ := mem_ofK.1 hy
    refine ⟨by simp; omega, by simp; omega, ?_⟩
    rw [show ((base + (i : Int), b[i]?.getD 0).1 - base).toNat = i from by simp; omega]
  · exact ⟨_, mem_ofK.2 ⟨j, hj, hne, rfl⟩, rfl⟩
/-- .. in whatever order, and of whatever words that differ from b nowhere else. -/
theorem patch_of_perm {a b c : List Int} {base : Int} {l : List Wr} (hl : a.length = b.length) (hc : c.length = b.length) (hp : ∀ y, y ∈ l ↔ y ∈ ofK a b base a.length) (hd : ∀ j, j < c.length → c[j]?.getD 0 ≠ b[j]?.getD 0 → a[j]?.getD 0 ≠ b[j]?.getD 0) : patchL base c l = some b := by
  refine patch_to hc (fun y hy => ?_) fun j hj hne => ?_
  · obtain ⟨i, hi, _, rfl⟩ := mem_ofK.1 ((hp y).1 hy)
    refine ⟨by simp; omega, by simp; omega, ?_⟩
    rw [show ((base + (i : Int), b[i]?.getD 0).1 - base).toNat = i from by simp; omega]
  · exact ⟨_, (hp _).2 (mem_ofK.2 ⟨j, by omega, hd j hj hne, rfl⟩), rfl⟩
/-- No write of it may be left out. -/
theorem patch_less {a b : List Int} {base : Int} (hl : a.length = b.length) {i : Nat} (hi : i < (ofK a b base a.length).length) :
    ∃ c, patchL base a ((ofK a b base a.length).take i ++ (ofK a b base a.length).drop (i + 1)) = some c ∧ c ≠ b := by
  have hr := ofK_rises a b base a.length
  generalize hL : ofK a b base a.length = L at hi hr
  have hsub : ∀ y ∈ L.take i ++ L.drop (i + 1), y ∈ L := fun y hy => by
    rcases List.mem_append.1 hy with h | h
    · exact List.mem_of_mem_take h
    · exact List.mem_of_mem_drop h
  obtain ⟨c, hc⟩ := patch_some (base := base) (a := a) (l := L.take i ++ L.drop (i + 1)) fun y hy => by
    obtain ⟨j, hj, _, rfl⟩ := mem_ofK.1 (hL ▸ hsub y hy); simp; omega
  refine ⟨c, hc, fun e => ?_⟩
  subst e
  have hmem : L[i] ∈ ofK a c base a.length := by rw [hL]; exact List.getElem_mem hi
  obtain ⟨j, hj, hne, he⟩ := mem_ofK.1 hmem
  have := patch_last hc j hj
  have hnone : lastW (L.take i ++ L.drop (i + 1)) (base + j) = none := lastW_none.2 fun y hy e => by
    have hp : L[i].1 = base + j := by rw [he]
    rw [List.pairwise_iff_getElem] at hr
    rcases List.mem_append.1 hy with h | h
    · obtain ⟨n, hn, rfl⟩ := List.mem_iff_getElem.1 h
      rw [List.length_take] at hn
      have h1 := hr n i (by omega) hi (by omega)
      rw [List.getElem_take] at e
      omega
    · obtain ⟨n, hn, rfl⟩ := List.mem_iff_getElem.1 h
      rw [List.length_drop] at hn
      have h1 := hr i (i + 1 + n) hi (by omega) (by omega)
      rw [List.getElem_drop] at e
      omega
  rw [hnone] at this
  exact hne this.symm

/-- Writes behind others, as one: each place once, rising, with its last write. -/
def IsThen (all ys : List Wr) : Prop := ys.Pairwise (fun x y => x.1 < y.1) ∧ ∀ p x, (p, x) ∈ ys ↔ lastW all p = some x

theorem eq_of_rising : ∀ {l m : List Wr}, l.Pairwise (fun x y => x.1 < y.1) → m.Pairwise (fun x y => x.1 < y.1) → (∀ y, y ∈ l ↔ y ∈ m) → l = m
  | [], [], _, _, _ => rfl
  | [], y :: m, _, _, h => by have := (h y).2 (by simp); cases this
  | y :: l, [], _, _, h => by have := (h y).1 (by simp); cases this
  | y :: l, z :: m, hl, hm, h => by
    rw [List.pairwise_cons] at hl hm
    have e : y = z := by
      rcases List.mem_cons.1 ((h y).1 (by simp)) with e | e
      · exact e
      · rcases List.mem_cons.1 ((h z).2 (by simp)) with e' | e'
        · exact e'.symm
        · have := hm.1 y e; have := hl.1 z e'; omega
    subst e
    rw [eq_of_rising hl.2 hm.2 fun x => ⟨fun hx => by
      rcases List.mem_cons.1 ((h x).1 (List.mem_cons_of_mem _ hx)) with e | e
      · subst e; have := hl.1 _ hx; omega
      · exact e, fun hx => by
      rcases List.mem_cons.1 ((h x).2 (List.mem_cons_of_mem _ hx)) with e | e
      · subst e; have := hm.1 _ hx; omega
      · exact e⟩]
theorem IsThen.unique {all ys zs : List Wr} (h : IsThen all ys) (g : IsThen all zs) : ys = zs :=
  eq_of_rising h.1 g.1 fun y => (h.2 y.1 y.2).trans (g.2 y.1 y.2).symm
theorem lastW_rising : ∀ {l : List Wr}, l.Pairwise (fun x y => x.1 < y.1) → ∀ p x, (p, x) ∈ l ↔ lastW l p = some x
  | [], _, p, x => by simp [lastW]
  | y :: r, h, p, x => by
    rw [List.pairwise_cons] at h
    have ih := lastW_rising h.2 p
    rw [lastW]
    cases hr : lastW r p with
    | some x' =>
      have hm := lastW_mem hr
      have hlt := h.1 _ hm
      simp only [List.mem_cons]
      constructor
      · rintro (e | e)
        · subst e; simp at hlt
        · have := (ih x).1 e; rw [hr] at this; exact this
      · intro e; exact .inr ((ih x).2 (hr.trans e))
    | none =>
      have hn := lastW_none.1 hr
      by_cases he : y.1 = p
      · simp only [if_pos he, List.mem_cons]
        constructor
        · rintro (e | e)
          · rw [← e]
          · exact absurd rfl (hn _ e)
        · intro e; cases e; exact .inl (by rw [← he])
      · simp only [if_neg he, List.mem_cons]
        constructor
        · rintro (e | e)
          · rw [← e] at he; exact absurd rfl he
          · exact absurd rfl (hn _ e)
        · intro e; cases e
theorem IsThen.self {l : List Wr} (h : l.Pairwise (fun x y => x.1 < y.1)) : IsThen l l := ⟨h, lastW_rising h⟩
theorem IsThen.again {all t u : List Wr} (h : IsThen all t) (g : IsThen t u) : u = t := g.unique (IsThen.self h.1)
/-- Rising numbers from k on, below k and n, are n at most. -/
theorem rising_len : ∀ {l : List Wr} {k : Int} {n : Nat}, l.Pairwise (fun x y => x.1 < y.1) → (∀ y ∈ l, k ≤ y.1 ∧ y.1 < k + n) → l.length ≤ n
  | [], _, _, _, _ => Nat.zero_le _
  | y :: r, k, n, h, hb => by
    rw [List.pairwise_cons] at h
    have h0 := hb y (by simp)
    cases n with
    | zero => simp at h0; omega
    | succ n =>
      have := rising_len (k := y.1 + 1) (n := n) h.2 fun z hz => by
        have h1 := h.1 z hz; have h2 := hb z (by simp [hz]); exact ⟨by omega, by omega⟩
      simp; omega
/-- Patch by Then is Patch by the first ones, and then by the others. -/
theorem patch_then {base : Int} {a b c : List Int} {l m t : List Wr} (hl : patchL base a l = some b) (hm : patchL base b m = some c) (hb : ∀ y ∈ l ++ m, base ≤ y.1 ∧ y.1 < base + a.length) (ht : IsThen (l ++ m) t) : patchL base a t = some c := by
  have hc := patch_append hl hm
  have hn := patch_len hc
  refine patch_to hn.symm (fun y hy => ?_) fun j hj hne => ?_
  · have h1 := (ht.2 y.1 y.2).1 hy
    have h2 := hb _ (lastW_mem h1)
    simp only at h2
    refine ⟨h2.1, h2.2, ?_⟩
    rw [patch_last hc _ (by omega), show base + ((y.1 - base).toNat : Int) = y.1 by omega, h1]; rfl
  · have h1 := patch_last hc j hj
    cases hq : lastW (l ++ m) (base + j) with
    | none => rw [hq] at h1; exact absurd h1.symm hne
    | some x => exact ⟨(base + j, x), (ht.2 _ _).2 hq, rfl⟩
theorem then_bounds {k : Int} {n : Nat} {all t : List Wr} (ht : IsThen all t) (hb : ∀ y ∈ all, k ≤ y.1 ∧ y.1 < k + n) : ∀ y ∈ t, k ≤ y.1 ∧ y.1 < k + n := fun y hy => by
  have := hb _ (lastW_mem ((ht.2 y.1 y.2).1 hy)); simpa using this

end Go.Proofs.Ytdofplmoiljkjaa
