/-
  Parts of a proof, one behind the other: AutPlain, AutFacts. Each says its own conditions.
-/
import Derived.Test.YtmonkcekkhfafaaGreatDoorM01
import Derived.Test.YtmonkcekkhfafaaGreatDoorM04
import Derived.Lib.Hide

/- AutPlain:
  Objects as they are meant, over lists of integers: which states are right, what calls do to them and tell, and the read-out. No condition: definitions, and facts on them.
-/
namespace Go.Proofs.YtmonkcekkhfafaaGreatDoor.Aut

/-- A state: its word, its keys, their values, its votes, whether it is closed. -/
structure St where
  reg : Int
  keys : List Int
  vals : List Int
  votes : List Int
  closed : Bool
deriving DecidableEq
/-- A call: its code, its key, its value. -/
structure Cl where
  code : Int
  key : Int
  val : Int
deriving DecidableEq
/-- An answer: its error, its value. -/
abbrev Rs := Int × Int

def I64 (x : Int) : Prop := -9223372036854775808 ≤ x ∧ x < 9223372036854775808
def U64 (x : Int) : Prop := 0 ≤ x ∧ x < 18446744073709551616
def fits (k p m : Int) : Bool := Reg.fits k p m
def zeroS : St := ⟨0, [], [], [], false⟩
def zeroC : Cl := ⟨0, 0, 0⟩
def bitZ (b : Bool) : Int := if b then 1 else 0
def keyed (k : Int) : Bool := decide (k = 2 ∨ k = 3 ∨ k = 4)
def valued (k : Int) : Bool := decide (k = 3 ∨ k = 4)
/-- By what keys are in order. -/
def ordK (k x : Int) : Int := if k = 4 then rank x else x
/-- A key, as it is meant. -/
def meantK (k x : Int) : Int := if k = 4 then canon x else x
def mayK (k x : Int) : Bool := if k = 4 then true else decide (x ≤ 4611686018427387904)
def RisingK (k : Int) (l : List Int) : Prop := l.Pairwise fun a b => ordK k a < ordK k b
instance (k : Int) (l : List Int) : Decidable (RisingK k l) := inferInstanceAs (Decidable (l.Pairwise fun a b => ordK k a < ordK k b))

def KeysOk (k m : Int) (s : St) : Prop := (s.keys.length : Int) ≤ m ∧ s.vals.length = (if valued k then s.keys.length else 0) ∧ (∀ x ∈ s.keys, meantK k x = x ∧ mayK k x = true) ∧ RisingK k s.keys
def VotesOk (m : Int) (s : St) : Prop := (s.votes.length : Int) = m ∧ ∀ v ∈ s.votes, 0 ≤ v ∧ v ≤ 8
instance (k m : Int) (s : St) : Decidable (KeysOk k m s) := by unfold KeysOk; infer_instance
instance (m : Int) (s : St) : Decidable (VotesOk m s) := by unfold VotesOk; infer_instance
/-- Nothing is there that is not the object's. -/
def ElseOk (k : Int) (s : St) : Prop := (k = 1 ∨ s.reg = 0) ∧ (keyed k = true ∨ (s.keys = [] ∧ s.vals = [])) ∧ (k = 5 ∨ (s.votes = [] ∧ s.closed = false))
instance (k : Int) (s : St) : Decidable (ElseOk k s) := by unfold ElseOk; infer_instance
def rightS (k p m : Int) (s : St) : Bool := fits k p m && (decide (ElseOk k s) && (if k = 1 then decide (canon s.reg = s.reg) else if keyed k then decide (KeysOk k m s) else decide (VotesOk m s)))
def newS (k p m : Int) : St × Int := if fits k p m then (⟨0, [], [], if k = 5 then List.replicate m.toNat 0 else [], false⟩, 0) else (zeroS, 5)

/-- How many keys are ahead of one. -/
def posK (k : Int) (l : List Int) (x : Int) : Nat := (l.takeWhile fun y => decide (ordK k y < ordK k x)).length
def hereK (l : List Int) (i : Nat) (x : Int) : Bool := decide (l[i]? = some x)
def withL (l : List Int) (i : Nat) (x : Int) : List Int := l.take i ++ x :: l.drop i
def withoutL (l : List Int) (i : Nat) : List Int := l.take i ++ l.drop (i + 1)
def tallyL (l : List Int) (x : Int) : Nat := l.countP fun v => decide (v = x)

def regS (s : St) (o : Cl) : St × Rs :=
  if o.code = 1 then (s, (0, s.reg))
  else if o.code = 2 then ({ s with reg := canon o.val }, (0, s.reg))
  else if o.code = 3 then ({ s with reg := maxOf s.reg o.val }, (0, maxOf s.reg o.val))
  else if o.code = 4 then ({ s with reg := sumOf s.reg o.val }, (0, sumOf s.reg o.val))
  else (s, (10, 0))
def nextS (s : St) (i : Nat) : St × Rs := match s.keys[i]? with
  | some y => (s, (0, y))
  | none => (s, (12, 0))
def placedS (k m : Int) (s : St) (o : Cl) (x : Int) (i : Nat) (here : Bool) : St × Rs :=
  if o.code = 7 then
    if here then (if valued k then ({ s with keys := withoutL s.keys i, vals := withoutL s.vals i }, (0, s.vals.getD i 0)) else ({ s with keys := withoutL s.keys i }, (0, 0)))
    else (s, (12, 0))
  else if o.code = 8 then nextS s (if here = true ∧ o.val ≠ 0 then i + 1 else i)
  else if o.code = 5 ∧ valued k = false then (s, (0, bitZ here))
  else if o.code = 10 ∧ valued k = true then (if here then (s, (0, s.vals.getD i 0)) else (s, (12, 0)))
  else if o.code = 6 ∧ valued k = false then
    (if here then (s, (0, 0)) else if (s.keys.length : Int) = m then (s, (11, 0)) else ({ s with keys := withL s.keys i x }, (0, 1)))
  else if o.code = 11 ∧ valued k = true then
    (if here then ({ s with vals := s.vals.set i o.val }, (0, s.vals.getD i 0)) else if (s.keys.length : Int) = m then (s, (11, 0)) else ({ s with keys := withL s.keys i x, vals := withL s.vals i o.val }, (0, 0)))
  else (s, (10, 0))
def tableS (k m : Int) (s : St) (o : Cl) : St × Rs :=
  if o.code = 9 then (s, (0, (s.keys.length : Int)))
  else if mayK k o.key = true then placedS k m s o (meantK k o.key) (posK k s.keys (meantK k o.key)) (hereK s.keys (posK k s.keys (meantK k o.key)) (meantK k o.key))
  else (s, (10, 0))
def castS (m : Int) (s : St) (o : Cl) : St × Rs :=
  if m ≤ o.key ∨ o.val < 1 ∨ 8 < o.val then (s, (10, 0))
  else if s.closed = true then (s, (14, 0))
  else if s.votes.getD o.key.toNat 0 ≠ 0 then (s, (13, 0))
  else ({ s with votes := s.votes.set o.key.toNat o.val }, (0, 0))
def ballotS (m : Int) (s : St) (o : Cl) : St × Rs :=
  if o.code = 12 then castS m s o
  else if o.code = 13 then ({ s with closed := true }, (0, bitZ (!s.closed)))
  else if o.code = 14 then (if o.key < 1 ∨ 8 < o.key then (s, (10, 0)) else (s, (0, (tallyL s.votes o.key : Int))))
  else if o.code = 15 then (if m ≤ o.key then (s, (10, 0)) else (s, (0, s.votes.getD o.key.toNat 0)))
  else if o.code = 16 then (s, (0, bitZ s.closed))
  else (s, (10, 0))
def doS (k m : Int) (s : St) (o : Cl) : St × Rs := if k = 1 then regS s o else if keyed k then tableS k m s o else ballotS m s o
def doF (k p m : Int) (s : St) (o : Cl) : St × Rs × Int :=
  if fits k p m then (if rightS k p m s then ((doS k m s o).1, (doS k m s o).2, 0) else (zeroS, (0, 0), 1)) else (zeroS, (0, 0), 5)
def readsS (c : Int) : Bool := decide (c = 1 ∨ c = 5 ∨ c = 8 ∨ c = 9 ∨ c = 10 ∨ c = 14 ∨ c = 15 ∨ c = 16)

/-! The read-out. -/

def everyK (k : Int) : Nat := if valued k then 2 else 1
/-- A key is no key. -/
def overK (k : Int) (l : List Rs) : Prop := ∃ (i : Nat) (r : Rs), i % everyK k = 0 ∧ l[i]? = some r ∧ r.1 ≠ 0
instance (k : Int) (l : List Rs) : Decidable (overK k l) := decidable_of_iff ((List.range l.length).any fun i => decide (i % everyK k = 0 ∧ (l.getD i (0, 0)).1 ≠ 0)) (by
  rw [List.any_eq_true]
  constructor
  · rintro ⟨i, hi, h⟩
    have hl := List.mem_range.1 hi
    obtain ⟨h1, h2⟩ := of_decide_eq_true h
    rw [List.getD_eq_getElem?_getD, List.getElem?_eq_getElem hl] at h2
    exact ⟨i, l[i], h1, List.getElem?_eq_getElem hl, h2⟩
  · rintro ⟨i, r, h1, h2, h3⟩
    have hl := (List.getElem?_eq_some_iff.1 h2).1
    exact ⟨i, List.mem_range.2 hl, decide_eq_true ⟨h1, by rw [List.getD_eq_getElem?_getD, h2]; exact h3⟩⟩)
def probedS (k : Int) (l : List Rs) : Cl × Bool :=
  if overK k l then (zeroC, false)
  else if l = [] then (⟨8, if k = 4 then 18442240474082181120 else 0, 0⟩, true)
  else if l.length % everyK k = 1 then (⟨10, (l.getD (l.length - 1) (0, 0)).2, 0⟩, true)
  else (⟨8, (l.getD (l.length - everyK k) (0, 0)).2, 1⟩, true)
def probeS (k p m : Int) (l : List Rs) : Cl × Bool :=
  if fits k p m = false then (zeroC, false)
  else if keyed k then probedS k l
  else if k = 1 then (if 0 < l.length then (zeroC, false) else (⟨1, 0, 0⟩, true))
  else if l.length = 0 then (⟨16, 0, 0⟩, true)
  else if l.length ≤ 8 then (⟨14, (l.length : Int), 0⟩, true)
  else if (l.length : Int) ≤ 8 + m then (⟨15, (l.length : Int) - 9, 0⟩, true)
  else (zeroC, false)
/-- Keys and values, one behind the other. -/
def pairsL : List Int → List Int → List Rs
  | k :: ks, v :: vs => (0, k) :: (0, v) :: pairsL ks vs
  | _, _ => []
def outS (k : Int) (s : St) : List Rs :=
  if k = 1 then [(0, s.reg)]
  else if keyed k then (if valued k then pairsL s.keys s.vals else s.keys.map fun x => (0, x)) ++ [(12, 0)]
  else (0, bitZ s.closed) :: ((List.range 8).map fun i : Nat => ((0, (tallyL s.votes ((i : Int) + 1) : Int)) : Rs)) ++ s.votes.map fun v => (0, v)
def outF (k p m : Int) (s : St) : List Rs × Int := if fits k p m then (if rightS k p m s then (outS k s, 0) else ([], 1)) else ([], 5)
/-- What may stand in a vote. -/
def voteOf (v : Int) : Int := if v ≤ 8 then v else 9
/-- Every other one, but the last. -/
def evens : List Rs → List Int
  | a :: _ :: c :: r => a.2 :: evens (c :: r)
  | _ => []
def odds : List Rs → List Int
  | _ :: b :: c :: r => b.2 :: odds (c :: r)
  | _ => []
def readS (k m : Int) (l : List Rs) : St :=
  if k = 1 then { zeroS with reg := (l.getD 0 (0, 0)).2 }
  else if keyed k then (if valued k then { zeroS with keys := evens l, vals := odds l } else { zeroS with keys := l.dropLast.map (·.2) })
  else { zeroS with closed := decide ((l.getD 0 (0, 0)).2 = 1), votes := ((l.drop 9).take m.toNat).map fun r => voteOf r.2 }
def seenF (k p m : Int) (l : List Rs) : St × Bool :=
  if fits k p m = true ∧ l ≠ [] ∧ rightS k p m (readS k m l) = true ∧ outS k (readS k m l) = l then (readS k m l, true) else (zeroS, false)

/-! Facts. -/

/-- All its numbers are words, or ints. -/
def Wd (s : St) : Prop := U64 s.reg ∧ (∀ x ∈ s.keys, U64 x) ∧ (∀ x ∈ s.vals, U64 x) ∧ ∀ x ∈ s.votes, I64 x
def Wc (o : Cl) : Prop := I64 o.code ∧ U64 o.key ∧ U64 o.val

theorem fits_of {k p m : Int} (h : fits k p m = true) : 1 ≤ k ∧ k ≤ 5 ∧ 1 ≤ p ∧ p ≤ 16 ∧ 1 ≤ m ∧ m ≤ 256 := Reg.fits_of h
theorem right_fits {k p m : Int} {s : St} (h : rightS k p m s = true) : fits k p m = true := by
  unfold rightS at h; rw [Bool.and_eq_true] at h; exact h.1
theorem right_iff {k p m : Int} {s : St} : rightS k p m s = true ↔ fits k p m = true ∧ ElseOk k s ∧ (k = 1 → canon s.reg = s.reg) ∧ (keyed k = true → KeysOk k m s) ∧ (k = 5 → VotesOk m s) := by
  unfold rightS
  rw [Bool.and_eq_true, Bool.and_eq_true, decide_eq_true_iff]
  refine and_congr_right fun hf => and_congr_right fun _ => ?_
  have hk := fits_of hf
  by_cases h1 : k = 1
  · rw [if_pos h1, decide_eq_true_iff]
    have h2 : keyed k = false := by unfold keyed; exact decide_eq_false (by omega)
    rw [h2]; simp [h1]
  · rw [if_neg h1]
    by_cases h2 : keyed k = true
    · rw [if_pos h2, decide_eq_true_iff]
      have : k ≠ 5 := by unfold keyed at h2; have := of_decide_eq_true h2; omega
      simp [h1, h2, this]
    · rw [if_neg h2, decide_eq_true_iff]
      have : k = 5 := by
        have h2' : ¬ (k = 2 ∨ k = 3 ∨ k = 4) := fun h => h2 (decide_eq_true h)
        omega
      exact ⟨fun h => ⟨fun e => absurd e h1, fun e => absurd e h2, fun _ => h⟩, fun h => h.2.2 this⟩

/-- Where a key is, or would be. -/
theorem pos_le (k : Int) (l : List Int) (x : Int) : posK k l x ≤ l.length := by
  unfold posK; exact (List.takeWhile_prefix _).length_le
theorem pos_low {k : Int} {l : List Int} {x : Int} : ∀ (j : Nat) y, j < posK k l x → l[j]? = some y → ordK k y < ordK k x := fun j y hj hy => by
  unfold posK at hj
  have hp := List.takeWhile_prefix (fun y => decide (ordK k y < ordK k x)) (l := l)
  have e : (l.takeWhile fun y => decide (ordK k y < ordK k x))[j]? = some y := by
    rw [List.prefix_iff_eq_take] at hp
    rw [hp, List.getElem?_take, if_pos hj]; exact hy
  have := List.all_takeWhile (p := fun y => decide (ordK k y < ordK k x)) (l := l)
  rw [List.all_eq_true] at this
  exact of_decide_eq_true (this y (List.mem_of_getElem? e))
theorem pos_at {k : Int} {l : List Int} {x : Int} : ∀ y, l[posK k l x]? = some y → ¬ ordK k y < ordK k x := fun y hy => by
  induction l with
  | nil => simp at hy
  | cons z r ih =>
    unfold posK at hy ih
    rw [List.takeWhile_cons] at hy
    by_cases h : ordK k z < ordK k x
    · rw [if_pos (decide_eq_true h), List.length_cons, List.getElem?_cons_succ] at hy; exact ih hy
    · rw [if_neg (by simpa using h)] at hy; simp at hy; subst hy; exact h
theorem RisingK.lt {k : Int} {l : List Int} (h : RisingK k l) {i j : Nat} {x y : Int} (hi : l[i]? = some x) (hj : l[j]? = some y) (hij : i < j) : ordK k x < ordK k y := by
  obtain ⟨hil, rfl⟩ := List.getElem?_eq_some_iff.1 hi
  obtain ⟨hjl, rfl⟩ := List.getElem?_eq_some_iff.1 hj
  exact List.pairwise_iff_getElem.1 h i j hil hjl hij
theorem pos_high {k : Int} {l : List Int} {x : Int} (h : RisingK k l) : ∀ (j : Nat) y, posK k l x ≤ j → l[j]? = some y → ¬ ordK k y < ordK k x := fun j y hj hy => by
  have hl := (List.getElem?_eq_some_iff.1 hy).1
  have h0 : l[posK k l x]? = some (l[posK k l x]'(by omega)) := List.getElem?_eq_getElem (by omega)
  have h1 := pos_at _ h0
  by_cases e : posK k l x = j
  · subst e; rw [h0] at hy; cases hy; exact h1
  · have := h.lt h0 hy (by omega); omega
/-- It is so at one place alone. -/
theorem pos_eq {k : Int} {l : List Int} {x : Int} {i : Nat} (hi : i ≤ l.length) (h1 : ∀ (j : Nat) y, j < i → l[j]? = some y → ordK k y < ordK k x) (h2 : ∀ y, l[i]? = some y → ¬ ordK k y < ordK k x) : posK k l x = i := by
  rcases Nat.lt_trichotomy (posK k l x) i with c | c | c
  · have h0 : l[posK k l x]? = some (l[posK k l x]'(by omega)) := List.getElem?_eq_getElem (by omega)
    exact absurd (h1 _ _ c h0) (pos_at _ h0)
  · exact c
  · have hl := pos_le k l x
    have h0 : l[i]? = some (l[i]'(by omega)) := List.getElem?_eq_getElem (by omega)
    exact absurd (pos_low i _ c h0) (h2 _ h0)

theorem ord_inj {k x y : Int} (hx : U64 x) (hy : U64 y) (mx : meantK k x = x) (my : meantK k y = y) (h : ordK k x = ordK k y) : x = y := by
  unfold ordK at h
  unfold meantK at mx my
  by_cases c : k = 4
  · rw [if_pos c] at mx my; rw [if_pos c, if_pos c] at h
    rw [rank_inj x y hx.1 hx.2 hy.1 hy.2, mx, my] at h; exact h
  · rw [if_neg c, if_neg c] at h; exact h
theorem meant_meant (k x : Int) : meantK k (meantK k x) = meantK k x := by
  unfold meantK
  by_cases c : k = 4
  · rw [if_pos c, if_pos c, canon_canon]
  · rw [if_neg c, if_neg c]
theorem meant_u {k x : Int} (h : U64 x) : U64 (meantK k x) := by
  unfold meantK
  split
  · exact ⟨canon_lo x h.1, canon_hi x h.2⟩
  · exact h
/-- Whether a key is there. -/
theorem here_iff {k : Int} {l : List Int} {x : Int} (hr : RisingK k l) : hereK l (posK k l x) x = true ↔ x ∈ l := by
  unfold hereK
  rw [decide_eq_true_iff]
  constructor
  · exact fun h => List.mem_of_getElem? h
  · intro h
    obtain ⟨j, hj⟩ := List.mem_iff_getElem?.1 h
    have : posK k l x = j := pos_eq (Nat.le_of_lt (List.getElem?_eq_some_iff.1 hj).1) (fun i y hi hy => hr.lt hy hj hi) (fun y hy => by rw [hj] at hy; cases hy; omega)
    rw [this]; exact hj
theorem with_get (l : List Int) (i : Nat) (x : Int) (hi : i ≤ l.length) (j : Nat) : (withL l i x)[j]? = if j < i then l[j]? else if j = i then some x else l[j - 1]? := by
  unfold withL
  by_cases h1 : j < i
  · rw [List.getElem?_append_left (by simp; omega), List.getElem?_take, if_pos h1, if_pos h1]
  · rw [List.getElem?_append_right (by simp; omega), if_neg h1]
    have e : j - (l.take i).length = j - i := by simp; omega
    rw [e]
    by_cases h2 : j = i
    · rw [if_pos h2, h2, Nat.sub_self]; rfl
    · rw [if_neg h2, show j - i = (j - i - 1) + 1 by omega, List.getElem?_cons_succ, List.getElem?_drop, show i + (j - i - 1) = j - 1 by omega]
theorem with_len (l : List Int) (i : Nat) (x : Int) (hi : i ≤ l.length) : (withL l i x).length = l.length + 1 := by unfold withL; simp; omega
theorem mem_with {l : List Int} {i : Nat} {x y : Int} : y ∈ withL l i x ↔ y = x ∨ y ∈ l := by
  unfold withL
  rw [List.mem_append, List.mem_cons]
  constructor
  · rintro (h | h | h)
    · exact .inr (List.mem_of_mem_take h)
    · exact .inl h
    · exact .inr (List.mem_of_mem_drop h)
  · rintro (h | h)
    · exact .inr (.inl h)
    · rw [← List.take_append_drop i l, List.mem_append] at h
      rcases h with h | h
      · exact .inl h
      · exact .inr (.inr h)
theorem without_len (l : List Int) (i : Nat) (hi : i < l.length) : (withoutL l i).length = l.length - 1 := by unfold withoutL; simp; omega
theorem mem_without {l : List Int} {i : Nat} {y : Int} (h : y ∈ withoutL l i) : y ∈ l := by
  unfold withoutL at h
  rw [List.mem_append] at h
  rcases h with h | h
  · exact List.mem_of_mem_take h
  · exact List.mem_of_mem_drop h
theorem rising_iff {k : Int} {l : List Int} : RisingK k l ↔ ∀ (i j : Nat) x y, i < j → l[i]? = some x → l[j]? = some y → ordK k x < ordK k y := by
  constructor
  · exact fun h i j x y hij hi hj => h.lt hi hj hij
  · exact fun h => List.pairwise_iff_getElem.2 fun i j hi hj hij => h i j _ _ hij (List.getElem?_eq_getElem hi) (List.getElem?_eq_getElem hj)
theorem rising_with {k : Int} {l : List Int} {x : Int} (hr : RisingK k l) (hu : ∀ y ∈ l, U64 y ∧ meantK k y = y) (hx : U64 x) (mx : meantK k x = x) (hn : hereK l (posK k l x) x = false) : RisingK k (withL l (posK k l x) x) := by
  have hle := pos_le k l x
  have hne : ∀ (j : Nat) y, posK k l x ≤ j → l[j]? = some y → ordK k x < ordK k y := fun j y hj hy => by
    have h1 := pos_high hr j y hj hy
    have h2 : ordK k x ≠ ordK k y := fun e => by
      have := ord_inj hx (hu y (List.mem_of_getElem? hy)).1 mx (hu y (List.mem_of_getElem? hy)).2 e
      subst this
      have := (here_iff hr).2 (List.mem_of_getElem? hy)
      rw [hn] at this; cases this
    omega
  refine rising_iff.2 fun i j a b hij hi hj => ?_
  rw [with_get _ _ _ hle] at hi hj
  split at hi
  · rename_i c1
    split at hj
    · exact hr.lt hi hj hij
    · split at hj
      · cases hj; exact pos_low i a c1 hi
      · exact hr.lt hi hj (by omega)
  · split at hi
    · cases hi
      rw [if_neg (by omega), if_neg (by omega)] at hj
      exact hne _ _ (by omega) hj
    · rw [if_neg (by omega), if_neg (by omega)] at hj
      exact hr.lt hi hj (by omega)
theorem rising_without {k : Int} {l : List Int} {i : Nat} (hr : RisingK k l) : RisingK k (withoutL l i) := by
  unfold withoutL RisingK
  have h : (l.take i ++ l.drop (i + 1)).Sublist l := by
    have h1 := (List.Sublist.refl (l.take i)).append (List.drop_sublist 1 (l.drop i))
    rw [List.take_append_drop, List.drop_drop] at h1
    exact h1
  exact List.Pairwise.sublist h hr

end Go.Proofs.YtmonkcekkhfafaaGreatDoor.Aut

/- AutFacts:
  What is right stays right; what tells an error, and what reads, changes nothing; the read-out, step by step, and back. Condition: the state's numbers are words.
-/
namespace Go.Proofs.YtmonkcekkhfafaaGreatDoor.Aut

theorem keyed_cases {k : Int} (h : keyed k = true) : k = 2 ∨ k = 3 ∨ k = 4 := of_decide_eq_true h
theorem new_right {k p m : Int} (h : fits k p m = true) : rightS k p m (newS k p m).1 = true := by
  have hk := fits_of h
  unfold newS
  rw [if_pos h]
  refine right_iff.2 ⟨h, ⟨.inr rfl, .inr ⟨rfl, rfl⟩, ?_⟩, fun _ => rfl, fun hh => ?_, fun h5 => ?_⟩
  · by_cases h5 : k = 5
    · exact .inl h5
    · exact .inr ⟨by simp [h5], rfl⟩
  · refine ⟨by simp; omega, by simp, fun x hx => by simp at hx, List.Pairwise.nil⟩
  · unfold VotesOk
    simp only [if_pos h5]
    refine ⟨by simp; omega, fun v hv => ?_⟩
    have := List.eq_of_mem_replicate hv
    omega
theorem maxOf_canon (x y : Int) : canon (maxOf x y) = maxOf x y := by unfold maxOf; split <;> exact canon_canon _
theorem sumOf_canon (x y : Int) : canon (sumOf x y) = sumOf x y := canon_canon _
theorem maxOf_u {x y : Int} (hx : U64 x) (hy : U64 y) : U64 (maxOf x y) := by
  unfold maxOf
  split
  · exact ⟨canon_lo _ hy.1, canon_hi _ hy.2⟩
  · exact ⟨canon_lo _ hx.1, canon_hi _ hx.2⟩

theorem next_same (s : St) (i : Nat) : (nextS s i).1 = s := by unfold nextS; split <;> rfl

theorem keys_of {k p m : Int} {s : St} (h : rightS k p m s = true) (hk : keyed k = true) : KeysOk k m s := (right_iff.1 h).2.2.2.1 hk
theorem keys_wd {k m : Int} {s : St} (h : KeysOk k m s) (hw : Wd s) : ∀ y ∈ s.keys, U64 y ∧ meantK k y = y := fun y hy => ⟨hw.2.1 y hy, (h.2.2.1 y hy).1⟩

/-- One key more. -/
theorem keysOk_with {k m : Int} {s : St} (h : KeysOk k m s) (hw : Wd s) {x v : Int} (hx : U64 x) (mx : meantK k x = x) (may : mayK k x = true) (hn : hereK s.keys (posK k s.keys x) x = false) (hm : ¬ (s.keys.length : Int) = m) :
    KeysOk k m { s with keys := withL s.keys (posK k s.keys x) x, vals := if valued k then withL s.vals (posK k s.keys x) v else s.vals } := by
  have hp := pos_le k s.keys x
  have hv := h.2.1
  refine ⟨?_, ?_, fun y hy => ?_, rising_with h.2.2.2 (keys_wd h hw) hx mx hn⟩
  · simp only [with_len _ _ _ hp]; have := h.1; omega
  · simp only
    by_cases c : valued k = true
    · rw [if_pos c] at hv
      rw [if_pos c, if_pos c, with_len _ _ _ hp, with_len _ _ _ (by omega), hv]
    · rw [if_neg c] at hv
      rw [if_neg c, if_neg c]; exact hv
  · rcases mem_with.1 hy with rfl | hy
    · exact ⟨mx, may⟩
    · exact h.2.2.1 y hy
/-- One key less. -/
theorem keysOk_without {k m : Int} {s : St} (h : KeysOk k m s) {i : Nat} (hi : i < s.keys.length) :
    KeysOk k m { s with keys := withoutL s.keys i, vals := if valued k then withoutL s.vals i else s.vals } := by
  have hv := h.2.1
  refine ⟨?_, ?_, fun y hy => h.2.2.1 y (mem_without hy), rising_without h.2.2.2⟩
  · simp only [without_len _ _ hi]; have := h.1; omega
  · simp only
    by_cases c : valued k = true
    · rw [if_pos c] at hv
      rw [if_pos c, if_pos c, without_len _ _ hi, without_len _ _ (by omega), hv]
    · rw [if_neg c] at hv
      rw [if_neg c, if_neg c]; exact hv

theorem here_lt {l : List Int} {i : Nat} {x : Int} (h : hereK l i x = true) : i < l.length := by
  unfold hereK at h; have := of_decide_eq_true h; exact (List.getElem?_eq_some_iff.1 this).1

/-- What a call of keys leaves: keys that are right, and nothing else is turned. -/
theorem placed_ok {k m : Int} {s : St} (h : KeysOk k m s) (hw : Wd s) (o : Cl) (ho : Wc o) {x : Int} (hx : U64 x) (mx : meantK k x = x) (may : mayK k x = true) :
    KeysOk k m (placedS k m s o x (posK k s.keys x) (hereK s.keys (posK k s.keys x) x)).1 ∧ Wd (placedS k m s o x (posK k s.keys x) (hereK s.keys (posK k s.keys x) x)).1 ∧
    (placedS k m s o x (posK k s.keys x) (hereK s.keys (posK k s.keys x) x)).1.reg = s.reg ∧ (placedS k m s o x (posK k s.keys x) (hereK s.keys (posK k s.keys x) x)).1.votes = s.votes ∧ (placedS k m s o x (posK k s.keys x) (hereK s.keys (posK k s.keys x) x)).1.closed = s.closed := by
  have hp := pos_le k s.keys x
  have keep : KeysOk k m s ∧ Wd s ∧ s.reg = s.reg ∧ s.votes = s.votes ∧ s.closed = s.closed := ⟨h, hw, rfl, rfl, rfl⟩
  obtain ⟨here, hh⟩ : ∃ here, hereK s.keys (posK k s.keys x) x = here := ⟨_, rfl⟩
  rw [hh]
  unfold placedS
  split
  · cases here with
    | true =>
      have hi := here_lt hh
      have h1 := keysOk_without h hi
      simp only [if_pos]
      by_cases c : valued k = true
      · rw [if_pos c] at h1
        rw [if_pos c]
        exact ⟨h1, ⟨hw.1, fun y hy => hw.2.1 y (mem_without hy), fun y hy => hw.2.2.1 y (mem_without hy), hw.2.2.2⟩, rfl, rfl, rfl⟩
      · rw [if_neg c] at h1
        rw [if_neg c]
        exact ⟨h1, ⟨hw.1, fun y hy => hw.2.1 y (mem_without hy), hw.2.2.1, hw.2.2.2⟩, rfl, rfl, rfl⟩
    | false => exact keep
  · split
    · rw [next_same]; exact keep
    · split
      · exact keep
      · split
        · split <;> exact keep
        · split
          · rename_i c5
            split
            · exact keep
            · rename_i hn
              have hn' : here = false := by simpa using hn
              split
              · exact keep
              · rename_i hm
                have h1 := keysOk_with (v := 0) h hw hx mx may (hh.trans hn') hm
                rw [if_neg (by rw [c5.2]; simp)] at h1
                exact ⟨h1, ⟨hw.1, fun y hy => by rcases mem_with.1 hy with rfl | hy; exact hx; exact hw.2.1 y hy, hw.2.2.1, hw.2.2.2⟩, rfl, rfl, rfl⟩
          · split
            · rename_i c6
              split
              · refine ⟨⟨h.1, ?_, h.2.2.1, h.2.2.2⟩, ⟨hw.1, hw.2.1, fun y hy => ?_, hw.2.2.2⟩, rfl, rfl, rfl⟩
                · simp only [List.length_set]; exact h.2.1
                · rcases List.mem_or_eq_of_mem_set hy with hy | rfl
                  · exact hw.2.2.1 y hy
                  · exact ho.2.2
              · rename_i hn
                have hn' : here = false := by simpa using hn
                split
                · exact keep
                · rename_i hm
                  have h1 := keysOk_with (v := o.val) h hw hx mx may (hh.trans hn') hm
                  rw [if_pos c6.2] at h1
                  refine ⟨h1, ⟨hw.1, fun y hy => ?_, fun y hy => ?_, hw.2.2.2⟩, rfl, rfl, rfl⟩
                  · rcases mem_with.1 hy with rfl | hy
                    · exact hx
                    · exact hw.2.1 y hy
                  · rcases mem_with.1 hy with rfl | hy
                    · exact ho.2.2
                    · exact hw.2.2.1 y hy
            · exact keep

theorem meant_may {k x : Int} (h : mayK k x = true) : mayK k (meantK k x) = true := by
  unfold mayK meantK at *
  by_cases c : k = 4
  · rw [if_pos c]
  · rw [if_neg c] at h ⊢; rw [if_neg c]; exact h
theorem table_ok {k m : Int} {s : St} (h : KeysOk k m s) (hw : Wd s) (o : Cl) (ho : Wc o) :
    KeysOk k m (tableS k m s o).1 ∧ Wd (tableS k m s o).1 ∧ (tableS k m s o).1.reg = s.reg ∧ (tableS k m s o).1.votes = s.votes ∧ (tableS k m s o).1.closed = s.closed := by
  unfold tableS
  split
  · exact ⟨h, hw, rfl, rfl, rfl⟩
  · split
    · rename_i hm
      exact placed_ok h hw o ho (meant_u ho.2.1) (meant_meant k o.key) (meant_may hm)
    · exact ⟨h, hw, rfl, rfl, rfl⟩
theorem ballot_ok {m : Int} {s : St} (h : VotesOk m s) (hw : Wd s) (o : Cl) : VotesOk m (ballotS m s o).1 ∧ Wd (ballotS m s o).1 ∧ (ballotS m s o).1.reg = s.reg ∧ (ballotS m s o).1.keys = s.keys ∧ (ballotS m s o).1.vals = s.vals := by
  have keep : VotesOk m s ∧ Wd s ∧ s.reg = s.reg ∧ s.keys = s.keys ∧ s.vals = s.vals := ⟨h, hw, rfl, rfl, rfl⟩
  unfold ballotS
  split
  · unfold castS
    split
    · exact keep
    · rename_i c
      split
      · exact keep
      · split
        · exact keep
        · refine ⟨⟨by simp only [List.length_set]; exact h.1, fun v hv => ?_⟩, ⟨hw.1, hw.2.1, hw.2.2.1, fun v hv => ?_⟩, rfl, rfl, rfl⟩
          · rcases List.mem_or_eq_of_mem_set hv with hv | rfl
            · exact h.2 v hv
            · omega
          · rcases List.mem_or_eq_of_mem_set hv with hv | rfl
            · exact hw.2.2.2 v hv
            · unfold I64; omega
  · split
    · exact ⟨h, hw, rfl, rfl, rfl⟩
    · split
      · split <;> exact keep
      · split
        · split <;> exact keep
        · split <;> exact keep
theorem reg_ok {s : St} (h : canon s.reg = s.reg) (hw : Wd s) (o : Cl) (ho : Wc o) : canon (regS s o).1.reg = (regS s o).1.reg ∧ Wd (regS s o).1 ∧ (regS s o).1.keys = s.keys ∧ (regS s o).1.vals = s.vals ∧ (regS s o).1.votes = s.votes ∧ (regS s o).1.closed = s.closed := by
  unfold regS
  split
  · exact ⟨h, hw, rfl, rfl, rfl, rfl⟩
  · split
    · exact ⟨canon_canon _, ⟨⟨canon_lo _ ho.2.2.1, canon_hi _ ho.2.2.2⟩, hw.2⟩, rfl, rfl, rfl, rfl⟩
    · split
      · exact ⟨maxOf_canon _ _, ⟨maxOf_u hw.1 ho.2.2, hw.2⟩, rfl, rfl, rfl, rfl⟩
      · split
        · exact ⟨sumOf_canon _ _, ⟨⟨sum_lo _ _, sum_hi _ _⟩, hw.2⟩, rfl, rfl, rfl, rfl⟩
        · exact ⟨h, hw, rfl, rfl, rfl, rfl⟩

theorem do_right {k p m : Int} {s : St} (h : rightS k p m s = true) (hw : Wd s) (o : Cl) (ho : Wc o) : rightS k p m (doS k m s o).1 = true ∧ Wd (doS k m s o).1 := by
  obtain ⟨hf, he, h1, h2, h5⟩ := right_iff.1 h
  have hk := fits_of hf
  unfold doS
  by_cases c1 : k = 1
  · rw [if_pos c1]
    obtain ⟨r1, r2, r3, r4, r5, r6⟩ := reg_ok (h1 c1) hw o ho
    have hn : keyed k = false := by unfold keyed; exact decide_eq_false (by omega)
    refine ⟨right_iff.2 ⟨hf, ⟨.inl c1, ?_, ?_⟩, fun _ => r1, fun e => absurd (hn.symm.trans e) (by simp), fun e => absurd e (by omega)⟩, r2⟩
    · rw [r3, r4]; exact he.2.1
    · rw [r5, r6]; exact he.2.2
  · rw [if_neg c1]
    by_cases c2 : keyed k = true
    · rw [if_pos c2]
      obtain ⟨r1, r2, r3, r4, r5⟩ := table_ok (h2 c2) hw o ho
      have c5 : k ≠ 5 := by have := keyed_cases c2; omega
      refine ⟨right_iff.2 ⟨hf, ⟨?_, .inl c2, ?_⟩, fun e => absurd e c1, fun _ => r1, fun e => absurd e c5⟩, r2⟩
      · rw [r3]; exact he.1
      · rw [r4, r5]; exact he.2.2
    · rw [if_neg c2]
      have c5 : k = 5 := by
        have h2' : ¬ (k = 2 ∨ k = 3 ∨ k = 4) := fun h => c2 (decide_eq_true h)
        omega
      obtain ⟨r1, r2, r3, r4, r5⟩ := ballot_ok (h5 c5) hw o
      refine ⟨right_iff.2 ⟨hf, ⟨?_, ?_, .inl c5⟩, fun e => absurd e c1, fun e => absurd e c2, fun _ => r1⟩, r2⟩
      · rw [r3]; exact he.1
      · rw [r4, r5]; exact he.2.1

/-- An error tells nothing else, and changes nothing. -/
def Errs (s : St) (x : St × Rs) : Prop := x.2.1 ≠ 0 → x.1 = s ∧ x.2.2 = 0
/-! The read-out, step by step. -/

end Go.Proofs.YtmonkcekkhfafaaGreatDoor.Aut

