/-
  What each call of package probe is to answer, over lists of words and of records, and how answers hang together. No condition but those that each theorem says.
-/
import Derived.Test.YtbpgnnogpcppdaaDoorPlain
namespace Go.Proofs.YtbpgnnogpcppdaaDoor

def wordsOf (w : Nat) (r : Rc) : List Int := if w = 2 then [r.1, r.2] else [r.1]
/-- A table's words. -/
def flatW (w : Nat) (t : List Rc) : List Int := t.flatMap (wordsOf w)
/-- What stands in words, slot by slot. -/
def slotsW (w : Nat) (xs : List Int) : List Rc := (List.range (xs.length / w)).map fun i => (xs[i * w]?.getD 0, if w = 2 then xs[i * w + 1]?.getD 0 else 0)
def Thin (w : Nat) (t : List Rc) : Prop := w = 1 → ∀ r ∈ t, r.2 = 0
def Wd (w : Nat) : Prop := w = 1 ∨ w = 2

theorem flatW_nil (w : Nat) : flatW w [] = [] := rfl
theorem flatW_cons (w : Nat) (r : Rc) (t : List Rc) : flatW w (r :: t) = wordsOf w r ++ flatW w t := rfl
theorem flatW_append (w : Nat) (a b : List Rc) : flatW w (a ++ b) = flatW w a ++ flatW w b := by unfold flatW; rw [List.flatMap_append]
theorem flat_1 (t : List Rc) : flatW 1 t = t.map (·.1) := by
  induction t with
  | nil => rfl
  | cons r t ih => rw [flatW_cons, ih]; rfl
theorem flatW_len {w : Nat} (hw : Wd w) (t : List Rc) : (flatW w t).length = t.length * w := by
  rcases hw with rfl | rfl
  · rw [flat_1]; simp
  · induction t with
    | nil => rfl
    | cons r t ih => rw [flatW_cons, List.length_append, ih]; simp [wordsOf]; omega
theorem flat_20 : ∀ (t : List Rc) (k : Nat), (flatW 2 t)[k * 2]? = t[k]?.map (·.1)
  | [], k => by simp [flatW_nil]
  | x :: r, 0 => by simp [flatW_cons, wordsOf]
  | x :: r, k + 1 => by
    have e : (k + 1) * 2 = k * 2 + 1 + 1 := by omega
    rw [e, flatW_cons]; simp [wordsOf, flat_20 r k]
theorem flat_21 : ∀ (t : List Rc) (k : Nat), (flatW 2 t)[k * 2 + 1]? = t[k]?.map (·.2)
  | [], k => by simp [flatW_nil]
  | x :: r, 0 => by simp [flatW_cons, wordsOf]
  | x :: r, k + 1 => by
    have e : (k + 1) * 2 + 1 = k * 2 + 1 + 1 + 1 := by omega
    rw [e, flatW_cons]; simp [wordsOf, flat_21 r k]
theorem flat_0 {w : Nat} (hw : Wd w) (t : List Rc) (k : Nat) : (flatW w t)[k * w]? = t[k]?.map (·.1) := by
  rcases hw with rfl | rfl
  · rw [flat_1, List.getElem?_map, Nat.mul_one]
  · exact flat_20 t k

theorem flat_set_1 (t : List Rc) (p : Nat) (r : Rc) : flatW 1 (t.set p r) = (flatW 1 t).set p r.1 := by
  rw [flat_1, flat_1, List.map_set]
theorem flat_set_2 : ∀ (t : List Rc) (p : Nat) (r : Rc), flatW 2 (t.set p r) = ((flatW 2 t).set (p * 2) r.1).set (p * 2 + 1) r.2
  | [], p, r => by simp [flatW_nil]
  | x :: t, 0, r => by simp [flatW_cons, wordsOf]
  | x :: t, p + 1, r => by
    have e : (p + 1) * 2 = p * 2 + 1 + 1 := by omega
    rw [List.set_cons_succ, flatW_cons, flatW_cons, flat_set_2 t p r, e]
    simp [wordsOf]

theorem slotsW_len (w : Nat) (xs : List Int) : (slotsW w xs).length = xs.length / w := by unfold slotsW; simp
theorem slotsW_thin (w : Nat) (xs : List Int) : Thin w (slotsW w xs) := fun hw r hr => by
  unfold slotsW at hr
  obtain ⟨i, _, rfl⟩ := List.mem_map.1 hr
  simp [hw]
theorem slotsW_get {w : Nat} {xs : List Int} {i : Nat} (h : i < xs.length / w) : (slotsW w xs)[i]? = some (xs[i * w]?.getD 0, if w = 2 then xs[i * w + 1]?.getD 0 else 0) := by
  unfold slotsW; rw [List.getElem?_map, List.getElem?_range h]; rfl
theorem slots_flat {w : Nat} (hw : Wd w) {t : List Rc} (ht : Thin w t) : slotsW w (flatW w t) = t := by
  have hl : (flatW w t).length / w = t.length := by
    rw [flatW_len hw]; rcases hw with rfl | rfl <;> omega
  apply List.ext_getElem?
  intro i
  by_cases hi : i < t.length
  · rw [slotsW_get (by rw [hl]; exact hi), flat_0 hw, List.getElem?_eq_getElem hi]
    rcases hw with rfl | rfl
    · have := ht rfl t[i] (List.getElem_mem hi)
      simp; rw [← this]
    · rw [flat_21, List.getElem?_eq_getElem hi]; simp
  · rw [List.getElem?_eq_none (by rw [slotsW_len, hl]; omega), List.getElem?_eq_none (by omega)]
theorem flat_slots {w : Nat} (hw : Wd w) {xs : List Int} (h : xs.length % w = 0) : flatW w (slotsW w xs) = xs := by
  have hl : (flatW w (slotsW w xs)).length = xs.length := by
    rw [flatW_len hw, slotsW_len]; rcases hw with rfl | rfl <;> omega
  apply List.ext_getElem?
  intro i
  by_cases hi : i < xs.length
  · rcases hw with rfl | rfl
    · rw [flat_1, List.getElem?_map, slotsW_get (by omega)]
      simp [List.getElem?_eq_getElem hi]
    · rcases Nat.mod_two_eq_zero_or_one i with e | e
      · obtain ⟨k, rfl⟩ : ∃ k, i = k * 2 := ⟨i / 2, by omega⟩
        rw [flat_20, slotsW_get (by omega)]; simp [List.getElem?_eq_getElem hi]
      · obtain ⟨k, rfl⟩ : ∃ k, i = k * 2 + 1 := ⟨i / 2, by omega⟩
        rw [flat_21, slotsW_get (by omega)]; simp [List.getElem?_eq_getElem hi]
  · rw [List.getElem?_eq_none (by omega), List.getElem?_eq_none (by omega)]
theorem flatW_inj {w : Nat} (hw : Wd w) {t u : List Rc} (ht : Thin w t) (hu : Thin w u) (h : flatW w t = flatW w u) : t = u := by
  rw [← slots_flat hw ht, ← slots_flat hw hu, h]
theorem slotsW_rng {w : Nat} {xs : List Int} (h : ∀ x ∈ xs, U64 x) : ∀ r ∈ slotsW w xs, Ur r := fun r hr => by
  have z : U64 0 := by unfold U64; omega
  have g : ∀ i : Nat, U64 (xs[i]?.getD 0) := fun i => by
    cases hx : xs[i]? with
    | none => exact z
    | some x => exact h x (List.mem_of_getElem? hx)
  unfold slotsW at hr
  obtain ⟨i, _, rfl⟩ := List.mem_map.1 hr
  refine ⟨g _, ?_⟩
  show U64 (if w = 2 then _ else _)
  split
  · exact g _
  · exact z
theorem flatW_rng {w : Nat} {t : List Rc} (h : ∀ r ∈ t, Ur r) : ∀ x ∈ flatW w t, U64 x := fun x hx => by
  obtain ⟨r, hr, hx⟩ := List.mem_flatMap.1 hx
  unfold wordsOf at hx
  split at hx
  · rcases List.mem_cons.1 hx with rfl | hx
    · exact (h r hr).1
    · rw [List.mem_singleton.1 hx]; exact (h r hr).2
  · rw [List.mem_singleton.1 hx]; exact (h r hr).1

/-- May records stand in one table? -/
def valid (l : List Rc) : Bool := l.all (fun r => decide (r.1 ≠ 0)) && decide ((l.map (·.1)).Nodup)
theorem valid_good {l : List Rc} (hr : ∀ r ∈ l, Ur r) : valid l = true ↔ Good l := by
  unfold valid
  rw [Bool.and_eq_true, List.all_eq_true, decide_eq_true_eq]
  exact ⟨fun h => ⟨fun r hm => by simpa using h.1 r hm, hr, h.2⟩, fun h => ⟨fun r hm => by simpa using h.key r hm, h.one⟩⟩
def thinB (w : Int) (l : List Rc) : Bool := decide (w ≠ 1) || l.all (fun r => decide (r.2 = 0))
def mayS (w : Int) (l : List Rc) : Bool := valid l && thinB w l
theorem thin_B {w : Nat} {l : List Rc} : thinB w l = true ↔ Thin w l := by
  unfold thinB Thin
  rw [Bool.or_eq_true, decide_eq_true_eq, List.all_eq_true]
  constructor
  · rintro (h | h) e r hr
    · omega
    · simpa using h r hr
  · intro h
    by_cases e : w = 1
    · exact .inr fun r hr => by simpa using h e r hr
    · exact .inl (by omega)
theorem valid_perm {l m : List Rc} (p : l.Perm m) : valid l = valid m := by
  unfold valid
  have h1 : l.all (fun r => decide (r.1 ≠ 0)) = m.all (fun r => decide (r.1 ≠ 0)) := by
    rw [Bool.eq_iff_iff, List.all_eq_true, List.all_eq_true]
    exact ⟨fun h x hx => h x (p.mem_iff.2 hx), fun h x hx => h x (p.mem_iff.1 hx)⟩
  rw [h1, decide_eq_decide.2 (p.map (·.1)).nodup_iff]
theorem Thin.perm {w : Nat} {l m : List Rc} (h : Thin w l) (p : l.Perm m) : Thin w m := fun e r hr => h e r (p.mem_iff.2 hr)
theorem Thin.filter {w : Nat} {l : List Rc} (h : Thin w l) (q : Rc → Bool) : Thin w (l.filter q) := fun e r hr => h e r (List.mem_filter.1 hr).1
theorem Thin.recs {w : Nat} {l : List Rc} (h : Thin w l) : Thin w (recs l) := h.filter _
theorem recs_rng {t : List Rc} (h : ∀ r ∈ t, Ur r) : ∀ r ∈ recs t, Ur r := fun r hr => h r (List.mem_filter.1 hr).1
theorem recs_le (t : List Rc) : (recs t).length ≤ t.length := List.length_filter_le _ _
theorem Is.thin {w n : Nat} {t S : List Rc} (h : Is n t S) (ht : Thin w S) : Thin w t := fun e r hr => by
  by_cases h0 : r.1 = 0
  · rw [h.inv.clean r hr h0]
  · obtain ⟨p, hp⟩ := List.mem_iff_getElem?.1 hr
    exact ht e r (h.mem hp h0)

/-- Build. -/
def buildS (n w : Int) (l : List Rc) : List Int × Int :=
  if 1 ≤ n ∧ n ≤ 1024 ∧ (w = 1 ∨ w = 2) ∧ mayS w l = true then (if n < l.length then ([], 11) else (flatW w.toNat (tableOf n.toNat l), 0)) else ([], 1)
/-- Are the slots those of a table? -/
def rightT (t : List Rc) : Bool := valid (recs t) && decide (tableOf t.length (recs t) = t)
def Shape (xs : List Int) (w : Int) : Prop := (w = 1 ∨ w = 2) ∧ xs.length % w.toNat = 0 ∧ 1 ≤ xs.length / w.toNat ∧ xs.length / w.toNat ≤ 1024
instance (xs : List Int) (w : Int) : Decidable (Shape xs w) := by unfold Shape; infer_instance
/-- Right. -/
def rightS (xs : List Int) (w : Int) : Bool := decide (Shape xs w) && rightT (slotsW w.toNat xs)
def findT (t : List Rc) (k : Int) : Int × Bool := match sought t k with | some p => ((p : Int), true) | none => (0, false)
/-- Find. -/
def findS (xs : List Int) (w k : Int) : Int × Bool := if rightS xs w = true ∧ k ≠ 0 then findT (slotsW w.toNat xs) k else (0, false)
/-- List. -/
def listS (xs : List Int) (w : Int) : List Rc := if rightS xs w = true then sortK (recs (slotsW w.toNat xs)) else []
def othersT (t : List Rc) (k : Int) : List Rc := (recs t).filter fun r => decide (r.1 ≠ k)
def laidS (xs : List Int) (w : Nat) (l : List Rc) : List Int × Int := if xs.length / w < l.length then (xs, 11) else (flatW w (tableOf (xs.length / w) l), 0)
/-- Put. -/
def putS (xs : List Int) (w k v : Int) : List Int × Int :=
  if rightS xs w = true ∧ k ≠ 0 ∧ ¬ (w = 1 ∧ v ≠ 0) then laidS xs w.toNat (othersT (slotsW w.toNat xs) k ++ [(k, v)]) else (xs, 1)
/-- Del. -/
def delS (xs : List Int) (w k : Int) : List Int × Int :=
  if rightS xs w = true ∧ k ≠ 0 then (if (findT (slotsW w.toNat xs) k).2 = true then laidS xs w.toNat (othersT (slotsW w.toNat xs) k) else (xs, 12)) else (xs, 1)

theorem rightT_is {t : List Rc} (hr : ∀ r ∈ t, Ur r) : rightT t = true ↔ Is t.length t (recs t) := by
  unfold rightT
  rw [Bool.and_eq_true, valid_good (recs_rng hr), decide_eq_true_eq]
  exact ⟨fun h => ⟨h.1, recs_le t, h.2.symm⟩, fun h => ⟨h.good, h.eq.symm⟩⟩
theorem is_rightT {n : Nat} {t S : List Rc} (h : Is n t S) : rightT t = true := by
  have hr : ∀ r ∈ recs t, Ur r := fun r hm => h.good.rng r (h.recs.mem_iff.1 hm)
  have hl := h.len
  subst hl
  unfold rightT
  rw [Bool.and_eq_true, valid_good hr, decide_eq_true_eq]
  exact ⟨h.self.good, h.self.eq.symm⟩

/-- The document's Right: its records are those that have a key, in whatever order. -/
theorem right_ref {w : Nat} (hw : Wd w) {t l : List Rc} (ht : Thin w t) (hr : ∀ r ∈ t, Ur r) (hp : l.Perm (t.filter isK)) :
    (mayS w l && decide (flatW w (tableOf t.length l) = flatW w t)) = rightT t := by
  have hlr : ∀ r ∈ l, Ur r := fun r hm => hr r (List.mem_filter.1 (hp.mem_iff.1 hm)).1
  have hlt : Thin w l := (ht.filter isK).perm hp.symm
  have hll : l.length ≤ t.length := by rw [hp.length_eq]; exact List.length_filter_le _ _
  rw [Bool.eq_iff_iff, Bool.and_eq_true, rightT_is hr, decide_eq_true_eq]
  unfold mayS
  rw [Bool.and_eq_true, valid_good hlr, thin_B]
  constructor
  · rintro ⟨⟨hG, _⟩, h⟩
    have h1 : Is t.length (tableOf t.length l) l := ⟨hG, hll, rfl⟩
    have h2 := flatW_inj hw (h1.thin hlt) ht h
    rw [h2] at h1
    exact h1.self
  · intro h
    have hc := recs_isK h.inv.clean
    have hp2 : l.Perm (recs t) := by rw [hc]; exact hp
    refine ⟨⟨h.good.perm hp2.symm, hlt⟩, ?_⟩
    rw [tableOf_perm h.good hp2, ← h.eq]

theorem right_prog {w : Nat} (hw : Wd w) {t : List Rc} (ht : Thin w t) (hr : ∀ r ∈ t, Ur r) :
    (mayS w (recs t) && decide (flatW w (tableOf t.length (recs t)) = flatW w t)) = rightT t := by
  rw [Bool.eq_iff_iff, Bool.and_eq_true, rightT_is hr, decide_eq_true_eq]
  unfold mayS
  rw [Bool.and_eq_true, valid_good (recs_rng hr), thin_B]
  constructor
  · rintro ⟨⟨hG, _⟩, h⟩
    have h1 : Is t.length (tableOf t.length (recs t)) (recs t) := ⟨hG, recs_le t, rfl⟩
    have h2 := flatW_inj hw (h1.thin ht.recs) ht h
    rw [h2] at h1; exact h1
  · exact fun h => ⟨⟨h.good, ht.recs⟩, by rw [← h.eq]⟩

/-- Words that have slots, and what stands in these. -/
theorem shape_parts {xs : List Int} {w : Int} (h : Shape xs w) : ∃ v : Nat, w = v ∧ Wd v ∧ xs = flatW v (slotsW v xs) ∧ Thin v (slotsW v xs) ∧ (slotsW v xs).length = xs.length / v ∧ xs.length = (slotsW v xs).length * v ∧ 1 ≤ (slotsW v xs).length ∧ (slotsW v xs).length ≤ 1024 := by
  obtain ⟨hw, h1, h2, h3⟩ := h
  refine ⟨w.toNat, by omega, by unfold Wd; omega, ?_, slotsW_thin _ _, slotsW_len _ _, ?_, by rw [slotsW_len]; exact h2, by rw [slotsW_len]; exact h3⟩
  · exact (flat_slots (by unfold Wd; omega) h1).symm
  · rw [slotsW_len]
    rcases hw with rfl | rfl
    · simp
    · simp at h1 ⊢; omega
theorem shape_flat {w : Nat} (hw : Wd w) {t : List Rc} (h1 : 1 ≤ t.length) (h2 : t.length ≤ 1024) : Shape (flatW w t) w := by
  unfold Shape
  rw [Int.toNat_natCast, flatW_len hw]
  have e : t.length * w / w = t.length := by rcases hw with rfl | rfl <;> omega
  rw [e]
  refine ⟨by unfold Wd at hw; omega, by rw [Nat.mul_mod_left], h1, h2⟩
theorem rightS_flat {w : Nat} (hw : Wd w) {t : List Rc} (ht : Thin w t) (h1 : 1 ≤ t.length) (h2 : t.length ≤ 1024) : rightS (flatW w t) w = rightT t := by
  unfold rightS
  rw [decide_eq_true (shape_flat hw h1 h2), Bool.true_and, Int.toNat_natCast, slots_flat hw ht]

/-- A table of n slots of a width, by words, of the records S. -/
structure Tb (w n : Nat) (xs : List Int) (S : List Rc) : Prop where
  wd : Wd w
  n1 : 1 ≤ n
  n2 : n ≤ 1024
  thin : Thin w S
  is : ∃ t, Is n t S ∧ xs = flatW w t

theorem Tb.right {w n : Nat} {xs : List Int} {S : List Rc} (h : Tb w n xs S) : rightS xs w = true := by
  obtain ⟨t, hI, rfl⟩ := h.is
  rw [rightS_flat h.wd (hI.thin h.thin) (by rw [hI.len]; exact h.n1) (by rw [hI.len]; exact h.n2)]
  exact is_rightT hI
theorem Tb.len {w n : Nat} {xs : List Int} {S : List Rc} (h : Tb w n xs S) : xs.length = n * w := by
  obtain ⟨t, hI, rfl⟩ := h.is
  rw [flatW_len h.wd, hI.len]
theorem Tb.div {w n : Nat} {xs : List Int} {S : List Rc} (h : Tb w n xs S) : xs.length / w = n := by
  rw [h.len]; rcases h.wd with rfl | rfl <;> omega
theorem Tb.rng {w n : Nat} {xs : List Int} {S : List Rc} (h : Tb w n xs S) : ∀ x ∈ xs, U64 x := by
  obtain ⟨t, hI, rfl⟩ := h.is
  exact flatW_rng hI.rng
theorem Tb.perm {w n : Nat} {xs : List Int} {S M : List Rc} (h : Tb w n xs S) (p : S.Perm M) : Tb w n xs M := by
  obtain ⟨t, hI, rfl⟩ := h.is
  exact ⟨h.wd, h.n1, h.n2, h.thin.perm p, t, hI.perm p, rfl⟩
theorem Tb.good {w n : Nat} {xs : List Int} {S : List Rc} (h : Tb w n xs S) : Good S := by
  obtain ⟨t, hI, _⟩ := h.is; exact hI.good
theorem Tb.le {w n : Nat} {xs : List Int} {S : List Rc} (h : Tb w n xs S) : S.length ≤ n := by
  obtain ⟨t, hI, _⟩ := h.is; exact hI.le
theorem Tb.same {w n : Nat} {xs ys : List Int} {S M : List Rc} (h : Tb w n xs S) (g : Tb w n ys M) (p : S.Perm M) : xs = ys := by
  obtain ⟨t, hI, rfl⟩ := h.is
  obtain ⟨u, hJ, rfl⟩ := g.is
  rw [hI.same hJ p]
theorem Tb.make {w n : Nat} {S : List Rc} (hw : Wd w) (h1 : 1 ≤ n) (h2 : n ≤ 1024) (hG : Good S) (hl : S.length ≤ n) (ht : Thin w S) : Tb w n (flatW w (tableOf n S)) S :=
  ⟨hw, h1, h2, ht, _, ⟨hG, hl, rfl⟩, rfl⟩
theorem tb_of_right {xs : List Int} {w : Int} (hr : ∀ x ∈ xs, U64 x) (h : rightS xs w = true) : ∃ v : Nat, w = v ∧ Tb v (xs.length / v) xs (recs (slotsW v xs)) := by
  unfold rightS at h
  rw [Bool.and_eq_true, decide_eq_true_eq] at h
  obtain ⟨v, rfl, hv, hx, ht, hl, hl2, h1, h2⟩ := shape_parts h.1
  rw [Int.toNat_natCast] at h
  have hI := (rightT_is (slotsW_rng hr)).1 h.2
  rw [hl] at hI h1 h2
  exact ⟨v, rfl, hv, h1, h2, ht.recs, _, hI, hx⟩
theorem Tb.slots {w n : Nat} {xs : List Int} {S : List Rc} (h : Tb w n xs S) : Is n (slotsW w xs) S := by
  obtain ⟨t, hI, rfl⟩ := h.is
  rw [slots_flat h.wd (hI.thin h.thin)]; exact hI
theorem Tb.list {w n : Nat} {xs : List Int} {S : List Rc} (h : Tb w n xs S) : listS xs w = sortK S := by
  unfold listS
  rw [if_pos h.right, Int.toNat_natCast]
  exact sortK_eq h.good.one h.slots.recs

theorem Is.find {n : Nat} {t S : List Rc} (h : Is n t S) {k : Int} (hk : k ≠ 0) : (∃ (p : Nat) (v : Int), findT t k = ((p : Int), true) ∧ t[p]? = some (k, v) ∧ (k, v) ∈ S ∧ p < n) ∨ (findT t k = (0, false) ∧ ∀ v, (k, v) ∉ S) := by
  unfold findT
  cases hs : sought t k with
  | some p =>
    obtain ⟨h1, h2⟩ := sought_some hs
    have h3 := at_some h1
    refine .inl ⟨p, (at' t p).2, rfl, by rw [h3, ← h2], ?_, by rw [← h.len]; exact h1⟩
    have := h.mem h3 (by rw [h2]; exact hk)
    rwa [← h2]
  | none =>
    refine .inr ⟨rfl, fun v hv => ?_⟩
    obtain ⟨p, hp⟩ := h.place hv
    have hpl := (List.getElem?_eq_some_iff.1 hp).1
    refine sought_none hs hpl ?_
    unfold at'; rw [hp]; rfl

theorem others_perm {n : Nat} {t S : List Rc} (h : Is n t S) (k : Int) : (othersT t k).Perm (S.filter fun r => decide (r.1 ≠ k)) := h.recs.filter _

/-- The records with one more. -/
def withR (S : List Rc) (k v : Int) : List Rc := S.filter (fun r => decide (r.1 ≠ k)) ++ [(k, v)]
theorem withR_good {S : List Rc} (h : Good S) {k v : Int} (hk : k ≠ 0) (hu : U64 k) (hv : U64 v) : Good (withR S k v) := by
  have hf := h.filter fun r => decide (r.1 ≠ k)
  unfold withR
  refine ⟨fun r hr => ?_, fun r hr => ?_, ?_⟩
  · rcases List.mem_append.1 hr with hr | hr
    · exact hf.key r hr
    · rw [List.mem_singleton.1 hr]; exact hk
  · rcases List.mem_append.1 hr with hr | hr
    · exact hf.rng r hr
    · rw [List.mem_singleton.1 hr]; exact ⟨hu, hv⟩
  · rw [List.map_append, List.nodup_append]
    refine ⟨hf.one, by simp, ?_⟩
    intro a ha b hb e
    obtain ⟨r, hr, rfl⟩ := List.mem_map.1 ha
    simp at hb
    have := (List.mem_filter.1 hr).2
    simp at this
    exact this (e.trans hb)
theorem withR_thin {w : Nat} {S : List Rc} (h : Thin w S) {k v : Int} (hv : ¬ (w = 1 ∧ v ≠ 0)) : Thin w (withR S k v) := fun e r hr => by
  rcases List.mem_append.1 hr with hr | hr
  · exact h.filter _ e r hr
  · rw [List.mem_singleton.1 hr]
    by_cases hv0 : v = 0
    · exact hv0
    · exact absurd ⟨e, hv0⟩ hv

/-- Put into a table that has room. -/
theorem Tb.put {w n : Nat} {xs : List Int} {S : List Rc} (h : Tb w n xs S) {k v : Int} (hk : k ≠ 0) (hu : U64 k) (hv : U64 v) (hz : ¬ (w = 1 ∧ v ≠ 0)) (hl : (withR S k v).length ≤ n) : (putS xs w k v).2 = 0 ∧ Tb w n (putS xs w k v).1 (withR S k v) := by
  have hp : (othersT (slotsW w xs) k ++ [(k, v)]).Perm (withR S k v) := (others_perm h.slots k).append_right _
  have hc : ¬ (xs.length / w < (othersT (slotsW w xs) k ++ [(k, v)]).length) := by rw [h.div, hp.length_eq]; omega
  have hG := withR_good h.good hk hu hv
  have e : putS xs w k v = (flatW w (tableOf n (withR S k v)), 0) := by
    unfold putS
    rw [if_pos ⟨h.right, hk, by omega⟩]
    unfold laidS
    rw [Int.toNat_natCast, if_neg hc, h.div, tableOf_perm hG hp]
  rw [e]
  exact ⟨rfl, Tb.make h.wd h.n1 h.n2 hG hl (withR_thin h.thin hz)⟩
theorem Tb.put_full {w n : Nat} {xs : List Int} {S : List Rc} (h : Tb w n xs S) {k v : Int} (hk : k ≠ 0) (hz : ¬ (w = 1 ∧ v ≠ 0)) (hl : n < (withR S k v).length) : putS xs w k v = (xs, 11) := by
  have hp : (othersT (slotsW w xs) k ++ [(k, v)]).Perm (withR S k v) := (others_perm h.slots k).append_right _
  have hc : xs.length / w < (othersT (slotsW w xs) k ++ [(k, v)]).length := by rw [h.div, hp.length_eq]; omega
  unfold putS
  rw [if_pos ⟨h.right, hk, by omega⟩]
  unfold laidS
  rw [Int.toNat_natCast, if_pos hc]
/-- Del of a key that is there. -/
theorem Tb.del {w n : Nat} {xs : List Int} {S : List Rc} (h : Tb w n xs S) {k v : Int} (hk : k ≠ 0) (hm : (k, v) ∈ S) : (delS xs w k).2 = 0 ∧ Tb w n (delS xs w k).1 (S.filter fun r => decide (r.1 ≠ k)) := by
  have hp := others_perm h.slots k
  have hl : (S.filter fun r => decide (r.1 ≠ k)).length ≤ n := Nat.le_trans (List.length_filter_le _ _) h.le
  have hc : ¬ (xs.length / w < (othersT (slotsW w xs) k).length) := by rw [h.div, hp.length_eq]; omega
  have hG := h.good.filter fun r => decide (r.1 ≠ k)
  have hf : (findT (slotsW w xs) k).2 = true := by
    rcases h.slots.find hk with ⟨p, v', e, _⟩ | ⟨_, hn⟩
    · rw [e]
    · exact absurd hm (hn v)
  have e : delS xs w k = (flatW w (tableOf n (S.filter fun r => decide (r.1 ≠ k))), 0) := by
    unfold delS
    rw [if_pos ⟨h.right, hk⟩, Int.toNat_natCast, if_pos hf]
    unfold laidS
    rw [if_neg hc, h.div, tableOf_perm hG hp]
  rw [e]
  exact ⟨rfl, Tb.make h.wd h.n1 h.n2 hG hl (h.thin.filter _)⟩
theorem Tb.find {w n : Nat} {xs : List Int} {S : List Rc} (h : Tb w n xs S) {k : Int} (hk : k ≠ 0) : (∃ (p : Nat) (v : Int), findS xs w k = ((p : Int), true) ∧ (slotsW w xs)[p]? = some (k, v) ∧ (k, v) ∈ S ∧ p < n) ∨ (findS xs w k = (0, false) ∧ ∀ v, (k, v) ∉ S) := by
  have e : findS xs w k = findT (slotsW w xs) k := by unfold findS; rw [if_pos ⟨h.right, hk⟩, Int.toNat_natCast]
  rw [e]; exact h.slots.find hk

end Go.Proofs.YtbpgnnogpcppdaaDoor
