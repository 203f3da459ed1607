/-
  The plain mathematics of ordered tables, over lists of records (a key and a word): the table of records, that there is one of the same records, and that a key that is there is found. No condition but those that each theorem says.
-/
import Derived.Test.YtbpgnnogpcppdaaDoorMixWords
import Derived.Lib.Hide
namespace Go.Proofs.YtbpgnnogpcppdaaDoor

abbrev Rc := Int × Int
def I64 (x : Int) : Prop := -9223372036854775808 ≤ x ∧ x < 9223372036854775808
def U64 (x : Int) : Prop := 0 ≤ x ∧ x < 18446744073709551616
def Ur (r : Rc) : Prop := U64 r.1 ∧ U64 r.2

/-- The slot of a key among n. -/
def slotN (k : Int) (n : Nat) : Nat := (mixed k % (n : Int)).toNat
theorem slotN_lt {k : Int} {n : Nat} (h : 0 < n) : slotN k n < n := by
  unfold slotN
  have h1 := Int.emod_nonneg (mixed k) (b := (n : Int)) (by omega)
  have h2 := Int.emod_lt_of_pos (mixed k) (b := (n : Int)) (by omega)
  omega

def at' (t : List Rc) (p : Nat) : Rc := t[p]?.getD (0, 0)
theorem at_some {t : List Rc} {p : Nat} (h : p < t.length) : t[p]? = some (at' t p) := by unfold at'; rw [List.getElem?_eq_getElem h]; rfl
theorem at_mem {t : List Rc} {p : Nat} (h : p < t.length) : at' t p ∈ t := List.mem_of_getElem? (at_some h)

/-- The first empty slot from s on, how far it is. -/
def seat (t : List Rc) (s : Nat) : Option Nat := (List.range t.length).find? fun i => decide (at' t ((s + i) % t.length) = (0, 0))
def layS (t : List Rc) (r : Rc) : List Rc :=
  match seat t (slotN r.1 t.length) with
  | some i => t.set ((slotN r.1 t.length + i) % t.length) r
  | none => t

theorem layS_at {t : List Rc} {r : Rc} {n i : Nat} (hn : t.length = n) (hi : i < n) (h : at' t ((slotN r.1 n + i) % n) = (0, 0)) (hb : ∀ j, j < i → at' t ((slotN r.1 n + j) % n) ≠ (0, 0)) :
    layS t r = t.set ((slotN r.1 n + i) % n) r := by
  have hs : seat t (slotN r.1 t.length) = some i := by
    unfold seat
    rw [List.find?_range_eq_some, hn]
    exact ⟨by simpa using h, by simpa using hi, fun j hj => by simpa using hb j hj⟩
  unfold layS; rw [hs, hn]
theorem layS_len (t : List Rc) (r : Rc) : (layS t r).length = t.length := by
  unfold layS; split <;> simp
theorem layS_full {t : List Rc} {r : Rc} {n : Nat} (hn : t.length = n) (h : ∀ i, i < n → at' t ((slotN r.1 n + i) % n) ≠ (0, 0)) : layS t r = t := by
  have hs : seat t (slotN r.1 t.length) = none := by
    unfold seat; rw [List.find?_range_eq_none, hn]; exact fun i hi => by simpa using h i hi
  unfold layS; rw [hs]

def leB (a b : Rc) : Bool := decide (mixed b.1 ≤ mixed a.1)
def leK (a b : Rc) : Bool := decide (a.1 ≤ b.1)
def sortB (l : List Rc) : List Rc := l.mergeSort leB
def sortK (l : List Rc) : List Rc := l.mergeSort leK
/-- The table of records. -/
def tableOf (n : Nat) (l : List Rc) : List Rc := (sortB l).foldl layS (List.replicate n (0, 0))

/-- Records that may stand in one table. -/
structure Good (l : List Rc) : Prop where
  key : ∀ r ∈ l, r.1 ≠ 0
  rng : ∀ r ∈ l, Ur r
  one : (l.map (·.1)).Nodup

theorem Good.perm {l m : List Rc} (h : Good l) (p : l.Perm m) : Good m :=
  ⟨fun r hr => h.key r (p.mem_iff.2 hr), fun r hr => h.rng r (p.mem_iff.2 hr), (p.map _).nodup_iff.1 h.one⟩
theorem Good.filter {l : List Rc} (h : Good l) (q : Rc → Bool) : Good (l.filter q) :=
  ⟨fun r hr => h.key r (List.mem_filter.1 hr).1, fun r hr => h.rng r (List.mem_filter.1 hr).1, by
    have : ((l.filter q).map (·.1)).Sublist (l.map (·.1)) := List.Sublist.map _ List.filter_sublist
    exact this.nodup h.one⟩
theorem Good.nil : Good [] := ⟨fun _ h => absurd h (List.not_mem_nil), fun _ h => absurd h (List.not_mem_nil), List.nodup_nil⟩

theorem key_inj {l : List Rc} (h : (l.map (·.1)).Nodup) {a b : Rc} (ha : a ∈ l) (hb : b ∈ l) (e : a.1 = b.1) : a = b := by
  induction l with
  | nil => cases ha
  | cons x r ih =>
    rw [List.map_cons, List.nodup_cons] at h
    have mem : ∀ {c : Rc}, c ∈ r → c.1 ∈ r.map (·.1) := fun hc => List.mem_map_of_mem (f := (·.1)) hc
    rcases List.mem_cons.1 ha with e1 | ha1
    · rcases List.mem_cons.1 hb with e2 | hb1
      · rw [e1, e2]
      · exact absurd (by have := mem hb1; rwa [← e, e1] at this) h.1
    · rcases List.mem_cons.1 hb with e2 | hb1
      · exact absurd (by have := mem ha1; rwa [e, e2] at this) h.1
      · exact ih h.2 ha1 hb1

theorem leB_trans (a b c : Rc) (h : leB a b = true) (g : leB b c = true) : leB a c = true := by unfold leB at *; simp at *; omega
theorem leB_total (a b : Rc) : (leB a b || leB b a) = true := by unfold leB; simp; omega
theorem leK_trans (a b c : Rc) (h : leK a b = true) (g : leK b c = true) : leK a c = true := by unfold leK at *; simp at *; omega
theorem leK_total (a b : Rc) : (leK a b || leK b a) = true := by unfold leK; simp; omega

/-- Of records that may stand in one table there is one order. -/
theorem sortB_one {l m : List Rc} (hG : Good l) (hp : m.Perm l) (hs : m.Pairwise fun a b => leB a b = true) : m = sortB l := by
  refine List.Perm.eq_of_pairwise (le := fun a b => leB a b = true) ?_ hs (List.pairwise_mergeSort leB_trans leB_total l) (hp.trans (List.mergeSort_perm l leB).symm)
  intro a b ha hb h1 h2
  have ha := hp.mem_iff.1 ha
  have hb := (List.mergeSort_perm l leB).mem_iff.1 hb
  unfold leB at h1 h2
  simp at h1 h2
  have ra := (hG.rng a ha).1
  have rb := (hG.rng b hb).1
  exact key_inj hG.one ha hb (mixed_inj _ _ ra.1 ra.2 rb.1 rb.2 (by omega))
theorem sortK_one {l m : List Rc} (hO : (l.map (·.1)).Nodup) (hp : m.Perm l) (hs : m.Pairwise fun a b => leK a b = true) : m = sortK l := by
  refine List.Perm.eq_of_pairwise (le := fun a b => leK a b = true) ?_ hs (List.pairwise_mergeSort leK_trans leK_total l) (hp.trans (List.mergeSort_perm l leK).symm)
  intro a b ha hb h1 h2
  have ha := hp.mem_iff.1 ha
  have hb := (List.mergeSort_perm l leK).mem_iff.1 hb
  unfold leK at h1 h2
  simp at h1 h2
  exact key_inj hO ha hb (by omega)
theorem sortB_perm (l : List Rc) : (sortB l).Perm l := List.mergeSort_perm l leB
theorem sortK_perm (l : List Rc) : (sortK l).Perm l := List.mergeSort_perm l leK
theorem sortK_pair (l : List Rc) : (sortK l).Pairwise fun a b => leK a b = true := List.pairwise_mergeSort leK_trans leK_total l
theorem sortB_pair (l : List Rc) : (sortB l).Pairwise fun a b => leB a b = true := List.pairwise_mergeSort leB_trans leB_total l
theorem sortB_eq {l m : List Rc} (hG : Good l) (hp : m.Perm l) : sortB m = sortB l := sortB_one hG ((sortB_perm m).trans hp) (sortB_pair m)
theorem sortK_eq {l m : List Rc} (hO : (l.map (·.1)).Nodup) (hp : m.Perm l) : sortK m = sortK l := sortK_one hO ((sortK_perm m).trans hp) (sortK_pair m)

/-- Of the same records there is one table. -/
theorem tableOf_perm {n : Nat} {l m : List Rc} (hG : Good l) (hp : m.Perm l) : tableOf n m = tableOf n l := by unfold tableOf; rw [sortB_eq hG hp]

def isK (r : Rc) : Bool := decide (r.1 ≠ 0)
/-- A table into which records were laid, done being those. -/
structure Inv (n : Nat) (t done : List Rc) : Prop where
  len : t.length = n
  perm : (t.filter isK).Perm done
  clean : ∀ r ∈ t, r.1 = 0 → r = (0, 0)
  reach : ∀ p r, t[p]? = some r → r.1 ≠ 0 → ∃ i, i < n ∧ p = (slotN r.1 n + i) % n ∧ ∀ j, j < i → (at' t ((slotN r.1 n + j) % n)).1 ≠ 0

theorem inv_start (n : Nat) : Inv n (List.replicate n (0, 0)) [] where
  len := by simp
  perm := by rw [List.filter_eq_nil_iff.2]; intro r hr; rw [List.eq_of_mem_replicate hr]; simp [isK]
  clean := fun r hr _ => List.eq_of_mem_replicate hr
  reach := fun p r hp h => absurd (by rw [List.eq_of_mem_replicate (List.mem_of_getElem? hp)]) h

theorem filter_set_perm {q : Rc → Bool} : ∀ {t : List Rc} {p : Nat} {r : Rc}, p < t.length → q (at' t p) = false → q r = true → ((t.set p r).filter q).Perm (r :: t.filter q)
  | [], p, r, h, _, _ => by simp at h
  | x :: t, 0, r, _, h, g => by
    have hx : q x = false := by simpa [at'] using h
    simp [List.set, List.filter, hx, g]
  | x :: t, p + 1, r, hp, h, g => by
    have ih := filter_set_perm (t := t) (p := p) (r := r) (by simpa using hp) (by simpa [at'] using h) g
    rw [List.set_cons_succ]
    by_cases hx : q x = true
    · rw [List.filter_cons_of_pos hx, List.filter_cons_of_pos hx]
      exact (ih.cons x).trans (List.Perm.swap _ _ _)
    · rw [List.filter_cons_of_neg hx, List.filter_cons_of_neg hx]; exact ih

theorem wrap_reach {n s p : Nat} (hp : p < n) (hs : s < n) : ∃ i, i < n ∧ (s + i) % n = p := by
  by_cases h : s ≤ p
  · exact ⟨p - s, by omega, by rw [show s + (p - s) = p by omega, Nat.mod_eq_of_lt hp]⟩
  · exact ⟨p + n - s, by omega, by rw [show s + (p + n - s) = p + n by omega, Nat.add_mod_right, Nat.mod_eq_of_lt hp]⟩

theorem room {n : Nat} {t done : List Rc} (h : Inv n t done) (hl : done.length < n) (s : Nat) (hs : s < n) : ∃ i, i < n ∧ at' t ((s + i) % n) = (0, 0) ∧ ∀ j, j < i → at' t ((s + j) % n) ≠ (0, 0) := by
  have hex : ∃ i, i < n ∧ at' t ((s + i) % n) = (0, 0) := by
    refine Classical.byContradiction fun hno => ?_
    have : ∀ r ∈ t, isK r = true := fun r hr => by
      obtain ⟨p, hp⟩ := List.mem_iff_getElem?.1 hr
      have hpl := (List.getElem?_eq_some_iff.1 hp).1
      obtain ⟨i, hi, e⟩ := wrap_reach (n := n) (s := s) (p := p) (by rw [← h.len]; exact hpl) hs
      unfold isK
      refine decide_eq_true fun h0 => hno ⟨i, hi, ?_⟩
      rw [e]; unfold at'; rw [hp]; exact h.clean r hr h0
    have h1 := h.perm.length_eq
    rw [List.filter_eq_self.2 this, h.len] at h1
    omega
  obtain ⟨i, hi, he⟩ := hex
  cases hf : (List.range n).find? fun i => decide (at' t ((s + i) % n) = (0, 0)) with
  | none =>
    have := List.find?_range_eq_none.1 hf i hi
    simp [he] at this
  | some k =>
    obtain ⟨h1, h2, h3⟩ := List.find?_range_eq_some.1 hf
    exact ⟨k, by simpa using h2, by simpa using h1, fun j hj => by simpa using h3 j hj⟩

theorem inv_step {n : Nat} {t done : List Rc} (h : Inv n t done) (hl : done.length < n) {r : Rc} (hr : r.1 ≠ 0) : Inv n (layS t r) (r :: done) := by
  have hs := slotN_lt (k := r.1) (n := n) (by omega)
  obtain ⟨i, hi, he, hb⟩ := room h hl _ hs
  have hlay := layS_at (r := r) h.len hi he hb
  have hq : (slotN r.1 n + i) % n < t.length := by rw [h.len]; exact Nat.mod_lt _ (by omega)
  have hset : ∀ p, (at' (t.set ((slotN r.1 n + i) % n) r) p) = if (slotN r.1 n + i) % n = p then r else at' t p := fun p => by
    unfold at'; rw [List.getElem?_set]
    by_cases e : (slotN r.1 n + i) % n = p
    · rw [if_pos e, if_pos e, if_pos hq]; rfl
    · rw [if_neg e, if_neg e]
  rw [hlay]
  refine ⟨by simp [h.len], ?_, ?_, ?_⟩
  · refine (filter_set_perm hq (by rw [he]; rfl) (by unfold isK; simpa using hr)).trans (h.perm.cons r)
  · intro x hx h0
    rcases List.mem_or_eq_of_mem_set hx with hx | rfl
    · exact h.clean x hx h0
    · exact absurd h0 hr
  · intro p x hp hx
    rw [List.getElem?_set] at hp
    by_cases e : (slotN r.1 n + i) % n = p
    · rw [if_pos e, if_pos hq] at hp
      cases hp
      refine ⟨i, hi, e.symm, fun j hj => ?_⟩
      rw [hset]
      split
      · exact hr
      · intro h0
        have hm : (slotN r.1 n + j) % n < t.length := by rw [h.len]; exact Nat.mod_lt _ (by omega)
        exact hb j hj (h.clean _ (at_mem hm) h0)
    · rw [if_neg e] at hp
      obtain ⟨k, hk, e2, hj⟩ := h.reach p x hp hx
      refine ⟨k, hk, e2, fun j hjk => ?_⟩
      rw [hset]
      split
      · exact hr
      · exact hj j hjk

theorem inv_fold {n : Nat} : ∀ {l t done : List Rc}, Inv n t done → done.length + l.length ≤ n → (∀ r ∈ l, r.1 ≠ 0) → ∃ d, d.Perm (done ++ l) ∧ Inv n (l.foldl layS t) d
  | [], t, done, h, _, _ => ⟨done, by simp, h⟩
  | r :: l, t, done, h, hl, hk => by
    have h1 := inv_step h (by simp at hl; omega) (hk r (List.mem_cons_self ..))
    obtain ⟨d, hd, hi⟩ := inv_fold (l := l) h1 (by simp at hl ⊢; omega) (fun x hx => hk x (List.mem_cons_of_mem _ hx))
    exact ⟨d, hd.trans List.perm_middle.symm, hi⟩

/-- The table of records holds these, and each is reached. -/
theorem table_inv {n : Nat} {l : List Rc} (hG : Good l) (hl : l.length ≤ n) : Inv n (tableOf n l) l := by
  have hk : ∀ r ∈ sortB l, r.1 ≠ 0 := fun r hr => hG.key r ((sortB_perm l).mem_iff.1 hr)
  have hlen := (sortB_perm l).length_eq
  obtain ⟨d, hd, hi⟩ := inv_fold (inv_start n) (l := sortB l) (by simp; omega) hk
  have hd2 : d.Perm l := hd.trans (by simpa using sortB_perm l)
  exact ⟨hi.len, hi.perm.trans hd2, hi.clean, hi.reach⟩

/-- What a table holds: all that is not empty. -/
def recs (t : List Rc) : List Rc := t.filter fun r => decide (r ≠ (0, 0))
theorem recs_isK {t : List Rc} (h : ∀ r ∈ t, r.1 = 0 → r = (0, 0)) : recs t = t.filter isK := by
  unfold recs
  refine List.filter_congr fun r hr => ?_
  unfold isK
  refine decide_eq_decide.2 ⟨fun h1 h2 => h1 (h r hr h2), fun h1 h2 => h1 (by rw [h2])⟩
theorem recs_table {n : Nat} {l : List Rc} (hG : Good l) (hl : l.length ≤ n) : (recs (tableOf n l)).Perm l := by
  have h := table_inv hG hl
  rw [recs_isK h.clean]; exact h.perm

/-- t is the table of n slots of the records S. -/
structure Is (n : Nat) (t S : List Rc) : Prop where
  good : Good S
  le : S.length ≤ n
  eq : t = tableOf n S

theorem Is.inv {n : Nat} {t S : List Rc} (h : Is n t S) : Inv n t S := by rw [h.eq]; exact table_inv h.good h.le
theorem Is.len {n : Nat} {t S : List Rc} (h : Is n t S) : t.length = n := h.inv.len
theorem Is.recs {n : Nat} {t S : List Rc} (h : Is n t S) : (recs t).Perm S := by rw [h.eq]; exact recs_table h.good h.le
theorem Is.perm {n : Nat} {t S M : List Rc} (h : Is n t S) (p : S.Perm M) : Is n t M := ⟨h.good.perm p, by rw [← p.length_eq]; exact h.le, by rw [h.eq]; exact (tableOf_perm h.good p.symm).symm⟩
theorem Is.self {n : Nat} {t S : List Rc} (h : Is n t S) : Is n t (YtbpgnnogpcppdaaDoor.recs t) := h.perm h.recs.symm
theorem Is.mem {n : Nat} {t S : List Rc} (h : Is n t S) {p : Nat} {r : Rc} (hp : t[p]? = some r) (hr : r.1 ≠ 0) : r ∈ S :=
  h.inv.perm.mem_iff.1 (List.mem_filter.2 ⟨List.mem_of_getElem? hp, by unfold isK; simpa using hr⟩)
theorem Is.place {n : Nat} {t S : List Rc} (h : Is n t S) {r : Rc} (hr : r ∈ S) : ∃ p : Nat, t[p]? = some r := by
  have := (List.mem_filter.1 (h.inv.perm.mem_iff.2 hr)).1
  exact List.mem_iff_getElem?.1 this
theorem Is.rng {n : Nat} {t S : List Rc} (h : Is n t S) : ∀ r ∈ t, Ur r := fun r hr => by
  by_cases h0 : r.1 = 0
  · rw [h.inv.clean r hr h0]; unfold Ur U64; simp
  · obtain ⟨p, hp⟩ := List.mem_iff_getElem?.1 hr
    exact h.good.rng r (h.mem hp h0)
theorem Is.same {n : Nat} {t u S M : List Rc} (h : Is n t S) (g : Is n u M) (p : S.Perm M) : t = u := by rw [h.eq, g.eq]; exact tableOf_perm g.good p

/-- A key stands in one slot alone. -/
theorem filter_one {q : Rc → Bool} : ∀ {t : List Rc}, ((t.filter q).map (·.1)).Nodup → ∀ {i j : Nat} {a b : Rc}, t[i]? = some a → t[j]? = some b → q a = true → q b = true → a.1 = b.1 → i = j
  | [], _, i, j, a, b, h, _, _, _, _ => by simp at h
  | x :: t, hN, i, j, a, b, hi, hj, qa, qb, e => by
    have mem : ∀ {k : Nat} {c : Rc}, t[k]? = some c → q c = true → c.1 ∈ (t.filter q).map (·.1) := fun {k c} hk hq => List.mem_map_of_mem (f := (·.1)) (List.mem_filter.2 ⟨List.mem_of_getElem? hk, hq⟩)
    by_cases hx : q x = true
    · rw [List.filter_cons_of_pos hx, List.map_cons, List.nodup_cons] at hN
      match i, j, hi, hj with
      | 0, 0, _, _ => rfl
      | 0, j + 1, hi, hj => simp at hi hj; subst hi; exact absurd (e ▸ mem hj qb) hN.1
      | i + 1, 0, hi, hj => simp at hi hj; subst hj; exact absurd (e ▸ mem hi qa) hN.1
      | i + 1, j + 1, hi, hj => simp at hi hj; rw [filter_one hN.2 hi hj qa qb e]
    · rw [List.filter_cons_of_neg hx] at hN
      match i, j, hi, hj with
      | 0, 0, _, _ => rfl
      | 0, j + 1, hi, hj => simp at hi; subst hi; exact absurd qa hx
      | i + 1, 0, hi, hj => simp at hj; subst hj; exact absurd qb hx
      | i + 1, j + 1, hi, hj => simp at hi hj; rw [filter_one hN hi hj qa qb e]
theorem Is.one {n : Nat} {t S : List Rc} (h : Is n t S) {i j : Nat} {a b : Rc} (hi : t[i]? = some a) (hj : t[j]? = some b) (ha : a.1 ≠ 0) (e : a.1 = b.1) : i = j :=
  filter_one (q := isK) ((h.inv.perm.map _).nodup_iff.2 h.good.one) hi hj (by unfold isK; simpa using ha) (by unfold isK; simpa [← e] using ha) e

/-- Which slot has the key: how far from its own. -/
def sought (t : List Rc) (k : Int) : Option Nat := (List.range t.length).find? fun p => decide ((at' t p).1 = k)

theorem sought_some {t : List Rc} {k : Int} {p : Nat} (h : sought t k = some p) : p < t.length ∧ (at' t p).1 = k := by
  unfold sought at h
  obtain ⟨h1, h2, _⟩ := List.find?_range_eq_some.1 h
  exact ⟨by simpa using h2, by simpa using h1⟩
theorem sought_none {t : List Rc} {k : Int} (h : sought t k = none) {p : Nat} (hp : p < t.length) : (at' t p).1 ≠ k := by
  unfold sought at h
  simpa using List.find?_range_eq_none.1 h p hp

/-- On the way from its own slot on, a key that is there is met ahead of any empty slot. -/
theorem Is.way {n : Nat} {t S : List Rc} (h : Is n t S) {k : Int} (hk : k ≠ 0) {p : Nat} (hp : sought t k = some p) : ∃ i, i < n ∧ p = (slotN k n + i) % n ∧ ∀ j, j < i → (at' t ((slotN k n + j) % n)).1 ≠ 0 ∧ (at' t ((slotN k n + j) % n)).1 ≠ k := by
  obtain ⟨h1, h2⟩ := sought_some hp
  obtain ⟨i, hi, e, hj⟩ := h.inv.reach p _ (at_some h1) (by rw [h2]; exact hk)
  rw [h2] at e hj
  have hn : 0 < n := by omega
  -- the least such i
  refine ⟨i, hi, e, fun j hji => ⟨hj j hji, fun e2 => ?_⟩⟩
  have hm : (slotN k n + j) % n < t.length := by rw [h.len]; exact Nat.mod_lt _ hn
  have := h.one (at_some h1) (at_some hm) (by rw [h2]; exact hk) (by rw [h2, e2])
  have hs := slotN_lt (k := k) hn
  rw [e] at this
  have a1 : (slotN k n + i) % n = if slotN k n + i < n then slotN k n + i else slotN k n + i - n := by
    split
    · exact Nat.mod_eq_of_lt (by assumption)
    · rw [Nat.mod_eq_sub_mod (by omega), Nat.mod_eq_of_lt (by omega)]
  have a2 : (slotN k n + j) % n = if slotN k n + j < n then slotN k n + j else slotN k n + j - n := by
    split
    · exact Nat.mod_eq_of_lt (by assumption)
    · rw [Nat.mod_eq_sub_mod (by omega), Nat.mod_eq_of_lt (by omega)]
  rw [a1, a2] at this
  split at this <;> split at this <;> omega

end Go.Proofs.YtbpgnnogpcppdaaDoor
