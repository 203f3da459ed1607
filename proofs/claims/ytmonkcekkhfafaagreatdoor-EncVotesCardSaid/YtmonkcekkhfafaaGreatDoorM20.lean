/-
  Parts of a proof, one behind the other: PrbPlain, PrbSpec, PrbMem, PrbLeaf, PrbCut. Each says its own conditions.
-/
import Derived.Test.YtmonkcekkhfafaaGreatDoorM05
import Derived.Lib.Hide
import Derived.Test.YtmonkcekkhfafaaGreatDoorRows
import Derived.WalkKit
import Derived.ProofKit
import Derived.Below
import Derived.IntWalk
import Derived.Deep.QuietTactic
import Derived.BigQuiet
import Derived.Deep.AppendLies
import Derived.Maps.AppendAt
import Derived.Deep.Draws
import Derived.OwnWalk
import Derived.RangeFuncRecord
import Derived.Laws.CopyOwn
import Derived.Laws.MakeOwn
import Derived.Laws.OwnMore
import Derived.Laws.StructEq
import Derived.DeepKeys
import Derived.Lib.AppendZeros
import Derived.Deep.RegionHeld3

/- PrbPlain:
  The plain mathematics of ordered tables, over lists of records (a key and a word): the table of records, that there is one of the same records, and that a key that is there is found. No condition but those that each theorem says.
-/
namespace Go.Proofs.YtmonkcekkhfafaaGreatDoor.Prb

abbrev Rc := Int × Int
def I64 (x : Int) : Prop := -9223372036854775808 ≤ x ∧ x < 9223372036854775808
def U64 (x : Int) : Prop := 0 ≤ x ∧ x < 18446744073709551616
def Ur (r : Rc) : Prop := U64 r.1 ∧ U64 r.2

/-- The slot of a key among n. -/
def slotN (k : Int) (n : Nat) : Nat := (mixed k % (n : Int)).toNat
theorem slotN_lt {k : Int} {n : Nat} (h : 0 < n) : slotN k n < n := by
  unfold slotN
  have h1 := Int.emod_nonneg (mixed k) (b := (n : Int)) (by omega)
  have h2 := Int.emod_lt_of_pos (mixed k) (b := (n : Int)) (by omega)
  omega

def at' (t : List Rc) (p : Nat) : Rc := t[p]?.getD (0, 0)
theorem at_some {t : List Rc} {p : Nat} (h : p < t.length) : t[p]? = some (at' t p) := by unfold at'; rw [List.getElem?_eq_getElem h]; rfl
theorem at_mem {t : List Rc} {p : Nat} (h : p < t.length) : at' t p ∈ t := List.mem_of_getElem? (at_some h)

/-- The first empty slot from s on, how far it is. -/
def seat (t : List Rc) (s : Nat) : Option Nat := (List.range t.length).find? fun i => decide (at' t ((s + i) % t.length) = (0, 0))
def layS (t : List Rc) (r : Rc) : List Rc :=
  match seat t (slotN r.1 t.length) with
  | some i => t.set ((slotN r.1 t.length + i) % t.length) r
  | none => t

theorem layS_at {t : List Rc} {r : Rc} {n i : Nat} (hn : t.length = n) (hi : i < n) (h : at' t ((slotN r.1 n + i) % n) = (0, 0)) (hb : ∀ j, j < i → at' t ((slotN r.1 n + j) % n) ≠ (0, 0)) :
    layS t r = t.set ((slotN r.1 n + i) % n) r := by
  have hs : seat t (slotN r.1 t.length) = some i := by
    unfold seat
    rw [List.find?_range_eq_some, hn]
    exact ⟨by simpa using h, by simpa using hi, fun j hj => by simpa using hb j hj⟩
  unfold layS; rw [hs, hn]
theorem layS_len (t : List Rc) (r : Rc) : (layS t r).length = t.length := by
  unfold layS; split <;> simp
theorem layS_full {t : List Rc} {r : Rc} {n : Nat} (hn : t.length = n) (h : ∀ i, i < n → at' t ((slotN r.1 n + i) % n) ≠ (0, 0)) : layS t r = t := by
  have hs : seat t (slotN r.1 t.length) = none := by
    unfold seat; rw [List.find?_range_eq_none, hn]; exact fun i hi => by simpa using h i hi
  unfold layS; rw [hs]

def leB (a b : Rc) : Bool := decide (mixed b.1 ≤ mixed a.1)
def leK (a b : Rc) : Bool := decide (a.1 ≤ b.1)
def sortB (l : List Rc) : List Rc := l.mergeSort leB
def sortK (l : List Rc) : List Rc := l.mergeSort leK
/-- The table of records. -/
def tableOf (n : Nat) (l : List Rc) : List Rc := (sortB l).foldl layS (List.replicate n (0, 0))

/-- Records that may stand in one table. -/
structure Good (l : List Rc) : Prop where
  key : ∀ r ∈ l, r.1 ≠ 0
  rng : ∀ r ∈ l, Ur r
  one : (l.map (·.1)).Nodup

theorem Good.perm {l m : List Rc} (h : Good l) (p : l.Perm m) : Good m :=
  ⟨fun r hr => h.key r (p.mem_iff.2 hr), fun r hr => h.rng r (p.mem_iff.2 hr), (p.map _).nodup_iff.1 h.one⟩
theorem Good.filter {l : List Rc} (h : Good l) (q : Rc → Bool) : Good (l.filter q) :=
  ⟨fun r hr => h.key r (List.mem_filter.1 hr).1, fun r hr => h.rng r (List.mem_filter.1 hr).1, by
    have : ((l.filter q).map (·.1)).Sublist (l.map (·.1)) := List.Sublist.map _ List.filter_sublist
    exact this.nodup h.one⟩
theorem Good.nil : Good [] := ⟨fun _ h => absurd h (List.not_mem_nil), fun _ h => absurd h (List.not_mem_nil), List.nodup_nil⟩

theorem key_inj {l : List Rc} (h : (l.map (·.1)).Nodup) {a b : Rc} (ha : a ∈ l) (hb : b ∈ l) (e : a.1 = b.1) : a = b := by
  induction l with
  | nil => cases ha
  | cons x r ih =>
    rw [List.map_cons, List.nodup_cons] at h
    have mem : ∀ {c : Rc}, c ∈ r → c.1 ∈ r.map (·.1) := fun hc => List.mem_map_of_mem (f := (·.1)) hc
    rcases List.mem_cons.1 ha with e1 | ha1
    · rcases List.mem_cons.1 hb with e2 | hb1
      · rw [e1, e2]
      · exact absurd (by have := mem hb1; rwa [← e, e1] at this) h.1
    · rcases List.mem_cons.1 hb with e2 | hb1
      · exact absurd (by have := mem ha1; rwa [e, e2] at this) h.1
      · exact ih h.2 ha1 hb1

theorem leB_trans (a b c : Rc) (h : leB a b = true) (g : leB b c = true) : leB a c = true := by unfold leB at *; simp at *; omega
theorem leB_total (a b : Rc) : (leB a b || leB b a) = true := by unfold leB; simp; omega
theorem leK_trans (a b c : Rc) (h : leK a b = true) (g : leK b c = true) : leK a c = true := by unfold leK at *; simp at *; omega
theorem leK_total (a b : Rc) : (leK a b || leK b a) = true := by unfold leK; simp; omega

/-- Of records that may stand in one table there is one order. -/
theorem sortB_one {l m : List Rc} (hG : Good l) (hp : m.Perm l) (hs : m.Pairwise fun a b => leB a b = true) : m = sortB l := by
  refine List.Perm.eq_of_pairwise (le := fun a b => leB a b = true) ?_ hs (List.pairwise_mergeSort leB_trans leB_total l) (hp.trans (List.mergeSort_perm l leB).symm)
  intro a b ha hb h1 h2
  have ha := hp.mem_iff.1 ha
  have hb := (List.mergeSort_perm l leB).mem_iff.1 hb
  unfold leB at h1 h2
  simp at h1 h2
  have ra := (hG.rng a ha).1
  have rb := (hG.rng b hb).1
  exact key_inj hG.one ha hb (mixed_inj _ _ ra.1 ra.2 rb.1 rb.2 (by omega))
theorem sortK_one {l m : List Rc} (hO : (l.map (·.1)).Nodup) (hp : m.Perm l) (hs : m.Pairwise fun a b => leK a b = true) : m = sortK l := by
  refine List.Perm.eq_of_pairwise (le := fun a b => leK a b = true) ?_ hs (List.pairwise_mergeSort leK_trans leK_total l) (hp.trans (List.mergeSort_perm l leK).symm)
  intro a b ha hb h1 h2
  have ha := hp.mem_iff.1 ha
  have hb := (List.mergeSort_perm l leK).mem_iff.1 hb
  unfold leK at h1 h2
  simp at h1 h2
  exact key_inj hO ha hb (by omega)
theorem sortB_perm (l : List Rc) : (sortB l).Perm l := List.mergeSort_perm l leB
theorem sortK_perm (l : List Rc) : (sortK l).Perm l := List.mergeSort_perm l leK
theorem sortK_pair (l : List Rc) : (sortK l).Pairwise fun a b => leK a b = true := List.pairwise_mergeSort leK_trans leK_total l
theorem sortB_pair (l : List Rc) : (sortB l).Pairwise fun a b => leB a b = true := List.pairwise_mergeSort leB_trans leB_total l
theorem sortB_eq {l m : List Rc} (hG : Good l) (hp : m.Perm l) : sortB m = sortB l := sortB_one hG ((sortB_perm m).trans hp) (sortB_pair m)
theorem sortK_eq {l m : List Rc} (hO : (l.map (·.1)).Nodup) (hp : m.Perm l) : sortK m = sortK l := sortK_one hO ((sortK_perm m).trans hp) (sortK_pair m)

/-- Of the same records there is one table. -/
theorem tableOf_perm {n : Nat} {l m : List Rc} (hG : Good l) (hp : m.Perm l) : tableOf n m = tableOf n l := by unfold tableOf; rw [sortB_eq hG hp]

def isK (r : Rc) : Bool := decide (r.1 ≠ 0)
/-- A table into which records were laid, done being those. -/
structure Inv (n : Nat) (t done : List Rc) : Prop where
  len : t.length = n
  perm : (t.filter isK).Perm done
  clean : ∀ r ∈ t, r.1 = 0 → r = (0, 0)
  reach : ∀ p r, t[p]? = some r → r.1 ≠ 0 → ∃ i, i < n ∧ p = (slotN r.1 n + i) % n ∧ ∀ j, j < i → (at' t ((slotN r.1 n + j) % n)).1 ≠ 0

theorem inv_start (n : Nat) : Inv n (List.replicate n (0, 0)) [] where
  len := by simp
  perm := by rw [List.filter_eq_nil_iff.2]; intro r hr; rw [List.eq_of_mem_replicate hr]; simp [isK]
  clean := fun r hr _ => List.eq_of_mem_replicate hr
  reach := fun p r hp h => absurd (by rw [List.eq_of_mem_replicate (List.mem_of_getElem? hp)]) h

theorem filter_set_perm {q : Rc → Bool} : ∀ {t : List Rc} {p : Nat} {r : Rc}, p < t.length → q (at' t p) = false → q r = true → ((t.set p r).filter q).Perm (r :: t.filter q)
  | [], p, r, h, _, _ => by simp at h
  | x :: t, 0, r, _, h, g => by
    have hx : q x = false := by simpa [at'] using h
    simp [List.set, List.filter, hx, g]
  | x :: t, p + 1, r, hp, h, g => by
    have ih := filter_set_perm (t := t) (p := p) (r := r) (by simpa using hp) (by simpa [at'] using h) g
    rw [List.set_cons_succ]
    by_cases hx : q x = true
    · rw [List.filter_cons_of_pos hx, List.filter_cons_of_pos hx]
      exact (ih.cons x).trans (List.Perm.swap _ _ _)
    · rw [List.filter_cons_of_neg hx, List.filter_cons_of_neg hx]; exact ih

theorem wrap_reach {n s p : Nat} (hp : p < n) (hs : s < n) : ∃ i, i < n ∧ (s + i) % n = p := by
  by_cases h : s ≤ p
  · exact ⟨p - s, by omega, by rw [show s + (p - s) = p by omega, Nat.mod_eq_of_lt hp]⟩
  · exact ⟨p + n - s, by omega, by rw [show s + (p + n - s) = p + n by omega, Nat.add_mod_right, Nat.mod_eq_of_lt hp]⟩

theorem room {n : Nat} {t done : List Rc} (h : Inv n t done) (hl : done.length < n) (s : Nat) (hs : s < n) : ∃ i, i < n ∧ at' t ((s + i) % n) = (0, 0) ∧ ∀ j, j < i → at' t ((s + j) % n) ≠ (0, 0) := by
  have hex : ∃ i, i < n ∧ at' t ((s + i) % n) = (0, 0) := by
    refine Classical.byContradiction fun hno => ?_
    have : ∀ r ∈ t, isK r = true := fun r hr => by
      obtain ⟨p, hp⟩ := List.mem_iff_getElem?.1 hr
      have hpl := (List.getElem?_eq_some_iff.1 hp).1
      obtain ⟨i, hi, e⟩ := wrap_reach (n := n) (s := s) (p := p) (by rw [← h.len]; exact hpl) hs
      unfold isK
      refine decide_eq_true fun h0 => hno ⟨i, hi, ?_⟩
      rw [e]; unfold at'; rw [hp]; exact h.clean r hr h0
    have h1 := h.perm.length_eq
    rw [List.filter_eq_self.2 this, h.len] at h1
    omega
  obtain ⟨i, hi, he⟩ := hex
  cases hf : (List.range n).find? fun i => decide (at' t ((s + i) % n) = (0, 0)) with
  | none =>
    have := List.find?_range_eq_none.1 hf i hi
    simp [he] at this
  | some k =>
    obtain ⟨h1, h2, h3⟩ := List.find?_range_eq_some.1 hf
    exact ⟨k, by simpa using h2, by simpa using h1, fun j hj => by simpa using h3 j hj⟩

theorem inv_step {n : Nat} {t done : List Rc} (h : Inv n t done) (hl : done.length < n) {r : Rc} (hr : r.1 ≠ 0) : Inv n (layS t r) (r :: done) := by
  have hs := slotN_lt (k := r.1) (n := n) (by omega)
  obtain ⟨i, hi, he, hb⟩ := room h hl _ hs
  have hlay := layS_at (r := r) h.len hi he hb
  have hq : (slotN r.1 n + i) % n < t.length := by rw [h.len]; exact Nat.mod_lt _ (by omega)
  have hset : ∀ p, (at' (t.set ((slotN r.1 n + i) % n) r) p) = if (slotN r.1 n + i) % n = p then r else at' t p := fun p => by
    unfold at'; rw [List.getElem?_set]
    by_cases e : (slotN r.1 n + i) % n = p
    · rw [if_pos e, if_pos e, if_pos hq]; rfl
    · rw [if_neg e, if_neg e]
  rw [hlay]
  refine ⟨by simp [h.len], ?_, ?_, ?_⟩
  · refine (filter_set_perm hq (by rw [he]; rfl) (by unfold isK; simpa using hr)).trans (h.perm.cons r)
  · intro x hx h0
    rcases List.mem_or_eq_of_mem_set hx with hx | rfl
    · exact h.clean x hx h0
    · exact absurd h0 hr
  · intro p x hp hx
    rw [List.getElem?_set] at hp
    by_cases e : (slotN r.1 n + i) % n = p
    · rw [if_pos e, if_pos hq] at hp
      cases hp
      refine ⟨i, hi, e.symm, fun j hj => ?_⟩
      rw [hset]
      split
      · exact hr
      · intro h0
        have hm : (slotN r.1 n + j) % n < t.length := by rw [h.len]; exact Nat.mod_lt _ (by omega)
        exact hb j hj (h.clean _ (at_mem hm) h0)
    · rw [if_neg e] at hp
      obtain ⟨k, hk, e2, hj⟩ := h.reach p x hp hx
      refine ⟨k, hk, e2, fun j hjk => ?_⟩
      rw [hset]
      split
      · exact hr
      · exact hj j hjk

theorem inv_fold {n : Nat} : ∀ {l t done : List Rc}, Inv n t done → done.length + l.length ≤ n → (∀ r ∈ l, r.1 ≠ 0) → ∃ d, d.Perm (done ++ l) ∧ Inv n (l.foldl layS t) d
  | [], t, done, h, _, _ => ⟨done, by simp, h⟩
  | r :: l, t, done, h, hl, hk => by
    have h1 := inv_step h (by simp at hl; omega) (hk r (List.mem_cons_self ..))
    obtain ⟨d, hd, hi⟩ := inv_fold (l := l) h1 (by simp at hl ⊢; omega) (fun x hx => hk x (List.mem_cons_of_mem _ hx))
    exact ⟨d, hd.trans List.perm_middle.symm, hi⟩

/-- The table of records holds these, and each is reached. -/
theorem table_inv {n : Nat} {l : List Rc} (hG : Good l) (hl : l.length ≤ n) : Inv n (tableOf n l) l := by
  have hk : ∀ r ∈ sortB l, r.1 ≠ 0 := fun r hr => hG.key r ((sortB_perm l).mem_iff.1 hr)
  have hlen := (sortB_perm l).length_eq
  obtain ⟨d, hd, hi⟩ := inv_fold (inv_start n) (l := sortB l) (by simp; omega) hk
  have hd2 : d.Perm l := hd.trans (by simpa using sortB_perm l)
  exact ⟨hi.len, hi.perm.trans hd2, hi.clean, hi.reach⟩

/-- What a table holds: all that is not empty. -/
def recs (t : List Rc) : List Rc := t.filter fun r => decide (r ≠ (0, 0))
theorem recs_isK {t : List Rc} (h : ∀ r ∈ t, r.1 = 0 → r = (0, 0)) : recs t = t.filter isK := by
  unfold recs
  refine List.filter_congr fun r hr => ?_
  unfold isK
  refine decide_eq_decide.2 ⟨fun h1 h2 => h1 (h r hr h2), fun h1 h2 => h1 (by rw [h2])⟩
theorem recs_table {n : Nat} {l : List Rc} (hG : Good l) (hl : l.length ≤ n) : (recs (tableOf n l)).Perm l := by
  have h := table_inv hG hl
  rw [recs_isK h.clean]; exact h.perm

/-- t is the table of n slots of the records S. -/
structure Is (n : Nat) (t S : List Rc) : Prop where
  good : Good S
  le : S.length ≤ n
  eq : t = tableOf n S

theorem Is.inv {n : Nat} {t S : List Rc} (h : Is n t S) : Inv n t S := by rw [h.eq]; exact table_inv h.good h.le
theorem Is.len {n : Nat} {t S : List Rc} (h : Is n t S) : t.length = n := h.inv.len
theorem Is.recs {n : Nat} {t S : List Rc} (h : Is n t S) : (recs t).Perm S := by rw [h.eq]; exact recs_table h.good h.le
theorem Is.perm {n : Nat} {t S M : List Rc} (h : Is n t S) (p : S.Perm M) : Is n t M := ⟨h.good.perm p, by rw [← p.length_eq]; exact h.le, by rw [h.eq]; exact (tableOf_perm h.good p.symm).symm⟩
theorem Is.self {n : Nat} {t S : List Rc} (h : Is n t S) : Is n t (YtmonkcekkhfafaaGreatDoor.Prb.recs t) := h.perm h.recs.symm
theorem Is.mem {n : Nat} {t S : List Rc} (h : Is n t S) {p : Nat} {r : Rc} (hp : t[p]? = some r) (hr : r.1 ≠ 0) : r ∈ S :=
  h.inv.perm.mem_iff.1 (List.mem_filter.2 ⟨List.mem_of_getElem? hp, by unfold isK; simpa using hr⟩)
theorem Is.rng {n : Nat} {t S : List Rc} (h : Is n t S) : ∀ r ∈ t, Ur r := fun r hr => by
  by_cases h0 : r.1 = 0
  · rw [h.inv.clean r hr h0]; unfold Ur U64; simp
  · obtain ⟨p, hp⟩ := List.mem_iff_getElem?.1 hr
    exact h.good.rng r (h.mem hp h0)
/-- A key stands in one slot alone. -/
theorem filter_one {q : Rc → Bool} : ∀ {t : List Rc}, ((t.filter q).map (·.1)).Nodup → ∀ {i j : Nat} {a b : Rc}, t[i]? = some a → t[j]? = some b → q a = true → q b = true → a.1 = b.1 → i = j
  | [], _, i, j, a, b, h, _, _, _, _ => by simp at h
  | x :: t, hN, i, j, a, b, hi, hj, qa, qb, e => by
    have mem : ∀ {k : Nat} {c : Rc}, t[k]? = some c → q c = true → c.1 ∈ (t.filter q).map (·.1) := fun {k c} hk hq => List.mem_map_of_mem (f := (·.1)) (List.mem_filter.2 ⟨List.mem_of_getElem? hk, hq⟩)
    by_cases hx : q x = true
    · rw [List.filter_cons_of_pos hx, List.map_cons, List.nodup_cons] at hN
      match i, j, hi, hj with
      | 0, 0, _, _ => rfl
      | 0, j + 1, hi, hj => simp at hi hj; subst hi; exact absurd (e ▸ mem hj qb) hN.1
      | i + 1, 0, hi, hj => simp at hi hj; subst hj; exact absurd (e ▸ mem hi qa) hN.1
      | i + 1, j + 1, hi, hj => simp at hi hj; rw [filter_one hN.2 hi hj qa qb e]
    · rw [List.filter_cons_of_neg hx] at hN
      match i, j, hi, hj with
      | 0, 0, _, _ => rfl
      | 0, j + 1, hi, hj => simp at hi; subst hi; exact absurd qa hx
      | i + 1, 0, hi, hj => simp at hj; subst hj; exact absurd qb hx
      | i + 1, j + 1, hi, hj => simp at hi hj; rw [filter_one hN hi hj qa qb e]
theorem Is.one {n : Nat} {t S : List Rc} (h : Is n t S) {i j : Nat} {a b : Rc} (hi : t[i]? = some a) (hj : t[j]? = some b) (ha : a.1 ≠ 0) (e : a.1 = b.1) : i = j :=
  filter_one (q := isK) ((h.inv.perm.map _).nodup_iff.2 h.good.one) hi hj (by unfold isK; simpa using ha) (by unfold isK; simpa [← e] using ha) e

/-- Which slot has the key: how far from its own. -/
def sought (t : List Rc) (k : Int) : Option Nat := (List.range t.length).find? fun p => decide ((at' t p).1 = k)

end Go.Proofs.YtmonkcekkhfafaaGreatDoor.Prb

/- PrbSpec:
  What each call of package probe is to answer, over lists of words and of records, and how answers hang together. No condition but those that each theorem says.
-/
namespace Go.Proofs.YtmonkcekkhfafaaGreatDoor.Prb

def wordsOf (w : Nat) (r : Rc) : List Int := if w = 2 then [r.1, r.2] else [r.1]
/-- A table's words. -/
def flatW (w : Nat) (t : List Rc) : List Int := t.flatMap (wordsOf w)
/-- What stands in words, slot by slot. -/
def slotsW (w : Nat) (xs : List Int) : List Rc := (List.range (xs.length / w)).map fun i => (xs[i * w]?.getD 0, if w = 2 then xs[i * w + 1]?.getD 0 else 0)
def Thin (w : Nat) (t : List Rc) : Prop := w = 1 → ∀ r ∈ t, r.2 = 0
def Wd (w : Nat) : Prop := w = 1 ∨ w = 2

theorem flatW_nil (w : Nat) : flatW w [] = [] := rfl
theorem flatW_cons (w : Nat) (r : Rc) (t : List Rc) : flatW w (r :: t) = wordsOf w r ++ flatW w t := rfl
theorem flat_1 (t : List Rc) : flatW 1 t = t.map (·.1) := by
  induction t with
  | nil => rfl
  | cons r t ih => rw [flatW_cons, ih]; rfl
theorem flatW_len {w : Nat} (hw : Wd w) (t : List Rc) : (flatW w t).length = t.length * w := by
  rcases hw with rfl | rfl
  · rw [flat_1]; simp
  · induction t with
    | nil => rfl
    | cons r t ih => rw [flatW_cons, List.length_append, ih]; simp [wordsOf]; omega
theorem flat_20 : ∀ (t : List Rc) (k : Nat), (flatW 2 t)[k * 2]? = t[k]?.map (·.1)
  | [], k => by simp [flatW_nil]
  | x :: r, 0 => by simp [flatW_cons, wordsOf]
  | x :: r, k + 1 => by
    have e : (k + 1) * 2 = k * 2 + 1 + 1 := by omega
    rw [e, flatW_cons]; simp [wordsOf, flat_20 r k]
theorem flat_21 : ∀ (t : List Rc) (k : Nat), (flatW 2 t)[k * 2 + 1]? = t[k]?.map (·.2)
  | [], k => by simp [flatW_nil]
  | x :: r, 0 => by simp [flatW_cons, wordsOf]
  | x :: r, k + 1 => by
    have e : (k + 1) * 2 + 1 = k * 2 + 1 + 1 + 1 := by omega
    rw [e, flatW_cons]; simp [wordsOf, flat_21 r k]
theorem flat_0 {w : Nat} (hw : Wd w) (t : List Rc) (k : Nat) : (flatW w t)[k * w]? = t[k]?.map (·.1) := by
  rcases hw with rfl | rfl
  · rw [flat_1, List.getElem?_map, Nat.mul_one]
  · exact flat_20 t k

theorem flat_set_1 (t : List Rc) (p : Nat) (r : Rc) : flatW 1 (t.set p r) = (flatW 1 t).set p r.1 := by
  rw [flat_1, flat_1, List.map_set]
theorem flat_set_2 : ∀ (t : List Rc) (p : Nat) (r : Rc), flatW 2 (t.set p r) = ((flatW 2 t).set (p * 2) r.1).set (p * 2 + 1) r.2
  | [], p, r => by simp [flatW_nil]
  | x :: t, 0, r => by simp [flatW_cons, wordsOf]
  | x :: t, p + 1, r => by
    have e : (p + 1) * 2 = p * 2 + 1 + 1 := by omega
    rw [List.set_cons_succ, flatW_cons, flatW_cons, flat_set_2 t p r, e]
    simp [wordsOf]

theorem slotsW_len (w : Nat) (xs : List Int) : (slotsW w xs).length = xs.length / w := by unfold slotsW; simp
theorem slotsW_thin (w : Nat) (xs : List Int) : Thin w (slotsW w xs) := fun hw r hr => by
  unfold slotsW at hr
  obtain ⟨i, _, rfl⟩ := List.mem_map.1 hr
  simp [hw]
theorem slotsW_get {w : Nat} {xs : List Int} {i : Nat} (h : i < xs.length / w) : (slotsW w xs)[i]? = some (xs[i * w]?.getD 0, if w = 2 then xs[i * w + 1]?.getD 0 else 0) := by
  unfold slotsW; rw [List.getElem?_map, List.getElem?_range h]; rfl
theorem slots_flat {w : Nat} (hw : Wd w) {t : List Rc} (ht : Thin w t) : slotsW w (flatW w t) = t := by
  have hl : (flatW w t).length / w = t.length := by
    rw [flatW_len hw]; rcases hw with rfl | rfl <;> omega
  apply List.ext_getElem?
  intro i
  by_cases hi : i < t.length
  · rw [slotsW_get (by rw [hl]; exact hi), flat_0 hw, List.getElem?_eq_getElem hi]
    rcases hw with rfl | rfl
    · have := ht rfl t[i] (List.getElem_mem hi)
      simp; rw [← this]
    · rw [flat_21, List.getElem?_eq_getElem hi]; simp
  · rw [List.getElem?_eq_none (by rw [slotsW_len, hl]; omega), List.getElem?_eq_none (by omega)]
theorem flat_slots {w : Nat} (hw : Wd w) {xs : List Int} (h : xs.length % w = 0) : flatW w (slotsW w xs) = xs := by
  have hl : (flatW w (slotsW w xs)).length = xs.length := by
    rw [flatW_len hw, slotsW_len]; rcases hw with rfl | rfl <;> omega
  apply List.ext_getElem?
  intro i
  by_cases hi : i < xs.length
  · rcases hw with rfl | rfl
    · rw [flat_1, List.getElem?_map, slotsW_get (by omega)]
      simp [List.getElem?_eq_getElem hi]
    · rcases Nat.mod_two_eq_zero_or_one i with e | e
      · obtain ⟨k, rfl⟩ : ∃ k, i = k * 2 := ⟨i / 2, by omega⟩
        rw [flat_20, slotsW_get (by omega)]; simp [List.getElem?_eq_getElem hi]
      · obtain ⟨k, rfl⟩ : ∃ k, i = k * 2 + 1 := ⟨i / 2, by omega⟩
        rw [flat_21, slotsW_get (by omega)]; simp [List.getElem?_eq_getElem hi]
  · rw [List.getElem?_eq_none (by omega), List.getElem?_eq_none (by omega)]
theorem flatW_inj {w : Nat} (hw : Wd w) {t u : List Rc} (ht : Thin w t) (hu : Thin w u) (h : flatW w t = flatW w u) : t = u := by
  rw [← slots_flat hw ht, ← slots_flat hw hu, h]
theorem slotsW_rng {w : Nat} {xs : List Int} (h : ∀ x ∈ xs, U64 x) : ∀ r ∈ slotsW w xs, Ur r := fun r hr => by
  have z : U64 0 := by unfold U64; omega
  have g : ∀ i : Nat, U64 (xs[i]?.getD 0) := fun i => by
    cases hx : xs[i]? with
    | none => exact z
    | some x => exact h x (List.mem_of_getElem? hx)
  unfold slotsW at hr
  obtain ⟨i, _, rfl⟩ := List.mem_map.1 hr
  refine ⟨g _, ?_⟩
  show U64 (if w = 2 then _ else _)
  split
  · exact g _
  · exact z
theorem flatW_rng {w : Nat} {t : List Rc} (h : ∀ r ∈ t, Ur r) : ∀ x ∈ flatW w t, U64 x := fun x hx => by
  obtain ⟨r, hr, hx⟩ := List.mem_flatMap.1 hx
  unfold wordsOf at hx
  split at hx
  · rcases List.mem_cons.1 hx with rfl | hx
    · exact (h r hr).1
    · rw [List.mem_singleton.1 hx]; exact (h r hr).2
  · rw [List.mem_singleton.1 hx]; exact (h r hr).1

/-- May records stand in one table? -/
def valid (l : List Rc) : Bool := l.all (fun r => decide (r.1 ≠ 0)) && decide ((l.map (·.1)).Nodup)
theorem valid_good {l : List Rc} (hr : ∀ r ∈ l, Ur r) : valid l = true ↔ Good l := by
  unfold valid
  rw [Bool.and_eq_true, List.all_eq_true, decide_eq_true_eq]
  exact ⟨fun h => ⟨fun r hm => by simpa using h.1 r hm, hr, h.2⟩, fun h => ⟨fun r hm => by simpa using h.key r hm, h.one⟩⟩
def thinB (w : Int) (l : List Rc) : Bool := decide (w ≠ 1) || l.all (fun r => decide (r.2 = 0))
def mayS (w : Int) (l : List Rc) : Bool := valid l && thinB w l
theorem thin_B {w : Nat} {l : List Rc} : thinB w l = true ↔ Thin w l := by
  unfold thinB Thin
  rw [Bool.or_eq_true, decide_eq_true_eq, List.all_eq_true]
  constructor
  · rintro (h | h) e r hr
    · omega
    · simpa using h r hr
  · intro h
    by_cases e : w = 1
    · exact .inr fun r hr => by simpa using h e r hr
    · exact .inl (by omega)
theorem Thin.perm {w : Nat} {l m : List Rc} (h : Thin w l) (p : l.Perm m) : Thin w m := fun e r hr => h e r (p.mem_iff.2 hr)
theorem Thin.filter {w : Nat} {l : List Rc} (h : Thin w l) (q : Rc → Bool) : Thin w (l.filter q) := fun e r hr => h e r (List.mem_filter.1 hr).1
theorem Thin.recs {w : Nat} {l : List Rc} (h : Thin w l) : Thin w (recs l) := h.filter _
theorem recs_rng {t : List Rc} (h : ∀ r ∈ t, Ur r) : ∀ r ∈ recs t, Ur r := fun r hr => h r (List.mem_filter.1 hr).1
theorem recs_le (t : List Rc) : (recs t).length ≤ t.length := List.length_filter_le _ _
theorem Is.thin {w n : Nat} {t S : List Rc} (h : Is n t S) (ht : Thin w S) : Thin w t := fun e r hr => by
  by_cases h0 : r.1 = 0
  · rw [h.inv.clean r hr h0]
  · obtain ⟨p, hp⟩ := List.mem_iff_getElem?.1 hr
    exact ht e r (h.mem hp h0)

/-- Build. -/
def buildS (n w : Int) (l : List Rc) : List Int × Int :=
  if 1 ≤ n ∧ n ≤ 1024 ∧ (w = 1 ∨ w = 2) ∧ mayS w l = true then (if n < l.length then ([], 11) else (flatW w.toNat (tableOf n.toNat l), 0)) else ([], 1)
/-- Are the slots those of a table? -/
def rightT (t : List Rc) : Bool := valid (recs t) && decide (tableOf t.length (recs t) = t)
def Shape (xs : List Int) (w : Int) : Prop := (w = 1 ∨ w = 2) ∧ xs.length % w.toNat = 0 ∧ 1 ≤ xs.length / w.toNat ∧ xs.length / w.toNat ≤ 1024
instance (xs : List Int) (w : Int) : Decidable (Shape xs w) := by unfold Shape; infer_instance
/-- Right. -/
def rightS (xs : List Int) (w : Int) : Bool := decide (Shape xs w) && rightT (slotsW w.toNat xs)
def findT (t : List Rc) (k : Int) : Int × Bool := match sought t k with | some p => ((p : Int), true) | none => (0, false)
/-- Find. -/
def findS (xs : List Int) (w k : Int) : Int × Bool := if rightS xs w = true ∧ k ≠ 0 then findT (slotsW w.toNat xs) k else (0, false)
/-- List. -/
def listS (xs : List Int) (w : Int) : List Rc := if rightS xs w = true then sortK (recs (slotsW w.toNat xs)) else []
def othersT (t : List Rc) (k : Int) : List Rc := (recs t).filter fun r => decide (r.1 ≠ k)
def laidS (xs : List Int) (w : Nat) (l : List Rc) : List Int × Int := if xs.length / w < l.length then (xs, 11) else (flatW w (tableOf (xs.length / w) l), 0)
/-- Put. -/
def putS (xs : List Int) (w k v : Int) : List Int × Int :=
  if rightS xs w = true ∧ k ≠ 0 ∧ ¬ (w = 1 ∧ v ≠ 0) then laidS xs w.toNat (othersT (slotsW w.toNat xs) k ++ [(k, v)]) else (xs, 1)
/-- Del. -/
def delS (xs : List Int) (w k : Int) : List Int × Int :=
  if rightS xs w = true ∧ k ≠ 0 then (if (findT (slotsW w.toNat xs) k).2 = true then laidS xs w.toNat (othersT (slotsW w.toNat xs) k) else (xs, 12)) else (xs, 1)

theorem rightT_is {t : List Rc} (hr : ∀ r ∈ t, Ur r) : rightT t = true ↔ Is t.length t (recs t) := by
  unfold rightT
  rw [Bool.and_eq_true, valid_good (recs_rng hr), decide_eq_true_eq]
  exact ⟨fun h => ⟨h.1, recs_le t, h.2.symm⟩, fun h => ⟨h.good, h.eq.symm⟩⟩
theorem is_rightT {n : Nat} {t S : List Rc} (h : Is n t S) : rightT t = true := by
  have hr : ∀ r ∈ recs t, Ur r := fun r hm => h.good.rng r (h.recs.mem_iff.1 hm)
  have hl := h.len
  subst hl
  unfold rightT
  rw [Bool.and_eq_true, valid_good hr, decide_eq_true_eq]
  exact ⟨h.self.good, h.self.eq.symm⟩

theorem right_prog {w : Nat} (hw : Wd w) {t : List Rc} (ht : Thin w t) (hr : ∀ r ∈ t, Ur r) :
    (mayS w (recs t) && decide (flatW w (tableOf t.length (recs t)) = flatW w t)) = rightT t := by
  rw [Bool.eq_iff_iff, Bool.and_eq_true, rightT_is hr, decide_eq_true_eq]
  unfold mayS
  rw [Bool.and_eq_true, valid_good (recs_rng hr), thin_B]
  constructor
  · rintro ⟨⟨hG, _⟩, h⟩
    have h1 : Is t.length (tableOf t.length (recs t)) (recs t) := ⟨hG, recs_le t, rfl⟩
    have h2 := flatW_inj hw (h1.thin ht.recs) ht h
    rw [h2] at h1; exact h1
  · exact fun h => ⟨⟨h.good, ht.recs⟩, by rw [← h.eq]⟩

/-- Words that have slots, and what stands in these. -/
theorem shape_parts {xs : List Int} {w : Int} (h : Shape xs w) : ∃ v : Nat, w = v ∧ Wd v ∧ xs = flatW v (slotsW v xs) ∧ Thin v (slotsW v xs) ∧ (slotsW v xs).length = xs.length / v ∧ xs.length = (slotsW v xs).length * v ∧ 1 ≤ (slotsW v xs).length ∧ (slotsW v xs).length ≤ 1024 := by
  obtain ⟨hw, h1, h2, h3⟩ := h
  refine ⟨w.toNat, by omega, by unfold Wd; omega, ?_, slotsW_thin _ _, slotsW_len _ _, ?_, by rw [slotsW_len]; exact h2, by rw [slotsW_len]; exact h3⟩
  · exact (flat_slots (by unfold Wd; omega) h1).symm
  · rw [slotsW_len]
    rcases hw with rfl | rfl
    · simp
    · simp at h1 ⊢; omega
theorem shape_flat {w : Nat} (hw : Wd w) {t : List Rc} (h1 : 1 ≤ t.length) (h2 : t.length ≤ 1024) : Shape (flatW w t) w := by
  unfold Shape
  rw [Int.toNat_natCast, flatW_len hw]
  have e : t.length * w / w = t.length := by rcases hw with rfl | rfl <;> omega
  rw [e]
  refine ⟨by unfold Wd at hw; omega, by rw [Nat.mul_mod_left], h1, h2⟩
theorem rightS_flat {w : Nat} (hw : Wd w) {t : List Rc} (ht : Thin w t) (h1 : 1 ≤ t.length) (h2 : t.length ≤ 1024) : rightS (flatW w t) w = rightT t := by
  unfold rightS
  rw [decide_eq_true (shape_flat hw h1 h2), Bool.true_and, Int.toNat_natCast, slots_flat hw ht]

/-- A table of n slots of a width, by words, of the records S. -/
structure Tb (w n : Nat) (xs : List Int) (S : List Rc) : Prop where
  wd : Wd w
  n1 : 1 ≤ n
  n2 : n ≤ 1024
  thin : Thin w S
  is : ∃ t, Is n t S ∧ xs = flatW w t

theorem Tb.right {w n : Nat} {xs : List Int} {S : List Rc} (h : Tb w n xs S) : rightS xs w = true := by
  obtain ⟨t, hI, rfl⟩ := h.is
  rw [rightS_flat h.wd (hI.thin h.thin) (by rw [hI.len]; exact h.n1) (by rw [hI.len]; exact h.n2)]
  exact is_rightT hI
theorem Tb.len {w n : Nat} {xs : List Int} {S : List Rc} (h : Tb w n xs S) : xs.length = n * w := by
  obtain ⟨t, hI, rfl⟩ := h.is
  rw [flatW_len h.wd, hI.len]
theorem Tb.div {w n : Nat} {xs : List Int} {S : List Rc} (h : Tb w n xs S) : xs.length / w = n := by
  rw [h.len]; rcases h.wd with rfl | rfl <;> omega
theorem Tb.rng {w n : Nat} {xs : List Int} {S : List Rc} (h : Tb w n xs S) : ∀ x ∈ xs, U64 x := by
  obtain ⟨t, hI, rfl⟩ := h.is
  exact flatW_rng hI.rng
theorem Tb.perm {w n : Nat} {xs : List Int} {S M : List Rc} (h : Tb w n xs S) (p : S.Perm M) : Tb w n xs M := by
  obtain ⟨t, hI, rfl⟩ := h.is
  exact ⟨h.wd, h.n1, h.n2, h.thin.perm p, t, hI.perm p, rfl⟩
theorem Tb.good {w n : Nat} {xs : List Int} {S : List Rc} (h : Tb w n xs S) : Good S := by
  obtain ⟨t, hI, _⟩ := h.is; exact hI.good
theorem Tb.le {w n : Nat} {xs : List Int} {S : List Rc} (h : Tb w n xs S) : S.length ≤ n := by
  obtain ⟨t, hI, _⟩ := h.is; exact hI.le
theorem Tb.make {w n : Nat} {S : List Rc} (hw : Wd w) (h1 : 1 ≤ n) (h2 : n ≤ 1024) (hG : Good S) (hl : S.length ≤ n) (ht : Thin w S) : Tb w n (flatW w (tableOf n S)) S :=
  ⟨hw, h1, h2, ht, _, ⟨hG, hl, rfl⟩, rfl⟩
theorem tb_of_right {xs : List Int} {w : Int} (hr : ∀ x ∈ xs, U64 x) (h : rightS xs w = true) : ∃ v : Nat, w = v ∧ Tb v (xs.length / v) xs (recs (slotsW v xs)) := by
  unfold rightS at h
  rw [Bool.and_eq_true, decide_eq_true_eq] at h
  obtain ⟨v, rfl, hv, hx, ht, hl, hl2, h1, h2⟩ := shape_parts h.1
  rw [Int.toNat_natCast] at h
  have hI := (rightT_is (slotsW_rng hr)).1 h.2
  rw [hl] at hI h1 h2
  exact ⟨v, rfl, hv, h1, h2, ht.recs, _, hI, hx⟩
theorem Tb.slots {w n : Nat} {xs : List Int} {S : List Rc} (h : Tb w n xs S) : Is n (slotsW w xs) S := by
  obtain ⟨t, hI, rfl⟩ := h.is
  rw [slots_flat h.wd (hI.thin h.thin)]; exact hI
theorem Tb.list {w n : Nat} {xs : List Int} {S : List Rc} (h : Tb w n xs S) : listS xs w = sortK S := by
  unfold listS
  rw [if_pos h.right, Int.toNat_natCast]
  exact sortK_eq h.good.one h.slots.recs

theorem others_perm {n : Nat} {t S : List Rc} (h : Is n t S) (k : Int) : (othersT t k).Perm (S.filter fun r => decide (r.1 ≠ k)) := h.recs.filter _

/-- The records with one more. -/
def withR (S : List Rc) (k v : Int) : List Rc := S.filter (fun r => decide (r.1 ≠ k)) ++ [(k, v)]
theorem withR_good {S : List Rc} (h : Good S) {k v : Int} (hk : k ≠ 0) (hu : U64 k) (hv : U64 v) : Good (withR S k v) := by
  have hf := h.filter fun r => decide (r.1 ≠ k)
  unfold withR
  refine ⟨fun r hr => ?_, fun r hr => ?_, ?_⟩
  · rcases List.mem_append.1 hr with hr | hr
    · exact hf.key r hr
    · rw [List.mem_singleton.1 hr]; exact hk
  · rcases List.mem_append.1 hr with hr | hr
    · exact hf.rng r hr
    · rw [List.mem_singleton.1 hr]; exact ⟨hu, hv⟩
  · rw [List.map_append, List.nodup_append]
    refine ⟨hf.one, by simp, ?_⟩
    intro a ha b hb e
    obtain ⟨r, hr, rfl⟩ := List.mem_map.1 ha
    simp at hb
    have := (List.mem_filter.1 hr).2
    simp at this
    exact this (e.trans hb)
theorem withR_thin {w : Nat} {S : List Rc} (h : Thin w S) {k v : Int} (hv : ¬ (w = 1 ∧ v ≠ 0)) : Thin w (withR S k v) := fun e r hr => by
  rcases List.mem_append.1 hr with hr | hr
  · exact h.filter _ e r hr
  · rw [List.mem_singleton.1 hr]
    by_cases hv0 : v = 0
    · exact hv0
    · exact absurd ⟨e, hv0⟩ hv

/-- Put into a table that has room. -/
theorem Tb.put {w n : Nat} {xs : List Int} {S : List Rc} (h : Tb w n xs S) {k v : Int} (hk : k ≠ 0) (hu : U64 k) (hv : U64 v) (hz : ¬ (w = 1 ∧ v ≠ 0)) (hl : (withR S k v).length ≤ n) : (putS xs w k v).2 = 0 ∧ Tb w n (putS xs w k v).1 (withR S k v) := by
  have hp : (othersT (slotsW w xs) k ++ [(k, v)]).Perm (withR S k v) := (others_perm h.slots k).append_right _
  have hc : ¬ (xs.length / w < (othersT (slotsW w xs) k ++ [(k, v)]).length) := by rw [h.div, hp.length_eq]; omega
  have hG := withR_good h.good hk hu hv
  have e : putS xs w k v = (flatW w (tableOf n (withR S k v)), 0) := by
    unfold putS
    rw [if_pos ⟨h.right, hk, by omega⟩]
    unfold laidS
    rw [Int.toNat_natCast, if_neg hc, h.div, tableOf_perm hG hp]
  rw [e]
  exact ⟨rfl, Tb.make h.wd h.n1 h.n2 hG hl (withR_thin h.thin hz)⟩
end Go.Proofs.YtmonkcekkhfafaaGreatDoor.Prb

/- PrbMem:
  Slices of words, of ints and of records, as lists of integers, in a world, and what stays of them. No condition: definitions, and facts on them.
-/
namespace Go.Proofs.YtmonkcekkhfafaaGreatDoor.Prb
open Go.RowKit (Below intOf)

/-- Nothing that lay has turned; new blocks may lie. -/
def Ext (w w' : World) : Prop := Below w.heap.size w w'

theorem Ext.refl (w : World) : Ext w w := Below.refl _ w
theorem Ext.trans {a b c : World} (h : Ext a b) (k : Ext b c) : Ext a c := Below.trans h (Below.mono k h.size)
theorem Ext.alloc {a w : World} (h : Ext a w) (o : Obj) : Ext a (w.alloc o) := Below.alloc h h.size o
theorem Ext.drewN {a w : World} (h : Ext a w) (n : Nat) : Ext a (w.drewN n) := ⟨h.os, h.tape, h.output, h.size, h.block⟩
theorem Ext.drew {a w : World} (h : Ext a w) : Ext a w.drew := ⟨h.os, h.tape, h.output, h.size, h.block⟩
theorem Ext.setCell {a w : World} (h : Ext a w) {b o : Nat} (hb : a.heap.size ≤ b) (v : Value) : Ext a (w.setCell ⟨b, o, none⟩ v) := Below.setCell (p := ⟨b, o, none⟩) h hb v
theorem Ext.grown {a w w' : World} (h : Ext a w) {row : Option Nat} (g : w.grownBy w' row) (hr : ∀ k, row = some k → a.heap.size ≤ k) : Ext a w' := Below.grown h g h.size hr
theorem Ext.size {a w : World} (h : Ext a w) : a.heap.size ≤ w.heap.size := Below.size h
theorem Ext.cell {w w' : World} {b o : Nat} {v : Value} (h : Ext w w') (hc : w.cell? ⟨b, o, none⟩ = some v) : w'.cell? ⟨b, o, none⟩ = some v :=
  (Below.cell (p := ⟨b, o, none⟩) h (World.block_lt_of_cell? w _ hc)).trans hc
theorem Ext.frozen {w w' : World} {b o : Nat} {v : Value} (h : Ext w w') (hc : w.cell? ⟨b, o, none⟩ = some v) : w'.frozen? ⟨b, o, none⟩ = w.frozen? ⟨b, o, none⟩ :=
  Below.frozen (p := ⟨b, o, none⟩) h (World.block_lt_of_cell? w _ hc)
theorem Ext.new (w : World) (o : Obj) : Ext w (w.alloc o) := (Ext.refl w).alloc o
theorem _root_.Go.Proofs.YtmonkcekkhfafaaGreatDoor.Gr.ext {w w' : World} (h : Gr w w') : Ext w w' := by
  obtain ⟨q, os, rfl⟩ := h
  refine ⟨rfl, rfl, rfl, by rw [Sort.size_grow]; exact Nat.le_add_right _ _, fun k hk => ?_⟩
  exact Sort.heap_grow_old (w.drewN q) os hk
theorem _root_.Go.Proofs.YtmonkcekkhfafaaGreatDoor.Tab.ext {w w' : World} (h : Tab w) (e : Ext w w') : Tab w' :=
  ⟨e.cell h.c0, e.cell h.c1, e.cell h.c2, e.cell h.c3, e.cell h.c4, e.cell h.c5, e.cell h.c6, e.cell h.c7, e.cell h.c8⟩

/-- The slice of n words that is read from sl on. -/
def WS (w : World) (sl : Option Addr) (n c : Nat) (xs : List Int) : Prop :=
  xs.length = n ∧ n ≤ 1048576 ∧ n ≤ c ∧ c ≤ 9223372036854775807 ∧ ∀ j x, xs[j]? = some x → U64 x ∧ ∃ b o, sl = some ⟨b, o, none⟩ ∧ w.cell? ⟨b, o + j, none⟩ = some (.int .u64 x)
/-- The slice of n records that is read from sl on. -/
def QS (w : World) (sl : Option Addr) (n c : Nat) (ys : List Rc) : Prop :=
  ys.length = n ∧ n ≤ 1048576 ∧ n ≤ c ∧ c ≤ 9223372036854775807 ∧ ∀ j y, ys[j]? = some y → Ur y ∧ ∃ b o, sl = some ⟨b, o, none⟩ ∧ w.cell? ⟨b, o + j * 2, none⟩ = some (.int .u64 y.1) ∧ w.cell? ⟨b, o + j * 2 + 1, none⟩ = some (.int .u64 y.2)
/-- The slice of ints that is read from sl on. -/
def IS (w : World) (sl : Option Addr) (n : Nat) (xs : List Int) : Prop :=
  xs.length = n ∧ n ≤ 9223372036854775807 ∧ ∀ j x, xs[j]? = some x → I64 x ∧ ∃ b o, sl = some ⟨b, o, none⟩ ∧ w.cell? ⟨b, o + j, none⟩ = some (.int .i64 x)

section
variable {w w' : World} {sl : Option Addr} {n c : Nat} {xs : List Int} {ys : List Rc}
theorem WS.ext (h : WS w sl n c xs) (e : Ext w w') : WS w' sl n c xs :=
  ⟨h.1, h.2.1, h.2.2.1, h.2.2.2.1, fun j x hx => by obtain ⟨hu, b, o, hs, hc⟩ := h.2.2.2.2 j x hx; exact ⟨hu, b, o, hs, e.cell hc⟩⟩
theorem QS.ext (h : QS w sl n c ys) (e : Ext w w') : QS w' sl n c ys :=
  ⟨h.1, h.2.1, h.2.2.1, h.2.2.2.1, fun j x hx => by obtain ⟨hu, b, o, hs, hc, hd⟩ := h.2.2.2.2 j x hx; exact ⟨hu, b, o, hs, e.cell hc, e.cell hd⟩⟩
theorem IS.ext (h : IS w sl n xs) (e : Ext w w') : IS w' sl n xs := ⟨h.1, h.2.1, fun j x hx => by obtain ⟨hu, b, o, hs, hc⟩ := h.2.2 j x hx; exact ⟨hu, b, o, hs, e.cell hc⟩⟩
theorem WS.len (h : WS w sl n c xs) : xs.length = n := h.1
theorem QS.len (h : QS w sl n c ys) : ys.length = n := h.1
theorem IS.len (h : IS w sl n xs) : xs.length = n := h.1
theorem WS.le (h : WS w sl n c xs) : n ≤ 1048576 := h.2.1
theorem QS.le (h : QS w sl n c ys) : n ≤ 1048576 := h.2.1
theorem WS.lc (h : WS w sl n c xs) : n ≤ c := h.2.2.1
theorem QS.lc (h : QS w sl n c ys) : n ≤ c := h.2.2.1
theorem WS.cle (h : WS w sl n c xs) : c ≤ 9223372036854775807 := h.2.2.2.1
theorem QS.cle (h : QS w sl n c ys) : c ≤ 9223372036854775807 := h.2.2.2.1
theorem WS.get (h : WS w sl n c xs) {k : Nat} (hk : k < n) : ∃ x, xs[k]? = some x ∧ U64 x ∧ ∃ b o, sl = some ⟨b, o, none⟩ ∧ w.cell? ⟨b, o + k, none⟩ = some (.int .u64 x) := by
  have hl : k < xs.length := by rw [h.1]; exact hk
  exact ⟨xs[k], List.getElem?_eq_getElem hl, h.2.2.2.2 k _ (List.getElem?_eq_getElem hl)⟩
theorem IS.get (h : IS w sl n xs) {k : Nat} (hk : k < n) : ∃ x, xs[k]? = some x ∧ I64 x ∧ ∃ b o, sl = some ⟨b, o, none⟩ ∧ w.cell? ⟨b, o + k, none⟩ = some (.int .i64 x) := by
  have hl : k < xs.length := by rw [h.1]; exact hk
  exact ⟨xs[k], List.getElem?_eq_getElem hl, h.2.2 k _ (List.getElem?_eq_getElem hl)⟩
theorem QS.get (h : QS w sl n c ys) {k : Nat} (hk : k < n) : ∃ p x, ys[k]? = some (p, x) ∧ U64 p ∧ U64 x ∧ ∃ b o, sl = some ⟨b, o, none⟩ ∧ w.cell? ⟨b, o + k * 2, none⟩ = some (.int .u64 p) ∧ w.cell? ⟨b, o + k * 2 + 1, none⟩ = some (.int .u64 x) := by
  have hl : k < ys.length := by rw [h.1]; exact hk
  obtain ⟨h1, b, o, hs, hc, hd⟩ := h.2.2.2.2 k _ (List.getElem?_eq_getElem hl)
  exact ⟨ys[k].1, ys[k].2, List.getElem?_eq_getElem hl, h1.1, h1.2, b, o, hs, hc, hd⟩
theorem WS.u64 (h : WS w sl n c xs) : ∀ x ∈ xs, U64 x := fun x hx => by
  obtain ⟨j, hj⟩ := List.mem_iff_getElem?.1 hx; exact (h.2.2.2.2 j x hj).1
theorem QS.range (h : QS w sl n c ys) : ∀ y ∈ ys, Ur y := fun y hy => by
  obtain ⟨j, hj⟩ := List.mem_iff_getElem?.1 hy; exact (h.2.2.2.2 j y hj).1
theorem WS.empty (w : World) (sl : Option Addr) (c : Nat) (hc : c ≤ 9223372036854775807) : WS w sl 0 c [] := ⟨rfl, by omega, by omega, hc, fun j x h => by simp at h⟩
theorem QS.empty (w : World) (sl : Option Addr) (c : Nat) (hc : c ≤ 9223372036854775807) : QS w sl 0 c [] := ⟨rfl, by omega, by omega, hc, fun j x h => by simp at h⟩
end

/-- A record's cells. -/
def enc2 (y : Rc) : List Value := [.int .u64 y.1, .int .u64 y.2]
/-- Records' cells, one after the other. -/
def flat : List Rc → List Value
  | [] => []
  | y :: r => .int .u64 y.1 :: .int .u64 y.2 :: flat r
theorem flat_append : ∀ L M : List Rc, flat (L ++ M) = flat L ++ flat M
  | [], _ => rfl
  | y :: r, M => by simp [flat, flat_append r M]
theorem cells_0 : ∀ (L : List Rc) (k : Nat), (flat L)[k * 2]? = L[k]?.map fun y => .int .u64 y.1
  | [], k => by simp [flat]
  | x :: r, 0 => by simp [flat]
  | x :: r, k + 1 => by
    have e : (k + 1) * 2 = k * 2 + 1 + 1 := by omega
    rw [e]; simp [flat, cells_0 r k]
theorem cells_1 : ∀ (L : List Rc) (k : Nat), (flat L)[k * 2 + 1]? = L[k]?.map fun y => .int .u64 y.2
  | [], k => by simp [flat]
  | x :: r, 0 => by simp [flat]
  | x :: r, k + 1 => by
    have e : (k + 1) * 2 + 1 = k * 2 + 1 + 1 + 1 := by omega
    rw [e]; simp [flat, cells_1 r k]
theorem add_is (b o j : Nat) : (⟨b, o, none⟩ : Addr).add j = ⟨b, o + j, none⟩ := by unfold Addr.add; split <;> simp_all

/-- What lies in a row of one's own is read. -/
theorem qs_of_own {w : World} {base n c : Nat} {v : Option Addr} {ys : List Rc} (h : w.ownsRow base 80 2 (.slice v n c) n (flat ys)) (hn : ys.length = n) (hle : n ≤ 1048576) (hr : ∀ y ∈ ys, Ur y) : QS w v n c ys := by
  rcases h.2 with ⟨e, hz⟩ | ⟨g, cap, cur, e, _, hb, hnc, hcm, _, ht⟩
  · cases e
    have : ys = [] := List.eq_nil_of_length_eq_zero hn
    subst this
    exact QS.empty _ _ _ (by omega)
  · cases e
    refine ⟨hn, hle, hnc, by have := hcm; simp [maxLen] at this; omega, fun j y hj => ?_⟩
    have hjl : j < ys.length := (List.getElem?_eq_some_iff.1 hj).1
    have get : ∀ i, i < n * 2 → cur[i]? = (flat ys)[i]? := fun i hi => by
      rw [← ht, List.getElem?_take, if_pos hi]; simp
    refine ⟨hr y (List.mem_of_getElem? hj), g, 0, rfl, ?_, ?_⟩
    · simp only [World.cell?, hb]
      have := get (j * 2) (by omega)
      rw [cells_0, hj] at this
      simpa using this
    · simp only [World.cell?, hb]
      have := get (j * 2 + 1) (by omega)
      rw [cells_1, hj] at this
      simpa using this

theorem own_form {W : World} {base : Nat} {e : TypeId} {size n : Nat} {v : Value} {xs : List Value} (h : W.ownsRow base e size v n xs) : ∃ sl c, v = .slice sl n c := by
  rcases h.2 with ⟨rfl, rfl⟩ | ⟨g, cap, cur, rfl, _⟩
  · exact ⟨_, _, rfl⟩
  · exact ⟨_, _, rfl⟩
theorem info34 : (Tryz.prog.info? 80).map (fun i => (i.zero, i.size, i.bytes)) = some (some (.agg #[.int .u64 0, .int .u64 0]), 2, 16) := by kernel_rfl
theorem info24 : (Tryz.prog.info? 26).map (fun i => (i.zero, i.size, i.bytes)) = some (some (.int .u64 0), 1, 8) := by kernel_rfl

theorem two_cells (W : World) (x y : Value) : ∀ j u, ([x, y] : List Value)[j]? = some u → (W.alloc (.cells #[x, y] 80)).cell? ((⟨W.heap.size, 0, none⟩ : Addr).add j) = some u := fun j u hu => by
  rw [add_is]
  unfold World.cell?
  rw [World.alloc_heap_new]
  match j, hu with
  | 0, hu => simpa using hu
  | 1, hu => simpa using hu
  | j + 2, hu => simp at hu

/-- The words of block g, from its start on, that may be written. -/
def RowW (w : World) (g : Nat) (xs : List Int) : Prop := ∀ j x, xs[j]? = some x → U64 x ∧ w.cell? ⟨g, j, none⟩ = some (.int .u64 x) ∧ w.frozen? ⟨g, j, none⟩ = false

section
variable {w w' : World} {g : Nat} {xs : List Int}
theorem RowW.ext (h : RowW w g xs) (e : Ext w w') : RowW w' g xs := fun j x hx => by
  obtain ⟨h1, h2, h3⟩ := h j x hx; exact ⟨h1, e.cell h2, (e.frozen h2).trans h3⟩
theorem RowW.set (h : RowW w g xs) {i : Nat} (hi : i < xs.length) {x : Int} (hx : U64 x) : RowW (w.setCell ⟨g, i, none⟩ (.int .u64 x)) g (xs.set i x) := fun j y hj => by
  by_cases e : i = j
  · subst e
    rw [List.getElem?_set_self hi] at hj
    cases hj
    obtain ⟨h1, h2, h3⟩ := h i _ (List.getElem?_eq_getElem hi)
    exact ⟨hx, World.cell?_setCell_same' _ _ _ (by rw [h2]; rfl), by simpa using h3⟩
  · rw [List.getElem?_set_ne e] at hj
    obtain ⟨h1, h2, h3⟩ := h j y hj
    exact ⟨h1, by rw [World.cell?_setCell_other _ _ _ _ (fun he => e (by cases he; rfl))]; exact h2, by simpa using h3⟩
theorem RowW.ws (h : RowW w g xs) {n c : Nat} (hn : xs.length = n) (hle : n ≤ 1048576) (hc : n ≤ c) (hcm : c ≤ 9223372036854775807) : WS w (some ⟨g, 0, none⟩) n c xs :=
  ⟨hn, hle, hc, hcm, fun j x hx => by obtain ⟨h1, h2, _⟩ := h j x hx; exact ⟨h1, g, 0, rfl, by simpa using h2⟩⟩
theorem RowW.get (h : RowW w g xs) {i : Nat} (hi : i < xs.length) : ∃ x, w.cell? ⟨g, i, none⟩ = some (.int .u64 x) ∧ w.frozen? ⟨g, i, none⟩ = false :=
  ⟨_, (h i _ (List.getElem?_eq_getElem hi)).2⟩
theorem rowW_of_block {cur : Array Value} (hb : w.heap[g]? = some (.cells cur 26 (0, 0))) (h : ∀ (j : Nat) (x : Int), xs[j]? = some x → U64 x ∧ cur[j]? = some (Value.int .u64 x)) : RowW w g xs := fun j x hx => by
  obtain ⟨h1, h2⟩ := h j x hx
  exact ⟨h1, by simp only [World.cell?, hb]; simpa using h2, by simp [World.frozen?, hb]⟩
end

abbrev zeros (n : Nat) : Array Value := madeCells #[.int .u64 0] n
theorem zeros_list (n : Nat) : (zeros n).toList = List.replicate n (.int .u64 0) := toList_madeCells_one _ n
theorem make_words (n : Nat) (hn : n ≤ 1048576) (W : World) : (Instr.makeSlice 27 (.int .i64 (n : Int)) (.int .i64 (n : Int))).run Tryz.prog W = .ok (.slice (some ⟨W.heap.size, 0, none⟩) n n) (W.alloc (.cells (zeros n) 26)) := by
  obtain ⟨i0, hi, hz0, hz1, hz2⟩ := info_parts info24
  have h := run_make (P := Tryz.prog) W 27 26 i0 _ Tryz.underlying27 hi hz0 .i64 .i64 n n (by omega) (by omega) (by rw [hz2]; omega) (by omega)
  simp only [Int.toNat_natCast, hz1, Nat.mul_one] at h
  exact h
theorem zeros_row (n : Nat) (W : World) : RowW (W.alloc (.cells (zeros n) 26)) W.heap.size (List.replicate n 0) :=
  rowW_of_block (World.alloc_heap_new W _) (fun j x hx => by
    have e : x = 0 := List.eq_of_mem_replicate (List.mem_of_getElem? hx)
    have hj : j < n := by have := (List.getElem?_eq_some_iff.1 hx).1; simpa using this
    subst e
    refine ⟨by unfold U64; omega, ?_⟩
    rw [← Array.getElem?_toList, zeros_list]; simp [hj])

theorem WS.vals {w : World} {b o n c : Nat} {xs : List Int} (h : WS w (some ⟨b, o, none⟩) n c xs) : ∀ j v, (xs.map (Value.int .u64))[j]? = some v → w.cell? ((⟨b, o, none⟩ : Addr).add j) = some v := fun j v hv => by
  rw [add_is]
  rw [List.getElem?_map] at hv
  obtain ⟨x, hx, rfl⟩ := Option.map_eq_some_iff.1 hv
  obtain ⟨_, b', o', e, hc⟩ := h.2.2.2.2 j x hx
  cases e; exact hc

theorem take_snoc {α : Type} {l : List α} {k : Nat} {y : α} (h : l[k]? = some y) : l.take (k + 1) = l.take k ++ [y] := by
  obtain ⟨hl, e⟩ := List.getElem?_eq_some_iff.1 h
  rw [← e]; exact (List.take_append_getElem hl).symm
theorem ret_bool {a b : Bool} (h : a = b) : Ending.returned (.bool a) = .returned (.bool b) := by rw [h]
theorem ne_at {α : Type} {xs ys : List α} {k : Nat} {x y : α} (hx : xs[k]? = some x) (hy : ys[k]? = some y) (h : x ≠ y) : xs ≠ ys := fun e => by
  subst e; rw [hx] at hy; cases hy; exact h rfl
theorem eq_all {α : Type} {xs ys : List α} {n : Nat} (h1 : xs.length = n) (h2 : ys.length = n) (h : ∀ j, j < n → xs[j]? = ys[j]?) : xs = ys := by
  apply List.ext_getElem?; intro i
  by_cases hi : i < n
  · exact h i hi
  · rw [List.getElem?_eq_none (by omega), List.getElem?_eq_none (by omega)]

/-- A call that answers words and a number. -/
def WE (p : List Int × Int) (w : World) (e : Ending) (w' : World) : Prop := Ext w w' ∧ ∃ sl n c, e = .returned (.tuple #[.slice sl n c, .int .i64 p.2]) ∧ WS w' sl n c p.1

end Go.Proofs.YtmonkcekkhfafaaGreatDoor.Prb

/- PrbLeaf:
  What the small functions return: mayBeWidth, mayBeSlots, isEmpty, whoIsFirst, List's comparison, slices.Equal, slices.Clone, and the document's shape, Same and Records. Conditions: the integers' bounds that each says; the slices are there.
-/
namespace Go.Proofs.YtmonkcekkhfafaaGreatDoor.Prb
open Go.RowKit (Below intOf)

/-- What lay reads as before. -/
theorem lay {W w1 : World} (h : Ext W w1) : (∀ b o, b < W.heap.size → w1.cell? ⟨b, o, none⟩ = W.cell? ⟨b, o, none⟩) ∧ (∀ b o, b < W.heap.size → w1.frozen? ⟨b, o, none⟩ = W.frozen? ⟨b, o, none⟩) :=
  ⟨fun b o hb => Below.cell (p := ⟨b, o, none⟩) h hb, fun b o hb => Below.frozen (p := ⟨b, o, none⟩) h hb⟩

def okW (n : Int) : Bool := decide (n = 1 ∨ n = 2)
def okN (n : Int) : Bool := decide (1 ≤ n ∧ n ≤ 1024)
theorem width_any (n : Int) (w : World) : Calls Tryz.prog 45 #[.int .i64 n] w fun e w' => e = .returned (.bool (okW n)) ∧ w = w' := by
  by_cases h : n = 1
  · subst h
    go_enter Tryz.func45, Tryz.ntmps45
    go_wp2
    go_ret
    exact ⟨rfl, rfl⟩
  · have hb : (n == 1) = false := by simpa using h
    have hr : RowKit.Hid ((n == 2) = okW n) := Lib.hid (by
      unfold okW; by_cases h2 : n = 2
      · subst h2; rfl
      · rw [decide_eq_false (by omega)]; simpa using h2)
    go_enter Tryz.func45, Tryz.ntmps45
    go_wp2
    go_ret
    exact ⟨ret_bool (by rw [← hr.out]), rfl⟩
theorem slots_any (n : Int) (w : World) : Calls Tryz.prog 46 #[.int .i64 n] w fun e w' => e = .returned (.bool (okN n)) ∧ w = w' := by
  by_cases h : 1 ≤ n
  · have hr : RowKit.Hid (decide (n ≤ 1024) = okN n) := Lib.hid (by
      unfold okN; exact decide_eq_decide.2 ⟨fun a => ⟨h, a⟩, fun a => a.2⟩)
    go_enter Tryz.func46, Tryz.ntmps46
    go_wp2
    go_ret
    exact ⟨ret_bool hr.out, rfl⟩
  · have hr : RowKit.Hid (okN n = false) := Lib.hid (by unfold okN; exact decide_eq_false (fun a => h a.1))
    have hd : decide (1 ≤ n) = false := by simpa using h
    go_enter Tryz.func46, Tryz.ntmps46
    go_wp2
    go_ret
    exact ⟨ret_bool (by rw [hr.out]), rfl⟩

theorem eq2 (a b x y : Int) (w : World) : (Op.equalIn 10000 80 (.agg #[.int .u64 a, .int .u64 b]) (.agg #[.int .u64 x, .int .u64 y])).run Tryz.prog w = .ok ((a == x) && (b == y)) w := by
  obtain ⟨i, hi⟩ : ∃ i, Tryz.prog.info? 26 = some i := Option.isSome_iff_exists.1 (by kernel_rfl)
  rw [run_equalIn_array w 9999 _ _ Tryz.underlying80 hi]
  have hc : Tryz.prog.cellsOf 26 = 1 := by kernel_rfl
  simp [Op.eqItems, List.range, List.range.loop, hc, part, go_sem]
  by_cases h1 : a = x <;> by_cases h2 : b = y <;> simp [h1, h2]

theorem empty_any (a b : Int) (w : World) : Calls Tryz.prog 86 #[.agg #[.int .u64 a, .int .u64 b]] w fun e w' => e = .returned (.bool ((a == 0) && (b == 0))) ∧ w' = w.alloc (.cells #[.int .u64 a, .int .u64 b] 80) := by
  have q := eq2 a b 0 0
  go_enter Tryz.func86, Tryz.ntmps86
  go_wp2
  go_ret
  exact ⟨rfl, rfl⟩

def cfB (x y : Rc) : Int := if mixed y.1 < mixed x.1 then -1 else if mixed x.1 < mixed y.1 then 1 else 0
def cfK (x y : Rc) : Int := if x.1 < y.1 then -1 else if y.1 < x.1 then 1 else 0

set_option maxHeartbeats 1000000 in
theorem first_any (x y : Rc) (w : World) (hT : Tab w) (hx : Ur x) (hy : Ur y) : Calls Tryz.prog 88 #[.agg #[.int .u64 x.1, .int .u64 x.2], .agg #[.int .u64 y.1, .int .u64 y.2]] w fun e w' => e = .returned (.int .i64 (cfB x y)) ∧ Gr w w' := by
  obtain ⟨⟨x0, x1⟩, _⟩ := hx
  obtain ⟨⟨y0, y1⟩, _⟩ := hy
  have HT := Lib.hid hT
  clear hT
  have step : ∀ a b W, Gr w W → (0 ≤ a ∧ a < 18446744073709551616) → (0 ≤ b ∧ b < 18446744073709551616) → Calls Tryz.prog 115 #[.int .u64 a, .int .u64 b] W fun e w' => e = .returned (.bool (decide (mixed b < mixed a))) ∧ Gr W w' := fun a b W hW ha hb => before_any a b W (HT.out.gr hW) ha.1 ha.2 hb.1 hb.2
  by_cases h1 : mixed y.1 < mixed x.1
  · have hr : RowKit.Hid (cfB x y = -1) := Lib.hid (by unfold cfB; rw [if_pos h1])
    have d1 : decide (mixed y.1 < mixed x.1) = true := by simpa using h1
    go_enter Tryz.func88, Tryz.ntmps88
    go_wp2_with (fail)
    refine (step _ _ _ (((Gr.refl w).alloc _).alloc _) ⟨x0, x1⟩ ⟨y0, y1⟩).mono ?_
    rintro e w1 ⟨rfl, hg⟩
    go_wp2_with (fail)
    go_ret
    exact ⟨ret_int hr.out.symm, (((Gr.refl w).alloc _).alloc _).trans hg⟩
  · have d1 : decide (mixed y.1 < mixed x.1) = false := by simpa using h1
    have hr : RowKit.Hid (cfB x y = if mixed x.1 < mixed y.1 then 1 else 0) := Lib.hid (by unfold cfB; rw [if_neg h1])
    go_enter Tryz.func88, Tryz.ntmps88
    go_wp2_with (fail)
    refine (step _ _ _ (((Gr.refl w).alloc _).alloc _) ⟨x0, x1⟩ ⟨y0, y1⟩).mono ?_
    rintro e w1 ⟨rfl, hg⟩
    obtain ⟨l1, l2⟩ := lay hg.ext
    have hz2 : w.heap.size + 1 < w1.heap.size := by have := hg.ext.size; simp at this; omega
    have hz1 : w.heap.size < w1.heap.size := by omega
    have HG := Lib.hid hg
    clear hg
    go_wp2_with (fail)
    refine (step _ _ _ ((((Gr.refl w).alloc _).alloc _).trans HG.out) ⟨y0, y1⟩ ⟨x0, x1⟩).mono ?_
    rintro e w2 ⟨rfl, hg2⟩
    by_cases h2 : mixed x.1 < mixed y.1
    · have d2 : decide (mixed x.1 < mixed y.1) = true := by simpa using h2
      go_wp2_with (fail)
      go_ret
      exact ⟨ret_int (by rw [hr.out, if_pos h2]), ((((Gr.refl w).alloc _).alloc _).trans HG.out).trans hg2⟩
    · have d2 : decide (mixed x.1 < mixed y.1) = false := by simpa using h2
      have H2 := Lib.hid h2
      clear h2
      go_wp2_with (fail)
      go_ret
      exact ⟨ret_int (by rw [hr.out, if_neg (by have := H2.out; omega)]), ((((Gr.refl w).alloc _).alloc _).trans HG.out).trans hg2⟩

theorem nan_any (a : Int) (w : World) : Calls Tryz.prog 93 #[.int .u64 a] w fun e w' => e = .returned (.bool false) ∧ w = w' := by
  have hb : (a != a) = false := by simp
  go_enter Tryz.func93, Tryz.ntmps93
  go_wp2
  go_ret
  exact ⟨rfl, rfl⟩
theorem compare_any (a b : Int) (w : World) : Calls Tryz.prog 52 #[.int .u64 a, .int .u64 b] w fun e w' => e = .returned (.int .i64 (if a < b then -1 else if b < a then 1 else 0)) ∧ w = w' := by
  by_cases h1 : a < b
  · rw [if_pos h1]
    go_enter Tryz.func52, Tryz.ntmps52
    go_wp2_with (go_at_call 93; refine (nan_any _ _).mono ?_; rintro e w' ⟨rfl, rfl⟩)
    go_ret
    exact ⟨rfl, rfl⟩
  · rw [if_neg h1]
    by_cases h2 : b < a
    · rw [if_pos h2]
      go_enter Tryz.func52, Tryz.ntmps52
      go_wp2_with (go_at_call 93; refine (nan_any _ _).mono ?_; rintro e w' ⟨rfl, rfl⟩)
      go_ret
      exact ⟨rfl, rfl⟩
    · rw [if_neg h2]
      go_enter Tryz.func52, Tryz.ntmps52
      go_wp2_with (go_at_call 93; refine (nan_any _ _).mono ?_; rintro e w' ⟨rfl, rfl⟩)
      go_ret
      exact ⟨rfl, rfl⟩
theorem byKey_any (x y : Rc) (w : World) : Calls Tryz.prog 51 #[.agg #[.int .u64 x.1, .int .u64 x.2], .agg #[.int .u64 y.1, .int .u64 y.2]] w fun e w' => e = .returned (.int .i64 (cfK x y)) ∧ Gr w w' := by
  have hc := fun W => compare_any x.1 y.1 W
  have hk : RowKit.Hid ((if x.1 < y.1 then (-1 : Int) else if y.1 < x.1 then 1 else 0) = cfK x y) := Lib.hid rfl
  generalize (if x.1 < y.1 then (-1 : Int) else if y.1 < x.1 then 1 else 0) = r at hc hk
  go_enter Tryz.func51, Tryz.ntmps51
  go_wp2_with (go_at_call 52; refine (hc _).mono ?_; rintro e w' ⟨rfl, rfl⟩)
  go_ret
  exact ⟨ret_int hk.out, ((Gr.refl w).alloc _).alloc _⟩

/-- slices.Equal. -/
theorem equal_any (s1 s2 : Option Addr) (n m c1 c2 : Nat) (xs ys : List Int) (r : Bool) (w : World) (h1 : WS w s1 n c1 xs) (h2 : WS w s2 m c2 ys) (hr : RowKit.Hid (r = decide (xs = ys))) :
    Calls Tryz.prog 41 #[.slice s1 n c1, .slice s2 m c2] w fun e w' => e = .returned (.bool r) ∧ ∃ q, w' = w.drewN q := by
  have hn := h1.le
  have hm := h2.le
  have H1 := Lib.hid h1
  have H2 := Lib.hid h2
  clear h1 h2
  by_cases hnm : n = m
  · subst hnm
    go_enter Tryz.func41, Tryz.ntmps41
    go_wp2_with (fail)
    go_loopw [13] (fun i w' => ∃ k q : Nat, k ≤ n ∧ i = .int .i64 k ∧ w' = w.drewN q ∧ RowKit.Hid (∀ j, j < k → xs[j]? = ys[j]?)) (fun i _ => n - (intOf i).toNat)
    case atStart => exact ⟨0, 0, by omega, rfl, rfl, Lib.hid (fun j hj => by omega)⟩
    case round =>
      obtain ⟨k, q, hk, rfl, rfl, hz⟩ := hrel
      by_cases hlt : k < n
      · obtain ⟨x, hx, hu, b, o, rfl, hc⟩ := H1.out.get hlt
        obtain ⟨y, hy, hv, b2, o2, rfl, hd⟩ := H2.out.get hlt
        have HX := Lib.hid hx
        have HY := Lib.hid hy
        clear hx hy
        by_cases h0 : x = y
        · subst h0
          go_wp2_with (fail)
          go_quiet (fail)
          go_wp2
          go_roundw
          case rel => exact ⟨k + 1, q + nq, by omega, by go_num, rfl, Lib.hid (fun j hj => by
            by_cases e : j = k
            · subst e; rw [HX.out, HY.out]
            · exact hz.out j (by omega))⟩
          case measure => simp [intOf]; omega
        · have hb : (x != y) = true := by simpa using h0
          go_wp2_with (fail)
          go_quiet (fail)
          go_wp2
          go_ret
          exact ⟨ret_bool (by rw [hr.out, decide_eq_false (ne_at HX.out HY.out h0)]), q + nq, World.drewN_drewN _ _ _⟩
      · obtain rfl : k = n := by omega
        go_wp2
        go_ret
        exact ⟨ret_bool (by rw [hr.out, decide_eq_true (eq_all H1.out.len H2.out.len hz.out)]), _, rfl⟩
  · have hb : ((n : Int) != (m : Int)) = true := by simp; omega
    have hb2 : (n != m) = true := by simpa using hnm
    go_enter Tryz.func41, Tryz.ntmps41
    go_wp2
    go_ret
    exact ⟨ret_bool (by rw [hr.out, decide_eq_false (fun e => hnm (by rw [← H1.out.len, ← H2.out.len, e]))]), 0, rfl⟩

end Go.Proofs.YtmonkcekkhfafaaGreatDoor.Prb

/- PrbCut:
  Slices of records that are cut, records appended onto rows of one's own, and records put into a list in order. Conditions: the slices are there, the cuts within them.
-/
namespace Go.Proofs.YtmonkcekkhfafaaGreatDoor.Prb
open Go.RowKit (Below intOf)

theorem QS.take {w : World} {sl : Option Addr} {n c k : Nat} {ys : List Rc} (h : QS w sl n c ys) (hk : k ≤ n) : QS w sl k c (ys.take k) := by
  refine ⟨by rw [List.length_take, h.len]; omega, by have := h.le; omega, by have := h.lc; omega, h.cle, fun j y hy => ?_⟩
  rw [List.getElem?_take] at hy
  split at hy
  · exact h.2.2.2.2 j y hy
  · cases hy
theorem WS.take {w : World} {sl : Option Addr} {n c k : Nat} {xs : List Int} (h : WS w sl n c xs) (hk : k ≤ n) : WS w sl k c (xs.take k) := by
  refine ⟨by rw [List.length_take, h.len]; omega, by have := h.le; omega, by have := h.lc; omega, h.cle, fun j y hy => ?_⟩
  rw [List.getElem?_take] at hy
  split at hy
  · exact h.2.2.2.2 j y hy
  · cases hy

/-- Where a cut begins. -/
def cutAt (sl : Option Addr) (c k : Nat) : Option Addr := if c = k then sl else sl.map (·.add (k * 2))
theorem elem23 : Tryz.prog.underlying 27 = some (.slice (Tryz.prog.elem 27)) := by kernel_rfl
theorem elem23_is : Tryz.prog.elem 27 = 26 := by kernel_rfl

/-- What has been put in order of the first j. -/
structure Some' (le : Rc → Rc → Bool) (all : List Rc) (j : Nat) (ys : List Rc) : Prop where
  perm : ys.Perm (all.take j)
  pair : ys.Pairwise fun a b => le a b = true
end Go.Proofs.YtmonkcekkhfafaaGreatDoor.Prb

