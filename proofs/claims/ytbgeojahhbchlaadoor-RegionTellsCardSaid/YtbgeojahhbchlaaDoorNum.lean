/-
  Which configurations fit, how many words and cells there are, and where what stands, as plain functions of integers. No condition but those that each fact names.
-/
import Derived.Test.YtbgeojahhbchlaaDoorChecked
namespace Go.Proofs.YtbgeojahhbchlaaDoor

def isIn (a lo hi : Int) : Bool := decide (lo ≤ a ∧ a ≤ hi)
def fits (k p c : Int) : Bool := decide (1 ≤ k ∧ k ≤ 5 ∧ 1 ≤ p ∧ p ≤ 16 ∧ 1 ≤ c ∧ c ≤ 256)
/-- Words at home, of what fits. -/
def hom (k c : Int) : Int := if k = 1 then 1 else if k = 2 then 1 + 2 * c else if k = 3 then 1 + 4 * c else if k = 4 then 2 + 4 * c else 9 + c
/-- Cells of a log, of what fits. -/
def lg (k p c : Int) : Int := 1 + 2 * (hom k c + 2 * p)
def home (k p c : Int) : Int := if fits k p c = true then hom k c else 0
def logs (k p c : Int) : Int := if fits k p c = true then lg k p c else 0
def size (k p c : Int) : Int := if fits k p c = true then 1 + p * (5 + lg k p c) + hom k c else 0
def bound (k p c : Int) : Int := if fits k p c = true then 10 * (6 * (hom k c + 2 * p) + 8) + 16 else 0
def pick (c n : Int) : Int := (if c < 0 then -(c + 1) else c) % n

theorem fits_of {k p c : Int} (h : fits k p c = true) : 1 ≤ k ∧ k ≤ 5 ∧ 1 ≤ p ∧ p ≤ 16 ∧ 1 ≤ c ∧ c ≤ 256 := by
  unfold fits at h; exact of_decide_eq_true h
theorem fits_mk {k p c : Int} (h : 1 ≤ k ∧ k ≤ 5 ∧ 1 ≤ p ∧ p ≤ 16 ∧ 1 ≤ c ∧ c ≤ 256) : fits k p c = true := by
  unfold fits; exact decide_eq_true h
theorem fits_no {k p c : Int} (h : ¬ (1 ≤ k ∧ k ≤ 5 ∧ 1 ≤ p ∧ p ≤ 16 ∧ 1 ≤ c ∧ c ≤ 256)) : fits k p c = false := by
  unfold fits; exact decide_eq_false h
theorem isIn_mk {a lo hi : Int} (h : lo ≤ a ∧ a ≤ hi) : isIn a lo hi = true := by unfold isIn; exact decide_eq_true h
theorem isIn_no {a lo hi : Int} (h : ¬ (lo ≤ a ∧ a ≤ hi)) : isIn a lo hi = false := by unfold isIn; exact decide_eq_false h
theorem hom_bd {k c : Int} (h0 : 1 ≤ c) (h1 : c ≤ 256) : 1 ≤ hom k c ∧ hom k c ≤ 1026 := by
  unfold hom; split
  · omega
  · split
    · omega
    · split
      · omega
      · split <;> omega
theorem lg_bd {k p c : Int} (h : fits k p c = true) : 7 ≤ lg k p c ∧ lg k p c ≤ 2117 := by
  have := fits_of h
  have := hom_bd (k := k) (c := c) (by omega) (by omega)
  unfold lg; omega
theorem mul_bd {p a m : Int} (h0 : 1 ≤ p) (h1 : p ≤ 16) (a0 : 0 ≤ a) (a1 : a ≤ m) : a ≤ p * a ∧ p * a ≤ 16 * m := by
  have e1 : 1 * a ≤ p * a := Int.mul_le_mul_of_nonneg_right h0 a0
  have e2 : p * a ≤ 16 * a := Int.mul_le_mul_of_nonneg_right h1 a0
  omega
theorem pick_bd {c n : Int} (h : 1 ≤ n) : 0 ≤ pick c n ∧ pick c n < n := by
  unfold pick; exact ⟨Int.emod_nonneg _ (by omega), Int.emod_lt_of_pos _ (by omega)⟩

/-- How many have such a part each; how many cells each has; where the part begins. -/
def own (p : Int) (i : Nat) : Int := if i = 0 ∨ i = 4 then 1 else p
def each (k p c : Int) : Nat → Int
  | 0 => 1
  | 1 => 3
  | 2 => 2
  | 3 => lg k p c
  | _ => hom k c
def frm (k p c : Int) : Nat → Int
  | 0 => 0
  | 1 => 1
  | 2 => 1 + p * 3
  | 3 => 1 + p * 3 + p * 2
  | 4 => 1 + p * 3 + p * 2 + p * lg k p c
  | _ => 1 + p * 3 + p * 2 + p * lg k p c + hom k c

theorem frm_succ (k p c : Int) (i : Nat) (h : i < 5) : frm k p c (i + 1) = frm k p c i + own p i * each k p c i := by
  match i, h with
  | 0, _ => simp [frm, own, each]
  | 1, _ => simp [frm, own, each]
  | 2, _ => simp [frm, own, each]
  | 3, _ => simp [frm, own, each]
  | 4, _ => simp [frm, own, each]
theorem size_eq {k p c : Int} (h : fits k p c = true) : size k p c = frm k p c 4 + own p 4 * each k p c 4 := by
  unfold size; rw [if_pos h]; simp only [frm, own, each]; simp only [Int.mul_add]; simp; omega

theorem each_bd {k p c : Int} (h : fits k p c = true) (i : Nat) : 1 ≤ each k p c i ∧ each k p c i ≤ 2117 := by
  have hl := lg_bd h
  have := fits_of h
  have hh := hom_bd (k := k) (c := c) (by omega) (by omega)
  unfold each; split <;> omega
theorem own_bd {k p c : Int} (h : fits k p c = true) (i : Nat) : 1 ≤ own p i ∧ own p i ≤ 16 := by
  have := fits_of h
  unfold own; split <;> omega
theorem cells_bd {k p c : Int} (h : fits k p c = true) (i : Nat) : 1 ≤ own p i * each k p c i ∧ own p i * each k p c i ≤ 33872 := by
  have h1 := each_bd h i
  have h2 := own_bd h i
  have := mul_bd h2.1 h2.2 (by omega) h1.2
  omega
theorem frm_bd {k p c : Int} (h : fits k p c = true) (i : Nat) : 0 ≤ frm k p c i ∧ frm k p c i ≤ 40000 := by
  have h1 := lg_bd h
  have h2 := fits_of h
  have h3 := mul_bd (p := p) (a := lg k p c) (m := 2117) (by omega) (by omega) (by omega) h1.2
  have h4 := hom_bd (k := k) (c := c) (by omega) (by omega)
  unfold frm; split <;> omega

/-- Where a part of a process begins, and with which error. -/
def atV (k p c part q : Int) : Int := if fits k p c = true ∧ (0 ≤ part ∧ part ≤ 4) ∧ 0 ≤ q ∧ q ≤ p - 1 then frm k p c part.toNat + (if part = 0 ∨ part = 4 then 0 else q * each k p c part.toNat) else 0
def atE (k p c part q : Int) : Int := if fits k p c = true then (if (0 ≤ part ∧ part ≤ 4) ∧ 0 ≤ q ∧ q ≤ p - 1 then 0 else 1) else 5

/-- Place x is in part i. -/
def inPart (k p c x : Int) (i : Nat) : Prop := frm k p c i ≤ x ∧ x < frm k p c i + own p i * each k p c i
def wPart (k p c x : Int) : Nat := if x < frm k p c 1 then 0 else if x < frm k p c 2 then 1 else if x < frm k p c 3 then 2 else if x < frm k p c 4 then 3 else 4
/-- Whether there is such a place. -/
def isPlace (k p c x : Int) : Bool := decide (fits k p c = true ∧ 0 ≤ x ∧ x < size k p c)
def whA (k p c x : Int) : Int := if isPlace k p c x = true then wPart k p c x else 5
def whB (k p c x : Int) : Int := if isPlace k p c x = true then (x - frm k p c (wPart k p c x)) / each k p c (wPart k p c x) else 0
def whC (k p c x : Int) : Int := if isPlace k p c x = true then (x - frm k p c (wPart k p c x)) % each k p c (wPart k p c x) else 0

theorem frms {k p c : Int} (h : fits k p c = true) : frm k p c 0 = 0 ∧ frm k p c 1 = frm k p c 0 + own p 0 * each k p c 0 ∧ frm k p c 2 = frm k p c 1 + own p 1 * each k p c 1 ∧ frm k p c 3 = frm k p c 2 + own p 2 * each k p c 2 ∧
    frm k p c 4 = frm k p c 3 + own p 3 * each k p c 3 ∧ size k p c = frm k p c 4 + own p 4 * each k p c 4 ∧ 1 ≤ own p 0 * each k p c 0 ∧ 1 ≤ own p 1 * each k p c 1 ∧ 1 ≤ own p 2 * each k p c 2 ∧ 1 ≤ own p 3 * each k p c 3 ∧ 1 ≤ own p 4 * each k p c 4 :=
  ⟨rfl, frm_succ k p c 0 (by omega), frm_succ k p c 1 (by omega), frm_succ k p c 2 (by omega), frm_succ k p c 3 (by omega), size_eq h, (cells_bd h 0).1, (cells_bd h 1).1, (cells_bd h 2).1, (cells_bd h 3).1, (cells_bd h 4).1⟩

theorem wPart_of {k p c x : Int} (h : fits k p c = true) {i : Nat} (hi : i ≤ 4) (hx : inPart k p c x i) : wPart k p c x = i ∧ isPlace k p c x = true := by
  obtain ⟨f0, f1, f2, f3, f4, f5, g0, g1, g2, g3, g4⟩ := frms h
  obtain ⟨h1, h2⟩ := hx
  unfold isPlace
  rw [decide_eq_true_eq]
  unfold wPart
  match i, hi with
  | 0, _ => exact ⟨by rw [if_pos (by omega)], h, by omega, by omega⟩
  | 1, _ => exact ⟨by rw [if_neg (by omega), if_pos (by omega)], h, by omega, by omega⟩
  | 2, _ => exact ⟨by rw [if_neg (by omega), if_neg (by omega), if_pos (by omega)], h, by omega, by omega⟩
  | 3, _ => exact ⟨by rw [if_neg (by omega), if_neg (by omega), if_neg (by omega), if_pos (by omega)], h, by omega, by omega⟩
  | 4, _ => exact ⟨by rw [if_neg (by omega), if_neg (by omega), if_neg (by omega), if_neg (by omega)], h, by omega, by omega⟩

theorem wPart_in {k p c x : Int} (h : isPlace k p c x = true) : fits k p c = true ∧ wPart k p c x ≤ 4 ∧ inPart k p c x (wPart k p c x) := by
  unfold isPlace at h
  obtain ⟨h, h1, h2⟩ := of_decide_eq_true h
  obtain ⟨f0, f1, f2, f3, f4, f5, g0, g1, g2, g3, g4⟩ := frms h
  refine ⟨h, ?_⟩
  unfold wPart
  by_cases e1 : x < frm k p c 1
  · rw [if_pos e1]; exact ⟨by omega, by omega, by omega⟩
  · rw [if_neg e1]
    by_cases e2 : x < frm k p c 2
    · rw [if_pos e2]; exact ⟨by omega, by omega, by omega⟩
    · rw [if_neg e2]
      by_cases e3 : x < frm k p c 3
      · rw [if_pos e3]; exact ⟨by omega, by omega, by omega⟩
      · rw [if_neg e3]
        by_cases e4 : x < frm k p c 4
        · rw [if_pos e4]; exact ⟨by omega, by omega, by omega⟩
        · rw [if_neg e4]; exact ⟨by omega, by omega, by omega⟩

theorem wh_of {k p c x : Int} (h : fits k p c = true) {i : Nat} (hi : i ≤ 4) (hx : inPart k p c x i) :
    whA k p c x = i ∧ whB k p c x = (x - frm k p c i) / each k p c i ∧ whC k p c x = (x - frm k p c i) % each k p c i := by
  obtain ⟨e, h'⟩ := wPart_of h hi hx
  unfold whA whB whC
  rw [if_pos h', if_pos h', if_pos h', e]
  exact ⟨rfl, rfl, rfl⟩
theorem wh_no {k p c x : Int} (h : isPlace k p c x = false) : whA k p c x = 5 ∧ whB k p c x = 0 ∧ whC k p c x = 0 := by
  unfold whA whB whC
  rw [h]; exact ⟨rfl, rfl, rfl⟩
theorem place_no {k p c x : Int} (h : ¬ (fits k p c = true ∧ 0 ≤ x ∧ x < size k p c)) : isPlace k p c x = false := decide_eq_false h

theorem atV_ok {k p c part q : Int} (h : fits k p c = true) (h1 : 0 ≤ part ∧ part ≤ 4) (h2 : 0 ≤ q ∧ q ≤ p - 1) : atV k p c part q = frm k p c part.toNat + (if part = 0 ∨ part = 4 then 0 else q * each k p c part.toNat) ∧ atE k p c part q = 0 := by
  exact ⟨if_pos ⟨h, h1, h2⟩, (if_pos h).trans (if_pos ⟨h1, h2⟩)⟩
theorem atV_arg {k p c part q : Int} (h : fits k p c = true) (h1 : ¬ ((0 ≤ part ∧ part ≤ 4) ∧ 0 ≤ q ∧ q ≤ p - 1)) : atV k p c part q = 0 ∧ atE k p c part q = 1 := by
  unfold atV atE; rw [if_neg (fun x => h1 x.2), if_pos h, if_neg h1]; exact ⟨rfl, rfl⟩
theorem atV_conf {k p c part q : Int} (h : fits k p c = false) : atV k p c part q = 0 ∧ atE k p c part q = 5 := by
  unfold atV atE; rw [if_neg (fun x => by rw [h] at x; cases x.1), h]; exact ⟨rfl, rfl⟩

end Go.Proofs.YtbgeojahhbchlaaDoor
