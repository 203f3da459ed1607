/-
  Parts of a proof, one behind the other: FltWords, FltOrd, RegNum, AutPlain, FltCalls, FltSum. Each says its own conditions.
-/
import Derived.WalkKit
import Derived.Test.YtdipddnnckfnmaaGreatChecked
import Derived.Lib.Hide
import Derived.WalkLawsBesides
import Derived.Deep.Draws

/- FltWords:
  What the functions of package flt tell of words, as plain functions of integers. No condition: definitions, and facts on them for integers from 0 to less than 2^64.
-/
namespace Go.Proofs.YtdipddnnckfnmaaGreat

/-- Canon, of an integer that is a word. -/
def canon (x : Int) : Int := if 9218868437227405312 < x % 9223372036854775808 then 9221120237041090561 else if x = 9223372036854775808 then 0 else x

def isNan (x : Int) : Bool := decide (9218868437227405312 < x % 9223372036854775808)

def kind (x : Int) : Int := if canon x = 0 then 0 else if canon x = 9218868437227405312 then 2 else if canon x = 18442240474082181120 then 2 else if canon x = 9221120237041090561 then 3 else 1

def rank (x : Int) : Int := if 9223372036854775808 ≤ canon x then 18446744073709551615 - canon x else canon x + 9223372036854775808

def unrank (r : Int) : Int := if 9223372036854775808 ≤ r then r - 9223372036854775808 else 18446744073709551615 - r

def wordIs (r : Int) : Bool := decide (canon (unrank r) = unrank r)

def wordOf (r : Int) : Int := if canon (unrank r) = unrank r then unrank r else 0

def less (x y : Int) : Bool := decide (rank x < rank y)

def maxOf (x y : Int) : Int := if rank x < rank y then canon y else canon x

/-- The word of the sum as the model adds; a NaN where it has none. -/
def addWord (x y : Int) : Int := match Ieee.double.add x.toNat y.toNat with
  | some r => (r : Int)
  | none => 9221120237041090561

def sumOf (x y : Int) : Int := canon (addWord x y)

theorem andNot_sign (x : Int) (h0 : 0 ≤ x) (h1 : x < 18446744073709551616) : bits .andNot .u64 x 9223372036854775808 = x % 9223372036854775808 := by
  rw [u64_andNot x _ h0 h1 (by omega) (by omega)]
  obtain ⟨X, rfl⟩ := Int.eq_ofNat_of_zero_le h0
  have e : (X &&& 9223372036854775807) = X % 9223372036854775808 := Nat.and_two_pow_sub_one_eq_mod X 63
  simp only [Int.toNat_natCast]
  have e2 : (18446744073709551615 - (9223372036854775808 : Int).toNat) = 9223372036854775807 := by decide
  rw [e2, e]
  omega

theorem and_sign (x : Int) (h0 : 0 ≤ x) (h1 : x < 18446744073709551616) : bits .and .u64 x 9223372036854775808 = if 9223372036854775808 ≤ x then 9223372036854775808 else 0 := by
  rw [u64_and x _ h0 h1 (by omega) (by omega)]
  obtain ⟨X, rfl⟩ := Int.eq_ofNat_of_zero_le h0
  simp only [Int.toNat_natCast]
  have e2 : (9223372036854775808 : Int).toNat = 9223372036854775808 := by decide
  rw [e2, nat_bit63]
  split <;> omega

theorem or_sign (x : Int) (h0 : 0 ≤ x) (h1 : x < 9223372036854775808) : bits .or .u64 x 9223372036854775808 = x + 9223372036854775808 := by
  rw [u64_or x _ h0 (by omega) (by omega) (by omega)]
  obtain ⟨X, rfl⟩ := Int.eq_ofNat_of_zero_le h0
  have e2 : (9223372036854775808 : Int).toNat = 9223372036854775808 := by decide
  simp only [Int.toNat_natCast]
  rw [e2, nat_join63' 9223372036854775808 X (by omega) (by omega)]
  omega

theorem xor_sign_nat (X : Nat) (h : X < 18446744073709551616) : X ^^^ 9223372036854775808 = if 9223372036854775808 ≤ X then X - 9223372036854775808 else X + 9223372036854775808 := by
  have m : (X ^^^ 2 ^ 63) % 2 ^ 63 = X % 2 ^ 63 := by rw [Nat.xor_mod_two_pow]; simp
  have d : (X ^^^ 2 ^ 63) / 2 ^ 63 = X / 2 ^ 63 ^^^ 1 := by rw [Nat.xor_div_two_pow]
  have c : X / 2 ^ 63 = 0 ∨ X / 2 ^ 63 = 1 := by omega
  rw [show (9223372036854775808 : Nat) = 2 ^ 63 from rfl]
  generalize X ^^^ 2 ^ 63 = Y at m d ⊢
  rcases c with c | c <;> rw [c] at d <;> simp at d <;> split <;> omega

theorem xor_sign (x : Int) (h0 : 0 ≤ x) (h1 : x < 18446744073709551616) : bits .xor .u64 x 9223372036854775808 = if 9223372036854775808 ≤ x then x - 9223372036854775808 else x + 9223372036854775808 := by
  obtain ⟨X, rfl⟩ := Int.eq_ofNat_of_zero_le h0
  rw [show bits .xor .u64 (X : Int) 9223372036854775808 = _ from bits_xor_u64_nat X 9223372036854775808 (by omega) (by omega), xor_sign_nat X (by omega)]
  split <;> split <;> omega

theorem not_word (x : Int) (h0 : 0 ≤ x) (h1 : x < 18446744073709551616) : bits .xor .u64 IntKind.u64.max x = 18446744073709551615 - x := by
  rw [show IntKind.u64.max = 18446744073709551615 from rfl]
  obtain ⟨X, rfl⟩ := Int.eq_ofNat_of_zero_le h0
  rw [show bits .xor .u64 18446744073709551615 (X : Int) = _ from bits_xor_u64_nat 18446744073709551615 X (by omega) (by omega)]
  have e : (BitVec.allOnes 64 ^^^ BitVec.ofNat 64 X).toNat = 18446744073709551615 - X := by
    rw [BitVec.allOnes_xor, BitVec.toNat_not, BitVec.toNat_ofNat, Nat.mod_eq_of_lt (by omega)]
  rw [BitVec.toNat_xor, BitVec.toNat_ofNat, Nat.mod_eq_of_lt (by omega : X < 2 ^ 64)] at e
  have e2 : (BitVec.allOnes 64).toNat = 18446744073709551615 := rfl
  rw [e2] at e
  omega

theorem canon_lo (x : Int) (h0 : 0 ≤ x) : 0 ≤ canon x := by
  unfold canon
  split <;> (try split) <;> omega

theorem canon_hi (x : Int) (h1 : x < 18446744073709551616) : canon x < 18446744073709551616 := by
  unfold canon
  split <;> (try split) <;> omega

theorem canon_canon (x : Int) : canon (canon x) = canon x := by
  unfold canon
  split
  · simp
  · split
    · simp
    · rfl

end Go.Proofs.YtdipddnnckfnmaaGreat

/- FltOrd:
  The order of words by their ranks, as facts on the plain functions of integers, for integers from 0 to less than 2^64 (the one condition).
-/
namespace Go.Proofs.YtdipddnnckfnmaaGreat

/-- A canonical word is a NaN, or no NaN and not minus zero. -/
theorem canon_cases (x : Int) (h0 : 0 ≤ x) (h1 : x < 18446744073709551616) :
    (canon x = 9221120237041090561) ∨ (0 ≤ canon x ∧ canon x ≤ 9218868437227405312) ∨ (9223372036854775808 < canon x ∧ canon x ≤ 18442240474082181120) := by
  unfold canon; split
  · exact Or.inl rfl
  · split <;> omega

theorem canon_of {y : Int} (h : y = 9221120237041090561 ∨ (0 ≤ y ∧ y ≤ 9218868437227405312) ∨ (9223372036854775808 < y ∧ y ≤ 18442240474082181120)) : canon y = y := by
  unfold canon; split
  · omega
  · rw [if_neg (by omega)]

theorem unrank_rank (x : Int) (h0 : 0 ≤ x) (h1 : x < 18446744073709551616) : unrank (rank x) = canon x := by
  have h := canon_cases x h0 h1
  unfold rank unrank
  split <;> split <;> omega

theorem wordIs_rank (x : Int) (h0 : 0 ≤ x) (h1 : x < 18446744073709551616) : wordIs (rank x) = true := by
  unfold wordIs; rw [unrank_rank x h0 h1, canon_canon]; simp

theorem wordOf_rank (x : Int) (h0 : 0 ≤ x) (h1 : x < 18446744073709551616) : wordOf (rank x) = canon x := by
  unfold wordOf; rw [unrank_rank x h0 h1, canon_canon]; simp

theorem rank_inj (a b : Int) (h0 : 0 ≤ a) (h1 : a < 18446744073709551616) (g0 : 0 ≤ b) (g1 : b < 18446744073709551616) : rank a = rank b ↔ canon a = canon b := by
  constructor
  · intro h; rw [← unrank_rank a h0 h1, h, unrank_rank b g0 g1]
  · intro h; unfold rank; rw [h]

theorem rank_same (a b : Int) (h0 : 0 ≤ a) (h1 : a < 18446744073709551616) (g0 : 0 ≤ b) (g1 : b < 18446744073709551616) : ∃ B : Bool, (rank a == rank b) = B ∧ (canon a == canon b) = B := by
  refine ⟨canon a == canon b, ?_, rfl⟩
  rw [Bool.eq_iff_iff]; simpa using rank_inj a b h0 h1 g0 g1

theorem less_trans {a b c : Int} (h : less a b = true) (g : less b c = true) : less a c = true := by
  simp only [less, decide_eq_true_eq] at *; omega

theorem less_self (a : Int) : less a a = false := by simp [less]

theorem less_not {a b : Int} (h : less a b = true) : less b a = false := by
  simp only [less, decide_eq_true_eq, decide_eq_false_iff_not] at *; omega

theorem rank_negInf : rank 18442240474082181120 = 4503599627370495 := by decide +kernel
theorem rank_nan : rank 9221120237041090561 = 18444492273895866369 := by decide +kernel

theorem less_negInf (a : Int) (h0 : 0 ≤ a) (h1 : a < 18446744073709551616) : less a 18442240474082181120 = false := by
  have h := canon_cases a h0 h1
  simp only [less, decide_eq_false_iff_not, rank_negInf]
  unfold rank; split <;> omega

theorem less_nan_left (a : Int) (h0 : 0 ≤ a) (h1 : a < 18446744073709551616) : less 9221120237041090561 a = false := by
  have h := canon_cases a h0 h1
  simp only [less, decide_eq_false_iff_not, rank_nan]
  unfold rank; split <;> omega

theorem kind_three (a : Int) : kind a = 3 ↔ canon a = 9221120237041090561 := by
  unfold kind
  constructor
  · intro h; split at h <;> (try split at h) <;> (try split at h) <;> (try split at h) <;> first | omega | assumption
  · intro h; rw [h]; decide +kernel

theorem less_nan_right (a : Int) (h0 : 0 ≤ a) (h1 : a < 18446744073709551616) (hk : ¬ kind a = 3) : less a 9221120237041090561 = true := by
  have h := canon_cases a h0 h1
  rw [kind_three] at hk
  simp only [less, decide_eq_true_eq, rank_nan]
  unfold rank; split <;> omega

end Go.Proofs.YtdipddnnckfnmaaGreat

/- RegNum:
  Which configurations fit, how many words and cells there are, and where what stands, as plain functions of integers. No condition but those that each fact names.
-/
namespace Go.Proofs.YtdipddnnckfnmaaGreat.Reg

def isIn (a lo hi : Int) : Bool := decide (lo ≤ a ∧ a ≤ hi)
def fits (k p c : Int) : Bool := decide (1 ≤ k ∧ k ≤ 5 ∧ 1 ≤ p ∧ p ≤ 16 ∧ 1 ≤ c ∧ c ≤ 256)
/-- Words at home, of what fits. -/
def hom (k c : Int) : Int := if k = 1 then 1 else if k = 2 then 1 + 2 * c else if k = 3 then 1 + 4 * c else if k = 4 then 2 + 4 * c else 9 + c
/-- Cells of a log, of what fits. -/
def lg (k p c : Int) : Int := 1 + 2 * (hom k c + 2 * p)
def home (k p c : Int) : Int := if fits k p c = true then hom k c else 0
def logs (k p c : Int) : Int := if fits k p c = true then lg k p c else 0
def size (k p c : Int) : Int := if fits k p c = true then 1 + p * (5 + lg k p c) + hom k c else 0
def bound (k p c : Int) : Int := if fits k p c = true then 10 * (6 * (hom k c + 2 * p) + 8) + 16 else 0
def pick (c n : Int) : Int := (if c < 0 then -(c + 1) else c) % n

theorem fits_of {k p c : Int} (h : fits k p c = true) : 1 ≤ k ∧ k ≤ 5 ∧ 1 ≤ p ∧ p ≤ 16 ∧ 1 ≤ c ∧ c ≤ 256 := by
  unfold fits at h; exact of_decide_eq_true h
theorem fits_mk {k p c : Int} (h : 1 ≤ k ∧ k ≤ 5 ∧ 1 ≤ p ∧ p ≤ 16 ∧ 1 ≤ c ∧ c ≤ 256) : fits k p c = true := by
  unfold fits; exact decide_eq_true h
theorem fits_no {k p c : Int} (h : ¬ (1 ≤ k ∧ k ≤ 5 ∧ 1 ≤ p ∧ p ≤ 16 ∧ 1 ≤ c ∧ c ≤ 256)) : fits k p c = false := by
  unfold fits; exact decide_eq_false h
theorem isIn_mk {a lo hi : Int} (h : lo ≤ a ∧ a ≤ hi) : isIn a lo hi = true := by unfold isIn; exact decide_eq_true h
theorem isIn_no {a lo hi : Int} (h : ¬ (lo ≤ a ∧ a ≤ hi)) : isIn a lo hi = false := by unfold isIn; exact decide_eq_false h
theorem hom_bd {k c : Int} (h0 : 1 ≤ c) (h1 : c ≤ 256) : 1 ≤ hom k c ∧ hom k c ≤ 1026 := by
  unfold hom; split
  · omega
  · split
    · omega
    · split
      · omega
      · split <;> omega
theorem lg_bd {k p c : Int} (h : fits k p c = true) : 7 ≤ lg k p c ∧ lg k p c ≤ 2117 := by
  have := fits_of h
  have := hom_bd (k := k) (c := c) (by omega) (by omega)
  unfold lg; omega
theorem mul_bd {p a m : Int} (h0 : 1 ≤ p) (h1 : p ≤ 16) (a0 : 0 ≤ a) (a1 : a ≤ m) : a ≤ p * a ∧ p * a ≤ 16 * m := by
  have e1 : 1 * a ≤ p * a := Int.mul_le_mul_of_nonneg_right h0 a0
  have e2 : p * a ≤ 16 * a := Int.mul_le_mul_of_nonneg_right h1 a0
  omega
theorem pick_bd {c n : Int} (h : 1 ≤ n) : 0 ≤ pick c n ∧ pick c n < n := by
  unfold pick; exact ⟨Int.emod_nonneg _ (by omega), Int.emod_lt_of_pos _ (by omega)⟩

/-- How many have such a part each; how many cells each has; where the part begins. -/
def own (p : Int) (i : Nat) : Int := if i = 0 ∨ i = 4 then 1 else p
def each (k p c : Int) : Nat → Int
  | 0 => 1
  | 1 => 3
  | 2 => 2
  | 3 => lg k p c
  | _ => hom k c
def frm (k p c : Int) : Nat → Int
  | 0 => 0
  | 1 => 1
  | 2 => 1 + p * 3
  | 3 => 1 + p * 3 + p * 2
  | 4 => 1 + p * 3 + p * 2 + p * lg k p c
  | _ => 1 + p * 3 + p * 2 + p * lg k p c + hom k c

theorem frm_succ (k p c : Int) (i : Nat) (h : i < 5) : frm k p c (i + 1) = frm k p c i + own p i * each k p c i := by
  match i, h with
  | 0, _ => simp [frm, own, each]
  | 1, _ => simp [frm, own, each]
  | 2, _ => simp [frm, own, each]
  | 3, _ => simp [frm, own, each]
  | 4, _ => simp [frm, own, each]
theorem size_eq {k p c : Int} (h : fits k p c = true) : size k p c = frm k p c 4 + own p 4 * each k p c 4 := by
  unfold size; rw [if_pos h]; simp only [frm, own, each]; simp only [Int.mul_add]; simp; omega

theorem each_bd {k p c : Int} (h : fits k p c = true) (i : Nat) : 1 ≤ each k p c i ∧ each k p c i ≤ 2117 := by
  have hl := lg_bd h
  have := fits_of h
  have hh := hom_bd (k := k) (c := c) (by omega) (by omega)
  unfold each; split <;> omega
theorem own_bd {k p c : Int} (h : fits k p c = true) (i : Nat) : 1 ≤ own p i ∧ own p i ≤ 16 := by
  have := fits_of h
  unfold own; split <;> omega
theorem cells_bd {k p c : Int} (h : fits k p c = true) (i : Nat) : 1 ≤ own p i * each k p c i ∧ own p i * each k p c i ≤ 33872 := by
  have h1 := each_bd h i
  have h2 := own_bd h i
  have := mul_bd h2.1 h2.2 (by omega) h1.2
  omega
theorem frm_bd {k p c : Int} (h : fits k p c = true) (i : Nat) : 0 ≤ frm k p c i ∧ frm k p c i ≤ 40000 := by
  have h1 := lg_bd h
  have h2 := fits_of h
  have h3 := mul_bd (p := p) (a := lg k p c) (m := 2117) (by omega) (by omega) (by omega) h1.2
  have h4 := hom_bd (k := k) (c := c) (by omega) (by omega)
  unfold frm; split <;> omega

/-- Where a part of a process begins, and with which error. -/
def atV (k p c part q : Int) : Int := if fits k p c = true ∧ (0 ≤ part ∧ part ≤ 4) ∧ 0 ≤ q ∧ q ≤ p - 1 then frm k p c part.toNat + (if part = 0 ∨ part = 4 then 0 else q * each k p c part.toNat) else 0
def atE (k p c part q : Int) : Int := if fits k p c = true then (if (0 ≤ part ∧ part ≤ 4) ∧ 0 ≤ q ∧ q ≤ p - 1 then 0 else 1) else 5

/-- Place x is in part i. -/
def inPart (k p c x : Int) (i : Nat) : Prop := frm k p c i ≤ x ∧ x < frm k p c i + own p i * each k p c i
def wPart (k p c x : Int) : Nat := if x < frm k p c 1 then 0 else if x < frm k p c 2 then 1 else if x < frm k p c 3 then 2 else if x < frm k p c 4 then 3 else 4
/-- Whether there is such a place. -/
def isPlace (k p c x : Int) : Bool := decide (fits k p c = true ∧ 0 ≤ x ∧ x < size k p c)
def whA (k p c x : Int) : Int := if isPlace k p c x = true then wPart k p c x else 5
def whB (k p c x : Int) : Int := if isPlace k p c x = true then (x - frm k p c (wPart k p c x)) / each k p c (wPart k p c x) else 0
def whC (k p c x : Int) : Int := if isPlace k p c x = true then (x - frm k p c (wPart k p c x)) % each k p c (wPart k p c x) else 0

theorem frms {k p c : Int} (h : fits k p c = true) : frm k p c 0 = 0 ∧ frm k p c 1 = frm k p c 0 + own p 0 * each k p c 0 ∧ frm k p c 2 = frm k p c 1 + own p 1 * each k p c 1 ∧ frm k p c 3 = frm k p c 2 + own p 2 * each k p c 2 ∧
    frm k p c 4 = frm k p c 3 + own p 3 * each k p c 3 ∧ size k p c = frm k p c 4 + own p 4 * each k p c 4 ∧ 1 ≤ own p 0 * each k p c 0 ∧ 1 ≤ own p 1 * each k p c 1 ∧ 1 ≤ own p 2 * each k p c 2 ∧ 1 ≤ own p 3 * each k p c 3 ∧ 1 ≤ own p 4 * each k p c 4 :=
  ⟨rfl, frm_succ k p c 0 (by omega), frm_succ k p c 1 (by omega), frm_succ k p c 2 (by omega), frm_succ k p c 3 (by omega), size_eq h, (cells_bd h 0).1, (cells_bd h 1).1, (cells_bd h 2).1, (cells_bd h 3).1, (cells_bd h 4).1⟩

theorem wPart_of {k p c x : Int} (h : fits k p c = true) {i : Nat} (hi : i ≤ 4) (hx : inPart k p c x i) : wPart k p c x = i ∧ isPlace k p c x = true := by
  obtain ⟨f0, f1, f2, f3, f4, f5, g0, g1, g2, g3, g4⟩ := frms h
  obtain ⟨h1, h2⟩ := hx
  unfold isPlace
  rw [decide_eq_true_eq]
  unfold wPart
  match i, hi with
  | 0, _ => exact ⟨by rw [if_pos (by omega)], h, by omega, by omega⟩
  | 1, _ => exact ⟨by rw [if_neg (by omega), if_pos (by omega)], h, by omega, by omega⟩
  | 2, _ => exact ⟨by rw [if_neg (by omega), if_neg (by omega), if_pos (by omega)], h, by omega, by omega⟩
  | 3, _ => exact ⟨by rw [if_neg (by omega), if_neg (by omega), if_neg (by omega), if_pos (by omega)], h, by omega, by omega⟩
  | 4, _ => exact ⟨by rw [if_neg (by omega), if_neg (by omega), if_neg (by omega), if_neg (by omega)], h, by omega, by omega⟩

theorem wPart_in {k p c x : Int} (h : isPlace k p c x = true) : fits k p c = true ∧ wPart k p c x ≤ 4 ∧ inPart k p c x (wPart k p c x) := by
  unfold isPlace at h
  obtain ⟨h, h1, h2⟩ := of_decide_eq_true h
  obtain ⟨f0, f1, f2, f3, f4, f5, g0, g1, g2, g3, g4⟩ := frms h
  refine ⟨h, ?_⟩
  unfold wPart
  by_cases e1 : x < frm k p c 1
  · rw [if_pos e1]; exact ⟨by omega, by omega, by omega⟩
  · rw [if_neg e1]
    by_cases e2 : x < frm k p c 2
    · rw [if_pos e2]; exact ⟨by omega, by omega, by omega⟩
    · rw [if_neg e2]
      by_cases e3 : x < frm k p c 3
      · rw [if_pos e3]; exact ⟨by omega, by omega, by omega⟩
      · rw [if_neg e3]
        by_cases e4 : x < frm k p c 4
        · rw [if_pos e4]; exact ⟨by omega, by omega, by omega⟩
        · rw [if_neg e4]; exact ⟨by omega, by omega, by omega⟩

theorem wh_of {k p c x : Int} (h : fits k p c = true) {i : Nat} (hi : i ≤ 4) (hx : inPart k p c x i) :
    whA k p c x = i ∧ whB k p c x = (x - frm k p c i) / each k p c i ∧ whC k p c x = (x - frm k p c i) % each k p c i := by
  obtain ⟨e, h'⟩ := wPart_of h hi hx
  unfold whA whB whC
  rw [if_pos h', if_pos h', if_pos h', e]
  exact ⟨rfl, rfl, rfl⟩
theorem wh_no {k p c x : Int} (h : isPlace k p c x = false) : whA k p c x = 5 ∧ whB k p c x = 0 ∧ whC k p c x = 0 := by
  unfold whA whB whC
  rw [h]; exact ⟨rfl, rfl, rfl⟩
theorem place_no {k p c x : Int} (h : ¬ (fits k p c = true ∧ 0 ≤ x ∧ x < size k p c)) : isPlace k p c x = false := decide_eq_false h

theorem atV_ok {k p c part q : Int} (h : fits k p c = true) (h1 : 0 ≤ part ∧ part ≤ 4) (h2 : 0 ≤ q ∧ q ≤ p - 1) : atV k p c part q = frm k p c part.toNat + (if part = 0 ∨ part = 4 then 0 else q * each k p c part.toNat) ∧ atE k p c part q = 0 := by
  exact ⟨if_pos ⟨h, h1, h2⟩, (if_pos h).trans (if_pos ⟨h1, h2⟩)⟩
theorem atV_arg {k p c part q : Int} (h : fits k p c = true) (h1 : ¬ ((0 ≤ part ∧ part ≤ 4) ∧ 0 ≤ q ∧ q ≤ p - 1)) : atV k p c part q = 0 ∧ atE k p c part q = 1 := by
  unfold atV atE; rw [if_neg (fun x => h1 x.2), if_pos h, if_neg h1]; exact ⟨rfl, rfl⟩
theorem atV_conf {k p c part q : Int} (h : fits k p c = false) : atV k p c part q = 0 ∧ atE k p c part q = 5 := by
  unfold atV atE; rw [if_neg (fun x => by rw [h] at x; cases x.1), h]; exact ⟨rfl, rfl⟩

end Go.Proofs.YtdipddnnckfnmaaGreat.Reg

/- AutPlain:
  Objects as they are meant, over lists of integers: which states are right, what calls do to them and tell, and the read-out. No condition: definitions, and facts on them.
-/
namespace Go.Proofs.YtdipddnnckfnmaaGreat.Aut

/-- A state: its word, its keys, their values, its votes, whether it is closed. -/
structure St where
  reg : Int
  keys : List Int
  vals : List Int
  votes : List Int
  closed : Bool
deriving DecidableEq
/-- A call: its code, its key, its value. -/
structure Cl where
  code : Int
  key : Int
  val : Int
deriving DecidableEq
/-- An answer: its error, its value. -/
abbrev Rs := Int × Int

def I64 (x : Int) : Prop := -9223372036854775808 ≤ x ∧ x < 9223372036854775808
def U64 (x : Int) : Prop := 0 ≤ x ∧ x < 18446744073709551616
def fits (k p m : Int) : Bool := Reg.fits k p m
def zeroS : St := ⟨0, [], [], [], false⟩
def zeroC : Cl := ⟨0, 0, 0⟩
def bitZ (b : Bool) : Int := if b then 1 else 0
def keyed (k : Int) : Bool := decide (k = 2 ∨ k = 3 ∨ k = 4)
def valued (k : Int) : Bool := decide (k = 3 ∨ k = 4)
/-- By what keys are in order. -/
def ordK (k x : Int) : Int := if k = 4 then rank x else x
/-- A key, as it is meant. -/
def meantK (k x : Int) : Int := if k = 4 then canon x else x
def mayK (k x : Int) : Bool := if k = 4 then true else decide (x ≤ 4611686018427387904)
def RisingK (k : Int) (l : List Int) : Prop := l.Pairwise fun a b => ordK k a < ordK k b
instance (k : Int) (l : List Int) : Decidable (RisingK k l) := inferInstanceAs (Decidable (l.Pairwise fun a b => ordK k a < ordK k b))

def KeysOk (k m : Int) (s : St) : Prop := (s.keys.length : Int) ≤ m ∧ s.vals.length = (if valued k then s.keys.length else 0) ∧ (∀ x ∈ s.keys, meantK k x = x ∧ mayK k x = true) ∧ RisingK k s.keys
def VotesOk (m : Int) (s : St) : Prop := (s.votes.length : Int) = m ∧ ∀ v ∈ s.votes, 0 ≤ v ∧ v ≤ 8
instance (k m : Int) (s : St) : Decidable (KeysOk k m s) := by unfold KeysOk; infer_instance
instance (m : Int) (s : St) : Decidable (VotesOk m s) := by unfold VotesOk; infer_instance
/-- Nothing is there that is not the object's. -/
def ElseOk (k : Int) (s : St) : Prop := (k = 1 ∨ s.reg = 0) ∧ (keyed k = true ∨ (s.keys = [] ∧ s.vals = [])) ∧ (k = 5 ∨ (s.votes = [] ∧ s.closed = false))
instance (k : Int) (s : St) : Decidable (ElseOk k s) := by unfold ElseOk; infer_instance
def rightS (k p m : Int) (s : St) : Bool := fits k p m && (decide (ElseOk k s) && (if k = 1 then decide (canon s.reg = s.reg) else if keyed k then decide (KeysOk k m s) else decide (VotesOk m s)))
def newS (k p m : Int) : St × Int := if fits k p m then (⟨0, [], [], if k = 5 then List.replicate m.toNat 0 else [], false⟩, 0) else (zeroS, 5)

/-- How many keys are ahead of one. -/
def posK (k : Int) (l : List Int) (x : Int) : Nat := (l.takeWhile fun y => decide (ordK k y < ordK k x)).length
def hereK (l : List Int) (i : Nat) (x : Int) : Bool := decide (l[i]? = some x)
def withL (l : List Int) (i : Nat) (x : Int) : List Int := l.take i ++ x :: l.drop i
def withoutL (l : List Int) (i : Nat) : List Int := l.take i ++ l.drop (i + 1)
def tallyL (l : List Int) (x : Int) : Nat := l.countP fun v => decide (v = x)

def regS (s : St) (o : Cl) : St × Rs :=
  if o.code = 1 then (s, (0, s.reg))
  else if o.code = 2 then ({ s with reg := canon o.val }, (0, s.reg))
  else if o.code = 3 then ({ s with reg := maxOf s.reg o.val }, (0, maxOf s.reg o.val))
  else if o.code = 4 then ({ s with reg := sumOf s.reg o.val }, (0, sumOf s.reg o.val))
  else (s, (10, 0))
def nextS (s : St) (i : Nat) : St × Rs := match s.keys[i]? with
  | some y => (s, (0, y))
  | none => (s, (12, 0))
def placedS (k m : Int) (s : St) (o : Cl) (x : Int) (i : Nat) (here : Bool) : St × Rs :=
  if o.code = 7 then
    if here then (if valued k then ({ s with keys := withoutL s.keys i, vals := withoutL s.vals i }, (0, s.vals.getD i 0)) else ({ s with keys := withoutL s.keys i }, (0, 0)))
    else (s, (12, 0))
  else if o.code = 8 then nextS s (if here = true ∧ o.val ≠ 0 then i + 1 else i)
  else if o.code = 5 ∧ valued k = false then (s, (0, bitZ here))
  else if o.code = 10 ∧ valued k = true then (if here then (s, (0, s.vals.getD i 0)) else (s, (12, 0)))
  else if o.code = 6 ∧ valued k = false then
    (if here then (s, (0, 0)) else if (s.keys.length : Int) = m then (s, (11, 0)) else ({ s with keys := withL s.keys i x }, (0, 1)))
  else if o.code = 11 ∧ valued k = true then
    (if here then ({ s with vals := s.vals.set i o.val }, (0, s.vals.getD i 0)) else if (s.keys.length : Int) = m then (s, (11, 0)) else ({ s with keys := withL s.keys i x, vals := withL s.vals i o.val }, (0, 0)))
  else (s, (10, 0))
def tableS (k m : Int) (s : St) (o : Cl) : St × Rs :=
  if o.code = 9 then (s, (0, (s.keys.length : Int)))
  else if mayK k o.key = true then placedS k m s o (meantK k o.key) (posK k s.keys (meantK k o.key)) (hereK s.keys (posK k s.keys (meantK k o.key)) (meantK k o.key))
  else (s, (10, 0))
def castS (m : Int) (s : St) (o : Cl) : St × Rs :=
  if m ≤ o.key ∨ o.val < 1 ∨ 8 < o.val then (s, (10, 0))
  else if s.closed = true then (s, (14, 0))
  else if s.votes.getD o.key.toNat 0 ≠ 0 then (s, (13, 0))
  else ({ s with votes := s.votes.set o.key.toNat o.val }, (0, 0))
def ballotS (m : Int) (s : St) (o : Cl) : St × Rs :=
  if o.code = 12 then castS m s o
  else if o.code = 13 then ({ s with closed := true }, (0, bitZ (!s.closed)))
  else if o.code = 14 then (if o.key < 1 ∨ 8 < o.key then (s, (10, 0)) else (s, (0, (tallyL s.votes o.key : Int))))
  else if o.code = 15 then (if m ≤ o.key then (s, (10, 0)) else (s, (0, s.votes.getD o.key.toNat 0)))
  else if o.code = 16 then (s, (0, bitZ s.closed))
  else (s, (10, 0))
def doS (k m : Int) (s : St) (o : Cl) : St × Rs := if k = 1 then regS s o else if keyed k then tableS k m s o else ballotS m s o
def doF (k p m : Int) (s : St) (o : Cl) : St × Rs × Int :=
  if fits k p m then (if rightS k p m s then ((doS k m s o).1, (doS k m s o).2, 0) else (zeroS, (0, 0), 1)) else (zeroS, (0, 0), 5)
def readsS (c : Int) : Bool := decide (c = 1 ∨ c = 5 ∨ c = 8 ∨ c = 9 ∨ c = 10 ∨ c = 14 ∨ c = 15 ∨ c = 16)

/-! The read-out. -/

def everyK (k : Int) : Nat := if valued k then 2 else 1
/-- A key is no key. -/
def overK (k : Int) (l : List Rs) : Prop := ∃ (i : Nat) (r : Rs), i % everyK k = 0 ∧ l[i]? = some r ∧ r.1 ≠ 0
instance (k : Int) (l : List Rs) : Decidable (overK k l) := decidable_of_iff ((List.range l.length).any fun i => decide (i % everyK k = 0 ∧ (l.getD i (0, 0)).1 ≠ 0)) (by
  rw [List.any_eq_true]
  constructor
  · rintro ⟨i, hi, h⟩
    have hl := List.mem_range.1 hi
    obtain ⟨h1, h2⟩ := of_decide_eq_true h
    rw [List.getD_eq_getElem?_getD, List.getElem?_eq_getElem hl] at h2
    exact ⟨i, l[i], h1, List.getElem?_eq_getElem hl, h2⟩
  · rintro ⟨i, r, h1, h2, h3⟩
    have hl := (List.getElem?_eq_some_iff.1 h2).1
    exact ⟨i, List.mem_range.2 hl, decide_eq_true ⟨h1, by rw [List.getD_eq_getElem?_getD, h2]; exact h3⟩⟩)
def probedS (k : Int) (l : List Rs) : Cl × Bool :=
  if overK k l then (zeroC, false)
  else if l = [] then (⟨8, if k = 4 then 18442240474082181120 else 0, 0⟩, true)
  else if l.length % everyK k = 1 then (⟨10, (l.getD (l.length - 1) (0, 0)).2, 0⟩, true)
  else (⟨8, (l.getD (l.length - everyK k) (0, 0)).2, 1⟩, true)
def probeS (k p m : Int) (l : List Rs) : Cl × Bool :=
  if fits k p m = false then (zeroC, false)
  else if keyed k then probedS k l
  else if k = 1 then (if 0 < l.length then (zeroC, false) else (⟨1, 0, 0⟩, true))
  else if l.length = 0 then (⟨16, 0, 0⟩, true)
  else if l.length ≤ 8 then (⟨14, (l.length : Int), 0⟩, true)
  else if (l.length : Int) ≤ 8 + m then (⟨15, (l.length : Int) - 9, 0⟩, true)
  else (zeroC, false)
/-- Keys and values, one behind the other. -/
def pairsL : List Int → List Int → List Rs
  | k :: ks, v :: vs => (0, k) :: (0, v) :: pairsL ks vs
  | _, _ => []
def outS (k : Int) (s : St) : List Rs :=
  if k = 1 then [(0, s.reg)]
  else if keyed k then (if valued k then pairsL s.keys s.vals else s.keys.map fun x => (0, x)) ++ [(12, 0)]
  else (0, bitZ s.closed) :: ((List.range 8).map fun i : Nat => ((0, (tallyL s.votes ((i : Int) + 1) : Int)) : Rs)) ++ s.votes.map fun v => (0, v)
def outF (k p m : Int) (s : St) : List Rs × Int := if fits k p m then (if rightS k p m s then (outS k s, 0) else ([], 1)) else ([], 5)
/-- What may stand in a vote. -/
def voteOf (v : Int) : Int := if v ≤ 8 then v else 9
/-- Every other one, but the last. -/
def evens : List Rs → List Int
  | a :: _ :: c :: r => a.2 :: evens (c :: r)
  | _ => []
def odds : List Rs → List Int
  | _ :: b :: c :: r => b.2 :: odds (c :: r)
  | _ => []
def readS (k m : Int) (l : List Rs) : St :=
  if k = 1 then { zeroS with reg := (l.getD 0 (0, 0)).2 }
  else if keyed k then (if valued k then { zeroS with keys := evens l, vals := odds l } else { zeroS with keys := l.dropLast.map (·.2) })
  else { zeroS with closed := decide ((l.getD 0 (0, 0)).2 = 1), votes := ((l.drop 9).take m.toNat).map fun r => voteOf r.2 }
def seenF (k p m : Int) (l : List Rs) : St × Bool :=
  if fits k p m = true ∧ l ≠ [] ∧ rightS k p m (readS k m l) = true ∧ outS k (readS k m l) = l then (readS k m l, true) else (zeroS, false)

/-! Facts. -/

/-- All its numbers are words, or ints. -/
def Wd (s : St) : Prop := U64 s.reg ∧ (∀ x ∈ s.keys, U64 x) ∧ (∀ x ∈ s.vals, U64 x) ∧ ∀ x ∈ s.votes, I64 x
def Wc (o : Cl) : Prop := I64 o.code ∧ U64 o.key ∧ U64 o.val

theorem fits_of {k p m : Int} (h : fits k p m = true) : 1 ≤ k ∧ k ≤ 5 ∧ 1 ≤ p ∧ p ≤ 16 ∧ 1 ≤ m ∧ m ≤ 256 := Reg.fits_of h
theorem right_fits {k p m : Int} {s : St} (h : rightS k p m s = true) : fits k p m = true := by
  unfold rightS at h; rw [Bool.and_eq_true] at h; exact h.1
theorem right_iff {k p m : Int} {s : St} : rightS k p m s = true ↔ fits k p m = true ∧ ElseOk k s ∧ (k = 1 → canon s.reg = s.reg) ∧ (keyed k = true → KeysOk k m s) ∧ (k = 5 → VotesOk m s) := by
  unfold rightS
  rw [Bool.and_eq_true, Bool.and_eq_true, decide_eq_true_iff]
  refine and_congr_right fun hf => and_congr_right fun _ => ?_
  have hk := fits_of hf
  by_cases h1 : k = 1
  · rw [if_pos h1, decide_eq_true_iff]
    have h2 : keyed k = false := by unfold keyed; exact decide_eq_false (by omega)
    rw [h2]; simp [h1]
  · rw [if_neg h1]
    by_cases h2 : keyed k = true
    · rw [if_pos h2, decide_eq_true_iff]
      have : k ≠ 5 := by unfold keyed at h2; have := of_decide_eq_true h2; omega
      simp [h1, h2, this]
    · rw [if_neg h2, decide_eq_true_iff]
      have : k = 5 := by
        have h2' : ¬ (k = 2 ∨ k = 3 ∨ k = 4) := fun h => h2 (decide_eq_true h)
        omega
      exact ⟨fun h => ⟨fun e => absurd e h1, fun e => absurd e h2, fun _ => h⟩, fun h => h.2.2 this⟩

/-- Where a key is, or would be. -/
theorem pos_le (k : Int) (l : List Int) (x : Int) : posK k l x ≤ l.length := by
  unfold posK; exact (List.takeWhile_prefix _).length_le
theorem pos_low {k : Int} {l : List Int} {x : Int} : ∀ (j : Nat) y, j < posK k l x → l[j]? = some y → ordK k y < ordK k x := fun j y hj hy => by
  unfold posK at hj
  have hp := List.takeWhile_prefix (fun y => decide (ordK k y < ordK k x)) (l := l)
  have e : (l.takeWhile fun y => decide (ordK k y < ordK k x))[j]? = some y := by
    rw [List.prefix_iff_eq_take] at hp
    rw [hp, List.getElem?_take, if_pos hj]; exact hy
  have := List.all_takeWhile (p := fun y => decide (ordK k y < ordK k x)) (l := l)
  rw [List.all_eq_true] at this
  exact of_decide_eq_true (this y (List.mem_of_getElem? e))
theorem pos_at {k : Int} {l : List Int} {x : Int} : ∀ y, l[posK k l x]? = some y → ¬ ordK k y < ordK k x := fun y hy => by
  induction l with
  | nil => simp at hy
  | cons z r ih =>
    unfold posK at hy ih
    rw [List.takeWhile_cons] at hy
    by_cases h : ordK k z < ordK k x
    · rw [if_pos (decide_eq_true h), List.length_cons, List.getElem?_cons_succ] at hy; exact ih hy
    · rw [if_neg (by simpa using h)] at hy; simp at hy; subst hy; exact h
theorem RisingK.lt {k : Int} {l : List Int} (h : RisingK k l) {i j : Nat} {x y : Int} (hi : l[i]? = some x) (hj : l[j]? = some y) (hij : i < j) : ordK k x < ordK k y := by
  obtain ⟨hil, rfl⟩ := List.getElem?_eq_some_iff.1 hi
  obtain ⟨hjl, rfl⟩ := List.getElem?_eq_some_iff.1 hj
  exact List.pairwise_iff_getElem.1 h i j hil hjl hij
theorem pos_high {k : Int} {l : List Int} {x : Int} (h : RisingK k l) : ∀ (j : Nat) y, posK k l x ≤ j → l[j]? = some y → ¬ ordK k y < ordK k x := fun j y hj hy => by
  have hl := (List.getElem?_eq_some_iff.1 hy).1
  have h0 : l[posK k l x]? = some (l[posK k l x]'(by omega)) := List.getElem?_eq_getElem (by omega)
  have h1 := pos_at _ h0
  by_cases e : posK k l x = j
  · subst e; rw [h0] at hy; cases hy; exact h1
  · have := h.lt h0 hy (by omega); omega
/-- It is so at one place alone. -/
theorem pos_eq {k : Int} {l : List Int} {x : Int} {i : Nat} (hi : i ≤ l.length) (h1 : ∀ (j : Nat) y, j < i → l[j]? = some y → ordK k y < ordK k x) (h2 : ∀ y, l[i]? = some y → ¬ ordK k y < ordK k x) : posK k l x = i := by
  rcases Nat.lt_trichotomy (posK k l x) i with c | c | c
  · have h0 : l[posK k l x]? = some (l[posK k l x]'(by omega)) := List.getElem?_eq_getElem (by omega)
    exact absurd (h1 _ _ c h0) (pos_at _ h0)
  · exact c
  · have hl := pos_le k l x
    have h0 : l[i]? = some (l[i]'(by omega)) := List.getElem?_eq_getElem (by omega)
    exact absurd (pos_low i _ c h0) (h2 _ h0)

theorem ord_inj {k x y : Int} (hx : U64 x) (hy : U64 y) (mx : meantK k x = x) (my : meantK k y = y) (h : ordK k x = ordK k y) : x = y := by
  unfold ordK at h
  unfold meantK at mx my
  by_cases c : k = 4
  · rw [if_pos c] at mx my; rw [if_pos c, if_pos c] at h
    rw [rank_inj x y hx.1 hx.2 hy.1 hy.2, mx, my] at h; exact h
  · rw [if_neg c, if_neg c] at h; exact h
theorem meant_meant (k x : Int) : meantK k (meantK k x) = meantK k x := by
  unfold meantK
  by_cases c : k = 4
  · rw [if_pos c, if_pos c, canon_canon]
  · rw [if_neg c, if_neg c]
theorem meant_u {k x : Int} (h : U64 x) : U64 (meantK k x) := by
  unfold meantK
  split
  · exact ⟨canon_lo x h.1, canon_hi x h.2⟩
  · exact h
theorem ord_meant {k x : Int} (h : U64 x) : ordK k (meantK k x) = ordK k x := by
  unfold ordK meantK
  by_cases c : k = 4
  · rw [if_pos c, if_pos c, if_pos c]
    exact (rank_inj _ _ (canon_lo x h.1) (canon_hi x h.2) h.1 h.2).2 (canon_canon x)
  · rw [if_neg c, if_neg c, if_neg c]

/-- Whether a key is there. -/
theorem here_iff {k : Int} {l : List Int} {x : Int} (hr : RisingK k l) : hereK l (posK k l x) x = true ↔ x ∈ l := by
  unfold hereK
  rw [decide_eq_true_iff]
  constructor
  · exact fun h => List.mem_of_getElem? h
  · intro h
    obtain ⟨j, hj⟩ := List.mem_iff_getElem?.1 h
    have : posK k l x = j := pos_eq (Nat.le_of_lt (List.getElem?_eq_some_iff.1 hj).1) (fun i y hi hy => hr.lt hy hj hi) (fun y hy => by rw [hj] at hy; cases hy; omega)
    rw [this]; exact hj
theorem pos_here {k : Int} {l : List Int} {x : Int} {j : Nat} (hr : RisingK k l) (hj : l[j]? = some x) : posK k l x = j :=
  pos_eq (Nat.le_of_lt (List.getElem?_eq_some_iff.1 hj).1) (fun i y hi hy => hr.lt hy hj hi) (fun y hy => by rw [hj] at hy; cases hy; omega)

theorem with_get (l : List Int) (i : Nat) (x : Int) (hi : i ≤ l.length) (j : Nat) : (withL l i x)[j]? = if j < i then l[j]? else if j = i then some x else l[j - 1]? := by
  unfold withL
  by_cases h1 : j < i
  · rw [List.getElem?_append_left (by simp; omega), List.getElem?_take, if_pos h1, if_pos h1]
  · rw [List.getElem?_append_right (by simp; omega), if_neg h1]
    have e : j - (l.take i).length = j - i := by simp; omega
    rw [e]
    by_cases h2 : j = i
    · rw [if_pos h2, h2, Nat.sub_self]; rfl
    · rw [if_neg h2, show j - i = (j - i - 1) + 1 by omega, List.getElem?_cons_succ, List.getElem?_drop, show i + (j - i - 1) = j - 1 by omega]
theorem with_len (l : List Int) (i : Nat) (x : Int) (hi : i ≤ l.length) : (withL l i x).length = l.length + 1 := by unfold withL; simp; omega
theorem mem_with {l : List Int} {i : Nat} {x y : Int} : y ∈ withL l i x ↔ y = x ∨ y ∈ l := by
  unfold withL
  rw [List.mem_append, List.mem_cons]
  constructor
  · rintro (h | h | h)
    · exact .inr (List.mem_of_mem_take h)
    · exact .inl h
    · exact .inr (List.mem_of_mem_drop h)
  · rintro (h | h)
    · exact .inr (.inl h)
    · rw [← List.take_append_drop i l, List.mem_append] at h
      rcases h with h | h
      · exact .inl h
      · exact .inr (.inr h)
theorem without_len (l : List Int) (i : Nat) (hi : i < l.length) : (withoutL l i).length = l.length - 1 := by unfold withoutL; simp; omega
theorem mem_without {l : List Int} {i : Nat} {y : Int} (h : y ∈ withoutL l i) : y ∈ l := by
  unfold withoutL at h
  rw [List.mem_append] at h
  rcases h with h | h
  · exact List.mem_of_mem_take h
  · exact List.mem_of_mem_drop h
theorem without_get (l : List Int) (i : Nat) (j : Nat) (hi : i ≤ l.length) : (withoutL l i)[j]? = if j < i then l[j]? else l[j + 1]? := by
  unfold withoutL
  by_cases h1 : j < i
  · rw [List.getElem?_append_left (by simp; omega), List.getElem?_take, if_pos h1, if_pos h1]
  · rw [List.getElem?_append_right (by simp; omega), if_neg h1, List.getElem?_drop]
    congr 1
    simp; omega
theorem with_without (l : List Int) (i : Nat) (x : Int) (hi : i ≤ l.length) : withoutL (withL l i x) i = l := by
  apply List.ext_getElem?
  intro j
  rw [without_get _ _ _ (by rw [with_len _ _ _ hi]; omega), with_get _ _ _ hi, with_get _ _ _ hi]
  by_cases h : j < i
  · rw [if_pos h, if_pos h]
  · rw [if_neg h, if_neg (by omega), if_neg (by omega), Nat.add_sub_cancel]
theorem rising_iff {k : Int} {l : List Int} : RisingK k l ↔ ∀ (i j : Nat) x y, i < j → l[i]? = some x → l[j]? = some y → ordK k x < ordK k y := by
  constructor
  · exact fun h i j x y hij hi hj => h.lt hi hj hij
  · exact fun h => List.pairwise_iff_getElem.2 fun i j hi hj hij => h i j _ _ hij (List.getElem?_eq_getElem hi) (List.getElem?_eq_getElem hj)
theorem rising_with {k : Int} {l : List Int} {x : Int} (hr : RisingK k l) (hu : ∀ y ∈ l, U64 y ∧ meantK k y = y) (hx : U64 x) (mx : meantK k x = x) (hn : hereK l (posK k l x) x = false) : RisingK k (withL l (posK k l x) x) := by
  have hle := pos_le k l x
  have hne : ∀ (j : Nat) y, posK k l x ≤ j → l[j]? = some y → ordK k x < ordK k y := fun j y hj hy => by
    have h1 := pos_high hr j y hj hy
    have h2 : ordK k x ≠ ordK k y := fun e => by
      have := ord_inj hx (hu y (List.mem_of_getElem? hy)).1 mx (hu y (List.mem_of_getElem? hy)).2 e
      subst this
      have := (here_iff hr).2 (List.mem_of_getElem? hy)
      rw [hn] at this; cases this
    omega
  refine rising_iff.2 fun i j a b hij hi hj => ?_
  rw [with_get _ _ _ hle] at hi hj
  split at hi
  · rename_i c1
    split at hj
    · exact hr.lt hi hj hij
    · split at hj
      · cases hj; exact pos_low i a c1 hi
      · exact hr.lt hi hj (by omega)
  · split at hi
    · cases hi
      rw [if_neg (by omega), if_neg (by omega)] at hj
      exact hne _ _ (by omega) hj
    · rw [if_neg (by omega), if_neg (by omega)] at hj
      exact hr.lt hi hj (by omega)
theorem rising_without {k : Int} {l : List Int} {i : Nat} (hr : RisingK k l) : RisingK k (withoutL l i) := by
  unfold withoutL RisingK
  have h : (l.take i ++ l.drop (i + 1)).Sublist l := by
    have h1 := (List.Sublist.refl (l.take i)).append (List.drop_sublist 1 (l.drop i))
    rw [List.take_append_drop, List.drop_drop] at h1
    exact h1
  exact List.Pairwise.sublist h hr

end Go.Proofs.YtdipddnnckfnmaaGreat.Aut

/- FltCalls:
  What each function of package flt returns, in whatever world, for words: integers from 0 to less than 2^64 (the one condition). Each call leaves the world alone, but that Sum may draw a NaN's bits.
-/
namespace Go.Proofs.YtdipddnnckfnmaaGreat

theorem ret_u64 {k : IntKind} {a b : Int} (h : a = b) : Ending.returned (.int k a) = .returned (.int k b) := by rw [h]

set_option maxHeartbeats 400000 in
theorem isNaN_any (x : Int) (w : World) (h0 : 0 ≤ x) (h1 : x < 18446744073709551616) :
    Calls Tryz.prog 101 #[.int .u64 x] w fun e w' => e = .returned (.bool (isNan x)) ∧ w = w' := by
  have hb := andNot_sign x h0 h1
  go_enter Tryz.func101, Tryz.ntmps101
  go_wp2
  go_ret
  exact ⟨rfl, rfl⟩

set_option maxHeartbeats 400000 in
theorem canon_any (x : Int) (w : World) (h0 : 0 ≤ x) (h1 : x < 18446744073709551616) :
    Calls Tryz.prog 97 #[.int .u64 x] w fun e w' => e = .returned (.int .u64 (canon x)) ∧ w = w' := by
  by_cases hn : isNan x = true
  · have hc : RowKit.Hid (canon x = 9221120237041090561) := Lib.hid (by simp only [isNan, decide_eq_true_eq] at hn; unfold canon; rw [if_pos hn])
    go_enter Tryz.func97, Tryz.ntmps97
    go_wp2_with (go_at_call 101; with_reducible refine (isNaN_any _ _ (by omega) (by omega)).mono ?_; rintro e w' ⟨rfl, rfl⟩)
    go_ret
    exact ⟨ret_u64 hc.out.symm, rfl⟩
  · have hn' : isNan x = false := by simpa using hn
    by_cases hz : (x == 9223372036854775808) = true
    · have hc : RowKit.Hid (canon x = 0) := Lib.hid (by simp only [isNan, decide_eq_true_eq] at hn; unfold canon; rw [if_neg hn, if_pos (by simpa using hz)])
      clear hn
      go_enter Tryz.func97, Tryz.ntmps97
      go_wp2_with (go_at_call 101; with_reducible refine (isNaN_any _ _ (by omega) (by omega)).mono ?_; rintro e w' ⟨rfl, rfl⟩)
      go_ret
      exact ⟨ret_u64 hc.out.symm, rfl⟩
    · have hz' : (x == 9223372036854775808) = false := by simpa using hz
      have hc : RowKit.Hid (canon x = x) := Lib.hid (by simp only [isNan, decide_eq_true_eq] at hn; unfold canon; rw [if_neg hn, if_neg (by simpa using hz)])
      clear hn hz
      go_enter Tryz.func97, Tryz.ntmps97
      go_wp2_with (go_at_call 101; with_reducible refine (isNaN_any _ _ (by omega) (by omega)).mono ?_; rintro e w' ⟨rfl, rfl⟩)
      go_ret
      exact ⟨ret_u64 hc.out.symm, rfl⟩

set_option maxHeartbeats 400000 in
theorem rank_any (x : Int) (w : World) (h0 : 0 ≤ x) (h1 : x < 18446744073709551616) :
    Calls Tryz.prog 105 #[.int .u64 x] w fun e w' => e = .returned (.int .u64 (rank x)) ∧ w = w' := by
  have c0 := canon_lo x h0
  have c1 := canon_hi x h1
  have ha := and_sign (canon x) c0 c1
  by_cases hs : 9223372036854775808 ≤ canon x
  · rw [if_pos hs] at ha
    have hr : RowKit.Hid (rank x = 18446744073709551615 - canon x) := Lib.hid (by unfold rank; rw [if_pos hs])
    have hn := not_word (canon x) c0 c1
    go_enter Tryz.func105, Tryz.ntmps105
    go_wp2_with (go_at_call 97; with_reducible refine (canon_any _ _ (by omega) (by omega)).mono ?_; rintro e w' ⟨rfl, rfl⟩)
    go_ret
    exact ⟨ret_u64 hr.out.symm, rfl⟩
  · rw [if_neg hs] at ha
    have hr : RowKit.Hid (rank x = canon x + 9223372036854775808) := Lib.hid (by unfold rank; rw [if_neg hs])
    have hn := or_sign (canon x) c0 (by omega)
    go_enter Tryz.func105, Tryz.ntmps105
    go_wp2_with (go_at_call 97; with_reducible refine (canon_any _ _ (by omega) (by omega)).mono ?_; rintro e w' ⟨rfl, rfl⟩)
    go_ret
    exact ⟨ret_u64 hr.out.symm, rfl⟩

theorem rank_lo (x : Int) (h0 : 0 ≤ x) (h1 : x < 18446744073709551616) : 0 ≤ rank x := by
  have c0 := canon_lo x h0
  have c1 := canon_hi x h1
  unfold rank; split <;> omega

theorem rank_hi (x : Int) (h0 : 0 ≤ x) (h1 : x < 18446744073709551616) : rank x < 18446744073709551616 := by
  have c0 := canon_lo x h0
  have c1 := canon_hi x h1
  unfold rank; split <;> omega

set_option maxHeartbeats 400000 in
theorem less_any (x y : Int) (w : World) (h0 : 0 ≤ x) (h1 : x < 18446744073709551616) (g0 : 0 ≤ y) (g1 : y < 18446744073709551616) :
    Calls Tryz.prog 102 #[.int .u64 x, .int .u64 y] w fun e w' => e = .returned (.bool (less x y)) ∧ w = w' := by
  go_enter Tryz.func102, Tryz.ntmps102
  go_wp2_with (go_at_call 105; with_reducible refine (rank_any _ _ (by omega) (by omega)).mono ?_; rintro e w' ⟨rfl, rfl⟩)
  go_ret
  exact ⟨rfl, rfl⟩

set_option maxHeartbeats 400000 in
theorem max_any (x y : Int) (w : World) (h0 : 0 ≤ x) (h1 : x < 18446744073709551616) (g0 : 0 ≤ y) (g1 : y < 18446744073709551616) :
    Calls Tryz.prog 98 #[.int .u64 x, .int .u64 y] w fun e w' => e = .returned (.int .u64 (maxOf x y)) ∧ w = w' := by
  by_cases hl : less x y = true
  · have hr : RowKit.Hid (maxOf x y = canon y) := Lib.hid (by simp only [less, decide_eq_true_eq] at hl; unfold maxOf; rw [if_pos hl])
    go_enter Tryz.func98, Tryz.ntmps98
    go_wp2_with (first | (go_at_call 102; with_reducible refine (less_any _ _ _ (by omega) (by omega) (by omega) (by omega)).mono ?_; rintro e w' ⟨rfl, rfl⟩) | (go_at_call 97; with_reducible refine (canon_any _ _ (by omega) (by omega)).mono ?_; rintro e w' ⟨rfl, rfl⟩))
    go_ret
    exact ⟨ret_u64 hr.out.symm, rfl⟩
  · have hr : RowKit.Hid (maxOf x y = canon x) := Lib.hid (by simp only [less, decide_eq_true_eq] at hl; unfold maxOf; rw [if_neg hl])
    have hl' : less x y = false := by simpa using hl
    clear hl
    go_enter Tryz.func98, Tryz.ntmps98
    go_wp2_with (first | (go_at_call 102; with_reducible refine (less_any _ _ _ (by omega) (by omega) (by omega) (by omega)).mono ?_; rintro e w' ⟨rfl, rfl⟩) | (go_at_call 97; with_reducible refine (canon_any _ _ (by omega) (by omega)).mono ?_; rintro e w' ⟨rfl, rfl⟩))
    go_ret
    exact ⟨ret_u64 hr.out.symm, rfl⟩

theorem unrank_lo (x : Int) (h1 : x < 18446744073709551616) : 0 ≤ unrank x := by unfold unrank; split <;> omega

theorem unrank_hi (x : Int) (h0 : 0 ≤ x) (h1 : x < 18446744073709551616) : unrank x < 18446744073709551616 := by unfold unrank; split <;> omega


theorem ret_pair {k : IntKind} {a b : Int} {p q : Bool} (h : a = b) (g : p = q) : Ending.returned (.tuple #[.int k a, .bool p]) = .returned (.tuple #[.int k b, .bool q]) := by rw [h, g]


end Go.Proofs.YtdipddnnckfnmaaGreat

/- FltSum:
  What flt.Sum returns, in whatever world, for two words from 0 to less than 2^64: Canon of the model's own sum of the two floats; a NaN where there is none. The world is as it was, but that a NaN's bits may have been drawn.
-/
namespace Go.Proofs.YtdipddnnckfnmaaGreat

theorem run_from (x : Int) (w : World) : (callFunc 104 #[.int .u64 x]).run Tryz.prog w = .ok (.value (.float .f64 x.toNat)) w := by
  rw [run_callFunc_extern Tryz.func104 (by kernel_rfl) (by kernel_rfl) (by kernel_rfl) (e := Extern.MathFloatBits.float64frombits) (by kernel_rfl)]
  rfl

theorem run_bits (x : Nat) (w : World) : (callFunc 103 #[.float .f64 x]).run Tryz.prog w = .ok (.value (.int .u64 (x : Int))) w := by
  rw [run_callFunc_extern Tryz.func103 (by kernel_rfl) (by kernel_rfl) (by kernel_rfl) (e := Extern.MathFloatBits.float64bits) (by kernel_rfl)]
  rfl

/-- A NaN's bits, as the tape gives them. -/
theorem run_add_none (t : TypeId) (x y : Nat) (w : World) (h : Ieee.double.add x y = none) :
    ∃ r : Nat, r < 18446744073709551616 ∧ canon (r : Int) = 9221120237041090561 ∧ (binOp .add t (.float .f64 x) (.float .f64 y)).run Tryz.prog w = .ok (.float .f64 r) w.drew := by
  refine ⟨Question.cut (.nanBits .f64 x y) (w.tape w.drawn (.nanBits .f64 x y)), ?_, ?_, ?_⟩
  · simp only [Question.cut]; omega
  · simp only [Question.cut]
    generalize w.tape w.drawn (.nanBits .f64 x y) = t
    have h1 : t % 2 = 0 ∨ t % 2 = 1 := by omega
    have h2 : t / 2 % (2 ^ 52 - 1) < 2 ^ 52 - 1 := Nat.mod_lt _ (by decide)
    generalize t / 2 % (2 ^ 52 - 1) = u at h2 ⊢
    unfold canon
    rw [if_pos]
    rcases h1 with h1 | h1 <;> rw [h1] <;> omega
  · have h' : FloatKind.f64.format.add x y = none := h
    simp [binOp, Op.floatArith, h', Question.forced]

theorem add_lt (x y : Nat) (r : Nat) (h : Ieee.double.add x y = some r) : r < 18446744073709551616 := Ieee.Format.add_lt Ieee.double h

theorem addWord_lo (x y : Int) : 0 ≤ addWord x y := by unfold addWord; split <;> omega

theorem addWord_hi (x y : Int) : addWord x y < 18446744073709551616 := by
  unfold addWord; split
  · rename_i r h; have := add_lt _ _ _ h; omega
  · omega

theorem sum_lo (x y : Int) : 0 ≤ sumOf x y := canon_lo _ (addWord_lo x y)

theorem sum_hi (x y : Int) : sumOf x y < 18446744073709551616 := canon_hi _ (addWord_hi x y)

set_option maxHeartbeats 400000 in
theorem sum_any (x y : Int) (w : World) :
    Calls Tryz.prog 99 #[.int .u64 x, .int .u64 y] w fun e w' => e = .returned (.int .u64 (sumOf x y)) ∧ ∃ n, w' = w.drewN n := by
  have h29 := run_from
  have h28 := run_bits
  rcases hA : Ieee.double.add x.toNat y.toNat with _ | r
  · obtain ⟨r, hr, hc, hrun⟩ := run_add_none 142 x.toNat y.toNat w hA
    have H : RowKit.Hid (sumOf x y = canon (r : Int)) := Lib.hid (by unfold sumOf addWord; rw [hA]; simp only; rw [hc]; rfl)
    clear hA hc
    go_enter Tryz.func99, Tryz.ntmps99
    go_wp2_with (go_at_call 97; with_reducible refine (canon_any _ _ (by omega) (by omega)).mono ?_; rintro e w' ⟨rfl, rfl⟩)
    go_ret
    exact ⟨ret_u64 H.out.symm, 1, rfl⟩
  · have hr := add_lt _ _ _ hA
    have hrun := run_float_arith (P := Tryz.prog) w .add 142 .f64 x.toNat y.toNat r hA
    have H : RowKit.Hid (sumOf x y = canon (r : Int)) := Lib.hid (by unfold sumOf addWord; rw [hA])
    clear hA
    go_enter Tryz.func99, Tryz.ntmps99
    go_wp2_with (go_at_call 97; with_reducible refine (canon_any _ _ (by omega) (by omega)).mono ?_; rintro e w' ⟨rfl, rfl⟩)
    go_ret
    exact ⟨ret_u64 H.out.symm, 0, rfl⟩

end Go.Proofs.YtdipddnnckfnmaaGreat

