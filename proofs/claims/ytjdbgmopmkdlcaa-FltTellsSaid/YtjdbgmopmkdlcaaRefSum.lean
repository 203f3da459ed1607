/-
  The document's own Sum returns what the model's sum of the two floats is, Canon of it, in whatever world, for two words from 0 to less than 2^64 (the one condition).
-/
import Derived.Test.YtjdbgmopmkdlcaaMade
import Derived.Test.YtjdbgmopmkdlcaaOpp
import Derived.Test.YtjdbgmopmkdlcaaSum
namespace Go.Proofs.Ytjdbgmopmkdlcaa
open Go.RowKit

def eN (g : Nat) : Nat := if g < 4503599627370496 then 1 else g / 4503599627370496
def mN (g : Nat) : Nat := if g < 4503599627370496 then 8 * g else 8 * (4503599627370496 + g % 4503599627370496)

theorem wholeE_nat (x : Int) : wholeE x = ((eN (x % 9223372036854775808).toNat : Nat) : Int) := by
  unfold wholeE eN; split <;> split <;> omega

theorem wholeM_nat (x : Int) : wholeM x = ((mN (x % 9223372036854775808).toNat : Nat) : Int) := by
  unfold wholeM mN; split <;> split <;> omega

theorem eN_pos (g : Nat) : 1 ≤ eN g := by unfold eN; split <;> omega

theorem eN_mono {g h : Nat} (c : g ≤ h) : eN g ≤ eN h := by unfold eN; split <;> split <;> omega

theorem eN_le (g : Nat) (c : g < 9218868437227405312) : eN g ≤ 2046 := by unfold eN; split <;> omega

theorem mN_lt (g : Nat) : mN g < 72057594037927936 := by unfold mN; split <;> omega

theorem mN_big (g : Nat) (c : eN g ≠ 1) : 36028797018963968 ≤ mN g := by unfold eN mN at *; split at c <;> split <;> omega

theorem mN_eight (g : Nat) : ∃ t, mN g = 8 * t := by unfold mN; split <;> exact ⟨_, rfl⟩

theorem mag_whole (g : Nat) : 8 * magOf g = mN g * 2 ^ (eN g - 1) := by
  unfold magOf mN eN
  have e : (2 : Nat) ^ 52 = 4503599627370496 := rfl
  rw [e]
  split
  · simp
  · rw [Nat.mul_assoc]

/-- A greater and a smaller size, their eighths. -/
theorem kept_add (g h : Nat) (c : h ≤ g) : Kept (magOf g + magOf h) (eN g) (mN g + jam (mN h) (eN g - eN h)) ∧ mN g + jam (mN h) (eN g - eN h) < 144115188075855872 := by
  have e1 := eN_pos g
  have e2 := eN_pos h
  have e3 := eN_mono c
  have b1 := mN_lt g
  have b2 := mN_lt h
  have b3 := jam_le (mN h) (eN g - eN h)
  obtain ⟨t, ht⟩ := mN_eight g
  refine ⟨⟨?_, ?_⟩, by omega⟩
  · rw [Nat.mul_add, mag_whole g, mag_whole h, ht, show 8 * t = 2 * (4 * t) from by omega, jam_add]
    have s := jam_scale (mN h) (eN g - eN h) (eN h - 1)
    rw [show eN g - eN h + (eN h - 1) = eN g - 1 from by omega] at s
    rw [s]
  · by_cases z : eN g = 1
    · rw [z]; exact Or.inl (by rw [Nat.sub_self, Nat.pow_zero, Nat.mod_one])
    · have := mN_big g z; exact Or.inr (by omega)

theorem mag_le {g h : Nat} (c : h ≤ g) : magOf h ≤ magOf g := by
  rcases Nat.lt_or_ge h g with d | d
  · exact Nat.le_of_lt (mag_mono d)
  · have : g = h := by omega
    subst this; exact Nat.le_refl _

theorem pow_dvd {a b : Nat} (h : a ≤ b) : 2 ^ a ∣ 2 ^ b := Nat.pow_dvd_pow 2 h

theorem kept_sub (g h : Nat) (c : h ≤ g) : Kept (magOf g - magOf h) (eN g) (mN g - jam (mN h) (eN g - eN h)) ∧ jam (mN h) (eN g - eN h) ≤ mN g ∧ mN g - jam (mN h) (eN g - eN h) < 144115188075855872 := by
  have e1 := eN_pos g
  have e2 := eN_pos h
  have e3 := eN_mono c
  have b1 := mN_lt g
  have b2 := mN_lt h
  have b4 := mag_le c
  have w1 := mag_whole g
  have w2 := mag_whole h
  have s := jam_scale (mN h) (eN g - eN h) (eN h - 1)
  rw [show eN g - eN h + (eN h - 1) = eN g - 1 from by omega] at s
  obtain ⟨t, ht⟩ := mN_eight g
  obtain ⟨u, hu⟩ := mN_eight h
  have le : mN h * 2 ^ (eN h - 1) ≤ mN g * 2 ^ (eN g - 1) := by omega
  have js : jam (8 * (magOf g - magOf h)) (eN g - 1) = mN g - jam (mN h) (eN g - eN h) := by
    rw [Nat.mul_sub, w1, w2, ht, show 8 * t = 2 * (4 * t) from by omega]
    rw [ht, show 8 * t = 2 * (4 * t) from by omega] at le
    rw [jam_sub _ _ _ le, s]
  have jl : jam (mN h) (eN g - eN h) ≤ mN g := by
    rw [← s]
    rcases Nat.lt_or_ge (mN g) (jam (mN h * 2 ^ (eN h - 1)) (eN g - 1)) with z | z
    · exfalso
      have q := (jam_lt_iff (mN h * 2 ^ (eN h - 1)) (eN g - 1) (4 * t)).2
      have q2 := (jam_lt_iff (mN h * 2 ^ (eN h - 1)) (eN g - 1) (4 * t + 1))
      have p := Nat.two_pow_pos (eN g - 1)
      rw [ht] at z le
      rw [show 2 * (4 * t) = 8 * t from by omega] at q
      rw [show 2 * (4 * t + 1) = 8 * t + 2 from by omega] at q2
      rcases Nat.lt_or_ge (mN h * 2 ^ (eN h - 1)) (8 * t * 2 ^ (eN g - 1)) with y | y
      · have := q y; omega
      · have e : mN h * 2 ^ (eN h - 1) = 8 * t * 2 ^ (eN g - 1) := by omega
        rw [e, jam_exact] at z; omega
    · exact z
  refine ⟨⟨js.symm, ?_⟩, jl, by omega⟩
  by_cases z : eN g = 1
  · rw [z]; exact Or.inl (by rw [Nat.sub_self, Nat.pow_zero, Nat.mod_one])
  · have big := mN_big g z
    by_cases d : eN g - eN h ≤ 1
    · left
      apply Nat.mod_eq_zero_of_dvd
      rw [Nat.mul_sub, w1, w2]
      apply Nat.dvd_sub
      · exact Nat.dvd_mul_left _ _
      · rw [hu, show 8 * u * 2 ^ (eN h - 1) = u * 2 ^ (eN h - 1 + 3) from by rw [Nat.pow_add, Nat.mul_comm 8 u, Nat.mul_assoc, Nat.mul_comm 8]]
        exact Nat.dvd_trans (pow_dvd (by omega)) (Nat.dvd_mul_left _ _)
    · right
      have p : 4 ≤ 2 ^ (eN g - eN h) := by
        have := Nat.pow_le_pow_right (n := 2) (by omega) (by omega : 2 ≤ eN g - eN h)
        omega
      have := (jam_lt_iff (mN h) (eN g - eN h) 9007199254740992).2 (by omega)
      omega

def shiftI (m b : Int) : Int := ((jam m.toNat b.toNat : Nat) : Int)

theorem shifted_int (m b : Int) (w : World) (h0 : 0 ≤ m) (h1 : m < 18446744073709551616) (b0 : 0 ≤ b) (b1 : b < 4611686018427387904) :
    Calls Try.prog 32 #[.int .u64 m, .int .i64 b] w fun e w' => e = .returned (.int .u64 (shiftI m b)) ∧ w = w' := by
  have h := shifted_any m.toNat b.toNat w (by omega) (by omega)
  rw [Int.toNat_of_nonneg h0, Int.toNat_of_nonneg b0] at h
  exact h

set_option maxHeartbeats 400000 in
theorem made_zero (sg e : Int) (w : World) :
    Calls Try.prog 33 #[.int .u64 sg, .int .i64 e, .int .u64 0] w fun e w' => e = .returned (.int .u64 0) ∧ w = w' := by
  go_enter Try.func33, Try.ntmps33
  go_wp2
  go_ret
  exact ⟨rfl, rfl⟩

theorem made_int (sg e s : Int) (V : Nat) (w : World) (g0 : 0 ≤ sg) (g1 : sg ≤ 1) (e0 : 1 ≤ e) (e1 : e ≤ 2100) (s0 : 0 ≤ s) (s1 : s < 144115188075855872) (hK : Kept V e.toNat s.toNat) :
    Calls Try.prog 33 #[.int .u64 sg, .int .i64 e, .int .u64 s] w fun e w' => e = .returned (.int .u64 (madeOf sg V)) ∧ w = w' := by
  by_cases z : V = 0
  · have : s = 0 := by
      have h := hK.1
      rw [z, Nat.mul_zero, (jam_eq_zero 0 _).2 rfl] at h
      omega
    subst this
    have e2 : madeOf sg V = 0 := by unfold madeOf; rw [if_pos z]
    rw [e2]
    exact made_zero sg e w
  · have h := made_any sg e.toNat s.toNat V w g0 g1 (by omega) (by omega) z (by omega) hK
    rw [Int.toNat_of_nonneg (by omega : 0 ≤ e), Int.toNat_of_nonneg s0] at h
    exact h

theorem madeOf_lo (sg : Int) (V : Nat) (g0 : 0 ≤ sg) : 0 ≤ madeOf sg V := by unfold madeOf; split <;> omega
theorem madeOf_hi (sg : Int) (V : Nat) (g1 : sg ≤ 1) : madeOf sg V < 18446744073709551616 := by unfold madeOf; split <;> omega

theorem madeOf_canon (sg : Int) (V : Nat) (g0 : 0 ≤ sg) (g1 : sg ≤ 1) : canon (madeOf sg V) = madeOf sg V := by
  unfold madeOf
  by_cases z : V = 0
  · rw [if_pos z]; decide +kernel
  · rw [if_neg z]
    have := rung_pos V z
    have c : sg = 0 ∨ sg = 1 := by omega
    rcases c with rfl | rfl <;> exact canon_of (by omega)

/-- The sum of a greater and a smaller word, by sizes and signs. -/
theorem sum_by_size (x y : Int) (h0 : 0 ≤ x) (h1 : x < 18446744073709551616) (hx : x % 9223372036854775808 < 9218868437227405312) (g0 : 0 ≤ y) (g1 : y < 18446744073709551616) (hy : y % 9223372036854775808 < 9218868437227405312)
    (hl : y % 9223372036854775808 ≤ x % 9223372036854775808) :
    (x / 9223372036854775808 = y / 9223372036854775808 → sumOf x y = madeOf (x / 9223372036854775808) (magOf (x % 9223372036854775808).toNat + magOf (y % 9223372036854775808).toNat)) ∧
    (¬ x / 9223372036854775808 = y / 9223372036854775808 → sumOf x y = madeOf (x / 9223372036854775808) (magOf (x % 9223372036854775808).toNat - magOf (y % 9223372036854775808).toNat)) := by
  have ml : magOf (y % 9223372036854775808).toNat ≤ magOf (x % 9223372036854775808).toNat := mag_le (by omega)
  rw [sumOf_finite x y h0 h1 hx g0 g1 hy]
  unfold sval madeOf
  generalize magOf (x % 9223372036854775808).toNat = A at *
  generalize magOf (y % 9223372036854775808).toNat = B at *
  refine ⟨fun e => ?_, fun e => ?_⟩
  · by_cases c : 9223372036854775808 ≤ x
    · rw [if_pos c, if_pos (by omega : 9223372036854775808 ≤ y), show (-(A : Int) + -(B : Int)).natAbs = A + B from by omega]
      by_cases z : A + B = 0
      · rw [if_pos z, z, rung_zero, if_neg (by omega)]; rfl
      · rw [if_neg z, if_pos (by omega)]; omega
    · rw [if_neg c, if_neg (by omega : ¬ 9223372036854775808 ≤ y), show ((A : Int) + (B : Int)).natAbs = A + B from by omega]
      by_cases z : A + B = 0
      · rw [if_pos z, z, rung_zero, if_neg (by omega)]; rfl
      · rw [if_neg z, if_neg (by omega)]; omega
  · by_cases c : 9223372036854775808 ≤ x
    · rw [if_pos c, if_neg (by omega : ¬ 9223372036854775808 ≤ y), show (-(A : Int) + (B : Int)).natAbs = A - B from by omega]
      by_cases z : A - B = 0
      · rw [if_pos z, z, rung_zero, if_neg (by omega)]; rfl
      · rw [if_neg z, if_pos (by omega)]; omega
    · rw [if_neg c, if_pos (by omega : 9223372036854775808 ≤ y), show ((A : Int) + -(B : Int)).natAbs = A - B from by omega]
      by_cases z : A - B = 0
      · rw [if_pos z, z, rung_zero, if_neg (by omega)]; rfl
      · rw [if_neg z, if_neg (by omega)]; omega

theorem sval_canon (a : Int) (h : a % 9223372036854775808 < 9218868437227405312) : sval (canon a) = sval a ∧ canon a % 9223372036854775808 < 9218868437227405312 := by
  unfold canon
  rw [if_neg (by omega)]
  by_cases z : a = 9223372036854775808
  · rw [if_pos z, z]; decide +kernel
  · rw [if_neg z]; exact ⟨rfl, h⟩

theorem canon_inf (a : Int) (h : a % 9223372036854775808 = 9218868437227405312) : canon a = a := by
  unfold canon; rw [if_neg (by omega), if_neg (by omega)]

theorem sumOf_canon (a b : Int) (a0 : 0 ≤ a) (a1 : a < 18446744073709551616) (b0 : 0 ≤ b) (b1 : b < 18446744073709551616) : sumOf (canon a) (canon b) = sumOf a b := by
  have ka0 := canon_lo a a0
  have ka1 := canon_hi a a1
  have kb0 := canon_lo b b0
  have kb1 := canon_hi b b1
  rcases Int.lt_trichotomy (a % 9223372036854775808) 9218868437227405312 with c | c | c
  · obtain ⟨s1, s2⟩ := sval_canon a c
    rcases Int.lt_trichotomy (b % 9223372036854775808) 9218868437227405312 with d | d | d
    · obtain ⟨t1, t2⟩ := sval_canon b d
      rw [sumOf_finite _ _ ka0 ka1 s2 kb0 kb1 t2, sumOf_finite _ _ a0 a1 c b0 b1 d, s1, t1]
    · rw [canon_inf b d, sumOf_inf_right b _ b0 b1 d ka0 ka1 s2, sumOf_inf_right b a b0 b1 d a0 a1 c]
    · have e : canon b = 9221120237041090561 := by unfold canon; rw [if_pos d]
      rw [e, sumOf_nan_right _ _ (by omega) (by decide), sumOf_nan_right _ _ b0 d]
  · rw [canon_inf a c]
    rcases Int.lt_trichotomy (b % 9223372036854775808) 9218868437227405312 with d | d | d
    · obtain ⟨t1, t2⟩ := sval_canon b d
      rw [sumOf_inf_left a _ a0 a1 c kb0 kb1 t2, sumOf_inf_left a b a0 a1 c b0 b1 d]
    · rw [canon_inf b d]
    · have e : canon b = 9221120237041090561 := by unfold canon; rw [if_pos d]
      rw [e, sumOf_nan_right _ _ (by omega) (by decide), sumOf_nan_right _ _ b0 d]
  · have e : canon a = 9221120237041090561 := by unfold canon; rw [if_pos c]
    rw [e, sumOf_nan_left _ _ (by omega) (by decide), sumOf_nan_left _ _ a0 c]

end Go.Proofs.Ytjdbgmopmkdlcaa
