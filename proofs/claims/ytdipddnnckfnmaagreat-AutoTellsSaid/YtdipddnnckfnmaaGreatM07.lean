/-
  Parts of a proof, one behind the other: FltRefSum, FltRefAdd, AutReg, AutWith. Each says its own conditions.
-/
import Derived.Test.YtdipddnnckfnmaaGreatM06

/- FltRefSum:
  The document's own Sum returns what the model's sum of the two floats is, Canon of it, in whatever world, for two words from 0 to less than 2^64 (the one condition).
-/
namespace Go.Proofs.YtdipddnnckfnmaaGreat
open Go.RowKit

def eN (g : Nat) : Nat := if g < 4503599627370496 then 1 else g / 4503599627370496
def mN (g : Nat) : Nat := if g < 4503599627370496 then 8 * g else 8 * (4503599627370496 + g % 4503599627370496)

theorem wholeE_nat (x : Int) : wholeE x = ((eN (x % 9223372036854775808).toNat : Nat) : Int) := by
  unfold wholeE eN; split <;> split <;> omega

theorem wholeM_nat (x : Int) : wholeM x = ((mN (x % 9223372036854775808).toNat : Nat) : Int) := by
  unfold wholeM mN; split <;> split <;> omega

theorem eN_pos (g : Nat) : 1 ≤ eN g := by unfold eN; split <;> omega

theorem eN_mono {g h : Nat} (c : g ≤ h) : eN g ≤ eN h := by unfold eN; split <;> split <;> omega

theorem eN_le (g : Nat) (c : g < 9218868437227405312) : eN g ≤ 2046 := by unfold eN; split <;> omega

theorem mN_lt (g : Nat) : mN g < 72057594037927936 := by unfold mN; split <;> omega

theorem mN_big (g : Nat) (c : eN g ≠ 1) : 36028797018963968 ≤ mN g := by unfold eN mN at *; split at c <;> split <;> omega

theorem mN_eight (g : Nat) : ∃ t, mN g = 8 * t := by unfold mN; split <;> exact ⟨_, rfl⟩

theorem mag_whole (g : Nat) : 8 * magOf g = mN g * 2 ^ (eN g - 1) := by
  unfold magOf mN eN
  have e : (2 : Nat) ^ 52 = 4503599627370496 := rfl
  rw [e]
  split
  · simp
  · rw [Nat.mul_assoc]

/-- A greater and a smaller size, their eighths. -/
theorem kept_add (g h : Nat) (c : h ≤ g) : Kept (magOf g + magOf h) (eN g) (mN g + jam (mN h) (eN g - eN h)) ∧ mN g + jam (mN h) (eN g - eN h) < 144115188075855872 := by
  have e1 := eN_pos g
  have e2 := eN_pos h
  have e3 := eN_mono c
  have b1 := mN_lt g
  have b2 := mN_lt h
  have b3 := jam_le (mN h) (eN g - eN h)
  obtain ⟨t, ht⟩ := mN_eight g
  refine ⟨⟨?_, ?_⟩, by omega⟩
  · rw [Nat.mul_add, mag_whole g, mag_whole h, ht, show 8 * t = 2 * (4 * t) from by omega, jam_add]
    have s := jam_scale (mN h) (eN g - eN h) (eN h - 1)
    rw [show eN g - eN h + (eN h - 1) = eN g - 1 from by omega] at s
    rw [s]
  · by_cases z : eN g = 1
    · rw [z]; exact Or.inl (by rw [Nat.sub_self, Nat.pow_zero, Nat.mod_one])
    · have := mN_big g z; exact Or.inr (by omega)

theorem mag_le {g h : Nat} (c : h ≤ g) : magOf h ≤ magOf g := by
  rcases Nat.lt_or_ge h g with d | d
  · exact Nat.le_of_lt (mag_mono d)
  · have : g = h := by omega
    subst this; exact Nat.le_refl _

theorem pow_dvd {a b : Nat} (h : a ≤ b) : 2 ^ a ∣ 2 ^ b := Nat.pow_dvd_pow 2 h

theorem kept_sub (g h : Nat) (c : h ≤ g) : Kept (magOf g - magOf h) (eN g) (mN g - jam (mN h) (eN g - eN h)) ∧ jam (mN h) (eN g - eN h) ≤ mN g ∧ mN g - jam (mN h) (eN g - eN h) < 144115188075855872 := by
  have e1 := eN_pos g
  have e2 := eN_pos h
  have e3 := eN_mono c
  have b1 := mN_lt g
  have b2 := mN_lt h
  have b4 := mag_le c
  have w1 := mag_whole g
  have w2 := mag_whole h
  have s := jam_scale (mN h) (eN g - eN h) (eN h - 1)
  rw [show eN g - eN h + (eN h - 1) = eN g - 1 from by omega] at s
  obtain ⟨t, ht⟩ := mN_eight g
  obtain ⟨u, hu⟩ := mN_eight h
  have le : mN h * 2 ^ (eN h - 1) ≤ mN g * 2 ^ (eN g - 1) := by omega
  have js : jam (8 * (magOf g - magOf h)) (eN g - 1) = mN g - jam (mN h) (eN g - eN h) := by
    rw [Nat.mul_sub, w1, w2, ht, show 8 * t = 2 * (4 * t) from by omega]
    rw [ht, show 8 * t = 2 * (4 * t) from by omega] at le
    rw [jam_sub _ _ _ le, s]
  have jl : jam (mN h) (eN g - eN h) ≤ mN g := by
    rw [← s]
    rcases Nat.lt_or_ge (mN g) (jam (mN h * 2 ^ (eN h - 1)) (eN g - 1)) with z | z
    · exfalso
      have q := (jam_lt_iff (mN h * 2 ^ (eN h - 1)) (eN g - 1) (4 * t)).2
      have q2 := (jam_lt_iff (mN h * 2 ^ (eN h - 1)) (eN g - 1) (4 * t + 1))
      have p := Nat.two_pow_pos (eN g - 1)
      rw [ht] at z le
      rw [show 2 * (4 * t) = 8 * t from by omega] at q
      rw [show 2 * (4 * t + 1) = 8 * t + 2 from by omega] at q2
      rcases Nat.lt_or_ge (mN h * 2 ^ (eN h - 1)) (8 * t * 2 ^ (eN g - 1)) with y | y
      · have := q y; omega
      · have e : mN h * 2 ^ (eN h - 1) = 8 * t * 2 ^ (eN g - 1) := by omega
        rw [e, jam_exact] at z; omega
    · exact z
  refine ⟨⟨js.symm, ?_⟩, jl, by omega⟩
  by_cases z : eN g = 1
  · rw [z]; exact Or.inl (by rw [Nat.sub_self, Nat.pow_zero, Nat.mod_one])
  · have big := mN_big g z
    by_cases d : eN g - eN h ≤ 1
    · left
      apply Nat.mod_eq_zero_of_dvd
      rw [Nat.mul_sub, w1, w2]
      apply Nat.dvd_sub
      · exact Nat.dvd_mul_left _ _
      · rw [hu, show 8 * u * 2 ^ (eN h - 1) = u * 2 ^ (eN h - 1 + 3) from by rw [Nat.pow_add, Nat.mul_comm 8 u, Nat.mul_assoc, Nat.mul_comm 8]]
        exact Nat.dvd_trans (pow_dvd (by omega)) (Nat.dvd_mul_left _ _)
    · right
      have p : 4 ≤ 2 ^ (eN g - eN h) := by
        have := Nat.pow_le_pow_right (n := 2) (by omega) (by omega : 2 ≤ eN g - eN h)
        omega
      have := (jam_lt_iff (mN h) (eN g - eN h) 9007199254740992).2 (by omega)
      omega

def shiftI (m b : Int) : Int := ((jam m.toNat b.toNat : Nat) : Int)

theorem shifted_int (m b : Int) (w : World) (h0 : 0 ≤ m) (h1 : m < 18446744073709551616) (b0 : 0 ≤ b) (b1 : b < 4611686018427387904) :
    Calls Tryz.prog 58 #[.int .u64 m, .int .i64 b] w fun e w' => e = .returned (.int .u64 (shiftI m b)) ∧ w = w' := by
  have h := shifted_any m.toNat b.toNat w (by omega) (by omega)
  rw [Int.toNat_of_nonneg h0, Int.toNat_of_nonneg b0] at h
  exact h

set_option maxHeartbeats 400000 in
theorem made_zero (sg e : Int) (w : World) :
    Calls Tryz.prog 59 #[.int .u64 sg, .int .i64 e, .int .u64 0] w fun e w' => e = .returned (.int .u64 0) ∧ w = w' := by
  go_enter Tryz.func59, Tryz.ntmps59
  go_wp2
  go_ret
  exact ⟨rfl, rfl⟩

theorem made_int (sg e s : Int) (V : Nat) (w : World) (g0 : 0 ≤ sg) (g1 : sg ≤ 1) (e0 : 1 ≤ e) (e1 : e ≤ 2100) (s0 : 0 ≤ s) (s1 : s < 144115188075855872) (hK : Kept V e.toNat s.toNat) :
    Calls Tryz.prog 59 #[.int .u64 sg, .int .i64 e, .int .u64 s] w fun e w' => e = .returned (.int .u64 (madeOf sg V)) ∧ w = w' := by
  by_cases z : V = 0
  · have : s = 0 := by
      have h := hK.1
      rw [z, Nat.mul_zero, (jam_eq_zero 0 _).2 rfl] at h
      omega
    subst this
    have e2 : madeOf sg V = 0 := by unfold madeOf; rw [if_pos z]
    rw [e2]
    exact made_zero sg e w
  · have h := made_any sg e.toNat s.toNat V w g0 g1 (by omega) (by omega) z (by omega) hK
    rw [Int.toNat_of_nonneg (by omega : 0 ≤ e), Int.toNat_of_nonneg s0] at h
    exact h

theorem madeOf_lo (sg : Int) (V : Nat) (g0 : 0 ≤ sg) : 0 ≤ madeOf sg V := by unfold madeOf; split <;> omega
theorem madeOf_hi (sg : Int) (V : Nat) (g1 : sg ≤ 1) : madeOf sg V < 18446744073709551616 := by unfold madeOf; split <;> omega

theorem madeOf_canon (sg : Int) (V : Nat) (g0 : 0 ≤ sg) (g1 : sg ≤ 1) : canon (madeOf sg V) = madeOf sg V := by
  unfold madeOf
  by_cases z : V = 0
  · rw [if_pos z]; decide +kernel
  · rw [if_neg z]
    have := rung_pos V z
    have c : sg = 0 ∨ sg = 1 := by omega
    rcases c with rfl | rfl <;> exact canon_of (by omega)

/-- The sum of a greater and a smaller word, by sizes and signs. -/
theorem sum_by_size (x y : Int) (h0 : 0 ≤ x) (h1 : x < 18446744073709551616) (hx : x % 9223372036854775808 < 9218868437227405312) (g0 : 0 ≤ y) (g1 : y < 18446744073709551616) (hy : y % 9223372036854775808 < 9218868437227405312)
    (hl : y % 9223372036854775808 ≤ x % 9223372036854775808) :
    (x / 9223372036854775808 = y / 9223372036854775808 → sumOf x y = madeOf (x / 9223372036854775808) (magOf (x % 9223372036854775808).toNat + magOf (y % 9223372036854775808).toNat)) ∧
    (¬ x / 9223372036854775808 = y / 9223372036854775808 → sumOf x y = madeOf (x / 9223372036854775808) (magOf (x % 9223372036854775808).toNat - magOf (y % 9223372036854775808).toNat)) := by
  have ml : magOf (y % 9223372036854775808).toNat ≤ magOf (x % 9223372036854775808).toNat := mag_le (by omega)
  rw [sumOf_finite x y h0 h1 hx g0 g1 hy]
  unfold sval madeOf
  generalize magOf (x % 9223372036854775808).toNat = A at *
  generalize magOf (y % 9223372036854775808).toNat = B at *
  refine ⟨fun e => ?_, fun e => ?_⟩
  · by_cases c : 9223372036854775808 ≤ x
    · rw [if_pos c, if_pos (by omega : 9223372036854775808 ≤ y), show (-(A : Int) + -(B : Int)).natAbs = A + B from by omega]
      by_cases z : A + B = 0
      · rw [if_pos z, z, rung_zero, if_neg (by omega)]; rfl
      · rw [if_neg z, if_pos (by omega)]; omega
    · rw [if_neg c, if_neg (by omega : ¬ 9223372036854775808 ≤ y), show ((A : Int) + (B : Int)).natAbs = A + B from by omega]
      by_cases z : A + B = 0
      · rw [if_pos z, z, rung_zero, if_neg (by omega)]; rfl
      · rw [if_neg z, if_neg (by omega)]; omega
  · by_cases c : 9223372036854775808 ≤ x
    · rw [if_pos c, if_neg (by omega : ¬ 9223372036854775808 ≤ y), show (-(A : Int) + (B : Int)).natAbs = A - B from by omega]
      by_cases z : A - B = 0
      · rw [if_pos z, z, rung_zero, if_neg (by omega)]; rfl
      · rw [if_neg z, if_pos (by omega)]; omega
    · rw [if_neg c, if_pos (by omega : 9223372036854775808 ≤ y), show ((A : Int) + -(B : Int)).natAbs = A - B from by omega]
      by_cases z : A - B = 0
      · rw [if_pos z, z, rung_zero, if_neg (by omega)]; rfl
      · rw [if_neg z, if_neg (by omega)]; omega

theorem sval_canon (a : Int) (h : a % 9223372036854775808 < 9218868437227405312) : sval (canon a) = sval a ∧ canon a % 9223372036854775808 < 9218868437227405312 := by
  unfold canon
  rw [if_neg (by omega)]
  by_cases z : a = 9223372036854775808
  · rw [if_pos z, z]; decide +kernel
  · rw [if_neg z]; exact ⟨rfl, h⟩

theorem canon_inf (a : Int) (h : a % 9223372036854775808 = 9218868437227405312) : canon a = a := by
  unfold canon; rw [if_neg (by omega), if_neg (by omega)]

theorem sumOf_canon (a b : Int) (a0 : 0 ≤ a) (a1 : a < 18446744073709551616) (b0 : 0 ≤ b) (b1 : b < 18446744073709551616) : sumOf (canon a) (canon b) = sumOf a b := by
  have ka0 := canon_lo a a0
  have ka1 := canon_hi a a1
  have kb0 := canon_lo b b0
  have kb1 := canon_hi b b1
  rcases Int.lt_trichotomy (a % 9223372036854775808) 9218868437227405312 with c | c | c
  · obtain ⟨s1, s2⟩ := sval_canon a c
    rcases Int.lt_trichotomy (b % 9223372036854775808) 9218868437227405312 with d | d | d
    · obtain ⟨t1, t2⟩ := sval_canon b d
      rw [sumOf_finite _ _ ka0 ka1 s2 kb0 kb1 t2, sumOf_finite _ _ a0 a1 c b0 b1 d, s1, t1]
    · rw [canon_inf b d, sumOf_inf_right b _ b0 b1 d ka0 ka1 s2, sumOf_inf_right b a b0 b1 d a0 a1 c]
    · have e : canon b = 9221120237041090561 := by unfold canon; rw [if_pos d]
      rw [e, sumOf_nan_right _ _ (by omega) (by decide), sumOf_nan_right _ _ b0 d]
  · rw [canon_inf a c]
    rcases Int.lt_trichotomy (b % 9223372036854775808) 9218868437227405312 with d | d | d
    · obtain ⟨t1, t2⟩ := sval_canon b d
      rw [sumOf_inf_left a _ a0 a1 c kb0 kb1 t2, sumOf_inf_left a b a0 a1 c b0 b1 d]
    · rw [canon_inf b d]
    · have e : canon b = 9221120237041090561 := by unfold canon; rw [if_pos d]
      rw [e, sumOf_nan_right _ _ (by omega) (by decide), sumOf_nan_right _ _ b0 d]
  · have e : canon a = 9221120237041090561 := by unfold canon; rw [if_pos c]
    rw [e, sumOf_nan_left _ _ (by omega) (by decide), sumOf_nan_left _ _ a0 c]

end Go.Proofs.YtdipddnnckfnmaaGreat

/- FltRefAdd:
  The document's own Sum returns Canon of the model's sum, in whatever world, for two words from 0 to less than 2^64 (the one condition): the walk over its text.
-/
namespace Go.Proofs.YtdipddnnckfnmaaGreat
open Go.RowKit

set_option maxRecDepth 20000 in
set_option maxHeartbeats 4000000 in
theorem rsum_any (a b : Int) (w : World) (a0 : 0 ≤ a) (a1 : a < 18446744073709551616) (b0 : 0 ≤ b) (b1 : b < 18446744073709551616) :
    Calls Tryz.prog 32 #[.int .u64 a, .int .u64 b] w fun e w' => e = .returned (.int .u64 (sumOf a b)) ∧ w = w' := by
  have x0 := canon_lo a a0
  have x1 := canon_hi a a1
  have y0 := canon_lo b b0
  have y1 := canon_hi b b1
  have xc : canon (canon a) = canon a := canon_canon a
  have yc : canon (canon b) = canon b := canon_canon b
  have sc : sumOf a b = sumOf (canon a) (canon b) := (sumOf_canon a b a0 a1 b0 b1).symm
  obtain ⟨x, hx⟩ : ∃ x, canon a = x := ⟨_, rfl⟩
  obtain ⟨y, hy⟩ : ∃ y, canon b = y := ⟨_, rfl⟩
  rw [hx] at x0 x1 xc sc
  rw [hy] at y0 y1 yc sc
  have XC := Lib.hid xc
  have YC := Lib.hid yc
  have SC := Lib.hid sc
  clear xc yc sc
  rcases k3 : (kind x == 3) with _ | _
  · rcases j3 : (kind y == 3) with _ | _
    · rcases k2 : (kind x == 2) with _ | _
      · rcases j2 : (kind y == 2) with _ | _
        · have xf := finite_of_kind x x0 x1 (by simpa using k3) (by simpa using k2)
          have yf := finite_of_kind y y0 y1 (by simpa using j3) (by simpa using j2)
          by_cases ls : x % 9223372036854775808 < y % 9223372036854775808
          · have hl : x % 9223372036854775808 ≤ y % 9223372036854775808 := by omega
            obtain ⟨S1, S2⟩ := sum_by_size y x y0 y1 yf x0 x1 xf hl
            have ka := kept_add (y % 9223372036854775808).toNat (x % 9223372036854775808).toNat (by omega)
            have kb := kept_sub (y % 9223372036854775808).toNat (x % 9223372036854775808).toNat (by omega)
            have we := wholeE_nat y
            have wm := wholeM_nat y
            have ve := wholeE_nat x
            have vm := wholeM_nat x
            have p1 := eN_pos (x % 9223372036854775808).toNat
            have p2 := eN_mono (by omega : (x % 9223372036854775808).toNat ≤ (y % 9223372036854775808).toNat)
            have p3 := eN_le (y % 9223372036854775808).toNat (by omega)
            have p4 := mN_lt (y % 9223372036854775808).toNat
            have p5 := mN_lt (x % 9223372036854775808).toNat
            have sh : shiftI (wholeM x) (wholeE y - wholeE x) = ((jam (mN (x % 9223372036854775808).toNat) (eN (y % 9223372036854775808).toNat - eN (x % 9223372036854775808).toNat) : Nat) : Int) := by
              unfold shiftI; rw [we, ve, vm, Int.toNat_natCast]
              rw [show (((eN (y % 9223372036854775808).toNat : Nat) : Int) - ((eN (x % 9223372036854775808).toNat : Nat) : Int)).toNat = eN (y % 9223372036854775808).toNat - eN (x % 9223372036854775808).toNat from by omega]
            have e0 : 1 ≤ wholeE y := by omega
            have e1 : wholeE y ≤ 2046 := by omega
            have f0 : 1 ≤ wholeE x := by omega
            have f1 : wholeE x ≤ wholeE y := by omega
            have n0 : 0 ≤ wholeM y := by omega
            have n1 : wholeM y < 72057594037927936 := by omega
            have n2 : 0 ≤ wholeM x := by omega
            have n3 : wholeM x < 72057594037927936 := by omega
            have j0 : 0 ≤ shiftI (wholeM x) (wholeE y - wholeE x) := by omega
            have j1 : shiftI (wholeM x) (wholeE y - wholeE x) ≤ wholeM y + 72057594037927936 := by omega
            have sg0 : 0 ≤ y / 9223372036854775808 := by omega
            have sg1 : y / 9223372036854775808 ≤ 1 := by omega
            have j2 : shiftI (wholeM x) (wholeE y - wholeE x) ≤ wholeM y := by omega
            by_cases sg : y / 9223372036854775808 = x / 9223372036854775808
            · have MD := Lib.hid (fun w => made_int (y / 9223372036854775808) (wholeE y) (wholeM y + shiftI (wholeM x) (wholeE y - wholeE x)) _ w sg0 sg1 e0 (by omega) (by omega) (by omega)
                (by rw [show (wholeE y).toNat = eN (y % 9223372036854775808).toNat from by omega, show (wholeM y + shiftI (wholeM x) (wholeE y - wholeE x)).toNat = mN (y % 9223372036854775808).toNat + jam (mN (x % 9223372036854775808).toNat) (eN (y % 9223372036854775808).toNat - eN (x % 9223372036854775808).toNat) from by omega]; exact ka.1))
              have RS := Lib.hid (S1 sg)
              have m0 := madeOf_lo (y / 9223372036854775808) (magOf (y % 9223372036854775808).toNat + magOf (x % 9223372036854775808).toNat) sg0
              have m1 := madeOf_hi (y / 9223372036854775808) (magOf (y % 9223372036854775808).toNat + magOf (x % 9223372036854775808).toNat) sg1
              have mc := madeOf_canon (y / 9223372036854775808) (magOf (y % 9223372036854775808).toNat + magOf (x % 9223372036854775808).toNat) sg0 sg1
              have sgb : (y / 9223372036854775808 == x / 9223372036854775808) = true := by simpa using sg
              skip
              generalize magOf (y % 9223372036854775808).toNat + magOf (x % 9223372036854775808).toNat = V at *
              clear S1 S2 ka kb we wm ve vm p1 p2 p3 p4 p5 sh sg hl
              go_enter Tryz.func32, Tryz.ntmps32
              go_wp2_with (first
                  | (go_at_call 30; with_reducible refine (rcanon_any _ _ (by omega) (by omega)).mono ?_; rintro e w' ⟨rfl, rfl⟩)
                  | (go_at_call 54; with_reducible refine (rkind_any _ _ (by omega) (by omega)).mono ?_; rintro e w' ⟨rfl, rfl⟩)
                  | (go_at_call 56; with_reducible refine (rsize_any _ _ _ (by omega) (by omega) (by omega) (by omega)).mono ?_; rintro e w' ⟨rfl, rfl⟩)
                  | (go_at_call 57; with_reducible refine (whole_any _ _ (by omega) (by omega)).mono ?_; rintro e w' ⟨rfl, rfl⟩)
                  | (go_at_call 58; with_reducible refine (shifted_int _ _ _ (by omega) (by omega) (by omega) (by omega)).mono ?_; rintro e w' ⟨rfl, rfl⟩)
                  | (go_at_call 59; with_reducible refine (MD.out _).mono ?_; rintro e w' ⟨rfl, rfl⟩))
              go_ret
              exact ⟨ret_u64 (by rw [SC.out, sumOf_comm, RS.out]), rfl⟩
            · have MD := Lib.hid (fun w => made_int (y / 9223372036854775808) (wholeE y) (wholeM y - shiftI (wholeM x) (wholeE y - wholeE x)) _ w sg0 sg1 e0 (by omega) (by omega) (by omega)
                (by rw [show (wholeE y).toNat = eN (y % 9223372036854775808).toNat from by omega, show (wholeM y - shiftI (wholeM x) (wholeE y - wholeE x)).toNat = mN (y % 9223372036854775808).toNat - jam (mN (x % 9223372036854775808).toNat) (eN (y % 9223372036854775808).toNat - eN (x % 9223372036854775808).toNat) from by omega]; exact kb.1))
              have RS := Lib.hid (S2 sg)
              have m0 := madeOf_lo (y / 9223372036854775808) (magOf (y % 9223372036854775808).toNat - magOf (x % 9223372036854775808).toNat) sg0
              have m1 := madeOf_hi (y / 9223372036854775808) (magOf (y % 9223372036854775808).toNat - magOf (x % 9223372036854775808).toNat) sg1
              have mc := madeOf_canon (y / 9223372036854775808) (magOf (y % 9223372036854775808).toNat - magOf (x % 9223372036854775808).toNat) sg0 sg1
              have sgb : (y / 9223372036854775808 == x / 9223372036854775808) = false := by simpa using sg
              skip
              generalize magOf (y % 9223372036854775808).toNat - magOf (x % 9223372036854775808).toNat = V at *
              clear S1 S2 ka kb we wm ve vm p1 p2 p3 p4 p5 sh sg hl
              go_enter Tryz.func32, Tryz.ntmps32
              go_wp2_with (first
                  | (go_at_call 30; with_reducible refine (rcanon_any _ _ (by omega) (by omega)).mono ?_; rintro e w' ⟨rfl, rfl⟩)
                  | (go_at_call 54; with_reducible refine (rkind_any _ _ (by omega) (by omega)).mono ?_; rintro e w' ⟨rfl, rfl⟩)
                  | (go_at_call 56; with_reducible refine (rsize_any _ _ _ (by omega) (by omega) (by omega) (by omega)).mono ?_; rintro e w' ⟨rfl, rfl⟩)
                  | (go_at_call 57; with_reducible refine (whole_any _ _ (by omega) (by omega)).mono ?_; rintro e w' ⟨rfl, rfl⟩)
                  | (go_at_call 58; with_reducible refine (shifted_int _ _ _ (by omega) (by omega) (by omega) (by omega)).mono ?_; rintro e w' ⟨rfl, rfl⟩)
                  | (go_at_call 59; with_reducible refine (MD.out _).mono ?_; rintro e w' ⟨rfl, rfl⟩))
              go_ret
              exact ⟨ret_u64 (by rw [SC.out, sumOf_comm, RS.out]), rfl⟩
          · have hl : y % 9223372036854775808 ≤ x % 9223372036854775808 := by omega
            obtain ⟨S1, S2⟩ := sum_by_size x y x0 x1 xf y0 y1 yf hl
            have ka := kept_add (x % 9223372036854775808).toNat (y % 9223372036854775808).toNat (by omega)
            have kb := kept_sub (x % 9223372036854775808).toNat (y % 9223372036854775808).toNat (by omega)
            have we := wholeE_nat x
            have wm := wholeM_nat x
            have ve := wholeE_nat y
            have vm := wholeM_nat y
            have p1 := eN_pos (y % 9223372036854775808).toNat
            have p2 := eN_mono (by omega : (y % 9223372036854775808).toNat ≤ (x % 9223372036854775808).toNat)
            have p3 := eN_le (x % 9223372036854775808).toNat (by omega)
            have p4 := mN_lt (x % 9223372036854775808).toNat
            have p5 := mN_lt (y % 9223372036854775808).toNat
            have sh : shiftI (wholeM y) (wholeE x - wholeE y) = ((jam (mN (y % 9223372036854775808).toNat) (eN (x % 9223372036854775808).toNat - eN (y % 9223372036854775808).toNat) : Nat) : Int) := by
              unfold shiftI; rw [we, ve, vm, Int.toNat_natCast]
              rw [show (((eN (x % 9223372036854775808).toNat : Nat) : Int) - ((eN (y % 9223372036854775808).toNat : Nat) : Int)).toNat = eN (x % 9223372036854775808).toNat - eN (y % 9223372036854775808).toNat from by omega]
            have e0 : 1 ≤ wholeE x := by omega
            have e1 : wholeE x ≤ 2046 := by omega
            have f0 : 1 ≤ wholeE y := by omega
            have f1 : wholeE y ≤ wholeE x := by omega
            have n0 : 0 ≤ wholeM x := by omega
            have n1 : wholeM x < 72057594037927936 := by omega
            have n2 : 0 ≤ wholeM y := by omega
            have n3 : wholeM y < 72057594037927936 := by omega
            have j0 : 0 ≤ shiftI (wholeM y) (wholeE x - wholeE y) := by omega
            have j1 : shiftI (wholeM y) (wholeE x - wholeE y) ≤ wholeM x + 72057594037927936 := by omega
            have sg0 : 0 ≤ x / 9223372036854775808 := by omega
            have sg1 : x / 9223372036854775808 ≤ 1 := by omega
            have j2 : shiftI (wholeM y) (wholeE x - wholeE y) ≤ wholeM x := by omega
            by_cases sg : x / 9223372036854775808 = y / 9223372036854775808
            · have MD := Lib.hid (fun w => made_int (x / 9223372036854775808) (wholeE x) (wholeM x + shiftI (wholeM y) (wholeE x - wholeE y)) _ w sg0 sg1 e0 (by omega) (by omega) (by omega)
                (by rw [show (wholeE x).toNat = eN (x % 9223372036854775808).toNat from by omega, show (wholeM x + shiftI (wholeM y) (wholeE x - wholeE y)).toNat = mN (x % 9223372036854775808).toNat + jam (mN (y % 9223372036854775808).toNat) (eN (x % 9223372036854775808).toNat - eN (y % 9223372036854775808).toNat) from by omega]; exact ka.1))
              have RS := Lib.hid (S1 sg)
              have m0 := madeOf_lo (x / 9223372036854775808) (magOf (x % 9223372036854775808).toNat + magOf (y % 9223372036854775808).toNat) sg0
              have m1 := madeOf_hi (x / 9223372036854775808) (magOf (x % 9223372036854775808).toNat + magOf (y % 9223372036854775808).toNat) sg1
              have mc := madeOf_canon (x / 9223372036854775808) (magOf (x % 9223372036854775808).toNat + magOf (y % 9223372036854775808).toNat) sg0 sg1
              have sgb : (x / 9223372036854775808 == y / 9223372036854775808) = true := by simpa using sg
              skip
              generalize magOf (x % 9223372036854775808).toNat + magOf (y % 9223372036854775808).toNat = V at *
              clear S1 S2 ka kb we wm ve vm p1 p2 p3 p4 p5 sh sg hl
              go_enter Tryz.func32, Tryz.ntmps32
              go_wp2_with (first
                  | (go_at_call 30; with_reducible refine (rcanon_any _ _ (by omega) (by omega)).mono ?_; rintro e w' ⟨rfl, rfl⟩)
                  | (go_at_call 54; with_reducible refine (rkind_any _ _ (by omega) (by omega)).mono ?_; rintro e w' ⟨rfl, rfl⟩)
                  | (go_at_call 56; with_reducible refine (rsize_any _ _ _ (by omega) (by omega) (by omega) (by omega)).mono ?_; rintro e w' ⟨rfl, rfl⟩)
                  | (go_at_call 57; with_reducible refine (whole_any _ _ (by omega) (by omega)).mono ?_; rintro e w' ⟨rfl, rfl⟩)
                  | (go_at_call 58; with_reducible refine (shifted_int _ _ _ (by omega) (by omega) (by omega) (by omega)).mono ?_; rintro e w' ⟨rfl, rfl⟩)
                  | (go_at_call 59; with_reducible refine (MD.out _).mono ?_; rintro e w' ⟨rfl, rfl⟩))
              go_ret
              exact ⟨ret_u64 (by rw [SC.out, RS.out]), rfl⟩
            · have MD := Lib.hid (fun w => made_int (x / 9223372036854775808) (wholeE x) (wholeM x - shiftI (wholeM y) (wholeE x - wholeE y)) _ w sg0 sg1 e0 (by omega) (by omega) (by omega)
                (by rw [show (wholeE x).toNat = eN (x % 9223372036854775808).toNat from by omega, show (wholeM x - shiftI (wholeM y) (wholeE x - wholeE y)).toNat = mN (x % 9223372036854775808).toNat - jam (mN (y % 9223372036854775808).toNat) (eN (x % 9223372036854775808).toNat - eN (y % 9223372036854775808).toNat) from by omega]; exact kb.1))
              have RS := Lib.hid (S2 sg)
              have m0 := madeOf_lo (x / 9223372036854775808) (magOf (x % 9223372036854775808).toNat - magOf (y % 9223372036854775808).toNat) sg0
              have m1 := madeOf_hi (x / 9223372036854775808) (magOf (x % 9223372036854775808).toNat - magOf (y % 9223372036854775808).toNat) sg1
              have mc := madeOf_canon (x / 9223372036854775808) (magOf (x % 9223372036854775808).toNat - magOf (y % 9223372036854775808).toNat) sg0 sg1
              have sgb : (x / 9223372036854775808 == y / 9223372036854775808) = false := by simpa using sg
              skip
              generalize magOf (x % 9223372036854775808).toNat - magOf (y % 9223372036854775808).toNat = V at *
              clear S1 S2 ka kb we wm ve vm p1 p2 p3 p4 p5 sh sg hl
              go_enter Tryz.func32, Tryz.ntmps32
              go_wp2_with (first
                  | (go_at_call 30; with_reducible refine (rcanon_any _ _ (by omega) (by omega)).mono ?_; rintro e w' ⟨rfl, rfl⟩)
                  | (go_at_call 54; with_reducible refine (rkind_any _ _ (by omega) (by omega)).mono ?_; rintro e w' ⟨rfl, rfl⟩)
                  | (go_at_call 56; with_reducible refine (rsize_any _ _ _ (by omega) (by omega) (by omega) (by omega)).mono ?_; rintro e w' ⟨rfl, rfl⟩)
                  | (go_at_call 57; with_reducible refine (whole_any _ _ (by omega) (by omega)).mono ?_; rintro e w' ⟨rfl, rfl⟩)
                  | (go_at_call 58; with_reducible refine (shifted_int _ _ _ (by omega) (by omega) (by omega) (by omega)).mono ?_; rintro e w' ⟨rfl, rfl⟩)
                  | (go_at_call 59; with_reducible refine (MD.out _).mono ?_; rintro e w' ⟨rfl, rfl⟩))
              go_ret
              exact ⟨ret_u64 (by rw [SC.out, RS.out]), rfl⟩
        · have xf := finite_of_kind x x0 x1 (by simpa using k3) (by simpa using k2)
          have R := Lib.hid (sumOf_inf_right y x y0 y1 (by rcases infinite_of_kind y y0 y1 (by simpa using j2) with h | h <;> omega) x0 x1 xf)
          clear xf
          go_enter Tryz.func32, Tryz.ntmps32
          go_wp2_with (first
                | (go_at_call 30; with_reducible refine (rcanon_any _ _ (by omega) (by omega)).mono ?_; rintro e w' ⟨rfl, rfl⟩)
                | (go_at_call 54; with_reducible refine (rkind_any _ _ (by omega) (by omega)).mono ?_; rintro e w' ⟨rfl, rfl⟩)
                | (go_at_call 56; with_reducible refine (rsize_any _ _ _ (by omega) (by omega) (by omega) (by omega)).mono ?_; rintro e w' ⟨rfl, rfl⟩)
                | (go_at_call 57; with_reducible refine (whole_any _ _ (by omega) (by omega)).mono ?_; rintro e w' ⟨rfl, rfl⟩)
                | (go_at_call 58; with_reducible refine (shifted_int _ _ _ (by omega) (by omega) (by omega) (by omega)).mono ?_; rintro e w' ⟨rfl, rfl⟩))
          go_ret
          exact ⟨ret_u64 (by rw [SC.out, R.out]), rfl⟩
      · rcases j2 : (kind y == 2) with _ | _
        · have yf := finite_of_kind y y0 y1 (by simpa using j3) (by simpa using j2)
          have R := Lib.hid (sumOf_inf_left x y x0 x1 (by rcases infinite_of_kind x x0 x1 (by simpa using k2) with h | h <;> omega) y0 y1 yf)
          clear yf
          go_enter Tryz.func32, Tryz.ntmps32
          go_wp2_with (first
                | (go_at_call 30; with_reducible refine (rcanon_any _ _ (by omega) (by omega)).mono ?_; rintro e w' ⟨rfl, rfl⟩)
                | (go_at_call 54; with_reducible refine (rkind_any _ _ (by omega) (by omega)).mono ?_; rintro e w' ⟨rfl, rfl⟩)
                | (go_at_call 56; with_reducible refine (rsize_any _ _ _ (by omega) (by omega) (by omega) (by omega)).mono ?_; rintro e w' ⟨rfl, rfl⟩)
                | (go_at_call 57; with_reducible refine (whole_any _ _ (by omega) (by omega)).mono ?_; rintro e w' ⟨rfl, rfl⟩)
                | (go_at_call 58; with_reducible refine (shifted_int _ _ _ (by omega) (by omega) (by omega) (by omega)).mono ?_; rintro e w' ⟨rfl, rfl⟩))
          go_ret
          exact ⟨ret_u64 (by rw [SC.out, R.out]), rfl⟩
        · have R := Lib.hid (sumOf_inf_both x y x0 x1 (by rcases infinite_of_kind x x0 x1 (by simpa using k2) with h | h <;> omega) y0 y1 (by rcases infinite_of_kind y y0 y1 (by simpa using j2) with h | h <;> omega))
          by_cases q : (x != y) = true
          · have Q : Hid (¬ x = y) := Lib.hid (by simpa using q)
            go_enter Tryz.func32, Tryz.ntmps32
            go_wp2_with (first
                  | (go_at_call 30; with_reducible refine (rcanon_any _ _ (by omega) (by omega)).mono ?_; rintro e w' ⟨rfl, rfl⟩)
                  | (go_at_call 54; with_reducible refine (rkind_any _ _ (by omega) (by omega)).mono ?_; rintro e w' ⟨rfl, rfl⟩)
                  | (go_at_call 56; with_reducible refine (rsize_any _ _ _ (by omega) (by omega) (by omega) (by omega)).mono ?_; rintro e w' ⟨rfl, rfl⟩)
                  | (go_at_call 57; with_reducible refine (whole_any _ _ (by omega) (by omega)).mono ?_; rintro e w' ⟨rfl, rfl⟩)
                  | (go_at_call 58; with_reducible refine (shifted_int _ _ _ (by omega) (by omega) (by omega) (by omega)).mono ?_; rintro e w' ⟨rfl, rfl⟩))
            go_ret
            exact ⟨ret_u64 (by rw [SC.out, R.out, if_neg Q.out]), rfl⟩
          · have q' : (x != y) = false := by simpa using q
            have Q : Hid (x = y) := Lib.hid (by simpa using q)
            clear q
            go_enter Tryz.func32, Tryz.ntmps32
            go_wp2_with (first
                  | (go_at_call 30; with_reducible refine (rcanon_any _ _ (by omega) (by omega)).mono ?_; rintro e w' ⟨rfl, rfl⟩)
                  | (go_at_call 54; with_reducible refine (rkind_any _ _ (by omega) (by omega)).mono ?_; rintro e w' ⟨rfl, rfl⟩)
                  | (go_at_call 56; with_reducible refine (rsize_any _ _ _ (by omega) (by omega) (by omega) (by omega)).mono ?_; rintro e w' ⟨rfl, rfl⟩)
                  | (go_at_call 57; with_reducible refine (whole_any _ _ (by omega) (by omega)).mono ?_; rintro e w' ⟨rfl, rfl⟩)
                  | (go_at_call 58; with_reducible refine (shifted_int _ _ _ (by omega) (by omega) (by omega) (by omega)).mono ?_; rintro e w' ⟨rfl, rfl⟩))
            go_ret
            exact ⟨ret_u64 (by rw [SC.out, R.out, if_pos Q.out]), rfl⟩
    · have n := Lib.hid (numbers_nan x y x0 y0 XC.out YC.out (Or.inr (by simpa using j3)))
      go_enter Tryz.func32, Tryz.ntmps32
      go_wp2_with (first
            | (go_at_call 30; with_reducible refine (rcanon_any _ _ (by omega) (by omega)).mono ?_; rintro e w' ⟨rfl, rfl⟩)
            | (go_at_call 54; with_reducible refine (rkind_any _ _ (by omega) (by omega)).mono ?_; rintro e w' ⟨rfl, rfl⟩)
            | (go_at_call 56; with_reducible refine (rsize_any _ _ _ (by omega) (by omega) (by omega) (by omega)).mono ?_; rintro e w' ⟨rfl, rfl⟩)
            | (go_at_call 57; with_reducible refine (whole_any _ _ (by omega) (by omega)).mono ?_; rintro e w' ⟨rfl, rfl⟩)
            | (go_at_call 58; with_reducible refine (shifted_int _ _ _ (by omega) (by omega) (by omega) (by omega)).mono ?_; rintro e w' ⟨rfl, rfl⟩))
      go_ret
      exact ⟨ret_u64 (by rw [SC.out, n.out]), rfl⟩
  · have n := Lib.hid (numbers_nan x y x0 y0 XC.out YC.out (Or.inl (by simpa using k3)))
    go_enter Tryz.func32, Tryz.ntmps32
    go_wp2_with (first
          | (go_at_call 30; with_reducible refine (rcanon_any _ _ (by omega) (by omega)).mono ?_; rintro e w' ⟨rfl, rfl⟩)
          | (go_at_call 54; with_reducible refine (rkind_any _ _ (by omega) (by omega)).mono ?_; rintro e w' ⟨rfl, rfl⟩)
          | (go_at_call 56; with_reducible refine (rsize_any _ _ _ (by omega) (by omega) (by omega) (by omega)).mono ?_; rintro e w' ⟨rfl, rfl⟩)
          | (go_at_call 57; with_reducible refine (whole_any _ _ (by omega) (by omega)).mono ?_; rintro e w' ⟨rfl, rfl⟩)
          | (go_at_call 58; with_reducible refine (shifted_int _ _ _ (by omega) (by omega) (by omega) (by omega)).mono ?_; rintro e w' ⟨rfl, rfl⟩))
    go_ret
    exact ⟨ret_u64 (by rw [SC.out, n.out]), rfl⟩

end Go.Proofs.YtdipddnnckfnmaaGreat

/- AutReg:
  What the document's register does and tells. Conditions: integers' bounds; the state's slices are there.
-/
namespace Go.Proofs.YtdipddnnckfnmaaGreat.Aut
open Go.RowKit (Below intOf)
open Reg (cf bx)

theorem tells_is (v : Int) (w : World) : Calls Tryz.prog 68 #[.int .u64 v] w fun e w' => e = .returned (rv 0 v) ∧ w' = w.alloc (.cells #[.int .i64 0, .int .u64 v] 51) := by
  go_enter Tryz.func68, Tryz.ntmps68
  go_wp2
  exact bodyPost_ret (v := rv 0 v) (by simp [results, Tryz.results68, go_sem]) rfl ⟨rfl, rfl⟩
theorem refuses_is (x : Int) (w : World) : Calls Tryz.prog 69 #[.int .i64 x] w fun e w' => e = .returned (rv x 0) ∧ w' = w.alloc (.cells #[.int .i64 x, .int .u64 0] 51) := by
  go_enter Tryz.func69, Tryz.ntmps69
  go_wp2
  exact bodyPost_ret (v := rv x 0) (by simp [results, Tryz.results69, go_sem]) rfl ⟨rfl, rfl⟩

theorem Five.alloc {w : World} {b : Nat} {r : Int} {k v t : Sl} {cl : Bool} (h : Five w b r k v t cl) (o : Obj) : Five (w.alloc o) b r k v t cl := h.ext (Ext.new w o)
theorem Five.drew {w : World} {b : Nat} {r : Int} {k v t : Sl} {cl : Bool} (h : Five w b r k v t cl) : Five w.drew b r k v t cl := h.ext (Ext.drew (Ext.refl w))
theorem Five.set {w : World} {b : Nat} {r : Int} {k v t : Sl} {cl : Bool} (h : Five w b r k v t cl) {B : Nat} (hB : b ≠ B) (i : Nat) (x : Value) : Five (w.setCell ⟨B, i, none⟩ x) b r k v t cl :=
  ⟨(cell_far hB).trans h.1, (cell_far hB).trans h.2.1, (cell_far hB).trans h.2.2.1, (cell_far hB).trans h.2.2.2.1, (cell_far hB).trans h.2.2.2.2⟩

theorem and5 {a b c d e q : Prop} (h : a ∧ b ∧ c ∧ d ∧ e) (g : q) : a ∧ b ∧ c ∧ d ∧ e ∧ q := ⟨h.1, h.2.1, h.2.2.1, h.2.2.2.1, h.2.2.2.2, g⟩
theorem five_at {X : World} {B : Nat} {r : Int} {ka va ta : Option Addr} {kn kc vn vc tn tc : Nat} {cl : Bool} (h : X.heap.size = B) : Five (X.alloc (.cells #[.int .u64 r, .slice ka kn kc, .slice va vn vc, .slice ta tn tc, .bool cl] 30)) B r ⟨ka, kn, kc⟩ ⟨va, vn, vc⟩ ⟨ta, tn, tc⟩ cl := h ▸ five_new X r ⟨ka, kn, kc⟩ ⟨va, vn, vc⟩ ⟨ta, tn, tc⟩ cl
/-- A call's value. -/
abbrev ov (o : Cl) : Value := .agg #[.int .i64 o.code, .int .u64 o.key, .int .u64 o.val]
/-- The three slices of a state lie in other blocks, as far as there is anything. -/
def OffS (a v t : Sl) (B : Nat) : Prop := (0 < a.n → Off a.a B) ∧ (0 < v.n → Off v.a B) ∧ (0 < t.n → Off t.a B)
theorem WS.farN {w : World} {sl : Option Addr} {n c : Nat} {xs : List Int} (h : WS w sl n c xs) {B : Nat} (hb : 0 < n → Off sl B) (i : Nat) (v : Value) : WS (w.setCell ⟨B, i, none⟩ v) sl n c xs := by
  rcases Nat.eq_zero_or_pos n with h0 | h0
  · subst h0
    have : xs = [] := List.eq_nil_of_length_eq_zero h.len
    subst this
    exact WS.empty _ _ _ h.cle
  · exact h.far (hb h0) i v
theorem NS.farN {w : World} {sl : Option Addr} {n c : Nat} {xs : List Int} (h : NS w sl n c xs) {B : Nat} (hb : 0 < n → Off sl B) (i : Nat) (v : Value) : NS (w.setCell ⟨B, i, none⟩ v) sl n c xs := by
  rcases Nat.eq_zero_or_pos n with h0 | h0
  · subst h0
    have : xs = [] := List.eq_nil_of_length_eq_zero h.len
    subst this
    exact NS.empty _ _ _ h.cle
  · exact h.far (hb h0) i v
/-- What is written into another block leaves a state. -/
theorem SS.set {w : World} {k v t : Sl} {s : St} (h : SS w k v t s) {B : Nat} (hb : OffS k v t B) (i : Nat) (x : Value) : SS (w.setCell ⟨B, i, none⟩ x) k v t s :=
  ⟨h.1, h.2.1.farN hb.1 i x, h.2.2.1.farN hb.2.1 i x, h.2.2.2.farN hb.2.2 i x⟩
/-- A state's slices lie in what there is. -/
theorem SS.off {w : World} {k v t : Sl} {s : St} (h : SS w k v t s) {B : Nat} (hB : w.heap.size ≤ B) : OffS k v t B := by
  refine ⟨fun h0 g o e => ?_, fun h0 g o e => ?_, fun h0 g o e => ?_⟩
  · obtain ⟨x, _, _, b, o', e2, hc⟩ := h.2.1.get (k := 0) h0
    have h1 : b < w.heap.size := World.block_lt_of_cell? w _ hc
    rw [e] at e2; cases e2; omega
  · obtain ⟨x, _, _, b, o', e2, hc⟩ := h.2.2.1.get (k := 0) h0
    have h1 : b < w.heap.size := World.block_lt_of_cell? w _ hc
    rw [e] at e2; cases e2; omega
  · obtain ⟨x, _, _, b, o', e2, hc⟩ := h.2.2.2.get (k := 0) h0
    have h1 : b < w.heap.size := World.block_lt_of_cell? w _ hc
    rw [e] at e2; cases e2; omega
/-- A call that answers a state and an answer; where the state that came in did not lie, among what there was, nor does what comes out. -/
def DE (a b c : Sl) (x : St × Rs) (w : World) (e : Ending) (w' : World) : Prop := Ext w w' ∧ ∃ k v t, e = .returned (.tuple #[sv x.1.reg k v t x.1.closed, rv x.2.1 x.2.2]) ∧ SS w' k v t x.1 ∧ ∀ B, B < w.heap.size → OffS a b c B → OffS k v t B

set_option maxHeartbeats 8000000 in
set_option maxRecDepth 100000 in
theorem register_any (a v t : Sl) (s : St) (o : Cl) (w : World) (hS : SS w a v t s) (ho : Wc o) :
    Calls Tryz.prog 48 #[sv s.reg a v t s.closed, ov o] w (DE a v t (regS s o) w) := by
  obtain ⟨ka, kn, kc⟩ := a
  obtain ⟨va, vn, vc⟩ := v
  obtain ⟨ta, tn, tc⟩ := t
  obtain ⟨r, ks, vs, vt, cl⟩ := s
  obtain ⟨cd, ky, vl⟩ := o
  have hr := hS.1
  have HS := Lib.hid hS
  obtain ⟨_, hky, hvl⟩ := ho
  clear hS
  dsimp only [sv, ov] at *
  by_cases h1 : cd = 1
  · subst h1
    have hz : RowKit.Hid (regS ⟨r, ks, vs, vt, cl⟩ ⟨1, ky, vl⟩ = (⟨r, ks, vs, vt, cl⟩, (0, r))) := Lib.hid rfl
    have hu := hr
    have FW := five_new w r ⟨ka, kn, kc⟩ ⟨va, vn, vc⟩ ⟨ta, tn, tc⟩ cl
    go_enter Tryz.func48, Tryz.ntmps48
    go_wp2_with (fail)
    go_region_held3 (fun w' => (w'.cell? ⟨w.heap.size, 0, none⟩ = some (.int .u64 r) ∧ w'.cell? ⟨w.heap.size, 1, none⟩ = some (.slice ka kn kc) ∧ w'.cell? ⟨w.heap.size, 2, none⟩ = some (.slice va vn vc) ∧ w'.cell? ⟨w.heap.size, 3, none⟩ = some (.slice ta tn tc) ∧ w'.cell? ⟨w.heap.size, 4, none⟩ = some (.bool cl)))
      (first | ((show Five _ (w.heap.size) r ⟨ka, kn, kc⟩ ⟨va, vn, vc⟩ ⟨ta, tn, tc⟩ cl); repeat (first | with_reducible exact FW | ((with_reducible refine five_at ?_); (simp; done)) | with_reducible refine Five.alloc ?_ _ | with_reducible refine Five.drew ?_ | with_reducible refine Five.set ?_ (by omega) _ _)) | go_keep)
      ((go_at_call 68; (with_reducible refine (tells_is _ _).mono ?_); rintro e w1 ⟨rfl, rfl⟩))
    rename_i hh
    clear hh
    go_wp2_with (fail)
    refine bodyPost_ret (v := .tuple #[sv (r) ⟨ka, kn, kc⟩ ⟨va, vn, vc⟩ ⟨ta, tn, tc⟩ cl, rv 0 (r)]) (by simp [results, Tryz.results48, go_sem]) rfl ?_
    rw [hz.out]
    refine ⟨?_, _, _, _, rfl, ⟨hu, HS.out.2.1.ext ?_, HS.out.2.2.1.ext ?_, HS.out.2.2.2.ext ?_⟩, fun _ _ h => h⟩ <;> repeat (first | exact Ext.refl _ | refine Ext.alloc ?_ _ | refine Ext.drew ?_)
  · by_cases h2 : cd = 2
    · subst h2
      have hz : RowKit.Hid (regS ⟨r, ks, vs, vt, cl⟩ ⟨2, ky, vl⟩ = (⟨canon vl, ks, vs, vt, cl⟩, (0, r))) := Lib.hid rfl
      have hu : U64 (canon vl) := ⟨canon_lo _ hvl.1, canon_hi _ hvl.2⟩
      have hcall := fun W => rcanon_any vl W hvl.1 hvl.2
      obtain ⟨R, hR⟩ : ∃ R, canon vl = R := ⟨_, rfl⟩
      rw [hR] at hz hu hcall
      clear hR
      have FW := five_new w r ⟨ka, kn, kc⟩ ⟨va, vn, vc⟩ ⟨ta, tn, tc⟩ cl
      go_enter Tryz.func48, Tryz.ntmps48
      go_wp2_with (go_at_call 30; (with_reducible refine (hcall _).mono ?_); rintro e w1 ⟨rfl, rfl⟩)
      clear hcall
      go_region_held3 (fun w' => (w'.cell? ⟨w.heap.size, 0, none⟩ = some (.int .u64 r) ∧ w'.cell? ⟨w.heap.size, 1, none⟩ = some (.slice ka kn kc) ∧ w'.cell? ⟨w.heap.size, 2, none⟩ = some (.slice va vn vc) ∧ w'.cell? ⟨w.heap.size, 3, none⟩ = some (.slice ta tn tc) ∧ w'.cell? ⟨w.heap.size, 4, none⟩ = some (.bool cl) ∧ w'.cell? ⟨w.heap.size + 1 + 1 + 1 + 1, 0, none⟩ = some (.int .u64 R) ∧ w'.cell? ⟨w.heap.size + 1 + 1 + 1 + 1, 1, none⟩ = some (.slice ka kn kc) ∧ w'.cell? ⟨w.heap.size + 1 + 1 + 1 + 1, 2, none⟩ = some (.slice va vn vc) ∧ w'.cell? ⟨w.heap.size + 1 + 1 + 1 + 1, 3, none⟩ = some (.slice ta tn tc) ∧ w'.cell? ⟨w.heap.size + 1 + 1 + 1 + 1, 4, none⟩ = some (.bool cl)))
        (first | exact and5 (by ((show Five _ (w.heap.size) r ⟨ka, kn, kc⟩ ⟨va, vn, vc⟩ ⟨ta, tn, tc⟩ cl); repeat (first | with_reducible exact FW | ((with_reducible refine five_at ?_); (simp; done)) | with_reducible refine Five.alloc ?_ _ | with_reducible refine Five.drew ?_ | with_reducible refine Five.set ?_ (by omega) _ _))) (by ((show Five _ (w.heap.size + 1 + 1 + 1 + 1) R ⟨ka, kn, kc⟩ ⟨va, vn, vc⟩ ⟨ta, tn, tc⟩ cl); repeat (first | with_reducible exact FW | ((with_reducible refine five_at ?_); (simp; done)) | with_reducible refine Five.alloc ?_ _ | with_reducible refine Five.drew ?_ | with_reducible refine Five.set ?_ (by omega) _ _))) | go_keep)
        ((go_at_call 68; (with_reducible refine (tells_is _ _).mono ?_); rintro e w1 ⟨rfl, rfl⟩))
      rename_i hh
      clear hh
      go_wp2_with (fail)
      refine bodyPost_ret (v := .tuple #[sv (R) ⟨ka, kn, kc⟩ ⟨va, vn, vc⟩ ⟨ta, tn, tc⟩ cl, rv 0 (r)]) (by simp [results, Tryz.results48, go_sem]) rfl ?_
      rw [hz.out]
      refine ⟨?_, _, _, _, rfl, ⟨hu, HS.out.2.1.ext ?_, HS.out.2.2.1.ext ?_, HS.out.2.2.2.ext ?_⟩, fun _ _ h => h⟩ <;> repeat (first | exact Ext.refl _ | refine Ext.alloc ?_ _ | refine Ext.drew ?_)
    · by_cases h3 : cd = 3
      · subst h3
        have hz : RowKit.Hid (regS ⟨r, ks, vs, vt, cl⟩ ⟨3, ky, vl⟩ = (⟨maxOf r vl, ks, vs, vt, cl⟩, (0, maxOf r vl))) := Lib.hid rfl
        have hu : U64 (maxOf r vl) := maxOf_u hr hvl
        have hcall := fun W => rmax_any r vl W hr.1 hr.2 hvl.1 hvl.2
        obtain ⟨R, hR⟩ : ∃ R, maxOf r vl = R := ⟨_, rfl⟩
        rw [hR] at hz hu hcall
        clear hR
        have FW := five_new w r ⟨ka, kn, kc⟩ ⟨va, vn, vc⟩ ⟨ta, tn, tc⟩ cl
        go_enter Tryz.func48, Tryz.ntmps48
        go_wp2_with (go_at_call 33; (with_reducible refine (hcall _).mono ?_); rintro e w1 ⟨rfl, rfl⟩)
        clear hcall
        go_region_held3 (fun w' => (w'.cell? ⟨w.heap.size + 1 + 1 + 1 + 1, 0, none⟩ = some (.int .u64 R) ∧ w'.cell? ⟨w.heap.size + 1 + 1 + 1 + 1, 1, none⟩ = some (.slice ka kn kc) ∧ w'.cell? ⟨w.heap.size + 1 + 1 + 1 + 1, 2, none⟩ = some (.slice va vn vc) ∧ w'.cell? ⟨w.heap.size + 1 + 1 + 1 + 1, 3, none⟩ = some (.slice ta tn tc) ∧ w'.cell? ⟨w.heap.size + 1 + 1 + 1 + 1, 4, none⟩ = some (.bool cl)))
          (first | ((show Five _ (w.heap.size + 1 + 1 + 1 + 1) R ⟨ka, kn, kc⟩ ⟨va, vn, vc⟩ ⟨ta, tn, tc⟩ cl); repeat (first | with_reducible exact FW | ((with_reducible refine five_at ?_); (simp; done)) | with_reducible refine Five.alloc ?_ _ | with_reducible refine Five.drew ?_ | with_reducible refine Five.set ?_ (by omega) _ _)) | go_keep)
          ((go_at_call 68; (with_reducible refine (tells_is _ _).mono ?_); rintro e w1 ⟨rfl, rfl⟩))
        rename_i hh
        clear hh
        go_wp2_with (fail)
        refine bodyPost_ret (v := .tuple #[sv (R) ⟨ka, kn, kc⟩ ⟨va, vn, vc⟩ ⟨ta, tn, tc⟩ cl, rv 0 (R)]) (by simp [results, Tryz.results48, go_sem]) rfl ?_
        rw [hz.out]
        refine ⟨?_, _, _, _, rfl, ⟨hu, HS.out.2.1.ext ?_, HS.out.2.2.1.ext ?_, HS.out.2.2.2.ext ?_⟩, fun _ _ h => h⟩ <;> repeat (first | exact Ext.refl _ | refine Ext.alloc ?_ _ | refine Ext.drew ?_)
      · by_cases h4 : cd = 4
        · subst h4
          have hz : RowKit.Hid (regS ⟨r, ks, vs, vt, cl⟩ ⟨4, ky, vl⟩ = (⟨sumOf r vl, ks, vs, vt, cl⟩, (0, sumOf r vl))) := Lib.hid rfl
          have hu : U64 (sumOf r vl) := ⟨sum_lo _ _, sum_hi _ _⟩
          have hcall := fun W => rsum_any r vl W hr.1 hr.2 hvl.1 hvl.2
          obtain ⟨R, hR⟩ : ∃ R, sumOf r vl = R := ⟨_, rfl⟩
          rw [hR] at hz hu hcall
          clear hR
          have FW := five_new w r ⟨ka, kn, kc⟩ ⟨va, vn, vc⟩ ⟨ta, tn, tc⟩ cl
          go_enter Tryz.func48, Tryz.ntmps48
          go_wp2_with (go_at_call 32; (with_reducible refine (hcall _).mono ?_); rintro e w1 ⟨rfl, rfl⟩)
          clear hcall
          go_region_held3 (fun w' => (w'.cell? ⟨w.heap.size + 1 + 1 + 1 + 1, 0, none⟩ = some (.int .u64 R) ∧ w'.cell? ⟨w.heap.size + 1 + 1 + 1 + 1, 1, none⟩ = some (.slice ka kn kc) ∧ w'.cell? ⟨w.heap.size + 1 + 1 + 1 + 1, 2, none⟩ = some (.slice va vn vc) ∧ w'.cell? ⟨w.heap.size + 1 + 1 + 1 + 1, 3, none⟩ = some (.slice ta tn tc) ∧ w'.cell? ⟨w.heap.size + 1 + 1 + 1 + 1, 4, none⟩ = some (.bool cl)))
            (first | ((show Five _ (w.heap.size + 1 + 1 + 1 + 1) R ⟨ka, kn, kc⟩ ⟨va, vn, vc⟩ ⟨ta, tn, tc⟩ cl); repeat (first | with_reducible exact FW | ((with_reducible refine five_at ?_); (simp; done)) | with_reducible refine Five.alloc ?_ _ | with_reducible refine Five.drew ?_ | with_reducible refine Five.set ?_ (by omega) _ _)) | go_keep)
            ((go_at_call 68; (with_reducible refine (tells_is _ _).mono ?_); rintro e w1 ⟨rfl, rfl⟩))
          rename_i hh
          clear hh
          go_wp2_with (fail)
          refine bodyPost_ret (v := .tuple #[sv (R) ⟨ka, kn, kc⟩ ⟨va, vn, vc⟩ ⟨ta, tn, tc⟩ cl, rv 0 (R)]) (by simp [results, Tryz.results48, go_sem]) rfl ?_
          rw [hz.out]
          refine ⟨?_, _, _, _, rfl, ⟨hu, HS.out.2.1.ext ?_, HS.out.2.2.1.ext ?_, HS.out.2.2.2.ext ?_⟩, fun _ _ h => h⟩ <;> repeat (first | exact Ext.refl _ | refine Ext.alloc ?_ _ | refine Ext.drew ?_)
        · have hz : RowKit.Hid (regS ⟨r, ks, vs, vt, cl⟩ ⟨cd, ky, vl⟩ = (⟨r, ks, vs, vt, cl⟩, (10, 0))) := Lib.hid (by unfold regS; simp only; rw [if_neg h1, if_neg h2, if_neg h3, if_neg h4])
          have hu := hr
          have e1 : (cd == 1) = false := by simpa using h1
          have e2 : (cd == 2) = false := by simpa using h2
          have e3 : (cd == 3) = false := by simpa using h3
          have e4 : (cd == 4) = false := by simpa using h4
          clear h1 h2 h3 h4
          have FW := five_new w r ⟨ka, kn, kc⟩ ⟨va, vn, vc⟩ ⟨ta, tn, tc⟩ cl
          go_enter Tryz.func48, Tryz.ntmps48
          go_wp2_with (fail)
          go_region_held3 (fun w' => (w'.cell? ⟨w.heap.size, 0, none⟩ = some (.int .u64 r) ∧ w'.cell? ⟨w.heap.size, 1, none⟩ = some (.slice ka kn kc) ∧ w'.cell? ⟨w.heap.size, 2, none⟩ = some (.slice va vn vc) ∧ w'.cell? ⟨w.heap.size, 3, none⟩ = some (.slice ta tn tc) ∧ w'.cell? ⟨w.heap.size, 4, none⟩ = some (.bool cl)))
            (first | ((show Five _ (w.heap.size) r ⟨ka, kn, kc⟩ ⟨va, vn, vc⟩ ⟨ta, tn, tc⟩ cl); repeat (first | with_reducible exact FW | ((with_reducible refine five_at ?_); (simp; done)) | with_reducible refine Five.alloc ?_ _ | with_reducible refine Five.drew ?_ | with_reducible refine Five.set ?_ (by omega) _ _)) | go_keep)
            ((go_at_call 69; (with_reducible refine (refuses_is _ _).mono ?_); rintro e w1 ⟨rfl, rfl⟩))
          rename_i hh
          clear hh
          go_wp2_with (fail)
          refine bodyPost_ret (v := .tuple #[sv (r) ⟨ka, kn, kc⟩ ⟨va, vn, vc⟩ ⟨ta, tn, tc⟩ cl, rv 10 (0)]) (by simp [results, Tryz.results48, go_sem]) rfl ?_
          rw [hz.out]
          refine ⟨?_, _, _, _, rfl, ⟨hu, HS.out.2.1.ext ?_, HS.out.2.2.1.ext ?_, HS.out.2.2.2.ext ?_⟩, fun _ _ h => h⟩ <;> repeat (first | exact Ext.refl _ | refine Ext.alloc ?_ _ | refine Ext.drew ?_)

end Go.Proofs.YtdipddnnckfnmaaGreat.Aut

/- AutWith:
  What the document's with and without return: a list with one more, or one less, in new memory. Condition: the list is there, the place within it.
-/
namespace Go.Proofs.YtdipddnnckfnmaaGreat.Aut
open Go.RowKit (Below intOf)
open Reg (cf bx)

theorem off_grown {sl : Option Addr} {n c base : Nat} (h : ∀ k, (Value.slice sl n c).ownBlock = some k → base ≤ k) : ∀ B, B < base → Off sl B := fun _ hB => off_own h hB

set_option maxHeartbeats 4000000 in
set_option maxRecDepth 100000 in
theorem with_any (s : Option Addr) (n c : Nat) (l : List Int) (i : Nat) (x : Int) (w : World) (hW : WS w s n c l) (hi : i ≤ n) (hn : n < 1000000) (hx : U64 x) :
    Calls Tryz.prog 76 #[.slice s n c, .int .i64 i, .int .u64 x] w fun e w' => ∃ sl c', e = .returned (.slice sl (n + 1) c') ∧ WS w' sl (n + 1) c' (withL l i x) ∧ Ext w w' ∧ ∀ B, B < w.heap.size → Off sl B := by
  have hnc := hW.lc
  obtain ⟨A1, eA, lA⟩ : ∃ A1, RowKit.Hid (i = A1) ∧ A1 ≤ n := ⟨i, Lib.hid rfl, hi⟩
  have q1 : ∀ W, (Instr.sliceAt 27 (.slice s n c) none (some (.int .i64 (i : Int))) none).run Tryz.prog W = .ok (.slice s A1 c) W := fun W => by rw [← eA.out]; exact slice_hiWS s n c i (by omega) W
  obtain ⟨s2', n2', c2', q2, hO5, en2⟩ : ∃ s2' n2' c2', (∀ W, (Instr.sliceAt 27 (.slice s n c) (some (.int .i64 (i : Int))) none none).run Tryz.prog W = .ok (.slice s2' n2' c2') W) ∧ WS w s2' n2' c2' (l.drop A1) ∧ n2' + A1 = n := ⟨_, _, _, fun W => slice_loWS s n c i (by omega) W, by rw [← eA.out]; exact hW.drop (by omega), by rw [← eA.out]; omega⟩
  have hO4 : WS w s A1 c (l.take A1) := hW.take lA
  obtain ⟨L2, eL2⟩ : ∃ L2, RowKit.Hid (A1 + 1 = L2) := ⟨_, Lib.hid rfl⟩
  obtain ⟨L3, eL3⟩ : ∃ L3, RowKit.Hid (L2 + n2' = L3) := ⟨_, Lib.hid rfl⟩
  have lL2 : L2 ≤ 1048577 := by have := eL2.out; omega
  have lL3 : RowKit.Hid (L3 = n + 1) := Lib.hid (by have := eL2.out; have := eL3.out; omega)
  have lL4 : L3 ≤ 1000000 := by have := lL3.out; omega
  have hfl : RowKit.Hid (l.take A1 ++ [x] ++ l.drop A1 = withL l i x) := Lib.hid (by rw [eA.out]; unfold withL; simp)
  clear en2 hi
  go_enter Tryz.func76, Tryz.ntmps76
  go_wp2_with (fail)
  go_region_held3 (fun _ => True)
    (first
      | trivial
      | go_keep)
    (first
      | (refine step_appendWS w.drew (by rfl) (.const (.slice none 0 0)) (.tmp 9) (by rfl) w.heap.size 0 (.slice none 0 0) [] (by rfl) (World.ownsRow_nil _ _ _ _) s A1 c (l.take A1) (by rfl) (hO4.ext (Ext.drew (Ext.refl w))) A1 (Nat.zero_add _) (by omega) (Nat.le_refl _) ?_; intro sx kx w1 hown1 hg1; have x1 : Ext w w1 := Ext.grown (Ext.drew (Ext.refl w)) hg1 (fun k e => by simp [Value.ownBlock] at e); have y1 : WS (w1.alloc (.cells #[.int .u64 x] 26)) (some ⟨w1.heap.size, 0, none⟩) 1 1 [x] := WS.lit w1 x hx; have o1 := hown1.alloc (.cells #[.int .u64 x] 26))
      | (refine step_appendWS (w.alloc (.cells #[.int .u64 x] 26)).drew (by rfl) (.const (.slice none 0 0)) (.tmp 9) (by rfl) w.heap.size 0 (.slice none 0 0) [] (by rfl) (World.ownsRow_nil _ _ _ _) s A1 c (l.take A1) (by rfl) (hO4.ext (Ext.drew (Ext.new w _))) A1 (Nat.zero_add _) (by omega) (by simp) ?_; intro sx kx w1 hown1 hg1; have x1 : Ext w w1 := Ext.grown (Ext.drew (Ext.new w _)) hg1 (fun k e => by simp [Value.ownBlock] at e); have y1 : WS w1 (some ⟨w.heap.size, 0, none⟩) 1 1 [x] := WS.ext (WS.lit w x hx) (Ext.grown (Ext.drew (Ext.refl _)) hg1 (fun k e => by simp [Value.ownBlock] at e)); have o1 := hown1)
      | (refine step_appendWS _ (by rfl) (.tmp 10) (.tmp 12) (by rfl) w.heap.size _ _ _ (by rfl) o1 _ 1 1 [x] (by rfl) y1 L2 eL2.out (by omega) (by have := x1.size; simp; omega) ?_; intro sy ky w2 hown2 hg2; have x2 : Ext w w2 := Ext.grown (by first | exact Ext.alloc x1 _ | exact x1) hg2 (own_ge hown1))
      | (refine step_appendWS w2 (by rfl) (.tmp 13) (.tmp 16) (by rfl) w.heap.size _ _ _ (by rfl) hown2 s2' n2' c2' (l.drop A1) (by rfl) (hO5.ext x2) L3 eL3.out (by omega) x2.size ?_; intro sz kz w3 hown3 hg3; have x3 : Ext w w3 := Ext.grown x2 hg3 (own_ge hown2)))
  all_goals
    have hfin : RowKit.Hid (WS w3 sz L3 kz (l.take A1 ++ [x] ++ l.drop A1)) := Lib.hid (by
      refine WS.of_own (by simpa using hown3) ?_ (by omega) (fun y hy => ?_)
      · have z1 := hO4.len
        have z2 := hO5.len
        rw [List.length_append, List.length_append, z2, z1, ← eL3.out, ← eL2.out]; rfl
      · simp only [List.mem_append, List.mem_cons, List.not_mem_nil, or_false] at hy
        rcases hy with (hy | rfl) | hy
        · exact hO4.range y hy
        · exact hx
        · exact hO5.range y hy)
    have hof := Lib.hid (off_grown (own_ge hown3))
    have HX3 := Lib.hid x3
    clear hown1 hown2 hown3 hg1 hg2 hg3 x1 x2 x3 y1 o1 q1 q2 hO4 hO5
    go_wp2_with (fail)
    go_ret
    rw [hfl.out, lL3.out] at hfin
    exact ⟨sz, kz, by rw [lL3.out]; rfl, hfin.out, HX3.out, hof.out⟩

set_option maxHeartbeats 4000000 in
set_option maxRecDepth 100000 in
theorem without_any (s : Option Addr) (n c : Nat) (l : List Int) (i : Nat) (w : World) (hW : WS w s n c l) (hi : i < n) (hn : n < 1000000) :
    Calls Tryz.prog 75 #[.slice s n c, .int .i64 i] w fun e w' => ∃ sl c', e = .returned (.slice sl (n - 1) c') ∧ WS w' sl (n - 1) c' (withoutL l i) ∧ Ext w w' ∧ ∀ B, B < w.heap.size → Off sl B := by
  have hnc := hW.lc
  obtain ⟨A1, eA, lA⟩ : ∃ A1, RowKit.Hid (i = A1) ∧ A1 ≤ n := ⟨i, Lib.hid rfl, by omega⟩
  have q1 : ∀ W, (Instr.sliceAt 27 (.slice s n c) none (some (.int .i64 (i : Int))) none).run Tryz.prog W = .ok (.slice s A1 c) W := fun W => by rw [← eA.out]; exact slice_hiWS s n c i (by omega) W
  obtain ⟨s2', n2', c2', q2, hO5, en2⟩ : ∃ s2' n2' c2', (∀ W, (Instr.sliceAt 27 (.slice s n c) (some (.int .i64 ((i : Int) + 1))) none none).run Tryz.prog W = .ok (.slice s2' n2' c2') W) ∧ WS w s2' n2' c2' (l.drop (A1 + 1)) ∧ n2' + (A1 + 1) = n := ⟨_, _, _, fun W => slice_loWS s n c (i + 1) (by omega) W, by rw [← eA.out]; exact hW.drop (by omega), by rw [← eA.out]; omega⟩
  have hw1 : IntKind.i64.wrap ((i : Int) + 1) = i + 1 := IntWalk.i64_in _ (by omega)
  have hO4 : WS w s A1 c (l.take A1) := hW.take lA
  obtain ⟨L3, eL3⟩ : ∃ L3, RowKit.Hid (A1 + n2' = L3) := ⟨_, Lib.hid rfl⟩
  have lL3 : RowKit.Hid (L3 = n - 1) := Lib.hid (by have := eL3.out; omega)
  have lL4 : L3 ≤ 1000000 := by have := lL3.out; omega
  have hfl : RowKit.Hid (l.take A1 ++ l.drop (A1 + 1) = withoutL l i) := Lib.hid (by rw [eA.out]; unfold withoutL; rfl)
  clear en2
  go_enter Tryz.func75, Tryz.ntmps75
  go_wp2_with (fail)
  go_region_held3 (fun _ => True)
    (first
      | trivial
      | go_keep)
    (first
      | (refine step_appendWS w.drew (by rfl) (.const (.slice none 0 0)) (.tmp 7) (by rfl) w.heap.size 0 (.slice none 0 0) [] (by rfl) (World.ownsRow_nil _ _ _ _) s A1 c (l.take A1) (by rfl) (hO4.ext (Ext.drew (Ext.refl w))) A1 (Nat.zero_add _) (by omega) (Nat.le_refl _) ?_; intro sx kx w1 hown1 hg1; have x1 : Ext w w1 := Ext.grown (Ext.drew (Ext.refl w)) hg1 (fun k e => by simp [Value.ownBlock] at e))
      | (refine step_appendWS w1 (by rfl) (.tmp 8) (.tmp 12) (by rfl) w.heap.size _ _ _ (by rfl) hown1 s2' n2' c2' (l.drop (A1 + 1)) (by rfl) (hO5.ext x1) L3 eL3.out (by omega) x1.size ?_; intro sz kz w3 hown3 hg3; have x3 : Ext w w3 := Ext.grown x1 hg3 (own_ge hown1)))
  all_goals
    have hfin : RowKit.Hid (WS w3 sz L3 kz (l.take A1 ++ l.drop (A1 + 1))) := Lib.hid (by
      refine WS.of_own (by simpa using hown3) ?_ (by omega) (fun y hy => ?_)
      · have z1 := hO4.len
        have z2 := hO5.len
        rw [List.length_append, z2, z1, ← eL3.out]
      · rw [List.mem_append] at hy
        rcases hy with hy | hy
        · exact hO4.range y hy
        · exact hO5.range y hy)
    have hof := Lib.hid (off_grown (own_ge hown3))
    have HX3 := Lib.hid x3
    clear hown1 hown3 hg1 hg3 x1 x3 q1 q2 hO4 hO5
    go_wp2_with (fail)
    go_ret
    rw [hfl.out, lL3.out] at hfin
    exact ⟨sz, kz, by rw [lL3.out]; rfl, hfin.out, HX3.out, hof.out⟩

end Go.Proofs.YtdipddnnckfnmaaGreat.Aut

