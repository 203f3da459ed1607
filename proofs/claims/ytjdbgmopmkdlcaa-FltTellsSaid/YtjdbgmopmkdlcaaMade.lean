/-
  What the document's own steps of a sum return (less, whole, shifted, made), in whatever world. Their conditions: words from 0 to less than 2^64; of shifted a count from 0 to 2^62; of made a sign of 0 or 1, an exponent from 1 to 2100, and a fraction in eighths that is a number's, its last bit kept.
-/
import Derived.Test.YtjdbgmopmkdlcaaRef
import Derived.Test.YtjdbgmopmkdlcaaJam
import Derived.Deep.Cut
namespace Go.Proofs.Ytjdbgmopmkdlcaa
open Go.RowKit

set_option maxHeartbeats 400000 in
theorem rsize_any (x y : Int) (w : World) (h0 : 0 ≤ x) (h1 : x < 18446744073709551616) (g0 : 0 ≤ y) (g1 : y < 18446744073709551616) :
    Calls Try.prog 30 #[.int .u64 x, .int .u64 y] w fun e w' => e = .returned (.bool (decide (x % 9223372036854775808 < y % 9223372036854775808))) ∧ w = w' := by
  go_enter Try.func30, Try.ntmps30
  go_wp2
  go_ret
  exact ⟨rfl, rfl⟩

def wholeE (x : Int) : Int := if x % 9223372036854775808 < 4503599627370496 then 1 else x % 9223372036854775808 / 4503599627370496

def wholeM (x : Int) : Int := if x % 9223372036854775808 < 4503599627370496 then x % 9223372036854775808 * 8 else (x % 4503599627370496 + 4503599627370496) * 8

set_option maxHeartbeats 400000 in
theorem whole_any (x : Int) (w : World) (h0 : 0 ≤ x) (h1 : x < 18446744073709551616) :
    Calls Try.prog 31 #[.int .u64 x] w fun e w' => e = .returned (.tuple #[.int .i64 (wholeE x), .int .u64 (wholeM x)]) ∧ w = w' := by
  have p0 : 0 ≤ x % 9223372036854775808 / 4503599627370496 := by omega
  have p1 : x % 9223372036854775808 / 4503599627370496 < 2048 := by omega
  have q0 : 0 ≤ x % 4503599627370496 := by omega
  have q1 : x % 4503599627370496 < 4503599627370496 := by omega
  by_cases c : x % 9223372036854775808 < 4503599627370496
  · have c1 : (x % 9223372036854775808 / 4503599627370496 == 0) = true := by simp only [beq_iff_eq]; omega
    have H1 : Hid (wholeE x = 1) := Lib.hid (by unfold wholeE; rw [if_pos c])
    have H2 : Hid (wholeM x = x % 9223372036854775808 * 8) := Lib.hid (by unfold wholeM; rw [if_pos c])
    go_enter Try.func31, Try.ntmps31
    go_wp2_with (go_at_call 27; with_reducible refine (parts_any _ _ (by omega) (by omega)).mono ?_; rintro e w' ⟨rfl, rfl⟩)
    go_ret2
    exact ⟨ret_two H1.out.symm (by rw [H2.out]; omega), rfl⟩
  · have c1 : (x % 9223372036854775808 / 4503599627370496 == 0) = false := by simp only [beq_eq_false_iff_ne, ne_eq]; omega
    have H1 : Hid (wholeE x = x % 9223372036854775808 / 4503599627370496) := Lib.hid (by unfold wholeE; rw [if_neg c])
    have H2 : Hid (wholeM x = (x % 4503599627370496 + 4503599627370496) * 8) := Lib.hid (by unfold wholeM; rw [if_neg c])
    go_enter Try.func31, Try.ntmps31
    go_wp2_with (go_at_call 27; with_reducible refine (parts_any _ _ (by omega) (by omega)).mono ?_; rintro e w' ⟨rfl, rfl⟩)
    go_ret2
    exact ⟨ret_two H1.out.symm H2.out.symm, rfl⟩

theorem or_jam (s : Nat) (h : s < 18446744073709551616) : bits .or .u64 ((s : Int) / 2) ((s : Int) % 2) = ((jam1 s : Nat) : Int) := by
  have e1 : ((s : Int) / 2) = ((s / 2 : Nat) : Int) := by omega
  have e2 : ((s : Int) % 2) = ((s % 2 : Nat) : Int) := by omega
  rw [e1, e2, u64_or_nat _ _ (by omega) (by omega)]
  have c : s % 2 = 0 ∨ s % 2 = 1 := by omega
  unfold jam1
  rcases c with c | c <;> rw [c]
  · rw [Nat.or_zero]; split <;> omega
  · have o : s / 2 ||| 1 = 2 * (s / 2 / 2) + 1 := by
      have hm : (s / 2 ||| 1) % 2 = 1 := by rw [← Nat.pow_one 2, Nat.or_mod_two_pow]; have : s / 2 % 2 = 0 ∨ s / 2 % 2 = 1 := by omega
                                            rcases this with t | t <;> rw [Nat.pow_one, t] <;> rfl
      have hd : (s / 2 ||| 1) / 2 = s / 2 / 2 := by
        have := Nat.or_div_two_pow (a := s / 2) (b := 1) (n := 1)
        rw [Nat.pow_one] at this; rw [this]; simp
      omega
    rw [o, if_neg (by omega)]; omega

theorem jam1_le (s : Nat) : jam1 s ≤ s := by unfold jam1; split <;> omega

theorem jam_stay (T k : Nat) (h : jam T k ≤ 1) : ∀ j, jam T (k + j) = jam T k := by
  intro j
  induction j with
  | zero => rfl
  | succ n ih =>
    rw [← Nat.add_assoc, jam_succ, ih]
    generalize jam T k = t at h
    unfold jam1; split <;> omega

theorem jam_le (T : Nat) : ∀ k, jam T k ≤ T := by
  intro k
  induction k with
  | zero => rw [jam_zero]; exact Nat.le_refl _
  | succ n ih => rw [jam_succ]; exact Nat.le_trans (jam1_le _) ih

set_option maxHeartbeats 1000000 in
theorem shifted_any (M B : Nat) (w : World) (hM : M < 18446744073709551616) (hB : B < 4611686018427387904) :
    Calls Try.prog 32 #[.int .u64 (M : Int), .int .i64 (B : Int)] w fun e w' => e = .returned (.int .u64 ((jam M B : Nat) : Int)) ∧ w = w' := by
  go_enter Try.func32, Try.ntmps32
  go_wp2
  go_loop [0, 5] (fun m i => ∃ k : Nat, k ≤ B ∧ i = .int .i64 k ∧ m = .int .u64 ((jam M k : Nat) : Int)) (fun _ i => B - (intOf i).toNat)
  case atStart => exact ⟨0, Nat.zero_le _, rfl, by rw [jam_zero]⟩
  case round =>
    obtain ⟨k, hk, rfl, rfl⟩ := hrel
    have hle := jam_le M k
    have hst := Lib.hid (jam_stay M k)
    have hsu := Lib.hid (jam_succ M k)
    have hor := or_jam (jam M k) (by omega)
    obtain ⟨t, ht⟩ : ∃ t, jam M k = t := ⟨_, rfl⟩
    rw [ht] at hle hst hsu hor
    have T := Lib.hid ht
    rw [ht]
    clear ht
    by_cases hlt : k < B
    · by_cases h1 : 1 < t
      · go_wp2
        go_round
        case rel => exact ⟨k + 1, by omega, by go_num, by rw [hsu.out]⟩
        case measure => simp [intOf]; omega
      · have e := (hst.out (by omega)) (B - k)
        rw [show k + (B - k) = B from by omega] at e
        have E := Lib.hid e
        clear e
        by_cases h2 : t = 1
        · subst h2
          go_wp2
          go_ret
          exact ⟨ret_u64 (by rw [E.out]; rfl), rfl⟩
        · have h3 : ((t : Int) == 1) = false := by simp only [beq_eq_false_iff_ne, ne_eq]; omega
          go_wp2
          go_ret
          exact ⟨ret_u64 (by rw [E.out]), rfl⟩
    · have : k = B := by omega
      subst this
      by_cases h2 : 0 < k
      · by_cases h3 : t = 1
        · subst h3
          go_wp2
          go_ret
          exact ⟨ret_u64 (by rw [T.out]; rfl), rfl⟩
        · have h3 : ((t : Int) == 1) = false := by simp only [beq_eq_false_iff_ne, ne_eq]; omega
          go_wp2
          go_ret
          exact ⟨ret_u64 (by rw [T.out]), rfl⟩
      · go_wp2
        go_ret
        exact ⟨ret_u64 (by rw [T.out]), rfl⟩

/-- The loop's state: a number's eighths, the last bit kept, and whether they may be doubled. -/
def Kept (V e s : Nat) : Prop := s = jam (8 * V) (e - 1) ∧ (8 * V % 2 ^ (e - 1) = 0 ∨ 18014398509481984 ≤ s)

def Normal (V e s : Nat) : Prop := Kept V e s ∨ (s = 2 * jam (8 * V) e ∧ 36028797018963968 ≤ s)

theorem kept_down (V e s : Nat) (he : 1 ≤ e) (h : Kept V e s) (hs : 72057594037927936 ≤ s) (hs2 : s < 144115188075855872) : Kept V (e + 1) (jam1 s) ∧ jam1 s < 72057594037927936 := by
  obtain ⟨h1, _⟩ := h
  have e1 : e + 1 - 1 = (e - 1) + 1 := by omega
  refine ⟨⟨by rw [e1, jam_succ, ← h1], Or.inr ?_⟩, ?_⟩
  · unfold jam1; split <;> omega
  · unfold jam1; split <;> omega

theorem kept_up (V e s : Nat) (he : 1 < e) (h : Kept V e s) : Normal V (e - 1) (s * 2) := by
  obtain ⟨h1, h2⟩ := h
  obtain ⟨k, rfl⟩ : ∃ k, e = k + 2 := ⟨e - 2, by omega⟩
  rw [show k + 2 - 1 = k + 1 from by omega] at h1 h2 ⊢
  by_cases z : 8 * V % 2 ^ (k + 1) = 0
  · refine Or.inl ⟨?_, Or.inl ?_⟩
    · rw [show k + 1 - 1 = k from by omega, Nat.mul_comm, h1, jam_double _ _ z]
    · rw [show k + 1 - 1 = k from by omega]; exact mod_pow_le _ _ z
  · refine Or.inr ⟨by rw [Nat.mul_comm, h1], ?_⟩
    rcases h2 with h2 | h2
    · exact absurd h2 z
    · omega

def madeOf (sg : Int) (V : Nat) : Int := if V = 0 then 0 else sg * 9223372036854775808 + ((min (rungOf V) 9218868437227405312 : Nat) : Int)

theorem made_end (sg : Int) (V e s : Nat) (hV : V ≠ 0) (he : 1 ≤ e) (hN : Normal V e s) (hlt : s < 72057594037927936) (hn : 36028797018963968 ≤ s ∨ e = 1) :
    madeOf sg V = sg * 9223372036854775808 + ((min ((e - 1) * 4503599627370496 + (s / 8 + (if 8 < 2 * (s % 8) ∨ (8 = 2 * (s % 8) ∧ s / 8 % 2 = 1) then 1 else 0))) 9218868437227405312 : Nat) : Int) := by
  unfold madeOf
  rw [if_neg hV, made_rung V s e he (by rcases hN with h | h; exact Or.inl h.1; exact Or.inr h.1) hlt hn]
  rfl

set_option maxRecDepth 20000 in
set_option maxHeartbeats 4000000 in
theorem made_any (sg : Int) (E S V : Nat) (w : World) (g0 : 0 ≤ sg) (g1 : sg ≤ 1) (hE : 1 ≤ E) (hE2 : E ≤ 2100) (hV : V ≠ 0) (hS : (S : Int) < 144115188075855872) (hK : Kept V E S) :
    Calls Try.prog 33 #[.int .u64 sg, .int .i64 (E : Int), .int .u64 (S : Int)] w fun e w' => e = .returned (.int .u64 (madeOf sg V)) ∧ w = w' := by
  have hS0 : ((S : Int) == 0) = false := by
    have : S ≠ 0 := by rw [hK.1]; intro h; exact hV (by have := (jam_eq_zero _ _).1 h; omega)
    simp only [beq_eq_false_iff_ne, ne_eq]; omega
  have HK := Lib.hid hK
  have HV := Lib.hid hV
  clear hK hV
  go_enter Try.func33, Try.ntmps33
  go_wp2
  go_loop [1, 2] (fun e s => ∃ ek sk : Nat, e = .int .i64 (ek : Int) ∧ s = .int .u64 (sk : Int) ∧ 1 ≤ ek ∧ ek ≤ E + 1 ∧ (ek = E + 1 → (sk : Int) < 72057594037927936) ∧ (sk : Int) < 144115188075855872 ∧ Kept V ek sk) (fun _ s => (intOf s).toNat)
  case atStart => exact ⟨E, S, rfl, rfl, hE, by omega, by omega, hS, HK.out⟩
  case round =>
    obtain ⟨e, s, rfl, rfl, e1, e2, e3, s1, hK⟩ := hrel
    have HK2 := Lib.hid hK
    have E3 := Lib.hid e3
    clear hK HK hS0 e3
    by_cases c : (72057594037927936 : Int) ≤ (s : Int)
    · have hor := or_jam s (by omega)
      have kd := Lib.hid (kept_down V e s e1 HK2.out (by omega) (by omega))
      go_wp2
      go_round
      case rel =>
        have hE3 := E3.out
        have hlt := kd.out.2
        exact ⟨e + 1, jam1 s, by go_num, rfl, by omega, by omega, fun _ => by omega, by omega, kd.out.1⟩
      case measure =>
        have := kd.out.2
        simp [intOf]; omega
    · have HN : Hid (Normal V e s) := Lib.hid (Or.inl HK2.out)
      clear E3 HK2
      go_wp2
      go_loop [1, 2] (fun ev sv => ∃ ek sk : Int, ev = .int .i64 ek ∧ sv = .int .u64 sk ∧ 1 ≤ ek ∧ ek ≤ 2101 ∧ 0 ≤ sk ∧ sk < 72057594037927936 ∧ Normal V ek.toNat sk.toNat) (fun ev _ => (intOf ev).toNat)
      case atStart => exact ⟨e, s, rfl, rfl, by omega, by omega, by omega, by omega, HN.out⟩
      case round =>
        clear HN c s1 e1 e2
        obtain ⟨ee, ss, rfl, rfl, e1, e2, s0, s1, hN⟩ := hrel
        have HN := Lib.hid hN
        clear hN
        by_cases c : ss < 36028797018963968 ∧ 1 < ee
        · obtain ⟨c1, c2⟩ := c
          have ku : Hid (Normal V (ee - 1).toNat (ss * 2).toNat) := Lib.hid (by
            rw [show (ee - 1).toNat = ee.toNat - 1 from by omega, show (ss * 2).toNat = ss.toNat * 2 from by omega]
            rcases HN.out with h | h
            · exact kept_up V _ _ (by omega) h
            · omega)
          go_wp2
          go_round
          case rel => exact ⟨ee - 1, ss * 2, rfl, rfl, by omega, by omega, by omega, by omega, ku.out⟩
          case measure => simp [intOf]; omega
        · have hend := made_end sg V ee.toNat ss.toNat HV.out (by omega) HN.out (by omega) (by omega)
          clear HN HV
          obtain ⟨m, hm⟩ : ∃ m, ss / 8 = m := ⟨_, rfl⟩
          obtain ⟨g, hg⟩ : ∃ g, ss % 8 = g := ⟨_, rfl⟩
          obtain ⟨m1, hm1⟩ : ∃ m1, m + 1 = m1 := ⟨_, rfl⟩
          have m0 : 0 ≤ m := by omega
          have m2 : m < 9007199254740992 := by omega
          have m3 : m1 ≤ 9007199254740992 := by omega
          have m4 : 0 < m1 := by omega
          have lo : 4503599627370496 ≤ m ∨ ee = 1 := by omega
          have LO := Lib.hid lo
          have HM1 := Lib.hid hm1
          have mf : (m == 9007199254740992) = false := by simp only [beq_eq_false_iff_ne, ne_eq]; omega
          have d1 : ((4 < g ∨ (¬ 4 < g ∧ (g == 4) = true ∧ (m % 2 == 1) = true)) ∧ madeOf sg V = sg * 9223372036854775808 + min ((ee - 1) * 4503599627370496 + m1) 9218868437227405312) ∨
              (((¬ 4 < g ∧ (g == 4) = true ∧ (m % 2 == 1) = false) ∨ (¬ 4 < g ∧ (g == 4) = false)) ∧ madeOf sg V = sg * 9223372036854775808 + min ((ee - 1) * 4503599627370496 + m) 9218868437227405312) := by
            simp only [beq_iff_eq, beq_eq_false_iff_ne, ne_eq]
            by_cases u : 8 < 2 * (ss.toNat % 8) ∨ (8 = 2 * (ss.toNat % 8) ∧ ss.toNat / 8 % 2 = 1)
            · rw [if_pos u] at hend
              exact Or.inl ⟨by omega, by omega⟩
            · rw [if_neg u] at hend
              exact Or.inr ⟨by omega, by omega⟩
          have d3 : ((ss < 36028797018963968) = False) ∨ ((ss < 36028797018963968) = True ∧ (1 < ee) = False) := by
            simp only [eq_iff_iff, iff_false, iff_true]; omega
          have d2 : ((m1 == 9007199254740992) = true ∧ m1 / 2 = 4503599627370496 ∧ 2047 ≤ ee + 1) ∨ ((m1 == 9007199254740992) = true ∧ m1 / 2 = 4503599627370496 ∧ ¬ 2047 ≤ ee + 1 ∧ ¬ 2047 ≤ ee) ∨ ((m1 == 9007199254740992) = false ∧ 2047 ≤ ee) ∨ ((m1 == 9007199254740992) = false ∧ ¬ 2047 ≤ ee) := by
            simp only [beq_iff_eq, beq_eq_false_iff_ne, ne_eq]; omega
          have H2 := Lib.hid d2
          clear d2 hend c lo
          rcases d3 with a | ⟨a, a2⟩
          · rcases d1 with ⟨b, he⟩ | ⟨b, he⟩
            · have HE := Lib.hid he
              clear he
              rcases b with b | ⟨b, b1, b2⟩
              · rcases H2.out with ⟨c1, c2, c3⟩ | ⟨c1, c2, c3, c4⟩ | ⟨c1, c2⟩ | ⟨c1, c2⟩
                · go_wp2
                  go_ret
                  refine ⟨ret_u64 ?_, rfl⟩
                  have k3 := HM1.out
                  have k5 := LO.out
                  rw [HE.out]
                  have k4 : m1 = 9007199254740992 := by simpa using c1
                  clear HE HM1 LO H2
                  omega
                · go_wp2
                  go_ret
                  refine ⟨ret_u64 ?_, rfl⟩
                  have k3 := HM1.out
                  have k5 := LO.out
                  rw [HE.out]
                  have k4 : m1 = 9007199254740992 := by simpa using c1
                  clear HE HM1 LO H2
                  omega
                · go_wp2
                  go_ret
                  refine ⟨ret_u64 ?_, rfl⟩
                  have k3 := HM1.out
                  have k5 := LO.out
                  rw [HE.out]
                  clear HE HM1 LO H2
                  omega
                · by_cases f2 : m1 < 4503599627370496
                  · go_wp2
                    go_ret
                    refine ⟨ret_u64 ?_, rfl⟩
                    have k3 := HM1.out
                    have k5 := LO.out
                    rw [HE.out]
                    have k4 : m1 ≠ 9007199254740992 := by simpa using c1
                    clear HE HM1 LO H2
                    omega
                  · go_wp2
                    go_ret
                    refine ⟨ret_u64 ?_, rfl⟩
                    have k3 := HM1.out
                    have k5 := LO.out
                    rw [HE.out]
                    have k4 : m1 ≠ 9007199254740992 := by simpa using c1
                    clear HE HM1 LO H2
                    omega
              · rcases H2.out with ⟨c1, c2, c3⟩ | ⟨c1, c2, c3, c4⟩ | ⟨c1, c2⟩ | ⟨c1, c2⟩
                · go_wp2
                  go_ret
                  refine ⟨ret_u64 ?_, rfl⟩
                  have k3 := HM1.out
                  have k5 := LO.out
                  rw [HE.out]
                  have k4 : m1 = 9007199254740992 := by simpa using c1
                  clear HE HM1 LO H2
                  omega
                · go_wp2
                  go_ret
                  refine ⟨ret_u64 ?_, rfl⟩
                  have k3 := HM1.out
                  have k5 := LO.out
                  rw [HE.out]
                  have k4 : m1 = 9007199254740992 := by simpa using c1
                  clear HE HM1 LO H2
                  omega
                · go_wp2
                  go_ret
                  refine ⟨ret_u64 ?_, rfl⟩
                  have k3 := HM1.out
                  have k5 := LO.out
                  rw [HE.out]
                  clear HE HM1 LO H2
                  omega
                · by_cases f2 : m1 < 4503599627370496
                  · go_wp2
                    go_ret
                    refine ⟨ret_u64 ?_, rfl⟩
                    have k3 := HM1.out
                    have k5 := LO.out
                    rw [HE.out]
                    have k4 : m1 ≠ 9007199254740992 := by simpa using c1
                    clear HE HM1 LO H2
                    omega
                  · go_wp2
                    go_ret
                    refine ⟨ret_u64 ?_, rfl⟩
                    have k3 := HM1.out
                    have k5 := LO.out
                    rw [HE.out]
                    have k4 : m1 ≠ 9007199254740992 := by simpa using c1
                    clear HE HM1 LO H2
                    omega
            · have HE := Lib.hid he
              clear he
              rcases b with ⟨b, b1, b2⟩ | ⟨b, b1⟩
              · by_cases c1 : 2047 ≤ ee
                · go_wp2
                  go_ret
                  refine ⟨ret_u64 ?_, rfl⟩
                  have k3 := HM1.out
                  have k5 := LO.out
                  rw [HE.out]
                  clear HE HM1 LO H2
                  omega
                · by_cases f1 : m < 4503599627370496
                  · go_wp2
                    go_ret
                    refine ⟨ret_u64 ?_, rfl⟩
                    have k3 := HM1.out
                    have k5 := LO.out
                    rw [HE.out]
                    clear HE HM1 LO H2
                    omega
                  · go_wp2
                    go_ret
                    refine ⟨ret_u64 ?_, rfl⟩
                    have k3 := HM1.out
                    have k5 := LO.out
                    rw [HE.out]
                    clear HE HM1 LO H2
                    omega
              · by_cases c1 : 2047 ≤ ee
                · go_wp2
                  go_ret
                  refine ⟨ret_u64 ?_, rfl⟩
                  have k3 := HM1.out
                  have k5 := LO.out
                  rw [HE.out]
                  clear HE HM1 LO H2
                  omega
                · by_cases f1 : m < 4503599627370496
                  · go_wp2
                    go_ret
                    refine ⟨ret_u64 ?_, rfl⟩
                    have k3 := HM1.out
                    have k5 := LO.out
                    rw [HE.out]
                    clear HE HM1 LO H2
                    omega
                  · go_wp2
                    go_ret
                    refine ⟨ret_u64 ?_, rfl⟩
                    have k3 := HM1.out
                    have k5 := LO.out
                    rw [HE.out]
                    clear HE HM1 LO H2
                    omega
          · rcases d1 with ⟨b, he⟩ | ⟨b, he⟩
            · have HE := Lib.hid he
              clear he
              rcases b with b | ⟨b, b1, b2⟩
              · rcases H2.out with ⟨c1, c2, c3⟩ | ⟨c1, c2, c3, c4⟩ | ⟨c1, c2⟩ | ⟨c1, c2⟩
                · go_wp2
                  go_ret
                  refine ⟨ret_u64 ?_, rfl⟩
                  have k3 := HM1.out
                  have k5 := LO.out
                  rw [HE.out]
                  have k4 : m1 = 9007199254740992 := by simpa using c1
                  clear HE HM1 LO H2
                  omega
                · go_wp2
                  go_ret
                  refine ⟨ret_u64 ?_, rfl⟩
                  have k3 := HM1.out
                  have k5 := LO.out
                  rw [HE.out]
                  have k4 : m1 = 9007199254740992 := by simpa using c1
                  clear HE HM1 LO H2
                  omega
                · go_wp2
                  go_ret
                  refine ⟨ret_u64 ?_, rfl⟩
                  have k3 := HM1.out
                  have k5 := LO.out
                  rw [HE.out]
                  clear HE HM1 LO H2
                  omega
                · by_cases f2 : m1 < 4503599627370496
                  · go_wp2
                    go_ret
                    refine ⟨ret_u64 ?_, rfl⟩
                    have k3 := HM1.out
                    have k5 := LO.out
                    rw [HE.out]
                    have k4 : m1 ≠ 9007199254740992 := by simpa using c1
                    clear HE HM1 LO H2
                    omega
                  · go_wp2
                    go_ret
                    refine ⟨ret_u64 ?_, rfl⟩
                    have k3 := HM1.out
                    have k5 := LO.out
                    rw [HE.out]
                    have k4 : m1 ≠ 9007199254740992 := by simpa using c1
                    clear HE HM1 LO H2
                    omega
              · rcases H2.out with ⟨c1, c2, c3⟩ | ⟨c1, c2, c3, c4⟩ | ⟨c1, c2⟩ | ⟨c1, c2⟩
                · go_wp2
                  go_ret
                  refine ⟨ret_u64 ?_, rfl⟩
                  have k3 := HM1.out
                  have k5 := LO.out
                  rw [HE.out]
                  have k4 : m1 = 9007199254740992 := by simpa using c1
                  clear HE HM1 LO H2
                  omega
                · go_wp2
                  go_ret
                  refine ⟨ret_u64 ?_, rfl⟩
                  have k3 := HM1.out
                  have k5 := LO.out
                  rw [HE.out]
                  have k4 : m1 = 9007199254740992 := by simpa using c1
                  clear HE HM1 LO H2
                  omega
                · go_wp2
                  go_ret
                  refine ⟨ret_u64 ?_, rfl⟩
                  have k3 := HM1.out
                  have k5 := LO.out
                  rw [HE.out]
                  clear HE HM1 LO H2
                  omega
                · by_cases f2 : m1 < 4503599627370496
                  · go_wp2
                    go_ret
                    refine ⟨ret_u64 ?_, rfl⟩
                    have k3 := HM1.out
                    have k5 := LO.out
                    rw [HE.out]
                    have k4 : m1 ≠ 9007199254740992 := by simpa using c1
                    clear HE HM1 LO H2
                    omega
                  · go_wp2
                    go_ret
                    refine ⟨ret_u64 ?_, rfl⟩
                    have k3 := HM1.out
                    have k5 := LO.out
                    rw [HE.out]
                    have k4 : m1 ≠ 9007199254740992 := by simpa using c1
                    clear HE HM1 LO H2
                    omega
            · have HE := Lib.hid he
              clear he
              rcases b with ⟨b, b1, b2⟩ | ⟨b, b1⟩
              · by_cases c1 : 2047 ≤ ee
                · go_wp2
                  go_ret
                  refine ⟨ret_u64 ?_, rfl⟩
                  have k3 := HM1.out
                  have k5 := LO.out
                  rw [HE.out]
                  clear HE HM1 LO H2
                  omega
                · by_cases f1 : m < 4503599627370496
                  · go_wp2
                    go_ret
                    refine ⟨ret_u64 ?_, rfl⟩
                    have k3 := HM1.out
                    have k5 := LO.out
                    rw [HE.out]
                    clear HE HM1 LO H2
                    omega
                  · go_wp2
                    go_ret
                    refine ⟨ret_u64 ?_, rfl⟩
                    have k3 := HM1.out
                    have k5 := LO.out
                    rw [HE.out]
                    clear HE HM1 LO H2
                    omega
              · by_cases c1 : 2047 ≤ ee
                · go_wp2
                  go_ret
                  refine ⟨ret_u64 ?_, rfl⟩
                  have k3 := HM1.out
                  have k5 := LO.out
                  rw [HE.out]
                  clear HE HM1 LO H2
                  omega
                · by_cases f1 : m < 4503599627370496
                  · go_wp2
                    go_ret
                    refine ⟨ret_u64 ?_, rfl⟩
                    have k3 := HM1.out
                    have k5 := LO.out
                    rw [HE.out]
                    clear HE HM1 LO H2
                    omega
                  · go_wp2
                    go_ret
                    refine ⟨ret_u64 ?_, rfl⟩
                    have k3 := HM1.out
                    have k5 := LO.out
                    rw [HE.out]
                    clear HE HM1 LO H2
                    omega

end Go.Proofs.Ytjdbgmopmkdlcaa
