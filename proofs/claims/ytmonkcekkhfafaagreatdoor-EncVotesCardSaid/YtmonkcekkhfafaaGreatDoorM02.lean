/-
  Parts of a proof, one behind the other: FltMade, FltAdd, FltTwo, FltOpp, FltRefSum. Each says its own conditions.
-/
import Derived.Test.YtmonkcekkhfafaaGreatDoorM01
import Derived.Deep.Cut

/- FltMade:
  What the document's own steps of a sum return (less, whole, shifted, made), in whatever world. Their conditions: words from 0 to less than 2^64; of shifted a count from 0 to 2^62; of made a sign of 0 or 1, an exponent from 1 to 2100, and a fraction in eighths that is a number's, its last bit kept.
-/
namespace Go.Proofs.YtmonkcekkhfafaaGreatDoor
open Go.RowKit

set_option maxHeartbeats 400000 in
theorem rsize_any (x y : Int) (w : World) (h0 : 0 ≤ x) (h1 : x < 18446744073709551616) (g0 : 0 ≤ y) (g1 : y < 18446744073709551616) :
    Calls Tryz.prog 121 #[.int .u64 x, .int .u64 y] w fun e w' => e = .returned (.bool (decide (x % 9223372036854775808 < y % 9223372036854775808))) ∧ w = w' := by
  go_enter Tryz.func121, Tryz.ntmps121
  go_wp2
  go_ret
  exact ⟨rfl, rfl⟩

def wholeE (x : Int) : Int := if x % 9223372036854775808 < 4503599627370496 then 1 else x % 9223372036854775808 / 4503599627370496

def wholeM (x : Int) : Int := if x % 9223372036854775808 < 4503599627370496 then x % 9223372036854775808 * 8 else (x % 4503599627370496 + 4503599627370496) * 8

set_option maxHeartbeats 400000 in
theorem whole_any (x : Int) (w : World) (h0 : 0 ≤ x) (h1 : x < 18446744073709551616) :
    Calls Tryz.prog 122 #[.int .u64 x] w fun e w' => e = .returned (.tuple #[.int .i64 (wholeE x), .int .u64 (wholeM x)]) ∧ w = w' := by
  have p0 : 0 ≤ x % 9223372036854775808 / 4503599627370496 := by omega
  have p1 : x % 9223372036854775808 / 4503599627370496 < 2048 := by omega
  have q0 : 0 ≤ x % 4503599627370496 := by omega
  have q1 : x % 4503599627370496 < 4503599627370496 := by omega
  by_cases c : x % 9223372036854775808 < 4503599627370496
  · have c1 : (x % 9223372036854775808 / 4503599627370496 == 0) = true := by simp only [beq_iff_eq]; omega
    have H1 : Hid (wholeE x = 1) := Lib.hid (by unfold wholeE; rw [if_pos c])
    have H2 : Hid (wholeM x = x % 9223372036854775808 * 8) := Lib.hid (by unfold wholeM; rw [if_pos c])
    go_enter Tryz.func122, Tryz.ntmps122
    go_wp2_with (go_at_call 127; with_reducible refine (parts_any _ _ (by omega) (by omega)).mono ?_; rintro e w' ⟨rfl, rfl⟩)
    go_ret2
    exact ⟨ret_two H1.out.symm (by rw [H2.out]; omega), rfl⟩
  · have c1 : (x % 9223372036854775808 / 4503599627370496 == 0) = false := by simp only [beq_eq_false_iff_ne, ne_eq]; omega
    have H1 : Hid (wholeE x = x % 9223372036854775808 / 4503599627370496) := Lib.hid (by unfold wholeE; rw [if_neg c])
    have H2 : Hid (wholeM x = (x % 4503599627370496 + 4503599627370496) * 8) := Lib.hid (by unfold wholeM; rw [if_neg c])
    go_enter Tryz.func122, Tryz.ntmps122
    go_wp2_with (go_at_call 127; with_reducible refine (parts_any _ _ (by omega) (by omega)).mono ?_; rintro e w' ⟨rfl, rfl⟩)
    go_ret2
    exact ⟨ret_two H1.out.symm H2.out.symm, rfl⟩

theorem or_jam (s : Nat) (h : s < 18446744073709551616) : bits .or .u64 ((s : Int) / 2) ((s : Int) % 2) = ((jam1 s : Nat) : Int) := by
  have e1 : ((s : Int) / 2) = ((s / 2 : Nat) : Int) := by omega
  have e2 : ((s : Int) % 2) = ((s % 2 : Nat) : Int) := by omega
  rw [e1, e2, u64_or_nat _ _ (by omega) (by omega)]
  have c : s % 2 = 0 ∨ s % 2 = 1 := by omega
  unfold jam1
  rcases c with c | c <;> rw [c]
  · rw [Nat.or_zero]; split <;> omega
  · have o : s / 2 ||| 1 = 2 * (s / 2 / 2) + 1 := by
      have hm : (s / 2 ||| 1) % 2 = 1 := by rw [← Nat.pow_one 2, Nat.or_mod_two_pow]; have : s / 2 % 2 = 0 ∨ s / 2 % 2 = 1 := by omega
                                            rcases this with t | t <;> rw [Nat.pow_one, t] <;> rfl
      have hd : (s / 2 ||| 1) / 2 = s / 2 / 2 := by
        have := Nat.or_div_two_pow (a := s / 2) (b := 1) (n := 1)
        rw [Nat.pow_one] at this; rw [this]; simp
      omega
    rw [o, if_neg (by omega)]; omega

theorem jam1_le (s : Nat) : jam1 s ≤ s := by unfold jam1; split <;> omega

theorem jam_stay (T k : Nat) (h : jam T k ≤ 1) : ∀ j, jam T (k + j) = jam T k := by
  intro j
  induction j with
  | zero => rfl
  | succ n ih =>
    rw [← Nat.add_assoc, jam_succ, ih]
    generalize jam T k = t at h
    unfold jam1; split <;> omega

theorem jam_le (T : Nat) : ∀ k, jam T k ≤ T := by
  intro k
  induction k with
  | zero => rw [jam_zero]; exact Nat.le_refl _
  | succ n ih => rw [jam_succ]; exact Nat.le_trans (jam1_le _) ih

set_option maxHeartbeats 1000000 in
theorem shifted_any (M B : Nat) (w : World) (hM : M < 18446744073709551616) (hB : B < 4611686018427387904) :
    Calls Tryz.prog 123 #[.int .u64 (M : Int), .int .i64 (B : Int)] w fun e w' => e = .returned (.int .u64 ((jam M B : Nat) : Int)) ∧ w = w' := by
  go_enter Tryz.func123, Tryz.ntmps123
  go_wp2
  go_loop [0, 5] (fun m i => ∃ k : Nat, k ≤ B ∧ i = .int .i64 k ∧ m = .int .u64 ((jam M k : Nat) : Int)) (fun _ i => B - (intOf i).toNat)
  case atStart => exact ⟨0, Nat.zero_le _, rfl, by rw [jam_zero]⟩
  case round =>
    obtain ⟨k, hk, rfl, rfl⟩ := hrel
    have hle := jam_le M k
    have hst := Lib.hid (jam_stay M k)
    have hsu := Lib.hid (jam_succ M k)
    have hor := or_jam (jam M k) (by omega)
    obtain ⟨t, ht⟩ : ∃ t, jam M k = t := ⟨_, rfl⟩
    rw [ht] at hle hst hsu hor
    have T := Lib.hid ht
    rw [ht]
    clear ht
    by_cases hlt : k < B
    · by_cases h1 : 1 < t
      · go_wp2
        go_round
        case rel => exact ⟨k + 1, by omega, by go_num, by rw [hsu.out]⟩
        case measure => simp [intOf]; omega
      · have e := (hst.out (by omega)) (B - k)
        rw [show k + (B - k) = B from by omega] at e
        have E := Lib.hid e
        clear e
        by_cases h2 : t = 1
        · subst h2
          go_wp2
          go_ret
          exact ⟨ret_u64 (by rw [E.out]; rfl), rfl⟩
        · have h3 : ((t : Int) == 1) = false := by simp only [beq_eq_false_iff_ne, ne_eq]; omega
          go_wp2
          go_ret
          exact ⟨ret_u64 (by rw [E.out]), rfl⟩
    · have : k = B := by omega
      subst this
      by_cases h2 : 0 < k
      · by_cases h3 : t = 1
        · subst h3
          go_wp2
          go_ret
          exact ⟨ret_u64 (by rw [T.out]; rfl), rfl⟩
        · have h3 : ((t : Int) == 1) = false := by simp only [beq_eq_false_iff_ne, ne_eq]; omega
          go_wp2
          go_ret
          exact ⟨ret_u64 (by rw [T.out]), rfl⟩
      · go_wp2
        go_ret
        exact ⟨ret_u64 (by rw [T.out]), rfl⟩

/-- The loop's state: a number's eighths, the last bit kept, and whether they may be doubled. -/
def Kept (V e s : Nat) : Prop := s = jam (8 * V) (e - 1) ∧ (8 * V % 2 ^ (e - 1) = 0 ∨ 18014398509481984 ≤ s)

def Normal (V e s : Nat) : Prop := Kept V e s ∨ (s = 2 * jam (8 * V) e ∧ 36028797018963968 ≤ s)

theorem kept_down (V e s : Nat) (he : 1 ≤ e) (h : Kept V e s) (hs : 72057594037927936 ≤ s) (hs2 : s < 144115188075855872) : Kept V (e + 1) (jam1 s) ∧ jam1 s < 72057594037927936 := by
  obtain ⟨h1, _⟩ := h
  have e1 : e + 1 - 1 = (e - 1) + 1 := by omega
  refine ⟨⟨by rw [e1, jam_succ, ← h1], Or.inr ?_⟩, ?_⟩
  · unfold jam1; split <;> omega
  · unfold jam1; split <;> omega

theorem kept_up (V e s : Nat) (he : 1 < e) (h : Kept V e s) : Normal V (e - 1) (s * 2) := by
  obtain ⟨h1, h2⟩ := h
  obtain ⟨k, rfl⟩ : ∃ k, e = k + 2 := ⟨e - 2, by omega⟩
  rw [show k + 2 - 1 = k + 1 from by omega] at h1 h2 ⊢
  by_cases z : 8 * V % 2 ^ (k + 1) = 0
  · refine Or.inl ⟨?_, Or.inl ?_⟩
    · rw [show k + 1 - 1 = k from by omega, Nat.mul_comm, h1, jam_double _ _ z]
    · rw [show k + 1 - 1 = k from by omega]; exact mod_pow_le _ _ z
  · refine Or.inr ⟨by rw [Nat.mul_comm, h1], ?_⟩
    rcases h2 with h2 | h2
    · exact absurd h2 z
    · omega

def madeOf (sg : Int) (V : Nat) : Int := if V = 0 then 0 else sg * 9223372036854775808 + ((min (rungOf V) 9218868437227405312 : Nat) : Int)

theorem made_end (sg : Int) (V e s : Nat) (hV : V ≠ 0) (he : 1 ≤ e) (hN : Normal V e s) (hlt : s < 72057594037927936) (hn : 36028797018963968 ≤ s ∨ e = 1) :
    madeOf sg V = sg * 9223372036854775808 + ((min ((e - 1) * 4503599627370496 + (s / 8 + (if 8 < 2 * (s % 8) ∨ (8 = 2 * (s % 8) ∧ s / 8 % 2 = 1) then 1 else 0))) 9218868437227405312 : Nat) : Int) := by
  unfold madeOf
  rw [if_neg hV, made_rung V s e he (by rcases hN with h | h; exact Or.inl h.1; exact Or.inr h.1) hlt hn]
  rfl

set_option maxRecDepth 20000 in
set_option maxHeartbeats 4000000 in
theorem made_any (sg : Int) (E S V : Nat) (w : World) (g0 : 0 ≤ sg) (g1 : sg ≤ 1) (hE : 1 ≤ E) (hE2 : E ≤ 2100) (hV : V ≠ 0) (hS : (S : Int) < 144115188075855872) (hK : Kept V E S) :
    Calls Tryz.prog 124 #[.int .u64 sg, .int .i64 (E : Int), .int .u64 (S : Int)] w fun e w' => e = .returned (.int .u64 (madeOf sg V)) ∧ w = w' := by
  have hS0 : ((S : Int) == 0) = false := by
    have : S ≠ 0 := by rw [hK.1]; intro h; exact hV (by have := (jam_eq_zero _ _).1 h; omega)
    simp only [beq_eq_false_iff_ne, ne_eq]; omega
  have HK := Lib.hid hK
  have HV := Lib.hid hV
  clear hK hV
  go_enter Tryz.func124, Tryz.ntmps124
  go_wp2
  go_loop [1, 2] (fun e s => ∃ ek sk : Nat, e = .int .i64 (ek : Int) ∧ s = .int .u64 (sk : Int) ∧ 1 ≤ ek ∧ ek ≤ E + 1 ∧ (ek = E + 1 → (sk : Int) < 72057594037927936) ∧ (sk : Int) < 144115188075855872 ∧ Kept V ek sk) (fun _ s => (intOf s).toNat)
  case atStart => exact ⟨E, S, rfl, rfl, hE, by omega, by omega, hS, HK.out⟩
  case round =>
    obtain ⟨e, s, rfl, rfl, e1, e2, e3, s1, hK⟩ := hrel
    have HK2 := Lib.hid hK
    have E3 := Lib.hid e3
    clear hK HK hS0 e3
    by_cases c : (72057594037927936 : Int) ≤ (s : Int)
    · have hor := or_jam s (by omega)
      have kd := Lib.hid (kept_down V e s e1 HK2.out (by omega) (by omega))
      go_wp2
      go_round
      case rel =>
        have hE3 := E3.out
        have hlt := kd.out.2
        exact ⟨e + 1, jam1 s, by go_num, rfl, by omega, by omega, fun _ => by omega, by omega, kd.out.1⟩
      case measure =>
        have := kd.out.2
        simp [intOf]; omega
    · have HN : Hid (Normal V e s) := Lib.hid (Or.inl HK2.out)
      clear E3 HK2
      go_wp2
      go_loop [1, 2] (fun ev sv => ∃ ek sk : Int, ev = .int .i64 ek ∧ sv = .int .u64 sk ∧ 1 ≤ ek ∧ ek ≤ 2101 ∧ 0 ≤ sk ∧ sk < 72057594037927936 ∧ Normal V ek.toNat sk.toNat) (fun ev _ => (intOf ev).toNat)
      case atStart => exact ⟨e, s, rfl, rfl, by omega, by omega, by omega, by omega, HN.out⟩
      case round =>
        clear HN c s1 e1 e2
        obtain ⟨ee, ss, rfl, rfl, e1, e2, s0, s1, hN⟩ := hrel
        have HN := Lib.hid hN
        clear hN
        by_cases c : ss < 36028797018963968 ∧ 1 < ee
        · obtain ⟨c1, c2⟩ := c
          have ku : Hid (Normal V (ee - 1).toNat (ss * 2).toNat) := Lib.hid (by
            rw [show (ee - 1).toNat = ee.toNat - 1 from by omega, show (ss * 2).toNat = ss.toNat * 2 from by omega]
            rcases HN.out with h | h
            · exact kept_up V _ _ (by omega) h
            · omega)
          go_wp2
          go_round
          case rel => exact ⟨ee - 1, ss * 2, rfl, rfl, by omega, by omega, by omega, by omega, ku.out⟩
          case measure => simp [intOf]; omega
        · have hend := made_end sg V ee.toNat ss.toNat HV.out (by omega) HN.out (by omega) (by omega)
          clear HN HV
          obtain ⟨m, hm⟩ : ∃ m, ss / 8 = m := ⟨_, rfl⟩
          obtain ⟨g, hg⟩ : ∃ g, ss % 8 = g := ⟨_, rfl⟩
          obtain ⟨m1, hm1⟩ : ∃ m1, m + 1 = m1 := ⟨_, rfl⟩
          have m0 : 0 ≤ m := by omega
          have m2 : m < 9007199254740992 := by omega
          have m3 : m1 ≤ 9007199254740992 := by omega
          have m4 : 0 < m1 := by omega
          have lo : 4503599627370496 ≤ m ∨ ee = 1 := by omega
          have LO := Lib.hid lo
          have HM1 := Lib.hid hm1
          have mf : (m == 9007199254740992) = false := by simp only [beq_eq_false_iff_ne, ne_eq]; omega
          have d1 : ((4 < g ∨ (¬ 4 < g ∧ (g == 4) = true ∧ (m % 2 == 1) = true)) ∧ madeOf sg V = sg * 9223372036854775808 + min ((ee - 1) * 4503599627370496 + m1) 9218868437227405312) ∨
              (((¬ 4 < g ∧ (g == 4) = true ∧ (m % 2 == 1) = false) ∨ (¬ 4 < g ∧ (g == 4) = false)) ∧ madeOf sg V = sg * 9223372036854775808 + min ((ee - 1) * 4503599627370496 + m) 9218868437227405312) := by
            simp only [beq_iff_eq, beq_eq_false_iff_ne, ne_eq]
            by_cases u : 8 < 2 * (ss.toNat % 8) ∨ (8 = 2 * (ss.toNat % 8) ∧ ss.toNat / 8 % 2 = 1)
            · rw [if_pos u] at hend
              exact Or.inl ⟨by omega, by omega⟩
            · rw [if_neg u] at hend
              exact Or.inr ⟨by omega, by omega⟩
          have d3 : ((ss < 36028797018963968) = False) ∨ ((ss < 36028797018963968) = True ∧ (1 < ee) = False) := by
            simp only [eq_iff_iff, iff_false, iff_true]; omega
          have d2 : ((m1 == 9007199254740992) = true ∧ m1 / 2 = 4503599627370496 ∧ 2047 ≤ ee + 1) ∨ ((m1 == 9007199254740992) = true ∧ m1 / 2 = 4503599627370496 ∧ ¬ 2047 ≤ ee + 1 ∧ ¬ 2047 ≤ ee) ∨ ((m1 == 9007199254740992) = false ∧ 2047 ≤ ee) ∨ ((m1 == 9007199254740992) = false ∧ ¬ 2047 ≤ ee) := by
            simp only [beq_iff_eq, beq_eq_false_iff_ne, ne_eq]; omega
          have H2 := Lib.hid d2
          clear d2 hend c lo
          rcases d3 with a | ⟨a, a2⟩
          · rcases d1 with ⟨b, he⟩ | ⟨b, he⟩
            · have HE := Lib.hid he
              clear he
              rcases b with b | ⟨b, b1, b2⟩
              · rcases H2.out with ⟨c1, c2, c3⟩ | ⟨c1, c2, c3, c4⟩ | ⟨c1, c2⟩ | ⟨c1, c2⟩
                · go_wp2
                  go_ret
                  refine ⟨ret_u64 ?_, rfl⟩
                  have k3 := HM1.out
                  have k5 := LO.out
                  rw [HE.out]
                  have k4 : m1 = 9007199254740992 := by simpa using c1
                  clear HE HM1 LO H2
                  omega
                · go_wp2
                  go_ret
                  refine ⟨ret_u64 ?_, rfl⟩
                  have k3 := HM1.out
                  have k5 := LO.out
                  rw [HE.out]
                  have k4 : m1 = 9007199254740992 := by simpa using c1
                  clear HE HM1 LO H2
                  omega
                · go_wp2
                  go_ret
                  refine ⟨ret_u64 ?_, rfl⟩
                  have k3 := HM1.out
                  have k5 := LO.out
                  rw [HE.out]
                  clear HE HM1 LO H2
                  omega
                · by_cases f2 : m1 < 4503599627370496
                  · go_wp2
                    go_ret
                    refine ⟨ret_u64 ?_, rfl⟩
                    have k3 := HM1.out
                    have k5 := LO.out
                    rw [HE.out]
                    have k4 : m1 ≠ 9007199254740992 := by simpa using c1
                    clear HE HM1 LO H2
                    omega
                  · go_wp2
                    go_ret
                    refine ⟨ret_u64 ?_, rfl⟩
                    have k3 := HM1.out
                    have k5 := LO.out
                    rw [HE.out]
                    have k4 : m1 ≠ 9007199254740992 := by simpa using c1
                    clear HE HM1 LO H2
                    omega
              · rcases H2.out with ⟨c1, c2, c3⟩ | ⟨c1, c2, c3, c4⟩ | ⟨c1, c2⟩ | ⟨c1, c2⟩
                · go_wp2
                  go_ret
                  refine ⟨ret_u64 ?_, rfl⟩
                  have k3 := HM1.out
                  have k5 := LO.out
                  rw [HE.out]
                  have k4 : m1 = 9007199254740992 := by simpa using c1
                  clear HE HM1 LO H2
                  omega
                · go_wp2
                  go_ret
                  refine ⟨ret_u64 ?_, rfl⟩
                  have k3 := HM1.out
                  have k5 := LO.out
                  rw [HE.out]
                  have k4 : m1 = 9007199254740992 := by simpa using c1
                  clear HE HM1 LO H2
                  omega
                · go_wp2
                  go_ret
                  refine ⟨ret_u64 ?_, rfl⟩
                  have k3 := HM1.out
                  have k5 := LO.out
                  rw [HE.out]
                  clear HE HM1 LO H2
                  omega
                · by_cases f2 : m1 < 4503599627370496
                  · go_wp2
                    go_ret
                    refine ⟨ret_u64 ?_, rfl⟩
                    have k3 := HM1.out
                    have k5 := LO.out
                    rw [HE.out]
                    have k4 : m1 ≠ 9007199254740992 := by simpa using c1
                    clear HE HM1 LO H2
                    omega
                  · go_wp2
                    go_ret
                    refine ⟨ret_u64 ?_, rfl⟩
                    have k3 := HM1.out
                    have k5 := LO.out
                    rw [HE.out]
                    have k4 : m1 ≠ 9007199254740992 := by simpa using c1
                    clear HE HM1 LO H2
                    omega
            · have HE := Lib.hid he
              clear he
              rcases b with ⟨b, b1, b2⟩ | ⟨b, b1⟩
              · by_cases c1 : 2047 ≤ ee
                · go_wp2
                  go_ret
                  refine ⟨ret_u64 ?_, rfl⟩
                  have k3 := HM1.out
                  have k5 := LO.out
                  rw [HE.out]
                  clear HE HM1 LO H2
                  omega
                · by_cases f1 : m < 4503599627370496
                  · go_wp2
                    go_ret
                    refine ⟨ret_u64 ?_, rfl⟩
                    have k3 := HM1.out
                    have k5 := LO.out
                    rw [HE.out]
                    clear HE HM1 LO H2
                    omega
                  · go_wp2
                    go_ret
                    refine ⟨ret_u64 ?_, rfl⟩
                    have k3 := HM1.out
                    have k5 := LO.out
                    rw [HE.out]
                    clear HE HM1 LO H2
                    omega
              · by_cases c1 : 2047 ≤ ee
                · go_wp2
                  go_ret
                  refine ⟨ret_u64 ?_, rfl⟩
                  have k3 := HM1.out
                  have k5 := LO.out
                  rw [HE.out]
                  clear HE HM1 LO H2
                  omega
                · by_cases f1 : m < 4503599627370496
                  · go_wp2
                    go_ret
                    refine ⟨ret_u64 ?_, rfl⟩
                    have k3 := HM1.out
                    have k5 := LO.out
                    rw [HE.out]
                    clear HE HM1 LO H2
                    omega
                  · go_wp2
                    go_ret
                    refine ⟨ret_u64 ?_, rfl⟩
                    have k3 := HM1.out
                    have k5 := LO.out
                    rw [HE.out]
                    clear HE HM1 LO H2
                    omega
          · rcases d1 with ⟨b, he⟩ | ⟨b, he⟩
            · have HE := Lib.hid he
              clear he
              rcases b with b | ⟨b, b1, b2⟩
              · rcases H2.out with ⟨c1, c2, c3⟩ | ⟨c1, c2, c3, c4⟩ | ⟨c1, c2⟩ | ⟨c1, c2⟩
                · go_wp2
                  go_ret
                  refine ⟨ret_u64 ?_, rfl⟩
                  have k3 := HM1.out
                  have k5 := LO.out
                  rw [HE.out]
                  have k4 : m1 = 9007199254740992 := by simpa using c1
                  clear HE HM1 LO H2
                  omega
                · go_wp2
                  go_ret
                  refine ⟨ret_u64 ?_, rfl⟩
                  have k3 := HM1.out
                  have k5 := LO.out
                  rw [HE.out]
                  have k4 : m1 = 9007199254740992 := by simpa using c1
                  clear HE HM1 LO H2
                  omega
                · go_wp2
                  go_ret
                  refine ⟨ret_u64 ?_, rfl⟩
                  have k3 := HM1.out
                  have k5 := LO.out
                  rw [HE.out]
                  clear HE HM1 LO H2
                  omega
                · by_cases f2 : m1 < 4503599627370496
                  · go_wp2
                    go_ret
                    refine ⟨ret_u64 ?_, rfl⟩
                    have k3 := HM1.out
                    have k5 := LO.out
                    rw [HE.out]
                    have k4 : m1 ≠ 9007199254740992 := by simpa using c1
                    clear HE HM1 LO H2
                    omega
                  · go_wp2
                    go_ret
                    refine ⟨ret_u64 ?_, rfl⟩
                    have k3 := HM1.out
                    have k5 := LO.out
                    rw [HE.out]
                    have k4 : m1 ≠ 9007199254740992 := by simpa using c1
                    clear HE HM1 LO H2
                    omega
              · rcases H2.out with ⟨c1, c2, c3⟩ | ⟨c1, c2, c3, c4⟩ | ⟨c1, c2⟩ | ⟨c1, c2⟩
                · go_wp2
                  go_ret
                  refine ⟨ret_u64 ?_, rfl⟩
                  have k3 := HM1.out
                  have k5 := LO.out
                  rw [HE.out]
                  have k4 : m1 = 9007199254740992 := by simpa using c1
                  clear HE HM1 LO H2
                  omega
                · go_wp2
                  go_ret
                  refine ⟨ret_u64 ?_, rfl⟩
                  have k3 := HM1.out
                  have k5 := LO.out
                  rw [HE.out]
                  have k4 : m1 = 9007199254740992 := by simpa using c1
                  clear HE HM1 LO H2
                  omega
                · go_wp2
                  go_ret
                  refine ⟨ret_u64 ?_, rfl⟩
                  have k3 := HM1.out
                  have k5 := LO.out
                  rw [HE.out]
                  clear HE HM1 LO H2
                  omega
                · by_cases f2 : m1 < 4503599627370496
                  · go_wp2
                    go_ret
                    refine ⟨ret_u64 ?_, rfl⟩
                    have k3 := HM1.out
                    have k5 := LO.out
                    rw [HE.out]
                    have k4 : m1 ≠ 9007199254740992 := by simpa using c1
                    clear HE HM1 LO H2
                    omega
                  · go_wp2
                    go_ret
                    refine ⟨ret_u64 ?_, rfl⟩
                    have k3 := HM1.out
                    have k5 := LO.out
                    rw [HE.out]
                    have k4 : m1 ≠ 9007199254740992 := by simpa using c1
                    clear HE HM1 LO H2
                    omega
            · have HE := Lib.hid he
              clear he
              rcases b with ⟨b, b1, b2⟩ | ⟨b, b1⟩
              · by_cases c1 : 2047 ≤ ee
                · go_wp2
                  go_ret
                  refine ⟨ret_u64 ?_, rfl⟩
                  have k3 := HM1.out
                  have k5 := LO.out
                  rw [HE.out]
                  clear HE HM1 LO H2
                  omega
                · by_cases f1 : m < 4503599627370496
                  · go_wp2
                    go_ret
                    refine ⟨ret_u64 ?_, rfl⟩
                    have k3 := HM1.out
                    have k5 := LO.out
                    rw [HE.out]
                    clear HE HM1 LO H2
                    omega
                  · go_wp2
                    go_ret
                    refine ⟨ret_u64 ?_, rfl⟩
                    have k3 := HM1.out
                    have k5 := LO.out
                    rw [HE.out]
                    clear HE HM1 LO H2
                    omega
              · by_cases c1 : 2047 ≤ ee
                · go_wp2
                  go_ret
                  refine ⟨ret_u64 ?_, rfl⟩
                  have k3 := HM1.out
                  have k5 := LO.out
                  rw [HE.out]
                  clear HE HM1 LO H2
                  omega
                · by_cases f1 : m < 4503599627370496
                  · go_wp2
                    go_ret
                    refine ⟨ret_u64 ?_, rfl⟩
                    have k3 := HM1.out
                    have k5 := LO.out
                    rw [HE.out]
                    clear HE HM1 LO H2
                    omega
                  · go_wp2
                    go_ret
                    refine ⟨ret_u64 ?_, rfl⟩
                    have k3 := HM1.out
                    have k5 := LO.out
                    rw [HE.out]
                    clear HE HM1 LO H2
                    omega

end Go.Proofs.YtmonkcekkhfafaaGreatDoor

/- FltAdd:
  Sums of words, over whole numbers: of two numbers' words the sum is the rounded rung of the whole numbers' sum; of a NaN, or of two unlike infinities, a NaN; of an infinite one and a number that one. For words from 0 to less than 2^64 (the one condition).
-/
namespace Go.Proofs.YtmonkcekkhfafaaGreatDoor

/-- The whole number of least units that a finite word stands for. -/
def sval (x : Int) : Int := if 9223372036854775808 ≤ x then -((magOf (x % 9223372036854775808).toNat : Nat) : Int) else ((magOf (x % 9223372036854775808).toNat : Nat) : Int)

theorem word_double (neg : Bool) (r : Nat) : Ieee.double.word neg r = if neg then 9223372036854775808 + r else r := by
  unfold Ieee.Format.word
  rw [show Ieee.double.signWeight = 9223372036854775808 from by decide]

theorem read_double (X : Nat) : Ieee.double.read X =
    if X % 9223372036854775808 < 2 ^ 52 then .number (X / 9223372036854775808 % 2 == 1) (X % 9223372036854775808) (-1074)
    else if X % 9223372036854775808 < 9218868437227405312 then .number (X / 9223372036854775808 % 2 == 1) (2 ^ 52 + X % 9223372036854775808 % 2 ^ 52) (-1074 + (X % 9223372036854775808 / 2 ^ 52 - 1 : Nat))
    else if X % 9223372036854775808 = 9218868437227405312 then .infinity (X / 9223372036854775808 % 2 == 1)
    else .nan (X / 9223372036854775808 % 2 == 1) (X % 9223372036854775808 - 9218868437227405312) := by
  unfold Ieee.Format.read
  rw [show Ieee.double.signWeight = 9223372036854775808 from by decide, show Ieee.double.binade = 2 ^ 52 from rfl, show Ieee.double.infRung = 9218868437227405312 from by decide, leastPlace_double]

theorem read_finite (X : Nat) (h : X % 9223372036854775808 < 9218868437227405312) :
    ∃ m k : Nat, Ieee.double.read X = .number (X / 9223372036854775808 % 2 == 1) m (-1074 + (k : Int)) ∧ m * 2 ^ k = magOf (X % 9223372036854775808) := by
  rw [read_double]
  by_cases c : X % 9223372036854775808 < 2 ^ 52
  · rw [if_pos c]
    exact ⟨X % 9223372036854775808, 0, by simp, by unfold magOf; rw [if_pos c]; omega⟩
  · rw [if_neg c, if_pos h]
    exact ⟨_, _, rfl, by unfold magOf; rw [if_neg c]⟩

theorem read_infinite (X : Nat) (h : X % 9223372036854775808 = 9218868437227405312) : Ieee.double.read X = .infinity (X / 9223372036854775808 % 2 == 1) := by
  rw [read_double, if_neg (by omega), if_neg (by omega), if_pos h]

theorem read_nan (X : Nat) (h : 9218868437227405312 < X % 9223372036854775808) : ∃ s f, Ieee.double.read X = .nan s f := by
  rw [read_double, if_neg (by omega), if_neg (by omega), if_neg (by omega)]; exact ⟨_, _, rfl⟩

theorem sum_comm (a b : Ieee.Datum) : a.sum b = b.sum a := by
  cases a <;> cases b <;> simp only [Ieee.Datum.sum]
  · rename_i s m i t n j
    rw [Int.min_comm j i, Int.add_comm (Ieee.signed t n _), Bool.and_comm t s]
  · rename_i s t
    by_cases h : s = t
    · subst h; rfl
    · rw [if_neg h, if_neg (fun e => h e.symm)]

theorem add_comm (x y : Nat) : Ieee.double.add x y = Ieee.double.add y x := by unfold Ieee.Format.add; rw [sum_comm]

theorem sumOf_comm (x y : Int) : sumOf x y = sumOf y x := by unfold sumOf addWord; rw [add_comm]

theorem add_nan_left (X Y : Nat) (h : 9218868437227405312 < X % 9223372036854775808) : Ieee.double.add X Y = none := by
  obtain ⟨s, f, e⟩ := read_nan X h
  unfold Ieee.Format.add; rw [e]; simp [Ieee.Datum.sum]

theorem canon_nan : canon 9221120237041090561 = 9221120237041090561 := by decide +kernel

theorem sumOf_nan_left (x y : Int) (h0 : 0 ≤ x) (h : 9218868437227405312 < x % 9223372036854775808) : sumOf x y = 9221120237041090561 := by
  unfold sumOf addWord
  rw [add_nan_left x.toNat y.toNat (by omega)]; exact canon_nan

theorem sumOf_nan_right (x y : Int) (h0 : 0 ≤ y) (h : 9218868437227405312 < y % 9223372036854775808) : sumOf x y = 9221120237041090561 := by
  rw [sumOf_comm]; exact sumOf_nan_left y x h0 h

theorem bit_sign (X : Nat) (h : X < 18446744073709551616) : (X / 9223372036854775808 % 2 == 1) = decide (9223372036854775808 ≤ X) := by
  rw [Bool.eq_iff_iff]; simp only [beq_iff_eq, decide_eq_true_eq]; omega

/-- An infinite word and a number's: that one. -/
theorem sumOf_inf_left (x y : Int) (h0 : 0 ≤ x) (h1 : x < 18446744073709551616) (hx : x % 9223372036854775808 = 9218868437227405312) (_g0 : 0 ≤ y) (_g1 : y < 18446744073709551616) (hy : y % 9223372036854775808 < 9218868437227405312) : sumOf x y = x := by
  obtain ⟨m, k, e, _⟩ := read_finite y.toNat (by omega)
  unfold sumOf addWord Ieee.Format.add
  rw [e, read_infinite x.toNat (by omega), bit_sign _ (by omega)]
  simp only [Ieee.Datum.sum, Option.map_some, Ieee.Format.write, word_double, show Ieee.double.infRung = 9218868437227405312 from by decide]
  by_cases c : 9223372036854775808 ≤ x
  · rw [decide_eq_true (by omega : 9223372036854775808 ≤ x.toNat)]
    have : x = 18442240474082181120 := by omega
    rw [this]; decide +kernel
  · rw [decide_eq_false (by omega : ¬ 9223372036854775808 ≤ x.toNat)]
    have : x = 9218868437227405312 := by omega
    rw [this]; decide +kernel

theorem sumOf_inf_right (x y : Int) (h0 : 0 ≤ x) (h1 : x < 18446744073709551616) (hx : x % 9223372036854775808 = 9218868437227405312) (g0 : 0 ≤ y) (g1 : y < 18446744073709551616) (hy : y % 9223372036854775808 < 9218868437227405312) : sumOf y x = x := by
  rw [sumOf_comm]; exact sumOf_inf_left x y h0 h1 hx g0 g1 hy

/-- Two infinite words. -/
theorem sumOf_inf_both (x y : Int) (h0 : 0 ≤ x) (h1 : x < 18446744073709551616) (hx : x % 9223372036854775808 = 9218868437227405312) (g0 : 0 ≤ y) (g1 : y < 18446744073709551616) (hy : y % 9223372036854775808 = 9218868437227405312) : sumOf x y = if x = y then x else 9221120237041090561 := by
  have a : x = 9218868437227405312 ∨ x = 18442240474082181120 := by omega
  have b : y = 9218868437227405312 ∨ y = 18442240474082181120 := by omega
  rcases a with rfl | rfl <;> rcases b with rfl | rfl <;> decide +kernel

theorem shl_signed (s : Bool) (m u : Nat) : Ieee.signed s m u = (if s then -1 else 1) * ((m * 2 ^ u : Nat) : Int) := by
  unfold Ieee.signed; rw [Nat.shiftLeft_eq]; cases s <;> simp

theorem sval_toNat (x : Int) (h0 : 0 ≤ x) (h1 : x < 18446744073709551616) : sval x = (if (x.toNat / 9223372036854775808 % 2 == 1) then -1 else 1) * ((magOf (x.toNat % 9223372036854775808) : Nat) : Int) := by
  unfold sval
  rw [bit_sign _ (by omega), show (x % 9223372036854775808).toNat = x.toNat % 9223372036854775808 from by omega]
  by_cases c : 9223372036854775808 ≤ x
  · rw [if_pos c, decide_eq_true (by omega : 9223372036854775808 ≤ x.toNat)]; simp
  · rw [if_neg c, decide_eq_false (by omega : ¬ 9223372036854775808 ≤ x.toNat)]; simp

theorem pow_split (k b : Nat) (h : b ≤ k) : 2 ^ k = 2 ^ (k - b) * 2 ^ b := by rw [← Nat.pow_add]; congr 1; omega

theorem total_scaled (s t : Bool) (m n i j : Nat) :
    (Ieee.signed s m (i - min i j) + Ieee.signed t n (j - min i j)) * (2 ^ (min i j) : Nat) = (if s then -1 else 1) * ((m * 2 ^ i : Nat) : Int) + (if t then -1 else 1) * ((n * 2 ^ j : Nat) : Int) := by
  rw [shl_signed, shl_signed, Int.add_mul]
  have a := pow_split i (min i j) (Nat.min_le_left _ _)
  have b := pow_split j (min i j) (Nat.min_le_right _ _)
  have a' : ((m * 2 ^ i : Nat) : Int) = ((m * 2 ^ (i - min i j) : Nat) : Int) * ((2 ^ (min i j) : Nat) : Int) := by
    rw [← Int.natCast_mul, Nat.mul_assoc, ← a]
  have b' : ((n * 2 ^ j : Nat) : Int) = ((n * 2 ^ (j - min i j) : Nat) : Int) * ((2 ^ (min i j) : Nat) : Int) := by
    rw [← Int.natCast_mul, Nat.mul_assoc, ← b]
  rw [a', b', Int.mul_assoc, Int.mul_assoc]

theorem sumOf_finite (x y : Int) (h0 : 0 ≤ x) (h1 : x < 18446744073709551616) (hx : x % 9223372036854775808 < 9218868437227405312) (g0 : 0 ≤ y) (g1 : y < 18446744073709551616) (hy : y % 9223372036854775808 < 9218868437227405312) :
    sumOf x y = (if sval x + sval y < 0 then 9223372036854775808 else 0) + ((min (rungOf (sval x + sval y).natAbs) 9218868437227405312 : Nat) : Int) := by
  obtain ⟨m, i, e, em⟩ := read_finite x.toNat (by omega)
  obtain ⟨n, j, f, fn⟩ := read_finite y.toNat (by omega)
  rw [sval_toNat x h0 h1, sval_toNat y g0 g1, ← em, ← fn]
  generalize (x.toNat / 9223372036854775808 % 2 == 1) = s at e ⊢
  generalize (y.toNat / 9223372036854775808 % 2 == 1) = t at f ⊢
  unfold sumOf addWord Ieee.Format.add
  rw [e, f]
  simp only [Ieee.Datum.sum, Option.map_some, Ieee.Format.write]
  have tb : (min (-1074 + (i : Int)) (-1074 + (j : Int))) = -1074 + ((min i j : Nat) : Int) := by omega
  have t1 : (-1074 + (i : Int) - min (-1074 + (i : Int)) (-1074 + (j : Int))).toNat = i - min i j := by omega
  have t2 : (-1074 + (j : Int) - min (-1074 + (i : Int)) (-1074 + (j : Int))).toNat = j - min i j := by omega
  rw [t1, t2, tb, nearest_rung, word_double]
  have ts := total_scaled s t m n i j
  have hp : (0 : Int) < ((2 ^ (min i j) : Nat) : Int) := by have := Nat.two_pow_pos (min i j); omega
  rw [← ts]
  generalize Ieee.signed s m (i - min i j) + Ieee.signed t n (j - min i j) = T at ts ⊢
  have na : (T * ((2 ^ (min i j) : Nat) : Int)).natAbs = T.natAbs * 2 ^ (min i j) := by rw [Int.natAbs_mul]; rfl
  have ng : T * ((2 ^ (min i j) : Nat) : Int) < 0 ↔ T < 0 := by
    constructor
    · intro h
      rcases Int.lt_or_le T 0 with c | c
      · exact c
      · have := Int.mul_nonneg c (Int.le_of_lt hp); omega
    · intro h; exact Int.mul_neg_of_neg_of_pos h hp
  rw [na]
  by_cases z : T = 0
  · subst z
    simp only [if_true, Int.natAbs_zero, Nat.zero_mul, rung_zero, Int.zero_mul]
    cases s <;> cases t <;> decide +kernel
  · rw [if_neg z]
    have rp : rungOf (T.natAbs * 2 ^ (min i j)) ≠ 0 := rung_pos _ (Nat.mul_ne_zero (by omega) (by have := Nat.two_pow_pos (min i j); omega))
    generalize rungOf (T.natAbs * 2 ^ (min i j)) = R at rp ⊢
    by_cases c : T < 0
    · rw [decide_eq_true c, if_pos (ng.2 c)]
      simp only [if_true]
      rw [canon_of (by omega)]; omega
    · rw [decide_eq_false c, if_neg (fun h => c (ng.1 h))]
      simp only [Bool.false_eq_true, if_false]
      rw [canon_of (by omega)]; omega

/-- Two canonical words of one rank are one. -/
theorem eq_of_rank {x y : Int} (h0 : 0 ≤ x) (h1 : x < 18446744073709551616) (g0 : 0 ≤ y) (g1 : y < 18446744073709551616) (hx : canon x = x) (hy : canon y = y) (h : rank x = rank y) : x = y := by
  have := (rank_inj x y h0 h1 g0 g1).1 h
  rw [hx, hy] at this; exact this

end Go.Proofs.YtmonkcekkhfafaaGreatDoor

/- FltTwo:
  Twice a float; floats' order and that of the whole numbers for which they stand; a float and its opposite. For words from 0 to less than 2^64 (the one condition).
-/
namespace Go.Proofs.YtmonkcekkhfafaaGreatDoor

theorem mag_pos (g : Nat) (h : 0 < g) : 0 < magOf g := by
  rcases Nat.eq_zero_or_pos (magOf g) with e | e
  · have := rung_mag g
    rw [e, rung_zero] at this; omega
  · exact e

end Go.Proofs.YtmonkcekkhfafaaGreatDoor

/- FltOpp:
  Floats' order is that of the whole numbers for which they stand, and a difference is below zero just if the first one is less. For canonical words that are no NaN's (the condition of each fact here).
-/
namespace Go.Proofs.YtmonkcekkhfafaaGreatDoor

theorem mag_step (g : Nat) : magOf g < magOf (g + 1) := by
  unfold magOf
  by_cases c : g + 1 < 2 ^ 52
  · rw [if_pos (by omega), if_pos c]; omega
  · rw [if_neg c]
    by_cases d : g < 2 ^ 52
    · rw [if_pos d]
      have e : (g + 1) / 2 ^ 52 - 1 = 0 := by omega
      rw [e]; omega
    · rw [if_neg d]
      by_cases z : (g + 1) % 2 ^ 52 = 0
      · have e1 : (g + 1) / 2 ^ 52 - 1 = (g / 2 ^ 52 - 1) + 1 := by omega
        have e2 : g % 2 ^ 52 = 2 ^ 52 - 1 := by omega
        rw [z, e1, e2, Nat.pow_succ 2 (g / 2 ^ 52 - 1)]
        have hp := Nat.two_pow_pos (g / 2 ^ 52 - 1)
        generalize 2 ^ (g / 2 ^ 52 - 1) = P at hp ⊢
        omega
      · have e1 : (g + 1) / 2 ^ 52 - 1 = g / 2 ^ 52 - 1 := by omega
        have e2 : (g + 1) % 2 ^ 52 = g % 2 ^ 52 + 1 := by omega
        rw [e1, e2]
        exact Nat.mul_lt_mul_of_pos_right (by omega) (Nat.two_pow_pos _)

theorem mag_mono {g h : Nat} (c : g < h) : magOf g < magOf h := by
  induction h with
  | zero => omega
  | succ n ih =>
    rcases Nat.lt_or_ge g n with d | d
    · exact Nat.lt_trans (ih d) (mag_step n)
    · have : g = n := by omega
      subst this; exact mag_step g

theorem mag_lt_iff (g h : Nat) : magOf g < magOf h ↔ g < h := by
  constructor
  · intro c
    rcases Nat.lt_trichotomy g h with d | d | d
    · exact d
    · subst d; omega
    · have := mag_mono d; omega
  · exact mag_mono

/-- A canonical word of a number. -/
theorem sval_rank (x : Int) (h0 : 0 ≤ x) (h1 : x < 18446744073709551616) (hc : canon x = x) (hf : x % 9223372036854775808 < 9218868437227405312) :
    (x < 9223372036854775808 ∧ rank x = x + 9223372036854775808 ∧ sval x = ((magOf x.toNat : Nat) : Int)) ∨
    (9223372036854775808 < x ∧ rank x = 18446744073709551615 - x ∧ sval x = -((magOf (x - 9223372036854775808).toNat : Nat) : Int) ∧ 0 < magOf (x - 9223372036854775808).toNat) := by
  rcases Int.lt_or_le x 9223372036854775808 with c | c
  · refine Or.inl ⟨c, ?_, ?_⟩
    · unfold rank; rw [hc, if_neg (by omega)]
    · unfold sval; rw [if_neg (by omega), show x % 9223372036854775808 = x from by omega]
  · have hne : x ≠ 9223372036854775808 := by
      intro e; rw [e] at hc; revert hc; decide +kernel
    refine Or.inr ⟨by omega, ?_, ?_, mag_pos _ (by omega)⟩
    · unfold rank; rw [hc, if_pos (by omega)]
    · unfold sval; rw [if_pos c, show x % 9223372036854775808 = x - 9223372036854775808 from by omega]

theorem rank_lt_iff (x y : Int) (h0 : 0 ≤ x) (h1 : x < 18446744073709551616) (hc : canon x = x) (hf : x % 9223372036854775808 < 9218868437227405312)
    (g0 : 0 ≤ y) (g1 : y < 18446744073709551616) (gc : canon y = y) (gf : y % 9223372036854775808 < 9218868437227405312) : rank x < rank y ↔ sval x < sval y := by
  rcases sval_rank x h0 h1 hc hf with ⟨a1, a2, a3⟩ | ⟨a1, a2, a3, a4⟩ <;> rcases sval_rank y g0 g1 gc gf with ⟨b1, b2, b3⟩ | ⟨b1, b2, b3, b4⟩
  · have := mag_lt_iff x.toNat y.toNat; rw [a2, b2, a3, b3]; omega
  · rw [a2, b2, a3, b3]; omega
  · rw [a2, b2, a3, b3]; omega
  · have := mag_lt_iff (y - 9223372036854775808).toNat (x - 9223372036854775808).toNat; rw [a2, b2, a3, b3]; omega

theorem sval_inj (x y : Int) (h0 : 0 ≤ x) (h1 : x < 18446744073709551616) (hc : canon x = x) (hf : x % 9223372036854775808 < 9218868437227405312)
    (g0 : 0 ≤ y) (g1 : y < 18446744073709551616) (gc : canon y = y) (gf : y % 9223372036854775808 < 9218868437227405312) : sval x = sval y ↔ x = y := by
  constructor
  · intro e
    have a := rank_lt_iff x y h0 h1 hc hf g0 g1 gc gf
    have b := rank_lt_iff y x g0 g1 gc gf h0 h1 hc hf
    exact eq_of_rank h0 h1 g0 g1 hc gc (by omega)
  · intro e; rw [e]

/-- The opposite's word. -/
def flip (y : Int) : Int := if 9223372036854775808 ≤ y then y - 9223372036854775808 else y + 9223372036854775808

theorem flip_lo (y : Int) (g0 : 0 ≤ y) : 0 ≤ flip y := by unfold flip; split <;> omega
theorem flip_hi (y : Int) (g1 : y < 18446744073709551616) : flip y < 18446744073709551616 := by unfold flip; split <;> omega

theorem sval_flip (y : Int) (g0 : 0 ≤ y) (g1 : y < 18446744073709551616) (gc : canon y = y) (gf : y % 9223372036854775808 < 9218868437227405312) :
    sval (canon (flip y)) = - sval y ∧ canon (flip y) % 9223372036854775808 < 9218868437227405312 := by
  by_cases z : y = 0
  · subst z; decide +kernel
  · rcases sval_rank y g0 g1 gc gf with ⟨b1, b2, b3⟩ | ⟨b1, b2, b3, b4⟩
    · have e : canon (flip y) = y + 9223372036854775808 := by
        unfold flip; rw [if_neg (by omega), canon_of (by omega)]
      rw [e, b3]
      refine ⟨?_, by omega⟩
      unfold sval; rw [if_pos (by omega), show (y + 9223372036854775808) % 9223372036854775808 = y from by omega]
    · have e : canon (flip y) = y - 9223372036854775808 := by
        unfold flip; rw [if_pos (by omega), canon_of (by omega)]
      rw [e, b3]
      refine ⟨?_, by omega⟩
      unfold sval; rw [if_neg (by omega), show (y - 9223372036854775808) % 9223372036854775808 = y - 9223372036854775808 from by omega]; omega

theorem rank_zero : rank 0 = 9223372036854775808 := by decide +kernel

theorem diff_finite (x y : Int) (h0 : 0 ≤ x) (h1 : x < 18446744073709551616) (hc : canon x = x) (hf : x % 9223372036854775808 < 9218868437227405312)
    (g0 : 0 ≤ y) (g1 : y < 18446744073709551616) (gc : canon y = y) (gf : y % 9223372036854775808 < 9218868437227405312) :
    less x y = less (sumOf x (canon (flip y))) 0 ∧ (x == y) = (sumOf x (canon (flip y)) == 0) := by
  obtain ⟨e, ef⟩ := sval_flip y g0 g1 gc gf
  have z0 := canon_lo _ (flip_lo y g0)
  have z1 := canon_hi _ (flip_hi y g1)
  have sd := sumOf_finite x (canon (flip y)) h0 h1 hf z0 z1 ef
  have cd : canon (sumOf x (canon (flip y))) = sumOf x (canon (flip y)) := canon_canon _
  have rl := rank_lt_iff x y h0 h1 hc hf g0 g1 gc gf
  have ri := sval_inj x y h0 h1 hc hf g0 g1 gc gf
  rw [e] at sd
  have rz : (sval x + - sval y).natAbs = 0 ↔ sval x = sval y := by omega
  have rp := rung_pos (sval x + - sval y).natAbs
  have r0 : (sval x + - sval y).natAbs = 0 → rungOf (sval x + - sval y).natAbs = 0 := fun h => by rw [h]; exact rung_zero
  generalize rungOf (sval x + - sval y).natAbs = R at *
  generalize sumOf x (canon (flip y)) = d at *
  constructor
  · unfold less
    rw [Bool.eq_iff_iff]; simp only [decide_eq_true_eq]
    rw [rl, rank_zero]
    unfold rank; rw [cd]
    split at sd
    · rw [if_pos (by omega)]; omega
    · rw [if_neg (by omega)]; omega
  · rw [Bool.eq_iff_iff]; simp only [beq_iff_eq]
    rw [← ri]
    split at sd <;> omega

theorem finite_of_kind (x : Int) (h0 : 0 ≤ x) (h1 : x < 18446744073709551616) (h3 : ¬ kind x = 3) (h2 : ¬ kind x = 2) : x % 9223372036854775808 < 9218868437227405312 := by
  rw [kind_three] at h3
  by_cases c : 9218868437227405312 < x % 9223372036854775808
  · exact absurd (by unfold canon; rw [if_pos c]) h3
  · by_cases d : x % 9223372036854775808 = 9218868437227405312
    · have : x = 9218868437227405312 ∨ x = 18442240474082181120 := by omega
      rcases this with rfl | rfl <;> exact absurd (by decide +kernel) h2
    · omega

theorem infinite_of_kind (a : Int) (_a0 : 0 ≤ a) (_a1 : a < 18446744073709551616) (h : kind a = 2) : a = 9218868437227405312 ∨ a = 18442240474082181120 := by
  unfold kind canon at h
  split at h <;> split at h <;> (try split at h) <;> (try split at h) <;> (try split at h) <;> (try split at h) <;> omega

theorem less_inf_finite (x : Int) (h0 : 0 ≤ x) (h1 : x < 18446744073709551616) (hc : canon x = x) (hf : x % 9223372036854775808 < 9218868437227405312) :
    less 9218868437227405312 x = false ∧ less x 9218868437227405312 = true ∧ less 18442240474082181120 x = true ∧ less x 18442240474082181120 = false := by
  have e1 : rank 9218868437227405312 = 18442240474082181120 := by decide +kernel
  simp only [less, decide_eq_false_iff_not, decide_eq_true_eq, rank_negInf, e1]
  rcases sval_rank x h0 h1 hc hf with ⟨a1, a2, _⟩ | ⟨a1, a2, _⟩ <;> omega

/-- All of FltNumbers' last line. -/
theorem numbers (x y : Int) (h0 : 0 ≤ x) (h1 : x < 18446744073709551616) (hc : canon x = x) (h3 : ¬ kind x = 3)
    (g0 : 0 ≤ y) (g1 : y < 18446744073709551616) (gc : canon y = y) (g3 : ¬ kind y = 3) (hn : ¬ (kind x = 2 ∧ x = y)) :
    less x y = less (sumOf x (canon (flip y))) 0 ∧ (x == y) = (sumOf x (canon (flip y)) == 0) := by
  by_cases a : kind x = 2 <;> by_cases b : kind y = 2
  · rcases infinite_of_kind x h0 h1 a with rfl | rfl <;> rcases infinite_of_kind y g0 g1 b with rfl | rfl
    · exact absurd ⟨a, rfl⟩ hn
    · decide +kernel
    · decide +kernel
    · exact absurd ⟨a, rfl⟩ hn
  · have gf := finite_of_kind y g0 g1 g3 b
    obtain ⟨e, ef⟩ := sval_flip y g0 g1 gc gf
    have z0 := canon_lo _ (flip_lo y g0)
    have z1 := canon_hi _ (flip_hi y g1)
    obtain ⟨l1, l2, l3, l4⟩ := less_inf_finite y g0 g1 gc gf
    rcases infinite_of_kind x h0 h1 a with rfl | rfl
    · rw [sumOf_inf_left _ _ h0 h1 (by decide) z0 z1 ef]
      exact ⟨by rw [l1]; decide +kernel, by rw [show ((9218868437227405312 : Int) == 0) = false from by decide]; simp; omega⟩
    · rw [sumOf_inf_left _ _ h0 h1 (by decide) z0 z1 ef]
      exact ⟨by rw [l3]; decide +kernel, by rw [show ((18442240474082181120 : Int) == 0) = false from by decide]; simp; omega⟩
  · have hf := finite_of_kind x h0 h1 h3 a
    obtain ⟨l1, l2, l3, l4⟩ := less_inf_finite x h0 h1 hc hf
    rcases infinite_of_kind y g0 g1 b with rfl | rfl
    · rw [show canon (flip 9218868437227405312) = 18442240474082181120 from by decide +kernel, sumOf_inf_right _ _ (by omega) (by omega) (by decide) h0 h1 hf]
      exact ⟨by rw [l2]; decide +kernel, by rw [show ((18442240474082181120 : Int) == 0) = false from by decide]; simp; omega⟩
    · rw [show canon (flip 18442240474082181120) = 9218868437227405312 from by decide +kernel, sumOf_inf_right _ _ (by omega) (by omega) (by decide) h0 h1 hf]
      exact ⟨by rw [l4]; decide +kernel, by rw [show ((9218868437227405312 : Int) == 0) = false from by decide]; simp; omega⟩
  · exact diff_finite x y h0 h1 hc (finite_of_kind x h0 h1 h3 a) g0 g1 gc (finite_of_kind y g0 g1 g3 b)

theorem numbers_nan (x y : Int) (h0 : 0 ≤ x) (g0 : 0 ≤ y) (hc : canon x = x) (gc : canon y = y) (h : kind x = 3 ∨ kind y = 3) : sumOf x y = 9221120237041090561 := by
  rcases h with h | h
  · rw [kind_three, hc] at h; subst h; exact sumOf_nan_left _ _ h0 (by decide)
  · rw [kind_three, gc] at h; subst h; exact sumOf_nan_right _ _ g0 (by decide)

end Go.Proofs.YtmonkcekkhfafaaGreatDoor

/- FltRefSum:
  The document's own Sum returns what the model's sum of the two floats is, Canon of it, in whatever world, for two words from 0 to less than 2^64 (the one condition).
-/
namespace Go.Proofs.YtmonkcekkhfafaaGreatDoor
open Go.RowKit

def eN (g : Nat) : Nat := if g < 4503599627370496 then 1 else g / 4503599627370496
def mN (g : Nat) : Nat := if g < 4503599627370496 then 8 * g else 8 * (4503599627370496 + g % 4503599627370496)

theorem wholeE_nat (x : Int) : wholeE x = ((eN (x % 9223372036854775808).toNat : Nat) : Int) := by
  unfold wholeE eN; split <;> split <;> omega

theorem wholeM_nat (x : Int) : wholeM x = ((mN (x % 9223372036854775808).toNat : Nat) : Int) := by
  unfold wholeM mN; split <;> split <;> omega

theorem eN_pos (g : Nat) : 1 ≤ eN g := by unfold eN; split <;> omega

theorem eN_mono {g h : Nat} (c : g ≤ h) : eN g ≤ eN h := by unfold eN; split <;> split <;> omega

theorem eN_le (g : Nat) (c : g < 9218868437227405312) : eN g ≤ 2046 := by unfold eN; split <;> omega

theorem mN_lt (g : Nat) : mN g < 72057594037927936 := by unfold mN; split <;> omega

theorem mN_big (g : Nat) (c : eN g ≠ 1) : 36028797018963968 ≤ mN g := by unfold eN mN at *; split at c <;> split <;> omega

theorem mN_eight (g : Nat) : ∃ t, mN g = 8 * t := by unfold mN; split <;> exact ⟨_, rfl⟩

theorem mag_whole (g : Nat) : 8 * magOf g = mN g * 2 ^ (eN g - 1) := by
  unfold magOf mN eN
  have e : (2 : Nat) ^ 52 = 4503599627370496 := rfl
  rw [e]
  split
  · simp
  · rw [Nat.mul_assoc]

/-- A greater and a smaller size, their eighths. -/
theorem kept_add (g h : Nat) (c : h ≤ g) : Kept (magOf g + magOf h) (eN g) (mN g + jam (mN h) (eN g - eN h)) ∧ mN g + jam (mN h) (eN g - eN h) < 144115188075855872 := by
  have e1 := eN_pos g
  have e2 := eN_pos h
  have e3 := eN_mono c
  have b1 := mN_lt g
  have b2 := mN_lt h
  have b3 := jam_le (mN h) (eN g - eN h)
  obtain ⟨t, ht⟩ := mN_eight g
  refine ⟨⟨?_, ?_⟩, by omega⟩
  · rw [Nat.mul_add, mag_whole g, mag_whole h, ht, show 8 * t = 2 * (4 * t) from by omega, jam_add]
    have s := jam_scale (mN h) (eN g - eN h) (eN h - 1)
    rw [show eN g - eN h + (eN h - 1) = eN g - 1 from by omega] at s
    rw [s]
  · by_cases z : eN g = 1
    · rw [z]; exact Or.inl (by rw [Nat.sub_self, Nat.pow_zero, Nat.mod_one])
    · have := mN_big g z; exact Or.inr (by omega)

theorem mag_le {g h : Nat} (c : h ≤ g) : magOf h ≤ magOf g := by
  rcases Nat.lt_or_ge h g with d | d
  · exact Nat.le_of_lt (mag_mono d)
  · have : g = h := by omega
    subst this; exact Nat.le_refl _

theorem pow_dvd {a b : Nat} (h : a ≤ b) : 2 ^ a ∣ 2 ^ b := Nat.pow_dvd_pow 2 h

theorem kept_sub (g h : Nat) (c : h ≤ g) : Kept (magOf g - magOf h) (eN g) (mN g - jam (mN h) (eN g - eN h)) ∧ jam (mN h) (eN g - eN h) ≤ mN g ∧ mN g - jam (mN h) (eN g - eN h) < 144115188075855872 := by
  have e1 := eN_pos g
  have e2 := eN_pos h
  have e3 := eN_mono c
  have b1 := mN_lt g
  have b2 := mN_lt h
  have b4 := mag_le c
  have w1 := mag_whole g
  have w2 := mag_whole h
  have s := jam_scale (mN h) (eN g - eN h) (eN h - 1)
  rw [show eN g - eN h + (eN h - 1) = eN g - 1 from by omega] at s
  obtain ⟨t, ht⟩ := mN_eight g
  obtain ⟨u, hu⟩ := mN_eight h
  have le : mN h * 2 ^ (eN h - 1) ≤ mN g * 2 ^ (eN g - 1) := by omega
  have js : jam (8 * (magOf g - magOf h)) (eN g - 1) = mN g - jam (mN h) (eN g - eN h) := by
    rw [Nat.mul_sub, w1, w2, ht, show 8 * t = 2 * (4 * t) from by omega]
    rw [ht, show 8 * t = 2 * (4 * t) from by omega] at le
    rw [jam_sub _ _ _ le, s]
  have jl : jam (mN h) (eN g - eN h) ≤ mN g := by
    rw [← s]
    rcases Nat.lt_or_ge (mN g) (jam (mN h * 2 ^ (eN h - 1)) (eN g - 1)) with z | z
    · exfalso
      have q := (jam_lt_iff (mN h * 2 ^ (eN h - 1)) (eN g - 1) (4 * t)).2
      have q2 := (jam_lt_iff (mN h * 2 ^ (eN h - 1)) (eN g - 1) (4 * t + 1))
      have p := Nat.two_pow_pos (eN g - 1)
      rw [ht] at z le
      rw [show 2 * (4 * t) = 8 * t from by omega] at q
      rw [show 2 * (4 * t + 1) = 8 * t + 2 from by omega] at q2
      rcases Nat.lt_or_ge (mN h * 2 ^ (eN h - 1)) (8 * t * 2 ^ (eN g - 1)) with y | y
      · have := q y; omega
      · have e : mN h * 2 ^ (eN h - 1) = 8 * t * 2 ^ (eN g - 1) := by omega
        rw [e, jam_exact] at z; omega
    · exact z
  refine ⟨⟨js.symm, ?_⟩, jl, by omega⟩
  by_cases z : eN g = 1
  · rw [z]; exact Or.inl (by rw [Nat.sub_self, Nat.pow_zero, Nat.mod_one])
  · have big := mN_big g z
    by_cases d : eN g - eN h ≤ 1
    · left
      apply Nat.mod_eq_zero_of_dvd
      rw [Nat.mul_sub, w1, w2]
      apply Nat.dvd_sub
      · exact Nat.dvd_mul_left _ _
      · rw [hu, show 8 * u * 2 ^ (eN h - 1) = u * 2 ^ (eN h - 1 + 3) from by rw [Nat.pow_add, Nat.mul_comm 8 u, Nat.mul_assoc, Nat.mul_comm 8]]
        exact Nat.dvd_trans (pow_dvd (by omega)) (Nat.dvd_mul_left _ _)
    · right
      have p : 4 ≤ 2 ^ (eN g - eN h) := by
        have := Nat.pow_le_pow_right (n := 2) (by omega) (by omega : 2 ≤ eN g - eN h)
        omega
      have := (jam_lt_iff (mN h) (eN g - eN h) 9007199254740992).2 (by omega)
      omega

def shiftI (m b : Int) : Int := ((jam m.toNat b.toNat : Nat) : Int)

theorem shifted_int (m b : Int) (w : World) (h0 : 0 ≤ m) (h1 : m < 18446744073709551616) (b0 : 0 ≤ b) (b1 : b < 4611686018427387904) :
    Calls Tryz.prog 123 #[.int .u64 m, .int .i64 b] w fun e w' => e = .returned (.int .u64 (shiftI m b)) ∧ w = w' := by
  have h := shifted_any m.toNat b.toNat w (by omega) (by omega)
  rw [Int.toNat_of_nonneg h0, Int.toNat_of_nonneg b0] at h
  exact h

set_option maxHeartbeats 400000 in
theorem made_zero (sg e : Int) (w : World) :
    Calls Tryz.prog 124 #[.int .u64 sg, .int .i64 e, .int .u64 0] w fun e w' => e = .returned (.int .u64 0) ∧ w = w' := by
  go_enter Tryz.func124, Tryz.ntmps124
  go_wp2
  go_ret
  exact ⟨rfl, rfl⟩

theorem made_int (sg e s : Int) (V : Nat) (w : World) (g0 : 0 ≤ sg) (g1 : sg ≤ 1) (e0 : 1 ≤ e) (e1 : e ≤ 2100) (s0 : 0 ≤ s) (s1 : s < 144115188075855872) (hK : Kept V e.toNat s.toNat) :
    Calls Tryz.prog 124 #[.int .u64 sg, .int .i64 e, .int .u64 s] w fun e w' => e = .returned (.int .u64 (madeOf sg V)) ∧ w = w' := by
  by_cases z : V = 0
  · have : s = 0 := by
      have h := hK.1
      rw [z, Nat.mul_zero, (jam_eq_zero 0 _).2 rfl] at h
      omega
    subst this
    have e2 : madeOf sg V = 0 := by unfold madeOf; rw [if_pos z]
    rw [e2]
    exact made_zero sg e w
  · have h := made_any sg e.toNat s.toNat V w g0 g1 (by omega) (by omega) z (by omega) hK
    rw [Int.toNat_of_nonneg (by omega : 0 ≤ e), Int.toNat_of_nonneg s0] at h
    exact h

theorem madeOf_lo (sg : Int) (V : Nat) (g0 : 0 ≤ sg) : 0 ≤ madeOf sg V := by unfold madeOf; split <;> omega
theorem madeOf_hi (sg : Int) (V : Nat) (g1 : sg ≤ 1) : madeOf sg V < 18446744073709551616 := by unfold madeOf; split <;> omega

theorem madeOf_canon (sg : Int) (V : Nat) (g0 : 0 ≤ sg) (g1 : sg ≤ 1) : canon (madeOf sg V) = madeOf sg V := by
  unfold madeOf
  by_cases z : V = 0
  · rw [if_pos z]; decide +kernel
  · rw [if_neg z]
    have := rung_pos V z
    have c : sg = 0 ∨ sg = 1 := by omega
    rcases c with rfl | rfl <;> exact canon_of (by omega)

/-- The sum of a greater and a smaller word, by sizes and signs. -/
theorem sum_by_size (x y : Int) (h0 : 0 ≤ x) (h1 : x < 18446744073709551616) (hx : x % 9223372036854775808 < 9218868437227405312) (g0 : 0 ≤ y) (g1 : y < 18446744073709551616) (hy : y % 9223372036854775808 < 9218868437227405312)
    (hl : y % 9223372036854775808 ≤ x % 9223372036854775808) :
    (x / 9223372036854775808 = y / 9223372036854775808 → sumOf x y = madeOf (x / 9223372036854775808) (magOf (x % 9223372036854775808).toNat + magOf (y % 9223372036854775808).toNat)) ∧
    (¬ x / 9223372036854775808 = y / 9223372036854775808 → sumOf x y = madeOf (x / 9223372036854775808) (magOf (x % 9223372036854775808).toNat - magOf (y % 9223372036854775808).toNat)) := by
  have ml : magOf (y % 9223372036854775808).toNat ≤ magOf (x % 9223372036854775808).toNat := mag_le (by omega)
  rw [sumOf_finite x y h0 h1 hx g0 g1 hy]
  unfold sval madeOf
  generalize magOf (x % 9223372036854775808).toNat = A at *
  generalize magOf (y % 9223372036854775808).toNat = B at *
  refine ⟨fun e => ?_, fun e => ?_⟩
  · by_cases c : 9223372036854775808 ≤ x
    · rw [if_pos c, if_pos (by omega : 9223372036854775808 ≤ y), show (-(A : Int) + -(B : Int)).natAbs = A + B from by omega]
      by_cases z : A + B = 0
      · rw [if_pos z, z, rung_zero, if_neg (by omega)]; rfl
      · rw [if_neg z, if_pos (by omega)]; omega
    · rw [if_neg c, if_neg (by omega : ¬ 9223372036854775808 ≤ y), show ((A : Int) + (B : Int)).natAbs = A + B from by omega]
      by_cases z : A + B = 0
      · rw [if_pos z, z, rung_zero, if_neg (by omega)]; rfl
      · rw [if_neg z, if_neg (by omega)]; omega
  · by_cases c : 9223372036854775808 ≤ x
    · rw [if_pos c, if_neg (by omega : ¬ 9223372036854775808 ≤ y), show (-(A : Int) + (B : Int)).natAbs = A - B from by omega]
      by_cases z : A - B = 0
      · rw [if_pos z, z, rung_zero, if_neg (by omega)]; rfl
      · rw [if_neg z, if_pos (by omega)]; omega
    · rw [if_neg c, if_pos (by omega : 9223372036854775808 ≤ y), show ((A : Int) + -(B : Int)).natAbs = A - B from by omega]
      by_cases z : A - B = 0
      · rw [if_pos z, z, rung_zero, if_neg (by omega)]; rfl
      · rw [if_neg z, if_neg (by omega)]; omega

theorem sval_canon (a : Int) (h : a % 9223372036854775808 < 9218868437227405312) : sval (canon a) = sval a ∧ canon a % 9223372036854775808 < 9218868437227405312 := by
  unfold canon
  rw [if_neg (by omega)]
  by_cases z : a = 9223372036854775808
  · rw [if_pos z, z]; decide +kernel
  · rw [if_neg z]; exact ⟨rfl, h⟩

theorem canon_inf (a : Int) (h : a % 9223372036854775808 = 9218868437227405312) : canon a = a := by
  unfold canon; rw [if_neg (by omega), if_neg (by omega)]

theorem sumOf_canon (a b : Int) (a0 : 0 ≤ a) (a1 : a < 18446744073709551616) (b0 : 0 ≤ b) (b1 : b < 18446744073709551616) : sumOf (canon a) (canon b) = sumOf a b := by
  have ka0 := canon_lo a a0
  have ka1 := canon_hi a a1
  have kb0 := canon_lo b b0
  have kb1 := canon_hi b b1
  rcases Int.lt_trichotomy (a % 9223372036854775808) 9218868437227405312 with c | c | c
  · obtain ⟨s1, s2⟩ := sval_canon a c
    rcases Int.lt_trichotomy (b % 9223372036854775808) 9218868437227405312 with d | d | d
    · obtain ⟨t1, t2⟩ := sval_canon b d
      rw [sumOf_finite _ _ ka0 ka1 s2 kb0 kb1 t2, sumOf_finite _ _ a0 a1 c b0 b1 d, s1, t1]
    · rw [canon_inf b d, sumOf_inf_right b _ b0 b1 d ka0 ka1 s2, sumOf_inf_right b a b0 b1 d a0 a1 c]
    · have e : canon b = 9221120237041090561 := by unfold canon; rw [if_pos d]
      rw [e, sumOf_nan_right _ _ (by omega) (by decide), sumOf_nan_right _ _ b0 d]
  · rw [canon_inf a c]
    rcases Int.lt_trichotomy (b % 9223372036854775808) 9218868437227405312 with d | d | d
    · obtain ⟨t1, t2⟩ := sval_canon b d
      rw [sumOf_inf_left a _ a0 a1 c kb0 kb1 t2, sumOf_inf_left a b a0 a1 c b0 b1 d]
    · rw [canon_inf b d]
    · have e : canon b = 9221120237041090561 := by unfold canon; rw [if_pos d]
      rw [e, sumOf_nan_right _ _ (by omega) (by decide), sumOf_nan_right _ _ b0 d]
  · have e : canon a = 9221120237041090561 := by unfold canon; rw [if_pos c]
    rw [e, sumOf_nan_left _ _ (by omega) (by decide), sumOf_nan_left _ _ a0 c]

end Go.Proofs.YtmonkcekkhfafaaGreatDoor

