/-
  Numbers shifted to the right with the last bit kept: set if any bit is lost. Rounded in eighths they are rounded as the numbers themselves. No condition but those that each fact names.
-/
import Derived.Test.YtjdbgmopmkdlcaaRound
namespace Go.Proofs.Ytjdbgmopmkdlcaa

/-- T, d bits lower, the last bit being set if any bit is lost. -/
def jam (T d : Nat) : Nat := 2 * (T / 2 ^ (d + 1)) + (if T % 2 ^ (d + 1) = 0 then 0 else 1)

def jam1 (s : Nat) : Nat := 2 * (s / 4) + (if s % 4 = 0 then 0 else 1)

theorem jam_zero (T : Nat) : jam T 0 = T := by
  unfold jam
  rw [show 2 ^ (0 + 1) = 2 from rfl]
  split <;> omega

/-- T over P times c, and what is left. -/
theorem div_more (T P c : Nat) : T / (P * c) = T / P / c := (Nat.div_div_eq_div_mul T P c).symm

theorem jam_succ (T d : Nat) : jam T (d + 1) = jam1 (jam T d) := by
  unfold jam jam1
  rw [show d + 1 + 1 = (d + 1) + 1 from rfl, Nat.pow_succ 2 (d + 1)]
  have hp := Nat.two_pow_pos (d + 1)
  generalize 2 ^ (d + 1) = P at hp ⊢
  rw [div_more, Nat.mod_mul]
  have hr := Nat.mod_lt T hp
  generalize T / P = q
  generalize T % P = r at hr ⊢
  have h2 : q % 2 = 0 ∨ q % 2 = 1 := by omega
  rcases h2 with h | h <;> rw [h] <;> by_cases z : r = 0
  · subst z; simp; split <;> omega
  · rw [if_neg (by omega), if_neg z, if_neg (by omega)]; omega
  · rw [if_neg (by omega), if_pos z, if_neg (by omega)]; omega
  · rw [if_neg (by omega), if_neg z, if_neg (by omega)]; omega

theorem jam_scale (T d k : Nat) : jam (T * 2 ^ k) (d + k) = jam T d := by
  have hk := Nat.two_pow_pos k
  unfold jam
  rw [show d + k + 1 = (d + 1) + k from by omega, Nat.pow_add, Nat.mul_div_mul_right _ _ hk, Nat.mul_mod_mul_right]
  congr 1
  by_cases z : T % 2 ^ (d + 1) = 0
  · rw [z]; simp
  · rw [if_neg z, if_neg (Nat.mul_ne_zero z (by omega))]

theorem jam_exact (T d : Nat) : jam (T * 2 ^ d) d = T := by
  have := jam_scale T 0 d
  rw [Nat.zero_add, jam_zero] at this; exact this

theorem jam_add (m T d : Nat) : jam (2 * m * 2 ^ d + T) d = 2 * m + jam T d := by
  unfold jam
  have e : 2 * m * 2 ^ d = 2 ^ (d + 1) * m := by rw [Nat.pow_succ, Nat.mul_comm 2 m, Nat.mul_assoc, Nat.mul_comm 2, Nat.mul_comm]
  rw [e]
  have hp := Nat.two_pow_pos (d + 1)
  generalize 2 ^ (d + 1) = P at hp ⊢
  rw [Nat.mul_add_div hp, Nat.mul_add_mod]
  omega

theorem jam_sub (m T d : Nat) (h : T ≤ 2 * m * 2 ^ d) : jam (2 * m * 2 ^ d - T) d = 2 * m - jam T d := by
  unfold jam
  have e : 2 * m * 2 ^ d = 2 ^ (d + 1) * m := by rw [Nat.pow_succ, Nat.mul_comm 2 m, Nat.mul_assoc, Nat.mul_comm 2, Nat.mul_comm]
  rw [e] at h ⊢
  have hp := Nat.two_pow_pos (d + 1)
  generalize 2 ^ (d + 1) = P at hp h ⊢
  have dm := Nat.div_add_mod T P
  have hr := Nat.mod_lt T hp
  generalize T / P = q at dm ⊢
  generalize T % P = r at dm hr ⊢
  subst dm
  by_cases z : r = 0
  · subst z
    rw [Nat.add_zero, ← Nat.mul_sub, Nat.mul_div_cancel_left _ hp, Nat.mul_mod_right]
    simp; omega
  · have hq : q < m := by
      rcases Nat.lt_or_ge q m with c | c
      · exact c
      · have := Nat.mul_le_mul_left P c; omega
    obtain ⟨t, ht⟩ : ∃ t, m = q + 1 + t := ⟨m - (q + 1), by omega⟩
    have e2 : P * m - (P * q + r) = P * t + (P - r) := by
      subst ht
      rw [Nat.mul_add, Nat.mul_add, Nat.mul_one]
      generalize P * q = A
      generalize P * t = B
      omega
    rw [e2, Nat.mul_add_div hp, Nat.mul_add_mod, Nat.div_eq_of_lt (by omega), Nat.mod_eq_of_lt (by omega), if_neg (by omega), if_neg z]
    omega

theorem jam_lt_iff (T d b : Nat) : jam T d < 2 * b ↔ T < 2 * b * 2 ^ d := by
  have e : 2 * b * 2 ^ d = b * 2 ^ (d + 1) := by rw [Nat.pow_succ, Nat.mul_comm 2 b, Nat.mul_assoc, Nat.mul_comm 2]
  rw [e, ← Nat.div_lt_iff_lt_mul (Nat.two_pow_pos (d + 1))]
  unfold jam
  split <;> omega

theorem jam_eq_zero (T d : Nat) : jam T d = 0 ↔ T = 0 := by
  constructor
  · intro h
    have a := jam_lt_iff T d 1
    unfold jam at h
    have dm := Nat.div_add_mod T (2 ^ (d + 1))
    split at h
    · rename_i z
      have q : T / 2 ^ (d + 1) = 0 := by omega
      rw [q, z] at dm; omega
    · omega
  · intro h; subst h; simp [jam]

theorem rne_jam (T d : Nat) : rne (jam T d) 3 = rne T (d + 3) := by
  unfold rne
  rw [show d + 3 = (d + 1) + 2 from by omega, Nat.pow_add 2 (d + 1) 2]
  unfold jam
  have hp := Nat.two_pow_pos (d + 1)
  generalize 2 ^ (d + 1) = P at hp ⊢
  rw [show 2 ^ 2 = 4 from rfl, show 2 ^ 3 = 8 from rfl, div_more, Nat.mod_mul]
  have hr := Nat.mod_lt T hp
  generalize T / P = q
  generalize T % P = r at hr ⊢
  by_cases z : r = 0
  · rw [if_pos z]
    have h4 : q % 4 = 0 ∨ q % 4 = 1 ∨ q % 4 = 2 ∨ q % 4 = 3 := by omega
    rcases h4 with h | h | h | h <;> rw [h] <;> split <;> split <;> omega
  · rw [if_neg z]
    have h4 : q % 4 = 0 ∨ q % 4 = 1 ∨ q % 4 = 2 ∨ q % 4 = 3 := by omega
    rcases h4 with h | h | h | h <;> rw [h] <;> split <;> split <;> omega

theorem rne_jam2 (T d : Nat) : rne (2 * jam T (d + 1)) 3 = rne T (d + 3) := by
  unfold rne
  rw [show d + 3 = (d + 1 + 1) + 1 from by omega, Nat.pow_add 2 (d + 1 + 1) 1]
  unfold jam
  have hp := Nat.two_pow_pos (d + 1 + 1)
  generalize 2 ^ (d + 1 + 1) = P at hp ⊢
  rw [show 2 ^ 1 = 2 from rfl, show 2 ^ 3 = 8 from rfl, div_more, Nat.mod_mul]
  have hr := Nat.mod_lt T hp
  generalize T / P = q
  generalize T % P = r at hr ⊢
  by_cases z : r = 0
  · rw [if_pos z]
    have h4 : q % 2 = 0 ∨ q % 2 = 1 := by omega
    rcases h4 with h | h <;> rw [h] <;> split <;> split <;> omega
  · rw [if_neg z]
    have h4 : q % 2 = 0 ∨ q % 2 = 1 := by omega
    rcases h4 with h | h <;> rw [h] <;> split <;> split <;> omega

/-- What is exact may be doubled. -/
theorem jam_double (U d : Nat) (h : U % 2 ^ (d + 1) = 0) : 2 * jam U (d + 1) = jam U d := by
  obtain ⟨T, rfl⟩ := Nat.dvd_of_mod_eq_zero h
  rw [Nat.mul_comm (2 ^ (d + 1)) T, jam_exact, Nat.pow_succ, Nat.mul_comm (2 ^ d) 2, ← Nat.mul_assoc, jam_exact]; omega

theorem mod_pow_le (U d : Nat) (h : U % 2 ^ (d + 1) = 0) : U % 2 ^ d = 0 := by
  rw [Nat.pow_succ] at h
  exact Nat.mod_eq_zero_of_dvd (Nat.dvd_trans (Nat.dvd_mul_right _ _) (Nat.dvd_of_mod_eq_zero h))

/-- What made leaves: a number in eighths, and its exponent, as normal as may be. -/
theorem made_rung (V s e : Nat) (he : 1 ≤ e) (hs : s = jam (8 * V) (e - 1) ∨ s = 2 * jam (8 * V) e) (hlt : s < 72057594037927936) (hn : 36028797018963968 ≤ s ∨ e = 1) :
    rungOf V = (e - 1) * 2 ^ 52 + rne s 3 := by
  obtain ⟨k, rfl⟩ : ∃ k, e = k + 1 := ⟨e - 1, by omega⟩
  rw [Nat.add_sub_cancel] at hs ⊢
  have r8 : rne V k = rne (8 * V) (k + 3) := by
    have := rne_scale V k 3
    rw [show V * 2 ^ 3 = 8 * V from by omega] at this
    exact this.symm
  have hr : rne s 3 = rne V k := by
    rw [r8]
    rcases hs with hs | hs
    · rw [hs, rne_jam]
    · rw [hs, rne_jam2]
  have up : V < 2 ^ (53 + k) := by
    rcases hs with hs | hs
    · have := (jam_lt_iff (8 * V) k 36028797018963968).1 (by omega)
      rw [Nat.pow_add]; omega
    · have := (jam_lt_iff (8 * V) (k + 1) 18014398509481984).1 (by omega)
      rw [Nat.pow_succ] at this
      rw [Nat.pow_add]; omega
  have lo : 36028797018963968 ≤ s → 2 ^ (52 + k) ≤ V := by
    intro h
    rcases hs with hs | hs
    · have := jam_lt_iff (8 * V) k 18014398509481984
      rw [Nat.pow_add]; omega
    · have := jam_lt_iff (8 * V) (k + 1) 9007199254740992
      rw [Nat.pow_succ] at this
      rw [Nat.pow_add]; omega
  have l : V.log2 - 52 = k := by
    rcases hn with hn | hn
    · have h2 := lo hn
      have := (Nat.log2_eq_iff (by have := Nat.two_pow_pos (52 + k); omega) (k := 52 + k)).2 ⟨h2, by rw [show 52 + k + 1 = 53 + k from by omega]; exact up⟩
      omega
    · have := log2_lt V (52 + k) (by rw [show 52 + k + 1 = 53 + k from by omega]; exact up)
      omega
  unfold rungOf
  rw [l, hr]

end Go.Proofs.Ytjdbgmopmkdlcaa
