/-
  What the document's own functions for mixed words return, in whatever world, for words: integers from 0 to less than 2^64 (the conditions): the same as the plain ones. Each leaves the world alone.
-/
import Derived.Test.YthgjmimniibmlaaDoorSlot
import Derived.Test.YthgjmimniibmlaaDoorBits
namespace Go.Proofs.YthgjmimniibmlaaDoor
open Go.RowKit (intOf Grown)

set_option maxHeartbeats 400000 in
theorem refFolded_any (x n : Int) (k : Nat) (w : World) (hk : n.toNat = k) (h0 : 0 ≤ x) (h1 : x < 18446744073709551616) (g0 : 0 ≤ n) (g1 : n < 64) :
    Calls Tryd.prog 17 #[.int .u64 x, .int .i64 n] w fun e w' => e = .returned (.int .u64 (fold k x)) ∧ w = w' := by
  subst hk
  have hx := fold_word x n.toNat h0 h1
  go_enter Tryd.func17, Tryd.ntmps17
  go_wp2
  go_ret
  exact ⟨rfl, rfl⟩

set_option maxHeartbeats 400000 in
theorem refMix_any (x : Int) (w : World) (h0 : 0 ≤ x) (h1 : x < 18446744073709551616) :
    Calls Tryd.prog 9 #[.int .u64 x] w fun e w' => e = .returned (.int .u64 (mixed x)) ∧ w = w' := by
  have hm : RowKit.Hid (fold 31 (m2 x) = mixed x) := Lib.hid (by rw [← m3_mixed, ← m3_word1, IntKind.wrap_u64]; have := fold_bd 31 (m2 x) (m2_bd x).2; omega)
  have e1 := m1_word x h1
  have e2 := m2_word x
  have b1 := m1_bd x
  have b2 := m2_bd x
  go_enter Tryd.func9, Tryd.ntmps9
  go_wp2_with (first
    | (go_at_call 17; with_reducible refine (refFolded_any x 30 30 _ rfl (by omega) (by omega) (by omega) (by omega)).mono ?_; rintro e w' ⟨rfl, rfl⟩)
    | (go_at_call 17; with_reducible refine (refFolded_any (m1 x) 27 27 _ rfl (by omega) (by omega) (by omega) (by omega)).mono ?_; rintro e w' ⟨rfl, rfl⟩)
    | (go_at_call 17; with_reducible refine (refFolded_any (m2 x) 31 31 _ rfl (by omega) (by omega) (by omega) (by omega)).mono ?_; rintro e w' ⟨rfl, rfl⟩))
  go_ret
  exact ⟨ret_int hm.out, rfl⟩

set_option maxHeartbeats 1000000 in
theorem refSlot_any (x m : Int) (w : World) (h0 : 0 ≤ x) (h1 : x < 18446744073709551616) (g0 : -9223372036854775808 ≤ m) (g1 : m < 9223372036854775808) :
    Calls Tryd.prog 13 #[.int .u64 x, .int .i64 m] w fun e w' => e = .returned (.int .i64 (slot x m)) ∧ w = w' := by
  by_cases hm : m < 1
  · have hs : RowKit.Hid (slot x m = 0) := Lib.hid (by unfold slot; rw [if_pos hm])
    go_enter Tryd.func13, Tryd.ntmps13
    go_wp2
    go_ret
    exact ⟨ret_int hs.out.symm, rfl⟩
  · have hb := mixed_bd x h1
    have hs : RowKit.Hid (slot x m = mixed x % m) := Lib.hid (by unfold slot; rw [if_neg hm])
    have hq0 : 0 ≤ mixed x % m := Int.emod_nonneg _ (by omega)
    have hq1 : mixed x % m < m := Int.emod_lt_of_pos _ (by omega)
    go_enter Tryd.func13, Tryd.ntmps13
    go_wp2_with (go_at_call 9; with_reducible refine (refMix_any _ _ (by omega) (by omega)).mono ?_; rintro e w' ⟨rfl, rfl⟩)
    go_ret
    exact ⟨ret_int hs.out.symm, rfl⟩

set_option maxHeartbeats 1000000 in
theorem refBefore_any (x y : Int) (w : World) (h0 : 0 ≤ x) (h1 : x < 18446744073709551616) (g0 : 0 ≤ y) (g1 : y < 18446744073709551616) :
    Calls Tryd.prog 15 #[.int .u64 x, .int .u64 y] w fun e w' => e = .returned (.bool (decide (mixed y < mixed x))) ∧ w = w' := by
  go_enter Tryd.func15, Tryd.ntmps15
  go_wp2_with (first
    | (go_at_call 9; with_reducible refine (refMix_any x _ (by omega) (by omega)).mono ?_; rintro e w' ⟨rfl, rfl⟩)
    | (go_at_call 9; with_reducible refine (refMix_any y _ (by omega) (by omega)).mono ?_; rintro e w' ⟨rfl, rfl⟩))
  go_ret
  exact ⟨rfl, rfl⟩

set_option maxHeartbeats 1000000 in
theorem refUnfolded_any (x n : Int) (k : Nat) (w : World) (hk : n.toNat = k) (h0 : 0 ≤ x) (h1 : x < 18446744073709551616) (g0 : 22 ≤ n) (g1 : n < 32) :
    Calls Tryd.prog 19 #[.int .u64 x, .int .i64 n] w fun e w' => e = .returned (.int .u64 (unf k x)) ∧ w = w' := by
  subst hk
  have hU := unfN_lt n.toNat (x := x.toNat) (by omega)
  have hin := fun i : Nat => round_in x n.toNat i (by omega)
  have hout := fun i : Nat => round_out x n.toNat i (by omega)
  have hend : unf n.toNat x = ((unfN n.toNat x.toNat : Nat) : Int) := rfl
  rw [hend]
  clear hend
  generalize unfN n.toNat x.toNat = U at hU hin hout ⊢
  have hIn := Lib.hid hin
  have hOut := Lib.hid hout
  have hU' := Lib.hid hU
  clear hin hout hU
  go_enter Tryd.func19, Tryd.ntmps19
  go_wp2
  go_loop [5, 6] (fun o s => ∃ j : Nat, j ≤ 64 ∧ o = .int .u64 (up U j : Nat) ∧ s = .int .i64 ((j : Int) - 1)) (fun _ s => (1 + intOf s).toNat)
  case atStart => exact ⟨64, by omega, by rw [up_all hU'.out]; rfl, rfl⟩
  case round =>
    obtain ⟨j, hj, rfl, rfl⟩ := hrel
    rcases j with _ | i
    · have hz := up_none U
      go_wp2
      go_ret
      exact ⟨rfl, rfl⟩
    · rw [show ((i + 1 : Nat) : Int) - 1 = (i : Int) by omega]
      by_cases hl : (i : Int) + n < 64
      · have hr := hIn.out i (by omega) h0 h1
        rw [show i + n.toNat = ((i : Int) + n).toNat by omega] at hr
        go_wp2
        go_round
        case rel => exact ⟨i, by omega, rfl, rfl⟩
        case measure => simp [intOf]; omega
      · have hr := hOut.out i (by omega) h0 h1 (by omega)
        go_wp2
        go_round
        case rel => exact ⟨i, by omega, rfl, rfl⟩
        case measure => simp [intOf]; omega

def inv (a : Int) : Nat → Int
  | 0 => a
  | k + 1 => IntKind.u64.wrap (inv a k * IntKind.u64.wrap (2 - IntKind.u64.wrap (a * inv a k)))

set_option maxHeartbeats 1000000 in
theorem refInverse_any (a : Int) (w : World) :
    Calls Tryd.prog 20 #[.int .u64 a] w fun e w' => e = .returned (.int .u64 (inv a 6)) ∧ w = w' := by
  go_enter Tryd.func20, Tryd.ntmps20
  go_wp2
  go_loop [3, 4] (fun v s => ∃ j : Nat, j ≤ 6 ∧ v = .int .u64 (inv a j) ∧ s = .int .i64 j) (fun _ s => (6 - intOf s).toNat)
  case atStart => exact ⟨0, by omega, rfl, rfl⟩
  case round =>
    obtain ⟨j, hj, rfl, rfl⟩ := hrel
    by_cases hl : (j : Int) < 6
    · go_wp2
      go_round
      case rel => exact ⟨j + 1, by omega, rfl, by go_num⟩
      case measure => simp [intOf]; omega
    · have hj6 : j = 6 := by omega
      subst hj6
      go_wp2
      go_ret
      exact ⟨rfl, rfl⟩

theorem inv1 : inv 10723151780598845931 6 = 3573116690164977347 := by kernel_rfl
theorem inv2 : inv 13787848793156543929 6 = 10871156337175269513 := by kernel_rfl

set_option maxHeartbeats 1000000 in
theorem refUnmix_any (x : Int) (w : World) (h0 : 0 ≤ x) (h1 : x < 18446744073709551616) :
    Calls Tryd.prog 11 #[.int .u64 x] w fun e w' => e = .returned (.int .u64 (unmixed x)) ∧ w = w' := by
  have hm : RowKit.Hid (u3 x = unmixed x) := Lib.hid (u3_unmixed x)
  have e1 := inv1
  have e2 := inv2
  have e3 := u2_word x h1
  have e4 : IntKind.u64.wrap (unf 27 (times 3573116690164977347 (unf 31 x)) * 10871156337175269513) = times 10871156337175269513 (u2 x) := u3_word x
  have hb3 := times_bd 3573116690164977347 (unf 31 x)
  have hb4 := times_bd 10871156337175269513 (u2 x)
  go_enter Tryd.func11, Tryd.ntmps11
  go_wp2_with (first
    | (go_at_call 19; with_reducible refine (refUnfolded_any x 31 31 _ rfl (by omega) (by omega) (by omega) (by omega)).mono ?_; rintro e w' ⟨rfl, rfl⟩)
    | (go_at_call 19; with_reducible refine (refUnfolded_any (times 3573116690164977347 (unf 31 x)) 27 27 _ rfl (by omega) (by omega) (by omega) (by omega)).mono ?_; rintro e w' ⟨rfl, rfl⟩)
    | (go_at_call 19; with_reducible refine (refUnfolded_any (times 10871156337175269513 (u2 x)) 30 30 _ rfl (by omega) (by omega) (by omega) (by omega)).mono ?_; rintro e w' ⟨rfl, rfl⟩)
    | (go_at_call 20; with_reducible refine (refInverse_any _ _).mono ?_; rintro e w' ⟨rfl, rfl⟩))
  go_ret
  exact ⟨ret_int hm.out, rfl⟩

end Go.Proofs.YthgjmimniibmlaaDoor
