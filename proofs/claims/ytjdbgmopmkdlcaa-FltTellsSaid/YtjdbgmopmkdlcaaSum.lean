/-
  What flt.Sum returns, in whatever world, for two words from 0 to less than 2^64: Canon of the model's own sum of the two floats; a NaN where there is none. The world is as it was, but that a NaN's bits may have been drawn.
-/
import Derived.Test.YtjdbgmopmkdlcaaFlt
import Derived.Deep.Draws
namespace Go.Proofs.Ytjdbgmopmkdlcaa

theorem run_from (x : Int) (w : World) : (callFunc 29 #[.int .u64 x]).run Try.prog w = .ok (.value (.float .f64 x.toNat)) w := by
  rw [run_callFunc_extern Try.func29 (by kernel_rfl) (by kernel_rfl) (by kernel_rfl) (e := Extern.MathFloatBits.float64frombits) (by kernel_rfl)]
  rfl

theorem run_bits (x : Nat) (w : World) : (callFunc 28 #[.float .f64 x]).run Try.prog w = .ok (.value (.int .u64 (x : Int))) w := by
  rw [run_callFunc_extern Try.func28 (by kernel_rfl) (by kernel_rfl) (by kernel_rfl) (e := Extern.MathFloatBits.float64bits) (by kernel_rfl)]
  rfl

/-- A NaN's bits, as the tape gives them. -/
theorem run_add_none (t : TypeId) (x y : Nat) (w : World) (h : Ieee.double.add x y = none) :
    ∃ r : Nat, r < 18446744073709551616 ∧ canon (r : Int) = 9221120237041090561 ∧ (binOp .add t (.float .f64 x) (.float .f64 y)).run Try.prog w = .ok (.float .f64 r) w.drew := by
  refine ⟨Question.cut (.nanBits .f64 x y) (w.tape w.drawn (.nanBits .f64 x y)), ?_, ?_, ?_⟩
  · simp only [Question.cut]; omega
  · simp only [Question.cut]
    generalize w.tape w.drawn (.nanBits .f64 x y) = t
    have h1 : t % 2 = 0 ∨ t % 2 = 1 := by omega
    have h2 : t / 2 % (2 ^ 52 - 1) < 2 ^ 52 - 1 := Nat.mod_lt _ (by decide)
    generalize t / 2 % (2 ^ 52 - 1) = u at h2 ⊢
    unfold canon
    rw [if_pos]
    rcases h1 with h1 | h1 <;> rw [h1] <;> omega
  · have h' : FloatKind.f64.format.add x y = none := h
    simp [binOp, Op.floatArith, h', Question.forced]

theorem add_lt (x y : Nat) (r : Nat) (h : Ieee.double.add x y = some r) : r < 18446744073709551616 := Ieee.Format.add_lt Ieee.double h

theorem addWord_lo (x y : Int) : 0 ≤ addWord x y := by unfold addWord; split <;> omega

theorem addWord_hi (x y : Int) : addWord x y < 18446744073709551616 := by
  unfold addWord; split
  · rename_i r h; have := add_lt _ _ _ h; omega
  · omega

theorem sum_lo (x y : Int) : 0 ≤ sumOf x y := canon_lo _ (addWord_lo x y)

theorem sum_hi (x y : Int) : sumOf x y < 18446744073709551616 := canon_hi _ (addWord_hi x y)

set_option maxHeartbeats 400000 in
theorem sum_any (x y : Int) (w : World) :
    Calls Try.prog 21 #[.int .u64 x, .int .u64 y] w fun e w' => e = .returned (.int .u64 (sumOf x y)) ∧ ∃ n, w' = w.drewN n := by
  have h29 := run_from
  have h28 := run_bits
  rcases hA : Ieee.double.add x.toNat y.toNat with _ | r
  · obtain ⟨r, hr, hc, hrun⟩ := run_add_none 39 x.toNat y.toNat w hA
    have H : RowKit.Hid (sumOf x y = canon (r : Int)) := Lib.hid (by unfold sumOf addWord; rw [hA]; simp only; rw [hc]; rfl)
    clear hA hc
    go_enter Try.func21, Try.ntmps21
    go_wp2_with (go_at_call 11; with_reducible refine (canon_any _ _ (by omega) (by omega)).mono ?_; rintro e w' ⟨rfl, rfl⟩)
    go_ret
    exact ⟨ret_u64 H.out.symm, 1, rfl⟩
  · have hr := add_lt _ _ _ hA
    have hrun := run_float_arith (P := Try.prog) w .add 39 .f64 x.toNat y.toNat r hA
    have H : RowKit.Hid (sumOf x y = canon (r : Int)) := Lib.hid (by unfold sumOf addWord; rw [hA])
    clear hA
    go_enter Try.func21, Try.ntmps21
    go_wp2_with (go_at_call 11; with_reducible refine (canon_any _ _ (by omega) (by omega)).mono ?_; rintro e w' ⟨rfl, rfl⟩)
    go_ret
    exact ⟨ret_u64 H.out.symm, 0, rfl⟩

end Go.Proofs.Ytjdbgmopmkdlcaa
