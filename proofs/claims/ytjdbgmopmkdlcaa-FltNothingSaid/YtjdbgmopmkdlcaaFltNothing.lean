/-
  FltNothing of layer 1 returns true for every two words, and its arguments read as before. No condition.
-/
import Derived.Test.YtjdbgmopmkdlcaaRows
import Derived.WalkKit
import Derived.ProofKit
import Derived.OpenShut
import Derived.Test.YtjdbgmopmkdlcaaAwake
import Derived.Test.YtjdbgmopmkdlcaaAdd
namespace Go.Proofs.Ytjdbgmopmkdlcaa.fltNothing
open Go.ChangeShapes Go.WideShapes Go.ChangeAt Go.RowKit
set_option linter.unusedVariables false      -- a walk need not use every 'w<i>' (that an integer argument fits its kind)

theorem own : ownKnob Try.prog.godebug = none := by kernel_rfl

theorem grown_drewN (w : World) (n : Nat) : Grown w (w.drewN n) := Grown.refl w

theorem nan_plus (a b : Int) (b0 : 0 ≤ b) : sumOf a (9221120237041090561 + b % 1000) = 9221120237041090561 :=
  sumOf_nan_right a _ (by omega) (by omega)

theorem kind_two (a : Int) (a0 : 0 ≤ a) (a1 : a < 18446744073709551616) (h : kind a = 2) : a = 9218868437227405312 ∨ a = 18442240474082181120 := by
  unfold kind canon at h
  split at h <;> split at h <;> (try split at h) <;> (try split at h) <;> (try split at h) <;> (try split at h) <;> omega

theorem kind_finite (a : Int) (a0 : 0 ≤ a) (a1 : a < 18446744073709551616) (h3 : ¬ kind a = 3) (h2 : ¬ kind a = 2) : a % 9223372036854775808 < 9218868437227405312 := by
  rw [kind_three] at h3
  by_cases c : 9218868437227405312 < a % 9223372036854775808
  · exact absurd (by unfold canon; rw [if_pos c]) h3
  · by_cases d : a % 9223372036854775808 = 9218868437227405312
    · have : a = 9218868437227405312 ∨ a = 18442240474082181120 := by omega
      rcases this with rfl | rfl <;> exact absurd (by decide +kernel) h2
    · omega

theorem kind_zero (a : Int) : ∃ B : Bool, (kind a == 0) = B ∧ (canon a == 0) = B := by
  refine ⟨canon a == 0, ?_, rfl⟩
  rw [Bool.eq_iff_iff]; simp only [beq_iff_eq]
  unfold kind
  constructor
  · intro h; split at h <;> (try split at h) <;> (try split at h) <;> (try split at h) <;> first | omega | assumption
  · intro h; rw [if_pos h]

set_option maxHeartbeats 2000000 in
theorem core (a b : Int) (a0 : 0 ≤ a) (a1 : a < 18446744073709551616) (b0 : 0 ≤ b) (b1 : b < 18446744073709551616) (w : World) :
    Calls Try.prog 9 #[.int .u64 a, .int .u64 b] w fun e w' => e = .returned (.bool true) ∧ Grown w w' := by
  have f1 := max_negInf a a0 a1
  have f2 := max_nan a a0 a1
  have f3 := nan_plus a b b0
  have s0 := sum_lo a b
  have s1 := sum_hi a b
  have f4 : canon (sumOf a b) = sumOf a b := canon_canon _
  obtain ⟨B, z1, z2⟩ := kind_zero a
  have t0 : 0 ≤ b % 1000 := by omega
  have t1 : b % 1000 < 1000 := by omega
  rcases hk : (kind a == 3) with _ | _
  · rcases hj : (kind a == 2) with _ | _
    · have hf := kind_finite a a0 a1 (by simpa using hk) (by simpa using hj)
      have g1 := sumOf_inf_right 9218868437227405312 a (by omega) (by omega) (by omega) a0 a1 hf
      have g2 := sumOf_inf_left 18442240474082181120 a (by omega) (by omega) (by omega) a0 a1 hf
      clear hf
      go_enter Try.func9, Try.ntmps9
      go_wp2_with (first
    | (go_at_call 10; with_reducible refine (awake_any _).mono ?_; rintro e w' ⟨rfl, nA, rfl⟩)
    | (go_at_call 23; with_reducible refine (word_any _ _ (by omega) (by omega)).mono ?_; rintro e w' ⟨rfl, rfl⟩)
    | (go_at_call 15; with_reducible refine (rank_any _ _ (by omega) (by omega)).mono ?_; rintro e w' ⟨rfl, rfl⟩)
    | (go_at_call 21; with_reducible refine (sum_any _ _ _).mono ?_; rintro e w' ⟨rfl, nS, rfl⟩)
    | (go_at_call 11; with_reducible refine (canon_any _ _ (by omega) (by omega)).mono ?_; rintro e w' ⟨rfl, rfl⟩)
    | (go_at_call 17; with_reducible refine (less_any _ _ _ (by omega) (by omega) (by omega) (by omega)).mono ?_; rintro e w' ⟨rfl, rfl⟩)
    | (go_at_call 19; with_reducible refine (max_any _ _ _ (by omega) (by omega) (by omega) (by omega)).mono ?_; rintro e w' ⟨rfl, rfl⟩)
    | (go_at_call 13; with_reducible refine (kind_any _ _ (by omega) (by omega)).mono ?_; rintro e w' ⟨rfl, rfl⟩))
      go_ret
      exact ⟨rfl, grown_drewN _ _⟩
    · rcases kind_two a a0 a1 (by simpa using hj) with h | h
      · have g1 : (a == 9218868437227405312) = true := by simpa using h
        clear h
        go_enter Try.func9, Try.ntmps9
        go_wp2_with (first
    | (go_at_call 10; with_reducible refine (awake_any _).mono ?_; rintro e w' ⟨rfl, nA, rfl⟩)
    | (go_at_call 23; with_reducible refine (word_any _ _ (by omega) (by omega)).mono ?_; rintro e w' ⟨rfl, rfl⟩)
    | (go_at_call 15; with_reducible refine (rank_any _ _ (by omega) (by omega)).mono ?_; rintro e w' ⟨rfl, rfl⟩)
    | (go_at_call 21; with_reducible refine (sum_any _ _ _).mono ?_; rintro e w' ⟨rfl, nS, rfl⟩)
    | (go_at_call 11; with_reducible refine (canon_any _ _ (by omega) (by omega)).mono ?_; rintro e w' ⟨rfl, rfl⟩)
    | (go_at_call 17; with_reducible refine (less_any _ _ _ (by omega) (by omega) (by omega) (by omega)).mono ?_; rintro e w' ⟨rfl, rfl⟩)
    | (go_at_call 19; with_reducible refine (max_any _ _ _ (by omega) (by omega) (by omega) (by omega)).mono ?_; rintro e w' ⟨rfl, rfl⟩)
    | (go_at_call 13; with_reducible refine (kind_any _ _ (by omega) (by omega)).mono ?_; rintro e w' ⟨rfl, rfl⟩))
        go_ret
        exact ⟨rfl, grown_drewN _ _⟩
      · have g1 : (a == 9218868437227405312) = false := by rw [h]; decide
        have g2 : (a == 18442240474082181120) = true := by simpa using h
        clear h
        go_enter Try.func9, Try.ntmps9
        go_wp2_with (first
    | (go_at_call 10; with_reducible refine (awake_any _).mono ?_; rintro e w' ⟨rfl, nA, rfl⟩)
    | (go_at_call 23; with_reducible refine (word_any _ _ (by omega) (by omega)).mono ?_; rintro e w' ⟨rfl, rfl⟩)
    | (go_at_call 15; with_reducible refine (rank_any _ _ (by omega) (by omega)).mono ?_; rintro e w' ⟨rfl, rfl⟩)
    | (go_at_call 21; with_reducible refine (sum_any _ _ _).mono ?_; rintro e w' ⟨rfl, nS, rfl⟩)
    | (go_at_call 11; with_reducible refine (canon_any _ _ (by omega) (by omega)).mono ?_; rintro e w' ⟨rfl, rfl⟩)
    | (go_at_call 17; with_reducible refine (less_any _ _ _ (by omega) (by omega) (by omega) (by omega)).mono ?_; rintro e w' ⟨rfl, rfl⟩)
    | (go_at_call 19; with_reducible refine (max_any _ _ _ (by omega) (by omega) (by omega) (by omega)).mono ?_; rintro e w' ⟨rfl, rfl⟩)
    | (go_at_call 13; with_reducible refine (kind_any _ _ (by omega) (by omega)).mono ?_; rintro e w' ⟨rfl, rfl⟩))
        go_ret
        exact ⟨rfl, grown_drewN _ _⟩
  · have g1 : (canon a == 9221120237041090561) = true := by
      have := (kind_three a).1 (by simpa using hk)
      simpa using this
    clear z2
    go_enter Try.func9, Try.ntmps9
    go_wp2_with (first
    | (go_at_call 10; with_reducible refine (awake_any _).mono ?_; rintro e w' ⟨rfl, nA, rfl⟩)
    | (go_at_call 23; with_reducible refine (word_any _ _ (by omega) (by omega)).mono ?_; rintro e w' ⟨rfl, rfl⟩)
    | (go_at_call 15; with_reducible refine (rank_any _ _ (by omega) (by omega)).mono ?_; rintro e w' ⟨rfl, rfl⟩)
    | (go_at_call 21; with_reducible refine (sum_any _ _ _).mono ?_; rintro e w' ⟨rfl, nS, rfl⟩)
    | (go_at_call 11; with_reducible refine (canon_any _ _ (by omega) (by omega)).mono ?_; rintro e w' ⟨rfl, rfl⟩)
    | (go_at_call 17; with_reducible refine (less_any _ _ _ (by omega) (by omega) (by omega) (by omega)).mono ?_; rintro e w' ⟨rfl, rfl⟩)
    | (go_at_call 19; with_reducible refine (max_any _ _ _ (by omega) (by omega) (by omega) (by omega)).mono ?_; rintro e w' ⟨rfl, rfl⟩)
    | (go_at_call 13; with_reducible refine (kind_any _ _ (by omega) (by omega)).mono ?_; rintro e w' ⟨rfl, rfl⟩))
    go_ret
    exact ⟨rfl, grown_drewN _ _⟩

theorem walk (a0 : Int) (a1 : Int) (w0 : (Lit.int .u64 a0).wf = true) (w1 : (Lit.int .u64 a1).wf = true) (w : World) :
    Calls Try.prog 9 #[.int .u64 a0, .int .u64 a1] w fun e w' => e = .returned (.bool true) ∧ Grown w w' := by
  have b0 := bounds_u64 w0
  have b1 := bounds_u64 w1
  exact core a0 a1 b0.1 (by omega) b1.1 (by omega) w

set_option maxRecDepth 100000 in
theorem lifted (os : Os) (started : os.Started) (H : Type) (enc : TypeId × Value → H) :
    ReturnsInHanded {} Try.checked os 9 .any (Rows.fltNothingSpec.pre6 enc Try.prog Try.f9 Rows.fltNothingRow.domain false) (Rows.fltNothingSpec.post enc Try.prog Try.f9 false true false false) := by
  refine returnsInHanded_of_change (C := Try.checked) own started (by kernel_rfl) Try.func9
    (ChangeSpec.witness6 (enc := enc) (C := Try.checked) false ⟨#[], #[.int .u64 0, .int .u64 0], []⟩ 8 (by kernel_rfl) (by kernel_rfl) (by kernel_rfl) (by kernel_rfl)) ?_
  intro W base args ds gs before hval0 hW hcnd _
  have hval : ∀ (j : Nat) t v, Try.f9.params[j]? = some t → args[j]? = some v → Value.okWide Try.prog W .any base t v := hval0
  have hW' := hW
  obtain ⟨p, q, hA0, hV, rfl, hfz, hnd⟩ := hW
  have hA : DataW.TrodAll enc Try.prog W 0 (fun _ => true) true Try.f9.params.toList args.toList ds p := hA0
  rw [Try.params9] at hA hval
  obtain ⟨v0, vs0, d0, ds0, p0, q0, hargs, rfl, rfl, h0, r0⟩ := trodAll_cons hA
  obtain ⟨v1, vs1, d1, ds1, p1, q1, rfl, rfl, rfl, h1, r1⟩ := trodAll_cons r0
  obtain ⟨rfl, rfl, rfl⟩ := trodAll_nil r1
  obtain rfl : args = #[v0, v1] := by cases args; simp_all
  obtain ⟨rfl, rfl⟩ := trodVars_none hV
  obtain ⟨a0, rfl, rfl, rfl, w0⟩ := open_int Try.underlying22 (hval 0 22 v0 rfl rfl) h0
  obtain ⟨a1, rfl, rfl, rfl, w1⟩ := open_int Try.underlying22 (hval 1 22 v1 rfl rfl) h1
  clear hA0 hval0
  simp only [List.append_nil] at hW'
  refine (walk a0 a1 w0 w1 W).mono fun e W' ⟨he, hg⟩ => ?_
  subst he
  exact ⟨_, rfl, post_of_same (pa := []) (pv := []) hW' (fun _ _ _ => (trodAll_cons_mk (shut_bool Try.underlying4 _) trodAll_mk0)) (fun sp _ => (trodAll_cons_mk (shut_int Try.underlying22 w0) (trodAll_cons_mk (shut_int Try.underlying22 w1) trodAll_mk0))) (fun _ _ => rfl) rfl
    (hg.frame _) hg.2.1 (ok_one (by kernel_rfl) rfl (okWide_bool_mk Try.underlying4 _))⟩

theorem over : Rows.fltNothingRow.holds Try.pinned (OpenSpec.ofChange Rows.fltNothingSpec) :=
  OpenClaim.holds_of_wide 9 Try.f9 rfl rfl rfl rfl rfl rfl rfl ⟨rfl, rfl, rfl, rfl, rfl⟩ rfl rfl rfl rfl rfl (by kernel_rfl) Try.func9 (by kernel_rfl)
    (of_decide_eq_true (by kernel_rfl)) (by unfold Func.isWrapper; first | (rw [if_pos (by decide +kernel)]; kernel_rfl) | (rw [if_neg (by decide +kernel)]; exact ⟨rfl, rfl⟩))
    (fun os started H enc _ => lifted os started H enc)

theorem proved : Rows.FltNothingSaid :=
  over
end Go.Proofs.Ytjdbgmopmkdlcaa.fltNothing

namespace Go.Proofs.Ytjdbgmopmkdlcaa
theorem fltNothing_holds : Rows.FltNothingSaid := fltNothing.proved
end Go.Proofs.Ytjdbgmopmkdlcaa
