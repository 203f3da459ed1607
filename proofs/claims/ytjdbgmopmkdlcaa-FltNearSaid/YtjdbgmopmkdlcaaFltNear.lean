/-
  FltNear of layer 1 returns true for every two raw fractions, exponents and signs, and its arguments read as before. No condition.
-/
import Derived.Test.YtjdbgmopmkdlcaaRows
import Derived.WalkKit
import Derived.ProofKit
import Derived.OpenShut
import Derived.Test.YtjdbgmopmkdlcaaAwake
import Derived.Test.YtjdbgmopmkdlcaaRefAdd
namespace Go.Proofs.Ytjdbgmopmkdlcaa.fltNear
open Go.ChangeShapes Go.WideShapes Go.ChangeAt Go.RowKit
set_option linter.unusedVariables false      -- a walk need not use every 'w<i>' (that an integer argument fits its kind)

theorem own : ownKnob Try.prog.godebug = none := by kernel_rfl

theorem or_lo (u v : Int) : 0 ≤ bits .or .u64 u v := (bounds_u64 (n := bits .or .u64 u v) (wf_bits _ _ _ _)).1
theorem or_hi (u v : Int) : bits .or .u64 u v < 18446744073709551616 := by have := (bounds_u64 (n := bits .or .u64 u v) (wf_bits _ _ _ _)).2; omega
theorem xor_lo (u v : Int) : 0 ≤ bits .xor .u64 u v := (bounds_u64 (n := bits .xor .u64 u v) (wf_bits _ _ _ _)).1
theorem xor_hi (u v : Int) : bits .xor .u64 u v < 18446744073709551616 := by have := (bounds_u64 (n := bits .xor .u64 u v) (wf_bits _ _ _ _)).2; omega

def pickOf (c n : Int) : Int := if c < 0 then (-(c + 1)) % n else c % n

set_option maxHeartbeats 400000 in
theorem pick_any (c n : Int) (w : World) (c0 : -9223372036854775808 ≤ c) (c1 : c ≤ 9223372036854775807) (n0 : 0 < n) (n1 : n < 100000) :
    Calls Try.prog 25 #[.int .i64 c, .int .i64 n] w fun e w' => e = .returned (.int .i64 (pickOf c n)) ∧ w = w' := by
  by_cases h : c < 0
  · have H : Hid (pickOf c n = (-(c + 1)) % n) := Lib.hid (by unfold pickOf; rw [if_pos h])
    go_enter Try.func25, Try.ntmps25
    go_wp2
    go_ret
    exact ⟨ret_u64 (by rw [H.out, ← Int.neg_tmod]; exact Int.tmod_eq_emod_of_nonneg (by omega)), rfl⟩
  · have H : Hid (pickOf c n = c % n) := Lib.hid (by unfold pickOf; rw [if_neg h])
    go_enter Try.func25, Try.ntmps25
    go_wp2
    go_ret
    exact ⟨ret_u64 (by rw [H.out]), rfl⟩

theorem pick_lo (c n : Int) (n0 : 0 < n) : 0 ≤ pickOf c n := by unfold pickOf; split <;> exact Int.emod_nonneg _ (by omega)
theorem pick_hi (c n : Int) (n0 : 0 < n) : pickOf c n < n := by unfold pickOf; split <;> exact Int.emod_lt_of_pos _ n0

set_option maxHeartbeats 4000000 in
theorem core (f g e apart : Int) (one two : Bool) (f0 : 0 ≤ f) (f1 : f < 18446744073709551616) (g0 : 0 ≤ g) (g1 : g < 18446744073709551616)
    (e0 : -9223372036854775808 ≤ e) (e1 : e ≤ 9223372036854775807) (a0 : -9223372036854775808 ≤ apart) (a1 : apart ≤ 9223372036854775807) (w : World) :
    Calls Try.prog 4 #[.int .u64 f, .int .u64 g, .int .i64 e, .int .i64 apart, .bool one, .bool two] w fun e w' => e = .returned (.bool true) ∧ Grown w w' := by
  have x0 := pick_lo e 2047 (by omega)
  have x1 := pick_hi e 2047 (by omega)
  have y0 := pick_lo apart 60 (by omega)
  have y1 := pick_hi apart 60 (by omega)
  rcases one with _ | _ <;> rcases two with _ | _
  all_goals
    go_enter Try.func4, Try.ntmps4
    go_wp2_with (first
      | (go_at_call 10; with_reducible refine (awake_any _).mono ?_; rintro e w' ⟨rfl, nA, rfl⟩)
      | (go_at_call 25; with_reducible refine (pick_any _ _ _ (by omega) (by omega) (by omega) (by omega)).mono ?_; rintro e w' ⟨rfl, rfl⟩)
      | (go_at_call 21; with_reducible refine (sum_any _ _ _).mono ?_; rintro e w' ⟨rfl, nS, rfl⟩)
      | (go_at_call 22; with_reducible refine (rsum_any _ _ _ (by first | exact or_lo _ _ | exact xor_lo _ _) (by first | exact or_hi _ _ | exact xor_hi _ _) (by first | exact or_lo _ _ | exact xor_lo _ _) (by first | exact or_hi _ _ | exact xor_hi _ _)).mono ?_; rintro e w' ⟨rfl, rfl⟩))
    all_goals
      go_ret
      exact ⟨rfl, Grown.refl w⟩

theorem walk (a0 : Int) (a1 : Int) (a2 : Int) (a3 : Int) (a4 : Bool) (a5 : Bool) (w0 : (Lit.int .u64 a0).wf = true) (w1 : (Lit.int .u64 a1).wf = true) (w2 : (Lit.int .i64 a2).wf = true) (w3 : (Lit.int .i64 a3).wf = true) (w : World) :
    Calls Try.prog 4 #[.int .u64 a0, .int .u64 a1, .int .i64 a2, .int .i64 a3, .bool a4, .bool a5] w fun e w' => e = .returned (.bool true) ∧ Grown w w' := by
  have b0 := bounds_u64 w0
  have b1 := bounds_u64 w1
  have b2 := bounds_i64 w2
  have b3 := bounds_i64 w3
  exact core a0 a1 a2 a3 a4 a5 b0.1 (by omega) b1.1 (by omega) b2.1 b2.2 b3.1 b3.2 w

set_option maxRecDepth 100000 in
theorem lifted (os : Os) (started : os.Started) (H : Type) (enc : TypeId × Value → H) :
    ReturnsInHanded {} Try.checked os 4 .any (Rows.fltNearSpec.pre6 enc Try.prog Try.f4 Rows.fltNearRow.domain false) (Rows.fltNearSpec.post enc Try.prog Try.f4 false true false false) := by
  refine returnsInHanded_of_change (C := Try.checked) own started (by kernel_rfl) Try.func4
    (ChangeSpec.witness6 (enc := enc) (C := Try.checked) false ⟨#[], #[.int .u64 0, .int .u64 0, .int .i64 0, .int .i64 0, .bool false, .bool false], []⟩ 8 (by kernel_rfl) (by kernel_rfl) (by kernel_rfl) (by kernel_rfl)) ?_
  intro W base args ds gs before hval0 hW hcnd _
  have hval : ∀ (j : Nat) t v, Try.f4.params[j]? = some t → args[j]? = some v → Value.okWide Try.prog W .any base t v := hval0
  have hW' := hW
  obtain ⟨p, q, hA0, hV, rfl, hfz, hnd⟩ := hW
  have hA : DataW.TrodAll enc Try.prog W 0 (fun _ => true) true Try.f4.params.toList args.toList ds p := hA0
  rw [Try.params4] at hA hval
  obtain ⟨v0, vs0, d0, ds0, p0, q0, hargs, rfl, rfl, h0, r0⟩ := trodAll_cons hA
  obtain ⟨v1, vs1, d1, ds1, p1, q1, rfl, rfl, rfl, h1, r1⟩ := trodAll_cons r0
  obtain ⟨v2, vs2, d2, ds2, p2, q2, rfl, rfl, rfl, h2, r2⟩ := trodAll_cons r1
  obtain ⟨v3, vs3, d3, ds3, p3, q3, rfl, rfl, rfl, h3, r3⟩ := trodAll_cons r2
  obtain ⟨v4, vs4, d4, ds4, p4, q4, rfl, rfl, rfl, h4, r4⟩ := trodAll_cons r3
  obtain ⟨v5, vs5, d5, ds5, p5, q5, rfl, rfl, rfl, h5, r5⟩ := trodAll_cons r4
  obtain ⟨rfl, rfl, rfl⟩ := trodAll_nil r5
  obtain rfl : args = #[v0, v1, v2, v3, v4, v5] := by cases args; simp_all
  obtain ⟨rfl, rfl⟩ := trodVars_none hV
  obtain ⟨a0, rfl, rfl, rfl, w0⟩ := open_int Try.underlying22 (hval 0 22 v0 rfl rfl) h0
  obtain ⟨a1, rfl, rfl, rfl, w1⟩ := open_int Try.underlying22 (hval 1 22 v1 rfl rfl) h1
  obtain ⟨a2, rfl, rfl, rfl, w2⟩ := open_int Try.underlying3 (hval 2 3 v2 rfl rfl) h2
  obtain ⟨a3, rfl, rfl, rfl, w3⟩ := open_int Try.underlying3 (hval 3 3 v3 rfl rfl) h3
  obtain ⟨a4, rfl, rfl, rfl⟩ := open_bool Try.underlying4 (hval 4 4 v4 rfl rfl) h4
  obtain ⟨a5, rfl, rfl, rfl⟩ := open_bool Try.underlying4 (hval 5 4 v5 rfl rfl) h5
  clear hA0 hval0
  simp only [List.append_nil] at hW'
  refine (walk a0 a1 a2 a3 a4 a5 w0 w1 w2 w3 W).mono fun e W' ⟨he, hg⟩ => ?_
  subst he
  exact ⟨_, rfl, post_of_same (pa := []) (pv := []) hW' (fun _ _ _ => (trodAll_cons_mk (shut_bool Try.underlying4 _) trodAll_mk0)) (fun sp _ => (trodAll_cons_mk (shut_int Try.underlying22 w0) (trodAll_cons_mk (shut_int Try.underlying22 w1) (trodAll_cons_mk (shut_int Try.underlying3 w2) (trodAll_cons_mk (shut_int Try.underlying3 w3) (trodAll_cons_mk (shut_bool Try.underlying4 _) (trodAll_cons_mk (shut_bool Try.underlying4 _) trodAll_mk0))))))) (fun _ _ => rfl) rfl
    (hg.frame _) hg.2.1 (ok_one (by kernel_rfl) rfl (okWide_bool_mk Try.underlying4 _))⟩

theorem over : Rows.fltNearRow.holds Try.pinned (OpenSpec.ofChange Rows.fltNearSpec) :=
  OpenClaim.holds_of_wide 4 Try.f4 rfl rfl rfl rfl rfl rfl rfl ⟨rfl, rfl, rfl, rfl, rfl⟩ rfl rfl rfl rfl rfl (by kernel_rfl) Try.func4 (by kernel_rfl)
    (of_decide_eq_true (by kernel_rfl)) (by unfold Func.isWrapper; first | (rw [if_pos (by decide +kernel)]; kernel_rfl) | (rw [if_neg (by decide +kernel)]; exact ⟨rfl, rfl⟩))
    (fun os started H enc _ => lifted os started H enc)

theorem proved : Rows.FltNearSaid :=
  over
end Go.Proofs.Ytjdbgmopmkdlcaa.fltNear

namespace Go.Proofs.Ytjdbgmopmkdlcaa
theorem fltNear_holds : Rows.FltNearSaid := fltNear.proved
end Go.Proofs.Ytjdbgmopmkdlcaa
