/-
  FltNumbers of layer 1 returns true for every two words, and its arguments read as before. No condition.
-/
import Derived.Test.YtjdbgmopmkdlcaaRows
import Derived.WalkKit
import Derived.ProofKit
import Derived.OpenShut
import Derived.Test.YtjdbgmopmkdlcaaAwake
import Derived.Test.YtjdbgmopmkdlcaaOpp
namespace Go.Proofs.Ytjdbgmopmkdlcaa.fltNumbers
open Go.ChangeShapes Go.WideShapes Go.ChangeAt Go.RowKit
set_option linter.unusedVariables false      -- a walk need not use every 'w<i>' (that an integer argument fits its kind)

theorem own : ownKnob Try.prog.godebug = none := by kernel_rfl

set_option maxHeartbeats 2000000 in
theorem core (a b : Int) (a0 : 0 ≤ a) (a1 : a < 18446744073709551616) (b0 : 0 ≤ b) (b1 : b < 18446744073709551616) (w : World) :
    Calls Try.prog 6 #[.int .u64 a, .int .u64 b] w fun e w' => e = .returned (.bool true) ∧ Grown w w' := by
  have x0 := canon_lo a a0
  have x1 := canon_hi a a1
  have y0 := canon_lo b b0
  have y1 := canon_hi b b1
  have xc : canon (canon a) = canon a := canon_canon a
  have yc : canon (canon b) = canon b := canon_canon b
  obtain ⟨x, hx⟩ : ∃ x, canon a = x := ⟨_, rfl⟩
  obtain ⟨y, hy⟩ : ∃ y, canon b = y := ⟨_, rfl⟩
  rw [hx] at x0 x1 xc
  rw [hy] at y0 y1 yc
  have XC := Lib.hid xc
  have YC := Lib.hid yc
  clear xc yc
  have NN := Lib.hid (fun a b h => numbers x y x0 x1 XC.out a y0 y1 YC.out b h)
  have NS := Lib.hid (fun h => numbers_same x x0 x1 h)
  have f0 := flip_lo y y0
  have f1 := flip_hi y y1
  have hb : bits .xor .u64 y 9223372036854775808 = flip y := xor_sign y y0 y1
  have z0 := canon_lo _ f0
  have z1 := canon_hi _ f1
  have s0 := sum_lo x (canon (flip y))
  have s1 := sum_hi x (canon (flip y))
  obtain ⟨d, hd⟩ : ∃ d, sumOf x (canon (flip y)) = d := ⟨_, rfl⟩
  rw [hd] at s0 s1 NN
  rcases k3 : (kind x == 3) with _ | _
  · rcases j3 : (kind y == 3) with _ | _
    · have sz := sum_zero x x0 x1 XC.out (by simpa using k3)
      rcases k2 : (kind x == 2) with _ | _
      · obtain ⟨n1, n2⟩ := NN.out (by simpa using k3) (by simpa using j3) (fun h => by simp [h.1] at k2)
        obtain ⟨L, l1⟩ : ∃ L, less x y = L := ⟨_, rfl⟩
        obtain ⟨E, e1⟩ : ∃ E, (x == y) = E := ⟨_, rfl⟩
        rw [l1] at n1
        rw [e1] at n2
        replace n1 := n1.symm
        replace n2 := n2.symm
        clear NN NS
        go_enter Try.func6, Try.ntmps6
        go_wp2_with (first
    | (go_at_call 10; with_reducible refine (awake_any _).mono ?_; rintro e w' ⟨rfl, nA, rfl⟩)
    | (go_at_call 23; with_reducible refine (word_any _ _ (by omega) (by omega)).mono ?_; rintro e w' ⟨rfl, rfl⟩)
    | (go_at_call 15; with_reducible refine (rank_any _ _ (by omega) (by omega)).mono ?_; rintro e w' ⟨rfl, rfl⟩)
    | (go_at_call 21; with_reducible refine (sum_any _ _ _).mono ?_; rintro e w' ⟨rfl, nS, rfl⟩)
    | (go_at_call 11; with_reducible refine (canon_any _ _ (by omega) (by omega)).mono ?_; rintro e w' ⟨rfl, rfl⟩)
    | (go_at_call 17; with_reducible refine (less_any _ _ _ (by omega) (by omega) (by omega) (by omega)).mono ?_; rintro e w' ⟨rfl, rfl⟩)
    | (go_at_call 19; with_reducible refine (max_any _ _ _ (by omega) (by omega) (by omega) (by omega)).mono ?_; rintro e w' ⟨rfl, rfl⟩)
    | (go_at_call 13; with_reducible refine (kind_any _ _ (by omega) (by omega)).mono ?_; rintro e w' ⟨rfl, rfl⟩))
        go_ret
        exact ⟨rfl, Grown.refl w⟩
      · rcases e : (x == y) with _ | _
        · obtain ⟨n1, n2⟩ := NN.out (by simpa using k3) (by simpa using j3) (fun h => by simp [h.2] at e)
          obtain ⟨L, l1⟩ : ∃ L, less x y = L := ⟨_, rfl⟩
          rw [l1] at n1
          rw [e] at n2
          replace n1 := n1.symm
          replace n2 := n2.symm
          clear NN NS
          go_enter Try.func6, Try.ntmps6
          go_wp2_with (first
    | (go_at_call 10; with_reducible refine (awake_any _).mono ?_; rintro e w' ⟨rfl, nA, rfl⟩)
    | (go_at_call 23; with_reducible refine (word_any _ _ (by omega) (by omega)).mono ?_; rintro e w' ⟨rfl, rfl⟩)
    | (go_at_call 15; with_reducible refine (rank_any _ _ (by omega) (by omega)).mono ?_; rintro e w' ⟨rfl, rfl⟩)
    | (go_at_call 21; with_reducible refine (sum_any _ _ _).mono ?_; rintro e w' ⟨rfl, nS, rfl⟩)
    | (go_at_call 11; with_reducible refine (canon_any _ _ (by omega) (by omega)).mono ?_; rintro e w' ⟨rfl, rfl⟩)
    | (go_at_call 17; with_reducible refine (less_any _ _ _ (by omega) (by omega) (by omega) (by omega)).mono ?_; rintro e w' ⟨rfl, rfl⟩)
    | (go_at_call 19; with_reducible refine (max_any _ _ _ (by omega) (by omega) (by omega) (by omega)).mono ?_; rintro e w' ⟨rfl, rfl⟩)
    | (go_at_call 13; with_reducible refine (kind_any _ _ (by omega) (by omega)).mono ?_; rintro e w' ⟨rfl, rfl⟩))
          go_ret
          exact ⟨rfl, Grown.refl w⟩
        · have e' : x = y := by simpa using e
          have n := NS.out (by simpa using k2)
          rw [e', ] at n
          rw [e', n] at hd
          have hd' : d = 9221120237041090561 := hd.symm
          subst hd'
          have n' : sumOf x (canon (flip y)) = 9221120237041090561 := by rw [e']; exact n
          clear NN NS n hd e'
          go_enter Try.func6, Try.ntmps6
          go_wp2_with (first
    | (go_at_call 10; with_reducible refine (awake_any _).mono ?_; rintro e w' ⟨rfl, nA, rfl⟩)
    | (go_at_call 23; with_reducible refine (word_any _ _ (by omega) (by omega)).mono ?_; rintro e w' ⟨rfl, rfl⟩)
    | (go_at_call 15; with_reducible refine (rank_any _ _ (by omega) (by omega)).mono ?_; rintro e w' ⟨rfl, rfl⟩)
    | (go_at_call 21; with_reducible refine (sum_any _ _ _).mono ?_; rintro e w' ⟨rfl, nS, rfl⟩)
    | (go_at_call 11; with_reducible refine (canon_any _ _ (by omega) (by omega)).mono ?_; rintro e w' ⟨rfl, rfl⟩)
    | (go_at_call 17; with_reducible refine (less_any _ _ _ (by omega) (by omega) (by omega) (by omega)).mono ?_; rintro e w' ⟨rfl, rfl⟩)
    | (go_at_call 19; with_reducible refine (max_any _ _ _ (by omega) (by omega) (by omega) (by omega)).mono ?_; rintro e w' ⟨rfl, rfl⟩)
    | (go_at_call 13; with_reducible refine (kind_any _ _ (by omega) (by omega)).mono ?_; rintro e w' ⟨rfl, rfl⟩))
          go_ret
          exact ⟨rfl, Grown.refl w⟩
    · have n := numbers_nan x y x0 y0 XC.out YC.out (Or.inr (by simpa using j3))
      clear NN NS
      go_enter Try.func6, Try.ntmps6
      go_wp2_with (first
    | (go_at_call 10; with_reducible refine (awake_any _).mono ?_; rintro e w' ⟨rfl, nA, rfl⟩)
    | (go_at_call 23; with_reducible refine (word_any _ _ (by omega) (by omega)).mono ?_; rintro e w' ⟨rfl, rfl⟩)
    | (go_at_call 15; with_reducible refine (rank_any _ _ (by omega) (by omega)).mono ?_; rintro e w' ⟨rfl, rfl⟩)
    | (go_at_call 21; with_reducible refine (sum_any _ _ _).mono ?_; rintro e w' ⟨rfl, nS, rfl⟩)
    | (go_at_call 11; with_reducible refine (canon_any _ _ (by omega) (by omega)).mono ?_; rintro e w' ⟨rfl, rfl⟩)
    | (go_at_call 17; with_reducible refine (less_any _ _ _ (by omega) (by omega) (by omega) (by omega)).mono ?_; rintro e w' ⟨rfl, rfl⟩)
    | (go_at_call 19; with_reducible refine (max_any _ _ _ (by omega) (by omega) (by omega) (by omega)).mono ?_; rintro e w' ⟨rfl, rfl⟩)
    | (go_at_call 13; with_reducible refine (kind_any _ _ (by omega) (by omega)).mono ?_; rintro e w' ⟨rfl, rfl⟩))
      go_ret
      exact ⟨rfl, Grown.refl w⟩
  · have n := numbers_nan x y x0 y0 XC.out YC.out (Or.inl (by simpa using k3))
    clear NN NS
    go_enter Try.func6, Try.ntmps6
    go_wp2_with (first
    | (go_at_call 10; with_reducible refine (awake_any _).mono ?_; rintro e w' ⟨rfl, nA, rfl⟩)
    | (go_at_call 23; with_reducible refine (word_any _ _ (by omega) (by omega)).mono ?_; rintro e w' ⟨rfl, rfl⟩)
    | (go_at_call 15; with_reducible refine (rank_any _ _ (by omega) (by omega)).mono ?_; rintro e w' ⟨rfl, rfl⟩)
    | (go_at_call 21; with_reducible refine (sum_any _ _ _).mono ?_; rintro e w' ⟨rfl, nS, rfl⟩)
    | (go_at_call 11; with_reducible refine (canon_any _ _ (by omega) (by omega)).mono ?_; rintro e w' ⟨rfl, rfl⟩)
    | (go_at_call 17; with_reducible refine (less_any _ _ _ (by omega) (by omega) (by omega) (by omega)).mono ?_; rintro e w' ⟨rfl, rfl⟩)
    | (go_at_call 19; with_reducible refine (max_any _ _ _ (by omega) (by omega) (by omega) (by omega)).mono ?_; rintro e w' ⟨rfl, rfl⟩)
    | (go_at_call 13; with_reducible refine (kind_any _ _ (by omega) (by omega)).mono ?_; rintro e w' ⟨rfl, rfl⟩))
    go_ret
    exact ⟨rfl, Grown.refl w⟩

theorem walk (a0 : Int) (a1 : Int) (w0 : (Lit.int .u64 a0).wf = true) (w1 : (Lit.int .u64 a1).wf = true) (w : World) :
    Calls Try.prog 6 #[.int .u64 a0, .int .u64 a1] w fun e w' => e = .returned (.bool true) ∧ Grown w w' := by
  have b0 := bounds_u64 w0
  have b1 := bounds_u64 w1
  exact core a0 a1 b0.1 (by omega) b1.1 (by omega) w

set_option maxRecDepth 100000 in
theorem lifted (os : Os) (started : os.Started) (H : Type) (enc : TypeId × Value → H) :
    ReturnsInHanded {} Try.checked os 6 .any (Rows.fltNumbersSpec.pre6 enc Try.prog Try.f6 Rows.fltNumbersRow.domain false) (Rows.fltNumbersSpec.post enc Try.prog Try.f6 false true false false) := by
  refine returnsInHanded_of_change (C := Try.checked) own started (by kernel_rfl) Try.func6
    (ChangeSpec.witness6 (enc := enc) (C := Try.checked) false ⟨#[], #[.int .u64 0, .int .u64 0], []⟩ 8 (by kernel_rfl) (by kernel_rfl) (by kernel_rfl) (by kernel_rfl)) ?_
  intro W base args ds gs before hval0 hW hcnd _
  have hval : ∀ (j : Nat) t v, Try.f6.params[j]? = some t → args[j]? = some v → Value.okWide Try.prog W .any base t v := hval0
  have hW' := hW
  obtain ⟨p, q, hA0, hV, rfl, hfz, hnd⟩ := hW
  have hA : DataW.TrodAll enc Try.prog W 0 (fun _ => true) true Try.f6.params.toList args.toList ds p := hA0
  rw [Try.params6] at hA hval
  obtain ⟨v0, vs0, d0, ds0, p0, q0, hargs, rfl, rfl, h0, r0⟩ := trodAll_cons hA
  obtain ⟨v1, vs1, d1, ds1, p1, q1, rfl, rfl, rfl, h1, r1⟩ := trodAll_cons r0
  obtain ⟨rfl, rfl, rfl⟩ := trodAll_nil r1
  obtain rfl : args = #[v0, v1] := by cases args; simp_all
  obtain ⟨rfl, rfl⟩ := trodVars_none hV
  obtain ⟨a0, rfl, rfl, rfl, w0⟩ := open_int Try.underlying22 (hval 0 22 v0 rfl rfl) h0
  obtain ⟨a1, rfl, rfl, rfl, w1⟩ := open_int Try.underlying22 (hval 1 22 v1 rfl rfl) h1
  clear hA0 hval0
  simp only [List.append_nil] at hW'
  refine (walk a0 a1 w0 w1 W).mono fun e W' ⟨he, hg⟩ => ?_
  subst he
  exact ⟨_, rfl, post_of_same (pa := []) (pv := []) hW' (fun _ _ _ => (trodAll_cons_mk (shut_bool Try.underlying4 _) trodAll_mk0)) (fun sp _ => (trodAll_cons_mk (shut_int Try.underlying22 w0) (trodAll_cons_mk (shut_int Try.underlying22 w1) trodAll_mk0))) (fun _ _ => rfl) rfl
    (hg.frame _) hg.2.1 (ok_one (by kernel_rfl) rfl (okWide_bool_mk Try.underlying4 _))⟩

theorem over : Rows.fltNumbersRow.holds Try.pinned (OpenSpec.ofChange Rows.fltNumbersSpec) :=
  OpenClaim.holds_of_wide 6 Try.f6 rfl rfl rfl rfl rfl rfl rfl ⟨rfl, rfl, rfl, rfl, rfl⟩ rfl rfl rfl rfl rfl (by kernel_rfl) Try.func6 (by kernel_rfl)
    (of_decide_eq_true (by kernel_rfl)) (by unfold Func.isWrapper; first | (rw [if_pos (by decide +kernel)]; kernel_rfl) | (rw [if_neg (by decide +kernel)]; exact ⟨rfl, rfl⟩))
    (fun os started H enc _ => lifted os started H enc)

theorem proved : Rows.FltNumbersSaid :=
  over
end Go.Proofs.Ytjdbgmopmkdlcaa.fltNumbers

namespace Go.Proofs.Ytjdbgmopmkdlcaa
theorem fltNumbers_holds : Rows.FltNumbersSaid := fltNumbers.proved
end Go.Proofs.Ytjdbgmopmkdlcaa
