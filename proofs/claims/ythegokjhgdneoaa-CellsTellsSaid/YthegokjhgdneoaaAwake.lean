/-
  The first calls of each statement, whose answers are fixed: they come to true, in whatever world. No condition.
-/
import Derived.Test.YthegokjhgdneoaaOwn
namespace Go.Proofs.Ythegokjhgdneoaa

theorem first1 : hasP (withP (withP 0 3) 5) 5 = true := by kernel_rfl
theorem first2 : hasP 0 3 = false := by kernel_rfl

set_option maxRecDepth 100000 in
set_option maxHeartbeats 4000000 in
theorem awake_any (W : World) : Calls Try.prog 8 #[] W fun e w' => e = .returned (.bool true) ∧ W.grownBy w' none := by
  have e1 := Lib.hid first1
  have e2 := Lib.hid first2
  go_enter Try.func8, Try.ntmps8
  go_wp2_with (fail)
  refine (new_yes_any 2 _ (by omega) (by omega)).mono ?_
  rintro e w1 ⟨rfl, hr, hg, hl⟩
  have hO := Own.start (W := W) (n := 2) hr hg (by omega) hl (by rfl)
  generalize W.heap.size + 3 = g at hO hr hl ⊢
  clear hr
  change Own _ _ _ _ _ [(0, 0), (0, 0)] at hO
  go_wp2_with (fail)
  refine (ll_own hO rfl (by omega) (by omega) (by omega)).mono ?_
  clear hO
  rintro e w2 ⟨rfl, hO⟩
  change Own _ _ _ _ _ [(0, 0), (0, withP 0 3)] at hO
  go_wp2_with (fail)
  refine (ll_own hO rfl (by omega) (by omega) (by omega)).mono ?_
  clear hO
  rintro e w3 ⟨rfl, hO⟩
  change Own _ _ _ _ _ [(0, 0), (0, withP (withP 0 3) 5)] at hO
  go_wp2_with (fail)
  refine (sc_own_yes hO rfl (by omega) (by omega) (by omega) e1.out).mono ?_
  clear hO
  rintro e w4 ⟨rfl, hO⟩
  change Own _ _ _ _ _ [(0, 0), (7, 0)] at hO
  go_wp2_with (fail)
  refine (sc_own_not hO rfl (by omega) (by omega) (by omega) e2.out).mono ?_
  clear hO
  rintro e w5 ⟨rfl, hO⟩
  go_wp2_with (fail)
  refine (load_own hO rfl (by omega)).mono ?_
  clear hO
  rintro e w6 ⟨rfl, hO⟩
  go_wp2_with (fail)
  refine (store_own hO rfl (by omega)).mono ?_
  clear hO
  rintro e w7 ⟨rfl, hO⟩
  change Own _ _ _ _ _ [(9, 0), (7, 0)] at hO
  go_wp2_with (fail)
  refine (vl_own_no hO rfl (by omega) (by omega)).mono ?_
  clear hO
  rintro e w8 ⟨rfl, hO⟩
  go_wp2_with (fail)
  refine (rl_own_no hO (by simp) (by omega) (by omega)).mono ?_
  clear hO
  rintro e w9 ⟨rfl, hO⟩
  go_wp2_with (fail)
  refine (load_own_nil hO).mono ?_
  clear hO
  rintro e w10 ⟨rfl, hO⟩
  go_wp2_with (fail)
  refine (new_own_no hO (by omega)).mono ?_
  clear hO
  rintro e w11 ⟨rfl, hO⟩
  have hO := hO.alloc (.cells #[.slice none 0 0] 29)
  have hm := hO.mem.m
  have hx := (hO.mem.row 0 _ rfl).1
  have HG := Lib.hid hO.grown
  clear hO
  go_wp2
  go_ret
  exact ⟨rfl, HG.out⟩

end Go.Proofs.Ythegokjhgdneoaa
