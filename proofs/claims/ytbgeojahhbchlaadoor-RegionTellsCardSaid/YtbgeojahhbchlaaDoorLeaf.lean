/-
  The small functions of package region and of the document's own answers: what within, Fits, cells and begin return in whatever world, for integers. Each leaves memory as it was, but for a box of its own.
-/
import Derived.Test.YtbgeojahhbchlaaDoorNum
import Derived.WalkKit
import Derived.WalkLawsBesides
import Derived.Lib.Hide
import Derived.Below
namespace Go.Proofs.YtbgeojahhbchlaaDoor
open Go.RowKit (intOf Below)

theorem ret_int {k : IntKind} {a b : Int} (h : a = b) : Ending.returned (.int k a) = .returned (.int k b) := by rw [h]
theorem ret_bool {a b : Bool} (h : a = b) : Ending.returned (.bool a) = .returned (.bool b) := by rw [h]

theorem within_yes (a lo hi : Int) (w : World) (h0 : lo ≤ a) (h1 : a ≤ hi) : Calls Tryd.prog 24 #[.int .i64 a, .int .i64 lo, .int .i64 hi] w fun e w' => e = .returned (.bool true) ∧ w = w' := by
  go_enter Tryd.func24, Tryd.ntmps24
  go_wp2
  go_ret
  exact ⟨rfl, rfl⟩
theorem within_no (a lo hi : Int) (w : World) (h : ¬ (lo ≤ a ∧ a ≤ hi)) : Calls Tryd.prog 24 #[.int .i64 a, .int .i64 lo, .int .i64 hi] w fun e w' => e = .returned (.bool false) ∧ w = w' := by
  by_cases h0 : lo ≤ a
  · have h1 : ¬ a ≤ hi := fun x => h ⟨h0, x⟩
    clear h
    go_enter Tryd.func24, Tryd.ntmps24
    go_wp2
    go_ret
    exact ⟨rfl, rfl⟩
  · clear h
    go_enter Tryd.func24, Tryd.ntmps24
    go_wp2
    go_ret
    exact ⟨rfl, rfl⟩
theorem within_any (a lo hi : Int) (w : World) : Calls Tryd.prog 24 #[.int .i64 a, .int .i64 lo, .int .i64 hi] w fun e w' => e = .returned (.bool (isIn a lo hi)) ∧ w = w' := by
  by_cases h : lo ≤ a ∧ a ≤ hi
  · rw [isIn_mk h]; exact within_yes a lo hi w h.1 h.2
  · rw [isIn_no h]; exact within_no a lo hi w h

theorem in_any (a lo hi : Int) (w : World) : Calls Tryd.prog 25 #[.int .i64 a, .int .i64 lo, .int .i64 hi] w fun e w' => e = .returned (.bool (isIn a lo hi)) ∧ w = w' := by
  by_cases h0 : lo ≤ a
  · by_cases h1 : a ≤ hi
    · rw [isIn_mk ⟨h0, h1⟩]
      go_enter Tryd.func25, Tryd.ntmps25
      go_wp2
      go_ret
      exact ⟨rfl, rfl⟩
    · rw [isIn_no (fun x => h1 x.2)]
      go_enter Tryd.func25, Tryd.ntmps25
      go_wp2
      go_ret
      exact ⟨rfl, rfl⟩
  · rw [isIn_no (fun x => h0 x.1)]
    go_enter Tryd.func25, Tryd.ntmps25
    go_wp2
    go_ret
    exact ⟨rfl, rfl⟩

/-- A configuration's value, and a stretch's. -/
abbrev cf (k p c : Int) : Value := .agg #[.int .i64 k, .int .i64 p, .int .i64 c]
abbrev bx (k p c : Int) : Obj := .cells #[.int .i64 k, .int .i64 p, .int .i64 c] 24

theorem fits_any (k p c : Int) (w : World) : Calls Tryd.prog 9 #[cf k p c] w fun e w' => e = .returned (.bool (fits k p c)) ∧ w' = w.alloc (bx k p c) := by
  by_cases h : 1 ≤ k ∧ k ≤ 5
  · have i1 := isIn_mk h
    by_cases h' : 1 ≤ p ∧ p ≤ 16
    · have i2 := isIn_mk h'
      by_cases h'' : 1 ≤ c ∧ c ≤ 256
      · have i3 := isIn_mk h''
        rw [fits_mk (by omega)]
        go_enter Tryd.func9, Tryd.ntmps9
        go_wp2_with (go_at_call 24; with_reducible refine (within_any _ _ _ _).mono ?_; rintro e w' ⟨rfl, rfl⟩)
        go_ret
        exact ⟨rfl, rfl⟩
      · have i3 := isIn_no h''
        rw [fits_no (by omega)]
        go_enter Tryd.func9, Tryd.ntmps9
        go_wp2_with (go_at_call 24; with_reducible refine (within_any _ _ _ _).mono ?_; rintro e w' ⟨rfl, rfl⟩)
        go_ret
        exact ⟨rfl, rfl⟩
    · have i2 := isIn_no h'
      rw [fits_no (by omega)]
      go_enter Tryd.func9, Tryd.ntmps9
      go_wp2_with (go_at_call 24; with_reducible refine (within_any _ _ _ _).mono ?_; rintro e w' ⟨rfl, rfl⟩)
      go_ret
      exact ⟨rfl, rfl⟩
  · have i1 := isIn_no h
    rw [fits_no (by omega)]
    go_enter Tryd.func9, Tryd.ntmps9
    go_wp2_with (go_at_call 24; with_reducible refine (within_any _ _ _ _).mono ?_; rintro e w' ⟨rfl, rfl⟩)
    go_ret
    exact ⟨rfl, rfl⟩

theorem rfits_any (k p c : Int) (w : World) : Calls Tryd.prog 10 #[cf k p c] w fun e w' => e = .returned (.bool (fits k p c)) ∧ w' = w.alloc (bx k p c) := by
  by_cases h : 1 ≤ k ∧ k ≤ 5
  · have i1 := isIn_mk h
    by_cases h' : 1 ≤ p ∧ p ≤ 16
    · have i2 := isIn_mk h'
      by_cases h'' : 1 ≤ c ∧ c ≤ 256
      · have i3 := isIn_mk h''
        rw [fits_mk (by omega)]
        go_enter Tryd.func10, Tryd.ntmps10
        go_wp2_with (go_at_call 25; with_reducible refine (in_any _ _ _ _).mono ?_; rintro e w' ⟨rfl, rfl⟩)
        go_ret
        exact ⟨rfl, rfl⟩
      · have i3 := isIn_no h''
        rw [fits_no (by omega)]
        go_enter Tryd.func10, Tryd.ntmps10
        go_wp2_with (go_at_call 25; with_reducible refine (in_any _ _ _ _).mono ?_; rintro e w' ⟨rfl, rfl⟩)
        go_ret
        exact ⟨rfl, rfl⟩
    · have i2 := isIn_no h'
      rw [fits_no (by omega)]
      go_enter Tryd.func10, Tryd.ntmps10
      go_wp2_with (go_at_call 25; with_reducible refine (in_any _ _ _ _).mono ?_; rintro e w' ⟨rfl, rfl⟩)
      go_ret
      exact ⟨rfl, rfl⟩
  · have i1 := isIn_no h
    rw [fits_no (by omega)]
    go_enter Tryd.func10, Tryd.ntmps10
    go_wp2_with (go_at_call 25; with_reducible refine (in_any _ _ _ _).mono ?_; rintro e w' ⟨rfl, rfl⟩)
    go_ret
    exact ⟨rfl, rfl⟩

theorem pick_any (c n : Int) (w : World) (h0 : -9223372036854775808 ≤ c) (h1 : c < 9223372036854775808) (g0 : 1 ≤ n) (g1 : n < 9223372036854775808) :
    Calls Tryd.prog 19 #[.int .i64 c, .int .i64 n] w fun e w' => e = .returned (.int .i64 (pick c n)) ∧ w = w' := by
  by_cases h : c < 0
  · have hp : RowKit.Hid (pick c n = -(c + 1) % n) := Lib.hid (by unfold pick; rw [if_pos h])
    go_enter Tryd.func19, Tryd.ntmps19
    go_wp2
    go_ret
    exact ⟨ret_int (by rw [hp.out, ← Int.neg_tmod, Int.tmod_eq_emod_of_nonneg (by omega)]), rfl⟩
  · have hp : RowKit.Hid (pick c n = c % n) := Lib.hid (by unfold pick; rw [if_neg h])
    go_enter Tryd.func19, Tryd.ntmps19
    go_wp2
    go_ret
    exact ⟨ret_int (by rw [hp.out]), rfl⟩

abbrev sv (f o e : Int) : Value := .agg #[.int .i64 f, .int .i64 o, .int .i64 e]
abbrev sx (f o e : Int) : Obj := .cells #[.int .i64 f, .int .i64 o, .int .i64 e] 50

theorem cells_any (f o e m : Int) (w : World) (hm : RowKit.Hid (o * e = m)) (m0 : 0 ≤ m) (m1 : m < 4000000) :
    Calls Tryd.prog 27 #[sv f o e] w fun x w' => x = .returned (.int .i64 m) ∧ w' = w.alloc (sx f o e) := by
  have h2 : RowKit.Hid (RowKit.wrap64 (o * e) = m) := Lib.hid (by rw [hm.out]; unfold RowKit.wrap64; omega)
  go_enter Tryd.func27, Tryd.ntmps27
  go_wp2
  go_ret
  exact ⟨ret_int h2.out, rfl⟩

theorem begin_one (f e q : Int) (w : World) : Calls Tryd.prog 29 #[sv f 1 e, .int .i64 q] w fun x w' => x = .returned (.int .i64 f) ∧ w' = w.alloc (sx f 1 e) := by
  go_enter Tryd.func29, Tryd.ntmps29
  go_wp2
  go_ret
  exact ⟨rfl, rfl⟩

theorem begin_many (f o e q m : Int) (w : World) (ho : o ≠ 1) (hm : RowKit.Hid (q * e = m)) (m0 : 0 ≤ m) (m1 : m < 4000000) (f0 : 0 ≤ f) (f1 : f < 4000000) :
    Calls Tryd.prog 29 #[sv f o e, .int .i64 q] w fun x w' => x = .returned (.int .i64 (f + m)) ∧ w' = w.alloc (sx f o e) := by
  have h2 : RowKit.Hid (RowKit.wrap64 (q * e) = m) := Lib.hid (by rw [hm.out]; unfold RowKit.wrap64; omega)
  have h3 : RowKit.Hid (RowKit.wrap64 (f + m) = f + m) := Lib.hid (by unfold RowKit.wrap64; omega)
  have ho' : (o == 1) = false := by simpa using ho
  go_enter Tryd.func29, Tryd.ntmps29
  go_wp2
  go_ret
  exact ⟨ret_int (by rw [h2.out]; exact h3.out), rfl⟩

end Go.Proofs.YtbgeojahhbchlaaDoor
