/-
  What Slot and Before return, and that the first calls of each statement come to true, in whatever world that holds the package's table, for words (integers from 0 to less than 2^64) and an int (the conditions).
-/
import Derived.Test.YthgjmimniibmlaaDoorMix
namespace Go.Proofs.YthgjmimniibmlaaDoor
open Go.RowKit (intOf Grown)

def slot (x m : Int) : Int := if m < 1 then 0 else mixed x % m

theorem slot_bd (x m : Int) (h : 1 ≤ m) : 0 ≤ slot x m ∧ slot x m < m := by
  unfold slot
  rw [if_neg (by omega)]
  exact ⟨Int.emod_nonneg _ (by omega), Int.emod_lt_of_pos _ (by omega)⟩

set_option maxHeartbeats 1000000 in
theorem slot_any (x m : Int) (w : World) (hT : Tab w) (h0 : 0 ≤ x) (h1 : x < 18446744073709551616) (g0 : -9223372036854775808 ≤ m) (g1 : m < 9223372036854775808) :
    Calls Tryd.prog 12 #[.int .u64 x, .int .i64 m] w fun e w' => e = .returned (.int .i64 (slot x m)) ∧ Tab w' ∧ Grown w w' := by
  have hT' : RowKit.Hid (Tab w) := Lib.hid hT
  by_cases hm : m < 1
  · have hs : RowKit.Hid (slot x m = 0) := Lib.hid (by unfold slot; rw [if_pos hm])
    go_enter Tryd.func12, Tryd.ntmps12
    go_wp2
    go_ret
    exact ⟨ret_int hs.out.symm, hT'.out, Grown.refl _⟩
  · have hb := mixed_bd x h1
    have hs : RowKit.Hid (slot x m = mixed x % m) := Lib.hid (by unfold slot; rw [if_neg hm])
    have hq0 : 0 ≤ mixed x % m := Int.emod_nonneg _ (by omega)
    have hq1 : mixed x % m < m := Int.emod_lt_of_pos _ (by omega)
    go_enter Tryd.func12, Tryd.ntmps12
    go_wp2_with (go_at_call 8; with_reducible refine (mix_any _ _ hT'.out (by omega) (by omega)).mono ?_; rintro e w' ⟨rfl, hT1, hg1⟩)
    go_ret
    exact ⟨ret_int hs.out.symm, hT1, hg1⟩

set_option maxHeartbeats 1000000 in
theorem before_any (x y : Int) (w : World) (hT : Tab w) (h0 : 0 ≤ x) (h1 : x < 18446744073709551616) (g0 : 0 ≤ y) (g1 : y < 18446744073709551616) :
    Calls Tryd.prog 14 #[.int .u64 x, .int .u64 y] w fun e w' => e = .returned (.bool (decide (mixed y < mixed x))) ∧ Tab w' ∧ Grown w w' := by
  have hT' : RowKit.Hid (Tab w) := Lib.hid hT
  clear hT
  go_enter Tryd.func14, Tryd.ntmps14
  go_wp2_with (first
    | (go_at_call 8; with_reducible refine (mix_any x _ hT'.out (by omega) (by omega)).mono ?_; rintro e w' ⟨rfl, hT1, hg1⟩)
    | (go_at_call 8; with_reducible refine (mix_any y _ hT1 (by omega) (by omega)).mono ?_; rintro e w' ⟨rfl, hT2, hg2⟩))
  go_ret
  exact ⟨rfl, hT2, grown_trans hg1 hg2⟩

/-- The world w holds the table, and is W but for new blocks and draws. -/
structure Kept (W w : World) : Prop where
  tab : Tab w
  grown : Grown W w

theorem Kept.start {W : World} (h : Tab W) : Kept W W := ⟨h, Grown.refl _⟩

theorem mix_kept (x : Int) (W w : World) (hK : Kept W w) (h0 : 0 ≤ x) (h1 : x < 18446744073709551616) :
    Calls Tryd.prog 8 #[.int .u64 x] w fun e w' => e = .returned (.int .u64 (mixed x)) ∧ Kept W w' :=
  (mix_any x w hK.tab h0 h1).mono fun _ _ h => ⟨h.1, h.2.1, grown_trans hK.grown h.2.2⟩
theorem unmix_kept (x : Int) (W w : World) (hK : Kept W w) (h0 : 0 ≤ x) (h1 : x < 18446744073709551616) :
    Calls Tryd.prog 10 #[.int .u64 x] w fun e w' => e = .returned (.int .u64 (unmixed x)) ∧ Kept W w' :=
  (unmix_any x w hK.tab h0 h1).mono fun _ _ h => ⟨h.1, h.2.1, grown_trans hK.grown h.2.2⟩
theorem slot_kept (x m : Int) (W w : World) (hK : Kept W w) (h0 : 0 ≤ x) (h1 : x < 18446744073709551616) (g0 : -9223372036854775808 ≤ m) (g1 : m < 9223372036854775808) :
    Calls Tryd.prog 12 #[.int .u64 x, .int .i64 m] w fun e w' => e = .returned (.int .i64 (slot x m)) ∧ Kept W w' :=
  (slot_any x m w hK.tab h0 h1 g0 g1).mono fun _ _ h => ⟨h.1, h.2.1, grown_trans hK.grown h.2.2⟩
theorem before_kept (x y : Int) (W w : World) (hK : Kept W w) (h0 : 0 ≤ x) (h1 : x < 18446744073709551616) (g0 : 0 ≤ y) (g1 : y < 18446744073709551616) :
    Calls Tryd.prog 14 #[.int .u64 x, .int .u64 y] w fun e w' => e = .returned (.bool (decide (mixed y < mixed x))) ∧ Kept W w' :=
  (before_any x y w hK.tab h0 h1 g0 g1).mono fun _ _ h => ⟨h.1, h.2.1, grown_trans hK.grown h.2.2⟩

theorem first1 : mixed 0 = 0 := by kernel_rfl
theorem first2 : mixed 11400714819323198485 = 16294208416658607535 := by kernel_rfl
theorem first3 : unmixed 7960286522194355700 = 4354685564936845354 := by kernel_rfl
theorem first4 : slot 11400714819323198485 16 = 15 := by kernel_rfl
theorem first5 : slot 1 0 = 0 := by kernel_rfl
theorem first6 : mixed 1 = 6238072747940578789 := by kernel_rfl

set_option maxHeartbeats 1000000 in
theorem awake_kept (W w : World) (hK : Kept W w) : Calls Tryd.prog 7 #[] w fun e w' => e = .returned (.bool true) ∧ Kept W w' := by
  have e1 := first1
  have e2 := first2
  have e3 := first3
  have e4 := first4
  have e5 := first5
  have e6 := first6
  go_enter Tryd.func7, Tryd.ntmps7
  go_wp2_with (first
    | (go_at_call 8; with_reducible refine (mix_kept _ W _ (by assumption) (by omega) (by omega)).mono ?_; rintro e w' ⟨rfl, hK⟩)
    | (go_at_call 10; with_reducible refine (unmix_kept _ W _ (by assumption) (by omega) (by omega)).mono ?_; rintro e w' ⟨rfl, hK⟩)
    | (go_at_call 12; with_reducible refine (slot_kept _ _ W _ (by assumption) (by omega) (by omega) (by omega) (by omega)).mono ?_; rintro e w' ⟨rfl, hK⟩)
    | (go_at_call 14; with_reducible refine (before_kept _ _ W _ (by assumption) (by omega) (by omega) (by omega) (by omega)).mono ?_; rintro e w' ⟨rfl, hK⟩))
  go_ret
  exact ⟨rfl, by assumption⟩

end Go.Proofs.YthgjmimniibmlaaDoor
