/-
  What the statements' own functions return: Conf of three ints, and the first calls (awake), in whatever world that holds the package's table; they leave memory as it was, but for new blocks and draws.
-/
import Derived.Test.YtbgeojahhbchlaaDoorWhere
namespace Go.Proofs.YtbgeojahhbchlaaDoor
open Go.RowKit (intOf Below)

theorem size_kept (k p c : Int) (W w : World) (hK : Kept W w) : Calls Tryd.prog 13 #[cf k p c] w fun e w' => e = .returned (.int .i64 (size k p c)) ∧ Kept W w' :=
  (size_any k p c w hK.tab).mono fun _ _ h => ⟨h.1, hK.next h.2⟩
theorem at_kept (k p c part q : Int) (W w : World) (hK : Kept W w) : Calls Tryd.prog 20 #[cf k p c, .int .i64 part, .int .i64 q] w fun e w' => e = .returned (.tuple #[.int .i64 (atV k p c part q), .int .i64 (atE k p c part q)]) ∧ Kept W w' :=
  (at_any k p c part q w hK.tab).mono fun _ _ h => ⟨h.1, hK.next h.2⟩
theorem where_kept (k p c x : Int) (W w : World) (hK : Kept W w) : Calls Tryd.prog 22 #[cf k p c, .int .i64 x] w fun e w' => e = .returned (.tuple #[.int .i64 (whA k p c x), .int .i64 (whB k p c x), .int .i64 (whC k p c x)]) ∧ Kept W w' :=
  (where_any k p c x w hK.tab).mono fun _ _ h => ⟨h.1, hK.next h.2⟩

abbrev ar (a b c : Int) : Value := .agg #[.int .i64 a, .int .i64 b, .int .i64 c]

set_option maxHeartbeats 1000000 in
theorem conf_kept (a b c : Int) (W w : World) (hK : Kept W w) (a0 : -9223372036854775808 ≤ a) (a1 : a < 9223372036854775808) (b0 : -9223372036854775808 ≤ b) (b1 : b < 9223372036854775808) (c0 : -9223372036854775808 ≤ c) (c1 : c < 9223372036854775808) :
    Calls Tryd.prog 8 #[ar a b c] w fun e w' => e = .returned (cf (1 + pick a 5) (1 + pick b 16) (1 + pick c 256)) ∧ Kept W w' := by
  have p1 := pick_bd (c := a) (n := 5) (by omega)
  have p2 := pick_bd (c := b) (n := 16) (by omega)
  have p3 := pick_bd (c := c) (n := 256) (by omega)
  have e1 : IntKind.i64.wrap (1 + pick a 5) = 1 + pick a 5 := IntWalk.i64_in _ (by omega)
  have e2 : IntKind.i64.wrap (1 + pick b 16) = 1 + pick b 16 := IntWalk.i64_in _ (by omega)
  have e3 : IntKind.i64.wrap (1 + pick c 256) = 1 + pick c 256 := IntWalk.i64_in _ (by omega)
  have hn0 : w.heap.size ≠ w.heap.size + 1 := by omega
  go_enter Tryd.func8, Tryd.ntmps8
  go_wp2_with (fail)
  go_region_held3 (fun w' => (w'.cell? ⟨w.heap.size, 0, none⟩ = some (.int .i64 a) ∧ w'.cell? ⟨w.heap.size, 1, none⟩ = some (.int .i64 b) ∧ w'.cell? ⟨w.heap.size, 2, none⟩ = some (.int .i64 c)))
    (go_keep)
    (first
    | (go_at_call 19; with_reducible refine (pick_any _ _ _ (by omega) (by omega) (by omega) (by omega)).mono ?_; rintro e w' ⟨rfl, rfl⟩))
  all_goals go_wp2
  all_goals refine bodyPost_ret (v := cf (1 + pick a 5) (1 + pick b 16) (1 + pick c 256)) (by simp [results, Tryd.results8, go_sem]) rfl ⟨rfl, ?_⟩
  all_goals repeat (first | exact hK | refine Kept.alloc ?_ _ | refine Kept.drew ?_)

set_option maxRecDepth 100000 in
set_option maxHeartbeats 4000000 in
theorem awake_kept (W w : World) (hK : Kept W w) : Calls Tryd.prog 7 #[] w fun e w' => e = .returned (.bool true) ∧ Kept W w' := by
  have hK0 : Kept (w.alloc (bx 1 1 5)) (w.alloc (bx 1 1 5)) := Kept.start (hK.tab.alloc _)
  have q1 : atV 1 1 5 4 0 = 13 := by decide
  have q2 : atE 1 1 5 4 0 = 0 := by decide
  have q3 : atE 1 1 5 4 1 = 1 := by decide
  have q4 : atE 0 0 0 0 0 = 5 := by decide
  have q5 : whA 1 1 5 5 = 2 := by decide
  have q6 : whB 1 1 5 5 = 0 := by decide
  have q7 : whC 1 1 5 5 = 1 := by decide
  have q8 : whA 1 1 5 14 = 5 := by decide
  have q9 : fits 1 1 5 = true := by decide
  have q10 : home 1 1 5 = 1 := by decide
  have q11 : logs 1 1 5 = 7 := by decide
  have q12 : size 1 1 5 = 14 := by decide
  have q13 : bound 1 1 5 = 276 := by decide
  have hK' := Lib.hid hK
  clear hK
  go_enter Tryd.func7, Tryd.ntmps7
  go_wp2_with (first
    | (go_at_call 20; with_reducible refine (at_kept _ _ _ _ _ (w.alloc (bx 1 1 5)) _ (by assumption)).mono ?_; rintro e w' ⟨rfl, hK⟩; obtain ⟨k0, k1, k2, _⟩ := keep3 hK)
    | (go_at_call 22; with_reducible refine (where_kept _ _ _ _ (w.alloc (bx 1 1 5)) _ (by assumption)).mono ?_; rintro e w' ⟨rfl, hK⟩; obtain ⟨k0, k1, k2, _⟩ := keep3 hK)
    | (go_at_call 9; with_reducible refine (fits_kept _ _ _ (w.alloc (bx 1 1 5)) _ (by assumption)).mono ?_; rintro e w' ⟨rfl, hK⟩; obtain ⟨k0, k1, k2, _⟩ := keep3 hK)
    | (go_at_call 11; with_reducible refine (home_kept _ _ _ (w.alloc (bx 1 1 5)) _ (by assumption)).mono ?_; rintro e w' ⟨rfl, hK⟩; obtain ⟨k0, k1, k2, _⟩ := keep3 hK)
    | (go_at_call 15; with_reducible refine (logs_kept _ _ _ (w.alloc (bx 1 1 5)) _ (by assumption)).mono ?_; rintro e w' ⟨rfl, hK⟩; obtain ⟨k0, k1, k2, _⟩ := keep3 hK)
    | (go_at_call 13; with_reducible refine (size_kept _ _ _ (w.alloc (bx 1 1 5)) _ (by assumption)).mono ?_; rintro e w' ⟨rfl, hK⟩; obtain ⟨k0, k1, k2, _⟩ := keep3 hK)
    | (go_at_call 17; with_reducible refine (bound_kept _ _ _ (w.alloc (bx 1 1 5)) _ (by assumption)).mono ?_; rintro e w' ⟨rfl, hK⟩; obtain ⟨k0, k1, k2, _⟩ := keep3 hK))
  go_ret
  exact ⟨rfl, kept_of hK'.out hK⟩

end Go.Proofs.YtbgeojahhbchlaaDoor
