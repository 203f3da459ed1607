/-
  What LogSize and Bound of package region, and Home, LogSize, Size, Bound, size and owners of the document's own answers return, in whatever world that holds the package's table, for integers; they leave memory as it was, but for new blocks and draws.
-/
import Derived.Test.YtbgeojahhbchlaaDoorHome
namespace Go.Proofs.YtbgeojahhbchlaaDoor
open Go.RowKit (intOf Below)

theorem most_kept (k p c : Int) (W w : World) (hK : Kept W w) (hf : fits k p c = true) : Calls Tryd.prog 28 #[cf k p c] w fun e w' => e = .returned (.int .i64 (hom k c + 2 * p)) ∧ Kept W w' :=
  (most_any k p c w hK.tab hf).mono fun _ _ h => ⟨h.1, hK.next h.2⟩

set_option maxHeartbeats 1000000 in
theorem logs_kept (k p c : Int) (W w : World) (hK : Kept W w) : Calls Tryd.prog 15 #[cf k p c] w fun e w' => e = .returned (.int .i64 (logs k p c)) ∧ Kept W w' := by
  have hK0 := hK.alloc (bx k p c)
  by_cases hf : fits k p c = true
  · have hv := fits_of hf
    have hh : RowKit.Hid (logs k p c = lg k p c) := Lib.hid (by unfold logs; rw [if_pos hf])
    have hb := hom_bd (k := k) (c := c) (by omega) (by omega)
    go_enter Tryd.func15, Tryd.ntmps15
    go_wp2_with (first
      | (go_at_call 9; with_reducible refine (fits_any _ _ _ _).mono ?_; rintro e w' ⟨rfl, rfl⟩)
      | (go_at_call 28; with_reducible refine (most_kept _ _ _ W _ (hK0.alloc _) hf).mono ?_; rintro e w' ⟨rfl, hK1⟩))
    go_ret
    exact ⟨ret_int (by rw [hh.out]; rfl), hK1⟩
  · have hf' : fits k p c = false := by simpa using hf
    have hh : RowKit.Hid (logs k p c = 0) := Lib.hid (by unfold logs; rw [if_neg hf])
    clear hf
    go_enter Tryd.func15, Tryd.ntmps15
    go_wp2_with (go_at_call 9; with_reducible refine (fits_any _ _ _ _).mono ?_; rintro e w' ⟨rfl, rfl⟩)
    go_ret
    exact ⟨ret_int hh.out.symm, hK0.alloc _⟩

set_option maxHeartbeats 1000000 in
theorem bound_kept (k p c : Int) (W w : World) (hK : Kept W w) : Calls Tryd.prog 17 #[cf k p c] w fun e w' => e = .returned (.int .i64 (bound k p c)) ∧ Kept W w' := by
  have hK0 := hK.alloc (bx k p c)
  by_cases hf : fits k p c = true
  · have hv := fits_of hf
    have hh : RowKit.Hid (bound k p c = 10 * (6 * (hom k c + 2 * p) + 8) + 16) := Lib.hid (by unfold bound; rw [if_pos hf])
    have hb := hom_bd (k := k) (c := c) (by omega) (by omega)
    go_enter Tryd.func17, Tryd.ntmps17
    go_wp2_with (first
      | (go_at_call 9; with_reducible refine (fits_any _ _ _ _).mono ?_; rintro e w' ⟨rfl, rfl⟩)
      | (go_at_call 28; with_reducible refine (most_kept _ _ _ W _ (hK0.alloc _) hf).mono ?_; rintro e w' ⟨rfl, hK1⟩))
    go_ret
    exact ⟨ret_int hh.out.symm, hK1⟩
  · have hf' : fits k p c = false := by simpa using hf
    have hh : RowKit.Hid (bound k p c = 0) := Lib.hid (by unfold bound; rw [if_neg hf])
    clear hf
    go_enter Tryd.func17, Tryd.ntmps17
    go_wp2_with (go_at_call 9; with_reducible refine (fits_any _ _ _ _).mono ?_; rintro e w' ⟨rfl, rfl⟩)
    go_ret
    exact ⟨ret_int hh.out.symm, hK0.alloc _⟩

set_option maxHeartbeats 1000000 in
theorem rhome_kept (k p c : Int) (W w : World) (hK : Kept W w) : Calls Tryd.prog 12 #[cf k p c] w fun e w' => e = .returned (.int .i64 (home k p c)) ∧ Kept W w' := by
  have hK0 := hK.alloc (bx k p c)
  by_cases hf : fits k p c = true
  · have hv := fits_of hf
    have hh : RowKit.Hid (home k p c = hom k c) := Lib.hid (by unfold home; rw [if_pos hf])
    rcases (by omega : k = 1 ∨ k = 2 ∨ k = 3 ∨ k = 4 ∨ k = 5) with rfl | rfl | rfl | rfl | rfl
    all_goals go_enter Tryd.func12, Tryd.ntmps12
    all_goals go_wp2_with (go_at_call 10; with_reducible refine (rfits_any _ _ _ _).mono ?_; rintro e w' ⟨rfl, rfl⟩)
    all_goals go_ret
    all_goals exact ⟨ret_int (by rw [hh.out]; simp [hom] <;> omega), hK0.alloc _⟩
  · have hf' : fits k p c = false := by simpa using hf
    have hh : RowKit.Hid (home k p c = 0) := Lib.hid (by unfold home; rw [if_neg hf])
    clear hf
    go_enter Tryd.func12, Tryd.ntmps12
    go_wp2_with (go_at_call 10; with_reducible refine (rfits_any _ _ _ _).mono ?_; rintro e w' ⟨rfl, rfl⟩)
    go_ret
    exact ⟨ret_int hh.out.symm, hK0.alloc _⟩

/-- What a drawn region of a function with one box, behind another one that a callee laid, holds on to. -/
theorem keep3' {w w' : World} {k p c : Int} {o : Obj} (hT : Tab w) (hb : Below ((w.alloc (bx k p c)).alloc o).heap.size ((w.alloc (bx k p c)).alloc o) w') :
    w'.cell? ⟨w.heap.size, 0, none⟩ = some (.int .i64 k) ∧ w'.cell? ⟨w.heap.size, 1, none⟩ = some (.int .i64 p) ∧ w'.cell? ⟨w.heap.size, 2, none⟩ = some (.int .i64 c) ∧ Kept (w.alloc (bx k p c)) w' :=
  keep3 (((Kept.start (hT.alloc _)).alloc _).next hb)

theorem kept_of {W w w' : World} {o : Obj} (h : Kept W w) (hK : Kept (w.alloc o) w') : Kept W w' := h.next (kept_out hK)

set_option maxHeartbeats 1000000 in
theorem rlogs_kept (k p c : Int) (W w : World) (hK : Kept W w) : Calls Tryd.prog 16 #[cf k p c] w fun e w' => e = .returned (.int .i64 (logs k p c)) ∧ Kept W w' := by
  have hK0 := hK.alloc (bx k p c)
  by_cases hf : fits k p c = true
  · have hv := fits_of hf
    have hh : RowKit.Hid (logs k p c = lg k p c) := Lib.hid (by unfold logs; rw [if_pos hf])
    have hm : RowKit.Hid (home k p c = hom k c) := Lib.hid (by unfold home; rw [if_pos hf])
    have hb := hom_bd (k := k) (c := c) (by omega) (by omega)
    have hK1 : Kept (w.alloc (bx k p c)) ((w.alloc (bx k p c)).alloc (bx k p c)).drew := ((Kept.start hK0.tab).alloc _).drew
    have e1 : IntKind.i64.wrap (2 * p) = 2 * p := IntWalk.i64_in _ (by omega)
    have e2 : IntKind.i64.wrap (hom k c + 2 * p) = hom k c + 2 * p := IntWalk.i64_in _ (by omega)
    have e3 : IntKind.i64.wrap (2 * (hom k c + 2 * p)) = 2 * (hom k c + 2 * p) := IntWalk.i64_in _ (by omega)
    have e4 : IntKind.i64.wrap (1 + 2 * (hom k c + 2 * p)) = 1 + 2 * (hom k c + 2 * p) := IntWalk.i64_in _ (by omega)
    go_enter Tryd.func16, Tryd.ntmps16
    go_wp2_with (go_at_call 10; with_reducible refine (rfits_any _ _ _ _).mono ?_; rintro e w' ⟨rfl, rfl⟩)
    go_region_held3 (fun w' => (w'.cell? ⟨w.heap.size, 0, none⟩ = some (.int .i64 k) ∧ w'.cell? ⟨w.heap.size, 1, none⟩ = some (.int .i64 p) ∧ w'.cell? ⟨w.heap.size, 2, none⟩ = some (.int .i64 c) ∧ Kept (w.alloc (bx k p c)) w'))
      (first | exact keep3 (by assumption) | go_keep)
      (first
      | (go_at_call 12; with_reducible refine (rhome_kept _ _ _ (w.alloc (bx k p c)) _ (by assumption)).mono ?_; rintro e w' ⟨rfl, hK2⟩; rw [hm.out]))
    all_goals go_wp2
    all_goals go_ret
    all_goals exact ⟨ret_int (by rw [hh.out]; rfl), kept_of hK (by assumption)⟩
  · have hf' : fits k p c = false := by simpa using hf
    have hh : RowKit.Hid (logs k p c = 0) := Lib.hid (by unfold logs; rw [if_neg hf])
    clear hf
    go_enter Tryd.func16, Tryd.ntmps16
    go_wp2_with (go_at_call 10; with_reducible refine (rfits_any _ _ _ _).mono ?_; rintro e w' ⟨rfl, rfl⟩)
    go_ret
    exact ⟨ret_int hh.out.symm, hK0.alloc _⟩

end Go.Proofs.YtbgeojahhbchlaaDoor
