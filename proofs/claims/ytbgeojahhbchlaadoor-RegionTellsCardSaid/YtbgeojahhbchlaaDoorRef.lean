/-
  What Size, Bound, size, owners, At and Where of the document's own answers return, in whatever world that holds the package's table, for integers; they leave memory as it was, but for new blocks and draws.
-/
import Derived.Test.YtbgeojahhbchlaaDoorSizes
namespace Go.Proofs.YtbgeojahhbchlaaDoor
open Go.RowKit (intOf Below)

set_option maxHeartbeats 1000000 in
theorem rbound_kept (k p c : Int) (W w : World) (hK : Kept W w) : Calls Tryd.prog 18 #[cf k p c] w fun e w' => e = .returned (.int .i64 (bound k p c)) ∧ Kept W w' := by
  have hK0 := hK.alloc (bx k p c)
  by_cases hf : fits k p c = true
  · have hv := fits_of hf
    have hh : RowKit.Hid (bound k p c = 10 * (6 * (hom k c + 2 * p) + 8) + 16) := Lib.hid (by unfold bound; rw [if_pos hf])
    have hm : RowKit.Hid (home k p c = hom k c) := Lib.hid (by unfold home; rw [if_pos hf])
    have hb := hom_bd (k := k) (c := c) (by omega) (by omega)
    have hK1 : Kept (w.alloc (bx k p c)) ((w.alloc (bx k p c)).alloc (bx k p c)).drew := ((Kept.start hK0.tab).alloc _).drew
    have e1 : IntKind.i64.wrap (2 * p) = 2 * p := IntWalk.i64_in _ (by omega)
    have e2 : IntKind.i64.wrap (hom k c + 2 * p) = hom k c + 2 * p := IntWalk.i64_in _ (by omega)
    have e3 : IntKind.i64.wrap (6 * (hom k c + 2 * p)) = 6 * (hom k c + 2 * p) := IntWalk.i64_in _ (by omega)
    have e4 : IntKind.i64.wrap (6 * (hom k c + 2 * p) + 8) = 6 * (hom k c + 2 * p) + 8 := IntWalk.i64_in _ (by omega)
    have e5 : IntKind.i64.wrap (10 * (6 * (hom k c + 2 * p) + 8)) = 10 * (6 * (hom k c + 2 * p) + 8) := IntWalk.i64_in _ (by omega)
    have e6 : IntKind.i64.wrap (10 * (6 * (hom k c + 2 * p) + 8) + 16) = 10 * (6 * (hom k c + 2 * p) + 8) + 16 := IntWalk.i64_in _ (by omega)
    go_enter Tryd.func18, Tryd.ntmps18
    go_wp2_with (go_at_call 10; with_reducible refine (rfits_any _ _ _ _).mono ?_; rintro e w' ⟨rfl, rfl⟩)
    go_region_held3 (fun w' => (w'.cell? ⟨w.heap.size, 0, none⟩ = some (.int .i64 k) ∧ w'.cell? ⟨w.heap.size, 1, none⟩ = some (.int .i64 p) ∧ w'.cell? ⟨w.heap.size, 2, none⟩ = some (.int .i64 c) ∧ Kept (w.alloc (bx k p c)) w'))
      (first | exact keep3 (by assumption) | go_keep)
      (first
      | (go_at_call 12; with_reducible refine (rhome_kept _ _ _ (w.alloc (bx k p c)) _ (by assumption)).mono ?_; rintro e w' ⟨rfl, hK2⟩; rw [hm.out]))
    all_goals go_wp2
    all_goals go_ret
    all_goals exact ⟨ret_int hh.out.symm, kept_of hK (by assumption)⟩
  · have hf' : fits k p c = false := by simpa using hf
    have hh : RowKit.Hid (bound k p c = 0) := Lib.hid (by unfold bound; rw [if_neg hf])
    clear hf
    go_enter Tryd.func18, Tryd.ntmps18
    go_wp2_with (go_at_call 10; with_reducible refine (rfits_any _ _ _ _).mono ?_; rintro e w' ⟨rfl, rfl⟩)
    go_ret
    exact ⟨ret_int hh.out.symm, hK0.alloc _⟩

set_option maxHeartbeats 1000000 in
theorem rsize_kept (k p c : Int) (W w : World) (hK : Kept W w) : Calls Tryd.prog 14 #[cf k p c] w fun e w' => e = .returned (.int .i64 (size k p c)) ∧ Kept W w' := by
  have hK0 := hK.alloc (bx k p c)
  by_cases hf : fits k p c = true
  · have hv := fits_of hf
    have hh : RowKit.Hid (size k p c = 1 + p * (5 + lg k p c) + hom k c) := Lib.hid (by unfold size; rw [if_pos hf])
    have hm : RowKit.Hid (home k p c = hom k c) := Lib.hid (by unfold home; rw [if_pos hf])
    have hl : RowKit.Hid (logs k p c = lg k p c) := Lib.hid (by unfold logs; rw [if_pos hf])
    have hb := hom_bd (k := k) (c := c) (by omega) (by omega)
    have hb2 := lg_bd hf
    have hb3 := mul_bd (p := p) (a := 5 + lg k p c) (m := 2122) (by omega) (by omega) (by omega) (by omega)
    have hK1 : Kept (w.alloc (bx k p c)) ((w.alloc (bx k p c)).alloc (bx k p c)).drew := ((Kept.start hK0.tab).alloc _).drew
    have e1 : IntKind.i64.wrap (5 + lg k p c) = 5 + lg k p c := IntWalk.i64_in _ (by omega)
    have e2 : IntKind.i64.wrap (p * (5 + lg k p c)) = p * (5 + lg k p c) := IntWalk.i64_in _ (by omega)
    have e3 : IntKind.i64.wrap (1 + p * (5 + lg k p c)) = 1 + p * (5 + lg k p c) := IntWalk.i64_in _ (by omega)
    have e4 : IntKind.i64.wrap (1 + p * (5 + lg k p c) + hom k c) = 1 + p * (5 + lg k p c) + hom k c := IntWalk.i64_in _ (by omega)
    go_enter Tryd.func14, Tryd.ntmps14
    go_wp2_with (go_at_call 10; with_reducible refine (rfits_any _ _ _ _).mono ?_; rintro e w' ⟨rfl, rfl⟩)
    go_region_held3 (fun w' => (w'.cell? ⟨w.heap.size, 0, none⟩ = some (.int .i64 k) ∧ w'.cell? ⟨w.heap.size, 1, none⟩ = some (.int .i64 p) ∧ w'.cell? ⟨w.heap.size, 2, none⟩ = some (.int .i64 c) ∧ Kept (w.alloc (bx k p c)) w'))
      (first | exact keep3 (by assumption) | go_keep)
      (first
      | (go_at_call 12; with_reducible refine (rhome_kept _ _ _ (w.alloc (bx k p c)) _ (by assumption)).mono ?_; rintro e w' ⟨rfl, hK2⟩; rw [hm.out])
      | (go_at_call 16; with_reducible refine (rlogs_kept _ _ _ (w.alloc (bx k p c)) _ (by assumption)).mono ?_; rintro e w' ⟨rfl, hK2⟩; rw [hl.out]))
    all_goals go_wp2
    all_goals go_ret
    all_goals exact ⟨ret_int hh.out.symm, kept_of hK (by assumption)⟩
  · have hf' : fits k p c = false := by simpa using hf
    have hh : RowKit.Hid (size k p c = 0) := Lib.hid (by unfold size; rw [if_neg hf])
    clear hf
    go_enter Tryd.func14, Tryd.ntmps14
    go_wp2_with (go_at_call 10; with_reducible refine (rfits_any _ _ _ _).mono ?_; rintro e w' ⟨rfl, rfl⟩)
    go_ret
    exact ⟨ret_int hh.out.symm, hK0.alloc _⟩

theorem rpart_kept (k p c z : Int) (W w : World) (hK : Kept W w) (hf : fits k p c = true) (z0 : 0 ≤ z) (z1 : z ≤ 4) : Calls Tryd.prog 30 #[cf k p c, .int .i64 z] w fun e w' => e = .returned (.int .i64 (each k p c z.toNat)) ∧ Kept W w' := by
  have hK0 := hK.alloc (bx k p c)
  have hm : RowKit.Hid (home k p c = hom k c) := Lib.hid (by unfold home; rw [if_pos hf])
  have hl : RowKit.Hid (logs k p c = lg k p c) := Lib.hid (by unfold logs; rw [if_pos hf])
  rcases (by omega : z = 0 ∨ z = 1 ∨ z = 2 ∨ z = 3 ∨ z = 4) with rfl | rfl | rfl | rfl | rfl
  all_goals go_enter Tryd.func30, Tryd.ntmps30
  all_goals go_wp2_with (first
    | (go_at_call 12; with_reducible refine (rhome_kept _ _ _ W _ hK0).mono ?_; rintro e w' ⟨rfl, hK2⟩)
    | (go_at_call 16; with_reducible refine (rlogs_kept _ _ _ W _ hK0).mono ?_; rintro e w' ⟨rfl, hK2⟩))
  all_goals go_ret
  all_goals first
    | exact ⟨rfl, hK0⟩
    | exact ⟨ret_int hl.out, hK2⟩
    | exact ⟨ret_int hm.out, hK2⟩

theorem rown_kept (k p c z : Int) (W w : World) (hK : Kept W w) (z0 : 0 ≤ z) (z1 : z ≤ 4) : Calls Tryd.prog 31 #[cf k p c, .int .i64 z] w fun e w' => e = .returned (.int .i64 (own p z.toNat)) ∧ Kept W w' := by
  have hK0 := hK.alloc (bx k p c)
  rcases (by omega : z = 0 ∨ z = 1 ∨ z = 2 ∨ z = 3 ∨ z = 4) with rfl | rfl | rfl | rfl | rfl
  all_goals go_enter Tryd.func31, Tryd.ntmps31
  all_goals go_wp2
  all_goals go_ret
  all_goals exact ⟨rfl, hK0⟩

end Go.Proofs.YtbgeojahhbchlaaDoor
