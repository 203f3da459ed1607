/-
  What Home, LogSize and Bound of package region return, in whatever world that holds the package's table, for integers; they leave memory as it was, but for new blocks and draws.
-/
import Derived.Test.YtbgeojahhbchlaaDoorLeaf
import Derived.Deep.QuietTactic
import Derived.BigQuiet
import Derived.Deep.RegionHeld3
import Derived.IntWalk
namespace Go.Proofs.YtbgeojahhbchlaaDoor
open Go.RowKit (intOf Below)

/-- The world holds the package's table: of each object, words whatever it may hold, and words for each of its Cap. -/
structure Tab (w : World) : Prop where
  c0 : w.cell? ⟨0, 0, none⟩ = some (.int .i64 0)
  c1 : w.cell? ⟨0, 1, none⟩ = some (.int .i64 0)
  c2 : w.cell? ⟨0, 2, none⟩ = some (.int .i64 1)
  c3 : w.cell? ⟨0, 3, none⟩ = some (.int .i64 0)
  c4 : w.cell? ⟨0, 4, none⟩ = some (.int .i64 1)
  c5 : w.cell? ⟨0, 5, none⟩ = some (.int .i64 2)
  c6 : w.cell? ⟨0, 6, none⟩ = some (.int .i64 1)
  c7 : w.cell? ⟨0, 7, none⟩ = some (.int .i64 4)
  c8 : w.cell? ⟨0, 8, none⟩ = some (.int .i64 2)
  c9 : w.cell? ⟨0, 9, none⟩ = some (.int .i64 4)
  c10 : w.cell? ⟨0, 10, none⟩ = some (.int .i64 9)
  c11 : w.cell? ⟨0, 11, none⟩ = some (.int .i64 1)

theorem Tab.size {w : World} (h : Tab w) : 0 < w.heap.size := World.block_lt_of_cell? w _ h.c0

theorem Tab.below {w w' : World} (h : Tab w) (hb : Below w.heap.size w w') : Tab w' := by
  have hs := h.size
  have e : ∀ i, w'.cell? ⟨0, i, none⟩ = w.cell? ⟨0, i, none⟩ := fun i => hb.cell (p := ⟨0, i, none⟩) hs
  exact ⟨(e _).trans h.c0, (e _).trans h.c1, (e _).trans h.c2, (e _).trans h.c3, (e _).trans h.c4, (e _).trans h.c5, (e _).trans h.c6, (e _).trans h.c7, (e _).trans h.c8, (e _).trans h.c9, (e _).trans h.c10, (e _).trans h.c11⟩

theorem Tab.alloc {w : World} (h : Tab w) (o : Obj) : Tab (w.alloc o) := h.below ((Below.refl _ w).alloc (Nat.le_refl _) o)
theorem Tab.drew {w : World} (h : Tab w) : Tab w.drew := h.below (Below.refl _ w).drew

/-- A block more. -/
theorem bel1 (w : World) (o : Obj) : Below w.heap.size w (w.alloc o) := (Below.refl _ w).alloc (Nat.le_refl _) o
theorem bel2 (w : World) (o o' : Obj) : Below w.heap.size w ((w.alloc o).alloc o') := (bel1 w o).alloc (by simp) o'
theorem bel3 (w : World) (o o' o'' : Obj) : Below w.heap.size w (((w.alloc o).alloc o').alloc o'') := (bel2 w o o').alloc (by simp; omega) o''
/-- What is laid behind a box leaves what was ahead of it. -/
theorem bel_of {w w' : World} {o : Obj} (h : Below (w.alloc o).heap.size (w.alloc o) w') : Below w.heap.size w w' := (bel1 w o).trans (h.mono (by simp))
theorem bel_of2 {w w' : World} {o o' : Obj} (h : Below ((w.alloc o).alloc o').heap.size ((w.alloc o).alloc o') w') : Below w.heap.size w w' := bel_of (bel_of h)

set_option maxHeartbeats 1000000 in
theorem home_any (k p c : Int) (w : World) (hT : Tab w) : Calls Tryd.prog 11 #[cf k p c] w fun e w' => e = .returned (.int .i64 (home k p c)) ∧ Below w.heap.size w w' := by
  by_cases hf : fits k p c = true
  · have hv := fits_of hf
    have hh : RowKit.Hid (home k p c = hom k c) := Lib.hid (by unfold home; rw [if_pos hf])
    have hs := hT.size
    obtain ⟨c0, c1, c2, c3, c4, c5, c6, c7, c8, c9, c10, c11⟩ := hT
    rcases (by omega : k = 1 ∨ k = 2 ∨ k = 3 ∨ k = 4 ∨ k = 5) with rfl | rfl | rfl | rfl | rfl
    all_goals go_enter Tryd.func11, Tryd.ntmps11
    all_goals go_wp2_with (go_at_call 9; with_reducible refine (fits_any _ _ _ _).mono ?_; rintro e w' ⟨rfl, rfl⟩)
    all_goals go_ret
    all_goals exact ⟨ret_int (by rw [hh.out]; simp [hom] <;> omega), bel3 _ _ _ _⟩
  · have hf' : fits k p c = false := by simpa using hf
    have hh : RowKit.Hid (home k p c = 0) := Lib.hid (by unfold home; rw [if_neg hf])
    clear hf
    go_enter Tryd.func11, Tryd.ntmps11
    go_wp2_with (go_at_call 9; with_reducible refine (fits_any _ _ _ _).mono ?_; rintro e w' ⟨rfl, rfl⟩)
    go_ret
    exact ⟨ret_int hh.out.symm, bel2 _ _ _⟩

/-- The world w holds the table, and is W but for new blocks and draws. -/
structure Kept (W w : World) : Prop where
  tab : Tab w
  below : Below W.heap.size W w

theorem Kept.start {W : World} (h : Tab W) : Kept W W := ⟨h, Below.refl _ _⟩
theorem Kept.next {W w w' : World} (h : Kept W w) (hb : Below w.heap.size w w') : Kept W w' := ⟨h.tab.below hb, h.below.trans (hb.mono h.below.size)⟩
theorem Kept.alloc {W w : World} (h : Kept W w) (o : Obj) : Kept W (w.alloc o) := h.next (bel1 w o)
theorem Kept.drew {W w : World} (h : Kept W w) : Kept W w.drew := h.next (Below.refl _ w).drew

theorem home_kept (k p c : Int) (W w : World) (hK : Kept W w) : Calls Tryd.prog 11 #[cf k p c] w fun e w' => e = .returned (.int .i64 (home k p c)) ∧ Kept W w' :=
  (home_any k p c w hK.tab).mono fun _ _ h => ⟨h.1, hK.next h.2⟩
theorem fits_kept (k p c : Int) (W w : World) (hK : Kept W w) : Calls Tryd.prog 9 #[cf k p c] w fun e w' => e = .returned (.bool (fits k p c)) ∧ Kept W w' :=
  (fits_any k p c w).mono fun _ _ h => ⟨h.1, by rw [h.2]; exact hK.alloc _⟩
theorem rfits_kept (k p c : Int) (W w : World) (hK : Kept W w) : Calls Tryd.prog 10 #[cf k p c] w fun e w' => e = .returned (.bool (fits k p c)) ∧ Kept W w' :=
  (rfits_any k p c w).mono fun _ _ h => ⟨h.1, by rw [h.2]; exact hK.alloc _⟩

/-- A box of a configuration, in whatever world behind. -/
def Box (w : World) (b : Nat) (k p c : Int) : Prop :=
  w.cell? ⟨b, 0, none⟩ = some (.int .i64 k) ∧ w.cell? ⟨b, 1, none⟩ = some (.int .i64 p) ∧ w.cell? ⟨b, 2, none⟩ = some (.int .i64 c)
theorem box_new (w : World) (k p c : Int) : Box (w.alloc (bx k p c)) w.heap.size k p c := by unfold Box; simp [go_sem]
theorem Box.lt {w : World} {b : Nat} {k p c : Int} (h : Box w b k p c) : b < w.heap.size := World.block_lt_of_cell? w _ h.1
theorem Box.kept {W w : World} {b : Nat} {k p c : Int} (h : Box W b k p c) (hK : Kept W w) : Box w b k p c :=
  ⟨(hK.below.cell (p := ⟨b, 0, none⟩) h.lt).trans h.1, (hK.below.cell (p := ⟨b, 1, none⟩) h.lt).trans h.2.1, (hK.below.cell (p := ⟨b, 2, none⟩) h.lt).trans h.2.2⟩

/-- What a drawn region of a function with one box holds on to. -/
theorem keep3 {w w' : World} {k p c : Int} (hK : Kept (w.alloc (bx k p c)) w') :
    w'.cell? ⟨w.heap.size, 0, none⟩ = some (.int .i64 k) ∧ w'.cell? ⟨w.heap.size, 1, none⟩ = some (.int .i64 p) ∧ w'.cell? ⟨w.heap.size, 2, none⟩ = some (.int .i64 c) ∧ Kept (w.alloc (bx k p c)) w' := by
  have h := (box_new w k p c).kept hK
  exact ⟨h.1, h.2.1, h.2.2, hK⟩

theorem kept_out {w w' : World} {o : Obj} (hK : Kept (w.alloc o) w') : Below w.heap.size w w' := bel_of hK.below

set_option maxHeartbeats 1000000 in
theorem most_any (k p c : Int) (w : World) (hT : Tab w) (hf : fits k p c = true) : Calls Tryd.prog 28 #[cf k p c] w fun e w' => e = .returned (.int .i64 (hom k c + 2 * p)) ∧ Below w.heap.size w w' := by
  have hv := fits_of hf
  have hh : RowKit.Hid (home k p c = hom k c) := Lib.hid (by unfold home; rw [if_pos hf])
  have hb := hom_bd (k := k) (c := c) (by omega) (by omega)
  have hK : Kept (w.alloc (bx k p c)) (w.alloc (bx k p c)).drew := (Kept.start (hT.alloc _)).drew
  have hw : IntKind.i64.wrap (2 * p) = 2 * p := IntWalk.i64_in _ (by omega)
  have hw2 : IntKind.i64.wrap (hom k c + 2 * p) = hom k c + 2 * p := IntWalk.i64_in _ (by omega)
  go_enter Tryd.func28, Tryd.ntmps28
  go_wp2_with (fail)
  go_region_held3 (fun w' => (w'.cell? ⟨w.heap.size, 0, none⟩ = some (.int .i64 k) ∧ w'.cell? ⟨w.heap.size, 1, none⟩ = some (.int .i64 p) ∧ w'.cell? ⟨w.heap.size, 2, none⟩ = some (.int .i64 c) ∧ Kept (w.alloc (bx k p c)) w'))
    (first | exact keep3 (by assumption) | go_keep)
    (first
    | (go_at_call 11; with_reducible refine (home_kept _ _ _ (w.alloc (bx k p c)) _ (by assumption)).mono ?_; rintro e w' ⟨rfl, hK1⟩; rw [hh.out]))
  all_goals go_wp2
  all_goals go_ret
  all_goals exact ⟨rfl, kept_out (by assumption)⟩

end Go.Proofs.YtbgeojahhbchlaaDoor
