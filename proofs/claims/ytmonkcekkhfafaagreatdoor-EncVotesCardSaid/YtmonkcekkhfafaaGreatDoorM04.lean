/-
  Parts of a proof, one behind the other: RegNum, RegLeaf, RegHome, RegSizes. Each says its own conditions.
-/
import Derived.Test.YtmonkcekkhfafaaGreatDoorChecked
import Derived.WalkKit
import Derived.WalkLawsBesides
import Derived.Lib.Hide
import Derived.Below
import Derived.Deep.QuietTactic
import Derived.BigQuiet
import Derived.Deep.RegionHeld3
import Derived.IntWalk

/- RegNum:
  Which configurations fit, how many words and cells there are, and where what stands, as plain functions of integers. No condition but those that each fact names.
-/
namespace Go.Proofs.YtmonkcekkhfafaaGreatDoor.Reg

def isIn (a lo hi : Int) : Bool := decide (lo ≤ a ∧ a ≤ hi)
def fits (k p c : Int) : Bool := decide (1 ≤ k ∧ k ≤ 5 ∧ 1 ≤ p ∧ p ≤ 16 ∧ 1 ≤ c ∧ c ≤ 256)
/-- Words at home, of what fits. -/
def hom (k c : Int) : Int := if k = 1 then 1 else if k = 2 then 1 + 2 * c else if k = 3 then 1 + 4 * c else if k = 4 then 2 + 4 * c else 9 + c
/-- Cells of a log, of what fits. -/
def lg (k p c : Int) : Int := 1 + 2 * (hom k c + 2 * p)
def home (k p c : Int) : Int := if fits k p c = true then hom k c else 0
def logs (k p c : Int) : Int := if fits k p c = true then lg k p c else 0
def size (k p c : Int) : Int := if fits k p c = true then 1 + p * (5 + lg k p c) + hom k c else 0
def bound (k p c : Int) : Int := if fits k p c = true then 10 * (6 * (hom k c + 2 * p) + 8) + 16 else 0
def pick (c n : Int) : Int := (if c < 0 then -(c + 1) else c) % n

theorem fits_of {k p c : Int} (h : fits k p c = true) : 1 ≤ k ∧ k ≤ 5 ∧ 1 ≤ p ∧ p ≤ 16 ∧ 1 ≤ c ∧ c ≤ 256 := by
  unfold fits at h; exact of_decide_eq_true h
theorem fits_mk {k p c : Int} (h : 1 ≤ k ∧ k ≤ 5 ∧ 1 ≤ p ∧ p ≤ 16 ∧ 1 ≤ c ∧ c ≤ 256) : fits k p c = true := by
  unfold fits; exact decide_eq_true h
theorem fits_no {k p c : Int} (h : ¬ (1 ≤ k ∧ k ≤ 5 ∧ 1 ≤ p ∧ p ≤ 16 ∧ 1 ≤ c ∧ c ≤ 256)) : fits k p c = false := by
  unfold fits; exact decide_eq_false h
theorem isIn_mk {a lo hi : Int} (h : lo ≤ a ∧ a ≤ hi) : isIn a lo hi = true := by unfold isIn; exact decide_eq_true h
theorem isIn_no {a lo hi : Int} (h : ¬ (lo ≤ a ∧ a ≤ hi)) : isIn a lo hi = false := by unfold isIn; exact decide_eq_false h
/-- How many have such a part each; how many cells each has; where the part begins. -/
def own (p : Int) (i : Nat) : Int := if i = 0 ∨ i = 4 then 1 else p
def each (k p c : Int) : Nat → Int
  | 0 => 1
  | 1 => 3
  | 2 => 2
  | 3 => lg k p c
  | _ => hom k c
def frm (k p c : Int) : Nat → Int
  | 0 => 0
  | 1 => 1
  | 2 => 1 + p * 3
  | 3 => 1 + p * 3 + p * 2
  | 4 => 1 + p * 3 + p * 2 + p * lg k p c
  | _ => 1 + p * 3 + p * 2 + p * lg k p c + hom k c

/-- Where a part of a process begins, and with which error. -/
def atV (k p c part q : Int) : Int := if fits k p c = true ∧ (0 ≤ part ∧ part ≤ 4) ∧ 0 ≤ q ∧ q ≤ p - 1 then frm k p c part.toNat + (if part = 0 ∨ part = 4 then 0 else q * each k p c part.toNat) else 0
def atE (k p c part q : Int) : Int := if fits k p c = true then (if (0 ≤ part ∧ part ≤ 4) ∧ 0 ≤ q ∧ q ≤ p - 1 then 0 else 1) else 5

/-- Place x is in part i. -/
def inPart (k p c x : Int) (i : Nat) : Prop := frm k p c i ≤ x ∧ x < frm k p c i + own p i * each k p c i
def wPart (k p c x : Int) : Nat := if x < frm k p c 1 then 0 else if x < frm k p c 2 then 1 else if x < frm k p c 3 then 2 else if x < frm k p c 4 then 3 else 4
/-- Whether there is such a place. -/
def isPlace (k p c x : Int) : Bool := decide (fits k p c = true ∧ 0 ≤ x ∧ x < size k p c)
def whA (k p c x : Int) : Int := if isPlace k p c x = true then wPart k p c x else 5
def whB (k p c x : Int) : Int := if isPlace k p c x = true then (x - frm k p c (wPart k p c x)) / each k p c (wPart k p c x) else 0
def whC (k p c x : Int) : Int := if isPlace k p c x = true then (x - frm k p c (wPart k p c x)) % each k p c (wPart k p c x) else 0

end Go.Proofs.YtmonkcekkhfafaaGreatDoor.Reg

/- RegLeaf:
  The small functions of package region and of the document's own answers: what within, Fits, cells and begin return in whatever world, for integers. Each leaves memory as it was, but for a box of its own.
-/
namespace Go.Proofs.YtmonkcekkhfafaaGreatDoor.Reg
open Go.RowKit (intOf Below)

theorem ret_int {k : IntKind} {a b : Int} (h : a = b) : Ending.returned (.int k a) = .returned (.int k b) := by rw [h]
theorem within_yes (a lo hi : Int) (w : World) (h0 : lo ≤ a) (h1 : a ≤ hi) : Calls Tryz.prog 72 #[.int .i64 a, .int .i64 lo, .int .i64 hi] w fun e w' => e = .returned (.bool true) ∧ w = w' := by
  go_enter Tryz.func72, Tryz.ntmps72
  go_wp2
  go_ret
  exact ⟨rfl, rfl⟩
theorem within_no (a lo hi : Int) (w : World) (h : ¬ (lo ≤ a ∧ a ≤ hi)) : Calls Tryz.prog 72 #[.int .i64 a, .int .i64 lo, .int .i64 hi] w fun e w' => e = .returned (.bool false) ∧ w = w' := by
  by_cases h0 : lo ≤ a
  · have h1 : ¬ a ≤ hi := fun x => h ⟨h0, x⟩
    clear h
    go_enter Tryz.func72, Tryz.ntmps72
    go_wp2
    go_ret
    exact ⟨rfl, rfl⟩
  · clear h
    go_enter Tryz.func72, Tryz.ntmps72
    go_wp2
    go_ret
    exact ⟨rfl, rfl⟩
theorem within_any (a lo hi : Int) (w : World) : Calls Tryz.prog 72 #[.int .i64 a, .int .i64 lo, .int .i64 hi] w fun e w' => e = .returned (.bool (isIn a lo hi)) ∧ w = w' := by
  by_cases h : lo ≤ a ∧ a ≤ hi
  · rw [isIn_mk h]; exact within_yes a lo hi w h.1 h.2
  · rw [isIn_no h]; exact within_no a lo hi w h

theorem in_any (a lo hi : Int) (w : World) : Calls Tryz.prog 64 #[.int .i64 a, .int .i64 lo, .int .i64 hi] w fun e w' => e = .returned (.bool (isIn a lo hi)) ∧ w = w' := by
  by_cases h0 : lo ≤ a
  · by_cases h1 : a ≤ hi
    · rw [isIn_mk ⟨h0, h1⟩]
      go_enter Tryz.func64, Tryz.ntmps64
      go_wp2
      go_ret
      exact ⟨rfl, rfl⟩
    · rw [isIn_no (fun x => h1 x.2)]
      go_enter Tryz.func64, Tryz.ntmps64
      go_wp2
      go_ret
      exact ⟨rfl, rfl⟩
  · rw [isIn_no (fun x => h0 x.1)]
    go_enter Tryz.func64, Tryz.ntmps64
    go_wp2
    go_ret
    exact ⟨rfl, rfl⟩

/-- A configuration's value, and a stretch's. -/
abbrev cf (k p c : Int) : Value := .agg #[.int .i64 k, .int .i64 p, .int .i64 c]
abbrev bx (k p c : Int) : Obj := .cells #[.int .i64 k, .int .i64 p, .int .i64 c] 24

theorem fits_any (k p c : Int) (w : World) : Calls Tryz.prog 35 #[cf k p c] w fun e w' => e = .returned (.bool (fits k p c)) ∧ w' = w.alloc (bx k p c) := by
  by_cases h : 1 ≤ k ∧ k ≤ 5
  · have i1 := isIn_mk h
    by_cases h' : 1 ≤ p ∧ p ≤ 16
    · have i2 := isIn_mk h'
      by_cases h'' : 1 ≤ c ∧ c ≤ 256
      · have i3 := isIn_mk h''
        rw [fits_mk (by omega)]
        go_enter Tryz.func35, Tryz.ntmps35
        go_wp2_with (go_at_call 72; with_reducible refine (within_any _ _ _ _).mono ?_; rintro e w' ⟨rfl, rfl⟩)
        go_ret
        exact ⟨rfl, rfl⟩
      · have i3 := isIn_no h''
        rw [fits_no (by omega)]
        go_enter Tryz.func35, Tryz.ntmps35
        go_wp2_with (go_at_call 72; with_reducible refine (within_any _ _ _ _).mono ?_; rintro e w' ⟨rfl, rfl⟩)
        go_ret
        exact ⟨rfl, rfl⟩
    · have i2 := isIn_no h'
      rw [fits_no (by omega)]
      go_enter Tryz.func35, Tryz.ntmps35
      go_wp2_with (go_at_call 72; with_reducible refine (within_any _ _ _ _).mono ?_; rintro e w' ⟨rfl, rfl⟩)
      go_ret
      exact ⟨rfl, rfl⟩
  · have i1 := isIn_no h
    rw [fits_no (by omega)]
    go_enter Tryz.func35, Tryz.ntmps35
    go_wp2_with (go_at_call 72; with_reducible refine (within_any _ _ _ _).mono ?_; rintro e w' ⟨rfl, rfl⟩)
    go_ret
    exact ⟨rfl, rfl⟩

theorem rfits_any (k p c : Int) (w : World) : Calls Tryz.prog 30 #[cf k p c] w fun e w' => e = .returned (.bool (fits k p c)) ∧ w' = w.alloc (bx k p c) := by
  by_cases h : 1 ≤ k ∧ k ≤ 5
  · have i1 := isIn_mk h
    by_cases h' : 1 ≤ p ∧ p ≤ 16
    · have i2 := isIn_mk h'
      by_cases h'' : 1 ≤ c ∧ c ≤ 256
      · have i3 := isIn_mk h''
        rw [fits_mk (by omega)]
        go_enter Tryz.func30, Tryz.ntmps30
        go_wp2_with (go_at_call 64; with_reducible refine (in_any _ _ _ _).mono ?_; rintro e w' ⟨rfl, rfl⟩)
        go_ret
        exact ⟨rfl, rfl⟩
      · have i3 := isIn_no h''
        rw [fits_no (by omega)]
        go_enter Tryz.func30, Tryz.ntmps30
        go_wp2_with (go_at_call 64; with_reducible refine (in_any _ _ _ _).mono ?_; rintro e w' ⟨rfl, rfl⟩)
        go_ret
        exact ⟨rfl, rfl⟩
    · have i2 := isIn_no h'
      rw [fits_no (by omega)]
      go_enter Tryz.func30, Tryz.ntmps30
      go_wp2_with (go_at_call 64; with_reducible refine (in_any _ _ _ _).mono ?_; rintro e w' ⟨rfl, rfl⟩)
      go_ret
      exact ⟨rfl, rfl⟩
  · have i1 := isIn_no h
    rw [fits_no (by omega)]
    go_enter Tryz.func30, Tryz.ntmps30
    go_wp2_with (go_at_call 64; with_reducible refine (in_any _ _ _ _).mono ?_; rintro e w' ⟨rfl, rfl⟩)
    go_ret
    exact ⟨rfl, rfl⟩


abbrev sv (f o e : Int) : Value := .agg #[.int .i64 f, .int .i64 o, .int .i64 e]




end Go.Proofs.YtmonkcekkhfafaaGreatDoor.Reg

/- RegHome:
  What Home, LogSize and Bound of package region return, in whatever world that holds the package's table, for integers; they leave memory as it was, but for new blocks and draws.
-/
namespace Go.Proofs.YtmonkcekkhfafaaGreatDoor.Reg
open Go.RowKit (intOf Below)

/-- The world holds the package's table: of each object, words whatever it may hold, and words for each of its Cap. -/
structure Tab (w : World) : Prop where
  c0 : w.cell? ⟨0, 0, none⟩ = some (.int .i64 0)
  c1 : w.cell? ⟨0, 1, none⟩ = some (.int .i64 0)
  c2 : w.cell? ⟨0, 2, none⟩ = some (.int .i64 1)
  c3 : w.cell? ⟨0, 3, none⟩ = some (.int .i64 0)
  c4 : w.cell? ⟨0, 4, none⟩ = some (.int .i64 1)
  c5 : w.cell? ⟨0, 5, none⟩ = some (.int .i64 2)
  c6 : w.cell? ⟨0, 6, none⟩ = some (.int .i64 1)
  c7 : w.cell? ⟨0, 7, none⟩ = some (.int .i64 4)
  c8 : w.cell? ⟨0, 8, none⟩ = some (.int .i64 2)
  c9 : w.cell? ⟨0, 9, none⟩ = some (.int .i64 4)
  c10 : w.cell? ⟨0, 10, none⟩ = some (.int .i64 9)
  c11 : w.cell? ⟨0, 11, none⟩ = some (.int .i64 1)

theorem Tab.size {w : World} (h : Tab w) : 0 < w.heap.size := World.block_lt_of_cell? w _ h.c0

theorem Tab.below {w w' : World} (h : Tab w) (hb : Below w.heap.size w w') : Tab w' := by
  have hs := h.size
  have e : ∀ i, w'.cell? ⟨0, i, none⟩ = w.cell? ⟨0, i, none⟩ := fun i => hb.cell (p := ⟨0, i, none⟩) hs
  exact ⟨(e _).trans h.c0, (e _).trans h.c1, (e _).trans h.c2, (e _).trans h.c3, (e _).trans h.c4, (e _).trans h.c5, (e _).trans h.c6, (e _).trans h.c7, (e _).trans h.c8, (e _).trans h.c9, (e _).trans h.c10, (e _).trans h.c11⟩

theorem Tab.alloc {w : World} (h : Tab w) (o : Obj) : Tab (w.alloc o) := h.below ((Below.refl _ w).alloc (Nat.le_refl _) o)
/-- A block more. -/
theorem bel1 (w : World) (o : Obj) : Below w.heap.size w (w.alloc o) := (Below.refl _ w).alloc (Nat.le_refl _) o
theorem bel2 (w : World) (o o' : Obj) : Below w.heap.size w ((w.alloc o).alloc o') := (bel1 w o).alloc (by simp) o'
theorem bel3 (w : World) (o o' o'' : Obj) : Below w.heap.size w (((w.alloc o).alloc o').alloc o'') := (bel2 w o o').alloc (by simp; omega) o''
set_option maxHeartbeats 1000000 in
theorem home_any (k p c : Int) (w : World) (hT : Tab w) : Calls Tryz.prog 37 #[cf k p c] w fun e w' => e = .returned (.int .i64 (home k p c)) ∧ Below w.heap.size w w' := by
  by_cases hf : fits k p c = true
  · have hv := fits_of hf
    have hh : RowKit.Hid (home k p c = hom k c) := Lib.hid (by unfold home; rw [if_pos hf])
    have hs := hT.size
    obtain ⟨c0, c1, c2, c3, c4, c5, c6, c7, c8, c9, c10, c11⟩ := hT
    rcases (by omega : k = 1 ∨ k = 2 ∨ k = 3 ∨ k = 4 ∨ k = 5) with rfl | rfl | rfl | rfl | rfl
    all_goals go_enter Tryz.func37, Tryz.ntmps37
    all_goals go_wp2_with (go_at_call 35; with_reducible refine (fits_any _ _ _ _).mono ?_; rintro e w' ⟨rfl, rfl⟩)
    all_goals go_ret
    all_goals exact ⟨ret_int (by rw [hh.out]; simp [hom] <;> omega), bel3 _ _ _ _⟩
  · have hf' : fits k p c = false := by simpa using hf
    have hh : RowKit.Hid (home k p c = 0) := Lib.hid (by unfold home; rw [if_neg hf])
    clear hf
    go_enter Tryz.func37, Tryz.ntmps37
    go_wp2_with (go_at_call 35; with_reducible refine (fits_any _ _ _ _).mono ?_; rintro e w' ⟨rfl, rfl⟩)
    go_ret
    exact ⟨ret_int hh.out.symm, bel2 _ _ _⟩

/-- The world w holds the table, and is W but for new blocks and draws. -/
structure Kept (W w : World) : Prop where
  tab : Tab w
  below : Below W.heap.size W w

theorem Kept.start {W : World} (h : Tab W) : Kept W W := ⟨h, Below.refl _ _⟩
theorem Kept.next {W w w' : World} (h : Kept W w) (hb : Below w.heap.size w w') : Kept W w' := ⟨h.tab.below hb, h.below.trans (hb.mono h.below.size)⟩
theorem Kept.alloc {W w : World} (h : Kept W w) (o : Obj) : Kept W (w.alloc o) := h.next (bel1 w o)
/-- A box of a configuration, in whatever world behind. -/
def Box (w : World) (b : Nat) (k p c : Int) : Prop :=
  w.cell? ⟨b, 0, none⟩ = some (.int .i64 k) ∧ w.cell? ⟨b, 1, none⟩ = some (.int .i64 p) ∧ w.cell? ⟨b, 2, none⟩ = some (.int .i64 c)
theorem Box.lt {w : World} {b : Nat} {k p c : Int} (h : Box w b k p c) : b < w.heap.size := World.block_lt_of_cell? w _ h.1
theorem Box.kept {W w : World} {b : Nat} {k p c : Int} (h : Box W b k p c) (hK : Kept W w) : Box w b k p c :=
  ⟨(hK.below.cell (p := ⟨b, 0, none⟩) h.lt).trans h.1, (hK.below.cell (p := ⟨b, 1, none⟩) h.lt).trans h.2.1, (hK.below.cell (p := ⟨b, 2, none⟩) h.lt).trans h.2.2⟩

end Go.Proofs.YtmonkcekkhfafaaGreatDoor.Reg

/- RegSizes:
  What LogSize and Bound of package region, and Home, LogSize, Size, Bound, size and owners of the document's own answers return, in whatever world that holds the package's table, for integers; they leave memory as it was, but for new blocks and draws.
-/
namespace Go.Proofs.YtmonkcekkhfafaaGreatDoor.Reg
open Go.RowKit (intOf Below)




set_option maxHeartbeats 1000000 in
theorem rhome_kept (k p c : Int) (W w : World) (hK : Kept W w) : Calls Tryz.prog 19 #[cf k p c] w fun e w' => e = .returned (.int .i64 (home k p c)) ∧ Kept W w' := by
  have hK0 := hK.alloc (bx k p c)
  by_cases hf : fits k p c = true
  · have hv := fits_of hf
    have hh : RowKit.Hid (home k p c = hom k c) := Lib.hid (by unfold home; rw [if_pos hf])
    rcases (by omega : k = 1 ∨ k = 2 ∨ k = 3 ∨ k = 4 ∨ k = 5) with rfl | rfl | rfl | rfl | rfl
    all_goals go_enter Tryz.func19, Tryz.ntmps19
    all_goals go_wp2_with (go_at_call 30; with_reducible refine (rfits_any _ _ _ _).mono ?_; rintro e w' ⟨rfl, rfl⟩)
    all_goals go_ret
    all_goals exact ⟨ret_int (by rw [hh.out]; simp [hom] <;> omega), hK0.alloc _⟩
  · have hf' : fits k p c = false := by simpa using hf
    have hh : RowKit.Hid (home k p c = 0) := Lib.hid (by unfold home; rw [if_neg hf])
    clear hf
    go_enter Tryz.func19, Tryz.ntmps19
    go_wp2_with (go_at_call 30; with_reducible refine (rfits_any _ _ _ _).mono ?_; rintro e w' ⟨rfl, rfl⟩)
    go_ret
    exact ⟨ret_int hh.out.symm, hK0.alloc _⟩

end Go.Proofs.YtmonkcekkhfafaaGreatDoor.Reg

