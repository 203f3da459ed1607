/-
  What Slot and Before return, and that the first calls of each statement come to true, in whatever world that holds the package's table, for words (integers from 0 to less than 2^64) and an int (the conditions).
-/
import Derived.Test.YtnmeakkehonnmaaDoorMixMain
namespace Go.Proofs.YtnmeakkehonnmaaDoor
open Go.RowKit (intOf Grown)

theorem Tab.gr {w w' : World} (h : Tab w) (g : Gr w w') : Tab w' := by
  obtain ⟨q, os, rfl⟩ := g
  have hs := (h.drewN q).size
  have e : ∀ i, (Sort.grow (w.drewN q) os).cell? ⟨0, i, none⟩ = (w.drewN q).cell? ⟨0, i, none⟩ := fun i => Sort.cell?_grow _ _ _ hs
  have h := h.drewN q
  exact ⟨(e _).trans h.c0, (e _).trans h.c1, (e _).trans h.c2, (e _).trans h.c3, (e _).trans h.c4, (e _).trans h.c5, (e _).trans h.c6, (e _).trans h.c7, (e _).trans h.c8⟩

def slot (x m : Int) : Int := if m < 1 then 0 else mixed x % m

theorem slot_bd (x m : Int) (h : 1 ≤ m) : 0 ≤ slot x m ∧ slot x m < m := by
  unfold slot
  rw [if_neg (by omega)]
  exact ⟨Int.emod_nonneg _ (by omega), Int.emod_lt_of_pos _ (by omega)⟩


set_option maxHeartbeats 1000000 in
theorem before_any (x y : Int) (w : World) (hT : Tab w) (h0 : 0 ≤ x) (h1 : x < 18446744073709551616) (g0 : 0 ≤ y) (g1 : y < 18446744073709551616) :
    Calls Tryd.prog 35 #[.int .u64 x, .int .u64 y] w fun e w' => e = .returned (.bool (decide (mixed y < mixed x))) ∧ Gr w w' := by
  have hT' : RowKit.Hid (Tab w) := Lib.hid hT
  clear hT
  go_enter Tryd.func35, Tryd.ntmps35
  go_wp2_with (first
    | (go_at_call 36; with_reducible refine (mix_any x _ hT'.out (by omega) (by omega)).mono ?_; rintro e w' ⟨rfl, hg1⟩; have hT1 := hT'.out.gr hg1)
    | (go_at_call 36; with_reducible refine (mix_any y _ hT1 (by omega) (by omega)).mono ?_; rintro e w' ⟨rfl, hg2⟩))
  go_ret
  exact ⟨rfl, hg1.trans hg2⟩

end Go.Proofs.YtnmeakkehonnmaaDoor
