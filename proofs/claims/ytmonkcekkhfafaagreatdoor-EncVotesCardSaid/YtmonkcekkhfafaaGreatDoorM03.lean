/-
  Parts of a proof, one behind the other: FltRefAdd. Each says its own conditions.
-/
import Derived.Test.YtmonkcekkhfafaaGreatDoorM02

/- FltRefAdd:
  The document's own Sum returns Canon of the model's sum, in whatever world, for two words from 0 to less than 2^64 (the one condition): the walk over its text.
-/
namespace Go.Proofs.YtmonkcekkhfafaaGreatDoor
open Go.RowKit

set_option maxRecDepth 20000 in
set_option maxHeartbeats 4000000 in
theorem rsum_any (a b : Int) (w : World) (a0 : 0 ≤ a) (a1 : a < 18446744073709551616) (b0 : 0 ≤ b) (b1 : b < 18446744073709551616) :
    Calls Tryz.prog 99 #[.int .u64 a, .int .u64 b] w fun e w' => e = .returned (.int .u64 (sumOf a b)) ∧ w = w' := by
  have x0 := canon_lo a a0
  have x1 := canon_hi a a1
  have y0 := canon_lo b b0
  have y1 := canon_hi b b1
  have xc : canon (canon a) = canon a := canon_canon a
  have yc : canon (canon b) = canon b := canon_canon b
  have sc : sumOf a b = sumOf (canon a) (canon b) := (sumOf_canon a b a0 a1 b0 b1).symm
  obtain ⟨x, hx⟩ : ∃ x, canon a = x := ⟨_, rfl⟩
  obtain ⟨y, hy⟩ : ∃ y, canon b = y := ⟨_, rfl⟩
  rw [hx] at x0 x1 xc sc
  rw [hy] at y0 y1 yc sc
  have XC := Lib.hid xc
  have YC := Lib.hid yc
  have SC := Lib.hid sc
  clear xc yc sc
  rcases k3 : (kind x == 3) with _ | _
  · rcases j3 : (kind y == 3) with _ | _
    · rcases k2 : (kind x == 2) with _ | _
      · rcases j2 : (kind y == 2) with _ | _
        · have xf := finite_of_kind x x0 x1 (by simpa using k3) (by simpa using k2)
          have yf := finite_of_kind y y0 y1 (by simpa using j3) (by simpa using j2)
          by_cases ls : x % 9223372036854775808 < y % 9223372036854775808
          · have hl : x % 9223372036854775808 ≤ y % 9223372036854775808 := by omega
            obtain ⟨S1, S2⟩ := sum_by_size y x y0 y1 yf x0 x1 xf hl
            have ka := kept_add (y % 9223372036854775808).toNat (x % 9223372036854775808).toNat (by omega)
            have kb := kept_sub (y % 9223372036854775808).toNat (x % 9223372036854775808).toNat (by omega)
            have we := wholeE_nat y
            have wm := wholeM_nat y
            have ve := wholeE_nat x
            have vm := wholeM_nat x
            have p1 := eN_pos (x % 9223372036854775808).toNat
            have p2 := eN_mono (by omega : (x % 9223372036854775808).toNat ≤ (y % 9223372036854775808).toNat)
            have p3 := eN_le (y % 9223372036854775808).toNat (by omega)
            have p4 := mN_lt (y % 9223372036854775808).toNat
            have p5 := mN_lt (x % 9223372036854775808).toNat
            have sh : shiftI (wholeM x) (wholeE y - wholeE x) = ((jam (mN (x % 9223372036854775808).toNat) (eN (y % 9223372036854775808).toNat - eN (x % 9223372036854775808).toNat) : Nat) : Int) := by
              unfold shiftI; rw [we, ve, vm, Int.toNat_natCast]
              rw [show (((eN (y % 9223372036854775808).toNat : Nat) : Int) - ((eN (x % 9223372036854775808).toNat : Nat) : Int)).toNat = eN (y % 9223372036854775808).toNat - eN (x % 9223372036854775808).toNat from by omega]
            have e0 : 1 ≤ wholeE y := by omega
            have e1 : wholeE y ≤ 2046 := by omega
            have f0 : 1 ≤ wholeE x := by omega
            have f1 : wholeE x ≤ wholeE y := by omega
            have n0 : 0 ≤ wholeM y := by omega
            have n1 : wholeM y < 72057594037927936 := by omega
            have n2 : 0 ≤ wholeM x := by omega
            have n3 : wholeM x < 72057594037927936 := by omega
            have j0 : 0 ≤ shiftI (wholeM x) (wholeE y - wholeE x) := by omega
            have j1 : shiftI (wholeM x) (wholeE y - wholeE x) ≤ wholeM y + 72057594037927936 := by omega
            have sg0 : 0 ≤ y / 9223372036854775808 := by omega
            have sg1 : y / 9223372036854775808 ≤ 1 := by omega
            have j2 : shiftI (wholeM x) (wholeE y - wholeE x) ≤ wholeM y := by omega
            by_cases sg : y / 9223372036854775808 = x / 9223372036854775808
            · have MD := Lib.hid (fun w => made_int (y / 9223372036854775808) (wholeE y) (wholeM y + shiftI (wholeM x) (wholeE y - wholeE x)) _ w sg0 sg1 e0 (by omega) (by omega) (by omega)
                (by rw [show (wholeE y).toNat = eN (y % 9223372036854775808).toNat from by omega, show (wholeM y + shiftI (wholeM x) (wholeE y - wholeE x)).toNat = mN (y % 9223372036854775808).toNat + jam (mN (x % 9223372036854775808).toNat) (eN (y % 9223372036854775808).toNat - eN (x % 9223372036854775808).toNat) from by omega]; exact ka.1))
              have RS := Lib.hid (S1 sg)
              have m0 := madeOf_lo (y / 9223372036854775808) (magOf (y % 9223372036854775808).toNat + magOf (x % 9223372036854775808).toNat) sg0
              have m1 := madeOf_hi (y / 9223372036854775808) (magOf (y % 9223372036854775808).toNat + magOf (x % 9223372036854775808).toNat) sg1
              have mc := madeOf_canon (y / 9223372036854775808) (magOf (y % 9223372036854775808).toNat + magOf (x % 9223372036854775808).toNat) sg0 sg1
              have sgb : (y / 9223372036854775808 == x / 9223372036854775808) = true := by simpa using sg
              skip
              generalize magOf (y % 9223372036854775808).toNat + magOf (x % 9223372036854775808).toNat = V at *
              clear S1 S2 ka kb we wm ve vm p1 p2 p3 p4 p5 sh sg hl
              go_enter Tryz.func99, Tryz.ntmps99
              go_wp2_with (first
                  | (go_at_call 65; with_reducible refine (rcanon_any _ _ (by omega) (by omega)).mono ?_; rintro e w' ⟨rfl, rfl⟩)
                  | (go_at_call 106; with_reducible refine (rkind_any _ _ (by omega) (by omega)).mono ?_; rintro e w' ⟨rfl, rfl⟩)
                  | (go_at_call 121; with_reducible refine (rsize_any _ _ _ (by omega) (by omega) (by omega) (by omega)).mono ?_; rintro e w' ⟨rfl, rfl⟩)
                  | (go_at_call 122; with_reducible refine (whole_any _ _ (by omega) (by omega)).mono ?_; rintro e w' ⟨rfl, rfl⟩)
                  | (go_at_call 123; with_reducible refine (shifted_int _ _ _ (by omega) (by omega) (by omega) (by omega)).mono ?_; rintro e w' ⟨rfl, rfl⟩)
                  | (go_at_call 124; with_reducible refine (MD.out _).mono ?_; rintro e w' ⟨rfl, rfl⟩))
              go_ret
              exact ⟨ret_u64 (by rw [SC.out, sumOf_comm, RS.out]), rfl⟩
            · have MD := Lib.hid (fun w => made_int (y / 9223372036854775808) (wholeE y) (wholeM y - shiftI (wholeM x) (wholeE y - wholeE x)) _ w sg0 sg1 e0 (by omega) (by omega) (by omega)
                (by rw [show (wholeE y).toNat = eN (y % 9223372036854775808).toNat from by omega, show (wholeM y - shiftI (wholeM x) (wholeE y - wholeE x)).toNat = mN (y % 9223372036854775808).toNat - jam (mN (x % 9223372036854775808).toNat) (eN (y % 9223372036854775808).toNat - eN (x % 9223372036854775808).toNat) from by omega]; exact kb.1))
              have RS := Lib.hid (S2 sg)
              have m0 := madeOf_lo (y / 9223372036854775808) (magOf (y % 9223372036854775808).toNat - magOf (x % 9223372036854775808).toNat) sg0
              have m1 := madeOf_hi (y / 9223372036854775808) (magOf (y % 9223372036854775808).toNat - magOf (x % 9223372036854775808).toNat) sg1
              have mc := madeOf_canon (y / 9223372036854775808) (magOf (y % 9223372036854775808).toNat - magOf (x % 9223372036854775808).toNat) sg0 sg1
              have sgb : (y / 9223372036854775808 == x / 9223372036854775808) = false := by simpa using sg
              skip
              generalize magOf (y % 9223372036854775808).toNat - magOf (x % 9223372036854775808).toNat = V at *
              clear S1 S2 ka kb we wm ve vm p1 p2 p3 p4 p5 sh sg hl
              go_enter Tryz.func99, Tryz.ntmps99
              go_wp2_with (first
                  | (go_at_call 65; with_reducible refine (rcanon_any _ _ (by omega) (by omega)).mono ?_; rintro e w' ⟨rfl, rfl⟩)
                  | (go_at_call 106; with_reducible refine (rkind_any _ _ (by omega) (by omega)).mono ?_; rintro e w' ⟨rfl, rfl⟩)
                  | (go_at_call 121; with_reducible refine (rsize_any _ _ _ (by omega) (by omega) (by omega) (by omega)).mono ?_; rintro e w' ⟨rfl, rfl⟩)
                  | (go_at_call 122; with_reducible refine (whole_any _ _ (by omega) (by omega)).mono ?_; rintro e w' ⟨rfl, rfl⟩)
                  | (go_at_call 123; with_reducible refine (shifted_int _ _ _ (by omega) (by omega) (by omega) (by omega)).mono ?_; rintro e w' ⟨rfl, rfl⟩)
                  | (go_at_call 124; with_reducible refine (MD.out _).mono ?_; rintro e w' ⟨rfl, rfl⟩))
              go_ret
              exact ⟨ret_u64 (by rw [SC.out, sumOf_comm, RS.out]), rfl⟩
          · have hl : y % 9223372036854775808 ≤ x % 9223372036854775808 := by omega
            obtain ⟨S1, S2⟩ := sum_by_size x y x0 x1 xf y0 y1 yf hl
            have ka := kept_add (x % 9223372036854775808).toNat (y % 9223372036854775808).toNat (by omega)
            have kb := kept_sub (x % 9223372036854775808).toNat (y % 9223372036854775808).toNat (by omega)
            have we := wholeE_nat x
            have wm := wholeM_nat x
            have ve := wholeE_nat y
            have vm := wholeM_nat y
            have p1 := eN_pos (y % 9223372036854775808).toNat
            have p2 := eN_mono (by omega : (y % 9223372036854775808).toNat ≤ (x % 9223372036854775808).toNat)
            have p3 := eN_le (x % 9223372036854775808).toNat (by omega)
            have p4 := mN_lt (x % 9223372036854775808).toNat
            have p5 := mN_lt (y % 9223372036854775808).toNat
            have sh : shiftI (wholeM y) (wholeE x - wholeE y) = ((jam (mN (y % 9223372036854775808).toNat) (eN (x % 9223372036854775808).toNat - eN (y % 9223372036854775808).toNat) : Nat) : Int) := by
              unfold shiftI; rw [we, ve, vm, Int.toNat_natCast]
              rw [show (((eN (x % 9223372036854775808).toNat : Nat) : Int) - ((eN (y % 9223372036854775808).toNat : Nat) : Int)).toNat = eN (x % 9223372036854775808).toNat - eN (y % 9223372036854775808).toNat from by omega]
            have e0 : 1 ≤ wholeE x := by omega
            have e1 : wholeE x ≤ 2046 := by omega
            have f0 : 1 ≤ wholeE y := by omega
            have f1 : wholeE y ≤ wholeE x := by omega
            have n0 : 0 ≤ wholeM x := by omega
            have n1 : wholeM x < 72057594037927936 := by omega
            have n2 : 0 ≤ wholeM y := by omega
            have n3 : wholeM y < 72057594037927936 := by omega
            have j0 : 0 ≤ shiftI (wholeM y) (wholeE x - wholeE y) := by omega
            have j1 : shiftI (wholeM y) (wholeE x - wholeE y) ≤ wholeM x + 72057594037927936 := by omega
            have sg0 : 0 ≤ x / 9223372036854775808 := by omega
            have sg1 : x / 9223372036854775808 ≤ 1 := by omega
            have j2 : shiftI (wholeM y) (wholeE x - wholeE y) ≤ wholeM x := by omega
            by_cases sg : x / 9223372036854775808 = y / 9223372036854775808
            · have MD := Lib.hid (fun w => made_int (x / 9223372036854775808) (wholeE x) (wholeM x + shiftI (wholeM y) (wholeE x - wholeE y)) _ w sg0 sg1 e0 (by omega) (by omega) (by omega)
                (by rw [show (wholeE x).toNat = eN (x % 9223372036854775808).toNat from by omega, show (wholeM x + shiftI (wholeM y) (wholeE x - wholeE y)).toNat = mN (x % 9223372036854775808).toNat + jam (mN (y % 9223372036854775808).toNat) (eN (x % 9223372036854775808).toNat - eN (y % 9223372036854775808).toNat) from by omega]; exact ka.1))
              have RS := Lib.hid (S1 sg)
              have m0 := madeOf_lo (x / 9223372036854775808) (magOf (x % 9223372036854775808).toNat + magOf (y % 9223372036854775808).toNat) sg0
              have m1 := madeOf_hi (x / 9223372036854775808) (magOf (x % 9223372036854775808).toNat + magOf (y % 9223372036854775808).toNat) sg1
              have mc := madeOf_canon (x / 9223372036854775808) (magOf (x % 9223372036854775808).toNat + magOf (y % 9223372036854775808).toNat) sg0 sg1
              have sgb : (x / 9223372036854775808 == y / 9223372036854775808) = true := by simpa using sg
              skip
              generalize magOf (x % 9223372036854775808).toNat + magOf (y % 9223372036854775808).toNat = V at *
              clear S1 S2 ka kb we wm ve vm p1 p2 p3 p4 p5 sh sg hl
              go_enter Tryz.func99, Tryz.ntmps99
              go_wp2_with (first
                  | (go_at_call 65; with_reducible refine (rcanon_any _ _ (by omega) (by omega)).mono ?_; rintro e w' ⟨rfl, rfl⟩)
                  | (go_at_call 106; with_reducible refine (rkind_any _ _ (by omega) (by omega)).mono ?_; rintro e w' ⟨rfl, rfl⟩)
                  | (go_at_call 121; with_reducible refine (rsize_any _ _ _ (by omega) (by omega) (by omega) (by omega)).mono ?_; rintro e w' ⟨rfl, rfl⟩)
                  | (go_at_call 122; with_reducible refine (whole_any _ _ (by omega) (by omega)).mono ?_; rintro e w' ⟨rfl, rfl⟩)
                  | (go_at_call 123; with_reducible refine (shifted_int _ _ _ (by omega) (by omega) (by omega) (by omega)).mono ?_; rintro e w' ⟨rfl, rfl⟩)
                  | (go_at_call 124; with_reducible refine (MD.out _).mono ?_; rintro e w' ⟨rfl, rfl⟩))
              go_ret
              exact ⟨ret_u64 (by rw [SC.out, RS.out]), rfl⟩
            · have MD := Lib.hid (fun w => made_int (x / 9223372036854775808) (wholeE x) (wholeM x - shiftI (wholeM y) (wholeE x - wholeE y)) _ w sg0 sg1 e0 (by omega) (by omega) (by omega)
                (by rw [show (wholeE x).toNat = eN (x % 9223372036854775808).toNat from by omega, show (wholeM x - shiftI (wholeM y) (wholeE x - wholeE y)).toNat = mN (x % 9223372036854775808).toNat - jam (mN (y % 9223372036854775808).toNat) (eN (x % 9223372036854775808).toNat - eN (y % 9223372036854775808).toNat) from by omega]; exact kb.1))
              have RS := Lib.hid (S2 sg)
              have m0 := madeOf_lo (x / 9223372036854775808) (magOf (x % 9223372036854775808).toNat - magOf (y % 9223372036854775808).toNat) sg0
              have m1 := madeOf_hi (x / 9223372036854775808) (magOf (x % 9223372036854775808).toNat - magOf (y % 9223372036854775808).toNat) sg1
              have mc := madeOf_canon (x / 9223372036854775808) (magOf (x % 9223372036854775808).toNat - magOf (y % 9223372036854775808).toNat) sg0 sg1
              have sgb : (x / 9223372036854775808 == y / 9223372036854775808) = false := by simpa using sg
              skip
              generalize magOf (x % 9223372036854775808).toNat - magOf (y % 9223372036854775808).toNat = V at *
              clear S1 S2 ka kb we wm ve vm p1 p2 p3 p4 p5 sh sg hl
              go_enter Tryz.func99, Tryz.ntmps99
              go_wp2_with (first
                  | (go_at_call 65; with_reducible refine (rcanon_any _ _ (by omega) (by omega)).mono ?_; rintro e w' ⟨rfl, rfl⟩)
                  | (go_at_call 106; with_reducible refine (rkind_any _ _ (by omega) (by omega)).mono ?_; rintro e w' ⟨rfl, rfl⟩)
                  | (go_at_call 121; with_reducible refine (rsize_any _ _ _ (by omega) (by omega) (by omega) (by omega)).mono ?_; rintro e w' ⟨rfl, rfl⟩)
                  | (go_at_call 122; with_reducible refine (whole_any _ _ (by omega) (by omega)).mono ?_; rintro e w' ⟨rfl, rfl⟩)
                  | (go_at_call 123; with_reducible refine (shifted_int _ _ _ (by omega) (by omega) (by omega) (by omega)).mono ?_; rintro e w' ⟨rfl, rfl⟩)
                  | (go_at_call 124; with_reducible refine (MD.out _).mono ?_; rintro e w' ⟨rfl, rfl⟩))
              go_ret
              exact ⟨ret_u64 (by rw [SC.out, RS.out]), rfl⟩
        · have xf := finite_of_kind x x0 x1 (by simpa using k3) (by simpa using k2)
          have R := Lib.hid (sumOf_inf_right y x y0 y1 (by rcases infinite_of_kind y y0 y1 (by simpa using j2) with h | h <;> omega) x0 x1 xf)
          clear xf
          go_enter Tryz.func99, Tryz.ntmps99
          go_wp2_with (first
                | (go_at_call 65; with_reducible refine (rcanon_any _ _ (by omega) (by omega)).mono ?_; rintro e w' ⟨rfl, rfl⟩)
                | (go_at_call 106; with_reducible refine (rkind_any _ _ (by omega) (by omega)).mono ?_; rintro e w' ⟨rfl, rfl⟩)
                | (go_at_call 121; with_reducible refine (rsize_any _ _ _ (by omega) (by omega) (by omega) (by omega)).mono ?_; rintro e w' ⟨rfl, rfl⟩)
                | (go_at_call 122; with_reducible refine (whole_any _ _ (by omega) (by omega)).mono ?_; rintro e w' ⟨rfl, rfl⟩)
                | (go_at_call 123; with_reducible refine (shifted_int _ _ _ (by omega) (by omega) (by omega) (by omega)).mono ?_; rintro e w' ⟨rfl, rfl⟩))
          go_ret
          exact ⟨ret_u64 (by rw [SC.out, R.out]), rfl⟩
      · rcases j2 : (kind y == 2) with _ | _
        · have yf := finite_of_kind y y0 y1 (by simpa using j3) (by simpa using j2)
          have R := Lib.hid (sumOf_inf_left x y x0 x1 (by rcases infinite_of_kind x x0 x1 (by simpa using k2) with h | h <;> omega) y0 y1 yf)
          clear yf
          go_enter Tryz.func99, Tryz.ntmps99
          go_wp2_with (first
                | (go_at_call 65; with_reducible refine (rcanon_any _ _ (by omega) (by omega)).mono ?_; rintro e w' ⟨rfl, rfl⟩)
                | (go_at_call 106; with_reducible refine (rkind_any _ _ (by omega) (by omega)).mono ?_; rintro e w' ⟨rfl, rfl⟩)
                | (go_at_call 121; with_reducible refine (rsize_any _ _ _ (by omega) (by omega) (by omega) (by omega)).mono ?_; rintro e w' ⟨rfl, rfl⟩)
                | (go_at_call 122; with_reducible refine (whole_any _ _ (by omega) (by omega)).mono ?_; rintro e w' ⟨rfl, rfl⟩)
                | (go_at_call 123; with_reducible refine (shifted_int _ _ _ (by omega) (by omega) (by omega) (by omega)).mono ?_; rintro e w' ⟨rfl, rfl⟩))
          go_ret
          exact ⟨ret_u64 (by rw [SC.out, R.out]), rfl⟩
        · have R := Lib.hid (sumOf_inf_both x y x0 x1 (by rcases infinite_of_kind x x0 x1 (by simpa using k2) with h | h <;> omega) y0 y1 (by rcases infinite_of_kind y y0 y1 (by simpa using j2) with h | h <;> omega))
          by_cases q : (x != y) = true
          · have Q : Hid (¬ x = y) := Lib.hid (by simpa using q)
            go_enter Tryz.func99, Tryz.ntmps99
            go_wp2_with (first
                  | (go_at_call 65; with_reducible refine (rcanon_any _ _ (by omega) (by omega)).mono ?_; rintro e w' ⟨rfl, rfl⟩)
                  | (go_at_call 106; with_reducible refine (rkind_any _ _ (by omega) (by omega)).mono ?_; rintro e w' ⟨rfl, rfl⟩)
                  | (go_at_call 121; with_reducible refine (rsize_any _ _ _ (by omega) (by omega) (by omega) (by omega)).mono ?_; rintro e w' ⟨rfl, rfl⟩)
                  | (go_at_call 122; with_reducible refine (whole_any _ _ (by omega) (by omega)).mono ?_; rintro e w' ⟨rfl, rfl⟩)
                  | (go_at_call 123; with_reducible refine (shifted_int _ _ _ (by omega) (by omega) (by omega) (by omega)).mono ?_; rintro e w' ⟨rfl, rfl⟩))
            go_ret
            exact ⟨ret_u64 (by rw [SC.out, R.out, if_neg Q.out]), rfl⟩
          · have q' : (x != y) = false := by simpa using q
            have Q : Hid (x = y) := Lib.hid (by simpa using q)
            clear q
            go_enter Tryz.func99, Tryz.ntmps99
            go_wp2_with (first
                  | (go_at_call 65; with_reducible refine (rcanon_any _ _ (by omega) (by omega)).mono ?_; rintro e w' ⟨rfl, rfl⟩)
                  | (go_at_call 106; with_reducible refine (rkind_any _ _ (by omega) (by omega)).mono ?_; rintro e w' ⟨rfl, rfl⟩)
                  | (go_at_call 121; with_reducible refine (rsize_any _ _ _ (by omega) (by omega) (by omega) (by omega)).mono ?_; rintro e w' ⟨rfl, rfl⟩)
                  | (go_at_call 122; with_reducible refine (whole_any _ _ (by omega) (by omega)).mono ?_; rintro e w' ⟨rfl, rfl⟩)
                  | (go_at_call 123; with_reducible refine (shifted_int _ _ _ (by omega) (by omega) (by omega) (by omega)).mono ?_; rintro e w' ⟨rfl, rfl⟩))
            go_ret
            exact ⟨ret_u64 (by rw [SC.out, R.out, if_pos Q.out]), rfl⟩
    · have n := Lib.hid (numbers_nan x y x0 y0 XC.out YC.out (Or.inr (by simpa using j3)))
      go_enter Tryz.func99, Tryz.ntmps99
      go_wp2_with (first
            | (go_at_call 65; with_reducible refine (rcanon_any _ _ (by omega) (by omega)).mono ?_; rintro e w' ⟨rfl, rfl⟩)
            | (go_at_call 106; with_reducible refine (rkind_any _ _ (by omega) (by omega)).mono ?_; rintro e w' ⟨rfl, rfl⟩)
            | (go_at_call 121; with_reducible refine (rsize_any _ _ _ (by omega) (by omega) (by omega) (by omega)).mono ?_; rintro e w' ⟨rfl, rfl⟩)
            | (go_at_call 122; with_reducible refine (whole_any _ _ (by omega) (by omega)).mono ?_; rintro e w' ⟨rfl, rfl⟩)
            | (go_at_call 123; with_reducible refine (shifted_int _ _ _ (by omega) (by omega) (by omega) (by omega)).mono ?_; rintro e w' ⟨rfl, rfl⟩))
      go_ret
      exact ⟨ret_u64 (by rw [SC.out, n.out]), rfl⟩
  · have n := Lib.hid (numbers_nan x y x0 y0 XC.out YC.out (Or.inl (by simpa using k3)))
    go_enter Tryz.func99, Tryz.ntmps99
    go_wp2_with (first
          | (go_at_call 65; with_reducible refine (rcanon_any _ _ (by omega) (by omega)).mono ?_; rintro e w' ⟨rfl, rfl⟩)
          | (go_at_call 106; with_reducible refine (rkind_any _ _ (by omega) (by omega)).mono ?_; rintro e w' ⟨rfl, rfl⟩)
          | (go_at_call 121; with_reducible refine (rsize_any _ _ _ (by omega) (by omega) (by omega) (by omega)).mono ?_; rintro e w' ⟨rfl, rfl⟩)
          | (go_at_call 122; with_reducible refine (whole_any _ _ (by omega) (by omega)).mono ?_; rintro e w' ⟨rfl, rfl⟩)
          | (go_at_call 123; with_reducible refine (shifted_int _ _ _ (by omega) (by omega) (by omega) (by omega)).mono ?_; rintro e w' ⟨rfl, rfl⟩))
    go_ret
    exact ⟨ret_u64 (by rw [SC.out, n.out]), rfl⟩

end Go.Proofs.YtmonkcekkhfafaaGreatDoor

