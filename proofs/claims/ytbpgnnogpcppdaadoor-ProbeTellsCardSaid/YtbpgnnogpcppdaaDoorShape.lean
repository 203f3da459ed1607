/-
  What the document's own shape returns: how many slots words have; 0, if they are no table's. Condition: the words' number.
-/
import Derived.Test.YtbpgnnogpcppdaaDoorCut
namespace Go.Proofs.YtbpgnnogpcppdaaDoor
open Go.RowKit (Below intOf)

def shapeN (m : Nat) (v : Int) : Int := if (v = 1 ∨ v = 2) ∧ m % v.toNat = 0 ∧ 1 ≤ m / v.toNat ∧ m / v.toNat ≤ 1024 then ((m / v.toNat : Nat) : Int) else 0

theorem quo_2 (m : Nat) : (m : Int).tdiv 2 = ((m / 2 : Nat) : Int) := by rw [Int.tdiv_eq_ediv_of_nonneg (by omega)]; omega
theorem rem_2 (m : Nat) : (m : Int).tmod 2 = ((m % 2 : Nat) : Int) := by rw [Int.tmod_eq_emod_of_nonneg (by omega)]; omega

set_option maxHeartbeats 1000000 in
theorem shape_any (s : Option Addr) (m c : Nat) (v : Int) (w : World) (hm : m ≤ 1048576) (hv : I64 v) : Calls Tryd.prog 30 #[.slice s m c, .int .i64 v] w fun e w' => e = .returned (.int .i64 (shapeN m v)) ∧ w = w' := by
  obtain ⟨v0, v1⟩ := hv
  by_cases a1 : v < 1
  · have hr : RowKit.Hid (shapeN m v = 0) := Lib.hid (by unfold shapeN; rw [if_neg (by omega)])
    go_enter Tryd.func30, Tryd.ntmps30
    go_wp2
    go_ret
    exact ⟨ret_int hr.out.symm, rfl⟩
  by_cases a2 : 2 < v
  · have hr : RowKit.Hid (shapeN m v = 0) := Lib.hid (by unfold shapeN; rw [if_neg (by omega)])
    go_enter Tryd.func30, Tryd.ntmps30
    go_wp2
    go_ret
    exact ⟨ret_int hr.out.symm, rfl⟩
  have hv : v = 1 ∨ v = 2 := by omega
  clear a1 a2 v0 v1
  rcases hv with rfl | rfl
  · by_cases b1 : 1 ≤ m ∧ m ≤ 1024
    · have hr : RowKit.Hid (shapeN m 1 = m) := Lib.hid (by unfold shapeN; rw [if_pos (by simp; omega)]; simp)
      obtain ⟨b1, b2⟩ := b1
      go_enter Tryd.func30, Tryd.ntmps30
      go_wp2
      go_ret
      exact ⟨ret_int hr.out.symm, rfl⟩
    · have hr : RowKit.Hid (shapeN m 1 = 0) := Lib.hid (by unfold shapeN; rw [if_neg (by simp; omega)])
      by_cases b2 : m < 1
      · have b3 : (m : Int) < 1 := by omega
        go_enter Tryd.func30, Tryd.ntmps30
        go_wp2
        go_ret
        exact ⟨ret_int hr.out.symm, rfl⟩
      · have b3 : (1024 : Int) < m := by omega
        have b4 : ¬ (m : Int) < 1 := by omega
        clear b1
        go_enter Tryd.func30, Tryd.ntmps30
        go_wp2
        go_ret
        exact ⟨ret_int hr.out.symm, rfl⟩
  · have q := quo_2 m
    have r := rem_2 m
    by_cases b0 : m % 2 = 0
    · obtain ⟨k, hk⟩ : ∃ k, m / 2 = k := ⟨_, rfl⟩
      have hkb : k ≤ 1048576 := by omega
      rw [hk] at q
      rw [b0] at r
      by_cases b1 : 1 ≤ k ∧ k ≤ 1024
      · have hr : RowKit.Hid (shapeN m 2 = k) := Lib.hid (by unfold shapeN; rw [if_pos (by simp; omega)]; simp [hk])
        obtain ⟨b1, b2⟩ := b1
        clear hk
        go_enter Tryd.func30, Tryd.ntmps30
        go_wp2
        go_ret
        exact ⟨ret_int hr.out.symm, rfl⟩
      · have hr : RowKit.Hid (shapeN m 2 = 0) := Lib.hid (by unfold shapeN; rw [if_neg (by simp; omega)])
        clear hk
        by_cases b2 : k < 1
        · have b3 : (k : Int) < 1 := by omega
          clear b1
          go_enter Tryd.func30, Tryd.ntmps30
          go_wp2
          go_ret
          exact ⟨ret_int hr.out.symm, rfl⟩
        · have b3 : (1024 : Int) < k := by omega
          have b4 : ¬ (k : Int) < 1 := by omega
          clear b1
          go_enter Tryd.func30, Tryd.ntmps30
          go_wp2
          go_ret
          exact ⟨ret_int hr.out.symm, rfl⟩
    · have b1 : m % 2 = 1 := by omega
      have hr : RowKit.Hid (shapeN m 2 = 0) := Lib.hid (by unfold shapeN; rw [if_neg (by simp; omega)])
      rw [b1] at r
      clear b0
      go_enter Tryd.func30, Tryd.ntmps30
      go_wp2
      go_ret
      exact ⟨ret_int hr.out.symm, rfl⟩

end Go.Proofs.YtbpgnnogpcppdaaDoor
