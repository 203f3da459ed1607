/-
  What Build and Right return. Conditions: the keys and the links are there; the package's table lies.
-/
import Derived.Test.YtnmeakkehonnmaaDoorTrpHang
namespace Go.Proofs.YtnmeakkehonnmaaDoor.Trp
open Go.RowKit (Below intOf)

abbrev zeros2 (n : Nat) : Array Value := madeCells #[.int .i64 0, .int .i64 0] (n * 2)
theorem make_pairs (n : Nat) (hn : n ≤ 256) (W : World) : (Instr.makeSlice 24 (.int .i64 (n : Int)) (.int .i64 (n : Int))).run Tryd.prog W = .ok (.slice (some ⟨W.heap.size, 0, none⟩) n n) (W.alloc (.cells (zeros2 n) 42)) := by
  obtain ⟨i0, hi, hz0, hz1, hz2⟩ := info_parts infoLS
  have h := run_make (P := Tryd.prog) W 24 42 i0 _ Tryd.underlying24 hi hz0 .i64 .i64 n n (by omega) (by omega) (by rw [hz2]; omega) (by omega)
  simp only [Int.toNat_natCast, hz1] at h
  exact h
theorem made_room (n : Nat) (W : World) : Room (W.alloc (.cells (zeros2 n) 42)) W.heap.size 0 n := fun j hj => by
  constructor
  · have : j < (zeros2 n).size := by rw [size_madeCells]; exact hj
    exact ⟨(zeros2 n)[j], by unfold World.cell?; rw [World.alloc_heap_new]; simp [this]⟩
  · unfold World.frozen?; rw [World.alloc_heap_new]; simp

set_option maxHeartbeats 4000000 in
set_option maxRecDepth 100000 in
theorem build_all (s : Option Addr) (n c : Nat) (l : List Int) (w : World) (hT : Tab w) (hW : WS w s n c l) :
    Calls Tryd.prog 10 #[.slice s n c] w (BE (buildS l) w) := by
  have hn := hW.le
  have HW := Lib.hid hW
  have HT := Lib.hid hT
  clear hW hT
  by_cases h0 : 256 < n
  · have hz : RowKit.Hid (buildS l = (0, [], 4)) := Lib.hid (build_long (by rw [HW.out.len]; exact h0))
    go_enter Tryd.func10, Tryd.ntmps10
    go_wp2
    go_ret3
    rw [hz.out]
    exact ⟨Ext.refl w, none, 0, 0, rfl, LS.empty _ _ _ (by omega)⟩
  · have hlong : RowKit.Hid (¬ 256 < l.length) := Lib.hid (by rw [HW.out.len]; exact h0)
    have h0' : n ≤ 256 := by omega
    have hdc : decide (256 < n) = false := decide_eq_false h0
    have hdi : decide ((256 : Int) < n) = false := decide_eq_false (by omega)
    have hRs := rising_any s n c l w HW.out
    clear h0
    by_cases hr : Rising l
    · rw [decide_eq_true hr] at hRs
      have HRi := Lib.hid hr
      clear hr
      go_enter Tryd.func10, Tryd.ntmps10
      go_wp2_with (fail)
      refine hRs.mono ?_
      rintro e w1 ⟨rfl, hE1⟩
      have HE1 := Lib.hid hE1
      have HT1 := Lib.hid (tab_ext HT.out hE1)
      have HW1 := Lib.hid (HW.out.ext hE1)
      have hmk := make_pairs n h0' w1
      clear hE1 hRs
      go_wp2_with (fail)
      refine (hang_any w1 w1.heap.size HT1.out (Nat.le_refl _) n s c l (some ⟨w1.heap.size, 0, none⟩) n 0 0 (w1.alloc (.cells (zeros2 n) 42)) HW1.out (Ext.new w1 _) ⟨fun _ => rfl, Nat.le_refl _, by omega⟩ (made_room n w1) (by omega)).mono ?_
      rintro e w3 ⟨rfl, hH⟩
      have HH := Lib.hid hH
      clear hH hmk
      go_wp2_with (fail)
      go_ret3
      rw [build_ok hlong.out HRi.out]
      have hl : (tree l 0).2.length = n := by rw [tree_len _ _ _ rfl]; exact HW.out.len
      refine ⟨HE1.out.trans (Ext.grown (Ext.new w1 _) HH.out.1 (fun k e => by cases e; exact Nat.le_refl _)), _, n, n, rfl, ⟨hl, by omega, Nat.le_refl _, by omega, fun j x hx => ⟨?_, w1.heap.size, 0, rfl, HH.out.2.1 j x hx⟩⟩⟩
      have := tree_bd _ l 0 rfl x (List.mem_of_getElem? hx)
      rw [HW.out.len] at this
      unfold Ip I64; omega
    · rw [decide_eq_false hr] at hRs
      have hz : RowKit.Hid (buildS l = (0, [], 1)) := Lib.hid (build_bad hlong.out hr)
      clear hr
      go_enter Tryd.func10, Tryd.ntmps10
      go_wp2_with (fail)
      refine hRs.mono ?_
      rintro e w1 ⟨rfl, hE1⟩
      go_wp2_with (fail)
      go_ret3
      rw [hz.out]
      exact ⟨hE1, none, 0, 0, rfl, LS.empty _ _ _ (by omega)⟩

theorem build_any (s : Option Addr) (n c : Nat) (l : List Int) (w : World) (hT : Tab w) (hW : WS w s n c l) (_ : n ≤ 256) :
    Calls Tryd.prog 10 #[.slice s n c] w (BE (buildS l) w) := build_all s n c l w hT hW

set_option maxHeartbeats 2000000 in
theorem right_any (s : Option Addr) (n c : Nat) (l : List Int) (r : Int) (sl : Option Addr) (m cl : Nat) (L : List Pr) (w : World) (hT : Tab w) (hW : WS w s n c l) (hL : LS w sl m cl L) :
    Calls Tryd.prog 13 #[.slice s n c, .int .i64 r, .slice sl m cl] w fun e w' => e = .returned (.bool (rightS l r L)) ∧ Ext w w' := by
  obtain ⟨a, M, e0, hp⟩ : ∃ a M e0, buildS l = (a, M, e0) := ⟨_, _, _, rfl⟩
  have hr : RowKit.Hid (rightS l r L = decide ((a, M, e0) = (r, L, 0))) := Lib.hid (by unfold rightS; rw [hp])
  have hB := build_all s n c l w hT hW
  rw [hp] at hB
  have HL := Lib.hid hL
  clear hL hW hp hT
  by_cases he : e0 = 0
  · subst he
    by_cases ha : r = a
    · subst ha
      go_enter Tryd.func13, Tryd.ntmps13
      go_wp2_with (fail)
      refine hB.mono ?_
      rintro e w1 ⟨hE1, s1, m1, c1, rfl, hM⟩
      have hL1 := HL.out.ext hE1
      clear HL
      go_wp2_with (fail)
      refine (equal_any sl s1 m m1 cl c1 L M _ w1 hL1 hM (Lib.hid rfl)).mono ?_
      rintro e w2 ⟨rfl, q, rfl⟩
      go_wp2_with (fail)
      go_ret
      refine ⟨ret_bool ?_, hE1.drewN q⟩
      rw [hr.out]; simp [eq_comm]
    · have hb : (r == a) = false := by simpa using ha
      have hf : RowKit.Hid (rightS l r L = false) := Lib.hid (by rw [hr.out]; simp [Ne.symm ha])
      go_enter Tryd.func13, Tryd.ntmps13
      go_wp2_with (fail)
      refine hB.mono ?_
      rintro e w1 ⟨hE1, s1, m1, c1, rfl, hM⟩
      go_wp2_with (fail)
      go_ret
      exact ⟨ret_bool hf.out.symm, hE1⟩
  · have hb : (e0 == 0) = false := by simpa using he
    have hf : RowKit.Hid (rightS l r L = false) := Lib.hid (by rw [hr.out]; simp [he])
    go_enter Tryd.func13, Tryd.ntmps13
    go_wp2_with (fail)
    refine hB.mono ?_
    rintro e w1 ⟨hE1, s1, m1, c1, rfl, hM⟩
    go_wp2_with (fail)
    go_ret
    exact ⟨ret_bool hf.out.symm, hE1⟩

end Go.Proofs.YtnmeakkehonnmaaDoor.Trp
