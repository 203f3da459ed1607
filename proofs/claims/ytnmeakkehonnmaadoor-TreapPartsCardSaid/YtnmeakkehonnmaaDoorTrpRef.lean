/-
  What the document's own Build and Right return. Condition: the keys and the links are there.
-/
import Derived.Test.YtnmeakkehonnmaaDoorTrpTree
namespace Go.Proofs.YtnmeakkehonnmaaDoor.Trp
open Go.RowKit (Below intOf)

/-- A call that answers a top, links and a number. -/
def BE (p : Int × List Pr × Int) (w : World) (e : Ending) (w' : World) : Prop := Ext w w' ∧ ∃ sl m c, e = .returned (.tuple #[.int .i64 p.1, .slice sl m c, .int .i64 p.2.2]) ∧ LS w' sl m c p.2.1

theorem seg_all (l : List Int) : seg l 0 l.length = l := by unfold seg; simp

set_option maxHeartbeats 4000000 in
set_option maxRecDepth 100000 in
theorem rbuild_any (s : Option Addr) (n c : Nat) (l : List Int) (w : World) (hW : WS w s n c l) :
    Calls Tryd.prog 11 #[.slice s n c] w (BE (buildS l) w) := by
  have hn := hW.le
  have HW := Lib.hid hW
  clear hW
  by_cases h0 : 256 < n
  · have hz : RowKit.Hid (buildS l = (0, [], 4)) := Lib.hid (build_long (by rw [HW.out.len]; exact h0))
    go_enter Tryd.func11, Tryd.ntmps11
    go_wp2
    go_ret3
    rw [hz.out]
    exact ⟨Ext.refl w, none, 0, 0, rfl, LS.empty _ _ _ (by omega)⟩
  · have hlong : RowKit.Hid (¬ 256 < l.length) := Lib.hid (by rw [HW.out.len]; exact h0)
    have h0' : n ≤ 256 := by omega
    have hdc : decide (256 < n) = false := decide_eq_false h0
    have hdi : decide ((256 : Int) < n) = false := decide_eq_false (by omega)
    clear h0
    go_enter Tryd.func11, Tryd.ntmps11
    go_wp2_with (fail)
    go_loopw [5] (fun iv wr => ∃ (i q : Nat), 1 ≤ i ∧ (i ≤ n ∨ i = 1) ∧ iv = .int .i64 i ∧ wr = w.drewN q ∧ RowKit.Hid (∀ (j : Nat) x y, j + 1 < i → l[j]? = some x → l[j + 1]? = some y → x < y)) (fun i _ => n - (intOf i).toNat)
    case atStart => exact ⟨1, 0, by omega, .inr rfl, rfl, rfl, Lib.hid (fun j x y hj => by omega)⟩
    case round =>
      obtain ⟨i, q, h1, h2, rfl, rfl, hP⟩ := hrel
      by_cases hi : i < n
      · have hin : (i : Int) < n := by omega
        obtain ⟨k, rfl⟩ : ∃ k, i = k + 1 := ⟨i - 1, by omega⟩
        obtain ⟨y, hy, uy, b, o, rfl, cy⟩ := HW.out.get (k := k + 1) hi
        obtain ⟨x, hx, ux, b', o', e, cx⟩ := HW.out.get (k := k) (by omega)
        cases e
        have hw1 : IntKind.i64.wrap ((k : Int) + 1 - 1) = k := by rw [IntWalk.i64_in _ (by omega)]; omega
        have hw2 : IntKind.i64.wrap (k : Int) = k := IntWalk.i64_in _ (by omega)
        have hkn : (k : Int) < n := by omega
        have HX := Lib.hid hx
        have HY := Lib.hid hy
        clear hx hy
        by_cases hb : y ≤ x
        · have hz : RowKit.Hid (buildS l = (0, [], 1)) := Lib.hid (build_bad hlong.out (not_rising HX.out HY.out hb))
          have hdb : decide (y ≤ x) = true := decide_eq_true hb
          go_wp2_with (fail)
          go_quiet (fail)
          go_wp2_with (fail)
          go_ret3
          rw [hz.out]
          exact ⟨(Ext.draws w q).drewN nq, none, 0, 0, rfl, LS.empty _ _ _ (by omega)⟩
        · have hdb : decide (y ≤ x) = false := decide_eq_false hb
          have hN : RowKit.Hid (∀ (j : Nat) x y, j + 1 < k + 1 + 1 → l[j]? = some x → l[j + 1]? = some y → x < y) := Lib.hid (fun j x' y' hj hx hy => by
            by_cases e : j = k
            · subst e; rw [HX.out] at hx; rw [HY.out] at hy; cases hx; cases hy; omega
            · exact hP.out j x' y' (by omega) hx hy)
          go_wp2_with (fail)
          go_quiet (fail)
          go_wp2_with (fail)
          go_roundw
          case rel => exact ⟨k + 1 + 1, q + nq, by omega, by omega, by go_num, rfl, hN⟩
          case measure => simp [intOf]; omega
      · have hni : ¬ (i : Int) < n := by omega
        have hR : RowKit.Hid (Rising l) := Lib.hid (rising_of (fun j x y hx hy => hP.out j x y (by
          have := (List.getElem?_eq_some_iff.1 hy).1; rw [HW.out.len] at this; omega) hx hy))
        have hqe := Ext.draws w q
        have HW2 := HW.out.ext hqe
        have hlen := Lib.hid HW.out.len
        clear HW
        generalize w.drewN q = wq at hqe HW2 ⊢
        go_wp2_with (fail)
        have ht := rtree_any n s n c l 0 n wq HW2 (Nat.le_refl _) (Nat.zero_le _) (Nat.sub_zero _)
        refine ht.mono ?_
        rintro e w1 ⟨sl1, c1, rfl, hL1, hE1⟩
        go_wp2_with (fail)
        go_ret3
        rw [build_ok hlong.out hR.out]
        have es : seg l 0 n = l := by rw [← hlen.out]; exact seg_all l
        rw [es] at hL1 ⊢
        exact ⟨hqe.trans hE1, sl1, n, c1, rfl, hL1⟩

set_option maxHeartbeats 2000000 in
theorem rright_any (s : Option Addr) (n c : Nat) (l : List Int) (r : Int) (sl : Option Addr) (m cl : Nat) (L : List Pr) (w : World) (hW : WS w s n c l) (hL : LS w sl m cl L) :
    Calls Tryd.prog 14 #[.slice s n c, .int .i64 r, .slice sl m cl] w fun e w' => e = .returned (.bool (rightS l r L)) ∧ Ext w w' := by
  obtain ⟨a, M, e0, hp⟩ : ∃ a M e0, buildS l = (a, M, e0) := ⟨_, _, _, rfl⟩
  have hr : RowKit.Hid (rightS l r L = decide ((a, M, e0) = (r, L, 0))) := Lib.hid (by unfold rightS; rw [hp])
  have hB := rbuild_any s n c l w hW
  rw [hp] at hB
  have HL := Lib.hid hL
  clear hL hW hp
  by_cases he : e0 = 0
  · subst he
    by_cases ha : a = r
    · subst ha
      go_enter Tryd.func14, Tryd.ntmps14
      go_wp2_with (fail)
      refine hB.mono ?_
      rintro e w1 ⟨hE1, s1, m1, c1, rfl, hM⟩
      have hL1 := HL.out.ext hE1
      clear HL
      go_wp2_with (fail)
      refine (links_any s1 sl m1 m c1 cl M L _ w1 hM hL1 (Lib.hid rfl)).mono ?_
      rintro e w2 ⟨rfl, q, rfl⟩
      go_wp2_with (fail)
      go_ret
      refine ⟨ret_bool ?_, hE1.drewN q⟩
      rw [hr.out]; simp
    · have hb : (a == r) = false := by simpa using ha
      have hf : RowKit.Hid (rightS l r L = false) := Lib.hid (by rw [hr.out]; simp [ha])
      go_enter Tryd.func14, Tryd.ntmps14
      go_wp2_with (fail)
      refine hB.mono ?_
      rintro e w1 ⟨hE1, s1, m1, c1, rfl, hM⟩
      go_wp2_with (fail)
      go_ret
      exact ⟨ret_bool hf.out.symm, hE1⟩
  · have hb : (e0 == 0) = false := by simpa using he
    have hf : RowKit.Hid (rightS l r L = false) := Lib.hid (by rw [hr.out]; simp [he])
    go_enter Tryd.func14, Tryd.ntmps14
    go_wp2_with (fail)
    refine hB.mono ?_
    rintro e w1 ⟨hE1, s1, m1, c1, rfl, hM⟩
    go_wp2_with (fail)
    go_ret
    exact ⟨ret_bool hf.out.symm, hE1⟩

end Go.Proofs.YtnmeakkehonnmaaDoor.Trp
