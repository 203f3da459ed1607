/-
  When two pairs of ints are the same, and the document's Links: whether two lists of them are. Condition: the slices are there.
-/
import Derived.Test.YtnmeakkehonnmaaDoorTrpMem
import Derived.Laws.StructEq
import Derived.DeepKeys
namespace Go.Proofs.YtnmeakkehonnmaaDoor.Trp
open Go.RowKit (Below intOf)

theorem eq2 (a b x y : Int) (w : World) : (Op.equalIn 10000 42 (.agg #[.int .i64 a, .int .i64 b]) (.agg #[.int .i64 x, .int .i64 y])).run Tryd.prog w = .ok ((a == x) && (b == y)) w := by
  obtain ⟨i, hi⟩ : ∃ i, Tryd.prog.info? 3 = some i := Option.isSome_iff_exists.1 (by kernel_rfl)
  rw [run_equalIn_array w 9999 _ _ Tryd.underlying42 hi]
  have hc : Tryd.prog.cellsOf 3 = 1 := by kernel_rfl
  simp [Op.eqItems, List.range, List.range.loop, hc, part, go_sem]
  by_cases h1 : a = x <;> by_cases h2 : b = y <;> simp [h1, h2]

set_option maxHeartbeats 1000000 in
/-- The document's Links. -/
theorem links_any (s1 s2 : Option Addr) (n m c1 c2 : Nat) (xs ys : List Pr) (r : Bool) (w : World) (h1 : LS w s1 n c1 xs) (h2 : LS w s2 m c2 ys) (hr : RowKit.Hid (r = decide (xs = ys))) :
    Calls Tryd.prog 12 #[.slice s1 n c1, .slice s2 m c2] w fun e w' => e = .returned (.bool r) ∧ ∃ q, w' = w.drewN q := by
  have hn := h1.le
  have hm := h2.le
  have H1 := Lib.hid h1
  have H2 := Lib.hid h2
  clear h1 h2
  by_cases hnm : n = m
  · subst hnm
    go_enter Tryd.func12, Tryd.ntmps12
    go_wp2_with (fail)
    go_loopw [5] (fun i w' => ∃ k q : Nat, k ≤ n ∧ i = .int .i64 k ∧ w' = w.drewN q ∧ RowKit.Hid (∀ j, j < k → xs[j]? = ys[j]?)) (fun i _ => n - (intOf i).toNat)
    case atStart => exact ⟨0, 0, by omega, rfl, rfl, Lib.hid (fun j hj => by omega)⟩
    case round =>
      obtain ⟨k, q, hk, rfl, rfl, hz⟩ := hrel
      by_cases hlt : k < n
      · obtain ⟨⟨p, x⟩, hx, _, b, o, rfl, hc, hc'⟩ := H1.out.get hlt
        obtain ⟨⟨p', y⟩, hy, _, b2, o2, rfl, hd, hd'⟩ := H2.out.get hlt
        have HX := Lib.hid hx
        have HY := Lib.hid hy
        clear hx hy
        have q2 := eq2 p x p' y
        by_cases hp : p = p' ∧ x = y
        · obtain ⟨rfl, rfl⟩ := hp
          have hb1 : (p == p) = true := by simp
          have hb2 : (x == x) = true := by simp
          rw [hb1, hb2] at q2
          go_wp2_with (fail)
          go_quiet (fail)
          go_wp2
          go_roundw
          case rel => exact ⟨k + 1, q + nq, by omega, by go_num, rfl, Lib.hid (fun j hj => by
            by_cases e : j = k
            · subst e; rw [HX.out, HY.out]
            · exact hz.out j (by omega))⟩
          case measure => simp [intOf]; omega
        · have hb : ((p == p') && (x == y)) = false := by
            rw [Bool.and_eq_false_iff]
            by_cases e : p = p'
            · exact .inr (by simpa using fun e2 => hp ⟨e, e2⟩)
            · exact .inl (by simpa using e)
          rw [hb] at q2
          have HN : RowKit.Hid ((p, x) ≠ (p', y)) := Lib.hid (fun e => hp (by cases e; exact ⟨rfl, rfl⟩))
          clear hp hb
          go_wp2_with (fail)
          go_quiet (fail)
          go_wp2
          go_ret
          exact ⟨ret_bool (by rw [hr.out, decide_eq_false (ne_at HX.out HY.out HN.out)]), q + nq, World.drewN_drewN _ _ _⟩
      · obtain rfl : k = n := by omega
        go_wp2
        go_ret
        exact ⟨ret_bool (by rw [hr.out, decide_eq_true (eq_all H1.out.len H2.out.len hz.out)]), _, rfl⟩
  · have hb : ((n : Int) != (m : Int)) = true := by simp; omega
    have hb2 : (n != m) = true := by simpa using hnm
    go_enter Tryd.func12, Tryd.ntmps12
    go_wp2
    go_ret
    exact ⟨ret_bool (by rw [hr.out, decide_eq_false (fun e => hnm (by rw [← H1.out.len, ← H2.out.len, e]))]), 0, rfl⟩

end Go.Proofs.YtnmeakkehonnmaaDoor.Trp
