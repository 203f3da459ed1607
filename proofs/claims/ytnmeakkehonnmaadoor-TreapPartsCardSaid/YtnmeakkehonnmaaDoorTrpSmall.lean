/-
  What the statements' own small functions return: pick, Key and ints. Conditions: the integers' bounds that each says; the slices are there.
-/
import Derived.Test.YtnmeakkehonnmaaDoorTrpLeaf
namespace Go.Proofs.YtnmeakkehonnmaaDoor.Trp
open Go.RowKit (Below intOf)

def pick (c n : Int) : Int := (if c < 0 then -(c + 1) else c) % n
theorem pick_bd {c n : Int} (h : 1 ≤ n) : 0 ≤ pick c n ∧ pick c n < n := by
  unfold pick; exact ⟨Int.emod_nonneg _ (by omega), Int.emod_lt_of_pos _ (by omega)⟩
theorem pick_any (c n : Int) (w : World) (h0 : -9223372036854775808 ≤ c) (h1 : c < 9223372036854775808) (g0 : 1 ≤ n) (g1 : n < 9223372036854775808) :
    Calls Tryd.prog 24 #[.int .i64 c, .int .i64 n] w fun e w' => e = .returned (.int .i64 (pick c n)) ∧ w = w' := by
  by_cases h : c < 0
  · have hp : RowKit.Hid (pick c n = -(c + 1) % n) := Lib.hid (by unfold pick; rw [if_pos h])
    go_enter Tryd.func24, Tryd.ntmps24
    go_wp2
    go_ret
    exact ⟨ret_int (by rw [hp.out, ← Int.neg_tmod, Int.tmod_eq_emod_of_nonneg (by omega)]), rfl⟩
  · have hp : RowKit.Hid (pick c n = c % n) := Lib.hid (by unfold pick; rw [if_neg h])
    go_enter Tryd.func24, Tryd.ntmps24
    go_wp2
    go_ret
    exact ⟨ret_int (by rw [hp.out]), rfl⟩

/-- Of a raw number, one key of few, some of them far. -/
def keyOf (n : Int) : Int := if 30 < pick n 40 then (pick n 40 - 30) * 2049638230412172401 else pick n 40
theorem keyOf_u (n : Int) : U64 (keyOf n) := by
  have := pick_bd (c := n) (n := 40) (by omega)
  unfold keyOf U64; split <;> omega
set_option maxHeartbeats 400000 in
theorem key_any (c : Int) (w : World) (h0 : -9223372036854775808 ≤ c) (h1 : c < 9223372036854775808) :
    Calls Tryd.prog 15 #[.int .i64 c] w fun e w' => e = .returned (.int .u64 (keyOf c)) ∧ w = w' := by
  have hb := pick_bd (c := c) (n := 40) (by omega)
  by_cases h : 30 < pick c 40
  · have hp : RowKit.Hid (keyOf c = (pick c 40 - 30) * 2049638230412172401) := Lib.hid (by unfold keyOf; rw [if_pos h])
    go_enter Tryd.func15, Tryd.ntmps15
    go_wp2_with (go_at_call 24; with_reducible refine (pick_any _ _ _ (by omega) (by omega) (by omega) (by omega)).mono ?_; rintro e w' ⟨rfl, rfl⟩)
    go_ret
    refine ⟨ret_int ?_, rfl⟩
    rw [hp.out]
  · have hp : RowKit.Hid (keyOf c = pick c 40) := Lib.hid (by unfold keyOf; rw [if_neg h])
    go_enter Tryd.func15, Tryd.ntmps15
    go_wp2_with (go_at_call 24; with_reducible refine (pick_any _ _ _ (by omega) (by omega) (by omega) (by omega)).mono ?_; rintro e w' ⟨rfl, rfl⟩)
    go_ret
    exact ⟨ret_int hp.out.symm, rfl⟩

set_option maxHeartbeats 1000000 in
/-- Whether two lists of ints are the same. -/
theorem ints_any (s1 s2 : Option Addr) (n m c1 c2 : Nat) (xs ys : List Int) (r : Bool) (w : World) (h1 : NS w s1 n c1 xs) (h2 : NS w s2 m c2 ys) (hr : RowKit.Hid (r = decide (xs = ys))) :
    Calls Tryd.prog 20 #[.slice s1 n c1, .slice s2 m c2] w fun e w' => e = .returned (.bool r) ∧ ∃ q, w' = w.drewN q := by
  have hn := h1.le
  have hm := h2.le
  have H1 := Lib.hid h1
  have H2 := Lib.hid h2
  clear h1 h2
  by_cases hnm : n = m
  · subst hnm
    go_enter Tryd.func20, Tryd.ntmps20
    go_wp2_with (fail)
    go_loopw [5] (fun i w' => ∃ k q : Nat, k ≤ n ∧ i = .int .i64 k ∧ w' = w.drewN q ∧ RowKit.Hid (∀ j, j < k → xs[j]? = ys[j]?)) (fun i _ => n - (intOf i).toNat)
    case atStart => exact ⟨0, 0, by omega, rfl, rfl, Lib.hid (fun j hj => by omega)⟩
    case round =>
      obtain ⟨k, q, hk, rfl, rfl, hz⟩ := hrel
      by_cases hlt : k < n
      · obtain ⟨x, hx, hu, b, o, rfl, hc⟩ := H1.out.get hlt
        obtain ⟨y, hy, hv, b2, o2, rfl, hd⟩ := H2.out.get hlt
        have HX := Lib.hid hx
        have HY := Lib.hid hy
        clear hx hy
        by_cases h0 : x = y
        · subst h0
          go_wp2_with (fail)
          go_quiet (fail)
          go_wp2
          go_roundw
          case rel => exact ⟨k + 1, q + nq, by omega, by go_num, rfl, Lib.hid (fun j hj => by
            by_cases e : j = k
            · subst e; rw [HX.out, HY.out]
            · exact hz.out j (by omega))⟩
          case measure => simp [intOf]; omega
        · have hb : (x != y) = true := by simpa using h0
          go_wp2_with (fail)
          go_quiet (fail)
          go_wp2
          go_ret
          exact ⟨ret_bool (by rw [hr.out, decide_eq_false (ne_at HX.out HY.out h0)]), q + nq, World.drewN_drewN _ _ _⟩
      · obtain rfl : k = n := by omega
        go_wp2
        go_ret
        exact ⟨ret_bool (by rw [hr.out, decide_eq_true (eq_all H1.out.len H2.out.len hz.out)]), _, rfl⟩
  · have hb : ((n : Int) != (m : Int)) = true := by simp; omega
    have hb2 : (n != m) = true := by simpa using hnm
    go_enter Tryd.func20, Tryd.ntmps20
    go_wp2
    go_ret
    exact ⟨ret_bool (by rw [hr.out, decide_eq_false (fun e => hnm (by rw [← H1.out.len, ← H2.out.len, e]))]), 0, rfl⟩

end Go.Proofs.YtnmeakkehonnmaaDoor.Trp
