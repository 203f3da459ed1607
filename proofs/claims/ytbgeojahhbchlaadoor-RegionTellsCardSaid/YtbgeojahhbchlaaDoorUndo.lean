/-
  The law RegionParts, walked: it returns true in whatever world that holds the package's table, for ints.
-/
import Derived.Test.YtbgeojahhbchlaaDoorGrow
namespace Go.Proofs.YtbgeojahhbchlaaDoor
open Go.RowKit (intOf Below)

/-- At and Where undo each other. -/
theorem undo {k p c x : Int} (hf : fits k p c = true) (h0 : 0 ≤ x) (h1 : x < size k p c) :
    whA k p c x ≠ 5 ∧ atE k p c (whA k p c x) (whB k p c x) = 0 ∧ atV k p c (whA k p c x) (whB k p c x) + whC k p c x = x ∧ 0 ≤ whC k p c x ∧ whC k p c x ≤ 2117 ∧ 0 ≤ atV k p c (whA k p c x) (whB k p c x) ∧ atV k p c (whA k p c x) (whB k p c x) ≤ 80000 := by
  have hp : isPlace k p c x = true := decide_eq_true ⟨hf, h0, h1⟩
  obtain ⟨_, h4, hin⟩ := wPart_in hp
  obtain ⟨eA, eB, eC⟩ := wh_of hf h4 hin
  have hv := fits_of hf
  obtain ⟨g0, g1⟩ := hin
  have he := each_bd hf (wPart k p c x)
  have ho := own_bd hf (wPart k p c x)
  have hfr := frm_bd hf (wPart k p c x)
  have hd0 : 0 ≤ whB k p c x := by rw [eB]; exact Int.ediv_nonneg (by omega) (by omega)
  have hd1 : whB k p c x < own p (wPart k p c x) := by rw [eB]; exact Int.ediv_lt_of_lt_mul (by omega) (by omega)
  have hm0 : 0 ≤ whC k p c x := by rw [eC]; exact Int.emod_nonneg _ (by omega)
  have hm1 : whC k p c x < each k p c (wPart k p c x) := by rw [eC]; exact Int.emod_lt_of_pos _ (by omega)
  have hsum : whB k p c x * each k p c (wPart k p c x) + whC k p c x = x - frm k p c (wPart k p c x) := by
    rw [eB, eC, Int.mul_comm]; exact Int.mul_ediv_add_emod _ _
  have hop : own p (wPart k p c x) ≤ p := by unfold own; split <;> omega
  have hcb := cells_bd hf (wPart k p c x)
  obtain ⟨hV, hE⟩ := atV_ok (part := ((wPart k p c x : Nat) : Int)) (q := whB k p c x) hf ⟨by omega, by omega⟩ ⟨hd0, by omega⟩
  rw [Int.toNat_natCast] at hV
  have hval : atV k p c (whA k p c x) (whB k p c x) = frm k p c (wPart k p c x) + whB k p c x * each k p c (wPart k p c x) := by
    rw [eA, hV]
    by_cases hz : ((wPart k p c x : Nat) : Int) = 0 ∨ ((wPart k p c x : Nat) : Int) = 4
    · rw [if_pos hz]
      have : own p (wPart k p c x) = 1 := by unfold own; rw [if_pos (by omega)]
      have hb : whB k p c x = 0 := by omega
      rw [hb, Int.zero_mul]
    · rw [if_neg hz]
  have hnn : 0 ≤ whB k p c x * each k p c (wPart k p c x) := Int.mul_nonneg hd0 (by omega)
  refine ⟨by omega, by rw [eA]; exact hE, by omega, hm0, by omega, by omega, by omega⟩

theorem size_bd {k p c : Int} (hf : fits k p c = true) : 14 ≤ size k p c ∧ size k p c ≤ 40000 := by
  have hv := fits_of hf
  have hb := hom_bd (k := k) (c := c) (by omega) (by omega)
  have hb2 := lg_bd hf
  have hb3 := mul_bd (p := p) (a := 5 + lg k p c) (m := 2122) (by omega) (by omega) (by omega) (by omega)
  unfold size; rw [if_pos hf]; omega

set_option maxRecDepth 100000 in
set_option maxHeartbeats 4000000 in
theorem parts_walk (a b c u : Int) (W : World) (hTab : Tab W) (ha : isInt a) (hb : isInt b) (hc : isInt c) (hu : isInt u) :
    Calls Tryd.prog 4 #[ar a b c, .int .i64 u] W fun e w' => e = .returned (.bool true) ∧ Below W.heap.size W w' := by
  obtain ⟨u0, u1⟩ := hu
  obtain ⟨K, eK⟩ : ∃ K, RowKit.Hid (1 + pick a 5 = K) := ⟨_, Lib.hid rfl⟩
  obtain ⟨P, eP⟩ : ∃ P, RowKit.Hid (1 + pick b 16 = P) := ⟨_, Lib.hid rfl⟩
  obtain ⟨C, eC⟩ : ∃ C, RowKit.Hid (1 + pick c 256 = C) := ⟨_, Lib.hid rfl⟩
  have hf := conf_fits a b c K P C eK eP eC
  have hsz := size_bd hf
  have hp := pick_bd (c := u) (n := size K P C) (by omega)
  obtain ⟨m1, m2, m3, m4, m5, m6, m7⟩ := undo hf hp.1 hp.2
  have n1 : whA K P C (-1 - pick u (size K P C)) = 5 := (wh_no (place_no (fun h => by omega))).1
  have n2 : whA K P C (size K P C + pick u (size K P C)) = 5 := (wh_no (place_no (fun h => by omega))).1
  have m1' : (whA K P C (pick u (size K P C)) != 5) = true := by simpa using m1
  have hlt : ¬ size K P C < 14 := by omega
  have hK0 : Kept (W.alloc (.cells #[.int .i64 a, .int .i64 b, .int .i64 c] 22)) (W.alloc (.cells #[.int .i64 a, .int .i64 b, .int .i64 c] 22)) := Kept.start (hTab.alloc _)
  go_enter Tryd.func4, Tryd.ntmps4
  go_wp2_with (first
    | (go_at_call 7; with_reducible refine (awake_kept (W.alloc (.cells #[.int .i64 a, .int .i64 b, .int .i64 c] 22)) _ (by assumption)).mono ?_; rintro e w1 ⟨rfl, hK1⟩; obtain ⟨k0, k1, k2⟩ := keepT hK1)
    | (go_at_call 8; with_reducible refine (conf_is _ _ _ K P C eK eP eC (W.alloc (.cells #[.int .i64 a, .int .i64 b, .int .i64 c] 22)) _ (by assumption) ha hb hc).mono ?_; rintro e w2 ⟨rfl, hK2⟩; have hK3 := Kept.start (hK2.tab.alloc (bx K P C)))
    | (go_at_call 13; with_reducible refine (size_kept _ _ _ (w2.alloc (bx K P C)) _ (by with_reducible assumption)).mono ?_; rintro e w' ⟨rfl, hK4⟩; obtain ⟨k0, k1, k2, _⟩ := keep3 hK4)
    | (go_at_call 19; with_reducible refine (pick_any _ _ _ (by omega) (by omega) (by omega) (by omega)).mono ?_; rintro e w' ⟨rfl, rfl⟩)
    | (go_at_call 20; with_reducible refine (at_kept _ _ _ _ _ (w2.alloc (bx K P C)) _ (by with_reducible assumption)).mono ?_; rintro e w' ⟨rfl, hK4⟩; obtain ⟨k0, k1, k2, _⟩ := keep3 hK4)
    | (go_at_call 22; with_reducible refine (where_kept _ _ _ _ (w2.alloc (bx K P C)) _ (by with_reducible assumption)).mono ?_; rintro e w' ⟨rfl, hK4⟩; obtain ⟨k0, k1, k2, _⟩ := keep3 hK4))
  go_ret
  exact ⟨rfl, (bel_of hK2.below).trans ((bel_of hK4.below).mono (bel_of hK2.below).size)⟩

end Go.Proofs.YtbgeojahhbchlaaDoor
