/-
  The law RegionRises, walked: it returns true in whatever world that holds the package's table, for ints.
-/
import Derived.Test.YtbgeojahhbchlaaDoorUndo
namespace Go.Proofs.YtbgeojahhbchlaaDoor
open Go.RowKit (intOf Below)

/-- Where the next stretch begins when q processes of part i have come. -/
def nx (k p c : Int) (i : Nat) (q : Int) : Int := frm k p c i + (if q ≤ own p i then q else own p i) * each k p c i

theorem nx_zero {k p c : Int} (hf : fits k p c = true) (i : Nat) : nx k p c i 0 = frm k p c i := by
  have := own_bd hf i
  unfold nx; rw [if_pos (by omega), Int.zero_mul, Int.add_zero]
theorem nx_last {k p c : Int} (hf : fits k p c = true) (i : Nat) (hi : i < 5) : nx k p c i p = frm k p c (i + 1) := by
  have hv := fits_of hf
  rw [frm_succ k p c i hi]
  unfold nx own
  by_cases h : i = 0 ∨ i = 4
  · rw [if_pos h]
    by_cases hp : p ≤ 1
    · rw [if_pos hp]; obtain rfl : p = 1 := by omega
      rfl
    · rw [if_neg hp]
  · rw [if_neg h, if_pos (Int.le_refl p)]
theorem nx_stays {k p c : Int} (i : Nat) (q : Int) (h : i = 0 ∨ i = 4) (hq : 0 < q) : nx k p c i (q + 1) = nx k p c i q := by
  unfold nx own
  rw [if_pos h, if_neg (by omega)]
  by_cases h1 : q ≤ 1
  · rw [if_pos h1]; obtain rfl : q = 1 := by omega
    rfl
  · rw [if_neg h1]
theorem nx_bd {k p c : Int} (hf : fits k p c = true) (i : Nat) (q : Int) (hq : 0 ≤ q) : 0 ≤ nx k p c i q ∧ nx k p c i q ≤ 80000 := by
  have h1 := frm_bd hf i
  have h2 := each_bd hf i
  have h3 := own_bd hf i
  have h4 := cells_bd hf i
  have h5 : 0 ≤ (if q ≤ own p i then q else own p i) ∧ (if q ≤ own p i then q else own p i) ≤ own p i := by split <;> omega
  have h6 : 0 ≤ (if q ≤ own p i then q else own p i) * each k p c i := Int.mul_nonneg h5.1 (by omega)
  have h7 : (if q ≤ own p i then q else own p i) * each k p c i ≤ own p i * each k p c i := Int.mul_le_mul_of_nonneg_right h5.2 (by omega)
  unfold nx; omega

/-- A stretch of a process: where it begins, and where its last cell is. -/
theorem rise {k p c : Int} (hf : fits k p c = true) (i : Nat) (hi : i ≤ 4) (q : Int) (q0 : 0 ≤ q) (q1 : q < own p i) :
    atV k p c i q = nx k p c i q ∧ atE k p c i q = 0 ∧ whA k p c (nx k p c i q + each k p c i - 1) = i ∧ whB k p c (nx k p c i q + each k p c i - 1) = q ∧ whC k p c (nx k p c i q + each k p c i - 1) = each k p c i - 1 ∧ nx k p c i (q + 1) = nx k p c i q + each k p c i := by
  have hv := fits_of hf
  have he := each_bd hf i
  have ho := own_bd hf i
  have hop : own p i ≤ p := by unfold own; split <;> omega
  obtain ⟨hV, hE⟩ := atV_ok (part := (i : Int)) (q := q) hf ⟨by omega, by omega⟩ ⟨q0, by omega⟩
  rw [Int.toNat_natCast] at hV
  have e1 : nx k p c i q = frm k p c i + q * each k p c i := by unfold nx; rw [if_pos (by omega)]
  have e2 : nx k p c i (q + 1) = frm k p c i + (q * each k p c i + each k p c i) := by unfold nx; rw [if_pos (by omega), Int.add_mul, Int.one_mul]
  have hnn : 0 ≤ q * each k p c i := Int.mul_nonneg q0 (by omega)
  have hle : (q + 1) * each k p c i ≤ own p i * each k p c i := Int.mul_le_mul_of_nonneg_right (by omega) (by omega)
  rw [Int.add_mul, Int.one_mul] at hle
  have hin : inPart k p c (nx k p c i q + each k p c i - 1) i := ⟨by omega, by omega⟩
  obtain ⟨eA, eB, eC⟩ := wh_of hf hi hin
  have ed : nx k p c i q + each k p c i - 1 - frm k p c i = (each k p c i - 1) + q * each k p c i := by omega
  have eb : ((each k p c i - 1) + q * each k p c i) / each k p c i = q := by
    rw [Int.add_mul_ediv_right _ _ (by omega), Int.ediv_eq_zero_of_lt (by omega) (by omega)]; omega
  have ec : ((each k p c i - 1) + q * each k p c i) % each k p c i = each k p c i - 1 := by
    rw [Int.add_mul_emod_self_right, Int.emod_eq_of_lt (by omega) (by omega)]
  refine ⟨?_, hE, eA, by rw [eB, ed, eb], by rw [eC, ed, ec], by omega⟩
  rw [hV, e1]
  by_cases hz : (i : Int) = 0 ∨ (i : Int) = 4
  · rw [if_pos hz]
    have : own p i = 1 := by unfold own; rw [if_pos (by omega)]
    obtain rfl : q = 0 := by omega
    rw [Int.zero_mul]
  · rw [if_neg hz]

abbrev row5 (k p c : Int) : Obj := .cells #[.int .i64 1, .int .i64 3, .int .i64 2, .int .i64 (lg k p c), .int .i64 (hom k c)] 3
theorem row5_at (k p c z : Int) (h0 : 0 ≤ z) (h1 : z ≤ 4) (w : World) : (w.alloc (row5 k p c)).cell? ⟨w.heap.size, z.toNat, none⟩ = some (.int .i64 (each k p c z.toNat)) := by
  rcases (by omega : z = 0 ∨ z = 1 ∨ z = 2 ∨ z = 3 ∨ z = 4) with rfl | rfl | rfl | rfl | rfl
  all_goals (unfold World.cell?; rw [World.alloc_heap_new]; rfl)

set_option maxRecDepth 100000 in
set_option maxHeartbeats 8000000 in
theorem rises_walk (a b c : Int) (W : World) (hTab : Tab W) (ha : isInt a) (hb : isInt b) (hc : isInt c) :
    Calls Tryd.prog 5 #[ar a b c] W fun e w' => e = .returned (.bool true) ∧ Below W.heap.size W w' := by
  obtain ⟨K, eK⟩ : ∃ K, RowKit.Hid (1 + pick a 5 = K) := ⟨_, Lib.hid rfl⟩
  obtain ⟨P, eP⟩ : ∃ P, RowKit.Hid (1 + pick b 16 = P) := ⟨_, Lib.hid rfl⟩
  obtain ⟨C, eC⟩ : ∃ C, RowKit.Hid (1 + pick c 256 = C) := ⟨_, Lib.hid rfl⟩
  have hf := conf_fits a b c K P C eK eP eC
  have hv := fits_of hf
  have hm : RowKit.Hid (home K P C = hom K C) := Lib.hid (by unfold home; rw [if_pos hf])
  have hl : RowKit.Hid (logs K P C = lg K P C) := Lib.hid (by unfold logs; rw [if_pos hf])
  have hK0 : Kept (W.alloc (.cells #[.int .i64 a, .int .i64 b, .int .i64 c] 22)) (W.alloc (.cells #[.int .i64 a, .int .i64 b, .int .i64 c] 22)) := Kept.start (hTab.alloc _)
  go_enter Tryd.func5, Tryd.ntmps5
  go_wp2_with (first
    | (go_at_call 7; with_reducible refine (awake_kept (W.alloc (.cells #[.int .i64 a, .int .i64 b, .int .i64 c] 22)) _ (by assumption)).mono ?_; rintro e w1 ⟨rfl, hK1⟩; obtain ⟨k0, k1, k2⟩ := keepT hK1)
    | (go_at_call 8; with_reducible refine (conf_is _ _ _ K P C eK eP eC (W.alloc (.cells #[.int .i64 a, .int .i64 b, .int .i64 c] 22)) _ (by assumption) ha hb hc).mono ?_; rintro e w2 ⟨rfl, hK2⟩))
  have hK3 : Kept (w2.alloc (bx K P C)) (w2.alloc (bx K P C)) := Kept.start (hK2.tab.alloc (bx K P C))
  have hfin : RowKit.Hid (∀ w', Kept (w2.alloc (bx K P C)) w' → Below W.heap.size W w') := Lib.hid (fun w' h => (bel_of hK2.below).trans ((bel_of h.below).mono (bel_of hK2.below).size))
  clear hK0 hK1 k0 k1 k2 hK2 hTab eK eP eC
  go_loopw [5, 6] (fun n i wr => ∃ z : Int, 0 ≤ z ∧ z ≤ 5 ∧ i = .int .i64 z ∧ n = .int .i64 (frm K P C z.toNat) ∧ Kept (w2.alloc (bx K P C)) wr) (fun _ i _ => (5 - intOf i).toNat)
  case atStart => exact ⟨0, by omega, by omega, rfl, rfl, hK3⟩
  case round =>
    obtain ⟨z, z0, z5, rfl, rfl, hKr⟩ := hrel
    by_cases hz : z ≤ 4
    · have hi := row5_at K P C z z0 hz
      have hz5 : z < 5 := by omega
      have hKd := hKr.drew
      obtain ⟨k0, k1, k2, _⟩ := keep3 hKr
      go_wp2_with (fail)
      refine wp_region_held_drew (S := fun w' => w'.cell? ⟨w2.heap.size, 0, none⟩ = some (.int .i64 K) ∧ w'.cell? ⟨w2.heap.size, 1, none⟩ = some (.int .i64 P) ∧ w'.cell? ⟨w2.heap.size, 2, none⟩ = some (.int .i64 C) ∧ Kept (w2.alloc (bx K P C)) w') (by kernel_rfl) (keep3 hKd) (fun hHeld => ?_)
      refine wpAnyH_take (i := 0) (v := cf K P C) rfl (by kernel_rfl) (by kernel_rfl) (by kernel_rfl) (fun _ _ _ h => h) (Or.inl ⟨by rfl, ?_⟩) (by with_reducible assumption) ?_
      · rintro w ⟨h1, h2, h3, h4⟩
        go_simp
      refine wpAnyH_take (i := 2) (v := cf K P C) rfl (by kernel_rfl) (by kernel_rfl) (by kernel_rfl) (fun _ _ _ h => h) (Or.inl ⟨by rfl, ?_⟩) (by with_reducible assumption) ?_
      · rintro w ⟨h1, h2, h3, h4⟩
        go_simp
      refine wpAnyH_take (i := 5) (v := .int .i64 z) rfl (by kernel_rfl) (by kernel_rfl) (by kernel_rfl) (fun _ _ _ h => h) (Or.inl ⟨by rfl, ?_⟩) (by with_reducible assumption) ?_
      · rintro w ⟨h1, h2, h3, h4⟩
        go_simp
      refine wpAnyH_ready (rs := [1]) (by kernel_rfl) (by simp) ?_
      refine AllReadyH.cons rfl (fun Kx hKx => ?_) AllReadyH.nil
      go_simp
      refine (logs_kept _ _ _ (w2.alloc (bx K P C)) _ hKd).mono ?_
      rintro e w5 ⟨rfl, hK5⟩
      rw [hl.out]
      refine hKx.out _ _ (keep3 hK5) (fun hHeld => ?_)
      clear hKx Kx
      refine wpAnyH_ready (rs := [3]) (by kernel_rfl) (by simp) ?_
      refine AllReadyH.cons rfl (fun Kx hKx => ?_) AllReadyH.nil
      go_simp
      refine (home_kept _ _ _ (w2.alloc (bx K P C)) _ hK5).mono ?_
      rintro e w6 ⟨rfl, hK5⟩
      rw [hm.out]
      refine hKx.out _ _ (keep3 hK5) (fun hHeld => ?_)
      clear hKx Kx
      refine wpAnyH_ready (rs := [4]) (by kernel_rfl) (by simp) ?_
      refine AllReadyH.cons rfl (fun Kx hKx => ?_) AllReadyH.nil
      go_simp
      refine hKx.out _ _ (keep3 (hK5.alloc _)) (fun hHeld => ?_)
      clear hKx Kx
      refine wpAnyH_take (i := 6) (v := .pointer (some ⟨w6.heap.size, z.toNat, none⟩)) rfl (by kernel_rfl) (by kernel_rfl) (by kernel_rfl) (fun _ _ _ h => h) (Or.inl ⟨by rfl, ?_⟩) (by with_reducible assumption) ?_
      · rintro w ⟨h1, h2, h3, h4⟩
        go_simp
      refine wpAnyH_ready (rs := [7]) (by kernel_rfl) (by simp) ?_
      refine AllReadyH.cons rfl (fun Kx hKx => ?_) AllReadyH.nil
      go_simp
      refine hKx.out _ _ (keep3 (hK5.alloc _)) (fun hHeld => ?_)
      clear hKx Kx
      refine wpAnyH_take (i := 8) (v := .int .i64 (each K P C z.toNat)) rfl (by kernel_rfl) (by kernel_rfl) (by kernel_rfl) (fun _ _ _ h => h) (Or.inl ⟨by rfl, ?_⟩) (by with_reducible assumption) ?_
      · rintro w ⟨h1, h2, h3, h4⟩
        go_simp
      refine wpAnyH_done (by kernel_rfl) ?_ _
      have hK6 := hK5.alloc (row5 K P C)
      clear hi hKd k0 k1 k2 hKr
      obtain ⟨i, ei⟩ : ∃ i : Nat, RowKit.Hid (z.toNat = i) := ⟨_, Lib.hid rfl⟩
      have ei4 : RowKit.Hid (i ≤ 4 ∧ (i : Int) = z) := Lib.hid (by have := ei.out; omega)
      have hnz := Lib.hid (nx_zero hf i)
      have heb := each_bd hf i
      rw [ei.out]
      go_wp2_with (fail)
      go_loopw [5, 8] (fun n q wr => ∃ y : Int, 0 ≤ y ∧ y ≤ P ∧ q = .int .i64 y ∧ n = .int .i64 (nx K P C i y) ∧ Kept (w2.alloc (bx K P C)) wr) (fun _ q _ => (P - intOf q).toNat)
      case atStart => exact ⟨0, by omega, by omega, rfl, by rw [hnz.out], hK6⟩
      case round =>
        obtain ⟨y, y0, y5, rfl, rfl, hKr⟩ := hrel
        obtain ⟨k0, k1, k2, _⟩ := keep3 hKr
        by_cases hy : y < P
        · have hne : own P i ≤ P := by unfold own; split <;> omega
          by_cases hsk : 0 < y ∧ (z = 0 ∨ z = 4)
          · obtain ⟨hy0, hz4⟩ := hsk
            have hst := Lib.hid (nx_stays (k := K) (p := P) (c := C) i y (by have := ei4.out; omega) hy0)
            rcases hz4 with hz0 | hz0
            · have t0 : (z == 0) = true := by simpa using hz0
              have hz0' := Lib.hid hz0
              clear hz0
              go_wp2_with (fail)
              go_roundw
              case rel => exact ⟨y + 1, by omega, by omega, rfl, by rw [hst.out], hKr⟩
              case measure => simp [intOf]; omega
            · have t0 : (z == 0) = false := by rw [hz0]; rfl
              have t4 : (z == 4) = true := by simpa using hz0
              have hz0' := Lib.hid hz0
              clear hz0
              go_wp2_with (fail)
              go_roundw
              case rel => exact ⟨y + 1, by omega, by omega, rfl, by rw [hst.out], hKr⟩
              case measure => simp [intOf]; omega
          · have hown : y < own P i := by
              have h4 := ei4.out
              have ho := own_bd hf i
              by_cases hy0 : y = 0
              · omega
              · have : own P i = P := by unfold own; rw [if_neg (by omega)]
                omega
            have hri := rise hf i ei4.out.1 y y0 hown
            rw [ei4.out.2] at hri
            obtain ⟨r1, r2, r3, r4, r5, r6⟩ := hri
            have r6' := Lib.hid r6
            have hnb := nx_bd hf i y y0
            clear r6 hown
            by_cases hy0 : y = 0
            · have hp0 : ¬ 0 < y := by omega
              have hy0' := Lib.hid hy0
              clear hy0 hsk
              go_wp2_with (first
                | (go_at_call 20; with_reducible refine (at_kept _ _ _ _ _ (w2.alloc (bx K P C)) _ (by with_reducible assumption)).mono ?_; rintro e w' ⟨rfl, hK7⟩; obtain ⟨k0, k1, k2, _⟩ := keep3 hK7)
                | (go_at_call 22; with_reducible refine (where_kept _ _ _ _ (w2.alloc (bx K P C)) _ (by with_reducible assumption)).mono ?_; rintro e w' ⟨rfl, hK7⟩; obtain ⟨k0, k1, k2, _⟩ := keep3 hK7))
              go_roundw
              case rel => exact ⟨y + 1, by omega, by omega, rfl, by rw [r6'.out], hK7⟩
              case measure => simp [intOf]; omega
            · have hp0 : 0 < y := by omega
              have t0 : (z == 0) = false := by have h : z ≠ 0 := fun h => hsk ⟨hp0, .inl h⟩; simpa using h
              have t4 : (z == 4) = false := by have h : z ≠ 4 := fun h => hsk ⟨hp0, .inr h⟩; simpa using h
              clear hy0 hsk
              go_wp2_with (first
                | (go_at_call 20; with_reducible refine (at_kept _ _ _ _ _ (w2.alloc (bx K P C)) _ (by with_reducible assumption)).mono ?_; rintro e w' ⟨rfl, hK7⟩; obtain ⟨k0, k1, k2, _⟩ := keep3 hK7)
                | (go_at_call 22; with_reducible refine (where_kept _ _ _ _ (w2.alloc (bx K P C)) _ (by with_reducible assumption)).mono ?_; rintro e w' ⟨rfl, hK7⟩; obtain ⟨k0, k1, k2, _⟩ := keep3 hK7))
              go_roundw
              case rel => exact ⟨y + 1, by omega, by omega, rfl, by rw [r6'.out], hK7⟩
              case measure => simp [intOf]; omega
        · have hyP : RowKit.Hid (y = P) := Lib.hid (by omega)
          have hla := Lib.hid (nx_last hf i (by have := ei4.out; omega))
          go_wp2_with (fail)
          go_roundw
          case rel => exact ⟨z + 1, by omega, by omega, rfl, by rw [hyP.out, hla.out, show (z + 1).toNat = i + 1 by have := ei4.out; omega], hKr⟩
          case measure => simp [intOf]; omega
    · obtain rfl : z = 5 := by omega
      obtain ⟨k0, k1, k2, _⟩ := keep3 hKr
      have he5 : (frm K P C 5 == size K P C) = true := by rw [size_eq hf, ← frm_succ K P C 4 (by omega)]; simp
      have he6 : (frm K P C (Int.toNat 5) == size K P C) = true := he5
      go_wp2_with (go_at_call 13; with_reducible refine (size_kept _ _ _ (w2.alloc (bx K P C)) _ (by with_reducible assumption)).mono ?_; rintro e w' ⟨rfl, hK5⟩)
      go_ret
      exact ⟨rfl, hfin.out _ hK5⟩

end Go.Proofs.YtbgeojahhbchlaaDoor
