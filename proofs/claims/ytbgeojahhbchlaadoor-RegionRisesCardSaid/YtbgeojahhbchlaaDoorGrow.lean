/-
  The law RegionGrows, walked: it returns true in whatever world that holds the package's table, for ints.
-/
import Derived.Test.YtbgeojahhbchlaaDoorRead
namespace Go.Proofs.YtbgeojahhbchlaaDoor
open Go.RowKit (intOf Below)

theorem hom_mono {k c d : Int} (h : c ≤ d) : hom k c ≤ hom k d := by
  unfold hom
  by_cases e1 : k = 1
  · rw [if_pos e1, if_pos e1]; omega
  · rw [if_neg e1, if_neg e1]
    by_cases e2 : k = 2
    · rw [if_pos e2, if_pos e2]; omega
    · rw [if_neg e2, if_neg e2]
      by_cases e3 : k = 3
      · rw [if_pos e3, if_pos e3]; omega
      · rw [if_neg e3, if_neg e3]
        by_cases e4 : k = 4
        · rw [if_pos e4, if_pos e4]; omega
        · rw [if_neg e4, if_neg e4]; omega

theorem grow {k p c q d : Int} (hf : fits k p c = true) (hg : fits k q d = true) (hp : p ≤ q) (hc : c ≤ d) :
    home k p c ≤ home k q d ∧ size k p c ≤ size k q d ∧ bound k p c ≤ bound k q d ∧ logs k p c = 1 + 2 * home k p c + 4 * p ∧ 60 * (home k p c + 2 * p) ≤ bound k p c ∧ 0 ≤ home k p c ∧ home k p c ≤ 1026 ∧ 0 ≤ logs k p c ∧ logs k p c ≤ 2117 := by
  have v := fits_of hf
  have u := fits_of hg
  have h1 := hom_mono (k := k) hc
  have l1 := lg_bd hf
  have l2 := lg_bd hg
  have b1 := hom_bd (k := k) (c := c) (by omega) (by omega)
  have h2 : lg k p c ≤ lg k q d := by unfold lg; omega
  have h3 : p * (5 + lg k p c) ≤ q * (5 + lg k q d) := Int.mul_le_mul hp (by omega) (by omega) (by omega)
  have e1 : home k p c = hom k c := by unfold home; rw [if_pos hf]
  have e2 : home k q d = hom k d := by unfold home; rw [if_pos hg]
  have e3 : size k p c = 1 + p * (5 + lg k p c) + hom k c := by unfold size; rw [if_pos hf]
  have e4 : size k q d = 1 + q * (5 + lg k q d) + hom k d := by unfold size; rw [if_pos hg]
  have e5 : bound k p c = 10 * (6 * (hom k c + 2 * p) + 8) + 16 := by unfold bound; rw [if_pos hf]
  have e6 : bound k q d = 10 * (6 * (hom k d + 2 * q) + 8) + 16 := by unfold bound; rw [if_pos hg]
  have e7 : logs k p c = lg k p c := by unfold logs; rw [if_pos hf]
  have e8 : lg k p c = 1 + 2 * (hom k c + 2 * p) := rfl
  rw [e1, e2, e3, e4, e5, e6, e7]
  omega

/-- A box of three ints, in whatever world behind. -/
theorem keepT {w w' : World} {x y z : Int} {t : TypeId} (hK : Kept (w.alloc (.cells #[.int .i64 x, .int .i64 y, .int .i64 z] t)) w') :
    w'.cell? ⟨w.heap.size, 0, none⟩ = some (.int .i64 x) ∧ w'.cell? ⟨w.heap.size, 1, none⟩ = some (.int .i64 y) ∧ w'.cell? ⟨w.heap.size, 2, none⟩ = some (.int .i64 z) := by
  have h : Box (w.alloc (.cells #[.int .i64 x, .int .i64 y, .int .i64 z] t)) w.heap.size x y z := by unfold Box; simp [go_sem]
  exact h.kept hK

theorem keep6 {W w' : World} {b d : Nat} {k p c l q e : Int} (h : Box W b k p c) (g : Box W d l q e) (hK : Kept W w') :
    w'.cell? ⟨b, 0, none⟩ = some (.int .i64 k) ∧ w'.cell? ⟨b, 1, none⟩ = some (.int .i64 p) ∧ w'.cell? ⟨b, 2, none⟩ = some (.int .i64 c) ∧ w'.cell? ⟨d, 0, none⟩ = some (.int .i64 l) ∧ w'.cell? ⟨d, 1, none⟩ = some (.int .i64 q) ∧ w'.cell? ⟨d, 2, none⟩ = some (.int .i64 e) ∧ Kept W w' :=
  ⟨(h.kept hK).1, (h.kept hK).2.1, (h.kept hK).2.2, (g.kept hK).1, (g.kept hK).2.1, (g.kept hK).2.2, hK⟩

/-- Conf, its answer by names. -/
theorem conf_is (a b c K P C : Int) (eK : RowKit.Hid (1 + pick a 5 = K)) (eP : RowKit.Hid (1 + pick b 16 = P)) (eC : RowKit.Hid (1 + pick c 256 = C)) (W w : World) (hK : Kept W w) (ha : isInt a) (hb : isInt b) (hc : isInt c) :
    Calls Tryd.prog 8 #[ar a b c] w fun e w' => e = .returned (cf K P C) ∧ Kept W w' := by
  rw [← eK.out, ← eP.out, ← eC.out]
  exact conf_kept a b c W w hK ha.1 ha.2 hb.1 hb.2 hc.1 hc.2
theorem conf_fits (a b c K P C : Int) (eK : RowKit.Hid (1 + pick a 5 = K)) (eP : RowKit.Hid (1 + pick b 16 = P)) (eC : RowKit.Hid (1 + pick c 256 = C)) : fits K P C = true := by
  have p1 := pick_bd (c := a) (n := 5) (by omega)
  have p2 := pick_bd (c := b) (n := 16) (by omega)
  have p3 := pick_bd (c := c) (n := 256) (by omega)
  have h1 := eK.out
  have h2 := eP.out
  have h3 := eC.out
  exact fits_mk (by omega)

set_option maxRecDepth 100000 in
set_option maxHeartbeats 4000000 in
theorem grows_walk (a b c u v : Int) (W : World) (hTab : Tab W) (ha : isInt a) (hb : isInt b) (hc : isInt c) (hu : isInt u) (hv : isInt v) :
    Calls Tryd.prog 6 #[ar a b c, .int .i64 u, .int .i64 v] W fun e w' => e = .returned (.bool true) ∧ Below W.heap.size W w' := by
  obtain ⟨u0, u1⟩ := hu
  obtain ⟨v0, v1⟩ := hv
  obtain ⟨K, eK⟩ : ∃ K, RowKit.Hid (1 + pick a 5 = K) := ⟨_, Lib.hid rfl⟩
  obtain ⟨P, eP⟩ : ∃ P, RowKit.Hid (1 + pick b 16 = P) := ⟨_, Lib.hid rfl⟩
  obtain ⟨C, eC⟩ : ∃ C, RowKit.Hid (1 + pick c 256 = C) := ⟨_, Lib.hid rfl⟩
  have hf := conf_fits a b c K P C eK eP eC
  have hv := fits_of hf
  have hp := pick_bd (c := u) (n := 4) (by omega)
  have hq := pick_bd (c := v) (n := 9) (by omega)
  have hK0 : Kept (W.alloc (.cells #[.int .i64 a, .int .i64 b, .int .i64 c] 22)) (W.alloc (.cells #[.int .i64 a, .int .i64 b, .int .i64 c] 22)) := Kept.start (hTab.alloc _)
  have e1 : IntKind.i64.wrap (P + pick u 4) = P + pick u 4 := IntWalk.i64_in _ (by omega)
  have e2 : IntKind.i64.wrap (C + pick v 9) = C + pick v 9 := IntWalk.i64_in _ (by omega)
  go_enter Tryd.func6, Tryd.ntmps6
  go_wp2_with (first
    | (go_at_call 7; with_reducible refine (awake_kept (W.alloc (.cells #[.int .i64 a, .int .i64 b, .int .i64 c] 22)) _ (by assumption)).mono ?_; rintro e w1 ⟨rfl, hK1⟩; obtain ⟨k0, k1, k2⟩ := keepT hK1)
    | (go_at_call 8; with_reducible refine (conf_is _ _ _ K P C eK eP eC (W.alloc (.cells #[.int .i64 a, .int .i64 b, .int .i64 c] 22)) _ (by assumption) ha hb hc).mono ?_; rintro e w2 ⟨rfl, hK2⟩))
  refine wp_mono (Q := Exit.then (fun a' w' => a' = { tmps := #[ar a b c, .int .i64 u, .int .i64 v, .pointer (some ⟨W.heap.size, 0, none⟩), undef, undef, .bool false, .bool true, .pointer (some ⟨w2.heap.size, 0, none⟩), .pointer (some ⟨w2.heap.size + 1, 0, none⟩), .bool true, ar a b c, cf K P C,
      .pointer (some ⟨w2.heap.size, 0, none⟩), .int .i64 K, .pointer (some ⟨w2.heap.size, 1, none⟩), .int .i64 P, .int .i64 u, .int .i64 (pick u 4), .int .i64 (P + pick u 4), .int .i64 (min (P + pick u 4) 16), .pointer (some ⟨w2.heap.size, 2, none⟩), .int .i64 C, .int .i64 v, .int .i64 (pick v 9), .int .i64 (C + pick v 9), .int .i64 (min (C + pick v 9) 256),
      cf K (min (P + pick u 4) 16) (min (C + pick v 9) 256), undef, undef, undef, undef, undef, undef, undef, undef, undef, undef, undef, undef, undef, undef, undef, undef, undef, undef, undef, undef, undef, undef, undef, undef, undef, undef, undef, undef, undef, undef, undef, undef, undef, undef, undef, undef, undef, undef, undef, undef, undef, undef, undef, undef, undef, undef, undef], defers := [] } ∧ w' = ((w2.alloc (bx K P C)).alloc (bx K (min (P + pick u 4) 16) (min (C + pick v 9) 256))).drew) (fun _ _ _ => False)) ?_ ?_
  · go_region_held3 (fun w' => (w'.cell? ⟨w2.heap.size, 0, none⟩ = some (.int .i64 K) ∧ w'.cell? ⟨w2.heap.size, 1, none⟩ = some (.int .i64 P) ∧ w'.cell? ⟨w2.heap.size, 2, none⟩ = some (.int .i64 C)))
      (go_keep)
      (first
      | (go_at_call 19; with_reducible refine (pick_any _ _ _ (by omega) (by omega) (by omega) (by omega)).mono ?_; rintro e w' ⟨rfl, rfl⟩))
    all_goals exact ⟨rfl, rfl⟩
  · rintro e a' w' hp3
    cases e with
    | normal =>
      obtain ⟨rfl, rfl⟩ := hp3
      have hQ : P ≤ min (P + pick u 4) 16 ∧ min (P + pick u 4) 16 ≤ 16 := by omega
      have hD : C ≤ min (C + pick v 9) 256 ∧ min (C + pick v 9) 256 ≤ 256 := by omega
      revert hQ hD
      generalize min (P + pick u 4) 16 = Q
      generalize min (C + pick v 9) 256 = D
      intro hQ hD
      have hg := fits_mk (k := K) (p := Q) (c := D) (by omega)
      obtain ⟨g1, g2, g3, g4, g5, g6, g7, g8, g9⟩ := grow hf hg hQ.1 hD.1
      have hT2 := hK2.tab
      have hB2 := Lib.hid (bel_of hK2.below)
      have hb1 : Box ((w2.alloc (bx K P C)).alloc (bx K Q D)) w2.heap.size K P C := (box_new w2 K P C).kept ((Kept.start (hT2.alloc _)).alloc _)
      have hb2 : Box ((w2.alloc (bx K P C)).alloc (bx K Q D)) (w2.heap.size + 1) K Q D := by have h := box_new (w2.alloc (bx K P C)) K Q D; rwa [World.size_alloc] at h
      have hK3 : Kept ((w2.alloc (bx K P C)).alloc (bx K Q D)) ((w2.alloc (bx K P C)).alloc (bx K Q D)) := Kept.start ((hT2.alloc _).alloc _)
      have hK4 : Kept ((w2.alloc (bx K P C)).alloc (bx K Q D)) ((w2.alloc (bx K P C)).alloc (bx K Q D)).drew.drew := hK3.drew.drew
      have f1 : IntKind.i64.wrap (2 * home K P C) = 2 * home K P C := IntWalk.i64_in _ (by omega)
      have f2 : IntKind.i64.wrap (1 + 2 * home K P C) = 1 + 2 * home K P C := IntWalk.i64_in _ (by omega)
      have f3 : IntKind.i64.wrap (4 * P) = 4 * P := IntWalk.i64_in _ (by omega)
      have f4 : IntKind.i64.wrap (1 + 2 * home K P C + 4 * P) = 1 + 2 * home K P C + 4 * P := IntWalk.i64_in _ (by omega)
      have f5 : IntKind.i64.wrap (2 * P) = 2 * P := IntWalk.i64_in _ (by omega)
      have f6 : IntKind.i64.wrap (home K P C + 2 * P) = home K P C + 2 * P := IntWalk.i64_in _ (by omega)
      have f7 : IntKind.i64.wrap (60 * (home K P C + 2 * P)) = 60 * (home K P C + 2 * P) := IntWalk.i64_in _ (by omega)
      clear eK eP eC hf hg hv hp hq hK0 e1 e2 hK1 k0 k1 k2 hK2 hTab hQ hD g6 g7 g8 g9
      have hfin : RowKit.Hid (∀ w', Kept ((w2.alloc (bx K P C)).alloc (bx K Q D)) w' → Below W.heap.size W w') := Lib.hid (fun w' h => hB2.out.trans ((bel_of2 h.below).mono hB2.out.size))
      go_wp2_with (fail)
      go_region_held3 (fun w' => (w'.cell? ⟨w2.heap.size, 0, none⟩ = some (.int .i64 K) ∧ w'.cell? ⟨w2.heap.size, 1, none⟩ = some (.int .i64 P) ∧ w'.cell? ⟨w2.heap.size, 2, none⟩ = some (.int .i64 C) ∧ w'.cell? ⟨w2.heap.size + 1, 0, none⟩ = some (.int .i64 K) ∧ w'.cell? ⟨w2.heap.size + 1, 1, none⟩ = some (.int .i64 Q) ∧ w'.cell? ⟨w2.heap.size + 1, 2, none⟩ = some (.int .i64 D) ∧ Kept ((w2.alloc (bx K P C)).alloc (bx K Q D)) w'))
        (exact keep6 hb1 hb2 (by with_reducible assumption))
        (first
        | (go_at_call 11; with_reducible refine (home_kept _ _ _ ((w2.alloc (bx K P C)).alloc (bx K Q D)) _ (by with_reducible assumption)).mono ?_; rintro e w' ⟨rfl, hK5⟩)
        | (go_at_call 13; with_reducible refine (size_kept _ _ _ ((w2.alloc (bx K P C)).alloc (bx K Q D)) _ (by with_reducible assumption)).mono ?_; rintro e w' ⟨rfl, hK5⟩)
        | (go_at_call 15; with_reducible refine (logs_kept _ _ _ ((w2.alloc (bx K P C)).alloc (bx K Q D)) _ (by with_reducible assumption)).mono ?_; rintro e w' ⟨rfl, hK5⟩)
        | (go_at_call 17; with_reducible refine (bound_kept _ _ _ ((w2.alloc (bx K P C)).alloc (bx K Q D)) _ (by with_reducible assumption)).mono ?_; rintro e w' ⟨rfl, hK5⟩))
      all_goals go_wp2
      all_goals go_ret
      all_goals exact ⟨rfl, hfin.out _ (by with_reducible assumption)⟩
    | ret => exact hp3.elim
    | exit id => exact hp3.elim
    | goto t => exact hp3.elim
    | panic ch => exact hp3.elim
    | outgrown => exact hp3.elim

end Go.Proofs.YtbgeojahhbchlaaDoor
