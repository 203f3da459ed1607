/-
  The law RegionTells, walked: it returns true in whatever world that holds the package's table, for ints.
-/
import Derived.Test.YtbgeojahhbchlaaDoorRefAt
import Derived.Test.YtbgeojahhbchlaaDoorUndo
namespace Go.Proofs.YtbgeojahhbchlaaDoor
open Go.RowKit (intOf Below)

abbrev arx (a b c : Int) : Obj := .cells #[.int .i64 a, .int .i64 b, .int .i64 c] 22

theorem keepT2 {W w' : World} {a b c d e f : Int} (hK : Kept ((W.alloc (arx a b c)).alloc (bx d e f)) w') :
    w'.cell? ⟨W.heap.size, 0, none⟩ = some (.int .i64 a) ∧ w'.cell? ⟨W.heap.size, 1, none⟩ = some (.int .i64 b) ∧ w'.cell? ⟨W.heap.size, 2, none⟩ = some (.int .i64 c) ∧
    w'.cell? ⟨W.heap.size + 1, 0, none⟩ = some (.int .i64 d) ∧ w'.cell? ⟨W.heap.size + 1, 1, none⟩ = some (.int .i64 e) ∧ w'.cell? ⟨W.heap.size + 1, 2, none⟩ = some (.int .i64 f) := by
  have h1 : Box (W.alloc (arx a b c)) W.heap.size a b c := by unfold Box; simp [go_sem]
  have hb : Below (W.alloc (arx a b c)).heap.size (W.alloc (arx a b c)) w' := bel_of hK.below
  have h2 := box_new (W.alloc (arx a b c)) d e f
  rw [World.size_alloc] at h2
  have h3 := h2.kept hK
  have e1 : ∀ i, w'.cell? ⟨W.heap.size, i, none⟩ = (W.alloc (arx a b c)).cell? ⟨W.heap.size, i, none⟩ := fun i => hb.cell (p := ⟨W.heap.size, i, none⟩) h1.lt
  exact ⟨(e1 0).trans h1.1, (e1 1).trans h1.2.1, (e1 2).trans h1.2.2, h3.1, h3.2.1, h3.2.2⟩

abbrev row15 (k p c d e f : Int) : Obj := .cells #[.int .i64 k, .int .i64 p, .int .i64 c, .int .i64 d, .int .i64 e, .int .i64 f, .int .i64 d, .int .i64 p, .int .i64 c, .int .i64 k, .int .i64 e, .int .i64 c, .int .i64 k, .int .i64 p, .int .i64 f] 24
theorem row15_at (k p c d e f z : Int) (h0 : 0 ≤ z) (h1 : z < 5) (w : World) : ∃ a b g, (w.alloc (row15 k p c d e f)).cell? ⟨w.heap.size, z.toNat * 3, none⟩ = some (.int .i64 a) ∧ (w.alloc (row15 k p c d e f)).cell? ⟨w.heap.size, z.toNat * 3 + 1, none⟩ = some (.int .i64 b) ∧ (w.alloc (row15 k p c d e f)).cell? ⟨w.heap.size, z.toNat * 3 + 2, none⟩ = some (.int .i64 g) := by
  rcases (by omega : z = 0 ∨ z = 1 ∨ z = 2 ∨ z = 3 ∨ z = 4) with rfl | rfl | rfl | rfl | rfl
  all_goals (unfold World.cell?; rw [World.alloc_heap_new]; exact ⟨_, _, _, rfl, rfl, rfl⟩)
abbrev row6 (u v x a b c : Int) : Obj := .cells #[.int .i64 u, .int .i64 v, .int .i64 x, .int .i64 a, .int .i64 b, .int .i64 c] 22
theorem row6_at (u v x a b c z : Int) (h0 : 0 ≤ z) (h1 : z < 2) (hx : x < 9223372036854775808) (hc : c < 9223372036854775808) (w : World) : ∃ l m n, n < 9223372036854775808 ∧ (w.alloc (row6 u v x a b c)).cell? ⟨w.heap.size, z.toNat * 3, none⟩ = some (.int .i64 l) ∧ (w.alloc (row6 u v x a b c)).cell? ⟨w.heap.size, z.toNat * 3 + 1, none⟩ = some (.int .i64 m) ∧ (w.alloc (row6 u v x a b c)).cell? ⟨w.heap.size, z.toNat * 3 + 2, none⟩ = some (.int .i64 n) := by
  rcases (by omega : z = 0 ∨ z = 1) with rfl | rfl
  all_goals (unfold World.cell?; rw [World.alloc_heap_new])
  · exact ⟨_, _, _, hx, rfl, rfl, rfl⟩
  · exact ⟨_, _, _, hc, rfl, rfl, rfl⟩

theorem size_all_bd (k p c : Int) : 0 ≤ size k p c ∧ size k p c ≤ 40000 := by
  by_cases hf : fits k p c = true
  · have := size_bd hf; omega
  · unfold size; rw [if_neg hf]; omega

theorem Kept.cell {W w : World} {b o : Nat} {v : Value} (h : Kept W w) (hc : W.cell? ⟨b, o, none⟩ = some v) : w.cell? ⟨b, o, none⟩ = some v := (h.below.cell (p := ⟨b, o, none⟩) (World.block_lt_of_cell? W _ hc)).trans hc
theorem Kept.trans {A B C : World} (h : Kept A B) (g : Kept B C) : Kept A C := h.next g.below

set_option maxRecDepth 100000 in
set_option maxHeartbeats 8000000 in
theorem tells_walk (a b c d e f u v x : Int) (W : World) (hTab : Tab W) (ha : isInt a) (hb : isInt b) (hc : isInt c) (hu : isInt u) (hv : isInt v) (hx : isInt x) :
    Calls Tryd.prog 3 #[ar a b c, cf d e f, .int .i64 u, .int .i64 v, .int .i64 x] W fun e w' => e = .returned (.bool true) ∧ Below W.heap.size W w' := by
  obtain ⟨K, eK⟩ : ∃ K, RowKit.Hid (1 + pick a 5 = K) := ⟨_, Lib.hid rfl⟩
  obtain ⟨P, eP⟩ : ∃ P, RowKit.Hid (1 + pick b 16 = P) := ⟨_, Lib.hid rfl⟩
  obtain ⟨C, eC⟩ : ∃ C, RowKit.Hid (1 + pick c 256 = C) := ⟨_, Lib.hid rfl⟩
  have hK0 : Kept ((W.alloc (arx a b c)).alloc (bx d e f)) ((W.alloc (arx a b c)).alloc (bx d e f)) := Kept.start ((hTab.alloc _).alloc _)
  go_enter Tryd.func3, Tryd.ntmps3
  go_wp2_with (first
    | (go_at_call 7; with_reducible refine (awake_kept ((W.alloc (arx a b c)).alloc (bx d e f)) _ (by with_reducible assumption)).mono ?_; rintro e w1 ⟨rfl, hK1⟩; obtain ⟨k0, k1, k2, _, _, _⟩ := keepT2 hK1)
    | (go_at_call 8; with_reducible refine (conf_is _ _ _ K P C eK eP eC ((W.alloc (arx a b c)).alloc (bx d e f)) _ (by with_reducible assumption) ha hb hc).mono ?_; rintro e w2 ⟨rfl, hK2⟩; obtain ⟨_, _, _, o0, o1, o2⟩ := keepT2 hK2; have hlo : W.heap.size + 1 < w2.heap.size := World.block_lt_of_cell? w2 _ o0))
  have hK3 : Kept ((w2.alloc (bx K P C)).alloc (row15 K P C d e f)) ((w2.alloc (bx K P C)).alloc (row15 K P C d e f)) := Kept.start ((hK2.tab.alloc _).alloc _)
  have hfin : RowKit.Hid (∀ w', Kept ((w2.alloc (bx K P C)).alloc (row15 K P C d e f)) w' → Below W.heap.size W w') := Lib.hid (fun w' h => (bel_of2 hK2.below).trans ((bel_of2 h.below).mono (bel_of2 hK2.below).size))
  have hat := Lib.hid (fun z h0 h1 => row15_at K P C d e f z h0 h1 (w2.alloc (bx K P C)))
  clear hK0 hK1 k0 k1 k2 hK2 o0 o1 o2 hlo hTab eK eP eC ha hb hc
  obtain ⟨u0, u1⟩ := hu
  obtain ⟨v0, v1⟩ := hv
  obtain ⟨x0, x1⟩ := hx
  go_loopw [55] (fun i wr => ∃ z : Int, 0 ≤ z ∧ z ≤ 5 ∧ i = .int .i64 z ∧ Kept ((w2.alloc (bx K P C)).alloc (row15 K P C d e f)) wr) (fun i _ => (5 - intOf i).toNat)
  case atStart => exact ⟨0, by omega, by omega, rfl, hK3⟩
  case round =>
    obtain ⟨z, z0, z5, rfl, hKr⟩ := hrel
    by_cases hz : z < 5
    · obtain ⟨k, p, g, r0, r1, r2⟩ := hat.out z z0 hz
      rw [World.size_alloc] at r0 r1 r2
      replace r0 := hKr.cell r0
      replace r1 := hKr.cell r1
      replace r2 := hKr.cell r2
      have hKx : Kept (wr.alloc (bx k p g)) (wr.alloc (bx k p g)) := Kept.start (hKr.tab.alloc _)
      have hKd := hKx.drew
      have hfin2 : RowKit.Hid (∀ w', Kept (wr.alloc (bx k p g)) w' → Kept ((w2.alloc (bx K P C)).alloc (row15 K P C d e f)) w') := Lib.hid (fun w' h => kept_of hKr h)
      go_wp2_with (fail)
      clear r0 r1 r2
      go_region_held3 (fun w' => (w'.cell? ⟨wr.heap.size, 0, none⟩ = some (.int .i64 k) ∧ w'.cell? ⟨wr.heap.size, 1, none⟩ = some (.int .i64 p) ∧ w'.cell? ⟨wr.heap.size, 2, none⟩ = some (.int .i64 g) ∧ Kept (wr.alloc (bx k p g)) w'))
        (exact keep3 (by with_reducible assumption))
        (first
        | (go_at_call 9; with_reducible refine (fits_kept _ _ _ (wr.alloc (bx k p g)) _ (by with_reducible assumption)).mono ?_; rintro e w' ⟨rfl, hK5⟩)
        | (go_at_call 10; with_reducible refine (rfits_kept _ _ _ (wr.alloc (bx k p g)) _ (by with_reducible assumption)).mono ?_; rintro e w' ⟨rfl, hK5⟩)
        | (go_at_call 11; with_reducible refine (home_kept _ _ _ (wr.alloc (bx k p g)) _ (by with_reducible assumption)).mono ?_; rintro e w' ⟨rfl, hK5⟩)
        | (go_at_call 12; with_reducible refine (rhome_kept _ _ _ (wr.alloc (bx k p g)) _ (by with_reducible assumption)).mono ?_; rintro e w' ⟨rfl, hK5⟩)
        | (go_at_call 13; with_reducible refine (size_kept _ _ _ (wr.alloc (bx k p g)) _ (by with_reducible assumption)).mono ?_; rintro e w' ⟨rfl, hK5⟩)
        | (go_at_call 14; with_reducible refine (rsize_kept _ _ _ (wr.alloc (bx k p g)) _ (by with_reducible assumption)).mono ?_; rintro e w' ⟨rfl, hK5⟩)
        | (go_at_call 15; with_reducible refine (logs_kept _ _ _ (wr.alloc (bx k p g)) _ (by with_reducible assumption)).mono ?_; rintro e w' ⟨rfl, hK5⟩)
        | (go_at_call 16; with_reducible refine (rlogs_kept _ _ _ (wr.alloc (bx k p g)) _ (by with_reducible assumption)).mono ?_; rintro e w' ⟨rfl, hK5⟩)
        | (go_at_call 17; with_reducible refine (bound_kept _ _ _ (wr.alloc (bx k p g)) _ (by with_reducible assumption)).mono ?_; rintro e w' ⟨rfl, hK5⟩)
        | (go_at_call 18; with_reducible refine (rbound_kept _ _ _ (wr.alloc (bx k p g)) _ (by with_reducible assumption)).mono ?_; rintro e w' ⟨rfl, hK5⟩))
      have hsb := size_all_bd k p g
      have pu := pick_bd (c := u) (n := 7) (by omega)
      have pv := pick_bd (c := v) (n := 18) (by omega)
      have px := pick_bd (c := x) (n := size k p g + 2) (by omega)
      have e1 : IntKind.i64.wrap (pick u 7 - 1) = pick u 7 - 1 := IntWalk.i64_in _ (by omega)
      have e2 : IntKind.i64.wrap (pick v 18 - 1) = pick v 18 - 1 := IntWalk.i64_in _ (by omega)
      have e3 : IntKind.i64.wrap (size k p g + 2) = size k p g + 2 := IntWalk.i64_in _ (by omega)
      have e4 : IntKind.i64.wrap (pick x (size k p g + 2) - 1) = pick x (size k p g + 2) - 1 := IntWalk.i64_in _ (by omega)
      have hK5d := hK5.drew
      clear hKx hKd
      go_wp2_with (fail)
      go_region_held3 (fun w' => (w'.cell? ⟨wr.heap.size, 0, none⟩ = some (.int .i64 k) ∧ w'.cell? ⟨wr.heap.size, 1, none⟩ = some (.int .i64 p) ∧ w'.cell? ⟨wr.heap.size, 2, none⟩ = some (.int .i64 g) ∧ Kept (wr.alloc (bx k p g)) w'))
        (first | exact keep3 (by with_reducible assumption) | exact keep3 (Kept.alloc (by with_reducible assumption) _))
        (first
        | (go_at_call 14; with_reducible refine (rsize_kept _ _ _ (wr.alloc (bx k p g)) _ (by with_reducible assumption)).mono ?_; rintro e w8 ⟨rfl, hK8⟩)
        | (go_at_call 19; with_reducible refine (pick_any _ _ _ (by omega) (by omega) (by omega) (by omega)).mono ?_; rintro e w' ⟨rfl, rfl⟩))
      go_wp2_with (fail)
      have hK9 : Kept (w8.alloc (row6 u v x (pick u 7 - 1) (pick v 18 - 1) (pick x (size k p g + 2) - 1))) (w8.alloc (row6 u v x (pick u 7 - 1) (pick v 18 - 1) (pick x (size k p g + 2) - 1))) := Kept.start (hK8.tab.alloc _)
      have hb1 : RowKit.Hid (Box (w8.alloc (row6 u v x (pick u 7 - 1) (pick v 18 - 1) (pick x (size k p g + 2) - 1))) wr.heap.size k p g) := Lib.hid ((box_new wr k p g).kept (hK8.alloc _))
      have hat2 := Lib.hid (fun y h0 h1 => row6_at u v x (pick u 7 - 1) (pick v 18 - 1) (pick x (size k p g + 2) - 1) y h0 h1 (by omega) (by omega) w8)
      have hfin3 : RowKit.Hid (∀ w', Kept (w8.alloc (row6 u v x (pick u 7 - 1) (pick v 18 - 1) (pick x (size k p g + 2) - 1))) w' → Kept ((w2.alloc (bx K P C)).alloc (row15 K P C d e f)) w') := Lib.hid (fun w' h => hfin2.out _ (kept_of hK8 h))
      clear hK8 hK5 hK5d e1 e2 e3 e4 pu pv px hsb hfin2
      go_loopw [111] (fun i ws => ∃ y : Int, 0 ≤ y ∧ y ≤ 2 ∧ i = .int .i64 y ∧ Kept (w8.alloc (row6 u v x (pick u 7 - 1) (pick v 18 - 1) (pick x (size k p g + 2) - 1))) ws) (fun i _ => (2 - intOf i).toNat)
      case atStart => exact ⟨0, by omega, by omega, rfl, hK9⟩
      case round =>
        obtain ⟨y, y0, y5, rfl, hKs⟩ := hrel
        by_cases hy : y < 2
        · obtain ⟨l, m, n, hn, s0, s1, s2⟩ := hat2.out y y0 hy
          replace s0 := hKs.cell s0
          replace s1 := hKs.cell s1
          replace s2 := hKs.cell s2
          have hb1' := hb1.out.kept (hKs.alloc (arx l m n))
          have hb2' : Box (wr.alloc (arx l m n)) wr.heap.size l m n := by unfold Box; simp [go_sem]
          have hK11 : Kept (wr.alloc (arx l m n)) (wr.alloc (arx l m n)) := Kept.start (hKs.tab.alloc _)
          obtain ⟨j0, j1, j2, j3, j4, j5, _⟩ := keep6 hb1' hb2' hK11
          have g1 := Lib.hid hb1'
          have g2 := Lib.hid hb2'
          clear hb1' hb2'
          go_wp2_with (first
            | (go_at_call 20; with_reducible refine (at_kept _ _ _ _ _ (wr.alloc (arx l m n)) _ (by with_reducible assumption)).mono ?_; rintro e w' ⟨rfl, hK11⟩; obtain ⟨j0, j1, j2, j3, j4, j5, _⟩ := keep6 g1.out g2.out hK11)
            | (go_at_call 21; with_reducible refine (rat_kept _ _ _ _ _ (wr.alloc (arx l m n)) _ (by with_reducible assumption)).mono ?_; rintro e w' ⟨rfl, hK11⟩; obtain ⟨j0, j1, j2, j3, j4, j5, _⟩ := keep6 g1.out g2.out hK11)
            | (go_at_call 22; with_reducible refine (where_kept _ _ _ _ (wr.alloc (arx l m n)) _ (by with_reducible assumption)).mono ?_; rintro e w' ⟨rfl, hK11⟩; obtain ⟨j0, j1, j2, j3, j4, j5, _⟩ := keep6 g1.out g2.out hK11)
            | (go_at_call 23; with_reducible refine (rwhere_kept _ _ _ _ (wr.alloc (arx l m n)) _ (by with_reducible assumption) hn).mono ?_; rintro e w' ⟨rfl, hK11⟩; obtain ⟨j0, j1, j2, j3, j4, j5, _⟩ := keep6 g1.out g2.out hK11))
          go_roundw
          case rel => exact ⟨y + 1, by omega, by omega, rfl, kept_of hKs hK11⟩
          case measure => simp [intOf]; omega
        · obtain rfl : y = 2 := by omega
          go_wp2_with (fail)
          go_roundw
          case rel => exact ⟨z + 1, by omega, by omega, rfl, hfin3.out _ hKs⟩
          case measure => simp [intOf]; omega
    · obtain rfl : z = 5 := by omega
      go_wp2_with (fail)
      go_ret
      exact ⟨rfl, hfin.out _ hKr⟩

end Go.Proofs.YtbgeojahhbchlaaDoor
