/-
  CellsTells of layer 3 returns true for every input, and its arguments read as before. No condition.
-/
import Derived.Test.YthegokjhgdneoaaTold
import Derived.Deep.CutRange
import Derived.Deep.RegionHeld3
namespace Go.Proofs.Ythegokjhgdneoaa.cellsTells
open Go.ChangeShapes Go.WideShapes Go.ChangeAt Go.RowKit Go.Joins Go.Deep

/-- Memory that was laid from the argument's cells. -/
def Cut1 (W : World) (L : List (Int × Int)) (s22 : Value) (w : World) : Prop :=
  ∃ (mb ab m c : Nat) (sa : Option Addr), s22 = .pointer (some ⟨mb, 0, none⟩) ∧ Own W w mb ab (.slice sa m c) L ∧ (m = 0 → sa = none) ∧ m ≤ 60 ∧ ab < w.heap.size

theorem own_nil {W w : World} {ab : Nat} (hg : W.grownBy w none) (h1 : W.heap.size ≤ ab) (h2 : w.heap.size ≠ ab) : Own W (w.alloc (.cells #[.slice none 0 0] 29)) w.heap.size ab (.slice none 0 0) [] :=
  ⟨⟨by simp [go_sem], .inl ⟨rfl, rfl⟩, h2, fun k x hk => by simp at hk⟩, grown_trans hg (World.grownBy_alloc _ _ _), hg.size, h1⟩

set_option maxRecDepth 100000 in
set_option maxHeartbeats 4000000 in
theorem walk (sl rs : Option Addr) (n c rn rc : Nat) (N OP0 p i z : Int) (L : List (Int × Int)) (W : World) (hL : L.length = min n 60) (hc : n ≤ c) (hok : OkL L)
    (hsl : n = 0 ∨ (0 < n ∧ ∃ b o, sl = some ⟨b, o, none⟩ ∧ Src W b o L)) (rN : I64 N) (rO : I64 OP0)
    (hZ : ∀ i, i < rn → ∃ b o, rs = some ⟨b, o, none⟩ ∧ ∃ N z, RawAt W b (o + i * 4) N z) :
    Calls Try.prog 3 #[.slice sl n c, .int .i64 N, .int .i64 OP0, .int .i64 p, .int .i64 i, .int .u64 z, .slice rs rn rc] W fun e w' => e = .returned (.bool true) ∧ W.grownBy w' none := by
  unfold I64 at rN rO
  have HZ := Lib.hid hZ
  have HS := Lib.hid hsl
  have HL := Lib.hid hL
  clear hZ hsl hL
  have b1 := pick_bd N 70 (by omega)
  have b2 := pick_bd N 9 (by omega)
  have b3 := pick_bd N 1099511627776 (by omega)
  go_enter Try.func3, Try.ntmps3
  go_wp2_with (fail)
  refine (awake_any _).mono ?_
  rintro e w1 ⟨rfl, hg⟩
  go_wp2_with (first
    | (go_at_call 9; with_reducible refine (pick_any _ _ _ (by omega) (by omega) (by omega) (by omega)).mono ?_; rintro e w' ⟨rfl, rfl⟩))
  have hsz := hg.size
  have HW := Lib.hid (grown_trans hg (World.grownBy_alloc w1 (.cells #[.int .i64 (pick N 70), .int .i64 (-1 - pick N 9), .int .i64 (1048577 + pick N 1099511627776)] 3) none))
  clear hg
  go_loopw [37] (fun i w => ∃ k : Int, 0 ≤ k ∧ k ≤ 3 ∧ i = .int .i64 k ∧ (w1.alloc (.cells #[.int .i64 (pick N 70), .int .i64 (-1 - pick N 9), .int .i64 (1048577 + pick N 1099511627776)] 3)).grownBy w none) (fun i _ => (3 - intOf i).toNat)
  case atStart => exact ⟨0, by omega, by omega, rfl, grown_refl _ _⟩
  case round =>
    obtain ⟨k, k0, k3, rfl, hB⟩ := hrel
    have q0 : wr.cell? ⟨w1.heap.size, 0, none⟩ = some (.int .i64 (pick N 70)) := hB.cell (by simp [go_sem]) (by simp)
    have q1 : wr.cell? ⟨w1.heap.size, 1, none⟩ = some (.int .i64 (-1 - pick N 9)) := hB.cell (by simp [go_sem]) (by simp)
    have q2 : wr.cell? ⟨w1.heap.size, 2, none⟩ = some (.int .i64 (1048577 + pick N 1099511627776)) := hB.cell (by simp [go_sem]) (by simp)
    have hk : k = 0 ∨ k = 1 ∨ k = 2 ∨ k = 3 := by omega
    rcases hk with rfl | rfl | rfl | rfl
    · go_wp2_with (fail)
      refine (new_yes_any (pick N 70) _ (by omega) (by omega)).mono ?_
      rintro e w2 ⟨rfl, hr, g2, hl2⟩
      have hsz2 := g2.size
      go_wp2_with (fail)
      refine (rnew_yes (pick N 70) _ (by omega) (by omega)).mono ?_
      rintro e w3 ⟨rfl, hr2, g3, hl3⟩
      have hm2 := g3.cell (a := ⟨w2.heap.size, 0, none⟩) (v := .slice (some ⟨wr.heap.size + 3, 0, none⟩) (pick N 70).toNat (pick N 70).toNat) (by simp [go_sem]) (by simp)
      have HG := Lib.hid (grown_trans (grown_trans hB (grown_trans g2 (World.grownBy_alloc w2 (.cells #[.slice (some ⟨wr.heap.size + 3, 0, none⟩) (pick N 70).toNat (pick N 70).toNat] 29) none))) (grown_trans g3 (World.grownBy_alloc w3 (.cells #[.slice (some ⟨w2.heap.size + 1 + 1, 0, none⟩) (pick N 70).toNat (pick N 70).toNat] 29) none)))
      have hm3 := alloc_cell (.cells #[.slice (some ⟨w2.heap.size + 1 + 1, 0, none⟩) (pick N 70).toNat (pick N 70).toNat] 29) hm2
      have HR1 := Lib.hid (((hr.far (World.grownBy_alloc w2 (.cells #[.slice (some ⟨wr.heap.size + 3, 0, none⟩) (pick N 70).toNat (pick N 70).toNat] 29) none) (by simp)).far g3 (by simp)).far (World.grownBy_alloc w3 (.cells #[.slice (some ⟨w2.heap.size + 1 + 1, 0, none⟩) (pick N 70).toNat (pick N 70).toNat] 29) none) (by simp))
      rw [World.size_alloc] at hr2
      have HR2 := Lib.hid (hr2.far (World.grownBy_alloc w3 (.cells #[.slice (some ⟨w2.heap.size + 1 + 1, 0, none⟩) (pick N 70).toNat (pick N 70).toNat] 29) none) (by simp))
      clear hB hr hr2
      go_wp2_with (first
          | (go_at_call 12; (with_reducible refine (same_yes _ _ _ _ _ (List.replicate (pick N 70).toNat (0, 0)) _ (by simp) (by omega) HR1.out.look HR2.out.look).mono ?_); rintro e w4 ⟨rfl, g4⟩))
      go_roundw
      case rel => exact ⟨1, by omega, by omega, rfl, grown_trans HG.out g4⟩
      case measure => simp [intOf]
    · go_wp2_with (fail)
      refine (new_no_any (-1 - pick N 9) _ (by omega)).mono ?_
      rintro e w2 ⟨rfl, g2⟩
      go_wp2_with (fail)
      refine (rnew_no (-1 - pick N 9) _ (by omega)).mono ?_
      rintro e w3 ⟨rfl, g3⟩
      have hm2 := g3.cell (a := ⟨w2.heap.size, 0, none⟩) (v := .slice none 0 0) (by simp [go_sem]) (by simp)
      have HG := Lib.hid (grown_trans (grown_trans hB (grown_trans g2 (World.grownBy_alloc _ _ none))) (grown_trans g3 (World.grownBy_alloc w3 (.cells #[.slice none 0 0] 29) none)))
      have hm3 := alloc_cell (.cells #[.slice none 0 0] 29) hm2
      clear hB
      go_wp2_with (first
        | (go_at_call 12; (with_reducible refine (same_yes none none 0 0 0 [] _ rfl (by omega) (fun k x hk => by simp at hk) (fun k x hk => by simp at hk)).mono ?_); rintro e w4 ⟨rfl, g4⟩))
      go_roundw
      case rel => exact ⟨2, by omega, by omega, rfl, grown_trans HG.out g4⟩
      case measure => simp [intOf]
    · go_wp2_with (fail)
      refine (new_no_any (1048577 + pick N 1099511627776) _ (by omega)).mono ?_
      rintro e w2 ⟨rfl, g2⟩
      go_wp2_with (fail)
      refine (rnew_no (1048577 + pick N 1099511627776) _ (by omega)).mono ?_
      rintro e w3 ⟨rfl, g3⟩
      have hm2 := g3.cell (a := ⟨w2.heap.size, 0, none⟩) (v := .slice none 0 0) (by simp [go_sem]) (by simp)
      have HG := Lib.hid (grown_trans (grown_trans hB (grown_trans g2 (World.grownBy_alloc _ _ none))) (grown_trans g3 (World.grownBy_alloc w3 (.cells #[.slice none 0 0] 29) none)))
      have hm3 := alloc_cell (.cells #[.slice none 0 0] 29) hm2
      clear hB
      go_wp2_with (first
        | (go_at_call 12; (with_reducible refine (same_yes none none 0 0 0 [] _ rfl (by omega) (fun k x hk => by simp at hk) (fun k x hk => by simp at hk)).mono ?_); rintro e w4 ⟨rfl, g4⟩))
      go_roundw
      case rel => exact ⟨3, by omega, by omega, rfl, grown_trans HG.out g4⟩
      case measure => simp [intOf]
    · have HB := Lib.hid (grown_trans HW.out hB)
      have hszr := hB.size
      rw [World.size_alloc] at hszr
      clear hB q0 q1 q2
      go_upto_region 10 with (fail)
      go_cut [22] from 61 to 67 (fun s22 wx => Cut1 W L s22 wx)
      case first =>
        rcases HS.out with hn0 | ⟨hn0, b, o, rfl, hsrc⟩
        · subst hn0
          have hLn : L = [] := List.eq_nil_of_length_eq_zero (by rw [HL.out]; simp)
          subst hLn
          cases sl
          all_goals
            go_wp2
            go_meet
            case rel => exact ⟨_, w1.heap.size, 0, 0, none, rfl, own_nil HB.out hsz (by omega), fun _ => rfl, by omega, by simp; omega⟩
        · have HS1 := Lib.hid (hsrc.far HB.out (by simp))
          clear hsrc
          have hsz2 := HB.out.size
          by_cases h60 : 60 < n
          · have h60' : (60 : Int) < n := by omega
            have hc60 : (60 : Int) ≤ c := by omega
            have HL60 : RowKit.Hid (L.length = 60) := Lib.hid (by rw [HL.out]; omega)
            go_wp2_with (at_builtin; refine append_cells _ rfl _ _ rfl (by rfl) b o 60 c (by rfl) L HL60.out HS1.out (by omega) (by omega) ?_; intro cap w' hr hg2 hl2)
            go_meet
            case rel => exact ⟨_, _, 60, cap, _, rfl, Own.begin (c := cap) hr (grown_trans HB.out hg2) hsz2 hl2 HL60.out, fun h => by omega, by omega, by simp; omega⟩
          · have h60' : ¬ (60 : Int) < n := by omega
            have hc60 : (n : Int) ≤ c := by omega
            have HLn : RowKit.Hid (L.length = n) := Lib.hid (by rw [HL.out]; omega)
            go_wp2_with (at_builtin; refine append_cells _ rfl _ _ rfl (by rfl) b o n c (by rfl) L HLn.out HS1.out (by omega) (by omega) ?_; intro cap w' hr hg2 hl2)
            go_meet
            case rel => exact ⟨_, _, n, cap, _, rfl, Own.begin (c := cap) hr (grown_trans HB.out hg2) hsz2 hl2 HLn.out, fun h => by omega, by omega, by simp; omega⟩
      case rest =>
        obtain ⟨mb, ab, m, cm, sa, rfl, hO, hz0, hm60, hablt⟩ := hcut
        have hm := hO.mem.m
        have hmlt := hO.mem.lt
        have HO := Lib.hid hO
        clear hO HB HW HS HL
        go_wp2_with (fail)
        refine (own_mem mb ab m cm sa L _ HO.out.mem (by omega) hz0).mono ?_
        rintro e w2 ⟨ta, c2, bb, rfl, hform, hr2, g2, hb1, hb2⟩
        have hx := (HO.out.keep g2).alloc (.cells #[.slice ta m c2] 29)
        have hy : Own W (w2.alloc (.cells #[.slice ta m c2] 29)) w2.heap.size bb (.slice ta m c2) L :=
          ⟨⟨by simp [go_sem], hform, by omega, hr2.far (World.grownBy_alloc _ _ none) (by simp)⟩, hx.grown, by have := HO.out.grown.size; omega, by have := HO.out.grown.size; omega⟩
        have hD : Two W _ mb ab _ L w2.heap.size bb _ L := ⟨hx, hy, by omega, by omega, by omega⟩
        have HD := Lib.hid hD
        have bO := pick_bd OP0 6 (by omega)
        have hop : pick OP0 6 = 0 ∨ pick OP0 6 = 1 ∨ pick OP0 6 = 2 ∨ pick OP0 6 = 3 ∨ pick OP0 6 = 4 ∨ pick OP0 6 = 5 := by omega
        have HOP := Lib.hid hop
        have hsz3 := g2.size
        clear hD hx hy hform hr2 g2 HO hm hop bO
        go_wp2_with (first
          | (go_at_call 9; with_reducible refine (pick_any _ _ _ (by omega) (by omega) (by omega) (by omega)).mono ?_; rintro e w' ⟨rfl, rfl⟩)
          | (go_at_call 14; (with_reducible refine (do_any _ _ _ _ HOP.out HD.out hok).mono ?_); rintro e w3 ⟨rfl, L2, hN⟩; have hm3 := hN.two.x.mem.m; have hn3 := hN.two.y.mem.m)
          | (go_at_call 12; (with_reducible refine (same_mem _ _ _ _ _ _ _ _ _ _ _ hN.two.x.mem hN.two.y.mem (by omega)).mono ?_); rintro e w4 ⟨rfl, g4⟩)
          | (go_at_call 14; (with_reducible refine (do_nil _ _ _ _ _ HOP.out).mono ?_); rintro e w5 ⟨rfl, g5⟩; have HD2 := Lib.hid ((hN.two.keep g4).keep g5); have HK2 := Lib.hid hN.ok))
        clear HD hm3 hn3 g4 g5
        have hab1 : ab < w2.heap.size := by omega
        have hbb1 : bb < w2.heap.size := by omega
        go_loopw [24] (fun i w => ∃ (k : Nat) (L3 : List (Int × Int)), k ≤ rn ∧ k ≤ 80 ∧ i = .int .i64 k ∧ OkL L3 ∧ Two W w mb ab (.slice sa m cm) L3 w2.heap.size bb (.slice ta m c2) L3) (fun i _ => (80 - intOf i).toNat)
        case atStart => exact ⟨0, L2, by omega, by omega, rfl, HK2.out, HD2.out⟩
        case round =>
          clear HD2 HK2 hN
          obtain ⟨k, L3, k0, k1, rfl, hok3, hD⟩ := hrel
          by_cases hlt : k < rn ∧ k < 80
          · obtain ⟨h1, h2⟩ := hlt
            obtain ⟨b, o, rfl, M, y, hraw⟩ := HZ.out k h1
            have e0 := hD.x.grown.cell hraw.c0 (by simp)
            have e1 := hD.x.grown.cell hraw.c1 (by simp)
            have e2 := hD.x.grown.cell hraw.c2 (by simp)
            have e3 := hD.x.grown.cell hraw.c3 (by simp)
            have r0 := hraw.r0
            have r1 := hraw.r1
            have r2 := hraw.r2
            unfold I64 at r0 r1 r2
            clear hraw
            have h80 : (k : Int) < 80 := by omega
            have hxl := hD.x.mem.lt
            have hyl := hD.y.mem.lt
            have hal2 : ab < wr.heap.size ∧ bb < wr.heap.size := by omega
            have bp := pick_bd (M 0) 6 (by omega)
            have bq := pick_bd (M 1) 17 (by omega)
            have br := pick_bd (M 2) (m + 2) (by omega)
            have hop : RowKit.Hid (pick (M 0) 6 = 0 ∨ pick (M 0) 6 = 1 ∨ pick (M 0) 6 = 2 ∨ pick (M 0) 6 = 3 ∨ pick (M 0) 6 = 4 ∨ pick (M 0) 6 = 5) := Lib.hid (by omega)
            have hm1 := (hD.x.alloc (.cells #[.int .i64 (M 0), .int .i64 (M 1), .int .i64 (M 2), .int .u64 y] 39)).mem.m
            have hn1 := (hD.y.alloc (.cells #[.int .i64 (M 0), .int .i64 (M 1), .int .i64 (M 2), .int .u64 y] 39)).mem.m
            have HD : RowKit.Hid (Two W (wr.alloc (.cells #[.int .i64 (M 0), .int .i64 (M 1), .int .i64 (M 2), .int .u64 y] 39)).drew mb ab (.slice sa m cm) L3 w2.heap.size bb (.slice ta m c2) L3) := Lib.hid ((hD.keep (World.grownBy_alloc wr (.cells #[.int .i64 (M 0), .int .i64 (M 1), .int .i64 (M 2), .int .u64 y] 39) none)).keep (grown_drewN _ 1 none))
            clear hD
            go_upto_region 18 with (fail)
            clear e0 e1 e2 e3
            have x0 : (wr.alloc (.cells #[.int .i64 (M 0), .int .i64 (M 1), .int .i64 (M 2), .int .u64 y] 39)).cell? ⟨wr.heap.size, 0, none⟩ = some (.int .i64 (M 0)) := by simp [go_sem]
            have x1 : (wr.alloc (.cells #[.int .i64 (M 0), .int .i64 (M 1), .int .i64 (M 2), .int .u64 y] 39)).cell? ⟨wr.heap.size, 1, none⟩ = some (.int .i64 (M 1)) := by simp [go_sem]
            have x2 : (wr.alloc (.cells #[.int .i64 (M 0), .int .i64 (M 1), .int .i64 (M 2), .int .u64 y] 39)).cell? ⟨wr.heap.size, 2, none⟩ = some (.int .i64 (M 2)) := by simp [go_sem]
            have x3 : (wr.alloc (.cells #[.int .i64 (M 0), .int .i64 (M 1), .int .i64 (M 2), .int .u64 y] 39)).cell? ⟨wr.heap.size, 3, none⟩ = some (.int .u64 y) := by simp [go_sem]
            have hw1 : IntKind.i64.wrap ((m : Int) + 2) = m + 2 := IntWalk.i64_in _ (by omega)
            have hw2 : IntKind.i64.wrap (pick (M 2) (m + 2) - 1) = pick (M 2) (m + 2) - 1 := IntWalk.i64_in _ (by omega)
            generalize hwb : wr.alloc (.cells #[.int .i64 (M 0), .int .i64 (M 1), .int .i64 (M 2), .int .u64 y] 39) = wb at HD x0 x1 x2 x3 hm1 hn1 ⊢
            go_region_held3 (fun w' => (w'.cell? ⟨wr.heap.size, 0, none⟩ = some (.int .i64 (M 0)) ∧ w'.cell? ⟨wr.heap.size, 1, none⟩ = some (.int .i64 (M 1)) ∧ w'.cell? ⟨wr.heap.size, 2, none⟩ = some (.int .i64 (M 2)) ∧ w'.cell? ⟨wr.heap.size, 3, none⟩ = some (.int .u64 y) ∧ w'.cell? ⟨mb, 0, none⟩ = some (.slice sa m cm) ∧ w'.cell? ⟨w2.heap.size, 0, none⟩ = some (.slice ta m c2)))
              (first | exact ⟨x0, x1, x2, x3, hm1, hn1⟩ | exact ⟨t0, t1, t2, t3, tm, tn⟩ | exact ⟨s0, s1, s2, s3, sm, sn⟩)
              (first
                | (go_at_call 9; with_reducible refine (pick_any _ _ _ (by omega) (by omega) (by omega) (by omega)).mono ?_; rintro e w' ⟨rfl, rfl⟩)
                | (go_at_call 14; (with_reducible refine (do_any _ _ _ _ hop.out HD.out hok3).mono ?_); rintro e w6 ⟨rfl, L4, hN⟩; have t0 := hN.keep ⟨wr.heap.size, 0, none⟩ _ x0 (by simp; omega) (by simp; omega); have t1 := hN.keep ⟨wr.heap.size, 1, none⟩ _ x1 (by simp; omega) (by simp; omega); have t2 := hN.keep ⟨wr.heap.size, 2, none⟩ _ x2 (by simp; omega) (by simp; omega); have t3 := hN.keep ⟨wr.heap.size, 3, none⟩ _ x3 (by simp; omega) (by simp; omega); have tm := hN.two.x.mem.m; have tn := hN.two.y.mem.m)
                | (go_at_call 12; (with_reducible refine (same_mem _ _ _ _ _ _ _ _ _ _ _ hN.two.x.mem hN.two.y.mem (by omega)).mono ?_); rintro e w7 ⟨rfl, g7⟩; have s0 := g7.cell t0 (by simp); have s1 := g7.cell t1 (by simp); have s2 := g7.cell t2 (by simp); have s3 := g7.cell t3 (by simp); have sm := g7.cell tm (by simp); have sn := g7.cell tn (by simp); have HD3 := Lib.hid (hN.two.keep g7); have HK3 := Lib.hid hN.ok))
            go_wp2
            go_roundw
            case rel => exact ⟨k + 1, L4, by omega, by omega, by go_num, HK3.out, HD3.out⟩
            case measure => simp [intOf]; omega
          · have HG := Lib.hid hD.x.grown
            clear hD
            have hlt' : rn ≤ k ∨ (k < rn ∧ 80 ≤ k) := by omega
            clear hlt
            rcases hlt' with h1 | ⟨h1, h2⟩
            all_goals
              try (have h80 : (80 : Int) ≤ k := by omega)
              go_wp2
              go_ret
              exact ⟨rfl, HG.out⟩

set_option maxRecDepth 100000 in
theorem lifted (os : Os) (started : os.Started) (H : Type) (enc : TypeId × Value → H) :
    ReturnsInHanded {} Try.checked os 3 .any (Rows.cellsTellsSpec.pre6 enc Try.prog Try.f3 Rows.cellsTellsRow.domain false) (Rows.cellsTellsSpec.post enc Try.prog Try.f3 false true false false) := by
  refine returnsInHanded_of_change (C := Try.checked) own started (by kernel_rfl) Try.func3
    (ChangeSpec.witness6 (enc := enc) (C := Try.checked) false ⟨#[], #[.slice none 0 0, .int .i64 0, .int .i64 0, .int .i64 0, .int .i64 0, .int .u64 0, .slice none 0 0], []⟩ 8 (by kernel_rfl) (by kernel_rfl) (by kernel_rfl) (by kernel_rfl)) ?_
  intro W base args ds gs before hval0 hW hcnd _
  have hval : ∀ (j : Nat) t v, Try.f3.params[j]? = some t → args[j]? = some v → Value.okWide Try.prog W .any base t v := hval0
  have hW' := hW
  obtain ⟨p, q, hA0, hV, rfl, hfz, hnd⟩ := hW
  have hA : DataW.TrodAll enc Try.prog W 0 (fun _ => true) true Try.f3.params.toList args.toList ds p := hA0
  rw [Try.params3] at hA hval
  obtain ⟨v0, vs0, d0, ds0, p0, q0, hargs, rfl, rfl, h0, r0⟩ := trodAll_cons hA
  obtain ⟨v1, vs1, d1, ds1, p1, q1, rfl, rfl, rfl, h1, r1⟩ := trodAll_cons r0
  obtain ⟨v2, vs2, d2, ds2, p2, q2, rfl, rfl, rfl, h2, r2⟩ := trodAll_cons r1
  obtain ⟨v3, vs3, d3, ds3, p3, q3, rfl, rfl, rfl, h3, r3⟩ := trodAll_cons r2
  obtain ⟨v4, vs4, d4, ds4, p4, q4, rfl, rfl, rfl, h4, r4⟩ := trodAll_cons r3
  obtain ⟨v5, vs5, d5, ds5, p5, q5, rfl, rfl, rfl, h5, r5⟩ := trodAll_cons r4
  obtain ⟨v6, vs6, d6, ds6, p6, q6, rfl, rfl, rfl, h6, r6⟩ := trodAll_cons r5
  obtain ⟨rfl, rfl, rfl⟩ := trodAll_nil r6
  obtain rfl : args = #[v0, v1, v2, v3, v4, v5, v6] := by cases args; simp_all
  obtain ⟨sl, n, c, rfl, hc, _, hsl, hZ⟩ := open_cells (hval 0 22 v0 rfl rfl) h0
  obtain ⟨a1, rfl, _, _, w1⟩ := open_int Try.underlying3 (hval 1 3 v1 rfl rfl) h1
  obtain ⟨a2, rfl, _, _, w2⟩ := open_int Try.underlying3 (hval 2 3 v2 rfl rfl) h2
  obtain ⟨a3, rfl, _, _, w3⟩ := open_int Try.underlying3 (hval 3 3 v3 rfl rfl) h3
  obtain ⟨a4, rfl, _, _, w4⟩ := open_int Try.underlying3 (hval 4 3 v4 rfl rfl) h4
  obtain ⟨a5, rfl, _, _, w5⟩ := open_int Try.underlying23 (hval 5 23 v5 rfl rfl) h5
  obtain ⟨rs, rn, rc, rfl, hR⟩ := open_raws (hval 6 24 v6 rfl rfl) h6
  have key : ∃ L : List (Int × Int), L.length = min n 60 ∧ OkL L ∧ (n = 0 ∨ (0 < n ∧ ∃ b o, sl = some ⟨b, o, none⟩ ∧ Src W b o L)) := by
    by_cases hn : n = 0
    · exact ⟨[], by rw [hn]; rfl, (fun x hx => by cases hx), .inl hn⟩
    · rcases hsl with h | ⟨b, o, rfl⟩
      · exact absurd h hn
      · obtain ⟨L, hL, hS, hB⟩ := list_of (b := b) (o := o) (n := n) (fun i hi => by obtain ⟨b2, o2, e, hx⟩ := hZ i hi; cases e; exact hx) (min n 60) (by omega)
        exact ⟨L, hL, fun x hx => (hB x hx).2, .inr ⟨by omega, b, o, rfl, hS⟩⟩
  obtain ⟨L, hL, hok, hsl2⟩ := key
  refine (walk sl rs n c rn rc a1 a2 a3 a4 a5 L W hL hc hok hsl2 (i64_of w1) (i64_of w2) hR).mono fun e W' ⟨he, hg⟩ => ?_
  subst he
  exact ⟨_, rfl, told hW' rfl rfl rfl (by kernel_rfl) hg⟩

theorem over : Rows.cellsTellsRow.holds Try.pinned (OpenSpec.ofChange Rows.cellsTellsSpec) :=
  OpenClaim.holds_of_wide 3 Try.f3 rfl rfl rfl rfl rfl rfl rfl ⟨rfl, rfl, rfl, rfl, rfl⟩ rfl rfl rfl rfl rfl (by kernel_rfl) Try.func3 (by kernel_rfl)
    (of_decide_eq_true (by kernel_rfl)) (by unfold Func.isWrapper; first | (rw [if_pos (by decide +kernel)]; kernel_rfl) | (rw [if_neg (by decide +kernel)]; exact ⟨rfl, rfl⟩))
    (fun os started H enc _ => lifted os started H enc)

end Go.Proofs.Ythegokjhgdneoaa.cellsTells

namespace Go.Proofs.Ythegokjhgdneoaa
theorem cellsTells_holds : Rows.CellsTellsSaid := cellsTells.over
end Go.Proofs.Ythegokjhgdneoaa
