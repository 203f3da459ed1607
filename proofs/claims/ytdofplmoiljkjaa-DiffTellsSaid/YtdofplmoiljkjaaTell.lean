/-
  The law DiffTells, walked: it returns true in whatever world that holds the words, the writes and the raw numbers.
-/
import Derived.Test.YtdofplmoiljkjaaAll
namespace Go.Proofs.Ytdofplmoiljkjaa
open Go.RowKit (Below intOf)

abbrev sw (s : Option Addr) (n c : Nat) : Value := .slice s n c

/-- Slices in a block of slices. -/
theorem ext_row (w : World) (cs : Array Value) (t : TypeId) (i : Nat) (v : Value) (h : cs[i]? = some v) : (w.alloc (.cells cs t)).cell? ⟨w.heap.size, i, none⟩ = some v := by
  unfold World.cell?
  rw [World.alloc_heap_new]
  simpa using h

set_option maxRecDepth 100000 in
set_option maxHeartbeats 16000000 in
theorem tells_walk (sa sb sl sr so sp : Option Addr) (na ca nb cb nl cl nr cr no co np cp : Nat) (base : Int) (x y : List Int) (m : List Wr) (w : World)
    (_ha : na ≤ ca) (_hb : nb ≤ cb) (_hl : nl ≤ cl) (_ha2 : ca ≤ 9223372036854775807) (_hb2 : cb ≤ 9223372036854775807) (_hl2 : cl ≤ 9223372036854775807)
    (hX : WS w sa (min na 60) ca x) (hY : WS w sb (min nb 60) cb y) (hM : RS w sl (min nl 20) cl m) (hR : IS w sr nr) (hO : IS w so no) (hP : PS w sp np) (ib : I64 base) :
    Calls Try.prog 3 #[.slice sa na ca, .slice sb nb cb, .int .i64 base, .slice sl nl cl, .slice sr nr cr, .slice so no co, .slice sp np cp] w fun e w' => e = .returned (.bool true) ∧ Ext w w' := by
  obtain ⟨n, en, ln⟩ := nat_of (c := base) (n := 30) (by omega)
  obtain ⟨k, ek, lk⟩ := nat_of (c := base) (n := 1000) (by omega)
  obtain ⟨NX, eX⟩ : ∃ N, RowKit.Hid (min na 60 = N) := ⟨_, Lib.hid rfl⟩
  obtain ⟨NY, eY⟩ : ∃ N, RowKit.Hid (min nb 60 = N) := ⟨_, Lib.hid rfl⟩
  obtain ⟨NM, eM⟩ : ∃ N, RowKit.Hid (min nl 20 = N) := ⟨_, Lib.hid rfl⟩
  rw [eX.out] at hX
  rw [eY.out] at hY
  rw [eM.out] at hM
  have lX : NX ≤ 60 := by have := eX.out; omega
  have lY : NY ≤ 60 := by have := eY.out; omega
  have lM : NM ≤ 20 := by have := eM.out; omega
  have mX : min (na : Int) 60 = (NX : Int) := by have := eX.out; omega
  have mY : min (nb : Int) 60 = (NY : Int) := by have := eY.out; omega
  have mM : min (nl : Int) 20 = (NM : Int) := by have := eM.out; omega
  have qX : ∀ W, (Instr.sliceAt 22 (.slice sa na ca) none (some (.int .i64 (NX : Int))) none).run Try.prog W = .ok (.slice sa NX ca) W := fun W => slice_hi22 sa na ca NX (by have := hX.lc; omega) W
  have qY : ∀ W, (Instr.sliceAt 22 (.slice sb nb cb) none (some (.int .i64 (NY : Int))) none).run Try.prog W = .ok (.slice sb NY cb) W := fun W => slice_hi22 sb nb cb NY (by have := hY.lc; omega) W
  have qM : ∀ W, (Instr.sliceAt 23 (.slice sl nl cl) none (some (.int .i64 (NM : Int))) none).run Try.prog W = .ok (.slice sl NM cl) W := fun W => slice_hi sl nl cl NM (by have := hM.lc; omega) W
  go_enter Try.func3, Try.ntmps3
  go_wp2_with (fail)
  refine (awake_any w).mono ?_
  rintro e w1 ⟨rfl, hE⟩
  replace hX := hX.ext hE
  replace hY := hY.ext hE
  replace hM := hM.ext hE
  replace hR := hR.ext hE
  replace hO := hO.ext hE
  replace hP := hP.ext hE
  go_wp2_with (fail)
  refine (pick_is _ 30 n _ en ib (by omega) (by omega)).mono ?_
  rintro e w' ⟨rfl, rfl⟩
  clear mX mY mM qX qY qM _ha _hb _hl _ha2 _hb2 _hl2
  go_wp2_with (fail)
  refine (words_any _ _ _ n _ hR (by omega)).mono ?_
  rintro e w2 ⟨ga, a, rfl, hA, hE1⟩
  replace hX := hX.ext hE1
  replace hY := hY.ext hE1
  replace hM := hM.ext hE1
  replace hO := hO.ext hE1
  replace hP := hP.ext hE1
  replace hE := hE.trans hE1
  clear hE1 hR
  go_wp2_with (fail)
  refine (words_any _ _ _ n _ hO (by omega)).mono ?_
  rintro e w3 ⟨gb, b, rfl, hB, hE1⟩
  replace hX := hX.ext hE1
  replace hY := hY.ext hE1
  replace hM := hM.ext hE1
  replace hA := hA.ext hE1
  replace hP := hP.ext hE1
  replace hE := hE.trans hE1
  clear hE1 hO
  go_wp2_with (fail)
  refine (pick_is _ 1000 k _ ek ib (by omega) (by omega)).mono ?_
  rintro e w' ⟨rfl, rfl⟩
  go_wp2_with (fail)
  refine (writes_any _ _ _ n k _ hP (by omega) (by omega) (by omega)).mono ?_
  rintro e w4 ⟨sv, nv, cv, v, rfl, hV, l20, hvb, hE1⟩
  clear hvb
  replace hX := hX.ext hE1
  replace hY := hY.ext hE1
  replace hM := hM.ext hE1
  replace hA := hA.ext hE1
  replace hB := hB.ext hE1
  replace hE := hE.trans hE1
  clear hE1 hP
  have hE5 : Ext w4 (w4.alloc (.cells #[.int .i64 base, .int .i64 k] 3)) := Ext.new _ _
  replace hX := hX.ext hE5
  replace hY := hY.ext hE5
  replace hM := hM.ext hE5
  replace hA := hA.ext hE5
  replace hB := hB.ext hE5
  replace hV := hV.ext hE5
  replace hE := hE.trans hE5
  have hK : RowKit.Hid (∀ i : Nat, i < 2 → ∃ z, I64 z ∧ (w4.alloc (.cells #[.int .i64 base, .int .i64 k] 3)).cell? ⟨w4.heap.size, i, none⟩ = some (.int .i64 z)) := Lib.hid (fun i hi => by
    rcases (by omega : i = 0 ∨ i = 1) with rfl | rfl
    · exact ⟨base, ib, ext_row _ _ _ _ _ rfl⟩
    · exact ⟨k, by unfold I64; omega, ext_row _ _ _ _ _ rfl⟩)
  go_wp2_with (fail)
  obtain ⟨W0, hW0⟩ : ∃ W0, w4.alloc (.cells #[.int .i64 base, .int .i64 k] 3) = W0 := ⟨_, rfl⟩
  rw [hW0] at hX hY hM hA hB hV hE hK ⊢
  clear hW0 hE5
  go_loopw [72] (fun i wr => ∃ j : Nat, j ≤ 2 ∧ i = .int .i64 j ∧ Ext W0 wr) (fun i _ => 2 - (intOf i).toNat)
  case atStart => exact ⟨0, by omega, rfl, Ext.refl W0⟩
  case round =>
    obtain ⟨j, hj, rfl, hE1⟩ := hrel
    by_cases hj2 : j < 2
    · obtain ⟨z, iz, cz⟩ := hK.out j hj2
      replace cz := Ext.cell hE1 cz
      have hj3 : (j : Int) < 2 := by omega
      have hn1 : Ext W0 (wr.alloc (.cells #[.slice sa NX ca, .slice sb NY cb, .slice (some ⟨ga, 0, none⟩) n n, .slice (some ⟨gb, 0, none⟩) n n, .slice (some ⟨ga, 0, none⟩) n n, .slice sa NX ca] 30)) := hE1.trans (Ext.new _ _)
      have hZ : RowKit.Hid (∀ i : Nat, i < 3 → ∃ s1 n1 c1 xs s2 n2 c2 ys, WS (wr.alloc (.cells #[.slice sa NX ca, .slice sb NY cb, .slice (some ⟨ga, 0, none⟩) n n, .slice (some ⟨gb, 0, none⟩) n n, .slice (some ⟨ga, 0, none⟩) n n, .slice sa NX ca] 30)) s1 n1 c1 xs ∧ WS (wr.alloc (.cells #[.slice sa NX ca, .slice sb NY cb, .slice (some ⟨ga, 0, none⟩) n n, .slice (some ⟨gb, 0, none⟩) n n, .slice (some ⟨ga, 0, none⟩) n n, .slice sa NX ca] 30)) s2 n2 c2 ys ∧
          (wr.alloc (.cells #[.slice sa NX ca, .slice sb NY cb, .slice (some ⟨ga, 0, none⟩) n n, .slice (some ⟨gb, 0, none⟩) n n, .slice (some ⟨ga, 0, none⟩) n n, .slice sa NX ca] 30)).cell? ⟨wr.heap.size, i * 2, none⟩ = some (sw s1 n1 c1) ∧ (wr.alloc (.cells #[.slice sa NX ca, .slice sb NY cb, .slice (some ⟨ga, 0, none⟩) n n, .slice (some ⟨gb, 0, none⟩) n n, .slice (some ⟨ga, 0, none⟩) n n, .slice sa NX ca] 30)).cell? ⟨wr.heap.size, i * 2 + 1, none⟩ = some (sw s2 n2 c2)) := Lib.hid (fun i hi => by
        rcases (by omega : i = 0 ∨ i = 1 ∨ i = 2) with rfl | rfl | rfl
        · exact ⟨_, _, _, x, _, _, _, y, hX.ext hn1, hY.ext hn1, ext_row _ _ _ _ _ rfl, ext_row _ _ _ _ _ rfl⟩
        · exact ⟨_, _, _, a, _, _, _, b, hA.ext hn1, hB.ext hn1, ext_row _ _ _ _ _ rfl, ext_row _ _ _ _ _ rfl⟩
        · exact ⟨_, _, _, a, _, _, _, x, hA.ext hn1, hX.ext hn1, ext_row _ _ _ _ _ rfl, ext_row _ _ _ _ _ rfl⟩)
      have hMn := hM.ext hn1
      have hVn := hV.ext hn1
      go_wp2_with (fail)
      clear cz
      obtain ⟨W1, hW1⟩ : ∃ W1, wr.alloc (.cells #[.slice sa NX ca, .slice sb NY cb, .slice (some ⟨ga, 0, none⟩) n n, .slice (some ⟨gb, 0, none⟩) n n, .slice (some ⟨ga, 0, none⟩) n n, .slice sa NX ca] 30) = W1 := ⟨_, rfl⟩
      rw [hW1] at hn1 hZ hMn hVn ⊢
      clear hW1
      go_loopw [87] (fun i ws => ∃ h : Nat, h ≤ 3 ∧ i = .int .i64 h ∧ Ext W1 ws) (fun i _ => 3 - (intOf i).toNat)
      case atStart => exact ⟨0, by omega, rfl, Ext.refl W1⟩
      case round =>
        obtain ⟨h, hh, rfl, hE2⟩ := hrel
        by_cases hh3 : h < 3
        · obtain ⟨s1, n1, c1, xs, s2, n2, c2, ys, hS, hT, d0, d1⟩ := hZ.out h hh3
          replace d0 := Ext.cell hE2 d0
          replace d1 := Ext.cell hE2 d1
          have hh4 : (h : Int) < 3 := by omega
          have hn2 : Ext W1 (wr.alloc (.cells #[.slice s1 n1 c1, .slice s2 n2 c2] 30)) := hE2.trans (Ext.new _ _)
          have b0 : (wr.alloc (.cells #[.slice s1 n1 c1, .slice s2 n2 c2] 30)).cell? ⟨wr.heap.size, 0, none⟩ = some (.slice s1 n1 c1) := ext_row _ _ _ _ _ rfl
          have b1 : (wr.alloc (.cells #[.slice s1 n1 c1, .slice s2 n2 c2] 30)).cell? ⟨wr.heap.size, 1, none⟩ = some (.slice s2 n2 c2) := ext_row _ _ _ _ _ rfl
          replace hS := hS.ext hn2
          replace hT := hT.ext hn2
          have hM3 := hMn.ext hn2
          have hV3 := hVn.ext hn2
          obtain ⟨E1, eE1⟩ : ∃ E, RowKit.Hid (ofE n1 n2 z = E) := ⟨_, Lib.hid rfl⟩
          obtain ⟨r, er⟩ : ∃ r, RowKit.Hid (r = decide (xs = ys)) := ⟨_, Lib.hid rfl⟩
          obtain ⟨r2, er2⟩ : ∃ r2, RowKit.Hid (r2 = zeroB xs) := ⟨_, Lib.hid rfl⟩
          go_wp2_with (fail)
          clear d0 d1
          refine (of_all _ _ n1 n2 c1 c2 xs ys z E1 _ _ (Ext.refl _) hS hT eE1).mono ?_
          rintro e w5 ⟨sc, kc, cc, rfl, hC, hX1⟩
          replace b0 := Ext.cell hX1 b0
          replace b1 := Ext.cell hX1 b1
          replace hS := hS.ext hX1
          replace hT := hT.ext hX1
          replace hM3 := hM3.ext hX1
          replace hV3 := hV3.ext hX1
          replace hn2 := hn2.trans hX1
          clear hX1
          go_wp2_with (fail)
          refine (rof_all _ _ n1 n2 c1 c2 xs ys z E1 _ _ (Ext.refl _) hS hT eE1).mono ?_
          rintro e w6 ⟨sd, kd, cd, rfl, hD, hX1⟩
          replace b0 := Ext.cell hX1 b0
          replace b1 := Ext.cell hX1 b1
          replace hS := hS.ext hX1
          replace hT := hT.ext hX1
          replace hC := hC.ext hX1
          replace hM3 := hM3.ext hX1
          replace hV3 := hV3.ext hX1
          replace hn2 := hn2.trans hX1
          clear hX1
          have hne1 : (E1 != E1) = false := by simp
          have hrr : (!(r == r)) = false := by simp
          have hrr2 : (!(r2 == r2)) = false := by simp
          have keep : ∀ w', Ext w6 w' → w'.cell? ⟨wr.heap.size, 0, none⟩ = some (.slice s1 n1 c1) ∧ w'.cell? ⟨wr.heap.size, 1, none⟩ = some (.slice s2 n2 c2) ∧ Ext w6 w' := fun w' h => ⟨Ext.cell h b0, Ext.cell h b1, h⟩
          have Keep := Lib.hid keep
          have k0 : Ext w6 w6 := Ext.refl w6
          have k1 : Ext w6 w6.drew := Ext.drew k0
          clear keep
          go_wp2_with (fail)
          go_region_held3 (fun w' => (w'.cell? ⟨wr.heap.size, 0, none⟩ = some (.slice s1 n1 c1) ∧ w'.cell? ⟨wr.heap.size, 1, none⟩ = some (.slice s2 n2 c2) ∧ Ext w6 w'))
            (exact Keep.out _ (by with_reducible assumption))
            (first
              | (go_at_call 13; with_reducible refine (rwrites_ext _ _ kc kd cc cd _ _ true w6 _ (by with_reducible assumption) hC hD (Lib.hid (decide_eq_true rfl).symm)).mono ?_; rintro e w' ⟨rfl, k2⟩)
              | (go_at_call 14; with_reducible refine (same_ext _ _ n1 n2 c1 c2 _ _ r w6 _ (by with_reducible assumption) hS hT er).mono ?_; rintro e w' ⟨rfl, k3⟩)
              | (go_at_call 15; with_reducible refine (rsame_ext _ _ n1 n2 c1 c2 _ _ r w6 _ (by with_reducible assumption) hS hT er).mono ?_; rintro e w' ⟨rfl, k4⟩)
              | (go_at_call 16; with_reducible refine (zero_ext _ n1 c1 _ r2 w6 _ (by with_reducible assumption) hS er2).mono ?_; rintro e w' ⟨rfl, k5⟩)
              | (go_at_call 17; with_reducible refine (rzero_ext _ n1 c1 _ r2 w6 _ (by with_reducible assumption) hS er2).mono ?_; rintro e w' ⟨rfl, k6⟩))
          rename_i hHeld
          clear hHeld k0 k1 k2 k3 k4 k5 Keep hne1 hrr hrr2 hC hD
          replace b0 := Ext.cell k6 b0
          replace hS := hS.ext k6
          replace hM3 := hM3.ext k6
          replace hV3 := hV3.ext k6
          replace hn2 := hn2.trans k6
          clear k6 b1 hT
          have hX1 : Ext w' (w'.alloc (.cells #[.slice sl NM cl, .slice sv nv cv] 23)) := Ext.new _ _
          replace b0 := Ext.cell hX1 b0
          replace hS := hS.ext hX1
          replace hM3 := hM3.ext hX1
          replace hV3 := hV3.ext hX1
          replace hn2 := hn2.trans hX1
          have hQ : RowKit.Hid (∀ i : Nat, i < 2 → ∃ sq nq cq q, RS (w'.alloc (.cells #[.slice sl NM cl, .slice sv nv cv] 23)) sq nq cq q ∧ (w'.alloc (.cells #[.slice sl NM cl, .slice sv nv cv] 23)).cell? ⟨w'.heap.size, i, none⟩ = some (sw sq nq cq)) := Lib.hid (fun i hi => by
            rcases (by omega : i = 0 ∨ i = 1) with rfl | rfl
            · exact ⟨_, _, _, m, hM3, ext_row _ _ _ _ _ rfl⟩
            · exact ⟨_, _, _, v, hV3, ext_row _ _ _ _ _ rfl⟩)
          go_wp2_with (fail)
          obtain ⟨W3, hW3⟩ : ∃ W3, w'.alloc (.cells #[.slice sl NM cl, .slice sv nv cv] 23) = W3 := ⟨_, rfl⟩
          rw [hW3] at b0 hS hn2 hQ ⊢
          clear hW3 hX1 hM3 hV3
          go_loopw [144] (fun i wt => ∃ g : Nat, g ≤ 2 ∧ i = .int .i64 g ∧ Ext W3 wt) (fun i _ => 2 - (intOf i).toNat)
          case atStart => exact ⟨0, by omega, rfl, Ext.refl W3⟩
          case round =>
            obtain ⟨g, hg, rfl, hE3⟩ := hrel
            by_cases hg2 : g < 2
            · obtain ⟨sq, nq, cq, q, hq, cq0⟩ := hQ.out g hg2
              replace cq0 := Ext.cell hE3 cq0
              have b2 := Ext.cell hE3 b0
              have hS2 := hS.ext hE3
              replace hq := hq.ext hE3
              have hg3 : (g : Int) < 2 := by omega
              obtain ⟨E2, eE2⟩ : ∃ E, RowKit.Hid (paE xs q z = E) := ⟨_, Lib.hid rfl⟩
              have hne2 : (E2 != E2) = false := by simp
              have hE4 := hE3
              clear hE3
              go_wp2_with (fail)
              clear cq0
              refine (patch_all _ _ n1 c1 nq cq xs q z E2 _ _ (Ext.refl _) hS2 hq eE2).mono ?_
              rintro e w7 ⟨sg, kg, cg, rfl, hG, hX1⟩
              replace b2 := Ext.cell hX1 b2
              replace hS2 := hS2.ext hX1
              replace hq := hq.ext hX1
              replace hE4 := hE4.trans hX1
              clear hX1
              go_wp2_with (fail)
              refine (rpatch_all _ _ n1 c1 nq cq xs q z E2 _ _ (Ext.refl _) hS2 hq eE2).mono ?_
              rintro e w8 ⟨sh, kh, ch, rfl, hH, hX1⟩
              replace hG := hG.ext hX1
              replace hE4 := hE4.trans hX1
              clear hX1 b2 hS2 hq
              go_wp2_with (fail)
              refine (rsame_is _ _ kg kh cg ch _ _ true _ hG hH (Lib.hid (decide_eq_true rfl).symm)).mono ?_
              rintro e w9 ⟨rfl, hX1⟩
              replace hE4 := hE4.trans hX1
              clear hX1 hG hH
              go_wp2_with (fail)
              go_roundw
              case rel => exact ⟨g + 1, by omega, by go_num, hE4⟩
              case measure => simp [intOf]; omega
            · obtain rfl : g = 2 := by omega
              go_wp2_with (fail)
              go_roundw
              case rel => exact ⟨h + 1, by omega, by go_num, hn2.trans hE3⟩
              case measure => simp [intOf]; omega
        · obtain rfl : h = 3 := by omega
          go_wp2_with (fail)
          go_roundw
          case rel => exact ⟨j + 1, by omega, by go_num, hn1.trans hE2⟩
          case measure => simp [intOf]; omega
    · obtain rfl : j = 2 := by omega
      replace hM := hM.ext hE1
      replace hV := hV.ext hE1
      replace hE := hE.trans hE1
      clear hE1 hX hY hA hB
      go_wp2_with (fail)
      refine (then_any _ _ NM nv cl cv m v _ hM hV (by omega)).mono ?_
      rintro e w5 ⟨st, nt, ct, t, rfl, hT, hI, hX1⟩
      replace hM := hM.ext hX1
      replace hV := hV.ext hX1
      replace hE := hE.trans hX1
      have HI := Lib.hid hI
      clear hX1 hI
      go_wp2_with (fail)
      refine (rthen_any _ _ NM nv cl cv m v _ hM hV (by omega)).mono ?_
      rintro e w6 ⟨su, nu, cu, u, rfl, hU, hI, hX1⟩
      obtain rfl : t = u := HI.out.unique hI
      replace hV := hV.ext hX1
      replace hT := hT.ext hX1
      replace hE := hE.trans hX1
      clear hX1 hI HI hM
      go_wp2_with (fail)
      refine (rwrites_is _ _ nt nu ct cu _ _ true _ hT hU (Lib.hid (decide_eq_true rfl).symm)).mono ?_
      rintro e w7 ⟨rfl, hX1⟩
      replace hV := hV.ext hX1
      replace hE := hE.trans hX1
      clear hX1 hT hU
      go_wp2_with (fail)
      refine (then_any _ _ nv nv cv cv v v _ hV hV (by omega)).mono ?_
      rintro e w8 ⟨st2, nt2, ct2, t2, rfl, hT, hI, hX1⟩
      replace hV := hV.ext hX1
      replace hE := hE.trans hX1
      have HI := Lib.hid hI
      clear hX1 hI
      go_wp2_with (fail)
      refine (rthen_any _ _ nv nv cv cv v v _ hV hV (by omega)).mono ?_
      rintro e w9 ⟨su2, nu2, cu2, u2, rfl, hU, hI, hX1⟩
      obtain rfl : t2 = u2 := HI.out.unique hI
      replace hT := hT.ext hX1
      replace hE := hE.trans hX1
      clear hX1 hI HI hV
      go_wp2_with (fail)
      refine (rwrites_is _ _ nt2 nu2 ct2 cu2 _ _ true _ hT hU (Lib.hid (decide_eq_true rfl).symm)).mono ?_
      rintro e w10 ⟨rfl, hX1⟩
      replace hE := hE.trans hX1
      clear hX1 hT hU
      go_wp2_with (fail)
      go_ret
      exact ⟨rfl, hE⟩

end Go.Proofs.Ytdofplmoiljkjaa
