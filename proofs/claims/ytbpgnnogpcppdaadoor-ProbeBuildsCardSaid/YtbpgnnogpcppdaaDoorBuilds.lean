/-
  The law ProbeBuilds, walked. Conditions: the package's table lies; the integers' bounds; the records and the raw numbers are there.
-/
import Derived.Test.YtbpgnnogpcppdaaDoorAwake
import Derived.Test.YtbpgnnogpcppdaaDoorRead
namespace Go.Proofs.YtbpgnnogpcppdaaDoor
open Go.RowKit (Below intOf)

/-- Pairs of ints that were just built: what each place holds. -/
theorem pairs_lit (w : World) (a b c d e f : Int) (ha : I64 a) (hb : I64 b) (hc : I64 c) (hd : I64 d) (he : I64 e) (hf : I64 f) (j : Nat) (hj : j < 3) :
    ∃ p q, I64 p ∧ I64 q ∧ (w.alloc (.cells #[.int .i64 a, .int .i64 b, .int .i64 c, .int .i64 d, .int .i64 e, .int .i64 f] 44)).cell? ⟨w.heap.size, j * 2, none⟩ = some (.int .i64 p) ∧ (w.alloc (.cells #[.int .i64 a, .int .i64 b, .int .i64 c, .int .i64 d, .int .i64 e, .int .i64 f] 44)).cell? ⟨w.heap.size, j * 2 + 1, none⟩ = some (.int .i64 q) := by
  unfold World.cell?
  rw [World.alloc_heap_new]
  match j, hj with
  | 0, _ => exact ⟨a, b, ha, hb, rfl, rfl⟩
  | 1, _ => exact ⟨c, d, hc, hd, rfl, rfl⟩
  | 2, _ => exact ⟨e, f, he, hf, rfl, rfl⟩
/-- Two slices of records in one. -/
theorem lists_lit (w : World) (s1 s2 : Option Addr) (n1 n2 c1 c2 : Nat) (l1 l2 : List Rc) (h1 : QS w s1 n1 c1 l1) (h2 : QS w s2 n2 c2 l2) (j : Nat) (hj : j < 2) :
    ∃ s n c l, QS (w.alloc (.cells #[.slice s1 n1 c1, .slice s2 n2 c2] 32)) s n c l ∧ (w.alloc (.cells #[.slice s1 n1 c1, .slice s2 n2 c2] 32)).cell? ⟨w.heap.size, j, none⟩ = some (.slice s n c) := by
  have hE := Ext.new w (.cells #[.slice s1 n1 c1, .slice s2 n2 c2] 32)
  have e : ∀ i, (w.alloc (.cells #[.slice s1 n1 c1, .slice s2 n2 c2] 32)).cell? ⟨w.heap.size, i, none⟩ = (#[.slice s1 n1 c1, .slice s2 n2 c2] : Array Value)[i]? := fun i => by
    unfold World.cell?
    rw [World.alloc_heap_new]
    simp
  match j, hj with
  | 0, _ => exact ⟨s1, n1, c1, l1, h1.ext hE, by rw [e]; rfl⟩
  | 1, _ => exact ⟨s2, n2, c2, l2, h2.ext hE, by rw [e]; rfl⟩

set_option maxRecDepth 100000 in
set_option maxHeartbeats 2000000 in
theorem builds_1 (a b : Int) (sl : Option Addr) (nl cl : Nat) (ls : List Rc) (sr : Option Addr) (nr cr : Nat) (rs : List Int) (w : World) (hT : Tab w) (ha : I64 a) (hb : I64 b) (hL : QL w sl nl cl ls) (hR : IS w sr nr rs) (hv : pick b 2 = 0) :
    Calls Tryd.prog 4 #[.int .i64 a, .int .i64 b, .slice sl nl cl, .slice sr nr cr] w fun e w' => e = .returned (.bool true) ∧ Ext w w' := by
  have hp := pick_bd (c := a) (n := 20) (by omega)
  obtain ⟨N, hN⟩ : ∃ N : Nat, (N : Int) = pick a 20 := ⟨(pick a 20).toNat, by omega⟩
  have hN20 : N < 20 := by omega
  obtain ⟨X, hX⟩ : ∃ X : Nat, X = min nl 20 := ⟨_, rfl⟩
  have hX20 : X ≤ 20 := by omega
  have hmin : RowKit.Hid (min (nl : Int) 20 = X) := Lib.hid (by omega)
  have hlc := hL.2.1
  have hcl := hL.2.2.1
  have hqx : QS w sl X cl (ls.take X) := hL.take (by omega) (by omega)
  have hcut : RowKit.Hid (∀ W, (Instr.sliceAt 32 (.slice sl nl cl) none (some (.int .i64 (X : Int))) none).run Tryd.prog W = .ok (.slice sl X cl) W) := Lib.hid (fun W => slice_hi sl nl cl X (by omega) W)
  have k1 : RowKit.Hid (∀ W, Calls Tryd.prog 10 #[.int .i64 a, .int .i64 20] W fun e w' => e = .returned (.int .i64 N) ∧ W = w') := Lib.hid (fun W => by rw [hN]; exact pick_any a 20 W ha.1 ha.2 (by omega) (by omega))
  have k2 : RowKit.Hid (∀ W, Calls Tryd.prog 10 #[.int .i64 b, .int .i64 2] W fun e w' => e = .returned (.int .i64 0) ∧ W = w') := Lib.hid (fun W => by rw [← hv]; exact pick_any b 2 W hb.1 hb.2 (by omega) (by omega))
  have hnr := hR.2.1
  have HR := Lib.hid hR
  have HT := Lib.hid hT
  have HQX := Lib.hid hqx
  obtain ⟨LX, eLX⟩ : ∃ LX, RowKit.Hid (ls.take X = LX) := ⟨_, Lib.hid rfl⟩
  rw [eLX.out] at HQX
  have Ha := Lib.hid ha
  have Hb := Lib.hid hb
  obtain ⟨i0, hi, hz0, hz1, hz2⟩ := info_parts info34
  have Hi := Lib.hid hi
  have Hz0 := Lib.hid hz0
  have Hz1 := Lib.hid hz1
  have Hz2 := Lib.hid hz2
  clear hR hT hL hqx hv hN hp hX ha hb hi hz0 hz1 hz2
  go_enter Tryd.func4, Tryd.ntmps4
  go_wp2_with (fail)
  refine (awake_any w HT.out).mono ?_
  rintro e w1 ⟨rfl, hE1⟩
  have HE1 := Lib.hid hE1
  clear hE1
  have hmin2 : min (nl : Int) 20 = X := hmin.out
  have hcut2 := hcut.out
  go_wp2_with (fail)
  clear hmin2 hcut2
  go_loopw [11, 12] (fun y i wr => ∃ (j : Nat) (ys : List Rc), j ≤ nr ∧ j ≤ 12 ∧ i = .int .i64 j ∧ wr.ownsRow w1.heap.size 34 2 y j (flat ys) ∧ RowKit.Hid (ys.length = j ∧ ∀ r ∈ ys, Ur r) ∧ Below w1.heap.size w1 wr) (fun _ i _ => 12 - (intOf i).toNat)
  case atStart => exact ⟨0, [], by omega, by omega, rfl, World.ownsRow_nil _ _ _ _, Lib.hid ⟨rfl, fun _ h => by cases h⟩, Ext.refl w1⟩
  case round =>
    obtain ⟨j, ys, hj, hj12, rfl, hrow, hys, hE⟩ := hrel
    have done : ∀ (hstop : ¬ (j < nr ∧ j < 12)), True := fun _ => trivial
    by_cases hgo : j < nr ∧ j < 12
    · obtain ⟨hlt, hl12⟩ := hgo
      have hjn : (j : Int) < nr := by omega
      have hj12' : (j : Int) < 12 := by omega
      obtain ⟨z, _, uz, br, or, rfl, hc⟩ := (HR.out.ext (HE1.out.trans hE)).get hlt
      have kK : RowKit.Hid (∀ W, Calls Tryd.prog 16 #[.int .i64 z] W fun e w' => e = .returned (.int .u64 (keyOf z)) ∧ W = w') := Lib.hid (fun W => key_any z W uz.1 uz.2)
      have uK := Lib.hid (keyOf_u z)
      obtain ⟨K, eK⟩ : ∃ K, RowKit.Hid (keyOf z = K) := ⟨_, Lib.hid rfl⟩
      rw [eK.out] at kK uK
      clear uz done
      have hbz := hE.size
      go_wp2_with (first
        | (go_at_call 16; (with_reducible refine (kK.out _).mono ?_); rintro e w' ⟨rfl, rfl⟩)
        | (go_at_call 10; (with_reducible refine (k2.out _).mono ?_); rintro e w' ⟨rfl, rfl⟩)
        | (at_builtin; refine wpList_append_own _ rfl _ _ 32 rfl w1.heap.size 34 i0 (.agg #[.int .u64 0, .int .u64 0]) 2 16 Tryd.underlying32 Hi.out Hz0.out Hz1.out Hz2.out rfl (by decide) _ _ _ rfl (hrow.alloc _) ⟨wr.heap.size, 0, none⟩ 1 1 [.int .u64 K, .int .u64 0] rfl rfl (two_cells _ _ _) (by simp [Value.oneCell']) (by unfold maxLen; omega) (by omega) (by simp; omega) ?_; intro v' w2 hown' hgrow _))
      go_roundw
      case rel => exact ⟨j + 1, ys ++ [(K, 0)], by omega, by omega, by go_num, by rw [flat_append]; exact hown', Lib.hid ⟨by rw [List.length_append, hys.out.1]; rfl, fun r hr => (List.mem_append.1 hr).elim (hys.out.2 r) (fun e => by rw [List.mem_singleton.1 e]; exact ⟨uK.out, by unfold U64; omega⟩)⟩, Ext.grown (Ext.alloc hE _) hgrow (own_ge hrow)⟩
      case measure => simp [intOf]; omega
    · obtain ⟨sy, cy, rfl⟩ := own_form hrow
      have HQY := Lib.hid (qs_of_own hrow hys.out.1 (by omega) hys.out.2)
      have HEw := Lib.hid (HE1.out.trans hE)
      clear hrow hE done
      have hstop : ((j : Int) < nr ∧ decide ((j : Int) < 12) = false) ∨ j = nr := by
        by_cases h : j < nr
        · exact .inl ⟨by omega, decide_eq_false (by omega)⟩
        · exact .inr (by omega)
      clear hgo
      rcases hstop with ⟨hjn, hj2⟩ | rfl
      all_goals
        go_wp2_with (first
          | (go_at_call 10; (with_reducible refine (k1.out _).mono ?_); rintro e w' ⟨rfl, rfl⟩)
          | (go_at_call 10; (with_reducible refine (k2.out _).mono ?_); rintro e w' ⟨rfl, rfl⟩))
        have hpl := Lib.hid (pairs_lit wr a b (1 + N) 1 (1 + N) b Ha.out Hb.out (by unfold I64; omega) (by unfold I64; omega) (by unfold I64; omega) Hb.out)
        have hE2 := Ext.new wr (.cells #[.int .i64 a, .int .i64 b, .int .i64 (1 + (N : Int)), .int .i64 1, .int .i64 (1 + (N : Int)), .int .i64 b] 44)
        have HQX2 := Lib.hid (HQX.out.ext (HEw.out.trans hE2))
        have HQY2 := Lib.hid (HQY.out.ext hE2)
        have HEw2 := Lib.hid (HEw.out.trans hE2)
        clear hE2 HQY HEw
        generalize wr.heap.size = B at hpl ⊢
        generalize wr.alloc (.cells #[.int .i64 a, .int .i64 b, .int .i64 (1 + (N : Int)), .int .i64 1, .int .i64 (1 + (N : Int)), .int .i64 b] 44) = w3 at hpl HQX2 HQY2 HEw2 ⊢
        go_loopw [69] (fun i wr' => ∃ (q : Nat), q ≤ 3 ∧ i = .int .i64 q ∧ RowKit.Hid (Ext w3 wr')) (fun i _ => 3 - (intOf i).toNat)
        case atStart => exact ⟨0, by omega, rfl, Lib.hid (Ext.refl w3)⟩
        case round =>
          obtain ⟨q, hq, rfl, hEq⟩ := hrel
          by_cases hlt : q < 3
          · have hq3 : (q : Int) < 3 := by omega
            obtain ⟨p, v, hp, hv, d0, d1⟩ := hpl.out q hlt
            replace d0 := hEq.out.cell d0
            replace d1 := hEq.out.cell d1
            have Hp := Lib.hid hp
            have Hv := Lib.hid hv
            clear hp hv
            by_cases hg : 100 < p ∧ p ≤ 1024
            · obtain ⟨hg1, hg2⟩ := hg
              go_wp2_with (fail)
              go_roundw
              case rel => exact ⟨q + 1, by omega, by go_num, Lib.hid (Ext.alloc hEq.out _)⟩
              case measure => simp [intOf]; omega
            · have hg2 : (decide (100 < p) = false) ∨ (100 < p ∧ decide (p ≤ 1024) = false) := by
                by_cases h : 100 < p
                · exact .inr ⟨h, decide_eq_false (fun h2 => hg ⟨h, h2⟩)⟩
                · exact .inl (decide_eq_false h)
              clear hg
              rcases hg2 with hg1 | ⟨hg1, hg2⟩
              all_goals
                go_wp2_with (fail)
                have hE4 := Ext.new wr (.cells #[.int .i64 p, .int .i64 v] 44)
                have hE5 := Ext.new (wr.alloc (.cells #[.int .i64 p, .int .i64 v] 44)) (.cells #[.slice sl X cl, .slice sy j cy] 32)
                have hll := Lib.hid (lists_lit (wr.alloc (.cells #[.int .i64 p, .int .i64 v] 44)) sl sy X j cl cy LX ys (HQX2.out.ext (hEq.out.trans hE4)) (HQY2.out.ext (hEq.out.trans hE4)))
                have b0 : (wr.alloc (.cells #[.int .i64 p, .int .i64 v] 44)).cell? ⟨wr.heap.size, 0, none⟩ = some (.int .i64 p) := by unfold World.cell?; rw [World.alloc_heap_new]; rfl
                have b1 : (wr.alloc (.cells #[.int .i64 p, .int .i64 v] 44)).cell? ⟨wr.heap.size, 1, none⟩ = some (.int .i64 v) := by unfold World.cell?; rw [World.alloc_heap_new]; rfl
                have HB0 := Lib.hid (hE5.cell b0)
                have HB1 := Lib.hid (hE5.cell b1)
                have HEx := Lib.hid ((hEq.out.trans hE4).trans hE5)
                clear hE4 hE5 b0 b1 d0 d1 hEq
                simp only [World.size_alloc] at hll ⊢
                generalize wr.heap.size = Bn at hll HB0 HB1 ⊢
                generalize (wr.alloc (.cells #[.int .i64 p, .int .i64 v] 44)).alloc (.cells #[.slice sl X cl, .slice sy j cy] 32) = w4 at hll HB0 HB1 HEx ⊢
                clear wr
                go_loopw [85] (fun i wr' => ∃ (x : Nat), x ≤ 2 ∧ i = .int .i64 x ∧ RowKit.Hid (Ext w4 wr')) (fun i _ => 2 - (intOf i).toNat)
                case atStart => exact ⟨0, by omega, rfl, Lib.hid (Ext.refl w4)⟩
                case round =>
                  obtain ⟨x, hx, rfl, hEx⟩ := hrel
                  by_cases hlt2 : x < 2
                  · have hx2 : (x : Int) < 2 := by omega
                    obtain ⟨s, m, c, l, hQ, x0⟩ := hll.out x hlt2
                    replace x0 := hEx.out.cell x0
                    have b0 := hEx.out.cell HB0.out
                    have b1 := hEx.out.cell HB1.out
                    have HQ := Lib.hid (hQ.ext hEx.out)
                    clear hQ
                    have K1 := Lib.hid (build_any p v s m c l wr (HT.out.ext ((HEw2.out.trans HEx.out).trans hEx.out)) HQ.out)
                    have K2 : RowKit.Hid (∀ W, Ext wr W → Calls Tryd.prog 25 #[.int .i64 p, .int .i64 v, .slice s m c] W (WE (buildS p v l) W)) := Lib.hid (fun W hW => rbuild_any p v s m c l W (HQ.out.ext hW))
                    obtain ⟨pr, hpr⟩ : ∃ pr, buildS p v l = pr := ⟨_, rfl⟩
                    rw [hpr] at K1 K2
                    clear hpr
                    obtain ⟨xw, er⟩ := pr
                    have hee : (er != er) = false := by simp
                    go_wp2_with (fail)
                    refine K1.out.mono ?_
                    rintro e w5 ⟨hE5, s5, n5, c5, rfl, h5⟩
                    clear K1
                    replace b0 := hE5.cell b0
                    replace b1 := hE5.cell b1
                    have HE5 := Lib.hid hE5
                    have H5 := Lib.hid h5
                    clear hE5 h5
                    dsimp only
                    go_wp2_with (fail)
                    refine (K2.out w5 HE5.out).mono ?_
                    rintro e w6 ⟨hE6, s6, n6, c6, rfl, h6⟩
                    clear K2
                    have HE6 := Lib.hid hE6
                    have H6 := Lib.hid h6
                    have H5' := Lib.hid (H5.out.ext hE6)
                    clear hE6 h6 H5
                    dsimp only
                    go_wp2_with (fail)
                    refine (same_any s5 s6 n5 n6 c5 c6 xw xw true w6 H5'.out H6.out (Lib.hid (by simp))).mono ?_
                    rintro e w7 ⟨rfl, q7, hq7⟩
                    have HE7 := Lib.hid (show Ext w6 w7 by rw [hq7]; exact Ext.draws w6 q7)
                    clear hq7
                    go_wp2_with (fail)
                    go_roundw
                    case rel => exact ⟨x + 1, by omega, by go_num, Lib.hid (((hEx.out.trans HE5.out).trans HE6.out).trans HE7.out)⟩
                    case measure => simp [intOf]; omega
                  · obtain rfl : x = 2 := by omega
                    go_wp2_with (fail)
                    go_roundw
                    case rel => exact ⟨q + 1, by omega, by go_num, Lib.hid (HEx.out.trans hEx.out)⟩
                    case measure => simp [intOf]; omega
          · obtain rfl : q = 3 := by omega
            go_wp2_with (fail)
            go_ret
            exact ⟨rfl, HEw2.out.trans hEq.out⟩

set_option maxRecDepth 100000 in
set_option maxHeartbeats 2000000 in
theorem builds_2 (a b : Int) (sl : Option Addr) (nl cl : Nat) (ls : List Rc) (sr : Option Addr) (nr cr : Nat) (rs : List Int) (w : World) (hT : Tab w) (ha : I64 a) (hb : I64 b) (hL : QL w sl nl cl ls) (hR : IS w sr nr rs) (hv : pick b 2 = 1) :
    Calls Tryd.prog 4 #[.int .i64 a, .int .i64 b, .slice sl nl cl, .slice sr nr cr] w fun e w' => e = .returned (.bool true) ∧ Ext w w' := by
  have hp := pick_bd (c := a) (n := 20) (by omega)
  obtain ⟨N, hN⟩ : ∃ N : Nat, (N : Int) = pick a 20 := ⟨(pick a 20).toNat, by omega⟩
  have hN20 : N < 20 := by omega
  obtain ⟨X, hX⟩ : ∃ X : Nat, X = min nl 20 := ⟨_, rfl⟩
  have hX20 : X ≤ 20 := by omega
  have hmin : RowKit.Hid (min (nl : Int) 20 = X) := Lib.hid (by omega)
  have hlc := hL.2.1
  have hcl := hL.2.2.1
  have hqx : QS w sl X cl (ls.take X) := hL.take (by omega) (by omega)
  have hcut : RowKit.Hid (∀ W, (Instr.sliceAt 32 (.slice sl nl cl) none (some (.int .i64 (X : Int))) none).run Tryd.prog W = .ok (.slice sl X cl) W) := Lib.hid (fun W => slice_hi sl nl cl X (by omega) W)
  have k1 : RowKit.Hid (∀ W, Calls Tryd.prog 10 #[.int .i64 a, .int .i64 20] W fun e w' => e = .returned (.int .i64 N) ∧ W = w') := Lib.hid (fun W => by rw [hN]; exact pick_any a 20 W ha.1 ha.2 (by omega) (by omega))
  have k2 : RowKit.Hid (∀ W, Calls Tryd.prog 10 #[.int .i64 b, .int .i64 2] W fun e w' => e = .returned (.int .i64 1) ∧ W = w') := Lib.hid (fun W => by rw [← hv]; exact pick_any b 2 W hb.1 hb.2 (by omega) (by omega))
  have hnr := hR.2.1
  have HR := Lib.hid hR
  have HT := Lib.hid hT
  have HQX := Lib.hid hqx
  obtain ⟨LX, eLX⟩ : ∃ LX, RowKit.Hid (ls.take X = LX) := ⟨_, Lib.hid rfl⟩
  rw [eLX.out] at HQX
  have Ha := Lib.hid ha
  have Hb := Lib.hid hb
  obtain ⟨i0, hi, hz0, hz1, hz2⟩ := info_parts info34
  have Hi := Lib.hid hi
  have Hz0 := Lib.hid hz0
  have Hz1 := Lib.hid hz1
  have Hz2 := Lib.hid hz2
  clear hR hT hL hqx hv hN hp hX ha hb hi hz0 hz1 hz2
  go_enter Tryd.func4, Tryd.ntmps4
  go_wp2_with (fail)
  refine (awake_any w HT.out).mono ?_
  rintro e w1 ⟨rfl, hE1⟩
  have HE1 := Lib.hid hE1
  clear hE1
  have hmin2 : min (nl : Int) 20 = X := hmin.out
  have hcut2 := hcut.out
  go_wp2_with (fail)
  clear hmin2 hcut2
  go_loopw [11, 12] (fun y i wr => ∃ (j : Nat) (ys : List Rc), j ≤ nr ∧ j ≤ 12 ∧ i = .int .i64 j ∧ wr.ownsRow w1.heap.size 34 2 y j (flat ys) ∧ RowKit.Hid (ys.length = j ∧ ∀ r ∈ ys, Ur r) ∧ Below w1.heap.size w1 wr) (fun _ i _ => 12 - (intOf i).toNat)
  case atStart => exact ⟨0, [], by omega, by omega, rfl, World.ownsRow_nil _ _ _ _, Lib.hid ⟨rfl, fun _ h => by cases h⟩, Ext.refl w1⟩
  case round =>
    obtain ⟨j, ys, hj, hj12, rfl, hrow, hys, hE⟩ := hrel
    have done : ∀ (hstop : ¬ (j < nr ∧ j < 12)), True := fun _ => trivial
    by_cases hgo : j < nr ∧ j < 12
    · obtain ⟨hlt, hl12⟩ := hgo
      have hjn : (j : Int) < nr := by omega
      have hj12' : (j : Int) < 12 := by omega
      obtain ⟨z, _, uz, br, or, rfl, hc⟩ := (HR.out.ext (HE1.out.trans hE)).get hlt
      have kK : RowKit.Hid (∀ W, Calls Tryd.prog 16 #[.int .i64 z] W fun e w' => e = .returned (.int .u64 (keyOf z)) ∧ W = w') := Lib.hid (fun W => key_any z W uz.1 uz.2)
      have uK := Lib.hid (keyOf_u z)
      obtain ⟨K, eK⟩ : ∃ K, RowKit.Hid (keyOf z = K) := ⟨_, Lib.hid rfl⟩
      rw [eK.out] at kK uK
      clear uz done
      have hbz := hE.size
      go_wp2_with (first
        | (go_at_call 16; (with_reducible refine (kK.out _).mono ?_); rintro e w' ⟨rfl, rfl⟩)
        | (go_at_call 10; (with_reducible refine (k2.out _).mono ?_); rintro e w' ⟨rfl, rfl⟩)
        | (at_builtin; refine wpList_append_own _ rfl _ _ 32 rfl w1.heap.size 34 i0 (.agg #[.int .u64 0, .int .u64 0]) 2 16 Tryd.underlying32 Hi.out Hz0.out Hz1.out Hz2.out rfl (by decide) _ _ _ rfl (hrow.alloc _) ⟨wr.heap.size, 0, none⟩ 1 1 [.int .u64 K, .int .u64 (j : Int)] rfl rfl (two_cells _ _ _) (by simp [Value.oneCell']) (by unfold maxLen; omega) (by omega) (by simp; omega) ?_; intro v' w2 hown' hgrow _))
      go_roundw
      case rel => exact ⟨j + 1, ys ++ [(K, (j : Int))], by omega, by omega, by go_num, by rw [flat_append]; exact hown', Lib.hid ⟨by rw [List.length_append, hys.out.1]; rfl, fun r hr => (List.mem_append.1 hr).elim (hys.out.2 r) (fun e => by rw [List.mem_singleton.1 e]; exact ⟨uK.out, by unfold U64; omega⟩)⟩, Ext.grown (Ext.alloc hE _) hgrow (own_ge hrow)⟩
      case measure => simp [intOf]; omega
    · obtain ⟨sy, cy, rfl⟩ := own_form hrow
      have HQY := Lib.hid (qs_of_own hrow hys.out.1 (by omega) hys.out.2)
      have HEw := Lib.hid (HE1.out.trans hE)
      clear hrow hE done
      have hstop : ((j : Int) < nr ∧ decide ((j : Int) < 12) = false) ∨ j = nr := by
        by_cases h : j < nr
        · exact .inl ⟨by omega, decide_eq_false (by omega)⟩
        · exact .inr (by omega)
      clear hgo
      rcases hstop with ⟨hjn, hj2⟩ | rfl
      all_goals
        go_wp2_with (first
          | (go_at_call 10; (with_reducible refine (k1.out _).mono ?_); rintro e w' ⟨rfl, rfl⟩)
          | (go_at_call 10; (with_reducible refine (k2.out _).mono ?_); rintro e w' ⟨rfl, rfl⟩))
        have hpl := Lib.hid (pairs_lit wr a b (1 + N) 2 (1 + N) b Ha.out Hb.out (by unfold I64; omega) (by unfold I64; omega) (by unfold I64; omega) Hb.out)
        have hE2 := Ext.new wr (.cells #[.int .i64 a, .int .i64 b, .int .i64 (1 + (N : Int)), .int .i64 2, .int .i64 (1 + (N : Int)), .int .i64 b] 44)
        have HQX2 := Lib.hid (HQX.out.ext (HEw.out.trans hE2))
        have HQY2 := Lib.hid (HQY.out.ext hE2)
        have HEw2 := Lib.hid (HEw.out.trans hE2)
        clear hE2 HQY HEw
        generalize wr.heap.size = B at hpl ⊢
        generalize wr.alloc (.cells #[.int .i64 a, .int .i64 b, .int .i64 (1 + (N : Int)), .int .i64 2, .int .i64 (1 + (N : Int)), .int .i64 b] 44) = w3 at hpl HQX2 HQY2 HEw2 ⊢
        go_loopw [69] (fun i wr' => ∃ (q : Nat), q ≤ 3 ∧ i = .int .i64 q ∧ RowKit.Hid (Ext w3 wr')) (fun i _ => 3 - (intOf i).toNat)
        case atStart => exact ⟨0, by omega, rfl, Lib.hid (Ext.refl w3)⟩
        case round =>
          obtain ⟨q, hq, rfl, hEq⟩ := hrel
          by_cases hlt : q < 3
          · have hq3 : (q : Int) < 3 := by omega
            obtain ⟨p, v, hp, hv, d0, d1⟩ := hpl.out q hlt
            replace d0 := hEq.out.cell d0
            replace d1 := hEq.out.cell d1
            have Hp := Lib.hid hp
            have Hv := Lib.hid hv
            clear hp hv
            by_cases hg : 100 < p ∧ p ≤ 1024
            · obtain ⟨hg1, hg2⟩ := hg
              go_wp2_with (fail)
              go_roundw
              case rel => exact ⟨q + 1, by omega, by go_num, Lib.hid (Ext.alloc hEq.out _)⟩
              case measure => simp [intOf]; omega
            · have hg2 : (decide (100 < p) = false) ∨ (100 < p ∧ decide (p ≤ 1024) = false) := by
                by_cases h : 100 < p
                · exact .inr ⟨h, decide_eq_false (fun h2 => hg ⟨h, h2⟩)⟩
                · exact .inl (decide_eq_false h)
              clear hg
              rcases hg2 with hg1 | ⟨hg1, hg2⟩
              all_goals
                go_wp2_with (fail)
                have hE4 := Ext.new wr (.cells #[.int .i64 p, .int .i64 v] 44)
                have hE5 := Ext.new (wr.alloc (.cells #[.int .i64 p, .int .i64 v] 44)) (.cells #[.slice sl X cl, .slice sy j cy] 32)
                have hll := Lib.hid (lists_lit (wr.alloc (.cells #[.int .i64 p, .int .i64 v] 44)) sl sy X j cl cy LX ys (HQX2.out.ext (hEq.out.trans hE4)) (HQY2.out.ext (hEq.out.trans hE4)))
                have b0 : (wr.alloc (.cells #[.int .i64 p, .int .i64 v] 44)).cell? ⟨wr.heap.size, 0, none⟩ = some (.int .i64 p) := by unfold World.cell?; rw [World.alloc_heap_new]; rfl
                have b1 : (wr.alloc (.cells #[.int .i64 p, .int .i64 v] 44)).cell? ⟨wr.heap.size, 1, none⟩ = some (.int .i64 v) := by unfold World.cell?; rw [World.alloc_heap_new]; rfl
                have HB0 := Lib.hid (hE5.cell b0)
                have HB1 := Lib.hid (hE5.cell b1)
                have HEx := Lib.hid ((hEq.out.trans hE4).trans hE5)
                clear hE4 hE5 b0 b1 d0 d1 hEq
                simp only [World.size_alloc] at hll ⊢
                generalize wr.heap.size = Bn at hll HB0 HB1 ⊢
                generalize (wr.alloc (.cells #[.int .i64 p, .int .i64 v] 44)).alloc (.cells #[.slice sl X cl, .slice sy j cy] 32) = w4 at hll HB0 HB1 HEx ⊢
                clear wr
                go_loopw [85] (fun i wr' => ∃ (x : Nat), x ≤ 2 ∧ i = .int .i64 x ∧ RowKit.Hid (Ext w4 wr')) (fun i _ => 2 - (intOf i).toNat)
                case atStart => exact ⟨0, by omega, rfl, Lib.hid (Ext.refl w4)⟩
                case round =>
                  obtain ⟨x, hx, rfl, hEx⟩ := hrel
                  by_cases hlt2 : x < 2
                  · have hx2 : (x : Int) < 2 := by omega
                    obtain ⟨s, m, c, l, hQ, x0⟩ := hll.out x hlt2
                    replace x0 := hEx.out.cell x0
                    have b0 := hEx.out.cell HB0.out
                    have b1 := hEx.out.cell HB1.out
                    have HQ := Lib.hid (hQ.ext hEx.out)
                    clear hQ
                    have K1 := Lib.hid (build_any p v s m c l wr (HT.out.ext ((HEw2.out.trans HEx.out).trans hEx.out)) HQ.out)
                    have K2 : RowKit.Hid (∀ W, Ext wr W → Calls Tryd.prog 25 #[.int .i64 p, .int .i64 v, .slice s m c] W (WE (buildS p v l) W)) := Lib.hid (fun W hW => rbuild_any p v s m c l W (HQ.out.ext hW))
                    obtain ⟨pr, hpr⟩ : ∃ pr, buildS p v l = pr := ⟨_, rfl⟩
                    rw [hpr] at K1 K2
                    clear hpr
                    obtain ⟨xw, er⟩ := pr
                    have hee : (er != er) = false := by simp
                    go_wp2_with (fail)
                    refine K1.out.mono ?_
                    rintro e w5 ⟨hE5, s5, n5, c5, rfl, h5⟩
                    clear K1
                    replace b0 := hE5.cell b0
                    replace b1 := hE5.cell b1
                    have HE5 := Lib.hid hE5
                    have H5 := Lib.hid h5
                    clear hE5 h5
                    dsimp only
                    go_wp2_with (fail)
                    refine (K2.out w5 HE5.out).mono ?_
                    rintro e w6 ⟨hE6, s6, n6, c6, rfl, h6⟩
                    clear K2
                    have HE6 := Lib.hid hE6
                    have H6 := Lib.hid h6
                    have H5' := Lib.hid (H5.out.ext hE6)
                    clear hE6 h6 H5
                    dsimp only
                    go_wp2_with (fail)
                    refine (same_any s5 s6 n5 n6 c5 c6 xw xw true w6 H5'.out H6.out (Lib.hid (by simp))).mono ?_
                    rintro e w7 ⟨rfl, q7, hq7⟩
                    have HE7 := Lib.hid (show Ext w6 w7 by rw [hq7]; exact Ext.draws w6 q7)
                    clear hq7
                    go_wp2_with (fail)
                    go_roundw
                    case rel => exact ⟨x + 1, by omega, by go_num, Lib.hid (((hEx.out.trans HE5.out).trans HE6.out).trans HE7.out)⟩
                    case measure => simp [intOf]; omega
                  · obtain rfl : x = 2 := by omega
                    go_wp2_with (fail)
                    go_roundw
                    case rel => exact ⟨q + 1, by omega, by go_num, Lib.hid (HEx.out.trans hEx.out)⟩
                    case measure => simp [intOf]; omega
          · obtain rfl : q = 3 := by omega
            go_wp2_with (fail)
            go_ret
            exact ⟨rfl, HEw2.out.trans hEq.out⟩

/-- The law, walked. -/
theorem builds_walk (a b : Int) (sl : Option Addr) (nl cl : Nat) (ls : List Rc) (sr : Option Addr) (nr cr : Nat) (rs : List Int) (w : World) (hT : Tab w) (ha : I64 a) (hb : I64 b) (hL : QL w sl nl cl ls) (hR : IS w sr nr rs) :
    Calls Tryd.prog 4 #[.int .i64 a, .int .i64 b, .slice sl nl cl, .slice sr nr cr] w fun e w' => e = .returned (.bool true) ∧ Below w.heap.size w w' := by
  have h2 := pick_bd (c := b) (n := 2) (by omega)
  rcases (by omega : pick b 2 = 0 ∨ pick b 2 = 1) with h | h
  · exact builds_1 a b sl nl cl ls sr nr cr rs w hT ha hb hL hR h
  · exact builds_2 a b sl nl cl ls sr nr cr rs w hT ha hb hL hR h

end Go.Proofs.YtbpgnnogpcppdaaDoor
