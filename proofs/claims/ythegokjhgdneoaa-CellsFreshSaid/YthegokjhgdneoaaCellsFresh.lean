/-
  CellsFresh of layer 3 returns true for every cell, every two integers, every word and either way to write, and its arguments read as before. No condition.
-/
import Derived.Test.YthegokjhgdneoaaRead
namespace Go.Proofs.Ythegokjhgdneoaa.cellsFresh
open Go.ChangeShapes Go.WideShapes Go.ChangeAt Go.RowKit Go.Joins Go.Deep

theorem row_one (w : World) (x l : Int) : Row (w.alloc (.cells #[.int .u64 x, .int .i64 l] 53)) w.heap.size [(x, l)] := fun k y hk => by
  match k, hk with
  | 0, hk =>
    cases hk
    exact ⟨by simp [go_sem], by simp [go_sem], by simp [go_sem], by simp [go_sem]⟩
  | k + 1, hk => simp at hk

set_option maxRecDepth 100000 in
set_option maxHeartbeats 4000000 in
theorem walk (cw cl p q z : Int) (st : Bool) (p0 : -9223372036854775808 ≤ p) (p1 : p < 9223372036854775808) (q0 : -9223372036854775808 ≤ q) (q1 : q < 9223372036854775808) (W : World) :
    Calls Try.prog 7 #[.agg #[.int .u64 cw, .int .i64 cl], .int .i64 p, .int .i64 q, .int .u64 z, .bool st] W fun e w' => e = .returned (.bool true) ∧ W.grownBy w' none := by
  obtain ⟨a0, a1⟩ := pick_bd p 16 (by omega)
  obtain ⟨b0, b1⟩ := pick_bd q 16 (by omega)
  have e1 := Lib.hid (has_with cl (pick p 16) (pick p 16) a0 a1 a0 a1)
  obtain ⟨d, hd⟩ : ∃ d, RowKit.Hid ((pick p 16 != pick q 16) = d) := ⟨_, Lib.hid rfl⟩
  have e2 : RowKit.Hid (hasP (lessP (withP (withP 0 (pick p 16)) (pick q 16)) (pick q 16)) (pick p 16) = d) := Lib.hid (by
    rw [← hd.out]
    rw [has_less _ _ _ b0 b1 a0 a1, has_with _ _ _ b0 b1 a0 a1, has_with _ _ _ a0 a1 a0 a1]
    by_cases h : pick p 16 = pick q 16
    · simp [h]
    · have h' : ¬ pick q 16 = pick p 16 := fun e => h e.symm
      simp [h, h'])
  have e3 : RowKit.Hid (hasP (lessP (withP (withP 0 (pick p 16)) (pick q 16)) (pick q 16)) (pick q 16) = false) := Lib.hid (by
    rw [has_less _ _ _ b0 b1 b0 b1]
    simp)
  cases st
  all_goals
    go_enter Try.func7, Try.ntmps7
    go_wp2_with (fail)
    refine (awake_any _).mono ?_
    rintro e w1 ⟨rfl, hg⟩
    have hB : RowKit.Hid (W.grownBy (W.alloc (.cells #[.int .u64 cw, .int .i64 cl] 53)) none) := Lib.hid (World.grownBy_alloc _ _ _)
    have c0 : w1.cell? ⟨W.heap.size, 0, none⟩ = some (.int .u64 cw) := hg.cell (by simp [go_sem]) (by simp)
    have c1 : w1.cell? ⟨W.heap.size, 1, none⟩ = some (.int .i64 cl) := hg.cell (by simp [go_sem]) (by simp)
    have hO := Own.start (n := 1) (row_one w1 cw cl) (grown_trans hg (World.grownBy_alloc _ _ none)) hg.size (by simp) (by rfl)
    rw [World.size_alloc] at hO
    go_wp2_with (first
      | (go_at_call 9; with_reducible refine (pick_any _ _ _ (by omega) (by omega) (by omega) (by omega)).mono ?_; rintro e w' ⟨rfl, rfl⟩))
  · refine (ll_own hO rfl (by omega) (by omega) (by omega)).mono ?_
    clear hO
    rintro e w2 ⟨rfl, hO⟩
    change Own _ _ _ _ _ [(cw, withP cl (pick p 16))] at hO
    go_wp2_with (fail)
    refine (sc_own_yes hO rfl (by omega) (by omega) (by omega) (by rw [e1.out]; simp)).mono ?_
    clear hO
    rintro e w3 ⟨rfl, hO⟩
    change Own _ _ _ _ _ [(z, 0)] at hO
    have c3 : w3.cell? ⟨W.heap.size, 0, none⟩ = some (.int .u64 cw) := hO.grown.cell (by simp [go_sem]) (by simp)
    go_wp2_with (fail)
    have HO := Lib.hid hO
    clear hO
    go_loopw [19] (fun i w => ∃ k : Int, 0 ≤ k ∧ k ≤ 16 ∧ i = .int .i64 k ∧ Own (W.alloc (.cells #[.int .u64 cw, .int .i64 cl] 53)) w (w1.heap.size + 1) w1.heap.size (.slice (some ⟨w1.heap.size, 0, none⟩) 1 1) [(z, 0)]) (fun i _ => (16 - intOf i).toNat)
    case atStart => exact ⟨0, by omega, by omega, rfl, HO.out⟩
    case round =>
      obtain ⟨k, k0, k1, rfl, hO⟩ := hrel
      by_cases hlt : k < 16
      · have hno := has_none k k0 hlt
        go_wp2_with (first
          | (go_at_call 18; with_reducible refine (vl_own hO rfl (by omega) (by omega) (by omega)).mono ?_; clear hO; rintro e w' ⟨rfl, hO⟩))
        go_roundw
        case rel => exact ⟨k + 1, by omega, by omega, rfl, hO⟩
        case measure => simp [intOf]; omega
      · go_wp2_with (fail)
        refine (ll_own hO rfl (by omega) (by omega) (by omega)).mono ?_
        clear hO
        rintro e w4 ⟨rfl, hO⟩
        change Own _ _ _ _ _ [(z, withP 0 (pick p 16))] at hO
        go_wp2_with (fail)
        refine (ll_own hO rfl (by omega) (by omega) (by omega)).mono ?_
        clear hO
        rintro e w5 ⟨rfl, hO⟩
        change Own _ _ _ _ _ [(z, withP (withP 0 (pick p 16)) (pick q 16))] at hO
        go_wp2_with (fail)
        refine (rl_own hO rfl (by omega) (by omega) (by omega)).mono ?_
        clear hO
        rintro e w6 ⟨rfl, hO⟩
        change Own _ _ _ _ _ [(z, lessP (withP (withP 0 (pick p 16)) (pick q 16)) (pick q 16))] at hO
        go_wp2_with (fail)
        refine (vl_own hO rfl (by omega) (by omega) (by omega)).mono ?_
        clear hO
        rintro e w7 ⟨rfl, hO⟩
        rw [e2.out]
        go_wp2_with (fail)
        refine (vl_own hO rfl (by omega) (by omega) (by omega)).mono ?_
        clear hO
        rintro e w8 ⟨rfl, hO⟩
        rw [e3.out]
        have HG := Lib.hid (grown_trans hB.out hO.grown)
        clear hO
        replace hd := hd.out
        cases d
        all_goals
          go_wp2
          go_ret
          exact ⟨rfl, HG.out⟩
  · refine (store_own hO rfl (by omega)).mono ?_
    clear hO
    rintro e w3 ⟨rfl, hO⟩
    change Own _ _ _ _ _ [(z, 0)] at hO
    go_wp2_with (fail)
    have HO := Lib.hid hO
    clear hO
    go_loopw [19] (fun i w => ∃ k : Int, 0 ≤ k ∧ k ≤ 16 ∧ i = .int .i64 k ∧ Own (W.alloc (.cells #[.int .u64 cw, .int .i64 cl] 53)) w (w1.heap.size + 1) w1.heap.size (.slice (some ⟨w1.heap.size, 0, none⟩) 1 1) [(z, 0)]) (fun i _ => (16 - intOf i).toNat)
    case atStart => exact ⟨0, by omega, by omega, rfl, HO.out⟩
    case round =>
      obtain ⟨k, k0, k1, rfl, hO⟩ := hrel
      by_cases hlt : k < 16
      · have hno := has_none k k0 hlt
        go_wp2_with (first
          | (go_at_call 18; with_reducible refine (vl_own hO rfl (by omega) (by omega) (by omega)).mono ?_; clear hO; rintro e w' ⟨rfl, hO⟩))
        go_roundw
        case rel => exact ⟨k + 1, by omega, by omega, rfl, hO⟩
        case measure => simp [intOf]; omega
      · go_wp2_with (fail)
        refine (ll_own hO rfl (by omega) (by omega) (by omega)).mono ?_
        clear hO
        rintro e w4 ⟨rfl, hO⟩
        change Own _ _ _ _ _ [(z, withP 0 (pick p 16))] at hO
        go_wp2_with (fail)
        refine (ll_own hO rfl (by omega) (by omega) (by omega)).mono ?_
        clear hO
        rintro e w5 ⟨rfl, hO⟩
        change Own _ _ _ _ _ [(z, withP (withP 0 (pick p 16)) (pick q 16))] at hO
        go_wp2_with (fail)
        refine (rl_own hO rfl (by omega) (by omega) (by omega)).mono ?_
        clear hO
        rintro e w6 ⟨rfl, hO⟩
        change Own _ _ _ _ _ [(z, lessP (withP (withP 0 (pick p 16)) (pick q 16)) (pick q 16))] at hO
        go_wp2_with (fail)
        refine (vl_own hO rfl (by omega) (by omega) (by omega)).mono ?_
        clear hO
        rintro e w7 ⟨rfl, hO⟩
        rw [e2.out]
        go_wp2_with (fail)
        refine (vl_own hO rfl (by omega) (by omega) (by omega)).mono ?_
        clear hO
        rintro e w8 ⟨rfl, hO⟩
        rw [e3.out]
        have HG := Lib.hid (grown_trans hB.out hO.grown)
        clear hO
        replace hd := hd.out
        cases d
        all_goals
          go_wp2
          go_ret
          exact ⟨rfl, HG.out⟩

set_option maxRecDepth 100000 in
theorem lifted (os : Os) (started : os.Started) (H : Type) (enc : TypeId × Value → H) :
    ReturnsInHanded {} Try.checked os 7 .any (Rows.cellsFreshSpec.pre6 enc Try.prog Try.f7 Rows.cellsFreshRow.domain false) (Rows.cellsFreshSpec.post enc Try.prog Try.f7 false true false false) := by
  refine returnsInHanded_of_change (C := Try.checked) own started (by kernel_rfl) Try.func7
    (ChangeSpec.witness6 (enc := enc) (C := Try.checked) false ⟨#[], #[.agg #[.int .u64 0, .int .i64 0], .int .i64 0, .int .i64 0, .int .u64 0, .bool false], []⟩ 8 (by kernel_rfl) (by kernel_rfl) (by kernel_rfl) (by kernel_rfl)) ?_
  intro W base args ds gs before hval0 hW hcnd _
  have hval : ∀ (j : Nat) t v, Try.f7.params[j]? = some t → args[j]? = some v → Value.okWide Try.prog W .any base t v := hval0
  have hW' := hW
  obtain ⟨p, q, hA0, hV, rfl, hfz, hnd⟩ := hW
  have hA : DataW.TrodAll enc Try.prog W 0 (fun _ => true) true Try.f7.params.toList args.toList ds p := hA0
  rw [Try.params7] at hA hval
  obtain ⟨v0, vs0, d0, ds0, p0, q0, hargs, rfl, rfl, h0, r0⟩ := trodAll_cons hA
  obtain ⟨v1, vs1, d1, ds1, p1, q1, rfl, rfl, rfl, h1, r1⟩ := trodAll_cons r0
  obtain ⟨v2, vs2, d2, ds2, p2, q2, rfl, rfl, rfl, h2, r2⟩ := trodAll_cons r1
  obtain ⟨v3, vs3, d3, ds3, p3, q3, rfl, rfl, rfl, h3, r3⟩ := trodAll_cons r2
  obtain ⟨v4, vs4, d4, ds4, p4, q4, rfl, rfl, rfl, h4, r4⟩ := trodAll_cons r3
  obtain ⟨rfl, rfl, rfl⟩ := trodAll_nil r4
  obtain rfl : args = #[v0, v1, v2, v3, v4] := by cases args; simp_all
  obtain ⟨c0, c1, y0, y1, n, rfl, _, _, g0, g1⟩ := open_agg2 Try.underlying53 (by kernel_rfl) (by kernel_rfl) (hval 0 53 v0 rfl rfl) h0
  obtain ⟨x, ex, _, wx⟩ := DataW.trod_int Try.underlying23 g0
  obtain ⟨l, el, _, wl⟩ := DataW.trod_int Try.underlying3 g1
  cases ex
  cases el
  obtain ⟨a1, rfl, _, _, w1⟩ := open_int Try.underlying3 (hval 1 3 v1 rfl rfl) h1
  obtain ⟨a2, rfl, _, _, w2⟩ := open_int Try.underlying3 (hval 2 3 v2 rfl rfl) h2
  obtain ⟨a3, rfl, _, _, w3⟩ := open_int Try.underlying23 (hval 3 23 v3 rfl rfl) h3
  obtain ⟨a4, rfl, _, _⟩ := open_bool Try.underlying4 (hval 4 4 v4 rfl rfl) h4
  have b1 := bounds_i64 w1
  have b2 := bounds_i64 w2
  refine (walk x l a1 a2 a3 a4 b1.1 (by omega) b2.1 (by omega) W).mono fun e W' ⟨he, hg⟩ => ?_
  subst he
  exact ⟨_, rfl, told hW' rfl rfl rfl (by kernel_rfl) hg⟩

theorem over : Rows.cellsFreshRow.holds Try.pinned (OpenSpec.ofChange Rows.cellsFreshSpec) :=
  OpenClaim.holds_of_wide 7 Try.f7 rfl rfl rfl rfl rfl rfl rfl ⟨rfl, rfl, rfl, rfl, rfl⟩ rfl rfl rfl rfl rfl (by kernel_rfl) Try.func7 (by kernel_rfl)
    (of_decide_eq_true (by kernel_rfl)) (by unfold Func.isWrapper; first | (rw [if_pos (by decide +kernel)]; kernel_rfl) | (rw [if_neg (by decide +kernel)]; exact ⟨rfl, rfl⟩))
    (fun os started H enc _ => lifted os started H enc)

end Go.Proofs.Ythegokjhgdneoaa.cellsFresh

namespace Go.Proofs.Ythegokjhgdneoaa
theorem cellsFresh_holds : Rows.CellsFreshSaid := cellsFresh.over
end Go.Proofs.Ythegokjhgdneoaa
