/-
  CellsAlone of layer 3 returns true for every input, and its arguments read as before. No condition.
-/
import Derived.Test.YthegokjhgdneoaaRead
import Derived.Test.YthegokjhgdneoaaSets
namespace Go.Proofs.Ythegokjhgdneoaa.cellsAlone
open Go.ChangeShapes Go.WideShapes Go.ChangeAt Go.RowKit Go.Joins Go.Deep

theorem addr_of {W : World} {a : Addr} {i : Nat} {v : Value} (h : W.cell? (a.add i) = some v) (h0 : ∃ u, W.cell? a = some u) : W.cell? ⟨a.block, a.off + i, none⟩ = some v ∧ a = ⟨a.block, a.off, none⟩ := by
  have hs : a.spot = none := by
    obtain ⟨u, hu⟩ := h0
    unfold World.cell? at hu
    split at hu
    · split at hu
      · cases hu
      · rename_i hns
        simpa using hns
    · cases hu
  obtain ⟨b, o, sp⟩ := a
  simp only at hs
  subst hs
  refine ⟨?_, rfl⟩
  unfold Addr.add at h
  split at h
  · rename_i e
    subst e
    simpa using h
  · exact h

/-- A slice of ints, opened: at each place within its length an int lies. -/
theorem open_ints_any {H : Type} {enc : TypeId × Value → H} {W : World} {base : Nat} {v : Value} {d : DataW H} {p : List MemPlace} (hv : Value.okWide Try.prog W .any base 27 v) (h : DataW.Trod enc Try.prog W 0 (fun _ => true) true 27 v d p) :
    ∃ (sl : Option Addr) (n c : Nat) (Z : Nat → Int), v = .slice sl n c ∧ ∀ i, i < n → ∃ b o, sl = some ⟨b, o, none⟩ ∧ W.cell? ⟨b, o + i, none⟩ = some (.int .i64 (Z i)) ∧ -9223372036854775808 ≤ Z i ∧ Z i < 9223372036854775808 := by
  obtain ⟨a, n, c, rfl⟩ := okWide_slice Try.underlying27 hv
  obtain ⟨fuel, hf⟩ := h
  rcases open_ints Try.underlying27 Try.underlying3 (by kernel_rfl) hf with ⟨hcs, _⟩ | ⟨a', len, cap, zs, hcs, _, hl, _, hzl, _, hcell, hwf⟩
  · simp [Value.cells] at hcs
    exact ⟨a, n, c, fun _ => 0, rfl, fun i hi => by omega⟩
  · simp [Value.cells] at hcs
    obtain ⟨rfl, rfl, rfl⟩ := hcs
    refine ⟨some a', n, c, fun i => zs.getD i 0, rfl, fun i hi => ?_⟩
    simp at hzl
    obtain ⟨e1, e2⟩ := addr_of (hcell i (by omega)) ⟨_, by simpa [Addr.add] using hcell 0 (by omega)⟩
    have hb := range_i64 hwf i
    refine ⟨a'.block, a'.off, congrArg some e2, e1, ?_, ?_⟩
    · simp only [List.getD_eq_getElem?_getD]; omega
    · simp only [List.getD_eq_getElem?_getD]; omega

set_option maxRecDepth 100000 in
set_option maxHeartbeats 4000000 in
theorem walk (A0 B0 z : Int) (sl : Option Addr) (n c : Nat) (Z : Nat → Int) (st : Bool) (p0 : -9223372036854775808 ≤ A0) (p1 : A0 < 9223372036854775808) (q0 : -9223372036854775808 ≤ B0) (q1 : B0 < 9223372036854775808)
    (W : World)
    (hZ : ∀ i, i < n → ∃ b o, sl = some ⟨b, o, none⟩ ∧ W.cell? ⟨b, o + i, none⟩ = some (.int .i64 (Z i)) ∧ -9223372036854775808 ≤ Z i ∧ Z i < 9223372036854775808) :
    Calls Try.prog 5 #[.int .i64 A0, .int .i64 B0, .slice sl n c, .int .u64 z, .bool st] W fun e w' => e = .returned (.bool true) ∧ W.grownBy w' none := by
  have HZ := Lib.hid hZ
  clear hZ
  obtain ⟨a0, a1⟩ := pick_bd A0 65536 (by omega)
  obtain ⟨b0, b1⟩ := pick_bd B0 65536 (by omega)
  go_enter Try.func5, Try.ntmps5
  go_wp2_with (fail)
  refine (awake_any _).mono ?_
  rintro e w1 ⟨rfl, hg⟩
  go_wp2_with (fail)
  refine (new_yes_any 1 _ (by omega) (by omega)).mono ?_
  rintro e w2 ⟨rfl, hr, hg2, hl⟩
  have hO := Own.start (W := W) (n := 1) hr (grown_trans hg hg2) (by have := hg.size; omega) hl (by rfl)
  generalize w1.heap.size + 3 = g at hO hr hl ⊢
  clear hr
  change Own _ _ _ _ _ [(0, 0)] at hO
  have hm := hO.mem.m
  have HO := Lib.hid hO
  clear hO
  go_wp2_with (fail)
  go_loopw [14] (fun i w => ∃ k l : Int, 0 ≤ k ∧ k ≤ 16 ∧ Upto (pick A0 65536) k l ∧ i = .int .i64 k ∧ Own W w w2.heap.size g (.slice (some ⟨g, 0, none⟩) 1 1) [(0, l)]) (fun i _ => (16 - intOf i).toNat)
  case atStart => exact ⟨0, 0, by omega, by omega, upto0 _, rfl, HO.out⟩
  case round =>
    clear HO hm
    obtain ⟨k, l, k0, k1, hu, rfl, hO⟩ := hrel
    by_cases hlt : k < 16
    · have hlook := look1 (pick A0 65536) k (by omega) (by omega) k0 hlt
      cases hb : hasP (pick A0 65536) k
      · rw [hb] at hlook
        have hu2 := upto_no hu k0 hlt hb
        clear hb
        go_wp2_with (first
          | (go_at_call 9; with_reducible refine (pick_any _ _ _ (by omega) (by omega) (by omega) (by omega)).mono ?_; rintro e w' ⟨rfl, rfl⟩))
        go_roundw
        case rel => exact ⟨k + 1, l, by omega, by omega, hu2, rfl, hO⟩
        case measure => simp [intOf]; omega
      · rw [hb] at hlook
        have hu2 := upto_yes hu k0 hlt hb
        clear hb
        go_wp2_with (first
          | (go_at_call 9; with_reducible refine (pick_any _ _ _ (by omega) (by omega) (by omega) (by omega)).mono ?_; rintro e w' ⟨rfl, rfl⟩)
          | (go_at_call 17; with_reducible refine (ll_own hO rfl (by omega) (by omega) (by omega)).mono ?_; clear hO; rintro e w' ⟨rfl, hO⟩))
        go_roundw
        case rel => exact ⟨k + 1, withP l k, by omega, by omega, hu2, rfl, hO⟩
        case measure => simp [intOf]; omega
    · have hgn := upto_end (pick B0 65536) hu (by omega) a0 a1
      clear hu
      have HO := Lib.hid hO
      clear hO
      go_wp2_with (fail)
      go_loopw [17] (fun i w => ∃ k l : Int, 0 ≤ k ∧ k ≤ 16 ∧ Gone (pick A0 65536) (pick B0 65536) k l ∧ i = .int .i64 k ∧ Own W w w2.heap.size g (.slice (some ⟨g, 0, none⟩) 1 1) [(0, l)]) (fun i _ => (16 - intOf i).toNat)
      case atStart => exact ⟨0, l, by omega, by omega, hgn, rfl, HO.out⟩
      case round =>
        clear HO hgn k0 k1 hlt
        obtain ⟨k, l, k0, k1, hu, rfl, hO⟩ := hrel
        by_cases hlt : k < 16
        · have hlook := look1 (pick B0 65536) k (by omega) (by omega) k0 hlt
          cases hb : hasP (pick B0 65536) k
          · rw [hb] at hlook
            have hu2 := gone_no hu k0 hlt hb
            clear hb
            go_wp2_with (first
              | (go_at_call 9; with_reducible refine (pick_any _ _ _ (by omega) (by omega) (by omega) (by omega)).mono ?_; rintro e w' ⟨rfl, rfl⟩))
            go_roundw
            case rel => exact ⟨k + 1, l, by omega, by omega, hu2, rfl, hO⟩
            case measure => simp [intOf]; omega
          · rw [hb] at hlook
            have hu2 := gone_yes hu k0 hlt hb
            clear hb
            go_wp2_with (first
              | (go_at_call 9; with_reducible refine (pick_any _ _ _ (by omega) (by omega) (by omega) (by omega)).mono ?_; rintro e w' ⟨rfl, rfl⟩)
              | (go_at_call 20; with_reducible refine (rl_own hO rfl (by omega) (by omega) (by omega)).mono ?_; clear hO; rintro e w' ⟨rfl, hO⟩))
            go_roundw
            case rel => exact ⟨k + 1, lessP l k, by omega, by omega, hu2, rfl, hO⟩
            case measure => simp [intOf]; omega
        · have hge := gone_end hu (by omega) b0 b1
          subst hge
          clear hu
          have hr := andNot_range (pick A0 65536) (pick B0 65536)
          obtain ⟨LF, hLF⟩ : ∃ LF, RowKit.Hid (bits .andNot .i64 (pick A0 65536) (pick B0 65536) = LF) := ⟨_, Lib.hid rfl⟩
          rw [hLF.out] at hO hr
          have hLF' := hLF.out
          have hm := hO.mem.m
          have hx := (hO.mem.row 0 _ rfl).1
          have hy := (hO.mem.row 0 _ rfl).2.1
          cases st
          · have HO := Lib.hid hO
            clear hO
            go_wp2_with (first
              | (go_at_call 9; with_reducible refine (pick_any _ _ _ (by omega) (by omega) (by omega) (by omega)).mono ?_; rintro e w' ⟨rfl, rfl⟩))
            clear hm hx hy hLF' k0 k1 hlt
            go_loopw [19, 20] (fun m i w => ∃ (k : Nat) (x l mm : Int), k ≤ n ∧ k ≤ 40 ∧ i = .int .i64 k ∧ m = .int .i64 mm ∧ ((mm = 0 ∧ x = 0 ∧ l = LF) ∨ (mm = 1 ∧ x = (z + 1) % 18446744073709551616 ∧ l = 0)) ∧ Own W w w2.heap.size g (.slice (some ⟨g, 0, none⟩) 1 1) [(x, l)]) (fun _ i _ => (40 - intOf i).toNat)
            case atStart => exact ⟨0, 0, LF, 0, by omega, by omega, rfl, rfl, .inl ⟨rfl, rfl, rfl⟩, HO.out⟩
            case round =>
              clear HO
              obtain ⟨k, x, l, mm, k0, k1, rfl, rfl, hcase, hO⟩ := hrel
              by_cases hlt : k < n ∧ k < 40
              · obtain ⟨h1, h2⟩ := hlt
                obtain ⟨b, o, rfl, hc, hz0, hz1⟩ := HZ.out k h1
                obtain ⟨r0, r1⟩ := pick_bd (Z k) 16 (by omega)
                have hc2 := hO.grown.cell hc (by simp)
                clear hc
                have h40 : (k : Int) < 40 := by omega
                rcases hcase with ⟨rfl, rfl, rfl⟩ | ⟨rfl, rfl, rfl⟩
                · have hl1 := look1 l (pick (Z k) 16) hr.1 hr.2 r0 r1
                  have hl0 := look0 l (pick (Z k) 16) hr.1 hr.2 r0 r1
                  cases hb : hasP l (pick (Z k) 16)
                  · rw [hb] at hl1 hl0
                    have hb' := Lib.hid hb
                    clear hb
                    go_wp2_with (first
                      | (go_at_call 9; with_reducible refine (pick_any _ _ _ (by omega) (by omega) (by omega) (by omega)).mono ?_; rintro e w' ⟨rfl, rfl⟩)
                      | (go_at_call 19; with_reducible refine (sc_own_not hO rfl (by omega) (by omega) (by omega) hb'.out).mono ?_; clear hO; rintro e w' ⟨rfl, hO⟩))
                    go_roundw
                    case rel => exact ⟨k + 1, 0, l, 0, by omega, by omega, by go_num, rfl, .inl ⟨rfl, rfl, rfl⟩, hO⟩
                    case measure => simp [intOf]; omega
                  · rw [hb] at hl1 hl0
                    have hb' := Lib.hid hb
                    clear hb
                    go_wp2_with (first
                      | (go_at_call 9; with_reducible refine (pick_any _ _ _ (by omega) (by omega) (by omega) (by omega)).mono ?_; rintro e w' ⟨rfl, rfl⟩)
                      | (go_at_call 19; with_reducible refine (sc_own_yes hO rfl (by omega) (by omega) (by omega) hb'.out).mono ?_; clear hO; rintro e w' ⟨rfl, hO⟩))
                    go_roundw
                    case rel => exact ⟨k + 1, _, 0, 1, by omega, by omega, by go_num, rfl, .inr ⟨rfl, rfl, rfl⟩, hO⟩
                    case measure => simp [intOf]; omega
                · have hb' := Lib.hid (has_none (pick (Z k) 16) r0 r1)
                  go_wp2_with (first
                      | (go_at_call 9; with_reducible refine (pick_any _ _ _ (by omega) (by omega) (by omega) (by omega)).mono ?_; rintro e w' ⟨rfl, rfl⟩)
                      | (go_at_call 19; with_reducible refine (sc_own_not hO rfl (by omega) (by omega) (by omega) hb'.out).mono ?_; clear hO; rintro e w' ⟨rfl, hO⟩))
                  go_roundw
                  case rel => exact ⟨k + 1, _, 0, 1, by omega, by omega, by go_num, rfl, .inr ⟨rfl, rfl, rfl⟩, hO⟩
                  case measure => simp [intOf]; omega
              · have hm := hO.mem.m
                have hx := (hO.mem.row 0 _ rfl).1
                have hy := (hO.mem.row 0 _ rfl).2.1
                have HG := Lib.hid hO.grown
                clear hO
                have hlt' : n ≤ k ∨ (k < n ∧ 40 ≤ k) := by omega
                clear hlt
                rcases hlt' with h1 | ⟨h1, h2⟩
                all_goals
                  rcases hcase with ⟨rfl, rfl, rfl⟩ | ⟨rfl, rfl, rfl⟩
                  all_goals
                    try (have h40 : (40 : Int) ≤ k := by omega)
                    go_wp2
                    go_ret
                    exact ⟨rfl, HG.out⟩
          · go_wp2_with (first
              | (go_at_call 9; with_reducible refine (pick_any _ _ _ (by omega) (by omega) (by omega) (by omega)).mono ?_; rintro e w' ⟨rfl, rfl⟩)
              | (go_at_call 16; (with_reducible refine (store_own hO rfl (by omega)).mono ?_); clear hO; rintro e w' ⟨rfl, hO⟩; change Own _ _ _ _ _ [(z, 0)] at hO; have HO := Lib.hid hO; clear hO))
            clear hm hx hy hLF' k0 k1 hlt
            go_loopw [19, 20] (fun m i w => ∃ (k : Nat), k ≤ n ∧ k ≤ 40 ∧ i = .int .i64 k ∧ m = .int .i64 0 ∧ Own W w w2.heap.size g (.slice (some ⟨g, 0, none⟩) 1 1) [(z, 0)]) (fun _ i _ => (40 - intOf i).toNat)
            case atStart => exact ⟨0, by omega, by omega, rfl, rfl, HO.out⟩
            case round =>
              clear HO
              obtain ⟨k, k0, k1, rfl, rfl, hO⟩ := hrel
              by_cases hlt : k < n ∧ k < 40
              · obtain ⟨h1, h2⟩ := hlt
                obtain ⟨b, o, rfl, hc, hz0, hz1⟩ := HZ.out k h1
                obtain ⟨r0, r1⟩ := pick_bd (Z k) 16 (by omega)
                have hc2 := hO.grown.cell hc (by simp)
                clear hc
                have h40 : (k : Int) < 40 := by omega
                have hb' := Lib.hid (has_none (pick (Z k) 16) r0 r1)
                go_wp2_with (first
                    | (go_at_call 9; with_reducible refine (pick_any _ _ _ (by omega) (by omega) (by omega) (by omega)).mono ?_; rintro e w' ⟨rfl, rfl⟩)
                    | (go_at_call 19; with_reducible refine (sc_own_not hO rfl (by omega) (by omega) (by omega) hb'.out).mono ?_; clear hO; rintro e w' ⟨rfl, hO⟩))
                go_roundw
                case rel => exact ⟨k + 1, by omega, by omega, by go_num, rfl, hO⟩
                case measure => simp [intOf]; omega
              · have HG := Lib.hid hO.grown
                clear hO
                have hlt' : n ≤ k ∨ (k < n ∧ 40 ≤ k) := by omega
                clear hlt
                rcases hlt' with h1 | ⟨h1, h2⟩
                all_goals
                  try (have h40 : (40 : Int) ≤ k := by omega)
                  go_wp2
                  go_ret
                  exact ⟨rfl, HG.out⟩

set_option maxRecDepth 100000 in
theorem lifted (os : Os) (started : os.Started) (H : Type) (enc : TypeId × Value → H) :
    ReturnsInHanded {} Try.checked os 5 .any (Rows.cellsAloneSpec.pre6 enc Try.prog Try.f5 Rows.cellsAloneRow.domain false) (Rows.cellsAloneSpec.post enc Try.prog Try.f5 false true false false) := by
  refine returnsInHanded_of_change (C := Try.checked) own started (by kernel_rfl) Try.func5
    (ChangeSpec.witness6 (enc := enc) (C := Try.checked) false ⟨#[], #[.int .i64 0, .int .i64 0, .slice none 0 0, .int .u64 0, .bool false], []⟩ 8 (by kernel_rfl) (by kernel_rfl) (by kernel_rfl) (by kernel_rfl)) ?_
  intro W base args ds gs before hval0 hW hcnd _
  have hval : ∀ (j : Nat) t v, Try.f5.params[j]? = some t → args[j]? = some v → Value.okWide Try.prog W .any base t v := hval0
  have hW' := hW
  obtain ⟨p, q, hA0, hV, rfl, hfz, hnd⟩ := hW
  have hA : DataW.TrodAll enc Try.prog W 0 (fun _ => true) true Try.f5.params.toList args.toList ds p := hA0
  rw [Try.params5] at hA hval
  obtain ⟨v0, vs0, d0, ds0, p0, q0, hargs, rfl, rfl, h0, r0⟩ := trodAll_cons hA
  obtain ⟨v1, vs1, d1, ds1, p1, q1, rfl, rfl, rfl, h1, r1⟩ := trodAll_cons r0
  obtain ⟨v2, vs2, d2, ds2, p2, q2, rfl, rfl, rfl, h2, r2⟩ := trodAll_cons r1
  obtain ⟨v3, vs3, d3, ds3, p3, q3, rfl, rfl, rfl, h3, r3⟩ := trodAll_cons r2
  obtain ⟨v4, vs4, d4, ds4, p4, q4, rfl, rfl, rfl, h4, r4⟩ := trodAll_cons r3
  obtain ⟨rfl, rfl, rfl⟩ := trodAll_nil r4
  obtain rfl : args = #[v0, v1, v2, v3, v4] := by cases args; simp_all
  obtain ⟨a0, rfl, _, _, w0⟩ := open_int Try.underlying3 (hval 0 3 v0 rfl rfl) h0
  obtain ⟨a1, rfl, _, _, w1⟩ := open_int Try.underlying3 (hval 1 3 v1 rfl rfl) h1
  obtain ⟨a3, rfl, _, _, w3⟩ := open_int Try.underlying23 (hval 3 23 v3 rfl rfl) h3
  obtain ⟨a4, rfl, _, _⟩ := open_bool Try.underlying4 (hval 4 4 v4 rfl rfl) h4
  obtain ⟨sl, n, c, Z, rfl, hZ⟩ := open_ints_any (hval 2 27 v2 rfl rfl) h2
  have b0 := bounds_i64 w0
  have b1 := bounds_i64 w1
  refine (walk a0 a1 a3 sl n c Z a4 b0.1 (by omega) b1.1 (by omega) W hZ).mono fun e W' ⟨he, hg⟩ => ?_
  subst he
  exact ⟨_, rfl, told hW' rfl rfl rfl (by kernel_rfl) hg⟩

theorem over : Rows.cellsAloneRow.holds Try.pinned (OpenSpec.ofChange Rows.cellsAloneSpec) :=
  OpenClaim.holds_of_wide 5 Try.f5 rfl rfl rfl rfl rfl rfl rfl ⟨rfl, rfl, rfl, rfl, rfl⟩ rfl rfl rfl rfl rfl (by kernel_rfl) Try.func5 (by kernel_rfl)
    (of_decide_eq_true (by kernel_rfl)) (by unfold Func.isWrapper; first | (rw [if_pos (by decide +kernel)]; kernel_rfl) | (rw [if_neg (by decide +kernel)]; exact ⟨rfl, rfl⟩))
    (fun os started H enc _ => lifted os started H enc)

end Go.Proofs.Ythegokjhgdneoaa.cellsAlone

namespace Go.Proofs.Ythegokjhgdneoaa
theorem cellsAlone_holds : Rows.CellsAloneSaid := cellsAlone.over
end Go.Proofs.Ythegokjhgdneoaa
