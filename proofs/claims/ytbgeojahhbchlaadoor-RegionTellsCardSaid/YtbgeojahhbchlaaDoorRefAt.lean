/-
  What At and Where of the document's own answers return, in whatever world that holds the package's table, for integers; they leave memory as it was, but for new blocks and draws.
-/
import Derived.Test.YtbgeojahhbchlaaDoorRef
import Derived.Test.YtbgeojahhbchlaaDoorAt
namespace Go.Proofs.YtbgeojahhbchlaaDoor
open Go.RowKit (intOf Below)

theorem ret2 {k l : IntKind} {a b c d : Int} (h : a = b) (g : c = d) : Ending.returned (.tuple #[.int k a, .int l c]) = .returned (.tuple #[.int k b, .int l d]) := by rw [h, g]

theorem rat_end {k p c part q : Int} (hf : fits k p c = true) (p0 : 0 ≤ part) (p4 : part ≤ 4) (q0 : 0 ≤ q) (q1 : q ≤ p - 1) :
    (1 < own p part.toNat → (if part = 0 ∨ part = 4 then 0 else q * each k p c part.toNat) = q * each k p c part.toNat) ∧ (¬ 1 < own p part.toNat → (if part = 0 ∨ part = 4 then 0 else q * each k p c part.toNat) = 0) := by
  have ho := own_bd hf part.toNat
  constructor
  · intro h
    rw [if_neg]
    intro h2
    have : own p part.toNat = 1 := by unfold own; rw [if_pos (by omega)]
    omega
  · intro h
    by_cases h2 : part = 0 ∨ part = 4
    · rw [if_pos h2]
    · rw [if_neg h2]
      have : own p part.toNat = p := by unfold own; rw [if_neg (by omega)]
      obtain rfl : q = 0 := by omega
      rw [Int.zero_mul]

set_option maxRecDepth 100000 in
set_option maxHeartbeats 4000000 in
theorem rat_kept (k p c part q : Int) (W w : World) (hK : Kept W w) : Calls Tryd.prog 21 #[cf k p c, .int .i64 part, .int .i64 q] w fun e w' => e = .returned (.tuple #[.int .i64 (atV k p c part q), .int .i64 (atE k p c part q)]) ∧ Kept W w' := by
  have hK0 : Kept (w.alloc (bx k p c)) (w.alloc (bx k p c)) := Kept.start (hK.tab.alloc _)
  have hend : RowKit.Hid (∀ w', Kept (w.alloc (bx k p c)) w' → Kept W w') := Lib.hid (fun w' h => kept_of hK h)
  clear hK
  by_cases hf : fits k p c = true
  · have hv := fits_of hf
    by_cases hpt : 0 ≤ part ∧ part ≤ 4
    · have i1 := isIn_mk hpt
      by_cases hq : 0 ≤ q ∧ q ≤ p - 1
      · have i2 := isIn_mk hq
        have hans := Lib.hid (atV_ok hf hpt hq)
        obtain ⟨p0, p4⟩ := hpt
        obtain ⟨q0, q1⟩ := hq
        go_enter Tryd.func21, Tryd.ntmps21
        go_wp2_with (first
          | (go_at_call 10; with_reducible refine (rfits_kept _ _ _ (w.alloc (bx k p c)) _ (by with_reducible assumption)).mono ?_; rintro e w' ⟨rfl, hK1⟩; obtain ⟨k0, k1, k2, _⟩ := keep3 hK1)
          | (go_at_call 25; with_reducible refine (in_any _ _ _ _).mono ?_; rintro e w' ⟨rfl, rfl⟩))
        have hrow := Lib.hid (rat_end hf p0 p4 q0 q1)
        go_loopw [8, 9] (fun x i wr => ∃ z : Int, 0 ≤ z ∧ z ≤ part ∧ i = .int .i64 z ∧ x = .int .i64 (frm k p c z.toNat) ∧ Kept (w.alloc (bx k p c)) wr) (fun _ i _ => (part - intOf i).toNat)
        case atStart => exact ⟨0, by omega, by omega, rfl, rfl, hK1⟩
        case round =>
          obtain ⟨z, z0, z5, rfl, rfl, hKr⟩ := hrel
          obtain ⟨k0, k1, k2, _⟩ := keep3 hKr
          by_cases hz : z < part
          · have hz4 : z ≤ 4 := by omega
            have hob := cells_bd hf z.toNat
            have hfb := frm_bd hf z.toNat
            have hsu := Lib.hid (frm_succ k p c z.toNat (by omega))
            have hco := Lib.hid (Int.mul_comm (each k p c z.toNat) (own p z.toNat))
            have hb2 : 1 ≤ each k p c z.toNat * own p z.toNat ∧ each k p c z.toNat * own p z.toNat ≤ 33872 := by rw [hco.out]; exact hob
            have w1 : IntKind.i64.wrap (each k p c z.toNat * own p z.toNat) = each k p c z.toNat * own p z.toNat := IntWalk.i64_in _ (by omega)
            have w2 : IntKind.i64.wrap (frm k p c z.toNat + each k p c z.toNat * own p z.toNat) = frm k p c z.toNat + each k p c z.toNat * own p z.toNat := IntWalk.i64_in _ (by omega)
            have hKd := hKr.drew
            go_wp2_with (fail)
            go_region_held3 (fun w' => (w'.cell? ⟨w.heap.size, 0, none⟩ = some (.int .i64 k) ∧ w'.cell? ⟨w.heap.size, 1, none⟩ = some (.int .i64 p) ∧ w'.cell? ⟨w.heap.size, 2, none⟩ = some (.int .i64 c) ∧ Kept (w.alloc (bx k p c)) w'))
              (exact keep3 (by with_reducible assumption))
              (first
              | (go_at_call 30; with_reducible refine (rpart_kept _ _ _ _ (w.alloc (bx k p c)) _ (by with_reducible assumption) hf (by omega) (by omega)).mono ?_; rintro e w' ⟨rfl, hK5⟩)
              | (go_at_call 31; with_reducible refine (rown_kept _ _ _ _ (w.alloc (bx k p c)) _ (by with_reducible assumption) (by omega) (by omega)).mono ?_; rintro e w' ⟨rfl, hK5⟩))
            all_goals go_wp2_with (fail)
            all_goals go_roundw
            case rel => exact ⟨z + 1, by omega, by omega, rfl, by rw [show (z + 1).toNat = z.toNat + 1 by omega, hsu.out, hco.out], by with_reducible assumption⟩
            case measure => simp [intOf]; omega
          · obtain rfl : z = part := by omega
            have hqe := qe_bd hf q0 q1 z.toNat
            have hfb := frm_bd hf z.toNat
            have w1 : RowKit.wrap64 (q * each k p c z.toNat) = q * each k p c z.toNat := by unfold RowKit.wrap64; omega
            by_cases ho : 1 < own p z.toNat
            · go_wp2_with (first
                | (go_at_call 30; with_reducible refine (rpart_kept _ _ _ _ (w.alloc (bx k p c)) _ (by with_reducible assumption) hf (by omega) (by omega)).mono ?_; rintro e w' ⟨rfl, hK5⟩)
                | (go_at_call 31; with_reducible refine (rown_kept _ _ _ _ (w.alloc (bx k p c)) _ (by with_reducible assumption) (by omega) (by omega)).mono ?_; rintro e w' ⟨rfl, hK5⟩; obtain ⟨k0, k1, k2, _⟩ := keep3 hK5))
              go_ret2
              exact ⟨ret2 (by rw [hans.out.1, hrow.out.1 ho]) hans.out.2.symm, hend.out _ hK5⟩
            · go_wp2_with (first
                | (go_at_call 31; with_reducible refine (rown_kept _ _ _ _ (w.alloc (bx k p c)) _ (by with_reducible assumption) (by omega) (by omega)).mono ?_; rintro e w' ⟨rfl, hK5⟩; obtain ⟨k0, k1, k2, _⟩ := keep3 hK5))
              go_ret2
              exact ⟨ret2 (by rw [hans.out.1, hrow.out.2 ho, Int.add_zero]) hans.out.2.symm, hend.out _ hK5⟩
      · have i2 := isIn_no hq
        have hans := Lib.hid (atV_arg (part := part) hf (fun x => hq x.2))
        clear hq
        go_enter Tryd.func21, Tryd.ntmps21
        go_wp2_with (first
          | (go_at_call 10; with_reducible refine (rfits_kept _ _ _ (w.alloc (bx k p c)) _ (by with_reducible assumption)).mono ?_; rintro e w' ⟨rfl, hK1⟩; obtain ⟨k0, k1, k2, _⟩ := keep3 hK1)
          | (go_at_call 25; with_reducible refine (in_any _ _ _ _).mono ?_; rintro e w' ⟨rfl, rfl⟩))
        go_ret2
        exact ⟨ret2 hans.out.1.symm hans.out.2.symm, hend.out _ hK1⟩
    · have i1 := isIn_no hpt
      have hans := Lib.hid (atV_arg (q := q) hf (fun x => hpt x.1))
      clear hpt
      go_enter Tryd.func21, Tryd.ntmps21
      go_wp2_with (first
        | (go_at_call 10; with_reducible refine (rfits_kept _ _ _ (w.alloc (bx k p c)) _ (by with_reducible assumption)).mono ?_; rintro e w' ⟨rfl, hK1⟩; obtain ⟨k0, k1, k2, _⟩ := keep3 hK1)
        | (go_at_call 25; with_reducible refine (in_any _ _ _ _).mono ?_; rintro e w' ⟨rfl, rfl⟩))
      go_ret2
      exact ⟨ret2 hans.out.1.symm hans.out.2.symm, hend.out _ hK1⟩
  · have hf' : fits k p c = false := by simpa using hf
    have hans := Lib.hid (atV_conf (part := part) (q := q) hf')
    clear hf
    go_enter Tryd.func21, Tryd.ntmps21
    go_wp2_with (first
      | (go_at_call 10; with_reducible refine (rfits_kept _ _ _ (w.alloc (bx k p c)) _ (by with_reducible assumption)).mono ?_; rintro e w' ⟨rfl, hK1⟩; obtain ⟨k0, k1, k2, _⟩ := keep3 hK1))
    go_ret2
    exact ⟨ret2 hans.out.1.symm hans.out.2.symm, hend.out _ hK1⟩

theorem ret3 {a b c d e f : Int} (h : a = b) (g : c = d) (j : e = f) : Ending.returned (.tuple #[.int .i64 a, .int .i64 c, .int .i64 e]) = .returned (.tuple #[.int .i64 b, .int .i64 d, .int .i64 f]) := by rw [h, g, j]

theorem rquo_in (a b : Int) (h0 : 0 ≤ a) (h1 : a < 1000000) (h2 : 1 ≤ b) : IntKind.i64.wrap (a.tdiv b) = a / b ∧ a.tmod b = a % b := by
  refine ⟨?_, Int.tmod_eq_emod_of_nonneg h0⟩
  rw [Int.tdiv_eq_ediv_of_nonneg h0]
  have e1 : 0 ≤ a / b := Int.ediv_nonneg h0 (by omega)
  have e2 : a / b ≤ a := Int.ediv_le_self b h0
  exact IntWalk.i64_in _ (by omega)

set_option maxRecDepth 100000 in
set_option maxHeartbeats 4000000 in
theorem rwhere_kept (k p c x : Int) (W w : World) (hK : Kept W w) (hx : x < 9223372036854775808) : Calls Tryd.prog 23 #[cf k p c, .int .i64 x] w fun e w' => e = .returned (.tuple #[.int .i64 (whA k p c x), .int .i64 (whB k p c x), .int .i64 (whC k p c x)]) ∧ Kept W w' := by
  have hK0 : Kept (w.alloc (bx k p c)) (w.alloc (bx k p c)) := Kept.start (hK.tab.alloc _)
  have hend : RowKit.Hid (∀ w', Kept (w.alloc (bx k p c)) w' → Kept W w') := Lib.hid (fun w' h => kept_of hK h)
  clear hK
  by_cases hf : fits k p c = true
  · by_cases hx0 : x < 0
    · have hans := Lib.hid (wh_no (place_no (k := k) (p := p) (c := c) (x := x) (fun h => by omega)))
      go_enter Tryd.func23, Tryd.ntmps23
      go_wp2_with (first
        | (go_at_call 10; with_reducible refine (rfits_kept _ _ _ (w.alloc (bx k p c)) _ (by with_reducible assumption)).mono ?_; rintro e w' ⟨rfl, hK1⟩; obtain ⟨k0, k1, k2, _⟩ := keep3 hK1))
      refine bodyPost_ret (v := .tuple #[.int .i64 5, .int .i64 0, .int .i64 0]) (by simp [results, Tryd.results23, go_sem]) rfl ⟨?_, hend.out _ hK1⟩
      exact ret3 hans.out.1.symm hans.out.2.1.symm hans.out.2.2.symm
    · have hx1 : 0 ≤ x := by omega
      go_enter Tryd.func23, Tryd.ntmps23
      go_wp2_with (first
        | (go_at_call 10; with_reducible refine (rfits_kept _ _ _ (w.alloc (bx k p c)) _ (by with_reducible assumption)).mono ?_; rintro e w' ⟨rfl, hK1⟩; obtain ⟨k0, k1, k2, _⟩ := keep3 hK1))
      go_loopw [1, 7] (fun a i wr => ∃ z : Int, 0 ≤ z ∧ z ≤ 5 ∧ i = .int .i64 z ∧ a = .int .i64 (x - frm k p c z.toNat) ∧ frm k p c z.toNat ≤ x ∧ Kept (w.alloc (bx k p c)) wr) (fun _ i _ => (5 - intOf i).toNat)
      case atStart => exact ⟨0, by omega, by omega, rfl, by simp [frm], by simpa [frm] using hx1, hK1⟩
      case round =>
        obtain ⟨z, z0, z5, rfl, rfl, hge, hKr⟩ := hrel
        obtain ⟨k0, k1, k2, _⟩ := keep3 hKr
        by_cases hz : z ≤ 4
        · have hob := cells_bd hf z.toNat
          have hfb := frm_bd hf z.toNat
          have heb := each_bd hf z.toNat
          have hco := Lib.hid (Int.mul_comm (each k p c z.toNat) (own p z.toNat))
          have hb2 : 1 ≤ each k p c z.toNat * own p z.toNat ∧ each k p c z.toNat * own p z.toNat ≤ 33872 := by rw [hco.out]; exact hob
          have w1 : RowKit.wrap64 (each k p c z.toNat * own p z.toNat) = each k p c z.toNat * own p z.toNat := by unfold RowKit.wrap64; omega
          by_cases hin : x - frm k p c z.toNat < each k p c z.toNat * own p z.toNat
          · have hans := Lib.hid (wh_of (x := x) hf (i := z.toNat) (by omega) ⟨hge, by rw [← hco.out]; omega⟩)
            have hd0 : 0 ≤ x - frm k p c z.toNat := by omega
            have hq := rquo_in (x - frm k p c z.toNat) (each k p c z.toNat) (by omega) (by omega) heb.1
            obtain ⟨hq1, hq2⟩ := hq
            have hne : each k p c z.toNat ≠ 0 := by omega
            go_wp2_with (first
              | (go_at_call 30; with_reducible refine (rpart_kept _ _ _ _ (w.alloc (bx k p c)) _ (by with_reducible assumption) hf (by omega) (by omega)).mono ?_; rintro e w' ⟨rfl, hK5⟩; obtain ⟨k0, k1, k2, _⟩ := keep3 hK5)
              | (go_at_call 31; with_reducible refine (rown_kept _ _ _ _ (w.alloc (bx k p c)) _ (by with_reducible assumption) (by omega) (by omega)).mono ?_; rintro e w' ⟨rfl, hK5⟩; obtain ⟨k0, k1, k2, _⟩ := keep3 hK5))
            go_region
            all_goals go_wp2_with (fail)
            all_goals refine bodyPost_ret (v := .tuple #[.int .i64 z, .int .i64 ((x - frm k p c z.toNat) / each k p c z.toNat), .int .i64 ((x - frm k p c z.toNat) % each k p c z.toNat)]) (by simp [results, Tryd.results23, go_sem]) rfl ⟨?_, hend.out _ (Kept.drew hK5)⟩
            all_goals exact ret3 (by rw [hans.out.1]; omega) hans.out.2.1.symm hans.out.2.2.symm
          · have hsu := Lib.hid (frm_succ k p c z.toNat (by omega))
            go_wp2_with (first
              | (go_at_call 30; with_reducible refine (rpart_kept _ _ _ _ (w.alloc (bx k p c)) _ (by with_reducible assumption) hf (by omega) (by omega)).mono ?_; rintro e w' ⟨rfl, hK5⟩; obtain ⟨k0, k1, k2, _⟩ := keep3 hK5)
              | (go_at_call 31; with_reducible refine (rown_kept _ _ _ _ (w.alloc (bx k p c)) _ (by with_reducible assumption) (by omega) (by omega)).mono ?_; rintro e w' ⟨rfl, hK5⟩; obtain ⟨k0, k1, k2, _⟩ := keep3 hK5))
            go_roundw
            case rel => exact ⟨z + 1, by omega, by omega, rfl, by rw [show (z + 1).toNat = z.toNat + 1 by omega, hsu.out, hco.out, Int.sub_sub], by rw [show (z + 1).toNat = z.toNat + 1 by omega, hsu.out]; have := hco.out; omega, hK5⟩
            case measure => simp [intOf]; omega
        · obtain rfl : z = 5 := by omega
          have hans := Lib.hid (wh_no (place_no (k := k) (p := p) (c := c) (x := x) (fun h => by
            have h1 := size_eq hf
            have h2 := frm_succ k p c 4 (by omega)
            have h3 : frm k p c (4 + 1) ≤ x := hge
            omega)))
          go_wp2_with (fail)
          refine bodyPost_ret (v := .tuple #[.int .i64 5, .int .i64 0, .int .i64 0]) (by simp [results, Tryd.results23, go_sem]) rfl ⟨?_, hend.out _ hKr⟩
          exact ret3 hans.out.1.symm hans.out.2.1.symm hans.out.2.2.symm
  · have hf' : fits k p c = false := by simpa using hf
    have hans := Lib.hid (wh_no (place_no (k := k) (p := p) (c := c) (x := x) (fun h => hf h.1)))
    clear hf
    go_enter Tryd.func23, Tryd.ntmps23
    go_wp2_with (first
      | (go_at_call 10; with_reducible refine (rfits_kept _ _ _ (w.alloc (bx k p c)) _ (by with_reducible assumption)).mono ?_; rintro e w' ⟨rfl, hK1⟩; obtain ⟨k0, k1, k2, _⟩ := keep3 hK1))
    refine bodyPost_ret (v := .tuple #[.int .i64 5, .int .i64 0, .int .i64 0]) (by simp [results, Tryd.results23, go_sem]) rfl ⟨?_, hend.out _ hK1⟩
    exact ret3 hans.out.1.symm hans.out.2.1.symm hans.out.2.2.symm

end Go.Proofs.YtbgeojahhbchlaaDoor
