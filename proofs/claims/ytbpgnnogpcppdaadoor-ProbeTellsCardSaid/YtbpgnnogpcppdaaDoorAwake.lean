/-
  The statements' first calls (awake) return true; and the statements' own raw tables. Conditions: the package's table lies; the raw numbers are there.
-/
import Derived.Test.YtbpgnnogpcppdaaDoorPut
namespace Go.Proofs.YtbpgnnogpcppdaaDoor
open Go.RowKit (Below intOf)

theorem table1_nil : tableOf 1 [] = [(0, 0)] := by
  unfold tableOf sortB; rw [List.mergeSort_nil]; rfl
theorem at'_one : at' (List.replicate 1 (0, 0)) 0 = (0, 0) := rfl
theorem set_one (r : Rc) : (List.replicate 1 ((0, 0) : Rc)).set 0 r = [r] := rfl
theorem table1_one (r : Rc) : tableOf 1 [r] = [r] := by
  unfold tableOf sortB
  rw [List.mergeSort_singleton, List.foldl_cons, List.foldl_nil]
  have hz : ∀ s : Nat, (s + 0) % 1 = 0 := fun s => Nat.mod_one _
  have := layS_at (t := List.replicate 1 (0, 0)) (r := r) (n := 1) (i := 0) List.length_replicate (by omega) (by rw [hz]; exact at'_one) (fun j hj => absurd hj (Nat.not_lt_zero j))
  rw [this, hz]
  exact set_one r

theorem Tb.empty {w n : Nat} (hw : Wd w) (h1 : 1 ≤ n) (h2 : n ≤ 1024) : buildS n w [] = (flatW w (tableOf n []), 0) ∧ Tb w n (flatW w (tableOf n [])) [] := by
  refine ⟨build_ok h1 h2 hw ?_ (by simp), Tb.make hw h1 h2 Good.nil (by simp) (fun _ r hr => by cases hr)⟩
  unfold mayS; rw [(valid_good (fun r hr => by cases hr)).2 Good.nil, thin_B.2 (fun _ r hr => by cases hr)]; rfl
theorem Tb.words {w n : Nat} {xs : List Int} {S : List Rc} (h : Tb w n xs S) : xs = flatW w (tableOf n S) := by
  obtain ⟨t, hI, rfl⟩ := h.is; rw [hI.eq]
theorem fst1 : buildS 1 2 [] = ([0, 0], 0) := by
  have := (Tb.empty (w := 2) (n := 1) (by unfold Wd; omega) (by omega) (by omega)).1
  rw [table1_nil] at this; exact this
theorem tb0 : Tb 2 1 [0, 0] [] := by
  have := (Tb.empty (w := 2) (n := 1) (by unfold Wd; omega) (by omega) (by omega)).2
  rw [table1_nil] at this; exact this
theorem u5 : U64 5 := by unfold U64; omega
theorem fst2 : putS [0, 0] 2 5 9 = ([5, 9], 0) ∧ Tb 2 1 [5, 9] [(5, 9)] := by
  have h := tb0.put (k := 5) (v := 9) (by omega) u5 (by unfold U64; omega) (by omega) (by simp [withR])
  have e : withR [] 5 9 = [(5, 9)] := rfl
  rw [e] at h
  have hw := h.2.words
  rw [table1_one] at hw
  have hp : putS [0, 0] ((2 : Nat) : Int) 5 9 = ([5, 9], 0) := Prod.ext hw h.1
  exact ⟨hp, by have h2 := h.2; rw [hp] at h2; exact h2⟩
theorem fst3 : findS [5, 9] 2 5 = (0, true) := by
  rcases fst2.2.find (k := 5) (by omega) with ⟨p, v, e, _, _, hp⟩ | ⟨_, hn⟩
  · have : p = 0 := by omega
    subst this; exact e
  · exact absurd (List.mem_singleton.2 rfl) (hn 9)
theorem fst4 : putS [5, 9] 2 6 1 = ([5, 9], 11) := fst2.2.put_full (k := 6) (v := 1) (by omega) (by omega) (by unfold withR; rw [List.length_append, List.filter_eq_self.2 (by intro r hr; rw [List.mem_singleton.1 hr]; decide)]; decide)
theorem fst5 : delS [5, 9] 2 5 = ([0, 0], 0) := by
  have h := fst2.2.del (k := 5) (v := 9) (by omega) (List.mem_singleton.2 rfl)
  have e : ([(5, 9)] : List Rc).filter (fun r => decide (r.1 ≠ 5)) = [] := rfl
  rw [e] at h
  have hw := h.2.words
  rw [table1_nil] at hw
  exact Prod.ext hw h.1
theorem fst6 : delS [0, 0] 2 5 = ([0, 0], 12) := by
  have hr := tb0.right
  have := (del_prog (v := 2) (k := 5) tb0.rng hr (by omega)).1
  refine this ?_
  rcases tb0.slots.find (k := 5) (by omega) with ⟨p, v, _, _, hm, _⟩ | ⟨e, _⟩
  · cases hm
  · rw [e]
theorem fst7 : listS [5, 9] 2 = [(5, 9)] := by
  have := fst2.2.list
  rw [show sortK [(5, 9)] = [(5, 9)] from List.mergeSort_singleton _] at this
  exact this
theorem fst8 : buildS 1 3 [] = ([], 1) := build_arg (.inl (by omega))
theorem fst9 : rightS [5, 9] 2 = true := fst2.2.right
theorem fst10 : rightS [5, 9] 3 = false := by
  unfold rightS; rw [decide_eq_false (fun h => by have := h.1; omega)]; rfl

/-- Two words that were just built. -/
theorem ws_lit (w : World) (a b : Int) (ha : U64 a) (hb : U64 b) : WS (w.alloc (.cells #[.int .u64 a, .int .u64 b] 24)) (some ⟨w.heap.size, 0, none⟩) 2 2 [a, b] := by
  refine ⟨rfl, by omega, by omega, by omega, fun j y hj => ?_⟩
  match j, hj with
  | 0, hj => simp at hj; subst hj; exact ⟨ha, w.heap.size, 0, rfl, by unfold World.cell?; rw [World.alloc_heap_new]; rfl⟩
  | 1, hj => simp at hj; subst hj; exact ⟨hb, w.heap.size, 0, rfl, by unfold World.cell?; rw [World.alloc_heap_new]; rfl⟩
  | j + 2, hj => simp at hj

set_option maxRecDepth 100000 in
set_option maxHeartbeats 4000000 in
theorem awake_any (w : World) (hT : Tab w) : Calls Tryd.prog 8 #[] w fun e w' => e = .returned (.bool true) ∧ Ext w w' := by
  have HT := Lib.hid hT
  clear hT
  go_enter Tryd.func8, Tryd.ntmps8
  go_wp2_with (fail)
  have k1 := build_any 1 2 none 0 0 [] w HT.out (QS.empty _ _ _ (by omega))
  rw [fst1] at k1
  refine k1.mono ?_
  rintro e w1 ⟨hE1, s1, n1, c1, rfl, h1⟩
  clear k1
  dsimp only
  go_wp2_with (fail)
  have k2 := put_any s1 n1 c1 [0, 0] 2 5 9 w1 (HT.out.ext hE1) h1 u5 (by unfold U64; omega)
  rw [fst2.1] at k2
  refine k2.mono ?_
  rintro e w2 ⟨hE2, s2, n2, c2, rfl, h2⟩
  replace hE1 := hE1.trans hE2
  clear k2 hE2 h1
  dsimp only
  go_wp2_with (fail)
  have k3 := find_any s2 n2 c2 [5, 9] 2 5 w2 (HT.out.ext hE1) h2 u5
  rw [fst3] at k3
  refine k3.mono ?_
  rintro e w3 ⟨hE2, rfl⟩
  replace hE1 := hE1.trans hE2
  replace h2 := h2.ext hE2
  clear k3 hE2
  dsimp only
  go_wp2_with (fail)
  have k4 := put_any s2 n2 c2 [5, 9] 2 6 1 w3 (HT.out.ext hE1) h2 (by unfold U64; omega) (by unfold U64; omega)
  rw [fst4] at k4
  refine k4.mono ?_
  rintro e w4 ⟨hE2, s4, n4, c4, rfl, _⟩
  replace hE1 := hE1.trans hE2
  replace h2 := h2.ext hE2
  clear k4 hE2
  dsimp only
  go_wp2_with (fail)
  have k5 := del_any s2 n2 c2 [5, 9] 2 5 w4 (HT.out.ext hE1) h2 u5
  rw [fst5] at k5
  refine k5.mono ?_
  rintro e w5 ⟨hE2, s5, n5, c5, rfl, h5⟩
  replace hE1 := hE1.trans hE2
  replace h2 := h2.ext hE2
  clear k5 hE2
  dsimp only at h5 ⊢
  go_wp2_with (fail)
  have k6 := del_any s5 n5 c5 [0, 0] 2 5 w5 (HT.out.ext hE1) h5 u5
  rw [fst6] at k6
  refine k6.mono ?_
  rintro e w6 ⟨hE2, s6, n6, c6, rfl, _⟩
  replace hE1 := hE1.trans hE2
  replace h2 := h2.ext hE2
  replace h5 := h5.ext hE2
  clear k6 hE2
  dsimp only
  go_wp2_with (fail)
  have k7 := list_any s2 n2 c2 [5, 9] 2 w6 (HT.out.ext hE1) h2
  rw [fst7] at k7
  refine k7.mono ?_
  rintro e w7 ⟨⟨s7, n7, c7, rfl, h7⟩, hE2⟩
  replace hE1 := hE1.trans hE2
  replace h2 := h2.ext hE2
  replace h5 := h5.ext hE2
  clear k7 hE2
  go_wp2_with (fail)
  have k8 := build_any 1 3 none 0 0 [] w7 (HT.out.ext hE1) (QS.empty _ _ _ (by omega))
  rw [fst8] at k8
  refine k8.mono ?_
  rintro e w8 ⟨hE2, s8, n8, c8, rfl, _⟩
  replace hE1 := hE1.trans hE2
  replace h2 := h2.ext hE2
  replace h5 := h5.ext hE2
  replace h7 := h7.ext hE2
  clear k8 hE2
  dsimp only
  go_wp2_with (fail)
  have hE2 := Ext.new w8 (.cells #[.int .u64 5, .int .u64 9] 24)
  refine (same_any s2 _ n2 2 c2 2 [5, 9] [5, 9] true _ (h2.ext hE2) (ws_lit w8 5 9 u5 (by unfold U64; omega)) (Lib.hid rfl)).mono ?_
  rintro e w9 ⟨rfl, q9, hq9⟩
  have hE9 : Ext w8 w9 := by rw [hq9]; exact hE2.drewN q9
  replace hE1 := hE1.trans hE9
  replace h2 := h2.ext hE9
  replace h5 := h5.ext hE9
  replace h7 := h7.ext hE9
  clear hE2 hE9 hq9
  go_wp2_with (fail)
  have hE2 := Ext.new w9 (.cells #[.int .u64 0, .int .u64 0] 24)
  refine (same_any s5 _ n5 2 c5 2 [0, 0] [0, 0] true _ (h5.ext hE2) (ws_lit w9 0 0 (by unfold U64; omega) (by unfold U64; omega)) (Lib.hid rfl)).mono ?_
  rintro e w10 ⟨rfl, q10, hq10⟩
  have hE10 : Ext w9 w10 := by rw [hq10]; exact hE2.drewN q10
  replace hE1 := hE1.trans hE10
  replace h2 := h2.ext hE10
  replace h7 := h7.ext hE10
  clear hE2 hE10 hq10 h5
  go_wp2_with (fail)
  have hE2 := Ext.new w10 (Rec2 5 9)
  refine (records_same s7 _ n7 1 c7 1 [(5, 9)] [(5, 9)] true _ (h7.ext hE2) (qs_lit w10 5 9 u5 (by unfold U64; omega)) (Lib.hid rfl)).mono ?_
  rintro e w11 ⟨rfl, q11, hq11⟩
  have hE11 : Ext w10 w11 := by rw [hq11]; exact hE2.drewN q11
  replace hE1 := hE1.trans hE11
  replace h2 := h2.ext hE11
  clear hE2 hE11 hq11 h7
  go_wp2_with (fail)
  refine (right_any s2 n2 c2 [5, 9] 2 true w11 (HT.out.ext hE1) h2 (Lib.hid fst9.symm)).mono ?_
  rintro e w12 ⟨rfl, hE2⟩
  replace hE1 := hE1.trans hE2
  replace h2 := h2.ext hE2
  clear hE2
  go_wp2_with (fail)
  refine (right_any s2 n2 c2 [5, 9] 3 false w12 (HT.out.ext hE1) h2 (Lib.hid fst10.symm)).mono ?_
  rintro e w13 ⟨rfl, hE2⟩
  replace hE1 := hE1.trans hE2
  clear hE2
  go_wp2_with (fail)
  go_ret
  exact ⟨rfl, hE1⟩

end Go.Proofs.YtbpgnnogpcppdaaDoor
