/-
  The statements' first calls (awake) return true. Condition: the package's table lies.
-/
import Derived.Test.YtnmeakkehonnmaaDoorTrpCode
import Derived.Test.YtnmeakkehonnmaaDoorTrpSmall
namespace Go.Proofs.YtnmeakkehonnmaaDoor.Trp
open Go.RowKit (Below intOf)

theorem mix07 : mixed 0 < mixed 7 := by decide +kernel
theorem top07 : IsTop [0, 7] 1 := isTop_of_max (by unfold Apart; rw [List.pairwise_cons]; exact ⟨fun a ha => by rw [List.mem_singleton.1 ha]; have := mix07; omega, by simp⟩) rfl (fun j x hx => by
  match j, hx with
  | 0, hx => simp at hx; subst hx; have := mix07; omega
  | 1, hx => simp at hx; subst hx; exact Int.le_refl _
  | j + 2, hx => simp at hx)
theorem tree_1 (x : Int) (off : Nat) : tree [x] off = (((off + 1 : Nat) : Int), [(0, 0)]) := by
  rw [tree_at (isTop_one x)]; simp [tree_nil]
theorem tree07 : tree [0, 7] 0 = (2, [(0, 0), (1, 0)]) := by
  rw [tree_at top07]; simp [tree_nil, tree_1]
theorem fst1 : buildS [0, 7] = (2, [(0, 0), (1, 0)], 0) := by
  rw [build_ok (by simp) (by decide), tree07]
theorem fst2 : buildS [7] = (1, [(0, 0)], 0) := by
  rw [build_ok (by simp) (by decide), tree_1]; rfl
theorem fst3 : buildS [2, 1] = (0, [], 1) := build_bad (by simp) (by decide)
theorem right07 : rightS [0, 7] 2 [(0, 0), (1, 0)] = true := by unfold rightS; rw [fst1]; decide
theorem fst4 : nextS [0, 7] 2 [(0, 0), (1, 0)] 0 = (1, true) := by unfold nextS; rw [right07]; rfl
theorem path_1 (x : Int) (off : Nat) : path [x] off x = [((off + 1 : Nat) : Int)] := by
  rw [path_at (isTop_one x) rfl]; simp
theorem fst5 : pathS [0, 7] 2 [(0, 0), (1, 0)] 0 = [2, 1] := by
  unfold pathS; rw [right07, if_pos rfl, path_at top07 rfl]; simp [path_1]
theorem fst6 : findS [0, 7] 2 [(0, 0), (1, 0)] 7 = (2, true) := by unfold findS; rw [right07]; rfl
theorem fst7 : rightS [0, 7] 1 [(0, 2), (0, 0)] = false := by unfold rightS; rw [fst1]; decide

theorem ip (a b : Int) (h : 0 ≤ a ∧ a ≤ 300) (g : 0 ≤ b ∧ b ≤ 300) : Ip (a, b) := by unfold Ip I64; simp only; omega

theorem u07 : ∀ x ∈ ([0, 7] : List Int), U64 x := by intro x hx; simp at hx; unfold U64; omega
theorem u7 : ∀ x ∈ ([7] : List Int), U64 x := by intro x hx; simp at hx; unfold U64; omega
theorem u21 : ∀ x ∈ ([2, 1] : List Int), U64 x := by intro x hx; simp at hx; unfold U64; omega

theorem rows2 (w : World) (a b c d : Int) (h1 : 0 ≤ a ∧ a ≤ 300) (h2 : 0 ≤ b ∧ b ≤ 300) (h3 : 0 ≤ c ∧ c ≤ 300) (h4 : 0 ≤ d ∧ d ≤ 300) :
    WS ((w.alloc (.cells #[.int .u64 0, .int .u64 7] 25)).alloc (.cells #[.int .i64 a, .int .i64 b, .int .i64 c, .int .i64 d] 42)) (some ⟨w.heap.size, 0, none⟩) 2 2 [0, 7] ∧
    LS ((w.alloc (.cells #[.int .u64 0, .int .u64 7] 25)).alloc (.cells #[.int .i64 a, .int .i64 b, .int .i64 c, .int .i64 d] 42)) (some ⟨w.heap.size + 1, 0, none⟩) 2 2 [(a, b), (c, d)] := by
  refine ⟨(WS.row w [0, 7] 2 rfl (by omega) u07 _ rfl).ext (Ext.new _ _), ?_⟩
  have h := LS.row (w.alloc (.cells #[.int .u64 0, .int .u64 7] 25)) [(a, b), (c, d)] 2 rfl (by omega) (by
    intro x hx; simp at hx; rcases hx with rfl | rfl
    · exact ip _ _ h1 h2
    · exact ip _ _ h3 h4) _ rfl
  have e : (w.alloc (.cells #[.int .u64 0, .int .u64 7] 25)).heap.size = w.heap.size + 1 := by simp
  rw [e] at h
  exact h

set_option maxHeartbeats 4000000 in
set_option maxRecDepth 100000 in
theorem awake_any (w : World) (hT : Tab w) : Calls Tryd.prog 8 #[] w fun e w' => e = .returned (.bool true) ∧ Ext w w' := by
  have HT := Lib.hid hT
  clear hT
  go_enter Tryd.func8, Tryd.ntmps8
  go_wp2_with (fail)
  have c1 := build_any _ 2 2 [0, 7] _ (tab_ext HT.out (Ext.new w _)) (WS.row w [0, 7] 2 rfl (by omega) u07 _ rfl) (by omega)
  rw [fst1] at c1
  refine c1.mono ?_
  clear c1
  rintro e w1 ⟨hE, s1, m1, d1, rfl, hM1⟩
  replace hE := (Ext.new w _).trans hE
  go_wp2_with (fail)
  have c1 := build_any _ 1 1 [7] _ (tab_ext HT.out (hE.alloc _)) (WS.row w1 [7] 1 rfl (by omega) u7 _ rfl) (by omega)
  rw [fst2] at c1
  refine c1.mono ?_
  clear c1
  rintro e w2 ⟨hE2, s2, m2, d2, rfl, hM2⟩
  replace hE2 := (Ext.new w1 _).trans hE2
  replace hM1 := hM1.ext hE2
  replace hE := hE.trans hE2
  clear hE2
  go_wp2_with (fail)
  have c1 := build_any _ 2 2 [2, 1] _ (tab_ext HT.out (hE.alloc _)) (WS.row w2 [2, 1] 2 rfl (by omega) u21 _ rfl) (by omega)
  rw [fst3] at c1
  refine c1.mono ?_
  clear c1
  rintro e w3 ⟨hE2, s3, m3, d3, rfl, hM3⟩
  replace hE2 := (Ext.new w2 _).trans hE2
  replace hM1 := hM1.ext hE2
  replace hM2 := hM2.ext hE2
  replace hE := hE.trans hE2
  clear hE2 hM3
  go_wp2_with (fail)
  obtain ⟨r1, r2⟩ := rows2 w3 0 0 1 0 (by omega) (by omega) (by omega) (by omega)
  have c1 := next_any _ 2 2 [0, 7] 2 _ 2 2 [(0, 0), (1, 0)] 0 _ (tab_ext HT.out ((hE.alloc _).alloc _)) r1 r2 (by unfold U64; omega)
  rw [fst4] at c1
  refine c1.mono ?_
  clear c1 r1 r2
  rintro e w4 ⟨rfl, hE2⟩
  replace hE2 := ((Ext.new w3 _).alloc _).trans hE2
  replace hM1 := hM1.ext hE2
  replace hM2 := hM2.ext hE2
  replace hE := hE.trans hE2
  clear hE2
  go_wp2_with (fail)
  obtain ⟨r1, r2⟩ := rows2 w4 0 0 1 0 (by omega) (by omega) (by omega) (by omega)
  have c1 := path_any _ 2 2 [0, 7] 2 _ 2 2 [(0, 0), (1, 0)] 0 _ (tab_ext HT.out ((hE.alloc _).alloc _)) r1 r2 (by unfold U64; omega)
  rw [fst5] at c1
  refine c1.mono ?_
  clear c1 r1 r2
  rintro e w5 ⟨s5, m5, d5, rfl, hM5, hE2⟩
  replace hE2 := ((Ext.new w4 _).alloc _).trans hE2
  replace hM1 := hM1.ext hE2
  replace hM2 := hM2.ext hE2
  replace hE := hE.trans hE2
  clear hE2
  go_wp2_with (fail)
  obtain ⟨r1, r2⟩ := rows2 w5 0 0 1 0 (by omega) (by omega) (by omega) (by omega)
  have c1 := find_any _ 2 2 [0, 7] 2 _ 2 2 [(0, 0), (1, 0)] 7 _ (tab_ext HT.out ((hE.alloc _).alloc _)) r1 r2 (by unfold U64; omega)
  rw [fst6] at c1
  refine c1.mono ?_
  clear c1 r1 r2
  rintro e w6 ⟨rfl, hE2⟩
  replace hE2 := ((Ext.new w5 _).alloc _).trans hE2
  replace hM1 := hM1.ext hE2
  replace hM2 := hM2.ext hE2
  replace hM5 := hM5.ext hE2
  replace hE := hE.trans hE2
  clear hE2
  go_wp2_with (fail)
  have r1 := LS.row w6 [(0, 0), (1, 0)] 2 rfl (by omega) (by intro x hx; simp at hx; rcases hx with rfl | rfl <;> exact ip _ _ (by omega) (by omega)) _ rfl
  refine (links_any s1 _ m1 2 d1 2 _ _ true _ (hM1.ext (Ext.new w6 _)) r1 (Lib.hid (by decide))).mono ?_
  rintro e w7 ⟨rfl, q7, e7⟩
  have hE2 : Ext w6 w7 := by rw [e7]; exact (Ext.new w6 _).drewN q7
  clear e7 r1
  replace hM2 := hM2.ext hE2
  replace hM5 := hM5.ext hE2
  replace hE := hE.trans hE2
  clear hE2 hM1
  go_wp2_with (fail)
  have r1 := LS.row w7 [(0, 0)] 1 rfl (by omega) (by intro x hx; simp at hx; subst hx; exact ip _ _ (by omega) (by omega)) _ rfl
  refine (links_any s2 _ m2 1 d2 1 _ _ true _ (hM2.ext (Ext.new w7 _)) r1 (Lib.hid (by decide))).mono ?_
  rintro e w8 ⟨rfl, q8, e8⟩
  have hE2 : Ext w7 w8 := by rw [e8]; exact (Ext.new w7 _).drewN q8
  clear e8 r1
  replace hM5 := hM5.ext hE2
  replace hE := hE.trans hE2
  clear hE2 hM2
  go_wp2_with (fail)
  have r1 := NS.row w8 [2, 1] 2 rfl (by omega) (by intro x hx; simp at hx; unfold I64; omega) _ rfl
  refine (ints_any s5 _ m5 2 d5 2 _ _ true _ (hM5.ext (Ext.new w8 _)) r1 (Lib.hid (by decide))).mono ?_
  rintro e w9 ⟨rfl, q9, e9⟩
  have hE2 : Ext w8 w9 := by rw [e9]; exact (Ext.new w8 _).drewN q9
  clear e9 r1
  replace hE := hE.trans hE2
  clear hE2 hM5
  go_wp2_with (fail)
  obtain ⟨r1, r2⟩ := rows2 w9 0 2 0 0 (by omega) (by omega) (by omega) (by omega)
  have c1 := right_any _ 2 2 [0, 7] 1 _ 2 2 [(0, 2), (0, 0)] _ (tab_ext HT.out ((hE.alloc _).alloc _)) r1 r2
  rw [fst7] at c1
  refine c1.mono ?_
  clear c1 r1 r2
  rintro e wa ⟨rfl, hE2⟩
  replace hE2 := ((Ext.new w9 _).alloc _).trans hE2
  replace hE := hE.trans hE2
  clear hE2
  go_wp2_with (fail)
  go_ret
  exact ⟨rfl, hE⟩

end Go.Proofs.YtnmeakkehonnmaaDoor.Trp
