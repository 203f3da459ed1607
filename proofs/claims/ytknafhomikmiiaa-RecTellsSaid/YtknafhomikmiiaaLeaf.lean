/-
  What within, Ask, Asked, Answer, Told, Head and Phase return, in whatever world, for integers of their kinds; they leave memory as it was, but for new blocks. Conditions: as each says.
-/
import Derived.Test.YtknafhomikmiiaaNum
namespace Go.Proofs.Ytknafhomikmiiaa
open Go.RowKit (Below intOf)

set_option maxHeartbeats 400000 in
theorem within_int (n a b : Int) (w : World) : Calls Try.prog 21 #[.int .i64 n, .int .i64 a, .int .i64 b] w fun e w' => e = .returned (.bool (wi n a b)) ∧ w = w' := by
  by_cases h : a ≤ n
  · go_enter Try.func21, Try.ntmps21
    go_wp2
    go_ret
    exact ⟨by simp [wi, h], rfl⟩
  · have hd : decide (a ≤ n) = false := by simpa using h
    go_enter Try.func21, Try.ntmps21
    go_wp2
    go_ret
    exact ⟨by simp [wi, hd], rfl⟩
set_option maxHeartbeats 400000 in
theorem within_errno (n a b : Int) (w : World) : Calls Try.prog 22 #[.int .i64 n, .int .i64 a, .int .i64 b] w fun e w' => e = .returned (.bool (wi n a b)) ∧ w = w' := by
  by_cases h : a ≤ n
  · go_enter Try.func22, Try.ntmps22
    go_wp2
    go_ret
    exact ⟨by simp [wi, h], rfl⟩
  · have hd : decide (a ≤ n) = false := by simpa using h
    go_enter Try.func22, Try.ntmps22
    go_wp2
    go_ret
    exact ⟨by simp [wi, hd], rfl⟩
set_option maxHeartbeats 400000 in
theorem within_word (n a b : Int) (w : World) : Calls Try.prog 23 #[.int .u64 n, .int .u64 a, .int .u64 b] w fun e w' => e = .returned (.bool (wi n a b)) ∧ w = w' := by
  by_cases h : a ≤ n
  · go_enter Try.func23, Try.ntmps23
    go_wp2
    go_ret
    exact ⟨by simp [wi, h], rfl⟩
  · have hd : decide (a ≤ n) = false := by simpa using h
    go_enter Try.func23, Try.ntmps23
    go_wp2
    go_ret
    exact ⟨by simp [wi, hd], rfl⟩

/-- Three words, two words, a call and an answer are the same. -/
theorem eq3 (a b c x y z : Int) (w : World) : (Op.equalIn 10000 28 (.agg #[.int .u64 a, .int .u64 b, .int .u64 c]) (.agg #[.int .u64 x, .int .u64 y, .int .u64 z])).run Try.prog w = .ok ((a == x) && (b == y) && (c == z)) w := by
  obtain ⟨i, hi⟩ : ∃ i, Try.prog.info? 22 = some i := Option.isSome_iff_exists.1 (by kernel_rfl)
  rw [run_equalIn_array w 9999 _ _ Try.underlying28 hi]
  have hc : Try.prog.cellsOf 22 = 1 := by kernel_rfl
  simp [Op.eqItems, List.range, List.range.loop, hc, part, go_sem]
  by_cases h1 : a = x <;> by_cases h2 : b = y <;> by_cases h3 : c = z <;> simp [h1, h2, h3]
theorem eq2 (a b x y : Int) (w : World) : (Op.equalIn 10000 32 (.agg #[.int .u64 a, .int .u64 b]) (.agg #[.int .u64 x, .int .u64 y])).run Try.prog w = .ok ((a == x) && (b == y)) w := by
  obtain ⟨i, hi⟩ : ∃ i, Try.prog.info? 22 = some i := Option.isSome_iff_exists.1 (by kernel_rfl)
  rw [run_equalIn_array w 9999 _ _ Try.underlying32 hi]
  have hc : Try.prog.cellsOf 22 = 1 := by kernel_rfl
  simp [Op.eqItems, List.range, List.range.loop, hc, part, go_sem]
  by_cases h1 : a = x <;> by_cases h2 : b = y <;> simp [h1, h2]
theorem eqOp (a b c : Int) (w : World) : (Op.equalIn 10000 24 (.agg #[.int .i64 a, .int .u64 b, .int .u64 c]) (.agg #[.int .i64 a, .int .u64 b, .int .u64 c])).run Try.prog w = .ok true w := by
  simp [go_sem]
theorem eqResp (a b : Int) (w : World) : (Op.equalIn 10000 27 (.agg #[.int .i64 a, .int .u64 b]) (.agg #[.int .i64 a, .int .u64 b])).run Try.prog w = .ok true w := by
  simp [go_sem]
theorem eq3_same (a b c : Int) (w : World) : (Op.equalIn 10000 28 (.agg #[.int .u64 a, .int .u64 b, .int .u64 c]) (.agg #[.int .u64 a, .int .u64 b, .int .u64 c])).run Try.prog w = .ok true w := by
  rw [eq3]; simp
theorem eq2_same (a b : Int) (w : World) : (Op.equalIn 10000 32 (.agg #[.int .u64 a, .int .u64 b]) (.agg #[.int .u64 a, .int .u64 b])).run Try.prog w = .ok true w := by
  rw [eq2]; simp

set_option maxHeartbeats 400000 in
theorem ask_yes (c k v : Int) (w : World) (h0 : 1 ≤ c) (h1 : c ≤ 255) : Calls Try.prog 8 #[.agg #[.int .i64 c, .int .u64 k, .int .u64 v]] w fun e w' => e = .returned (.tuple #[.agg #[.int .u64 c, .int .u64 k, .int .u64 v], .int .i64 0]) ∧ Ext w w' := by
  have hw : wi c 1 255 = true := wi_yes h0 h1
  go_enter Try.func8, Try.ntmps8
  go_wp2_with (go_at_call 21; with_reducible refine (within_int _ _ _ _).mono ?_; rintro e w' ⟨rfl, rfl⟩)
  exact bodyPost_ret (v := .tuple #[.agg #[.int .u64 c, .int .u64 k, .int .u64 v], .int .i64 0]) (by simp [results, Try.results8, go_sem]) rfl ⟨rfl, ((Ext.refl w).alloc _).alloc _⟩
set_option maxHeartbeats 400000 in
theorem ask_no (c k v : Int) (w : World) (hw : wi c 1 255 = false) : Calls Try.prog 8 #[.agg #[.int .i64 c, .int .u64 k, .int .u64 v]] w fun e w' => e = .returned (.tuple #[.agg #[.int .u64 0, .int .u64 0, .int .u64 0], .int .i64 1]) ∧ Ext w w' := by
  go_enter Try.func8, Try.ntmps8
  go_wp2_with (go_at_call 21; with_reducible refine (within_int _ _ _ _).mono ?_; rintro e w' ⟨rfl, rfl⟩)
  exact bodyPost_ret (v := .tuple #[.agg #[.int .u64 0, .int .u64 0, .int .u64 0], .int .i64 1]) (by simp [results, Try.results8, go_sem]) rfl ⟨rfl, ((Ext.refl w).alloc _).alloc _⟩

/-- What lay reads as before. -/
theorem lay {W w1 : World} (h : Ext W w1) : (∀ b o, b < W.heap.size → w1.cell? ⟨b, o, none⟩ = W.cell? ⟨b, o, none⟩) ∧ (∀ b o, b < W.heap.size → w1.frozen? ⟨b, o, none⟩ = W.frozen? ⟨b, o, none⟩) :=
  ⟨fun b o hb => Below.cell (p := ⟨b, o, none⟩) h hb, fun b o hb => Below.frozen (p := ⟨b, o, none⟩) h hb⟩

set_option maxHeartbeats 1000000 in
theorem asked_yes (c k v : Int) (w : World) (h0 : 1 ≤ c) (h1 : c ≤ 255) : Calls Try.prog 12 #[.agg #[.int .u64 c, .int .u64 k, .int .u64 v]] w fun e w' => e = .returned (.tuple #[.agg #[.int .i64 c, .int .u64 k, .int .u64 v], .int .i64 0]) ∧ Ext w w' := by
  have q := eq3 c k v 0 0 0
  have hc : (c == 0) = false := by simp; omega
  go_enter Try.func12, Try.ntmps12
  go_wp2_with (fail)
  refine (ask_yes c k v _ h0 h1).mono ?_
  rintro e w1 ⟨rfl, hE⟩
  obtain ⟨l1, l2⟩ := lay hE
  have hz2 : w.heap.size + 1 + 1 < w1.heap.size := by have := hE.size; simp at this; omega
  have hz1 : w.heap.size + 1 < w1.heap.size := by omega
  have HE := Lib.hid hE
  clear hE
  go_wp2
  exact bodyPost_ret (v := .tuple #[.agg #[.int .i64 c, .int .u64 k, .int .u64 v], .int .i64 0]) (by simp [results, Try.results12, go_sem, l1, hz1]) rfl ⟨rfl, (((((((((Ext.refl w).alloc _).alloc _).alloc _).trans HE.out).setCell (by omega) _).setCell (by omega) _).setCell (by omega) _).alloc _)⟩

theorem far_call {c : Int} (hu : U64 c) (hw : wi c 1 255 = false) : wi (RowKit.wrap64 c) 1 255 = false := by
  unfold U64 at hu
  simp [wi] at hw
  apply wi_no
  unfold RowKit.wrap64
  omega
theorem far_told {c : Int} (hu : U64 c) (hw : wi c 1 256 = false) : wi (RowKit.wrap64 (IntKind.u64.wrap (c - 1))) 0 255 = false := by
  unfold U64 at hu
  simp [wi] at hw
  apply wi_no
  simp only [RowKit.wrap64, IntKind.wrap, IntKind.bits, IntKind.signed]
  simp
  omega

set_option maxHeartbeats 1000000 in
theorem asked_no (c k v : Int) (w : World) (hu : U64 c) (hw : wi c 1 255 = false) : Calls Try.prog 12 #[.agg #[.int .u64 c, .int .u64 k, .int .u64 v]] w fun e w' => e = .returned (.tuple #[.agg #[.int .i64 0, .int .u64 0, .int .u64 0], .int .i64 2]) ∧ Ext w w' := by
  have q := eq3_same 0 0 0
  have hf := far_call hu hw
  go_enter Try.func12, Try.ntmps12
  go_wp2_with (fail)
  refine (ask_no _ k v _ hf).mono ?_
  rintro e w1 ⟨rfl, hE⟩
  obtain ⟨l1, l2⟩ := lay hE
  have hz2 : w.heap.size + 1 + 1 < w1.heap.size := by have := hE.size; simp at this; omega
  have hz1 : w.heap.size + 1 < w1.heap.size := by omega
  have HE := Lib.hid hE
  clear hE
  go_wp2
  exact bodyPost_ret (v := .tuple #[.agg #[.int .i64 0, .int .u64 0, .int .u64 0], .int .i64 2]) (by simp [results, Try.results12, go_sem, l1, hz1]) rfl ⟨rfl, ((((((((Ext.refl w).alloc _).alloc _).alloc _).trans HE.out).setCell (by omega) _).setCell (by omega) _).setCell (by omega) _).alloc _⟩

set_option maxHeartbeats 400000 in
theorem answer_yes (r v : Int) (w : World) (h0 : 0 ≤ r) (h1 : r ≤ 255) : Calls Try.prog 10 #[.agg #[.int .i64 r, .int .u64 v]] w fun e w' => e = .returned (.tuple #[.agg #[.int .u64 (r + 1), .int .u64 v], .int .i64 0]) ∧ Ext w w' := by
  have hw : wi r 0 255 = true := wi_yes h0 h1
  go_enter Try.func10, Try.ntmps10
  go_wp2_with (go_at_call 22; with_reducible refine (within_errno _ _ _ _).mono ?_; rintro e w' ⟨rfl, rfl⟩)
  exact bodyPost_ret (v := .tuple #[.agg #[.int .u64 (r + 1), .int .u64 v], .int .i64 0]) (by simp [results, Try.results10, go_sem]) rfl ⟨rfl, ((Ext.refl w).alloc _).alloc _⟩
set_option maxHeartbeats 400000 in
theorem answer_no (r v : Int) (w : World) (hw : wi r 0 255 = false) : Calls Try.prog 10 #[.agg #[.int .i64 r, .int .u64 v]] w fun e w' => e = .returned (.tuple #[.agg #[.int .u64 0, .int .u64 0], .int .i64 1]) ∧ Ext w w' := by
  go_enter Try.func10, Try.ntmps10
  go_wp2_with (go_at_call 22; with_reducible refine (within_errno _ _ _ _).mono ?_; rintro e w' ⟨rfl, rfl⟩)
  exact bodyPost_ret (v := .tuple #[.agg #[.int .u64 0, .int .u64 0], .int .i64 1]) (by simp [results, Try.results10, go_sem]) rfl ⟨rfl, ((Ext.refl w).alloc _).alloc _⟩

set_option maxHeartbeats 1000000 in
theorem told_yes (c k : Int) (w : World) (h0 : 1 ≤ c) (h1 : c ≤ 256) : Calls Try.prog 14 #[.agg #[.int .u64 c, .int .u64 k]] w fun e w' => e = .returned (.tuple #[.agg #[.int .i64 (c - 1), .int .u64 k], .int .i64 0]) ∧ Ext w w' := by
  have q := eq2 c k 0 0
  have hc : (c == 0) = false := by simp; omega
  go_enter Try.func14, Try.ntmps14
  go_wp2_with (fail)
  refine (answer_yes (c - 1) k _ (by omega) (by omega)).mono ?_
  rintro e w1 ⟨rfl, hE⟩
  obtain ⟨l1, l2⟩ := lay hE
  have hz2 : w.heap.size + 1 + 1 < w1.heap.size := by have := hE.size; simp at this; omega
  have hz1 : w.heap.size + 1 < w1.heap.size := by omega
  have HE := Lib.hid hE
  clear hE
  go_wp2
  exact bodyPost_ret (v := .tuple #[.agg #[.int .i64 (c - 1), .int .u64 k], .int .i64 0]) (by simp [results, Try.results14, go_sem, l1, hz1]) rfl ⟨rfl, (((((((Ext.refl w).alloc _).alloc _).alloc _).trans HE.out).setCell (by omega) _).setCell (by omega) _).alloc _⟩

set_option maxHeartbeats 1000000 in
theorem told_no (c k : Int) (w : World) (hu : U64 c) (hw : wi c 1 256 = false) : Calls Try.prog 14 #[.agg #[.int .u64 c, .int .u64 k]] w fun e w' => e = .returned (.tuple #[.agg #[.int .i64 0, .int .u64 0], .int .i64 2]) ∧ Ext w w' := by
  have q := eq2_same 0 0
  have hf := far_told hu hw
  go_enter Try.func14, Try.ntmps14
  go_wp2_with (fail)
  refine (answer_no _ k _ hf).mono ?_
  rintro e w1 ⟨rfl, hE⟩
  obtain ⟨l1, l2⟩ := lay hE
  have hz2 : w.heap.size + 1 + 1 < w1.heap.size := by have := hE.size; simp at this; omega
  have hz1 : w.heap.size + 1 < w1.heap.size := by omega
  have HE := Lib.hid hE
  clear hE
  go_wp2
  exact bodyPost_ret (v := .tuple #[.agg #[.int .i64 0, .int .u64 0], .int .i64 2]) (by simp [results, Try.results14, go_sem, l1, hz1]) rfl ⟨rfl, (((((((Ext.refl w).alloc _).alloc _).alloc _).trans HE.out).setCell (by omega) _).setCell (by omega) _).alloc _⟩

set_option maxHeartbeats 400000 in
theorem head_home (w : World) : Calls Try.prog 19 #[.int .i64 0, .int .i64 0] w fun e w' => e = .returned (.tuple #[.int .u64 0, .int .i64 0]) ∧ w = w' := by
  have h1 : wi 0 0 2 = true := by decide
  have h2 : wi 0 0 0 = true := by decide
  go_enter Try.func19, Try.ntmps19
  go_wp2_with (go_at_call 21; with_reducible refine (within_int _ _ _ _).mono ?_; rintro e w' ⟨rfl, rfl⟩)
  go_ret2
  exact ⟨rfl, rfl⟩
set_option maxHeartbeats 400000 in
theorem head_yes (ph p : Int) (w : World) (h0 : 1 ≤ ph) (h1 : ph ≤ 2) (g0 : 0 ≤ p) (g1 : p ≤ 15) : Calls Try.prog 19 #[.int .i64 ph, .int .i64 p] w fun e w' => e = .returned (.tuple #[.int .u64 (2 * p + ph), .int .i64 0]) ∧ w = w' := by
  have e1 : wi ph 0 2 = true := wi_yes (by omega) h1
  have e2 : wi p 0 15 = true := wi_yes g0 g1
  have e3 : (ph == 0) = false := by simp; omega
  go_enter Try.func19, Try.ntmps19
  go_wp2_with (go_at_call 21; with_reducible refine (within_int _ _ _ _).mono ?_; rintro e w' ⟨rfl, rfl⟩)
  go_ret2
  exact ⟨rfl, rfl⟩
set_option maxHeartbeats 400000 in
theorem head_no (ph p : Int) (w : World) (h : okH ph p = false) : Calls Try.prog 19 #[.int .i64 ph, .int .i64 p] w fun e w' => e = .returned (.tuple #[.int .u64 0, .int .i64 1]) ∧ w = w' := by
  by_cases h0 : ph = 0
  · subst h0
    have h1 : wi 0 0 2 = true := by decide
    have h2 : wi p 0 0 = false := by
      simp [okH] at h
      apply wi_no; omega
    clear h
    go_enter Try.func19, Try.ntmps19
    go_wp2_with (go_at_call 21; with_reducible refine (within_int _ _ _ _).mono ?_; rintro e w' ⟨rfl, rfl⟩)
    go_ret2
    exact ⟨rfl, rfl⟩
  · have e3 : (ph == 0) = false := by simpa using h0
    simp only [okH, if_neg h0] at h
    clear h0
    rcases e1 : wi ph 0 2 with _ | _
    · clear h
      go_enter Try.func19, Try.ntmps19
      go_wp2_with (go_at_call 21; with_reducible refine (within_int _ _ _ _).mono ?_; rintro e w' ⟨rfl, rfl⟩)
      go_ret2
      exact ⟨rfl, rfl⟩
    · have e2 : wi p 0 15 = false := by simpa [e1] using h
      clear h
      go_enter Try.func19, Try.ntmps19
      go_wp2_with (go_at_call 21; with_reducible refine (within_int _ _ _ _).mono ?_; rintro e w' ⟨rfl, rfl⟩)
      go_ret2
      exact ⟨rfl, rfl⟩

set_option maxHeartbeats 400000 in
theorem phase_no (x : Int) (w : World) (h : wi x 0 32 = false) : Calls Try.prog 16 #[.int .u64 x] w fun e w' => e = .returned (.tuple #[.int .i64 0, .int .i64 0, .int .i64 2]) ∧ w = w' := by
  go_enter Try.func16, Try.ntmps16
  go_wp2_with (go_at_call 23; with_reducible refine (within_word _ _ _ _).mono ?_; rintro e w' ⟨rfl, rfl⟩)
  exact bodyPost_ret (v := .tuple #[.int .i64 0, .int .i64 0, .int .i64 2]) (by simp [results, Try.results16, go_sem]) rfl ⟨rfl, rfl⟩
set_option maxHeartbeats 400000 in
theorem phase_home (w : World) : Calls Try.prog 16 #[.int .u64 0] w fun e w' => e = .returned (.tuple #[.int .i64 0, .int .i64 0, .int .i64 0]) ∧ w = w' := by
  have h : wi 0 0 32 = true := by decide
  go_enter Try.func16, Try.ntmps16
  go_wp2_with (go_at_call 23; with_reducible refine (within_word _ _ _ _).mono ?_; rintro e w' ⟨rfl, rfl⟩)
  exact bodyPost_ret (v := .tuple #[.int .i64 0, .int .i64 0, .int .i64 0]) (by simp [results, Try.results16, go_sem]) rfl ⟨rfl, rfl⟩
set_option maxHeartbeats 400000 in
theorem phase_yes (x : Int) (w : World) (h0 : 1 ≤ x) (h1 : x ≤ 32) : Calls Try.prog 16 #[.int .u64 x] w fun e w' => e = .returned (.tuple #[.int .i64 (1 + (x - 1) % 2), .int .i64 ((x - 1) / 2), .int .i64 0]) ∧ w = w' := by
  have h : wi x 0 32 = true := wi_yes (by omega) h1
  have e0 : (x == 0) = false := by simp; omega
  go_enter Try.func16, Try.ntmps16
  go_wp2_with (go_at_call 23; with_reducible refine (within_word _ _ _ _).mono ?_; rintro e w' ⟨rfl, rfl⟩)
  exact bodyPost_ret (v := .tuple #[.int .i64 (1 + (x - 1) % 2), .int .i64 ((x - 1) / 2), .int .i64 0]) (by simp [results, Try.results16, go_sem]) rfl ⟨rfl, rfl⟩

end Go.Proofs.Ytknafhomikmiiaa
