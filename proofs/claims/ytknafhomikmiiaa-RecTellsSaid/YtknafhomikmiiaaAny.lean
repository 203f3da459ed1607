/-
  What pick, the calls of package rec and those of the document's own answers return, in one form, in whatever world, for integers of their kinds; and that the statements' first calls (awake) return true. They leave memory as it was, but for new blocks.
-/
import Derived.Test.YtknafhomikmiiaaRef
import Derived.RangeFuncRecord
namespace Go.Proofs.Ytknafhomikmiiaa
open Go.RowKit (Below intOf)

set_option maxHeartbeats 400000 in
theorem rhead_no (ph p : Int) (w : World) (h : okH ph p = false) : Calls Try.prog 20 #[.int .i64 ph, .int .i64 p] w fun e w' => e = .returned (.tuple #[.int .u64 0, .int .i64 1]) ∧ w = w' := by
  by_cases a1 : ph < 0
  · clear h
    go_enter Try.func20, Try.ntmps20
    go_wp2
    go_ret2
    exact ⟨rfl, rfl⟩
  by_cases a2 : 2 < ph
  · clear h
    go_enter Try.func20, Try.ntmps20
    go_wp2
    go_ret2
    exact ⟨rfl, rfl⟩
  by_cases a3 : p < 0
  · clear h
    go_enter Try.func20, Try.ntmps20
    go_wp2
    go_ret2
    exact ⟨rfl, rfl⟩
  by_cases a4 : 15 < p
  · clear h
    go_enter Try.func20, Try.ntmps20
    go_wp2
    go_ret2
    exact ⟨rfl, rfl⟩
  have h0 : ph = 0 := by
    apply Classical.byContradiction
    intro h0
    simp [okH, if_neg h0, wi_yes (n := ph) (a := 0) (b := 2) (by omega) (by omega), wi_yes (n := p) (a := 0) (b := 15) (by omega) (by omega)] at h
  subst h0
  have e1 : (p != 0) = true := by simpa [okH] using h
  clear h
  go_enter Try.func20, Try.ntmps20
  go_wp2
  go_ret2
  exact ⟨rfl, rfl⟩

/-- Which of n things a number speaks of. -/
def pick (c n : Int) : Int := if c < 0 then (-(c + 1)) % n else c % n
theorem pick_bd (c n : Int) (h : 0 < n) : 0 ≤ pick c n ∧ pick c n < n := by
  unfold pick
  split
  · exact ⟨Int.emod_nonneg _ (by omega), Int.emod_lt_of_pos _ h⟩
  · exact ⟨Int.emod_nonneg _ (by omega), Int.emod_lt_of_pos _ h⟩
theorem ret_int {k : IntKind} {a b : Int} (h : a = b) : Ending.returned (.int k a) = .returned (.int k b) := by rw [h]
set_option maxHeartbeats 400000 in
theorem pick_any (c n : Int) (w : World) (h0 : -9223372036854775808 ≤ c) (h1 : c < 9223372036854775808) (n0 : 0 < n) (n1 : n ≤ 300) : Calls Try.prog 18 #[.int .i64 c, .int .i64 n] w fun e w' => e = .returned (.int .i64 (pick c n)) ∧ w = w' := by
  have hn : (n == 0) = false := by simp; omega
  by_cases hc : c < 0
  · have hp : RowKit.Hid (pick c n = -((c + 1).tmod n)) := Lib.hid (by
      unfold pick
      rw [if_pos hc, ← Int.neg_tmod, Int.tmod_eq_emod_of_nonneg (by omega)])
    go_enter Try.func18, Try.ntmps18
    go_wp2
    go_ret
    exact ⟨ret_int hp.out.symm, rfl⟩
  · have hp : RowKit.Hid (pick c n = c % n) := Lib.hid (by unfold pick; rw [if_neg hc])
    go_enter Try.func18, Try.ntmps18
    go_wp2
    go_ret
    exact ⟨ret_int hp.out.symm, rfl⟩

/-- The cells of block b are these. -/
def Box (w : World) (b : Nat) (cs : List Value) : Prop := b < w.heap.size ∧ ∀ i v, cs[i]? = some v → w.cell? ⟨b, i, none⟩ = some v
theorem Box.ext {w w' : World} {b : Nat} {cs : List Value} (h : Box w b cs) (e : Ext w w') : Box w' b cs := ⟨Nat.lt_of_lt_of_le h.1 e.size, fun i v hv => e.cell (h.2 i v hv)⟩
theorem Box.new (w : World) (cs : List Value) (t : TypeId) : Box (w.alloc (.cells cs.toArray t)) w.heap.size cs :=
  ⟨by simp, fun i v hv => by simp only [World.cell?, World.alloc_heap_new]; simpa using hv⟩
theorem Box.two {w : World} {b : Nat} {x y : Value} (h : Box w b [x, y]) : b < w.heap.size ∧ w.cell? ⟨b, 0, none⟩ = some x ∧ w.cell? ⟨b, 1, none⟩ = some y := ⟨h.1, h.2 0 _ rfl, h.2 1 _ rfl⟩
theorem Box.three {w : World} {b : Nat} {x y z : Value} (h : Box w b [x, y, z]) : b < w.heap.size ∧ w.cell? ⟨b, 0, none⟩ = some x ∧ w.cell? ⟨b, 1, none⟩ = some y ∧ w.cell? ⟨b, 2, none⟩ = some z := ⟨h.1, h.2 0 _ rfl, h.2 1 _ rfl, h.2 2 _ rfl⟩

set_option maxRecDepth 100000 in
set_option maxHeartbeats 4000000 in
theorem awake_any (w : World) : Calls Try.prog 7 #[] w fun e w' => e = .returned (.bool true) ∧ Ext w w' := by
  have q1 := eq2_same 12 0
  have q2 := eq3_same 11 5 6
  have q3 := eqOp 11 5 6
  have q4 := eqResp 11 0
  go_enter Try.func7, Try.ntmps7
  go_wp2_with (fail)
  refine (answer_yes 11 0 _ (by omega) (by omega)).mono ?_
  rintro e w1 ⟨rfl, hE1⟩
  have hE := hE1
  clear hE1
  replace hE := hE.alloc (.cells #[.int .u64 12, .int .u64 0] 32)
  have hA := Box.new w1 [.int .u64 12, .int .u64 0] 32
  go_wp2_with (go_at_call 19; with_reducible refine (head_yes 2 3 _ (by omega) (by omega) (by omega) (by omega)).mono ?_; rintro e w' ⟨rfl, rfl⟩)
  refine (ask_yes 11 5 6 _ (by omega) (by omega)).mono ?_
  rintro e w2 ⟨rfl, hE1⟩
  replace hA := hA.ext hE1
  replace hE := hE.trans hE1
  clear hE1
  replace hA := hA.ext (Ext.new w2 (.cells #[.int .u64 11, .int .u64 5, .int .u64 6] 28))
  replace hE := hE.alloc (.cells #[.int .u64 11, .int .u64 5, .int .u64 6] 28)
  have hB := Box.new w2 [.int .u64 11, .int .u64 5, .int .u64 6] 28
  go_wp2_with (fail)
  refine (asked_yes 11 5 6 _ (by omega) (by omega)).mono ?_
  rintro e w3 ⟨rfl, hE1⟩
  replace hA := hA.ext hE1
  replace hB := hB.ext hE1
  replace hE := hE.trans hE1
  clear hE1
  replace hA := hA.ext (Ext.new w3 (.cells #[.int .i64 11, .int .u64 5, .int .u64 6] 24))
  replace hB := hB.ext (Ext.new w3 (.cells #[.int .i64 11, .int .u64 5, .int .u64 6] 24))
  replace hE := hE.alloc (.cells #[.int .i64 11, .int .u64 5, .int .u64 6] 24)
  have hC := Box.new w3 [.int .i64 11, .int .u64 5, .int .u64 6] 24
  obtain ⟨zA, A0, A1⟩ := hA.two
  go_wp2_with (fail)
  clear zA A0 A1
  refine (told_yes 12 0 _ (by omega) (by omega)).mono ?_
  rintro e w4 ⟨rfl, hE1⟩
  replace hA := hA.ext hE1
  replace hB := hB.ext hE1
  replace hC := hC.ext hE1
  replace hE := hE.trans hE1
  clear hE1
  replace hA := hA.ext (Ext.new w4 (.cells #[.int .i64 11, .int .u64 0] 27))
  replace hB := hB.ext (Ext.new w4 (.cells #[.int .i64 11, .int .u64 0] 27))
  replace hC := hC.ext (Ext.new w4 (.cells #[.int .i64 11, .int .u64 0] 27))
  replace hE := hE.alloc (.cells #[.int .i64 11, .int .u64 0] 27)
  have hD := Box.new w4 [.int .i64 11, .int .u64 0] 27
  go_wp2_with (go_at_call 16; with_reducible refine (phase_yes 8 _ (by omega) (by omega)).mono ?_; rintro e w' ⟨rfl, rfl⟩)
  refine (asked_no 0 0 0 _ (by unfold U64; omega) (by decide)).mono ?_
  rintro e w5 ⟨rfl, hE1⟩
  replace hA := hA.ext hE1
  replace hB := hB.ext hE1
  replace hC := hC.ext hE1
  replace hD := hD.ext hE1
  replace hE := hE.trans hE1
  clear hE1
  replace hA := hA.ext (Ext.new w5 (.cells #[.int .i64 0, .int .u64 0, .int .u64 0] 24))
  replace hB := hB.ext (Ext.new w5 (.cells #[.int .i64 0, .int .u64 0, .int .u64 0] 24))
  replace hC := hC.ext (Ext.new w5 (.cells #[.int .i64 0, .int .u64 0, .int .u64 0] 24))
  replace hD := hD.ext (Ext.new w5 (.cells #[.int .i64 0, .int .u64 0, .int .u64 0] 24))
  replace hE := hE.alloc (.cells #[.int .i64 0, .int .u64 0, .int .u64 0] 24)
  have hF := Box.new w5 [.int .i64 0, .int .u64 0, .int .u64 0] 24
  go_wp2_with (fail)
  refine (told_no 0 0 _ (by unfold U64; omega) (by decide)).mono ?_
  rintro e w6 ⟨rfl, hE1⟩
  replace hA := hA.ext hE1
  replace hB := hB.ext hE1
  replace hC := hC.ext hE1
  replace hD := hD.ext hE1
  replace hF := hF.ext hE1
  replace hE := hE.trans hE1
  clear hE1
  replace hA := hA.ext (Ext.new w6 (.cells #[.int .i64 0, .int .u64 0] 27))
  replace hB := hB.ext (Ext.new w6 (.cells #[.int .i64 0, .int .u64 0] 27))
  replace hC := hC.ext (Ext.new w6 (.cells #[.int .i64 0, .int .u64 0] 27))
  replace hD := hD.ext (Ext.new w6 (.cells #[.int .i64 0, .int .u64 0] 27))
  replace hF := hF.ext (Ext.new w6 (.cells #[.int .i64 0, .int .u64 0] 27))
  replace hE := hE.alloc (.cells #[.int .i64 0, .int .u64 0] 27)
  have hG := Box.new w6 [.int .i64 0, .int .u64 0] 27
  obtain ⟨zA, A0, A1⟩ := hA.two
  obtain ⟨zB, B0, B1, B2⟩ := hB.three
  obtain ⟨zC, C0, C1, C2⟩ := hC.three
  obtain ⟨zD, D0, D1⟩ := hD.two
  go_wp2_with (first | (go_at_call 16; with_reducible refine (phase_no 33 _ (by decide)).mono ?_; rintro e w' ⟨rfl, rfl⟩) | (go_at_call 19; with_reducible refine (head_no 3 0 _ (by decide)).mono ?_; rintro e w' ⟨rfl, rfl⟩))
  clear zA A0 A1
  clear zB B0 B1 B2
  clear zC C0 C1 C2
  clear zD D0 D1
  go_ret
  exact ⟨rfl, hE⟩

/-! ### One form of each call, whether there is something or not -/

theorem ask_any (c k v : Int) (w : World) : Calls Try.prog 8 #[.agg #[.int .i64 c, .int .u64 k, .int .u64 v]] w fun e w' => e = .returned (.tuple #[.agg #[.int .u64 (gate (wi c 1 255) c), .int .u64 (gate (wi c 1 255) k), .int .u64 (gate (wi c 1 255) v)], .int .i64 (fail (wi c 1 255) 1)]) ∧ Ext w w' := by
  rcases h : wi c 1 255 with _ | _
  · exact ask_no c k v w h
  · simp [wi] at h; exact ask_yes c k v w h.1 h.2
theorem asked_any (c k v : Int) (w : World) (hu : U64 c) : Calls Try.prog 12 #[.agg #[.int .u64 c, .int .u64 k, .int .u64 v]] w fun e w' => e = .returned (.tuple #[.agg #[.int .i64 (gate (wi c 1 255) c), .int .u64 (gate (wi c 1 255) k), .int .u64 (gate (wi c 1 255) v)], .int .i64 (fail (wi c 1 255) 2)]) ∧ Ext w w' := by
  rcases h : wi c 1 255 with _ | _
  · exact asked_no c k v w hu h
  · simp [wi] at h; exact asked_yes c k v w h.1 h.2
theorem answer_any (c v : Int) (w : World) : Calls Try.prog 10 #[.agg #[.int .i64 c, .int .u64 v]] w fun e w' => e = .returned (.tuple #[.agg #[.int .u64 (gate (wi c 0 255) (c + 1)), .int .u64 (gate (wi c 0 255) v)], .int .i64 (fail (wi c 0 255) 1)]) ∧ Ext w w' := by
  rcases h : wi c 0 255 with _ | _
  · exact answer_no c v w h
  · simp [wi] at h; exact answer_yes c v w h.1 h.2
theorem told_any (c v : Int) (w : World) (hu : U64 c) : Calls Try.prog 14 #[.agg #[.int .u64 c, .int .u64 v]] w fun e w' => e = .returned (.tuple #[.agg #[.int .i64 (gate (wi c 1 256) (c - 1)), .int .u64 (gate (wi c 1 256) v)], .int .i64 (fail (wi c 1 256) 2)]) ∧ Ext w w' := by
  rcases h : wi c 1 256 with _ | _
  · exact told_no c v w hu h
  · simp [wi] at h; exact told_yes c v w h.1 h.2
theorem head_any (ph p : Int) (w : World) : Calls Try.prog 19 #[.int .i64 ph, .int .i64 p] w fun e w' => e = .returned (.tuple #[.int .u64 (gate (okH ph p) (2 * p + ph)), .int .i64 (fail (okH ph p) 1)]) ∧ w = w' := by
  rcases h : okH ph p with _ | _
  · exact head_no ph p w h
  · by_cases h0 : ph = 0
    · subst h0
      have : p = 0 := by simpa [okH] using h
      subst this
      exact head_home w
    · simp [okH, if_neg h0, wi] at h
      exact head_yes ph p w (by omega) h.1.2 h.2.1 h.2.2
theorem phase_any (x : Int) (w : World) (hu : U64 x) : Calls Try.prog 16 #[.int .u64 x] w fun e w' => e = .returned (.tuple #[.int .i64 (gate (wi x 0 32) (phaseOf x)), .int .i64 (gate (wi x 0 32) (procOf x)), .int .i64 (fail (wi x 0 32) 2)]) ∧ w = w' := by
  unfold U64 at hu
  rcases h : wi x 0 32 with _ | _
  · exact phase_no x w h
  · by_cases h0 : x = 0
    · subst h0; exact phase_home w
    · simp [wi] at h
      rw [gate_yes, gate_yes, fail_yes, phaseOf, procOf, if_neg h0, if_neg h0]
      exact phase_yes x w (by omega) h.2
theorem rask_any (c k v : Int) (w : World) : Calls Try.prog 9 #[.agg #[.int .i64 c, .int .u64 k, .int .u64 v]] w fun e w' => e = .returned (.tuple #[.agg #[.int .u64 (gate (wi c 1 255) c), .int .u64 (gate (wi c 1 255) k), .int .u64 (gate (wi c 1 255) v)], .int .i64 (fail (wi c 1 255) 1)]) ∧ Ext w w' := by
  by_cases h : c < 1
  · rw [wi_no (Or.inl h)]; exact rask_low c k v w h
  · by_cases k' : 255 < c
    · rw [wi_no (Or.inr k')]; exact rask_far c k v w k'
    · rw [wi_yes (by omega) (by omega)]; exact rask_yes c k v w (by omega) (by omega)
theorem rasked_any (c k v : Int) (w : World) : Calls Try.prog 13 #[.agg #[.int .u64 c, .int .u64 k, .int .u64 v]] w fun e w' => e = .returned (.tuple #[.agg #[.int .i64 (gate (wi c 1 255) c), .int .u64 (gate (wi c 1 255) k), .int .u64 (gate (wi c 1 255) v)], .int .i64 (fail (wi c 1 255) 2)]) ∧ Ext w w' := by
  by_cases h : c < 1
  · rw [wi_no (Or.inl h)]; exact rasked_low c k v w h
  · by_cases k' : 255 < c
    · rw [wi_no (Or.inr k')]; exact rasked_far c k v w k'
    · rw [wi_yes (by omega) (by omega)]; exact rasked_yes c k v w (by omega) (by omega)
theorem ranswer_any (c v : Int) (w : World) : Calls Try.prog 11 #[.agg #[.int .i64 c, .int .u64 v]] w fun e w' => e = .returned (.tuple #[.agg #[.int .u64 (gate (wi c 0 255) (c + 1)), .int .u64 (gate (wi c 0 255) v)], .int .i64 (fail (wi c 0 255) 1)]) ∧ Ext w w' := by
  by_cases h : c < 0
  · rw [wi_no (Or.inl h)]; exact ranswer_low c v w h
  · by_cases k' : 255 < c
    · rw [wi_no (Or.inr k')]; exact ranswer_far c v w k'
    · rw [wi_yes (by omega) (by omega)]; exact ranswer_yes c v w (by omega) (by omega)
theorem rtold_any (c v : Int) (w : World) : Calls Try.prog 15 #[.agg #[.int .u64 c, .int .u64 v]] w fun e w' => e = .returned (.tuple #[.agg #[.int .i64 (gate (wi c 1 256) (c - 1)), .int .u64 (gate (wi c 1 256) v)], .int .i64 (fail (wi c 1 256) 2)]) ∧ Ext w w' := by
  by_cases h : c < 1
  · rw [wi_no (Or.inl h)]; exact rtold_low c v w h
  · by_cases k' : 256 < c
    · rw [wi_no (Or.inr k')]; exact rtold_far c v w k'
    · rw [wi_yes (by omega) (by omega)]; exact rtold_yes c v w (by omega) (by omega)
theorem rhead_any (ph p : Int) (w : World) : Calls Try.prog 20 #[.int .i64 ph, .int .i64 p] w fun e w' => e = .returned (.tuple #[.int .u64 (gate (okH ph p) (2 * p + ph)), .int .i64 (fail (okH ph p) 1)]) ∧ w = w' := by
  rcases h : okH ph p with _ | _
  · exact rhead_no ph p w h
  · by_cases h0 : ph = 0
    · subst h0
      have : p = 0 := by simpa [okH] using h
      subst this
      exact rhead_home w
    · simp [okH, if_neg h0, wi] at h
      exact rhead_yes ph p w (by omega) h.1.2 h.2.1 h.2.2
theorem rphase_any (x : Int) (w : World) (hu : U64 x) : Calls Try.prog 17 #[.int .u64 x] w fun e w' => e = .returned (.tuple #[.int .i64 (gate (wi x 0 32) (phaseOf x)), .int .i64 (gate (wi x 0 32) (procOf x)), .int .i64 (fail (wi x 0 32) 2)]) ∧ w = w' := by
  unfold U64 at hu
  rcases h : wi x 0 32 with _ | _
  · simp [wi] at h; exact rphase_no x w (by omega)
  · by_cases h0 : x = 0
    · subst h0; exact rphase_home w
    · simp [wi] at h
      rw [gate_yes, gate_yes, fail_yes, phaseOf, procOf, if_neg h0, if_neg h0]
      exact rphase_yes x w (by omega) h.2

end Go.Proofs.Ytknafhomikmiiaa
