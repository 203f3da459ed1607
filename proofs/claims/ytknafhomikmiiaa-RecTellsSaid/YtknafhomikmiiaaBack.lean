/-
  RecBack, walked: it returns true for every six integers of their kinds, and leaves memory as it was, but for new blocks. Condition: the integers are of their kinds.
-/
import Derived.Test.YtknafhomikmiiaaAny
namespace Go.Proofs.Ytknafhomikmiiaa
open Go.RowKit (Below intOf)

/-- pick, by what it is. -/
theorem pick_to (c n s : Int) (w : World) (h : I64 c) (n0 : 0 < n) (n1 : n ≤ 300) (hs : RowKit.Hid (pick c n = s)) : Calls Try.prog 18 #[.int .i64 c, .int .i64 n] w fun e w' => e = .returned (.int .i64 s) ∧ w = w' := by
  rw [← hs.out]; exact pick_any c n w h.1 h.2 n0 n1
theorem pick_is (c n : Int) (n0 : 0 < n) : ∃ s, RowKit.Hid (pick c n = s) ∧ 0 ≤ s ∧ s < n := ⟨_, Lib.hid rfl, pick_bd c n n0⟩
/-- What Answer told, told again; what Head told, said again. -/
theorem told_back (r v : Int) (w : World) (h0 : 0 ≤ r) (h1 : r ≤ 255) : Calls Try.prog 14 #[.agg #[.int .u64 (r + 1), .int .u64 v]] w fun e w' => e = .returned (.tuple #[.agg #[.int .i64 r, .int .u64 v], .int .i64 0]) ∧ Ext w w' := by
  have h := told_yes (r + 1) v w (by omega) (by omega)
  rw [show r + 1 - 1 = r by omega] at h
  exact h
theorem phase_back (ph p : Int) (w : World) (h0 : 1 ≤ ph) (h1 : ph ≤ 2) (g0 : 0 ≤ p) (g1 : p ≤ 15) : Calls Try.prog 16 #[.int .u64 (2 * p + ph)] w fun e w' => e = .returned (.tuple #[.int .i64 ph, .int .i64 p, .int .i64 0]) ∧ w = w' := by
  have h := phase_yes (2 * p + ph) w (by omega) (by omega)
  rw [show 1 + (2 * p + ph - 1) % 2 = ph by omega, show (2 * p + ph - 1) / 2 = p by omega] at h
  exact h

set_option maxRecDepth 100000 in
set_option maxHeartbeats 4000000 in
theorem back_walk (code errno phase p key val : Int) (w : World) (hc : I64 code) (he : I64 errno) (hp : I64 phase) (hq : I64 p) :
    Calls Try.prog 4 #[.int .i64 code, .int .i64 errno, .int .i64 phase, .int .i64 p, .int .u64 key, .int .u64 val] w fun e w' => e = .returned (.bool true) ∧ Ext w w' := by
  obtain ⟨m, e1, m0, m1⟩ := pick_is code 255 (by omega)
  obtain ⟨r, e2, r0, r1⟩ := pick_is errno 256 (by omega)
  obtain ⟨s, e3, s0, s1⟩ := pick_is phase 3 (by omega)
  obtain ⟨q, e4, q0, q1⟩ := pick_is p 16 (by omega)
  have k1 := eqOp (1 + m) key val
  have k2 := eqResp r val
  have k3 : (1 + m != 0) = true := by simp; omega
  have k4 : (r + 1 != 0) = true := by simp; omega
  rcases (by omega : s = 0 ∨ 1 ≤ s) with rfl | s2
  · clear s1
    go_enter Try.func4, Try.ntmps4
    go_wp2_with (fail)
    refine (awake_any _).mono ?_
    rintro e w1 ⟨rfl, hE1⟩
    have hE := hE1
    clear hE1
    go_wp2_with (first
      | (go_at_call 18; with_reducible refine (pick_to _ _ _ _ hc (by omega) (by omega) e1).mono ?_; rintro e w' ⟨rfl, rfl⟩)
      | (go_at_call 18; with_reducible refine (pick_to _ _ _ _ he (by omega) (by omega) e2).mono ?_; rintro e w' ⟨rfl, rfl⟩)
      | (go_at_call 18; with_reducible refine (pick_to _ _ _ _ hp (by omega) (by omega) e3).mono ?_; rintro e w' ⟨rfl, rfl⟩)
      | (go_at_call 18; with_reducible refine (pick_to _ _ _ _ hq (by omega) (by omega) e4).mono ?_; rintro e w' ⟨rfl, rfl⟩))
    replace hE := hE.alloc (.cells #[.int .i64 (1 + m), .int .u64 key, .int .u64 val] 24)
    have hA := Box.new w1 [.int .i64 (1 + m), .int .u64 key, .int .u64 val] 24
    replace hA := hA.ext (Ext.new (w1.alloc (.cells #[.int .i64 (1 + m), .int .u64 key, .int .u64 val] 24)) (.cells #[.int .i64 r, .int .u64 val] 27))
    replace hE := hE.alloc (.cells #[.int .i64 r, .int .u64 val] 27)
    have hB := Box.new (w1.alloc (.cells #[.int .i64 (1 + m), .int .u64 key, .int .u64 val] 24)) [.int .i64 r, .int .u64 val] 27
    rw [World.size_alloc] at hB
    refine (ask_yes (1 + m) key val _ (by omega) (by omega)).mono ?_
    rintro e w2 ⟨rfl, hE1⟩
    replace hA := hA.ext hE1
    replace hB := hB.ext hE1
    replace hE := hE.trans hE1
    clear hE1
    replace hA := hA.ext (Ext.new w2 (.cells #[.int .u64 (1 + m), .int .u64 key, .int .u64 val] 28))
    replace hB := hB.ext (Ext.new w2 (.cells #[.int .u64 (1 + m), .int .u64 key, .int .u64 val] 28))
    replace hE := hE.alloc (.cells #[.int .u64 (1 + m), .int .u64 key, .int .u64 val] 28)
    have hC := Box.new w2 [.int .u64 (1 + m), .int .u64 key, .int .u64 val] 28
    go_wp2_with (fail)
    refine (asked_yes (1 + m) key val _ (by omega) (by omega)).mono ?_
    rintro e w3 ⟨rfl, hE1⟩
    replace hA := hA.ext hE1
    replace hB := hB.ext hE1
    replace hC := hC.ext hE1
    replace hE := hE.trans hE1
    clear hE1
    replace hA := hA.ext (Ext.new w3 (.cells #[.int .i64 (1 + m), .int .u64 key, .int .u64 val] 24))
    replace hB := hB.ext (Ext.new w3 (.cells #[.int .i64 (1 + m), .int .u64 key, .int .u64 val] 24))
    replace hC := hC.ext (Ext.new w3 (.cells #[.int .i64 (1 + m), .int .u64 key, .int .u64 val] 24))
    replace hE := hE.alloc (.cells #[.int .i64 (1 + m), .int .u64 key, .int .u64 val] 24)
    have hD := Box.new w3 [.int .i64 (1 + m), .int .u64 key, .int .u64 val] 24
    obtain ⟨zB, B0, B1⟩ := hB.two
    go_wp2_with (fail)
    clear zB B0 B1
    refine (answer_yes r val _ (by omega) (by omega)).mono ?_
    rintro e w4 ⟨rfl, hE1⟩
    replace hA := hA.ext hE1
    replace hB := hB.ext hE1
    replace hC := hC.ext hE1
    replace hD := hD.ext hE1
    replace hE := hE.trans hE1
    clear hE1
    replace hA := hA.ext (Ext.new w4 (.cells #[.int .u64 (r + 1), .int .u64 val] 32))
    replace hB := hB.ext (Ext.new w4 (.cells #[.int .u64 (r + 1), .int .u64 val] 32))
    replace hC := hC.ext (Ext.new w4 (.cells #[.int .u64 (r + 1), .int .u64 val] 32))
    replace hD := hD.ext (Ext.new w4 (.cells #[.int .u64 (r + 1), .int .u64 val] 32))
    replace hE := hE.alloc (.cells #[.int .u64 (r + 1), .int .u64 val] 32)
    have hF := Box.new w4 [.int .u64 (r + 1), .int .u64 val] 32
    go_wp2_with (fail)
    refine (told_back r val _ (by omega) (by omega)).mono ?_
    rintro e w5 ⟨rfl, hE1⟩
    replace hA := hA.ext hE1
    replace hB := hB.ext hE1
    replace hC := hC.ext hE1
    replace hD := hD.ext hE1
    replace hF := hF.ext hE1
    replace hE := hE.trans hE1
    clear hE1
    replace hA := hA.ext (Ext.new w5 (.cells #[.int .i64 r, .int .u64 val] 27))
    replace hB := hB.ext (Ext.new w5 (.cells #[.int .i64 r, .int .u64 val] 27))
    replace hC := hC.ext (Ext.new w5 (.cells #[.int .i64 r, .int .u64 val] 27))
    replace hD := hD.ext (Ext.new w5 (.cells #[.int .i64 r, .int .u64 val] 27))
    replace hF := hF.ext (Ext.new w5 (.cells #[.int .i64 r, .int .u64 val] 27))
    replace hE := hE.alloc (.cells #[.int .i64 r, .int .u64 val] 27)
    have hG := Box.new w5 [.int .i64 r, .int .u64 val] 27
    obtain ⟨zA, A0, A1, A2⟩ := hA.three
    obtain ⟨zB, B0, B1⟩ := hB.two
    obtain ⟨zC, C0, C1, C2⟩ := hC.three
    obtain ⟨zD, D0, D1, D2⟩ := hD.three
    obtain ⟨zF, F0, F1⟩ := hF.two
    go_wp2_with (first
      | (go_at_call 19; with_reducible refine (head_home _).mono ?_; rintro e w' ⟨rfl, rfl⟩)
      | (go_at_call 16; with_reducible refine (phase_home _).mono ?_; rintro e w' ⟨rfl, rfl⟩))
    clear zA A0 A1 A2
    clear zB B0 B1
    clear zC C0 C1 C2
    clear zD D0 D1 D2
    clear zF F0 F1
    go_ret
    exact ⟨rfl, hE⟩
  · have k5 : (s == 0) = false := by simp; omega
    have k6 : (2 * q + s == 0) = false := by simp; omega
    go_enter Try.func4, Try.ntmps4
    go_wp2_with (fail)
    refine (awake_any _).mono ?_
    rintro e w1 ⟨rfl, hE1⟩
    have hE := hE1
    clear hE1
    go_wp2_with (first
      | (go_at_call 18; with_reducible refine (pick_to _ _ _ _ hc (by omega) (by omega) e1).mono ?_; rintro e w' ⟨rfl, rfl⟩)
      | (go_at_call 18; with_reducible refine (pick_to _ _ _ _ he (by omega) (by omega) e2).mono ?_; rintro e w' ⟨rfl, rfl⟩)
      | (go_at_call 18; with_reducible refine (pick_to _ _ _ _ hp (by omega) (by omega) e3).mono ?_; rintro e w' ⟨rfl, rfl⟩)
      | (go_at_call 18; with_reducible refine (pick_to _ _ _ _ hq (by omega) (by omega) e4).mono ?_; rintro e w' ⟨rfl, rfl⟩))
    replace hE := hE.alloc (.cells #[.int .i64 (1 + m), .int .u64 key, .int .u64 val] 24)
    have hA := Box.new w1 [.int .i64 (1 + m), .int .u64 key, .int .u64 val] 24
    replace hA := hA.ext (Ext.new (w1.alloc (.cells #[.int .i64 (1 + m), .int .u64 key, .int .u64 val] 24)) (.cells #[.int .i64 r, .int .u64 val] 27))
    replace hE := hE.alloc (.cells #[.int .i64 r, .int .u64 val] 27)
    have hB := Box.new (w1.alloc (.cells #[.int .i64 (1 + m), .int .u64 key, .int .u64 val] 24)) [.int .i64 r, .int .u64 val] 27
    rw [World.size_alloc] at hB
    refine (ask_yes (1 + m) key val _ (by omega) (by omega)).mono ?_
    rintro e w2 ⟨rfl, hE1⟩
    replace hA := hA.ext hE1
    replace hB := hB.ext hE1
    replace hE := hE.trans hE1
    clear hE1
    replace hA := hA.ext (Ext.new w2 (.cells #[.int .u64 (1 + m), .int .u64 key, .int .u64 val] 28))
    replace hB := hB.ext (Ext.new w2 (.cells #[.int .u64 (1 + m), .int .u64 key, .int .u64 val] 28))
    replace hE := hE.alloc (.cells #[.int .u64 (1 + m), .int .u64 key, .int .u64 val] 28)
    have hC := Box.new w2 [.int .u64 (1 + m), .int .u64 key, .int .u64 val] 28
    go_wp2_with (fail)
    refine (asked_yes (1 + m) key val _ (by omega) (by omega)).mono ?_
    rintro e w3 ⟨rfl, hE1⟩
    replace hA := hA.ext hE1
    replace hB := hB.ext hE1
    replace hC := hC.ext hE1
    replace hE := hE.trans hE1
    clear hE1
    replace hA := hA.ext (Ext.new w3 (.cells #[.int .i64 (1 + m), .int .u64 key, .int .u64 val] 24))
    replace hB := hB.ext (Ext.new w3 (.cells #[.int .i64 (1 + m), .int .u64 key, .int .u64 val] 24))
    replace hC := hC.ext (Ext.new w3 (.cells #[.int .i64 (1 + m), .int .u64 key, .int .u64 val] 24))
    replace hE := hE.alloc (.cells #[.int .i64 (1 + m), .int .u64 key, .int .u64 val] 24)
    have hD := Box.new w3 [.int .i64 (1 + m), .int .u64 key, .int .u64 val] 24
    obtain ⟨zB, B0, B1⟩ := hB.two
    go_wp2_with (fail)
    clear zB B0 B1
    refine (answer_yes r val _ (by omega) (by omega)).mono ?_
    rintro e w4 ⟨rfl, hE1⟩
    replace hA := hA.ext hE1
    replace hB := hB.ext hE1
    replace hC := hC.ext hE1
    replace hD := hD.ext hE1
    replace hE := hE.trans hE1
    clear hE1
    replace hA := hA.ext (Ext.new w4 (.cells #[.int .u64 (r + 1), .int .u64 val] 32))
    replace hB := hB.ext (Ext.new w4 (.cells #[.int .u64 (r + 1), .int .u64 val] 32))
    replace hC := hC.ext (Ext.new w4 (.cells #[.int .u64 (r + 1), .int .u64 val] 32))
    replace hD := hD.ext (Ext.new w4 (.cells #[.int .u64 (r + 1), .int .u64 val] 32))
    replace hE := hE.alloc (.cells #[.int .u64 (r + 1), .int .u64 val] 32)
    have hF := Box.new w4 [.int .u64 (r + 1), .int .u64 val] 32
    go_wp2_with (fail)
    refine (told_back r val _ (by omega) (by omega)).mono ?_
    rintro e w5 ⟨rfl, hE1⟩
    replace hA := hA.ext hE1
    replace hB := hB.ext hE1
    replace hC := hC.ext hE1
    replace hD := hD.ext hE1
    replace hF := hF.ext hE1
    replace hE := hE.trans hE1
    clear hE1
    replace hA := hA.ext (Ext.new w5 (.cells #[.int .i64 r, .int .u64 val] 27))
    replace hB := hB.ext (Ext.new w5 (.cells #[.int .i64 r, .int .u64 val] 27))
    replace hC := hC.ext (Ext.new w5 (.cells #[.int .i64 r, .int .u64 val] 27))
    replace hD := hD.ext (Ext.new w5 (.cells #[.int .i64 r, .int .u64 val] 27))
    replace hF := hF.ext (Ext.new w5 (.cells #[.int .i64 r, .int .u64 val] 27))
    replace hE := hE.alloc (.cells #[.int .i64 r, .int .u64 val] 27)
    have hG := Box.new w5 [.int .i64 r, .int .u64 val] 27
    obtain ⟨zA, A0, A1, A2⟩ := hA.three
    obtain ⟨zB, B0, B1⟩ := hB.two
    obtain ⟨zC, C0, C1, C2⟩ := hC.three
    obtain ⟨zD, D0, D1, D2⟩ := hD.three
    obtain ⟨zF, F0, F1⟩ := hF.two
    go_wp2_with (first
      | (go_at_call 19; with_reducible refine (head_yes _ _ _ (by omega) (by omega) (by omega) (by omega)).mono ?_; rintro e w' ⟨rfl, rfl⟩)
      | (go_at_call 16; with_reducible refine (phase_back _ _ _ (by omega) (by omega) (by omega) (by omega)).mono ?_; rintro e w' ⟨rfl, rfl⟩))
    clear zA A0 A1 A2
    clear zB B0 B1
    clear zC C0 C1 C2
    clear zD D0 D1 D2
    clear zF F0 F1
    go_ret
    exact ⟨rfl, hE⟩

end Go.Proofs.Ytknafhomikmiiaa
