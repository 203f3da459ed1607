/-
  RecWords, walked: it returns true for every three words and every int, and leaves memory as it was, but for new blocks. Condition: the integers are of their kinds.
-/
import Derived.Test.YtknafhomikmiiaaBack
import Derived.Deep.RegionHeld3
namespace Go.Proofs.Ytknafhomikmiiaa
open Go.RowKit (Below intOf)

/-- What was told, and what was said, made again. -/
theorem answer_back (c v : Int) (w : World) (h0 : 1 ≤ c) (h1 : c ≤ 256) : Calls Try.prog 10 #[.agg #[.int .i64 (c - 1), .int .u64 v]] w fun e w' => e = .returned (.tuple #[.agg #[.int .u64 c, .int .u64 v], .int .i64 0]) ∧ Ext w w' := by
  have h := answer_yes (c - 1) v w (by omega) (by omega)
  rw [show c - 1 + 1 = c by omega] at h
  exact h
theorem head_back (c : Int) (w : World) (h0 : 1 ≤ c) (h1 : c ≤ 32) : Calls Try.prog 19 #[.int .i64 (1 + (c - 1) % 2), .int .i64 ((c - 1) / 2)] w fun e w' => e = .returned (.tuple #[.int .u64 c, .int .i64 0]) ∧ w = w' := by
  have h := head_yes (1 + (c - 1) % 2) ((c - 1) / 2) w (by omega) (by omega) (by omega) (by omega)
  rw [show 2 * ((c - 1) / 2) + (1 + (c - 1) % 2) = c by omega] at h
  exact h

/-- Block B holds m threes of words. -/
def Threes (w : World) (B : Nat) (m : Int) : Prop := B < w.heap.size ∧ ∀ k : Int, 0 ≤ k → k < m → ∃ a b c : Int, U64 a ∧ U64 b ∧ U64 c ∧ w.cell? ⟨B, k.toNat * 3, none⟩ = some (.int .u64 a) ∧ w.cell? ⟨B, k.toNat * 3 + 1, none⟩ = some (.int .u64 b) ∧ w.cell? ⟨B, k.toNat * 3 + 2, none⟩ = some (.int .u64 c)
theorem Threes.ext {w w' : World} {B : Nat} {m : Int} (h : Threes w B m) (e : Ext w w') : Threes w' B m :=
  ⟨Nat.lt_of_lt_of_le h.1 e.size, fun k h0 h1 => by obtain ⟨a, b, c, ua, ub, uc, ha, hb, hc⟩ := h.2 k h0 h1; exact ⟨a, b, c, ua, ub, uc, e.cell ha, e.cell hb, e.cell hc⟩⟩

set_option maxRecDepth 100000 in
set_option maxHeartbeats 8000000 in
theorem words_walk (x y z small : Int) (w : World) (hx : U64 x) (hy : U64 y) (hz : U64 z) (hs : I64 small) :
    Calls Try.prog 5 #[.agg #[.int .u64 x, .int .u64 y, .int .u64 z], .int .i64 small] w fun e w' => e = .returned (.bool true) ∧ Ext w w' := by
  obtain ⟨n, e1, n0, n1⟩ := pick_is small 300 (by omega)
  have hn : U64 n := by unfold U64; omega
  have e2 : IntKind.u64.wrap n = n := IntWalk.u64_in _ (by omega)
  go_enter Try.func5, Try.ntmps5
  go_wp2_with (fail)
  refine (awake_any _).mono ?_
  rintro e w1 ⟨rfl, hE⟩
  have hB := (Box.new w [.int .u64 x, .int .u64 y, .int .u64 z] 28).ext hE
  replace hE := (Ext.new w _).trans hE
  obtain ⟨zb, b0, b1, b2⟩ := hB.three
  go_wp2_with (fail)
  go_region_held3 (fun w' => (w'.cell? ⟨w.heap.size, 0, none⟩ = some (.int .u64 x) ∧ w'.cell? ⟨w.heap.size, 1, none⟩ = some (.int .u64 y) ∧ w'.cell? ⟨w.heap.size, 2, none⟩ = some (.int .u64 z)))
    (go_keep)
    (first
    | (go_at_call 18; with_reducible refine (pick_to _ _ _ _ hs (by omega) (by omega) e1).mono ?_; rintro e w' ⟨rfl, rfl⟩))
  have hS : Box (w1.alloc (.cells #[.int .u64 x, .int .u64 y, .int .u64 z, .int .u64 n, .int .u64 y, .int .u64 z] 28)).drew w1.heap.size [.int .u64 x, .int .u64 y, .int .u64 z, .int .u64 n, .int .u64 y, .int .u64 z] := (Box.new w1 [.int .u64 x, .int .u64 y, .int .u64 z, .int .u64 n, .int .u64 y, .int .u64 z] 28).ext (Ext.refl _).drew
  have hT : Threes (w1.alloc (.cells #[.int .u64 x, .int .u64 y, .int .u64 z, .int .u64 n, .int .u64 y, .int .u64 z] 28)).drew w1.heap.size 2 := ⟨hS.1, fun k k0 k1 => by
    rcases (by omega : k = 0 ∨ k = 1) with rfl | rfl
    · exact ⟨x, y, z, hx, hy, hz, hS.2 0 _ rfl, hS.2 1 _ rfl, hS.2 2 _ rfl⟩
    · exact ⟨n, y, z, hn, hy, hz, hS.2 3 _ rfl, hS.2 4 _ rfl, hS.2 5 _ rfl⟩⟩
  replace hE := (hE.alloc (.cells #[.int .u64 x, .int .u64 y, .int .u64 z, .int .u64 n, .int .u64 y, .int .u64 z] 28)).drew
  rename_i hheld
  have HT := Lib.hid hT
  have HE := Lib.hid hE
  clear e2 b0 b1 b2 hB zb e1 hS hT hE hheld n0 n1 hn hx hy hz hs
  go_wp2_with (fail)
  go_loopw [33] (fun i wr => ∃ k : Int, 0 ≤ k ∧ k ≤ 2 ∧ i = .int .i64 k ∧ Threes wr w1.heap.size 2 ∧ Ext w wr) (fun i _ => (2 - intOf i).toNat)
  case atStart => exact ⟨0, by omega, by omega, rfl, HT.out, HE.out⟩
  case round =>
    obtain ⟨k, k0, k1, rfl, hT, hE⟩ := hrel
    clear HT HE
    generalize w1.heap.size = B at hT ⊢
    by_cases hlt : k < 2
    · obtain ⟨a, b, c, ua, ub, uc, ca, cb, cc⟩ := hT.2 k k0 hlt
      have q3 := eq3_same a b c
      have q2 := eq2_same a b
      rcases (by unfold U64 at ua; omega : a = 0 ∨ (1 ≤ a ∧ a ≤ 32) ∨ (33 ≤ a ∧ a ≤ 255) ∨ a = 256 ∨ 257 ≤ a) with rfl | ⟨a0, a1⟩ | ⟨a0, a1⟩ | rfl | a0
      · go_wp2_with (fail)
        replace hT := hT.ext (Ext.new wr (.cells #[.int .u64 0, .int .u64 b, .int .u64 c] 28))
        replace hE := hE.alloc (.cells #[.int .u64 0, .int .u64 b, .int .u64 c] 28)
        have hX := Box.new wr [.int .u64 0, .int .u64 b, .int .u64 c] 28
        refine (asked_no 0 b c _ ua (by decide)).mono ?_
        rintro e w1 ⟨rfl, hE1⟩
        replace hT := hT.ext hE1
        replace hX := hX.ext hE1
        replace hE := hE.trans hE1
        clear hE1
        replace hT := hT.ext (Ext.new w1 (.cells #[.int .i64 0, .int .u64 0, .int .u64 0] 24))
        replace hX := hX.ext (Ext.new w1 (.cells #[.int .i64 0, .int .u64 0, .int .u64 0] 24))
        replace hE := hE.alloc (.cells #[.int .i64 0, .int .u64 0, .int .u64 0] 24)
        have hO := Box.new w1 [.int .i64 0, .int .u64 0, .int .u64 0] 24
        obtain ⟨zX, X0, X1, X2⟩ := hX.three
        go_wp2_with (fail)
        clear zX X0 X1 X2
        refine (told_no 0 b _ ua (by decide)).mono ?_
        rintro e w2 ⟨rfl, hE1⟩
        replace hT := hT.ext hE1
        replace hX := hX.ext hE1
        replace hO := hO.ext hE1
        replace hE := hE.trans hE1
        clear hE1
        replace hT := hT.ext (Ext.new w2 (.cells #[.int .i64 0, .int .u64 0] 27))
        replace hX := hX.ext (Ext.new w2 (.cells #[.int .i64 0, .int .u64 0] 27))
        replace hO := hO.ext (Ext.new w2 (.cells #[.int .i64 0, .int .u64 0] 27))
        replace hE := hE.alloc (.cells #[.int .i64 0, .int .u64 0] 27)
        have hR := Box.new w2 [.int .i64 0, .int .u64 0] 27
        obtain ⟨zX, X0, X1, X2⟩ := hX.three
        go_wp2_with (first
          | (go_at_call 16; with_reducible refine (phase_home _).mono ?_; rintro e w' ⟨rfl, rfl⟩)
          | (go_at_call 19; with_reducible refine (head_home _).mono ?_; rintro e w' ⟨rfl, rfl⟩))
        clear zX X0 X1 X2
        go_roundw
        case rel => exact ⟨k + 1, by omega, by omega, rfl, hT, hE⟩
        case measure => simp [intOf]; omega
      · have d1 : decide (1 ≤ a) = true := by simpa using a0
        have d2 : decide (a ≤ 255) = true := by simp; omega
        have d3 : decide (a ≤ 256) = true := by simp; omega
        have d4 : decide (a ≤ 32) = true := by simpa using a1
        go_wp2_with (fail)
        replace hT := hT.ext (Ext.new wr (.cells #[.int .u64 a, .int .u64 b, .int .u64 c] 28))
        replace hE := hE.alloc (.cells #[.int .u64 a, .int .u64 b, .int .u64 c] 28)
        have hX := Box.new wr [.int .u64 a, .int .u64 b, .int .u64 c] 28
        refine (asked_yes a b c _ (by omega) (by omega)).mono ?_
        rintro e w1 ⟨rfl, hE1⟩
        replace hT := hT.ext hE1
        replace hX := hX.ext hE1
        replace hE := hE.trans hE1
        clear hE1
        replace hT := hT.ext (Ext.new w1 (.cells #[.int .i64 a, .int .u64 b, .int .u64 c] 24))
        replace hX := hX.ext (Ext.new w1 (.cells #[.int .i64 a, .int .u64 b, .int .u64 c] 24))
        replace hE := hE.alloc (.cells #[.int .i64 a, .int .u64 b, .int .u64 c] 24)
        have hO := Box.new w1 [.int .i64 a, .int .u64 b, .int .u64 c] 24
        go_wp2_with (fail)
        refine (ask_yes a b c _ (by omega) (by omega)).mono ?_
        rintro e w2 ⟨rfl, hE1⟩
        replace hT := hT.ext hE1
        replace hX := hX.ext hE1
        replace hO := hO.ext hE1
        replace hE := hE.trans hE1
        clear hE1
        replace hT := hT.ext (Ext.new w2 (.cells #[.int .u64 a, .int .u64 b, .int .u64 c] 28))
        replace hX := hX.ext (Ext.new w2 (.cells #[.int .u64 a, .int .u64 b, .int .u64 c] 28))
        replace hO := hO.ext (Ext.new w2 (.cells #[.int .u64 a, .int .u64 b, .int .u64 c] 28))
        replace hE := hE.alloc (.cells #[.int .u64 a, .int .u64 b, .int .u64 c] 28)
        have hQ := Box.new w2 [.int .u64 a, .int .u64 b, .int .u64 c] 28
        obtain ⟨zX, X0, X1, X2⟩ := hX.three
        go_wp2_with (fail)
        clear zX X0 X1 X2
        refine (told_yes a b _ (by omega) (by omega)).mono ?_
        rintro e w3 ⟨rfl, hE1⟩
        replace hT := hT.ext hE1
        replace hX := hX.ext hE1
        replace hO := hO.ext hE1
        replace hQ := hQ.ext hE1
        replace hE := hE.trans hE1
        clear hE1
        replace hT := hT.ext (Ext.new w3 (.cells #[.int .i64 (a - 1), .int .u64 b] 27))
        replace hX := hX.ext (Ext.new w3 (.cells #[.int .i64 (a - 1), .int .u64 b] 27))
        replace hO := hO.ext (Ext.new w3 (.cells #[.int .i64 (a - 1), .int .u64 b] 27))
        replace hQ := hQ.ext (Ext.new w3 (.cells #[.int .i64 (a - 1), .int .u64 b] 27))
        replace hE := hE.alloc (.cells #[.int .i64 (a - 1), .int .u64 b] 27)
        have hR := Box.new w3 [.int .i64 (a - 1), .int .u64 b] 27
        go_wp2_with (fail)
        refine (answer_back a b _ (by omega) (by omega)).mono ?_
        rintro e w4 ⟨rfl, hE1⟩
        replace hT := hT.ext hE1
        replace hX := hX.ext hE1
        replace hO := hO.ext hE1
        replace hQ := hQ.ext hE1
        replace hR := hR.ext hE1
        replace hE := hE.trans hE1
        clear hE1
        replace hT := hT.ext (Ext.new w4 (.cells #[.int .u64 a, .int .u64 b] 32))
        replace hX := hX.ext (Ext.new w4 (.cells #[.int .u64 a, .int .u64 b] 32))
        replace hO := hO.ext (Ext.new w4 (.cells #[.int .u64 a, .int .u64 b] 32))
        replace hQ := hQ.ext (Ext.new w4 (.cells #[.int .u64 a, .int .u64 b] 32))
        replace hR := hR.ext (Ext.new w4 (.cells #[.int .u64 a, .int .u64 b] 32))
        replace hE := hE.alloc (.cells #[.int .u64 a, .int .u64 b] 32)
        have hP := Box.new w4 [.int .u64 a, .int .u64 b] 32
        obtain ⟨zX, X0, X1, X2⟩ := hX.three
        go_wp2_with (first
          | (go_at_call 16; with_reducible refine (phase_yes _ _ (by omega) (by omega)).mono ?_; rintro e w' ⟨rfl, rfl⟩)
          | (go_at_call 19; with_reducible refine (head_back a _ (by omega) (by omega)).mono ?_; rintro e w' ⟨rfl, rfl⟩))
        clear zX X0 X1 X2
        go_roundw
        case rel => exact ⟨k + 1, by omega, by omega, rfl, hT, hE⟩
        case measure => simp [intOf]; omega
      · have d1 : decide (1 ≤ a) = true := by simp; omega
        have d2 : decide (a ≤ 255) = true := by simpa using a1
        have d3 : decide (a ≤ 256) = true := by simp; omega
        have d4 : decide (a ≤ 32) = false := by simp; omega
        go_wp2_with (fail)
        replace hT := hT.ext (Ext.new wr (.cells #[.int .u64 a, .int .u64 b, .int .u64 c] 28))
        replace hE := hE.alloc (.cells #[.int .u64 a, .int .u64 b, .int .u64 c] 28)
        have hX := Box.new wr [.int .u64 a, .int .u64 b, .int .u64 c] 28
        refine (asked_yes a b c _ (by omega) (by omega)).mono ?_
        rintro e w1 ⟨rfl, hE1⟩
        replace hT := hT.ext hE1
        replace hX := hX.ext hE1
        replace hE := hE.trans hE1
        clear hE1
        replace hT := hT.ext (Ext.new w1 (.cells #[.int .i64 a, .int .u64 b, .int .u64 c] 24))
        replace hX := hX.ext (Ext.new w1 (.cells #[.int .i64 a, .int .u64 b, .int .u64 c] 24))
        replace hE := hE.alloc (.cells #[.int .i64 a, .int .u64 b, .int .u64 c] 24)
        have hO := Box.new w1 [.int .i64 a, .int .u64 b, .int .u64 c] 24
        go_wp2_with (fail)
        refine (ask_yes a b c _ (by omega) (by omega)).mono ?_
        rintro e w2 ⟨rfl, hE1⟩
        replace hT := hT.ext hE1
        replace hX := hX.ext hE1
        replace hO := hO.ext hE1
        replace hE := hE.trans hE1
        clear hE1
        replace hT := hT.ext (Ext.new w2 (.cells #[.int .u64 a, .int .u64 b, .int .u64 c] 28))
        replace hX := hX.ext (Ext.new w2 (.cells #[.int .u64 a, .int .u64 b, .int .u64 c] 28))
        replace hO := hO.ext (Ext.new w2 (.cells #[.int .u64 a, .int .u64 b, .int .u64 c] 28))
        replace hE := hE.alloc (.cells #[.int .u64 a, .int .u64 b, .int .u64 c] 28)
        have hQ := Box.new w2 [.int .u64 a, .int .u64 b, .int .u64 c] 28
        obtain ⟨zX, X0, X1, X2⟩ := hX.three
        go_wp2_with (fail)
        clear zX X0 X1 X2
        refine (told_yes a b _ (by omega) (by omega)).mono ?_
        rintro e w3 ⟨rfl, hE1⟩
        replace hT := hT.ext hE1
        replace hX := hX.ext hE1
        replace hO := hO.ext hE1
        replace hQ := hQ.ext hE1
        replace hE := hE.trans hE1
        clear hE1
        replace hT := hT.ext (Ext.new w3 (.cells #[.int .i64 (a - 1), .int .u64 b] 27))
        replace hX := hX.ext (Ext.new w3 (.cells #[.int .i64 (a - 1), .int .u64 b] 27))
        replace hO := hO.ext (Ext.new w3 (.cells #[.int .i64 (a - 1), .int .u64 b] 27))
        replace hQ := hQ.ext (Ext.new w3 (.cells #[.int .i64 (a - 1), .int .u64 b] 27))
        replace hE := hE.alloc (.cells #[.int .i64 (a - 1), .int .u64 b] 27)
        have hR := Box.new w3 [.int .i64 (a - 1), .int .u64 b] 27
        go_wp2_with (fail)
        refine (answer_back a b _ (by omega) (by omega)).mono ?_
        rintro e w4 ⟨rfl, hE1⟩
        replace hT := hT.ext hE1
        replace hX := hX.ext hE1
        replace hO := hO.ext hE1
        replace hQ := hQ.ext hE1
        replace hR := hR.ext hE1
        replace hE := hE.trans hE1
        clear hE1
        replace hT := hT.ext (Ext.new w4 (.cells #[.int .u64 a, .int .u64 b] 32))
        replace hX := hX.ext (Ext.new w4 (.cells #[.int .u64 a, .int .u64 b] 32))
        replace hO := hO.ext (Ext.new w4 (.cells #[.int .u64 a, .int .u64 b] 32))
        replace hQ := hQ.ext (Ext.new w4 (.cells #[.int .u64 a, .int .u64 b] 32))
        replace hR := hR.ext (Ext.new w4 (.cells #[.int .u64 a, .int .u64 b] 32))
        replace hE := hE.alloc (.cells #[.int .u64 a, .int .u64 b] 32)
        have hP := Box.new w4 [.int .u64 a, .int .u64 b] 32
        obtain ⟨zX, X0, X1, X2⟩ := hX.three
        go_wp2_with (first
          | (go_at_call 16; with_reducible refine (phase_no _ _ (wi_no (Or.inr (by omega)))).mono ?_; rintro e w' ⟨rfl, rfl⟩))
        clear zX X0 X1 X2
        go_roundw
        case rel => exact ⟨k + 1, by omega, by omega, rfl, hT, hE⟩
        case measure => simp [intOf]; omega
      · go_wp2_with (fail)
        replace hT := hT.ext (Ext.new wr (.cells #[.int .u64 256, .int .u64 b, .int .u64 c] 28))
        replace hE := hE.alloc (.cells #[.int .u64 256, .int .u64 b, .int .u64 c] 28)
        have hX := Box.new wr [.int .u64 256, .int .u64 b, .int .u64 c] 28
        refine (asked_no 256 b c _ ua (by decide)).mono ?_
        rintro e w1 ⟨rfl, hE1⟩
        replace hT := hT.ext hE1
        replace hX := hX.ext hE1
        replace hE := hE.trans hE1
        clear hE1
        replace hT := hT.ext (Ext.new w1 (.cells #[.int .i64 0, .int .u64 0, .int .u64 0] 24))
        replace hX := hX.ext (Ext.new w1 (.cells #[.int .i64 0, .int .u64 0, .int .u64 0] 24))
        replace hE := hE.alloc (.cells #[.int .i64 0, .int .u64 0, .int .u64 0] 24)
        have hO := Box.new w1 [.int .i64 0, .int .u64 0, .int .u64 0] 24
        obtain ⟨zX, X0, X1, X2⟩ := hX.three
        go_wp2_with (fail)
        clear zX X0 X1 X2
        refine (told_yes 256 b _ (by omega) (by omega)).mono ?_
        rintro e w2 ⟨rfl, hE1⟩
        replace hT := hT.ext hE1
        replace hX := hX.ext hE1
        replace hO := hO.ext hE1
        replace hE := hE.trans hE1
        clear hE1
        replace hT := hT.ext (Ext.new w2 (.cells #[.int .i64 255, .int .u64 b] 27))
        replace hX := hX.ext (Ext.new w2 (.cells #[.int .i64 255, .int .u64 b] 27))
        replace hO := hO.ext (Ext.new w2 (.cells #[.int .i64 255, .int .u64 b] 27))
        replace hE := hE.alloc (.cells #[.int .i64 255, .int .u64 b] 27)
        have hR := Box.new w2 [.int .i64 255, .int .u64 b] 27
        go_wp2_with (fail)
        refine (answer_back 256 b _ (by omega) (by omega)).mono ?_
        rintro e w3 ⟨rfl, hE1⟩
        replace hT := hT.ext hE1
        replace hX := hX.ext hE1
        replace hO := hO.ext hE1
        replace hR := hR.ext hE1
        replace hE := hE.trans hE1
        clear hE1
        replace hT := hT.ext (Ext.new w3 (.cells #[.int .u64 256, .int .u64 b] 32))
        replace hX := hX.ext (Ext.new w3 (.cells #[.int .u64 256, .int .u64 b] 32))
        replace hO := hO.ext (Ext.new w3 (.cells #[.int .u64 256, .int .u64 b] 32))
        replace hR := hR.ext (Ext.new w3 (.cells #[.int .u64 256, .int .u64 b] 32))
        replace hE := hE.alloc (.cells #[.int .u64 256, .int .u64 b] 32)
        have hP := Box.new w3 [.int .u64 256, .int .u64 b] 32
        obtain ⟨zX, X0, X1, X2⟩ := hX.three
        go_wp2_with (first
          | (go_at_call 16; with_reducible refine (phase_no _ _ (by decide)).mono ?_; rintro e w' ⟨rfl, rfl⟩))
        clear zX X0 X1 X2
        go_roundw
        case rel => exact ⟨k + 1, by omega, by omega, rfl, hT, hE⟩
        case measure => simp [intOf]; omega
      · have d1 : decide (1 ≤ a) = true := by simp; omega
        have d2 : decide (a ≤ 255) = false := by simp; omega
        have d3 : decide (a ≤ 256) = false := by simp; omega
        have d4 : decide (a ≤ 32) = false := by simp; omega
        go_wp2_with (fail)
        replace hT := hT.ext (Ext.new wr (.cells #[.int .u64 a, .int .u64 b, .int .u64 c] 28))
        replace hE := hE.alloc (.cells #[.int .u64 a, .int .u64 b, .int .u64 c] 28)
        have hX := Box.new wr [.int .u64 a, .int .u64 b, .int .u64 c] 28
        refine (asked_no a b c _ ua (wi_no (Or.inr (by omega)))).mono ?_
        rintro e w1 ⟨rfl, hE1⟩
        replace hT := hT.ext hE1
        replace hX := hX.ext hE1
        replace hE := hE.trans hE1
        clear hE1
        replace hT := hT.ext (Ext.new w1 (.cells #[.int .i64 0, .int .u64 0, .int .u64 0] 24))
        replace hX := hX.ext (Ext.new w1 (.cells #[.int .i64 0, .int .u64 0, .int .u64 0] 24))
        replace hE := hE.alloc (.cells #[.int .i64 0, .int .u64 0, .int .u64 0] 24)
        have hO := Box.new w1 [.int .i64 0, .int .u64 0, .int .u64 0] 24
        obtain ⟨zX, X0, X1, X2⟩ := hX.three
        go_wp2_with (fail)
        clear zX X0 X1 X2
        refine (told_no a b _ ua (wi_no (Or.inr (by omega)))).mono ?_
        rintro e w2 ⟨rfl, hE1⟩
        replace hT := hT.ext hE1
        replace hX := hX.ext hE1
        replace hO := hO.ext hE1
        replace hE := hE.trans hE1
        clear hE1
        replace hT := hT.ext (Ext.new w2 (.cells #[.int .i64 0, .int .u64 0] 27))
        replace hX := hX.ext (Ext.new w2 (.cells #[.int .i64 0, .int .u64 0] 27))
        replace hO := hO.ext (Ext.new w2 (.cells #[.int .i64 0, .int .u64 0] 27))
        replace hE := hE.alloc (.cells #[.int .i64 0, .int .u64 0] 27)
        have hR := Box.new w2 [.int .i64 0, .int .u64 0] 27
        obtain ⟨zX, X0, X1, X2⟩ := hX.three
        go_wp2_with (first
          | (go_at_call 16; with_reducible refine (phase_no _ _ (wi_no (Or.inr (by omega)))).mono ?_; rintro e w' ⟨rfl, rfl⟩))
        clear zX X0 X1 X2
        go_roundw
        case rel => exact ⟨k + 1, by omega, by omega, rfl, hT, hE⟩
        case measure => simp [intOf]; omega
    · go_wp2
      go_ret
      exact ⟨rfl, hE⟩

end Go.Proofs.Ytknafhomikmiiaa
