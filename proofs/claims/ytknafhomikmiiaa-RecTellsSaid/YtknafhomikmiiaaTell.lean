/-
  RecTells, walked: it returns true for every call, answer, two ints and three words, and leaves memory as it was, but for new blocks. Condition: the integers are of their kinds.
-/
import Derived.Test.YtknafhomikmiiaaWords
namespace Go.Proofs.Ytknafhomikmiiaa
open Go.RowKit (Below intOf)

theorem gate_call {c : Int} : U64 (gate (wi c 1 255) c) := by
  rcases h : wi c 1 255 with _ | _
  · rw [gate_no]; unfold U64; omega
  · rw [gate_yes]; simp [wi] at h; unfold U64; omega
theorem gate_word {b : Bool} {x : Int} (h : U64 x) : U64 (gate b x) := by
  cases b
  · rw [gate_no]; unfold U64; omega
  · rw [gate_yes]; exact h

/-- Block B holds m pairs of ints. -/
def Pairs (w : World) (B : Nat) (m : Int) : Prop := B < w.heap.size ∧ ∀ k : Int, 0 ≤ k → k < m → ∃ a b : Int, w.cell? ⟨B, k.toNat * 2, none⟩ = some (.int .i64 a) ∧ w.cell? ⟨B, k.toNat * 2 + 1, none⟩ = some (.int .i64 b)
theorem Pairs.ext {w w' : World} {B : Nat} {m : Int} (h : Pairs w B m) (e : Ext w w') : Pairs w' B m :=
  ⟨Nat.lt_of_lt_of_le h.1 e.size, fun k h0 h1 => by obtain ⟨a, b, ha, hb⟩ := h.2 k h0 h1; exact ⟨a, b, e.cell ha, e.cell hb⟩⟩

set_option maxRecDepth 100000 in
set_option maxHeartbeats 16000000 in
theorem tells_walk (c k v r rv ph p x y z : Int) (w : World) (hk : U64 k) (hv : U64 v) (hp : I64 ph) (hq : I64 p) (hx : U64 x) (hy : U64 y) (hz : U64 z) :
    Calls Try.prog 3 #[.agg #[.int .i64 c, .int .u64 k, .int .u64 v], .agg #[.int .i64 r, .int .u64 rv], .int .i64 ph, .int .i64 p, .agg #[.int .u64 x, .int .u64 y, .int .u64 z]] w fun e w' => e = .returned (.bool true) ∧ Ext w w' := by
  obtain ⟨s, e1, s0, s1⟩ := pick_is ph 5 (by omega)
  obtain ⟨t, e2, t0, t1⟩ := pick_is p 18 (by omega)
  have q3 := eq3_same (gate (wi c 1 255) c) (gate (wi c 1 255) k) (gate (wi c 1 255) v)
  have q2 := eq2_same (gate (wi r 0 255) (r + 1)) (gate (wi r 0 255) rv)
  go_enter Try.func3, Try.ntmps3
  go_wp2_with (fail)
  refine (awake_any _).mono ?_
  rintro e w1 ⟨rfl, hE⟩
  have hP := (((Box.new w [.int .i64 c, .int .u64 k, .int .u64 v] 24).ext (Ext.new _ (.cells #[.int .i64 r, .int .u64 rv] 27))).ext (Ext.new _ (.cells #[.int .u64 x, .int .u64 y, .int .u64 z] 28))).ext hE
  have hR := ((Box.new (w.alloc (.cells #[.int .i64 c, .int .u64 k, .int .u64 v] 24)) [.int .i64 r, .int .u64 rv] 27).ext (Ext.new _ (.cells #[.int .u64 x, .int .u64 y, .int .u64 z] 28))).ext hE
  have hX := (Box.new ((w.alloc (.cells #[.int .i64 c, .int .u64 k, .int .u64 v] 24)).alloc (.cells #[.int .i64 r, .int .u64 rv] 27)) [.int .u64 x, .int .u64 y, .int .u64 z] 28).ext hE
  rw [World.size_alloc] at hR
  rw [World.size_alloc, World.size_alloc] at hX
  replace hE := ((((Ext.refl w).alloc (.cells #[.int .i64 c, .int .u64 k, .int .u64 v] 24)).alloc (.cells #[.int .i64 r, .int .u64 rv] 27)).alloc (.cells #[.int .u64 x, .int .u64 y, .int .u64 z] 28)).trans hE
  obtain ⟨zP, P0, P1, P2⟩ := hP.three
  go_wp2_with (fail)
  clear zP P0 P1 P2
  refine (ask_any c k v _).mono ?_
  rintro e w2 ⟨rfl, hE1⟩
  replace hP := hP.ext hE1
  replace hR := hR.ext hE1
  replace hX := hX.ext hE1
  replace hE := hE.trans hE1
  clear hE1
  replace hP := hP.ext (Ext.new w2 (.cells #[.int .u64 (gate (wi c 1 255) c), .int .u64 (gate (wi c 1 255) k), .int .u64 (gate (wi c 1 255) v)] 28))
  replace hR := hR.ext (Ext.new w2 (.cells #[.int .u64 (gate (wi c 1 255) c), .int .u64 (gate (wi c 1 255) k), .int .u64 (gate (wi c 1 255) v)] 28))
  replace hX := hX.ext (Ext.new w2 (.cells #[.int .u64 (gate (wi c 1 255) c), .int .u64 (gate (wi c 1 255) k), .int .u64 (gate (wi c 1 255) v)] 28))
  replace hE := hE.alloc (.cells #[.int .u64 (gate (wi c 1 255) c), .int .u64 (gate (wi c 1 255) k), .int .u64 (gate (wi c 1 255) v)] 28)
  have hA := Box.new w2 [.int .u64 (gate (wi c 1 255) c), .int .u64 (gate (wi c 1 255) k), .int .u64 (gate (wi c 1 255) v)] 28
  obtain ⟨zP, P0, P1, P2⟩ := hP.three
  go_wp2_with (fail)
  clear zP P0 P1 P2
  refine (rask_any c k v _).mono ?_
  rintro e w3 ⟨rfl, hE1⟩
  replace hP := hP.ext hE1
  replace hR := hR.ext hE1
  replace hX := hX.ext hE1
  replace hA := hA.ext hE1
  replace hE := hE.trans hE1
  clear hE1
  replace hP := hP.ext (Ext.new w3 (.cells #[.int .u64 (gate (wi c 1 255) c), .int .u64 (gate (wi c 1 255) k), .int .u64 (gate (wi c 1 255) v)] 28))
  replace hR := hR.ext (Ext.new w3 (.cells #[.int .u64 (gate (wi c 1 255) c), .int .u64 (gate (wi c 1 255) k), .int .u64 (gate (wi c 1 255) v)] 28))
  replace hX := hX.ext (Ext.new w3 (.cells #[.int .u64 (gate (wi c 1 255) c), .int .u64 (gate (wi c 1 255) k), .int .u64 (gate (wi c 1 255) v)] 28))
  replace hA := hA.ext (Ext.new w3 (.cells #[.int .u64 (gate (wi c 1 255) c), .int .u64 (gate (wi c 1 255) k), .int .u64 (gate (wi c 1 255) v)] 28))
  replace hE := hE.alloc (.cells #[.int .u64 (gate (wi c 1 255) c), .int .u64 (gate (wi c 1 255) k), .int .u64 (gate (wi c 1 255) v)] 28)
  have hB := Box.new w3 [.int .u64 (gate (wi c 1 255) c), .int .u64 (gate (wi c 1 255) k), .int .u64 (gate (wi c 1 255) v)] 28
  obtain ⟨zR, R0, R1⟩ := hR.two
  go_wp2_with (fail)
  clear zR R0 R1
  refine (answer_any r rv _).mono ?_
  rintro e w4 ⟨rfl, hE1⟩
  replace hP := hP.ext hE1
  replace hR := hR.ext hE1
  replace hX := hX.ext hE1
  replace hA := hA.ext hE1
  replace hB := hB.ext hE1
  replace hE := hE.trans hE1
  clear hE1
  replace hP := hP.ext (Ext.new w4 (.cells #[.int .u64 (gate (wi r 0 255) (r + 1)), .int .u64 (gate (wi r 0 255) rv)] 32))
  replace hR := hR.ext (Ext.new w4 (.cells #[.int .u64 (gate (wi r 0 255) (r + 1)), .int .u64 (gate (wi r 0 255) rv)] 32))
  replace hX := hX.ext (Ext.new w4 (.cells #[.int .u64 (gate (wi r 0 255) (r + 1)), .int .u64 (gate (wi r 0 255) rv)] 32))
  replace hA := hA.ext (Ext.new w4 (.cells #[.int .u64 (gate (wi r 0 255) (r + 1)), .int .u64 (gate (wi r 0 255) rv)] 32))
  replace hB := hB.ext (Ext.new w4 (.cells #[.int .u64 (gate (wi r 0 255) (r + 1)), .int .u64 (gate (wi r 0 255) rv)] 32))
  replace hE := hE.alloc (.cells #[.int .u64 (gate (wi r 0 255) (r + 1)), .int .u64 (gate (wi r 0 255) rv)] 32)
  have hC := Box.new w4 [.int .u64 (gate (wi r 0 255) (r + 1)), .int .u64 (gate (wi r 0 255) rv)] 32
  obtain ⟨zR, R0, R1⟩ := hR.two
  go_wp2_with (fail)
  clear zR R0 R1
  refine (ranswer_any r rv _).mono ?_
  rintro e w5 ⟨rfl, hE1⟩
  replace hP := hP.ext hE1
  replace hR := hR.ext hE1
  replace hX := hX.ext hE1
  replace hA := hA.ext hE1
  replace hB := hB.ext hE1
  replace hC := hC.ext hE1
  replace hE := hE.trans hE1
  clear hE1
  replace hP := hP.ext (Ext.new w5 (.cells #[.int .u64 (gate (wi r 0 255) (r + 1)), .int .u64 (gate (wi r 0 255) rv)] 32))
  replace hR := hR.ext (Ext.new w5 (.cells #[.int .u64 (gate (wi r 0 255) (r + 1)), .int .u64 (gate (wi r 0 255) rv)] 32))
  replace hX := hX.ext (Ext.new w5 (.cells #[.int .u64 (gate (wi r 0 255) (r + 1)), .int .u64 (gate (wi r 0 255) rv)] 32))
  replace hA := hA.ext (Ext.new w5 (.cells #[.int .u64 (gate (wi r 0 255) (r + 1)), .int .u64 (gate (wi r 0 255) rv)] 32))
  replace hB := hB.ext (Ext.new w5 (.cells #[.int .u64 (gate (wi r 0 255) (r + 1)), .int .u64 (gate (wi r 0 255) rv)] 32))
  replace hC := hC.ext (Ext.new w5 (.cells #[.int .u64 (gate (wi r 0 255) (r + 1)), .int .u64 (gate (wi r 0 255) rv)] 32))
  replace hE := hE.alloc (.cells #[.int .u64 (gate (wi r 0 255) (r + 1)), .int .u64 (gate (wi r 0 255) rv)] 32)
  have hD := Box.new w5 [.int .u64 (gate (wi r 0 255) (r + 1)), .int .u64 (gate (wi r 0 255) rv)] 32
  obtain ⟨zA, A0, A1, A2⟩ := hA.three
  obtain ⟨zB, B0, B1, B2⟩ := hB.three
  obtain ⟨zC, C0, C1⟩ := hC.two
  obtain ⟨zD, D0, D1⟩ := hD.two
  obtain ⟨zX, X0, X1, X2⟩ := hX.three
  unfold U64 at hx
  have HX := Lib.hid hX
  have HE := Lib.hid hE
  clear hP hR hA hB hC hD hX hE
  go_wp2_with (fail)
  clear zA zB zC zD zX A0 A1 A2 B0 B1 B2 C0 C1 D0 D1 X0 X1 X2 q3 q2
  have hx3 : U64 (x % 300) := by unfold U64; omega
  have hx0 : U64 x := hx
  have hS := Box.new (w5.alloc (.cells #[.int .u64 (gate (wi r 0 255) (r + 1)), .int .u64 (gate (wi r 0 255) rv)] 32)) [.int .u64 x, .int .u64 y, .int .u64 z, .int .u64 (x % 300), .int .u64 y, .int .u64 z, .int .u64 (gate (wi c 1 255) c), .int .u64 (gate (wi c 1 255) k), .int .u64 (gate (wi c 1 255) v)] 28
  have hT : Threes ((w5.alloc (.cells #[.int .u64 (gate (wi r 0 255) (r + 1)), .int .u64 (gate (wi r 0 255) rv)] 32)).alloc (.cells #[.int .u64 x, .int .u64 y, .int .u64 z, .int .u64 (x % 300), .int .u64 y, .int .u64 z, .int .u64 (gate (wi c 1 255) c), .int .u64 (gate (wi c 1 255) k), .int .u64 (gate (wi c 1 255) v)] 28)) (w5.alloc (.cells #[.int .u64 (gate (wi r 0 255) (r + 1)), .int .u64 (gate (wi r 0 255) rv)] 32)).heap.size 3 := ⟨hS.1, fun k k0 k1 => by
    rcases (by omega : k = 0 ∨ k = 1 ∨ k = 2) with rfl | rfl | rfl
    · exact ⟨_, _, _, hx0, hy, hz, hS.2 0 _ rfl, hS.2 1 _ rfl, hS.2 2 _ rfl⟩
    · exact ⟨_, _, _, hx3, hy, hz, hS.2 3 _ rfl, hS.2 4 _ rfl, hS.2 5 _ rfl⟩
    · exact ⟨_, _, _, gate_call, gate_word hk, gate_word hv, hS.2 6 _ rfl, hS.2 7 _ rfl, hS.2 8 _ rfl⟩⟩
  rw [World.size_alloc] at hT
  have HT := Lib.hid hT
  replace HX := Lib.hid (HX.out.ext (Ext.new _ (.cells #[.int .u64 x, .int .u64 y, .int .u64 z, .int .u64 (x % 300), .int .u64 y, .int .u64 z, .int .u64 (gate (wi c 1 255) c), .int .u64 (gate (wi c 1 255) k), .int .u64 (gate (wi c 1 255) v)] 28)))
  replace HE := Lib.hid (HE.out.alloc (.cells #[.int .u64 x, .int .u64 y, .int .u64 z, .int .u64 (x % 300), .int .u64 y, .int .u64 z, .int .u64 (gate (wi c 1 255) c), .int .u64 (gate (wi c 1 255) k), .int .u64 (gate (wi c 1 255) v)] 28))
  clear hS hT hx3 hx hy hz hk hv
  go_loopw [99] (fun i wr => ∃ m : Int, 0 ≤ m ∧ m ≤ 3 ∧ i = .int .i64 m ∧ Threes wr (w5.heap.size + 1) 3 ∧ Box wr (w.heap.size + 1 + 1) [.int .u64 x, .int .u64 y, .int .u64 z] ∧ Ext w wr) (fun i _ => (3 - intOf i).toNat)
  case atStart => exact ⟨0, by omega, by omega, rfl, HT.out, HX.out, HE.out⟩
  case round =>
    obtain ⟨m, m0, m1, rfl, hT, hX, hE⟩ := hrel
    clear HT HX HE
    by_cases hlt : m < 3
    · obtain ⟨a, b, d, ua, ub, ud, ca, cb, cc⟩ := hT.2 m m0 hlt
      have hr : U64 (a % (1 + b % 70)) := by
        unfold U64 at *
        have h1 := Int.emod_nonneg a (b := 1 + b % 70) (by omega)
        have h2 := Int.emod_lt_of_pos a (b := 1 + b % 70) (by omega)
        omega
      have q1 := eqOp (gate (wi a 1 255) a) (gate (wi a 1 255) b) (gate (wi a 1 255) d)
      have q2 := eqResp (gate (wi a 1 256) (a - 1)) (gate (wi a 1 256) b)
      have d0 : (1 + b % 70 == 0) = false := by unfold U64 at ub; simp; omega
      have ub0 := ub.1
      have ua0 := ua.1
      go_wp2_with (fail)
      replace hT := hT.ext (Ext.new wr (.cells #[.int .u64 a, .int .u64 b, .int .u64 d] 28))
      replace hX := hX.ext (Ext.new wr (.cells #[.int .u64 a, .int .u64 b, .int .u64 d] 28))
      replace hE := hE.alloc (.cells #[.int .u64 a, .int .u64 b, .int .u64 d] 28)
      have hY := Box.new wr [.int .u64 a, .int .u64 b, .int .u64 d] 28
      refine (asked_any a b d _ ua).mono ?_
      rintro e w11 ⟨rfl, hE1⟩
      replace hT := hT.ext hE1
      replace hX := hX.ext hE1
      replace hY := hY.ext hE1
      replace hE := hE.trans hE1
      clear hE1
      replace hT := hT.ext (Ext.new w11 (.cells #[.int .i64 (gate (wi a 1 255) a), .int .u64 (gate (wi a 1 255) b), .int .u64 (gate (wi a 1 255) d)] 24))
      replace hX := hX.ext (Ext.new w11 (.cells #[.int .i64 (gate (wi a 1 255) a), .int .u64 (gate (wi a 1 255) b), .int .u64 (gate (wi a 1 255) d)] 24))
      replace hY := hY.ext (Ext.new w11 (.cells #[.int .i64 (gate (wi a 1 255) a), .int .u64 (gate (wi a 1 255) b), .int .u64 (gate (wi a 1 255) d)] 24))
      replace hE := hE.alloc (.cells #[.int .i64 (gate (wi a 1 255) a), .int .u64 (gate (wi a 1 255) b), .int .u64 (gate (wi a 1 255) d)] 24)
      have hO := Box.new w11 [.int .i64 (gate (wi a 1 255) a), .int .u64 (gate (wi a 1 255) b), .int .u64 (gate (wi a 1 255) d)] 24
      obtain ⟨zY, Y0, Y1, Y2⟩ := hY.three
      go_wp2_with (fail)
      clear zY Y0 Y1 Y2
      refine (rasked_any a b d _).mono ?_
      rintro e w12 ⟨rfl, hE1⟩
      replace hT := hT.ext hE1
      replace hX := hX.ext hE1
      replace hY := hY.ext hE1
      replace hO := hO.ext hE1
      replace hE := hE.trans hE1
      clear hE1
      replace hT := hT.ext (Ext.new w12 (.cells #[.int .i64 (gate (wi a 1 255) a), .int .u64 (gate (wi a 1 255) b), .int .u64 (gate (wi a 1 255) d)] 24))
      replace hX := hX.ext (Ext.new w12 (.cells #[.int .i64 (gate (wi a 1 255) a), .int .u64 (gate (wi a 1 255) b), .int .u64 (gate (wi a 1 255) d)] 24))
      replace hY := hY.ext (Ext.new w12 (.cells #[.int .i64 (gate (wi a 1 255) a), .int .u64 (gate (wi a 1 255) b), .int .u64 (gate (wi a 1 255) d)] 24))
      replace hO := hO.ext (Ext.new w12 (.cells #[.int .i64 (gate (wi a 1 255) a), .int .u64 (gate (wi a 1 255) b), .int .u64 (gate (wi a 1 255) d)] 24))
      replace hE := hE.alloc (.cells #[.int .i64 (gate (wi a 1 255) a), .int .u64 (gate (wi a 1 255) b), .int .u64 (gate (wi a 1 255) d)] 24)
      have hQ := Box.new w12 [.int .i64 (gate (wi a 1 255) a), .int .u64 (gate (wi a 1 255) b), .int .u64 (gate (wi a 1 255) d)] 24
      obtain ⟨zY, Y0, Y1, Y2⟩ := hY.three
      go_wp2_with (fail)
      clear zY Y0 Y1 Y2
      refine (told_any a b _ ua).mono ?_
      rintro e w13 ⟨rfl, hE1⟩
      replace hT := hT.ext hE1
      replace hX := hX.ext hE1
      replace hY := hY.ext hE1
      replace hO := hO.ext hE1
      replace hQ := hQ.ext hE1
      replace hE := hE.trans hE1
      clear hE1
      replace hT := hT.ext (Ext.new w13 (.cells #[.int .i64 (gate (wi a 1 256) (a - 1)), .int .u64 (gate (wi a 1 256) b)] 27))
      replace hX := hX.ext (Ext.new w13 (.cells #[.int .i64 (gate (wi a 1 256) (a - 1)), .int .u64 (gate (wi a 1 256) b)] 27))
      replace hY := hY.ext (Ext.new w13 (.cells #[.int .i64 (gate (wi a 1 256) (a - 1)), .int .u64 (gate (wi a 1 256) b)] 27))
      replace hO := hO.ext (Ext.new w13 (.cells #[.int .i64 (gate (wi a 1 256) (a - 1)), .int .u64 (gate (wi a 1 256) b)] 27))
      replace hQ := hQ.ext (Ext.new w13 (.cells #[.int .i64 (gate (wi a 1 256) (a - 1)), .int .u64 (gate (wi a 1 256) b)] 27))
      replace hE := hE.alloc (.cells #[.int .i64 (gate (wi a 1 256) (a - 1)), .int .u64 (gate (wi a 1 256) b)] 27)
      have hL := Box.new w13 [.int .i64 (gate (wi a 1 256) (a - 1)), .int .u64 (gate (wi a 1 256) b)] 27
      obtain ⟨zY, Y0, Y1, Y2⟩ := hY.three
      go_wp2_with (fail)
      clear zY Y0 Y1 Y2
      refine (rtold_any a b _).mono ?_
      rintro e w14 ⟨rfl, hE1⟩
      replace hT := hT.ext hE1
      replace hX := hX.ext hE1
      replace hY := hY.ext hE1
      replace hO := hO.ext hE1
      replace hQ := hQ.ext hE1
      replace hL := hL.ext hE1
      replace hE := hE.trans hE1
      clear hE1
      replace hT := hT.ext (Ext.new w14 (.cells #[.int .i64 (gate (wi a 1 256) (a - 1)), .int .u64 (gate (wi a 1 256) b)] 27))
      replace hX := hX.ext (Ext.new w14 (.cells #[.int .i64 (gate (wi a 1 256) (a - 1)), .int .u64 (gate (wi a 1 256) b)] 27))
      replace hY := hY.ext (Ext.new w14 (.cells #[.int .i64 (gate (wi a 1 256) (a - 1)), .int .u64 (gate (wi a 1 256) b)] 27))
      replace hO := hO.ext (Ext.new w14 (.cells #[.int .i64 (gate (wi a 1 256) (a - 1)), .int .u64 (gate (wi a 1 256) b)] 27))
      replace hQ := hQ.ext (Ext.new w14 (.cells #[.int .i64 (gate (wi a 1 256) (a - 1)), .int .u64 (gate (wi a 1 256) b)] 27))
      replace hL := hL.ext (Ext.new w14 (.cells #[.int .i64 (gate (wi a 1 256) (a - 1)), .int .u64 (gate (wi a 1 256) b)] 27))
      replace hE := hE.alloc (.cells #[.int .i64 (gate (wi a 1 256) (a - 1)), .int .u64 (gate (wi a 1 256) b)] 27)
      have hM := Box.new w14 [.int .i64 (gate (wi a 1 256) (a - 1)), .int .u64 (gate (wi a 1 256) b)] 27
      obtain ⟨zY, Y0, Y1, Y2⟩ := hY.three
      obtain ⟨zO, O0, O1, O2⟩ := hO.three
      obtain ⟨zQ, Q0, Q1, Q2⟩ := hQ.three
      obtain ⟨zL, L0, L1⟩ := hL.two
      obtain ⟨zM, M0, M1⟩ := hM.two
      go_wp2_with (first
        | (go_at_call 16; with_reducible refine (phase_any _ _ hr).mono ?_; rintro e w' ⟨rfl, rfl⟩)
        | (go_at_call 17; with_reducible refine (rphase_any _ _ hr).mono ?_; rintro e w' ⟨rfl, rfl⟩))
      clear zY Y0 Y1 Y2
      clear zO O0 O1 O2
      clear zQ Q0 Q1 Q2
      clear zL L0 L1
      clear zM M0 M1
      go_roundw
      case rel => exact ⟨m + 1, by omega, by omega, rfl, hT, hX, hE⟩
      case measure => simp [intOf]; omega
    · clear hT
      have HX := Lib.hid hX
      have HE := Lib.hid hE
      clear hX hE
      go_wp2_with (first
        | (go_at_call 18; with_reducible refine (pick_to _ _ _ _ hp (by omega) (by omega) e1).mono ?_; rintro e w' ⟨rfl, rfl⟩)
        | (go_at_call 18; with_reducible refine (pick_to _ _ _ _ hq (by omega) (by omega) e2).mono ?_; rintro e w' ⟨rfl, rfl⟩))
      have hS := Box.new wr [.int .i64 ph, .int .i64 p, .int .i64 (s - 1), .int .i64 (t - 1)] 42
      have hF : Pairs (wr.alloc (.cells #[.int .i64 ph, .int .i64 p, .int .i64 (s - 1), .int .i64 (t - 1)] 42)) wr.heap.size 2 := ⟨hS.1, fun k k0 k1 => by
        rcases (by omega : k = 0 ∨ k = 1) with rfl | rfl
        · exact ⟨_, _, hS.2 0 _ rfl, hS.2 1 _ rfl⟩
        · exact ⟨_, _, hS.2 2 _ rfl, hS.2 3 _ rfl⟩⟩
      have HF := Lib.hid hF
      replace HX := Lib.hid (HX.out.ext (Ext.new _ (.cells #[.int .i64 ph, .int .i64 p, .int .i64 (s - 1), .int .i64 (t - 1)] 42)))
      replace HE := Lib.hid (HE.out.alloc (.cells #[.int .i64 ph, .int .i64 p, .int .i64 (s - 1), .int .i64 (t - 1)] 42))
      clear hS hF
      go_loopw [201] (fun i wi => ∃ n : Int, 0 ≤ n ∧ n ≤ 2 ∧ i = .int .i64 n ∧ Pairs wi wr.heap.size 2 ∧ Box wi (w.heap.size + 1 + 1) [.int .u64 x, .int .u64 y, .int .u64 z] ∧ Ext w wi) (fun i _ => (2 - intOf i).toNat)
      case atStart => exact ⟨0, by omega, by omega, rfl, HF.out, HX.out, HE.out⟩
      case round =>
        rename_i wi _
        obtain ⟨n, n0, n1, rfl, hF, hX, hE⟩ := hrel
        clear HF HX HE
        by_cases hlt2 : n < 2
        · obtain ⟨a, b, ca, cb⟩ := hF.2 n n0 hlt2
          go_wp2_with (first
            | (go_at_call 19; with_reducible refine (head_any _ _ _).mono ?_; rintro e w' ⟨rfl, rfl⟩)
            | (go_at_call 20; with_reducible refine (rhead_any _ _ _).mono ?_; rintro e w' ⟨rfl, rfl⟩))
          go_roundw
          case rel => exact ⟨n + 1, by omega, by omega, rfl, hF.ext (Ext.new _ _), hX.ext (Ext.new _ _), hE.alloc _⟩
          case measure => simp [intOf]; omega
        · obtain ⟨zX, X0, X1, X2⟩ := hX.three
          go_wp2_with (first
            | (go_at_call 16; with_reducible refine (phase_any _ _ hx0).mono ?_; rintro e w' ⟨rfl, rfl⟩)
            | (go_at_call 17; with_reducible refine (rphase_any _ _ hx0).mono ?_; rintro e w' ⟨rfl, rfl⟩))
          go_ret
          exact ⟨rfl, hE⟩

end Go.Proofs.Ytknafhomikmiiaa
