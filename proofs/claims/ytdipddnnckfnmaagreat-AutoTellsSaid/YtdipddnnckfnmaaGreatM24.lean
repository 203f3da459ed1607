/-
  Parts of a proof, one behind the other: LawAwake. Each says its own conditions.
-/
import Derived.Test.YtdipddnnckfnmaaGreatM23

/- LawAwake:
  The laws' first calls, whose answers are fixed: they are as they are to be. Conditions: what the program's Do answers.
-/
namespace Go.Proofs.YtdipddnnckfnmaaGreat.Law
open Go.RowKit (Below intOf)
open Go.Proofs.YtdipddnnckfnmaaGreat.Aut
open Go.Proofs.YtdipddnnckfnmaaGreat.Lan (DoE OuE AE opv new_any out_any seen_any probe_any right_any reads_is)
open Go.Proofs.YtdipddnnckfnmaaGreat.Reg (cf bx fits_any)

def t1 : St := ⟨0, [0], [7], [], false⟩
def s5 : St := ⟨0, [], [], [3], true⟩
def out1 : List Rs := [(0, 0), (0, 7), (12, 0)]
theorem wc_lit {c k v : Int} (h : decide (-9223372036854775808 ≤ c ∧ c < 9223372036854775808 ∧ 0 ≤ k ∧ k < 18446744073709551616 ∧ 0 ≤ v ∧ v < 18446744073709551616) = true) : Wc ⟨c, k, v⟩ := by
  obtain ⟨h1, h2, h3, h4, h5, h6⟩ := of_decide_eq_true h
  exact ⟨⟨h1, h2⟩, ⟨h3, h4⟩, h5, h6⟩
theorem aw_new : newS 4 1 1 = (zeroS, 0) := by decide +kernel
theorem aw_1 : doF 4 1 1 zeroS ⟨11, 9223372036854775808, 7⟩ = (t1, (0, 0), 0) := by decide +kernel
theorem aw_2 : doF 4 1 1 t1 ⟨10, 0, 0⟩ = (t1, (0, 7), 0) := by decide +kernel
theorem aw_3 : doF 4 1 1 t1 ⟨11, 5, 7⟩ = (t1, (11, 0), 0) := by decide +kernel
theorem aw_4 : outF 4 1 1 t1 = (out1, 0) := by decide +kernel
theorem aw_5 : seenF 4 1 1 out1 = (t1, true) := by decide +kernel
theorem aw_6 : doF 5 1 1 s5 ⟨12, 0, 1⟩ = (s5, (14, 0), 0) := by decide +kernel
theorem aw_7 : probeS 5 1 1 [] = (⟨16, 0, 0⟩, true) := by decide +kernel
theorem aw_8 : rightS 4 1 1 t1 = true := by decide +kernel
theorem aw_9 : readsS 5 = true ∧ readsS 6 = false := by decide +kernel

set_option maxHeartbeats 8000000 in
set_option maxRecDepth 100000 in
theorem awake_any (hdo : DoAll) (w : World) : Calls Tryz.prog 8 #[] w fun e w' => e = .returned (.bool true) ∧ Ext w w' := by
  have HNew : RowKit.Hid (∀ W, Calls Tryz.prog 13 #[cf 4 1 1] W (SE zeroS W (fun v => .tuple #[v, .int .i64 0]))) := Lib.hid fun W => by have := new_any 4 1 1 W; rw [aw_new] at this; exact this
  have HD1 : RowKit.Hid (∀ a v t W, SS W a v t zeroS → Calls Tryz.prog 21 #[cf 4 1 1, sv 0 a v t false, opv ⟨11, 9223372036854775808, 7⟩] W (DoE (t1, (0, 0), 0) W)) := Lib.hid fun a v t W h => by have := hdo 4 1 1 a v t zeroS ⟨11, 9223372036854775808, 7⟩ W h (wc_lit (by decide +kernel)); rw [aw_1] at this; exact this
  have HD2 : RowKit.Hid (∀ a v t W, SS W a v t t1 → Calls Tryz.prog 21 #[cf 4 1 1, sv 0 a v t false, opv ⟨10, 0, 0⟩] W (DoE (t1, (0, 7), 0) W)) := Lib.hid fun a v t W h => by have := hdo 4 1 1 a v t t1 ⟨10, 0, 0⟩ W h (wc_lit (by decide +kernel)); rw [aw_2] at this; exact this
  have HD3 : RowKit.Hid (∀ a v t W, SS W a v t t1 → Calls Tryz.prog 21 #[cf 4 1 1, sv 0 a v t false, opv ⟨11, 5, 7⟩] W (DoE (t1, (11, 0), 0) W)) := Lib.hid fun a v t W h => by have := hdo 4 1 1 a v t t1 ⟨11, 5, 7⟩ W h (wc_lit (by decide +kernel)); rw [aw_3] at this; exact this
  have HD4 : RowKit.Hid (∀ a v t W, SS W a v t s5 → Calls Tryz.prog 21 #[cf 5 1 1, sv 0 a v t true, opv ⟨12, 0, 1⟩] W (DoE (s5, (14, 0), 0) W)) := Lib.hid fun a v t W h => by have := hdo 5 1 1 a v t s5 ⟨12, 0, 1⟩ W h (wc_lit (by decide +kernel)); rw [aw_6] at this; exact this
  have HOut : RowKit.Hid (∀ a v t W, SS W a v t t1 → Calls Tryz.prog 16 #[cf 4 1 1, sv 0 a v t false] W (OuE (out1, 0) W)) := Lib.hid fun a v t W h => by have := out_any 4 1 1 a v t t1 W h; rw [aw_4] at this; exact this
  have HSeen : RowKit.Hid (∀ sl n c W, RS W sl n c out1 → Calls Tryz.prog 25 #[cf 4 1 1, .slice sl n c] W (SE t1 W (fun v => .tuple #[v, .bool true]))) := Lib.hid fun sl n c W h => by have := seen_any 4 1 1 sl n c out1 W h; rw [aw_5] at this; exact this
  have HProbe : RowKit.Hid (∀ W, Calls Tryz.prog 23 #[cf 5 1 1, .slice none 0 0] W (AE (⟨16, 0, 0⟩, true) W)) := Lib.hid fun W => by have := probe_any 5 1 1 none 0 0 [] W (RS.empty _ _ _ (by decide)); rw [aw_7] at this; exact this
  have HRight : RowKit.Hid (∀ a v t W, SS W a v t t1 → Calls Tryz.prog 18 #[cf 4 1 1, sv 0 a v t false] W fun e w' => e = .returned (.bool true) ∧ Ext W w') := Lib.hid fun a v t W h => by have := right_any 4 1 1 a v t t1 W h; rw [aw_8] at this; exact this
  have HR5 : RowKit.Hid (∀ W, Calls Tryz.prog 27 #[.int .i64 5] W fun e w' => e = .returned (.bool true) ∧ W = w') := Lib.hid fun W => by have := reads_is 5 W; rw [aw_9.1] at this; exact this
  have HR6 : RowKit.Hid (∀ W, Calls Tryz.prog 27 #[.int .i64 6] W fun e w' => e = .returned (.bool false) ∧ W = w') := Lib.hid fun W => by have := reads_is 6 W; rw [aw_9.2] at this; exact this
  have qR := eqR
  have qO := eqO
  clear hdo
  dsimp only [cf, sv, opv, Lan.ov] at *
  go_enter Tryz.func8, Tryz.ntmps8
  go_wp2_with (fail)
  have hE := Ext.new w (.cells #[.int .i64 4, .int .i64 1, .int .i64 1] 24)
  have hc : Box (w.alloc (.cells #[.int .i64 4, .int .i64 1, .int .i64 1] 24)) (w.heap.size) [.int .i64 4, .int .i64 1, .int .i64 1] := by have := Box.new w [.int .i64 4, .int .i64 1, .int .i64 1] 24; simpa only [World.size_alloc] using this
  refine (HNew.out _).mono ?_
  rintro e w1 ⟨hE1, ⟨k0, n0, c0⟩, ⟨p0, q0, r0⟩, ⟨x0, y0, u0⟩, rfl, S0⟩
  replace hc := hc.ext hE1
  replace hE := hE.trans hE1
  clear hE1
  dsimp only [t1, s5, out1, zeroS, sv, rv] at *
  replace hc := hc.ext (Ext.new w1 (.cells #[.int .u64 0, .slice k0 n0 c0, .slice p0 q0 r0, .slice x0 y0 u0, .bool false] 30))
  replace S0 := S0.ext (Ext.new w1 (.cells #[.int .u64 0, .slice k0 n0 c0, .slice p0 q0 r0, .slice x0 y0 u0, .bool false] 30))
  replace hE := hE.alloc (.cells #[.int .u64 0, .slice k0 n0 c0, .slice p0 q0 r0, .slice x0 y0 u0, .bool false] 30)
  have hs0 : Box (w1.alloc (.cells #[.int .u64 0, .slice k0 n0 c0, .slice p0 q0 r0, .slice x0 y0 u0, .bool false] 30)) (w1.heap.size) [.int .u64 0, .slice k0 n0 c0, .slice p0 q0 r0, .slice x0 y0 u0, .bool false] := by have := Box.new w1 [.int .u64 0, .slice k0 n0 c0, .slice p0 q0 r0, .slice x0 y0 u0, .bool false] 30; simpa only [World.size_alloc] using this
  obtain ⟨zc, c0, c1, c2⟩ := hc.three
  obtain ⟨zs0, s00, s01, s02, s03, s04⟩ := hs0.five
  replace S0 := Lib.hid S0
  replace hc := Lib.hid hc
  replace hs0 := Lib.hid hs0
  go_wp2_with (fail)
  replace S0 := S0.out
  replace hc := hc.out
  replace hs0 := hs0.out
  clear zc c0 c1 c2
  clear zs0 s00 s01 s02 s03 s04
  refine (HD1.out _ _ _ _ S0).mono ?_
  rintro e w2 ⟨hE1, ⟨k1, n1, c1⟩, ⟨p1, q1, r1⟩, ⟨x1, y1, u1⟩, rfl, S1⟩
  replace hc := hc.ext hE1
  replace hs0 := hs0.ext hE1
  replace S0 := S0.ext hE1
  replace hE := hE.trans hE1
  clear hE1
  replace hc := hc.ext (Ext.new w2 (.cells #[.int .u64 0, .slice k1 n1 c1, .slice p1 q1 r1, .slice x1 y1 u1, .bool false] 30))
  replace hs0 := hs0.ext (Ext.new w2 (.cells #[.int .u64 0, .slice k1 n1 c1, .slice p1 q1 r1, .slice x1 y1 u1, .bool false] 30))
  replace S0 := S0.ext (Ext.new w2 (.cells #[.int .u64 0, .slice k1 n1 c1, .slice p1 q1 r1, .slice x1 y1 u1, .bool false] 30))
  replace S1 := S1.ext (Ext.new w2 (.cells #[.int .u64 0, .slice k1 n1 c1, .slice p1 q1 r1, .slice x1 y1 u1, .bool false] 30))
  replace hE := hE.alloc (.cells #[.int .u64 0, .slice k1 n1 c1, .slice p1 q1 r1, .slice x1 y1 u1, .bool false] 30)
  have hs1 : Box (w2.alloc (.cells #[.int .u64 0, .slice k1 n1 c1, .slice p1 q1 r1, .slice x1 y1 u1, .bool false] 30)) (w2.heap.size) [.int .u64 0, .slice k1 n1 c1, .slice p1 q1 r1, .slice x1 y1 u1, .bool false] := by have := Box.new w2 [.int .u64 0, .slice k1 n1 c1, .slice p1 q1 r1, .slice x1 y1 u1, .bool false] 30; simpa only [World.size_alloc] using this
  replace hc := hc.ext (Ext.new (w2.alloc (.cells #[.int .u64 0, .slice k1 n1 c1, .slice p1 q1 r1, .slice x1 y1 u1, .bool false] 30)) (.cells #[.int .i64 0, .int .u64 0] 51))
  replace hs0 := hs0.ext (Ext.new (w2.alloc (.cells #[.int .u64 0, .slice k1 n1 c1, .slice p1 q1 r1, .slice x1 y1 u1, .bool false] 30)) (.cells #[.int .i64 0, .int .u64 0] 51))
  replace hs1 := hs1.ext (Ext.new (w2.alloc (.cells #[.int .u64 0, .slice k1 n1 c1, .slice p1 q1 r1, .slice x1 y1 u1, .bool false] 30)) (.cells #[.int .i64 0, .int .u64 0] 51))
  replace S0 := S0.ext (Ext.new (w2.alloc (.cells #[.int .u64 0, .slice k1 n1 c1, .slice p1 q1 r1, .slice x1 y1 u1, .bool false] 30)) (.cells #[.int .i64 0, .int .u64 0] 51))
  replace S1 := S1.ext (Ext.new (w2.alloc (.cells #[.int .u64 0, .slice k1 n1 c1, .slice p1 q1 r1, .slice x1 y1 u1, .bool false] 30)) (.cells #[.int .i64 0, .int .u64 0] 51))
  replace hE := hE.alloc (.cells #[.int .i64 0, .int .u64 0] 51)
  have hr1 : Box ((w2.alloc (.cells #[.int .u64 0, .slice k1 n1 c1, .slice p1 q1 r1, .slice x1 y1 u1, .bool false] 30)).alloc (.cells #[.int .i64 0, .int .u64 0] 51)) (w2.heap.size + 1) [.int .i64 0, .int .u64 0] := by have := Box.new (w2.alloc (.cells #[.int .u64 0, .slice k1 n1 c1, .slice p1 q1 r1, .slice x1 y1 u1, .bool false] 30)) [.int .i64 0, .int .u64 0] 51; simpa only [World.size_alloc] using this
  obtain ⟨zc, c0, c1, c2⟩ := hc.three
  obtain ⟨zs1, s10, s11, s12, s13, s14⟩ := hs1.five
  replace S0 := Lib.hid S0
  replace S1 := Lib.hid S1
  replace hc := Lib.hid hc
  replace hs0 := Lib.hid hs0
  replace hs1 := Lib.hid hs1
  replace hr1 := Lib.hid hr1
  go_wp2_with (fail)
  replace S0 := S0.out
  replace S1 := S1.out
  replace hc := hc.out
  replace hs0 := hs0.out
  replace hs1 := hs1.out
  replace hr1 := hr1.out
  clear zc c0 c1 c2
  clear zs1 s10 s11 s12 s13 s14
  refine (HD2.out _ _ _ _ S1).mono ?_
  rintro e w3 ⟨hE1, ⟨k2, n2, c2⟩, ⟨p2, q2, r2⟩, ⟨x2, y2, u2⟩, rfl, S2⟩
  replace hc := hc.ext hE1
  replace hs0 := hs0.ext hE1
  replace hs1 := hs1.ext hE1
  replace hr1 := hr1.ext hE1
  replace S0 := S0.ext hE1
  replace S1 := S1.ext hE1
  replace hE := hE.trans hE1
  clear hE1
  replace hc := hc.ext (Ext.new w3 (.cells #[.int .u64 0, .slice k2 n2 c2, .slice p2 q2 r2, .slice x2 y2 u2, .bool false] 30))
  replace hs0 := hs0.ext (Ext.new w3 (.cells #[.int .u64 0, .slice k2 n2 c2, .slice p2 q2 r2, .slice x2 y2 u2, .bool false] 30))
  replace hs1 := hs1.ext (Ext.new w3 (.cells #[.int .u64 0, .slice k2 n2 c2, .slice p2 q2 r2, .slice x2 y2 u2, .bool false] 30))
  replace hr1 := hr1.ext (Ext.new w3 (.cells #[.int .u64 0, .slice k2 n2 c2, .slice p2 q2 r2, .slice x2 y2 u2, .bool false] 30))
  replace S0 := S0.ext (Ext.new w3 (.cells #[.int .u64 0, .slice k2 n2 c2, .slice p2 q2 r2, .slice x2 y2 u2, .bool false] 30))
  replace S1 := S1.ext (Ext.new w3 (.cells #[.int .u64 0, .slice k2 n2 c2, .slice p2 q2 r2, .slice x2 y2 u2, .bool false] 30))
  replace S2 := S2.ext (Ext.new w3 (.cells #[.int .u64 0, .slice k2 n2 c2, .slice p2 q2 r2, .slice x2 y2 u2, .bool false] 30))
  replace hE := hE.alloc (.cells #[.int .u64 0, .slice k2 n2 c2, .slice p2 q2 r2, .slice x2 y2 u2, .bool false] 30)
  have hs2 : Box (w3.alloc (.cells #[.int .u64 0, .slice k2 n2 c2, .slice p2 q2 r2, .slice x2 y2 u2, .bool false] 30)) (w3.heap.size) [.int .u64 0, .slice k2 n2 c2, .slice p2 q2 r2, .slice x2 y2 u2, .bool false] := by have := Box.new w3 [.int .u64 0, .slice k2 n2 c2, .slice p2 q2 r2, .slice x2 y2 u2, .bool false] 30; simpa only [World.size_alloc] using this
  replace hc := hc.ext (Ext.new (w3.alloc (.cells #[.int .u64 0, .slice k2 n2 c2, .slice p2 q2 r2, .slice x2 y2 u2, .bool false] 30)) (.cells #[.int .i64 0, .int .u64 7] 51))
  replace hs0 := hs0.ext (Ext.new (w3.alloc (.cells #[.int .u64 0, .slice k2 n2 c2, .slice p2 q2 r2, .slice x2 y2 u2, .bool false] 30)) (.cells #[.int .i64 0, .int .u64 7] 51))
  replace hs1 := hs1.ext (Ext.new (w3.alloc (.cells #[.int .u64 0, .slice k2 n2 c2, .slice p2 q2 r2, .slice x2 y2 u2, .bool false] 30)) (.cells #[.int .i64 0, .int .u64 7] 51))
  replace hr1 := hr1.ext (Ext.new (w3.alloc (.cells #[.int .u64 0, .slice k2 n2 c2, .slice p2 q2 r2, .slice x2 y2 u2, .bool false] 30)) (.cells #[.int .i64 0, .int .u64 7] 51))
  replace hs2 := hs2.ext (Ext.new (w3.alloc (.cells #[.int .u64 0, .slice k2 n2 c2, .slice p2 q2 r2, .slice x2 y2 u2, .bool false] 30)) (.cells #[.int .i64 0, .int .u64 7] 51))
  replace S0 := S0.ext (Ext.new (w3.alloc (.cells #[.int .u64 0, .slice k2 n2 c2, .slice p2 q2 r2, .slice x2 y2 u2, .bool false] 30)) (.cells #[.int .i64 0, .int .u64 7] 51))
  replace S1 := S1.ext (Ext.new (w3.alloc (.cells #[.int .u64 0, .slice k2 n2 c2, .slice p2 q2 r2, .slice x2 y2 u2, .bool false] 30)) (.cells #[.int .i64 0, .int .u64 7] 51))
  replace S2 := S2.ext (Ext.new (w3.alloc (.cells #[.int .u64 0, .slice k2 n2 c2, .slice p2 q2 r2, .slice x2 y2 u2, .bool false] 30)) (.cells #[.int .i64 0, .int .u64 7] 51))
  replace hE := hE.alloc (.cells #[.int .i64 0, .int .u64 7] 51)
  have hr2 : Box ((w3.alloc (.cells #[.int .u64 0, .slice k2 n2 c2, .slice p2 q2 r2, .slice x2 y2 u2, .bool false] 30)).alloc (.cells #[.int .i64 0, .int .u64 7] 51)) (w3.heap.size + 1) [.int .i64 0, .int .u64 7] := by have := Box.new (w3.alloc (.cells #[.int .u64 0, .slice k2 n2 c2, .slice p2 q2 r2, .slice x2 y2 u2, .bool false] 30)) [.int .i64 0, .int .u64 7] 51; simpa only [World.size_alloc] using this
  obtain ⟨zc, c0, c1, c2⟩ := hc.three
  obtain ⟨zs1, s10, s11, s12, s13, s14⟩ := hs1.five
  replace S0 := Lib.hid S0
  replace S1 := Lib.hid S1
  replace S2 := Lib.hid S2
  replace hc := Lib.hid hc
  replace hs0 := Lib.hid hs0
  replace hs1 := Lib.hid hs1
  replace hr1 := Lib.hid hr1
  replace hs2 := Lib.hid hs2
  replace hr2 := Lib.hid hr2
  go_wp2_with (fail)
  replace S0 := S0.out
  replace S1 := S1.out
  replace S2 := S2.out
  replace hc := hc.out
  replace hs0 := hs0.out
  replace hs1 := hs1.out
  replace hr1 := hr1.out
  replace hs2 := hs2.out
  replace hr2 := hr2.out
  clear zc c0 c1 c2
  clear zs1 s10 s11 s12 s13 s14
  refine (HD3.out _ _ _ _ S1).mono ?_
  rintro e w4 ⟨hE1, ⟨k3, n3, c3⟩, ⟨p3, q3, r3⟩, ⟨x3, y3, u3⟩, rfl, S3⟩
  replace hc := hc.ext hE1
  replace hs0 := hs0.ext hE1
  replace hs1 := hs1.ext hE1
  replace hr1 := hr1.ext hE1
  replace hs2 := hs2.ext hE1
  replace hr2 := hr2.ext hE1
  replace S0 := S0.ext hE1
  replace S1 := S1.ext hE1
  replace S2 := S2.ext hE1
  replace hE := hE.trans hE1
  clear hE1
  replace hc := hc.ext (Ext.new w4 (.cells #[.int .u64 0, .slice k3 n3 c3, .slice p3 q3 r3, .slice x3 y3 u3, .bool false] 30))
  replace hs0 := hs0.ext (Ext.new w4 (.cells #[.int .u64 0, .slice k3 n3 c3, .slice p3 q3 r3, .slice x3 y3 u3, .bool false] 30))
  replace hs1 := hs1.ext (Ext.new w4 (.cells #[.int .u64 0, .slice k3 n3 c3, .slice p3 q3 r3, .slice x3 y3 u3, .bool false] 30))
  replace hr1 := hr1.ext (Ext.new w4 (.cells #[.int .u64 0, .slice k3 n3 c3, .slice p3 q3 r3, .slice x3 y3 u3, .bool false] 30))
  replace hs2 := hs2.ext (Ext.new w4 (.cells #[.int .u64 0, .slice k3 n3 c3, .slice p3 q3 r3, .slice x3 y3 u3, .bool false] 30))
  replace hr2 := hr2.ext (Ext.new w4 (.cells #[.int .u64 0, .slice k3 n3 c3, .slice p3 q3 r3, .slice x3 y3 u3, .bool false] 30))
  replace S0 := S0.ext (Ext.new w4 (.cells #[.int .u64 0, .slice k3 n3 c3, .slice p3 q3 r3, .slice x3 y3 u3, .bool false] 30))
  replace S1 := S1.ext (Ext.new w4 (.cells #[.int .u64 0, .slice k3 n3 c3, .slice p3 q3 r3, .slice x3 y3 u3, .bool false] 30))
  replace S2 := S2.ext (Ext.new w4 (.cells #[.int .u64 0, .slice k3 n3 c3, .slice p3 q3 r3, .slice x3 y3 u3, .bool false] 30))
  replace S3 := S3.ext (Ext.new w4 (.cells #[.int .u64 0, .slice k3 n3 c3, .slice p3 q3 r3, .slice x3 y3 u3, .bool false] 30))
  replace hE := hE.alloc (.cells #[.int .u64 0, .slice k3 n3 c3, .slice p3 q3 r3, .slice x3 y3 u3, .bool false] 30)
  have hs3 : Box (w4.alloc (.cells #[.int .u64 0, .slice k3 n3 c3, .slice p3 q3 r3, .slice x3 y3 u3, .bool false] 30)) (w4.heap.size) [.int .u64 0, .slice k3 n3 c3, .slice p3 q3 r3, .slice x3 y3 u3, .bool false] := by have := Box.new w4 [.int .u64 0, .slice k3 n3 c3, .slice p3 q3 r3, .slice x3 y3 u3, .bool false] 30; simpa only [World.size_alloc] using this
  replace hc := hc.ext (Ext.new (w4.alloc (.cells #[.int .u64 0, .slice k3 n3 c3, .slice p3 q3 r3, .slice x3 y3 u3, .bool false] 30)) (.cells #[.int .i64 11, .int .u64 0] 51))
  replace hs0 := hs0.ext (Ext.new (w4.alloc (.cells #[.int .u64 0, .slice k3 n3 c3, .slice p3 q3 r3, .slice x3 y3 u3, .bool false] 30)) (.cells #[.int .i64 11, .int .u64 0] 51))
  replace hs1 := hs1.ext (Ext.new (w4.alloc (.cells #[.int .u64 0, .slice k3 n3 c3, .slice p3 q3 r3, .slice x3 y3 u3, .bool false] 30)) (.cells #[.int .i64 11, .int .u64 0] 51))
  replace hr1 := hr1.ext (Ext.new (w4.alloc (.cells #[.int .u64 0, .slice k3 n3 c3, .slice p3 q3 r3, .slice x3 y3 u3, .bool false] 30)) (.cells #[.int .i64 11, .int .u64 0] 51))
  replace hs2 := hs2.ext (Ext.new (w4.alloc (.cells #[.int .u64 0, .slice k3 n3 c3, .slice p3 q3 r3, .slice x3 y3 u3, .bool false] 30)) (.cells #[.int .i64 11, .int .u64 0] 51))
  replace hr2 := hr2.ext (Ext.new (w4.alloc (.cells #[.int .u64 0, .slice k3 n3 c3, .slice p3 q3 r3, .slice x3 y3 u3, .bool false] 30)) (.cells #[.int .i64 11, .int .u64 0] 51))
  replace hs3 := hs3.ext (Ext.new (w4.alloc (.cells #[.int .u64 0, .slice k3 n3 c3, .slice p3 q3 r3, .slice x3 y3 u3, .bool false] 30)) (.cells #[.int .i64 11, .int .u64 0] 51))
  replace S0 := S0.ext (Ext.new (w4.alloc (.cells #[.int .u64 0, .slice k3 n3 c3, .slice p3 q3 r3, .slice x3 y3 u3, .bool false] 30)) (.cells #[.int .i64 11, .int .u64 0] 51))
  replace S1 := S1.ext (Ext.new (w4.alloc (.cells #[.int .u64 0, .slice k3 n3 c3, .slice p3 q3 r3, .slice x3 y3 u3, .bool false] 30)) (.cells #[.int .i64 11, .int .u64 0] 51))
  replace S2 := S2.ext (Ext.new (w4.alloc (.cells #[.int .u64 0, .slice k3 n3 c3, .slice p3 q3 r3, .slice x3 y3 u3, .bool false] 30)) (.cells #[.int .i64 11, .int .u64 0] 51))
  replace S3 := S3.ext (Ext.new (w4.alloc (.cells #[.int .u64 0, .slice k3 n3 c3, .slice p3 q3 r3, .slice x3 y3 u3, .bool false] 30)) (.cells #[.int .i64 11, .int .u64 0] 51))
  replace hE := hE.alloc (.cells #[.int .i64 11, .int .u64 0] 51)
  have hr3 : Box ((w4.alloc (.cells #[.int .u64 0, .slice k3 n3 c3, .slice p3 q3 r3, .slice x3 y3 u3, .bool false] 30)).alloc (.cells #[.int .i64 11, .int .u64 0] 51)) (w4.heap.size + 1) [.int .i64 11, .int .u64 0] := by have := Box.new (w4.alloc (.cells #[.int .u64 0, .slice k3 n3 c3, .slice p3 q3 r3, .slice x3 y3 u3, .bool false] 30)) [.int .i64 11, .int .u64 0] 51; simpa only [World.size_alloc] using this
  obtain ⟨zc, c0, c1, c2⟩ := hc.three
  obtain ⟨zs1, s10, s11, s12, s13, s14⟩ := hs1.five
  replace S0 := Lib.hid S0
  replace S1 := Lib.hid S1
  replace S2 := Lib.hid S2
  replace S3 := Lib.hid S3
  replace hc := Lib.hid hc
  replace hs0 := Lib.hid hs0
  replace hs1 := Lib.hid hs1
  replace hr1 := Lib.hid hr1
  replace hs2 := Lib.hid hs2
  replace hr2 := Lib.hid hr2
  replace hs3 := Lib.hid hs3
  replace hr3 := Lib.hid hr3
  go_wp2_with (fail)
  replace S0 := S0.out
  replace S1 := S1.out
  replace S2 := S2.out
  replace S3 := S3.out
  replace hc := hc.out
  replace hs0 := hs0.out
  replace hs1 := hs1.out
  replace hr1 := hr1.out
  replace hs2 := hs2.out
  replace hr2 := hr2.out
  replace hs3 := hs3.out
  replace hr3 := hr3.out
  clear zc c0 c1 c2
  clear zs1 s10 s11 s12 s13 s14
  refine (HOut.out _ _ _ _ S1).mono ?_
  rintro e w5 ⟨⟨ol, on, oc⟩, rfl, O, hE1⟩
  replace hc := hc.ext hE1
  replace hs0 := hs0.ext hE1
  replace hs1 := hs1.ext hE1
  replace hr1 := hr1.ext hE1
  replace hs2 := hs2.ext hE1
  replace hr2 := hr2.ext hE1
  replace hs3 := hs3.ext hE1
  replace hr3 := hr3.ext hE1
  replace S0 := S0.ext hE1
  replace S1 := S1.ext hE1
  replace S2 := S2.ext hE1
  replace S3 := S3.ext hE1
  replace hE := hE.trans hE1
  clear hE1
  obtain ⟨zc, c0, c1, c2⟩ := hc.three
  replace S0 := Lib.hid S0
  replace S1 := Lib.hid S1
  replace S2 := Lib.hid S2
  replace S3 := Lib.hid S3
  replace O := Lib.hid O
  replace hc := Lib.hid hc
  replace hs0 := Lib.hid hs0
  replace hs1 := Lib.hid hs1
  replace hr1 := Lib.hid hr1
  replace hs2 := Lib.hid hs2
  replace hr2 := Lib.hid hr2
  replace hs3 := Lib.hid hs3
  replace hr3 := Lib.hid hr3
  go_wp2_with (fail)
  replace S0 := S0.out
  replace S1 := S1.out
  replace S2 := S2.out
  replace S3 := S3.out
  replace O := O.out
  replace hc := hc.out
  replace hs0 := hs0.out
  replace hs1 := hs1.out
  replace hr1 := hr1.out
  replace hs2 := hs2.out
  replace hr2 := hr2.out
  replace hs3 := hs3.out
  replace hr3 := hr3.out
  clear zc c0 c1 c2
  refine (HSeen.out _ _ _ _ O).mono ?_
  rintro e w6 ⟨hE1, ⟨k4, n4, c4⟩, ⟨p4, q4, r4⟩, ⟨x4, y4, u4⟩, rfl, S4⟩
  replace hc := hc.ext hE1
  replace hs0 := hs0.ext hE1
  replace hs1 := hs1.ext hE1
  replace hr1 := hr1.ext hE1
  replace hs2 := hs2.ext hE1
  replace hr2 := hr2.ext hE1
  replace hs3 := hs3.ext hE1
  replace hr3 := hr3.ext hE1
  replace S0 := S0.ext hE1
  replace S1 := S1.ext hE1
  replace S2 := S2.ext hE1
  replace S3 := S3.ext hE1
  replace O := O.ext hE1
  replace hE := hE.trans hE1
  clear hE1
  replace hc := hc.ext (Ext.new w6 (.cells #[.int .u64 0, .slice k4 n4 c4, .slice p4 q4 r4, .slice x4 y4 u4, .bool false] 30))
  replace hs0 := hs0.ext (Ext.new w6 (.cells #[.int .u64 0, .slice k4 n4 c4, .slice p4 q4 r4, .slice x4 y4 u4, .bool false] 30))
  replace hs1 := hs1.ext (Ext.new w6 (.cells #[.int .u64 0, .slice k4 n4 c4, .slice p4 q4 r4, .slice x4 y4 u4, .bool false] 30))
  replace hr1 := hr1.ext (Ext.new w6 (.cells #[.int .u64 0, .slice k4 n4 c4, .slice p4 q4 r4, .slice x4 y4 u4, .bool false] 30))
  replace hs2 := hs2.ext (Ext.new w6 (.cells #[.int .u64 0, .slice k4 n4 c4, .slice p4 q4 r4, .slice x4 y4 u4, .bool false] 30))
  replace hr2 := hr2.ext (Ext.new w6 (.cells #[.int .u64 0, .slice k4 n4 c4, .slice p4 q4 r4, .slice x4 y4 u4, .bool false] 30))
  replace hs3 := hs3.ext (Ext.new w6 (.cells #[.int .u64 0, .slice k4 n4 c4, .slice p4 q4 r4, .slice x4 y4 u4, .bool false] 30))
  replace hr3 := hr3.ext (Ext.new w6 (.cells #[.int .u64 0, .slice k4 n4 c4, .slice p4 q4 r4, .slice x4 y4 u4, .bool false] 30))
  replace S0 := S0.ext (Ext.new w6 (.cells #[.int .u64 0, .slice k4 n4 c4, .slice p4 q4 r4, .slice x4 y4 u4, .bool false] 30))
  replace S1 := S1.ext (Ext.new w6 (.cells #[.int .u64 0, .slice k4 n4 c4, .slice p4 q4 r4, .slice x4 y4 u4, .bool false] 30))
  replace S2 := S2.ext (Ext.new w6 (.cells #[.int .u64 0, .slice k4 n4 c4, .slice p4 q4 r4, .slice x4 y4 u4, .bool false] 30))
  replace S3 := S3.ext (Ext.new w6 (.cells #[.int .u64 0, .slice k4 n4 c4, .slice p4 q4 r4, .slice x4 y4 u4, .bool false] 30))
  replace O := O.ext (Ext.new w6 (.cells #[.int .u64 0, .slice k4 n4 c4, .slice p4 q4 r4, .slice x4 y4 u4, .bool false] 30))
  replace S4 := S4.ext (Ext.new w6 (.cells #[.int .u64 0, .slice k4 n4 c4, .slice p4 q4 r4, .slice x4 y4 u4, .bool false] 30))
  replace hE := hE.alloc (.cells #[.int .u64 0, .slice k4 n4 c4, .slice p4 q4 r4, .slice x4 y4 u4, .bool false] 30)
  have hs4 : Box (w6.alloc (.cells #[.int .u64 0, .slice k4 n4 c4, .slice p4 q4 r4, .slice x4 y4 u4, .bool false] 30)) (w6.heap.size) [.int .u64 0, .slice k4 n4 c4, .slice p4 q4 r4, .slice x4 y4 u4, .bool false] := by have := Box.new w6 [.int .u64 0, .slice k4 n4 c4, .slice p4 q4 r4, .slice x4 y4 u4, .bool false] 30; simpa only [World.size_alloc] using this
  replace hc := hc.ext (Ext.new (w6.alloc (.cells #[.int .u64 0, .slice k4 n4 c4, .slice p4 q4 r4, .slice x4 y4 u4, .bool false] 30)) (.cells #[.int .i64 5, .int .i64 1, .int .i64 1] 24))
  replace hs0 := hs0.ext (Ext.new (w6.alloc (.cells #[.int .u64 0, .slice k4 n4 c4, .slice p4 q4 r4, .slice x4 y4 u4, .bool false] 30)) (.cells #[.int .i64 5, .int .i64 1, .int .i64 1] 24))
  replace hs1 := hs1.ext (Ext.new (w6.alloc (.cells #[.int .u64 0, .slice k4 n4 c4, .slice p4 q4 r4, .slice x4 y4 u4, .bool false] 30)) (.cells #[.int .i64 5, .int .i64 1, .int .i64 1] 24))
  replace hr1 := hr1.ext (Ext.new (w6.alloc (.cells #[.int .u64 0, .slice k4 n4 c4, .slice p4 q4 r4, .slice x4 y4 u4, .bool false] 30)) (.cells #[.int .i64 5, .int .i64 1, .int .i64 1] 24))
  replace hs2 := hs2.ext (Ext.new (w6.alloc (.cells #[.int .u64 0, .slice k4 n4 c4, .slice p4 q4 r4, .slice x4 y4 u4, .bool false] 30)) (.cells #[.int .i64 5, .int .i64 1, .int .i64 1] 24))
  replace hr2 := hr2.ext (Ext.new (w6.alloc (.cells #[.int .u64 0, .slice k4 n4 c4, .slice p4 q4 r4, .slice x4 y4 u4, .bool false] 30)) (.cells #[.int .i64 5, .int .i64 1, .int .i64 1] 24))
  replace hs3 := hs3.ext (Ext.new (w6.alloc (.cells #[.int .u64 0, .slice k4 n4 c4, .slice p4 q4 r4, .slice x4 y4 u4, .bool false] 30)) (.cells #[.int .i64 5, .int .i64 1, .int .i64 1] 24))
  replace hr3 := hr3.ext (Ext.new (w6.alloc (.cells #[.int .u64 0, .slice k4 n4 c4, .slice p4 q4 r4, .slice x4 y4 u4, .bool false] 30)) (.cells #[.int .i64 5, .int .i64 1, .int .i64 1] 24))
  replace hs4 := hs4.ext (Ext.new (w6.alloc (.cells #[.int .u64 0, .slice k4 n4 c4, .slice p4 q4 r4, .slice x4 y4 u4, .bool false] 30)) (.cells #[.int .i64 5, .int .i64 1, .int .i64 1] 24))
  replace S0 := S0.ext (Ext.new (w6.alloc (.cells #[.int .u64 0, .slice k4 n4 c4, .slice p4 q4 r4, .slice x4 y4 u4, .bool false] 30)) (.cells #[.int .i64 5, .int .i64 1, .int .i64 1] 24))
  replace S1 := S1.ext (Ext.new (w6.alloc (.cells #[.int .u64 0, .slice k4 n4 c4, .slice p4 q4 r4, .slice x4 y4 u4, .bool false] 30)) (.cells #[.int .i64 5, .int .i64 1, .int .i64 1] 24))
  replace S2 := S2.ext (Ext.new (w6.alloc (.cells #[.int .u64 0, .slice k4 n4 c4, .slice p4 q4 r4, .slice x4 y4 u4, .bool false] 30)) (.cells #[.int .i64 5, .int .i64 1, .int .i64 1] 24))
  replace S3 := S3.ext (Ext.new (w6.alloc (.cells #[.int .u64 0, .slice k4 n4 c4, .slice p4 q4 r4, .slice x4 y4 u4, .bool false] 30)) (.cells #[.int .i64 5, .int .i64 1, .int .i64 1] 24))
  replace O := O.ext (Ext.new (w6.alloc (.cells #[.int .u64 0, .slice k4 n4 c4, .slice p4 q4 r4, .slice x4 y4 u4, .bool false] 30)) (.cells #[.int .i64 5, .int .i64 1, .int .i64 1] 24))
  replace S4 := S4.ext (Ext.new (w6.alloc (.cells #[.int .u64 0, .slice k4 n4 c4, .slice p4 q4 r4, .slice x4 y4 u4, .bool false] 30)) (.cells #[.int .i64 5, .int .i64 1, .int .i64 1] 24))
  replace hE := hE.alloc (.cells #[.int .i64 5, .int .i64 1, .int .i64 1] 24)
  have hb : Box ((w6.alloc (.cells #[.int .u64 0, .slice k4 n4 c4, .slice p4 q4 r4, .slice x4 y4 u4, .bool false] 30)).alloc (.cells #[.int .i64 5, .int .i64 1, .int .i64 1] 24)) (w6.heap.size + 1) [.int .i64 5, .int .i64 1, .int .i64 1] := by have := Box.new (w6.alloc (.cells #[.int .u64 0, .slice k4 n4 c4, .slice p4 q4 r4, .slice x4 y4 u4, .bool false] 30)) [.int .i64 5, .int .i64 1, .int .i64 1] 24; simpa only [World.size_alloc] using this
  obtain ⟨zb, b0, b1, b2⟩ := hb.three
  replace S0 := Lib.hid S0
  replace S1 := Lib.hid S1
  replace S2 := Lib.hid S2
  replace S3 := Lib.hid S3
  replace O := Lib.hid O
  replace S4 := Lib.hid S4
  replace hc := Lib.hid hc
  replace hs0 := Lib.hid hs0
  replace hs1 := Lib.hid hs1
  replace hr1 := Lib.hid hr1
  replace hs2 := Lib.hid hs2
  replace hr2 := Lib.hid hr2
  replace hs3 := Lib.hid hs3
  replace hr3 := Lib.hid hr3
  replace hs4 := Lib.hid hs4
  replace hb := Lib.hid hb
  go_wp2_with (fail)
  replace S0 := S0.out
  replace S1 := S1.out
  replace S2 := S2.out
  replace S3 := S3.out
  replace O := O.out
  replace S4 := S4.out
  replace hc := hc.out
  replace hs0 := hs0.out
  replace hs1 := hs1.out
  replace hr1 := hr1.out
  replace hs2 := hs2.out
  replace hr2 := hr2.out
  replace hs3 := hs3.out
  replace hr3 := hr3.out
  replace hs4 := hs4.out
  replace hb := hb.out
  clear zb b0 b1 b2
  replace hc := hc.ext (Ext.new ((w6.alloc (.cells #[.int .u64 0, .slice k4 n4 c4, .slice p4 q4 r4, .slice x4 y4 u4, .bool false] 30)).alloc (.cells #[.int .i64 5, .int .i64 1, .int .i64 1] 24)) (.cells #[.int .i64 3] 3))
  replace hs0 := hs0.ext (Ext.new ((w6.alloc (.cells #[.int .u64 0, .slice k4 n4 c4, .slice p4 q4 r4, .slice x4 y4 u4, .bool false] 30)).alloc (.cells #[.int .i64 5, .int .i64 1, .int .i64 1] 24)) (.cells #[.int .i64 3] 3))
  replace hs1 := hs1.ext (Ext.new ((w6.alloc (.cells #[.int .u64 0, .slice k4 n4 c4, .slice p4 q4 r4, .slice x4 y4 u4, .bool false] 30)).alloc (.cells #[.int .i64 5, .int .i64 1, .int .i64 1] 24)) (.cells #[.int .i64 3] 3))
  replace hr1 := hr1.ext (Ext.new ((w6.alloc (.cells #[.int .u64 0, .slice k4 n4 c4, .slice p4 q4 r4, .slice x4 y4 u4, .bool false] 30)).alloc (.cells #[.int .i64 5, .int .i64 1, .int .i64 1] 24)) (.cells #[.int .i64 3] 3))
  replace hs2 := hs2.ext (Ext.new ((w6.alloc (.cells #[.int .u64 0, .slice k4 n4 c4, .slice p4 q4 r4, .slice x4 y4 u4, .bool false] 30)).alloc (.cells #[.int .i64 5, .int .i64 1, .int .i64 1] 24)) (.cells #[.int .i64 3] 3))
  replace hr2 := hr2.ext (Ext.new ((w6.alloc (.cells #[.int .u64 0, .slice k4 n4 c4, .slice p4 q4 r4, .slice x4 y4 u4, .bool false] 30)).alloc (.cells #[.int .i64 5, .int .i64 1, .int .i64 1] 24)) (.cells #[.int .i64 3] 3))
  replace hs3 := hs3.ext (Ext.new ((w6.alloc (.cells #[.int .u64 0, .slice k4 n4 c4, .slice p4 q4 r4, .slice x4 y4 u4, .bool false] 30)).alloc (.cells #[.int .i64 5, .int .i64 1, .int .i64 1] 24)) (.cells #[.int .i64 3] 3))
  replace hr3 := hr3.ext (Ext.new ((w6.alloc (.cells #[.int .u64 0, .slice k4 n4 c4, .slice p4 q4 r4, .slice x4 y4 u4, .bool false] 30)).alloc (.cells #[.int .i64 5, .int .i64 1, .int .i64 1] 24)) (.cells #[.int .i64 3] 3))
  replace hs4 := hs4.ext (Ext.new ((w6.alloc (.cells #[.int .u64 0, .slice k4 n4 c4, .slice p4 q4 r4, .slice x4 y4 u4, .bool false] 30)).alloc (.cells #[.int .i64 5, .int .i64 1, .int .i64 1] 24)) (.cells #[.int .i64 3] 3))
  replace hb := hb.ext (Ext.new ((w6.alloc (.cells #[.int .u64 0, .slice k4 n4 c4, .slice p4 q4 r4, .slice x4 y4 u4, .bool false] 30)).alloc (.cells #[.int .i64 5, .int .i64 1, .int .i64 1] 24)) (.cells #[.int .i64 3] 3))
  replace S0 := S0.ext (Ext.new ((w6.alloc (.cells #[.int .u64 0, .slice k4 n4 c4, .slice p4 q4 r4, .slice x4 y4 u4, .bool false] 30)).alloc (.cells #[.int .i64 5, .int .i64 1, .int .i64 1] 24)) (.cells #[.int .i64 3] 3))
  replace S1 := S1.ext (Ext.new ((w6.alloc (.cells #[.int .u64 0, .slice k4 n4 c4, .slice p4 q4 r4, .slice x4 y4 u4, .bool false] 30)).alloc (.cells #[.int .i64 5, .int .i64 1, .int .i64 1] 24)) (.cells #[.int .i64 3] 3))
  replace S2 := S2.ext (Ext.new ((w6.alloc (.cells #[.int .u64 0, .slice k4 n4 c4, .slice p4 q4 r4, .slice x4 y4 u4, .bool false] 30)).alloc (.cells #[.int .i64 5, .int .i64 1, .int .i64 1] 24)) (.cells #[.int .i64 3] 3))
  replace S3 := S3.ext (Ext.new ((w6.alloc (.cells #[.int .u64 0, .slice k4 n4 c4, .slice p4 q4 r4, .slice x4 y4 u4, .bool false] 30)).alloc (.cells #[.int .i64 5, .int .i64 1, .int .i64 1] 24)) (.cells #[.int .i64 3] 3))
  replace O := O.ext (Ext.new ((w6.alloc (.cells #[.int .u64 0, .slice k4 n4 c4, .slice p4 q4 r4, .slice x4 y4 u4, .bool false] 30)).alloc (.cells #[.int .i64 5, .int .i64 1, .int .i64 1] 24)) (.cells #[.int .i64 3] 3))
  replace S4 := S4.ext (Ext.new ((w6.alloc (.cells #[.int .u64 0, .slice k4 n4 c4, .slice p4 q4 r4, .slice x4 y4 u4, .bool false] 30)).alloc (.cells #[.int .i64 5, .int .i64 1, .int .i64 1] 24)) (.cells #[.int .i64 3] 3))
  replace hE := hE.alloc (.cells #[.int .i64 3] 3)
  have hN : NS (((w6.alloc (.cells #[.int .u64 0, .slice k4 n4 c4, .slice p4 q4 r4, .slice x4 y4 u4, .bool false] 30)).alloc (.cells #[.int .i64 5, .int .i64 1, .int .i64 1] 24)).alloc (.cells #[.int .i64 3] 3)) (some ⟨w6.heap.size + 1 + 1, 0, none⟩) 1 1 [3] := by have := NS.lit ((w6.alloc (.cells #[.int .u64 0, .slice k4 n4 c4, .slice p4 q4 r4, .slice x4 y4 u4, .bool false] 30)).alloc (.cells #[.int .i64 5, .int .i64 1, .int .i64 1] 24)) 3 (by unfold I64; omega); simpa only [World.size_alloc] using this
  refine (HD4.out nilSl nilSl ⟨some ⟨w6.heap.size + 1 + 1, 0, none⟩, 1, 1⟩ _ ⟨(by unfold U64; decide : U64 0), WS.empty _ _ _ (by decide), WS.empty _ _ _ (by decide), hN⟩).mono ?_
  rintro e w7 ⟨hE1, ⟨k5, n5, c5⟩, ⟨p5, q5, r5⟩, ⟨x5, y5, u5⟩, rfl, S5⟩
  replace hc := hc.ext hE1
  replace hs0 := hs0.ext hE1
  replace hs1 := hs1.ext hE1
  replace hr1 := hr1.ext hE1
  replace hs2 := hs2.ext hE1
  replace hr2 := hr2.ext hE1
  replace hs3 := hs3.ext hE1
  replace hr3 := hr3.ext hE1
  replace hs4 := hs4.ext hE1
  replace hb := hb.ext hE1
  replace S0 := S0.ext hE1
  replace S1 := S1.ext hE1
  replace S2 := S2.ext hE1
  replace S3 := S3.ext hE1
  replace O := O.ext hE1
  replace S4 := S4.ext hE1
  replace hN := hN.ext hE1
  replace hE := hE.trans hE1
  clear hE1
  replace hc := hc.ext (Ext.new w7 (.cells #[.int .u64 0, .slice k5 n5 c5, .slice p5 q5 r5, .slice x5 y5 u5, .bool true] 30))
  replace hs0 := hs0.ext (Ext.new w7 (.cells #[.int .u64 0, .slice k5 n5 c5, .slice p5 q5 r5, .slice x5 y5 u5, .bool true] 30))
  replace hs1 := hs1.ext (Ext.new w7 (.cells #[.int .u64 0, .slice k5 n5 c5, .slice p5 q5 r5, .slice x5 y5 u5, .bool true] 30))
  replace hr1 := hr1.ext (Ext.new w7 (.cells #[.int .u64 0, .slice k5 n5 c5, .slice p5 q5 r5, .slice x5 y5 u5, .bool true] 30))
  replace hs2 := hs2.ext (Ext.new w7 (.cells #[.int .u64 0, .slice k5 n5 c5, .slice p5 q5 r5, .slice x5 y5 u5, .bool true] 30))
  replace hr2 := hr2.ext (Ext.new w7 (.cells #[.int .u64 0, .slice k5 n5 c5, .slice p5 q5 r5, .slice x5 y5 u5, .bool true] 30))
  replace hs3 := hs3.ext (Ext.new w7 (.cells #[.int .u64 0, .slice k5 n5 c5, .slice p5 q5 r5, .slice x5 y5 u5, .bool true] 30))
  replace hr3 := hr3.ext (Ext.new w7 (.cells #[.int .u64 0, .slice k5 n5 c5, .slice p5 q5 r5, .slice x5 y5 u5, .bool true] 30))
  replace hs4 := hs4.ext (Ext.new w7 (.cells #[.int .u64 0, .slice k5 n5 c5, .slice p5 q5 r5, .slice x5 y5 u5, .bool true] 30))
  replace hb := hb.ext (Ext.new w7 (.cells #[.int .u64 0, .slice k5 n5 c5, .slice p5 q5 r5, .slice x5 y5 u5, .bool true] 30))
  replace S0 := S0.ext (Ext.new w7 (.cells #[.int .u64 0, .slice k5 n5 c5, .slice p5 q5 r5, .slice x5 y5 u5, .bool true] 30))
  replace S1 := S1.ext (Ext.new w7 (.cells #[.int .u64 0, .slice k5 n5 c5, .slice p5 q5 r5, .slice x5 y5 u5, .bool true] 30))
  replace S2 := S2.ext (Ext.new w7 (.cells #[.int .u64 0, .slice k5 n5 c5, .slice p5 q5 r5, .slice x5 y5 u5, .bool true] 30))
  replace S3 := S3.ext (Ext.new w7 (.cells #[.int .u64 0, .slice k5 n5 c5, .slice p5 q5 r5, .slice x5 y5 u5, .bool true] 30))
  replace O := O.ext (Ext.new w7 (.cells #[.int .u64 0, .slice k5 n5 c5, .slice p5 q5 r5, .slice x5 y5 u5, .bool true] 30))
  replace S4 := S4.ext (Ext.new w7 (.cells #[.int .u64 0, .slice k5 n5 c5, .slice p5 q5 r5, .slice x5 y5 u5, .bool true] 30))
  replace hN := hN.ext (Ext.new w7 (.cells #[.int .u64 0, .slice k5 n5 c5, .slice p5 q5 r5, .slice x5 y5 u5, .bool true] 30))
  replace S5 := S5.ext (Ext.new w7 (.cells #[.int .u64 0, .slice k5 n5 c5, .slice p5 q5 r5, .slice x5 y5 u5, .bool true] 30))
  replace hE := hE.alloc (.cells #[.int .u64 0, .slice k5 n5 c5, .slice p5 q5 r5, .slice x5 y5 u5, .bool true] 30)
  have hs5 : Box (w7.alloc (.cells #[.int .u64 0, .slice k5 n5 c5, .slice p5 q5 r5, .slice x5 y5 u5, .bool true] 30)) (w7.heap.size) [.int .u64 0, .slice k5 n5 c5, .slice p5 q5 r5, .slice x5 y5 u5, .bool true] := by have := Box.new w7 [.int .u64 0, .slice k5 n5 c5, .slice p5 q5 r5, .slice x5 y5 u5, .bool true] 30; simpa only [World.size_alloc] using this
  replace hc := hc.ext (Ext.new (w7.alloc (.cells #[.int .u64 0, .slice k5 n5 c5, .slice p5 q5 r5, .slice x5 y5 u5, .bool true] 30)) (.cells #[.int .i64 14, .int .u64 0] 51))
  replace hs0 := hs0.ext (Ext.new (w7.alloc (.cells #[.int .u64 0, .slice k5 n5 c5, .slice p5 q5 r5, .slice x5 y5 u5, .bool true] 30)) (.cells #[.int .i64 14, .int .u64 0] 51))
  replace hs1 := hs1.ext (Ext.new (w7.alloc (.cells #[.int .u64 0, .slice k5 n5 c5, .slice p5 q5 r5, .slice x5 y5 u5, .bool true] 30)) (.cells #[.int .i64 14, .int .u64 0] 51))
  replace hr1 := hr1.ext (Ext.new (w7.alloc (.cells #[.int .u64 0, .slice k5 n5 c5, .slice p5 q5 r5, .slice x5 y5 u5, .bool true] 30)) (.cells #[.int .i64 14, .int .u64 0] 51))
  replace hs2 := hs2.ext (Ext.new (w7.alloc (.cells #[.int .u64 0, .slice k5 n5 c5, .slice p5 q5 r5, .slice x5 y5 u5, .bool true] 30)) (.cells #[.int .i64 14, .int .u64 0] 51))
  replace hr2 := hr2.ext (Ext.new (w7.alloc (.cells #[.int .u64 0, .slice k5 n5 c5, .slice p5 q5 r5, .slice x5 y5 u5, .bool true] 30)) (.cells #[.int .i64 14, .int .u64 0] 51))
  replace hs3 := hs3.ext (Ext.new (w7.alloc (.cells #[.int .u64 0, .slice k5 n5 c5, .slice p5 q5 r5, .slice x5 y5 u5, .bool true] 30)) (.cells #[.int .i64 14, .int .u64 0] 51))
  replace hr3 := hr3.ext (Ext.new (w7.alloc (.cells #[.int .u64 0, .slice k5 n5 c5, .slice p5 q5 r5, .slice x5 y5 u5, .bool true] 30)) (.cells #[.int .i64 14, .int .u64 0] 51))
  replace hs4 := hs4.ext (Ext.new (w7.alloc (.cells #[.int .u64 0, .slice k5 n5 c5, .slice p5 q5 r5, .slice x5 y5 u5, .bool true] 30)) (.cells #[.int .i64 14, .int .u64 0] 51))
  replace hb := hb.ext (Ext.new (w7.alloc (.cells #[.int .u64 0, .slice k5 n5 c5, .slice p5 q5 r5, .slice x5 y5 u5, .bool true] 30)) (.cells #[.int .i64 14, .int .u64 0] 51))
  replace hs5 := hs5.ext (Ext.new (w7.alloc (.cells #[.int .u64 0, .slice k5 n5 c5, .slice p5 q5 r5, .slice x5 y5 u5, .bool true] 30)) (.cells #[.int .i64 14, .int .u64 0] 51))
  replace S0 := S0.ext (Ext.new (w7.alloc (.cells #[.int .u64 0, .slice k5 n5 c5, .slice p5 q5 r5, .slice x5 y5 u5, .bool true] 30)) (.cells #[.int .i64 14, .int .u64 0] 51))
  replace S1 := S1.ext (Ext.new (w7.alloc (.cells #[.int .u64 0, .slice k5 n5 c5, .slice p5 q5 r5, .slice x5 y5 u5, .bool true] 30)) (.cells #[.int .i64 14, .int .u64 0] 51))
  replace S2 := S2.ext (Ext.new (w7.alloc (.cells #[.int .u64 0, .slice k5 n5 c5, .slice p5 q5 r5, .slice x5 y5 u5, .bool true] 30)) (.cells #[.int .i64 14, .int .u64 0] 51))
  replace S3 := S3.ext (Ext.new (w7.alloc (.cells #[.int .u64 0, .slice k5 n5 c5, .slice p5 q5 r5, .slice x5 y5 u5, .bool true] 30)) (.cells #[.int .i64 14, .int .u64 0] 51))
  replace O := O.ext (Ext.new (w7.alloc (.cells #[.int .u64 0, .slice k5 n5 c5, .slice p5 q5 r5, .slice x5 y5 u5, .bool true] 30)) (.cells #[.int .i64 14, .int .u64 0] 51))
  replace S4 := S4.ext (Ext.new (w7.alloc (.cells #[.int .u64 0, .slice k5 n5 c5, .slice p5 q5 r5, .slice x5 y5 u5, .bool true] 30)) (.cells #[.int .i64 14, .int .u64 0] 51))
  replace hN := hN.ext (Ext.new (w7.alloc (.cells #[.int .u64 0, .slice k5 n5 c5, .slice p5 q5 r5, .slice x5 y5 u5, .bool true] 30)) (.cells #[.int .i64 14, .int .u64 0] 51))
  replace S5 := S5.ext (Ext.new (w7.alloc (.cells #[.int .u64 0, .slice k5 n5 c5, .slice p5 q5 r5, .slice x5 y5 u5, .bool true] 30)) (.cells #[.int .i64 14, .int .u64 0] 51))
  replace hE := hE.alloc (.cells #[.int .i64 14, .int .u64 0] 51)
  have hr5 : Box ((w7.alloc (.cells #[.int .u64 0, .slice k5 n5 c5, .slice p5 q5 r5, .slice x5 y5 u5, .bool true] 30)).alloc (.cells #[.int .i64 14, .int .u64 0] 51)) (w7.heap.size + 1) [.int .i64 14, .int .u64 0] := by have := Box.new (w7.alloc (.cells #[.int .u64 0, .slice k5 n5 c5, .slice p5 q5 r5, .slice x5 y5 u5, .bool true] 30)) [.int .i64 14, .int .u64 0] 51; simpa only [World.size_alloc] using this
  obtain ⟨zb, b0, b1, b2⟩ := hb.three
  replace S0 := Lib.hid S0
  replace S1 := Lib.hid S1
  replace S2 := Lib.hid S2
  replace S3 := Lib.hid S3
  replace O := Lib.hid O
  replace S4 := Lib.hid S4
  replace hN := Lib.hid hN
  replace S5 := Lib.hid S5
  replace hc := Lib.hid hc
  replace hs0 := Lib.hid hs0
  replace hs1 := Lib.hid hs1
  replace hr1 := Lib.hid hr1
  replace hs2 := Lib.hid hs2
  replace hr2 := Lib.hid hr2
  replace hs3 := Lib.hid hs3
  replace hr3 := Lib.hid hr3
  replace hs4 := Lib.hid hs4
  replace hb := Lib.hid hb
  replace hs5 := Lib.hid hs5
  replace hr5 := Lib.hid hr5
  go_wp2_with (fail)
  replace S0 := S0.out
  replace S1 := S1.out
  replace S2 := S2.out
  replace S3 := S3.out
  replace O := O.out
  replace S4 := S4.out
  replace hN := hN.out
  replace S5 := S5.out
  replace hc := hc.out
  replace hs0 := hs0.out
  replace hs1 := hs1.out
  replace hr1 := hr1.out
  replace hs2 := hs2.out
  replace hr2 := hr2.out
  replace hs3 := hs3.out
  replace hr3 := hr3.out
  replace hs4 := hs4.out
  replace hb := hb.out
  replace hs5 := hs5.out
  replace hr5 := hr5.out
  clear zb b0 b1 b2
  refine (HProbe.out _).mono ?_
  rintro e w8 ⟨rfl, hE1⟩
  replace hc := hc.ext hE1
  replace hs0 := hs0.ext hE1
  replace hs1 := hs1.ext hE1
  replace hr1 := hr1.ext hE1
  replace hs2 := hs2.ext hE1
  replace hr2 := hr2.ext hE1
  replace hs3 := hs3.ext hE1
  replace hr3 := hr3.ext hE1
  replace hs4 := hs4.ext hE1
  replace hb := hb.ext hE1
  replace hs5 := hs5.ext hE1
  replace hr5 := hr5.ext hE1
  replace S0 := S0.ext hE1
  replace S1 := S1.ext hE1
  replace S2 := S2.ext hE1
  replace S3 := S3.ext hE1
  replace O := O.ext hE1
  replace S4 := S4.ext hE1
  replace hN := hN.ext hE1
  replace S5 := S5.ext hE1
  replace hE := hE.trans hE1
  clear hE1
  replace hc := hc.ext (Ext.new w8 (.cells #[.int .i64 16, .int .u64 0, .int .u64 0] 32))
  replace hs0 := hs0.ext (Ext.new w8 (.cells #[.int .i64 16, .int .u64 0, .int .u64 0] 32))
  replace hs1 := hs1.ext (Ext.new w8 (.cells #[.int .i64 16, .int .u64 0, .int .u64 0] 32))
  replace hr1 := hr1.ext (Ext.new w8 (.cells #[.int .i64 16, .int .u64 0, .int .u64 0] 32))
  replace hs2 := hs2.ext (Ext.new w8 (.cells #[.int .i64 16, .int .u64 0, .int .u64 0] 32))
  replace hr2 := hr2.ext (Ext.new w8 (.cells #[.int .i64 16, .int .u64 0, .int .u64 0] 32))
  replace hs3 := hs3.ext (Ext.new w8 (.cells #[.int .i64 16, .int .u64 0, .int .u64 0] 32))
  replace hr3 := hr3.ext (Ext.new w8 (.cells #[.int .i64 16, .int .u64 0, .int .u64 0] 32))
  replace hs4 := hs4.ext (Ext.new w8 (.cells #[.int .i64 16, .int .u64 0, .int .u64 0] 32))
  replace hb := hb.ext (Ext.new w8 (.cells #[.int .i64 16, .int .u64 0, .int .u64 0] 32))
  replace hs5 := hs5.ext (Ext.new w8 (.cells #[.int .i64 16, .int .u64 0, .int .u64 0] 32))
  replace hr5 := hr5.ext (Ext.new w8 (.cells #[.int .i64 16, .int .u64 0, .int .u64 0] 32))
  replace S0 := S0.ext (Ext.new w8 (.cells #[.int .i64 16, .int .u64 0, .int .u64 0] 32))
  replace S1 := S1.ext (Ext.new w8 (.cells #[.int .i64 16, .int .u64 0, .int .u64 0] 32))
  replace S2 := S2.ext (Ext.new w8 (.cells #[.int .i64 16, .int .u64 0, .int .u64 0] 32))
  replace S3 := S3.ext (Ext.new w8 (.cells #[.int .i64 16, .int .u64 0, .int .u64 0] 32))
  replace O := O.ext (Ext.new w8 (.cells #[.int .i64 16, .int .u64 0, .int .u64 0] 32))
  replace S4 := S4.ext (Ext.new w8 (.cells #[.int .i64 16, .int .u64 0, .int .u64 0] 32))
  replace hN := hN.ext (Ext.new w8 (.cells #[.int .i64 16, .int .u64 0, .int .u64 0] 32))
  replace S5 := S5.ext (Ext.new w8 (.cells #[.int .i64 16, .int .u64 0, .int .u64 0] 32))
  replace hE := hE.alloc (.cells #[.int .i64 16, .int .u64 0, .int .u64 0] 32)
  have ho : Box (w8.alloc (.cells #[.int .i64 16, .int .u64 0, .int .u64 0] 32)) (w8.heap.size) [.int .i64 16, .int .u64 0, .int .u64 0] := by have := Box.new w8 [.int .i64 16, .int .u64 0, .int .u64 0] 32; simpa only [World.size_alloc] using this
  obtain ⟨zr1, r10, r11⟩ := hr1.two
  obtain ⟨zr2, r20, r21⟩ := hr2.two
  obtain ⟨zr3, r30, r31⟩ := hr3.two
  replace S0 := Lib.hid S0
  replace S1 := Lib.hid S1
  replace S2 := Lib.hid S2
  replace S3 := Lib.hid S3
  replace O := Lib.hid O
  replace S4 := Lib.hid S4
  replace hN := Lib.hid hN
  replace S5 := Lib.hid S5
  replace hc := Lib.hid hc
  replace hs0 := Lib.hid hs0
  replace hs1 := Lib.hid hs1
  replace hr1 := Lib.hid hr1
  replace hs2 := Lib.hid hs2
  replace hr2 := Lib.hid hr2
  replace hs3 := Lib.hid hs3
  replace hr3 := Lib.hid hr3
  replace hs4 := Lib.hid hs4
  replace hb := Lib.hid hb
  replace hs5 := Lib.hid hs5
  replace hr5 := Lib.hid hr5
  replace ho := Lib.hid ho
  go_wp2_with (fail)
  replace S0 := S0.out
  replace S1 := S1.out
  replace S2 := S2.out
  replace S3 := S3.out
  replace O := O.out
  replace S4 := S4.out
  replace hN := hN.out
  replace S5 := S5.out
  replace hc := hc.out
  replace hs0 := hs0.out
  replace hs1 := hs1.out
  replace hr1 := hr1.out
  replace hs2 := hs2.out
  replace hr2 := hr2.out
  replace hs3 := hs3.out
  replace hr3 := hr3.out
  replace hs4 := hs4.out
  replace hb := hb.out
  replace hs5 := hs5.out
  replace hr5 := hr5.out
  replace ho := ho.out
  clear zr1 r10 r11
  clear zr2 r20 r21
  clear zr3 r30 r31
  replace hc := hc.ext (Ext.new (w8.alloc (.cells #[.int .i64 16, .int .u64 0, .int .u64 0] 32)) (.cells #[.int .i64 0, .int .u64 0, .int .i64 0, .int .u64 7, .int .i64 12, .int .u64 0] 51))
  replace hs0 := hs0.ext (Ext.new (w8.alloc (.cells #[.int .i64 16, .int .u64 0, .int .u64 0] 32)) (.cells #[.int .i64 0, .int .u64 0, .int .i64 0, .int .u64 7, .int .i64 12, .int .u64 0] 51))
  replace hs1 := hs1.ext (Ext.new (w8.alloc (.cells #[.int .i64 16, .int .u64 0, .int .u64 0] 32)) (.cells #[.int .i64 0, .int .u64 0, .int .i64 0, .int .u64 7, .int .i64 12, .int .u64 0] 51))
  replace hr1 := hr1.ext (Ext.new (w8.alloc (.cells #[.int .i64 16, .int .u64 0, .int .u64 0] 32)) (.cells #[.int .i64 0, .int .u64 0, .int .i64 0, .int .u64 7, .int .i64 12, .int .u64 0] 51))
  replace hs2 := hs2.ext (Ext.new (w8.alloc (.cells #[.int .i64 16, .int .u64 0, .int .u64 0] 32)) (.cells #[.int .i64 0, .int .u64 0, .int .i64 0, .int .u64 7, .int .i64 12, .int .u64 0] 51))
  replace hr2 := hr2.ext (Ext.new (w8.alloc (.cells #[.int .i64 16, .int .u64 0, .int .u64 0] 32)) (.cells #[.int .i64 0, .int .u64 0, .int .i64 0, .int .u64 7, .int .i64 12, .int .u64 0] 51))
  replace hs3 := hs3.ext (Ext.new (w8.alloc (.cells #[.int .i64 16, .int .u64 0, .int .u64 0] 32)) (.cells #[.int .i64 0, .int .u64 0, .int .i64 0, .int .u64 7, .int .i64 12, .int .u64 0] 51))
  replace hr3 := hr3.ext (Ext.new (w8.alloc (.cells #[.int .i64 16, .int .u64 0, .int .u64 0] 32)) (.cells #[.int .i64 0, .int .u64 0, .int .i64 0, .int .u64 7, .int .i64 12, .int .u64 0] 51))
  replace hs4 := hs4.ext (Ext.new (w8.alloc (.cells #[.int .i64 16, .int .u64 0, .int .u64 0] 32)) (.cells #[.int .i64 0, .int .u64 0, .int .i64 0, .int .u64 7, .int .i64 12, .int .u64 0] 51))
  replace hb := hb.ext (Ext.new (w8.alloc (.cells #[.int .i64 16, .int .u64 0, .int .u64 0] 32)) (.cells #[.int .i64 0, .int .u64 0, .int .i64 0, .int .u64 7, .int .i64 12, .int .u64 0] 51))
  replace hs5 := hs5.ext (Ext.new (w8.alloc (.cells #[.int .i64 16, .int .u64 0, .int .u64 0] 32)) (.cells #[.int .i64 0, .int .u64 0, .int .i64 0, .int .u64 7, .int .i64 12, .int .u64 0] 51))
  replace hr5 := hr5.ext (Ext.new (w8.alloc (.cells #[.int .i64 16, .int .u64 0, .int .u64 0] 32)) (.cells #[.int .i64 0, .int .u64 0, .int .i64 0, .int .u64 7, .int .i64 12, .int .u64 0] 51))
  replace ho := ho.ext (Ext.new (w8.alloc (.cells #[.int .i64 16, .int .u64 0, .int .u64 0] 32)) (.cells #[.int .i64 0, .int .u64 0, .int .i64 0, .int .u64 7, .int .i64 12, .int .u64 0] 51))
  replace S0 := S0.ext (Ext.new (w8.alloc (.cells #[.int .i64 16, .int .u64 0, .int .u64 0] 32)) (.cells #[.int .i64 0, .int .u64 0, .int .i64 0, .int .u64 7, .int .i64 12, .int .u64 0] 51))
  replace S1 := S1.ext (Ext.new (w8.alloc (.cells #[.int .i64 16, .int .u64 0, .int .u64 0] 32)) (.cells #[.int .i64 0, .int .u64 0, .int .i64 0, .int .u64 7, .int .i64 12, .int .u64 0] 51))
  replace S2 := S2.ext (Ext.new (w8.alloc (.cells #[.int .i64 16, .int .u64 0, .int .u64 0] 32)) (.cells #[.int .i64 0, .int .u64 0, .int .i64 0, .int .u64 7, .int .i64 12, .int .u64 0] 51))
  replace S3 := S3.ext (Ext.new (w8.alloc (.cells #[.int .i64 16, .int .u64 0, .int .u64 0] 32)) (.cells #[.int .i64 0, .int .u64 0, .int .i64 0, .int .u64 7, .int .i64 12, .int .u64 0] 51))
  replace O := O.ext (Ext.new (w8.alloc (.cells #[.int .i64 16, .int .u64 0, .int .u64 0] 32)) (.cells #[.int .i64 0, .int .u64 0, .int .i64 0, .int .u64 7, .int .i64 12, .int .u64 0] 51))
  replace S4 := S4.ext (Ext.new (w8.alloc (.cells #[.int .i64 16, .int .u64 0, .int .u64 0] 32)) (.cells #[.int .i64 0, .int .u64 0, .int .i64 0, .int .u64 7, .int .i64 12, .int .u64 0] 51))
  replace hN := hN.ext (Ext.new (w8.alloc (.cells #[.int .i64 16, .int .u64 0, .int .u64 0] 32)) (.cells #[.int .i64 0, .int .u64 0, .int .i64 0, .int .u64 7, .int .i64 12, .int .u64 0] 51))
  replace S5 := S5.ext (Ext.new (w8.alloc (.cells #[.int .i64 16, .int .u64 0, .int .u64 0] 32)) (.cells #[.int .i64 0, .int .u64 0, .int .i64 0, .int .u64 7, .int .i64 12, .int .u64 0] 51))
  replace hE := hE.alloc (.cells #[.int .i64 0, .int .u64 0, .int .i64 0, .int .u64 7, .int .i64 12, .int .u64 0] 51)
  have hR : RS ((w8.alloc (.cells #[.int .i64 16, .int .u64 0, .int .u64 0] 32)).alloc (.cells #[.int .i64 0, .int .u64 0, .int .i64 0, .int .u64 7, .int .i64 12, .int .u64 0] 51)) (some ⟨w8.heap.size + 1, 0, none⟩) 3 3 out1 := by have := RS.row (w8.alloc (.cells #[.int .i64 16, .int .u64 0, .int .u64 0] 32)) out1 3 rfl (by decide) (by intro x hx; unfold out1 at hx; simp only [List.mem_cons, List.not_mem_nil, or_false] at hx; unfold Ir I64 U64; rcases hx with rfl | rfl | rfl <;> decide) #[.int .i64 0, .int .u64 0, .int .i64 0, .int .u64 7, .int .i64 12, .int .u64 0] rfl; simpa only [World.size_alloc] using this
  dsimp only [out1] at hR
  refine (told_any _ _ _ _ _ _ _ _ true _ O hR (Lib.hid (by decide))).mono ?_
  rintro e w9 ⟨rfl, q9, rfl⟩
  have hE1 := Ext.draws ((w8.alloc (.cells #[.int .i64 16, .int .u64 0, .int .u64 0] 32)).alloc (.cells #[.int .i64 0, .int .u64 0, .int .i64 0, .int .u64 7, .int .i64 12, .int .u64 0] 51)) q9
  replace hc := hc.ext hE1
  replace hs0 := hs0.ext hE1
  replace hs1 := hs1.ext hE1
  replace hr1 := hr1.ext hE1
  replace hs2 := hs2.ext hE1
  replace hr2 := hr2.ext hE1
  replace hs3 := hs3.ext hE1
  replace hr3 := hr3.ext hE1
  replace hs4 := hs4.ext hE1
  replace hb := hb.ext hE1
  replace hs5 := hs5.ext hE1
  replace hr5 := hr5.ext hE1
  replace ho := ho.ext hE1
  replace S0 := S0.ext hE1
  replace S1 := S1.ext hE1
  replace S2 := S2.ext hE1
  replace S3 := S3.ext hE1
  replace O := O.ext hE1
  replace S4 := S4.ext hE1
  replace hN := hN.ext hE1
  replace S5 := S5.ext hE1
  replace hR := hR.ext hE1
  replace hE := hE.trans hE1
  clear hE1
  obtain ⟨zs4, s40, s41, s42, s43, s44⟩ := hs4.five
  obtain ⟨zs1, s10, s11, s12, s13, s14⟩ := hs1.five
  replace S0 := Lib.hid S0
  replace S1 := Lib.hid S1
  replace S2 := Lib.hid S2
  replace S3 := Lib.hid S3
  replace O := Lib.hid O
  replace S4 := Lib.hid S4
  replace hN := Lib.hid hN
  replace S5 := Lib.hid S5
  replace hR := Lib.hid hR
  replace hc := Lib.hid hc
  replace hs0 := Lib.hid hs0
  replace hs1 := Lib.hid hs1
  replace hr1 := Lib.hid hr1
  replace hs2 := Lib.hid hs2
  replace hr2 := Lib.hid hr2
  replace hs3 := Lib.hid hs3
  replace hr3 := Lib.hid hr3
  replace hs4 := Lib.hid hs4
  replace hb := Lib.hid hb
  replace hs5 := Lib.hid hs5
  replace hr5 := Lib.hid hr5
  replace ho := Lib.hid ho
  go_wp2_with (fail)
  replace S0 := S0.out
  replace S1 := S1.out
  replace S2 := S2.out
  replace S3 := S3.out
  replace O := O.out
  replace S4 := S4.out
  replace hN := hN.out
  replace S5 := S5.out
  replace hR := hR.out
  replace hc := hc.out
  replace hs0 := hs0.out
  replace hs1 := hs1.out
  replace hr1 := hr1.out
  replace hs2 := hs2.out
  replace hr2 := hr2.out
  replace hs3 := hs3.out
  replace hr3 := hr3.out
  replace hs4 := hs4.out
  replace hb := hb.out
  replace hs5 := hs5.out
  replace hr5 := hr5.out
  replace ho := ho.out
  clear zs4 s40 s41 s42 s43 s44
  clear zs1 s10 s11 s12 s13 s14
  refine (same_any ⟨k4, n4, c4⟩ ⟨p4, q4, r4⟩ ⟨x4, y4, u4⟩ ⟨k1, n1, c1⟩ ⟨p1, q1, r1⟩ ⟨x1, y1, u1⟩ ⟨0, [0], [7], [], false⟩ ⟨0, [0], [7], [], false⟩ true _ S4 S1 (Lib.hid (by decide))).mono ?_
  rintro e w10 ⟨rfl, hE1⟩
  replace hc := hc.ext hE1
  replace hs0 := hs0.ext hE1
  replace hs1 := hs1.ext hE1
  replace hr1 := hr1.ext hE1
  replace hs2 := hs2.ext hE1
  replace hr2 := hr2.ext hE1
  replace hs3 := hs3.ext hE1
  replace hr3 := hr3.ext hE1
  replace hs4 := hs4.ext hE1
  replace hb := hb.ext hE1
  replace hs5 := hs5.ext hE1
  replace hr5 := hr5.ext hE1
  replace ho := ho.ext hE1
  replace S0 := S0.ext hE1
  replace S1 := S1.ext hE1
  replace S2 := S2.ext hE1
  replace S3 := S3.ext hE1
  replace O := O.ext hE1
  replace S4 := S4.ext hE1
  replace hN := hN.ext hE1
  replace S5 := S5.ext hE1
  replace hR := hR.ext hE1
  replace hE := hE.trans hE1
  clear hE1
  obtain ⟨zr5, r50, r51⟩ := hr5.two
  obtain ⟨zo, o0, o1, o2⟩ := ho.three
  obtain ⟨zc, c0, c1, c2⟩ := hc.three
  obtain ⟨zs1, s10, s11, s12, s13, s14⟩ := hs1.five
  replace S0 := Lib.hid S0
  replace S1 := Lib.hid S1
  replace S2 := Lib.hid S2
  replace S3 := Lib.hid S3
  replace O := Lib.hid O
  replace S4 := Lib.hid S4
  replace hN := Lib.hid hN
  replace S5 := Lib.hid S5
  replace hR := Lib.hid hR
  replace hc := Lib.hid hc
  replace hs0 := Lib.hid hs0
  replace hs1 := Lib.hid hs1
  replace hr1 := Lib.hid hr1
  replace hs2 := Lib.hid hs2
  replace hr2 := Lib.hid hr2
  replace hs3 := Lib.hid hs3
  replace hr3 := Lib.hid hr3
  replace hs4 := Lib.hid hs4
  replace hb := Lib.hid hb
  replace hs5 := Lib.hid hs5
  replace hr5 := Lib.hid hr5
  replace ho := Lib.hid ho
  go_wp2_with (fail)
  replace S0 := S0.out
  replace S1 := S1.out
  replace S2 := S2.out
  replace S3 := S3.out
  replace O := O.out
  replace S4 := S4.out
  replace hN := hN.out
  replace S5 := S5.out
  replace hR := hR.out
  replace hc := hc.out
  replace hs0 := hs0.out
  replace hs1 := hs1.out
  replace hr1 := hr1.out
  replace hs2 := hs2.out
  replace hr2 := hr2.out
  replace hs3 := hs3.out
  replace hr3 := hr3.out
  replace hs4 := hs4.out
  replace hb := hb.out
  replace hs5 := hs5.out
  replace hr5 := hr5.out
  replace ho := ho.out
  clear zr5 r50 r51
  clear zo o0 o1 o2
  clear zc c0 c1 c2
  clear zs1 s10 s11 s12 s13 s14
  refine (HRight.out _ _ _ _ S1).mono ?_
  rintro e w11 ⟨rfl, hE1⟩
  replace hc := hc.ext hE1
  replace hs0 := hs0.ext hE1
  replace hs1 := hs1.ext hE1
  replace hr1 := hr1.ext hE1
  replace hs2 := hs2.ext hE1
  replace hr2 := hr2.ext hE1
  replace hs3 := hs3.ext hE1
  replace hr3 := hr3.ext hE1
  replace hs4 := hs4.ext hE1
  replace hb := hb.ext hE1
  replace hs5 := hs5.ext hE1
  replace hr5 := hr5.ext hE1
  replace ho := ho.ext hE1
  replace S0 := S0.ext hE1
  replace S1 := S1.ext hE1
  replace S2 := S2.ext hE1
  replace S3 := S3.ext hE1
  replace O := O.ext hE1
  replace S4 := S4.ext hE1
  replace hN := hN.ext hE1
  replace S5 := S5.ext hE1
  replace hR := hR.ext hE1
  replace hE := hE.trans hE1
  clear hE1
  replace S0 := Lib.hid S0
  replace S1 := Lib.hid S1
  replace S2 := Lib.hid S2
  replace S3 := Lib.hid S3
  replace O := Lib.hid O
  replace S4 := Lib.hid S4
  replace hN := Lib.hid hN
  replace S5 := Lib.hid S5
  replace hR := Lib.hid hR
  replace hc := Lib.hid hc
  replace hs0 := Lib.hid hs0
  replace hs1 := Lib.hid hs1
  replace hr1 := Lib.hid hr1
  replace hs2 := Lib.hid hs2
  replace hr2 := Lib.hid hr2
  replace hs3 := Lib.hid hs3
  replace hr3 := Lib.hid hr3
  replace hs4 := Lib.hid hs4
  replace hb := Lib.hid hb
  replace hs5 := Lib.hid hs5
  replace hr5 := Lib.hid hr5
  replace ho := Lib.hid ho
  go_wp2_with (fail)
  replace S0 := S0.out
  replace S1 := S1.out
  replace S2 := S2.out
  replace S3 := S3.out
  replace O := O.out
  replace S4 := S4.out
  replace hN := hN.out
  replace S5 := S5.out
  replace hR := hR.out
  replace hc := hc.out
  replace hs0 := hs0.out
  replace hs1 := hs1.out
  replace hr1 := hr1.out
  replace hs2 := hs2.out
  replace hr2 := hr2.out
  replace hs3 := hs3.out
  replace hr3 := hr3.out
  replace hs4 := hs4.out
  replace hb := hb.out
  replace hs5 := hs5.out
  replace hr5 := hr5.out
  replace ho := ho.out
  refine (HR5.out _).mono ?_
  rintro e w12 ⟨rfl, rfl⟩
  replace S0 := Lib.hid S0
  replace S1 := Lib.hid S1
  replace S2 := Lib.hid S2
  replace S3 := Lib.hid S3
  replace O := Lib.hid O
  replace S4 := Lib.hid S4
  replace hN := Lib.hid hN
  replace S5 := Lib.hid S5
  replace hR := Lib.hid hR
  replace hc := Lib.hid hc
  replace hs0 := Lib.hid hs0
  replace hs1 := Lib.hid hs1
  replace hr1 := Lib.hid hr1
  replace hs2 := Lib.hid hs2
  replace hr2 := Lib.hid hr2
  replace hs3 := Lib.hid hs3
  replace hr3 := Lib.hid hr3
  replace hs4 := Lib.hid hs4
  replace hb := Lib.hid hb
  replace hs5 := Lib.hid hs5
  replace hr5 := Lib.hid hr5
  replace ho := Lib.hid ho
  go_wp2_with (fail)
  replace S0 := S0.out
  replace S1 := S1.out
  replace S2 := S2.out
  replace S3 := S3.out
  replace O := O.out
  replace S4 := S4.out
  replace hN := hN.out
  replace S5 := S5.out
  replace hR := hR.out
  replace hc := hc.out
  replace hs0 := hs0.out
  replace hs1 := hs1.out
  replace hr1 := hr1.out
  replace hs2 := hs2.out
  replace hr2 := hr2.out
  replace hs3 := hs3.out
  replace hr3 := hr3.out
  replace hs4 := hs4.out
  replace hb := hb.out
  replace hs5 := hs5.out
  replace hr5 := hr5.out
  replace ho := ho.out
  refine (HR6.out _).mono ?_
  rintro e w13 ⟨rfl, rfl⟩
  replace S0 := Lib.hid S0
  replace S1 := Lib.hid S1
  replace S2 := Lib.hid S2
  replace S3 := Lib.hid S3
  replace O := Lib.hid O
  replace S4 := Lib.hid S4
  replace hN := Lib.hid hN
  replace S5 := Lib.hid S5
  replace hR := Lib.hid hR
  replace hc := Lib.hid hc
  replace hs0 := Lib.hid hs0
  replace hs1 := Lib.hid hs1
  replace hr1 := Lib.hid hr1
  replace hs2 := Lib.hid hs2
  replace hr2 := Lib.hid hr2
  replace hs3 := Lib.hid hs3
  replace hr3 := Lib.hid hr3
  replace hs4 := Lib.hid hs4
  replace hb := Lib.hid hb
  replace hs5 := Lib.hid hs5
  replace hr5 := Lib.hid hr5
  replace ho := Lib.hid ho
  go_wp2_with (fail)
  replace S0 := S0.out
  replace S1 := S1.out
  replace S2 := S2.out
  replace S3 := S3.out
  replace O := O.out
  replace S4 := S4.out
  replace hN := hN.out
  replace S5 := S5.out
  replace hR := hR.out
  replace hc := hc.out
  replace hs0 := hs0.out
  replace hs1 := hs1.out
  replace hr1 := hr1.out
  replace hs2 := hs2.out
  replace hr2 := hr2.out
  replace hs3 := hs3.out
  replace hr3 := hr3.out
  replace hs4 := hs4.out
  replace hb := hb.out
  replace hs5 := hs5.out
  replace hr5 := hr5.out
  replace ho := ho.out
  go_ret
  exact ⟨rfl, hE⟩

end Go.Proofs.YtdipddnnckfnmaaGreat.Law

