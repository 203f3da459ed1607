/-
  Parts of a proof, one behind the other: AutDo. Each says its own conditions.
-/
import Derived.Test.YtmonkcekkhfafaaGreatDoorM10
import Derived.Test.YtmonkcekkhfafaaGreatDoorM14

/- AutDo:
  What the document's Do answers. Conditions: integers' bounds; the state's slices are there.
-/
namespace Go.Proofs.YtmonkcekkhfafaaGreatDoor.Aut
open Go.RowKit (Below intOf)
open Reg (cf bx)

/-- What Do answers. -/
def DoR (x : St × Rs × Int) (w : World) (e : Ending) (w' : World) : Prop := Ext w w' ∧ ∃ k v t, e = .returned (.tuple #[sv x.1.reg k v t x.1.closed, rv x.2.1.1 x.2.1.2, .int .i64 x.2.2]) ∧ SS w' k v t x.1 ∧ ∀ B, B < w.heap.size → OffS k v t B
theorem off_nil (B : Nat) : OffS nilSl nilSl nilSl B := ⟨fun h => absurd h (Nat.lt_irrefl 0), fun h => absurd h (Nat.lt_irrefl 0), fun h => absurd h (Nat.lt_irrefl 0)⟩
/-- Its boxes. -/
structure DBx (w0 W : World) (k p m r : Int) (a v t : Sl) (cl : Bool) (oc ok ol : Int) : Prop where
  c : Cb W w0.heap.size [.int .i64 k, .int .i64 p, .int .i64 m]
  s : Cb W (w0.heap.size + 1) (sc r a v t cl)
  o : Cb W (w0.heap.size + 1 + 1) [.int .i64 oc, .int .u64 ok, .int .u64 ol]
  x : Cb W (w0.heap.size + 1 + 1 + 1) (sc 0 nilSl nilSl nilSl false)
  y : Cb W (w0.heap.size + 1 + 1 + 1 + 1) [.int .i64 0, .int .u64 0]
theorem DBx.ext {w0 w w' : World} {k p m r : Int} {a v t : Sl} {cl : Bool} {oc ok ol : Int} (h : DBx w0 w k p m r a v t cl oc ok ol) (e : Ext w w') : DBx w0 w' k p m r a v t cl oc ok ol := ⟨h.c.ext e, h.s.ext e, h.o.ext e, h.x.ext e, h.y.ext e⟩
abbrev dW (w : World) (k p m r : Int) (a v t : Sl) (cl : Bool) (oc ok ol : Int) : World := ((((w.alloc (bx k p m)).alloc (sb r a v t cl)).alloc (.cells #[.int .i64 oc, .int .u64 ok, .int .u64 ol] 67)).alloc (sb 0 nilSl nilSl nilSl false)).alloc (.cells #[.int .i64 0, .int .u64 0] 63)
theorem dbx_new (w : World) (k p m r : Int) (a v t : Sl) (cl : Bool) (oc ok ol : Int) : DBx w (dW w k p m r a v t cl oc ok ol) k p m r a v t cl oc ok ol := by
  refine ⟨?_, ?_, ?_, ?_, ?_⟩ <;> repeat (first | ((with_reducible refine Cb.at _ rfl ?_); (simp; done)) | with_reducible refine Cb.alloc ?_ _)

set_option maxHeartbeats 4000000 in
set_option maxRecDepth 100000 in
theorem rdo_fit (k p m : Int) (a v t : Sl) (s : St) (o : Cl) (w : World) (hf : fits k p m = false) : Calls Tryz.prog 27 #[cf k p m, sv s.reg a v t s.closed, ov o] w (DoR (zeroS, (0, 0), 5) w) := by
  obtain ⟨oc, ok, ol⟩ := o
  have HFi : RowKit.Hid (∀ W, _) := Lib.hid (fun W => Reg.rfits_any k p m W)
  rw [show Reg.fits k p m = false from hf] at HFi
  clear hf
  dsimp only [cf, bx, sv, ov] at *
  go_enter Tryz.func27, Tryz.ntmps27
  go_wp2_with (first | (go_at_call 30; (with_reducible refine (HFi.out _).mono ?_); rintro e w' ⟨rfl, rfl⟩))
  refine bodyPost_ret (v := .tuple #[sv 0 nilSl nilSl nilSl false, rv 0 0, .int .i64 5]) (by simp [results, Tryz.results27, go_sem]) rfl ?_
  exact ⟨by repeat (first | with_reducible exact Ext.refl _ | with_reducible refine Ext.alloc ?_ _ | with_reducible refine Ext.setCell ?_ (by simp only [World.size_alloc]; omega) _), nilSl, nilSl, nilSl, rfl, ss_zero _, fun B _ => off_nil B⟩
set_option maxHeartbeats 4000000 in
set_option maxRecDepth 100000 in
theorem rdo_arg (k p m : Int) (a v t : Sl) (s : St) (o : Cl) (w : World) (hm : I64 m) (hS : SS w a v t s) (hf : fits k p m = true) (hR : rightS k p m s = false) : Calls Tryz.prog 27 #[cf k p m, sv s.reg a v t s.closed, ov o] w (DoR (zeroS, (0, 0), 1) w) := by
  obtain ⟨oc, ok, ol⟩ := o
  have X0 : RowKit.Hid (Ext w (dW w k p m s.reg a v t s.closed oc ok ol)) := Lib.hid (((((Ext.new w _).alloc _).alloc _).alloc _).alloc _)
  have D0 := Lib.hid (dbx_new w k p m s.reg a v t s.closed oc ok ol)
  have HFi : RowKit.Hid (∀ W, _) := Lib.hid (fun W => Reg.rfits_any k p m W)
  have HRi : RowKit.Hid (∀ W, Ext w W → _) := Lib.hid (fun W e => rright_any k p m a v t s W hm (hS.ext e))
  rw [show Reg.fits k p m = true from hf] at HFi
  rw [hR] at HRi
  obtain ⟨y0, y1⟩ := ((D0.out.y.alloc (bx k p m)).two)
  clear hf hR hS hm y0 y1
  dsimp only [cf, bx, sv, ov] at *
  go_enter Tryz.func27, Tryz.ntmps27
  go_wp2_with (first
    | (go_at_call 30; (with_reducible refine (HFi.out _).mono ?_); rintro e w' ⟨rfl, rfl⟩)
    | (go_at_call 31; (with_reducible refine (HRi.out _ (by repeat (first | with_reducible exact X0.out | with_reducible refine Ext.alloc ?_ _))).mono ?_); rintro e w1 ⟨rfl, hE1⟩; have HE1 := Lib.hid (Ext.trans (X0.out.alloc _) hE1); have D1 := Lib.hid ((D0.out.ext (Ext.new _ _)).ext hE1); obtain ⟨x0, x1, x2, x3, x4⟩ := D1.out.x.five; obtain ⟨y0, y1⟩ := D1.out.y.two; have f0 := D1.out.x.f 0; have f1 := D1.out.x.f 1; have f2 := D1.out.x.f 2; have f3 := D1.out.x.f 3; have f4 := D1.out.x.f 4; have g0 := D1.out.y.f 0; have g1 := D1.out.y.f 1; clear hE1 D0))
  obtain ⟨q0, q1, q2, q3, q4⟩ := ((D1.out.x.st (.int .u64 0) (.slice none 0 0) (.slice none 0 0) (.slice none 0 0) (.bool false)).far (B := w.heap.size + 1 + 1 + 1 + 1) (by omega) 0 (.int .i64 0)).far (B := w.heap.size + 1 + 1 + 1 + 1) (by omega) 1 (.int .u64 0) |>.five
  obtain ⟨z0, z1⟩ := (((((D1.out.y.far (B := w.heap.size + 1 + 1 + 1) (by omega) 0 (.int .u64 0)).far (B := w.heap.size + 1 + 1 + 1) (by omega) 1 (.slice none 0 0)).far (B := w.heap.size + 1 + 1 + 1) (by omega) 2 (.slice none 0 0)).far (B := w.heap.size + 1 + 1 + 1) (by omega) 3 (.slice none 0 0)).far (B := w.heap.size + 1 + 1 + 1) (by omega) 4 (.bool false)).rs (.int .i64 0) (.int .u64 0) |>.two
  refine bodyPost_ret (v := .tuple #[sv 0 nilSl nilSl nilSl false, rv 0 0, .int .i64 1]) (by simp [results, Tryz.results27, go_sem, q0, q1, q2, q3, q4, z0, z1]) rfl ?_
  exact ⟨by repeat (first | with_reducible exact HE1.out | with_reducible refine Ext.setCell ?_ (by omega) _), nilSl, nilSl, nilSl, rfl, ss_zero _, fun B _ => off_nil B⟩
set_option maxHeartbeats 8000000 in
set_option maxRecDepth 100000 in
theorem rdo_reg (p m : Int) (a v t : Sl) (s : St) (o : Cl) (w : World) (hm : I64 m) (hS : SS w a v t s) (ho : Wc o) (hf : fits 1 p m = true) (hR : rightS 1 p m s = true) : Calls Tryz.prog 27 #[cf 1 p m, sv s.reg a v t s.closed, ov o] w (DoR ((doS 1 m s o).1, (doS 1 m s o).2, 0) w) := by
  obtain ⟨oc, ok, ol⟩ := o
  have X0 : RowKit.Hid (Ext w (dW w 1 p m s.reg a v t s.closed oc ok ol)) := Lib.hid (((((Ext.new w _).alloc _).alloc _).alloc _).alloc _)
  have D0 := Lib.hid (dbx_new w 1 p m s.reg a v t s.closed oc ok ol)
  have HFi : RowKit.Hid (∀ W, _) := Lib.hid (fun W => Reg.rfits_any 1 p m W)
  have HRi : RowKit.Hid (∀ W, Ext w W → _) := Lib.hid (fun W e => rright_any 1 p m a v t s W hm (hS.ext e))
  have HOw : RowKit.Hid (∀ W, Ext w W → _) := Lib.hid (fun W e => own_any a v t s W (hS.ext e))
  have HCa : RowKit.Hid (∀ a' v' t' W, SS W a' v' t' s → Calls Tryz.prog 57 #[sv s.reg a' v' t' s.closed, ov ⟨oc, ok, ol⟩] W (DE a' v' t' (doS 1 m s ⟨oc, ok, ol⟩) W)) := Lib.hid (fun a' v' t' W h => (by have := register_any a' v' t' s ⟨oc, ok, ol⟩ W h ho; unfold doS; rw [if_pos rfl]; exact this))
  rw [show Reg.fits 1 p m = true from hf] at HFi
  rw [hR] at HRi
  generalize doS 1 m s ⟨oc, ok, ol⟩ = d at *
  obtain ⟨⟨dr, dk, dv, dt, dc⟩, d2, d3⟩ := d
  obtain ⟨sr, sk, sw, sx, cl⟩ := s
  clear hf hR hS hm ho
  dsimp only [cf, bx, sv, ov] at *
  go_enter Tryz.func27, Tryz.ntmps27
  go_wp2_with (first
    | (go_at_call 30; (with_reducible refine (HFi.out _).mono ?_); rintro e w' ⟨rfl, rfl⟩)
    | (go_at_call 31; (with_reducible refine (HRi.out _ (by repeat (first | with_reducible exact X0.out | with_reducible refine Ext.alloc ?_ _))).mono ?_); rintro e w1 ⟨rfl, hE1⟩; have HE1 := Lib.hid (Ext.trans (X0.out.alloc _) hE1); have D1 := Lib.hid ((D0.out.ext (Ext.new _ _)).ext hE1); obtain ⟨c0, c1, c2⟩ := D1.out.c.three; obtain ⟨s0, s1, s2, s3, s4⟩ := D1.out.s.five; clear hE1 D0))
  refine (HOw.out _ HE1.out).mono ?_
  rintro e w2 ⟨hE2, ⟨ka, kn, kc⟩, ⟨va, vn, vc⟩, ⟨ta, tn, tc⟩, rfl, hS2, hO2, _⟩
  have hz1 : w.heap.size + 1 + 1 + 1 + 1 < w1.heap.size := D1.out.y.lt
  have HO2 := Lib.hid hO2
  have HS2 := Lib.hid hS2
  have HE2 := Lib.hid (HE1.out.trans hE2)
  have D2 := Lib.hid (D1.out.ext hE2)
  have hz2 : w1.heap.size ≤ w2.heap.size := hE2.size
  clear hE2 hO2 hS2 D1 HE1 c0 c1 c2 s0 s1 s2 s3 s4 HOw HFi HRi
  dsimp only at *
  have E3 : Ext w2 (((w2.alloc (.cells #[.int .u64 sr, .slice ka kn kc, .slice va vn vc, .slice ta tn tc, .bool cl] 30)).alloc (.cells #[.int .u64 sr, .slice ka kn kc, .slice va vn vc, .slice ta tn tc, .bool cl] 30)).alloc (.cells #[.int .i64 0, .int .u64 0] 63)) := ((Ext.new w2 _).alloc _).alloc _
  have b9 : Cb (((w2.alloc (.cells #[.int .u64 sr, .slice ka kn kc, .slice va vn vc, .slice ta tn tc, .bool cl] 30)).alloc (.cells #[.int .u64 sr, .slice ka kn kc, .slice va vn vc, .slice ta tn tc, .bool cl] 30)).alloc (.cells #[.int .i64 0, .int .u64 0] 63)) (w2.heap.size) (sc sr ⟨ka, kn, kc⟩ ⟨va, vn, vc⟩ ⟨ta, tn, tc⟩ cl) := by repeat (first | ((with_reducible refine Cb.at _ rfl ?_); (simp; done)) | with_reducible refine Cb.alloc ?_ _)
  have b10 : Cb (((w2.alloc (.cells #[.int .u64 sr, .slice ka kn kc, .slice va vn vc, .slice ta tn tc, .bool cl] 30)).alloc (.cells #[.int .u64 sr, .slice ka kn kc, .slice va vn vc, .slice ta tn tc, .bool cl] 30)).alloc (.cells #[.int .i64 0, .int .u64 0] 63)) (w2.heap.size + 1) (sc sr ⟨ka, kn, kc⟩ ⟨va, vn, vc⟩ ⟨ta, tn, tc⟩ cl) := by repeat (first | ((with_reducible refine Cb.at _ rfl ?_); (simp; done)) | with_reducible refine Cb.alloc ?_ _)
  have b11 : Cb (((w2.alloc (.cells #[.int .u64 sr, .slice ka kn kc, .slice va vn vc, .slice ta tn tc, .bool cl] 30)).alloc (.cells #[.int .u64 sr, .slice ka kn kc, .slice va vn vc, .slice ta tn tc, .bool cl] 30)).alloc (.cells #[.int .i64 0, .int .u64 0] 63)) (w2.heap.size + 1 + 1) [.int .i64 0, .int .u64 0] := by repeat (first | ((with_reducible refine Cb.at _ rfl ?_); (simp; done)) | with_reducible refine Cb.alloc ?_ _)
  have D3 := D2.out.ext E3
  obtain ⟨c0, c1, c2⟩ := D3.c.three
  obtain ⟨s0, s1, s2, s3, s4⟩ := b9.five
  obtain ⟨o0, o1, o2⟩ := D3.o.three
  have HC3 : RowKit.Hid (∀ W, Ext (((w2.alloc (.cells #[.int .u64 sr, .slice ka kn kc, .slice va vn vc, .slice ta tn tc, .bool cl] 30)).alloc (.cells #[.int .u64 sr, .slice ka kn kc, .slice va vn vc, .slice ta tn tc, .bool cl] 30)).alloc (.cells #[.int .i64 0, .int .u64 0] 63)) W → _) := Lib.hid (fun W e9 => HCa.out ⟨ka, kn, kc⟩ ⟨va, vn, vc⟩ ⟨ta, tn, tc⟩ W (HS2.out.ext (E3.trans e9)))
  have HB9 := Lib.hid b9
  have HE39 := Lib.hid (Ext.refl (((w2.alloc (.cells #[.int .u64 sr, .slice ka kn kc, .slice va vn vc, .slice ta tn tc, .bool cl] 30)).alloc (.cells #[.int .u64 sr, .slice ka kn kc, .slice va vn vc, .slice ta tn tc, .bool cl] 30)).alloc (.cells #[.int .i64 0, .int .u64 0] 63)))
  have HE3 := Lib.hid E3
  have B10 := Lib.hid b10
  have B11 := Lib.hid b11
  have HD3 := Lib.hid D3
  clear E3 b9 b10 b11 D3 HCa
  go_wp2_with (first
    | (go_at_call 57; (with_reducible refine (HC3.out _ HE39.out).mono ?_); rintro e w4 ⟨hE4, ⟨ka4, kn4, kc4⟩, ⟨va4, vn4, vc4⟩, ⟨ta4, tn4, tc4⟩, rfl, hS4, hoff⟩; have hz4 : w2.heap.size + 1 + 1 < w4.heap.size := (B11.out.ext hE4).lt; have HB10 := Lib.hid (B10.out.ext hE4); have HB11 := Lib.hid (B11.out.ext hE4); have D4 := Lib.hid (HD3.out.ext hE4); have HE4 := Lib.hid (HE3.out.trans hE4); have HS4 := Lib.hid hS4; have HOff := Lib.hid hoff; obtain ⟨q0, q1, q2, q3, q4⟩ := HB10.out.five; have f0 := HB10.out.f 0; have f1 := HB10.out.f 1; have f2 := HB10.out.f 2; have f3 := HB10.out.f 3; have f4 := HB10.out.f 4; obtain ⟨u0, u1⟩ := HB11.out.two; have g0 := HB11.out.f 0; have g1 := HB11.out.f 1; clear hE4 hS4 hoff HC3 B10 B11 HD3 HE3 HB9 HE39 c0 c1 c2 s0 s1 s2 s3 s4 o0 o1 o2))
  have hO : ∀ B, (B < w1.heap.size ∨ w2.heap.size ≤ B ∧ B < w2.heap.size + 1 + 1 + 1) → OffS ⟨ka4, kn4, kc4⟩ ⟨va4, vn4, vc4⟩ ⟨ta4, tn4, tc4⟩ B := fun B hB => HOff.out B (by first | (simp only [World.size_alloc]; omega) | omega) (by
    rcases hB with h | h
    · obtain ⟨h1, h2, h3⟩ := HO2.out B h
      exact ⟨fun _ => h1, fun _ => h2, fun _ => h3⟩
    · exact HS2.out.off (by omega))
  have HO := Lib.hid hO
  clear hO q0 q1 q2 q3 q4 f0 f1 f2 f3 f4 u0 u1 g0 g1
  have K10 : Cb (((((((w4.setCell ⟨w2.heap.size + 1, 0, none⟩ (.int .u64 dr)).setCell ⟨w2.heap.size + 1, 1, none⟩ (.slice ka4 kn4 kc4)).setCell ⟨w2.heap.size + 1, 2, none⟩ (.slice va4 vn4 vc4)).setCell ⟨w2.heap.size + 1, 3, none⟩ (.slice ta4 tn4 tc4)).setCell ⟨w2.heap.size + 1, 4, none⟩ (.bool dc)).setCell ⟨w2.heap.size + 1 + 1, 0, none⟩ (.int .i64 d2)).setCell ⟨w2.heap.size + 1 + 1, 1, none⟩ (.int .u64 d3)) (w2.heap.size + 1) [.int .u64 dr, .slice ka4 kn4 kc4, .slice va4 vn4 vc4, .slice ta4 tn4 tc4, .bool dc] := ((HB10.out.st (.int .u64 dr) (.slice ka4 kn4 kc4) (.slice va4 vn4 vc4) (.slice ta4 tn4 tc4) (.bool dc)).far (B := w2.heap.size + 1 + 1) (by omega) 0 (.int .i64 d2)).far (B := w2.heap.size + 1 + 1) (by omega) 1 (.int .u64 d3)
  have K11 : Cb (((((((w4.setCell ⟨w2.heap.size + 1, 0, none⟩ (.int .u64 dr)).setCell ⟨w2.heap.size + 1, 1, none⟩ (.slice ka4 kn4 kc4)).setCell ⟨w2.heap.size + 1, 2, none⟩ (.slice va4 vn4 vc4)).setCell ⟨w2.heap.size + 1, 3, none⟩ (.slice ta4 tn4 tc4)).setCell ⟨w2.heap.size + 1, 4, none⟩ (.bool dc)).setCell ⟨w2.heap.size + 1 + 1, 0, none⟩ (.int .i64 d2)).setCell ⟨w2.heap.size + 1 + 1, 1, none⟩ (.int .u64 d3)) (w2.heap.size + 1 + 1) [.int .i64 d2, .int .u64 d3] := ((((((HB11.out.far (B := w2.heap.size + 1) (by omega) 0 (.int .u64 dr)).far (B := w2.heap.size + 1) (by omega) 1 (.slice ka4 kn4 kc4)).far (B := w2.heap.size + 1) (by omega) 2 (.slice va4 vn4 vc4)).far (B := w2.heap.size + 1) (by omega) 3 (.slice ta4 tn4 tc4)).far (B := w2.heap.size + 1) (by omega) 4 (.bool dc))).rs (.int .i64 d2) (.int .u64 d3)
  have K6 := (((((((D4.out.x.far (B := w2.heap.size + 1) (by omega) 0 (.int .u64 dr)).far (B := w2.heap.size + 1) (by omega) 1 (.slice ka4 kn4 kc4)).far (B := w2.heap.size + 1) (by omega) 2 (.slice va4 vn4 vc4)).far (B := w2.heap.size + 1) (by omega) 3 (.slice ta4 tn4 tc4)).far (B := w2.heap.size + 1) (by omega) 4 (.bool dc)).far (B := w2.heap.size + 1 + 1) (by omega) 0 (.int .i64 d2)).far (B := w2.heap.size + 1 + 1) (by omega) 1 (.int .u64 d3))
  have K7 := (((((((D4.out.y.far (B := w2.heap.size + 1) (by omega) 0 (.int .u64 dr)).far (B := w2.heap.size + 1) (by omega) 1 (.slice ka4 kn4 kc4)).far (B := w2.heap.size + 1) (by omega) 2 (.slice va4 vn4 vc4)).far (B := w2.heap.size + 1) (by omega) 3 (.slice ta4 tn4 tc4)).far (B := w2.heap.size + 1) (by omega) 4 (.bool dc)).far (B := w2.heap.size + 1 + 1) (by omega) 0 (.int .i64 d2)).far (B := w2.heap.size + 1 + 1) (by omega) 1 (.int .u64 d3))
  have HSS : SS (((((((w4.setCell ⟨w2.heap.size + 1, 0, none⟩ (.int .u64 dr)).setCell ⟨w2.heap.size + 1, 1, none⟩ (.slice ka4 kn4 kc4)).setCell ⟨w2.heap.size + 1, 2, none⟩ (.slice va4 vn4 vc4)).setCell ⟨w2.heap.size + 1, 3, none⟩ (.slice ta4 tn4 tc4)).setCell ⟨w2.heap.size + 1, 4, none⟩ (.bool dc)).setCell ⟨w2.heap.size + 1 + 1, 0, none⟩ (.int .i64 d2)).setCell ⟨w2.heap.size + 1 + 1, 1, none⟩ (.int .u64 d3)) ⟨ka4, kn4, kc4⟩ ⟨va4, vn4, vc4⟩ ⟨ta4, tn4, tc4⟩ ⟨dr, dk, dv, dt, dc⟩ := by
    repeat (first | (with_reducible exact HS4.out) | (with_reducible refine SS.set ?_ (HO.out _ (by omega)) _ _))
  have HEE : Ext w (((((((w4.setCell ⟨w2.heap.size + 1, 0, none⟩ (.int .u64 dr)).setCell ⟨w2.heap.size + 1, 1, none⟩ (.slice ka4 kn4 kc4)).setCell ⟨w2.heap.size + 1, 2, none⟩ (.slice va4 vn4 vc4)).setCell ⟨w2.heap.size + 1, 3, none⟩ (.slice ta4 tn4 tc4)).setCell ⟨w2.heap.size + 1, 4, none⟩ (.bool dc)).setCell ⟨w2.heap.size + 1 + 1, 0, none⟩ (.int .i64 d2)).setCell ⟨w2.heap.size + 1 + 1, 1, none⟩ (.int .u64 d3)) := by
    repeat (first | (with_reducible exact HE2.out.trans HE4.out) | (with_reducible refine Ext.setCell ?_ (by omega) _))
  clear HB10 HB11 D4 HS4 HE4 HE2 HS2 HO2 HOff
  generalize (((((((w4.setCell ⟨w2.heap.size + 1, 0, none⟩ (.int .u64 dr)).setCell ⟨w2.heap.size + 1, 1, none⟩ (.slice ka4 kn4 kc4)).setCell ⟨w2.heap.size + 1, 2, none⟩ (.slice va4 vn4 vc4)).setCell ⟨w2.heap.size + 1, 3, none⟩ (.slice ta4 tn4 tc4)).setCell ⟨w2.heap.size + 1, 4, none⟩ (.bool dc)).setCell ⟨w2.heap.size + 1 + 1, 0, none⟩ (.int .i64 d2)).setCell ⟨w2.heap.size + 1 + 1, 1, none⟩ (.int .u64 d3)) = w5 at K10 K11 K6 K7 HSS HEE ⊢
  obtain ⟨k0, k1, k2, k3, k4⟩ := K10.five
  obtain ⟨l0, l1⟩ := K11.two
  have f0 := K6.f 0
  have f1 := K6.f 1
  have f2 := K6.f 2
  have f3 := K6.f 3
  have f4 := K6.f 4
  have g0 := K7.f 0
  have g1 := K7.f 1
  obtain ⟨x0, x1, x2, x3, x4⟩ := K6.five
  obtain ⟨y0, y1⟩ := K7.two
  have HK6 := Lib.hid K6
  have HK7 := Lib.hid K7
  have HSx := Lib.hid HSS
  have HEx := Lib.hid HEE
  clear K10 K11 K6 K7 HSS HEE
  go_region_held3 (fun w' => (w'.cell? ⟨w2.heap.size + 1, 0, none⟩ = some (.int .u64 dr) ∧ w'.cell? ⟨w2.heap.size + 1, 1, none⟩ = some (.slice ka4 kn4 kc4) ∧ w'.cell? ⟨w2.heap.size + 1, 2, none⟩ = some (.slice va4 vn4 vc4) ∧ w'.cell? ⟨w2.heap.size + 1, 3, none⟩ = some (.slice ta4 tn4 tc4) ∧ w'.cell? ⟨w2.heap.size + 1, 4, none⟩ = some (.bool dc)) ∧ w'.cell? ⟨w2.heap.size + 1 + 1, 0, none⟩ = some (.int .i64 d2) ∧ w'.cell? ⟨w2.heap.size + 1 + 1, 1, none⟩ = some (.int .u64 d3))
    (repeat' (first | (with_reducible assumption) | (with_reducible refine And.intro ?_ ?_) | (with_reducible refine (cell_far (by omega)).trans ?_) | (with_reducible refine cell_drew ?_)))
    (fail)
  all_goals
    rename_i hq
    clear hq
    go_wp2_with (fail)
    refine bodyPost_ret (v := .tuple #[sv dr ⟨ka4, kn4, kc4⟩ ⟨va4, vn4, vc4⟩ ⟨ta4, tn4, tc4⟩ dc, rv d2 d3, .int .i64 0]) (by simp [results, Tryz.results27, go_sem, x0, x1, x2, x3, x4, y0, y1]) rfl ?_
    refine ⟨?_, ⟨ka4, kn4, kc4⟩, ⟨va4, vn4, vc4⟩, ⟨ta4, tn4, tc4⟩, rfl, ?_, fun B hB => HO.out B (.inl (by omega))⟩
    · repeat (first | (with_reducible exact HEx.out) | (with_reducible refine Ext.setCell ?_ (by omega) _) | (with_reducible refine Ext.drew ?_))
    · repeat (first | (with_reducible exact HSx.out) | (with_reducible refine SS.set ?_ (HO.out _ (by omega)) _ _) | (with_reducible refine SS.ext ?_ (Ext.drew (Ext.refl _))))
set_option maxHeartbeats 8000000 in
set_option maxRecDepth 100000 in
theorem rdo_tab (k p m : Int) (a v t : Sl) (s : St) (o : Cl) (w : World) (hm : I64 m) (hS : SS w a v t s) (ho : Wc o) (hf : fits k p m = true) (hR : rightS k p m s = true) (hk : keyed k = true) : Calls Tryz.prog 27 #[cf k p m, sv s.reg a v t s.closed, ov o] w (DoR ((doS k m s o).1, (doS k m s o).2, 0) w) := by
  obtain ⟨oc, ok, ol⟩ := o
  have X0 : RowKit.Hid (Ext w (dW w k p m s.reg a v t s.closed oc ok ol)) := Lib.hid (((((Ext.new w _).alloc _).alloc _).alloc _).alloc _)
  have D0 := Lib.hid (dbx_new w k p m s.reg a v t s.closed oc ok ol)
  have HFi : RowKit.Hid (∀ W, _) := Lib.hid (fun W => Reg.rfits_any k p m W)
  have HRi : RowKit.Hid (∀ W, Ext w W → _) := Lib.hid (fun W e => rright_any k p m a v t s W hm (hS.ext e))
  have hb := fits_of hf
  have hk1 : ¬ k = 1 := by have := keyed_cases hk; omega
  have hkl : s.keys.length ≤ 256 := by have := (keys_of hR hk).1; omega
  have HOw : RowKit.Hid (∀ W, Ext w W → _) := Lib.hid (fun W e => own_any a v t s W (hS.ext e))
  have HCa : RowKit.Hid (∀ a' v' t' W, SS W a' v' t' s → Calls Tryz.prog 59 #[cf k p m, sv s.reg a' v' t' s.closed, ov ⟨oc, ok, ol⟩] W (DE a' v' t' (doS k m s ⟨oc, ok, ol⟩) W)) := Lib.hid (fun a' v' t' W h => (by have := table_any k p m a' v' t' s ⟨oc, ok, ol⟩ W hm h ho (keys_of hR hk) hkl; unfold doS; rw [if_neg hk1, if_pos hk]; exact this))
  rw [show Reg.fits k p m = true from hf] at HFi
  rw [hR] at HRi
  have bk1 : (k == 1) = false := by simpa using hk1
  have HKd : RowKit.Hid (∀ W, _) := Lib.hid (fun W => keyed_any k p m W)
  rw [hk] at HKd
  clear hb hk1 hkl hk
  generalize doS k m s ⟨oc, ok, ol⟩ = d at *
  obtain ⟨⟨dr, dk, dv, dt, dc⟩, d2, d3⟩ := d
  obtain ⟨sr, sk, sw, sx, cl⟩ := s
  clear hf hR hS hm ho
  dsimp only [cf, bx, sv, ov] at *
  go_enter Tryz.func27, Tryz.ntmps27
  go_wp2_with (first
    | (go_at_call 30; (with_reducible refine (HFi.out _).mono ?_); rintro e w' ⟨rfl, rfl⟩)
    | (go_at_call 31; (with_reducible refine (HRi.out _ (by repeat (first | with_reducible exact X0.out | with_reducible refine Ext.alloc ?_ _))).mono ?_); rintro e w1 ⟨rfl, hE1⟩; have HE1 := Lib.hid (Ext.trans (X0.out.alloc _) hE1); have D1 := Lib.hid ((D0.out.ext (Ext.new _ _)).ext hE1); obtain ⟨c0, c1, c2⟩ := D1.out.c.three; obtain ⟨s0, s1, s2, s3, s4⟩ := D1.out.s.five; clear hE1 D0))
  refine (HOw.out _ HE1.out).mono ?_
  rintro e w2 ⟨hE2, ⟨ka, kn, kc⟩, ⟨va, vn, vc⟩, ⟨ta, tn, tc⟩, rfl, hS2, hO2, _⟩
  have hz1 : w.heap.size + 1 + 1 + 1 + 1 < w1.heap.size := D1.out.y.lt
  have HO2 := Lib.hid hO2
  have HS2 := Lib.hid hS2
  have HE2 := Lib.hid (HE1.out.trans hE2)
  have D2 := Lib.hid (D1.out.ext hE2)
  have hz2 : w1.heap.size ≤ w2.heap.size := hE2.size
  clear hE2 hO2 hS2 D1 HE1 c0 c1 c2 s0 s1 s2 s3 s4 HOw HFi HRi
  dsimp only at *
  have E3 : Ext w2 (((w2.alloc (.cells #[.int .u64 sr, .slice ka kn kc, .slice va vn vc, .slice ta tn tc, .bool cl] 30)).alloc (.cells #[.int .u64 sr, .slice ka kn kc, .slice va vn vc, .slice ta tn tc, .bool cl] 30)).alloc (.cells #[.int .i64 0, .int .u64 0] 63)) := ((Ext.new w2 _).alloc _).alloc _
  have b9 : Cb (((w2.alloc (.cells #[.int .u64 sr, .slice ka kn kc, .slice va vn vc, .slice ta tn tc, .bool cl] 30)).alloc (.cells #[.int .u64 sr, .slice ka kn kc, .slice va vn vc, .slice ta tn tc, .bool cl] 30)).alloc (.cells #[.int .i64 0, .int .u64 0] 63)) (w2.heap.size) (sc sr ⟨ka, kn, kc⟩ ⟨va, vn, vc⟩ ⟨ta, tn, tc⟩ cl) := by repeat (first | ((with_reducible refine Cb.at _ rfl ?_); (simp; done)) | with_reducible refine Cb.alloc ?_ _)
  have b10 : Cb (((w2.alloc (.cells #[.int .u64 sr, .slice ka kn kc, .slice va vn vc, .slice ta tn tc, .bool cl] 30)).alloc (.cells #[.int .u64 sr, .slice ka kn kc, .slice va vn vc, .slice ta tn tc, .bool cl] 30)).alloc (.cells #[.int .i64 0, .int .u64 0] 63)) (w2.heap.size + 1) (sc sr ⟨ka, kn, kc⟩ ⟨va, vn, vc⟩ ⟨ta, tn, tc⟩ cl) := by repeat (first | ((with_reducible refine Cb.at _ rfl ?_); (simp; done)) | with_reducible refine Cb.alloc ?_ _)
  have b11 : Cb (((w2.alloc (.cells #[.int .u64 sr, .slice ka kn kc, .slice va vn vc, .slice ta tn tc, .bool cl] 30)).alloc (.cells #[.int .u64 sr, .slice ka kn kc, .slice va vn vc, .slice ta tn tc, .bool cl] 30)).alloc (.cells #[.int .i64 0, .int .u64 0] 63)) (w2.heap.size + 1 + 1) [.int .i64 0, .int .u64 0] := by repeat (first | ((with_reducible refine Cb.at _ rfl ?_); (simp; done)) | with_reducible refine Cb.alloc ?_ _)
  have D3 := D2.out.ext E3
  obtain ⟨c0, c1, c2⟩ := D3.c.three
  obtain ⟨s0, s1, s2, s3, s4⟩ := b9.five
  obtain ⟨o0, o1, o2⟩ := D3.o.three
  have HC3 : RowKit.Hid (∀ W, Ext (((w2.alloc (.cells #[.int .u64 sr, .slice ka kn kc, .slice va vn vc, .slice ta tn tc, .bool cl] 30)).alloc (.cells #[.int .u64 sr, .slice ka kn kc, .slice va vn vc, .slice ta tn tc, .bool cl] 30)).alloc (.cells #[.int .i64 0, .int .u64 0] 63)) W → _) := Lib.hid (fun W e9 => HCa.out ⟨ka, kn, kc⟩ ⟨va, vn, vc⟩ ⟨ta, tn, tc⟩ W (HS2.out.ext (E3.trans e9)))
  have HB9 := Lib.hid b9
  have HE39 := Lib.hid (Ext.refl (((w2.alloc (.cells #[.int .u64 sr, .slice ka kn kc, .slice va vn vc, .slice ta tn tc, .bool cl] 30)).alloc (.cells #[.int .u64 sr, .slice ka kn kc, .slice va vn vc, .slice ta tn tc, .bool cl] 30)).alloc (.cells #[.int .i64 0, .int .u64 0] 63)))
  have HE3 := Lib.hid E3
  have B10 := Lib.hid b10
  have B11 := Lib.hid b11
  have HD3 := Lib.hid D3
  clear E3 b9 b10 b11 D3 HCa
  go_wp2_with (first
    | (go_at_call 58; (with_reducible refine (HKd.out _).mono ?_); rintro e w9 ⟨rfl, hE9⟩; replace HD3 := Lib.hid (HD3.out.ext hE9); replace HB9 := Lib.hid (HB9.out.ext hE9); replace B10 := Lib.hid (B10.out.ext hE9); replace B11 := Lib.hid (B11.out.ext hE9); replace HE3 := Lib.hid (HE3.out.trans hE9); replace HE39 := Lib.hid (HE39.out.trans hE9); have hz9 : w2.heap.size + 1 + 1 < w9.heap.size := B11.out.lt; clear hE9 c0 c1 c2 s0 s1 s2 s3 s4 o0 o1 o2; obtain ⟨c0, c1, c2⟩ := HD3.out.c.three; obtain ⟨s0, s1, s2, s3, s4⟩ := HB9.out.five; obtain ⟨o0, o1, o2⟩ := HD3.out.o.three)
    | (go_at_call 59; (with_reducible refine (HC3.out _ HE39.out).mono ?_); rintro e w4 ⟨hE4, ⟨ka4, kn4, kc4⟩, ⟨va4, vn4, vc4⟩, ⟨ta4, tn4, tc4⟩, rfl, hS4, hoff⟩; have hz4 : w2.heap.size + 1 + 1 < w4.heap.size := (B11.out.ext hE4).lt; have HB10 := Lib.hid (B10.out.ext hE4); have HB11 := Lib.hid (B11.out.ext hE4); have D4 := Lib.hid (HD3.out.ext hE4); have HE4 := Lib.hid (HE3.out.trans hE4); have HS4 := Lib.hid hS4; have HOff := Lib.hid hoff; obtain ⟨q0, q1, q2, q3, q4⟩ := HB10.out.five; have f0 := HB10.out.f 0; have f1 := HB10.out.f 1; have f2 := HB10.out.f 2; have f3 := HB10.out.f 3; have f4 := HB10.out.f 4; obtain ⟨u0, u1⟩ := HB11.out.two; have g0 := HB11.out.f 0; have g1 := HB11.out.f 1; clear hE4 hS4 hoff HC3 B10 B11 HD3 HE3 HB9 HE39 c0 c1 c2 s0 s1 s2 s3 s4 o0 o1 o2))
  have hO : ∀ B, (B < w1.heap.size ∨ w2.heap.size ≤ B ∧ B < w2.heap.size + 1 + 1 + 1) → OffS ⟨ka4, kn4, kc4⟩ ⟨va4, vn4, vc4⟩ ⟨ta4, tn4, tc4⟩ B := fun B hB => HOff.out B (by first | (simp only [World.size_alloc]; omega) | omega) (by
    rcases hB with h | h
    · obtain ⟨h1, h2, h3⟩ := HO2.out B h
      exact ⟨fun _ => h1, fun _ => h2, fun _ => h3⟩
    · exact HS2.out.off (by omega))
  have HO := Lib.hid hO
  clear hO q0 q1 q2 q3 q4 f0 f1 f2 f3 f4 u0 u1 g0 g1
  have K10 : Cb (((((((w4.setCell ⟨w2.heap.size + 1, 0, none⟩ (.int .u64 dr)).setCell ⟨w2.heap.size + 1, 1, none⟩ (.slice ka4 kn4 kc4)).setCell ⟨w2.heap.size + 1, 2, none⟩ (.slice va4 vn4 vc4)).setCell ⟨w2.heap.size + 1, 3, none⟩ (.slice ta4 tn4 tc4)).setCell ⟨w2.heap.size + 1, 4, none⟩ (.bool dc)).setCell ⟨w2.heap.size + 1 + 1, 0, none⟩ (.int .i64 d2)).setCell ⟨w2.heap.size + 1 + 1, 1, none⟩ (.int .u64 d3)) (w2.heap.size + 1) [.int .u64 dr, .slice ka4 kn4 kc4, .slice va4 vn4 vc4, .slice ta4 tn4 tc4, .bool dc] := ((HB10.out.st (.int .u64 dr) (.slice ka4 kn4 kc4) (.slice va4 vn4 vc4) (.slice ta4 tn4 tc4) (.bool dc)).far (B := w2.heap.size + 1 + 1) (by omega) 0 (.int .i64 d2)).far (B := w2.heap.size + 1 + 1) (by omega) 1 (.int .u64 d3)
  have K11 : Cb (((((((w4.setCell ⟨w2.heap.size + 1, 0, none⟩ (.int .u64 dr)).setCell ⟨w2.heap.size + 1, 1, none⟩ (.slice ka4 kn4 kc4)).setCell ⟨w2.heap.size + 1, 2, none⟩ (.slice va4 vn4 vc4)).setCell ⟨w2.heap.size + 1, 3, none⟩ (.slice ta4 tn4 tc4)).setCell ⟨w2.heap.size + 1, 4, none⟩ (.bool dc)).setCell ⟨w2.heap.size + 1 + 1, 0, none⟩ (.int .i64 d2)).setCell ⟨w2.heap.size + 1 + 1, 1, none⟩ (.int .u64 d3)) (w2.heap.size + 1 + 1) [.int .i64 d2, .int .u64 d3] := ((((((HB11.out.far (B := w2.heap.size + 1) (by omega) 0 (.int .u64 dr)).far (B := w2.heap.size + 1) (by omega) 1 (.slice ka4 kn4 kc4)).far (B := w2.heap.size + 1) (by omega) 2 (.slice va4 vn4 vc4)).far (B := w2.heap.size + 1) (by omega) 3 (.slice ta4 tn4 tc4)).far (B := w2.heap.size + 1) (by omega) 4 (.bool dc))).rs (.int .i64 d2) (.int .u64 d3)
  have K6 := (((((((D4.out.x.far (B := w2.heap.size + 1) (by omega) 0 (.int .u64 dr)).far (B := w2.heap.size + 1) (by omega) 1 (.slice ka4 kn4 kc4)).far (B := w2.heap.size + 1) (by omega) 2 (.slice va4 vn4 vc4)).far (B := w2.heap.size + 1) (by omega) 3 (.slice ta4 tn4 tc4)).far (B := w2.heap.size + 1) (by omega) 4 (.bool dc)).far (B := w2.heap.size + 1 + 1) (by omega) 0 (.int .i64 d2)).far (B := w2.heap.size + 1 + 1) (by omega) 1 (.int .u64 d3))
  have K7 := (((((((D4.out.y.far (B := w2.heap.size + 1) (by omega) 0 (.int .u64 dr)).far (B := w2.heap.size + 1) (by omega) 1 (.slice ka4 kn4 kc4)).far (B := w2.heap.size + 1) (by omega) 2 (.slice va4 vn4 vc4)).far (B := w2.heap.size + 1) (by omega) 3 (.slice ta4 tn4 tc4)).far (B := w2.heap.size + 1) (by omega) 4 (.bool dc)).far (B := w2.heap.size + 1 + 1) (by omega) 0 (.int .i64 d2)).far (B := w2.heap.size + 1 + 1) (by omega) 1 (.int .u64 d3))
  have HSS : SS (((((((w4.setCell ⟨w2.heap.size + 1, 0, none⟩ (.int .u64 dr)).setCell ⟨w2.heap.size + 1, 1, none⟩ (.slice ka4 kn4 kc4)).setCell ⟨w2.heap.size + 1, 2, none⟩ (.slice va4 vn4 vc4)).setCell ⟨w2.heap.size + 1, 3, none⟩ (.slice ta4 tn4 tc4)).setCell ⟨w2.heap.size + 1, 4, none⟩ (.bool dc)).setCell ⟨w2.heap.size + 1 + 1, 0, none⟩ (.int .i64 d2)).setCell ⟨w2.heap.size + 1 + 1, 1, none⟩ (.int .u64 d3)) ⟨ka4, kn4, kc4⟩ ⟨va4, vn4, vc4⟩ ⟨ta4, tn4, tc4⟩ ⟨dr, dk, dv, dt, dc⟩ := by
    repeat (first | (with_reducible exact HS4.out) | (with_reducible refine SS.set ?_ (HO.out _ (by omega)) _ _))
  have HEE : Ext w (((((((w4.setCell ⟨w2.heap.size + 1, 0, none⟩ (.int .u64 dr)).setCell ⟨w2.heap.size + 1, 1, none⟩ (.slice ka4 kn4 kc4)).setCell ⟨w2.heap.size + 1, 2, none⟩ (.slice va4 vn4 vc4)).setCell ⟨w2.heap.size + 1, 3, none⟩ (.slice ta4 tn4 tc4)).setCell ⟨w2.heap.size + 1, 4, none⟩ (.bool dc)).setCell ⟨w2.heap.size + 1 + 1, 0, none⟩ (.int .i64 d2)).setCell ⟨w2.heap.size + 1 + 1, 1, none⟩ (.int .u64 d3)) := by
    repeat (first | (with_reducible exact HE2.out.trans HE4.out) | (with_reducible refine Ext.setCell ?_ (by omega) _))
  clear HB10 HB11 D4 HS4 HE4 HE2 HS2 HO2 HOff
  generalize (((((((w4.setCell ⟨w2.heap.size + 1, 0, none⟩ (.int .u64 dr)).setCell ⟨w2.heap.size + 1, 1, none⟩ (.slice ka4 kn4 kc4)).setCell ⟨w2.heap.size + 1, 2, none⟩ (.slice va4 vn4 vc4)).setCell ⟨w2.heap.size + 1, 3, none⟩ (.slice ta4 tn4 tc4)).setCell ⟨w2.heap.size + 1, 4, none⟩ (.bool dc)).setCell ⟨w2.heap.size + 1 + 1, 0, none⟩ (.int .i64 d2)).setCell ⟨w2.heap.size + 1 + 1, 1, none⟩ (.int .u64 d3)) = w5 at K10 K11 K6 K7 HSS HEE ⊢
  obtain ⟨k0, k1, k2, k3, k4⟩ := K10.five
  obtain ⟨l0, l1⟩ := K11.two
  have f0 := K6.f 0
  have f1 := K6.f 1
  have f2 := K6.f 2
  have f3 := K6.f 3
  have f4 := K6.f 4
  have g0 := K7.f 0
  have g1 := K7.f 1
  obtain ⟨x0, x1, x2, x3, x4⟩ := K6.five
  obtain ⟨y0, y1⟩ := K7.two
  have HK6 := Lib.hid K6
  have HK7 := Lib.hid K7
  have HSx := Lib.hid HSS
  have HEx := Lib.hid HEE
  clear K10 K11 K6 K7 HSS HEE
  go_region_held3 (fun w' => (w'.cell? ⟨w2.heap.size + 1, 0, none⟩ = some (.int .u64 dr) ∧ w'.cell? ⟨w2.heap.size + 1, 1, none⟩ = some (.slice ka4 kn4 kc4) ∧ w'.cell? ⟨w2.heap.size + 1, 2, none⟩ = some (.slice va4 vn4 vc4) ∧ w'.cell? ⟨w2.heap.size + 1, 3, none⟩ = some (.slice ta4 tn4 tc4) ∧ w'.cell? ⟨w2.heap.size + 1, 4, none⟩ = some (.bool dc)) ∧ w'.cell? ⟨w2.heap.size + 1 + 1, 0, none⟩ = some (.int .i64 d2) ∧ w'.cell? ⟨w2.heap.size + 1 + 1, 1, none⟩ = some (.int .u64 d3))
    (repeat' (first | (with_reducible assumption) | (with_reducible refine And.intro ?_ ?_) | (with_reducible refine (cell_far (by omega)).trans ?_) | (with_reducible refine cell_drew ?_)))
    (fail)
  all_goals
    rename_i hq
    clear hq
    go_wp2_with (fail)
    refine bodyPost_ret (v := .tuple #[sv dr ⟨ka4, kn4, kc4⟩ ⟨va4, vn4, vc4⟩ ⟨ta4, tn4, tc4⟩ dc, rv d2 d3, .int .i64 0]) (by simp [results, Tryz.results27, go_sem, x0, x1, x2, x3, x4, y0, y1]) rfl ?_
    refine ⟨?_, ⟨ka4, kn4, kc4⟩, ⟨va4, vn4, vc4⟩, ⟨ta4, tn4, tc4⟩, rfl, ?_, fun B hB => HO.out B (.inl (by omega))⟩
    · repeat (first | (with_reducible exact HEx.out) | (with_reducible refine Ext.setCell ?_ (by omega) _) | (with_reducible refine Ext.drew ?_))
    · repeat (first | (with_reducible exact HSx.out) | (with_reducible refine SS.set ?_ (HO.out _ (by omega)) _ _) | (with_reducible refine SS.ext ?_ (Ext.drew (Ext.refl _))))
set_option maxHeartbeats 8000000 in
set_option maxRecDepth 100000 in
theorem rdo_bal (p m : Int) (a v t : Sl) (s : St) (o : Cl) (w : World) (hm : I64 m) (hS : SS w a v t s) (ho : Wc o) (hf : fits 5 p m = true) (hR : rightS 5 p m s = true) : Calls Tryz.prog 27 #[cf 5 p m, sv s.reg a v t s.closed, ov o] w (DoR ((doS 5 m s o).1, (doS 5 m s o).2, 0) w) := by
  obtain ⟨oc, ok, ol⟩ := o
  have X0 : RowKit.Hid (Ext w (dW w 5 p m s.reg a v t s.closed oc ok ol)) := Lib.hid (((((Ext.new w _).alloc _).alloc _).alloc _).alloc _)
  have D0 := Lib.hid (dbx_new w 5 p m s.reg a v t s.closed oc ok ol)
  have HFi : RowKit.Hid (∀ W, _) := Lib.hid (fun W => Reg.rfits_any 5 p m W)
  have HRi : RowKit.Hid (∀ W, Ext w W → _) := Lib.hid (fun W e => rright_any 5 p m a v t s W hm (hS.ext e))
  have hb := fits_of hf
  have hmN : ((m.toNat : Nat) : Int) = m := by omega
  have HOw : RowKit.Hid (∀ W, Ext w W → _) := Lib.hid (fun W e => own_any a v t s W (hS.ext e))
  have HCa : RowKit.Hid (∀ a' v' t' W, SS W a' v' t' s → Calls Tryz.prog 60 #[cf 5 p m, sv s.reg a' v' t' s.closed, ov ⟨oc, ok, ol⟩] W (DE a' v' t' (doS 5 m s ⟨oc, ok, ol⟩) W)) := Lib.hid (fun a' v' t' W h => (by have := ballot_any 5 p m.toNat a' v' t' s ⟨oc, ok, ol⟩ W h ho (by rw [hmN]; exact (right_iff.1 hR).2.2.2.2 rfl) (by omega); rw [hmN] at this; unfold doS; rw [if_neg (by decide), if_neg (show ¬ keyed 5 = true by decide)]; exact this))
  rw [show Reg.fits 5 p m = true from hf] at HFi
  rw [hR] at HRi
  have HKd : RowKit.Hid (∀ W, _) := Lib.hid (fun W => keyed_any 5 p m W)
  rw [show keyed 5 = false from by decide] at HKd
  clear hb hmN
  generalize doS 5 m s ⟨oc, ok, ol⟩ = d at *
  obtain ⟨⟨dr, dk, dv, dt, dc⟩, d2, d3⟩ := d
  obtain ⟨sr, sk, sw, sx, cl⟩ := s
  clear hf hR hS hm ho
  dsimp only [cf, bx, sv, ov] at *
  go_enter Tryz.func27, Tryz.ntmps27
  go_wp2_with (first
    | (go_at_call 30; (with_reducible refine (HFi.out _).mono ?_); rintro e w' ⟨rfl, rfl⟩)
    | (go_at_call 31; (with_reducible refine (HRi.out _ (by repeat (first | with_reducible exact X0.out | with_reducible refine Ext.alloc ?_ _))).mono ?_); rintro e w1 ⟨rfl, hE1⟩; have HE1 := Lib.hid (Ext.trans (X0.out.alloc _) hE1); have D1 := Lib.hid ((D0.out.ext (Ext.new _ _)).ext hE1); obtain ⟨c0, c1, c2⟩ := D1.out.c.three; obtain ⟨s0, s1, s2, s3, s4⟩ := D1.out.s.five; clear hE1 D0))
  refine (HOw.out _ HE1.out).mono ?_
  rintro e w2 ⟨hE2, ⟨ka, kn, kc⟩, ⟨va, vn, vc⟩, ⟨ta, tn, tc⟩, rfl, hS2, hO2, _⟩
  have hz1 : w.heap.size + 1 + 1 + 1 + 1 < w1.heap.size := D1.out.y.lt
  have HO2 := Lib.hid hO2
  have HS2 := Lib.hid hS2
  have HE2 := Lib.hid (HE1.out.trans hE2)
  have D2 := Lib.hid (D1.out.ext hE2)
  have hz2 : w1.heap.size ≤ w2.heap.size := hE2.size
  clear hE2 hO2 hS2 D1 HE1 c0 c1 c2 s0 s1 s2 s3 s4 HOw HFi HRi
  dsimp only at *
  have E3 : Ext w2 (((w2.alloc (.cells #[.int .u64 sr, .slice ka kn kc, .slice va vn vc, .slice ta tn tc, .bool cl] 30)).alloc (.cells #[.int .u64 sr, .slice ka kn kc, .slice va vn vc, .slice ta tn tc, .bool cl] 30)).alloc (.cells #[.int .i64 0, .int .u64 0] 63)) := ((Ext.new w2 _).alloc _).alloc _
  have b9 : Cb (((w2.alloc (.cells #[.int .u64 sr, .slice ka kn kc, .slice va vn vc, .slice ta tn tc, .bool cl] 30)).alloc (.cells #[.int .u64 sr, .slice ka kn kc, .slice va vn vc, .slice ta tn tc, .bool cl] 30)).alloc (.cells #[.int .i64 0, .int .u64 0] 63)) (w2.heap.size) (sc sr ⟨ka, kn, kc⟩ ⟨va, vn, vc⟩ ⟨ta, tn, tc⟩ cl) := by repeat (first | ((with_reducible refine Cb.at _ rfl ?_); (simp; done)) | with_reducible refine Cb.alloc ?_ _)
  have b10 : Cb (((w2.alloc (.cells #[.int .u64 sr, .slice ka kn kc, .slice va vn vc, .slice ta tn tc, .bool cl] 30)).alloc (.cells #[.int .u64 sr, .slice ka kn kc, .slice va vn vc, .slice ta tn tc, .bool cl] 30)).alloc (.cells #[.int .i64 0, .int .u64 0] 63)) (w2.heap.size + 1) (sc sr ⟨ka, kn, kc⟩ ⟨va, vn, vc⟩ ⟨ta, tn, tc⟩ cl) := by repeat (first | ((with_reducible refine Cb.at _ rfl ?_); (simp; done)) | with_reducible refine Cb.alloc ?_ _)
  have b11 : Cb (((w2.alloc (.cells #[.int .u64 sr, .slice ka kn kc, .slice va vn vc, .slice ta tn tc, .bool cl] 30)).alloc (.cells #[.int .u64 sr, .slice ka kn kc, .slice va vn vc, .slice ta tn tc, .bool cl] 30)).alloc (.cells #[.int .i64 0, .int .u64 0] 63)) (w2.heap.size + 1 + 1) [.int .i64 0, .int .u64 0] := by repeat (first | ((with_reducible refine Cb.at _ rfl ?_); (simp; done)) | with_reducible refine Cb.alloc ?_ _)
  have D3 := D2.out.ext E3
  obtain ⟨c0, c1, c2⟩ := D3.c.three
  obtain ⟨s0, s1, s2, s3, s4⟩ := b9.five
  obtain ⟨o0, o1, o2⟩ := D3.o.three
  have HC3 : RowKit.Hid (∀ W, Ext (((w2.alloc (.cells #[.int .u64 sr, .slice ka kn kc, .slice va vn vc, .slice ta tn tc, .bool cl] 30)).alloc (.cells #[.int .u64 sr, .slice ka kn kc, .slice va vn vc, .slice ta tn tc, .bool cl] 30)).alloc (.cells #[.int .i64 0, .int .u64 0] 63)) W → _) := Lib.hid (fun W e9 => HCa.out ⟨ka, kn, kc⟩ ⟨va, vn, vc⟩ ⟨ta, tn, tc⟩ W (HS2.out.ext (E3.trans e9)))
  have HB9 := Lib.hid b9
  have HE39 := Lib.hid (Ext.refl (((w2.alloc (.cells #[.int .u64 sr, .slice ka kn kc, .slice va vn vc, .slice ta tn tc, .bool cl] 30)).alloc (.cells #[.int .u64 sr, .slice ka kn kc, .slice va vn vc, .slice ta tn tc, .bool cl] 30)).alloc (.cells #[.int .i64 0, .int .u64 0] 63)))
  have HE3 := Lib.hid E3
  have B10 := Lib.hid b10
  have B11 := Lib.hid b11
  have HD3 := Lib.hid D3
  clear E3 b9 b10 b11 D3 HCa
  go_wp2_with (first
    | (go_at_call 58; (with_reducible refine (HKd.out _).mono ?_); rintro e w9 ⟨rfl, hE9⟩; replace HD3 := Lib.hid (HD3.out.ext hE9); replace HB9 := Lib.hid (HB9.out.ext hE9); replace B10 := Lib.hid (B10.out.ext hE9); replace B11 := Lib.hid (B11.out.ext hE9); replace HE3 := Lib.hid (HE3.out.trans hE9); replace HE39 := Lib.hid (HE39.out.trans hE9); have hz9 : w2.heap.size + 1 + 1 < w9.heap.size := B11.out.lt; clear hE9 c0 c1 c2 s0 s1 s2 s3 s4 o0 o1 o2; obtain ⟨c0, c1, c2⟩ := HD3.out.c.three; obtain ⟨s0, s1, s2, s3, s4⟩ := HB9.out.five; obtain ⟨o0, o1, o2⟩ := HD3.out.o.three)
    | (go_at_call 60; (with_reducible refine (HC3.out _ HE39.out).mono ?_); rintro e w4 ⟨hE4, ⟨ka4, kn4, kc4⟩, ⟨va4, vn4, vc4⟩, ⟨ta4, tn4, tc4⟩, rfl, hS4, hoff⟩; have hz4 : w2.heap.size + 1 + 1 < w4.heap.size := (B11.out.ext hE4).lt; have HB10 := Lib.hid (B10.out.ext hE4); have HB11 := Lib.hid (B11.out.ext hE4); have D4 := Lib.hid (HD3.out.ext hE4); have HE4 := Lib.hid (HE3.out.trans hE4); have HS4 := Lib.hid hS4; have HOff := Lib.hid hoff; obtain ⟨q0, q1, q2, q3, q4⟩ := HB10.out.five; have f0 := HB10.out.f 0; have f1 := HB10.out.f 1; have f2 := HB10.out.f 2; have f3 := HB10.out.f 3; have f4 := HB10.out.f 4; obtain ⟨u0, u1⟩ := HB11.out.two; have g0 := HB11.out.f 0; have g1 := HB11.out.f 1; clear hE4 hS4 hoff HC3 B10 B11 HD3 HE3 HB9 HE39 c0 c1 c2 s0 s1 s2 s3 s4 o0 o1 o2))
  have hO : ∀ B, (B < w1.heap.size ∨ w2.heap.size ≤ B ∧ B < w2.heap.size + 1 + 1 + 1) → OffS ⟨ka4, kn4, kc4⟩ ⟨va4, vn4, vc4⟩ ⟨ta4, tn4, tc4⟩ B := fun B hB => HOff.out B (by first | (simp only [World.size_alloc]; omega) | omega) (by
    rcases hB with h | h
    · obtain ⟨h1, h2, h3⟩ := HO2.out B h
      exact ⟨fun _ => h1, fun _ => h2, fun _ => h3⟩
    · exact HS2.out.off (by omega))
  have HO := Lib.hid hO
  clear hO q0 q1 q2 q3 q4 f0 f1 f2 f3 f4 u0 u1 g0 g1
  have K10 : Cb (((((((w4.setCell ⟨w2.heap.size + 1, 0, none⟩ (.int .u64 dr)).setCell ⟨w2.heap.size + 1, 1, none⟩ (.slice ka4 kn4 kc4)).setCell ⟨w2.heap.size + 1, 2, none⟩ (.slice va4 vn4 vc4)).setCell ⟨w2.heap.size + 1, 3, none⟩ (.slice ta4 tn4 tc4)).setCell ⟨w2.heap.size + 1, 4, none⟩ (.bool dc)).setCell ⟨w2.heap.size + 1 + 1, 0, none⟩ (.int .i64 d2)).setCell ⟨w2.heap.size + 1 + 1, 1, none⟩ (.int .u64 d3)) (w2.heap.size + 1) [.int .u64 dr, .slice ka4 kn4 kc4, .slice va4 vn4 vc4, .slice ta4 tn4 tc4, .bool dc] := ((HB10.out.st (.int .u64 dr) (.slice ka4 kn4 kc4) (.slice va4 vn4 vc4) (.slice ta4 tn4 tc4) (.bool dc)).far (B := w2.heap.size + 1 + 1) (by omega) 0 (.int .i64 d2)).far (B := w2.heap.size + 1 + 1) (by omega) 1 (.int .u64 d3)
  have K11 : Cb (((((((w4.setCell ⟨w2.heap.size + 1, 0, none⟩ (.int .u64 dr)).setCell ⟨w2.heap.size + 1, 1, none⟩ (.slice ka4 kn4 kc4)).setCell ⟨w2.heap.size + 1, 2, none⟩ (.slice va4 vn4 vc4)).setCell ⟨w2.heap.size + 1, 3, none⟩ (.slice ta4 tn4 tc4)).setCell ⟨w2.heap.size + 1, 4, none⟩ (.bool dc)).setCell ⟨w2.heap.size + 1 + 1, 0, none⟩ (.int .i64 d2)).setCell ⟨w2.heap.size + 1 + 1, 1, none⟩ (.int .u64 d3)) (w2.heap.size + 1 + 1) [.int .i64 d2, .int .u64 d3] := ((((((HB11.out.far (B := w2.heap.size + 1) (by omega) 0 (.int .u64 dr)).far (B := w2.heap.size + 1) (by omega) 1 (.slice ka4 kn4 kc4)).far (B := w2.heap.size + 1) (by omega) 2 (.slice va4 vn4 vc4)).far (B := w2.heap.size + 1) (by omega) 3 (.slice ta4 tn4 tc4)).far (B := w2.heap.size + 1) (by omega) 4 (.bool dc))).rs (.int .i64 d2) (.int .u64 d3)
  have K6 := (((((((D4.out.x.far (B := w2.heap.size + 1) (by omega) 0 (.int .u64 dr)).far (B := w2.heap.size + 1) (by omega) 1 (.slice ka4 kn4 kc4)).far (B := w2.heap.size + 1) (by omega) 2 (.slice va4 vn4 vc4)).far (B := w2.heap.size + 1) (by omega) 3 (.slice ta4 tn4 tc4)).far (B := w2.heap.size + 1) (by omega) 4 (.bool dc)).far (B := w2.heap.size + 1 + 1) (by omega) 0 (.int .i64 d2)).far (B := w2.heap.size + 1 + 1) (by omega) 1 (.int .u64 d3))
  have K7 := (((((((D4.out.y.far (B := w2.heap.size + 1) (by omega) 0 (.int .u64 dr)).far (B := w2.heap.size + 1) (by omega) 1 (.slice ka4 kn4 kc4)).far (B := w2.heap.size + 1) (by omega) 2 (.slice va4 vn4 vc4)).far (B := w2.heap.size + 1) (by omega) 3 (.slice ta4 tn4 tc4)).far (B := w2.heap.size + 1) (by omega) 4 (.bool dc)).far (B := w2.heap.size + 1 + 1) (by omega) 0 (.int .i64 d2)).far (B := w2.heap.size + 1 + 1) (by omega) 1 (.int .u64 d3))
  have HSS : SS (((((((w4.setCell ⟨w2.heap.size + 1, 0, none⟩ (.int .u64 dr)).setCell ⟨w2.heap.size + 1, 1, none⟩ (.slice ka4 kn4 kc4)).setCell ⟨w2.heap.size + 1, 2, none⟩ (.slice va4 vn4 vc4)).setCell ⟨w2.heap.size + 1, 3, none⟩ (.slice ta4 tn4 tc4)).setCell ⟨w2.heap.size + 1, 4, none⟩ (.bool dc)).setCell ⟨w2.heap.size + 1 + 1, 0, none⟩ (.int .i64 d2)).setCell ⟨w2.heap.size + 1 + 1, 1, none⟩ (.int .u64 d3)) ⟨ka4, kn4, kc4⟩ ⟨va4, vn4, vc4⟩ ⟨ta4, tn4, tc4⟩ ⟨dr, dk, dv, dt, dc⟩ := by
    repeat (first | (with_reducible exact HS4.out) | (with_reducible refine SS.set ?_ (HO.out _ (by omega)) _ _))
  have HEE : Ext w (((((((w4.setCell ⟨w2.heap.size + 1, 0, none⟩ (.int .u64 dr)).setCell ⟨w2.heap.size + 1, 1, none⟩ (.slice ka4 kn4 kc4)).setCell ⟨w2.heap.size + 1, 2, none⟩ (.slice va4 vn4 vc4)).setCell ⟨w2.heap.size + 1, 3, none⟩ (.slice ta4 tn4 tc4)).setCell ⟨w2.heap.size + 1, 4, none⟩ (.bool dc)).setCell ⟨w2.heap.size + 1 + 1, 0, none⟩ (.int .i64 d2)).setCell ⟨w2.heap.size + 1 + 1, 1, none⟩ (.int .u64 d3)) := by
    repeat (first | (with_reducible exact HE2.out.trans HE4.out) | (with_reducible refine Ext.setCell ?_ (by omega) _))
  clear HB10 HB11 D4 HS4 HE4 HE2 HS2 HO2 HOff
  generalize (((((((w4.setCell ⟨w2.heap.size + 1, 0, none⟩ (.int .u64 dr)).setCell ⟨w2.heap.size + 1, 1, none⟩ (.slice ka4 kn4 kc4)).setCell ⟨w2.heap.size + 1, 2, none⟩ (.slice va4 vn4 vc4)).setCell ⟨w2.heap.size + 1, 3, none⟩ (.slice ta4 tn4 tc4)).setCell ⟨w2.heap.size + 1, 4, none⟩ (.bool dc)).setCell ⟨w2.heap.size + 1 + 1, 0, none⟩ (.int .i64 d2)).setCell ⟨w2.heap.size + 1 + 1, 1, none⟩ (.int .u64 d3)) = w5 at K10 K11 K6 K7 HSS HEE ⊢
  obtain ⟨k0, k1, k2, k3, k4⟩ := K10.five
  obtain ⟨l0, l1⟩ := K11.two
  have f0 := K6.f 0
  have f1 := K6.f 1
  have f2 := K6.f 2
  have f3 := K6.f 3
  have f4 := K6.f 4
  have g0 := K7.f 0
  have g1 := K7.f 1
  obtain ⟨x0, x1, x2, x3, x4⟩ := K6.five
  obtain ⟨y0, y1⟩ := K7.two
  have HK6 := Lib.hid K6
  have HK7 := Lib.hid K7
  have HSx := Lib.hid HSS
  have HEx := Lib.hid HEE
  clear K10 K11 K6 K7 HSS HEE
  go_region_held3 (fun w' => (w'.cell? ⟨w2.heap.size + 1, 0, none⟩ = some (.int .u64 dr) ∧ w'.cell? ⟨w2.heap.size + 1, 1, none⟩ = some (.slice ka4 kn4 kc4) ∧ w'.cell? ⟨w2.heap.size + 1, 2, none⟩ = some (.slice va4 vn4 vc4) ∧ w'.cell? ⟨w2.heap.size + 1, 3, none⟩ = some (.slice ta4 tn4 tc4) ∧ w'.cell? ⟨w2.heap.size + 1, 4, none⟩ = some (.bool dc)) ∧ w'.cell? ⟨w2.heap.size + 1 + 1, 0, none⟩ = some (.int .i64 d2) ∧ w'.cell? ⟨w2.heap.size + 1 + 1, 1, none⟩ = some (.int .u64 d3))
    (repeat' (first | (with_reducible assumption) | (with_reducible refine And.intro ?_ ?_) | (with_reducible refine (cell_far (by omega)).trans ?_) | (with_reducible refine cell_drew ?_)))
    (fail)
  all_goals
    rename_i hq
    clear hq
    go_wp2_with (fail)
    refine bodyPost_ret (v := .tuple #[sv dr ⟨ka4, kn4, kc4⟩ ⟨va4, vn4, vc4⟩ ⟨ta4, tn4, tc4⟩ dc, rv d2 d3, .int .i64 0]) (by simp [results, Tryz.results27, go_sem, x0, x1, x2, x3, x4, y0, y1]) rfl ?_
    refine ⟨?_, ⟨ka4, kn4, kc4⟩, ⟨va4, vn4, vc4⟩, ⟨ta4, tn4, tc4⟩, rfl, ?_, fun B hB => HO.out B (.inl (by omega))⟩
    · repeat (first | (with_reducible exact HEx.out) | (with_reducible refine Ext.setCell ?_ (by omega) _) | (with_reducible refine Ext.drew ?_))
    · repeat (first | (with_reducible exact HSx.out) | (with_reducible refine SS.set ?_ (HO.out _ (by omega)) _ _) | (with_reducible refine SS.ext ?_ (Ext.drew (Ext.refl _))))

theorem rdo_any (k p m : Int) (a v t : Sl) (s : St) (o : Cl) (w : World) (hm : I64 m) (hS : SS w a v t s) (ho : Wc o) : Calls Tryz.prog 27 #[cf k p m, sv s.reg a v t s.closed, ov o] w (DoR (doF k p m s o) w) := by
  by_cases hf : fits k p m = true
  · by_cases hR : rightS k p m s = true
    · have e : doF k p m s o = ((doS k m s o).1, (doS k m s o).2, 0) := by unfold doF; rw [if_pos hf, if_pos hR]
      rw [e]
      by_cases hk : keyed k = true
      · exact rdo_tab k p m a v t s o w hm hS ho hf hR hk
      · have hb := fits_of hf
        have hk2 : k = 1 ∨ k = 5 := by
          have : ¬ (k = 2 ∨ k = 3 ∨ k = 4) := fun h => hk (decide_eq_true h)
          omega
        rcases hk2 with rfl | rfl
        · exact rdo_reg p m a v t s o w hm hS ho hf hR
        · exact rdo_bal p m a v t s o w hm hS ho hf hR
    · have e : doF k p m s o = (zeroS, (0, 0), 1) := by unfold doF; rw [if_pos hf, if_neg hR]
      rw [e]
      exact rdo_arg k p m a v t s o w hm hS hf (by simpa using hR)
  · have e : doF k p m s o = (zeroS, (0, 0), 5) := by unfold doF; rw [if_neg hf]
    rw [e]
    exact rdo_fit k p m a v t s o w (by simpa using hf)

end Go.Proofs.YtmonkcekkhfafaaGreatDoor.Aut

