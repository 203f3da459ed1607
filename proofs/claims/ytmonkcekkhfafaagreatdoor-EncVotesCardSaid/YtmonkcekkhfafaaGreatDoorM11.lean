/-
  Parts of a proof, one behind the other: AutPlA, AutPlB. Each says its own conditions.
-/
import Derived.Test.YtmonkcekkhfafaaGreatDoorM10

/- AutPlA:
  What the document's placed does and tells: a call of what has keys, of a key that is at a place, or would be. Conditions: integers' bounds; the state's slices are there, as many values as keys where there are values, the place within them.
-/
namespace Go.Proofs.YtmonkcekkhfafaaGreatDoor.Aut
open Go.RowKit (Below intOf)
open Reg (cf bx)


set_option maxHeartbeats 4000000 in
set_option maxRecDepth 100000 in
theorem pl7n (k p m : Int) (a v t : Sl) (s : St) (ky vl : Int) (x : Int) (i : Nat) (w : World) (hp : Pl k p m a v t s ⟨7, ky, vl⟩ x i false w) :
    Calls Tryz.prog 103 #[cf k p m, sv s.reg a v t s.closed, ov ⟨7, ky, vl⟩, .int .u64 x, .int .i64 i, .bool false] w (DE a v t (placedS k m s ⟨7, ky, vl⟩ x i false) w) := by
  obtain ⟨ka, kn, kc⟩ := a
  obtain ⟨va, vn, vc⟩ := v
  obtain ⟨ta, tn, tc⟩ := t
  obtain ⟨r, ks, vs, vt, cl⟩ := s
  obtain ⟨_, hS, ho, hx, hi, hh, hv, hl⟩ := hp
  have hr := hS.1
  have HS := Lib.hid hS
  have hkl := hS.2.1.len
  have hvl := hS.2.2.1.len
  dsimp only at hkl hvl hi hh hv hl
  rw [hkl] at hi hh hv hl
  rw [hvl] at hv
  have HVd := Lib.hid (fun W => valued_is k p m W)
  have HV := Lib.hid hv
  have HH := Lib.hid hh
  clear hS hkl hvl hv hh
  dsimp only [sv, ov] at *
  have hz : RowKit.Hid (placedS k m ⟨r, ks, vs, vt, cl⟩ ⟨7, ky, vl⟩ x i false = (⟨r, ks, vs, vt, cl⟩, (12, 0))) := Lib.hid (by rfl)
  go_enter Tryz.func103, Tryz.ntmps103
  go_wp2_with (go_at_call 107; (with_reducible refine (HVd.out _).mono ?_); rintro e w1 ⟨rfl, rfl⟩)
  go_region_held3 (fun w' => (w'.cell? ⟨w.heap.size + 1, 0, none⟩ = some (.int .u64 r) ∧ w'.cell? ⟨w.heap.size + 1, 1, none⟩ = some (.slice ka kn kc) ∧ w'.cell? ⟨w.heap.size + 1, 2, none⟩ = some (.slice va vn vc) ∧ w'.cell? ⟨w.heap.size + 1, 3, none⟩ = some (.slice ta tn tc) ∧ w'.cell? ⟨w.heap.size + 1, 4, none⟩ = some (.bool cl)))
    (first | ((show Five _ (w.heap.size + 1) r ⟨ka, kn, kc⟩ ⟨va, vn, vc⟩ ⟨ta, tn, tc⟩ cl); repeat (first | ((with_reducible refine five_at ?_); (simp; done)) | with_reducible refine Five.alloc ?_ _ | with_reducible refine Five.drew ?_ | with_reducible refine Five.set ?_ (by omega) _ _)) | go_keep)
    (first
      | (go_at_call 100; (with_reducible refine (refuses_is _ _).mono ?_); rintro e w1 ⟨rfl, rfl⟩))
  rename_i hq
  clear hq
  go_wp2_with (fail)
  refine bodyPost_ret (v := .tuple #[sv r ⟨ka, kn, kc⟩ ⟨va, vn, vc⟩ ⟨ta, tn, tc⟩ cl, rv 12 (0)]) (by simp [results, Tryz.results103, go_sem]) rfl ?_
  rw [hz.out]
  refine ⟨?_, _, _, _, rfl, ⟨hr, HS.out.2.1.ext ?_, HS.out.2.2.1.ext ?_, HS.out.2.2.2.ext ?_⟩, fun _ _ h => h⟩ <;> repeat (first | with_reducible exact Ext.refl _ | with_reducible refine Ext.alloc ?_ _ | with_reducible refine Ext.drew ?_)

set_option maxHeartbeats 4000000 in
set_option maxRecDepth 100000 in
theorem pl5h (k p m : Int) (a v t : Sl) (s : St) (ky vl : Int) (x : Int) (i : Nat) (w : World) (hvd : valued k = false) (hp : Pl k p m a v t s ⟨5, ky, vl⟩ x i true w) :
    Calls Tryz.prog 103 #[cf k p m, sv s.reg a v t s.closed, ov ⟨5, ky, vl⟩, .int .u64 x, .int .i64 i, .bool true] w (DE a v t (placedS k m s ⟨5, ky, vl⟩ x i true) w) := by
  obtain ⟨ka, kn, kc⟩ := a
  obtain ⟨va, vn, vc⟩ := v
  obtain ⟨ta, tn, tc⟩ := t
  obtain ⟨r, ks, vs, vt, cl⟩ := s
  obtain ⟨_, hS, ho, hx, hi, hh, hv, hl⟩ := hp
  have hr := hS.1
  have HS := Lib.hid hS
  have hkl := hS.2.1.len
  have hvl := hS.2.2.1.len
  dsimp only at hkl hvl hi hh hv hl
  rw [hkl] at hi hh hv hl
  rw [hvl] at hv
  have HVd := Lib.hid (fun W => valued_is k p m W)
  have HV := Lib.hid hv
  have HH := Lib.hid hh
  clear hS hkl hvl hv hh
  dsimp only [sv, ov] at *
  rw [hvd] at HVd
  have hz : RowKit.Hid (placedS k m ⟨r, ks, vs, vt, cl⟩ ⟨5, ky, vl⟩ x i true = (⟨r, ks, vs, vt, cl⟩, (0, bitZ true))) := Lib.hid (by simp [placedS, hvd])
  go_enter Tryz.func103, Tryz.ntmps103
  go_wp2_with (go_at_call 107; (with_reducible refine (HVd.out _).mono ?_); rintro e w1 ⟨rfl, rfl⟩)
  go_region_held3 (fun w' => (w'.cell? ⟨w.heap.size + 1, 0, none⟩ = some (.int .u64 r) ∧ w'.cell? ⟨w.heap.size + 1, 1, none⟩ = some (.slice ka kn kc) ∧ w'.cell? ⟨w.heap.size + 1, 2, none⟩ = some (.slice va vn vc) ∧ w'.cell? ⟨w.heap.size + 1, 3, none⟩ = some (.slice ta tn tc) ∧ w'.cell? ⟨w.heap.size + 1, 4, none⟩ = some (.bool cl)))
    (first | ((show Five _ (w.heap.size + 1) r ⟨ka, kn, kc⟩ ⟨va, vn, vc⟩ ⟨ta, tn, tc⟩ cl); repeat (first | ((with_reducible refine five_at ?_); (simp; done)) | with_reducible refine Five.alloc ?_ _ | with_reducible refine Five.drew ?_ | with_reducible refine Five.set ?_ (by omega) _ _)) | go_keep)
    (first
      | (go_at_call 105; (with_reducible refine (bit_any _ _).mono ?_); rintro e w1 ⟨rfl, rfl⟩)
      | (go_at_call 97; (with_reducible refine (tells_is _ _).mono ?_); rintro e w1 ⟨rfl, rfl⟩))
  rename_i hq
  clear hq
  go_wp2_with (fail)
  refine bodyPost_ret (v := .tuple #[sv r ⟨ka, kn, kc⟩ ⟨va, vn, vc⟩ ⟨ta, tn, tc⟩ cl, rv 0 (bitZ true)]) (by simp [results, Tryz.results103, go_sem]) rfl ?_
  rw [hz.out]
  refine ⟨?_, _, _, _, rfl, ⟨hr, HS.out.2.1.ext ?_, HS.out.2.2.1.ext ?_, HS.out.2.2.2.ext ?_⟩, fun _ _ h => h⟩ <;> repeat (first | with_reducible exact Ext.refl _ | with_reducible refine Ext.alloc ?_ _ | with_reducible refine Ext.drew ?_)

set_option maxHeartbeats 4000000 in
set_option maxRecDepth 100000 in
theorem pl5n (k p m : Int) (a v t : Sl) (s : St) (ky vl : Int) (x : Int) (i : Nat) (w : World) (hvd : valued k = false) (hp : Pl k p m a v t s ⟨5, ky, vl⟩ x i false w) :
    Calls Tryz.prog 103 #[cf k p m, sv s.reg a v t s.closed, ov ⟨5, ky, vl⟩, .int .u64 x, .int .i64 i, .bool false] w (DE a v t (placedS k m s ⟨5, ky, vl⟩ x i false) w) := by
  obtain ⟨ka, kn, kc⟩ := a
  obtain ⟨va, vn, vc⟩ := v
  obtain ⟨ta, tn, tc⟩ := t
  obtain ⟨r, ks, vs, vt, cl⟩ := s
  obtain ⟨_, hS, ho, hx, hi, hh, hv, hl⟩ := hp
  have hr := hS.1
  have HS := Lib.hid hS
  have hkl := hS.2.1.len
  have hvl := hS.2.2.1.len
  dsimp only at hkl hvl hi hh hv hl
  rw [hkl] at hi hh hv hl
  rw [hvl] at hv
  have HVd := Lib.hid (fun W => valued_is k p m W)
  have HV := Lib.hid hv
  have HH := Lib.hid hh
  clear hS hkl hvl hv hh
  dsimp only [sv, ov] at *
  rw [hvd] at HVd
  have hz : RowKit.Hid (placedS k m ⟨r, ks, vs, vt, cl⟩ ⟨5, ky, vl⟩ x i false = (⟨r, ks, vs, vt, cl⟩, (0, bitZ false))) := Lib.hid (by simp [placedS, hvd])
  go_enter Tryz.func103, Tryz.ntmps103
  go_wp2_with (go_at_call 107; (with_reducible refine (HVd.out _).mono ?_); rintro e w1 ⟨rfl, rfl⟩)
  go_region_held3 (fun w' => (w'.cell? ⟨w.heap.size + 1, 0, none⟩ = some (.int .u64 r) ∧ w'.cell? ⟨w.heap.size + 1, 1, none⟩ = some (.slice ka kn kc) ∧ w'.cell? ⟨w.heap.size + 1, 2, none⟩ = some (.slice va vn vc) ∧ w'.cell? ⟨w.heap.size + 1, 3, none⟩ = some (.slice ta tn tc) ∧ w'.cell? ⟨w.heap.size + 1, 4, none⟩ = some (.bool cl)))
    (first | ((show Five _ (w.heap.size + 1) r ⟨ka, kn, kc⟩ ⟨va, vn, vc⟩ ⟨ta, tn, tc⟩ cl); repeat (first | ((with_reducible refine five_at ?_); (simp; done)) | with_reducible refine Five.alloc ?_ _ | with_reducible refine Five.drew ?_ | with_reducible refine Five.set ?_ (by omega) _ _)) | go_keep)
    (first
      | (go_at_call 105; (with_reducible refine (bit_any _ _).mono ?_); rintro e w1 ⟨rfl, rfl⟩)
      | (go_at_call 97; (with_reducible refine (tells_is _ _).mono ?_); rintro e w1 ⟨rfl, rfl⟩))
  rename_i hq
  clear hq
  go_wp2_with (fail)
  refine bodyPost_ret (v := .tuple #[sv r ⟨ka, kn, kc⟩ ⟨va, vn, vc⟩ ⟨ta, tn, tc⟩ cl, rv 0 (bitZ false)]) (by simp [results, Tryz.results103, go_sem]) rfl ?_
  rw [hz.out]
  refine ⟨?_, _, _, _, rfl, ⟨hr, HS.out.2.1.ext ?_, HS.out.2.2.1.ext ?_, HS.out.2.2.2.ext ?_⟩, fun _ _ h => h⟩ <;> repeat (first | with_reducible exact Ext.refl _ | with_reducible refine Ext.alloc ?_ _ | with_reducible refine Ext.drew ?_)

set_option maxHeartbeats 4000000 in
set_option maxRecDepth 100000 in
theorem pl10n (k p m : Int) (a v t : Sl) (s : St) (ky vl : Int) (x : Int) (i : Nat) (w : World) (hvd : valued k = true) (hp : Pl k p m a v t s ⟨10, ky, vl⟩ x i false w) :
    Calls Tryz.prog 103 #[cf k p m, sv s.reg a v t s.closed, ov ⟨10, ky, vl⟩, .int .u64 x, .int .i64 i, .bool false] w (DE a v t (placedS k m s ⟨10, ky, vl⟩ x i false) w) := by
  obtain ⟨ka, kn, kc⟩ := a
  obtain ⟨va, vn, vc⟩ := v
  obtain ⟨ta, tn, tc⟩ := t
  obtain ⟨r, ks, vs, vt, cl⟩ := s
  obtain ⟨_, hS, ho, hx, hi, hh, hv, hl⟩ := hp
  have hr := hS.1
  have HS := Lib.hid hS
  have hkl := hS.2.1.len
  have hvl := hS.2.2.1.len
  dsimp only at hkl hvl hi hh hv hl
  rw [hkl] at hi hh hv hl
  rw [hvl] at hv
  have HVd := Lib.hid (fun W => valued_is k p m W)
  have HV := Lib.hid hv
  have HH := Lib.hid hh
  clear hS hkl hvl hv hh
  dsimp only [sv, ov] at *
  rw [hvd] at HVd
  have hz : RowKit.Hid (placedS k m ⟨r, ks, vs, vt, cl⟩ ⟨10, ky, vl⟩ x i false = (⟨r, ks, vs, vt, cl⟩, (12, 0))) := Lib.hid (by simp [placedS, hvd])
  go_enter Tryz.func103, Tryz.ntmps103
  go_wp2_with (go_at_call 107; (with_reducible refine (HVd.out _).mono ?_); rintro e w1 ⟨rfl, rfl⟩)
  go_region_held3 (fun w' => (w'.cell? ⟨w.heap.size + 1, 0, none⟩ = some (.int .u64 r) ∧ w'.cell? ⟨w.heap.size + 1, 1, none⟩ = some (.slice ka kn kc) ∧ w'.cell? ⟨w.heap.size + 1, 2, none⟩ = some (.slice va vn vc) ∧ w'.cell? ⟨w.heap.size + 1, 3, none⟩ = some (.slice ta tn tc) ∧ w'.cell? ⟨w.heap.size + 1, 4, none⟩ = some (.bool cl)))
    (first | ((show Five _ (w.heap.size + 1) r ⟨ka, kn, kc⟩ ⟨va, vn, vc⟩ ⟨ta, tn, tc⟩ cl); repeat (first | ((with_reducible refine five_at ?_); (simp; done)) | with_reducible refine Five.alloc ?_ _ | with_reducible refine Five.drew ?_ | with_reducible refine Five.set ?_ (by omega) _ _)) | go_keep)
    (first
      | (go_at_call 100; (with_reducible refine (refuses_is _ _).mono ?_); rintro e w1 ⟨rfl, rfl⟩))
  rename_i hq
  clear hq
  go_wp2_with (fail)
  refine bodyPost_ret (v := .tuple #[sv r ⟨ka, kn, kc⟩ ⟨va, vn, vc⟩ ⟨ta, tn, tc⟩ cl, rv 12 (0)]) (by simp [results, Tryz.results103, go_sem]) rfl ?_
  rw [hz.out]
  refine ⟨?_, _, _, _, rfl, ⟨hr, HS.out.2.1.ext ?_, HS.out.2.2.1.ext ?_, HS.out.2.2.2.ext ?_⟩, fun _ _ h => h⟩ <;> repeat (first | with_reducible exact Ext.refl _ | with_reducible refine Ext.alloc ?_ _ | with_reducible refine Ext.drew ?_)

set_option maxHeartbeats 4000000 in
set_option maxRecDepth 100000 in
theorem pl10h (k p m : Int) (a v t : Sl) (s : St) (ky vl : Int) (x : Int) (i : Nat) (w : World) (hvd : valued k = true) (hp : Pl k p m a v t s ⟨10, ky, vl⟩ x i true w) :
    Calls Tryz.prog 103 #[cf k p m, sv s.reg a v t s.closed, ov ⟨10, ky, vl⟩, .int .u64 x, .int .i64 i, .bool true] w (DE a v t (placedS k m s ⟨10, ky, vl⟩ x i true) w) := by
  obtain ⟨ka, kn, kc⟩ := a
  obtain ⟨va, vn, vc⟩ := v
  obtain ⟨ta, tn, tc⟩ := t
  obtain ⟨r, ks, vs, vt, cl⟩ := s
  obtain ⟨_, hS, ho, hx, hi, hh, hv, hl⟩ := hp
  have hr := hS.1
  have HS := Lib.hid hS
  have hkl := hS.2.1.len
  have hvl := hS.2.2.1.len
  dsimp only at hkl hvl hi hh hv hl
  rw [hkl] at hi hh hv hl
  rw [hvl] at hv
  have HVd := Lib.hid (fun W => valued_is k p m W)
  have HV := Lib.hid hv
  have HH := Lib.hid hh
  clear hS hkl hvl hv hh
  dsimp only [sv, ov] at *
  rw [hvd] at HVd
  have hin := HH.out rfl
  obtain ⟨y, hy, uy, b, o, e0, cy⟩ := HS.out.2.2.1.get (k := i) (by simp only; have := HV.out hvd; omega)
  dsimp only at hy e0 cy
  subst e0
  have hji : (i : Int) < vn := by have := HV.out hvd; omega
  have hji0 : (0 : Int) ≤ i := by omega
  have hz : RowKit.Hid (placedS k m ⟨r, ks, vs, vt, cl⟩ ⟨10, ky, vl⟩ x i true = (⟨r, ks, vs, vt, cl⟩, (0, y))) := Lib.hid (by simp [placedS, hvd, hy])
  have cyy := fun W (hW : Ext w W) => hW.cell cy
  clear hy
  go_enter Tryz.func103, Tryz.ntmps103
  go_wp2_with (go_at_call 107; (with_reducible refine (HVd.out _).mono ?_); rintro e w1 ⟨rfl, rfl⟩)
  go_region_held3 (fun w' => (w'.cell? ⟨w.heap.size + 1, 0, none⟩ = some (.int .u64 r) ∧ w'.cell? ⟨w.heap.size + 1, 1, none⟩ = some (.slice ka kn kc) ∧ w'.cell? ⟨w.heap.size + 1, 2, none⟩ = some (.slice (some ⟨b, o, none⟩) vn vc) ∧ w'.cell? ⟨w.heap.size + 1, 3, none⟩ = some (.slice ta tn tc) ∧ w'.cell? ⟨w.heap.size + 1, 4, none⟩ = some (.bool cl) ∧ w'.cell? ⟨b, o + i, none⟩ = some (.int .u64 y)))
    (first | exact and5 (by ((show Five _ (w.heap.size + 1) r ⟨ka, kn, kc⟩ ⟨some ⟨b, o, none⟩, vn, vc⟩ ⟨ta, tn, tc⟩ cl); repeat (first | ((with_reducible refine five_at ?_); (simp; done)) | with_reducible refine Five.alloc ?_ _ | with_reducible refine Five.drew ?_ | with_reducible refine Five.set ?_ (by omega) _ _))) (cyy _ (by repeat (first | with_reducible exact Ext.refl _ | with_reducible refine Ext.alloc ?_ _ | with_reducible refine Ext.drew ?_))) | go_keep)
    (first
      | (go_at_call 97; (with_reducible refine (tells_is _ _).mono ?_); rintro e w1 ⟨rfl, rfl⟩))
  rename_i hq
  clear hq
  go_wp2_with (fail)
  refine bodyPost_ret (v := .tuple #[sv r ⟨ka, kn, kc⟩ ⟨some ⟨b, o, none⟩, vn, vc⟩ ⟨ta, tn, tc⟩ cl, rv 0 (y)]) (by simp [results, Tryz.results103, go_sem]) rfl ?_
  rw [hz.out]
  refine ⟨?_, _, _, _, rfl, ⟨hr, HS.out.2.1.ext ?_, HS.out.2.2.1.ext ?_, HS.out.2.2.2.ext ?_⟩, fun _ _ h => h⟩ <;> repeat (first | with_reducible exact Ext.refl _ | with_reducible refine Ext.alloc ?_ _ | with_reducible refine Ext.drew ?_)

set_option maxHeartbeats 4000000 in
set_option maxRecDepth 100000 in
theorem pl6h (k p m : Int) (a v t : Sl) (s : St) (ky vl : Int) (x : Int) (i : Nat) (w : World) (hvd : valued k = false) (hp : Pl k p m a v t s ⟨6, ky, vl⟩ x i true w) :
    Calls Tryz.prog 103 #[cf k p m, sv s.reg a v t s.closed, ov ⟨6, ky, vl⟩, .int .u64 x, .int .i64 i, .bool true] w (DE a v t (placedS k m s ⟨6, ky, vl⟩ x i true) w) := by
  obtain ⟨ka, kn, kc⟩ := a
  obtain ⟨va, vn, vc⟩ := v
  obtain ⟨ta, tn, tc⟩ := t
  obtain ⟨r, ks, vs, vt, cl⟩ := s
  obtain ⟨_, hS, ho, hx, hi, hh, hv, hl⟩ := hp
  have hr := hS.1
  have HS := Lib.hid hS
  have hkl := hS.2.1.len
  have hvl := hS.2.2.1.len
  dsimp only at hkl hvl hi hh hv hl
  rw [hkl] at hi hh hv hl
  rw [hvl] at hv
  have HVd := Lib.hid (fun W => valued_is k p m W)
  have HV := Lib.hid hv
  have HH := Lib.hid hh
  clear hS hkl hvl hv hh
  dsimp only [sv, ov] at *
  rw [hvd] at HVd
  have hz : RowKit.Hid (placedS k m ⟨r, ks, vs, vt, cl⟩ ⟨6, ky, vl⟩ x i true = (⟨r, ks, vs, vt, cl⟩, (0, 0))) := Lib.hid (by simp [placedS, hvd])
  go_enter Tryz.func103, Tryz.ntmps103
  go_wp2_with (go_at_call 107; (with_reducible refine (HVd.out _).mono ?_); rintro e w1 ⟨rfl, rfl⟩)
  go_region_held3 (fun w' => (w'.cell? ⟨w.heap.size + 1, 0, none⟩ = some (.int .u64 r) ∧ w'.cell? ⟨w.heap.size + 1, 1, none⟩ = some (.slice ka kn kc) ∧ w'.cell? ⟨w.heap.size + 1, 2, none⟩ = some (.slice va vn vc) ∧ w'.cell? ⟨w.heap.size + 1, 3, none⟩ = some (.slice ta tn tc) ∧ w'.cell? ⟨w.heap.size + 1, 4, none⟩ = some (.bool cl)))
    (first | ((show Five _ (w.heap.size + 1) r ⟨ka, kn, kc⟩ ⟨va, vn, vc⟩ ⟨ta, tn, tc⟩ cl); repeat (first | ((with_reducible refine five_at ?_); (simp; done)) | with_reducible refine Five.alloc ?_ _ | with_reducible refine Five.drew ?_ | with_reducible refine Five.set ?_ (by omega) _ _)) | go_keep)
    (first
      | (go_at_call 97; (with_reducible refine (tells_is _ _).mono ?_); rintro e w1 ⟨rfl, rfl⟩))
  rename_i hq
  clear hq
  go_wp2_with (fail)
  refine bodyPost_ret (v := .tuple #[sv r ⟨ka, kn, kc⟩ ⟨va, vn, vc⟩ ⟨ta, tn, tc⟩ cl, rv 0 (0)]) (by simp [results, Tryz.results103, go_sem]) rfl ?_
  rw [hz.out]
  refine ⟨?_, _, _, _, rfl, ⟨hr, HS.out.2.1.ext ?_, HS.out.2.2.1.ext ?_, HS.out.2.2.2.ext ?_⟩, fun _ _ h => h⟩ <;> repeat (first | with_reducible exact Ext.refl _ | with_reducible refine Ext.alloc ?_ _ | with_reducible refine Ext.drew ?_)

set_option maxHeartbeats 4000000 in
set_option maxRecDepth 100000 in
theorem pl6f (k p m : Int) (a v t : Sl) (s : St) (ky vl : Int) (x : Int) (i : Nat) (w : World) (hvd : valued k = false) (hf : (s.keys.length : Int) = m) (hp : Pl k p m a v t s ⟨6, ky, vl⟩ x i false w) :
    Calls Tryz.prog 103 #[cf k p m, sv s.reg a v t s.closed, ov ⟨6, ky, vl⟩, .int .u64 x, .int .i64 i, .bool false] w (DE a v t (placedS k m s ⟨6, ky, vl⟩ x i false) w) := by
  obtain ⟨ka, kn, kc⟩ := a
  obtain ⟨va, vn, vc⟩ := v
  obtain ⟨ta, tn, tc⟩ := t
  obtain ⟨r, ks, vs, vt, cl⟩ := s
  obtain ⟨_, hS, ho, hx, hi, hh, hv, hl⟩ := hp
  have hr := hS.1
  have HS := Lib.hid hS
  have hkl := hS.2.1.len
  have hvl := hS.2.2.1.len
  dsimp only at hkl hvl hi hh hv hl
  rw [hkl] at hi hh hv hl
  rw [hvl] at hv
  have HVd := Lib.hid (fun W => valued_is k p m W)
  have HV := Lib.hid hv
  have HH := Lib.hid hh
  clear hS hkl hvl hv hh
  dsimp only [sv, ov] at *
  rw [hvd] at HVd
  have hkm : ((kn : Int) == m) = true := by have := HS.out.2.1.len; dsimp only at this hf; rw [this] at hf; simpa using hf
  have hz : RowKit.Hid (placedS k m ⟨r, ks, vs, vt, cl⟩ ⟨6, ky, vl⟩ x i false = (⟨r, ks, vs, vt, cl⟩, (11, 0))) := Lib.hid (by simp [placedS, hvd, hf])
  clear hf
  go_enter Tryz.func103, Tryz.ntmps103
  go_wp2_with (go_at_call 107; (with_reducible refine (HVd.out _).mono ?_); rintro e w1 ⟨rfl, rfl⟩)
  go_region_held3 (fun w' => (w'.cell? ⟨w.heap.size + 1, 0, none⟩ = some (.int .u64 r) ∧ w'.cell? ⟨w.heap.size + 1, 1, none⟩ = some (.slice ka kn kc) ∧ w'.cell? ⟨w.heap.size + 1, 2, none⟩ = some (.slice va vn vc) ∧ w'.cell? ⟨w.heap.size + 1, 3, none⟩ = some (.slice ta tn tc) ∧ w'.cell? ⟨w.heap.size + 1, 4, none⟩ = some (.bool cl)))
    (first | ((show Five _ (w.heap.size + 1) r ⟨ka, kn, kc⟩ ⟨va, vn, vc⟩ ⟨ta, tn, tc⟩ cl); repeat (first | ((with_reducible refine five_at ?_); (simp; done)) | with_reducible refine Five.alloc ?_ _ | with_reducible refine Five.drew ?_ | with_reducible refine Five.set ?_ (by omega) _ _)) | go_keep)
    (first
      | (go_at_call 100; (with_reducible refine (refuses_is _ _).mono ?_); rintro e w1 ⟨rfl, rfl⟩))
  rename_i hq
  clear hq
  go_wp2_with (fail)
  refine bodyPost_ret (v := .tuple #[sv r ⟨ka, kn, kc⟩ ⟨va, vn, vc⟩ ⟨ta, tn, tc⟩ cl, rv 11 (0)]) (by simp [results, Tryz.results103, go_sem]) rfl ?_
  rw [hz.out]
  refine ⟨?_, _, _, _, rfl, ⟨hr, HS.out.2.1.ext ?_, HS.out.2.2.1.ext ?_, HS.out.2.2.2.ext ?_⟩, fun _ _ h => h⟩ <;> repeat (first | with_reducible exact Ext.refl _ | with_reducible refine Ext.alloc ?_ _ | with_reducible refine Ext.drew ?_)

set_option maxHeartbeats 4000000 in
set_option maxRecDepth 100000 in
theorem pl11f (k p m : Int) (a v t : Sl) (s : St) (ky vl : Int) (x : Int) (i : Nat) (w : World) (hvd : valued k = true) (hf : (s.keys.length : Int) = m) (hp : Pl k p m a v t s ⟨11, ky, vl⟩ x i false w) :
    Calls Tryz.prog 103 #[cf k p m, sv s.reg a v t s.closed, ov ⟨11, ky, vl⟩, .int .u64 x, .int .i64 i, .bool false] w (DE a v t (placedS k m s ⟨11, ky, vl⟩ x i false) w) := by
  obtain ⟨ka, kn, kc⟩ := a
  obtain ⟨va, vn, vc⟩ := v
  obtain ⟨ta, tn, tc⟩ := t
  obtain ⟨r, ks, vs, vt, cl⟩ := s
  obtain ⟨_, hS, ho, hx, hi, hh, hv, hl⟩ := hp
  have hr := hS.1
  have HS := Lib.hid hS
  have hkl := hS.2.1.len
  have hvl := hS.2.2.1.len
  dsimp only at hkl hvl hi hh hv hl
  rw [hkl] at hi hh hv hl
  rw [hvl] at hv
  have HVd := Lib.hid (fun W => valued_is k p m W)
  have HV := Lib.hid hv
  have HH := Lib.hid hh
  clear hS hkl hvl hv hh
  dsimp only [sv, ov] at *
  rw [hvd] at HVd
  have hkm : ((kn : Int) == m) = true := by have := HS.out.2.1.len; dsimp only at this hf; rw [this] at hf; simpa using hf
  have hz : RowKit.Hid (placedS k m ⟨r, ks, vs, vt, cl⟩ ⟨11, ky, vl⟩ x i false = (⟨r, ks, vs, vt, cl⟩, (11, 0))) := Lib.hid (by simp [placedS, hvd, hf])
  clear hf
  go_enter Tryz.func103, Tryz.ntmps103
  go_wp2_with (go_at_call 107; (with_reducible refine (HVd.out _).mono ?_); rintro e w1 ⟨rfl, rfl⟩)
  go_region_held3 (fun w' => (w'.cell? ⟨w.heap.size + 1, 0, none⟩ = some (.int .u64 r) ∧ w'.cell? ⟨w.heap.size + 1, 1, none⟩ = some (.slice ka kn kc) ∧ w'.cell? ⟨w.heap.size + 1, 2, none⟩ = some (.slice va vn vc) ∧ w'.cell? ⟨w.heap.size + 1, 3, none⟩ = some (.slice ta tn tc) ∧ w'.cell? ⟨w.heap.size + 1, 4, none⟩ = some (.bool cl)))
    (first | ((show Five _ (w.heap.size + 1) r ⟨ka, kn, kc⟩ ⟨va, vn, vc⟩ ⟨ta, tn, tc⟩ cl); repeat (first | ((with_reducible refine five_at ?_); (simp; done)) | with_reducible refine Five.alloc ?_ _ | with_reducible refine Five.drew ?_ | with_reducible refine Five.set ?_ (by omega) _ _)) | go_keep)
    (first
      | (go_at_call 100; (with_reducible refine (refuses_is _ _).mono ?_); rintro e w1 ⟨rfl, rfl⟩))
  rename_i hq
  clear hq
  go_wp2_with (fail)
  refine bodyPost_ret (v := .tuple #[sv r ⟨ka, kn, kc⟩ ⟨va, vn, vc⟩ ⟨ta, tn, tc⟩ cl, rv 11 (0)]) (by simp [results, Tryz.results103, go_sem]) rfl ?_
  rw [hz.out]
  refine ⟨?_, _, _, _, rfl, ⟨hr, HS.out.2.1.ext ?_, HS.out.2.2.1.ext ?_, HS.out.2.2.2.ext ?_⟩, fun _ _ h => h⟩ <;> repeat (first | with_reducible exact Ext.refl _ | with_reducible refine Ext.alloc ?_ _ | with_reducible refine Ext.drew ?_)

end Go.Proofs.YtmonkcekkhfafaaGreatDoor.Aut

/- AutPlB:
  What the document's placed does and tells: a call of what has keys, of a key that is at a place, or would be. Conditions: integers' bounds; the state's slices are there, as many values as keys where there are values, the place within them.
-/
namespace Go.Proofs.YtmonkcekkhfafaaGreatDoor.Aut
open Go.RowKit (Below intOf)
open Reg (cf bx)


set_option maxHeartbeats 4000000 in
set_option maxRecDepth 100000 in
theorem plbadh (k p m : Int) (a v t : Sl) (s : St) (cd ky vl : Int) (x : Int) (i : Nat) (w : World) (h7 : cd ≠ 7) (h8 : cd ≠ 8) (n5 : ¬ (cd = 5 ∧ valued k = false)) (n10 : ¬ (cd = 10 ∧ valued k = true)) (n6 : ¬ (cd = 6 ∧ valued k = false)) (n11 : ¬ (cd = 11 ∧ valued k = true)) (hp : Pl k p m a v t s ⟨cd, ky, vl⟩ x i true w) :
    Calls Tryz.prog 103 #[cf k p m, sv s.reg a v t s.closed, ov ⟨cd, ky, vl⟩, .int .u64 x, .int .i64 i, .bool true] w (DE a v t (placedS k m s ⟨cd, ky, vl⟩ x i true) w) := by
  obtain ⟨ka, kn, kc⟩ := a
  obtain ⟨va, vn, vc⟩ := v
  obtain ⟨ta, tn, tc⟩ := t
  obtain ⟨r, ks, vs, vt, cl⟩ := s
  obtain ⟨_, hS, ho, hx, hi, hh, hv, hl⟩ := hp
  have hr := hS.1
  have HS := Lib.hid hS
  have hkl := hS.2.1.len
  have hvl := hS.2.2.1.len
  dsimp only at hkl hvl hi hh hv hl
  rw [hkl] at hi hh hv hl
  rw [hvl] at hv
  have HVd := Lib.hid (fun W => valued_is k p m W)
  have HV := Lib.hid hv
  have HH := Lib.hid hh
  clear hS hkl hvl hv hh
  dsimp only [sv, ov] at *
  have hz : RowKit.Hid (placedS k m ⟨r, ks, vs, vt, cl⟩ ⟨cd, ky, vl⟩ x i true = (⟨r, ks, vs, vt, cl⟩, (10, 0))) := Lib.hid (by unfold placedS; simp only; rw [if_neg h7, if_neg h8, if_neg n5, if_neg n10, if_neg n6, if_neg n11])
  have e7 : (cd == 7) = false := by simpa using h7
  have e8 : (cd == 8) = false := by simpa using h8
  cases hvd : valued k with
  | true =>
    rw [hvd] at HVd n5 n10 n6 n11
    have e10 : (cd == 10) = false := by simpa using n10
    have e11 : (cd == 11) = false := by simpa using n11
    clear n5 n10 n6 n11 h7 h8 hvd
    by_cases a1 : cd = 5
    · subst a1
      go_enter Tryz.func103, Tryz.ntmps103
      go_wp2_with (go_at_call 107; (with_reducible refine (HVd.out _).mono ?_); rintro e w1 ⟨rfl, rfl⟩)
      go_region_held3 (fun w' => (w'.cell? ⟨w.heap.size + 1, 0, none⟩ = some (.int .u64 r) ∧ w'.cell? ⟨w.heap.size + 1, 1, none⟩ = some (.slice ka kn kc) ∧ w'.cell? ⟨w.heap.size + 1, 2, none⟩ = some (.slice va vn vc) ∧ w'.cell? ⟨w.heap.size + 1, 3, none⟩ = some (.slice ta tn tc) ∧ w'.cell? ⟨w.heap.size + 1, 4, none⟩ = some (.bool cl)))
        (first | ((show Five _ (w.heap.size + 1) r ⟨ka, kn, kc⟩ ⟨va, vn, vc⟩ ⟨ta, tn, tc⟩ cl); repeat (first | ((with_reducible refine five_at ?_); (simp; done)) | with_reducible refine Five.alloc ?_ _ | with_reducible refine Five.drew ?_ | with_reducible refine Five.set ?_ (by omega) _ _)) | go_keep)
        (first
          | (go_at_call 100; (with_reducible refine (refuses_is _ _).mono ?_); rintro e w1 ⟨rfl, rfl⟩))
      rename_i hq
      clear hq
      go_wp2_with (fail)
      refine bodyPost_ret (v := .tuple #[sv r ⟨ka, kn, kc⟩ ⟨va, vn, vc⟩ ⟨ta, tn, tc⟩ cl, rv 10 (0)]) (by simp [results, Tryz.results103, go_sem]) rfl ?_
      rw [hz.out]
      refine ⟨?_, _, _, _, rfl, ⟨hr, HS.out.2.1.ext ?_, HS.out.2.2.1.ext ?_, HS.out.2.2.2.ext ?_⟩, fun _ _ h => h⟩ <;> repeat (first | with_reducible exact Ext.refl _ | with_reducible refine Ext.alloc ?_ _ | with_reducible refine Ext.drew ?_)
    · have f1 : (cd == 5) = false := by simpa using a1
      clear a1
      by_cases a2 : cd = 6
      · subst a2
        go_enter Tryz.func103, Tryz.ntmps103
        go_wp2_with (go_at_call 107; (with_reducible refine (HVd.out _).mono ?_); rintro e w1 ⟨rfl, rfl⟩)
        go_region_held3 (fun w' => (w'.cell? ⟨w.heap.size + 1, 0, none⟩ = some (.int .u64 r) ∧ w'.cell? ⟨w.heap.size + 1, 1, none⟩ = some (.slice ka kn kc) ∧ w'.cell? ⟨w.heap.size + 1, 2, none⟩ = some (.slice va vn vc) ∧ w'.cell? ⟨w.heap.size + 1, 3, none⟩ = some (.slice ta tn tc) ∧ w'.cell? ⟨w.heap.size + 1, 4, none⟩ = some (.bool cl)))
          (first | ((show Five _ (w.heap.size + 1) r ⟨ka, kn, kc⟩ ⟨va, vn, vc⟩ ⟨ta, tn, tc⟩ cl); repeat (first | ((with_reducible refine five_at ?_); (simp; done)) | with_reducible refine Five.alloc ?_ _ | with_reducible refine Five.drew ?_ | with_reducible refine Five.set ?_ (by omega) _ _)) | go_keep)
          (first
            | (go_at_call 100; (with_reducible refine (refuses_is _ _).mono ?_); rintro e w1 ⟨rfl, rfl⟩))
        rename_i hq
        clear hq
        go_wp2_with (fail)
        refine bodyPost_ret (v := .tuple #[sv r ⟨ka, kn, kc⟩ ⟨va, vn, vc⟩ ⟨ta, tn, tc⟩ cl, rv 10 (0)]) (by simp [results, Tryz.results103, go_sem]) rfl ?_
        rw [hz.out]
        refine ⟨?_, _, _, _, rfl, ⟨hr, HS.out.2.1.ext ?_, HS.out.2.2.1.ext ?_, HS.out.2.2.2.ext ?_⟩, fun _ _ h => h⟩ <;> repeat (first | with_reducible exact Ext.refl _ | with_reducible refine Ext.alloc ?_ _ | with_reducible refine Ext.drew ?_)
      · have f2 : (cd == 6) = false := by simpa using a2
        clear a2
        go_enter Tryz.func103, Tryz.ntmps103
        go_wp2_with (go_at_call 107; (with_reducible refine (HVd.out _).mono ?_); rintro e w1 ⟨rfl, rfl⟩)
        go_region_held3 (fun w' => (w'.cell? ⟨w.heap.size + 1, 0, none⟩ = some (.int .u64 r) ∧ w'.cell? ⟨w.heap.size + 1, 1, none⟩ = some (.slice ka kn kc) ∧ w'.cell? ⟨w.heap.size + 1, 2, none⟩ = some (.slice va vn vc) ∧ w'.cell? ⟨w.heap.size + 1, 3, none⟩ = some (.slice ta tn tc) ∧ w'.cell? ⟨w.heap.size + 1, 4, none⟩ = some (.bool cl)))
          (first | ((show Five _ (w.heap.size + 1) r ⟨ka, kn, kc⟩ ⟨va, vn, vc⟩ ⟨ta, tn, tc⟩ cl); repeat (first | ((with_reducible refine five_at ?_); (simp; done)) | with_reducible refine Five.alloc ?_ _ | with_reducible refine Five.drew ?_ | with_reducible refine Five.set ?_ (by omega) _ _)) | go_keep)
          (first
            | (go_at_call 100; (with_reducible refine (refuses_is _ _).mono ?_); rintro e w1 ⟨rfl, rfl⟩))
        rename_i hq
        clear hq
        go_wp2_with (fail)
        refine bodyPost_ret (v := .tuple #[sv r ⟨ka, kn, kc⟩ ⟨va, vn, vc⟩ ⟨ta, tn, tc⟩ cl, rv 10 (0)]) (by simp [results, Tryz.results103, go_sem]) rfl ?_
        rw [hz.out]
        refine ⟨?_, _, _, _, rfl, ⟨hr, HS.out.2.1.ext ?_, HS.out.2.2.1.ext ?_, HS.out.2.2.2.ext ?_⟩, fun _ _ h => h⟩ <;> repeat (first | with_reducible exact Ext.refl _ | with_reducible refine Ext.alloc ?_ _ | with_reducible refine Ext.drew ?_)
  | false =>
    rw [hvd] at HVd n5 n10 n6 n11
    have e5 : (cd == 5) = false := by simpa using n5
    have e6 : (cd == 6) = false := by simpa using n6
    clear n5 n10 n6 n11 h7 h8 hvd
    by_cases a1 : cd = 10
    · subst a1
      go_enter Tryz.func103, Tryz.ntmps103
      go_wp2_with (go_at_call 107; (with_reducible refine (HVd.out _).mono ?_); rintro e w1 ⟨rfl, rfl⟩)
      go_region_held3 (fun w' => (w'.cell? ⟨w.heap.size + 1, 0, none⟩ = some (.int .u64 r) ∧ w'.cell? ⟨w.heap.size + 1, 1, none⟩ = some (.slice ka kn kc) ∧ w'.cell? ⟨w.heap.size + 1, 2, none⟩ = some (.slice va vn vc) ∧ w'.cell? ⟨w.heap.size + 1, 3, none⟩ = some (.slice ta tn tc) ∧ w'.cell? ⟨w.heap.size + 1, 4, none⟩ = some (.bool cl)))
        (first | ((show Five _ (w.heap.size + 1) r ⟨ka, kn, kc⟩ ⟨va, vn, vc⟩ ⟨ta, tn, tc⟩ cl); repeat (first | ((with_reducible refine five_at ?_); (simp; done)) | with_reducible refine Five.alloc ?_ _ | with_reducible refine Five.drew ?_ | with_reducible refine Five.set ?_ (by omega) _ _)) | go_keep)
        (first
          | (go_at_call 100; (with_reducible refine (refuses_is _ _).mono ?_); rintro e w1 ⟨rfl, rfl⟩))
      rename_i hq
      clear hq
      go_wp2_with (fail)
      refine bodyPost_ret (v := .tuple #[sv r ⟨ka, kn, kc⟩ ⟨va, vn, vc⟩ ⟨ta, tn, tc⟩ cl, rv 10 (0)]) (by simp [results, Tryz.results103, go_sem]) rfl ?_
      rw [hz.out]
      refine ⟨?_, _, _, _, rfl, ⟨hr, HS.out.2.1.ext ?_, HS.out.2.2.1.ext ?_, HS.out.2.2.2.ext ?_⟩, fun _ _ h => h⟩ <;> repeat (first | with_reducible exact Ext.refl _ | with_reducible refine Ext.alloc ?_ _ | with_reducible refine Ext.drew ?_)
    · have f1 : (cd == 10) = false := by simpa using a1
      clear a1
      by_cases a2 : cd = 11
      · subst a2
        go_enter Tryz.func103, Tryz.ntmps103
        go_wp2_with (go_at_call 107; (with_reducible refine (HVd.out _).mono ?_); rintro e w1 ⟨rfl, rfl⟩)
        go_region_held3 (fun w' => (w'.cell? ⟨w.heap.size + 1, 0, none⟩ = some (.int .u64 r) ∧ w'.cell? ⟨w.heap.size + 1, 1, none⟩ = some (.slice ka kn kc) ∧ w'.cell? ⟨w.heap.size + 1, 2, none⟩ = some (.slice va vn vc) ∧ w'.cell? ⟨w.heap.size + 1, 3, none⟩ = some (.slice ta tn tc) ∧ w'.cell? ⟨w.heap.size + 1, 4, none⟩ = some (.bool cl)))
          (first | ((show Five _ (w.heap.size + 1) r ⟨ka, kn, kc⟩ ⟨va, vn, vc⟩ ⟨ta, tn, tc⟩ cl); repeat (first | ((with_reducible refine five_at ?_); (simp; done)) | with_reducible refine Five.alloc ?_ _ | with_reducible refine Five.drew ?_ | with_reducible refine Five.set ?_ (by omega) _ _)) | go_keep)
          (first
            | (go_at_call 100; (with_reducible refine (refuses_is _ _).mono ?_); rintro e w1 ⟨rfl, rfl⟩))
        rename_i hq
        clear hq
        go_wp2_with (fail)
        refine bodyPost_ret (v := .tuple #[sv r ⟨ka, kn, kc⟩ ⟨va, vn, vc⟩ ⟨ta, tn, tc⟩ cl, rv 10 (0)]) (by simp [results, Tryz.results103, go_sem]) rfl ?_
        rw [hz.out]
        refine ⟨?_, _, _, _, rfl, ⟨hr, HS.out.2.1.ext ?_, HS.out.2.2.1.ext ?_, HS.out.2.2.2.ext ?_⟩, fun _ _ h => h⟩ <;> repeat (first | with_reducible exact Ext.refl _ | with_reducible refine Ext.alloc ?_ _ | with_reducible refine Ext.drew ?_)
      · have f2 : (cd == 11) = false := by simpa using a2
        clear a2
        go_enter Tryz.func103, Tryz.ntmps103
        go_wp2_with (go_at_call 107; (with_reducible refine (HVd.out _).mono ?_); rintro e w1 ⟨rfl, rfl⟩)
        go_region_held3 (fun w' => (w'.cell? ⟨w.heap.size + 1, 0, none⟩ = some (.int .u64 r) ∧ w'.cell? ⟨w.heap.size + 1, 1, none⟩ = some (.slice ka kn kc) ∧ w'.cell? ⟨w.heap.size + 1, 2, none⟩ = some (.slice va vn vc) ∧ w'.cell? ⟨w.heap.size + 1, 3, none⟩ = some (.slice ta tn tc) ∧ w'.cell? ⟨w.heap.size + 1, 4, none⟩ = some (.bool cl)))
          (first | ((show Five _ (w.heap.size + 1) r ⟨ka, kn, kc⟩ ⟨va, vn, vc⟩ ⟨ta, tn, tc⟩ cl); repeat (first | ((with_reducible refine five_at ?_); (simp; done)) | with_reducible refine Five.alloc ?_ _ | with_reducible refine Five.drew ?_ | with_reducible refine Five.set ?_ (by omega) _ _)) | go_keep)
          (first
            | (go_at_call 100; (with_reducible refine (refuses_is _ _).mono ?_); rintro e w1 ⟨rfl, rfl⟩))
        rename_i hq
        clear hq
        go_wp2_with (fail)
        refine bodyPost_ret (v := .tuple #[sv r ⟨ka, kn, kc⟩ ⟨va, vn, vc⟩ ⟨ta, tn, tc⟩ cl, rv 10 (0)]) (by simp [results, Tryz.results103, go_sem]) rfl ?_
        rw [hz.out]
        refine ⟨?_, _, _, _, rfl, ⟨hr, HS.out.2.1.ext ?_, HS.out.2.2.1.ext ?_, HS.out.2.2.2.ext ?_⟩, fun _ _ h => h⟩ <;> repeat (first | with_reducible exact Ext.refl _ | with_reducible refine Ext.alloc ?_ _ | with_reducible refine Ext.drew ?_)

set_option maxHeartbeats 4000000 in
set_option maxRecDepth 100000 in
theorem plbadn (k p m : Int) (a v t : Sl) (s : St) (cd ky vl : Int) (x : Int) (i : Nat) (w : World) (h7 : cd ≠ 7) (h8 : cd ≠ 8) (n5 : ¬ (cd = 5 ∧ valued k = false)) (n10 : ¬ (cd = 10 ∧ valued k = true)) (n6 : ¬ (cd = 6 ∧ valued k = false)) (n11 : ¬ (cd = 11 ∧ valued k = true)) (hp : Pl k p m a v t s ⟨cd, ky, vl⟩ x i false w) :
    Calls Tryz.prog 103 #[cf k p m, sv s.reg a v t s.closed, ov ⟨cd, ky, vl⟩, .int .u64 x, .int .i64 i, .bool false] w (DE a v t (placedS k m s ⟨cd, ky, vl⟩ x i false) w) := by
  obtain ⟨ka, kn, kc⟩ := a
  obtain ⟨va, vn, vc⟩ := v
  obtain ⟨ta, tn, tc⟩ := t
  obtain ⟨r, ks, vs, vt, cl⟩ := s
  obtain ⟨_, hS, ho, hx, hi, hh, hv, hl⟩ := hp
  have hr := hS.1
  have HS := Lib.hid hS
  have hkl := hS.2.1.len
  have hvl := hS.2.2.1.len
  dsimp only at hkl hvl hi hh hv hl
  rw [hkl] at hi hh hv hl
  rw [hvl] at hv
  have HVd := Lib.hid (fun W => valued_is k p m W)
  have HV := Lib.hid hv
  have HH := Lib.hid hh
  clear hS hkl hvl hv hh
  dsimp only [sv, ov] at *
  have hz : RowKit.Hid (placedS k m ⟨r, ks, vs, vt, cl⟩ ⟨cd, ky, vl⟩ x i false = (⟨r, ks, vs, vt, cl⟩, (10, 0))) := Lib.hid (by unfold placedS; simp only; rw [if_neg h7, if_neg h8, if_neg n5, if_neg n10, if_neg n6, if_neg n11])
  have e7 : (cd == 7) = false := by simpa using h7
  have e8 : (cd == 8) = false := by simpa using h8
  cases hvd : valued k with
  | true =>
    rw [hvd] at HVd n5 n10 n6 n11
    have e10 : (cd == 10) = false := by simpa using n10
    have e11 : (cd == 11) = false := by simpa using n11
    clear n5 n10 n6 n11 h7 h8 hvd
    by_cases a1 : cd = 5
    · subst a1
      go_enter Tryz.func103, Tryz.ntmps103
      go_wp2_with (go_at_call 107; (with_reducible refine (HVd.out _).mono ?_); rintro e w1 ⟨rfl, rfl⟩)
      go_region_held3 (fun w' => (w'.cell? ⟨w.heap.size + 1, 0, none⟩ = some (.int .u64 r) ∧ w'.cell? ⟨w.heap.size + 1, 1, none⟩ = some (.slice ka kn kc) ∧ w'.cell? ⟨w.heap.size + 1, 2, none⟩ = some (.slice va vn vc) ∧ w'.cell? ⟨w.heap.size + 1, 3, none⟩ = some (.slice ta tn tc) ∧ w'.cell? ⟨w.heap.size + 1, 4, none⟩ = some (.bool cl)))
        (first | ((show Five _ (w.heap.size + 1) r ⟨ka, kn, kc⟩ ⟨va, vn, vc⟩ ⟨ta, tn, tc⟩ cl); repeat (first | ((with_reducible refine five_at ?_); (simp; done)) | with_reducible refine Five.alloc ?_ _ | with_reducible refine Five.drew ?_ | with_reducible refine Five.set ?_ (by omega) _ _)) | go_keep)
        (first
          | (go_at_call 100; (with_reducible refine (refuses_is _ _).mono ?_); rintro e w1 ⟨rfl, rfl⟩))
      rename_i hq
      clear hq
      go_wp2_with (fail)
      refine bodyPost_ret (v := .tuple #[sv r ⟨ka, kn, kc⟩ ⟨va, vn, vc⟩ ⟨ta, tn, tc⟩ cl, rv 10 (0)]) (by simp [results, Tryz.results103, go_sem]) rfl ?_
      rw [hz.out]
      refine ⟨?_, _, _, _, rfl, ⟨hr, HS.out.2.1.ext ?_, HS.out.2.2.1.ext ?_, HS.out.2.2.2.ext ?_⟩, fun _ _ h => h⟩ <;> repeat (first | with_reducible exact Ext.refl _ | with_reducible refine Ext.alloc ?_ _ | with_reducible refine Ext.drew ?_)
    · have f1 : (cd == 5) = false := by simpa using a1
      clear a1
      by_cases a2 : cd = 6
      · subst a2
        go_enter Tryz.func103, Tryz.ntmps103
        go_wp2_with (go_at_call 107; (with_reducible refine (HVd.out _).mono ?_); rintro e w1 ⟨rfl, rfl⟩)
        go_region_held3 (fun w' => (w'.cell? ⟨w.heap.size + 1, 0, none⟩ = some (.int .u64 r) ∧ w'.cell? ⟨w.heap.size + 1, 1, none⟩ = some (.slice ka kn kc) ∧ w'.cell? ⟨w.heap.size + 1, 2, none⟩ = some (.slice va vn vc) ∧ w'.cell? ⟨w.heap.size + 1, 3, none⟩ = some (.slice ta tn tc) ∧ w'.cell? ⟨w.heap.size + 1, 4, none⟩ = some (.bool cl)))
          (first | ((show Five _ (w.heap.size + 1) r ⟨ka, kn, kc⟩ ⟨va, vn, vc⟩ ⟨ta, tn, tc⟩ cl); repeat (first | ((with_reducible refine five_at ?_); (simp; done)) | with_reducible refine Five.alloc ?_ _ | with_reducible refine Five.drew ?_ | with_reducible refine Five.set ?_ (by omega) _ _)) | go_keep)
          (first
            | (go_at_call 100; (with_reducible refine (refuses_is _ _).mono ?_); rintro e w1 ⟨rfl, rfl⟩))
        rename_i hq
        clear hq
        go_wp2_with (fail)
        refine bodyPost_ret (v := .tuple #[sv r ⟨ka, kn, kc⟩ ⟨va, vn, vc⟩ ⟨ta, tn, tc⟩ cl, rv 10 (0)]) (by simp [results, Tryz.results103, go_sem]) rfl ?_
        rw [hz.out]
        refine ⟨?_, _, _, _, rfl, ⟨hr, HS.out.2.1.ext ?_, HS.out.2.2.1.ext ?_, HS.out.2.2.2.ext ?_⟩, fun _ _ h => h⟩ <;> repeat (first | with_reducible exact Ext.refl _ | with_reducible refine Ext.alloc ?_ _ | with_reducible refine Ext.drew ?_)
      · have f2 : (cd == 6) = false := by simpa using a2
        clear a2
        go_enter Tryz.func103, Tryz.ntmps103
        go_wp2_with (go_at_call 107; (with_reducible refine (HVd.out _).mono ?_); rintro e w1 ⟨rfl, rfl⟩)
        go_region_held3 (fun w' => (w'.cell? ⟨w.heap.size + 1, 0, none⟩ = some (.int .u64 r) ∧ w'.cell? ⟨w.heap.size + 1, 1, none⟩ = some (.slice ka kn kc) ∧ w'.cell? ⟨w.heap.size + 1, 2, none⟩ = some (.slice va vn vc) ∧ w'.cell? ⟨w.heap.size + 1, 3, none⟩ = some (.slice ta tn tc) ∧ w'.cell? ⟨w.heap.size + 1, 4, none⟩ = some (.bool cl)))
          (first | ((show Five _ (w.heap.size + 1) r ⟨ka, kn, kc⟩ ⟨va, vn, vc⟩ ⟨ta, tn, tc⟩ cl); repeat (first | ((with_reducible refine five_at ?_); (simp; done)) | with_reducible refine Five.alloc ?_ _ | with_reducible refine Five.drew ?_ | with_reducible refine Five.set ?_ (by omega) _ _)) | go_keep)
          (first
            | (go_at_call 100; (with_reducible refine (refuses_is _ _).mono ?_); rintro e w1 ⟨rfl, rfl⟩))
        rename_i hq
        clear hq
        go_wp2_with (fail)
        refine bodyPost_ret (v := .tuple #[sv r ⟨ka, kn, kc⟩ ⟨va, vn, vc⟩ ⟨ta, tn, tc⟩ cl, rv 10 (0)]) (by simp [results, Tryz.results103, go_sem]) rfl ?_
        rw [hz.out]
        refine ⟨?_, _, _, _, rfl, ⟨hr, HS.out.2.1.ext ?_, HS.out.2.2.1.ext ?_, HS.out.2.2.2.ext ?_⟩, fun _ _ h => h⟩ <;> repeat (first | with_reducible exact Ext.refl _ | with_reducible refine Ext.alloc ?_ _ | with_reducible refine Ext.drew ?_)
  | false =>
    rw [hvd] at HVd n5 n10 n6 n11
    have e5 : (cd == 5) = false := by simpa using n5
    have e6 : (cd == 6) = false := by simpa using n6
    clear n5 n10 n6 n11 h7 h8 hvd
    by_cases a1 : cd = 10
    · subst a1
      go_enter Tryz.func103, Tryz.ntmps103
      go_wp2_with (go_at_call 107; (with_reducible refine (HVd.out _).mono ?_); rintro e w1 ⟨rfl, rfl⟩)
      go_region_held3 (fun w' => (w'.cell? ⟨w.heap.size + 1, 0, none⟩ = some (.int .u64 r) ∧ w'.cell? ⟨w.heap.size + 1, 1, none⟩ = some (.slice ka kn kc) ∧ w'.cell? ⟨w.heap.size + 1, 2, none⟩ = some (.slice va vn vc) ∧ w'.cell? ⟨w.heap.size + 1, 3, none⟩ = some (.slice ta tn tc) ∧ w'.cell? ⟨w.heap.size + 1, 4, none⟩ = some (.bool cl)))
        (first | ((show Five _ (w.heap.size + 1) r ⟨ka, kn, kc⟩ ⟨va, vn, vc⟩ ⟨ta, tn, tc⟩ cl); repeat (first | ((with_reducible refine five_at ?_); (simp; done)) | with_reducible refine Five.alloc ?_ _ | with_reducible refine Five.drew ?_ | with_reducible refine Five.set ?_ (by omega) _ _)) | go_keep)
        (first
          | (go_at_call 100; (with_reducible refine (refuses_is _ _).mono ?_); rintro e w1 ⟨rfl, rfl⟩))
      rename_i hq
      clear hq
      go_wp2_with (fail)
      refine bodyPost_ret (v := .tuple #[sv r ⟨ka, kn, kc⟩ ⟨va, vn, vc⟩ ⟨ta, tn, tc⟩ cl, rv 10 (0)]) (by simp [results, Tryz.results103, go_sem]) rfl ?_
      rw [hz.out]
      refine ⟨?_, _, _, _, rfl, ⟨hr, HS.out.2.1.ext ?_, HS.out.2.2.1.ext ?_, HS.out.2.2.2.ext ?_⟩, fun _ _ h => h⟩ <;> repeat (first | with_reducible exact Ext.refl _ | with_reducible refine Ext.alloc ?_ _ | with_reducible refine Ext.drew ?_)
    · have f1 : (cd == 10) = false := by simpa using a1
      clear a1
      by_cases a2 : cd = 11
      · subst a2
        go_enter Tryz.func103, Tryz.ntmps103
        go_wp2_with (go_at_call 107; (with_reducible refine (HVd.out _).mono ?_); rintro e w1 ⟨rfl, rfl⟩)
        go_region_held3 (fun w' => (w'.cell? ⟨w.heap.size + 1, 0, none⟩ = some (.int .u64 r) ∧ w'.cell? ⟨w.heap.size + 1, 1, none⟩ = some (.slice ka kn kc) ∧ w'.cell? ⟨w.heap.size + 1, 2, none⟩ = some (.slice va vn vc) ∧ w'.cell? ⟨w.heap.size + 1, 3, none⟩ = some (.slice ta tn tc) ∧ w'.cell? ⟨w.heap.size + 1, 4, none⟩ = some (.bool cl)))
          (first | ((show Five _ (w.heap.size + 1) r ⟨ka, kn, kc⟩ ⟨va, vn, vc⟩ ⟨ta, tn, tc⟩ cl); repeat (first | ((with_reducible refine five_at ?_); (simp; done)) | with_reducible refine Five.alloc ?_ _ | with_reducible refine Five.drew ?_ | with_reducible refine Five.set ?_ (by omega) _ _)) | go_keep)
          (first
            | (go_at_call 100; (with_reducible refine (refuses_is _ _).mono ?_); rintro e w1 ⟨rfl, rfl⟩))
        rename_i hq
        clear hq
        go_wp2_with (fail)
        refine bodyPost_ret (v := .tuple #[sv r ⟨ka, kn, kc⟩ ⟨va, vn, vc⟩ ⟨ta, tn, tc⟩ cl, rv 10 (0)]) (by simp [results, Tryz.results103, go_sem]) rfl ?_
        rw [hz.out]
        refine ⟨?_, _, _, _, rfl, ⟨hr, HS.out.2.1.ext ?_, HS.out.2.2.1.ext ?_, HS.out.2.2.2.ext ?_⟩, fun _ _ h => h⟩ <;> repeat (first | with_reducible exact Ext.refl _ | with_reducible refine Ext.alloc ?_ _ | with_reducible refine Ext.drew ?_)
      · have f2 : (cd == 11) = false := by simpa using a2
        clear a2
        go_enter Tryz.func103, Tryz.ntmps103
        go_wp2_with (go_at_call 107; (with_reducible refine (HVd.out _).mono ?_); rintro e w1 ⟨rfl, rfl⟩)
        go_region_held3 (fun w' => (w'.cell? ⟨w.heap.size + 1, 0, none⟩ = some (.int .u64 r) ∧ w'.cell? ⟨w.heap.size + 1, 1, none⟩ = some (.slice ka kn kc) ∧ w'.cell? ⟨w.heap.size + 1, 2, none⟩ = some (.slice va vn vc) ∧ w'.cell? ⟨w.heap.size + 1, 3, none⟩ = some (.slice ta tn tc) ∧ w'.cell? ⟨w.heap.size + 1, 4, none⟩ = some (.bool cl)))
          (first | ((show Five _ (w.heap.size + 1) r ⟨ka, kn, kc⟩ ⟨va, vn, vc⟩ ⟨ta, tn, tc⟩ cl); repeat (first | ((with_reducible refine five_at ?_); (simp; done)) | with_reducible refine Five.alloc ?_ _ | with_reducible refine Five.drew ?_ | with_reducible refine Five.set ?_ (by omega) _ _)) | go_keep)
          (first
            | (go_at_call 100; (with_reducible refine (refuses_is _ _).mono ?_); rintro e w1 ⟨rfl, rfl⟩))
        rename_i hq
        clear hq
        go_wp2_with (fail)
        refine bodyPost_ret (v := .tuple #[sv r ⟨ka, kn, kc⟩ ⟨va, vn, vc⟩ ⟨ta, tn, tc⟩ cl, rv 10 (0)]) (by simp [results, Tryz.results103, go_sem]) rfl ?_
        rw [hz.out]
        refine ⟨?_, _, _, _, rfl, ⟨hr, HS.out.2.1.ext ?_, HS.out.2.2.1.ext ?_, HS.out.2.2.2.ext ?_⟩, fun _ _ h => h⟩ <;> repeat (first | with_reducible exact Ext.refl _ | with_reducible refine Ext.alloc ?_ _ | with_reducible refine Ext.drew ?_)

end Go.Proofs.YtmonkcekkhfafaaGreatDoor.Aut

