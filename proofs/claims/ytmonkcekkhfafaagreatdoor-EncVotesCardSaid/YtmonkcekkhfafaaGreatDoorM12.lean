/-
  Parts of a proof, one behind the other: AutPlC, AutPlD. Each says its own conditions.
-/
import Derived.Test.YtmonkcekkhfafaaGreatDoorM10

/- AutPlC:
  What the document's placed does and tells: a call of what has keys, of a key that is at a place, or would be. Conditions: integers' bounds; the state's slices are there, as many values as keys where there are values, the place within them.
-/
namespace Go.Proofs.YtmonkcekkhfafaaGreatDoor.Aut
open Go.RowKit (Below intOf)
open Reg (cf bx)


set_option maxHeartbeats 4000000 in
set_option maxRecDepth 100000 in
theorem pl8ha (k p m : Int) (a v t : Sl) (s : St) (ky vl : Int) (x : Int) (i : Nat) (w : World) (hvz : ¬ vl = 0) (hj0 : i + 1 < s.keys.length) (hp : Pl k p m a v t s ⟨8, ky, vl⟩ x i true w) :
    Calls Tryz.prog 103 #[cf k p m, sv s.reg a v t s.closed, ov ⟨8, ky, vl⟩, .int .u64 x, .int .i64 i, .bool true] w (DE a v t (placedS k m s ⟨8, ky, vl⟩ x i true) w) := by
  obtain ⟨ka, kn, kc⟩ := a
  obtain ⟨va, vn, vc⟩ := v
  obtain ⟨ta, tn, tc⟩ := t
  obtain ⟨r, ks, vs, vt, cl⟩ := s
  obtain ⟨_, hS, ho, hx, hi, hh, hv, hl⟩ := hp
  have hr := hS.1
  have HS := Lib.hid hS
  have hkl := hS.2.1.len
  have hvl := hS.2.2.1.len
  dsimp only at hkl hvl hi hh hv hl
  rw [hkl] at hi hh hv hl
  rw [hvl] at hv
  have HVd := Lib.hid (fun W => valued_is k p m W)
  have HV := Lib.hid hv
  have HH := Lib.hid hh
  clear hS hkl hvl hv hh
  dsimp only [sv, ov] at *
  have hj : i + 1 < kn := by have := HS.out.2.1.len; dsimp only at this hj0; omega
  clear hj0
  have hvb : (vl != 0) = true := by simpa using hvz
  have hw1 : IntKind.i64.wrap ((i : Int) + 1) = i + 1 := IntWalk.i64_in _ (by omega)
  have hje : (((i : Int) + 1 : Int) == (kn : Int)) = false := by simp; omega
  have hje2 : ((i + 1) == kn) = false := by simp; omega
  obtain ⟨y, hy, uy, b, o, e0, cy⟩ := HS.out.2.1.get (k := (i + 1)) (by simp only; omega)
  dsimp only at hy e0 cy
  subst e0
  have hji : ((i : Int) + 1 : Int) < kn := by omega
  have hji0 : (0 : Int) ≤ (i : Int) + 1 := by omega
  have hz : RowKit.Hid (placedS k m ⟨r, ks, vs, vt, cl⟩ ⟨8, ky, vl⟩ x i true = (⟨r, ks, vs, vt, cl⟩, (0, y))) := Lib.hid (by unfold placedS; simp only; rw [if_neg (by decide), if_pos trivial, if_pos ⟨trivial, hvz⟩]; unfold nextS; simp only; rw [hy])
  have cyy := fun W (hW : Ext w W) => hW.cell cy
  clear hy
  go_enter Tryz.func103, Tryz.ntmps103
  go_wp2_with (go_at_call 107; (with_reducible refine (HVd.out _).mono ?_); rintro e w1 ⟨rfl, rfl⟩)
  go_region_held3 (fun w' => (w'.cell? ⟨w.heap.size + 1, 0, none⟩ = some (.int .u64 r) ∧ w'.cell? ⟨w.heap.size + 1, 1, none⟩ = some (.slice (some ⟨b, o, none⟩) kn kc) ∧ w'.cell? ⟨w.heap.size + 1, 2, none⟩ = some (.slice va vn vc) ∧ w'.cell? ⟨w.heap.size + 1, 3, none⟩ = some (.slice ta tn tc) ∧ w'.cell? ⟨w.heap.size + 1, 4, none⟩ = some (.bool cl) ∧ w'.cell? ⟨b, o + (i + 1), none⟩ = some (.int .u64 y)))
    (first | exact and5 (by ((show Five _ (w.heap.size + 1) r ⟨some ⟨b, o, none⟩, kn, kc⟩ ⟨va, vn, vc⟩ ⟨ta, tn, tc⟩ cl); repeat (first | ((with_reducible refine five_at ?_); (simp; done)) | with_reducible refine Five.alloc ?_ _ | with_reducible refine Five.drew ?_ | with_reducible refine Five.set ?_ (by omega) _ _))) (cyy _ (by repeat (first | with_reducible exact Ext.refl _ | with_reducible refine Ext.alloc ?_ _ | with_reducible refine Ext.drew ?_))) | go_keep)
    (first
      | (go_at_call 97; (with_reducible refine (tells_is _ _).mono ?_); rintro e w1 ⟨rfl, rfl⟩))
  rename_i hq
  clear hq
  go_wp2_with (fail)
  refine bodyPost_ret (v := .tuple #[sv r ⟨some ⟨b, o, none⟩, kn, kc⟩ ⟨va, vn, vc⟩ ⟨ta, tn, tc⟩ cl, rv 0 (y)]) (by simp [results, Tryz.results103, go_sem]) rfl ?_
  rw [hz.out]
  refine ⟨?_, _, _, _, rfl, ⟨hr, HS.out.2.1.ext ?_, HS.out.2.2.1.ext ?_, HS.out.2.2.2.ext ?_⟩, fun _ _ h => h⟩ <;> repeat (first | with_reducible exact Ext.refl _ | with_reducible refine Ext.alloc ?_ _ | with_reducible refine Ext.drew ?_)

set_option maxHeartbeats 4000000 in
set_option maxRecDepth 100000 in
theorem pl8he (k p m : Int) (a v t : Sl) (s : St) (ky vl : Int) (x : Int) (i : Nat) (w : World) (hvz : ¬ vl = 0) (hj0 : i + 1 = s.keys.length) (hp : Pl k p m a v t s ⟨8, ky, vl⟩ x i true w) :
    Calls Tryz.prog 103 #[cf k p m, sv s.reg a v t s.closed, ov ⟨8, ky, vl⟩, .int .u64 x, .int .i64 i, .bool true] w (DE a v t (placedS k m s ⟨8, ky, vl⟩ x i true) w) := by
  obtain ⟨ka, kn, kc⟩ := a
  obtain ⟨va, vn, vc⟩ := v
  obtain ⟨ta, tn, tc⟩ := t
  obtain ⟨r, ks, vs, vt, cl⟩ := s
  obtain ⟨_, hS, ho, hx, hi, hh, hv, hl⟩ := hp
  have hr := hS.1
  have HS := Lib.hid hS
  have hkl := hS.2.1.len
  have hvl := hS.2.2.1.len
  dsimp only at hkl hvl hi hh hv hl
  rw [hkl] at hi hh hv hl
  rw [hvl] at hv
  have HVd := Lib.hid (fun W => valued_is k p m W)
  have HV := Lib.hid hv
  have HH := Lib.hid hh
  clear hS hkl hvl hv hh
  dsimp only [sv, ov] at *
  have hj : i + 1 = kn := by have := HS.out.2.1.len; dsimp only at this hj0; omega
  clear hj0
  have hend : RowKit.Hid (ks[(i + 1)]? = none) := Lib.hid (List.getElem?_eq_none (by have := HS.out.2.1.len; dsimp only at this; omega))
  have hvb : (vl != 0) = true := by simpa using hvz
  have hw1 : IntKind.i64.wrap ((i : Int) + 1) = i + 1 := IntWalk.i64_in _ (by omega)
  have hje : (((i : Int) + 1 : Int) == (kn : Int)) = true := by simp; omega
  have hje2 : ((i + 1) == kn) = true := by simp; omega
  have hz : RowKit.Hid (placedS k m ⟨r, ks, vs, vt, cl⟩ ⟨8, ky, vl⟩ x i true = (⟨r, ks, vs, vt, cl⟩, (12, 0))) := Lib.hid (by unfold placedS; simp only; rw [if_neg (by decide), if_pos trivial, if_pos ⟨trivial, hvz⟩]; unfold nextS; simp only; rw [hend.out])
  clear hj
  go_enter Tryz.func103, Tryz.ntmps103
  go_wp2_with (go_at_call 107; (with_reducible refine (HVd.out _).mono ?_); rintro e w1 ⟨rfl, rfl⟩)
  go_region_held3 (fun w' => (w'.cell? ⟨w.heap.size + 1, 0, none⟩ = some (.int .u64 r) ∧ w'.cell? ⟨w.heap.size + 1, 1, none⟩ = some (.slice ka kn kc) ∧ w'.cell? ⟨w.heap.size + 1, 2, none⟩ = some (.slice va vn vc) ∧ w'.cell? ⟨w.heap.size + 1, 3, none⟩ = some (.slice ta tn tc) ∧ w'.cell? ⟨w.heap.size + 1, 4, none⟩ = some (.bool cl)))
    (first | ((show Five _ (w.heap.size + 1) r ⟨ka, kn, kc⟩ ⟨va, vn, vc⟩ ⟨ta, tn, tc⟩ cl); repeat (first | ((with_reducible refine five_at ?_); (simp; done)) | with_reducible refine Five.alloc ?_ _ | with_reducible refine Five.drew ?_ | with_reducible refine Five.set ?_ (by omega) _ _)) | go_keep)
    (first
      | (go_at_call 100; (with_reducible refine (refuses_is _ _).mono ?_); rintro e w1 ⟨rfl, rfl⟩))
  rename_i hq
  clear hq
  go_wp2_with (fail)
  refine bodyPost_ret (v := .tuple #[sv r ⟨ka, kn, kc⟩ ⟨va, vn, vc⟩ ⟨ta, tn, tc⟩ cl, rv 12 (0)]) (by simp [results, Tryz.results103, go_sem]) rfl ?_
  rw [hz.out]
  refine ⟨?_, _, _, _, rfl, ⟨hr, HS.out.2.1.ext ?_, HS.out.2.2.1.ext ?_, HS.out.2.2.2.ext ?_⟩, fun _ _ h => h⟩ <;> repeat (first | with_reducible exact Ext.refl _ | with_reducible refine Ext.alloc ?_ _ | with_reducible refine Ext.drew ?_)

set_option maxHeartbeats 4000000 in
set_option maxRecDepth 100000 in
theorem pl8hz (k p m : Int) (a v t : Sl) (s : St) (ky vl : Int) (x : Int) (i : Nat) (w : World) (hvz : vl = 0) (hj0 : i < s.keys.length) (hp : Pl k p m a v t s ⟨8, ky, vl⟩ x i true w) :
    Calls Tryz.prog 103 #[cf k p m, sv s.reg a v t s.closed, ov ⟨8, ky, vl⟩, .int .u64 x, .int .i64 i, .bool true] w (DE a v t (placedS k m s ⟨8, ky, vl⟩ x i true) w) := by
  obtain ⟨ka, kn, kc⟩ := a
  obtain ⟨va, vn, vc⟩ := v
  obtain ⟨ta, tn, tc⟩ := t
  obtain ⟨r, ks, vs, vt, cl⟩ := s
  obtain ⟨_, hS, ho, hx, hi, hh, hv, hl⟩ := hp
  have hr := hS.1
  have HS := Lib.hid hS
  have hkl := hS.2.1.len
  have hvl := hS.2.2.1.len
  dsimp only at hkl hvl hi hh hv hl
  rw [hkl] at hi hh hv hl
  rw [hvl] at hv
  have HVd := Lib.hid (fun W => valued_is k p m W)
  have HV := Lib.hid hv
  have HH := Lib.hid hh
  clear hS hkl hvl hv hh
  dsimp only [sv, ov] at *
  have hj : i < kn := by have := HS.out.2.1.len; dsimp only at this hj0; omega
  clear hj0
  have hvb : (vl != 0) = false := by simpa using hvz
  have hw1 : IntKind.i64.wrap ((i : Int) + 1) = i + 1 := IntWalk.i64_in _ (by omega)
  have hje : ((i : Int) == (kn : Int)) = false := by simp; omega
  have hje2 : (i == kn) = false := by simp; omega
  obtain ⟨y, hy, uy, b, o, e0, cy⟩ := HS.out.2.1.get (k := i) (by simp only; omega)
  dsimp only at hy e0 cy
  subst e0
  have hji : (i : Int) < kn := by omega
  have hji0 : (0 : Int) ≤ i := by omega
  have hz : RowKit.Hid (placedS k m ⟨r, ks, vs, vt, cl⟩ ⟨8, ky, vl⟩ x i true = (⟨r, ks, vs, vt, cl⟩, (0, y))) := Lib.hid (by unfold placedS; simp only; rw [if_neg (by decide), if_pos trivial, if_neg (fun h => h.2 hvz)]; unfold nextS; simp only; rw [hy])
  have cyy := fun W (hW : Ext w W) => hW.cell cy
  clear hy
  go_enter Tryz.func103, Tryz.ntmps103
  go_wp2_with (go_at_call 107; (with_reducible refine (HVd.out _).mono ?_); rintro e w1 ⟨rfl, rfl⟩)
  go_region_held3 (fun w' => (w'.cell? ⟨w.heap.size + 1, 0, none⟩ = some (.int .u64 r) ∧ w'.cell? ⟨w.heap.size + 1, 1, none⟩ = some (.slice (some ⟨b, o, none⟩) kn kc) ∧ w'.cell? ⟨w.heap.size + 1, 2, none⟩ = some (.slice va vn vc) ∧ w'.cell? ⟨w.heap.size + 1, 3, none⟩ = some (.slice ta tn tc) ∧ w'.cell? ⟨w.heap.size + 1, 4, none⟩ = some (.bool cl) ∧ w'.cell? ⟨b, o + i, none⟩ = some (.int .u64 y)))
    (first | exact and5 (by ((show Five _ (w.heap.size + 1) r ⟨some ⟨b, o, none⟩, kn, kc⟩ ⟨va, vn, vc⟩ ⟨ta, tn, tc⟩ cl); repeat (first | ((with_reducible refine five_at ?_); (simp; done)) | with_reducible refine Five.alloc ?_ _ | with_reducible refine Five.drew ?_ | with_reducible refine Five.set ?_ (by omega) _ _))) (cyy _ (by repeat (first | with_reducible exact Ext.refl _ | with_reducible refine Ext.alloc ?_ _ | with_reducible refine Ext.drew ?_))) | go_keep)
    (first
      | (go_at_call 97; (with_reducible refine (tells_is _ _).mono ?_); rintro e w1 ⟨rfl, rfl⟩))
  rename_i hq
  clear hq
  go_wp2_with (fail)
  refine bodyPost_ret (v := .tuple #[sv r ⟨some ⟨b, o, none⟩, kn, kc⟩ ⟨va, vn, vc⟩ ⟨ta, tn, tc⟩ cl, rv 0 (y)]) (by simp [results, Tryz.results103, go_sem]) rfl ?_
  rw [hz.out]
  refine ⟨?_, _, _, _, rfl, ⟨hr, HS.out.2.1.ext ?_, HS.out.2.2.1.ext ?_, HS.out.2.2.2.ext ?_⟩, fun _ _ h => h⟩ <;> repeat (first | with_reducible exact Ext.refl _ | with_reducible refine Ext.alloc ?_ _ | with_reducible refine Ext.drew ?_)

set_option maxHeartbeats 4000000 in
set_option maxRecDepth 100000 in
theorem pl8na (k p m : Int) (a v t : Sl) (s : St) (ky vl : Int) (x : Int) (i : Nat) (w : World) (hj0 : i < s.keys.length) (hp : Pl k p m a v t s ⟨8, ky, vl⟩ x i false w) :
    Calls Tryz.prog 103 #[cf k p m, sv s.reg a v t s.closed, ov ⟨8, ky, vl⟩, .int .u64 x, .int .i64 i, .bool false] w (DE a v t (placedS k m s ⟨8, ky, vl⟩ x i false) w) := by
  obtain ⟨ka, kn, kc⟩ := a
  obtain ⟨va, vn, vc⟩ := v
  obtain ⟨ta, tn, tc⟩ := t
  obtain ⟨r, ks, vs, vt, cl⟩ := s
  obtain ⟨_, hS, ho, hx, hi, hh, hv, hl⟩ := hp
  have hr := hS.1
  have HS := Lib.hid hS
  have hkl := hS.2.1.len
  have hvl := hS.2.2.1.len
  dsimp only at hkl hvl hi hh hv hl
  rw [hkl] at hi hh hv hl
  rw [hvl] at hv
  have HVd := Lib.hid (fun W => valued_is k p m W)
  have HV := Lib.hid hv
  have HH := Lib.hid hh
  clear hS hkl hvl hv hh
  dsimp only [sv, ov] at *
  have hj : i < kn := by have := HS.out.2.1.len; dsimp only at this hj0; omega
  clear hj0
  have hw1 : IntKind.i64.wrap ((i : Int) + 1) = i + 1 := IntWalk.i64_in _ (by omega)
  have hje : ((i : Int) == (kn : Int)) = false := by simp; omega
  have hje2 : (i == kn) = false := by simp; omega
  obtain ⟨y, hy, uy, b, o, e0, cy⟩ := HS.out.2.1.get (k := i) (by simp only; omega)
  dsimp only at hy e0 cy
  subst e0
  have hji : (i : Int) < kn := by omega
  have hji0 : (0 : Int) ≤ i := by omega
  have hz : RowKit.Hid (placedS k m ⟨r, ks, vs, vt, cl⟩ ⟨8, ky, vl⟩ x i false = (⟨r, ks, vs, vt, cl⟩, (0, y))) := Lib.hid (by unfold placedS; simp only; rw [if_neg (by decide), if_pos trivial, if_neg (fun h => by simp at h)]; unfold nextS; simp only; rw [hy])
  have cyy := fun W (hW : Ext w W) => hW.cell cy
  clear hy
  go_enter Tryz.func103, Tryz.ntmps103
  go_wp2_with (go_at_call 107; (with_reducible refine (HVd.out _).mono ?_); rintro e w1 ⟨rfl, rfl⟩)
  go_region_held3 (fun w' => (w'.cell? ⟨w.heap.size + 1, 0, none⟩ = some (.int .u64 r) ∧ w'.cell? ⟨w.heap.size + 1, 1, none⟩ = some (.slice (some ⟨b, o, none⟩) kn kc) ∧ w'.cell? ⟨w.heap.size + 1, 2, none⟩ = some (.slice va vn vc) ∧ w'.cell? ⟨w.heap.size + 1, 3, none⟩ = some (.slice ta tn tc) ∧ w'.cell? ⟨w.heap.size + 1, 4, none⟩ = some (.bool cl) ∧ w'.cell? ⟨b, o + i, none⟩ = some (.int .u64 y)))
    (first | exact and5 (by ((show Five _ (w.heap.size + 1) r ⟨some ⟨b, o, none⟩, kn, kc⟩ ⟨va, vn, vc⟩ ⟨ta, tn, tc⟩ cl); repeat (first | ((with_reducible refine five_at ?_); (simp; done)) | with_reducible refine Five.alloc ?_ _ | with_reducible refine Five.drew ?_ | with_reducible refine Five.set ?_ (by omega) _ _))) (cyy _ (by repeat (first | with_reducible exact Ext.refl _ | with_reducible refine Ext.alloc ?_ _ | with_reducible refine Ext.drew ?_))) | go_keep)
    (first
      | (go_at_call 97; (with_reducible refine (tells_is _ _).mono ?_); rintro e w1 ⟨rfl, rfl⟩))
  rename_i hq
  clear hq
  go_wp2_with (fail)
  refine bodyPost_ret (v := .tuple #[sv r ⟨some ⟨b, o, none⟩, kn, kc⟩ ⟨va, vn, vc⟩ ⟨ta, tn, tc⟩ cl, rv 0 (y)]) (by simp [results, Tryz.results103, go_sem]) rfl ?_
  rw [hz.out]
  refine ⟨?_, _, _, _, rfl, ⟨hr, HS.out.2.1.ext ?_, HS.out.2.2.1.ext ?_, HS.out.2.2.2.ext ?_⟩, fun _ _ h => h⟩ <;> repeat (first | with_reducible exact Ext.refl _ | with_reducible refine Ext.alloc ?_ _ | with_reducible refine Ext.drew ?_)

set_option maxHeartbeats 4000000 in
set_option maxRecDepth 100000 in
theorem pl8ne (k p m : Int) (a v t : Sl) (s : St) (ky vl : Int) (x : Int) (i : Nat) (w : World) (hj0 : i = s.keys.length) (hp : Pl k p m a v t s ⟨8, ky, vl⟩ x i false w) :
    Calls Tryz.prog 103 #[cf k p m, sv s.reg a v t s.closed, ov ⟨8, ky, vl⟩, .int .u64 x, .int .i64 i, .bool false] w (DE a v t (placedS k m s ⟨8, ky, vl⟩ x i false) w) := by
  obtain ⟨ka, kn, kc⟩ := a
  obtain ⟨va, vn, vc⟩ := v
  obtain ⟨ta, tn, tc⟩ := t
  obtain ⟨r, ks, vs, vt, cl⟩ := s
  obtain ⟨_, hS, ho, hx, hi, hh, hv, hl⟩ := hp
  have hr := hS.1
  have HS := Lib.hid hS
  have hkl := hS.2.1.len
  have hvl := hS.2.2.1.len
  dsimp only at hkl hvl hi hh hv hl
  rw [hkl] at hi hh hv hl
  rw [hvl] at hv
  have HVd := Lib.hid (fun W => valued_is k p m W)
  have HV := Lib.hid hv
  have HH := Lib.hid hh
  clear hS hkl hvl hv hh
  dsimp only [sv, ov] at *
  have hj : i = kn := by have := HS.out.2.1.len; dsimp only at this hj0; omega
  clear hj0
  have hend : RowKit.Hid (ks[i]? = none) := Lib.hid (List.getElem?_eq_none (by have := HS.out.2.1.len; dsimp only at this; omega))
  have hw1 : IntKind.i64.wrap ((i : Int) + 1) = i + 1 := IntWalk.i64_in _ (by omega)
  have hje : ((i : Int) == (kn : Int)) = true := by simp; omega
  have hje2 : (i == kn) = true := by simp; omega
  have hz : RowKit.Hid (placedS k m ⟨r, ks, vs, vt, cl⟩ ⟨8, ky, vl⟩ x i false = (⟨r, ks, vs, vt, cl⟩, (12, 0))) := Lib.hid (by unfold placedS; simp only; rw [if_neg (by decide), if_pos trivial, if_neg (fun h => by simp at h)]; unfold nextS; simp only; rw [hend.out])
  clear hj
  go_enter Tryz.func103, Tryz.ntmps103
  go_wp2_with (go_at_call 107; (with_reducible refine (HVd.out _).mono ?_); rintro e w1 ⟨rfl, rfl⟩)
  go_region_held3 (fun w' => (w'.cell? ⟨w.heap.size + 1, 0, none⟩ = some (.int .u64 r) ∧ w'.cell? ⟨w.heap.size + 1, 1, none⟩ = some (.slice ka kn kc) ∧ w'.cell? ⟨w.heap.size + 1, 2, none⟩ = some (.slice va vn vc) ∧ w'.cell? ⟨w.heap.size + 1, 3, none⟩ = some (.slice ta tn tc) ∧ w'.cell? ⟨w.heap.size + 1, 4, none⟩ = some (.bool cl)))
    (first | ((show Five _ (w.heap.size + 1) r ⟨ka, kn, kc⟩ ⟨va, vn, vc⟩ ⟨ta, tn, tc⟩ cl); repeat (first | ((with_reducible refine five_at ?_); (simp; done)) | with_reducible refine Five.alloc ?_ _ | with_reducible refine Five.drew ?_ | with_reducible refine Five.set ?_ (by omega) _ _)) | go_keep)
    (first
      | (go_at_call 100; (with_reducible refine (refuses_is _ _).mono ?_); rintro e w1 ⟨rfl, rfl⟩))
  rename_i hq
  clear hq
  go_wp2_with (fail)
  refine bodyPost_ret (v := .tuple #[sv r ⟨ka, kn, kc⟩ ⟨va, vn, vc⟩ ⟨ta, tn, tc⟩ cl, rv 12 (0)]) (by simp [results, Tryz.results103, go_sem]) rfl ?_
  rw [hz.out]
  refine ⟨?_, _, _, _, rfl, ⟨hr, HS.out.2.1.ext ?_, HS.out.2.2.1.ext ?_, HS.out.2.2.2.ext ?_⟩, fun _ _ h => h⟩ <;> repeat (first | with_reducible exact Ext.refl _ | with_reducible refine Ext.alloc ?_ _ | with_reducible refine Ext.drew ?_)

end Go.Proofs.YtmonkcekkhfafaaGreatDoor.Aut

/- AutPlD:
  What the document's placed does and tells: a call of what has keys, of a key that is at a place, or would be. Conditions: integers' bounds; the state's slices are there, as many values as keys where there are values, the place within them.
-/
namespace Go.Proofs.YtmonkcekkhfafaaGreatDoor.Aut
open Go.RowKit (Below intOf)
open Reg (cf bx)


set_option maxHeartbeats 4000000 in
set_option maxRecDepth 100000 in
theorem pl6w (k p m : Int) (a v t : Sl) (s : St) (ky vl : Int) (x : Int) (i : Nat) (w : World) (hvd : valued k = false) (hf : ¬ (s.keys.length : Int) = m) (hp : Pl k p m a v t s ⟨6, ky, vl⟩ x i false w) :
    Calls Tryz.prog 103 #[cf k p m, sv s.reg a v t s.closed, ov ⟨6, ky, vl⟩, .int .u64 x, .int .i64 i, .bool false] w (DE a v t (placedS k m s ⟨6, ky, vl⟩ x i false) w) := by
  obtain ⟨ka, kn, kc⟩ := a
  obtain ⟨va, vn, vc⟩ := v
  obtain ⟨ta, tn, tc⟩ := t
  obtain ⟨r, ks, vs, vt, cl⟩ := s
  obtain ⟨_, hS, ho, hx, hi, hh, hv, hl⟩ := hp
  have hr := hS.1
  have HS := Lib.hid hS
  have hkl := hS.2.1.len
  have hvl := hS.2.2.1.len
  dsimp only at hkl hvl hi hh hv hl
  rw [hkl] at hi hh hv hl
  rw [hvl] at hv
  have HVd := Lib.hid (fun W => valued_is k p m W)
  have HV := Lib.hid hv
  have HH := Lib.hid hh
  clear hS hkl hvl hv hh
  dsimp only [sv, ov] at *
  rw [hvd] at HVd
  have hin : i ≤ kn := hi
  have hkm : ((kn : Int) == m) = false := by have := HS.out.2.1.len; dsimp only at this hf; rw [this] at hf; simpa using hf
  have hz : RowKit.Hid (placedS k m ⟨r, ks, vs, vt, cl⟩ ⟨6, ky, vl⟩ x i false = (⟨r, withL ks i x, vs, vt, cl⟩, (0, 1))) := Lib.hid (by simp [placedS, hvd, hf])
  clear hf
  have hWi := fun W (hW : Ext w W) => with_any ka kn kc ks i x W (HS.out.2.1.ext hW) hin (by omega) hx
  go_enter Tryz.func103, Tryz.ntmps103
  go_wp2_with (go_at_call 107; (with_reducible refine (HVd.out _).mono ?_); rintro e w1 ⟨rfl, rfl⟩)
  refine (hWi _ (by repeat (first | with_reducible exact Ext.refl _ | with_reducible refine Ext.alloc ?_ _ | with_reducible refine Ext.drew ?_))).mono ?_
  rintro e w1 ⟨sl, c', rfl, hW1, hE1, hoff⟩
  have FT0 : Five w1 (w.heap.size + 1 + 1 + 1 + 1 + 1) r ⟨ka, kn, kc⟩ ⟨va, vn, vc⟩ ⟨ta, tn, tc⟩ cl := Five.ext (by ((show Five _ (w.heap.size + 1 + 1 + 1 + 1 + 1) r ⟨ka, kn, kc⟩ ⟨va, vn, vc⟩ ⟨ta, tn, tc⟩ cl); repeat (first | ((with_reducible refine five_at ?_); (simp; done)) | with_reducible refine Five.alloc ?_ _ | with_reducible refine Five.drew ?_ | with_reducible refine Five.set ?_ (by omega) _ _))) hE1
  have F30 : Five w1 (w.heap.size + 1 + 1 + 1) 0 nilSl nilSl nilSl false := Five.ext (by ((show Five _ (w.heap.size + 1 + 1 + 1) 0 ⟨none, 0, 0⟩ ⟨none, 0, 0⟩ ⟨none, 0, 0⟩ false); repeat (first | ((with_reducible refine five_at ?_); (simp; done)) | with_reducible refine Five.alloc ?_ _))) hE1
  have T40 : Two w1 (w.heap.size + 1 + 1 + 1 + 1) 0 0 := (two_ext hE1 (by repeat (first | ((with_reducible refine two_at ?_); (simp; done)) | with_reducible refine two_alloc ?_ _)))
  obtain ⟨l1, l2⟩ := lay hE1
  have hs1 : w.heap.size + 1 + 1 + 1 + 1 + 1 < w1.heap.size := by have := hE1.size; simp at this; omega
  have hs2 : w.heap.size + 1 + 1 + 1 + 1 < w1.heap.size := by omega
  have hs3 : w.heap.size + 1 + 1 + 1 < w1.heap.size := by omega
  have hs1p : w.heap.size + 1 + 1 + 1 + 1 + 1 < w1.heap.size + 1 := by omega
  have hs2p : w.heap.size + 1 + 1 + 1 + 1 < w1.heap.size + 1 := by omega
  have hs3p : w.heap.size + 1 + 1 + 1 < w1.heap.size + 1 := by omega
  have HE1 : RowKit.Hid (Ext w w1) := Lib.hid (Ext.trans (by repeat (first | with_reducible exact Ext.refl _ | with_reducible refine Ext.alloc ?_ _ | with_reducible refine Ext.drew ?_)) hE1)
  simp only [World.size_alloc] at l1 l2
  have FT := five_keys FT0 sl (kn + 1) c'
  go_wp2_with (fail)
  go_region_held3 (fun w' => (w'.cell? ⟨w.heap.size + 1 + 1 + 1 + 1 + 1, 0, none⟩ = some (.int .u64 r) ∧ w'.cell? ⟨w.heap.size + 1 + 1 + 1 + 1 + 1, 1, none⟩ = some (.slice sl (kn + 1) c') ∧ w'.cell? ⟨w.heap.size + 1 + 1 + 1 + 1 + 1, 2, none⟩ = some (.slice va vn vc) ∧ w'.cell? ⟨w.heap.size + 1 + 1 + 1 + 1 + 1, 3, none⟩ = some (.slice ta tn tc) ∧ w'.cell? ⟨w.heap.size + 1 + 1 + 1 + 1 + 1, 4, none⟩ = some (.bool cl)))
    (first | ((show Five _ (w.heap.size + 1 + 1 + 1 + 1 + 1) r ⟨sl, kn + 1, c'⟩ ⟨va, vn, vc⟩ ⟨ta, tn, tc⟩ cl); repeat (first | with_reducible exact FT | ((with_reducible refine five_at ?_); (simp; done)) | with_reducible refine Five.alloc ?_ _ | with_reducible refine Five.drew ?_ | with_reducible refine Five.set ?_ (by omega) _ _)) | go_keep)
    (first
      | (go_at_call 97; (with_reducible refine (tells_is _ _).mono ?_); rintro e w1 ⟨rfl, rfl⟩))
  rename_i hq
  clear hq
  go_wp2_with (fail)
  have hsB : ∀ jj, jj < 5 → ((w1.setCell ⟨w.heap.size + 1 + 1 + 1 + 1 + 1, 1, none⟩ (.slice sl (kn + 1) c')).cell? ⟨w.heap.size + 1 + 1 + 1, jj, none⟩).isSome = true := fun jj hjj => by
    rw [cell_far (by omega)]; exact F30.some jj hjj
  have hsC : ∀ jj, jj < 2 → ((w1.setCell ⟨w.heap.size + 1 + 1 + 1 + 1 + 1, 1, none⟩ (.slice sl (kn + 1) c')).cell? ⟨w.heap.size + 1 + 1 + 1 + 1, jj, none⟩).isSome = true := fun jj hjj => by
    rw [cell_far (by omega)]; exact T40.some jj hjj
  obtain ⟨⟨q0, q1, q2, q3, q4⟩, z0, z1⟩ := fin_both hsB hsC (by omega) r ⟨sl, kn + 1, c'⟩ ⟨va, vn, vc⟩ ⟨ta, tn, tc⟩ cl 0 (1) (((Ext.refl _).alloc (.cells #[.int .i64 0, .int .u64 (1)] 63)).drew)
  refine bodyPost_ret (v := .tuple #[sv r ⟨sl, kn + 1, c'⟩ ⟨va, vn, vc⟩ ⟨ta, tn, tc⟩ cl, rv 0 (1)]) (by simp [results, Tryz.results103, go_sem, q0, q1, q2, q3, q4, z0, z1]) rfl ?_
  rw [hz.out]
  refine ⟨by repeat (first | with_reducible exact HE1.out | with_reducible refine Ext.alloc ?_ _ | with_reducible refine Ext.drew ?_ | with_reducible refine Ext.setCell ?_ (by omega) _), _, _, _, rfl, ⟨hr, ?_, ?_, HS.out.2.2.2.ext (by repeat (first | with_reducible exact HE1.out | with_reducible refine Ext.alloc ?_ _ | with_reducible refine Ext.drew ?_ | with_reducible refine Ext.setCell ?_ (by omega) _))⟩, fun B hB h => ⟨fun _ => hoff B (by simp only [World.size_alloc]; omega), h.2.1, h.2.2⟩⟩
  · repeat (first | with_reducible exact hW1 | with_reducible refine WS.alloc ?_ _ | with_reducible refine WS.drew ?_ | with_reducible refine WS.far ?_ (hoff _ (by simp only [World.size_alloc]; omega)) _ _)
  · exact HS.out.2.2.1.ext (by repeat (first | with_reducible exact HE1.out | with_reducible refine Ext.alloc ?_ _ | with_reducible refine Ext.drew ?_ | with_reducible refine Ext.setCell ?_ (by omega) _))

set_option maxHeartbeats 4000000 in
set_option maxRecDepth 100000 in
theorem pl7a (k p m : Int) (a v t : Sl) (s : St) (ky vl : Int) (x : Int) (i : Nat) (w : World) (hvd : valued k = false) (hp : Pl k p m a v t s ⟨7, ky, vl⟩ x i true w) :
    Calls Tryz.prog 103 #[cf k p m, sv s.reg a v t s.closed, ov ⟨7, ky, vl⟩, .int .u64 x, .int .i64 i, .bool true] w (DE a v t (placedS k m s ⟨7, ky, vl⟩ x i true) w) := by
  obtain ⟨ka, kn, kc⟩ := a
  obtain ⟨va, vn, vc⟩ := v
  obtain ⟨ta, tn, tc⟩ := t
  obtain ⟨r, ks, vs, vt, cl⟩ := s
  obtain ⟨_, hS, ho, hx, hi, hh, hv, hl⟩ := hp
  have hr := hS.1
  have HS := Lib.hid hS
  have hkl := hS.2.1.len
  have hvl := hS.2.2.1.len
  dsimp only at hkl hvl hi hh hv hl
  rw [hkl] at hi hh hv hl
  rw [hvl] at hv
  have HVd := Lib.hid (fun W => valued_is k p m W)
  have HV := Lib.hid hv
  have HH := Lib.hid hh
  clear hS hkl hvl hv hh
  dsimp only [sv, ov] at *
  rw [hvd] at HVd
  have hin : i < kn := HH.out rfl
  have hz : RowKit.Hid (placedS k m ⟨r, ks, vs, vt, cl⟩ ⟨7, ky, vl⟩ x i true = (⟨r, withoutL ks i, vs, vt, cl⟩, (0, 0))) := Lib.hid (by simp [placedS, hvd])
  have hWi := fun W (hW : Ext w W) => without_any ka kn kc ks i W (HS.out.2.1.ext hW) hin (by omega)
  go_enter Tryz.func103, Tryz.ntmps103
  go_wp2_with (fail)
  refine (hWi _ (by repeat (first | with_reducible exact Ext.refl _ | with_reducible refine Ext.alloc ?_ _ | with_reducible refine Ext.drew ?_))).mono ?_
  rintro e w1 ⟨sl, c', rfl, hW1, hE1, hoff⟩
  have FT0 : Five w1 (w.heap.size + 1 + 1 + 1 + 1 + 1) r ⟨ka, kn, kc⟩ ⟨va, vn, vc⟩ ⟨ta, tn, tc⟩ cl := Five.ext (by ((show Five _ (w.heap.size + 1 + 1 + 1 + 1 + 1) r ⟨ka, kn, kc⟩ ⟨va, vn, vc⟩ ⟨ta, tn, tc⟩ cl); repeat (first | ((with_reducible refine five_at ?_); (simp; done)) | with_reducible refine Five.alloc ?_ _ | with_reducible refine Five.drew ?_ | with_reducible refine Five.set ?_ (by omega) _ _))) hE1
  have F30 : Five w1 (w.heap.size + 1 + 1 + 1) 0 nilSl nilSl nilSl false := Five.ext (by ((show Five _ (w.heap.size + 1 + 1 + 1) 0 ⟨none, 0, 0⟩ ⟨none, 0, 0⟩ ⟨none, 0, 0⟩ false); repeat (first | ((with_reducible refine five_at ?_); (simp; done)) | with_reducible refine Five.alloc ?_ _))) hE1
  have T40 : Two w1 (w.heap.size + 1 + 1 + 1 + 1) 0 0 := (two_ext hE1 (by repeat (first | ((with_reducible refine two_at ?_); (simp; done)) | with_reducible refine two_alloc ?_ _)))
  obtain ⟨l1, l2⟩ := lay hE1
  have hs1 : w.heap.size + 1 + 1 + 1 + 1 + 1 < w1.heap.size := by have := hE1.size; simp at this; omega
  have hs2 : w.heap.size + 1 + 1 + 1 + 1 < w1.heap.size := by omega
  have hs3 : w.heap.size + 1 + 1 + 1 < w1.heap.size := by omega
  have hs1p : w.heap.size + 1 + 1 + 1 + 1 + 1 < w1.heap.size + 1 := by omega
  have hs2p : w.heap.size + 1 + 1 + 1 + 1 < w1.heap.size + 1 := by omega
  have hs3p : w.heap.size + 1 + 1 + 1 < w1.heap.size + 1 := by omega
  have HE1 : RowKit.Hid (Ext w w1) := Lib.hid (Ext.trans (by repeat (first | with_reducible exact Ext.refl _ | with_reducible refine Ext.alloc ?_ _ | with_reducible refine Ext.drew ?_)) hE1)
  simp only [World.size_alloc] at l1 l2
  have FT := five_keys FT0 sl (kn - 1) c'
  go_wp2_with (go_at_call 107; (with_reducible refine (HVd.out _).mono ?_); rintro e w1 ⟨rfl, rfl⟩)
  go_region_held3 (fun w' => (w'.cell? ⟨w.heap.size + 1 + 1 + 1 + 1 + 1, 0, none⟩ = some (.int .u64 r) ∧ w'.cell? ⟨w.heap.size + 1 + 1 + 1 + 1 + 1, 1, none⟩ = some (.slice sl (kn - 1) c') ∧ w'.cell? ⟨w.heap.size + 1 + 1 + 1 + 1 + 1, 2, none⟩ = some (.slice va vn vc) ∧ w'.cell? ⟨w.heap.size + 1 + 1 + 1 + 1 + 1, 3, none⟩ = some (.slice ta tn tc) ∧ w'.cell? ⟨w.heap.size + 1 + 1 + 1 + 1 + 1, 4, none⟩ = some (.bool cl)))
    (first | ((show Five _ (w.heap.size + 1 + 1 + 1 + 1 + 1) r ⟨sl, kn - 1, c'⟩ ⟨va, vn, vc⟩ ⟨ta, tn, tc⟩ cl); repeat (first | with_reducible exact FT | ((with_reducible refine five_at ?_); (simp; done)) | with_reducible refine Five.alloc ?_ _ | with_reducible refine Five.drew ?_ | with_reducible refine Five.set ?_ (by omega) _ _)) | go_keep)
    (first
      | (go_at_call 97; (with_reducible refine (tells_is _ _).mono ?_); rintro e w1 ⟨rfl, rfl⟩))
  rename_i hq
  clear hq
  go_wp2_with (fail)
  have hsB : ∀ jj, jj < 5 → ((w1.setCell ⟨w.heap.size + 1 + 1 + 1 + 1 + 1, 1, none⟩ (.slice sl (kn - 1) c')).cell? ⟨w.heap.size + 1 + 1 + 1, jj, none⟩).isSome = true := fun jj hjj => by
    rw [cell_far (by omega)]; exact F30.some jj hjj
  have hsC : ∀ jj, jj < 2 → ((w1.setCell ⟨w.heap.size + 1 + 1 + 1 + 1 + 1, 1, none⟩ (.slice sl (kn - 1) c')).cell? ⟨w.heap.size + 1 + 1 + 1 + 1, jj, none⟩).isSome = true := fun jj hjj => by
    rw [cell_far (by omega)]; exact T40.some jj hjj
  obtain ⟨⟨q0, q1, q2, q3, q4⟩, z0, z1⟩ := fin_both hsB hsC (by omega) r ⟨sl, kn - 1, c'⟩ ⟨va, vn, vc⟩ ⟨ta, tn, tc⟩ cl 0 (0) ((((Ext.refl _).alloc (bx k p m)).alloc (.cells #[.int .i64 0, .int .u64 (0)] 63)).drew)
  refine bodyPost_ret (v := .tuple #[sv r ⟨sl, kn - 1, c'⟩ ⟨va, vn, vc⟩ ⟨ta, tn, tc⟩ cl, rv 0 (0)]) (by simp [results, Tryz.results103, go_sem, q0, q1, q2, q3, q4, z0, z1]) rfl ?_
  rw [hz.out]
  refine ⟨by repeat (first | with_reducible exact HE1.out | with_reducible refine Ext.alloc ?_ _ | with_reducible refine Ext.drew ?_ | with_reducible refine Ext.setCell ?_ (by omega) _), _, _, _, rfl, ⟨hr, ?_, ?_, HS.out.2.2.2.ext (by repeat (first | with_reducible exact HE1.out | with_reducible refine Ext.alloc ?_ _ | with_reducible refine Ext.drew ?_ | with_reducible refine Ext.setCell ?_ (by omega) _))⟩, fun B hB h => ⟨fun _ => hoff B (by simp only [World.size_alloc]; omega), h.2.1, h.2.2⟩⟩
  · repeat (first | with_reducible exact hW1 | with_reducible refine WS.alloc ?_ _ | with_reducible refine WS.drew ?_ | with_reducible refine WS.far ?_ (hoff _ (by simp only [World.size_alloc]; omega)) _ _)
  · exact HS.out.2.2.1.ext (by repeat (first | with_reducible exact HE1.out | with_reducible refine Ext.alloc ?_ _ | with_reducible refine Ext.drew ?_ | with_reducible refine Ext.setCell ?_ (by omega) _))

set_option maxHeartbeats 4000000 in
set_option maxRecDepth 100000 in
theorem pl7b (k p m : Int) (a v t : Sl) (s : St) (ky vl : Int) (x : Int) (i : Nat) (w : World) (hvd : valued k = true) (hp : Pl k p m a v t s ⟨7, ky, vl⟩ x i true w) :
    Calls Tryz.prog 103 #[cf k p m, sv s.reg a v t s.closed, ov ⟨7, ky, vl⟩, .int .u64 x, .int .i64 i, .bool true] w (DE a v t (placedS k m s ⟨7, ky, vl⟩ x i true) w) := by
  obtain ⟨ka, kn, kc⟩ := a
  obtain ⟨va, vn, vc⟩ := v
  obtain ⟨ta, tn, tc⟩ := t
  obtain ⟨r, ks, vs, vt, cl⟩ := s
  obtain ⟨_, hS, ho, hx, hi, hh, hv, hl⟩ := hp
  have hr := hS.1
  have HS := Lib.hid hS
  have hkl := hS.2.1.len
  have hvl := hS.2.2.1.len
  dsimp only at hkl hvl hi hh hv hl
  rw [hkl] at hi hh hv hl
  rw [hvl] at hv
  have HVd := Lib.hid (fun W => valued_is k p m W)
  have HV := Lib.hid hv
  have HH := Lib.hid hh
  clear hS hkl hvl hv hh
  dsimp only [sv, ov] at *
  rw [hvd] at HVd
  have hin : i < kn := HH.out rfl
  have hvin : RowKit.Hid (vn = kn) := Lib.hid (HV.out hvd)
  have hviv : i < vn := by have := hvin.out; omega
  have hvle : vn ≤ 256 := by have := hvin.out; omega
  obtain ⟨y, hy, uy, b, o, e0, cy⟩ := HS.out.2.2.1.get (k := i) (by simp only; have := HV.out hvd; omega)
  dsimp only at hy e0 cy
  subst e0
  have hji : (i : Int) < vn := by have := HV.out hvd; omega
  have hz : RowKit.Hid (placedS k m ⟨r, ks, vs, vt, cl⟩ ⟨7, ky, vl⟩ x i true = (⟨r, withoutL ks i, withoutL vs i, vt, cl⟩, (0, y))) := Lib.hid (by simp [placedS, hvd, hy])
  clear hy
  have cyy := fun W (hW : Ext w W) => hW.cell cy
  have hWi := fun W (hW : Ext w W) => without_any ka kn kc ks i W (HS.out.2.1.ext hW) hin (by omega)
  have hWj := fun W (hW : Ext w W) => without_any (some ⟨b, o, none⟩) vn vc vs i W (HS.out.2.2.1.ext hW) hviv (by omega)
  go_enter Tryz.func103, Tryz.ntmps103
  go_wp2_with (fail)
  refine (hWi _ (by repeat (first | with_reducible exact Ext.refl _ | with_reducible refine Ext.alloc ?_ _ | with_reducible refine Ext.drew ?_))).mono ?_
  rintro e w1 ⟨sl, c', rfl, hW1, hE1, hoff⟩
  have FT0 : Five w1 (w.heap.size + 1 + 1 + 1 + 1 + 1) r ⟨ka, kn, kc⟩ ⟨some ⟨b, o, none⟩, vn, vc⟩ ⟨ta, tn, tc⟩ cl := Five.ext (by ((show Five _ (w.heap.size + 1 + 1 + 1 + 1 + 1) r ⟨ka, kn, kc⟩ ⟨some ⟨b, o, none⟩, vn, vc⟩ ⟨ta, tn, tc⟩ cl); repeat (first | ((with_reducible refine five_at ?_); (simp; done)) | with_reducible refine Five.alloc ?_ _ | with_reducible refine Five.drew ?_ | with_reducible refine Five.set ?_ (by omega) _ _))) hE1
  have F30 : Five w1 (w.heap.size + 1 + 1 + 1) 0 nilSl nilSl nilSl false := Five.ext (by ((show Five _ (w.heap.size + 1 + 1 + 1) 0 ⟨none, 0, 0⟩ ⟨none, 0, 0⟩ ⟨none, 0, 0⟩ false); repeat (first | ((with_reducible refine five_at ?_); (simp; done)) | with_reducible refine Five.alloc ?_ _))) hE1
  have T40 : Two w1 (w.heap.size + 1 + 1 + 1 + 1) 0 0 := (two_ext hE1 (by repeat (first | ((with_reducible refine two_at ?_); (simp; done)) | with_reducible refine two_alloc ?_ _)))
  obtain ⟨l1, l2⟩ := lay hE1
  have hs1 : w.heap.size + 1 + 1 + 1 + 1 + 1 < w1.heap.size := by have := hE1.size; simp at this; omega
  have hs2 : w.heap.size + 1 + 1 + 1 + 1 < w1.heap.size := by omega
  have hs3 : w.heap.size + 1 + 1 + 1 < w1.heap.size := by omega
  have hs1p : w.heap.size + 1 + 1 + 1 + 1 + 1 < w1.heap.size + 1 := by omega
  have hs2p : w.heap.size + 1 + 1 + 1 + 1 < w1.heap.size + 1 := by omega
  have hs3p : w.heap.size + 1 + 1 + 1 < w1.heap.size + 1 := by omega
  have HE1 : RowKit.Hid (Ext w w1) := Lib.hid (Ext.trans (by repeat (first | with_reducible exact Ext.refl _ | with_reducible refine Ext.alloc ?_ _ | with_reducible refine Ext.drew ?_)) hE1)
  simp only [World.size_alloc] at l1 l2
  have FS1 : Five w1 (w.heap.size + 1) r ⟨ka, kn, kc⟩ ⟨some ⟨b, o, none⟩, vn, vc⟩ ⟨ta, tn, tc⟩ cl := Five.ext (by ((show Five _ (w.heap.size + 1) r ⟨ka, kn, kc⟩ ⟨some ⟨b, o, none⟩, vn, vc⟩ ⟨ta, tn, tc⟩ cl); repeat (first | ((with_reducible refine five_at ?_); (simp; done)) | with_reducible refine Five.alloc ?_ _ | with_reducible refine Five.drew ?_ | with_reducible refine Five.set ?_ (by omega) _ _))) hE1
  have FT := five_keys FT0 sl (kn - 1) c'
  have hs4 : w.heap.size + 1 < w1.heap.size := by omega
  go_wp2_with (go_at_call 107; (with_reducible refine (HVd.out _).mono ?_); rintro e w1 ⟨rfl, rfl⟩)
  refine (hWj _ (by repeat (first | with_reducible exact HE1.out | with_reducible refine Ext.alloc ?_ _ | with_reducible refine Ext.drew ?_ | with_reducible refine Ext.setCell ?_ (by omega) _))).mono ?_
  rintro e w2 ⟨sv2, cv2, rfl, hW2, hE2, hoff2⟩
  have FT2 : Five w2 (w.heap.size + 1 + 1 + 1 + 1 + 1) r ⟨sl, kn - 1, c'⟩ ⟨some ⟨b, o, none⟩, vn, vc⟩ ⟨ta, tn, tc⟩ cl := Five.ext (by repeat (first | with_reducible exact FT | with_reducible refine Five.alloc ?_ _)) hE2
  have F32 : Five w2 (w.heap.size + 1 + 1 + 1) 0 nilSl nilSl nilSl false := Five.ext (by repeat (first | with_reducible exact F30 | with_reducible refine Five.alloc ?_ _ | with_reducible refine Five.set ?_ (by omega) _ _)) hE2
  have T42 : Two w2 (w.heap.size + 1 + 1 + 1 + 1) 0 0 := two_ext hE2 (by repeat (first | with_reducible exact T40 | with_reducible refine two_alloc ?_ _ | with_reducible refine two_set ?_ (by omega)))
  have FS2 : Five w2 (w.heap.size + 1) r ⟨ka, kn, kc⟩ ⟨some ⟨b, o, none⟩, vn, vc⟩ ⟨ta, tn, tc⟩ cl := Five.ext (by repeat (first | with_reducible exact FS1 | with_reducible refine Five.alloc ?_ _ | with_reducible refine Five.set ?_ (by omega) _ _)) hE2
  obtain ⟨l3, l4⟩ := lay hE2
  have hu1 : w.heap.size + 1 + 1 + 1 + 1 + 1 < w2.heap.size := by have := hE2.size; simp at this; omega
  have hu2 : w.heap.size + 1 + 1 + 1 + 1 < w2.heap.size := by omega
  have hu3 : w.heap.size + 1 + 1 + 1 < w2.heap.size := by omega
  have hu4 : w.heap.size + 1 < w2.heap.size := by omega
  have HE2 : RowKit.Hid (Ext w w2) := Lib.hid (Ext.trans (by repeat (first | with_reducible exact HE1.out | with_reducible refine Ext.alloc ?_ _ | with_reducible refine Ext.drew ?_ | with_reducible refine Ext.setCell ?_ (by omega) _)) hE2)
  have hK2 : WS w2 sl (kn - 1) c' (withoutL ks i) := WS.ext (by repeat (first | with_reducible exact hW1 | with_reducible refine WS.alloc ?_ _ | with_reducible refine WS.far ?_ (hoff _ (by simp only [World.size_alloc]; omega)) _ _)) hE2
  simp only [World.size_alloc, World.size_setCell] at l3 l4
  have FU := five_vals FT2 sv2 (vn - 1) cv2
  go_wp2_with (fail)
  go_region_held3 (fun w' => (w'.cell? ⟨w.heap.size + 1 + 1 + 1 + 1 + 1, 0, none⟩ = some (.int .u64 r) ∧ w'.cell? ⟨w.heap.size + 1 + 1 + 1 + 1 + 1, 1, none⟩ = some (.slice sl (kn - 1) c') ∧ w'.cell? ⟨w.heap.size + 1 + 1 + 1 + 1 + 1, 2, none⟩ = some (.slice sv2 (vn - 1) cv2) ∧ w'.cell? ⟨w.heap.size + 1 + 1 + 1 + 1 + 1, 3, none⟩ = some (.slice ta tn tc) ∧ w'.cell? ⟨w.heap.size + 1 + 1 + 1 + 1 + 1, 4, none⟩ = some (.bool cl) ∧ w'.cell? ⟨w.heap.size + 1, 2, none⟩ = some (.slice (some ⟨b, o, none⟩) vn vc) ∧ w'.cell? ⟨b, o + i, none⟩ = some (.int .u64 y)))
    (first | exact and5 (by ((show Five _ (w.heap.size + 1 + 1 + 1 + 1 + 1) r ⟨sl, kn - 1, c'⟩ ⟨sv2, vn - 1, cv2⟩ ⟨ta, tn, tc⟩ cl); repeat (first | with_reducible exact FU | ((with_reducible refine five_at ?_); (simp; done)) | with_reducible refine Five.alloc ?_ _ | with_reducible refine Five.drew ?_ | with_reducible refine Five.set ?_ (by omega) _ _))) ⟨(show Five _ (w.heap.size + 1) r ⟨ka, kn, kc⟩ ⟨some ⟨b, o, none⟩, vn, vc⟩ ⟨ta, tn, tc⟩ cl by repeat (first | with_reducible exact FS2 | with_reducible refine Five.alloc ?_ _ | with_reducible refine Five.drew ?_ | with_reducible refine Five.set ?_ (by omega) _ _)).2.2.1, cyy _ (by repeat (first | with_reducible exact HE2.out | with_reducible refine Ext.alloc ?_ _ | with_reducible refine Ext.drew ?_ | with_reducible refine Ext.setCell ?_ (by omega) _))⟩ | go_keep)
    (first
      | (go_at_call 97; (with_reducible refine (tells_is _ _).mono ?_); rintro e w1 ⟨rfl, rfl⟩))
  rename_i hq
  clear hq
  go_wp2_with (fail)
  have hsB : ∀ jj, jj < 5 → ((w2.setCell ⟨w.heap.size + 1 + 1 + 1 + 1 + 1, 2, none⟩ (.slice sv2 (vn - 1) cv2)).cell? ⟨w.heap.size + 1 + 1 + 1, jj, none⟩).isSome = true := fun jj hjj => by
    rw [cell_far (by omega)]; exact F32.some jj hjj
  have hsC : ∀ jj, jj < 2 → ((w2.setCell ⟨w.heap.size + 1 + 1 + 1 + 1 + 1, 2, none⟩ (.slice sv2 (vn - 1) cv2)).cell? ⟨w.heap.size + 1 + 1 + 1 + 1, jj, none⟩).isSome = true := fun jj hjj => by
    rw [cell_far (by omega)]; exact T42.some jj hjj
  obtain ⟨⟨q0, q1, q2, q3, q4⟩, z0, z1⟩ := fin_both hsB hsC (by omega) r ⟨sl, kn - 1, c'⟩ ⟨sv2, vn - 1, cv2⟩ ⟨ta, tn, tc⟩ cl 0 (y) (((Ext.refl _).alloc (.cells #[.int .i64 0, .int .u64 (y)] 63)).drew)
  refine bodyPost_ret (v := .tuple #[sv r ⟨sl, kn - 1, c'⟩ ⟨sv2, vn - 1, cv2⟩ ⟨ta, tn, tc⟩ cl, rv 0 (y)]) (by simp [results, Tryz.results103, go_sem, q0, q1, q2, q3, q4, z0, z1]) rfl ?_
  rw [hz.out]
  refine ⟨by repeat (first | with_reducible exact HE2.out | with_reducible refine Ext.alloc ?_ _ | with_reducible refine Ext.drew ?_ | with_reducible refine Ext.setCell ?_ (by omega) _), _, _, _, rfl, ⟨hr, ?_, ?_, HS.out.2.2.2.ext (by repeat (first | with_reducible exact HE2.out | with_reducible refine Ext.alloc ?_ _ | with_reducible refine Ext.drew ?_ | with_reducible refine Ext.setCell ?_ (by omega) _))⟩, fun B hB h => ⟨fun _ => hoff B (by simp only [World.size_alloc]; omega), fun _ => hoff2 B (by have := HE1.out.size; simp only [World.size_alloc, World.size_setCell]; omega), h.2.2⟩⟩
  · repeat (first | with_reducible exact hK2 | with_reducible refine WS.alloc ?_ _ | with_reducible refine WS.drew ?_ | with_reducible refine WS.far ?_ (hoff _ (by simp only [World.size_alloc]; omega)) _ _)
  · repeat (first | with_reducible exact hW2 | with_reducible refine WS.alloc ?_ _ | with_reducible refine WS.drew ?_ | with_reducible refine WS.far ?_ (hoff2 _ (by simp only [World.size_alloc, World.size_setCell]; omega)) _ _)

set_option maxHeartbeats 4000000 in
set_option maxRecDepth 100000 in
theorem pl11w (k p m : Int) (a v t : Sl) (s : St) (ky vl : Int) (x : Int) (i : Nat) (w : World) (hvd : valued k = true) (hf : ¬ (s.keys.length : Int) = m) (hp : Pl k p m a v t s ⟨11, ky, vl⟩ x i false w) :
    Calls Tryz.prog 103 #[cf k p m, sv s.reg a v t s.closed, ov ⟨11, ky, vl⟩, .int .u64 x, .int .i64 i, .bool false] w (DE a v t (placedS k m s ⟨11, ky, vl⟩ x i false) w) := by
  obtain ⟨ka, kn, kc⟩ := a
  obtain ⟨va, vn, vc⟩ := v
  obtain ⟨ta, tn, tc⟩ := t
  obtain ⟨r, ks, vs, vt, cl⟩ := s
  obtain ⟨_, hS, ho, hx, hi, hh, hv, hl⟩ := hp
  have hr := hS.1
  have HS := Lib.hid hS
  have hkl := hS.2.1.len
  have hvl := hS.2.2.1.len
  dsimp only at hkl hvl hi hh hv hl
  rw [hkl] at hi hh hv hl
  rw [hvl] at hv
  have HVd := Lib.hid (fun W => valued_is k p m W)
  have HV := Lib.hid hv
  have HH := Lib.hid hh
  clear hS hkl hvl hv hh
  dsimp only [sv, ov] at *
  rw [hvd] at HVd
  have hin : i ≤ kn := hi
  have hvin : RowKit.Hid (vn = kn) := Lib.hid (HV.out hvd)
  have hviv : i ≤ vn := by have := hvin.out; omega
  have hvle : vn ≤ 256 := by have := hvin.out; omega
  have hkm : ((kn : Int) == m) = false := by have := HS.out.2.1.len; dsimp only at this hf; rw [this] at hf; simpa using hf
  have hz : RowKit.Hid (placedS k m ⟨r, ks, vs, vt, cl⟩ ⟨11, ky, vl⟩ x i false = (⟨r, withL ks i x, withL vs i vl, vt, cl⟩, (0, 0))) := Lib.hid (by simp [placedS, hvd, hf])
  clear hf
  have hWi := fun W (hW : Ext w W) => with_any ka kn kc ks i x W (HS.out.2.1.ext hW) hin (by omega) hx
  have hWj := fun W (hW : Ext w W) => with_any va vn vc vs i vl W (HS.out.2.2.1.ext hW) hviv (by omega) ho.2.2
  go_enter Tryz.func103, Tryz.ntmps103
  go_wp2_with (go_at_call 107; (with_reducible refine (HVd.out _).mono ?_); rintro e w1 ⟨rfl, rfl⟩)
  refine (hWi _ (by repeat (first | with_reducible exact Ext.refl _ | with_reducible refine Ext.alloc ?_ _ | with_reducible refine Ext.drew ?_))).mono ?_
  rintro e w1 ⟨sl, c', rfl, hW1, hE1, hoff⟩
  have FT0 : Five w1 (w.heap.size + 1 + 1 + 1 + 1 + 1) r ⟨ka, kn, kc⟩ ⟨va, vn, vc⟩ ⟨ta, tn, tc⟩ cl := Five.ext (by ((show Five _ (w.heap.size + 1 + 1 + 1 + 1 + 1) r ⟨ka, kn, kc⟩ ⟨va, vn, vc⟩ ⟨ta, tn, tc⟩ cl); repeat (first | ((with_reducible refine five_at ?_); (simp; done)) | with_reducible refine Five.alloc ?_ _ | with_reducible refine Five.drew ?_ | with_reducible refine Five.set ?_ (by omega) _ _))) hE1
  have F30 : Five w1 (w.heap.size + 1 + 1 + 1) 0 nilSl nilSl nilSl false := Five.ext (by ((show Five _ (w.heap.size + 1 + 1 + 1) 0 ⟨none, 0, 0⟩ ⟨none, 0, 0⟩ ⟨none, 0, 0⟩ false); repeat (first | ((with_reducible refine five_at ?_); (simp; done)) | with_reducible refine Five.alloc ?_ _))) hE1
  have T40 : Two w1 (w.heap.size + 1 + 1 + 1 + 1) 0 0 := (two_ext hE1 (by repeat (first | ((with_reducible refine two_at ?_); (simp; done)) | with_reducible refine two_alloc ?_ _)))
  obtain ⟨l1, l2⟩ := lay hE1
  have hs1 : w.heap.size + 1 + 1 + 1 + 1 + 1 < w1.heap.size := by have := hE1.size; simp at this; omega
  have hs2 : w.heap.size + 1 + 1 + 1 + 1 < w1.heap.size := by omega
  have hs3 : w.heap.size + 1 + 1 + 1 < w1.heap.size := by omega
  have hs1p : w.heap.size + 1 + 1 + 1 + 1 + 1 < w1.heap.size + 1 := by omega
  have hs2p : w.heap.size + 1 + 1 + 1 + 1 < w1.heap.size + 1 := by omega
  have hs3p : w.heap.size + 1 + 1 + 1 < w1.heap.size + 1 := by omega
  have HE1 : RowKit.Hid (Ext w w1) := Lib.hid (Ext.trans (by repeat (first | with_reducible exact Ext.refl _ | with_reducible refine Ext.alloc ?_ _ | with_reducible refine Ext.drew ?_)) hE1)
  simp only [World.size_alloc] at l1 l2
  have FS1 : Five w1 (w.heap.size + 1) r ⟨ka, kn, kc⟩ ⟨va, vn, vc⟩ ⟨ta, tn, tc⟩ cl := Five.ext (by ((show Five _ (w.heap.size + 1) r ⟨ka, kn, kc⟩ ⟨va, vn, vc⟩ ⟨ta, tn, tc⟩ cl); repeat (first | ((with_reducible refine five_at ?_); (simp; done)) | with_reducible refine Five.alloc ?_ _ | with_reducible refine Five.drew ?_ | with_reducible refine Five.set ?_ (by omega) _ _))) hE1
  have FT := five_keys FT0 sl (kn + 1) c'
  have hs4 : w.heap.size + 1 < w1.heap.size := by omega
  have hs5 : w.heap.size + 1 + 1 < w1.heap.size := by omega
  go_wp2_with (fail)
  refine (hWj _ (by repeat (first | with_reducible exact HE1.out | with_reducible refine Ext.alloc ?_ _ | with_reducible refine Ext.drew ?_ | with_reducible refine Ext.setCell ?_ (by omega) _))).mono ?_
  rintro e w2 ⟨sv2, cv2, rfl, hW2, hE2, hoff2⟩
  have FT2 : Five w2 (w.heap.size + 1 + 1 + 1 + 1 + 1) r ⟨sl, kn + 1, c'⟩ ⟨va, vn, vc⟩ ⟨ta, tn, tc⟩ cl := Five.ext (by repeat (first | with_reducible exact FT | with_reducible refine Five.alloc ?_ _)) hE2
  have F32 : Five w2 (w.heap.size + 1 + 1 + 1) 0 nilSl nilSl nilSl false := Five.ext (by repeat (first | with_reducible exact F30 | with_reducible refine Five.alloc ?_ _ | with_reducible refine Five.set ?_ (by omega) _ _)) hE2
  have T42 : Two w2 (w.heap.size + 1 + 1 + 1 + 1) 0 0 := two_ext hE2 (by repeat (first | with_reducible exact T40 | with_reducible refine two_alloc ?_ _ | with_reducible refine two_set ?_ (by omega)))
  have FS2 : Five w2 (w.heap.size + 1) r ⟨ka, kn, kc⟩ ⟨va, vn, vc⟩ ⟨ta, tn, tc⟩ cl := Five.ext (by repeat (first | with_reducible exact FS1 | with_reducible refine Five.alloc ?_ _ | with_reducible refine Five.set ?_ (by omega) _ _)) hE2
  obtain ⟨l3, l4⟩ := lay hE2
  have hu1 : w.heap.size + 1 + 1 + 1 + 1 + 1 < w2.heap.size := by have := hE2.size; simp at this; omega
  have hu2 : w.heap.size + 1 + 1 + 1 + 1 < w2.heap.size := by omega
  have hu3 : w.heap.size + 1 + 1 + 1 < w2.heap.size := by omega
  have hu4 : w.heap.size + 1 < w2.heap.size := by omega
  have HE2 : RowKit.Hid (Ext w w2) := Lib.hid (Ext.trans (by repeat (first | with_reducible exact HE1.out | with_reducible refine Ext.alloc ?_ _ | with_reducible refine Ext.drew ?_ | with_reducible refine Ext.setCell ?_ (by omega) _)) hE2)
  have hK2 : WS w2 sl (kn + 1) c' (withL ks i x) := WS.ext (by repeat (first | with_reducible exact hW1 | with_reducible refine WS.alloc ?_ _ | with_reducible refine WS.far ?_ (hoff _ (by simp only [World.size_alloc]; omega)) _ _)) hE2
  simp only [World.size_setCell] at l3 l4
  have FU := five_vals FT2 sv2 (vn + 1) cv2
  go_wp2_with (fail)
  go_region_held3 (fun w' => (w'.cell? ⟨w.heap.size + 1 + 1 + 1 + 1 + 1, 0, none⟩ = some (.int .u64 r) ∧ w'.cell? ⟨w.heap.size + 1 + 1 + 1 + 1 + 1, 1, none⟩ = some (.slice sl (kn + 1) c') ∧ w'.cell? ⟨w.heap.size + 1 + 1 + 1 + 1 + 1, 2, none⟩ = some (.slice sv2 (vn + 1) cv2) ∧ w'.cell? ⟨w.heap.size + 1 + 1 + 1 + 1 + 1, 3, none⟩ = some (.slice ta tn tc) ∧ w'.cell? ⟨w.heap.size + 1 + 1 + 1 + 1 + 1, 4, none⟩ = some (.bool cl)))
    (first | ((show Five _ (w.heap.size + 1 + 1 + 1 + 1 + 1) r ⟨sl, kn + 1, c'⟩ ⟨sv2, vn + 1, cv2⟩ ⟨ta, tn, tc⟩ cl); repeat (first | with_reducible exact FU | ((with_reducible refine five_at ?_); (simp; done)) | with_reducible refine Five.alloc ?_ _ | with_reducible refine Five.drew ?_ | with_reducible refine Five.set ?_ (by omega) _ _)) | go_keep)
    (first
      | (go_at_call 97; (with_reducible refine (tells_is _ _).mono ?_); rintro e w1 ⟨rfl, rfl⟩))
  rename_i hq
  clear hq
  go_wp2_with (fail)
  have hsB : ∀ jj, jj < 5 → ((w2.setCell ⟨w.heap.size + 1 + 1 + 1 + 1 + 1, 2, none⟩ (.slice sv2 (vn + 1) cv2)).cell? ⟨w.heap.size + 1 + 1 + 1, jj, none⟩).isSome = true := fun jj hjj => by
    rw [cell_far (by omega)]; exact F32.some jj hjj
  have hsC : ∀ jj, jj < 2 → ((w2.setCell ⟨w.heap.size + 1 + 1 + 1 + 1 + 1, 2, none⟩ (.slice sv2 (vn + 1) cv2)).cell? ⟨w.heap.size + 1 + 1 + 1 + 1, jj, none⟩).isSome = true := fun jj hjj => by
    rw [cell_far (by omega)]; exact T42.some jj hjj
  obtain ⟨⟨q0, q1, q2, q3, q4⟩, z0, z1⟩ := fin_both hsB hsC (by omega) r ⟨sl, kn + 1, c'⟩ ⟨sv2, vn + 1, cv2⟩ ⟨ta, tn, tc⟩ cl 0 (0) (((Ext.refl _).alloc (.cells #[.int .i64 0, .int .u64 (0)] 63)).drew)
  refine bodyPost_ret (v := .tuple #[sv r ⟨sl, kn + 1, c'⟩ ⟨sv2, vn + 1, cv2⟩ ⟨ta, tn, tc⟩ cl, rv 0 (0)]) (by simp [results, Tryz.results103, go_sem, q0, q1, q2, q3, q4, z0, z1]) rfl ?_
  rw [hz.out]
  refine ⟨by repeat (first | with_reducible exact HE2.out | with_reducible refine Ext.alloc ?_ _ | with_reducible refine Ext.drew ?_ | with_reducible refine Ext.setCell ?_ (by omega) _), _, _, _, rfl, ⟨hr, ?_, ?_, HS.out.2.2.2.ext (by repeat (first | with_reducible exact HE2.out | with_reducible refine Ext.alloc ?_ _ | with_reducible refine Ext.drew ?_ | with_reducible refine Ext.setCell ?_ (by omega) _))⟩, fun B hB h => ⟨fun _ => hoff B (by simp only [World.size_alloc]; omega), fun _ => hoff2 B (by have := HE1.out.size; simp only [World.size_setCell]; omega), h.2.2⟩⟩
  · repeat (first | with_reducible exact hK2 | with_reducible refine WS.alloc ?_ _ | with_reducible refine WS.drew ?_ | with_reducible refine WS.far ?_ (hoff _ (by simp only [World.size_alloc]; omega)) _ _)
  · repeat (first | with_reducible exact hW2 | with_reducible refine WS.alloc ?_ _ | with_reducible refine WS.drew ?_ | with_reducible refine WS.far ?_ (hoff2 _ (by simp only [World.size_setCell]; omega)) _ _)

set_option maxHeartbeats 4000000 in
set_option maxRecDepth 100000 in
theorem pl11h (k p m : Int) (a v t : Sl) (s : St) (ky vl : Int) (x : Int) (i : Nat) (w : World) (hvd : valued k = true) (hp : Pl k p m a v t s ⟨11, ky, vl⟩ x i true w) :
    Calls Tryz.prog 103 #[cf k p m, sv s.reg a v t s.closed, ov ⟨11, ky, vl⟩, .int .u64 x, .int .i64 i, .bool true] w (DE a v t (placedS k m s ⟨11, ky, vl⟩ x i true) w) := by
  obtain ⟨ka, kn, kc⟩ := a
  obtain ⟨va, vn, vc⟩ := v
  obtain ⟨ta, tn, tc⟩ := t
  obtain ⟨r, ks, vs, vt, cl⟩ := s
  obtain ⟨_, hS, ho, hx, hi, hh, hv, hl⟩ := hp
  have hr := hS.1
  have HS := Lib.hid hS
  have hkl := hS.2.1.len
  have hvl := hS.2.2.1.len
  dsimp only at hkl hvl hi hh hv hl
  rw [hkl] at hi hh hv hl
  rw [hvl] at hv
  have HVd := Lib.hid (fun W => valued_is k p m W)
  have HV := Lib.hid hv
  have HH := Lib.hid hh
  clear hS hkl hvl hv hh
  dsimp only [sv, ov] at *
  rw [hvd] at HVd
  have hin : i < kn := HH.out rfl
  have hvin : RowKit.Hid (vn = kn) := Lib.hid (HV.out hvd)
  have hviv : i < vn := by have := hvin.out; omega
  have hvle : vn ≤ 256 := by have := hvin.out; omega
  obtain ⟨y, hy, uy, b, o, e0, cy⟩ := HS.out.2.2.1.get (k := i) (by simp only; have := HV.out hvd; omega)
  dsimp only at hy e0 cy
  subst e0
  have hji : (i : Int) < vn := by have := HV.out hvd; omega
  have hz : RowKit.Hid (placedS k m ⟨r, ks, vs, vt, cl⟩ ⟨11, ky, vl⟩ x i true = (⟨r, ks, vs.set i vl, vt, cl⟩, (0, y))) := Lib.hid (by simp [placedS, hvd, hy])
  clear hy
  have cyy := fun W (hW : Ext w W) => hW.cell cy
  have hE0 : Ext w ((plW w k p m ka kn kc (some ⟨b, o, none⟩) vn vc ta tn tc r cl 11 ky vl).alloc (bx k p m)) := by unfold plW; repeat (first | with_reducible exact Ext.refl _ | with_reducible refine Ext.alloc ?_ _ | with_reducible refine Ext.drew ?_)
  obtain ⟨sA, cA, w1, RA, oA, gA⟩ := appWS (ys := []) (World.ownsRow_nil ((plW w k p m ka kn kc (some ⟨b, o, none⟩) vn vc ta tn tc r cl 11 ky vl).alloc (bx k p m)) (w.heap.size + 1 + 1 + 1 + 1 + 1 + 1 + 1) _ _) (HS.out.2.2.1.ext hE0) vn (Nat.zero_add _) (by omega) (by simp)
  have hE1 : Ext ((plW w k p m ka kn kc (some ⟨b, o, none⟩) vn vc ta tn tc r cl 11 ky vl).alloc (bx k p m)) w1 := Ext.grown (Ext.refl _) gA (fun k e => by simp [Value.ownBlock] at e)
  have FT0 : Five w1 (w.heap.size + 1 + 1 + 1 + 1 + 1) r ⟨ka, kn, kc⟩ ⟨some ⟨b, o, none⟩, vn, vc⟩ ⟨ta, tn, tc⟩ cl := Five.ext (by ((show Five _ (w.heap.size + 1 + 1 + 1 + 1 + 1) r ⟨ka, kn, kc⟩ ⟨some ⟨b, o, none⟩, vn, vc⟩ ⟨ta, tn, tc⟩ cl); repeat (first | ((with_reducible refine five_at ?_); (simp; done)) | with_reducible refine Five.alloc ?_ _ | with_reducible refine Five.drew ?_ | with_reducible refine Five.set ?_ (by omega) _ _))) hE1
  have F30 : Five w1 (w.heap.size + 1 + 1 + 1) 0 nilSl nilSl nilSl false := Five.ext (by ((show Five _ (w.heap.size + 1 + 1 + 1) 0 ⟨none, 0, 0⟩ ⟨none, 0, 0⟩ ⟨none, 0, 0⟩ false); repeat (first | ((with_reducible refine five_at ?_); (simp; done)) | with_reducible refine Five.alloc ?_ _))) hE1
  have T40 : Two w1 (w.heap.size + 1 + 1 + 1 + 1) 0 0 := (two_ext hE1 (by repeat (first | ((with_reducible refine two_at ?_); (simp; done)) | with_reducible refine two_alloc ?_ _)))
  obtain ⟨l1, l2⟩ := lay hE1
  have hs1 : w.heap.size + 1 + 1 + 1 + 1 + 1 < w1.heap.size := by have := hE1.size; simp at this; omega
  have hs2 : w.heap.size + 1 + 1 + 1 + 1 < w1.heap.size := by omega
  have hs3 : w.heap.size + 1 + 1 + 1 < w1.heap.size := by omega
  have hs1p : w.heap.size + 1 + 1 + 1 + 1 + 1 < w1.heap.size + 1 := by omega
  have hs2p : w.heap.size + 1 + 1 + 1 + 1 < w1.heap.size + 1 := by omega
  have hs3p : w.heap.size + 1 + 1 + 1 < w1.heap.size + 1 := by omega
  have HE1 : RowKit.Hid (Ext w w1) := Lib.hid (Ext.trans (by repeat (first | with_reducible exact Ext.refl _ | with_reducible refine Ext.alloc ?_ _ | with_reducible refine Ext.drew ?_)) hE1)
  simp only [World.size_alloc] at l1 l2
  have FS1 : Five w1 (w.heap.size + 1) r ⟨ka, kn, kc⟩ ⟨some ⟨b, o, none⟩, vn, vc⟩ ⟨ta, tn, tc⟩ cl := Five.ext (by ((show Five _ (w.heap.size + 1) r ⟨ka, kn, kc⟩ ⟨some ⟨b, o, none⟩, vn, vc⟩ ⟨ta, tn, tc⟩ cl); repeat (first | ((with_reducible refine five_at ?_); (simp; done)) | with_reducible refine Five.alloc ?_ _ | with_reducible refine Five.drew ?_ | with_reducible refine Five.set ?_ (by omega) _ _))) hE1
  have hW1 : WS w1 sA vn cA vs := WS.of_own (by simpa using oA) HS.out.2.2.1.len (by omega) HS.out.2.2.1.range
  have hoff := off_grown (own_ge oA)
  obtain ⟨g, hg, hfr⟩ : ∃ g, sA = some ⟨g, 0, none⟩ ∧ ∀ j, w1.frozen? ⟨g, j, none⟩ = false := by
    rcases oA.2 with ⟨e, hz0⟩ | ⟨g, cap, cur, e, _, hb, _⟩
    · cases e; omega
    · cases e; exact ⟨g, rfl, fun j => by simp [World.frozen?, hb]⟩
  subst hg
  have hgg := hoff
  have hgB : ∀ B, B < w.heap.size + 1 + 1 + 1 + 1 + 1 + 1 + 1 → g ≠ B := fun B hB => hoff B hB g 0 rfl
  have hgT := hgB (w.heap.size + 1 + 1 + 1 + 1 + 1) (by omega)
  have FT := five_vals FT0 (some ⟨g, 0, none⟩) vn cA
  obtain ⟨z, hz1, _, b', o', e', cz⟩ := hW1.get (k := i) hviv
  cases e'
  rw [Nat.zero_add] at cz
  have cz2 : (w1.setCell ⟨w.heap.size + 1 + 1 + 1 + 1 + 1, 2, none⟩ (.slice (some ⟨g, 0, none⟩) vn cA)).cell? ⟨g, i, none⟩ = some (.int .u64 z) := (cell_far hgT).trans cz
  have cf2 : (w1.setCell ⟨w.heap.size + 1 + 1 + 1 + 1 + 1, 2, none⟩ (.slice (some ⟨g, 0, none⟩) vn cA)).frozen? ⟨g, i, none⟩ = false := by rw [World.frozen?_setCell]; exact hfr i
  have hs4 : w.heap.size + 1 < w1.heap.size := by omega
  have hs5 : w.heap.size + 1 + 1 < w1.heap.size := by omega
  go_enter Tryz.func103, Tryz.ntmps103
  go_wp2_with (first | (go_at_call 107; (with_reducible refine (HVd.out _).mono ?_); rintro e w1 ⟨rfl, rfl⟩) | (at_builtin; refine Lib.wpList_append_run _ rfl (.const (.slice none 0 0)) (.tmp 156) _ _ rfl _ _ rfl rfl _ _ RA.out ?_))
  have hg1 := hgB (w.heap.size + 1) (by omega)
  have hg3 := hgB (w.heap.size + 1 + 1 + 1) (by omega)
  have hg4 := hgB (w.heap.size + 1 + 1 + 1 + 1) (by omega)
  have hgw : w.heap.size ≤ g := by have := own_ge oA g (by simp [Value.ownBlock]); omega
  have FV := FT.set (B := g) (by omega) i (.int .u64 vl)
  have hU := (hW1.far (hoff (w.heap.size + 1 + 1 + 1 + 1 + 1) (by omega)) 2 (.slice (some ⟨g, 0, none⟩) vn cA)).upd hviv ho.2.2
  go_region_held3 (fun w' => (w'.cell? ⟨w.heap.size + 1 + 1 + 1 + 1 + 1, 0, none⟩ = some (.int .u64 r) ∧ w'.cell? ⟨w.heap.size + 1 + 1 + 1 + 1 + 1, 1, none⟩ = some (.slice ka kn kc) ∧ w'.cell? ⟨w.heap.size + 1 + 1 + 1 + 1 + 1, 2, none⟩ = some (.slice (some ⟨g, 0, none⟩) vn cA) ∧ w'.cell? ⟨w.heap.size + 1 + 1 + 1 + 1 + 1, 3, none⟩ = some (.slice ta tn tc) ∧ w'.cell? ⟨w.heap.size + 1 + 1 + 1 + 1 + 1, 4, none⟩ = some (.bool cl) ∧ w'.cell? ⟨w.heap.size + 1, 2, none⟩ = some (.slice (some ⟨b, o, none⟩) vn vc) ∧ w'.cell? ⟨b, o + i, none⟩ = some (.int .u64 y)))
    (first | exact and5 (by ((show Five _ (w.heap.size + 1 + 1 + 1 + 1 + 1) r ⟨ka, kn, kc⟩ ⟨some ⟨g, 0, none⟩, vn, cA⟩ ⟨ta, tn, tc⟩ cl); repeat (first | with_reducible exact FV | ((with_reducible refine five_at ?_); (simp; done)) | with_reducible refine Five.alloc ?_ _ | with_reducible refine Five.drew ?_ | with_reducible refine Five.set ?_ (by omega) _ _))) ⟨(show Five _ (w.heap.size + 1) r ⟨ka, kn, kc⟩ ⟨some ⟨b, o, none⟩, vn, vc⟩ ⟨ta, tn, tc⟩ cl by repeat (first | with_reducible exact FS1 | with_reducible refine Five.alloc ?_ _ | with_reducible refine Five.drew ?_ | with_reducible refine Five.set ?_ (by omega) _ _)).2.2.1, cyy _ (by repeat (first | with_reducible exact HE1.out | with_reducible refine Ext.alloc ?_ _ | with_reducible refine Ext.drew ?_ | with_reducible refine Ext.setCell ?_ (by omega) _))⟩ | go_keep)
    (first
      | (go_at_call 97; (with_reducible refine (tells_is _ _).mono ?_); rintro e w1 ⟨rfl, rfl⟩))
  rename_i hq
  clear hq
  go_wp2_with (fail)
  have hsB : ∀ jj, jj < 5 → (((w1.setCell ⟨w.heap.size + 1 + 1 + 1 + 1 + 1, 2, none⟩ (.slice (some ⟨g, 0, none⟩) vn cA)).setCell ⟨g, i, none⟩ (.int .u64 vl)).cell? ⟨w.heap.size + 1 + 1 + 1, jj, none⟩).isSome = true := fun jj hjj => by
    rw [cell_far (by omega), cell_far (by omega)]; exact F30.some jj hjj
  have hsC : ∀ jj, jj < 2 → (((w1.setCell ⟨w.heap.size + 1 + 1 + 1 + 1 + 1, 2, none⟩ (.slice (some ⟨g, 0, none⟩) vn cA)).setCell ⟨g, i, none⟩ (.int .u64 vl)).cell? ⟨w.heap.size + 1 + 1 + 1 + 1, jj, none⟩).isSome = true := fun jj hjj => by
    rw [cell_far (by omega), cell_far (by omega)]; exact T40.some jj hjj
  obtain ⟨⟨q0, q1, q2, q3, q4⟩, z0, z1⟩ := fin_both hsB hsC (by omega) r ⟨ka, kn, kc⟩ ⟨some ⟨g, 0, none⟩, vn, cA⟩ ⟨ta, tn, tc⟩ cl 0 (y) (((Ext.refl _).alloc (.cells #[.int .i64 0, .int .u64 (y)] 63)).drew)
  refine bodyPost_ret (v := .tuple #[sv r ⟨ka, kn, kc⟩ ⟨some ⟨g, 0, none⟩, vn, cA⟩ ⟨ta, tn, tc⟩ cl, rv 0 (y)]) (by simp [results, Tryz.results103, go_sem, q0, q1, q2, q3, q4, z0, z1]) rfl ?_
  rw [hz.out]
  refine ⟨by repeat (first | with_reducible exact HE1.out | with_reducible refine Ext.alloc ?_ _ | with_reducible refine Ext.drew ?_ | with_reducible refine Ext.setCell ?_ (by omega) _), _, _, _, rfl, ⟨hr, ?_, ?_, HS.out.2.2.2.ext (by repeat (first | with_reducible exact HE1.out | with_reducible refine Ext.alloc ?_ _ | with_reducible refine Ext.drew ?_ | with_reducible refine Ext.setCell ?_ (by omega) _))⟩, fun B hB h => ⟨h.1, fun _ => hoff B (by omega), h.2.2⟩⟩
  · exact HS.out.2.1.ext (by repeat (first | with_reducible exact HE1.out | with_reducible refine Ext.alloc ?_ _ | with_reducible refine Ext.drew ?_ | with_reducible refine Ext.setCell ?_ (by omega) _))
  · repeat (first | with_reducible exact hU | with_reducible refine WS.alloc ?_ _ | with_reducible refine WS.drew ?_ | with_reducible refine WS.far ?_ (hoff _ (by omega)) _ _)

end Go.Proofs.YtmonkcekkhfafaaGreatDoor.Aut

