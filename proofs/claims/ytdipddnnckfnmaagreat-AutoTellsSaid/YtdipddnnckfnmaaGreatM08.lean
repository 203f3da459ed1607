/-
  Parts of a proof, one behind the other: AutPl, AutPlA, AutPlB. Each says its own conditions.
-/
import Derived.Test.YtdipddnnckfnmaaGreatM07

/- AutPl:
  What the document's placed does and tells: a call of what has keys, of a key that is at a place, or would be. Conditions: integers' bounds; the state's slices are there, as many values as keys where there are values, the place within them.
-/
namespace Go.Proofs.YtdipddnnckfnmaaGreat.Aut
open Go.RowKit (Below intOf)
open Reg (cf bx)

theorem valued_is (k p m : Int) (w : World) : Calls Tryz.prog 62 #[cf k p m] w fun e w' => e = .returned (.bool (valued k)) ∧ w' = w.alloc (bx k p m) := by
  by_cases h3 : k = 3
  · subst h3
    go_enter Tryz.func62, Tryz.ntmps62
    go_wp2
    go_ret
    exact ⟨rfl, rfl⟩
  · have e3 : (k == 3) = false := by simpa using h3
    have e4 : RowKit.Hid ((k == 4) = valued k) := Lib.hid (by unfold valued; by_cases h4 : k = 4 <;> simp [h3, h4])
    clear h3
    go_enter Tryz.func62, Tryz.ntmps62
    go_wp2
    go_ret
    exact ⟨ret_bool e4.out, rfl⟩

theorem five_keys {w : World} {b : Nat} {r : Int} {k v t : Sl} {cl : Bool} (h : Five w b r k v t cl) (sl : Option Addr) (n c : Nat) : Five (w.setCell ⟨b, 1, none⟩ (.slice sl n c)) b r ⟨sl, n, c⟩ v t cl :=
  ⟨(set_far (by omega)).trans h.1, World.cell?_setCell_same' _ _ _ (by rw [h.2.1]; rfl), (set_far (by omega)).trans h.2.2.1, (set_far (by omega)).trans h.2.2.2.1, (set_far (by omega)).trans h.2.2.2.2⟩
theorem five_vals {w : World} {b : Nat} {r : Int} {k v t : Sl} {cl : Bool} (h : Five w b r k v t cl) (sl : Option Addr) (n c : Nat) : Five (w.setCell ⟨b, 2, none⟩ (.slice sl n c)) b r k ⟨sl, n, c⟩ t cl :=
  ⟨(set_far (by omega)).trans h.1, (set_far (by omega)).trans h.2.1, World.cell?_setCell_same' _ _ _ (by rw [h.2.2.1]; rfl), (set_far (by omega)).trans h.2.2.2.1, (set_far (by omega)).trans h.2.2.2.2⟩
/-- The world in which placed begins. -/
abbrev plW (w : World) (k p m : Int) (ka : Option Addr) (kn kc : Nat) (va : Option Addr) (vn vc : Nat) (ta : Option Addr) (tn tc : Nat) (r : Int) (cl : Bool) (cd ky vl : Int) : World :=
  (((((w.alloc (bx k p m)).alloc (.cells #[.int .u64 r, .slice ka kn kc, .slice va vn vc, .slice ta tn tc, .bool cl] 30)).alloc (.cells #[.int .i64 cd, .int .u64 ky, .int .u64 vl] 32)).alloc (.cells #[.int .u64 0, .slice none 0 0, .slice none 0 0, .slice none 0 0, .bool false] 30)).alloc (.cells #[.int .i64 0, .int .u64 0] 51)).alloc (.cells #[.int .u64 r, .slice ka kn kc, .slice va vn vc, .slice ta tn tc, .bool cl] 30)

theorem WS.alloc {w : World} {sl : Option Addr} {n c : Nat} {xs : List Int} (h : WS w sl n c xs) (o : Obj) : WS (w.alloc o) sl n c xs := h.ext (Ext.new w o)
theorem WS.drew {w : World} {sl : Option Addr} {n c : Nat} {xs : List Int} (h : WS w sl n c xs) : WS w.drew sl n c xs := h.ext (Ext.drew (Ext.refl w))
/-- One word of a slice anew. -/
theorem WS.upd {w : World} {g n c i : Nat} {x : Int} {xs : List Int} (h : WS w (some ⟨g, 0, none⟩) n c xs) (hi : i < n) (hx : U64 x) : WS (w.setCell ⟨g, i, none⟩ (.int .u64 x)) (some ⟨g, 0, none⟩) n c (xs.set i x) := by
  refine ⟨by rw [List.length_set]; exact h.1, h.2.1, h.2.2.1, h.2.2.2.1, fun j y hj => ?_⟩
  by_cases e : i = j
  · subst e
    rw [List.getElem?_set_self (by rw [h.1]; exact hi)] at hj
    cases hj
    obtain ⟨z, _, _, b, o, e0, hc⟩ := h.get hi
    cases e0
    rw [Nat.zero_add] at hc
    exact ⟨hx, g, 0, rfl, by rw [Nat.zero_add]; exact World.cell?_setCell_same' _ _ _ (by rw [hc]; rfl)⟩
  · rw [List.getElem?_set_ne e] at hj
    obtain ⟨hu, b, o, e0, hc⟩ := h.2.2.2.2 j y hj
    cases e0
    exact ⟨hu, g, 0, rfl, by rw [set_far (by omega)]; exact hc⟩
/-- An answer's cells. -/
def Two (w : World) (b : Nat) (e x : Int) : Prop := w.cell? ⟨b, 0, none⟩ = some (.int .i64 e) ∧ w.cell? ⟨b, 1, none⟩ = some (.int .u64 x)
theorem two_ext {w w' : World} {b : Nat} {e x : Int} (h : Ext w w') (g : Two w b e x) : Two w' b e x := ⟨h.cell g.1, h.cell g.2⟩
theorem two_alloc {w : World} {b : Nat} {e x : Int} (h : Two w b e x) (o : Obj) : Two (w.alloc o) b e x := two_ext (Ext.new w o) h
theorem two_at {X : World} {B : Nat} {e x : Int} (h : X.heap.size = B) : Two (X.alloc (.cells #[.int .i64 e, .int .u64 x] 51)) B e x := by
  subst h
  constructor <;> (unfold World.cell?; rw [World.alloc_heap_new]; rfl)
theorem Five.some {w : World} {b : Nat} {r : Int} {k v t : Sl} {cl : Bool} (h : Five w b r k v t cl) : ∀ i, i < 5 → (w.cell? ⟨b, i, none⟩).isSome = true := fun i hi => by
  obtain ⟨a0, a1, a2, a3, a4⟩ := h
  match i, hi with
  | 0, _ => rw [a0]; rfl
  | 1, _ => rw [a1]; rfl
  | 2, _ => rw [a2]; rfl
  | 3, _ => rw [a3]; rfl
  | 4, _ => rw [a4]; rfl
  | i + 5, hi => omega
theorem Two.some {w : World} {b : Nat} {e x : Int} (h : Two w b e x) : ∀ i, i < 2 → (w.cell? ⟨b, i, none⟩).isSome = true := fun i hi => by
  obtain ⟨a0, a1⟩ := h
  match i, hi with
  | 0, _ => rw [a0]; rfl
  | 1, _ => rw [a1]; rfl
  | i + 2, hi => omega
/-- What both results are, once they are written. -/
theorem fin_both {W W' : World} {B C : Nat} (hB : ∀ i, i < 5 → (W.cell? ⟨B, i, none⟩).isSome = true) (hC : ∀ i, i < 2 → (W.cell? ⟨C, i, none⟩).isSome = true) (hne : B ≠ C) (r : Int) (k v t : Sl) (cl : Bool) (e x : Int)
    (hE : Ext (((put5 W B r k v t cl).setCell ⟨C, 0, none⟩ (.int .i64 e)).setCell ⟨C, 1, none⟩ (.int .u64 x)) W') : Five W' B r k v t cl ∧ Two W' C e x := by
  refine ⟨(((five_put hB r k v t cl).set hne _ _).set hne _ _).ext hE, two_ext hE ⟨?_, ?_⟩⟩
  · rw [set_far (by omega)]
    exact World.cell?_setCell_same' _ _ _ (by rw [cell_far (Ne.symm hne), cell_far (Ne.symm hne), cell_far (Ne.symm hne), cell_far (Ne.symm hne), cell_far (Ne.symm hne)]; exact hC 0 (by omega))
  · exact World.cell?_setCell_same' _ _ _ (by rw [set_far (by omega), cell_far (Ne.symm hne), cell_far (Ne.symm hne), cell_far (Ne.symm hne), cell_far (Ne.symm hne), cell_far (Ne.symm hne)]; exact hC 1 (by omega))
theorem two_set {w : World} {b B i : Nat} {e x : Int} {v : Value} (h : Two w b e x) (hB : b ≠ B) : Two (w.setCell ⟨B, i, none⟩ v) b e x := ⟨(cell_far hB).trans h.1, (cell_far hB).trans h.2⟩

/-- What placed asks. -/
structure Pl (k p m : Int) (a v t : Sl) (s : St) (o : Cl) (x : Int) (i : Nat) (here : Bool) (w : World) : Prop where
  hm : I64 m
  hS : SS w a v t s
  ho : Wc o
  hx : U64 x
  hi : i ≤ s.keys.length
  hh : here = true → i < s.keys.length
  hv : valued k = true → s.vals.length = s.keys.length
  hl : s.keys.length ≤ 256

end Go.Proofs.YtdipddnnckfnmaaGreat.Aut

/- AutPlA:
  What the document's placed does and tells: a call of what has keys, of a key that is at a place, or would be. Conditions: integers' bounds; the state's slices are there, as many values as keys where there are values, the place within them.
-/
namespace Go.Proofs.YtdipddnnckfnmaaGreat.Aut
open Go.RowKit (Below intOf)
open Reg (cf bx)


set_option maxHeartbeats 4000000 in
set_option maxRecDepth 100000 in
theorem pl7n (k p m : Int) (a v t : Sl) (s : St) (ky vl : Int) (x : Int) (i : Nat) (w : World) (hp : Pl k p m a v t s ⟨7, ky, vl⟩ x i false w) :
    Calls Tryz.prog 70 #[cf k p m, sv s.reg a v t s.closed, ov ⟨7, ky, vl⟩, .int .u64 x, .int .i64 i, .bool false] w (DE a v t (placedS k m s ⟨7, ky, vl⟩ x i false) w) := by
  obtain ⟨ka, kn, kc⟩ := a
  obtain ⟨va, vn, vc⟩ := v
  obtain ⟨ta, tn, tc⟩ := t
  obtain ⟨r, ks, vs, vt, cl⟩ := s
  obtain ⟨_, hS, ho, hx, hi, hh, hv, hl⟩ := hp
  have hr := hS.1
  have HS := Lib.hid hS
  have hkl := hS.2.1.len
  have hvl := hS.2.2.1.len
  dsimp only at hkl hvl hi hh hv hl
  rw [hkl] at hi hh hv hl
  rw [hvl] at hv
  have HVd := Lib.hid (fun W => valued_is k p m W)
  have HV := Lib.hid hv
  have HH := Lib.hid hh
  clear hS hkl hvl hv hh
  dsimp only [sv, ov] at *
  have hz : RowKit.Hid (placedS k m ⟨r, ks, vs, vt, cl⟩ ⟨7, ky, vl⟩ x i false = (⟨r, ks, vs, vt, cl⟩, (12, 0))) := Lib.hid (by rfl)
  go_enter Tryz.func70, Tryz.ntmps70
  go_wp2_with (go_at_call 62; (with_reducible refine (HVd.out _).mono ?_); rintro e w1 ⟨rfl, rfl⟩)
  go_region_held3 (fun w' => (w'.cell? ⟨w.heap.size + 1, 0, none⟩ = some (.int .u64 r) ∧ w'.cell? ⟨w.heap.size + 1, 1, none⟩ = some (.slice ka kn kc) ∧ w'.cell? ⟨w.heap.size + 1, 2, none⟩ = some (.slice va vn vc) ∧ w'.cell? ⟨w.heap.size + 1, 3, none⟩ = some (.slice ta tn tc) ∧ w'.cell? ⟨w.heap.size + 1, 4, none⟩ = some (.bool cl)))
    (first | ((show Five _ (w.heap.size + 1) r ⟨ka, kn, kc⟩ ⟨va, vn, vc⟩ ⟨ta, tn, tc⟩ cl); repeat (first | ((with_reducible refine five_at ?_); (simp; done)) | with_reducible refine Five.alloc ?_ _ | with_reducible refine Five.drew ?_ | with_reducible refine Five.set ?_ (by omega) _ _)) | go_keep)
    (first
      | (go_at_call 69; (with_reducible refine (refuses_is _ _).mono ?_); rintro e w1 ⟨rfl, rfl⟩))
  rename_i hq
  clear hq
  go_wp2_with (fail)
  refine bodyPost_ret (v := .tuple #[sv r ⟨ka, kn, kc⟩ ⟨va, vn, vc⟩ ⟨ta, tn, tc⟩ cl, rv 12 (0)]) (by simp [results, Tryz.results70, go_sem]) rfl ?_
  rw [hz.out]
  refine ⟨?_, _, _, _, rfl, ⟨hr, HS.out.2.1.ext ?_, HS.out.2.2.1.ext ?_, HS.out.2.2.2.ext ?_⟩, fun _ _ h => h⟩ <;> repeat (first | with_reducible exact Ext.refl _ | with_reducible refine Ext.alloc ?_ _ | with_reducible refine Ext.drew ?_)

set_option maxHeartbeats 4000000 in
set_option maxRecDepth 100000 in
theorem pl5h (k p m : Int) (a v t : Sl) (s : St) (ky vl : Int) (x : Int) (i : Nat) (w : World) (hvd : valued k = false) (hp : Pl k p m a v t s ⟨5, ky, vl⟩ x i true w) :
    Calls Tryz.prog 70 #[cf k p m, sv s.reg a v t s.closed, ov ⟨5, ky, vl⟩, .int .u64 x, .int .i64 i, .bool true] w (DE a v t (placedS k m s ⟨5, ky, vl⟩ x i true) w) := by
  obtain ⟨ka, kn, kc⟩ := a
  obtain ⟨va, vn, vc⟩ := v
  obtain ⟨ta, tn, tc⟩ := t
  obtain ⟨r, ks, vs, vt, cl⟩ := s
  obtain ⟨_, hS, ho, hx, hi, hh, hv, hl⟩ := hp
  have hr := hS.1
  have HS := Lib.hid hS
  have hkl := hS.2.1.len
  have hvl := hS.2.2.1.len
  dsimp only at hkl hvl hi hh hv hl
  rw [hkl] at hi hh hv hl
  rw [hvl] at hv
  have HVd := Lib.hid (fun W => valued_is k p m W)
  have HV := Lib.hid hv
  have HH := Lib.hid hh
  clear hS hkl hvl hv hh
  dsimp only [sv, ov] at *
  rw [hvd] at HVd
  have hz : RowKit.Hid (placedS k m ⟨r, ks, vs, vt, cl⟩ ⟨5, ky, vl⟩ x i true = (⟨r, ks, vs, vt, cl⟩, (0, bitZ true))) := Lib.hid (by simp [placedS, hvd])
  go_enter Tryz.func70, Tryz.ntmps70
  go_wp2_with (go_at_call 62; (with_reducible refine (HVd.out _).mono ?_); rintro e w1 ⟨rfl, rfl⟩)
  go_region_held3 (fun w' => (w'.cell? ⟨w.heap.size + 1, 0, none⟩ = some (.int .u64 r) ∧ w'.cell? ⟨w.heap.size + 1, 1, none⟩ = some (.slice ka kn kc) ∧ w'.cell? ⟨w.heap.size + 1, 2, none⟩ = some (.slice va vn vc) ∧ w'.cell? ⟨w.heap.size + 1, 3, none⟩ = some (.slice ta tn tc) ∧ w'.cell? ⟨w.heap.size + 1, 4, none⟩ = some (.bool cl)))
    (first | ((show Five _ (w.heap.size + 1) r ⟨ka, kn, kc⟩ ⟨va, vn, vc⟩ ⟨ta, tn, tc⟩ cl); repeat (first | ((with_reducible refine five_at ?_); (simp; done)) | with_reducible refine Five.alloc ?_ _ | with_reducible refine Five.drew ?_ | with_reducible refine Five.set ?_ (by omega) _ _)) | go_keep)
    (first
      | (go_at_call 72; (with_reducible refine (bit_any _ _).mono ?_); rintro e w1 ⟨rfl, rfl⟩)
      | (go_at_call 68; (with_reducible refine (tells_is _ _).mono ?_); rintro e w1 ⟨rfl, rfl⟩))
  rename_i hq
  clear hq
  go_wp2_with (fail)
  refine bodyPost_ret (v := .tuple #[sv r ⟨ka, kn, kc⟩ ⟨va, vn, vc⟩ ⟨ta, tn, tc⟩ cl, rv 0 (bitZ true)]) (by simp [results, Tryz.results70, go_sem]) rfl ?_
  rw [hz.out]
  refine ⟨?_, _, _, _, rfl, ⟨hr, HS.out.2.1.ext ?_, HS.out.2.2.1.ext ?_, HS.out.2.2.2.ext ?_⟩, fun _ _ h => h⟩ <;> repeat (first | with_reducible exact Ext.refl _ | with_reducible refine Ext.alloc ?_ _ | with_reducible refine Ext.drew ?_)

set_option maxHeartbeats 4000000 in
set_option maxRecDepth 100000 in
theorem pl5n (k p m : Int) (a v t : Sl) (s : St) (ky vl : Int) (x : Int) (i : Nat) (w : World) (hvd : valued k = false) (hp : Pl k p m a v t s ⟨5, ky, vl⟩ x i false w) :
    Calls Tryz.prog 70 #[cf k p m, sv s.reg a v t s.closed, ov ⟨5, ky, vl⟩, .int .u64 x, .int .i64 i, .bool false] w (DE a v t (placedS k m s ⟨5, ky, vl⟩ x i false) w) := by
  obtain ⟨ka, kn, kc⟩ := a
  obtain ⟨va, vn, vc⟩ := v
  obtain ⟨ta, tn, tc⟩ := t
  obtain ⟨r, ks, vs, vt, cl⟩ := s
  obtain ⟨_, hS, ho, hx, hi, hh, hv, hl⟩ := hp
  have hr := hS.1
  have HS := Lib.hid hS
  have hkl := hS.2.1.len
  have hvl := hS.2.2.1.len
  dsimp only at hkl hvl hi hh hv hl
  rw [hkl] at hi hh hv hl
  rw [hvl] at hv
  have HVd := Lib.hid (fun W => valued_is k p m W)
  have HV := Lib.hid hv
  have HH := Lib.hid hh
  clear hS hkl hvl hv hh
  dsimp only [sv, ov] at *
  rw [hvd] at HVd
  have hz : RowKit.Hid (placedS k m ⟨r, ks, vs, vt, cl⟩ ⟨5, ky, vl⟩ x i false = (⟨r, ks, vs, vt, cl⟩, (0, bitZ false))) := Lib.hid (by simp [placedS, hvd])
  go_enter Tryz.func70, Tryz.ntmps70
  go_wp2_with (go_at_call 62; (with_reducible refine (HVd.out _).mono ?_); rintro e w1 ⟨rfl, rfl⟩)
  go_region_held3 (fun w' => (w'.cell? ⟨w.heap.size + 1, 0, none⟩ = some (.int .u64 r) ∧ w'.cell? ⟨w.heap.size + 1, 1, none⟩ = some (.slice ka kn kc) ∧ w'.cell? ⟨w.heap.size + 1, 2, none⟩ = some (.slice va vn vc) ∧ w'.cell? ⟨w.heap.size + 1, 3, none⟩ = some (.slice ta tn tc) ∧ w'.cell? ⟨w.heap.size + 1, 4, none⟩ = some (.bool cl)))
    (first | ((show Five _ (w.heap.size + 1) r ⟨ka, kn, kc⟩ ⟨va, vn, vc⟩ ⟨ta, tn, tc⟩ cl); repeat (first | ((with_reducible refine five_at ?_); (simp; done)) | with_reducible refine Five.alloc ?_ _ | with_reducible refine Five.drew ?_ | with_reducible refine Five.set ?_ (by omega) _ _)) | go_keep)
    (first
      | (go_at_call 72; (with_reducible refine (bit_any _ _).mono ?_); rintro e w1 ⟨rfl, rfl⟩)
      | (go_at_call 68; (with_reducible refine (tells_is _ _).mono ?_); rintro e w1 ⟨rfl, rfl⟩))
  rename_i hq
  clear hq
  go_wp2_with (fail)
  refine bodyPost_ret (v := .tuple #[sv r ⟨ka, kn, kc⟩ ⟨va, vn, vc⟩ ⟨ta, tn, tc⟩ cl, rv 0 (bitZ false)]) (by simp [results, Tryz.results70, go_sem]) rfl ?_
  rw [hz.out]
  refine ⟨?_, _, _, _, rfl, ⟨hr, HS.out.2.1.ext ?_, HS.out.2.2.1.ext ?_, HS.out.2.2.2.ext ?_⟩, fun _ _ h => h⟩ <;> repeat (first | with_reducible exact Ext.refl _ | with_reducible refine Ext.alloc ?_ _ | with_reducible refine Ext.drew ?_)

set_option maxHeartbeats 4000000 in
set_option maxRecDepth 100000 in
theorem pl10n (k p m : Int) (a v t : Sl) (s : St) (ky vl : Int) (x : Int) (i : Nat) (w : World) (hvd : valued k = true) (hp : Pl k p m a v t s ⟨10, ky, vl⟩ x i false w) :
    Calls Tryz.prog 70 #[cf k p m, sv s.reg a v t s.closed, ov ⟨10, ky, vl⟩, .int .u64 x, .int .i64 i, .bool false] w (DE a v t (placedS k m s ⟨10, ky, vl⟩ x i false) w) := by
  obtain ⟨ka, kn, kc⟩ := a
  obtain ⟨va, vn, vc⟩ := v
  obtain ⟨ta, tn, tc⟩ := t
  obtain ⟨r, ks, vs, vt, cl⟩ := s
  obtain ⟨_, hS, ho, hx, hi, hh, hv, hl⟩ := hp
  have hr := hS.1
  have HS := Lib.hid hS
  have hkl := hS.2.1.len
  have hvl := hS.2.2.1.len
  dsimp only at hkl hvl hi hh hv hl
  rw [hkl] at hi hh hv hl
  rw [hvl] at hv
  have HVd := Lib.hid (fun W => valued_is k p m W)
  have HV := Lib.hid hv
  have HH := Lib.hid hh
  clear hS hkl hvl hv hh
  dsimp only [sv, ov] at *
  rw [hvd] at HVd
  have hz : RowKit.Hid (placedS k m ⟨r, ks, vs, vt, cl⟩ ⟨10, ky, vl⟩ x i false = (⟨r, ks, vs, vt, cl⟩, (12, 0))) := Lib.hid (by simp [placedS, hvd])
  go_enter Tryz.func70, Tryz.ntmps70
  go_wp2_with (go_at_call 62; (with_reducible refine (HVd.out _).mono ?_); rintro e w1 ⟨rfl, rfl⟩)
  go_region_held3 (fun w' => (w'.cell? ⟨w.heap.size + 1, 0, none⟩ = some (.int .u64 r) ∧ w'.cell? ⟨w.heap.size + 1, 1, none⟩ = some (.slice ka kn kc) ∧ w'.cell? ⟨w.heap.size + 1, 2, none⟩ = some (.slice va vn vc) ∧ w'.cell? ⟨w.heap.size + 1, 3, none⟩ = some (.slice ta tn tc) ∧ w'.cell? ⟨w.heap.size + 1, 4, none⟩ = some (.bool cl)))
    (first | ((show Five _ (w.heap.size + 1) r ⟨ka, kn, kc⟩ ⟨va, vn, vc⟩ ⟨ta, tn, tc⟩ cl); repeat (first | ((with_reducible refine five_at ?_); (simp; done)) | with_reducible refine Five.alloc ?_ _ | with_reducible refine Five.drew ?_ | with_reducible refine Five.set ?_ (by omega) _ _)) | go_keep)
    (first
      | (go_at_call 69; (with_reducible refine (refuses_is _ _).mono ?_); rintro e w1 ⟨rfl, rfl⟩))
  rename_i hq
  clear hq
  go_wp2_with (fail)
  refine bodyPost_ret (v := .tuple #[sv r ⟨ka, kn, kc⟩ ⟨va, vn, vc⟩ ⟨ta, tn, tc⟩ cl, rv 12 (0)]) (by simp [results, Tryz.results70, go_sem]) rfl ?_
  rw [hz.out]
  refine ⟨?_, _, _, _, rfl, ⟨hr, HS.out.2.1.ext ?_, HS.out.2.2.1.ext ?_, HS.out.2.2.2.ext ?_⟩, fun _ _ h => h⟩ <;> repeat (first | with_reducible exact Ext.refl _ | with_reducible refine Ext.alloc ?_ _ | with_reducible refine Ext.drew ?_)

set_option maxHeartbeats 4000000 in
set_option maxRecDepth 100000 in
theorem pl10h (k p m : Int) (a v t : Sl) (s : St) (ky vl : Int) (x : Int) (i : Nat) (w : World) (hvd : valued k = true) (hp : Pl k p m a v t s ⟨10, ky, vl⟩ x i true w) :
    Calls Tryz.prog 70 #[cf k p m, sv s.reg a v t s.closed, ov ⟨10, ky, vl⟩, .int .u64 x, .int .i64 i, .bool true] w (DE a v t (placedS k m s ⟨10, ky, vl⟩ x i true) w) := by
  obtain ⟨ka, kn, kc⟩ := a
  obtain ⟨va, vn, vc⟩ := v
  obtain ⟨ta, tn, tc⟩ := t
  obtain ⟨r, ks, vs, vt, cl⟩ := s
  obtain ⟨_, hS, ho, hx, hi, hh, hv, hl⟩ := hp
  have hr := hS.1
  have HS := Lib.hid hS
  have hkl := hS.2.1.len
  have hvl := hS.2.2.1.len
  dsimp only at hkl hvl hi hh hv hl
  rw [hkl] at hi hh hv hl
  rw [hvl] at hv
  have HVd := Lib.hid (fun W => valued_is k p m W)
  have HV := Lib.hid hv
  have HH := Lib.hid hh
  clear hS hkl hvl hv hh
  dsimp only [sv, ov] at *
  rw [hvd] at HVd
  have hin := HH.out rfl
  obtain ⟨y, hy, uy, b, o, e0, cy⟩ := HS.out.2.2.1.get (k := i) (by simp only; have := HV.out hvd; omega)
  dsimp only at hy e0 cy
  subst e0
  have hji : (i : Int) < vn := by have := HV.out hvd; omega
  have hji0 : (0 : Int) ≤ i := by omega
  have hz : RowKit.Hid (placedS k m ⟨r, ks, vs, vt, cl⟩ ⟨10, ky, vl⟩ x i true = (⟨r, ks, vs, vt, cl⟩, (0, y))) := Lib.hid (by simp [placedS, hvd, hy])
  have cyy := fun W (hW : Ext w W) => hW.cell cy
  clear hy
  go_enter Tryz.func70, Tryz.ntmps70
  go_wp2_with (go_at_call 62; (with_reducible refine (HVd.out _).mono ?_); rintro e w1 ⟨rfl, rfl⟩)
  go_region_held3 (fun w' => (w'.cell? ⟨w.heap.size + 1, 0, none⟩ = some (.int .u64 r) ∧ w'.cell? ⟨w.heap.size + 1, 1, none⟩ = some (.slice ka kn kc) ∧ w'.cell? ⟨w.heap.size + 1, 2, none⟩ = some (.slice (some ⟨b, o, none⟩) vn vc) ∧ w'.cell? ⟨w.heap.size + 1, 3, none⟩ = some (.slice ta tn tc) ∧ w'.cell? ⟨w.heap.size + 1, 4, none⟩ = some (.bool cl) ∧ w'.cell? ⟨b, o + i, none⟩ = some (.int .u64 y)))
    (first | exact and5 (by ((show Five _ (w.heap.size + 1) r ⟨ka, kn, kc⟩ ⟨some ⟨b, o, none⟩, vn, vc⟩ ⟨ta, tn, tc⟩ cl); repeat (first | ((with_reducible refine five_at ?_); (simp; done)) | with_reducible refine Five.alloc ?_ _ | with_reducible refine Five.drew ?_ | with_reducible refine Five.set ?_ (by omega) _ _))) (cyy _ (by repeat (first | with_reducible exact Ext.refl _ | with_reducible refine Ext.alloc ?_ _ | with_reducible refine Ext.drew ?_))) | go_keep)
    (first
      | (go_at_call 68; (with_reducible refine (tells_is _ _).mono ?_); rintro e w1 ⟨rfl, rfl⟩))
  rename_i hq
  clear hq
  go_wp2_with (fail)
  refine bodyPost_ret (v := .tuple #[sv r ⟨ka, kn, kc⟩ ⟨some ⟨b, o, none⟩, vn, vc⟩ ⟨ta, tn, tc⟩ cl, rv 0 (y)]) (by simp [results, Tryz.results70, go_sem]) rfl ?_
  rw [hz.out]
  refine ⟨?_, _, _, _, rfl, ⟨hr, HS.out.2.1.ext ?_, HS.out.2.2.1.ext ?_, HS.out.2.2.2.ext ?_⟩, fun _ _ h => h⟩ <;> repeat (first | with_reducible exact Ext.refl _ | with_reducible refine Ext.alloc ?_ _ | with_reducible refine Ext.drew ?_)

set_option maxHeartbeats 4000000 in
set_option maxRecDepth 100000 in
theorem pl6h (k p m : Int) (a v t : Sl) (s : St) (ky vl : Int) (x : Int) (i : Nat) (w : World) (hvd : valued k = false) (hp : Pl k p m a v t s ⟨6, ky, vl⟩ x i true w) :
    Calls Tryz.prog 70 #[cf k p m, sv s.reg a v t s.closed, ov ⟨6, ky, vl⟩, .int .u64 x, .int .i64 i, .bool true] w (DE a v t (placedS k m s ⟨6, ky, vl⟩ x i true) w) := by
  obtain ⟨ka, kn, kc⟩ := a
  obtain ⟨va, vn, vc⟩ := v
  obtain ⟨ta, tn, tc⟩ := t
  obtain ⟨r, ks, vs, vt, cl⟩ := s
  obtain ⟨_, hS, ho, hx, hi, hh, hv, hl⟩ := hp
  have hr := hS.1
  have HS := Lib.hid hS
  have hkl := hS.2.1.len
  have hvl := hS.2.2.1.len
  dsimp only at hkl hvl hi hh hv hl
  rw [hkl] at hi hh hv hl
  rw [hvl] at hv
  have HVd := Lib.hid (fun W => valued_is k p m W)
  have HV := Lib.hid hv
  have HH := Lib.hid hh
  clear hS hkl hvl hv hh
  dsimp only [sv, ov] at *
  rw [hvd] at HVd
  have hz : RowKit.Hid (placedS k m ⟨r, ks, vs, vt, cl⟩ ⟨6, ky, vl⟩ x i true = (⟨r, ks, vs, vt, cl⟩, (0, 0))) := Lib.hid (by simp [placedS, hvd])
  go_enter Tryz.func70, Tryz.ntmps70
  go_wp2_with (go_at_call 62; (with_reducible refine (HVd.out _).mono ?_); rintro e w1 ⟨rfl, rfl⟩)
  go_region_held3 (fun w' => (w'.cell? ⟨w.heap.size + 1, 0, none⟩ = some (.int .u64 r) ∧ w'.cell? ⟨w.heap.size + 1, 1, none⟩ = some (.slice ka kn kc) ∧ w'.cell? ⟨w.heap.size + 1, 2, none⟩ = some (.slice va vn vc) ∧ w'.cell? ⟨w.heap.size + 1, 3, none⟩ = some (.slice ta tn tc) ∧ w'.cell? ⟨w.heap.size + 1, 4, none⟩ = some (.bool cl)))
    (first | ((show Five _ (w.heap.size + 1) r ⟨ka, kn, kc⟩ ⟨va, vn, vc⟩ ⟨ta, tn, tc⟩ cl); repeat (first | ((with_reducible refine five_at ?_); (simp; done)) | with_reducible refine Five.alloc ?_ _ | with_reducible refine Five.drew ?_ | with_reducible refine Five.set ?_ (by omega) _ _)) | go_keep)
    (first
      | (go_at_call 68; (with_reducible refine (tells_is _ _).mono ?_); rintro e w1 ⟨rfl, rfl⟩))
  rename_i hq
  clear hq
  go_wp2_with (fail)
  refine bodyPost_ret (v := .tuple #[sv r ⟨ka, kn, kc⟩ ⟨va, vn, vc⟩ ⟨ta, tn, tc⟩ cl, rv 0 (0)]) (by simp [results, Tryz.results70, go_sem]) rfl ?_
  rw [hz.out]
  refine ⟨?_, _, _, _, rfl, ⟨hr, HS.out.2.1.ext ?_, HS.out.2.2.1.ext ?_, HS.out.2.2.2.ext ?_⟩, fun _ _ h => h⟩ <;> repeat (first | with_reducible exact Ext.refl _ | with_reducible refine Ext.alloc ?_ _ | with_reducible refine Ext.drew ?_)

set_option maxHeartbeats 4000000 in
set_option maxRecDepth 100000 in
theorem pl6f (k p m : Int) (a v t : Sl) (s : St) (ky vl : Int) (x : Int) (i : Nat) (w : World) (hvd : valued k = false) (hf : (s.keys.length : Int) = m) (hp : Pl k p m a v t s ⟨6, ky, vl⟩ x i false w) :
    Calls Tryz.prog 70 #[cf k p m, sv s.reg a v t s.closed, ov ⟨6, ky, vl⟩, .int .u64 x, .int .i64 i, .bool false] w (DE a v t (placedS k m s ⟨6, ky, vl⟩ x i false) w) := by
  obtain ⟨ka, kn, kc⟩ := a
  obtain ⟨va, vn, vc⟩ := v
  obtain ⟨ta, tn, tc⟩ := t
  obtain ⟨r, ks, vs, vt, cl⟩ := s
  obtain ⟨_, hS, ho, hx, hi, hh, hv, hl⟩ := hp
  have hr := hS.1
  have HS := Lib.hid hS
  have hkl := hS.2.1.len
  have hvl := hS.2.2.1.len
  dsimp only at hkl hvl hi hh hv hl
  rw [hkl] at hi hh hv hl
  rw [hvl] at hv
  have HVd := Lib.hid (fun W => valued_is k p m W)
  have HV := Lib.hid hv
  have HH := Lib.hid hh
  clear hS hkl hvl hv hh
  dsimp only [sv, ov] at *
  rw [hvd] at HVd
  have hkm : ((kn : Int) == m) = true := by have := HS.out.2.1.len; dsimp only at this hf; rw [this] at hf; simpa using hf
  have hz : RowKit.Hid (placedS k m ⟨r, ks, vs, vt, cl⟩ ⟨6, ky, vl⟩ x i false = (⟨r, ks, vs, vt, cl⟩, (11, 0))) := Lib.hid (by simp [placedS, hvd, hf])
  clear hf
  go_enter Tryz.func70, Tryz.ntmps70
  go_wp2_with (go_at_call 62; (with_reducible refine (HVd.out _).mono ?_); rintro e w1 ⟨rfl, rfl⟩)
  go_region_held3 (fun w' => (w'.cell? ⟨w.heap.size + 1, 0, none⟩ = some (.int .u64 r) ∧ w'.cell? ⟨w.heap.size + 1, 1, none⟩ = some (.slice ka kn kc) ∧ w'.cell? ⟨w.heap.size + 1, 2, none⟩ = some (.slice va vn vc) ∧ w'.cell? ⟨w.heap.size + 1, 3, none⟩ = some (.slice ta tn tc) ∧ w'.cell? ⟨w.heap.size + 1, 4, none⟩ = some (.bool cl)))
    (first | ((show Five _ (w.heap.size + 1) r ⟨ka, kn, kc⟩ ⟨va, vn, vc⟩ ⟨ta, tn, tc⟩ cl); repeat (first | ((with_reducible refine five_at ?_); (simp; done)) | with_reducible refine Five.alloc ?_ _ | with_reducible refine Five.drew ?_ | with_reducible refine Five.set ?_ (by omega) _ _)) | go_keep)
    (first
      | (go_at_call 69; (with_reducible refine (refuses_is _ _).mono ?_); rintro e w1 ⟨rfl, rfl⟩))
  rename_i hq
  clear hq
  go_wp2_with (fail)
  refine bodyPost_ret (v := .tuple #[sv r ⟨ka, kn, kc⟩ ⟨va, vn, vc⟩ ⟨ta, tn, tc⟩ cl, rv 11 (0)]) (by simp [results, Tryz.results70, go_sem]) rfl ?_
  rw [hz.out]
  refine ⟨?_, _, _, _, rfl, ⟨hr, HS.out.2.1.ext ?_, HS.out.2.2.1.ext ?_, HS.out.2.2.2.ext ?_⟩, fun _ _ h => h⟩ <;> repeat (first | with_reducible exact Ext.refl _ | with_reducible refine Ext.alloc ?_ _ | with_reducible refine Ext.drew ?_)

set_option maxHeartbeats 4000000 in
set_option maxRecDepth 100000 in
theorem pl11f (k p m : Int) (a v t : Sl) (s : St) (ky vl : Int) (x : Int) (i : Nat) (w : World) (hvd : valued k = true) (hf : (s.keys.length : Int) = m) (hp : Pl k p m a v t s ⟨11, ky, vl⟩ x i false w) :
    Calls Tryz.prog 70 #[cf k p m, sv s.reg a v t s.closed, ov ⟨11, ky, vl⟩, .int .u64 x, .int .i64 i, .bool false] w (DE a v t (placedS k m s ⟨11, ky, vl⟩ x i false) w) := by
  obtain ⟨ka, kn, kc⟩ := a
  obtain ⟨va, vn, vc⟩ := v
  obtain ⟨ta, tn, tc⟩ := t
  obtain ⟨r, ks, vs, vt, cl⟩ := s
  obtain ⟨_, hS, ho, hx, hi, hh, hv, hl⟩ := hp
  have hr := hS.1
  have HS := Lib.hid hS
  have hkl := hS.2.1.len
  have hvl := hS.2.2.1.len
  dsimp only at hkl hvl hi hh hv hl
  rw [hkl] at hi hh hv hl
  rw [hvl] at hv
  have HVd := Lib.hid (fun W => valued_is k p m W)
  have HV := Lib.hid hv
  have HH := Lib.hid hh
  clear hS hkl hvl hv hh
  dsimp only [sv, ov] at *
  rw [hvd] at HVd
  have hkm : ((kn : Int) == m) = true := by have := HS.out.2.1.len; dsimp only at this hf; rw [this] at hf; simpa using hf
  have hz : RowKit.Hid (placedS k m ⟨r, ks, vs, vt, cl⟩ ⟨11, ky, vl⟩ x i false = (⟨r, ks, vs, vt, cl⟩, (11, 0))) := Lib.hid (by simp [placedS, hvd, hf])
  clear hf
  go_enter Tryz.func70, Tryz.ntmps70
  go_wp2_with (go_at_call 62; (with_reducible refine (HVd.out _).mono ?_); rintro e w1 ⟨rfl, rfl⟩)
  go_region_held3 (fun w' => (w'.cell? ⟨w.heap.size + 1, 0, none⟩ = some (.int .u64 r) ∧ w'.cell? ⟨w.heap.size + 1, 1, none⟩ = some (.slice ka kn kc) ∧ w'.cell? ⟨w.heap.size + 1, 2, none⟩ = some (.slice va vn vc) ∧ w'.cell? ⟨w.heap.size + 1, 3, none⟩ = some (.slice ta tn tc) ∧ w'.cell? ⟨w.heap.size + 1, 4, none⟩ = some (.bool cl)))
    (first | ((show Five _ (w.heap.size + 1) r ⟨ka, kn, kc⟩ ⟨va, vn, vc⟩ ⟨ta, tn, tc⟩ cl); repeat (first | ((with_reducible refine five_at ?_); (simp; done)) | with_reducible refine Five.alloc ?_ _ | with_reducible refine Five.drew ?_ | with_reducible refine Five.set ?_ (by omega) _ _)) | go_keep)
    (first
      | (go_at_call 69; (with_reducible refine (refuses_is _ _).mono ?_); rintro e w1 ⟨rfl, rfl⟩))
  rename_i hq
  clear hq
  go_wp2_with (fail)
  refine bodyPost_ret (v := .tuple #[sv r ⟨ka, kn, kc⟩ ⟨va, vn, vc⟩ ⟨ta, tn, tc⟩ cl, rv 11 (0)]) (by simp [results, Tryz.results70, go_sem]) rfl ?_
  rw [hz.out]
  refine ⟨?_, _, _, _, rfl, ⟨hr, HS.out.2.1.ext ?_, HS.out.2.2.1.ext ?_, HS.out.2.2.2.ext ?_⟩, fun _ _ h => h⟩ <;> repeat (first | with_reducible exact Ext.refl _ | with_reducible refine Ext.alloc ?_ _ | with_reducible refine Ext.drew ?_)

end Go.Proofs.YtdipddnnckfnmaaGreat.Aut

/- AutPlB:
  What the document's placed does and tells: a call of what has keys, of a key that is at a place, or would be. Conditions: integers' bounds; the state's slices are there, as many values as keys where there are values, the place within them.
-/
namespace Go.Proofs.YtdipddnnckfnmaaGreat.Aut
open Go.RowKit (Below intOf)
open Reg (cf bx)


set_option maxHeartbeats 4000000 in
set_option maxRecDepth 100000 in
theorem plbadh (k p m : Int) (a v t : Sl) (s : St) (cd ky vl : Int) (x : Int) (i : Nat) (w : World) (h7 : cd ≠ 7) (h8 : cd ≠ 8) (n5 : ¬ (cd = 5 ∧ valued k = false)) (n10 : ¬ (cd = 10 ∧ valued k = true)) (n6 : ¬ (cd = 6 ∧ valued k = false)) (n11 : ¬ (cd = 11 ∧ valued k = true)) (hp : Pl k p m a v t s ⟨cd, ky, vl⟩ x i true w) :
    Calls Tryz.prog 70 #[cf k p m, sv s.reg a v t s.closed, ov ⟨cd, ky, vl⟩, .int .u64 x, .int .i64 i, .bool true] w (DE a v t (placedS k m s ⟨cd, ky, vl⟩ x i true) w) := by
  obtain ⟨ka, kn, kc⟩ := a
  obtain ⟨va, vn, vc⟩ := v
  obtain ⟨ta, tn, tc⟩ := t
  obtain ⟨r, ks, vs, vt, cl⟩ := s
  obtain ⟨_, hS, ho, hx, hi, hh, hv, hl⟩ := hp
  have hr := hS.1
  have HS := Lib.hid hS
  have hkl := hS.2.1.len
  have hvl := hS.2.2.1.len
  dsimp only at hkl hvl hi hh hv hl
  rw [hkl] at hi hh hv hl
  rw [hvl] at hv
  have HVd := Lib.hid (fun W => valued_is k p m W)
  have HV := Lib.hid hv
  have HH := Lib.hid hh
  clear hS hkl hvl hv hh
  dsimp only [sv, ov] at *
  have hz : RowKit.Hid (placedS k m ⟨r, ks, vs, vt, cl⟩ ⟨cd, ky, vl⟩ x i true = (⟨r, ks, vs, vt, cl⟩, (10, 0))) := Lib.hid (by unfold placedS; simp only; rw [if_neg h7, if_neg h8, if_neg n5, if_neg n10, if_neg n6, if_neg n11])
  have e7 : (cd == 7) = false := by simpa using h7
  have e8 : (cd == 8) = false := by simpa using h8
  cases hvd : valued k with
  | true =>
    rw [hvd] at HVd n5 n10 n6 n11
    have e10 : (cd == 10) = false := by simpa using n10
    have e11 : (cd == 11) = false := by simpa using n11
    clear n5 n10 n6 n11 h7 h8 hvd
    by_cases a1 : cd = 5
    · subst a1
      go_enter Tryz.func70, Tryz.ntmps70
      go_wp2_with (go_at_call 62; (with_reducible refine (HVd.out _).mono ?_); rintro e w1 ⟨rfl, rfl⟩)
      go_region_held3 (fun w' => (w'.cell? ⟨w.heap.size + 1, 0, none⟩ = some (.int .u64 r) ∧ w'.cell? ⟨w.heap.size + 1, 1, none⟩ = some (.slice ka kn kc) ∧ w'.cell? ⟨w.heap.size + 1, 2, none⟩ = some (.slice va vn vc) ∧ w'.cell? ⟨w.heap.size + 1, 3, none⟩ = some (.slice ta tn tc) ∧ w'.cell? ⟨w.heap.size + 1, 4, none⟩ = some (.bool cl)))
        (first | ((show Five _ (w.heap.size + 1) r ⟨ka, kn, kc⟩ ⟨va, vn, vc⟩ ⟨ta, tn, tc⟩ cl); repeat (first | ((with_reducible refine five_at ?_); (simp; done)) | with_reducible refine Five.alloc ?_ _ | with_reducible refine Five.drew ?_ | with_reducible refine Five.set ?_ (by omega) _ _)) | go_keep)
        (first
          | (go_at_call 69; (with_reducible refine (refuses_is _ _).mono ?_); rintro e w1 ⟨rfl, rfl⟩))
      rename_i hq
      clear hq
      go_wp2_with (fail)
      refine bodyPost_ret (v := .tuple #[sv r ⟨ka, kn, kc⟩ ⟨va, vn, vc⟩ ⟨ta, tn, tc⟩ cl, rv 10 (0)]) (by simp [results, Tryz.results70, go_sem]) rfl ?_
      rw [hz.out]
      refine ⟨?_, _, _, _, rfl, ⟨hr, HS.out.2.1.ext ?_, HS.out.2.2.1.ext ?_, HS.out.2.2.2.ext ?_⟩, fun _ _ h => h⟩ <;> repeat (first | with_reducible exact Ext.refl _ | with_reducible refine Ext.alloc ?_ _ | with_reducible refine Ext.drew ?_)
    · have f1 : (cd == 5) = false := by simpa using a1
      clear a1
      by_cases a2 : cd = 6
      · subst a2
        go_enter Tryz.func70, Tryz.ntmps70
        go_wp2_with (go_at_call 62; (with_reducible refine (HVd.out _).mono ?_); rintro e w1 ⟨rfl, rfl⟩)
        go_region_held3 (fun w' => (w'.cell? ⟨w.heap.size + 1, 0, none⟩ = some (.int .u64 r) ∧ w'.cell? ⟨w.heap.size + 1, 1, none⟩ = some (.slice ka kn kc) ∧ w'.cell? ⟨w.heap.size + 1, 2, none⟩ = some (.slice va vn vc) ∧ w'.cell? ⟨w.heap.size + 1, 3, none⟩ = some (.slice ta tn tc) ∧ w'.cell? ⟨w.heap.size + 1, 4, none⟩ = some (.bool cl)))
          (first | ((show Five _ (w.heap.size + 1) r ⟨ka, kn, kc⟩ ⟨va, vn, vc⟩ ⟨ta, tn, tc⟩ cl); repeat (first | ((with_reducible refine five_at ?_); (simp; done)) | with_reducible refine Five.alloc ?_ _ | with_reducible refine Five.drew ?_ | with_reducible refine Five.set ?_ (by omega) _ _)) | go_keep)
          (first
            | (go_at_call 69; (with_reducible refine (refuses_is _ _).mono ?_); rintro e w1 ⟨rfl, rfl⟩))
        rename_i hq
        clear hq
        go_wp2_with (fail)
        refine bodyPost_ret (v := .tuple #[sv r ⟨ka, kn, kc⟩ ⟨va, vn, vc⟩ ⟨ta, tn, tc⟩ cl, rv 10 (0)]) (by simp [results, Tryz.results70, go_sem]) rfl ?_
        rw [hz.out]
        refine ⟨?_, _, _, _, rfl, ⟨hr, HS.out.2.1.ext ?_, HS.out.2.2.1.ext ?_, HS.out.2.2.2.ext ?_⟩, fun _ _ h => h⟩ <;> repeat (first | with_reducible exact Ext.refl _ | with_reducible refine Ext.alloc ?_ _ | with_reducible refine Ext.drew ?_)
      · have f2 : (cd == 6) = false := by simpa using a2
        clear a2
        go_enter Tryz.func70, Tryz.ntmps70
        go_wp2_with (go_at_call 62; (with_reducible refine (HVd.out _).mono ?_); rintro e w1 ⟨rfl, rfl⟩)
        go_region_held3 (fun w' => (w'.cell? ⟨w.heap.size + 1, 0, none⟩ = some (.int .u64 r) ∧ w'.cell? ⟨w.heap.size + 1, 1, none⟩ = some (.slice ka kn kc) ∧ w'.cell? ⟨w.heap.size + 1, 2, none⟩ = some (.slice va vn vc) ∧ w'.cell? ⟨w.heap.size + 1, 3, none⟩ = some (.slice ta tn tc) ∧ w'.cell? ⟨w.heap.size + 1, 4, none⟩ = some (.bool cl)))
          (first | ((show Five _ (w.heap.size + 1) r ⟨ka, kn, kc⟩ ⟨va, vn, vc⟩ ⟨ta, tn, tc⟩ cl); repeat (first | ((with_reducible refine five_at ?_); (simp; done)) | with_reducible refine Five.alloc ?_ _ | with_reducible refine Five.drew ?_ | with_reducible refine Five.set ?_ (by omega) _ _)) | go_keep)
          (first
            | (go_at_call 69; (with_reducible refine (refuses_is _ _).mono ?_); rintro e w1 ⟨rfl, rfl⟩))
        rename_i hq
        clear hq
        go_wp2_with (fail)
        refine bodyPost_ret (v := .tuple #[sv r ⟨ka, kn, kc⟩ ⟨va, vn, vc⟩ ⟨ta, tn, tc⟩ cl, rv 10 (0)]) (by simp [results, Tryz.results70, go_sem]) rfl ?_
        rw [hz.out]
        refine ⟨?_, _, _, _, rfl, ⟨hr, HS.out.2.1.ext ?_, HS.out.2.2.1.ext ?_, HS.out.2.2.2.ext ?_⟩, fun _ _ h => h⟩ <;> repeat (first | with_reducible exact Ext.refl _ | with_reducible refine Ext.alloc ?_ _ | with_reducible refine Ext.drew ?_)
  | false =>
    rw [hvd] at HVd n5 n10 n6 n11
    have e5 : (cd == 5) = false := by simpa using n5
    have e6 : (cd == 6) = false := by simpa using n6
    clear n5 n10 n6 n11 h7 h8 hvd
    by_cases a1 : cd = 10
    · subst a1
      go_enter Tryz.func70, Tryz.ntmps70
      go_wp2_with (go_at_call 62; (with_reducible refine (HVd.out _).mono ?_); rintro e w1 ⟨rfl, rfl⟩)
      go_region_held3 (fun w' => (w'.cell? ⟨w.heap.size + 1, 0, none⟩ = some (.int .u64 r) ∧ w'.cell? ⟨w.heap.size + 1, 1, none⟩ = some (.slice ka kn kc) ∧ w'.cell? ⟨w.heap.size + 1, 2, none⟩ = some (.slice va vn vc) ∧ w'.cell? ⟨w.heap.size + 1, 3, none⟩ = some (.slice ta tn tc) ∧ w'.cell? ⟨w.heap.size + 1, 4, none⟩ = some (.bool cl)))
        (first | ((show Five _ (w.heap.size + 1) r ⟨ka, kn, kc⟩ ⟨va, vn, vc⟩ ⟨ta, tn, tc⟩ cl); repeat (first | ((with_reducible refine five_at ?_); (simp; done)) | with_reducible refine Five.alloc ?_ _ | with_reducible refine Five.drew ?_ | with_reducible refine Five.set ?_ (by omega) _ _)) | go_keep)
        (first
          | (go_at_call 69; (with_reducible refine (refuses_is _ _).mono ?_); rintro e w1 ⟨rfl, rfl⟩))
      rename_i hq
      clear hq
      go_wp2_with (fail)
      refine bodyPost_ret (v := .tuple #[sv r ⟨ka, kn, kc⟩ ⟨va, vn, vc⟩ ⟨ta, tn, tc⟩ cl, rv 10 (0)]) (by simp [results, Tryz.results70, go_sem]) rfl ?_
      rw [hz.out]
      refine ⟨?_, _, _, _, rfl, ⟨hr, HS.out.2.1.ext ?_, HS.out.2.2.1.ext ?_, HS.out.2.2.2.ext ?_⟩, fun _ _ h => h⟩ <;> repeat (first | with_reducible exact Ext.refl _ | with_reducible refine Ext.alloc ?_ _ | with_reducible refine Ext.drew ?_)
    · have f1 : (cd == 10) = false := by simpa using a1
      clear a1
      by_cases a2 : cd = 11
      · subst a2
        go_enter Tryz.func70, Tryz.ntmps70
        go_wp2_with (go_at_call 62; (with_reducible refine (HVd.out _).mono ?_); rintro e w1 ⟨rfl, rfl⟩)
        go_region_held3 (fun w' => (w'.cell? ⟨w.heap.size + 1, 0, none⟩ = some (.int .u64 r) ∧ w'.cell? ⟨w.heap.size + 1, 1, none⟩ = some (.slice ka kn kc) ∧ w'.cell? ⟨w.heap.size + 1, 2, none⟩ = some (.slice va vn vc) ∧ w'.cell? ⟨w.heap.size + 1, 3, none⟩ = some (.slice ta tn tc) ∧ w'.cell? ⟨w.heap.size + 1, 4, none⟩ = some (.bool cl)))
          (first | ((show Five _ (w.heap.size + 1) r ⟨ka, kn, kc⟩ ⟨va, vn, vc⟩ ⟨ta, tn, tc⟩ cl); repeat (first | ((with_reducible refine five_at ?_); (simp; done)) | with_reducible refine Five.alloc ?_ _ | with_reducible refine Five.drew ?_ | with_reducible refine Five.set ?_ (by omega) _ _)) | go_keep)
          (first
            | (go_at_call 69; (with_reducible refine (refuses_is _ _).mono ?_); rintro e w1 ⟨rfl, rfl⟩))
        rename_i hq
        clear hq
        go_wp2_with (fail)
        refine bodyPost_ret (v := .tuple #[sv r ⟨ka, kn, kc⟩ ⟨va, vn, vc⟩ ⟨ta, tn, tc⟩ cl, rv 10 (0)]) (by simp [results, Tryz.results70, go_sem]) rfl ?_
        rw [hz.out]
        refine ⟨?_, _, _, _, rfl, ⟨hr, HS.out.2.1.ext ?_, HS.out.2.2.1.ext ?_, HS.out.2.2.2.ext ?_⟩, fun _ _ h => h⟩ <;> repeat (first | with_reducible exact Ext.refl _ | with_reducible refine Ext.alloc ?_ _ | with_reducible refine Ext.drew ?_)
      · have f2 : (cd == 11) = false := by simpa using a2
        clear a2
        go_enter Tryz.func70, Tryz.ntmps70
        go_wp2_with (go_at_call 62; (with_reducible refine (HVd.out _).mono ?_); rintro e w1 ⟨rfl, rfl⟩)
        go_region_held3 (fun w' => (w'.cell? ⟨w.heap.size + 1, 0, none⟩ = some (.int .u64 r) ∧ w'.cell? ⟨w.heap.size + 1, 1, none⟩ = some (.slice ka kn kc) ∧ w'.cell? ⟨w.heap.size + 1, 2, none⟩ = some (.slice va vn vc) ∧ w'.cell? ⟨w.heap.size + 1, 3, none⟩ = some (.slice ta tn tc) ∧ w'.cell? ⟨w.heap.size + 1, 4, none⟩ = some (.bool cl)))
          (first | ((show Five _ (w.heap.size + 1) r ⟨ka, kn, kc⟩ ⟨va, vn, vc⟩ ⟨ta, tn, tc⟩ cl); repeat (first | ((with_reducible refine five_at ?_); (simp; done)) | with_reducible refine Five.alloc ?_ _ | with_reducible refine Five.drew ?_ | with_reducible refine Five.set ?_ (by omega) _ _)) | go_keep)
          (first
            | (go_at_call 69; (with_reducible refine (refuses_is _ _).mono ?_); rintro e w1 ⟨rfl, rfl⟩))
        rename_i hq
        clear hq
        go_wp2_with (fail)
        refine bodyPost_ret (v := .tuple #[sv r ⟨ka, kn, kc⟩ ⟨va, vn, vc⟩ ⟨ta, tn, tc⟩ cl, rv 10 (0)]) (by simp [results, Tryz.results70, go_sem]) rfl ?_
        rw [hz.out]
        refine ⟨?_, _, _, _, rfl, ⟨hr, HS.out.2.1.ext ?_, HS.out.2.2.1.ext ?_, HS.out.2.2.2.ext ?_⟩, fun _ _ h => h⟩ <;> repeat (first | with_reducible exact Ext.refl _ | with_reducible refine Ext.alloc ?_ _ | with_reducible refine Ext.drew ?_)

set_option maxHeartbeats 4000000 in
set_option maxRecDepth 100000 in
theorem plbadn (k p m : Int) (a v t : Sl) (s : St) (cd ky vl : Int) (x : Int) (i : Nat) (w : World) (h7 : cd ≠ 7) (h8 : cd ≠ 8) (n5 : ¬ (cd = 5 ∧ valued k = false)) (n10 : ¬ (cd = 10 ∧ valued k = true)) (n6 : ¬ (cd = 6 ∧ valued k = false)) (n11 : ¬ (cd = 11 ∧ valued k = true)) (hp : Pl k p m a v t s ⟨cd, ky, vl⟩ x i false w) :
    Calls Tryz.prog 70 #[cf k p m, sv s.reg a v t s.closed, ov ⟨cd, ky, vl⟩, .int .u64 x, .int .i64 i, .bool false] w (DE a v t (placedS k m s ⟨cd, ky, vl⟩ x i false) w) := by
  obtain ⟨ka, kn, kc⟩ := a
  obtain ⟨va, vn, vc⟩ := v
  obtain ⟨ta, tn, tc⟩ := t
  obtain ⟨r, ks, vs, vt, cl⟩ := s
  obtain ⟨_, hS, ho, hx, hi, hh, hv, hl⟩ := hp
  have hr := hS.1
  have HS := Lib.hid hS
  have hkl := hS.2.1.len
  have hvl := hS.2.2.1.len
  dsimp only at hkl hvl hi hh hv hl
  rw [hkl] at hi hh hv hl
  rw [hvl] at hv
  have HVd := Lib.hid (fun W => valued_is k p m W)
  have HV := Lib.hid hv
  have HH := Lib.hid hh
  clear hS hkl hvl hv hh
  dsimp only [sv, ov] at *
  have hz : RowKit.Hid (placedS k m ⟨r, ks, vs, vt, cl⟩ ⟨cd, ky, vl⟩ x i false = (⟨r, ks, vs, vt, cl⟩, (10, 0))) := Lib.hid (by unfold placedS; simp only; rw [if_neg h7, if_neg h8, if_neg n5, if_neg n10, if_neg n6, if_neg n11])
  have e7 : (cd == 7) = false := by simpa using h7
  have e8 : (cd == 8) = false := by simpa using h8
  cases hvd : valued k with
  | true =>
    rw [hvd] at HVd n5 n10 n6 n11
    have e10 : (cd == 10) = false := by simpa using n10
    have e11 : (cd == 11) = false := by simpa using n11
    clear n5 n10 n6 n11 h7 h8 hvd
    by_cases a1 : cd = 5
    · subst a1
      go_enter Tryz.func70, Tryz.ntmps70
      go_wp2_with (go_at_call 62; (with_reducible refine (HVd.out _).mono ?_); rintro e w1 ⟨rfl, rfl⟩)
      go_region_held3 (fun w' => (w'.cell? ⟨w.heap.size + 1, 0, none⟩ = some (.int .u64 r) ∧ w'.cell? ⟨w.heap.size + 1, 1, none⟩ = some (.slice ka kn kc) ∧ w'.cell? ⟨w.heap.size + 1, 2, none⟩ = some (.slice va vn vc) ∧ w'.cell? ⟨w.heap.size + 1, 3, none⟩ = some (.slice ta tn tc) ∧ w'.cell? ⟨w.heap.size + 1, 4, none⟩ = some (.bool cl)))
        (first | ((show Five _ (w.heap.size + 1) r ⟨ka, kn, kc⟩ ⟨va, vn, vc⟩ ⟨ta, tn, tc⟩ cl); repeat (first | ((with_reducible refine five_at ?_); (simp; done)) | with_reducible refine Five.alloc ?_ _ | with_reducible refine Five.drew ?_ | with_reducible refine Five.set ?_ (by omega) _ _)) | go_keep)
        (first
          | (go_at_call 69; (with_reducible refine (refuses_is _ _).mono ?_); rintro e w1 ⟨rfl, rfl⟩))
      rename_i hq
      clear hq
      go_wp2_with (fail)
      refine bodyPost_ret (v := .tuple #[sv r ⟨ka, kn, kc⟩ ⟨va, vn, vc⟩ ⟨ta, tn, tc⟩ cl, rv 10 (0)]) (by simp [results, Tryz.results70, go_sem]) rfl ?_
      rw [hz.out]
      refine ⟨?_, _, _, _, rfl, ⟨hr, HS.out.2.1.ext ?_, HS.out.2.2.1.ext ?_, HS.out.2.2.2.ext ?_⟩, fun _ _ h => h⟩ <;> repeat (first | with_reducible exact Ext.refl _ | with_reducible refine Ext.alloc ?_ _ | with_reducible refine Ext.drew ?_)
    · have f1 : (cd == 5) = false := by simpa using a1
      clear a1
      by_cases a2 : cd = 6
      · subst a2
        go_enter Tryz.func70, Tryz.ntmps70
        go_wp2_with (go_at_call 62; (with_reducible refine (HVd.out _).mono ?_); rintro e w1 ⟨rfl, rfl⟩)
        go_region_held3 (fun w' => (w'.cell? ⟨w.heap.size + 1, 0, none⟩ = some (.int .u64 r) ∧ w'.cell? ⟨w.heap.size + 1, 1, none⟩ = some (.slice ka kn kc) ∧ w'.cell? ⟨w.heap.size + 1, 2, none⟩ = some (.slice va vn vc) ∧ w'.cell? ⟨w.heap.size + 1, 3, none⟩ = some (.slice ta tn tc) ∧ w'.cell? ⟨w.heap.size + 1, 4, none⟩ = some (.bool cl)))
          (first | ((show Five _ (w.heap.size + 1) r ⟨ka, kn, kc⟩ ⟨va, vn, vc⟩ ⟨ta, tn, tc⟩ cl); repeat (first | ((with_reducible refine five_at ?_); (simp; done)) | with_reducible refine Five.alloc ?_ _ | with_reducible refine Five.drew ?_ | with_reducible refine Five.set ?_ (by omega) _ _)) | go_keep)
          (first
            | (go_at_call 69; (with_reducible refine (refuses_is _ _).mono ?_); rintro e w1 ⟨rfl, rfl⟩))
        rename_i hq
        clear hq
        go_wp2_with (fail)
        refine bodyPost_ret (v := .tuple #[sv r ⟨ka, kn, kc⟩ ⟨va, vn, vc⟩ ⟨ta, tn, tc⟩ cl, rv 10 (0)]) (by simp [results, Tryz.results70, go_sem]) rfl ?_
        rw [hz.out]
        refine ⟨?_, _, _, _, rfl, ⟨hr, HS.out.2.1.ext ?_, HS.out.2.2.1.ext ?_, HS.out.2.2.2.ext ?_⟩, fun _ _ h => h⟩ <;> repeat (first | with_reducible exact Ext.refl _ | with_reducible refine Ext.alloc ?_ _ | with_reducible refine Ext.drew ?_)
      · have f2 : (cd == 6) = false := by simpa using a2
        clear a2
        go_enter Tryz.func70, Tryz.ntmps70
        go_wp2_with (go_at_call 62; (with_reducible refine (HVd.out _).mono ?_); rintro e w1 ⟨rfl, rfl⟩)
        go_region_held3 (fun w' => (w'.cell? ⟨w.heap.size + 1, 0, none⟩ = some (.int .u64 r) ∧ w'.cell? ⟨w.heap.size + 1, 1, none⟩ = some (.slice ka kn kc) ∧ w'.cell? ⟨w.heap.size + 1, 2, none⟩ = some (.slice va vn vc) ∧ w'.cell? ⟨w.heap.size + 1, 3, none⟩ = some (.slice ta tn tc) ∧ w'.cell? ⟨w.heap.size + 1, 4, none⟩ = some (.bool cl)))
          (first | ((show Five _ (w.heap.size + 1) r ⟨ka, kn, kc⟩ ⟨va, vn, vc⟩ ⟨ta, tn, tc⟩ cl); repeat (first | ((with_reducible refine five_at ?_); (simp; done)) | with_reducible refine Five.alloc ?_ _ | with_reducible refine Five.drew ?_ | with_reducible refine Five.set ?_ (by omega) _ _)) | go_keep)
          (first
            | (go_at_call 69; (with_reducible refine (refuses_is _ _).mono ?_); rintro e w1 ⟨rfl, rfl⟩))
        rename_i hq
        clear hq
        go_wp2_with (fail)
        refine bodyPost_ret (v := .tuple #[sv r ⟨ka, kn, kc⟩ ⟨va, vn, vc⟩ ⟨ta, tn, tc⟩ cl, rv 10 (0)]) (by simp [results, Tryz.results70, go_sem]) rfl ?_
        rw [hz.out]
        refine ⟨?_, _, _, _, rfl, ⟨hr, HS.out.2.1.ext ?_, HS.out.2.2.1.ext ?_, HS.out.2.2.2.ext ?_⟩, fun _ _ h => h⟩ <;> repeat (first | with_reducible exact Ext.refl _ | with_reducible refine Ext.alloc ?_ _ | with_reducible refine Ext.drew ?_)
  | false =>
    rw [hvd] at HVd n5 n10 n6 n11
    have e5 : (cd == 5) = false := by simpa using n5
    have e6 : (cd == 6) = false := by simpa using n6
    clear n5 n10 n6 n11 h7 h8 hvd
    by_cases a1 : cd = 10
    · subst a1
      go_enter Tryz.func70, Tryz.ntmps70
      go_wp2_with (go_at_call 62; (with_reducible refine (HVd.out _).mono ?_); rintro e w1 ⟨rfl, rfl⟩)
      go_region_held3 (fun w' => (w'.cell? ⟨w.heap.size + 1, 0, none⟩ = some (.int .u64 r) ∧ w'.cell? ⟨w.heap.size + 1, 1, none⟩ = some (.slice ka kn kc) ∧ w'.cell? ⟨w.heap.size + 1, 2, none⟩ = some (.slice va vn vc) ∧ w'.cell? ⟨w.heap.size + 1, 3, none⟩ = some (.slice ta tn tc) ∧ w'.cell? ⟨w.heap.size + 1, 4, none⟩ = some (.bool cl)))
        (first | ((show Five _ (w.heap.size + 1) r ⟨ka, kn, kc⟩ ⟨va, vn, vc⟩ ⟨ta, tn, tc⟩ cl); repeat (first | ((with_reducible refine five_at ?_); (simp; done)) | with_reducible refine Five.alloc ?_ _ | with_reducible refine Five.drew ?_ | with_reducible refine Five.set ?_ (by omega) _ _)) | go_keep)
        (first
          | (go_at_call 69; (with_reducible refine (refuses_is _ _).mono ?_); rintro e w1 ⟨rfl, rfl⟩))
      rename_i hq
      clear hq
      go_wp2_with (fail)
      refine bodyPost_ret (v := .tuple #[sv r ⟨ka, kn, kc⟩ ⟨va, vn, vc⟩ ⟨ta, tn, tc⟩ cl, rv 10 (0)]) (by simp [results, Tryz.results70, go_sem]) rfl ?_
      rw [hz.out]
      refine ⟨?_, _, _, _, rfl, ⟨hr, HS.out.2.1.ext ?_, HS.out.2.2.1.ext ?_, HS.out.2.2.2.ext ?_⟩, fun _ _ h => h⟩ <;> repeat (first | with_reducible exact Ext.refl _ | with_reducible refine Ext.alloc ?_ _ | with_reducible refine Ext.drew ?_)
    · have f1 : (cd == 10) = false := by simpa using a1
      clear a1
      by_cases a2 : cd = 11
      · subst a2
        go_enter Tryz.func70, Tryz.ntmps70
        go_wp2_with (go_at_call 62; (with_reducible refine (HVd.out _).mono ?_); rintro e w1 ⟨rfl, rfl⟩)
        go_region_held3 (fun w' => (w'.cell? ⟨w.heap.size + 1, 0, none⟩ = some (.int .u64 r) ∧ w'.cell? ⟨w.heap.size + 1, 1, none⟩ = some (.slice ka kn kc) ∧ w'.cell? ⟨w.heap.size + 1, 2, none⟩ = some (.slice va vn vc) ∧ w'.cell? ⟨w.heap.size + 1, 3, none⟩ = some (.slice ta tn tc) ∧ w'.cell? ⟨w.heap.size + 1, 4, none⟩ = some (.bool cl)))
          (first | ((show Five _ (w.heap.size + 1) r ⟨ka, kn, kc⟩ ⟨va, vn, vc⟩ ⟨ta, tn, tc⟩ cl); repeat (first | ((with_reducible refine five_at ?_); (simp; done)) | with_reducible refine Five.alloc ?_ _ | with_reducible refine Five.drew ?_ | with_reducible refine Five.set ?_ (by omega) _ _)) | go_keep)
          (first
            | (go_at_call 69; (with_reducible refine (refuses_is _ _).mono ?_); rintro e w1 ⟨rfl, rfl⟩))
        rename_i hq
        clear hq
        go_wp2_with (fail)
        refine bodyPost_ret (v := .tuple #[sv r ⟨ka, kn, kc⟩ ⟨va, vn, vc⟩ ⟨ta, tn, tc⟩ cl, rv 10 (0)]) (by simp [results, Tryz.results70, go_sem]) rfl ?_
        rw [hz.out]
        refine ⟨?_, _, _, _, rfl, ⟨hr, HS.out.2.1.ext ?_, HS.out.2.2.1.ext ?_, HS.out.2.2.2.ext ?_⟩, fun _ _ h => h⟩ <;> repeat (first | with_reducible exact Ext.refl _ | with_reducible refine Ext.alloc ?_ _ | with_reducible refine Ext.drew ?_)
      · have f2 : (cd == 11) = false := by simpa using a2
        clear a2
        go_enter Tryz.func70, Tryz.ntmps70
        go_wp2_with (go_at_call 62; (with_reducible refine (HVd.out _).mono ?_); rintro e w1 ⟨rfl, rfl⟩)
        go_region_held3 (fun w' => (w'.cell? ⟨w.heap.size + 1, 0, none⟩ = some (.int .u64 r) ∧ w'.cell? ⟨w.heap.size + 1, 1, none⟩ = some (.slice ka kn kc) ∧ w'.cell? ⟨w.heap.size + 1, 2, none⟩ = some (.slice va vn vc) ∧ w'.cell? ⟨w.heap.size + 1, 3, none⟩ = some (.slice ta tn tc) ∧ w'.cell? ⟨w.heap.size + 1, 4, none⟩ = some (.bool cl)))
          (first | ((show Five _ (w.heap.size + 1) r ⟨ka, kn, kc⟩ ⟨va, vn, vc⟩ ⟨ta, tn, tc⟩ cl); repeat (first | ((with_reducible refine five_at ?_); (simp; done)) | with_reducible refine Five.alloc ?_ _ | with_reducible refine Five.drew ?_ | with_reducible refine Five.set ?_ (by omega) _ _)) | go_keep)
          (first
            | (go_at_call 69; (with_reducible refine (refuses_is _ _).mono ?_); rintro e w1 ⟨rfl, rfl⟩))
        rename_i hq
        clear hq
        go_wp2_with (fail)
        refine bodyPost_ret (v := .tuple #[sv r ⟨ka, kn, kc⟩ ⟨va, vn, vc⟩ ⟨ta, tn, tc⟩ cl, rv 10 (0)]) (by simp [results, Tryz.results70, go_sem]) rfl ?_
        rw [hz.out]
        refine ⟨?_, _, _, _, rfl, ⟨hr, HS.out.2.1.ext ?_, HS.out.2.2.1.ext ?_, HS.out.2.2.2.ext ?_⟩, fun _ _ h => h⟩ <;> repeat (first | with_reducible exact Ext.refl _ | with_reducible refine Ext.alloc ?_ _ | with_reducible refine Ext.drew ?_)

end Go.Proofs.YtdipddnnckfnmaaGreat.Aut

