/-
  Parts of a proof, one behind the other: AutTable. Each says its own conditions.
-/
import Derived.Test.YtmonkcekkhfafaaGreatDoorM13

/- AutTable:
  What the document's table does and tells: a call of what has keys. Conditions: integers' bounds; the state is right as to its keys, its slices are there.
-/
namespace Go.Proofs.YtmonkcekkhfafaaGreatDoor.Aut
open Go.RowKit (Below intOf)
open Reg (cf bx)

theorem meant_is (k p m x : Int) (w : World) (hx : U64 x) : Calls Tryz.prog 101 #[cf k p m, .int .u64 x] w fun e w' => e = .returned (.tuple #[.int .u64 (meantK k x), .bool (mayK k x)]) ∧ w' = w.alloc (bx k p m) := by
  by_cases h4 : k = 4
  · subst h4
    go_enter Tryz.func101, Tryz.ntmps101
    go_wp2_with (fail)
    refine (rcanon_any x _ hx.1 hx.2).mono ?_
    rintro e w1 ⟨rfl, rfl⟩
    go_wp2_with (fail)
    go_ret2
    exact ⟨rfl, rfl⟩
  · have e4 : (k == 4) = false := by simpa using h4
    have hl : RowKit.Hid (meantK k x = x ∧ mayK k x = decide (x ≤ 4611686018427387904)) := Lib.hid (by unfold meantK mayK; rw [if_neg h4, if_neg h4]; exact ⟨rfl, rfl⟩)
    clear h4
    go_enter Tryz.func101, Tryz.ntmps101
    go_wp2_with (fail)
    go_ret2
    rw [hl.out.1, hl.out.2]
    exact ⟨rfl, rfl⟩

theorem Five.lt {w : World} {b : Nat} {r : Int} {k v t : Sl} {cl : Bool} (h : Five w b r k v t cl) : b < w.heap.size := World.block_lt_of_cell? w _ h.1
theorem two_lt {w : World} {b : Nat} {e x : Int} (h : Two w b e x) : b < w.heap.size := World.block_lt_of_cell? w _ h.1
theorem Three.drew {w : World} {b : Nat} {k p m : Int} (h : Three w b k p m) : Three w.drew b k p m := h.ext (Ext.drew (Ext.refl w))
theorem Three.set {w : World} {b : Nat} {k p m : Int} (h : Three w b k p m) {B : Nat} (hB : b ≠ B) (i : Nat) (x : Value) : Three (w.setCell ⟨B, i, none⟩ x) b k p m := ⟨(cell_far hB).trans h.1, (cell_far hB).trans h.2.1, (cell_far hB).trans h.2.2⟩
theorem Opb.set {w : World} {b : Nat} {cd ky vl : Int} (h : Opb w b cd ky vl) {B : Nat} (hB : b ≠ B) (i : Nat) (x : Value) : Opb (w.setCell ⟨B, i, none⟩ x) b cd ky vl := ⟨(cell_far hB).trans h.1, (cell_far hB).trans h.2.1, (cell_far hB).trans h.2.2⟩
/-- A word's cell. -/
def Wrd (w : World) (b o : Nat) (y : Int) : Prop := w.cell? ⟨b, o, none⟩ = some (.int .u64 y)
theorem Wrd.drew {w : World} {b o : Nat} {y : Int} (h : Wrd w b o y) : Wrd w.drew b o y := h
theorem Wrd.set {w : World} {b o : Nat} {y : Int} (h : Wrd w b o y) {B : Nat} (hB : b ≠ B) (i : Nat) (x : Value) : Wrd (w.setCell ⟨B, i, none⟩ x) b o y := (cell_far hB).trans h
/-- A block's cells may be written. -/
def Fz (w : World) (b : Nat) : Prop := ∀ i, w.frozen? ⟨b, i, none⟩ = false
theorem Fz.ext {w w' : World} {b : Nat} (h : Fz w b) (hb : b < w.heap.size) (e : Ext w w') : Fz w' b := fun i => (Below.frozen (p := ⟨b, i, none⟩) e hb).trans (h i)
theorem Fz.alloc {w : World} {b : Nat} (h : Fz w b) (hb : b < w.heap.size) (o : Obj) : Fz (w.alloc o) b := h.ext hb (Ext.new w o)
theorem fz_at {X : World} {B : Nat} {cs : Array Value} {ty : TypeId} (h : X.heap.size = B) : Fz (X.alloc (.cells cs ty)) B := fun i => by
  subst h
  unfold World.frozen?; rw [World.alloc_heap_new]; simp

set_option maxHeartbeats 8000000 in
set_option maxRecDepth 100000 in
theorem table_any (k p m : Int) (a v t : Sl) (s : St) (o : Cl) (w : World) (hm : I64 m) (hS : SS w a v t s) (ho : Wc o) (hK : KeysOk k m s) (hl : s.keys.length ≤ 256) :
    Calls Tryz.prog 59 #[cf k p m, sv s.reg a v t s.closed, ov o] w (DE a v t (tableS k m s o) w) := by
  obtain ⟨ka, kn, kc⟩ := a
  obtain ⟨va, vn, vc⟩ := v
  obtain ⟨ta, tn, tc⟩ := t
  obtain ⟨r, ks, vs, vt, cl⟩ := s
  obtain ⟨cd, ky, vl⟩ := o
  have hr := hS.1
  have HS := Lib.hid hS
  have hkl := Lib.hid hS.2.1.len
  have hvv : valued k = true → vs.length = ks.length := fun h => by have := hK.2.1; rwa [if_pos h] at this
  have hRs := Lib.hid hK.2.2.2
  dsimp only at hkl hl hr
  rw [hkl.out] at hl
  clear hS hK
  dsimp only [sv, ov] at *
  have HM := Lib.hid (fun W => meant_is k p m ky W ho.2.1)
  by_cases h9 : cd = 9
  · subst h9
    have hz : RowKit.Hid (tableS k m ⟨r, ks, vs, vt, cl⟩ ⟨9, ky, vl⟩ = (⟨r, ks, vs, vt, cl⟩, (0, (kn : Int)))) := Lib.hid (by unfold tableS; rw [if_pos rfl, hkl.out])
    have hwk : IntKind.u64.wrap (kn : Int) = kn := by first | exact IntWalk.u64_in _ (by omega) | (simp [IntKind.wrap, IntKind.bits, IntKind.signed]; omega)
    go_enter Tryz.func59, Tryz.ntmps59
    go_wp2_with (fail)
    go_region_held3 (fun w' => (w'.cell? ⟨w.heap.size + 1, 0, none⟩ = some (.int .u64 r) ∧ w'.cell? ⟨w.heap.size + 1, 1, none⟩ = some (.slice ka kn kc) ∧ w'.cell? ⟨w.heap.size + 1, 2, none⟩ = some (.slice va vn vc) ∧ w'.cell? ⟨w.heap.size + 1, 3, none⟩ = some (.slice ta tn tc) ∧ w'.cell? ⟨w.heap.size + 1, 4, none⟩ = some (.bool cl)))
      (first | ((show Five _ (w.heap.size + 1) r ⟨ka, kn, kc⟩ ⟨va, vn, vc⟩ ⟨ta, tn, tc⟩ cl); repeat (first | ((with_reducible refine five_at ?_); (simp; done)) | with_reducible refine Five.alloc ?_ _ | with_reducible refine Five.drew ?_ | with_reducible refine Five.set ?_ (by omega) _ _)) | go_keep)
      (first
        | (go_at_call 97; (with_reducible refine (tells_is _ _).mono ?_); rintro e w1 ⟨rfl, rfl⟩))
    rename_i hq
    clear hq
    go_wp2_with (fail)
    refine bodyPost_ret (v := .tuple #[sv r ⟨ka, kn, kc⟩ ⟨va, vn, vc⟩ ⟨ta, tn, tc⟩ cl, rv 0 ((kn : Int))]) (by simp [results, Tryz.results59, go_sem]) rfl ?_
    rw [hz.out]
    refine ⟨?_, _, _, _, rfl, ⟨hr, HS.out.2.1.ext ?_, HS.out.2.2.1.ext ?_, HS.out.2.2.2.ext ?_⟩, fun _ _ h => h⟩ <;> repeat (first | with_reducible exact Ext.refl _ | with_reducible refine Ext.alloc ?_ _ | with_reducible refine Ext.drew ?_)
  · have e9 : (cd == 9) = false := by simpa using h9
    by_cases hmay : mayK k ky = true
    · have hx := meant_u (k := k) ho.2.1
      have mx := meant_meant k ky
      have htab : RowKit.Hid (tableS k m ⟨r, ks, vs, vt, cl⟩ ⟨cd, ky, vl⟩ = placedS k m ⟨r, ks, vs, vt, cl⟩ ⟨cd, ky, vl⟩ (meantK k ky) (posK k ks (meantK k ky)) (hereK ks (posK k ks (meantK k ky)) (meantK k ky))) := Lib.hid (by unfold tableS; rw [if_neg h9, if_pos hmay])
      rw [hmay] at HM
      dsimp only at hx
      obtain ⟨x, hxe⟩ : ∃ x, meantK k ky = x := ⟨_, rfl⟩
      rw [hxe] at hx mx htab HM
      clear h9 hmay hxe mx
      have HE0 : RowKit.Hid (Ext w ((((((w.alloc (bx k p m)).alloc (.cells #[.int .u64 r, .slice ka kn kc, .slice va vn vc, .slice ta tn tc, .bool cl] 30)).alloc (.cells #[.int .i64 cd, .int .u64 ky, .int .u64 vl] 67)).alloc (.cells #[.int .u64 0, .slice none 0 0, .slice none 0 0, .slice none 0 0, .bool false] 30)).alloc (.cells #[.int .i64 0, .int .u64 0] 63)).alloc (bx k p m))) := Lib.hid (by repeat (first | with_reducible exact Ext.refl _ | with_reducible refine Ext.alloc ?_ _ | with_reducible refine Ext.drew ?_))
      have HZ : RowKit.Hid (Fz ((((((w.alloc (bx k p m)).alloc (.cells #[.int .u64 r, .slice ka kn kc, .slice va vn vc, .slice ta tn tc, .bool cl] 30)).alloc (.cells #[.int .i64 cd, .int .u64 ky, .int .u64 vl] 67)).alloc (.cells #[.int .u64 0, .slice none 0 0, .slice none 0 0, .slice none 0 0, .bool false] 30)).alloc (.cells #[.int .i64 0, .int .u64 0] 63)).alloc (bx k p m)) (w.heap.size + 1 + 1 + 1) ∧ Fz ((((((w.alloc (bx k p m)).alloc (.cells #[.int .u64 r, .slice ka kn kc, .slice va vn vc, .slice ta tn tc, .bool cl] 30)).alloc (.cells #[.int .i64 cd, .int .u64 ky, .int .u64 vl] 67)).alloc (.cells #[.int .u64 0, .slice none 0 0, .slice none 0 0, .slice none 0 0, .bool false] 30)).alloc (.cells #[.int .i64 0, .int .u64 0] 63)).alloc (bx k p m)) (w.heap.size + 1 + 1 + 1 + 1)) := Lib.hid ⟨by repeat (first | ((with_reducible refine fz_at ?_); (simp; done)) | with_reducible refine Fz.alloc ?_ (by simp only [World.size_alloc]; omega) _), by repeat (first | ((with_reducible refine fz_at ?_); (simp; done)) | with_reducible refine Fz.alloc ?_ (by simp only [World.size_alloc]; omega) _)⟩
      have HF : RowKit.Hid (Three ((((((w.alloc (bx k p m)).alloc (.cells #[.int .u64 r, .slice ka kn kc, .slice va vn vc, .slice ta tn tc, .bool cl] 30)).alloc (.cells #[.int .i64 cd, .int .u64 ky, .int .u64 vl] 67)).alloc (.cells #[.int .u64 0, .slice none 0 0, .slice none 0 0, .slice none 0 0, .bool false] 30)).alloc (.cells #[.int .i64 0, .int .u64 0] 63)).alloc (bx k p m)) w.heap.size k p m ∧ Five ((((((w.alloc (bx k p m)).alloc (.cells #[.int .u64 r, .slice ka kn kc, .slice va vn vc, .slice ta tn tc, .bool cl] 30)).alloc (.cells #[.int .i64 cd, .int .u64 ky, .int .u64 vl] 67)).alloc (.cells #[.int .u64 0, .slice none 0 0, .slice none 0 0, .slice none 0 0, .bool false] 30)).alloc (.cells #[.int .i64 0, .int .u64 0] 63)).alloc (bx k p m)) (w.heap.size + 1) r ⟨ka, kn, kc⟩ ⟨va, vn, vc⟩ ⟨ta, tn, tc⟩ cl ∧ Opb ((((((w.alloc (bx k p m)).alloc (.cells #[.int .u64 r, .slice ka kn kc, .slice va vn vc, .slice ta tn tc, .bool cl] 30)).alloc (.cells #[.int .i64 cd, .int .u64 ky, .int .u64 vl] 67)).alloc (.cells #[.int .u64 0, .slice none 0 0, .slice none 0 0, .slice none 0 0, .bool false] 30)).alloc (.cells #[.int .i64 0, .int .u64 0] 63)).alloc (bx k p m)) (w.heap.size + 1 + 1) cd ky vl ∧ Five ((((((w.alloc (bx k p m)).alloc (.cells #[.int .u64 r, .slice ka kn kc, .slice va vn vc, .slice ta tn tc, .bool cl] 30)).alloc (.cells #[.int .i64 cd, .int .u64 ky, .int .u64 vl] 67)).alloc (.cells #[.int .u64 0, .slice none 0 0, .slice none 0 0, .slice none 0 0, .bool false] 30)).alloc (.cells #[.int .i64 0, .int .u64 0] 63)).alloc (bx k p m)) (w.heap.size + 1 + 1 + 1) 0 nilSl nilSl nilSl false ∧ Two ((((((w.alloc (bx k p m)).alloc (.cells #[.int .u64 r, .slice ka kn kc, .slice va vn vc, .slice ta tn tc, .bool cl] 30)).alloc (.cells #[.int .i64 cd, .int .u64 ky, .int .u64 vl] 67)).alloc (.cells #[.int .u64 0, .slice none 0 0, .slice none 0 0, .slice none 0 0, .bool false] 30)).alloc (.cells #[.int .i64 0, .int .u64 0] 63)).alloc (bx k p m)) (w.heap.size + 1 + 1 + 1 + 1) 0 0) := Lib.hid (by
        refine ⟨(three_new w k p m).ext ?_, ?_, ?_, ?_, ?_⟩
        · repeat (first | with_reducible exact Ext.refl _ | with_reducible refine Ext.alloc ?_ _ | with_reducible refine Ext.drew ?_)
        · ((show Five _ (w.heap.size + 1) r ⟨ka, kn, kc⟩ ⟨va, vn, vc⟩ ⟨ta, tn, tc⟩ cl); repeat (first | ((with_reducible refine five_at ?_); (simp; done)) | with_reducible refine Five.alloc ?_ _ | with_reducible refine Five.drew ?_ | with_reducible refine Five.set ?_ (by omega) _ _))
        · repeat (first | ((with_reducible refine opb_at ?_); (simp; done)) | with_reducible refine Opb.alloc ?_ _)
        · ((show Five _ (w.heap.size + 1 + 1 + 1) 0 ⟨none, 0, 0⟩ ⟨none, 0, 0⟩ ⟨none, 0, 0⟩ false); repeat (first | ((with_reducible refine five_at ?_); (simp; done)) | with_reducible refine Five.alloc ?_ _))
        · repeat (first | ((with_reducible refine two_at ?_); (simp; done)) | with_reducible refine two_alloc ?_ _))
      go_enter Tryz.func59, Tryz.ntmps59
      go_wp2_with (go_at_call 101; (with_reducible refine (HM.out _).mono ?_); rintro e w1 ⟨rfl, rfl⟩)
      generalize hW6 : (((((w.alloc (bx k p m)).alloc (.cells #[.int .u64 r, .slice ka kn kc, .slice va vn vc, .slice ta tn tc, .bool cl] 30)).alloc (.cells #[.int .i64 cd, .int .u64 ky, .int .u64 vl] 67)).alloc (.cells #[.int .u64 0, .slice none 0 0, .slice none 0 0, .slice none 0 0, .bool false] 30)).alloc (.cells #[.int .i64 0, .int .u64 0] 63)).alloc (bx k p m) = W6 at HE0 HF HZ ⊢
      clear hW6 HM
      have hin0 : kn ≤ 256 := hl
      go_loopw [10] (fun iv wr => ∃ i : Nat, i ≤ kn ∧ iv = .int .i64 i ∧ RowKit.Hid (Ext W6 wr) ∧ RowKit.Hid (∀ (j : Nat) y, j < i → ks[j]? = some y → ordK k y < ordK k x)) (fun i _ => kn - (intOf i).toNat)
      case atStart => exact ⟨0, by omega, rfl, Lib.hid (Ext.refl _), Lib.hid (fun j y hj => by omega)⟩
      case round =>
        obtain ⟨i, hi, rfl, HX, hlow⟩ := hrel
        by_cases hin : i < kn
        · have hii : (i : Int) < kn := by omega
          obtain ⟨y, hy, uy, kb, ko, e0, cy⟩ := (HS.out.2.1.ext (HE0.out.trans HX.out)).get (k := i) hin
          dsimp only at hy e0 cy
          subst e0
          have hyi := Lib.hid hy
          have HLs := Lib.hid (fun W => less_any' k p m y x W uy hx)
          clear hy
          obtain ⟨c0, c1, c2⟩ := (HF.out.1.ext HX.out)
          obtain ⟨d0, d1, d2, d3, d4⟩ := (HF.out.2.1.ext HX.out)
          by_cases hlt : ordK k y < ordK k x
          · rw [decide_eq_true hlt] at HLs
            have hN : RowKit.Hid (∀ (j : Nat) z, j < i + 1 → ks[j]? = some z → ordK k z < ordK k x) := Lib.hid (fun j z hj hz => by
              by_cases e : j = i
              · subst e; rw [hyi.out] at hz; cases hz; exact hlt
              · exact hlow.out j z (by omega) hz)
            go_wp2_with (fail)
            go_region_held3 (fun w' => (w'.cell? ⟨w.heap.size, 0, none⟩ = some (.int .i64 k) ∧ w'.cell? ⟨w.heap.size, 1, none⟩ = some (.int .i64 p) ∧ w'.cell? ⟨w.heap.size, 2, none⟩ = some (.int .i64 m) ∧ w'.cell? ⟨w.heap.size + 1, 1, none⟩ = some (.slice (some ⟨kb, ko, none⟩) kn kc) ∧ w'.cell? ⟨kb, ko + i, none⟩ = some (.int .u64 y)))
              (first
                | exact ⟨Ext.cell x3 c0, Ext.cell x3 c1, Ext.cell x3 c2, Ext.cell x3 d1, Ext.cell x3 cy⟩
                | exact ⟨c0, c1, c2, d1, cy⟩
                | go_keep)
              ((go_at_call 102; (with_reducible refine (HLs.out _).mono ?_); rintro e w3 ⟨rfl, x3⟩))
            rename_i hq
            clear hq
            go_wp2_with (fail)
            go_roundw
            case rel => exact ⟨i + 1, by omega, by go_num, Lib.hid (HX.out.trans (Ext.trans (Ext.drew (Ext.refl _)) x3)), hN⟩
            case measure => simp [intOf]; omega
          · rw [decide_eq_false hlt] at HLs
            have hpos : RowKit.Hid (posK k ks x = i) := Lib.hid (pos_eq (by rw [hkl.out]; omega) hlow.out (fun z hz => by rw [hyi.out] at hz; cases hz; exact hlt))
            go_wp2_with (fail)
            go_region_held3 (fun w' => (w'.cell? ⟨w.heap.size, 0, none⟩ = some (.int .i64 k) ∧ w'.cell? ⟨w.heap.size, 1, none⟩ = some (.int .i64 p) ∧ w'.cell? ⟨w.heap.size, 2, none⟩ = some (.int .i64 m) ∧ w'.cell? ⟨w.heap.size + 1, 1, none⟩ = some (.slice (some ⟨kb, ko, none⟩) kn kc) ∧ w'.cell? ⟨kb, ko + i, none⟩ = some (.int .u64 y)))
              (first
                | exact ⟨Ext.cell x3 c0, Ext.cell x3 c1, Ext.cell x3 c2, Ext.cell x3 d1, Ext.cell x3 cy⟩
                | exact ⟨c0, c1, c2, d1, cy⟩
                | go_keep)
              ((go_at_call 102; (with_reducible refine (HLs.out _).mono ?_); rintro e w3 ⟨rfl, x3⟩))
            rename_i hq
            clear hq c0 c1 c2 d0 d1 d2 d3 d4 cy
            replace HX := Lib.hid (HX.out.trans (Ext.trans (Ext.drew (Ext.refl _)) x3))
            clear x3
            by_cases hyx : y = x
            · have hyb : (y == x) = true := by simpa using hyx
              have hhere : RowKit.Hid (hereK ks i x = true) := Lib.hid (decide_eq_true (by rw [hyi.out, hyx]))
              clear hyx
              have B3 := HF.out.1.ext HX.out
              have B5 := HF.out.2.1.ext HX.out
              have BO := HF.out.2.2.1.ext HX.out
              obtain ⟨y2, hy2, _, b2, o2', e2, cy⟩ := (HS.out.2.1.ext (HE0.out.trans HX.out)).get (k := i) hin
              dsimp only at hy2 e2 cy
              cases e2
              rw [hyi.out] at hy2
              cases hy2
              have hkb : kb < w.heap.size := by have := World.block_lt_of_cell? w _ (HS.out.2.1.2.2.2.2 i y hyi.out |> fun h => by obtain ⟨_, b9, o9, e9, c9⟩ := h; dsimp only at e9 c9; cases e9; exact c9); exact this
              have k08 := And.intro B3 (And.intro B5 (And.intro BO cy))
              clear cy
              clear B3 B5 BO
              have HPl : RowKit.Hid (∀ W', Ext w3 W' → Pl k p m ⟨some ⟨kb, ko, none⟩, kn, kc⟩ ⟨va, vn, vc⟩ ⟨ta, tn, tc⟩ ⟨r, ks, vs, vt, cl⟩ ⟨cd, ky, vl⟩ x i true W') := Lib.hid (fun W' hW' => ⟨hm, HS.out.ext (HE0.out.trans (HX.out.trans hW')), ho, hx, by simp only; rw [hkl.out]; omega, (fun _ => by simp only; rw [hkl.out]; exact hin), hvv, by simp only; rw [hkl.out]; omega⟩)
              obtain ⟨res, hres⟩ : ∃ res, placedS k m ⟨r, ks, vs, vt, cl⟩ ⟨cd, ky, vl⟩ x i true = res := ⟨_, rfl⟩
              have hfin : RowKit.Hid (tableS k m ⟨r, ks, vs, vt, cl⟩ ⟨cd, ky, vl⟩ = res) := Lib.hid (by rw [htab.out, hpos.out, hhere.out, hres])
              have HPA : RowKit.Hid (∀ W', Ext w3 W' → Calls Tryz.prog 103 #[cf k p m, .agg #[.int .u64 r, .slice (some ⟨kb, ko, none⟩) kn kc, .slice va vn vc, .slice ta tn tc, .bool cl], .agg #[.int .i64 cd, .int .u64 ky, .int .u64 vl], .int .u64 x, .int .i64 i, .bool true] W' (DE ⟨some ⟨kb, ko, none⟩, kn, kc⟩ ⟨va, vn, vc⟩ ⟨ta, tn, tc⟩ res W')) := Lib.hid (fun W' hW' => hres ▸ placed_any k p m ⟨some ⟨kb, ko, none⟩, kn, kc⟩ ⟨va, vn, vc⟩ ⟨ta, tn, tc⟩ ⟨r, ks, vs, vt, cl⟩ ⟨cd, ky, vl⟩ x i true W' (HPl.out W' hW'))
              clear hres HPl
              go_wp2_with (fail)
              refine wp_region_held_drew (S := fun w' => Three w' w.heap.size k p m ∧ Five w' (w.heap.size + 1) r ⟨some ⟨kb, ko, none⟩, kn, kc⟩ ⟨va, vn, vc⟩ ⟨ta, tn, tc⟩ cl ∧ Opb w' (w.heap.size + 1 + 1) cd ky vl ∧ w'.cell? ⟨kb, ko + i, none⟩ = some (.int .u64 y)) (by kernel_rfl) k08 (fun hHeld => ?_)
              refine wpAnyH_take (i := 0) (v := .agg #[.int .i64 k, .int .i64 p, .int .i64 m]) rfl (by kernel_rfl) (by kernel_rfl) (by kernel_rfl) (fun _ _ _ h => h) (Or.inl ⟨by kernel_rfl, ?_⟩) (by assumption) ?_
              · rintro w ⟨⟨h1, h2, h3⟩, ⟨h4, h5, h6, h7, h8⟩, ⟨h9, h10, h11⟩, h12⟩
                go_simp
              refine wpAnyH_take (i := 1) (v := .agg #[.int .u64 r, .slice (some ⟨kb, ko, none⟩) kn kc, .slice va vn vc, .slice ta tn tc, .bool cl]) rfl (by kernel_rfl) (by kernel_rfl) (by kernel_rfl) (fun _ _ _ h => h) (Or.inl ⟨by kernel_rfl, ?_⟩) (by assumption) ?_
              · rintro w ⟨⟨h1, h2, h3⟩, ⟨h4, h5, h6, h7, h8⟩, ⟨h9, h10, h11⟩, h12⟩
                go_simp
              refine wpAnyH_take (i := 2) (v := .agg #[.int .i64 cd, .int .u64 ky, .int .u64 vl]) rfl (by kernel_rfl) (by kernel_rfl) (by kernel_rfl) (fun _ _ _ h => h) (Or.inl ⟨by kernel_rfl, ?_⟩) (by assumption) ?_
              · rintro w ⟨⟨h1, h2, h3⟩, ⟨h4, h5, h6, h7, h8⟩, ⟨h9, h10, h11⟩, h12⟩
                go_simp
              refine wpAnyH_take (i := 3) (v := .int .u64 x) rfl (by kernel_rfl) (by kernel_rfl) (by kernel_rfl) (fun _ _ _ h => h) (Or.inl ⟨by kernel_rfl, ?_⟩) (by assumption) ?_
              · rintro w ⟨⟨h1, h2, h3⟩, ⟨h4, h5, h6, h7, h8⟩, ⟨h9, h10, h11⟩, h12⟩
                go_simp
              refine wpAnyH_take (i := 4) (v := .int .i64 (i : Int)) rfl (by kernel_rfl) (by kernel_rfl) (by kernel_rfl) (fun _ _ _ h => h) (Or.inl ⟨by kernel_rfl, ?_⟩) (by assumption) ?_
              · rintro w ⟨⟨h1, h2, h3⟩, ⟨h4, h5, h6, h7, h8⟩, ⟨h9, h10, h11⟩, h12⟩
                go_simp
              refine wpAnyH_take (i := 5) (v := .int .i64 (i : Int)) rfl (by kernel_rfl) (by kernel_rfl) (by kernel_rfl) (fun _ _ _ h => h) (Or.inl ⟨by kernel_rfl, ?_⟩) (by assumption) ?_
              · rintro w ⟨⟨h1, h2, h3⟩, ⟨h4, h5, h6, h7, h8⟩, ⟨h9, h10, h11⟩, h12⟩
                go_simp
              refine wpAnyH_take (i := 6) (v := .pointer (some ⟨w.heap.size + 1, 1, none⟩)) rfl (by kernel_rfl) (by kernel_rfl) (by kernel_rfl) (fun _ _ _ h => h) (Or.inl ⟨by kernel_rfl, ?_⟩) (by assumption) ?_
              · rintro w ⟨⟨h1, h2, h3⟩, ⟨h4, h5, h6, h7, h8⟩, ⟨h9, h10, h11⟩, h12⟩
                go_simp
              refine wpAnyH_take (i := 7) (v := .slice (some ⟨kb, ko, none⟩) kn kc) rfl (by kernel_rfl) (by kernel_rfl) (by kernel_rfl) (fun _ _ _ h => h) (Or.inl ⟨by kernel_rfl, ?_⟩) (by assumption) ?_
              · rintro w ⟨⟨h1, h2, h3⟩, ⟨h4, h5, h6, h7, h8⟩, ⟨h9, h10, h11⟩, h12⟩
                go_simp
              refine wpAnyH_take (i := 8) (v := .int .i64 (kn : Int)) rfl (by kernel_rfl) (by kernel_rfl) (by kernel_rfl) (fun _ _ _ h => h) (Or.inl ⟨by kernel_rfl, ?_⟩) (by assumption) ?_
              · rintro w ⟨⟨h1, h2, h3⟩, ⟨h4, h5, h6, h7, h8⟩, ⟨h9, h10, h11⟩, h12⟩
                go_simp
              refine wpAnyH_take (i := 9) (v := .bool true) rfl (by kernel_rfl) (by kernel_rfl) (by kernel_rfl) (fun _ _ _ h => h) (Or.inl ⟨by kernel_rfl, ?_⟩) (by assumption) ?_
              · rintro w ⟨⟨h1, h2, h3⟩, ⟨h4, h5, h6, h7, h8⟩, ⟨h9, h10, h11⟩, h12⟩
                go_simp
              refine wpAnyH_take (i := 10) (v := .bool true) rfl (by kernel_rfl) (by kernel_rfl) (by kernel_rfl) (fun _ _ _ h => h) (Or.inl ⟨by kernel_rfl, ?_⟩) (by assumption) ?_
              · rintro w ⟨⟨h1, h2, h3⟩, ⟨h4, h5, h6, h7, h8⟩, ⟨h9, h10, h11⟩, h12⟩
                go_simp
              refine wpAnyH_take (i := 11) (v := .pointer (some ⟨w.heap.size + 1, 1, none⟩)) rfl (by kernel_rfl) (by kernel_rfl) (by kernel_rfl) (fun _ _ _ h => h) (Or.inl ⟨by kernel_rfl, ?_⟩) (by assumption) ?_
              · rintro w ⟨⟨h1, h2, h3⟩, ⟨h4, h5, h6, h7, h8⟩, ⟨h9, h10, h11⟩, h12⟩
                go_simp
              refine wpAnyH_take (i := 12) (v := .slice (some ⟨kb, ko, none⟩) kn kc) rfl (by kernel_rfl) (by kernel_rfl) (by kernel_rfl) (fun _ _ _ h => h) (Or.inl ⟨by kernel_rfl, ?_⟩) (by assumption) ?_
              · rintro w ⟨⟨h1, h2, h3⟩, ⟨h4, h5, h6, h7, h8⟩, ⟨h9, h10, h11⟩, h12⟩
                go_simp
              refine wpAnyH_take (i := 13) (v := .int .i64 (i : Int)) rfl (by kernel_rfl) (by kernel_rfl) (by kernel_rfl) (fun _ _ _ h => h) (Or.inl ⟨by kernel_rfl, ?_⟩) (by assumption) ?_
              · rintro w ⟨⟨h1, h2, h3⟩, ⟨h4, h5, h6, h7, h8⟩, ⟨h9, h10, h11⟩, h12⟩
                go_simp
              refine wpAnyH_take (i := 14) (v := .pointer (some ⟨kb, ko + i, none⟩)) rfl (by kernel_rfl) (by kernel_rfl) (by kernel_rfl) (fun _ _ _ h => h) (Or.inl ⟨by kernel_rfl, ?_⟩) (by assumption) ?_
              · rintro w ⟨⟨h1, h2, h3⟩, ⟨h4, h5, h6, h7, h8⟩, ⟨h9, h10, h11⟩, h12⟩
                go_simp
              refine wpAnyH_take (i := 15) (v := .int .u64 y) rfl (by kernel_rfl) (by kernel_rfl) (by kernel_rfl) (fun _ _ _ h => h) (Or.inl ⟨by kernel_rfl, ?_⟩) (by assumption) ?_
              · rintro w ⟨⟨h1, h2, h3⟩, ⟨h4, h5, h6, h7, h8⟩, ⟨h9, h10, h11⟩, h12⟩
                go_simp
              refine wpAnyH_take (i := 16) (v := .int .u64 x) rfl (by kernel_rfl) (by kernel_rfl) (by kernel_rfl) (fun _ _ _ h => h) (Or.inl ⟨by kernel_rfl, ?_⟩) (by assumption) ?_
              · rintro w ⟨⟨h1, h2, h3⟩, ⟨h4, h5, h6, h7, h8⟩, ⟨h9, h10, h11⟩, h12⟩
                go_simp
              refine wpAnyH_take (i := 17) (v := .bool true) rfl (by kernel_rfl) (by kernel_rfl) (by kernel_rfl) (fun _ _ _ h => h) (Or.inl ⟨by kernel_rfl, ?_⟩) (by assumption) ?_
              · rintro w ⟨⟨h1, h2, h3⟩, ⟨h4, h5, h6, h7, h8⟩, ⟨h9, h10, h11⟩, h12⟩
                go_simp
              refine wpAnyH_take (i := 18) (v := .bool true) rfl (by kernel_rfl) (by kernel_rfl) (by kernel_rfl) (fun _ _ _ h => h) (Or.inl ⟨by kernel_rfl, ?_⟩) (by assumption) ?_
              · rintro w ⟨⟨h1, h2, h3⟩, ⟨h4, h5, h6, h7, h8⟩, ⟨h9, h10, h11⟩, h12⟩
                go_simp
              refine wpAnyH_ready (rs := [19]) (by kernel_rfl) (by simp) ?_
              refine AllReadyH.cons rfl (fun K hK => ?_) AllReadyH.nil
              go_simp
              refine (HPA.out _ (Ext.drew (Ext.refl _))).mono ?_
              rintro e w2 ⟨x2, k', v', t', rfl, hS2, hoff⟩
              have xw : Ext W6 w2 := HX.out.trans (Ext.trans (Ext.drew (Ext.refl _)) x2)
              refine hK.out _ _ ⟨hHeld.1.ext x2, hHeld.2.1.ext x2, hHeld.2.2.1.ext x2, x2.cell hHeld.2.2.2⟩ (fun hHeld => ?_)
              clear hK K
              refine wpAnyH_take (i := 20) (v := .agg #[.int .u64 res.1.reg, .slice k'.a k'.n k'.c, .slice v'.a v'.n v'.c, .slice t'.a t'.n t'.c, .bool res.1.closed]) rfl (by kernel_rfl) (by kernel_rfl) (by kernel_rfl) (fun _ _ _ h => h) (Or.inl ⟨by kernel_rfl, ?_⟩) (by assumption) ?_
              · rintro w ⟨⟨h1, h2, h3⟩, ⟨h4, h5, h6, h7, h8⟩, ⟨h9, h10, h11⟩, h12⟩
                go_simp
              refine wpAnyH_take (i := 21) (v := .agg #[.int .i64 res.2.1, .int .u64 res.2.2]) rfl (by kernel_rfl) (by kernel_rfl) (by kernel_rfl) (fun _ _ _ h => h) (Or.inl ⟨by kernel_rfl, ?_⟩) (by assumption) ?_
              · rintro w ⟨⟨h1, h2, h3⟩, ⟨h4, h5, h6, h7, h8⟩, ⟨h9, h10, h11⟩, h12⟩
                go_simp
              obtain ⟨f0, f1, f2, f3, f4⟩ := HF.out.2.2.2.1.ext xw
              obtain ⟨z0, z1⟩ := two_ext xw HF.out.2.2.2.2
              have g0 := HZ.out.1.ext (Five.lt HF.out.2.2.2.1) xw 0
              have g1 := HZ.out.1.ext (Five.lt HF.out.2.2.2.1) xw 1
              have g2 := HZ.out.1.ext (Five.lt HF.out.2.2.2.1) xw 2
              have g3 := HZ.out.1.ext (Five.lt HF.out.2.2.2.1) xw 3
              have g4 := HZ.out.1.ext (Five.lt HF.out.2.2.2.1) xw 4
              have g5 := HZ.out.2.ext (two_lt HF.out.2.2.2.2) xw 0
              have g6 := HZ.out.2.ext (two_lt HF.out.2.2.2.2) xw 1
              refine wpAnyH_ready (rs := [22]) (by kernel_rfl) (by simp) ?_
              refine AllReadyH.cons rfl (fun K hK => ?_) AllReadyH.nil
              go_simp
              refine hK.out _ _ (by refine ⟨?_, ?_, ?_, ?_⟩ <;> repeat (first | (with_reducible exact hHeld.1) | (with_reducible exact hHeld.2.1) | (with_reducible exact hHeld.2.2.1) | (with_reducible exact hHeld.2.2.2) | (with_reducible refine Three.set ?_ (by omega) _ _) | (with_reducible refine Five.set ?_ (by omega) _ _) | (with_reducible refine Opb.set ?_ (by omega) _ _) | (with_reducible refine (cell_far (by omega)).trans ?_))) (fun hHeld => ?_)
              clear hK K
              refine wpAnyH_ready (rs := [23]) (by kernel_rfl) (by simp) ?_
              refine AllReadyH.cons rfl (fun K hK => ?_) AllReadyH.nil
              go_simp
              refine hK.out _ _ (by refine ⟨?_, ?_, ?_, ?_⟩ <;> repeat (first | (with_reducible exact hHeld.1) | (with_reducible exact hHeld.2.1) | (with_reducible exact hHeld.2.2.1) | (with_reducible exact hHeld.2.2.2) | (with_reducible refine Three.set ?_ (by omega) _ _) | (with_reducible refine Five.set ?_ (by omega) _ _) | (with_reducible refine Opb.set ?_ (by omega) _ _) | (with_reducible refine (cell_far (by omega)).trans ?_))) (fun hHeld => ?_)
              clear hK K
              refine wpAnyH_done (by kernel_rfl) ?_ _
              have hsB := (HF.out.2.2.2.1.ext xw).some
              have hsC := (two_ext xw HF.out.2.2.2.2).some
              have HXW := Lib.hid (HE0.out.trans xw)
              have hsz := HE0.out.size
              have HS2 := Lib.hid hS2
              have HO3 := Lib.hid (hoff (w.heap.size + 1 + 1 + 1) (by have := Five.lt (HF.out.2.2.2.1.ext HX.out); simpa using this) (HS.out.off (by omega)))
              have HO4 := Lib.hid (hoff (w.heap.size + 1 + 1 + 1 + 1) (by have := two_lt (two_ext HX.out HF.out.2.2.2.2); simpa using this) (HS.out.off (by omega)))
              have HO := Lib.hid (fun B (hB : B < w.heap.size) h => hoff B (by have := (HE0.out.trans HX.out).size; simp; omega) h)
              clear f0 f1 f2 f3 f4 z0 z1 g0 g1 g2 g3 g4 g5 g6 hHeld hS2 hoff
              go_wp2_with (fail)
              obtain ⟨⟨q0, q1, q2, q3, q4⟩, z0, z1⟩ := fin_both hsB hsC (by omega) res.1.reg k' v' t' res.1.closed res.2.1 res.2.2 (Ext.refl _)
              refine bodyPost_ret (v := .tuple #[sv res.1.reg k' v' t' res.1.closed, rv res.2.1 res.2.2]) (by simp [results, Tryz.results59, go_sem, q0, q1, q2, q3, q4, z0, z1]) rfl ?_
              rw [hfin.out]
              refine ⟨?_, k', v', t', rfl, ?_, HO.out⟩
              · repeat (first | (with_reducible exact HXW.out) | (with_reducible refine Ext.setCell ?_ (by omega) _))
              · repeat (first | (with_reducible exact HS2.out) | (with_reducible refine SS.set ?_ HO4.out _ _) | (with_reducible refine SS.set ?_ HO3.out _ _))
            · have hyb : (y == x) = false := by simpa using hyx
              have hhere : RowKit.Hid (hereK ks i x = false) := Lib.hid (decide_eq_false (fun h => by rw [hyi.out] at h; cases h; exact hyx rfl))
              clear hyx
              have B3 := HF.out.1.ext HX.out
              have B5 := HF.out.2.1.ext HX.out
              have BO := HF.out.2.2.1.ext HX.out
              obtain ⟨y2, hy2, _, b2, o2', e2, cy⟩ := (HS.out.2.1.ext (HE0.out.trans HX.out)).get (k := i) hin
              dsimp only at hy2 e2 cy
              cases e2
              rw [hyi.out] at hy2
              cases hy2
              have hkb : kb < w.heap.size := by have := World.block_lt_of_cell? w _ (HS.out.2.1.2.2.2.2 i y hyi.out |> fun h => by obtain ⟨_, b9, o9, e9, c9⟩ := h; dsimp only at e9 c9; cases e9; exact c9); exact this
              have k08 := And.intro B3 (And.intro B5 (And.intro BO cy))
              clear cy
              clear B3 B5 BO
              have HPl : RowKit.Hid (∀ W', Ext w3 W' → Pl k p m ⟨some ⟨kb, ko, none⟩, kn, kc⟩ ⟨va, vn, vc⟩ ⟨ta, tn, tc⟩ ⟨r, ks, vs, vt, cl⟩ ⟨cd, ky, vl⟩ x i false W') := Lib.hid (fun W' hW' => ⟨hm, HS.out.ext (HE0.out.trans (HX.out.trans hW')), ho, hx, by simp only; rw [hkl.out]; omega, (fun h => by cases h), hvv, by simp only; rw [hkl.out]; omega⟩)
              obtain ⟨res, hres⟩ : ∃ res, placedS k m ⟨r, ks, vs, vt, cl⟩ ⟨cd, ky, vl⟩ x i false = res := ⟨_, rfl⟩
              have hfin : RowKit.Hid (tableS k m ⟨r, ks, vs, vt, cl⟩ ⟨cd, ky, vl⟩ = res) := Lib.hid (by rw [htab.out, hpos.out, hhere.out, hres])
              have HPA : RowKit.Hid (∀ W', Ext w3 W' → Calls Tryz.prog 103 #[cf k p m, .agg #[.int .u64 r, .slice (some ⟨kb, ko, none⟩) kn kc, .slice va vn vc, .slice ta tn tc, .bool cl], .agg #[.int .i64 cd, .int .u64 ky, .int .u64 vl], .int .u64 x, .int .i64 i, .bool false] W' (DE ⟨some ⟨kb, ko, none⟩, kn, kc⟩ ⟨va, vn, vc⟩ ⟨ta, tn, tc⟩ res W')) := Lib.hid (fun W' hW' => hres ▸ placed_any k p m ⟨some ⟨kb, ko, none⟩, kn, kc⟩ ⟨va, vn, vc⟩ ⟨ta, tn, tc⟩ ⟨r, ks, vs, vt, cl⟩ ⟨cd, ky, vl⟩ x i false W' (HPl.out W' hW'))
              clear hres HPl
              go_wp2_with (fail)
              refine wp_region_held_drew (S := fun w' => Three w' w.heap.size k p m ∧ Five w' (w.heap.size + 1) r ⟨some ⟨kb, ko, none⟩, kn, kc⟩ ⟨va, vn, vc⟩ ⟨ta, tn, tc⟩ cl ∧ Opb w' (w.heap.size + 1 + 1) cd ky vl ∧ w'.cell? ⟨kb, ko + i, none⟩ = some (.int .u64 y)) (by kernel_rfl) k08 (fun hHeld => ?_)
              refine wpAnyH_take (i := 0) (v := .agg #[.int .i64 k, .int .i64 p, .int .i64 m]) rfl (by kernel_rfl) (by kernel_rfl) (by kernel_rfl) (fun _ _ _ h => h) (Or.inl ⟨by kernel_rfl, ?_⟩) (by assumption) ?_
              · rintro w ⟨⟨h1, h2, h3⟩, ⟨h4, h5, h6, h7, h8⟩, ⟨h9, h10, h11⟩, h12⟩
                go_simp
              refine wpAnyH_take (i := 1) (v := .agg #[.int .u64 r, .slice (some ⟨kb, ko, none⟩) kn kc, .slice va vn vc, .slice ta tn tc, .bool cl]) rfl (by kernel_rfl) (by kernel_rfl) (by kernel_rfl) (fun _ _ _ h => h) (Or.inl ⟨by kernel_rfl, ?_⟩) (by assumption) ?_
              · rintro w ⟨⟨h1, h2, h3⟩, ⟨h4, h5, h6, h7, h8⟩, ⟨h9, h10, h11⟩, h12⟩
                go_simp
              refine wpAnyH_take (i := 2) (v := .agg #[.int .i64 cd, .int .u64 ky, .int .u64 vl]) rfl (by kernel_rfl) (by kernel_rfl) (by kernel_rfl) (fun _ _ _ h => h) (Or.inl ⟨by kernel_rfl, ?_⟩) (by assumption) ?_
              · rintro w ⟨⟨h1, h2, h3⟩, ⟨h4, h5, h6, h7, h8⟩, ⟨h9, h10, h11⟩, h12⟩
                go_simp
              refine wpAnyH_take (i := 3) (v := .int .u64 x) rfl (by kernel_rfl) (by kernel_rfl) (by kernel_rfl) (fun _ _ _ h => h) (Or.inl ⟨by kernel_rfl, ?_⟩) (by assumption) ?_
              · rintro w ⟨⟨h1, h2, h3⟩, ⟨h4, h5, h6, h7, h8⟩, ⟨h9, h10, h11⟩, h12⟩
                go_simp
              refine wpAnyH_take (i := 4) (v := .int .i64 (i : Int)) rfl (by kernel_rfl) (by kernel_rfl) (by kernel_rfl) (fun _ _ _ h => h) (Or.inl ⟨by kernel_rfl, ?_⟩) (by assumption) ?_
              · rintro w ⟨⟨h1, h2, h3⟩, ⟨h4, h5, h6, h7, h8⟩, ⟨h9, h10, h11⟩, h12⟩
                go_simp
              refine wpAnyH_take (i := 5) (v := .int .i64 (i : Int)) rfl (by kernel_rfl) (by kernel_rfl) (by kernel_rfl) (fun _ _ _ h => h) (Or.inl ⟨by kernel_rfl, ?_⟩) (by assumption) ?_
              · rintro w ⟨⟨h1, h2, h3⟩, ⟨h4, h5, h6, h7, h8⟩, ⟨h9, h10, h11⟩, h12⟩
                go_simp
              refine wpAnyH_take (i := 6) (v := .pointer (some ⟨w.heap.size + 1, 1, none⟩)) rfl (by kernel_rfl) (by kernel_rfl) (by kernel_rfl) (fun _ _ _ h => h) (Or.inl ⟨by kernel_rfl, ?_⟩) (by assumption) ?_
              · rintro w ⟨⟨h1, h2, h3⟩, ⟨h4, h5, h6, h7, h8⟩, ⟨h9, h10, h11⟩, h12⟩
                go_simp
              refine wpAnyH_take (i := 7) (v := .slice (some ⟨kb, ko, none⟩) kn kc) rfl (by kernel_rfl) (by kernel_rfl) (by kernel_rfl) (fun _ _ _ h => h) (Or.inl ⟨by kernel_rfl, ?_⟩) (by assumption) ?_
              · rintro w ⟨⟨h1, h2, h3⟩, ⟨h4, h5, h6, h7, h8⟩, ⟨h9, h10, h11⟩, h12⟩
                go_simp
              refine wpAnyH_take (i := 8) (v := .int .i64 (kn : Int)) rfl (by kernel_rfl) (by kernel_rfl) (by kernel_rfl) (fun _ _ _ h => h) (Or.inl ⟨by kernel_rfl, ?_⟩) (by assumption) ?_
              · rintro w ⟨⟨h1, h2, h3⟩, ⟨h4, h5, h6, h7, h8⟩, ⟨h9, h10, h11⟩, h12⟩
                go_simp
              refine wpAnyH_take (i := 9) (v := .bool true) rfl (by kernel_rfl) (by kernel_rfl) (by kernel_rfl) (fun _ _ _ h => h) (Or.inl ⟨by kernel_rfl, ?_⟩) (by assumption) ?_
              · rintro w ⟨⟨h1, h2, h3⟩, ⟨h4, h5, h6, h7, h8⟩, ⟨h9, h10, h11⟩, h12⟩
                go_simp
              refine wpAnyH_take (i := 10) (v := .bool true) rfl (by kernel_rfl) (by kernel_rfl) (by kernel_rfl) (fun _ _ _ h => h) (Or.inl ⟨by kernel_rfl, ?_⟩) (by assumption) ?_
              · rintro w ⟨⟨h1, h2, h3⟩, ⟨h4, h5, h6, h7, h8⟩, ⟨h9, h10, h11⟩, h12⟩
                go_simp
              refine wpAnyH_take (i := 11) (v := .pointer (some ⟨w.heap.size + 1, 1, none⟩)) rfl (by kernel_rfl) (by kernel_rfl) (by kernel_rfl) (fun _ _ _ h => h) (Or.inl ⟨by kernel_rfl, ?_⟩) (by assumption) ?_
              · rintro w ⟨⟨h1, h2, h3⟩, ⟨h4, h5, h6, h7, h8⟩, ⟨h9, h10, h11⟩, h12⟩
                go_simp
              refine wpAnyH_take (i := 12) (v := .slice (some ⟨kb, ko, none⟩) kn kc) rfl (by kernel_rfl) (by kernel_rfl) (by kernel_rfl) (fun _ _ _ h => h) (Or.inl ⟨by kernel_rfl, ?_⟩) (by assumption) ?_
              · rintro w ⟨⟨h1, h2, h3⟩, ⟨h4, h5, h6, h7, h8⟩, ⟨h9, h10, h11⟩, h12⟩
                go_simp
              refine wpAnyH_take (i := 13) (v := .int .i64 (i : Int)) rfl (by kernel_rfl) (by kernel_rfl) (by kernel_rfl) (fun _ _ _ h => h) (Or.inl ⟨by kernel_rfl, ?_⟩) (by assumption) ?_
              · rintro w ⟨⟨h1, h2, h3⟩, ⟨h4, h5, h6, h7, h8⟩, ⟨h9, h10, h11⟩, h12⟩
                go_simp
              refine wpAnyH_take (i := 14) (v := .pointer (some ⟨kb, ko + i, none⟩)) rfl (by kernel_rfl) (by kernel_rfl) (by kernel_rfl) (fun _ _ _ h => h) (Or.inl ⟨by kernel_rfl, ?_⟩) (by assumption) ?_
              · rintro w ⟨⟨h1, h2, h3⟩, ⟨h4, h5, h6, h7, h8⟩, ⟨h9, h10, h11⟩, h12⟩
                go_simp
              refine wpAnyH_take (i := 15) (v := .int .u64 y) rfl (by kernel_rfl) (by kernel_rfl) (by kernel_rfl) (fun _ _ _ h => h) (Or.inl ⟨by kernel_rfl, ?_⟩) (by assumption) ?_
              · rintro w ⟨⟨h1, h2, h3⟩, ⟨h4, h5, h6, h7, h8⟩, ⟨h9, h10, h11⟩, h12⟩
                go_simp
              refine wpAnyH_take (i := 16) (v := .int .u64 x) rfl (by kernel_rfl) (by kernel_rfl) (by kernel_rfl) (fun _ _ _ h => h) (Or.inl ⟨by kernel_rfl, ?_⟩) (by assumption) ?_
              · rintro w ⟨⟨h1, h2, h3⟩, ⟨h4, h5, h6, h7, h8⟩, ⟨h9, h10, h11⟩, h12⟩
                go_simp
              refine wpAnyH_take (i := 17) (v := .bool false) rfl (by kernel_rfl) (by kernel_rfl) (by kernel_rfl) (fun _ _ _ h => h) (Or.inl ⟨by kernel_rfl, ?_⟩) (by assumption) ?_
              · rintro w ⟨⟨h1, h2, h3⟩, ⟨h4, h5, h6, h7, h8⟩, ⟨h9, h10, h11⟩, h12⟩
                go_simp
              refine wpAnyH_take (i := 18) (v := .bool false) rfl (by kernel_rfl) (by kernel_rfl) (by kernel_rfl) (fun _ _ _ h => h) (Or.inl ⟨by kernel_rfl, ?_⟩) (by assumption) ?_
              · rintro w ⟨⟨h1, h2, h3⟩, ⟨h4, h5, h6, h7, h8⟩, ⟨h9, h10, h11⟩, h12⟩
                go_simp
              refine wpAnyH_ready (rs := [19]) (by kernel_rfl) (by simp) ?_
              refine AllReadyH.cons rfl (fun K hK => ?_) AllReadyH.nil
              go_simp
              refine (HPA.out _ (Ext.drew (Ext.refl _))).mono ?_
              rintro e w2 ⟨x2, k', v', t', rfl, hS2, hoff⟩
              have xw : Ext W6 w2 := HX.out.trans (Ext.trans (Ext.drew (Ext.refl _)) x2)
              refine hK.out _ _ ⟨hHeld.1.ext x2, hHeld.2.1.ext x2, hHeld.2.2.1.ext x2, x2.cell hHeld.2.2.2⟩ (fun hHeld => ?_)
              clear hK K
              refine wpAnyH_take (i := 20) (v := .agg #[.int .u64 res.1.reg, .slice k'.a k'.n k'.c, .slice v'.a v'.n v'.c, .slice t'.a t'.n t'.c, .bool res.1.closed]) rfl (by kernel_rfl) (by kernel_rfl) (by kernel_rfl) (fun _ _ _ h => h) (Or.inl ⟨by kernel_rfl, ?_⟩) (by assumption) ?_
              · rintro w ⟨⟨h1, h2, h3⟩, ⟨h4, h5, h6, h7, h8⟩, ⟨h9, h10, h11⟩, h12⟩
                go_simp
              refine wpAnyH_take (i := 21) (v := .agg #[.int .i64 res.2.1, .int .u64 res.2.2]) rfl (by kernel_rfl) (by kernel_rfl) (by kernel_rfl) (fun _ _ _ h => h) (Or.inl ⟨by kernel_rfl, ?_⟩) (by assumption) ?_
              · rintro w ⟨⟨h1, h2, h3⟩, ⟨h4, h5, h6, h7, h8⟩, ⟨h9, h10, h11⟩, h12⟩
                go_simp
              obtain ⟨f0, f1, f2, f3, f4⟩ := HF.out.2.2.2.1.ext xw
              obtain ⟨z0, z1⟩ := two_ext xw HF.out.2.2.2.2
              have g0 := HZ.out.1.ext (Five.lt HF.out.2.2.2.1) xw 0
              have g1 := HZ.out.1.ext (Five.lt HF.out.2.2.2.1) xw 1
              have g2 := HZ.out.1.ext (Five.lt HF.out.2.2.2.1) xw 2
              have g3 := HZ.out.1.ext (Five.lt HF.out.2.2.2.1) xw 3
              have g4 := HZ.out.1.ext (Five.lt HF.out.2.2.2.1) xw 4
              have g5 := HZ.out.2.ext (two_lt HF.out.2.2.2.2) xw 0
              have g6 := HZ.out.2.ext (two_lt HF.out.2.2.2.2) xw 1
              refine wpAnyH_ready (rs := [22]) (by kernel_rfl) (by simp) ?_
              refine AllReadyH.cons rfl (fun K hK => ?_) AllReadyH.nil
              go_simp
              refine hK.out _ _ (by refine ⟨?_, ?_, ?_, ?_⟩ <;> repeat (first | (with_reducible exact hHeld.1) | (with_reducible exact hHeld.2.1) | (with_reducible exact hHeld.2.2.1) | (with_reducible exact hHeld.2.2.2) | (with_reducible refine Three.set ?_ (by omega) _ _) | (with_reducible refine Five.set ?_ (by omega) _ _) | (with_reducible refine Opb.set ?_ (by omega) _ _) | (with_reducible refine (cell_far (by omega)).trans ?_))) (fun hHeld => ?_)
              clear hK K
              refine wpAnyH_ready (rs := [23]) (by kernel_rfl) (by simp) ?_
              refine AllReadyH.cons rfl (fun K hK => ?_) AllReadyH.nil
              go_simp
              refine hK.out _ _ (by refine ⟨?_, ?_, ?_, ?_⟩ <;> repeat (first | (with_reducible exact hHeld.1) | (with_reducible exact hHeld.2.1) | (with_reducible exact hHeld.2.2.1) | (with_reducible exact hHeld.2.2.2) | (with_reducible refine Three.set ?_ (by omega) _ _) | (with_reducible refine Five.set ?_ (by omega) _ _) | (with_reducible refine Opb.set ?_ (by omega) _ _) | (with_reducible refine (cell_far (by omega)).trans ?_))) (fun hHeld => ?_)
              clear hK K
              refine wpAnyH_done (by kernel_rfl) ?_ _
              have hsB := (HF.out.2.2.2.1.ext xw).some
              have hsC := (two_ext xw HF.out.2.2.2.2).some
              have HXW := Lib.hid (HE0.out.trans xw)
              have hsz := HE0.out.size
              have HS2 := Lib.hid hS2
              have HO3 := Lib.hid (hoff (w.heap.size + 1 + 1 + 1) (by have := Five.lt (HF.out.2.2.2.1.ext HX.out); simpa using this) (HS.out.off (by omega)))
              have HO4 := Lib.hid (hoff (w.heap.size + 1 + 1 + 1 + 1) (by have := two_lt (two_ext HX.out HF.out.2.2.2.2); simpa using this) (HS.out.off (by omega)))
              have HO := Lib.hid (fun B (hB : B < w.heap.size) h => hoff B (by have := (HE0.out.trans HX.out).size; simp; omega) h)
              clear f0 f1 f2 f3 f4 z0 z1 g0 g1 g2 g3 g4 g5 g6 hHeld hS2 hoff
              go_wp2_with (fail)
              obtain ⟨⟨q0, q1, q2, q3, q4⟩, z0, z1⟩ := fin_both hsB hsC (by omega) res.1.reg k' v' t' res.1.closed res.2.1 res.2.2 (Ext.refl _)
              refine bodyPost_ret (v := .tuple #[sv res.1.reg k' v' t' res.1.closed, rv res.2.1 res.2.2]) (by simp [results, Tryz.results59, go_sem, q0, q1, q2, q3, q4, z0, z1]) rfl ?_
              rw [hfin.out]
              refine ⟨?_, k', v', t', rfl, ?_, HO.out⟩
              · repeat (first | (with_reducible exact HXW.out) | (with_reducible refine Ext.setCell ?_ (by omega) _))
              · repeat (first | (with_reducible exact HS2.out) | (with_reducible refine SS.set ?_ HO4.out _ _) | (with_reducible refine SS.set ?_ HO3.out _ _))
        · have hik : kn = i := by omega
          subst hik
          have hpos : RowKit.Hid (posK k ks x = kn) := Lib.hid (pos_eq (by rw [hkl.out]; omega) hlow.out (fun z hz => by have := (List.getElem?_eq_some_iff.1 hz).1; rw [hkl.out] at this; omega))
          have hhere : RowKit.Hid (hereK ks kn x = false) := Lib.hid (decide_eq_false (fun h => by have := (List.getElem?_eq_some_iff.1 h).1; rw [hkl.out] at this; omega))
          obtain ⟨c0, c1, c2⟩ := (HF.out.1.ext HX.out)
          obtain ⟨d0, d1, d2, d3, d4⟩ := (HF.out.2.1.ext HX.out)
          go_wp2_with (fail)
          go_quiet (fail)
          clear c0 c1 c2 d0 d1 d2 d3 d4
          replace HX := Lib.hid (HX.out.drewN nq)
          generalize wr.drewN nq = wr at HX ⊢
          have B3 := HF.out.1.ext HX.out
          have B5 := HF.out.2.1.ext HX.out
          have BO := HF.out.2.2.1.ext HX.out
          have k08 := And.intro B3 (And.intro B5 BO)
          have hlb : decide ((kn : Int) < (kn : Int)) = false := decide_eq_false (by omega)
          clear B3 B5 BO
          have HPl : RowKit.Hid (∀ W', Ext wr W' → Pl k p m ⟨ka, kn, kc⟩ ⟨va, vn, vc⟩ ⟨ta, tn, tc⟩ ⟨r, ks, vs, vt, cl⟩ ⟨cd, ky, vl⟩ x kn false W') := Lib.hid (fun W' hW' => ⟨hm, HS.out.ext (HE0.out.trans (HX.out.trans hW')), ho, hx, by simp only; rw [hkl.out]; omega, (fun h => by cases h), hvv, by simp only; rw [hkl.out]; omega⟩)
          obtain ⟨res, hres⟩ : ∃ res, placedS k m ⟨r, ks, vs, vt, cl⟩ ⟨cd, ky, vl⟩ x kn false = res := ⟨_, rfl⟩
          have hfin : RowKit.Hid (tableS k m ⟨r, ks, vs, vt, cl⟩ ⟨cd, ky, vl⟩ = res) := Lib.hid (by rw [htab.out, hpos.out, hhere.out, hres])
          have HPA : RowKit.Hid (∀ W', Ext wr W' → Calls Tryz.prog 103 #[cf k p m, .agg #[.int .u64 r, .slice (ka) kn kc, .slice va vn vc, .slice ta tn tc, .bool cl], .agg #[.int .i64 cd, .int .u64 ky, .int .u64 vl], .int .u64 x, .int .i64 kn, .bool false] W' (DE ⟨ka, kn, kc⟩ ⟨va, vn, vc⟩ ⟨ta, tn, tc⟩ res W')) := Lib.hid (fun W' hW' => hres ▸ placed_any k p m ⟨ka, kn, kc⟩ ⟨va, vn, vc⟩ ⟨ta, tn, tc⟩ ⟨r, ks, vs, vt, cl⟩ ⟨cd, ky, vl⟩ x kn false W' (HPl.out W' hW'))
          clear hres HPl
          go_wp2_with (fail)
          refine wp_region_held_drew (S := fun w' => Three w' w.heap.size k p m ∧ Five w' (w.heap.size + 1) r ⟨ka, kn, kc⟩ ⟨va, vn, vc⟩ ⟨ta, tn, tc⟩ cl ∧ Opb w' (w.heap.size + 1 + 1) cd ky vl) (by kernel_rfl) k08 (fun hHeld => ?_)
          refine wpAnyH_take (i := 0) (v := .agg #[.int .i64 k, .int .i64 p, .int .i64 m]) rfl (by kernel_rfl) (by kernel_rfl) (by kernel_rfl) (fun _ _ _ h => h) (Or.inl ⟨by kernel_rfl, ?_⟩) (by assumption) ?_
          · rintro w ⟨⟨h1, h2, h3⟩, ⟨h4, h5, h6, h7, h8⟩, ⟨h9, h10, h11⟩⟩
            go_simp
          refine wpAnyH_take (i := 1) (v := .agg #[.int .u64 r, .slice ka kn kc, .slice va vn vc, .slice ta tn tc, .bool cl]) rfl (by kernel_rfl) (by kernel_rfl) (by kernel_rfl) (fun _ _ _ h => h) (Or.inl ⟨by kernel_rfl, ?_⟩) (by assumption) ?_
          · rintro w ⟨⟨h1, h2, h3⟩, ⟨h4, h5, h6, h7, h8⟩, ⟨h9, h10, h11⟩⟩
            go_simp
          refine wpAnyH_take (i := 2) (v := .agg #[.int .i64 cd, .int .u64 ky, .int .u64 vl]) rfl (by kernel_rfl) (by kernel_rfl) (by kernel_rfl) (fun _ _ _ h => h) (Or.inl ⟨by kernel_rfl, ?_⟩) (by assumption) ?_
          · rintro w ⟨⟨h1, h2, h3⟩, ⟨h4, h5, h6, h7, h8⟩, ⟨h9, h10, h11⟩⟩
            go_simp
          refine wpAnyH_take (i := 3) (v := .int .u64 x) rfl (by kernel_rfl) (by kernel_rfl) (by kernel_rfl) (fun _ _ _ h => h) (Or.inl ⟨by kernel_rfl, ?_⟩) (by assumption) ?_
          · rintro w ⟨⟨h1, h2, h3⟩, ⟨h4, h5, h6, h7, h8⟩, ⟨h9, h10, h11⟩⟩
            go_simp
          refine wpAnyH_take (i := 4) (v := .int .i64 (kn : Int)) rfl (by kernel_rfl) (by kernel_rfl) (by kernel_rfl) (fun _ _ _ h => h) (Or.inl ⟨by kernel_rfl, ?_⟩) (by assumption) ?_
          · rintro w ⟨⟨h1, h2, h3⟩, ⟨h4, h5, h6, h7, h8⟩, ⟨h9, h10, h11⟩⟩
            go_simp
          refine wpAnyH_take (i := 5) (v := .int .i64 (kn : Int)) rfl (by kernel_rfl) (by kernel_rfl) (by kernel_rfl) (fun _ _ _ h => h) (Or.inl ⟨by kernel_rfl, ?_⟩) (by assumption) ?_
          · rintro w ⟨⟨h1, h2, h3⟩, ⟨h4, h5, h6, h7, h8⟩, ⟨h9, h10, h11⟩⟩
            go_simp
          refine wpAnyH_take (i := 6) (v := .pointer (some ⟨w.heap.size + 1, 1, none⟩)) rfl (by kernel_rfl) (by kernel_rfl) (by kernel_rfl) (fun _ _ _ h => h) (Or.inl ⟨by kernel_rfl, ?_⟩) (by assumption) ?_
          · rintro w ⟨⟨h1, h2, h3⟩, ⟨h4, h5, h6, h7, h8⟩, ⟨h9, h10, h11⟩⟩
            go_simp
          refine wpAnyH_take (i := 7) (v := .slice ka kn kc) rfl (by kernel_rfl) (by kernel_rfl) (by kernel_rfl) (fun _ _ _ h => h) (Or.inl ⟨by kernel_rfl, ?_⟩) (by assumption) ?_
          · rintro w ⟨⟨h1, h2, h3⟩, ⟨h4, h5, h6, h7, h8⟩, ⟨h9, h10, h11⟩⟩
            go_simp
          refine wpAnyH_take (i := 8) (v := .int .i64 (kn : Int)) rfl (by kernel_rfl) (by kernel_rfl) (by kernel_rfl) (fun _ _ _ h => h) (Or.inl ⟨by kernel_rfl, ?_⟩) (by assumption) ?_
          · rintro w ⟨⟨h1, h2, h3⟩, ⟨h4, h5, h6, h7, h8⟩, ⟨h9, h10, h11⟩⟩
            go_simp
          refine wpAnyH_take (i := 9) (v := .bool false) rfl (by kernel_rfl) (by kernel_rfl) (by kernel_rfl) (fun _ _ _ h => h) (Or.inl ⟨by kernel_rfl, ?_⟩) (by assumption) ?_
          · rintro w ⟨⟨h1, h2, h3⟩, ⟨h4, h5, h6, h7, h8⟩, ⟨h9, h10, h11⟩⟩
            go_simp
          refine wpAnyH_take (i := 10) (v := .bool false) rfl (by kernel_rfl) (by kernel_rfl) (by kernel_rfl) (fun _ _ _ h => h) (Or.inl ⟨by kernel_rfl, ?_⟩) (by assumption) ?_
          · rintro w ⟨⟨h1, h2, h3⟩, ⟨h4, h5, h6, h7, h8⟩, ⟨h9, h10, h11⟩⟩
            go_simp
          refine wpAnyH_take (i := 11) (v := undef) rfl (by kernel_rfl) (by kernel_rfl) (by kernel_rfl) (fun _ _ _ h => h) (Or.inr ⟨by kernel_rfl, rfl⟩) (by assumption) ?_
          refine wpAnyH_take (i := 12) (v := undef) rfl (by kernel_rfl) (by kernel_rfl) (by kernel_rfl) (fun _ _ _ h => h) (Or.inr ⟨by kernel_rfl, rfl⟩) (by assumption) ?_
          refine wpAnyH_take (i := 13) (v := undef) rfl (by kernel_rfl) (by kernel_rfl) (by kernel_rfl) (fun _ _ _ h => h) (Or.inr ⟨by kernel_rfl, rfl⟩) (by assumption) ?_
          refine wpAnyH_take (i := 14) (v := undef) rfl (by kernel_rfl) (by kernel_rfl) (by kernel_rfl) (fun _ _ _ h => h) (Or.inr ⟨by kernel_rfl, rfl⟩) (by assumption) ?_
          refine wpAnyH_take (i := 15) (v := undef) rfl (by kernel_rfl) (by kernel_rfl) (by kernel_rfl) (fun _ _ _ h => h) (Or.inr ⟨by kernel_rfl, rfl⟩) (by assumption) ?_
          refine wpAnyH_take (i := 16) (v := undef) rfl (by kernel_rfl) (by kernel_rfl) (by kernel_rfl) (fun _ _ _ h => h) (Or.inr ⟨by kernel_rfl, rfl⟩) (by assumption) ?_
          refine wpAnyH_take (i := 17) (v := undef) rfl (by kernel_rfl) (by kernel_rfl) (by kernel_rfl) (fun _ _ _ h => h) (Or.inr ⟨by kernel_rfl, rfl⟩) (by assumption) ?_
          refine wpAnyH_take (i := 18) (v := .bool false) rfl (by kernel_rfl) (by kernel_rfl) (by kernel_rfl) (fun _ _ _ h => h) (Or.inl ⟨by kernel_rfl, ?_⟩) (by assumption) ?_
          · rintro w ⟨⟨h1, h2, h3⟩, ⟨h4, h5, h6, h7, h8⟩, ⟨h9, h10, h11⟩⟩
            go_simp
          refine wpAnyH_ready (rs := [19]) (by kernel_rfl) (by simp) ?_
          refine AllReadyH.cons rfl (fun K hK => ?_) AllReadyH.nil
          go_simp
          refine (HPA.out _ (Ext.drew (Ext.refl _))).mono ?_
          rintro e w2 ⟨x2, k', v', t', rfl, hS2, hoff⟩
          have xw : Ext W6 w2 := HX.out.trans (Ext.trans (Ext.drew (Ext.refl _)) x2)
          refine hK.out _ _ ⟨hHeld.1.ext x2, hHeld.2.1.ext x2, hHeld.2.2.ext x2⟩ (fun hHeld => ?_)
          clear hK K
          refine wpAnyH_take (i := 20) (v := .agg #[.int .u64 res.1.reg, .slice k'.a k'.n k'.c, .slice v'.a v'.n v'.c, .slice t'.a t'.n t'.c, .bool res.1.closed]) rfl (by kernel_rfl) (by kernel_rfl) (by kernel_rfl) (fun _ _ _ h => h) (Or.inl ⟨by kernel_rfl, ?_⟩) (by assumption) ?_
          · rintro w ⟨⟨h1, h2, h3⟩, ⟨h4, h5, h6, h7, h8⟩, ⟨h9, h10, h11⟩⟩
            go_simp
          refine wpAnyH_take (i := 21) (v := .agg #[.int .i64 res.2.1, .int .u64 res.2.2]) rfl (by kernel_rfl) (by kernel_rfl) (by kernel_rfl) (fun _ _ _ h => h) (Or.inl ⟨by kernel_rfl, ?_⟩) (by assumption) ?_
          · rintro w ⟨⟨h1, h2, h3⟩, ⟨h4, h5, h6, h7, h8⟩, ⟨h9, h10, h11⟩⟩
            go_simp
          obtain ⟨f0, f1, f2, f3, f4⟩ := HF.out.2.2.2.1.ext xw
          obtain ⟨z0, z1⟩ := two_ext xw HF.out.2.2.2.2
          have g0 := HZ.out.1.ext (Five.lt HF.out.2.2.2.1) xw 0
          have g1 := HZ.out.1.ext (Five.lt HF.out.2.2.2.1) xw 1
          have g2 := HZ.out.1.ext (Five.lt HF.out.2.2.2.1) xw 2
          have g3 := HZ.out.1.ext (Five.lt HF.out.2.2.2.1) xw 3
          have g4 := HZ.out.1.ext (Five.lt HF.out.2.2.2.1) xw 4
          have g5 := HZ.out.2.ext (two_lt HF.out.2.2.2.2) xw 0
          have g6 := HZ.out.2.ext (two_lt HF.out.2.2.2.2) xw 1
          refine wpAnyH_ready (rs := [22]) (by kernel_rfl) (by simp) ?_
          refine AllReadyH.cons rfl (fun K hK => ?_) AllReadyH.nil
          go_simp
          refine hK.out _ _ (by refine ⟨?_, ?_, ?_⟩ <;> repeat (first | (with_reducible exact hHeld.1) | (with_reducible exact hHeld.2.1) | (with_reducible exact hHeld.2.2) | (with_reducible refine Three.set ?_ (by omega) _ _) | (with_reducible refine Five.set ?_ (by omega) _ _) | (with_reducible refine Opb.set ?_ (by omega) _ _))) (fun hHeld => ?_)
          clear hK K
          refine wpAnyH_ready (rs := [23]) (by kernel_rfl) (by simp) ?_
          refine AllReadyH.cons rfl (fun K hK => ?_) AllReadyH.nil
          go_simp
          refine hK.out _ _ (by refine ⟨?_, ?_, ?_⟩ <;> repeat (first | (with_reducible exact hHeld.1) | (with_reducible exact hHeld.2.1) | (with_reducible exact hHeld.2.2) | (with_reducible refine Three.set ?_ (by omega) _ _) | (with_reducible refine Five.set ?_ (by omega) _ _) | (with_reducible refine Opb.set ?_ (by omega) _ _))) (fun hHeld => ?_)
          clear hK K
          refine wpAnyH_done (by kernel_rfl) ?_ _
          have hsB := (HF.out.2.2.2.1.ext xw).some
          have hsC := (two_ext xw HF.out.2.2.2.2).some
          have HXW := Lib.hid (HE0.out.trans xw)
          have hsz := HE0.out.size
          have HS2 := Lib.hid hS2
          have HO3 := Lib.hid (hoff (w.heap.size + 1 + 1 + 1) (by have := Five.lt (HF.out.2.2.2.1.ext HX.out); simpa using this) (HS.out.off (by omega)))
          have HO4 := Lib.hid (hoff (w.heap.size + 1 + 1 + 1 + 1) (by have := two_lt (two_ext HX.out HF.out.2.2.2.2); simpa using this) (HS.out.off (by omega)))
          have HO := Lib.hid (fun B (hB : B < w.heap.size) h => hoff B (by have := (HE0.out.trans HX.out).size; simp; omega) h)
          clear f0 f1 f2 f3 f4 z0 z1 g0 g1 g2 g3 g4 g5 g6 hHeld hS2 hoff
          go_wp2_with (fail)
          obtain ⟨⟨q0, q1, q2, q3, q4⟩, z0, z1⟩ := fin_both hsB hsC (by omega) res.1.reg k' v' t' res.1.closed res.2.1 res.2.2 (Ext.refl _)
          refine bodyPost_ret (v := .tuple #[sv res.1.reg k' v' t' res.1.closed, rv res.2.1 res.2.2]) (by simp [results, Tryz.results59, go_sem, q0, q1, q2, q3, q4, z0, z1]) rfl ?_
          rw [hfin.out]
          refine ⟨?_, k', v', t', rfl, ?_, HO.out⟩
          · repeat (first | (with_reducible exact HXW.out) | (with_reducible refine Ext.setCell ?_ (by omega) _))
          · repeat (first | (with_reducible exact HS2.out) | (with_reducible refine SS.set ?_ HO4.out _ _) | (with_reducible refine SS.set ?_ HO3.out _ _))
    · have hz : RowKit.Hid (tableS k m ⟨r, ks, vs, vt, cl⟩ ⟨cd, ky, vl⟩ = (⟨r, ks, vs, vt, cl⟩, (10, 0))) := Lib.hid (by unfold tableS; rw [if_neg h9, if_neg hmay])
      have hmay2 : mayK k ky = false := by simpa using hmay
      rw [hmay2] at HM
      clear h9 hmay hmay2
      go_enter Tryz.func59, Tryz.ntmps59
      go_wp2_with (go_at_call 101; (with_reducible refine (HM.out _).mono ?_); rintro e w1 ⟨rfl, rfl⟩)
      go_region_held3 (fun w' => (w'.cell? ⟨w.heap.size + 1, 0, none⟩ = some (.int .u64 r) ∧ w'.cell? ⟨w.heap.size + 1, 1, none⟩ = some (.slice ka kn kc) ∧ w'.cell? ⟨w.heap.size + 1, 2, none⟩ = some (.slice va vn vc) ∧ w'.cell? ⟨w.heap.size + 1, 3, none⟩ = some (.slice ta tn tc) ∧ w'.cell? ⟨w.heap.size + 1, 4, none⟩ = some (.bool cl)))
        (first | ((show Five _ (w.heap.size + 1) r ⟨ka, kn, kc⟩ ⟨va, vn, vc⟩ ⟨ta, tn, tc⟩ cl); repeat (first | ((with_reducible refine five_at ?_); (simp; done)) | with_reducible refine Five.alloc ?_ _ | with_reducible refine Five.drew ?_ | with_reducible refine Five.set ?_ (by omega) _ _)) | go_keep)
        (first
          | (go_at_call 100; (with_reducible refine (refuses_is _ _).mono ?_); rintro e w1 ⟨rfl, rfl⟩))
      rename_i hq
      clear hq
      go_wp2_with (fail)
      refine bodyPost_ret (v := .tuple #[sv r ⟨ka, kn, kc⟩ ⟨va, vn, vc⟩ ⟨ta, tn, tc⟩ cl, rv 10 (0)]) (by simp [results, Tryz.results59, go_sem]) rfl ?_
      rw [hz.out]
      refine ⟨?_, _, _, _, rfl, ⟨hr, HS.out.2.1.ext ?_, HS.out.2.2.1.ext ?_, HS.out.2.2.2.ext ?_⟩, fun _ _ h => h⟩ <;> repeat (first | with_reducible exact Ext.refl _ | with_reducible refine Ext.alloc ?_ _ | with_reducible refine Ext.drew ?_)

end Go.Proofs.YtmonkcekkhfafaaGreatDoor.Aut

