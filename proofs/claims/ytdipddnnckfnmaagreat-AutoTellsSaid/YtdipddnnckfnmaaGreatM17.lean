/-
  Parts of a proof, one behind the other: LanRight, LanIs, LanObj, LanNew. Each says its own conditions.
-/
import Derived.Test.YtdipddnnckfnmaaGreatM16

/- LanRight:
  isBare, and whether keys may stand in a state. Conditions: the slices' words are words.
-/
namespace Go.Proofs.YtdipddnnckfnmaaGreat.Lan
open Go.RowKit (Below intOf)
open Go.Proofs.YtdipddnnckfnmaaGreat.Aut

def bareB (r : Int) (a v t : Sl) (cl : Bool) : Bool := decide (r = 0) && (decide (a.n = 0) && (decide (v.n = 0) && (decide (t.n = 0) && !cl)))
set_option maxHeartbeats 1000000 in
set_option maxRecDepth 100000 in
theorem bare_any (r : Int) (a v t : Sl) (cl : Bool) (w : World) : Calls Tryz.prog 100 #[sv r a v t cl] w fun e w' => e = .returned (.bool (bareB r a v t cl)) ∧ w' = w.alloc (sb r a v t cl) := by
  obtain ⟨ka, kn, kc⟩ := a
  obtain ⟨va, vn, vc⟩ := v
  obtain ⟨ta, tn, tc⟩ := t
  dsimp only [sv, sb] at *
  generalize hR : bareB r ⟨ka, kn, kc⟩ ⟨va, vn, vc⟩ ⟨ta, tn, tc⟩ cl = R
  have HR := Lib.hid hR
  clear hR
  by_cases h1 : r = 0
  · have b1 : (r == 0) = true := by simpa using h1
    by_cases h2 : kn = 0
    · have b2 : ((kn : Int) == 0) = true := by simp [h2]
      by_cases h3 : vn = 0
      · have b3 : ((vn : Int) == 0) = true := by simp [h3]
        by_cases h4 : tn = 0
        · have b4 : ((tn : Int) == 0) = true := by simp [h4]
          have hq : R = !cl := by rw [← HR.out]; simp [bareB, h1, h2, h3, h4]
          subst hq
          clear h1 h2 h3 h4 HR
          go_enter Tryz.func100, Tryz.ntmps100
          go_wp2_with (fail)
          go_ret
          exact ⟨rfl, rfl⟩
        · have b4 : ((tn : Int) == 0) = false := by simp; omega
          have hq : R = false := by rw [← HR.out]; simp [bareB, h4]
          subst hq
          clear h1 h2 h3 h4 HR
          go_enter Tryz.func100, Tryz.ntmps100
          go_wp2_with (fail)
          go_ret
          exact ⟨rfl, rfl⟩
      · have b3 : ((vn : Int) == 0) = false := by simp; omega
        have hq : R = false := by rw [← HR.out]; simp [bareB, h3]
        subst hq
        clear h1 h2 h3 HR
        go_enter Tryz.func100, Tryz.ntmps100
        go_wp2_with (fail)
        go_ret
        exact ⟨rfl, rfl⟩
    · have b2 : ((kn : Int) == 0) = false := by simp; omega
      have hq : R = false := by rw [← HR.out]; simp [bareB, h2]
      subst hq
      clear h1 h2 HR
      go_enter Tryz.func100, Tryz.ntmps100
      go_wp2_with (fail)
      go_ret
      exact ⟨rfl, rfl⟩
  · have b1 : (r == 0) = false := by simpa using h1
    have hq : R = false := by rw [← HR.out]; simp [bareB, h1]
    subst hq
    clear h1 HR
    go_enter Tryz.func100, Tryz.ntmps100
    go_wp2_with (fail)
    go_ret
    exact ⟨rfl, rfl⟩

/-- The keys ahead of a place are as they may be. -/
def OkTo (k : Int) (xs : List Int) (i : Nat) : Prop := ∀ (j : Nat) y, j < i → xs[j]? = some y → (meantK k y = y ∧ mayK k y = true) ∧ ∀ (l : Nat) z, j = l + 1 → xs[l]? = some z → ordK k z < ordK k y
def Good (k : Int) (xs : List Int) : Prop := (∀ x ∈ xs, meantK k x = x ∧ mayK k x = true) ∧ RisingK k xs
instance (k : Int) (xs : List Int) : Decidable (Good k xs) := by unfold Good; infer_instance
theorem good_of {k : Int} {xs : List Int} (h : OkTo k xs xs.length) : Good k xs := by
  refine ⟨fun x hx => ?_, ?_⟩
  · obtain ⟨j, hj⟩ := List.mem_iff_getElem?.1 hx
    exact (h j x (List.getElem?_eq_some_iff.1 hj).1 hj).1
  · have step : ∀ (d i : Nat) x y, xs[i]? = some x → xs[i + d + 1]? = some y → ordK k x < ordK k y := by
      intro d
      induction d with
      | zero => intro i x y hx hy; exact (h (i + 1) y (List.getElem?_eq_some_iff.1 hy).1 hy).2 i x rfl hx
      | succ d ih =>
        intro i x y hx hy
        have hl := (List.getElem?_eq_some_iff.1 hy).1
        have hz : xs[i + d + 1]? = some (xs[i + d + 1]'(by omega)) := List.getElem?_eq_getElem (by omega)
        exact Int.lt_trans (ih i x _ hx hz) ((h _ y hl hy).2 _ _ (by omega) hz)
    refine rising_iff.2 fun i j x y hij hx hy => ?_
    obtain ⟨d, rfl⟩ : ∃ d, j = i + d + 1 := ⟨j - i - 1, by omega⟩
    exact step d i x y hx hy
theorem ok_of {k : Int} {xs : List Int} (h : Good k xs) (i : Nat) : OkTo k xs i := fun j y _ hy => ⟨h.1 y (List.mem_of_getElem? hy), fun l z e hz => h.2.lt hz hy (by omega)⟩

set_option maxHeartbeats 4000000 in
set_option maxRecDepth 100000 in
theorem are_any {k : Int} {T : TypeId} {fk fr fl : Nat} (I : KI k T fk fr fl) (m : Int) (sl : Option Addr) (n c : Nat) (xs : List Int) (w : World) (hW : WS w sl n c xs) :
    Calls Tryz.prog 120 #[kd T m, .slice sl n c] w fun e w' => e = .returned (.bool (decide ((n : Int) ≤ m ∧ Good k xs))) ∧ Ext w w' := by
  obtain ⟨k0, k1⟩ := kb_new T m w
  have hn := hW.le
  have X0 := Lib.hid (Ext.new w (kb T m))
  have h1 := I.km
  have h2 := I.ek
  have h3 := I.rm
  have h4 := I.er
  have HK : RowKit.Hid (∀ x w, U64 x → _) := Lib.hid I.ck
  have HR : RowKit.Hid (∀ x w, U64 x → _) := Lib.hid I.cr
  have HW := Lib.hid hW
  clear I hW
  dsimp only [kd, kb] at *
  generalize hD : decide ((n : Int) ≤ m ∧ Good k xs) = D
  have HD := Lib.hid hD
  clear hD
  by_cases hA : (n : Int) ≤ m
  · have hA' : ¬ m < (n : Int) := by omega
    go_enter Tryz.func120, Tryz.ntmps120
    go_wp2_with (fail)
    go_loopg [16] n (fun kx s16 wr => ∃ i : Nat, s16 = .int .i64 i ∧ i ≤ n ∧ n - i ≤ kx ∧ RowKit.Hid (Ext (w.alloc (.cells #[.iface T kE, .int .i64 m] 104)) wr) ∧ RowKit.Hid (OkTo k xs i))
    case atStart => exact ⟨0, rfl, Nat.zero_le _, by omega, Lib.hid (Ext.refl _), Lib.hid fun j y hj => absurd hj (Nat.not_lt_zero _)⟩
    case round =>
      obtain ⟨i, rfl, hi, hg, S1, J⟩ := hrel
      have c0 := S1.out.cell k0
      have c1 := S1.out.cell k1
      have X1 : RowKit.Hid (Ext w _) := Lib.hid (X0.out.trans S1.out)
      clear k0 k1 X0
      by_cases hlt : i < n
      · have hlt2 : (i : Int) < n := by omega
        obtain ⟨y, hy, hyu, b, o, rfl, hyc⟩ := HW.out.get hlt
        have cm := X1.out.cell hyc
        have HKy := Lib.hid (fun w => HK.out y w hyu)
        have HRy := Lib.hid (fun w => HR.out y w hyu)
        have HY := Lib.hid hy
        clear hyc hyu hy HK
        by_cases hmay : mayK k y = true
        · rw [hmay] at HKy
          by_cases hme : meantK k y = y
          · rw [hme] at HKy
            have hme2 : (y != y) = false := by simp
            rcases Nat.eq_zero_or_pos i with hz | hz
            · subst hz
              clear HR HRy
              simp only [Nat.add_zero] at cm
              go_wp2_with (first | (go_at_fn fk; with_reducible refine (HKy.out _).mono ?_; rintro e w' ⟨rfl, rfl⟩))
              go_quiet (fail)
              go_wp2_with (fail)
              go_roundg (n - 1)
              case measure => omega
              case rel =>
                refine ⟨1, rfl, by omega, by omega, Lib.hid ?_, Lib.hid ?_⟩
                · repeat (first | exact S1.out | refine Ext.alloc ?_ _ | refine Ext.drew ?_ | refine Ext.drewN ?_ _)
                · intro j z hj hz
                  obtain rfl : j = 0 := by omega
                  rw [HY.out] at hz; cases hz
                  exact ⟨⟨hme, hmay⟩, fun l z e => by omega⟩
            · obtain ⟨j, rfl⟩ : ∃ j, i = j + 1 := ⟨i - 1, by omega⟩
              obtain ⟨z, hz1, hzu, b', o', eb, hzc⟩ := HW.out.get (k := j) (by omega)
              cases eb
              have cz := X1.out.cell hzc
              have HRz := Lib.hid (fun w => HR.out z w hzu)
              have HZ := Lib.hid hz1
              have hj1 : (j : Int) < n := by omega
              have hj2 : ((j + 1 : Nat) : Int) - 1 = j := by omega
              have hj3 : RowKit.wrap64 (j : Int) = j := by simp only [RowKit.wrap64]; omega
              have hj4 : IntKind.i64.wrap (j : Int) = j := by simp only [IntKind.wrap_i64]; omega
              have hj5 : ((j : Int) + 1) - 1 = j := by omega
              clear hzc hzu hz1 HR hz
              by_cases ho : ordK k z < ordK k y
              · have ho1 := Lib.hid ho
                have ho3 : decide (ordK k y ≤ ordK k z) = false := decide_eq_false (by omega)
                clear ho
                generalize hoz : ordK k z = oz at *
                generalize hoy : ordK k y = oy at *
                have hoz2 := Lib.hid hoz
                have hoy2 := Lib.hid hoy
                clear hoz hoy
                go_wp2_with (first | (go_at_fn fk; with_reducible refine (HKy.out _).mono ?_; rintro e w' ⟨rfl, rfl⟩))
                go_region_held3 (fun w' => w'.cell? ⟨w.heap.size, 0, none⟩ = some (.iface T kE) ∧ w'.cell? ⟨b, o + j, none⟩ = some (.int .u64 z))
                  (repeat' (first | (with_reducible assumption) | (with_reducible refine And.intro ?_ ?_) | (with_reducible refine box_alloc ?_) | (with_reducible refine box_drew ?_)))
                  (first
                    | (go_at_fn fr; (with_reducible refine (HRz.out _).mono ?_); rintro e w' ⟨rfl, rfl⟩)
                    | (go_at_fn fr; (with_reducible refine (HRy.out _).mono ?_); rintro e w' ⟨rfl, rfl⟩))
                all_goals
                  go_wp2_with (fail)
                  go_roundg (n - (j + 1 + 1))
                  case measure => omega
                  case rel =>
                    refine ⟨j + 1 + 1, by first | rfl | (simp; done) | (congr 1; omega), by omega, by omega, Lib.hid ?_, Lib.hid ?_⟩
                    · repeat (first | exact S1.out | refine Ext.alloc ?_ _ | refine Ext.drew ?_ | refine Ext.drewN ?_ _)
                    · intro q z' hq hz'
                      by_cases e : q < j + 1
                      · exact J.out q z' e hz'
                      · obtain rfl : q = j + 1 := by omega
                        rw [HY.out] at hz'; cases hz'
                        refine ⟨⟨hme, hmay⟩, fun l z2 e2 hz2 => ?_⟩
                        obtain rfl : l = j := by omega
                        rw [HZ.out] at hz2; cases hz2
                        rw [hoz2.out, hoy2.out]; exact ho1.out
              · have hq : RowKit.Hid (D = false) := Lib.hid (HD.out.symm.trans <| decide_eq_false fun h => ho (h.2.2.lt HZ.out HY.out (by omega)))
                have ho3 : decide (ordK k y ≤ ordK k z) = true := decide_eq_true (by omega)
                clear ho
                generalize ordK k z = oz at *
                generalize ordK k y = oy at *
                go_wp2_with (first | (go_at_fn fk; with_reducible refine (HKy.out _).mono ?_; rintro e w' ⟨rfl, rfl⟩))
                go_region_held3 (fun w' => w'.cell? ⟨w.heap.size, 0, none⟩ = some (.iface T kE) ∧ w'.cell? ⟨b, o + j, none⟩ = some (.int .u64 z))
                  (repeat' (first | (with_reducible assumption) | (with_reducible refine And.intro ?_ ?_) | (with_reducible refine box_alloc ?_) | (with_reducible refine box_drew ?_)))
                  (first
                    | (go_at_fn fr; (with_reducible refine (HRz.out _).mono ?_); rintro e w' ⟨rfl, rfl⟩)
                    | (go_at_fn fr; (with_reducible refine (HRy.out _).mono ?_); rintro e w' ⟨rfl, rfl⟩))
                all_goals
                  go_wp2_with (fail)
                  go_ret
                  refine ⟨ret_bool hq.out.symm, ?_⟩
                  repeat (first | exact X1.out | refine Ext.alloc ?_ _ | refine Ext.drew ?_ | refine Ext.drewN ?_ _)
          · have hq : RowKit.Hid (D = false) := Lib.hid (HD.out.symm.trans <| decide_eq_false fun h => hme (h.2.1 y (List.mem_of_getElem? HY.out)).1)
            have hme2 : (meantK k y != y) = true := by simpa using hme
            clear hme HR HRy
            generalize meantK k y = my at *
            go_wp2_with (first | (go_at_fn fk; with_reducible refine (HKy.out _).mono ?_; rintro e w' ⟨rfl, rfl⟩))
            go_quiet (fail)
            go_wp2_with (fail)
            go_ret
            refine ⟨ret_bool hq.out.symm, ?_⟩
            repeat (first | exact X1.out | refine Ext.alloc ?_ _ | refine Ext.drew ?_ | refine Ext.drewN ?_ _)
        · have hq : RowKit.Hid (D = false) := Lib.hid (HD.out.symm.trans <| decide_eq_false fun h => hmay (h.2.1 y (List.mem_of_getElem? HY.out)).2)
          have hm2 : mayK k y = false := by simpa using hmay
          rw [hm2] at HKy
          clear hmay hm2 HR HRy
          generalize meantK k y = my at *
          go_wp2_with (first | (go_at_fn fk; with_reducible refine (HKy.out _).mono ?_; rintro e w' ⟨rfl, rfl⟩))
          go_quiet (fail)
          go_wp2_with (fail)
          go_ret
          refine ⟨ret_bool hq.out.symm, ?_⟩
          repeat (first | exact X1.out | refine Ext.alloc ?_ _ | refine Ext.drew ?_ | refine Ext.drewN ?_ _)
      · obtain rfl : i = n := by omega
        have hq : RowKit.Hid (D = true) := Lib.hid (HD.out.symm.trans <| decide_eq_true ⟨hA, good_of (by rw [HW.out.len]; exact J.out)⟩)
        have hlt2 : ¬ (i : Int) < i := by omega
        go_wp2_with (fail)
        go_ret
        refine ⟨ret_bool hq.out.symm, ?_⟩
        repeat (first | exact X1.out | refine Ext.alloc ?_ _ | refine Ext.drew ?_ | refine Ext.drewN ?_ _)
  · have hA' : m < (n : Int) := by omega
    have hq : D = false := HD.out.symm.trans (decide_eq_false (fun h => hA h.1))
    rw [hq]
    clear hA
    go_enter Tryz.func120, Tryz.ntmps120
    go_wp2_with (fail)
    go_ret
    exact ⟨rfl, X0.out⟩

end Go.Proofs.YtdipddnnckfnmaaGreat.Lan

/- LanIs:
  Whether a state is right, of each kind of object. Conditions: the state's words are words.
-/
namespace Go.Proofs.YtdipddnnckfnmaaGreat.Lan
open Go.RowKit (Below intOf)
open Go.Proofs.YtdipddnnckfnmaaGreat.Aut

theorem canon_q (x : Int) (w : World) (m : Nat) (h : U64 x) : Calls Tryz.prog 97 #[.int .u64 x] (w.drewN m) fun e w' => e = .returned (.int .u64 (canon x)) ∧ ∃ j, w' = w.drewN j :=
  (canon_any x (w.drewN m) h.1 h.2).mono fun _ _ h => ⟨h.1, m, h.2.symm⟩
/-- A box of a state, behind one more block. -/
theorem box_new (o : Obj) (r : Int) (a v t : Sl) (cl : Bool) (w : World) : Five ((w.alloc o).alloc (sb r a v t cl)) (w.heap.size + 1) r a v t cl ∧ Ext w ((w.alloc o).alloc (sb r a v t cl)) := by
  refine ⟨?_, (Ext.new w o).alloc _⟩
  have hs : (w.alloc o).heap.size = w.heap.size + 1 := by simp
  rw [← hs]; exact five_new (w.alloc o) r a v t cl
theorem fro_new (o : Obj) (r : Int) (a v t : Sl) (cl : Bool) (w : World) (i : Nat) : ((w.alloc o).alloc (sb r a v t cl)).frozen? ⟨w.heap.size + 1, i, none⟩ = false := by
  have hs : (w.alloc o).heap.size = w.heap.size + 1 := by simp
  rw [← hs]; unfold World.frozen?; rw [World.alloc_heap_new]; rfl

set_option maxHeartbeats 1000000 in
set_option maxRecDepth 100000 in
theorem reg_is (a v t : Sl) (s : St) (w : World) (hu : U64 s.reg) :
    Calls Tryz.prog 95 #[kE, sv s.reg a v t s.closed] w fun e w' => e = .returned (.bool (decide (canon s.reg = s.reg) && bareB 0 a v t s.closed)) ∧ Ext w w' := by
  obtain ⟨ka, kn, kc⟩ := a
  obtain ⟨va, vn, vc⟩ := v
  obtain ⟨ta, tn, tc⟩ := t
  obtain ⟨r, ks, vs, vt, cl⟩ := s
  dsimp only at *
  have HB := Lib.hid (fun W => bare_any 0 ⟨ka, kn, kc⟩ ⟨va, vn, vc⟩ ⟨ta, tn, tc⟩ cl W)
  have HC := Lib.hid (fun W m => canon_q r W m hu)
  dsimp only [sv, sb] at *
  by_cases hc : canon r = r
  · have hc2 : (r == canon r) = true := by simp [hc]
    rw [decide_eq_true hc, Bool.true_and]
    clear hc hu
    generalize canon r = cr at *
    go_enter Tryz.func95, Tryz.ntmps95
    go_wp2_with (fail)
    go_quiet (first | (go_at_call 97; exact HC.out _ _))
    go_wp2_with (first | (go_at_call 100; (with_reducible refine (HB.out _).mono ?_); rintro e w' ⟨rfl, rfl⟩))
    go_ret
    refine ⟨rfl, ?_⟩
    repeat (first | exact Ext.refl _ | refine Ext.alloc ?_ _ | refine Ext.drew ?_ | refine Ext.drewN ?_ _ | refine Ext.setCell ?_ (by simp) _)
  · have hc2 : (r == canon r) = false := by simpa using fun e => hc e.symm
    rw [decide_eq_false hc, Bool.false_and]
    clear hc hu
    generalize canon r = cr at *
    go_enter Tryz.func95, Tryz.ntmps95
    go_wp2_with (fail)
    go_quiet (first | (go_at_call 97; exact HC.out _ _))
    go_wp2_with (fail)
    go_ret
    refine ⟨rfl, ?_⟩
    repeat (first | exact Ext.refl _ | refine Ext.alloc ?_ _ | refine Ext.drew ?_ | refine Ext.drewN ?_ _ | refine Ext.setCell ?_ (by simp) _)

theorem set_five {w : World} {b i j : Nat} {x y : Value} (h : w.cell? ⟨b, j, none⟩ = some x) (hne : j ≠ i) : (w.setCell ⟨b, i, none⟩ y).cell? ⟨b, j, none⟩ = some x := by rw [set_far hne]; exact h
theorem set_same {w : World} {b i : Nat} {x y : Value} (h : w.cell? ⟨b, i, none⟩ = some x) : (w.setCell ⟨b, i, none⟩ y).cell? ⟨b, i, none⟩ = some y := World.cell?_setCell_same _ _ _ (by rw [h])

set_option maxHeartbeats 1000000 in
set_option maxRecDepth 100000 in
theorem set_is {k : Int} {T : TypeId} {fk fr fl : Nat} (I : KI k T fk fr fl) (m : Int) (a v t : Sl) (s : St) (w : World) (hS : SS w a v t s) :
    Calls Tryz.prog 111 #[kd T m, sv s.reg a v t s.closed] w fun e w' => e = .returned (.bool (decide ((a.n : Int) ≤ m ∧ Good k s.keys) && bareB s.reg nilSl v t s.closed)) ∧ Ext w w' := by
  obtain ⟨ka, kn, kc⟩ := a
  obtain ⟨va, vn, vc⟩ := v
  obtain ⟨ta, tn, tc⟩ := t
  obtain ⟨r, ks, vs, vt, cl⟩ := s
  obtain ⟨_, hK, _, _⟩ := hS
  dsimp only at *
  have HB := Lib.hid (fun W => bare_any r nilSl ⟨va, vn, vc⟩ ⟨ta, tn, tc⟩ cl W)
  obtain ⟨⟨g0, g1, g2, g3, g4⟩, hX⟩ := box_new (kbt 106 T m) r ⟨ka, kn, kc⟩ ⟨va, vn, vc⟩ ⟨ta, tn, tc⟩ cl w
  have gf := fro_new (kbt 106 T m) r ⟨ka, kn, kc⟩ ⟨va, vn, vc⟩ ⟨ta, tn, tc⟩ cl w 1
  have HA := Lib.hid (are_any I m ka kn kc ks _ (hK.ext hX))
  generalize decide ((kn : Int) ≤ m ∧ Good k ks) = D at *
  have X0 := Lib.hid hX
  clear hK hX I
  dsimp only [sv, sb, kd, kb, kbt] at *
  cases D
  all_goals
    go_enter Tryz.func111, Tryz.ntmps111
    go_wp2_with (first
      | (go_at_call 120; (with_reducible refine HA.out.mono ?_); rintro e w1 ⟨rfl, hE⟩; have f1 := (hE.frozen g1).trans gf; replace g0 := hE.cell g0; replace g1 := hE.cell g1; replace g2 := hE.cell g2; replace g3 := hE.cell g3; replace g4 := hE.cell g4; have X1 : RowKit.Hid (Ext w w1) := Lib.hid (X0.out.trans hE); clear hE HA X0 gf)
      | (go_at_call 100; (with_reducible refine (HB.out _).mono ?_); rintro e w' ⟨rfl, rfl⟩))
    go_ret
    refine ⟨by simp, ?_⟩
    repeat (first | exact X1.out | refine Ext.alloc ?_ _ | refine Ext.setCell ?_ (Nat.le_succ _) _)

set_option maxHeartbeats 1000000 in
set_option maxRecDepth 100000 in
theorem table_is {k : Int} {T : TypeId} {fk fr fl : Nat} (I : KI k T fk fr fl) (m : Int) (a v t : Sl) (s : St) (w : World) (hS : SS w a v t s) :
    Calls Tryz.prog 137 #[kd T m, sv s.reg a v t s.closed] w fun e w' => e = .returned (.bool ((decide ((a.n : Int) ≤ m ∧ Good k s.keys) && decide (v.n = a.n)) && bareB s.reg nilSl nilSl t s.closed)) ∧ Ext w w' := by
  obtain ⟨ka, kn, kc⟩ := a
  obtain ⟨va, vn, vc⟩ := v
  obtain ⟨ta, tn, tc⟩ := t
  obtain ⟨r, ks, vs, vt, cl⟩ := s
  obtain ⟨_, hK, _, _⟩ := hS
  dsimp only at *
  have HB := Lib.hid (fun W => bare_any r nilSl nilSl ⟨ta, tn, tc⟩ cl W)
  obtain ⟨⟨g0, g1, g2, g3, g4⟩, hX⟩ := box_new (kbt 107 T m) r ⟨ka, kn, kc⟩ ⟨va, vn, vc⟩ ⟨ta, tn, tc⟩ cl w
  have gf := fro_new (kbt 107 T m) r ⟨ka, kn, kc⟩ ⟨va, vn, vc⟩ ⟨ta, tn, tc⟩ cl w 1
  have gf2 := fro_new (kbt 107 T m) r ⟨ka, kn, kc⟩ ⟨va, vn, vc⟩ ⟨ta, tn, tc⟩ cl w 2
  have HA := Lib.hid (are_any I m ka kn kc ks _ (hK.ext hX))
  generalize decide ((kn : Int) ≤ m ∧ Good k ks) = D at *
  have X0 := Lib.hid hX
  clear hK hX I
  have hc : ((vn : Int) == (kn : Int)) = decide (vn = kn) := by by_cases h : vn = kn <;> simp [h]; omega
  generalize decide (vn = kn) = C at *
  dsimp only [sv, sb, kd, kb, kbt] at *
  cases C
  all_goals
    cases D
    all_goals
      go_enter Tryz.func137, Tryz.ntmps137
      go_wp2_with (first
        | (go_at_call 120; (with_reducible refine HA.out.mono ?_); rintro e w1 ⟨rfl, hE⟩; have f1 := (hE.frozen g1).trans gf; have f2 := (hE.frozen g2).trans gf2; replace g0 := hE.cell g0; replace g1 := hE.cell g1; replace g2 := hE.cell g2; replace g3 := hE.cell g3; replace g4 := hE.cell g4; have X1 : RowKit.Hid (Ext w w1) := Lib.hid (X0.out.trans hE); clear hE HA X0 gf gf2)
        | (go_at_call 100; (with_reducible refine (HB.out _).mono ?_); rintro e w' ⟨rfl, rfl⟩))
      go_ret
      refine ⟨by simp, ?_⟩
      repeat (first | exact X1.out | refine Ext.alloc ?_ _ | refine Ext.setCell ?_ (Nat.le_succ _) _)

/-- The votes ahead of a place are as they may be. -/
def VotesTo (vs : List Int) (i : Nat) : Bool := decide (∀ v ∈ vs.take i, 0 ≤ v ∧ v ≤ 8)
theorem votesTo_succ {vs : List Int} {i : Nat} {y : Int} (h : vs[i]? = some y) : VotesTo vs (i + 1) = (VotesTo vs i && decide (0 ≤ y ∧ y ≤ 8)) := by
  rw [Bool.eq_iff_iff]
  simp only [VotesTo, Bool.and_eq_true, decide_eq_true_iff, take_snoc h]
  constructor
  · exact fun q => ⟨fun v hv => q v (List.mem_append_left _ hv), q y (List.mem_append_right _ (List.mem_singleton.2 rfl))⟩
  · intro q v hv
    rcases List.mem_append.1 hv with hv | hv
    · exact q.1 v hv
    · rw [List.mem_singleton.1 hv]; exact q.2
abbrev bbx (m : Int) : Obj := .cells #[.int .i64 m] 110

set_option maxHeartbeats 2000000 in
set_option maxRecDepth 100000 in
theorem ballot_is (m : Int) (a v t : Sl) (s : St) (w : World) (hS : SS w a v t s) :
    Calls Tryz.prog 147 #[.agg #[.int .i64 m], sv s.reg a v t s.closed] w fun e w' => e = .returned (.bool ((decide ((t.n : Int) = m) && VotesTo s.votes t.n) && bareB s.reg a v nilSl false)) ∧ Ext w w' := by
  obtain ⟨ka, kn, kc⟩ := a
  obtain ⟨va, vn, vc⟩ := v
  obtain ⟨ta, n, tc⟩ := t
  obtain ⟨r, ks, vs, vt, cl⟩ := s
  obtain ⟨_, _, _, hT⟩ := hS
  dsimp only at *
  have hn := hT.le
  have HB := Lib.hid (fun W => bare_any r ⟨ka, kn, kc⟩ ⟨va, vn, vc⟩ nilSl false W)
  obtain ⟨⟨g0, g1, g2, g3, g4⟩, hX⟩ := box_new (bbx m) r ⟨ka, kn, kc⟩ ⟨va, vn, vc⟩ ⟨ta, n, tc⟩ cl w
  have gf := fro_new (bbx m) r ⟨ka, kn, kc⟩ ⟨va, vn, vc⟩ ⟨ta, n, tc⟩ cl w 3
  have gf2 := fro_new (bbx m) r ⟨ka, kn, kc⟩ ⟨va, vn, vc⟩ ⟨ta, n, tc⟩ cl w 4
  have gm : ((w.alloc (bbx m)).alloc (sb r ⟨ka, kn, kc⟩ ⟨va, vn, vc⟩ ⟨ta, n, tc⟩ cl)).cell? ⟨w.heap.size, 0, none⟩ = some (.int .i64 m) := box_alloc (by unfold World.cell?; rw [World.alloc_heap_new]; rfl)
  have X0 := Lib.hid hX
  have HT := Lib.hid (hT.ext hX)
  have hc : ((n : Int) == m) = decide ((n : Int) = m) := by by_cases h : (n : Int) = m <;> simp [h]
  have v0 : VotesTo vt 0 = true := by simp [VotesTo]
  generalize decide ((n : Int) = m) = D at *
  have VS : RowKit.Hid (∀ i y, vt[i]? = some y → VotesTo vt (i + 1) = (VotesTo vt i && decide (0 ≤ y ∧ y ≤ 8))) := Lib.hid fun i y h => votesTo_succ h
  generalize VotesTo vt = V at *
  clear hT hX
  dsimp only [sv, sb, bbx] at *
  go_enter Tryz.func147, Tryz.ntmps147
  go_wp2_with (fail)
  go_loopg [5, 17] n (fun kx s5 s17 wr => wr = ((w.alloc (.cells #[.int .i64 m] 110)).alloc (.cells #[.int .u64 r, .slice ka kn kc, .slice va vn vc, .slice ta n tc, .bool cl] 30)) ∧ ∃ i : Nat, s17 = .int .i64 i ∧ i ≤ n ∧ n - i ≤ kx ∧ s5 = .bool (D && V i))
  case atStart => exact ⟨rfl, 0, rfl, Nat.zero_le _, by omega, by rw [v0, Bool.and_true]⟩
  case round =>
    obtain ⟨rfl, i, rfl, hi, hg, rfl⟩ := hrel
    by_cases hlt : i < n
    · have hlt2 : (i : Int) < n := by omega
      obtain ⟨y, hy, hyu, b, o, rfl, hyc⟩ := HT.out.get hlt
      have hv := Lib.hid (VS.out i y hy)
      clear hy VS
      generalize hq : (D && V i) = Q at *
      have HQ := Lib.hid hq
      clear hq
      cases Q
      · go_wp2_with (fail)
        go_roundg (n - (i + 1))
        case measure => omega
        case rel => exact ⟨rfl, i + 1, by first | rfl | (congr 1; omega), by omega, by omega, by rw [hv.out, ← Bool.and_assoc, HQ.out]; rfl⟩
      · by_cases y0 : 0 ≤ y
        · have y0' : decide (y ≥ 0) = true := decide_eq_true y0
          by_cases y8 : y ≤ 8
          · go_wp2_with (fail)
            go_roundg (n - (i + 1))
            case measure => omega
            case rel => exact ⟨rfl, i + 1, by first | rfl | (congr 1; omega), by omega, by omega, by rw [hv.out, ← Bool.and_assoc, HQ.out]; simp [y0, y8]⟩
          · go_wp2_with (fail)
            go_roundg (n - (i + 1))
            case measure => omega
            case rel => exact ⟨rfl, i + 1, by first | rfl | (congr 1; omega), by omega, by omega, by rw [hv.out, ← Bool.and_assoc, HQ.out]; simp [y0, y8]⟩
        · go_wp2_with (fail)
          go_roundg (n - (i + 1))
          case measure => omega
          case rel => exact ⟨rfl, i + 1, by first | rfl | (congr 1; omega), by omega, by omega, by rw [hv.out, ← Bool.and_assoc, HQ.out]; simp; omega⟩
    · obtain rfl : i = n := by omega
      have hlt2 : ¬ (i : Int) < i := by omega
      generalize hq : (D && V i) = Q at *
      have HQ := Lib.hid hq
      clear HT VS hq
      cases Q
      all_goals
        go_wp2_with (first
          | (go_at_call 100; (with_reducible refine (HB.out _).mono ?_); rintro e w' ⟨rfl, rfl⟩))
        go_ret
        refine ⟨by rw [HQ.out]; simp, ?_⟩
        repeat (first | exact X0.out | exact Ext.refl _ | refine Ext.alloc ?_ _ | refine Ext.setCell ?_ (Nat.le_succ _) _)

end Go.Proofs.YtdipddnnckfnmaaGreat.Lan

/- LanObj:
  Objects as values of an interface: which one there is of a configuration, and Right. Conditions: the state's words are words.
-/
namespace Go.Proofs.YtdipddnnckfnmaaGreat.Lan
open Go.RowKit (Below intOf)
open Go.Proofs.YtdipddnnckfnmaaGreat.Aut
open Go.Proofs.YtdipddnnckfnmaaGreat.Reg (cf bx fits_any)

def oT (k : Int) : TypeId := if k = 1 then 99 else if k = 2 then 106 else if k = 3 ∨ k = 4 then 107 else 110
def oV (k m : Int) : Value := if k = 1 then kE else if k = 2 ∨ k = 3 ∨ k = 4 then kd (kT k) m else .agg #[.int .i64 m]

set_option maxHeartbeats 1000000 in
set_option maxRecDepth 100000 in
theorem object_any (k p m : Int) (w : World) : Calls Tryz.prog 36 #[cf k p m] w fun e w' => e = .returned (.iface (oT k) (oV k m)) ∧ w' = w.alloc (bx k p m) := by
  have hs : ∀ x : Int, k ≠ x → (k == x) = false := fun x h => by simpa using h
  by_cases h1 : k = 1
  · subst h1
    go_enter Tryz.func36, Tryz.ntmps36
    go_wp2_with (fail)
    go_ret
    exact ⟨rfl, rfl⟩
  by_cases h2 : k = 2
  · subst h2
    go_enter Tryz.func36, Tryz.ntmps36
    go_wp2_with (fail)
    go_ret
    exact ⟨rfl, rfl⟩
  by_cases h3 : k = 3
  · subst h3
    go_enter Tryz.func36, Tryz.ntmps36
    go_wp2_with (fail)
    go_ret
    exact ⟨rfl, rfl⟩
  by_cases h4 : k = 4
  · subst h4
    go_enter Tryz.func36, Tryz.ntmps36
    go_wp2_with (fail)
    go_ret
    exact ⟨rfl, rfl⟩
  have b1 := hs 1 h1
  have b2 := hs 2 h2
  have b3 := hs 3 h3
  have b4 := hs 4 h4
  have e1 : oT k = 110 := by unfold oT; rw [if_neg h1, if_neg h2, if_neg (by omega)]
  have e2 : oV k m = .agg #[.int .i64 m] := by unfold oV; rw [if_neg h1, if_neg (by omega)]
  rw [e1, e2]
  clear e1 e2 h1 h2 h3 h4 hs
  go_enter Tryz.func36, Tryz.ntmps36
  go_wp2_with (fail)
  go_ret
  exact ⟨rfl, rfl⟩

theorem ss_lens {w : World} {a v t : Sl} {s : St} (h : SS w a v t s) : s.keys.length = a.n ∧ s.vals.length = v.n ∧ s.votes.length = t.n := ⟨h.2.1.len, h.2.2.1.len, h.2.2.2.len⟩
theorem bare_iff {w : World} {a v t : Sl} {s : St} (h : SS w a v t s) (r : Int) (cl : Bool) :
    (bareB r a v t cl = true ↔ r = 0 ∧ s.keys = [] ∧ s.vals = [] ∧ s.votes = [] ∧ cl = false) ∧ (bareB r nilSl v t cl = true ↔ r = 0 ∧ s.vals = [] ∧ s.votes = [] ∧ cl = false) ∧ (bareB r nilSl nilSl t cl = true ↔ r = 0 ∧ s.votes = [] ∧ cl = false) ∧
      (bareB r a v nilSl cl = true ↔ r = 0 ∧ s.keys = [] ∧ s.vals = [] ∧ cl = false) := by
  obtain ⟨h1, h2, h3⟩ := ss_lens h
  simp only [bareB, Bool.and_eq_true, decide_eq_true_iff, Bool.not_eq_true', ← h1, ← h2, ← h3, List.length_eq_zero_iff, true_and, and_self]

theorem right_1 {p m : Int} {w : World} {a v t : Sl} {s : St} (hf : fits 1 p m = true) (h : SS w a v t s) : (decide (canon s.reg = s.reg) && bareB 0 a v t s.closed) = rightS 1 p m s := by
  rw [Bool.eq_iff_iff, right_iff, Bool.and_eq_true, (bare_iff h 0 s.closed).1, decide_eq_true_iff]
  unfold ElseOk keyed
  simp [hf]
  constructor
  · rintro ⟨h1, h2, h3, h4, h5⟩; exact ⟨⟨⟨h2, h3⟩, h4, h5⟩, h1⟩
  · rintro ⟨⟨⟨h2, h3⟩, h4, h5⟩, h1⟩; exact ⟨h1, h2, h3, h4, h5⟩
theorem right_2 {p m : Int} {w : World} {a v t : Sl} {s : St} (hf : fits 2 p m = true) (h : SS w a v t s) : (decide ((a.n : Int) ≤ m ∧ Good 2 s.keys) && bareB s.reg nilSl v t s.closed) = rightS 2 p m s := by
  rw [Bool.eq_iff_iff, right_iff, Bool.and_eq_true, (bare_iff h s.reg s.closed).2.1, decide_eq_true_iff, ← (ss_lens h).1]
  unfold ElseOk keyed KeysOk valued Good
  simp [hf]
  constructor
  · rintro ⟨⟨h1, h2, h3⟩, h4, h5, h6, h7⟩; exact ⟨⟨h4, h6, h7⟩, h1, h5, h2, h3⟩
  · rintro ⟨⟨h4, h6, h7⟩, h1, h5, h2, h3⟩; exact ⟨⟨h1, h2, h3⟩, h4, h5, h6, h7⟩
theorem right_34 {k p m : Int} {w : World} {a v t : Sl} {s : St} (hk : k = 3 ∨ k = 4) (hf : fits k p m = true) (h : SS w a v t s) : ((decide ((a.n : Int) ≤ m ∧ Good k s.keys) && decide (v.n = a.n)) && bareB s.reg nilSl nilSl t s.closed) = rightS k p m s := by
  obtain ⟨l1, l2, l3⟩ := ss_lens h
  rw [Bool.eq_iff_iff, right_iff, Bool.and_eq_true, Bool.and_eq_true, (bare_iff h s.reg s.closed).2.2.1, decide_eq_true_iff, decide_eq_true_iff, ← l1, ← l2]
  have k1 : k ≠ 1 := by omega
  have k5 : k ≠ 5 := by omega
  have kk : keyed k = true := by unfold keyed; exact decide_eq_true (by omega)
  have kv : valued k = true := by unfold valued; exact decide_eq_true hk
  unfold ElseOk KeysOk Good
  simp [hf, k1, k5, kk, kv]
  constructor
  · rintro ⟨⟨⟨h1, h2, h3⟩, h4⟩, h5, h6, h7⟩; exact ⟨⟨h5, h6, h7⟩, h1, h4, h2, h3⟩
  · rintro ⟨⟨h5, h6, h7⟩, h1, h4, h2, h3⟩; exact ⟨⟨⟨h1, h2, h3⟩, h4⟩, h5, h6, h7⟩
theorem right_5 {p m : Int} {w : World} {a v t : Sl} {s : St} (hf : fits 5 p m = true) (h : SS w a v t s) : ((decide ((t.n : Int) = m) && VotesTo s.votes t.n) && bareB s.reg a v nilSl false) = rightS 5 p m s := by
  obtain ⟨l1, l2, l3⟩ := ss_lens h
  rw [Bool.eq_iff_iff, right_iff, Bool.and_eq_true, Bool.and_eq_true, (bare_iff h s.reg false).2.2.2, decide_eq_true_iff, ← l3]
  unfold ElseOk keyed VotesOk VotesTo
  rw [List.take_length, decide_eq_true_iff]
  simp [hf]
  constructor
  · rintro ⟨⟨h1, h2⟩, h3, h4, h5⟩; exact ⟨⟨h3, h4, h5⟩, h1, h2⟩
  · rintro ⟨⟨h3, h4, h5⟩, h1, h2⟩; exact ⟨⟨h1, h2⟩, h3, h4, h5⟩

/-- How an object is asked whether a state is right. -/
def IsI (k p m : Int) (T : TypeId) (V : Value) (f : Nat) (V' : Value) : Prop :=
  (∀ w, Sem.run Tryz.prog (method 267 T V "whitewash/auto.isRight") w = .ok (f, V') w) ∧ (∀ a w, Sem.run Tryz.prog (callFunc f #[V', a]) w = .ok (.enter f #[V', a]) w) ∧
    ∀ a v t s w, SS w a v t s → Calls Tryz.prog f #[V', sv s.reg a v t s.closed] w fun e w' => e = .returned (.bool (rightS k p m s)) ∧ Ext w w'
theorem kinds {k p m : Int} (h : fits k p m = true) : k = 1 ∨ k = 2 ∨ k = 3 ∨ k = 4 ∨ k = 5 := by have := fits_of h; omega
theorem is_obj {k p m : Int} (hf : fits k p m = true) : ∃ f V', IsI k p m (oT k) (oV k m) f V' := by
  rcases kinds hf with rfl | rfl | rfl | rfl | rfl
  · exact ⟨95, kE, fun w => by kernel_rfl, fun a w => by kernel_rfl, fun a v t s w hS => (reg_is a v t s w hS.1).mono fun e w' h => ⟨by rw [h.1, right_1 hf hS], h.2⟩⟩
  · obtain ⟨fk, fr, fl, I⟩ := keys_is 2
    exact ⟨111, kd (kT 2) m, fun w => by kernel_rfl, fun a w => by kernel_rfl, fun a v t s w hS => (set_is I m a v t s w hS).mono fun e w' h => ⟨by rw [h.1, right_2 hf hS], h.2⟩⟩
  · obtain ⟨fk, fr, fl, I⟩ := keys_is 3
    exact ⟨137, kd (kT 3) m, fun w => by kernel_rfl, fun a w => by kernel_rfl, fun a v t s w hS => (table_is I m a v t s w hS).mono fun e w' h => ⟨by rw [h.1, right_34 (.inl rfl) hf hS], h.2⟩⟩
  · obtain ⟨fk, fr, fl, I⟩ := keys_is 4
    exact ⟨137, kd (kT 4) m, fun w => by kernel_rfl, fun a w => by kernel_rfl, fun a v t s w hS => (table_is I m a v t s w hS).mono fun e w' h => ⟨by rw [h.1, right_34 (.inr rfl) hf hS], h.2⟩⟩
  · exact ⟨147, .agg #[.int .i64 m], fun w => by kernel_rfl, fun a w => by kernel_rfl, fun a v t s w hS => (ballot_is m a v t s w hS).mono fun e w' h => ⟨by rw [h.1, right_5 hf hS], h.2⟩⟩

set_option maxHeartbeats 1000000 in
set_option maxRecDepth 100000 in
theorem right_any (k p m : Int) (a v t : Sl) (s : St) (w : World) (hS : SS w a v t s) : Calls Tryz.prog 18 #[cf k p m, sv s.reg a v t s.closed] w fun e w' => e = .returned (.bool (rightS k p m s)) ∧ Ext w w' := by
  obtain ⟨HT, HF, HX⟩ := both_new w k p m s.reg a v t s.closed
  have HFi := Lib.hid (fun W => fits_any k p m W)
  have X0 := Lib.hid HX
  obtain ⟨t0, t1, t2⟩ := HT
  obtain ⟨f0, f1, f2, f3, f4⟩ := HF
  by_cases hf : fits k p m = true
  · obtain ⟨f, V', m1, m2, m3⟩ := is_obj hf
    have HO := Lib.hid (fun W => object_any k p m W)
    have HC : RowKit.Hid (∀ W, Ext w W → Calls Tryz.prog f #[V', sv s.reg a v t s.closed] W fun e w' => e = .returned (.bool (rightS k p m s)) ∧ Ext W w') := Lib.hid fun W hE => m3 a v t s W (hS.ext hE)
    have hf' : Reg.fits k p m = true := hf
    rw [hf'] at HFi
    generalize rightS k p m s = R at *
    generalize oT k = OT at *
    generalize oV k m = OV at *
    obtain ⟨r, ks, vs, vt, cl⟩ := s
    obtain ⟨ka, kn, kc⟩ := a
    obtain ⟨va, vn, vc⟩ := v
    obtain ⟨ta, tn, tc⟩ := t
    clear hS HX m3 hf hf'
    dsimp only [sv, sb, cf, bx] at *
    go_enter Tryz.func18, Tryz.ntmps18
    go_wp2_with (fail)
    go_region_held3 (fun w' => (w'.cell? ⟨w.heap.size, 0, none⟩ = some (.int .i64 k) ∧ w'.cell? ⟨w.heap.size, 1, none⟩ = some (.int .i64 p) ∧ w'.cell? ⟨w.heap.size, 2, none⟩ = some (.int .i64 m)) ∧ w'.cell? ⟨w.heap.size + 1, 0, none⟩ = some (.int .u64 r) ∧ w'.cell? ⟨w.heap.size + 1, 1, none⟩ = some (.slice ka kn kc) ∧ w'.cell? ⟨w.heap.size + 1, 2, none⟩ = some (.slice va vn vc) ∧ w'.cell? ⟨w.heap.size + 1, 3, none⟩ = some (.slice ta tn tc) ∧ w'.cell? ⟨w.heap.size + 1, 4, none⟩ = some (.bool cl))
      (repeat' (first | (with_reducible assumption) | (with_reducible refine And.intro ?_ ?_) | (with_reducible refine box_alloc ?_) | (with_reducible refine box_drew ?_) | (with_reducible refine Ext.cell ‹_› ?_)))
      (first
        | (go_at_call 35; (with_reducible refine (HFi.out _).mono ?_); rintro e w' ⟨rfl, rfl⟩)
        | (go_at_call 36; (with_reducible refine (HO.out _).mono ?_); rintro e w' ⟨rfl, rfl⟩)
        | (go_at_fn f; (with_reducible refine (HC.out _ (by repeat (first | exact X0.out | refine Ext.alloc ?_ _ | refine Ext.drew ?_))).mono ?_); rintro e w' ⟨rfl, hE⟩))
    have hE2 : Ext w w' := Ext.trans (by repeat (first | exact X0.out | refine Ext.alloc ?_ _ | refine Ext.drew ?_)) hE
    replace hE2 := Lib.hid hE2
    clear hE
    go_wp2_with (fail)
    go_ret
    exact ⟨rfl, hE2.out⟩
  · have hr : rightS k p m s = false := by
      cases h : rightS k p m s with
      | false => rfl
      | true => exact absurd (right_fits h) hf
    have hf' : Reg.fits k p m = false := Bool.eq_false_iff.2 hf
    rw [hf'] at HFi
    rw [hr]
    have k08 := And.intro (And.intro t0 (And.intro t1 t2)) (And.intro f0 (And.intro f1 (And.intro f2 (And.intro f3 f4))))
    obtain ⟨r, ks, vs, vt, cl⟩ := s
    obtain ⟨ka, kn, kc⟩ := a
    obtain ⟨va, vn, vc⟩ := v
    obtain ⟨ta, tn, tc⟩ := t
    clear hS HX hf hf' hr
    dsimp only [sv, sb, cf, bx] at *
    go_enter Tryz.func18, Tryz.ntmps18
    go_wp2_with (fail)
    refine wp_region_held_drew (S := fun w' => (w'.cell? ⟨w.heap.size, 0, none⟩ = some (.int .i64 k) ∧ w'.cell? ⟨w.heap.size, 1, none⟩ = some (.int .i64 p) ∧ w'.cell? ⟨w.heap.size, 2, none⟩ = some (.int .i64 m)) ∧ w'.cell? ⟨w.heap.size + 1, 0, none⟩ = some (.int .u64 r) ∧ w'.cell? ⟨w.heap.size + 1, 1, none⟩ = some (.slice ka kn kc) ∧ w'.cell? ⟨w.heap.size + 1, 2, none⟩ = some (.slice va vn vc) ∧ w'.cell? ⟨w.heap.size + 1, 3, none⟩ = some (.slice ta tn tc) ∧ w'.cell? ⟨w.heap.size + 1, 4, none⟩ = some (.bool cl)) (by kernel_rfl) k08 (fun hHeld => ?_)
    refine wpAnyH_take (i := 0) (v := .agg #[.int .i64 k, .int .i64 p, .int .i64 m]) rfl (by kernel_rfl) (by kernel_rfl) (by kernel_rfl) (fun _ _ _ h => h) (Or.inl ⟨by rfl, ?_⟩) (by assumption) ?_
    · rintro w ⟨⟨h1, h2, h3⟩, h4, h5, h6, h7, h8⟩
      go_simp
    refine wpAnyH_ready (rs := [1]) (by kernel_rfl) (by simp) ?_
    refine AllReadyH.cons rfl (fun K hK => ?_) AllReadyH.nil
    go_simp
    refine (HFi.out _).mono ?_
    rintro e w' ⟨rfl, rfl⟩
    refine hK.out _ _ (by repeat' (first | (with_reducible assumption) | (with_reducible refine And.intro ?_ ?_) | (with_reducible refine box_alloc ?_) | (with_reducible refine box_drew ?_))) (fun hHeld => ?_)
    clear hK K
    refine wpAnyH_take (i := 2) (v := .bool false) rfl (by kernel_rfl) (by kernel_rfl) (by kernel_rfl) (fun _ _ _ h => h) (Or.inl ⟨by rfl, ?_⟩) (by assumption) ?_
    · rintro w ⟨⟨h1, h2, h3⟩, h4, h5, h6, h7, h8⟩
      go_simp
    refine wpAnyH_take (i := 3) (v := undef) rfl (by kernel_rfl) (by kernel_rfl) (by kernel_rfl) (fun _ _ _ h => h) (Or.inr ⟨by rfl, rfl⟩) (by assumption) ?_
    refine wpAnyH_take (i := 4) (v := undef) rfl (by kernel_rfl) (by kernel_rfl) (by kernel_rfl) (fun _ _ _ h => h) (Or.inr ⟨by rfl, rfl⟩) (by assumption) ?_
    refine wpAnyH_take (i := 5) (v := undef) rfl (by kernel_rfl) (by kernel_rfl) (by kernel_rfl) (fun _ _ _ h => h) (Or.inr ⟨by rfl, rfl⟩) (by assumption) ?_
    refine wpAnyH_take (i := 6) (v := undef) rfl (by kernel_rfl) (by kernel_rfl) (by kernel_rfl) (fun _ _ _ h => h) (Or.inr ⟨by rfl, rfl⟩) (by assumption) ?_
    refine wpAnyH_take (i := 7) (v := .bool false) rfl (by kernel_rfl) (by kernel_rfl) (by kernel_rfl) (fun _ _ _ h => h) (Or.inl ⟨by rfl, ?_⟩) (by assumption) ?_
    · rintro w ⟨⟨h1, h2, h3⟩, h4, h5, h6, h7, h8⟩
      go_simp
    refine wpAnyH_take (i := 8) (v := .bool false) rfl (by kernel_rfl) (by kernel_rfl) (by kernel_rfl) (fun _ _ _ h => h) (Or.inl ⟨by rfl, ?_⟩) (by assumption) ?_
    · rintro w ⟨⟨h1, h2, h3⟩, h4, h5, h6, h7, h8⟩
      go_simp
    refine wpAnyH_done (by kernel_rfl) ?_ _
    go_wp2_with (fail)
    go_ret
    exact ⟨rfl, by repeat (first | exact X0.out | refine Ext.alloc ?_ _ | refine Ext.drew ?_)⟩

end Go.Proofs.YtdipddnnckfnmaaGreat.Lan

/- LanNew:
  New, Reads, and why nothing is done to a state. Conditions: the state's words are words.
-/
namespace Go.Proofs.YtdipddnnckfnmaaGreat.Lan
open Go.RowKit (Below intOf)
open Go.Proofs.YtdipddnnckfnmaaGreat.Aut
open Go.Proofs.YtdipddnnckfnmaaGreat.Reg (cf bx fits_any)

/-- A state that lies apart from all that was. -/
def NE (s : St) (w : World) (e : Ending) (w' : World) : Prop := Ext w w' ∧ ∃ k v t, e = .returned (sv s.reg k v t s.closed) ∧ SS w' k v t s ∧ ∀ B, B < w.heap.size → OffS k v t B
theorem offS_nil (B : Nat) : OffS nilSl nilSl nilSl B := ⟨fun h => absurd h (Nat.lt_irrefl 0), fun h => absurd h (Nat.lt_irrefl 0), fun h => absurd h (Nat.lt_irrefl 0)⟩
theorem ne_zero {w w' : World} (h : Ext w w') : NE zeroS w (.returned (sv 0 nilSl nilSl nilSl false)) w' := ⟨h, nilSl, nilSl, nilSl, rfl, ss_zero _, fun B _ => offS_nil B⟩
/-- A state's box, whatever stands in it, that may be written. -/
structure Bx (w : World) (B : Nat) : Prop where
  c : ∃ r k v t cl, Five w B r k v t cl
  f : ∀ i, w.frozen? ⟨B, i, none⟩ = false
theorem Bx.ext {w w' : World} {B : Nat} (h : Bx w B) (e : Ext w w') : Bx w' B := by
  obtain ⟨r, k, v, t, cl, h5⟩ := h.c
  exact ⟨⟨r, k, v, t, cl, h5.ext e⟩, fun i => by
    have hb := World.block_lt_of_cell? w _ h5.1
    exact (Below.frozen (p := ⟨B, i, none⟩) e hb).trans (h.f i)⟩
theorem bx_new (o : Obj) (r : Int) (a v t : Sl) (cl : Bool) (w : World) : Bx ((w.alloc o).alloc (sb r a v t cl)) (w.heap.size + 1) := ⟨⟨_, _, _, _, _, (box_new o r a v t cl w).1⟩, fun i => fro_new o r a v t cl w i⟩
theorem SS.put5 {w : World} {k v t : Sl} {s : St} (h : SS w k v t s) {B : Nat} (hb : OffS k v t B) (r : Int) (k2 v2 t2 : Sl) (cl : Bool) : SS (put5 w B r k2 v2 t2 cl) k v t s :=
  ((((h.set hb _ _).set hb _ _).set hb _ _).set hb _ _).set hb _ _

set_option maxHeartbeats 1000000 in
set_option maxRecDepth 100000 in
theorem rfirst_any (w : World) : Calls Tryz.prog 94 #[kE] w (NE zeroS w) := by
  go_enter Tryz.func94, Tryz.ntmps94
  go_wp2_with (fail)
  refine bodyPost_ret (v := sv 0 nilSl nilSl nilSl false) (by simp [results, Tryz.results94, go_sem]) rfl ?_
  exact ne_zero (by repeat (first | exact Ext.refl _ | refine Ext.alloc ?_ _ | refine Ext.setCell ?_ (by simp) _))
set_option maxHeartbeats 1000000 in
set_option maxRecDepth 100000 in
theorem kfirst_any (T : TypeId) (m : Int) (w : World) : Calls Tryz.prog 107 #[kd T m] w (NE zeroS w) := by
  go_enter Tryz.func107, Tryz.ntmps107
  go_wp2_with (fail)
  refine bodyPost_ret (v := sv 0 nilSl nilSl nilSl false) (by simp [results, Tryz.results107, go_sem]) rfl ?_
  exact ne_zero (by repeat (first | exact Ext.refl _ | refine Ext.alloc ?_ _ | refine Ext.setCell ?_ (by simp) _))
set_option maxHeartbeats 1000000 in
set_option maxRecDepth 100000 in
theorem bfirst_any (n : Nat) (hn : n ≤ 256) (w : World) : Calls Tryz.prog 146 #[.agg #[.int .i64 (n : Int)]] w (NE ⟨0, [], [], List.replicate n 0, false⟩ w) := by
  have hmk := fun W => make_ints n (by omega) W
  go_enter Tryz.func146, Tryz.ntmps146
  go_wp2_with (fail)
  refine bodyPost_ret (v := sv 0 nilSl nilSl ⟨some ⟨w.heap.size + 1 + 1, 0, none⟩, n, n⟩ false) (by simp [results, Tryz.results146, go_sem]) rfl ?_
  refine ⟨by repeat (first | exact Ext.refl _ | refine Ext.alloc ?_ _ | refine Ext.setCell ?_ (by simp) _), nilSl, nilSl, _, rfl, ⟨by unfold U64; simp, WS.empty _ _ _ (by decide), WS.empty _ _ _ (by decide), ?_⟩, fun B hB => ⟨(offS_nil B).1, (offS_nil B).2.1, fun _ g o e => by cases e; omega⟩⟩
  have h := made_ns n (by omega) ((w.alloc (.cells #[.int .i64 (n : Int)] 110)).alloc (.cells #[.int .u64 0, .slice none 0 0, .slice none 0 0, .slice (some ⟨w.heap.size + 1 + 1, 0, none⟩) n n, .bool false] 30))
  simpa only [World.size_alloc] using h

/-- How an object's first state is asked for. -/
def FiI (k p m : Int) (T : TypeId) (V : Value) (f : Nat) (V' : Value) : Prop :=
  (∀ w, Sem.run Tryz.prog (method 267 T V "whitewash/auto.first") w = .ok (f, V') w) ∧ (∀ w, Sem.run Tryz.prog (callFunc f #[V']) w = .ok (.enter f #[V']) w) ∧ ∀ w, Calls Tryz.prog f #[V'] w (NE (newS k p m).1 w)
theorem new_is {k p m : Int} (hf : fits k p m = true) (h5 : k ≠ 5) : newS k p m = (zeroS, 0) := by unfold newS; rw [if_pos hf, if_neg h5]; rfl
theorem fi_obj {k p m : Int} (hf : fits k p m = true) : ∃ f V', FiI k p m (oT k) (oV k m) f V' := by
  rcases kinds hf with rfl | rfl | rfl | rfl | rfl
  · exact ⟨94, kE, fun w => by kernel_rfl, fun w => by kernel_rfl, fun w => by rw [new_is hf (by decide)]; exact rfirst_any w⟩
  · exact ⟨107, kd (kT 2) m, fun w => by kernel_rfl, fun w => by kernel_rfl, fun w => by rw [new_is hf (by decide)]; exact kfirst_any _ m w⟩
  · exact ⟨107, kd (kT 3) m, fun w => by kernel_rfl, fun w => by kernel_rfl, fun w => by rw [new_is hf (by decide)]; exact kfirst_any _ m w⟩
  · exact ⟨107, kd (kT 4) m, fun w => by kernel_rfl, fun w => by kernel_rfl, fun w => by rw [new_is hf (by decide)]; exact kfirst_any _ m w⟩
  · refine ⟨146, .agg #[.int .i64 m], fun w => by kernel_rfl, fun w => by kernel_rfl, fun w => ?_⟩
    have hb := fits_of hf
    obtain ⟨n, rfl⟩ : ∃ n : Nat, m = n := ⟨m.toNat, by omega⟩
    have hN : newS 5 p n = (⟨0, [], [], List.replicate n 0, false⟩, 0) := by unfold newS; rw [if_pos hf]; simp
    rw [hN]
    exact bfirst_any n (by omega) w

set_option maxHeartbeats 1000000 in
set_option maxRecDepth 100000 in
theorem new_any (k p m : Int) (w : World) : Calls Tryz.prog 13 #[cf k p m] w (SE (newS k p m).1 w (fun v => .tuple #[v, .int .i64 (newS k p m).2])) := by
  have hF := Lib.hid (fun w => fits_any k p m w)
  have hB := bx_new (bx k p m) 0 nilSl nilSl nilSl false w
  have X0 := Lib.hid (box_new (bx k p m) 0 nilSl nilSl nilSl false w).2
  by_cases hf : fits k p m = true
  · obtain ⟨f, V', m1, m2, m3⟩ := fi_obj hf
    have hf' : Reg.fits k p m = true := hf
    rw [hf'] at hF
    have hN : (newS k p m).2 = 0 := by unfold newS; rw [if_pos hf]
    rw [hN]
    have HO := Lib.hid (fun W => object_any k p m W)
    have M3 := Lib.hid m3
    generalize (newS k p m).1 = s at *
    generalize oT k = OT at *
    generalize oV k m = OV at *
    have HB := Lib.hid hB
    clear hB hf hf' hN m3
    dsimp only [cf, bx, sb] at *
    go_enter Tryz.func13, Tryz.ntmps13
    go_wp2_with (first
      | (go_at_call 35; (with_reducible refine (hF.out _).mono ?_); rintro e w' ⟨rfl, rfl⟩)
      | (go_at_call 36; (with_reducible refine (HO.out _).mono ?_); rintro e w' ⟨rfl, rfl⟩)
      | (go_at_fn f; (with_reducible refine (M3.out _).mono ?_); rintro e w1 ⟨hE, a, v, t, rfl, hS, hO⟩; obtain ⟨⟨r9, k9, v9, t9, cl9, g0, g1, g2, g3, g4⟩, z⟩ := (HB.out.ext (by repeat (first | exact Ext.refl _ | refine Ext.alloc ?_ _ | refine Ext.drew ?_))).ext hE; have z0 := z 0; have z1 := z 1; have z2 := z 2; have z3 := z 3; have z4 := z 4; have X1 : RowKit.Hid (Ext w w1) := Lib.hid (Ext.trans (by repeat (first | exact X0.out | refine Ext.alloc ?_ _ | refine Ext.drew ?_)) hE); have HS := Lib.hid hS; have HO2 := Lib.hid (hO (w.heap.size + 1) (by simp)); clear hE hS hO z HB; obtain ⟨ka, kn, kc⟩ := a; obtain ⟨va, vn, vc⟩ := v; obtain ⟨ta, tn, tc⟩ := t; dsimp only [sv] at *))
    refine bodyPost_ret (v := .tuple #[sv s.reg ⟨ka, kn, kc⟩ ⟨va, vn, vc⟩ ⟨ta, tn, tc⟩ s.closed, .int .i64 0]) (by simp [results, Tryz.results13, go_sem, g0, g1, g2, g3, g4]) rfl ?_
    refine ⟨?_, ⟨ka, kn, kc⟩, ⟨va, vn, vc⟩, ⟨ta, tn, tc⟩, rfl, ?_⟩
    · repeat (first | (with_reducible exact X1.out) | (with_reducible refine Ext.setCell ?_ (Nat.le_succ _) _))
    · repeat (first | (with_reducible exact HS.out) | (with_reducible refine SS.set ?_ HO2.out _ _))
  · have hf' : Reg.fits k p m = false := Bool.eq_false_iff.2 hf
    rw [hf'] at hF
    have hN : RowKit.Hid (newS k p m = (zeroS, 5)) := Lib.hid (by unfold newS; rw [if_neg hf])
    clear hf hf' hB
    dsimp only [cf, bx, sb] at *
    go_enter Tryz.func13, Tryz.ntmps13
    go_wp2_with (first
      | (go_at_call 35; (with_reducible refine (hF.out _).mono ?_); rintro e w' ⟨rfl, rfl⟩))
    refine bodyPost_ret (v := .tuple #[sv 0 nilSl nilSl nilSl false, .int .i64 5]) (by simp [results, Tryz.results13, go_sem]) rfl ?_
    rw [hN.out]
    exact ⟨by repeat (first | exact X0.out | refine Ext.alloc ?_ _ | refine Ext.setCell ?_ (by simp) _), nilSl, nilSl, nilSl, rfl, ss_zero _⟩

set_option maxHeartbeats 1000000 in
theorem reads_is (c : Int) (w : World) : Calls Tryz.prog 27 #[.int .i64 c] w fun e w' => e = .returned (.bool (readsS c)) ∧ w = w' := by
  have hs : ∀ x : Int, ¬ c = x → (c == x) = false := fun x h => by simpa using h
  unfold readsS
  by_cases h1 : c = 1
  · subst h1; go_enter Tryz.func27, Tryz.ntmps27; go_wp2; go_ret; exact ⟨rfl, rfl⟩
  by_cases h2 : c = 5
  · subst h2; go_enter Tryz.func27, Tryz.ntmps27; go_wp2; go_ret; exact ⟨rfl, rfl⟩
  by_cases h3 : c = 8
  · subst h3; go_enter Tryz.func27, Tryz.ntmps27; go_wp2; go_ret; exact ⟨rfl, rfl⟩
  by_cases h4 : c = 9
  · subst h4; go_enter Tryz.func27, Tryz.ntmps27; go_wp2; go_ret; exact ⟨rfl, rfl⟩
  by_cases h5 : c = 10
  · subst h5; go_enter Tryz.func27, Tryz.ntmps27; go_wp2; go_ret; exact ⟨rfl, rfl⟩
  by_cases h6 : c = 14
  · subst h6; go_enter Tryz.func27, Tryz.ntmps27; go_wp2; go_ret; exact ⟨rfl, rfl⟩
  by_cases h7 : c = 15
  · subst h7; go_enter Tryz.func27, Tryz.ntmps27; go_wp2; go_ret; exact ⟨rfl, rfl⟩
  by_cases h8 : c = 16
  · subst h8; go_enter Tryz.func27, Tryz.ntmps27; go_wp2; go_ret; exact ⟨rfl, rfl⟩
  have hr : decide (c = 1 ∨ c = 5 ∨ c = 8 ∨ c = 9 ∨ c = 10 ∨ c = 14 ∨ c = 15 ∨ c = 16) = false := decide_eq_false (by omega)
  rw [hr]
  have b1 := hs 1 h1
  have b2 := hs 5 h2
  have b3 := hs 8 h3
  have b4 := hs 9 h4
  have b5 := hs 10 h5
  have b6 := hs 14 h6
  have b7 := hs 15 h7
  have b8 := hs 16 h8
  clear h1 h2 h3 h4 h5 h6 h7 h8 hr hs
  go_enter Tryz.func27, Tryz.ntmps27
  go_wp2
  go_ret
  exact ⟨rfl, rfl⟩

def refusedS (k p m : Int) (s : St) : Int := if fits k p m then (if rightS k p m s then 0 else 1) else 5
set_option maxHeartbeats 1000000 in
set_option maxRecDepth 100000 in
theorem refused_any (k p m : Int) (a v t : Sl) (s : St) (w : World) (hS : SS w a v t s) : Calls Tryz.prog 38 #[cf k p m, sv s.reg a v t s.closed] w fun e w' => e = .returned (.int .i64 (refusedS k p m s)) ∧ Ext w w' := by
  obtain ⟨HT, HF, HX⟩ := both_new w k p m s.reg a v t s.closed
  have HFi := Lib.hid (fun W => fits_any k p m W)
  have X0 := Lib.hid HX
  obtain ⟨t0, t1, t2⟩ := HT
  obtain ⟨f0, f1, f2, f3, f4⟩ := HF
  have HC : RowKit.Hid (∀ W, Ext w W → Calls Tryz.prog 18 #[cf k p m, sv s.reg a v t s.closed] W fun e w' => e = .returned (.bool (rightS k p m s)) ∧ Ext W w') := Lib.hid fun W hE => right_any k p m a v t s W (hS.ext hE)
  unfold refusedS
  generalize rightS k p m s = R at *
  have hff : Reg.fits k p m = fits k p m := rfl
  rw [hff] at HFi
  generalize fits k p m = F at *
  obtain ⟨r, ks, vs, vt, cl⟩ := s
  obtain ⟨ka, kn, kc⟩ := a
  obtain ⟨va, vn, vc⟩ := v
  obtain ⟨ta, tn, tc⟩ := t
  clear hS HX hff
  dsimp only [sv, sb, cf, bx] at *
  cases F
  · go_enter Tryz.func38, Tryz.ntmps38
    go_wp2_with (first
      | (go_at_call 35; (with_reducible refine (HFi.out _).mono ?_); rintro e w' ⟨rfl, rfl⟩))
    go_ret
    exact ⟨rfl, by repeat (first | exact X0.out | refine Ext.alloc ?_ _)⟩
  · cases R
    all_goals
      go_enter Tryz.func38, Tryz.ntmps38
      go_wp2_with (first
        | (go_at_call 35; (with_reducible refine (HFi.out _).mono ?_); rintro e w' ⟨rfl, rfl⟩)
        | (go_at_call 18; (with_reducible refine (HC.out _ (by repeat (first | exact X0.out | refine Ext.alloc ?_ _))).mono ?_); rintro e w1 ⟨rfl, hE⟩; have X1 : RowKit.Hid (Ext w w1) := Lib.hid (Ext.trans (by repeat (first | exact X0.out | refine Ext.alloc ?_ _)) hE); clear hE))
      go_ret
      exact ⟨rfl, X1.out⟩

end Go.Proofs.YtdipddnnckfnmaaGreat.Lan

