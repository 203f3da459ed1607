/-
  Parts of a proof, one behind the other: LanLeaf, LanFind, LanKey, LanLook, LanRight, LanIs, LanObj. Each says its own conditions.
-/
import Derived.Test.YtmonkcekkhfafaaGreatDoorM01
import Derived.Test.YtmonkcekkhfafaaGreatDoorM10
import Derived.Handy
import Derived.Shelf.Abstract
import Derived.Deep.LoopGhost

/- LanLeaf:
  The small functions of package auto, and what keys are: refuse, bit, isBare, and the methods of numbers and floats. Conditions: words are words.
-/
namespace Go.Proofs.YtmonkcekkhfafaaGreatDoor.Lan
open Go.RowKit (Below intOf)
open Go.Proofs.YtmonkcekkhfafaaGreatDoor.Aut

/-- The panic of a refusal. -/
def noE (x : Int) : List PanicEntry := [{ v := .iface 34 (.int .i64 x), recovered := false }]


/-- What keys are, of a kind of object. -/
def kT (k : Int) : TypeId := if k = 4 then 149 else 141
abbrev kE : Value := .agg #[]
/-- How the methods of keys are called, and what they tell. -/
structure KI (k : Int) (T : TypeId) (fk fr fl : Nat) : Prop where
  km : ∀ w, Sem.run Tryz.prog (method 312 T kE "whitewash/auto.key") w = .ok (fk, kE) w
  rm : ∀ w, Sem.run Tryz.prog (method 312 T kE "whitewash/auto.rank") w = .ok (fr, kE) w
  ek : ∀ a w, Sem.run Tryz.prog (callFunc fk #[kE, a]) w = .ok (.enter fk #[kE, a]) w
  er : ∀ a w, Sem.run Tryz.prog (callFunc fr #[kE, a]) w = .ok (.enter fr #[kE, a]) w
  ck : ∀ x w, U64 x → Calls Tryz.prog fk #[kE, .int .u64 x] w fun e w' => e = .returned (.tuple #[.int .u64 (meantK k x), .bool (mayK k x)]) ∧ w' = w.alloc (.cells #[] T)
  cr : ∀ x w, U64 x → Calls Tryz.prog fr #[kE, .int .u64 x] w fun e w' => e = .returned (.int .u64 (ordK k x)) ∧ w' = w.alloc (.cells #[] T)

theorem nkey_any (x : Int) (w : World) : Calls Tryz.prog 194 #[kE, .int .u64 x] w fun e w' => e = .returned (.tuple #[.int .u64 x, .bool (decide (x ≤ 4611686018427387904))]) ∧ w' = w.alloc (.cells #[] 141) := by
  by_cases h1 : x ≤ 4611686018427387904
  · go_enter Tryz.func194, Tryz.ntmps194
    go_wp2
    go_ret2
    simp [h1]
  · go_enter Tryz.func194, Tryz.ntmps194
    go_wp2
    go_ret2
    simp [h1]
theorem nrank_any (x : Int) (w : World) : Calls Tryz.prog 195 #[kE, .int .u64 x] w fun e w' => e = .returned (.int .u64 x) ∧ w' = w.alloc (.cells #[] 141) := by
  go_enter Tryz.func195, Tryz.ntmps195
  go_wp2
  go_ret
  exact ⟨rfl, rfl⟩
theorem fkey_any (x : Int) (w : World) (h : U64 x) : Calls Tryz.prog 185 #[kE, .int .u64 x] w fun e w' => e = .returned (.tuple #[.int .u64 (canon x), .bool true]) ∧ w' = w.alloc (.cells #[] 149) := by
  have H0 := Lib.hid h.1
  have H1 := Lib.hid h.2
  clear h
  go_enter Tryz.func185, Tryz.ntmps185
  go_wp2_with (first | (go_at_call 53; with_reducible refine (canon_any _ _ H0.out H1.out).mono ?_; rintro e w' ⟨rfl, rfl⟩))
  go_ret2
  exact ⟨rfl, rfl⟩
theorem frank_any (x : Int) (w : World) (h : U64 x) : Calls Tryz.prog 187 #[kE, .int .u64 x] w fun e w' => e = .returned (.int .u64 (rank x)) ∧ w' = w.alloc (.cells #[] 149) := by
  have H0 := Lib.hid h.1
  have H1 := Lib.hid h.2
  clear h
  go_enter Tryz.func187, Tryz.ntmps187
  go_wp2_with (first | (go_at_call 25; with_reducible refine (rank_any _ _ H0.out H1.out).mono ?_; rintro e w' ⟨rfl, rfl⟩))
  go_ret
  exact ⟨rfl, rfl⟩
theorem keys_is (k : Int) : ∃ fk fr fl, KI k (kT k) fk fr fl := by
  by_cases h : k = 4
  · refine ⟨185, 187, 186, ?_⟩
    simp only [kT, if_pos h]
    exact { km := fun w => by kernel_rfl, rm := fun w => by kernel_rfl, ek := fun a w => by kernel_rfl, er := fun a w => by kernel_rfl,
            ck := fun x w hx => by simp only [meantK, mayK, if_pos h]; exact fkey_any x w hx, cr := fun x w hx => by simp only [ordK, if_pos h]; exact frank_any x w hx }
  · refine ⟨194, 195, 173, ?_⟩
    simp only [kT, if_neg h]
    exact { km := fun w => by kernel_rfl, rm := fun w => by kernel_rfl, ek := fun a w => by kernel_rfl, er := fun a w => by kernel_rfl,
            ck := fun x w hx => by simp only [meantK, mayK, if_neg h]; exact nkey_any x w, cr := fun x w hx => by simp only [ordK, if_neg h]; exact nrank_any x w }

/-- An object with keys, as it is handed to its methods. -/
abbrev kd (T : TypeId) (m : Int) : Value := .agg #[.iface T kE, .int .i64 m]
abbrev kb (T : TypeId) (m : Int) : Obj := .cells #[.iface T kE, .int .i64 m] 145


end Go.Proofs.YtmonkcekkhfafaaGreatDoor.Lan

/- LanFind:
  Where a key is: cmp.Compare, the closure that compares keys, slices.BinarySearchFunc, and find. Conditions: the keys rise, and are written as themselves.
-/
namespace Go.Proofs.YtmonkcekkhfafaaGreatDoor.Lan
open Go.RowKit (Below intOf)
open Go.Proofs.YtmonkcekkhfafaaGreatDoor.Aut

/-- Which of two comes first. -/
def cmpI (x y : Int) : Int := if x < y then -1 else if y < x then 1 else 0
theorem box_alloc {w : World} {b o : Nat} {v : Value} {x : Obj} (h : w.cell? ⟨b, o, none⟩ = some v) : (w.alloc x).cell? ⟨b, o, none⟩ = some v := (Ext.new w x).cell h
theorem box_drew {w : World} {b o : Nat} {v : Value} (h : w.cell? ⟨b, o, none⟩ = some v) : w.drew.cell? ⟨b, o, none⟩ = some v := h


/-- Whether a key is where it would be. -/
def hitK (k : Int) (xs : List Int) (x : Int) : Bool := match xs[posK k xs x]? with
  | some y => decide (ordK k y = ordK k x)
  | none => false
end Go.Proofs.YtmonkcekkhfafaaGreatDoor.Lan

/- LanKey:
  find, place, next and look of what has keys: the calls that change nothing. Conditions: the keys rise, and are written as themselves; the state lies where it is said to.
-/
namespace Go.Proofs.YtmonkcekkhfafaaGreatDoor.Lan
open Go.RowKit (Below intOf)
open Go.Proofs.YtmonkcekkhfafaaGreatDoor.Aut


theorem kb_new (T : TypeId) (m : Int) (w : World) : (w.alloc (kb T m)).cell? ⟨w.heap.size, 0, none⟩ = some (.iface T kE) ∧ (w.alloc (kb T m)).cell? ⟨w.heap.size, 1, none⟩ = some (.int .i64 m) := by
  constructor <;> (unfold World.cell?; rw [World.alloc_heap_new]; rfl)



/-- A call, as it is handed to a method. -/
abbrev ov (o k v : Int) : Value := .agg #[.int .i64 o, .int .u64 k, .int .u64 v]
abbrev ob (o k v : Int) : Obj := .cells #[.int .i64 o, .int .u64 k, .int .u64 v] 67
/-- What a call tells: a word, or a refusal. -/
def TE (r : Rs) (e : Ending) : Prop := (r.1 = 0 ∧ e = .returned (.int .u64 r.2)) ∨ (r.1 ≠ 0 ∧ r.2 = 0 ∧ e = .panicked (noE r.1))
end Go.Proofs.YtmonkcekkhfafaaGreatDoor.Lan

/- LanLook:
  look, and the calls that change nothing of a set and of a table. Conditions: the keys rise, and are written as themselves; the state lies where it is said to.
-/
namespace Go.Proofs.YtmonkcekkhfafaaGreatDoor.Lan
open Go.RowKit (Below intOf)
open Go.Proofs.YtmonkcekkhfafaaGreatDoor.Aut

/-- What look tells. -/
def lookS (k : Int) (s : St) (c : Cl) : Rs :=
  if c.code = 8 then (if mayK k c.key = true then (nextS s (if hitK k s.keys (meantK k c.key) = true ∧ c.val ≠ 0 then posK k s.keys (meantK k c.key) + 1 else posK k s.keys (meantK k c.key))).2 else (10, 0))
  else if c.code = 9 then (0, (s.keys.length : Int)) else (10, 0)

abbrev kbt (ty T : TypeId) (m : Int) : Obj := .cells #[.iface T kE, .int .i64 m] ty
/-- What is asked of an object with keys, and of the state that is handed to it. -/
structure Ky (k : Int) (T : TypeId) (fk fr fl : Nat) (B : Nat) (sl : Option Addr) (n c : Nat) (s : St) (x : Int) (w : World) : Prop where
  I : KI k T fk fr fl
  W : WS w sl n c s.keys
  x : U64 x
  r : RisingK k s.keys
  b : w.cell? ⟨B, 1, none⟩ = some (.slice sl n c)
theorem Ky.ext {k : Int} {T : TypeId} {fk fr fl B : Nat} {sl : Option Addr} {n c : Nat} {s : St} {x : Int} {w w' : World} (h : Ky k T fk fr fl B sl n c s x w) (e : Ext w w') : Ky k T fk fr fl B sl n c s x w' := ⟨h.I, h.W.ext e, h.x, h.r, e.cell h.b⟩





end Go.Proofs.YtmonkcekkhfafaaGreatDoor.Lan

/- LanRight:
  isBare, and whether keys may stand in a state. Conditions: the slices' words are words.
-/
namespace Go.Proofs.YtmonkcekkhfafaaGreatDoor.Lan
open Go.RowKit (Below intOf)
open Go.Proofs.YtmonkcekkhfafaaGreatDoor.Aut

def bareB (r : Int) (a v t : Sl) (cl : Bool) : Bool := decide (r = 0) && (decide (a.n = 0) && (decide (v.n = 0) && (decide (t.n = 0) && !cl)))
set_option maxHeartbeats 1000000 in
set_option maxRecDepth 100000 in
theorem bare_any (r : Int) (a v t : Sl) (cl : Bool) (w : World) : Calls Tryz.prog 172 #[sv r a v t cl] w fun e w' => e = .returned (.bool (bareB r a v t cl)) ∧ w' = w.alloc (sb r a v t cl) := by
  obtain ⟨ka, kn, kc⟩ := a
  obtain ⟨va, vn, vc⟩ := v
  obtain ⟨ta, tn, tc⟩ := t
  dsimp only [sv, sb] at *
  generalize hR : bareB r ⟨ka, kn, kc⟩ ⟨va, vn, vc⟩ ⟨ta, tn, tc⟩ cl = R
  have HR := Lib.hid hR
  clear hR
  by_cases h1 : r = 0
  · have b1 : (r == 0) = true := by simpa using h1
    by_cases h2 : kn = 0
    · have b2 : ((kn : Int) == 0) = true := by simp [h2]
      by_cases h3 : vn = 0
      · have b3 : ((vn : Int) == 0) = true := by simp [h3]
        by_cases h4 : tn = 0
        · have b4 : ((tn : Int) == 0) = true := by simp [h4]
          have hq : R = !cl := by rw [← HR.out]; simp [bareB, h1, h2, h3, h4]
          subst hq
          clear h1 h2 h3 h4 HR
          go_enter Tryz.func172, Tryz.ntmps172
          go_wp2_with (fail)
          go_ret
          exact ⟨rfl, rfl⟩
        · have b4 : ((tn : Int) == 0) = false := by simp; omega
          have hq : R = false := by rw [← HR.out]; simp [bareB, h4]
          subst hq
          clear h1 h2 h3 h4 HR
          go_enter Tryz.func172, Tryz.ntmps172
          go_wp2_with (fail)
          go_ret
          exact ⟨rfl, rfl⟩
      · have b3 : ((vn : Int) == 0) = false := by simp; omega
        have hq : R = false := by rw [← HR.out]; simp [bareB, h3]
        subst hq
        clear h1 h2 h3 HR
        go_enter Tryz.func172, Tryz.ntmps172
        go_wp2_with (fail)
        go_ret
        exact ⟨rfl, rfl⟩
    · have b2 : ((kn : Int) == 0) = false := by simp; omega
      have hq : R = false := by rw [← HR.out]; simp [bareB, h2]
      subst hq
      clear h1 h2 HR
      go_enter Tryz.func172, Tryz.ntmps172
      go_wp2_with (fail)
      go_ret
      exact ⟨rfl, rfl⟩
  · have b1 : (r == 0) = false := by simpa using h1
    have hq : R = false := by rw [← HR.out]; simp [bareB, h1]
    subst hq
    clear h1 HR
    go_enter Tryz.func172, Tryz.ntmps172
    go_wp2_with (fail)
    go_ret
    exact ⟨rfl, rfl⟩

/-- The keys ahead of a place are as they may be. -/
def OkTo (k : Int) (xs : List Int) (i : Nat) : Prop := ∀ (j : Nat) y, j < i → xs[j]? = some y → (meantK k y = y ∧ mayK k y = true) ∧ ∀ (l : Nat) z, j = l + 1 → xs[l]? = some z → ordK k z < ordK k y
def Good (k : Int) (xs : List Int) : Prop := (∀ x ∈ xs, meantK k x = x ∧ mayK k x = true) ∧ RisingK k xs
instance (k : Int) (xs : List Int) : Decidable (Good k xs) := by unfold Good; infer_instance
theorem good_of {k : Int} {xs : List Int} (h : OkTo k xs xs.length) : Good k xs := by
  refine ⟨fun x hx => ?_, ?_⟩
  · obtain ⟨j, hj⟩ := List.mem_iff_getElem?.1 hx
    exact (h j x (List.getElem?_eq_some_iff.1 hj).1 hj).1
  · have step : ∀ (d i : Nat) x y, xs[i]? = some x → xs[i + d + 1]? = some y → ordK k x < ordK k y := by
      intro d
      induction d with
      | zero => intro i x y hx hy; exact (h (i + 1) y (List.getElem?_eq_some_iff.1 hy).1 hy).2 i x rfl hx
      | succ d ih =>
        intro i x y hx hy
        have hl := (List.getElem?_eq_some_iff.1 hy).1
        have hz : xs[i + d + 1]? = some (xs[i + d + 1]'(by omega)) := List.getElem?_eq_getElem (by omega)
        exact Int.lt_trans (ih i x _ hx hz) ((h _ y hl hy).2 _ _ (by omega) hz)
    refine rising_iff.2 fun i j x y hij hx hy => ?_
    obtain ⟨d, rfl⟩ : ∃ d, j = i + d + 1 := ⟨j - i - 1, by omega⟩
    exact step d i x y hx hy
set_option maxHeartbeats 4000000 in
set_option maxRecDepth 100000 in
theorem are_any {k : Int} {T : TypeId} {fk fr fl : Nat} (I : KI k T fk fr fl) (m : Int) (sl : Option Addr) (n c : Nat) (xs : List Int) (w : World) (hW : WS w sl n c xs) :
    Calls Tryz.prog 180 #[kd T m, .slice sl n c] w fun e w' => e = .returned (.bool (decide ((n : Int) ≤ m ∧ Good k xs))) ∧ Ext w w' := by
  obtain ⟨k0, k1⟩ := kb_new T m w
  have hn := hW.le
  have X0 := Lib.hid (Ext.new w (kb T m))
  have h1 := I.km
  have h2 := I.ek
  have h3 := I.rm
  have h4 := I.er
  have HK : RowKit.Hid (∀ x w, U64 x → _) := Lib.hid I.ck
  have HR : RowKit.Hid (∀ x w, U64 x → _) := Lib.hid I.cr
  have HW := Lib.hid hW
  clear I hW
  dsimp only [kd, kb] at *
  generalize hD : decide ((n : Int) ≤ m ∧ Good k xs) = D
  have HD := Lib.hid hD
  clear hD
  by_cases hA : (n : Int) ≤ m
  · have hA' : ¬ m < (n : Int) := by omega
    go_enter Tryz.func180, Tryz.ntmps180
    go_wp2_with (fail)
    go_loopg [16] n (fun kx s16 wr => ∃ i : Nat, s16 = .int .i64 i ∧ i ≤ n ∧ n - i ≤ kx ∧ RowKit.Hid (Ext (w.alloc (.cells #[.iface T kE, .int .i64 m] 145)) wr) ∧ RowKit.Hid (OkTo k xs i))
    case atStart => exact ⟨0, rfl, Nat.zero_le _, by omega, Lib.hid (Ext.refl _), Lib.hid fun j y hj => absurd hj (Nat.not_lt_zero _)⟩
    case round =>
      obtain ⟨i, rfl, hi, hg, S1, J⟩ := hrel
      have c0 := S1.out.cell k0
      have c1 := S1.out.cell k1
      have X1 : RowKit.Hid (Ext w _) := Lib.hid (X0.out.trans S1.out)
      clear k0 k1 X0
      by_cases hlt : i < n
      · have hlt2 : (i : Int) < n := by omega
        obtain ⟨y, hy, hyu, b, o, rfl, hyc⟩ := HW.out.get hlt
        have cm := X1.out.cell hyc
        have HKy := Lib.hid (fun w => HK.out y w hyu)
        have HRy := Lib.hid (fun w => HR.out y w hyu)
        have HY := Lib.hid hy
        clear hyc hyu hy HK
        by_cases hmay : mayK k y = true
        · rw [hmay] at HKy
          by_cases hme : meantK k y = y
          · rw [hme] at HKy
            have hme2 : (y != y) = false := by simp
            rcases Nat.eq_zero_or_pos i with hz | hz
            · subst hz
              clear HR HRy
              simp only [Nat.add_zero] at cm
              go_wp2_with (first | (go_at_fn fk; with_reducible refine (HKy.out _).mono ?_; rintro e w' ⟨rfl, rfl⟩))
              go_quiet (fail)
              go_wp2_with (fail)
              go_roundg (n - 1)
              case measure => omega
              case rel =>
                refine ⟨1, rfl, by omega, by omega, Lib.hid ?_, Lib.hid ?_⟩
                · repeat (first | exact S1.out | refine Ext.alloc ?_ _ | refine Ext.drew ?_ | refine Ext.drewN ?_ _)
                · intro j z hj hz
                  obtain rfl : j = 0 := by omega
                  rw [HY.out] at hz; cases hz
                  exact ⟨⟨hme, hmay⟩, fun l z e => by omega⟩
            · obtain ⟨j, rfl⟩ : ∃ j, i = j + 1 := ⟨i - 1, by omega⟩
              obtain ⟨z, hz1, hzu, b', o', eb, hzc⟩ := HW.out.get (k := j) (by omega)
              cases eb
              have cz := X1.out.cell hzc
              have HRz := Lib.hid (fun w => HR.out z w hzu)
              have HZ := Lib.hid hz1
              have hj1 : (j : Int) < n := by omega
              have hj2 : ((j + 1 : Nat) : Int) - 1 = j := by omega
              have hj3 : RowKit.wrap64 (j : Int) = j := by simp only [RowKit.wrap64]; omega
              have hj4 : IntKind.i64.wrap (j : Int) = j := by simp only [IntKind.wrap_i64]; omega
              have hj5 : ((j : Int) + 1) - 1 = j := by omega
              clear hzc hzu hz1 HR hz
              by_cases ho : ordK k z < ordK k y
              · have ho1 := Lib.hid ho
                have ho3 : decide (ordK k y ≤ ordK k z) = false := decide_eq_false (by omega)
                clear ho
                generalize hoz : ordK k z = oz at *
                generalize hoy : ordK k y = oy at *
                have hoz2 := Lib.hid hoz
                have hoy2 := Lib.hid hoy
                clear hoz hoy
                go_wp2_with (first | (go_at_fn fk; with_reducible refine (HKy.out _).mono ?_; rintro e w' ⟨rfl, rfl⟩))
                go_region_held3 (fun w' => w'.cell? ⟨w.heap.size, 0, none⟩ = some (.iface T kE) ∧ w'.cell? ⟨b, o + j, none⟩ = some (.int .u64 z))
                  (repeat' (first | (with_reducible assumption) | (with_reducible refine And.intro ?_ ?_) | (with_reducible refine box_alloc ?_) | (with_reducible refine box_drew ?_)))
                  (first
                    | (go_at_fn fr; (with_reducible refine (HRz.out _).mono ?_); rintro e w' ⟨rfl, rfl⟩)
                    | (go_at_fn fr; (with_reducible refine (HRy.out _).mono ?_); rintro e w' ⟨rfl, rfl⟩))
                all_goals
                  go_wp2_with (fail)
                  go_roundg (n - (j + 1 + 1))
                  case measure => omega
                  case rel =>
                    refine ⟨j + 1 + 1, by first | rfl | (simp; done) | (congr 1; omega), by omega, by omega, Lib.hid ?_, Lib.hid ?_⟩
                    · repeat (first | exact S1.out | refine Ext.alloc ?_ _ | refine Ext.drew ?_ | refine Ext.drewN ?_ _)
                    · intro q z' hq hz'
                      by_cases e : q < j + 1
                      · exact J.out q z' e hz'
                      · obtain rfl : q = j + 1 := by omega
                        rw [HY.out] at hz'; cases hz'
                        refine ⟨⟨hme, hmay⟩, fun l z2 e2 hz2 => ?_⟩
                        obtain rfl : l = j := by omega
                        rw [HZ.out] at hz2; cases hz2
                        rw [hoz2.out, hoy2.out]; exact ho1.out
              · have hq : RowKit.Hid (D = false) := Lib.hid (HD.out.symm.trans <| decide_eq_false fun h => ho (h.2.2.lt HZ.out HY.out (by omega)))
                have ho3 : decide (ordK k y ≤ ordK k z) = true := decide_eq_true (by omega)
                clear ho
                generalize ordK k z = oz at *
                generalize ordK k y = oy at *
                go_wp2_with (first | (go_at_fn fk; with_reducible refine (HKy.out _).mono ?_; rintro e w' ⟨rfl, rfl⟩))
                go_region_held3 (fun w' => w'.cell? ⟨w.heap.size, 0, none⟩ = some (.iface T kE) ∧ w'.cell? ⟨b, o + j, none⟩ = some (.int .u64 z))
                  (repeat' (first | (with_reducible assumption) | (with_reducible refine And.intro ?_ ?_) | (with_reducible refine box_alloc ?_) | (with_reducible refine box_drew ?_)))
                  (first
                    | (go_at_fn fr; (with_reducible refine (HRz.out _).mono ?_); rintro e w' ⟨rfl, rfl⟩)
                    | (go_at_fn fr; (with_reducible refine (HRy.out _).mono ?_); rintro e w' ⟨rfl, rfl⟩))
                all_goals
                  go_wp2_with (fail)
                  go_ret
                  refine ⟨ret_bool hq.out.symm, ?_⟩
                  repeat (first | exact X1.out | refine Ext.alloc ?_ _ | refine Ext.drew ?_ | refine Ext.drewN ?_ _)
          · have hq : RowKit.Hid (D = false) := Lib.hid (HD.out.symm.trans <| decide_eq_false fun h => hme (h.2.1 y (List.mem_of_getElem? HY.out)).1)
            have hme2 : (meantK k y != y) = true := by simpa using hme
            clear hme HR HRy
            generalize meantK k y = my at *
            go_wp2_with (first | (go_at_fn fk; with_reducible refine (HKy.out _).mono ?_; rintro e w' ⟨rfl, rfl⟩))
            go_quiet (fail)
            go_wp2_with (fail)
            go_ret
            refine ⟨ret_bool hq.out.symm, ?_⟩
            repeat (first | exact X1.out | refine Ext.alloc ?_ _ | refine Ext.drew ?_ | refine Ext.drewN ?_ _)
        · have hq : RowKit.Hid (D = false) := Lib.hid (HD.out.symm.trans <| decide_eq_false fun h => hmay (h.2.1 y (List.mem_of_getElem? HY.out)).2)
          have hm2 : mayK k y = false := by simpa using hmay
          rw [hm2] at HKy
          clear hmay hm2 HR HRy
          generalize meantK k y = my at *
          go_wp2_with (first | (go_at_fn fk; with_reducible refine (HKy.out _).mono ?_; rintro e w' ⟨rfl, rfl⟩))
          go_quiet (fail)
          go_wp2_with (fail)
          go_ret
          refine ⟨ret_bool hq.out.symm, ?_⟩
          repeat (first | exact X1.out | refine Ext.alloc ?_ _ | refine Ext.drew ?_ | refine Ext.drewN ?_ _)
      · obtain rfl : i = n := by omega
        have hq : RowKit.Hid (D = true) := Lib.hid (HD.out.symm.trans <| decide_eq_true ⟨hA, good_of (by rw [HW.out.len]; exact J.out)⟩)
        have hlt2 : ¬ (i : Int) < i := by omega
        go_wp2_with (fail)
        go_ret
        refine ⟨ret_bool hq.out.symm, ?_⟩
        repeat (first | exact X1.out | refine Ext.alloc ?_ _ | refine Ext.drew ?_ | refine Ext.drewN ?_ _)
  · have hA' : m < (n : Int) := by omega
    have hq : D = false := HD.out.symm.trans (decide_eq_false (fun h => hA h.1))
    rw [hq]
    clear hA
    go_enter Tryz.func180, Tryz.ntmps180
    go_wp2_with (fail)
    go_ret
    exact ⟨rfl, X0.out⟩

end Go.Proofs.YtmonkcekkhfafaaGreatDoor.Lan

/- LanIs:
  Whether a state is right, of each kind of object. Conditions: the state's words are words.
-/
namespace Go.Proofs.YtmonkcekkhfafaaGreatDoor.Lan
open Go.RowKit (Below intOf)
open Go.Proofs.YtmonkcekkhfafaaGreatDoor.Aut

theorem canon_q (x : Int) (w : World) (m : Nat) (h : U64 x) : Calls Tryz.prog 53 #[.int .u64 x] (w.drewN m) fun e w' => e = .returned (.int .u64 (canon x)) ∧ ∃ j, w' = w.drewN j :=
  (canon_any x (w.drewN m) h.1 h.2).mono fun _ _ h => ⟨h.1, m, h.2.symm⟩
/-- A box of a state, behind one more block. -/
theorem box_new (o : Obj) (r : Int) (a v t : Sl) (cl : Bool) (w : World) : Five ((w.alloc o).alloc (sb r a v t cl)) (w.heap.size + 1) r a v t cl ∧ Ext w ((w.alloc o).alloc (sb r a v t cl)) := by
  refine ⟨?_, (Ext.new w o).alloc _⟩
  have hs : (w.alloc o).heap.size = w.heap.size + 1 := by simp
  rw [← hs]; exact five_new (w.alloc o) r a v t cl
theorem fro_new (o : Obj) (r : Int) (a v t : Sl) (cl : Bool) (w : World) (i : Nat) : ((w.alloc o).alloc (sb r a v t cl)).frozen? ⟨w.heap.size + 1, i, none⟩ = false := by
  have hs : (w.alloc o).heap.size = w.heap.size + 1 := by simp
  rw [← hs]; unfold World.frozen?; rw [World.alloc_heap_new]; rfl

set_option maxHeartbeats 1000000 in
set_option maxRecDepth 100000 in
theorem reg_is (a v t : Sl) (s : St) (w : World) (hu : U64 s.reg) :
    Calls Tryz.prog 170 #[kE, sv s.reg a v t s.closed] w fun e w' => e = .returned (.bool (decide (canon s.reg = s.reg) && bareB 0 a v t s.closed)) ∧ Ext w w' := by
  obtain ⟨ka, kn, kc⟩ := a
  obtain ⟨va, vn, vc⟩ := v
  obtain ⟨ta, tn, tc⟩ := t
  obtain ⟨r, ks, vs, vt, cl⟩ := s
  dsimp only at *
  have HB := Lib.hid (fun W => bare_any 0 ⟨ka, kn, kc⟩ ⟨va, vn, vc⟩ ⟨ta, tn, tc⟩ cl W)
  have HC := Lib.hid (fun W m => canon_q r W m hu)
  dsimp only [sv, sb] at *
  by_cases hc : canon r = r
  · have hc2 : (r == canon r) = true := by simp [hc]
    rw [decide_eq_true hc, Bool.true_and]
    clear hc hu
    generalize canon r = cr at *
    go_enter Tryz.func170, Tryz.ntmps170
    go_wp2_with (fail)
    go_quiet (first | (go_at_call 53; exact HC.out _ _))
    go_wp2_with (first | (go_at_call 172; (with_reducible refine (HB.out _).mono ?_); rintro e w' ⟨rfl, rfl⟩))
    go_ret
    refine ⟨rfl, ?_⟩
    repeat (first | exact Ext.refl _ | refine Ext.alloc ?_ _ | refine Ext.drew ?_ | refine Ext.drewN ?_ _ | refine Ext.setCell ?_ (by simp) _)
  · have hc2 : (r == canon r) = false := by simpa using fun e => hc e.symm
    rw [decide_eq_false hc, Bool.false_and]
    clear hc hu
    generalize canon r = cr at *
    go_enter Tryz.func170, Tryz.ntmps170
    go_wp2_with (fail)
    go_quiet (first | (go_at_call 53; exact HC.out _ _))
    go_wp2_with (fail)
    go_ret
    refine ⟨rfl, ?_⟩
    repeat (first | exact Ext.refl _ | refine Ext.alloc ?_ _ | refine Ext.drew ?_ | refine Ext.drewN ?_ _ | refine Ext.setCell ?_ (by simp) _)

set_option maxHeartbeats 1000000 in
set_option maxRecDepth 100000 in
theorem set_is {k : Int} {T : TypeId} {fk fr fl : Nat} (I : KI k T fk fr fl) (m : Int) (a v t : Sl) (s : St) (w : World) (hS : SS w a v t s) :
    Calls Tryz.prog 178 #[kd T m, sv s.reg a v t s.closed] w fun e w' => e = .returned (.bool (decide ((a.n : Int) ≤ m ∧ Good k s.keys) && bareB s.reg nilSl v t s.closed)) ∧ Ext w w' := by
  obtain ⟨ka, kn, kc⟩ := a
  obtain ⟨va, vn, vc⟩ := v
  obtain ⟨ta, tn, tc⟩ := t
  obtain ⟨r, ks, vs, vt, cl⟩ := s
  obtain ⟨_, hK, _, _⟩ := hS
  dsimp only at *
  have HB := Lib.hid (fun W => bare_any r nilSl ⟨va, vn, vc⟩ ⟨ta, tn, tc⟩ cl W)
  obtain ⟨⟨g0, g1, g2, g3, g4⟩, hX⟩ := box_new (kbt 147 T m) r ⟨ka, kn, kc⟩ ⟨va, vn, vc⟩ ⟨ta, tn, tc⟩ cl w
  have gf := fro_new (kbt 147 T m) r ⟨ka, kn, kc⟩ ⟨va, vn, vc⟩ ⟨ta, tn, tc⟩ cl w 1
  have HA := Lib.hid (are_any I m ka kn kc ks _ (hK.ext hX))
  generalize decide ((kn : Int) ≤ m ∧ Good k ks) = D at *
  have X0 := Lib.hid hX
  clear hK hX I
  dsimp only [sv, sb, kd, kb, kbt] at *
  cases D
  all_goals
    go_enter Tryz.func178, Tryz.ntmps178
    go_wp2_with (first
      | (go_at_call 180; (with_reducible refine HA.out.mono ?_); rintro e w1 ⟨rfl, hE⟩; have f1 := (hE.frozen g1).trans gf; replace g0 := hE.cell g0; replace g1 := hE.cell g1; replace g2 := hE.cell g2; replace g3 := hE.cell g3; replace g4 := hE.cell g4; have X1 : RowKit.Hid (Ext w w1) := Lib.hid (X0.out.trans hE); clear hE HA X0 gf)
      | (go_at_call 172; (with_reducible refine (HB.out _).mono ?_); rintro e w' ⟨rfl, rfl⟩))
    go_ret
    refine ⟨by simp, ?_⟩
    repeat (first | exact X1.out | refine Ext.alloc ?_ _ | refine Ext.setCell ?_ (Nat.le_succ _) _)

set_option maxHeartbeats 1000000 in
set_option maxRecDepth 100000 in
theorem table_is {k : Int} {T : TypeId} {fk fr fl : Nat} (I : KI k T fk fr fl) (m : Int) (a v t : Sl) (s : St) (w : World) (hS : SS w a v t s) :
    Calls Tryz.prog 183 #[kd T m, sv s.reg a v t s.closed] w fun e w' => e = .returned (.bool ((decide ((a.n : Int) ≤ m ∧ Good k s.keys) && decide (v.n = a.n)) && bareB s.reg nilSl nilSl t s.closed)) ∧ Ext w w' := by
  obtain ⟨ka, kn, kc⟩ := a
  obtain ⟨va, vn, vc⟩ := v
  obtain ⟨ta, tn, tc⟩ := t
  obtain ⟨r, ks, vs, vt, cl⟩ := s
  obtain ⟨_, hK, _, _⟩ := hS
  dsimp only at *
  have HB := Lib.hid (fun W => bare_any r nilSl nilSl ⟨ta, tn, tc⟩ cl W)
  obtain ⟨⟨g0, g1, g2, g3, g4⟩, hX⟩ := box_new (kbt 148 T m) r ⟨ka, kn, kc⟩ ⟨va, vn, vc⟩ ⟨ta, tn, tc⟩ cl w
  have gf := fro_new (kbt 148 T m) r ⟨ka, kn, kc⟩ ⟨va, vn, vc⟩ ⟨ta, tn, tc⟩ cl w 1
  have gf2 := fro_new (kbt 148 T m) r ⟨ka, kn, kc⟩ ⟨va, vn, vc⟩ ⟨ta, tn, tc⟩ cl w 2
  have HA := Lib.hid (are_any I m ka kn kc ks _ (hK.ext hX))
  generalize decide ((kn : Int) ≤ m ∧ Good k ks) = D at *
  have X0 := Lib.hid hX
  clear hK hX I
  have hc : ((vn : Int) == (kn : Int)) = decide (vn = kn) := by by_cases h : vn = kn <;> simp [h]; omega
  generalize decide (vn = kn) = C at *
  dsimp only [sv, sb, kd, kb, kbt] at *
  cases C
  all_goals
    cases D
    all_goals
      go_enter Tryz.func183, Tryz.ntmps183
      go_wp2_with (first
        | (go_at_call 180; (with_reducible refine HA.out.mono ?_); rintro e w1 ⟨rfl, hE⟩; have f1 := (hE.frozen g1).trans gf; have f2 := (hE.frozen g2).trans gf2; replace g0 := hE.cell g0; replace g1 := hE.cell g1; replace g2 := hE.cell g2; replace g3 := hE.cell g3; replace g4 := hE.cell g4; have X1 : RowKit.Hid (Ext w w1) := Lib.hid (X0.out.trans hE); clear hE HA X0 gf gf2)
        | (go_at_call 172; (with_reducible refine (HB.out _).mono ?_); rintro e w' ⟨rfl, rfl⟩))
      go_ret
      refine ⟨by simp, ?_⟩
      repeat (first | exact X1.out | refine Ext.alloc ?_ _ | refine Ext.setCell ?_ (Nat.le_succ _) _)

/-- The votes ahead of a place are as they may be. -/
def VotesTo (vs : List Int) (i : Nat) : Bool := decide (∀ v ∈ vs.take i, 0 ≤ v ∧ v ≤ 8)
theorem votesTo_succ {vs : List Int} {i : Nat} {y : Int} (h : vs[i]? = some y) : VotesTo vs (i + 1) = (VotesTo vs i && decide (0 ≤ y ∧ y ≤ 8)) := by
  rw [Bool.eq_iff_iff]
  simp only [VotesTo, Bool.and_eq_true, decide_eq_true_iff, take_snoc h]
  constructor
  · exact fun q => ⟨fun v hv => q v (List.mem_append_left _ hv), q y (List.mem_append_right _ (List.mem_singleton.2 rfl))⟩
  · intro q v hv
    rcases List.mem_append.1 hv with hv | hv
    · exact q.1 v hv
    · rw [List.mem_singleton.1 hv]; exact q.2
abbrev bbx (m : Int) : Obj := .cells #[.int .i64 m] 151

set_option maxHeartbeats 2000000 in
set_option maxRecDepth 100000 in
theorem ballot_is (m : Int) (a v t : Sl) (s : St) (w : World) (hS : SS w a v t s) :
    Calls Tryz.prog 191 #[.agg #[.int .i64 m], sv s.reg a v t s.closed] w fun e w' => e = .returned (.bool ((decide ((t.n : Int) = m) && VotesTo s.votes t.n) && bareB s.reg a v nilSl false)) ∧ Ext w w' := by
  obtain ⟨ka, kn, kc⟩ := a
  obtain ⟨va, vn, vc⟩ := v
  obtain ⟨ta, n, tc⟩ := t
  obtain ⟨r, ks, vs, vt, cl⟩ := s
  obtain ⟨_, _, _, hT⟩ := hS
  dsimp only at *
  have hn := hT.le
  have HB := Lib.hid (fun W => bare_any r ⟨ka, kn, kc⟩ ⟨va, vn, vc⟩ nilSl false W)
  obtain ⟨⟨g0, g1, g2, g3, g4⟩, hX⟩ := box_new (bbx m) r ⟨ka, kn, kc⟩ ⟨va, vn, vc⟩ ⟨ta, n, tc⟩ cl w
  have gf := fro_new (bbx m) r ⟨ka, kn, kc⟩ ⟨va, vn, vc⟩ ⟨ta, n, tc⟩ cl w 3
  have gf2 := fro_new (bbx m) r ⟨ka, kn, kc⟩ ⟨va, vn, vc⟩ ⟨ta, n, tc⟩ cl w 4
  have gm : ((w.alloc (bbx m)).alloc (sb r ⟨ka, kn, kc⟩ ⟨va, vn, vc⟩ ⟨ta, n, tc⟩ cl)).cell? ⟨w.heap.size, 0, none⟩ = some (.int .i64 m) := box_alloc (by unfold World.cell?; rw [World.alloc_heap_new]; rfl)
  have X0 := Lib.hid hX
  have HT := Lib.hid (hT.ext hX)
  have hc : ((n : Int) == m) = decide ((n : Int) = m) := by by_cases h : (n : Int) = m <;> simp [h]
  have v0 : VotesTo vt 0 = true := by simp [VotesTo]
  generalize decide ((n : Int) = m) = D at *
  have VS : RowKit.Hid (∀ i y, vt[i]? = some y → VotesTo vt (i + 1) = (VotesTo vt i && decide (0 ≤ y ∧ y ≤ 8))) := Lib.hid fun i y h => votesTo_succ h
  generalize VotesTo vt = V at *
  clear hT hX
  dsimp only [sv, sb, bbx] at *
  go_enter Tryz.func191, Tryz.ntmps191
  go_wp2_with (fail)
  go_loopg [5, 17] n (fun kx s5 s17 wr => wr = ((w.alloc (.cells #[.int .i64 m] 151)).alloc (.cells #[.int .u64 r, .slice ka kn kc, .slice va vn vc, .slice ta n tc, .bool cl] 30)) ∧ ∃ i : Nat, s17 = .int .i64 i ∧ i ≤ n ∧ n - i ≤ kx ∧ s5 = .bool (D && V i))
  case atStart => exact ⟨rfl, 0, rfl, Nat.zero_le _, by omega, by rw [v0, Bool.and_true]⟩
  case round =>
    obtain ⟨rfl, i, rfl, hi, hg, rfl⟩ := hrel
    by_cases hlt : i < n
    · have hlt2 : (i : Int) < n := by omega
      obtain ⟨y, hy, hyu, b, o, rfl, hyc⟩ := HT.out.get hlt
      have hv := Lib.hid (VS.out i y hy)
      clear hy VS
      generalize hq : (D && V i) = Q at *
      have HQ := Lib.hid hq
      clear hq
      cases Q
      · go_wp2_with (fail)
        go_roundg (n - (i + 1))
        case measure => omega
        case rel => exact ⟨rfl, i + 1, by first | rfl | (congr 1; omega), by omega, by omega, by rw [hv.out, ← Bool.and_assoc, HQ.out]; rfl⟩
      · by_cases y0 : 0 ≤ y
        · have y0' : decide (y ≥ 0) = true := decide_eq_true y0
          by_cases y8 : y ≤ 8
          · go_wp2_with (fail)
            go_roundg (n - (i + 1))
            case measure => omega
            case rel => exact ⟨rfl, i + 1, by first | rfl | (congr 1; omega), by omega, by omega, by rw [hv.out, ← Bool.and_assoc, HQ.out]; simp [y0, y8]⟩
          · go_wp2_with (fail)
            go_roundg (n - (i + 1))
            case measure => omega
            case rel => exact ⟨rfl, i + 1, by first | rfl | (congr 1; omega), by omega, by omega, by rw [hv.out, ← Bool.and_assoc, HQ.out]; simp [y0, y8]⟩
        · go_wp2_with (fail)
          go_roundg (n - (i + 1))
          case measure => omega
          case rel => exact ⟨rfl, i + 1, by first | rfl | (congr 1; omega), by omega, by omega, by rw [hv.out, ← Bool.and_assoc, HQ.out]; simp; omega⟩
    · obtain rfl : i = n := by omega
      have hlt2 : ¬ (i : Int) < i := by omega
      generalize hq : (D && V i) = Q at *
      have HQ := Lib.hid hq
      clear HT VS hq
      cases Q
      all_goals
        go_wp2_with (first
          | (go_at_call 172; (with_reducible refine (HB.out _).mono ?_); rintro e w' ⟨rfl, rfl⟩))
        go_ret
        refine ⟨by rw [HQ.out]; simp, ?_⟩
        repeat (first | exact X0.out | exact Ext.refl _ | refine Ext.alloc ?_ _ | refine Ext.setCell ?_ (Nat.le_succ _) _)

end Go.Proofs.YtmonkcekkhfafaaGreatDoor.Lan

/- LanObj:
  Objects as values of an interface: which one there is of a configuration, and Right. Conditions: the state's words are words.
-/
namespace Go.Proofs.YtmonkcekkhfafaaGreatDoor.Lan
open Go.RowKit (Below intOf)
open Go.Proofs.YtmonkcekkhfafaaGreatDoor.Aut
open Go.Proofs.YtmonkcekkhfafaaGreatDoor.Reg (cf bx fits_any)

def oT (k : Int) : TypeId := if k = 1 then 140 else if k = 2 then 147 else if k = 3 ∨ k = 4 then 148 else 151
def oV (k m : Int) : Value := if k = 1 then kE else if k = 2 ∨ k = 3 ∨ k = 4 then kd (kT k) m else .agg #[.int .i64 m]

set_option maxHeartbeats 1000000 in
set_option maxRecDepth 100000 in
theorem object_any (k p m : Int) (w : World) : Calls Tryz.prog 73 #[cf k p m] w fun e w' => e = .returned (.iface (oT k) (oV k m)) ∧ w' = w.alloc (bx k p m) := by
  have hs : ∀ x : Int, k ≠ x → (k == x) = false := fun x h => by simpa using h
  by_cases h1 : k = 1
  · subst h1
    go_enter Tryz.func73, Tryz.ntmps73
    go_wp2_with (fail)
    go_ret
    exact ⟨rfl, rfl⟩
  by_cases h2 : k = 2
  · subst h2
    go_enter Tryz.func73, Tryz.ntmps73
    go_wp2_with (fail)
    go_ret
    exact ⟨rfl, rfl⟩
  by_cases h3 : k = 3
  · subst h3
    go_enter Tryz.func73, Tryz.ntmps73
    go_wp2_with (fail)
    go_ret
    exact ⟨rfl, rfl⟩
  by_cases h4 : k = 4
  · subst h4
    go_enter Tryz.func73, Tryz.ntmps73
    go_wp2_with (fail)
    go_ret
    exact ⟨rfl, rfl⟩
  have b1 := hs 1 h1
  have b2 := hs 2 h2
  have b3 := hs 3 h3
  have b4 := hs 4 h4
  have e1 : oT k = 151 := by unfold oT; rw [if_neg h1, if_neg h2, if_neg (by omega)]
  have e2 : oV k m = .agg #[.int .i64 m] := by unfold oV; rw [if_neg h1, if_neg (by omega)]
  rw [e1, e2]
  clear e1 e2 h1 h2 h3 h4 hs
  go_enter Tryz.func73, Tryz.ntmps73
  go_wp2_with (fail)
  go_ret
  exact ⟨rfl, rfl⟩

theorem ss_lens {w : World} {a v t : Sl} {s : St} (h : SS w a v t s) : s.keys.length = a.n ∧ s.vals.length = v.n ∧ s.votes.length = t.n := ⟨h.2.1.len, h.2.2.1.len, h.2.2.2.len⟩
theorem bare_iff {w : World} {a v t : Sl} {s : St} (h : SS w a v t s) (r : Int) (cl : Bool) :
    (bareB r a v t cl = true ↔ r = 0 ∧ s.keys = [] ∧ s.vals = [] ∧ s.votes = [] ∧ cl = false) ∧ (bareB r nilSl v t cl = true ↔ r = 0 ∧ s.vals = [] ∧ s.votes = [] ∧ cl = false) ∧ (bareB r nilSl nilSl t cl = true ↔ r = 0 ∧ s.votes = [] ∧ cl = false) ∧
      (bareB r a v nilSl cl = true ↔ r = 0 ∧ s.keys = [] ∧ s.vals = [] ∧ cl = false) := by
  obtain ⟨h1, h2, h3⟩ := ss_lens h
  simp only [bareB, Bool.and_eq_true, decide_eq_true_iff, Bool.not_eq_true', ← h1, ← h2, ← h3, List.length_eq_zero_iff, true_and, and_self]

theorem right_1 {p m : Int} {w : World} {a v t : Sl} {s : St} (hf : fits 1 p m = true) (h : SS w a v t s) : (decide (canon s.reg = s.reg) && bareB 0 a v t s.closed) = rightS 1 p m s := by
  rw [Bool.eq_iff_iff, right_iff, Bool.and_eq_true, (bare_iff h 0 s.closed).1, decide_eq_true_iff]
  unfold ElseOk keyed
  simp [hf]
  constructor
  · rintro ⟨h1, h2, h3, h4, h5⟩; exact ⟨⟨⟨h2, h3⟩, h4, h5⟩, h1⟩
  · rintro ⟨⟨⟨h2, h3⟩, h4, h5⟩, h1⟩; exact ⟨h1, h2, h3, h4, h5⟩
theorem right_2 {p m : Int} {w : World} {a v t : Sl} {s : St} (hf : fits 2 p m = true) (h : SS w a v t s) : (decide ((a.n : Int) ≤ m ∧ Good 2 s.keys) && bareB s.reg nilSl v t s.closed) = rightS 2 p m s := by
  rw [Bool.eq_iff_iff, right_iff, Bool.and_eq_true, (bare_iff h s.reg s.closed).2.1, decide_eq_true_iff, ← (ss_lens h).1]
  unfold ElseOk keyed KeysOk valued Good
  simp [hf]
  constructor
  · rintro ⟨⟨h1, h2, h3⟩, h4, h5, h6, h7⟩; exact ⟨⟨h4, h6, h7⟩, h1, h5, h2, h3⟩
  · rintro ⟨⟨h4, h6, h7⟩, h1, h5, h2, h3⟩; exact ⟨⟨h1, h2, h3⟩, h4, h5, h6, h7⟩
theorem right_34 {k p m : Int} {w : World} {a v t : Sl} {s : St} (hk : k = 3 ∨ k = 4) (hf : fits k p m = true) (h : SS w a v t s) : ((decide ((a.n : Int) ≤ m ∧ Good k s.keys) && decide (v.n = a.n)) && bareB s.reg nilSl nilSl t s.closed) = rightS k p m s := by
  obtain ⟨l1, l2, l3⟩ := ss_lens h
  rw [Bool.eq_iff_iff, right_iff, Bool.and_eq_true, Bool.and_eq_true, (bare_iff h s.reg s.closed).2.2.1, decide_eq_true_iff, decide_eq_true_iff, ← l1, ← l2]
  have k1 : k ≠ 1 := by omega
  have k5 : k ≠ 5 := by omega
  have kk : keyed k = true := by unfold keyed; exact decide_eq_true (by omega)
  have kv : valued k = true := by unfold valued; exact decide_eq_true hk
  unfold ElseOk KeysOk Good
  simp [hf, k1, k5, kk, kv]
  constructor
  · rintro ⟨⟨⟨h1, h2, h3⟩, h4⟩, h5, h6, h7⟩; exact ⟨⟨h5, h6, h7⟩, h1, h4, h2, h3⟩
  · rintro ⟨⟨h5, h6, h7⟩, h1, h4, h2, h3⟩; exact ⟨⟨⟨h1, h2, h3⟩, h4⟩, h5, h6, h7⟩
theorem right_5 {p m : Int} {w : World} {a v t : Sl} {s : St} (hf : fits 5 p m = true) (h : SS w a v t s) : ((decide ((t.n : Int) = m) && VotesTo s.votes t.n) && bareB s.reg a v nilSl false) = rightS 5 p m s := by
  obtain ⟨l1, l2, l3⟩ := ss_lens h
  rw [Bool.eq_iff_iff, right_iff, Bool.and_eq_true, Bool.and_eq_true, (bare_iff h s.reg false).2.2.2, decide_eq_true_iff, ← l3]
  unfold ElseOk keyed VotesOk VotesTo
  rw [List.take_length, decide_eq_true_iff]
  simp [hf]
  constructor
  · rintro ⟨⟨h1, h2⟩, h3, h4, h5⟩; exact ⟨⟨h3, h4, h5⟩, h1, h2⟩
  · rintro ⟨⟨h3, h4, h5⟩, h1, h2⟩; exact ⟨⟨h1, h2⟩, h3, h4, h5⟩

/-- How an object is asked whether a state is right. -/
def IsI (k p m : Int) (T : TypeId) (V : Value) (f : Nat) (V' : Value) : Prop :=
  (∀ w, Sem.run Tryz.prog (method 312 T V "whitewash/auto.isRight") w = .ok (f, V') w) ∧ (∀ a w, Sem.run Tryz.prog (callFunc f #[V', a]) w = .ok (.enter f #[V', a]) w) ∧
    ∀ a v t s w, SS w a v t s → Calls Tryz.prog f #[V', sv s.reg a v t s.closed] w fun e w' => e = .returned (.bool (rightS k p m s)) ∧ Ext w w'
theorem kinds {k p m : Int} (h : fits k p m = true) : k = 1 ∨ k = 2 ∨ k = 3 ∨ k = 4 ∨ k = 5 := by have := fits_of h; omega
theorem is_obj {k p m : Int} (hf : fits k p m = true) : ∃ f V', IsI k p m (oT k) (oV k m) f V' := by
  rcases kinds hf with rfl | rfl | rfl | rfl | rfl
  · exact ⟨170, kE, fun w => by kernel_rfl, fun a w => by kernel_rfl, fun a v t s w hS => (reg_is a v t s w hS.1).mono fun e w' h => ⟨by rw [h.1, right_1 hf hS], h.2⟩⟩
  · obtain ⟨fk, fr, fl, I⟩ := keys_is 2
    exact ⟨178, kd (kT 2) m, fun w => by kernel_rfl, fun a w => by kernel_rfl, fun a v t s w hS => (set_is I m a v t s w hS).mono fun e w' h => ⟨by rw [h.1, right_2 hf hS], h.2⟩⟩
  · obtain ⟨fk, fr, fl, I⟩ := keys_is 3
    exact ⟨183, kd (kT 3) m, fun w => by kernel_rfl, fun a w => by kernel_rfl, fun a v t s w hS => (table_is I m a v t s w hS).mono fun e w' h => ⟨by rw [h.1, right_34 (.inl rfl) hf hS], h.2⟩⟩
  · obtain ⟨fk, fr, fl, I⟩ := keys_is 4
    exact ⟨183, kd (kT 4) m, fun w => by kernel_rfl, fun a w => by kernel_rfl, fun a v t s w hS => (table_is I m a v t s w hS).mono fun e w' h => ⟨by rw [h.1, right_34 (.inr rfl) hf hS], h.2⟩⟩
  · exact ⟨191, .agg #[.int .i64 m], fun w => by kernel_rfl, fun a w => by kernel_rfl, fun a v t s w hS => (ballot_is m a v t s w hS).mono fun e w' h => ⟨by rw [h.1, right_5 hf hS], h.2⟩⟩

set_option maxHeartbeats 1000000 in
set_option maxRecDepth 100000 in
theorem right_any (k p m : Int) (a v t : Sl) (s : St) (w : World) (hS : SS w a v t s) : Calls Tryz.prog 36 #[cf k p m, sv s.reg a v t s.closed] w fun e w' => e = .returned (.bool (rightS k p m s)) ∧ Ext w w' := by
  obtain ⟨HT, HF, HX⟩ := both_new w k p m s.reg a v t s.closed
  have HFi := Lib.hid (fun W => fits_any k p m W)
  have X0 := Lib.hid HX
  obtain ⟨t0, t1, t2⟩ := HT
  obtain ⟨f0, f1, f2, f3, f4⟩ := HF
  by_cases hf : fits k p m = true
  · obtain ⟨f, V', m1, m2, m3⟩ := is_obj hf
    have HO := Lib.hid (fun W => object_any k p m W)
    have HC : RowKit.Hid (∀ W, Ext w W → Calls Tryz.prog f #[V', sv s.reg a v t s.closed] W fun e w' => e = .returned (.bool (rightS k p m s)) ∧ Ext W w') := Lib.hid fun W hE => m3 a v t s W (hS.ext hE)
    have hf' : Reg.fits k p m = true := hf
    rw [hf'] at HFi
    generalize rightS k p m s = R at *
    generalize oT k = OT at *
    generalize oV k m = OV at *
    obtain ⟨r, ks, vs, vt, cl⟩ := s
    obtain ⟨ka, kn, kc⟩ := a
    obtain ⟨va, vn, vc⟩ := v
    obtain ⟨ta, tn, tc⟩ := t
    clear hS HX m3 hf hf'
    dsimp only [sv, sb, cf, bx] at *
    go_enter Tryz.func36, Tryz.ntmps36
    go_wp2_with (fail)
    go_region_held3 (fun w' => (w'.cell? ⟨w.heap.size, 0, none⟩ = some (.int .i64 k) ∧ w'.cell? ⟨w.heap.size, 1, none⟩ = some (.int .i64 p) ∧ w'.cell? ⟨w.heap.size, 2, none⟩ = some (.int .i64 m)) ∧ w'.cell? ⟨w.heap.size + 1, 0, none⟩ = some (.int .u64 r) ∧ w'.cell? ⟨w.heap.size + 1, 1, none⟩ = some (.slice ka kn kc) ∧ w'.cell? ⟨w.heap.size + 1, 2, none⟩ = some (.slice va vn vc) ∧ w'.cell? ⟨w.heap.size + 1, 3, none⟩ = some (.slice ta tn tc) ∧ w'.cell? ⟨w.heap.size + 1, 4, none⟩ = some (.bool cl))
      (repeat' (first | (with_reducible assumption) | (with_reducible refine And.intro ?_ ?_) | (with_reducible refine box_alloc ?_) | (with_reducible refine box_drew ?_) | (with_reducible refine Ext.cell ‹_› ?_)))
      (first
        | (go_at_call 35; (with_reducible refine (HFi.out _).mono ?_); rintro e w' ⟨rfl, rfl⟩)
        | (go_at_call 73; (with_reducible refine (HO.out _).mono ?_); rintro e w' ⟨rfl, rfl⟩)
        | (go_at_fn f; (with_reducible refine (HC.out _ (by repeat (first | exact X0.out | refine Ext.alloc ?_ _ | refine Ext.drew ?_))).mono ?_); rintro e w' ⟨rfl, hE⟩))
    have hE2 : Ext w w' := Ext.trans (by repeat (first | exact X0.out | refine Ext.alloc ?_ _ | refine Ext.drew ?_)) hE
    replace hE2 := Lib.hid hE2
    clear hE
    go_wp2_with (fail)
    go_ret
    exact ⟨rfl, hE2.out⟩
  · have hr : rightS k p m s = false := by
      cases h : rightS k p m s with
      | false => rfl
      | true => exact absurd (right_fits h) hf
    have hf' : Reg.fits k p m = false := Bool.eq_false_iff.2 hf
    rw [hf'] at HFi
    rw [hr]
    have k08 := And.intro (And.intro t0 (And.intro t1 t2)) (And.intro f0 (And.intro f1 (And.intro f2 (And.intro f3 f4))))
    obtain ⟨r, ks, vs, vt, cl⟩ := s
    obtain ⟨ka, kn, kc⟩ := a
    obtain ⟨va, vn, vc⟩ := v
    obtain ⟨ta, tn, tc⟩ := t
    clear hS HX hf hf' hr
    dsimp only [sv, sb, cf, bx] at *
    go_enter Tryz.func36, Tryz.ntmps36
    go_wp2_with (fail)
    refine wp_region_held_drew (S := fun w' => (w'.cell? ⟨w.heap.size, 0, none⟩ = some (.int .i64 k) ∧ w'.cell? ⟨w.heap.size, 1, none⟩ = some (.int .i64 p) ∧ w'.cell? ⟨w.heap.size, 2, none⟩ = some (.int .i64 m)) ∧ w'.cell? ⟨w.heap.size + 1, 0, none⟩ = some (.int .u64 r) ∧ w'.cell? ⟨w.heap.size + 1, 1, none⟩ = some (.slice ka kn kc) ∧ w'.cell? ⟨w.heap.size + 1, 2, none⟩ = some (.slice va vn vc) ∧ w'.cell? ⟨w.heap.size + 1, 3, none⟩ = some (.slice ta tn tc) ∧ w'.cell? ⟨w.heap.size + 1, 4, none⟩ = some (.bool cl)) (by kernel_rfl) k08 (fun hHeld => ?_)
    refine wpAnyH_take (i := 0) (v := .agg #[.int .i64 k, .int .i64 p, .int .i64 m]) rfl (by kernel_rfl) (by kernel_rfl) (by kernel_rfl) (fun _ _ _ h => h) (Or.inl ⟨by rfl, ?_⟩) (by assumption) ?_
    · rintro w ⟨⟨h1, h2, h3⟩, h4, h5, h6, h7, h8⟩
      go_simp
    refine wpAnyH_ready (rs := [1]) (by kernel_rfl) (by simp) ?_
    refine AllReadyH.cons rfl (fun K hK => ?_) AllReadyH.nil
    go_simp
    refine (HFi.out _).mono ?_
    rintro e w' ⟨rfl, rfl⟩
    refine hK.out _ _ (by repeat' (first | (with_reducible assumption) | (with_reducible refine And.intro ?_ ?_) | (with_reducible refine box_alloc ?_) | (with_reducible refine box_drew ?_))) (fun hHeld => ?_)
    clear hK K
    refine wpAnyH_take (i := 2) (v := .bool false) rfl (by kernel_rfl) (by kernel_rfl) (by kernel_rfl) (fun _ _ _ h => h) (Or.inl ⟨by rfl, ?_⟩) (by assumption) ?_
    · rintro w ⟨⟨h1, h2, h3⟩, h4, h5, h6, h7, h8⟩
      go_simp
    refine wpAnyH_take (i := 3) (v := undef) rfl (by kernel_rfl) (by kernel_rfl) (by kernel_rfl) (fun _ _ _ h => h) (Or.inr ⟨by rfl, rfl⟩) (by assumption) ?_
    refine wpAnyH_take (i := 4) (v := undef) rfl (by kernel_rfl) (by kernel_rfl) (by kernel_rfl) (fun _ _ _ h => h) (Or.inr ⟨by rfl, rfl⟩) (by assumption) ?_
    refine wpAnyH_take (i := 5) (v := undef) rfl (by kernel_rfl) (by kernel_rfl) (by kernel_rfl) (fun _ _ _ h => h) (Or.inr ⟨by rfl, rfl⟩) (by assumption) ?_
    refine wpAnyH_take (i := 6) (v := undef) rfl (by kernel_rfl) (by kernel_rfl) (by kernel_rfl) (fun _ _ _ h => h) (Or.inr ⟨by rfl, rfl⟩) (by assumption) ?_
    refine wpAnyH_take (i := 7) (v := .bool false) rfl (by kernel_rfl) (by kernel_rfl) (by kernel_rfl) (fun _ _ _ h => h) (Or.inl ⟨by rfl, ?_⟩) (by assumption) ?_
    · rintro w ⟨⟨h1, h2, h3⟩, h4, h5, h6, h7, h8⟩
      go_simp
    refine wpAnyH_take (i := 8) (v := .bool false) rfl (by kernel_rfl) (by kernel_rfl) (by kernel_rfl) (fun _ _ _ h => h) (Or.inl ⟨by rfl, ?_⟩) (by assumption) ?_
    · rintro w ⟨⟨h1, h2, h3⟩, h4, h5, h6, h7, h8⟩
      go_simp
    refine wpAnyH_done (by kernel_rfl) ?_ _
    go_wp2_with (fail)
    go_ret
    exact ⟨rfl, by repeat (first | exact X0.out | refine Ext.alloc ?_ _ | refine Ext.drew ?_)⟩

end Go.Proofs.YtmonkcekkhfafaaGreatDoor.Lan

