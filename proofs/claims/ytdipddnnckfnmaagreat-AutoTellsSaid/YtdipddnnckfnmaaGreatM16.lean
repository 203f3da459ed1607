/-
  Parts of a proof, one behind the other: LanLeaf, LanFind, LanKey, LanLook. Each says its own conditions.
-/
import Derived.Test.YtdipddnnckfnmaaGreatM15
import Derived.Handy
import Derived.Shelf.Abstract
import Derived.Deep.LoopGhost

/- LanLeaf:
  The small functions of package auto, and what keys are: refuse, bit, isBare, and the methods of numbers and floats. Conditions: words are words.
-/
namespace Go.Proofs.YtdipddnnckfnmaaGreat.Lan
open Go.RowKit (Below intOf)
open Go.Proofs.YtdipddnnckfnmaaGreat.Aut

/-- The panic of a refusal. -/
def noE (x : Int) : List PanicEntry := [{ v := .iface 37 (.int .i64 x), recovered := false }]

theorem refuse_no (x : Int) (w : World) : Calls Tryz.prog 119 #[.bool false, .int .i64 x] w fun e w' => e = .returned (.tuple #[]) ∧ w = w' := by
  go_enter Tryz.func119, Tryz.ntmps119
  go_wp2
  go_end0
  exact ⟨rfl, rfl⟩
theorem refuse_yes (x : Int) (w : World) : Calls Tryz.prog 119 #[.bool true, .int .i64 x] w fun e w' => e = .panicked (noE x) ∧ w = w' := by
  go_enter Tryz.func119, Tryz.ntmps119
  go_wp2
  exact ⟨rfl, rfl, rfl⟩
theorem lbit_any (b : Bool) (w : World) : Calls Tryz.prog 115 #[.bool b] w fun e w' => e = .returned (.int .u64 (bitZ b)) ∧ w = w' := by
  cases b
  all_goals
    go_enter Tryz.func115, Tryz.ntmps115
    go_wp2
    go_ret
    exact ⟨rfl, rfl⟩

/-- What keys are, of a kind of object. -/
def kT (k : Int) : TypeId := if k = 4 then 108 else 100
abbrev kE : Value := .agg #[]
/-- How the methods of keys are called, and what they tell. -/
structure KI (k : Int) (T : TypeId) (fk fr fl : Nat) : Prop where
  km : ∀ w, Sem.run Tryz.prog (method 267 T kE "whitewash/auto.key") w = .ok (fk, kE) w
  rm : ∀ w, Sem.run Tryz.prog (method 267 T kE "whitewash/auto.rank") w = .ok (fr, kE) w
  lm : ∀ w, Sem.run Tryz.prog (method 267 T kE "whitewash/auto.least") w = .ok (fl, kE) w
  ek : ∀ a w, Sem.run Tryz.prog (callFunc fk #[kE, a]) w = .ok (.enter fk #[kE, a]) w
  er : ∀ a w, Sem.run Tryz.prog (callFunc fr #[kE, a]) w = .ok (.enter fr #[kE, a]) w
  el : ∀ w, Sem.run Tryz.prog (callFunc fl #[kE]) w = .ok (.enter fl #[kE]) w
  ck : ∀ x w, U64 x → Calls Tryz.prog fk #[kE, .int .u64 x] w fun e w' => e = .returned (.tuple #[.int .u64 (meantK k x), .bool (mayK k x)]) ∧ w' = w.alloc (.cells #[] T)
  cr : ∀ x w, U64 x → Calls Tryz.prog fr #[kE, .int .u64 x] w fun e w' => e = .returned (.int .u64 (ordK k x)) ∧ w' = w.alloc (.cells #[] T)
  cl : ∀ w, Calls Tryz.prog fl #[kE] w fun e w' => e = .returned (.int .u64 (if k = 4 then 18442240474082181120 else 0)) ∧ w' = w.alloc (.cells #[] T)

theorem nkey_any (x : Int) (w : World) : Calls Tryz.prog 154 #[kE, .int .u64 x] w fun e w' => e = .returned (.tuple #[.int .u64 x, .bool (decide (x ≤ 4611686018427387904))]) ∧ w' = w.alloc (.cells #[] 100) := by
  by_cases h1 : x ≤ 4611686018427387904
  · go_enter Tryz.func154, Tryz.ntmps154
    go_wp2
    go_ret2
    simp [h1]
  · go_enter Tryz.func154, Tryz.ntmps154
    go_wp2
    go_ret2
    simp [h1]
theorem nrank_any (x : Int) (w : World) : Calls Tryz.prog 155 #[kE, .int .u64 x] w fun e w' => e = .returned (.int .u64 x) ∧ w' = w.alloc (.cells #[] 100) := by
  go_enter Tryz.func155, Tryz.ntmps155
  go_wp2
  go_ret
  exact ⟨rfl, rfl⟩
theorem nleast_any (w : World) : Calls Tryz.prog 106 #[kE] w fun e w' => e = .returned (.int .u64 0) ∧ w' = w.alloc (.cells #[] 100) := by
  go_enter Tryz.func106, Tryz.ntmps106
  go_wp2
  go_ret
  exact ⟨rfl, rfl⟩
theorem fkey_any (x : Int) (w : World) (h : U64 x) : Calls Tryz.prog 141 #[kE, .int .u64 x] w fun e w' => e = .returned (.tuple #[.int .u64 (canon x), .bool true]) ∧ w' = w.alloc (.cells #[] 108) := by
  have H0 := Lib.hid h.1
  have H1 := Lib.hid h.2
  clear h
  go_enter Tryz.func141, Tryz.ntmps141
  go_wp2_with (first | (go_at_call 97; with_reducible refine (canon_any _ _ H0.out H1.out).mono ?_; rintro e w' ⟨rfl, rfl⟩))
  go_ret2
  exact ⟨rfl, rfl⟩
theorem frank_any (x : Int) (w : World) (h : U64 x) : Calls Tryz.prog 143 #[kE, .int .u64 x] w fun e w' => e = .returned (.int .u64 (rank x)) ∧ w' = w.alloc (.cells #[] 108) := by
  have H0 := Lib.hid h.1
  have H1 := Lib.hid h.2
  clear h
  go_enter Tryz.func143, Tryz.ntmps143
  go_wp2_with (first | (go_at_call 105; with_reducible refine (rank_any _ _ H0.out H1.out).mono ?_; rintro e w' ⟨rfl, rfl⟩))
  go_ret
  exact ⟨rfl, rfl⟩
theorem fleast_any (w : World) : Calls Tryz.prog 142 #[kE] w fun e w' => e = .returned (.int .u64 18442240474082181120) ∧ w' = w.alloc (.cells #[] 108) := by
  go_enter Tryz.func142, Tryz.ntmps142
  go_wp2
  go_ret
  exact ⟨rfl, rfl⟩
theorem keys_is (k : Int) : ∃ fk fr fl, KI k (kT k) fk fr fl := by
  by_cases h : k = 4
  · refine ⟨141, 143, 142, ?_⟩
    simp only [kT, if_pos h]
    exact { km := fun w => by kernel_rfl, rm := fun w => by kernel_rfl, lm := fun w => by kernel_rfl, ek := fun a w => by kernel_rfl, er := fun a w => by kernel_rfl, el := fun w => by kernel_rfl,
            ck := fun x w hx => by simp only [meantK, mayK, if_pos h]; exact fkey_any x w hx, cr := fun x w hx => by simp only [ordK, if_pos h]; exact frank_any x w hx, cl := fun w => by simp only [if_pos h]; exact fleast_any w }
  · refine ⟨154, 155, 106, ?_⟩
    simp only [kT, if_neg h]
    exact { km := fun w => by kernel_rfl, rm := fun w => by kernel_rfl, lm := fun w => by kernel_rfl, ek := fun a w => by kernel_rfl, er := fun a w => by kernel_rfl, el := fun w => by kernel_rfl,
            ck := fun x w hx => by simp only [meantK, mayK, if_neg h]; exact nkey_any x w, cr := fun x w hx => by simp only [ordK, if_neg h]; exact nrank_any x w, cl := fun w => by simp only [if_neg h]; exact nleast_any w }

/-- An object with keys, as it is handed to its methods. -/
abbrev kd (T : TypeId) (m : Int) : Value := .agg #[.iface T kE, .int .i64 m]
abbrev kb (T : TypeId) (m : Int) : Obj := .cells #[.iface T kE, .int .i64 m] 104

set_option maxRecDepth 100000 in
theorem keyOf_yes {k : Int} {T : TypeId} {fk fr fl : Nat} (I : KI k T fk fr fl) (m x : Int) (w : World) (hx : U64 x) (hm : mayK k x = true) : Calls Tryz.prog 108 #[kd T m, .int .u64 x] w fun e w' => e = .returned (.int .u64 (meantK k x)) ∧ w' = (w.alloc (kb T m)).alloc (.cells #[] T) := by
  have h1 := I.km
  have h2 := I.ek
  have h3 := Lib.hid (fun w => I.ck x w hx)
  rw [hm] at h3
  clear I hx hm
  go_enter Tryz.func108, Tryz.ntmps108
  go_wp2_with (first | (go_at_fn fk; with_reducible refine (h3.out _).mono ?_; rintro e w' ⟨rfl, rfl⟩) | (go_at_call 119; with_reducible refine (refuse_no _ _).mono ?_; rintro e w' ⟨rfl, rfl⟩))
  go_ret
  exact ⟨rfl, rfl⟩
set_option maxRecDepth 100000 in
theorem keyOf_no {k : Int} {T : TypeId} {fk fr fl : Nat} (I : KI k T fk fr fl) (m x : Int) (w : World) (hx : U64 x) (hm : mayK k x = false) : Calls Tryz.prog 108 #[kd T m, .int .u64 x] w fun e w' => e = .panicked (noE 10) ∧ w' = (w.alloc (kb T m)).alloc (.cells #[] T) := by
  have h1 := I.km
  have h2 := I.ek
  have h3 := Lib.hid (fun w => I.ck x w hx)
  rw [hm] at h3
  clear I hx hm
  go_enter Tryz.func108, Tryz.ntmps108
  go_wp2_with (first | (go_at_fn fk; with_reducible refine (h3.out _).mono ?_; rintro e w' ⟨rfl, rfl⟩) | (go_at_call 119; with_reducible refine (refuse_yes _ _).mono ?_; rintro e w' ⟨rfl, rfl⟩))
  exact ⟨rfl, rfl, rfl⟩

end Go.Proofs.YtdipddnnckfnmaaGreat.Lan

/- LanFind:
  Where a key is: cmp.Compare, the closure that compares keys, slices.BinarySearchFunc, and find. Conditions: the keys rise, and are written as themselves.
-/
namespace Go.Proofs.YtdipddnnckfnmaaGreat.Lan
open Go.RowKit (Below intOf)
open Go.Proofs.YtdipddnnckfnmaaGreat.Aut

/-- Which of two comes first. -/
def cmpI (x y : Int) : Int := if x < y then -1 else if y < x then 1 else 0
theorem cmpI_neg {x y : Int} : cmpI x y < 0 ↔ x < y := by unfold cmpI; split <;> (try split) <;> omega
theorem cmpI_zero {x y : Int} : cmpI x y = 0 ↔ x = y := by unfold cmpI; split <;> (try split) <;> omega

theorem isnan_any (x : Int) (w : World) : Calls Tryz.prog 129 #[.int .u64 x] w fun e w' => e = .returned (.bool false) ∧ w = w' := by
  go_enter Tryz.func129, Tryz.ntmps129
  go_wp2
  go_ret
  simp
theorem compare_any (x y : Int) (w : World) : Calls Tryz.prog 124 #[.int .u64 x, .int .u64 y] w fun e w' => e = .returned (.int .i64 (cmpI x y)) ∧ w = w' := by
  rcases Int.lt_trichotomy x y with h | h | h
  · have e : cmpI x y = -1 := by unfold cmpI; rw [if_pos h]
    rw [e]
    go_enter Tryz.func124, Tryz.ntmps124
    go_wp2_with (first | (go_at_call 129; with_reducible refine (isnan_any _ _).mono ?_; rintro e w' ⟨rfl, rfl⟩))
    go_ret
    exact ⟨rfl, rfl⟩
  · have e : cmpI x y = 0 := by unfold cmpI; rw [if_neg (by omega), if_neg (by omega)]
    have h1 : ¬ x < y := by omega
    have h2 : ¬ y < x := by omega
    rw [e]
    clear h
    go_enter Tryz.func124, Tryz.ntmps124
    go_wp2_with (first | (go_at_call 129; with_reducible refine (isnan_any _ _).mono ?_; rintro e w' ⟨rfl, rfl⟩))
    go_ret
    exact ⟨rfl, rfl⟩
  · have e : cmpI x y = 1 := by unfold cmpI; rw [if_neg (by omega), if_pos h]
    have h1 : ¬ x < y := by omega
    rw [e]
    go_enter Tryz.func124, Tryz.ntmps124
    go_wp2_with (first | (go_at_call 129; with_reducible refine (isnan_any _ _).mono ?_; rintro e w' ⟨rfl, rfl⟩))
    go_ret
    exact ⟨rfl, rfl⟩

theorem box_alloc {w : World} {b o : Nat} {v : Value} {x : Obj} (h : w.cell? ⟨b, o, none⟩ = some v) : (w.alloc x).cell? ⟨b, o, none⟩ = some v := (Ext.new w x).cell h
theorem box_drew {w : World} {b o : Nat} {v : Value} (h : w.cell? ⟨b, o, none⟩ = some v) : w.drew.cell? ⟨b, o, none⟩ = some v := h

set_option maxHeartbeats 1000000 in
set_option maxRecDepth 100000 in
theorem closure_any {k : Int} {T : TypeId} {fk fr fl : Nat} (I : KI k T fk fr fl) (B : Nat) (y x : Int) (w : World) (hy : U64 y) (hx : U64 x) (hB : w.cell? ⟨B, 0, none⟩ = some (.iface T kE)) :
    Calls Tryz.prog 123 #[.int .u64 y, .int .u64 x, .pointer (some ⟨B, 0, none⟩)] w fun e w' => e = .returned (.int .i64 (cmpI (ordK k y) (ordK k x))) ∧ Ext w w' := by
  have h1 := I.rm
  have h2 := I.er
  have h3 := Lib.hid (fun w => I.cr x w hx)
  have h4 := Lib.hid (fun w => I.cr y w hy)
  clear I hx hy
  go_enter Tryz.func123, Tryz.ntmps123
  go_wp2_with (fail)
  go_region_held3 (fun w' => w'.cell? ⟨B, 0, none⟩ = some (.iface T kE))
    (repeat (first | (with_reducible assumption) | (with_reducible refine box_alloc ?_) | (with_reducible refine box_drew ?_)))
    (first
      | (go_at_fn fr; (with_reducible refine (h3.out _).mono ?_); rintro e w' ⟨rfl, rfl⟩)
      | (go_at_fn fr; (with_reducible refine (h4.out _).mono ?_); rintro e w' ⟨rfl, rfl⟩)
      | (go_at_call 124; (with_reducible refine (compare_any _ _ _).mono ?_); rintro e w' ⟨rfl, rfl⟩))
  all_goals
    go_wp2_with (fail)
    go_ret
    refine ⟨rfl, ?_⟩
    repeat (first | exact Ext.refl _ | refine Ext.alloc ?_ _ | refine Ext.drew ?_)

/-- Whether a key is where it would be. -/
def hitK (k : Int) (xs : List Int) (x : Int) : Bool := match xs[posK k xs x]? with
  | some y => decide (ordK k y = ordK k x)
  | none => false
theorem hit_here {k : Int} {xs : List Int} {x : Int} (hx : U64 x) (mx : meantK k x = x) (hu : ∀ y ∈ xs, U64 y ∧ meantK k y = y) : hitK k xs x = hereK xs (posK k xs x) x := by
  unfold hitK hereK
  cases h : xs[posK k xs x]? with
  | none => simp
  | some y =>
    have := hu y (List.mem_of_getElem? h)
    by_cases e : y = x
    · subst e; simp
    · have e2 : ordK k y ≠ ordK k x := fun c => e (ord_inj this.1 hx this.2 mx c)
      simp [e, e2]

set_option maxHeartbeats 4000000 in
set_option maxRecDepth 1000000 in
theorem search_any {k : Int} {T : TypeId} {fk fr fl : Nat} (I : KI k T fk fr fl) (B : Nat) (sl : Option Addr) (n c : Nat) (xs : List Int) (x : Int) (w : World) (hW : WS w sl n c xs) (hx : U64 x) (hr : RisingK k xs) (hB : w.cell? ⟨B, 0, none⟩ = some (.iface T kE)) :
    Calls Tryz.prog 122 #[.slice sl n c, .int .u64 x, .func (.func 123) #[] #[.pointer (some ⟨B, 0, none⟩)]] w fun e w' =>
      e = .returned (.tuple #[.int .i64 (posK k xs x : Nat), .bool (hitK k xs x)]) ∧ Ext w w' := by
  have eg : ∀ a b w, (callFunc 123 #[a, b, .pointer (some ⟨B, 0, none⟩)]).run Tryz.prog w = .ok (.enter 123 #[a, b, .pointer (some ⟨B, 0, none⟩)]) w := fun a b w => enters_of Tryz.func123 (by kernel_rfl) rfl _ w
  have HC : RowKit.Hid (∀ (W : World) (y : Int), Ext w W → U64 y → Calls Tryz.prog 123 #[.int .u64 y, .int .u64 x, .pointer (some ⟨B, 0, none⟩)] W fun e w' => e = .returned (.int .i64 (cmpI (ordK k y) (ordK k x))) ∧ Ext W w') :=
    Lib.hid fun W y hE hy => closure_any I B y x W hy hx (hE.cell hB)
  have hn := hW.le
  have HW := Lib.hid hW
  have HR := Lib.hid hr
  have hlen := Lib.hid hW.len
  generalize hP : posK k xs x = P
  generalize hH : hitK k xs x = R
  have HP := Lib.hid hP
  have HH := Lib.hid hH
  clear hP hH I hx hB hW hr
  by_cases h0 : n = 0
  · subst h0
    have hz : P = 0 := by rw [← HP.out]; have := pos_le k xs x; rw [hlen.out] at this; omega
    have hq : R = false := by
      rw [← HH.out]; unfold hitK
      have : xs = [] := List.eq_nil_of_length_eq_zero hlen.out
      subst this; rfl
    subst hz hq
    go_enter Tryz.func122, Tryz.ntmps122
    go_wp2
    go_rounds 1
    go_ret2
    exact ⟨rfl, Ext.refl _⟩
  obtain ⟨b, o, rfl⟩ := HW.out.addr (Nat.pos_of_ne_zero h0)
  go_enter Tryz.func122, Tryz.ntmps122
  go_wp2
  go_loopg [9, 10] n (fun kx s9 s10 wr => ∃ lo hi : Nat, s9 = .int .i64 lo ∧ s10 = .int .i64 hi ∧ lo ≤ hi ∧ hi ≤ n ∧ hi - lo ≤ kx ∧ RowKit.Hid (Ext w wr) ∧
    RowKit.Hid ((∀ (t : Nat) y, t < lo → xs[t]? = some y → ordK k y < ordK k x) ∧ (∀ (t : Nat) y, hi ≤ t → xs[t]? = some y → ¬ ordK k y < ordK k x)))
  case atStart => exact ⟨0, n, rfl, rfl, Nat.zero_le _, Nat.le_refl _, by omega, Lib.hid (Ext.refl _), Lib.hid ⟨fun t y ht => absurd ht (Nat.not_lt_zero _), fun t y h1 h2 => by
      have := (List.getElem?_eq_some_iff.1 h2).1; rw [hlen.out] at this; omega⟩⟩
  case round =>
    obtain ⟨lo, hi, rfl, rfl, hlh, hin, hg, S1, J⟩ := hrel
    by_cases hlt : lo < hi
    · obtain ⟨y, hy, hyu, b', o', eb, hyc⟩ := HW.out.get (k := (lo + hi) / 2) (by omega)
      cases eb
      have cm := S1.out.cell hyc
      have hc := HC.out _ y S1.out hyu
      have Y := Lib.hid hy
      clear hyc hyu hy
      by_cases hyx : ordK k y < ordK k x
      · have e1 : cmpI (ordK k y) (ordK k x) = -1 := by unfold cmpI; rw [if_pos hyx]
        rw [e1] at hc
        have HYX := Lib.hid hyx
        clear e1 hyx
        go_wp2_with (go_at_call 123; (with_reducible refine hc.mono ?_); rintro e w' ⟨rfl, hE⟩)
        go_roundg (hi - ((lo + hi) / 2 + 1))
        case measure => omega
        case rel =>
          refine ⟨(lo + hi) / 2 + 1, hi, by rw [show ((lo : Int) + (hi : Int)) / 2 + 1 = (((lo + hi) / 2 + 1 : Nat) : Int) by omega], rfl, by omega, hin, Nat.le_refl _, Lib.hid (S1.out.trans hE), Lib.hid ⟨fun t z ht hz => ?_, J.out.2⟩⟩
          by_cases c2 : t = (lo + hi) / 2
          · subst c2; rw [Y.out] at hz; cases hz; exact HYX.out
          · exact Int.lt_trans (HR.out.lt hz Y.out (by omega)) HYX.out
      · have e1 : ¬ cmpI (ordK k y) (ordK k x) < 0 := fun h => hyx (cmpI_neg.1 h)
        generalize cmpI (ordK k y) (ordK k x) = cv at hc e1
        have HYX := Lib.hid hyx
        clear hyx
        go_wp2_with (go_at_call 123; (with_reducible refine hc.mono ?_); rintro e w' ⟨rfl, hE⟩)
        go_roundg ((lo + hi) / 2 - lo)
        case measure => omega
        case rel =>
          refine ⟨lo, (lo + hi) / 2, rfl, by rw [show ((lo : Int) + (hi : Int)) / 2 = (((lo + hi) / 2 : Nat) : Int) by omega], by omega, by omega, Nat.le_refl _, Lib.hid (S1.out.trans hE), Lib.hid ⟨J.out.1, fun t z ht hz => ?_⟩⟩
          by_cases c2 : t = (lo + hi) / 2
          · subst c2; rw [Y.out] at hz; cases hz; exact HYX.out
          · have := HR.out.lt Y.out hz (by omega)
            have := HYX.out
            omega
    · obtain rfl : hi = lo := by omega
      have ecnt : P = hi := by
        rw [← HP.out]
        exact pos_eq (by rw [hlen.out]; exact hin) (fun t y ht hy => J.out.1 t y ht hy) (fun y hy => J.out.2 hi y (Nat.le_refl _) hy)
      subst ecnt
      by_cases hn2 : P < n
      · obtain ⟨y, hy, hyu, b', o', eb, hyc⟩ := HW.out.get hn2
        cases eb
        have cm := S1.out.cell hyc
        have hc := HC.out _ y S1.out hyu
        have hR : R = decide (cmpI (ordK k y) (ordK k x) = 0) := by
          rw [← HH.out]; unfold hitK; rw [HP.out, hy]; simp only [cmpI_zero]
        generalize cmpI (ordK k y) (ordK k x) = cv at hc hR
        clear hyc hyu hy
        subst hR
        go_wp2_with (go_at_call 123; (with_reducible refine hc.mono ?_); rintro e w' ⟨rfl, hE⟩)
        go_ret2
        exact ⟨rfl, S1.out.trans hE⟩
      · have hq : R = false := by
          rw [← HH.out]; unfold hitK; rw [HP.out, List.getElem?_eq_none (by rw [hlen.out]; omega)]
        subst hq
        go_wp2
        go_ret2
        exact ⟨rfl, S1.out⟩

end Go.Proofs.YtdipddnnckfnmaaGreat.Lan

/- LanKey:
  find, place, next and look of what has keys: the calls that change nothing. Conditions: the keys rise, and are written as themselves; the state lies where it is said to.
-/
namespace Go.Proofs.YtdipddnnckfnmaaGreat.Lan
open Go.RowKit (Below intOf)
open Go.Proofs.YtdipddnnckfnmaaGreat.Aut

set_option maxHeartbeats 1000000 in
set_option maxRecDepth 100000 in
theorem find_any {k : Int} {T : TypeId} {fk fr fl : Nat} (I : KI k T fk fr fl) (m x : Int) (B : Nat) (sl : Option Addr) (n c : Nat) (xs : List Int) (w : World) (hW : WS w sl n c xs) (hx : U64 x) (hr : RisingK k xs) (hB : w.cell? ⟨B, 1, none⟩ = some (.slice sl n c)) :
    Calls Tryz.prog 114 #[kd T m, .pointer (some ⟨B, 0, none⟩), .int .u64 x] w fun e w' => e = .returned (.tuple #[.int .i64 (posK k xs x : Nat), .bool (hitK k xs x)]) ∧ Ext w w' := by
  have hmf : ∀ (fn : Fn) (first cap : Array Value) (w : World), (Instr.makeFunc fn first cap).run Tryz.prog w = .ok (.func fn first cap) w := fun _ _ _ _ => rfl
  have hK : (w.alloc (kb T m)).cell? ⟨w.heap.size, 0, none⟩ = some (.iface T kE) := by unfold World.cell?; rw [World.alloc_heap_new]; rfl
  have HS := Lib.hid (search_any I w.heap.size sl n c xs x (w.alloc (kb T m)) (hW.ext (Ext.new w _)) hx hr hK)
  have hB1 : (w.alloc (kb T m)).cell? ⟨B, 1, none⟩ = some (.slice sl n c) := box_alloc hB
  clear hK I hx hr hW hB
  dsimp only [kd, kb] at *
  go_enter Tryz.func114, Tryz.ntmps114
  go_wp2_with (first | (go_at_call 122; (with_reducible refine HS.out.mono ?_); rintro e w' ⟨rfl, hE⟩))
  go_ret2
  exact ⟨rfl, (Ext.new w _).trans hE⟩

theorem kb_new (T : TypeId) (m : Int) (w : World) : (w.alloc (kb T m)).cell? ⟨w.heap.size, 0, none⟩ = some (.iface T kE) ∧ (w.alloc (kb T m)).cell? ⟨w.heap.size, 1, none⟩ = some (.int .i64 m) := by
  constructor <;> (unfold World.cell?; rw [World.alloc_heap_new]; rfl)

set_option maxHeartbeats 1000000 in
set_option maxRecDepth 100000 in
theorem place_may {k : Int} {T : TypeId} {fk fr fl : Nat} (I : KI k T fk fr fl) (m x : Int) (B : Nat) (sl : Option Addr) (n c : Nat) (xs : List Int) (w : World) (hW : WS w sl n c xs) (hx : U64 x) (hr : RisingK k xs) (hB : w.cell? ⟨B, 1, none⟩ = some (.slice sl n c)) (hm : mayK k x = true) (h : Bool) (hh : hitK k xs (meantK k x) = h) :
    Calls Tryz.prog 126 #[kd T m, .pointer (some ⟨B, 0, none⟩), .int .u64 x] w fun e w' => (if h then e = .returned (.int .i64 (posK k xs (meantK k x) : Nat)) else e = .panicked (noE 12)) ∧ Ext w w' := by
  obtain ⟨k0, k1⟩ := kb_new T m w
  have HK := Lib.hid (fun W => keyOf_yes I m x W hx hm)
  have HF : RowKit.Hid (∀ W, Ext w W → Calls Tryz.prog 114 #[kd T m, .pointer (some ⟨B, 0, none⟩), .int .u64 (meantK k x)] W fun e w' => e = .returned (.tuple #[.int .i64 (posK k xs (meantK k x) : Nat), .bool h]) ∧ Ext W w') :=
    Lib.hid fun W hE => hh ▸ find_any I m (meantK k x) B sl n c xs W (hW.ext hE) (meant_u hx) hr (hE.cell hB)
  generalize posK k xs (meantK k x) = P at *
  generalize meantK k x = X at *
  have X0 := Lib.hid (Ext.new w (kb T m))
  clear I hW hx hr hB hh hm
  dsimp only [kd, kb] at *
  cases h
  all_goals
    go_enter Tryz.func126, Tryz.ntmps126
    go_wp2_with (fail)
    go_region_held3 (fun w' => w'.cell? ⟨w.heap.size, 0, none⟩ = some (.iface T kE) ∧ w'.cell? ⟨w.heap.size, 1, none⟩ = some (.int .i64 m))
      (repeat' (first | (with_reducible assumption) | (with_reducible refine And.intro ?_ ?_) | (with_reducible refine box_alloc ?_) | (with_reducible refine box_drew ?_) | (with_reducible refine Ext.cell ‹_› ?_)))
      (first
        | (go_at_call 108; (with_reducible refine (HK.out _).mono ?_); rintro e w' ⟨rfl, rfl⟩)
        | (go_at_call 114; (with_reducible refine (HF.out _ (by repeat (first | exact X0.out | refine Ext.alloc ?_ _ | refine Ext.drew ?_))).mono ?_); rintro e w' ⟨rfl, hE⟩))
    all_goals
      have hE2 : Ext w w' := Ext.trans (by repeat (first | exact X0.out | refine Ext.alloc ?_ _ | refine Ext.drew ?_)) hE
      replace hE := Lib.hid hE2
      clear hE2
      go_wp2_with (first
        | (go_at_call 119; (with_reducible refine (refuse_no _ _).mono ?_); rintro e w' ⟨rfl, rfl⟩)
        | (go_at_call 119; (with_reducible refine (refuse_yes _ _).mono ?_); rintro e w' ⟨rfl, rfl⟩))
      first
        | (go_ret; exact ⟨rfl, hE.out⟩)
        | exact ⟨rfl, rfl, hE.out⟩

set_option maxHeartbeats 1000000 in
set_option maxRecDepth 100000 in
theorem place_bad {k : Int} {T : TypeId} {fk fr fl : Nat} (I : KI k T fk fr fl) (m x : Int) (B : Nat) (w : World) (hx : U64 x) (hm : mayK k x = false) :
    Calls Tryz.prog 126 #[kd T m, .pointer (some ⟨B, 0, none⟩), .int .u64 x] w fun e w' => e = .panicked (noE 10) ∧ Ext w w' := by
  have k01 := kb_new T m w
  have HK := Lib.hid (fun W => keyOf_no I m x W hx hm)
  have X0 := Lib.hid (Ext.new w (kb T m))
  clear I hx hm
  dsimp only [kd, kb] at *
  go_enter Tryz.func126, Tryz.ntmps126
  go_wp2_with (fail)
  refine wp_region_held_drew (S := fun w' => w'.cell? ⟨w.heap.size, 0, none⟩ = some (.iface T kE) ∧ w'.cell? ⟨w.heap.size, 1, none⟩ = some (.int .i64 m)) (by kernel_rfl) k01 (fun hHeld => ?_)
  refine wpAnyH_take (i := 0) (v := (.agg #[.iface T kE, .int .i64 m])) rfl (by kernel_rfl) (by kernel_rfl) (by kernel_rfl) (fun _ _ _ h => h) (Or.inl ⟨by rfl, ?_⟩) (by assumption) ?_
  · rintro w ⟨h1, h2⟩
    go_simp
  refine wpAnyH_take (i := 1) (v := .pointer (some ⟨B, 0, none⟩)) rfl (by kernel_rfl) (by kernel_rfl) (by kernel_rfl) (fun _ _ _ h => h) (Or.inl ⟨by rfl, ?_⟩) (by assumption) ?_
  · rintro w ⟨h1, h2⟩
    go_simp
  refine wpAnyH_take (i := 2) (v := (.agg #[.iface T kE, .int .i64 m])) rfl (by kernel_rfl) (by kernel_rfl) (by kernel_rfl) (fun _ _ _ h => h) (Or.inl ⟨by rfl, ?_⟩) (by assumption) ?_
  · rintro w ⟨h1, h2⟩
    go_simp
  refine wpAnyH_take (i := 3) (v := .int .u64 x) rfl (by kernel_rfl) (by kernel_rfl) (by kernel_rfl) (fun _ _ _ h => h) (Or.inl ⟨by rfl, ?_⟩) (by assumption) ?_
  · rintro w ⟨h1, h2⟩
    go_simp
  refine wpAnyH_ready (rs := [4]) (by kernel_rfl) (by simp) ?_
  refine AllReadyH.cons rfl (fun K hK => ?_) AllReadyH.nil
  go_simp
  refine (HK.out _).mono ?_
  rintro e w' ⟨rfl, rfl⟩
  exact ⟨rfl, rfl, by repeat (first | exact X0.out | refine Ext.alloc ?_ _ | refine Ext.drew ?_)⟩

/-- A call, as it is handed to a method. -/
abbrev ov (o k v : Int) : Value := .agg #[.int .i64 o, .int .u64 k, .int .u64 v]
abbrev ob (o k v : Int) : Obj := .cells #[.int .i64 o, .int .u64 k, .int .u64 v] 32
theorem two_new (T : TypeId) (m o k v : Int) (w : World) : (((w.alloc (kb T m)).alloc (ob o k v)).cell? ⟨w.heap.size, 0, none⟩ = some (.iface T kE) ∧ ((w.alloc (kb T m)).alloc (ob o k v)).cell? ⟨w.heap.size, 1, none⟩ = some (.int .i64 m)) ∧
    ((w.alloc (kb T m)).alloc (ob o k v)).cell? ⟨w.heap.size + 1, 0, none⟩ = some (.int .i64 o) ∧ ((w.alloc (kb T m)).alloc (ob o k v)).cell? ⟨w.heap.size + 1, 1, none⟩ = some (.int .u64 k) ∧ ((w.alloc (kb T m)).alloc (ob o k v)).cell? ⟨w.heap.size + 1, 2, none⟩ = some (.int .u64 v) := by
  obtain ⟨h0, h1⟩ := kb_new T m w
  have hs : (w.alloc (kb T m)).heap.size = w.heap.size + 1 := by simp
  refine ⟨⟨box_alloc h0, box_alloc h1⟩, ?_, ?_, ?_⟩ <;> (rw [← hs]; unfold World.cell?; rw [World.alloc_heap_new]; rfl)

set_option maxHeartbeats 1000000 in
set_option maxRecDepth 100000 in
theorem next_bad {k : Int} {T : TypeId} {fk fr fl : Nat} (I : KI k T fk fr fl) (m o x v : Int) (B : Nat) (w : World) (hx : U64 x) (hm : mayK k x = false) :
    Calls Tryz.prog 128 #[kd T m, .pointer (some ⟨B, 0, none⟩), ov o x v] w fun e w' => e = .panicked (noE 10) ∧ Ext w w' := by
  have k01 := two_new T m o x v w
  have HK := Lib.hid (fun W => keyOf_no I m x W hx hm)
  have X0 := Lib.hid ((Ext.new w (kb T m)).alloc (ob o x v))
  clear I hx hm
  dsimp only [kd, kb, ov, ob] at *
  go_enter Tryz.func128, Tryz.ntmps128
  go_wp2_with (fail)
  refine wp_region_held_drew (S := (fun w' => (w'.cell? ⟨w.heap.size, 0, none⟩ = some (.iface T kE) ∧ w'.cell? ⟨w.heap.size, 1, none⟩ = some (.int .i64 m)) ∧ w'.cell? ⟨w.heap.size + 1, 0, none⟩ = some (.int .i64 o) ∧ w'.cell? ⟨w.heap.size + 1, 1, none⟩ = some (.int .u64 x) ∧ w'.cell? ⟨w.heap.size + 1, 2, none⟩ = some (.int .u64 v))) (by kernel_rfl) k01 (fun hHeld => ?_)
  refine wpAnyH_take (i := 0) (v := (.agg #[.iface T kE, .int .i64 m])) rfl (by kernel_rfl) (by kernel_rfl) (by kernel_rfl) (fun _ _ _ h => h) (Or.inl ⟨by rfl, ?_⟩) (by assumption) ?_
  · rintro w ⟨⟨h1, h2⟩, h3, h4, h5⟩
    go_simp
  refine wpAnyH_take (i := 1) (v := .pointer (some ⟨B, 0, none⟩)) rfl (by kernel_rfl) (by kernel_rfl) (by kernel_rfl) (fun _ _ _ h => h) (Or.inl ⟨by rfl, ?_⟩) (by assumption) ?_
  · rintro w ⟨⟨h1, h2⟩, h3, h4, h5⟩
    go_simp
  refine wpAnyH_take (i := 2) (v := (.agg #[.iface T kE, .int .i64 m])) rfl (by kernel_rfl) (by kernel_rfl) (by kernel_rfl) (fun _ _ _ h => h) (Or.inl ⟨by rfl, ?_⟩) (by assumption) ?_
  · rintro w ⟨⟨h1, h2⟩, h3, h4, h5⟩
    go_simp
  refine wpAnyH_take (i := 3) (v := .pointer (some ⟨w.heap.size + 1, 1, none⟩)) rfl (by kernel_rfl) (by kernel_rfl) (by kernel_rfl) (fun _ _ _ h => h) (Or.inl ⟨by rfl, ?_⟩) (by assumption) ?_
  · rintro w ⟨⟨h1, h2⟩, h3, h4, h5⟩
    go_simp
  refine wpAnyH_take (i := 4) (v := .int .u64 x) rfl (by kernel_rfl) (by kernel_rfl) (by kernel_rfl) (fun _ _ _ h => h) (Or.inl ⟨by rfl, ?_⟩) (by assumption) ?_
  · rintro w ⟨⟨h1, h2⟩, h3, h4, h5⟩
    go_simp
  refine wpAnyH_ready (rs := [5]) (by kernel_rfl) (by simp) ?_
  refine AllReadyH.cons rfl (fun K hK => ?_) AllReadyH.nil
  go_simp
  refine (HK.out _).mono ?_
  rintro e w' ⟨rfl, rfl⟩
  exact ⟨rfl, rfl, by repeat (first | exact X0.out | refine Ext.alloc ?_ _ | refine Ext.drew ?_)⟩

/-- What a call tells: a word, or a refusal. -/
def TE (r : Rs) (e : Ending) : Prop := (r.1 = 0 ∧ e = .returned (.int .u64 r.2)) ∨ (r.1 ≠ 0 ∧ r.2 = 0 ∧ e = .panicked (noE r.1))
theorem te_ret (x : Int) : TE (0, x) (.returned (.int .u64 x)) := .inl ⟨rfl, rfl⟩
theorem te_no {x : Int} (h : x ≠ 0) : TE (x, 0) (.panicked (noE x)) := .inr ⟨h, rfl, rfl⟩

set_option maxHeartbeats 2000000 in
set_option maxRecDepth 100000 in
theorem next_may {k : Int} {T : TypeId} {fk fr fl : Nat} (I : KI k T fk fr fl) (m o x v : Int) (B : Nat) (sl : Option Addr) (n c : Nat) (xs : List Int) (w : World) (hW : WS w sl n c xs) (hx : U64 x) (hr : RisingK k xs) (hB : w.cell? ⟨B, 1, none⟩ = some (.slice sl n c)) (hm : mayK k x = true)
    (h : Bool) (hh : hitK k xs (meantK k x) = h) (P : Nat) (hP : posK k xs (meantK k x) = P) (J : Nat) (hJ : J = if h = true ∧ v ≠ 0 then P + 1 else P) (s : St) (hs : s.keys = xs) :
    Calls Tryz.prog 128 #[kd T m, .pointer (some ⟨B, 0, none⟩), ov o x v] w fun e w' => TE (nextS s J).2 e ∧ Ext w w' := by
  have k01 := two_new T m o x v w
  have HK := Lib.hid (fun W => keyOf_yes I m x W hx hm)
  have HF : RowKit.Hid (∀ W, Ext w W → Calls Tryz.prog 114 #[kd T m, .pointer (some ⟨B, 0, none⟩), .int .u64 (meantK k x)] W fun e w' => e = .returned (.tuple #[.int .i64 (P : Nat), .bool h]) ∧ Ext W w') :=
    Lib.hid fun W hE => hh ▸ hP ▸ find_any I m (meantK k x) B sl n c xs W (hW.ext hE) (meant_u hx) hr (hE.cell hB)
  have hPn : P ≤ n := by rw [← hP, ← hW.len]; exact pos_le _ _ _
  have hPh : h = true → P < n := fun e => by
    subst hP; rw [e] at hh; unfold hitK at hh
    cases g : xs[posK k xs (meantK k x)]? with
    | none => rw [g] at hh; cases hh
    | some y => rw [← hW.len]; exact (List.getElem?_eq_some_iff.1 g).1
  have hn := hW.le
  have X0 := Lib.hid ((Ext.new w (kb T m)).alloc (ob o x v))
  obtain ⟨⟨k1, k1b⟩, k2, k3, k4⟩ := k01
  have HB := Lib.hid hB
  have HW := Lib.hid hW
  have HS := Lib.hid hs
  clear I hW hx hr hB hh hm hs
  generalize meantK k x = X at *
  clear hP
  dsimp only [kd, kb, ov, ob] at *
  have key : RowKit.Hid (TE (nextS s J).2 (if J = n then .panicked (noE 12) else .returned (.int .u64 (xs.getD J 0)))) := Lib.hid (by
    have hl := HW.out.len
    by_cases e : J = n
    · rw [if_pos e]; unfold nextS; rw [HS.out, List.getElem?_eq_none (by omega)]; exact te_no (by decide)
    · have hlt : J < xs.length := by
        rw [hl]; rw [hJ] at e ⊢
        split at e
        · rename_i c1; rw [if_pos c1]; have := hPh c1.1; omega
        · rename_i c1; rw [if_neg c1]; omega
      rw [if_neg e]; unfold nextS; rw [HS.out, List.getElem?_eq_getElem hlt, List.getD_eq_getElem?_getD, List.getElem?_eq_getElem hlt]; exact te_ret _)
  have main : ∀ (W : World), Ext w W → RowKit.Hid (J < n → ∃ b o', sl = some ⟨b, o', none⟩ ∧ W.cell? ⟨b, o' + J, none⟩ = some (.int .u64 (xs.getD J 0))) := fun W hE => Lib.hid fun hJn => by
    obtain ⟨y, hy, _, b, o', eb, hyc⟩ := HW.out.get hJn
    exact ⟨b, o', eb, by rw [List.getD_eq_getElem?_getD, hy]; exact hE.cell hyc⟩
  by_cases hv : v = 0
  · have hv1 : (v != 0) = false := by simp [hv]
    simp only [hv, ne_eq, not_true_eq_false, and_false, if_false] at hJ
    cases h
    all_goals
      subst hJ
      clear hv
      go_enter Tryz.func128, Tryz.ntmps128
      go_wp2_with (fail)
      go_region_held3 (fun w' => (w'.cell? ⟨w.heap.size, 0, none⟩ = some (.iface T kE) ∧ w'.cell? ⟨w.heap.size, 1, none⟩ = some (.int .i64 m)) ∧ w'.cell? ⟨w.heap.size + 1, 0, none⟩ = some (.int .i64 o) ∧ w'.cell? ⟨w.heap.size + 1, 1, none⟩ = some (.int .u64 x) ∧ w'.cell? ⟨w.heap.size + 1, 2, none⟩ = some (.int .u64 v))
        (repeat' (first | (with_reducible assumption) | (with_reducible refine And.intro ?_ ?_) | (with_reducible refine box_alloc ?_) | (with_reducible refine box_drew ?_) | (with_reducible refine Ext.cell ‹_› ?_)))
        (first
          | (go_at_call 108; (with_reducible refine (HK.out _).mono ?_); rintro e w' ⟨rfl, rfl⟩)
          | (go_at_call 114; (with_reducible refine (HF.out _ (by repeat (first | exact X0.out | refine Ext.alloc ?_ _ | refine Ext.drew ?_))).mono ?_); rintro e w' ⟨rfl, hE⟩))
      have hE2 : Ext w w' := Ext.trans (by repeat (first | exact X0.out | refine Ext.alloc ?_ _ | refine Ext.drew ?_)) hE
      obtain ⟨_, _, _, q3⟩ := ‹(_ ∧ _) ∧ _ ∧ _ ∧ _›
      have q4 := hE2.cell HB.out
      have q5 := main w' hE2
      have hE3 := Lib.hid hE2
      clear hE hE2 main HK HF HB HW k1 k1b k2 k3 k4 X0
      by_cases hq : J = n
      · have hq2 : (J : Int) = (n : Int) := by omega
        have kk := key.out
        rw [if_pos hq] at kk
        replace kk := Lib.hid kk
        clear key q5
        go_wp2_with (first
          | (go_at_call 119; (with_reducible refine (refuse_yes _ _).mono ?_); rintro e w' ⟨rfl, rfl⟩))
        exact ⟨rfl, kk.out, hE3.out⟩
      · have hq2 : ¬ (J : Int) = (n : Int) := by omega
        have hq3 : decide ((J : Int) = (n : Int)) = false := decide_eq_false hq2
        have hq4 : ((J : Int) == (n : Int)) = false := by simpa using hq2
        have hq5 : decide (J = n) = false := decide_eq_false hq
        have kk := key.out
        rw [if_neg hq] at kk
        replace kk := Lib.hid kk
        clear key
        obtain ⟨b, o', rfl, q6⟩ := q5.out (by omega)
        clear q5
        generalize xs.getD J 0 = yy at *
        go_wp2_with (first
          | (go_at_call 119; (with_reducible refine (refuse_no _ _).mono ?_); rintro e w' ⟨rfl, rfl⟩))
        go_ret
        exact ⟨kk.out, hE3.out⟩
  · have hv1 : (v != 0) = true := by simp [hv]
    simp only [hv, ne_eq, not_false_eq_true, and_true] at hJ
    cases h
    · simp only [Bool.false_eq_true, if_false] at hJ
      subst hJ
      clear hv
      go_enter Tryz.func128, Tryz.ntmps128
      go_wp2_with (fail)
      go_region_held3 (fun w' => (w'.cell? ⟨w.heap.size, 0, none⟩ = some (.iface T kE) ∧ w'.cell? ⟨w.heap.size, 1, none⟩ = some (.int .i64 m)) ∧ w'.cell? ⟨w.heap.size + 1, 0, none⟩ = some (.int .i64 o) ∧ w'.cell? ⟨w.heap.size + 1, 1, none⟩ = some (.int .u64 x) ∧ w'.cell? ⟨w.heap.size + 1, 2, none⟩ = some (.int .u64 v))
        (repeat' (first | (with_reducible assumption) | (with_reducible refine And.intro ?_ ?_) | (with_reducible refine box_alloc ?_) | (with_reducible refine box_drew ?_) | (with_reducible refine Ext.cell ‹_› ?_)))
        (first
          | (go_at_call 108; (with_reducible refine (HK.out _).mono ?_); rintro e w' ⟨rfl, rfl⟩)
          | (go_at_call 114; (with_reducible refine (HF.out _ (by repeat (first | exact X0.out | refine Ext.alloc ?_ _ | refine Ext.drew ?_))).mono ?_); rintro e w' ⟨rfl, hE⟩))
      have hE2 : Ext w w' := Ext.trans (by repeat (first | exact X0.out | refine Ext.alloc ?_ _ | refine Ext.drew ?_)) hE
      obtain ⟨_, _, _, q3⟩ := ‹(_ ∧ _) ∧ _ ∧ _ ∧ _›
      have q4 := hE2.cell HB.out
      have q5 := main w' hE2
      have hE3 := Lib.hid hE2
      clear hE hE2 main HK HF HB HW k1 k1b k2 k3 k4 X0
      by_cases hq : J = n
      · have hq2 : (J : Int) = (n : Int) := by omega
        have kk := key.out
        rw [if_pos hq] at kk
        replace kk := Lib.hid kk
        clear key q5
        go_wp2_with (first
          | (go_at_call 119; (with_reducible refine (refuse_yes _ _).mono ?_); rintro e w' ⟨rfl, rfl⟩))
        exact ⟨rfl, kk.out, hE3.out⟩
      · have hq2 : ¬ (J : Int) = (n : Int) := by omega
        have hq3 : decide ((J : Int) = (n : Int)) = false := decide_eq_false hq2
        have hq4 : ((J : Int) == (n : Int)) = false := by simpa using hq2
        have hq5 : decide (J = n) = false := decide_eq_false hq
        have kk := key.out
        rw [if_neg hq] at kk
        replace kk := Lib.hid kk
        clear key
        obtain ⟨b, o', rfl, q6⟩ := q5.out (by omega)
        clear q5
        generalize xs.getD J 0 = yy at *
        go_wp2_with (first
          | (go_at_call 119; (with_reducible refine (refuse_no _ _).mono ?_); rintro e w' ⟨rfl, rfl⟩))
        go_ret
        exact ⟨kk.out, hE3.out⟩
    · simp only [if_true] at hJ
      have hPh2 : P < n := hPh rfl
      subst hJ
      clear hv
      go_enter Tryz.func128, Tryz.ntmps128
      go_wp2_with (fail)
      go_region_held3 (fun w' => (w'.cell? ⟨w.heap.size, 0, none⟩ = some (.iface T kE) ∧ w'.cell? ⟨w.heap.size, 1, none⟩ = some (.int .i64 m)) ∧ w'.cell? ⟨w.heap.size + 1, 0, none⟩ = some (.int .i64 o) ∧ w'.cell? ⟨w.heap.size + 1, 1, none⟩ = some (.int .u64 x) ∧ w'.cell? ⟨w.heap.size + 1, 2, none⟩ = some (.int .u64 v))
        (repeat' (first | (with_reducible assumption) | (with_reducible refine And.intro ?_ ?_) | (with_reducible refine box_alloc ?_) | (with_reducible refine box_drew ?_) | (with_reducible refine Ext.cell ‹_› ?_)))
        (first
          | (go_at_call 108; (with_reducible refine (HK.out _).mono ?_); rintro e w' ⟨rfl, rfl⟩)
          | (go_at_call 114; (with_reducible refine (HF.out _ (by repeat (first | exact X0.out | refine Ext.alloc ?_ _ | refine Ext.drew ?_))).mono ?_); rintro e w' ⟨rfl, hE⟩))
      have hE2 : Ext w w' := Ext.trans (by repeat (first | exact X0.out | refine Ext.alloc ?_ _ | refine Ext.drew ?_)) hE
      obtain ⟨_, _, _, q3⟩ := ‹(_ ∧ _) ∧ _ ∧ _ ∧ _›
      have q4 := hE2.cell HB.out
      have q5 := main w' hE2
      have hE3 := Lib.hid hE2
      clear hE hE2 main HK HF HB HW k1 k1b k2 k3 k4 X0
      by_cases hq : (P + 1) = n
      · have hq2 : ((P : Int) + 1) = (n : Int) := by omega
        have kk := key.out
        rw [if_pos hq] at kk
        replace kk := Lib.hid kk
        clear key q5
        go_wp2_with (first
          | (go_at_call 119; (with_reducible refine (refuse_yes _ _).mono ?_); rintro e w' ⟨rfl, rfl⟩))
        exact ⟨rfl, kk.out, hE3.out⟩
      · have hq2 : ¬ ((P : Int) + 1) = (n : Int) := by omega
        have hq3 : decide (((P : Int) + 1) = (n : Int)) = false := decide_eq_false hq2
        have hq4 : (((P : Int) + 1) == (n : Int)) = false := by simpa using hq2
        have hq5 : decide (P + 1 = n) = false := decide_eq_false hq
        have kk := key.out
        rw [if_neg hq] at kk
        replace kk := Lib.hid kk
        clear key
        obtain ⟨b, o', rfl, q6⟩ := q5.out (by omega)
        clear q5
        generalize xs.getD (P + 1) 0 = yy at *
        go_wp2_with (first
          | (go_at_call 119; (with_reducible refine (refuse_no _ _).mono ?_); rintro e w' ⟨rfl, rfl⟩))
        go_ret
        exact ⟨kk.out, hE3.out⟩

end Go.Proofs.YtdipddnnckfnmaaGreat.Lan

/- LanLook:
  look, and the calls that change nothing of a set and of a table. Conditions: the keys rise, and are written as themselves; the state lies where it is said to.
-/
namespace Go.Proofs.YtdipddnnckfnmaaGreat.Lan
open Go.RowKit (Below intOf)
open Go.Proofs.YtdipddnnckfnmaaGreat.Aut

/-- What look tells. -/
def lookS (k : Int) (s : St) (c : Cl) : Rs :=
  if c.code = 8 then (if mayK k c.key = true then (nextS s (if hitK k s.keys (meantK k c.key) = true ∧ c.val ≠ 0 then posK k s.keys (meantK k c.key) + 1 else posK k s.keys (meantK k c.key))).2 else (10, 0))
  else if c.code = 9 then (0, (s.keys.length : Int)) else (10, 0)

abbrev kbt (ty T : TypeId) (m : Int) : Obj := .cells #[.iface T kE, .int .i64 m] ty
theorem two_newT (ty T : TypeId) (m o k v : Int) (w : World) : (((w.alloc (kbt ty T m)).alloc (ob o k v)).cell? ⟨w.heap.size, 0, none⟩ = some (.iface T kE) ∧ ((w.alloc (kbt ty T m)).alloc (ob o k v)).cell? ⟨w.heap.size, 1, none⟩ = some (.int .i64 m)) ∧
    ((w.alloc (kbt ty T m)).alloc (ob o k v)).cell? ⟨w.heap.size + 1, 0, none⟩ = some (.int .i64 o) ∧ ((w.alloc (kbt ty T m)).alloc (ob o k v)).cell? ⟨w.heap.size + 1, 1, none⟩ = some (.int .u64 k) ∧ ((w.alloc (kbt ty T m)).alloc (ob o k v)).cell? ⟨w.heap.size + 1, 2, none⟩ = some (.int .u64 v) := by
  have h0 : (w.alloc (kbt ty T m)).cell? ⟨w.heap.size, 0, none⟩ = some (.iface T kE) := by unfold World.cell?; rw [World.alloc_heap_new]; rfl
  have h1 : (w.alloc (kbt ty T m)).cell? ⟨w.heap.size, 1, none⟩ = some (.int .i64 m) := by unfold World.cell?; rw [World.alloc_heap_new]; rfl
  have hs : (w.alloc (kbt ty T m)).heap.size = w.heap.size + 1 := by simp
  refine ⟨⟨box_alloc h0, box_alloc h1⟩, ?_, ?_, ?_⟩ <;> (rw [← hs]; unfold World.cell?; rw [World.alloc_heap_new]; rfl)
theorem len_u64 {n : Nat} (h : n ≤ 1048576) : IntKind.u64.wrap (n : Int) = n := by simp only [IntKind.wrap_u64]; omega

/-- What is asked of an object with keys, and of the state that is handed to it. -/
structure Ky (k : Int) (T : TypeId) (fk fr fl : Nat) (B : Nat) (sl : Option Addr) (n c : Nat) (s : St) (x : Int) (w : World) : Prop where
  I : KI k T fk fr fl
  W : WS w sl n c s.keys
  x : U64 x
  r : RisingK k s.keys
  b : w.cell? ⟨B, 1, none⟩ = some (.slice sl n c)
theorem Ky.ext {k : Int} {T : TypeId} {fk fr fl B : Nat} {sl : Option Addr} {n c : Nat} {s : St} {x : Int} {w w' : World} (h : Ky k T fk fr fl B sl n c s x w) (e : Ext w w') : Ky k T fk fr fl B sl n c s x w' := ⟨h.I, h.W.ext e, h.x, h.r, e.cell h.b⟩
theorem Ky.next {k : Int} {T : TypeId} {fk fr fl B : Nat} {sl : Option Addr} {n c : Nat} {s : St} {x : Int} {w : World} (h : Ky k T fk fr fl B sl n c s x w) (m v : Int) :
    Calls Tryz.prog 128 #[kd T m, .pointer (some ⟨B, 0, none⟩), ov 8 x v] w fun e w' => TE (lookS k s ⟨8, x, v⟩) e ∧ Ext w w' := by
  unfold lookS
  rw [if_pos rfl]
  by_cases hm : mayK k x = true
  · rw [if_pos hm]
    exact next_may h.I m 8 x v B sl n c s.keys w h.W h.x h.r h.b hm _ rfl _ rfl _ rfl s rfl
  · rw [if_neg hm]
    exact (next_bad h.I m 8 x v B w h.x (by simpa using hm)).mono fun e w' hh => ⟨hh.1 ▸ te_no (by decide), hh.2⟩

set_option maxHeartbeats 1000000 in
set_option maxRecDepth 100000 in
theorem look_8 {k : Int} {T : TypeId} {fk fr fl B : Nat} {sl : Option Addr} {n c : Nat} {s : St} {x : Int} {w : World} (h : Ky k T fk fr fl B sl n c s x w) (m v : Int) :
    Calls Tryz.prog 118 #[kd T m, .pointer (some ⟨B, 0, none⟩), ov 8 x v] w fun e w' => TE (lookS k s ⟨8, x, v⟩) e ∧ Ext w w' := by
  have X0 := Lib.hid ((Ext.new w (kb T m)).alloc (ob 8 x v))
  have HN := Lib.hid ((h.ext X0.out).next m v)
  obtain ⟨⟨k1, k1b⟩, k2, k3, k4⟩ := two_newT 104 T m 8 x v w
  clear h
  dsimp only [kd, kb, kbt, ov, ob] at *
  go_enter Tryz.func118, Tryz.ntmps118
  go_wp2_with (first | (go_at_call 128; (with_reducible refine HN.out.mono ?_); rintro e w' ⟨hT, hE⟩; rcases hT with ⟨h0, rfl⟩ | ⟨h0, h1, rfl⟩))
  · go_ret
    exact ⟨.inl ⟨h0, rfl⟩, X0.out.trans hE⟩
  · exact ⟨rfl, .inr ⟨h0, h1, rfl⟩, X0.out.trans hE⟩
set_option maxHeartbeats 1000000 in
set_option maxRecDepth 100000 in
theorem look_9 {k : Int} {T : TypeId} {B : Nat} {sl : Option Addr} {n c : Nat} {s : St} {w : World} (hW : WS w sl n c s.keys) (hb : w.cell? ⟨B, 1, none⟩ = some (.slice sl n c)) (m x v : Int) :
    Calls Tryz.prog 118 #[kd T m, .pointer (some ⟨B, 0, none⟩), ov 9 x v] w fun e w' => TE (lookS k s ⟨9, x, v⟩) e ∧ Ext w w' := by
  have X0 := Lib.hid ((Ext.new w (kb T m)).alloc (ob 9 x v))
  have hb1 := X0.out.cell hb
  have hu := len_u64 hW.le
  have hl : RowKit.Hid (lookS k s ⟨9, x, v⟩ = (0, (n : Int))) := Lib.hid (by unfold lookS; rw [if_neg (by simp), if_pos rfl, hW.len])
  obtain ⟨⟨k1, k1b⟩, k2, k3, k4⟩ := two_newT 104 T m 9 x v w
  clear hW hb
  dsimp only [kd, kb, kbt, ov, ob] at *
  go_enter Tryz.func118, Tryz.ntmps118
  go_wp2_with (fail)
  go_ret
  refine ⟨?_, X0.out⟩
  rw [hl.out]
  first | exact te_ret _ | (rw [hu]; exact te_ret _)
set_option maxHeartbeats 1000000 in
set_option maxRecDepth 100000 in
theorem look_no {k : Int} {T : TypeId} {B : Nat} {s : St} {w : World} (m o x v : Int) (h8 : ¬ o = 8) (h9 : ¬ o = 9) :
    Calls Tryz.prog 118 #[kd T m, .pointer (some ⟨B, 0, none⟩), ov o x v] w fun e w' => TE (lookS k s ⟨o, x, v⟩) e ∧ Ext w w' := by
  have X0 := Lib.hid ((Ext.new w (kb T m)).alloc (ob o x v))
  have hl : RowKit.Hid (lookS k s ⟨o, x, v⟩ = (10, 0)) := Lib.hid (by unfold lookS; rw [if_neg h8, if_neg h9])
  have b8 : (o == 8) = false := by simpa using h8
  have b9 : (o == 9) = false := by simpa using h9
  obtain ⟨⟨k1, k1b⟩, k2, k3, k4⟩ := two_newT 104 T m o x v w
  dsimp only [kd, kb, kbt, ov, ob] at *
  go_enter Tryz.func118, Tryz.ntmps118
  go_wp2_with (fail)
  refine ⟨rfl, ?_, X0.out⟩
  rw [hl.out]
  exact te_no (by decide)
theorem look_any {k : Int} {T : TypeId} {fk fr fl B : Nat} {sl : Option Addr} {n c : Nat} {s : St} {x : Int} {w : World} (h : Ky k T fk fr fl B sl n c s x w) (m o v : Int) :
    Calls Tryz.prog 118 #[kd T m, .pointer (some ⟨B, 0, none⟩), ov o x v] w fun e w' => TE (lookS k s ⟨o, x, v⟩) e ∧ Ext w w' := by
  by_cases h8 : o = 8
  · subst h8; exact look_8 h m v
  · by_cases h9 : o = 9
    · subst h9; exact look_9 h.W h.b m x v
    · exact look_no m o x v h8 h9

set_option maxHeartbeats 1000000 in
set_option maxRecDepth 100000 in
theorem set_look {k : Int} {T : TypeId} {fk fr fl B : Nat} {sl : Option Addr} {n c : Nat} {s : St} {x : Int} {w : World} (h : Ky k T fk fr fl B sl n c s x w) (m o v : Int) (h5 : ¬ o = 5) (h6 : ¬ o = 6) (h7 : ¬ o = 7) :
    Calls Tryz.prog 110 #[kd T m, .pointer (some ⟨B, 0, none⟩), ov o x v] w fun e w' => TE (lookS k s ⟨o, x, v⟩) e ∧ Ext w w' := by
  have X0 := Lib.hid ((Ext.new w (kbt 106 T m)).alloc (ob o x v))
  have HN := Lib.hid (look_any (h.ext X0.out) m o v)
  have b5 : (o == 5) = false := by simpa using h5
  have b6 : (o == 6) = false := by simpa using h6
  have b7 : (o == 7) = false := by simpa using h7
  obtain ⟨⟨k1, k1b⟩, k2, k3, k4⟩ := two_newT 106 T m o x v w
  clear h h5 h6 h7
  dsimp only [kd, kb, kbt, ov, ob] at *
  go_enter Tryz.func110, Tryz.ntmps110
  go_wp2_with (first | (go_at_call 118; (with_reducible refine HN.out.mono ?_); rintro e w' ⟨hT, hE⟩; rcases hT with ⟨h0, rfl⟩ | ⟨h0, h1, rfl⟩))
  · go_ret
    exact ⟨.inl ⟨h0, rfl⟩, X0.out.trans hE⟩
  · exact ⟨rfl, .inr ⟨h0, h1, rfl⟩, X0.out.trans hE⟩
set_option maxHeartbeats 1000000 in
set_option maxRecDepth 100000 in
theorem table_look {k : Int} {T : TypeId} {fk fr fl B : Nat} {sl : Option Addr} {n c : Nat} {s : St} {x : Int} {w : World} (h : Ky k T fk fr fl B sl n c s x w) (m o v : Int) (h10 : ¬ o = 10) (h11 : ¬ o = 11) (h7 : ¬ o = 7) :
    Calls Tryz.prog 136 #[kd T m, .pointer (some ⟨B, 0, none⟩), ov o x v] w fun e w' => TE (lookS k s ⟨o, x, v⟩) e ∧ Ext w w' := by
  have X0 := Lib.hid ((Ext.new w (kbt 107 T m)).alloc (ob o x v))
  have HN := Lib.hid (look_any (h.ext X0.out) m o v)
  have b10 : (o == 10) = false := by simpa using h10
  have b11 : (o == 11) = false := by simpa using h11
  have b7 : (o == 7) = false := by simpa using h7
  obtain ⟨⟨k1, k1b⟩, k2, k3, k4⟩ := two_newT 107 T m o x v w
  clear h h10 h11 h7
  dsimp only [kd, kb, kbt, ov, ob] at *
  go_enter Tryz.func136, Tryz.ntmps136
  go_wp2_with (first | (go_at_call 118; (with_reducible refine HN.out.mono ?_); rintro e w' ⟨hT, hE⟩; rcases hT with ⟨h0, rfl⟩ | ⟨h0, h1, rfl⟩))
  · go_ret
    exact ⟨.inl ⟨h0, rfl⟩, X0.out.trans hE⟩
  · exact ⟨rfl, .inr ⟨h0, h1, rfl⟩, X0.out.trans hE⟩

set_option maxHeartbeats 1000000 in
set_option maxRecDepth 100000 in
theorem set_has {k : Int} {T : TypeId} {fk fr fl B : Nat} {sl : Option Addr} {n c : Nat} {s : St} {x : Int} {w : World} (h : Ky k T fk fr fl B sl n c s x w) (m v : Int) (hm : mayK k x = true) (h1 : Bool) (hh : hitK k s.keys (meantK k x) = h1) :
    Calls Tryz.prog 110 #[kd T m, .pointer (some ⟨B, 0, none⟩), ov 5 x v] w fun e w' => e = .returned (.int .u64 (bitZ h1)) ∧ Ext w w' := by
  have X0 := Lib.hid ((Ext.new w (kbt 106 T m)).alloc (ob 5 x v))
  have HK := Lib.hid (fun W => keyOf_yes h.I m x W h.x hm)
  have HF : RowKit.Hid (∀ W, Ext w W → Calls Tryz.prog 114 #[kd T m, .pointer (some ⟨B, 0, none⟩), .int .u64 (meantK k x)] W fun e w' => e = .returned (.tuple #[.int .i64 (posK k s.keys (meantK k x) : Nat), .bool h1]) ∧ Ext W w') :=
    Lib.hid fun W hE => hh ▸ find_any h.I m (meantK k x) B sl n c s.keys W (h.W.ext hE) (meant_u h.x) h.r (hE.cell h.b)
  generalize posK k s.keys (meantK k x) = P at *
  generalize meantK k x = X at *
  obtain ⟨⟨k1, k1b⟩, k2, k3, k4⟩ := two_newT 106 T m 5 x v w
  clear h hh hm
  dsimp only [kd, kb, kbt, ov, ob] at *
  go_enter Tryz.func110, Tryz.ntmps110
  go_wp2_with (fail)
  go_region_held3 (fun w' => (w'.cell? ⟨w.heap.size, 0, none⟩ = some (.iface T kE) ∧ w'.cell? ⟨w.heap.size, 1, none⟩ = some (.int .i64 m)) ∧ w'.cell? ⟨w.heap.size + 1, 0, none⟩ = some (.int .i64 5) ∧ w'.cell? ⟨w.heap.size + 1, 1, none⟩ = some (.int .u64 x) ∧ w'.cell? ⟨w.heap.size + 1, 2, none⟩ = some (.int .u64 v))
    (repeat' (first | (with_reducible assumption) | (with_reducible refine And.intro ?_ ?_) | (with_reducible refine box_alloc ?_) | (with_reducible refine box_drew ?_) | (with_reducible refine Ext.cell ‹_› ?_)))
    (first
      | (go_at_call 108; (with_reducible refine (HK.out _).mono ?_); rintro e w' ⟨rfl, rfl⟩)
      | (go_at_call 114; (with_reducible refine (HF.out _ (by repeat (first | exact X0.out | refine Ext.alloc ?_ _ | refine Ext.drew ?_))).mono ?_); rintro e w' ⟨rfl, hE⟩))
  have hE2 : Ext w w' := Ext.trans (by repeat (first | exact X0.out | refine Ext.alloc ?_ _ | refine Ext.drew ?_)) hE
  replace hE2 := Lib.hid hE2
  clear hE
  go_wp2_with (first | (go_at_call 115; (with_reducible refine (lbit_any _ _).mono ?_); rintro e w' ⟨rfl, rfl⟩))
  go_ret
  exact ⟨rfl, hE2.out⟩
set_option maxHeartbeats 1000000 in
set_option maxRecDepth 100000 in
theorem set_has_bad {k : Int} {T : TypeId} {fk fr fl : Nat} (I : KI k T fk fr fl) (m x v : Int) (B : Nat) (w : World) (hx : U64 x) (hm : mayK k x = false) :
    Calls Tryz.prog 110 #[kd T m, .pointer (some ⟨B, 0, none⟩), ov 5 x v] w fun e w' => e = .panicked (noE 10) ∧ Ext w w' := by
  have X0 := Lib.hid ((Ext.new w (kbt 106 T m)).alloc (ob 5 x v))
  have k01 := two_newT 106 T m 5 x v w
  have HK := Lib.hid (fun W => keyOf_no I m x W hx hm)
  have k02 := k01
  obtain ⟨⟨k1, k1b⟩, k2, k3, k4⟩ := k02
  clear I hx hm
  dsimp only [kd, kb, kbt, ov, ob] at *
  go_enter Tryz.func110, Tryz.ntmps110
  go_wp2_with (fail)
  refine wp_region_held_drew (S := fun w' => (w'.cell? ⟨w.heap.size, 0, none⟩ = some (.iface T kE) ∧ w'.cell? ⟨w.heap.size, 1, none⟩ = some (.int .i64 m)) ∧ w'.cell? ⟨w.heap.size + 1, 0, none⟩ = some (.int .i64 5) ∧ w'.cell? ⟨w.heap.size + 1, 1, none⟩ = some (.int .u64 x) ∧ w'.cell? ⟨w.heap.size + 1, 2, none⟩ = some (.int .u64 v)) (by kernel_rfl) k01 (fun hHeld => ?_)
  refine wpAnyH_take (i := 0) (v := .pointer (some ⟨w.heap.size, 0, none⟩)) rfl (by kernel_rfl) (by kernel_rfl) (by kernel_rfl) (fun _ _ _ h => h) (Or.inl ⟨by rfl, ?_⟩) (by assumption) ?_
  · rintro w ⟨⟨h1, h2⟩, h3, h4, h5⟩
    go_simp
  refine wpAnyH_take (i := 1) (v := (.agg #[.iface T kE, .int .i64 m])) rfl (by kernel_rfl) (by kernel_rfl) (by kernel_rfl) (fun _ _ _ h => h) (Or.inl ⟨by rfl, ?_⟩) (by assumption) ?_
  · rintro w ⟨⟨h1, h2⟩, h3, h4, h5⟩
    go_simp
  refine wpAnyH_take (i := 2) (v := .pointer (some ⟨B, 0, none⟩)) rfl (by kernel_rfl) (by kernel_rfl) (by kernel_rfl) (fun _ _ _ h => h) (Or.inl ⟨by rfl, ?_⟩) (by assumption) ?_
  · rintro w ⟨⟨h1, h2⟩, h3, h4, h5⟩
    go_simp
  refine wpAnyH_take (i := 3) (v := .pointer (some ⟨w.heap.size, 0, none⟩)) rfl (by kernel_rfl) (by kernel_rfl) (by kernel_rfl) (fun _ _ _ h => h) (Or.inl ⟨by rfl, ?_⟩) (by assumption) ?_
  · rintro w ⟨⟨h1, h2⟩, h3, h4, h5⟩
    go_simp
  refine wpAnyH_take (i := 4) (v := (.agg #[.iface T kE, .int .i64 m])) rfl (by kernel_rfl) (by kernel_rfl) (by kernel_rfl) (fun _ _ _ h => h) (Or.inl ⟨by rfl, ?_⟩) (by assumption) ?_
  · rintro w ⟨⟨h1, h2⟩, h3, h4, h5⟩
    go_simp
  refine wpAnyH_take (i := 5) (v := .pointer (some ⟨w.heap.size + 1, 1, none⟩)) rfl (by kernel_rfl) (by kernel_rfl) (by kernel_rfl) (fun _ _ _ h => h) (Or.inl ⟨by rfl, ?_⟩) (by assumption) ?_
  · rintro w ⟨⟨h1, h2⟩, h3, h4, h5⟩
    go_simp
  refine wpAnyH_take (i := 6) (v := .int .u64 x) rfl (by kernel_rfl) (by kernel_rfl) (by kernel_rfl) (fun _ _ _ h => h) (Or.inl ⟨by rfl, ?_⟩) (by assumption) ?_
  · rintro w ⟨⟨h1, h2⟩, h3, h4, h5⟩
    go_simp
  refine wpAnyH_ready (rs := [7]) (by kernel_rfl) (by simp) ?_
  refine AllReadyH.cons rfl (fun K hK => ?_) AllReadyH.nil
  go_simp
  refine (HK.out _).mono ?_
  rintro e w' ⟨rfl, rfl⟩
  exact ⟨rfl, rfl, by repeat (first | exact X0.out | refine Ext.alloc ?_ _ | refine Ext.drew ?_)⟩

set_option maxHeartbeats 1000000 in
set_option maxRecDepth 100000 in
theorem table_get {k : Int} {T : TypeId} {fk fr fl B : Nat} {sl : Option Addr} {n c : Nat} {s : St} {x : Int} {w : World} (h : Ky k T fk fr fl B sl n c s x w) (m v : Int) (hm : mayK k x = true) (hh : hitK k s.keys (meantK k x) = true)
    (vb vo vn vc : Nat) (y : Int) (P : Nat) (hP : posK k s.keys (meantK k x) = P) (hv : w.cell? ⟨B, 2, none⟩ = some (.slice (some ⟨vb, vo, none⟩) vn vc)) (hy : w.cell? ⟨vb, vo + P, none⟩ = some (.int .u64 y)) (hPn : P < vn) :
    Calls Tryz.prog 136 #[kd T m, .pointer (some ⟨B, 0, none⟩), ov 10 x v] w fun e w' => e = .returned (.int .u64 y) ∧ Ext w w' := by
  have X0 := Lib.hid ((Ext.new w (kbt 107 T m)).alloc (ob 10 x v))
  have HF : RowKit.Hid (∀ W, Ext w W → Calls Tryz.prog 126 #[kd T m, .pointer (some ⟨B, 0, none⟩), .int .u64 x] W fun e w' => e = .returned (.int .i64 (P : Nat)) ∧ Ext W w') :=
    Lib.hid fun W hE => (place_may h.I m x B sl n c s.keys W (h.W.ext hE) h.x h.r (hE.cell h.b) hm true hh).mono fun e w' q => ⟨by have := q.1; rw [if_pos rfl, hP] at this; exact this, q.2⟩
  obtain ⟨⟨k1, k1b⟩, k2, k3, k4⟩ := two_newT 107 T m 10 x v w
  have hv1 := X0.out.cell hv
  have hy1 := X0.out.cell hy
  have hP2 : (P : Int) < vn := by omega
  clear h hh hm hP hv hy
  dsimp only [kd, kb, kbt, ov, ob] at *
  go_enter Tryz.func136, Tryz.ntmps136
  go_wp2_with (fail)
  go_region_held3 (fun w' => (w'.cell? ⟨w.heap.size, 0, none⟩ = some (.iface T kE) ∧ w'.cell? ⟨w.heap.size, 1, none⟩ = some (.int .i64 m)) ∧ w'.cell? ⟨w.heap.size + 1, 0, none⟩ = some (.int .i64 10) ∧ w'.cell? ⟨w.heap.size + 1, 1, none⟩ = some (.int .u64 x) ∧ w'.cell? ⟨w.heap.size + 1, 2, none⟩ = some (.int .u64 v) ∧ w'.cell? ⟨B, 2, none⟩ = some (.slice (some ⟨vb, vo, none⟩) vn vc) ∧ w'.cell? ⟨vb, vo + P, none⟩ = some (.int .u64 y))
    (repeat' (first | (with_reducible assumption) | (with_reducible refine And.intro ?_ ?_) | (with_reducible refine box_alloc ?_) | (with_reducible refine box_drew ?_) | (with_reducible refine Ext.cell ‹_› ?_)))
    (first
      | (go_at_call 126; (with_reducible refine (HF.out _ (by repeat (first | exact X0.out | refine Ext.alloc ?_ _ | refine Ext.drew ?_))).mono ?_); rintro e w' ⟨rfl, hE⟩))
  have hE2 : Ext w w' := Ext.trans (by repeat (first | exact X0.out | refine Ext.alloc ?_ _ | refine Ext.drew ?_)) hE
  replace hE2 := Lib.hid hE2
  clear hE
  go_wp2_with (fail)
  go_ret
  exact ⟨rfl, hE2.out⟩
set_option maxHeartbeats 1000000 in
set_option maxRecDepth 100000 in
theorem table_get_no {k : Int} {T : TypeId} {fk fr fl B : Nat} {sl : Option Addr} {n c : Nat} {s : St} {x : Int} {w : World} (h : Ky k T fk fr fl B sl n c s x w) (m v : Int) (va : Option Addr) (vn vc : Nat) (hv : w.cell? ⟨B, 2, none⟩ = some (.slice va vn vc))
    (E : Int) (hE : (mayK k x = true ∧ hitK k s.keys (meantK k x) = false ∧ E = 12) ∨ (mayK k x = false ∧ E = 10)) :
    Calls Tryz.prog 136 #[kd T m, .pointer (some ⟨B, 0, none⟩), ov 10 x v] w fun e w' => e = .panicked (noE E) ∧ Ext w w' := by
  have X0 := Lib.hid ((Ext.new w (kbt 107 T m)).alloc (ob 10 x v))
  have HF : RowKit.Hid (∀ W, Ext w W → Calls Tryz.prog 126 #[kd T m, .pointer (some ⟨B, 0, none⟩), .int .u64 x] W fun e w' => e = .panicked (noE E) ∧ Ext W w') :=
    Lib.hid fun W hX => by
      rcases hE with ⟨h1, h2, rfl⟩ | ⟨h1, rfl⟩
      · exact (place_may h.I m x B sl n c s.keys W (h.W.ext hX) h.x h.r (hX.cell h.b) h1 false h2).mono fun e w' q => ⟨by have := q.1; rw [if_neg (by simp)] at this; exact this, q.2⟩
      · exact place_bad h.I m x B W h.x h1
  have k01 := two_newT 107 T m 10 x v w
  have hv1 := X0.out.cell hv
  have k03 := And.intro k01.1 (And.intro k01.2.1 (And.intro k01.2.2.1 (And.intro k01.2.2.2 hv1)))
  obtain ⟨⟨k1, k1b⟩, k2, k3, k4⟩ := k01
  clear h hE hv
  dsimp only [kd, kb, kbt, ov, ob] at *
  go_enter Tryz.func136, Tryz.ntmps136
  go_wp2_with (fail)
  refine wp_region_held_drew (S := fun w' => (w'.cell? ⟨w.heap.size, 0, none⟩ = some (.iface T kE) ∧ w'.cell? ⟨w.heap.size, 1, none⟩ = some (.int .i64 m)) ∧ w'.cell? ⟨w.heap.size + 1, 0, none⟩ = some (.int .i64 10) ∧ w'.cell? ⟨w.heap.size + 1, 1, none⟩ = some (.int .u64 x) ∧ w'.cell? ⟨w.heap.size + 1, 2, none⟩ = some (.int .u64 v) ∧ w'.cell? ⟨B, 2, none⟩ = some (.slice va vn vc)) (by kernel_rfl) k03 (fun hHeld => ?_)
  refine wpAnyH_take (i := 0) (v := .pointer (some ⟨B, 0, none⟩)) rfl (by kernel_rfl) (by kernel_rfl) (by kernel_rfl) (fun _ _ _ h => h) (Or.inl ⟨by rfl, ?_⟩) (by assumption) ?_
  · rintro w ⟨⟨h1, h2⟩, h3, h4, h5, h6⟩
    go_simp
  refine wpAnyH_take (i := 1) (v := .pointer (some ⟨B, 0, none⟩)) rfl (by kernel_rfl) (by kernel_rfl) (by kernel_rfl) (fun _ _ _ h => h) (Or.inl ⟨by rfl, ?_⟩) (by assumption) ?_
  · rintro w ⟨⟨h1, h2⟩, h3, h4, h5, h6⟩
    go_simp
  refine wpAnyH_take (i := 2) (v := .pointer (some ⟨B, 2, none⟩)) rfl (by kernel_rfl) (by kernel_rfl) (by kernel_rfl) (fun _ _ _ h => h) (Or.inl ⟨by rfl, ?_⟩) (by assumption) ?_
  · rintro w ⟨⟨h1, h2⟩, h3, h4, h5, h6⟩
    go_simp
  refine wpAnyH_take (i := 3) (v := .slice va vn vc) rfl (by kernel_rfl) (by kernel_rfl) (by kernel_rfl) (fun _ _ _ h => h) (Or.inl ⟨by rfl, ?_⟩) (by assumption) ?_
  · rintro w ⟨⟨h1, h2⟩, h3, h4, h5, h6⟩
    go_simp
  refine wpAnyH_take (i := 4) (v := .pointer (some ⟨w.heap.size, 0, none⟩)) rfl (by kernel_rfl) (by kernel_rfl) (by kernel_rfl) (fun _ _ _ h => h) (Or.inl ⟨by rfl, ?_⟩) (by assumption) ?_
  · rintro w ⟨⟨h1, h2⟩, h3, h4, h5, h6⟩
    go_simp
  refine wpAnyH_take (i := 5) (v := (.agg #[.iface T kE, .int .i64 m])) rfl (by kernel_rfl) (by kernel_rfl) (by kernel_rfl) (fun _ _ _ h => h) (Or.inl ⟨by rfl, ?_⟩) (by assumption) ?_
  · rintro w ⟨⟨h1, h2⟩, h3, h4, h5, h6⟩
    go_simp
  refine wpAnyH_take (i := 6) (v := .pointer (some ⟨B, 0, none⟩)) rfl (by kernel_rfl) (by kernel_rfl) (by kernel_rfl) (fun _ _ _ h => h) (Or.inl ⟨by rfl, ?_⟩) (by assumption) ?_
  · rintro w ⟨⟨h1, h2⟩, h3, h4, h5, h6⟩
    go_simp
  refine wpAnyH_take (i := 7) (v := .pointer (some ⟨w.heap.size + 1, 1, none⟩)) rfl (by kernel_rfl) (by kernel_rfl) (by kernel_rfl) (fun _ _ _ h => h) (Or.inl ⟨by rfl, ?_⟩) (by assumption) ?_
  · rintro w ⟨⟨h1, h2⟩, h3, h4, h5, h6⟩
    go_simp
  refine wpAnyH_take (i := 8) (v := .int .u64 x) rfl (by kernel_rfl) (by kernel_rfl) (by kernel_rfl) (fun _ _ _ h => h) (Or.inl ⟨by rfl, ?_⟩) (by assumption) ?_
  · rintro w ⟨⟨h1, h2⟩, h3, h4, h5, h6⟩
    go_simp
  refine wpAnyH_ready (rs := [9]) (by kernel_rfl) (by simp) ?_
  refine AllReadyH.cons rfl (fun K hK => ?_) AllReadyH.nil
  go_simp
  refine (HF.out _ (by repeat (first | exact X0.out | refine Ext.alloc ?_ _ | refine Ext.drew ?_))).mono ?_
  rintro e w' ⟨rfl, hE⟩
  exact ⟨rfl, rfl, Ext.trans (by repeat (first | exact X0.out | refine Ext.alloc ?_ _ | refine Ext.drew ?_)) hE⟩

end Go.Proofs.YtdipddnnckfnmaaGreat.Lan

