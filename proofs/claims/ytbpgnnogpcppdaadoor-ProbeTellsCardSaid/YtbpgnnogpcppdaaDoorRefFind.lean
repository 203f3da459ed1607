/-
  What the document's own Find, others, Put and Del return. Conditions: the words and the records are there; the integers' bounds.
-/
import Derived.Test.YtbpgnnogpcppdaaDoorRefCalls
namespace Go.Proofs.YtbpgnnogpcppdaaDoor
open Go.RowKit (Below intOf)

theorem find_yes {t : List Rc} {k : Int} {p : Nat} {r : Rc} (hp : t[p]? = some r) (hr : r.1 = k) (hb : ∀ i, i < p → (at' t i).1 ≠ k) : findT t k = ((p : Int), true) := by
  have hpl := (List.getElem?_eq_some_iff.1 hp).1
  have : sought t k = some p := by
    unfold sought
    rw [List.find?_range_eq_some]
    exact ⟨by unfold at'; rw [hp]; simpa using hr, by simpa using hpl, fun j hj => by simpa using hb j hj⟩
  unfold findT; rw [this]
theorem find_no {t : List Rc} {k : Int} {n : Nat} (hn : t.length = n) (hb : ∀ i, i < n → (at' t i).1 ≠ k) : findT t k = (0, false) := by
  have : sought t k = none := by
    unfold sought
    rw [List.find?_range_eq_none, hn]
    exact fun i hi => by simpa using hb i hi
  unfold findT; rw [this]
theorem findS_no {xs : List Int} {v k : Int} (h : rightS xs v = false ∨ k = 0) : findS xs v k = (0, false) := by
  unfold findS
  rw [if_neg]
  rintro ⟨h1, h2⟩
  rcases h with h | h
  · rw [h] at h1; cases h1
  · exact h2 h
theorem findS_yes {xs : List Int} {v : Nat} {k : Int} (h : rightS xs v = true) (hk : k ≠ 0) : findS xs v k = findT (slotsW v xs) k := by
  unfold findS; rw [if_pos ⟨h, hk⟩]; rfl
/-- A call that answers an int and a bool. -/
def NB (p : Int × Bool) (w : World) (e : Ending) (w' : World) : Prop := Ext w w' ∧ e = .returned (.tuple #[.int .i64 p.1, .bool p.2])
theorem NB.mk {p : Int × Bool} {a : Int} {b : Bool} (h : p = (a, b)) {w w' : World} (hE : Ext w w') : NB p w (.returned (.tuple #[.int .i64 a, .bool b])) w' := by subst h; exact ⟨hE, rfl⟩

set_option maxHeartbeats 1000000 in
theorem rfind_no (s : Option Addr) (m c : Nat) (xs : List Int) (v k : Int) (w : World) (hS : WS w s m c xs) (hv : I64 v) (h : rightS xs v = false ∨ k = 0) :
    Calls Tryd.prog 18 #[.slice s m c, .int .i64 v, .int .u64 k] w (NB (findS xs v k) w) := by
  have hf := Lib.hid (findS_no h)
  have HS := Lib.hid hS
  obtain ⟨r, er⟩ : ∃ r, RowKit.Hid (r = rightS xs v) := ⟨_, Lib.hid rfl⟩
  cases r with
  | false =>
    clear h hS
    go_enter Tryd.func18, Tryd.ntmps18
    go_wp2_with (fail)
    refine (rright_any s m c xs v false w HS.out hv er).mono ?_
    rintro e w1 ⟨rfl, hE1⟩
    go_wp2_with (fail)
    go_ret2
    exact NB.mk hf.out hE1
  | true =>
    obtain rfl : k = 0 := h.resolve_left (by rw [← er.out]; simp)
    clear h hS
    go_enter Tryd.func18, Tryd.ntmps18
    go_wp2_with (fail)
    refine (rright_any s m c xs v true w HS.out hv er).mono ?_
    rintro e w1 ⟨rfl, hE1⟩
    go_wp2_with (fail)
    go_ret2
    exact NB.mk hf.out hE1

set_option maxHeartbeats 1000000 in
theorem rfind_1 (s : Option Addr) (N c : Nat) (xs : List Int) (t : List Rc) (k : Int) (w : World) (hS : WS w s N c xs) (hx : xs = flatW 1 t) (hN : t.length = N) (hr : rightS xs 1 = true) (hk : k ≠ 0) (hf : findS xs 1 k = findT t k) :
    Calls Tryd.prog 18 #[.slice s N c, .int .i64 1, .int .u64 k] w (NB (findS xs 1 k) w) := by
  have hm := hS.le
  have HS := Lib.hid hS
  have Hx := Lib.hid hx
  have HN := Lib.hid hN
  have Hr := Lib.hid hr
  have Hf := Lib.hid hf
  have hkb : (k == 0) = false := by simpa using hk
  clear hS hx hN hr hk hf
  go_enter Tryd.func18, Tryd.ntmps18
  go_wp2_with (fail)
  refine (rright_any s N c xs 1 true w HS.out (by unfold I64; omega) (Lib.hid Hr.out.symm)).mono ?_
  rintro e w1 ⟨rfl, hE1⟩
  have HS1 := Lib.hid (HS.out.ext hE1)
  go_wp2_with (fail)
  go_loop [8] (fun i => ∃ (j : Nat), j ≤ N ∧ i = .int .i64 j ∧ RowKit.Hid (∀ i, i < j → (at' t i).1 ≠ k)) (fun i => N - (intOf i).toNat)
  case atStart => exact ⟨0, by omega, rfl, Lib.hid (fun i h => by omega)⟩
  case round =>
    obtain ⟨j, hj, rfl, hB⟩ := hrel
    by_cases hlt : j < N
    · have hjn : (j : Int) < N := by omega
      obtain ⟨p, hx, up, ba, oa, rfl, d0⟩ := HS1.out.get (k := j * 1) (by omega)
      have htj : RowKit.Hid (∃ r, t[j]? = some r ∧ r.1 = p) := Lib.hid (by
        rw [Hx.out, flat_0 (by unfold Wd; omega)] at hx
        obtain ⟨r, h1, h2⟩ := Option.map_eq_some_iff.1 hx
        exact ⟨r, h1, h2⟩)
      clear hx
      rw [Nat.mul_one] at d0
      by_cases hpk : p = k
      · subst hpk
        have hfin : RowKit.Hid (findS xs 1 p = ((j : Int), true)) := Lib.hid (by
          obtain ⟨r, h1, h2⟩ := htj.out
          rw [Hf.out, find_yes h1 h2 hB.out])
        go_wp2_with (fail)
        go_ret2
        exact NB.mk hfin.out hE1
      · have hb : (p == k) = false := by simpa using hpk
        have HK := Lib.hid hpk
        clear hpk
        go_wp2_with (fail)
        go_round
        case rel => exact ⟨j + 1, by omega, by go_num, Lib.hid (fun i hi => by
          by_cases e : i = j
          · subst e
            obtain ⟨r, h1, h2⟩ := htj.out
            unfold at'; rw [h1]; show r.1 ≠ k; rw [h2]; exact HK.out
          · exact hB.out i (by omega))⟩
        case measure => simp [intOf]; omega
    · obtain rfl : j = N := by omega
      have hfin : RowKit.Hid (findS xs 1 k = (0, false)) := Lib.hid (by rw [Hf.out, find_no HN.out hB.out])
      go_wp2_with (fail)
      go_ret2
      exact NB.mk hfin.out hE1

set_option maxHeartbeats 1000000 in
theorem rfind_2 (s : Option Addr) (N m c : Nat) (xs : List Int) (t : List Rc) (k : Int) (w : World) (hS : WS w s m c xs) (hx : xs = flatW 2 t) (hN : t.length = N) (hM : m = N * 2) (hr : rightS xs 2 = true) (hk : k ≠ 0) (hf : findS xs 2 k = findT t k) :
    Calls Tryd.prog 18 #[.slice s m c, .int .i64 2, .int .u64 k] w (NB (findS xs 2 k) w) := by
  have hm := hS.le
  have hdv : (m : Int).tdiv 2 = N := by rw [quo_2]; omega
  have hNb : N ≤ 1048576 := by omega
  have HM := Lib.hid hM
  clear hM
  have HS := Lib.hid hS
  have Hx := Lib.hid hx
  have HN := Lib.hid hN
  have Hr := Lib.hid hr
  have Hf := Lib.hid hf
  have hkb : (k == 0) = false := by simpa using hk
  clear hS hx hN hr hk hf
  go_enter Tryd.func18, Tryd.ntmps18
  go_wp2_with (fail)
  refine (rright_any s m c xs 2 true w HS.out (by unfold I64; omega) (Lib.hid Hr.out.symm)).mono ?_
  rintro e w1 ⟨rfl, hE1⟩
  have HS1 := Lib.hid (HS.out.ext hE1)
  go_wp2_with (fail)
  go_loop [8] (fun i => ∃ (j : Nat), j ≤ N ∧ i = .int .i64 j ∧ RowKit.Hid (∀ i, i < j → (at' t i).1 ≠ k)) (fun i => N - (intOf i).toNat)
  case atStart => exact ⟨0, by omega, rfl, Lib.hid (fun i h => by omega)⟩
  case round =>
    obtain ⟨j, hj, rfl, hB⟩ := hrel
    by_cases hlt : j < N
    · have hjn : (j : Int) < N := by omega
      have hj2 : (j : Int) * 2 < m := by have := HM.out; omega
      have hj4 : ((j : Int) * 2).toNat = j * 2 := by omega
      obtain ⟨p, hx, up, ba, oa, rfl, d0⟩ := HS1.out.get (k := j * 2) (by have := HM.out; omega)
      have htj : RowKit.Hid (∃ r, t[j]? = some r ∧ r.1 = p) := Lib.hid (by
        rw [Hx.out, flat_0 (by unfold Wd; omega)] at hx
        obtain ⟨r, h1, h2⟩ := Option.map_eq_some_iff.1 hx
        exact ⟨r, h1, h2⟩)
      clear hx
      by_cases hpk : p = k
      · subst hpk
        have hfin : RowKit.Hid (findS xs 2 p = ((j : Int), true)) := Lib.hid (by
          obtain ⟨r, h1, h2⟩ := htj.out
          rw [Hf.out, find_yes h1 h2 hB.out])
        go_wp2_with (fail)
        go_ret2
        exact NB.mk hfin.out hE1
      · have hb : (p == k) = false := by simpa using hpk
        have HK := Lib.hid hpk
        clear hpk
        go_wp2_with (fail)
        go_round
        case rel => exact ⟨j + 1, by omega, by go_num, Lib.hid (fun i hi => by
          by_cases e : i = j
          · subst e
            obtain ⟨r, h1, h2⟩ := htj.out
            unfold at'; rw [h1]; show r.1 ≠ k; rw [h2]; exact HK.out
          · exact hB.out i (by omega))⟩
        case measure => simp [intOf]; omega
    · obtain rfl : j = N := by omega
      have hfin : RowKit.Hid (findS xs 2 k = (0, false)) := Lib.hid (by rw [Hf.out, find_no HN.out hB.out])
      go_wp2_with (fail)
      go_ret2
      exact NB.mk hfin.out hE1

/-- The document's Find. -/
theorem rfind_any (s : Option Addr) (m c : Nat) (xs : List Int) (v k : Int) (w : World) (hS : WS w s m c xs) (hv : I64 v) :
    Calls Tryd.prog 18 #[.slice s m c, .int .i64 v, .int .u64 k] w (NB (findS xs v k) w) := by
  by_cases h : rightS xs v = false ∨ k = 0
  · exact rfind_no s m c xs v k w hS hv h
  · have hr : rightS xs v = true := by
      cases e : rightS xs v with
      | true => rfl
      | false => exact absurd (.inl e) h
    have hk : k ≠ 0 := fun e => h (.inr e)
    rcases right_or (v := v) hS with ⟨_, h2⟩ | ⟨u, rfl, hu, hsh, hx, ht, hl, h1, h2, hrg, hrt⟩
    · rw [h2] at hr; cases hr
    have hf := findS_yes hr hk
    have hm : m = (slotsW u xs).length * u := by rw [← hS.len, ← flatW_len hu, ← hx]
    rcases hu with rfl | rfl
    · have hm2 : m = (slotsW 1 xs).length := by omega
      subst hm2
      exact rfind_1 s _ c xs _ k w hS hx rfl hr hk hf
    · exact rfind_2 s _ m c xs _ k w hS hx rfl hm hr hk hf

set_option maxRecDepth 100000 in
set_option maxHeartbeats 2000000 in
/-- The document's others. -/
theorem rothers_any (s : Option Addr) (n c : Nat) (ys : List Rc) (k : Int) (w : World) (hQ : QS w s n c ys) :
    Calls Tryd.prog 39 #[.slice s n c, .int .u64 k] w fun e w' => ∃ v, e = .returned v ∧ w'.ownsRow w.heap.size 34 2 v (ys.filter fun r => decide (r.1 ≠ k)).length (flat (ys.filter fun r => decide (r.1 ≠ k))) ∧ Ext w w' := by
  have hn := hQ.le
  obtain ⟨i0, hi, hz0, hz1, hz2⟩ := info_parts info34
  have HQ := Lib.hid hQ
  have Hi := Lib.hid hi
  have Hz0 := Lib.hid hz0
  have Hz1 := Lib.hid hz1
  have Hz2 := Lib.hid hz2
  have hall : RowKit.Hid (ys.take n = ys) := Lib.hid (List.take_of_length_le (by rw [hQ.len]; omega))
  clear hQ hi hz0 hz1 hz2
  obtain ⟨F, hF⟩ : ∃ F : Nat → List Rc, RowKit.Hid (∀ j, F j = (ys.take j).filter fun r => decide (r.1 ≠ k)) := ⟨_, Lib.hid (fun _ => rfl)⟩
  have hFl : ∀ j, (F j).length ≤ j := fun j => by rw [hF.out]; have := List.length_filter_le (fun r : Rc => decide (r.1 ≠ k)) (ys.take j); rw [List.length_take] at this; omega
  have hFn : RowKit.Hid (F n = ys.filter fun r => decide (r.1 ≠ k)) := Lib.hid (by rw [hF.out, hall.out])
  rw [← hFn.out]
  go_enter Tryd.func39, Tryd.ntmps39
  go_wp2_with (fail)
  go_loopw [5, 6] (fun v i wr => ∃ (j : Nat), j ≤ n ∧ i = .int .i64 j ∧ wr.ownsRow w.heap.size 34 2 v (F j).length (flat (F j)) ∧ Below w.heap.size w wr) (fun _ i _ => n - (intOf i).toNat)
  case atStart => exact ⟨0, by omega, rfl, by rw [hF.out]; exact World.ownsRow_nil _ _ _ _, Ext.refl w⟩
  case round =>
    obtain ⟨j, hj, rfl, hrow, hE⟩ := hrel
    by_cases hlt : j < n
    · obtain ⟨p, x, hx, up, ux, ba, oa, rfl, e0, e1⟩ := (HQ.out.ext hE).get hlt
      have hle := hFl j
      by_cases hpk : p = k
      · subst hpk
        have hno : RowKit.Hid (F (j + 1) = F j) := Lib.hid (by rw [hF.out, hF.out, take_snoc hx, List.filter_append]; simp)
        have hb1 : (p != p) = false := by simp
        clear hx
        go_wp2_with (fail)
        go_roundw
        case rel => exact ⟨j + 1, by omega, by go_num, by rw [hno.out]; exact hrow, hE⟩
        case measure => simp [intOf]; omega
      · have hb1 : (p != k) = true := by simpa using hpk
        have hyes : RowKit.Hid (F (j + 1) = F j ++ [(p, x)]) := Lib.hid (by rw [hF.out, hF.out, take_snoc hx, List.filter_append]; simp [hpk])
        clear hx hpk
        go_wp2_with (at_builtin; refine wpList_append_own _ rfl _ _ 32 rfl w.heap.size 34 i0 (.agg #[.int .u64 0, .int .u64 0]) 2 16 Tryd.underlying32 Hi.out Hz0.out Hz1.out Hz2.out rfl (by decide) _ _ _ rfl (hrow.alloc _) ⟨wr.heap.size, 0, none⟩ 1 1 [.int .u64 p, .int .u64 x] rfl rfl (two_cells _ _ _) (by simp [Value.oneCell']) (by unfold maxLen; omega) (by omega) (by have := hE.size; simp; omega) ?_; intro v' w1 hown' hgrow _)
        go_roundw
        case rel => exact ⟨j + 1, by omega, by go_num, by rw [hyes.out, flat_append, List.length_append]; exact hown', Ext.grown (Ext.alloc hE _) hgrow (own_ge hrow)⟩
        case measure => simp [intOf]; omega
    · obtain rfl : j = n := by omega
      obtain ⟨sl, c', rfl⟩ := own_form hrow
      go_wp2_with (fail)
      go_ret
      exact ⟨_, rfl, hrow, hE⟩

end Go.Proofs.YtbpgnnogpcppdaaDoor
