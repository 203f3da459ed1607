/-
  What areRising, first and slices.Equal of pairs return. Conditions: the keys and the links are there; the package's table lies.
-/
import Derived.Test.YtnmeakkehonnmaaDoorTrpPath
namespace Go.Proofs.YtnmeakkehonnmaaDoor.Trp
open Go.RowKit (Below intOf)

set_option maxHeartbeats 4000000 in
set_option maxRecDepth 100000 in
theorem rising_any (s : Option Addr) (n c : Nat) (l : List Int) (w : World) (hW : WS w s n c l) :
    Calls Tryd.prog 26 #[.slice s n c] w fun e w' => e = .returned (.bool (decide (Rising l))) ∧ Ext w w' := by
  have hn := hW.le
  have HW := Lib.hid hW
  clear hW
  go_enter Tryd.func26, Tryd.ntmps26
  go_wp2_with (fail)
  go_loopw [3] (fun iv wr => ∃ (i q : Nat), 1 ≤ i ∧ (i ≤ n ∨ i = 1) ∧ iv = .int .i64 i ∧ wr = w.drewN q ∧ RowKit.Hid (∀ (j : Nat) x y, j + 1 < i → l[j]? = some x → l[j + 1]? = some y → x < y)) (fun i _ => n - (intOf i).toNat)
  case atStart => exact ⟨1, 0, by omega, .inr rfl, rfl, rfl, Lib.hid (fun j x y hj => by omega)⟩
  case round =>
    obtain ⟨i, q, h1, h2, rfl, rfl, hP⟩ := hrel
    by_cases hi : i < n
    · have hin : (i : Int) < n := by omega
      obtain ⟨k, rfl⟩ : ∃ k, i = k + 1 := ⟨i - 1, by omega⟩
      obtain ⟨y, hy, uy, b, o, rfl, cy⟩ := HW.out.get (k := k + 1) hi
      obtain ⟨x, hx, ux, b', o', e, cx⟩ := HW.out.get (k := k) (by omega)
      cases e
      have hw1 : IntKind.i64.wrap ((k : Int) + 1 - 1) = k := by rw [IntWalk.i64_in _ (by omega)]; omega
      have hw2 : IntKind.i64.wrap (k : Int) = k := IntWalk.i64_in _ (by omega)
      have hkn : (k : Int) < n := by omega
      have HX := Lib.hid hx
      have HY := Lib.hid hy
      clear hx hy
      by_cases hb : y ≤ x
      · have hz : RowKit.Hid (decide (Rising l) = false) := Lib.hid (decide_eq_false (not_rising HX.out HY.out hb))
        have hdb : decide (y ≤ x) = true := decide_eq_true hb
        go_wp2_with (fail)
        go_quiet (fail)
        go_wp2_with (fail)
        go_ret
        exact ⟨ret_bool hz.out.symm, (Ext.draws w q).drewN nq⟩
      · have hdb : decide (y ≤ x) = false := decide_eq_false hb
        have hN : RowKit.Hid (∀ (j : Nat) x y, j + 1 < k + 1 + 1 → l[j]? = some x → l[j + 1]? = some y → x < y) := Lib.hid (fun j x' y' hj hx hy => by
          by_cases e : j = k
          · subst e; rw [HX.out] at hx; rw [HY.out] at hy; cases hx; cases hy; omega
          · exact hP.out j x' y' (by omega) hx hy)
        go_wp2_with (fail)
        go_quiet (fail)
        go_wp2_with (fail)
        go_roundw
        case rel => exact ⟨k + 1 + 1, q + nq, by omega, by omega, by go_num, rfl, hN⟩
        case measure => simp [intOf]; omega
    · have hni : ¬ (i : Int) < n := by omega
      have hR : RowKit.Hid (decide (Rising l) = true) := Lib.hid (decide_eq_true (rising_of (fun j x y hx hy => hP.out j x y (by
        have := (List.getElem?_eq_some_iff.1 hy).1; rw [HW.out.len] at this; omega) hx hy)))
      go_wp2_with (fail)
      go_ret
      exact ⟨ret_bool hR.out.symm, Ext.draws w q⟩

/-- The first i keys' top is tp. -/
def TopUp (l : List Int) (i tp : Nat) : Prop := (i = 0 ∧ tp = 0) ∨ IsTop (l.take i) tp
theorem topUp_new {l : List Int} {i tp : Nat} {m x : Int} (h : TopUp l i tp) (hx : l[i]? = some x) (hm : l[tp]? = some m) (hlt : mixed m < mixed x) : IsTop (l.take (i + 1)) i := by
  rcases h with ⟨rfl, rfl⟩ | h
  · rw [hx] at hm; cases hm; omega
  · have hl := (List.getElem?_eq_some_iff.1 hx).1
    have ht := h.lt
    have e := isTop_new h (m := m) (by rw [List.getElem?_take, if_pos (by simp at ht; omega)]; exact hm) hlt
    rw [take_snoc hx]
    have el : (l.take i).length = i := by simp; omega
    rw [el] at e; exact e
theorem topUp_old {l : List Int} {i tp : Nat} {m x : Int} (h : TopUp l i tp) (hx : l[i]? = some x) (hm : l[tp]? = some m) (hlt : ¬ mixed m < mixed x) : IsTop (l.take (i + 1)) tp := by
  rcases h with ⟨rfl, rfl⟩ | h
  · rw [take_snoc hx]; exact isTop_one x
  · have ht := h.lt
    rw [take_snoc hx]
    exact isTop_old h (m := m) (by rw [List.getElem?_take, if_pos (by simp at ht; omega)]; exact hm) hlt

set_option maxHeartbeats 4000000 in
set_option maxRecDepth 100000 in
theorem first_any (s : Option Addr) (n c : Nat) (l : List Int) (w : World) (hT : Tab w) (hW : WS w s n c l) (h0 : 0 < n) :
    Calls Tryd.prog 32 #[.slice s n c] w fun e w' => (∃ t : Nat, e = .returned (.int .i64 t) ∧ IsTop l t) ∧ Ext w w' := by
  have hn := hW.le
  have HW := Lib.hid hW
  have HT := Lib.hid hT
  clear hW hT
  go_enter Tryd.func32, Tryd.ntmps32
  go_wp2_with (fail)
  go_loopw [3, 8] (fun tv iv wr => ∃ (tp i : Nat), tp < n ∧ i ≤ n ∧ tv = .int .i64 tp ∧ iv = .int .i64 i ∧ Ext w wr ∧ RowKit.Hid (TopUp l i tp)) (fun _ i _ => n - (intOf i).toNat)
  case atStart => exact ⟨0, 0, by omega, by omega, rfl, rfl, Ext.refl w, Lib.hid (.inl ⟨rfl, rfl⟩)⟩
  case round =>
    obtain ⟨tp, i, h1, h2, rfl, rfl, hE, hP⟩ := hrel
    have HW1 := Lib.hid (HW.out.ext hE)
    have HT1 := Lib.hid (tab_ext HT.out hE)
    by_cases hi : i < n
    · have hin : (i : Int) < n := by omega
      obtain ⟨x, hx, ux, b, o, rfl, cx⟩ := HW1.out.get (k := i) hi
      obtain ⟨m, hm, um, b', o', e, cm⟩ := HW1.out.get (k := tp) h1
      cases e
      have htn : (tp : Int) < n := by omega
      have HX := Lib.hid hx
      have HM := Lib.hid hm
      clear hx hm
      by_cases hb : mixed m < mixed x
      · have hdb : decide (mixed m < mixed x) = true := decide_eq_true hb
        have hN : RowKit.Hid (TopUp l (i + 1) i) := Lib.hid (.inr (topUp_new hP.out HX.out HM.out hb))
        clear hb
        go_wp2_with (fail)
        refine (before_any x m wr HT1.out ux.1 ux.2 um.1 um.2).mono ?_
        rintro e w1 ⟨rfl, hg⟩
        rw [hdb]
        go_wp2_with (fail)
        go_roundw
        case rel => exact ⟨i, i + 1, hi, by omega, rfl, by go_num, hE.trans (gr_ext hg), hN⟩
        case measure => simp [intOf]; omega
      · have hdb : decide (mixed m < mixed x) = false := decide_eq_false hb
        have hN : RowKit.Hid (TopUp l (i + 1) tp) := Lib.hid (.inr (topUp_old hP.out HX.out HM.out hb))
        clear hb
        go_wp2_with (fail)
        refine (before_any x m wr HT1.out ux.1 ux.2 um.1 um.2).mono ?_
        rintro e w1 ⟨rfl, hg⟩
        rw [hdb]
        go_wp2_with (fail)
        go_roundw
        case rel => exact ⟨tp, i + 1, h1, by omega, rfl, by go_num, hE.trans (gr_ext hg), hN⟩
        case measure => simp [intOf]; omega
    · obtain rfl : i = n := by omega
      go_wp2_with (fail)
      go_ret
      refine ⟨⟨tp, rfl, ?_⟩, hE⟩
      rcases hP.out with ⟨e, _⟩ | h
      · omega
      · rwa [List.take_of_length_le (by rw [HW.out.len]; exact Nat.le_refl _)] at h

set_option maxHeartbeats 1000000 in
/-- slices.Equal of pairs. -/
theorem equal_any (s1 s2 : Option Addr) (n m c1 c2 : Nat) (xs ys : List Pr) (r : Bool) (w : World) (h1 : LS w s1 n c1 xs) (h2 : LS w s2 m c2 ys) (hr : RowKit.Hid (r = decide (xs = ys))) :
    Calls Tryd.prog 29 #[.slice s1 n c1, .slice s2 m c2] w fun e w' => e = .returned (.bool r) ∧ ∃ q, w' = w.drewN q := by
  have hn := h1.le
  have hm := h2.le
  have H1 := Lib.hid h1
  have H2 := Lib.hid h2
  clear h1 h2
  by_cases hnm : n = m
  · subst hnm
    go_enter Tryd.func29, Tryd.ntmps29
    go_wp2_with (fail)
    go_loopw [13] (fun i w' => ∃ k q : Nat, k ≤ n ∧ i = .int .i64 k ∧ w' = w.drewN q ∧ RowKit.Hid (∀ j, j < k → xs[j]? = ys[j]?)) (fun i _ => n - (intOf i).toNat)
    case atStart => exact ⟨0, 0, by omega, rfl, rfl, Lib.hid (fun j hj => by omega)⟩
    case round =>
      obtain ⟨k, q, hk, rfl, rfl, hz⟩ := hrel
      by_cases hlt : k < n
      · obtain ⟨⟨p, x⟩, hx, _, b, o, rfl, hc, hc'⟩ := H1.out.get hlt
        obtain ⟨⟨p', y⟩, hy, _, b2, o2, rfl, hd, hd'⟩ := H2.out.get hlt
        have HX := Lib.hid hx
        have HY := Lib.hid hy
        clear hx hy
        have q2 := eq2 p x p' y
        by_cases hp : p = p' ∧ x = y
        · obtain ⟨rfl, rfl⟩ := hp
          have hb1 : (p == p) = true := by simp
          have hb2 : (x == x) = true := by simp
          rw [hb1, hb2] at q2
          go_wp2_with (fail)
          go_quiet (fail)
          go_wp2
          go_roundw
          case rel => exact ⟨k + 1, q + nq, by omega, by go_num, rfl, Lib.hid (fun j hj => by
            by_cases e : j = k
            · subst e; rw [HX.out, HY.out]
            · exact hz.out j (by omega))⟩
          case measure => simp [intOf]; omega
        · have hb : ((p == p') && (x == y)) = false := by
            rw [Bool.and_eq_false_iff]
            by_cases e : p = p'
            · exact .inr (by simpa using fun e2 => hp ⟨e, e2⟩)
            · exact .inl (by simpa using e)
          rw [hb] at q2
          have HN : RowKit.Hid ((p, x) ≠ (p', y)) := Lib.hid (fun e => hp (by cases e; exact ⟨rfl, rfl⟩))
          clear hp hb
          go_wp2_with (fail)
          go_quiet (fail)
          go_wp2
          go_ret
          exact ⟨ret_bool (by rw [hr.out, decide_eq_false (ne_at HX.out HY.out HN.out)]), q + nq, World.drewN_drewN _ _ _⟩
      · obtain rfl : k = n := by omega
        go_wp2
        go_ret
        exact ⟨ret_bool (by rw [hr.out, decide_eq_true (eq_all H1.out.len H2.out.len hz.out)]), _, rfl⟩
  · have hb : ((n : Int) != (m : Int)) = true := by simp; omega
    have hb2 : (n != m) = true := by simpa using hnm
    go_enter Tryd.func29, Tryd.ntmps29
    go_wp2
    go_ret
    exact ⟨ret_bool (by rw [hr.out, decide_eq_false (fun e => hnm (by rw [← H1.out.len, ← H2.out.len, e]))]), 0, rfl⟩

end Go.Proofs.YtnmeakkehonnmaaDoor.Trp
