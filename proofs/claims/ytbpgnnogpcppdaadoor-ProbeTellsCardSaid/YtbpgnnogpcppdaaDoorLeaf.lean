/-
  What the small functions return: pick, Key, mayBeWidth, mayBeSlots, isEmpty, whoIsFirst, List's comparison, slices.Equal, slices.Clone, and the document's shape, Same and Records. Conditions: the integers' bounds that each says; the slices are there.
-/
import Derived.Test.YtbpgnnogpcppdaaDoorMem
import Derived.Laws.StructEq
import Derived.DeepKeys
namespace Go.Proofs.YtbpgnnogpcppdaaDoor
open Go.RowKit (Below intOf)

/-- What lay reads as before. -/
theorem lay {W w1 : World} (h : Ext W w1) : (∀ b o, b < W.heap.size → w1.cell? ⟨b, o, none⟩ = W.cell? ⟨b, o, none⟩) ∧ (∀ b o, b < W.heap.size → w1.frozen? ⟨b, o, none⟩ = W.frozen? ⟨b, o, none⟩) :=
  ⟨fun b o hb => Below.cell (p := ⟨b, o, none⟩) h hb, fun b o hb => Below.frozen (p := ⟨b, o, none⟩) h hb⟩

def pick (c n : Int) : Int := (if c < 0 then -(c + 1) else c) % n
theorem pick_bd {c n : Int} (h : 1 ≤ n) : 0 ≤ pick c n ∧ pick c n < n := by
  unfold pick; exact ⟨Int.emod_nonneg _ (by omega), Int.emod_lt_of_pos _ (by omega)⟩
theorem pick_any (c n : Int) (w : World) (h0 : -9223372036854775808 ≤ c) (h1 : c < 9223372036854775808) (g0 : 1 ≤ n) (g1 : n < 9223372036854775808) :
    Calls Tryd.prog 10 #[.int .i64 c, .int .i64 n] w fun e w' => e = .returned (.int .i64 (pick c n)) ∧ w = w' := by
  by_cases h : c < 0
  · have hp : RowKit.Hid (pick c n = -(c + 1) % n) := Lib.hid (by unfold pick; rw [if_pos h])
    go_enter Tryd.func10, Tryd.ntmps10
    go_wp2
    go_ret
    exact ⟨ret_int (by rw [hp.out, ← Int.neg_tmod, Int.tmod_eq_emod_of_nonneg (by omega)]), rfl⟩
  · have hp : RowKit.Hid (pick c n = c % n) := Lib.hid (by unfold pick; rw [if_neg h])
    go_enter Tryd.func10, Tryd.ntmps10
    go_wp2
    go_ret
    exact ⟨ret_int (by rw [hp.out]), rfl⟩

/-- Of a raw number, one key of few, some of them far. -/
def keyOf (n : Int) : Int := if 15 < 1 + pick n 20 then (1 + pick n 20) * 144115188075855872 else 1 + pick n 20
theorem keyOf_u (n : Int) : U64 (keyOf n) := by
  have := pick_bd (c := n) (n := 20) (by omega)
  unfold keyOf U64; split <;> omega
theorem keyOf_pos (n : Int) : keyOf n ≠ 0 := by
  have := pick_bd (c := n) (n := 20) (by omega)
  unfold keyOf; split <;> omega
set_option maxHeartbeats 400000 in
theorem key_any (c : Int) (w : World) (h0 : -9223372036854775808 ≤ c) (h1 : c < 9223372036854775808) :
    Calls Tryd.prog 16 #[.int .i64 c] w fun e w' => e = .returned (.int .u64 (keyOf c)) ∧ w = w' := by
  have hb := pick_bd (c := c) (n := 20) (by omega)
  by_cases h : 15 < 1 + pick c 20
  · have hp : RowKit.Hid (keyOf c = (1 + pick c 20) * 144115188075855872) := Lib.hid (by unfold keyOf; rw [if_pos h])
    go_enter Tryd.func16, Tryd.ntmps16
    go_wp2_with (go_at_call 10; with_reducible refine (pick_any _ _ _ (by omega) (by omega) (by omega) (by omega)).mono ?_; rintro e w' ⟨rfl, rfl⟩)
    go_ret
    refine ⟨ret_int ?_, rfl⟩
    rw [hp.out]
  · have hp : RowKit.Hid (keyOf c = 1 + pick c 20) := Lib.hid (by unfold keyOf; rw [if_neg h])
    go_enter Tryd.func16, Tryd.ntmps16
    go_wp2_with (go_at_call 10; with_reducible refine (pick_any _ _ _ (by omega) (by omega) (by omega) (by omega)).mono ?_; rintro e w' ⟨rfl, rfl⟩)
    go_ret
    exact ⟨ret_int hp.out.symm, rfl⟩

def okW (n : Int) : Bool := decide (n = 1 ∨ n = 2)
def okN (n : Int) : Bool := decide (1 ≤ n ∧ n ≤ 1024)
theorem width_any (n : Int) (w : World) : Calls Tryd.prog 26 #[.int .i64 n] w fun e w' => e = .returned (.bool (okW n)) ∧ w = w' := by
  by_cases h : n = 1
  · subst h
    go_enter Tryd.func26, Tryd.ntmps26
    go_wp2
    go_ret
    exact ⟨rfl, rfl⟩
  · have hb : (n == 1) = false := by simpa using h
    have hr : RowKit.Hid ((n == 2) = okW n) := Lib.hid (by
      unfold okW; by_cases h2 : n = 2
      · subst h2; rfl
      · rw [decide_eq_false (by omega)]; simpa using h2)
    go_enter Tryd.func26, Tryd.ntmps26
    go_wp2
    go_ret
    exact ⟨ret_bool (by rw [← hr.out]), rfl⟩
theorem slots_any (n : Int) (w : World) : Calls Tryd.prog 27 #[.int .i64 n] w fun e w' => e = .returned (.bool (okN n)) ∧ w = w' := by
  by_cases h : 1 ≤ n
  · have hr : RowKit.Hid (decide (n ≤ 1024) = okN n) := Lib.hid (by
      unfold okN; exact decide_eq_decide.2 ⟨fun a => ⟨h, a⟩, fun a => a.2⟩)
    go_enter Tryd.func27, Tryd.ntmps27
    go_wp2
    go_ret
    exact ⟨ret_bool hr.out, rfl⟩
  · have hr : RowKit.Hid (okN n = false) := Lib.hid (by unfold okN; exact decide_eq_false (fun a => h a.1))
    have hd : decide (1 ≤ n) = false := by simpa using h
    go_enter Tryd.func27, Tryd.ntmps27
    go_wp2
    go_ret
    exact ⟨ret_bool (by rw [hr.out]), rfl⟩

theorem eq2 (a b x y : Int) (w : World) : (Op.equalIn 10000 34 (.agg #[.int .u64 a, .int .u64 b]) (.agg #[.int .u64 x, .int .u64 y])).run Tryd.prog w = .ok ((a == x) && (b == y)) w := by
  obtain ⟨i, hi⟩ : ∃ i, Tryd.prog.info? 24 = some i := Option.isSome_iff_exists.1 (by kernel_rfl)
  rw [run_equalIn_array w 9999 _ _ Tryd.underlying34 hi]
  have hc : Tryd.prog.cellsOf 24 = 1 := by kernel_rfl
  simp [Op.eqItems, List.range, List.range.loop, hc, part, go_sem]
  by_cases h1 : a = x <;> by_cases h2 : b = y <;> simp [h1, h2]

theorem empty_any (a b : Int) (w : World) : Calls Tryd.prog 45 #[.agg #[.int .u64 a, .int .u64 b]] w fun e w' => e = .returned (.bool ((a == 0) && (b == 0))) ∧ w' = w.alloc (.cells #[.int .u64 a, .int .u64 b] 34) := by
  have q := eq2 a b 0 0
  go_enter Tryd.func45, Tryd.ntmps45
  go_wp2
  go_ret
  exact ⟨rfl, rfl⟩

def cfB (x y : Rc) : Int := if mixed y.1 < mixed x.1 then -1 else if mixed x.1 < mixed y.1 then 1 else 0
def cfK (x y : Rc) : Int := if x.1 < y.1 then -1 else if y.1 < x.1 then 1 else 0

set_option maxHeartbeats 1000000 in
theorem first_any (x y : Rc) (w : World) (hT : Tab w) (hx : Ur x) (hy : Ur y) : Calls Tryd.prog 42 #[.agg #[.int .u64 x.1, .int .u64 x.2], .agg #[.int .u64 y.1, .int .u64 y.2]] w fun e w' => e = .returned (.int .i64 (cfB x y)) ∧ Gr w w' := by
  obtain ⟨⟨x0, x1⟩, _⟩ := hx
  obtain ⟨⟨y0, y1⟩, _⟩ := hy
  have HT := Lib.hid hT
  clear hT
  have step : ∀ a b W, Gr w W → (0 ≤ a ∧ a < 18446744073709551616) → (0 ≤ b ∧ b < 18446744073709551616) → Calls Tryd.prog 55 #[.int .u64 a, .int .u64 b] W fun e w' => e = .returned (.bool (decide (mixed b < mixed a))) ∧ Gr W w' := fun a b W hW ha hb => before_any a b W (HT.out.gr hW) ha.1 ha.2 hb.1 hb.2
  by_cases h1 : mixed y.1 < mixed x.1
  · have hr : RowKit.Hid (cfB x y = -1) := Lib.hid (by unfold cfB; rw [if_pos h1])
    have d1 : decide (mixed y.1 < mixed x.1) = true := by simpa using h1
    go_enter Tryd.func42, Tryd.ntmps42
    go_wp2_with (fail)
    refine (step _ _ _ (((Gr.refl w).alloc _).alloc _) ⟨x0, x1⟩ ⟨y0, y1⟩).mono ?_
    rintro e w1 ⟨rfl, hg⟩
    go_wp2_with (fail)
    go_ret
    exact ⟨ret_int hr.out.symm, (((Gr.refl w).alloc _).alloc _).trans hg⟩
  · have d1 : decide (mixed y.1 < mixed x.1) = false := by simpa using h1
    have hr : RowKit.Hid (cfB x y = if mixed x.1 < mixed y.1 then 1 else 0) := Lib.hid (by unfold cfB; rw [if_neg h1])
    go_enter Tryd.func42, Tryd.ntmps42
    go_wp2_with (fail)
    refine (step _ _ _ (((Gr.refl w).alloc _).alloc _) ⟨x0, x1⟩ ⟨y0, y1⟩).mono ?_
    rintro e w1 ⟨rfl, hg⟩
    obtain ⟨l1, l2⟩ := lay hg.ext
    have hz2 : w.heap.size + 1 < w1.heap.size := by have := hg.ext.size; simp at this; omega
    have hz1 : w.heap.size < w1.heap.size := by omega
    have HG := Lib.hid hg
    clear hg
    go_wp2_with (fail)
    refine (step _ _ _ ((((Gr.refl w).alloc _).alloc _).trans HG.out) ⟨y0, y1⟩ ⟨x0, x1⟩).mono ?_
    rintro e w2 ⟨rfl, hg2⟩
    by_cases h2 : mixed x.1 < mixed y.1
    · have d2 : decide (mixed x.1 < mixed y.1) = true := by simpa using h2
      go_wp2_with (fail)
      go_ret
      exact ⟨ret_int (by rw [hr.out, if_pos h2]), ((((Gr.refl w).alloc _).alloc _).trans HG.out).trans hg2⟩
    · have d2 : decide (mixed x.1 < mixed y.1) = false := by simpa using h2
      have H2 := Lib.hid h2
      clear h2
      go_wp2_with (fail)
      go_ret
      exact ⟨ret_int (by rw [hr.out, if_neg (by have := H2.out; omega)]), ((((Gr.refl w).alloc _).alloc _).trans HG.out).trans hg2⟩

theorem nan_any (a : Int) (w : World) : Calls Tryd.prog 49 #[.int .u64 a] w fun e w' => e = .returned (.bool false) ∧ w = w' := by
  have hb : (a != a) = false := by simp
  go_enter Tryd.func49, Tryd.ntmps49
  go_wp2
  go_ret
  exact ⟨rfl, rfl⟩
theorem compare_any (a b : Int) (w : World) : Calls Tryd.prog 35 #[.int .u64 a, .int .u64 b] w fun e w' => e = .returned (.int .i64 (if a < b then -1 else if b < a then 1 else 0)) ∧ w = w' := by
  by_cases h1 : a < b
  · rw [if_pos h1]
    go_enter Tryd.func35, Tryd.ntmps35
    go_wp2_with (go_at_call 49; refine (nan_any _ _).mono ?_; rintro e w' ⟨rfl, rfl⟩)
    go_ret
    exact ⟨rfl, rfl⟩
  · rw [if_neg h1]
    by_cases h2 : b < a
    · rw [if_pos h2]
      go_enter Tryd.func35, Tryd.ntmps35
      go_wp2_with (go_at_call 49; refine (nan_any _ _).mono ?_; rintro e w' ⟨rfl, rfl⟩)
      go_ret
      exact ⟨rfl, rfl⟩
    · rw [if_neg h2]
      go_enter Tryd.func35, Tryd.ntmps35
      go_wp2_with (go_at_call 49; refine (nan_any _ _).mono ?_; rintro e w' ⟨rfl, rfl⟩)
      go_ret
      exact ⟨rfl, rfl⟩
theorem byKey_any (x y : Rc) (w : World) : Calls Tryd.prog 34 #[.agg #[.int .u64 x.1, .int .u64 x.2], .agg #[.int .u64 y.1, .int .u64 y.2]] w fun e w' => e = .returned (.int .i64 (cfK x y)) ∧ Gr w w' := by
  have hc := fun W => compare_any x.1 y.1 W
  have hk : RowKit.Hid ((if x.1 < y.1 then (-1 : Int) else if y.1 < x.1 then 1 else 0) = cfK x y) := Lib.hid rfl
  generalize (if x.1 < y.1 then (-1 : Int) else if y.1 < x.1 then 1 else 0) = r at hc hk
  go_enter Tryd.func34, Tryd.ntmps34
  go_wp2_with (go_at_call 35; refine (hc _).mono ?_; rintro e w' ⟨rfl, rfl⟩)
  go_ret
  exact ⟨ret_int hk.out, ((Gr.refl w).alloc _).alloc _⟩

/-- slices.Equal. -/
theorem equal_any (s1 s2 : Option Addr) (n m c1 c2 : Nat) (xs ys : List Int) (r : Bool) (w : World) (h1 : WS w s1 n c1 xs) (h2 : WS w s2 m c2 ys) (hr : RowKit.Hid (r = decide (xs = ys))) :
    Calls Tryd.prog 29 #[.slice s1 n c1, .slice s2 m c2] w fun e w' => e = .returned (.bool r) ∧ ∃ q, w' = w.drewN q := by
  have hn := h1.le
  have hm := h2.le
  have H1 := Lib.hid h1
  have H2 := Lib.hid h2
  clear h1 h2
  by_cases hnm : n = m
  · subst hnm
    go_enter Tryd.func29, Tryd.ntmps29
    go_wp2_with (fail)
    go_loopw [13] (fun i w' => ∃ k q : Nat, k ≤ n ∧ i = .int .i64 k ∧ w' = w.drewN q ∧ RowKit.Hid (∀ j, j < k → xs[j]? = ys[j]?)) (fun i _ => n - (intOf i).toNat)
    case atStart => exact ⟨0, 0, by omega, rfl, rfl, Lib.hid (fun j hj => by omega)⟩
    case round =>
      obtain ⟨k, q, hk, rfl, rfl, hz⟩ := hrel
      by_cases hlt : k < n
      · obtain ⟨x, hx, hu, b, o, rfl, hc⟩ := H1.out.get hlt
        obtain ⟨y, hy, hv, b2, o2, rfl, hd⟩ := H2.out.get hlt
        have HX := Lib.hid hx
        have HY := Lib.hid hy
        clear hx hy
        by_cases h0 : x = y
        · subst h0
          go_wp2_with (fail)
          go_quiet (fail)
          go_wp2
          go_roundw
          case rel => exact ⟨k + 1, q + nq, by omega, by go_num, rfl, Lib.hid (fun j hj => by
            by_cases e : j = k
            · subst e; rw [HX.out, HY.out]
            · exact hz.out j (by omega))⟩
          case measure => simp [intOf]; omega
        · have hb : (x != y) = true := by simpa using h0
          go_wp2_with (fail)
          go_quiet (fail)
          go_wp2
          go_ret
          exact ⟨ret_bool (by rw [hr.out, decide_eq_false (ne_at HX.out HY.out h0)]), q + nq, World.drewN_drewN _ _ _⟩
      · obtain rfl : k = n := by omega
        go_wp2
        go_ret
        exact ⟨ret_bool (by rw [hr.out, decide_eq_true (eq_all H1.out.len H2.out.len hz.out)]), _, rfl⟩
  · have hb : ((n : Int) != (m : Int)) = true := by simp; omega
    have hb2 : (n != m) = true := by simpa using hnm
    go_enter Tryd.func29, Tryd.ntmps29
    go_wp2
    go_ret
    exact ⟨ret_bool (by rw [hr.out, decide_eq_false (fun e => hnm (by rw [← H1.out.len, ← H2.out.len, e]))]), 0, rfl⟩

/-- The document's Same. -/
theorem same_any (s1 s2 : Option Addr) (n m c1 c2 : Nat) (xs ys : List Int) (r : Bool) (w : World) (h1 : WS w s1 n c1 xs) (h2 : WS w s2 m c2 ys) (hr : RowKit.Hid (r = decide (xs = ys))) :
    Calls Tryd.prog 23 #[.slice s1 n c1, .slice s2 m c2] w fun e w' => e = .returned (.bool r) ∧ ∃ q, w' = w.drewN q := by
  have hn := h1.le
  have hm := h2.le
  have H1 := Lib.hid h1
  have H2 := Lib.hid h2
  clear h1 h2
  by_cases hnm : n = m
  · subst hnm
    go_enter Tryd.func23, Tryd.ntmps23
    go_wp2_with (fail)
    go_loopw [5] (fun i w' => ∃ k q : Nat, k ≤ n ∧ i = .int .i64 k ∧ w' = w.drewN q ∧ RowKit.Hid (∀ j, j < k → xs[j]? = ys[j]?)) (fun i _ => n - (intOf i).toNat)
    case atStart => exact ⟨0, 0, by omega, rfl, rfl, Lib.hid (fun j hj => by omega)⟩
    case round =>
      obtain ⟨k, q, hk, rfl, rfl, hz⟩ := hrel
      by_cases hlt : k < n
      · obtain ⟨x, hx, hu, b, o, rfl, hc⟩ := H1.out.get hlt
        obtain ⟨y, hy, hv, b2, o2, rfl, hd⟩ := H2.out.get hlt
        have HX := Lib.hid hx
        have HY := Lib.hid hy
        clear hx hy
        by_cases h0 : x = y
        · subst h0
          go_wp2_with (fail)
          go_quiet (fail)
          go_wp2
          go_roundw
          case rel => exact ⟨k + 1, q + nq, by omega, by go_num, rfl, Lib.hid (fun j hj => by
            by_cases e : j = k
            · subst e; rw [HX.out, HY.out]
            · exact hz.out j (by omega))⟩
          case measure => simp [intOf]; omega
        · have hb : (x != y) = true := by simpa using h0
          go_wp2_with (fail)
          go_quiet (fail)
          go_wp2
          go_ret
          exact ⟨ret_bool (by rw [hr.out, decide_eq_false (ne_at HX.out HY.out h0)]), q + nq, World.drewN_drewN _ _ _⟩
      · obtain rfl : k = n := by omega
        go_wp2
        go_ret
        exact ⟨ret_bool (by rw [hr.out, decide_eq_true (eq_all H1.out.len H2.out.len hz.out)]), _, rfl⟩
  · have hb : ((n : Int) != (m : Int)) = true := by simp; omega
    have hb2 : (n != m) = true := by simpa using hnm
    go_enter Tryd.func23, Tryd.ntmps23
    go_wp2
    go_ret
    exact ⟨ret_bool (by rw [hr.out, decide_eq_false (fun e => hnm (by rw [← H1.out.len, ← H2.out.len, e]))]), 0, rfl⟩

set_option maxHeartbeats 1000000 in
/-- The document's Records. -/
theorem records_same (s1 s2 : Option Addr) (n m c1 c2 : Nat) (xs ys : List Rc) (r : Bool) (w : World) (h1 : QS w s1 n c1 xs) (h2 : QS w s2 m c2 ys) (hr : RowKit.Hid (r = decide (xs = ys))) :
    Calls Tryd.prog 13 #[.slice s1 n c1, .slice s2 m c2] w fun e w' => e = .returned (.bool r) ∧ ∃ q, w' = w.drewN q := by
  have hn := h1.le
  have hm := h2.le
  have H1 := Lib.hid h1
  have H2 := Lib.hid h2
  clear h1 h2
  by_cases hnm : n = m
  · subst hnm
    go_enter Tryd.func13, Tryd.ntmps13
    go_wp2_with (fail)
    go_loopw [5] (fun i w' => ∃ k q : Nat, k ≤ n ∧ i = .int .i64 k ∧ w' = w.drewN q ∧ RowKit.Hid (∀ j, j < k → xs[j]? = ys[j]?)) (fun i _ => n - (intOf i).toNat)
    case atStart => exact ⟨0, 0, by omega, rfl, rfl, Lib.hid (fun j hj => by omega)⟩
    case round =>
      obtain ⟨k, q, hk, rfl, rfl, hz⟩ := hrel
      by_cases hlt : k < n
      · obtain ⟨p, x, hx, _, hu, b, o, rfl, hc, hc'⟩ := H1.out.get hlt
        obtain ⟨p', y, hy, _, hv, b2, o2, rfl, hd, hd'⟩ := H2.out.get hlt
        have HX := Lib.hid hx
        have HY := Lib.hid hy
        clear hx hy
        have q2 := eq2 p x p' y
        by_cases hp : p = p' ∧ x = y
        · obtain ⟨rfl, rfl⟩ := hp
          have hb1 : (p == p) = true := by simp
          have hb2 : (x == x) = true := by simp
          rw [hb1, hb2] at q2
          go_wp2_with (fail)
          go_quiet (fail)
          go_wp2
          go_roundw
          case rel => exact ⟨k + 1, q + nq, by omega, by go_num, rfl, Lib.hid (fun j hj => by
            by_cases e : j = k
            · subst e; rw [HX.out, HY.out]
            · exact hz.out j (by omega))⟩
          case measure => simp [intOf]; omega
        · have hb : ((p == p') && (x == y)) = false := by
            rw [Bool.and_eq_false_iff]
            by_cases e : p = p'
            · exact .inr (by simpa using fun e2 => hp ⟨e, e2⟩)
            · exact .inl (by simpa using e)
          rw [hb] at q2
          have HN : RowKit.Hid ((p, x) ≠ (p', y)) := Lib.hid (fun e => hp (by cases e; exact ⟨rfl, rfl⟩))
          clear hp hb
          go_wp2_with (fail)
          go_quiet (fail)
          go_wp2
          go_ret
          exact ⟨ret_bool (by rw [hr.out, decide_eq_false (ne_at HX.out HY.out HN.out)]), q + nq, World.drewN_drewN _ _ _⟩
      · obtain rfl : k = n := by omega
        go_wp2
        go_ret
        exact ⟨ret_bool (by rw [hr.out, decide_eq_true (eq_all H1.out.len H2.out.len hz.out)]), _, rfl⟩
  · have hb : ((n : Int) != (m : Int)) = true := by simp; omega
    have hb2 : (n != m) = true := by simpa using hnm
    go_enter Tryd.func13, Tryd.ntmps13
    go_wp2
    go_ret
    exact ⟨ret_bool (by rw [hr.out, decide_eq_false (fun e => hnm (by rw [← H1.out.len, ← H2.out.len, e]))]), 0, rfl⟩

end Go.Proofs.YtbpgnnogpcppdaaDoor
