/-
  The document's own answers on memory (package whitewashref03): what they return and leave. Conditions: the memory is there, as a list of words and links; or something is refused.
-/
import Derived.Test.YthegokjhgdneoaaCopy
namespace Go.Proofs.Ythegokjhgdneoaa
open Go.RowKit (intOf)

/-- Something is refused: no memory, no such place, no such process. -/
def Err (w : World) (mq : Option Addr) (p i : Int) : Prop :=
  mq = none ∨ ∃ (mb ab : Nat) (s : Value) (L : List (Int × Int)), mq = some ⟨mb, 0, none⟩ ∧ Mem w mb ab s L ∧ (i < 0 ∨ (L.length : Int) ≤ i ∨ p < 0 ∨ 16 ≤ p)

theorem Err.far {w w' : World} {mq : Option Addr} {p i : Int} (h : Err w mq p i) (g : w.grownBy w' none) : Err w' mq p i := by
  rcases h with h | ⟨mb, ab, s, L, e, m, c⟩
  · exact .inl h
  · exact .inr ⟨mb, ab, s, L, e, m.far g (by simp) (by simp), c⟩

theorem Mem.any {w : World} {mb ab : Nat} {s : Value} {L : List (Int × Int)} (h : Mem w mb ab s L) : ∃ sa n c, s = .slice sa n c ∧ n = L.length := by
  rcases h.form with ⟨e, e2⟩ | ⟨c, e⟩
  · exact ⟨none, 0, 0, e, by rw [e2]; rfl⟩
  · exact ⟨_, _, c, e, rfl⟩

theorem may_yes (mb n c : Nat) (sa : Option Addr) (p i : Int) (w : World) (hc : w.cell? ⟨mb, 0, none⟩ = some (.slice sa n c)) (h0 : 0 ≤ i) (h1 : i < n) (p0 : 0 ≤ p) (p1 : p < 16) :
    Calls Try.prog 41 #[.pointer (some ⟨mb, 0, none⟩), .int .i64 p, .int .i64 i] w fun e w' => e = .returned (.bool true) ∧ w = w' := by
  have p2 : p ≤ 15 := by omega
  go_enter Try.func41, Try.ntmps41
  go_wp2
  go_ret
  exact ⟨rfl, rfl⟩

set_option maxHeartbeats 1000000 in
theorem may_no (mq : Option Addr) (p i : Int) (w : World) (h : Err w mq p i) :
    Calls Try.prog 41 #[.pointer mq, .int .i64 p, .int .i64 i] w fun e w' => e = .returned (.bool false) ∧ w = w' := by
  rcases h with rfl | ⟨mb, ab, s, L, rfl, hm, hb⟩
  · go_enter Try.func41, Try.ntmps41
    go_wp2
    go_ret
    exact ⟨rfl, rfl⟩
  · obtain ⟨sa, n, c, rfl, hn⟩ := hm.any
    have hc := hm.m
    rw [← hn] at hb
    clear hm hn
    have hb' : i < 0 ∨ (0 ≤ i ∧ (n : Int) ≤ i) ∨ (0 ≤ i ∧ i < n ∧ p < 0) ∨ (0 ≤ i ∧ i < n ∧ 0 ≤ p ∧ 15 < p) := by omega
    clear hb
    rcases hb' with h1 | ⟨h1, h2⟩ | ⟨h1, h2, h3⟩ | ⟨h1, h2, h3, h4⟩
    all_goals
      try (have hd : decide (p ≤ 15) = false := by simp; omega)
      go_enter Try.func41, Try.ntmps41
      go_wp2
      go_ret
      exact ⟨rfl, rfl⟩

theorem has_any (x l p : Int) (w : World) (hl : I64 l) (p0 : 0 ≤ p) (p1 : p < 16) :
    Calls Try.prog 42 #[.agg #[.int .u64 x, .int .i64 l], .int .i64 p] w fun e w' => e = .returned (.bool (hasP l p)) ∧ w.grownBy w' none := by
  have hk := look1 l p hl.1 hl.2 p0 p1
  go_enter Try.func42, Try.ntmps42
  go_wp2
  go_ret
  exact ⟨rfl, World.grownBy_alloc _ _ _⟩

theorem rload_yes (mb ab : Nat) (s : Value) (L : List (Int × Int)) (i x l : Int) (w : World) (hM : Mem w mb ab s L) (hk : L[i.toNat]? = some (x, l)) (h0 : 0 ≤ i) :
    Calls Try.prog 25 #[.pointer (some ⟨mb, 0, none⟩), .int .i64 i] w fun e w' => e = .returned (.tuple #[.int .u64 x, .int .i64 0]) ∧ Mem w' mb ab s L ∧ w.grownBy w' none := by
  obtain ⟨⟨c, hsl⟩, hlt⟩ := hM.slice hk h0
  obtain ⟨hx, hl, fx, fl⟩ := hM.row _ _ hk
  have hs : w.cell? ⟨mb, 0, none⟩ = some (.slice (some ⟨ab, 0, none⟩) L.length c) := by rw [hM.m, hsl]
  have hml := hM.lt
  have hal := hM.row.lt hk
  have HK := Lib.hid hk
  have HM := Lib.hid hM
  clear hk hM hsl
  go_enter Try.func25, Try.ntmps25
  go_wp2_with (first
    | (go_at_call 41; with_reducible refine (may_yes _ _ _ _ _ _ _ hs h0 hlt (by omega) (by omega)).mono ?_; rintro e w' ⟨rfl, rfl⟩))
  go_ret2
  exact ⟨rfl, HM.out, grown_refl _ _⟩

set_option maxHeartbeats 1000000 in
theorem rstore_yes (mb ab : Nat) (s : Value) (L : List (Int × Int)) (i z x l : Int) (w : World) (hM : Mem w mb ab s L) (hk : L[i.toNat]? = some (x, l)) (h0 : 0 ≤ i) :
    Calls Try.prog 26 #[.pointer (some ⟨mb, 0, none⟩), .int .i64 i, .int .u64 z] w fun e w' => e = .returned (.int .i64 0) ∧ Mem w' mb ab s (L.set i.toNat (z, 0)) ∧ w.grownBy w' (some ab) := by
  obtain ⟨⟨c, hsl⟩, hlt⟩ := hM.slice hk h0
  obtain ⟨hx, hl, fx, fl⟩ := hM.row _ _ hk
  have hs : w.cell? ⟨mb, 0, none⟩ = some (.slice (some ⟨ab, 0, none⟩) L.length c) := by rw [hM.m, hsl]
  have hml := hM.lt
  have hal := hM.row.lt hk
  have HK := Lib.hid hk
  have HM := Lib.hid hM
  clear hk hM hsl
  go_enter Try.func26, Try.ntmps26
  go_wp2_with (first
    | (go_at_call 41; with_reducible refine (may_yes _ _ _ _ _ _ _ hs h0 hlt (by omega) (by omega)).mono ?_; rintro e w' ⟨rfl, rfl⟩))
  go_ret
  exact ⟨rfl, HM.out.put2 HK.out z 0, grown_trans (grown_set _ _ _ _) (grown_set _ _ _ _)⟩

set_option maxHeartbeats 1000000 in
theorem rvl_yes (mb ab : Nat) (s : Value) (L : List (Int × Int)) (p i x l : Int) (w : World) (hM : Mem w mb ab s L) (hk : L[i.toNat]? = some (x, l)) (h0 : 0 ≤ i) (p0 : 0 ≤ p) (p1 : p < 16) (rl : I64 l) :
    Calls Try.prog 28 #[.pointer (some ⟨mb, 0, none⟩), .int .i64 p, .int .i64 i] w fun e w' => e = .returned (.tuple #[.bool (hasP l p), .int .i64 0]) ∧ Mem w' mb ab s L ∧ w.grownBy w' none := by
  obtain ⟨⟨c, hsl⟩, hlt⟩ := hM.slice hk h0
  obtain ⟨hx, hl, fx, fl⟩ := hM.row _ _ hk
  have hs : w.cell? ⟨mb, 0, none⟩ = some (.slice (some ⟨ab, 0, none⟩) L.length c) := by rw [hM.m, hsl]
  have hml := hM.lt
  have hal := hM.row.lt hk
  have HK := Lib.hid hk
  have HM := Lib.hid hM
  clear hk hM hsl
  go_enter Try.func28, Try.ntmps28
  go_wp2_with (first
    | (go_at_call 41; with_reducible refine (may_yes _ _ _ _ _ _ _ hs h0 hlt (by omega) (by omega)).mono ?_; rintro e w' ⟨rfl, rfl⟩)
    | (go_at_call 42; with_reducible refine (has_any _ _ _ _ rl p0 p1).mono ?_; rintro e w' ⟨rfl, g⟩))
  go_ret2
  exact ⟨rfl, HM.out.far g (by simp) (by simp), g⟩

set_option maxHeartbeats 1000000 in
theorem rsc_yes (mb ab : Nat) (s : Value) (L : List (Int × Int)) (p i z x l : Int) (w : World) (hM : Mem w mb ab s L) (hk : L[i.toNat]? = some (x, l)) (h0 : 0 ≤ i) (p0 : 0 ≤ p) (p1 : p < 16) (rl : I64 l) (hq : hasP l p = true) :
    Calls Try.prog 29 #[.pointer (some ⟨mb, 0, none⟩), .int .i64 p, .int .i64 i, .int .u64 z] w fun e w' => e = .returned (.tuple #[.bool true, .int .i64 0]) ∧ Mem w' mb ab s (L.set i.toNat (z, 0)) ∧ w.grownBy w' (some ab) := by
  obtain ⟨⟨c, hsl⟩, hlt⟩ := hM.slice hk h0
  obtain ⟨hx, hl, fx, fl⟩ := hM.row _ _ hk
  have hs : w.cell? ⟨mb, 0, none⟩ = some (.slice (some ⟨ab, 0, none⟩) L.length c) := by rw [hM.m, hsl]
  have hml := hM.lt
  have hal := hM.row.lt hk
  have HK := Lib.hid hk
  have HM := Lib.hid hM
  clear hk hM hsl
  have HQ := Lib.hid hq
  clear hq
  go_enter Try.func29, Try.ntmps29
  go_wp2_with (first
    | (go_at_call 41; with_reducible refine (may_yes _ _ _ _ _ _ _ hs h0 hlt (by omega) (by omega)).mono ?_; rintro e w' ⟨rfl, rfl⟩)
    | (go_at_call 42; (with_reducible refine (has_any _ _ _ _ rl p0 p1).mono ?_); rintro e w' ⟨rfl, g⟩; rw [HQ.out]; have hs2 := g.cell hs (by simp); have hx2 := g.cell hx (by simp); have hl2 := g.cell hl (by simp); have fx2 := (g.frozen_far _ hal (by simp)).trans fx; have fl2 := (g.frozen_far _ hal (by simp)).trans fl))
  go_ret2
  exact ⟨rfl, (HM.out.far g (by simp) (by simp)).put2 HK.out z 0, grown_trans (grown_wide g) (grown_trans (grown_set _ _ _ _) (grown_set _ _ _ _))⟩

set_option maxHeartbeats 1000000 in
theorem rsc_not (mb ab : Nat) (s : Value) (L : List (Int × Int)) (p i z x l : Int) (w : World) (hM : Mem w mb ab s L) (hk : L[i.toNat]? = some (x, l)) (h0 : 0 ≤ i) (p0 : 0 ≤ p) (p1 : p < 16) (rl : I64 l) (hq : hasP l p = false) :
    Calls Try.prog 29 #[.pointer (some ⟨mb, 0, none⟩), .int .i64 p, .int .i64 i, .int .u64 z] w fun e w' => e = .returned (.tuple #[.bool false, .int .i64 0]) ∧ Mem w' mb ab s L ∧ w.grownBy w' none := by
  obtain ⟨⟨c, hsl⟩, hlt⟩ := hM.slice hk h0
  obtain ⟨hx, hl, fx, fl⟩ := hM.row _ _ hk
  have hs : w.cell? ⟨mb, 0, none⟩ = some (.slice (some ⟨ab, 0, none⟩) L.length c) := by rw [hM.m, hsl]
  have hml := hM.lt
  have hal := hM.row.lt hk
  have HK := Lib.hid hk
  have HM := Lib.hid hM
  clear hk hM hsl
  have HQ := Lib.hid hq
  clear hq
  go_enter Try.func29, Try.ntmps29
  go_wp2_with (first
    | (go_at_call 41; with_reducible refine (may_yes _ _ _ _ _ _ _ hs h0 hlt (by omega) (by omega)).mono ?_; rintro e w' ⟨rfl, rfl⟩)
    | (go_at_call 42; (with_reducible refine (has_any _ _ _ _ rl p0 p1).mono ?_); rintro e w' ⟨rfl, g⟩; rw [HQ.out]))
  go_ret2
  exact ⟨rfl, HM.out.far g (by simp) (by simp), g⟩

set_option maxHeartbeats 2000000 in
theorem rll_yes (mb ab : Nat) (s : Value) (L : List (Int × Int)) (p i x l : Int) (w : World) (hM : Mem w mb ab s L) (hk : L[i.toNat]? = some (x, l)) (h0 : 0 ≤ i) (p0 : 0 ≤ p) (p1 : p < 16) :
    Calls Try.prog 27 #[.pointer (some ⟨mb, 0, none⟩), .int .i64 p, .int .i64 i] w fun e w' => e = .returned (.tuple #[.int .u64 x, .int .i64 0]) ∧ Mem w' mb ab s (L.set i.toNat (x, withP l p)) ∧ w.grownBy w' (some ab) := by
  obtain ⟨⟨c, hsl⟩, hlt⟩ := hM.slice hk h0
  obtain ⟨hx, hl, fx, fl⟩ := hM.row _ _ hk
  have hs : w.cell? ⟨mb, 0, none⟩ = some (.slice (some ⟨ab, 0, none⟩) L.length c) := by rw [hM.m, hsl]
  have hml := hM.lt
  have hal := hM.row.lt hk
  have HK := Lib.hid hk
  have HM := Lib.hid hM
  clear hk hM hsl
  have hw64 : RowKit.wrap64 (2 ^ p.toNat) = bit p := by
    have := bit_bd p p0 p1
    unfold bit at *
    simp only [RowKit.wrap64]
    omega
  have hs2 := alloc_cell (.cells #[.int .u64 x, .int .i64 (bits .or .i64 l (bit p))] 53) hs
  have hx2 := alloc_cell (.cells #[.int .u64 x, .int .i64 (bits .or .i64 l (bit p))] 53) hx
  have hl2 := alloc_cell (.cells #[.int .u64 x, .int .i64 (bits .or .i64 l (bit p))] 53) hl
  have fx2 := (alloc_frozen (.cells #[.int .u64 x, .int .i64 (bits .or .i64 l (bit p))] 53) hx).trans fx
  have fl2 := (alloc_frozen (.cells #[.int .u64 x, .int .i64 (bits .or .i64 l (bit p))] 53) hl).trans fl
  have hn1 : ¬ ab = w.heap.size := by omega
  have hn2 : ¬ w.heap.size = ab := by omega
  have HF := Lib.hid (HM.out.put2 HK.out x (withP l p))
  have HG : RowKit.Hid (w.grownBy ((w.setCell ⟨ab, i.toNat * 2, none⟩ (.int .u64 x)).setCell ⟨ab, i.toNat * 2 + 1, none⟩ (.int .i64 (withP l p))) (some ab)) := Lib.hid (grown_trans (grown_set _ _ _ _) (grown_set _ _ _ _))
  go_enter Try.func27, Try.ntmps27
  go_wp2_with (first
    | (go_at_call 41; with_reducible refine (may_yes _ _ _ _ _ _ _ hs h0 hlt (by omega) (by omega)).mono ?_; rintro e w' ⟨rfl, rfl⟩))
  go_region
  go_wp2_with (fail)
  go_region
  all_goals
    go_wp2
    go_ret2
    exact ⟨rfl, (HF.out.far (World.grownBy_alloc _ _ none) (by simp) (by simp)).drewN 2, grown_trans (grown_trans HG.out (World.grownBy_alloc _ _ _)) (grown_drewN _ 2 _)⟩

set_option maxHeartbeats 2000000 in
theorem rrl_yes (mb ab : Nat) (s : Value) (L : List (Int × Int)) (p i x l : Int) (w : World) (hM : Mem w mb ab s L) (hk : L[i.toNat]? = some (x, l)) (h0 : 0 ≤ i) (p0 : 0 ≤ p) (p1 : p < 16) :
    Calls Try.prog 30 #[.pointer (some ⟨mb, 0, none⟩), .int .i64 p, .int .i64 i] w fun e w' => e = .returned (.int .i64 0) ∧ Mem w' mb ab s (L.set i.toNat (x, lessP l p)) ∧ w.grownBy w' (some ab) := by
  obtain ⟨⟨c, hsl⟩, hlt⟩ := hM.slice hk h0
  obtain ⟨hx, hl, fx, fl⟩ := hM.row _ _ hk
  have hs : w.cell? ⟨mb, 0, none⟩ = some (.slice (some ⟨ab, 0, none⟩) L.length c) := by rw [hM.m, hsl]
  have hml := hM.lt
  have hal := hM.row.lt hk
  have HK := Lib.hid hk
  have HM := Lib.hid hM
  clear hk hM hsl
  have hw64 : RowKit.wrap64 (2 ^ p.toNat) = bit p := by
    have := bit_bd p p0 p1
    unfold bit at *
    simp only [RowKit.wrap64]
    omega
  have hs2 := alloc_cell (.cells #[.int .u64 x, .int .i64 (bits .andNot .i64 l (bit p))] 53) hs
  have hx2 := alloc_cell (.cells #[.int .u64 x, .int .i64 (bits .andNot .i64 l (bit p))] 53) hx
  have hl2 := alloc_cell (.cells #[.int .u64 x, .int .i64 (bits .andNot .i64 l (bit p))] 53) hl
  have fx2 := (alloc_frozen (.cells #[.int .u64 x, .int .i64 (bits .andNot .i64 l (bit p))] 53) hx).trans fx
  have fl2 := (alloc_frozen (.cells #[.int .u64 x, .int .i64 (bits .andNot .i64 l (bit p))] 53) hl).trans fl
  have hn1 : ¬ ab = w.heap.size := by omega
  have hn2 : ¬ w.heap.size = ab := by omega
  have HF := Lib.hid (HM.out.put2 HK.out x (lessP l p))
  have HG : RowKit.Hid (w.grownBy ((w.setCell ⟨ab, i.toNat * 2, none⟩ (.int .u64 x)).setCell ⟨ab, i.toNat * 2 + 1, none⟩ (.int .i64 (lessP l p))) (some ab)) := Lib.hid (grown_trans (grown_set _ _ _ _) (grown_set _ _ _ _))
  go_enter Try.func30, Try.ntmps30
  go_wp2_with (first
    | (go_at_call 41; with_reducible refine (may_yes _ _ _ _ _ _ _ hs h0 hlt (by omega) (by omega)).mono ?_; rintro e w' ⟨rfl, rfl⟩))
  go_region
  go_wp2_with (fail)
  go_region
  all_goals
    go_wp2
    go_ret
    exact ⟨rfl, (HF.out.far (World.grownBy_alloc _ _ none) (by simp) (by simp)).drewN 2, grown_trans (grown_trans HG.out (World.grownBy_alloc _ _ _)) (grown_drewN _ 2 _)⟩

theorem rload_no (i : Int) (mq : Option Addr) (w : World) (he : Err w mq 0 i) :
    Calls Try.prog 25 #[.pointer mq, .int .i64 i] w fun e w' => e = .returned (.tuple #[.int .u64 0, .int .i64 1]) ∧ w.grownBy w' none := by
  have he' := Lib.hid he
  clear he
  go_enter Try.func25, Try.ntmps25
  go_wp2_with (first
    | (go_at_call 41; with_reducible refine (may_no _ _ _ _ he'.out).mono ?_; rintro e w' ⟨rfl, rfl⟩))
  go_ret2
  exact ⟨rfl, grown_refl _ _⟩

theorem rstore_no (i z : Int) (mq : Option Addr) (w : World) (he : Err w mq 0 i) :
    Calls Try.prog 26 #[.pointer mq, .int .i64 i, .int .u64 z] w fun e w' => e = .returned (.int .i64 1) ∧ w.grownBy w' none := by
  have he' := Lib.hid he
  clear he
  go_enter Try.func26, Try.ntmps26
  go_wp2_with (first
    | (go_at_call 41; with_reducible refine (may_no _ _ _ _ he'.out).mono ?_; rintro e w' ⟨rfl, rfl⟩))
  go_ret
  exact ⟨rfl, grown_refl _ _⟩

theorem rll_no (p i : Int) (mq : Option Addr) (w : World) (he : Err w mq p i) :
    Calls Try.prog 27 #[.pointer mq, .int .i64 p, .int .i64 i] w fun e w' => e = .returned (.tuple #[.int .u64 0, .int .i64 1]) ∧ w.grownBy w' none := by
  have he' := Lib.hid he
  clear he
  go_enter Try.func27, Try.ntmps27
  go_wp2_with (first
    | (go_at_call 41; with_reducible refine (may_no _ _ _ _ he'.out).mono ?_; rintro e w' ⟨rfl, rfl⟩))
  go_ret2
  exact ⟨rfl, grown_refl _ _⟩

theorem rvl_no (p i : Int) (mq : Option Addr) (w : World) (he : Err w mq p i) :
    Calls Try.prog 28 #[.pointer mq, .int .i64 p, .int .i64 i] w fun e w' => e = .returned (.tuple #[.bool false, .int .i64 1]) ∧ w.grownBy w' none := by
  have he' := Lib.hid he
  clear he
  go_enter Try.func28, Try.ntmps28
  go_wp2_with (first
    | (go_at_call 41; with_reducible refine (may_no _ _ _ _ he'.out).mono ?_; rintro e w' ⟨rfl, rfl⟩))
  go_ret2
  exact ⟨rfl, grown_refl _ _⟩

theorem rsc_no (p i z : Int) (mq : Option Addr) (w : World) (he : Err w mq p i) :
    Calls Try.prog 29 #[.pointer mq, .int .i64 p, .int .i64 i, .int .u64 z] w fun e w' => e = .returned (.tuple #[.bool false, .int .i64 1]) ∧ w.grownBy w' none := by
  have he' := Lib.hid he
  clear he
  go_enter Try.func29, Try.ntmps29
  go_wp2_with (first
    | (go_at_call 41; with_reducible refine (may_no _ _ _ _ he'.out).mono ?_; rintro e w' ⟨rfl, rfl⟩))
  go_ret2
  exact ⟨rfl, grown_refl _ _⟩

theorem rrl_no (p i : Int) (mq : Option Addr) (w : World) (he : Err w mq p i) :
    Calls Try.prog 30 #[.pointer mq, .int .i64 p, .int .i64 i] w fun e w' => e = .returned (.int .i64 1) ∧ w.grownBy w' none := by
  have he' := Lib.hid he
  clear he
  go_enter Try.func30, Try.ntmps30
  go_wp2_with (first
    | (go_at_call 41; with_reducible refine (may_no _ _ _ _ he'.out).mono ?_; rintro e w' ⟨rfl, rfl⟩))
  go_ret
  exact ⟨rfl, grown_refl _ _⟩

theorem Err.bad {w : World} {mq : Option Addr} {p i : Int} (h : Err w mq p i) (p0 : 0 ≤ p) (p1 : p < 16) : Bad w mq i := by
  rcases h with rfl | ⟨mb, ab, s, L, rfl, hm, hb⟩
  · exact .inl rfl
  · exact hm.bad (by omega)

theorem load_no (i : Int) (mq : Option Addr) (w : World) (he : Err w mq 0 i) :
    Calls Try.prog 15 #[.pointer mq, .int .i64 i] w fun e w' => e = .returned (.tuple #[.int .u64 0, .int .i64 1]) ∧ w.grownBy w' none := load_bad_m_any _ _ _ (he.bad (by omega) (by omega))
theorem store_no (i z : Int) (mq : Option Addr) (w : World) (he : Err w mq 0 i) :
    Calls Try.prog 16 #[.pointer mq, .int .i64 i, .int .u64 z] w fun e w' => e = .returned (.int .i64 1) ∧ w.grownBy w' none := store_bad_m_any _ _ _ _ (he.bad (by omega) (by omega))
theorem ll_no (p i : Int) (mq : Option Addr) (w : World) (he : Err w mq p i) :
    Calls Try.prog 17 #[.pointer mq, .int .i64 p, .int .i64 i] w fun e w' => e = .returned (.tuple #[.int .u64 0, .int .i64 1]) ∧ w.grownBy w' none := by
  by_cases h : 0 ≤ p ∧ p < 16
  · exact ll_bad_m_any _ _ _ _ h.1 h.2 (he.bad h.1 h.2)
  · exact ll_bad_p_any _ _ _ _ (by omega)
theorem sc_no (p i z : Int) (mq : Option Addr) (w : World) (he : Err w mq p i) :
    Calls Try.prog 19 #[.pointer mq, .int .i64 p, .int .i64 i, .int .u64 z] w fun e w' => e = .returned (.tuple #[.bool false, .int .i64 1]) ∧ w.grownBy w' none := by
  by_cases h : 0 ≤ p ∧ p < 16
  · exact sc_bad_m_any _ _ _ _ _ h.1 h.2 (he.bad h.1 h.2)
  · exact sc_bad_p_any _ _ _ _ _ (by omega)
theorem rl_no (p i : Int) (mq : Option Addr) (w : World) (he : Err w mq p i) :
    Calls Try.prog 20 #[.pointer mq, .int .i64 p, .int .i64 i] w fun e w' => e = .returned (.int .i64 1) ∧ w.grownBy w' none := by
  by_cases h : 0 ≤ p ∧ p < 16
  · exact rl_bad_m_any _ _ _ _ h.1 h.2 (he.bad h.1 h.2)
  · exact rl_bad_p_any _ _ _ _ (by omega)
theorem vl_no (p i : Int) (mq : Option Addr) (w : World) (he : Err w mq p i) :
    Calls Try.prog 18 #[.pointer mq, .int .i64 p, .int .i64 i] w fun e w' => e = .returned (.tuple #[.bool false, .int .i64 1]) ∧ w.grownBy w' none := by
  rcases he with rfl | ⟨mb, ab, s, L, rfl, hm, hb⟩
  · exact vl_bad_m_any _ _ _ _ (.inl rfl)
  · by_cases h : i < 0 ∨ (L.length : Int) ≤ i
    · exact vl_bad_m_any _ _ _ _ (hm.bad h)
    · have hl : i.toNat < L.length := by omega
      exact vl_bad_p_any _ _ _ _ _ _ L[i.toNat].1 L[i.toNat].2 _ hm (List.getElem?_eq_getElem hl) (by omega) (by omega)

end Go.Proofs.Ythegokjhgdneoaa
