/-
  Parts of a proof, one behind the other: MixWords, MixCalls, MixMain, MixSlot, MixRef. Each says its own conditions.
-/
import Derived.Laws.Bits64
import Derived.Test.YtmonkcekkhfafaaGreatDoorChecked
import Derived.WalkKit
import Derived.WalkLawsBesides
import Derived.Lib.Hide
import Derived.RowKit3
import Derived.Deep.QuietTactic
import Derived.BigQuiet
import Derived.Sort.Grow

/- MixWords:
  Words (integers from 0 to less than 2^64) that are folded, unfolded, mixed and unmixed, as plain functions, and that the ones undo the others. No condition but those that each fact names.
-/
namespace Go.Proofs.YtmonkcekkhfafaaGreatDoor

/-- Folded by n. -/
def foldN (n x : Nat) : Nat := x ^^^ (x >>> n)
/-- Unfolded by n, of 22 to 31: two folds more shift all out. -/
def unfN (n x : Nat) : Nat := (x ^^^ (x >>> n)) ^^^ (x >>> (2 * n))
def timesN (c x : Nat) : Nat := x * c % 18446744073709551616

theorem shr_lt {x : Nat} (n : Nat) (h : x < 18446744073709551616) : x >>> n < 18446744073709551616 := by
  rw [Nat.shiftRight_eq_div_pow]; exact Nat.lt_of_le_of_lt (Nat.div_le_self _ _) h
theorem xor_lt {x y : Nat} (h : x < 18446744073709551616) (g : y < 18446744073709551616) : x ^^^ y < 18446744073709551616 :=
  Nat.xor_lt_two_pow (n := 64) h g
theorem foldN_lt (n : Nat) {x : Nat} (h : x < 18446744073709551616) : foldN n x < 18446744073709551616 := xor_lt h (shr_lt n h)
theorem timesN_lt (c x : Nat) : timesN c x < 18446744073709551616 := Nat.mod_lt _ (by decide)

theorem shr_out {n x : Nat} (hn : 22 ≤ n) (h : x < 18446744073709551616) : x >>> (3 * n) = 0 := by
  rw [Nat.shiftRight_eq_div_pow]
  apply Nat.div_eq_of_lt
  have : 2 ^ 64 ≤ 2 ^ (3 * n) := Nat.pow_le_pow_right (by decide) (by omega)
  omega

theorem unf_fold {n x : Nat} (hn : 22 ≤ n) (h : x < 18446744073709551616) : unfN n (foldN n x) = x := by
  unfold unfN foldN
  rw [Nat.shiftRight_xor_distrib, Nat.shiftRight_xor_distrib, ← Nat.shiftRight_add, ← Nat.shiftRight_add]
  rw [show n + n = 2 * n by omega, show n + 2 * n = 3 * n by omega, shr_out hn h, Nat.xor_zero]
  rw [Nat.xor_assoc x, ← Nat.xor_assoc (x >>> n), Nat.xor_self, Nat.zero_xor, Nat.xor_assoc, Nat.xor_self, Nat.xor_zero]

theorem times_back {c d x : Nat} (hc : c * d % 18446744073709551616 = 1) (h : x < 18446744073709551616) : timesN d (timesN c x) = x := by
  unfold timesN
  rw [Nat.mod_mul_mod, Nat.mul_assoc, Nat.mul_mod, hc, Nat.mul_one, Nat.mod_mod, Nat.mod_eq_of_lt h]

/-- Mixed, and unmixed. -/
def mixN (x : Nat) : Nat := foldN 31 (timesN 10723151780598845931 (foldN 27 (timesN 13787848793156543929 (foldN 30 x))))
def unmixN (x : Nat) : Nat := unfN 30 (timesN 10871156337175269513 (unfN 27 (timesN 3573116690164977347 (unfN 31 x))))

theorem mixN_lt {x : Nat} (_h : x < 18446744073709551616) : mixN x < 18446744073709551616 := foldN_lt _ (timesN_lt _ _)
theorem unmix_mix {x : Nat} (h : x < 18446744073709551616) : unmixN (mixN x) = x := by
  unfold unmixN mixN
  rw [unf_fold (by decide) (timesN_lt _ _), times_back (by decide) (foldN_lt _ (timesN_lt _ _)), unf_fold (by decide) (timesN_lt _ _), times_back (by decide) (foldN_lt _ h), unf_fold (by decide) h]
/-- The same over integers. -/
def fold (n : Nat) (x : Int) : Int := (foldN n x.toNat : Nat)
def unf (n : Nat) (x : Int) : Int := (unfN n x.toNat : Nat)
def times (c : Nat) (x : Int) : Int := (timesN c x.toNat : Nat)
def mixed (x : Int) : Int := (mixN x.toNat : Nat)
def unmixed (x : Int) : Int := (unmixN x.toNat : Nat)

theorem fold_bd (n : Nat) (x : Int) (h : x < 18446744073709551616) : 0 ≤ fold n x ∧ fold n x < 18446744073709551616 := by
  have := foldN_lt n (x := x.toNat) (by omega); unfold fold; omega
theorem mixed_bd (x : Int) (h : x < 18446744073709551616) : 0 ≤ mixed x ∧ mixed x < 18446744073709551616 := by
  have := mixN_lt (x := x.toNat) (by omega); unfold mixed; omega
theorem unmixed_mixed (x : Int) (h0 : 0 ≤ x) (h : x < 18446744073709551616) : unmixed (mixed x) = x := by
  unfold unmixed mixed; rw [Int.toNat_natCast, unmix_mix (by omega)]; omega
theorem mixed_inj (x y : Int) (hx0 : 0 ≤ x) (hx : x < 18446744073709551616) (hy0 : 0 ≤ y) (hy : y < 18446744073709551616) (h : mixed x = mixed y) : x = y := by
  rw [← unmixed_mixed x hx0 hx, h, unmixed_mixed y hy0 hy]

/-- How the walk spells them. -/
theorem shr_word (x : Int) (s : Nat) (h0 : 0 ≤ x) : x / 2 ^ s = ((x.toNat >>> s : Nat) : Int) := by
  rw [Nat.shiftRight_eq_div_pow]
  conv => lhs; rw [← Int.toNat_of_nonneg h0]
  rw [Int.natCast_ediv, Int.natCast_pow]; rfl
theorem xor_word (x y : Int) (h0 : 0 ≤ x) (h : x < 18446744073709551616) (g0 : 0 ≤ y) (g : y < 18446744073709551616) : bits .xor .u64 x y = ((x.toNat ^^^ y.toNat : Nat) : Int) := by
  have := bits_xor_u64_nat x.toNat y.toNat (by omega) (by omega)
  rwa [Int.toNat_of_nonneg h0, Int.toNat_of_nonneg g0] at this
theorem fold_word (x : Int) (s : Nat) (h0 : 0 ≤ x) (h : x < 18446744073709551616) : bits .xor .u64 x (x / 2 ^ s) = fold s x := by
  have hs := shr_lt s (x := x.toNat) (by omega)
  rw [shr_word x s h0, xor_word x _ h0 h (Int.natCast_nonneg _) (Int.ofNat_lt.2 hs), Int.toNat_natCast]; rfl
theorem times_word (x : Int) (c : Nat) (h0 : 0 ≤ x) : IntKind.u64.wrap (x * c) = times c x := by
  rw [IntKind.wrap_u64]
  unfold times timesN
  rw [Int.natCast_emod, Int.natCast_mul, Int.toNat_of_nonneg h0]; rfl

end Go.Proofs.YtmonkcekkhfafaaGreatDoor

/- MixCalls:
  What each function of package mix returns, in whatever world that holds the package's table, for words: integers from 0 to less than 2^64 (the condition that each fact names). Each call leaves memory as it was, but for new blocks and draws.
-/
namespace Go.Proofs.YtmonkcekkhfafaaGreatDoor

theorem ret_int {k : IntKind} {a b : Int} (h : a = b) : Ending.returned (.int k a) = .returned (.int k b) := by rw [h]

set_option maxHeartbeats 400000 in
theorem folded_any (x n : Int) (w : World) (h0 : 0 ≤ x) (h1 : x < 18446744073709551616) (g0 : 0 ≤ n) (g1 : n < 64) :
    Calls Tryz.prog 133 #[.int .u64 x, .int .u64 n] w fun e w' => e = .returned (.int .u64 (fold n.toNat x)) ∧ w = w' := by
  have hx := fold_word x n.toNat h0 h1
  go_enter Tryz.func133, Tryz.ntmps133
  go_wp2
  go_ret
  exact ⟨rfl, rfl⟩

end Go.Proofs.YtmonkcekkhfafaaGreatDoor

/- MixMain:
  What Mix and Unmix return, in whatever world that holds the package's table, for words: integers from 0 to less than 2^64 (the conditions). Each leaves memory as it was, but for new blocks and draws.
-/
namespace Go.Proofs.YtmonkcekkhfafaaGreatDoor
open Go.RowKit (intOf Grown)

/-- The world holds the package's table: three folds, factors and their inverses. -/
structure Tab (w : World) : Prop where
  c0 : w.cell? ⟨1, 0, none⟩ = some (.int .u64 30)
  c1 : w.cell? ⟨1, 1, none⟩ = some (.int .u64 13787848793156543929)
  c2 : w.cell? ⟨1, 2, none⟩ = some (.int .u64 10871156337175269513)
  c3 : w.cell? ⟨1, 3, none⟩ = some (.int .u64 27)
  c4 : w.cell? ⟨1, 4, none⟩ = some (.int .u64 10723151780598845931)
  c5 : w.cell? ⟨1, 5, none⟩ = some (.int .u64 3573116690164977347)
  c6 : w.cell? ⟨1, 6, none⟩ = some (.int .u64 31)
  c7 : w.cell? ⟨1, 7, none⟩ = some (.int .u64 1)
  c8 : w.cell? ⟨1, 8, none⟩ = some (.int .u64 1)

theorem Tab.size {w : World} (h : Tab w) : 1 < w.heap.size := World.block_lt_of_cell? w _ h.c0

theorem Tab.alloc {w : World} (h : Tab w) (o : Obj) : Tab (w.alloc o) := by
  have hs := h.size
  have e : ∀ i, (w.alloc o).cell? ⟨1, i, none⟩ = w.cell? ⟨1, i, none⟩ := fun i => World.cell?_alloc_lt w o _ hs
  exact ⟨(e _).trans h.c0, (e _).trans h.c1, (e _).trans h.c2, (e _).trans h.c3, (e _).trans h.c4, (e _).trans h.c5, (e _).trans h.c6, (e _).trans h.c7, (e _).trans h.c8⟩

theorem Tab.drewN {w : World} (h : Tab w) (n : Nat) : Tab (w.drewN n) := ⟨h.c0, h.c1, h.c2, h.c3, h.c4, h.c5, h.c6, h.c7, h.c8⟩
/-- w' is w, with draws and new blocks. -/
def Gr (w w' : World) : Prop := ∃ q os, w' = Sort.grow (w.drewN q) os
theorem Gr.refl (w : World) : Gr w w := ⟨0, #[], by rw [Sort.grow_empty]; rfl⟩
theorem Gr.drewN {a w : World} (h : Gr a w) (n : Nat) : Gr a (w.drewN n) := by
  obtain ⟨q, os, rfl⟩ := h
  exact ⟨q + n, os, by rw [← World.drewN_drewN]; rfl⟩
theorem Gr.alloc {a w : World} (h : Gr a w) (o : Obj) : Gr a (w.alloc o) := by
  obtain ⟨q, os, rfl⟩ := h
  exact ⟨q, os ++ #[o], by rw [Sort.alloc_eq_grow, Sort.grow_grow]⟩
theorem Gr.trans {a b c : World} (h : Gr a b) (g : Gr b c) : Gr a c := by
  obtain ⟨q, os, rfl⟩ := h
  obtain ⟨p, us, rfl⟩ := g
  refine ⟨q + p, os ++ us, ?_⟩
  rw [← Sort.grow_grow, ← World.drewN_drewN]; rfl
def m1 (x : Int) : Int := times 13787848793156543929 (fold 30 x)
def m2 (x : Int) : Int := times 10723151780598845931 (fold 27 (m1 x))
def m3 (x : Int) : Int := times 1 (fold 31 (m2 x))

theorem times_bd (c : Nat) (x : Int) : 0 ≤ times c x ∧ times c x < 18446744073709551616 := by
  have := timesN_lt c x.toNat; unfold times; omega

theorem times_one (y : Nat) (h : y < 18446744073709551616) : timesN 1 y = y := by
  unfold timesN; rw [Nat.mul_one]; exact Nat.mod_eq_of_lt h
theorem m3_mixed (x : Int) : m3 x = mixed x := by
  unfold m3 m2 m1 times fold mixed mixN
  rw [Int.toNat_natCast, Int.toNat_natCast, Int.toNat_natCast, Int.toNat_natCast, Int.toNat_natCast]
  rw [times_one _ (foldN_lt _ (timesN_lt _ _))]

theorem index0 (w : World) : (Instr.index 170 (.agg #[.int .u64 30, .int .u64 13787848793156543929, .int .u64 10871156337175269513, .int .u64 27, .int .u64 10723151780598845931, .int .u64 3573116690164977347, .int .u64 31, .int .u64 1, .int .u64 1]) (.int .i64 0)).run Tryz.prog w = .ok (.agg #[.int .u64 30, .int .u64 13787848793156543929, .int .u64 10871156337175269513]) w := by kernel_rfl
theorem index1 (w : World) : (Instr.index 170 (.agg #[.int .u64 30, .int .u64 13787848793156543929, .int .u64 10871156337175269513, .int .u64 27, .int .u64 10723151780598845931, .int .u64 3573116690164977347, .int .u64 31, .int .u64 1, .int .u64 1]) (.int .i64 1)).run Tryz.prog w = .ok (.agg #[.int .u64 27, .int .u64 10723151780598845931, .int .u64 3573116690164977347]) w := by kernel_rfl
theorem index2 (w : World) : (Instr.index 170 (.agg #[.int .u64 30, .int .u64 13787848793156543929, .int .u64 10871156337175269513, .int .u64 27, .int .u64 10723151780598845931, .int .u64 3573116690164977347, .int .u64 31, .int .u64 1, .int .u64 1]) (.int .i64 2)).run Tryz.prog w = .ok (.agg #[.int .u64 31, .int .u64 1, .int .u64 1]) w := by kernel_rfl

theorem fold_quiet (x n : Int) (k : Nat) (w : World) (m : Nat) (hk : n.toNat = k) (h0 : 0 ≤ x) (h1 : x < 18446744073709551616) (g0 : 0 ≤ n) (g1 : n < 64) :
    Calls Tryz.prog 133 #[.int .u64 x, .int .u64 n] (w.drewN m) fun e w'' => e = .returned (.int .u64 (fold k x)) ∧ ∃ j, w'' = w.drewN j := by
  subst hk
  exact Calls.quiet_of_same ((folded_any x n _ h0 h1 g0 g1).mono fun _ _ h => ⟨h.1, h.2.symm⟩)
theorem m1_word (x : Int) (h : x < 18446744073709551616) : IntKind.u64.wrap (fold 30 x * 13787848793156543929) = m1 x := times_word _ 13787848793156543929 (fold_bd 30 x h).1
theorem m2_word (x : Int) : IntKind.u64.wrap (fold 27 (m1 x) * 10723151780598845931) = m2 x := times_word _ 10723151780598845931 (fold_bd 27 _ (times_bd _ _).2).1
theorem m3_word (x : Int) : IntKind.u64.wrap (fold 31 (m2 x) * 1) = m3 x := times_word _ 1 (fold_bd 31 _ (times_bd _ _).2).1
theorem m3_word1 (x : Int) : IntKind.u64.wrap (fold 31 (m2 x)) = m3 x := by have := m3_word x; rwa [Int.mul_one] at this
theorem m1_bd (x : Int) : 0 ≤ m1 x ∧ m1 x < 18446744073709551616 := times_bd _ _
theorem m2_bd (x : Int) : 0 ≤ m2 x ∧ m2 x < 18446744073709551616 := times_bd _ _


set_option maxHeartbeats 2000000 in
theorem mix_any (x : Int) (w : World) (hT : Tab w) (h0 : 0 ≤ x) (h1 : x < 18446744073709551616) :
    Calls Tryz.prog 114 #[.int .u64 x] w fun e w' => e = .returned (.int .u64 (mixed x)) ∧ Gr w w' := by
  have hm : RowKit.Hid (m3 x = mixed x) := Lib.hid (m3_mixed x)
  have hT' : RowKit.Hid (Tab w) := Lib.hid hT
  obtain ⟨c0, c1, c2, c3, c4, c5, c6, c7, c8⟩ := hT
  go_enter Tryz.func114, Tryz.ntmps114
  go_wp2
  go_loopw [0, 6] (fun a i wr => Tab wr ∧ Gr w wr ∧ ((a = .int .u64 x ∧ i = .int .i64 0) ∨ (a = .int .u64 (m1 x) ∧ i = .int .i64 1) ∨ (a = .int .u64 (m2 x) ∧ i = .int .i64 2) ∨ (a = .int .u64 (m3 x) ∧ i = .int .i64 3))) (fun _ i _ => (3 - intOf i).toNat)
  case atStart => exact ⟨hT'.out, Gr.refl _, .inl ⟨rfl, rfl⟩⟩
  case round =>
    obtain ⟨hTr, hg, hrel⟩ := hrel
    rcases hrel with ⟨rfl, rfl⟩ | ⟨rfl, rfl⟩ | ⟨rfl, rfl⟩ | ⟨rfl, rfl⟩
    · obtain ⟨c0, c1, c2, c3, c4, c5, c6, c7, c8⟩ := hTr
      have hTr' : RowKit.Hid (Tab wr) := Lib.hid ⟨c0, c1, c2, c3, c4, c5, c6, c7, c8⟩
      have hi := index0 wr
      skip
      have hw := m1_word x h1
      go_wp2
      go_quiet ((go_at_call 133; exact fold_quiet _ _ 30 _ _ rfl (by omega) (by omega) (by omega) (by omega)))
      go_wp2
      go_roundw
      case rel => exact ⟨(hTr'.out.alloc _).drewN _, (hg.alloc _).drewN _, .inr (.inl ⟨rfl, rfl⟩)⟩
      case measure => simp [intOf]
    · obtain ⟨c0, c1, c2, c3, c4, c5, c6, c7, c8⟩ := hTr
      have hTr' : RowKit.Hid (Tab wr) := Lib.hid ⟨c0, c1, c2, c3, c4, c5, c6, c7, c8⟩
      have hi := index1 wr
      have hb := m1_bd x
      have hw := m2_word x
      go_wp2
      go_quiet ((go_at_call 133; exact fold_quiet _ _ 27 _ _ rfl (by omega) (by omega) (by omega) (by omega)))
      go_wp2
      go_roundw
      case rel => exact ⟨(hTr'.out.alloc _).drewN _, (hg.alloc _).drewN _, .inr (.inr (.inl ⟨rfl, rfl⟩))⟩
      case measure => simp [intOf]
    · obtain ⟨c0, c1, c2, c3, c4, c5, c6, c7, c8⟩ := hTr
      have hTr' : RowKit.Hid (Tab wr) := Lib.hid ⟨c0, c1, c2, c3, c4, c5, c6, c7, c8⟩
      have hi := index2 wr
      have hb := m2_bd x
      have hw := m3_word x; have hw1 := m3_word1 x
      go_wp2
      go_quiet ((go_at_call 133; exact fold_quiet _ _ 31 _ _ rfl (by omega) (by omega) (by omega) (by omega)))
      go_wp2
      go_roundw
      case rel => exact ⟨(hTr'.out.alloc _).drewN _, (hg.alloc _).drewN _, .inr (.inr (.inr ⟨rfl, rfl⟩))⟩
      case measure => simp [intOf]
    · go_wp2
      go_ret
      exact ⟨ret_int hm.out, hg⟩

end Go.Proofs.YtmonkcekkhfafaaGreatDoor

/- MixSlot:
  What Slot and Before return, and that the first calls of each statement come to true, in whatever world that holds the package's table, for words (integers from 0 to less than 2^64) and an int (the conditions).
-/
namespace Go.Proofs.YtmonkcekkhfafaaGreatDoor
open Go.RowKit (intOf Grown)

theorem Tab.gr {w w' : World} (h : Tab w) (g : Gr w w') : Tab w' := by
  obtain ⟨q, os, rfl⟩ := g
  have hs := (h.drewN q).size
  have e : ∀ i, (Sort.grow (w.drewN q) os).cell? ⟨1, i, none⟩ = (w.drewN q).cell? ⟨1, i, none⟩ := fun i => Sort.cell?_grow _ _ _ hs
  have h := h.drewN q
  exact ⟨(e _).trans h.c0, (e _).trans h.c1, (e _).trans h.c2, (e _).trans h.c3, (e _).trans h.c4, (e _).trans h.c5, (e _).trans h.c6, (e _).trans h.c7, (e _).trans h.c8⟩

def slot (x m : Int) : Int := if m < 1 then 0 else mixed x % m

theorem slot_bd (x m : Int) (h : 1 ≤ m) : 0 ≤ slot x m ∧ slot x m < m := by
  unfold slot
  rw [if_neg (by omega)]
  exact ⟨Int.emod_nonneg _ (by omega), Int.emod_lt_of_pos _ (by omega)⟩

set_option maxHeartbeats 1000000 in
theorem slot_any (x m : Int) (w : World) (hT : Tab w) (h0 : 0 ≤ x) (h1 : x < 18446744073709551616) (g0 : -9223372036854775808 ≤ m) (g1 : m < 9223372036854775808) :
    Calls Tryz.prog 85 #[.int .u64 x, .int .i64 m] w fun e w' => e = .returned (.int .i64 (slot x m)) ∧ Gr w w' := by
  have hT' : RowKit.Hid (Tab w) := Lib.hid hT
  by_cases hm : m < 1
  · have hs : RowKit.Hid (slot x m = 0) := Lib.hid (by unfold slot; rw [if_pos hm])
    go_enter Tryz.func85, Tryz.ntmps85
    go_wp2
    go_ret
    exact ⟨ret_int hs.out.symm, Gr.refl _⟩
  · have hb := mixed_bd x h1
    have hs : RowKit.Hid (slot x m = mixed x % m) := Lib.hid (by unfold slot; rw [if_neg hm])
    have hq0 : 0 ≤ mixed x % m := Int.emod_nonneg _ (by omega)
    have hq1 : mixed x % m < m := Int.emod_lt_of_pos _ (by omega)
    go_enter Tryz.func85, Tryz.ntmps85
    go_wp2_with (go_at_call 114; with_reducible refine (mix_any _ _ hT'.out (by omega) (by omega)).mono ?_; rintro e w' ⟨rfl, hg1⟩; have hT1 := hT'.out.gr hg1)
    go_ret
    exact ⟨ret_int hs.out.symm, hg1⟩

set_option maxHeartbeats 1000000 in
theorem before_any (x y : Int) (w : World) (hT : Tab w) (h0 : 0 ≤ x) (h1 : x < 18446744073709551616) (g0 : 0 ≤ y) (g1 : y < 18446744073709551616) :
    Calls Tryz.prog 115 #[.int .u64 x, .int .u64 y] w fun e w' => e = .returned (.bool (decide (mixed y < mixed x))) ∧ Gr w w' := by
  have hT' : RowKit.Hid (Tab w) := Lib.hid hT
  clear hT
  go_enter Tryz.func115, Tryz.ntmps115
  go_wp2_with (first
    | (go_at_call 114; with_reducible refine (mix_any x _ hT'.out (by omega) (by omega)).mono ?_; rintro e w' ⟨rfl, hg1⟩; have hT1 := hT'.out.gr hg1)
    | (go_at_call 114; with_reducible refine (mix_any y _ hT1 (by omega) (by omega)).mono ?_; rintro e w' ⟨rfl, hg2⟩))
  go_ret
  exact ⟨rfl, hg1.trans hg2⟩

end Go.Proofs.YtmonkcekkhfafaaGreatDoor

/- MixRef:
  What the document's own functions for mixed words return, in whatever world, for words: integers from 0 to less than 2^64 (the conditions): the same as the plain ones. Each leaves the world alone.
-/
namespace Go.Proofs.YtmonkcekkhfafaaGreatDoor
open Go.RowKit (intOf Grown)

end Go.Proofs.YtmonkcekkhfafaaGreatDoor

