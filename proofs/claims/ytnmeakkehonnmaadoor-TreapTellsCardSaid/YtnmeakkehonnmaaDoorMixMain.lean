/-
  What Mix and Unmix return, in whatever world that holds the package's table, for words: integers from 0 to less than 2^64 (the conditions). Each leaves memory as it was, but for new blocks and draws.
-/
import Derived.Test.YtnmeakkehonnmaaDoorMixCalls
import Derived.RowKit3
import Derived.Deep.QuietTactic
import Derived.BigQuiet
import Derived.Sort.Grow
namespace Go.Proofs.YtnmeakkehonnmaaDoor
open Go.RowKit (intOf Grown)

/-- The world holds the package's table: three folds, factors and their inverses. -/
structure Tab (w : World) : Prop where
  c0 : w.cell? ⟨0, 0, none⟩ = some (.int .u64 30)
  c1 : w.cell? ⟨0, 1, none⟩ = some (.int .u64 13787848793156543929)
  c2 : w.cell? ⟨0, 2, none⟩ = some (.int .u64 10871156337175269513)
  c3 : w.cell? ⟨0, 3, none⟩ = some (.int .u64 27)
  c4 : w.cell? ⟨0, 4, none⟩ = some (.int .u64 10723151780598845931)
  c5 : w.cell? ⟨0, 5, none⟩ = some (.int .u64 3573116690164977347)
  c6 : w.cell? ⟨0, 6, none⟩ = some (.int .u64 31)
  c7 : w.cell? ⟨0, 7, none⟩ = some (.int .u64 1)
  c8 : w.cell? ⟨0, 8, none⟩ = some (.int .u64 1)

theorem Tab.size {w : World} (h : Tab w) : 0 < w.heap.size := by
  have := h.c0
  unfold World.cell? at this
  rcases Nat.eq_zero_or_pos w.heap.size with z | z
  · simp [z] at this
  · exact z

theorem Tab.alloc {w : World} (h : Tab w) (o : Obj) : Tab (w.alloc o) := by
  have hs := h.size
  have e : ∀ i, (w.alloc o).cell? ⟨0, i, none⟩ = w.cell? ⟨0, i, none⟩ := fun i => World.cell?_alloc_lt w o _ hs
  exact ⟨(e _).trans h.c0, (e _).trans h.c1, (e _).trans h.c2, (e _).trans h.c3, (e _).trans h.c4, (e _).trans h.c5, (e _).trans h.c6, (e _).trans h.c7, (e _).trans h.c8⟩

theorem Tab.drewN {w : World} (h : Tab w) (n : Nat) : Tab (w.drewN n) := ⟨h.c0, h.c1, h.c2, h.c3, h.c4, h.c5, h.c6, h.c7, h.c8⟩
/-- w' is w, with draws and new blocks. -/
def Gr (w w' : World) : Prop := ∃ q os, w' = Sort.grow (w.drewN q) os
theorem Gr.refl (w : World) : Gr w w := ⟨0, #[], by rw [Sort.grow_empty]; rfl⟩
theorem Gr.drewN {a w : World} (h : Gr a w) (n : Nat) : Gr a (w.drewN n) := by
  obtain ⟨q, os, rfl⟩ := h
  exact ⟨q + n, os, by rw [← World.drewN_drewN]; rfl⟩
theorem Gr.alloc {a w : World} (h : Gr a w) (o : Obj) : Gr a (w.alloc o) := by
  obtain ⟨q, os, rfl⟩ := h
  exact ⟨q, os ++ #[o], by rw [Sort.alloc_eq_grow, Sort.grow_grow]⟩
theorem Gr.trans {a b c : World} (h : Gr a b) (g : Gr b c) : Gr a c := by
  obtain ⟨q, os, rfl⟩ := h
  obtain ⟨p, us, rfl⟩ := g
  refine ⟨q + p, os ++ us, ?_⟩
  rw [← Sort.grow_grow, ← World.drewN_drewN]; rfl
theorem Gr.new (w : World) (o : Obj) : Gr w (w.alloc o) := (Gr.refl w).alloc o

def m1 (x : Int) : Int := times 13787848793156543929 (fold 30 x)
def m2 (x : Int) : Int := times 10723151780598845931 (fold 27 (m1 x))
def m3 (x : Int) : Int := times 1 (fold 31 (m2 x))

theorem times_bd (c : Nat) (x : Int) : 0 ≤ times c x ∧ times c x < 18446744073709551616 := by
  have := timesN_lt c x.toNat; unfold times; omega

theorem times_one (y : Nat) (h : y < 18446744073709551616) : timesN 1 y = y := by
  unfold timesN; rw [Nat.mul_one]; exact Nat.mod_eq_of_lt h
theorem m3_mixed (x : Int) : m3 x = mixed x := by
  unfold m3 m2 m1 times fold mixed mixN
  rw [Int.toNat_natCast, Int.toNat_natCast, Int.toNat_natCast, Int.toNat_natCast, Int.toNat_natCast]
  rw [times_one _ (foldN_lt _ (timesN_lt _ _))]

theorem index0 (w : World) : (Instr.index 63 (.agg #[.int .u64 30, .int .u64 13787848793156543929, .int .u64 10871156337175269513, .int .u64 27, .int .u64 10723151780598845931, .int .u64 3573116690164977347, .int .u64 31, .int .u64 1, .int .u64 1]) (.int .i64 0)).run Tryd.prog w = .ok (.agg #[.int .u64 30, .int .u64 13787848793156543929, .int .u64 10871156337175269513]) w := by kernel_rfl
theorem index1 (w : World) : (Instr.index 63 (.agg #[.int .u64 30, .int .u64 13787848793156543929, .int .u64 10871156337175269513, .int .u64 27, .int .u64 10723151780598845931, .int .u64 3573116690164977347, .int .u64 31, .int .u64 1, .int .u64 1]) (.int .i64 1)).run Tryd.prog w = .ok (.agg #[.int .u64 27, .int .u64 10723151780598845931, .int .u64 3573116690164977347]) w := by kernel_rfl
theorem index2 (w : World) : (Instr.index 63 (.agg #[.int .u64 30, .int .u64 13787848793156543929, .int .u64 10871156337175269513, .int .u64 27, .int .u64 10723151780598845931, .int .u64 3573116690164977347, .int .u64 31, .int .u64 1, .int .u64 1]) (.int .i64 2)).run Tryd.prog w = .ok (.agg #[.int .u64 31, .int .u64 1, .int .u64 1]) w := by kernel_rfl

theorem fold_quiet (x n : Int) (k : Nat) (w : World) (m : Nat) (hk : n.toNat = k) (h0 : 0 ≤ x) (h1 : x < 18446744073709551616) (g0 : 0 ≤ n) (g1 : n < 64) :
    Calls Tryd.prog 37 #[.int .u64 x, .int .u64 n] (w.drewN m) fun e w'' => e = .returned (.int .u64 (fold k x)) ∧ ∃ j, w'' = w.drewN j := by
  subst hk
  exact Calls.quiet_of_same ((folded_any x n _ h0 h1 g0 g1).mono fun _ _ h => ⟨h.1, h.2.symm⟩)
theorem m1_word (x : Int) (h : x < 18446744073709551616) : IntKind.u64.wrap (fold 30 x * 13787848793156543929) = m1 x := times_word _ 13787848793156543929 (fold_bd 30 x h).1
theorem m2_word (x : Int) : IntKind.u64.wrap (fold 27 (m1 x) * 10723151780598845931) = m2 x := times_word _ 10723151780598845931 (fold_bd 27 _ (times_bd _ _).2).1
theorem m3_word (x : Int) : IntKind.u64.wrap (fold 31 (m2 x) * 1) = m3 x := times_word _ 1 (fold_bd 31 _ (times_bd _ _).2).1
theorem m3_word1 (x : Int) : IntKind.u64.wrap (fold 31 (m2 x)) = m3 x := by have := m3_word x; rwa [Int.mul_one] at this
theorem m1_bd (x : Int) : 0 ≤ m1 x ∧ m1 x < 18446744073709551616 := times_bd _ _
theorem m2_bd (x : Int) : 0 ≤ m2 x ∧ m2 x < 18446744073709551616 := times_bd _ _


set_option maxHeartbeats 2000000 in
theorem mix_any (x : Int) (w : World) (hT : Tab w) (h0 : 0 ≤ x) (h1 : x < 18446744073709551616) :
    Calls Tryd.prog 36 #[.int .u64 x] w fun e w' => e = .returned (.int .u64 (mixed x)) ∧ Gr w w' := by
  have hm : RowKit.Hid (m3 x = mixed x) := Lib.hid (m3_mixed x)
  have hT' : RowKit.Hid (Tab w) := Lib.hid hT
  obtain ⟨c0, c1, c2, c3, c4, c5, c6, c7, c8⟩ := hT
  go_enter Tryd.func36, Tryd.ntmps36
  go_wp2
  go_loopw [0, 6] (fun a i wr => Tab wr ∧ Gr w wr ∧ ((a = .int .u64 x ∧ i = .int .i64 0) ∨ (a = .int .u64 (m1 x) ∧ i = .int .i64 1) ∨ (a = .int .u64 (m2 x) ∧ i = .int .i64 2) ∨ (a = .int .u64 (m3 x) ∧ i = .int .i64 3))) (fun _ i _ => (3 - intOf i).toNat)
  case atStart => exact ⟨hT'.out, Gr.refl _, .inl ⟨rfl, rfl⟩⟩
  case round =>
    obtain ⟨hTr, hg, hrel⟩ := hrel
    rcases hrel with ⟨rfl, rfl⟩ | ⟨rfl, rfl⟩ | ⟨rfl, rfl⟩ | ⟨rfl, rfl⟩
    · obtain ⟨c0, c1, c2, c3, c4, c5, c6, c7, c8⟩ := hTr
      have hTr' : RowKit.Hid (Tab wr) := Lib.hid ⟨c0, c1, c2, c3, c4, c5, c6, c7, c8⟩
      have hi := index0 wr
      skip
      have hw := m1_word x h1
      go_wp2
      go_quiet ((go_at_call 37; exact fold_quiet _ _ 30 _ _ rfl (by omega) (by omega) (by omega) (by omega)))
      go_wp2
      go_roundw
      case rel => exact ⟨(hTr'.out.alloc _).drewN _, (hg.alloc _).drewN _, .inr (.inl ⟨rfl, rfl⟩)⟩
      case measure => simp [intOf]
    · obtain ⟨c0, c1, c2, c3, c4, c5, c6, c7, c8⟩ := hTr
      have hTr' : RowKit.Hid (Tab wr) := Lib.hid ⟨c0, c1, c2, c3, c4, c5, c6, c7, c8⟩
      have hi := index1 wr
      have hb := m1_bd x
      have hw := m2_word x
      go_wp2
      go_quiet ((go_at_call 37; exact fold_quiet _ _ 27 _ _ rfl (by omega) (by omega) (by omega) (by omega)))
      go_wp2
      go_roundw
      case rel => exact ⟨(hTr'.out.alloc _).drewN _, (hg.alloc _).drewN _, .inr (.inr (.inl ⟨rfl, rfl⟩))⟩
      case measure => simp [intOf]
    · obtain ⟨c0, c1, c2, c3, c4, c5, c6, c7, c8⟩ := hTr
      have hTr' : RowKit.Hid (Tab wr) := Lib.hid ⟨c0, c1, c2, c3, c4, c5, c6, c7, c8⟩
      have hi := index2 wr
      have hb := m2_bd x
      have hw := m3_word x; have hw1 := m3_word1 x
      go_wp2
      go_quiet ((go_at_call 37; exact fold_quiet _ _ 31 _ _ rfl (by omega) (by omega) (by omega) (by omega)))
      go_wp2
      go_roundw
      case rel => exact ⟨(hTr'.out.alloc _).drewN _, (hg.alloc _).drewN _, .inr (.inr (.inr ⟨rfl, rfl⟩))⟩
      case measure => simp [intOf]
    · go_wp2
      go_ret
      exact ⟨ret_int hm.out, hg⟩

end Go.Proofs.YtnmeakkehonnmaaDoor
