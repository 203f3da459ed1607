/-
  What slices.Concat returns of two slices of writes: the writes of both, one after the other. Conditions: both are there; at most 2^21 in all.
-/
import Derived.Test.YtdofplmoiljkjaaRaw
import Derived.Lib.AppendZerosOnto
import Derived.Lib.SliceRun
namespace Go.Proofs.Ytdofplmoiljkjaa
open Go.RowKit (Below intOf)

theorem grow_zero (w : World) : Calls Try.prog 28 #[.slice none 0 0, .int .i64 0] w fun e w' => e = .returned (.slice none 0 0) ∧ w = w' := by
  go_enter Try.func28, Try.ntmps28
  go_wp2
  go_ret
  exact ⟨rfl, rfl⟩

set_option maxRecDepth 100000 in
set_option maxHeartbeats 4000000 in
/-- A row of none, with room. -/
theorem grow_some (n : Nat) (w : World) (h0 : 0 < n) (h1 : n ≤ 4194304) : Calls Try.prog 28 #[.slice none 0 0, .int .i64 n] w fun e w' => ∃ c, e = .returned (.slice (some ⟨w.heap.size, 0, none⟩) 0 c) ∧ w'.ownsRow w.heap.size 48 2 (.slice (some ⟨w.heap.size, 0, none⟩) 0 c) 0 [] ∧ Ext w w' := by
  obtain ⟨i0, hi, hz0, hz1, hz2⟩ := info_parts info48
  have hf : (Builtin.firstCells i0.size 0 (.slice none 0 0)).run Try.prog w.drew = .ok #[] w.drew := run_firstCells_none w.drew i0.size 0 0 0
  have hrz := Lib.run_append_grow_zeros (P := Try.prog) w 23 3 23 48 i0 _ .i64 .i64 Try.underlying23 Try.underlying3 hi hz0 none 0 0 [] hf n h0 (by omega) (by omega) (by omega) (by rw [hz2]; omega) (by rw [hz2, Nat.zero_add]; exact growslice_fits (by omega) (by omega))
  simp only [Nat.zero_add] at hrz
  have hG := grownCap_ge w n 0 48
  have hGm := grownCap_le_maxLen w n 0 48 (by unfold maxLen; omega)
  obtain ⟨G, eG⟩ : ∃ G, grownCap w n 0 48 = G := ⟨_, rfl⟩
  rw [eG] at hrz hG hGm
  unfold maxLen at hGm
  have Hz := Lib.hid hrz
  clear hrz hf eG
  go_enter Try.func28, Try.ntmps28
  go_wp2_with (at_builtin; refine Lib.wpList_append_run _ rfl _ _ _ _ rfl _ _ rfl rfl _ _ Hz.out ?_)
  go_ret
  refine ⟨G, rfl, ⟨rfl, .inr ⟨w.heap.size, G, _, rfl, Nat.le_refl _, World.alloc_heap_new w _, by omega, by unfold maxLen; omega, ?_, by simp⟩⟩, Ext.drew ((Ext.refl w).alloc _)⟩
  simp [size_zeroCells]; omega

set_option maxRecDepth 100000 in
set_option maxHeartbeats 4000000 in
theorem concat_any (B : Nat) (s1 s2 : Option Addr) (n1 n2 c1 c2 : Nat) (ys1 ys2 : List Wr) (w : World) (hc0 : w.cell? ⟨B, 0, none⟩ = some (.slice s1 n1 c1)) (hc1 : w.cell? ⟨B, 1, none⟩ = some (.slice s2 n2 c2)) (h1 : RS w s1 n1 c1 ys1) (h2 : RS w s2 n2 c2 ys2) :
    Calls Try.prog 24 #[.slice (some ⟨B, 0, none⟩) 2 2] w fun e w' => ∃ sl c, e = .returned (.slice sl (n1 + n2 : Nat) c) ∧ w'.ownsRow w.heap.size 48 2 (.slice sl (n1 + n2) c) (n1 + n2) (flat (ys1 ++ ys2)) ∧ Ext w w' := by
  have l1 := h1.le
  have l2 := h2.le
  have H1 := Lib.hid h1
  have H2 := Lib.hid h2
  clear h1 h2
  go_enter Try.func24, Try.ntmps24
  go_wp2_with (fail)
  go_loop [3, 11] (fun s i => (i = .int .i64 0 ∧ s = .int .i64 0) ∨ (i = .int .i64 1 ∧ s = .int .i64 n1) ∨ (i = .int .i64 2 ∧ s = .int .i64 ((n1 + n2 : Nat) : Int))) (fun _ i => (2 - intOf i).toNat)
  case atStart => exact .inl ⟨rfl, rfl⟩
  case round =>
    rcases hrel with ⟨rfl, rfl⟩ | ⟨rfl, rfl⟩ | ⟨rfl, rfl⟩
    · go_wp2_with (fail)
      go_round
      case rel => exact .inr (.inl ⟨rfl, rfl⟩)
      case measure => simp [intOf]
    · go_wp2_with (fail)
      go_round
      case rel => exact .inr (.inr ⟨rfl, by go_num⟩)
      case measure => simp [intOf]
    · obtain ⟨N, eN⟩ : ∃ N, RowKit.Hid (n1 + n2 = N) := ⟨_, Lib.hid rfl⟩
      have lN : N ≤ 2097152 := by have := eN.out; omega
      rw [eN.out]
      have hgrow : Calls Try.prog 28 #[.slice none 0 0, .int .i64 (N : Int)] w fun e w' => ∃ sl c, e = .returned (.slice sl 0 c) ∧ w'.ownsRow w.heap.size 48 2 (.slice sl 0 c) 0 [] ∧ Below w.heap.size w w' := by
        by_cases h0 : N = 0
        · subst h0
          refine (grow_zero w).mono ?_
          rintro e w' ⟨rfl, rfl⟩
          exact ⟨_, _, rfl, World.ownsRow_nil _ _ _ _, Ext.refl w⟩
        · refine (grow_some N w (by omega) (by omega)).mono ?_
          rintro e w' ⟨c, rfl, h1, h2⟩
          exact ⟨_, _, rfl, h1, h2⟩
      go_wp2_with (go_at_call 28; refine hgrow.mono ?_; rintro e w1 ⟨sg, cg, rfl, hown1, hE1⟩)
      clear hgrow
      have hB := World.block_lt_of_cell? w _ hc0
      have hrest : ∀ wr, Below w.heap.size w wr → wr.cell? ⟨B, 0, none⟩ = some (.slice s1 n1 c1) ∧ wr.cell? ⟨B, 1, none⟩ = some (.slice s2 n2 c2) := fun wr h => ⟨Ext.cell h hc0, Ext.cell h hc1⟩
      have Hrest := Lib.hid hrest
      clear hrest hc0 hc1
      go_loopw [6, 27] (fun v i wr => ∃ k n ys, i = .int .i64 k ∧ wr.ownsRow w.heap.size 48 2 v n (flat ys) ∧ ((k = 0 ∧ n = 0 ∧ ys = []) ∨ (k = 1 ∧ n = n1 ∧ ys = ys1) ∨ (k = 2 ∧ n = n1 + n2 ∧ ys = ys1 ++ ys2)) ∧ Below w.heap.size w wr) (fun _ i _ => (2 - intOf i).toNat)
      case atStart => exact ⟨0, 0, [], rfl, hown1, .inl ⟨rfl, rfl, rfl⟩, hE1⟩
      case round =>
        obtain ⟨k, n, ys, rfl, hown, hst, hE⟩ := hrel
        obtain ⟨d0, d1⟩ := Hrest.out wr hE
        rcases hst with ⟨rfl, rfl, rfl⟩ | ⟨rfl, rfl, rfl⟩ | ⟨rfl, rfl, rfl⟩
        · obtain ⟨v', w', hrun, ho2, hg2⟩ := append_writes hown (H1.out.ext hE) (by omega) hE.size 23
          have Hrun := Lib.hid hrun
          have hE2 : Below w.heap.size w w' := Ext.grown hE hg2 (own_ge hown)
          clear hrun
          go_wp2_with (at_builtin; refine Lib.wpList_append_run _ rfl _ _ _ _ rfl _ _ rfl rfl _ _ Hrun.out ?_)
          go_roundw
          case rel => exact ⟨1, 0 + n1, [] ++ ys1, rfl, ho2, .inr (.inl ⟨rfl, by omega, rfl⟩), hE2⟩
          case measure => simp [intOf]
        · obtain ⟨v', w', hrun, ho2, hg2⟩ := append_writes hown (H2.out.ext hE) (by omega) hE.size 23
          have Hrun := Lib.hid hrun
          have hE2 : Below w.heap.size w w' := Ext.grown hE hg2 (own_ge hown)
          clear hrun
          go_wp2_with (at_builtin; refine Lib.wpList_append_run _ rfl _ _ _ _ rfl _ _ rfl rfl _ _ Hrun.out ?_)
          go_roundw
          case rel => exact ⟨2, n + n2, ys ++ ys2, rfl, ho2, .inr (.inr ⟨rfl, rfl, rfl⟩), hE2⟩
          case measure => simp [intOf]
        · obtain ⟨sl, c, rfl⟩ := own_form hown
          go_wp2_with (fail)
          go_ret
          exact ⟨sl, c, rfl, hown, hE⟩

end Go.Proofs.Ytdofplmoiljkjaa
