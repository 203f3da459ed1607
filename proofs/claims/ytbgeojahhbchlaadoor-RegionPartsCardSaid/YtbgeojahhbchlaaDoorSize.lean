/-
  What Size of package region returns, in whatever world that holds the package's table, for integers; it leaves memory as it was, but for new blocks and draws.
-/
import Derived.Test.YtbgeojahhbchlaaDoorParts
namespace Go.Proofs.YtbgeojahhbchlaaDoor
open Go.RowKit Go.Shelf

/-- Cells of the parts that have come. -/
def sumC (k p c : Int) : List Nat → Int := List.foldl (fun s x => s + own p x * each k p c x) 0
theorem sumC_snoc (k p c : Int) (pre : List Nat) (x : Nat) : sumC k p c (pre ++ [x]) = sumC k p c pre + own p x * each k p c x := by simp [sumC]
theorem sum_bd {k p c : Int} (h : fits k p c = true) (pre : List Nat) : ∀ s : Int, s ≤ pre.foldl (fun s x => s + own p x * each k p c x) s ∧ pre.foldl (fun s x => s + own p x * each k p c x) s ≤ s + 33872 * pre.length := by
  induction pre with
  | nil => intro s; simp
  | cons x r ih =>
    intro s
    have h1 := cells_bd h x
    have h2 := ih (s + own p x * each k p c x)
    rw [List.foldl_cons, List.length_cons]
    omega
theorem sumC_bd {k p c : Int} (h : fits k p c = true) (pre : List Nat) (hl : pre.length < 5) : 0 ≤ sumC k p c pre ∧ sumC k p c pre ≤ 140000 := by
  have := sum_bd h pre 0
  unfold sumC; omega
theorem sumC_all {k p c : Int} (h : fits k p c = true) : sumC k p c (List.range 5) = size k p c := by
  obtain ⟨f0, f1, f2, f3, f4, f5, _⟩ := frms h
  rw [f5, f4, f3, f2, f1, f0]; rfl

theorem boxed_obj {β : Type} (B : Nat) (o : Obj) (ho : o.isCells = true) : Own (fun (_ : β) W => W.heap[B]? = some o) := fun _ X Y row hs hg hrow => by
  refine (hg.block B (Array.getElem?_eq_some_iff.1 hs).1 (fun e' => ?_)).trans hs
  obtain ⟨o', ho', hc⟩ := hrow B e'.symm
  rw [hs] at ho'; cases ho'; rw [ho] at hc; cases hc

theorem keepsCells_alloc (B : Nat) (W : World) (o : Obj) : KeepsCells B W (W.alloc o) := KeepsCells.grown (World.grownBy_alloc W o none) (fun k e => by cases e)

theorem sum_all (k p c : Int) {xs : List Nat} (h : allXs k p c xs) : sumC k p c xs = size k p c := by
  unfold allXs at h
  by_cases hf : fits k p c = true
  · rw [if_pos hf] at h; rw [h]; exact sumC_all hf
  · rw [if_neg hf] at h; rw [h]; unfold size; rw [if_neg hf]; rfl

set_option maxRecDepth 100000 in
set_option maxHeartbeats 4000000 in
theorem size_any (k p c : Int) (w : World) (hT : Tab w) : Calls Tryd.prog 13 #[cf k p c] w fun e w' => e = .returned (.int .i64 (size k p c)) ∧ Below w.heap.size w w' := by
  have hfn : ∀ f, Fence.wide.fn f := fun _ => trivial
  have hsa := Oper.semAt_some
  have hdep : Fence.wide.depth = none := rfl
  refine (callsIn_wide (n := 9)).1 ?_
  refine callsIn_of_wp_marks Tryd.func13 rfl trivial ?_ rfl
  simp only [Tryd.ntmps13, List.size_toArray, List.length_cons, List.length_nil, Nat.reduceAdd, Nat.reduceSub, Array.replicate_succ, Array.replicate_zero, List.push_toArray, List.append_toArray, List.nil_append, List.cons_append]
  gi_wp2_with (gi_at_call 26; refine (callsIn_wide.2 (parts_any k p c _)).mono ?_; rintro e w' ⟨rfl, rfl⟩)
  have bS := (Boxed.new (w.alloc (bx k p c)) 3 (.int .i64 0)).alloc (bx k p c)
  have hbx := box_new ((w.alloc (bx k p c)).alloc (.cells #[.int .i64 0] 3)) k p c
  simp only [World.size_alloc] at bS hbx
  have hB0 : Below w.heap.size w (((w.alloc (bx k p c)).alloc (.cells #[.int .i64 0] 3)).alloc (bx k p c)) := bel3 _ _ _ _
  have hsz : (((w.alloc (bx k p c)).alloc (.cells #[.int .i64 0] 3)).alloc (bx k p c)).heap.size = w.heap.size + 3 := by simp
  obtain ⟨W0, hW0⟩ : ∃ W0, ((w.alloc (bx k p c)).alloc (.cells #[.int .i64 0] 3)).alloc (bx k p c) = W0 := ⟨_, rfl⟩
  rw [hW0] at bS hbx hB0 hsz ⊢
  clear hW0
  refine wpIn_rangeFunc_ownH rfl (by omega) (gf := 32) (lb := #[.pointer (some ⟨w.heap.size + 1 + 1, 0, none⟩)]) rfl trivial (enters_of Tryd.func32 (by kernel_rfl) rfl)
    (parts_stops _ k p c (w.heap.size + 1 + 1) W0.heap.size W0 (hT.below hB0) hbx (Nat.le_refl _)) KeepsCells.trans (KeepsCells.put (w := W0)) (Below.refl _ _) (fun _ => rfl)
    (fun pre W => Boxed W (w.heap.size + 1) 3 (.int .i64 (sumC k p c pre)) ∧ Below w.heap.size w W)
    (fun _ _ _ => False)
    (OwnFrom.and (Own.from (boxed_own _ _ _) _) (ownFrom_below (Nat.le_refl _) (by omega)))
    (fun _ _ _ _ _ hs _ _ => hs)
    ⟨bS, hB0⟩
    (fun x a' W => ∃ Bx, w.heap.size + 1 < Bx ∧ W.heap[Bx]? = some (sx (frm k p c x) (own p x) (each k p c x)) ∧ a' = { tmps := #[cf k p c, .pointer (some ⟨w.heap.size, 0, none⟩), .int .i64 0, .pointer (some ⟨w.heap.size + 1, 0, none⟩), undef, .pointer (some ⟨Bx, 0, none⟩), cf k p c,
      .func (.func 32) #[] #[.pointer (some ⟨w.heap.size + 1 + 1, 0, none⟩)], .int .i64 x, sv (frm k p c x) (own p x) (each k p c x), undef, undef, undef, undef, undef], defers := [] })
    (fun x a' _ X Y row hs hg hr => by obtain ⟨Bx, h1, h2, h3⟩ := hs; exact ⟨Bx, h1, boxed_obj Bx _ rfl () X Y row h2 hg (fun r e => (hr r e).2), h3⟩)
    ?assign ?body ?done ?stop
  case assign =>
    rintro l pre x W K ⟨bS1, hB1⟩ hK
    unfold encs
    gi_wp2
    exact hK _ _ ((KeepsOthers.alloc _ _).from _) (keepsCells_alloc _ _ _) ⟨bS1.alloc _, hB1.alloc hB1.size _⟩ ⟨W.heap.size, bS1.lt, World.alloc_heap_new W _, rfl⟩
  case body =>
    rintro l pre x a' W hl ⟨r, hr⟩ ⟨bS1, hB1⟩ ⟨Bx, hBx, bX, rfl⟩ hlt
    obtain ⟨hf, hlt⟩ := nXs_fits hlt
    have cS := bS1.cell
    have fS := bS1.frozen
    have hl1 : w.heap.size + 1 < W.heap.size := bS1.lt
    have hne1 : w.heap.size + 1 ≠ W.heap.size := by omega
    have c0 : W.cell? ⟨Bx, 0, none⟩ = some (.int .i64 (frm k p c x)) := by unfold World.cell?; rw [bX]; rfl
    have c1 : W.cell? ⟨Bx, 1, none⟩ = some (.int .i64 (own p x)) := by unfold World.cell?; rw [bX]; rfl
    have c2 : W.cell? ⟨Bx, 2, none⟩ = some (.int .i64 (each k p c x)) := by unfold World.cell?; rw [bX]; rfl
    have hbd := cells_bd hf x
    have hsd := sumC_bd hf pre hlt
    have hfd : (Fence.wide.inRound l).depth = none := rfl
    have hff : ∀ f, (Fence.wide.inRound l).fn f := fun _ => trivial
    have hmx : Tryd.prog.follows .mixedOrders = true := by kernel_rfl
    have hw : IntKind.i64.wrap (sumC k p c pre + own p x * each k p c x) = sumC k p c pre + own p x * each k p c x := IntWalk.i64_in _ (by omega)
    gi_wp2
    gi_region_with_o (gi_at_call 27; refine (CallsIn.inRound l (callsIn_wide.2 (cells_any _ _ _ (own p x * each k p c x) _ (Lib.hid rfl) (by omega) (by omega)))).mono ?_; rintro e w' ⟨rfl, rfl⟩)
    all_goals gi_wp2
    all_goals (try go_bits)
    all_goals exact ⟨(((KeepsOthers.setCell _ _ _).trans (KeepsOthers.alloc _ _)).trans (KeepsOthers.drew _)).from _,
      (KeepsCells.grown (grownBy_setCell' W (w.heap.size + 1) _) (fun k e => by cases e; omega)).trans (keepsCells_alloc _ _ _),
      by rw [sumC_snoc]; exact (bS1.set _).alloc _, ((hB1.setCell (p := ⟨w.heap.size + 1, 0, none⟩) (by simp) _).alloc (by have := hB1.size; simpa [World.setCell] using this) _).drew⟩
  case done =>
    rintro D zs W hD hxs ⟨bS1, hB1⟩ hK
    have cS := bS1.cell
    have hz := Lib.hid (sum_all k p c hxs)
    gi_wp2
    refine ⟨by simp, .inl ⟨_, _, rfl, run_takeDeferred hK, ?_⟩⟩
    refine ⟨_, results_tmp rfl _ _ _, ?_, hB1.trans (belowK_b (w := w) (Nat.le_refl _) W D _ _ (by omega) hK rfl rfl)⟩
    rw [← hz.out]; rfl
  case stop =>
    rintro D c pre W _ _ h _
    exact h.elim

end Go.Proofs.YtbgeojahhbchlaaDoor
