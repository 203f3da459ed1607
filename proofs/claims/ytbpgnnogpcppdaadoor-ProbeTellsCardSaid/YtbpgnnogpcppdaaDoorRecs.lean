/-
  What records returns: what stands in the slots that are not empty, slot by slot. Conditions: the words are there, those of a table's slots.
-/
import Derived.Test.YtbpgnnogpcppdaaDoorIter
namespace Go.Proofs.YtbpgnnogpcppdaaDoor
open Go.RowKit Go.Shelf

theorem boxed_obj {β : Type} (B : Nat) (o : Obj) (ho : o.isCells = true) : Own (fun (_ : β) W => W.heap[B]? = some o) := fun _ X Y row hs hg hrow => by
  refine (hg.block B (Array.getElem?_eq_some_iff.1 hs).1 (fun e' => ?_)).trans hs
  obtain ⟨o', ho', hc⟩ := hrow B e'.symm
  rw [hs] at ho'; cases ho'; rw [ho] at hc; cases hc

theorem Keeps.alloc {n₀ B0 B1 B2 : Nat} {v0 v1 v2 : Value} {W : World} (hn : n₀ ≤ W.heap.size) (o : Obj) : Keeps n₀ B0 B1 B2 v0 v1 v2 W (W.alloc o) :=
  ⟨(Below.refl n₀ W).alloc hn o, fun h => h.alloc o, fun h => h.alloc o, fun h => h.alloc o⟩

abbrev Rec2 (p x : Int) : Obj := .cells #[.int .u64 p, .int .u64 x] 34
theorem rec2_cells {W : World} {B : Nat} {p x : Int} (h : W.heap[B]? = some (Rec2 p x)) : W.cell? ⟨B, 0, none⟩ = some (.int .u64 p) ∧ W.cell? ⟨B, 1, none⟩ = some (.int .u64 x) := by
  constructor
  · unfold World.cell?; rw [h]; rfl
  · unfold World.cell?; rw [h]; rfl

/-- What has come, without what is empty. -/
def rs (t : List Rc) {n : Nat} (pre : List (At n)) : List Rc := (pre.map fun x => at' t x.1).filter fun r => decide (r ≠ (0, 0))
theorem rs_yes {t : List Rc} {n : Nat} {pre : List (At n)} {x : At n} (h : at' t x.1 ≠ (0, 0)) : rs t (pre ++ [x]) = rs t pre ++ [at' t x.1] := by
  unfold rs; rw [List.map_append, List.filter_append, List.map_singleton, List.filter_cons_of_pos (by simpa using h), List.filter_nil]
theorem rs_no {t : List Rc} {n : Nat} {pre : List (At n)} {x : At n} (h : at' t x.1 = (0, 0)) : rs t (pre ++ [x]) = rs t pre := by
  unfold rs; rw [List.map_append, List.filter_append, List.map_singleton, List.filter_cons_of_neg (by simpa using h), List.filter_nil, List.append_nil]
theorem rs_len (t : List Rc) {n : Nat} (pre : List (At n)) : (rs t pre).length ≤ pre.length := by
  unfold rs; have := List.length_filter_le (fun r : Rc => decide (r ≠ (0, 0))) (pre.map fun x => at' t x.1); simpa using this
theorem way_0 {n k : Nat} (h : k ≤ n) : way 0 n k = List.range k := by
  unfold way
  apply List.ext_getElem?
  intro i
  by_cases hi : i < k
  · rw [List.getElem?_map, List.getElem?_range hi]; simp; exact Nat.mod_eq_of_lt (by omega)
  · rw [List.getElem?_eq_none (by simp; omega), List.getElem?_eq_none (by simp; omega)]
theorem at_range {t : List Rc} {n : Nat} (h : t.length = n) : (List.range n).map (at' t) = t := by
  apply List.ext_getElem?
  intro i
  by_cases hi : i < n
  · rw [List.getElem?_map, List.getElem?_range hi, at_some (by omega)]; rfl
  · rw [List.getElem?_eq_none (by simp; omega), List.getElem?_eq_none (by omega)]
theorem rs_all {t : List Rc} {n : Nat} (hn : t.length = n) {xs : List (At n)} (h : plc xs = way 0 n n) : rs t xs = recs t := by
  have e : xs.map (fun x => at' t x.1) = t := by
    have e1 : xs.map (fun x => at' t x.1) = (plc xs).map (at' t) := by simp [plc]
    rw [e1, h, way_0 (Nat.le_refl n), at_range hn]
  unfold rs recs; rw [e]

set_option maxRecDepth 100000 in
set_option maxHeartbeats 4000000 in
theorem recs_any (s : Option Addr) (m c v : Nat) (t : List Rc) (w : World) (hv : Wd v) (hS : WS w s m c (flatW v t)) (ht : Thin v t) (h1 : 1 ≤ t.length) (h2 : t.length ≤ 1024) :
    Calls Tryd.prog 28 #[.slice s m c, .int .i64 v] w fun e w' => ∃ u, e = .returned u ∧ w'.ownsRow w.heap.size 34 2 u (recs t).length (flat (recs t)) ∧ Ext w w' := by
  have hfn : ∀ f, Fence.wide.fn f := fun _ => trivial
  have hsa := Oper.semAt_some
  have hdep : Fence.wide.depth = none := rfl
  obtain ⟨N, hN⟩ : ∃ N, t.length = N := ⟨_, rfl⟩
  rw [hN] at h1 h2
  have hrr : RowKit.Hid (∀ r ∈ t, Ur r) := Lib.hid (by
    have h := slotsW_rng (w := v) hS.u64
    rwa [slots_flat hv ht] at h)
  obtain ⟨i0, hi, hz0, hz1, hz2⟩ := info_parts info34
  refine (callsIn_wide (n := 9)).1 ?_
  refine callsIn_of_wp_marks Tryd.func28 rfl trivial ?_ rfl
  simp only [Tryd.ntmps28, List.size_toArray, List.length_cons, List.length_nil, Nat.reduceAdd, Nat.reduceSub, Array.replicate_succ, Array.replicate_zero, List.push_toArray, List.append_toArray, List.nil_append, List.cons_append]
  gi_wp2_with (gi_at_call 44; refine (callsIn_wide.2 (round_any _ _ _ _ _ _)).mono ?_; rintro e w' ⟨rfl, rfl⟩)
  obtain ⟨W0, hW0⟩ : ∃ W0, (((w.alloc (.cells #[.slice none 0 0] 32)).alloc (.cells #[.slice s m c] 23)).alloc (.cells #[.int .i64 v] 3)).alloc (.cells #[.int .i64 0] 3) = W0 := ⟨_, rfl⟩
  have bO : Boxed W0 w.heap.size 32 (.slice none 0 0) := by rw [← hW0]; exact (((Boxed.new w 32 (.slice none 0 0)).alloc _).alloc _).alloc _
  have b0 : Boxed W0 (w.heap.size + 1) 23 (.slice s m c) := by rw [← hW0]; have h := ((Boxed.new (w.alloc (.cells #[.slice none 0 0] 32)) 23 (.slice s m c)).alloc (.cells #[.int .i64 v] 3)).alloc (.cells #[.int .i64 0] 3); simpa only [World.size_alloc] using h
  have b1 : Boxed W0 (w.heap.size + 1 + 1) 3 (.int .i64 v) := by rw [← hW0]; have h := (Boxed.new ((w.alloc (.cells #[.slice none 0 0] 32)).alloc (.cells #[.slice s m c] 23)) 3 (.int .i64 v)).alloc (.cells #[.int .i64 0] 3); simpa only [World.size_alloc] using h
  have b2 : Boxed W0 (w.heap.size + 1 + 1 + 1) 3 (.int .i64 ((0 : Nat) : Int)) := by rw [← hW0]; have h := Boxed.new (((w.alloc (.cells #[.slice none 0 0] 32)).alloc (.cells #[.slice s m c] 23)).alloc (.cells #[.int .i64 v] 3)) 3 (.int .i64 0); exact (by simpa only [World.size_alloc] using h : Boxed _ (w.heap.size + 1 + 1 + 1) 3 (.int .i64 0))
  have hE : Ext w W0 := by rw [← hW0]; exact ((((Ext.refl w).alloc _).alloc _).alloc _).alloc _
  have hsz : W0.heap.size = w.heap.size + 4 := by rw [← hW0]; simp
  rw [hW0]
  clear hW0
  refine wpIn_rangeFunc_ownH rfl (by omega) (gf := 56) (lb := #[.pointer (some ⟨w.heap.size + 1, 0, none⟩), .pointer (some ⟨w.heap.size + 1 + 1, 0, none⟩), .pointer (some ⟨w.heap.size + 1 + 1 + 1, 0, none⟩)]) rfl trivial (enters_of Tryd.func56 (by kernel_rfl) rfl)
    (round_stops _ s N m c v 0 (w.heap.size + 1) (w.heap.size + 1 + 1) (w.heap.size + 1 + 1 + 1) t w W0 hv hS hN ht (by omega) hE b0 b1 b2) Keeps.trans (Keeps.put (w := W0) (by omega)) (Below.refl _ _) (fun _ => rfl)
    (fun pre W => ((∃ u, Boxed W w.heap.size 32 u ∧ W.ownsRow w.heap.size 34 2 u (rs t pre).length (flat (rs t pre)) ∧ True) ∧ Boxed W (w.heap.size + 1 + 1 + 1) 3 (.int .i64 ((0 : Nat) : Int))) ∧ Below w.heap.size w W)
    (fun _ _ _ => False)
    (OwnFrom.and (OwnFrom.and (Own.from (holdsRow_own w.heap.size w.heap.size 32 34 2 (fun pre => (rs t pre).length) (fun pre => flat (rs t pre)) (fun _ _ => True)) _) (Own.from (boxed_own _ _ _) _)) (ownFrom_below (Nat.le_refl _) (by omega)))
    (fun _ _ _ _ _ hs _ _ => hs)
    ⟨⟨⟨_, bO, World.ownsRow_nil _ _ _ _, trivial⟩, b2⟩, hE⟩
    (fun x a' W => ∃ Bx, w.heap.size + 1 + 1 + 1 < Bx ∧ W.heap[Bx]? = some (Rec2 (at' t x.1).1 (at' t x.1).2) ∧ a' = { tmps := #[.slice s m c, .int .i64 v, undef, undef, .slice none 0 0, .pointer (some ⟨w.heap.size, 0, none⟩), undef, .pointer (some ⟨Bx, 0, none⟩), .slice s m c, .int .i64 v,
      .func (.func 56) #[] #[.pointer (some ⟨w.heap.size + 1, 0, none⟩), .pointer (some ⟨w.heap.size + 1 + 1, 0, none⟩), .pointer (some ⟨w.heap.size + 1 + 1 + 1, 0, none⟩)], .int .i64 x.1, .agg #[.int .u64 (at' t x.1).1, .int .u64 (at' t x.1).2], undef, undef, undef, undef, undef, undef, undef, undef], defers := [] })
    (fun x a' _ X Y row hs hg hr => by obtain ⟨Bx, h1, h2, h3⟩ := hs; exact ⟨Bx, h1, boxed_obj Bx _ rfl () X Y row h2 hg (fun r e => (hr r e).2), h3⟩)
    ?assign ?body ?done ?stop
  case assign =>
    rintro l pre x W K ⟨⟨⟨u, hu, hrow, _⟩, bF⟩, hB1⟩ hK
    have hle : w.heap.size ≤ W.heap.size := hB1.size
    unfold encs
    gi_wp2
    exact hK _ _ ((KeepsOthers.alloc _ _).from _) (Keeps.alloc hle _) ⟨⟨⟨u, hu.alloc _, hrow.alloc _, trivial⟩, bF.alloc _⟩, hB1.alloc hB1.size _⟩ ⟨W.heap.size, bF.lt, World.alloc_heap_new W _, rfl⟩
  case body =>
    rintro l pre x a' W hl ⟨r, hr⟩ ⟨⟨⟨u, hu, hrow, _⟩, bF⟩, hB1⟩ ⟨Bx, hBx, bX, rfl⟩ hlt
    obtain ⟨p, q, hpq⟩ : ∃ p q, at' t x.1 = (p, q) := ⟨_, _, rfl⟩
    have hur : Ur (p, q) := by rw [← hpq]; exact hrr.out _ (at_mem (by rw [hN]; exact x.2))
    rw [hpq] at bX ⊢
    dsimp only at bX ⊢
    obtain ⟨c0, c1⟩ := rec2_cells bX
    have hfd : (Fence.wide.inRound l).depth = none := rfl
    have hff : ∀ f, (Fence.wide.inRound l).fn f := fun _ => trivial
    have hle := hB1.size
    have hBl := (Array.getElem?_eq_some_iff.1 bX).1
    by_cases h0 : p = 0 ∧ q = 0
    · obtain ⟨rfl, rfl⟩ := h0
      have hno := Lib.hid (rs_no (pre := pre) hpq)
      gi_wp2_with (gi_at_call 45; refine (CallsIn.inRound l (callsIn_wide.2 (empty_any _ _ _))).mono ?_; rintro e w' ⟨rfl, rfl⟩)
      exact ⟨(KeepsOthers.alloc _ _).from _, Keeps.alloc hle _, ⟨⟨u, hu.alloc _, by rw [hno.out]; exact hrow.alloc _, trivial⟩, bF.alloc _⟩, hB1.alloc hB1.size _⟩
    · have hyes := Lib.hid (rs_yes (pre := pre) (x := x) (t := t) (by rw [hpq]; intro e; cases e; exact h0 ⟨rfl, rfl⟩))
      rw [hpq] at hyes
      have hb : ((p == 0) && (q == 0)) = false := by
        rw [Bool.and_eq_false_iff]
        by_cases e : p = 0
        · exact .inr (by simpa using fun e2 => h0 ⟨e, e2⟩)
        · exact .inl (by simpa using e)
      have hlen := rs_len t pre
      have hE2 := fun W => empty_any p q W
      rw [hb] at hE2
      have HE2 := Lib.hid hE2
      clear h0 hE2 hb
      have hvA : Boxed (W.alloc (Rec2 p q)) w.heap.size 32 u := hu.alloc _
      have hrowA := hrow.alloc (Rec2 p q)
      have hcA := hvA.cell
      have hBA : Below w.heap.size w (W.alloc (Rec2 p q)) := hB1.alloc hB1.size _
      have two := two_cells (W.alloc (Rec2 p q)) (.int .u64 p) (.int .u64 q)
      rw [World.size_alloc] at two
      have Two := Lib.hid two
      have g0 : (W.alloc (Rec2 p q)).cell? ⟨Bx, 0, none⟩ = some (.int .u64 p) := (Ext.new W _).cell c0
      have g1 : (W.alloc (Rec2 p q)).cell? ⟨Bx, 1, none⟩ = some (.int .u64 q) := (Ext.new W _).cell c1
      have hlA : W.heap.size + 1 = (W.alloc (Rec2 p q)).heap.size := by simp
      have HLA := Lib.hid hlA
      clear two hlA
      gi_wp2_with (first
        | (gi_at_call 45; refine (CallsIn.inRound l (callsIn_wide.2 (HE2.out _))).mono ?_; rintro e w' ⟨rfl, rfl⟩)
        | (gi_at_builtin; refine wpListIn_append_own _ rfl _ _ 32 rfl w.heap.size 34 i0 (.agg #[.int .u64 0, .int .u64 0]) 2 16 Tryd.underlying32 hi hz0 hz1 hz2 rfl (by decide) _ _ _ rfl (hrowA.alloc _) ⟨W.heap.size + 1, 0, none⟩ 1 1 [.int .u64 p, .int .u64 q] rfl rfl Two.out (by simp [Value.oneCell']) (by unfold maxLen; omega) (by omega) (by simp; omega) ?_; intro v' w1 hown' hgrow _; obtain ⟨g', cap', rfl⟩ := ownsRow_succ hown'; obtain ⟨hv1, hv2, hr2, hk2, hb2⟩ := hvA.appended (by decide) hrowA hBA.size (Nat.le_refl _) hown' hgrow; have hc1 := hv1.cell; have hf1 := hv1.frozen))
      have kk : ∀ {B : Nat} {ty : TypeId} {vv un : Value}, ty ≠ 34 → w.heap.size ≠ B → Boxed W B ty vv → Boxed (w1.setCell ⟨w.heap.size, 0, none⟩ un) B ty vv := fun {B ty vv un} h1 h2 hb => (((hb.alloc (Rec2 p q)).alloc _).kept hgrow ((hb.alloc (Rec2 p q)).not_row h1 hrowA)).other (fun e => h2 e.symm) _
      exact ⟨((KeepsOthers.alloc W (Rec2 p q)).trans hk2).from _, ⟨((Below.refl _ W).alloc hle _).trans hb2, kk (by decide) (by omega), kk (by decide) (by omega), kk (by decide) (by omega)⟩,
        ⟨⟨_, hv2, by rw [hyes.out, flat_append, List.length_append]; exact hr2, trivial⟩, kk (by decide) (by omega) bF⟩, hBA.trans hb2⟩
  case done =>
    rintro D ys W hD hxs ⟨⟨⟨u, hu, hrow, _⟩, bF⟩, hB1⟩ hK
    obtain ⟨sl, c', rfl⟩ := own_form hrow
    have hc := hu.cell
    have hsum := Lib.hid (rs_all hN hxs)
    gi_wp2
    refine ⟨by simp, .inl ⟨_, _, rfl, run_takeDeferred hK, ?_⟩⟩
    have hr3 := ownsRow_putObj hrow (.deferred none) hK rfl
    rw [hsum.out] at hr3
    refine ⟨_, results_tmp rfl _ _ _, _, rfl, ?_, hB1.trans (belowK_b (w := w) (Nat.le_refl _) W D _ _ (by omega) hK rfl rfl)⟩
    rw [← hsum.out]; rw [← hsum.out] at hr3; exact hr3
  case stop =>
    rintro D c pre W _ _ h _
    exact h.elim

end Go.Proofs.YtbpgnnogpcppdaaDoor
