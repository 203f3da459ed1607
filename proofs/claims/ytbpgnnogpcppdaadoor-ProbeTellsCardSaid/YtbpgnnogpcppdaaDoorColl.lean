/-
  What slices.Collect of slices.Values returns: the records, in new memory. Condition: the records are there.
-/
import Derived.Test.YtbpgnnogpcppdaaDoorRecs
namespace Go.Proofs.YtbpgnnogpcppdaaDoor
open Go.RowKit Go.Shelf

def encl (l : List Rc) (n : Nat) (x : At n) : Array Value := #[.agg #[.int .u64 (at' l x.1).1, .int .u64 (at' l x.1).2]]

theorem values_any (s : Option Addr) (m c : Nat) (w : World) : Calls Tryd.prog 33 #[.slice s m c] w fun e w' =>
    e = .returned (.func (.func 48) #[] #[.pointer (some ⟨w.heap.size, 0, none⟩)]) ∧ w' = w.alloc (.cells #[.slice s m c] 32) := by
  go_enter Tryd.func33, Tryd.ntmps33
  go_wp2
  go_ret
  exact ⟨rfl, rfl⟩

set_option maxRecDepth 100000 in
set_option maxHeartbeats 4000000 in
theorem values1_in (mm : Nat) (s : Option Addr) (n c B lp : Nat) (l : List Rc) (w0 : World) (J Jx : List (At n) → World → Prop) (W : World) (hQ : QS w0 s n c l) (hE : Ext w0 W) (hJ : AbidesFrom W.heap.size J)
    (b0 : Boxed W B 32 (.slice s n c))
    (hY : ∀ pre x W1, J pre W1 → pre.length < n → YieldAt Fence.wide (mm - 1) Tryd.prog lp (encl l n x) W1 fun e W' =>
      (e = .returned (.bool true) ∧ J (pre ++ [x]) W' ∧ Below w0.heap.size W1 W') ∨ (e = .returned (.bool false) ∧ Jx (pre ++ [x]) W'))
    (h0 : J [] W) :
    CallsIn Fence.wide mm Tryd.prog 48 #[.func (.yield lp) #[] #[], .pointer (some ⟨B, 0, none⟩)] W fun e W' => (∃ v, e = .returned v) ∧
      ((∃ xs : List (At n), plc xs = List.range n ∧ J xs W') ∨ (∃ pre : List (At n), True ∧ Jx pre W')) := by
  have hc0 := b0.cell
  have hn := hQ.le
  have hfn : ∀ f, Fence.wide.fn f := fun _ => trivial
  have hdep : Fence.wide.depth = none := rfl
  have HQ := Lib.hid hQ
  clear hQ
  refine callsIn_of_wp Tryd.func48 rfl trivial ?_ rfl
  simp only [Tryd.ntmps48, List.size_toArray, List.length_cons, List.length_nil, Nat.reduceAdd, Nat.reduceSub, Array.replicate_succ, Array.replicate_zero, List.push_toArray, List.append_toArray, List.nil_append, List.cons_append]
  gi_wp2
  clear hc0
  gi_loopw [7] (fun i wr => ∃ (k : Nat) (pre : List (At n)), k ≤ n ∧ i = .int .i64 k ∧ RowKit.Hid (plc pre = List.range k) ∧ J pre wr ∧ Ext w0 wr) (fun i _ => n - (RowKit.intOf i).toNat)
  case atStart => exact ⟨0, [], by omega, rfl, Lib.hid rfl, h0, hE⟩
  case round =>
    obtain ⟨k, pre, hk, rfl, hp, hJs, hEs⟩ := hrel
    by_cases hlt : k < n
    · obtain ⟨p, x, hx, up, ux, b, o, rfl, e0, e1⟩ := (HQ.out.ext hEs).get hlt
      have hu : RowKit.Hid (at' l k = (p, x)) := Lib.hid (by unfold at'; rw [hx]; rfl)
      have hJ6 := hJ pre wr (wr.alloc (Rec2 p x)) none hJs (World.grownBy_alloc _ _ _) (fun r e => by cases e)
      have hlen : pre.length < n := by
        have h1 : (plc pre).length = (List.range k).length := by rw [hp.out]
        simp at h1; omega
      obtain ⟨fn, tmps, assign, body, hy, hR⟩ := hY pre ⟨k, hlt⟩ _ hJ6 hlen
      dsimp only [encl] at hy
      rw [hu.out] at hy
      dsimp only at hy
      have hkn : (k : Int) < n := by omega
      clear hx hJ6
      gi_wp2
      refine hR.mono ?_
      rintro e W3 (⟨rfl, hJ3, hk3⟩ | ⟨rfl, hJx3⟩)
      · gi_wp2
        go_roundw
        case rel => exact ⟨k + 1, pre ++ [⟨k, hlt⟩], by omega, by go_num, Lib.hid (by rw [List.range_succ, ← hp.out]; simp), hJ3, Below.trans (Ext.alloc hEs _) hk3⟩
        case measure => simp [RowKit.intOf]; omega
      · gi_wp2
        refine bodyPost_ret (results_none rfl _ _ _) rfl ?_
        exact ⟨⟨_, rfl⟩, .inr ⟨_, trivial, hJx3⟩⟩
    · obtain rfl : k = n := by omega
      gi_wp2
      go_end0
      exact ⟨⟨_, rfl⟩, .inl ⟨pre, hp.out, hJs⟩⟩

theorem values_stops (mm : Nat) (s : Option Addr) (n c B : Nat) (l : List Rc) (w0 w : World) (hQ : QS w0 s n c l) (hE : Ext w0 w) (b0 : Boxed w B 32 (.slice s n c)) :
    SeqStopsK Fence.wide mm Tryd.prog 48 #[.pointer (some ⟨B, 0, none⟩)] (encl l n) (Below w0.heap.size) (fun xs => plc xs = List.range n) (fun _ => True) n w := fun lp J Jx W hW hJ _ hY h0 =>
  values1_in mm s n c B lp l w0 J Jx W hQ (Ext.trans hE hW) hJ ((hW.block _ b0.lt).trans b0) hY h0

/-- What has come. -/
def cs (l : List Rc) {n : Nat} (pre : List (At n)) : List Rc := pre.map fun x => at' l x.1
theorem cs_snoc (l : List Rc) {n : Nat} (pre : List (At n)) (x : At n) : cs l (pre ++ [x]) = cs l pre ++ [at' l x.1] := by unfold cs; simp
theorem cs_all {l : List Rc} {n : Nat} (hn : l.length = n) {xs : List (At n)} (h : plc xs = List.range n) : cs l xs = l := by
  have e1 : xs.map (fun x => at' l x.1) = (plc xs).map (at' l) := by simp [plc]
  unfold cs; rw [e1, h, at_range hn]

set_option maxRecDepth 100000 in
set_option maxHeartbeats 4000000 in
theorem appendSeq_any (s : Option Addr) (n c B : Nat) (l : List Rc) (w : World) (hQ : QS w s n c l) (b0 : Boxed w B 32 (.slice s n c)) :
    Calls Tryd.prog 57 #[.slice none 0 0, .func (.func 48) #[] #[.pointer (some ⟨B, 0, none⟩)]] w fun e w' => ∃ u, e = .returned u ∧ w'.ownsRow w.heap.size 34 2 u l.length (flat l) ∧ Ext w w' := by
  have hfn : ∀ f, Fence.wide.fn f := fun _ => trivial
  have hsa := Oper.semAt_some
  have hdep : Fence.wide.depth = none := rfl
  have hn := hQ.le
  have hr : RowKit.Hid (∀ r ∈ l, Ur r) := Lib.hid hQ.range
  have hln := Lib.hid hQ.len
  obtain ⟨i0, hi, hz0, hz1, hz2⟩ := info_parts info34
  refine (callsIn_wide (n := 9)).1 ?_
  refine callsIn_of_wp_marks Tryd.func57 rfl trivial ?_ rfl
  simp only [Tryd.ntmps57, List.size_toArray, List.length_cons, List.length_nil, Nat.reduceAdd, Nat.reduceSub, Array.replicate_succ, Array.replicate_zero, List.push_toArray, List.append_toArray, List.nil_append, List.cons_append]
  gi_wp2
  obtain ⟨W0, hW0⟩ : ∃ W0, w.alloc (.cells #[.slice none 0 0] 32) = W0 := ⟨_, rfl⟩
  have bO : Boxed W0 w.heap.size 32 (.slice none 0 0) := by rw [← hW0]; exact Boxed.new w 32 (.slice none 0 0)
  have hE : Ext w W0 := by rw [← hW0]; exact (Ext.refl w).alloc _
  have hsz : W0.heap.size = w.heap.size + 1 := by rw [← hW0]; simp
  have b1 : Boxed W0 B 32 (.slice s n c) := (hE.block _ b0.lt).trans b0
  rw [hW0]
  clear hW0
  refine wpIn_rangeFunc_ownH rfl (by omega) (gf := 48) (lb := #[.pointer (some ⟨B, 0, none⟩)]) rfl trivial (enters_of Tryd.func48 (by kernel_rfl) rfl)
    (values_stops _ s n c B l w W0 hQ hE b1) belowK_t (belowK_b (by omega)) (Below.refl _ _) (fun _ => rfl)
    (fun pre W => (∃ u, Boxed W w.heap.size 32 u ∧ W.ownsRow w.heap.size 34 2 u (cs l pre).length (flat (cs l pre)) ∧ True) ∧ Below w.heap.size w W)
    (fun _ _ _ => False)
    (OwnFrom.and (Own.from (holdsRow_own w.heap.size w.heap.size 32 34 2 (fun pre => (cs l pre).length) (fun pre => flat (cs l pre)) (fun _ _ => True)) _) (ownFrom_below (Nat.le_refl _) (by omega)))
    (fun _ _ _ _ _ hs _ _ => hs)
    ⟨⟨_, bO, World.ownsRow_nil _ _ _ _, trivial⟩, hE⟩
    (fun x a' W => ∃ Bx, w.heap.size < Bx ∧ W.heap[Bx]? = some (Rec2 (at' l x.1).1 (at' l x.1).2) ∧ a' = { tmps := #[.slice none 0 0, .func (.func 48) #[] #[.pointer (some ⟨B, 0, none⟩)], .pointer (some ⟨w.heap.size, 0, none⟩), undef, .slice none 0 0, .pointer (some ⟨Bx, 0, none⟩),
      .func (.func 48) #[] #[.pointer (some ⟨B, 0, none⟩)], .agg #[.int .u64 (at' l x.1).1, .int .u64 (at' l x.1).2], undef, undef, undef, undef, undef], defers := [] })
    (fun x a' _ X Y row hs hg hr => by obtain ⟨Bx, h1, h2, h3⟩ := hs; exact ⟨Bx, h1, boxed_obj Bx _ rfl () X Y row h2 hg (fun r e => (hr r e).2), h3⟩)
    ?assign ?body ?done ?stop
  case assign =>
    rintro lp pre x W K ⟨⟨u, hu, hrow, _⟩, hB1⟩ hK
    have hle : w.heap.size ≤ W.heap.size := hB1.size
    unfold encl
    gi_wp2
    exact hK _ _ ((KeepsOthers.alloc _ _).from _) ((Below.refl _ W).alloc hle _) ⟨⟨u, hu.alloc _, hrow.alloc _, trivial⟩, hB1.alloc hB1.size _⟩ ⟨W.heap.size, hu.lt, World.alloc_heap_new W _, rfl⟩
  case body =>
    rintro lp pre x a' W hl ⟨r, hrr⟩ ⟨⟨u, hu, hrow, _⟩, hB1⟩ ⟨Bx, hBx, bX, rfl⟩ hlt
    obtain ⟨p, q, hpq⟩ : ∃ p q, at' l x.1 = (p, q) := ⟨_, _, rfl⟩
    have hyes := Lib.hid (cs_snoc l pre x)
    rw [hpq] at bX hyes ⊢
    dsimp only at bX ⊢
    obtain ⟨c0, c1⟩ := rec2_cells bX
    have hfd : (Fence.wide.inRound lp).depth = none := rfl
    have hff : ∀ f, (Fence.wide.inRound lp).fn f := fun _ => trivial
    have hle := hB1.size
    have hlen : (cs l pre).length = pre.length := by unfold cs; simp
    have hlen2 : (cs l pre).length < n := by omega
    have hc := hu.cell
    have Two := Lib.hid (two_cells W (.int .u64 p) (.int .u64 q))
    clear hlen hpq
    gi_wp2_with (gi_at_builtin; refine wpListIn_append_own _ rfl _ _ 32 rfl w.heap.size 34 i0 (.agg #[.int .u64 0, .int .u64 0]) 2 16 Tryd.underlying32 hi hz0 hz1 hz2 rfl (by decide) _ _ _ rfl (hrow.alloc _) ⟨W.heap.size, 0, none⟩ 1 1 [.int .u64 p, .int .u64 q] rfl rfl Two.out (by simp [Value.oneCell']) (by unfold maxLen; omega) (by omega) (by simp; omega) ?_; intro v' w1 hown' hgrow _; obtain ⟨g', cap', rfl⟩ := ownsRow_succ hown'; obtain ⟨hv1, hv2, hr2, hk2, hb2⟩ := hu.appended (by decide) hrow hB1.size (Nat.le_refl _) hown' hgrow; have hc1 := hv1.cell; have hf1 := hv1.frozen)
    exact ⟨hk2.from _, hb2, ⟨_, hv2, by rw [hyes.out, flat_append, List.length_append]; exact hr2, trivial⟩, hB1.trans hb2⟩
  case done =>
    rintro D ys W hD hxs ⟨⟨u, hu, hrow, _⟩, hB1⟩ hK
    obtain ⟨sl, c', rfl⟩ := own_form hrow
    have hc := hu.cell
    have hsum := Lib.hid (cs_all hln.out hxs)
    gi_wp2
    refine ⟨by simp, .inl ⟨_, _, rfl, run_takeDeferred hK, ?_⟩⟩
    have hr3 := ownsRow_putObj hrow (.deferred none) hK rfl
    refine ⟨_, results_tmp rfl _ _ _, _, rfl, ?_, hB1.trans (belowK_b (w := w) (Nat.le_refl _) W D _ _ (by omega) hK rfl rfl)⟩
    have e1 : l.length = (cs l ys).length := by rw [hsum.out]
    have e2 : flat l = flat (cs l ys) := by rw [hsum.out]
    rw [e1, e2]; exact hr3
  case stop =>
    rintro D c pre W _ _ h _
    exact h.elim

theorem collect_any (s : Option Addr) (n c B : Nat) (l : List Rc) (w : World) (hQ : QS w s n c l) (b0 : Boxed w B 32 (.slice s n c)) :
    Calls Tryd.prog 46 #[.func (.func 48) #[] #[.pointer (some ⟨B, 0, none⟩)]] w fun e w' => ∃ u, e = .returned u ∧ w'.ownsRow w.heap.size 34 2 u l.length (flat l) ∧ Ext w w' := by
  have hA := Lib.hid (appendSeq_any s n c B l w hQ b0)
  clear hQ b0
  go_enter Tryd.func46, Tryd.ntmps46
  go_wp2_with (fail)
  refine hA.out.mono ?_
  rintro e w1 ⟨u, rfl, hrow, hE⟩
  obtain ⟨sl, c', rfl⟩ := own_form hrow
  go_wp2_with (fail)
  go_ret
  exact ⟨_, rfl, hrow, hE⟩

end Go.Proofs.YtbpgnnogpcppdaaDoor
