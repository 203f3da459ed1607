/-
  What Same and Of return. Conditions: the words are there; Of: as many in a as in b and base from 0 to 2^20, or not so (then ErrArg).
-/
import Derived.Test.YtdofplmoiljkjaaIter
namespace Go.Proofs.Ytdofplmoiljkjaa
open Go.RowKit Go.Shelf

theorem unl_same {a b : List Int} {n : Nat} (h1 : a.length = n) (h2 : b.length = n) : unl a b n = [] ↔ a = b := by
  subst h1; exact unl_nil h2.symm

set_option maxRecDepth 100000 in
set_option maxHeartbeats 4000000 in
theorem same_eq (sa sb : Option Addr) (n ca cb : Nat) (a b : List Int) (r : Bool) (w : World) (hA : WS w sa n ca a) (hB : WS w sb n cb b) (hr : RowKit.Hid (r = decide (a = b))) :
    Calls Try.prog 14 #[.slice sa n ca, .slice sb n cb] w fun e w' => e = .returned (.bool r) ∧ Ext w w' := by
  have hfn : ∀ f, Fence.wide.fn f := fun _ => trivial
  have hsa := Oper.semAt_some
  have hdep : Fence.wide.depth = none := rfl
  have hn := hA.le
  have hb0 : (n != n) = false := by simp
  refine (callsIn_wide (n := 9)).1 ?_
  refine callsIn_of_wp_marks Try.func14 rfl trivial ?_ rfl
  simp only [Try.ntmps14, List.size_toArray, List.length_cons, List.length_nil, Nat.reduceAdd, Nat.reduceSub, Array.replicate_succ, Array.replicate_zero, List.push_toArray, List.append_toArray, List.nil_append, List.cons_append]
  gi_wp2_with (gi_at_call 23; refine (callsIn_wide.2 (unlike_any _ _ _ _ _ _ _)).mono ?_; rintro e w' ⟨rfl, rfl⟩)
  obtain ⟨W0, hW0⟩ : ∃ W0, ((w.alloc (.cells #[.bool false] 4)).alloc (.cells #[.slice sa n ca] 22)).alloc (.cells #[.slice sb n cb] 22) = W0 := ⟨_, rfl⟩
  have bR : Boxed W0 w.heap.size 4 (.bool false) := by rw [← hW0]; exact ((Boxed.new w 4 (.bool false)).alloc _).alloc _
  have bA : Boxed W0 (w.heap.size + 1) 22 (.slice sa n ca) := by rw [← hW0]; have h := (Boxed.new (w.alloc (.cells #[.bool false] 4)) 22 (.slice sa n ca)).alloc (.cells #[.slice sb n cb] 22); simpa only [World.size_alloc] using h
  have bB : Boxed W0 (w.heap.size + 1 + 1) 22 (.slice sb n cb) := by rw [← hW0]; have h := Boxed.new ((w.alloc (.cells #[.bool false] 4)).alloc (.cells #[.slice sa n ca] 22)) 22 (.slice sb n cb); simpa only [World.size_alloc] using h
  have hE : Ext w W0 := by rw [← hW0]; exact (((Ext.refl w).alloc _).alloc _).alloc _
  have hsz : W0.heap.size = w.heap.size + 3 := by rw [← hW0]; simp
  rw [hW0]
  clear hW0
  refine wpIn_rangeFunc_ownG rfl (by omega) (gf := 27) (lb := #[.pointer (some ⟨w.heap.size + 1 + 1, 0, none⟩), .pointer (some ⟨w.heap.size + 1, 0, none⟩)]) rfl trivial (enters_of Try.func27 (by kernel_rfl) rfl)
    (unlike_stops _ sa sb n ca cb (w.heap.size + 1) (w.heap.size + 1 + 1) a b w W0 hA hB hE bA bB) Keeps.trans (Keeps.put (w := W0) (by omega)) (Below.refl _ _) (fun _ => rfl)
    (fun pre W => (pre = [] ∧ Boxed W w.heap.size 4 (.bool false)) ∧ Below w.heap.size w W)
    (fun cd pre W => (cd = .ret ∧ Boxed W w.heap.size 4 (.bool false)) ∧ Below w.heap.size w W)
    (OwnFrom.and (OwnFrom.and (ownFrom_pure _ _) (Own.from (boxed_own _ _ _) _)) (ownFrom_below (Nat.le_refl _) (by omega)))
    (fun cd => OwnFrom.and (OwnFrom.and (ownFrom_pure _ _) (Own.from (boxed_own _ _ _) _)) (ownFrom_below (Nat.le_refl _) (by omega)))
    ⟨⟨rfl, bR⟩, hE⟩
    (fun x => { tmps := #[.slice sa n ca, .slice sb n cb, undef, undef, .pointer (some ⟨w.heap.size, 0, none⟩), .slice sa n ca, .int .i64 n, .slice sb n cb, .int .i64 n, .bool false, .slice sa n ca, .slice sb n cb,
      .func (.func 27) #[] #[.pointer (some ⟨w.heap.size + 1 + 1, 0, none⟩), .pointer (some ⟨w.heap.size + 1, 0, none⟩)], .int .i64 x.1, .int .u64 (b[x.1]?.getD 0)], defers := [] }) ?assign ?body ?done ?stop
  case assign =>
    intro l x W K hK
    unfold encs
    gi_wp2
    simpa using hK
  case body =>
    rintro l pre x W ⟨⟨rfl, bR1⟩, hB1⟩ _
    have cR := bR1.cell
    have fR := bR1.frozen
    gi_wp2
    exact ⟨(KeepsOthers.setCell _ _ _).from _, ⟨rfl, bR1.set _⟩, hB1.setCell (p := ⟨w.heap.size, 0, none⟩) (Nat.le_refl _) _⟩
  case done =>
    rintro D ys W hD hxs ⟨⟨rfl, bR1⟩, hB1⟩ hK
    have cR := bR1.cell
    have fR := bR1.frozen
    have hab : RowKit.Hid (r = true) := Lib.hid (by rw [hr.out]; exact decide_eq_true ((unl_same hA.len hB.len).1 hxs.symm))
    gi_wp2
    have hK' := (KeepsOthers.setCell W ⟨w.heap.size, 0, none⟩ (.bool true)).same D _ hK rfl
    refine ⟨by simp, .inl ⟨_, _, rfl, run_takeDeferred hK', ?_⟩⟩
    have hc5 := cell_kept (bR1.set (.bool true)).cell (grownBy_putObj' _ D (.deferred none)) (fun r e => by cases e; exact ⟨_, hK', rfl⟩)
    refine ⟨.bool true, ?_, by rw [hab.out], (hB1.setCell (p := ⟨w.heap.size, 0, none⟩) (by simp) _).trans (belowK_b (w := w) (Nat.le_refl _) _ D _ _ (by omega) hK' rfl rfl)⟩
    simp [results, Try.f14, go_sem, hc5]
  case stop =>
    rintro D cd pre W hD hne ⟨⟨rfl, bR1⟩, hB1⟩ hK
    have hab : RowKit.Hid (r = false) := Lib.hid (by rw [hr.out]; exact decide_eq_false (fun e => hne ((unl_same hA.len hB.len).2 e)))
    gi_wp2
    refine ⟨by simp, .inl ⟨_, _, rfl, run_takeDeferred hK, ?_⟩⟩
    have hc5 := cell_kept bR1.cell (grownBy_putObj' _ D (.deferred none)) (fun r e => by cases e; exact ⟨_, hK, rfl⟩)
    refine ⟨.bool false, ?_, by rw [hab.out], hB1.trans (belowK_b (w := w) (Nat.le_refl _) _ D _ _ (by omega) hK rfl rfl)⟩
    simp [results, Try.f14, go_sem, hc5]

theorem same_ne (sa sb : Option Addr) (n m ca cb : Nat) (w : World) (hnm : n ≠ m) :
    Calls Try.prog 14 #[.slice sa n ca, .slice sb m cb] w fun e w' => e = .returned (.bool false) ∧ Ext w w' := by
  have hb : ((n : Int) != (m : Int)) = true := by simp; omega
  have hb2 : (n != m) = true := by simpa using hnm
  go_enter Try.func14, Try.ntmps14
  go_wp2
  refine bodyPost_ret (v := .bool false) (by simp [results, Try.results14, go_sem]) rfl ⟨rfl, ?_⟩
  exact (Ext.refl w).alloc _

/-- Same. -/
theorem same_any (sa sb : Option Addr) (n m ca cb : Nat) (a b : List Int) (r : Bool) (w : World) (hA : WS w sa n ca a) (hB : WS w sb m cb b) (hr : RowKit.Hid (r = decide (a = b))) :
    Calls Try.prog 14 #[.slice sa n ca, .slice sb m cb] w fun e w' => e = .returned (.bool r) ∧ Ext w w' := by
  by_cases h : n = m
  · subst h; exact same_eq sa sb n ca cb a b r w hA hB hr
  · have : r = false := by rw [hr.out]; exact decide_eq_false (fun e => h (by rw [← hA.len, ← hB.len, e]))
    subst this
    exact same_ne sa sb n m ca cb w h

theorem info48 : (Try.prog.info? 48).map (fun i => (i.zero, i.size, i.bytes)) = some (some (.agg #[.int .i64 0, .int .u64 0]), 2, 16) := by kernel_rfl

theorem own_form {W : World} {base : Nat} {e : TypeId} {size n : Nat} {v : Value} {xs : List Value} (h : W.ownsRow base e size v n xs) : ∃ sl c, v = .slice sl n c := by
  rcases h.2 with ⟨rfl, rfl⟩ | ⟨g, cap, cur, rfl, _⟩
  · exact ⟨_, _, rfl⟩
  · exact ⟨_, _, rfl⟩

/-- The writes that have come. -/
def wrs (base : Int) (b : List Int) {n : Nat} (pre : List (At n)) : List Wr := pre.map fun x => (base + (x.1 : Int), b[x.1]?.getD 0)
theorem wrs_snoc (base : Int) (b : List Int) {n : Nat} (pre : List (At n)) (x : At n) : wrs base b (pre ++ [x]) = wrs base b pre ++ [(base + (x.1 : Int), b[x.1]?.getD 0)] := by simp [wrs]
theorem wrs_of {base : Int} {a b : List Int} {n : Nat} {xs : List (At n)} (h : plc xs = unl a b n) : wrs base b xs = ofK a b base n := by
  unfold ofK; rw [← h]; simp [wrs, plc]

theorem two_cells (W : World) (x y : Value) : ∀ j u, ([x, y] : List Value)[j]? = some u → (W.alloc (.cells #[x, y] 48)).cell? ((⟨W.heap.size, 0, none⟩ : Addr).add j) = some u := fun j u hu => by
  rw [add_is]
  unfold World.cell?
  rw [World.alloc_heap_new]
  match j, hu with
  | 0, hu => simpa using hu
  | 1, hu => simpa using hu
  | j + 2, hu => simp at hu

set_option maxRecDepth 100000 in
set_option maxHeartbeats 4000000 in
/-- Of, of words of one length, from a place that may be. -/
theorem of_yes (sa sb : Option Addr) (n ca cb : Nat) (a b : List Int) (base : Int) (w : World) (hA : WS w sa n ca a) (hB : WS w sb n cb b) (g0 : 0 ≤ base) (g1 : base ≤ 1048576) :
    Calls Try.prog 11 #[.slice sa n ca, .slice sb n cb, .int .i64 base] w fun e w' => ∃ sl m c, e = .returned (.tuple #[.slice sl m c, .int .i64 0]) ∧ RS w' sl m c (ofK a b base n) ∧ Ext w w' := by
  have hfn : ∀ f, Fence.wide.fn f := fun _ => trivial
  have hsa := Oper.semAt_some
  have hdep : Fence.wide.depth = none := rfl
  have hn := hA.le
  have hb0 : (n != n) = false := by simp
  obtain ⟨i0, hi, hz0, hz1, hz2⟩ := info_parts info48
  refine (callsIn_wide (n := 9)).1 ?_
  refine callsIn_of_wp_marks Try.func11 rfl trivial ?_ rfl
  simp only [Try.ntmps11, List.size_toArray, List.length_cons, List.length_nil, Nat.reduceAdd, Nat.reduceSub, Array.replicate_succ, Array.replicate_zero, List.push_toArray, List.append_toArray, List.nil_append, List.cons_append]
  gi_wp2_with (first
    | (gi_at_call 22; refine (callsIn_wide.2 (may_yes _ _ g0 g1)).mono ?_; rintro e w' ⟨rfl, rfl⟩)
    | (gi_at_call 23; refine (callsIn_wide.2 (unlike_any _ _ _ _ _ _ _)).mono ?_; rintro e w' ⟨rfl, rfl⟩))
  obtain ⟨W0, hW0⟩ : ∃ W0, (((w.alloc (.cells #[.int .i64 base] 3)).alloc (.cells #[.slice none 0 0] 23)).alloc (.cells #[.slice sa n ca] 22)).alloc (.cells #[.slice sb n cb] 22) = W0 := ⟨_, rfl⟩
  have bS : Boxed W0 w.heap.size 3 (.int .i64 base) := by rw [← hW0]; exact (((Boxed.new w 3 (.int .i64 base)).alloc _).alloc _).alloc _
  have bO : Boxed W0 (w.heap.size + 1) 23 (.slice none 0 0) := by rw [← hW0]; have h := ((Boxed.new (w.alloc (.cells #[.int .i64 base] 3)) 23 (.slice none 0 0)).alloc (.cells #[.slice sa n ca] 22)).alloc (.cells #[.slice sb n cb] 22); simpa only [World.size_alloc] using h
  have bA : Boxed W0 (w.heap.size + 1 + 1) 22 (.slice sa n ca) := by rw [← hW0]; have h := (Boxed.new ((w.alloc (.cells #[.int .i64 base] 3)).alloc (.cells #[.slice none 0 0] 23)) 22 (.slice sa n ca)).alloc (.cells #[.slice sb n cb] 22); simpa only [World.size_alloc] using h
  have bB : Boxed W0 (w.heap.size + 1 + 1 + 1) 22 (.slice sb n cb) := by rw [← hW0]; have h := Boxed.new (((w.alloc (.cells #[.int .i64 base] 3)).alloc (.cells #[.slice none 0 0] 23)).alloc (.cells #[.slice sa n ca] 22)) 22 (.slice sb n cb); simpa only [World.size_alloc] using h
  have hE : Ext w W0 := by rw [← hW0]; exact ((((Ext.refl w).alloc _).alloc _).alloc _).alloc _
  have hsz : W0.heap.size = w.heap.size + 4 := by rw [← hW0]; simp
  rw [hW0]
  clear hW0
  refine wpIn_rangeFunc_ownG rfl (by omega) (gf := 27) (lb := #[.pointer (some ⟨w.heap.size + 1 + 1 + 1, 0, none⟩), .pointer (some ⟨w.heap.size + 1 + 1, 0, none⟩)]) rfl trivial (enters_of Try.func27 (by kernel_rfl) rfl)
    (unlike_stops _ sa sb n ca cb (w.heap.size + 1 + 1) (w.heap.size + 1 + 1 + 1) a b w W0 hA hB hE bA bB) Keeps.trans (Keeps.put (w := W0) (by omega)) (Below.refl _ _) (fun _ => rfl)
    (fun pre W => ((∃ v, Boxed W (w.heap.size + 1) 23 v ∧ W.ownsRow w.heap.size 48 2 v (wrs base b pre).length (flat (wrs base b pre)) ∧ (v = .slice none 0 0 ↔ wrs base b pre = [])) ∧ Boxed W w.heap.size 3 (.int .i64 base)) ∧ Below w.heap.size w W)
    (fun _ _ _ => False)
    (OwnFrom.and (OwnFrom.and (Own.from (holdsRow_own w.heap.size (w.heap.size + 1) 23 48 2 (fun pre => (wrs base b pre).length) (fun pre => flat (wrs base b pre)) (fun pre v => v = .slice none 0 0 ↔ wrs base b pre = [])) _) (Own.from (boxed_own _ _ _) _)) (ownFrom_below (Nat.le_refl _) (by omega)))
    (fun _ _ _ _ _ hs _ _ => hs)
    ⟨⟨⟨_, bO, World.ownsRow_nil _ _ _ _, by simp [wrs]⟩, bS⟩, hE⟩
    (fun x => { tmps := #[.slice sa n ca, .slice sb n cb, .int .i64 base, undef, undef, .pointer (some ⟨w.heap.size, 0, none⟩), .slice none 0 0, .int .i64 0, .pointer (some ⟨w.heap.size + 1, 0, none⟩), .int .i64 x.1, .int .u64 (b[x.1]?.getD 0), .slice sa n ca, .int .i64 n, .slice sb n cb, .int .i64 n, .bool false, .bool false, .int .i64 base, .bool true, .bool false, .bool false,
      .slice sa n ca, .slice sb n cb, .func (.func 27) #[] #[.pointer (some ⟨w.heap.size + 1 + 1 + 1, 0, none⟩), .pointer (some ⟨w.heap.size + 1 + 1, 0, none⟩)], .int .i64 x.1, .int .u64 (b[x.1]?.getD 0), undef, undef, undef, undef, undef, undef, undef, undef, undef], defers := [] }) ?assign ?body ?done ?stop
  case assign =>
    intro l x W K hK
    unfold encs
    gi_wp2
    first | exact hK | simpa using hK
  case body =>
    rintro l pre x W ⟨⟨⟨v, hv, hrow, hnil⟩, bS1⟩, hB1⟩ hlt
    have hc := hv.cell
    have cS := bS1.cell
    have hx1 := x.2
    have hpl : (wrs base b pre).length = pre.length := by simp [wrs]
    have hpl2 : (wrs base b pre).length < n := by omega
    have hpl3 := Lib.hid hpl
    clear hpl
    gi_wp2_with (gi_at_builtin; refine wpListIn_append_own _ rfl _ _ 23 rfl w.heap.size 48 i0 (.agg #[.int .i64 0, .int .u64 0]) 2 16 Try.underlying23 hi hz0 hz1 hz2 rfl (by decide) _ _ _ rfl (hrow.alloc _) ⟨W.heap.size, 0, none⟩ 1 1 [.int .i64 (base + (x.1 : Int)), .int .u64 (b[x.1]?.getD 0)] rfl rfl (two_cells _ _ _) (by simp [Value.oneCell']) (by unfold maxLen; omega) (by omega) (by have := hB1.size; simp; omega) ?_; intro v' w1 hown' hgrow _; obtain ⟨g', cap', rfl⟩ := ownsRow_succ hown'; obtain ⟨hv1, hv2, hr2, hk2, hb2⟩ := hv.appended (by decide) hrow hB1.size (by omega) hown' hgrow; have hc1 := hv1.cell; have hf1 := hv1.frozen)
    have hg2 : (W.alloc (.cells #[.int .i64 (base + (x.1 : Int)), .int .u64 (b[x.1]?.getD 0)] 48)).grownBy w1 v.ownBlock := hgrow
    exact ⟨hk2.from _, ⟨hb2, fun hbA => ((hbA.alloc _).kept hg2 (hbA.not_row (by decide) hrow)).other (by omega) _⟩,
      ⟨⟨_, hv2, by rw [wrs_snoc, flat_append, List.length_append]; exact hr2, by rw [wrs_snoc]; simp⟩, ((bS1.alloc _).kept hg2 (bS1.not_row (by decide) hrow)).other (by omega) _⟩, hB1.trans hb2⟩
  case done =>
    rintro D ys W hD hxs ⟨⟨⟨v, hv, hrow, hnil⟩, bS1⟩, hB1⟩ hK
    obtain ⟨sl, c, rfl⟩ := own_form hrow
    have hc := hv.cell
    have hsum := Lib.hid (wrs_of (base := base) hxs)
    gi_wp2
    refine ⟨by simp, .inl ⟨_, _, rfl, run_takeDeferred hK, ?_⟩⟩
    have hle := ofK_le a b base n
    have hr3 := ownsRow_putObj hrow (.deferred none) hK rfl
    refine ⟨_, results_tmp2 rfl _ _ _, sl, _, c, rfl, ?_, hB1.trans (belowK_b (w := w) (Nat.le_refl _) W D _ _ (by omega) hK rfl rfl)⟩
    rw [hsum.out] at hr3 ⊢
    refine rs_of_own hr3 rfl (by omega) (fun y hy => ?_)
    obtain ⟨i, hi, _, rfl⟩ := mem_ofK.1 hy
    refine ⟨?_, ?_⟩
    · unfold I64; simp; omega
    · obtain ⟨x, hx, hu, _⟩ := hB.get hi
      simp only [hx]; exact hu
  case stop =>
    rintro D c pre W _ _ h _
    exact h.elim

theorem of_no (sa sb : Option Addr) (n m ca cb : Nat) (base : Int) (w : World) (h : n ≠ m ∨ base < 0 ∨ 1048576 < base) :
    Calls Try.prog 11 #[.slice sa n ca, .slice sb m cb, .int .i64 base] w fun e w' => e = .returned (.tuple #[.slice none 0 0, .int .i64 1]) ∧ Ext w w' := by
  by_cases hnm : n = m
  · subst hnm
    have h' : base < 0 ∨ 1048576 < base := by omega
    have hb0 : (n != n) = false := by simp
    have H := Lib.hid h'
    clear h h'
    go_enter Try.func11, Try.ntmps11
    go_wp2_with (go_at_call 22; refine (may_no _ _ H.out).mono ?_; rintro e w' ⟨rfl, rfl⟩)
    go_ret2
    exact ⟨rfl, (Ext.refl w).alloc _⟩
  · have hb : ((n : Int) != (m : Int)) = true := by simp; omega
    have hb2 : (n != m) = true := by simpa using hnm
    clear h
    go_enter Try.func11, Try.ntmps11
    go_wp2_with (fail)
    go_ret2
    exact ⟨rfl, (Ext.refl w).alloc _⟩

end Go.Proofs.Ytdofplmoiljkjaa
