/-
  What sought returns: the slot of a table that has the key. Conditions: the words are there, those of a table; the key is not 0; the package's table lies.
-/
import Derived.Test.YtbpgnnogpcppdaaDoorRecs
namespace Go.Proofs.YtbpgnnogpcppdaaDoor
open Go.RowKit Go.Shelf

theorem find_at {n : Nat} {t S : List Rc} (h : Is n t S) {k : Int} (hk : k ≠ 0) {p : Nat} (hp : p < n) (he : (at' t p).1 = k) : findT t k = ((p : Int), true) := by
  have hpl : p < t.length := by rw [h.len]; exact hp
  unfold findT
  cases hs : sought t k with
  | some q =>
    obtain ⟨h1, h2⟩ := sought_some hs
    have := h.one (at_some h1) (at_some hpl) (by rw [h2]; exact hk) (by rw [h2, he])
    rw [this]
  | none => exact absurd he (sought_none hs hpl)
theorem find_empty {n : Nat} {t S : List Rc} (h : Is n t S) {k : Int} (hk : k ≠ 0) {j : Nat} (he : at' t ((slotN k n + j) % n) = (0, 0)) (hb : ∀ i, i < j → (at' t ((slotN k n + i) % n)).1 ≠ k) : findT t k = (0, false) := by
  unfold findT
  cases hs : sought t k with
  | none => rfl
  | some p =>
    obtain ⟨i, hi, e, hw⟩ := h.way hk hs
    have h2 := (sought_some hs).2
    rw [e] at h2
    rcases Nat.lt_trichotomy i j with hij | hij | hij
    · exact absurd h2 (hb i hij)
    · subst hij; rw [he] at h2; exact absurd h2.symm hk
    · have := (hw j hij).1; rw [he] at this; exact absurd rfl this
theorem find_never {n f : Nat} {t S : List Rc} (h : Is n t S) (hf : f < n) {k : Int} (hb : ∀ i, i < n → (at' t ((f + i) % n)).1 ≠ k) : findT t k = (0, false) := by
  refine find_no h.len fun p hp => ?_
  obtain ⟨i, hi, e⟩ := wrap_reach hp hf
  rw [← e]; exact hb i hi
theorem way_get {f n k i : Nat} (h : i < k) : (way f n k)[i]? = some ((f + i) % n) := by
  unfold way; rw [List.getElem?_map, List.getElem?_range h]; rfl
theorem plc_get {n f k : Nat} {pre : List (At n)} (h : plc pre = way f n k) {i : Nat} (hi : i < k) : ∃ x ∈ pre, x.1 = (f + i) % n := by
  have := way_get (f := f) (n := n) hi
  rw [← h, List.getElem?_map] at this
  obtain ⟨x, hx, e⟩ := Option.map_eq_some_iff.1 this
  exact ⟨x, List.mem_of_getElem? hx, e⟩
theorem plc_last {n f k : Nat} {pre : List (At n)} {x : At n} (h : plc (pre ++ [x]) = way f n (k + 1)) : plc pre = way f n k ∧ x.1 = (f + k) % n := by
  rw [way_succ, plc, List.map_append, List.map_singleton] at h
  have := List.append_inj' h rfl
  exact ⟨this.1, by simpa using this.2⟩

/-- How a search has ended. -/
def Ended (t : List Rc) (k : Int) {n : Nat} (cd : Code) (pre : List (At n)) (a : Int) (b : Bool) : Prop :=
  (cd = .ret ∧ b = true ∧ ∃ x : At n, (x.1 : Int) = a ∧ (at' t x.1).1 = k) ∨ (cd = .exit 0 ∧ a = 0 ∧ b = false ∧ ∃ pr x, pre = pr ++ [x] ∧ at' t x.1 = (0, 0) ∧ ∀ y ∈ pr, (at' t y.1).1 ≠ k)
theorem ended_own {n : Nat} (B Bs : Nat) (t : List Rc) (k : Int) (cd : Code) : OwnFrom Bs (fun (pre : List (At n)) W => ∃ a b, (Boxed W (B + 1) 3 (.int .i64 a) ∧ Boxed W (B + 1 + 1) 4 (.bool b)) ∧ Ended t k cd pre a b) := by
  rintro s X Y row ⟨a, b, ⟨h1, h2⟩, h3⟩ hg hr
  exact ⟨a, b, ⟨Own.from (boxed_own (β := Unit) (B + 1) 3 (fun _ => .int .i64 a)) Bs () X Y row h1 hg hr, Own.from (boxed_own (β := Unit) (B + 1 + 1) 4 (fun _ => .bool b)) Bs () X Y row h2 hg hr⟩, h3⟩

set_option maxRecDepth 100000 in
set_option maxHeartbeats 4000000 in
theorem sought_1 (s : Option Addr) (N c : Nat) (t S : List Rc) (k : Int) (w : World) (hT : Tab w) (hS : WS w s N c (flatW 1 t)) (hI : Is N t S) (ht : Thin 1 t) (n1 : 1 ≤ N) (n2 : N ≤ 1024) (hk : k ≠ 0) (hku : U64 k) :
    Calls Tryd.prog 36 #[.slice s N c, .int .i64 1, .int .u64 k] w (NB (findT t k) w) := by
  have hfn : ∀ f, Fence.wide.fn f := fun _ => trivial
  have hsa := Oper.semAt_some
  have hdep : Fence.wide.depth = none := rfl
  have hm := hS.le
  have hf := slotN_lt (k := k) (n := N) (by omega)
  have hsi : slot k (N : Int) = ((slotN k N : Nat) : Int) := slot_is k N n1
  obtain ⟨f, hfe⟩ : ∃ f, slotN k N = f := ⟨_, rfl⟩
  have Hf := Lib.hid hfe
  rw [hfe] at hf hsi
  have HS := Lib.hid hS
  have HI := Lib.hid hI
  have HT := Lib.hid ht
  have HK := Lib.hid hk
  obtain ⟨w3, hw3⟩ : ∃ w3, ((w.alloc (.cells #[.int .u64 k] 24)).alloc (.cells #[.int .i64 0] 3)).alloc (.cells #[.bool false] 4) = w3 := ⟨_, rfl⟩
  have bK : Boxed w3 w.heap.size 24 (.int .u64 k) := by rw [← hw3]; exact ((Boxed.new w 24 (.int .u64 k)).alloc _).alloc _
  have bA : Boxed w3 (w.heap.size + 1) 3 (.int .i64 0) := by rw [← hw3]; have h := (Boxed.new (w.alloc (.cells #[.int .u64 k] 24)) 3 (.int .i64 0)).alloc (.cells #[.bool false] 4); simpa only [World.size_alloc] using h
  have bB : Boxed w3 (w.heap.size + 1 + 1) 4 (.bool false) := by rw [← hw3]; have h := Boxed.new ((w.alloc (.cells #[.int .u64 k] 24)).alloc (.cells #[.int .i64 0] 3)) 4 (.bool false); simpa only [World.size_alloc] using h
  have hE3 : Ext w w3 := by rw [← hw3]; exact (((Ext.refl w).alloc _).alloc _).alloc _
  have hz3 : w3.heap.size = w.heap.size + 3 := by rw [← hw3]; simp
  have hT3 : Tab w3.drew := hT.ext (hE3.drew)
  have HSl : RowKit.Hid (Calls Tryd.prog 50 #[.int .u64 k, .int .i64 N] w3.drew fun e w' => e = .returned (.int .i64 (f : Int)) ∧ Ext w3 w') := Lib.hid ((slot_any k N w3.drew hT3 hku.1 hku.2 (by omega) (by omega)).mono fun _ _ h => ⟨by rw [h.1, hsi], (Ext.drew (Ext.refl w3)).trans h.2.ext⟩)
  clear hS hI ht hk hfe hsi hT3 hT
  refine (callsIn_wide (n := 9)).1 ?_
  refine callsIn_of_wp_marks Tryd.func36 rfl trivial ?_ rfl
  simp only [Tryd.ntmps36, List.size_toArray, List.length_cons, List.length_nil, Nat.reduceAdd, Nat.reduceSub, Array.replicate_succ, Array.replicate_zero, List.push_toArray, List.append_toArray, List.nil_append, List.cons_append]
  gi_wp2
  clear hw3
  have g0 := bK.cell
  have hwN : IntKind.i64.wrap (N : Int) = N := IntWalk.i64_in _ (by omega)
  have hwN2 : RowKit.wrap64 (N : Int) = N := by rw [← hwN]; first | rfl | (unfold RowKit.wrap64; omega)
  refine wpIn_wide.2 ?_
  go_region_held3 (fun w' => (w'.cell? ⟨w.heap.size, 0, none⟩ = some (.int .u64 k)))
    (first
      | exact Ext.cell (Ext.alloc (Ext.alloc (Ext.alloc x1 _) _) _) g0
      | exact Ext.cell x1 g0
      | exact g0
      | go_keep)
    (first
      | (go_at_call 50; with_reducible refine HSl.out.mono ?_; rintro e w1 ⟨rfl, x1⟩)
      | (go_at_call 44; with_reducible refine (round_any s N c 1 f w1).mono ?_; rintro e w' ⟨rfl, rfl⟩))
  rename_i hh
  clear hh g0 HSl hwN hwN2
  gi_wp2
  obtain ⟨D, hD⟩ : ∃ D, w1.heap.size = D := ⟨_, rfl⟩
  obtain ⟨W0, hW0⟩ : ∃ W0, ((w1.alloc (.cells #[.slice s N c] 23)).alloc (.cells #[.int .i64 1] 3)).alloc (.cells #[.int .i64 (f : Int)] 3) = W0 := ⟨_, rfl⟩
  have b0 : Boxed W0 D 23 (.slice s N c) := by rw [← hW0, ← hD]; exact ((Boxed.new w1 23 (.slice s N c)).alloc _).alloc _
  have b1 : Boxed W0 (D + 1) 3 (.int .i64 1) := by rw [← hW0, ← hD]; have h := (Boxed.new (w1.alloc (.cells #[.slice s N c] 23)) 3 (.int .i64 1)).alloc (.cells #[.int .i64 (f : Int)] 3); simpa only [World.size_alloc] using h
  have b2 : Boxed W0 (D + 1 + 1) 3 (.int .i64 (f : Int)) := by rw [← hW0, ← hD]; have h := Boxed.new ((w1.alloc (.cells #[.slice s N c] 23)).alloc (.cells #[.int .i64 1] 3)) 3 (.int .i64 (f : Int)); simpa only [World.size_alloc] using h
  have hE30 : Ext w3 W0 := by rw [← hW0]; exact ((x1.alloc _).alloc _).alloc _
  have hE0 : Ext w W0 := hE3.trans hE30
  have bK0 : Boxed W0 w.heap.size 24 (.int .u64 k) := (hE30.block _ bK.lt).trans bK
  have bA0 : Boxed W0 (w.heap.size + 1) 3 (.int .i64 0) := (hE30.block _ bA.lt).trans bA
  have bB0 : Boxed W0 (w.heap.size + 1 + 1) 4 (.bool false) := (hE30.block _ bB.lt).trans bB
  have hD3 : w.heap.size + 3 ≤ D := by have := x1.size; omega
  have hsz : W0.heap.size = D + 3 := by rw [← hW0, ← hD]; simp
  rw [hW0, hD]
  clear hW0 hD x1 bK bA bB
  refine wpIn_rangeFunc_ownH rfl (by omega) (gf := 56) (lb := #[.pointer (some ⟨D, 0, none⟩), .pointer (some ⟨D + 1, 0, none⟩), .pointer (some ⟨D + 1 + 1, 0, none⟩)]) rfl trivial (enters_of Tryd.func56 (by kernel_rfl) rfl)
    (round_stops _ s N N c 1 f D (D + 1) (D + 1 + 1) t w W0 (by unfold Wd; omega) HS.out HI.out.len HT.out hf hE0 b0 b1 b2) Keeps.trans (Keeps.put (w := W0) (by omega)) (Below.refl _ _) (fun _ => rfl)
    (fun pre W => (((∀ y ∈ pre, (at' t y.1).1 ≠ k) ∧ Boxed W w.heap.size 24 (.int .u64 k)) ∧ ((Boxed W (w.heap.size + 1) 3 (.int .i64 0) ∧ Boxed W (w.heap.size + 1 + 1) 4 (.bool false)) ∧ Boxed W (D + 1 + 1) 3 (.int .i64 (f : Int)))) ∧ Below w.heap.size w W)
    (fun cd pre W => (∃ a b, (Boxed W (w.heap.size + 1) 3 (.int .i64 a) ∧ Boxed W (w.heap.size + 1 + 1) 4 (.bool b)) ∧ Ended t k cd pre a b) ∧ Below w.heap.size w W)
    (OwnFrom.and (OwnFrom.and (OwnFrom.and (ownFrom_pure _ _) (Own.from (boxed_own _ _ _) _)) (OwnFrom.and (OwnFrom.and (Own.from (boxed_own _ _ _) _) (Own.from (boxed_own _ _ _) _)) (Own.from (boxed_own _ _ _) _))) (ownFrom_below (Nat.le_refl _) (by omega)))
    (fun cd => OwnFrom.and (ended_own w.heap.size _ t k cd) (ownFrom_below (Nat.le_refl _) (by omega)))
    ⟨⟨⟨by simp, bK0⟩, ⟨bA0, bB0⟩, b2⟩, hE0⟩
    (fun x a' W => ∃ Bx, D + 1 + 1 < Bx ∧ W.heap[Bx]? = some (Rec2 (at' t x.1).1 (at' t x.1).2) ∧ a' = { tmps := #[.slice s N c, .int .i64 1, .int .u64 k, undef, undef, .pointer (some ⟨w.heap.size, 0, none⟩), .pointer (some ⟨w.heap.size + 1, 0, none⟩), .pointer (some ⟨w.heap.size + 1 + 1, 0, none⟩), .int .i64 x.1, .pointer (some ⟨Bx, 0, none⟩), .slice s N c, .int .i64 1, .int .u64 k, .slice s N c, .int .i64 N, .int .i64 1, .int .i64 N, .int .i64 f,
      .func (.func 56) #[] #[.pointer (some ⟨D, 0, none⟩), .pointer (some ⟨D + 1, 0, none⟩), .pointer (some ⟨D + 1 + 1, 0, none⟩)], .int .i64 x.1, .agg #[.int .u64 (at' t x.1).1, .int .u64 (at' t x.1).2], undef, undef, undef, undef, undef, undef, undef], defers := [] })
    (fun x a' _ X Y row hs hg hr => by obtain ⟨Bx, h1, h2, h3⟩ := hs; exact ⟨Bx, h1, boxed_obj Bx _ rfl () X Y row h2 hg (fun r e => (hr r e).2), h3⟩)
    ?assign ?body ?done ?stop
  case assign =>
    rintro l pre x W K ⟨⟨⟨hp, kK⟩, ⟨kA, kB⟩, kF⟩, hB1⟩ hK
    have hle : w.heap.size ≤ W.heap.size := hB1.size
    unfold encs
    gi_wp2
    exact hK _ _ ((KeepsOthers.alloc _ _).from _) (Keeps.alloc hle _) ⟨⟨⟨hp, kK.alloc _⟩, ⟨kA.alloc _, kB.alloc _⟩, kF.alloc _⟩, hB1.alloc hB1.size _⟩ ⟨W.heap.size, kF.lt, World.alloc_heap_new W _, rfl⟩
  case body =>
    rintro l pre x a' W hl ⟨r, hr⟩ ⟨⟨⟨hp, kK⟩, ⟨kA, kB⟩, kF⟩, hB1⟩ ⟨Bx, hBx, bX, rfl⟩ hlt
    obtain ⟨p, q, hpq⟩ : ∃ p q, at' t x.1 = (p, q) := ⟨_, _, rfl⟩
    have Hpq := Lib.hid hpq
    rw [hpq] at bX ⊢
    dsimp only at bX ⊢
    obtain ⟨c0, c1⟩ := rec2_cells bX
    have hfd : (Fence.wide.inRound l).depth = none := rfl
    have hff : ∀ f, (Fence.wide.inRound l).fn f := fun _ => trivial
    have hle := hB1.size
    have cK := kK.cell
    have cA := kA.cell
    have fA := kA.frozen
    have cB := kB.cell
    have fB := kB.frozen
    have Hp := Lib.hid hp
    clear hp hpq
    by_cases hpk : p = k
    · subst hpk
      gi_wp2
      exact ⟨((KeepsOthers.setCell _ _ _).trans (KeepsOthers.setCell _ _ _)).from _, ⟨_, _, ⟨(kA.set _).other (by omega) _, (kB.other (by omega) _).set _⟩, .inl ⟨rfl, rfl, x, rfl, by rw [Hpq.out]⟩⟩,
        (hB1.setCell (p := ⟨w.heap.size + 1, 0, none⟩) (by simp) _).setCell (p := ⟨w.heap.size + 1 + 1, 0, none⟩) (by simp; omega) _⟩
    · have hpb : (p == k) = false := by simpa using hpk
      have HN : RowKit.Hid (∀ y ∈ pre ++ [x], (at' t y.1).1 ≠ k) := Lib.hid (fun y hy => (List.mem_append.1 hy).elim (Hp.out y) (fun e => by simp at e; subst e; rw [Hpq.out]; exact hpk))
      clear hpk
      by_cases h0 : p = 0 ∧ q = 0
      · obtain ⟨rfl, rfl⟩ := h0
        gi_wp2_with (gi_at_call 45; refine (CallsIn.inRound l (callsIn_wide.2 (empty_any _ _ _))).mono ?_; rintro e w' ⟨rfl, rfl⟩)
        exact ⟨(KeepsOthers.alloc _ _).from _, ⟨_, _, ⟨kA.alloc _, kB.alloc _⟩, .inr ⟨rfl, rfl, rfl, pre, x, rfl, Hpq.out, Hp.out⟩⟩, hB1.alloc hB1.size _⟩
      · have hb : ((p == 0) && (q == 0)) = false := by
          rw [Bool.and_eq_false_iff]
          by_cases e : p = 0
          · exact .inr (by simpa using fun e2 => h0 ⟨e, e2⟩)
          · exact .inl (by simpa using e)
        have hE2 := fun W => empty_any p q W
        rw [hb] at hE2
        have HE2 := Lib.hid hE2
        clear h0 hE2 hb
        gi_wp2_with (gi_at_call 45; refine (CallsIn.inRound l (callsIn_wide.2 (HE2.out _))).mono ?_; rintro e w' ⟨rfl, rfl⟩)
        exact ⟨(KeepsOthers.alloc _ _).from _, Keeps.alloc hle _, ⟨⟨HN.out, kK.alloc _⟩, ⟨kA.alloc _, kB.alloc _⟩, kF.alloc _⟩, hB1.alloc hB1.size _⟩
  case done =>
    rintro D' ys W hD' hxs ⟨⟨⟨hp, kK⟩, ⟨kA, kB⟩, kF⟩, hB1⟩ hK
    have hfin : RowKit.Hid (findT t k = (0, false)) := Lib.hid (find_never HI.out hf (fun i hi => by
      obtain ⟨x, hx, e⟩ := plc_get hxs hi
      rw [← e]; exact hp x hx))
    have cA := kA.cell
    have fA := kA.frozen
    have cB := kB.cell
    have fB := kB.frozen
    clear hp
    gi_wp2
    have hK' := ((KeepsOthers.setCell W ⟨w.heap.size + 1, 0, none⟩ (.int .i64 0)).trans (KeepsOthers.setCell _ ⟨w.heap.size + 1 + 1, 0, none⟩ (.bool false))).same D' _ hK rfl
    refine ⟨by simp, .inl ⟨_, _, rfl, run_takeDeferred hK', ?_⟩⟩
    have hc5 := cell_kept ((kA.set (.int .i64 0)).other (B' := w.heap.size + 1 + 1) (by omega) (.bool false)).cell (grownBy_putObj' _ D' (.deferred none)) (fun r e => by cases e; exact ⟨_, hK', rfl⟩)
    have hc6 := cell_kept ((kB.other (B' := w.heap.size + 1) (by omega) (.int .i64 0)).set (.bool false)).cell (grownBy_putObj' _ D' (.deferred none)) (fun r e => by cases e; exact ⟨_, hK', rfl⟩)
    refine ⟨.tuple #[.int .i64 0, .bool false], ?_, NB.mk hfin.out (((hB1.setCell (p := ⟨w.heap.size + 1, 0, none⟩) (by simp) _).setCell (p := ⟨w.heap.size + 1 + 1, 0, none⟩) (by simp; omega) _).trans (belowK_b (w := w) (Nat.le_refl _) _ D' _ _ (by omega) hK' rfl rfl))⟩
    simp [results, Tryd.f36, go_sem, hc5, hc6]
  case stop =>
    rintro D' cd pre W hD' hpre ⟨⟨a, b, ⟨kA, kB⟩, hend⟩, hB1⟩ hK
    rcases hend with ⟨rfl, rfl, x, rfl, hx⟩ | ⟨rfl, rfl, rfl, pr, x, rfl, hx, hno⟩
    · have hfin : RowKit.Hid (findT t k = ((x.1 : Int), true)) := Lib.hid (find_at HI.out HK.out x.2 hx)
      gi_wp2
      refine ⟨by simp, .inl ⟨_, _, rfl, run_takeDeferred hK, ?_⟩⟩
      have hc5 := cell_kept kA.cell (grownBy_putObj' _ D' (.deferred none)) (fun r e => by cases e; exact ⟨_, hK, rfl⟩)
      have hc6 := cell_kept kB.cell (grownBy_putObj' _ D' (.deferred none)) (fun r e => by cases e; exact ⟨_, hK, rfl⟩)
      refine ⟨.tuple #[.int .i64 (x.1 : Int), .bool true], ?_, NB.mk hfin.out (hB1.trans (belowK_b (w := w) (Nat.le_refl _) _ D' _ _ (by omega) hK rfl rfl))⟩
      simp [results, Tryd.f36, go_sem, hc5, hc6]
    · have hfin : RowKit.Hid (findT t k = (0, false)) := Lib.hid (by
        obtain ⟨j, hj, e⟩ := hpre
        obtain ⟨e1, e2⟩ := plc_last e
        have hfo := Hf.out
        refine find_empty HI.out HK.out (j := j) (by rw [hfo, ← e2]; exact hx) (fun i hi => ?_)
        obtain ⟨y, hy, ey⟩ := plc_get e1 hi
        rw [hfo, ← ey]; exact hno y hy)
      have cA := kA.cell
      have fA := kA.frozen
      have cB := kB.cell
      have fB := kB.frozen
      clear hno hpre
      gi_wp2
      have hK' := ((KeepsOthers.setCell W ⟨w.heap.size + 1, 0, none⟩ (.int .i64 0)).trans (KeepsOthers.setCell _ ⟨w.heap.size + 1 + 1, 0, none⟩ (.bool false))).same D' _ hK rfl
      refine ⟨by simp, .inl ⟨_, _, rfl, run_takeDeferred hK', ?_⟩⟩
      have hc5 := cell_kept ((kA.set (.int .i64 0)).other (B' := w.heap.size + 1 + 1) (by omega) (.bool false)).cell (grownBy_putObj' _ D' (.deferred none)) (fun r e => by cases e; exact ⟨_, hK', rfl⟩)
      have hc6 := cell_kept ((kB.other (B' := w.heap.size + 1) (by omega) (.int .i64 0)).set (.bool false)).cell (grownBy_putObj' _ D' (.deferred none)) (fun r e => by cases e; exact ⟨_, hK', rfl⟩)
      refine ⟨.tuple #[.int .i64 0, .bool false], ?_, NB.mk hfin.out (((hB1.setCell (p := ⟨w.heap.size + 1, 0, none⟩) (by simp) _).setCell (p := ⟨w.heap.size + 1 + 1, 0, none⟩) (by simp; omega) _).trans (belowK_b (w := w) (Nat.le_refl _) _ D' _ _ (by omega) hK' rfl rfl))⟩
      simp [results, Tryd.f36, go_sem, hc5, hc6]

set_option maxRecDepth 100000 in
set_option maxHeartbeats 4000000 in
theorem sought_2 (s : Option Addr) (N m c : Nat) (t S : List Rc) (k : Int) (w : World) (hT : Tab w) (hS : WS w s m c (flatW 2 t)) (hI : Is N t S) (hM : m = N * 2) (ht : Thin 2 t) (n1 : 1 ≤ N) (n2 : N ≤ 1024) (hk : k ≠ 0) (hku : U64 k) :
    Calls Tryd.prog 36 #[.slice s m c, .int .i64 2, .int .u64 k] w (NB (findT t k) w) := by
  have hfn : ∀ f, Fence.wide.fn f := fun _ => trivial
  have hsa := Oper.semAt_some
  have hdep : Fence.wide.depth = none := rfl
  have hm := hS.le
  have hdv : (m : Int).tdiv 2 = N := by rw [quo_2]; omega
  have hNb : N ≤ 1048576 := by omega
  have HM := Lib.hid hM
  clear hM
  have hf := slotN_lt (k := k) (n := N) (by omega)
  have hsi : slot k (N : Int) = ((slotN k N : Nat) : Int) := slot_is k N n1
  obtain ⟨f, hfe⟩ : ∃ f, slotN k N = f := ⟨_, rfl⟩
  have Hf := Lib.hid hfe
  rw [hfe] at hf hsi
  have HS := Lib.hid hS
  have HI := Lib.hid hI
  have HT := Lib.hid ht
  have HK := Lib.hid hk
  obtain ⟨w3, hw3⟩ : ∃ w3, ((w.alloc (.cells #[.int .u64 k] 24)).alloc (.cells #[.int .i64 0] 3)).alloc (.cells #[.bool false] 4) = w3 := ⟨_, rfl⟩
  have bK : Boxed w3 w.heap.size 24 (.int .u64 k) := by rw [← hw3]; exact ((Boxed.new w 24 (.int .u64 k)).alloc _).alloc _
  have bA : Boxed w3 (w.heap.size + 1) 3 (.int .i64 0) := by rw [← hw3]; have h := (Boxed.new (w.alloc (.cells #[.int .u64 k] 24)) 3 (.int .i64 0)).alloc (.cells #[.bool false] 4); simpa only [World.size_alloc] using h
  have bB : Boxed w3 (w.heap.size + 1 + 1) 4 (.bool false) := by rw [← hw3]; have h := Boxed.new ((w.alloc (.cells #[.int .u64 k] 24)).alloc (.cells #[.int .i64 0] 3)) 4 (.bool false); simpa only [World.size_alloc] using h
  have hE3 : Ext w w3 := by rw [← hw3]; exact (((Ext.refl w).alloc _).alloc _).alloc _
  have hz3 : w3.heap.size = w.heap.size + 3 := by rw [← hw3]; simp
  have hT3 : Tab w3.drew := hT.ext (hE3.drew)
  have HSl : RowKit.Hid (Calls Tryd.prog 50 #[.int .u64 k, .int .i64 N] w3.drew fun e w' => e = .returned (.int .i64 (f : Int)) ∧ Ext w3 w') := Lib.hid ((slot_any k N w3.drew hT3 hku.1 hku.2 (by omega) (by omega)).mono fun _ _ h => ⟨by rw [h.1, hsi], (Ext.drew (Ext.refl w3)).trans h.2.ext⟩)
  clear hS hI ht hk hfe hsi hT3 hT
  refine (callsIn_wide (n := 9)).1 ?_
  refine callsIn_of_wp_marks Tryd.func36 rfl trivial ?_ rfl
  simp only [Tryd.ntmps36, List.size_toArray, List.length_cons, List.length_nil, Nat.reduceAdd, Nat.reduceSub, Array.replicate_succ, Array.replicate_zero, List.push_toArray, List.append_toArray, List.nil_append, List.cons_append]
  gi_wp2
  clear hw3
  have g0 := bK.cell
  have hwN : IntKind.i64.wrap (N : Int) = N := IntWalk.i64_in _ (by omega)
  have hwN2 : RowKit.wrap64 (N : Int) = N := by rw [← hwN]; first | rfl | (unfold RowKit.wrap64; omega)
  refine wpIn_wide.2 ?_
  go_region_held3 (fun w' => (w'.cell? ⟨w.heap.size, 0, none⟩ = some (.int .u64 k)))
    (first
      | exact Ext.cell (Ext.alloc (Ext.alloc (Ext.alloc x1 _) _) _) g0
      | exact Ext.cell x1 g0
      | exact g0
      | go_keep)
    (first
      | (go_at_call 50; with_reducible refine HSl.out.mono ?_; rintro e w1 ⟨rfl, x1⟩)
      | (go_at_call 44; with_reducible refine (round_any s m c 2 f w1).mono ?_; rintro e w' ⟨rfl, rfl⟩))
  rename_i hh
  clear hh g0 HSl hwN hwN2
  gi_wp2
  obtain ⟨D, hD⟩ : ∃ D, w1.heap.size = D := ⟨_, rfl⟩
  obtain ⟨W0, hW0⟩ : ∃ W0, ((w1.alloc (.cells #[.slice s m c] 23)).alloc (.cells #[.int .i64 2] 3)).alloc (.cells #[.int .i64 (f : Int)] 3) = W0 := ⟨_, rfl⟩
  have b0 : Boxed W0 D 23 (.slice s m c) := by rw [← hW0, ← hD]; exact ((Boxed.new w1 23 (.slice s m c)).alloc _).alloc _
  have b1 : Boxed W0 (D + 1) 3 (.int .i64 2) := by rw [← hW0, ← hD]; have h := (Boxed.new (w1.alloc (.cells #[.slice s m c] 23)) 3 (.int .i64 2)).alloc (.cells #[.int .i64 (f : Int)] 3); simpa only [World.size_alloc] using h
  have b2 : Boxed W0 (D + 1 + 1) 3 (.int .i64 (f : Int)) := by rw [← hW0, ← hD]; have h := Boxed.new ((w1.alloc (.cells #[.slice s m c] 23)).alloc (.cells #[.int .i64 2] 3)) 3 (.int .i64 (f : Int)); simpa only [World.size_alloc] using h
  have hE30 : Ext w3 W0 := by rw [← hW0]; exact ((x1.alloc _).alloc _).alloc _
  have hE0 : Ext w W0 := hE3.trans hE30
  have bK0 : Boxed W0 w.heap.size 24 (.int .u64 k) := (hE30.block _ bK.lt).trans bK
  have bA0 : Boxed W0 (w.heap.size + 1) 3 (.int .i64 0) := (hE30.block _ bA.lt).trans bA
  have bB0 : Boxed W0 (w.heap.size + 1 + 1) 4 (.bool false) := (hE30.block _ bB.lt).trans bB
  have hD3 : w.heap.size + 3 ≤ D := by have := x1.size; omega
  have hsz : W0.heap.size = D + 3 := by rw [← hW0, ← hD]; simp
  rw [hW0, hD]
  clear hW0 hD x1 bK bA bB
  refine wpIn_rangeFunc_ownH rfl (by omega) (gf := 56) (lb := #[.pointer (some ⟨D, 0, none⟩), .pointer (some ⟨D + 1, 0, none⟩), .pointer (some ⟨D + 1 + 1, 0, none⟩)]) rfl trivial (enters_of Tryd.func56 (by kernel_rfl) rfl)
    (round_stops _ s N m c 2 f D (D + 1) (D + 1 + 1) t w W0 (by unfold Wd; omega) HS.out HI.out.len HT.out hf hE0 b0 b1 b2) Keeps.trans (Keeps.put (w := W0) (by omega)) (Below.refl _ _) (fun _ => rfl)
    (fun pre W => (((∀ y ∈ pre, (at' t y.1).1 ≠ k) ∧ Boxed W w.heap.size 24 (.int .u64 k)) ∧ ((Boxed W (w.heap.size + 1) 3 (.int .i64 0) ∧ Boxed W (w.heap.size + 1 + 1) 4 (.bool false)) ∧ Boxed W (D + 1 + 1) 3 (.int .i64 (f : Int)))) ∧ Below w.heap.size w W)
    (fun cd pre W => (∃ a b, (Boxed W (w.heap.size + 1) 3 (.int .i64 a) ∧ Boxed W (w.heap.size + 1 + 1) 4 (.bool b)) ∧ Ended t k cd pre a b) ∧ Below w.heap.size w W)
    (OwnFrom.and (OwnFrom.and (OwnFrom.and (ownFrom_pure _ _) (Own.from (boxed_own _ _ _) _)) (OwnFrom.and (OwnFrom.and (Own.from (boxed_own _ _ _) _) (Own.from (boxed_own _ _ _) _)) (Own.from (boxed_own _ _ _) _))) (ownFrom_below (Nat.le_refl _) (by omega)))
    (fun cd => OwnFrom.and (ended_own w.heap.size _ t k cd) (ownFrom_below (Nat.le_refl _) (by omega)))
    ⟨⟨⟨by simp, bK0⟩, ⟨bA0, bB0⟩, b2⟩, hE0⟩
    (fun x a' W => ∃ Bx, D + 1 + 1 < Bx ∧ W.heap[Bx]? = some (Rec2 (at' t x.1).1 (at' t x.1).2) ∧ a' = { tmps := #[.slice s m c, .int .i64 2, .int .u64 k, undef, undef, .pointer (some ⟨w.heap.size, 0, none⟩), .pointer (some ⟨w.heap.size + 1, 0, none⟩), .pointer (some ⟨w.heap.size + 1 + 1, 0, none⟩), .int .i64 x.1, .pointer (some ⟨Bx, 0, none⟩), .slice s m c, .int .i64 2, .int .u64 k, .slice s m c, .int .i64 m, .int .i64 2, .int .i64 N, .int .i64 f,
      .func (.func 56) #[] #[.pointer (some ⟨D, 0, none⟩), .pointer (some ⟨D + 1, 0, none⟩), .pointer (some ⟨D + 1 + 1, 0, none⟩)], .int .i64 x.1, .agg #[.int .u64 (at' t x.1).1, .int .u64 (at' t x.1).2], undef, undef, undef, undef, undef, undef, undef], defers := [] })
    (fun x a' _ X Y row hs hg hr => by obtain ⟨Bx, h1, h2, h3⟩ := hs; exact ⟨Bx, h1, boxed_obj Bx _ rfl () X Y row h2 hg (fun r e => (hr r e).2), h3⟩)
    ?assign ?body ?done ?stop
  case assign =>
    rintro l pre x W K ⟨⟨⟨hp, kK⟩, ⟨kA, kB⟩, kF⟩, hB1⟩ hK
    have hle : w.heap.size ≤ W.heap.size := hB1.size
    unfold encs
    gi_wp2
    exact hK _ _ ((KeepsOthers.alloc _ _).from _) (Keeps.alloc hle _) ⟨⟨⟨hp, kK.alloc _⟩, ⟨kA.alloc _, kB.alloc _⟩, kF.alloc _⟩, hB1.alloc hB1.size _⟩ ⟨W.heap.size, kF.lt, World.alloc_heap_new W _, rfl⟩
  case body =>
    rintro l pre x a' W hl ⟨r, hr⟩ ⟨⟨⟨hp, kK⟩, ⟨kA, kB⟩, kF⟩, hB1⟩ ⟨Bx, hBx, bX, rfl⟩ hlt
    obtain ⟨p, q, hpq⟩ : ∃ p q, at' t x.1 = (p, q) := ⟨_, _, rfl⟩
    have Hpq := Lib.hid hpq
    rw [hpq] at bX ⊢
    dsimp only at bX ⊢
    obtain ⟨c0, c1⟩ := rec2_cells bX
    have hfd : (Fence.wide.inRound l).depth = none := rfl
    have hff : ∀ f, (Fence.wide.inRound l).fn f := fun _ => trivial
    have hle := hB1.size
    have cK := kK.cell
    have cA := kA.cell
    have fA := kA.frozen
    have cB := kB.cell
    have fB := kB.frozen
    have Hp := Lib.hid hp
    clear hp hpq
    by_cases hpk : p = k
    · subst hpk
      gi_wp2
      exact ⟨((KeepsOthers.setCell _ _ _).trans (KeepsOthers.setCell _ _ _)).from _, ⟨_, _, ⟨(kA.set _).other (by omega) _, (kB.other (by omega) _).set _⟩, .inl ⟨rfl, rfl, x, rfl, by rw [Hpq.out]⟩⟩,
        (hB1.setCell (p := ⟨w.heap.size + 1, 0, none⟩) (by simp) _).setCell (p := ⟨w.heap.size + 1 + 1, 0, none⟩) (by simp; omega) _⟩
    · have hpb : (p == k) = false := by simpa using hpk
      have HN : RowKit.Hid (∀ y ∈ pre ++ [x], (at' t y.1).1 ≠ k) := Lib.hid (fun y hy => (List.mem_append.1 hy).elim (Hp.out y) (fun e => by simp at e; subst e; rw [Hpq.out]; exact hpk))
      clear hpk
      by_cases h0 : p = 0 ∧ q = 0
      · obtain ⟨rfl, rfl⟩ := h0
        gi_wp2_with (gi_at_call 45; refine (CallsIn.inRound l (callsIn_wide.2 (empty_any _ _ _))).mono ?_; rintro e w' ⟨rfl, rfl⟩)
        exact ⟨(KeepsOthers.alloc _ _).from _, ⟨_, _, ⟨kA.alloc _, kB.alloc _⟩, .inr ⟨rfl, rfl, rfl, pre, x, rfl, Hpq.out, Hp.out⟩⟩, hB1.alloc hB1.size _⟩
      · have hb : ((p == 0) && (q == 0)) = false := by
          rw [Bool.and_eq_false_iff]
          by_cases e : p = 0
          · exact .inr (by simpa using fun e2 => h0 ⟨e, e2⟩)
          · exact .inl (by simpa using e)
        have hE2 := fun W => empty_any p q W
        rw [hb] at hE2
        have HE2 := Lib.hid hE2
        clear h0 hE2 hb
        gi_wp2_with (gi_at_call 45; refine (CallsIn.inRound l (callsIn_wide.2 (HE2.out _))).mono ?_; rintro e w' ⟨rfl, rfl⟩)
        exact ⟨(KeepsOthers.alloc _ _).from _, Keeps.alloc hle _, ⟨⟨HN.out, kK.alloc _⟩, ⟨kA.alloc _, kB.alloc _⟩, kF.alloc _⟩, hB1.alloc hB1.size _⟩
  case done =>
    rintro D' ys W hD' hxs ⟨⟨⟨hp, kK⟩, ⟨kA, kB⟩, kF⟩, hB1⟩ hK
    have hfin : RowKit.Hid (findT t k = (0, false)) := Lib.hid (find_never HI.out hf (fun i hi => by
      obtain ⟨x, hx, e⟩ := plc_get hxs hi
      rw [← e]; exact hp x hx))
    have cA := kA.cell
    have fA := kA.frozen
    have cB := kB.cell
    have fB := kB.frozen
    clear hp
    gi_wp2
    have hK' := ((KeepsOthers.setCell W ⟨w.heap.size + 1, 0, none⟩ (.int .i64 0)).trans (KeepsOthers.setCell _ ⟨w.heap.size + 1 + 1, 0, none⟩ (.bool false))).same D' _ hK rfl
    refine ⟨by simp, .inl ⟨_, _, rfl, run_takeDeferred hK', ?_⟩⟩
    have hc5 := cell_kept ((kA.set (.int .i64 0)).other (B' := w.heap.size + 1 + 1) (by omega) (.bool false)).cell (grownBy_putObj' _ D' (.deferred none)) (fun r e => by cases e; exact ⟨_, hK', rfl⟩)
    have hc6 := cell_kept ((kB.other (B' := w.heap.size + 1) (by omega) (.int .i64 0)).set (.bool false)).cell (grownBy_putObj' _ D' (.deferred none)) (fun r e => by cases e; exact ⟨_, hK', rfl⟩)
    refine ⟨.tuple #[.int .i64 0, .bool false], ?_, NB.mk hfin.out (((hB1.setCell (p := ⟨w.heap.size + 1, 0, none⟩) (by simp) _).setCell (p := ⟨w.heap.size + 1 + 1, 0, none⟩) (by simp; omega) _).trans (belowK_b (w := w) (Nat.le_refl _) _ D' _ _ (by omega) hK' rfl rfl))⟩
    simp [results, Tryd.f36, go_sem, hc5, hc6]
  case stop =>
    rintro D' cd pre W hD' hpre ⟨⟨a, b, ⟨kA, kB⟩, hend⟩, hB1⟩ hK
    rcases hend with ⟨rfl, rfl, x, rfl, hx⟩ | ⟨rfl, rfl, rfl, pr, x, rfl, hx, hno⟩
    · have hfin : RowKit.Hid (findT t k = ((x.1 : Int), true)) := Lib.hid (find_at HI.out HK.out x.2 hx)
      gi_wp2
      refine ⟨by simp, .inl ⟨_, _, rfl, run_takeDeferred hK, ?_⟩⟩
      have hc5 := cell_kept kA.cell (grownBy_putObj' _ D' (.deferred none)) (fun r e => by cases e; exact ⟨_, hK, rfl⟩)
      have hc6 := cell_kept kB.cell (grownBy_putObj' _ D' (.deferred none)) (fun r e => by cases e; exact ⟨_, hK, rfl⟩)
      refine ⟨.tuple #[.int .i64 (x.1 : Int), .bool true], ?_, NB.mk hfin.out (hB1.trans (belowK_b (w := w) (Nat.le_refl _) _ D' _ _ (by omega) hK rfl rfl))⟩
      simp [results, Tryd.f36, go_sem, hc5, hc6]
    · have hfin : RowKit.Hid (findT t k = (0, false)) := Lib.hid (by
        obtain ⟨j, hj, e⟩ := hpre
        obtain ⟨e1, e2⟩ := plc_last e
        have hfo := Hf.out
        refine find_empty HI.out HK.out (j := j) (by rw [hfo, ← e2]; exact hx) (fun i hi => ?_)
        obtain ⟨y, hy, ey⟩ := plc_get e1 hi
        rw [hfo, ← ey]; exact hno y hy)
      have cA := kA.cell
      have fA := kA.frozen
      have cB := kB.cell
      have fB := kB.frozen
      clear hno hpre
      gi_wp2
      have hK' := ((KeepsOthers.setCell W ⟨w.heap.size + 1, 0, none⟩ (.int .i64 0)).trans (KeepsOthers.setCell _ ⟨w.heap.size + 1 + 1, 0, none⟩ (.bool false))).same D' _ hK rfl
      refine ⟨by simp, .inl ⟨_, _, rfl, run_takeDeferred hK', ?_⟩⟩
      have hc5 := cell_kept ((kA.set (.int .i64 0)).other (B' := w.heap.size + 1 + 1) (by omega) (.bool false)).cell (grownBy_putObj' _ D' (.deferred none)) (fun r e => by cases e; exact ⟨_, hK', rfl⟩)
      have hc6 := cell_kept ((kB.other (B' := w.heap.size + 1) (by omega) (.int .i64 0)).set (.bool false)).cell (grownBy_putObj' _ D' (.deferred none)) (fun r e => by cases e; exact ⟨_, hK', rfl⟩)
      refine ⟨.tuple #[.int .i64 0, .bool false], ?_, NB.mk hfin.out (((hB1.setCell (p := ⟨w.heap.size + 1, 0, none⟩) (by simp) _).setCell (p := ⟨w.heap.size + 1 + 1, 0, none⟩) (by simp; omega) _).trans (belowK_b (w := w) (Nat.le_refl _) _ D' _ _ (by omega) hK' rfl rfl))⟩
      simp [results, Tryd.f36, go_sem, hc5, hc6]

theorem sought_any (s : Option Addr) (N m c v : Nat) (t S : List Rc) (k : Int) (w : World) (hT : Tab w) (hv : Wd v) (hS : WS w s m c (flatW v t)) (hI : Is N t S) (ht : Thin v t) (n1 : 1 ≤ N) (n2 : N ≤ 1024) (hk : k ≠ 0) (hku : U64 k) :
    Calls Tryd.prog 36 #[.slice s m c, .int .i64 v, .int .u64 k] w (NB (findT t k) w) := by
  have hm := hS.len
  rw [flatW_len hv, hI.len] at hm
  rcases hv with rfl | rfl
  · obtain rfl : N = m := by omega
    exact sought_1 s N c t S k w hT hS hI ht n1 n2 hk hku
  · exact sought_2 s N m c t S k w hT hS hI hm.symm ht n1 n2 hk hku

end Go.Proofs.YtbpgnnogpcppdaaDoor
