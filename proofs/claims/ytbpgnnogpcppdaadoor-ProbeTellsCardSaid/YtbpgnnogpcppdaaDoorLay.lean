/-
  What lay does: it writes a record into the first empty slot from its own one on. Conditions: the words are there, in a block of their own; the package's table lies.
-/
import Derived.Test.YtbpgnnogpcppdaaDoorSought
import Derived.Test.YtbpgnnogpcppdaaDoorBridge
namespace Go.Proofs.YtbpgnnogpcppdaaDoor
open Go.RowKit Go.Shelf

theorem grown_then {w W W' : World} {g : Nat} {row : Option Nat} (h : w.grownBy W (some g)) (h2 : W.grownBy W' row) (hr : ∀ k, row = some k → w.heap.size ≤ k ∨ k = g) : w.grownBy W' (some g) :=
  ⟨h2.os.trans h.os, h2.tape.trans h.tape, h2.output.trans h.output, Nat.le_trans h.size h2.size, fun k hk hne => by
    rw [h2.block k (Nat.lt_of_lt_of_le hk h.size) (fun e => ?_), h.block k hk hne]
    rcases hr k e.symm with h3 | h3
    · omega
    · exact hne (by rw [h3])⟩
theorem below_grown {w W : World} (g : Nat) (h : Below w.heap.size w W) : w.grownBy W (some g) := ⟨h.os, h.tape, h.output, h.size, fun k hk _ => h.block k hk⟩
theorem grown_set {w : World} (g i : Nat) (v : Value) : w.grownBy (w.setCell ⟨g, i, none⟩ v) (some g) := by
  refine ⟨rfl, rfl, rfl, by simp [World.setCell], fun k hk hne => ?_⟩
  have : g ≠ k := fun e => hne (by rw [e])
  simp [World.setCell, Array.getElem?_modify, this]
theorem rowW_own {β : Type} (g Bs : Nat) (f : β → List Int) : OwnFrom Bs (fun (s : β) W => RowW W g (f s)) := fun s X Y row hs hg hr j x hx => by
  obtain ⟨h1, h2, h3⟩ := hs j x hx
  exact ⟨h1, cell_kept h2 hg (fun r e => (hr r e).2), (frozen_kept h2 hg (fun r e => (hr r e).2)).trans h3⟩
/-- A record was written into the first empty slot. -/
def Laid (g v : Nat) (w : World) (t : List Rc) (r : Rc) {n : Nat} (cd : Code) (pre : List (At n)) (W : World) : Prop :=
  cd = .ret ∧ ∃ (pr : List (At n)) (x : At n), pre = pr ++ [x] ∧ at' t x.1 = (0, 0) ∧ (∀ y ∈ pr, at' t y.1 ≠ (0, 0)) ∧ RowW W g (flatW v (t.set x.1 r)) ∧ w.grownBy W (some g)
theorem laid_own {n : Nat} (g v : Nat) (w : World) (Bs : Nat) (hB : w.heap.size ≤ Bs) (t : List Rc) (r : Rc) (cd : Code) : OwnFrom Bs (fun (pre : List (At n)) W => Laid g v w t r cd pre W) := by
  rintro s X Y row ⟨h0, pr, x, h1, h2, h3, h4, h5⟩ hg hr
  exact ⟨h0, pr, x, h1, h2, h3, rowW_own (β := Unit) g Bs (fun _ => flatW v (t.set x.1 r)) () X Y row h4 hg hr, grown_then h5 hg (fun k e => .inl (Nat.le_trans hB (hr k e).1))⟩
theorem cell_far {w : World} {b g i o : Nat} {v : Value} (h : g ≠ b) : (w.setCell ⟨g, i, none⟩ v).cell? ⟨b, o, none⟩ = w.cell? ⟨b, o, none⟩ :=
  World.cell?_setCell_other _ _ _ _ (fun e => by have := congrArg Addr.block e; simp at this; exact h (by first | exact this | exact this.symm))
theorem copy_in1 {w : World} {g B P C1 : Nat} {xs : List Int} {p : Int} (hR : RowW w g xs) (hP : P < xs.length) (h0 : w.cell? ⟨B, 0, none⟩ = some (.int .u64 p)) :
    (Builtin.copy_ #[23, 23] 3 #[.slice (some ⟨g, P, none⟩) 1 C1, .slice (some ⟨B, 0, none⟩) 2 2]).run Tryd.prog w = .ok (.int .i64 1) (w.setCell ⟨g, P, none⟩ (.int .u64 p)) := by
  obtain ⟨z, hz, hf⟩ := hR.get hP
  exact run_copy_cells (P := Tryd.prog) w 23 23 3 24 g P 1 C1 ⟨B, 0, none⟩ 2 2 [.int .u64 p] Tryd.underlying23 size24 rfl
    (fun j v hv => by
      match j, hv with
      | 0, hv => simp at hv; subst hv; rw [add_is]; exact h0
      | j + 1, hv => simp at hv)
    (fun j hj => by simp at hj; subst hj; rw [Nat.add_zero, hz]; rfl) (fun j hj => by simp at hj; subst hj; rw [Nat.add_zero]; exact hf) (by intro v hv; simp at hv; subst hv; rfl)
theorem copy_in2 {w : World} {g B P C1 : Nat} {xs : List Int} {p q : Int} (hR : RowW w g xs) (hP : P + 1 < xs.length) (h0 : w.cell? ⟨B, 0, none⟩ = some (.int .u64 p)) (h1 : w.cell? ⟨B, 1, none⟩ = some (.int .u64 q)) :
    (Builtin.copy_ #[23, 23] 3 #[.slice (some ⟨g, P, none⟩) 2 C1, .slice (some ⟨B, 0, none⟩) 2 2]).run Tryd.prog w = .ok (.int .i64 2) ((w.setCell ⟨g, P, none⟩ (.int .u64 p)).setCell ⟨g, P + 1, none⟩ (.int .u64 q)) := by
  obtain ⟨z, hz, hf⟩ := hR.get (i := P) (by omega)
  obtain ⟨y, hy, hg⟩ := hR.get hP
  exact run_copy_cells (P := Tryd.prog) w 23 23 3 24 g P 2 C1 ⟨B, 0, none⟩ 2 2 [.int .u64 p, .int .u64 q] Tryd.underlying23 size24 rfl
    (fun j v hv => by
      match j, hv with
      | 0, hv => simp at hv; subst hv; rw [add_is]; exact h0
      | 1, hv => simp at hv; subst hv; rw [add_is]; exact h1
      | j + 2, hv => simp at hv)
    (fun j hj => by
      match j, hj with
      | 0, _ => rw [Nat.add_zero, hz]; rfl
      | 1, _ => rw [hy]; rfl
      | j + 2, hj => exact absurd (show j + 2 < 2 from hj) (by omega))
    (fun j hj => by
      match j, hj with
      | 0, _ => rw [Nat.add_zero]; exact hf
      | 1, _ => exact hg
      | j + 2, hj => exact absurd (show j + 2 < 2 from hj) (by omega)) (by intro v hv; simp at hv; rcases hv with rfl | rfl <;> rfl)

set_option maxRecDepth 100000 in
set_option maxHeartbeats 4000000 in
theorem lay_1 (g N : Nat) (t : List Rc) (p q : Int) (w : World) (hT : Tab w) (hR : RowW w g (flatW 1 t)) (hN : t.length = N) (ht : Thin 1 t) (n1 : 1 ≤ N) (n2 : N ≤ 1024) (hr : Ur (p, q)) :
    Calls Tryd.prog 43 #[.slice (some ⟨g, 0, none⟩) N N, .int .i64 1, .agg #[.int .u64 p, .int .u64 q]] w fun e w' => e = .returned (.tuple #[]) ∧ RowW w' g (flatW 1 (layS t (p, q))) ∧ w.grownBy w' (some g) := by
  have hfn : ∀ f, Fence.wide.fn f := fun _ => trivial
  have hsa := Oper.semAt_some
  have hdep : Fence.wide.depth = none := rfl
  have hS : WS w (some ⟨g, 0, none⟩) N N (flatW 1 t) := hR.ws (by rw [flatW_len (by unfold Wd; omega), hN]; omega) (by omega) (Nat.le_refl _) (by omega)
  have hf := slotN_lt (k := p) (n := N) (by omega)
  have hsi : slot p (N : Int) = ((slotN p N : Nat) : Int) := slot_is p N n1
  obtain ⟨f, hfe⟩ : ∃ f, slotN p N = f := ⟨_, rfl⟩
  have Hf := Lib.hid hfe
  rw [hfe] at hf hsi
  have HS := Lib.hid hS
  have HR := Lib.hid hR
  have HN := Lib.hid hN
  have HT := Lib.hid ht
  obtain ⟨w3, hw3⟩ : ∃ w3, ((w.alloc (.cells #[.slice (some ⟨g, 0, none⟩) N N] 23)).alloc (.cells #[.int .i64 1] 3)).alloc (Rec2 p q) = w3 := ⟨_, rfl⟩
  have bS : Boxed w3 w.heap.size 23 (.slice (some ⟨g, 0, none⟩) N N) := by rw [← hw3]; exact ((Boxed.new w 23 _).alloc _).alloc _
  have bV : Boxed w3 (w.heap.size + 1) 3 (.int .i64 1) := by rw [← hw3]; have h := (Boxed.new (w.alloc (.cells #[.slice (some ⟨g, 0, none⟩) N N] 23)) 3 (.int .i64 1)).alloc (Rec2 p q); simpa only [World.size_alloc] using h
  have bR : w3.heap[w.heap.size + 1 + 1]? = some (Rec2 p q) := by rw [← hw3]; have h := World.alloc_heap_new ((w.alloc (.cells #[.slice (some ⟨g, 0, none⟩) N N] 23)).alloc (.cells #[.int .i64 1] 3)) (Rec2 p q); simpa only [World.size_alloc] using h
  have hE3 : Ext w w3 := by rw [← hw3]; exact (((Ext.refl w).alloc _).alloc _).alloc _
  have hz3 : w3.heap.size = w.heap.size + 3 := by rw [← hw3]; simp
  have hT3 : Tab w3.drew := hT.ext (hE3.drew)
  have HSl : RowKit.Hid (Calls Tryd.prog 50 #[.int .u64 p, .int .i64 N] w3.drew fun e w' => e = .returned (.int .i64 (f : Int)) ∧ Ext w3 w') := Lib.hid ((slot_any p N w3.drew hT3 hr.1.1 hr.1.2 (by omega) (by omega)).mono fun _ _ h => ⟨by rw [h.1, hsi], (Ext.drew (Ext.refl w3)).trans h.2.ext⟩)
  clear hS hR ht hN hfe hsi hT3 hT
  refine (callsIn_wide (n := 9)).1 ?_
  refine callsIn_of_wp_marks Tryd.func43 rfl trivial ?_ rfl
  simp only [Tryd.ntmps43, List.size_toArray, List.length_cons, List.length_nil, Nat.reduceAdd, Nat.reduceSub, Array.replicate_succ, Array.replicate_zero, List.push_toArray, List.append_toArray, List.nil_append, List.cons_append]
  gi_wp2
  clear hw3
  have g0 := bS.cell
  have g1 := bV.cell
  have g2 := (rec2_cells bR).1
  have hwN : IntKind.i64.wrap (N : Int) = N := IntWalk.i64_in _ (by omega)
  have hwN2 : RowKit.wrap64 (N : Int) = N := by rw [← hwN]; first | rfl | (unfold RowKit.wrap64; omega)
  refine wpIn_wide.2 ?_
  go_region_held3 (fun w' => (w'.cell? ⟨w.heap.size, 0, none⟩ = some (.slice (some ⟨g, 0, none⟩) N N) ∧ w'.cell? ⟨w.heap.size + 1, 0, none⟩ = some (.int .i64 1) ∧ w'.cell? ⟨w.heap.size + 1 + 1, 0, none⟩ = some (.int .u64 p)))
    (first
      | exact ⟨Ext.cell (Ext.alloc (Ext.alloc (Ext.alloc x1 _) _) _) g0, Ext.cell (Ext.alloc (Ext.alloc (Ext.alloc x1 _) _) _) g1, Ext.cell (Ext.alloc (Ext.alloc (Ext.alloc x1 _) _) _) g2⟩
      | exact ⟨Ext.cell x1 g0, Ext.cell x1 g1, Ext.cell x1 g2⟩
      | exact ⟨g0, g1, g2⟩
      | go_keep)
    (first
      | (go_at_call 50; with_reducible refine HSl.out.mono ?_; rintro e w1 ⟨rfl, x1⟩)
      | (go_at_call 44; with_reducible refine (round_any (some ⟨g, 0, none⟩) N N 1 f w1).mono ?_; rintro e w' ⟨rfl, rfl⟩))
  rename_i hh
  clear hh g0 g1 g2 HSl hwN hwN2
  gi_wp2
  obtain ⟨D, hD⟩ : ∃ D, w1.heap.size = D := ⟨_, rfl⟩
  obtain ⟨W0, hW0⟩ : ∃ W0, ((w1.alloc (.cells #[.slice (some ⟨g, 0, none⟩) N N] 23)).alloc (.cells #[.int .i64 1] 3)).alloc (.cells #[.int .i64 (f : Int)] 3) = W0 := ⟨_, rfl⟩
  have b0 : Boxed W0 D 23 (.slice (some ⟨g, 0, none⟩) N N) := by rw [← hW0, ← hD]; exact ((Boxed.new w1 23 _).alloc _).alloc _
  have b1 : Boxed W0 (D + 1) 3 (.int .i64 1) := by rw [← hW0, ← hD]; have h := (Boxed.new (w1.alloc (.cells #[.slice (some ⟨g, 0, none⟩) N N] 23)) 3 (.int .i64 1)).alloc (.cells #[.int .i64 (f : Int)] 3); simpa only [World.size_alloc] using h
  have b2 : Boxed W0 (D + 1 + 1) 3 (.int .i64 (f : Int)) := by rw [← hW0, ← hD]; have h := Boxed.new ((w1.alloc (.cells #[.slice (some ⟨g, 0, none⟩) N N] 23)).alloc (.cells #[.int .i64 1] 3)) 3 (.int .i64 (f : Int)); simpa only [World.size_alloc] using h
  have hE30 : Ext w3 W0 := by rw [← hW0]; exact ((x1.alloc _).alloc _).alloc _
  have hE0 : Ext w W0 := hE3.trans hE30
  have bS0 : Boxed W0 w.heap.size 23 (.slice (some ⟨g, 0, none⟩) N N) := (hE30.block _ bS.lt).trans bS
  have bV0 : Boxed W0 (w.heap.size + 1) 3 (.int .i64 1) := (hE30.block _ bV.lt).trans bV
  have bR0 : W0.heap[w.heap.size + 1 + 1]? = some (Rec2 p q) := (hE30.block _ (Array.getElem?_eq_some_iff.1 bR).1).trans bR
  have hD3 : w.heap.size + 3 ≤ D := by have := x1.size; omega
  have hsz : W0.heap.size = D + 3 := by rw [← hW0, ← hD]; simp
  rw [hW0, hD]
  clear hW0 hD x1 bS bV bR
  refine wpIn_rangeFunc_ownH rfl (by omega) (gf := 56) (lb := #[.pointer (some ⟨D, 0, none⟩), .pointer (some ⟨D + 1, 0, none⟩), .pointer (some ⟨D + 1 + 1, 0, none⟩)]) rfl trivial (enters_of Tryd.func56 (by kernel_rfl) rfl)
    (round_stops _ (some ⟨g, 0, none⟩) N N N 1 f D (D + 1) (D + 1 + 1) t w W0 (by unfold Wd; omega) HS.out HN.out HT.out hf hE0 b0 b1 b2) Keeps.trans (Keeps.put (w := W0) (by omega)) (Below.refl _ _) (fun _ => rfl)
    (fun pre W => (((∀ y ∈ pre, at' t y.1 ≠ (0, 0)) ∧ Boxed W w.heap.size 23 (.slice (some ⟨g, 0, none⟩) N N)) ∧ ((Boxed W (w.heap.size + 1) 3 (.int .i64 1) ∧ W.heap[w.heap.size + 1 + 1]? = some (Rec2 p q)) ∧ Boxed W (D + 1 + 1) 3 (.int .i64 (f : Int)))) ∧ Below w.heap.size w W)
    (fun cd pre W => Laid g 1 w t (p, q) cd pre W)
    (OwnFrom.and (OwnFrom.and (OwnFrom.and (ownFrom_pure _ _) (Own.from (boxed_own _ _ _) _)) (OwnFrom.and (OwnFrom.and (Own.from (boxed_own _ _ _) _) (Own.from (boxed_obj _ _ rfl) _)) (Own.from (boxed_own _ _ _) _))) (ownFrom_below (Nat.le_refl _) (by omega)))
    (fun cd => laid_own g 1 w _ (by omega) t (p, q) cd)
    ⟨⟨⟨by simp, bS0⟩, ⟨bV0, bR0⟩, b2⟩, hE0⟩
    (fun x a' W => ∃ Bx, D + 1 + 1 < Bx ∧ W.heap[Bx]? = some (Rec2 (at' t x.1).1 (at' t x.1).2) ∧ a' = { tmps := #[.slice (some ⟨g, 0, none⟩) N N, .int .i64 1, .agg #[.int .u64 p, .int .u64 q], .pointer (some ⟨w.heap.size, 0, none⟩), .pointer (some ⟨w.heap.size + 1, 0, none⟩), .pointer (some ⟨w.heap.size + 1 + 1, 0, none⟩), .int .i64 x.1, .pointer (some ⟨Bx, 0, none⟩), .slice (some ⟨g, 0, none⟩) N N, .int .i64 1, .pointer (some ⟨w.heap.size + 1 + 1, 0, none⟩), .int .u64 p, .slice (some ⟨g, 0, none⟩) N N, .int .i64 N, .int .i64 1, .int .i64 N, .int .i64 f,
      .func (.func 56) #[] #[.pointer (some ⟨D, 0, none⟩), .pointer (some ⟨D + 1, 0, none⟩), .pointer (some ⟨D + 1 + 1, 0, none⟩)], .int .i64 x.1, .agg #[.int .u64 (at' t x.1).1, .int .u64 (at' t x.1).2], undef, undef, undef, undef, undef, undef, undef, undef, undef, undef, undef], defers := [] })
    (fun x a' _ X Y row hs hg hr => by obtain ⟨Bx, h1, h2, h3⟩ := hs; exact ⟨Bx, h1, boxed_obj Bx _ rfl () X Y row h2 hg (fun r e => (hr r e).2), h3⟩)
    ?assign ?body ?done ?stop
  case assign =>
    rintro l pre x W K ⟨⟨⟨hp, kS⟩, ⟨kV, kR⟩, kF⟩, hB1⟩ hK
    have hle : w.heap.size ≤ W.heap.size := hB1.size
    have kR2 := (Below.heap_alloc W (Rec2 (at' t x.1).1 (at' t x.1).2) _ (Array.getElem?_eq_some_iff.1 kR).1).trans kR
    unfold encs
    gi_wp2
    exact hK _ _ ((KeepsOthers.alloc _ _).from _) (Keeps.alloc hle _) ⟨⟨⟨hp, kS.alloc _⟩, ⟨kV.alloc _, kR2⟩, kF.alloc _⟩, hB1.alloc hB1.size _⟩ ⟨W.heap.size, kF.lt, World.alloc_heap_new W _, rfl⟩
  case body =>
    rintro l pre x a' W hl ⟨r, hrr⟩ ⟨⟨⟨hp, kS⟩, ⟨kV, kR⟩, kF⟩, hB1⟩ ⟨Bx, hBx, bX, rfl⟩ hlt
    obtain ⟨pp, qq, hpq⟩ : ∃ pp qq, at' t x.1 = (pp, qq) := ⟨_, _, rfl⟩
    have Hpq := Lib.hid hpq
    rw [hpq] at bX ⊢
    dsimp only at bX ⊢
    obtain ⟨c0, c1⟩ := rec2_cells bX
    have hfd : (Fence.wide.inRound l).depth = none := rfl
    have hff : ∀ f, (Fence.wide.inRound l).fn f := fun _ => trivial
    have hle := hB1.size
    have Hp := Lib.hid hp
    clear hp hpq
    by_cases h0 : pp = 0 ∧ qq = 0
    · obtain ⟨rfl, rfl⟩ := h0
      have hx2 := x.2
      obtain ⟨P, hPx⟩ : ∃ P, x.1 = P := ⟨_, rfl⟩
      have HPx := Lib.hid hPx
      rw [hPx] at hx2 ⊢
      clear hPx
      have kSA := kS.alloc (Rec2 0 0)
      have kVA := kV.alloc (Rec2 0 0)
      have kRA := (Below.heap_alloc W (Rec2 0 0) _ (Array.getElem?_eq_some_iff.1 kR).1).trans kR
      have hBA : Below w.heap.size w (W.alloc (Rec2 0 0)) := hB1.alloc hB1.size _
      have hKA : KeepsOthers W (W.alloc (Rec2 0 0)) := KeepsOthers.alloc _ _
      gi_wp2_with (gi_at_call 45; refine (CallsIn.inRound l (callsIn_wide.2 (empty_any _ _ _))).mono ?_; rintro e w' ⟨rfl, rfl⟩)
      generalize W.alloc (Rec2 0 0) = WA at kSA kVA kRA hBA hKA ⊢
      have hR6 : RowW WA.drew g (flatW 1 t) := HR.out.ext (Ext.drew hBA)
      obtain ⟨r0, r1⟩ := rec2_cells kRA
      obtain ⟨M1, eM1⟩ : ∃ M1, RowKit.Hid (N - P = M1) := ⟨_, Lib.hid rfl⟩
      have hsl0 := slice_arr (w.heap.size + 1 + 1)
      have hsl1 := slice_lo1 g 0 N N (P) (by omega) (by omega)
      have hsl2 : ∀ W, (Instr.sliceAt 23 (.slice (some ⟨g, P, none⟩) M1 M1) none (some (.int .i64 1)) none).run Tryd.prog W = .ok (.slice (some ⟨g, P, none⟩) 1 M1) W := slice_hi1 (some ⟨g, P, none⟩) M1 M1 1 (by have := eM1.out; omega)
      rw [eM1.out, Nat.zero_add] at hsl1
      have hwP : IntKind.i64.wrap (P : Int) = P := IntWalk.i64_in _ (by omega)
      have hwP2 : IntKind.i64.wrap ((P : Int) * 2) = (P : Int) * 2 := IntWalk.i64_in _ (by omega)
      have hcp := copy_in1 (C1 := M1) (P := P) hR6 (by rw [flatW_len (by unfold Wd; omega), HN.out]; omega) (show WA.drew.cell? ⟨w.heap.size + 1 + 1, 0, none⟩ = _ from r0)
      have hglt : g < w.heap.size := by
        obtain ⟨z, hz, _⟩ := HR.out.get (i := 0) (by rw [flatW_len (by unfold Wd; omega), HN.out]; omega)
        exact World.block_lt_of_cell? w _ hz
      have hgne : g ≠ w.heap.size := by omega
      have hgne2 : g ≠ w.heap.size + 1 := by omega
      have cS := kSA.cell
      have cV := kVA.cell
      have hrow7 : RowKit.Hid (RowW (WA.drew.setCell ⟨g, P, none⟩ (.int .u64 p)) g (flatW 1 (t.set P (p, q)))) := Lib.hid (by rw [flat_set_1]; exact hR6.set (by rw [flatW_len (by unfold Wd; omega), HN.out]; omega) hr.1)
      have hgr7 : RowKit.Hid (w.grownBy (WA.drew.setCell ⟨g, P, none⟩ (.int .u64 p)) (some g)) := Lib.hid (grown_then (below_grown g hBA) (grown_then (W := WA.drew) ⟨rfl, rfl, rfl, Nat.le_refl _, fun _ _ _ => rfl⟩ (grown_set g P _) (fun k e => by cases e; exact .inr rfl)) (fun k e => by cases e; exact .inr rfl))
      have hko7 : RowKit.Hid (KeepsOthers W (WA.drew.setCell ⟨g, P, none⟩ (.int .u64 p))) := Lib.hid (hKA.trans ((KeepsOthers.drew _).trans (KeepsOthers.setCell _ _ _)))
      have s0 : (WA.drew.setCell ⟨g, P, none⟩ (.int .u64 p)).cell? ⟨w.heap.size, 0, none⟩ = some (.slice (some ⟨g, 0, none⟩) N N) := (cell_far hgne).trans cS
      have s1 : (WA.drew.setCell ⟨g, P, none⟩ (.int .u64 p)).cell? ⟨w.heap.size + 1, 0, none⟩ = some (.int .i64 1) := (cell_far hgne2).trans cV
      obtain ⟨W7, hW7⟩ : ∃ W7, WA.drew.setCell ⟨g, P, none⟩ (.int .u64 p) = W7 := ⟨_, rfl⟩
      rw [hW7] at hcp hrow7 hgr7 hko7 s0 s1
      clear hW7 hR6 r0 r1
      refine wpIn_region_held (S := fun w' => w'.cell? ⟨w.heap.size, 0, none⟩ = some (.slice (some ⟨g, 0, none⟩) N N) ∧ w'.cell? ⟨w.heap.size + 1, 0, none⟩ = some (.int .i64 1)) (by kernel_rfl) (by kernel_rfl) (fun h => by obtain ⟨_, _, h⟩ := h; exact h) ⟨cS, cV⟩ (fun hHeld => ?_)
      refine wpAnyH_take (i := 0) (v := .slice (some ⟨g, 0, none⟩) N N) rfl (by kernel_rfl) (by kernel_rfl) (by kernel_rfl) (fun _ _ _ h => h) (Or.inl ⟨by rfl, ?_⟩) (by assumption) ?_
      · rintro w ⟨h1, h2⟩
        go_simp
      refine wpAnyH_take (i := 1) (v := .int .i64 P) rfl (by kernel_rfl) (by kernel_rfl) (by kernel_rfl) (fun _ _ _ h => h) (Or.inl ⟨by rfl, ?_⟩) (by assumption) ?_
      · rintro w ⟨h1, h2⟩
        go_simp
      refine wpAnyH_take (i := 2) (v := .int .i64 1) rfl (by kernel_rfl) (by kernel_rfl) (by kernel_rfl) (fun _ _ _ h => h) (Or.inl ⟨by rfl, ?_⟩) (by assumption) ?_
      · rintro w ⟨h1, h2⟩
        go_simp
      refine wpAnyH_take (i := 3) (v := .int .i64 (P : Int)) rfl (by kernel_rfl) (by kernel_rfl) (by kernel_rfl) (fun _ _ _ h => h) (Or.inl ⟨by rfl, ?_⟩) (by assumption) ?_
      · rintro w ⟨h1, h2⟩
        go_simp
      refine wpAnyH_take (i := 4) (v := .slice (some ⟨g, P, none⟩) M1 M1) rfl (by kernel_rfl) (by kernel_rfl) (by kernel_rfl) (fun _ _ _ h => h) (Or.inl ⟨by rfl, ?_⟩) (by assumption) ?_
      · rintro w ⟨h1, h2⟩
        go_simp
      refine wpAnyH_take (i := 5) (v := .int .i64 1) rfl (by kernel_rfl) (by kernel_rfl) (by kernel_rfl) (fun _ _ _ h => h) (Or.inl ⟨by rfl, ?_⟩) (by assumption) ?_
      · rintro w ⟨h1, h2⟩
        go_simp
      refine wpAnyH_take (i := 6) (v := .slice (some ⟨g, P, none⟩) 1 M1) rfl (by kernel_rfl) (by kernel_rfl) (by kernel_rfl) (fun _ _ _ h => h) (Or.inl ⟨by rfl, ?_⟩) (by assumption) ?_
      · rintro w ⟨h1, h2⟩
        go_simp
      refine wpAnyH_take (i := 7) (v := .slice (some ⟨w.heap.size + 1 + 1, 0, none⟩) 2 2) rfl (by kernel_rfl) (by kernel_rfl) (by kernel_rfl) (fun _ _ _ h => h) (Or.inl ⟨by rfl, ?_⟩) (by assumption) ?_
      · rintro w ⟨h1, h2⟩
        go_simp
      refine wpAnyH_ready (rs := [8]) (by kernel_rfl) (by simp) ?_
      refine AllReadyH.cons rfl (fun K hK => ?_) AllReadyH.nil
      go_simp
      refine hK.out _ _ ⟨s0, s1⟩ (fun hHeld => ?_)
      clear hK K
      refine wpAnyH_done (by kernel_rfl) ?_ _
      clear hsl0 hsl1 hsl2 hcp
      gi_wp2
      exact ⟨hko7.out.from _, rfl, pre, x, rfl, Hpq.out, Hp.out, by rw [HPx.out]; exact hrow7.out, hgr7.out⟩
    · have hb : ((pp == 0) && (qq == 0)) = false := by
        rw [Bool.and_eq_false_iff]
        by_cases e : pp = 0
        · exact .inr (by simpa using fun e2 => h0 ⟨e, e2⟩)
        · exact .inl (by simpa using e)
      have hE2 := fun W => empty_any pp qq W
      rw [hb] at hE2
      have HE2 := Lib.hid hE2
      have HN2 : RowKit.Hid (∀ y ∈ pre ++ [x], at' t y.1 ≠ (0, 0)) := Lib.hid (fun y hy => (List.mem_append.1 hy).elim (Hp.out y) (fun e => by simp at e; subst e; rw [Hpq.out]; intro e; cases e; exact h0 ⟨rfl, rfl⟩))
      have kR2 := (Below.heap_alloc W (Rec2 pp qq) _ (Array.getElem?_eq_some_iff.1 kR).1).trans kR
      clear h0 hE2 hb
      gi_wp2_with (gi_at_call 45; refine (CallsIn.inRound l (callsIn_wide.2 (HE2.out _))).mono ?_; rintro e w' ⟨rfl, rfl⟩)
      exact ⟨(KeepsOthers.alloc _ _).from _, Keeps.alloc hle _, ⟨⟨HN2.out, kS.alloc _⟩, ⟨kV.alloc _, kR2⟩, kF.alloc _⟩, hB1.alloc hB1.size _⟩
  case done =>
    rintro D' ys W hD' hxs ⟨⟨⟨hp, kS⟩, ⟨kV, kR⟩, kF⟩, hB1⟩ hK
    have hfin : RowKit.Hid (layS t (p, q) = t) := Lib.hid (layS_full HN.out (fun i hi => by
      obtain ⟨x, hx, e⟩ := plc_get hxs hi
      have hfo := Hf.out
      show at' t ((slotN p N + i) % N) ≠ (0, 0)
      rw [hfo, ← e]; exact hp x hx))
    clear hp
    gi_wp2
    refine ⟨by simp, .inl ⟨_, _, rfl, run_takeDeferred hK, ?_⟩⟩
    refine ⟨_, results_none rfl _ _ _, rfl, ?_, grown_then (below_grown g hB1) (grownBy_putObj' W D' (.deferred none)) (fun k e => by cases e; exact .inl (by omega))⟩
    rw [hfin.out]
    exact HR.out.ext (hB1.trans (belowK_b (w := w) (Nat.le_refl _) _ D' _ _ (by omega) hK rfl rfl))
  case stop =>
    rintro D' cd pre W hD' hpre ⟨rfl, pr, x, rfl, hx, hno, hrow, hgr⟩ hK
    have hfin : RowKit.Hid (layS t (p, q) = t.set x.1 (p, q)) := Lib.hid (by
      obtain ⟨j, hj, e⟩ := hpre
      obtain ⟨e1, e2⟩ := plc_last e
      have hfo : slotN (p, q).1 N = f := Hf.out
      rw [layS_at (r := (p, q)) (i := j) HN.out hj (by rw [hfo, ← e2]; exact hx) (fun i hi => ?_), hfo, e2]
      obtain ⟨y, hy, ey⟩ := plc_get e1 hi
      rw [hfo, ← ey]; exact hno y hy)
    clear hno hpre
    gi_wp2
    refine ⟨by simp, .inl ⟨_, _, rfl, run_takeDeferred hK, ?_⟩⟩
    refine ⟨_, results_none rfl _ _ _, rfl, ?_, grown_then hgr (grownBy_putObj' W D' (.deferred none)) (fun k e => by cases e; exact .inl (by omega))⟩
    rw [hfin.out]
    exact rowW_own (β := Unit) g 0 (fun _ => flatW 1 (t.set x.1 (p, q))) () W _ (some D') hrow (grownBy_putObj' W D' (.deferred none)) (fun r e => by cases e; exact ⟨Nat.zero_le _, _, hK, rfl⟩)

set_option maxRecDepth 100000 in
set_option maxHeartbeats 4000000 in
theorem lay_2 (g N m : Nat) (t : List Rc) (p q : Int) (w : World) (hT : Tab w) (hR : RowW w g (flatW 2 t)) (hN : t.length = N) (hM : m = N * 2) (ht : Thin 2 t) (n1 : 1 ≤ N) (n2 : N ≤ 1024) (hr : Ur (p, q)) :
    Calls Tryd.prog 43 #[.slice (some ⟨g, 0, none⟩) m m, .int .i64 2, .agg #[.int .u64 p, .int .u64 q]] w fun e w' => e = .returned (.tuple #[]) ∧ RowW w' g (flatW 2 (layS t (p, q))) ∧ w.grownBy w' (some g) := by
  have hfn : ∀ f, Fence.wide.fn f := fun _ => trivial
  have hsa := Oper.semAt_some
  have hdep : Fence.wide.depth = none := rfl
  have hdv : (m : Int).tdiv 2 = N := by rw [quo_2]; omega
  have hNb : N ≤ 1048576 := by omega
  have HM := Lib.hid hM
  have hS : WS w (some ⟨g, 0, none⟩) m m (flatW 2 t) := hR.ws (by rw [flatW_len (by unfold Wd; omega), hN]; omega) (by omega) (Nat.le_refl _) (by omega)
  have hf := slotN_lt (k := p) (n := N) (by omega)
  have hsi : slot p (N : Int) = ((slotN p N : Nat) : Int) := slot_is p N n1
  obtain ⟨f, hfe⟩ : ∃ f, slotN p N = f := ⟨_, rfl⟩
  have Hf := Lib.hid hfe
  rw [hfe] at hf hsi
  have HS := Lib.hid hS
  have HR := Lib.hid hR
  have HN := Lib.hid hN
  have HT := Lib.hid ht
  obtain ⟨w3, hw3⟩ : ∃ w3, ((w.alloc (.cells #[.slice (some ⟨g, 0, none⟩) m m] 23)).alloc (.cells #[.int .i64 2] 3)).alloc (Rec2 p q) = w3 := ⟨_, rfl⟩
  have bS : Boxed w3 w.heap.size 23 (.slice (some ⟨g, 0, none⟩) m m) := by rw [← hw3]; exact ((Boxed.new w 23 _).alloc _).alloc _
  have bV : Boxed w3 (w.heap.size + 1) 3 (.int .i64 2) := by rw [← hw3]; have h := (Boxed.new (w.alloc (.cells #[.slice (some ⟨g, 0, none⟩) m m] 23)) 3 (.int .i64 2)).alloc (Rec2 p q); simpa only [World.size_alloc] using h
  have bR : w3.heap[w.heap.size + 1 + 1]? = some (Rec2 p q) := by rw [← hw3]; have h := World.alloc_heap_new ((w.alloc (.cells #[.slice (some ⟨g, 0, none⟩) m m] 23)).alloc (.cells #[.int .i64 2] 3)) (Rec2 p q); simpa only [World.size_alloc] using h
  have hE3 : Ext w w3 := by rw [← hw3]; exact (((Ext.refl w).alloc _).alloc _).alloc _
  have hz3 : w3.heap.size = w.heap.size + 3 := by rw [← hw3]; simp
  have hT3 : Tab w3.drew := hT.ext (hE3.drew)
  have HSl : RowKit.Hid (Calls Tryd.prog 50 #[.int .u64 p, .int .i64 N] w3.drew fun e w' => e = .returned (.int .i64 (f : Int)) ∧ Ext w3 w') := Lib.hid ((slot_any p N w3.drew hT3 hr.1.1 hr.1.2 (by omega) (by omega)).mono fun _ _ h => ⟨by rw [h.1, hsi], (Ext.drew (Ext.refl w3)).trans h.2.ext⟩)
  clear hS hR ht hN hfe hsi hT3 hT hM
  refine (callsIn_wide (n := 9)).1 ?_
  refine callsIn_of_wp_marks Tryd.func43 rfl trivial ?_ rfl
  simp only [Tryd.ntmps43, List.size_toArray, List.length_cons, List.length_nil, Nat.reduceAdd, Nat.reduceSub, Array.replicate_succ, Array.replicate_zero, List.push_toArray, List.append_toArray, List.nil_append, List.cons_append]
  gi_wp2
  clear hw3
  have g0 := bS.cell
  have g1 := bV.cell
  have g2 := (rec2_cells bR).1
  have hwN : IntKind.i64.wrap (N : Int) = N := IntWalk.i64_in _ (by omega)
  have hwN2 : RowKit.wrap64 (N : Int) = N := by rw [← hwN]; first | rfl | (unfold RowKit.wrap64; omega)
  refine wpIn_wide.2 ?_
  go_region_held3 (fun w' => (w'.cell? ⟨w.heap.size, 0, none⟩ = some (.slice (some ⟨g, 0, none⟩) m m) ∧ w'.cell? ⟨w.heap.size + 1, 0, none⟩ = some (.int .i64 2) ∧ w'.cell? ⟨w.heap.size + 1 + 1, 0, none⟩ = some (.int .u64 p)))
    (first
      | exact ⟨Ext.cell (Ext.alloc (Ext.alloc (Ext.alloc x1 _) _) _) g0, Ext.cell (Ext.alloc (Ext.alloc (Ext.alloc x1 _) _) _) g1, Ext.cell (Ext.alloc (Ext.alloc (Ext.alloc x1 _) _) _) g2⟩
      | exact ⟨Ext.cell x1 g0, Ext.cell x1 g1, Ext.cell x1 g2⟩
      | exact ⟨g0, g1, g2⟩
      | go_keep)
    (first
      | (go_at_call 50; with_reducible refine HSl.out.mono ?_; rintro e w1 ⟨rfl, x1⟩)
      | (go_at_call 44; with_reducible refine (round_any (some ⟨g, 0, none⟩) m m 2 f w1).mono ?_; rintro e w' ⟨rfl, rfl⟩))
  rename_i hh
  clear hh g0 g1 g2 HSl hwN hwN2
  gi_wp2
  obtain ⟨D, hD⟩ : ∃ D, w1.heap.size = D := ⟨_, rfl⟩
  obtain ⟨W0, hW0⟩ : ∃ W0, ((w1.alloc (.cells #[.slice (some ⟨g, 0, none⟩) m m] 23)).alloc (.cells #[.int .i64 2] 3)).alloc (.cells #[.int .i64 (f : Int)] 3) = W0 := ⟨_, rfl⟩
  have b0 : Boxed W0 D 23 (.slice (some ⟨g, 0, none⟩) m m) := by rw [← hW0, ← hD]; exact ((Boxed.new w1 23 _).alloc _).alloc _
  have b1 : Boxed W0 (D + 1) 3 (.int .i64 2) := by rw [← hW0, ← hD]; have h := (Boxed.new (w1.alloc (.cells #[.slice (some ⟨g, 0, none⟩) m m] 23)) 3 (.int .i64 2)).alloc (.cells #[.int .i64 (f : Int)] 3); simpa only [World.size_alloc] using h
  have b2 : Boxed W0 (D + 1 + 1) 3 (.int .i64 (f : Int)) := by rw [← hW0, ← hD]; have h := Boxed.new ((w1.alloc (.cells #[.slice (some ⟨g, 0, none⟩) m m] 23)).alloc (.cells #[.int .i64 2] 3)) 3 (.int .i64 (f : Int)); simpa only [World.size_alloc] using h
  have hE30 : Ext w3 W0 := by rw [← hW0]; exact ((x1.alloc _).alloc _).alloc _
  have hE0 : Ext w W0 := hE3.trans hE30
  have bS0 : Boxed W0 w.heap.size 23 (.slice (some ⟨g, 0, none⟩) m m) := (hE30.block _ bS.lt).trans bS
  have bV0 : Boxed W0 (w.heap.size + 1) 3 (.int .i64 2) := (hE30.block _ bV.lt).trans bV
  have bR0 : W0.heap[w.heap.size + 1 + 1]? = some (Rec2 p q) := (hE30.block _ (Array.getElem?_eq_some_iff.1 bR).1).trans bR
  have hD3 : w.heap.size + 3 ≤ D := by have := x1.size; omega
  have hsz : W0.heap.size = D + 3 := by rw [← hW0, ← hD]; simp
  rw [hW0, hD]
  clear hW0 hD x1 bS bV bR
  refine wpIn_rangeFunc_ownH rfl (by omega) (gf := 56) (lb := #[.pointer (some ⟨D, 0, none⟩), .pointer (some ⟨D + 1, 0, none⟩), .pointer (some ⟨D + 1 + 1, 0, none⟩)]) rfl trivial (enters_of Tryd.func56 (by kernel_rfl) rfl)
    (round_stops _ (some ⟨g, 0, none⟩) N m m 2 f D (D + 1) (D + 1 + 1) t w W0 (by unfold Wd; omega) HS.out HN.out HT.out hf hE0 b0 b1 b2) Keeps.trans (Keeps.put (w := W0) (by omega)) (Below.refl _ _) (fun _ => rfl)
    (fun pre W => (((∀ y ∈ pre, at' t y.1 ≠ (0, 0)) ∧ Boxed W w.heap.size 23 (.slice (some ⟨g, 0, none⟩) m m)) ∧ ((Boxed W (w.heap.size + 1) 3 (.int .i64 2) ∧ W.heap[w.heap.size + 1 + 1]? = some (Rec2 p q)) ∧ Boxed W (D + 1 + 1) 3 (.int .i64 (f : Int)))) ∧ Below w.heap.size w W)
    (fun cd pre W => Laid g 2 w t (p, q) cd pre W)
    (OwnFrom.and (OwnFrom.and (OwnFrom.and (ownFrom_pure _ _) (Own.from (boxed_own _ _ _) _)) (OwnFrom.and (OwnFrom.and (Own.from (boxed_own _ _ _) _) (Own.from (boxed_obj _ _ rfl) _)) (Own.from (boxed_own _ _ _) _))) (ownFrom_below (Nat.le_refl _) (by omega)))
    (fun cd => laid_own g 2 w _ (by omega) t (p, q) cd)
    ⟨⟨⟨by simp, bS0⟩, ⟨bV0, bR0⟩, b2⟩, hE0⟩
    (fun x a' W => ∃ Bx, D + 1 + 1 < Bx ∧ W.heap[Bx]? = some (Rec2 (at' t x.1).1 (at' t x.1).2) ∧ a' = { tmps := #[.slice (some ⟨g, 0, none⟩) m m, .int .i64 2, .agg #[.int .u64 p, .int .u64 q], .pointer (some ⟨w.heap.size, 0, none⟩), .pointer (some ⟨w.heap.size + 1, 0, none⟩), .pointer (some ⟨w.heap.size + 1 + 1, 0, none⟩), .int .i64 x.1, .pointer (some ⟨Bx, 0, none⟩), .slice (some ⟨g, 0, none⟩) m m, .int .i64 2, .pointer (some ⟨w.heap.size + 1 + 1, 0, none⟩), .int .u64 p, .slice (some ⟨g, 0, none⟩) m m, .int .i64 m, .int .i64 2, .int .i64 N, .int .i64 f,
      .func (.func 56) #[] #[.pointer (some ⟨D, 0, none⟩), .pointer (some ⟨D + 1, 0, none⟩), .pointer (some ⟨D + 1 + 1, 0, none⟩)], .int .i64 x.1, .agg #[.int .u64 (at' t x.1).1, .int .u64 (at' t x.1).2], undef, undef, undef, undef, undef, undef, undef, undef, undef, undef, undef], defers := [] })
    (fun x a' _ X Y row hs hg hr => by obtain ⟨Bx, h1, h2, h3⟩ := hs; exact ⟨Bx, h1, boxed_obj Bx _ rfl () X Y row h2 hg (fun r e => (hr r e).2), h3⟩)
    ?assign ?body ?done ?stop
  case assign =>
    rintro l pre x W K ⟨⟨⟨hp, kS⟩, ⟨kV, kR⟩, kF⟩, hB1⟩ hK
    have hle : w.heap.size ≤ W.heap.size := hB1.size
    have kR2 := (Below.heap_alloc W (Rec2 (at' t x.1).1 (at' t x.1).2) _ (Array.getElem?_eq_some_iff.1 kR).1).trans kR
    unfold encs
    gi_wp2
    exact hK _ _ ((KeepsOthers.alloc _ _).from _) (Keeps.alloc hle _) ⟨⟨⟨hp, kS.alloc _⟩, ⟨kV.alloc _, kR2⟩, kF.alloc _⟩, hB1.alloc hB1.size _⟩ ⟨W.heap.size, kF.lt, World.alloc_heap_new W _, rfl⟩
  case body =>
    rintro l pre x a' W hl ⟨r, hrr⟩ ⟨⟨⟨hp, kS⟩, ⟨kV, kR⟩, kF⟩, hB1⟩ ⟨Bx, hBx, bX, rfl⟩ hlt
    obtain ⟨pp, qq, hpq⟩ : ∃ pp qq, at' t x.1 = (pp, qq) := ⟨_, _, rfl⟩
    have Hpq := Lib.hid hpq
    rw [hpq] at bX ⊢
    dsimp only at bX ⊢
    obtain ⟨c0, c1⟩ := rec2_cells bX
    have hfd : (Fence.wide.inRound l).depth = none := rfl
    have hff : ∀ f, (Fence.wide.inRound l).fn f := fun _ => trivial
    have hle := hB1.size
    have Hp := Lib.hid hp
    clear hp hpq
    by_cases h0 : pp = 0 ∧ qq = 0
    · obtain ⟨rfl, rfl⟩ := h0
      have hx2 := x.2
      obtain ⟨P, hPx⟩ : ∃ P, x.1 = P := ⟨_, rfl⟩
      have HPx := Lib.hid hPx
      rw [hPx] at hx2 ⊢
      clear hPx
      have hP2 : P * 2 + 1 < m := by have := HM.out; omega
      have kSA := kS.alloc (Rec2 0 0)
      have kVA := kV.alloc (Rec2 0 0)
      have kRA := (Below.heap_alloc W (Rec2 0 0) _ (Array.getElem?_eq_some_iff.1 kR).1).trans kR
      have hBA : Below w.heap.size w (W.alloc (Rec2 0 0)) := hB1.alloc hB1.size _
      have hKA : KeepsOthers W (W.alloc (Rec2 0 0)) := KeepsOthers.alloc _ _
      gi_wp2_with (gi_at_call 45; refine (CallsIn.inRound l (callsIn_wide.2 (empty_any _ _ _))).mono ?_; rintro e w' ⟨rfl, rfl⟩)
      generalize W.alloc (Rec2 0 0) = WA at kSA kVA kRA hBA hKA ⊢
      have hR6 : RowW WA.drew g (flatW 2 t) := HR.out.ext (Ext.drew hBA)
      obtain ⟨r0, r1⟩ := rec2_cells kRA
      obtain ⟨M1, eM1⟩ : ∃ M1, RowKit.Hid (m - P * 2 = M1) := ⟨_, Lib.hid rfl⟩
      have hsl0 := slice_arr (w.heap.size + 1 + 1)
      have hsl1 := slice_lo1 g 0 m m (P * 2) (by omega) (by omega)
      rw [show (((P * 2 : Nat) : Int)) = (P : Int) * 2 by omega] at hsl1
      have hsl2 : ∀ W, (Instr.sliceAt 23 (.slice (some ⟨g, P * 2, none⟩) M1 M1) none (some (.int .i64 2)) none).run Tryd.prog W = .ok (.slice (some ⟨g, P * 2, none⟩) 2 M1) W := slice_hi1 (some ⟨g, P * 2, none⟩) M1 M1 2 (by have := eM1.out; omega)
      rw [eM1.out, Nat.zero_add] at hsl1
      have hwP : IntKind.i64.wrap (P : Int) = P := IntWalk.i64_in _ (by omega)
      have hwP2 : IntKind.i64.wrap ((P : Int) * 2) = (P : Int) * 2 := IntWalk.i64_in _ (by omega)
      have hcp := copy_in2 (C1 := M1) (P := P * 2) hR6 (by rw [flatW_len (by unfold Wd; omega), HN.out]; have := HM.out; omega) (show WA.drew.cell? ⟨w.heap.size + 1 + 1, 0, none⟩ = _ from r0) (show WA.drew.cell? ⟨w.heap.size + 1 + 1, 1, none⟩ = _ from r1)
      have hglt : g < w.heap.size := by
        obtain ⟨z, hz, _⟩ := HR.out.get (i := 0) (by rw [flatW_len (by unfold Wd; omega), HN.out]; omega)
        exact World.block_lt_of_cell? w _ hz
      have hgne : g ≠ w.heap.size := by omega
      have hgne2 : g ≠ w.heap.size + 1 := by omega
      have cS := kSA.cell
      have cV := kVA.cell
      have hrow7 : RowKit.Hid (RowW ((WA.drew.setCell ⟨g, P * 2, none⟩ (.int .u64 p)).setCell ⟨g, P * 2 + 1, none⟩ (.int .u64 q)) g (flatW 2 (t.set P (p, q)))) := Lib.hid (by rw [flat_set_2]; exact (hR6.set (by rw [flatW_len (by unfold Wd; omega), HN.out]; omega) hr.1).set (by rw [List.length_set, flatW_len (by unfold Wd; omega), HN.out]; omega) hr.2)
      have hgr7 : RowKit.Hid (w.grownBy ((WA.drew.setCell ⟨g, P * 2, none⟩ (.int .u64 p)).setCell ⟨g, P * 2 + 1, none⟩ (.int .u64 q)) (some g)) := Lib.hid (grown_then (below_grown g hBA) (grown_then (grown_then (W := WA.drew) ⟨rfl, rfl, rfl, Nat.le_refl _, fun _ _ _ => rfl⟩ (grown_set g (P * 2) _) (fun k e => by cases e; exact .inr rfl)) (grown_set g (P * 2 + 1) _) (fun k e => by cases e; exact .inr rfl)) (fun k e => by cases e; exact .inr rfl))
      have hko7 : RowKit.Hid (KeepsOthers W ((WA.drew.setCell ⟨g, P * 2, none⟩ (.int .u64 p)).setCell ⟨g, P * 2 + 1, none⟩ (.int .u64 q))) := Lib.hid (hKA.trans (((KeepsOthers.drew _).trans (KeepsOthers.setCell _ _ _)).trans (KeepsOthers.setCell _ _ _)))
      have s0 : ((WA.drew.setCell ⟨g, P * 2, none⟩ (.int .u64 p)).setCell ⟨g, P * 2 + 1, none⟩ (.int .u64 q)).cell? ⟨w.heap.size, 0, none⟩ = some (.slice (some ⟨g, 0, none⟩) m m) := (cell_far hgne).trans ((cell_far hgne).trans cS)
      have s1 : ((WA.drew.setCell ⟨g, P * 2, none⟩ (.int .u64 p)).setCell ⟨g, P * 2 + 1, none⟩ (.int .u64 q)).cell? ⟨w.heap.size + 1, 0, none⟩ = some (.int .i64 2) := (cell_far hgne2).trans ((cell_far hgne2).trans cV)
      obtain ⟨W7, hW7⟩ : ∃ W7, (WA.drew.setCell ⟨g, P * 2, none⟩ (.int .u64 p)).setCell ⟨g, P * 2 + 1, none⟩ (.int .u64 q) = W7 := ⟨_, rfl⟩
      rw [hW7] at hcp hrow7 hgr7 hko7 s0 s1
      clear hW7 hR6 r0 r1
      refine wpIn_region_held (S := fun w' => w'.cell? ⟨w.heap.size, 0, none⟩ = some (.slice (some ⟨g, 0, none⟩) m m) ∧ w'.cell? ⟨w.heap.size + 1, 0, none⟩ = some (.int .i64 2)) (by kernel_rfl) (by kernel_rfl) (fun h => by obtain ⟨_, _, h⟩ := h; exact h) ⟨cS, cV⟩ (fun hHeld => ?_)
      refine wpAnyH_take (i := 0) (v := .slice (some ⟨g, 0, none⟩) m m) rfl (by kernel_rfl) (by kernel_rfl) (by kernel_rfl) (fun _ _ _ h => h) (Or.inl ⟨by rfl, ?_⟩) (by assumption) ?_
      · rintro w ⟨h1, h2⟩
        go_simp
      refine wpAnyH_take (i := 1) (v := .int .i64 P) rfl (by kernel_rfl) (by kernel_rfl) (by kernel_rfl) (fun _ _ _ h => h) (Or.inl ⟨by rfl, ?_⟩) (by assumption) ?_
      · rintro w ⟨h1, h2⟩
        go_simp
      refine wpAnyH_take (i := 2) (v := .int .i64 2) rfl (by kernel_rfl) (by kernel_rfl) (by kernel_rfl) (fun _ _ _ h => h) (Or.inl ⟨by rfl, ?_⟩) (by assumption) ?_
      · rintro w ⟨h1, h2⟩
        go_simp
      refine wpAnyH_take (i := 3) (v := .int .i64 ((P : Int) * 2)) rfl (by kernel_rfl) (by kernel_rfl) (by kernel_rfl) (fun _ _ _ h => h) (Or.inl ⟨by rfl, ?_⟩) (by assumption) ?_
      · rintro w ⟨h1, h2⟩
        go_simp
      refine wpAnyH_take (i := 4) (v := .slice (some ⟨g, P * 2, none⟩) M1 M1) rfl (by kernel_rfl) (by kernel_rfl) (by kernel_rfl) (fun _ _ _ h => h) (Or.inl ⟨by rfl, ?_⟩) (by assumption) ?_
      · rintro w ⟨h1, h2⟩
        go_simp
      refine wpAnyH_take (i := 5) (v := .int .i64 2) rfl (by kernel_rfl) (by kernel_rfl) (by kernel_rfl) (fun _ _ _ h => h) (Or.inl ⟨by rfl, ?_⟩) (by assumption) ?_
      · rintro w ⟨h1, h2⟩
        go_simp
      refine wpAnyH_take (i := 6) (v := .slice (some ⟨g, P * 2, none⟩) 2 M1) rfl (by kernel_rfl) (by kernel_rfl) (by kernel_rfl) (fun _ _ _ h => h) (Or.inl ⟨by rfl, ?_⟩) (by assumption) ?_
      · rintro w ⟨h1, h2⟩
        go_simp
      refine wpAnyH_take (i := 7) (v := .slice (some ⟨w.heap.size + 1 + 1, 0, none⟩) 2 2) rfl (by kernel_rfl) (by kernel_rfl) (by kernel_rfl) (fun _ _ _ h => h) (Or.inl ⟨by rfl, ?_⟩) (by assumption) ?_
      · rintro w ⟨h1, h2⟩
        go_simp
      refine wpAnyH_ready (rs := [8]) (by kernel_rfl) (by simp) ?_
      refine AllReadyH.cons rfl (fun K hK => ?_) AllReadyH.nil
      go_simp
      refine hK.out _ _ ⟨s0, s1⟩ (fun hHeld => ?_)
      clear hK K
      refine wpAnyH_done (by kernel_rfl) ?_ _
      clear hsl0 hsl1 hsl2 hcp
      gi_wp2
      exact ⟨hko7.out.from _, rfl, pre, x, rfl, Hpq.out, Hp.out, by rw [HPx.out]; exact hrow7.out, hgr7.out⟩
    · have hb : ((pp == 0) && (qq == 0)) = false := by
        rw [Bool.and_eq_false_iff]
        by_cases e : pp = 0
        · exact .inr (by simpa using fun e2 => h0 ⟨e, e2⟩)
        · exact .inl (by simpa using e)
      have hE2 := fun W => empty_any pp qq W
      rw [hb] at hE2
      have HE2 := Lib.hid hE2
      have HN2 : RowKit.Hid (∀ y ∈ pre ++ [x], at' t y.1 ≠ (0, 0)) := Lib.hid (fun y hy => (List.mem_append.1 hy).elim (Hp.out y) (fun e => by simp at e; subst e; rw [Hpq.out]; intro e; cases e; exact h0 ⟨rfl, rfl⟩))
      have kR2 := (Below.heap_alloc W (Rec2 pp qq) _ (Array.getElem?_eq_some_iff.1 kR).1).trans kR
      clear h0 hE2 hb
      gi_wp2_with (gi_at_call 45; refine (CallsIn.inRound l (callsIn_wide.2 (HE2.out _))).mono ?_; rintro e w' ⟨rfl, rfl⟩)
      exact ⟨(KeepsOthers.alloc _ _).from _, Keeps.alloc hle _, ⟨⟨HN2.out, kS.alloc _⟩, ⟨kV.alloc _, kR2⟩, kF.alloc _⟩, hB1.alloc hB1.size _⟩
  case done =>
    rintro D' ys W hD' hxs ⟨⟨⟨hp, kS⟩, ⟨kV, kR⟩, kF⟩, hB1⟩ hK
    have hfin : RowKit.Hid (layS t (p, q) = t) := Lib.hid (layS_full HN.out (fun i hi => by
      obtain ⟨x, hx, e⟩ := plc_get hxs hi
      have hfo := Hf.out
      show at' t ((slotN p N + i) % N) ≠ (0, 0)
      rw [hfo, ← e]; exact hp x hx))
    clear hp
    gi_wp2
    refine ⟨by simp, .inl ⟨_, _, rfl, run_takeDeferred hK, ?_⟩⟩
    refine ⟨_, results_none rfl _ _ _, rfl, ?_, grown_then (below_grown g hB1) (grownBy_putObj' W D' (.deferred none)) (fun k e => by cases e; exact .inl (by omega))⟩
    rw [hfin.out]
    exact HR.out.ext (hB1.trans (belowK_b (w := w) (Nat.le_refl _) _ D' _ _ (by omega) hK rfl rfl))
  case stop =>
    rintro D' cd pre W hD' hpre ⟨rfl, pr, x, rfl, hx, hno, hrow, hgr⟩ hK
    have hfin : RowKit.Hid (layS t (p, q) = t.set x.1 (p, q)) := Lib.hid (by
      obtain ⟨j, hj, e⟩ := hpre
      obtain ⟨e1, e2⟩ := plc_last e
      have hfo : slotN (p, q).1 N = f := Hf.out
      rw [layS_at (r := (p, q)) (i := j) HN.out hj (by rw [hfo, ← e2]; exact hx) (fun i hi => ?_), hfo, e2]
      obtain ⟨y, hy, ey⟩ := plc_get e1 hi
      rw [hfo, ← ey]; exact hno y hy)
    clear hno hpre
    gi_wp2
    refine ⟨by simp, .inl ⟨_, _, rfl, run_takeDeferred hK, ?_⟩⟩
    refine ⟨_, results_none rfl _ _ _, rfl, ?_, grown_then hgr (grownBy_putObj' W D' (.deferred none)) (fun k e => by cases e; exact .inl (by omega))⟩
    rw [hfin.out]
    exact rowW_own (β := Unit) g 0 (fun _ => flatW 2 (t.set x.1 (p, q))) () W _ (some D') hrow (grownBy_putObj' W D' (.deferred none)) (fun r e => by cases e; exact ⟨Nat.zero_le _, _, hK, rfl⟩)

theorem lay_any (g N m v : Nat) (t : List Rc) (p q : Int) (w : World) (hT : Tab w) (hv : Wd v) (hR : RowW w g (flatW v t)) (hN : t.length = N) (hm : m = N * v) (ht : Thin v t) (n1 : 1 ≤ N) (n2 : N ≤ 1024) (hr : Ur (p, q)) :
    Calls Tryd.prog 43 #[.slice (some ⟨g, 0, none⟩) m m, .int .i64 v, .agg #[.int .u64 p, .int .u64 q]] w fun e w' => e = .returned (.tuple #[]) ∧ RowW w' g (flatW v (layS t (p, q))) ∧ w.grownBy w' (some g) := by
  rcases hv with rfl | rfl
  · obtain rfl : N = m := by omega
    exact lay_1 g N t p q w hT hR hN ht n1 n2 hr
  · exact lay_2 g N m t p q w hT hR hN hm ht n1 n2 hr

end Go.Proofs.YtbpgnnogpcppdaaDoor
