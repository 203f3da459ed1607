/-
  What At of package region returns, in whatever world that holds the package's table, for integers; it leaves memory as it was, but for new blocks and draws.
-/
import Derived.Test.YtbgeojahhbchlaaDoorSize
namespace Go.Proofs.YtbgeojahhbchlaaDoor
open Go.RowKit Go.Shelf

def beg (f o e q : Int) : Int := if o = 1 then f else f + q * e
theorem begin_any (f o e q : Int) (w : World) (h0 : 0 ≤ q * e) (h1 : q * e < 4000000) (f0 : 0 ≤ f) (f1 : f < 4000000) :
    Calls Tryd.prog 29 #[sv f o e, .int .i64 q] w fun x w' => x = .returned (.int .i64 (beg f o e q)) ∧ w' = w.alloc (sx f o e) := by
  unfold beg
  by_cases h : o = 1
  · rw [if_pos h]; subst h; exact begin_one f e q w
  · rw [if_neg h]; exact begin_many f o e q (q * e) w h (Lib.hid rfl) h0 h1 f0 f1

set_option maxHeartbeats 1000000 in
theorem at_conf (k p c part q : Int) (w : World) (hf : fits k p c = false) : Calls Tryd.prog 20 #[cf k p c, .int .i64 part, .int .i64 q] w fun e w' => e = .returned (.tuple #[.int .i64 0, .int .i64 5]) ∧ Below w.heap.size w w' := by
  go_enter Tryd.func20, Tryd.ntmps20
  go_wp2_with (go_at_call 9; with_reducible refine (fits_any _ _ _ _).mono ?_; rintro e w' ⟨rfl, rfl⟩)
  refine bodyPost_ret (v := .tuple #[.int .i64 0, .int .i64 5]) (by simp [results, Tryd.results20, go_sem]) rfl ⟨rfl, ?_⟩
  repeat (first | exact Below.refl _ _ | refine Below.alloc ?_ (by simp <;> omega) _)

set_option maxHeartbeats 1000000 in
theorem at_arg (k p c part q : Int) (w : World) (hf : fits k p c = true) (hq : ¬ (0 ≤ q ∧ q ≤ p - 1)) : Calls Tryd.prog 20 #[cf k p c, .int .i64 part, .int .i64 q] w fun e w' => e = .returned (.tuple #[.int .i64 0, .int .i64 1]) ∧ Below w.heap.size w w' := by
  have hv := fits_of hf
  have hq' := Lib.hid hq
  clear hq
  go_enter Tryd.func20, Tryd.ntmps20
  go_wp2_with (first
    | (go_at_call 9; with_reducible refine (fits_any _ _ _ _).mono ?_; rintro e w' ⟨rfl, rfl⟩)
    | (go_at_call 24; with_reducible refine (within_no _ _ _ _ hq'.out).mono ?_; rintro e w' ⟨rfl, rfl⟩))
  refine bodyPost_ret (v := .tuple #[.int .i64 0, .int .i64 1]) (by simp [results, Tryd.results20, go_sem]) rfl ⟨rfl, ?_⟩
  repeat (first | exact Below.refl _ _ | refine Below.alloc ?_ (by simp <;> omega) _)

/-- The place of a part, as the code works it out. -/
theorem beg_at {k p c part q : Int} (hf : fits k p c = true) (q0 : 0 ≤ q) (q1 : q ≤ p - 1) (x : Nat) (hx : x ≤ 4) (e : (x : Int) = part) : beg (frm k p c x) (own p x) (each k p c x) q = atV k p c part q ∧ atE k p c part q = 0 := by
  subst e
  have h := atV_ok (part := (x : Int)) hf ⟨by omega, by omega⟩ ⟨q0, q1⟩
  rw [h.1]
  refine ⟨?_, h.2⟩
  unfold beg
  rcases (by omega : x = 0 ∨ x = 1 ∨ x = 2 ∨ x = 3 ∨ x = 4) with rfl | rfl | rfl | rfl | rfl
  · simp [own]
  · by_cases hp : p = 1
    · obtain rfl : q = 0 := by omega
      simp [own, hp]
    · simp [own, hp]
  · by_cases hp : p = 1
    · obtain rfl : q = 0 := by omega
      simp [own, hp]
    · simp [own, hp]
  · by_cases hp : p = 1
    · obtain rfl : q = 0 := by omega
      simp [own, hp]
    · simp [own, hp]
  · simp [own]

theorem qe_bd {k p c q : Int} (hf : fits k p c = true) (q0 : 0 ≤ q) (q1 : q ≤ p - 1) (x : Nat) : 0 ≤ q * each k p c x ∧ q * each k p c x ≤ 33872 := by
  have h := each_bd hf x
  have hv := fits_of hf
  have e1 : 0 ≤ q * each k p c x := Int.mul_nonneg q0 (by omega)
  have e2 : q * each k p c x ≤ 16 * each k p c x := Int.mul_le_mul_of_nonneg_right (by omega) (by omega)
  omega

/-- The frame of At in a round. -/
abbrev atF (b : Nat) (k p c part q : Int) (x : Nat) (Bx : Nat) : Array Value :=
  #[cf k p c, .int .i64 part, .int .i64 q, .pointer (some ⟨b, 0, none⟩), .pointer (some ⟨b + 1, 0, none⟩), .pointer (some ⟨b + 1 + 1, 0, none⟩), .pointer (some ⟨b + 1 + 1 + 1, 0, none⟩), .pointer (some ⟨b + 1 + 1 + 1 + 1, 0, none⟩),
    .int .i64 x, .pointer (some ⟨Bx, 0, none⟩), cf k p c, .bool true, .bool false, .int .i64 q, .pointer (some ⟨b, 1, none⟩), .int .i64 p, .int .i64 (p - 1), .bool true, .bool false, cf k p c,
    .func (.func 32) #[] #[.pointer (some ⟨b + 1 + 1 + 1 + 1 + 1 + 1, 0, none⟩)], .int .i64 x, sv (frm k p c x) (own p x) (each k p c x), undef, undef, undef, undef, undef, undef]

set_option maxRecDepth 100000 in
set_option maxHeartbeats 4000000 in
theorem at_yes (k p c part q : Int) (w : World) (hT : Tab w) (hf : fits k p c = true) (q0 : 0 ≤ q) (q1 : q ≤ p - 1) : Calls Tryd.prog 20 #[cf k p c, .int .i64 part, .int .i64 q] w fun e w' => e = .returned (.tuple #[.int .i64 (atV k p c part q), .int .i64 (atE k p c part q)]) ∧ Below w.heap.size w w' := by
  have hfn : ∀ f, Fence.wide.fn f := fun _ => trivial
  have hsa := Oper.semAt_some
  have hdep : Fence.wide.depth = none := rfl
  have hv := fits_of hf
  refine (callsIn_wide (n := 9)).1 ?_
  refine callsIn_of_wp_marks Tryd.func20 rfl trivial ?_ rfl
  simp only [Tryd.ntmps20, List.size_toArray, List.length_cons, List.length_nil, Nat.reduceAdd, Nat.reduceSub, Array.replicate_succ, Array.replicate_zero, List.push_toArray, List.append_toArray, List.nil_append, List.cons_append]
  gi_wp2_with (first
    | (gi_at_call 9; refine (callsIn_wide.2 (fits_any k p c _)).mono ?_; rintro e w' ⟨rfl, rfl⟩)
    | (gi_at_call 24; refine (callsIn_wide.2 (within_yes _ _ _ _ (by omega) (by omega))).mono ?_; rintro e w' ⟨rfl, rfl⟩)
    | (gi_at_call 26; refine (callsIn_wide.2 (parts_any k p c _)).mono ?_; rintro e w' ⟨rfl, rfl⟩))
  obtain ⟨W0, hW0⟩ : ∃ W0, ((((((w.alloc (bx k p c)).alloc (.cells #[.int .i64 part] 3)).alloc (.cells #[.int .i64 q] 3)).alloc (.cells #[.int .i64 0] 3)).alloc (.cells #[.int .i64 0] 32)).alloc (bx k p c)).alloc (bx k p c) = W0 := ⟨_, rfl⟩
  have bP : Boxed W0 (w.heap.size + 1) 3 (.int .i64 part) := by
    rw [← hW0]; have h := (((((Boxed.new (w.alloc (bx k p c)) 3 (.int .i64 part)).alloc (.cells #[.int .i64 q] 3)).alloc (.cells #[.int .i64 0] 3)).alloc (.cells #[.int .i64 0] 32)).alloc (bx k p c)).alloc (bx k p c); simpa only [World.size_alloc] using h
  have bQ : Boxed W0 (w.heap.size + 1 + 1) 3 (.int .i64 q) := by
    rw [← hW0]; have h := ((((Boxed.new ((w.alloc (bx k p c)).alloc (.cells #[.int .i64 part] 3)) 3 (.int .i64 q)).alloc (.cells #[.int .i64 0] 3)).alloc (.cells #[.int .i64 0] 32)).alloc (bx k p c)).alloc (bx k p c); simpa only [World.size_alloc] using h
  have bR : Boxed W0 (w.heap.size + 1 + 1 + 1) 3 (.int .i64 0) := by
    rw [← hW0]; have h := (((Boxed.new (((w.alloc (bx k p c)).alloc (.cells #[.int .i64 part] 3)).alloc (.cells #[.int .i64 q] 3)) 3 (.int .i64 0)).alloc (.cells #[.int .i64 0] 32)).alloc (bx k p c)).alloc (bx k p c); simpa only [World.size_alloc] using h
  have bE : Boxed W0 (w.heap.size + 1 + 1 + 1 + 1) 32 (.int .i64 0) := by
    rw [← hW0]; have h := ((Boxed.new ((((w.alloc (bx k p c)).alloc (.cells #[.int .i64 part] 3)).alloc (.cells #[.int .i64 q] 3)).alloc (.cells #[.int .i64 0] 3)) 32 (.int .i64 0)).alloc (bx k p c)).alloc (bx k p c); simpa only [World.size_alloc] using h
  have hbx : Box W0 (w.heap.size + 1 + 1 + 1 + 1 + 1 + 1) k p c := by
    rw [← hW0]; have h := box_new ((((((w.alloc (bx k p c)).alloc (.cells #[.int .i64 part] 3)).alloc (.cells #[.int .i64 q] 3)).alloc (.cells #[.int .i64 0] 3)).alloc (.cells #[.int .i64 0] 32)).alloc (bx k p c)) k p c; simpa only [World.size_alloc] using h
  have hB0 : Below w.heap.size w W0 := by
    rw [← hW0]; repeat (first | exact Below.refl _ _ | refine Below.alloc ?_ (by simp <;> omega) _)
  have hsz : W0.heap.size = w.heap.size + 7 := by rw [← hW0]; simp
  rw [hW0]
  clear hW0
  refine wpIn_rangeFunc_ownH rfl (by omega) (gf := 32) (lb := #[.pointer (some ⟨w.heap.size + 1 + 1 + 1 + 1 + 1 + 1, 0, none⟩)]) rfl trivial (enters_of Tryd.func32 (by kernel_rfl) rfl)
    (parts_stops _ k p c (w.heap.size + 1 + 1 + 1 + 1 + 1 + 1) W0.heap.size W0 (hT.below hB0) hbx (Nat.le_refl _)) KeepsCells.trans (KeepsCells.put (w := W0)) (Below.refl _ _) (fun _ => rfl)
    (fun pre W => (((∀ y ∈ pre, (y : Int) ≠ part) ∧ Boxed W (w.heap.size + 1) 3 (.int .i64 part)) ∧ (Boxed W (w.heap.size + 1 + 1) 3 (.int .i64 q) ∧ (Boxed W (w.heap.size + 1 + 1 + 1) 3 (.int .i64 0) ∧ Boxed W (w.heap.size + 1 + 1 + 1 + 1) 32 (.int .i64 0)))) ∧ Below w.heap.size w W)
    (fun cd pre W => ((cd = .ret ∧ ∃ x : Nat, x ∈ pre ∧ (x : Int) = part) ∧ (Boxed W (w.heap.size + 1 + 1 + 1) 3 (.int .i64 (beg (frm k p c part.toNat) (own p part.toNat) (each k p c part.toNat) q)) ∧ Boxed W (w.heap.size + 1 + 1 + 1 + 1) 32 (.int .i64 0))) ∧ Below w.heap.size w W)
    (OwnFrom.and (OwnFrom.and (OwnFrom.and (ownFrom_pure _ _) (Own.from (boxed_own _ _ _) _)) (OwnFrom.and (Own.from (boxed_own _ _ _) _) (OwnFrom.and (Own.from (boxed_own _ _ _) _) (Own.from (boxed_own _ _ _) _)))) (ownFrom_below (Nat.le_refl _) (by omega)))
    (fun cd => OwnFrom.and (OwnFrom.and (ownFrom_pure _ _) (OwnFrom.and (Own.from (boxed_own _ _ _) _) (Own.from (boxed_own _ _ _) _))) (ownFrom_below (Nat.le_refl _) (by omega)))
    ⟨⟨⟨by simp, bP⟩, bQ, bR, bE⟩, hB0⟩
    (fun x a' W => ∃ Bx, w.heap.size + 1 + 1 + 1 + 1 < Bx ∧ W.heap[Bx]? = some (sx (frm k p c x) (own p x) (each k p c x)) ∧ a' = { tmps := atF w.heap.size k p c part q x Bx, defers := [] })
    (fun x a' _ X Y row hs hg hr => by obtain ⟨Bx, h1, h2, h3⟩ := hs; exact ⟨Bx, h1, boxed_obj Bx _ rfl () X Y row h2 hg (fun r e => (hr r e).2), h3⟩)
    ?assign ?body ?done ?stop
  case assign =>
    rintro l pre x W K ⟨⟨⟨hp, bP1⟩, bQ1, bR1, bE1⟩, hB1⟩ hK
    unfold encs
    gi_wp2
    exact hK _ _ ((KeepsOthers.alloc _ _).from _) (keepsCells_alloc _ _ _) ⟨⟨⟨hp, bP1.alloc _⟩, bQ1.alloc _, bR1.alloc _, bE1.alloc _⟩, hB1.alloc hB1.size _⟩ ⟨W.heap.size, bE1.lt, World.alloc_heap_new W _, rfl⟩
  case body =>
    rintro l pre x a' W hl ⟨r, hr⟩ ⟨⟨⟨hp, bP1⟩, bQ1, bR1, bE1⟩, hB1⟩ ⟨Bx, hBx, bX, rfl⟩ hlt
    have cP := bP1.cell
    have cQ := bQ1.cell
    have cR := bR1.cell
    have fR := bR1.frozen
    have cE := bE1.cell
    have fE := bE1.frozen
    have hl2 : w.heap.size + 1 + 1 + 1 < W.heap.size := bR1.lt
    have hl1 : w.heap.size + 1 + 1 + 1 + 1 < W.heap.size := bE1.lt
    have c0 : W.cell? ⟨Bx, 0, none⟩ = some (.int .i64 (frm k p c x)) := by unfold World.cell?; rw [bX]; rfl
    have c1 : W.cell? ⟨Bx, 1, none⟩ = some (.int .i64 (own p x)) := by unfold World.cell?; rw [bX]; rfl
    have c2 : W.cell? ⟨Bx, 2, none⟩ = some (.int .i64 (each k p c x)) := by unfold World.cell?; rw [bX]; rfl
    have hfb := frm_bd hf x
    have hqe := qe_bd hf q0 q1 x
    have hfd : (Fence.wide.inRound l).depth = none := rfl
    have hff : ∀ f, (Fence.wide.inRound l).fn f := fun _ => trivial
    have hp' := Lib.hid hp
    clear hp
    by_cases hx : (x : Int) = part
    · subst hx
      gi_wp2_with (gi_at_call 29; refine (CallsIn.inRound l (callsIn_wide.2 (begin_any _ _ _ _ _ (by omega) (by omega) (by omega) (by omega)))).mono ?_; rintro e w' ⟨rfl, rfl⟩)
      exact ⟨(((KeepsOthers.setCell _ _ _).trans (KeepsOthers.setCell _ _ _)).trans (KeepsOthers.alloc _ _)).from _,
        ⟨⟨rfl, x, by simp, rfl⟩, by rw [Int.toNat_natCast]; exact ((bR1.set _).other (by omega) _).alloc _, ((bE1.other (by omega) _).set _).alloc _⟩,
        ((hB1.setCell (p := ⟨w.heap.size + 1 + 1 + 1, 0, none⟩) (by simp; omega) _).setCell (p := ⟨w.heap.size + 1 + 1 + 1 + 1, 0, none⟩) (by simp; omega) _).alloc (by have := hB1.size; simpa [World.setCell] using this) _⟩
    · have hx' : ((x : Int) == part) = false := by simpa using hx
      have hx2 := Lib.hid hx
      clear hx
      gi_wp2
      exact ⟨KeepsFrom.refl _ _, KeepsCells.refl _ _, ⟨⟨fun y hy => (List.mem_append.1 hy).elim (hp'.out y) (fun e => by simp at e; subst e; exact hx2.out), bP1⟩, bQ1, bR1, bE1⟩, hB1⟩
  case done =>
    rintro D ys W hD hxs ⟨⟨⟨hp, bP1⟩, bQ1, bR1, bE1⟩, hB1⟩ hK
    have cR := bR1.cell
    have fR := bR1.frozen
    have cE := bE1.cell
    have fE := bE1.frozen
    gi_wp2
    have hno := atV_arg (part := part) (q := q) hf (fun h => by
      unfold allXs at hxs; rw [if_pos hf] at hxs
      exact hp part.toNat (by rw [hxs]; simp; omega) (by omega))
    have hK' := ((KeepsOthers.setCell W ⟨w.heap.size + 1 + 1 + 1, 0, none⟩ (.int .i64 0)).trans (KeepsOthers.setCell _ ⟨w.heap.size + 1 + 1 + 1 + 1, 0, none⟩ (.int .i64 1))).same D _ hK rfl
    refine ⟨by simp, .inl ⟨_, _, rfl, run_takeDeferred hK', ?_⟩⟩
    have hc5 := cell_kept ((bR1.set (.int .i64 0)).other (B' := w.heap.size + 1 + 1 + 1 + 1) (by omega) (.int .i64 1)).cell (grownBy_putObj' _ D (.deferred none)) (fun r e => by cases e; exact ⟨_, hK', rfl⟩)
    have hc6 := cell_kept ((bE1.other (B' := w.heap.size + 1 + 1 + 1) (by omega) (.int .i64 0)).set (.int .i64 1)).cell (grownBy_putObj' _ D (.deferred none)) (fun r e => by cases e; exact ⟨_, hK', rfl⟩)
    refine ⟨.tuple #[.int .i64 0, .int .i64 1], ?_, by rw [hno.1, hno.2], ((hB1.setCell (p := ⟨w.heap.size + 1 + 1 + 1, 0, none⟩) (by simp; omega) _).setCell (p := ⟨w.heap.size + 1 + 1 + 1 + 1, 0, none⟩) (by simp; omega) _).trans (belowK_b (w := w) (Nat.le_refl _) _ D _ _ (by omega) hK' rfl rfl)⟩
    simp [results, Tryd.f20, go_sem, hc5, hc6]
  case stop =>
    rintro D cd pre W hD hpre ⟨⟨⟨rfl, x, hx1, hx2⟩, bR1, bE1⟩, hB1⟩ hK
    gi_wp2
    obtain ⟨_, j, hj, rfl⟩ := hpre
    have hx4 : x ≤ 4 := by have := List.mem_range.1 hx1; omega
    have hyes := beg_at hf q0 q1 x hx4 hx2
    have hxt : part.toNat = x := by omega
    rw [hxt, hyes.1] at bR1
    refine ⟨by simp, .inl ⟨_, _, rfl, run_takeDeferred hK, ?_⟩⟩
    have hc5 := cell_kept bR1.cell (grownBy_putObj' _ D (.deferred none)) (fun r e => by cases e; exact ⟨_, hK, rfl⟩)
    have hc6 := cell_kept bE1.cell (grownBy_putObj' _ D (.deferred none)) (fun r e => by cases e; exact ⟨_, hK, rfl⟩)
    refine ⟨.tuple #[.int .i64 (atV k p c part q), .int .i64 0], ?_, by rw [hyes.2], hB1.trans (belowK_b (w := w) (Nat.le_refl _) _ D _ _ (by omega) hK rfl rfl)⟩
    simp [results, Tryd.f20, go_sem, hc5, hc6]

theorem at_any (k p c part q : Int) (w : World) (hT : Tab w) : Calls Tryd.prog 20 #[cf k p c, .int .i64 part, .int .i64 q] w fun e w' => e = .returned (.tuple #[.int .i64 (atV k p c part q), .int .i64 (atE k p c part q)]) ∧ Below w.heap.size w w' := by
  by_cases hf : fits k p c = true
  · by_cases hq : 0 ≤ q ∧ q ≤ p - 1
    · exact at_yes k p c part q w hT hf hq.1 hq.2
    · have h := atV_arg (part := part) hf (fun x => hq x.2)
      rw [h.1, h.2]; exact at_arg k p c part q w hf hq
  · have hf' : fits k p c = false := by simpa using hf
    have h := atV_conf (part := part) (q := q) hf'
    rw [h.1, h.2]; exact at_conf k p c part q w hf'

end Go.Proofs.YtbgeojahhbchlaaDoor
