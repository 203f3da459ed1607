/-
  What Where of package region returns, in whatever world that holds the package's table, for integers; it leaves memory as it was, but for new blocks and draws.
-/
import Derived.Test.YtbgeojahhbchlaaDoorAt
import Derived.Test.YtbgeojahhbchlaaDoorBridge
namespace Go.Proofs.YtbgeojahhbchlaaDoor
open Go.RowKit Go.Shelf

theorem cell_far {w : World} {b o b' o' : Nat} {v : Value} (h : b' ≠ b) : (w.setCell ⟨b, o, none⟩ v).cell? ⟨b', o', none⟩ = w.cell? ⟨b', o', none⟩ := World.cell?_setCell_other _ _ _ _ (fun e => h (by cases e; rfl))
theorem alloc_cell {w : World} {o : Obj} {a : Addr} {v : Value} (h : w.cell? a = some v) : (w.alloc o).drew.drew.cell? a = some v := (World.cell?_alloc_lt w o a (World.block_lt_of_cell? w a h)).trans h
theorem quo_in (a b : Int) (h0 : 0 ≤ a) (h1 : a < 1000000) (h2 : 1 ≤ b) : IntKind.i64.wrap (a.tdiv b) = a / b := by
  rw [Int.tdiv_eq_ediv_of_nonneg h0]
  have e1 : 0 ≤ a / b := Int.ediv_nonneg h0 (by omega)
  have e2 : a / b ≤ a := Int.ediv_le_self b h0
  exact IntWalk.i64_in _ (by omega)

theorem ownFrom_ex {β γ : Type} {B : Nat} {I : γ → β → World → Prop} (h : ∀ y, OwnFrom B (I y)) : OwnFrom B (fun s W => ∃ y, I y s W) :=
  fun s X Y row hs hg hr => by obtain ⟨y, hy⟩ := hs; exact ⟨y, h y s X Y row hy hg hr⟩

/-- The frame of Where in a round. -/
abbrev whF (b : Nat) (k p c x : Int) (y : Nat) (Bx : Nat) : Array Value :=
  #[cf k p c, .int .i64 x, .pointer (some ⟨b, 0, none⟩), .pointer (some ⟨b + 1, 0, none⟩), .pointer (some ⟨b + 1 + 1, 0, none⟩), .pointer (some ⟨b + 1 + 1 + 1, 0, none⟩), .pointer (some ⟨b + 1 + 1 + 1 + 1, 0, none⟩),
    .int .i64 y, .pointer (some ⟨Bx, 0, none⟩), undef, cf k p c, .func (.func 32) #[] #[.pointer (some ⟨b + 1 + 1 + 1 + 1 + 1, 0, none⟩)], .int .i64 y, sv (frm k p c y) (own p y) (each k p c y),
    undef, undef, undef, undef, undef, undef, undef, undef, undef, undef, undef, undef, undef, undef, undef, undef, undef, undef, undef, undef, undef, undef, undef]

set_option maxRecDepth 100000 in
set_option maxHeartbeats 8000000 in
theorem where_any (k p c x : Int) (w : World) (hT : Tab w) : Calls Tryd.prog 22 #[cf k p c, .int .i64 x] w fun e w' => e = .returned (.tuple #[.int .i64 (whA k p c x), .int .i64 (whB k p c x), .int .i64 (whC k p c x)]) ∧ Below w.heap.size w w' := by
  have hfn : ∀ f, Fence.wide.fn f := fun _ => trivial
  have hsa := Oper.semAt_some
  have hdep : Fence.wide.depth = none := rfl
  refine (callsIn_wide (n := 9)).1 ?_
  refine callsIn_of_wp_marks Tryd.func22 rfl trivial ?_ rfl
  simp only [Tryd.ntmps22, List.size_toArray, List.length_cons, List.length_nil, Nat.reduceAdd, Nat.reduceSub, Array.replicate_succ, Array.replicate_zero, List.push_toArray, List.append_toArray, List.nil_append, List.cons_append]
  gi_wp2_with (gi_at_call 26; refine (callsIn_wide.2 (parts_any k p c _)).mono ?_; rintro e w' ⟨rfl, rfl⟩)
  obtain ⟨W0, hW0⟩ : ∃ W0, (((((w.alloc (bx k p c)).alloc (.cells #[.int .i64 x] 3)).alloc (.cells #[.int .i64 0] 3)).alloc (.cells #[.int .i64 0] 3)).alloc (.cells #[.int .i64 0] 3)).alloc (bx k p c) = W0 := ⟨_, rfl⟩
  have bX : Boxed W0 (w.heap.size + 1) 3 (.int .i64 x) := by
    rw [← hW0]; have h := ((((Boxed.new (w.alloc (bx k p c)) 3 (.int .i64 x)).alloc (.cells #[.int .i64 0] 3)).alloc (.cells #[.int .i64 0] 3)).alloc (.cells #[.int .i64 0] 3)).alloc (bx k p c); simpa only [World.size_alloc] using h
  have bR : Boxed W0 (w.heap.size + 1 + 1) 3 (.int .i64 0) := by
    rw [← hW0]; have h := (((Boxed.new ((w.alloc (bx k p c)).alloc (.cells #[.int .i64 x] 3)) 3 (.int .i64 0)).alloc (.cells #[.int .i64 0] 3)).alloc (.cells #[.int .i64 0] 3)).alloc (bx k p c); simpa only [World.size_alloc] using h
  have bS : Boxed W0 (w.heap.size + 1 + 1 + 1) 3 (.int .i64 0) := by
    rw [← hW0]; have h := ((Boxed.new (((w.alloc (bx k p c)).alloc (.cells #[.int .i64 x] 3)).alloc (.cells #[.int .i64 0] 3)) 3 (.int .i64 0)).alloc (.cells #[.int .i64 0] 3)).alloc (bx k p c); simpa only [World.size_alloc] using h
  have bU : Boxed W0 (w.heap.size + 1 + 1 + 1 + 1) 3 (.int .i64 0) := by
    rw [← hW0]; have h := (Boxed.new ((((w.alloc (bx k p c)).alloc (.cells #[.int .i64 x] 3)).alloc (.cells #[.int .i64 0] 3)).alloc (.cells #[.int .i64 0] 3)) 3 (.int .i64 0)).alloc (bx k p c); simpa only [World.size_alloc] using h
  have hbx : Box W0 (w.heap.size + 1 + 1 + 1 + 1 + 1) k p c := by
    rw [← hW0]; have h := box_new (((((w.alloc (bx k p c)).alloc (.cells #[.int .i64 x] 3)).alloc (.cells #[.int .i64 0] 3)).alloc (.cells #[.int .i64 0] 3)).alloc (.cells #[.int .i64 0] 3)) k p c; simpa only [World.size_alloc] using h
  have hB0 : Below w.heap.size w W0 := by
    rw [← hW0]; repeat (first | exact Below.refl _ _ | refine Below.alloc ?_ (by simp <;> omega) _)
  have hsz : W0.heap.size = w.heap.size + 6 := by rw [← hW0]; simp
  rw [hW0]
  clear hW0
  refine wpIn_rangeFunc_ownH rfl (by omega) (gf := 32) (lb := #[.pointer (some ⟨w.heap.size + 1 + 1 + 1 + 1 + 1, 0, none⟩)]) rfl trivial (enters_of Tryd.func32 (by kernel_rfl) rfl)
    (parts_stops _ k p c (w.heap.size + 1 + 1 + 1 + 1 + 1) W0.heap.size W0 (hT.below hB0) hbx (Nat.le_refl _)) KeepsCells.trans (KeepsCells.put (w := W0)) (Below.refl _ _) (fun _ => rfl)
    (fun pre W => (((∀ y ∈ pre, ¬ inPart k p c x y) ∧ Boxed W (w.heap.size + 1) 3 (.int .i64 x)) ∧ (Boxed W (w.heap.size + 1 + 1) 3 (.int .i64 0) ∧ (Boxed W (w.heap.size + 1 + 1 + 1) 3 (.int .i64 0) ∧ Boxed W (w.heap.size + 1 + 1 + 1 + 1) 3 (.int .i64 0)))) ∧ Below w.heap.size w W)
    (fun cd pre W => (∃ y : Nat, (cd = .ret ∧ y ∈ pre ∧ inPart k p c x y) ∧ (Boxed W (w.heap.size + 1 + 1) 3 (.int .i64 y) ∧ (Boxed W (w.heap.size + 1 + 1 + 1) 3 (.int .i64 ((x - frm k p c y) / each k p c y)) ∧ Boxed W (w.heap.size + 1 + 1 + 1 + 1) 3 (.int .i64 ((x - frm k p c y) % each k p c y))))) ∧ Below w.heap.size w W)
    (OwnFrom.and (OwnFrom.and (OwnFrom.and (ownFrom_pure _ _) (Own.from (boxed_own _ _ _) _)) (OwnFrom.and (Own.from (boxed_own _ _ _) _) (OwnFrom.and (Own.from (boxed_own _ _ _) _) (Own.from (boxed_own _ _ _) _)))) (ownFrom_below (Nat.le_refl _) (by omega)))
    (fun cd => OwnFrom.and (ownFrom_ex (fun y => OwnFrom.and (ownFrom_pure _ _) (OwnFrom.and (Own.from (boxed_own _ _ _) _) (OwnFrom.and (Own.from (boxed_own _ _ _) _) (Own.from (boxed_own _ _ _) _))))) (ownFrom_below (Nat.le_refl _) (by omega)))
    ⟨⟨⟨by simp, bX⟩, bR, bS, bU⟩, hB0⟩
    (fun y a' W => ∃ Bx, w.heap.size + 1 + 1 + 1 + 1 < Bx ∧ W.heap[Bx]? = some (sx (frm k p c y) (own p y) (each k p c y)) ∧ a' = { tmps := whF w.heap.size k p c x y Bx, defers := [] })
    (fun y a' _ X Y row hs hg hr => by obtain ⟨Bx, h1, h2, h3⟩ := hs; exact ⟨Bx, h1, boxed_obj Bx _ rfl () X Y row h2 hg (fun r e => (hr r e).2), h3⟩)
    ?assign ?body ?done ?stop
  case assign =>
    rintro l pre y W K ⟨⟨⟨hp, bX1⟩, bR1, bS1, bU1⟩, hB1⟩ hK
    unfold encs
    gi_wp2
    exact hK _ _ ((KeepsOthers.alloc _ _).from _) (keepsCells_alloc _ _ _) ⟨⟨⟨hp, bX1.alloc _⟩, bR1.alloc _, bS1.alloc _, bU1.alloc _⟩, hB1.alloc hB1.size _⟩ ⟨W.heap.size, bU1.lt, World.alloc_heap_new W _, rfl⟩
  case body =>
    rintro l pre y a' W hl ⟨r, hr⟩ ⟨⟨⟨hp, bX1⟩, bR1, bS1, bU1⟩, hB1⟩ ⟨Bx, hBx, bX, rfl⟩ hlt
    obtain ⟨hf, hlt⟩ := nXs_fits hlt
    have cX := bX1.cell
    have c0 : W.cell? ⟨Bx, 0, none⟩ = some (.int .i64 (frm k p c y)) := by unfold World.cell?; rw [bX]; rfl
    have c1 : W.cell? ⟨Bx, 1, none⟩ = some (.int .i64 (own p y)) := by unfold World.cell?; rw [bX]; rfl
    have c2 : W.cell? ⟨Bx, 2, none⟩ = some (.int .i64 (each k p c y)) := by unfold World.cell?; rw [bX]; rfl
    have hlX : w.heap.size + 1 < W.heap.size := bX1.lt
    have hlB : Bx < W.heap.size := (Array.getElem?_eq_some_iff.1 bX).1
    have hfb := frm_bd hf y
    have hob := cells_bd hf y
    have hfd : (Fence.wide.inRound l).depth = none := rfl
    have hff : ∀ f, (Fence.wide.inRound l).fn f := fun _ => trivial
    have hmx : Tryd.prog.follows .mixedOrders = true := by kernel_rfl
    have hw1 : IntKind.i64.wrap (frm k p c y + own p y * each k p c y) = frm k p c y + own p y * each k p c y := IntWalk.i64_in _ (by omega)
    have hw2 : IntKind.i64.wrap (frm k p c y + own p y * each k p c y - 1) = frm k p c y + own p y * each k p c y - 1 := IntWalk.i64_in _ (by omega)
    have hp' := Lib.hid hp
    clear hp
    have hS2 : RowKit.Hid ((W.drew.alloc (sx (frm k p c y) (own p y) (each k p c y))).cell? ⟨w.heap.size + 1, 0, none⟩ = some (.int .i64 x) ∧ (W.drew.alloc (sx (frm k p c y) (own p y) (each k p c y))).cell? ⟨Bx, 0, none⟩ = some (.int .i64 (frm k p c y)) ∧
        (W.drew.alloc (sx (frm k p c y) (own p y) (each k p c y))).cell? ⟨Bx, 1, none⟩ = some (.int .i64 (own p y)) ∧ (W.drew.alloc (sx (frm k p c y) (own p y) (each k p c y))).cell? ⟨Bx, 2, none⟩ = some (.int .i64 (each k p c y))) := Lib.hid
      ⟨(World.cell?_alloc_lt _ _ _ hlX).trans cX, (World.cell?_alloc_lt _ _ _ hlB).trans c0, (World.cell?_alloc_lt _ _ _ hlB).trans c1, (World.cell?_alloc_lt _ _ _ hlB).trans c2⟩
    by_cases hx : inPart k p c x y
    · obtain ⟨hx0, hx1⟩ := hx
      gi_wp2
      refine wpIn_mono (Q := Exit.then (fun a' w' => a' = { tmps := #[cf k p c, .int .i64 x, .pointer (some ⟨w.heap.size, 0, none⟩), .pointer (some ⟨w.heap.size + 1, 0, none⟩), .pointer (some ⟨w.heap.size + 1 + 1, 0, none⟩), .pointer (some ⟨w.heap.size + 1 + 1 + 1, 0, none⟩), .pointer (some ⟨w.heap.size + 1 + 1 + 1 + 1, 0, none⟩),
        .int .i64 y, .pointer (some ⟨Bx, 0, none⟩), undef, cf k p c, .func (.func 32) #[] #[.pointer (some ⟨w.heap.size + 1 + 1 + 1 + 1 + 1, 0, none⟩)], .int .i64 y, sv (frm k p c y) (own p y) (each k p c y),
        .int .i64 x, .pointer (some ⟨Bx, 0, none⟩), .int .i64 (frm k p c y), .pointer (some ⟨Bx, 0, none⟩), .int .i64 (frm k p c y), sv (frm k p c y) (own p y) (each k p c y), .int .i64 (own p y * each k p c y), .int .i64 (frm k p c y + own p y * each k p c y), .int .i64 (frm k p c y + own p y * each k p c y - 1), .bool true, undef, undef, undef, undef, undef, undef, undef, undef, undef, undef, undef, undef, undef], defers := [] } ∧ w' = W.drew.alloc (sx (frm k p c y) (own p y) (each k p c y))) (fun _ _ _ => False)) ?_ ?_
      · refine wpIn_region_held (S := fun w' => w'.cell? ⟨w.heap.size + 1, 0, none⟩ = some (.int .i64 x) ∧ w'.cell? ⟨Bx, 0, none⟩ = some (.int .i64 (frm k p c y)) ∧ w'.cell? ⟨Bx, 1, none⟩ = some (.int .i64 (own p y)) ∧ w'.cell? ⟨Bx, 2, none⟩ = some (.int .i64 (each k p c y))) (by kernel_rfl) (by kernel_rfl) (fun h => by obtain ⟨_, _, h⟩ := h; exact h) ⟨cX, c0, c1, c2⟩ (fun hHeld => ?_)
        refine wpAnyH_take (i := 0) (v := .int .i64 x) rfl (by kernel_rfl) (by kernel_rfl) (by kernel_rfl) (fun _ _ _ h => h) (Or.inl ⟨by rfl, ?_⟩) (by assumption) ?_
        · rintro w ⟨h1, h2, h3, h4⟩
          go_simp
        refine wpAnyH_take (i := 1) (v := .pointer (some ⟨Bx, 0, none⟩)) rfl (by kernel_rfl) (by kernel_rfl) (by kernel_rfl) (fun _ _ _ h => h) (Or.inl ⟨by rfl, ?_⟩) (by assumption) ?_
        · rintro w ⟨h1, h2, h3, h4⟩
          go_simp
        refine wpAnyH_take (i := 2) (v := .int .i64 (frm k p c y)) rfl (by kernel_rfl) (by kernel_rfl) (by kernel_rfl) (fun _ _ _ h => h) (Or.inl ⟨by rfl, ?_⟩) (by assumption) ?_
        · rintro w ⟨h1, h2, h3, h4⟩
          go_simp
        refine wpAnyH_take (i := 3) (v := .pointer (some ⟨Bx, 0, none⟩)) rfl (by kernel_rfl) (by kernel_rfl) (by kernel_rfl) (fun _ _ _ h => h) (Or.inl ⟨by rfl, ?_⟩) (by assumption) ?_
        · rintro w ⟨h1, h2, h3, h4⟩
          go_simp
        refine wpAnyH_take (i := 4) (v := .int .i64 (frm k p c y)) rfl (by kernel_rfl) (by kernel_rfl) (by kernel_rfl) (fun _ _ _ h => h) (Or.inl ⟨by rfl, ?_⟩) (by assumption) ?_
        · rintro w ⟨h1, h2, h3, h4⟩
          go_simp
        refine wpAnyH_take (i := 5) (v := sv (frm k p c y) (own p y) (each k p c y)) rfl (by kernel_rfl) (by kernel_rfl) (by kernel_rfl) (fun _ _ _ h => h) (Or.inl ⟨by rfl, ?_⟩) (by assumption) ?_
        · rintro w ⟨h1, h2, h3, h4⟩
          go_simp
        refine wpAnyH_ready (rs := [6]) (by kernel_rfl) (by simp) ?_
        refine AllReadyH.cons rfl (fun K hK => ?_) AllReadyH.nil
        go_simp
        refine (cells_any _ _ _ (own p y * each k p c y) _ (Lib.hid rfl) (by omega) (by omega)).mono ?_
        rintro e w' ⟨rfl, rfl⟩
        refine hK.out _ _ hS2.out (fun hHeld => ?_)
        clear hK K
        refine wpAnyH_take (i := 7) (v := .int .i64 (frm k p c y + own p y * each k p c y)) rfl (by kernel_rfl) (by kernel_rfl) (by kernel_rfl) (fun _ _ _ h => h) (Or.inl ⟨by rfl, ?_⟩) (by assumption) ?_
        · rintro w ⟨h1, h2, h3, h4⟩
          go_simp
        refine wpAnyH_take (i := 8) (v := .int .i64 (frm k p c y + own p y * each k p c y - 1)) rfl (by kernel_rfl) (by kernel_rfl) (by kernel_rfl) (fun _ _ _ h => h) (Or.inl ⟨by rfl, ?_⟩) (by assumption) ?_
        · rintro w ⟨h1, h2, h3, h4⟩
          go_simp
        refine wpAnyH_ready (rs := [9]) (by kernel_rfl) (by simp) ?_
        refine AllReadyH.cons rfl (fun K hK => ?_) AllReadyH.nil
        go_simp
        refine (within_yes _ _ _ _ (by omega) (by omega)).mono ?_
        rintro e w' ⟨rfl, rfl⟩
        refine hK.out _ _ hS2.out (fun hHeld => ?_)
        clear hK K
        exact wpAnyH_done (by kernel_rfl) ⟨rfl, rfl⟩ _
      · rintro e a3 W3 hp3
        cases e with
        | normal =>
          obtain ⟨rfl, rfl⟩ := hp3
          have cR := bR1.cell
          have fR := bR1.frozen
          have cS := bS1.cell
          have fS := bS1.frozen
          have cU := bU1.cell
          have fU := bU1.frozen
          have hlR : w.heap.size + 1 + 1 < W.heap.size := bR1.lt
          have hlS : w.heap.size + 1 + 1 + 1 < W.heap.size := bS1.lt
          have hlU : w.heap.size + 1 + 1 + 1 + 1 < W.heap.size := bU1.lt
          have heb := each_bd hf y
          have hxb := frm_bd hf y
          obtain ⟨d1, d2, d3, d4⟩ := hS2.out
          gi_wp2
          have hD0 : 0 ≤ x - frm k p c y := by omega
          have hne : each k p c y ≠ 0 := by omega
          have hq : RowKit.Hid (IntKind.i64.wrap ((x - frm k p c y).tdiv (each k p c y)) = (x - frm k p c y) / each k p c y) := Lib.hid (quo_in _ _ hD0 (by omega) heb.1)
          have hr : RowKit.Hid ((x - frm k p c y).tmod (each k p c y) = (x - frm k p c y) % each k p c y) := Lib.hid (Int.tmod_eq_emod_of_nonneg hD0)
          refine wpIn_mono (Q := Exit.then (fun a' w' => a' = { tmps := #[cf k p c, .int .i64 x, .pointer (some ⟨w.heap.size, 0, none⟩), .pointer (some ⟨w.heap.size + 1, 0, none⟩), .pointer (some ⟨w.heap.size + 1 + 1, 0, none⟩), .pointer (some ⟨w.heap.size + 1 + 1 + 1, 0, none⟩), .pointer (some ⟨w.heap.size + 1 + 1 + 1 + 1, 0, none⟩),
            .int .i64 y, .pointer (some ⟨Bx, 0, none⟩), .int .i64 (x - frm k p c y), cf k p c, .func (.func 32) #[] #[.pointer (some ⟨w.heap.size + 1 + 1 + 1 + 1 + 1, 0, none⟩)], .int .i64 y, sv (frm k p c y) (own p y) (each k p c y),
            .int .i64 x, .pointer (some ⟨Bx, 0, none⟩), .int .i64 (frm k p c y), .pointer (some ⟨Bx, 0, none⟩), .int .i64 (frm k p c y), sv (frm k p c y) (own p y) (each k p c y), .int .i64 (own p y * each k p c y), .int .i64 (frm k p c y + own p y * each k p c y), .int .i64 (frm k p c y + own p y * each k p c y - 1), .bool true,
            .int .i64 x, .pointer (some ⟨Bx, 0, none⟩), .int .i64 (frm k p c y), .int .i64 (x - frm k p c y), .int .i64 y, .int .i64 (x - frm k p c y), .pointer (some ⟨Bx, 2, none⟩), .int .i64 (each k p c y), .int .i64 ((x - frm k p c y) / each k p c y), .int .i64 (x - frm k p c y), .pointer (some ⟨Bx, 2, none⟩), .int .i64 (each k p c y), .int .i64 ((x - frm k p c y) % each k p c y)], defers := [] } ∧ w' = ((((W.setCell ⟨w.heap.size + 1 + 1, 0, none⟩ (.int .i64 y)).setCell ⟨w.heap.size + 1 + 1 + 1, 0, none⟩ (.int .i64 ((x - frm k p c y) / each k p c y))).setCell ⟨w.heap.size + 1 + 1 + 1 + 1, 0, none⟩ (.int .i64 ((x - frm k p c y) % each k p c y))).alloc (sx (frm k p c y) (own p y) (each k p c y))).drew.drew) (fun _ _ _ => False)) ?_ ?_
          · refine wpIn_region_held (S := fun w' => w'.cell? ⟨Bx, 2, none⟩ = some (.int .i64 (each k p c y))) (by kernel_rfl) (by kernel_rfl) (fun h => by obtain ⟨_, _, h⟩ := h; exact h) d4 (fun hHeld => ?_)
            refine wpAnyH_take (i := 0) (v := .int .i64 y) rfl (by kernel_rfl) (by kernel_rfl) (by kernel_rfl) (fun _ _ _ h => h) (Or.inl ⟨by rfl, ?_⟩) (by assumption) ?_
            · rintro w h1
              go_simp
            refine wpAnyH_take (i := 1) (v := .int .i64 (x - frm k p c y)) rfl (by kernel_rfl) (by kernel_rfl) (by kernel_rfl) (fun _ _ _ h => h) (Or.inl ⟨by rfl, ?_⟩) (by assumption) ?_
            · rintro w h1
              go_simp
            refine wpAnyH_take (i := 2) (v := .pointer (some ⟨Bx, 2, none⟩)) rfl (by kernel_rfl) (by kernel_rfl) (by kernel_rfl) (fun _ _ _ h => h) (Or.inl ⟨by rfl, ?_⟩) (by assumption) ?_
            · rintro w h1
              go_simp
            refine wpAnyH_take (i := 3) (v := .int .i64 (each k p c y)) rfl (by kernel_rfl) (by kernel_rfl) (by kernel_rfl) (fun _ _ _ h => h) (Or.inl ⟨by rfl, ?_⟩) (by assumption) ?_
            · rintro w h1
              go_simp
            refine wpAnyH_take (i := 4) (v := .int .i64 ((x - frm k p c y) / each k p c y)) rfl (by kernel_rfl) (by kernel_rfl) (by kernel_rfl) (fun _ _ _ h => h) (Or.inl ⟨by rfl, ?_⟩) (by assumption) ?_
            · rintro w h1
              go_simp
              exact hq.out
            refine wpAnyH_take (i := 5) (v := .int .i64 (x - frm k p c y)) rfl (by kernel_rfl) (by kernel_rfl) (by kernel_rfl) (fun _ _ _ h => h) (Or.inl ⟨by rfl, ?_⟩) (by assumption) ?_
            · rintro w h1
              go_simp
            refine wpAnyH_take (i := 6) (v := .pointer (some ⟨Bx, 2, none⟩)) rfl (by kernel_rfl) (by kernel_rfl) (by kernel_rfl) (fun _ _ _ h => h) (Or.inl ⟨by rfl, ?_⟩) (by assumption) ?_
            · rintro w h1
              go_simp
            refine wpAnyH_take (i := 7) (v := .int .i64 (each k p c y)) rfl (by kernel_rfl) (by kernel_rfl) (by kernel_rfl) (fun _ _ _ h => h) (Or.inl ⟨by rfl, ?_⟩) (by assumption) ?_
            · rintro w h1
              go_simp
            refine wpAnyH_take (i := 8) (v := .int .i64 ((x - frm k p c y) % each k p c y)) rfl (by kernel_rfl) (by kernel_rfl) (by kernel_rfl) (fun _ _ _ h => h) (Or.inl ⟨by rfl, ?_⟩) (by assumption) ?_
            · rintro w h1
              go_simp
              exact hr.out
            refine wpAnyH_ready (rs := [9]) (by kernel_rfl) (by simp) ?_
            refine AllReadyH.cons rfl (fun K hK => ?_) AllReadyH.nil
            go_simp
            refine hK.out _ _ (alloc_cell ((cell_far (by omega)).trans c2)) (fun hHeld => ?_)
            clear hK K
            refine wpAnyH_ready (rs := [10]) (by kernel_rfl) (by simp) ?_
            refine AllReadyH.cons rfl (fun K hK => ?_) AllReadyH.nil
            go_simp
            refine hK.out _ _ (alloc_cell ((cell_far (by omega)).trans ((cell_far (by omega)).trans c2))) (fun hHeld => ?_)
            clear hK K
            refine wpAnyH_ready (rs := [11]) (by kernel_rfl) (by simp) ?_
            refine AllReadyH.cons rfl (fun K hK => ?_) AllReadyH.nil
            go_simp
            refine hK.out _ _ (alloc_cell ((cell_far (by omega)).trans ((cell_far (by omega)).trans ((cell_far (by omega)).trans c2)))) (fun hHeld => ?_)
            clear hK K
            exact wpAnyH_done (by kernel_rfl) ⟨rfl, rfl⟩ _
          · rintro e a4 W4 hp4
            cases e with
            | normal =>
              obtain ⟨rfl, rfl⟩ := hp4
              gi_wp2
              exact ⟨((((((KeepsOthers.setCell _ _ _).trans (KeepsOthers.setCell _ _ _)).trans (KeepsOthers.setCell _ _ _)).trans (KeepsOthers.alloc _ _)).trans (KeepsOthers.drew _)).trans (KeepsOthers.drew _)).from _,
                ⟨y, ⟨rfl, by simp, hx0, hx1⟩, (((bR1.set _).other (by omega) _).other (by omega) _).alloc _, (((bS1.other (by omega) _).set _).other (by omega) _).alloc _, (((bU1.other (by omega) _).other (by omega) _).set _).alloc _⟩,
                ((((hB1.setCell (p := ⟨w.heap.size + 1 + 1, 0, none⟩) (by simp; omega) _).setCell (p := ⟨w.heap.size + 1 + 1 + 1, 0, none⟩) (by simp; omega) _).setCell (p := ⟨w.heap.size + 1 + 1 + 1 + 1, 0, none⟩) (by simp; omega) _).alloc (by have := hB1.size; simpa [World.setCell] using this) _).drew.drew⟩
            | ret => exact hp4.elim
            | exit id => exact hp4.elim
            | goto t => exact hp4.elim
            | panic ch => exact hp4.elim
            | outgrown => exact hp4.elim
        | ret => exact hp3.elim
        | exit id => exact hp3.elim
        | goto t => exact hp3.elim
        | panic ch => exact hp3.elim
        | outgrown => exact hp3.elim
    · have hnx := Lib.hid (fun h : frm k p c y ≤ x ∧ x ≤ frm k p c y + own p y * each k p c y - 1 => hx ⟨h.1, by omega⟩)
      have hx2 := Lib.hid hx
      clear hx
      gi_wp2
      refine wpIn_mono (Q := Exit.then (fun a' w' => a' = { tmps := #[cf k p c, .int .i64 x, .pointer (some ⟨w.heap.size, 0, none⟩), .pointer (some ⟨w.heap.size + 1, 0, none⟩), .pointer (some ⟨w.heap.size + 1 + 1, 0, none⟩), .pointer (some ⟨w.heap.size + 1 + 1 + 1, 0, none⟩), .pointer (some ⟨w.heap.size + 1 + 1 + 1 + 1, 0, none⟩),
        .int .i64 y, .pointer (some ⟨Bx, 0, none⟩), undef, cf k p c, .func (.func 32) #[] #[.pointer (some ⟨w.heap.size + 1 + 1 + 1 + 1 + 1, 0, none⟩)], .int .i64 y, sv (frm k p c y) (own p y) (each k p c y),
        .int .i64 x, .pointer (some ⟨Bx, 0, none⟩), .int .i64 (frm k p c y), .pointer (some ⟨Bx, 0, none⟩), .int .i64 (frm k p c y), sv (frm k p c y) (own p y) (each k p c y), .int .i64 (own p y * each k p c y), .int .i64 (frm k p c y + own p y * each k p c y), .int .i64 (frm k p c y + own p y * each k p c y - 1), .bool false, undef, undef, undef, undef, undef, undef, undef, undef, undef, undef, undef, undef, undef], defers := [] } ∧ w' = W.drew.alloc (sx (frm k p c y) (own p y) (each k p c y))) (fun _ _ _ => False)) ?_ ?_
      · refine wpIn_region_held (S := fun w' => w'.cell? ⟨w.heap.size + 1, 0, none⟩ = some (.int .i64 x) ∧ w'.cell? ⟨Bx, 0, none⟩ = some (.int .i64 (frm k p c y)) ∧ w'.cell? ⟨Bx, 1, none⟩ = some (.int .i64 (own p y)) ∧ w'.cell? ⟨Bx, 2, none⟩ = some (.int .i64 (each k p c y))) (by kernel_rfl) (by kernel_rfl) (fun h => by obtain ⟨_, _, h⟩ := h; exact h) ⟨cX, c0, c1, c2⟩ (fun hHeld => ?_)
        refine wpAnyH_take (i := 0) (v := .int .i64 x) rfl (by kernel_rfl) (by kernel_rfl) (by kernel_rfl) (fun _ _ _ h => h) (Or.inl ⟨by rfl, ?_⟩) (by assumption) ?_
        · rintro w ⟨h1, h2, h3, h4⟩
          go_simp
        refine wpAnyH_take (i := 1) (v := .pointer (some ⟨Bx, 0, none⟩)) rfl (by kernel_rfl) (by kernel_rfl) (by kernel_rfl) (fun _ _ _ h => h) (Or.inl ⟨by rfl, ?_⟩) (by assumption) ?_
        · rintro w ⟨h1, h2, h3, h4⟩
          go_simp
        refine wpAnyH_take (i := 2) (v := .int .i64 (frm k p c y)) rfl (by kernel_rfl) (by kernel_rfl) (by kernel_rfl) (fun _ _ _ h => h) (Or.inl ⟨by rfl, ?_⟩) (by assumption) ?_
        · rintro w ⟨h1, h2, h3, h4⟩
          go_simp
        refine wpAnyH_take (i := 3) (v := .pointer (some ⟨Bx, 0, none⟩)) rfl (by kernel_rfl) (by kernel_rfl) (by kernel_rfl) (fun _ _ _ h => h) (Or.inl ⟨by rfl, ?_⟩) (by assumption) ?_
        · rintro w ⟨h1, h2, h3, h4⟩
          go_simp
        refine wpAnyH_take (i := 4) (v := .int .i64 (frm k p c y)) rfl (by kernel_rfl) (by kernel_rfl) (by kernel_rfl) (fun _ _ _ h => h) (Or.inl ⟨by rfl, ?_⟩) (by assumption) ?_
        · rintro w ⟨h1, h2, h3, h4⟩
          go_simp
        refine wpAnyH_take (i := 5) (v := sv (frm k p c y) (own p y) (each k p c y)) rfl (by kernel_rfl) (by kernel_rfl) (by kernel_rfl) (fun _ _ _ h => h) (Or.inl ⟨by rfl, ?_⟩) (by assumption) ?_
        · rintro w ⟨h1, h2, h3, h4⟩
          go_simp
        refine wpAnyH_ready (rs := [6]) (by kernel_rfl) (by simp) ?_
        refine AllReadyH.cons rfl (fun K hK => ?_) AllReadyH.nil
        go_simp
        refine (cells_any _ _ _ (own p y * each k p c y) _ (Lib.hid rfl) (by omega) (by omega)).mono ?_
        rintro e w' ⟨rfl, rfl⟩
        refine hK.out _ _ hS2.out (fun hHeld => ?_)
        clear hK K
        refine wpAnyH_take (i := 7) (v := .int .i64 (frm k p c y + own p y * each k p c y)) rfl (by kernel_rfl) (by kernel_rfl) (by kernel_rfl) (fun _ _ _ h => h) (Or.inl ⟨by rfl, ?_⟩) (by assumption) ?_
        · rintro w ⟨h1, h2, h3, h4⟩
          go_simp
        refine wpAnyH_take (i := 8) (v := .int .i64 (frm k p c y + own p y * each k p c y - 1)) rfl (by kernel_rfl) (by kernel_rfl) (by kernel_rfl) (fun _ _ _ h => h) (Or.inl ⟨by rfl, ?_⟩) (by assumption) ?_
        · rintro w ⟨h1, h2, h3, h4⟩
          go_simp
        refine wpAnyH_ready (rs := [9]) (by kernel_rfl) (by simp) ?_
        refine AllReadyH.cons rfl (fun K hK => ?_) AllReadyH.nil
        go_simp
        refine (within_no _ _ _ _ hnx.out).mono ?_
        rintro e w' ⟨rfl, rfl⟩
        refine hK.out _ _ hS2.out (fun hHeld => ?_)
        clear hK K
        exact wpAnyH_done (by kernel_rfl) ⟨rfl, rfl⟩ _
      · rintro e a3 W3 hp3
        cases e with
        | normal =>
          obtain ⟨rfl, rfl⟩ := hp3
          gi_wp2
          exact ⟨((KeepsOthers.drew _).trans (KeepsOthers.alloc _ _)).from _, keepsCells_alloc _ _ _, ⟨⟨fun z hz => (List.mem_append.1 hz).elim (hp'.out z) (fun e => by simp at e; subst e; exact hx2.out), bX1.alloc _⟩, bR1.alloc _, bS1.alloc _, bU1.alloc _⟩, hB1.drew.alloc hB1.size _⟩
        | ret => exact hp3.elim
        | exit id => exact hp3.elim
        | goto t => exact hp3.elim
        | panic ch => exact hp3.elim
        | outgrown => exact hp3.elim
  case done =>
    rintro D ys W hD hxs ⟨⟨⟨hp, bX1⟩, bR1, bS1, bU1⟩, hB1⟩ hK
    have cR := bR1.cell
    have fR := bR1.frozen
    have cS := bS1.cell
    have fS := bS1.frozen
    have cU := bU1.cell
    have fU := bU1.frozen
    gi_wp2
    have hno := wh_no (k := k) (p := p) (c := c) (x := x) (Bool.eq_false_iff.2 (fun h => by
      obtain ⟨hf, h4, hin⟩ := wPart_in h
      unfold allXs at hxs; rw [if_pos hf] at hxs
      exact hp _ (by rw [hxs]; simp; omega) hin))
    have hK' := (((KeepsOthers.setCell W ⟨w.heap.size + 1 + 1, 0, none⟩ (.int .i64 5)).trans (KeepsOthers.setCell _ ⟨w.heap.size + 1 + 1 + 1, 0, none⟩ (.int .i64 0))).trans (KeepsOthers.setCell _ ⟨w.heap.size + 1 + 1 + 1 + 1, 0, none⟩ (.int .i64 0))).same D _ hK rfl
    refine ⟨by simp, .inl ⟨_, _, rfl, run_takeDeferred hK', ?_⟩⟩
    have hc5 := cell_kept (((bR1.set (.int .i64 5)).other (B' := w.heap.size + 1 + 1 + 1) (by omega) (.int .i64 0)).other (B' := w.heap.size + 1 + 1 + 1 + 1) (by omega) (.int .i64 0)).cell (grownBy_putObj' _ D (.deferred none)) (fun r e => by cases e; exact ⟨_, hK', rfl⟩)
    have hc6 := cell_kept (((bS1.other (B' := w.heap.size + 1 + 1) (by omega) (.int .i64 5)).set (.int .i64 0)).other (B' := w.heap.size + 1 + 1 + 1 + 1) (by omega) (.int .i64 0)).cell (grownBy_putObj' _ D (.deferred none)) (fun r e => by cases e; exact ⟨_, hK', rfl⟩)
    have hc7 := cell_kept (((bU1.other (B' := w.heap.size + 1 + 1) (by omega) (.int .i64 5)).other (B' := w.heap.size + 1 + 1 + 1) (by omega) (.int .i64 0)).set (.int .i64 0)).cell (grownBy_putObj' _ D (.deferred none)) (fun r e => by cases e; exact ⟨_, hK', rfl⟩)
    refine ⟨.tuple #[.int .i64 5, .int .i64 0, .int .i64 0], ?_, by rw [hno.1, hno.2.1, hno.2.2], (((hB1.setCell (p := ⟨w.heap.size + 1 + 1, 0, none⟩) (by simp; omega) _).setCell (p := ⟨w.heap.size + 1 + 1 + 1, 0, none⟩) (by simp; omega) _).setCell (p := ⟨w.heap.size + 1 + 1 + 1 + 1, 0, none⟩) (by simp; omega) _).trans (belowK_b (w := w) (Nat.le_refl _) _ D _ _ (by omega) hK' rfl rfl)⟩
    simp [results, Tryd.f22, go_sem, hc5, hc6, hc7]
  case stop =>
    rintro D cd pre W hD hpre ⟨⟨y, ⟨rfl, hy1, hy2⟩, bR1, bS1, bU1⟩, hB1⟩ hK
    gi_wp2
    obtain ⟨hf, j, hj, rfl⟩ := hpre
    have hy4 : y ≤ 4 := by have := List.mem_range.1 hy1; omega
    have hyes := wh_of hf hy4 hy2
    refine ⟨by simp, .inl ⟨_, _, rfl, run_takeDeferred hK, ?_⟩⟩
    have hc5 := cell_kept bR1.cell (grownBy_putObj' _ D (.deferred none)) (fun r e => by cases e; exact ⟨_, hK, rfl⟩)
    have hc6 := cell_kept bS1.cell (grownBy_putObj' _ D (.deferred none)) (fun r e => by cases e; exact ⟨_, hK, rfl⟩)
    have hc7 := cell_kept bU1.cell (grownBy_putObj' _ D (.deferred none)) (fun r e => by cases e; exact ⟨_, hK, rfl⟩)
    refine ⟨.tuple #[.int .i64 y, .int .i64 ((x - frm k p c y) / each k p c y), .int .i64 ((x - frm k p c y) % each k p c y)], ?_, by rw [hyes.1, hyes.2.1, hyes.2.2], hB1.trans (belowK_b (w := w) (Nat.le_refl _) _ D _ _ (by omega) hK rfl rfl)⟩
    simp [results, Tryd.f22, go_sem, hc5, hc6, hc7]

end Go.Proofs.YtbgeojahhbchlaaDoor
