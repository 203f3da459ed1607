/-
  What the document's own ahead returns: the records, in order. Condition: the records are there.
-/
import Derived.Test.YtbpgnnogpcppdaaDoorCut
namespace Go.Proofs.YtbpgnnogpcppdaaDoor
open Go.RowKit (Below intOf)

/-- A slice that was laid since. -/
def Fresh (base : Nat) (sl : Option Addr) : Prop := ∀ b o, sl = some ⟨b, o, none⟩ → base ≤ b
theorem fresh_none (base : Nat) : Fresh base none := fun _ _ e => by cases e
theorem Fresh.mono {b1 b2 : Nat} {sl : Option Addr} (h : Fresh b2 sl) (hb : b1 ≤ b2) : Fresh b1 sl := fun b o e => Nat.le_trans hb (h b o e)
theorem own_fresh {W : World} {base n c : Nat} {e : TypeId} {size : Nat} {sl : Option Addr} {xs : List Value} (h : W.ownsRow base e size (.slice sl n c) n xs) : Fresh base sl := fun b o hs => by
  rcases h.2 with ⟨e1, _⟩ | ⟨g, cap, cur, e1, hb, _⟩
  · cases e1; cases hs
  · cases e1; cases hs; exact hb
theorem QS.far {w : World} {sl : Option Addr} {n c g i : Nat} {ys : List Rc} {v : Value} (h : QS w sl n c ys) (hf : Fresh (g + 1) sl) : QS (w.setCell ⟨g, i, none⟩ v) sl n c ys :=
  ⟨h.1, h.2.1, h.2.2.1, h.2.2.2.1, fun j y hy => by
    obtain ⟨hu, b, o, hs, hc, hd⟩ := h.2.2.2.2 j y hy
    have hb := hf b o hs
    refine ⟨hu, b, o, hs, ?_, ?_⟩
    · rw [World.cell?_setCell_other _ _ _ _ (fun e => by cases e; omega)]; exact hc
    · rw [World.cell?_setCell_other _ _ _ _ (fun e => by cases e; omega)]; exact hd⟩

theorem refBefore_quiet (x y : Int) (w : World) (d m : Nat) (hx : U64 x) (hy : U64 y) :
    Calls Tryd.prog 62 #[.int .u64 x, .int .u64 y] (w.drewN (d + m)) fun e w'' => e = .returned (.bool (decide (mixed y < mixed x))) ∧ ∃ j, w'' = w.drewN (d + j) :=
  (refBefore_any x y _ hx.1 hx.2 hy.1 hy.2).mono fun _ _ h => ⟨h.1, m, h.2.symm⟩

set_option maxRecDepth 100000 in
set_option maxHeartbeats 8000000 in
theorem ahead_any (s : Option Addr) (n c : Nat) (all : List Rc) (w : World) (hL : QS w s n c all) :
    Calls Tryd.prog 53 #[.slice s n c] w fun e w' => ∃ sl c' ys, e = .returned (.slice sl n c') ∧ QS w' sl n c' ys ∧ (ys.Perm all ∧ ys.Pairwise fun a b => leB a b = true) ∧ Fresh w.heap.size sl ∧ Ext w w' := by
  have hn := hL.le
  have hna := Lib.hid hL.len
  have HL := Lib.hid hL
  clear hL
  go_enter Tryd.func53, Tryd.ntmps53
  go_wp2_with (fail)
  go_loopw [3, 4] (fun v i wr => ∃ (q co : Nat) (so : Option Addr) (ys : List Rc), q ≤ n ∧ i = .int .i64 q ∧ v = .slice so q co ∧ QS wr so q co ys ∧ RowKit.Hid (Some' leB all q ys) ∧ RowKit.Hid (Fresh w.heap.size so) ∧ Ext w wr) (fun _ i _ => n - (intOf i).toNat)
  case atStart => exact ⟨0, 0, none, [], by omega, rfl, rfl, QS.empty _ _ _ (by omega), Lib.hid (some_zero leB all), Lib.hid (fresh_none _), Ext.refl w⟩
  case round =>
    obtain ⟨q, co, so, ys, hq, rfl, rfl, hO2, hP, hF, hE2⟩ := hrel
    by_cases hlt : q < n
    · obtain ⟨p, x, hx, up, ux, ba, oa, rfl, e0, e1⟩ := (HL.out.ext hE2).get hlt
      have HX := Lib.hid hx
      have hqn : (q : Int) < n := by omega
      clear hx
      go_wp2_with (fail)
      go_loopw [5] (fun i ws => ∃ (a d : Nat), a ≤ q ∧ i = .int .i64 a ∧ ws = wr.drewN d ∧ RowKit.Hid (∀ (i : Nat) (y : Rc), a ≤ i → ys[i]? = some y → leB (p, x) y = true)) (fun i _ => (intOf i).toNat)
      case atStart => exact ⟨q, 0, by omega, rfl, rfl, Lib.hid (fun i y h1 h2 => by have := (List.getElem?_eq_some_iff.1 h2).1; rw [hO2.len] at this; omega)⟩
      case round =>
        obtain ⟨a, d, ha, rfl, rfl, hgt⟩ := hrel
        have done : RowKit.Hid ((a = 0 ∨ ∃ y, ys[a - 1]? = some y ∧ leB y (p, x) = true) → Some' leB all (q + 1) (ys.take a ++ [(p, x)] ++ ys.drop a)) := Lib.hid (fun h => some_put leB_trans hP.out HX.out h hgt.out)
        cases a with
        | zero =>
          have hnew : RowKit.Hid (Some' leB all (q + 1) (ys.take 0 ++ [(p, x)] ++ ys.drop 0)) := Lib.hid (done.out (.inl rfl))
          clear done
          go_wp2_with (fail)
          go_quiet (fail)
          go_wp2_with (fail)
          rw [show ((0 : Nat) : Int) = 0 from rfl]
          have hO3 := (hO2.ext (Ext.draws wr d)).ext (Ext.draws (wr.drewN d) nq)
          have hE3 := (hE2.drewN d).drewN nq
          have g0 := Ext.cell (Ext.draws (wr.drewN d) nq) (Ext.cell (Ext.draws wr d) e0)
          have g1 := Ext.cell (Ext.draws (wr.drewN d) nq) (Ext.cell (Ext.draws wr d) e1)
          clear e0 e1 hO2 hE2
          generalize (wr.drewN d).drewN nq = w5 at hO3 hE3 g0 g1 ⊢
          have hqc : q ≤ co := hO3.lc
          obtain ⟨A1, eA, lA⟩ : ∃ A1, RowKit.Hid (0 = A1) ∧ A1 ≤ q := ⟨_, Lib.hid rfl, by omega⟩
          have q1 : ∀ W, (Instr.sliceAt 32 (.slice so q co) none (some (.int .i64 0)) none).run Tryd.prog W = .ok (.slice so A1 co) W := fun W => by rw [← eA.out]; exact slice_hi so q co 0 (by omega) W
          obtain ⟨s2', n2', c2', q2, hO5, en2⟩ : ∃ s2' n2' c2', (∀ W, (Instr.sliceAt 32 (.slice so q co) (some (.int .i64 0)) none none).run Tryd.prog W = .ok (.slice s2' n2' c2') W) ∧ QS w5 s2' n2' c2' (ys.drop A1) ∧ n2' + A1 = q := ⟨_, _, _, fun W => slice_lo so q co 0 (by omega) W, by rw [← eA.out]; exact hO3.drop (by omega), by rw [← eA.out]; omega⟩
          have hO4 : QS w5 so A1 co (ys.take A1) := hO3.take lA
          obtain ⟨L2, eL2⟩ : ∃ L2, RowKit.Hid (A1 + 1 = L2) := ⟨_, Lib.hid rfl⟩
          obtain ⟨L3, eL3⟩ : ∃ L3, RowKit.Hid (L2 + n2' = L3) := ⟨_, Lib.hid rfl⟩
          have lL2 : L2 ≤ 1048577 := by have := eL2.out; omega
          have lL3 : RowKit.Hid (L3 = q + 1) := Lib.hid (by have := eL2.out; have := eL3.out; omega)
          have lL4 : L3 ≤ q + 1 := by have := lL3.out; omega
          have hnew2 : RowKit.Hid (Some' leB all (q + 1) (ys.take A1 ++ [(p, x)] ++ ys.drop A1)) := Lib.hid (by rw [← eA.out]; exact hnew.out)
          clear en2
          go_region_held3 (fun w' => (w'.cell? ⟨ba, oa + q * 2, none⟩ = some (.int .u64 p) ∧ w'.cell? ⟨ba, oa + q * 2 + 1, none⟩ = some (.int .u64 x)))
            (first
              | exact ⟨Ext.cell x3 g0, Ext.cell x3 g1⟩
              | exact ⟨Ext.cell x2 g0, Ext.cell x2 g1⟩
              | exact ⟨Ext.cell (Ext.alloc x1 _) g0, Ext.cell (Ext.alloc x1 _) g1⟩
              | exact ⟨Ext.cell x1 g0, Ext.cell x1 g1⟩
              | exact ⟨Ext.cell (Ext.drew (Ext.new w5 _)) g0, Ext.cell (Ext.drew (Ext.new w5 _)) g1⟩
              | go_keep)
            (first
              | (refine step_append_recs w5.drew (by rfl) (.const (.slice none 0 0)) (.tmp 34) (by rfl) w5.heap.size 0 (.slice none 0 0) [] (by rfl) (World.ownsRow_nil _ _ _ _) so A1 co (ys.take A1) (by rfl) (hO4.ext (Ext.drew (Ext.refl w5))) A1 (Nat.zero_add _) (by omega) (Nat.le_refl _) ?_; intro sx kx w1 hown1 hg1; have x1 : Ext w5 w1 := Ext.grown (Ext.drew (Ext.refl w5)) hg1 (fun k e => by simp [Value.ownBlock] at e); have y1 : QS (w1.alloc (.cells #[.int .u64 p, .int .u64 x] 34)) (some ⟨w1.heap.size, 0, none⟩) 1 1 [(p, x)] := qs_lit w1 p x up ux; have o1 := hown1.alloc (.cells #[.int .u64 p, .int .u64 x] 34))
              | (refine step_append_recs (w5.alloc (.cells #[.int .u64 p, .int .u64 x] 34)).drew (by rfl) (.const (.slice none 0 0)) (.tmp 34) (by rfl) w5.heap.size 0 (.slice none 0 0) [] (by rfl) (World.ownsRow_nil _ _ _ _) so A1 co (ys.take A1) (by rfl) (hO4.ext (Ext.drew (Ext.new w5 _))) A1 (Nat.zero_add _) (by omega) (by simp) ?_; intro sx kx w1 hown1 hg1; have x1 : Ext w5 w1 := Ext.grown (Ext.drew (Ext.new w5 _)) hg1 (fun k e => by simp [Value.ownBlock] at e); have y1 : QS w1 (some ⟨w5.heap.size, 0, none⟩) 1 1 [(p, x)] := QS.ext (qs_lit w5 p x up ux) (Ext.grown (Ext.drew (Ext.refl _)) hg1 (fun k e => by simp [Value.ownBlock] at e)); have o1 := hown1)
              | (refine step_append_recs _ (by rfl) (.tmp 35) (.tmp 40) (by rfl) w5.heap.size _ _ _ (by rfl) o1 _ 1 1 [(p, x)] (by rfl) y1 L2 eL2.out (by omega) (by have := x1.size; simp; omega) ?_; intro sy ky w2 hown2 hg2; have x2 : Ext w5 w2 := Ext.grown (by first | exact Ext.alloc x1 _ | exact x1) hg2 (own_ge hown1))
              | (refine step_append_recs w2 (by rfl) (.tmp 41) (.tmp 44) (by rfl) w5.heap.size _ _ _ (by rfl) hown2 s2' n2' c2' (ys.drop A1) (by rfl) (hO5.ext x2) L3 eL3.out (by omega) x2.size ?_; intro sz kz w3 hown3 hg3; have x3 : Ext w5 w3 := Ext.grown x2 hg3 (own_ge hown2)))
          all_goals
            have hfin : RowKit.Hid (QS w3 sz L3 kz (ys.take A1 ++ [(p, x)] ++ ys.drop A1)) := Lib.hid (by
              refine qs_of_own hown3 ?_ (by omega) (fun y hy => ?_)
              · have z1 := hO4.len
                have z2 := hO5.len
                rw [List.length_append, List.length_append, z2, z1, ← eL3.out, ← eL2.out]; rfl
              · simp only [List.mem_append, List.mem_cons, List.not_mem_nil, or_false] at hy
                rcases hy with (hy | rfl) | hy
                · exact hO4.range y hy
                · exact ⟨up, ux⟩
                · exact hO5.range y hy)
            skip
            have hEf := hE3.trans x3
            have hFr : RowKit.Hid (Fresh w.heap.size sz) := Lib.hid ((own_fresh hown3).mono hE3.size)
            rename_i hh
            clear hh hown1 hown2 hown3 hg1 hg2 hg3 x1 x2 x3 y1 o1 q1 q2 hO3 hO4 hO5 hE3 g0 g1
            go_wp2_with (fail)
            go_roundw
            case rel => exact ⟨q + 1, kz, sz, _, by omega, by go_num, by rw [lL3.out], by rw [← lL3.out]; exact hfin.out, hnew2, hFr, hEf⟩
            case measure => simp [intOf]; omega
        | succ a =>
          obtain ⟨p', x', hx', up', _, bo, oo, rfl, f0, _⟩ := hO2.get (k := a) (by omega)
          have ha0 : (0 : Int) < (a : Int) + 1 := by omega
          have hw1 : IntKind.i64.wrap ((a : Int) + 1 - 1) = a := by rw [IntWalk.i64_in _ (by omega)]; omega
          have hw2 : IntKind.i64.wrap (a : Int) = a := IntWalk.i64_in _ (by omega)
          have haq : (a : Int) < q := by omega
          by_cases hp : mixed p' < mixed p
          · have hgt2 : RowKit.Hid (∀ (i : Nat) (y : Rc), a ≤ i → ys[i]? = some y → leB (p, x) y = true) := Lib.hid (fun i y h1 h2 => by
              by_cases e : i = a
              · subst e; rw [hx'] at h2; cases h2; unfold leB; simp; omega
              · exact hgt.out i y (by omega) h2)
            have hd1 : decide (mixed p' < mixed p) = true := by simpa using hp
            clear hx' done
            go_wp2_with (fail)
            go_quiet ((go_at_call 62; exact refBefore_quiet p p' _ _ _ up up'))
            go_wp2_with (fail)
            go_roundw
            case rel => exact ⟨a, d + nq, by omega, by go_num, rfl, hgt2⟩
            case measure => simp [intOf]
          · have hnew : RowKit.Hid (Some' leB all (q + 1) (ys.take (a + 1) ++ [(p, x)] ++ ys.drop (a + 1))) := Lib.hid (done.out (.inr ⟨(p', x'), by simpa using hx', by unfold leB; simp; omega⟩))
            have hd1 : decide (mixed p' < mixed p) = false := by simpa using hp
            clear hx' done hp
            go_wp2_with (fail)
            go_quiet ((go_at_call 62; exact refBefore_quiet p p' _ _ _ up up'))
            go_wp2_with (fail)
            have hO3 := (hO2.ext (Ext.draws wr d)).ext (Ext.draws (wr.drewN d) nq)
            have hE3 := (hE2.drewN d).drewN nq
            have g0 := Ext.cell (Ext.draws (wr.drewN d) nq) (Ext.cell (Ext.draws wr d) e0)
            have g1 := Ext.cell (Ext.draws (wr.drewN d) nq) (Ext.cell (Ext.draws wr d) e1)
            clear e0 e1 hO2 hE2
            generalize (wr.drewN d).drewN nq = w5 at hO3 hE3 g0 g1 ⊢
            have hqc : q ≤ co := hO3.lc
            obtain ⟨A1, eA, lA⟩ : ∃ A1, RowKit.Hid ((a + 1) = A1) ∧ A1 ≤ q := ⟨_, Lib.hid rfl, by omega⟩
            have q1 : ∀ W, (Instr.sliceAt 32 (.slice (some ⟨bo, oo, none⟩) q co) none (some (.int .i64 ((a : Int) + 1))) none).run Tryd.prog W = .ok (.slice (some ⟨bo, oo, none⟩) A1 co) W := fun W => by rw [← eA.out]; exact slice_hi (some ⟨bo, oo, none⟩) q co (a + 1) (by omega) W
            obtain ⟨s2', n2', c2', q2, hO5, en2⟩ : ∃ s2' n2' c2', (∀ W, (Instr.sliceAt 32 (.slice (some ⟨bo, oo, none⟩) q co) (some (.int .i64 ((a : Int) + 1))) none none).run Tryd.prog W = .ok (.slice s2' n2' c2') W) ∧ QS w5 s2' n2' c2' (ys.drop A1) ∧ n2' + A1 = q := ⟨_, _, _, fun W => slice_lo (some ⟨bo, oo, none⟩) q co (a + 1) (by omega) W, by rw [← eA.out]; exact hO3.drop (by omega), by rw [← eA.out]; omega⟩
            have hO4 : QS w5 (some ⟨bo, oo, none⟩) A1 co (ys.take A1) := hO3.take lA
            obtain ⟨L2, eL2⟩ : ∃ L2, RowKit.Hid (A1 + 1 = L2) := ⟨_, Lib.hid rfl⟩
            obtain ⟨L3, eL3⟩ : ∃ L3, RowKit.Hid (L2 + n2' = L3) := ⟨_, Lib.hid rfl⟩
            have lL2 : L2 ≤ 1048577 := by have := eL2.out; omega
            have lL3 : RowKit.Hid (L3 = q + 1) := Lib.hid (by have := eL2.out; have := eL3.out; omega)
            have lL4 : L3 ≤ q + 1 := by have := lL3.out; omega
            have hnew2 : RowKit.Hid (Some' leB all (q + 1) (ys.take A1 ++ [(p, x)] ++ ys.drop A1)) := Lib.hid (by rw [← eA.out]; exact hnew.out)
            clear en2
            go_region_held3 (fun w' => (w'.cell? ⟨ba, oa + q * 2, none⟩ = some (.int .u64 p) ∧ w'.cell? ⟨ba, oa + q * 2 + 1, none⟩ = some (.int .u64 x)))
              (first
                | exact ⟨Ext.cell x3 g0, Ext.cell x3 g1⟩
                | exact ⟨Ext.cell x2 g0, Ext.cell x2 g1⟩
                | exact ⟨Ext.cell (Ext.alloc x1 _) g0, Ext.cell (Ext.alloc x1 _) g1⟩
                | exact ⟨Ext.cell x1 g0, Ext.cell x1 g1⟩
                | exact ⟨Ext.cell (Ext.drew (Ext.new w5 _)) g0, Ext.cell (Ext.drew (Ext.new w5 _)) g1⟩
                | go_keep)
              (first
                | (refine step_append_recs w5.drew (by rfl) (.const (.slice none 0 0)) (.tmp 34) (by rfl) w5.heap.size 0 (.slice none 0 0) [] (by rfl) (World.ownsRow_nil _ _ _ _) (some ⟨bo, oo, none⟩) A1 co (ys.take A1) (by rfl) (hO4.ext (Ext.drew (Ext.refl w5))) A1 (Nat.zero_add _) (by omega) (Nat.le_refl _) ?_; intro sx kx w1 hown1 hg1; have x1 : Ext w5 w1 := Ext.grown (Ext.drew (Ext.refl w5)) hg1 (fun k e => by simp [Value.ownBlock] at e); have y1 : QS (w1.alloc (.cells #[.int .u64 p, .int .u64 x] 34)) (some ⟨w1.heap.size, 0, none⟩) 1 1 [(p, x)] := qs_lit w1 p x up ux; have o1 := hown1.alloc (.cells #[.int .u64 p, .int .u64 x] 34))
                | (refine step_append_recs (w5.alloc (.cells #[.int .u64 p, .int .u64 x] 34)).drew (by rfl) (.const (.slice none 0 0)) (.tmp 34) (by rfl) w5.heap.size 0 (.slice none 0 0) [] (by rfl) (World.ownsRow_nil _ _ _ _) (some ⟨bo, oo, none⟩) A1 co (ys.take A1) (by rfl) (hO4.ext (Ext.drew (Ext.new w5 _))) A1 (Nat.zero_add _) (by omega) (by simp) ?_; intro sx kx w1 hown1 hg1; have x1 : Ext w5 w1 := Ext.grown (Ext.drew (Ext.new w5 _)) hg1 (fun k e => by simp [Value.ownBlock] at e); have y1 : QS w1 (some ⟨w5.heap.size, 0, none⟩) 1 1 [(p, x)] := QS.ext (qs_lit w5 p x up ux) (Ext.grown (Ext.drew (Ext.refl _)) hg1 (fun k e => by simp [Value.ownBlock] at e)); have o1 := hown1)
                | (refine step_append_recs _ (by rfl) (.tmp 35) (.tmp 40) (by rfl) w5.heap.size _ _ _ (by rfl) o1 _ 1 1 [(p, x)] (by rfl) y1 L2 eL2.out (by omega) (by have := x1.size; simp; omega) ?_; intro sy ky w2 hown2 hg2; have x2 : Ext w5 w2 := Ext.grown (by first | exact Ext.alloc x1 _ | exact x1) hg2 (own_ge hown1))
                | (refine step_append_recs w2 (by rfl) (.tmp 41) (.tmp 44) (by rfl) w5.heap.size _ _ _ (by rfl) hown2 s2' n2' c2' (ys.drop A1) (by rfl) (hO5.ext x2) L3 eL3.out (by omega) x2.size ?_; intro sz kz w3 hown3 hg3; have x3 : Ext w5 w3 := Ext.grown x2 hg3 (own_ge hown2)))
            all_goals
              have hfin : RowKit.Hid (QS w3 sz L3 kz (ys.take A1 ++ [(p, x)] ++ ys.drop A1)) := Lib.hid (by
                refine qs_of_own hown3 ?_ (by omega) (fun y hy => ?_)
                · have z1 := hO4.len
                  have z2 := hO5.len
                  rw [List.length_append, List.length_append, z2, z1, ← eL3.out, ← eL2.out]; rfl
                · simp only [List.mem_append, List.mem_cons, List.not_mem_nil, or_false] at hy
                  rcases hy with (hy | rfl) | hy
                  · exact hO4.range y hy
                  · exact ⟨up, ux⟩
                  · exact hO5.range y hy)
              skip
              have hEf := hE3.trans x3
              have hFr : RowKit.Hid (Fresh w.heap.size sz) := Lib.hid ((own_fresh hown3).mono hE3.size)
              rename_i hh
              clear hh hown1 hown2 hown3 hg1 hg2 hg3 x1 x2 x3 y1 o1 q1 q2 hO3 hO4 hO5 hE3 g0 g1
              go_wp2_with (fail)
              go_roundw
              case rel => exact ⟨q + 1, kz, sz, _, by omega, by go_num, by rw [lL3.out], by rw [← lL3.out]; exact hfin.out, hnew2, hFr, hEf⟩
              case measure => simp [intOf]; omega
    · obtain rfl : q = n := by omega
      go_wp2_with (fail)
      go_ret
      exact ⟨so, co, ys, rfl, hO2, some_done hna.out hP.out, hF.out, hE2⟩

end Go.Proofs.YtbpgnnogpcppdaaDoor
