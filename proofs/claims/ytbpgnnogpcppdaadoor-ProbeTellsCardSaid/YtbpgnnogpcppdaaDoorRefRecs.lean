/-
  What the document's own records returns: those that have a key, by their keys, rising. Condition: the words are there, those of a table's slots.
-/
import Derived.Test.YtbpgnnogpcppdaaDoorShape
namespace Go.Proofs.YtbpgnnogpcppdaaDoor
open Go.RowKit (Below intOf)

/-- What has been put in order of the first j slots. -/
structure SomeF (t : List Rc) (j : Nat) (ys : List Rc) : Prop where
  perm : ys.Perm ((t.take j).filter isK)
  pair : ys.Pairwise fun a b => leK a b = true
theorem someF_zero (t : List Rc) : SomeF t 0 [] := ⟨by simp, List.Pairwise.nil⟩
theorem someF_skip {t ys : List Rc} {j : Nat} {p x : Int} (h : SomeF t j ys) (hj : t[j]? = some (p, x)) (hp : p = 0) : SomeF t (j + 1) ys :=
  ⟨by rw [take_snoc hj, List.filter_append, List.filter_cons_of_neg (by simp [isK, hp]), List.filter_nil, List.append_nil]; exact h.perm, h.pair⟩
theorem someF_put {t ys : List Rc} {j a : Nat} {p x : Int} (h : SomeF t j ys) (hj : t[j]? = some (p, x)) (hp : p ≠ 0)
    (hlo : a = 0 ∨ ∃ q, ys[a - 1]? = some q ∧ leK q (p, x) = true) (hhi : ∀ (i : Nat) (y : Rc), a ≤ i → ys[i]? = some y → leK (p, x) y = true) : SomeF t (j + 1) (ys.take a ++ [(p, x)] ++ ys.drop a) :=
  ⟨by rw [take_snoc hj, List.filter_append, List.filter_cons_of_pos (by simp [isK, hp]), List.filter_nil]; exact (ins_perm ys a _).trans (h.perm.append_right _), ins_pair leK_trans h.pair hlo hhi⟩
theorem slot_1 {t : List Rc} (ht : Thin 1 t) {j : Nat} {p : Int} (h : (flatW 1 t)[j]? = some p) : t[j]? = some (p, 0) := by
  rw [flat_1, List.getElem?_map] at h
  obtain ⟨r, hr, rfl⟩ := Option.map_eq_some_iff.1 h
  rw [hr, ← ht rfl r (List.mem_of_getElem? hr)]
theorem slot_2 {t : List Rc} {j : Nat} {p x : Int} (h : (flatW 2 t)[j * 2]? = some p) (g : (flatW 2 t)[j * 2 + 1]? = some x) : t[j]? = some (p, x) := by
  rw [flat_20] at h
  obtain ⟨r, hr, rfl⟩ := Option.map_eq_some_iff.1 h
  rw [flat_21, hr] at g
  rw [hr]; cases g; rfl

set_option maxRecDepth 100000 in
set_option maxHeartbeats 8000000 in
theorem rrecs_1 (s : Option Addr) (N c : Nat) (t : List Rc) (w : World) (hl : t.length = N) (hL : WS w s N c (flatW 1 t)) (ht : Thin 1 t) :
    Calls Tryd.prog 31 #[.slice s N c, .int .i64 1] w fun e w' => ∃ sl k c' ys, e = .returned (.slice sl k c') ∧ QS w' sl k c' ys ∧ SomeF t N ys ∧ Ext w w' := by
  have hn := hL.le
  have HL := Lib.hid hL
  have Hl := Lib.hid hl
  have HT := Lib.hid ht
  clear hL hl ht
  go_enter Tryd.func31, Tryd.ntmps31
  go_wp2_with (fail)
  go_loopw [5, 6] (fun v i wr => ∃ (j q co : Nat) (so : Option Addr) (ys : List Rc), j ≤ N ∧ q ≤ j ∧ i = .int .i64 j ∧ v = .slice so q co ∧ QS wr so q co ys ∧ RowKit.Hid (SomeF t j ys) ∧ Ext w wr) (fun _ i _ => N - (intOf i).toNat)
  case atStart => exact ⟨0, 0, 0, none, [], by omega, by omega, rfl, rfl, QS.empty _ _ _ (by omega), Lib.hid (someF_zero t), Ext.refl w⟩
  case round =>
    obtain ⟨j, q, co, so, ys, hj, hq, rfl, rfl, hO2, hP, hE2⟩ := hrel
    by_cases hlt : j < N
    · have hjn : (j : Int) < N := by omega
      obtain ⟨p, hx, up, ba, oa, rfl, d0⟩ := (HL.out.ext hE2).get (k := j) hlt
      have HX : RowKit.Hid (t[j]? = some (p, 0)) := Lib.hid (slot_1 HT.out hx)
      have x0 : U64 0 := by unfold U64; omega
      clear hx
      have ux := x0
      by_cases hp0 : p = 0
      · subst hp0
        have hskip : RowKit.Hid (SomeF t (j + 1) ys) := Lib.hid (someF_skip hP.out HX.out rfl)
        go_wp2_with (fail)
        go_roundw
        case rel => exact ⟨j + 1, q, co, so, ys, by omega, by omega, by go_num, rfl, hO2.ext (Ext.new _ _), hskip, hE2.alloc _⟩
        case measure => simp [intOf]; omega
      have hb0 : (p == 0) = false := by simpa using hp0
      have HP0 := Lib.hid hp0
      clear hp0
      go_wp2_with (fail)
      have eX : Ext wr (wr.alloc (.cells #[.int .u64 p, .int .u64 0] 34)) := Ext.new _ _
      have e0 : (wr.alloc (.cells #[.int .u64 p, .int .u64 0] 34)).cell? ⟨wr.heap.size, 0, none⟩ = some (.int .u64 p) := by unfold World.cell?; rw [World.alloc_heap_new]; rfl
      have e1 : (wr.alloc (.cells #[.int .u64 p, .int .u64 0] 34)).cell? ⟨wr.heap.size, 1, none⟩ = some (.int .u64 0) := by unfold World.cell?; rw [World.alloc_heap_new]; rfl
      replace hO2 := hO2.ext eX
      replace hE2 := hE2.trans eX
      clear eX d0
      obtain ⟨bx, hbx⟩ : ∃ bx, wr.heap.size = bx := ⟨_, rfl⟩
      rw [hbx] at e0 e1 ⊢
      generalize (wr.alloc (.cells #[.int .u64 p, .int .u64 0] 34)) = w9 at e0 e1 hO2 hE2 ⊢
      clear hbx
      go_loopw [8] (fun i ws => ∃ (a d : Nat), a ≤ q ∧ i = .int .i64 a ∧ ws = w9.drewN d ∧ RowKit.Hid (∀ (i : Nat) (y : Rc), a ≤ i → ys[i]? = some y → leK (p, 0) y = true)) (fun i _ => (intOf i).toNat)
      case atStart => exact ⟨q, 0, by omega, rfl, rfl, Lib.hid (fun i y h1 h2 => by have := (List.getElem?_eq_some_iff.1 h2).1; rw [hO2.len] at this; omega)⟩
      case round =>
        obtain ⟨a, d, ha, rfl, rfl, hgt⟩ := hrel
        have done : RowKit.Hid ((a = 0 ∨ ∃ y, ys[a - 1]? = some y ∧ leK y (p, 0) = true) → SomeF t (j + 1) (ys.take a ++ [(p, 0)] ++ ys.drop a)) := Lib.hid (fun h => someF_put hP.out HX.out HP0.out h hgt.out)
        cases a with
        | zero =>
          have hnew : RowKit.Hid (SomeF t (j + 1) (ys.take 0 ++ [(p, 0)] ++ ys.drop 0)) := Lib.hid (done.out (.inl rfl))
          clear done
          go_wp2_with (fail)
          go_quiet (fail)
          go_wp2_with (fail)
          rw [show ((0 : Nat) : Int) = 0 from rfl]
          have hO3 := (hO2.ext (Ext.draws w9 d)).ext (Ext.draws (w9.drewN d) nq)
          have hE3 := (hE2.drewN d).drewN nq
          have g0 := Ext.cell (Ext.draws (w9.drewN d) nq) (Ext.cell (Ext.draws w9 d) e0)
          have g1 := Ext.cell (Ext.draws (w9.drewN d) nq) (Ext.cell (Ext.draws w9 d) e1)
          clear e0 e1 hO2 hE2
          generalize (w9.drewN d).drewN nq = w5 at hO3 hE3 g0 g1 ⊢
          have hqc : q ≤ co := hO3.lc
          obtain ⟨A1, eA, lA⟩ : ∃ A1, RowKit.Hid (0 = A1) ∧ A1 ≤ q := ⟨_, Lib.hid rfl, by omega⟩
          have q1 : ∀ W, (Instr.sliceAt 32 (.slice so q co) none (some (.int .i64 0)) none).run Tryd.prog W = .ok (.slice so A1 co) W := fun W => by rw [← eA.out]; exact slice_hi so q co 0 (by omega) W
          obtain ⟨s2', n2', c2', q2, hO5, en2⟩ : ∃ s2' n2' c2', (∀ W, (Instr.sliceAt 32 (.slice so q co) (some (.int .i64 0)) none none).run Tryd.prog W = .ok (.slice s2' n2' c2') W) ∧ QS w5 s2' n2' c2' (ys.drop A1) ∧ n2' + A1 = q := ⟨_, _, _, fun W => slice_lo so q co 0 (by omega) W, by rw [← eA.out]; exact hO3.drop (by omega), by rw [← eA.out]; omega⟩
          have hO4 : QS w5 so A1 co (ys.take A1) := hO3.take lA
          obtain ⟨L2, eL2⟩ : ∃ L2, RowKit.Hid (A1 + 1 = L2) := ⟨_, Lib.hid rfl⟩
          obtain ⟨L3, eL3⟩ : ∃ L3, RowKit.Hid (L2 + n2' = L3) := ⟨_, Lib.hid rfl⟩
          have lL2 : L2 ≤ 1048577 := by have := eL2.out; omega
          have lL3 : RowKit.Hid (L3 = q + 1) := Lib.hid (by have := eL2.out; have := eL3.out; omega)
          have lL4 : L3 ≤ q + 1 := by have := lL3.out; omega
          have hnew2 : RowKit.Hid (SomeF t (j + 1) (ys.take A1 ++ [(p, 0)] ++ ys.drop A1)) := Lib.hid (by rw [← eA.out]; exact hnew.out)
          clear en2
          go_region_held3 (fun w' => (w'.cell? ⟨bx, 0, none⟩ = some (.int .u64 p) ∧ w'.cell? ⟨bx, 1, none⟩ = some (.int .u64 0)))
            (first
              | exact ⟨Ext.cell x3 g0, Ext.cell x3 g1⟩
              | exact ⟨Ext.cell x2 g0, Ext.cell x2 g1⟩
              | exact ⟨Ext.cell (Ext.alloc x1 _) g0, Ext.cell (Ext.alloc x1 _) g1⟩
              | exact ⟨Ext.cell x1 g0, Ext.cell x1 g1⟩
              | exact ⟨Ext.cell (Ext.drew (Ext.new w5 _)) g0, Ext.cell (Ext.drew (Ext.new w5 _)) g1⟩
              | go_keep)
            (first
              | (refine step_append_recs w5.drew (by rfl) (.const (.slice none 0 0)) (.tmp 56) (by rfl) w5.heap.size 0 (.slice none 0 0) [] (by rfl) (World.ownsRow_nil _ _ _ _) so A1 co (ys.take A1) (by rfl) (hO4.ext (Ext.drew (Ext.refl w5))) A1 (Nat.zero_add _) (by omega) (Nat.le_refl _) ?_; intro sx kx w1 hown1 hg1; have x1 : Ext w5 w1 := Ext.grown (Ext.drew (Ext.refl w5)) hg1 (fun k e => by simp [Value.ownBlock] at e); have y1 : QS (w1.alloc (.cells #[.int .u64 p, .int .u64 0] 34)) (some ⟨w1.heap.size, 0, none⟩) 1 1 [(p, 0)] := qs_lit w1 p 0 up ux; have o1 := hown1.alloc (.cells #[.int .u64 p, .int .u64 0] 34))
              | (refine step_append_recs (w5.alloc (.cells #[.int .u64 p, .int .u64 0] 34)).drew (by rfl) (.const (.slice none 0 0)) (.tmp 56) (by rfl) w5.heap.size 0 (.slice none 0 0) [] (by rfl) (World.ownsRow_nil _ _ _ _) so A1 co (ys.take A1) (by rfl) (hO4.ext (Ext.drew (Ext.new w5 _))) A1 (Nat.zero_add _) (by omega) (by simp) ?_; intro sx kx w1 hown1 hg1; have x1 : Ext w5 w1 := Ext.grown (Ext.drew (Ext.new w5 _)) hg1 (fun k e => by simp [Value.ownBlock] at e); have y1 : QS w1 (some ⟨w5.heap.size, 0, none⟩) 1 1 [(p, 0)] := QS.ext (qs_lit w5 p 0 up ux) (Ext.grown (Ext.drew (Ext.refl _)) hg1 (fun k e => by simp [Value.ownBlock] at e)); have o1 := hown1)
              | (refine step_append_recs _ (by rfl) (.tmp 57) (.tmp 59) (by rfl) w5.heap.size _ _ _ (by rfl) o1 _ 1 1 [(p, 0)] (by rfl) y1 L2 eL2.out (by omega) (by have := x1.size; simp; omega) ?_; intro sy ky w2 hown2 hg2; have x2 : Ext w5 w2 := Ext.grown (by first | exact Ext.alloc x1 _ | exact x1) hg2 (own_ge hown1))
              | (refine step_append_recs w2 (by rfl) (.tmp 60) (.tmp 63) (by rfl) w5.heap.size _ _ _ (by rfl) hown2 s2' n2' c2' (ys.drop A1) (by rfl) (hO5.ext x2) L3 eL3.out (by omega) x2.size ?_; intro sz kz w3 hown3 hg3; have x3 : Ext w5 w3 := Ext.grown x2 hg3 (own_ge hown2)))
          all_goals
            have hfin : RowKit.Hid (QS w3 sz L3 kz (ys.take A1 ++ [(p, 0)] ++ ys.drop A1)) := Lib.hid (by
              refine qs_of_own hown3 ?_ (by omega) (fun y hy => ?_)
              · have z1 := hO4.len
                have z2 := hO5.len
                rw [List.length_append, List.length_append, z2, z1, ← eL3.out, ← eL2.out]; rfl
              · simp only [List.mem_append, List.mem_cons, List.not_mem_nil, or_false] at hy
                rcases hy with (hy | rfl) | hy
                · exact hO4.range y hy
                · exact ⟨up, ux⟩
                · exact hO5.range y hy)
            skip
            have hEf := hE3.trans x3
            skip
            rename_i hh
            clear hh hown1 hown2 hown3 hg1 hg2 hg3 x1 x2 x3 y1 o1 q1 q2 hO3 hO4 hO5 hE3 g0 g1
            go_wp2_with (fail)
            go_roundw
            case rel => exact ⟨j + 1, q + 1, kz, sz, _, by omega, by omega, by go_num, by rw [lL3.out], by rw [← lL3.out]; exact hfin.out, hnew2, hEf⟩
            case measure => simp [intOf]; omega
        | succ a =>
          obtain ⟨p', x', hx', up', _, bo, oo, rfl, f0, _⟩ := hO2.get (k := a) (by omega)
          have ha0 : (0 : Int) < (a : Int) + 1 := by omega
          have hw1 : IntKind.i64.wrap ((a : Int) + 1 - 1) = a := by rw [IntWalk.i64_in _ (by omega)]; omega
          have hw2 : IntKind.i64.wrap (a : Int) = a := IntWalk.i64_in _ (by omega)
          have haq : (a : Int) < q := by omega
          by_cases hp : p < p'
          · have hgt2 : RowKit.Hid (∀ (i : Nat) (y : Rc), a ≤ i → ys[i]? = some y → leK (p, 0) y = true) := Lib.hid (fun i y h1 h2 => by
              by_cases e : i = a
              · subst e; rw [hx'] at h2; cases h2; unfold leK; simp; omega
              · exact hgt.out i y (by omega) h2)
            clear hx' done
            go_wp2_with (fail)
            go_quiet (fail)
            go_wp2_with (fail)
            go_roundw
            case rel => exact ⟨a, d + nq, by omega, by go_num, rfl, hgt2⟩
            case measure => simp [intOf]
          · have hp2 : ¬ p' > p := by omega
            have hnew : RowKit.Hid (SomeF t (j + 1) (ys.take (a + 1) ++ [(p, 0)] ++ ys.drop (a + 1))) := Lib.hid (done.out (.inr ⟨(p', x'), by simpa using hx', by unfold leK; simp; omega⟩))
            clear hx' done
            go_wp2_with (fail)
            go_quiet (fail)
            go_wp2_with (fail)
            have hO3 := (hO2.ext (Ext.draws w9 d)).ext (Ext.draws (w9.drewN d) nq)
            have hE3 := (hE2.drewN d).drewN nq
            have g0 := Ext.cell (Ext.draws (w9.drewN d) nq) (Ext.cell (Ext.draws w9 d) e0)
            have g1 := Ext.cell (Ext.draws (w9.drewN d) nq) (Ext.cell (Ext.draws w9 d) e1)
            clear e0 e1 hO2 hE2
            generalize (w9.drewN d).drewN nq = w5 at hO3 hE3 g0 g1 ⊢
            have hqc : q ≤ co := hO3.lc
            obtain ⟨A1, eA, lA⟩ : ∃ A1, RowKit.Hid ((a + 1) = A1) ∧ A1 ≤ q := ⟨_, Lib.hid rfl, by omega⟩
            have q1 : ∀ W, (Instr.sliceAt 32 (.slice (some ⟨bo, oo, none⟩) q co) none (some (.int .i64 ((a : Int) + 1))) none).run Tryd.prog W = .ok (.slice (some ⟨bo, oo, none⟩) A1 co) W := fun W => by rw [← eA.out]; exact slice_hi (some ⟨bo, oo, none⟩) q co (a + 1) (by omega) W
            obtain ⟨s2', n2', c2', q2, hO5, en2⟩ : ∃ s2' n2' c2', (∀ W, (Instr.sliceAt 32 (.slice (some ⟨bo, oo, none⟩) q co) (some (.int .i64 ((a : Int) + 1))) none none).run Tryd.prog W = .ok (.slice s2' n2' c2') W) ∧ QS w5 s2' n2' c2' (ys.drop A1) ∧ n2' + A1 = q := ⟨_, _, _, fun W => slice_lo (some ⟨bo, oo, none⟩) q co (a + 1) (by omega) W, by rw [← eA.out]; exact hO3.drop (by omega), by rw [← eA.out]; omega⟩
            have hO4 : QS w5 (some ⟨bo, oo, none⟩) A1 co (ys.take A1) := hO3.take lA
            obtain ⟨L2, eL2⟩ : ∃ L2, RowKit.Hid (A1 + 1 = L2) := ⟨_, Lib.hid rfl⟩
            obtain ⟨L3, eL3⟩ : ∃ L3, RowKit.Hid (L2 + n2' = L3) := ⟨_, Lib.hid rfl⟩
            have lL2 : L2 ≤ 1048577 := by have := eL2.out; omega
            have lL3 : RowKit.Hid (L3 = q + 1) := Lib.hid (by have := eL2.out; have := eL3.out; omega)
            have lL4 : L3 ≤ q + 1 := by have := lL3.out; omega
            have hnew2 : RowKit.Hid (SomeF t (j + 1) (ys.take A1 ++ [(p, 0)] ++ ys.drop A1)) := Lib.hid (by rw [← eA.out]; exact hnew.out)
            clear en2
            go_region_held3 (fun w' => (w'.cell? ⟨bx, 0, none⟩ = some (.int .u64 p) ∧ w'.cell? ⟨bx, 1, none⟩ = some (.int .u64 0)))
              (first
                | exact ⟨Ext.cell x3 g0, Ext.cell x3 g1⟩
                | exact ⟨Ext.cell x2 g0, Ext.cell x2 g1⟩
                | exact ⟨Ext.cell (Ext.alloc x1 _) g0, Ext.cell (Ext.alloc x1 _) g1⟩
                | exact ⟨Ext.cell x1 g0, Ext.cell x1 g1⟩
                | exact ⟨Ext.cell (Ext.drew (Ext.new w5 _)) g0, Ext.cell (Ext.drew (Ext.new w5 _)) g1⟩
                | go_keep)
              (first
                | (refine step_append_recs w5.drew (by rfl) (.const (.slice none 0 0)) (.tmp 56) (by rfl) w5.heap.size 0 (.slice none 0 0) [] (by rfl) (World.ownsRow_nil _ _ _ _) (some ⟨bo, oo, none⟩) A1 co (ys.take A1) (by rfl) (hO4.ext (Ext.drew (Ext.refl w5))) A1 (Nat.zero_add _) (by omega) (Nat.le_refl _) ?_; intro sx kx w1 hown1 hg1; have x1 : Ext w5 w1 := Ext.grown (Ext.drew (Ext.refl w5)) hg1 (fun k e => by simp [Value.ownBlock] at e); have y1 : QS (w1.alloc (.cells #[.int .u64 p, .int .u64 0] 34)) (some ⟨w1.heap.size, 0, none⟩) 1 1 [(p, 0)] := qs_lit w1 p 0 up ux; have o1 := hown1.alloc (.cells #[.int .u64 p, .int .u64 0] 34))
                | (refine step_append_recs (w5.alloc (.cells #[.int .u64 p, .int .u64 0] 34)).drew (by rfl) (.const (.slice none 0 0)) (.tmp 56) (by rfl) w5.heap.size 0 (.slice none 0 0) [] (by rfl) (World.ownsRow_nil _ _ _ _) (some ⟨bo, oo, none⟩) A1 co (ys.take A1) (by rfl) (hO4.ext (Ext.drew (Ext.new w5 _))) A1 (Nat.zero_add _) (by omega) (by simp) ?_; intro sx kx w1 hown1 hg1; have x1 : Ext w5 w1 := Ext.grown (Ext.drew (Ext.new w5 _)) hg1 (fun k e => by simp [Value.ownBlock] at e); have y1 : QS w1 (some ⟨w5.heap.size, 0, none⟩) 1 1 [(p, 0)] := QS.ext (qs_lit w5 p 0 up ux) (Ext.grown (Ext.drew (Ext.refl _)) hg1 (fun k e => by simp [Value.ownBlock] at e)); have o1 := hown1)
                | (refine step_append_recs _ (by rfl) (.tmp 57) (.tmp 59) (by rfl) w5.heap.size _ _ _ (by rfl) o1 _ 1 1 [(p, 0)] (by rfl) y1 L2 eL2.out (by omega) (by have := x1.size; simp; omega) ?_; intro sy ky w2 hown2 hg2; have x2 : Ext w5 w2 := Ext.grown (by first | exact Ext.alloc x1 _ | exact x1) hg2 (own_ge hown1))
                | (refine step_append_recs w2 (by rfl) (.tmp 60) (.tmp 63) (by rfl) w5.heap.size _ _ _ (by rfl) hown2 s2' n2' c2' (ys.drop A1) (by rfl) (hO5.ext x2) L3 eL3.out (by omega) x2.size ?_; intro sz kz w3 hown3 hg3; have x3 : Ext w5 w3 := Ext.grown x2 hg3 (own_ge hown2)))
            all_goals
              have hfin : RowKit.Hid (QS w3 sz L3 kz (ys.take A1 ++ [(p, 0)] ++ ys.drop A1)) := Lib.hid (by
                refine qs_of_own hown3 ?_ (by omega) (fun y hy => ?_)
                · have z1 := hO4.len
                  have z2 := hO5.len
                  rw [List.length_append, List.length_append, z2, z1, ← eL3.out, ← eL2.out]; rfl
                · simp only [List.mem_append, List.mem_cons, List.not_mem_nil, or_false] at hy
                  rcases hy with (hy | rfl) | hy
                  · exact hO4.range y hy
                  · exact ⟨up, ux⟩
                  · exact hO5.range y hy)
              skip
              have hEf := hE3.trans x3
              skip
              rename_i hh
              clear hh hown1 hown2 hown3 hg1 hg2 hg3 x1 x2 x3 y1 o1 q1 q2 hO3 hO4 hO5 hE3 g0 g1
              go_wp2_with (fail)
              go_roundw
              case rel => exact ⟨j + 1, q + 1, kz, sz, _, by omega, by omega, by go_num, by rw [lL3.out], by rw [← lL3.out]; exact hfin.out, hnew2, hEf⟩
              case measure => simp [intOf]; omega
    · obtain rfl : j = N := by omega
      go_wp2_with (fail)
      go_ret
      exact ⟨so, q, co, ys, rfl, hO2, hP.out, hE2⟩

set_option maxRecDepth 100000 in
set_option maxHeartbeats 8000000 in
theorem rrecs_2 (s : Option Addr) (N M c : Nat) (t : List Rc) (w : World) (hl : t.length = N) (hM : M = N * 2) (hL : WS w s M c (flatW 2 t)) (ht : Thin 2 t) :
    Calls Tryd.prog 31 #[.slice s M c, .int .i64 2] w fun e w' => ∃ sl k c' ys, e = .returned (.slice sl k c') ∧ QS w' sl k c' ys ∧ SomeF t N ys ∧ Ext w w' := by
  have hn := hL.le
  have hdv : (M : Int).tdiv 2 = N := by rw [quo_2]; omega
  have hNb : N ≤ 1048576 := by omega
  have HM := Lib.hid hM
  clear hM
  have HL := Lib.hid hL
  have Hl := Lib.hid hl
  have HT := Lib.hid ht
  clear hL hl ht
  go_enter Tryd.func31, Tryd.ntmps31
  go_wp2_with (fail)
  go_loopw [5, 6] (fun v i wr => ∃ (j q co : Nat) (so : Option Addr) (ys : List Rc), j ≤ N ∧ q ≤ j ∧ i = .int .i64 j ∧ v = .slice so q co ∧ QS wr so q co ys ∧ RowKit.Hid (SomeF t j ys) ∧ Ext w wr) (fun _ i _ => N - (intOf i).toNat)
  case atStart => exact ⟨0, 0, 0, none, [], by omega, by omega, rfl, rfl, QS.empty _ _ _ (by omega), Lib.hid (someF_zero t), Ext.refl w⟩
  case round =>
    obtain ⟨j, q, co, so, ys, hj, hq, rfl, rfl, hO2, hP, hE2⟩ := hrel
    by_cases hlt : j < N
    · have hjn : (j : Int) < N := by omega
      have hj2 : (j : Int) * 2 < M := by have := HM.out; omega
      have hj3 : (j : Int) * 2 + 1 < M := by have := HM.out; omega
      have hj4 : ((j : Int) * 2).toNat = j * 2 := by omega
      have hj5 : ((j : Int) * 2 + 1).toNat = j * 2 + 1 := by omega
      obtain ⟨p, hx, up, ba, oa, rfl, d0⟩ := (HL.out.ext hE2).get (k := j * 2) (by have := HM.out; omega)
      obtain ⟨x, hx1, ux, _, _, e', d1⟩ := (HL.out.ext hE2).get (k := j * 2 + 1) (by have := HM.out; omega)
      cases e'
      have d2 := Ext.cell (Ext.new wr (.cells #[.int .u64 p, .int .u64 0] 34)) d1
      have HX : RowKit.Hid (t[j]? = some (p, x)) := Lib.hid (slot_2 hx hx1)
      clear hx hx1
      by_cases hp0 : p = 0
      · subst hp0
        have hskip : RowKit.Hid (SomeF t (j + 1) ys) := Lib.hid (someF_skip hP.out HX.out rfl)
        go_wp2_with (fail)
        go_roundw
        case rel => exact ⟨j + 1, q, co, so, ys, by omega, by omega, by go_num, rfl, hO2.ext (Ext.new _ _), hskip, hE2.alloc _⟩
        case measure => simp [intOf]; omega
      have hb0 : (p == 0) = false := by simpa using hp0
      have HP0 := Lib.hid hp0
      clear hp0
      go_wp2_with (fail)
      have eX : Ext wr (wr.alloc (.cells #[.int .u64 p, .int .u64 x] 34)) := Ext.new _ _
      have e0 : (wr.alloc (.cells #[.int .u64 p, .int .u64 x] 34)).cell? ⟨wr.heap.size, 0, none⟩ = some (.int .u64 p) := by unfold World.cell?; rw [World.alloc_heap_new]; rfl
      have e1 : (wr.alloc (.cells #[.int .u64 p, .int .u64 x] 34)).cell? ⟨wr.heap.size, 1, none⟩ = some (.int .u64 x) := by unfold World.cell?; rw [World.alloc_heap_new]; rfl
      replace hO2 := hO2.ext eX
      replace hE2 := hE2.trans eX
      clear eX d0 d1 d2
      obtain ⟨bx, hbx⟩ : ∃ bx, wr.heap.size = bx := ⟨_, rfl⟩
      rw [hbx] at e0 e1 ⊢
      generalize (wr.alloc (.cells #[.int .u64 p, .int .u64 x] 34)) = w9 at e0 e1 hO2 hE2 ⊢
      clear hbx
      go_loopw [8] (fun i ws => ∃ (a d : Nat), a ≤ q ∧ i = .int .i64 a ∧ ws = w9.drewN d ∧ RowKit.Hid (∀ (i : Nat) (y : Rc), a ≤ i → ys[i]? = some y → leK (p, x) y = true)) (fun i _ => (intOf i).toNat)
      case atStart => exact ⟨q, 0, by omega, rfl, rfl, Lib.hid (fun i y h1 h2 => by have := (List.getElem?_eq_some_iff.1 h2).1; rw [hO2.len] at this; omega)⟩
      case round =>
        obtain ⟨a, d, ha, rfl, rfl, hgt⟩ := hrel
        have done : RowKit.Hid ((a = 0 ∨ ∃ y, ys[a - 1]? = some y ∧ leK y (p, x) = true) → SomeF t (j + 1) (ys.take a ++ [(p, x)] ++ ys.drop a)) := Lib.hid (fun h => someF_put hP.out HX.out HP0.out h hgt.out)
        cases a with
        | zero =>
          have hnew : RowKit.Hid (SomeF t (j + 1) (ys.take 0 ++ [(p, x)] ++ ys.drop 0)) := Lib.hid (done.out (.inl rfl))
          clear done
          go_wp2_with (fail)
          go_quiet (fail)
          go_wp2_with (fail)
          rw [show ((0 : Nat) : Int) = 0 from rfl]
          have hO3 := (hO2.ext (Ext.draws w9 d)).ext (Ext.draws (w9.drewN d) nq)
          have hE3 := (hE2.drewN d).drewN nq
          have g0 := Ext.cell (Ext.draws (w9.drewN d) nq) (Ext.cell (Ext.draws w9 d) e0)
          have g1 := Ext.cell (Ext.draws (w9.drewN d) nq) (Ext.cell (Ext.draws w9 d) e1)
          clear e0 e1 hO2 hE2
          generalize (w9.drewN d).drewN nq = w5 at hO3 hE3 g0 g1 ⊢
          have hqc : q ≤ co := hO3.lc
          obtain ⟨A1, eA, lA⟩ : ∃ A1, RowKit.Hid (0 = A1) ∧ A1 ≤ q := ⟨_, Lib.hid rfl, by omega⟩
          have q1 : ∀ W, (Instr.sliceAt 32 (.slice so q co) none (some (.int .i64 0)) none).run Tryd.prog W = .ok (.slice so A1 co) W := fun W => by rw [← eA.out]; exact slice_hi so q co 0 (by omega) W
          obtain ⟨s2', n2', c2', q2, hO5, en2⟩ : ∃ s2' n2' c2', (∀ W, (Instr.sliceAt 32 (.slice so q co) (some (.int .i64 0)) none none).run Tryd.prog W = .ok (.slice s2' n2' c2') W) ∧ QS w5 s2' n2' c2' (ys.drop A1) ∧ n2' + A1 = q := ⟨_, _, _, fun W => slice_lo so q co 0 (by omega) W, by rw [← eA.out]; exact hO3.drop (by omega), by rw [← eA.out]; omega⟩
          have hO4 : QS w5 so A1 co (ys.take A1) := hO3.take lA
          obtain ⟨L2, eL2⟩ : ∃ L2, RowKit.Hid (A1 + 1 = L2) := ⟨_, Lib.hid rfl⟩
          obtain ⟨L3, eL3⟩ : ∃ L3, RowKit.Hid (L2 + n2' = L3) := ⟨_, Lib.hid rfl⟩
          have lL2 : L2 ≤ 1048577 := by have := eL2.out; omega
          have lL3 : RowKit.Hid (L3 = q + 1) := Lib.hid (by have := eL2.out; have := eL3.out; omega)
          have lL4 : L3 ≤ q + 1 := by have := lL3.out; omega
          have hnew2 : RowKit.Hid (SomeF t (j + 1) (ys.take A1 ++ [(p, x)] ++ ys.drop A1)) := Lib.hid (by rw [← eA.out]; exact hnew.out)
          clear en2
          go_region_held3 (fun w' => (w'.cell? ⟨bx, 0, none⟩ = some (.int .u64 p) ∧ w'.cell? ⟨bx, 1, none⟩ = some (.int .u64 x)))
            (first
              | exact ⟨Ext.cell x3 g0, Ext.cell x3 g1⟩
              | exact ⟨Ext.cell x2 g0, Ext.cell x2 g1⟩
              | exact ⟨Ext.cell (Ext.alloc x1 _) g0, Ext.cell (Ext.alloc x1 _) g1⟩
              | exact ⟨Ext.cell x1 g0, Ext.cell x1 g1⟩
              | exact ⟨Ext.cell (Ext.drew (Ext.new w5 _)) g0, Ext.cell (Ext.drew (Ext.new w5 _)) g1⟩
              | go_keep)
            (first
              | (refine step_append_recs w5.drew (by rfl) (.const (.slice none 0 0)) (.tmp 56) (by rfl) w5.heap.size 0 (.slice none 0 0) [] (by rfl) (World.ownsRow_nil _ _ _ _) so A1 co (ys.take A1) (by rfl) (hO4.ext (Ext.drew (Ext.refl w5))) A1 (Nat.zero_add _) (by omega) (Nat.le_refl _) ?_; intro sx kx w1 hown1 hg1; have x1 : Ext w5 w1 := Ext.grown (Ext.drew (Ext.refl w5)) hg1 (fun k e => by simp [Value.ownBlock] at e); have y1 : QS (w1.alloc (.cells #[.int .u64 p, .int .u64 x] 34)) (some ⟨w1.heap.size, 0, none⟩) 1 1 [(p, x)] := qs_lit w1 p x up ux; have o1 := hown1.alloc (.cells #[.int .u64 p, .int .u64 x] 34))
              | (refine step_append_recs (w5.alloc (.cells #[.int .u64 p, .int .u64 x] 34)).drew (by rfl) (.const (.slice none 0 0)) (.tmp 56) (by rfl) w5.heap.size 0 (.slice none 0 0) [] (by rfl) (World.ownsRow_nil _ _ _ _) so A1 co (ys.take A1) (by rfl) (hO4.ext (Ext.drew (Ext.new w5 _))) A1 (Nat.zero_add _) (by omega) (by simp) ?_; intro sx kx w1 hown1 hg1; have x1 : Ext w5 w1 := Ext.grown (Ext.drew (Ext.new w5 _)) hg1 (fun k e => by simp [Value.ownBlock] at e); have y1 : QS w1 (some ⟨w5.heap.size, 0, none⟩) 1 1 [(p, x)] := QS.ext (qs_lit w5 p x up ux) (Ext.grown (Ext.drew (Ext.refl _)) hg1 (fun k e => by simp [Value.ownBlock] at e)); have o1 := hown1)
              | (refine step_append_recs _ (by rfl) (.tmp 57) (.tmp 59) (by rfl) w5.heap.size _ _ _ (by rfl) o1 _ 1 1 [(p, x)] (by rfl) y1 L2 eL2.out (by omega) (by have := x1.size; simp; omega) ?_; intro sy ky w2 hown2 hg2; have x2 : Ext w5 w2 := Ext.grown (by first | exact Ext.alloc x1 _ | exact x1) hg2 (own_ge hown1))
              | (refine step_append_recs w2 (by rfl) (.tmp 60) (.tmp 63) (by rfl) w5.heap.size _ _ _ (by rfl) hown2 s2' n2' c2' (ys.drop A1) (by rfl) (hO5.ext x2) L3 eL3.out (by omega) x2.size ?_; intro sz kz w3 hown3 hg3; have x3 : Ext w5 w3 := Ext.grown x2 hg3 (own_ge hown2)))
          all_goals
            have hfin : RowKit.Hid (QS w3 sz L3 kz (ys.take A1 ++ [(p, x)] ++ ys.drop A1)) := Lib.hid (by
              refine qs_of_own hown3 ?_ (by omega) (fun y hy => ?_)
              · have z1 := hO4.len
                have z2 := hO5.len
                rw [List.length_append, List.length_append, z2, z1, ← eL3.out, ← eL2.out]; rfl
              · simp only [List.mem_append, List.mem_cons, List.not_mem_nil, or_false] at hy
                rcases hy with (hy | rfl) | hy
                · exact hO4.range y hy
                · exact ⟨up, ux⟩
                · exact hO5.range y hy)
            skip
            have hEf := hE3.trans x3
            skip
            rename_i hh
            clear hh hown1 hown2 hown3 hg1 hg2 hg3 x1 x2 x3 y1 o1 q1 q2 hO3 hO4 hO5 hE3 g0 g1
            go_wp2_with (fail)
            go_roundw
            case rel => exact ⟨j + 1, q + 1, kz, sz, _, by omega, by omega, by go_num, by rw [lL3.out], by rw [← lL3.out]; exact hfin.out, hnew2, hEf⟩
            case measure => simp [intOf]; omega
        | succ a =>
          obtain ⟨p', x', hx', up', _, bo, oo, rfl, f0, _⟩ := hO2.get (k := a) (by omega)
          have ha0 : (0 : Int) < (a : Int) + 1 := by omega
          have hw1 : IntKind.i64.wrap ((a : Int) + 1 - 1) = a := by rw [IntWalk.i64_in _ (by omega)]; omega
          have hw2 : IntKind.i64.wrap (a : Int) = a := IntWalk.i64_in _ (by omega)
          have haq : (a : Int) < q := by omega
          by_cases hp : p < p'
          · have hgt2 : RowKit.Hid (∀ (i : Nat) (y : Rc), a ≤ i → ys[i]? = some y → leK (p, x) y = true) := Lib.hid (fun i y h1 h2 => by
              by_cases e : i = a
              · subst e; rw [hx'] at h2; cases h2; unfold leK; simp; omega
              · exact hgt.out i y (by omega) h2)
            clear hx' done
            go_wp2_with (fail)
            go_quiet (fail)
            go_wp2_with (fail)
            go_roundw
            case rel => exact ⟨a, d + nq, by omega, by go_num, rfl, hgt2⟩
            case measure => simp [intOf]
          · have hp2 : ¬ p' > p := by omega
            have hnew : RowKit.Hid (SomeF t (j + 1) (ys.take (a + 1) ++ [(p, x)] ++ ys.drop (a + 1))) := Lib.hid (done.out (.inr ⟨(p', x'), by simpa using hx', by unfold leK; simp; omega⟩))
            clear hx' done
            go_wp2_with (fail)
            go_quiet (fail)
            go_wp2_with (fail)
            have hO3 := (hO2.ext (Ext.draws w9 d)).ext (Ext.draws (w9.drewN d) nq)
            have hE3 := (hE2.drewN d).drewN nq
            have g0 := Ext.cell (Ext.draws (w9.drewN d) nq) (Ext.cell (Ext.draws w9 d) e0)
            have g1 := Ext.cell (Ext.draws (w9.drewN d) nq) (Ext.cell (Ext.draws w9 d) e1)
            clear e0 e1 hO2 hE2
            generalize (w9.drewN d).drewN nq = w5 at hO3 hE3 g0 g1 ⊢
            have hqc : q ≤ co := hO3.lc
            obtain ⟨A1, eA, lA⟩ : ∃ A1, RowKit.Hid ((a + 1) = A1) ∧ A1 ≤ q := ⟨_, Lib.hid rfl, by omega⟩
            have q1 : ∀ W, (Instr.sliceAt 32 (.slice (some ⟨bo, oo, none⟩) q co) none (some (.int .i64 ((a : Int) + 1))) none).run Tryd.prog W = .ok (.slice (some ⟨bo, oo, none⟩) A1 co) W := fun W => by rw [← eA.out]; exact slice_hi (some ⟨bo, oo, none⟩) q co (a + 1) (by omega) W
            obtain ⟨s2', n2', c2', q2, hO5, en2⟩ : ∃ s2' n2' c2', (∀ W, (Instr.sliceAt 32 (.slice (some ⟨bo, oo, none⟩) q co) (some (.int .i64 ((a : Int) + 1))) none none).run Tryd.prog W = .ok (.slice s2' n2' c2') W) ∧ QS w5 s2' n2' c2' (ys.drop A1) ∧ n2' + A1 = q := ⟨_, _, _, fun W => slice_lo (some ⟨bo, oo, none⟩) q co (a + 1) (by omega) W, by rw [← eA.out]; exact hO3.drop (by omega), by rw [← eA.out]; omega⟩
            have hO4 : QS w5 (some ⟨bo, oo, none⟩) A1 co (ys.take A1) := hO3.take lA
            obtain ⟨L2, eL2⟩ : ∃ L2, RowKit.Hid (A1 + 1 = L2) := ⟨_, Lib.hid rfl⟩
            obtain ⟨L3, eL3⟩ : ∃ L3, RowKit.Hid (L2 + n2' = L3) := ⟨_, Lib.hid rfl⟩
            have lL2 : L2 ≤ 1048577 := by have := eL2.out; omega
            have lL3 : RowKit.Hid (L3 = q + 1) := Lib.hid (by have := eL2.out; have := eL3.out; omega)
            have lL4 : L3 ≤ q + 1 := by have := lL3.out; omega
            have hnew2 : RowKit.Hid (SomeF t (j + 1) (ys.take A1 ++ [(p, x)] ++ ys.drop A1)) := Lib.hid (by rw [← eA.out]; exact hnew.out)
            clear en2
            go_region_held3 (fun w' => (w'.cell? ⟨bx, 0, none⟩ = some (.int .u64 p) ∧ w'.cell? ⟨bx, 1, none⟩ = some (.int .u64 x)))
              (first
                | exact ⟨Ext.cell x3 g0, Ext.cell x3 g1⟩
                | exact ⟨Ext.cell x2 g0, Ext.cell x2 g1⟩
                | exact ⟨Ext.cell (Ext.alloc x1 _) g0, Ext.cell (Ext.alloc x1 _) g1⟩
                | exact ⟨Ext.cell x1 g0, Ext.cell x1 g1⟩
                | exact ⟨Ext.cell (Ext.drew (Ext.new w5 _)) g0, Ext.cell (Ext.drew (Ext.new w5 _)) g1⟩
                | go_keep)
              (first
                | (refine step_append_recs w5.drew (by rfl) (.const (.slice none 0 0)) (.tmp 56) (by rfl) w5.heap.size 0 (.slice none 0 0) [] (by rfl) (World.ownsRow_nil _ _ _ _) (some ⟨bo, oo, none⟩) A1 co (ys.take A1) (by rfl) (hO4.ext (Ext.drew (Ext.refl w5))) A1 (Nat.zero_add _) (by omega) (Nat.le_refl _) ?_; intro sx kx w1 hown1 hg1; have x1 : Ext w5 w1 := Ext.grown (Ext.drew (Ext.refl w5)) hg1 (fun k e => by simp [Value.ownBlock] at e); have y1 : QS (w1.alloc (.cells #[.int .u64 p, .int .u64 x] 34)) (some ⟨w1.heap.size, 0, none⟩) 1 1 [(p, x)] := qs_lit w1 p x up ux; have o1 := hown1.alloc (.cells #[.int .u64 p, .int .u64 x] 34))
                | (refine step_append_recs (w5.alloc (.cells #[.int .u64 p, .int .u64 x] 34)).drew (by rfl) (.const (.slice none 0 0)) (.tmp 56) (by rfl) w5.heap.size 0 (.slice none 0 0) [] (by rfl) (World.ownsRow_nil _ _ _ _) (some ⟨bo, oo, none⟩) A1 co (ys.take A1) (by rfl) (hO4.ext (Ext.drew (Ext.new w5 _))) A1 (Nat.zero_add _) (by omega) (by simp) ?_; intro sx kx w1 hown1 hg1; have x1 : Ext w5 w1 := Ext.grown (Ext.drew (Ext.new w5 _)) hg1 (fun k e => by simp [Value.ownBlock] at e); have y1 : QS w1 (some ⟨w5.heap.size, 0, none⟩) 1 1 [(p, x)] := QS.ext (qs_lit w5 p x up ux) (Ext.grown (Ext.drew (Ext.refl _)) hg1 (fun k e => by simp [Value.ownBlock] at e)); have o1 := hown1)
                | (refine step_append_recs _ (by rfl) (.tmp 57) (.tmp 59) (by rfl) w5.heap.size _ _ _ (by rfl) o1 _ 1 1 [(p, x)] (by rfl) y1 L2 eL2.out (by omega) (by have := x1.size; simp; omega) ?_; intro sy ky w2 hown2 hg2; have x2 : Ext w5 w2 := Ext.grown (by first | exact Ext.alloc x1 _ | exact x1) hg2 (own_ge hown1))
                | (refine step_append_recs w2 (by rfl) (.tmp 60) (.tmp 63) (by rfl) w5.heap.size _ _ _ (by rfl) hown2 s2' n2' c2' (ys.drop A1) (by rfl) (hO5.ext x2) L3 eL3.out (by omega) x2.size ?_; intro sz kz w3 hown3 hg3; have x3 : Ext w5 w3 := Ext.grown x2 hg3 (own_ge hown2)))
            all_goals
              have hfin : RowKit.Hid (QS w3 sz L3 kz (ys.take A1 ++ [(p, x)] ++ ys.drop A1)) := Lib.hid (by
                refine qs_of_own hown3 ?_ (by omega) (fun y hy => ?_)
                · have z1 := hO4.len
                  have z2 := hO5.len
                  rw [List.length_append, List.length_append, z2, z1, ← eL3.out, ← eL2.out]; rfl
                · simp only [List.mem_append, List.mem_cons, List.not_mem_nil, or_false] at hy
                  rcases hy with (hy | rfl) | hy
                  · exact hO4.range y hy
                  · exact ⟨up, ux⟩
                  · exact hO5.range y hy)
              skip
              have hEf := hE3.trans x3
              skip
              rename_i hh
              clear hh hown1 hown2 hown3 hg1 hg2 hg3 x1 x2 x3 y1 o1 q1 q2 hO3 hO4 hO5 hE3 g0 g1
              go_wp2_with (fail)
              go_roundw
              case rel => exact ⟨j + 1, q + 1, kz, sz, _, by omega, by omega, by go_num, by rw [lL3.out], by rw [← lL3.out]; exact hfin.out, hnew2, hEf⟩
              case measure => simp [intOf]; omega
    · obtain rfl : j = N := by omega
      go_wp2_with (fail)
      go_ret
      exact ⟨so, q, co, ys, rfl, hO2, hP.out, hE2⟩

end Go.Proofs.YtbpgnnogpcppdaaDoor
