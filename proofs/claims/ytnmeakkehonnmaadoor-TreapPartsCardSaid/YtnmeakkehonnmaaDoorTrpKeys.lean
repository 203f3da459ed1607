/-
  What the statements' own Keys returns: keys, rising, at most twenty. Condition: the raw numbers are there.
-/
import Derived.Test.YtnmeakkehonnmaaDoorTrpSmall
namespace Go.Proofs.YtnmeakkehonnmaaDoor.Trp
open Go.RowKit (Below intOf)

theorem rising_ins {ys : List Int} {a : Nat} {k : Int} (h : Rising ys) (hlo : a = 0 ∨ ∃ x, ys[a - 1]? = some x ∧ x < k) (hhi : ∀ (i : Nat) y, a ≤ i → ys[i]? = some y → k < y) : Rising (ys.take a ++ [k] ++ ys.drop a) := by
  have hlo2 : ∀ y ∈ ys.take a, y < k := fun y hy => by
    obtain ⟨i, hi⟩ := List.mem_iff_getElem?.1 hy
    rw [List.getElem?_take] at hi
    split at hi
    · rename_i hia
      rcases hlo with rfl | ⟨x, hx, hxk⟩
      · omega
      · by_cases e : i = a - 1
        · subst e; rw [hi] at hx; cases hx; exact hxk
        · have := h.lt hi hx (by omega); omega
    · cases hi
  have hhi2 : ∀ y ∈ ys.drop a, k < y := fun y hy => by
    obtain ⟨i, hi⟩ := List.mem_iff_getElem?.1 hy
    rw [List.getElem?_drop] at hi
    exact hhi (a + i) y (by omega) hi
  unfold Rising at *
  have h1 := h
  rw [← List.take_append_drop a ys, List.pairwise_append] at h1
  rw [List.append_assoc, List.pairwise_append]
  refine ⟨h1.1, ?_, fun y hy z hz => ?_⟩
  · rw [List.cons_append, List.nil_append, List.pairwise_cons]
    exact ⟨hhi2, h1.2.1⟩
  · rcases List.mem_cons.1 (by simpa using hz) with rfl | hz
    · exact hlo2 y hy
    · exact h1.2.2 y hy z hz

set_option maxHeartbeats 4000000 in
set_option maxRecDepth 100000 in
theorem keys_any (s : Option Addr) (n c : Nat) (raw : List Int) (w : World) (hR : NSL w s n c raw) :
    Calls Tryd.prog 9 #[.slice s n c] w fun e w' => ∃ sl m c', e = .returned (.slice sl m c') ∧ ∃ ks, WS w' sl m c' ks ∧ m ≤ 20 ∧ Rising ks ∧ Ext w w' := by
  have hnc := hR.2.1
  have hcm := hR.2.2.1
  have HR := Lib.hid hR
  clear hR
  go_enter Tryd.func9, Tryd.ntmps9
  go_wp2_with (fail)
  go_loopw [3, 4] (fun v i wr => ∃ (j q co : Nat) (so : Option Addr) (ys : List Int), j ≤ n ∧ j ≤ 20 ∧ q ≤ j ∧ i = .int .i64 j ∧ v = .slice so q co ∧ WS wr so q co ys ∧ RowKit.Hid (Rising ys) ∧ Ext w wr) (fun _ i _ => n - (intOf i).toNat)
  case atStart => exact ⟨0, 0, 0, none, [], by omega, by omega, by omega, rfl, rfl, WS.empty _ _ _ (by omega), Lib.hid List.Pairwise.nil, Ext.refl w⟩
  case round =>
    obtain ⟨j, q, co, so, ys, hj, hj2, hq, rfl, rfl, hO, hP, hE⟩ := hrel
    have hn63 : (n : Int) ≤ 9223372036854775807 := by omega
    by_cases hlt : j < n ∧ j < 20
    · obtain ⟨h1, h2⟩ := hlt
      have hjn : (j : Int) < n := by omega
      have hj20 : (j : Int) < 20 := by omega
      obtain ⟨x, hx, ux, b, o, rfl, cx⟩ := (HR.out.ext hE).get (k := j) h1
      obtain ⟨K, hK⟩ : ∃ K, keyOf x = K := ⟨_, rfl⟩
      have uK : U64 K := by rw [← hK]; exact keyOf_u x
      have hkey := key_any x
      rw [hK] at hkey
      clear hK hx
      go_wp2_with (fail)
      refine (hkey wr ux.1 ux.2).mono ?_
      rintro e w' ⟨rfl, rfl⟩
      clear hkey
      go_wp2_with (fail)
      go_loopw [6] (fun i ws => ∃ (a d : Nat), a ≤ q ∧ i = .int .i64 a ∧ ws = wr.drewN d ∧ RowKit.Hid (∀ (i : Nat) (y : Int), a ≤ i → ys[i]? = some y → K ≤ y)) (fun i _ => (intOf i).toNat)
      case atStart => exact ⟨q, 0, by omega, rfl, rfl, Lib.hid (fun i y h1 h2 => by have := (List.getElem?_eq_some_iff.1 h2).1; rw [hO.len] at this; omega)⟩
      case round =>
        obtain ⟨a, d, ha, rfl, rfl, hgt⟩ := hrel
        by_cases ha0 : a = 0
        · have hlo : RowKit.Hid (a = 0 ∨ ∃ x, ys[a - 1]? = some x ∧ x < K) := Lib.hid (.inl ha0)
          have z1 : ¬ (0 : Int) < a := by omega
          have z2 : decide ((0 : Int) < a) = false := decide_eq_false z1
          have z3 : decide (0 < a) = false := decide_eq_false (by omega)
          have z4 : (a : Int) ≤ 0 := by omega
          clear ha0
          by_cases haq : a < q
          · have haq2 : (a : Int) < q := by omega
            have hdq : decide ((a : Int) < q) = true := decide_eq_true haq2
            obtain ⟨y0, hy0, uy0, bo, oo, rfl, cy0⟩ := hO.get (k := a) haq
            by_cases hyk : y0 = K
            · subst hyk
              clear hy0
              go_wp2_with (fail)
              go_roundw
              case rel => exact ⟨j + 1, q, co, _, ys, by omega, by omega, by omega, by go_num, rfl, hO.ext (Ext.draws wr d), hP, hE.trans (Ext.draws wr d)⟩
              case measure => simp [intOf]; omega
            · have hbk : (y0 == K) = false := by simpa using hyk
              have hnew : RowKit.Hid (Rising (ys.take a ++ [K] ++ ys.drop a)) := Lib.hid (rising_ins hP.out hlo.out (fun i y hi hy => by
                have h3 := hgt.out a y0 (Nat.le_refl _) hy0
                by_cases e : i = a
                · subst e; rw [hy0] at hy; cases hy; omega
                · have := hP.out.lt hy0 hy (by omega); omega))
              clear hy0 hyk
              go_wp2_with (fail)
              have hO3 := hO.ext (Ext.draws wr d)
              have hE3 := hE.trans (Ext.draws wr d)
              clear hO hE cx
              generalize wr.drewN d = w5 at hO3 hE3 ⊢
              have hqc : q ≤ co := hO3.lc
              obtain ⟨A1, eA, lA⟩ : ∃ A1, RowKit.Hid (a = A1) ∧ A1 ≤ q := ⟨a, Lib.hid rfl, by omega⟩
              have q1 : ∀ W, (Instr.sliceAt 22 (.slice (some ⟨bo, oo, none⟩) q co) none (some (.int .i64 (a : Int))) none).run Tryd.prog W = .ok (.slice (some ⟨bo, oo, none⟩) A1 co) W := fun W => by rw [← eA.out]; exact slice_hiWS (some ⟨bo, oo, none⟩) q co a (by omega) W
              obtain ⟨s2', n2', c2', q2, hO5, en2⟩ : ∃ s2' n2' c2', (∀ W, (Instr.sliceAt 22 (.slice (some ⟨bo, oo, none⟩) q co) (some (.int .i64 (a : Int))) none none).run Tryd.prog W = .ok (.slice s2' n2' c2') W) ∧ WS w5 s2' n2' c2' (ys.drop A1) ∧ n2' + A1 = q := ⟨_, _, _, fun W => slice_loWS (some ⟨bo, oo, none⟩) q co a (by omega) W, by rw [← eA.out]; exact hO3.drop (by omega), by rw [← eA.out]; omega⟩
              have hO4 : WS w5 (some ⟨bo, oo, none⟩) A1 co (ys.take A1) := hO3.take lA
              obtain ⟨L2, eL2⟩ : ∃ L2, RowKit.Hid (A1 + 1 = L2) := ⟨_, Lib.hid rfl⟩
              obtain ⟨L3, eL3⟩ : ∃ L3, RowKit.Hid (L2 + n2' = L3) := ⟨_, Lib.hid rfl⟩
              have lL2 : L2 ≤ 1048577 := by have := eL2.out; omega
              have lL3 : RowKit.Hid (L3 = q + 1) := Lib.hid (by have := eL2.out; have := eL3.out; omega)
              have lL4 : L3 ≤ q + 1 := by have := lL3.out; omega
              have hnew2 : RowKit.Hid (Rising (ys.take A1 ++ [K] ++ ys.drop A1)) := Lib.hid (by rw [← eA.out]; exact hnew.out)
              clear en2
              go_region_held3 (fun _ => True)
                (first
                  | trivial
                  | go_keep)
                (first
                  | (refine step_appendWS w5.drew (by rfl) (.const (.slice none 0 0)) (.tmp 51) (by rfl) w5.heap.size 0 (.slice none 0 0) [] (by rfl) (World.ownsRow_nil _ _ _ _) (some ⟨bo, oo, none⟩) A1 co (ys.take A1) (by rfl) (hO4.ext (Ext.drew (Ext.refl w5))) A1 (Nat.zero_add _) (by omega) (Nat.le_refl _) ?_; intro sx kx w1 hown1 hg1; have x1 : Ext w5 w1 := Ext.grown (Ext.drew (Ext.refl w5)) hg1 (fun k e => by simp [Value.ownBlock] at e); have y1 : WS (w1.alloc (.cells #[.int .u64 K] 25)) (some ⟨w1.heap.size, 0, none⟩) 1 1 [K] := WS.lit w1 K uK; have o1 := hown1.alloc (.cells #[.int .u64 K] 25))
                  | (refine step_appendWS (w5.alloc (.cells #[.int .u64 K] 25)).drew (by rfl) (.const (.slice none 0 0)) (.tmp 51) (by rfl) w5.heap.size 0 (.slice none 0 0) [] (by rfl) (World.ownsRow_nil _ _ _ _) (some ⟨bo, oo, none⟩) A1 co (ys.take A1) (by rfl) (hO4.ext (Ext.drew (Ext.new w5 _))) A1 (Nat.zero_add _) (by omega) (by simp) ?_; intro sx kx w1 hown1 hg1; have x1 : Ext w5 w1 := Ext.grown (Ext.drew (Ext.new w5 _)) hg1 (fun k e => by simp [Value.ownBlock] at e); have y1 : WS w1 (some ⟨w5.heap.size, 0, none⟩) 1 1 [K] := WS.ext (WS.lit w5 K uK) (Ext.grown (Ext.drew (Ext.refl _)) hg1 (fun k e => by simp [Value.ownBlock] at e)); have o1 := hown1)
                  | (refine step_appendWS _ (by rfl) (.tmp 52) (.tmp 54) (by rfl) w5.heap.size _ _ _ (by rfl) o1 _ 1 1 [K] (by rfl) y1 L2 eL2.out (by omega) (by have := x1.size; simp; omega) ?_; intro sy ky w2 hown2 hg2; have x2 : Ext w5 w2 := Ext.grown (by first | exact Ext.alloc x1 _ | exact x1) hg2 (own_ge hown1))
                  | (refine step_appendWS w2 (by rfl) (.tmp 55) (.tmp 58) (by rfl) w5.heap.size _ _ _ (by rfl) hown2 s2' n2' c2' (ys.drop A1) (by rfl) (hO5.ext x2) L3 eL3.out (by omega) x2.size ?_; intro sz kz w3 hown3 hg3; have x3 : Ext w5 w3 := Ext.grown x2 hg3 (own_ge hown2)))
              all_goals
                have hfin : RowKit.Hid (WS w3 sz L3 kz (ys.take A1 ++ [K] ++ ys.drop A1)) := Lib.hid (by
                  refine WS.of_own hown3 ?_ (by omega) (fun y hy => ?_)
                  · have z1 := hO4.len
                    have z2 := hO5.len
                    rw [List.length_append, List.length_append, z2, z1, ← eL3.out, ← eL2.out]; rfl
                  · simp only [List.mem_append, List.mem_cons, List.not_mem_nil, or_false] at hy
                    rcases hy with (hy | rfl) | hy
                    · exact hO4.range y hy
                    · exact uK
                    · exact hO5.range y hy)
                have hEf := hE3.trans x3
                clear hown1 hown2 hown3 hg1 hg2 hg3 x1 x2 x3 y1 o1 q1 q2 hO3 hO4 hO5 hE3
                go_wp2_with (fail)
                go_roundw
                case rel => exact ⟨j + 1, q + 1, kz, sz, _, by omega, by omega, by omega, by go_num, by rw [lL3.out], by rw [← lL3.out]; exact hfin.out, hnew2, hEf⟩
                case measure => simp [intOf]; omega
          · have haq2 : ¬ (a : Int) < q := by omega
            have hdq : decide ((a : Int) < q) = false := decide_eq_false haq2
            have hdn : decide (a < q) = false := decide_eq_false haq
            have hnew : RowKit.Hid (Rising (ys.take a ++ [K] ++ ys.drop a)) := Lib.hid (rising_ins hP.out hlo.out (fun i y hi hy => by
              have := (List.getElem?_eq_some_iff.1 hy).1; rw [hO.len] at this; omega))
            go_wp2_with (fail)
            have hO3 := hO.ext (Ext.draws wr d)
            have hE3 := hE.trans (Ext.draws wr d)
            clear hO hE cx
            generalize wr.drewN d = w5 at hO3 hE3 ⊢
            have hqc : q ≤ co := hO3.lc
            obtain ⟨A1, eA, lA⟩ : ∃ A1, RowKit.Hid (a = A1) ∧ A1 ≤ q := ⟨a, Lib.hid rfl, by omega⟩
            have q1 : ∀ W, (Instr.sliceAt 22 (.slice so q co) none (some (.int .i64 (a : Int))) none).run Tryd.prog W = .ok (.slice so A1 co) W := fun W => by rw [← eA.out]; exact slice_hiWS so q co a (by omega) W
            obtain ⟨s2', n2', c2', q2, hO5, en2⟩ : ∃ s2' n2' c2', (∀ W, (Instr.sliceAt 22 (.slice so q co) (some (.int .i64 (a : Int))) none none).run Tryd.prog W = .ok (.slice s2' n2' c2') W) ∧ WS w5 s2' n2' c2' (ys.drop A1) ∧ n2' + A1 = q := ⟨_, _, _, fun W => slice_loWS so q co a (by omega) W, by rw [← eA.out]; exact hO3.drop (by omega), by rw [← eA.out]; omega⟩
            have hO4 : WS w5 so A1 co (ys.take A1) := hO3.take lA
            obtain ⟨L2, eL2⟩ : ∃ L2, RowKit.Hid (A1 + 1 = L2) := ⟨_, Lib.hid rfl⟩
            obtain ⟨L3, eL3⟩ : ∃ L3, RowKit.Hid (L2 + n2' = L3) := ⟨_, Lib.hid rfl⟩
            have lL2 : L2 ≤ 1048577 := by have := eL2.out; omega
            have lL3 : RowKit.Hid (L3 = q + 1) := Lib.hid (by have := eL2.out; have := eL3.out; omega)
            have lL4 : L3 ≤ q + 1 := by have := lL3.out; omega
            have hnew2 : RowKit.Hid (Rising (ys.take A1 ++ [K] ++ ys.drop A1)) := Lib.hid (by rw [← eA.out]; exact hnew.out)
            clear en2
            go_region_held3 (fun _ => True)
              (first
                | trivial
                | go_keep)
              (first
                | (refine step_appendWS w5.drew (by rfl) (.const (.slice none 0 0)) (.tmp 51) (by rfl) w5.heap.size 0 (.slice none 0 0) [] (by rfl) (World.ownsRow_nil _ _ _ _) so A1 co (ys.take A1) (by rfl) (hO4.ext (Ext.drew (Ext.refl w5))) A1 (Nat.zero_add _) (by omega) (Nat.le_refl _) ?_; intro sx kx w1 hown1 hg1; have x1 : Ext w5 w1 := Ext.grown (Ext.drew (Ext.refl w5)) hg1 (fun k e => by simp [Value.ownBlock] at e); have y1 : WS (w1.alloc (.cells #[.int .u64 K] 25)) (some ⟨w1.heap.size, 0, none⟩) 1 1 [K] := WS.lit w1 K uK; have o1 := hown1.alloc (.cells #[.int .u64 K] 25))
                | (refine step_appendWS (w5.alloc (.cells #[.int .u64 K] 25)).drew (by rfl) (.const (.slice none 0 0)) (.tmp 51) (by rfl) w5.heap.size 0 (.slice none 0 0) [] (by rfl) (World.ownsRow_nil _ _ _ _) so A1 co (ys.take A1) (by rfl) (hO4.ext (Ext.drew (Ext.new w5 _))) A1 (Nat.zero_add _) (by omega) (by simp) ?_; intro sx kx w1 hown1 hg1; have x1 : Ext w5 w1 := Ext.grown (Ext.drew (Ext.new w5 _)) hg1 (fun k e => by simp [Value.ownBlock] at e); have y1 : WS w1 (some ⟨w5.heap.size, 0, none⟩) 1 1 [K] := WS.ext (WS.lit w5 K uK) (Ext.grown (Ext.drew (Ext.refl _)) hg1 (fun k e => by simp [Value.ownBlock] at e)); have o1 := hown1)
                | (refine step_appendWS _ (by rfl) (.tmp 52) (.tmp 54) (by rfl) w5.heap.size _ _ _ (by rfl) o1 _ 1 1 [K] (by rfl) y1 L2 eL2.out (by omega) (by have := x1.size; simp; omega) ?_; intro sy ky w2 hown2 hg2; have x2 : Ext w5 w2 := Ext.grown (by first | exact Ext.alloc x1 _ | exact x1) hg2 (own_ge hown1))
                | (refine step_appendWS w2 (by rfl) (.tmp 55) (.tmp 58) (by rfl) w5.heap.size _ _ _ (by rfl) hown2 s2' n2' c2' (ys.drop A1) (by rfl) (hO5.ext x2) L3 eL3.out (by omega) x2.size ?_; intro sz kz w3 hown3 hg3; have x3 : Ext w5 w3 := Ext.grown x2 hg3 (own_ge hown2)))
            all_goals
              have hfin : RowKit.Hid (WS w3 sz L3 kz (ys.take A1 ++ [K] ++ ys.drop A1)) := Lib.hid (by
                refine WS.of_own hown3 ?_ (by omega) (fun y hy => ?_)
                · have z1 := hO4.len
                  have z2 := hO5.len
                  rw [List.length_append, List.length_append, z2, z1, ← eL3.out, ← eL2.out]; rfl
                · simp only [List.mem_append, List.mem_cons, List.not_mem_nil, or_false] at hy
                  rcases hy with (hy | rfl) | hy
                  · exact hO4.range y hy
                  · exact uK
                  · exact hO5.range y hy)
              have hEf := hE3.trans x3
              clear hown1 hown2 hown3 hg1 hg2 hg3 x1 x2 x3 y1 o1 q1 q2 hO3 hO4 hO5 hE3
              go_wp2_with (fail)
              go_roundw
              case rel => exact ⟨j + 1, q + 1, kz, sz, _, by omega, by omega, by omega, by go_num, by rw [lL3.out], by rw [← lL3.out]; exact hfin.out, hnew2, hEf⟩
              case measure => simp [intOf]; omega
        · obtain ⟨a1, ha1⟩ : ∃ a1, RowKit.Hid (a = a1 + 1) := ⟨a - 1, Lib.hid (by omega)⟩
          have hw1 : IntKind.i64.wrap ((a : Int) - 1) = a1 := by have := ha1.out; rw [IntWalk.i64_in _ (by omega)]; omega
          have z1 : (0 : Int) < a := by omega
          have z2 : decide ((0 : Int) < a) = true := decide_eq_true z1
          have z3 : (a1 : Int) < q := by have := ha1.out; omega
          obtain ⟨y1, hy1, uy1, bo, oo, rfl, cy1⟩ := hO.get (k := a1) (by omega)
          by_cases hk1 : K ≤ y1
          · have hd1 : decide (K ≤ y1) = true := decide_eq_true hk1
            have hgt2 : RowKit.Hid (∀ (i : Nat) (y : Int), a1 ≤ i → ys[i]? = some y → K ≤ y) := Lib.hid (fun i y hi hy => by
              by_cases e : i = a1
              · subst e; rw [hy1] at hy; cases hy; exact hk1
              · exact hgt.out i y (by have := ha1.out; omega) hy)
            clear hy1 ha0
            go_wp2_with (fail)
            go_roundw
            case rel => exact ⟨a1, d, by have := ha1.out; omega, by rfl, rfl, hgt2⟩
            case measure => have := ha1.out; simp [intOf]; omega
          · have hd1 : decide (K ≤ y1) = false := decide_eq_false hk1
            have hlo : RowKit.Hid (a = 0 ∨ ∃ x, ys[a - 1]? = some x ∧ x < K) := Lib.hid (.inr ⟨y1, by rw [ha1.out]; exact hy1, by omega⟩)
            clear hy1 ha0
            by_cases haq : a < q
            · have haq2 : (a : Int) < q := by omega
              have hdq : decide ((a : Int) < q) = true := decide_eq_true haq2
              obtain ⟨y0, hy0, uy0, bo2, oo2, e0, cy0⟩ := hO.get (k := a) haq
              cases e0
              by_cases hyk : y0 = K
              · subst hyk
                clear hy0
                go_wp2_with (fail)
                go_roundw
                case rel => exact ⟨j + 1, q, co, _, ys, by omega, by omega, by omega, by go_num, rfl, hO.ext (Ext.draws wr d), hP, hE.trans (Ext.draws wr d)⟩
                case measure => simp [intOf]; omega
              · have hbk : (y0 == K) = false := by simpa using hyk
                have hnew : RowKit.Hid (Rising (ys.take a ++ [K] ++ ys.drop a)) := Lib.hid (rising_ins hP.out hlo.out (fun i y hi hy => by
                  have h3 := hgt.out a y0 (Nat.le_refl _) hy0
                  by_cases e : i = a
                  · subst e; rw [hy0] at hy; cases hy; omega
                  · have := hP.out.lt hy0 hy (by omega); omega))
                clear hy0 hyk
                go_wp2_with (fail)
                have hO3 := hO.ext (Ext.draws wr d)
                have hE3 := hE.trans (Ext.draws wr d)
                clear hO hE cx
                generalize wr.drewN d = w5 at hO3 hE3 ⊢
                have hqc : q ≤ co := hO3.lc
                obtain ⟨A1, eA, lA⟩ : ∃ A1, RowKit.Hid (a = A1) ∧ A1 ≤ q := ⟨a, Lib.hid rfl, by omega⟩
                have q1 : ∀ W, (Instr.sliceAt 22 (.slice (some ⟨bo, oo, none⟩) q co) none (some (.int .i64 (a : Int))) none).run Tryd.prog W = .ok (.slice (some ⟨bo, oo, none⟩) A1 co) W := fun W => by rw [← eA.out]; exact slice_hiWS (some ⟨bo, oo, none⟩) q co a (by omega) W
                obtain ⟨s2', n2', c2', q2, hO5, en2⟩ : ∃ s2' n2' c2', (∀ W, (Instr.sliceAt 22 (.slice (some ⟨bo, oo, none⟩) q co) (some (.int .i64 (a : Int))) none none).run Tryd.prog W = .ok (.slice s2' n2' c2') W) ∧ WS w5 s2' n2' c2' (ys.drop A1) ∧ n2' + A1 = q := ⟨_, _, _, fun W => slice_loWS (some ⟨bo, oo, none⟩) q co a (by omega) W, by rw [← eA.out]; exact hO3.drop (by omega), by rw [← eA.out]; omega⟩
                have hO4 : WS w5 (some ⟨bo, oo, none⟩) A1 co (ys.take A1) := hO3.take lA
                obtain ⟨L2, eL2⟩ : ∃ L2, RowKit.Hid (A1 + 1 = L2) := ⟨_, Lib.hid rfl⟩
                obtain ⟨L3, eL3⟩ : ∃ L3, RowKit.Hid (L2 + n2' = L3) := ⟨_, Lib.hid rfl⟩
                have lL2 : L2 ≤ 1048577 := by have := eL2.out; omega
                have lL3 : RowKit.Hid (L3 = q + 1) := Lib.hid (by have := eL2.out; have := eL3.out; omega)
                have lL4 : L3 ≤ q + 1 := by have := lL3.out; omega
                have hnew2 : RowKit.Hid (Rising (ys.take A1 ++ [K] ++ ys.drop A1)) := Lib.hid (by rw [← eA.out]; exact hnew.out)
                clear en2
                go_region_held3 (fun _ => True)
                  (first
                    | trivial
                    | go_keep)
                  (first
                    | (refine step_appendWS w5.drew (by rfl) (.const (.slice none 0 0)) (.tmp 51) (by rfl) w5.heap.size 0 (.slice none 0 0) [] (by rfl) (World.ownsRow_nil _ _ _ _) (some ⟨bo, oo, none⟩) A1 co (ys.take A1) (by rfl) (hO4.ext (Ext.drew (Ext.refl w5))) A1 (Nat.zero_add _) (by omega) (Nat.le_refl _) ?_; intro sx kx w1 hown1 hg1; have x1 : Ext w5 w1 := Ext.grown (Ext.drew (Ext.refl w5)) hg1 (fun k e => by simp [Value.ownBlock] at e); have y1 : WS (w1.alloc (.cells #[.int .u64 K] 25)) (some ⟨w1.heap.size, 0, none⟩) 1 1 [K] := WS.lit w1 K uK; have o1 := hown1.alloc (.cells #[.int .u64 K] 25))
                    | (refine step_appendWS (w5.alloc (.cells #[.int .u64 K] 25)).drew (by rfl) (.const (.slice none 0 0)) (.tmp 51) (by rfl) w5.heap.size 0 (.slice none 0 0) [] (by rfl) (World.ownsRow_nil _ _ _ _) (some ⟨bo, oo, none⟩) A1 co (ys.take A1) (by rfl) (hO4.ext (Ext.drew (Ext.new w5 _))) A1 (Nat.zero_add _) (by omega) (by simp) ?_; intro sx kx w1 hown1 hg1; have x1 : Ext w5 w1 := Ext.grown (Ext.drew (Ext.new w5 _)) hg1 (fun k e => by simp [Value.ownBlock] at e); have y1 : WS w1 (some ⟨w5.heap.size, 0, none⟩) 1 1 [K] := WS.ext (WS.lit w5 K uK) (Ext.grown (Ext.drew (Ext.refl _)) hg1 (fun k e => by simp [Value.ownBlock] at e)); have o1 := hown1)
                    | (refine step_appendWS _ (by rfl) (.tmp 52) (.tmp 54) (by rfl) w5.heap.size _ _ _ (by rfl) o1 _ 1 1 [K] (by rfl) y1 L2 eL2.out (by omega) (by have := x1.size; simp; omega) ?_; intro sy ky w2 hown2 hg2; have x2 : Ext w5 w2 := Ext.grown (by first | exact Ext.alloc x1 _ | exact x1) hg2 (own_ge hown1))
                    | (refine step_appendWS w2 (by rfl) (.tmp 55) (.tmp 58) (by rfl) w5.heap.size _ _ _ (by rfl) hown2 s2' n2' c2' (ys.drop A1) (by rfl) (hO5.ext x2) L3 eL3.out (by omega) x2.size ?_; intro sz kz w3 hown3 hg3; have x3 : Ext w5 w3 := Ext.grown x2 hg3 (own_ge hown2)))
                all_goals
                  have hfin : RowKit.Hid (WS w3 sz L3 kz (ys.take A1 ++ [K] ++ ys.drop A1)) := Lib.hid (by
                    refine WS.of_own hown3 ?_ (by omega) (fun y hy => ?_)
                    · have z1 := hO4.len
                      have z2 := hO5.len
                      rw [List.length_append, List.length_append, z2, z1, ← eL3.out, ← eL2.out]; rfl
                    · simp only [List.mem_append, List.mem_cons, List.not_mem_nil, or_false] at hy
                      rcases hy with (hy | rfl) | hy
                      · exact hO4.range y hy
                      · exact uK
                      · exact hO5.range y hy)
                  have hEf := hE3.trans x3
                  clear hown1 hown2 hown3 hg1 hg2 hg3 x1 x2 x3 y1 o1 q1 q2 hO3 hO4 hO5 hE3
                  go_wp2_with (fail)
                  go_roundw
                  case rel => exact ⟨j + 1, q + 1, kz, sz, _, by omega, by omega, by omega, by go_num, by rw [lL3.out], by rw [← lL3.out]; exact hfin.out, hnew2, hEf⟩
                  case measure => simp [intOf]; omega
            · have haq2 : ¬ (a : Int) < q := by omega
              have hdq : decide ((a : Int) < q) = false := decide_eq_false haq2
              have hdn : decide (a < q) = false := decide_eq_false haq
              have hnew : RowKit.Hid (Rising (ys.take a ++ [K] ++ ys.drop a)) := Lib.hid (rising_ins hP.out hlo.out (fun i y hi hy => by
                have := (List.getElem?_eq_some_iff.1 hy).1; rw [hO.len] at this; omega))
              go_wp2_with (fail)
              have hO3 := hO.ext (Ext.draws wr d)
              have hE3 := hE.trans (Ext.draws wr d)
              clear hO hE cx
              generalize wr.drewN d = w5 at hO3 hE3 ⊢
              have hqc : q ≤ co := hO3.lc
              obtain ⟨A1, eA, lA⟩ : ∃ A1, RowKit.Hid (a = A1) ∧ A1 ≤ q := ⟨a, Lib.hid rfl, by omega⟩
              have q1 : ∀ W, (Instr.sliceAt 22 (.slice (some ⟨bo, oo, none⟩) q co) none (some (.int .i64 (a : Int))) none).run Tryd.prog W = .ok (.slice (some ⟨bo, oo, none⟩) A1 co) W := fun W => by rw [← eA.out]; exact slice_hiWS (some ⟨bo, oo, none⟩) q co a (by omega) W
              obtain ⟨s2', n2', c2', q2, hO5, en2⟩ : ∃ s2' n2' c2', (∀ W, (Instr.sliceAt 22 (.slice (some ⟨bo, oo, none⟩) q co) (some (.int .i64 (a : Int))) none none).run Tryd.prog W = .ok (.slice s2' n2' c2') W) ∧ WS w5 s2' n2' c2' (ys.drop A1) ∧ n2' + A1 = q := ⟨_, _, _, fun W => slice_loWS (some ⟨bo, oo, none⟩) q co a (by omega) W, by rw [← eA.out]; exact hO3.drop (by omega), by rw [← eA.out]; omega⟩
              have hO4 : WS w5 (some ⟨bo, oo, none⟩) A1 co (ys.take A1) := hO3.take lA
              obtain ⟨L2, eL2⟩ : ∃ L2, RowKit.Hid (A1 + 1 = L2) := ⟨_, Lib.hid rfl⟩
              obtain ⟨L3, eL3⟩ : ∃ L3, RowKit.Hid (L2 + n2' = L3) := ⟨_, Lib.hid rfl⟩
              have lL2 : L2 ≤ 1048577 := by have := eL2.out; omega
              have lL3 : RowKit.Hid (L3 = q + 1) := Lib.hid (by have := eL2.out; have := eL3.out; omega)
              have lL4 : L3 ≤ q + 1 := by have := lL3.out; omega
              have hnew2 : RowKit.Hid (Rising (ys.take A1 ++ [K] ++ ys.drop A1)) := Lib.hid (by rw [← eA.out]; exact hnew.out)
              clear en2
              go_region_held3 (fun _ => True)
                (first
                  | trivial
                  | go_keep)
                (first
                  | (refine step_appendWS w5.drew (by rfl) (.const (.slice none 0 0)) (.tmp 51) (by rfl) w5.heap.size 0 (.slice none 0 0) [] (by rfl) (World.ownsRow_nil _ _ _ _) (some ⟨bo, oo, none⟩) A1 co (ys.take A1) (by rfl) (hO4.ext (Ext.drew (Ext.refl w5))) A1 (Nat.zero_add _) (by omega) (Nat.le_refl _) ?_; intro sx kx w1 hown1 hg1; have x1 : Ext w5 w1 := Ext.grown (Ext.drew (Ext.refl w5)) hg1 (fun k e => by simp [Value.ownBlock] at e); have y1 : WS (w1.alloc (.cells #[.int .u64 K] 25)) (some ⟨w1.heap.size, 0, none⟩) 1 1 [K] := WS.lit w1 K uK; have o1 := hown1.alloc (.cells #[.int .u64 K] 25))
                  | (refine step_appendWS (w5.alloc (.cells #[.int .u64 K] 25)).drew (by rfl) (.const (.slice none 0 0)) (.tmp 51) (by rfl) w5.heap.size 0 (.slice none 0 0) [] (by rfl) (World.ownsRow_nil _ _ _ _) (some ⟨bo, oo, none⟩) A1 co (ys.take A1) (by rfl) (hO4.ext (Ext.drew (Ext.new w5 _))) A1 (Nat.zero_add _) (by omega) (by simp) ?_; intro sx kx w1 hown1 hg1; have x1 : Ext w5 w1 := Ext.grown (Ext.drew (Ext.new w5 _)) hg1 (fun k e => by simp [Value.ownBlock] at e); have y1 : WS w1 (some ⟨w5.heap.size, 0, none⟩) 1 1 [K] := WS.ext (WS.lit w5 K uK) (Ext.grown (Ext.drew (Ext.refl _)) hg1 (fun k e => by simp [Value.ownBlock] at e)); have o1 := hown1)
                  | (refine step_appendWS _ (by rfl) (.tmp 52) (.tmp 54) (by rfl) w5.heap.size _ _ _ (by rfl) o1 _ 1 1 [K] (by rfl) y1 L2 eL2.out (by omega) (by have := x1.size; simp; omega) ?_; intro sy ky w2 hown2 hg2; have x2 : Ext w5 w2 := Ext.grown (by first | exact Ext.alloc x1 _ | exact x1) hg2 (own_ge hown1))
                  | (refine step_appendWS w2 (by rfl) (.tmp 55) (.tmp 58) (by rfl) w5.heap.size _ _ _ (by rfl) hown2 s2' n2' c2' (ys.drop A1) (by rfl) (hO5.ext x2) L3 eL3.out (by omega) x2.size ?_; intro sz kz w3 hown3 hg3; have x3 : Ext w5 w3 := Ext.grown x2 hg3 (own_ge hown2)))
              all_goals
                have hfin : RowKit.Hid (WS w3 sz L3 kz (ys.take A1 ++ [K] ++ ys.drop A1)) := Lib.hid (by
                  refine WS.of_own hown3 ?_ (by omega) (fun y hy => ?_)
                  · have z1 := hO4.len
                    have z2 := hO5.len
                    rw [List.length_append, List.length_append, z2, z1, ← eL3.out, ← eL2.out]; rfl
                  · simp only [List.mem_append, List.mem_cons, List.not_mem_nil, or_false] at hy
                    rcases hy with (hy | rfl) | hy
                    · exact hO4.range y hy
                    · exact uK
                    · exact hO5.range y hy)
                have hEf := hE3.trans x3
                clear hown1 hown2 hown3 hg1 hg2 hg3 x1 x2 x3 y1 o1 q1 q2 hO3 hO4 hO5 hE3
                go_wp2_with (fail)
                go_roundw
                case rel => exact ⟨j + 1, q + 1, kz, sz, _, by omega, by omega, by omega, by go_num, by rw [lL3.out], by rw [← lL3.out]; exact hfin.out, hnew2, hEf⟩
                case measure => simp [intOf]; omega
    · by_cases h1 : j < n
      · have h2 : ¬ (j : Int) < 20 := by omega
        have h3 : (j : Int) < n := by omega
        have z1 : decide (j < 20) = false := decide_eq_false (by omega)
        have z2 : decide ((j : Int) < 20) = false := decide_eq_false h2
        go_wp2_with (fail)
        go_ret
        exact ⟨so, q, co, rfl, ys, hO, by omega, hP.out, hE⟩
      · have h2 : ¬ (j : Int) < n := by omega
        have z1 : decide (j < n) = false := decide_eq_false h1
        have z2 : decide ((j : Int) < n) = false := decide_eq_false h2
        go_wp2_with (fail)
        go_ret
        exact ⟨so, q, co, rfl, ys, hO, by omega, hP.out, hE⟩

end Go.Proofs.YtnmeakkehonnmaaDoor.Trp
