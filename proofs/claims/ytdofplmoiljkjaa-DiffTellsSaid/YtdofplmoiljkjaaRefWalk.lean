/-
  What the document's own Then returns, walked. Conditions: the writes are there; at most 2^20 in all.
-/
import Derived.Test.YtdofplmoiljkjaaRefThen
namespace Go.Proofs.Ytdofplmoiljkjaa
open Go.RowKit (Below intOf)

set_option maxRecDepth 100000 in
set_option maxHeartbeats 8000000 in
theorem rthen_any (s1 s2 : Option Addr) (n1 n2 c1 c2 : Nat) (l m : List Wr) (w : World) (h1 : RS w s1 n1 c1 l) (h2 : RS w s2 n2 c2 m) (hnm : n1 + n2 ≤ 1048576) :
    Calls Try.prog 21 #[.slice s1 n1 c1, .slice s2 n2 c2] w fun e w' => ∃ sl n c t, e = .returned (.slice sl n c) ∧ RS w' sl n c t ∧ IsThen (l ++ m) t ∧ Ext w w' := by
  obtain ⟨sa, ca, wa, sb, cb, wb, ra, rb, hR, hE0⟩ := append_two h1 h2 hnm
  obtain ⟨N, eN⟩ : ∃ N, RowKit.Hid (n1 + n2 = N) := ⟨_, Lib.hid rfl⟩
  obtain ⟨all, eall⟩ : ∃ all, RowKit.Hid (l ++ m = all) := ⟨_, Lib.hid rfl⟩
  rw [eN.out] at rb hR hnm
  rw [eall.out] at hR
  have Ra := Lib.hid ra
  have Rb := Lib.hid rb
  have hna := Lib.hid hR.len
  clear ra rb h1 h2
  go_enter Try.func21, Try.ntmps21
  go_wp2_with (first
    | (at_builtin; refine Lib.wpList_append_run _ rfl (.const (.slice none 0 0)) (.tmp 11) _ _ rfl _ _ rfl rfl _ _ Ra.out ?_)
    | (at_builtin; refine Lib.wpList_append_run _ rfl (.tmp 12) (.tmp 13) _ _ rfl _ _ rfl rfl _ _ Rb.out ?_))
  clear Ra Rb
  go_loopw [6, 7] (fun v i wr => ∃ (j q co : Nat) (so : Option Addr) (ys : List Wr), j ≤ N ∧ q ≤ j ∧ i = .int .i64 j ∧ v = .slice so q co ∧ RS wr so q co ys ∧ RS wr sb N cb all ∧ RowKit.Hid (Part all j ys) ∧ Ext w wr) (fun _ i _ => N - (intOf i).toNat)
  case atStart => exact ⟨0, 0, 0, none, [], by omega, by omega, rfl, rfl, RS.empty _ _ _ (by omega), hR, Lib.hid (part_zero all), hE0⟩
  case round =>
    clear hR hE0
    obtain ⟨j, q, co, so, ys, hj, hq, rfl, rfl, hO, hR, hP, hE⟩ := hrel
    by_cases hlt : j < N
    · obtain ⟨p, x, hx, ip, ux, ba, oa, rfl, e0, e1⟩ := hR.get hlt
      have HX := Lib.hid hx
      have hjN : (j : Int) < N := by omega
      clear hx
      go_wp2_with (fail)
      go_loopw [8, 9] (fun r i ws => ∃ (k d : Nat) (b : Bool), j + 1 ≤ k ∧ k ≤ N ∧ i = .int .i64 k ∧ r = .bool b ∧ ws = wr.drewN d ∧ RowKit.Hid (b = true ↔ ∀ (i : Nat) (y : Wr), j < i → i < k → all[i]? = some y → y.1 ≠ p)) (fun _ i _ => N - (intOf i).toNat)
      case atStart => exact ⟨j + 1, 0, true, by omega, by omega, by go_num, rfl, rfl, Lib.hid ⟨fun _ i y h1 h2 => by omega, fun _ => rfl⟩⟩
      case round =>
        obtain ⟨k, d, b, hk1, hk2, rfl, rfl, rfl, hb⟩ := hrel
        by_cases hkN : k < N
        · obtain ⟨p', x', hx', _, _, _, _, e', f0, _⟩ := hR.get hkN
          cases e'
          have hkN' : (k : Int) < N := by omega
          have hstep : RowKit.Hid ((∀ (i : Nat) (y : Wr), j < i → i < k + 1 → all[i]? = some y → y.1 ≠ p) ↔ (b = true ∧ p' ≠ p)) := Lib.hid (by
            rw [hb.out]
            constructor
            · intro h
              exact ⟨fun i y h1 h2 h3 => h i y h1 (by omega) h3, h k (p', x') (by omega) (by omega) hx'⟩
            · rintro ⟨h, hp⟩ i y h1 h2 h3
              by_cases e : i = k
              · subst e; rw [hx'] at h3; cases h3; exact hp
              · exact h i y h1 (by omega) h3)
          clear hx'
          cases b with
          | false =>
            go_wp2_with (fail)
            go_quiet (fail)
            go_wp2_with (fail)
            go_roundw
            case rel => exact ⟨k + 1, d + nq, false, by omega, by omega, by go_num, rfl, rfl, Lib.hid (by rw [hstep.out]; simp)⟩
            case measure => simp [intOf]; omega
          | true =>
            by_cases hp : p' = p
            · subst hp
              have hb2 : (p' != p') = false := by simp
              go_wp2_with (fail)
              go_quiet (fail)
              go_wp2_with (fail)
              go_roundw
              case rel => exact ⟨k + 1, d + nq, false, by omega, by omega, by go_num, by simp, rfl, Lib.hid (by rw [hstep.out]; simp)⟩
              case measure => simp [intOf]; omega
            · have hb2 : (p' != p) = true := by simpa using hp
              have HP := Lib.hid hp
              clear hp
              go_wp2_with (fail)
              go_quiet (fail)
              go_wp2_with (fail)
              go_roundw
              case rel => exact ⟨k + 1, d + nq, true, by omega, by omega, by go_num, by simp, rfl, Lib.hid (by rw [hstep.out]; simp [HP.out])⟩
              case measure => simp [intOf]; omega
        · obtain rfl : k = N := by omega
          have hlast : RowKit.Hid (b = true ↔ Last all j p) := Lib.hid (by
            rw [hb.out]
            constructor
            · intro h i y h1 h2
              exact h i y h1 (by rw [← hna.out]; exact (List.getElem?_eq_some_iff.1 h2).1) h2
            · intro h i y h1 _ h3
              exact h i y h1 h3)
          cases b with
          | false =>
            go_wp2_with (fail)
            go_roundw
            case rel => exact ⟨j + 1, q, co, so, ys, by omega, by omega, by go_num, rfl, hO.ext (Ext.draws wr d), hR.ext (Ext.draws wr d), Lib.hid (part_skip hP.out HX.out (fun h => by have := hlast.out.2 h; cases this)), hE.drewN d⟩
            case measure => simp [intOf]; omega
          | true =>
            have hL : RowKit.Hid (Last all j p) := Lib.hid (hlast.out.1 rfl)
            have hO2 := hO.ext (Ext.draws wr d)
            have hR2 := hR.ext (Ext.draws wr d)
            have hE2 := hE.drewN d
            replace e0 := Ext.cell (Ext.draws wr d) e0
            replace e1 := Ext.cell (Ext.draws wr d) e1
            clear hO hR hE hb hlast
            generalize wr.drewN d = w0 at hO2 hR2 hE2 e0 e1 ⊢
            go_wp2_with (fail)
            go_loopw [10] (fun i ws => ∃ (a d : Nat), a ≤ q ∧ i = .int .i64 a ∧ ws = w0.drewN d ∧ RowKit.Hid (∀ (i : Nat) (y : Wr), a ≤ i → ys[i]? = some y → p < y.1)) (fun i _ => (intOf i).toNat)
            case atStart => exact ⟨q, 0, by omega, rfl, rfl, Lib.hid (fun i y h1 h2 => by have := (List.getElem?_eq_some_iff.1 h2).1; rw [hO2.len] at this; omega)⟩
            case round =>
              obtain ⟨a, d, ha, rfl, rfl, hgt⟩ := hrel
              have done : RowKit.Hid ((a = 0 ∨ ∃ q z, ys[a - 1]? = some (q, z) ∧ q < p) → Part all (j + 1) (ys.take a ++ [(p, x)] ++ ys.drop a)) := Lib.hid (fun h => part_put hP.out HX.out hL.out (take_lt hP.out.1 h) (drop_gt hgt.out))
              cases a with
              | zero =>
                have hnew : RowKit.Hid (Part all (j + 1) (ys.take 0 ++ [(p, x)] ++ ys.drop 0)) := Lib.hid (done.out (.inl rfl))
                clear done
                go_wp2_with (fail)
                go_quiet (fail)
                go_wp2_with (fail)
                rw [show ((0 : Nat) : Int) = 0 from rfl]
                have hO3 := (hO2.ext (Ext.draws w0 d)).ext (Ext.draws (w0.drewN d) nq)
                have hR3 := (hR2.ext (Ext.draws w0 d)).ext (Ext.draws (w0.drewN d) nq)
                have hE3 := (hE2.drewN d).drewN nq
                have g0 := Ext.cell (Ext.draws (w0.drewN d) nq) (Ext.cell (Ext.draws w0 d) e0)
                have g1 := Ext.cell (Ext.draws (w0.drewN d) nq) (Ext.cell (Ext.draws w0 d) e1)
                clear e0 e1 hO2 hR2 hE2
                generalize (w0.drewN d).drewN nq = w5 at hO3 hR3 hE3 g0 g1 ⊢
                have hqc : q ≤ co := hO3.lc
                obtain ⟨A1, eA, lA⟩ : ∃ A1, RowKit.Hid (0 = A1) ∧ A1 ≤ q := ⟨_, Lib.hid rfl, by omega⟩
                have q1 : ∀ W, (Instr.sliceAt 23 (.slice so q co) none (some (.int .i64 0)) none).run Try.prog W = .ok (.slice so A1 co) W := fun W => by rw [← eA.out]; exact slice_hi so q co 0 (by omega) W
                obtain ⟨s2', n2', c2', q2, hO5, en2⟩ : ∃ s2' n2' c2', (∀ W, (Instr.sliceAt 23 (.slice so q co) (some (.int .i64 0)) none none).run Try.prog W = .ok (.slice s2' n2' c2') W) ∧ RS w5 s2' n2' c2' (ys.drop A1) ∧ n2' + A1 = q := ⟨_, _, _, fun W => slice_lo so q co 0 (by omega) W, by rw [← eA.out]; exact hO3.drop (by omega), by rw [← eA.out]; omega⟩
                have hO4 : RS w5 so A1 co (ys.take A1) := hO3.take lA
                obtain ⟨L2, eL2⟩ : ∃ L2, RowKit.Hid (A1 + 1 = L2) := ⟨_, Lib.hid rfl⟩
                obtain ⟨L3, eL3⟩ : ∃ L3, RowKit.Hid (L2 + n2' = L3) := ⟨_, Lib.hid rfl⟩
                have lL2 : L2 ≤ 1048577 := by have := eL2.out; omega
                have lL3 : L3 ≤ j + 1 := by have := eL2.out; have := eL3.out; omega
                have hnew2 : RowKit.Hid (Part all (j + 1) (ys.take A1 ++ [(p, x)] ++ ys.drop A1)) := Lib.hid (by rw [← eA.out]; exact hnew.out)
                clear en2
                go_region_held3 (fun w' => (w'.cell? ⟨ba, oa + j * 2, none⟩ = some (.int .i64 p) ∧ w'.cell? ⟨ba, oa + j * 2 + 1, none⟩ = some (.int .u64 x)))
                  (first
                    | exact ⟨Ext.cell x3 g0, Ext.cell x3 g1⟩
                    | exact ⟨Ext.cell x2 g0, Ext.cell x2 g1⟩
                    | exact ⟨Ext.cell (Ext.alloc x1 _) g0, Ext.cell (Ext.alloc x1 _) g1⟩
                    | exact ⟨Ext.cell x1 g0, Ext.cell x1 g1⟩
                    | exact ⟨Ext.cell (Ext.drew (Ext.new w5 _)) g0, Ext.cell (Ext.drew (Ext.new w5 _)) g1⟩
                    | go_keep)
                  (first
                    | (refine step_append_writes w5.drew (by rfl) (.const (.slice none 0 0)) (.tmp 67) (by rfl) w5.heap.size 0 (.slice none 0 0) [] (by rfl) (World.ownsRow_nil _ _ _ _) so A1 co (ys.take A1) (by rfl) (hO4.ext (Ext.drew (Ext.refl w5))) A1 (Nat.zero_add _) (by omega) (Nat.le_refl _) ?_; intro sx kx w1 hown1 hg1; have x1 : Ext w5 w1 := Ext.grown (Ext.drew (Ext.refl w5)) hg1 (fun k e => by simp [Value.ownBlock] at e); have y1 : RS (w1.alloc (.cells #[.int .i64 p, .int .u64 x] 48)) (some ⟨w1.heap.size, 0, none⟩) 1 1 [(p, x)] := rs_lit w1 [(p, x)] (fun y hy => by simp at hy; subst hy; exact ⟨ip, ux⟩) (by simp); have o1 := hown1.alloc (.cells #[.int .i64 p, .int .u64 x] 48))
                    | (refine step_append_writes (w5.alloc (.cells #[.int .i64 p, .int .u64 x] 48)).drew (by rfl) (.const (.slice none 0 0)) (.tmp 67) (by rfl) w5.heap.size 0 (.slice none 0 0) [] (by rfl) (World.ownsRow_nil _ _ _ _) so A1 co (ys.take A1) (by rfl) (hO4.ext (Ext.drew (Ext.new w5 _))) A1 (Nat.zero_add _) (by omega) (by simp) ?_; intro sx kx w1 hown1 hg1; have x1 : Ext w5 w1 := Ext.grown (Ext.drew (Ext.new w5 _)) hg1 (fun k e => by simp [Value.ownBlock] at e); have y1 : RS w1 (some ⟨w5.heap.size, 0, none⟩) 1 1 [(p, x)] := RS.ext (rs_lit w5 [(p, x)] (fun y hy => by simp at hy; subst hy; exact ⟨ip, ux⟩) (by simp)) (Ext.grown (Ext.drew (Ext.refl _)) hg1 (fun k e => by simp [Value.ownBlock] at e)); have o1 := hown1)
                    | (refine step_append_writes _ (by rfl) (.tmp 68) (.tmp 73) (by rfl) w5.heap.size _ _ _ (by rfl) o1 _ 1 1 [(p, x)] (by rfl) y1 L2 eL2.out (by omega) (by have := x1.size; simp; omega) ?_; intro sy ky w2 hown2 hg2; have x2 : Ext w5 w2 := Ext.grown (by first | exact Ext.alloc x1 _ | exact x1) hg2 (own_ge hown1))
                    | (refine step_append_writes w2 (by rfl) (.tmp 74) (.tmp 77) (by rfl) w5.heap.size _ _ _ (by rfl) hown2 s2' n2' c2' (ys.drop A1) (by rfl) (hO5.ext x2) L3 eL3.out (by omega) x2.size ?_; intro sz kz w3 hown3 hg3; have x3 : Ext w5 w3 := Ext.grown x2 hg3 (own_ge hown2)))
                all_goals
                  have hfin : RowKit.Hid (RS w3 sz L3 kz (ys.take A1 ++ [(p, x)] ++ ys.drop A1)) := Lib.hid (by
                    refine rs_of_own hown3 ?_ (by omega) (fun y hy => ?_)
                    · have z1 := hO4.len
                      have z2 := hO5.len
                      rw [List.length_append, List.length_append, z2, z1, ← eL3.out, ← eL2.out]; rfl
                    · simp only [List.mem_append, List.mem_cons, List.not_mem_nil, or_false] at hy
                      rcases hy with (hy | rfl) | hy
                      · exact hO4.range y hy
                      · exact ⟨ip, ux⟩
                      · exact hO5.range y hy)
                  have hRf := hR3.ext x3
                  have hEf := hE3.trans x3
                  rename_i hh
                  clear hh hown1 hown2 hown3 hg1 hg2 hg3 x1 x2 x3 y1 o1 q1 q2 hO3 hO4 hO5 hR3 hE3 g0 g1
                  go_wp2_with (fail)
                  go_roundw
                  case rel => exact ⟨j + 1, L3, kz, sz, _, by omega, by omega, by go_num, rfl, hfin.out, hRf, hnew2, hEf⟩
                  case measure => simp [intOf]; omega
              | succ a =>
                obtain ⟨p', x', hx', _, _, bo, oo, rfl, f0, _⟩ := hO2.get (k := a) (by omega)
                have hne : p' ≠ p := part_ne hP.out HX.out (p', x') (List.mem_of_getElem? hx')
                have ha0 : (0 : Int) < (a : Int) + 1 := by omega
                have hw1 : IntKind.i64.wrap ((a : Int) + 1 - 1) = a := by rw [IntWalk.i64_in _ (by omega)]; omega
                have haq : (a : Int) < q := by omega
                by_cases hp : p < p'
                · have hgt2 : RowKit.Hid (∀ (i : Nat) (y : Wr), a ≤ i → ys[i]? = some y → p < y.1) := Lib.hid (fun i y h1 h2 => by
                    by_cases e : i = a
                    · subst e; rw [hx'] at h2; cases h2; exact hp
                    · exact hgt.out i y (by omega) h2)
                  clear hx' hne done
                  go_wp2_with (fail)
                  go_quiet (fail)
                  go_wp2_with (fail)
                  go_roundw
                  case rel => exact ⟨a, d + nq, by omega, by go_num, rfl, hgt2⟩
                  case measure => simp [intOf]
                · have hp2 : ¬ p' > p := by omega
                  have hnew : RowKit.Hid (Part all (j + 1) (ys.take (a + 1) ++ [(p, x)] ++ ys.drop (a + 1))) := Lib.hid (done.out (.inr ⟨p', x', by simpa using hx', by omega⟩))
                  clear hx' hne done
                  go_wp2_with (fail)
                  go_quiet (fail)
                  go_wp2_with (fail)
                  have hO3 := (hO2.ext (Ext.draws w0 d)).ext (Ext.draws (w0.drewN d) nq)
                  have hR3 := (hR2.ext (Ext.draws w0 d)).ext (Ext.draws (w0.drewN d) nq)
                  have hE3 := (hE2.drewN d).drewN nq
                  have g0 := Ext.cell (Ext.draws (w0.drewN d) nq) (Ext.cell (Ext.draws w0 d) e0)
                  have g1 := Ext.cell (Ext.draws (w0.drewN d) nq) (Ext.cell (Ext.draws w0 d) e1)
                  clear e0 e1 hO2 hR2 hE2
                  generalize (w0.drewN d).drewN nq = w5 at hO3 hR3 hE3 g0 g1 ⊢
                  have hqc : q ≤ co := hO3.lc
                  obtain ⟨A1, eA, lA⟩ : ∃ A1, RowKit.Hid ((a + 1) = A1) ∧ A1 ≤ q := ⟨_, Lib.hid rfl, by omega⟩
                  have q1 : ∀ W, (Instr.sliceAt 23 (.slice (some ⟨bo, oo, none⟩) q co) none (some (.int .i64 ((a : Int) + 1))) none).run Try.prog W = .ok (.slice (some ⟨bo, oo, none⟩) A1 co) W := fun W => by rw [← eA.out]; exact slice_hi (some ⟨bo, oo, none⟩) q co (a + 1) (by omega) W
                  obtain ⟨s2', n2', c2', q2, hO5, en2⟩ : ∃ s2' n2' c2', (∀ W, (Instr.sliceAt 23 (.slice (some ⟨bo, oo, none⟩) q co) (some (.int .i64 ((a : Int) + 1))) none none).run Try.prog W = .ok (.slice s2' n2' c2') W) ∧ RS w5 s2' n2' c2' (ys.drop A1) ∧ n2' + A1 = q := ⟨_, _, _, fun W => slice_lo (some ⟨bo, oo, none⟩) q co (a + 1) (by omega) W, by rw [← eA.out]; exact hO3.drop (by omega), by rw [← eA.out]; omega⟩
                  have hO4 : RS w5 (some ⟨bo, oo, none⟩) A1 co (ys.take A1) := hO3.take lA
                  obtain ⟨L2, eL2⟩ : ∃ L2, RowKit.Hid (A1 + 1 = L2) := ⟨_, Lib.hid rfl⟩
                  obtain ⟨L3, eL3⟩ : ∃ L3, RowKit.Hid (L2 + n2' = L3) := ⟨_, Lib.hid rfl⟩
                  have lL2 : L2 ≤ 1048577 := by have := eL2.out; omega
                  have lL3 : L3 ≤ j + 1 := by have := eL2.out; have := eL3.out; omega
                  have hnew2 : RowKit.Hid (Part all (j + 1) (ys.take A1 ++ [(p, x)] ++ ys.drop A1)) := Lib.hid (by rw [← eA.out]; exact hnew.out)
                  clear en2
                  go_region_held3 (fun w' => (w'.cell? ⟨ba, oa + j * 2, none⟩ = some (.int .i64 p) ∧ w'.cell? ⟨ba, oa + j * 2 + 1, none⟩ = some (.int .u64 x)))
                    (first
                      | exact ⟨Ext.cell x3 g0, Ext.cell x3 g1⟩
                      | exact ⟨Ext.cell x2 g0, Ext.cell x2 g1⟩
                      | exact ⟨Ext.cell (Ext.alloc x1 _) g0, Ext.cell (Ext.alloc x1 _) g1⟩
                      | exact ⟨Ext.cell x1 g0, Ext.cell x1 g1⟩
                      | exact ⟨Ext.cell (Ext.drew (Ext.new w5 _)) g0, Ext.cell (Ext.drew (Ext.new w5 _)) g1⟩
                      | go_keep)
                    (first
                      | (refine step_append_writes w5.drew (by rfl) (.const (.slice none 0 0)) (.tmp 67) (by rfl) w5.heap.size 0 (.slice none 0 0) [] (by rfl) (World.ownsRow_nil _ _ _ _) (some ⟨bo, oo, none⟩) A1 co (ys.take A1) (by rfl) (hO4.ext (Ext.drew (Ext.refl w5))) A1 (Nat.zero_add _) (by omega) (Nat.le_refl _) ?_; intro sx kx w1 hown1 hg1; have x1 : Ext w5 w1 := Ext.grown (Ext.drew (Ext.refl w5)) hg1 (fun k e => by simp [Value.ownBlock] at e); have y1 : RS (w1.alloc (.cells #[.int .i64 p, .int .u64 x] 48)) (some ⟨w1.heap.size, 0, none⟩) 1 1 [(p, x)] := rs_lit w1 [(p, x)] (fun y hy => by simp at hy; subst hy; exact ⟨ip, ux⟩) (by simp); have o1 := hown1.alloc (.cells #[.int .i64 p, .int .u64 x] 48))
                      | (refine step_append_writes (w5.alloc (.cells #[.int .i64 p, .int .u64 x] 48)).drew (by rfl) (.const (.slice none 0 0)) (.tmp 67) (by rfl) w5.heap.size 0 (.slice none 0 0) [] (by rfl) (World.ownsRow_nil _ _ _ _) (some ⟨bo, oo, none⟩) A1 co (ys.take A1) (by rfl) (hO4.ext (Ext.drew (Ext.new w5 _))) A1 (Nat.zero_add _) (by omega) (by simp) ?_; intro sx kx w1 hown1 hg1; have x1 : Ext w5 w1 := Ext.grown (Ext.drew (Ext.new w5 _)) hg1 (fun k e => by simp [Value.ownBlock] at e); have y1 : RS w1 (some ⟨w5.heap.size, 0, none⟩) 1 1 [(p, x)] := RS.ext (rs_lit w5 [(p, x)] (fun y hy => by simp at hy; subst hy; exact ⟨ip, ux⟩) (by simp)) (Ext.grown (Ext.drew (Ext.refl _)) hg1 (fun k e => by simp [Value.ownBlock] at e)); have o1 := hown1)
                      | (refine step_append_writes _ (by rfl) (.tmp 68) (.tmp 73) (by rfl) w5.heap.size _ _ _ (by rfl) o1 _ 1 1 [(p, x)] (by rfl) y1 L2 eL2.out (by omega) (by have := x1.size; simp; omega) ?_; intro sy ky w2 hown2 hg2; have x2 : Ext w5 w2 := Ext.grown (by first | exact Ext.alloc x1 _ | exact x1) hg2 (own_ge hown1))
                      | (refine step_append_writes w2 (by rfl) (.tmp 74) (.tmp 77) (by rfl) w5.heap.size _ _ _ (by rfl) hown2 s2' n2' c2' (ys.drop A1) (by rfl) (hO5.ext x2) L3 eL3.out (by omega) x2.size ?_; intro sz kz w3 hown3 hg3; have x3 : Ext w5 w3 := Ext.grown x2 hg3 (own_ge hown2)))
                  all_goals
                    have hfin : RowKit.Hid (RS w3 sz L3 kz (ys.take A1 ++ [(p, x)] ++ ys.drop A1)) := Lib.hid (by
                      refine rs_of_own hown3 ?_ (by omega) (fun y hy => ?_)
                      · have z1 := hO4.len
                        have z2 := hO5.len
                        rw [List.length_append, List.length_append, z2, z1, ← eL3.out, ← eL2.out]; rfl
                      · simp only [List.mem_append, List.mem_cons, List.not_mem_nil, or_false] at hy
                        rcases hy with (hy | rfl) | hy
                        · exact hO4.range y hy
                        · exact ⟨ip, ux⟩
                        · exact hO5.range y hy)
                    have hRf := hR3.ext x3
                    have hEf := hE3.trans x3
                    rename_i hh
                    clear hh hown1 hown2 hown3 hg1 hg2 hg3 x1 x2 x3 y1 o1 q1 q2 hO3 hO4 hO5 hR3 hE3 g0 g1
                    go_wp2_with (fail)
                    go_roundw
                    case rel => exact ⟨j + 1, L3, kz, sz, _, by omega, by omega, by go_num, rfl, hfin.out, hRf, hnew2, hEf⟩
                    case measure => simp [intOf]; omega
    · obtain rfl : j = N := by omega
      go_wp2_with (fail)
      go_ret
      exact ⟨so, q, co, ys, rfl, hO, by rw [eall.out]; exact part_done hna.out hP.out, hE⟩

end Go.Proofs.Ytdofplmoiljkjaa
