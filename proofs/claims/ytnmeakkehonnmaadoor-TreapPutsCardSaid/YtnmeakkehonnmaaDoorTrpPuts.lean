/-
  The law TreapPuts, walked. Conditions: the package's table lies; the int's bounds; the raw numbers are there.
-/
import Derived.Test.YtnmeakkehonnmaaDoorTrpAwake
import Derived.Test.YtnmeakkehonnmaaDoorTrpKeys
namespace Go.Proofs.YtnmeakkehonnmaaDoor.Trp
open Go.RowKit (Below intOf)

theorem build_right {l : List Int} (h : ¬ 256 < l.length) (hr : Rising l) : rightS l (tree l 0).1 (tree l 0).2 = true := right_of.2 ⟨h, hr, rfl, rfl⟩
theorem pathS_ok {l : List Int} (h : ¬ 256 < l.length) (hr : Rising l) (q : Int) : pathS l (tree l 0).1 (tree l 0).2 q = path l 0 q := by
  unfold pathS; rw [build_right h hr]; rfl

set_option maxHeartbeats 8000000 in
set_option maxRecDepth 100000 in
theorem puts_walk (s : Option Addr) (n c : Nat) (raw : List Int) (kk : Int) (W : World) (hTab : Tab W) (hR : NSL W s n c raw) (hk : I64 kk) :
    Calls Tryd.prog 7 #[.slice s n c, .int .i64 kk] W fun e w' => e = .returned (.bool true) ∧ Below W.heap.size W w' := by
  have HT := Lib.hid hTab
  have HR := Lib.hid hR
  clear hTab hR
  go_enter Tryd.func7, Tryd.ntmps7
  go_wp2_with (fail)
  refine (awake_any W HT.out).mono ?_
  rintro e w1 ⟨rfl, hE⟩
  go_wp2_with (fail)
  refine (key_any kk w1 hk.1 hk.2).mono ?_
  rintro e w' ⟨rfl, rfl⟩
  obtain ⟨q, hq⟩ : ∃ q, keyOf kk = q := ⟨_, rfl⟩
  have uq : U64 q := by rw [← hq]; exact keyOf_u kk
  rw [hq]
  clear hq hk
  go_wp2_with (fail)
  refine (keys_any s n c raw w1 (HR.out.ext hE)).mono ?_
  rintro e w2 ⟨sk, m, ck, rfl, al, hW, hm, hRi, hE2⟩
  replace hE := hE.trans hE2
  clear hE2 HR
  have HRi := Lib.hid hRi
  clear hRi
  go_wp2_with (fail)
  go_loopw [7, 9] (fun v iv wr => ∃ (i p co : Nat) (so : Option Addr) (ys : List Int), i ≤ m ∧ p ≤ i ∧ iv = .int .i64 i ∧ v = .slice so p co ∧ wr.ownsRow w2.heap.size 25 1 (.slice so p co) p (flatWS ys) ∧ ys.length = p ∧ RowKit.Hid (ys = (al.take i).filter (fun x => x != q)) ∧ Ext w2 wr) (fun _ i _ => m - (intOf i).toNat)
  case atStart => exact ⟨0, 0, 0, none, [], by omega, by omega, rfl, rfl, World.ownsRow_nil _ _ _ _, rfl, Lib.hid rfl, Ext.refl w2⟩
  case round =>
    obtain ⟨i, p, co, so, ys, hi, hpi, rfl, rfl, hown, hlen, hys, hE2⟩ := hrel
    by_cases hlt : i < m
    · have hi1 : (i : Int) < m := by omega
      obtain ⟨x, hx, ux, b, o, rfl, cx0⟩ := hW.get (k := i) hlt
      have cx := hE2.cell cx0
      by_cases hxq : x = q
      · subst hxq
        have hys2 : RowKit.Hid (ys = (al.take (i + 1)).filter (fun y => y != x)) := Lib.hid (by rw [take_snoc hx, List.filter_append, ← hys.out]; simp)
        clear hx
        go_wp2_with (fail)
        go_roundw
        case rel => exact ⟨i + 1, p, co, so, ys, by omega, by omega, by go_num, rfl, hown, hlen, hys2, hE2⟩
        case measure => simp [intOf]; omega
      · have hb1 : (x != q) = true := by simpa using hxq
        have hys2 : RowKit.Hid (ys ++ [x] = (al.take (i + 1)).filter (fun y => y != q)) := Lib.hid (by rw [take_snoc hx, List.filter_append, ← hys.out]; simp [hxq])
        clear hx hxq
        have hlit := WS.lit wr x ux
        obtain ⟨so', co', w3, R1, o2, g1⟩ := appWS (hown.alloc _) hlit (p + 1) rfl (by omega) (by have := hE2.size; simp; omega)
        have x1 : Ext w2 w3 := Ext.grown (Ext.alloc hE2 _) g1 (own_ge hown)
        go_wp2_with (at_builtin; refine Lib.wpList_append_run _ rfl _ _ _ _ rfl _ _ rfl rfl _ _ R1.out ?_)
        go_roundw
        case rel => exact ⟨i + 1, p + 1, co', so', _, by omega, by omega, by go_num, rfl, o2, by simp [hlen], hys2, x1⟩
        case measure => simp [intOf]; omega
    · obtain rfl : i = m := by omega
      have hys2 : ys = al.filter (fun x => x != q) := by rw [hys.out, List.take_of_length_le (by rw [hW.len]; exact Nat.le_refl _)]
      have HR2 : RowKit.Hid (Rising ys) := Lib.hid (by rw [hys2]; exact List.Pairwise.filter _ HRi.out)
      have HN : RowKit.Hid (∀ y ∈ ys, y ≠ q) := Lib.hid (fun y hy => by rw [hys2] at hy; have := (List.mem_filter.1 hy).2; simpa using this)
      have hWy : WS wr so p co ys := WS.of_own hown hlen (by omega) (fun y hy => hW.range y (by rw [hys2] at hy; exact (List.mem_filter.1 hy).1))
      have hp20 : p ≤ 20 := by omega
      replace hE := hE.trans hE2
      clear hys hys2 hown hlen hW HRi hE2 hpi
      go_wp2_with (fail)
      go_loopw [10] (fun av ws => ∃ (a d : Nat), a ≤ p ∧ av = .int .i64 a ∧ ws = wr.drewN d ∧ RowKit.Hid (∀ (i : Nat) x, i < a → ys[i]? = some x → x < q)) (fun i _ => p - (intOf i).toNat)
      case atStart => exact ⟨0, 0, by omega, rfl, rfl, Lib.hid (fun i x h => by omega)⟩
      case round =>
        obtain ⟨a, d, ha, rfl, rfl, hlo⟩ := hrel
        by_cases hlt2 : a < p
        · have haq : (a : Int) < p := by omega
          obtain ⟨y, hy, uy, bo, oo, rfl, cy⟩ := hWy.get (k := a) hlt2
          by_cases hyq : y < q
          · have hd1 : decide (y < q) = true := decide_eq_true hyq
            have hlo2 : RowKit.Hid (∀ (i : Nat) x, i < a + 1 → ys[i]? = some x → x < q) := Lib.hid (fun i x h hx => by
              by_cases e : i = a
              · subst e; rw [hy] at hx; cases hx; exact hyq
              · exact hlo.out i x (by omega) hx)
            clear hy
            go_wp2_with (fail)
            go_roundw
            case rel => exact ⟨a + 1, d, by omega, by go_num, rfl, hlo2⟩
            case measure => simp [intOf]; omega
          · have hd1 : decide (y < q) = false := decide_eq_false hyq
            have hhi : RowKit.Hid (∀ (i : Nat) x, a ≤ i → ys[i]? = some x → q < x) := Lib.hid (fun i x h hx => by
              have h1 := HN.out y (List.mem_of_getElem? hy)
              by_cases e : i = a
              · subst e; rw [hy] at hx; cases hx; omega
              · have := HR2.out.lt hy hx (by omega); omega)
            clear hy hyq
            go_wp2_with (fail)
            have hO3 := hWy.ext (Ext.draws wr d)
            have hE3 := hE.trans (Ext.draws wr d)
            clear hWy hE cy
            generalize wr.drewN d = w5 at hO3 hE3 ⊢
            have hqc : p ≤ co := hO3.lc
            obtain ⟨A1, eA, lA⟩ : ∃ A1, RowKit.Hid (a = A1) ∧ A1 ≤ p := ⟨a, Lib.hid rfl, by omega⟩
            have q1 : ∀ W, (Instr.sliceAt 22 (.slice (some ⟨bo, oo, none⟩) p co) none (some (.int .i64 (a : Int))) none).run Tryd.prog W = .ok (.slice (some ⟨bo, oo, none⟩) A1 co) W := fun W => by rw [← eA.out]; exact slice_hiWS (some ⟨bo, oo, none⟩) p co a (by omega) W
            obtain ⟨s2', n2', c2', q2, hO5, en2⟩ : ∃ s2' n2' c2', (∀ W, (Instr.sliceAt 22 (.slice (some ⟨bo, oo, none⟩) p co) (some (.int .i64 (a : Int))) none none).run Tryd.prog W = .ok (.slice s2' n2' c2') W) ∧ WS w5 s2' n2' c2' (ys.drop A1) ∧ n2' + A1 = p := ⟨_, _, _, fun W => slice_loWS (some ⟨bo, oo, none⟩) p co a (by omega) W, by rw [← eA.out]; exact hO3.drop (by omega), by rw [← eA.out]; omega⟩
            have hO4 : WS w5 (some ⟨bo, oo, none⟩) A1 co (ys.take A1) := hO3.take lA
            obtain ⟨L2, eL2⟩ : ∃ L2, RowKit.Hid (A1 + 1 = L2) := ⟨_, Lib.hid rfl⟩
            obtain ⟨L3, eL3⟩ : ∃ L3, RowKit.Hid (L2 + n2' = L3) := ⟨_, Lib.hid rfl⟩
            have lL2 : L2 ≤ 1048577 := by have := eL2.out; omega
            have lL3 : RowKit.Hid (L3 = p + 1) := Lib.hid (by have := eL2.out; have := eL3.out; omega)
            have lL4 : L3 ≤ p + 1 := by have := lL3.out; omega
            have hnew : RowKit.Hid (Rising (ys.take A1 ++ [q] ++ ys.drop A1)) := Lib.hid (by
              rw [← eA.out]
              refine rising_ins HR2.out ?_ hhi.out
              by_cases h0 : a = 0
              · exact .inl h0
              · obtain ⟨x, hx, _⟩ := hO3.get (k := a - 1) (by omega)
                exact .inr ⟨x, hx, hlo.out _ _ (by omega) hx⟩)
            have hplace : RowKit.Hid (∀ (i : Nat) x, ys[i]? = some x → (x < q ↔ i < A1) ∧ x ≠ q) := Lib.hid (fun i x hx => by
              rw [← eA.out]
              refine ⟨⟨fun h => ?_, fun h => hlo.out i x h hx⟩, HN.out x (List.mem_of_getElem? hx)⟩
              by_cases h2 : i < a
              · exact h2
              · have := hhi.out i x (by omega) hx; omega)
            clear en2 hlo hhi
            go_region_held3 (fun _ => True)
              (first
                | trivial
                | go_keep)
              (first
                | (refine step_appendWS w5.drew (by rfl) (.const (.slice none 0 0)) (.tmp 62) (by rfl) w5.heap.size 0 (.slice none 0 0) [] (by rfl) (World.ownsRow_nil _ _ _ _) (some ⟨bo, oo, none⟩) A1 co (ys.take A1) (by rfl) (hO4.ext (Ext.drew (Ext.refl w5))) A1 (Nat.zero_add _) (by omega) (Nat.le_refl _) ?_; intro sx kx w6 hown1 hg1; have x1 : Ext w5 w6 := Ext.grown (Ext.drew (Ext.refl w5)) hg1 (fun k e => by simp [Value.ownBlock] at e); have y1 : WS (w6.alloc (.cells #[.int .u64 q] 25)) (some ⟨w6.heap.size, 0, none⟩) 1 1 [q] := WS.lit w6 q uq; have o1 := hown1.alloc (.cells #[.int .u64 q] 25))
                | (refine step_appendWS (w5.alloc (.cells #[.int .u64 q] 25)).drew (by rfl) (.const (.slice none 0 0)) (.tmp 62) (by rfl) w5.heap.size 0 (.slice none 0 0) [] (by rfl) (World.ownsRow_nil _ _ _ _) (some ⟨bo, oo, none⟩) A1 co (ys.take A1) (by rfl) (hO4.ext (Ext.drew (Ext.new w5 _))) A1 (Nat.zero_add _) (by omega) (by simp) ?_; intro sx kx w6 hown1 hg1; have x1 : Ext w5 w6 := Ext.grown (Ext.drew (Ext.new w5 _)) hg1 (fun k e => by simp [Value.ownBlock] at e); have y1 : WS w6 (some ⟨w5.heap.size, 0, none⟩) 1 1 [q] := WS.ext (WS.lit w5 q uq) (Ext.grown (Ext.drew (Ext.refl _)) hg1 (fun k e => by simp [Value.ownBlock] at e)); have o1 := hown1)
                | (refine step_appendWS _ (by rfl) (.tmp 63) (.tmp 65) (by rfl) w5.heap.size _ _ _ (by rfl) o1 _ 1 1 [q] (by rfl) y1 L2 eL2.out (by omega) (by have := x1.size; simp; omega) ?_; intro sy ky w7 hown2 hg2; have x2 : Ext w5 w7 := Ext.grown (by first | exact Ext.alloc x1 _ | exact x1) hg2 (own_ge hown1))
                | (refine step_appendWS w7 (by rfl) (.tmp 66) (.tmp 69) (by rfl) w5.heap.size _ _ _ (by rfl) hown2 s2' n2' c2' (ys.drop A1) (by rfl) (hO5.ext x2) L3 eL3.out (by omega) x2.size ?_; intro sz kz w8 hown3 hg3; have x3 : Ext w5 w8 := Ext.grown x2 hg3 (own_ge hown2)))
            all_goals
              obtain ⟨more, hmore⟩ : ∃ more, RowKit.Hid (ys.take A1 ++ [q] ++ ys.drop A1 = more) := ⟨_, Lib.hid rfl⟩
              have hWm : WS w8 sz L3 kz more := by
                rw [← hmore.out]
                refine WS.of_own hown3 ?_ (by omega) (fun y hy => ?_)
                · have z1 := hO4.len
                  have z2 := hO5.len
                  rw [List.length_append, List.length_append, z2, z1, ← eL3.out, ← eL2.out]; rfl
                · simp only [List.mem_append, List.mem_cons, List.not_mem_nil, or_false] at hy
                  rcases hy with (hy | rfl) | hy
                  · exact hO4.range y hy
                  · exact uq
                  · exact hO5.range y hy
              have hRm : RowKit.Hid (Rising more) := Lib.hid (by rw [← hmore.out]; exact hnew.out)
              have hWy := hO3.ext x3
              have hE := hE3.trans x3
              obtain rfl := lL3.out
              obtain ⟨j, hj⟩ : ∃ j, RowKit.Hid (Meets ys 0 A1 q j (path ys 0 q) (path more 0 q)) := by
                obtain ⟨j, hj⟩ := puts q ys.length ys 0 A1 rfl (by rw [hO3.len]; exact lA) HR2.out (by
                  have h1 := apart_of hRm.out hWm.range
                  rw [← hmore.out] at h1; simpa using h1) hplace.out
                refine ⟨j, Lib.hid ?_⟩
                rw [← hmore.out]; simpa using hj
              clear hown1 hown2 hown3 hg1 hg2 hg3 x1 x2 x3 y1 o1 q1 q2 hO3 hO4 hO5 hE3 hnew eL2 eL3 lL2 lL4 lL3
              go_wp2_with (fail)
              have c1 := build_any (some ⟨bo, oo, none⟩) p co ys w8 (tab_ext HT.out hE) hWy (by omega)
              rw [build_ok (by rw [hWy.len]; omega) HR2.out] at c1
              refine c1.mono ?_
              clear c1
              rintro e w9 ⟨hE2, sl, ml, cl, rfl, hL1⟩
              replace hWy := hWy.ext hE2
              replace hWm := hWm.ext hE2
              replace hE := hE.trans hE2
              clear hE2
              go_wp2_with (fail)
              have c1 := build_any sz (p + 1) kz more w9 (tab_ext HT.out hE) hWm (by omega)
              rw [build_ok (by rw [hWm.len]; omega) hRm.out] at c1
              refine c1.mono ?_
              clear c1
              rintro e wa ⟨hE2, sm, mm, cm, rfl, hL2⟩
              replace hWy := hWy.ext hE2
              replace hWm := hWm.ext hE2
              replace hL1 := hL1.ext hE2
              replace hE := hE.trans hE2
              clear hE2
              simp only at hL1 hL2
              go_wp2_with (fail)
              have c1 := path_any (some ⟨bo, oo, none⟩) p co ys (tree ys 0).1 sl ml cl (tree ys 0).2 q wa (tab_ext HT.out hE) hWy hL1 uq
              rw [pathS_ok (by rw [hWy.len]; omega) HR2.out] at c1
              refine c1.mono ?_
              clear c1
              rintro e wb ⟨sa, na, ca, rfl, hA, hE2⟩
              replace hWy := hWy.ext hE2
              replace hWm := hWm.ext hE2
              replace hL2 := hL2.ext hE2
              replace hE := hE.trans hE2
              clear hE2 hL1
              go_wp2_with (fail)
              have c1 := path_any sz (p + 1) kz more (tree more 0).1 sm mm cm (tree more 0).2 q wb (tab_ext HT.out hE) hWm hL2 uq
              rw [pathS_ok (by rw [hWm.len]; omega) hRm.out] at c1
              refine c1.mono ?_
              clear c1
              rintro e wc ⟨sb, nb, cb, rfl, hB, hE2⟩
              replace hWy := hWy.ext hE2
              replace hA := hA.ext hE2
              replace hE := hE.trans hE2
              clear hE2 hL2 hWm
              go_wp2_with (fail)
              obtain ⟨hM1, hM2, hM3, hM4, hM5⟩ := hj.out
              rw [hA.len] at hM1
              rw [hB.len] at hM4
              have hna := hA.le
              have hjb : j ≤ 1048576 := by omega
              have HM2 := Lib.hid hM2
              have HM3 := Lib.hid hM3
              have HM5 := Lib.hid hM5
              have eA2 : A1 = a := eA.out.symm
              subst eA2
              subst hM4
              clear hM2 hM3 hM5 hj hmore hRm HR2 HN hplace
              go_loopw [20] (fun iv ws => ∃ i d : Nat, i ≤ j ∧ iv = .int .i64 i ∧ ws = wc.drewN d) (fun iv _ => j - (intOf iv).toNat)
              case atStart => exact ⟨0, 0, by omega, rfl, rfl⟩
              case round =>
                obtain ⟨i3, d3, hij, rfl, rfl⟩ := hrel
                by_cases hlt3 : i3 < j
                · obtain ⟨x, hx, ux, ba, oa, rfl, cx⟩ := hA.get (k := i3) (by omega)
                  obtain ⟨⟨z, mk, ex, hz, hbf⟩, hb7⟩ := HM2.out i3 x hlt3 hx
                  obtain ⟨y, hy, uy, bk, ok, ek, cy⟩ := hWy.get (k := z) (by rw [← hWy.len]; exact (List.getElem?_eq_some_iff.1 hz).1)
                  obtain ⟨v, hv, uv, bb, ob, rfl, cv⟩ := hB.get (k := i3) (by omega)
                  rw [hz] at hy
                  cases hy
                  rw [hb7] at hv
                  cases hv
                  cases ek
                  have hzp : z < p := by rw [← hWy.len]; exact (List.getElem?_eq_some_iff.1 hz).1
                  clear hz hx hb7 uv
                  obtain ⟨X, hX⟩ : ∃ X : Nat, RowKit.Hid (X = z + 1) := ⟨_, Lib.hid rfl⟩
                  have exX : x = (X : Int) := by rw [ex, hX.out]; omega
                  subst exX
                  clear ex
                  have f1 : (i3 : Int) < na := by omega
                  have f2 : (1 : Int) ≤ X := by have := hX.out; omega
                  have f3 : (X : Int) ≤ p := by have := hX.out; omega
                  have f4 : IntKind.i64.wrap ((X : Int) - 1) = z := by have := hX.out; rw [IntWalk.i64_in _ (by omega)]; omega
                  have f5 : (z : Int) < p := by omega
                  have f6 : (i3 : Int) < (j : Int) + 1 := by omega
                  have f7 : decide ((j : Int) + 1 ≤ i3) = false := decide_eq_false (by omega)
                  have f8 : decide (j + 1 ≤ i3) = false := decide_eq_false (by omega)
                  have f9 : decide ((i3 : Int) < na) = true := decide_eq_true f1
                  have fa : decide ((1 : Int) ≤ X) = true := decide_eq_true f2
                  have fb : decide ((X : Int) ≤ p) = true := decide_eq_true f3
                  have fc : X ≤ 1048576 := by have := hX.out; omega
                  by_cases hsk : A1 < X
                  · have hs : Trp.sk (0 + A1) (X : Int) = (X : Int) + 1 := by unfold Trp.sk; rw [if_pos (by omega)]
                    rw [hs] at cv
                    clear hs
                    have fd : decide ((A1 : Int) < X) = true := decide_eq_true (by omega)
                    have fe : decide (A1 < X) = true := decide_eq_true hsk
                    go_wp2_with (fail)
                    refine (refBefore_any mk q _ uy.1 uy.2 uq.1 uq.2).mono ?_
                    rintro e w' ⟨rfl, rfl⟩
                    go_wp2_with (fail)
                    go_roundw
                    case rel => exact ⟨i3 + 1, d3, by omega, by go_num, rfl⟩
                    case measure => simp [intOf]; omega
                  · have hs : Trp.sk (0 + A1) (X : Int) = (X : Int) := by unfold Trp.sk; rw [if_neg (by omega)]
                    rw [hs] at cv
                    clear hs
                    have fd : decide ((A1 : Int) < X) = false := decide_eq_false (by omega)
                    have fe : decide (A1 < X) = false := decide_eq_false hsk
                    go_wp2_with (fail)
                    refine (refBefore_any mk q _ uy.1 uy.2 uq.1 uq.2).mono ?_
                    rintro e w' ⟨rfl, rfl⟩
                    go_wp2_with (fail)
                    go_roundw
                    case rel => exact ⟨i3 + 1, d3, by omega, by go_num, rfl⟩
                    case measure => simp [intOf]; omega
                · obtain rfl : i3 = j := by omega
                  obtain ⟨v, hv, uv, bb, ob, rfl, cv⟩ := hB.get (k := i3) (by omega)
                  rw [HM5.out] at hv
                  cases hv
                  rw [show ((0 + A1 + 1 : Nat) : Int) = (A1 : Int) + 1 by omega] at cv
                  have g1 : (i3 : Int) < (i3 : Int) + 1 := by omega
                  by_cases hlt4 : i3 < na
                  · obtain ⟨x, hx, ux, ba, oa, rfl, cx⟩ := hA.get (k := i3) hlt4
                    obtain ⟨z, mk, ex, hz, hbf⟩ := HM3.out x hx
                    obtain ⟨y, hy, uy, bk, ok, ek, cy⟩ := hWy.get (k := z) (by rw [← hWy.len]; exact (List.getElem?_eq_some_iff.1 hz).1)
                    rw [hz] at hy
                    cases hy
                    cases ek
                    have hzp : z < p := by rw [← hWy.len]; exact (List.getElem?_eq_some_iff.1 hz).1
                    clear hz hx uv
                    obtain ⟨X, hX⟩ : ∃ X : Nat, RowKit.Hid (X = z + 1) := ⟨_, Lib.hid rfl⟩
                    have exX : x = (X : Int) := by rw [ex, hX.out]; omega
                    subst exX
                    clear ex
                    have f1 : (i3 : Int) < na := by omega
                    have f2 : (1 : Int) ≤ X := by have := hX.out; omega
                    have f3 : (X : Int) ≤ p := by have := hX.out; omega
                    have f4 : IntKind.i64.wrap ((X : Int) - 1) = z := by have := hX.out; rw [IntWalk.i64_in _ (by omega)]; omega
                    have f5 : (z : Int) < p := by omega
                    have f9 : decide ((i3 : Int) < na) = true := decide_eq_true f1
                    have fa : decide ((1 : Int) ≤ X) = true := decide_eq_true f2
                    have fb : decide ((X : Int) ≤ p) = true := decide_eq_true f3
                    have fc : X ≤ 1048576 := by have := hX.out; omega
                    have hbi := Int.not_lt.1 hbf
                    go_wp2_with (fail)
                    refine (refBefore_any mk q _ uy.1 uy.2 uq.1 uq.2).mono ?_
                    rintro e w' ⟨rfl, rfl⟩
                    go_wp2_with (fail)
                    go_ret
                    exact ⟨rfl, hE.drewN d3⟩
                  · have f1 : ¬ (i3 : Int) < na := by omega
                    have f2 : decide ((i3 : Int) < na) = false := decide_eq_false f1
                    have f3 : decide (i3 < na) = false := decide_eq_false hlt4
                    go_wp2_with (fail)
                    go_ret
                    exact ⟨rfl, hE.drewN d3⟩
        · have hd1 : decide ((a : Int) < p) = false := decide_eq_false (by omega)
          have hd2 : decide (a < p) = false := decide_eq_false hlt2
          have hhi : RowKit.Hid (∀ (i : Nat) x, a ≤ i → ys[i]? = some x → q < x) := Lib.hid (fun i x h hx => by
            have := (List.getElem?_eq_some_iff.1 hx).1; rw [hWy.len] at this; omega)
          go_wp2_with (fail)
          have hO3 := hWy.ext (Ext.draws wr d)
          have hE3 := hE.trans (Ext.draws wr d)
          clear hWy hE
          generalize wr.drewN d = w5 at hO3 hE3 ⊢
          have hqc : p ≤ co := hO3.lc
          obtain ⟨A1, eA, lA⟩ : ∃ A1, RowKit.Hid (a = A1) ∧ A1 ≤ p := ⟨a, Lib.hid rfl, by omega⟩
          have q1 : ∀ W, (Instr.sliceAt 22 (.slice so p co) none (some (.int .i64 (a : Int))) none).run Tryd.prog W = .ok (.slice so A1 co) W := fun W => by rw [← eA.out]; exact slice_hiWS so p co a (by omega) W
          obtain ⟨s2', n2', c2', q2, hO5, en2⟩ : ∃ s2' n2' c2', (∀ W, (Instr.sliceAt 22 (.slice so p co) (some (.int .i64 (a : Int))) none none).run Tryd.prog W = .ok (.slice s2' n2' c2') W) ∧ WS w5 s2' n2' c2' (ys.drop A1) ∧ n2' + A1 = p := ⟨_, _, _, fun W => slice_loWS so p co a (by omega) W, by rw [← eA.out]; exact hO3.drop (by omega), by rw [← eA.out]; omega⟩
          have hO4 : WS w5 so A1 co (ys.take A1) := hO3.take lA
          obtain ⟨L2, eL2⟩ : ∃ L2, RowKit.Hid (A1 + 1 = L2) := ⟨_, Lib.hid rfl⟩
          obtain ⟨L3, eL3⟩ : ∃ L3, RowKit.Hid (L2 + n2' = L3) := ⟨_, Lib.hid rfl⟩
          have lL2 : L2 ≤ 1048577 := by have := eL2.out; omega
          have lL3 : RowKit.Hid (L3 = p + 1) := Lib.hid (by have := eL2.out; have := eL3.out; omega)
          have lL4 : L3 ≤ p + 1 := by have := lL3.out; omega
          have hnew : RowKit.Hid (Rising (ys.take A1 ++ [q] ++ ys.drop A1)) := Lib.hid (by
            rw [← eA.out]
            refine rising_ins HR2.out ?_ hhi.out
            by_cases h0 : a = 0
            · exact .inl h0
            · obtain ⟨x, hx, _⟩ := hO3.get (k := a - 1) (by omega)
              exact .inr ⟨x, hx, hlo.out _ _ (by omega) hx⟩)
          have hplace : RowKit.Hid (∀ (i : Nat) x, ys[i]? = some x → (x < q ↔ i < A1) ∧ x ≠ q) := Lib.hid (fun i x hx => by
            rw [← eA.out]
            refine ⟨⟨fun h => ?_, fun h => hlo.out i x h hx⟩, HN.out x (List.mem_of_getElem? hx)⟩
            by_cases h2 : i < a
            · exact h2
            · have := hhi.out i x (by omega) hx; omega)
          clear en2 hlo hhi
          go_region_held3 (fun _ => True)
            (first
              | trivial
              | go_keep)
            (first
              | (refine step_appendWS w5.drew (by rfl) (.const (.slice none 0 0)) (.tmp 62) (by rfl) w5.heap.size 0 (.slice none 0 0) [] (by rfl) (World.ownsRow_nil _ _ _ _) so A1 co (ys.take A1) (by rfl) (hO4.ext (Ext.drew (Ext.refl w5))) A1 (Nat.zero_add _) (by omega) (Nat.le_refl _) ?_; intro sx kx w6 hown1 hg1; have x1 : Ext w5 w6 := Ext.grown (Ext.drew (Ext.refl w5)) hg1 (fun k e => by simp [Value.ownBlock] at e); have y1 : WS (w6.alloc (.cells #[.int .u64 q] 25)) (some ⟨w6.heap.size, 0, none⟩) 1 1 [q] := WS.lit w6 q uq; have o1 := hown1.alloc (.cells #[.int .u64 q] 25))
              | (refine step_appendWS (w5.alloc (.cells #[.int .u64 q] 25)).drew (by rfl) (.const (.slice none 0 0)) (.tmp 62) (by rfl) w5.heap.size 0 (.slice none 0 0) [] (by rfl) (World.ownsRow_nil _ _ _ _) so A1 co (ys.take A1) (by rfl) (hO4.ext (Ext.drew (Ext.new w5 _))) A1 (Nat.zero_add _) (by omega) (by simp) ?_; intro sx kx w6 hown1 hg1; have x1 : Ext w5 w6 := Ext.grown (Ext.drew (Ext.new w5 _)) hg1 (fun k e => by simp [Value.ownBlock] at e); have y1 : WS w6 (some ⟨w5.heap.size, 0, none⟩) 1 1 [q] := WS.ext (WS.lit w5 q uq) (Ext.grown (Ext.drew (Ext.refl _)) hg1 (fun k e => by simp [Value.ownBlock] at e)); have o1 := hown1)
              | (refine step_appendWS _ (by rfl) (.tmp 63) (.tmp 65) (by rfl) w5.heap.size _ _ _ (by rfl) o1 _ 1 1 [q] (by rfl) y1 L2 eL2.out (by omega) (by have := x1.size; simp; omega) ?_; intro sy ky w7 hown2 hg2; have x2 : Ext w5 w7 := Ext.grown (by first | exact Ext.alloc x1 _ | exact x1) hg2 (own_ge hown1))
              | (refine step_appendWS w7 (by rfl) (.tmp 66) (.tmp 69) (by rfl) w5.heap.size _ _ _ (by rfl) hown2 s2' n2' c2' (ys.drop A1) (by rfl) (hO5.ext x2) L3 eL3.out (by omega) x2.size ?_; intro sz kz w8 hown3 hg3; have x3 : Ext w5 w8 := Ext.grown x2 hg3 (own_ge hown2)))
          all_goals
            obtain ⟨more, hmore⟩ : ∃ more, RowKit.Hid (ys.take A1 ++ [q] ++ ys.drop A1 = more) := ⟨_, Lib.hid rfl⟩
            have hWm : WS w8 sz L3 kz more := by
              rw [← hmore.out]
              refine WS.of_own hown3 ?_ (by omega) (fun y hy => ?_)
              · have z1 := hO4.len
                have z2 := hO5.len
                rw [List.length_append, List.length_append, z2, z1, ← eL3.out, ← eL2.out]; rfl
              · simp only [List.mem_append, List.mem_cons, List.not_mem_nil, or_false] at hy
                rcases hy with (hy | rfl) | hy
                · exact hO4.range y hy
                · exact uq
                · exact hO5.range y hy
            have hRm : RowKit.Hid (Rising more) := Lib.hid (by rw [← hmore.out]; exact hnew.out)
            have hWy := hO3.ext x3
            have hE := hE3.trans x3
            obtain rfl := lL3.out
            obtain ⟨j, hj⟩ : ∃ j, RowKit.Hid (Meets ys 0 A1 q j (path ys 0 q) (path more 0 q)) := by
              obtain ⟨j, hj⟩ := puts q ys.length ys 0 A1 rfl (by rw [hO3.len]; exact lA) HR2.out (by
                have h1 := apart_of hRm.out hWm.range
                rw [← hmore.out] at h1; simpa using h1) hplace.out
              refine ⟨j, Lib.hid ?_⟩
              rw [← hmore.out]; simpa using hj
            clear hown1 hown2 hown3 hg1 hg2 hg3 x1 x2 x3 y1 o1 q1 q2 hO3 hO4 hO5 hE3 hnew eL2 eL3 lL2 lL4 lL3
            go_wp2_with (fail)
            have c1 := build_any so p co ys w8 (tab_ext HT.out hE) hWy (by omega)
            rw [build_ok (by rw [hWy.len]; omega) HR2.out] at c1
            refine c1.mono ?_
            clear c1
            rintro e w9 ⟨hE2, sl, ml, cl, rfl, hL1⟩
            replace hWy := hWy.ext hE2
            replace hWm := hWm.ext hE2
            replace hE := hE.trans hE2
            clear hE2
            go_wp2_with (fail)
            have c1 := build_any sz (p + 1) kz more w9 (tab_ext HT.out hE) hWm (by omega)
            rw [build_ok (by rw [hWm.len]; omega) hRm.out] at c1
            refine c1.mono ?_
            clear c1
            rintro e wa ⟨hE2, sm, mm, cm, rfl, hL2⟩
            replace hWy := hWy.ext hE2
            replace hWm := hWm.ext hE2
            replace hL1 := hL1.ext hE2
            replace hE := hE.trans hE2
            clear hE2
            simp only at hL1 hL2
            go_wp2_with (fail)
            have c1 := path_any so p co ys (tree ys 0).1 sl ml cl (tree ys 0).2 q wa (tab_ext HT.out hE) hWy hL1 uq
            rw [pathS_ok (by rw [hWy.len]; omega) HR2.out] at c1
            refine c1.mono ?_
            clear c1
            rintro e wb ⟨sa, na, ca, rfl, hA, hE2⟩
            replace hWy := hWy.ext hE2
            replace hWm := hWm.ext hE2
            replace hL2 := hL2.ext hE2
            replace hE := hE.trans hE2
            clear hE2 hL1
            go_wp2_with (fail)
            have c1 := path_any sz (p + 1) kz more (tree more 0).1 sm mm cm (tree more 0).2 q wb (tab_ext HT.out hE) hWm hL2 uq
            rw [pathS_ok (by rw [hWm.len]; omega) hRm.out] at c1
            refine c1.mono ?_
            clear c1
            rintro e wc ⟨sb, nb, cb, rfl, hB, hE2⟩
            replace hWy := hWy.ext hE2
            replace hA := hA.ext hE2
            replace hE := hE.trans hE2
            clear hE2 hL2 hWm
            go_wp2_with (fail)
            obtain ⟨hM1, hM2, hM3, hM4, hM5⟩ := hj.out
            rw [hA.len] at hM1
            rw [hB.len] at hM4
            have hna := hA.le
            have hjb : j ≤ 1048576 := by omega
            have HM2 := Lib.hid hM2
            have HM3 := Lib.hid hM3
            have HM5 := Lib.hid hM5
            have eA2 : A1 = a := eA.out.symm
            subst eA2
            subst hM4
            clear hM2 hM3 hM5 hj hmore hRm HR2 HN hplace
            go_loopw [20] (fun iv ws => ∃ i d : Nat, i ≤ j ∧ iv = .int .i64 i ∧ ws = wc.drewN d) (fun iv _ => j - (intOf iv).toNat)
            case atStart => exact ⟨0, 0, by omega, rfl, rfl⟩
            case round =>
              obtain ⟨i3, d3, hij, rfl, rfl⟩ := hrel
              by_cases hlt3 : i3 < j
              · obtain ⟨x, hx, ux, ba, oa, rfl, cx⟩ := hA.get (k := i3) (by omega)
                obtain ⟨⟨z, mk, ex, hz, hbf⟩, hb7⟩ := HM2.out i3 x hlt3 hx
                obtain ⟨y, hy, uy, bk, ok, ek, cy⟩ := hWy.get (k := z) (by rw [← hWy.len]; exact (List.getElem?_eq_some_iff.1 hz).1)
                obtain ⟨v, hv, uv, bb, ob, rfl, cv⟩ := hB.get (k := i3) (by omega)
                rw [hz] at hy
                cases hy
                rw [hb7] at hv
                cases hv
                cases ek
                have hzp : z < p := by rw [← hWy.len]; exact (List.getElem?_eq_some_iff.1 hz).1
                clear hz hx hb7 uv
                obtain ⟨X, hX⟩ : ∃ X : Nat, RowKit.Hid (X = z + 1) := ⟨_, Lib.hid rfl⟩
                have exX : x = (X : Int) := by rw [ex, hX.out]; omega
                subst exX
                clear ex
                have f1 : (i3 : Int) < na := by omega
                have f2 : (1 : Int) ≤ X := by have := hX.out; omega
                have f3 : (X : Int) ≤ p := by have := hX.out; omega
                have f4 : IntKind.i64.wrap ((X : Int) - 1) = z := by have := hX.out; rw [IntWalk.i64_in _ (by omega)]; omega
                have f5 : (z : Int) < p := by omega
                have f6 : (i3 : Int) < (j : Int) + 1 := by omega
                have f7 : decide ((j : Int) + 1 ≤ i3) = false := decide_eq_false (by omega)
                have f8 : decide (j + 1 ≤ i3) = false := decide_eq_false (by omega)
                have f9 : decide ((i3 : Int) < na) = true := decide_eq_true f1
                have fa : decide ((1 : Int) ≤ X) = true := decide_eq_true f2
                have fb : decide ((X : Int) ≤ p) = true := decide_eq_true f3
                have fc : X ≤ 1048576 := by have := hX.out; omega
                by_cases hsk : A1 < X
                · have hs : Trp.sk (0 + A1) (X : Int) = (X : Int) + 1 := by unfold Trp.sk; rw [if_pos (by omega)]
                  rw [hs] at cv
                  clear hs
                  have fd : decide ((A1 : Int) < X) = true := decide_eq_true (by omega)
                  have fe : decide (A1 < X) = true := decide_eq_true hsk
                  go_wp2_with (fail)
                  refine (refBefore_any mk q _ uy.1 uy.2 uq.1 uq.2).mono ?_
                  rintro e w' ⟨rfl, rfl⟩
                  go_wp2_with (fail)
                  go_roundw
                  case rel => exact ⟨i3 + 1, d3, by omega, by go_num, rfl⟩
                  case measure => simp [intOf]; omega
                · have hs : Trp.sk (0 + A1) (X : Int) = (X : Int) := by unfold Trp.sk; rw [if_neg (by omega)]
                  rw [hs] at cv
                  clear hs
                  have fd : decide ((A1 : Int) < X) = false := decide_eq_false (by omega)
                  have fe : decide (A1 < X) = false := decide_eq_false hsk
                  go_wp2_with (fail)
                  refine (refBefore_any mk q _ uy.1 uy.2 uq.1 uq.2).mono ?_
                  rintro e w' ⟨rfl, rfl⟩
                  go_wp2_with (fail)
                  go_roundw
                  case rel => exact ⟨i3 + 1, d3, by omega, by go_num, rfl⟩
                  case measure => simp [intOf]; omega
              · obtain rfl : i3 = j := by omega
                obtain ⟨v, hv, uv, bb, ob, rfl, cv⟩ := hB.get (k := i3) (by omega)
                rw [HM5.out] at hv
                cases hv
                rw [show ((0 + A1 + 1 : Nat) : Int) = (A1 : Int) + 1 by omega] at cv
                have g1 : (i3 : Int) < (i3 : Int) + 1 := by omega
                by_cases hlt4 : i3 < na
                · obtain ⟨x, hx, ux, ba, oa, rfl, cx⟩ := hA.get (k := i3) hlt4
                  obtain ⟨z, mk, ex, hz, hbf⟩ := HM3.out x hx
                  obtain ⟨y, hy, uy, bk, ok, ek, cy⟩ := hWy.get (k := z) (by rw [← hWy.len]; exact (List.getElem?_eq_some_iff.1 hz).1)
                  rw [hz] at hy
                  cases hy
                  cases ek
                  have hzp : z < p := by rw [← hWy.len]; exact (List.getElem?_eq_some_iff.1 hz).1
                  clear hz hx uv
                  obtain ⟨X, hX⟩ : ∃ X : Nat, RowKit.Hid (X = z + 1) := ⟨_, Lib.hid rfl⟩
                  have exX : x = (X : Int) := by rw [ex, hX.out]; omega
                  subst exX
                  clear ex
                  have f1 : (i3 : Int) < na := by omega
                  have f2 : (1 : Int) ≤ X := by have := hX.out; omega
                  have f3 : (X : Int) ≤ p := by have := hX.out; omega
                  have f4 : IntKind.i64.wrap ((X : Int) - 1) = z := by have := hX.out; rw [IntWalk.i64_in _ (by omega)]; omega
                  have f5 : (z : Int) < p := by omega
                  have f9 : decide ((i3 : Int) < na) = true := decide_eq_true f1
                  have fa : decide ((1 : Int) ≤ X) = true := decide_eq_true f2
                  have fb : decide ((X : Int) ≤ p) = true := decide_eq_true f3
                  have fc : X ≤ 1048576 := by have := hX.out; omega
                  have hbi := Int.not_lt.1 hbf
                  go_wp2_with (fail)
                  refine (refBefore_any mk q _ uy.1 uy.2 uq.1 uq.2).mono ?_
                  rintro e w' ⟨rfl, rfl⟩
                  go_wp2_with (fail)
                  go_ret
                  exact ⟨rfl, hE.drewN d3⟩
                · have f1 : ¬ (i3 : Int) < na := by omega
                  have f2 : decide ((i3 : Int) < na) = false := decide_eq_false f1
                  have f3 : decide (i3 < na) = false := decide_eq_false hlt4
                  go_wp2_with (fail)
                  go_ret
                  exact ⟨rfl, hE.drewN d3⟩

end Go.Proofs.YtnmeakkehonnmaaDoor.Trp
