/-
  The law TreapParts, walked. Conditions: the package's table lies; the raw numbers are there.
-/
import Derived.Test.YtnmeakkehonnmaaDoorTrpAwake
import Derived.Test.YtnmeakkehonnmaaDoorTrpKeys
namespace Go.Proofs.YtnmeakkehonnmaaDoor.Trp
open Go.RowKit (Below intOf)

/-- A tree by its parts. -/
theorem tree_parts {l : List Int} {n : Nat} (hl : l.length = n) (h : l ≠ []) : ∃ t R : Nat, R = t + 1 ∧ R ≤ n ∧ (tree l 0).1 = (R : Int) ∧
    (∀ (i : Nat) x, (tree (l.take t) 0).2[i]? = some x → (tree l 0).2[i]? = some x) ∧ (tree l 0).2[t]? = some ((tree (l.take t) 0).1, sh R (tree (l.drop R) 0).1) ∧
    (∀ (i : Nat) x, (tree (l.drop R) 0).2[i]? = some x → (tree l 0).2[R + i]? = some (sh2 R x)) := by
  have ht := top_is l h
  have hlt := ht.lt
  have e := tree_at ht 0
  have es := tree_shift _ (l.drop (top l + 1)) 0 (top l + 1) rfl
  rw [show (0 : Nat) + top l + 1 = 0 + (top l + 1) by omega, es] at e
  have hA : (tree (l.take (top l)) 0).2.length = top l := by rw [tree_len _ _ _ rfl]; simp; omega
  refine ⟨top l, top l + 1, rfl, by omega, ?_, ?_, ?_, ?_⟩
  · rw [e]; simp
  · intro i x hx
    rw [e]
    have hi := (List.getElem?_eq_some_iff.1 hx).1
    simp only
    rw [List.getElem?_append_left hi]; exact hx
  · rw [e]
    simp only
    rw [List.getElem?_append_right (by omega), hA, Nat.sub_self]; rfl
  · intro i x hx
    rw [e]
    simp only
    rw [List.getElem?_append_right (by omega), hA, show top l + 1 + i - top l = i + 1 by omega, List.getElem?_cons_succ, List.getElem?_map, hx]; rfl

set_option maxHeartbeats 8000000 in
set_option maxRecDepth 100000 in
theorem parts_walk (s : Option Addr) (n c : Nat) (raw : List Int) (W : World) (hTab : Tab W) (hR : NSL W s n c raw) :
    Calls Tryd.prog 6 #[.slice s n c] W fun e w' => e = .returned (.bool true) ∧ Below W.heap.size W w' := by
  have HT := Lib.hid hTab
  have HR := Lib.hid hR
  clear hTab hR
  go_enter Tryd.func6, Tryd.ntmps6
  go_wp2_with (fail)
  refine (awake_any W HT.out).mono ?_
  rintro e w1 ⟨rfl, hE⟩
  go_wp2_with (fail)
  refine (keys_any s n c raw w1 (HR.out.ext hE)).mono ?_
  rintro e w2 ⟨sk, m, ck, rfl, l, hW, hm, hRi, hE2⟩
  replace hE := hE.trans hE2
  clear hE2 HR
  have HRi := Lib.hid hRi
  clear hRi
  go_wp2_with (fail)
  have c1 := build_any sk m ck l w2 (tab_ext HT.out hE) hW (by omega)
  rw [build_ok (by rw [hW.len]; omega) HRi.out] at c1
  refine c1.mono ?_
  clear c1
  rintro e w3 ⟨hE2, sM, mM, cM, rfl, hM⟩
  obtain rfl : mM = m := by rw [← hM.len]; simp only; rw [tree_len _ _ _ rfl, hW.len]
  replace hW := hW.ext hE2
  replace hE := hE.trans hE2
  clear hE2
  by_cases h0 : l = []
  · have hm0 : mM = 0 := by rw [← hW.len, h0]; rfl
    subst hm0
    have hr0 : (tree l 0).1 = 0 := by rw [h0, tree_nil]
    simp only [hr0]
    go_wp2_with (fail)
    go_ret
    exact ⟨rfl, hE⟩
  · obtain ⟨t, R, hRt, hRm, hroot, p1, p2, p3⟩ := tree_parts hW.len h0
    obtain ⟨MM, hMM⟩ : ∃ MM, (tree l 0).2 = MM := ⟨_, rfl⟩
    rw [hroot]
    simp only at hM
    rw [hMM] at hM p1 p2 p3
    have HM := Lib.hid hM
    have HRt := Lib.hid hRt
    have P1 := Lib.hid p1
    have P3 := Lib.hid p3
    clear hM hMM hroot p1 p3 hRt
    have hRi1 := Lib.hid (HRi.out.take t)
    have hRi2 := Lib.hid (HRi.out.drop R)
    obtain ⟨k2, hk2⟩ : ∃ k2, RowKit.Hid (mM - R = k2) := ⟨_, Lib.hid rfl⟩
    have ht20 : t ≤ 20 := by have := HRt.out; omega
    have htm : t < mM := by have := HRt.out; omega
    have hRm' : (R : Int) ≤ mM := by omega
    have hk20 : k2 ≤ 20 := by have := hk2.out; omega
    have g1 : ((mM : Int) == 0) = false := by have := HRt.out; simp; omega
    have g2 : decide ((R : Int) < 1) = false := decide_eq_false (by have := HRt.out; omega)
    have g3 : decide (R < 1) = false := decide_eq_false (by have := HRt.out; omega)
    have g3' : (R == 0) = false := by have := HRt.out; simp; omega
    have g4 : decide ((mM : Int) < R) = false := decide_eq_false (by omega)
    have g5 : decide (mM < R) = false := decide_eq_false (by omega)
    have hw1 : IntKind.i64.wrap ((R : Int) - 1) = t := by have := HRt.out; rw [IntWalk.i64_in _ (by omega)]; omega
    have hw2 : IntKind.i64.wrap ((mM : Int) - R) = k2 := by have := hk2.out; rw [IntWalk.i64_in _ (by omega)]; omega
    have hWt := hW.take (k := t) (by omega)
    have hWd := hW.drop (k := R) hRm
    rw [hk2.out] at hWd
    have q1 : ∀ W, (Instr.sliceAt 22 (.slice sk mM ck) none (some (.int .i64 (t : Int))) none).run Tryd.prog W = .ok (.slice sk t ck) W := fun W => slice_hiWS sk mM ck t (by have := hW.lc; omega) W
    obtain ⟨s2', c2', hs2⟩ : ∃ s2' c2', RowKit.Hid (cutAt 1 sk ck R = s2' ∧ ck - R = c2') := ⟨_, _, Lib.hid ⟨rfl, rfl⟩⟩
    have q2 : ∀ W, (Instr.sliceAt 22 (.slice sk mM ck) (some (.int .i64 (R : Int))) none none).run Tryd.prog W = .ok (.slice s2' k2 c2') W := fun W => by
      have := slice_loWS sk mM ck R hRm W
      rw [hk2.out, hs2.out.1, hs2.out.2] at this; exact this
    rw [hs2.out.1, hs2.out.2] at hWd
    clear hW h0
    go_wp2_with (fail)
    have c1 := build_any sk t ck (l.take t) w3 (tab_ext HT.out hE) hWt (by omega)
    rw [build_ok (by rw [hWt.len]; omega) hRi1.out] at c1
    have hlA : (tree (l.take t) 0).2.length = t := by rw [tree_len _ _ _ rfl, hWt.len]
    have hbA := tree_root_bd (l.take t) 0
    rw [hWt.len] at hbA
    obtain ⟨a, A2, hA⟩ : ∃ a A2, tree (l.take t) 0 = (a, A2) := ⟨_, _, rfl⟩
    rw [hA] at c1 p2 hlA hbA
    have P1' := Lib.hid P1.out
    rw [hA] at P1'
    refine c1.mono ?_
    clear c1 hWt P1 hRi1
    rintro e w4 ⟨hE2, s4, m4, c4, rfl, hM4⟩
    simp only at hM4 p2 hlA hbA P1' ⊢
    obtain rfl : m4 = t := by rw [← hM4.len]; exact hlA
    replace hWd := hWd.ext hE2
    have HM4 := Lib.hid (HM.out.ext hE2)
    replace hE := hE.trans hE2
    clear hE2 HM
    go_wp2_with (fail)
    have c1 := build_any s2' k2 c2' (l.drop R) w4 (tab_ext HT.out hE) hWd (by omega)
    rw [build_ok (by rw [hWd.len]; omega) hRi2.out] at c1
    have hlB : (tree (l.drop R) 0).2.length = k2 := by rw [tree_len _ _ _ rfl, hWd.len]
    have hbB := tree_root_bd (l.drop R) 0
    rw [hWd.len] at hbB
    obtain ⟨b, O, hB⟩ : ∃ b O, tree (l.drop R) 0 = (b, O) := ⟨_, _, rfl⟩
    rw [hB] at c1 p2 hlB hbB
    have P3' := Lib.hid P3.out
    rw [hB] at P3'
    refine c1.mono ?_
    clear c1 hWd P3 hRi2
    rintro e w5 ⟨hE2, s5, m5, c5, rfl, hM5⟩
    simp only at hM5 p2 hlB hbB P3' ⊢
    obtain rfl : m5 = k2 := by rw [← hM5.len]; exact hlB
    replace hM4 := hM4.ext hE2
    have HM := Lib.hid (HM4.out.ext hE2)
    replace hE := hE.trans hE2
    clear hE2 HM4 q1 q2
    have HO : RowKit.Hid (∀ x ∈ O, (0 ≤ x.1 ∧ x.1 ≤ 20) ∧ (0 ≤ x.2 ∧ x.2 ≤ 20)) := Lib.hid (fun x hx => by
      have h1 := tree_bd _ (l.drop R) 0 rfl x (by rw [hB]; exact hx)
      have h2 := tree_len _ (l.drop R) 0 rfl
      rw [hB] at h2
      simp only at h2
      omega)
    clear hA hB
    have HlA := Lib.hid hlA
    have HlB := Lib.hid hlB
    clear hlA hlB
    obtain ⟨x, hx, ux, bM, oM, rfl, cx1, cx2⟩ := HM.out.get (k := m4) htm
    rw [p2] at hx
    cases hx
    clear p2
    simp only at cx1 cx2
    have hi4 : (m4 : Int) < mM := by omega
    by_cases hb0 : b = 0
    · subst hb0
      have hz : sh R 0 = 0 := rfl
      rw [hz] at cx2
      clear hz
      go_wp2_with (fail)
      go_loopw [14] (fun iv wr => ∃ i q : Nat, i ≤ m4 ∧ iv = .int .i64 i ∧ wr = w5.drewN q) (fun i _ => m4 - (intOf i).toNat)
      case atStart => exact ⟨0, 0, by omega, rfl, rfl⟩
      case round =>
        obtain ⟨i, q, hi, rfl, rfl⟩ := hrel
        by_cases hlt : i < m4
        · obtain ⟨⟨x1, x2⟩, hx, _, b4, o4, rfl, d1, d2⟩ := hM4.get (k := i) hlt
          obtain ⟨y, hy, _, b6, o6, e6, d3, d4⟩ := HM.out.get (k := i) (by omega)
          cases e6
          rw [P1'.out i _ hx] at hy
          cases hy
          clear hx
          have q2 := eq2 x1 x2 x1 x2
          have hb1 : (x1 == x1) = true := by simp
          have hb2 : (x2 == x2) = true := by simp
          rw [hb1, hb2] at q2
          have hi1 : (i : Int) < m4 := by omega
          have hi2 : (i : Int) < mM := by omega
          go_wp2_with (fail)
          go_quiet (fail)
          go_wp2_with (fail)
          go_roundw
          case rel => exact ⟨i + 1, q + nq, by omega, by go_num, rfl⟩
          case measure => simp [intOf]; omega
        · obtain rfl : i = m4 := by omega
          have hqe := Ext.draws w5 q
          have HM6 := Lib.hid (HM.out.ext hqe)
          have hM6 := hM5.ext hqe
          replace hE := hE.trans hqe
          clear hqe HM hM4 hM5 cx1 cx2
          generalize w5.drewN q = w6 at HM6 hM6 hE ⊢
          go_wp2_with (fail)
          go_loopw [15] (fun iv wr => ∃ i q : Nat, i ≤ m5 ∧ iv = .int .i64 i ∧ wr = w6.drewN q) (fun i _ => m5 - (intOf i).toNat)
          case atStart => exact ⟨0, 0, by omega, rfl, rfl⟩
          case round =>
            obtain ⟨j, q, hj, rfl, rfl⟩ := hrel
            by_cases hlt : j < m5
            · obtain ⟨⟨x1, x2⟩, hx, u1, b4, o4, rfl, d1, d2⟩ := hM6.get (k := j) hlt
              obtain ⟨y, hy, u2, b6, o6, e6, d3, d4⟩ := HM6.out.get (k := R + j) (by have := hk2.out; omega)
              cases e6
              rw [P3'.out j _ hx] at hy
              cases hy
              simp only [sh2] at d1 d2 d3 d4
              have hi1 : (j : Int) < m5 := by omega
              have hi2 : (R : Int) + j < mM := by have := hk2.out; omega
              have hO := HO.out (x1, x2) (List.mem_of_getElem? hx)
              clear hx
              go_wp2_with (fail)
              go_loopw [16] (fun kv wr => ∃ qq : Nat, wr = w6.drewN qq ∧ (kv = .int .i64 0 ∨ kv = .int .i64 1 ∨ kv = .int .i64 2)) (fun kv _ => (2 - intOf kv).toNat)
              case atStart => exact ⟨q, rfl, .inl rfl⟩
              case round =>
                obtain ⟨qq, rfl, hrel⟩ := hrel
                rcases hrel with rfl | rfl | rfl
                · by_cases hx0 : x1 = 0
                  · subst hx0
                    have hz : sh R 0 = 0 := rfl
                    rw [hz] at d3
                    clear hz
                    go_wp2_with (fail)
                    go_roundw
                    case rel => exact ⟨qq, rfl, .inr (.inl rfl)⟩
                    case measure => simp [intOf]
                  · have hz : sh R x1 = x1 + R := if_neg hx0
                    rw [hz] at d3
                    have hb1 : (x1 != 0) = true := by simpa using hx0
                    clear hz hx0
                    go_wp2_with (fail)
                    go_roundw
                    case rel => exact ⟨qq, rfl, .inr (.inl rfl)⟩
                    case measure => simp [intOf]
                · by_cases hx0 : x2 = 0
                  · subst hx0
                    have hz : sh R 0 = 0 := rfl
                    rw [hz] at d4
                    clear hz
                    go_wp2_with (fail)
                    go_roundw
                    case rel => exact ⟨qq, rfl, .inr (.inr rfl)⟩
                    case measure => simp [intOf]
                  · have hz : sh R x2 = x2 + R := if_neg hx0
                    rw [hz] at d4
                    have hb1 : (x2 != 0) = true := by simpa using hx0
                    clear hz hx0
                    go_wp2_with (fail)
                    go_roundw
                    case rel => exact ⟨qq, rfl, .inr (.inr rfl)⟩
                    case measure => simp [intOf]
                · go_wp2_with (fail)
                  go_roundw
                  case rel => exact ⟨j + 1, qq, by omega, by go_num, rfl⟩
                  case measure => simp [intOf]; omega
            · obtain rfl : j = m5 := by omega
              go_wp2_with (fail)
              go_ret
              exact ⟨rfl, hE.drewN q⟩
    · have hz : sh R b = b + R := if_neg hb0
      rw [hz] at cx2
      have f1 : (b == 0) = false := by simpa using hb0
      have f2 : (b != 0) = true := by simpa using hb0
      have f3 : ((b + R) == 0) = false := by simp; omega
      clear hz hb0
      go_wp2_with (fail)
      go_loopw [14] (fun iv wr => ∃ i q : Nat, i ≤ m4 ∧ iv = .int .i64 i ∧ wr = w5.drewN q) (fun i _ => m4 - (intOf i).toNat)
      case atStart => exact ⟨0, 0, by omega, rfl, rfl⟩
      case round =>
        obtain ⟨i, q, hi, rfl, rfl⟩ := hrel
        by_cases hlt : i < m4
        · obtain ⟨⟨x1, x2⟩, hx, _, b4, o4, rfl, d1, d2⟩ := hM4.get (k := i) hlt
          obtain ⟨y, hy, _, b6, o6, e6, d3, d4⟩ := HM.out.get (k := i) (by omega)
          cases e6
          rw [P1'.out i _ hx] at hy
          cases hy
          clear hx
          have q2 := eq2 x1 x2 x1 x2
          have hb1 : (x1 == x1) = true := by simp
          have hb2 : (x2 == x2) = true := by simp
          rw [hb1, hb2] at q2
          have hi1 : (i : Int) < m4 := by omega
          have hi2 : (i : Int) < mM := by omega
          go_wp2_with (fail)
          go_quiet (fail)
          go_wp2_with (fail)
          go_roundw
          case rel => exact ⟨i + 1, q + nq, by omega, by go_num, rfl⟩
          case measure => simp [intOf]; omega
        · obtain rfl : i = m4 := by omega
          have hqe := Ext.draws w5 q
          have HM6 := Lib.hid (HM.out.ext hqe)
          have hM6 := hM5.ext hqe
          replace hE := hE.trans hqe
          clear hqe HM hM4 hM5 cx1 cx2
          generalize w5.drewN q = w6 at HM6 hM6 hE ⊢
          go_wp2_with (fail)
          go_loopw [15] (fun iv wr => ∃ i q : Nat, i ≤ m5 ∧ iv = .int .i64 i ∧ wr = w6.drewN q) (fun i _ => m5 - (intOf i).toNat)
          case atStart => exact ⟨0, 0, by omega, rfl, rfl⟩
          case round =>
            obtain ⟨j, q, hj, rfl, rfl⟩ := hrel
            by_cases hlt : j < m5
            · obtain ⟨⟨x1, x2⟩, hx, u1, b4, o4, rfl, d1, d2⟩ := hM6.get (k := j) hlt
              obtain ⟨y, hy, u2, b6, o6, e6, d3, d4⟩ := HM6.out.get (k := R + j) (by have := hk2.out; omega)
              cases e6
              rw [P3'.out j _ hx] at hy
              cases hy
              simp only [sh2] at d1 d2 d3 d4
              have hi1 : (j : Int) < m5 := by omega
              have hi2 : (R : Int) + j < mM := by have := hk2.out; omega
              have hO := HO.out (x1, x2) (List.mem_of_getElem? hx)
              clear hx
              go_wp2_with (fail)
              go_loopw [16] (fun kv wr => ∃ qq : Nat, wr = w6.drewN qq ∧ (kv = .int .i64 0 ∨ kv = .int .i64 1 ∨ kv = .int .i64 2)) (fun kv _ => (2 - intOf kv).toNat)
              case atStart => exact ⟨q, rfl, .inl rfl⟩
              case round =>
                obtain ⟨qq, rfl, hrel⟩ := hrel
                rcases hrel with rfl | rfl | rfl
                · by_cases hx0 : x1 = 0
                  · subst hx0
                    have hz : sh R 0 = 0 := rfl
                    rw [hz] at d3
                    clear hz
                    go_wp2_with (fail)
                    go_roundw
                    case rel => exact ⟨qq, rfl, .inr (.inl rfl)⟩
                    case measure => simp [intOf]
                  · have hz : sh R x1 = x1 + R := if_neg hx0
                    rw [hz] at d3
                    have hb1 : (x1 != 0) = true := by simpa using hx0
                    clear hz hx0
                    go_wp2_with (fail)
                    go_roundw
                    case rel => exact ⟨qq, rfl, .inr (.inl rfl)⟩
                    case measure => simp [intOf]
                · by_cases hx0 : x2 = 0
                  · subst hx0
                    have hz : sh R 0 = 0 := rfl
                    rw [hz] at d4
                    clear hz
                    go_wp2_with (fail)
                    go_roundw
                    case rel => exact ⟨qq, rfl, .inr (.inr rfl)⟩
                    case measure => simp [intOf]
                  · have hz : sh R x2 = x2 + R := if_neg hx0
                    rw [hz] at d4
                    have hb1 : (x2 != 0) = true := by simpa using hx0
                    clear hz hx0
                    go_wp2_with (fail)
                    go_roundw
                    case rel => exact ⟨qq, rfl, .inr (.inr rfl)⟩
                    case measure => simp [intOf]
                · go_wp2_with (fail)
                  go_roundw
                  case rel => exact ⟨j + 1, qq, by omega, by go_num, rfl⟩
                  case measure => simp [intOf]; omega
            · obtain rfl : j = m5 := by omega
              go_wp2_with (fail)
              go_ret
              exact ⟨rfl, hE.drewN q⟩

end Go.Proofs.YtnmeakkehonnmaaDoor.Trp
