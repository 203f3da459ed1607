/-
  What the document's own tree returns: the tree of the keys from one place to another one. Condition: the keys are there, the places within them.
-/
import Derived.Test.YtnmeakkehonnmaaDoorTrpLeaf
namespace Go.Proofs.YtnmeakkehonnmaaDoor.Trp
open Go.RowKit (Below intOf)

theorem isTop_one (x : Int) : IsTop [x] 0 := ⟨x, rfl, fun j y hj => by
  match j, hj with
  | 0, hj => simp at hj; subst hj; exact Int.le_refl _
  | j + 1, hj => simp at hj, fun j y hj => absurd hj (Nat.not_lt_zero _)⟩
theorem isTop_new {l : List Int} {t : Nat} {m x : Int} (h : IsTop l t) (hm : l[t]? = some m) (hx : mixed m < mixed x) : IsTop (l ++ [x]) l.length := by
  obtain ⟨m', h1, h2, h3⟩ := h
  rw [hm] at h1; cases h1
  have get : ∀ (j : Nat) y, (l ++ [x])[j]? = some y → (j < l.length ∧ l[j]? = some y) ∨ (j = l.length ∧ y = x) := fun j y hy => by
    by_cases c : j < l.length
    · rw [List.getElem?_append_left c] at hy; exact .inl ⟨c, hy⟩
    · rw [List.getElem?_append_right (by omega)] at hy
      have : j - l.length = 0 := by have := (List.getElem?_eq_some_iff.1 hy).1; simp at this; omega
      rw [this] at hy; simp at hy; exact .inr ⟨by omega, hy.symm⟩
  refine ⟨x, by simp, fun j y hy => ?_, fun j y hj hy => ?_⟩
  · rcases get j y hy with ⟨_, hy⟩ | ⟨_, rfl⟩
    · have := h2 j y hy; omega
    · exact Int.le_refl _
  · rcases get j y hy with ⟨_, hy⟩ | ⟨e, _⟩
    · have := h2 j y hy; omega
    · omega
theorem isTop_old {l : List Int} {t : Nat} {m x : Int} (h : IsTop l t) (hm : l[t]? = some m) (hx : ¬ mixed m < mixed x) : IsTop (l ++ [x]) t := by
  have ht := h.lt
  obtain ⟨m', h1, h2, h3⟩ := h
  rw [hm] at h1; cases h1
  refine ⟨m, by rw [List.getElem?_append_left ht]; exact hm, fun j y hy => ?_, fun j y hj hy => ?_⟩
  · by_cases c : j < l.length
    · rw [List.getElem?_append_left c] at hy; exact h2 j y hy
    · rw [List.getElem?_append_right (by omega)] at hy
      have : j - l.length = 0 := by have := (List.getElem?_eq_some_iff.1 hy).1; simp at this; omega
      rw [this] at hy; simp at hy; subst hy; omega
  · rw [List.getElem?_append_left (by omega)] at hy; exact h3 j y hj hy

/-- The keys from one place to another one. -/
def seg {α : Type} (l : List α) (F T : Nat) : List α := (l.take T).drop F
theorem seg_len {α : Type} {l : List α} {F T : Nat} (h : T ≤ l.length) : (seg l F T).length = T - F := by unfold seg; simp; omega
theorem seg_get {α : Type} {l : List α} {F T i : Nat} (h : F + i < T) : (seg l F T)[i]? = l[F + i]? := by
  unfold seg; rw [List.getElem?_drop, List.getElem?_take, if_pos h]
theorem seg_snoc {α : Type} {l : List α} {F T : Nat} {x : α} (h : F ≤ T) (hx : l[T]? = some x) : seg l F (T + 1) = seg l F T ++ [x] := by
  have hl := (List.getElem?_eq_some_iff.1 hx).1
  unfold seg
  rw [take_snoc hx, List.drop_append_of_le_length (by simp; omega)]
theorem seg_take {α : Type} {l : List α} {F T t : Nat} (h : F + t ≤ T) : (seg l F T).take t = seg l F (F + t) := by
  unfold seg; rw [List.drop_take, List.take_take, List.drop_take, Nat.min_eq_left (by omega), show F + t - F = t by omega]
theorem seg_drop {α : Type} {l : List α} {F T t : Nat} : (seg l F T).drop t = seg l (F + t) T := by
  unfold seg; rw [List.drop_drop]
theorem seg_nil {α : Type} {l : List α} {F T : Nat} (h : T ≤ F) : seg l F T = [] := by unfold seg; rw [List.drop_eq_nil_iff]; simp; omega

theorem rbefore_quiet (x y : Int) (w : World) (d m : Nat) (hx : U64 x) (hy : U64 y) : Calls Tryd.prog 25 #[.int .u64 x, .int .u64 y] (w.drewN (d + m)) fun e w'' => e = .returned (.bool (decide (mixed y < mixed x))) ∧ ∃ j, w'' = w.drewN (d + j) :=
  (refBefore_any x y _ hx.1 hx.2 hy.1 hy.2).mono fun _ _ h => ⟨h.1, m, h.2.symm⟩

set_option maxHeartbeats 4000000 in
set_option maxRecDepth 100000 in
theorem rtree_any : ∀ (d : Nat) (s : Option Addr) (n c : Nat) (l : List Int) (F T : Nat) (w : World), WS w s n c l → T ≤ n → F ≤ T → T - F = d →
    Calls Tryd.prog 28 #[.slice s n c, .int .i64 F, .int .i64 T] w fun e w' => ∃ sl c', e = .returned (.tuple #[.int .i64 (tree (seg l F T) F).1, .slice sl d c']) ∧ LS w' sl d c' (tree (seg l F T) F).2 ∧ Ext w w' := by
  intro d
  induction d using Nat.strongRecOn with
  | ind d ih =>
    intro s n c l F T w hW hT hF hd
    have hn := hW.le
    have HW := Lib.hid hW
    have HD := Lib.hid hd
    clear hW hd
    by_cases h0 : F = T
    · subst h0
      have hz : RowKit.Hid (d = 0) := Lib.hid (by have := HD.out; omega)
      go_enter Tryd.func28, Tryd.ntmps28
      go_wp2
      go_ret2
      obtain rfl := hz.out
      refine ⟨none, 0, ?_, ?_, Ext.refl w⟩
      · rw [seg_nil (Nat.le_refl F), tree_nil]; rfl
      · rw [seg_nil (Nat.le_refl F), tree_nil]; exact LS.empty _ _ _ (by omega)
    · have hlt : F < T := by omega
      clear h0
      have hdc : decide (T ≤ F) = false := decide_eq_false (by omega)
      obtain ⟨x0, hx0, _⟩ := HW.out.get (k := F) (by omega)
      go_enter Tryd.func28, Tryd.ntmps28
      go_wp2_with (fail)
      go_loopw [8, 9] (fun tv iv wr => ∃ (tp i q : Nat), F ≤ tp ∧ tp < i ∧ i ≤ T ∧ tv = .int .i64 tp ∧ iv = .int .i64 i ∧ wr = w.drewN q ∧ RowKit.Hid (IsTop (seg l F i) (tp - F))) (fun _ i _ => T - (intOf i).toNat)
      case atStart => exact ⟨F, F + 1, 0, by omega, by omega, by omega, rfl, by go_num, rfl, Lib.hid (by
        rw [seg_snoc (Nat.le_refl F) hx0, seg_nil (Nat.le_refl F), Nat.sub_self]; exact isTop_one x0)⟩
      case round =>
        obtain ⟨tp, i, q, h1, h2, h3, rfl, rfl, rfl, hP⟩ := hrel
        by_cases hi : i < T
        · have hiT : (i : Int) < T := by omega
          obtain ⟨x, hx, ux, b, o, rfl, cx⟩ := HW.out.get (k := i) (by omega)
          obtain ⟨m, hm, um, b', o', e, cm⟩ := HW.out.get (k := tp) (by omega)
          cases e
          have hin : (i : Int) < n := by omega
          have htn : (tp : Int) < n := by omega
          have HX := Lib.hid hx
          have HM := Lib.hid hm
          have hseg : RowKit.Hid ((seg l F i)[tp - F]? = some m) := Lib.hid (by rw [seg_get (by omega), show F + (tp - F) = tp by omega]; exact hm)
          clear hx hm hx0
          by_cases hb : mixed m < mixed x
          · have hdb : decide (mixed m < mixed x) = true := decide_eq_true hb
            have hN : RowKit.Hid (IsTop (seg l F (i + 1)) (i - F)) := Lib.hid (by
              rw [seg_snoc (by omega) HX.out]
              have := isTop_new hP.out hseg.out hb
              rw [seg_len (by rw [HW.out.len]; omega)] at this; exact this)
            go_wp2_with (fail)
            go_quiet ((go_at_call 25; exact rbefore_quiet _ _ _ _ _ ux um))
            go_wp2_with (fail)
            exact ⟨⟨i, i + 1, q + nq, by omega, by omega, by omega, rfl, by go_num, rfl, hN⟩, by simp [intOf]; omega⟩
          · have hdb : decide (mixed m < mixed x) = false := decide_eq_false hb
            have hN : RowKit.Hid (IsTop (seg l F (i + 1)) (tp - F)) := Lib.hid (by
              rw [seg_snoc (by omega) HX.out]; exact isTop_old hP.out hseg.out hb)
            have hbi := Int.not_lt.1 hb
            go_wp2_with (fail)
            go_quiet ((go_at_call 25; exact rbefore_quiet _ _ _ _ _ ux um))
            go_wp2_with (fail)
            go_roundw
            case rel => exact ⟨tp, i + 1, q + nq, by omega, by omega, by omega, rfl, by go_num, rfl, hN⟩
            case measure => simp [intOf]; omega
        · obtain rfl : i = T := by omega
          clear hx0
          have hqe := Ext.draws w q
          have HW2 := HW.out.ext hqe
          clear HW
          generalize w.drewN q = wq at hqe HW2 ⊢
          go_wp2_with (fail)
          refine (ih (tp - F) (by have := HD.out; omega) s n c l F tp wq HW2 (by omega) h1 rfl).mono ?_
          rintro e w1 ⟨sl1, c1, rfl, hL1, hE1⟩
          have HW3 := HW2.ext hE1
          go_wp2_with (fail)
          refine (ih (i - (tp + 1)) (by have := HD.out; omega) s n c l (tp + 1) i w1 HW3 (by omega) (by omega) rfl).mono ?_
          rintro e w2 ⟨sl2, c2, rfl, hL2, hE2⟩
          replace hL1 := hL1.ext hE2
          obtain ⟨sA, cA, wA, RA, oA, gA⟩ := appLS (ys := []) (World.ownsRow_nil w2 w2.heap.size _ _) hL1 (tp - F) (Nat.zero_add _) (by omega) (Nat.le_refl _)
          have xA : Ext w2 wA := Ext.grown (Ext.refl w2) gA (fun k e => by simp [Value.ownBlock] at e)
          obtain ⟨a, ha⟩ : ∃ a, (tree (seg l F tp) F).1 = a := ⟨_, rfl⟩
          obtain ⟨b, hb⟩ : ∃ b, (tree (seg l (tp + 1) i) (tp + 1)).1 = b := ⟨_, rfl⟩
          have hlit : LS (wA.alloc (.cells #[.int .i64 a, .int .i64 b] 42)) (some ⟨wA.heap.size, 0, none⟩) 1 1 [(a, b)] := LS.lit wA (a, b) (by
            have t1 := tree_root_bd (seg l F tp) F
            have t2 := tree_root_bd (seg l (tp + 1) i) (tp + 1)
            rw [ha] at t1; rw [hb] at t2
            rw [seg_len (by rw [HW2.len]; omega)] at t1 t2
            unfold Ip I64; simp only; omega)
          have oB := oA.alloc (.cells #[.int .i64 a, .int .i64 b] 42)
          obtain ⟨L2, eL2⟩ : ∃ L2, RowKit.Hid (tp - F + 1 = L2) := ⟨_, Lib.hid rfl⟩
          obtain ⟨sB, cB, wB, RB, oC, gB⟩ := appLS oB hlit L2 eL2.out (by have := eL2.out; omega) (by have := xA.size; simp; omega)
          have xB : Ext w2 wB := Ext.grown (Ext.alloc xA _) gB (own_ge oA)
          obtain ⟨sC, cC, wC, RC, oD, gC⟩ := appLS oC (hL2.ext xB) d (by have := eL2.out; have := HD.out; omega) (by have := HD.out; omega) xB.size
          have xC : Ext w2 wC := Ext.grown xB gC (own_ge oC)
          have HA := Lib.hid ha
          have HB := Lib.hid hb
          rw [ha, hb]
          clear ha hb
          go_wp2_with (first
            | (at_builtin; refine Lib.wpList_append_run _ rfl (.const (.slice none 0 0)) (.tmp 52) _ _ rfl _ _ rfl rfl _ _ RA.out ?_)
            | (at_builtin; refine Lib.wpList_append_run _ rfl (.tmp 53) (.tmp 57) _ _ rfl _ _ rfl rfl _ _ RB.out ?_)
            | (at_builtin; refine Lib.wpList_append_run _ rfl (.tmp 58) (.tmp 59) _ _ rfl _ _ rfl rfl _ _ RC.out ?_))
          go_ret2
          have ht := tree_at hP.out F
          rw [seg_take (by omega), seg_drop, show F + (tp - F) = tp by omega, show F + (tp - F + 1) = tp + 1 by omega, HA.out, HB.out] at ht
          refine ⟨sC, cC, ?_, ?_, hqe.trans (hE1.trans (hE2.trans xC))⟩
          · rw [ht]; rfl
          · have hl : (tree (seg l F i) F).2.length = d := by rw [tree_len _ _ _ rfl, seg_len (by rw [HW2.len]; omega)]; exact HD.out
            rw [ht] at hl
            rw [ht]
            refine LS.of_own (by simpa using oD) hl (by have := HD.out; omega) (fun y hy => ?_)
            have := tree_bd _ (seg l F i) F rfl y (by rw [ht]; exact hy)
            rw [seg_len (by rw [HW2.len]; omega)] at this
            unfold Ip I64; omega

end Go.Proofs.YtnmeakkehonnmaaDoor.Trp
