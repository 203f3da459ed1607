/-
  What Build returns, and the records of a table by their keys. Conditions: the records are there; the package's table lies.
-/
import Derived.Test.YtbpgnnogpcppdaaDoorSorts
import Derived.Test.YtbpgnnogpcppdaaDoorLay
import Derived.Test.YtbpgnnogpcppdaaDoorMay
namespace Go.Proofs.YtbpgnnogpcppdaaDoor
open Go.RowKit (Below intOf)
open Go.Sort (SWO)

theorem cfB_lt (x y : Rc) : decide (cfB x y < 0) = decide (mixed y.1 < mixed x.1) := by
  unfold cfB
  by_cases h1 : mixed y.1 < mixed x.1
  · simp [h1]
  · by_cases h2 : mixed x.1 < mixed y.1 <;> simp [h1, h2]
theorem swoB : SWO (ltOf fun x y : Uc => cfB x.1 y.1) where
  irrefl x := by unfold ltOf; rw [cfB_lt]; simp
  trans x y z h1 h2 := by unfold ltOf at *; rw [cfB_lt] at *; simp at *; omega
  ntrans x y z h1 h2 := by unfold ltOf at *; rw [cfB_lt] at *; simp at *; omega
theorem leB_of (x y : Rc) (h : ¬ (cfB y x < 0)) : leB x y = true := by
  have := cfB_lt y x
  rw [decide_eq_false h] at this
  unfold leB
  have := this.symm
  simp at this ⊢
  exact this
theorem cfK_lt (x y : Rc) : decide (cfK x y < 0) = decide (x.1 < y.1) := by
  unfold cfK
  by_cases h1 : x.1 < y.1
  · simp [h1]
  · by_cases h2 : y.1 < x.1 <;> simp [h1, h2]
theorem swoK : SWO (ltOf fun x y : Uc => cfK x.1 y.1) where
  irrefl x := by unfold ltOf; rw [cfK_lt]; simp
  trans x y z h1 h2 := by unfold ltOf at *; rw [cfK_lt] at *; simp at *; omega
  ntrans x y z h1 h2 := by unfold ltOf at *; rw [cfK_lt] at *; simp at *; omega
theorem leK_of (x y : Rc) (h : ¬ (cfK y x < 0)) : leK x y = true := by
  have := cfK_lt y x
  rw [decide_eq_false h] at this
  unfold leK
  have := this.symm
  simp at this ⊢
  exact this

theorem sortedB_any (s : Option Addr) (n c B : Nat) (l : List Rc) (w : World) (hT : Tab w) (hQ : QS w s n c l) (b0 : Boxed w B 32 (.slice s n c)) :
    Calls Tryd.prog 32 #[.func (.func 48) #[] #[.pointer (some ⟨B, 0, none⟩)], .func (.func 42) #[] #[]] w fun e w' => ∃ sl c' ys, e = .returned (.slice sl n c') ∧ QS w' sl n c' ys ∧ (ys.Perm l ∧ ys.Pairwise fun a b => leB a b = true) ∧ Fresh w.heap.size sl ∧ Ext w w' :=
  sorted_any 42 cfB leB leB_of swoB (enters_of Tryd.func42 (by kernel_rfl) rfl) (fun x y W hT hx hy => first_any x y W hT hx hy) s n c B l w hT hQ b0
theorem sortedK_any (s : Option Addr) (n c B : Nat) (l : List Rc) (w : World) (hT : Tab w) (hQ : QS w s n c l) (b0 : Boxed w B 32 (.slice s n c)) :
    Calls Tryd.prog 32 #[.func (.func 48) #[] #[.pointer (some ⟨B, 0, none⟩)], .func (.func 34) #[] #[]] w fun e w' => ∃ sl c' ys, e = .returned (.slice sl n c') ∧ QS w' sl n c' ys ∧ (ys.Perm l ∧ ys.Pairwise fun a b => leK a b = true) ∧ Fresh w.heap.size sl ∧ Ext w w' :=
  sorted_any 34 cfK leK leK_of swoK (enters_of Tryd.func34 (by kernel_rfl) rfl) (fun x y W _ _ _ => byKey_any x y W) s n c B l w hT hQ b0

set_option maxHeartbeats 1000000 in
theorem build_no (n v : Int) (s : Option Addr) (m c : Nat) (l : List Rc) (w : World) (hQ : QS w s m c l) (h : ¬ (1 ≤ n ∧ n ≤ 1024 ∧ (v = 1 ∨ v = 2)) ∨ mayS v l = false) :
    Calls Tryd.prog 24 #[.int .i64 n, .int .i64 v, .slice s m c] w (WE (buildS n v l) w) := by
  have hb := Lib.hid (build_arg (l := l) h)
  have HQ := Lib.hid hQ
  clear hQ
  by_cases h1 : okN n = true
  rotate_left
  · have h1' : okN n = false := by simpa using h1
    clear h h1
    go_enter Tryd.func24, Tryd.ntmps24
    go_wp2_with (go_at_call 27; refine (slots_any n _).mono ?_; rintro e w' ⟨rfl, rfl⟩)
    go_ret2
    exact WE.none hb.out (Ext.refl w)
  by_cases h2 : okW v = true
  rotate_left
  · have h2' : okW v = false := by simpa using h2
    clear h h2
    go_enter Tryd.func24, Tryd.ntmps24
    go_wp2_with (first
      | (go_at_call 27; refine (slots_any n _).mono ?_; rintro e w' ⟨rfl, rfl⟩)
      | (go_at_call 26; refine (width_any v _).mono ?_; rintro e w' ⟨rfl, rfl⟩))
    go_ret2
    exact WE.none hb.out (Ext.refl w)
  have h3 : RowKit.Hid (false = mayS v l) := Lib.hid (by
    rcases h with h | h
    · unfold okN at h1; unfold okW at h2; simp at h1 h2; exact absurd ⟨h1.1, h1.2, h2⟩ h
    · exact h.symm)
  clear h
  go_enter Tryd.func24, Tryd.ntmps24
  go_wp2_with (first
    | (go_at_call 27; refine (slots_any n _).mono ?_; rintro e w' ⟨rfl, rfl⟩)
    | (go_at_call 26; refine (width_any v _).mono ?_; rintro e w' ⟨rfl, rfl⟩)
    | (go_at_call 41; refine (may_any v s m c l false w HQ.out h3).mono ?_; rintro e w1 ⟨rfl, hE1⟩))
  go_ret2
  exact WE.none hb.out hE1

set_option maxRecDepth 100000 in
set_option maxHeartbeats 2000000 in
theorem build_yes (n v : Nat) (s : Option Addr) (m c : Nat) (l : List Rc) (w : World) (hT : Tab w) (hQ : QS w s m c l) (n1 : 1 ≤ n) (n2 : n ≤ 1024) (hv : Wd v) (hm : mayS v l = true) :
    Calls Tryd.prog 24 #[.int .i64 n, .int .i64 v, .slice s m c] w (WE (buildS n v l) w) := by
  have h1 : okN (n : Int) = true := by unfold okN; simp; omega
  have h2 : okW (v : Int) = true := by unfold okW; unfold Wd at hv; simp; omega
  have h3 : RowKit.Hid (true = mayS v l) := Lib.hid hm.symm
  have hlm := Lib.hid hQ.len
  have hmb := hQ.le
  have HQ := Lib.hid hQ
  have HV := Lib.hid hv
  have HT := Lib.hid hT
  by_cases hfull : n < m
  · have hb := Lib.hid (build_full (n := n) (v := v) (l := l) (by omega) (by omega) (by unfold Wd at hv; omega) hm (by rw [hQ.len]; omega))
    have hfb : (n : Int) < m := by omega
    clear hm hQ hv hT
    go_enter Tryd.func24, Tryd.ntmps24
    go_wp2_with (first
      | (go_at_call 27; refine (slots_any n _).mono ?_; rintro e w' ⟨rfl, rfl⟩)
      | (go_at_call 26; refine (width_any v _).mono ?_; rintro e w' ⟨rfl, rfl⟩)
      | (go_at_call 41; refine (may_any v s m c l true w HQ.out h3).mono ?_; rintro e w1 ⟨rfl, hE1⟩))
    go_ret2
    exact WE.none hb.out hE1
  · have hb := Lib.hid (build_ok (n := n) (v := v) (l := l) n1 n2 hv hm (by rw [hQ.len]; omega))
    have hgt := Lib.hid (may_good hQ.range hm)
    have hfb : ¬ (n : Int) < m := by omega
    obtain ⟨M, hM⟩ : ∃ M, M = n * v := ⟨_, rfl⟩
    have HM := Lib.hid hM
    have hM2 : M ≤ 2048 := by rw [hM]; rcases hv with rfl | rfl <;> omega
    have hmul : (n : Int) * v = M := by rw [hM]; exact (Int.natCast_mul n v).symm
    have hmk := fun W => make_words M (by omega) W
    clear hm hQ hv hT hM
    go_enter Tryd.func24, Tryd.ntmps24
    go_wp2_with (first
      | (go_at_call 27; refine (slots_any n _).mono ?_; rintro e w' ⟨rfl, rfl⟩)
      | (go_at_call 26; refine (width_any v _).mono ?_; rintro e w' ⟨rfl, rfl⟩)
      | (go_at_call 41; refine (may_any v s m c l true w HQ.out h3).mono ?_; rintro e w1 ⟨rfl, hE1⟩)
      | (go_at_call 33; refine (values_any s m c _).mono ?_; rintro e w' ⟨rfl, rfl⟩))
    clear hmk
    obtain ⟨g, hg⟩ : ∃ g, w1.heap.size = g := ⟨_, rfl⟩
    have hrow0 := zeros_row M w1
    obtain ⟨W2, hW2⟩ : ∃ W2, w1.alloc (.cells (zeros M) 24) = W2 := ⟨_, rfl⟩
    have hEA : Ext w1 W2 := by rw [← hW2]; exact Ext.new _ _
    have hsz2 : W2.heap.size = g + 1 := by rw [← hW2, ← hg]; simp
    rw [hW2] at hrow0
    rw [hg] at hrow0
    have b0 : Boxed (W2.alloc (.cells #[.slice s m c] 32)) W2.heap.size 32 (.slice s m c) := Boxed.new _ _ _
    have hE2 := (hE1.trans hEA).trans (Ext.new W2 (.cells #[.slice s m c] 32))
    have hSo := Lib.hid (sortedB_any s m c W2.heap.size l _ (HT.out.ext hE2) (HQ.out.ext hE2) b0)
    have HR2 := Lib.hid (hrow0.ext (Ext.new W2 (.cells #[.slice s m c] 32)))
    have hg1 : w.heap.size ≤ g := by rw [← hg]; exact hE1.size
    have hg0 : g ≠ 0 := by have := HT.out.size; omega
    have hgg := hg
    rw [hsz2] at hSo
    rw [hW2, hg]
    clear b0 hrow0 hgg hg hW2 hEA
    refine hSo.out.mono ?_
    rintro e W4 ⟨sy, cy, ys, rfl, hY, hp, hFr, hE4⟩
    have hsort : RowKit.Hid (ys = sortB l) := Lib.hid (sortB_one hgt.out.1 hp.1 hp.2)
    have HY := Lib.hid hY
    have hsz4 := hE4.size
    have HF : RowKit.Hid (∀ b o, sy = some ⟨b, o, none⟩ → b ≠ g) := Lib.hid (fun b o e => by have := hFr b o e; simp at this; omega)
    have hE5 := hE2.trans hE4
    have HT4 := Lib.hid (HT.out.ext hE5)
    have HR4 := Lib.hid (HR2.out.ext hE4)
    clear hp hFr hY hSo HR2 hE2 hE4 hE1
    go_wp2_with (fail)
    go_loopw [37] (fun i wr => ∃ (k : Nat) (cur : List Rc), k ≤ m ∧ i = .int .i64 k ∧ Below w.heap.size w wr ∧ RowKit.Hid (QS wr sy m cy ys ∧ Tab wr) ∧ RowKit.Hid (RowW wr g (flatW v cur) ∧ cur = (ys.take k).foldl layS (List.replicate n (0, 0)) ∧ cur.length = n ∧ Thin v cur)) (fun i _ => m - (intOf i).toNat)
    case atStart => exact ⟨0, List.replicate n (0, 0), by omega, rfl, hE5, Lib.hid ⟨HY.out, HT4.out⟩, Lib.hid ⟨by
      have := HR4.out
      rcases HV.out with rfl | rfl
      · rwa [flat_zeros1, ← HM.out]
      · rwa [flat_zeros2, ← HM.out], rfl, by simp, fun _ r hr => by rw [List.eq_of_mem_replicate hr]⟩⟩
    case round =>
      obtain ⟨k, cur, hk, rfl, hE, hYr, hin⟩ := hrel
      by_cases hlt : k < m
      · obtain ⟨p, x, hx, up, ux, ba, oa, rfl, e0, e1⟩ := hYr.out.1.get hlt
        have hkm : (k : Int) < m := by omega
        have HX := Lib.hid hx
        have hmem : RowKit.Hid ((p, x) ∈ l) := Lib.hid (by have := List.mem_of_getElem? hx; rw [hsort.out] at this; exact (sortB_perm l).mem_iff.1 this)
        clear hx
        go_wp2_with (fail)
        refine (lay_any g n M v cur p x _ (hYr.out.2.ext (Ext.new wr _)) HV.out (hin.out.1.ext (Ext.new wr _)) hin.out.2.2.1 HM.out hin.out.2.2.2 n1 n2 ⟨up, ux⟩).mono ?_
        rintro e w6 ⟨rfl, hrow6, hgr6⟩
        have hq6 : RowKit.Hid (QS w6 (some ⟨ba, oa, none⟩) m cy ys ∧ Tab w6) := Lib.hid ⟨(hYr.out.1.ext (Ext.new wr _)).grown hgr6 HF.out, tab_grown (hYr.out.2.ext (Ext.new wr _)) hgr6 hg0⟩
        have hin6 : RowKit.Hid (RowW w6 g (flatW v (layS cur (p, x))) ∧ layS cur (p, x) = (ys.take (k + 1)).foldl layS (List.replicate n (0, 0)) ∧ (layS cur (p, x)).length = n ∧ Thin v (layS cur (p, x))) := Lib.hid ⟨hrow6, by
          rw [take_snoc HX.out, List.foldl_append, ← hin.out.2.1]; rfl, by rw [layS_len]; exact hin.out.2.2.1, fun e r hr => by
          unfold layS at hr
          split at hr
          · rcases List.mem_or_eq_of_mem_set hr with hr | rfl
            · exact hin.out.2.2.2 e r hr
            · exact hgt.out.2 e _ hmem.out
          · exact hin.out.2.2.2 e r hr⟩
        have hE6 : Below w.heap.size w w6 := Ext.grown (Ext.alloc hE _) hgr6 (fun j e => by cases e; exact hg1)
        clear hrow6 hgr6
        go_wp2_with (fail)
        go_roundw
        case rel => exact ⟨k + 1, _, by omega, by go_num, hE6, hq6, hin6⟩
        case measure => simp [intOf]; omega
      · obtain rfl : k = m := by omega
        go_wp2_with (fail)
        go_ret2
        have h2 := hin.out.2.1
        rw [List.take_of_length_le (by rw [hYr.out.1.len]; omega), hsort.out] at h2
        have h3 := hin.out.1
        have h4 : cur = tableOf n l := h2
        rw [h4] at h3
        have h5 := hin.out.2.2.1
        rw [h4] at h5
        exact WE.some hb.out hE (h3.ws (by rw [flatW_len HV.out, h5, HM.out]) (by omega) (Nat.le_refl _) (by omega))

/-- Build. -/
theorem build_any (n v : Int) (s : Option Addr) (m c : Nat) (l : List Rc) (w : World) (hT : Tab w) (hQ : QS w s m c l) :
    Calls Tryd.prog 24 #[.int .i64 n, .int .i64 v, .slice s m c] w (WE (buildS n v l) w) := by
  by_cases h : 1 ≤ n ∧ n ≤ 1024 ∧ (v = 1 ∨ v = 2)
  · by_cases hm : mayS v l = true
    · obtain ⟨k, rfl⟩ : ∃ k : Nat, n = k := ⟨n.toNat, by omega⟩
      obtain ⟨u, rfl⟩ : ∃ u : Nat, v = u := ⟨v.toNat, by omega⟩
      exact build_yes k u s m c l w hT hQ (by omega) (by omega) (by unfold Wd; omega) hm
    · exact build_no n v s m c l w hQ (.inr (by simpa using hm))
  · exact build_no n v s m c l w hQ (.inl h)

end Go.Proofs.YtbpgnnogpcppdaaDoor
