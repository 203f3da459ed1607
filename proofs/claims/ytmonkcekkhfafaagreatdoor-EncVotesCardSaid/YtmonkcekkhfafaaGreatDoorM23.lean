/-
  Parts of a proof, one behind the other: PrbMay, PrbBuild, PrbRefPut, PrbRight. Each says its own conditions.
-/
import Derived.Test.YtmonkcekkhfafaaGreatDoorM21
import Derived.Test.YtmonkcekkhfafaaGreatDoorM22
import Derived.Maps.Own
import Derived.Maps.OwnOps
import Derived.WalkArith
import Derived.Lib.SliceRun

/- PrbMay:
  What mayStand returns: whether records may stand in one table of that width. Condition: the records are there.
-/
namespace Go.Proofs.YtmonkcekkhfafaaGreatDoor.Prb
open Go.RowKit (Below intOf)
open Go.Maps (IsMap isMap_empty atKey_put_same atKey_put_other)

theorem u64_wf {x : Int} (h : U64 x) : (Lit.int .u64 x).wf = true := WalkArith.wf_u64 (by unfold U64 at h; omega)
/-- The map of the keys so far. -/
def seenD {H : Type} (ks : List Int) : DataW H := ks.foldl (fun D k => D.put (.int .u64 k) (.lit (.bool true))) (.map [])
theorem seenD_snoc {H : Type} (ks : List Int) (k : Int) : seenD (H := H) (ks ++ [k]) = (seenD ks).put (.int .u64 k) (.lit (.bool true)) := by simp [seenD]
theorem seenD_is {H : Type} (ks : List Int) : IsMap (seenD (H := H) ks) := by
  unfold seenD
  have : ∀ (ks : List Int) (D : DataW H), IsMap D → IsMap (ks.foldl (fun D k => D.put (.int .u64 k) (.lit (.bool true))) D) := fun ks => by
    induction ks with
    | nil => intro D h; exact h
    | cons y r ih => intro D h; exact ih _ (h.put _ _)
  exact this ks _ isMap_empty
theorem key_lit (x : Int) : WideAt.IsKeyLit (.int .u64 x) := by simp [WideAt.IsKeyLit]
theorem seenD_at {H : Type} (p : Int) : ∀ (n : Nat) (ks : List Int), ks.length = n → (seenD (H := H) ks).atKey (.int .u64 p) (.lit (.bool false)) = .lit (.bool (decide (p ∈ ks)))
  | 0, ks, h => by
    have : ks = [] := List.eq_nil_of_length_eq_zero h
    subst this; rfl
  | n + 1, ks, h => by
    obtain ⟨r, y, rfl⟩ : ∃ r y, ks = r ++ [y] := ⟨ks.dropLast, ks.getLast (by intro e; rw [e] at h; cases h), (List.dropLast_concat_getLast _).symm⟩
    have ih := seenD_at (H := H) p n r (by simpa using h)
    rw [seenD_snoc]
    by_cases e : y = p
    · subst e
      rw [atKey_put_same (seenD_is r) (key_lit _)]; simp
    · have hne : Lit.int .u64 p ≠ Lit.int .u64 y := fun he => e (by injection he with _ he; exact he.symm)
      rw [atKey_put_other hne, ih]
      have e' : p ≠ y := fun h => e h.symm
      simp [e']
theorem plainElem_bool_inv {H : Type} {P : Program} {e : TypeId} (he : P.underlying e = some .bool) {v : Value} {b : Bool} {ps : List MemPlace} (h : plainElem (H := H) P e v = some (.lit (.bool b), ps)) : v = .bool b := by
  unfold plainElem at h
  rw [he] at h
  cases v <;> simp at h
  rw [h.1]
theorem map_ext {H : Type} {w w' : World} {b n : Nat} {R : Value → Option (DataW H × List MemPlace)} {D : DataW H} (h : w.ownsMap Tryz.prog 26 R b n D) (e : Ext w w') : w'.ownsMap Tryz.prog 26 R b n D := by
  have hl := h.lt
  obtain ⟨es, clock, hb, Ft, hs, hD⟩ := h
  exact ⟨es, clock, (Below.block e b hl).trans hb, Ft, hs, hD⟩
theorem seen_look {w : World} {b n : Nat} {ks : List Int} (h : w.ownsMap Tryz.prog 26 (plainElem (H := Unit) Tryz.prog 4) b n (seenD ks)) {p : Int} (hp : U64 p) :
    (Instr.lookup 154 (.map (some b)) (.int .u64 p) false).run Tryz.prog w = .ok (.bool (decide (p ∈ ks))) w := by
  obtain ⟨v, ps, hr, hv⟩ := h.lookup (t := 154) (Maps.int_keyed Tryz.underlying26) Tryz.underlying154 (Tryz.zeroValue4 w) (plainElem_bool Tryz.underlying4 false) (Maps.keyOf_int_mk Tryz.underlying26 (u64_wf hp))
  rw [seenD_at p _ ks rfl] at hv
  rw [hr, plainElem_bool_inv Tryz.underlying4 hv]

theorem mem_keys {l : List Rc} {j : Nat} {p : Int} : p ∈ (l.take j).map (·.1) ↔ ∃ k y, k < j ∧ l[k]? = some y ∧ y.1 = p := by
  rw [List.mem_map]
  constructor
  · rintro ⟨y, hy, rfl⟩
    obtain ⟨k, hk⟩ := List.mem_iff_getElem?.1 hy
    rw [List.getElem?_take] at hk
    split at hk
    · exact ⟨k, y, by assumption, hk, rfl⟩
    · cases hk
  · rintro ⟨k, y, hk, hy, rfl⟩
    exact ⟨y, List.mem_iff_getElem?.2 ⟨k, by rw [List.getElem?_take, if_pos hk]; exact hy⟩, rfl⟩
theorem QS.grown {w w' : World} {sl : Option Addr} {n c : Nat} {ys : List Rc} {b : Nat} (h : QS w sl n c ys) (g : w.grownBy w' (some b)) (hne : ∀ g o, sl = some ⟨g, o, none⟩ → g ≠ b) : QS w' sl n c ys :=
  ⟨h.1, h.2.1, h.2.2.1, h.2.2.2.1, fun j y hy => by
    obtain ⟨hu, b', o, hs, hc, hd⟩ := h.2.2.2.2 j y hy
    have hn : some b' ≠ some b := fun e => hne b' o hs (by cases e; rfl)
    exact ⟨hu, b', o, hs, g.cell hc hn, g.cell hd hn⟩⟩

set_option maxRecDepth 100000 in
set_option maxHeartbeats 2000000 in
theorem may_any (v : Int) (s : Option Addr) (m c : Nat) (l : List Rc) (r : Bool) (w : World) (hQ : QS w s m c l) (hr : RowKit.Hid (r = mayS v l)) :
    Calls Tryz.prog 87 #[.int .i64 v, .slice s m c] w fun e w' => e = .returned (.bool r) ∧ Ext w w' := by
  have hm := hQ.le
  have hmm := @RowKit.run_makeMap Tryz.prog
  have hm0 : RowKit.Hid ((w.alloc (.map #[] 0)).ownsMap Tryz.prog 26 (plainElem (H := Unit) Tryz.prog 4) w.heap.size 0 (seenD [])) := Lib.hid (World.ownsMap_made w Tryz.prog 26 (plainElem (H := Unit) Tryz.prog 4))
  have HQ := Lib.hid hQ
  clear hQ
  go_enter Tryz.func87, Tryz.ntmps87
  go_wp2_with (fail)
  clear hmm
  go_loopw [11] (fun i wr => ∃ (j : Nat), j ≤ m ∧ i = .int .i64 j ∧ RowKit.Hid (wr.ownsMap Tryz.prog 26 (plainElem (H := Unit) Tryz.prog 4) w.heap.size j (seenD ((l.take j).map (·.1)))) ∧ RowKit.Hid (Fine v l j) ∧ Below w.heap.size w wr) (fun i _ => m - (intOf i).toNat)
  case atStart => exact ⟨0, by omega, rfl, hm0, Lib.hid (fun i p x h => by omega), Ext.new w _⟩
  case round =>
    obtain ⟨j, hj, rfl, hmap, hF, hE⟩ := hrel
    by_cases hlt : j < m
    · obtain ⟨p, x, hx, up, ux, ba, oa, rfl, e0, e1⟩ := (HQ.out.ext hE).get hlt
      have hjm : (j : Int) < m := by omega
      have HX := Lib.hid hx
      have hma := map_ext hmap.out (Ext.new wr (.cells #[.int .u64 p, .int .u64 x] 80))
      have hlk := seen_look hma up
      have Hma := Lib.hid hma
      clear hx hma
      by_cases hp0 : p = 0
      · subst hp0
        have hfin : RowKit.Hid (r = false) := Lib.hid (by rw [hr.out, mayS_zero HX.out rfl])
        go_wp2_with (fail)
        go_ret
        exact ⟨ret_bool hfin.out.symm, Ext.alloc hE _⟩
      have hpb : (p == 0) = false := by simpa using hp0
      have Hp := Lib.hid hp0
      clear hp0
      by_cases hin : p ∈ (l.take j).map (·.1)
      · rw [decide_eq_true hin] at hlk
        have hfin : RowKit.Hid (r = false) := Lib.hid (by
          obtain ⟨k, y, hk, hy, e⟩ := mem_keys.1 hin
          rw [hr.out, mayS_twice HX.out hy hk e])
        clear hin
        go_wp2_with (fail)
        go_ret
        exact ⟨ret_bool hfin.out.symm, Ext.alloc hE _⟩
      rw [decide_eq_false hin] at hlk
      have hnot : RowKit.Hid (∀ k y, k < j → l[k]? = some y → y.1 ≠ p) := Lib.hid (fun k y h1 h2 e => hin (mem_keys.2 ⟨k, y, h1, h2, e⟩))
      clear hin
      by_cases hthick : v = 1 ∧ x ≠ 0
      · obtain ⟨rfl, hx0⟩ := hthick
        have hxb : (x != 0) = true := by simpa using hx0
        have hfin : RowKit.Hid (r = false) := Lib.hid (by rw [hr.out, mayS_thick HX.out hx0])
        clear hx0
        go_wp2_with (fail)
        go_ret
        exact ⟨ret_bool hfin.out.symm, Ext.alloc hE _⟩
      have hth : RowKit.Hid (v = 1 → x = 0) := Lib.hid (fun e => Classical.byContradiction fun h => hthick ⟨e, h⟩)
      have hst : RowKit.Hid (seenD (H := Unit) ((l.take (j + 1)).map (·.1)) = (seenD ((l.take j).map (·.1))).put (.int .u64 p) (.lit (.bool true))) := Lib.hid (by rw [take_snoc HX.out, List.map_append, List.map_singleton, seenD_snoc])
      have hwf := u64_wf up
      have hF2 : RowKit.Hid (Fine v l (j + 1)) := Lib.hid (fine_step hF.out HX.out Hp.out hth.out hnot.out)
      have hm2 := Hma.out
      have hbw : RowKit.Hid (ba ≠ w.heap.size) := Lib.hid (by
        obtain ⟨_, _, _, _, _, b', o', e', hc', _⟩ := HQ.out.get (k := j) (by omega)
        cases e'
        have := World.block_lt_of_cell? w _ hc'
        simp at this; omega)
      by_cases hv1 : v = 1
      · subst hv1
        obtain rfl : x = 0 := hth.out rfl
        clear hthick
        go_wp2_with (at_mapUpdate; refine wpList_mapUpdate_own _ rfl _ _ _ 154 rfl 26 4 (Maps.int_keyed Tryz.underlying26) Tryz.underlying154 _ w.heap.size j _ rfl hm2 (by unfold maxLen; omega) _ _ _ rfl rfl (Maps.keyOf_int_mk Tryz.underlying26 hwf) _ [] (plainElem_bool Tryz.underlying4 true) ?_; intro w1 hown1 hgrow1)
        go_roundw
        case rel => exact ⟨j + 1, by omega, by go_num, Lib.hid (by rw [hst.out]; exact hown1), hF2, Ext.grown (Ext.alloc hE _) hgrow1 (fun j e => by cases e; exact Nat.le_refl _)⟩
        case measure => simp [intOf]; omega
      · have hvb : (v == 1) = false := by simpa using hv1
        clear hthick hv1
        go_wp2_with (at_mapUpdate; refine wpList_mapUpdate_own _ rfl _ _ _ 154 rfl 26 4 (Maps.int_keyed Tryz.underlying26) Tryz.underlying154 _ w.heap.size j _ rfl hm2 (by unfold maxLen; omega) _ _ _ rfl rfl (Maps.keyOf_int_mk Tryz.underlying26 hwf) _ [] (plainElem_bool Tryz.underlying4 true) ?_; intro w1 hown1 hgrow1)
        go_roundw
        case rel => exact ⟨j + 1, by omega, by go_num, Lib.hid (by rw [hst.out]; exact hown1), hF2, Ext.grown (Ext.alloc hE _) hgrow1 (fun j e => by cases e; exact Nat.le_refl _)⟩
        case measure => simp [intOf]; omega
    · obtain rfl : j = m := by omega
      have hfin : RowKit.Hid (r = true) := Lib.hid (by rw [hr.out, fine_all HQ.out.len hF.out])
      go_wp2_with (fail)
      go_ret
      exact ⟨ret_bool hfin.out.symm, hE⟩

end Go.Proofs.YtmonkcekkhfafaaGreatDoor.Prb

/- PrbBuild:
  What Build returns, and the records of a table by their keys. Conditions: the records are there; the package's table lies.
-/
namespace Go.Proofs.YtmonkcekkhfafaaGreatDoor.Prb
open Go.RowKit (Below intOf)
open Go.Sort (SWO)

theorem cfB_lt (x y : Rc) : decide (cfB x y < 0) = decide (mixed y.1 < mixed x.1) := by
  unfold cfB
  by_cases h1 : mixed y.1 < mixed x.1
  · simp [h1]
  · by_cases h2 : mixed x.1 < mixed y.1 <;> simp [h1, h2]
theorem swoB : SWO (ltOf fun x y : Uc => cfB x.1 y.1) where
  irrefl x := by unfold ltOf; rw [cfB_lt]; simp
  trans x y z h1 h2 := by unfold ltOf at *; rw [cfB_lt] at *; simp at *; omega
  ntrans x y z h1 h2 := by unfold ltOf at *; rw [cfB_lt] at *; simp at *; omega
theorem leB_of (x y : Rc) (h : ¬ (cfB y x < 0)) : leB x y = true := by
  have := cfB_lt y x
  rw [decide_eq_false h] at this
  unfold leB
  have := this.symm
  simp at this ⊢
  exact this
theorem cfK_lt (x y : Rc) : decide (cfK x y < 0) = decide (x.1 < y.1) := by
  unfold cfK
  by_cases h1 : x.1 < y.1
  · simp [h1]
  · by_cases h2 : y.1 < x.1 <;> simp [h1, h2]
theorem swoK : SWO (ltOf fun x y : Uc => cfK x.1 y.1) where
  irrefl x := by unfold ltOf; rw [cfK_lt]; simp
  trans x y z h1 h2 := by unfold ltOf at *; rw [cfK_lt] at *; simp at *; omega
  ntrans x y z h1 h2 := by unfold ltOf at *; rw [cfK_lt] at *; simp at *; omega
theorem leK_of (x y : Rc) (h : ¬ (cfK y x < 0)) : leK x y = true := by
  have := cfK_lt y x
  rw [decide_eq_false h] at this
  unfold leK
  have := this.symm
  simp at this ⊢
  exact this

theorem sortedB_any (s : Option Addr) (n c B : Nat) (l : List Rc) (w : World) (hT : Tab w) (hQ : QS w s n c l) (b0 : Boxed w B 55 (.slice s n c)) :
    Calls Tryz.prog 49 #[.func (.func 92) #[] #[.pointer (some ⟨B, 0, none⟩)], .func (.func 88) #[] #[]] w fun e w' => ∃ sl c' ys, e = .returned (.slice sl n c') ∧ QS w' sl n c' ys ∧ (ys.Perm l ∧ ys.Pairwise fun a b => leB a b = true) ∧ Fresh w.heap.size sl ∧ Ext w w' :=
  sorted_any 88 cfB leB leB_of swoB (enters_of Tryz.func88 (by kernel_rfl) rfl) (fun x y W hT hx hy => first_any x y W hT hx hy) s n c B l w hT hQ b0
theorem sortedK_any (s : Option Addr) (n c B : Nat) (l : List Rc) (w : World) (hT : Tab w) (hQ : QS w s n c l) (b0 : Boxed w B 55 (.slice s n c)) :
    Calls Tryz.prog 49 #[.func (.func 92) #[] #[.pointer (some ⟨B, 0, none⟩)], .func (.func 51) #[] #[]] w fun e w' => ∃ sl c' ys, e = .returned (.slice sl n c') ∧ QS w' sl n c' ys ∧ (ys.Perm l ∧ ys.Pairwise fun a b => leK a b = true) ∧ Fresh w.heap.size sl ∧ Ext w w' :=
  sorted_any 51 cfK leK leK_of swoK (enters_of Tryz.func51 (by kernel_rfl) rfl) (fun x y W _ _ _ => byKey_any x y W) s n c B l w hT hQ b0

set_option maxHeartbeats 1000000 in
theorem build_no (n v : Int) (s : Option Addr) (m c : Nat) (l : List Rc) (w : World) (hQ : QS w s m c l) (h : ¬ (1 ≤ n ∧ n ≤ 1024 ∧ (v = 1 ∨ v = 2)) ∨ mayS v l = false) :
    Calls Tryz.prog 47 #[.int .i64 n, .int .i64 v, .slice s m c] w (WE (buildS n v l) w) := by
  have hb := Lib.hid (build_arg (l := l) h)
  have HQ := Lib.hid hQ
  clear hQ
  by_cases h1 : okN n = true
  rotate_left
  · have h1' : okN n = false := by simpa using h1
    clear h h1
    go_enter Tryz.func47, Tryz.ntmps47
    go_wp2_with (go_at_call 46; refine (slots_any n _).mono ?_; rintro e w' ⟨rfl, rfl⟩)
    go_ret2
    exact WE.none hb.out (Ext.refl w)
  by_cases h2 : okW v = true
  rotate_left
  · have h2' : okW v = false := by simpa using h2
    clear h h2
    go_enter Tryz.func47, Tryz.ntmps47
    go_wp2_with (first
      | (go_at_call 46; refine (slots_any n _).mono ?_; rintro e w' ⟨rfl, rfl⟩)
      | (go_at_call 45; refine (width_any v _).mono ?_; rintro e w' ⟨rfl, rfl⟩))
    go_ret2
    exact WE.none hb.out (Ext.refl w)
  have h3 : RowKit.Hid (false = mayS v l) := Lib.hid (by
    rcases h with h | h
    · unfold okN at h1; unfold okW at h2; simp at h1 h2; exact absurd ⟨h1.1, h1.2, h2⟩ h
    · exact h.symm)
  clear h
  go_enter Tryz.func47, Tryz.ntmps47
  go_wp2_with (first
    | (go_at_call 46; refine (slots_any n _).mono ?_; rintro e w' ⟨rfl, rfl⟩)
    | (go_at_call 45; refine (width_any v _).mono ?_; rintro e w' ⟨rfl, rfl⟩)
    | (go_at_call 87; refine (may_any v s m c l false w HQ.out h3).mono ?_; rintro e w1 ⟨rfl, hE1⟩))
  go_ret2
  exact WE.none hb.out hE1

set_option maxRecDepth 100000 in
set_option maxHeartbeats 2000000 in
theorem build_yes (n v : Nat) (s : Option Addr) (m c : Nat) (l : List Rc) (w : World) (hT : Tab w) (hQ : QS w s m c l) (n1 : 1 ≤ n) (n2 : n ≤ 1024) (hv : Wd v) (hm : mayS v l = true) :
    Calls Tryz.prog 47 #[.int .i64 n, .int .i64 v, .slice s m c] w (WE (buildS n v l) w) := by
  have h1 : okN (n : Int) = true := by unfold okN; simp; omega
  have h2 : okW (v : Int) = true := by unfold okW; unfold Wd at hv; simp; omega
  have h3 : RowKit.Hid (true = mayS v l) := Lib.hid hm.symm
  have hlm := Lib.hid hQ.len
  have hmb := hQ.le
  have HQ := Lib.hid hQ
  have HV := Lib.hid hv
  have HT := Lib.hid hT
  by_cases hfull : n < m
  · have hb := Lib.hid (build_full (n := n) (v := v) (l := l) (by omega) (by omega) (by unfold Wd at hv; omega) hm (by rw [hQ.len]; omega))
    have hfb : (n : Int) < m := by omega
    clear hm hQ hv hT
    go_enter Tryz.func47, Tryz.ntmps47
    go_wp2_with (first
      | (go_at_call 46; refine (slots_any n _).mono ?_; rintro e w' ⟨rfl, rfl⟩)
      | (go_at_call 45; refine (width_any v _).mono ?_; rintro e w' ⟨rfl, rfl⟩)
      | (go_at_call 87; refine (may_any v s m c l true w HQ.out h3).mono ?_; rintro e w1 ⟨rfl, hE1⟩))
    go_ret2
    exact WE.none hb.out hE1
  · have hb := Lib.hid (build_ok (n := n) (v := v) (l := l) n1 n2 hv hm (by rw [hQ.len]; omega))
    have hgt := Lib.hid (may_good hQ.range hm)
    have hfb : ¬ (n : Int) < m := by omega
    obtain ⟨M, hM⟩ : ∃ M, M = n * v := ⟨_, rfl⟩
    have HM := Lib.hid hM
    have hM2 : M ≤ 2048 := by rw [hM]; rcases hv with rfl | rfl <;> omega
    have hmul : (n : Int) * v = M := by rw [hM]; exact (Int.natCast_mul n v).symm
    have hmk := fun W => make_words M (by omega) W
    clear hm hQ hv hT hM
    go_enter Tryz.func47, Tryz.ntmps47
    go_wp2_with (first
      | (go_at_call 46; refine (slots_any n _).mono ?_; rintro e w' ⟨rfl, rfl⟩)
      | (go_at_call 45; refine (width_any v _).mono ?_; rintro e w' ⟨rfl, rfl⟩)
      | (go_at_call 87; refine (may_any v s m c l true w HQ.out h3).mono ?_; rintro e w1 ⟨rfl, hE1⟩)
      | (go_at_call 50; refine (values_any s m c _).mono ?_; rintro e w' ⟨rfl, rfl⟩))
    clear hmk
    obtain ⟨g, hg⟩ : ∃ g, w1.heap.size = g := ⟨_, rfl⟩
    have hrow0 := zeros_row M w1
    obtain ⟨W2, hW2⟩ : ∃ W2, w1.alloc (.cells (zeros M) 26) = W2 := ⟨_, rfl⟩
    have hEA : Ext w1 W2 := by rw [← hW2]; exact Ext.new _ _
    have hsz2 : W2.heap.size = g + 1 := by rw [← hW2, ← hg]; simp
    rw [hW2] at hrow0
    rw [hg] at hrow0
    have b0 : Boxed (W2.alloc (.cells #[.slice s m c] 55)) W2.heap.size 55 (.slice s m c) := Boxed.new _ _ _
    have hE2 := (hE1.trans hEA).trans (Ext.new W2 (.cells #[.slice s m c] 55))
    have hSo := Lib.hid (sortedB_any s m c W2.heap.size l _ (HT.out.ext hE2) (HQ.out.ext hE2) b0)
    have HR2 := Lib.hid (hrow0.ext (Ext.new W2 (.cells #[.slice s m c] 55)))
    have hg1 : w.heap.size ≤ g := by rw [← hg]; exact hE1.size
    have hg0 : g ≠ 1 := by have := HT.out.size; omega
    have hgg := hg
    rw [hsz2] at hSo
    rw [hW2, hg]
    clear b0 hrow0 hgg hg hW2 hEA
    refine hSo.out.mono ?_
    rintro e W4 ⟨sy, cy, ys, rfl, hY, hp, hFr, hE4⟩
    have hsort : RowKit.Hid (ys = sortB l) := Lib.hid (sortB_one hgt.out.1 hp.1 hp.2)
    have HY := Lib.hid hY
    have hsz4 := hE4.size
    have HF : RowKit.Hid (∀ b o, sy = some ⟨b, o, none⟩ → b ≠ g) := Lib.hid (fun b o e => by have := hFr b o e; simp at this; omega)
    have hE5 := hE2.trans hE4
    have HT4 := Lib.hid (HT.out.ext hE5)
    have HR4 := Lib.hid (HR2.out.ext hE4)
    clear hp hFr hY hSo HR2 hE2 hE4 hE1
    go_wp2_with (fail)
    go_loopw [37] (fun i wr => ∃ (k : Nat) (cur : List Rc), k ≤ m ∧ i = .int .i64 k ∧ Below w.heap.size w wr ∧ RowKit.Hid (QS wr sy m cy ys ∧ Tab wr) ∧ RowKit.Hid (RowW wr g (flatW v cur) ∧ cur = (ys.take k).foldl layS (List.replicate n (0, 0)) ∧ cur.length = n ∧ Thin v cur)) (fun i _ => m - (intOf i).toNat)
    case atStart => exact ⟨0, List.replicate n (0, 0), by omega, rfl, hE5, Lib.hid ⟨HY.out, HT4.out⟩, Lib.hid ⟨by
      have := HR4.out
      rcases HV.out with rfl | rfl
      · rwa [flat_zeros1, ← HM.out]
      · rwa [flat_zeros2, ← HM.out], rfl, by simp, fun _ r hr => by rw [List.eq_of_mem_replicate hr]⟩⟩
    case round =>
      obtain ⟨k, cur, hk, rfl, hE, hYr, hin⟩ := hrel
      by_cases hlt : k < m
      · obtain ⟨p, x, hx, up, ux, ba, oa, rfl, e0, e1⟩ := hYr.out.1.get hlt
        have hkm : (k : Int) < m := by omega
        have HX := Lib.hid hx
        have hmem : RowKit.Hid ((p, x) ∈ l) := Lib.hid (by have := List.mem_of_getElem? hx; rw [hsort.out] at this; exact (sortB_perm l).mem_iff.1 this)
        clear hx
        go_wp2_with (fail)
        refine (lay_any g n M v cur p x _ (hYr.out.2.ext (Ext.new wr _)) HV.out (hin.out.1.ext (Ext.new wr _)) hin.out.2.2.1 HM.out hin.out.2.2.2 n1 n2 ⟨up, ux⟩).mono ?_
        rintro e w6 ⟨rfl, hrow6, hgr6⟩
        have hq6 : RowKit.Hid (QS w6 (some ⟨ba, oa, none⟩) m cy ys ∧ Tab w6) := Lib.hid ⟨(hYr.out.1.ext (Ext.new wr _)).grown hgr6 HF.out, tab_grown (hYr.out.2.ext (Ext.new wr _)) hgr6 hg0⟩
        have hin6 : RowKit.Hid (RowW w6 g (flatW v (layS cur (p, x))) ∧ layS cur (p, x) = (ys.take (k + 1)).foldl layS (List.replicate n (0, 0)) ∧ (layS cur (p, x)).length = n ∧ Thin v (layS cur (p, x))) := Lib.hid ⟨hrow6, by
          rw [take_snoc HX.out, List.foldl_append, ← hin.out.2.1]; rfl, by rw [layS_len]; exact hin.out.2.2.1, fun e r hr => by
          unfold layS at hr
          split at hr
          · rcases List.mem_or_eq_of_mem_set hr with hr | rfl
            · exact hin.out.2.2.2 e r hr
            · exact hgt.out.2 e _ hmem.out
          · exact hin.out.2.2.2 e r hr⟩
        have hE6 : Below w.heap.size w w6 := Ext.grown (Ext.alloc hE _) hgr6 (fun j e => by cases e; exact hg1)
        clear hrow6 hgr6
        go_wp2_with (fail)
        go_roundw
        case rel => exact ⟨k + 1, _, by omega, by go_num, hE6, hq6, hin6⟩
        case measure => simp [intOf]; omega
      · obtain rfl : k = m := by omega
        go_wp2_with (fail)
        go_ret2
        have h2 := hin.out.2.1
        rw [List.take_of_length_le (by rw [hYr.out.1.len]; omega), hsort.out] at h2
        have h3 := hin.out.1
        have h4 : cur = tableOf n l := h2
        rw [h4] at h3
        have h5 := hin.out.2.2.1
        rw [h4] at h5
        exact WE.some hb.out hE (h3.ws (by rw [flatW_len HV.out, h5, HM.out]) (by omega) (Nat.le_refl _) (by omega))

/-- Build. -/
theorem build_any (n v : Int) (s : Option Addr) (m c : Nat) (l : List Rc) (w : World) (hT : Tab w) (hQ : QS w s m c l) :
    Calls Tryz.prog 47 #[.int .i64 n, .int .i64 v, .slice s m c] w (WE (buildS n v l) w) := by
  by_cases h : 1 ≤ n ∧ n ≤ 1024 ∧ (v = 1 ∨ v = 2)
  · by_cases hm : mayS v l = true
    · obtain ⟨k, rfl⟩ : ∃ k : Nat, n = k := ⟨n.toNat, by omega⟩
      obtain ⟨u, rfl⟩ : ∃ u : Nat, v = u := ⟨v.toNat, by omega⟩
      exact build_yes k u s m c l w hT hQ (by omega) (by omega) (by unfold Wd; omega) hm
    · exact build_no n v s m c l w hQ (.inr (by simpa using hm))
  · exact build_no n v s m c l w hQ (.inl h)

end Go.Proofs.YtmonkcekkhfafaaGreatDoor.Prb

/- PrbRefPut:
  What the document's own Put and Del return. Conditions: the words are there; the integers' bounds.
-/
namespace Go.Proofs.YtmonkcekkhfafaaGreatDoor.Prb
open Go.RowKit (Below intOf)

end Go.Proofs.YtmonkcekkhfafaaGreatDoor.Prb

/- PrbRight:
  What Right, Find, List and slices.Clone return. Conditions: the words are there; the integers' bounds; the package's table lies.
-/
namespace Go.Proofs.YtmonkcekkhfafaaGreatDoor.Prb
open Go.RowKit (Below intOf)

theorem progRight_eq {v : Nat} (hv : Wd v) {t : List Rc} {N : Nat} (hN : t.length = N) (h1 : 1 ≤ N) (h2 : N ≤ 1024) (ht : Thin v t) (hr : ∀ r ∈ t, Ur r) :
    rightT t = (decide ((buildS N v (recs t)).2 = 0) && decide ((buildS N v (recs t)).1 = flatW v t)) := by
  subst hN
  rw [← right_prog hv ht hr]
  by_cases hm : mayS v (recs t) = true
  · rw [build_ok h1 h2 hv hm (recs_le t), hm]; simp
  · have hm' : mayS v (recs t) = false := by simpa using hm
    rw [build_arg (.inr hm'), hm']; simp

set_option maxHeartbeats 1000000 in
theorem right_width (s : Option Addr) (m c : Nat) (xs : List Int) (v : Int) (w : World) (h : ¬ (v = 1 ∨ v = 2)) :
    Calls Tryz.prog 23 #[.slice s m c, .int .i64 v] w fun e w' => e = .returned (.bool (rightS xs v)) ∧ Ext w w' := by
  have h2 : okW v = false := by unfold okW; exact decide_eq_false h
  have hr : RowKit.Hid (rightS xs v = false) := Lib.hid (by unfold rightS; rw [decide_eq_false (fun hs => h hs.1)]; rfl)
  clear h
  go_enter Tryz.func23, Tryz.ntmps23
  go_wp2_with (go_at_call 45; refine (width_any v _).mono ?_; rintro e w' ⟨rfl, rfl⟩)
  go_ret
  exact ⟨ret_bool hr.out.symm, Ext.refl w⟩

set_option maxRecDepth 100000 in
set_option maxHeartbeats 2000000 in
theorem right_1 (s : Option Addr) (N c : Nat) (xs : List Int) (t : List Rc) (r : Bool) (w : World) (hT : Tab w) (hS : WS w s N c xs) (hx : xs = flatW 1 t) (hN : t.length = N) (ht : Thin 1 t) (n1 : 1 ≤ N) (n2 : N ≤ 1024) (hrg : ∀ r ∈ t, Ur r) (hr : RowKit.Hid (r = rightT t)) :
    Calls Tryz.prog 23 #[.slice s N c, .int .i64 1] w fun e w' => e = .returned (.bool r) ∧ Ext w w' := by
  have hm := hS.le
  have h1 : okN (N : Int) = true := by unfold okN; simp; omega
  have h2 : okW (1 : Int) = true := rfl
  have hfin0 := Lib.hid (progRight_eq (v := 1) (by unfold Wd; omega) hN n1 n2 ht hrg)
  have HT := Lib.hid hT
  have HS := Lib.hid hS
  have Hx := Lib.hid hx
  have hwN : IntKind.i64.wrap (N : Int) = N := IntWalk.i64_in _ (by omega)
  have hwN2 : RowKit.wrap64 (N : Int) = N := by rw [← hwN]; first | rfl | (unfold RowKit.wrap64; omega)
  have HR : RowKit.Hid (∀ W, Ext w W → Calls Tryz.prog 48 #[.slice s N c, .int .i64 1] W fun e w' => ∃ sl c', e = .returned (.slice sl (recs t).length c') ∧ QS w' sl (recs t).length c' (recs t) ∧ Ext W w') := Lib.hid (fun W hW =>
    (recs_any s N c 1 t W (by unfold Wd; omega) (by have := hS.ext hW; rwa [hx] at this) ht (by omega) (by omega)).mono fun e w' ⟨u, he, hrow, hE⟩ => by
      obtain ⟨sl, c', rfl⟩ := own_form hrow
      exact ⟨sl, c', he, qs_of_own hrow rfl (by have := recs_le t; omega) (recs_rng hrg), hE⟩)
  clear hT hS hx ht hN hrg
  go_enter Tryz.func23, Tryz.ntmps23
  go_wp2_with (first
    | (go_at_call 45; refine (width_any _ _).mono ?_; rintro e w' ⟨rfl, rfl⟩)
    | (go_at_call 46; refine (slots_any _ _).mono ?_; rintro e w' ⟨rfl, rfl⟩))
  go_region_held3 (fun w' => Ext w w')
    (first
      | exact x2
      | exact x1
      | exact Ext.drew (Ext.refl w)
      | go_keep)
    (first
      | (go_at_call 48; refine (HR.out _ (Ext.drew (Ext.refl w))).mono ?_; rintro e w1 ⟨sl, c', rfl, hQ, hE1⟩; have x1 : Ext w w1 := (Ext.drew (Ext.refl w)).trans hE1)
      | (go_at_call 47; refine (build_any N 1 sl _ c' (recs t) w1 (HT.out.ext x1) hQ).mono ?_; rintro e w2 ⟨hE2, sb, nb, cb, rfl, hB⟩; have x2 : Ext w w2 := x1.trans hE2))
  rename_i hh
  clear hh
  have hfin : RowKit.Hid (r = (decide ((buildS N 1 (recs t)).2 = 0) && decide ((buildS N 1 (recs t)).1 = xs))) := Lib.hid (by rw [hr.out, Hx.out]; exact hfin0.out)
  have HE := Lib.hid x2
  have HB := Lib.hid hB
  obtain ⟨pr, hp⟩ : ∃ pr, RowKit.Hid (buildS N 1 (recs t) = pr) := ⟨_, Lib.hid rfl⟩
  rw [hp.out] at hfin HB ⊢
  obtain ⟨ws, er⟩ := pr
  dsimp only at hfin HB ⊢
  clear hE1 hE2 hB hQ x1 x2 hfin0
  by_cases he : er = 0
  · subst he
    go_wp2_with (fail)
    refine (equal_any sb s nb N cb c ws xs (decide (ws = xs)) w2 HB.out (HS.out.ext HE.out) (Lib.hid rfl)).mono ?_
    rintro e w3 ⟨rfl, q, rfl⟩
    go_wp2_with (fail)
    go_ret
    exact ⟨ret_bool (by rw [hfin.out]; simp), HE.out.drewN q⟩
  · have heb : (er == 0) = false := by simpa using he
    have Hf2 : RowKit.Hid (r = false) := Lib.hid (by rw [hfin.out]; simp [he])
    clear he
    go_wp2_with (fail)
    go_ret
    exact ⟨ret_bool Hf2.out.symm, HE.out⟩

set_option maxRecDepth 100000 in
set_option maxHeartbeats 2000000 in
theorem right_2 (s : Option Addr) (N m c : Nat) (xs : List Int) (t : List Rc) (r : Bool) (w : World) (hT : Tab w) (hS : WS w s m c xs) (hx : xs = flatW 2 t) (hN : t.length = N) (hM : m = N * 2) (ht : Thin 2 t) (n1 : 1 ≤ N) (n2 : N ≤ 1024) (hrg : ∀ r ∈ t, Ur r) (hr : RowKit.Hid (r = rightT t)) :
    Calls Tryz.prog 23 #[.slice s m c, .int .i64 2] w fun e w' => e = .returned (.bool r) ∧ Ext w w' := by
  have hm := hS.le
  have hdv : (m : Int).tdiv 2 = N := by rw [quo_2]; omega
  have hrm : (m : Int).tmod 2 = 0 := by rw [rem_2]; omega
  have hNb : N ≤ 1048576 := by omega
  clear hM
  have h1 : okN (N : Int) = true := by unfold okN; simp; omega
  have h2 : okW (2 : Int) = true := rfl
  have hfin0 := Lib.hid (progRight_eq (v := 2) (by unfold Wd; omega) hN n1 n2 ht hrg)
  have HT := Lib.hid hT
  have HS := Lib.hid hS
  have Hx := Lib.hid hx
  have hwN : IntKind.i64.wrap (N : Int) = N := IntWalk.i64_in _ (by omega)
  have hwN2 : RowKit.wrap64 (N : Int) = N := by rw [← hwN]; first | rfl | (unfold RowKit.wrap64; omega)
  have HR : RowKit.Hid (∀ W, Ext w W → Calls Tryz.prog 48 #[.slice s m c, .int .i64 2] W fun e w' => ∃ sl c', e = .returned (.slice sl (recs t).length c') ∧ QS w' sl (recs t).length c' (recs t) ∧ Ext W w') := Lib.hid (fun W hW =>
    (recs_any s m c 2 t W (by unfold Wd; omega) (by have := hS.ext hW; rwa [hx] at this) ht (by omega) (by omega)).mono fun e w' ⟨u, he, hrow, hE⟩ => by
      obtain ⟨sl, c', rfl⟩ := own_form hrow
      exact ⟨sl, c', he, qs_of_own hrow rfl (by have := recs_le t; omega) (recs_rng hrg), hE⟩)
  clear hT hS hx ht hN hrg
  go_enter Tryz.func23, Tryz.ntmps23
  go_wp2_with (first
    | (go_at_call 45; refine (width_any _ _).mono ?_; rintro e w' ⟨rfl, rfl⟩)
    | (go_at_call 46; refine (slots_any _ _).mono ?_; rintro e w' ⟨rfl, rfl⟩))
  go_region_held3 (fun w' => Ext w w')
    (first
      | exact x2
      | exact x1
      | exact Ext.drew (Ext.refl w)
      | go_keep)
    (first
      | (go_at_call 48; refine (HR.out _ (Ext.drew (Ext.refl w))).mono ?_; rintro e w1 ⟨sl, c', rfl, hQ, hE1⟩; have x1 : Ext w w1 := (Ext.drew (Ext.refl w)).trans hE1)
      | (go_at_call 47; refine (build_any N 2 sl _ c' (recs t) w1 (HT.out.ext x1) hQ).mono ?_; rintro e w2 ⟨hE2, sb, nb, cb, rfl, hB⟩; have x2 : Ext w w2 := x1.trans hE2))
  rename_i hh
  clear hh
  have hfin : RowKit.Hid (r = (decide ((buildS N 2 (recs t)).2 = 0) && decide ((buildS N 2 (recs t)).1 = xs))) := Lib.hid (by rw [hr.out, Hx.out]; exact hfin0.out)
  have HE := Lib.hid x2
  have HB := Lib.hid hB
  obtain ⟨pr, hp⟩ : ∃ pr, RowKit.Hid (buildS N 2 (recs t) = pr) := ⟨_, Lib.hid rfl⟩
  rw [hp.out] at hfin HB ⊢
  obtain ⟨ws, er⟩ := pr
  dsimp only at hfin HB ⊢
  clear hE1 hE2 hB hQ x1 x2 hfin0
  by_cases he : er = 0
  · subst he
    go_wp2_with (fail)
    refine (equal_any sb s nb m cb c ws xs (decide (ws = xs)) w2 HB.out (HS.out.ext HE.out) (Lib.hid rfl)).mono ?_
    rintro e w3 ⟨rfl, q, rfl⟩
    go_wp2_with (fail)
    go_ret
    exact ⟨ret_bool (by rw [hfin.out]; simp), HE.out.drewN q⟩
  · have heb : (er == 0) = false := by simpa using he
    have Hf2 : RowKit.Hid (r = false) := Lib.hid (by rw [hfin.out]; simp [he])
    clear he
    go_wp2_with (fail)
    go_ret
    exact ⟨ret_bool Hf2.out.symm, HE.out⟩

set_option maxHeartbeats 1000000 in
theorem right_shape (s : Option Addr) (m c : Nat) (xs : List Int) (v : Int) (w : World) (hS : WS w s m c xs) (hv : v = 1 ∨ v = 2) (h : ¬ Shape xs v) :
    Calls Tryz.prog 23 #[.slice s m c, .int .i64 v] w fun e w' => e = .returned (.bool (rightS xs v)) ∧ Ext w w' := by
  have hr : RowKit.Hid (rightS xs v = false) := Lib.hid (by unfold rightS; rw [decide_eq_false h]; rfl)
  have hm := hS.le
  have hl := hS.len
  unfold Shape at h
  rw [hl] at h
  clear hS hl
  rcases hv with rfl | rfl
  · have h1 : okN (m : Int) = false := by unfold okN; refine decide_eq_false ?_; simp at h; omega
    have h2 : okW (1 : Int) = true := rfl
    clear h
    go_enter Tryz.func23, Tryz.ntmps23
    go_wp2_with (first
      | (go_at_call 45; refine (width_any _ _).mono ?_; rintro e w' ⟨rfl, rfl⟩)
      | (go_at_call 46; refine (slots_any _ _).mono ?_; rintro e w' ⟨rfl, rfl⟩))
    go_ret
    exact ⟨ret_bool hr.out.symm, Ext.refl w⟩
  · have h2 : okW (2 : Int) = true := rfl
    have q := quo_2 m
    have rr := rem_2 m
    by_cases b0 : m % 2 = 0
    · rw [b0] at rr
      obtain ⟨k, hk⟩ : ∃ k, m / 2 = k := ⟨_, rfl⟩
      have hkb : k ≤ 1048576 := by omega
      rw [hk] at q
      have h1 : okN (k : Int) = false := by unfold okN; refine decide_eq_false ?_; simp at h; omega
      clear h hk b0
      go_enter Tryz.func23, Tryz.ntmps23
      go_wp2_with (first
        | (go_at_call 45; refine (width_any _ _).mono ?_; rintro e w' ⟨rfl, rfl⟩)
        | (go_at_call 46; refine (slots_any _ _).mono ?_; rintro e w' ⟨rfl, rfl⟩))
      go_ret
      exact ⟨ret_bool hr.out.symm, Ext.refl w⟩
    · have b1 : m % 2 = 1 := by omega
      rw [b1] at rr
      clear h b0
      go_enter Tryz.func23, Tryz.ntmps23
      go_wp2_with (go_at_call 45; refine (width_any _ _).mono ?_; rintro e w' ⟨rfl, rfl⟩)
      go_ret
      exact ⟨ret_bool hr.out.symm, Ext.refl w⟩

/-- Right. -/
theorem right_any (s : Option Addr) (m c : Nat) (xs : List Int) (v : Int) (r : Bool) (w : World) (hT : Tab w) (hS : WS w s m c xs) (hr : RowKit.Hid (r = rightS xs v)) :
    Calls Tryz.prog 23 #[.slice s m c, .int .i64 v] w fun e w' => e = .returned (.bool r) ∧ Ext w w' := by
  by_cases hv : v = 1 ∨ v = 2
  · rcases right_or (v := v) hS with ⟨h1, h2⟩ | ⟨u, rfl, hu, hsh, hx, ht, hl, h1, h2, hrg, hrt⟩
    · rw [hr.out]; exact right_shape s m c xs v w hS hv h1
    · have hr2 : RowKit.Hid (r = rightT (slotsW u xs)) := Lib.hid (by rw [hr.out, hrt])
      have hm : m = (slotsW u xs).length * u := by rw [← hS.len, ← flatW_len hu, ← hx]
      rw [← hl] at h1 h2
      rcases hu with rfl | rfl
      · have hm2 : m = (slotsW 1 xs).length := by omega
        rw [← hm2] at h1 h2
        exact right_1 s m c xs _ r w hT hS hx hm2.symm ht h1 h2 hrg hr2
      · exact right_2 s _ m c xs _ r w hT hS hx rfl hm ht h1 h2 hrg hr2
  · rw [hr.out]; exact right_width s m c xs v w hv

set_option maxHeartbeats 1000000 in
/-- List. -/
theorem list_any (s : Option Addr) (m c : Nat) (xs : List Int) (v : Int) (w : World) (hT : Tab w) (hS : WS w s m c xs) :
    Calls Tryz.prog 24 #[.slice s m c, .int .i64 v] w fun e w' => (∃ sl k c', e = .returned (.slice sl k c') ∧ QS w' sl k c' (listS xs v)) ∧ Ext w w' := by
  have HS := Lib.hid hS
  have HT := Lib.hid hT
  by_cases hr : rightS xs v = true
  · obtain ⟨u, rfl, hTb⟩ := tb_of_right hS.u64 hr
    have hI := hTb.slots
    have hlist : RowKit.Hid (∀ ys : List Rc, ys.Perm (recs (slotsW u xs)) → ys.Pairwise (fun a b => leK a b = true) → ys = listS xs u) := Lib.hid (fun ys h1 h2 => by
      rw [hTb.list]; exact sortK_one hTb.good.one h1 h2)
    have hxe : xs = flatW u (slotsW u xs) := by
      obtain ⟨t, hI2, e⟩ := hTb.is
      have ht2 := hI2.thin hTb.thin
      conv => rhs; rw [e, slots_flat hTb.wd ht2]
      exact e
    have hN : (slotsW u xs).length = xs.length / u := hI.len
    have n1 := hTb.n1
    have n2 := hTb.n2
    rw [← hN] at n1 n2
    have hso : RowKit.Hid (∀ W, Ext w W → Calls Tryz.prog 48 #[.slice s m c, .int .i64 u] W fun e w' => ∃ sl k c', e = .returned (.slice sl k c') ∧ QS w' sl k c' (recs (slotsW u xs)) ∧ Ext W w') := Lib.hid (fun W hW =>
      (recs_any s m c u _ W hTb.wd (by have := hS.ext hW; rwa [hxe] at this) (slotsW_thin _ _) n1 n2).mono fun e w' ⟨x, he, hrow, hE⟩ => by
        obtain ⟨sl, c', rfl⟩ := own_form hrow
        exact ⟨sl, _, c', he, qs_of_own hrow rfl (by have := recs_le (slotsW u xs); omega) (recs_rng (slotsW_rng hS.u64)), hE⟩)
    have Hr := Lib.hid hr
    clear hS hT hr hTb hI hxe n1 n2 hN
    go_enter Tryz.func24, Tryz.ntmps24
    go_wp2_with (fail)
    refine (right_any s m c xs u true w HT.out HS.out (Lib.hid Hr.out.symm)).mono ?_
    rintro e w1 ⟨rfl, hE1⟩
    go_wp2_with (fail)
    refine (hso.out w1 hE1).mono ?_
    rintro e w2 ⟨sl, k, c', rfl, hQ, hE2⟩
    go_wp2_with (go_at_call 50; refine (values_any sl k c' _).mono ?_; rintro e w' ⟨rfl, rfl⟩)
    have hE3 := (hE1.trans hE2).trans (Ext.new w2 (.cells #[.slice sl k c'] 55))
    refine (sortedK_any sl k c' w2.heap.size _ _ (HT.out.ext hE3) (hQ.ext (Ext.new w2 _)) (Boxed.new _ _ _)).mono ?_
    rintro e w4 ⟨s4, c4, ys, rfl, hQ4, hp, _, hE4⟩
    have hfin : RowKit.Hid (QS w4 s4 k c4 (listS xs u)) := Lib.hid (by rw [← hlist.out ys hp.1 hp.2]; exact hQ4)
    clear hQ4 hp hQ
    go_wp2_with (fail)
    go_ret
    exact ⟨⟨s4, k, c4, rfl, hfin.out⟩, hE3.trans hE4⟩
  · have hr' : rightS xs v = false := by simpa using hr
    have hl : RowKit.Hid (listS xs v = []) := Lib.hid (by unfold listS; rw [if_neg hr])
    have Hr := Lib.hid hr'
    clear hr hr' hS hT
    go_enter Tryz.func24, Tryz.ntmps24
    go_wp2_with (fail)
    refine (right_any s m c xs v false w HT.out HS.out (Lib.hid Hr.out.symm)).mono ?_
    rintro e w1 ⟨rfl, hE1⟩
    go_wp2_with (fail)
    go_ret
    exact ⟨⟨none, 0, 0, rfl, by rw [hl.out]; exact QS.empty _ _ _ (by omega)⟩, hE1⟩

end Go.Proofs.YtmonkcekkhfafaaGreatDoor.Prb

