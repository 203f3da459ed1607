/-
  What Right, Find, List and slices.Clone return. Conditions: the words are there; the integers' bounds; the package's table lies.
-/
import Derived.Test.YtbpgnnogpcppdaaDoorBuild
import Derived.Test.YtbpgnnogpcppdaaDoorRefPut
import Derived.Lib.SliceRun
namespace Go.Proofs.YtbpgnnogpcppdaaDoor
open Go.RowKit (Below intOf)

theorem progRight_eq {v : Nat} (hv : Wd v) {t : List Rc} {N : Nat} (hN : t.length = N) (h1 : 1 ≤ N) (h2 : N ≤ 1024) (ht : Thin v t) (hr : ∀ r ∈ t, Ur r) :
    rightT t = (decide ((buildS N v (recs t)).2 = 0) && decide ((buildS N v (recs t)).1 = flatW v t)) := by
  subst hN
  rw [← right_prog hv ht hr]
  by_cases hm : mayS v (recs t) = true
  · rw [build_ok h1 h2 hv hm (recs_le t), hm]; simp
  · have hm' : mayS v (recs t) = false := by simpa using hm
    rw [build_arg (.inr hm'), hm']; simp

/-- What lies in a row of words of one's own is read. -/
theorem ws_of_own {w : World} {base n c : Nat} {v : Option Addr} {xs : List Int} (h : w.ownsRow base 24 1 (.slice v n c) n (xs.map (Value.int .u64))) (hn : xs.length = n) (hle : n ≤ 1048576) (hr : ∀ x ∈ xs, U64 x) : WS w v n c xs := by
  rcases h.2 with ⟨e, hz⟩ | ⟨g, cap, cur, e, _, hb, hnc, hcm, _, ht⟩
  · cases e
    have : xs = [] := List.eq_nil_of_length_eq_zero hn
    subst this
    exact WS.empty _ _ _ (by omega)
  · cases e
    refine ⟨hn, hle, hnc, by have := hcm; simp [maxLen] at this; omega, fun j x hj => ⟨hr x (List.mem_of_getElem? hj), g, 0, rfl, ?_⟩⟩
    have hjl : j < xs.length := (List.getElem?_eq_some_iff.1 hj).1
    have get : cur[j]? = (xs.map (Value.int .u64))[j]? := by
      rw [← ht, List.getElem?_take, if_pos (by omega)]; simp
    rw [List.getElem?_map, hj] at get
    simp only [World.cell?, hb]
    simpa using get

set_option maxRecDepth 100000 in
set_option maxHeartbeats 1000000 in
/-- slices.Clone. -/
theorem clone_any (s : Option Addr) (m c : Nat) (xs : List Int) (w : World) (hS : WS w s m c xs) :
    Calls Tryd.prog 37 #[.slice s m c] w fun e w' => (∃ sl c', e = .returned (.slice sl m c') ∧ WS w' sl m c' xs) ∧ Ext w w' := by
  have q23 : ∀ (w : World) (a : Option Addr) (n c n' c' : Nat), (binOp .eql 23 (.slice a n c) (.slice none n' c')).run Tryd.prog w = .ok (.bool a.isNone) w := fun w a n c n' c' => Lib.run_eql_slice_nil w _ _ a n c n' c' Tryd.underlying23
  cases s with
  | none =>
    have hm : m = 0 := by
      rcases Nat.eq_zero_or_pos m with h | h
      · exact h
      · obtain ⟨b, o, e⟩ := hS.addr h; cases e
    subst hm
    have : xs = [] := List.eq_nil_of_length_eq_zero hS.len
    subst this
    clear hS
    go_enter Tryd.func37, Tryd.ntmps37
    go_wp2
    go_ret
    exact ⟨⟨_, _, rfl, WS.empty _ _ _ (by omega)⟩, Ext.refl w⟩
  | some ad =>
    have hcells : RowKit.Hid (∀ j u, (xs.map (Value.int .u64))[j]? = some u → w.cell? (ad.add j) = some u) := Lib.hid (fun j u hu => by
      rw [List.getElem?_map] at hu
      obtain ⟨x, hx, rfl⟩ := Option.map_eq_some_iff.1 hu
      obtain ⟨_, b, o, e, hc⟩ := hS.2.2.2.2 j x hx
      cases e
      rw [add_is]; exact hc)
    have hlen := Lib.hid hS.len
    have hle := hS.le
    have hu := Lib.hid hS.u64
    obtain ⟨i0, hi, hz0, hz1, hz2⟩ := info_parts info24
    clear hS
    go_enter Tryd.func37, Tryd.ntmps37
    go_wp2_with (at_builtin; refine wpList_append_own _ rfl _ _ 23 rfl w.heap.size 24 i0 (.int .u64 0) 1 8 Tryd.underlying23 hi hz0 hz1 hz2 rfl (by decide) _ _ _ rfl (World.ownsRow_made w #[] 0 (Nat.le_refl _) (Nat.zero_le _) (by simp)) ad m c (xs.map (Value.int .u64)) rfl ?qc1 ?qc2 ?qc3 ?qc4 ?qc5 ?qc6 ?_)
    case qc1 => rw [List.length_map, hlen.out]; omega
    case qc2 =>
      intro j u hj
      exact Lib.cell?_alloc_some _ (hcells.out j u hj)
    case qc3 => intro v hv; obtain ⟨x, _, rfl⟩ := List.mem_map.1 hv; rfl
    case qc4 => unfold maxLen; omega
    case qc5 => omega
    case qc6 => simp
    intro v' w1 hown hgrow _
    obtain ⟨sl, c', rfl⟩ := own_form hown
    go_wp2
    go_ret
    exact ⟨⟨sl, c', rfl, ws_of_own hown hlen.out hle hu.out⟩, Ext.grown (Ext.new w _) hgrow (fun k e => by simp [Value.ownBlock] at e; omega)⟩

set_option maxHeartbeats 1000000 in
theorem right_width (s : Option Addr) (m c : Nat) (xs : List Int) (v : Int) (w : World) (h : ¬ (v = 1 ∨ v = 2)) :
    Calls Tryd.prog 11 #[.slice s m c, .int .i64 v] w fun e w' => e = .returned (.bool (rightS xs v)) ∧ Ext w w' := by
  have h2 : okW v = false := by unfold okW; exact decide_eq_false h
  have hr : RowKit.Hid (rightS xs v = false) := Lib.hid (by unfold rightS; rw [decide_eq_false (fun hs => h hs.1)]; rfl)
  clear h
  go_enter Tryd.func11, Tryd.ntmps11
  go_wp2_with (go_at_call 26; refine (width_any v _).mono ?_; rintro e w' ⟨rfl, rfl⟩)
  go_ret
  exact ⟨ret_bool hr.out.symm, Ext.refl w⟩

set_option maxRecDepth 100000 in
set_option maxHeartbeats 2000000 in
theorem right_1 (s : Option Addr) (N c : Nat) (xs : List Int) (t : List Rc) (r : Bool) (w : World) (hT : Tab w) (hS : WS w s N c xs) (hx : xs = flatW 1 t) (hN : t.length = N) (ht : Thin 1 t) (n1 : 1 ≤ N) (n2 : N ≤ 1024) (hrg : ∀ r ∈ t, Ur r) (hr : RowKit.Hid (r = rightT t)) :
    Calls Tryd.prog 11 #[.slice s N c, .int .i64 1] w fun e w' => e = .returned (.bool r) ∧ Ext w w' := by
  have hm := hS.le
  have h1 : okN (N : Int) = true := by unfold okN; simp; omega
  have h2 : okW (1 : Int) = true := rfl
  have hfin0 := Lib.hid (progRight_eq (v := 1) (by unfold Wd; omega) hN n1 n2 ht hrg)
  have HT := Lib.hid hT
  have HS := Lib.hid hS
  have Hx := Lib.hid hx
  have hwN : IntKind.i64.wrap (N : Int) = N := IntWalk.i64_in _ (by omega)
  have hwN2 : RowKit.wrap64 (N : Int) = N := by rw [← hwN]; first | rfl | (unfold RowKit.wrap64; omega)
  have HR : RowKit.Hid (∀ W, Ext w W → Calls Tryd.prog 28 #[.slice s N c, .int .i64 1] W fun e w' => ∃ sl c', e = .returned (.slice sl (recs t).length c') ∧ QS w' sl (recs t).length c' (recs t) ∧ Ext W w') := Lib.hid (fun W hW =>
    (recs_any s N c 1 t W (by unfold Wd; omega) (by have := hS.ext hW; rwa [hx] at this) ht (by omega) (by omega)).mono fun e w' ⟨u, he, hrow, hE⟩ => by
      obtain ⟨sl, c', rfl⟩ := own_form hrow
      exact ⟨sl, c', he, qs_of_own hrow rfl (by have := recs_le t; omega) (recs_rng hrg), hE⟩)
  clear hT hS hx ht hN hrg
  go_enter Tryd.func11, Tryd.ntmps11
  go_wp2_with (first
    | (go_at_call 26; refine (width_any _ _).mono ?_; rintro e w' ⟨rfl, rfl⟩)
    | (go_at_call 27; refine (slots_any _ _).mono ?_; rintro e w' ⟨rfl, rfl⟩))
  go_region_held3 (fun w' => Ext w w')
    (first
      | exact x2
      | exact x1
      | exact Ext.drew (Ext.refl w)
      | go_keep)
    (first
      | (go_at_call 28; refine (HR.out _ (Ext.drew (Ext.refl w))).mono ?_; rintro e w1 ⟨sl, c', rfl, hQ, hE1⟩; have x1 : Ext w w1 := (Ext.drew (Ext.refl w)).trans hE1)
      | (go_at_call 24; refine (build_any N 1 sl _ c' (recs t) w1 (HT.out.ext x1) hQ).mono ?_; rintro e w2 ⟨hE2, sb, nb, cb, rfl, hB⟩; have x2 : Ext w w2 := x1.trans hE2))
  rename_i hh
  clear hh
  have hfin : RowKit.Hid (r = (decide ((buildS N 1 (recs t)).2 = 0) && decide ((buildS N 1 (recs t)).1 = xs))) := Lib.hid (by rw [hr.out, Hx.out]; exact hfin0.out)
  have HE := Lib.hid x2
  have HB := Lib.hid hB
  obtain ⟨pr, hp⟩ : ∃ pr, RowKit.Hid (buildS N 1 (recs t) = pr) := ⟨_, Lib.hid rfl⟩
  rw [hp.out] at hfin HB ⊢
  obtain ⟨ws, er⟩ := pr
  dsimp only at hfin HB ⊢
  clear hE1 hE2 hB hQ x1 x2 hfin0
  by_cases he : er = 0
  · subst he
    go_wp2_with (fail)
    refine (equal_any sb s nb N cb c ws xs (decide (ws = xs)) w2 HB.out (HS.out.ext HE.out) (Lib.hid rfl)).mono ?_
    rintro e w3 ⟨rfl, q, rfl⟩
    go_wp2_with (fail)
    go_ret
    exact ⟨ret_bool (by rw [hfin.out]; simp), HE.out.drewN q⟩
  · have heb : (er == 0) = false := by simpa using he
    have Hf2 : RowKit.Hid (r = false) := Lib.hid (by rw [hfin.out]; simp [he])
    clear he
    go_wp2_with (fail)
    go_ret
    exact ⟨ret_bool Hf2.out.symm, HE.out⟩

set_option maxRecDepth 100000 in
set_option maxHeartbeats 2000000 in
theorem right_2 (s : Option Addr) (N m c : Nat) (xs : List Int) (t : List Rc) (r : Bool) (w : World) (hT : Tab w) (hS : WS w s m c xs) (hx : xs = flatW 2 t) (hN : t.length = N) (hM : m = N * 2) (ht : Thin 2 t) (n1 : 1 ≤ N) (n2 : N ≤ 1024) (hrg : ∀ r ∈ t, Ur r) (hr : RowKit.Hid (r = rightT t)) :
    Calls Tryd.prog 11 #[.slice s m c, .int .i64 2] w fun e w' => e = .returned (.bool r) ∧ Ext w w' := by
  have hm := hS.le
  have hdv : (m : Int).tdiv 2 = N := by rw [quo_2]; omega
  have hrm : (m : Int).tmod 2 = 0 := by rw [rem_2]; omega
  have hNb : N ≤ 1048576 := by omega
  clear hM
  have h1 : okN (N : Int) = true := by unfold okN; simp; omega
  have h2 : okW (2 : Int) = true := rfl
  have hfin0 := Lib.hid (progRight_eq (v := 2) (by unfold Wd; omega) hN n1 n2 ht hrg)
  have HT := Lib.hid hT
  have HS := Lib.hid hS
  have Hx := Lib.hid hx
  have hwN : IntKind.i64.wrap (N : Int) = N := IntWalk.i64_in _ (by omega)
  have hwN2 : RowKit.wrap64 (N : Int) = N := by rw [← hwN]; first | rfl | (unfold RowKit.wrap64; omega)
  have HR : RowKit.Hid (∀ W, Ext w W → Calls Tryd.prog 28 #[.slice s m c, .int .i64 2] W fun e w' => ∃ sl c', e = .returned (.slice sl (recs t).length c') ∧ QS w' sl (recs t).length c' (recs t) ∧ Ext W w') := Lib.hid (fun W hW =>
    (recs_any s m c 2 t W (by unfold Wd; omega) (by have := hS.ext hW; rwa [hx] at this) ht (by omega) (by omega)).mono fun e w' ⟨u, he, hrow, hE⟩ => by
      obtain ⟨sl, c', rfl⟩ := own_form hrow
      exact ⟨sl, c', he, qs_of_own hrow rfl (by have := recs_le t; omega) (recs_rng hrg), hE⟩)
  clear hT hS hx ht hN hrg
  go_enter Tryd.func11, Tryd.ntmps11
  go_wp2_with (first
    | (go_at_call 26; refine (width_any _ _).mono ?_; rintro e w' ⟨rfl, rfl⟩)
    | (go_at_call 27; refine (slots_any _ _).mono ?_; rintro e w' ⟨rfl, rfl⟩))
  go_region_held3 (fun w' => Ext w w')
    (first
      | exact x2
      | exact x1
      | exact Ext.drew (Ext.refl w)
      | go_keep)
    (first
      | (go_at_call 28; refine (HR.out _ (Ext.drew (Ext.refl w))).mono ?_; rintro e w1 ⟨sl, c', rfl, hQ, hE1⟩; have x1 : Ext w w1 := (Ext.drew (Ext.refl w)).trans hE1)
      | (go_at_call 24; refine (build_any N 2 sl _ c' (recs t) w1 (HT.out.ext x1) hQ).mono ?_; rintro e w2 ⟨hE2, sb, nb, cb, rfl, hB⟩; have x2 : Ext w w2 := x1.trans hE2))
  rename_i hh
  clear hh
  have hfin : RowKit.Hid (r = (decide ((buildS N 2 (recs t)).2 = 0) && decide ((buildS N 2 (recs t)).1 = xs))) := Lib.hid (by rw [hr.out, Hx.out]; exact hfin0.out)
  have HE := Lib.hid x2
  have HB := Lib.hid hB
  obtain ⟨pr, hp⟩ : ∃ pr, RowKit.Hid (buildS N 2 (recs t) = pr) := ⟨_, Lib.hid rfl⟩
  rw [hp.out] at hfin HB ⊢
  obtain ⟨ws, er⟩ := pr
  dsimp only at hfin HB ⊢
  clear hE1 hE2 hB hQ x1 x2 hfin0
  by_cases he : er = 0
  · subst he
    go_wp2_with (fail)
    refine (equal_any sb s nb m cb c ws xs (decide (ws = xs)) w2 HB.out (HS.out.ext HE.out) (Lib.hid rfl)).mono ?_
    rintro e w3 ⟨rfl, q, rfl⟩
    go_wp2_with (fail)
    go_ret
    exact ⟨ret_bool (by rw [hfin.out]; simp), HE.out.drewN q⟩
  · have heb : (er == 0) = false := by simpa using he
    have Hf2 : RowKit.Hid (r = false) := Lib.hid (by rw [hfin.out]; simp [he])
    clear he
    go_wp2_with (fail)
    go_ret
    exact ⟨ret_bool Hf2.out.symm, HE.out⟩

set_option maxHeartbeats 1000000 in
theorem right_shape (s : Option Addr) (m c : Nat) (xs : List Int) (v : Int) (w : World) (hS : WS w s m c xs) (hv : v = 1 ∨ v = 2) (h : ¬ Shape xs v) :
    Calls Tryd.prog 11 #[.slice s m c, .int .i64 v] w fun e w' => e = .returned (.bool (rightS xs v)) ∧ Ext w w' := by
  have hr : RowKit.Hid (rightS xs v = false) := Lib.hid (by unfold rightS; rw [decide_eq_false h]; rfl)
  have hm := hS.le
  have hl := hS.len
  unfold Shape at h
  rw [hl] at h
  clear hS hl
  rcases hv with rfl | rfl
  · have h1 : okN (m : Int) = false := by unfold okN; refine decide_eq_false ?_; simp at h; omega
    have h2 : okW (1 : Int) = true := rfl
    clear h
    go_enter Tryd.func11, Tryd.ntmps11
    go_wp2_with (first
      | (go_at_call 26; refine (width_any _ _).mono ?_; rintro e w' ⟨rfl, rfl⟩)
      | (go_at_call 27; refine (slots_any _ _).mono ?_; rintro e w' ⟨rfl, rfl⟩))
    go_ret
    exact ⟨ret_bool hr.out.symm, Ext.refl w⟩
  · have h2 : okW (2 : Int) = true := rfl
    have q := quo_2 m
    have rr := rem_2 m
    by_cases b0 : m % 2 = 0
    · rw [b0] at rr
      obtain ⟨k, hk⟩ : ∃ k, m / 2 = k := ⟨_, rfl⟩
      have hkb : k ≤ 1048576 := by omega
      rw [hk] at q
      have h1 : okN (k : Int) = false := by unfold okN; refine decide_eq_false ?_; simp at h; omega
      clear h hk b0
      go_enter Tryd.func11, Tryd.ntmps11
      go_wp2_with (first
        | (go_at_call 26; refine (width_any _ _).mono ?_; rintro e w' ⟨rfl, rfl⟩)
        | (go_at_call 27; refine (slots_any _ _).mono ?_; rintro e w' ⟨rfl, rfl⟩))
      go_ret
      exact ⟨ret_bool hr.out.symm, Ext.refl w⟩
    · have b1 : m % 2 = 1 := by omega
      rw [b1] at rr
      clear h b0
      go_enter Tryd.func11, Tryd.ntmps11
      go_wp2_with (go_at_call 26; refine (width_any _ _).mono ?_; rintro e w' ⟨rfl, rfl⟩)
      go_ret
      exact ⟨ret_bool hr.out.symm, Ext.refl w⟩

/-- Right. -/
theorem right_any (s : Option Addr) (m c : Nat) (xs : List Int) (v : Int) (r : Bool) (w : World) (hT : Tab w) (hS : WS w s m c xs) (hr : RowKit.Hid (r = rightS xs v)) :
    Calls Tryd.prog 11 #[.slice s m c, .int .i64 v] w fun e w' => e = .returned (.bool r) ∧ Ext w w' := by
  by_cases hv : v = 1 ∨ v = 2
  · rcases right_or (v := v) hS with ⟨h1, h2⟩ | ⟨u, rfl, hu, hsh, hx, ht, hl, h1, h2, hrg, hrt⟩
    · rw [hr.out]; exact right_shape s m c xs v w hS hv h1
    · have hr2 : RowKit.Hid (r = rightT (slotsW u xs)) := Lib.hid (by rw [hr.out, hrt])
      have hm : m = (slotsW u xs).length * u := by rw [← hS.len, ← flatW_len hu, ← hx]
      rw [← hl] at h1 h2
      rcases hu with rfl | rfl
      · have hm2 : m = (slotsW 1 xs).length := by omega
        rw [← hm2] at h1 h2
        exact right_1 s m c xs _ r w hT hS hx hm2.symm ht h1 h2 hrg hr2
      · exact right_2 s _ m c xs _ r w hT hS hx rfl hm ht h1 h2 hrg hr2
  · rw [hr.out]; exact right_width s m c xs v w hv

set_option maxHeartbeats 1000000 in
/-- Find. -/
theorem find_any (s : Option Addr) (m c : Nat) (xs : List Int) (v k : Int) (w : World) (hT : Tab w) (hS : WS w s m c xs) (hk : U64 k) :
    Calls Tryd.prog 17 #[.slice s m c, .int .i64 v, .int .u64 k] w (NB (findS xs v k) w) := by
  have HS := Lib.hid hS
  have HT := Lib.hid hT
  by_cases hk0 : k = 0
  · subst hk0
    have hf := Lib.hid (findS_no (xs := xs) (v := v) (.inr rfl))
    clear hS hT
    go_enter Tryd.func17, Tryd.ntmps17
    go_wp2_with (fail)
    go_ret2
    exact NB.mk hf.out (Ext.refl w)
  have hkb : (k == 0) = false := by simpa using hk0
  by_cases hr : rightS xs v = true
  · obtain ⟨u, rfl, hTb⟩ := tb_of_right hS.u64 hr
    have hI := hTb.slots
    have hw := hTb.wd
    have n1 := hTb.n1
    have n2 := hTb.n2
    have hxe : xs = flatW u (slotsW u xs) := by
      obtain ⟨t, hI2, e⟩ := hTb.is
      have ht2 := hI2.thin hTb.thin
      conv => rhs; rw [e, slots_flat hTb.wd ht2]
      exact e
    have hso : RowKit.Hid (∀ W, Ext w W → Calls Tryd.prog 36 #[.slice s m c, .int .i64 u, .int .u64 k] W (NB (findS xs u k) W)) := Lib.hid (fun W hW => by
      rw [findS_yes hr hk0]
      exact sought_any s (xs.length / u) m c u _ _ k W (hT.ext hW) hw (by have := hS.ext hW; rwa [hxe] at this) hI (slotsW_thin _ _) n1 n2 hk0 hk)
    have Hr := Lib.hid hr
    clear hS hT hr hTb hI hxe hk0 n1 n2
    go_enter Tryd.func17, Tryd.ntmps17
    go_wp2_with (fail)
    refine (right_any s m c xs u true w HT.out HS.out (Lib.hid Hr.out.symm)).mono ?_
    rintro e w1 ⟨rfl, hE1⟩
    go_wp2_with (fail)
    refine (hso.out w1 hE1).mono ?_
    rintro e w2 ⟨hE2, rfl⟩
    go_wp2_with (fail)
    go_ret2
    exact ⟨hE1.trans hE2, rfl⟩
  · have hr' : rightS xs v = false := by simpa using hr
    have hf := Lib.hid (findS_no (xs := xs) (v := v) (k := k) (.inl hr'))
    have Hr := Lib.hid hr'
    clear hS hT hr hr' hk0
    go_enter Tryd.func17, Tryd.ntmps17
    go_wp2_with (fail)
    refine (right_any s m c xs v false w HT.out HS.out (Lib.hid Hr.out.symm)).mono ?_
    rintro e w1 ⟨rfl, hE1⟩
    go_wp2_with (fail)
    go_ret2
    exact NB.mk hf.out hE1

set_option maxHeartbeats 1000000 in
/-- List. -/
theorem list_any (s : Option Addr) (m c : Nat) (xs : List Int) (v : Int) (w : World) (hT : Tab w) (hS : WS w s m c xs) :
    Calls Tryd.prog 14 #[.slice s m c, .int .i64 v] w fun e w' => (∃ sl k c', e = .returned (.slice sl k c') ∧ QS w' sl k c' (listS xs v)) ∧ Ext w w' := by
  have HS := Lib.hid hS
  have HT := Lib.hid hT
  by_cases hr : rightS xs v = true
  · obtain ⟨u, rfl, hTb⟩ := tb_of_right hS.u64 hr
    have hI := hTb.slots
    have hlist : RowKit.Hid (∀ ys : List Rc, ys.Perm (recs (slotsW u xs)) → ys.Pairwise (fun a b => leK a b = true) → ys = listS xs u) := Lib.hid (fun ys h1 h2 => by
      rw [hTb.list]; exact sortK_one hTb.good.one h1 h2)
    have hxe : xs = flatW u (slotsW u xs) := by
      obtain ⟨t, hI2, e⟩ := hTb.is
      have ht2 := hI2.thin hTb.thin
      conv => rhs; rw [e, slots_flat hTb.wd ht2]
      exact e
    have hN : (slotsW u xs).length = xs.length / u := hI.len
    have n1 := hTb.n1
    have n2 := hTb.n2
    rw [← hN] at n1 n2
    have hso : RowKit.Hid (∀ W, Ext w W → Calls Tryd.prog 28 #[.slice s m c, .int .i64 u] W fun e w' => ∃ sl k c', e = .returned (.slice sl k c') ∧ QS w' sl k c' (recs (slotsW u xs)) ∧ Ext W w') := Lib.hid (fun W hW =>
      (recs_any s m c u _ W hTb.wd (by have := hS.ext hW; rwa [hxe] at this) (slotsW_thin _ _) n1 n2).mono fun e w' ⟨x, he, hrow, hE⟩ => by
        obtain ⟨sl, c', rfl⟩ := own_form hrow
        exact ⟨sl, _, c', he, qs_of_own hrow rfl (by have := recs_le (slotsW u xs); omega) (recs_rng (slotsW_rng hS.u64)), hE⟩)
    have Hr := Lib.hid hr
    clear hS hT hr hTb hI hxe n1 n2 hN
    go_enter Tryd.func14, Tryd.ntmps14
    go_wp2_with (fail)
    refine (right_any s m c xs u true w HT.out HS.out (Lib.hid Hr.out.symm)).mono ?_
    rintro e w1 ⟨rfl, hE1⟩
    go_wp2_with (fail)
    refine (hso.out w1 hE1).mono ?_
    rintro e w2 ⟨sl, k, c', rfl, hQ, hE2⟩
    go_wp2_with (go_at_call 33; refine (values_any sl k c' _).mono ?_; rintro e w' ⟨rfl, rfl⟩)
    have hE3 := (hE1.trans hE2).trans (Ext.new w2 (.cells #[.slice sl k c'] 32))
    refine (sortedK_any sl k c' w2.heap.size _ _ (HT.out.ext hE3) (hQ.ext (Ext.new w2 _)) (Boxed.new _ _ _)).mono ?_
    rintro e w4 ⟨s4, c4, ys, rfl, hQ4, hp, _, hE4⟩
    have hfin : RowKit.Hid (QS w4 s4 k c4 (listS xs u)) := Lib.hid (by rw [← hlist.out ys hp.1 hp.2]; exact hQ4)
    clear hQ4 hp hQ
    go_wp2_with (fail)
    go_ret
    exact ⟨⟨s4, k, c4, rfl, hfin.out⟩, hE3.trans hE4⟩
  · have hr' : rightS xs v = false := by simpa using hr
    have hl : RowKit.Hid (listS xs v = []) := Lib.hid (by unfold listS; rw [if_neg hr])
    have Hr := Lib.hid hr'
    clear hr hr' hS hT
    go_enter Tryd.func14, Tryd.ntmps14
    go_wp2_with (fail)
    refine (right_any s m c xs v false w HT.out HS.out (Lib.hid Hr.out.symm)).mono ?_
    rintro e w1 ⟨rfl, hE1⟩
    go_wp2_with (fail)
    go_ret
    exact ⟨⟨none, 0, 0, rfl, by rw [hl.out]; exact QS.empty _ _ _ (by omega)⟩, hE1⟩

end Go.Proofs.YtbpgnnogpcppdaaDoor
