/-
  What the document's own Put and Del return. Conditions: the words are there; the integers' bounds.
-/
import Derived.Test.YtbpgnnogpcppdaaDoorRefFind
namespace Go.Proofs.YtbpgnnogpcppdaaDoor
open Go.RowKit (Below intOf)

/-- append of words onto none, read. -/
theorem clone_words {w : World} {s : Option Addr} {m c : Nat} {xs : List Int} (hS : WS w s m c xs) (ty : TypeId) :
    ∃ so co w2, (Builtin.append_ #[23, 23] ty #[.slice none 0 0, .slice s m c]).run Tryd.prog w = .ok (.slice so m co) w2 ∧ WS w2 so m co xs ∧ Ext w w2 := by
  obtain ⟨so, co, w2, hr, h1, h2, h3, h4, h5⟩ := append_words hS ty
  refine ⟨so, co, w2, hr, ?_, h5⟩
  by_cases h0 : m = 0
  · subst h0
    have : xs = [] := List.eq_nil_of_length_eq_zero hS.len
    subst this
    exact WS.empty _ _ _ h2
  · rw [h3 (by omega)]
    exact h4.ws hS.len hS.le h1 h2

theorem put_ref {xs : List Int} {v : Nat} {k x : Int} {ys : List Rc} (hx : ∀ a ∈ xs, U64 a) (hr : rightS xs v = true) (hk : k ≠ 0) (hz : ¬ (v = 1 ∧ x ≠ 0)) (hu : U64 k) (hv : U64 x) (hp : ys.Perm ((slotsW v xs).filter isK)) :
    Good (ys.filter (fun r => decide (r.1 ≠ k)) ++ [(k, x)]) ∧ Thin v (ys.filter (fun r => decide (r.1 ≠ k)) ++ [(k, x)]) ∧ (ys.filter (fun r => decide (r.1 ≠ k)) ++ [(k, x)]).length ≤ xs.length / v + 1 ∧
      (xs.length / v < (ys.filter (fun r => decide (r.1 ≠ k)) ++ [(k, x)]).length → putS xs v k x = (xs, 11)) ∧
      ((ys.filter (fun r => decide (r.1 ≠ k)) ++ [(k, x)]).length ≤ xs.length / v → putS xs v k x = (flatW v (tableOf (xs.length / v) (ys.filter (fun r => decide (r.1 ≠ k)) ++ [(k, x)])), 0)) := by
  obtain ⟨v', e, hT⟩ := tb_of_right hx hr
  obtain rfl : v = v' := by omega
  rw [← recs_isK hT.slots.inv.clean] at hp
  have hG0 := hT.good.perm hp.symm
  have hG : Good (ys.filter (fun r => decide (r.1 ≠ k)) ++ [(k, x)]) := withR_good hG0 hk hu hv
  have hth : Thin v (ys.filter (fun r => decide (r.1 ≠ k)) ++ [(k, x)]) := withR_thin (hT.thin.perm hp.symm) hz
  have hpo : (othersT (slotsW v xs) k ++ [(k, x)]).Perm (ys.filter (fun r => decide (r.1 ≠ k)) ++ [(k, x)]) := (hp.symm.filter _).append_right _
  have hs : putS xs v k x = laidS xs v (othersT (slotsW v xs) k ++ [(k, x)]) := by
    unfold putS; rw [if_pos ⟨hr, hk, by omega⟩]; rfl
  refine ⟨hG, hth, ?_, fun h => ?_, fun h => ?_⟩
  · have h1 := List.length_filter_le (fun r : Rc => decide (r.1 ≠ k)) ys
    have h2 := hT.le
    rw [← hp.length_eq] at h2
    rw [List.length_append, List.length_singleton]; omega
  · rw [hs]; unfold laidS; rw [if_pos (by rw [hpo.length_eq]; exact h)]
  · rw [hs]; unfold laidS; rw [if_neg (by rw [hpo.length_eq]; omega), tableOf_perm hG hpo]
theorem filter_len_eq {l : List Rc} {q : Rc → Bool} (h : (l.filter q).length = l.length) : ∀ r ∈ l, q r = true := by
  intro r hr
  have e := List.Sublist.eq_of_length (List.filter_sublist (p := q) (l := l)) h
  rw [← e] at hr
  exact (List.mem_filter.1 hr).2
theorem del_ref {xs : List Int} {v : Nat} {k : Int} {ys : List Rc} (hx : ∀ a ∈ xs, U64 a) (hr : rightS xs v = true) (hk : k ≠ 0) (hp : ys.Perm ((slotsW v xs).filter isK)) :
    Good (ys.filter (fun r => decide (r.1 ≠ k))) ∧ Thin v (ys.filter (fun r => decide (r.1 ≠ k))) ∧ (ys.filter (fun r => decide (r.1 ≠ k))).length ≤ xs.length / v ∧
      ((ys.filter (fun r => decide (r.1 ≠ k))).length = ys.length → delS xs v k = (xs, 12)) ∧
      ((ys.filter (fun r => decide (r.1 ≠ k))).length ≠ ys.length → delS xs v k = (flatW v (tableOf (xs.length / v) (ys.filter (fun r => decide (r.1 ≠ k)))), 0)) := by
  obtain ⟨v', e, hT⟩ := tb_of_right hx hr
  obtain rfl : v = v' := by omega
  rw [← recs_isK hT.slots.inv.clean] at hp
  have hG0 := hT.good.perm hp.symm
  have hG := hG0.filter fun r => decide (r.1 ≠ k)
  have hth : Thin v (ys.filter (fun r => decide (r.1 ≠ k))) := (hT.thin.perm hp.symm).filter _
  have hpo : (othersT (slotsW v xs) k).Perm (ys.filter (fun r => decide (r.1 ≠ k))) := hp.symm.filter _
  have hle : (ys.filter (fun r => decide (r.1 ≠ k))).length ≤ xs.length / v := by
    have h1 := List.length_filter_le (fun r : Rc => decide (r.1 ≠ k)) ys
    have h2 := hT.le
    rw [← hp.length_eq] at h2
    omega
  have hs : delS xs v k = if (findT (slotsW v xs) k).2 = true then laidS xs v (othersT (slotsW v xs) k) else (xs, 12) := by
    unfold delS; rw [if_pos ⟨hr, hk⟩]; rfl
  refine ⟨hG, hth, hle, fun h => ?_, fun h => ?_⟩
  · rw [hs, if_neg]
    intro hf
    rcases hT.slots.find hk with ⟨p, x, _, _, hm, _⟩ | ⟨e, _⟩
    · have := filter_len_eq h (k, x) (hp.symm.mem_iff.1 hm)
      simp at this
    · rw [e] at hf; cases hf
  · have hf : (findT (slotsW v xs) k).2 = true := by
      rcases hT.slots.find hk with ⟨p, x, e, _⟩ | ⟨_, hn⟩
      · rw [e]
      · refine absurd ?_ h
        rw [List.filter_eq_self.2]
        intro r hr
        refine decide_eq_true fun e => hn r.2 ?_
        rw [← e]; exact hp.mem_iff.1 hr
    rw [hs, if_pos hf]; unfold laidS; rw [if_neg (by rw [hpo.length_eq]; omega), tableOf_perm hG hpo]

theorem putS_no {xs : List Int} {v k x : Int} (h : rightS xs v = false ∨ k = 0 ∨ (v = 1 ∧ x ≠ 0)) : putS xs v k x = (xs, 1) := by
  unfold putS
  rw [if_neg]
  rintro ⟨h1, h2, h3⟩
  rcases h with h | h | h
  · rw [h] at h1; cases h1
  · exact h2 h
  · exact h3 h
theorem delS_no {xs : List Int} {v k : Int} (h : rightS xs v = false ∨ k = 0) : delS xs v k = (xs, 1) := by
  unfold delS
  rw [if_neg]
  rintro ⟨h1, h2⟩
  rcases h with h | h
  · rw [h] at h1; cases h1
  · exact h2 h

theorem laid_any (s : Option Addr) (m c n v : Nat) (l : List Rc) (w : World) (hv : Wd v) (hL : QS w s m c l) (n1 : 1 ≤ n) (n2 : n ≤ 1024) (hG : Good l) (hl : l.length ≤ n) (ht : Thin v l) :
    Calls Tryd.prog 40 #[.int .i64 n, .int .i64 v, .slice s m c] w fun e w' => ∃ sl k c', e = .returned (.slice sl k c') ∧ WS w' sl k c' (flatW v (tableOf n l)) ∧ Ext w w' := by
  rcases hv with rfl | rfl
  · exact (laid_1 s m c n l w hL n1 n2 hG hl ht).mono fun _ _ ⟨sl, c', h1, h2, h3⟩ => ⟨sl, _, c', h1, h2, h3⟩
  · exact (laid_2 s m c n l w hL n1 n2 hG hl ht).mono fun _ _ ⟨sl, c', h1, h2, h3⟩ => ⟨sl, _, c', h1, h2, h3⟩

set_option maxHeartbeats 1000000 in
theorem rput_no (s : Option Addr) (m c : Nat) (xs : List Int) (v k x : Int) (w : World) (hS : WS w s m c xs) (hv : I64 v) (h : rightS xs v = false ∨ k = 0 ∨ (v = 1 ∧ x ≠ 0)) :
    Calls Tryd.prog 20 #[.slice s m c, .int .i64 v, .int .u64 k, .int .u64 x] w (WE (putS xs v k x) w) := by
  have hf := Lib.hid (putS_no h)
  have HS := Lib.hid hS
  obtain ⟨so, co, w2, hap, hO, hE0⟩ := clone_words hS 23
  have Hap := Lib.hid hap
  have HO := Lib.hid hO
  clear hap hO hS
  obtain ⟨r, er⟩ : ∃ r, RowKit.Hid (r = rightS xs v) := ⟨_, Lib.hid rfl⟩
  cases r with
  | false =>
    clear h
    go_enter Tryd.func20, Tryd.ntmps20
    go_wp2_with (at_builtin; refine Lib.wpList_append_run _ rfl _ _ _ _ rfl _ _ rfl rfl _ _ Hap.out ?_)
    refine (rright_any s m c xs v false w2 (HS.out.ext hE0) hv er).mono ?_
    rintro e w1 ⟨rfl, hE1⟩
    go_wp2_with (fail)
    go_ret2
    exact WE.some hf.out (hE0.trans hE1) (HO.out.ext hE1)
  | true =>
    by_cases hk : k = 0
    · subst hk
      clear h
      go_enter Tryd.func20, Tryd.ntmps20
      go_wp2_with (at_builtin; refine Lib.wpList_append_run _ rfl _ _ _ _ rfl _ _ rfl rfl _ _ Hap.out ?_)
      refine (rright_any s m c xs v true w2 (HS.out.ext hE0) hv er).mono ?_
      rintro e w1 ⟨rfl, hE1⟩
      go_wp2_with (fail)
      go_ret2
      exact WE.some hf.out (hE0.trans hE1) (HO.out.ext hE1)
    · have hkb : (k == 0) = false := by simpa using hk
      obtain ⟨rfl, hx0⟩ : v = 1 ∧ x ≠ 0 := (h.resolve_left (by rw [← er.out]; simp)).resolve_left hk
      have hxb : (x != 0) = true := by simpa using hx0
      clear h hk hx0
      go_enter Tryd.func20, Tryd.ntmps20
      go_wp2_with (at_builtin; refine Lib.wpList_append_run _ rfl _ _ _ _ rfl _ _ rfl rfl _ _ Hap.out ?_)
      refine (rright_any s m c xs 1 true w2 (HS.out.ext hE0) hv er).mono ?_
      rintro e w1 ⟨rfl, hE1⟩
      go_wp2_with (fail)
      go_ret2
      exact WE.some hf.out (hE0.trans hE1) (HO.out.ext hE1)

set_option maxHeartbeats 1000000 in
theorem rdel_no (s : Option Addr) (m c : Nat) (xs : List Int) (v k : Int) (w : World) (hS : WS w s m c xs) (hv : I64 v) (h : rightS xs v = false ∨ k = 0) :
    Calls Tryd.prog 22 #[.slice s m c, .int .i64 v, .int .u64 k] w (WE (delS xs v k) w) := by
  have hf := Lib.hid (delS_no h)
  have HS := Lib.hid hS
  obtain ⟨so, co, w2, hap, hO, hE0⟩ := clone_words hS 23
  have Hap := Lib.hid hap
  have HO := Lib.hid hO
  clear hap hO hS
  obtain ⟨r, er⟩ : ∃ r, RowKit.Hid (r = rightS xs v) := ⟨_, Lib.hid rfl⟩
  cases r with
  | false =>
    clear h
    go_enter Tryd.func22, Tryd.ntmps22
    go_wp2_with (at_builtin; refine Lib.wpList_append_run _ rfl _ _ _ _ rfl _ _ rfl rfl _ _ Hap.out ?_)
    refine (rright_any s m c xs v false w2 (HS.out.ext hE0) hv er).mono ?_
    rintro e w1 ⟨rfl, hE1⟩
    go_wp2_with (fail)
    go_ret2
    exact WE.some hf.out (hE0.trans hE1) (HO.out.ext hE1)
  | true =>
    obtain rfl : k = 0 := h.resolve_left (by rw [← er.out]; simp)
    clear h
    go_enter Tryd.func22, Tryd.ntmps22
    go_wp2_with (at_builtin; refine Lib.wpList_append_run _ rfl _ _ _ _ rfl _ _ rfl rfl _ _ Hap.out ?_)
    refine (rright_any s m c xs v true w2 (HS.out.ext hE0) hv er).mono ?_
    rintro e w1 ⟨rfl, hE1⟩
    go_wp2_with (fail)
    go_ret2
    exact WE.some hf.out (hE0.trans hE1) (HO.out.ext hE1)

set_option maxRecDepth 100000 in
set_option maxHeartbeats 2000000 in
theorem rput_1 (s : Option Addr) (N c : Nat) (xs : List Int) (k x : Int) (w : World) (hS : WS w s N c xs) (n1 : 1 ≤ N) (n2 : N ≤ 1024) (hx : xs = flatW 1 (slotsW 1 xs)) (hr : rightS xs (1 : Nat) = true) (hk : k ≠ 0) (hz : ¬ (1 = 1 ∧ x ≠ 0)) (hu : U64 k) (hv : U64 x) :
    Calls Tryd.prog 20 #[.slice s N c, .int .i64 1, .int .u64 k, .int .u64 x] w (WE (putS xs (1 : Nat) k x) w) := by
  have hm := hS.le
  have hxb : (x != 0) = false := by
    by_cases h : x = 0
    · simp [h]
    · exact absurd ⟨rfl, h⟩ hz
  have HS := Lib.hid hS
  have Hx := Lib.hid hx
  have Hr := Lib.hid hr
  have hkb : (k == 0) = false := by simpa using hk
  have hdiv : RowKit.Hid (xs.length / 1 = N) := Lib.hid (by have h := HS.out.len; rw [h]; simp)
  have href : RowKit.Hid (∀ ys : List Rc, ys.Perm ((slotsW 1 xs).filter isK) → _) := Lib.hid (fun ys hp => put_ref (ys := ys) hS.u64 hr hk hz hu hv hp)
  obtain ⟨so, co, w2, hap, hO, hE0⟩ := clone_words hS 23
  obtain ⟨i0, hi, hz0, hz1, hz2⟩ := info_parts info34
  have Hi := Lib.hid hi
  have Hz0 := Lib.hid hz0
  have Hz1 := Lib.hid hz1
  have Hz2 := Lib.hid hz2
  have Hap := Lib.hid hap
  have HO := Lib.hid hO
  clear hap hO hS hx hr hk hz hi hz0 hz1 hz2
  go_enter Tryd.func20, Tryd.ntmps20
  go_wp2_with (at_builtin; refine Lib.wpList_append_run _ rfl _ _ _ _ rfl _ _ rfl rfl _ _ Hap.out ?_)
  refine (rright_any s N c xs 1 true w2 (HS.out.ext hE0) (by unfold I64; omega) (Lib.hid Hr.out.symm)).mono ?_
  rintro e w3 ⟨rfl, hE1⟩
  have hE2 := hE0.trans hE1
  go_wp2_with (fail)
  refine (rrecs_any s N c 1 (slotsW 1 xs) w3 (by unfold Wd; omega) (by rw [← Hx.out]; exact HS.out.ext hE2) (slotsW_thin _ _)).mono ?_
  rintro e w4 ⟨sl, kk, c', ys, rfl, hQ, hp, hE3⟩
  have hrf := Lib.hid (href.out ys hp.1)
  clear hp href
  go_wp2_with (fail)
  refine (rothers_any sl kk c' ys k w4 hQ).mono ?_
  rintro e w5 ⟨v5, rfl, hrow, hE4⟩
  have hE5 := (hE2.trans hE3).trans hE4
  rw [hdiv.out] at hrf
  obtain ⟨l5, el5⟩ : ∃ l5, RowKit.Hid (ys.filter (fun r => decide (r.1 ≠ k)) = l5) := ⟨_, Lib.hid rfl⟩
  rw [el5.out] at hrf hrow
  have hl5 : l5.length ≤ 1024 := by have := hrf.out.2.2.1; rw [List.length_append] at this; simp at this; omega
  have HB5 := Lib.hid hE4.size
  have hrow2 : w5.ownsRow w4.heap.size 34 2 v5 l5.length (flat l5) := hrow
  have hE4X := hE4
  clear hrow hQ hE4
  have hlen : RowKit.Hid ((l5 ++ [(k, x)]).length = l5.length + 1) := Lib.hid (by rw [List.length_append]; rfl)
  rw [hlen.out] at hrf
  by_cases hfull : N < l5.length + 1
  · have hfb : (N : Int) < (l5.length : Int) + 1 := by omega
    have hfin := Lib.hid (hrf.out.2.2.2.1 hfull)
    go_wp2_with (at_builtin; refine wpList_append_own _ rfl _ _ 32 rfl w4.heap.size 34 i0 (.agg #[.int .u64 0, .int .u64 0]) 2 16 Tryd.underlying32 Hi.out Hz0.out Hz1.out Hz2.out rfl (by decide) _ _ _ rfl (hrow2.alloc _) ⟨w5.heap.size, 0, none⟩ 1 1 [.int .u64 k, .int .u64 x] rfl rfl (two_cells _ _ _) (by simp [Value.oneCell']) (by unfold maxLen; omega) (by omega) (by have := HB5.out; simp; omega) ?_; intro v' w6 hown' hgrow _; obtain ⟨sl6, c6, rfl⟩ := own_form hown')
    have hE6 : Ext w w6 := Ext.grown (Ext.alloc hE5 _) hgrow (fun j hj => by have := own_ge hrow2 j hj; have := (hE2.trans hE3).size; omega)
    have hE26 : Ext w2 w6 := Ext.grown (Ext.alloc ((hE1.trans hE3).trans hE4X) _) hgrow (fun j hj => by have := own_ge hrow2 j hj; have := (hE1.trans hE3).size; omega)
    have hQ6 : QS w6 sl6 (l5.length + 1) c6 (l5 ++ [(k, x)]) := qs_of_own (by rw [flat_append]; exact hown') (by simp) (by omega) (fun y hy => hrf.out.1.rng y hy)
    go_ret2
    exact WE.some hfin.out hE6 (HO.out.ext hE26)
  · have hfb : ¬ (N : Int) < (l5.length : Int) + 1 := by omega
    have hfin := Lib.hid (hrf.out.2.2.2.2 (by omega))
    go_wp2_with (at_builtin; refine wpList_append_own _ rfl _ _ 32 rfl w4.heap.size 34 i0 (.agg #[.int .u64 0, .int .u64 0]) 2 16 Tryd.underlying32 Hi.out Hz0.out Hz1.out Hz2.out rfl (by decide) _ _ _ rfl (hrow2.alloc _) ⟨w5.heap.size, 0, none⟩ 1 1 [.int .u64 k, .int .u64 x] rfl rfl (two_cells _ _ _) (by simp [Value.oneCell']) (by unfold maxLen; omega) (by omega) (by have := HB5.out; simp; omega) ?_; intro v' w6 hown' hgrow _; obtain ⟨sl6, c6, rfl⟩ := own_form hown')
    have hE6 : Ext w w6 := Ext.grown (Ext.alloc hE5 _) hgrow (fun j hj => by have := own_ge hrow2 j hj; have := (hE2.trans hE3).size; omega)
    have hE26 : Ext w2 w6 := Ext.grown (Ext.alloc ((hE1.trans hE3).trans hE4X) _) hgrow (fun j hj => by have := own_ge hrow2 j hj; have := (hE1.trans hE3).size; omega)
    have hQ6 : QS w6 sl6 (l5.length + 1) c6 (l5 ++ [(k, x)]) := qs_of_own (by rw [flat_append]; exact hown') (by simp) (by omega) (fun y hy => hrf.out.1.rng y hy)
    refine (laid_any sl6 (l5.length + 1) c6 N 1 (l5 ++ [(k, x)]) w6 (by unfold Wd; omega) hQ6 n1 n2 hrf.out.1 (by rw [hlen.out]; omega) hrf.out.2.1).mono ?_
    rintro e w7 ⟨sl7, k7, c7, rfl, hS7, hE7⟩
    go_wp2_with (fail)
    go_ret2
    exact WE.some hfin.out (hE6.trans hE7) hS7

set_option maxRecDepth 100000 in
set_option maxHeartbeats 2000000 in
theorem rdel_1 (s : Option Addr) (N c : Nat) (xs : List Int) (k : Int) (w : World) (hS : WS w s N c xs) (n1 : 1 ≤ N) (n2 : N ≤ 1024) (hx : xs = flatW 1 (slotsW 1 xs)) (hr : rightS xs (1 : Nat) = true) (hk : k ≠ 0) :
    Calls Tryd.prog 22 #[.slice s N c, .int .i64 1, .int .u64 k] w (WE (delS xs (1 : Nat) k) w) := by
  have hm := hS.le
  have HS := Lib.hid hS
  have Hx := Lib.hid hx
  have Hr := Lib.hid hr
  have hkb : (k == 0) = false := by simpa using hk
  have hdiv : RowKit.Hid (xs.length / 1 = N) := Lib.hid (by have h := HS.out.len; rw [h]; simp)
  have href : RowKit.Hid (∀ ys : List Rc, ys.Perm ((slotsW 1 xs).filter isK) → _) := Lib.hid (fun ys hp => del_ref (ys := ys) hS.u64 hr hk hp)
  obtain ⟨so, co, w2, hap, hO, hE0⟩ := clone_words hS 23
  have Hap := Lib.hid hap
  have HO := Lib.hid hO
  clear hap hO hS hx hr hk
  go_enter Tryd.func22, Tryd.ntmps22
  go_wp2_with (at_builtin; refine Lib.wpList_append_run _ rfl _ _ _ _ rfl _ _ rfl rfl _ _ Hap.out ?_)
  refine (rright_any s N c xs 1 true w2 (HS.out.ext hE0) (by unfold I64; omega) (Lib.hid Hr.out.symm)).mono ?_
  rintro e w3 ⟨rfl, hE1⟩
  have hE2 := hE0.trans hE1
  go_wp2_with (fail)
  refine (rrecs_any s N c 1 (slotsW 1 xs) w3 (by unfold Wd; omega) (by rw [← Hx.out]; exact HS.out.ext hE2) (slotsW_thin _ _)).mono ?_
  rintro e w4 ⟨sl, kk, c', ys, rfl, hQ, hp, hE3⟩
  have hrf := Lib.hid (href.out ys hp.1)
  have hkl : RowKit.Hid (ys.length = kk) := Lib.hid hQ.len
  clear hp href
  go_wp2_with (fail)
  refine (rothers_any sl kk c' ys k w4 hQ).mono ?_
  rintro e w5 ⟨v5, rfl, hrow, hE4⟩
  have hE5 := (hE2.trans hE3).trans hE4
  rw [hdiv.out] at hrf
  obtain ⟨l5, el5⟩ : ∃ l5, RowKit.Hid (ys.filter (fun r => decide (r.1 ≠ k)) = l5) := ⟨_, Lib.hid rfl⟩
  rw [el5.out] at hrf hrow
  obtain ⟨sl5, c5, rfl⟩ := own_form hrow
  have hQ5 : RowKit.Hid (QS w5 sl5 l5.length c5 l5) := Lib.hid (qs_of_own hrow rfl (by have := hrf.out.2.2.1; omega) (fun y hy => hrf.out.1.rng y hy))
  obtain ⟨L, eL⟩ : ∃ L, RowKit.Hid (l5.length = L) := ⟨_, Lib.hid rfl⟩
  rw [eL.out, hkl.out] at hrf
  rw [eL.out] at hQ5 ⊢
  have hE25 := Lib.hid ((hE1.trans hE3).trans hE4)
  clear hrow hQ hE4
  by_cases hsame : L = kk
  · subst hsame
    have hfin := Lib.hid (hrf.out.2.2.2.1 rfl)
    go_wp2_with (fail)
    go_ret2
    exact WE.some hfin.out hE5 (HO.out.ext hE25.out)
  · have hfb : ((L : Int) == kk) = false := by simp; omega
    have hfb2 : (L == kk) = false := by simpa using hsame
    have hfin := Lib.hid (hrf.out.2.2.2.2 hsame)
    clear hsame
    go_wp2_with (fail)
    refine (laid_any sl5 L c5 N 1 l5 w5 (by unfold Wd; omega) hQ5.out n1 n2 hrf.out.1 (by rw [eL.out]; exact hrf.out.2.2.1) hrf.out.2.1).mono ?_
    rintro e w7 ⟨sl7, k7, c7, rfl, hS7, hE7⟩
    go_wp2_with (fail)
    go_ret2
    exact WE.some hfin.out (hE5.trans hE7) hS7

set_option maxRecDepth 100000 in
set_option maxHeartbeats 2000000 in
theorem rput_2 (s : Option Addr) (N m c : Nat) (xs : List Int) (k x : Int) (w : World) (hS : WS w s m c xs) (n1 : 1 ≤ N) (n2 : N ≤ 1024) (hM : m = N * 2) (hx : xs = flatW 2 (slotsW 2 xs)) (hr : rightS xs (2 : Nat) = true) (hk : k ≠ 0) (hz : ¬ (2 = 1 ∧ x ≠ 0)) (hu : U64 k) (hv : U64 x) :
    Calls Tryd.prog 20 #[.slice s m c, .int .i64 2, .int .u64 k, .int .u64 x] w (WE (putS xs (2 : Nat) k x) w) := by
  have hm := hS.le
  have hdv : (m : Int).tdiv 2 = N := by rw [quo_2]; omega
  have hNb : N ≤ 1048576 := by omega
  have HM := Lib.hid hM
  have HS := Lib.hid hS
  have Hx := Lib.hid hx
  have Hr := Lib.hid hr
  have hkb : (k == 0) = false := by simpa using hk
  have hdiv : RowKit.Hid (xs.length / 2 = N) := Lib.hid (by have h := HS.out.len; have := HM.out; rw [h]; omega)
  have href : RowKit.Hid (∀ ys : List Rc, ys.Perm ((slotsW 2 xs).filter isK) → _) := Lib.hid (fun ys hp => put_ref (ys := ys) hS.u64 hr hk hz hu hv hp)
  obtain ⟨so, co, w2, hap, hO, hE0⟩ := clone_words hS 23
  obtain ⟨i0, hi, hz0, hz1, hz2⟩ := info_parts info34
  have Hi := Lib.hid hi
  have Hz0 := Lib.hid hz0
  have Hz1 := Lib.hid hz1
  have Hz2 := Lib.hid hz2
  have Hap := Lib.hid hap
  have HO := Lib.hid hO
  clear hap hO hS hx hr hk hz hi hz0 hz1 hz2 hM
  go_enter Tryd.func20, Tryd.ntmps20
  go_wp2_with (at_builtin; refine Lib.wpList_append_run _ rfl _ _ _ _ rfl _ _ rfl rfl _ _ Hap.out ?_)
  refine (rright_any s m c xs 2 true w2 (HS.out.ext hE0) (by unfold I64; omega) (Lib.hid Hr.out.symm)).mono ?_
  rintro e w3 ⟨rfl, hE1⟩
  have hE2 := hE0.trans hE1
  go_wp2_with (fail)
  refine (rrecs_any s m c 2 (slotsW 2 xs) w3 (by unfold Wd; omega) (by rw [← Hx.out]; exact HS.out.ext hE2) (slotsW_thin _ _)).mono ?_
  rintro e w4 ⟨sl, kk, c', ys, rfl, hQ, hp, hE3⟩
  have hrf := Lib.hid (href.out ys hp.1)
  clear hp href
  go_wp2_with (fail)
  refine (rothers_any sl kk c' ys k w4 hQ).mono ?_
  rintro e w5 ⟨v5, rfl, hrow, hE4⟩
  have hE5 := (hE2.trans hE3).trans hE4
  rw [hdiv.out] at hrf
  obtain ⟨l5, el5⟩ : ∃ l5, RowKit.Hid (ys.filter (fun r => decide (r.1 ≠ k)) = l5) := ⟨_, Lib.hid rfl⟩
  rw [el5.out] at hrf hrow
  have hl5 : l5.length ≤ 1024 := by have := hrf.out.2.2.1; rw [List.length_append] at this; simp at this; omega
  have HB5 := Lib.hid hE4.size
  have hrow2 : w5.ownsRow w4.heap.size 34 2 v5 l5.length (flat l5) := hrow
  have hE4X := hE4
  clear hrow hQ hE4
  have hlen : RowKit.Hid ((l5 ++ [(k, x)]).length = l5.length + 1) := Lib.hid (by rw [List.length_append]; rfl)
  rw [hlen.out] at hrf
  by_cases hfull : N < l5.length + 1
  · have hfb : (N : Int) < (l5.length : Int) + 1 := by omega
    have hfin := Lib.hid (hrf.out.2.2.2.1 hfull)
    go_wp2_with (at_builtin; refine wpList_append_own _ rfl _ _ 32 rfl w4.heap.size 34 i0 (.agg #[.int .u64 0, .int .u64 0]) 2 16 Tryd.underlying32 Hi.out Hz0.out Hz1.out Hz2.out rfl (by decide) _ _ _ rfl (hrow2.alloc _) ⟨w5.heap.size, 0, none⟩ 1 1 [.int .u64 k, .int .u64 x] rfl rfl (two_cells _ _ _) (by simp [Value.oneCell']) (by unfold maxLen; omega) (by omega) (by have := HB5.out; simp; omega) ?_; intro v' w6 hown' hgrow _; obtain ⟨sl6, c6, rfl⟩ := own_form hown')
    have hE6 : Ext w w6 := Ext.grown (Ext.alloc hE5 _) hgrow (fun j hj => by have := own_ge hrow2 j hj; have := (hE2.trans hE3).size; omega)
    have hE26 : Ext w2 w6 := Ext.grown (Ext.alloc ((hE1.trans hE3).trans hE4X) _) hgrow (fun j hj => by have := own_ge hrow2 j hj; have := (hE1.trans hE3).size; omega)
    have hQ6 : QS w6 sl6 (l5.length + 1) c6 (l5 ++ [(k, x)]) := qs_of_own (by rw [flat_append]; exact hown') (by simp) (by omega) (fun y hy => hrf.out.1.rng y hy)
    go_ret2
    exact WE.some hfin.out hE6 (HO.out.ext hE26)
  · have hfb : ¬ (N : Int) < (l5.length : Int) + 1 := by omega
    have hfin := Lib.hid (hrf.out.2.2.2.2 (by omega))
    go_wp2_with (at_builtin; refine wpList_append_own _ rfl _ _ 32 rfl w4.heap.size 34 i0 (.agg #[.int .u64 0, .int .u64 0]) 2 16 Tryd.underlying32 Hi.out Hz0.out Hz1.out Hz2.out rfl (by decide) _ _ _ rfl (hrow2.alloc _) ⟨w5.heap.size, 0, none⟩ 1 1 [.int .u64 k, .int .u64 x] rfl rfl (two_cells _ _ _) (by simp [Value.oneCell']) (by unfold maxLen; omega) (by omega) (by have := HB5.out; simp; omega) ?_; intro v' w6 hown' hgrow _; obtain ⟨sl6, c6, rfl⟩ := own_form hown')
    have hE6 : Ext w w6 := Ext.grown (Ext.alloc hE5 _) hgrow (fun j hj => by have := own_ge hrow2 j hj; have := (hE2.trans hE3).size; omega)
    have hE26 : Ext w2 w6 := Ext.grown (Ext.alloc ((hE1.trans hE3).trans hE4X) _) hgrow (fun j hj => by have := own_ge hrow2 j hj; have := (hE1.trans hE3).size; omega)
    have hQ6 : QS w6 sl6 (l5.length + 1) c6 (l5 ++ [(k, x)]) := qs_of_own (by rw [flat_append]; exact hown') (by simp) (by omega) (fun y hy => hrf.out.1.rng y hy)
    refine (laid_any sl6 (l5.length + 1) c6 N 2 (l5 ++ [(k, x)]) w6 (by unfold Wd; omega) hQ6 n1 n2 hrf.out.1 (by rw [hlen.out]; omega) hrf.out.2.1).mono ?_
    rintro e w7 ⟨sl7, k7, c7, rfl, hS7, hE7⟩
    go_wp2_with (fail)
    go_ret2
    exact WE.some hfin.out (hE6.trans hE7) hS7

set_option maxRecDepth 100000 in
set_option maxHeartbeats 2000000 in
theorem rdel_2 (s : Option Addr) (N m c : Nat) (xs : List Int) (k : Int) (w : World) (hS : WS w s m c xs) (n1 : 1 ≤ N) (n2 : N ≤ 1024) (hM : m = N * 2) (hx : xs = flatW 2 (slotsW 2 xs)) (hr : rightS xs (2 : Nat) = true) (hk : k ≠ 0) :
    Calls Tryd.prog 22 #[.slice s m c, .int .i64 2, .int .u64 k] w (WE (delS xs (2 : Nat) k) w) := by
  have hm := hS.le
  have hdv : (m : Int).tdiv 2 = N := by rw [quo_2]; omega
  have hNb : N ≤ 1048576 := by omega
  have HM := Lib.hid hM
  have HS := Lib.hid hS
  have Hx := Lib.hid hx
  have Hr := Lib.hid hr
  have hkb : (k == 0) = false := by simpa using hk
  have hdiv : RowKit.Hid (xs.length / 2 = N) := Lib.hid (by have h := HS.out.len; have := HM.out; rw [h]; omega)
  have href : RowKit.Hid (∀ ys : List Rc, ys.Perm ((slotsW 2 xs).filter isK) → _) := Lib.hid (fun ys hp => del_ref (ys := ys) hS.u64 hr hk hp)
  obtain ⟨so, co, w2, hap, hO, hE0⟩ := clone_words hS 23
  have Hap := Lib.hid hap
  have HO := Lib.hid hO
  clear hap hO hS hx hr hk hM
  go_enter Tryd.func22, Tryd.ntmps22
  go_wp2_with (at_builtin; refine Lib.wpList_append_run _ rfl _ _ _ _ rfl _ _ rfl rfl _ _ Hap.out ?_)
  refine (rright_any s m c xs 2 true w2 (HS.out.ext hE0) (by unfold I64; omega) (Lib.hid Hr.out.symm)).mono ?_
  rintro e w3 ⟨rfl, hE1⟩
  have hE2 := hE0.trans hE1
  go_wp2_with (fail)
  refine (rrecs_any s m c 2 (slotsW 2 xs) w3 (by unfold Wd; omega) (by rw [← Hx.out]; exact HS.out.ext hE2) (slotsW_thin _ _)).mono ?_
  rintro e w4 ⟨sl, kk, c', ys, rfl, hQ, hp, hE3⟩
  have hrf := Lib.hid (href.out ys hp.1)
  have hkl : RowKit.Hid (ys.length = kk) := Lib.hid hQ.len
  clear hp href
  go_wp2_with (fail)
  refine (rothers_any sl kk c' ys k w4 hQ).mono ?_
  rintro e w5 ⟨v5, rfl, hrow, hE4⟩
  have hE5 := (hE2.trans hE3).trans hE4
  rw [hdiv.out] at hrf
  obtain ⟨l5, el5⟩ : ∃ l5, RowKit.Hid (ys.filter (fun r => decide (r.1 ≠ k)) = l5) := ⟨_, Lib.hid rfl⟩
  rw [el5.out] at hrf hrow
  obtain ⟨sl5, c5, rfl⟩ := own_form hrow
  have hQ5 : RowKit.Hid (QS w5 sl5 l5.length c5 l5) := Lib.hid (qs_of_own hrow rfl (by have := hrf.out.2.2.1; omega) (fun y hy => hrf.out.1.rng y hy))
  obtain ⟨L, eL⟩ : ∃ L, RowKit.Hid (l5.length = L) := ⟨_, Lib.hid rfl⟩
  rw [eL.out, hkl.out] at hrf
  rw [eL.out] at hQ5 ⊢
  have hE25 := Lib.hid ((hE1.trans hE3).trans hE4)
  clear hrow hQ hE4
  by_cases hsame : L = kk
  · subst hsame
    have hfin := Lib.hid (hrf.out.2.2.2.1 rfl)
    go_wp2_with (fail)
    go_ret2
    exact WE.some hfin.out hE5 (HO.out.ext hE25.out)
  · have hfb : ((L : Int) == kk) = false := by simp; omega
    have hfb2 : (L == kk) = false := by simpa using hsame
    have hfin := Lib.hid (hrf.out.2.2.2.2 hsame)
    clear hsame
    go_wp2_with (fail)
    refine (laid_any sl5 L c5 N 2 l5 w5 (by unfold Wd; omega) hQ5.out n1 n2 hrf.out.1 (by rw [eL.out]; exact hrf.out.2.2.1) hrf.out.2.1).mono ?_
    rintro e w7 ⟨sl7, k7, c7, rfl, hS7, hE7⟩
    go_wp2_with (fail)
    go_ret2
    exact WE.some hfin.out (hE5.trans hE7) hS7

/-- The document's Put. -/
theorem rput_any (s : Option Addr) (m c : Nat) (xs : List Int) (v k x : Int) (w : World) (hS : WS w s m c xs) (hv : I64 v) (hk : U64 k) (hx : U64 x) :
    Calls Tryd.prog 20 #[.slice s m c, .int .i64 v, .int .u64 k, .int .u64 x] w (WE (putS xs v k x) w) := by
  by_cases h : rightS xs v = false ∨ k = 0 ∨ (v = 1 ∧ x ≠ 0)
  · exact rput_no s m c xs v k x w hS hv h
  · have hr : rightS xs v = true := by
      cases e : rightS xs v with
      | true => rfl
      | false => exact absurd (.inl e) h
    have hk0 : k ≠ 0 := fun e => h (.inr (.inl e))
    have hz : ¬ (v = 1 ∧ x ≠ 0) := fun e => h (.inr (.inr e))
    rcases right_or (v := v) hS with ⟨_, h2⟩ | ⟨u, rfl, hu, hsh, hxx, ht, hl, h1, h2, hrg, hrt⟩
    · rw [h2] at hr; cases hr
    have hm : m = (slotsW u xs).length * u := by rw [← hS.len, ← flatW_len hu, ← hxx]
    rw [← hl] at h1 h2
    rcases hu with rfl | rfl
    · have hm2 : m = (slotsW 1 xs).length := by omega
      rw [← hm2] at h1 h2
      exact rput_1 s m c xs k x w hS h1 h2 hxx hr hk0 (by omega) hk hx
    · exact rput_2 s _ m c xs k x w hS h1 h2 hm hxx hr hk0 (by omega) hk hx
/-- The document's Del. -/
theorem rdel_any (s : Option Addr) (m c : Nat) (xs : List Int) (v k : Int) (w : World) (hS : WS w s m c xs) (hv : I64 v) :
    Calls Tryd.prog 22 #[.slice s m c, .int .i64 v, .int .u64 k] w (WE (delS xs v k) w) := by
  by_cases h : rightS xs v = false ∨ k = 0
  · exact rdel_no s m c xs v k w hS hv h
  · have hr : rightS xs v = true := by
      cases e : rightS xs v with
      | true => rfl
      | false => exact absurd (.inl e) h
    have hk0 : k ≠ 0 := fun e => h (.inr e)
    rcases right_or (v := v) hS with ⟨_, h2⟩ | ⟨u, rfl, hu, hsh, hxx, ht, hl, h1, h2, hrg, hrt⟩
    · rw [h2] at hr; cases hr
    have hm : m = (slotsW u xs).length * u := by rw [← hS.len, ← flatW_len hu, ← hxx]
    rw [← hl] at h1 h2
    rcases hu with rfl | rfl
    · have hm2 : m = (slotsW 1 xs).length := by omega
      rw [← hm2] at h1 h2
      exact rdel_1 s m c xs k w hS h1 h2 hxx hr hk0
    · exact rdel_2 s _ m c xs k w hS h1 h2 hm hxx hr hk0

end Go.Proofs.YtbpgnnogpcppdaaDoor
