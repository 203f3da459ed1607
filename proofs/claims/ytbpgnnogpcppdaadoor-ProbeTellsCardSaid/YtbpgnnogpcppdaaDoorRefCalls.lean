/-
  What the document's own Right, Find, List, Put and Del return. Conditions: the words are there; the integers' bounds.
-/
import Derived.Test.YtbpgnnogpcppdaaDoorRefBuild
namespace Go.Proofs.YtbpgnnogpcppdaaDoor
open Go.RowKit (Below intOf)

theorem rrecs_any (s : Option Addr) (m c v : Nat) (t : List Rc) (w : World) (hv : Wd v) (hL : WS w s m c (flatW v t)) (ht : Thin v t) :
    Calls Tryd.prog 31 #[.slice s m c, .int .i64 v] w fun e w' => ∃ sl k c' ys, e = .returned (.slice sl k c') ∧ QS w' sl k c' ys ∧ (ys.Perm (t.filter isK) ∧ ys.Pairwise fun a b => leK a b = true) ∧ Ext w w' := by
  have hf : ∀ {ys : List Rc}, SomeF t t.length ys → ys.Perm (t.filter isK) ∧ ys.Pairwise fun a b => leK a b = true := fun h => ⟨by have := h.perm; rwa [List.take_of_length_le (Nat.le_refl _)] at this, h.pair⟩
  have hm := hL.len
  rw [flatW_len hv] at hm
  rcases hv with rfl | rfl
  · obtain rfl : t.length = m := by omega
    exact (rrecs_1 s t.length c t w rfl hL ht).mono fun _ _ ⟨sl, k, c', ys, h1, h2, h3, h4⟩ => ⟨sl, k, c', ys, h1, h2, hf h3, h4⟩
  · exact (rrecs_2 s t.length m c t w rfl hm.symm hL ht).mono fun _ _ ⟨sl, k, c', ys, h1, h2, h3, h4⟩ => ⟨sl, k, c', ys, h1, h2, hf h3, h4⟩

theorem shapeN_no {xs : List Int} {m : Nat} {v : Int} (hm : xs.length = m) (h : ¬ Shape xs v) : shapeN m v = 0 := by
  subst hm; unfold Shape at h; unfold shapeN; rw [if_neg h]
theorem shapeN_yes {xs : List Int} {m : Nat} {v : Nat} (hm : xs.length = m) (h : Shape xs v) : shapeN m v = ((xs.length / v : Nat) : Int) := by
  subst hm
  have h' : ((v : Int) = 1 ∨ (v : Int) = 2) ∧ xs.length % (v : Int).toNat = 0 ∧ 1 ≤ xs.length / (v : Int).toNat ∧ xs.length / (v : Int).toNat ≤ 1024 := h
  unfold shapeN; rw [if_pos h']; rfl

/-- The words are a table's, or they are none. -/
theorem right_or {s : Option Addr} {m c : Nat} {xs : List Int} {v : Int} {w : World} (hS : WS w s m c xs) : (¬ Shape xs v ∧ rightS xs v = false) ∨ (∃ u : Nat, v = u ∧ Wd u ∧ Shape xs u ∧ xs = flatW u (slotsW u xs) ∧ Thin u (slotsW u xs) ∧ (slotsW u xs).length = m / u ∧ 1 ≤ m / u ∧ m / u ≤ 1024 ∧ (∀ r ∈ slotsW u xs, Ur r) ∧ rightS xs u = rightT (slotsW u xs)) := by
  by_cases h : Shape xs v
  · obtain ⟨u, rfl, hu, hx, ht, hl, hl2, h1, h2⟩ := shape_parts h
    rw [hS.len] at hl
    refine .inr ⟨u, rfl, hu, h, hx, ht, hl, by omega, by omega, slotsW_rng hS.u64, ?_⟩
    unfold rightS
    rw [decide_eq_true h]; rfl
  · exact .inl ⟨h, by unfold rightS; rw [decide_eq_false h]; rfl⟩

theorem refRight_eq {v : Nat} (hv : Wd v) {t ys : List Rc} {N : Nat} (hN : t.length = N) (h1 : 1 ≤ N) (h2 : N ≤ 1024) (ht : Thin v t) (hr : ∀ r ∈ t, Ur r) (hp : ys.Perm (t.filter isK)) :
    rightT t = (decide ((buildS N v ys).2 = 0) && decide ((buildS N v ys).1 = flatW v t)) := by
  subst hN
  rw [← right_ref hv ht hr hp]
  have hl : ys.length ≤ t.length := by rw [hp.length_eq]; exact List.length_filter_le _ _
  by_cases hm : mayS v ys = true
  · rw [build_ok h1 h2 hv hm hl, hm]; simp
  · have hm' : mayS v ys = false := by simpa using hm
    rw [build_arg (.inr hm'), hm']; simp

set_option maxHeartbeats 1000000 in
/-- The document's Right. -/
theorem rright_any (s : Option Addr) (m c : Nat) (xs : List Int) (v : Int) (r : Bool) (w : World) (hS : WS w s m c xs) (hv : I64 v) (hr : RowKit.Hid (r = rightS xs v)) :
    Calls Tryd.prog 12 #[.slice s m c, .int .i64 v] w fun e w' => e = .returned (.bool r) ∧ Ext w w' := by
  have hm := hS.le
  have HS := Lib.hid hS
  rcases right_or (v := v) hS with ⟨h1, h2⟩ | ⟨u, rfl, hu, hsh, hx, ht, hl, h1, h2, hrg, hrt⟩
  · have hsN := shapeN_no hS.len h1
    have H1 := Lib.hid h1
    obtain rfl : r = false := by rw [hr.out, h2]
    clear h1 h2 hS
    go_enter Tryd.func12, Tryd.ntmps12
    go_wp2_with (fail)
    refine (shape_any s m c v w hm hv).mono ?_
    rintro e w' ⟨rfl, rfl⟩
    go_wp2_with (fail)
    go_ret
    exact ⟨rfl, Ext.refl _⟩
  · have hsN := shapeN_yes hS.len hsh
    rw [hS.len] at hsN
    obtain ⟨N, hN⟩ : ∃ N, m / u = N := ⟨_, rfl⟩
    rw [hN] at hsN hl h1 h2
    have hN0 : ((N : Int) == 0) = false := by simp; omega
    have Hx := Lib.hid hx
    have Hrt := Lib.hid hrt
    have Hl := Lib.hid hl
    obtain ⟨t, et⟩ : ∃ t, RowKit.Hid (slotsW u xs = t) := ⟨_, Lib.hid rfl⟩
    rw [et.out] at Hx Hl ht hrg Hrt
    have Ht := Lib.hid ht
    have Hrg := Lib.hid hrg
    clear hx hrt hl ht hrg hS hN hsh
    go_enter Tryd.func12, Tryd.ntmps12
    go_wp2_with (fail)
    refine (shape_any s m c u w hm hv).mono ?_
    rintro e w' ⟨rfl, rfl⟩
    go_wp2_with (fail)
    refine (rrecs_any s m c u t w hu (by rw [← Hx.out]; exact HS.out) Ht.out).mono ?_
    rintro e w1 ⟨sl, k, c', ys, rfl, hQ, hp, hE1⟩
    have HP := Lib.hid hp
    clear hp
    go_wp2_with (fail)
    refine (rbuild_any N u sl k c' ys w1 hQ).mono ?_
    rintro e w2 ⟨hE2, sb, nb, cb, rfl, hB⟩
    have hfin : RowKit.Hid (r = (decide ((buildS N u ys).2 = 0) && decide ((buildS N u ys).1 = xs))) := Lib.hid (by
      rw [hr.out, Hrt.out, refRight_eq hu Hl.out h1 h2 Ht.out Hrg.out HP.out.1, ← Hx.out])
    have HE := Lib.hid (hE1.trans hE2)
    have HB := Lib.hid hB
    obtain ⟨p, hp⟩ : ∃ p, RowKit.Hid (buildS N u ys = p) := ⟨_, Lib.hid rfl⟩
    rw [hp.out] at hfin HB ⊢
    obtain ⟨ws, er⟩ := p
    dsimp only at hfin HB ⊢
    clear hE1 hE2 hB hQ
    by_cases he : er = 0
    · subst he
      go_wp2_with (fail)
      refine (same_any sb s nb m cb c ws xs (decide (ws = xs)) w2 HB.out (HS.out.ext HE.out) (Lib.hid rfl)).mono ?_
      rintro e w3 ⟨rfl, q, rfl⟩
      go_wp2_with (fail)
      go_ret
      exact ⟨ret_bool (by rw [hfin.out]; simp), HE.out.drewN q⟩
    · have heb : (er == 0) = false := by simpa using he
      have Hf2 : RowKit.Hid (r = false) := Lib.hid (by rw [hfin.out]; simp [he])
      clear he
      go_wp2_with (fail)
      go_ret
      exact ⟨ret_bool Hf2.out.symm, HE.out⟩

set_option maxHeartbeats 1000000 in
/-- The document's List. -/
theorem rlist_any (s : Option Addr) (m c : Nat) (xs : List Int) (v : Int) (w : World) (hS : WS w s m c xs) (hv : I64 v) :
    Calls Tryd.prog 15 #[.slice s m c, .int .i64 v] w fun e w' => (∃ sl k c', e = .returned (.slice sl k c') ∧ QS w' sl k c' (listS xs v)) ∧ Ext w w' := by
  have HS := Lib.hid hS
  by_cases hr : rightS xs v = true
  · rcases right_or (v := v) hS with ⟨_, h2⟩ | ⟨u, rfl, hu, hsh, hx, ht, hl, h1, h2, hrg, hrt⟩
    · rw [h2] at hr; cases hr
    obtain ⟨u', e', hTb⟩ := tb_of_right hS.u64 hr
    obtain rfl : u = u' := by omega
    have hlist : RowKit.Hid (∀ ys : List Rc, ys.Perm ((slotsW u xs).filter isK) → ys.Pairwise (fun a b => leK a b = true) → ys = listS xs u) := Lib.hid (fun ys h1 h2 => by
      rw [hTb.list, ← recs_isK hTb.slots.inv.clean] at *
      exact sortK_one hTb.good.one h1 h2)
    have Hx := Lib.hid hx
    have Ht := Lib.hid ht
    have Hr := Lib.hid hr
    clear hx ht hS hr hTb hrg hrt hl h1 h2 hsh
    go_enter Tryd.func15, Tryd.ntmps15
    go_wp2_with (fail)
    refine (rright_any s m c xs u true w HS.out hv (Lib.hid Hr.out.symm)).mono ?_
    rintro e w1 ⟨rfl, hE1⟩
    go_wp2_with (fail)
    refine (rrecs_any s m c u (slotsW u xs) w1 hu (by rw [← Hx.out]; exact HS.out.ext hE1) Ht.out).mono ?_
    rintro e w2 ⟨sl, k, c', ys, rfl, hQ, hp, hE2⟩
    have hfin : RowKit.Hid (QS w2 sl k c' (listS xs u)) := Lib.hid (by rw [← hlist.out ys hp.1 hp.2]; exact hQ)
    clear hQ hp
    go_wp2_with (fail)
    go_ret
    exact ⟨⟨sl, k, c', rfl, hfin.out⟩, hE1.trans hE2⟩
  · have hr' : rightS xs v = false := by simpa using hr
    have hl : RowKit.Hid (listS xs v = []) := Lib.hid (by unfold listS; rw [if_neg hr])
    have Hr := Lib.hid hr'
    clear hr hr' hS
    go_enter Tryd.func15, Tryd.ntmps15
    go_wp2_with (fail)
    refine (rright_any s m c xs v false w HS.out hv (Lib.hid Hr.out.symm)).mono ?_
    rintro e w1 ⟨rfl, hE1⟩
    go_wp2_with (fail)
    go_ret
    exact ⟨⟨none, 0, 0, rfl, by rw [hl.out]; exact QS.empty _ _ _ (by omega)⟩, hE1⟩

end Go.Proofs.YtbpgnnogpcppdaaDoor
