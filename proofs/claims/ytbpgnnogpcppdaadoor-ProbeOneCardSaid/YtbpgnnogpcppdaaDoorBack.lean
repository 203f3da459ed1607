/-
  The law ProbeBack, walked. Conditions: the package's table lies; the integers' bounds; the raw numbers are there.
-/
import Derived.Test.YtbpgnnogpcppdaaDoorLists
namespace Go.Proofs.YtbpgnnogpcppdaaDoor
open Go.RowKit (Below intOf)

theorem only_one {α : Type} {l : List α} {a : α} (hn : l.Nodup) (hm : a ∈ l) (h : ∀ r ∈ l, r = a) : l = [a] := by
  match l, hn, hm, h with
  | [], _, hm, _ => cases hm
  | [b], _, _, h => rw [h b (List.mem_singleton.2 rfl)]
  | b :: c :: r, hn, _, h =>
    have e1 := h b (by simp)
    have e2 := h c (by simp)
    rw [List.nodup_cons] at hn
    exact absurd (by rw [e1, ← e2]; simp) hn.1
theorem Good.nodup {S : List Rc} (h : Good S) : S.Nodup := (List.pairwise_map.1 h.one).imp fun hne e => hne (by rw [e])
theorem withR_filter (S : List Rc) (k y : Int) : (withR S k y).filter (fun r => decide (r.1 ≠ k)) = S.filter (fun r => decide (r.1 ≠ k)) := by
  unfold withR; rw [List.filter_append, List.filter_filter]; simp
theorem others_self {S : List Rc} {k : Int} (h : ∀ v, (k, v) ∉ S) : S.filter (fun r => decide (r.1 ≠ k)) = S := by
  rw [List.filter_eq_self]
  intro r hr
  refine decide_eq_true fun e => h r.2 ?_
  rw [← e]; exact hr
theorem withR_new {S : List Rc} {k : Int} (h : ∀ v, (k, v) ∉ S) (y : Int) : withR S k y = S ++ [(k, y)] := by unfold withR; rw [others_self h]
theorem withR_same {S : List Rc} (hG : Good S) {k x : Int} (hm : (k, x) ∈ S) : (withR S k x).Perm S := by
  have h1 := List.filter_append_perm (fun r : Rc => decide (r.1 ≠ k)) S
  have h2 : S.filter (fun r => !decide (r.1 ≠ k)) = [(k, x)] := by
    refine only_one (hG.nodup.filter _) (List.mem_filter.2 ⟨hm, by simp⟩) (fun r hr => ?_)
    obtain ⟨a, b⟩ := List.mem_filter.1 hr
    have : r.1 = k := by simpa using b
    exact key_inj hG.one a hm this
  unfold withR
  rw [h2] at h1
  exact h1
theorem withR_len {S : List Rc} (hG : Good S) {k x : Int} (hm : (k, x) ∈ S) (y : Int) : (withR S k y).length = S.length := by
  have := (withR_same hG hm).length_eq
  unfold withR at this ⊢
  rw [List.length_append] at this ⊢
  exact this
theorem Tb.listLen {w n : Nat} {xs : List Int} {S : List Rc} (h : Tb w n xs S) : (listS xs w).length = S.length := by rw [h.list]; exact (sortK_perm S).length_eq

/-- A key that is not there: put, found, taken out again. -/
theorem back_no {w n : Nat} {xs : List Int} {S : List Rc} (h : Tb w n xs S) {k y : Int} (hk : k ≠ 0) (hu : U64 k) (hy : U64 y) (hz : ¬ (w = 1 ∧ y ≠ 0)) (hno : ∀ v, (k, v) ∉ S) :
    (S.length = n ∧ putS xs w k y = (xs, 11)) ∨ ∃ (ys : List Int) (p : Nat), putS xs w k y = (ys, 0) ∧ findS ys w k = ((p : Int), true) ∧ (slotsW w ys)[p]? = some (k, y) ∧ p < n ∧ ys.length = n * w ∧ delS ys w k = (xs, 0) ∧ (listS ys w).length = S.length + 1 := by
  have hl : (withR S k y).length = S.length + 1 := by rw [withR_new hno, List.length_append]; rfl
  have hle := h.le
  by_cases hf : S.length + 1 ≤ n
  · right
    obtain ⟨h1, h2⟩ := h.put hk hu hy hz (by rw [hl]; exact hf)
    obtain ⟨ys, hys⟩ : ∃ ys, (putS xs w k y).1 = ys := ⟨_, rfl⟩
    rw [hys] at h2
    have hm : (k, y) ∈ withR S k y := by unfold withR; simp
    have hd := h2.del hk hm
    rw [withR_filter, others_self hno] at hd
    rcases h2.find hk with ⟨p, v, e, hp, hv, hn⟩ | ⟨_, hn⟩
    · obtain rfl : v = y := by
        have := key_inj h2.good.one hv hm rfl
        exact (Prod.mk.injEq _ _ _ _ ▸ this).2
      exact ⟨ys, p, Prod.ext hys h1, e, hp, hn, h2.len, Prod.ext (hd.2.same h (List.Perm.refl _)) hd.1, by rw [h2.listLen, hl]⟩
    · exact absurd hm (hn y)
  · exact .inl ⟨by omega, h.put_full hk hz (by rw [hl]; omega)⟩
/-- A key that is there: found, taken out, put again; its word put anew. -/
theorem back_yes {w n : Nat} {xs : List Int} {S : List Rc} (h : Tb w n xs S) {k x y : Int} (hk : k ≠ 0) (hu : U64 k) (hy : U64 y) (hz : ¬ (w = 1 ∧ y ≠ 0)) (hm : (k, x) ∈ S) :
    ∃ (ys zs : List Int), delS xs w k = (ys, 0) ∧ findS ys w k = (0, false) ∧ putS ys w k x = (xs, 0) ∧ putS xs w k y = (zs, 0) ∧ (listS zs w).length = S.length := by
  obtain ⟨h1, h2⟩ := h.del hk hm
  obtain ⟨ys, hys⟩ : ∃ ys, (delS xs w k).1 = ys := ⟨_, rfl⟩
  rw [hys] at h2
  have hno : ∀ v, (k, v) ∉ S.filter (fun r => decide (r.1 ≠ k)) := fun v hv => by
    have := (List.mem_filter.1 hv).2
    simp at this
  have hzx : ¬ (w = 1 ∧ x ≠ 0) := fun ⟨e, hx⟩ => hx (h.thin e _ hm)
  have hux : U64 x := (h.good.rng _ hm).2
  have hp2 : (withR (S.filter (fun r => decide (r.1 ≠ k))) k x).Perm S := by
    have := withR_same h.good hm
    unfold withR at this ⊢
    rw [others_self hno]; exact this
  obtain ⟨h3, h4⟩ := h2.put hk hu hux hzx (by rw [hp2.length_eq]; exact h.le)
  obtain ⟨h5, h6⟩ := h.put hk hu hy hz (by rw [withR_len h.good hm]; exact h.le)
  obtain ⟨zs, hzs⟩ : ∃ zs, (putS xs w k y).1 = zs := ⟨_, rfl⟩
  rw [hzs] at h6
  refine ⟨ys, zs, Prod.ext hys h1, ?_, Prod.ext (h4.same h hp2) h3, Prod.ext hzs h5, by rw [h6.listLen, withR_len h.good hm]⟩
  rcases h2.find hk with ⟨p, v, _, _, hv, _⟩ | ⟨e, _⟩
  · exact absurd hv (hno v)
  · exact e

set_option maxRecDepth 100000 in
set_option maxHeartbeats 2000000 in
theorem back_1 (a b : Int) (sr : Option Addr) (nr cr : Nat) (rs : List Int) (k val : Int) (w : World) (hT : Tab w) (ha : I64 a) (hb : I64 b) (hR : IS w sr nr rs) (hk : I64 k) (hval : U64 val) (hv : pick b 2 = 0) :
    Calls Tryd.prog 6 #[.int .i64 a, .int .i64 b, .slice sr nr cr, .int .i64 k, .int .u64 val] w fun e w' => e = .returned (.bool true) ∧ Ext w w' := by
  have HT := Lib.hid hT
  have HR := Lib.hid hR
  have Ha := Lib.hid ha
  have Hb := Lib.hid hb
  have Hk := Lib.hid hk
  have Hv := Lib.hid hv
  obtain ⟨hval0, hval1⟩ := hval
  clear hT hR ha hb hv hk
  go_enter Tryd.func6, Tryd.ntmps6
  go_wp2_with (fail)
  refine (awake_any w HT.out).mono ?_
  rintro e w1 ⟨rfl, hE1⟩
  go_wp2_with (fail)
  refine (table_1 a b sr nr cr rs w1 Ha.out Hb.out (HR.out.ext hE1) Hv.out).mono ?_
  rintro e w2 ⟨hE2, sl, n, c, xs, S, rfl, hS, hTb⟩
  obtain ⟨N, hNe⟩ : ∃ N, (1 + pick a 12).toNat = N := ⟨_, rfl⟩
  rw [hNe] at hTb
  clear hNe
  have hnb := hTb.nb
  have hle := hTb.le
  have hlen := hTb.len
  rw [hS.len] at hlen
  have hn : n = N := by omega
  have hsn : S.length * 1 ≤ n := by omega
  have hEX := Lib.hid (hE1.trans hE2)
  have HLL := Lib.hid hTb.listLen
  have HTb := Lib.hid hTb
  have Hn := Lib.hid hn
  clear hTb hE1 hE2 hlen
  have hn2 := hn.symm
  subst hn2
  clear hn
  have hm := hS.le
  have HS := Lib.hid hS
  clear hS
  go_wp2_with (fail)
  refine (key_any k w2 Hk.out.1 Hk.out.2).mono ?_
  rintro e w' ⟨rfl, rfl⟩
  obtain ⟨K, eK⟩ : ∃ K, RowKit.Hid (keyOf k = K) := ⟨_, Lib.hid rfl⟩
  have hK0 : RowKit.Hid (K ≠ 0) := Lib.hid (by rw [← eK.out]; exact keyOf_pos k)
  have hKu : RowKit.Hid (U64 K) := Lib.hid (by rw [← eK.out]; exact keyOf_u k)
  rw [eK.out]
  rcases HTb.out.find hK0.out with ⟨p, x, hf, hsp, hmS, hp⟩ | ⟨hf, hno⟩
  · -- it is there
    obtain ⟨ys, zs, d1, d2, d3, d4, d5⟩ := back_yes HTb.out (y := 0) hK0.out hKu.out (by unfold U64; omega) (by omega) hmS
    have hx0 : x = 0 := HTb.out.thin rfl _ hmS
    rw [hx0] at d3
    clear hx0
    have Hf := Lib.hid hf
    have D1 := Lib.hid d1
    have D2 := Lib.hid d2
    have D3 := Lib.hid d3
    have D4 := Lib.hid d4
    have D5 := Lib.hid d5
    have Hux := Lib.hid (HTb.out.good.rng _ hmS).2
    clear d1 d2 d3 d4 d5 hf
    have hxp := slotw_1 hsp (by have := HTb.out.div; omega)
    obtain ⟨p0, hxp0, _, bt, ot, rfl, d0⟩ := HS.out.get (k := p) (by have := Hn.out; omega)
    rw [hxp] at hxp0
    cases hxp0
    clear hxp
    clear hsp hmS
    have k1 := find_any (some ⟨bt, ot, none⟩) N c xs 1 K w2 (HT.out.ext hEX.out) HS.out hKu.out
    have e1 : findS xs 1 K = _ := Hf.out
    rw [e1] at k1
    have K1 := Lib.hid k1
    clear k1 e1
    go_wp2_with (fail)
    refine K1.out.mono ?_
    rintro e w3 ⟨hE3, rfl⟩
    clear K1
    replace d0 := hE3.cell d0
    have HE3 := Lib.hid hE3
    clear hE3
    dsimp only
    have hp0 : decide ((p : Int) < 0) = false := decide_eq_false (by omega)
    have hpn : (p : Int) < N := by omega
    have hpg : decide (N ≤ p) = false := decide_eq_false (by omega)
    go_wp2_with (fail)
    have k1 := del_any (some ⟨bt, ot, none⟩) N c xs 1 K w3 (HT.out.ext (hEX.out.trans HE3.out)) (HS.out.ext HE3.out) hKu.out
    have e1 : delS xs 1 K = _ := D1.out
    rw [e1] at k1
    refine k1.mono ?_
    rintro e w4 ⟨hE4, s4, n4, c4, rfl, h4⟩
    clear k1 e1 d0
    dsimp only at h4 ⊢
    have HE4 := Lib.hid (HE3.out.trans hE4)
    clear hE4
    go_wp2_with (fail)
    have k1 := find_any s4 n4 c4 ys 1 K w4 (HT.out.ext (hEX.out.trans HE4.out)) h4 hKu.out
    have e1 : findS ys 1 K = _ := D2.out
    rw [e1] at k1
    refine k1.mono ?_
    rintro e w5 ⟨hE5, rfl⟩
    clear k1 e1
    dsimp only
    replace h4 := h4.ext hE5
    have HE5 := Lib.hid (HE4.out.trans hE5)
    clear hE5
    go_wp2_with (fail)
    have k1 := put_any s4 n4 c4 ys 1 K 0 w5 (HT.out.ext (hEX.out.trans HE5.out)) h4 hKu.out (by unfold U64; omega)
    have e1 : putS ys 1 K 0 = _ := D3.out
    rw [e1] at k1
    refine k1.mono ?_
    rintro e w6 ⟨hE6, s6, n6, c6, rfl, h6⟩
    clear k1 e1 h4
    dsimp only at h6 ⊢
    have HE6 := Lib.hid (HE5.out.trans hE6)
    clear hE6
    go_wp2_with (fail)
    have k1 := put_any (some ⟨bt, ot, none⟩) N c xs 1 K 0 w6 (HT.out.ext (hEX.out.trans HE6.out)) (HS.out.ext HE6.out) hKu.out (by unfold U64; omega)
    have e1 : putS xs 1 K 0 = _ := D4.out
    rw [e1] at k1
    refine k1.mono ?_
    rintro e w7 ⟨hE7, s7, n7, c7, rfl, h7⟩
    clear k1 e1
    dsimp only at h7 ⊢
    replace h6 := h6.ext hE7
    have HE7 := Lib.hid (HE6.out.trans hE7)
    clear hE7
    go_wp2_with (fail)
    refine (same_any s6 (some ⟨bt, ot, none⟩) n6 N c6 c xs xs true w7 h6 (HS.out.ext HE7.out) (Lib.hid (by simp))).mono ?_
    rintro e w8 ⟨rfl, q8, hq8⟩
    have HE8 := Lib.hid (show Ext w7 w8 by rw [hq8]; exact Ext.draws w7 q8)
    clear hq8
    go_wp2_with (fail)
    refine (list_any s7 n7 c7 zs 1 w8 (HT.out.ext ((hEX.out.trans HE7.out).trans HE8.out)) (h7.ext HE8.out)).mono ?_
    rintro e w9 ⟨⟨s9, n9, c9, rfl, hQ9⟩, hE9⟩
    have e9 : n9 = S.length := hQ9.len.symm.trans D5.out
    subst e9
    have HE9 := Lib.hid (HE8.out.trans hE9)
    clear hE9
    go_wp2_with (fail)
    refine (list_any (some ⟨bt, ot, none⟩) N c xs 1 w9 (HT.out.ext ((hEX.out.trans HE7.out).trans HE9.out)) (HS.out.ext (HE7.out.trans HE9.out))).mono ?_
    rintro e w10 ⟨⟨s10, n10, c10, rfl, hQ10⟩, hE10⟩
    have e10 : n10 = S.length := hQ10.len.symm.trans HLL.out
    subst e10
    have hfin := Lib.hid (((hEX.out.trans HE7.out).trans HE9.out).trans hE10)
    clear hE10 hQ9 hQ10
    go_wp2_with (fail)
    go_ret
    exact ⟨rfl, hfin.out⟩
  · -- it is not
    have Hf := Lib.hid hf
    have k1 := find_any sl N c xs 1 K w2 (HT.out.ext hEX.out) HS.out hKu.out
    have e1 : findS xs 1 K = _ := Hf.out
    rw [e1] at k1
    have K1 := Lib.hid k1
    clear k1 e1 hf
    go_wp2_with (fail)
    refine K1.out.mono ?_
    rintro e w3 ⟨hE3, rfl⟩
    clear K1
    dsimp only
    have HE3 := Lib.hid hE3
    clear hE3
    rcases back_no HTb.out (y := 0) hK0.out hKu.out (by unfold U64; omega) (by omega) hno with ⟨f1, f2⟩ | ⟨ys, p, f1, f2, hsp, hp, f4, f5, f6⟩
    · have F2 := Lib.hid f2
      have hsn2 : S.length * 1 = N := by have := Hn.out; omega
      clear f2 hno f1
      go_wp2_with (fail)
      have k1 := put_any sl N c xs 1 K 0 w3 (HT.out.ext (hEX.out.trans HE3.out)) (HS.out.ext HE3.out) hKu.out (by unfold U64; omega)
      have e1 : putS xs 1 K 0 = _ := F2.out
      rw [e1] at k1
      refine k1.mono ?_
      rintro e w4 ⟨hE4, s4, n4, c4, rfl, h4⟩
      clear k1 e1
      dsimp only at h4 ⊢
      have HE4 := Lib.hid (HE3.out.trans hE4)
      clear hE4
      go_wp2_with (fail)
      refine (same_any s4 sl n4 N c4 c xs xs true w4 h4 (HS.out.ext HE4.out) (Lib.hid (by simp))).mono ?_
      rintro e w5 ⟨rfl, q5, hq5⟩
      have HE5 := Lib.hid (show Ext w4 w5 by rw [hq5]; exact Ext.draws w4 q5)
      clear hq5
      go_wp2_with (fail)
      refine (list_any sl N c xs 1 w5 (HT.out.ext ((hEX.out.trans HE4.out).trans HE5.out)) (HS.out.ext (HE4.out.trans HE5.out))).mono ?_
      rintro e w6 ⟨⟨s6, n6, c6, rfl, hQ6⟩, hE6⟩
      have e6 : n6 = S.length := hQ6.len.symm.trans HLL.out
      subst e6
      have hfin := Lib.hid (((hEX.out.trans HE4.out).trans HE5.out).trans hE6)
      clear hE6 hQ6
      go_wp2_with (fail)
      go_ret
      exact ⟨ret_bool (by first | rfl | exact beq_iff_eq.2 (by omega)), hfin.out⟩
    · have F1 := Lib.hid f1
      have F2 := Lib.hid f2
      have F5 := Lib.hid f5
      have F6 := Lib.hid f6
      clear f1 f2 f5 f6 hno
      go_wp2_with (fail)
      have k1 := put_any sl N c xs 1 K 0 w3 (HT.out.ext (hEX.out.trans HE3.out)) (HS.out.ext HE3.out) hKu.out (by unfold U64; omega)
      have e1 : putS xs 1 K 0 = _ := F1.out
      rw [e1] at k1
      refine k1.mono ?_
      rintro e w4 ⟨hE4, s4, n4, c4, rfl, h4⟩
      clear k1 e1
      dsimp only at h4 ⊢
      have e4 : n4 = N := by have := h4.len; omega
      have HE4 := Lib.hid (HE3.out.trans hE4)
      clear hE4
      have e5 := e4.symm
      subst e5
      go_wp2_with (fail)
      have k1 := find_any s4 N c4 ys 1 K w4 (HT.out.ext (hEX.out.trans HE4.out)) h4 hKu.out
      have e1 : findS ys 1 K = _ := F2.out
      rw [e1] at k1
      refine k1.mono ?_
      rintro e w5 ⟨hE5, rfl⟩
      clear k1 e1
      dsimp only
      replace h4 := h4.ext hE5
      have HE5 := Lib.hid (HE4.out.trans hE5)
      clear hE5
      go_wp2_with (fail)
      have k1 := del_any s4 N c4 ys 1 K w5 (HT.out.ext (hEX.out.trans HE5.out)) h4 hKu.out
      have e1 : delS ys 1 K = _ := F5.out
      rw [e1] at k1
      refine k1.mono ?_
      rintro e w6 ⟨hE6, s6, n6, c6, rfl, h6⟩
      clear k1 e1
      dsimp only at h6 ⊢
      replace h4 := h4.ext hE6
      have HE6 := Lib.hid (HE5.out.trans hE6)
      clear hE6
      have hxp := slotw_1 hsp (by omega)
      obtain ⟨p0, hxp0, _, bt, ot, rfl, d0⟩ := h4.get (k := p) (by omega)
      rw [hxp] at hxp0
      cases hxp0
      clear hxp
      clear hsp
      have H4 := Lib.hid h4
      have H6 := Lib.hid h6
      clear h4 h6
      have hp0 : decide ((0 : Int) ≤ (p : Int)) = true := decide_eq_true (by omega)
      have hpg : (p : Int) < N := by omega
      go_wp2_with (fail)
      refine (same_any s6 sl n6 N c6 c xs xs true w6 H6.out (HS.out.ext HE6.out) (Lib.hid (by simp))).mono ?_
      rintro e w7 ⟨rfl, q7, hq7⟩
      have HE7 := Lib.hid (show Ext w6 w7 by rw [hq7]; exact Ext.draws w6 q7)
      clear hq7
      go_wp2_with (fail)
      refine (list_any _ N c4 ys 1 w7 (HT.out.ext ((hEX.out.trans HE6.out).trans HE7.out)) (H4.out.ext HE7.out)).mono ?_
      rintro e w8 ⟨⟨s8, n8, c8, rfl, hQ8⟩, hE8⟩
      have e8 : n8 = S.length + 1 := hQ8.len.symm.trans F6.out
      subst e8
      have HE8 := Lib.hid (HE7.out.trans hE8)
      clear hE8
      go_wp2_with (fail)
      refine (list_any sl N c xs 1 w8 (HT.out.ext ((hEX.out.trans HE6.out).trans HE8.out)) (HS.out.ext (HE6.out.trans HE8.out))).mono ?_
      rintro e w9 ⟨⟨s9, n9, c9, rfl, hQ9⟩, hE9⟩
      have e9 : n9 = S.length := hQ9.len.symm.trans HLL.out
      subst e9
      have hfin := Lib.hid (((hEX.out.trans HE6.out).trans HE8.out).trans hE9)
      clear hE9 hQ8 hQ9
      go_wp2_with (fail)
      go_ret
      exact ⟨rfl, hfin.out⟩

set_option maxRecDepth 100000 in
set_option maxHeartbeats 2000000 in
theorem back_2 (a b : Int) (sr : Option Addr) (nr cr : Nat) (rs : List Int) (k val : Int) (w : World) (hT : Tab w) (ha : I64 a) (hb : I64 b) (hR : IS w sr nr rs) (hk : I64 k) (hval : U64 val) (hv : pick b 2 = 1) :
    Calls Tryd.prog 6 #[.int .i64 a, .int .i64 b, .slice sr nr cr, .int .i64 k, .int .u64 val] w fun e w' => e = .returned (.bool true) ∧ Ext w w' := by
  have HT := Lib.hid hT
  have HR := Lib.hid hR
  have Ha := Lib.hid ha
  have Hb := Lib.hid hb
  have Hk := Lib.hid hk
  have Hv := Lib.hid hv
  obtain ⟨hval0, hval1⟩ := hval
  clear hT hR ha hb hv hk
  go_enter Tryd.func6, Tryd.ntmps6
  go_wp2_with (fail)
  refine (awake_any w HT.out).mono ?_
  rintro e w1 ⟨rfl, hE1⟩
  go_wp2_with (fail)
  refine (table_2 a b sr nr cr rs w1 Ha.out Hb.out (HR.out.ext hE1) Hv.out).mono ?_
  rintro e w2 ⟨hE2, sl, n, c, xs, S, rfl, hS, hTb⟩
  obtain ⟨N, hNe⟩ : ∃ N, (1 + pick a 12).toNat = N := ⟨_, rfl⟩
  rw [hNe] at hTb
  clear hNe
  have hnb := hTb.nb
  have hle := hTb.le
  have hlen := hTb.len
  rw [hS.len] at hlen
  have hn : n = N * 2 := by omega
  have hsn : S.length * 2 ≤ n := by omega
  have hEX := Lib.hid (hE1.trans hE2)
  have HLL := Lib.hid hTb.listLen
  have HTb := Lib.hid hTb
  have Hn := Lib.hid hn
  clear hTb hE1 hE2 hlen hn
  have hm := hS.le
  have HS := Lib.hid hS
  clear hS
  go_wp2_with (fail)
  refine (key_any k w2 Hk.out.1 Hk.out.2).mono ?_
  rintro e w' ⟨rfl, rfl⟩
  obtain ⟨K, eK⟩ : ∃ K, RowKit.Hid (keyOf k = K) := ⟨_, Lib.hid rfl⟩
  have hK0 : RowKit.Hid (K ≠ 0) := Lib.hid (by rw [← eK.out]; exact keyOf_pos k)
  have hKu : RowKit.Hid (U64 K) := Lib.hid (by rw [← eK.out]; exact keyOf_u k)
  rw [eK.out]
  rcases HTb.out.find hK0.out with ⟨p, x, hf, hsp, hmS, hp⟩ | ⟨hf, hno⟩
  · -- it is there
    obtain ⟨ys, zs, d1, d2, d3, d4, d5⟩ := back_yes HTb.out (y := val) hK0.out hKu.out (by unfold U64; omega) (by omega) hmS
    have Hf := Lib.hid hf
    have D1 := Lib.hid d1
    have D2 := Lib.hid d2
    have D3 := Lib.hid d3
    have D4 := Lib.hid d4
    have D5 := Lib.hid d5
    have Hux := Lib.hid (HTb.out.good.rng _ hmS).2
    clear d1 d2 d3 d4 d5 hf
    have hxp := slotw_2 hsp (by have := HTb.out.div; omega)
    obtain ⟨p0, hxp0, _, bt, ot, rfl, d0⟩ := HS.out.get (k := p * 2) (by have := Hn.out; omega)
    rw [hxp.1] at hxp0
    cases hxp0
    obtain ⟨p1, hxp1, _, bt1, ot1, ebt, d1⟩ := HS.out.get (k := p * 2 + 1) (by have := Hn.out; omega)
    rw [hxp.2] at hxp1
    cases hxp1
    cases ebt
    clear hxp
    have hp2 : (p : Int) * 2 < n := by have := Hn.out; omega
    have hp3 : (p : Int) * 2 + 1 < n := by have := Hn.out; omega
    have hp4 : ((p : Int) * 2).toNat = p * 2 := by omega
    have hp5 : ((p : Int) * 2 + 1).toNat = p * 2 + 1 := by omega
    clear hsp hmS
    have k1 := find_any (some ⟨bt, ot, none⟩) n c xs 2 K w2 (HT.out.ext hEX.out) HS.out hKu.out
    have e1 : findS xs 2 K = _ := Hf.out
    rw [e1] at k1
    have K1 := Lib.hid k1
    clear k1 e1
    go_wp2_with (fail)
    refine K1.out.mono ?_
    rintro e w3 ⟨hE3, rfl⟩
    clear K1
    replace d0 := hE3.cell d0
    replace d1 := hE3.cell d1
    have HE3 := Lib.hid hE3
    clear hE3
    dsimp only
    have hp0 : decide ((p : Int) < 0) = false := decide_eq_false (by omega)
    have hpn : (p : Int) < N := by omega
    have hpg : decide ((n : Int) ≤ p * 2) = false := decide_eq_false (by omega)
    have hpg2 : decide (n ≤ p * 2) = false := decide_eq_false (by omega)
    go_wp2_with (fail)
    have k1 := del_any (some ⟨bt, ot, none⟩) n c xs 2 K w3 (HT.out.ext (hEX.out.trans HE3.out)) (HS.out.ext HE3.out) hKu.out
    have e1 : delS xs 2 K = _ := D1.out
    rw [e1] at k1
    refine k1.mono ?_
    rintro e w4 ⟨hE4, s4, n4, c4, rfl, h4⟩
    clear k1 e1 d0 d1
    dsimp only at h4 ⊢
    have HE4 := Lib.hid (HE3.out.trans hE4)
    clear hE4
    go_wp2_with (fail)
    have k1 := find_any s4 n4 c4 ys 2 K w4 (HT.out.ext (hEX.out.trans HE4.out)) h4 hKu.out
    have e1 : findS ys 2 K = _ := D2.out
    rw [e1] at k1
    refine k1.mono ?_
    rintro e w5 ⟨hE5, rfl⟩
    clear k1 e1
    dsimp only
    replace h4 := h4.ext hE5
    have HE5 := Lib.hid (HE4.out.trans hE5)
    clear hE5
    go_wp2_with (fail)
    have k1 := put_any s4 n4 c4 ys 2 K x w5 (HT.out.ext (hEX.out.trans HE5.out)) h4 hKu.out Hux.out
    have e1 : putS ys 2 K x = _ := D3.out
    rw [e1] at k1
    refine k1.mono ?_
    rintro e w6 ⟨hE6, s6, n6, c6, rfl, h6⟩
    clear k1 e1 h4
    dsimp only at h6 ⊢
    have HE6 := Lib.hid (HE5.out.trans hE6)
    clear hE6
    go_wp2_with (fail)
    have k1 := put_any (some ⟨bt, ot, none⟩) n c xs 2 K val w6 (HT.out.ext (hEX.out.trans HE6.out)) (HS.out.ext HE6.out) hKu.out (by unfold U64; omega)
    have e1 : putS xs 2 K val = _ := D4.out
    rw [e1] at k1
    refine k1.mono ?_
    rintro e w7 ⟨hE7, s7, n7, c7, rfl, h7⟩
    clear k1 e1
    dsimp only at h7 ⊢
    replace h6 := h6.ext hE7
    have HE7 := Lib.hid (HE6.out.trans hE7)
    clear hE7
    go_wp2_with (fail)
    refine (same_any s6 (some ⟨bt, ot, none⟩) n6 n c6 c xs xs true w7 h6 (HS.out.ext HE7.out) (Lib.hid (by simp))).mono ?_
    rintro e w8 ⟨rfl, q8, hq8⟩
    have HE8 := Lib.hid (show Ext w7 w8 by rw [hq8]; exact Ext.draws w7 q8)
    clear hq8
    go_wp2_with (fail)
    refine (list_any s7 n7 c7 zs 2 w8 (HT.out.ext ((hEX.out.trans HE7.out).trans HE8.out)) (h7.ext HE8.out)).mono ?_
    rintro e w9 ⟨⟨s9, n9, c9, rfl, hQ9⟩, hE9⟩
    have e9 : n9 = S.length := hQ9.len.symm.trans D5.out
    subst e9
    have HE9 := Lib.hid (HE8.out.trans hE9)
    clear hE9
    go_wp2_with (fail)
    refine (list_any (some ⟨bt, ot, none⟩) n c xs 2 w9 (HT.out.ext ((hEX.out.trans HE7.out).trans HE9.out)) (HS.out.ext (HE7.out.trans HE9.out))).mono ?_
    rintro e w10 ⟨⟨s10, n10, c10, rfl, hQ10⟩, hE10⟩
    have e10 : n10 = S.length := hQ10.len.symm.trans HLL.out
    subst e10
    have hfin := Lib.hid (((hEX.out.trans HE7.out).trans HE9.out).trans hE10)
    clear hE10 hQ9 hQ10
    go_wp2_with (fail)
    go_ret
    exact ⟨rfl, hfin.out⟩
  · -- it is not
    have Hf := Lib.hid hf
    have k1 := find_any sl n c xs 2 K w2 (HT.out.ext hEX.out) HS.out hKu.out
    have e1 : findS xs 2 K = _ := Hf.out
    rw [e1] at k1
    have K1 := Lib.hid k1
    clear k1 e1 hf
    go_wp2_with (fail)
    refine K1.out.mono ?_
    rintro e w3 ⟨hE3, rfl⟩
    clear K1
    dsimp only
    have HE3 := Lib.hid hE3
    clear hE3
    rcases back_no HTb.out (y := val) hK0.out hKu.out (by unfold U64; omega) (by omega) hno with ⟨f1, f2⟩ | ⟨ys, p, f1, f2, hsp, hp, f4, f5, f6⟩
    · have F2 := Lib.hid f2
      have hsn2 : S.length * 2 = n := by have := Hn.out; omega
      clear f2 hno f1
      go_wp2_with (fail)
      have k1 := put_any sl n c xs 2 K val w3 (HT.out.ext (hEX.out.trans HE3.out)) (HS.out.ext HE3.out) hKu.out (by unfold U64; omega)
      have e1 : putS xs 2 K val = _ := F2.out
      rw [e1] at k1
      refine k1.mono ?_
      rintro e w4 ⟨hE4, s4, n4, c4, rfl, h4⟩
      clear k1 e1
      dsimp only at h4 ⊢
      have HE4 := Lib.hid (HE3.out.trans hE4)
      clear hE4
      go_wp2_with (fail)
      refine (same_any s4 sl n4 n c4 c xs xs true w4 h4 (HS.out.ext HE4.out) (Lib.hid (by simp))).mono ?_
      rintro e w5 ⟨rfl, q5, hq5⟩
      have HE5 := Lib.hid (show Ext w4 w5 by rw [hq5]; exact Ext.draws w4 q5)
      clear hq5
      go_wp2_with (fail)
      refine (list_any sl n c xs 2 w5 (HT.out.ext ((hEX.out.trans HE4.out).trans HE5.out)) (HS.out.ext (HE4.out.trans HE5.out))).mono ?_
      rintro e w6 ⟨⟨s6, n6, c6, rfl, hQ6⟩, hE6⟩
      have e6 : n6 = S.length := hQ6.len.symm.trans HLL.out
      subst e6
      have hfin := Lib.hid (((hEX.out.trans HE4.out).trans HE5.out).trans hE6)
      clear hE6 hQ6
      have hw2 : ((S.length : Int) * 2 == (n : Int)) = true := by simp; omega
      go_wp2_with (fail)
      go_ret
      exact ⟨ret_bool (by first | rfl | exact beq_iff_eq.2 (by omega)), hfin.out⟩
    · have F1 := Lib.hid f1
      have F2 := Lib.hid f2
      have F5 := Lib.hid f5
      have F6 := Lib.hid f6
      clear f1 f2 f5 f6 hno
      go_wp2_with (fail)
      have k1 := put_any sl n c xs 2 K val w3 (HT.out.ext (hEX.out.trans HE3.out)) (HS.out.ext HE3.out) hKu.out (by unfold U64; omega)
      have e1 : putS xs 2 K val = _ := F1.out
      rw [e1] at k1
      refine k1.mono ?_
      rintro e w4 ⟨hE4, s4, n4, c4, rfl, h4⟩
      clear k1 e1
      dsimp only at h4 ⊢
      have e4 : n4 = N * 2 := by have := h4.len; omega
      have HE4 := Lib.hid (HE3.out.trans hE4)
      clear hE4
      have E4 := Lib.hid e4
      clear e4
      go_wp2_with (fail)
      have k1 := find_any s4 n4 c4 ys 2 K w4 (HT.out.ext (hEX.out.trans HE4.out)) h4 hKu.out
      have e1 : findS ys 2 K = _ := F2.out
      rw [e1] at k1
      refine k1.mono ?_
      rintro e w5 ⟨hE5, rfl⟩
      clear k1 e1
      dsimp only
      replace h4 := h4.ext hE5
      have HE5 := Lib.hid (HE4.out.trans hE5)
      clear hE5
      go_wp2_with (fail)
      have k1 := del_any s4 n4 c4 ys 2 K w5 (HT.out.ext (hEX.out.trans HE5.out)) h4 hKu.out
      have e1 : delS ys 2 K = _ := F5.out
      rw [e1] at k1
      refine k1.mono ?_
      rintro e w6 ⟨hE6, s6, n6, c6, rfl, h6⟩
      clear k1 e1
      dsimp only at h6 ⊢
      replace h4 := h4.ext hE6
      have HE6 := Lib.hid (HE5.out.trans hE6)
      clear hE6
      have hxp := slotw_2 hsp (by omega)
      obtain ⟨p0, hxp0, _, bt, ot, rfl, d0⟩ := h4.get (k := p * 2) (by have := E4.out; omega)
      rw [hxp.1] at hxp0
      cases hxp0
      obtain ⟨p1, hxp1, _, bt1, ot1, ebt, d1⟩ := h4.get (k := p * 2 + 1) (by have := E4.out; omega)
      rw [hxp.2] at hxp1
      cases hxp1
      cases ebt
      clear hxp
      have hp2 : (p : Int) * 2 < n4 := by have := E4.out; omega
      have hp3 : (p : Int) * 2 + 1 < n4 := by have := E4.out; omega
      have hp4 : ((p : Int) * 2).toNat = p * 2 := by omega
      have hp5 : ((p : Int) * 2 + 1).toNat = p * 2 + 1 := by omega
      clear hsp
      have H4 := Lib.hid h4
      have H6 := Lib.hid h6
      clear h4 h6
      have hp0 : decide ((0 : Int) ≤ (p : Int)) = true := decide_eq_true (by omega)
      go_wp2_with (fail)
      refine (same_any s6 sl n6 n c6 c xs xs true w6 H6.out (HS.out.ext HE6.out) (Lib.hid (by simp))).mono ?_
      rintro e w7 ⟨rfl, q7, hq7⟩
      have HE7 := Lib.hid (show Ext w6 w7 by rw [hq7]; exact Ext.draws w6 q7)
      clear hq7
      go_wp2_with (fail)
      refine (list_any _ n4 c4 ys 2 w7 (HT.out.ext ((hEX.out.trans HE6.out).trans HE7.out)) (H4.out.ext HE7.out)).mono ?_
      rintro e w8 ⟨⟨s8, n8, c8, rfl, hQ8⟩, hE8⟩
      have e8 : n8 = S.length + 1 := hQ8.len.symm.trans F6.out
      subst e8
      have HE8 := Lib.hid (HE7.out.trans hE8)
      clear hE8
      go_wp2_with (fail)
      refine (list_any sl n c xs 2 w8 (HT.out.ext ((hEX.out.trans HE6.out).trans HE8.out)) (HS.out.ext (HE6.out.trans HE8.out))).mono ?_
      rintro e w9 ⟨⟨s9, n9, c9, rfl, hQ9⟩, hE9⟩
      have e9 : n9 = S.length := hQ9.len.symm.trans HLL.out
      subst e9
      have hfin := Lib.hid (((hEX.out.trans HE6.out).trans HE8.out).trans hE9)
      clear hE9 hQ8 hQ9
      go_wp2_with (fail)
      go_ret
      exact ⟨rfl, hfin.out⟩

/-- The law, walked. -/
theorem back_walk (a b : Int) (sr : Option Addr) (nr cr : Nat) (rs : List Int) (k val : Int) (w : World) (hT : Tab w) (ha : I64 a) (hb : I64 b) (hR : IS w sr nr rs) (hk : I64 k) (hval : U64 val) :
    Calls Tryd.prog 6 #[.int .i64 a, .int .i64 b, .slice sr nr cr, .int .i64 k, .int .u64 val] w fun e w' => e = .returned (.bool true) ∧ Below w.heap.size w w' := by
  have h2 := pick_bd (c := b) (n := 2) (by omega)
  rcases (by omega : pick b 2 = 0 ∨ pick b 2 = 1) with h | h
  · exact back_1 a b sr nr cr rs k val w hT ha hb hR hk hval h
  · exact back_2 a b sr nr cr rs k val w hT ha hb hR hk hval h

end Go.Proofs.YtbpgnnogpcppdaaDoor
