/-
  The law ProbeLists, walked. Conditions: the package's table lies; the integers' bounds; the raw numbers are there.
-/
import Derived.Test.YtbpgnnogpcppdaaDoorTable
namespace Go.Proofs.YtbpgnnogpcppdaaDoor
open Go.RowKit (Below intOf)

theorem Tb.build {w n : Nat} {xs : List Int} {S M : List Rc} (h : Tb w n xs S) (p : M.Perm S) : buildS n w M = (xs, 0) := by
  have hG := h.good.perm p.symm
  have ht := h.thin.perm p.symm
  have hm : mayS w M = true := by
    unfold mayS
    rw [(valid_good (fun r hr => hG.rng r hr)).2 hG, thin_B.2 ht]; rfl
  have hl : M.length ≤ n := by rw [p.length_eq]; exact h.le
  rw [build_ok h.n1 h.n2 h.wd hm hl]
  exact Prod.ext ((Tb.make h.wd h.n1 h.n2 hG hl ht).same h p) rfl
theorem Tb.count {w n : Nat} {xs : List Int} {S : List Rc} (h : Tb w n xs S) : ((slotsW w xs).filter isK).length = S.length := by
  rw [← recs_isK h.slots.inv.clean]; exact h.slots.recs.length_eq
/-- What List holds is found, with its word. -/
theorem Tb.listed {w n : Nat} {xs : List Int} {S : List Rc} (h : Tb w n xs S) {i : Nat} {k x : Int} (hi : (sortK S)[i]? = some (k, x)) : ∃ p : Nat, findS xs w k = ((p : Int), true) ∧ (slotsW w xs)[p]? = some (k, x) ∧ p < n := by
  have hm : (k, x) ∈ S := (sortK_perm S).mem_iff.1 (List.mem_of_getElem? hi)
  have hk := h.good.key _ hm
  rcases h.find hk with ⟨p, v, e, hp, hv, hn⟩ | ⟨_, hn⟩
  · obtain rfl : v = x := by
      have := key_inj h.good.one hv hm rfl
      exact (Prod.mk.injEq _ _ _ _ ▸ this).2
    exact ⟨p, e, hp, hn⟩
  · exact absurd hm (hn x)
theorem sortK_lt {S : List Rc} (h : (S.map (·.1)).Nodup) {i : Nat} {a b : Rc} (ha : (sortK S)[i]? = some a) (hb : (sortK S)[i + 1]? = some b) : a.1 < b.1 := by
  have hp := sortK_pair S
  have hn : ((sortK S).map (·.1)).Nodup := ((sortK_perm S).map _).nodup_iff.2 h
  obtain ⟨h1, e1⟩ := List.getElem?_eq_some_iff.1 ha
  obtain ⟨h2, e2⟩ := List.getElem?_eq_some_iff.1 hb
  have hle := List.pairwise_iff_getElem.1 hp i (i + 1) h1 h2 (by omega)
  have hne := List.pairwise_iff_getElem.1 hn i (i + 1) (by simpa using h1) (by simpa using h2) (by omega)
  rw [e1, e2] at hle
  simp only [List.getElem_map, e1, e2] at hne
  unfold leK at hle
  simp at hle
  exact Int.lt_iff_le_and_ne.2 ⟨hle, hne⟩
/-- A table's words, read by slots. -/
theorem slotw_1 {xs : List Int} {p : Nat} {r : Rc} (h : (slotsW 1 xs)[p]? = some r) (hp : p < xs.length / 1) : xs[p]? = some r.1 := by
  rw [slotsW_get hp] at h
  have h := Option.some.inj h
  rw [← h]
  have hl : p < xs.length := by omega
  simp [List.getElem?_eq_getElem hl]
theorem slotw_2 {xs : List Int} {p : Nat} {r : Rc} (h : (slotsW 2 xs)[p]? = some r) (hp : p < xs.length / 2) : xs[p * 2]? = some r.1 ∧ xs[p * 2 + 1]? = some r.2 := by
  rw [slotsW_get hp] at h
  have h := Option.some.inj h
  rw [← h]
  have hl : p * 2 < xs.length := by omega
  have hl2 : p * 2 + 1 < xs.length := by omega
  simp [List.getElem?_eq_getElem hl, List.getElem?_eq_getElem hl2]
/-- How many of the first slots are taken. -/
def cnt (t : List Rc) (j : Nat) : Nat := ((t.take j).filter isK).length
theorem cnt_le (t : List Rc) (j : Nat) : cnt t j ≤ j := by
  unfold cnt; have := List.length_filter_le isK (t.take j); rw [List.length_take] at this; omega
theorem cnt_yes {t : List Rc} {j : Nat} {r : Rc} (h : t[j]? = some r) (hr : r.1 ≠ 0) : cnt t (j + 1) = cnt t j + 1 := by
  unfold cnt; rw [take_snoc h, List.filter_append, List.length_append]; simp [isK, hr]
theorem cnt_no {t : List Rc} {j : Nat} {r : Rc} (h : t[j]? = some r) (hr : r.1 = 0) : cnt t (j + 1) = cnt t j := by
  unfold cnt; rw [take_snoc h, List.filter_append, List.length_append]; simp [isK, hr]
theorem cnt_all {t : List Rc} : cnt t t.length = (t.filter isK).length := by unfold cnt; rw [List.take_length]

set_option maxRecDepth 100000 in
set_option maxHeartbeats 1500000 in
theorem lists_1 (a b : Int) (sr : Option Addr) (nr cr : Nat) (rs : List Int) (w : World) (hT : Tab w) (ha : I64 a) (hb : I64 b) (hR : IS w sr nr rs) (hv : pick b 2 = 0) :
    Calls Tryd.prog 7 #[.int .i64 a, .int .i64 b, .slice sr nr cr] w fun e w' => e = .returned (.bool true) ∧ Ext w w' := by
  have HT := Lib.hid hT
  have HR := Lib.hid hR
  have Ha := Lib.hid ha
  have Hb := Lib.hid hb
  have Hv := Lib.hid hv
  clear hT hR ha hb hv
  go_enter Tryd.func7, Tryd.ntmps7
  go_wp2_with (fail)
  refine (awake_any w HT.out).mono ?_
  rintro e w1 ⟨rfl, hE1⟩
  go_wp2_with (fail)
  refine (table_1 a b sr nr cr rs w1 Ha.out Hb.out (HR.out.ext hE1) Hv.out).mono ?_
  rintro e w2 ⟨hE2, sl, n, c, xs, S, rfl, hS, hTb⟩
  obtain ⟨N, hNe⟩ : ∃ N, (1 + pick a 12).toNat = N := ⟨_, rfl⟩
  rw [hNe] at hTb
  clear hNe
  have hnb := hTb.nb
  have hle := hTb.le
  have hlen := hTb.len
  have hsl : (slotsW 1 xs).length = N := by rw [slotsW_len]; exact hTb.div
  rw [hS.len] at hlen
  have hn : n = N := by omega
  have Hlist := Lib.hid hTb.list
  have hEX := hE1.trans hE2
  obtain ⟨l, el⟩ : ∃ l, RowKit.Hid (sortK S = l) := ⟨_, Lib.hid rfl⟩
  have hll : RowKit.Hid (l.length = S.length) := Lib.hid (by rw [← el.out]; exact (sortK_perm S).length_eq)
  have hl12 : l.length ≤ N := by rw [hll.out]; exact hle
  have HTb := Lib.hid hTb
  have Hsl := Lib.hid hsl
  have Hn := Lib.hid hn
  clear hTb hsl hE1 hE2 hlen hle
  have hn2 := hn.symm
  subst hn2
  clear hn
  obtain ⟨t, et⟩ : ∃ t, RowKit.Hid (slotsW 1 xs = t) := ⟨_, Lib.hid rfl⟩
  have hct : RowKit.Hid (cnt t N = l.length) := Lib.hid (by rw [hll.out, ← HTb.out.count, et.out, ← Hsl.out, et.out]; exact cnt_all)
  go_wp2_with (fail)
  have k1 := list_any sl N c xs 1 w2 (HT.out.ext hEX) hS
  have e1 : listS xs 1 = _ := Hlist.out
  rw [e1, el.out] at k1
  refine k1.mono ?_
  rintro e w3 ⟨⟨s3, n3, c3, rfl, hQ⟩, hE3⟩
  replace hEX := hEX.trans hE3
  replace hS := hS.ext hE3
  have hn3 := hQ.len
  have hm3 := hQ.le
  subst hn3
  clear k1 e1 hE3
  have HS := Lib.hid hS
  have HQ := Lib.hid hQ
  have HE := Lib.hid hEX
  clear hS hQ hEX
  go_wp2_with (fail)
  go_loop [11, 12] (fun m i => ∃ (j : Nat), j ≤ N ∧ i = .int .i64 j ∧ m = .int .i64 (cnt t j : Nat)) (fun _ i => N - (intOf i).toNat)
  case atStart => exact ⟨0, by omega, rfl, rfl⟩
  case round =>
    obtain ⟨j, hj, rfl, rfl⟩ := hrel
    have hcj := cnt_le t j
    by_cases hlt : j < N
    · have hjn : (j : Int) < N := by omega
      obtain ⟨p, hx, up, ba, oa, rfl, d0⟩ := HS.out.get (k := j) (by have := Hn.out; omega)
      obtain ⟨r, hr⟩ : ∃ r, t[j]? = some r := ⟨_, List.getElem?_eq_getElem (by rw [← et.out, Hsl.out]; exact hlt)⟩
      have hrp : r.1 = p := by
        have h0 := slotw_1 (xs := xs) (p := j) (by rw [et.out]; exact hr) (by have := HTb.out.div; omega)
        rw [h0] at hx
        exact Option.some.inj hx
      by_cases hp : p = 0
      · subst hp
        have hc := Lib.hid (cnt_no hr hrp)
        clear hr hrp hx
        go_wp2_with (fail)
        go_round
        case rel => exact ⟨j + 1, by omega, by go_num, by rw [hc.out]⟩
        case measure => simp [intOf]; omega
      · have hpb : (p != 0) = true := by simpa using hp
        have hc := Lib.hid (cnt_yes hr (by rw [hrp]; exact hp))
        clear hr hrp hx hp
        go_wp2_with (fail)
        go_round
        case rel => exact ⟨j + 1, by omega, by go_num, by rw [hc.out]; go_num⟩
        case measure => simp [intOf]; omega
    · obtain rfl : N = j := by omega
      rw [hct.out]
      go_wp2_with (fail)
      go_loopw [13] (fun i wr => ∃ (j : Nat), j ≤ l.length ∧ i = .int .i64 j ∧ RowKit.Hid (Ext w3 wr)) (fun i _ => l.length - (intOf i).toNat)
      case atStart => exact ⟨0, by omega, rfl, Lib.hid (Ext.refl w3)⟩
      case round =>
        obtain ⟨i, hi, rfl, hEr⟩ := hrel
        by_cases hlt : i < l.length
        · have hil : (i : Int) < (l.length : Int) := by omega
          obtain ⟨k, x, hx, uk, ux, bq, oq, rfl, q0, q1⟩ := (HQ.out.ext hEr.out).get hlt
          have hx0 := hx
          rw [← el.out] at hx
          obtain ⟨p, hf, hsp, hp⟩ := HTb.out.listed hx
          have hxp := slotw_1 hsp (by have := HTb.out.div; omega)
          obtain ⟨p0, hxp0, _, bt, ot, rfl, d0⟩ := (HS.out.ext hEr.out).get (k := p) (by have := Hn.out; omega)
          rw [hxp] at hxp0
          cases hxp0
          clear hxp
          have Hf := Lib.hid hf
          have hpn : (p : Int) < N := by omega
          have hp0 : decide ((p : Int) < 0) = false := decide_eq_false (by omega)
          have hpw : IntKind.i64.wrap (p : Int) = p := IntWalk.i64_in _ (by omega)
          have hpg : decide (N ≤ p) = false := decide_eq_false (by omega)
          clear hf hsp
          have k1 := find_any (some ⟨bt, ot, none⟩) N c xs 1 k wr (HT.out.ext (HE.out.trans hEr.out)) (HS.out.ext hEr.out) uk
          have e1 : findS xs 1 k = _ := Hf.out
          rw [e1] at k1
          have K1 := Lib.hid k1
          clear k1 e1
          rcases i with _ | i
          · simp only [Nat.zero_mul, Nat.add_zero] at q0 q1
            go_wp2_with (fail)
            refine K1.out.mono ?_
            rintro e w4 ⟨hE4, rfl⟩
            clear K1
            have q0 := hE4.cell q0
            have q1 := hE4.cell q1
            have d0 := hE4.cell d0
            have HE4 := Lib.hid (hEr.out.trans hE4)
            clear hE4 hx hx0
            dsimp only
            go_wp2_with (fail)
            go_big_quiet (fail)
            go_wp2_with (fail)
            go_roundw
            case rel => exact ⟨0 + 1, by omega, by go_num, Lib.hid (HE4.out.drewN _)⟩
            case measure => simp [intOf]; omega
          · obtain ⟨k', x', hx', uk', _, bq', oq', ebq, r0, _⟩ := (HQ.out.ext hEr.out).get (k := i) (by omega)
            cases ebq
            rw [← el.out] at hx'
            have hlt2 : k' < k := sortK_lt HTb.out.good.one hx' hx
            have hge : (decide (k ≤ k')) = false := decide_eq_false (by omega)
            clear hx hx' hx0
            go_wp2_with (fail)
            refine K1.out.mono ?_
            rintro e w4 ⟨hE4, rfl⟩
            clear K1
            have q0 := hE4.cell q0
            have q1 := hE4.cell q1
            have r0 := hE4.cell r0
            have d0 := hE4.cell d0
            have HE4 := Lib.hid (hEr.out.trans hE4)
            clear hE4
            have hi1 : IntKind.i64.wrap ((i : Int) + 1 - 1) = i := by rw [IntWalk.i64_in _ (by omega)]; omega
            have hi2 : IntKind.i64.wrap (i : Int) = i := IntWalk.i64_in _ (by omega)
            have hi0 : (0 : Int) < (i : Int) + 1 := by omega
            have hi3 : (i : Int) < (l.length : Int) := by omega
            dsimp only
            go_wp2_with (fail)
            go_big_quiet (fail)
            go_wp2_with (fail)
            go_roundw
            case rel => exact ⟨i + 1 + 1, by omega, by go_num, Lib.hid (HE4.out.drewN _)⟩
            case measure => simp [intOf]; omega
        · obtain rfl : i = l.length := by omega
          have hEf := HE.out.trans hEr.out
          have k1 := build_any N 1 s3 l.length c3 l wr (HT.out.ext hEf) (HQ.out.ext hEr.out)
          have e1 : buildS N 1 l = _ := HTb.out.build (by rw [← el.out]; exact sortK_perm S)
          rw [e1] at k1
          have K1 := Lib.hid k1
          clear k1 e1
          go_wp2_with (fail)
          refine K1.out.mono ?_
          rintro e w4 ⟨hE4, s4, n4, c4, rfl, h4⟩
          dsimp only at h4 ⊢
          clear K1
          go_wp2_with (fail)
          refine (same_any s4 sl n4 N c4 c xs xs true w4 h4 (HS.out.ext (hEr.out.trans hE4)) (Lib.hid (by simp))).mono ?_
          rintro e w5 ⟨rfl, q5, hq5⟩
          have hE5 := Lib.hid (show Ext w w5 by rw [hq5]; exact (hEf.trans hE4).drewN q5)
          clear hq5
          go_wp2_with (fail)
          go_ret
          exact ⟨rfl, hE5.out⟩

set_option maxRecDepth 100000 in
set_option maxHeartbeats 1500000 in
theorem lists_2 (a b : Int) (sr : Option Addr) (nr cr : Nat) (rs : List Int) (w : World) (hT : Tab w) (ha : I64 a) (hb : I64 b) (hR : IS w sr nr rs) (hv : pick b 2 = 1) :
    Calls Tryd.prog 7 #[.int .i64 a, .int .i64 b, .slice sr nr cr] w fun e w' => e = .returned (.bool true) ∧ Ext w w' := by
  have HT := Lib.hid hT
  have HR := Lib.hid hR
  have Ha := Lib.hid ha
  have Hb := Lib.hid hb
  have Hv := Lib.hid hv
  clear hT hR ha hb hv
  go_enter Tryd.func7, Tryd.ntmps7
  go_wp2_with (fail)
  refine (awake_any w HT.out).mono ?_
  rintro e w1 ⟨rfl, hE1⟩
  go_wp2_with (fail)
  refine (table_2 a b sr nr cr rs w1 Ha.out Hb.out (HR.out.ext hE1) Hv.out).mono ?_
  rintro e w2 ⟨hE2, sl, n, c, xs, S, rfl, hS, hTb⟩
  obtain ⟨N, hNe⟩ : ∃ N, (1 + pick a 12).toNat = N := ⟨_, rfl⟩
  rw [hNe] at hTb
  clear hNe
  have hnb := hTb.nb
  have hle := hTb.le
  have hlen := hTb.len
  have hsl : (slotsW 2 xs).length = N := by rw [slotsW_len]; exact hTb.div
  rw [hS.len] at hlen
  have hn : n = N * 2 := by omega
  have Hlist := Lib.hid hTb.list
  have hEX := hE1.trans hE2
  obtain ⟨l, el⟩ : ∃ l, RowKit.Hid (sortK S = l) := ⟨_, Lib.hid rfl⟩
  have hll : RowKit.Hid (l.length = S.length) := Lib.hid (by rw [← el.out]; exact (sortK_perm S).length_eq)
  have hl12 : l.length ≤ N := by rw [hll.out]; exact hle
  have HTb := Lib.hid hTb
  have Hsl := Lib.hid hsl
  have Hn := Lib.hid hn
  clear hTb hsl hE1 hE2 hlen hle hn
  obtain ⟨t, et⟩ : ∃ t, RowKit.Hid (slotsW 2 xs = t) := ⟨_, Lib.hid rfl⟩
  have hct : RowKit.Hid (cnt t N = l.length) := Lib.hid (by rw [hll.out, ← HTb.out.count, et.out, ← Hsl.out, et.out]; exact cnt_all)
  have hdv : (n : Int).tdiv 2 = N := by rw [quo_2]; have := Hn.out; omega
  go_wp2_with (fail)
  have k1 := list_any sl n c xs 2 w2 (HT.out.ext hEX) hS
  have e1 : listS xs 2 = _ := Hlist.out
  rw [e1, el.out] at k1
  refine k1.mono ?_
  rintro e w3 ⟨⟨s3, n3, c3, rfl, hQ⟩, hE3⟩
  replace hEX := hEX.trans hE3
  replace hS := hS.ext hE3
  have hn3 := hQ.len
  have hm3 := hQ.le
  subst hn3
  clear k1 e1 hE3
  have HS := Lib.hid hS
  have HQ := Lib.hid hQ
  have HE := Lib.hid hEX
  clear hS hQ hEX
  go_wp2_with (fail)
  go_loop [11, 12] (fun m i => ∃ (j : Nat), j ≤ N ∧ i = .int .i64 j ∧ m = .int .i64 (cnt t j : Nat)) (fun _ i => N - (intOf i).toNat)
  case atStart => exact ⟨0, by omega, rfl, rfl⟩
  case round =>
    obtain ⟨j, hj, rfl, rfl⟩ := hrel
    have hcj := cnt_le t j
    by_cases hlt : j < N
    · have hjn : (j : Int) < N := by omega
      have hj2 : (j : Int) * 2 < n := by have := Hn.out; omega
      have hj4 : ((j : Int) * 2).toNat = j * 2 := by omega
      obtain ⟨p, hx, up, ba, oa, rfl, d0⟩ := HS.out.get (k := j * 2) (by have := Hn.out; omega)
      obtain ⟨r, hr⟩ : ∃ r, t[j]? = some r := ⟨_, List.getElem?_eq_getElem (by rw [← et.out, Hsl.out]; exact hlt)⟩
      have hrp : r.1 = p := by
        have h0 := (slotw_2 (xs := xs) (p := j) (by rw [et.out]; exact hr) (by have := HTb.out.div; omega)).1
        rw [h0] at hx
        exact Option.some.inj hx
      by_cases hp : p = 0
      · subst hp
        have hc := Lib.hid (cnt_no hr hrp)
        clear hr hrp hx
        go_wp2_with (fail)
        go_round
        case rel => exact ⟨j + 1, by omega, by go_num, by rw [hc.out]⟩
        case measure => simp [intOf]; omega
      · have hpb : (p != 0) = true := by simpa using hp
        have hc := Lib.hid (cnt_yes hr (by rw [hrp]; exact hp))
        clear hr hrp hx hp
        go_wp2_with (fail)
        go_round
        case rel => exact ⟨j + 1, by omega, by go_num, by rw [hc.out]; go_num⟩
        case measure => simp [intOf]; omega
    · obtain rfl : N = j := by omega
      rw [hct.out]
      go_wp2_with (fail)
      go_loopw [13] (fun i wr => ∃ (j : Nat), j ≤ l.length ∧ i = .int .i64 j ∧ RowKit.Hid (Ext w3 wr)) (fun i _ => l.length - (intOf i).toNat)
      case atStart => exact ⟨0, by omega, rfl, Lib.hid (Ext.refl w3)⟩
      case round =>
        obtain ⟨i, hi, rfl, hEr⟩ := hrel
        by_cases hlt : i < l.length
        · have hil : (i : Int) < (l.length : Int) := by omega
          obtain ⟨k, x, hx, uk, ux, bq, oq, rfl, q0, q1⟩ := (HQ.out.ext hEr.out).get hlt
          have hx0 := hx
          rw [← el.out] at hx
          obtain ⟨p, hf, hsp, hp⟩ := HTb.out.listed hx
          have hxp := slotw_2 hsp (by have := HTb.out.div; omega)
          obtain ⟨p0, hxp0, _, bt, ot, rfl, d0⟩ := (HS.out.ext hEr.out).get (k := p * 2) (by have := Hn.out; omega)
          rw [hxp.1] at hxp0
          cases hxp0
          obtain ⟨p1, hxp1, _, bt1, ot1, ebt, d1⟩ := (HS.out.ext hEr.out).get (k := p * 2 + 1) (by have := Hn.out; omega)
          rw [hxp.2] at hxp1
          cases hxp1
          cases ebt
          clear hxp
          have hp2 : (p : Int) * 2 < n := by have := Hn.out; omega
          have hp3 : (p : Int) * 2 + 1 < n := by have := Hn.out; omega
          have hp4 : ((p : Int) * 2).toNat = p * 2 := by omega
          have hp5 : ((p : Int) * 2 + 1).toNat = p * 2 + 1 := by omega
          have Hf := Lib.hid hf
          have hpn : (p : Int) < N := by omega
          have hp0 : decide ((p : Int) < 0) = false := decide_eq_false (by omega)
          have hpw : IntKind.i64.wrap ((p : Int) * 2) = p * 2 := IntWalk.i64_in _ (by omega)
          have hpw2 : IntKind.i64.wrap ((p : Int) * 2 + 1) = p * 2 + 1 := IntWalk.i64_in _ (by omega)
          have hpg : decide ((n : Int) ≤ p * 2) = false := decide_eq_false (by omega)
          have hpg2 : decide (n ≤ p * 2) = false := decide_eq_false (by omega)
          clear hf hsp
          have k1 := find_any (some ⟨bt, ot, none⟩) n c xs 2 k wr (HT.out.ext (HE.out.trans hEr.out)) (HS.out.ext hEr.out) uk
          have e1 : findS xs 2 k = _ := Hf.out
          rw [e1] at k1
          have K1 := Lib.hid k1
          clear k1 e1
          rcases i with _ | i
          · simp only [Nat.zero_mul, Nat.add_zero] at q0 q1
            go_wp2_with (fail)
            refine K1.out.mono ?_
            rintro e w4 ⟨hE4, rfl⟩
            clear K1
            have q0 := hE4.cell q0
            have q1 := hE4.cell q1
            have d0 := hE4.cell d0
            have d1 := hE4.cell d1
            have HE4 := Lib.hid (hEr.out.trans hE4)
            clear hE4 hx hx0
            dsimp only
            go_wp2_with (fail)
            go_big_quiet (fail)
            go_wp2_with (fail)
            go_roundw
            case rel => exact ⟨0 + 1, by omega, by go_num, Lib.hid (HE4.out.drewN _)⟩
            case measure => simp [intOf]; omega
          · obtain ⟨k', x', hx', uk', _, bq', oq', ebq, r0, _⟩ := (HQ.out.ext hEr.out).get (k := i) (by omega)
            cases ebq
            rw [← el.out] at hx'
            have hlt2 : k' < k := sortK_lt HTb.out.good.one hx' hx
            have hge : (decide (k ≤ k')) = false := decide_eq_false (by omega)
            clear hx hx' hx0
            go_wp2_with (fail)
            refine K1.out.mono ?_
            rintro e w4 ⟨hE4, rfl⟩
            clear K1
            have q0 := hE4.cell q0
            have q1 := hE4.cell q1
            have r0 := hE4.cell r0
            have d0 := hE4.cell d0
            have d1 := hE4.cell d1
            have HE4 := Lib.hid (hEr.out.trans hE4)
            clear hE4
            have hi1 : IntKind.i64.wrap ((i : Int) + 1 - 1) = i := by rw [IntWalk.i64_in _ (by omega)]; omega
            have hi2 : IntKind.i64.wrap (i : Int) = i := IntWalk.i64_in _ (by omega)
            have hi0 : (0 : Int) < (i : Int) + 1 := by omega
            have hi3 : (i : Int) < (l.length : Int) := by omega
            dsimp only
            go_wp2_with (fail)
            go_big_quiet (fail)
            go_wp2_with (fail)
            go_roundw
            case rel => exact ⟨i + 1 + 1, by omega, by go_num, Lib.hid (HE4.out.drewN _)⟩
            case measure => simp [intOf]; omega
        · obtain rfl : i = l.length := by omega
          have hEf := HE.out.trans hEr.out
          have k1 := build_any N 2 s3 l.length c3 l wr (HT.out.ext hEf) (HQ.out.ext hEr.out)
          have e1 : buildS N 2 l = _ := HTb.out.build (by rw [← el.out]; exact sortK_perm S)
          rw [e1] at k1
          have K1 := Lib.hid k1
          clear k1 e1
          go_wp2_with (fail)
          refine K1.out.mono ?_
          rintro e w4 ⟨hE4, s4, n4, c4, rfl, h4⟩
          dsimp only at h4 ⊢
          clear K1
          go_wp2_with (fail)
          refine (same_any s4 sl n4 n c4 c xs xs true w4 h4 (HS.out.ext (hEr.out.trans hE4)) (Lib.hid (by simp))).mono ?_
          rintro e w5 ⟨rfl, q5, hq5⟩
          have hE5 := Lib.hid (show Ext w w5 by rw [hq5]; exact (hEf.trans hE4).drewN q5)
          clear hq5
          go_wp2_with (fail)
          go_ret
          exact ⟨rfl, hE5.out⟩

/-- The law, walked. -/
theorem lists_walk (a b : Int) (sr : Option Addr) (nr cr : Nat) (rs : List Int) (w : World) (hT : Tab w) (ha : I64 a) (hb : I64 b) (hR : IS w sr nr rs) :
    Calls Tryd.prog 7 #[.int .i64 a, .int .i64 b, .slice sr nr cr] w fun e w' => e = .returned (.bool true) ∧ Below w.heap.size w w' := by
  have h2 := pick_bd (c := b) (n := 2) (by omega)
  rcases (by omega : pick b 2 = 0 ∨ pick b 2 = 1) with h | h
  · exact lists_1 a b sr nr cr rs w hT ha hb hR h
  · exact lists_2 a b sr nr cr rs w hT ha hb hR h

end Go.Proofs.YtbpgnnogpcppdaaDoor
