/-
  What others, Put and Del return. Conditions: the words are there; the integers' bounds; the package's table lies.
-/
import Derived.Test.YtbpgnnogpcppdaaDoorStruck
namespace Go.Proofs.YtbpgnnogpcppdaaDoor
open Go.RowKit (Below intOf)

theorem own_mono {w : World} {b1 b2 : Nat} {e : TypeId} {size n : Nat} {v : Value} {xs : List Value} (h : w.ownsRow b2 e size v n xs) (hb : b1 ≤ b2) : w.ownsRow b1 e size v n xs := by
  refine ⟨h.1, ?_⟩
  rcases h.2 with h2 | ⟨g, cap, cur, e, hb2, r⟩
  · exact .inl h2
  · exact .inr ⟨g, cap, cur, e, Nat.le_trans hb hb2, r⟩

set_option maxHeartbeats 1000000 in
theorem others_any (s : Option Addr) (m c v : Nat) (t : List Rc) (k : Int) (w : World) (hv : Wd v) (hS : WS w s m c (flatW v t)) (ht : Thin v t) (h1 : 1 ≤ t.length) (h2 : t.length ≤ 1024) (hrg : ∀ r ∈ t, Ur r) :
    Calls Tryd.prog 38 #[.slice s m c, .int .i64 v, .int .u64 k] w fun e w' => ∃ sl c', e = .returned (.slice sl (othersT t k).length c') ∧ w'.ownsRow w.heap.size 34 2 (.slice sl (othersT t k).length c') (othersT t k).length (flat (othersT t k)) ∧ Ext w w' := by
  have bk := Boxed.new w 24 (.int .u64 k)
  have hR := Lib.hid (recs_any s m c v t (w.alloc (.cells #[.int .u64 k] 24)) hv (hS.ext (Ext.new w _)) ht h1 h2)
  have hlen := recs_le t
  have hD := Lib.hid (fun (u : Value) (W : World) (ho : W.ownsRow (w.heap.size + 1) 34 2 u (recs t).length (flat (recs t))) (hb : Boxed W w.heap.size 24 (.int .u64 k)) => delete_any u (w.heap.size + 1) _ w.heap.size (recs t) k W ho rfl (by omega) (recs_rng hrg) hb)
  clear hS ht hrg h1 h2
  go_enter Tryd.func38, Tryd.ntmps38
  go_wp2_with (fail)
  refine hR.out.mono ?_
  rintro e w1 ⟨u, rfl, hrow, hE1⟩
  have bk1 : Boxed w1 w.heap.size 24 (.int .u64 k) := (hE1.block _ bk.lt).trans bk
  rw [World.size_alloc] at hrow
  have hrowH := Lib.hid hrow
  obtain ⟨sl, cc, rfl⟩ := own_form hrow
  clear hrow
  go_wp2_with (fail)
  refine (hD.out _ w1 hrowH.out bk1).mono ?_
  rintro e w2 ⟨u', rfl, hrow2, hgr⟩
  obtain ⟨sl2, c2, rfl⟩ := own_form hrow2
  have hE2 : Ext w w2 := Ext.grown ((Ext.new w _).trans hE1) hgr (fun q e => by have := own_ge hrowH.out q e; omega)
  clear hgr
  go_wp2_with (fail)
  go_ret
  exact ⟨sl2, c2, rfl, own_mono hrow2 (by omega), hE2⟩

theorem put_prog {xs : List Int} {v : Nat} {k x : Int} (hx : ∀ a ∈ xs, U64 a) (hr : rightS xs v = true) (hu : U64 k) (hv : U64 x) :
    putS xs v k x = (if (buildS (xs.length / v : Nat) v (othersT (slotsW v xs) k ++ [(k, x)])).2 = 0 then ((buildS (xs.length / v : Nat) v (othersT (slotsW v xs) k ++ [(k, x)])).1, 0) else (xs, (buildS (xs.length / v : Nat) v (othersT (slotsW v xs) k ++ [(k, x)])).2)) ∧ (othersT (slotsW v xs) k).length ≤ 1024 ∧ ∀ r ∈ othersT (slotsW v xs) k, Ur r := by
  obtain ⟨v', e, hT⟩ := tb_of_right hx hr
  obtain rfl : v = v' := by omega
  have hGo : Good (othersT (slotsW v xs) k) := hT.good.filter _
  have hlo : (othersT (slotsW v xs) k).length ≤ 1024 := Nat.le_trans (List.length_filter_le _ _) (Nat.le_trans hT.le hT.n2)
  refine ⟨?_, hlo, hGo.rng⟩
  by_cases hbad : k = 0 ∨ (v = 1 ∧ x ≠ 0)
  · have hm : mayS v (othersT (slotsW v xs) k ++ [(k, x)]) = false := by
      have hlast : (othersT (slotsW v xs) k ++ [(k, x)])[(othersT (slotsW v xs) k).length]? = some (k, x) := by simp
      rcases hbad with h | ⟨rfl, h⟩
      · exact mayS_zero hlast h
      · exact mayS_thick hlast h
    rw [build_arg (.inr hm), putS_no (by rcases hbad with h | ⟨h1, h2⟩; exact .inr (.inl h); exact .inr (.inr ⟨by omega, h2⟩))]
    rfl
  · have hk : k ≠ 0 := fun h => hbad (.inl h)
    have hz : ¬ (v = 1 ∧ x ≠ 0) := fun h => hbad (.inr h)
    have hG : Good (othersT (slotsW v xs) k ++ [(k, x)]) := withR_good hT.good hk hu hv
    have hth : Thin v (othersT (slotsW v xs) k ++ [(k, x)]) := withR_thin hT.thin hz
    have hm : mayS v (othersT (slotsW v xs) k ++ [(k, x)]) = true := by
      unfold mayS; rw [(valid_good hG.rng).2 hG, thin_B.2 hth]; rfl
    have hs : putS xs v k x = laidS xs v (othersT (slotsW v xs) k ++ [(k, x)]) := by
      unfold putS; rw [if_pos ⟨hr, hk, by omega⟩]; rfl
    rw [hs]
    unfold laidS
    by_cases hf : xs.length / v < (othersT (slotsW v xs) k ++ [(k, x)]).length
    · rw [if_pos hf, build_full (by have := hT.n1; omega) (by have := hT.n2; omega) (by have := hT.wd; unfold Wd at this; omega) hm (by omega)]; rfl
    · rw [if_neg hf, build_ok hT.n1 hT.n2 hT.wd hm (by omega)]; rfl
theorem del_prog {xs : List Int} {v : Nat} {k : Int} (hx : ∀ a ∈ xs, U64 a) (hr : rightS xs v = true) (hk : k ≠ 0) :
    ((findT (slotsW v xs) k).2 = false → delS xs v k = (xs, 12)) ∧ ((findT (slotsW v xs) k).2 = true → delS xs v k = buildS (xs.length / v : Nat) v (othersT (slotsW v xs) k)) ∧ (othersT (slotsW v xs) k).length ≤ 1024 ∧ ∀ r ∈ othersT (slotsW v xs) k, Ur r := by
  obtain ⟨v', e, hT⟩ := tb_of_right hx hr
  obtain rfl : v = v' := by omega
  have hGo : Good (othersT (slotsW v xs) k) := hT.good.filter _
  have hln : (othersT (slotsW v xs) k).length ≤ xs.length / v := Nat.le_trans (List.length_filter_le _ _) hT.le
  have hs : delS xs v k = if (findT (slotsW v xs) k).2 = true then laidS xs v (othersT (slotsW v xs) k) else (xs, 12) := by
    unfold delS; rw [if_pos ⟨hr, hk⟩]; rfl
  refine ⟨fun h => ?_, fun h => ?_, Nat.le_trans hln hT.n2, hGo.rng⟩
  · rw [hs, if_neg (by rw [h]; simp)]
  · have hm : mayS v (othersT (slotsW v xs) k) = true := by
      unfold mayS; rw [(valid_good hGo.rng).2 hGo, thin_B.2 (show Thin v (othersT (slotsW v xs) k) from hT.thin.filter _)]; rfl
    rw [hs, if_pos h]
    unfold laidS
    rw [if_neg (by omega), build_ok hT.n1 hT.n2 hT.wd hm hln]

set_option maxHeartbeats 1000000 in
theorem put_no (s : Option Addr) (m c : Nat) (xs : List Int) (v k x : Int) (w : World) (hT : Tab w) (hS : WS w s m c xs) (h : rightS xs v = false) :
    Calls Tryd.prog 19 #[.slice s m c, .int .i64 v, .int .u64 k, .int .u64 x] w (WE (putS xs v k x) w) := by
  have hf := Lib.hid (putS_no (k := k) (x := x) (.inl h))
  have HS := Lib.hid hS
  have HT := Lib.hid hT
  have H := Lib.hid h
  clear hS hT h
  go_enter Tryd.func19, Tryd.ntmps19
  go_wp2_with (fail)
  refine (right_any s m c xs v false w HT.out HS.out (Lib.hid H.out.symm)).mono ?_
  rintro e w1 ⟨rfl, hE1⟩
  go_wp2_with (fail)
  refine (clone_any s m c xs w1 (HS.out.ext hE1)).mono ?_
  rintro e w2 ⟨⟨sl, c', rfl, hS2⟩, hE2⟩
  go_wp2_with (fail)
  go_ret2
  exact WE.some hf.out (hE1.trans hE2) hS2

set_option maxHeartbeats 1000000 in
theorem del_no (s : Option Addr) (m c : Nat) (xs : List Int) (v k : Int) (w : World) (hT : Tab w) (hS : WS w s m c xs) (h : rightS xs v = false ∨ k = 0) :
    Calls Tryd.prog 21 #[.slice s m c, .int .i64 v, .int .u64 k] w (WE (delS xs v k) w) := by
  have hf := Lib.hid (delS_no h)
  have HS := Lib.hid hS
  have HT := Lib.hid hT
  clear hS hT
  by_cases hk : k = 0
  · subst hk
    clear h
    go_enter Tryd.func21, Tryd.ntmps21
    go_wp2_with (fail)
    refine (clone_any s m c xs w HS.out).mono ?_
    rintro e w2 ⟨⟨sl, c', rfl, hS2⟩, hE2⟩
    go_wp2_with (fail)
    go_ret2
    exact WE.some hf.out hE2 hS2
  · have H := Lib.hid (h.resolve_right hk)
    have hkb : (k == 0) = false := by simpa using hk
    clear h hk
    go_enter Tryd.func21, Tryd.ntmps21
    go_wp2_with (fail)
    refine (right_any s m c xs v false w HT.out HS.out (Lib.hid H.out.symm)).mono ?_
    rintro e w1 ⟨rfl, hE1⟩
    go_wp2_with (fail)
    refine (clone_any s m c xs w1 (HS.out.ext hE1)).mono ?_
    rintro e w2 ⟨⟨sl, c', rfl, hS2⟩, hE2⟩
    go_wp2_with (fail)
    go_ret2
    exact WE.some hf.out (hE1.trans hE2) hS2

set_option maxRecDepth 100000 in
set_option maxHeartbeats 4000000 in
theorem put_1 (s : Option Addr) (N c : Nat) (xs : List Int) (k x : Int) (w : World) (hT : Tab w) (hS : WS w s N c xs) (n1 : 1 ≤ N) (n2 : N ≤ 1024) (hN : (slotsW 1 xs).length = N) (hx : xs = flatW 1 (slotsW 1 xs)) (hr : rightS xs (1 : Nat) = true) (hu : U64 k) (hv : U64 x) :
    Calls Tryd.prog 19 #[.slice s N c, .int .i64 1, .int .u64 k, .int .u64 x] w (WE (putS xs (1 : Nat) k x) w) := by
  have hm := hS.le
  obtain ⟨hput, hlen, hro⟩ := put_prog hS.u64 hr hu hv
  rw [show xs.length / 1 = N from by rw [hS.len]; simp] at hput
  have HO : RowKit.Hid (∀ W, Ext w W → Calls Tryd.prog 38 #[.slice s N c, .int .i64 1, .int .u64 k] W fun e w' => ∃ sl c', e = .returned (.slice sl (othersT (slotsW 1 xs) k).length c') ∧ w'.ownsRow W.heap.size 34 2 (.slice sl (othersT (slotsW 1 xs) k).length c') (othersT (slotsW 1 xs) k).length (flat (othersT (slotsW 1 xs) k)) ∧ Ext W w') := Lib.hid (fun W hW =>
    others_any s N c 1 _ k W (by unfold Wd; omega) (by have := hS.ext hW; rwa [hx] at this) (slotsW_thin _ _) (by omega) (by omega) (slotsW_rng hS.u64))
  have HT := Lib.hid hT
  have HS := Lib.hid hS
  have Hr := Lib.hid hr
  have hwN : IntKind.i64.wrap (N : Int) = N := IntWalk.i64_in _ (by omega)
  have hwN2 : RowKit.wrap64 (N : Int) = N := by rw [← hwN]; first | rfl | (unfold RowKit.wrap64; omega)
  obtain ⟨os, eos⟩ : ∃ os, RowKit.Hid (othersT (slotsW 1 xs) k = os) := ⟨_, Lib.hid rfl⟩
  rw [eos.out] at hput hlen hro HO
  obtain ⟨L, eL⟩ : ∃ L, RowKit.Hid (os.length = L) := ⟨_, Lib.hid rfl⟩
  obtain ⟨L2, eL2⟩ : ∃ L2, RowKit.Hid (L + 1 = L2) := ⟨_, Lib.hid rfl⟩
  rw [eL.out] at HO hlen
  have hL2 : L2 ≤ 1025 := by have := eL2.out; omega
  have Hput := Lib.hid hput
  have Hro := Lib.hid hro
  clear hT hS hr hx hN hput hro
  go_enter Tryd.func19, Tryd.ntmps19
  go_wp2_with (fail)
  refine (right_any s N c xs 1 true w HT.out HS.out (Lib.hid Hr.out.symm)).mono ?_
  rintro e w0 ⟨rfl, hE0⟩
  have HO0 : RowKit.Hid (∀ W, Ext w0 W → Calls Tryd.prog 38 #[.slice s N c, .int .i64 1, .int .u64 k] W fun e w' => ∃ sl c', e = .returned (.slice sl L c') ∧ w'.ownsRow W.heap.size 34 2 (.slice sl L c') L (flat os) ∧ Ext W w') := Lib.hid (fun W hW => HO.out W (hE0.trans hW))
  clear HO
  go_wp2_with (fail)
  go_region_held3 (fun w' => Ext w0 w')
    (first
      | exact x3
      | exact x2
      | exact Ext.alloc x1 _
      | exact x1
      | exact Ext.drew (Ext.new w0 _)
      | exact Ext.drew (Ext.refl w0)
      | go_keep)
    (first
      | (go_at_call 38; (with_reducible refine (HO0.out w0.drew (Ext.drew (Ext.refl w0))).mono ?_); rintro e w1 ⟨sl, c', rfl, hrow, hE1⟩; have x1 : Ext w0 w1 := (Ext.drew (Ext.refl w0)).trans hE1; have y1 : QS (w1.alloc (.cells #[.int .u64 k, .int .u64 x] 34)) (some ⟨w1.heap.size, 0, none⟩) 1 1 [(k, x)] := qs_lit w1 k x hu hv; have o1 : (w1.alloc (.cells #[.int .u64 k, .int .u64 x] 34)).ownsRow w0.heap.size 34 2 (.slice sl L c') L (flat os) := hrow.alloc _)
      | (go_at_call 38; (with_reducible refine (HO0.out (w0.alloc (.cells #[.int .u64 k, .int .u64 x] 34)).drew (Ext.drew (Ext.new w0 _))).mono ?_); rintro e w1 ⟨sl, c', rfl, hrow, hE1⟩; have x1 : Ext w0 w1 := (Ext.drew (Ext.new w0 _)).trans hE1; have y1 : QS w1 (some ⟨w0.heap.size, 0, none⟩) 1 1 [(k, x)] := (qs_lit w0 k x hu hv).ext ((Ext.drew (Ext.refl _)).trans hE1); have o1 : w1.ownsRow w0.heap.size 34 2 (.slice sl L c') L (flat os) := own_mono hrow (by show w0.heap.size ≤ (w0.alloc _).heap.size; simp))
      | (refine step_append_recs _ (by rfl) (.tmp 27) (.tmp 31) (by rfl) w0.heap.size _ _ _ (by rfl) o1 _ 1 1 [(k, x)] (by rfl) y1 L2 eL2.out (by omega) (by have := x1.size; simp; omega) ?_; intro sy ky w2 hown2 hg2; have x2 : Ext w0 w2 := Ext.grown (by first | exact Ext.alloc x1 _ | exact x1) hg2 (own_ge o1); have q2 : QS w2 sy L2 ky (os ++ [(k, x)]) := qs_of_own hown2 (by rw [List.length_append, eL.out, ← eL2.out]; rfl) (by omega) (fun y hy => (List.mem_append.1 hy).elim (Hro.out y) (fun e => by rw [List.mem_singleton.1 e]; exact ⟨hu, hv⟩)))
      | (go_at_call 24; refine (build_any N 1 sy L2 ky (os ++ [(k, x)]) w2 (HT.out.ext (hE0.trans x2)) q2).mono ?_; rintro e w3 ⟨hE3, sb, nb, cb, rfl, hB⟩; have x3 : Ext w0 w3 := x2.trans hE3))
  all_goals
    rename_i hh
    clear hh
    have HE := Lib.hid (hE0.trans x3)
    have HB := Lib.hid hB
    have Hp2 := Lib.hid Hput.out
    obtain ⟨pr, hp⟩ : ∃ pr, RowKit.Hid (buildS N (1 : Nat) (os ++ [(k, x)]) = pr) := ⟨_, Lib.hid rfl⟩
    have hp' : buildS N 1 (os ++ [(k, x)]) = pr := hp.out
    rw [hp.out] at Hp2
    rw [hp'] at HB ⊢
    obtain ⟨ws, er⟩ := pr
    dsimp only at Hp2 HB ⊢
    clear hp' hE1 hE3 hB q2 hown2 hg2 y1 o1 hrow x1 x2 x3
    by_cases he : er = 0
    · subst he
      have hfin : RowKit.Hid (putS xs (1 : Nat) k x = (ws, 0)) := Lib.hid (by rw [Hp2.out, if_pos rfl])
      go_wp2_with (fail)
      go_ret2
      exact WE.some hfin.out HE.out HB.out
    · have heb : (er != 0) = true := by simpa using he
      have hfin : RowKit.Hid (putS xs (1 : Nat) k x = (xs, er)) := Lib.hid (by rw [Hp2.out, if_neg he])
      clear he
      go_wp2_with (fail)
      refine (clone_any s N c xs w3 (HS.out.ext HE.out)).mono ?_
      rintro e w4 ⟨⟨s4, c4, rfl, hS4⟩, hE4⟩
      go_wp2_with (fail)
      go_ret2
      exact WE.some hfin.out (HE.out.trans hE4) hS4

set_option maxRecDepth 100000 in
set_option maxHeartbeats 4000000 in
theorem del_1 (s : Option Addr) (N c : Nat) (xs : List Int) (k : Int) (w : World) (hT : Tab w) (hS : WS w s N c xs) (n1 : 1 ≤ N) (n2 : N ≤ 1024) (hN : (slotsW 1 xs).length = N) (hx : xs = flatW 1 (slotsW 1 xs)) (hr : rightS xs (1 : Nat) = true) (hI : Is N (slotsW 1 xs) (recs (slotsW 1 xs))) (hk : k ≠ 0) (hu : U64 k) :
    Calls Tryd.prog 21 #[.slice s N c, .int .i64 1, .int .u64 k] w (WE (delS xs (1 : Nat) k) w) := by
  have hm := hS.le
  obtain ⟨hd0, hd1, hlen, hro⟩ := del_prog hS.u64 hr hk
  rw [show xs.length / 1 = N from by rw [hS.len]; simp] at hd1
  have HO : RowKit.Hid (∀ W, Ext w W → Calls Tryd.prog 38 #[.slice s N c, .int .i64 1, .int .u64 k] W fun e w' => ∃ sl c', e = .returned (.slice sl (othersT (slotsW 1 xs) k).length c') ∧ QS w' sl (othersT (slotsW 1 xs) k).length c' (othersT (slotsW 1 xs) k) ∧ Ext W w') := Lib.hid (fun W hW =>
    (others_any s N c 1 _ k W (by unfold Wd; omega) (by have := hS.ext hW; rwa [hx] at this) (slotsW_thin _ _) (by omega) (by omega) (slotsW_rng hS.u64)).mono fun e w' ⟨sl, c', h1, h2, h3⟩ => ⟨sl, c', h1, qs_of_own h2 rfl (by omega) hro, h3⟩)
  have HSo : RowKit.Hid (∀ W, Ext w W → Calls Tryd.prog 36 #[.slice s N c, .int .i64 1, .int .u64 k] W (NB (findT (slotsW 1 xs) k) W)) := Lib.hid (fun W hW =>
    sought_any s N N c 1 _ _ k W (hT.ext hW) (by unfold Wd; omega) (by have := hS.ext hW; rwa [hx] at this) hI (slotsW_thin _ _) n1 n2 hk hu)
  have HT := Lib.hid hT
  have HS := Lib.hid hS
  have Hr := Lib.hid hr
  have hkb : (k == 0) = false := by simpa using hk
  have hwN : IntKind.i64.wrap (N : Int) = N := IntWalk.i64_in _ (by omega)
  have hwN2 : RowKit.wrap64 (N : Int) = N := by rw [← hwN]; first | rfl | (unfold RowKit.wrap64; omega)
  obtain ⟨os, eos⟩ : ∃ os, RowKit.Hid (othersT (slotsW 1 xs) k = os) := ⟨_, Lib.hid rfl⟩
  rw [eos.out] at hd1 hlen HO
  obtain ⟨ff, eff⟩ : ∃ ff, RowKit.Hid (findT (slotsW 1 xs) k = ff) := ⟨_, Lib.hid rfl⟩
  rw [eff.out] at hd0 hd1 HSo
  obtain ⟨fa, fb⟩ := ff
  dsimp only at hd0 hd1
  obtain ⟨L, eL⟩ : ∃ L, RowKit.Hid (os.length = L) := ⟨_, Lib.hid rfl⟩
  rw [eL.out] at HO hlen
  have Hd0 := Lib.hid hd0
  have Hd1 := Lib.hid hd1
  clear hT hS hr hx hN hd0 hd1 hro hk hI
  go_enter Tryd.func21, Tryd.ntmps21
  go_wp2_with (fail)
  refine (right_any s N c xs 1 true w HT.out HS.out (Lib.hid Hr.out.symm)).mono ?_
  rintro e w0 ⟨rfl, hE0⟩
  go_wp2_with (fail)
  refine (HSo.out w0 hE0).mono ?_
  rintro e w1 ⟨hE1, rfl⟩
  have hE2 := hE0.trans hE1
  cases fb with
  | false =>
    have hfin := Lib.hid (Hd0.out rfl)
    clear HO HSo
    go_wp2_with (fail)
    refine (clone_any s N c xs w1 (HS.out.ext hE2)).mono ?_
    rintro e w4 ⟨⟨s4, c4, rfl, hS4⟩, hE4⟩
    go_wp2_with (fail)
    go_ret2
    exact WE.some hfin.out (hE2.trans hE4) hS4
  | true =>
    have hfin := Lib.hid (Hd1.out rfl)
    have HO0 : RowKit.Hid (∀ W, Ext w1 W → Calls Tryd.prog 38 #[.slice s N c, .int .i64 1, .int .u64 k] W fun e w' => ∃ sl c', e = .returned (.slice sl L c') ∧ QS w' sl L c' os ∧ Ext W w') := Lib.hid (fun W hW => HO.out W (hE2.trans hW))
    clear HO HSo
    go_wp2_with (fail)
    go_region_held3 (fun w' => Ext w1 w')
      (first
        | exact x3
        | exact x2
        | exact Ext.drew (Ext.refl w1)
        | go_keep)
      (first
        | (go_at_call 38; (with_reducible refine (HO0.out w1.drew (Ext.drew (Ext.refl w1))).mono ?_); rintro e w2 ⟨sl, c', rfl, hQ2, hE3⟩; have x2 : Ext w1 w2 := (Ext.drew (Ext.refl w1)).trans hE3)
        | (go_at_call 24; refine (build_any N 1 sl L c' os w2 (HT.out.ext (hE2.trans x2)) hQ2).mono ?_; rintro e w3 ⟨hE4, sb, nb, cb, rfl, hB⟩; have x3 : Ext w1 w3 := x2.trans hE4))
    rename_i hh
    clear hh
    go_wp2_with (fail)
    go_ret2
    exact WE.some hfin.out (hE2.trans x3) hB

set_option maxRecDepth 100000 in
set_option maxHeartbeats 4000000 in
theorem put_2 (s : Option Addr) (N m c : Nat) (xs : List Int) (k x : Int) (w : World) (hT : Tab w) (hS : WS w s m c xs) (n1 : 1 ≤ N) (n2 : N ≤ 1024) (hM : m = N * 2) (hN : (slotsW 2 xs).length = N) (hx : xs = flatW 2 (slotsW 2 xs)) (hr : rightS xs (2 : Nat) = true) (hu : U64 k) (hv : U64 x) :
    Calls Tryd.prog 19 #[.slice s m c, .int .i64 2, .int .u64 k, .int .u64 x] w (WE (putS xs (2 : Nat) k x) w) := by
  have hm := hS.le
  have hdv : (m : Int).tdiv 2 = N := by rw [quo_2]; omega
  have hNb : N ≤ 1048576 := by omega
  obtain ⟨hput, hlen, hro⟩ := put_prog hS.u64 hr hu hv
  rw [show xs.length / 2 = N from by rw [hS.len]; omega] at hput
  have HO : RowKit.Hid (∀ W, Ext w W → Calls Tryd.prog 38 #[.slice s m c, .int .i64 2, .int .u64 k] W fun e w' => ∃ sl c', e = .returned (.slice sl (othersT (slotsW 2 xs) k).length c') ∧ w'.ownsRow W.heap.size 34 2 (.slice sl (othersT (slotsW 2 xs) k).length c') (othersT (slotsW 2 xs) k).length (flat (othersT (slotsW 2 xs) k)) ∧ Ext W w') := Lib.hid (fun W hW =>
    others_any s m c 2 _ k W (by unfold Wd; omega) (by have := hS.ext hW; rwa [hx] at this) (slotsW_thin _ _) (by omega) (by omega) (slotsW_rng hS.u64))
  have HT := Lib.hid hT
  have HS := Lib.hid hS
  have Hr := Lib.hid hr
  have hwN : IntKind.i64.wrap (N : Int) = N := IntWalk.i64_in _ (by omega)
  have hwN2 : RowKit.wrap64 (N : Int) = N := by rw [← hwN]; first | rfl | (unfold RowKit.wrap64; omega)
  obtain ⟨os, eos⟩ : ∃ os, RowKit.Hid (othersT (slotsW 2 xs) k = os) := ⟨_, Lib.hid rfl⟩
  rw [eos.out] at hput hlen hro HO
  obtain ⟨L, eL⟩ : ∃ L, RowKit.Hid (os.length = L) := ⟨_, Lib.hid rfl⟩
  obtain ⟨L2, eL2⟩ : ∃ L2, RowKit.Hid (L + 1 = L2) := ⟨_, Lib.hid rfl⟩
  rw [eL.out] at HO hlen
  have hL2 : L2 ≤ 1025 := by have := eL2.out; omega
  have Hput := Lib.hid hput
  have Hro := Lib.hid hro
  clear hT hS hr hx hN hput hro hM
  go_enter Tryd.func19, Tryd.ntmps19
  go_wp2_with (fail)
  refine (right_any s m c xs 2 true w HT.out HS.out (Lib.hid Hr.out.symm)).mono ?_
  rintro e w0 ⟨rfl, hE0⟩
  have HO0 : RowKit.Hid (∀ W, Ext w0 W → Calls Tryd.prog 38 #[.slice s m c, .int .i64 2, .int .u64 k] W fun e w' => ∃ sl c', e = .returned (.slice sl L c') ∧ w'.ownsRow W.heap.size 34 2 (.slice sl L c') L (flat os) ∧ Ext W w') := Lib.hid (fun W hW => HO.out W (hE0.trans hW))
  clear HO
  go_wp2_with (fail)
  go_region_held3 (fun w' => Ext w0 w')
    (first
      | exact x3
      | exact x2
      | exact Ext.alloc x1 _
      | exact x1
      | exact Ext.drew (Ext.new w0 _)
      | exact Ext.drew (Ext.refl w0)
      | go_keep)
    (first
      | (go_at_call 38; (with_reducible refine (HO0.out w0.drew (Ext.drew (Ext.refl w0))).mono ?_); rintro e w1 ⟨sl, c', rfl, hrow, hE1⟩; have x1 : Ext w0 w1 := (Ext.drew (Ext.refl w0)).trans hE1; have y1 : QS (w1.alloc (.cells #[.int .u64 k, .int .u64 x] 34)) (some ⟨w1.heap.size, 0, none⟩) 1 1 [(k, x)] := qs_lit w1 k x hu hv; have o1 : (w1.alloc (.cells #[.int .u64 k, .int .u64 x] 34)).ownsRow w0.heap.size 34 2 (.slice sl L c') L (flat os) := hrow.alloc _)
      | (go_at_call 38; (with_reducible refine (HO0.out (w0.alloc (.cells #[.int .u64 k, .int .u64 x] 34)).drew (Ext.drew (Ext.new w0 _))).mono ?_); rintro e w1 ⟨sl, c', rfl, hrow, hE1⟩; have x1 : Ext w0 w1 := (Ext.drew (Ext.new w0 _)).trans hE1; have y1 : QS w1 (some ⟨w0.heap.size, 0, none⟩) 1 1 [(k, x)] := (qs_lit w0 k x hu hv).ext ((Ext.drew (Ext.refl _)).trans hE1); have o1 : w1.ownsRow w0.heap.size 34 2 (.slice sl L c') L (flat os) := own_mono hrow (by show w0.heap.size ≤ (w0.alloc _).heap.size; simp))
      | (refine step_append_recs _ (by rfl) (.tmp 27) (.tmp 31) (by rfl) w0.heap.size _ _ _ (by rfl) o1 _ 1 1 [(k, x)] (by rfl) y1 L2 eL2.out (by omega) (by have := x1.size; simp; omega) ?_; intro sy ky w2 hown2 hg2; have x2 : Ext w0 w2 := Ext.grown (by first | exact Ext.alloc x1 _ | exact x1) hg2 (own_ge o1); have q2 : QS w2 sy L2 ky (os ++ [(k, x)]) := qs_of_own hown2 (by rw [List.length_append, eL.out, ← eL2.out]; rfl) (by omega) (fun y hy => (List.mem_append.1 hy).elim (Hro.out y) (fun e => by rw [List.mem_singleton.1 e]; exact ⟨hu, hv⟩)))
      | (go_at_call 24; refine (build_any N 2 sy L2 ky (os ++ [(k, x)]) w2 (HT.out.ext (hE0.trans x2)) q2).mono ?_; rintro e w3 ⟨hE3, sb, nb, cb, rfl, hB⟩; have x3 : Ext w0 w3 := x2.trans hE3))
  all_goals
    rename_i hh
    clear hh
    have HE := Lib.hid (hE0.trans x3)
    have HB := Lib.hid hB
    have Hp2 := Lib.hid Hput.out
    obtain ⟨pr, hp⟩ : ∃ pr, RowKit.Hid (buildS N (2 : Nat) (os ++ [(k, x)]) = pr) := ⟨_, Lib.hid rfl⟩
    have hp' : buildS N 2 (os ++ [(k, x)]) = pr := hp.out
    rw [hp.out] at Hp2
    rw [hp'] at HB ⊢
    obtain ⟨ws, er⟩ := pr
    dsimp only at Hp2 HB ⊢
    clear hp' hE1 hE3 hB q2 hown2 hg2 y1 o1 hrow x1 x2 x3
    by_cases he : er = 0
    · subst he
      have hfin : RowKit.Hid (putS xs (2 : Nat) k x = (ws, 0)) := Lib.hid (by rw [Hp2.out, if_pos rfl])
      go_wp2_with (fail)
      go_ret2
      exact WE.some hfin.out HE.out HB.out
    · have heb : (er != 0) = true := by simpa using he
      have hfin : RowKit.Hid (putS xs (2 : Nat) k x = (xs, er)) := Lib.hid (by rw [Hp2.out, if_neg he])
      clear he
      go_wp2_with (fail)
      refine (clone_any s m c xs w3 (HS.out.ext HE.out)).mono ?_
      rintro e w4 ⟨⟨s4, c4, rfl, hS4⟩, hE4⟩
      go_wp2_with (fail)
      go_ret2
      exact WE.some hfin.out (HE.out.trans hE4) hS4

set_option maxRecDepth 100000 in
set_option maxHeartbeats 4000000 in
theorem del_2 (s : Option Addr) (N m c : Nat) (xs : List Int) (k : Int) (w : World) (hT : Tab w) (hS : WS w s m c xs) (n1 : 1 ≤ N) (n2 : N ≤ 1024) (hM : m = N * 2) (hN : (slotsW 2 xs).length = N) (hx : xs = flatW 2 (slotsW 2 xs)) (hr : rightS xs (2 : Nat) = true) (hI : Is N (slotsW 2 xs) (recs (slotsW 2 xs))) (hk : k ≠ 0) (hu : U64 k) :
    Calls Tryd.prog 21 #[.slice s m c, .int .i64 2, .int .u64 k] w (WE (delS xs (2 : Nat) k) w) := by
  have hm := hS.le
  have hdv : (m : Int).tdiv 2 = N := by rw [quo_2]; omega
  have hNb : N ≤ 1048576 := by omega
  obtain ⟨hd0, hd1, hlen, hro⟩ := del_prog hS.u64 hr hk
  rw [show xs.length / 2 = N from by rw [hS.len]; omega] at hd1
  have HO : RowKit.Hid (∀ W, Ext w W → Calls Tryd.prog 38 #[.slice s m c, .int .i64 2, .int .u64 k] W fun e w' => ∃ sl c', e = .returned (.slice sl (othersT (slotsW 2 xs) k).length c') ∧ QS w' sl (othersT (slotsW 2 xs) k).length c' (othersT (slotsW 2 xs) k) ∧ Ext W w') := Lib.hid (fun W hW =>
    (others_any s m c 2 _ k W (by unfold Wd; omega) (by have := hS.ext hW; rwa [hx] at this) (slotsW_thin _ _) (by omega) (by omega) (slotsW_rng hS.u64)).mono fun e w' ⟨sl, c', h1, h2, h3⟩ => ⟨sl, c', h1, qs_of_own h2 rfl (by omega) hro, h3⟩)
  have HSo : RowKit.Hid (∀ W, Ext w W → Calls Tryd.prog 36 #[.slice s m c, .int .i64 2, .int .u64 k] W (NB (findT (slotsW 2 xs) k) W)) := Lib.hid (fun W hW =>
    sought_any s N m c 2 _ _ k W (hT.ext hW) (by unfold Wd; omega) (by have := hS.ext hW; rwa [hx] at this) hI (slotsW_thin _ _) n1 n2 hk hu)
  have HT := Lib.hid hT
  have HS := Lib.hid hS
  have Hr := Lib.hid hr
  have hkb : (k == 0) = false := by simpa using hk
  have hwN : IntKind.i64.wrap (N : Int) = N := IntWalk.i64_in _ (by omega)
  have hwN2 : RowKit.wrap64 (N : Int) = N := by rw [← hwN]; first | rfl | (unfold RowKit.wrap64; omega)
  obtain ⟨os, eos⟩ : ∃ os, RowKit.Hid (othersT (slotsW 2 xs) k = os) := ⟨_, Lib.hid rfl⟩
  rw [eos.out] at hd1 hlen HO
  obtain ⟨ff, eff⟩ : ∃ ff, RowKit.Hid (findT (slotsW 2 xs) k = ff) := ⟨_, Lib.hid rfl⟩
  rw [eff.out] at hd0 hd1 HSo
  obtain ⟨fa, fb⟩ := ff
  dsimp only at hd0 hd1
  obtain ⟨L, eL⟩ : ∃ L, RowKit.Hid (os.length = L) := ⟨_, Lib.hid rfl⟩
  rw [eL.out] at HO hlen
  have Hd0 := Lib.hid hd0
  have Hd1 := Lib.hid hd1
  clear hT hS hr hx hN hd0 hd1 hro hk hI hM
  go_enter Tryd.func21, Tryd.ntmps21
  go_wp2_with (fail)
  refine (right_any s m c xs 2 true w HT.out HS.out (Lib.hid Hr.out.symm)).mono ?_
  rintro e w0 ⟨rfl, hE0⟩
  go_wp2_with (fail)
  refine (HSo.out w0 hE0).mono ?_
  rintro e w1 ⟨hE1, rfl⟩
  have hE2 := hE0.trans hE1
  cases fb with
  | false =>
    have hfin := Lib.hid (Hd0.out rfl)
    clear HO HSo
    go_wp2_with (fail)
    refine (clone_any s m c xs w1 (HS.out.ext hE2)).mono ?_
    rintro e w4 ⟨⟨s4, c4, rfl, hS4⟩, hE4⟩
    go_wp2_with (fail)
    go_ret2
    exact WE.some hfin.out (hE2.trans hE4) hS4
  | true =>
    have hfin := Lib.hid (Hd1.out rfl)
    have HO0 : RowKit.Hid (∀ W, Ext w1 W → Calls Tryd.prog 38 #[.slice s m c, .int .i64 2, .int .u64 k] W fun e w' => ∃ sl c', e = .returned (.slice sl L c') ∧ QS w' sl L c' os ∧ Ext W w') := Lib.hid (fun W hW => HO.out W (hE2.trans hW))
    clear HO HSo
    go_wp2_with (fail)
    go_region_held3 (fun w' => Ext w1 w')
      (first
        | exact x3
        | exact x2
        | exact Ext.drew (Ext.refl w1)
        | go_keep)
      (first
        | (go_at_call 38; (with_reducible refine (HO0.out w1.drew (Ext.drew (Ext.refl w1))).mono ?_); rintro e w2 ⟨sl, c', rfl, hQ2, hE3⟩; have x2 : Ext w1 w2 := (Ext.drew (Ext.refl w1)).trans hE3)
        | (go_at_call 24; refine (build_any N 2 sl L c' os w2 (HT.out.ext (hE2.trans x2)) hQ2).mono ?_; rintro e w3 ⟨hE4, sb, nb, cb, rfl, hB⟩; have x3 : Ext w1 w3 := x2.trans hE4))
    rename_i hh
    clear hh
    go_wp2_with (fail)
    go_ret2
    exact WE.some hfin.out (hE2.trans x3) hB

/-- Put. -/
theorem put_any (s : Option Addr) (m c : Nat) (xs : List Int) (v k x : Int) (w : World) (hT : Tab w) (hS : WS w s m c xs) (hk : U64 k) (hx : U64 x) :
    Calls Tryd.prog 19 #[.slice s m c, .int .i64 v, .int .u64 k, .int .u64 x] w (WE (putS xs v k x) w) := by
  by_cases hr : rightS xs v = true
  · rcases right_or (v := v) hS with ⟨_, h2⟩ | ⟨u, rfl, hu, hsh, hxx, ht, hl, h1, h2, hrg, hrt⟩
    · rw [h2] at hr; cases hr
    have hm : m = (slotsW u xs).length * u := by rw [← hS.len, ← flatW_len hu, ← hxx]
    rw [← hl] at h1 h2
    rcases hu with rfl | rfl
    · have hm2 : m = (slotsW 1 xs).length := by omega
      rw [← hm2] at h1 h2
      exact put_1 s m c xs k x w hT hS h1 h2 hm2.symm hxx hr hk hx
    · exact put_2 s _ m c xs k x w hT hS h1 h2 hm rfl hxx hr hk hx
  · exact put_no s m c xs v k x w hT hS (by simpa using hr)
/-- Del. -/
theorem del_any (s : Option Addr) (m c : Nat) (xs : List Int) (v k : Int) (w : World) (hT : Tab w) (hS : WS w s m c xs) (hk : U64 k) :
    Calls Tryd.prog 21 #[.slice s m c, .int .i64 v, .int .u64 k] w (WE (delS xs v k) w) := by
  by_cases h : rightS xs v = false ∨ k = 0
  · exact del_no s m c xs v k w hT hS h
  · have hr : rightS xs v = true := by
      cases e : rightS xs v with
      | true => rfl
      | false => exact absurd (.inl e) h
    have hk0 : k ≠ 0 := fun e => h (.inr e)
    rcases right_or (v := v) hS with ⟨_, h2⟩ | ⟨u, rfl, hu, hsh, hxx, ht, hl, h1, h2, hrg, hrt⟩
    · rw [h2] at hr; cases hr
    have hI := (rightT_is hrg).1 (by rw [← hrt]; exact hr)
    have hm : m = (slotsW u xs).length * u := by rw [← hS.len, ← flatW_len hu, ← hxx]
    rw [← hl] at h1 h2
    rcases hu with rfl | rfl
    · have hm2 : m = (slotsW 1 xs).length := by omega
      rw [← hm2] at h1 h2 hI
      exact del_1 s m c xs k w hT hS h1 h2 hm2.symm hxx hr hI hk0 hk
    · exact del_2 s _ m c xs k w hT hS h1 h2 hm rfl hxx hr hI hk0 hk

end Go.Proofs.YtbpgnnogpcppdaaDoor
