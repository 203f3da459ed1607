/-
  EncOne: for every input the law returns true, and each argument reads behind the call as it read before; the package variables homes and rounds hold what their initialisers lay (the card ties them to the text).
-/
import Derived.Test.YtmonkcekkhfafaaGreatDoorM18
import Derived.Test.YtmonkcekkhfafaaGreatDoorM28
import Derived.Test.YtmonkcekkhfafaaGreatDoorM29
import Derived.Test.YtmonkcekkhfafaaGreatDoorCards
import Derived.Test.YtmonkcekkhfafaaGreatDoorTie
import Derived.WalkKit
import Derived.ProofKit
import Derived.OpenShut
import Derived.Deep.DeepHandedRow
/- LawOne:
  EncOne: the walk. Conditions: the packages' tables lie; integers' bounds; the raw calls can be read.
-/
namespace Go.Proofs.YtmonkcekkhfafaaGreatDoor.Enc
open Go.RowKit (Below intOf)
open Go.Proofs.YtmonkcekkhfafaaGreatDoor.Aut
open Go.Proofs.YtmonkcekkhfafaaGreatDoor.Law (conf_any state_any TS StE)
open Go.Proofs.YtmonkcekkhfafaaGreatDoor.Reg (cf bx fits_any)

set_option maxHeartbeats 16000000 in
set_option maxRecDepth 100000 in
theorem one_walk (a0 b0 c0 at' x : Int) (s1 : Option Addr) (n1 c1' : Nat) (w : World) (hR : Reg.Tab w) (hM : Tab w) (ha : I64 a0) (hb : I64 b0) (hc : I64 c0) (hT1 : TS w s1 n1) (hat : I64 at') (hx : U64 x) :
    Calls Tryz.prog 5 #[.agg #[.int .i64 a0, .int .i64 b0, .int .i64 c0], .slice s1 n1 c1', .int .i64 at', .int .u64 x] w fun e w' => e = .returned (.bool true) ∧ Ext w w' := by
  have HR : RowKit.Hid (∀ W, Ext w W → Reg.Tab W ∧ Tab W) := Lib.hid fun W hE => ⟨hR.below hE, tab_ext hM hE⟩
  have HA := Lib.hid (fun W (hE : Ext w W) => awake_any W (HR.out W hE).1 (HR.out W hE).2)
  have HCo := Lib.hid (fun W => conf_any a0 b0 c0 W ha hb hc)
  obtain ⟨hfit, hm12⟩ := conf_fits a0 b0 c0
  generalize 1 + Law.pickZ a0 5 = k at *
  generalize 1 + Law.pickZ b0 16 = p at *
  generalize 1 + Law.pickZ c0 12 = m at *
  have HF := Lib.hid hfit
  have hhom := hom_le hfit hm12
  have HSt0 : RowKit.Hid (∀ W, Ext w W → _) := Lib.hid (fun W (hE : Ext w W) => state_any (k := k) (p := p) (m := m) s1 n1 c1' W hfit (hT1.ext hE))
  have HEn : RowKit.Hid (∀ a v t s W, Ext w W → SS W a v t s → rightS k p m s = true → Calls Tryz.prog 14 #[cf k p m, sv s.reg a v t s.closed] W (EnE (encW k m s, 0) W)) := Lib.hid fun a v t s W hE hS hr => by
    have := enc_any k p m a v t s W (HR.out W hE).1 (HR.out W hE).2 hS
    rwa [encA_ok hr] at this
  have HDe : RowKit.Hid (∀ sl nn c xs W, Ext w W → WS W sl nn c xs → Calls Tryz.prog 16 #[cf k p m, .slice sl nn c] W (SO (decS k p m xs).1 W (fun v => .tuple #[v, .int .i64 (decS k p m xs).2]))) := Lib.hid fun sl nn c xs W hE hl => dec_all k p m sl nn c xs W (HR.out W hE).1 (HR.out W hE).2 hl
  have HHo : RowKit.Hid (∀ W, Ext w W → Calls Tryz.prog 19 #[cf k p m] W fun e w' => e = .returned (.int .i64 (Reg.hom k m)) ∧ Ext W w') := Lib.hid fun W hE => by
    have := rhome_any k p m W (HR.out W hE).1
    rwa [show Reg.home k p m = Reg.hom k m by unfold Reg.home; rw [if_pos (show Reg.fits k p m = true from hfit)]] at this
  have HBx : RowKit.Hid (Cb (w.alloc (.cells #[.int .i64 a0, .int .i64 b0, .int .i64 c0] 22)) w.heap.size [.int .i64 a0, .int .i64 b0, .int .i64 c0]) := Lib.hid (Cb.new w _ _)
  have HX := Lib.hid (Ext.new w (.cells #[.int .i64 a0, .int .i64 b0, .int .i64 c0] 22))
  have HPk : RowKit.Hid (∀ (n : Nat) W, 0 < n → _) := Lib.hid (fun (n : Nat) W (h0 : 0 < n) => epick_any at' (n : Int) W hat (by omega))
  have HU := Lib.hid hx
  clear hR hM ha hb hc hfit hm12 hT1 hat hx
  dsimp only [cf, sv] at *
  go_enter Tryz.func5, Tryz.ntmps5
  go_wp2_with (fail)
  refine (HA.out _ HX.out).mono ?_
  rintro e w1 ⟨rfl, e1⟩
  replace HX := Lib.hid (HX.out.trans e1)
  replace HBx := Lib.hid (HBx.out.ext e1)
  clear HA e1
  obtain ⟨i0, i1, i2⟩ := HBx.out.three
  go_wp2_with (fail)
  refine (HCo.out _).mono ?_
  rintro e w2 ⟨rfl, e2⟩
  have HC := Lib.hid (Cb.new w2 [.int .i64 k, .int .i64 p, .int .i64 m] 24)
  replace HX := Lib.hid ((HX.out.trans e2).alloc (bx k p m))
  clear HCo e2 i0 i1 i2 HBx
  dsimp only [bx, cf] at *
  obtain ⟨c0, c1, c2⟩ := HC.out.three
  go_wp2_with (fail)
  refine (HSt0.out _ HX.out).mono ?_
  rintro e w3 ⟨⟨r_a, x_a, y_a, z_a, l_a⟩, hR_a, ⟨ka_a, kn_a, kc_a⟩, ⟨va_a, vn_a, vc_a⟩, ⟨ta_a, tn_a, tc_a⟩, rfl, S_a, e3⟩
  dsimp only [sv] at *
  have E := e3.alloc (.cells #[.int .u64 r_a, .slice ka_a kn_a kc_a, .slice va_a vn_a vc_a, .slice ta_a tn_a tc_a, .bool l_a] 30)
  have HRt_a := Lib.hid hR_a
  replace HX := Lib.hid (HX.out.trans E)
  replace HC := Lib.hid (HC.out.ext E)
  have HS_a := Lib.hid (S_a.ext (Ext.new w3 (.cells #[.int .u64 r_a, .slice ka_a kn_a kc_a, .slice va_a vn_a vc_a, .slice ta_a tn_a tc_a, .bool l_a] 30)))
  have HB_a := Lib.hid (show Cb (w3.alloc (.cells #[.int .u64 r_a, .slice ka_a kn_a kc_a, .slice va_a vn_a vc_a, .slice ta_a tn_a tc_a, .bool l_a] 30)) w3.heap.size [.int .u64 r_a, .slice ka_a kn_a kc_a, .slice va_a vn_a vc_a, .slice ta_a tn_a tc_a, .bool l_a] from Cb.new w3 _ _)
  clear HSt0 E e3 S_a hR_a c0 c1 c2
  obtain ⟨c0, c1, c2⟩ := HC.out.three
  obtain ⟨s0, s1', s2', s3, s4⟩ := HB_a.out.five
  go_wp2_with (fail)
  refine (HEn.out ⟨ka_a, kn_a, kc_a⟩ ⟨va_a, vn_a, vc_a⟩ ⟨ta_a, tn_a, tc_a⟩ ⟨r_a, x_a, y_a, z_a, l_a⟩ _ HX.out HS_a.out HRt_a.out).mono ?_
  rintro e w4 ⟨⟨aA, nA, dA⟩, rfl, WA, e4⟩
  dsimp only at WA
  replace HX := Lib.hid (HX.out.trans e4)
  replace HC := Lib.hid (HC.out.ext e4)
  replace HS_a := Lib.hid (HS_a.out.ext e4)
  replace HB_a := Lib.hid (HB_a.out.ext e4)
  have HWA := Lib.hid WA
  clear e4 WA c0 c1 c2 s0 s1' s2' s3 s4
  obtain ⟨c0, c1, c2⟩ := HC.out.three
  have hda := dec_enc HRt_a.out HS_a.out.wd
  have hla := encW_len HRt_a.out
  have hnA := HWA.out.len
  have hn1 : 1 ≤ nA ∧ nA ≤ 60 := by omega
  have hnz : ((nA : Int) == 0) = false := by simp; omega
  have hnz2 : (nA == 0) = false := by simp; omega
  have hinj := fun t (h1 : rightS k p m t = true) (h2 : Aut.Wd t) => encW_inj HRt_a.out h1 HS_a.out.wd h2
  have hinv := fun (xs : List Int) (hl : xs.length = nA) => dec_inv (k := k) (p := p) (m := m) (xs := xs) HF.out (by rw [hl, ← hla, hnA])
  have hp0 := Law.pick_ge at' (n := (nA : Int)) (by omega)
  have hp1 := Law.pick_lt at' (n := (nA : Int)) (by omega)
  obtain ⟨q, hq⟩ : ∃ q : Nat, Law.pickZ at' (nA : Int) = q := ⟨(Law.pickZ at' (nA : Int)).toNat, by omega⟩
  have hqn : q < nA := by omega
  have HP := Lib.hid (HPk.out nA · (by omega))
  rw [hq] at HP
  generalize hxs : encW k m ⟨r_a, x_a, y_a, z_a, l_a⟩ = xs at *
  obtain ⟨y, hy, hyu, b, o, rfl, hyc⟩ := HWA.out.get hqn
  have HYc := Lib.hid hyc
  have HXs := Lib.hid (And.intro hda (And.intro hxs (And.intro hinj (And.intro hinv (And.intro hy (And.intro hyu hn1))))))
  have hqn2 : (q : Int) < nA := by omega
  clear hda hla hnA hn1 hinj hinv hp0 hp1 hq HPk hxs hy hyu hyc hhom
  go_wp2_with (fail)
  refine (HP.out _).mono ?_
  rintro e w5 ⟨rfl, rfl⟩
  clear HP
  have hyc := HYc.out
  obtain ⟨sm, hsm⟩ : ∃ sm : Bool, (y == x) = sm := ⟨_, rfl⟩
  have HSm := Lib.hid hsm
  obtain ⟨gy, cy, wy, RY, OY, EY, hgy⟩ := app_nil HWA.out (by omega) (by have := HXs.out.2.2.2.2.2.2.2; omega)
  have gc := OY.cellAt q (by omega)
  rw [flatWS_0, HXs.out.2.2.2.2.1] at gc
  simp only [Option.map_some] at gc
  have gf := OY.frozenAt q
  have HO := Lib.hid (own_put OY q x)
  have E := EY.setCell hgy (.int .u64 x) (o := q)
  have hlx := HWA.out.len
  have hyr : ∀ z ∈ xs.set q x, U64 z := fun z hz => by
    rcases List.mem_or_eq_of_mem_set hz with h | h
    · exact HWA.out.range z h
    · rw [h]; exact HU.out
  replace HX := Lib.hid (HX.out.trans E)
  replace HC := Lib.hid (HC.out.ext E)
  replace HS_a := Lib.hid (HS_a.out.ext E)
  replace HB_a := Lib.hid (HB_a.out.ext E)
  replace HWA := Lib.hid (HWA.out.ext E)
  have HWY := Lib.hid (WS.of_own HO.out (by rw [List.length_set]; exact hlx) (by have := HXs.out.2.2.2.2.2.2.2; omega) hyr)
  clear E EY hgy OY HO hyr c0 c1 c2
  obtain ⟨c0, c1, c2⟩ := HC.out.three
  go_wp2_with (first | (at_builtin; refine Lib.wpList_append_run _ rfl _ _ _ _ rfl _ _ rfl rfl _ _ RY.out ?_))
  clear gc gf RY hyc HYc hqn2 hsm
  have hQ := HDe.out _ _ _ _ _ HX.out HWY.out
  generalize wy.setCell ⟨gy, q, none⟩ (.int .u64 x) = w6 at *
  have hsame : xs.set q x = xs ↔ y = x := by
    have hy := HXs.out.2.2.2.2.1
    constructor
    · intro h
      have h2 : (xs.set q x)[q]? = xs[q]? := by rw [h]
      rw [List.getElem?_set_self (by rw [hlx]; exact hqn), hy] at h2
      exact (Option.some.inj h2).symm
    · intro h
      subst h
      refine eq_all (n := nA) (by rw [List.length_set]; exact hlx) hlx fun j hj => ?_
      by_cases e : q = j
      · subst e; rw [List.getElem?_set_self (by rw [hlx]; exact hj), hy]
      · rw [List.getElem?_set_ne e]
  have hv := HXs.out.2.2.2.1 (xs.set q x) (by rw [List.length_set]; exact hlx)
  rcases hv with ⟨t, hd, ht, hw⟩ | hd
  · have hwd : ∀ {v}, v ∈ [t] → True := fun _ => trivial
    rw [hd] at hQ
    have hinj := HXs.out.2.2.1 t ht
    obtain ⟨tr, tk, tu, tv, tl⟩ := t
    refine hQ.mono ?_
    rintro e w7 ⟨e7, ⟨ka, kn, kc⟩, ⟨va, vn, vc⟩, ⟨ta, tn, tc⟩, rfl, S7, _⟩
    dsimp only [sv] at *
    have hi2 := hinj S7.wd
    have E := e7.alloc (.cells #[.int .u64 tr, .slice ka kn kc, .slice va vn vc, .slice ta tn tc, .bool tl] 30)
    replace HX := Lib.hid (HX.out.trans E)
    replace HC := Lib.hid (HC.out.ext E)
    replace HS_a := Lib.hid (HS_a.out.ext E)
    replace HB_a := Lib.hid (HB_a.out.ext E)
    replace HWA := Lib.hid (HWA.out.ext E)
    replace HWY := Lib.hid (HWY.out.ext E)
    have HSt := Lib.hid (S7.ext (Ext.new w7 (.cells #[.int .u64 tr, .slice ka kn kc, .slice va vn vc, .slice ta tn tc, .bool tl] 30)))
    have HBt := Lib.hid (show Cb (w7.alloc (.cells #[.int .u64 tr, .slice ka kn kc, .slice va vn vc, .slice ta tn tc, .bool tl] 30)) w7.heap.size [.int .u64 tr, .slice ka kn kc, .slice va vn vc, .slice ta tn tc, .bool tl] from Cb.new w7 _ _)
    have HRt := Lib.hid ht
    obtain ⟨r, hr⟩ : ∃ r, r = decide ((⟨r_a, x_a, y_a, z_a, l_a⟩ : St) = ⟨tr, tk, tu, tv, tl⟩) := ⟨_, rfl⟩
    have hrs : r = sm := by
      rw [hr, ← HSm.out]
      by_cases e : y = x
      · rw [decide_eq_true (hi2.1 (by rw [hw]; exact (hsame.2 e).symm))]; simp [e]
      · rw [decide_eq_false (fun h => e (hsame.1 (by rw [← hw]; exact (hi2.2 h).symm)))]; simp [e]
    have Hr := Lib.hid hr
    have Hw := Lib.hid hw
    subst hrs
    clear hQ E e7 S7 hd ht hi2 hinj hwd hr hw hsame c0 c1 c2 HSm
    obtain ⟨c0, c1, c2⟩ := HC.out.three
    obtain ⟨t0, t1', t2', t3, t4⟩ := HBt.out.five
    go_wp2_with (fail)
    refine (HEn.out ⟨ka, kn, kc⟩ ⟨va, vn, vc⟩ ⟨ta, tn, tc⟩ ⟨tr, tk, tu, tv, tl⟩ _ HX.out HSt.out HRt.out).mono ?_
    rintro e w8 ⟨⟨aB, nB, dB⟩, rfl, W8, e8⟩
    dsimp only at W8
    rw [Hw.out] at W8
    replace HX := Lib.hid (HX.out.trans e8)
    replace HC := Lib.hid (HC.out.ext e8)
    replace HS_a := Lib.hid (HS_a.out.ext e8)
    replace HB_a := Lib.hid (HB_a.out.ext e8)
    replace HWA := Lib.hid (HWA.out.ext e8)
    replace HWY := Lib.hid (HWY.out.ext e8)
    replace HSt := Lib.hid (HSt.out.ext e8)
    replace HBt := Lib.hid (HBt.out.ext e8)
    have HWB := Lib.hid W8
    clear e8 W8 c0 c1 c2 t0 t1' t2' t3 t4
    go_wp2_with (fail)
    refine (rwords_any _ _ _ _ _ _ _ _ true _ HWB.out HWY.out (Lib.hid (by simp))).mono ?_
    rintro e w9 ⟨rfl, e9⟩
    replace HX := Lib.hid (HX.out.trans e9)
    replace HC := Lib.hid (HC.out.ext e9)
    replace HS_a := Lib.hid (HS_a.out.ext e9)
    replace HB_a := Lib.hid (HB_a.out.ext e9)
    replace HWA := Lib.hid (HWA.out.ext e9)
    replace HWY := Lib.hid (HWY.out.ext e9)
    replace HSt := Lib.hid (HSt.out.ext e9)
    replace HBt := Lib.hid (HBt.out.ext e9)
    replace HWB := Lib.hid (HWB.out.ext e9)
    clear e9
    obtain ⟨t0, t1', t2', t3, t4⟩ := HBt.out.five
    obtain ⟨s0, s1', s2', s3, s4⟩ := HB_a.out.five
    go_wp2_with (fail)
    refine (same_any ⟨ka_a, kn_a, kc_a⟩ ⟨va_a, vn_a, vc_a⟩ ⟨ta_a, tn_a, tc_a⟩ ⟨ka, kn, kc⟩ ⟨va, vn, vc⟩ ⟨ta, tn, tc⟩ ⟨r_a, x_a, y_a, z_a, l_a⟩ ⟨tr, tk, tu, tv, tl⟩ r w9 HS_a.out HSt.out (Lib.hid Hr.out)).mono ?_
    rintro e w10 ⟨rfl, e10⟩
    have hrr : (r == r) = true := by simp
    go_wp2_with (fail)
    go_ret
    exact ⟨rfl, HX.out.trans e10⟩
  · rw [hd] at hQ
    have hne : sm = false := by
      rw [← HSm.out]
      by_cases e : y = x
      · rw [hsame.2 e, HXs.out.1] at hd
        have := congrArg (·.2) hd
        simp at this
      · simp [e]
    subst hne
    refine hQ.mono ?_
    rintro e w7 ⟨e7, ⟨ka, kn, kc⟩, ⟨va, vn, vc⟩, ⟨ta, tn, tc⟩, rfl, S7, _⟩
    dsimp only [sv, zeroS] at *
    have E := e7.alloc (.cells #[.int .u64 0, .slice ka kn kc, .slice va vn vc, .slice ta tn tc, .bool false] 30)
    replace HX := Lib.hid (HX.out.trans E)
    replace HC := Lib.hid (HC.out.ext E)
    replace HS_a := Lib.hid (HS_a.out.ext E)
    replace HB_a := Lib.hid (HB_a.out.ext E)
    replace HWA := Lib.hid (HWA.out.ext E)
    replace HWY := Lib.hid (HWY.out.ext E)
    have HSt := Lib.hid (S7.ext (Ext.new w7 (.cells #[.int .u64 0, .slice ka kn kc, .slice va vn vc, .slice ta tn tc, .bool false] 30)))
    have HBt := Lib.hid (show Cb (w7.alloc (.cells #[.int .u64 0, .slice ka kn kc, .slice va vn vc, .slice ta tn tc, .bool false] 30)) w7.heap.size [.int .u64 0, .slice ka kn kc, .slice va vn vc, .slice ta tn tc, .bool false] from Cb.new w7 _ _)
    clear hQ E e7 S7 hd hsame c0 c1 c2 HSm
    obtain ⟨t0, t1', t2', t3, t4⟩ := HBt.out.five
    go_wp2_with (fail)
    refine (same_any ⟨ka, kn, kc⟩ ⟨va, vn, vc⟩ ⟨ta, tn, tc⟩ nilSl nilSl nilSl ⟨0, [], [], [], false⟩ ⟨0, [], [], [], false⟩ true _ HSt.out (ss_zero _) (Lib.hid (by simp))).mono ?_
    rintro e w10 ⟨rfl, e10⟩
    go_wp2_with (fail)
    go_ret
    exact ⟨rfl, HX.out.trans e10⟩

end Go.Proofs.YtmonkcekkhfafaaGreatDoor.Enc

/- EncOne:
  EncOne: for every input the law returns true, and each argument reads behind the call as it read before; the package variables homes and rounds hold what their initialisers lay (the card ties them to the text).
-/
namespace Go.Proofs.YtmonkcekkhfafaaGreatDoor.encOne
open Go.ChangeShapes Go.WideShapes Go.ChangeAt Go.RowKit

set_option maxHeartbeats 4000000 in
set_option maxRecDepth 100000 in
theorem contract (H : Type) (enc : TypeId × Value → H) (W : World) (base : Nat) (args : Array Value) (ds gs : List (DataW H)) (before : List MemPlace)
    (hval : ∀ (j : Nat) t v, Tryz.f5.params[j]? = some t → args[j]? = some v → Value.okWide Tryz.prog W .any base t v)
    (hW : DataW.Whole enc Tryz.prog Tryz.f5.params.toList Rows.encOneSpec.vars false W args.toList ds gs before) (hL : laidMetH Tryz.prog Rows.encOneRow.laid W) :
    Calls Tryz.prog 5 args W fun e W' => ∃ v, e = .returned v ∧ Rows.encOneSpec.post enc Tryz.prog Tryz.f5 false true false false W args v W' := by
  have hR : Reg.Tab W := Reg.tab_of (L := Rows.encOneRow.laid) hL (.tail _ (.head _))
  have hM : Tab W := tab_of (L := Rows.encOneRow.laid) hL (.head _)
  have hW' := hW
  obtain ⟨p, q, hA0, hV, rfl, hfz, hnd⟩ := hW
  have hA : DataW.TrodAll enc Tryz.prog W 0 (fun _ => true) true Tryz.f5.params.toList args.toList ds p := hA0
  rw [Tryz.params5] at hA hval
  obtain ⟨v0, vs0, d0, ds0, p0, q0, hargs, rfl, rfl, h0, r0⟩ := trodAll_cons hA
  obtain ⟨v1, vs1, d1, ds1, p1, q1, rfl, rfl, rfl, h1, r1⟩ := trodAll_cons r0
  obtain ⟨v2, vs2, d2, ds2, p2, q2, rfl, rfl, rfl, h2, r2⟩ := trodAll_cons r1
  obtain ⟨v3, vs3, d3, ds3, p3, q3, rfl, rfl, rfl, h3, r3⟩ := trodAll_cons r2
  obtain ⟨rfl, rfl, rfl⟩ := trodAll_nil r3
  obtain rfl : args = #[v0, v1, v2, v3] := by cases args; simp_all
  obtain ⟨a0, b0, c0, rfl, x0, y0, z0⟩ := Law.open_trip (hval 0 22 v0 rfl rfl) h0
  obtain ⟨s1, n1, c1, rfl, k1⟩ := Law.open_ts (hval 1 25 v1 rfl rfl) h1
  obtain ⟨a2, rfl, _, _, w2⟩ := open_int Tryz.underlying3 (hval 2 3 v2 rfl rfl) h2
  obtain ⟨a3, rfl, _, _, w3⟩ := open_int Tryz.underlying26 (hval 3 26 v3 rfl rfl) h3
  refine (Enc.one_walk a0 b0 c0 a2 a3 s1 n1 c1 W hR hM x0 y0 z0 k1 (Law.i64_of w2) (Law.u64_of w3)).mono fun e W' ⟨he, hg⟩ => ?_
  subst he
  exact ⟨_, rfl, Law.told hW' rfl rfl rfl (by kernel_rfl) hg⟩

def fill (cs : Array Value) : Obj → Obj
  | .cells _ t frozen => .cells cs t frozen
  | o => o
noncomputable def laidHeap (h : Array Obj) : Array Obj := Array.modify (Array.modify h 0 (fill #[.int .i64 0, .int .i64 0, .int .i64 1, .int .i64 0, .int .i64 1, .int .i64 2, .int .i64 1, .int .i64 4, .int .i64 2, .int .i64 4, .int .i64 9, .int .i64 1])) 1 (fill #[.int .u64 30, .int .u64 13787848793156543929, .int .u64 10871156337175269513, .int .u64 27, .int .u64 10723151780598845931, .int .u64 3573116690164977347, .int .u64 31, .int .u64 1, .int .u64 1])
noncomputable def laidWorld (os : Os) : World := { World.holding Tryz.prog os ⟨#[], #[], []⟩ with heap := laidHeap (World.holding Tryz.prog os ⟨#[], #[], []⟩).heap }
theorem laid_met (os : Os) : laidMet Tryz.prog Rows.encOneRow.laid ((laidWorld os).forCall (fun _ _ => 0) ⟨#[], #[.agg #[.int .i64 0, .int .i64 0, .int .i64 0], .slice none 0 0, .int .i64 0, .int .u64 0], []⟩).memory :=
  laidMet_of_run' 8 (by kernel_rfl) (by kernel_rfl)
theorem reads (os : Os) {H : Type} (enc : TypeId × Value → H) : ∃ places, DataW.whole enc Tryz.prog ((laidWorld os).forCall (fun _ _ => 0) ⟨#[], #[.agg #[.int .i64 0, .int .i64 0, .int .i64 0], .slice none 0 0, .int .i64 0, .int .u64 0], []⟩).memory Tryz.f5.params.toList Rows.encOneSpec.vars false (#[.agg #[.int .i64 0, .int .i64 0, .int .i64 0], .slice none 0 0, .int .i64 0, .int .u64 0] : Array Value).toList 8 = some ([.agg [.lit (.int .i64 0), .lit (.int .i64 0), .lit (.int .i64 0)], .nil, .lit (.int .i64 0), .lit (.int .u64 0)], [], places) :=
  ⟨[], by kernel_rfl⟩

set_option maxRecDepth 100000 in
theorem lifted (os : Os) (started : os.Started) (H : Type) (enc : TypeId × Value → H) (F : Stop.Interp) :
    ReturnsInHanded {} Tryz.checked os 5 .any ((OpenSpec.ofChange Rows.encOneSpec).preRow enc Tryz.prog Tryz.f5 Rows.encOneRow.domain false Rows.encOneRow.laid) (((OpenSpec.ofChange Rows.encOneSpec).at F).post enc Tryz.prog Tryz.f5 false true false false) := by
  obtain ⟨places, hx⟩ := reads os enc
  refine returnsInHanded_of_row (C := Tryz.checked) (s := OpenSpec.ofChange Rows.encOneSpec) Law.own started (by kernel_rfl) Tryz.func5
    (witness_row_at (enc := enc) (C := Tryz.checked) false (laidWorld os) #[.agg #[.int .i64 0, .int .i64 0, .int .i64 0], .slice none 0 0, .int .i64 0, .int .u64 0] rfl (by kernel_rfl) (by kernel_rfl) (by kernel_rfl)
      (OpenSpec.preRow_of_cond 8 hx (by kernel_rfl) (fun k hk => by cases hk) (by kernel_rfl) (laid_met os))) ?_
  intro W base args ds gs before hval hW _ _ _ hL _ _
  exact contract H enc W base args ds gs before hval hW hL

theorem said : Rows.EncOneSaid :=
  OpenClaim.holds_of_cond 5 Tryz.f5 rfl rfl rfl rfl rfl rfl rfl ⟨rfl, rfl, rfl, rfl, rfl⟩ rfl rfl rfl rfl rfl (by kernel_rfl) Tryz.func5 (by kernel_rfl)
    (of_decide_eq_true (by kernel_rfl)) (by unfold Func.isWrapper; first | (rw [if_pos (by decide +kernel)]; kernel_rfl) | (rw [if_neg (by decide +kernel)]; exact ⟨rfl, rfl⟩))
    (fun os started H enc _ F => by rw [OpenClaim.pre_eq_preRow]; exact lifted os started H enc F)

theorem plain (f : FuncId) (fn : Func) (hf : Tryz.pinned.checked.prog.funcNamed "whitewash/whitewashlaw10.EncOne" = some f) (hfn : Tryz.pinned.checked.prog.funcs[f]? = some fn) :
    false = Tryz.pinned.checked.prog.looks [] ∧ ∀ (j : Nat) t, fn.params[j]? = some t → Tryz.pinned.checked.prog.wantsStandIn t = false := by
  obtain rfl : f = 5 := Option.some.inj ((show Tryz.prog.funcNamed "whitewash/whitewashlaw10.EncOne" = some 5 by kernel_rfl).symm.trans hf) |>.symm
  obtain rfl : fn = Tryz.f5 := (Option.some.inj (Tryz.func5.symm.trans hfn)).symm
  refine ⟨by kernel_rfl, fun j t ht => ?_⟩
  rw [Tryz.params5] at ht
  have hm : t ∈ [22, 25, 3, 26] := by simpa using Array.mem_of_getElem? ht
  have hall : ([22, 25, 3, 26].all fun u => !Tryz.prog.wantsStandIn u) = true := by kernel_rfl
  exact (show Tryz.prog.wantsStandIn t = false by simpa using List.all_eq_true.1 hall t hm)

theorem card : Rows.EncOneCardSaid :=
  Claim7.holds_tied_plain_at .later [] _ _ _ _ said (fun _ h => by cases h) (by kernel_rfl) (fun _ h => by cases h) encOne_row_tie rfl ⟨rfl, rfl⟩ (by kernel_rfl) rfl plain (by kernel_rfl)
end Go.Proofs.YtmonkcekkhfafaaGreatDoor.encOne

namespace Go.Proofs.YtmonkcekkhfafaaGreatDoor
theorem encOne_holds : Rows.EncOneCardSaid := encOne.card
end Go.Proofs.YtmonkcekkhfafaaGreatDoor

