/-
  EncBack: for every input the law returns true, and each argument reads behind the call as it read before; the package variables homes and rounds hold what their initialisers lay (the card ties them to the text).
-/
import Derived.Test.YtmonkcekkhfafaaGreatDoorM18
import Derived.Test.YtmonkcekkhfafaaGreatDoorM28
import Derived.Test.YtmonkcekkhfafaaGreatDoorM29
import Derived.Test.YtmonkcekkhfafaaGreatDoorCards
import Derived.Test.YtmonkcekkhfafaaGreatDoorTie
import Derived.WalkKit
import Derived.ProofKit
import Derived.OpenShut
import Derived.Deep.DeepHandedRow
/- LawBack:
  EncBack: the walk. Conditions: the packages' tables lie; integers' bounds; the raw calls can be read.
-/
namespace Go.Proofs.YtmonkcekkhfafaaGreatDoor.Enc
open Go.RowKit (Below intOf)
open Go.Proofs.YtmonkcekkhfafaaGreatDoor.Aut
open Go.Proofs.YtmonkcekkhfafaaGreatDoor.Law (conf_any state_any TS StE)
open Go.Proofs.YtmonkcekkhfafaaGreatDoor.Reg (cf bx fits_any)

set_option maxHeartbeats 16000000 in
set_option maxRecDepth 100000 in
theorem back_walk (a0 b0 c0 : Int) (s1 s2 : Option Addr) (n1 n2 c1' c2' : Nat) (w : World) (hR : Reg.Tab w) (hM : Tab w) (ha : I64 a0) (hb : I64 b0) (hc : I64 c0) (hT1 : TS w s1 n1) (hT2 : TS w s2 n2) :
    Calls Tryz.prog 4 #[.agg #[.int .i64 a0, .int .i64 b0, .int .i64 c0], .slice s1 n1 c1', .slice s2 n2 c2'] w fun e w' => e = .returned (.bool true) ∧ Ext w w' := by
  have HR : RowKit.Hid (∀ W, Ext w W → Reg.Tab W ∧ Tab W) := Lib.hid fun W hE => ⟨hR.below hE, tab_ext hM hE⟩
  have HA := Lib.hid (fun W (hE : Ext w W) => awake_any W (HR.out W hE).1 (HR.out W hE).2)
  have HCo := Lib.hid (fun W => conf_any a0 b0 c0 W ha hb hc)
  obtain ⟨hfit, hm12⟩ := conf_fits a0 b0 c0
  generalize 1 + Law.pickZ a0 5 = k at *
  generalize 1 + Law.pickZ b0 16 = p at *
  generalize 1 + Law.pickZ c0 12 = m at *
  have HF := Lib.hid hfit
  have hhom := hom_le hfit hm12
  have HSt0 : RowKit.Hid (∀ W, Ext w W → _) := Lib.hid (fun W (hE : Ext w W) => state_any (k := k) (p := p) (m := m) s1 n1 c1' W hfit (hT1.ext hE))
  have HSt1 : RowKit.Hid (∀ W, Ext w W → _) := Lib.hid (fun W (hE : Ext w W) => state_any (k := k) (p := p) (m := m) s2 n2 c2' W hfit (hT2.ext hE))
  have HEn : RowKit.Hid (∀ a v t s W, Ext w W → SS W a v t s → rightS k p m s = true → Calls Tryz.prog 14 #[cf k p m, sv s.reg a v t s.closed] W (EnE (encW k m s, 0) W)) := Lib.hid fun a v t s W hE hS hr => by
    have := enc_any k p m a v t s W (HR.out W hE).1 (HR.out W hE).2 hS
    rwa [encA_ok hr] at this
  have HDe : RowKit.Hid (∀ sl nn c xs W, Ext w W → WS W sl nn c xs → Calls Tryz.prog 16 #[cf k p m, .slice sl nn c] W (SO (decS k p m xs).1 W (fun v => .tuple #[v, .int .i64 (decS k p m xs).2]))) := Lib.hid fun sl nn c xs W hE hl => dec_all k p m sl nn c xs W (HR.out W hE).1 (HR.out W hE).2 hl
  have HHo : RowKit.Hid (∀ W, Ext w W → Calls Tryz.prog 19 #[cf k p m] W fun e w' => e = .returned (.int .i64 (Reg.hom k m)) ∧ Ext W w') := Lib.hid fun W hE => by
    have := rhome_any k p m W (HR.out W hE).1
    rwa [show Reg.home k p m = Reg.hom k m by unfold Reg.home; rw [if_pos (show Reg.fits k p m = true from hfit)]] at this
  have HBx : RowKit.Hid (Cb (w.alloc (.cells #[.int .i64 a0, .int .i64 b0, .int .i64 c0] 22)) w.heap.size [.int .i64 a0, .int .i64 b0, .int .i64 c0]) := Lib.hid (Cb.new w _ _)
  have HX := Lib.hid (Ext.new w (.cells #[.int .i64 a0, .int .i64 b0, .int .i64 c0] 22))
  clear hR hM ha hb hc hfit hm12 hT1 hT2
  dsimp only [cf, sv] at *
  go_enter Tryz.func4, Tryz.ntmps4
  go_wp2_with (fail)
  refine (HA.out _ HX.out).mono ?_
  rintro e w1 ⟨rfl, e1⟩
  replace HX := Lib.hid (HX.out.trans e1)
  replace HBx := Lib.hid (HBx.out.ext e1)
  clear HA e1
  obtain ⟨i0, i1, i2⟩ := HBx.out.three
  go_wp2_with (fail)
  refine (HCo.out _).mono ?_
  rintro e w2 ⟨rfl, e2⟩
  have HC := Lib.hid (Cb.new w2 [.int .i64 k, .int .i64 p, .int .i64 m] 24)
  replace HX := Lib.hid ((HX.out.trans e2).alloc (bx k p m))
  clear HCo e2 i0 i1 i2 HBx
  dsimp only [bx, cf] at *
  obtain ⟨c0, c1, c2⟩ := HC.out.three
  go_wp2_with (fail)
  refine (HSt0.out _ HX.out).mono ?_
  rintro e w3 ⟨⟨r_a, x_a, y_a, z_a, l_a⟩, hR_a, ⟨ka_a, kn_a, kc_a⟩, ⟨va_a, vn_a, vc_a⟩, ⟨ta_a, tn_a, tc_a⟩, rfl, S_a, e3⟩
  dsimp only [sv] at *
  have E := e3.alloc (.cells #[.int .u64 r_a, .slice ka_a kn_a kc_a, .slice va_a vn_a vc_a, .slice ta_a tn_a tc_a, .bool l_a] 30)
  have HRt_a := Lib.hid hR_a
  replace HX := Lib.hid (HX.out.trans E)
  replace HC := Lib.hid (HC.out.ext E)
  have HS_a := Lib.hid (S_a.ext (Ext.new w3 (.cells #[.int .u64 r_a, .slice ka_a kn_a kc_a, .slice va_a vn_a vc_a, .slice ta_a tn_a tc_a, .bool l_a] 30)))
  have HB_a := Lib.hid (show Cb (w3.alloc (.cells #[.int .u64 r_a, .slice ka_a kn_a kc_a, .slice va_a vn_a vc_a, .slice ta_a tn_a tc_a, .bool l_a] 30)) w3.heap.size [.int .u64 r_a, .slice ka_a kn_a kc_a, .slice va_a vn_a vc_a, .slice ta_a tn_a tc_a, .bool l_a] from Cb.new w3 _ _)
  clear HSt0 E e3 S_a hR_a c0 c1 c2
  obtain ⟨c0, c1, c2⟩ := HC.out.three
  go_wp2_with (fail)
  refine (HSt1.out _ HX.out).mono ?_
  rintro e w4 ⟨⟨r_b, x_b, y_b, z_b, l_b⟩, hR_b, ⟨ka_b, kn_b, kc_b⟩, ⟨va_b, vn_b, vc_b⟩, ⟨ta_b, tn_b, tc_b⟩, rfl, S_b, e4⟩
  dsimp only [sv] at *
  have E := e4.alloc (.cells #[.int .u64 r_b, .slice ka_b kn_b kc_b, .slice va_b vn_b vc_b, .slice ta_b tn_b tc_b, .bool l_b] 30)
  have HRt_b := Lib.hid hR_b
  replace HX := Lib.hid (HX.out.trans E)
  replace HC := Lib.hid (HC.out.ext E)
  replace HS_a := Lib.hid (HS_a.out.ext E)
  replace HB_a := Lib.hid (HB_a.out.ext E)
  have HS_b := Lib.hid (S_b.ext (Ext.new w4 (.cells #[.int .u64 r_b, .slice ka_b kn_b kc_b, .slice va_b vn_b vc_b, .slice ta_b tn_b tc_b, .bool l_b] 30)))
  have HB_b := Lib.hid (show Cb (w4.alloc (.cells #[.int .u64 r_b, .slice ka_b kn_b kc_b, .slice va_b vn_b vc_b, .slice ta_b tn_b tc_b, .bool l_b] 30)) w4.heap.size [.int .u64 r_b, .slice ka_b kn_b kc_b, .slice va_b vn_b vc_b, .slice ta_b tn_b tc_b, .bool l_b] from Cb.new w4 _ _)
  clear HSt1 E e4 S_b hR_b c0 c1 c2
  obtain ⟨c0, c1, c2⟩ := HC.out.three
  obtain ⟨s0, s1', s2', s3, s4⟩ := HB_a.out.five
  go_wp2_with (fail)
  refine (HEn.out ⟨ka_a, kn_a, kc_a⟩ ⟨va_a, vn_a, vc_a⟩ ⟨ta_a, tn_a, tc_a⟩ ⟨r_a, x_a, y_a, z_a, l_a⟩ _ HX.out HS_a.out HRt_a.out).mono ?_
  rintro e w5 ⟨⟨aA, nA, dA⟩, rfl, WA, e5⟩
  dsimp only at WA
  replace HX := Lib.hid (HX.out.trans e5)
  replace HC := Lib.hid (HC.out.ext e5)
  replace HS_a := Lib.hid (HS_a.out.ext e5)
  replace HB_a := Lib.hid (HB_a.out.ext e5)
  replace HS_b := Lib.hid (HS_b.out.ext e5)
  replace HB_b := Lib.hid (HB_b.out.ext e5)
  have HWA := Lib.hid WA
  clear e5 WA c0 c1 c2 s0 s1' s2' s3 s4
  obtain ⟨c0, c1, c2⟩ := HC.out.three
  obtain ⟨s0, s1', s2', s3, s4⟩ := HB_b.out.five
  go_wp2_with (fail)
  refine (HEn.out ⟨ka_b, kn_b, kc_b⟩ ⟨va_b, vn_b, vc_b⟩ ⟨ta_b, tn_b, tc_b⟩ ⟨r_b, x_b, y_b, z_b, l_b⟩ _ HX.out HS_b.out HRt_b.out).mono ?_
  rintro e w6 ⟨⟨aB, nB, dB⟩, rfl, WB, e6⟩
  dsimp only at WB
  replace HX := Lib.hid (HX.out.trans e6)
  replace HC := Lib.hid (HC.out.ext e6)
  replace HS_a := Lib.hid (HS_a.out.ext e6)
  replace HB_a := Lib.hid (HB_a.out.ext e6)
  replace HS_b := Lib.hid (HS_b.out.ext e6)
  replace HB_b := Lib.hid (HB_b.out.ext e6)
  replace HWA := Lib.hid (HWA.out.ext e6)
  have HWB := Lib.hid WB
  clear e6 WB c0 c1 c2 s0 s1' s2' s3 s4
  obtain ⟨c0, c1, c2⟩ := HC.out.three
  have hda := dec_enc HRt_a.out HS_a.out.wd
  have hinj := encW_inj HRt_a.out HRt_b.out HS_a.out.wd HS_b.out.wd
  have hla := encW_len HRt_a.out
  have hnA := HWA.out.len
  go_wp2_with (fail)
  have hQ := HDe.out _ _ _ _ _ HX.out HWA.out
  rw [hda] at hQ
  refine hQ.mono ?_
  rintro e w7 ⟨e7, ⟨ka, kn, kc⟩, ⟨va, vn, vc⟩, ⟨ta, tn, tc⟩, rfl, S7, _⟩
  dsimp only [sv] at *
  have E := e7.alloc (.cells #[.int .u64 r_a, .slice ka kn kc, .slice va vn vc, .slice ta tn tc, .bool l_a] 30)
  replace HX := Lib.hid (HX.out.trans E)
  replace HC := Lib.hid (HC.out.ext E)
  replace HS_a := Lib.hid (HS_a.out.ext E)
  replace HB_a := Lib.hid (HB_a.out.ext E)
  replace HS_b := Lib.hid (HS_b.out.ext E)
  replace HB_b := Lib.hid (HB_b.out.ext E)
  replace HWA := Lib.hid (HWA.out.ext E)
  replace HWB := Lib.hid (HWB.out.ext E)
  have HSu := Lib.hid (S7.ext (Ext.new w7 (.cells #[.int .u64 r_a, .slice ka kn kc, .slice va vn vc, .slice ta tn tc, .bool l_a] 30)))
  have HBu := Lib.hid (show Cb (w7.alloc (.cells #[.int .u64 r_a, .slice ka kn kc, .slice va vn vc, .slice ta tn tc, .bool l_a] 30)) w7.heap.size [.int .u64 r_a, .slice ka kn kc, .slice va vn vc, .slice ta tn tc, .bool l_a] from Cb.new w7 _ _)
  have hlen : Reg.hom k m = (nA : Int) := by rw [← hla, hnA]
  rw [hlen] at HHo
  have HI := Lib.hid hinj
  have HT1 := Lib.hid (fun W (hE : Ext (w7.alloc (.cells #[.int .u64 r_a, .slice ka kn kc, .slice va vn vc, .slice ta tn tc, .bool l_a] 30)) W) => same_any ⟨ka, kn, kc⟩ ⟨va, vn, vc⟩ ⟨ta, tn, tc⟩ ⟨ka_a, kn_a, kc_a⟩ ⟨va_a, vn_a, vc_a⟩ ⟨ta_a, tn_a, tc_a⟩ ⟨r_a, x_a, y_a, z_a, l_a⟩ ⟨r_a, x_a, y_a, z_a, l_a⟩ true W (HSu.out.ext hE) (HS_a.out.ext hE) (Lib.hid (by simp)))
  obtain ⟨r, hr⟩ : ∃ r, r = decide ((⟨r_a, x_a, y_a, z_a, l_a⟩ : St) = ⟨r_b, x_b, y_b, z_b, l_b⟩) := ⟨_, rfl⟩
  have HT2 := Lib.hid (fun W (hE : Ext (w7.alloc (.cells #[.int .u64 r_a, .slice ka kn kc, .slice va vn vc, .slice ta tn tc, .bool l_a] 30)) W) => same_any ⟨ka_a, kn_a, kc_a⟩ ⟨va_a, vn_a, vc_a⟩ ⟨ta_a, tn_a, tc_a⟩ ⟨ka_b, kn_b, kc_b⟩ ⟨va_b, vn_b, vc_b⟩ ⟨ta_b, tn_b, tc_b⟩ ⟨r_a, x_a, y_a, z_a, l_a⟩ ⟨r_b, x_b, y_b, z_b, l_b⟩ r W (HS_a.out.ext hE) (HS_b.out.ext hE) (Lib.hid hr))
  have HT3 := Lib.hid (fun W (hE : Ext (w7.alloc (.cells #[.int .u64 r_a, .slice ka kn kc, .slice va vn vc, .slice ta tn tc, .bool l_a] 30)) W) => rwords_any aA aB nA nB dA dB _ _ r W (HWA.out.ext hE) (HWB.out.ext hE) (Lib.hid (by
    rw [hr]
    exact decide_eq_decide.2 hinj.symm)))
  have HHx := Lib.hid (fun W (hE : Ext (w7.alloc (.cells #[.int .u64 r_a, .slice ka kn kc, .slice va vn vc, .slice ta tn tc, .bool l_a] 30)) W) => HHo.out W (HX.out.trans hE))
  obtain ⟨b0, b1, b2, b3, b4⟩ := HBu.out.five
  obtain ⟨s0, s1', s2', s3, s4⟩ := HB_a.out.five
  obtain ⟨t0, t1', t2', t3, t4⟩ := HB_b.out.five
  clear hQ E e7 S7 hda hinj hla hnA hlen hr HI c0 c1 c2
  dsimp only [sv] at *
  obtain ⟨c0, c1, c2⟩ := HC.out.three
  go_wp2_with (fail)
  refine wp_region_held_drew (S := fun w' => Ext (w7.alloc (.cells #[.int .u64 r_a, .slice ka kn kc, .slice va vn vc, .slice ta tn tc, .bool l_a] 30)) w') (by kernel_rfl) (Ext.drew (Ext.refl (w7.alloc (.cells #[.int .u64 r_a, .slice ka kn kc, .slice va vn vc, .slice ta tn tc, .bool l_a] 30)))) (fun hHeld => ?_)
  refine wpAnyH_take (i := 0) (v := .bool true) rfl (by kernel_rfl) (by kernel_rfl) (by kernel_rfl) (fun _ _ _ h => h) (Or.inl ⟨by kernel_rfl, ?_⟩) (by assumption) ?_
  · intro w hE
    go_simp
  refine wpAnyH_take (i := 1) (v := .bool true) rfl (by kernel_rfl) (by kernel_rfl) (by kernel_rfl) (fun _ _ _ h => h) (Or.inl ⟨by kernel_rfl, ?_⟩) (by assumption) ?_
  · intro w hE
    go_simp
  refine wpAnyH_take (i := 2) (v := .int .i64 0) rfl (by kernel_rfl) (by kernel_rfl) (by kernel_rfl) (fun _ _ _ h => h) (Or.inl ⟨by kernel_rfl, ?_⟩) (by assumption) ?_
  · intro w hE
    go_simp
  refine wpAnyH_take (i := 3) (v := .bool true) rfl (by kernel_rfl) (by kernel_rfl) (by kernel_rfl) (fun _ _ _ h => h) (Or.inl ⟨by kernel_rfl, ?_⟩) (by assumption) ?_
  · intro w hE
    go_simp
  refine wpAnyH_take (i := 4) (v := .bool true) rfl (by kernel_rfl) (by kernel_rfl) (by kernel_rfl) (fun _ _ _ h => h) (Or.inl ⟨by kernel_rfl, ?_⟩) (by assumption) ?_
  · intro w hE
    go_simp
  refine wpAnyH_take (i := 5) (v := .bool true) rfl (by kernel_rfl) (by kernel_rfl) (by kernel_rfl) (fun _ _ _ h => h) (Or.inl ⟨by kernel_rfl, ?_⟩) (by assumption) ?_
  · intro w hE
    go_simp
  refine wpAnyH_take (i := 6) (v := .int .i64 0) rfl (by kernel_rfl) (by kernel_rfl) (by kernel_rfl) (fun _ _ _ h => h) (Or.inl ⟨by kernel_rfl, ?_⟩) (by assumption) ?_
  · intro w hE
    go_simp
  refine wpAnyH_take (i := 7) (v := .bool true) rfl (by kernel_rfl) (by kernel_rfl) (by kernel_rfl) (fun _ _ _ h => h) (Or.inl ⟨by kernel_rfl, ?_⟩) (by assumption) ?_
  · intro w hE
    go_simp
  refine wpAnyH_take (i := 8) (v := .bool true) rfl (by kernel_rfl) (by kernel_rfl) (by kernel_rfl) (fun _ _ _ h => h) (Or.inl ⟨by kernel_rfl, ?_⟩) (by assumption) ?_
  · intro w hE
    go_simp
  refine wpAnyH_take (i := 9) (v := .bool true) rfl (by kernel_rfl) (by kernel_rfl) (by kernel_rfl) (fun _ _ _ h => h) (Or.inl ⟨by kernel_rfl, ?_⟩) (by assumption) ?_
  · intro w hE
    go_simp
  refine wpAnyH_take (i := 10) (v := .int .i64 0) rfl (by kernel_rfl) (by kernel_rfl) (by kernel_rfl) (fun _ _ _ h => h) (Or.inl ⟨by kernel_rfl, ?_⟩) (by assumption) ?_
  · intro w hE
    go_simp
  refine wpAnyH_take (i := 11) (v := .bool true) rfl (by kernel_rfl) (by kernel_rfl) (by kernel_rfl) (fun _ _ _ h => h) (Or.inl ⟨by kernel_rfl, ?_⟩) (by assumption) ?_
  · intro w hE
    go_simp
  refine wpAnyH_take (i := 12) (v := .bool true) rfl (by kernel_rfl) (by kernel_rfl) (by kernel_rfl) (fun _ _ _ h => h) (Or.inl ⟨by kernel_rfl, ?_⟩) (by assumption) ?_
  · intro w hE
    go_simp
  refine wpAnyH_take (i := 13) (v := .bool true) rfl (by kernel_rfl) (by kernel_rfl) (by kernel_rfl) (fun _ _ _ h => h) (Or.inl ⟨by kernel_rfl, ?_⟩) (by assumption) ?_
  · intro w hE
    go_simp
  refine wpAnyH_take (i := 14) (v := .agg #[.int .u64 r_a, .slice ka kn kc, .slice va vn vc, .slice ta tn tc, .bool l_a]) rfl (by kernel_rfl) (by kernel_rfl) (by kernel_rfl) (fun _ _ _ h => h) (Or.inl ⟨by kernel_rfl, ?_⟩) (by assumption) ?_
  · intro w hE
    have q0 := hE.cell b0
    have q1 := hE.cell b1
    have q2 := hE.cell b2
    have q3 := hE.cell b3
    have q4 := hE.cell b4
    go_simp
  refine wpAnyH_take (i := 15) (v := .agg #[.int .u64 r_a, .slice ka_a kn_a kc_a, .slice va_a vn_a vc_a, .slice ta_a tn_a tc_a, .bool l_a]) rfl (by kernel_rfl) (by kernel_rfl) (by kernel_rfl) (fun _ _ _ h => h) (Or.inl ⟨by kernel_rfl, ?_⟩) (by assumption) ?_
  · intro w hE
    have q0 := hE.cell s0
    have q1 := hE.cell s1'
    have q2 := hE.cell s2'
    have q3 := hE.cell s3
    have q4 := hE.cell s4
    go_simp
  refine wpAnyH_ready (rs := [16]) (by kernel_rfl) (by simp) ?_
  refine AllReadyH.cons rfl (fun K hK => ?_) AllReadyH.nil
  go_simp
  refine (HT1.out _ (by assumption)).mono ?_
  rintro e w8 ⟨rfl, e8⟩
  refine hK.out _ _ (Ext.trans (by assumption) e8) (fun hHeld => ?_)
  clear hK K
  refine wpAnyH_take (i := 17) (v := .bool true) rfl (by kernel_rfl) (by kernel_rfl) (by kernel_rfl) (fun _ _ _ h => h) (Or.inl ⟨by kernel_rfl, ?_⟩) (by assumption) ?_
  · intro w hE
    go_simp
  refine wpAnyH_take (i := 18) (v := .bool true) rfl (by kernel_rfl) (by kernel_rfl) (by kernel_rfl) (fun _ _ _ h => h) (Or.inl ⟨by kernel_rfl, ?_⟩) (by assumption) ?_
  · intro w hE
    go_simp
  refine wpAnyH_take (i := 19) (v := .slice aA nA dA) rfl (by kernel_rfl) (by kernel_rfl) (by kernel_rfl) (fun _ _ _ h => h) (Or.inl ⟨by kernel_rfl, ?_⟩) (by assumption) ?_
  · intro w hE
    go_simp
  refine wpAnyH_take (i := 20) (v := .slice aB nB dB) rfl (by kernel_rfl) (by kernel_rfl) (by kernel_rfl) (fun _ _ _ h => h) (Or.inl ⟨by kernel_rfl, ?_⟩) (by assumption) ?_
  · intro w hE
    go_simp
  refine wpAnyH_take (i := 22) (v := .agg #[.int .u64 r_a, .slice ka_a kn_a kc_a, .slice va_a vn_a vc_a, .slice ta_a tn_a tc_a, .bool l_a]) rfl (by kernel_rfl) (by kernel_rfl) (by kernel_rfl) (fun _ _ _ h => h) (Or.inl ⟨by kernel_rfl, ?_⟩) (by assumption) ?_
  · intro w hE
    have q0 := hE.cell s0
    have q1 := hE.cell s1'
    have q2 := hE.cell s2'
    have q3 := hE.cell s3
    have q4 := hE.cell s4
    go_simp
  refine wpAnyH_take (i := 23) (v := .agg #[.int .u64 r_b, .slice ka_b kn_b kc_b, .slice va_b vn_b vc_b, .slice ta_b tn_b tc_b, .bool l_b]) rfl (by kernel_rfl) (by kernel_rfl) (by kernel_rfl) (fun _ _ _ h => h) (Or.inl ⟨by kernel_rfl, ?_⟩) (by assumption) ?_
  · intro w hE
    have q0 := hE.cell t0
    have q1 := hE.cell t1'
    have q2 := hE.cell t2'
    have q3 := hE.cell t3
    have q4 := hE.cell t4
    go_simp
  refine wpAnyH_ready (rs := [21]) (by kernel_rfl) (by simp) ?_
  refine AllReadyH.cons rfl (fun K hK => ?_) AllReadyH.nil
  go_simp
  refine (HT3.out _ (by assumption)).mono ?_
  rintro e w9 ⟨rfl, e9⟩
  refine hK.out _ _ (Ext.trans (by assumption) e9) (fun hHeld => ?_)
  clear hK K
  refine wpAnyH_ready (rs := [24]) (by kernel_rfl) (by simp) ?_
  refine AllReadyH.cons rfl (fun K hK => ?_) AllReadyH.nil
  go_simp
  refine (HT2.out _ (by assumption)).mono ?_
  rintro e w10 ⟨rfl, e10⟩
  refine hK.out _ _ (Ext.trans (by assumption) e10) (fun hHeld => ?_)
  clear hK K
  refine wpAnyH_take (i := 25) (v := .bool true) rfl (by kernel_rfl) (by kernel_rfl) (by kernel_rfl) (fun _ _ _ h => h) (Or.inl ⟨by kernel_rfl, ?_⟩) (by assumption) ?_
  · intro w hE
    go_simp
  refine wpAnyH_take (i := 26) (v := .bool true) rfl (by kernel_rfl) (by kernel_rfl) (by kernel_rfl) (fun _ _ _ h => h) (Or.inl ⟨by kernel_rfl, ?_⟩) (by assumption) ?_
  · intro w hE
    go_simp
  refine wpAnyH_take (i := 27) (v := .bool true) rfl (by kernel_rfl) (by kernel_rfl) (by kernel_rfl) (fun _ _ _ h => h) (Or.inl ⟨by kernel_rfl, ?_⟩) (by assumption) ?_
  · intro w hE
    go_simp
  refine wpAnyH_take (i := 28) (v := .slice aA nA dA) rfl (by kernel_rfl) (by kernel_rfl) (by kernel_rfl) (fun _ _ _ h => h) (Or.inl ⟨by kernel_rfl, ?_⟩) (by assumption) ?_
  · intro w hE
    go_simp
  refine wpAnyH_take (i := 29) (v := .int .i64 (nA : Int)) rfl (by kernel_rfl) (by kernel_rfl) (by kernel_rfl) (fun _ _ _ h => h) (Or.inl ⟨by kernel_rfl, ?_⟩) (by assumption) ?_
  · intro w hE
    go_simp
  refine wpAnyH_take (i := 30) (v := .agg #[.int .i64 k, .int .i64 p, .int .i64 m]) rfl (by kernel_rfl) (by kernel_rfl) (by kernel_rfl) (fun _ _ _ h => h) (Or.inl ⟨by kernel_rfl, ?_⟩) (by assumption) ?_
  · intro w hE
    have q0 := hE.cell c0
    have q1 := hE.cell c1
    have q2 := hE.cell c2
    go_simp
  refine wpAnyH_ready (rs := [31]) (by kernel_rfl) (by simp) ?_
  refine AllReadyH.cons rfl (fun K hK => ?_) AllReadyH.nil
  go_simp
  refine (HHx.out _ (by assumption)).mono ?_
  rintro e w11 ⟨rfl, e11⟩
  refine hK.out _ _ (Ext.trans (by assumption) e11) (fun hHeld => ?_)
  clear hK K
  refine wpAnyH_take (i := 32) (v := .bool true) rfl (by kernel_rfl) (by kernel_rfl) (by kernel_rfl) (fun _ _ _ h => h) (Or.inl ⟨by kernel_rfl, ?_⟩) (by assumption) ?_
  · intro w hE
    go_simp
  refine wpAnyH_take (i := 33) (v := .bool true) rfl (by kernel_rfl) (by kernel_rfl) (by kernel_rfl) (fun _ _ _ h => h) (Or.inl ⟨by kernel_rfl, ?_⟩) (by assumption) ?_
  · intro w hE
    go_simp
  refine wpAnyH_take (i := 34) (v := .bool true) rfl (by kernel_rfl) (by kernel_rfl) (by kernel_rfl) (fun _ _ _ h => h) (Or.inl ⟨by kernel_rfl, ?_⟩) (by assumption) ?_
  · intro w hE
    go_simp
  refine wpAnyH_done (by kernel_rfl) ?_ _
  go_simp
  go_wp2_with (fail)
  go_ret
  exact ⟨rfl, HX.out.trans hHeld⟩

end Go.Proofs.YtmonkcekkhfafaaGreatDoor.Enc

/- EncBack:
  EncBack: for every input the law returns true, and each argument reads behind the call as it read before; the package variables homes and rounds hold what their initialisers lay (the card ties them to the text).
-/
namespace Go.Proofs.YtmonkcekkhfafaaGreatDoor.encBack
open Go.ChangeShapes Go.WideShapes Go.ChangeAt Go.RowKit

set_option maxHeartbeats 4000000 in
set_option maxRecDepth 100000 in
theorem contract (H : Type) (enc : TypeId × Value → H) (W : World) (base : Nat) (args : Array Value) (ds gs : List (DataW H)) (before : List MemPlace)
    (hval : ∀ (j : Nat) t v, Tryz.f4.params[j]? = some t → args[j]? = some v → Value.okWide Tryz.prog W .any base t v)
    (hW : DataW.Whole enc Tryz.prog Tryz.f4.params.toList Rows.encBackSpec.vars false W args.toList ds gs before) (hL : laidMetH Tryz.prog Rows.encBackRow.laid W) :
    Calls Tryz.prog 4 args W fun e W' => ∃ v, e = .returned v ∧ Rows.encBackSpec.post enc Tryz.prog Tryz.f4 false true false false W args v W' := by
  have hR : Reg.Tab W := Reg.tab_of (L := Rows.encBackRow.laid) hL (.tail _ (.head _))
  have hM : Tab W := tab_of (L := Rows.encBackRow.laid) hL (.head _)
  have hW' := hW
  obtain ⟨p, q, hA0, hV, rfl, hfz, hnd⟩ := hW
  have hA : DataW.TrodAll enc Tryz.prog W 0 (fun _ => true) true Tryz.f4.params.toList args.toList ds p := hA0
  rw [Tryz.params4] at hA hval
  obtain ⟨v0, vs0, d0, ds0, p0, q0, hargs, rfl, rfl, h0, r0⟩ := trodAll_cons hA
  obtain ⟨v1, vs1, d1, ds1, p1, q1, rfl, rfl, rfl, h1, r1⟩ := trodAll_cons r0
  obtain ⟨v2, vs2, d2, ds2, p2, q2, rfl, rfl, rfl, h2, r2⟩ := trodAll_cons r1
  obtain ⟨rfl, rfl, rfl⟩ := trodAll_nil r2
  obtain rfl : args = #[v0, v1, v2] := by cases args; simp_all
  obtain ⟨a0, b0, c0, rfl, x0, y0, z0⟩ := Law.open_trip (hval 0 22 v0 rfl rfl) h0
  obtain ⟨s1, n1, c1, rfl, k1⟩ := Law.open_ts (hval 1 25 v1 rfl rfl) h1
  obtain ⟨s2, n2, c2, rfl, k2⟩ := Law.open_ts (hval 2 25 v2 rfl rfl) h2
  refine (Enc.back_walk a0 b0 c0 s1 s2 n1 n2 c1 c2 W hR hM x0 y0 z0 k1 k2).mono fun e W' ⟨he, hg⟩ => ?_
  subst he
  exact ⟨_, rfl, Law.told hW' rfl rfl rfl (by kernel_rfl) hg⟩

def fill (cs : Array Value) : Obj → Obj
  | .cells _ t frozen => .cells cs t frozen
  | o => o
noncomputable def laidHeap (h : Array Obj) : Array Obj := Array.modify (Array.modify h 0 (fill #[.int .i64 0, .int .i64 0, .int .i64 1, .int .i64 0, .int .i64 1, .int .i64 2, .int .i64 1, .int .i64 4, .int .i64 2, .int .i64 4, .int .i64 9, .int .i64 1])) 1 (fill #[.int .u64 30, .int .u64 13787848793156543929, .int .u64 10871156337175269513, .int .u64 27, .int .u64 10723151780598845931, .int .u64 3573116690164977347, .int .u64 31, .int .u64 1, .int .u64 1])
noncomputable def laidWorld (os : Os) : World := { World.holding Tryz.prog os ⟨#[], #[], []⟩ with heap := laidHeap (World.holding Tryz.prog os ⟨#[], #[], []⟩).heap }
theorem laid_met (os : Os) : laidMet Tryz.prog Rows.encBackRow.laid ((laidWorld os).forCall (fun _ _ => 0) ⟨#[], #[.agg #[.int .i64 0, .int .i64 0, .int .i64 0], .slice none 0 0, .slice none 0 0], []⟩).memory :=
  laidMet_of_run' 8 (by kernel_rfl) (by kernel_rfl)
theorem reads (os : Os) {H : Type} (enc : TypeId × Value → H) : ∃ places, DataW.whole enc Tryz.prog ((laidWorld os).forCall (fun _ _ => 0) ⟨#[], #[.agg #[.int .i64 0, .int .i64 0, .int .i64 0], .slice none 0 0, .slice none 0 0], []⟩).memory Tryz.f4.params.toList Rows.encBackSpec.vars false (#[.agg #[.int .i64 0, .int .i64 0, .int .i64 0], .slice none 0 0, .slice none 0 0] : Array Value).toList 8 = some ([.agg [.lit (.int .i64 0), .lit (.int .i64 0), .lit (.int .i64 0)], .nil, .nil], [], places) :=
  ⟨[], by kernel_rfl⟩

set_option maxRecDepth 100000 in
theorem lifted (os : Os) (started : os.Started) (H : Type) (enc : TypeId × Value → H) (F : Stop.Interp) :
    ReturnsInHanded {} Tryz.checked os 4 .any ((OpenSpec.ofChange Rows.encBackSpec).preRow enc Tryz.prog Tryz.f4 Rows.encBackRow.domain false Rows.encBackRow.laid) (((OpenSpec.ofChange Rows.encBackSpec).at F).post enc Tryz.prog Tryz.f4 false true false false) := by
  obtain ⟨places, hx⟩ := reads os enc
  refine returnsInHanded_of_row (C := Tryz.checked) (s := OpenSpec.ofChange Rows.encBackSpec) Law.own started (by kernel_rfl) Tryz.func4
    (witness_row_at (enc := enc) (C := Tryz.checked) false (laidWorld os) #[.agg #[.int .i64 0, .int .i64 0, .int .i64 0], .slice none 0 0, .slice none 0 0] rfl (by kernel_rfl) (by kernel_rfl) (by kernel_rfl)
      (OpenSpec.preRow_of_cond 8 hx (by kernel_rfl) (fun k hk => by cases hk) (by kernel_rfl) (laid_met os))) ?_
  intro W base args ds gs before hval hW _ _ _ hL _ _
  exact contract H enc W base args ds gs before hval hW hL

theorem said : Rows.EncBackSaid :=
  OpenClaim.holds_of_cond 4 Tryz.f4 rfl rfl rfl rfl rfl rfl rfl ⟨rfl, rfl, rfl, rfl, rfl⟩ rfl rfl rfl rfl rfl (by kernel_rfl) Tryz.func4 (by kernel_rfl)
    (of_decide_eq_true (by kernel_rfl)) (by unfold Func.isWrapper; first | (rw [if_pos (by decide +kernel)]; kernel_rfl) | (rw [if_neg (by decide +kernel)]; exact ⟨rfl, rfl⟩))
    (fun os started H enc _ F => by rw [OpenClaim.pre_eq_preRow]; exact lifted os started H enc F)

theorem plain (f : FuncId) (fn : Func) (hf : Tryz.pinned.checked.prog.funcNamed "whitewash/whitewashlaw10.EncBack" = some f) (hfn : Tryz.pinned.checked.prog.funcs[f]? = some fn) :
    false = Tryz.pinned.checked.prog.looks [] ∧ ∀ (j : Nat) t, fn.params[j]? = some t → Tryz.pinned.checked.prog.wantsStandIn t = false := by
  obtain rfl : f = 4 := Option.some.inj ((show Tryz.prog.funcNamed "whitewash/whitewashlaw10.EncBack" = some 4 by kernel_rfl).symm.trans hf) |>.symm
  obtain rfl : fn = Tryz.f4 := (Option.some.inj (Tryz.func4.symm.trans hfn)).symm
  refine ⟨by kernel_rfl, fun j t ht => ?_⟩
  rw [Tryz.params4] at ht
  have hm : t ∈ [22, 25, 25] := by simpa using Array.mem_of_getElem? ht
  have hall : ([22, 25, 25].all fun u => !Tryz.prog.wantsStandIn u) = true := by kernel_rfl
  exact (show Tryz.prog.wantsStandIn t = false by simpa using List.all_eq_true.1 hall t hm)

theorem card : Rows.EncBackCardSaid :=
  Claim7.holds_tied_plain_at .later [] _ _ _ _ said (fun _ h => by cases h) (by kernel_rfl) (fun _ h => by cases h) encBack_row_tie rfl ⟨rfl, rfl⟩ (by kernel_rfl) rfl plain (by kernel_rfl)
end Go.Proofs.YtmonkcekkhfafaaGreatDoor.encBack

namespace Go.Proofs.YtmonkcekkhfafaaGreatDoor
theorem encBack_holds : Rows.EncBackCardSaid := encBack.card
end Go.Proofs.YtmonkcekkhfafaaGreatDoor

