/-
  AutoKept: for every input the law returns true, and each argument reads behind the call as it read before. No condition.
-/
import Derived.Test.YtdipddnnckfnmaaGreatM24
import Derived.ProofKit
/- LawKept:
  AutoKept: the walk. Conditions: integers' bounds; the raw calls can be read.
-/
namespace Go.Proofs.YtdipddnnckfnmaaGreat.Law
open Go.RowKit (Below intOf)
open Go.Proofs.YtdipddnnckfnmaaGreat.Aut
open Go.Proofs.YtdipddnnckfnmaaGreat.Lan (DoE DoE2 opv new_any do_all do_all2 right_any reads_is)
open Go.Proofs.YtdipddnnckfnmaaGreat.Reg (cf bx fits_any)

def kpDeps : Nat → List Nat := fun _ => []
def kpSlots : Nat → Option Tmp := fun i => match i with | 6 => some 39 | 7 => some 13 | _ => none
def KpF (wr : World) : Nat → (Nat → Value) → World → Prop := fun i vs w' => match i with
  | 6 => ∃ oo, Wc oo ∧ vs 6 = ov oo
  | 7 => ∃ B : Nat, vs 7 = .pointer (some ⟨B, 0, none⟩) ∧ wr.heap.size ≤ B ∧ Cb w' B [.int .i64 0, .int .u64 0, .int .u64 0]
  | _ => True
theorem kpF_loc {wr : World} : ∀ i vs vs' w, (∀ j, j = i ∨ j ∈ kpDeps i → vs j = vs' j) → KpF wr i vs w → KpF wr i vs' w := by
  intro i vs vs' w h hF
  unfold KpF at hF ⊢
  split at hF
  · obtain ⟨oo, h1, h2⟩ := hF; exact ⟨oo, h1, (h 6 (.inl rfl)).symm.trans h2⟩
  · obtain ⟨B, h1, h2⟩ := hF; exact ⟨B, (h 7 (.inl rfl)).symm.trans h1, h2⟩
  · trivial
theorem kpF_stab {wr : World} : ∀ i vs w w', Ext w w' → KpF wr i vs w → KpF wr i vs w' := by
  intro i vs w w' h hF
  unfold KpF at hF ⊢
  split at hF
  · exact hF
  · obtain ⟨B, h1, h2, h3⟩ := hF; exact ⟨B, h1, h2, h3.ext h⟩
  · trivial
/-- What a round finds. -/
def KpL (k p m : Int) (w wr : World) (C S : Nat) : Prop := ∃ (s : St) (a v t : Sl), rightS k p m s = true ∧ SS wr a v t s ∧ OffS a v t S ∧ Cb wr S (sc s.reg a v t s.closed) ∧ Cb wr C [.int .i64 k, .int .i64 p, .int .i64 m] ∧ Ext w wr
/-- What lies there behind a round's call. -/
structure KpR (k p m : Int) (w wr w7 w10 : World) (C S B T : Nat) (d : St) (a v t : Sl) (s : St) (a' v' t' : Sl) (oc ok ol d2 d3 : Int) : Prop where
  c14 : Cb w10 T (sc d.reg a v t d.closed)
  c15 : Cb w10 (T + 1) [.int .i64 d2, .int .u64 d3]
  cc : Cb w10 C [.int .i64 k, .int .i64 p, .int .i64 m]
  cb : Cb w10 S (sc s.reg a' v' t' s.closed)
  co : Cb w10 B [.int .i64 oc, .int .u64 ok, .int .u64 ol]
  sd : SS w10 a v t d
  ss : SS w10 a' v' t' s
  o : OffS a v t S
  r : rightS k p m d = true
  e : Ext w w10
theorem KpR.ext {k p m : Int} {w wr w7 w10 w11 : World} {C S B T : Nat} {d : St} {a v t : Sl} {s : St} {a' v' t' : Sl} {oc ok ol d2 d3 : Int} (h : KpR k p m w wr w7 w10 C S B T d a v t s a' v' t' oc ok ol d2 d3) (e : Ext w10 w11) : KpR k p m w wr w7 w11 C S B T d a v t s a' v' t' oc ok ol d2 d3 :=
  ⟨h.c14.ext e, h.c15.ext e, h.cc.ext e, h.cb.ext e, h.co.ext e, h.sd.ext e, h.ss.ext e, h.o, h.r, h.e.trans e⟩
theorem KpR.store {k p m : Int} {w wr w7 w10 : World} {C S B T : Nat} {d : St} {a v t : Sl} {s : St} {a' v' t' : Sl} {oc ok ol d2 d3 : Int} (h : KpR k p m w wr w7 w10 C S B T d a v t s a' v' t' oc ok ol d2 d3) (hw : w.heap.size ≤ S) (hC : C ≠ S) :
    KpL k p m w (((((w10.setCell ⟨S, 0, none⟩ (.int .u64 d.reg)).setCell ⟨S, 1, none⟩ (.slice a.a a.n a.c)).setCell ⟨S, 2, none⟩ (.slice v.a v.n v.c)).setCell ⟨S, 3, none⟩ (.slice t.a t.n t.c)).setCell ⟨S, 4, none⟩ (.bool d.closed)) C S :=
  ⟨d, a, v, t, h.r, ((((h.sd.set h.o _ _).set h.o _ _).set h.o _ _).set h.o _ _).set h.o _ _, h.o, h.cb.st _ _ _ _ _, ((((h.cc.far hC _ _).far hC _ _).far hC _ _).far hC _ _).far hC _ _, ((((h.e.setCell hw _).setCell hw _).setCell hw _).setCell hw _).setCell hw _⟩
theorem kp_cases {s d : St} {d2 d3 : Int} {r : Bool} (h : Errs s (d, d2, d3)) (hr : r = true → d = s) : (d2 ≠ 0 ∧ d3 = 0 ∧ d = s) ∨ (d2 = 0 ∧ r = true ∧ d = s) ∨ (d2 = 0 ∧ r = false) := by
  by_cases h2 : d2 = 0
  · cases r with
    | true => exact .inr (.inl ⟨h2, rfl, hr rfl⟩)
    | false => exact .inr (.inr ⟨h2, rfl⟩)
  · obtain ⟨h3, h4⟩ := h h2
    exact .inl ⟨h2, h4, h3⟩
theorem conf_fits (a b c : Int) : fits (1 + pickZ a 5) (1 + pickZ b 16) (1 + pickZ c 12) = true := by
  have a0 := pick_ge a (n := 5) (by decide)
  have a1 := pick_lt a (n := 5) (by decide)
  have b0 := pick_ge b (n := 16) (by decide)
  have b1 := pick_lt b (n := 16) (by decide)
  have c0 := pick_ge c (n := 12) (by decide)
  have c1 := pick_lt c (n := 12) (by decide)
  unfold fits Reg.fits
  simp
  omega
set_option maxHeartbeats 16000000 in
set_option maxRecDepth 100000 in
theorem kept_walk (a b c x : Int) (s1 s2 : Option Addr) (n1 n2 c1' c2' : Nat) (w : World) (ha : I64 a) (hb : I64 b) (hc : I64 c) (hT1 : TS w s1 n1) (hT2 : TS w s2 n2) (hx : U64 x) :
    Calls Tryz.prog 4 #[.agg #[.int .i64 a, .int .i64 b, .int .i64 c], .slice s1 n1 c1', .slice s2 n2 c2', .int .u64 x] w fun e w' => e = .returned (.bool true) ∧ Ext w w' := by
  have HA := Lib.hid (fun W => awake_any do_all W)
  have HCo := Lib.hid (fun W => conf_any a b c W ha hb hc)
  have hfit := conf_fits a b c
  generalize 1 + pickZ a 5 = k at *
  generalize 1 + pickZ b 16 = p at *
  generalize 1 + pickZ c 12 = m at *
  have HF := Lib.hid hfit
  have HTS := Lib.hid hT2
  have HT1 := Lib.hid hT1
  have HU := Lib.hid hx
  have b0 : Cb (w.alloc (.cells #[.int .i64 a, .int .i64 b, .int .i64 c] 22)) w.heap.size [.int .i64 a, .int .i64 b, .int .i64 c] := Cb.new w _ _
  have HB0 := Lib.hid b0
  have HX0 := Lib.hid (Ext.new w (.cells #[.int .i64 a, .int .i64 b, .int .i64 c] 22))
  clear b0 hfit hT1 hT2 hx ha hb hc
  dsimp only [cf] at *
  go_enter Tryz.func4, Tryz.ntmps4
  go_wp2_with (fail)
  refine (HA.out _).mono ?_
  rintro e w1 ⟨rfl, e1⟩
  have HX1 := Lib.hid (HX0.out.trans e1)
  obtain ⟨i0, i1, i2⟩ := (HB0.out.ext e1).three
  clear HB0 HX0 HA e1
  go_wp2_with (fail)
  refine (HCo.out _).mono ?_
  rintro e w2 ⟨rfl, e2⟩
  have HX2 := Lib.hid (HX1.out.trans e2)
  clear HCo HX1 e2 i0 i1 i2
  have C2 : Cb (w2.alloc (.cells #[.int .i64 k, .int .i64 p, .int .i64 m] 24)) w2.heap.size [.int .i64 k, .int .i64 p, .int .i64 m] := Cb.new w2 _ _
  obtain ⟨c0, c1, c2⟩ := C2.three
  have HC2 := Lib.hid C2
  have HXa := Lib.hid (HX2.out.alloc (.cells #[.int .i64 k, .int .i64 p, .int .i64 m] 24))
  have HSt := Lib.hid (state_any s1 n1 c1' (w2.alloc (.cells #[.int .i64 k, .int .i64 p, .int .i64 m] 24)) HF.out (HT1.out.ext HXa.out))
  clear C2
  dsimp only [cf] at *
  go_wp2_with (fail)
  refine HSt.out.mono ?_
  rintro e w3 ⟨⟨sr, sk, su, sw, scl⟩, hR3, ⟨ka, kn, kc⟩, ⟨va, vn, vc⟩, ⟨ta, tn, tc⟩, rfl, S3, e3⟩
  have hw2 : w.heap.size ≤ w2.heap.size := HX2.out.size
  have hw3 : w2.heap.size + 1 ≤ w3.heap.size := by have := e3.size; simpa only [World.size_alloc] using this
  dsimp only [sv] at *
  have HL0 : RowKit.Hid (KpL k p m w (w3.alloc (.cells #[.int .u64 sr, .slice ka kn kc, .slice va vn vc, .slice ta tn tc, .bool scl] 30)) w2.heap.size w3.heap.size) := Lib.hid
    ⟨⟨sr, sk, su, sw, scl⟩, ⟨ka, kn, kc⟩, ⟨va, vn, vc⟩, ⟨ta, tn, tc⟩, hR3, S3.ext (Ext.new _ _), S3.off (Nat.le_refl _), Cb.new w3 _ _, (HC2.out.ext e3).alloc _, (HXa.out.trans e3).alloc _⟩
  clear HSt HC2 HXa HX2 S3 e3 hR3 c0 c1 c2
  go_wp2_with (fail)
  go_loopw [12] (fun iv wr => ∃ i : Nat, iv = .int .i64 i ∧ i ≤ 12 ∧ KpL k p m w wr w2.heap.size w3.heap.size) (fun iv _ => 12 - (intOf iv).toNat)
  case atStart => exact ⟨0, rfl, by omega, HL0.out⟩
  case round =>
    obtain ⟨i, rfl, hi12, ⟨sr, sk, su, sw, scl⟩, ⟨ka4, kn4, kc4⟩, ⟨va4, vn4, vc4⟩, ⟨ta4, tn4, tc4⟩, hR, hS, hO, hB, hC, hE⟩ := hrel
    clear HL0
    have HR := Lib.hid hR
    have HS := Lib.hid hS
    have HB := Lib.hid hB
    have HC := Lib.hid hC
    have HE := Lib.hid hE
    by_cases hin : i < n2 ∧ i < 12
    · obtain ⟨hin, hi3⟩ := hin
      obtain ⟨rx, ry, rz, ux, uy, uz, b, o, esl, cx, cy, cz⟩ := HTS.out.2 i hin
      subst esl
      have hii : (i : Int) < n2 := by omega
      have hi3i : (i : Int) < 12 := by omega
      have HOp := Lib.hid (fun W => op_any rx ry rz x W HF.out ux uy uz HU.out)
      have hdo : RowKit.Hid (∀ o, doF k p m ⟨sr, sk, su, sw, scl⟩ o = ((doS k m ⟨sr, sk, su, sw, scl⟩ o).1, (doS k m ⟨sr, sk, su, sw, scl⟩ o).2, 0)) := Lib.hid (fun o => by unfold doF; rw [if_pos HF.out, if_pos hR])
      have cx2 := hE.cell cx
      have cy2 := hE.cell cy
      have cz2 := hE.cell cz
      obtain ⟨c0, c1, c2⟩ := hC.three
      clear hO hR hS hB hC hE cx cy cz ux uy uz
      go_wp2_with (fail)
      refine wp_region_held_drew (S := fun w' => Ext wr w') (by kernel_rfl) (Ext.drew (Ext.refl wr)) (fun hHeld => ?_)
      refine wpAnyH_take (i := 0) (v := .agg #[.int .i64 k, .int .i64 p, .int .i64 m]) rfl (by kernel_rfl) (by kernel_rfl) (by kernel_rfl) (fun _ _ _ h => h) (Or.inl ⟨by kernel_rfl, ?_⟩) (by assumption) ?_
      · intro w hE
        have q0 := hE.cell c0
        have q1 := hE.cell c1
        have q2 := hE.cell c2
        go_simp
      refine wpAnyH_take (i := 1) (v := .slice (some ⟨b, o, none⟩) n2 c2') rfl (by kernel_rfl) (by kernel_rfl) (by kernel_rfl) (fun _ _ _ h => h) (Or.inl ⟨by kernel_rfl, ?_⟩) (by assumption) ?_
      · intro w hE
        go_simp
      refine wpAnyH_take (i := 2) (v := .int .i64 (i : Int)) rfl (by kernel_rfl) (by kernel_rfl) (by kernel_rfl) (fun _ _ _ h => h) (Or.inl ⟨by kernel_rfl, ?_⟩) (by assumption) ?_
      · intro w hE
        go_simp
      refine wpAnyH_take (i := 3) (v := .pointer (some ⟨b, o + i * 3, none⟩)) rfl (by kernel_rfl) (by kernel_rfl) (by kernel_rfl) (fun _ _ _ h => h) (Or.inl ⟨by kernel_rfl, ?_⟩) (by assumption) ?_
      · intro w hE
        go_simp
      refine wpAnyH_take (i := 4) (v := .agg #[.int .i64 rx, .int .i64 ry, .int .i64 rz]) rfl (by kernel_rfl) (by kernel_rfl) (by kernel_rfl) (fun _ _ _ h => h) (Or.inl ⟨by kernel_rfl, ?_⟩) (by assumption) ?_
      · intro w hE
        have q0 := hE.cell cx2
        have q1 := hE.cell cy2
        have q2 := hE.cell cz2
        go_simp
      refine wpAnyH_take (i := 5) (v := .int .u64 x) rfl (by kernel_rfl) (by kernel_rfl) (by kernel_rfl) (fun _ _ _ h => h) (Or.inl ⟨by kernel_rfl, ?_⟩) (by assumption) ?_
      · intro w hE
        go_simp
      clear c0 c1 c2 cx2 cy2 cz2
      refine Par.wpAnyH_par (fuel := 1) [6, 7] [] kpDeps kpSlots (KpF wr) (fun _ _ _ => True) Ext rfl (by kernel_rfl) (by kernel_rfl) (by kernel_rfl) (fun _ _ _ _ _ h => h) Ext.refl (fun _ _ _ h g => Ext.trans h g) kpF_loc kpF_stab (fun _ _ _ _ _ _ _ => trivial) (by assumption) (fun _ h => by cases h) ?_ ?_
      · refine List.forall_mem_cons.2 ⟨?_, List.forall_mem_cons.2 ⟨?_, fun _ h => by cases h⟩⟩
        · intro _ done vs w5 hn hS5 hR5 hd hF
          simp only [kpDeps, Par.putAll_nil]
          refine Par.step_of rfl (fun K hK => ?_)
          go_simp
          refine (HOp.out _).mono ?_
          rintro e w6 ⟨oo, ho, rfl, e6⟩
          exact hK.out _ _ ⟨ov oo, by kernel_rfl, hS5.trans e6, e6, ⟨oo, ho, rfl⟩, fun _ _ => trivial⟩
        · intro _ done vs w5 hn hS5 hR5 hd hF
          simp only [kpDeps, Par.putAll_nil]
          refine Par.step_of rfl (fun K hK => ?_)
          go_simp
          exact hK.out _ _ ⟨_, by kernel_rfl, hS5.alloc _, Ext.new _ _, ⟨w5.heap.size, rfl, hS5.size, Cb.new w5 _ _⟩, fun _ _ => trivial⟩
      intro vs w5 hS5 hR5 hF hXX
      obtain ⟨⟨oc, ok, ol⟩, ho, e6⟩ := hF 6 (by decide)
      obtain ⟨B, e7, g7, C7⟩ := hF 7 (by decide)
      simp only [Par.putAll_nil, Par.putAll_some, kpSlots]
      simp only [e6, e7]
      clear hF hXX e6 e7
      obtain ⟨z0, z1, z2⟩ := C7.three
      have y0 := C7.f 0
      have y1 := C7.f 1
      have y2 := C7.f 2
      have hC7 := ((C7.upd (i := 0) (by simp) (.int .i64 oc)).upd (i := 1) (by simp) (.int .u64 ok)).upd (i := 2) (by simp) (.int .u64 ol)
      have hE7 := ((hS5.setCell g7 (.int .i64 oc) (o := 0)).setCell g7 (.int .u64 ok) (o := 1)).setCell g7 (.int .u64 ol) (o := 2)
      have HH := Lib.hid (And.intro hC7 hE7)
      clear hC7 hE7 C7 hS5 hR5 hHeld
      dsimp only [ov] at *
      refine wpAnyH_ready (rs := [8]) (by kernel_rfl) (by simp) ?_
      refine AllReadyH.cons rfl (fun K hK => ?_) AllReadyH.nil
      go_simp
      refine hK.out _ _ HH.out.2 (fun hHeld => ?_)
      clear hK K z0 z1 z2 y0 y1 y2 hHeld
      refine wpAnyH_done (by kernel_rfl) ?_ _
      obtain ⟨hC7, hE7⟩ := HH.out
      clear HH
      generalize ((w5.setCell ⟨B, 0, none⟩ (.int .i64 oc)).setCell ⟨B, 1, none⟩ (.int .u64 ok)).setCell ⟨B, 2, none⟩ (.int .u64 ol) = w7 at hC7 hE7 ⊢
      have hC7' : Cb w7 B [.int .i64 oc, .int .u64 ok, .int .u64 ol] := hC7
      obtain ⟨o0, o1, o2⟩ := hC7'.three
      obtain ⟨c0, c1, c2⟩ := (HC.out.ext hE7).three
      obtain ⟨s0, s1, s2, s3, s4⟩ := (HB.out.ext hE7).five
      have HD7 := do_all2 k p m ⟨ka4, kn4, kc4⟩ ⟨va4, vn4, vc4⟩ ⟨ta4, tn4, tc4⟩ ⟨sr, sk, su, sw, scl⟩ ⟨oc, ok, ol⟩ w7 (HS.out.ext hE7) ho
      rw [hdo.out ⟨oc, ok, ol⟩] at HD7
      obtain ⟨hRd, hWd⟩ := do_right HR.out HS.out.wd ⟨oc, ok, ol⟩ ho
      have hEr := do_errs k m ⟨sr, sk, su, sw, scl⟩ ⟨oc, ok, ol⟩
      have hRe : readsS oc = true → (doS k m ⟨sr, sk, su, sw, scl⟩ ⟨oc, ok, ol⟩).1 = ⟨sr, sk, su, sw, scl⟩ := fun h => do_reads (o := ⟨oc, ok, ol⟩) h
      generalize doS k m ⟨sr, sk, su, sw, scl⟩ ⟨oc, ok, ol⟩ = d at HD7 hRd hWd hEr hRe
      obtain ⟨⟨dr, dk, dv, dt, dc⟩, d2, d3⟩ := d
      have HDo := Lib.hid HD7
      have HRd := Lib.hid hRd
      have HEr := Lib.hid hEr
      have HRe := Lib.hid hRe
      have HO7 := Lib.hid hC7'
      have HE7 := Lib.hid hE7
      have hoc := ho.1
      clear HD7 hRd hWd hEr hRe hC7 hC7' hE7 ho
      dsimp only [sc] at *
      go_wp2_with (fail)
      refine HDo.out.mono ?_
      rintro e w9 ⟨e9, ⟨k6, n6, c6⟩, ⟨p6, q6, r6⟩, ⟨x6, y6, u6⟩, rfl, S9, O9⟩
      clear HDo o0 o1 o2 c0 c1 c2 s0 s1 s2 s3 s4
      dsimp only [sv, rv] at *
      have hlt9 : w3.heap.size < w9.heap.size := ((HB.out.ext HE7.out).ext e9).lt
      have eA := (Ext.new w9 (.cells #[.int .u64 dr, .slice k6 n6 c6, .slice p6 q6 r6, .slice x6 y6 u6, .bool dc] 30)).alloc (.cells #[.int .i64 d2, .int .u64 d3] 51)
      have C14 : Cb ((w9.alloc (.cells #[.int .u64 dr, .slice k6 n6 c6, .slice p6 q6 r6, .slice x6 y6 u6, .bool dc] 30)).alloc (.cells #[.int .i64 d2, .int .u64 d3] 51)) w9.heap.size (sc dr ⟨k6, n6, c6⟩ ⟨p6, q6, r6⟩ ⟨x6, y6, u6⟩ dc) := by repeat (first | ((with_reducible refine Cb.at _ rfl ?_); (simp; done)) | with_reducible refine Cb.alloc ?_ _)
      have C15 : Cb ((w9.alloc (.cells #[.int .u64 dr, .slice k6 n6 c6, .slice p6 q6 r6, .slice x6 y6 u6, .bool dc] 30)).alloc (.cells #[.int .i64 d2, .int .u64 d3] 51)) (w9.heap.size + 1) [.int .i64 d2, .int .u64 d3] := by repeat (first | ((with_reducible refine Cb.at _ rfl ?_); (simp; done)) | with_reducible refine Cb.alloc ?_ _)
      have hE9 := e9.trans eA
      have hC9 := (HC.out.ext HE7.out).ext hE9
      have HRi := Lib.hid (right_any k p m ⟨k6, n6, c6⟩ ⟨p6, q6, r6⟩ ⟨x6, y6, u6⟩ ⟨dr, dk, dv, dt, dc⟩ _ (S9.ext eA))
      rw [HRd.out] at HRi
      obtain ⟨c0, c1, c2⟩ := hC9.three
      obtain ⟨t0, t1, t2, t3, t4⟩ := C14.five
      obtain ⟨r0, r1⟩ := C15.two
      have HX := Lib.hid (And.intro C14 (And.intro C15 (And.intro hC9 (And.intro (S9.ext eA) hE9))))
      have HO9 := Lib.hid O9
      clear eA C14 C15 hE9 hC9 S9 O9 e9
      dsimp only [sc] at *
      have hns : RowKit.Hid (∀ w10, Ext ((w9.alloc (.cells #[.int .u64 dr, .slice k6 n6 c6, .slice p6 q6 r6, .slice x6 y6 u6, .bool dc] 30)).alloc (.cells #[.int .i64 d2, .int .u64 d3] 51)) w10 → KpR k p m w wr w7 w10 w2.heap.size w3.heap.size B w9.heap.size ⟨dr, dk, dv, dt, dc⟩ ⟨k6, n6, c6⟩ ⟨p6, q6, r6⟩ ⟨x6, y6, u6⟩ ⟨sr, sk, su, sw, scl⟩ ⟨ka4, kn4, kc4⟩ ⟨va4, vn4, vc4⟩ ⟨ta4, tn4, tc4⟩ oc ok ol d2 d3) := Lib.hid (fun w10 h => by
        have h7 := (HX.out.2.2.2.2).trans h
        exact ⟨HX.out.1.ext h, HX.out.2.1.ext h, (HC.out.ext HE7.out).ext h7, (HB.out.ext HE7.out).ext h7, HO7.out.ext h7, HX.out.2.2.2.1.ext h, (HS.out.ext HE7.out).ext h7, HO9.out _ (HB.out.ext HE7.out).lt, HRd.out, (HE.out.trans HE7.out).trans h7⟩)
      rcases kp_cases HEr.out HRe.out with ⟨h2, rfl, hs⟩ | ⟨rfl, hr, hs⟩ | ⟨rfl, hr⟩
      · have b2 : (d2 != 0) = true := by simpa using h2
        have HSa := Lib.hid hs
        clear h2 hs
        go_wp2_with (fail)
        refine HRi.out.mono ?_
        rintro e w10 ⟨rfl, e10⟩
        have hK2 := hns.out w10 e10
        clear hns HX HRi e10 c0 c1 c2 t0 t1 t2 t3 t4 r0 r1
        obtain ⟨t0, t1, t2, t3, t4⟩ := hK2.c14.five
        obtain ⟨r0, r1⟩ := hK2.c15.two
        obtain ⟨s0, s1, s2, s3, s4⟩ := hK2.cb.five
        obtain ⟨o0, o1, o2⟩ := hK2.co.three
        have HKs := Lib.hid hK2
        clear hK2
        have HSm := Lib.hid (same_any ⟨ka4, kn4, kc4⟩ ⟨va4, vn4, vc4⟩ ⟨ta4, tn4, tc4⟩ ⟨k6, n6, c6⟩ ⟨p6, q6, r6⟩ ⟨x6, y6, u6⟩ ⟨sr, sk, su, sw, scl⟩ ⟨dr, dk, dv, dt, dc⟩ true w10 HKs.out.ss HKs.out.sd (Lib.hid (decide_eq_true HSa.out.symm).symm))
        go_wp2_with (fail)
        refine HSm.out.mono ?_
        rintro e w11 ⟨rfl, e11⟩
        have hK2 := HKs.out.ext e11
        clear HSm e11 HKs t0 t1 t2 t3 t4 r0 r1 s0 s1 s2 s3 s4 o0 o1 o2
        obtain ⟨t0, t1, t2, t3, t4⟩ := hK2.c14.five
        obtain ⟨s0, s1, s2, s3, s4⟩ := hK2.cb.five
        have f0 := hK2.cb.f 0
        have f1 := hK2.cb.f 1
        have f2 := hK2.cb.f 2
        have f3 := hK2.cb.f 3
        have f4 := hK2.cb.f 4
        have HL := Lib.hid (hK2.store (by omega) (by omega))
        clear hK2
        go_wp2_with (fail)
        go_roundw
        case rel => exact ⟨i + 1, by go_num, by omega, HL.out⟩
        case measure => simp [intOf]; omega
      · have HSa := Lib.hid hs
        have HRr := Lib.hid hr
        clear hs hr
        go_wp2_with (fail)
        refine HRi.out.mono ?_
        rintro e w10 ⟨rfl, e10⟩
        have hK2 := hns.out w10 e10
        clear hns HX HRi e10 c0 c1 c2 t0 t1 t2 t3 t4 r0 r1
        obtain ⟨t0, t1, t2, t3, t4⟩ := hK2.c14.five
        obtain ⟨r0, r1⟩ := hK2.c15.two
        obtain ⟨s0, s1, s2, s3, s4⟩ := hK2.cb.five
        obtain ⟨o0, o1, o2⟩ := hK2.co.three
        have HKs := Lib.hid hK2
        clear hK2
        go_wp2_with (fail)
        refine (reads_is oc _).mono ?_
        rw [HRr.out]
        rintro e w11 ⟨rfl, rfl⟩
        have HSm := Lib.hid (same_any ⟨ka4, kn4, kc4⟩ ⟨va4, vn4, vc4⟩ ⟨ta4, tn4, tc4⟩ ⟨k6, n6, c6⟩ ⟨p6, q6, r6⟩ ⟨x6, y6, u6⟩ ⟨sr, sk, su, sw, scl⟩ ⟨dr, dk, dv, dt, dc⟩ true w10 HKs.out.ss HKs.out.sd (Lib.hid (decide_eq_true HSa.out.symm).symm))
        go_wp2_with (fail)
        refine HSm.out.mono ?_
        rintro e w11 ⟨rfl, e11⟩
        have hK2 := HKs.out.ext e11
        clear HSm e11 HKs t0 t1 t2 t3 t4 r0 r1 s0 s1 s2 s3 s4 o0 o1 o2
        obtain ⟨t0, t1, t2, t3, t4⟩ := hK2.c14.five
        obtain ⟨s0, s1, s2, s3, s4⟩ := hK2.cb.five
        have f0 := hK2.cb.f 0
        have f1 := hK2.cb.f 1
        have f2 := hK2.cb.f 2
        have f3 := hK2.cb.f 3
        have f4 := hK2.cb.f 4
        have HL := Lib.hid (hK2.store (by omega) (by omega))
        clear hK2
        go_wp2_with (fail)
        go_roundw
        case rel => exact ⟨i + 1, by go_num, by omega, HL.out⟩
        case measure => simp [intOf]; omega
      · have HRr := Lib.hid hr
        clear hr
        go_wp2_with (fail)
        refine HRi.out.mono ?_
        rintro e w10 ⟨rfl, e10⟩
        have hK2 := hns.out w10 e10
        clear hns HX HRi e10 c0 c1 c2 t0 t1 t2 t3 t4 r0 r1
        obtain ⟨t0, t1, t2, t3, t4⟩ := hK2.c14.five
        obtain ⟨r0, r1⟩ := hK2.c15.two
        obtain ⟨s0, s1, s2, s3, s4⟩ := hK2.cb.five
        obtain ⟨o0, o1, o2⟩ := hK2.co.three
        have HKs := Lib.hid hK2
        go_wp2_with (fail)
        refine (reads_is oc _).mono ?_
        rw [HRr.out]
        rintro e w11 ⟨rfl, rfl⟩
        have f0 := hK2.cb.f 0
        have f1 := hK2.cb.f 1
        have f2 := hK2.cb.f 2
        have f3 := hK2.cb.f 3
        have f4 := hK2.cb.f 4
        have HL := Lib.hid (hK2.store (by omega) (by omega))
        clear hK2
        go_wp2_with (fail)
        go_roundw
        case rel => exact ⟨i + 1, by go_num, by omega, HL.out⟩
        case measure => simp [intOf]; omega
    · obtain ⟨c0, c1, c2⟩ := hC.three
      obtain ⟨s0, s1, s2, s3, s4⟩ := hB.five
      have HRi := Lib.hid (right_any k p m ⟨ka4, kn4, kc4⟩ ⟨va4, vn4, vc4⟩ ⟨ta4, tn4, tc4⟩ ⟨sr, sk, su, sw, scl⟩ wr hS)
      rw [hR] at HRi
      clear hO hR hS hB hC hE
      dsimp only [sc, cf, sv] at *
      rcases (by omega : ¬ i < n2 ∨ (i < n2 ∧ ¬ i < 12)) with hx0 | ⟨hx0, hx1⟩
      all_goals
        clear hin
        go_wp2_with (fail)
        refine HRi.out.mono ?_
        rintro e w9 ⟨rfl, e9⟩
        have HE9 := Lib.hid (HE.out.trans e9)
        clear e9 c0 c1 c2 s0 s1 s2 s3 s4
        go_wp2_with (fail)
        go_ret
        exact ⟨rfl, HE9.out⟩

end Go.Proofs.YtdipddnnckfnmaaGreat.Law

/- AutoKept:
  AutoKept: for every input the law returns true, and each argument reads behind the call as it read before. No condition.
-/
namespace Go.Proofs.YtdipddnnckfnmaaGreat.autoKept
open Go.ChangeShapes Go.WideShapes Go.ChangeAt Go.RowKit Go.Joins Go.Deep

set_option maxRecDepth 100000 in
theorem lifted (os : Os) (started : os.Started) (H : Type) (enc : TypeId × Value → H) :
    ReturnsInHanded {} Tryz.checked os 4 .any (Rows.autoKeptSpec.pre6 enc Tryz.prog Tryz.f4 Rows.autoKeptRow.domain false) (Rows.autoKeptSpec.post enc Tryz.prog Tryz.f4 false true false false) := by
  refine returnsInHanded_of_change (C := Tryz.checked) Law.own started (by kernel_rfl) Tryz.func4
    (ChangeSpec.witness6 (enc := enc) (C := Tryz.checked) false ⟨#[], #[.agg #[.int .i64 0, .int .i64 0, .int .i64 0], .slice none 0 0, .slice none 0 0, .int .u64 0], []⟩ 8 (by kernel_rfl) (by kernel_rfl) (by kernel_rfl) (by kernel_rfl)) ?_
  intro W base args ds gs before hval0 hW hcnd _
  have hval : ∀ (j : Nat) t v, Tryz.f4.params[j]? = some t → args[j]? = some v → Value.okWide Tryz.prog W .any base t v := hval0
  have hW' := hW
  obtain ⟨p, q, hA0, hV, rfl, hfz, hnd⟩ := hW
  have hA : DataW.TrodAll enc Tryz.prog W 0 (fun _ => true) true Tryz.f4.params.toList args.toList ds p := hA0
  rw [Tryz.params4] at hA hval
  obtain ⟨v0, vs0, d0, ds0, p0, q0, hargs, rfl, rfl, h0, r0⟩ := trodAll_cons hA
  obtain ⟨v1, vs1, d1, ds1, p1, q1, rfl, rfl, rfl, h1, r1⟩ := trodAll_cons r0
  obtain ⟨v2, vs2, d2, ds2, p2, q2, rfl, rfl, rfl, h2, r2⟩ := trodAll_cons r1
  obtain ⟨v3, vs3, d3, ds3, p3, q3, rfl, rfl, rfl, h3, r3⟩ := trodAll_cons r2
  obtain ⟨rfl, rfl, rfl⟩ := trodAll_nil r3
  obtain rfl : args = #[v0, v1, v2, v3] := by cases args; simp_all
  obtain ⟨a0, b0, c0, rfl, x0, y0, z0⟩ := Law.open_trip (hval 0 22 v0 rfl rfl) h0
  obtain ⟨s1, n1, c1, rfl, k1⟩ := Law.open_ts (hval 1 25 v1 rfl rfl) h1
  obtain ⟨s2, n2, c2, rfl, k2⟩ := Law.open_ts (hval 2 25 v2 rfl rfl) h2
  obtain ⟨a3, rfl, _, _, w3⟩ := open_int Tryz.underlying26 (hval 3 26 v3 rfl rfl) h3
  refine (Law.kept_walk a0 b0 c0 a3 s1 s2 n1 n2 c1 c2 W x0 y0 z0 k1 k2 (Law.u64_of w3)).mono fun e W' ⟨he, hg⟩ => ?_
  subst he
  exact ⟨_, rfl, Law.told hW' rfl rfl rfl (by kernel_rfl) hg⟩

theorem over : Rows.autoKeptRow.holds Tryz.pinned (OpenSpec.ofChange Rows.autoKeptSpec) :=
  OpenClaim.holds_of_wide 4 Tryz.f4 rfl rfl rfl rfl rfl rfl rfl ⟨rfl, rfl, rfl, rfl, rfl⟩ rfl rfl rfl rfl rfl (by kernel_rfl) Tryz.func4 (by kernel_rfl)
    (of_decide_eq_true (by kernel_rfl)) (by unfold Func.isWrapper; first | (rw [if_pos (by decide +kernel)]; kernel_rfl) | (rw [if_neg (by decide +kernel)]; exact ⟨rfl, rfl⟩))
    (fun os started H enc _ => lifted os started H enc)

end Go.Proofs.YtdipddnnckfnmaaGreat.autoKept

namespace Go.Proofs.YtdipddnnckfnmaaGreat
theorem autoKept_holds : Rows.AutoKeptSaid := autoKept.over
end Go.Proofs.YtdipddnnckfnmaaGreat

