/-
  AutoSeen: for every input the law returns true, and each argument reads behind the call as it read before. No condition.
-/
import Derived.Test.YtdipddnnckfnmaaGreatM24
import Derived.ProofKit
/- LawKept:
  AutoKept: the walk. Conditions: integers' bounds; the raw calls can be read.
-/
namespace Go.Proofs.YtdipddnnckfnmaaGreat.Law
open Go.RowKit (Below intOf)
open Go.Proofs.YtdipddnnckfnmaaGreat.Aut
open Go.Proofs.YtdipddnnckfnmaaGreat.Lan (DoE DoE2 opv new_any do_all do_all2 right_any reads_is)
open Go.Proofs.YtdipddnnckfnmaaGreat.Reg (cf bx fits_any)

def kpDeps : Nat → List Nat := fun _ => []
def kpSlots : Nat → Option Tmp := fun i => match i with | 6 => some 39 | 7 => some 13 | _ => none
def KpF (wr : World) : Nat → (Nat → Value) → World → Prop := fun i vs w' => match i with
  | 6 => ∃ oo, Wc oo ∧ vs 6 = ov oo
  | 7 => ∃ B : Nat, vs 7 = .pointer (some ⟨B, 0, none⟩) ∧ wr.heap.size ≤ B ∧ Cb w' B [.int .i64 0, .int .u64 0, .int .u64 0]
  | _ => True
theorem kpF_loc {wr : World} : ∀ i vs vs' w, (∀ j, j = i ∨ j ∈ kpDeps i → vs j = vs' j) → KpF wr i vs w → KpF wr i vs' w := by
  intro i vs vs' w h hF
  unfold KpF at hF ⊢
  split at hF
  · obtain ⟨oo, h1, h2⟩ := hF; exact ⟨oo, h1, (h 6 (.inl rfl)).symm.trans h2⟩
  · obtain ⟨B, h1, h2⟩ := hF; exact ⟨B, (h 7 (.inl rfl)).symm.trans h1, h2⟩
  · trivial
theorem kpF_stab {wr : World} : ∀ i vs w w', Ext w w' → KpF wr i vs w → KpF wr i vs w' := by
  intro i vs w w' h hF
  unfold KpF at hF ⊢
  split at hF
  · exact hF
  · obtain ⟨B, h1, h2, h3⟩ := hF; exact ⟨B, h1, h2, h3.ext h⟩
  · trivial
/-- What a round finds. -/
def KpL (k p m : Int) (w wr : World) (C S : Nat) : Prop := ∃ (s : St) (a v t : Sl), rightS k p m s = true ∧ SS wr a v t s ∧ OffS a v t S ∧ Cb wr S (sc s.reg a v t s.closed) ∧ Cb wr C [.int .i64 k, .int .i64 p, .int .i64 m] ∧ Ext w wr
/-- What lies there behind a round's call. -/
structure KpR (k p m : Int) (w wr w7 w10 : World) (C S B T : Nat) (d : St) (a v t : Sl) (s : St) (a' v' t' : Sl) (oc ok ol d2 d3 : Int) : Prop where
  c14 : Cb w10 T (sc d.reg a v t d.closed)
  c15 : Cb w10 (T + 1) [.int .i64 d2, .int .u64 d3]
  cc : Cb w10 C [.int .i64 k, .int .i64 p, .int .i64 m]
  cb : Cb w10 S (sc s.reg a' v' t' s.closed)
  co : Cb w10 B [.int .i64 oc, .int .u64 ok, .int .u64 ol]
  sd : SS w10 a v t d
  ss : SS w10 a' v' t' s
  o : OffS a v t S
  r : rightS k p m d = true
  e : Ext w w10
theorem KpR.ext {k p m : Int} {w wr w7 w10 w11 : World} {C S B T : Nat} {d : St} {a v t : Sl} {s : St} {a' v' t' : Sl} {oc ok ol d2 d3 : Int} (h : KpR k p m w wr w7 w10 C S B T d a v t s a' v' t' oc ok ol d2 d3) (e : Ext w10 w11) : KpR k p m w wr w7 w11 C S B T d a v t s a' v' t' oc ok ol d2 d3 :=
  ⟨h.c14.ext e, h.c15.ext e, h.cc.ext e, h.cb.ext e, h.co.ext e, h.sd.ext e, h.ss.ext e, h.o, h.r, h.e.trans e⟩
theorem KpR.store {k p m : Int} {w wr w7 w10 : World} {C S B T : Nat} {d : St} {a v t : Sl} {s : St} {a' v' t' : Sl} {oc ok ol d2 d3 : Int} (h : KpR k p m w wr w7 w10 C S B T d a v t s a' v' t' oc ok ol d2 d3) (hw : w.heap.size ≤ S) (hC : C ≠ S) :
    KpL k p m w (((((w10.setCell ⟨S, 0, none⟩ (.int .u64 d.reg)).setCell ⟨S, 1, none⟩ (.slice a.a a.n a.c)).setCell ⟨S, 2, none⟩ (.slice v.a v.n v.c)).setCell ⟨S, 3, none⟩ (.slice t.a t.n t.c)).setCell ⟨S, 4, none⟩ (.bool d.closed)) C S :=
  ⟨d, a, v, t, h.r, ((((h.sd.set h.o _ _).set h.o _ _).set h.o _ _).set h.o _ _).set h.o _ _, h.o, h.cb.st _ _ _ _ _, ((((h.cc.far hC _ _).far hC _ _).far hC _ _).far hC _ _).far hC _ _, ((((h.e.setCell hw _).setCell hw _).setCell hw _).setCell hw _).setCell hw _⟩
theorem kp_cases {s d : St} {d2 d3 : Int} {r : Bool} (h : Errs s (d, d2, d3)) (hr : r = true → d = s) : (d2 ≠ 0 ∧ d3 = 0 ∧ d = s) ∨ (d2 = 0 ∧ r = true ∧ d = s) ∨ (d2 = 0 ∧ r = false) := by
  by_cases h2 : d2 = 0
  · cases r with
    | true => exact .inr (.inl ⟨h2, rfl, hr rfl⟩)
    | false => exact .inr (.inr ⟨h2, rfl⟩)
  · obtain ⟨h3, h4⟩ := h h2
    exact .inl ⟨h2, h4, h3⟩
theorem conf_fits (a b c : Int) : fits (1 + pickZ a 5) (1 + pickZ b 16) (1 + pickZ c 12) = true := by
  have a0 := pick_ge a (n := 5) (by decide)
  have a1 := pick_lt a (n := 5) (by decide)
  have b0 := pick_ge b (n := 16) (by decide)
  have b1 := pick_lt b (n := 16) (by decide)
  have c0 := pick_ge c (n := 12) (by decide)
  have c1 := pick_lt c (n := 12) (by decide)
  unfold fits Reg.fits
  simp
  omega
set_option maxHeartbeats 16000000 in
set_option maxRecDepth 100000 in
theorem kept_walk (a b c x : Int) (s1 s2 : Option Addr) (n1 n2 c1' c2' : Nat) (w : World) (ha : I64 a) (hb : I64 b) (hc : I64 c) (hT1 : TS w s1 n1) (hT2 : TS w s2 n2) (hx : U64 x) :
    Calls Tryz.prog 4 #[.agg #[.int .i64 a, .int .i64 b, .int .i64 c], .slice s1 n1 c1', .slice s2 n2 c2', .int .u64 x] w fun e w' => e = .returned (.bool true) ∧ Ext w w' := by
  have HA := Lib.hid (fun W => awake_any do_all W)
  have HCo := Lib.hid (fun W => conf_any a b c W ha hb hc)
  have hfit := conf_fits a b c
  generalize 1 + pickZ a 5 = k at *
  generalize 1 + pickZ b 16 = p at *
  generalize 1 + pickZ c 12 = m at *
  have HF := Lib.hid hfit
  have HTS := Lib.hid hT2
  have HT1 := Lib.hid hT1
  have HU := Lib.hid hx
  have b0 : Cb (w.alloc (.cells #[.int .i64 a, .int .i64 b, .int .i64 c] 22)) w.heap.size [.int .i64 a, .int .i64 b, .int .i64 c] := Cb.new w _ _
  have HB0 := Lib.hid b0
  have HX0 := Lib.hid (Ext.new w (.cells #[.int .i64 a, .int .i64 b, .int .i64 c] 22))
  clear b0 hfit hT1 hT2 hx ha hb hc
  dsimp only [cf] at *
  go_enter Tryz.func4, Tryz.ntmps4
  go_wp2_with (fail)
  refine (HA.out _).mono ?_
  rintro e w1 ⟨rfl, e1⟩
  have HX1 := Lib.hid (HX0.out.trans e1)
  obtain ⟨i0, i1, i2⟩ := (HB0.out.ext e1).three
  clear HB0 HX0 HA e1
  go_wp2_with (fail)
  refine (HCo.out _).mono ?_
  rintro e w2 ⟨rfl, e2⟩
  have HX2 := Lib.hid (HX1.out.trans e2)
  clear HCo HX1 e2 i0 i1 i2
  have C2 : Cb (w2.alloc (.cells #[.int .i64 k, .int .i64 p, .int .i64 m] 24)) w2.heap.size [.int .i64 k, .int .i64 p, .int .i64 m] := Cb.new w2 _ _
  obtain ⟨c0, c1, c2⟩ := C2.three
  have HC2 := Lib.hid C2
  have HXa := Lib.hid (HX2.out.alloc (.cells #[.int .i64 k, .int .i64 p, .int .i64 m] 24))
  have HSt := Lib.hid (state_any s1 n1 c1' (w2.alloc (.cells #[.int .i64 k, .int .i64 p, .int .i64 m] 24)) HF.out (HT1.out.ext HXa.out))
  clear C2
  dsimp only [cf] at *
  go_wp2_with (fail)
  refine HSt.out.mono ?_
  rintro e w3 ⟨⟨sr, sk, su, sw, scl⟩, hR3, ⟨ka, kn, kc⟩, ⟨va, vn, vc⟩, ⟨ta, tn, tc⟩, rfl, S3, e3⟩
  have hw2 : w.heap.size ≤ w2.heap.size := HX2.out.size
  have hw3 : w2.heap.size + 1 ≤ w3.heap.size := by have := e3.size; simpa only [World.size_alloc] using this
  dsimp only [sv] at *
  have HL0 : RowKit.Hid (KpL k p m w (w3.alloc (.cells #[.int .u64 sr, .slice ka kn kc, .slice va vn vc, .slice ta tn tc, .bool scl] 30)) w2.heap.size w3.heap.size) := Lib.hid
    ⟨⟨sr, sk, su, sw, scl⟩, ⟨ka, kn, kc⟩, ⟨va, vn, vc⟩, ⟨ta, tn, tc⟩, hR3, S3.ext (Ext.new _ _), S3.off (Nat.le_refl _), Cb.new w3 _ _, (HC2.out.ext e3).alloc _, (HXa.out.trans e3).alloc _⟩
  clear HSt HC2 HXa HX2 S3 e3 hR3 c0 c1 c2
  go_wp2_with (fail)
  go_loopw [12] (fun iv wr => ∃ i : Nat, iv = .int .i64 i ∧ i ≤ 12 ∧ KpL k p m w wr w2.heap.size w3.heap.size) (fun iv _ => 12 - (intOf iv).toNat)
  case atStart => exact ⟨0, rfl, by omega, HL0.out⟩
  case round =>
    obtain ⟨i, rfl, hi12, ⟨sr, sk, su, sw, scl⟩, ⟨ka4, kn4, kc4⟩, ⟨va4, vn4, vc4⟩, ⟨ta4, tn4, tc4⟩, hR, hS, hO, hB, hC, hE⟩ := hrel
    clear HL0
    have HR := Lib.hid hR
    have HS := Lib.hid hS
    have HB := Lib.hid hB
    have HC := Lib.hid hC
    have HE := Lib.hid hE
    by_cases hin : i < n2 ∧ i < 12
    · obtain ⟨hin, hi3⟩ := hin
      obtain ⟨rx, ry, rz, ux, uy, uz, b, o, esl, cx, cy, cz⟩ := HTS.out.2 i hin
      subst esl
      have hii : (i : Int) < n2 := by omega
      have hi3i : (i : Int) < 12 := by omega
      have HOp := Lib.hid (fun W => op_any rx ry rz x W HF.out ux uy uz HU.out)
      have hdo : RowKit.Hid (∀ o, doF k p m ⟨sr, sk, su, sw, scl⟩ o = ((doS k m ⟨sr, sk, su, sw, scl⟩ o).1, (doS k m ⟨sr, sk, su, sw, scl⟩ o).2, 0)) := Lib.hid (fun o => by unfold doF; rw [if_pos HF.out, if_pos hR])
      have cx2 := hE.cell cx
      have cy2 := hE.cell cy
      have cz2 := hE.cell cz
      obtain ⟨c0, c1, c2⟩ := hC.three
      clear hO hR hS hB hC hE cx cy cz ux uy uz
      go_wp2_with (fail)
      refine wp_region_held_drew (S := fun w' => Ext wr w') (by kernel_rfl) (Ext.drew (Ext.refl wr)) (fun hHeld => ?_)
      refine wpAnyH_take (i := 0) (v := .agg #[.int .i64 k, .int .i64 p, .int .i64 m]) rfl (by kernel_rfl) (by kernel_rfl) (by kernel_rfl) (fun _ _ _ h => h) (Or.inl ⟨by kernel_rfl, ?_⟩) (by assumption) ?_
      · intro w hE
        have q0 := hE.cell c0
        have q1 := hE.cell c1
        have q2 := hE.cell c2
        go_simp
      refine wpAnyH_take (i := 1) (v := .slice (some ⟨b, o, none⟩) n2 c2') rfl (by kernel_rfl) (by kernel_rfl) (by kernel_rfl) (fun _ _ _ h => h) (Or.inl ⟨by kernel_rfl, ?_⟩) (by assumption) ?_
      · intro w hE
        go_simp
      refine wpAnyH_take (i := 2) (v := .int .i64 (i : Int)) rfl (by kernel_rfl) (by kernel_rfl) (by kernel_rfl) (fun _ _ _ h => h) (Or.inl ⟨by kernel_rfl, ?_⟩) (by assumption) ?_
      · intro w hE
        go_simp
      refine wpAnyH_take (i := 3) (v := .pointer (some ⟨b, o + i * 3, none⟩)) rfl (by kernel_rfl) (by kernel_rfl) (by kernel_rfl) (fun _ _ _ h => h) (Or.inl ⟨by kernel_rfl, ?_⟩) (by assumption) ?_
      · intro w hE
        go_simp
      refine wpAnyH_take (i := 4) (v := .agg #[.int .i64 rx, .int .i64 ry, .int .i64 rz]) rfl (by kernel_rfl) (by kernel_rfl) (by kernel_rfl) (fun _ _ _ h => h) (Or.inl ⟨by kernel_rfl, ?_⟩) (by assumption) ?_
      · intro w hE
        have q0 := hE.cell cx2
        have q1 := hE.cell cy2
        have q2 := hE.cell cz2
        go_simp
      refine wpAnyH_take (i := 5) (v := .int .u64 x) rfl (by kernel_rfl) (by kernel_rfl) (by kernel_rfl) (fun _ _ _ h => h) (Or.inl ⟨by kernel_rfl, ?_⟩) (by assumption) ?_
      · intro w hE
        go_simp
      clear c0 c1 c2 cx2 cy2 cz2
      refine Par.wpAnyH_par (fuel := 1) [6, 7] [] kpDeps kpSlots (KpF wr) (fun _ _ _ => True) Ext rfl (by kernel_rfl) (by kernel_rfl) (by kernel_rfl) (fun _ _ _ _ _ h => h) Ext.refl (fun _ _ _ h g => Ext.trans h g) kpF_loc kpF_stab (fun _ _ _ _ _ _ _ => trivial) (by assumption) (fun _ h => by cases h) ?_ ?_
      · refine List.forall_mem_cons.2 ⟨?_, List.forall_mem_cons.2 ⟨?_, fun _ h => by cases h⟩⟩
        · intro _ done vs w5 hn hS5 hR5 hd hF
          simp only [kpDeps, Par.putAll_nil]
          refine Par.step_of rfl (fun K hK => ?_)
          go_simp
          refine (HOp.out _).mono ?_
          rintro e w6 ⟨oo, ho, rfl, e6⟩
          exact hK.out _ _ ⟨ov oo, by kernel_rfl, hS5.trans e6, e6, ⟨oo, ho, rfl⟩, fun _ _ => trivial⟩
        · intro _ done vs w5 hn hS5 hR5 hd hF
          simp only [kpDeps, Par.putAll_nil]
          refine Par.step_of rfl (fun K hK => ?_)
          go_simp
          exact hK.out _ _ ⟨_, by kernel_rfl, hS5.alloc _, Ext.new _ _, ⟨w5.heap.size, rfl, hS5.size, Cb.new w5 _ _⟩, fun _ _ => trivial⟩
      intro vs w5 hS5 hR5 hF hXX
      obtain ⟨⟨oc, ok, ol⟩, ho, e6⟩ := hF 6 (by decide)
      obtain ⟨B, e7, g7, C7⟩ := hF 7 (by decide)
      simp only [Par.putAll_nil, Par.putAll_some, kpSlots]
      simp only [e6, e7]
      clear hF hXX e6 e7
      obtain ⟨z0, z1, z2⟩ := C7.three
      have y0 := C7.f 0
      have y1 := C7.f 1
      have y2 := C7.f 2
      have hC7 := ((C7.upd (i := 0) (by simp) (.int .i64 oc)).upd (i := 1) (by simp) (.int .u64 ok)).upd (i := 2) (by simp) (.int .u64 ol)
      have hE7 := ((hS5.setCell g7 (.int .i64 oc) (o := 0)).setCell g7 (.int .u64 ok) (o := 1)).setCell g7 (.int .u64 ol) (o := 2)
      have HH := Lib.hid (And.intro hC7 hE7)
      clear hC7 hE7 C7 hS5 hR5 hHeld
      dsimp only [ov] at *
      refine wpAnyH_ready (rs := [8]) (by kernel_rfl) (by simp) ?_
      refine AllReadyH.cons rfl (fun K hK => ?_) AllReadyH.nil
      go_simp
      refine hK.out _ _ HH.out.2 (fun hHeld => ?_)
      clear hK K z0 z1 z2 y0 y1 y2 hHeld
      refine wpAnyH_done (by kernel_rfl) ?_ _
      obtain ⟨hC7, hE7⟩ := HH.out
      clear HH
      generalize ((w5.setCell ⟨B, 0, none⟩ (.int .i64 oc)).setCell ⟨B, 1, none⟩ (.int .u64 ok)).setCell ⟨B, 2, none⟩ (.int .u64 ol) = w7 at hC7 hE7 ⊢
      have hC7' : Cb w7 B [.int .i64 oc, .int .u64 ok, .int .u64 ol] := hC7
      obtain ⟨o0, o1, o2⟩ := hC7'.three
      obtain ⟨c0, c1, c2⟩ := (HC.out.ext hE7).three
      obtain ⟨s0, s1, s2, s3, s4⟩ := (HB.out.ext hE7).five
      have HD7 := do_all2 k p m ⟨ka4, kn4, kc4⟩ ⟨va4, vn4, vc4⟩ ⟨ta4, tn4, tc4⟩ ⟨sr, sk, su, sw, scl⟩ ⟨oc, ok, ol⟩ w7 (HS.out.ext hE7) ho
      rw [hdo.out ⟨oc, ok, ol⟩] at HD7
      obtain ⟨hRd, hWd⟩ := do_right HR.out HS.out.wd ⟨oc, ok, ol⟩ ho
      have hEr := do_errs k m ⟨sr, sk, su, sw, scl⟩ ⟨oc, ok, ol⟩
      have hRe : readsS oc = true → (doS k m ⟨sr, sk, su, sw, scl⟩ ⟨oc, ok, ol⟩).1 = ⟨sr, sk, su, sw, scl⟩ := fun h => do_reads (o := ⟨oc, ok, ol⟩) h
      generalize doS k m ⟨sr, sk, su, sw, scl⟩ ⟨oc, ok, ol⟩ = d at HD7 hRd hWd hEr hRe
      obtain ⟨⟨dr, dk, dv, dt, dc⟩, d2, d3⟩ := d
      have HDo := Lib.hid HD7
      have HRd := Lib.hid hRd
      have HEr := Lib.hid hEr
      have HRe := Lib.hid hRe
      have HO7 := Lib.hid hC7'
      have HE7 := Lib.hid hE7
      have hoc := ho.1
      clear HD7 hRd hWd hEr hRe hC7 hC7' hE7 ho
      dsimp only [sc] at *
      go_wp2_with (fail)
      refine HDo.out.mono ?_
      rintro e w9 ⟨e9, ⟨k6, n6, c6⟩, ⟨p6, q6, r6⟩, ⟨x6, y6, u6⟩, rfl, S9, O9⟩
      clear HDo o0 o1 o2 c0 c1 c2 s0 s1 s2 s3 s4
      dsimp only [sv, rv] at *
      have hlt9 : w3.heap.size < w9.heap.size := ((HB.out.ext HE7.out).ext e9).lt
      have eA := (Ext.new w9 (.cells #[.int .u64 dr, .slice k6 n6 c6, .slice p6 q6 r6, .slice x6 y6 u6, .bool dc] 30)).alloc (.cells #[.int .i64 d2, .int .u64 d3] 51)
      have C14 : Cb ((w9.alloc (.cells #[.int .u64 dr, .slice k6 n6 c6, .slice p6 q6 r6, .slice x6 y6 u6, .bool dc] 30)).alloc (.cells #[.int .i64 d2, .int .u64 d3] 51)) w9.heap.size (sc dr ⟨k6, n6, c6⟩ ⟨p6, q6, r6⟩ ⟨x6, y6, u6⟩ dc) := by repeat (first | ((with_reducible refine Cb.at _ rfl ?_); (simp; done)) | with_reducible refine Cb.alloc ?_ _)
      have C15 : Cb ((w9.alloc (.cells #[.int .u64 dr, .slice k6 n6 c6, .slice p6 q6 r6, .slice x6 y6 u6, .bool dc] 30)).alloc (.cells #[.int .i64 d2, .int .u64 d3] 51)) (w9.heap.size + 1) [.int .i64 d2, .int .u64 d3] := by repeat (first | ((with_reducible refine Cb.at _ rfl ?_); (simp; done)) | with_reducible refine Cb.alloc ?_ _)
      have hE9 := e9.trans eA
      have hC9 := (HC.out.ext HE7.out).ext hE9
      have HRi := Lib.hid (right_any k p m ⟨k6, n6, c6⟩ ⟨p6, q6, r6⟩ ⟨x6, y6, u6⟩ ⟨dr, dk, dv, dt, dc⟩ _ (S9.ext eA))
      rw [HRd.out] at HRi
      obtain ⟨c0, c1, c2⟩ := hC9.three
      obtain ⟨t0, t1, t2, t3, t4⟩ := C14.five
      obtain ⟨r0, r1⟩ := C15.two
      have HX := Lib.hid (And.intro C14 (And.intro C15 (And.intro hC9 (And.intro (S9.ext eA) hE9))))
      have HO9 := Lib.hid O9
      clear eA C14 C15 hE9 hC9 S9 O9 e9
      dsimp only [sc] at *
      have hns : RowKit.Hid (∀ w10, Ext ((w9.alloc (.cells #[.int .u64 dr, .slice k6 n6 c6, .slice p6 q6 r6, .slice x6 y6 u6, .bool dc] 30)).alloc (.cells #[.int .i64 d2, .int .u64 d3] 51)) w10 → KpR k p m w wr w7 w10 w2.heap.size w3.heap.size B w9.heap.size ⟨dr, dk, dv, dt, dc⟩ ⟨k6, n6, c6⟩ ⟨p6, q6, r6⟩ ⟨x6, y6, u6⟩ ⟨sr, sk, su, sw, scl⟩ ⟨ka4, kn4, kc4⟩ ⟨va4, vn4, vc4⟩ ⟨ta4, tn4, tc4⟩ oc ok ol d2 d3) := Lib.hid (fun w10 h => by
        have h7 := (HX.out.2.2.2.2).trans h
        exact ⟨HX.out.1.ext h, HX.out.2.1.ext h, (HC.out.ext HE7.out).ext h7, (HB.out.ext HE7.out).ext h7, HO7.out.ext h7, HX.out.2.2.2.1.ext h, (HS.out.ext HE7.out).ext h7, HO9.out _ (HB.out.ext HE7.out).lt, HRd.out, (HE.out.trans HE7.out).trans h7⟩)
      rcases kp_cases HEr.out HRe.out with ⟨h2, rfl, hs⟩ | ⟨rfl, hr, hs⟩ | ⟨rfl, hr⟩
      · have b2 : (d2 != 0) = true := by simpa using h2
        have HSa := Lib.hid hs
        clear h2 hs
        go_wp2_with (fail)
        refine HRi.out.mono ?_
        rintro e w10 ⟨rfl, e10⟩
        have hK2 := hns.out w10 e10
        clear hns HX HRi e10 c0 c1 c2 t0 t1 t2 t3 t4 r0 r1
        obtain ⟨t0, t1, t2, t3, t4⟩ := hK2.c14.five
        obtain ⟨r0, r1⟩ := hK2.c15.two
        obtain ⟨s0, s1, s2, s3, s4⟩ := hK2.cb.five
        obtain ⟨o0, o1, o2⟩ := hK2.co.three
        have HKs := Lib.hid hK2
        clear hK2
        have HSm := Lib.hid (same_any ⟨ka4, kn4, kc4⟩ ⟨va4, vn4, vc4⟩ ⟨ta4, tn4, tc4⟩ ⟨k6, n6, c6⟩ ⟨p6, q6, r6⟩ ⟨x6, y6, u6⟩ ⟨sr, sk, su, sw, scl⟩ ⟨dr, dk, dv, dt, dc⟩ true w10 HKs.out.ss HKs.out.sd (Lib.hid (decide_eq_true HSa.out.symm).symm))
        go_wp2_with (fail)
        refine HSm.out.mono ?_
        rintro e w11 ⟨rfl, e11⟩
        have hK2 := HKs.out.ext e11
        clear HSm e11 HKs t0 t1 t2 t3 t4 r0 r1 s0 s1 s2 s3 s4 o0 o1 o2
        obtain ⟨t0, t1, t2, t3, t4⟩ := hK2.c14.five
        obtain ⟨s0, s1, s2, s3, s4⟩ := hK2.cb.five
        have f0 := hK2.cb.f 0
        have f1 := hK2.cb.f 1
        have f2 := hK2.cb.f 2
        have f3 := hK2.cb.f 3
        have f4 := hK2.cb.f 4
        have HL := Lib.hid (hK2.store (by omega) (by omega))
        clear hK2
        go_wp2_with (fail)
        go_roundw
        case rel => exact ⟨i + 1, by go_num, by omega, HL.out⟩
        case measure => simp [intOf]; omega
      · have HSa := Lib.hid hs
        have HRr := Lib.hid hr
        clear hs hr
        go_wp2_with (fail)
        refine HRi.out.mono ?_
        rintro e w10 ⟨rfl, e10⟩
        have hK2 := hns.out w10 e10
        clear hns HX HRi e10 c0 c1 c2 t0 t1 t2 t3 t4 r0 r1
        obtain ⟨t0, t1, t2, t3, t4⟩ := hK2.c14.five
        obtain ⟨r0, r1⟩ := hK2.c15.two
        obtain ⟨s0, s1, s2, s3, s4⟩ := hK2.cb.five
        obtain ⟨o0, o1, o2⟩ := hK2.co.three
        have HKs := Lib.hid hK2
        clear hK2
        go_wp2_with (fail)
        refine (reads_is oc _).mono ?_
        rw [HRr.out]
        rintro e w11 ⟨rfl, rfl⟩
        have HSm := Lib.hid (same_any ⟨ka4, kn4, kc4⟩ ⟨va4, vn4, vc4⟩ ⟨ta4, tn4, tc4⟩ ⟨k6, n6, c6⟩ ⟨p6, q6, r6⟩ ⟨x6, y6, u6⟩ ⟨sr, sk, su, sw, scl⟩ ⟨dr, dk, dv, dt, dc⟩ true w10 HKs.out.ss HKs.out.sd (Lib.hid (decide_eq_true HSa.out.symm).symm))
        go_wp2_with (fail)
        refine HSm.out.mono ?_
        rintro e w11 ⟨rfl, e11⟩
        have hK2 := HKs.out.ext e11
        clear HSm e11 HKs t0 t1 t2 t3 t4 r0 r1 s0 s1 s2 s3 s4 o0 o1 o2
        obtain ⟨t0, t1, t2, t3, t4⟩ := hK2.c14.five
        obtain ⟨s0, s1, s2, s3, s4⟩ := hK2.cb.five
        have f0 := hK2.cb.f 0
        have f1 := hK2.cb.f 1
        have f2 := hK2.cb.f 2
        have f3 := hK2.cb.f 3
        have f4 := hK2.cb.f 4
        have HL := Lib.hid (hK2.store (by omega) (by omega))
        clear hK2
        go_wp2_with (fail)
        go_roundw
        case rel => exact ⟨i + 1, by go_num, by omega, HL.out⟩
        case measure => simp [intOf]; omega
      · have HRr := Lib.hid hr
        clear hr
        go_wp2_with (fail)
        refine HRi.out.mono ?_
        rintro e w10 ⟨rfl, e10⟩
        have hK2 := hns.out w10 e10
        clear hns HX HRi e10 c0 c1 c2 t0 t1 t2 t3 t4 r0 r1
        obtain ⟨t0, t1, t2, t3, t4⟩ := hK2.c14.five
        obtain ⟨r0, r1⟩ := hK2.c15.two
        obtain ⟨s0, s1, s2, s3, s4⟩ := hK2.cb.five
        obtain ⟨o0, o1, o2⟩ := hK2.co.three
        have HKs := Lib.hid hK2
        go_wp2_with (fail)
        refine (reads_is oc _).mono ?_
        rw [HRr.out]
        rintro e w11 ⟨rfl, rfl⟩
        have f0 := hK2.cb.f 0
        have f1 := hK2.cb.f 1
        have f2 := hK2.cb.f 2
        have f3 := hK2.cb.f 3
        have f4 := hK2.cb.f 4
        have HL := Lib.hid (hK2.store (by omega) (by omega))
        clear hK2
        go_wp2_with (fail)
        go_roundw
        case rel => exact ⟨i + 1, by go_num, by omega, HL.out⟩
        case measure => simp [intOf]; omega
    · obtain ⟨c0, c1, c2⟩ := hC.three
      obtain ⟨s0, s1, s2, s3, s4⟩ := hB.five
      have HRi := Lib.hid (right_any k p m ⟨ka4, kn4, kc4⟩ ⟨va4, vn4, vc4⟩ ⟨ta4, tn4, tc4⟩ ⟨sr, sk, su, sw, scl⟩ wr hS)
      rw [hR] at HRi
      clear hO hR hS hB hC hE
      dsimp only [sc, cf, sv] at *
      rcases (by omega : ¬ i < n2 ∨ (i < n2 ∧ ¬ i < 12)) with hx0 | ⟨hx0, hx1⟩
      all_goals
        clear hin
        go_wp2_with (fail)
        refine HRi.out.mono ?_
        rintro e w9 ⟨rfl, e9⟩
        have HE9 := Lib.hid (HE.out.trans e9)
        clear e9 c0 c1 c2 s0 s1 s2 s3 s4
        go_wp2_with (fail)
        go_ret
        exact ⟨rfl, HE9.out⟩

end Go.Proofs.YtdipddnnckfnmaaGreat.Law

/- LawSeen:
  AutoSeen: the walk. Conditions: integers' bounds; the raw calls can be read.
-/
namespace Go.Proofs.YtdipddnnckfnmaaGreat.Law
open Go.RowKit (Below intOf)
open Go.Proofs.YtdipddnnckfnmaaGreat.Aut
open Go.Proofs.YtdipddnnckfnmaaGreat.Lan (DoE DoE2 opv new_any do_all do_all2 right_any reads_is out_any OuE seen_any probe_any AE)
open Go.Proofs.YtdipddnnckfnmaaGreat.Reg (cf bx fits_any)

def snDeps : Nat → List Nat := fun i => match i with | 5 => [4] | 6 => [4, 5] | 7 => [4, 5] | _ => []
def snSlots : Nat → Option Tmp := fun i => match i with | 4 => some 95 | 5 => some 90 | 6 => some 96 | 7 => some 97 | 8 => some 22 | _ => none
def SnF (wr : World) : Nat → (Nat → Value) → World → Prop := fun i vs w' => match i with
  | 4 => ∃ (d : St) (a v t : Sl), vs 4 = .tuple #[sv d.reg a v t d.closed, .bool false]
  | 5 => vs 5 = vs 4
  | 6 => ∃ x y, vs 4 = .tuple #[x, y] ∧ vs 6 = x
  | 7 => ∃ x y, vs 4 = .tuple #[x, y] ∧ vs 7 = y
  | 8 => ∃ B : Nat, vs 8 = .pointer (some ⟨B, 0, none⟩) ∧ wr.heap.size ≤ B ∧ Cb w' B (sc 0 nilSl nilSl nilSl false)
  | _ => True
theorem snF_loc {wr : World} : ∀ i vs vs' w, (∀ j, j = i ∨ j ∈ snDeps i → vs j = vs' j) → SnF wr i vs w → SnF wr i vs' w := by
  intro i vs vs' w h hF
  unfold SnF at hF ⊢
  split at hF
  · obtain ⟨d, a, v, t, h1⟩ := hF; exact ⟨d, a, v, t, (h 4 (.inl rfl)).symm.trans h1⟩
  · exact (h 5 (.inl rfl)).symm.trans (hF.trans (h 4 (.inr (by decide))))
  · obtain ⟨x, y, h1, h2⟩ := hF; exact ⟨x, y, (h 4 (.inr (by decide))).symm.trans h1, (h 6 (.inl rfl)).symm.trans h2⟩
  · obtain ⟨x, y, h1, h2⟩ := hF; exact ⟨x, y, (h 4 (.inr (by decide))).symm.trans h1, (h 7 (.inl rfl)).symm.trans h2⟩
  · obtain ⟨B, h1, h2⟩ := hF; exact ⟨B, (h 8 (.inl rfl)).symm.trans h1, h2⟩
  · trivial
theorem snF_stab {wr : World} : ∀ i vs w w', Ext w w' → SnF wr i vs w → SnF wr i vs w' := by
  intro i vs w w' h hF
  unfold SnF at hF ⊢
  split at hF
  · exact hF
  · exact hF
  · exact hF
  · exact hF
  · obtain ⟨B, h1, h2, h3⟩ := hF; exact ⟨B, h1, h2, h3.ext h⟩
  · trivial
/-- What lies there: the configuration, and a state. -/
structure SeB (k p m : Int) (w wr : World) (C S : Nat) (s : St) (a v t : Sl) : Prop where
  r : rightS k p m s = true
  ss : SS wr a v t s
  cb : Cb wr S (sc s.reg a v t s.closed)
  cc : Cb wr C [.int .i64 k, .int .i64 p, .int .i64 m]
  e : Ext w wr
theorem SeB.ext {k p m : Int} {w wr w' : World} {C S : Nat} {s : St} {a v t : Sl} (h : SeB k p m w wr C S s a v t) (e : Ext wr w') : SeB k p m w w' C S s a v t :=
  ⟨h.r, h.ss.ext e, h.cb.ext e, h.cc.ext e, h.e.trans e⟩
/-- Another state. -/
structure SeT (k p m : Int) (wr : World) (S : Nat) (s : St) (a v t : Sl) : Prop where
  r : rightS k p m s = true
  ss : SS wr a v t s
  cb : Cb wr S (sc s.reg a v t s.closed)
theorem SeT.ext {k p m : Int} {wr w' : World} {S : Nat} {s : St} {a v t : Sl} (h : SeT k p m wr S s a v t) (e : Ext wr w') : SeT k p m w' S s a v t :=
  ⟨h.r, h.ss.ext e, h.cb.ext e⟩
theorem out_right {k p m : Int} {s : St} (h : rightS k p m s = true) : outF k p m s = (outS k s, 0) := by
  unfold outF; rw [if_pos (right_fits h), if_pos h]
/-- A word written into one of one's own answers. -/
theorem rs_put {w : World} {b o n c : Nat} {xs : List Rs} (h : RS w (some ⟨b, o, none⟩) n c xs) {j : Nat} {x : Rs} (hx : xs[j]? = some x) {u : Int} (hu : U64 u) : RS (w.setCell ⟨b, o + j * 2 + 1, none⟩ (.int .u64 u)) (some ⟨b, o, none⟩) n c (xs.set j (x.1, u)) := by
  have hj := (List.getElem?_eq_some_iff.1 hx).1
  refine ⟨by simpa using h.1, h.2.1, h.2.2.1, h.2.2.2.1, fun i y hy => ?_⟩
  by_cases e : i = j
  · subst e
    rw [List.getElem?_set_self hj] at hy
    cases hy
    obtain ⟨hr, b', o', es, h0, h1⟩ := h.2.2.2.2 i x hx
    cases es
    exact ⟨⟨hr.1, hu⟩, b, o, rfl, (set_far (by omega)).trans h0, World.cell?_setCell_same' _ _ _ (by rw [h1]; rfl)⟩
  · rw [List.getElem?_set_ne (Ne.symm e)] at hy
    obtain ⟨hr, b', o', es, h0, h1⟩ := h.2.2.2.2 i y hy
    cases es
    exact ⟨hr, b, o, rfl, (set_far (by omega)).trans h0, (set_far (by omega)).trans h1⟩
set_option maxHeartbeats 16000000 in
set_option maxRecDepth 100000 in
theorem seen_walk (a b c a3 x : Int) (s1 s2 : Option Addr) (n1 n2 c1' c2' : Nat) (w : World) (ha : I64 a) (hb : I64 b) (hc : I64 c) (hT1 : TS w s1 n1) (hT2 : TS w s2 n2) (h3 : I64 a3) (hx : U64 x) :
    Calls Tryz.prog 5 #[.agg #[.int .i64 a, .int .i64 b, .int .i64 c], .slice s1 n1 c1', .slice s2 n2 c2', .int .i64 a3, .int .u64 x] w fun e w' => e = .returned (.bool true) ∧ Ext w w' := by
  have HA := Lib.hid (fun W => awake_any do_all W)
  have HCo := Lib.hid (fun W => conf_any a b c W ha hb hc)
  have hfit := conf_fits a b c
  generalize 1 + pickZ a 5 = k at *
  generalize 1 + pickZ b 16 = p at *
  generalize 1 + pickZ c 12 = m at *
  have HF := Lib.hid hfit
  have HT1 := Lib.hid hT1
  have HT2 := Lib.hid hT2
  have HU := Lib.hid hx
  have H3 := Lib.hid h3
  have b0 : Cb (w.alloc (.cells #[.int .i64 a, .int .i64 b, .int .i64 c] 22)) w.heap.size [.int .i64 a, .int .i64 b, .int .i64 c] := Cb.new w _ _
  have HB0 := Lib.hid b0
  have HX0 := Lib.hid (Ext.new w (.cells #[.int .i64 a, .int .i64 b, .int .i64 c] 22))
  clear b0 hfit hT1 hT2 hx ha hb hc h3
  dsimp only [cf] at *
  go_enter Tryz.func5, Tryz.ntmps5
  go_wp2_with (fail)
  refine (HA.out _).mono ?_
  rintro e w1 ⟨rfl, e1⟩
  have HX1 := Lib.hid (HX0.out.trans e1)
  obtain ⟨i0, i1, i2⟩ := (HB0.out.ext e1).three
  clear HB0 HX0 HA e1
  go_wp2_with (fail)
  refine (HCo.out _).mono ?_
  rintro e w2 ⟨rfl, e2⟩
  have HX2 := Lib.hid (HX1.out.trans e2)
  clear HCo HX1 e2 i0 i1 i2
  have C2 : Cb (w2.alloc (.cells #[.int .i64 k, .int .i64 p, .int .i64 m] 24)) w2.heap.size [.int .i64 k, .int .i64 p, .int .i64 m] := Cb.new w2 _ _
  obtain ⟨c0, c1, c2⟩ := C2.three
  have HC2 := Lib.hid C2
  have HXa := Lib.hid (HX2.out.alloc (.cells #[.int .i64 k, .int .i64 p, .int .i64 m] 24))
  have HSt := Lib.hid (state_any s1 n1 c1' (w2.alloc (.cells #[.int .i64 k, .int .i64 p, .int .i64 m] 24)) HF.out (HT1.out.ext HXa.out))
  clear C2
  dsimp only [cf] at *
  go_wp2_with (fail)
  refine HSt.out.mono ?_
  rintro e w3 ⟨⟨sr, sk, su, sw, scl⟩, hR3, ⟨ka, kn, kc⟩, ⟨va, vn, vc⟩, ⟨ta, tn, tc⟩, rfl, S3, e3⟩
  dsimp only [sv] at *
  have hB0 : SeB k p m w (w3.alloc (.cells #[.int .u64 sr, .slice ka kn kc, .slice va vn vc, .slice ta tn tc, .bool scl] 30)) w2.heap.size w3.heap.size ⟨sr, sk, su, sw, scl⟩ ⟨ka, kn, kc⟩ ⟨va, vn, vc⟩ ⟨ta, tn, tc⟩ :=
    ⟨hR3, S3.ext (Ext.new _ _), Cb.new w3 _ _, (HC2.out.ext e3).alloc _, (HXa.out.trans e3).alloc _⟩
  have HB := Lib.hid hB0
  have HSt2 := Lib.hid (state_any s2 n2 c2' (w3.alloc (.cells #[.int .u64 sr, .slice ka kn kc, .slice va vn vc, .slice ta tn tc, .bool scl] 30)) HF.out (HT2.out.ext hB0.e))
  clear HSt HC2 HXa HX2 S3 e3 hR3 c0 c1 c2
  obtain ⟨c0, c1, c2⟩ := hB0.cc.three
  clear hB0
  dsimp only [cf] at *
  go_wp2_with (fail)
  refine HSt2.out.mono ?_
  rintro e w4 ⟨⟨tr, tk, tu, tw, tcl⟩, hR4, ⟨ka2, kn2, kc2⟩, ⟨va2, vn2, vc2⟩, ⟨ta2, tn2, tc2⟩, rfl, S4, e4⟩
  dsimp only [sv] at *
  have hB1 := (HB.out.ext e4).ext (Ext.new w4 (.cells #[.int .u64 tr, .slice ka2 kn2 kc2, .slice va2 vn2 vc2, .slice ta2 tn2 tc2, .bool tcl] 30))
  have hT1 : SeT k p m (w4.alloc (.cells #[.int .u64 tr, .slice ka2 kn2 kc2, .slice va2 vn2 vc2, .slice ta2 tn2 tc2, .bool tcl] 30)) w4.heap.size ⟨tr, tk, tu, tw, tcl⟩ ⟨ka2, kn2, kc2⟩ ⟨va2, vn2, vc2⟩ ⟨ta2, tn2, tc2⟩ := ⟨hR4, S4.ext (Ext.new _ _), Cb.new w4 _ _⟩
  have HOu := Lib.hid (out_any k p m ⟨ka, kn, kc⟩ ⟨va, vn, vc⟩ ⟨ta, tn, tc⟩ ⟨sr, sk, su, sw, scl⟩ _ hB1.ss)
  rw [out_right hB1.r] at HOu
  clear HSt2 HB S4 e4 hR4 c0 c1 c2
  obtain ⟨c0, c1, c2⟩ := hB1.cc.three
  obtain ⟨s0, s1', s2', s3, s4⟩ := hB1.cb.five
  have HB := Lib.hid hB1
  have HT := Lib.hid hT1
  clear hB1 hT1
  dsimp only [cf, sv, sc] at *
  go_wp2_with (fail)
  refine HOu.out.mono ?_
  rintro e w5 ⟨⟨aa, an, ac⟩, rfl, Ra, e5⟩
  clear HOu c0 c1 c2 s0 s1' s2' s3 s4
  have hB2 := HB.out.ext e5
  have hT2 := HT.out.ext e5
  have HOu := Lib.hid (out_any k p m ⟨ka2, kn2, kc2⟩ ⟨va2, vn2, vc2⟩ ⟨ta2, tn2, tc2⟩ ⟨tr, tk, tu, tw, tcl⟩ _ hT2.ss)
  rw [out_right hT2.r] at HOu
  obtain ⟨c0, c1, c2⟩ := hB2.cc.three
  obtain ⟨t0, t1, t2, t3, t4⟩ := hT2.cb.five
  clear HB HT
  have HB := Lib.hid hB2
  have HT := Lib.hid hT2
  have HRa := Lib.hid Ra
  clear hB2 hT2 e5 Ra
  dsimp only [cf, sv, sc] at *
  go_wp2_with (fail)
  refine HOu.out.mono ?_
  rintro e w6 ⟨⟨ba, bn, bc⟩, rfl, Rb, e6⟩
  clear HOu c0 c1 c2 t0 t1 t2 t3 t4
  have hB3 := HB.out.ext e6
  have hT3 := HT.out.ext e6
  have hRa := HRa.out.ext e6
  have HSe := Lib.hid (seen_any k p m aa an ac _ _ hRa)
  rw [seen_out hB3.r] at HSe
  obtain ⟨c0, c1, c2⟩ := hB3.cc.three
  clear HB HT HRa
  have HB := Lib.hid hB3
  have HT := Lib.hid hT3
  have HRa := Lib.hid hRa
  have HRb := Lib.hid Rb
  clear hB3 hT3 e6 hRa Rb
  dsimp only [cf] at *
  go_wp2_with (fail)
  refine HSe.out.mono ?_
  rintro e w7 ⟨e7, ⟨ka3, kn3, kc3⟩, ⟨va3, vn3, vc3⟩, ⟨ta3, tn3, tc3⟩, rfl, S7⟩
  clear HSe c0 c1 c2
  dsimp only [sv] at *
  have hE7 : Ext w6 (w7.alloc (.cells #[.int .u64 sr, .slice ka3 kn3 kc3, .slice va3 vn3 vc3, .slice ta3 tn3 tc3, .bool scl] 30)) := e7.alloc _
  have hU : Cb (w7.alloc (.cells #[.int .u64 sr, .slice ka3 kn3 kc3, .slice va3 vn3 vc3, .slice ta3 tn3 tc3, .bool scl] 30)) w7.heap.size (sc sr ⟨ka3, kn3, kc3⟩ ⟨va3, vn3, vc3⟩ ⟨ta3, tn3, tc3⟩ scl) := Cb.new w7 _ _
  have hSu := S7.ext (Ext.new w7 (.cells #[.int .u64 sr, .slice ka3 kn3 kc3, .slice va3 vn3 vc3, .slice ta3 tn3 tc3, .bool scl] 30))
  have hB4 := HB.out.ext hE7
  have hT4 := HT.out.ext hE7
  have hRa := HRa.out.ext hE7
  have hRb := HRb.out.ext hE7
  clear HB HT HRa HRb hE7 e7 S7
  go_wp2_with (fail)
  generalize w7.alloc (.cells #[.int .u64 sr, .slice ka3 kn3 kc3, .slice va3 vn3 vc3, .slice ta3 tn3 tc3, .bool scl] 30) = w8 at hU hSu hB4 hT4 hRa hRb ⊢
  have han : ((an : Int) == 0) = false := by
    have h1 := hRa.len
    have h2 : an ≠ 0 := fun h => out_ne (List.eq_nil_of_length_eq_zero (h1.trans h))
    simpa using h2
  obtain ⟨r, hr⟩ : ∃ r, RowKit.Hid (r = decide ((⟨sr, sk, su, sw, scl⟩ : St) = ⟨tr, tk, tu, tw, tcl⟩)) := ⟨_, Lib.hid rfl⟩
  have hr2 : RowKit.Hid (r = decide (outS k ⟨sr, sk, su, sw, scl⟩ = outS k ⟨tr, tk, tu, tw, tcl⟩)) := Lib.hid (by
    rw [hr.out]
    refine decide_eq_decide.2 ⟨fun h => by rw [h], fun h => out_inj hB4.r hT4.r h⟩)
  obtain ⟨u0, u1, u2, u3, u4⟩ := hU.five
  obtain ⟨s0, s1', s2', s3, s4⟩ := hB4.cb.five
  obtain ⟨t0, t1, t2, t3, t4⟩ := hT4.cb.five
  have HSu := Lib.hid hSu
  have HB := Lib.hid hB4
  have HT := Lib.hid hT4
  have HRa := Lib.hid hRa
  have HRb := Lib.hid hRb
  clear hSu hB4 hT4 hRa hRb hU
  dsimp only [sc] at *
  refine wp_region_held_drew (S := fun w' => Ext w8 w') (by kernel_rfl) (Ext.drew (Ext.refl w8)) (fun hHeld => ?_)
  refine wpAnyH_take (i := 0) (v := .int .i64 0) rfl (by kernel_rfl) (by kernel_rfl) (by kernel_rfl) (fun _ _ _ h => h) (Or.inl ⟨by kernel_rfl, ?_⟩) (by assumption) ?_
  · intro w hE
    go_simp
  refine wpAnyH_take (i := 1) (v := .bool false) rfl (by kernel_rfl) (by kernel_rfl) (by kernel_rfl) (fun _ _ _ h => h) (Or.inl ⟨by kernel_rfl, ?_⟩) (by assumption) ?_
  · intro w hE
    go_simp
  refine wpAnyH_take (i := 2) (v := .bool false) rfl (by kernel_rfl) (by kernel_rfl) (by kernel_rfl) (fun _ _ _ h => h) (Or.inl ⟨by kernel_rfl, ?_⟩) (by assumption) ?_
  · intro w hE
    go_simp
  refine wpAnyH_take (i := 3) (v := .int .i64 0) rfl (by kernel_rfl) (by kernel_rfl) (by kernel_rfl) (fun _ _ _ h => h) (Or.inl ⟨by kernel_rfl, ?_⟩) (by assumption) ?_
  · intro w hE
    go_simp
  refine wpAnyH_take (i := 4) (v := .bool false) rfl (by kernel_rfl) (by kernel_rfl) (by kernel_rfl) (fun _ _ _ h => h) (Or.inl ⟨by kernel_rfl, ?_⟩) (by assumption) ?_
  · intro w hE
    go_simp
  refine wpAnyH_take (i := 5) (v := .bool false) rfl (by kernel_rfl) (by kernel_rfl) (by kernel_rfl) (fun _ _ _ h => h) (Or.inl ⟨by kernel_rfl, ?_⟩) (by assumption) ?_
  · intro w hE
    go_simp
  refine wpAnyH_take (i := 6) (v := .bool false) rfl (by kernel_rfl) (by kernel_rfl) (by kernel_rfl) (fun _ _ _ h => h) (Or.inl ⟨by kernel_rfl, ?_⟩) (by assumption) ?_
  · intro w hE
    go_simp
  refine wpAnyH_take (i := 7) (v := .bool true) rfl (by kernel_rfl) (by kernel_rfl) (by kernel_rfl) (fun _ _ _ h => h) (Or.inl ⟨by kernel_rfl, ?_⟩) (by assumption) ?_
  · intro w hE
    go_simp
  refine wpAnyH_take (i := 8) (v := .bool false) rfl (by kernel_rfl) (by kernel_rfl) (by kernel_rfl) (fun _ _ _ h => h) (Or.inl ⟨by kernel_rfl, ?_⟩) (by assumption) ?_
  · intro w hE
    go_simp
  refine wpAnyH_take (i := 9) (v := .bool false) rfl (by kernel_rfl) (by kernel_rfl) (by kernel_rfl) (fun _ _ _ h => h) (Or.inl ⟨by kernel_rfl, ?_⟩) (by assumption) ?_
  · intro w hE
    go_simp
  refine wpAnyH_take (i := 10) (v := .bool false) rfl (by kernel_rfl) (by kernel_rfl) (by kernel_rfl) (fun _ _ _ h => h) (Or.inl ⟨by kernel_rfl, ?_⟩) (by assumption) ?_
  · intro w hE
    go_simp
  refine wpAnyH_take (i := 11) (v := .agg #[.int .u64 sr, .slice ka3 kn3 kc3, .slice va3 vn3 vc3, .slice ta3 tn3 tc3, .bool scl]) rfl (by kernel_rfl) (by kernel_rfl) (by kernel_rfl) (fun _ _ _ h => h) (Or.inl ⟨by kernel_rfl, ?_⟩) (by assumption) ?_
  · intro w hE
    have q0 := hE.cell u0
    have q1 := hE.cell u1
    have q2 := hE.cell u2
    have q3 := hE.cell u3
    have q4 := hE.cell u4
    go_simp
  refine wpAnyH_take (i := 12) (v := .agg #[.int .u64 sr, .slice ka kn kc, .slice va vn vc, .slice ta tn tc, .bool scl]) rfl (by kernel_rfl) (by kernel_rfl) (by kernel_rfl) (fun _ _ _ h => h) (Or.inl ⟨by kernel_rfl, ?_⟩) (by assumption) ?_
  · intro w hE
    have q0 := hE.cell s0
    have q1 := hE.cell s1'
    have q2 := hE.cell s2'
    have q3 := hE.cell s3
    have q4 := hE.cell s4
    go_simp
  refine wpAnyH_ready (rs := [13]) (by kernel_rfl) (by simp) ?_
  refine AllReadyH.cons rfl (fun K hK => ?_) AllReadyH.nil
  go_simp
  refine (same_any ⟨ka3, kn3, kc3⟩ ⟨va3, vn3, vc3⟩ ⟨ta3, tn3, tc3⟩ ⟨ka, kn, kc⟩ ⟨va, vn, vc⟩ ⟨ta, tn, tc⟩ ⟨sr, sk, su, sw, scl⟩ ⟨sr, sk, su, sw, scl⟩ true _ (HSu.out.ext (by assumption)) (HB.out.ss.ext (by assumption)) (Lib.hid (by simp))).mono ?_
  rintro e w9 ⟨rfl, e9⟩
  refine hK.out _ _ (Ext.trans (by assumption) e9) (fun hHeld => ?_)
  clear hK K
  refine wpAnyH_take (i := 14) (v := .bool false) rfl (by kernel_rfl) (by kernel_rfl) (by kernel_rfl) (fun _ _ _ h => h) (Or.inl ⟨by kernel_rfl, ?_⟩) (by assumption) ?_
  · intro w hE
    go_simp
  refine wpAnyH_take (i := 15) (v := .bool false) rfl (by kernel_rfl) (by kernel_rfl) (by kernel_rfl) (fun _ _ _ h => h) (Or.inl ⟨by kernel_rfl, ?_⟩) (by assumption) ?_
  · intro w hE
    go_simp
  refine wpAnyH_take (i := 16) (v := .bool false) rfl (by kernel_rfl) (by kernel_rfl) (by kernel_rfl) (fun _ _ _ h => h) (Or.inl ⟨by kernel_rfl, ?_⟩) (by assumption) ?_
  · intro w hE
    go_simp
  refine wpAnyH_take (i := 17) (v := .slice aa an ac) rfl (by kernel_rfl) (by kernel_rfl) (by kernel_rfl) (fun _ _ _ h => h) (Or.inl ⟨by kernel_rfl, ?_⟩) (by assumption) ?_
  · intro w hE
    go_simp
  refine wpAnyH_take (i := 18) (v := .slice ba bn bc) rfl (by kernel_rfl) (by kernel_rfl) (by kernel_rfl) (fun _ _ _ h => h) (Or.inl ⟨by kernel_rfl, ?_⟩) (by assumption) ?_
  · intro w hE
    go_simp
  refine wpAnyH_take (i := 20) (v := .agg #[.int .u64 sr, .slice ka kn kc, .slice va vn vc, .slice ta tn tc, .bool scl]) rfl (by kernel_rfl) (by kernel_rfl) (by kernel_rfl) (fun _ _ _ h => h) (Or.inl ⟨by kernel_rfl, ?_⟩) (by assumption) ?_
  · intro w hE
    have q0 := hE.cell s0
    have q1 := hE.cell s1'
    have q2 := hE.cell s2'
    have q3 := hE.cell s3
    have q4 := hE.cell s4
    go_simp
  refine wpAnyH_take (i := 21) (v := .agg #[.int .u64 tr, .slice ka2 kn2 kc2, .slice va2 vn2 vc2, .slice ta2 tn2 tc2, .bool tcl]) rfl (by kernel_rfl) (by kernel_rfl) (by kernel_rfl) (fun _ _ _ h => h) (Or.inl ⟨by kernel_rfl, ?_⟩) (by assumption) ?_
  · intro w hE
    have q0 := hE.cell t0
    have q1 := hE.cell t1
    have q2 := hE.cell t2
    have q3 := hE.cell t3
    have q4 := hE.cell t4
    go_simp
  refine wpAnyH_ready (rs := [19]) (by kernel_rfl) (by simp) ?_
  refine AllReadyH.cons rfl (fun K hK => ?_) AllReadyH.nil
  go_simp
  refine (told_any aa ba an bn ac bc _ _ r _ (HRa.out.ext (by assumption)) (HRb.out.ext (by assumption)) hr2).mono ?_
  rintro e w10 ⟨rfl, nq, rfl⟩
  refine hK.out _ _ (Ext.trans (by assumption) (Ext.draws _ nq)) (fun hHeld => ?_)
  clear hK K
  refine wpAnyH_ready (rs := [22]) (by kernel_rfl) (by simp) ?_
  refine AllReadyH.cons rfl (fun K hK => ?_) AllReadyH.nil
  go_simp
  refine (same_any ⟨ka, kn, kc⟩ ⟨va, vn, vc⟩ ⟨ta, tn, tc⟩ ⟨ka2, kn2, kc2⟩ ⟨va2, vn2, vc2⟩ ⟨ta2, tn2, tc2⟩ ⟨sr, sk, su, sw, scl⟩ ⟨tr, tk, tu, tw, tcl⟩ r _ (HB.out.ss.ext (by assumption)) (HT.out.ss.ext (by assumption)) hr).mono ?_
  rintro e w11 ⟨rfl, e11⟩
  refine hK.out _ _ (Ext.trans (by assumption) e11) (fun hHeld => ?_)
  clear hK K
  refine wpAnyH_take (i := 23) (v := .bool false) rfl (by kernel_rfl) (by kernel_rfl) (by kernel_rfl) (fun _ _ _ h => h) (Or.inl ⟨by kernel_rfl, ?_⟩) (by assumption) ?_
  · intro w hE
    go_simp
  refine wpAnyH_take (i := 24) (v := .bool false) rfl (by kernel_rfl) (by kernel_rfl) (by kernel_rfl) (fun _ _ _ h => h) (Or.inl ⟨by kernel_rfl, ?_⟩) (by assumption) ?_
  · intro w hE
    go_simp
  refine wpAnyH_take (i := 25) (v := .bool false) rfl (by kernel_rfl) (by kernel_rfl) (by kernel_rfl) (fun _ _ _ h => h) (Or.inl ⟨by kernel_rfl, ?_⟩) (by assumption) ?_
  · intro w hE
    go_simp
  refine wpAnyH_take (i := 26) (v := .slice aa an ac) rfl (by kernel_rfl) (by kernel_rfl) (by kernel_rfl) (fun _ _ _ h => h) (Or.inl ⟨by kernel_rfl, ?_⟩) (by assumption) ?_
  · intro w hE
    go_simp
  refine wpAnyH_take (i := 27) (v := .int .i64 (an : Int)) rfl (by kernel_rfl) (by kernel_rfl) (by kernel_rfl) (fun _ _ _ h => h) (Or.inl ⟨by kernel_rfl, ?_⟩) (by assumption) ?_
  · intro w hE
    go_simp
  refine wpAnyH_take (i := 28) (v := .bool false) rfl (by kernel_rfl) (by kernel_rfl) (by kernel_rfl) (fun _ _ _ h => h) (Or.inl ⟨by kernel_rfl, ?_⟩) (by assumption) ?_
  · intro w hE
    go_simp
  refine wpAnyH_take (i := 29) (v := .bool false) rfl (by kernel_rfl) (by kernel_rfl) (by kernel_rfl) (fun _ _ _ h => h) (Or.inl ⟨by kernel_rfl, ?_⟩) (by assumption) ?_
  · intro w hE
    go_simp
  refine wpAnyH_done (by kernel_rfl) ?_ _
  go_simp
  have hB5 := HB.out.ext hHeld
  have hRa := HRa.out.ext hHeld
  clear HSu HB HT HRa HRb hr hr2 u0 u1 u2 u3 u4 s0 s1' s2' s3 s4 t0 t1 t2 t3 t4 hHeld
  obtain ⟨K, hK, eK⟩ := pick_nat a3 an (by have := hRa.len; have h2 : an ≠ 0 := fun h => out_ne (List.eq_nil_of_length_eq_zero (this.trans h)); omega)
  have HPk := Lib.hid (fun W => pick_any a3 (an : Int) W H3.out (by omega))
  rw [eK] at HPk
  clear eK
  have HB := Lib.hid hB5
  have HRa := Lib.hid hRa
  clear hB5 hRa
  go_wp2_with (fail)
  refine (HPk.out _).mono ?_
  rintro e w12 ⟨rfl, rfl⟩
  clear HPk
  go_wp2_with (fail)
  obtain ⟨c0, c1, c2⟩ := HB.out.cc.three
  have hsc := seen_cut HB.out.r HB.out.ss.wd (j := K) (by rw [HRa.out.len]; exact hK)
  have HSk : RowKit.Hid (∀ W, Ext w11 W → Calls Tryz.prog 25 #[cf k p m, .slice aa K ac] W fun e w' => Ext W w' ∧ ∃ (d : St) (a v t : Sl), e = .returned (.tuple #[sv d.reg a v t d.closed, .bool false])) := Lib.hid (fun W h => by
    have h1 := seen_any k p m aa K ac _ W ((HRa.out.take (Nat.le_of_lt hK)).ext h)
    rw [hsc] at h1
    exact h1.mono fun e w' ⟨g1, a, v, t, g2, _⟩ => ⟨g1, _, a, v, t, g2⟩)
  have hKc : K ≤ ac := Nat.le_trans (Nat.le_of_lt hK) HRa.out.lc
  clear hsc
  dsimp only [cf] at *
  refine wp_region_held_drew (S := fun w' => Ext w11 w') (by kernel_rfl) (Ext.drew (Ext.refl w11)) (fun hHeld => ?_)
  refine wpAnyH_take (i := 0) (v := .agg #[.int .i64 k, .int .i64 p, .int .i64 m]) rfl (by kernel_rfl) (by kernel_rfl) (by kernel_rfl) (fun _ _ _ h => h) (Or.inl ⟨by kernel_rfl, ?_⟩) (by assumption) ?_
  · intro w hE
    have q0 := hE.cell c0
    have q1 := hE.cell c1
    have q2 := hE.cell c2
    go_simp
  refine wpAnyH_take (i := 1) (v := .slice aa an ac) rfl (by kernel_rfl) (by kernel_rfl) (by kernel_rfl) (fun _ _ _ h => h) (Or.inl ⟨by kernel_rfl, ?_⟩) (by assumption) ?_
  · intro w hE
    go_simp
  refine wpAnyH_take (i := 2) (v := .int .i64 (K : Int)) rfl (by kernel_rfl) (by kernel_rfl) (by kernel_rfl) (fun _ _ _ h => h) (Or.inl ⟨by kernel_rfl, ?_⟩) (by assumption) ?_
  · intro w hE
    go_simp
  refine wpAnyH_take (i := 3) (v := .slice aa K ac) rfl (by kernel_rfl) (by kernel_rfl) (by kernel_rfl) (fun _ _ _ h => h) (Or.inl ⟨by kernel_rfl, ?_⟩) (by assumption) ?_
  · intro w hE
    go_simp
  clear c0 c1 c2
  refine Par.wpAnyH_par (fuel := 2) [4, 5, 6, 7, 8] [5, 6, 7] snDeps snSlots (SnF w11) (fun _ _ _ => True) Ext rfl (by kernel_rfl) (by kernel_rfl) (by kernel_rfl) (fun _ _ _ _ _ h => h) Ext.refl (fun _ _ _ h g => Ext.trans h g) snF_loc snF_stab (fun _ _ _ _ _ _ _ => trivial) (by assumption) ?_ ?_ ?_
  · refine List.forall_mem_cons.2 ⟨?_, List.forall_mem_cons.2 ⟨?_, List.forall_mem_cons.2 ⟨?_, fun _ h => by cases h⟩⟩⟩
    · refine ⟨_, rfl, fun done vs w5 hn hS5 hR5 hd hF => ?_⟩
      obtain ⟨⟨dr, dk, dv, dt, dc⟩, ⟨k6, n6, c6⟩, ⟨p6, q6, r6⟩, ⟨x6, y6, u6⟩, e4⟩ := hF 4 (hd 4 (by decide))
      refine ⟨.tuple #[sv dr ⟨k6, n6, c6⟩ ⟨p6, q6, r6⟩ ⟨x6, y6, u6⟩ dc, .bool false], Or.inl ⟨by kernel_rfl, ?_⟩, e4.symm, fun _ _ => trivial⟩
      intro w hE
      simp only [snDeps, Par.putAll_nil, Par.putAll_some, snSlots]
      simp only [e4]
      go_simp
    · refine ⟨_, rfl, fun done vs w5 hn hS5 hR5 hd hF => ?_⟩
      obtain ⟨⟨dr, dk, dv, dt, dc⟩, ⟨k6, n6, c6⟩, ⟨p6, q6, r6⟩, ⟨x6, y6, u6⟩, e4⟩ := hF 4 (hd 4 (by decide))
      have e5 : vs 5 = vs 4 := hF 5 (hd 5 (by decide))
      refine ⟨sv dr ⟨k6, n6, c6⟩ ⟨p6, q6, r6⟩ ⟨x6, y6, u6⟩ dc, Or.inl ⟨by kernel_rfl, ?_⟩, ⟨_, _, e4, rfl⟩, fun _ _ => trivial⟩
      intro w hE
      simp only [snDeps, Par.putAll_nil, Par.putAll_some, snSlots]
      simp only [e5, e4]
      go_simp
    · refine ⟨_, rfl, fun done vs w5 hn hS5 hR5 hd hF => ?_⟩
      obtain ⟨⟨dr, dk, dv, dt, dc⟩, ⟨k6, n6, c6⟩, ⟨p6, q6, r6⟩, ⟨x6, y6, u6⟩, e4⟩ := hF 4 (hd 4 (by decide))
      have e5 : vs 5 = vs 4 := hF 5 (hd 5 (by decide))
      refine ⟨.bool false, Or.inl ⟨by kernel_rfl, ?_⟩, ⟨_, _, e4, rfl⟩, fun _ _ => trivial⟩
      intro w hE
      simp only [snDeps, Par.putAll_nil, Par.putAll_some, snSlots]
      simp only [e5, e4]
      go_simp
  · refine List.forall_mem_cons.2 ⟨?_, List.forall_mem_cons.2 ⟨?_, List.forall_mem_cons.2 ⟨?_, List.forall_mem_cons.2 ⟨?_, List.forall_mem_cons.2 ⟨?_, fun _ h => by cases h⟩⟩⟩⟩⟩
    · intro _ done vs w5 hn hS5 hR5 hd hF
      simp only [snDeps, Par.putAll_nil]
      refine Par.step_of rfl (fun K hK => ?_)
      go_simp
      refine (HSk.out _ hS5).mono ?_
      rintro e w6 ⟨e6, ⟨dr, dk, dv, dt, dc⟩, ⟨k6, n6, c6⟩, ⟨p6, q6, r6⟩, ⟨x6, y6, u6⟩, rfl⟩
      exact hK.out _ _ ⟨.tuple #[sv dr ⟨k6, n6, c6⟩ ⟨p6, q6, r6⟩ ⟨x6, y6, u6⟩ dc, .bool false], by kernel_rfl, hS5.trans e6, e6, ⟨⟨dr, dk, dv, dt, dc⟩, ⟨k6, n6, c6⟩, ⟨p6, q6, r6⟩, ⟨x6, y6, u6⟩, rfl⟩, fun _ _ => trivial⟩
    · exact fun h => absurd (by decide) h
    · exact fun h => absurd (by decide) h
    · exact fun h => absurd (by decide) h
    · intro _ done vs w5 hn hS5 hR5 hd hF
      simp only [snDeps, Par.putAll_nil]
      refine Par.step_of rfl (fun K hK => ?_)
      go_simp
      exact hK.out _ _ ⟨.pointer (some ⟨w5.heap.size, 0, none⟩), by kernel_rfl, hS5.alloc _, Ext.new _ _, ⟨w5.heap.size, rfl, hS5.size, Cb.new w5 _ _⟩, fun _ _ => trivial⟩
  intro vs w5 hS5 hR5 hF hXX
  obtain ⟨⟨dr, dk, dv, dt, dc⟩, ⟨k6, n6, c6⟩, ⟨p6, q6, r6⟩, ⟨x6, y6, u6⟩, e4⟩ := hF 4 (by decide)
  have e5 : vs 5 = vs 4 := hF 5 (by decide)
  obtain ⟨_, _, e, e6⟩ := hF 6 (by decide)
  cases e4.symm.trans e
  obtain ⟨_, _, e, e7⟩ := hF 7 (by decide)
  cases e4.symm.trans e
  obtain ⟨B, e8, g8, C8⟩ := hF 8 (by decide)
  simp only [Par.putAll_nil, Par.putAll_some, snSlots]
  simp only [e4, e5, e6, e7, e8]
  clear hF hXX e4 e5 e6 e7 e8 e
  obtain ⟨z0, z1, z2, z3, z4⟩ := C8.five
  have y0 := C8.f 0
  have y1 := C8.f 1
  have y2 := C8.f 2
  have y3 := C8.f 3
  have y4 := C8.f 4
  have HE6 := Lib.hid (((((hS5.setCell g8 (.int .u64 dr) (o := 0)).setCell g8 (.slice k6 n6 c6) (o := 1)).setCell g8 (.slice p6 q6 r6) (o := 2)).setCell g8 (.slice x6 y6 u6) (o := 3)).setCell g8 (.bool dc) (o := 4))
  clear C8 hS5 hR5 hHeld
  refine wpAnyH_ready (rs := [9]) (by kernel_rfl) (by simp) ?_
  refine AllReadyH.cons rfl (fun K hK => ?_) AllReadyH.nil
  go_simp
  refine hK.out _ _ HE6.out (fun hHeld => ?_)
  clear hK K z0 z1 z2 z3 z4 y0 y1 y2 y3 y4 hHeld
  refine wpAnyH_take (i := 10) (v := .bool false) rfl (by kernel_rfl) (by kernel_rfl) (by kernel_rfl) (fun _ _ _ h => h) (Or.inl ⟨by kernel_rfl, ?_⟩) HE6.out ?_
  · intro w hE
    go_simp
  refine wpAnyH_done (by kernel_rfl) ?_ _
  go_simp
  have hB6 := HB.out.ext HE6.out
  have hRa := HRa.out.ext HE6.out
  clear HB HRa HE6
  generalize ((((w5.setCell ⟨B, 0, none⟩ (.int .u64 dr)).setCell ⟨B, 1, none⟩ (.slice k6 n6 c6)).setCell ⟨B, 2, none⟩ (.slice p6 q6 r6)).setCell ⟨B, 3, none⟩ (.slice x6 y6 u6)).setCell ⟨B, 4, none⟩ (.bool dc) = w13 at hB6 hRa ⊢
  obtain ⟨sA, cA, wA, RA, oA, gA⟩ := appRS (ys := []) (World.ownsRow_nil w13 w13.heap.size _ _) hRa an (Nat.zero_add _) (by have := hRa.le; omega) (Nat.le_refl _)
  have xA : Ext w13 wA := Ext.grown (Ext.refl _) gA (fun k e => by simp [Value.ownBlock] at e)
  have hRx := RS.of_own (by simpa using oA) hRa.len hRa.le hRa.range
  obtain ⟨g, hsA, hge, hfr⟩ : ∃ g, sA = some ⟨g, 0, none⟩ ∧ w13.heap.size ≤ g ∧ ∀ i, wA.frozen? ⟨g, i, none⟩ = false := by
    rcases oA.2 with ⟨e, hz9⟩ | ⟨g, cap, cur, e, hge, hb, _⟩
    · cases e
      simp at han
    · cases e
      exact ⟨g, rfl, hge, fun j => by simp [World.frozen?, hb]⟩
  subst hsA
  obtain ⟨⟨y1', y2'⟩, hy, iy, b', o', es, q0, q1⟩ := hRx.get hK
  cases es
  have qf := hfr (K * 2 + 1)
  simp only [Nat.zero_add] at q0 q1
  have hX := rs_put hRx hy HU.out
  simp only [Nat.zero_add] at hX
  have HX := Lib.hid hX
  clear hX
  have HEx := Lib.hid (xA.setCell hge (.int .u64 x) (o := K * 2 + 1))
  have HYy := Lib.hid hy
  have HB := Lib.hid hB6
  have HRa := Lib.hid hRa
  have hii : (K : Int) < an := by omega
  clear hRx hB6 hRa oA gA xA hge hfr iy hy
  obtain ⟨c0, c1, c2⟩ := (HB.out.ext HEx.out).cc.three
  have hse := seen_any k p m (some ⟨g, 0, none⟩) an cA _ _ HX.out
  have hst := @seen_true k p m ((outS k ⟨sr, sk, su, sw, scl⟩).set K (y1', x))
  have hso : x = y2' → seenF k p m ((outS k ⟨sr, sk, su, sw, scl⟩).set K (y1', x)) = (⟨sr, sk, su, sw, scl⟩, true) := fun h => by
    have hy := HYy.out
    obtain ⟨hl, e⟩ := List.getElem?_eq_some_iff.1 hy
    rw [h, ← e, List.set_getElem_self]
    exact seen_out HB.out.r
  generalize seenF k p m ((outS k ⟨sr, sk, su, sw, scl⟩).set K (y1', x)) = z at hse hst hso
  obtain ⟨⟨dr, dk, dv, dt, dcl⟩, bb⟩ := z
  have hcs : bb = false ∨ (bb = true ∧ (x == y2') = decide ((⟨dr, dk, dv, dt, dcl⟩ : St) = ⟨sr, sk, su, sw, scl⟩)) := by
    cases bb with
    | false => exact .inl rfl
    | true =>
      refine .inr ⟨rfl, ?_⟩
      obtain ⟨h1, h2⟩ := hst rfl
      by_cases hxy : x = y2'
      · have h3 := (Prod.mk.inj (hso hxy)).1
        rw [h3, hxy]; simp
      · have h3 : ¬ ((⟨dr, dk, dv, dt, dcl⟩ : St) = ⟨sr, sk, su, sw, scl⟩) := fun h4 => by
          rw [h4] at h2
          have hy := HYy.out
          obtain ⟨hl, e⟩ := List.getElem?_eq_some_iff.1 hy
          have h5 : (outS k ⟨sr, sk, su, sw, scl⟩)[K]? = some (y1', x) := by
            conv => lhs; rw [h2]
            rw [List.getElem?_set_self hl]
          rw [hy] at h5
          cases h5
          exact hxy rfl
        rw [decide_eq_false h3]; simpa using hxy
  have HSe := Lib.hid hse
  have HCs := Lib.hid hcs
  clear hse hst hso hcs
  dsimp only [cf] at *
  go_wp2_with (at_builtin; refine Lib.wpList_append_run _ rfl (.const (.slice none 0 0)) (.tmp 99) _ _ rfl _ _ rfl rfl _ _ RA.out ?_)
  refine HSe.out.mono ?_
  rintro e w16 ⟨e16, ⟨ka4, kn4, kc4⟩, ⟨va4, vn4, vc4⟩, ⟨ta4, tn4, tc4⟩, rfl, S16⟩
  clear HSe c0 c1 c2 q0 q1 qf RA
  dsimp only [sv] at *
  have hD : Cb (w16.alloc (.cells #[.int .u64 dr, .slice ka4 kn4 kc4, .slice va4 vn4 vc4, .slice ta4 tn4 tc4, .bool dcl] 30)) w16.heap.size (sc dr ⟨ka4, kn4, kc4⟩ ⟨va4, vn4, vc4⟩ ⟨ta4, tn4, tc4⟩ dcl) := Cb.new w16 _ _
  have hSd := S16.ext (Ext.new w16 (.cells #[.int .u64 dr, .slice ka4 kn4 kc4, .slice va4 vn4 vc4, .slice ta4 tn4 tc4, .bool dcl] 30))
  have hE16 : Ext _ (w16.alloc (.cells #[.int .u64 dr, .slice ka4 kn4 kc4, .slice va4 vn4 vc4, .slice ta4 tn4 tc4, .bool dcl] 30)) := e16.alloc _
  have hB7 := (HB.out.ext HEx.out).ext hE16
  have hRa := (HRa.out.ext HEx.out).ext hE16
  have hRx := HX.out.ext hE16
  clear HB HRa HX HEx e16 S16 hE16
  go_wp2_with (fail)
  generalize w16.alloc (.cells #[.int .u64 dr, .slice ka4 kn4 kc4, .slice va4 vn4 vc4, .slice ta4 tn4 tc4, .bool dcl] 30) = w17 at hD hSd hB7 hRa hRx ⊢
  obtain ⟨d0, d1, d2, d3, d4⟩ := hD.five
  obtain ⟨s0, s1', s2', s3, s4⟩ := hB7.cb.five
  have HB := Lib.hid hB7
  have HRa := Lib.hid hRa
  have HRx := Lib.hid hRx
  have HSd := Lib.hid hSd
  clear hB7 hRa hRx hSd hD
  dsimp only [sc] at *
  rcases HCs.out with rfl | ⟨rfl, hxr⟩
  · clear HCs d0 d1 d2 d3 d4 s0 s1' s2' s3 s4
    refine wp_region_held_drew (S := fun w' => Ext w17 w') (by kernel_rfl) (Ext.drew (Ext.refl w17)) (fun hHeld => ?_)
    refine wpAnyH_take (i := 0) (v := .bool false) rfl (by kernel_rfl) (by kernel_rfl) (by kernel_rfl) (fun _ _ _ h => h) (Or.inl ⟨by kernel_rfl, ?_⟩) (by assumption) ?_
    · intro w hE
      go_simp
    refine wpAnyH_take (i := 1) (v := .bool false) rfl (by kernel_rfl) (by kernel_rfl) (by kernel_rfl) (fun _ _ _ h => h) (Or.inl ⟨by kernel_rfl, ?_⟩) (by assumption) ?_
    · intro w hE
      go_simp
    refine wpAnyH_take (i := 2) (v := undef) rfl (by kernel_rfl) (by kernel_rfl) (by kernel_rfl) (fun _ _ _ h => h) (Or.inr ⟨by kernel_rfl, rfl⟩) (by assumption) ?_
    refine wpAnyH_take (i := 3) (v := undef) rfl (by kernel_rfl) (by kernel_rfl) (by kernel_rfl) (fun _ _ _ h => h) (Or.inr ⟨by kernel_rfl, rfl⟩) (by assumption) ?_
    refine wpAnyH_take (i := 4) (v := undef) rfl (by kernel_rfl) (by kernel_rfl) (by kernel_rfl) (fun _ _ _ h => h) (Or.inr ⟨by kernel_rfl, rfl⟩) (by assumption) ?_
    refine wpAnyH_take (i := 5) (v := undef) rfl (by kernel_rfl) (by kernel_rfl) (by kernel_rfl) (fun _ _ _ h => h) (Or.inr ⟨by kernel_rfl, rfl⟩) (by assumption) ?_
    refine wpAnyH_take (i := 6) (v := undef) rfl (by kernel_rfl) (by kernel_rfl) (by kernel_rfl) (fun _ _ _ h => h) (Or.inr ⟨by kernel_rfl, rfl⟩) (by assumption) ?_
    refine wpAnyH_take (i := 7) (v := undef) rfl (by kernel_rfl) (by kernel_rfl) (by kernel_rfl) (fun _ _ _ h => h) (Or.inr ⟨by kernel_rfl, rfl⟩) (by assumption) ?_
    refine wpAnyH_take (i := 8) (v := undef) rfl (by kernel_rfl) (by kernel_rfl) (by kernel_rfl) (fun _ _ _ h => h) (Or.inr ⟨by kernel_rfl, rfl⟩) (by assumption) ?_
    refine wpAnyH_take (i := 9) (v := undef) rfl (by kernel_rfl) (by kernel_rfl) (by kernel_rfl) (fun _ _ _ h => h) (Or.inr ⟨by kernel_rfl, rfl⟩) (by assumption) ?_
    refine wpAnyH_take (i := 10) (v := undef) rfl (by kernel_rfl) (by kernel_rfl) (by kernel_rfl) (fun _ _ _ h => h) (Or.inr ⟨by kernel_rfl, rfl⟩) (by assumption) ?_
    refine wpAnyH_take (i := 11) (v := undef) rfl (by kernel_rfl) (by kernel_rfl) (by kernel_rfl) (fun _ _ _ h => h) (Or.inr ⟨by kernel_rfl, rfl⟩) (by assumption) ?_
    refine wpAnyH_take (i := 12) (v := undef) rfl (by kernel_rfl) (by kernel_rfl) (by kernel_rfl) (fun _ _ _ h => h) (Or.inr ⟨by kernel_rfl, rfl⟩) (by assumption) ?_
    refine wpAnyH_take (i := 13) (v := undef) rfl (by kernel_rfl) (by kernel_rfl) (by kernel_rfl) (fun _ _ _ h => h) (Or.inr ⟨by kernel_rfl, rfl⟩) (by assumption) ?_
    refine wpAnyH_take (i := 14) (v := undef) rfl (by kernel_rfl) (by kernel_rfl) (by kernel_rfl) (fun _ _ _ h => h) (Or.inr ⟨by kernel_rfl, rfl⟩) (by assumption) ?_
    refine wpAnyH_take (i := 15) (v := .bool false) rfl (by kernel_rfl) (by kernel_rfl) (by kernel_rfl) (fun _ _ _ h => h) (Or.inl ⟨by kernel_rfl, ?_⟩) (by assumption) ?_
    · intro w hE
      go_simp
    refine wpAnyH_done (by kernel_rfl) ?_ _
    go_simp
    have hB8 := HB.out.ext hHeld
    have hPr := probe_any k p m aa an ac _ _ (HRa.out.ext hHeld)
    rw [out_over hB8.r] at hPr
    obtain ⟨c0, c1, c2⟩ := hB8.cc.three
    have HPr := Lib.hid hPr
    have HEz := Lib.hid hB8.e
    clear hPr hB8 HB HRa HRx HSd hHeld
    dsimp only [cf, AE, zeroC] at *
    go_wp2_with (fail)
    refine HPr.out.mono ?_
    rintro e w20 ⟨rfl, e20⟩
    have HEw := Lib.hid ((HEz.out.trans e20).alloc (.cells #[.int .i64 0, .int .u64 0, .int .u64 0] 32))
    clear HPr HEz e20 c0 c1 c2
    go_wp2_with (fail)
    go_ret
    exact ⟨rfl, HEw.out⟩
  · clear HCs
    obtain ⟨r, hr⟩ : ∃ r, RowKit.Hid (r = decide ((⟨dr, dk, dv, dt, dcl⟩ : St) = ⟨sr, sk, su, sw, scl⟩)) := ⟨_, Lib.hid rfl⟩
    rw [← hr.out] at hxr
    obtain ⟨⟨_, _⟩, e, _, b2, o2, es2, x0, x1⟩ := HRx.out.get hK
    cases es2
    obtain ⟨⟨_, _⟩, e3, _, b3, o3, es3, a0, a1⟩ := HRa.out.get hK
    subst es3
    have hl3 : K < (outS k ⟨sr, sk, su, sw, scl⟩).length := by rw [HRa.out.len]; exact hK
    rw [List.getElem?_set_self hl3] at e
    cases e
    cases HYy.out.symm.trans e3
    clear e3
    simp only [Nat.zero_add] at x0 x1
    refine wp_region_held_drew (S := fun w' => Ext w17 w') (by kernel_rfl) (Ext.drew (Ext.refl w17)) (fun hHeld => ?_)
    refine wpAnyH_take (i := 0) (v := .bool true) rfl (by kernel_rfl) (by kernel_rfl) (by kernel_rfl) (fun _ _ _ h => h) (Or.inl ⟨by kernel_rfl, ?_⟩) (by assumption) ?_
    · intro w hE
      go_simp
    refine wpAnyH_take (i := 1) (v := .bool true) rfl (by kernel_rfl) (by kernel_rfl) (by kernel_rfl) (fun _ _ _ h => h) (Or.inl ⟨by kernel_rfl, ?_⟩) (by assumption) ?_
    · intro w hE
      go_simp
    refine wpAnyH_take (i := 2) (v := .agg #[.int .u64 dr, .slice ka4 kn4 kc4, .slice va4 vn4 vc4, .slice ta4 tn4 tc4, .bool dcl]) rfl (by kernel_rfl) (by kernel_rfl) (by kernel_rfl) (fun _ _ _ h => h) (Or.inl ⟨by kernel_rfl, ?_⟩) (by assumption) ?_
    · intro w hE
      have q0 := hE.cell d0
      have q1 := hE.cell d1
      have q2 := hE.cell d2
      have q3 := hE.cell d3
      have q4 := hE.cell d4
      go_simp
    refine wpAnyH_take (i := 3) (v := .agg #[.int .u64 sr, .slice ka kn kc, .slice va vn vc, .slice ta tn tc, .bool scl]) rfl (by kernel_rfl) (by kernel_rfl) (by kernel_rfl) (fun _ _ _ h => h) (Or.inl ⟨by kernel_rfl, ?_⟩) (by assumption) ?_
    · intro w hE
      have q0 := hE.cell s0
      have q1 := hE.cell s1'
      have q2 := hE.cell s2'
      have q3 := hE.cell s3
      have q4 := hE.cell s4
      go_simp
    refine wpAnyH_take (i := 5) (v := .slice (some ⟨g, 0, none⟩) an cA) rfl (by kernel_rfl) (by kernel_rfl) (by kernel_rfl) (fun _ _ _ h => h) (Or.inl ⟨by kernel_rfl, ?_⟩) (by assumption) ?_
    · intro w hE
      go_simp
    refine wpAnyH_take (i := 6) (v := .int .i64 (K : Int)) rfl (by kernel_rfl) (by kernel_rfl) (by kernel_rfl) (fun _ _ _ h => h) (Or.inl ⟨by kernel_rfl, ?_⟩) (by assumption) ?_
    · intro w hE
      go_simp
    refine wpAnyH_take (i := 7) (v := .pointer (some ⟨g, K * 2, none⟩)) rfl (by kernel_rfl) (by kernel_rfl) (by kernel_rfl) (fun _ _ _ h => h) (Or.inl ⟨by kernel_rfl, ?_⟩) (by assumption) ?_
    · intro w hE
      go_simp
    refine wpAnyH_take (i := 8) (v := .agg #[.int .i64 y1', .int .u64 x]) rfl (by kernel_rfl) (by kernel_rfl) (by kernel_rfl) (fun _ _ _ h => h) (Or.inl ⟨by kernel_rfl, ?_⟩) (by assumption) ?_
    · intro w hE
      have q0 := hE.cell x0
      have q1 := hE.cell x1
      go_simp
    refine wpAnyH_take (i := 9) (v := .slice (some ⟨b3, o3, none⟩) an ac) rfl (by kernel_rfl) (by kernel_rfl) (by kernel_rfl) (fun _ _ _ h => h) (Or.inl ⟨by kernel_rfl, ?_⟩) (by assumption) ?_
    · intro w hE
      go_simp
    refine wpAnyH_take (i := 10) (v := .int .i64 (K : Int)) rfl (by kernel_rfl) (by kernel_rfl) (by kernel_rfl) (fun _ _ _ h => h) (Or.inl ⟨by kernel_rfl, ?_⟩) (by assumption) ?_
    · intro w hE
      go_simp
    refine wpAnyH_take (i := 11) (v := .pointer (some ⟨b3, o3 + K * 2, none⟩)) rfl (by kernel_rfl) (by kernel_rfl) (by kernel_rfl) (fun _ _ _ h => h) (Or.inl ⟨by kernel_rfl, ?_⟩) (by assumption) ?_
    · intro w hE
      go_simp
    refine wpAnyH_take (i := 12) (v := .agg #[.int .i64 y1', .int .u64 y2']) rfl (by kernel_rfl) (by kernel_rfl) (by kernel_rfl) (fun _ _ _ h => h) (Or.inl ⟨by kernel_rfl, ?_⟩) (by assumption) ?_
    · intro w hE
      have q0 := hE.cell a0
      have q1 := hE.cell a1
      go_simp
    refine wpAnyH_take (i := 13) (v := .bool r) rfl (by kernel_rfl) (by kernel_rfl) (by kernel_rfl) (fun _ _ _ h => h) (Or.inl ⟨by kernel_rfl, ?_⟩) (by assumption) ?_
    · intro w hE
      go_simp
      cases r <;> rfl
    refine wpAnyH_ready (rs := [4]) (by kernel_rfl) (by simp) ?_
    refine AllReadyH.cons rfl (fun K hK => ?_) AllReadyH.nil
    go_simp
    refine (same_any ⟨ka4, kn4, kc4⟩ ⟨va4, vn4, vc4⟩ ⟨ta4, tn4, tc4⟩ ⟨ka, kn, kc⟩ ⟨va, vn, vc⟩ ⟨ta, tn, tc⟩ ⟨dr, dk, dv, dt, dcl⟩ ⟨sr, sk, su, sw, scl⟩ r _ (HSd.out.ext (by assumption)) (HB.out.ss.ext (by assumption)) hr).mono ?_
    rintro e w18 ⟨rfl, e18⟩
    refine hK.out _ _ (Ext.trans (by assumption) e18) (fun hHeld => ?_)
    clear hK K
    refine wpAnyH_take (i := 14) (v := .bool false) rfl (by kernel_rfl) (by kernel_rfl) (by kernel_rfl) (fun _ _ _ h => h) (Or.inl ⟨by kernel_rfl, ?_⟩) (by assumption) ?_
    · intro w hE
      go_simp
    refine wpAnyH_take (i := 15) (v := .bool false) rfl (by kernel_rfl) (by kernel_rfl) (by kernel_rfl) (fun _ _ _ h => h) (Or.inl ⟨by kernel_rfl, ?_⟩) (by assumption) ?_
    · intro w hE
      go_simp
    clear hr hxr x0 x1 a0 a1 d0 d1 d2 d3 d4 s0 s1' s2' s3 s4
    refine wpAnyH_done (by kernel_rfl) ?_ _
    go_simp
    have hB8 := HB.out.ext hHeld
    have hPr := probe_any k p m (some ⟨b3, o3, none⟩) an ac _ _ (HRa.out.ext hHeld)
    rw [out_over hB8.r] at hPr
    obtain ⟨c0, c1, c2⟩ := hB8.cc.three
    have HPr := Lib.hid hPr
    have HEz := Lib.hid hB8.e
    clear hPr hB8 HB HRa HRx HSd hHeld
    dsimp only [cf, AE, zeroC] at *
    go_wp2_with (fail)
    refine HPr.out.mono ?_
    rintro e w20 ⟨rfl, e20⟩
    have HEw := Lib.hid ((HEz.out.trans e20).alloc (.cells #[.int .i64 0, .int .u64 0, .int .u64 0] 32))
    clear HPr HEz e20 c0 c1 c2
    go_wp2_with (fail)
    go_ret
    exact ⟨rfl, HEw.out⟩

end Go.Proofs.YtdipddnnckfnmaaGreat.Law

/- AutoSeen:
  AutoSeen: for every input the law returns true, and each argument reads behind the call as it read before. No condition.
-/
namespace Go.Proofs.YtdipddnnckfnmaaGreat.autoSeen
open Go.ChangeShapes Go.WideShapes Go.ChangeAt Go.RowKit Go.Joins Go.Deep

set_option maxRecDepth 100000 in
theorem lifted (os : Os) (started : os.Started) (H : Type) (enc : TypeId × Value → H) :
    ReturnsInHanded {} Tryz.checked os 5 .any (Rows.autoSeenSpec.pre6 enc Tryz.prog Tryz.f5 Rows.autoSeenRow.domain false) (Rows.autoSeenSpec.post enc Tryz.prog Tryz.f5 false true false false) := by
  refine returnsInHanded_of_change (C := Tryz.checked) Law.own started (by kernel_rfl) Tryz.func5
    (ChangeSpec.witness6 (enc := enc) (C := Tryz.checked) false ⟨#[], #[.agg #[.int .i64 0, .int .i64 0, .int .i64 0], .slice none 0 0, .slice none 0 0, .int .i64 0, .int .u64 0], []⟩ 8 (by kernel_rfl) (by kernel_rfl) (by kernel_rfl) (by kernel_rfl)) ?_
  intro W base args ds gs before hval0 hW hcnd _
  have hval : ∀ (j : Nat) t v, Tryz.f5.params[j]? = some t → args[j]? = some v → Value.okWide Tryz.prog W .any base t v := hval0
  have hW' := hW
  obtain ⟨p, q, hA0, hV, rfl, hfz, hnd⟩ := hW
  have hA : DataW.TrodAll enc Tryz.prog W 0 (fun _ => true) true Tryz.f5.params.toList args.toList ds p := hA0
  rw [Tryz.params5] at hA hval
  obtain ⟨v0, vs0, d0, ds0, p0, q0, hargs, rfl, rfl, h0, r0⟩ := trodAll_cons hA
  obtain ⟨v1, vs1, d1, ds1, p1, q1, rfl, rfl, rfl, h1, r1⟩ := trodAll_cons r0
  obtain ⟨v2, vs2, d2, ds2, p2, q2, rfl, rfl, rfl, h2, r2⟩ := trodAll_cons r1
  obtain ⟨v3, vs3, d3, ds3, p3, q3, rfl, rfl, rfl, h3, r3⟩ := trodAll_cons r2
  obtain ⟨v4, vs4, d4, ds4, p4, q4, rfl, rfl, rfl, h4, r4⟩ := trodAll_cons r3
  obtain ⟨rfl, rfl, rfl⟩ := trodAll_nil r4
  obtain rfl : args = #[v0, v1, v2, v3, v4] := by cases args; simp_all
  obtain ⟨a0, b0, c0, rfl, x0, y0, z0⟩ := Law.open_trip (hval 0 22 v0 rfl rfl) h0
  obtain ⟨s1, n1, c1, rfl, k1⟩ := Law.open_ts (hval 1 25 v1 rfl rfl) h1
  obtain ⟨s2, n2, c2, rfl, k2⟩ := Law.open_ts (hval 2 25 v2 rfl rfl) h2
  obtain ⟨a3, rfl, _, _, w3⟩ := open_int Tryz.underlying3 (hval 3 3 v3 rfl rfl) h3
  obtain ⟨a4, rfl, _, _, w4⟩ := open_int Tryz.underlying26 (hval 4 26 v4 rfl rfl) h4
  refine (Law.seen_walk a0 b0 c0 a3 a4 s1 s2 n1 n2 c1 c2 W x0 y0 z0 k1 k2 (Law.i64_of w3) (Law.u64_of w4)).mono fun e W' ⟨he, hg⟩ => ?_
  subst he
  exact ⟨_, rfl, Law.told hW' rfl rfl rfl (by kernel_rfl) hg⟩

theorem over : Rows.autoSeenRow.holds Tryz.pinned (OpenSpec.ofChange Rows.autoSeenSpec) :=
  OpenClaim.holds_of_wide 5 Tryz.f5 rfl rfl rfl rfl rfl rfl rfl ⟨rfl, rfl, rfl, rfl, rfl⟩ rfl rfl rfl rfl rfl (by kernel_rfl) Tryz.func5 (by kernel_rfl)
    (of_decide_eq_true (by kernel_rfl)) (by unfold Func.isWrapper; first | (rw [if_pos (by decide +kernel)]; kernel_rfl) | (rw [if_neg (by decide +kernel)]; exact ⟨rfl, rfl⟩))
    (fun os started H enc _ => lifted os started H enc)

end Go.Proofs.YtdipddnnckfnmaaGreat.autoSeen

namespace Go.Proofs.YtdipddnnckfnmaaGreat
theorem autoSeen_holds : Rows.AutoSeenSaid := autoSeen.over
end Go.Proofs.YtdipddnnckfnmaaGreat

