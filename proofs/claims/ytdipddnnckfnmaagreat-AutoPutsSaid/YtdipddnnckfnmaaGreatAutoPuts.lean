/-
  AutoPuts: for every input the law returns true, and each argument reads behind the call as it read before. No condition.
-/
import Derived.Test.YtdipddnnckfnmaaGreatM25
import Derived.ProofKit
/- LawKept:
  AutoKept: the walk. Conditions: integers' bounds; the raw calls can be read.
-/
namespace Go.Proofs.YtdipddnnckfnmaaGreat.Law
open Go.RowKit (Below intOf)
open Go.Proofs.YtdipddnnckfnmaaGreat.Aut
open Go.Proofs.YtdipddnnckfnmaaGreat.Lan (DoE DoE2 opv new_any do_all do_all2 right_any reads_is)
open Go.Proofs.YtdipddnnckfnmaaGreat.Reg (cf bx fits_any)

def kpDeps : Nat → List Nat := fun _ => []
def kpSlots : Nat → Option Tmp := fun i => match i with | 6 => some 39 | 7 => some 13 | _ => none
def KpF (wr : World) : Nat → (Nat → Value) → World → Prop := fun i vs w' => match i with
  | 6 => ∃ oo, Wc oo ∧ vs 6 = ov oo
  | 7 => ∃ B : Nat, vs 7 = .pointer (some ⟨B, 0, none⟩) ∧ wr.heap.size ≤ B ∧ Cb w' B [.int .i64 0, .int .u64 0, .int .u64 0]
  | _ => True
theorem kpF_loc {wr : World} : ∀ i vs vs' w, (∀ j, j = i ∨ j ∈ kpDeps i → vs j = vs' j) → KpF wr i vs w → KpF wr i vs' w := by
  intro i vs vs' w h hF
  unfold KpF at hF ⊢
  split at hF
  · obtain ⟨oo, h1, h2⟩ := hF; exact ⟨oo, h1, (h 6 (.inl rfl)).symm.trans h2⟩
  · obtain ⟨B, h1, h2⟩ := hF; exact ⟨B, (h 7 (.inl rfl)).symm.trans h1, h2⟩
  · trivial
theorem kpF_stab {wr : World} : ∀ i vs w w', Ext w w' → KpF wr i vs w → KpF wr i vs w' := by
  intro i vs w w' h hF
  unfold KpF at hF ⊢
  split at hF
  · exact hF
  · obtain ⟨B, h1, h2, h3⟩ := hF; exact ⟨B, h1, h2, h3.ext h⟩
  · trivial
/-- What a round finds. -/
def KpL (k p m : Int) (w wr : World) (C S : Nat) : Prop := ∃ (s : St) (a v t : Sl), rightS k p m s = true ∧ SS wr a v t s ∧ OffS a v t S ∧ Cb wr S (sc s.reg a v t s.closed) ∧ Cb wr C [.int .i64 k, .int .i64 p, .int .i64 m] ∧ Ext w wr
/-- What lies there behind a round's call. -/
structure KpR (k p m : Int) (w wr w7 w10 : World) (C S B T : Nat) (d : St) (a v t : Sl) (s : St) (a' v' t' : Sl) (oc ok ol d2 d3 : Int) : Prop where
  c14 : Cb w10 T (sc d.reg a v t d.closed)
  c15 : Cb w10 (T + 1) [.int .i64 d2, .int .u64 d3]
  cc : Cb w10 C [.int .i64 k, .int .i64 p, .int .i64 m]
  cb : Cb w10 S (sc s.reg a' v' t' s.closed)
  co : Cb w10 B [.int .i64 oc, .int .u64 ok, .int .u64 ol]
  sd : SS w10 a v t d
  ss : SS w10 a' v' t' s
  o : OffS a v t S
  r : rightS k p m d = true
  e : Ext w w10
theorem KpR.ext {k p m : Int} {w wr w7 w10 w11 : World} {C S B T : Nat} {d : St} {a v t : Sl} {s : St} {a' v' t' : Sl} {oc ok ol d2 d3 : Int} (h : KpR k p m w wr w7 w10 C S B T d a v t s a' v' t' oc ok ol d2 d3) (e : Ext w10 w11) : KpR k p m w wr w7 w11 C S B T d a v t s a' v' t' oc ok ol d2 d3 :=
  ⟨h.c14.ext e, h.c15.ext e, h.cc.ext e, h.cb.ext e, h.co.ext e, h.sd.ext e, h.ss.ext e, h.o, h.r, h.e.trans e⟩
theorem KpR.store {k p m : Int} {w wr w7 w10 : World} {C S B T : Nat} {d : St} {a v t : Sl} {s : St} {a' v' t' : Sl} {oc ok ol d2 d3 : Int} (h : KpR k p m w wr w7 w10 C S B T d a v t s a' v' t' oc ok ol d2 d3) (hw : w.heap.size ≤ S) (hC : C ≠ S) :
    KpL k p m w (((((w10.setCell ⟨S, 0, none⟩ (.int .u64 d.reg)).setCell ⟨S, 1, none⟩ (.slice a.a a.n a.c)).setCell ⟨S, 2, none⟩ (.slice v.a v.n v.c)).setCell ⟨S, 3, none⟩ (.slice t.a t.n t.c)).setCell ⟨S, 4, none⟩ (.bool d.closed)) C S :=
  ⟨d, a, v, t, h.r, ((((h.sd.set h.o _ _).set h.o _ _).set h.o _ _).set h.o _ _).set h.o _ _, h.o, h.cb.st _ _ _ _ _, ((((h.cc.far hC _ _).far hC _ _).far hC _ _).far hC _ _).far hC _ _, ((((h.e.setCell hw _).setCell hw _).setCell hw _).setCell hw _).setCell hw _⟩
theorem kp_cases {s d : St} {d2 d3 : Int} {r : Bool} (h : Errs s (d, d2, d3)) (hr : r = true → d = s) : (d2 ≠ 0 ∧ d3 = 0 ∧ d = s) ∨ (d2 = 0 ∧ r = true ∧ d = s) ∨ (d2 = 0 ∧ r = false) := by
  by_cases h2 : d2 = 0
  · cases r with
    | true => exact .inr (.inl ⟨h2, rfl, hr rfl⟩)
    | false => exact .inr (.inr ⟨h2, rfl⟩)
  · obtain ⟨h3, h4⟩ := h h2
    exact .inl ⟨h2, h4, h3⟩
theorem conf_fits (a b c : Int) : fits (1 + pickZ a 5) (1 + pickZ b 16) (1 + pickZ c 12) = true := by
  have a0 := pick_ge a (n := 5) (by decide)
  have a1 := pick_lt a (n := 5) (by decide)
  have b0 := pick_ge b (n := 16) (by decide)
  have b1 := pick_lt b (n := 16) (by decide)
  have c0 := pick_ge c (n := 12) (by decide)
  have c1 := pick_lt c (n := 12) (by decide)
  unfold fits Reg.fits
  simp
  omega
set_option maxHeartbeats 16000000 in
set_option maxRecDepth 100000 in
theorem kept_walk (a b c x : Int) (s1 s2 : Option Addr) (n1 n2 c1' c2' : Nat) (w : World) (ha : I64 a) (hb : I64 b) (hc : I64 c) (hT1 : TS w s1 n1) (hT2 : TS w s2 n2) (hx : U64 x) :
    Calls Tryz.prog 4 #[.agg #[.int .i64 a, .int .i64 b, .int .i64 c], .slice s1 n1 c1', .slice s2 n2 c2', .int .u64 x] w fun e w' => e = .returned (.bool true) ∧ Ext w w' := by
  have HA := Lib.hid (fun W => awake_any do_all W)
  have HCo := Lib.hid (fun W => conf_any a b c W ha hb hc)
  have hfit := conf_fits a b c
  generalize 1 + pickZ a 5 = k at *
  generalize 1 + pickZ b 16 = p at *
  generalize 1 + pickZ c 12 = m at *
  have HF := Lib.hid hfit
  have HTS := Lib.hid hT2
  have HT1 := Lib.hid hT1
  have HU := Lib.hid hx
  have b0 : Cb (w.alloc (.cells #[.int .i64 a, .int .i64 b, .int .i64 c] 22)) w.heap.size [.int .i64 a, .int .i64 b, .int .i64 c] := Cb.new w _ _
  have HB0 := Lib.hid b0
  have HX0 := Lib.hid (Ext.new w (.cells #[.int .i64 a, .int .i64 b, .int .i64 c] 22))
  clear b0 hfit hT1 hT2 hx ha hb hc
  dsimp only [cf] at *
  go_enter Tryz.func4, Tryz.ntmps4
  go_wp2_with (fail)
  refine (HA.out _).mono ?_
  rintro e w1 ⟨rfl, e1⟩
  have HX1 := Lib.hid (HX0.out.trans e1)
  obtain ⟨i0, i1, i2⟩ := (HB0.out.ext e1).three
  clear HB0 HX0 HA e1
  go_wp2_with (fail)
  refine (HCo.out _).mono ?_
  rintro e w2 ⟨rfl, e2⟩
  have HX2 := Lib.hid (HX1.out.trans e2)
  clear HCo HX1 e2 i0 i1 i2
  have C2 : Cb (w2.alloc (.cells #[.int .i64 k, .int .i64 p, .int .i64 m] 24)) w2.heap.size [.int .i64 k, .int .i64 p, .int .i64 m] := Cb.new w2 _ _
  obtain ⟨c0, c1, c2⟩ := C2.three
  have HC2 := Lib.hid C2
  have HXa := Lib.hid (HX2.out.alloc (.cells #[.int .i64 k, .int .i64 p, .int .i64 m] 24))
  have HSt := Lib.hid (state_any s1 n1 c1' (w2.alloc (.cells #[.int .i64 k, .int .i64 p, .int .i64 m] 24)) HF.out (HT1.out.ext HXa.out))
  clear C2
  dsimp only [cf] at *
  go_wp2_with (fail)
  refine HSt.out.mono ?_
  rintro e w3 ⟨⟨sr, sk, su, sw, scl⟩, hR3, ⟨ka, kn, kc⟩, ⟨va, vn, vc⟩, ⟨ta, tn, tc⟩, rfl, S3, e3⟩
  have hw2 : w.heap.size ≤ w2.heap.size := HX2.out.size
  have hw3 : w2.heap.size + 1 ≤ w3.heap.size := by have := e3.size; simpa only [World.size_alloc] using this
  dsimp only [sv] at *
  have HL0 : RowKit.Hid (KpL k p m w (w3.alloc (.cells #[.int .u64 sr, .slice ka kn kc, .slice va vn vc, .slice ta tn tc, .bool scl] 30)) w2.heap.size w3.heap.size) := Lib.hid
    ⟨⟨sr, sk, su, sw, scl⟩, ⟨ka, kn, kc⟩, ⟨va, vn, vc⟩, ⟨ta, tn, tc⟩, hR3, S3.ext (Ext.new _ _), S3.off (Nat.le_refl _), Cb.new w3 _ _, (HC2.out.ext e3).alloc _, (HXa.out.trans e3).alloc _⟩
  clear HSt HC2 HXa HX2 S3 e3 hR3 c0 c1 c2
  go_wp2_with (fail)
  go_loopw [12] (fun iv wr => ∃ i : Nat, iv = .int .i64 i ∧ i ≤ 12 ∧ KpL k p m w wr w2.heap.size w3.heap.size) (fun iv _ => 12 - (intOf iv).toNat)
  case atStart => exact ⟨0, rfl, by omega, HL0.out⟩
  case round =>
    obtain ⟨i, rfl, hi12, ⟨sr, sk, su, sw, scl⟩, ⟨ka4, kn4, kc4⟩, ⟨va4, vn4, vc4⟩, ⟨ta4, tn4, tc4⟩, hR, hS, hO, hB, hC, hE⟩ := hrel
    clear HL0
    have HR := Lib.hid hR
    have HS := Lib.hid hS
    have HB := Lib.hid hB
    have HC := Lib.hid hC
    have HE := Lib.hid hE
    by_cases hin : i < n2 ∧ i < 12
    · obtain ⟨hin, hi3⟩ := hin
      obtain ⟨rx, ry, rz, ux, uy, uz, b, o, esl, cx, cy, cz⟩ := HTS.out.2 i hin
      subst esl
      have hii : (i : Int) < n2 := by omega
      have hi3i : (i : Int) < 12 := by omega
      have HOp := Lib.hid (fun W => op_any rx ry rz x W HF.out ux uy uz HU.out)
      have hdo : RowKit.Hid (∀ o, doF k p m ⟨sr, sk, su, sw, scl⟩ o = ((doS k m ⟨sr, sk, su, sw, scl⟩ o).1, (doS k m ⟨sr, sk, su, sw, scl⟩ o).2, 0)) := Lib.hid (fun o => by unfold doF; rw [if_pos HF.out, if_pos hR])
      have cx2 := hE.cell cx
      have cy2 := hE.cell cy
      have cz2 := hE.cell cz
      obtain ⟨c0, c1, c2⟩ := hC.three
      clear hO hR hS hB hC hE cx cy cz ux uy uz
      go_wp2_with (fail)
      refine wp_region_held_drew (S := fun w' => Ext wr w') (by kernel_rfl) (Ext.drew (Ext.refl wr)) (fun hHeld => ?_)
      refine wpAnyH_take (i := 0) (v := .agg #[.int .i64 k, .int .i64 p, .int .i64 m]) rfl (by kernel_rfl) (by kernel_rfl) (by kernel_rfl) (fun _ _ _ h => h) (Or.inl ⟨by kernel_rfl, ?_⟩) (by assumption) ?_
      · intro w hE
        have q0 := hE.cell c0
        have q1 := hE.cell c1
        have q2 := hE.cell c2
        go_simp
      refine wpAnyH_take (i := 1) (v := .slice (some ⟨b, o, none⟩) n2 c2') rfl (by kernel_rfl) (by kernel_rfl) (by kernel_rfl) (fun _ _ _ h => h) (Or.inl ⟨by kernel_rfl, ?_⟩) (by assumption) ?_
      · intro w hE
        go_simp
      refine wpAnyH_take (i := 2) (v := .int .i64 (i : Int)) rfl (by kernel_rfl) (by kernel_rfl) (by kernel_rfl) (fun _ _ _ h => h) (Or.inl ⟨by kernel_rfl, ?_⟩) (by assumption) ?_
      · intro w hE
        go_simp
      refine wpAnyH_take (i := 3) (v := .pointer (some ⟨b, o + i * 3, none⟩)) rfl (by kernel_rfl) (by kernel_rfl) (by kernel_rfl) (fun _ _ _ h => h) (Or.inl ⟨by kernel_rfl, ?_⟩) (by assumption) ?_
      · intro w hE
        go_simp
      refine wpAnyH_take (i := 4) (v := .agg #[.int .i64 rx, .int .i64 ry, .int .i64 rz]) rfl (by kernel_rfl) (by kernel_rfl) (by kernel_rfl) (fun _ _ _ h => h) (Or.inl ⟨by kernel_rfl, ?_⟩) (by assumption) ?_
      · intro w hE
        have q0 := hE.cell cx2
        have q1 := hE.cell cy2
        have q2 := hE.cell cz2
        go_simp
      refine wpAnyH_take (i := 5) (v := .int .u64 x) rfl (by kernel_rfl) (by kernel_rfl) (by kernel_rfl) (fun _ _ _ h => h) (Or.inl ⟨by kernel_rfl, ?_⟩) (by assumption) ?_
      · intro w hE
        go_simp
      clear c0 c1 c2 cx2 cy2 cz2
      refine Par.wpAnyH_par (fuel := 1) [6, 7] [] kpDeps kpSlots (KpF wr) (fun _ _ _ => True) Ext rfl (by kernel_rfl) (by kernel_rfl) (by kernel_rfl) (fun _ _ _ _ _ h => h) Ext.refl (fun _ _ _ h g => Ext.trans h g) kpF_loc kpF_stab (fun _ _ _ _ _ _ _ => trivial) (by assumption) (fun _ h => by cases h) ?_ ?_
      · refine List.forall_mem_cons.2 ⟨?_, List.forall_mem_cons.2 ⟨?_, fun _ h => by cases h⟩⟩
        · intro _ done vs w5 hn hS5 hR5 hd hF
          simp only [kpDeps, Par.putAll_nil]
          refine Par.step_of rfl (fun K hK => ?_)
          go_simp
          refine (HOp.out _).mono ?_
          rintro e w6 ⟨oo, ho, rfl, e6⟩
          exact hK.out _ _ ⟨ov oo, by kernel_rfl, hS5.trans e6, e6, ⟨oo, ho, rfl⟩, fun _ _ => trivial⟩
        · intro _ done vs w5 hn hS5 hR5 hd hF
          simp only [kpDeps, Par.putAll_nil]
          refine Par.step_of rfl (fun K hK => ?_)
          go_simp
          exact hK.out _ _ ⟨_, by kernel_rfl, hS5.alloc _, Ext.new _ _, ⟨w5.heap.size, rfl, hS5.size, Cb.new w5 _ _⟩, fun _ _ => trivial⟩
      intro vs w5 hS5 hR5 hF hXX
      obtain ⟨⟨oc, ok, ol⟩, ho, e6⟩ := hF 6 (by decide)
      obtain ⟨B, e7, g7, C7⟩ := hF 7 (by decide)
      simp only [Par.putAll_nil, Par.putAll_some, kpSlots]
      simp only [e6, e7]
      clear hF hXX e6 e7
      obtain ⟨z0, z1, z2⟩ := C7.three
      have y0 := C7.f 0
      have y1 := C7.f 1
      have y2 := C7.f 2
      have hC7 := ((C7.upd (i := 0) (by simp) (.int .i64 oc)).upd (i := 1) (by simp) (.int .u64 ok)).upd (i := 2) (by simp) (.int .u64 ol)
      have hE7 := ((hS5.setCell g7 (.int .i64 oc) (o := 0)).setCell g7 (.int .u64 ok) (o := 1)).setCell g7 (.int .u64 ol) (o := 2)
      have HH := Lib.hid (And.intro hC7 hE7)
      clear hC7 hE7 C7 hS5 hR5 hHeld
      dsimp only [ov] at *
      refine wpAnyH_ready (rs := [8]) (by kernel_rfl) (by simp) ?_
      refine AllReadyH.cons rfl (fun K hK => ?_) AllReadyH.nil
      go_simp
      refine hK.out _ _ HH.out.2 (fun hHeld => ?_)
      clear hK K z0 z1 z2 y0 y1 y2 hHeld
      refine wpAnyH_done (by kernel_rfl) ?_ _
      obtain ⟨hC7, hE7⟩ := HH.out
      clear HH
      generalize ((w5.setCell ⟨B, 0, none⟩ (.int .i64 oc)).setCell ⟨B, 1, none⟩ (.int .u64 ok)).setCell ⟨B, 2, none⟩ (.int .u64 ol) = w7 at hC7 hE7 ⊢
      have hC7' : Cb w7 B [.int .i64 oc, .int .u64 ok, .int .u64 ol] := hC7
      obtain ⟨o0, o1, o2⟩ := hC7'.three
      obtain ⟨c0, c1, c2⟩ := (HC.out.ext hE7).three
      obtain ⟨s0, s1, s2, s3, s4⟩ := (HB.out.ext hE7).five
      have HD7 := do_all2 k p m ⟨ka4, kn4, kc4⟩ ⟨va4, vn4, vc4⟩ ⟨ta4, tn4, tc4⟩ ⟨sr, sk, su, sw, scl⟩ ⟨oc, ok, ol⟩ w7 (HS.out.ext hE7) ho
      rw [hdo.out ⟨oc, ok, ol⟩] at HD7
      obtain ⟨hRd, hWd⟩ := do_right HR.out HS.out.wd ⟨oc, ok, ol⟩ ho
      have hEr := do_errs k m ⟨sr, sk, su, sw, scl⟩ ⟨oc, ok, ol⟩
      have hRe : readsS oc = true → (doS k m ⟨sr, sk, su, sw, scl⟩ ⟨oc, ok, ol⟩).1 = ⟨sr, sk, su, sw, scl⟩ := fun h => do_reads (o := ⟨oc, ok, ol⟩) h
      generalize doS k m ⟨sr, sk, su, sw, scl⟩ ⟨oc, ok, ol⟩ = d at HD7 hRd hWd hEr hRe
      obtain ⟨⟨dr, dk, dv, dt, dc⟩, d2, d3⟩ := d
      have HDo := Lib.hid HD7
      have HRd := Lib.hid hRd
      have HEr := Lib.hid hEr
      have HRe := Lib.hid hRe
      have HO7 := Lib.hid hC7'
      have HE7 := Lib.hid hE7
      have hoc := ho.1
      clear HD7 hRd hWd hEr hRe hC7 hC7' hE7 ho
      dsimp only [sc] at *
      go_wp2_with (fail)
      refine HDo.out.mono ?_
      rintro e w9 ⟨e9, ⟨k6, n6, c6⟩, ⟨p6, q6, r6⟩, ⟨x6, y6, u6⟩, rfl, S9, O9⟩
      clear HDo o0 o1 o2 c0 c1 c2 s0 s1 s2 s3 s4
      dsimp only [sv, rv] at *
      have hlt9 : w3.heap.size < w9.heap.size := ((HB.out.ext HE7.out).ext e9).lt
      have eA := (Ext.new w9 (.cells #[.int .u64 dr, .slice k6 n6 c6, .slice p6 q6 r6, .slice x6 y6 u6, .bool dc] 30)).alloc (.cells #[.int .i64 d2, .int .u64 d3] 51)
      have C14 : Cb ((w9.alloc (.cells #[.int .u64 dr, .slice k6 n6 c6, .slice p6 q6 r6, .slice x6 y6 u6, .bool dc] 30)).alloc (.cells #[.int .i64 d2, .int .u64 d3] 51)) w9.heap.size (sc dr ⟨k6, n6, c6⟩ ⟨p6, q6, r6⟩ ⟨x6, y6, u6⟩ dc) := by repeat (first | ((with_reducible refine Cb.at _ rfl ?_); (simp; done)) | with_reducible refine Cb.alloc ?_ _)
      have C15 : Cb ((w9.alloc (.cells #[.int .u64 dr, .slice k6 n6 c6, .slice p6 q6 r6, .slice x6 y6 u6, .bool dc] 30)).alloc (.cells #[.int .i64 d2, .int .u64 d3] 51)) (w9.heap.size + 1) [.int .i64 d2, .int .u64 d3] := by repeat (first | ((with_reducible refine Cb.at _ rfl ?_); (simp; done)) | with_reducible refine Cb.alloc ?_ _)
      have hE9 := e9.trans eA
      have hC9 := (HC.out.ext HE7.out).ext hE9
      have HRi := Lib.hid (right_any k p m ⟨k6, n6, c6⟩ ⟨p6, q6, r6⟩ ⟨x6, y6, u6⟩ ⟨dr, dk, dv, dt, dc⟩ _ (S9.ext eA))
      rw [HRd.out] at HRi
      obtain ⟨c0, c1, c2⟩ := hC9.three
      obtain ⟨t0, t1, t2, t3, t4⟩ := C14.five
      obtain ⟨r0, r1⟩ := C15.two
      have HX := Lib.hid (And.intro C14 (And.intro C15 (And.intro hC9 (And.intro (S9.ext eA) hE9))))
      have HO9 := Lib.hid O9
      clear eA C14 C15 hE9 hC9 S9 O9 e9
      dsimp only [sc] at *
      have hns : RowKit.Hid (∀ w10, Ext ((w9.alloc (.cells #[.int .u64 dr, .slice k6 n6 c6, .slice p6 q6 r6, .slice x6 y6 u6, .bool dc] 30)).alloc (.cells #[.int .i64 d2, .int .u64 d3] 51)) w10 → KpR k p m w wr w7 w10 w2.heap.size w3.heap.size B w9.heap.size ⟨dr, dk, dv, dt, dc⟩ ⟨k6, n6, c6⟩ ⟨p6, q6, r6⟩ ⟨x6, y6, u6⟩ ⟨sr, sk, su, sw, scl⟩ ⟨ka4, kn4, kc4⟩ ⟨va4, vn4, vc4⟩ ⟨ta4, tn4, tc4⟩ oc ok ol d2 d3) := Lib.hid (fun w10 h => by
        have h7 := (HX.out.2.2.2.2).trans h
        exact ⟨HX.out.1.ext h, HX.out.2.1.ext h, (HC.out.ext HE7.out).ext h7, (HB.out.ext HE7.out).ext h7, HO7.out.ext h7, HX.out.2.2.2.1.ext h, (HS.out.ext HE7.out).ext h7, HO9.out _ (HB.out.ext HE7.out).lt, HRd.out, (HE.out.trans HE7.out).trans h7⟩)
      rcases kp_cases HEr.out HRe.out with ⟨h2, rfl, hs⟩ | ⟨rfl, hr, hs⟩ | ⟨rfl, hr⟩
      · have b2 : (d2 != 0) = true := by simpa using h2
        have HSa := Lib.hid hs
        clear h2 hs
        go_wp2_with (fail)
        refine HRi.out.mono ?_
        rintro e w10 ⟨rfl, e10⟩
        have hK2 := hns.out w10 e10
        clear hns HX HRi e10 c0 c1 c2 t0 t1 t2 t3 t4 r0 r1
        obtain ⟨t0, t1, t2, t3, t4⟩ := hK2.c14.five
        obtain ⟨r0, r1⟩ := hK2.c15.two
        obtain ⟨s0, s1, s2, s3, s4⟩ := hK2.cb.five
        obtain ⟨o0, o1, o2⟩ := hK2.co.three
        have HKs := Lib.hid hK2
        clear hK2
        have HSm := Lib.hid (same_any ⟨ka4, kn4, kc4⟩ ⟨va4, vn4, vc4⟩ ⟨ta4, tn4, tc4⟩ ⟨k6, n6, c6⟩ ⟨p6, q6, r6⟩ ⟨x6, y6, u6⟩ ⟨sr, sk, su, sw, scl⟩ ⟨dr, dk, dv, dt, dc⟩ true w10 HKs.out.ss HKs.out.sd (Lib.hid (decide_eq_true HSa.out.symm).symm))
        go_wp2_with (fail)
        refine HSm.out.mono ?_
        rintro e w11 ⟨rfl, e11⟩
        have hK2 := HKs.out.ext e11
        clear HSm e11 HKs t0 t1 t2 t3 t4 r0 r1 s0 s1 s2 s3 s4 o0 o1 o2
        obtain ⟨t0, t1, t2, t3, t4⟩ := hK2.c14.five
        obtain ⟨s0, s1, s2, s3, s4⟩ := hK2.cb.five
        have f0 := hK2.cb.f 0
        have f1 := hK2.cb.f 1
        have f2 := hK2.cb.f 2
        have f3 := hK2.cb.f 3
        have f4 := hK2.cb.f 4
        have HL := Lib.hid (hK2.store (by omega) (by omega))
        clear hK2
        go_wp2_with (fail)
        go_roundw
        case rel => exact ⟨i + 1, by go_num, by omega, HL.out⟩
        case measure => simp [intOf]; omega
      · have HSa := Lib.hid hs
        have HRr := Lib.hid hr
        clear hs hr
        go_wp2_with (fail)
        refine HRi.out.mono ?_
        rintro e w10 ⟨rfl, e10⟩
        have hK2 := hns.out w10 e10
        clear hns HX HRi e10 c0 c1 c2 t0 t1 t2 t3 t4 r0 r1
        obtain ⟨t0, t1, t2, t3, t4⟩ := hK2.c14.five
        obtain ⟨r0, r1⟩ := hK2.c15.two
        obtain ⟨s0, s1, s2, s3, s4⟩ := hK2.cb.five
        obtain ⟨o0, o1, o2⟩ := hK2.co.three
        have HKs := Lib.hid hK2
        clear hK2
        go_wp2_with (fail)
        refine (reads_is oc _).mono ?_
        rw [HRr.out]
        rintro e w11 ⟨rfl, rfl⟩
        have HSm := Lib.hid (same_any ⟨ka4, kn4, kc4⟩ ⟨va4, vn4, vc4⟩ ⟨ta4, tn4, tc4⟩ ⟨k6, n6, c6⟩ ⟨p6, q6, r6⟩ ⟨x6, y6, u6⟩ ⟨sr, sk, su, sw, scl⟩ ⟨dr, dk, dv, dt, dc⟩ true w10 HKs.out.ss HKs.out.sd (Lib.hid (decide_eq_true HSa.out.symm).symm))
        go_wp2_with (fail)
        refine HSm.out.mono ?_
        rintro e w11 ⟨rfl, e11⟩
        have hK2 := HKs.out.ext e11
        clear HSm e11 HKs t0 t1 t2 t3 t4 r0 r1 s0 s1 s2 s3 s4 o0 o1 o2
        obtain ⟨t0, t1, t2, t3, t4⟩ := hK2.c14.five
        obtain ⟨s0, s1, s2, s3, s4⟩ := hK2.cb.five
        have f0 := hK2.cb.f 0
        have f1 := hK2.cb.f 1
        have f2 := hK2.cb.f 2
        have f3 := hK2.cb.f 3
        have f4 := hK2.cb.f 4
        have HL := Lib.hid (hK2.store (by omega) (by omega))
        clear hK2
        go_wp2_with (fail)
        go_roundw
        case rel => exact ⟨i + 1, by go_num, by omega, HL.out⟩
        case measure => simp [intOf]; omega
      · have HRr := Lib.hid hr
        clear hr
        go_wp2_with (fail)
        refine HRi.out.mono ?_
        rintro e w10 ⟨rfl, e10⟩
        have hK2 := hns.out w10 e10
        clear hns HX HRi e10 c0 c1 c2 t0 t1 t2 t3 t4 r0 r1
        obtain ⟨t0, t1, t2, t3, t4⟩ := hK2.c14.five
        obtain ⟨r0, r1⟩ := hK2.c15.two
        obtain ⟨s0, s1, s2, s3, s4⟩ := hK2.cb.five
        obtain ⟨o0, o1, o2⟩ := hK2.co.three
        have HKs := Lib.hid hK2
        go_wp2_with (fail)
        refine (reads_is oc _).mono ?_
        rw [HRr.out]
        rintro e w11 ⟨rfl, rfl⟩
        have f0 := hK2.cb.f 0
        have f1 := hK2.cb.f 1
        have f2 := hK2.cb.f 2
        have f3 := hK2.cb.f 3
        have f4 := hK2.cb.f 4
        have HL := Lib.hid (hK2.store (by omega) (by omega))
        clear hK2
        go_wp2_with (fail)
        go_roundw
        case rel => exact ⟨i + 1, by go_num, by omega, HL.out⟩
        case measure => simp [intOf]; omega
    · obtain ⟨c0, c1, c2⟩ := hC.three
      obtain ⟨s0, s1, s2, s3, s4⟩ := hB.five
      have HRi := Lib.hid (right_any k p m ⟨ka4, kn4, kc4⟩ ⟨va4, vn4, vc4⟩ ⟨ta4, tn4, tc4⟩ ⟨sr, sk, su, sw, scl⟩ wr hS)
      rw [hR] at HRi
      clear hO hR hS hB hC hE
      dsimp only [sc, cf, sv] at *
      rcases (by omega : ¬ i < n2 ∨ (i < n2 ∧ ¬ i < 12)) with hx0 | ⟨hx0, hx1⟩
      all_goals
        clear hin
        go_wp2_with (fail)
        refine HRi.out.mono ?_
        rintro e w9 ⟨rfl, e9⟩
        have HE9 := Lib.hid (HE.out.trans e9)
        clear e9 c0 c1 c2 s0 s1 s2 s3 s4
        go_wp2_with (fail)
        go_ret
        exact ⟨rfl, HE9.out⟩

end Go.Proofs.YtdipddnnckfnmaaGreat.Law

/- LawFacts:
  What puts, gets and the next key tell, over lists. Conditions: the state is right, its numbers are words.
-/
namespace Go.Proofs.YtdipddnnckfnmaaGreat.Law
open Go.Proofs.YtdipddnnckfnmaaGreat.Aut

theorem tab_of {k m : Int} {s : St} {o : Cl} {x : Int} (hk : keyed k = true) (h9 : o.code ≠ 9) (hm : mayK k o.key = true) (hx : meantK k o.key = x) : doS k m s o = placedS k m s o x (posK k s.keys x) (hereK s.keys (posK k s.keys x) x) := by
  have c1 : ¬ k = 1 := by have := keyed_cases hk; omega
  unfold doS
  rw [if_neg c1, if_pos hk]
  unfold tableS
  rw [if_neg h9, if_pos hm, hx]
/-- A put of a key with a value. -/
theorem put_v {k p m : Int} {s : St} (hv : valued k = true) (hR : rightS k p m s = true) {a y x : Int} (hm : mayK k a = true) (hx : meantK k a = x) :
    (doS k m s ⟨11, a, y⟩ = (s, (11, 0)) ∧ (s.keys.length : Int) = m ∧ hereK s.keys (posK k s.keys x) x = false) ∨
    ∃ t r, doS k m s ⟨11, a, y⟩ = (t, (0, r)) ∧ t.keys[posK k s.keys x]? = some x ∧ t.vals[posK k s.keys x]? = some y := by
  have hk := valued_of hv
  have hK := keys_of hR hk
  have hl : s.vals.length = s.keys.length := by have := hK.2.1; rwa [if_pos hv] at this
  have hp := pos_le k s.keys x
  rw [tab_of hk (by simp) hm hx]
  cases hh : hereK s.keys (posK k s.keys x) x with
  | true =>
    have hi := here_lt hh
    refine .inr ⟨{ s with vals := s.vals.set (posK k s.keys x) y }, s.vals.getD (posK k s.keys x) 0, by simp [placedS, hv], of_decide_eq_true hh, ?_⟩
    exact List.getElem?_set_self (by omega)
  | false =>
    by_cases hf : (s.keys.length : Int) = m
    · exact .inl ⟨by simp [placedS, hv, hf], hf, rfl⟩
    · refine .inr ⟨{ s with keys := withL s.keys (posK k s.keys x) x, vals := withL s.vals (posK k s.keys x) y }, 0, by simp [placedS, hv, hf], ?_, ?_⟩
      · simp only [with_get _ _ _ hp]; simp
      · simp only [with_get _ _ _ (show posK k s.keys x ≤ s.vals.length by omega)]; simp
theorem get_v {k m : Int} {t : St} (hv : valued k = true) (hK : KeysOk k m t) {i : Nat} {x v : Int} (hx : t.keys[i]? = some x) (hvl : t.vals[i]? = some v) : doS k m t ⟨10, x, 0⟩ = (t, (0, v)) := by
  have hk := valued_of hv
  obtain ⟨hm, hy⟩ := hK.2.2.1 x (List.mem_of_getElem? hx)
  have hp := pos_here hK.2.2.2 hx
  have hh : hereK t.keys i x = true := decide_eq_true hx
  rw [tab_of hk (by simp) hy hm, hp, hh]
  simp [placedS, hv, hvl]
theorem get_no {k m : Int} {s : St} (hv : valued k = true) {x : Int} (hm : mayK k x = true) (mx : meantK k x = x) (hh : hereK s.keys (posK k s.keys x) x = false) : doS k m s ⟨10, x, 0⟩ = (s, (12, 0)) := by
  rw [tab_of (valued_of hv) (by simp) hm mx, hh]
  simp [placedS, hv]
theorem next_v {k m : Int} {t : St} (hk : keyed k = true) (hK : KeysOk k m t) {i : Nat} {x a b : Int} (hm : mayK k a = true) (hx : meantK k a = x) (hi : t.keys[i]? = some x) : doS k m t ⟨8, a, b⟩ = nextS t (if b ≠ 0 then i + 1 else i) := by
  have hp := pos_here hK.2.2.2 hi
  have hh : hereK t.keys i x = true := decide_eq_true hi
  rw [tab_of hk (by simp) hm hx, hp, hh]
  simp [placedS]

/-- What AutoFloats asks of an Order: the key's word is canonical; what comes next is not less. -/
theorem floats_order {s : St} (hR : rightS 4 1 30 s = true) (hW : Wd s) {a b v : Int} (ha : U64 a) (hv : U64 v) :
    ∃ t q r n, doS 4 30 s ⟨11, a, v⟩ = (t, q) ∧ doS 4 30 t ⟨10, canon a, 0⟩ = (t, r) ∧ doS 4 30 t ⟨8, a, b⟩ = (t, n) ∧ rightS 4 1 30 t = true ∧ Wd t ∧
      ((r = (12, 0) ∧ s.keys.length = 30) ∨ (r = (0, v) ∧ (n = (12, 0) ∨ ∃ y, n = (0, y) ∧ U64 y ∧ (b = 0 → y = canon a) ∧ (b ≠ 0 → less a y = true)))) := by
  have hv4 : valued 4 = true := by decide
  have hk4 : keyed 4 = true := by decide
  have hm : mayK 4 a = true := by unfold mayK; simp
  have hmc : mayK 4 (canon a) = true := by unfold mayK; simp
  have hx : meantK 4 a = canon a := by unfold meantK; simp
  have hxc : meantK 4 (canon a) = canon a := by unfold meantK; simp [canon_canon]
  have hwc : Wc ⟨11, a, v⟩ := ⟨by unfold I64; simp, ha, hv⟩
  obtain ⟨hRt, hWt⟩ := do_right hR hW ⟨11, a, v⟩ hwc
  rcases put_v (y := v) hv4 hR hm hx with ⟨e, hl, hh⟩ | ⟨t, q, e, h1, h2⟩
  · have hl' : s.keys.length = 30 := by omega
    have hn : ∃ n, doS 4 30 s ⟨8, a, b⟩ = (s, n) := ⟨_, by
      have := do_reads (k := 4) (m := 30) (s := s) (o := ⟨8, a, b⟩) (show readsS 8 = true by decide)
      exact Prod.ext this rfl⟩
    obtain ⟨n, hn⟩ := hn
    exact ⟨s, (11, 0), (12, 0), n, e, get_no hv4 hmc hxc hh, hn, hR, hW, .inl ⟨rfl, hl'⟩⟩
  · rw [e] at hRt hWt
    have hK := keys_of hRt hk4
    have hn := next_v (b := b) hk4 hK hm hx h1
    have hgo := get_v (m := 30) hv4 hK h1 h2
    refine ⟨t, (0, q), (0, v), (nextS t (if b ≠ 0 then posK 4 s.keys (canon a) + 1 else posK 4 s.keys (canon a))).2, e, hgo, ?_, hRt, hWt, .inr ⟨rfl, ?_⟩⟩
    · rw [hn]; exact Prod.ext (next_same _ _) rfl
    · by_cases hb0 : b = 0
      · rw [if_neg (by simp [hb0]), next_some h1]
        exact .inr ⟨canon a, rfl, ⟨canon_lo a ha.1, canon_hi a ha.2⟩, fun _ => rfl, fun h => absurd hb0 h⟩
      · rw [if_pos hb0]
        cases hy : t.keys[posK 4 s.keys (canon a) + 1]? with
        | none => exact .inl (next_none hy)
        | some y =>
          refine .inr ⟨y, next_some hy, hWt.2.1 y (List.mem_of_getElem? hy), fun h => absurd h hb0, fun _ => ?_⟩
          have := hK.2.2.2.lt h1 hy (Nat.lt_succ_self _)
          unfold ordK at this
          simp only [if_pos] at this
          unfold less
          refine decide_eq_true ?_
          have h3 := ord_meant (k := 4) ha
          unfold ordK meantK at h3
          simp only [if_pos] at h3
          omega
/-- What it asks of a Register. -/
theorem sum_can {a b : Int} (ha : U64 a) (hb : U64 b) : sumOf (canon a) b = sumOf a b := by
  rw [← sumOf_canon (canon a) b (canon_lo a ha.1) (canon_hi a ha.2) hb.1 hb.2, canon_canon, sumOf_canon a b ha.1 ha.2 hb.1 hb.2]
theorem max_can {a b : Int} : maxOf (canon a) b = maxOf a b := by
  have e : rank (canon a) = rank a := by unfold rank; rw [canon_canon]
  unfold maxOf; rw [e, canon_canon]
theorem reg_right {x : Int} (h : canon x = x) : rightS 1 1 1 ⟨x, [], [], [], false⟩ = true := by
  refine right_iff.2 ⟨by decide, ⟨.inl rfl, .inr ⟨rfl, rfl⟩, .inr ⟨rfl, rfl⟩⟩, fun _ => h, fun e => absurd e (by decide), fun e => by omega⟩
theorem floats_reg {a b : Int} (ha : U64 a) (hb : U64 b) :
    doS 1 1 zeroS ⟨2, 0, a⟩ = (⟨canon a, [], [], [], false⟩, (0, 0)) ∧ doS 1 1 ⟨canon a, [], [], [], false⟩ ⟨4, 0, b⟩ = (⟨sumOf a b, [], [], [], false⟩, (0, sumOf a b)) ∧ doS 1 1 ⟨canon a, [], [], [], false⟩ ⟨3, 0, b⟩ = (⟨maxOf a b, [], [], [], false⟩, (0, maxOf a b)) := by
  refine ⟨by simp [doS, regS, zeroS], ?_, ?_⟩
  · simp [doS, regS, sum_can ha hb]
  · simp [doS, regS, max_can]

end Go.Proofs.YtdipddnnckfnmaaGreat.Law

/- LawPutF:
  What AutoPuts asks of what has keys, over lists. Conditions: the state is right, its numbers are words; the keys may be.
-/
namespace Go.Proofs.YtdipddnnckfnmaaGreat.Law
open Go.Proofs.YtdipddnnckfnmaaGreat.Aut

/-- A put's code, a get's, by the kind. -/
def putC (k : Int) : Int := if k = 2 then 6 else 11
def getC (k : Int) : Int := if k = 2 then 5 else 10
/-- What a get tells of a key at a place, if it is there. -/
def got (k : Int) (s : St) (x : Int) : Rs := if hereK s.keys (posK k s.keys x) x = true then (0, if k = 2 then 1 else s.vals.getD (posK k s.keys x) 0) else if k = 2 then (0, 0) else (12, 0)
theorem val_k {k : Int} (hk : keyed k = true) : valued k = decide (k ≠ 2) := by
  have := keyed_cases hk
  unfold valued
  rw [decide_eq_decide]; omega
theorem get_is {k m : Int} {s : St} (hk : keyed k = true) {a x : Int} (hm : mayK k a = true) (hx : meantK k a = x) : doS k m s ⟨getC k, a, 0⟩ = (s, got k s x) := by
  have hv := val_k hk
  unfold getC got
  by_cases h2 : k = 2
  · rw [if_pos h2, tab_of hk (by simp) hm hx]
    cases hh : hereK s.keys (posK k s.keys x) x <;> simp [placedS, h2, bitZ, show valued 2 = false from by decide]
  · have hv2 : valued k = true := by rw [hv]; simp [h2]
    rw [if_neg h2, tab_of hk (by simp) hm hx]
    cases hh : hereK s.keys (posK k s.keys x) x <;> simp [placedS, hv2, h2]
theorem count_is {k m : Int} {s : St} (hk : keyed k = true) : doS k m s ⟨9, 0, 0⟩ = (s, (0, (s.keys.length : Int))) := by
  have c1 : ¬ k = 1 := by have := keyed_cases hk; omega
  unfold doS
  rw [if_neg c1, if_pos hk]
  simp [tableS]
/-- It is there, with what it has. -/
theorem got_at {k : Int} {s : St} {i : Nat} {x : Int} (hr : RisingK k s.keys) (h : s.keys[i]? = some x) : got k s x = (0, if k = 2 then 1 else s.vals.getD i 0) := by
  unfold got
  rw [pos_here hr h, if_pos (show hereK s.keys i x = true from decide_eq_true h)]
theorem got_none {k : Int} {s : St} {x : Int} (hr : RisingK k s.keys) (h : x ∉ s.keys) : got k s x = if k = 2 then (0, 0) else (12, 0) := by
  unfold got
  rw [if_neg (fun e => h ((here_iff hr).1 e))]
/-- Two states that have a key alike. -/
theorem got_same {k : Int} {s t : St} {x : Int} (hs : RisingK k s.keys) (ht : RisingK k t.keys) (h : (x ∉ s.keys ∧ x ∉ t.keys) ∨ ∃ i j, s.keys[i]? = some x ∧ t.keys[j]? = some x ∧ s.vals.getD i 0 = t.vals.getD j 0) : got k s x = got k t x := by
  rcases h with ⟨h1, h2⟩ | ⟨i, j, h1, h2, h3⟩
  · rw [got_none hs h1, got_none ht h2]
  · rw [got_at hs h1, got_at ht h2, h3]

/-- What a put leaves and tells. -/
structure PutF (k m : Int) (s t : St) (r : Rs) (x y : Int) : Prop where
  full : r = (11, 0) → t = s ∧ (s.keys.length : Int) = m ∧ x ∉ s.keys
  ok : r ≠ (11, 0) → r.1 = 0 ∧ got k t x = (0, if k = 2 then 1 else y) ∧ (∀ z, U64 z → meantK k z = z → z ≠ x → got k s z = got k t z) ∧
    ((x ∈ s.keys ∧ t.keys.length = s.keys.length) ∨ (x ∉ s.keys ∧ t.keys.length = s.keys.length + 1 ∧ t.keys[posK k s.keys x]? = some x ∧ withoutL t.keys (posK k s.keys x) = s.keys ∧ (valued k = true → withoutL t.vals (posK k s.keys x) = s.vals) ∧ (valued k = false → t.vals = s.vals) ∧ t.reg = s.reg ∧ t.votes = s.votes ∧ t.closed = s.closed))

theorem put_is {k p m : Int} {s : St} (hk : keyed k = true) (hR : rightS k p m s = true) (hW : Wd s) {a x y : Int} (ha : U64 a) (hm : mayK k a = true) (hx : meantK k a = x) (hy : U64 y) :
    ∃ t r, doS k m s ⟨putC k, a, y⟩ = (t, r) ∧ rightS k p m t = true ∧ Wd t ∧ PutF k m s t r x y := by
  have hv := val_k hk
  have hK := keys_of hR hk
  have hp := pos_le k s.keys x
  have hcode : Wc ⟨putC k, a, y⟩ := ⟨by unfold putC I64; simp only; split <;> omega, ha, hy⟩
  obtain ⟨hRt, hWt⟩ := do_right hR hW ⟨putC k, a, y⟩ hcode
  obtain ⟨t, r, e⟩ : ∃ t r, doS k m s ⟨putC k, a, y⟩ = (t, r) := ⟨_, _, rfl⟩
  rw [e] at hRt hWt
  refine ⟨t, r, e, hRt, hWt, ?_⟩
  have hKt := keys_of hRt hk
  rw [tab_of hk (by unfold putC; simp only; split <;> simp) hm hx] at e
  have hxu : U64 x := hx ▸ meant_u ha
  cases hh : hereK s.keys (posK k s.keys x) x with
  | true =>
    have hi := here_lt hh
    have hat : s.keys[posK k s.keys x]? = some x := of_decide_eq_true hh
    have hmem := List.mem_of_getElem? hat
    rw [hh] at e
    by_cases h2 : k = 2
    · have e' : t = s ∧ r = (0, 0) := by
        have : (t, r) = (s, ((0, 0) : Rs)) := by rw [← e]; simp [placedS, putC, h2, show valued 2 = false from by decide]
        exact ⟨(Prod.mk.inj this).1, (Prod.mk.inj this).2⟩
      obtain ⟨rfl, rfl⟩ := e'
      exact ⟨fun h => by simp at h, fun _ => ⟨rfl, by rw [got_at hK.2.2.2 hat, if_pos h2, if_pos h2], fun z _ _ _ => rfl, .inl ⟨hmem, rfl⟩⟩⟩
    · have hv2 : valued k = true := by rw [hv]; simp [h2]
      have hl : s.vals.length = s.keys.length := by have := hK.2.1; rwa [if_pos hv2] at this
      have e' : t = { s with vals := s.vals.set (posK k s.keys x) y } ∧ r = (0, s.vals.getD (posK k s.keys x) 0) := by
        have : (t, r) = ({ s with vals := s.vals.set (posK k s.keys x) y }, ((0, s.vals.getD (posK k s.keys x) 0) : Rs)) := by rw [← e]; simp [placedS, putC, h2, hv2]
        exact ⟨(Prod.mk.inj this).1, (Prod.mk.inj this).2⟩
      obtain ⟨rfl, rfl⟩ := e'
      refine ⟨fun h => by simp at h, fun _ => ⟨rfl, ?_, fun z _ _ hz => ?_, .inl ⟨hmem, rfl⟩⟩⟩
      · rw [got_at (s := { s with vals := s.vals.set (posK k s.keys x) y }) hK.2.2.2 hat, if_neg h2, if_neg h2]
        simp only [List.getD_eq_getElem?_getD, List.getElem?_set_self (show posK k s.keys x < s.vals.length by omega), Option.getD_some]
      · refine got_same hK.2.2.2 hK.2.2.2 ?_
        by_cases hzm : z ∈ s.keys
        · obtain ⟨j, hj⟩ := List.mem_iff_getElem?.1 hzm
          refine .inr ⟨j, j, hj, hj, ?_⟩
          have hne : posK k s.keys x ≠ j := fun e => hz (by rw [← e, hat] at hj; cases hj; rfl)
          simp only [List.getD_eq_getElem?_getD, List.getElem?_set_ne hne]
        · exact .inl ⟨hzm, hzm⟩
  | false =>
    have hnm : x ∉ s.keys := fun h => by have := (here_iff hK.2.2.2).2 h; rw [hh] at this; cases this
    rw [hh] at e
    by_cases hf : (s.keys.length : Int) = m
    · have e' : t = s ∧ r = (11, 0) := by
        have : (t, r) = (s, ((11, 0) : Rs)) := by
          rw [← e]
          by_cases h2 : k = 2
          · simp [placedS, putC, h2, hf, show valued 2 = false from by decide]
          · have hv2 : valued k = true := by rw [hv]; simp [h2]
            simp [placedS, putC, h2, hf, hv2]
        exact ⟨(Prod.mk.inj this).1, (Prod.mk.inj this).2⟩
      obtain ⟨rfl, rfl⟩ := e'
      exact ⟨fun _ => ⟨rfl, hf, hnm⟩, fun h => absurd rfl h⟩
    · have hval : s.vals.length = if valued k then s.keys.length else 0 := hK.2.1
      have e' : t = { s with keys := withL s.keys (posK k s.keys x) x, vals := if k = 2 then s.vals else withL s.vals (posK k s.keys x) y } ∧ r = (0, if k = 2 then 1 else 0) := by
        have : (t, r) = ({ s with keys := withL s.keys (posK k s.keys x) x, vals := if k = 2 then s.vals else withL s.vals (posK k s.keys x) y }, ((0, if k = 2 then 1 else 0) : Rs)) := by
          rw [← e]
          by_cases h2 : k = 2
          · simp [placedS, putC, h2, hf, show valued 2 = false from by decide]
          · have hv2 : valued k = true := by rw [hv]; simp [h2]
            simp [placedS, putC, h2, hf, hv2]
        exact ⟨(Prod.mk.inj this).1, (Prod.mk.inj this).2⟩
      obtain ⟨rfl, rfl⟩ := e'
      have hat : (withL s.keys (posK k s.keys x) x)[posK k s.keys x]? = some x := by rw [with_get _ _ _ hp]; simp
      refine ⟨fun h => by split at h <;> simp at h, fun _ => ⟨rfl, ?_, fun z _ _ hz => ?_, .inr ⟨hnm, with_len _ _ _ hp, hat, with_without _ _ _ hp, fun h => ?_, fun h => ?_, rfl, rfl, rfl⟩⟩⟩
      · rw [got_at hKt.2.2.2 hat]
        by_cases h2 : k = 2
        · rw [if_pos h2, if_pos h2]
        · rw [if_neg h2, if_neg h2]
          have hv2 : valued k = true := by rw [hv]; simp [h2]
          rw [if_pos hv2] at hval
          simp only [if_neg h2, List.getD_eq_getElem?_getD, with_get _ _ _ (show posK k s.keys x ≤ s.vals.length by omega)]
          simp
      · refine got_same hK.2.2.2 hKt.2.2.2 ?_
        by_cases hzm : z ∈ s.keys
        · obtain ⟨j, hj⟩ := List.mem_iff_getElem?.1 hzm
          have hjl := (List.getElem?_eq_some_iff.1 hj).1
          have hvals : ∀ i : Nat, (i < posK k s.keys x → (if k = 2 then s.vals else withL s.vals (posK k s.keys x) y).getD i 0 = s.vals.getD i 0) ∧ (posK k s.keys x ≤ i → (if k = 2 then s.vals else withL s.vals (posK k s.keys x) y).getD (i + 1) 0 = s.vals.getD i 0) := fun i => by
            by_cases h2 : k = 2
            · have hv2 : valued k = false := by rw [hv]; simp [h2]
              rw [if_neg (by rw [hv2]; simp)] at hval
              have : s.vals = [] := List.eq_nil_of_length_eq_zero hval
              simp [h2, this]
            · have hv2 : valued k = true := by rw [hv]; simp [h2]
              rw [if_pos hv2] at hval
              simp only [if_neg h2, List.getD_eq_getElem?_getD, with_get _ _ _ (show posK k s.keys x ≤ s.vals.length by omega)]
              refine ⟨fun h => by rw [if_pos h], fun h => by rw [if_neg (by omega), if_neg (by omega)]; simp⟩
          by_cases hlt : j < posK k s.keys x
          · exact .inr ⟨j, j, hj, by simp only [with_get _ _ _ hp]; rw [if_pos hlt]; exact hj, ((hvals j).1 hlt).symm⟩
          · exact .inr ⟨j, j + 1, hj, by simp only [with_get _ _ _ hp]; rw [if_neg (by omega), if_neg (by omega)]; simpa using hj, ((hvals j).2 (by omega)).symm⟩
        · refine .inl ⟨hzm, fun h => ?_⟩
          rcases mem_with.1 h with e | h
          · exact hz e
          · exact hzm h
      · have h2 : ¬ k = 2 := fun h2 => by rw [hv] at h; simp [h2] at h
        simp only [if_neg h2]
        rw [if_pos h] at hval
        exact with_without _ _ _ (by omega)
      · have h2 : k = 2 := by rw [hv] at h; simpa using h
        simp only [if_pos h2]
/-- What a delete leaves and tells, of a key that is there. -/
theorem del_is {k p m : Int} {t : St} (hk : keyed k = true) (hR : rightS k p m t = true) (hW : Wd t) {a x : Int} (ha : U64 a) (hm : mayK k a = true) (hx : meantK k a = x) {i : Nat} (hi : t.keys[i]? = some x) :
    ∃ u q, doS k m t ⟨7, a, 0⟩ = (u, (0, q)) ∧ rightS k p m u = true ∧ Wd u ∧ got k u x = (if k = 2 then (0, 0) else (12, 0)) ∧ doS k m u ⟨7, a, 0⟩ = (u, (12, 0)) ∧
      u = { t with keys := withoutL t.keys i, vals := if valued k then withoutL t.vals i else t.vals } := by
  have hK := keys_of hR hk
  have hcode : Wc ⟨7, a, 0⟩ := ⟨by unfold I64; simp, ha, by unfold U64; simp⟩
  obtain ⟨hRt, hWt⟩ := do_right hR hW ⟨7, a, 0⟩ hcode
  have hp := pos_here hK.2.2.2 hi
  have hh : hereK t.keys i x = true := decide_eq_true hi
  have e : doS k m t ⟨7, a, 0⟩ = ({ t with keys := withoutL t.keys i, vals := if valued k then withoutL t.vals i else t.vals }, ((0, if valued k then t.vals.getD i 0 else 0) : Rs)) := by
    rw [tab_of hk (by simp) hm hx, hp, hh]
    cases hv : valued k <;> simp [placedS, hv]
  rw [e] at hRt hWt
  have hKu := keys_of hRt hk
  have hno : x ∉ withoutL t.keys i := fun h => by
    obtain ⟨j, hj⟩ := List.mem_iff_getElem?.1 h
    rw [without_get _ _ _ (Nat.le_of_lt (List.getElem?_eq_some_iff.1 hi).1)] at hj
    split at hj
    · have := hK.2.2.2.lt hj hi (by omega); omega
    · have := hK.2.2.2.lt hi hj (by omega); omega
  refine ⟨_, _, e, hRt, hWt, got_none hKu.2.2.2 hno, ?_, rfl⟩
  rw [tab_of hk (by simp) hm hx]
  have : hereK (withoutL t.keys i) (posK k (withoutL t.keys i) x) x = false := by
    cases hc : hereK (withoutL t.keys i) (posK k (withoutL t.keys i) x) x with
    | false => rfl
    | true => exact absurd ((here_iff hKu.2.2.2).1 hc) hno
  rw [this]
  simp [placedS]
/-- All that AutoPuts asks. -/
theorem puts_is {k p m : Int} {s : St} (hk : keyed k = true) (hR : rightS k p m s = true) (hW : Wd s) {a b v : Int} (ha : U64 a) (hb : U64 b) (hma : mayK k a = true) (hv : U64 v) :
    ∃ t r, doS k m s ⟨putC k, a, v⟩ = (t, r) ∧ rightS k p m t = true ∧ Wd t ∧
      ((r = (11, 0) ∧ t = s ∧ (s.keys.length : Int) = m ∧ got k s (meantK k a) = (if k = 2 then (0, 0) else (12, 0))) ∨
       (∃ r2 u q, r = (0, r2) ∧ got k t (meantK k a) = (0, if k = 2 then 1 else v) ∧ doS k m t ⟨8, a, 0⟩ = (t, (0, meantK k a)) ∧ (meantK k a ≠ meantK k b → got k s (meantK k b) = got k t (meantK k b)) ∧
         doS k m t ⟨7, a, 0⟩ = (u, (0, q)) ∧ rightS k p m u = true ∧ Wd u ∧ got k u (meantK k a) = (if k = 2 then (0, 0) else (12, 0)) ∧ doS k m u ⟨7, a, 0⟩ = (u, (12, 0)) ∧
         ((∃ h2, got k s (meantK k a) = (0, h2) ∧ (k = 2 → h2 = 1) ∧ t.keys.length = s.keys.length) ∨
          (got k s (meantK k a) = (if k = 2 then (0, 0) else (12, 0)) ∧ t.keys.length = s.keys.length + 1 ∧ u = s)))) := by
  obtain ⟨t, r, e, hRt, hWt, hF⟩ := put_is hk hR hW ha hma rfl hv
  have hK := keys_of hR hk
  have hKt := keys_of hRt hk
  refine ⟨t, r, e, hRt, hWt, ?_⟩
  by_cases hr : r = (11, 0)
  · obtain ⟨h1, h2, h3⟩ := hF.full hr
    exact .inl ⟨hr, h1, h2, got_none hK.2.2.2 h3⟩
  · obtain ⟨h1, h2, h3, h4⟩ := hF.ok hr
    have hin : meantK k a ∈ t.keys := by
      by_cases h : meantK k a ∈ t.keys
      · exact h
      · rw [got_none hKt.2.2.2 h] at h2
        split at h2 <;> simp at h2
    obtain ⟨i, hi⟩ := List.mem_iff_getElem?.1 hin
    obtain ⟨u, q, d1, d2, d3, d4, d5, d6⟩ := del_is hk hRt hWt ha hma rfl hi
    have hn := next_v (b := 0) hk hKt hma rfl hi
    rw [if_neg (by simp)] at hn
    have hn2 : doS k m t ⟨8, a, 0⟩ = (t, (0, meantK k a)) := by rw [hn]; exact Prod.ext (next_same _ _) (next_some hi)
    refine .inr ⟨r.2, u, q, Prod.ext h1 rfl, h2, hn2, fun h => h3 _ (meant_u hb) (meant_meant k b) (Ne.symm h), d1, d2, d3, d4, d5, ?_⟩
    rcases h4 with ⟨g1, g2⟩ | ⟨g1, g2, g3, g4, g5, g6, g7, g8, g9⟩
    · obtain ⟨j, hj⟩ := List.mem_iff_getElem?.1 g1
      exact .inl ⟨_, got_at hK.2.2.2 hj, fun h2 => if_pos h2, g2⟩
    · refine .inr ⟨got_none hK.2.2.2 g1, g2, ?_⟩
      have hip : i = posK k s.keys (meantK k a) := by
        have e1 := pos_here hKt.2.2.2 hi
        have e2 := pos_here hKt.2.2.2 g3
        omega
      subst hip
      rw [d6, g4]
      cases hvv : valued k with
      | true => rw [if_pos rfl, g5 hvv, g7, g8, g9]
      | false => rw [if_neg (by simp), g6 hvv, g7, g8, g9]
/-- Whether a get told that it is there. -/
def Here (k : Int) (hr : Bool) (h1 h2 : Int) : Prop := (hr = true ∧ h1 = 0 ∧ (k = 2 → h2 = 1)) ∨ (hr = false ∧ h2 = 0 ∧ h1 = if k = 2 then 0 else 12)
theorem none_pair {k h1 h2 : Int} (h : ((h1, h2) : Rs) = if k = 2 then (0, 0) else (12, 0)) : h2 = 0 ∧ h1 = if k = 2 then 0 else 12 := by
  split at h
  · cases h; rename_i c; rw [if_pos c]; exact ⟨rfl, rfl⟩
  · cases h; rename_i c; rw [if_neg c]; exact ⟨rfl, rfl⟩
/-- All of it, by letters. -/
theorem puts_all {k p m : Int} {s : St} (hk : keyed k = true) (hR : rightS k p m s = true) (hW : Wd s) {a b v : Int} (ha : U64 a) (hb : U64 b) (hma : mayK k a = true) (hmb : mayK k b = true) (hv : U64 v) :
    ∃ (t : St) (r1 r2 Ls Lt h1 h2 g1 g2 x1 x2 y1 y2 : Int) (hr : Bool), doS k m s ⟨putC k, a, v⟩ = (t, (r1, r2)) ∧ rightS k p m t = true ∧ Wd t ∧ doS k m s ⟨9, 0, 0⟩ = (s, (0, Ls)) ∧ doS k m t ⟨9, 0, 0⟩ = (t, (0, Lt)) ∧
      doS k m s ⟨getC k, a, 0⟩ = (s, (h1, h2)) ∧ doS k m t ⟨getC k, a, 0⟩ = (t, (g1, g2)) ∧ doS k m s ⟨getC k, b, 0⟩ = (s, (x1, x2)) ∧ doS k m t ⟨getC k, b, 0⟩ = (t, (y1, y2)) ∧ 0 ≤ Ls ∧ Ls ≤ 256 ∧ Here k hr h1 h2 ∧
      ((r1 = 11 ∧ r2 = 0 ∧ Ls = m ∧ Lt = m ∧ hr = false) ∨
       (r1 = 0 ∧ g1 = 0 ∧ (g2 = if k = 2 then 1 else v) ∧ (meantK k a ≠ meantK k b → x1 = y1 ∧ x2 = y2) ∧ doS k m t ⟨8, a, 0⟩ = (t, (0, meantK k a)) ∧
         ∃ (u : St) (q o1 o2 : Int), doS k m t ⟨7, a, 0⟩ = (u, (0, q)) ∧ rightS k p m u = true ∧ Wd u ∧ doS k m u ⟨getC k, a, 0⟩ = (u, (o1, o2)) ∧ (o2 = 0 ∧ o1 = if k = 2 then 0 else 12) ∧ doS k m u ⟨7, a, 0⟩ = (u, (12, 0)) ∧
           ((hr = true ∧ Lt = Ls) ∨ (hr = false ∧ Lt = Ls + 1 ∧ u = s)))) := by
  obtain ⟨t, r, e, hRt, hWt, hcs⟩ := puts_is hk hR hW ha hb hma hv
  have hK := keys_of hR hk
  have hm := fits_of (right_fits hR)
  have ga := get_is (m := m) (s := s) hk hma rfl
  have gt := get_is (m := m) (s := t) hk hma rfl
  have gb := get_is (m := m) (s := s) hk hmb rfl
  have gu := get_is (m := m) (s := t) hk hmb rfl
  obtain ⟨⟨g1, g2⟩, hg⟩ : ∃ q, got k t (meantK k a) = q := ⟨_, rfl⟩
  obtain ⟨⟨x1, x2⟩, hx⟩ : ∃ q, got k s (meantK k b) = q := ⟨_, rfl⟩
  obtain ⟨⟨y1, y2⟩, hy⟩ : ∃ q, got k t (meantK k b) = q := ⟨_, rfl⟩
  obtain ⟨⟨j1, j2⟩, hj⟩ : ∃ q, got k s (meantK k a) = q := ⟨_, rfl⟩
  rw [hj] at ga
  rw [hg] at gt
  rw [hx] at gb
  rw [hy] at gu
  obtain ⟨r1, r2⟩ := r
  have hl := hK.1
  rcases hcs with ⟨hr, ht, hf, hn⟩ | ⟨r3, u, q, hr, hgv, hnx, hsame, hd, hRu, hWu, hgu, hd2, hh⟩
  · cases hr
    subst ht
    rw [hj] at hn
    have hn' := none_pair hn
    exact ⟨t, 11, 0, _, _, j1, j2, g1, g2, x1, x2, y1, y2, false, e, hRt, hWt, count_is hk, count_is hk, ga, gt, gb, gu, by omega, by omega, .inr ⟨rfl, hn'⟩, .inl ⟨rfl, rfl, hf, hf, rfl⟩⟩
  · cases hr
    rw [hg] at hgv
    cases hgv
    have gv := get_is (m := m) (s := u) hk hma rfl
    obtain ⟨⟨o1, o2⟩, ho⟩ : ∃ q, got k u (meantK k a) = q := ⟨_, rfl⟩
    rw [ho] at gv hgu
    have hou := none_pair hgu
    have hxy : meantK k a ≠ meantK k b → x1 = y1 ∧ x2 = y2 := fun h => by
      have := hsame h
      rw [hx, hy] at this
      exact ⟨(Prod.mk.inj this).1, (Prod.mk.inj this).2⟩
    rcases hh with ⟨h3, hq, hk2, hlen⟩ | ⟨hq, hlen, hus⟩
    · rw [hj] at hq
      cases hq
      exact ⟨t, 0, _, _, _, 0, _, 0, _, x1, x2, y1, y2, true, e, hRt, hWt, count_is hk, count_is hk, ga, gt, gb, gu, by omega, by omega, .inl ⟨rfl, rfl, hk2⟩, .inr ⟨rfl, rfl, rfl, hxy, hnx, u, q, o1, o2, hd, hRu, hWu, gv, hou, hd2, .inl ⟨rfl, by rw [hlen]⟩⟩⟩
    · rw [hj] at hq
      have hn' := none_pair hq
      exact ⟨t, 0, _, _, _, j1, j2, 0, _, x1, x2, y1, y2, false, e, hRt, hWt, count_is hk, count_is hk, ga, gt, gb, gu, by omega, by omega, .inr ⟨rfl, hn'⟩, .inr ⟨rfl, rfl, rfl, hxy, hnx, u, q, o1, o2, hd, hRu, hWu, gv, hou, hd2, .inr ⟨rfl, by rw [hlen]; push_cast; rfl, hus⟩⟩⟩

end Go.Proofs.YtdipddnnckfnmaaGreat.Law

/- LawFloats:
  AutoFloats: the walk. Conditions: the words' bounds; the raw calls can be read.
-/
namespace Go.Proofs.YtdipddnnckfnmaaGreat.Law
open Go.RowKit (Below intOf)
open Go.Proofs.YtdipddnnckfnmaaGreat.Aut
open Go.Proofs.YtdipddnnckfnmaaGreat.Lan (DoE DoE2 opv do_all do_all2)
open Go.Proofs.YtdipddnnckfnmaaGreat.Reg (cf bx fits_any)

theorem do_f {k p m : Int} {s : St} {o : Cl} {t : St} {r : Rs} (hR : rightS k p m s = true) (h : doS k m s o = (t, r)) : doF k p m s o = (t, r, 0) := by
  unfold doF; rw [if_pos (right_fits hR), if_pos hR, h]
theorem wc_put {a v : Int} (ha : U64 a) (hv : U64 v) : Wc ⟨11, a, v⟩ := ⟨by unfold I64; simp, ha, hv⟩
theorem wc_get {a : Int} (ha : U64 a) : Wc ⟨10, canon a, 0⟩ := ⟨by unfold I64; simp, ⟨canon_lo a ha.1, canon_hi a ha.2⟩, by unfold U64; simp⟩
theorem wc_next {a b : Int} (ha : U64 a) (hb : U64 b) : Wc ⟨8, a, b⟩ := ⟨by unfold I64; simp, ha, hb⟩
theorem wc_val {c v : Int} (hc : decide (0 ≤ c ∧ c < 100) = true) (hv : U64 v) : Wc ⟨c, 0, v⟩ := ⟨by unfold I64; simp only; have := of_decide_eq_true hc; omega, by unfold U64; simp, hv⟩
def flDeps : Nat → List Nat := fun i => match i with | 4 => [3] | 5 => [4] | 6 => [5] | 7 => [5, 6] | 8 => [5, 6] | 9 => [5, 6] | _ => []
def flSlots : Nat → Option Tmp := fun i => match i with | 3 => some 50 | 4 => some 51 | 5 => some 52 | 6 => some 46 | 7 => some 53 | 8 => some 54 | 9 => some 55 | 10 => some 15 | 11 => some 16 | _ => none
def FlF (ca tr : Int) (tcl : Bool) (r1 r2 : Int) (wr : World) : Nat → (Nat → Value) → World → Prop := fun i vs w' => match i with
  | 3 => vs 3 = .int .u64 ca
  | 4 => vs 4 = .agg #[.int .i64 10, .int .u64 ca, .int .u64 0]
  | 5 => ∃ (a v t : Sl), vs 5 = .tuple #[sv tr a v t tcl, rv r1 r2, .int .i64 0]
  | 6 => vs 6 = vs 5
  | 7 => ∃ x y z, vs 5 = .tuple #[x, y, z] ∧ vs 7 = x
  | 8 => ∃ x y z, vs 5 = .tuple #[x, y, z] ∧ vs 8 = y
  | 9 => ∃ x y z, vs 5 = .tuple #[x, y, z] ∧ vs 9 = z
  | 10 => ∃ B : Nat, vs 10 = .pointer (some ⟨B, 0, none⟩) ∧ wr.heap.size ≤ B ∧ Cb w' B (sc 0 nilSl nilSl nilSl false)
  | 11 => ∃ B : Nat, vs 11 = .pointer (some ⟨B, 0, none⟩) ∧ wr.heap.size ≤ B ∧ Cb w' B [.int .i64 0, .int .u64 0]
  | _ => True
def FlX : Nat → Nat → (Nat → Value) → Prop := fun i j vs => i = 10 ∨ j = 10 → i = 11 ∨ j = 11 → ∀ B B' : Nat, vs 10 = .pointer (some ⟨B, 0, none⟩) → vs 11 = .pointer (some ⟨B', 0, none⟩) → B ≠ B'
theorem flF_loc {ca tr : Int} {tcl : Bool} {r1 r2 : Int} {wr : World} : ∀ i vs vs' w, (∀ j, j = i ∨ j ∈ flDeps i → vs j = vs' j) → FlF ca tr tcl r1 r2 wr i vs w → FlF ca tr tcl r1 r2 wr i vs' w := by
  intro i vs vs' w h hF
  unfold FlF at hF ⊢
  split at hF
  · exact (h 3 (.inl rfl)).symm.trans hF
  · exact (h 4 (.inl rfl)).symm.trans hF
  · obtain ⟨a, v, t, h1⟩ := hF; exact ⟨a, v, t, (h 5 (.inl rfl)).symm.trans h1⟩
  · exact (h 6 (.inl rfl)).symm.trans (hF.trans (h 5 (.inr (by decide))))
  · obtain ⟨x, y, z, h1, h2⟩ := hF; exact ⟨x, y, z, (h 5 (.inr (by decide))).symm.trans h1, (h 7 (.inl rfl)).symm.trans h2⟩
  · obtain ⟨x, y, z, h1, h2⟩ := hF; exact ⟨x, y, z, (h 5 (.inr (by decide))).symm.trans h1, (h 8 (.inl rfl)).symm.trans h2⟩
  · obtain ⟨x, y, z, h1, h2⟩ := hF; exact ⟨x, y, z, (h 5 (.inr (by decide))).symm.trans h1, (h 9 (.inl rfl)).symm.trans h2⟩
  · obtain ⟨B, h1, h2⟩ := hF; exact ⟨B, (h 10 (.inl rfl)).symm.trans h1, h2⟩
  · obtain ⟨B, h1, h2⟩ := hF; exact ⟨B, (h 11 (.inl rfl)).symm.trans h1, h2⟩
  · trivial
theorem flF_stab {ca tr : Int} {tcl : Bool} {r1 r2 : Int} {wr : World} : ∀ i vs w w', Ext w w' → FlF ca tr tcl r1 r2 wr i vs w → FlF ca tr tcl r1 r2 wr i vs w' := by
  intro i vs w w' h hF
  unfold FlF at hF ⊢
  split at hF <;> first | exact hF | (obtain ⟨B, h1, h2, h3⟩ := hF; exact ⟨B, h1, h2, h3.ext h⟩) | trivial
theorem flX_loc : ∀ i j vs vs', vs i = vs' i → vs j = vs' j → FlX i j vs → FlX i j vs' := by
  intro i j vs vs' hi hj h1 h10 h11 B B' e1 e2
  refine h1 h10 h11 B B' ?_ ?_
  · rcases h10 with rfl | rfl
    · exact hi.trans e1
    · exact hj.trans e1
  · rcases h11 with rfl | rfl
    · exact hi.trans e2
    · exact hj.trans e2
theorem flX_no {i j : Nat} {vs : Nat → Value} (h0 : i ≠ 10) (h1 : i ≠ 11) : FlX i j vs := by
  intro h10 h11; omega
theorem flX_box {ca tr : Int} {tcl : Bool} {r1 r2 : Int} {wr w5 : World} {i j : Nat} {vs : Nat → Value} (hi : i = 10 ∨ i = 11) (_ : j ≠ i) (hF : FlF ca tr tcl r1 r2 wr j vs w5) : FlX i j (Par.upd vs i (.pointer (some ⟨w5.heap.size, 0, none⟩))) := by
  have hup : ∀ x, x ≠ i → Par.upd vs i (.pointer (some ⟨w5.heap.size, 0, none⟩)) x = vs x := fun x h => if_neg h
  have hus : Par.upd vs i (.pointer (some ⟨w5.heap.size, 0, none⟩)) i = .pointer (some ⟨w5.heap.size, 0, none⟩) := if_pos rfl
  intro h10 h11 B B' e1 e2
  rcases hi with rfl | rfl
  · rw [hus] at e1
    cases e1
    have hj : j = 11 := by omega
    subst hj
    rw [hup 11 (by omega)] at e2
    obtain ⟨B2, e3, _, h⟩ := hF
    cases e3.symm.trans e2
    have := h.lt
    omega
  · rw [hus] at e2
    cases e2
    have hj : j = 10 := by omega
    subst hj
    rw [hup 10 (by omega)] at e1
    obtain ⟨B2, e3, _, h⟩ := hF
    cases e3.symm.trans e1
    have := h.lt
    omega
theorem flX_ne {vs : Nat → Value} {B B' : Nat} (h : FlX 10 11 vs ∨ FlX 11 10 vs) (e1 : vs 10 = .pointer (some ⟨B, 0, none⟩)) (e2 : vs 11 = .pointer (some ⟨B', 0, none⟩)) : B ≠ B' := by
  rcases h with h | h
  · exact h (.inl rfl) (.inr rfl) B B' e1 e2
  · exact h (.inr rfl) (.inl rfl) B B' e1 e2
set_option maxHeartbeats 16000000 in
set_option maxRecDepth 100000 in
theorem floats_walk (a b v : Int) (s0 : Option Addr) (n0 c0' : Nat) (w : World) (hT : TS w s0 n0) (ha : U64 a) (hb : U64 b) (hv : U64 v) :
    Calls Tryz.prog 7 #[.slice s0 n0 c0', .int .u64 a, .int .u64 b, .int .u64 v] w fun e w' => e = .returned (.bool true) ∧ Ext w w' := by
  have HA := Lib.hid (fun W => awake_any do_all W)
  have HT := Lib.hid hT
  have HU := Lib.hid (And.intro ha (And.intro hb hv))
  clear hT ha hb hv
  go_enter Tryz.func7, Tryz.ntmps7
  go_wp2_with (fail)
  refine (HA.out _).mono ?_
  rintro e w1 ⟨rfl, e1⟩
  have C1 : Cb (w1.alloc (.cells #[.int .i64 4, .int .i64 1, .int .i64 30] 24)) w1.heap.size [.int .i64 4, .int .i64 1, .int .i64 30] := Cb.new w1 _ _
  have HX1 := Lib.hid (e1.alloc (.cells #[.int .i64 4, .int .i64 1, .int .i64 30] 24))
  obtain ⟨c0, c1, c2⟩ := C1.three
  have HC := Lib.hid C1
  have HSt := Lib.hid (state_any s0 n0 c0' (w1.alloc (.cells #[.int .i64 4, .int .i64 1, .int .i64 30] 24)) (k := 4) (p := 1) (m := 30) (by decide) (HT.out.ext HX1.out))
  clear HA e1 C1
  dsimp only [cf] at *
  go_wp2_with (fail)
  refine HSt.out.mono ?_
  rintro e w2 ⟨⟨sr, sk, su, sw, scl⟩, hR2, ⟨ka, kn, kc⟩, ⟨va, vn, vc⟩, ⟨ta, tn, tc⟩, rfl, S2, e2⟩
  dsimp only [sv] at *
  obtain ⟨⟨tr, tk, tu, tw, tcl⟩, ⟨q1, q2⟩, ⟨r1, r2⟩, ⟨n1, n2⟩, hd1, hd2, hd3, hRt, hWt, hcs⟩ := floats_order hR2 S2.wd HU.out.1 (b := b) HU.out.2.2
  have hE2 : Ext w1 (w2.alloc (.cells #[.int .u64 sr, .slice ka kn kc, .slice va vn vc, .slice ta tn tc, .bool scl] 30)) := ((Ext.new w1 _).trans e2).alloc _
  have hSS : SS (w2.alloc (.cells #[.int .u64 sr, .slice ka kn kc, .slice va vn vc, .slice ta tn tc, .bool scl] 30)) ⟨ka, kn, kc⟩ ⟨va, vn, vc⟩ ⟨ta, tn, tc⟩ ⟨sr, sk, su, sw, scl⟩ := S2.ext (Ext.new _ _)
  have hCs : Cb (w2.alloc (.cells #[.int .u64 sr, .slice ka kn kc, .slice va vn vc, .slice ta tn tc, .bool scl] 30)) w2.heap.size (sc sr ⟨ka, kn, kc⟩ ⟨va, vn, vc⟩ ⟨ta, tn, tc⟩ scl) := Cb.new w2 _ _
  have hCc := (HC.out.ext e2).alloc (.cells #[.int .u64 sr, .slice ka kn kc, .slice va vn vc, .slice ta tn tc, .bool scl] 30)
  have HD := do_all2 4 1 30 ⟨ka, kn, kc⟩ ⟨va, vn, vc⟩ ⟨ta, tn, tc⟩ ⟨sr, sk, su, sw, scl⟩ ⟨11, a, v⟩ (w2.alloc (.cells #[.int .u64 sr, .slice ka kn kc, .slice va vn vc, .slice ta tn tc, .bool scl] 30)) hSS (wc_put HU.out.1 HU.out.2.2)
  rw [do_f hR2 hd1] at HD
  have HDo := Lib.hid HD
  have hkn : sk.length = kn := S2.2.1.len
  have HK := Lib.hid hkn
  clear HSt HC S2 c0 c1 c2 HD hSS hkn
  obtain ⟨c0, c1, c2⟩ := hCc.three
  obtain ⟨s0, s1, s2, s3, s4⟩ := hCs.five
  have HCc := Lib.hid hCc
  have HCs := Lib.hid hCs
  have HE2 := Lib.hid ((HX1.out.trans e2).alloc (.cells #[.int .u64 sr, .slice ka kn kc, .slice va vn vc, .slice ta tn tc, .bool scl] 30))
  have HR2 := Lib.hid (And.intro hR2 (And.intro hRt hWt))
  have HD2 := Lib.hid (And.intro hd2 hd3)
  have HCS := Lib.hid hcs
  clear hE2 hCc hCs hR2 hRt hWt hd1 hd2 hd3 hcs HX1 e2
  dsimp only [cf, sv, sc, opv] at *
  go_wp2_with (fail)
  refine HDo.out.mono ?_
  rintro e w3 ⟨e3, ⟨ka2, kn2, kc2⟩, ⟨va2, vn2, vc2⟩, ⟨ta2, tn2, tc2⟩, rfl, S3, O3⟩
  clear HDo c0 c1 c2 s0 s1 s2 s3 s4 O3
  dsimp only [sv, rv] at *
  have hE3 : Ext (w2.alloc (.cells #[.int .u64 sr, .slice ka kn kc, .slice va vn vc, .slice ta tn tc, .bool scl] 30)) ((w3.alloc (.cells #[.int .u64 tr, .slice ka2 kn2 kc2, .slice va2 vn2 vc2, .slice ta2 tn2 tc2, .bool tcl] 30)).alloc (.cells #[.int .i64 q1, .int .u64 q2] 51)) := (e3.alloc _).alloc _
  have hCt : Cb ((w3.alloc (.cells #[.int .u64 tr, .slice ka2 kn2 kc2, .slice va2 vn2 vc2, .slice ta2 tn2 tc2, .bool tcl] 30)).alloc (.cells #[.int .i64 q1, .int .u64 q2] 51)) w3.heap.size (sc tr ⟨ka2, kn2, kc2⟩ ⟨va2, vn2, vc2⟩ ⟨ta2, tn2, tc2⟩ tcl) := by repeat (first | ((with_reducible refine Cb.at _ rfl ?_); (simp; done)) | with_reducible refine Cb.alloc ?_ _)
  have hSt := S3.ext ((Ext.new w3 (.cells #[.int .u64 tr, .slice ka2 kn2 kc2, .slice va2 vn2 vc2, .slice ta2 tn2 tc2, .bool tcl] 30)).alloc (.cells #[.int .i64 q1, .int .u64 q2] 51))
  have hCc := HCc.out.ext hE3
  have hCs := HCs.out.ext hE3
  have hE := HE2.out.trans hE3
  clear HCc HCs HE2 hE3 e3 S3
  go_wp2_with (fail)
  generalize ((w3.alloc (.cells #[.int .u64 tr, .slice ka2 kn2 kc2, .slice va2 vn2 vc2, .slice ta2 tn2 tc2, .bool tcl] 30)).alloc (.cells #[.int .i64 q1, .int .u64 q2] 51)) = w4 at hCt hSt hCc hCs hE ⊢
  generalize w3.heap.size = T at *
  generalize w2.heap.size = Sb at *
  generalize w1.heap.size = Cc at *
  obtain ⟨c0, c1, c2⟩ := hCc.three
  obtain ⟨t0, t1, t2, t3, t4⟩ := hCt.five
  have HB := Lib.hid (And.intro hCt (And.intro hSt (And.intro hCc (And.intro hCs hE))))
  have HDg : RowKit.Hid (∀ W, Ext w4 W → _) := Lib.hid fun W (h : Ext w4 W) => do_all2 4 1 30 ⟨ka2, kn2, kc2⟩ ⟨va2, vn2, vc2⟩ ⟨ta2, tn2, tc2⟩ ⟨tr, tk, tu, tw, tcl⟩ ⟨10, canon a, 0⟩ W (hSt.ext h) (wc_get HU.out.1)
  rw [do_f HR2.out.2.1 HD2.out.1] at HDg
  clear hCt hSt hCc hCs hE
  try dsimp only [sc] at *
  refine wp_region_held_drew (S := fun w' => Ext w4 w') (by kernel_rfl) (Ext.drew (Ext.refl w4)) (fun hHeld => ?_)
  refine wpAnyH_take (i := 0) (v := .agg #[.int .i64 4, .int .i64 1, .int .i64 30]) rfl (by kernel_rfl) (by kernel_rfl) (by kernel_rfl) (fun _ _ _ h => h) (Or.inl ⟨by kernel_rfl, ?_⟩) (by assumption) ?_
  · intro w hE
    have q0 := hE.cell c0
    have q1 := hE.cell c1
    have q2 := hE.cell c2
    go_simp
  refine wpAnyH_take (i := 1) (v := .agg #[.int .u64 tr, .slice ka2 kn2 kc2, .slice va2 vn2 vc2, .slice ta2 tn2 tc2, .bool tcl]) rfl (by kernel_rfl) (by kernel_rfl) (by kernel_rfl) (fun _ _ _ h => h) (Or.inl ⟨by kernel_rfl, ?_⟩) (by assumption) ?_
  · intro w hE
    have q0 := hE.cell t0
    have q1 := hE.cell t1
    have q2 := hE.cell t2
    have q3 := hE.cell t3
    have q4 := hE.cell t4
    go_simp
  refine wpAnyH_take (i := 2) (v := .int .u64 a) rfl (by kernel_rfl) (by kernel_rfl) (by kernel_rfl) (fun _ _ _ h => h) (Or.inl ⟨by kernel_rfl, ?_⟩) (by assumption) ?_
  · intro w hE
    go_simp
  clear c0 c1 c2 t0 t1 t2 t3 t4
  refine Par.wpAnyH_par (fuel := 3) [3, 4, 5, 6, 7, 8, 9, 10, 11] [4, 6, 7, 8, 9] flDeps flSlots (FlF (canon a) tr tcl r1 r2 w4) FlX Ext rfl (by kernel_rfl) (by kernel_rfl) (by kernel_rfl) (fun _ _ _ _ _ h => h) Ext.refl (fun _ _ _ h g => Ext.trans h g) flF_loc flF_stab flX_loc (by assumption) ?_ ?_ ?_
  · refine List.forall_mem_cons.2 ⟨?_, List.forall_mem_cons.2 ⟨?_, List.forall_mem_cons.2 ⟨?_, List.forall_mem_cons.2 ⟨?_, List.forall_mem_cons.2 ⟨?_, fun _ h => by cases h⟩⟩⟩⟩⟩
    · refine ⟨_, rfl, fun done vs w5 hn hS5 hR5 hd hF => ?_⟩
      have e3 : vs 3 = .int .u64 (canon a) := hF 3 (hd 3 (by decide))
      refine ⟨.agg #[.int .i64 10, .int .u64 (canon a), .int .u64 0], Or.inl ⟨by kernel_rfl, ?_⟩, rfl, fun _ _ => flX_no (by decide) (by decide)⟩
      intro w hE
      simp only [flDeps, Par.putAll_nil, Par.putAll_some, flSlots]
      simp only [e3]
      go_simp
    · refine ⟨_, rfl, fun done vs w5 hn hS5 hR5 hd hF => ?_⟩
      obtain ⟨⟨ka6, kn6, kc6⟩, ⟨va6, vn6, vc6⟩, ⟨ta6, tn6, tc6⟩, e5⟩ := hF 5 (hd 5 (by decide))
      refine ⟨.tuple #[sv tr ⟨ka6, kn6, kc6⟩ ⟨va6, vn6, vc6⟩ ⟨ta6, tn6, tc6⟩ tcl, rv r1 r2, .int .i64 0], Or.inl ⟨by kernel_rfl, ?_⟩, e5.symm, fun _ _ => flX_no (by decide) (by decide)⟩
      intro w hE
      simp only [flDeps, Par.putAll_nil, Par.putAll_some, flSlots]
      simp only [e5]
      go_simp
    · refine ⟨_, rfl, fun done vs w5 hn hS5 hR5 hd hF => ?_⟩
      obtain ⟨⟨ka6, kn6, kc6⟩, ⟨va6, vn6, vc6⟩, ⟨ta6, tn6, tc6⟩, e5⟩ := hF 5 (hd 5 (by decide))
      have e6 : vs 6 = vs 5 := hF 6 (hd 6 (by decide))
      refine ⟨sv tr ⟨ka6, kn6, kc6⟩ ⟨va6, vn6, vc6⟩ ⟨ta6, tn6, tc6⟩ tcl, Or.inl ⟨by kernel_rfl, ?_⟩, ⟨_, _, _, e5, rfl⟩, fun _ _ => flX_no (by decide) (by decide)⟩
      intro w hE
      simp only [flDeps, Par.putAll_nil, Par.putAll_some, flSlots]
      simp only [e6, e5]
      go_simp
    · refine ⟨_, rfl, fun done vs w5 hn hS5 hR5 hd hF => ?_⟩
      obtain ⟨⟨ka6, kn6, kc6⟩, ⟨va6, vn6, vc6⟩, ⟨ta6, tn6, tc6⟩, e5⟩ := hF 5 (hd 5 (by decide))
      have e6 : vs 6 = vs 5 := hF 6 (hd 6 (by decide))
      refine ⟨rv r1 r2, Or.inl ⟨by kernel_rfl, ?_⟩, ⟨_, _, _, e5, rfl⟩, fun _ _ => flX_no (by decide) (by decide)⟩
      intro w hE
      simp only [flDeps, Par.putAll_nil, Par.putAll_some, flSlots]
      simp only [e6, e5]
      go_simp
    · refine ⟨_, rfl, fun done vs w5 hn hS5 hR5 hd hF => ?_⟩
      obtain ⟨⟨ka6, kn6, kc6⟩, ⟨va6, vn6, vc6⟩, ⟨ta6, tn6, tc6⟩, e5⟩ := hF 5 (hd 5 (by decide))
      have e6 : vs 6 = vs 5 := hF 6 (hd 6 (by decide))
      refine ⟨.int .i64 0, Or.inl ⟨by kernel_rfl, ?_⟩, ⟨_, _, _, e5, rfl⟩, fun _ _ => flX_no (by decide) (by decide)⟩
      intro w hE
      simp only [flDeps, Par.putAll_nil, Par.putAll_some, flSlots]
      simp only [e6, e5]
      go_simp
  · refine List.forall_mem_cons.2 ⟨?_, List.forall_mem_cons.2 ⟨?_, List.forall_mem_cons.2 ⟨?_, List.forall_mem_cons.2 ⟨?_, List.forall_mem_cons.2 ⟨?_, List.forall_mem_cons.2 ⟨?_, List.forall_mem_cons.2 ⟨?_, List.forall_mem_cons.2 ⟨?_, List.forall_mem_cons.2 ⟨?_, fun _ h => by cases h⟩⟩⟩⟩⟩⟩⟩⟩⟩
    · intro _ done vs w5 hn hS5 hR5 hd hF
      simp only [flDeps, Par.putAll_nil]
      refine Par.step_of rfl (fun K hK => ?_)
      go_simp
      refine (rcanon_any a _ HU.out.1.1 HU.out.1.2).mono ?_
      rintro e w6 ⟨rfl, rfl⟩
      exact hK.out _ _ ⟨.int .u64 (canon a), by kernel_rfl, hS5, Ext.refl _, rfl, fun _ _ => flX_no (by decide) (by decide)⟩
    · exact fun h => absurd (by decide) h
    · intro _ done vs w5 hn hS5 hR5 hd hF
      have e4 : vs 4 = .agg #[.int .i64 10, .int .u64 (canon a), .int .u64 0] := hF 4 (hd 4 (by decide))
      simp only [flDeps, Par.putAll_nil, Par.putAll_some, flSlots]
      simp only [e4]
      refine Par.step_of rfl (fun K hK => ?_)
      go_simp
      refine (HDg.out _ hS5).mono ?_
      rintro e w6 ⟨e6, ⟨ka6, kn6, kc6⟩, ⟨va6, vn6, vc6⟩, ⟨ta6, tn6, tc6⟩, rfl, _, _⟩
      exact hK.out _ _ ⟨.tuple #[sv tr ⟨ka6, kn6, kc6⟩ ⟨va6, vn6, vc6⟩ ⟨ta6, tn6, tc6⟩ tcl, rv r1 r2, .int .i64 0], by kernel_rfl, hS5.trans e6, e6, ⟨⟨ka6, kn6, kc6⟩, ⟨va6, vn6, vc6⟩, ⟨ta6, tn6, tc6⟩, rfl⟩, fun _ _ => flX_no (by decide) (by decide)⟩
    · exact fun h => absurd (by decide) h
    · exact fun h => absurd (by decide) h
    · exact fun h => absurd (by decide) h
    · exact fun h => absurd (by decide) h
    · intro _ done vs w5 hn hS5 hR5 hd hF
      simp only [flDeps, Par.putAll_nil]
      refine Par.step_of rfl (fun K hK => ?_)
      go_simp
      exact hK.out _ _ ⟨.pointer (some ⟨w5.heap.size, 0, none⟩), by kernel_rfl, hS5.alloc _, Ext.new _ _, ⟨w5.heap.size, rfl, hS5.size, Cb.new w5 _ _⟩, fun j hj => flX_box (.inl rfl) (fun e => hn (e ▸ hj)) (hF j hj)⟩
    · intro _ done vs w5 hn hS5 hR5 hd hF
      simp only [flDeps, Par.putAll_nil]
      refine Par.step_of rfl (fun K hK => ?_)
      go_simp
      exact hK.out _ _ ⟨.pointer (some ⟨w5.heap.size, 0, none⟩), by kernel_rfl, hS5.alloc _, Ext.new _ _, ⟨w5.heap.size, rfl, hS5.size, Cb.new w5 _ _⟩, fun j hj => flX_box (.inr rfl) (fun e => hn (e ▸ hj)) (hF j hj)⟩
  intro vs w5 hS5 hR5 hF hXX
  have e3 : vs 3 = .int .u64 (canon a) := hF 3 (by decide)
  have e4 : vs 4 = .agg #[.int .i64 10, .int .u64 (canon a), .int .u64 0] := hF 4 (by decide)
  obtain ⟨⟨ka6, kn6, kc6⟩, ⟨va6, vn6, vc6⟩, ⟨ta6, tn6, tc6⟩, e5⟩ := hF 5 (by decide)
  have e6 : vs 6 = vs 5 := hF 6 (by decide)
  obtain ⟨_, _, _, e, e7⟩ := hF 7 (by decide)
  cases e5.symm.trans e
  obtain ⟨_, _, _, e, e8⟩ := hF 8 (by decide)
  cases e5.symm.trans e
  obtain ⟨_, _, _, e, e9⟩ := hF 9 (by decide)
  cases e5.symm.trans e
  obtain ⟨B8, e10, g10, C10⟩ := hF 10 (by decide)
  obtain ⟨B9, e11, g11, C11⟩ := hF 11 (by decide)
  have x3 := flX_ne (hXX 10 (by decide) 11 (by decide) (by decide)) e10 e11
  simp only [Par.putAll_nil, Par.putAll_some, flSlots]
  simp only [e3, e4, e5, e6, e7, e8, e9, e10, e11]
  clear hF hXX e3 e4 e5 e6 e7 e8 e9 e10 e11 e HDg
  obtain ⟨z0, z1, z2, z3, z4⟩ := C10.five
  have y0 := C10.f 0
  have y1 := C10.f 1
  have y2 := C10.f 2
  have y3 := C10.f 3
  have y4 := C10.f 4
  have hC9 := (((((C11.far (B := B8) (Ne.symm x3) 0 (.int .u64 tr)).far (B := B8) (Ne.symm x3) 1 (.slice ka6 kn6 kc6)).far (B := B8) (Ne.symm x3) 2 (.slice va6 vn6 vc6)).far (B := B8) (Ne.symm x3) 3 (.slice ta6 tn6 tc6)).far (B := B8) (Ne.symm x3) 4 (.bool tcl))
  have hE6 := (((((hS5.setCell g10 (.int .u64 tr) (o := 0)).setCell g10 (.slice ka6 kn6 kc6) (o := 1)).setCell g10 (.slice va6 vn6 vc6) (o := 2)).setCell g10 (.slice ta6 tn6 tc6) (o := 3)).setCell g10 (.bool tcl) (o := 4))
  have HH := Lib.hid (And.intro hC9 hE6)
  clear hC9 hE6 C10 C11 hS5 x3 hR5 hHeld
  refine wpAnyH_ready (rs := [12]) (by kernel_rfl) (by simp) ?_
  refine AllReadyH.cons rfl (fun K hK => ?_) AllReadyH.nil
  go_simp
  refine hK.out _ _ HH.out.2 (fun hHeld => ?_)
  clear hK K z0 z1 z2 z3 z4 y0 y1 y2 y3 y4
  obtain ⟨hC9, hE6⟩ := HH.out
  clear HH hHeld
  generalize ((((w5.setCell ⟨B8, 0, none⟩ (.int .u64 tr)).setCell ⟨B8, 1, none⟩ (.slice ka6 kn6 kc6)).setCell ⟨B8, 2, none⟩ (.slice va6 vn6 vc6)).setCell ⟨B8, 3, none⟩ (.slice ta6 tn6 tc6)).setCell ⟨B8, 4, none⟩ (.bool tcl) = w7 at hC9 hE6 ⊢
  obtain ⟨z0, z1⟩ := hC9.two
  have y0 := hC9.f 0
  have y1 := hC9.f 1
  have kC9 := hC9.rs (.int .i64 r1) (.int .u64 r2)
  have kE6 := ((hE6.setCell g11 (.int .i64 r1) (o := 0)).setCell g11 (.int .u64 r2) (o := 1))
  have HH := Lib.hid (And.intro kC9 kE6)
  clear kC9 kE6 hC9 hE6
  refine wpAnyH_ready (rs := [13]) (by kernel_rfl) (by simp) ?_
  refine AllReadyH.cons rfl (fun K hK => ?_) AllReadyH.nil
  go_simp
  refine hK.out _ _ HH.out.2 (fun hHeld => ?_)
  clear hK K z0 z1 y0 y1
  refine wpAnyH_take (i := 14) (v := .int .i64 0) rfl (by kernel_rfl) (by kernel_rfl) (by kernel_rfl) (fun _ _ _ h => h) (Or.inl ⟨by kernel_rfl, ?_⟩) (by assumption) ?_
  · intro w hE
    go_simp
  refine wpAnyH_done (by kernel_rfl) ?_ _
  go_simp
  obtain ⟨hCr, hE8⟩ := HH.out
  generalize (w7.setCell ⟨B9, 0, none⟩ (.int .i64 r1)).setCell ⟨B9, 1, none⟩ (.int .u64 r2) = w8 at hCr hE8 ⊢
  clear HH hHeld
  obtain ⟨hCt, hSt, hCc, hCs, hE⟩ := HB.out
  have hCt8 := hCt.ext hE8
  have hCc8 := hCc.ext hE8
  have hCs8 := hCs.ext hE8
  have HD := do_all2 4 1 30 ⟨ka2, kn2, kc2⟩ ⟨va2, vn2, vc2⟩ ⟨ta2, tn2, tc2⟩ ⟨tr, tk, tu, tw, tcl⟩ ⟨8, a, b⟩ w8 (hSt.ext hE8) (wc_next HU.out.1 HU.out.2.1)
  rw [do_f HR2.out.2.1 HD2.out.2] at HD
  have HDo := Lib.hid HD
  obtain ⟨c0, c1, c2⟩ := hCc8.three
  obtain ⟨t0, t1, t2, t3, t4⟩ := hCt8.five
  have HB2 := Lib.hid (And.intro hCs8 (And.intro hCr (hE.trans hE8)))
  clear HD hCt hSt hCc hCs hE hCt8 hCc8 hCs8 hCr hE8 HB
  dsimp only [cf, sv, sc, opv] at *
  go_wp2_with (fail)
  refine HDo.out.mono ?_
  rintro e w9 ⟨e9, ⟨ka4, kn4, kc4⟩, ⟨va4, vn4, vc4⟩, ⟨ta4, tn4, tc4⟩, rfl, _, _⟩
  clear HDo c0 c1 c2 t0 t1 t2 t3 t4
  dsimp only [sv, rv] at *
  have hE9 : Ext w8 ((w9.alloc (.cells #[.int .u64 tr, .slice ka4 kn4 kc4, .slice va4 vn4 vc4, .slice ta4 tn4 tc4, .bool tcl] 30)).alloc (.cells #[.int .i64 n1, .int .u64 n2] 51)) := (e9.alloc _).alloc _
  have hCn : Cb ((w9.alloc (.cells #[.int .u64 tr, .slice ka4 kn4 kc4, .slice va4 vn4 vc4, .slice ta4 tn4 tc4, .bool tcl] 30)).alloc (.cells #[.int .i64 n1, .int .u64 n2] 51)) (w9.heap.size + 1) [.int .i64 n1, .int .u64 n2] := by repeat (first | ((with_reducible refine Cb.at _ rfl ?_); (simp; done)) | with_reducible refine Cb.alloc ?_ _)
  obtain ⟨hCs8, hCr, hE8⟩ := HB2.out
  obtain ⟨r0', r1'⟩ := (hCr.ext hE9).two
  obtain ⟨s0, s1, s2, s3, s4⟩ := (hCs8.ext hE9).five
  have HB3 := Lib.hid (And.intro hCn (hE8.trans hE9))
  clear HB2 hCs8 hCr hE8 hE9 e9 hCn
  try dsimp only [sc] at *
  rcases HCS.out with ⟨hr, hl⟩ | ⟨hr, hn⟩
  · cases hr
    have hk30 : kn = 30 := by have := HK.out; omega
    subst hk30
    clear HCS hl
    go_wp2_with (fail)
    go_ret
    exact ⟨rfl, HB3.out.2⟩
  · cases hr
    have HN := Lib.hid hn
    clear HCS hn s0 s1 s2 s3 s4
    go_wp2_with (fail)
    clear r0' r1'
    obtain ⟨hCn, hE9⟩ := HB3.out
    clear HB3
    generalize ((w9.alloc (.cells #[.int .u64 tr, .slice ka4 kn4 kc4, .slice va4 vn4 vc4, .slice ta4 tn4 tc4, .bool tcl] 30)).alloc (.cells #[.int .i64 n1, .int .u64 n2] 51)) = w10 at hCn hE9 ⊢
    generalize w9.heap.size + 1 = Nb at hCn ⊢
    obtain ⟨m0, m1⟩ := hCn.two
    have HE9 := Lib.hid hE9
    clear hCn hE9
    go_cut [113] from 89 to 113 (fun v113 wx => v113 = .bool false ∧ ∃ w11, w11 = wx ∧ Ext w10 w11)
    case first =>
      rcases HN.out with hn | ⟨y, hn, hy, h0, h1⟩
      · cases hn
        clear HN
        refine wp_region_held_drew (S := fun w' => Ext w10 w') (by kernel_rfl) (Ext.drew (Ext.refl w10)) (fun hHeld => ?_)
        refine wpAnyH_take (i := 0) (v := .pointer (some ⟨Nb, 0, none⟩)) rfl (by kernel_rfl) (by kernel_rfl) (by kernel_rfl) (fun _ _ _ h => h) (Or.inl ⟨by kernel_rfl, ?_⟩) (by assumption) ?_
        · intro w hE
          go_simp
        refine wpAnyH_take (i := 1) (v := .int .i64 12) rfl (by kernel_rfl) (by kernel_rfl) (by kernel_rfl) (fun _ _ _ h => h) (Or.inl ⟨by kernel_rfl, ?_⟩) (by assumption) ?_
        · intro w hE
          have q0 := hE.cell m0
          go_simp
        refine wpAnyH_take (i := 2) (v := .bool false) rfl (by kernel_rfl) (by kernel_rfl) (by kernel_rfl) (fun _ _ _ h => h) (Or.inl ⟨by kernel_rfl, ?_⟩) (by assumption) ?_
        · intro w hE
          go_simp
        refine wpAnyH_take (i := 3) (v := .bool false) rfl (by kernel_rfl) (by kernel_rfl) (by kernel_rfl) (fun _ _ _ h => h) (Or.inl ⟨by kernel_rfl, ?_⟩) (by assumption) ?_
        · intro w hE
          go_simp
        refine wpAnyH_take (i := 4) (v := undef) rfl (by kernel_rfl) (by kernel_rfl) (by kernel_rfl) (fun _ _ _ h => h) (Or.inr ⟨by kernel_rfl, rfl⟩) (by assumption) ?_
        refine wpAnyH_take (i := 5) (v := undef) rfl (by kernel_rfl) (by kernel_rfl) (by kernel_rfl) (fun _ _ _ h => h) (Or.inr ⟨by kernel_rfl, rfl⟩) (by assumption) ?_
        refine wpAnyH_take (i := 6) (v := undef) rfl (by kernel_rfl) (by kernel_rfl) (by kernel_rfl) (fun _ _ _ h => h) (Or.inr ⟨by kernel_rfl, rfl⟩) (by assumption) ?_
        refine wpAnyH_take (i := 7) (v := undef) rfl (by kernel_rfl) (by kernel_rfl) (by kernel_rfl) (fun _ _ _ h => h) (Or.inr ⟨by kernel_rfl, rfl⟩) (by assumption) ?_
        refine wpAnyH_take (i := 8) (v := undef) rfl (by kernel_rfl) (by kernel_rfl) (by kernel_rfl) (fun _ _ _ h => h) (Or.inr ⟨by kernel_rfl, rfl⟩) (by assumption) ?_
        refine wpAnyH_take (i := 9) (v := undef) rfl (by kernel_rfl) (by kernel_rfl) (by kernel_rfl) (fun _ _ _ h => h) (Or.inr ⟨by kernel_rfl, rfl⟩) (by assumption) ?_
        refine wpAnyH_take (i := 10) (v := undef) rfl (by kernel_rfl) (by kernel_rfl) (by kernel_rfl) (fun _ _ _ h => h) (Or.inr ⟨by kernel_rfl, rfl⟩) (by assumption) ?_
        refine wpAnyH_take (i := 11) (v := undef) rfl (by kernel_rfl) (by kernel_rfl) (by kernel_rfl) (fun _ _ _ h => h) (Or.inr ⟨by kernel_rfl, rfl⟩) (by assumption) ?_
        refine wpAnyH_take (i := 12) (v := undef) rfl (by kernel_rfl) (by kernel_rfl) (by kernel_rfl) (fun _ _ _ h => h) (Or.inr ⟨by kernel_rfl, rfl⟩) (by assumption) ?_
        refine wpAnyH_take (i := 13) (v := undef) rfl (by kernel_rfl) (by kernel_rfl) (by kernel_rfl) (fun _ _ _ h => h) (Or.inr ⟨by kernel_rfl, rfl⟩) (by assumption) ?_
        refine wpAnyH_take (i := 14) (v := undef) rfl (by kernel_rfl) (by kernel_rfl) (by kernel_rfl) (fun _ _ _ h => h) (Or.inr ⟨by kernel_rfl, rfl⟩) (by assumption) ?_
        refine wpAnyH_take (i := 15) (v := undef) rfl (by kernel_rfl) (by kernel_rfl) (by kernel_rfl) (fun _ _ _ h => h) (Or.inr ⟨by kernel_rfl, rfl⟩) (by assumption) ?_
        refine wpAnyH_take (i := 16) (v := undef) rfl (by kernel_rfl) (by kernel_rfl) (by kernel_rfl) (fun _ _ _ h => h) (Or.inr ⟨by kernel_rfl, rfl⟩) (by assumption) ?_
        refine wpAnyH_take (i := 17) (v := undef) rfl (by kernel_rfl) (by kernel_rfl) (by kernel_rfl) (fun _ _ _ h => h) (Or.inr ⟨by kernel_rfl, rfl⟩) (by assumption) ?_
        refine wpAnyH_take (i := 18) (v := undef) rfl (by kernel_rfl) (by kernel_rfl) (by kernel_rfl) (fun _ _ _ h => h) (Or.inr ⟨by kernel_rfl, rfl⟩) (by assumption) ?_
        refine wpAnyH_take (i := 19) (v := undef) rfl (by kernel_rfl) (by kernel_rfl) (by kernel_rfl) (fun _ _ _ h => h) (Or.inr ⟨by kernel_rfl, rfl⟩) (by assumption) ?_
        refine wpAnyH_take (i := 20) (v := undef) rfl (by kernel_rfl) (by kernel_rfl) (by kernel_rfl) (fun _ _ _ h => h) (Or.inr ⟨by kernel_rfl, rfl⟩) (by assumption) ?_
        refine wpAnyH_take (i := 21) (v := undef) rfl (by kernel_rfl) (by kernel_rfl) (by kernel_rfl) (fun _ _ _ h => h) (Or.inr ⟨by kernel_rfl, rfl⟩) (by assumption) ?_
        refine wpAnyH_take (i := 22) (v := undef) rfl (by kernel_rfl) (by kernel_rfl) (by kernel_rfl) (fun _ _ _ h => h) (Or.inr ⟨by kernel_rfl, rfl⟩) (by assumption) ?_
        refine wpAnyH_take (i := 23) (v := undef) rfl (by kernel_rfl) (by kernel_rfl) (by kernel_rfl) (fun _ _ _ h => h) (Or.inr ⟨by kernel_rfl, rfl⟩) (by assumption) ?_
        refine wpAnyH_take (i := 24) (v := .bool false) rfl (by kernel_rfl) (by kernel_rfl) (by kernel_rfl) (fun _ _ _ h => h) (Or.inl ⟨by kernel_rfl, ?_⟩) (by assumption) ?_
        · intro w hE
          go_simp
        refine wpAnyH_done (by kernel_rfl) ?_ _
        go_simp
        go_wp2_with (fail)
        go_meet
        exact ⟨rfl, _, rfl, by assumption⟩
      · cases hn
        clear HN
        by_cases hb : b = 0
        · cases h0 hb
          subst hb
          clear h0 h1 hy
          refine wp_region_held_drew (S := fun w' => Ext w10 w') (by kernel_rfl) (Ext.drew (Ext.refl w10)) (fun hHeld => ?_)
          refine wpAnyH_take (i := 0) (v := .pointer (some ⟨Nb, 0, none⟩)) rfl (by kernel_rfl) (by kernel_rfl) (by kernel_rfl) (fun _ _ _ h => h) (Or.inl ⟨by kernel_rfl, ?_⟩) (by assumption) ?_
          · intro w hE
            go_simp
          refine wpAnyH_take (i := 1) (v := .int .i64 0) rfl (by kernel_rfl) (by kernel_rfl) (by kernel_rfl) (fun _ _ _ h => h) (Or.inl ⟨by kernel_rfl, ?_⟩) (by assumption) ?_
          · intro w hE
            have q0 := hE.cell m0
            go_simp
          refine wpAnyH_take (i := 2) (v := .bool true) rfl (by kernel_rfl) (by kernel_rfl) (by kernel_rfl) (fun _ _ _ h => h) (Or.inl ⟨by kernel_rfl, ?_⟩) (by assumption) ?_
          · intro w hE
            go_simp
          refine wpAnyH_take (i := 3) (v := .bool true) rfl (by kernel_rfl) (by kernel_rfl) (by kernel_rfl) (fun _ _ _ h => h) (Or.inl ⟨by kernel_rfl, ?_⟩) (by assumption) ?_
          · intro w hE
            go_simp
          refine wpAnyH_take (i := 4) (v := .int .u64 0) rfl (by kernel_rfl) (by kernel_rfl) (by kernel_rfl) (fun _ _ _ h => h) (Or.inl ⟨by kernel_rfl, ?_⟩) (by assumption) ?_
          · intro w hE
            go_simp
          refine wpAnyH_take (i := 5) (v := .bool true) rfl (by kernel_rfl) (by kernel_rfl) (by kernel_rfl) (fun _ _ _ h => h) (Or.inl ⟨by kernel_rfl, ?_⟩) (by assumption) ?_
          · intro w hE
            go_simp
          refine wpAnyH_take (i := 6) (v := .bool true) rfl (by kernel_rfl) (by kernel_rfl) (by kernel_rfl) (fun _ _ _ h => h) (Or.inl ⟨by kernel_rfl, ?_⟩) (by assumption) ?_
          · intro w hE
            go_simp
          refine wpAnyH_take (i := 7) (v := .pointer (some ⟨Nb, 1, none⟩)) rfl (by kernel_rfl) (by kernel_rfl) (by kernel_rfl) (fun _ _ _ h => h) (Or.inl ⟨by kernel_rfl, ?_⟩) (by assumption) ?_
          · intro w hE
            go_simp
          refine wpAnyH_take (i := 8) (v := .int .u64 (canon a)) rfl (by kernel_rfl) (by kernel_rfl) (by kernel_rfl) (fun _ _ _ h => h) (Or.inl ⟨by kernel_rfl, ?_⟩) (by assumption) ?_
          · intro w hE
            have q0 := hE.cell m1
            go_simp
          refine wpAnyH_take (i := 9) (v := .int .u64 a) rfl (by kernel_rfl) (by kernel_rfl) (by kernel_rfl) (fun _ _ _ h => h) (Or.inl ⟨by kernel_rfl, ?_⟩) (by assumption) ?_
          · intro w hE
            go_simp
          refine wpAnyH_ready (rs := [10]) (by kernel_rfl) (by simp) ?_
          refine AllReadyH.cons rfl (fun K hK => ?_) AllReadyH.nil
          go_simp
          refine (rcanon_any a _ HU.out.1.1 HU.out.1.2).mono ?_
          rintro e w6 ⟨rfl, rfl⟩
          refine hK.out _ _ (by assumption) (fun hHeld => ?_)
          clear hK K
          refine wpAnyH_take (i := 11) (v := .bool false) rfl (by kernel_rfl) (by kernel_rfl) (by kernel_rfl) (fun _ _ _ h => h) (Or.inl ⟨by kernel_rfl, ?_⟩) (by assumption) ?_
          · intro w hE
            go_simp
          refine wpAnyH_take (i := 12) (v := .bool false) rfl (by kernel_rfl) (by kernel_rfl) (by kernel_rfl) (fun _ _ _ h => h) (Or.inl ⟨by kernel_rfl, ?_⟩) (by assumption) ?_
          · intro w hE
            go_simp
          refine wpAnyH_take (i := 13) (v := .bool false) rfl (by kernel_rfl) (by kernel_rfl) (by kernel_rfl) (fun _ _ _ h => h) (Or.inl ⟨by kernel_rfl, ?_⟩) (by assumption) ?_
          · intro w hE
            go_simp
          refine wpAnyH_take (i := 14) (v := .int .u64 0) rfl (by kernel_rfl) (by kernel_rfl) (by kernel_rfl) (fun _ _ _ h => h) (Or.inl ⟨by kernel_rfl, ?_⟩) (by assumption) ?_
          · intro w hE
            go_simp
          refine wpAnyH_take (i := 15) (v := .bool false) rfl (by kernel_rfl) (by kernel_rfl) (by kernel_rfl) (fun _ _ _ h => h) (Or.inl ⟨by kernel_rfl, ?_⟩) (by assumption) ?_
          · intro w hE
            go_simp
          refine wpAnyH_take (i := 16) (v := .bool false) rfl (by kernel_rfl) (by kernel_rfl) (by kernel_rfl) (fun _ _ _ h => h) (Or.inl ⟨by kernel_rfl, ?_⟩) (by assumption) ?_
          · intro w hE
            go_simp
          refine wpAnyH_take (i := 17) (v := undef) rfl (by kernel_rfl) (by kernel_rfl) (by kernel_rfl) (fun _ _ _ h => h) (Or.inr ⟨by kernel_rfl, rfl⟩) (by assumption) ?_
          refine wpAnyH_take (i := 18) (v := undef) rfl (by kernel_rfl) (by kernel_rfl) (by kernel_rfl) (fun _ _ _ h => h) (Or.inr ⟨by kernel_rfl, rfl⟩) (by assumption) ?_
          refine wpAnyH_take (i := 19) (v := undef) rfl (by kernel_rfl) (by kernel_rfl) (by kernel_rfl) (fun _ _ _ h => h) (Or.inr ⟨by kernel_rfl, rfl⟩) (by assumption) ?_
          refine wpAnyH_take (i := 20) (v := undef) rfl (by kernel_rfl) (by kernel_rfl) (by kernel_rfl) (fun _ _ _ h => h) (Or.inr ⟨by kernel_rfl, rfl⟩) (by assumption) ?_
          refine wpAnyH_take (i := 21) (v := undef) rfl (by kernel_rfl) (by kernel_rfl) (by kernel_rfl) (fun _ _ _ h => h) (Or.inr ⟨by kernel_rfl, rfl⟩) (by assumption) ?_
          refine wpAnyH_take (i := 22) (v := .bool false) rfl (by kernel_rfl) (by kernel_rfl) (by kernel_rfl) (fun _ _ _ h => h) (Or.inl ⟨by kernel_rfl, ?_⟩) (by assumption) ?_
          · intro w hE
            go_simp
          refine wpAnyH_take (i := 23) (v := .bool false) rfl (by kernel_rfl) (by kernel_rfl) (by kernel_rfl) (fun _ _ _ h => h) (Or.inl ⟨by kernel_rfl, ?_⟩) (by assumption) ?_
          · intro w hE
            go_simp
          refine wpAnyH_take (i := 24) (v := .bool false) rfl (by kernel_rfl) (by kernel_rfl) (by kernel_rfl) (fun _ _ _ h => h) (Or.inl ⟨by kernel_rfl, ?_⟩) (by assumption) ?_
          · intro w hE
            go_simp
          refine wpAnyH_done (by kernel_rfl) ?_ _
          go_simp
          go_wp2_with (fail)
          go_meet
          exact ⟨rfl, _, rfl, by assumption⟩
        · have hls := h1 hb
          have HLs : RowKit.Hid (∀ W, _) := Lib.hid fun W => rless_any a n2 W HU.out.1.1 HU.out.1.2 hy.1 hy.2
          rw [hls] at HLs
          have hb1 : (b == 0) = false := by simpa using hb
          have hb2 : (b != 0) = true := by simpa using hb
          clear h0 h1 hy hls hb
          refine wp_region_held_drew (S := fun w' => Ext w10 w') (by kernel_rfl) (Ext.drew (Ext.refl w10)) (fun hHeld => ?_)
          refine wpAnyH_take (i := 0) (v := .pointer (some ⟨Nb, 0, none⟩)) rfl (by kernel_rfl) (by kernel_rfl) (by kernel_rfl) (fun _ _ _ h => h) (Or.inl ⟨by kernel_rfl, ?_⟩) (by assumption) ?_
          · intro w hE
            go_simp
          refine wpAnyH_take (i := 1) (v := .int .i64 0) rfl (by kernel_rfl) (by kernel_rfl) (by kernel_rfl) (fun _ _ _ h => h) (Or.inl ⟨by kernel_rfl, ?_⟩) (by assumption) ?_
          · intro w hE
            have q0 := hE.cell m0
            go_simp
          refine wpAnyH_take (i := 2) (v := .bool true) rfl (by kernel_rfl) (by kernel_rfl) (by kernel_rfl) (fun _ _ _ h => h) (Or.inl ⟨by kernel_rfl, ?_⟩) (by assumption) ?_
          · intro w hE
            go_simp
          refine wpAnyH_take (i := 3) (v := .bool true) rfl (by kernel_rfl) (by kernel_rfl) (by kernel_rfl) (fun _ _ _ h => h) (Or.inl ⟨by kernel_rfl, ?_⟩) (by assumption) ?_
          · intro w hE
            go_simp
          refine wpAnyH_take (i := 4) (v := .int .u64 b) rfl (by kernel_rfl) (by kernel_rfl) (by kernel_rfl) (fun _ _ _ h => h) (Or.inl ⟨by kernel_rfl, ?_⟩) (by assumption) ?_
          · intro w hE
            go_simp
          refine wpAnyH_take (i := 5) (v := .bool false) rfl (by kernel_rfl) (by kernel_rfl) (by kernel_rfl) (fun _ _ _ h => h) (Or.inl ⟨by kernel_rfl, ?_⟩) (by assumption) ?_
          · intro w hE
            go_simp
          refine wpAnyH_take (i := 6) (v := .bool false) rfl (by kernel_rfl) (by kernel_rfl) (by kernel_rfl) (fun _ _ _ h => h) (Or.inl ⟨by kernel_rfl, ?_⟩) (by assumption) ?_
          · intro w hE
            go_simp
          refine wpAnyH_take (i := 7) (v := undef) rfl (by kernel_rfl) (by kernel_rfl) (by kernel_rfl) (fun _ _ _ h => h) (Or.inr ⟨by kernel_rfl, rfl⟩) (by assumption) ?_
          refine wpAnyH_take (i := 8) (v := undef) rfl (by kernel_rfl) (by kernel_rfl) (by kernel_rfl) (fun _ _ _ h => h) (Or.inr ⟨by kernel_rfl, rfl⟩) (by assumption) ?_
          refine wpAnyH_take (i := 9) (v := undef) rfl (by kernel_rfl) (by kernel_rfl) (by kernel_rfl) (fun _ _ _ h => h) (Or.inr ⟨by kernel_rfl, rfl⟩) (by assumption) ?_
          refine wpAnyH_take (i := 10) (v := undef) rfl (by kernel_rfl) (by kernel_rfl) (by kernel_rfl) (fun _ _ _ h => h) (Or.inr ⟨by kernel_rfl, rfl⟩) (by assumption) ?_
          refine wpAnyH_take (i := 11) (v := undef) rfl (by kernel_rfl) (by kernel_rfl) (by kernel_rfl) (fun _ _ _ h => h) (Or.inr ⟨by kernel_rfl, rfl⟩) (by assumption) ?_
          refine wpAnyH_take (i := 12) (v := .bool false) rfl (by kernel_rfl) (by kernel_rfl) (by kernel_rfl) (fun _ _ _ h => h) (Or.inl ⟨by kernel_rfl, ?_⟩) (by assumption) ?_
          · intro w hE
            go_simp
          refine wpAnyH_take (i := 13) (v := .bool false) rfl (by kernel_rfl) (by kernel_rfl) (by kernel_rfl) (fun _ _ _ h => h) (Or.inl ⟨by kernel_rfl, ?_⟩) (by assumption) ?_
          · intro w hE
            go_simp
          refine wpAnyH_take (i := 14) (v := .int .u64 b) rfl (by kernel_rfl) (by kernel_rfl) (by kernel_rfl) (fun _ _ _ h => h) (Or.inl ⟨by kernel_rfl, ?_⟩) (by assumption) ?_
          · intro w hE
            go_simp
          refine wpAnyH_take (i := 15) (v := .bool true) rfl (by kernel_rfl) (by kernel_rfl) (by kernel_rfl) (fun _ _ _ h => h) (Or.inl ⟨by kernel_rfl, ?_⟩) (by assumption) ?_
          · intro w hE
            go_simp
          refine wpAnyH_take (i := 16) (v := .bool true) rfl (by kernel_rfl) (by kernel_rfl) (by kernel_rfl) (fun _ _ _ h => h) (Or.inl ⟨by kernel_rfl, ?_⟩) (by assumption) ?_
          · intro w hE
            go_simp
          refine wpAnyH_take (i := 17) (v := .int .u64 a) rfl (by kernel_rfl) (by kernel_rfl) (by kernel_rfl) (fun _ _ _ h => h) (Or.inl ⟨by kernel_rfl, ?_⟩) (by assumption) ?_
          · intro w hE
            go_simp
          refine wpAnyH_take (i := 18) (v := .pointer (some ⟨Nb, 1, none⟩)) rfl (by kernel_rfl) (by kernel_rfl) (by kernel_rfl) (fun _ _ _ h => h) (Or.inl ⟨by kernel_rfl, ?_⟩) (by assumption) ?_
          · intro w hE
            go_simp
          refine wpAnyH_take (i := 19) (v := .int .u64 n2) rfl (by kernel_rfl) (by kernel_rfl) (by kernel_rfl) (fun _ _ _ h => h) (Or.inl ⟨by kernel_rfl, ?_⟩) (by assumption) ?_
          · intro w hE
            have q0 := hE.cell m1
            go_simp
          refine wpAnyH_ready (rs := [20]) (by kernel_rfl) (by simp) ?_
          refine AllReadyH.cons rfl (fun K hK => ?_) AllReadyH.nil
          go_simp
          refine (HLs.out _).mono ?_
          rintro e w6 ⟨rfl, rfl⟩
          refine hK.out _ _ (by assumption) (fun hHeld => ?_)
          clear hK K
          refine wpAnyH_take (i := 21) (v := .bool false) rfl (by kernel_rfl) (by kernel_rfl) (by kernel_rfl) (fun _ _ _ h => h) (Or.inl ⟨by kernel_rfl, ?_⟩) (by assumption) ?_
          · intro w hE
            go_simp
          refine wpAnyH_take (i := 22) (v := .bool false) rfl (by kernel_rfl) (by kernel_rfl) (by kernel_rfl) (fun _ _ _ h => h) (Or.inl ⟨by kernel_rfl, ?_⟩) (by assumption) ?_
          · intro w hE
            go_simp
          refine wpAnyH_take (i := 23) (v := .bool false) rfl (by kernel_rfl) (by kernel_rfl) (by kernel_rfl) (fun _ _ _ h => h) (Or.inl ⟨by kernel_rfl, ?_⟩) (by assumption) ?_
          · intro w hE
            go_simp
          refine wpAnyH_take (i := 24) (v := .bool false) rfl (by kernel_rfl) (by kernel_rfl) (by kernel_rfl) (fun _ _ _ h => h) (Or.inl ⟨by kernel_rfl, ?_⟩) (by assumption) ?_
          · intro w hE
            go_simp
          refine wpAnyH_done (by kernel_rfl) ?_ _
          go_simp
          go_wp2_with (fail)
          go_meet
          exact ⟨rfl, _, rfl, by assumption⟩
    case rest =>
      obtain ⟨rfl, w11, rfl, e11⟩ := hcut
      clear HN m0 m1
      have HE11 := Lib.hid (HE9.out.trans e11)
      obtain ⟨hf1, hf2, hf3⟩ := floats_reg HU.out.1 HU.out.2.1
      have hCd : Cb (w11.alloc (.cells #[.int .i64 1, .int .i64 1, .int .i64 1] 24)) w11.heap.size [.int .i64 1, .int .i64 1, .int .i64 1] := Cb.new w11 _ _
      obtain ⟨c0, c1, c2⟩ := hCd.three
      have HD := do_all2 1 1 1 nilSl nilSl nilSl zeroS ⟨2, 0, a⟩ (w11.alloc (.cells #[.int .i64 1, .int .i64 1, .int .i64 1] 24)) (ss_zero _) (wc_val (by decide) HU.out.1)
      rw [do_f (s := zeroS) (show rightS 1 1 1 zeroS = true from reg_right (by decide)) hf1] at HD
      have HDo := Lib.hid HD
      have HCd := Lib.hid hCd
      have HF2 := Lib.hid hf2
      have HF3 := Lib.hid hf3
      clear HD hCd hf1 hf2 hf3 HE9 e11
      dsimp only [cf, sv, sc, opv, zeroS, nilSl] at *
      go_wp2_with (fail)
      refine HDo.out.mono ?_
      rintro e w12 ⟨e12, ⟨ka5, kn5, kc5⟩, ⟨va5, vn5, vc5⟩, ⟨ta5, tn5, tc5⟩, rfl, S12, _⟩
      clear HDo c0 c1 c2
      dsimp only [sv, rv] at *
      have hE12 : Ext (w11.alloc (.cells #[.int .i64 1, .int .i64 1, .int .i64 1] 24)) ((w12.alloc (.cells #[.int .u64 (canon a), .slice ka5 kn5 kc5, .slice va5 vn5 vc5, .slice ta5 tn5 tc5, .bool false] 30)).alloc (.cells #[.int .i64 0, .int .u64 0] 51)) := (e12.alloc _).alloc _
      have hCu : Cb ((w12.alloc (.cells #[.int .u64 (canon a), .slice ka5 kn5 kc5, .slice va5 vn5 vc5, .slice ta5 tn5 tc5, .bool false] 30)).alloc (.cells #[.int .i64 0, .int .u64 0] 51)) w12.heap.size (sc (canon a) ⟨ka5, kn5, kc5⟩ ⟨va5, vn5, vc5⟩ ⟨ta5, tn5, tc5⟩ false) := by repeat (first | ((with_reducible refine Cb.at _ rfl ?_); (simp; done)) | with_reducible refine Cb.alloc ?_ _)
      have hSu := S12.ext ((Ext.new w12 (.cells #[.int .u64 (canon a), .slice ka5 kn5 kc5, .slice va5 vn5 vc5, .slice ta5 tn5 tc5, .bool false] 30)).alloc (.cells #[.int .i64 0, .int .u64 0] 51))
      have HD := do_all2 1 1 1 ⟨ka5, kn5, kc5⟩ ⟨va5, vn5, vc5⟩ ⟨ta5, tn5, tc5⟩ ⟨canon a, [], [], [], false⟩ ⟨4, 0, b⟩ _ hSu (wc_val (by decide) HU.out.2.1)
      rw [do_f (reg_right (canon_canon a)) HF2.out] at HD
      have HDo := Lib.hid HD
      have hCd := HCd.out.ext hE12
      obtain ⟨c0, c1, c2⟩ := hCd.three
      obtain ⟨u0, u1, u2, u3, u4⟩ := hCu.five
      have HB := Lib.hid (And.intro hCu (And.intro hSu (And.intro hCd ((HE11.out.alloc _).trans hE12))))
      clear HD hCu hSu hCd hE12 e12 S12 HCd HE11 HF2
      dsimp only [cf, sv, sc, opv] at *
      go_wp2_with (fail)
      refine HDo.out.mono ?_
      rintro e w13 ⟨e13, ⟨ka7, kn7, kc7⟩, ⟨va7, vn7, vc7⟩, ⟨ta7, tn7, tc7⟩, rfl, _, _⟩
      clear HDo c0 c1 c2 u0 u1 u2 u3 u4
      dsimp only [sv, rv] at *
      have hE13 : Ext ((w12.alloc (.cells #[.int .u64 (canon a), .slice ka5 kn5 kc5, .slice va5 vn5 vc5, .slice ta5 tn5 tc5, .bool false] 30)).alloc (.cells #[.int .i64 0, .int .u64 0] 51)) ((w13.alloc (.cells #[.int .u64 (sumOf a b), .slice ka7 kn7 kc7, .slice va7 vn7 vc7, .slice ta7 tn7 tc7, .bool false] 30)).alloc (.cells #[.int .i64 0, .int .u64 (sumOf a b)] 51)) := (e13.alloc _).alloc _
      have hCv : Cb ((w13.alloc (.cells #[.int .u64 (sumOf a b), .slice ka7 kn7 kc7, .slice va7 vn7 vc7, .slice ta7 tn7 tc7, .bool false] 30)).alloc (.cells #[.int .i64 0, .int .u64 (sumOf a b)] 51)) w13.heap.size (sc (sumOf a b) ⟨ka7, kn7, kc7⟩ ⟨va7, vn7, vc7⟩ ⟨ta7, tn7, tc7⟩ false) := by repeat (first | ((with_reducible refine Cb.at _ rfl ?_); (simp; done)) | with_reducible refine Cb.alloc ?_ _)
      have hCq : Cb ((w13.alloc (.cells #[.int .u64 (sumOf a b), .slice ka7 kn7 kc7, .slice va7 vn7 vc7, .slice ta7 tn7 tc7, .bool false] 30)).alloc (.cells #[.int .i64 0, .int .u64 (sumOf a b)] 51)) (w13.heap.size + 1) [.int .i64 0, .int .u64 (sumOf a b)] := by repeat (first | ((with_reducible refine Cb.at _ rfl ?_); (simp; done)) | with_reducible refine Cb.alloc ?_ _)
      obtain ⟨hCu, hSu, hCd, hE⟩ := HB.out
      have hCu3 := hCu.ext hE13
      have hCd3 := hCd.ext hE13
      have HD := do_all2 1 1 1 ⟨ka5, kn5, kc5⟩ ⟨va5, vn5, vc5⟩ ⟨ta5, tn5, tc5⟩ ⟨canon a, [], [], [], false⟩ ⟨3, 0, b⟩ _ (hSu.ext hE13) (wc_val (by decide) HU.out.2.1)
      rw [do_f (reg_right (canon_canon a)) HF3.out] at HD
      have HDo := Lib.hid HD
      obtain ⟨c0, c1, c2⟩ := hCd3.three
      obtain ⟨u0, u1, u2, u3, u4⟩ := hCu3.five
      have HB2 := Lib.hid (And.intro hCu3 (And.intro hCv (And.intro hCq (hE.trans hE13))))
      clear HD hCu hSu hCd hE hCu3 hCd3 hCv hCq hE13 e13 HB HF3
      dsimp only [cf, sv, sc, opv] at *
      go_wp2_with (fail)
      refine HDo.out.mono ?_
      rintro e w14 ⟨e14, ⟨ka8, kn8, kc8⟩, ⟨va8, vn8, vc8⟩, ⟨ta8, tn8, tc8⟩, rfl, _, _⟩
      clear HDo c0 c1 c2 u0 u1 u2 u3 u4
      dsimp only [sv, rv] at *
      have hE14 : Ext ((w13.alloc (.cells #[.int .u64 (sumOf a b), .slice ka7 kn7 kc7, .slice va7 vn7 vc7, .slice ta7 tn7 tc7, .bool false] 30)).alloc (.cells #[.int .i64 0, .int .u64 (sumOf a b)] 51)) ((w14.alloc (.cells #[.int .u64 (maxOf a b), .slice ka8 kn8 kc8, .slice va8 vn8 vc8, .slice ta8 tn8 tc8, .bool false] 30)).alloc (.cells #[.int .i64 0, .int .u64 (maxOf a b)] 51)) := (e14.alloc _).alloc _
      have hCm : Cb ((w14.alloc (.cells #[.int .u64 (maxOf a b), .slice ka8 kn8 kc8, .slice va8 vn8 vc8, .slice ta8 tn8 tc8, .bool false] 30)).alloc (.cells #[.int .i64 0, .int .u64 (maxOf a b)] 51)) w14.heap.size (sc (maxOf a b) ⟨ka8, kn8, kc8⟩ ⟨va8, vn8, vc8⟩ ⟨ta8, tn8, tc8⟩ false) := by repeat (first | ((with_reducible refine Cb.at _ rfl ?_); (simp; done)) | with_reducible refine Cb.alloc ?_ _)
      have hCp : Cb ((w14.alloc (.cells #[.int .u64 (maxOf a b), .slice ka8 kn8 kc8, .slice va8 vn8 vc8, .slice ta8 tn8 tc8, .bool false] 30)).alloc (.cells #[.int .i64 0, .int .u64 (maxOf a b)] 51)) (w14.heap.size + 1) [.int .i64 0, .int .u64 (maxOf a b)] := by repeat (first | ((with_reducible refine Cb.at _ rfl ?_); (simp; done)) | with_reducible refine Cb.alloc ?_ _)
      obtain ⟨hCu, hCv, hCq, hE⟩ := HB2.out
      have hCu4 := hCu.ext hE14
      have hCv4 := hCv.ext hE14
      have hCq4 := hCq.ext hE14
      have hE4 := hE.trans hE14
      clear hCu hCv hCq hE hE14 e14 HB2
      go_wp2_with (fail)
      generalize ((w14.alloc (.cells #[.int .u64 (maxOf a b), .slice ka8 kn8 kc8, .slice va8 vn8 vc8, .slice ta8 tn8 tc8, .bool false] 30)).alloc (.cells #[.int .i64 0, .int .u64 (maxOf a b)] 51)) = w15 at hCu4 hCv4 hCq4 hE4 hCm hCp ⊢
      generalize w14.heap.size + 1 = Pb at hCp ⊢
      generalize w14.heap.size = Mb at hCm ⊢
      generalize w13.heap.size + 1 = Qb at hCq4 ⊢
      generalize w13.heap.size = Vb at hCv4 ⊢
      generalize w12.heap.size = Ub at hCu4 ⊢
      obtain ⟨u0, _⟩ := hCu4.five
      obtain ⟨v0, _⟩ := hCv4.five
      obtain ⟨q0, q1'⟩ := hCq4.two
      obtain ⟨m0, _⟩ := hCm.five
      obtain ⟨p0, p1⟩ := hCp.two
      have HE := Lib.hid hE4
      clear hCu4 hCv4 hCq4 hCm hCp hE4
      try dsimp only [sc] at *
      refine wp_region_held_drew (S := fun w' => Ext w15 w') (by kernel_rfl) (Ext.drew (Ext.refl w15)) (fun hHeld => ?_)
      refine wpAnyH_take (i := 0) (v := .bool true) rfl (by kernel_rfl) (by kernel_rfl) (by kernel_rfl) (fun _ _ _ h => h) (Or.inl ⟨by kernel_rfl, ?_⟩) (by assumption) ?_
      · intro w hE
        go_simp
      refine wpAnyH_take (i := 1) (v := .bool true) rfl (by kernel_rfl) (by kernel_rfl) (by kernel_rfl) (fun _ _ _ h => h) (Or.inl ⟨by kernel_rfl, ?_⟩) (by assumption) ?_
      · intro w hE
        go_simp
      refine wpAnyH_take (i := 2) (v := .int .i64 0) rfl (by kernel_rfl) (by kernel_rfl) (by kernel_rfl) (fun _ _ _ h => h) (Or.inl ⟨by kernel_rfl, ?_⟩) (by assumption) ?_
      · intro w hE
        go_simp
      refine wpAnyH_take (i := 3) (v := .bool true) rfl (by kernel_rfl) (by kernel_rfl) (by kernel_rfl) (fun _ _ _ h => h) (Or.inl ⟨by kernel_rfl, ?_⟩) (by assumption) ?_
      · intro w hE
        go_simp
      refine wpAnyH_take (i := 4) (v := .bool true) rfl (by kernel_rfl) (by kernel_rfl) (by kernel_rfl) (fun _ _ _ h => h) (Or.inl ⟨by kernel_rfl, ?_⟩) (by assumption) ?_
      · intro w hE
        go_simp
      refine wpAnyH_take (i := 5) (v := .bool true) rfl (by kernel_rfl) (by kernel_rfl) (by kernel_rfl) (fun _ _ _ h => h) (Or.inl ⟨by kernel_rfl, ?_⟩) (by assumption) ?_
      · intro w hE
        go_simp
      refine wpAnyH_take (i := 6) (v := .int .i64 0) rfl (by kernel_rfl) (by kernel_rfl) (by kernel_rfl) (fun _ _ _ h => h) (Or.inl ⟨by kernel_rfl, ?_⟩) (by assumption) ?_
      · intro w hE
        go_simp
      refine wpAnyH_take (i := 7) (v := .bool true) rfl (by kernel_rfl) (by kernel_rfl) (by kernel_rfl) (fun _ _ _ h => h) (Or.inl ⟨by kernel_rfl, ?_⟩) (by assumption) ?_
      · intro w hE
        go_simp
      refine wpAnyH_take (i := 8) (v := .bool true) rfl (by kernel_rfl) (by kernel_rfl) (by kernel_rfl) (fun _ _ _ h => h) (Or.inl ⟨by kernel_rfl, ?_⟩) (by assumption) ?_
      · intro w hE
        go_simp
      refine wpAnyH_take (i := 9) (v := .bool true) rfl (by kernel_rfl) (by kernel_rfl) (by kernel_rfl) (fun _ _ _ h => h) (Or.inl ⟨by kernel_rfl, ?_⟩) (by assumption) ?_
      · intro w hE
        go_simp
      refine wpAnyH_take (i := 10) (v := .int .i64 0) rfl (by kernel_rfl) (by kernel_rfl) (by kernel_rfl) (fun _ _ _ h => h) (Or.inl ⟨by kernel_rfl, ?_⟩) (by assumption) ?_
      · intro w hE
        go_simp
      refine wpAnyH_take (i := 11) (v := .bool true) rfl (by kernel_rfl) (by kernel_rfl) (by kernel_rfl) (fun _ _ _ h => h) (Or.inl ⟨by kernel_rfl, ?_⟩) (by assumption) ?_
      · intro w hE
        go_simp
      refine wpAnyH_take (i := 12) (v := .bool true) rfl (by kernel_rfl) (by kernel_rfl) (by kernel_rfl) (fun _ _ _ h => h) (Or.inl ⟨by kernel_rfl, ?_⟩) (by assumption) ?_
      · intro w hE
        go_simp
      refine wpAnyH_take (i := 13) (v := .bool true) rfl (by kernel_rfl) (by kernel_rfl) (by kernel_rfl) (fun _ _ _ h => h) (Or.inl ⟨by kernel_rfl, ?_⟩) (by assumption) ?_
      · intro w hE
        go_simp
      refine wpAnyH_take (i := 14) (v := .pointer (some ⟨Ub, 0, none⟩)) rfl (by kernel_rfl) (by kernel_rfl) (by kernel_rfl) (fun _ _ _ h => h) (Or.inl ⟨by kernel_rfl, ?_⟩) (by assumption) ?_
      · intro w hE
        go_simp
      refine wpAnyH_take (i := 15) (v := .int .u64 (canon a)) rfl (by kernel_rfl) (by kernel_rfl) (by kernel_rfl) (fun _ _ _ h => h) (Or.inl ⟨by kernel_rfl, ?_⟩) (by assumption) ?_
      · intro w hE
        have q0 := hE.cell u0
        go_simp
      refine wpAnyH_take (i := 16) (v := .int .u64 a) rfl (by kernel_rfl) (by kernel_rfl) (by kernel_rfl) (fun _ _ _ h => h) (Or.inl ⟨by kernel_rfl, ?_⟩) (by assumption) ?_
      · intro w hE
        go_simp
      refine wpAnyH_ready (rs := [17]) (by kernel_rfl) (by simp) ?_
      refine AllReadyH.cons rfl (fun K hK => ?_) AllReadyH.nil
      go_simp
      refine (rcanon_any a _ HU.out.1.1 HU.out.1.2).mono ?_
      rintro e w16 ⟨rfl, rfl⟩
      refine hK.out _ _ (by assumption) (fun hHeld => ?_)
      clear hK K
      refine wpAnyH_take (i := 18) (v := .bool true) rfl (by kernel_rfl) (by kernel_rfl) (by kernel_rfl) (fun _ _ _ h => h) (Or.inl ⟨by kernel_rfl, ?_⟩) (by assumption) ?_
      · intro w hE
        go_simp
      refine wpAnyH_take (i := 19) (v := .bool true) rfl (by kernel_rfl) (by kernel_rfl) (by kernel_rfl) (fun _ _ _ h => h) (Or.inl ⟨by kernel_rfl, ?_⟩) (by assumption) ?_
      · intro w hE
        go_simp
      refine wpAnyH_take (i := 20) (v := .bool true) rfl (by kernel_rfl) (by kernel_rfl) (by kernel_rfl) (fun _ _ _ h => h) (Or.inl ⟨by kernel_rfl, ?_⟩) (by assumption) ?_
      · intro w hE
        go_simp
      refine wpAnyH_take (i := 21) (v := .pointer (some ⟨Vb, 0, none⟩)) rfl (by kernel_rfl) (by kernel_rfl) (by kernel_rfl) (fun _ _ _ h => h) (Or.inl ⟨by kernel_rfl, ?_⟩) (by assumption) ?_
      · intro w hE
        go_simp
      refine wpAnyH_take (i := 22) (v := .int .u64 (sumOf a b)) rfl (by kernel_rfl) (by kernel_rfl) (by kernel_rfl) (fun _ _ _ h => h) (Or.inl ⟨by kernel_rfl, ?_⟩) (by assumption) ?_
      · intro w hE
        have q0 := hE.cell v0
        go_simp
      refine wpAnyH_take (i := 23) (v := .int .u64 a) rfl (by kernel_rfl) (by kernel_rfl) (by kernel_rfl) (fun _ _ _ h => h) (Or.inl ⟨by kernel_rfl, ?_⟩) (by assumption) ?_
      · intro w hE
        go_simp
      refine wpAnyH_take (i := 24) (v := .int .u64 b) rfl (by kernel_rfl) (by kernel_rfl) (by kernel_rfl) (fun _ _ _ h => h) (Or.inl ⟨by kernel_rfl, ?_⟩) (by assumption) ?_
      · intro w hE
        go_simp
      refine wpAnyH_ready (rs := [25]) (by kernel_rfl) (by simp) ?_
      refine AllReadyH.cons rfl (fun K hK => ?_) AllReadyH.nil
      go_simp
      refine (rsum_any a b _ HU.out.1.1 HU.out.1.2 HU.out.2.1.1 HU.out.2.1.2).mono ?_
      rintro e w16 ⟨rfl, rfl⟩
      refine hK.out _ _ (by assumption) (fun hHeld => ?_)
      clear hK K
      refine wpAnyH_take (i := 26) (v := .bool true) rfl (by kernel_rfl) (by kernel_rfl) (by kernel_rfl) (fun _ _ _ h => h) (Or.inl ⟨by kernel_rfl, ?_⟩) (by assumption) ?_
      · intro w hE
        go_simp
      refine wpAnyH_take (i := 27) (v := .bool true) rfl (by kernel_rfl) (by kernel_rfl) (by kernel_rfl) (fun _ _ _ h => h) (Or.inl ⟨by kernel_rfl, ?_⟩) (by assumption) ?_
      · intro w hE
        go_simp
      refine wpAnyH_take (i := 28) (v := .bool true) rfl (by kernel_rfl) (by kernel_rfl) (by kernel_rfl) (fun _ _ _ h => h) (Or.inl ⟨by kernel_rfl, ?_⟩) (by assumption) ?_
      · intro w hE
        go_simp
      refine wpAnyH_take (i := 29) (v := .agg #[.int .i64 0, .int .u64 (sumOf a b)]) rfl (by kernel_rfl) (by kernel_rfl) (by kernel_rfl) (fun _ _ _ h => h) (Or.inl ⟨by kernel_rfl, ?_⟩) (by assumption) ?_
      · intro w hE
        have q0 := hE.cell q0
        have q1 := hE.cell q1'
        go_simp
      refine wpAnyH_take (i := 30) (v := .pointer (some ⟨Vb, 0, none⟩)) rfl (by kernel_rfl) (by kernel_rfl) (by kernel_rfl) (fun _ _ _ h => h) (Or.inl ⟨by kernel_rfl, ?_⟩) (by assumption) ?_
      · intro w hE
        go_simp
      refine wpAnyH_take (i := 31) (v := .int .u64 (sumOf a b)) rfl (by kernel_rfl) (by kernel_rfl) (by kernel_rfl) (fun _ _ _ h => h) (Or.inl ⟨by kernel_rfl, ?_⟩) (by assumption) ?_
      · intro w hE
        have q0 := hE.cell v0
        go_simp
      refine wpAnyH_take (i := 32) (v := .agg #[.int .i64 0, .int .u64 (sumOf a b)]) rfl (by kernel_rfl) (by kernel_rfl) (by kernel_rfl) (fun _ _ _ h => h) (Or.inl ⟨by kernel_rfl, ?_⟩) (by assumption) ?_
      · intro w hE
        go_simp
      refine wpAnyH_take (i := 33) (v := .bool true) rfl (by kernel_rfl) (by kernel_rfl) (by kernel_rfl) (fun _ _ _ h => h) (Or.inl ⟨by kernel_rfl, ?_⟩) (by assumption) ?_
      · intro w hE
        go_simp
      refine wpAnyH_take (i := 34) (v := .bool true) rfl (by kernel_rfl) (by kernel_rfl) (by kernel_rfl) (fun _ _ _ h => h) (Or.inl ⟨by kernel_rfl, ?_⟩) (by assumption) ?_
      · intro w hE
        go_simp
      refine wpAnyH_take (i := 35) (v := .bool true) rfl (by kernel_rfl) (by kernel_rfl) (by kernel_rfl) (fun _ _ _ h => h) (Or.inl ⟨by kernel_rfl, ?_⟩) (by assumption) ?_
      · intro w hE
        go_simp
      refine wpAnyH_take (i := 36) (v := .pointer (some ⟨Mb, 0, none⟩)) rfl (by kernel_rfl) (by kernel_rfl) (by kernel_rfl) (fun _ _ _ h => h) (Or.inl ⟨by kernel_rfl, ?_⟩) (by assumption) ?_
      · intro w hE
        go_simp
      refine wpAnyH_take (i := 37) (v := .int .u64 (maxOf a b)) rfl (by kernel_rfl) (by kernel_rfl) (by kernel_rfl) (fun _ _ _ h => h) (Or.inl ⟨by kernel_rfl, ?_⟩) (by assumption) ?_
      · intro w hE
        have q0 := hE.cell m0
        go_simp
      refine wpAnyH_take (i := 38) (v := .int .u64 a) rfl (by kernel_rfl) (by kernel_rfl) (by kernel_rfl) (fun _ _ _ h => h) (Or.inl ⟨by kernel_rfl, ?_⟩) (by assumption) ?_
      · intro w hE
        go_simp
      refine wpAnyH_take (i := 39) (v := .int .u64 b) rfl (by kernel_rfl) (by kernel_rfl) (by kernel_rfl) (fun _ _ _ h => h) (Or.inl ⟨by kernel_rfl, ?_⟩) (by assumption) ?_
      · intro w hE
        go_simp
      refine wpAnyH_ready (rs := [40]) (by kernel_rfl) (by simp) ?_
      refine AllReadyH.cons rfl (fun K hK => ?_) AllReadyH.nil
      go_simp
      refine (rmax_any a b _ HU.out.1.1 HU.out.1.2 HU.out.2.1.1 HU.out.2.1.2).mono ?_
      rintro e w16 ⟨rfl, rfl⟩
      refine hK.out _ _ (by assumption) (fun hHeld => ?_)
      clear hK K
      refine wpAnyH_take (i := 41) (v := .bool true) rfl (by kernel_rfl) (by kernel_rfl) (by kernel_rfl) (fun _ _ _ h => h) (Or.inl ⟨by kernel_rfl, ?_⟩) (by assumption) ?_
      · intro w hE
        go_simp
      refine wpAnyH_take (i := 42) (v := .bool true) rfl (by kernel_rfl) (by kernel_rfl) (by kernel_rfl) (fun _ _ _ h => h) (Or.inl ⟨by kernel_rfl, ?_⟩) (by assumption) ?_
      · intro w hE
        go_simp
      refine wpAnyH_take (i := 43) (v := .bool true) rfl (by kernel_rfl) (by kernel_rfl) (by kernel_rfl) (fun _ _ _ h => h) (Or.inl ⟨by kernel_rfl, ?_⟩) (by assumption) ?_
      · intro w hE
        go_simp
      refine wpAnyH_take (i := 44) (v := .agg #[.int .i64 0, .int .u64 (maxOf a b)]) rfl (by kernel_rfl) (by kernel_rfl) (by kernel_rfl) (fun _ _ _ h => h) (Or.inl ⟨by kernel_rfl, ?_⟩) (by assumption) ?_
      · intro w hE
        have q0 := hE.cell p0
        have q1 := hE.cell p1
        go_simp
      refine wpAnyH_take (i := 45) (v := .pointer (some ⟨Mb, 0, none⟩)) rfl (by kernel_rfl) (by kernel_rfl) (by kernel_rfl) (fun _ _ _ h => h) (Or.inl ⟨by kernel_rfl, ?_⟩) (by assumption) ?_
      · intro w hE
        go_simp
      refine wpAnyH_take (i := 46) (v := .int .u64 (maxOf a b)) rfl (by kernel_rfl) (by kernel_rfl) (by kernel_rfl) (fun _ _ _ h => h) (Or.inl ⟨by kernel_rfl, ?_⟩) (by assumption) ?_
      · intro w hE
        have q0 := hE.cell m0
        go_simp
      refine wpAnyH_take (i := 47) (v := .agg #[.int .i64 0, .int .u64 (maxOf a b)]) rfl (by kernel_rfl) (by kernel_rfl) (by kernel_rfl) (fun _ _ _ h => h) (Or.inl ⟨by kernel_rfl, ?_⟩) (by assumption) ?_
      · intro w hE
        go_simp
      refine wpAnyH_take (i := 48) (v := .bool true) rfl (by kernel_rfl) (by kernel_rfl) (by kernel_rfl) (fun _ _ _ h => h) (Or.inl ⟨by kernel_rfl, ?_⟩) (by assumption) ?_
      · intro w hE
        go_simp
      refine wpAnyH_take (i := 49) (v := .bool true) rfl (by kernel_rfl) (by kernel_rfl) (by kernel_rfl) (fun _ _ _ h => h) (Or.inl ⟨by kernel_rfl, ?_⟩) (by assumption) ?_
      · intro w hE
        go_simp
      refine wpAnyH_take (i := 50) (v := .bool true) rfl (by kernel_rfl) (by kernel_rfl) (by kernel_rfl) (fun _ _ _ h => h) (Or.inl ⟨by kernel_rfl, ?_⟩) (by assumption) ?_
      · intro w hE
        go_simp
      refine wpAnyH_done (by kernel_rfl) ?_ _
      go_simp
      have HEz := Lib.hid (HE.out.trans hHeld)
      clear HE hHeld
      go_wp2_with (fail)
      go_ret
      exact ⟨rfl, HEz.out⟩

end Go.Proofs.YtdipddnnckfnmaaGreat.Law

/- LawPuts:
  AutoPuts: the walk. Conditions: integers' bounds; the raw calls can be read.
-/
namespace Go.Proofs.YtdipddnnckfnmaaGreat.Law
open Go.RowKit (Below intOf)
open Go.Proofs.YtdipddnnckfnmaaGreat.Aut
open Go.Proofs.YtdipddnnckfnmaaGreat.Lan (DoE DoE2 opv do_all do_all2)
open Go.Proofs.YtdipddnnckfnmaaGreat.Reg (cf bx fits_any)

def puDeps : Nat → List Nat := fun i => match i with | 3 => [2] | 8 => [3] | 9 => [8] | _ => []
def puSlots : Nat → Option Tmp := fun i => match i with | 2 => some 57 | 3 => some 58 | 8 => some 63 | 9 => some 64 | 10 => some 12 | _ => none
def PuF (P K1 b0 c0 k p m : Int) (wr : World) : Nat → (Nat → Value) → World → Prop := fun i vs w' => match i with
  | 2 => vs 2 = .int .i64 P
  | 3 => vs 3 = .int .i64 K1
  | 8 => vs 8 = .agg #[.int .i64 K1, .int .i64 b0, .int .i64 c0]
  | 9 => vs 9 = cf k p m
  | 10 => ∃ B : Nat, vs 10 = .pointer (some ⟨B, 0, none⟩) ∧ wr.heap.size ≤ B ∧ Cb w' B [.int .i64 0, .int .i64 0, .int .i64 0]
  | _ => True
theorem puF_loc {P K1 b0 c0 k p m : Int} {wr : World} : ∀ i vs vs' w, (∀ j, j = i ∨ j ∈ puDeps i → vs j = vs' j) → PuF P K1 b0 c0 k p m wr i vs w → PuF P K1 b0 c0 k p m wr i vs' w := by
  intro i vs vs' w h hF
  unfold PuF at hF ⊢
  split at hF
  · exact (h 2 (.inl rfl)).symm.trans hF
  · exact (h 3 (.inl rfl)).symm.trans hF
  · exact (h 8 (.inl rfl)).symm.trans hF
  · exact (h 9 (.inl rfl)).symm.trans hF
  · obtain ⟨B, h1, h2⟩ := hF; exact ⟨B, (h 10 (.inl rfl)).symm.trans h1, h2⟩
  · trivial
theorem puF_stab {P K1 b0 c0 k p m : Int} {wr : World} : ∀ i vs w w', Ext w w' → PuF P K1 b0 c0 k p m wr i vs w → PuF P K1 b0 c0 k p m wr i vs w' := by
  intro i vs w w' h hF
  unfold PuF at hF ⊢
  split at hF <;> first | exact hF | (obtain ⟨B, h1, h2, h3⟩ := hF; exact ⟨B, h1, h2, h3.ext h⟩) | trivial
theorem wc_pc {k a v : Int} (_ : keyed k = true) (ha : U64 a) (hv : U64 v) : Wc ⟨putC k, a, v⟩ := ⟨by unfold putC I64; simp only; split <;> omega, ha, hv⟩
theorem wc_gc {k a : Int} (_ : keyed k = true) (ha : U64 a) : Wc ⟨getC k, a, 0⟩ := ⟨by unfold getC I64; simp only; split <;> omega, ha, by unfold U64; simp⟩
theorem wc_nx {a : Int} (ha : U64 a) : Wc ⟨8, a, 0⟩ := ⟨by unfold I64; simp, ha, by unfold U64; simp⟩
theorem wc_dl {a : Int} (ha : U64 a) : Wc ⟨7, a, 0⟩ := ⟨by unfold I64; simp, ha, by unfold U64; simp⟩
theorem keyed_pick (a : Int) : keyed (1 + pickZ (1 + pickZ a 3) 5) = true := by
  have h0 := pick_ge a (n := 3) (by decide)
  have h1 := pick_lt a (n := 3) (by decide)
  generalize pickZ a 3 = P at *
  unfold pickZ keyed
  rw [if_neg (by omega)]
  refine decide_eq_true ?_
  omega
set_option maxHeartbeats 16000000 in
set_option maxRecDepth 100000 in
theorem puts_walk (a0 b0 c0' one two v : Int) (s1 : Option Addr) (n1 c1' : Nat) (w : World) (ha : I64 a0) (hb : I64 b0) (hc : I64 c0') (hT : TS w s1 n1) (h1 : I64 one) (h2 : I64 two) (hv : U64 v) :
    Calls Tryz.prog 6 #[.agg #[.int .i64 a0, .int .i64 b0, .int .i64 c0'], .slice s1 n1 c1', .int .i64 one, .int .i64 two, .int .u64 v] w fun e w' => e = .returned (.bool true) ∧ Ext w w' := by
  have HA := Lib.hid (fun W => awake_any do_all W)
  have hP0 := pick_ge a0 (n := 3) (by decide)
  have hP1 := pick_lt a0 (n := 3) (by decide)
  have HPk := Lib.hid (fun W => pick_any a0 3 W ha (by decide))
  have HCo := Lib.hid (fun W => conf_any (1 + pickZ a0 3) b0 c0' W (by unfold I64; omega) hb hc)
  have hfit := conf_fits (1 + pickZ a0 3) b0 c0'
  have hky := keyed_pick a0
  generalize 1 + pickZ (1 + pickZ a0 3) 5 = k at *
  generalize 1 + pickZ b0 16 = p at *
  generalize 1 + pickZ c0' 12 = m at *
  obtain ⟨K1, hK1⟩ : ∃ K1, 1 + pickZ a0 3 = K1 := ⟨_, rfl⟩
  have hw1 : IntKind.i64.wrap (1 + pickZ a0 3) = K1 := by simp only [IntKind.wrap_i64]; omega
  rw [hK1] at HCo
  generalize pickZ a0 3 = P at *
  have HK1 := Lib.hid hw1
  have HF := Lib.hid hfit
  have HKy := Lib.hid hky
  have HT := Lib.hid hT
  have HU := Lib.hid hv
  have H1 := Lib.hid h1
  have H2 := Lib.hid h2
  have HB0 := Lib.hid (show Cb (w.alloc (.cells #[.int .i64 a0, .int .i64 b0, .int .i64 c0'] 22)) w.heap.size [.int .i64 a0, .int .i64 b0, .int .i64 c0'] from Cb.new w _ _)
  have HX0 := Lib.hid (Ext.new w (.cells #[.int .i64 a0, .int .i64 b0, .int .i64 c0'] 22))
  clear hfit hky hT hv h1 h2 ha hb hc hw1 hP0 hP1 hK1
  go_enter Tryz.func6, Tryz.ntmps6
  go_wp2_with (fail)
  refine (HA.out _).mono ?_
  rintro e w1 ⟨rfl, e1⟩
  have hN := HB0.out.ext e1
  have HE1 := Lib.hid (HX0.out.trans e1)
  obtain ⟨i0, i1, i2⟩ := hN.three
  clear HB0 HX0 HA e1 hN
  go_wp2_with (fail)
  refine wp_region_held_drew (S := fun w' => Ext w1 w') (by kernel_rfl) (Ext.drew (Ext.refl w1)) (fun hHeld => ?_)
  refine wpAnyH_take (i := 0) (v := .pointer (some ⟨w.heap.size, 0, none⟩)) rfl (by kernel_rfl) (by kernel_rfl) (by kernel_rfl) (fun _ _ _ h => h) (Or.inl ⟨by kernel_rfl, ?_⟩) (by assumption) ?_
  · intro w hE
    go_simp
  refine wpAnyH_take (i := 1) (v := .int .i64 a0) rfl (by kernel_rfl) (by kernel_rfl) (by kernel_rfl) (fun _ _ _ h => h) (Or.inl ⟨by kernel_rfl, ?_⟩) (by assumption) ?_
  · intro w hE
    have q0 := hE.cell i0
    go_simp
  refine wpAnyH_take (i := 4) (v := .pointer (some ⟨w.heap.size, 1, none⟩)) rfl (by kernel_rfl) (by kernel_rfl) (by kernel_rfl) (fun _ _ _ h => h) (Or.inl ⟨by kernel_rfl, ?_⟩) (by assumption) ?_
  · intro w hE
    go_simp
  refine wpAnyH_take (i := 5) (v := .int .i64 b0) rfl (by kernel_rfl) (by kernel_rfl) (by kernel_rfl) (fun _ _ _ h => h) (Or.inl ⟨by kernel_rfl, ?_⟩) (by assumption) ?_
  · intro w hE
    have q0 := hE.cell i1
    go_simp
  refine wpAnyH_take (i := 6) (v := .pointer (some ⟨w.heap.size, 2, none⟩)) rfl (by kernel_rfl) (by kernel_rfl) (by kernel_rfl) (fun _ _ _ h => h) (Or.inl ⟨by kernel_rfl, ?_⟩) (by assumption) ?_
  · intro w hE
    go_simp
  refine wpAnyH_take (i := 7) (v := .int .i64 c0') rfl (by kernel_rfl) (by kernel_rfl) (by kernel_rfl) (fun _ _ _ h => h) (Or.inl ⟨by kernel_rfl, ?_⟩) (by assumption) ?_
  · intro w hE
    have q0 := hE.cell i2
    go_simp
  clear i0 i1 i2
  refine Par.wpAnyH_par (fuel := 1) [2, 3, 8, 9, 10] [3, 8] puDeps puSlots (PuF P K1 b0 c0' k p m w1) (fun _ _ _ => True) Ext rfl (by kernel_rfl) (by kernel_rfl) (by kernel_rfl) (fun _ _ _ _ _ h => h) Ext.refl (fun _ _ _ h g => Ext.trans h g) puF_loc puF_stab (fun _ _ _ _ _ _ _ => trivial) (by assumption) ?_ ?_ ?_
  · refine List.forall_mem_cons.2 ⟨?_, List.forall_mem_cons.2 ⟨?_, fun _ h => by cases h⟩⟩
    · refine ⟨_, rfl, fun done vs w5 hn hS5 hR5 hd hF => ?_⟩
      have e2 : vs 2 = .int .i64 P := hF 2 (hd 2 (by decide))
      refine ⟨.int .i64 K1, Or.inl ⟨by kernel_rfl, ?_⟩, rfl, fun _ _ => trivial⟩
      intro w hE
      simp only [puDeps, Par.putAll_nil, Par.putAll_some, puSlots]
      simp only [e2]
      have hk := HK1.out
      go_simp
    · refine ⟨_, rfl, fun done vs w5 hn hS5 hR5 hd hF => ?_⟩
      have e3 : vs 3 = .int .i64 K1 := hF 3 (hd 3 (by decide))
      refine ⟨.agg #[.int .i64 K1, .int .i64 b0, .int .i64 c0'], Or.inl ⟨by kernel_rfl, ?_⟩, rfl, fun _ _ => trivial⟩
      intro w hE
      simp only [puDeps, Par.putAll_nil, Par.putAll_some, puSlots]
      simp only [e3]
      go_simp
  · refine List.forall_mem_cons.2 ⟨?_, List.forall_mem_cons.2 ⟨?_, List.forall_mem_cons.2 ⟨?_, List.forall_mem_cons.2 ⟨?_, List.forall_mem_cons.2 ⟨?_, fun _ h => by cases h⟩⟩⟩⟩⟩
    · intro _ done vs w5 hn hS5 hR5 hd hF
      simp only [puDeps, Par.putAll_nil]
      refine Par.step_of rfl (fun K hK => ?_)
      go_simp
      refine (HPk.out _).mono ?_
      rintro e w6 ⟨rfl, rfl⟩
      exact hK.out _ _ ⟨.int .i64 P, by kernel_rfl, hS5, Ext.refl _, rfl, fun _ _ => trivial⟩
    · exact fun h => absurd (by decide) h
    · exact fun h => absurd (by decide) h
    · intro _ done vs w5 hn hS5 hR5 hd hF
      have e8 : vs 8 = .agg #[.int .i64 K1, .int .i64 b0, .int .i64 c0'] := hF 8 (hd 8 (by decide))
      simp only [puDeps, Par.putAll_nil, Par.putAll_some, puSlots]
      simp only [e8]
      refine Par.step_of rfl (fun K hK => ?_)
      go_simp
      refine (HCo.out _).mono ?_
      rintro e w6 ⟨rfl, e6⟩
      exact hK.out _ _ ⟨cf k p m, by kernel_rfl, hS5.trans e6, e6, rfl, fun _ _ => trivial⟩
    · intro _ done vs w5 hn hS5 hR5 hd hF
      simp only [puDeps, Par.putAll_nil]
      refine Par.step_of rfl (fun K hK => ?_)
      go_simp
      exact hK.out _ _ ⟨.pointer (some ⟨w5.heap.size, 0, none⟩), by kernel_rfl, hS5.alloc _, Ext.new _ _, ⟨w5.heap.size, rfl, hS5.size, Cb.new w5 _ _⟩, fun _ _ => trivial⟩
  intro vs w5 hS5 hR5 hF hXX
  have e2 : vs 2 = .int .i64 P := hF 2 (by decide)
  have e3 : vs 3 = .int .i64 K1 := hF 3 (by decide)
  have e8 : vs 8 = .agg #[.int .i64 K1, .int .i64 b0, .int .i64 c0'] := hF 8 (by decide)
  have e9 : vs 9 = cf k p m := hF 9 (by decide)
  obtain ⟨C, e10, g10, C10⟩ := hF 10 (by decide)
  simp only [Par.putAll_nil, Par.putAll_some, puSlots]
  simp only [e2, e3, e8, e9, e10]
  clear hF hXX e2 e3 e8 e9 e10
  obtain ⟨z0, z1, z2⟩ := C10.three
  have y0 := C10.f 0
  have y1 := C10.f 1
  have y2 := C10.f 2
  have hC9 : Cb _ C [.int .i64 k, .int .i64 p, .int .i64 m] := ((C10.upd (i := 0) (by simp) (.int .i64 k)).upd (i := 1) (by simp) (.int .i64 p)).upd (i := 2) (by simp) (.int .i64 m)
  have hE6 := ((hS5.setCell g10 (.int .i64 k) (o := 0)).setCell g10 (.int .i64 p) (o := 1)).setCell g10 (.int .i64 m) (o := 2)
  have HH := Lib.hid (And.intro hC9 hE6)
  clear hC9 hE6 C10 hS5 hR5 hHeld
  dsimp only [cf] at *
  refine wpAnyH_ready (rs := [11]) (by kernel_rfl) (by simp) ?_
  refine AllReadyH.cons rfl (fun K hK => ?_) AllReadyH.nil
  go_simp
  refine hK.out _ _ HH.out.2 (fun hHeld => ?_)
  clear hK K z0 z1 z2 y0 y1 y2 hHeld
  refine wpAnyH_done (by kernel_rfl) ?_ _
  go_simp
  obtain ⟨hC, hE6⟩ := HH.out
  clear HH HPk HCo
  generalize ((w5.setCell ⟨C, 0, none⟩ (.int .i64 k)).setCell ⟨C, 1, none⟩ (.int .i64 p)).setCell ⟨C, 2, none⟩ (.int .i64 m) = w2 at hC hE6 ⊢
  have hE2 := HE1.out.trans hE6
  have HSt := Lib.hid (state_any s1 n1 c1' w2 HF.out (HT.out.ext hE2))
  obtain ⟨c0, c1, c2⟩ := hC.three
  have HCc := Lib.hid hC
  have HE := Lib.hid hE2
  clear hC hE6 hE2 HE1
  dsimp only [cf] at *
  go_wp2_with (fail)
  refine HSt.out.mono ?_
  rintro e w3 ⟨⟨sr, sk, su, sw, scl⟩, hR3, ⟨ka, kn, kc⟩, ⟨va, vn, vc⟩, ⟨ta, tn, tc⟩, rfl, S3, e3⟩
  clear HSt c0 c1 c2
  dsimp only [sv] at *
  have hE : Ext w2 (w3.alloc (.cells #[.int .u64 sr, .slice ka kn kc, .slice va vn vc, .slice ta tn tc, .bool scl] 30)) := e3.alloc _
  replace HCc := Lib.hid (HCc.out.ext hE)
  replace HE := Lib.hid (HE.out.trans hE)
  have HBs := Lib.hid (show Cb (w3.alloc (.cells #[.int .u64 sr, .slice ka kn kc, .slice va vn vc, .slice ta tn tc, .bool scl] 30)) w3.heap.size (sc sr ⟨ka, kn, kc⟩ ⟨va, vn, vc⟩ ⟨ta, tn, tc⟩ scl) from Cb.new w3 _ _)
  have HSs := Lib.hid (S3.ext (Ext.new w3 (.cells #[.int .u64 sr, .slice ka kn kc, .slice va vn vc, .slice ta tn tc, .bool scl] 30)))
  have HR := Lib.hid hR3
  clear hE e3 S3 hR3
  obtain ⟨c0, c1, c2⟩ := HCc.out.three
  go_upto_if 70 with (fail)
  go_cut [14, 15] from 68 to 70 (fun v14 v15 wx => v14 = .int .i64 (putC k) ∧ v15 = .int .i64 (getC k) ∧ ∃ w4, w4 = wx ∧ Ext (w3.alloc (.cells #[.int .u64 sr, .slice ka kn kc, .slice va vn vc, .slice ta tn tc, .bool scl] 30)) w4)
  case first =>
    by_cases hk2 : k = 2
    · have hb : (k == 2) = true := by simpa using hk2
      go_wp2_with (fail)
      go_meet
      exact ⟨by rw [hk2]; rfl, by rw [hk2]; rfl, _, rfl, Ext.refl _⟩
    · have hb : (k == 2) = false := by simpa using hk2
      go_wp2_with (fail)
      go_meet
      exact ⟨by unfold putC; rw [if_neg hk2], by unfold getC; rw [if_neg hk2], _, rfl, Ext.refl _⟩
  case rest =>
    obtain ⟨rfl, rfl, w4, rfl, hE⟩ := hcut
    clear c0 c1 c2
    replace HCc := Lib.hid (HCc.out.ext hE)
    replace HBs := Lib.hid (HBs.out.ext hE)
    replace HSs := Lib.hid (HSs.out.ext hE)
    replace HE := Lib.hid (HE.out.trans hE)
    clear hE
    have hPA0 := pick_ge one (n := 13) (by decide)
    have hPA1 := pick_lt one (n := 13) (by decide)
    have hPB0 := pick_ge two (n := 13) (by decide)
    have hPB1 := pick_lt two (n := 13) (by decide)
    have HPa := Lib.hid (fun W => pick_any one 13 W H1.out (by decide))
    have HPb := Lib.hid (fun W => pick_any two 13 W H2.out (by decide))
    generalize pickZ one 13 = NA at *
    generalize pickZ two 13 = NB at *
    have HKa := Lib.hid (fun W => key_any k p m NA 0 W (by unfold I64; omega) (by unfold U64; simp))
    have HKb := Lib.hid (fun W => key_any k p m NB 0 W (by unfold I64; omega) (by unfold U64; simp))
    have HN := Lib.hid (And.intro (And.intro hPA0 hPA1) (And.intro hPB0 hPB1))
    clear hPA0 hPA1 hPB0 hPB1
    obtain ⟨c0, c1, c2⟩ := HCc.out.three
    go_upto_region 9 with (fail)
    refine wp_region_held_drew (S := fun w' => Ext w4 w') (by kernel_rfl) (Ext.drew (Ext.refl w4)) (fun hHeld => ?_)
    refine wpAnyH_take (i := 0) (v := .agg #[.int .i64 k, .int .i64 p, .int .i64 m]) rfl (by kernel_rfl) (by kernel_rfl) (by kernel_rfl) (fun _ _ _ h => h) (Or.inl ⟨by kernel_rfl, ?_⟩) (by assumption) ?_
    · intro w hE
      have q0 := hE.cell c0
      have q1 := hE.cell c1
      have q2 := hE.cell c2
      go_simp
    refine wpAnyH_take (i := 1) (v := .int .i64 one) rfl (by kernel_rfl) (by kernel_rfl) (by kernel_rfl) (fun _ _ _ h => h) (Or.inl ⟨by kernel_rfl, ?_⟩) (by assumption) ?_
    · intro w hE
      go_simp
    refine wpAnyH_ready (rs := [2]) (by kernel_rfl) (by simp) ?_
    refine AllReadyH.cons rfl (fun K hK => ?_) AllReadyH.nil
    go_simp
    refine (HPa.out _).mono ?_
    rintro e w6 ⟨rfl, rfl⟩
    refine hK.out _ _ (by assumption) (fun hHeld => ?_)
    clear hK K
    refine wpAnyH_ready (rs := [3]) (by kernel_rfl) (by simp) ?_
    refine AllReadyH.cons rfl (fun K hK => ?_) AllReadyH.nil
    go_simp
    refine (HKa.out _).mono ?_
    rintro e w5 ⟨a, hua, hma, rfl, e5⟩
    refine hK.out _ _ (Ext.trans (by assumption) e5) (fun hHeld => ?_)
    clear hK K
    refine wpAnyH_take (i := 4) (v := .int .u64 a) rfl (by kernel_rfl) (by kernel_rfl) (by kernel_rfl) (fun _ _ _ h => h) (Or.inl ⟨by kernel_rfl, ?_⟩) (by assumption) ?_
    · intro w hE
      go_simp
    refine wpAnyH_done (by kernel_rfl) ?_ _
    go_simp
    clear c0 c1 c2 e5 HPa HKa
    replace HCc := Lib.hid (HCc.out.ext hHeld)
    replace HBs := Lib.hid (HBs.out.ext hHeld)
    replace HSs := Lib.hid (HSs.out.ext hHeld)
    replace HE := Lib.hid (HE.out.trans hHeld)
    clear hHeld
    obtain ⟨c0, c1, c2⟩ := HCc.out.three
    go_upto_region 10 with (fail)
    refine wp_region_held_drew (S := fun w' => Ext w5 w') (by kernel_rfl) (Ext.drew (Ext.refl w5)) (fun hHeld => ?_)
    refine wpAnyH_take (i := 0) (v := .agg #[.int .i64 k, .int .i64 p, .int .i64 m]) rfl (by kernel_rfl) (by kernel_rfl) (by kernel_rfl) (fun _ _ _ h => h) (Or.inl ⟨by kernel_rfl, ?_⟩) (by assumption) ?_
    · intro w hE
      have q0 := hE.cell c0
      have q1 := hE.cell c1
      have q2 := hE.cell c2
      go_simp
    refine wpAnyH_take (i := 1) (v := .int .i64 two) rfl (by kernel_rfl) (by kernel_rfl) (by kernel_rfl) (fun _ _ _ h => h) (Or.inl ⟨by kernel_rfl, ?_⟩) (by assumption) ?_
    · intro w hE
      go_simp
    refine wpAnyH_ready (rs := [2]) (by kernel_rfl) (by simp) ?_
    refine AllReadyH.cons rfl (fun K hK => ?_) AllReadyH.nil
    go_simp
    refine (HPb.out _).mono ?_
    rintro e w6 ⟨rfl, rfl⟩
    refine hK.out _ _ (by assumption) (fun hHeld => ?_)
    clear hK K
    refine wpAnyH_ready (rs := [3]) (by kernel_rfl) (by simp) ?_
    refine AllReadyH.cons rfl (fun K hK => ?_) AllReadyH.nil
    go_simp
    refine (HKb.out _).mono ?_
    rintro e w7 ⟨b, hub, hmb, rfl, e5⟩
    refine hK.out _ _ (Ext.trans (by assumption) e5) (fun hHeld => ?_)
    clear hK K
    refine wpAnyH_take (i := 4) (v := .int .u64 b) rfl (by kernel_rfl) (by kernel_rfl) (by kernel_rfl) (fun _ _ _ h => h) (Or.inl ⟨by kernel_rfl, ?_⟩) (by assumption) ?_
    · intro w hE
      go_simp
    refine wpAnyH_done (by kernel_rfl) ?_ _
    go_simp
    clear c0 c1 c2 e5 HPb HKb
    replace HCc := Lib.hid (HCc.out.ext hHeld)
    replace HBs := Lib.hid (HBs.out.ext hHeld)
    replace HSs := Lib.hid (HSs.out.ext hHeld)
    replace HE := Lib.hid (HE.out.trans hHeld)
    clear hHeld
    have hk5 : k ≠ 5 := by have := keyed_cases HKy.out; omega
    have hkf := fits_of HF.out
    obtain ⟨⟨tr, tk, tu, tw, tcl⟩, r1, r2, Ls, Lt, h1, h2, g1, g2, x1, x2, y1, y2, hr, hd1, hRt, hWt, hd2, hd3, hd4, hd5, hd6, hd7, hL0, hL1, hhr, hcs⟩ := puts_all HKy.out HR.out HSs.out.wd hua hub (hma hk5 HN.out.1.1 HN.out.1.2) (hmb hk5 HN.out.2.1 HN.out.2.2) HU.out
    have HD1 := Lib.hid hd1
    have HD2 := Lib.hid hd2
    have HD3 := Lib.hid hd3
    have HD4 := Lib.hid hd4
    have HD5 := Lib.hid hd5
    have HD6 := Lib.hid hd6
    have HD7 := Lib.hid hd7
    have HRt := Lib.hid hRt
    have HCS := Lib.hid hcs
    have HHr := Lib.hid hhr
    have HA := Lib.hid hua
    have HB := Lib.hid hub
    have HLs := Lib.hid (And.intro hL0 hL1)
    have HKf := Lib.hid hkf
    clear hd1 hd2 hd3 hd4 hd5 hd6 hd7 hRt hWt hcs hhr hua hub hma hmb hL0 hL1 hk5 hkf HN
    obtain ⟨c0, c1, c2⟩ := HCc.out.three
    obtain ⟨t0, t1, t2, t3, t4⟩ := HBs.out.five
    have HD := do_all2 k p m ⟨ka, kn, kc⟩ ⟨va, vn, vc⟩ ⟨ta, tn, tc⟩ ⟨sr, sk, su, sw, scl⟩ ⟨putC k, a, v⟩ _ HSs.out (wc_pc HKy.out HA.out HU.out)
    rw [do_f HR.out HD1.out] at HD
    have HDo := Lib.hid HD
    clear HD
    try dsimp only [cf, sv, sc, opv] at *
    go_wp2_with (fail)
    refine HDo.out.mono ?_
    rintro e w40 ⟨e40, ⟨ka2, kn2, kc2⟩, ⟨va2, vn2, vc2⟩, ⟨ta2, tn2, tc2⟩, rfl, S40, O40⟩
    clear HDo c0 c1 c2 t0 t1 t2 t3 t4 O40
    try dsimp only [sv, rv] at *
    have hE : Ext _ ((w40.alloc (.cells #[.int .u64 tr, .slice ka2 kn2 kc2, .slice va2 vn2 vc2, .slice ta2 tn2 tc2, .bool tcl] 30)).alloc (.cells #[.int .i64 r1, .int .u64 r2] 51)) := (e40.alloc (.cells #[.int .u64 tr, .slice ka2 kn2 kc2, .slice va2 vn2 vc2, .slice ta2 tn2 tc2, .bool tcl] 30)).alloc (.cells #[.int .i64 r1, .int .u64 r2] 51)
    replace HCc := Lib.hid (HCc.out.ext hE)
    replace HBs := Lib.hid (HBs.out.ext hE)
    replace HSs := Lib.hid (HSs.out.ext hE)
    replace HE := Lib.hid (HE.out.trans hE)
    have HBt := Lib.hid (show Cb ((w40.alloc (.cells #[.int .u64 tr, .slice ka2 kn2 kc2, .slice va2 vn2 vc2, .slice ta2 tn2 tc2, .bool tcl] 30)).alloc (.cells #[.int .i64 r1, .int .u64 r2] 51)) w40.heap.size (sc tr ⟨ka2, kn2, kc2⟩ ⟨va2, vn2, vc2⟩ ⟨ta2, tn2, tc2⟩ tcl) from by repeat (first | ((with_reducible refine Cb.at _ rfl ?_); (simp; done)) | with_reducible refine Cb.alloc ?_ _))
    have HSt := Lib.hid (S40.ext ((Ext.new w40 (.cells #[.int .u64 tr, .slice ka2 kn2 kc2, .slice va2 vn2 vc2, .slice ta2 tn2 tc2, .bool tcl] 30)).alloc (.cells #[.int .i64 r1, .int .u64 r2] 51)))
    have HRr := Lib.hid (show Cb ((w40.alloc (.cells #[.int .u64 tr, .slice ka2 kn2 kc2, .slice va2 vn2 vc2, .slice ta2 tn2 tc2, .bool tcl] 30)).alloc (.cells #[.int .i64 r1, .int .u64 r2] 51)) (w40.heap.size + 1) [.int .i64 r1, .int .u64 r2] from by repeat (first | ((with_reducible refine Cb.at _ rfl ?_); (simp; done)) | with_reducible refine Cb.alloc ?_ _))
    clear hE e40 S40
    obtain ⟨c0, c1, c2⟩ := HCc.out.three
    obtain ⟨t0, t1, t2, t3, t4⟩ := HBs.out.five
    have HD := do_all2 k p m ⟨ka, kn, kc⟩ ⟨va, vn, vc⟩ ⟨ta, tn, tc⟩ ⟨sr, sk, su, sw, scl⟩ ⟨9, 0, 0⟩ _ HSs.out (wc_lit (by decide +kernel))
    rw [do_f HR.out HD2.out] at HD
    have HDo := Lib.hid HD
    clear HD
    try dsimp only [cf, sv, sc, opv] at *
    go_wp2_with (fail)
    refine HDo.out.mono ?_
    rintro e w41 ⟨e41, ⟨ka3, kn3, kc3⟩, ⟨va3, vn3, vc3⟩, ⟨ta3, tn3, tc3⟩, rfl, S41, O41⟩
    clear HDo c0 c1 c2 t0 t1 t2 t3 t4 O41
    try dsimp only [sv, rv] at *
    have hE : Ext _ ((w41.alloc (.cells #[.int .u64 sr, .slice ka3 kn3 kc3, .slice va3 vn3 vc3, .slice ta3 tn3 tc3, .bool scl] 30)).alloc (.cells #[.int .i64 0, .int .u64 Ls] 51)) := (e41.alloc (.cells #[.int .u64 sr, .slice ka3 kn3 kc3, .slice va3 vn3 vc3, .slice ta3 tn3 tc3, .bool scl] 30)).alloc (.cells #[.int .i64 0, .int .u64 Ls] 51)
    replace HCc := Lib.hid (HCc.out.ext hE)
    replace HBs := Lib.hid (HBs.out.ext hE)
    replace HSs := Lib.hid (HSs.out.ext hE)
    replace HBt := Lib.hid (HBt.out.ext hE)
    replace HSt := Lib.hid (HSt.out.ext hE)
    replace HRr := Lib.hid (HRr.out.ext hE)
    replace HE := Lib.hid (HE.out.trans hE)
    have HRw := Lib.hid (show Cb ((w41.alloc (.cells #[.int .u64 sr, .slice ka3 kn3 kc3, .slice va3 vn3 vc3, .slice ta3 tn3 tc3, .bool scl] 30)).alloc (.cells #[.int .i64 0, .int .u64 Ls] 51)) (w41.heap.size + 1) [.int .i64 0, .int .u64 Ls] from by repeat (first | ((with_reducible refine Cb.at _ rfl ?_); (simp; done)) | with_reducible refine Cb.alloc ?_ _))
    clear hE e41 S41
    obtain ⟨c0, c1, c2⟩ := HCc.out.three
    obtain ⟨t0, t1, t2, t3, t4⟩ := HBt.out.five
    have HD := do_all2 k p m ⟨ka2, kn2, kc2⟩ ⟨va2, vn2, vc2⟩ ⟨ta2, tn2, tc2⟩ ⟨tr, tk, tu, tw, tcl⟩ ⟨9, 0, 0⟩ _ HSt.out (wc_lit (by decide +kernel))
    rw [do_f HRt.out HD3.out] at HD
    have HDo := Lib.hid HD
    clear HD
    try dsimp only [cf, sv, sc, opv] at *
    go_wp2_with (fail)
    refine HDo.out.mono ?_
    rintro e w42 ⟨e42, ⟨ka4, kn4, kc4⟩, ⟨va4, vn4, vc4⟩, ⟨ta4, tn4, tc4⟩, rfl, S42, O42⟩
    clear HDo c0 c1 c2 t0 t1 t2 t3 t4 O42
    try dsimp only [sv, rv] at *
    have hE : Ext _ ((w42.alloc (.cells #[.int .u64 tr, .slice ka4 kn4 kc4, .slice va4 vn4 vc4, .slice ta4 tn4 tc4, .bool tcl] 30)).alloc (.cells #[.int .i64 0, .int .u64 Lt] 51)) := (e42.alloc (.cells #[.int .u64 tr, .slice ka4 kn4 kc4, .slice va4 vn4 vc4, .slice ta4 tn4 tc4, .bool tcl] 30)).alloc (.cells #[.int .i64 0, .int .u64 Lt] 51)
    replace HCc := Lib.hid (HCc.out.ext hE)
    replace HBs := Lib.hid (HBs.out.ext hE)
    replace HSs := Lib.hid (HSs.out.ext hE)
    replace HBt := Lib.hid (HBt.out.ext hE)
    replace HSt := Lib.hid (HSt.out.ext hE)
    replace HRr := Lib.hid (HRr.out.ext hE)
    replace HRw := Lib.hid (HRw.out.ext hE)
    replace HE := Lib.hid (HE.out.trans hE)
    have HRn := Lib.hid (show Cb ((w42.alloc (.cells #[.int .u64 tr, .slice ka4 kn4 kc4, .slice va4 vn4 vc4, .slice ta4 tn4 tc4, .bool tcl] 30)).alloc (.cells #[.int .i64 0, .int .u64 Lt] 51)) (w42.heap.size + 1) [.int .i64 0, .int .u64 Lt] from by repeat (first | ((with_reducible refine Cb.at _ rfl ?_); (simp; done)) | with_reducible refine Cb.alloc ?_ _))
    clear hE e42 S42
    obtain ⟨c0, c1, c2⟩ := HCc.out.three
    obtain ⟨t0, t1, t2, t3, t4⟩ := HBs.out.five
    have HD := do_all2 k p m ⟨ka, kn, kc⟩ ⟨va, vn, vc⟩ ⟨ta, tn, tc⟩ ⟨sr, sk, su, sw, scl⟩ ⟨getC k, a, 0⟩ _ HSs.out (wc_gc HKy.out HA.out)
    rw [do_f HR.out HD4.out] at HD
    have HDo := Lib.hid HD
    clear HD
    try dsimp only [cf, sv, sc, opv] at *
    go_wp2_with (fail)
    refine HDo.out.mono ?_
    rintro e w43 ⟨e43, ⟨ka5, kn5, kc5⟩, ⟨va5, vn5, vc5⟩, ⟨ta5, tn5, tc5⟩, rfl, S43, O43⟩
    clear HDo c0 c1 c2 t0 t1 t2 t3 t4 O43
    try dsimp only [sv, rv] at *
    have hE : Ext _ ((w43.alloc (.cells #[.int .u64 sr, .slice ka5 kn5 kc5, .slice va5 vn5 vc5, .slice ta5 tn5 tc5, .bool scl] 30)).alloc (.cells #[.int .i64 h1, .int .u64 h2] 51)) := (e43.alloc (.cells #[.int .u64 sr, .slice ka5 kn5 kc5, .slice va5 vn5 vc5, .slice ta5 tn5 tc5, .bool scl] 30)).alloc (.cells #[.int .i64 h1, .int .u64 h2] 51)
    replace HCc := Lib.hid (HCc.out.ext hE)
    replace HBs := Lib.hid (HBs.out.ext hE)
    replace HSs := Lib.hid (HSs.out.ext hE)
    replace HBt := Lib.hid (HBt.out.ext hE)
    replace HSt := Lib.hid (HSt.out.ext hE)
    replace HRr := Lib.hid (HRr.out.ext hE)
    replace HRw := Lib.hid (HRw.out.ext hE)
    replace HRn := Lib.hid (HRn.out.ext hE)
    replace HE := Lib.hid (HE.out.trans hE)
    have HRh := Lib.hid (show Cb ((w43.alloc (.cells #[.int .u64 sr, .slice ka5 kn5 kc5, .slice va5 vn5 vc5, .slice ta5 tn5 tc5, .bool scl] 30)).alloc (.cells #[.int .i64 h1, .int .u64 h2] 51)) (w43.heap.size + 1) [.int .i64 h1, .int .u64 h2] from by repeat (first | ((with_reducible refine Cb.at _ rfl ?_); (simp; done)) | with_reducible refine Cb.alloc ?_ _))
    clear hE e43 S43
    obtain ⟨c0, c1, c2⟩ := HCc.out.three
    obtain ⟨z0, z1⟩ := HRh.out.two
    go_upto_region 17 with (fail)
    go_cut [30] from 118 to 130 (fun v30 wx => v30 = .bool hr ∧ ∃ w17, w17 = wx ∧ Ext ((w43.alloc (.cells #[.int .u64 sr, .slice ka5 kn5 kc5, .slice va5 vn5 vc5, .slice ta5 tn5 tc5, .bool scl] 30)).alloc (.cells #[.int .i64 h1, .int .u64 h2] 51)) w17)
    case first =>
      rcases HHr.out with ⟨rfl, rfl, hq⟩ | ⟨rfl, rfl, hq⟩
      · by_cases hk2 : k = 2
        · obtain rfl := hq hk2
          clear hq
          have hb : (k == 2) = true := by simpa using hk2
          have hb2 : (k != 2) = false := by simpa using hk2
          clear hk2
          go_wp2_with (fail)
          go_meet
          exact ⟨rfl, _, rfl, Ext.refl _⟩
        · clear hq
          have hb : (k == 2) = false := by simpa using hk2
          have hb2 : (k != 2) = true := by simpa using hk2
          clear hk2
          go_wp2_with (fail)
          go_meet
          exact ⟨rfl, _, rfl, Ext.refl _⟩
      · by_cases hk2 : k = 2
        · rw [if_pos hk2] at hq
          subst hq
          have hb : (k == 2) = true := by simpa using hk2
          have hb2 : (k != 2) = false := by simpa using hk2
          clear hk2
          go_wp2_with (fail)
          go_meet
          exact ⟨rfl, _, rfl, Ext.refl _⟩
        · rw [if_neg hk2] at hq
          subst hq
          have hb : (k == 2) = false := by simpa using hk2
          have hb2 : (k != 2) = true := by simpa using hk2
          clear hk2
          go_wp2_with (fail)
          go_meet
          exact ⟨rfl, _, rfl, Ext.refl _⟩
    case rest =>
      clear c0 c1 c2 z0 z1
      obtain ⟨rfl, w17, rfl, hE⟩ := hcut
      replace HCc := Lib.hid (HCc.out.ext hE)
      replace HBs := Lib.hid (HBs.out.ext hE)
      replace HSs := Lib.hid (HSs.out.ext hE)
      replace HBt := Lib.hid (HBt.out.ext hE)
      replace HSt := Lib.hid (HSt.out.ext hE)
      replace HRr := Lib.hid (HRr.out.ext hE)
      replace HRw := Lib.hid (HRw.out.ext hE)
      replace HRn := Lib.hid (HRn.out.ext hE)
      replace HRh := Lib.hid (HRh.out.ext hE)
      replace HE := Lib.hid (HE.out.trans hE)
      clear hE
      rcases HCS.out with ⟨rfl, rfl, rfl, rfl, rfl⟩ | ⟨rfl, rfl, hg2, hxy, hnx, u, q, o1, o2, hdu, hRu, hWu, hgu, ho, hdz, hcase⟩
      · obtain ⟨c0, c1, c2⟩ := HCc.out.three
        obtain ⟨r0, r1'⟩ := HRr.out.two
        obtain ⟨n0, n1'⟩ := HRw.out.two
        obtain ⟨j0, j1⟩ := HRn.out.two
        have hwm : IntKind.u64.wrap Lt = Lt := by have := HKf.out; simp only [IntKind.wrap_u64]; omega
        clear HCS
        go_wp2_with (fail)
        go_ret
        exact ⟨rfl, HE.out⟩
      · obtain ⟨ur, uk, uu, uw, ucl⟩ := u
        have HG2 := Lib.hid hg2
        have HXY := Lib.hid hxy
        have HNX := Lib.hid hnx
        have HDU := Lib.hid hdu
        have HRu := Lib.hid hRu
        have HGU := Lib.hid hgu
        have HO := Lib.hid ho
        have HDZ := Lib.hid hdz
        have HCA := Lib.hid hcase
        clear hg2 hxy hnx hdu hRu hWu hgu ho hdz hcase HCS
        obtain ⟨r0, r1'⟩ := HRr.out.two
        obtain ⟨c0, c1, c2⟩ := HCc.out.three
        obtain ⟨t0, t1, t2, t3, t4⟩ := HBt.out.five
        have HD := do_all2 k p m ⟨ka2, kn2, kc2⟩ ⟨va2, vn2, vc2⟩ ⟨ta2, tn2, tc2⟩ ⟨tr, tk, tu, tw, tcl⟩ ⟨getC k, a, 0⟩ _ HSt.out (wc_gc HKy.out HA.out)
        rw [do_f HRt.out HD5.out] at HD
        have HDo := Lib.hid HD
        clear HD
        try dsimp only [cf, sv, sc, opv] at *
        go_wp2_with (fail)
        refine HDo.out.mono ?_
        rintro e w44 ⟨e44, ⟨ka6, kn6, kc6⟩, ⟨va6, vn6, vc6⟩, ⟨ta6, tn6, tc6⟩, rfl, S44, O44⟩
        clear HDo c0 c1 c2 t0 t1 t2 t3 t4 O44
        try dsimp only [sv, rv] at *
        have hE : Ext _ ((w44.alloc (.cells #[.int .u64 tr, .slice ka6 kn6 kc6, .slice va6 vn6 vc6, .slice ta6 tn6 tc6, .bool tcl] 30)).alloc (.cells #[.int .i64 0, .int .u64 g2] 51)) := (e44.alloc (.cells #[.int .u64 tr, .slice ka6 kn6 kc6, .slice va6 vn6 vc6, .slice ta6 tn6 tc6, .bool tcl] 30)).alloc (.cells #[.int .i64 0, .int .u64 g2] 51)
        replace HCc := Lib.hid (HCc.out.ext hE)
        replace HBs := Lib.hid (HBs.out.ext hE)
        replace HSs := Lib.hid (HSs.out.ext hE)
        replace HBt := Lib.hid (HBt.out.ext hE)
        replace HSt := Lib.hid (HSt.out.ext hE)
        replace HRr := Lib.hid (HRr.out.ext hE)
        replace HRw := Lib.hid (HRw.out.ext hE)
        replace HRn := Lib.hid (HRn.out.ext hE)
        replace HRh := Lib.hid (HRh.out.ext hE)
        replace HE := Lib.hid (HE.out.trans hE)
        have HRg := Lib.hid (show Cb ((w44.alloc (.cells #[.int .u64 tr, .slice ka6 kn6 kc6, .slice va6 vn6 vc6, .slice ta6 tn6 tc6, .bool tcl] 30)).alloc (.cells #[.int .i64 0, .int .u64 g2] 51)) (w44.heap.size + 1) [.int .i64 0, .int .u64 g2] from by repeat (first | ((with_reducible refine Cb.at _ rfl ?_); (simp; done)) | with_reducible refine Cb.alloc ?_ _))
        clear hE e44 S44
        clear r0 r1'
        obtain ⟨c0, c1, c2⟩ := (HCc.out.alloc (.cells #[.int .i64 0, .int .u64 v] 51)).three
        go_upto_if 166 with (fail)
        go_cut [167] from 167 to 167 (fun _ wx => ∃ w21, w21 = wx ∧ Ext ((w44.alloc (.cells #[.int .u64 tr, .slice ka6 kn6 kc6, .slice va6 vn6 vc6, .slice ta6 tn6 tc6, .bool tcl] 30)).alloc (.cells #[.int .i64 0, .int .u64 g2] 51)) w21 ∧ Cb w21 (w44.heap.size + 1 + 1) [.int .i64 0, .int .u64 g2])
        case first =>
          by_cases hk2 : k = 2
          · have hg := HG2.out
            rw [if_pos hk2] at hg
            subst hg
            have hb : (k == 2) = true := by simpa using hk2
            clear hk2
            go_wp2_with (fail)
            go_meet
            exact ⟨_, rfl, by first | exact Ext.new _ _ | exact Ext.setCell (Ext.new _ _) (by simp) _ | exact Ext.setCell (Ext.setCell (Ext.new _ _) (by simp) _) (by simp) _, by repeat (first | ((with_reducible refine Cb.at _ rfl ?_); (simp; done)) | with_reducible refine Cb.alloc ?_ _)⟩
          · have hg := HG2.out
            rw [if_neg hk2] at hg
            subst hg
            have hb : (k == 2) = false := by simpa using hk2
            clear hk2
            go_wp2_with (fail)
            go_meet
            exact ⟨_, rfl, by first | exact Ext.new _ _ | exact Ext.setCell (Ext.new _ _) (by simp) _ | exact Ext.setCell (Ext.setCell (Ext.new _ _) (by simp) _) (by simp) _, by repeat (first | ((with_reducible refine Cb.at _ rfl ?_); (simp; done)) | with_reducible refine Cb.alloc ?_ _)⟩
        case rest =>
          obtain ⟨w21, rfl, hE, hB34⟩ := hcut
          clear c0 c1 c2
          replace HCc := Lib.hid (HCc.out.ext hE)
          replace HBs := Lib.hid (HBs.out.ext hE)
          replace HSs := Lib.hid (HSs.out.ext hE)
          replace HBt := Lib.hid (HBt.out.ext hE)
          replace HSt := Lib.hid (HSt.out.ext hE)
          replace HRr := Lib.hid (HRr.out.ext hE)
          replace HRw := Lib.hid (HRw.out.ext hE)
          replace HRn := Lib.hid (HRn.out.ext hE)
          replace HRh := Lib.hid (HRh.out.ext hE)
          replace HRg := Lib.hid (HRg.out.ext hE)
          replace HE := Lib.hid (HE.out.trans hE)
          have HR34 := Lib.hid hB34
          clear hE hB34
          generalize w44.heap.size + 1 + 1 = B34 at *
          obtain ⟨r0, r1'⟩ := HRr.out.two
          obtain ⟨g0, g1'⟩ := HRg.out.two
          obtain ⟨b0', b1'⟩ := HR34.out.two
          obtain ⟨j0, j1⟩ := HRn.out.two
          obtain ⟨n0, n1'⟩ := HRw.out.two
          go_upto_region 24 with (fail)
          go_cut [195] from 168 to 195 (fun v195 wx => v195 = .bool false ∧ ∃ w24, w24 = wx ∧ Ext w21 w24)
          case first =>
            rcases HCA.out with ⟨rfl, rfl⟩ | ⟨rfl, rfl, hus⟩
            · go_wp2_with (fail)
              go_meet
              exact ⟨rfl, _, rfl, Ext.refl _⟩
            · clear hus
              have hw1 : IntKind.u64.wrap (Ls + 1) = Ls + 1 := by have := HLs.out; simp only [IntKind.wrap_u64]; omega
              go_wp2_with (fail)
              go_meet
              exact ⟨rfl, _, rfl, Ext.refl _⟩
          case rest =>
            clear r0 r1' g0 g1' b0' b1' j0 j1 n0 n1'
            obtain ⟨rfl, w24, rfl, hE⟩ := hcut
            replace HCc := Lib.hid (HCc.out.ext hE)
            replace HBs := Lib.hid (HBs.out.ext hE)
            replace HSs := Lib.hid (HSs.out.ext hE)
            replace HBt := Lib.hid (HBt.out.ext hE)
            replace HSt := Lib.hid (HSt.out.ext hE)
            replace HRr := Lib.hid (HRr.out.ext hE)
            replace HRw := Lib.hid (HRw.out.ext hE)
            replace HRn := Lib.hid (HRn.out.ext hE)
            replace HRh := Lib.hid (HRh.out.ext hE)
            replace HRg := Lib.hid (HRg.out.ext hE)
            replace HR34 := Lib.hid (HR34.out.ext hE)
            replace HE := Lib.hid (HE.out.trans hE)
            clear hE
            obtain ⟨c0, c1, c2⟩ := HCc.out.three
            obtain ⟨t0, t1, t2, t3, t4⟩ := HBs.out.five
            have HD := do_all2 k p m ⟨ka, kn, kc⟩ ⟨va, vn, vc⟩ ⟨ta, tn, tc⟩ ⟨sr, sk, su, sw, scl⟩ ⟨getC k, b, 0⟩ _ HSs.out (wc_gc HKy.out HB.out)
            rw [do_f HR.out HD6.out] at HD
            have HDo := Lib.hid HD
            clear HD
            try dsimp only [cf, sv, sc, opv] at *
            go_wp2_with (fail)
            refine HDo.out.mono ?_
            rintro e w45 ⟨e45, ⟨ka7, kn7, kc7⟩, ⟨va7, vn7, vc7⟩, ⟨ta7, tn7, tc7⟩, rfl, S45, O45⟩
            clear HDo c0 c1 c2 t0 t1 t2 t3 t4 O45
            try dsimp only [sv, rv] at *
            have hE : Ext _ ((w45.alloc (.cells #[.int .u64 sr, .slice ka7 kn7 kc7, .slice va7 vn7 vc7, .slice ta7 tn7 tc7, .bool scl] 30)).alloc (.cells #[.int .i64 x1, .int .u64 x2] 51)) := (e45.alloc (.cells #[.int .u64 sr, .slice ka7 kn7 kc7, .slice va7 vn7 vc7, .slice ta7 tn7 tc7, .bool scl] 30)).alloc (.cells #[.int .i64 x1, .int .u64 x2] 51)
            replace HCc := Lib.hid (HCc.out.ext hE)
            replace HBs := Lib.hid (HBs.out.ext hE)
            replace HSs := Lib.hid (HSs.out.ext hE)
            replace HBt := Lib.hid (HBt.out.ext hE)
            replace HSt := Lib.hid (HSt.out.ext hE)
            replace HRr := Lib.hid (HRr.out.ext hE)
            replace HRw := Lib.hid (HRw.out.ext hE)
            replace HRn := Lib.hid (HRn.out.ext hE)
            replace HRh := Lib.hid (HRh.out.ext hE)
            replace HRg := Lib.hid (HRg.out.ext hE)
            replace HR34 := Lib.hid (HR34.out.ext hE)
            replace HE := Lib.hid (HE.out.trans hE)
            have HRx := Lib.hid (show Cb ((w45.alloc (.cells #[.int .u64 sr, .slice ka7 kn7 kc7, .slice va7 vn7 vc7, .slice ta7 tn7 tc7, .bool scl] 30)).alloc (.cells #[.int .i64 x1, .int .u64 x2] 51)) (w45.heap.size + 1) [.int .i64 x1, .int .u64 x2] from by repeat (first | ((with_reducible refine Cb.at _ rfl ?_); (simp; done)) | with_reducible refine Cb.alloc ?_ _))
            clear hE e45 S45
            obtain ⟨c0, c1, c2⟩ := HCc.out.three
            obtain ⟨t0, t1, t2, t3, t4⟩ := HBt.out.five
            have HD := do_all2 k p m ⟨ka2, kn2, kc2⟩ ⟨va2, vn2, vc2⟩ ⟨ta2, tn2, tc2⟩ ⟨tr, tk, tu, tw, tcl⟩ ⟨getC k, b, 0⟩ _ HSt.out (wc_gc HKy.out HB.out)
            rw [do_f HRt.out HD7.out] at HD
            have HDo := Lib.hid HD
            clear HD
            try dsimp only [cf, sv, sc, opv] at *
            go_wp2_with (fail)
            refine HDo.out.mono ?_
            rintro e w46 ⟨e46, ⟨ka8, kn8, kc8⟩, ⟨va8, vn8, vc8⟩, ⟨ta8, tn8, tc8⟩, rfl, S46, O46⟩
            clear HDo c0 c1 c2 t0 t1 t2 t3 t4 O46
            try dsimp only [sv, rv] at *
            have hE : Ext _ ((w46.alloc (.cells #[.int .u64 tr, .slice ka8 kn8 kc8, .slice va8 vn8 vc8, .slice ta8 tn8 tc8, .bool tcl] 30)).alloc (.cells #[.int .i64 y1, .int .u64 y2] 51)) := (e46.alloc (.cells #[.int .u64 tr, .slice ka8 kn8 kc8, .slice va8 vn8 vc8, .slice ta8 tn8 tc8, .bool tcl] 30)).alloc (.cells #[.int .i64 y1, .int .u64 y2] 51)
            replace HCc := Lib.hid (HCc.out.ext hE)
            replace HBs := Lib.hid (HBs.out.ext hE)
            replace HSs := Lib.hid (HSs.out.ext hE)
            replace HBt := Lib.hid (HBt.out.ext hE)
            replace HSt := Lib.hid (HSt.out.ext hE)
            replace HRr := Lib.hid (HRr.out.ext hE)
            replace HRw := Lib.hid (HRw.out.ext hE)
            replace HRn := Lib.hid (HRn.out.ext hE)
            replace HRh := Lib.hid (HRh.out.ext hE)
            replace HRg := Lib.hid (HRg.out.ext hE)
            replace HR34 := Lib.hid (HR34.out.ext hE)
            replace HRx := Lib.hid (HRx.out.ext hE)
            replace HE := Lib.hid (HE.out.trans hE)
            have HRy := Lib.hid (show Cb ((w46.alloc (.cells #[.int .u64 tr, .slice ka8 kn8 kc8, .slice va8 vn8 vc8, .slice ta8 tn8 tc8, .bool tcl] 30)).alloc (.cells #[.int .i64 y1, .int .u64 y2] 51)) (w46.heap.size + 1) [.int .i64 y1, .int .u64 y2] from by repeat (first | ((with_reducible refine Cb.at _ rfl ?_); (simp; done)) | with_reducible refine Cb.alloc ?_ _))
            clear hE e46 S46
            obtain ⟨c0, c1, c2⟩ := HCc.out.three
            obtain ⟨sm, hsm⟩ : ∃ sm, RowKit.Hid (sm = decide (meantK k a = meantK k b)) := ⟨_, Lib.hid rfl⟩
            go_upto_region 28 with (fail)
            go_cut [41] from 216 to 230 (fun v41 wx => v41 = .bool sm ∧ ∃ w28, w28 = wx ∧ Ext ((w46.alloc (.cells #[.int .u64 tr, .slice ka8 kn8 kc8, .slice va8 vn8 vc8, .slice ta8 tn8 tc8, .bool tcl] 30)).alloc (.cells #[.int .i64 y1, .int .u64 y2] 51)) w28)
            case first =>
              have HCa : RowKit.Hid (∀ W, _) := Lib.hid fun W => rcanon_any a W HA.out.1 HA.out.2
              have HCb : RowKit.Hid (∀ W, _) := Lib.hid fun W => rcanon_any b W HB.out.1 HB.out.2
              by_cases hab : a = b
              · subst hab
                have hs : sm = true := by rw [hsm.out]; simp
                subst hs
                go_wp2_with (first | (go_at_call 30; (with_reducible refine (HCa.out _).mono ?_); rintro e w' ⟨rfl, rfl⟩) | (go_at_call 30; (with_reducible refine (HCb.out _).mono ?_); rintro e w' ⟨rfl, rfl⟩))
                go_meet
                exact ⟨rfl, _, rfl, Ext.refl _⟩
              · have hb1 : (a == b) = false := by simpa using hab
                by_cases hk4 : k = 4
                · have hb4 : (k == 4) = true := by simpa using hk4
                  by_cases hc : canon a = canon b
                  · have hbc : (canon a == canon b) = true := by simpa using hc
                    have hs : sm = true := by rw [hsm.out]; unfold meantK; rw [if_pos hk4, if_pos hk4, hc]; simp
                    subst hs
                    clear hc hk4 hsm
                    go_wp2_with (first | (go_at_call 30; (with_reducible refine (HCa.out _).mono ?_); rintro e w' ⟨rfl, rfl⟩) | (go_at_call 30; (with_reducible refine (HCb.out _).mono ?_); rintro e w' ⟨rfl, rfl⟩))
                    go_meet
                    exact ⟨rfl, _, rfl, Ext.refl _⟩
                  · have hbc : (canon a == canon b) = false := by simpa using hc
                    have hs : sm = false := by rw [hsm.out]; unfold meantK; rw [if_pos hk4, if_pos hk4]; simpa using hc
                    subst hs
                    clear hc hk4 hsm
                    go_wp2_with (first | (go_at_call 30; (with_reducible refine (HCa.out _).mono ?_); rintro e w' ⟨rfl, rfl⟩) | (go_at_call 30; (with_reducible refine (HCb.out _).mono ?_); rintro e w' ⟨rfl, rfl⟩))
                    go_meet
                    exact ⟨rfl, _, rfl, Ext.refl _⟩
                · have hb4 : (k == 4) = false := by simpa using hk4
                  have hs : sm = false := by rw [hsm.out]; unfold meantK; rw [if_neg hk4, if_neg hk4]; simpa using hab
                  subst hs
                  clear hk4 hsm
                  go_wp2_with (first | (go_at_call 30; (with_reducible refine (HCa.out _).mono ?_); rintro e w' ⟨rfl, rfl⟩) | (go_at_call 30; (with_reducible refine (HCb.out _).mono ?_); rintro e w' ⟨rfl, rfl⟩))
                  go_meet
                  exact ⟨rfl, _, rfl, Ext.refl _⟩
            case rest =>
              clear c0 c1 c2
              obtain ⟨rfl, w28, rfl, hE⟩ := hcut
              replace HCc := Lib.hid (HCc.out.ext hE)
              replace HBs := Lib.hid (HBs.out.ext hE)
              replace HSs := Lib.hid (HSs.out.ext hE)
              replace HBt := Lib.hid (HBt.out.ext hE)
              replace HSt := Lib.hid (HSt.out.ext hE)
              replace HRr := Lib.hid (HRr.out.ext hE)
              replace HRw := Lib.hid (HRw.out.ext hE)
              replace HRn := Lib.hid (HRn.out.ext hE)
              replace HRh := Lib.hid (HRh.out.ext hE)
              replace HRg := Lib.hid (HRg.out.ext hE)
              replace HR34 := Lib.hid (HR34.out.ext hE)
              replace HRx := Lib.hid (HRx.out.ext hE)
              replace HRy := Lib.hid (HRy.out.ext hE)
              replace HE := Lib.hid (HE.out.trans hE)
              clear hE
              have HXs : RowKit.Hid (sm = false → x1 = y1 ∧ x2 = y2) := Lib.hid (fun h => HXY.out (fun e => by rw [hsm.out, e] at h; simp at h))
              obtain ⟨xa, hxa⟩ : ∃ xa, RowKit.Hid (meantK k a = xa) := ⟨_, Lib.hid rfl⟩
              have hnx := HNX.out
              rw [hxa.out] at hnx
              have HNx := Lib.hid hnx
              clear hnx HNX HXY hsm
              obtain ⟨c0, c1, c2⟩ := HCc.out.three
              obtain ⟨t0, t1, t2, t3, t4⟩ := HBt.out.five
              have HD := do_all2 k p m ⟨ka2, kn2, kc2⟩ ⟨va2, vn2, vc2⟩ ⟨ta2, tn2, tc2⟩ ⟨tr, tk, tu, tw, tcl⟩ ⟨8, a, 0⟩ _ HSt.out (wc_nx HA.out)
              rw [do_f HRt.out HNx.out] at HD
              have HDo := Lib.hid HD
              clear HD
              try dsimp only [cf, sv, sc, opv] at *
              go_wp2_with (fail)
              refine HDo.out.mono ?_
              rintro e w47 ⟨e47, ⟨ka10, kn10, kc10⟩, ⟨va10, vn10, vc10⟩, ⟨ta10, tn10, tc10⟩, rfl, S47, O47⟩
              clear HDo c0 c1 c2 t0 t1 t2 t3 t4 O47
              try dsimp only [sv, rv] at *
              have hE : Ext _ ((w47.alloc (.cells #[.int .u64 tr, .slice ka10 kn10 kc10, .slice va10 vn10 vc10, .slice ta10 tn10 tc10, .bool tcl] 30)).alloc (.cells #[.int .i64 0, .int .u64 xa] 51)) := (e47.alloc (.cells #[.int .u64 tr, .slice ka10 kn10 kc10, .slice va10 vn10 vc10, .slice ta10 tn10 tc10, .bool tcl] 30)).alloc (.cells #[.int .i64 0, .int .u64 xa] 51)
              replace HCc := Lib.hid (HCc.out.ext hE)
              replace HBs := Lib.hid (HBs.out.ext hE)
              replace HSs := Lib.hid (HSs.out.ext hE)
              replace HBt := Lib.hid (HBt.out.ext hE)
              replace HSt := Lib.hid (HSt.out.ext hE)
              replace HRr := Lib.hid (HRr.out.ext hE)
              replace HRw := Lib.hid (HRw.out.ext hE)
              replace HRn := Lib.hid (HRn.out.ext hE)
              replace HRh := Lib.hid (HRh.out.ext hE)
              replace HRg := Lib.hid (HRg.out.ext hE)
              replace HR34 := Lib.hid (HR34.out.ext hE)
              replace HRx := Lib.hid (HRx.out.ext hE)
              replace HRy := Lib.hid (HRy.out.ext hE)
              replace HE := Lib.hid (HE.out.trans hE)
              have HRq := Lib.hid (show Cb ((w47.alloc (.cells #[.int .u64 tr, .slice ka10 kn10 kc10, .slice va10 vn10 vc10, .slice ta10 tn10 tc10, .bool tcl] 30)).alloc (.cells #[.int .i64 0, .int .u64 xa] 51)) (w47.heap.size + 1) [.int .i64 0, .int .u64 xa] from by repeat (first | ((with_reducible refine Cb.at _ rfl ?_); (simp; done)) | with_reducible refine Cb.alloc ?_ _))
              clear hE e47 S47
              obtain ⟨c0, c1, c2⟩ := HCc.out.three
              obtain ⟨p0, p1⟩ := HRx.out.two
              obtain ⟨y0', y1'⟩ := HRy.out.two
              obtain ⟨q0, q1⟩ := HRq.out.two
              go_upto_region 30 with (fail)
              go_cut [274] from 240 to 274 (fun v274 wx => v274 = .bool false ∧ ∃ w30, w30 = wx ∧ Ext ((w47.alloc (.cells #[.int .u64 tr, .slice ka10 kn10 kc10, .slice va10 vn10 vc10, .slice ta10 tn10 tc10, .bool tcl] 30)).alloc (.cells #[.int .i64 0, .int .u64 xa] 51)) w30)
              case first =>
                generalize w47.heap.size + 1 = Q43 at *
                generalize ((w47.alloc (.cells #[.int .u64 tr, .slice ka10 kn10 kc10, .slice va10 vn10 vc10, .slice ta10 tn10 tc10, .bool tcl] 30)).alloc (.cells #[.int .i64 0, .int .u64 xa] 51)) = w29 at *
                have HCa : RowKit.Hid (∀ W, _) := Lib.hid fun W => rcanon_any a W HA.out.1 HA.out.2
                cases sm
                · obtain ⟨hx1, hx2⟩ := HXs.out rfl
                  subst hx1
                  subst hx2
                  clear HXs
                  by_cases hk4 : k = 4
                  · subst hk4
                    have hc : canon a = xa := by have := hxa.out; unfold meantK at this; rwa [if_pos rfl] at this
                    by_cases hxe : xa = a
                    · have hxe2 := hxe.symm
                      clear hxe
                      subst hxe2
                      rw [hc] at HCa
                      clear hc hxa
                      have q2 := eqR x1 x2 x1 x2
                      rw [beq_self_eq_true, beq_self_eq_true] at q2
                      go_quiet (first | (go_at_call 30; exact (HCa.out _).mono fun _ _ h => ⟨h.1, _, h.2.symm⟩))
                      go_wp2_with (fail)
                      go_meet
                      exact ⟨rfl, _, rfl, by first | exact Ext.refl _ | exact Ext.draws _ _ | assumption⟩
                    · have hb5 : (xa != a) = true := by simpa using hxe
                      rw [hc] at HCa
                      clear hc hxa hxe
                      have q2 := eqR x1 x2 x1 x2
                      rw [beq_self_eq_true, beq_self_eq_true] at q2
                      go_quiet (first | (go_at_call 30; exact (HCa.out _).mono fun _ _ h => ⟨h.1, _, h.2.symm⟩))
                      go_wp2_with (fail)
                      go_meet
                      exact ⟨rfl, _, rfl, by first | exact Ext.refl _ | exact Ext.draws _ _ | assumption⟩
                  · have hc : a = xa := by have := hxa.out; unfold meantK at this; rwa [if_neg hk4] at this
                    subst hc
                    have hb4 : (k == 4) = false := by simpa using hk4
                    have hb5 : (k != 4) = true := by simpa using hk4
                    clear hk4 hxa
                    have q2 := eqR x1 x2 x1 x2
                    rw [beq_self_eq_true, beq_self_eq_true] at q2
                    go_quiet (first | (go_at_call 30; exact (HCa.out _).mono fun _ _ h => ⟨h.1, _, h.2.symm⟩))
                    go_wp2_with (fail)
                    go_meet
                    exact ⟨rfl, _, rfl, by first | exact Ext.refl _ | exact Ext.draws _ _ | assumption⟩
                · clear HXs
                  by_cases hk4 : k = 4
                  · subst hk4
                    have hc : canon a = xa := by have := hxa.out; unfold meantK at this; rwa [if_pos rfl] at this
                    by_cases hxe : xa = a
                    · have hxe2 := hxe.symm
                      clear hxe
                      subst hxe2
                      rw [hc] at HCa
                      clear hc hxa
                      have q2 := eqR x1 x2 x1 x2
                      rw [beq_self_eq_true, beq_self_eq_true] at q2
                      go_quiet (first | (go_at_call 30; exact (HCa.out _).mono fun _ _ h => ⟨h.1, _, h.2.symm⟩))
                      go_wp2_with (fail)
                      go_meet
                      exact ⟨rfl, _, rfl, by first | exact Ext.refl _ | exact Ext.draws _ _ | assumption⟩
                    · have hb5 : (xa != a) = true := by simpa using hxe
                      rw [hc] at HCa
                      clear hc hxa hxe
                      have q2 := eqR x1 x2 x1 x2
                      rw [beq_self_eq_true, beq_self_eq_true] at q2
                      go_quiet (first | (go_at_call 30; exact (HCa.out _).mono fun _ _ h => ⟨h.1, _, h.2.symm⟩))
                      go_wp2_with (fail)
                      go_meet
                      exact ⟨rfl, _, rfl, by first | exact Ext.refl _ | exact Ext.draws _ _ | assumption⟩
                  · have hc : a = xa := by have := hxa.out; unfold meantK at this; rwa [if_neg hk4] at this
                    subst hc
                    have hb4 : (k == 4) = false := by simpa using hk4
                    have hb5 : (k != 4) = true := by simpa using hk4
                    clear hk4 hxa
                    have q2 := eqR x1 x2 x1 x2
                    rw [beq_self_eq_true, beq_self_eq_true] at q2
                    go_quiet (first | (go_at_call 30; exact (HCa.out _).mono fun _ _ h => ⟨h.1, _, h.2.symm⟩))
                    go_wp2_with (fail)
                    go_meet
                    exact ⟨rfl, _, rfl, by first | exact Ext.refl _ | exact Ext.draws _ _ | assumption⟩
              case rest =>
                clear c0 c1 c2 p0 p1 y0' y1' q0 q1
                obtain ⟨rfl, w30, rfl, hE⟩ := hcut
                replace HCc := Lib.hid (HCc.out.ext hE)
                replace HBs := Lib.hid (HBs.out.ext hE)
                replace HSs := Lib.hid (HSs.out.ext hE)
                replace HBt := Lib.hid (HBt.out.ext hE)
                replace HSt := Lib.hid (HSt.out.ext hE)
                replace HRr := Lib.hid (HRr.out.ext hE)
                replace HRw := Lib.hid (HRw.out.ext hE)
                replace HRn := Lib.hid (HRn.out.ext hE)
                replace HRh := Lib.hid (HRh.out.ext hE)
                replace HRg := Lib.hid (HRg.out.ext hE)
                replace HR34 := Lib.hid (HR34.out.ext hE)
                replace HRx := Lib.hid (HRx.out.ext hE)
                replace HRy := Lib.hid (HRy.out.ext hE)
                replace HRq := Lib.hid (HRq.out.ext hE)
                replace HE := Lib.hid (HE.out.trans hE)
                clear hE
                obtain ⟨c0, c1, c2⟩ := HCc.out.three
                obtain ⟨t0, t1, t2, t3, t4⟩ := HBt.out.five
                have HD := do_all2 k p m ⟨ka2, kn2, kc2⟩ ⟨va2, vn2, vc2⟩ ⟨ta2, tn2, tc2⟩ ⟨tr, tk, tu, tw, tcl⟩ ⟨7, a, 0⟩ _ HSt.out (wc_dl HA.out)
                rw [do_f HRt.out HDU.out] at HD
                have HDo := Lib.hid HD
                clear HD
                try dsimp only [cf, sv, sc, opv] at *
                go_wp2_with (fail)
                refine HDo.out.mono ?_
                rintro e w48 ⟨e48, ⟨ka9, kn9, kc9⟩, ⟨va9, vn9, vc9⟩, ⟨ta9, tn9, tc9⟩, rfl, S48, O48⟩
                clear HDo c0 c1 c2 t0 t1 t2 t3 t4 O48
                try dsimp only [sv, rv] at *
                have hE : Ext _ ((w48.alloc (.cells #[.int .u64 ur, .slice ka9 kn9 kc9, .slice va9 vn9 vc9, .slice ta9 tn9 tc9, .bool ucl] 30)).alloc (.cells #[.int .i64 0, .int .u64 q] 51)) := (e48.alloc (.cells #[.int .u64 ur, .slice ka9 kn9 kc9, .slice va9 vn9 vc9, .slice ta9 tn9 tc9, .bool ucl] 30)).alloc (.cells #[.int .i64 0, .int .u64 q] 51)
                replace HCc := Lib.hid (HCc.out.ext hE)
                replace HBs := Lib.hid (HBs.out.ext hE)
                replace HSs := Lib.hid (HSs.out.ext hE)
                replace HBt := Lib.hid (HBt.out.ext hE)
                replace HSt := Lib.hid (HSt.out.ext hE)
                replace HRr := Lib.hid (HRr.out.ext hE)
                replace HRw := Lib.hid (HRw.out.ext hE)
                replace HRn := Lib.hid (HRn.out.ext hE)
                replace HRh := Lib.hid (HRh.out.ext hE)
                replace HRg := Lib.hid (HRg.out.ext hE)
                replace HR34 := Lib.hid (HR34.out.ext hE)
                replace HRx := Lib.hid (HRx.out.ext hE)
                replace HRy := Lib.hid (HRy.out.ext hE)
                replace HRq := Lib.hid (HRq.out.ext hE)
                replace HE := Lib.hid (HE.out.trans hE)
                have HBu := Lib.hid (show Cb ((w48.alloc (.cells #[.int .u64 ur, .slice ka9 kn9 kc9, .slice va9 vn9 vc9, .slice ta9 tn9 tc9, .bool ucl] 30)).alloc (.cells #[.int .i64 0, .int .u64 q] 51)) w48.heap.size (sc ur ⟨ka9, kn9, kc9⟩ ⟨va9, vn9, vc9⟩ ⟨ta9, tn9, tc9⟩ ucl) from by repeat (first | ((with_reducible refine Cb.at _ rfl ?_); (simp; done)) | with_reducible refine Cb.alloc ?_ _))
                have HSu := Lib.hid (S48.ext ((Ext.new w48 (.cells #[.int .u64 ur, .slice ka9 kn9 kc9, .slice va9 vn9 vc9, .slice ta9 tn9 tc9, .bool ucl] 30)).alloc (.cells #[.int .i64 0, .int .u64 q] 51)))
                have HRd := Lib.hid (show Cb ((w48.alloc (.cells #[.int .u64 ur, .slice ka9 kn9 kc9, .slice va9 vn9 vc9, .slice ta9 tn9 tc9, .bool ucl] 30)).alloc (.cells #[.int .i64 0, .int .u64 q] 51)) (w48.heap.size + 1) [.int .i64 0, .int .u64 q] from by repeat (first | ((with_reducible refine Cb.at _ rfl ?_); (simp; done)) | with_reducible refine Cb.alloc ?_ _))
                clear hE e48 S48
                obtain ⟨c0, c1, c2⟩ := HCc.out.three
                obtain ⟨t0, t1, t2, t3, t4⟩ := HBu.out.five
                have HD := do_all2 k p m ⟨ka9, kn9, kc9⟩ ⟨va9, vn9, vc9⟩ ⟨ta9, tn9, tc9⟩ ⟨ur, uk, uu, uw, ucl⟩ ⟨getC k, a, 0⟩ _ HSu.out (wc_gc HKy.out HA.out)
                rw [do_f HRu.out HGU.out] at HD
                have HDo := Lib.hid HD
                clear HD
                try dsimp only [cf, sv, sc, opv] at *
                go_wp2_with (fail)
                refine HDo.out.mono ?_
                rintro e w49 ⟨e49, ⟨ka11, kn11, kc11⟩, ⟨va11, vn11, vc11⟩, ⟨ta11, tn11, tc11⟩, rfl, S49, O49⟩
                clear HDo c0 c1 c2 t0 t1 t2 t3 t4 O49
                try dsimp only [sv, rv] at *
                have hE : Ext _ ((w49.alloc (.cells #[.int .u64 ur, .slice ka11 kn11 kc11, .slice va11 vn11 vc11, .slice ta11 tn11 tc11, .bool ucl] 30)).alloc (.cells #[.int .i64 o1, .int .u64 o2] 51)) := (e49.alloc (.cells #[.int .u64 ur, .slice ka11 kn11 kc11, .slice va11 vn11 vc11, .slice ta11 tn11 tc11, .bool ucl] 30)).alloc (.cells #[.int .i64 o1, .int .u64 o2] 51)
                replace HCc := Lib.hid (HCc.out.ext hE)
                replace HBs := Lib.hid (HBs.out.ext hE)
                replace HSs := Lib.hid (HSs.out.ext hE)
                replace HBt := Lib.hid (HBt.out.ext hE)
                replace HSt := Lib.hid (HSt.out.ext hE)
                replace HRr := Lib.hid (HRr.out.ext hE)
                replace HRw := Lib.hid (HRw.out.ext hE)
                replace HRn := Lib.hid (HRn.out.ext hE)
                replace HRh := Lib.hid (HRh.out.ext hE)
                replace HRg := Lib.hid (HRg.out.ext hE)
                replace HR34 := Lib.hid (HR34.out.ext hE)
                replace HRx := Lib.hid (HRx.out.ext hE)
                replace HRy := Lib.hid (HRy.out.ext hE)
                replace HRq := Lib.hid (HRq.out.ext hE)
                replace HBu := Lib.hid (HBu.out.ext hE)
                replace HSu := Lib.hid (HSu.out.ext hE)
                replace HRd := Lib.hid (HRd.out.ext hE)
                replace HE := Lib.hid (HE.out.trans hE)
                have HRo := Lib.hid (show Cb ((w49.alloc (.cells #[.int .u64 ur, .slice ka11 kn11 kc11, .slice va11 vn11 vc11, .slice ta11 tn11 tc11, .bool ucl] 30)).alloc (.cells #[.int .i64 o1, .int .u64 o2] 51)) (w49.heap.size + 1) [.int .i64 o1, .int .u64 o2] from by repeat (first | ((with_reducible refine Cb.at _ rfl ?_); (simp; done)) | with_reducible refine Cb.alloc ?_ _))
                clear hE e49 S49
                obtain ⟨c0, c1, c2⟩ := HCc.out.three
                obtain ⟨t0, t1, t2, t3, t4⟩ := HBu.out.five
                have HD := do_all2 k p m ⟨ka9, kn9, kc9⟩ ⟨va9, vn9, vc9⟩ ⟨ta9, tn9, tc9⟩ ⟨ur, uk, uu, uw, ucl⟩ ⟨7, a, 0⟩ _ HSu.out (wc_dl HA.out)
                rw [do_f HRu.out HDZ.out] at HD
                have HDo := Lib.hid HD
                clear HD
                try dsimp only [cf, sv, sc, opv] at *
                go_wp2_with (fail)
                refine HDo.out.mono ?_
                rintro e w50 ⟨e50, ⟨ka12, kn12, kc12⟩, ⟨va12, vn12, vc12⟩, ⟨ta12, tn12, tc12⟩, rfl, S50, O50⟩
                clear HDo c0 c1 c2 t0 t1 t2 t3 t4 O50
                try dsimp only [sv, rv] at *
                have hE : Ext _ ((w50.alloc (.cells #[.int .u64 ur, .slice ka12 kn12 kc12, .slice va12 vn12 vc12, .slice ta12 tn12 tc12, .bool ucl] 30)).alloc (.cells #[.int .i64 12, .int .u64 0] 51)) := (e50.alloc (.cells #[.int .u64 ur, .slice ka12 kn12 kc12, .slice va12 vn12 vc12, .slice ta12 tn12 tc12, .bool ucl] 30)).alloc (.cells #[.int .i64 12, .int .u64 0] 51)
                replace HCc := Lib.hid (HCc.out.ext hE)
                replace HBs := Lib.hid (HBs.out.ext hE)
                replace HSs := Lib.hid (HSs.out.ext hE)
                replace HBt := Lib.hid (HBt.out.ext hE)
                replace HSt := Lib.hid (HSt.out.ext hE)
                replace HRr := Lib.hid (HRr.out.ext hE)
                replace HRw := Lib.hid (HRw.out.ext hE)
                replace HRn := Lib.hid (HRn.out.ext hE)
                replace HRh := Lib.hid (HRh.out.ext hE)
                replace HRg := Lib.hid (HRg.out.ext hE)
                replace HR34 := Lib.hid (HR34.out.ext hE)
                replace HRx := Lib.hid (HRx.out.ext hE)
                replace HRy := Lib.hid (HRy.out.ext hE)
                replace HRq := Lib.hid (HRq.out.ext hE)
                replace HBu := Lib.hid (HBu.out.ext hE)
                replace HSu := Lib.hid (HSu.out.ext hE)
                replace HRd := Lib.hid (HRd.out.ext hE)
                replace HRo := Lib.hid (HRo.out.ext hE)
                replace HE := Lib.hid (HE.out.trans hE)
                have HRz := Lib.hid (show Cb ((w50.alloc (.cells #[.int .u64 ur, .slice ka12 kn12 kc12, .slice va12 vn12 vc12, .slice ta12 tn12 tc12, .bool ucl] 30)).alloc (.cells #[.int .i64 12, .int .u64 0] 51)) (w50.heap.size + 1) [.int .i64 12, .int .u64 0] from by repeat (first | ((with_reducible refine Cb.at _ rfl ?_); (simp; done)) | with_reducible refine Cb.alloc ?_ _))
                clear hE e50 S50
                obtain ⟨c0, c1, c2⟩ := HCc.out.three
                obtain ⟨d0, d1⟩ := HRd.out.two
                obtain ⟨z0, z1⟩ := HRz.out.two
                obtain ⟨u0, u1, u2, u3, u4⟩ := HBu.out.five
                obtain ⟨s0, s1', s2', s3, s4⟩ := HBs.out.five
                try dsimp only [sc] at *
                obtain ⟨rfl, ho⟩ := HO.out
                by_cases hk2 : k = 2
                · rw [if_pos hk2] at ho
                  subst ho
                  obtain ⟨j0, j1⟩ := HRo.out.two
                  have hb : (k == 2) = true := by simpa using hk2
                  clear hk2
                  rcases HCA.out with ⟨rfl, hl⟩ | ⟨rfl, hl, hus⟩
                  · clear hl HCA
                    go_wp2_with (fail)
                    go_ret
                    exact ⟨rfl, HE.out⟩
                  · have HSa := Lib.hid (same_any ⟨ka9, kn9, kc9⟩ ⟨va9, vn9, vc9⟩ ⟨ta9, tn9, tc9⟩ ⟨ka, kn, kc⟩ ⟨va, vn, vc⟩ ⟨ta, tn, tc⟩ ⟨ur, uk, uu, uw, ucl⟩ ⟨sr, sk, su, sw, scl⟩ true _ HSu.out HSs.out (Lib.hid (by rw [hus]; simp)))
                    clear hl hus HCA
                    try dsimp only [sv] at HSa
                    go_wp2_with ((go_at_call 15; (with_reducible refine (HSa.out).mono ?_); rintro e w99 ⟨rfl, e99⟩; replace HE := Lib.hid (HE.out.trans e99); clear e99))
                    go_ret
                    exact ⟨rfl, HE.out⟩
                · rw [if_neg hk2] at ho
                  subst ho
                  obtain ⟨j0, j1⟩ := HRo.out.two
                  have hb : (k == 2) = false := by simpa using hk2
                  clear hk2
                  rcases HCA.out with ⟨rfl, hl⟩ | ⟨rfl, hl, hus⟩
                  · clear hl HCA
                    go_wp2_with (fail)
                    go_ret
                    exact ⟨rfl, HE.out⟩
                  · have HSa := Lib.hid (same_any ⟨ka9, kn9, kc9⟩ ⟨va9, vn9, vc9⟩ ⟨ta9, tn9, tc9⟩ ⟨ka, kn, kc⟩ ⟨va, vn, vc⟩ ⟨ta, tn, tc⟩ ⟨ur, uk, uu, uw, ucl⟩ ⟨sr, sk, su, sw, scl⟩ true _ HSu.out HSs.out (Lib.hid (by rw [hus]; simp)))
                    clear hl hus HCA
                    try dsimp only [sv] at HSa
                    go_wp2_with ((go_at_call 15; (with_reducible refine (HSa.out).mono ?_); rintro e w99 ⟨rfl, e99⟩; replace HE := Lib.hid (HE.out.trans e99); clear e99))
                    go_ret
                    exact ⟨rfl, HE.out⟩

end Go.Proofs.YtdipddnnckfnmaaGreat.Law

/- AutoPuts:
  AutoPuts: for every input the law returns true, and each argument reads behind the call as it read before. No condition.
-/
namespace Go.Proofs.YtdipddnnckfnmaaGreat.autoPuts
open Go.ChangeShapes Go.WideShapes Go.ChangeAt Go.RowKit Go.Joins Go.Deep

set_option maxRecDepth 100000 in
theorem lifted (os : Os) (started : os.Started) (H : Type) (enc : TypeId × Value → H) :
    ReturnsInHanded {} Tryz.checked os 6 .any (Rows.autoPutsSpec.pre6 enc Tryz.prog Tryz.f6 Rows.autoPutsRow.domain false) (Rows.autoPutsSpec.post enc Tryz.prog Tryz.f6 false true false false) := by
  refine returnsInHanded_of_change (C := Tryz.checked) Law.own started (by kernel_rfl) Tryz.func6
    (ChangeSpec.witness6 (enc := enc) (C := Tryz.checked) false ⟨#[], #[.agg #[.int .i64 0, .int .i64 0, .int .i64 0], .slice none 0 0, .int .i64 0, .int .i64 0, .int .u64 0], []⟩ 8 (by kernel_rfl) (by kernel_rfl) (by kernel_rfl) (by kernel_rfl)) ?_
  intro W base args ds gs before hval0 hW hcnd _
  have hval : ∀ (j : Nat) t v, Tryz.f6.params[j]? = some t → args[j]? = some v → Value.okWide Tryz.prog W .any base t v := hval0
  have hW' := hW
  obtain ⟨p, q, hA0, hV, rfl, hfz, hnd⟩ := hW
  have hA : DataW.TrodAll enc Tryz.prog W 0 (fun _ => true) true Tryz.f6.params.toList args.toList ds p := hA0
  rw [Tryz.params6] at hA hval
  obtain ⟨v0, vs0, d0, ds0, p0, q0, hargs, rfl, rfl, h0, r0⟩ := trodAll_cons hA
  obtain ⟨v1, vs1, d1, ds1, p1, q1, rfl, rfl, rfl, h1, r1⟩ := trodAll_cons r0
  obtain ⟨v2, vs2, d2, ds2, p2, q2, rfl, rfl, rfl, h2, r2⟩ := trodAll_cons r1
  obtain ⟨v3, vs3, d3, ds3, p3, q3, rfl, rfl, rfl, h3, r3⟩ := trodAll_cons r2
  obtain ⟨v4, vs4, d4, ds4, p4, q4, rfl, rfl, rfl, h4, r4⟩ := trodAll_cons r3
  obtain ⟨rfl, rfl, rfl⟩ := trodAll_nil r4
  obtain rfl : args = #[v0, v1, v2, v3, v4] := by cases args; simp_all
  obtain ⟨a0, b0, c0, rfl, x0, y0, z0⟩ := Law.open_trip (hval 0 22 v0 rfl rfl) h0
  obtain ⟨s1, n1, c1, rfl, k1⟩ := Law.open_ts (hval 1 25 v1 rfl rfl) h1
  obtain ⟨a2, rfl, _, _, w2⟩ := open_int Tryz.underlying3 (hval 2 3 v2 rfl rfl) h2
  obtain ⟨a3, rfl, _, _, w3⟩ := open_int Tryz.underlying3 (hval 3 3 v3 rfl rfl) h3
  obtain ⟨a4, rfl, _, _, w4⟩ := open_int Tryz.underlying26 (hval 4 26 v4 rfl rfl) h4
  refine (Law.puts_walk a0 b0 c0 a2 a3 a4 s1 n1 c1 W x0 y0 z0 k1 (Law.i64_of w2) (Law.i64_of w3) (Law.u64_of w4)).mono fun e W' ⟨he, hg⟩ => ?_
  subst he
  exact ⟨_, rfl, Law.told hW' rfl rfl rfl (by kernel_rfl) hg⟩

theorem over : Rows.autoPutsRow.holds Tryz.pinned (OpenSpec.ofChange Rows.autoPutsSpec) :=
  OpenClaim.holds_of_wide 6 Tryz.f6 rfl rfl rfl rfl rfl rfl rfl ⟨rfl, rfl, rfl, rfl, rfl⟩ rfl rfl rfl rfl rfl (by kernel_rfl) Tryz.func6 (by kernel_rfl)
    (of_decide_eq_true (by kernel_rfl)) (by unfold Func.isWrapper; first | (rw [if_pos (by decide +kernel)]; kernel_rfl) | (rw [if_neg (by decide +kernel)]; exact ⟨rfl, rfl⟩))
    (fun os started H enc _ => lifted os started H enc)

end Go.Proofs.YtdipddnnckfnmaaGreat.autoPuts

namespace Go.Proofs.YtdipddnnckfnmaaGreat
theorem autoPuts_holds : Rows.AutoPutsSaid := autoPuts.over
end Go.Proofs.YtdipddnnckfnmaaGreat

