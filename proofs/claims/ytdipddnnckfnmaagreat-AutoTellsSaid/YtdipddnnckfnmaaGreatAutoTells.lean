/-
  AutoTells: for every input the law returns true, and each argument reads behind the call as it read before. No condition.
-/
import Derived.Test.YtdipddnnckfnmaaGreatM25
import Derived.Deep.RegionLaw
import Derived.Deep.CutRange
import Derived.Deep.CutBlock
import Derived.ProofKit
/- LawState2:
  What the laws of layer 9 make of raw numbers: a state, once more: its rows lie in none of the blocks that were there. Conditions: the configuration fits; the raw calls can be read.
-/
namespace Go.Proofs.YtdipddnnckfnmaaGreat.Law
open Go.RowKit (Below intOf)
open Go.Proofs.YtdipddnnckfnmaaGreat.Aut
open Go.Proofs.YtdipddnnckfnmaaGreat.Reg (cf bx fits_any)

/-- A call that answers a state whose rows are new. -/
def SE2 (s : St) (w : World) (f : Value → Value) (e : Ending) (w' : World) : Prop := Ext w w' ∧ ∃ k v t, e = .returned (f (sv s.reg k v t s.closed)) ∧ SS w' k v t s ∧ ∀ B, B < w.heap.size → OffS k v t B
set_option maxHeartbeats 4000000 in
set_option maxRecDepth 100000 in
theorem rnew_off (k p m : Int) (w : World) : Calls Tryz.prog 14 #[cf k p m] w (SE2 (newS k p m).1 w (fun v => .tuple #[v, .int .i64 (newS k p m).2])) := by
  have hF := fun w => Reg.rfits_any k p m w
  by_cases hf : fits k p m = true
  · have hf' : Reg.fits k p m = true := hf
    rw [hf'] at hF
    have hb := fits_of hf
    by_cases h5 : k = 5
    · subst h5
      obtain ⟨n, rfl⟩ : ∃ n : Nat, m = n := ⟨m.toNat, by omega⟩
      have hN : RowKit.Hid (newS 5 p n = (⟨0, [], [], List.replicate n 0, false⟩, 0)) := Lib.hid (by unfold newS; rw [if_pos hf]; simp)
      have hmk := fun W => make_ints n (by omega) W
      clear hf hf'
      go_enter Tryz.func14, Tryz.ntmps14
      go_wp2_with (fail)
      refine (hF _).mono ?_
      rintro e w1 ⟨rfl, rfl⟩
      go_wp2_with (fail)
      refine bodyPost_ret (v := .tuple #[sv 0 nilSl nilSl ⟨some ⟨w.heap.size + 1 + 1 + 1 + 1, 0, none⟩, n, n⟩ false, .int .i64 0]) (by simp [results, Tryz.results14, go_sem]) rfl ?_
      rw [hN.out]
      refine ⟨((((Ext.new w _).alloc _).alloc _).alloc _).alloc _, nilSl, nilSl, _, rfl, ⟨by unfold U64; simp, WS.empty _ _ _ (by decide), WS.empty _ _ _ (by decide), ?_⟩, fun B hB => ⟨fun h => absurd h (Nat.lt_irrefl 0), fun h => absurd h (Nat.lt_irrefl 0), fun _ g o e => by cases e; omega⟩⟩
      have h := made_ns n (by omega) ((((w.alloc (.cells #[.int .i64 5, .int .i64 p, .int .i64 n] 24)).alloc (.cells #[.int .u64 0, .slice none 0 0, .slice none 0 0, .slice (some ⟨w.heap.size + 1 + 1 + 1 + 1, 0, none⟩) n n, .bool false] 30)).alloc (bx 5 p n)).alloc (.cells #[.int .u64 0, .slice none 0 0, .slice none 0 0, .slice (some ⟨w.heap.size + 1 + 1 + 1 + 1, 0, none⟩) n n, .bool false] 30))
      simpa only [World.size_alloc] using h
    · have hN : RowKit.Hid (newS k p m = (zeroS, 0)) := Lib.hid (by unfold newS; rw [if_pos hf, if_neg h5]; rfl)
      have h5b : (k == 5) = false := by simpa using h5
      clear hf hf' h5
      go_enter Tryz.func14, Tryz.ntmps14
      go_wp2_with (fail)
      refine (hF _).mono ?_
      rintro e w1 ⟨rfl, rfl⟩
      go_wp2_with (fail)
      refine bodyPost_ret (v := .tuple #[sv 0 nilSl nilSl nilSl false, .int .i64 0]) (by simp [results, Tryz.results14, go_sem]) rfl ?_
      rw [hN.out]
      exact ⟨(((Ext.new w _).alloc _).alloc _).alloc _, nilSl, nilSl, nilSl, rfl, ss_zero _, fun B _ => Lan.offS_nil B⟩
  · have hf' : Reg.fits k p m = false := by have : Reg.fits k p m = fits k p m := rfl; rw [this]; simpa using hf
    rw [hf'] at hF
    have hN : RowKit.Hid (newS k p m = (zeroS, 5)) := Lib.hid (by unfold newS; rw [if_neg hf])
    clear hf hf'
    go_enter Tryz.func14, Tryz.ntmps14
    go_wp2_with (fail)
    refine (hF _).mono ?_
    rintro e w1 ⟨rfl, rfl⟩
    go_wp2_with (fail)
    refine bodyPost_ret (v := .tuple #[sv 0 nilSl nilSl nilSl false, .int .i64 5]) (by simp [results, Tryz.results14, go_sem]) rfl ?_
    rw [hN.out]
    exact ⟨((Ext.new w _).alloc _).alloc _, nilSl, nilSl, nilSl, rfl, ss_zero _, fun B _ => Lan.offS_nil B⟩

/-- It answers a state that is right, in rows of its own. -/
def StE2 (k p m : Int) (w : World) (e : Ending) (w' : World) : Prop := ∃ s : St, rightS k p m s = true ∧ ∃ a v t : Sl, e = .returned (sv s.reg a v t s.closed) ∧ SS w' a v t s ∧ Ext w w' ∧ ∀ B, B < w.heap.size → OffS a v t B
/-- What a round finds. -/
def StL2 (k p m : Int) (w wr : World) (S : Nat) : Prop := ∃ (s : St) (a v t : Sl), rightS k p m s = true ∧ SS wr a v t s ∧ (∀ B, B < w.heap.size + 2 → OffS a v t B) ∧ Cb wr S (sc s.reg a v t s.closed) ∧ Cb wr w.heap.size [.int .i64 k, .int .i64 p, .int .i64 m] ∧ Cb wr (w.heap.size + 1) (sc 0 nilSl nilSl nilSl false) ∧ Ext w wr
/-- What a round's call leaves. -/
def StC2 (k p m : Int) (w wx : World) (S : Nat) (v8 v10 : Value) : Prop := v10 = .int .i64 0 ∧ ∃ B : Nat, v8 = .pointer (some ⟨B, 0, none⟩) ∧ ∃ (d : St) (a v t : Sl), rightS k p m d = true ∧ SS wx a v t d ∧ OffS a v t S ∧ (∀ B, B < w.heap.size + 2 → OffS a v t B) ∧ Cb wx B (sc d.reg a v t d.closed) ∧ (∃ (s : St) (a v t : Sl), Cb wx S (sc s.reg a v t s.closed)) ∧ Cb wx w.heap.size [.int .i64 k, .int .i64 p, .int .i64 m] ∧ Cb wx (w.heap.size + 1) (sc 0 nilSl nilSl nilSl false) ∧ Ext w wx
set_option maxHeartbeats 8000000 in
set_option maxRecDepth 100000 in
theorem state_any2 {k p m : Int} (sl : Option Addr) (n c : Nat) (w : World) (hf : fits k p m = true) (hT : TS w sl n) :
    Calls Tryz.prog 10 #[cf k p m, .slice sl n c] w (StE2 k p m w) := by
  have hm : I64 m := by have := fits_of hf; unfold I64; omega
  have hnew : newS k p m = ((newS k p m).1, 0) := by unfold newS; rw [if_pos hf]
  have HN : RowKit.Hid (∀ W, _) := Lib.hid (fun W => rnew_off k p m W)
  rw [hnew] at HN
  have HNR := Lib.hid (new_right hf)
  generalize (newS k p m).1 = s0 at *
  have HTS := Lib.hid hT
  have HF := Lib.hid hf
  have HM := Lib.hid hm
  have b0 : Cb ((w.alloc (.cells #[.int .i64 k, .int .i64 p, .int .i64 m] 24)).alloc (.cells #[.int .u64 0, .slice none 0 0, .slice none 0 0, .slice none 0 0, .bool false] 30)) w.heap.size [.int .i64 k, .int .i64 p, .int .i64 m] := (Cb.new w _ _).alloc _
  have b1 : Cb ((w.alloc (.cells #[.int .i64 k, .int .i64 p, .int .i64 m] 24)).alloc (.cells #[.int .u64 0, .slice none 0 0, .slice none 0 0, .slice none 0 0, .bool false] 30)) (w.heap.size + 1) (sc 0 nilSl nilSl nilSl false) := by repeat (first | ((with_reducible refine Cb.at _ rfl ?_); (simp; done)) | with_reducible refine Cb.alloc ?_ _)
  have hX : Ext w ((w.alloc (.cells #[.int .i64 k, .int .i64 p, .int .i64 m] 24)).alloc (.cells #[.int .u64 0, .slice none 0 0, .slice none 0 0, .slice none 0 0, .bool false] 30)) := (Ext.new w _).alloc _
  obtain ⟨c0, c1, c2⟩ := b0.three
  have HB0 := Lib.hid b0
  have HB1 := Lib.hid b1
  have HX := Lib.hid hX
  clear b0 b1 hX hT hf hnew hm
  dsimp only [cf, sv] at *
  go_enter Tryz.func10, Tryz.ntmps10
  go_wp2_with (first
    | (go_at_call 14; (with_reducible refine (HN.out _).mono ?_); rintro e w1 ⟨e1, ⟨ka, kn, kc⟩, ⟨va, vn, vc⟩, ⟨ta, tn, tc⟩, rfl, s1, o1⟩; have O1 := Lib.hid o1; have E1 := Lib.hid e1; have S1 := Lib.hid s1; clear e1 s1 o1 c0 c1 c2))
  obtain ⟨r0, ks0, vs0, vt0, cl0⟩ := s0
  have HL0 : RowKit.Hid (StL2 k p m w (w1.alloc (.cells #[.int .u64 r0, .slice ka kn kc, .slice va vn vc, .slice ta tn tc, .bool cl0] 30)) w1.heap.size) := Lib.hid (by
    refine ⟨⟨r0, ks0, vs0, vt0, cl0⟩, ⟨ka, kn, kc⟩, ⟨va, vn, vc⟩, ⟨ta, tn, tc⟩, HNR.out, S1.out.ext (Ext.new _ _), fun B hB => O1.out B (by simp; omega), Cb.new w1 _ _, (HB0.out.ext E1.out).alloc _, (HB1.out.ext E1.out).alloc _, (HX.out.trans E1.out).alloc _⟩)
  have hz1 : w.heap.size + 1 + 1 ≤ w1.heap.size := by have := E1.out.size; simpa only [World.size_alloc] using this
  clear HB0 HB1 HX E1 S1 HNR HN O1
  dsimp only at *
  go_loopw [7] (fun iv wr => ∃ i : Nat, iv = .int .i64 i ∧ i ≤ 30 ∧ StL2 k p m w wr w1.heap.size) (fun iv _ => 30 - (intOf iv).toNat)
  case atStart => exact ⟨0, rfl, by omega, HL0.out⟩
  case round =>
    obtain ⟨i, rfl, hi30, ⟨sr, sk, su, sw, scl⟩, ⟨ka4, kn4, kc4⟩, ⟨va4, vn4, vc4⟩, ⟨ta4, tn4, tc4⟩, hR, hS, hO, hB, hC, hD, hE⟩ := hrel
    clear HL0
    by_cases hin : i < n ∧ i < 30
    · obtain ⟨hin, hi3⟩ := hin
      obtain ⟨rx, ry, rz, ux, uy, uz, b, o, esl, cx, cy, cz⟩ := HTS.out.2 i hin
      subst esl
      have hii : (i : Int) < n := by omega
      have hi3i : (i : Int) < 30 := by omega
      have hui := Lib.hid (u64_i (i := i) (by omega))
      have HOp := Lib.hid (fun W => op_any rx ry rz (i : Int) W HF.out ux uy uz hui.out.2)
      have HDo := Lib.hid (fun W (h : SS W ⟨ka4, kn4, kc4⟩ ⟨va4, vn4, vc4⟩ ⟨ta4, tn4, tc4⟩ ⟨sr, sk, su, sw, scl⟩) o (ho : Wc o) => rdo_any k p m ⟨ka4, kn4, kc4⟩ ⟨va4, vn4, vc4⟩ ⟨ta4, tn4, tc4⟩ ⟨sr, sk, su, sw, scl⟩ o W HM.out h ho)
      have hdo : RowKit.Hid (∀ o, doF k p m ⟨sr, sk, su, sw, scl⟩ o = ((doS k m ⟨sr, sk, su, sw, scl⟩ o).1, (doS k m ⟨sr, sk, su, sw, scl⟩ o).2, 0)) := Lib.hid (fun o => by unfold doF; rw [if_pos HF.out, if_pos hR])
      have cx2 := hE.cell cx
      have cy2 := hE.cell cy
      have cz2 := hE.cell cz
      obtain ⟨c0, c1, c2⟩ := hC.three
      obtain ⟨s0, s1, s2, s3, s4⟩ := hB.five
      have HR := Lib.hid hR
      have HS := Lib.hid hS
      clear hO
      have HB := Lib.hid hB
      have HC := Lib.hid hC
      have HD := Lib.hid hD
      have HE := Lib.hid hE
      have hlt1 : w1.heap.size < wr.heap.size := hB.lt
      clear hR hS hB hC hD hE cx cy cz ux uy uz
      have hui1 := hui.out.1
      go_upto_region 5 with (fail)
      go_cut [8, 9, 10] from 26 to 40 (fun v8 v9 v10 wx => StC2 k p m w wx w1.heap.size v8 v10)
      case first =>
        refine wp_region_held_drew (S := fun w' => Ext wr w') (by kernel_rfl) (Ext.drew (Ext.refl wr)) (fun hHeld => ?_)
        refine wpAnyH_take (i := 0) (v := .agg #[.int .i64 k, .int .i64 p, .int .i64 m]) rfl (by kernel_rfl) (by kernel_rfl) (by kernel_rfl) (fun _ _ _ h => h) (Or.inl ⟨by kernel_rfl, ?_⟩) (by assumption) ?_
        · intro w hE
          have q0 := hE.cell c0
          have q1 := hE.cell c1
          have q2 := hE.cell c2
          go_simp
        refine wpAnyH_take (i := 1) (v := .agg #[.int .u64 sr, .slice ka4 kn4 kc4, .slice va4 vn4 vc4, .slice ta4 tn4 tc4, .bool scl]) rfl (by kernel_rfl) (by kernel_rfl) (by kernel_rfl) (fun _ _ _ h => h) (Or.inl ⟨by kernel_rfl, ?_⟩) (by assumption) ?_
        · intro w hE
          have q0 := hE.cell s0
          have q1 := hE.cell s1
          have q2 := hE.cell s2
          have q3 := hE.cell s3
          have q4 := hE.cell s4
          go_simp
        refine wpAnyH_take (i := 2) (v := .agg #[.int .i64 k, .int .i64 p, .int .i64 m]) rfl (by kernel_rfl) (by kernel_rfl) (by kernel_rfl) (fun _ _ _ h => h) (Or.inl ⟨by kernel_rfl, ?_⟩) (by assumption) ?_
        · intro w hE
          have q0 := hE.cell c0
          have q1 := hE.cell c1
          have q2 := hE.cell c2
          go_simp
        refine wpAnyH_take (i := 3) (v := .slice (some ⟨b, o, none⟩) n c) rfl (by kernel_rfl) (by kernel_rfl) (by kernel_rfl) (fun _ _ _ h => h) (Or.inl ⟨by kernel_rfl, ?_⟩) (by assumption) ?_
        · intro w hE
          go_simp
        refine wpAnyH_take (i := 4) (v := .int .i64 (i : Int)) rfl (by kernel_rfl) (by kernel_rfl) (by kernel_rfl) (fun _ _ _ h => h) (Or.inl ⟨by kernel_rfl, ?_⟩) (by assumption) ?_
        · intro w hE
          go_simp
        refine wpAnyH_take (i := 5) (v := .pointer (some ⟨b, o + i * 3, none⟩)) rfl (by kernel_rfl) (by kernel_rfl) (by kernel_rfl) (fun _ _ _ h => h) (Or.inl ⟨by kernel_rfl, ?_⟩) (by assumption) ?_
        · intro w hE
          go_simp
        refine wpAnyH_take (i := 6) (v := .agg #[.int .i64 rx, .int .i64 ry, .int .i64 rz]) rfl (by kernel_rfl) (by kernel_rfl) (by kernel_rfl) (fun _ _ _ h => h) (Or.inl ⟨by kernel_rfl, ?_⟩) (by assumption) ?_
        · intro w hE
          have q0 := hE.cell cx2
          have q1 := hE.cell cy2
          have q2 := hE.cell cz2
          go_simp
        refine wpAnyH_take (i := 7) (v := .int .i64 (i : Int)) rfl (by kernel_rfl) (by kernel_rfl) (by kernel_rfl) (fun _ _ _ h => h) (Or.inl ⟨by kernel_rfl, ?_⟩) (by assumption) ?_
        · intro w hE
          go_simp
        refine wpAnyH_take (i := 8) (v := .int .u64 (i : Int)) rfl (by kernel_rfl) (by kernel_rfl) (by kernel_rfl) (fun _ _ _ h => h) (Or.inl ⟨by kernel_rfl, ?_⟩) (by assumption) ?_
        · intro w hE
          go_simp
        clear c0 c1 c2 s0 s1 s2 s3 s4 cx2 cy2 cz2
        refine Par.wpAnyH_par (fuel := 3) [9, 10, 11, 12, 13, 14, 15, 16] [11, 12, 13, 14] stDeps stSlots (StF k p m wr) StX Ext rfl (by kernel_rfl) (by kernel_rfl) (by kernel_rfl) (fun _ _ _ _ _ h => h) Ext.refl (fun _ _ _ h g => Ext.trans h g) stF_loc stF_stab stX_loc (by assumption) ?_ ?_ ?_
        · refine List.forall_mem_cons.2 ⟨?_, List.forall_mem_cons.2 ⟨?_, List.forall_mem_cons.2 ⟨?_, List.forall_mem_cons.2 ⟨?_, fun _ h => by cases h⟩⟩⟩⟩
          · refine ⟨_, rfl, fun done vs w5 hn hS5 hR5 hd hF => ?_⟩
            obtain ⟨⟨dr, dk, dv, dt, dc⟩, ⟨k6, n6, c6⟩, ⟨p6, q6, r6⟩, ⟨x6, y6, u6⟩, d2, d3, _, _, _, e10⟩ := hF 10 (hd 10 (by decide))
            refine ⟨.tuple #[sv dr ⟨k6, n6, c6⟩ ⟨p6, q6, r6⟩ ⟨x6, y6, u6⟩ dc, rv d2 d3, .int .i64 0], Or.inl ⟨by kernel_rfl, ?_⟩, e10.symm, fun j _ => stX_no (by decide) (by decide) (by decide)⟩
            intro w hE
            simp only [stDeps, Par.putAll_nil, Par.putAll_some, stSlots]
            simp only [e10]
            go_simp
          · refine ⟨_, rfl, fun done vs w5 hn hS5 hR5 hd hF => ?_⟩
            obtain ⟨⟨dr, dk, dv, dt, dc⟩, ⟨k6, n6, c6⟩, ⟨p6, q6, r6⟩, ⟨x6, y6, u6⟩, d2, d3, _, _, _, e10⟩ := hF 10 (hd 10 (by decide))
            have e11 : vs 11 = vs 10 := hF 11 (hd 11 (by decide))
            refine ⟨sv dr ⟨k6, n6, c6⟩ ⟨p6, q6, r6⟩ ⟨x6, y6, u6⟩ dc, Or.inl ⟨by kernel_rfl, ?_⟩, ⟨_, _, _, e10, rfl⟩, fun j _ => stX_no (by decide) (by decide) (by decide)⟩
            intro w hE
            simp only [stDeps, Par.putAll_nil, Par.putAll_some, stSlots]
            simp only [e11, e10]
            go_simp
          · refine ⟨_, rfl, fun done vs w5 hn hS5 hR5 hd hF => ?_⟩
            obtain ⟨⟨dr, dk, dv, dt, dc⟩, ⟨k6, n6, c6⟩, ⟨p6, q6, r6⟩, ⟨x6, y6, u6⟩, d2, d3, _, _, _, e10⟩ := hF 10 (hd 10 (by decide))
            have e11 : vs 11 = vs 10 := hF 11 (hd 11 (by decide))
            refine ⟨rv d2 d3, Or.inl ⟨by kernel_rfl, ?_⟩, ⟨_, _, _, e10, rfl⟩, fun j _ => stX_no (by decide) (by decide) (by decide)⟩
            intro w hE
            simp only [stDeps, Par.putAll_nil, Par.putAll_some, stSlots]
            simp only [e11, e10]
            go_simp
          · refine ⟨_, rfl, fun done vs w5 hn hS5 hR5 hd hF => ?_⟩
            obtain ⟨⟨dr, dk, dv, dt, dc⟩, ⟨k6, n6, c6⟩, ⟨p6, q6, r6⟩, ⟨x6, y6, u6⟩, d2, d3, _, _, _, e10⟩ := hF 10 (hd 10 (by decide))
            have e11 : vs 11 = vs 10 := hF 11 (hd 11 (by decide))
            refine ⟨.int .i64 0, Or.inl ⟨by kernel_rfl, ?_⟩, ⟨_, _, _, e10, rfl⟩, fun j _ => stX_no (by decide) (by decide) (by decide)⟩
            intro w hE
            simp only [stDeps, Par.putAll_nil, Par.putAll_some, stSlots]
            simp only [e11, e10]
            go_simp
        · refine List.forall_mem_cons.2 ⟨?_, List.forall_mem_cons.2 ⟨?_, List.forall_mem_cons.2 ⟨?_, List.forall_mem_cons.2 ⟨?_, List.forall_mem_cons.2 ⟨?_, List.forall_mem_cons.2 ⟨?_, List.forall_mem_cons.2 ⟨?_, List.forall_mem_cons.2 ⟨?_, fun _ h => by cases h⟩⟩⟩⟩⟩⟩⟩⟩
          · intro _ done vs w5 hn hS5 hR5 hd hF
            simp only [stDeps, Par.putAll_nil]
            refine Par.step_of rfl (fun K hK => ?_)
            go_simp
            refine (HOp.out _).mono ?_
            rintro e w6 ⟨oo, ho, rfl, e6⟩
            exact hK.out _ _ ⟨ov oo, by kernel_rfl, hS5.trans e6, e6, ⟨oo, ho, rfl⟩, fun j _ => stX_no (by decide) (by decide) (by decide)⟩
          · intro _ done vs w5 hn hS5 hR5 hd hF
            obtain ⟨oo, ho, e9⟩ := hF 9 (hd 9 (by decide))
            simp only [stDeps, Par.putAll_nil, Par.putAll_some, stSlots]
            simp only [e9]
            refine Par.step_of rfl (fun K hK => ?_)
            have hD := HDo.out _ (HS.out.ext hS5) oo ho
            rw [hdo.out oo] at hD
            have hRd := (do_right HR.out HS.out.wd oo ho).1
            generalize doS k m ⟨sr, sk, su, sw, scl⟩ oo = d at hD hRd
            obtain ⟨⟨dr, dk, dv, dt, dc⟩, d2, d3⟩ := d
            go_simp
            refine hD.mono ?_
            rintro e w6 ⟨e6, ⟨k6, n6, c6⟩, ⟨p6, q6, r6⟩, ⟨x6, y6, u6⟩, rfl, S6, O6⟩
            exact hK.out _ _ ⟨.tuple #[sv dr ⟨k6, n6, c6⟩ ⟨p6, q6, r6⟩ ⟨x6, y6, u6⟩ dc, rv d2 d3, .int .i64 0], by kernel_rfl, hS5.trans e6, e6, ⟨⟨dr, dk, dv, dt, dc⟩, ⟨k6, n6, c6⟩, ⟨p6, q6, r6⟩, ⟨x6, y6, u6⟩, d2, d3, hRd, S6, fun B hB => O6 B (Nat.lt_of_lt_of_le hB hS5.size), rfl⟩, fun j hj => stX_do (hF j hj) O6⟩
          · exact fun h => absurd (by decide) h
          · exact fun h => absurd (by decide) h
          · exact fun h => absurd (by decide) h
          · exact fun h => absurd (by decide) h
          · intro _ done vs w5 hn hS5 hR5 hd hF
            simp only [stDeps, Par.putAll_nil]
            refine Par.step_of rfl (fun K hK => ?_)
            go_simp
            exact hK.out _ _ ⟨.pointer (some ⟨w5.heap.size, 0, none⟩), by kernel_rfl, hS5.alloc _, Ext.new _ _, ⟨w5.heap.size, rfl, hS5.size, Cb.new w5 _ _⟩, fun j hj => stX_box (.inl rfl) (fun e => hn (e ▸ hj)) (hF j hj)⟩
          · intro _ done vs w5 hn hS5 hR5 hd hF
            simp only [stDeps, Par.putAll_nil]
            refine Par.step_of rfl (fun K hK => ?_)
            go_simp
            exact hK.out _ _ ⟨.pointer (some ⟨w5.heap.size, 0, none⟩), by kernel_rfl, hS5.alloc _, Ext.new _ _, ⟨w5.heap.size, rfl, hS5.size, Cb.new w5 _ _⟩, fun j hj => stX_box (.inr rfl) (fun e => hn (e ▸ hj)) (hF j hj)⟩
        · intro vs w5 hS5 hR5 hF hXX
          obtain ⟨oo, ho, e9⟩ := hF 9 (by decide)
          obtain ⟨⟨dr, dk, dv, dt, dc⟩, ⟨k6, n6, c6⟩, ⟨p6, q6, r6⟩, ⟨x6, y6, u6⟩, d2, d3, hRd, S6, O6, e10⟩ := hF 10 (by decide)
          have e11 : vs 11 = vs 10 := hF 11 (by decide)
          obtain ⟨_, _, _, e, e12⟩ := hF 12 (by decide)
          cases e10.symm.trans e
          obtain ⟨_, _, _, e, e13⟩ := hF 13 (by decide)
          cases e10.symm.trans e
          obtain ⟨_, _, _, e, e14⟩ := hF 14 (by decide)
          cases e10.symm.trans e
          obtain ⟨B8, e15, g15, C8⟩ := hF 15 (by decide)
          obtain ⟨B9, e16, g16, C9⟩ := hF 16 (by decide)
          have x1 := stX_off (hXX 10 (by decide) 15 (by decide) (by decide)) (.inl rfl) e15 e10
          have x2 := stX_off (hXX 10 (by decide) 16 (by decide) (by decide)) (.inr rfl) e16 e10
          have x3 := stX_ne (hXX 15 (by decide) 16 (by decide) (by decide)) e15 e16
          simp only [Par.putAll_nil, Par.putAll_some, stSlots]
          simp only [e9, e10, e11, e12, e13, e14, e15, e16]
          clear hF hXX e9 e10 e11 e12 e13 e14 e15 e16 e
          obtain ⟨z0, z1, z2, z3, z4⟩ := C8.five
          have y0 := C8.f 0
          have y1 := C8.f 1
          have y2 := C8.f 2
          have y3 := C8.f 3
          have y4 := C8.f 4
          have hC8 := C8.st (.int .u64 dr) (.slice k6 n6 c6) (.slice p6 q6 r6) (.slice x6 y6 u6) (.bool dc)
          have hC9 := (((((C9.far (B := B8) (Ne.symm x3) 0 (.int .u64 dr)).far (B := B8) (Ne.symm x3) 1 (.slice k6 n6 c6)).far (B := B8) (Ne.symm x3) 2 (.slice p6 q6 r6)).far (B := B8) (Ne.symm x3) 3 (.slice x6 y6 u6)).far (B := B8) (Ne.symm x3) 4 (.bool dc))
          have hS6 := (((((SS.set S6 x1 0 (.int .u64 dr)).set x1 1 (.slice k6 n6 c6)).set x1 2 (.slice p6 q6 r6)).set x1 3 (.slice x6 y6 u6)).set x1 4 (.bool dc))
          have hE6 := (((((hS5.setCell g15 (.int .u64 dr) (o := 0)).setCell g15 (.slice k6 n6 c6) (o := 1)).setCell g15 (.slice p6 q6 r6) (o := 2)).setCell g15 (.slice x6 y6 u6) (o := 3)).setCell g15 (.bool dc) (o := 4))
          have HH := Lib.hid (And.intro hC8 (And.intro hC9 (And.intro hS6 hE6)))
          have HH2 := Lib.hid (And.intro hRd (And.intro O6 x2))
          clear hC8 hC9 hS6 hE6 C8 C9 S6 hS5 hRd O6 x1 x2 hR5 hHeld
          refine wpAnyH_ready (rs := [17]) (by kernel_rfl) (by simp) ?_
          refine AllReadyH.cons rfl (fun K hK => ?_) AllReadyH.nil
          go_simp
          refine hK.out _ _ HH.out.2.2.2 (fun hHeld => ?_)
          clear hK K z0 z1 z2 z3 z4 y0 y1 y2 y3 y4
          obtain ⟨hC8, hC9, hS6, hE6⟩ := HH.out
          clear HH hHeld
          generalize ((((w5.setCell ⟨B8, 0, none⟩ (.int .u64 dr)).setCell ⟨B8, 1, none⟩ (.slice k6 n6 c6)).setCell ⟨B8, 2, none⟩ (.slice p6 q6 r6)).setCell ⟨B8, 3, none⟩ (.slice x6 y6 u6)).setCell ⟨B8, 4, none⟩ (.bool dc) = w7 at hC8 hC9 hS6 hE6 ⊢
          obtain ⟨z0, z1⟩ := hC9.two
          have y0 := hC9.f 0
          have y1 := hC9.f 1
          have kC8 := ((hC8.far (B := B9) x3 0 (.int .i64 d2)).far (B := B9) x3 1 (.int .u64 d3))
          have kS6 := ((SS.set hS6 HH2.out.2.2 0 (.int .i64 d2)).set HH2.out.2.2 1 (.int .u64 d3))
          have kE6 := ((hE6.setCell g16 (.int .i64 d2) (o := 0)).setCell g16 (.int .u64 d3) (o := 1))
          have HH := Lib.hid (And.intro kC8 (And.intro kS6 kE6))
          clear kC8 kS6 kE6 hC8 hC9 hS6 hE6
          refine wpAnyH_ready (rs := [18]) (by kernel_rfl) (by simp) ?_
          refine AllReadyH.cons rfl (fun K hK => ?_) AllReadyH.nil
          go_simp
          refine hK.out _ _ HH.out.2.2 (fun hHeld => ?_)
          clear hK K z0 z1 y0 y1
          refine wpAnyH_take (i := 19) (v := .int .i64 0) rfl (by kernel_rfl) (by kernel_rfl) (by kernel_rfl) (fun _ _ _ h => h) (Or.inl ⟨by kernel_rfl, ?_⟩) (by assumption) ?_
          · intro w hE
            go_simp
          refine wpAnyH_done (by kernel_rfl) ?_ _
          obtain ⟨hC8, hS6, hE6⟩ := HH.out
          generalize (w7.setCell ⟨B9, 0, none⟩ (.int .i64 d2)).setCell ⟨B9, 1, none⟩ (.int .u64 d3) = w8 at hC8 hS6 hE6 ⊢
          clear HH hHeld
          go_wp2_with (fail)
          go_meet
          exact ⟨rfl, B8, rfl, ⟨dr, dk, dv, dt, dc⟩, ⟨k6, n6, c6⟩, ⟨p6, q6, r6⟩, ⟨x6, y6, u6⟩, HH2.out.1, hS6, HH2.out.2.1 _ hlt1, fun B hB => HH2.out.2.1 B (by omega), hC8, ⟨⟨sr, sk, su, sw, scl⟩, ⟨ka4, kn4, kc4⟩, ⟨va4, vn4, vc4⟩, ⟨ta4, tn4, tc4⟩, HB.out.ext hE6⟩, HC.out.ext hE6, HD.out.ext hE6, HE.out.trans hE6⟩
      case rest =>
        clear c0 c1 c2 s0 s1 s2 s3 s4 cx2 cy2 cz2 HOp HDo hdo HS HB HC HD HE HR
        obtain ⟨rfl, B, rfl, ⟨dr, dk, dv, dt, dc⟩, ⟨k6, n6, c6⟩, ⟨p6, q6, r6⟩, ⟨x6, y6, u6⟩, hR, hS, hO, hO2, hb8, ⟨⟨er, ek, ev, et, ec⟩, ⟨k7, n7, c7⟩, ⟨p7, q7, r7⟩, ⟨x7, y7, u7⟩, hB⟩, hC, hD, hE⟩ := hcut
        obtain ⟨d0, d1, d2, d3, d4⟩ := hb8.five
        obtain ⟨s0, s1, s2, s3, s4⟩ := hB.five
        have f0 := hB.f 0
        have f1 := hB.f 1
        have f2 := hB.f 2
        have f3 := hB.f 3
        have f4 := hB.f 4
        have HN := Lib.hid (hB.st (.int .u64 dr) (.slice k6 n6 c6) (.slice p6 q6 r6) (.slice x6 y6 u6) (.bool dc))
        have HSx := Lib.hid (((((SS.set hS hO 0 (.int .u64 dr)).set hO 1 (.slice k6 n6 c6)).set hO 2 (.slice p6 q6 r6)).set hO 3 (.slice x6 y6 u6)).set hO 4 (.bool dc))
        have HCx := Lib.hid (((((hC.far (B := w1.heap.size) (by omega) 0 (.int .u64 dr)).far (B := w1.heap.size) (by omega) 1 (.slice k6 n6 c6)).far (B := w1.heap.size) (by omega) 2 (.slice p6 q6 r6)).far (B := w1.heap.size) (by omega) 3 (.slice x6 y6 u6)).far (B := w1.heap.size) (by omega) 4 (.bool dc))
        have HDx := Lib.hid (((((hD.far (B := w1.heap.size) (by omega) 0 (.int .u64 dr)).far (B := w1.heap.size) (by omega) 1 (.slice k6 n6 c6)).far (B := w1.heap.size) (by omega) 2 (.slice p6 q6 r6)).far (B := w1.heap.size) (by omega) 3 (.slice x6 y6 u6)).far (B := w1.heap.size) (by omega) 4 (.bool dc))
        have hw1 : w.heap.size ≤ w1.heap.size := by omega
        have HEx := Lib.hid (((((hE.setCell hw1 (.int .u64 dr) (o := 0)).setCell hw1 (.slice k6 n6 c6) (o := 1)).setCell hw1 (.slice p6 q6 r6) (o := 2)).setCell hw1 (.slice x6 y6 u6) (o := 3)).setCell hw1 (.bool dc) (o := 4))
        have HRx := Lib.hid hR
        have HO2 := Lib.hid hO2
        clear hS hO hO2 hb8 hB hC hD hE hR
        dsimp only [sc] at *
        go_wp2_with (fail)
        go_roundw
        case rel => first | exact ⟨i + 1, by go_num, by omega, ⟨dr, dk, dv, dt, dc⟩, ⟨k6, n6, c6⟩, ⟨p6, q6, r6⟩, ⟨x6, y6, u6⟩, HRx.out, HSx.out, HO2.out, HN.out, HCx.out, HDx.out, HEx.out⟩ | ((repeat apply Exists.intro); exact ⟨⟨i + 1, by go_num, by omega, ⟨dr, dk, dv, dt, dc⟩, ⟨k6, n6, c6⟩, ⟨p6, q6, r6⟩, ⟨x6, y6, u6⟩, HRx.out, HSx.out, HO2.out, HN.out, HCx.out, HDx.out, HEx.out⟩, rfl⟩)
        case measure => simp [intOf]; omega
    · have hBx := Lib.hid hB
      have hRx := Lib.hid (And.intro hR (And.intro hS hO))
      have hEx := Lib.hid hE
      have hDx := Lib.hid hD
      rcases (by omega : ¬ i < n ∨ (i < n ∧ ¬ i < 30)) with hx0 | ⟨hx0, hx1⟩
      all_goals
        obtain ⟨s0, s1, s2, s3, s4⟩ := hBx.out.five
        obtain ⟨d0, d1, d2, d3, d4⟩ : wr.cell? ⟨w.heap.size + 1, 0, none⟩ = some (.int .u64 0) ∧ wr.cell? ⟨w.heap.size + 1, 1, none⟩ = some (.slice none 0 0) ∧ wr.cell? ⟨w.heap.size + 1, 2, none⟩ = some (.slice none 0 0) ∧ wr.cell? ⟨w.heap.size + 1, 3, none⟩ = some (.slice none 0 0) ∧ wr.cell? ⟨w.heap.size + 1, 4, none⟩ = some (.bool false) := hDx.out.five
        have f0 := hDx.out.f 0
        have f1 := hDx.out.f 1
        have f2 := hDx.out.f 2
        have f3 := hDx.out.f 3
        have f4 := hDx.out.f 4
        clear hin hB hC hD hE hR hS hO
        dsimp only [sc] at *
        go_wp2_with (fail)
        obtain ⟨t0, t1, t2, t3, t4⟩ := (hDx.out.st (.int .u64 sr) (.slice ka4 kn4 kc4) (.slice va4 vn4 vc4) (.slice ta4 tn4 tc4) (.bool scl)).five
        refine bodyPost_ret (v := sv sr ⟨ka4, kn4, kc4⟩ ⟨va4, vn4, vc4⟩ ⟨ta4, tn4, tc4⟩ scl) (by simp [results, Tryz.results10, go_sem, t0, t1, t2, t3, t4]) rfl ?_
        refine ⟨⟨sr, sk, su, sw, scl⟩, hRx.out.1, ⟨ka4, kn4, kc4⟩, ⟨va4, vn4, vc4⟩, ⟨ta4, tn4, tc4⟩, rfl, ?_, ?_, fun B hB => hRx.out.2.2 B (by omega)⟩
        · repeat (first | (with_reducible exact hRx.out.2.1) | (with_reducible refine SS.set ?_ (hRx.out.2.2 _ (by omega)) _ _))
        · repeat (first | (with_reducible exact hEx.out) | (with_reducible refine Ext.setCell ?_ (by omega) _))

end Go.Proofs.YtdipddnnckfnmaaGreat.Law

/- LawOpen:
  Configurations, states, calls and lists of answers as arguments, opened. Condition: they are readable, as a statement's arguments are.
-/
set_option maxRecDepth 100000
namespace Go.Proofs.YtdipddnnckfnmaaGreat.Law
open Go.ChangeShapes Go.WideShapes Go.ChangeAt Go.RowKit Go.Joins Go.Deep
open Go.Proofs.YtdipddnnckfnmaaGreat.Aut (Ext I64 U64 add_is WS WSL NS RS Rs Ir St Sl SS sv)

section
variable {H : Type} {enc : TypeId × Value → H} {W : World} {base : Nat} {v : Value} {d : DataW H} {p : List MemPlace}

theorem open_conf (hv : Value.okWide Tryz.prog W .any base 24 v) (h : DataW.Trod enc Tryz.prog W 0 (fun _ => true) true 24 v d p) : ∃ a b c : Int, v = .agg #[.int .i64 a, .int .i64 b, .int .i64 c] ∧ I64 a ∧ I64 b ∧ I64 c := by
  obtain ⟨c0, c1, c2, y0, y1, y2, n, rfl, _, _, g0, g1, g2⟩ := open_agg3 Tryz.underlying24 (by kernel_rfl) (by kernel_rfl) hv h
  obtain ⟨a, ea, _, wa⟩ := DataW.trod_int Tryz.underlying3 g0
  obtain ⟨b, eb, _, wb⟩ := DataW.trod_int Tryz.underlying3 g1
  obtain ⟨c, ec, _, wc⟩ := DataW.trod_int Tryz.underlying3 g2
  cases ea; cases eb; cases ec
  exact ⟨a, b, c, rfl, i64_of wa, i64_of wb, i64_of wc⟩
theorem open_op (hv : Value.okWide Tryz.prog W .any base 32 v) (h : DataW.Trod enc Tryz.prog W 0 (fun _ => true) true 32 v d p) : ∃ a b c : Int, v = .agg #[.int .i64 a, .int .u64 b, .int .u64 c] ∧ I64 a ∧ U64 b ∧ U64 c := by
  obtain ⟨c0, c1, c2, y0, y1, y2, n, rfl, _, _, g0, g1, g2⟩ := open_agg3 Tryz.underlying32 (by kernel_rfl) (by kernel_rfl) hv h
  obtain ⟨a, ea, _, wa⟩ := DataW.trod_int Tryz.underlying3 g0
  obtain ⟨b, eb, _, wb⟩ := DataW.trod_int Tryz.underlying26 g1
  obtain ⟨c, ec, _, wc⟩ := DataW.trod_int Tryz.underlying26 g2
  cases ea; cases eb; cases ec
  exact ⟨a, b, c, rfl, i64_of wa, u64_of wb, u64_of wc⟩

/-- A slice's cell, opened: each element's cells. -/
theorem open_cell {t e : TypeId} {k : Nat} {Q : List Value → Prop} {u : Value} {fuel : Nat} {x : DataW H × List MemPlace} (ht : Tryz.prog.underlying t = some (.slice e)) (hk : Tryz.prog.cellsOf e = k) (hk0 : 0 < k)
    (hQ : ∀ {spare : Nat → Bool} {base : Nat} {held : Bool} {fuel : Nat} {cs : List Value} {x : DataW H × List MemPlace}, DataW.trod enc Tryz.prog W base spare held fuel e cs = some x → Q cs)
    (hf : DataW.trod enc Tryz.prog W 0 (fun _ => true) true fuel t [u] = some x) :
    ∃ (sl : Option Addr) (n c : Nat), u = .slice sl n c ∧ n ≤ c ∧ c ≤ maxLen ∧ ∀ i, i < n → ∃ b o, sl = some ⟨b, o, none⟩ ∧ ∃ cs, Q cs ∧ ∀ j u, cs[j]? = some u → W.cell? ⟨b, o + i * k + j, none⟩ = some u := by
  rcases open_slice ht hf with ⟨hcs, _⟩ | ⟨a', n, c, m, n', D, Pl, hcs, _, hl, hcap, hm, _, hel⟩
  · simp at hcs
    exact ⟨none, 0, 0, hcs, Nat.le_refl _, Nat.zero_le _, fun i hi => by omega⟩
  · simp at hcs
    subst hcs
    simp at hm
    have key : ∀ i, i < n → ∃ cs, Q cs ∧ cs.length = k ∧ ∀ j u, cs[j]? = some u → W.cell? (a'.add (i * k + j)) = some u := by
      intro i hi
      obtain ⟨cs', h1, h2⟩ := hel i (by omega)
      rw [hk] at h1
      obtain ⟨_, hlen, hc⟩ := World.cells?_some h1
      refine ⟨cs', hQ h2, hlen, fun j u hu => ?_⟩
      obtain ⟨hjl, _⟩ := List.getElem?_eq_some_iff.1 hu
      have h3 := hc j (by omega)
      rw [hu] at h3
      rw [show a'.add (i * k + j) = (a'.add (i * k)).add j by
        unfold Addr.add
        by_cases h1 : i * k = 0 <;> by_cases h2 : j = 0 <;> simp [h1, h2, Nat.add_assoc]]
      exact h3
    refine ⟨some a', n, c, rfl, hl, hcap, fun i hi => ?_⟩
    obtain ⟨c0, _, hl0, h0⟩ := key 0 (by omega)
    have ha : a' = ⟨a'.block, a'.off, none⟩ := addr_none ⟨c0[0]'(by omega), by
      have := h0 0 _ (List.getElem?_eq_getElem (by omega))
      simpa [Addr.add] using this⟩
    obtain ⟨cs, hq, _, hc⟩ := key i hi
    refine ⟨a'.block, a'.off, congrArg some ha, cs, hq, fun j u hu => ?_⟩
    have h3 := hc j u hu
    rw [ha, add_is] at h3
    rw [Nat.add_assoc]; exact h3

/-- A state's slices, of whatever length. -/
def WL (w : World) (sl : Option Addr) (n c : Nat) : Prop := n ≤ c ∧ c ≤ 9223372036854775807 ∧ ∀ i, i < n → ∃ x b o, U64 x ∧ sl = some ⟨b, o, none⟩ ∧ w.cell? ⟨b, o + i, none⟩ = some (.int .u64 x)
def NL (w : World) (sl : Option Addr) (n c : Nat) : Prop := n ≤ c ∧ c ≤ 9223372036854775807 ∧ ∀ i, i < n → ∃ x b o, I64 x ∧ sl = some ⟨b, o, none⟩ ∧ w.cell? ⟨b, o + i, none⟩ = some (.int .i64 x)
def RL (w : World) (sl : Option Addr) (n c : Nat) : Prop := n ≤ c ∧ c ≤ 9223372036854775807 ∧ ∀ i, i < n → ∃ (x : Rs) (b o : Nat), Ir x ∧ sl = some ⟨b, o, none⟩ ∧ w.cell? ⟨b, o + i * 2, none⟩ = some (.int .i64 x.1) ∧ w.cell? ⟨b, o + i * 2 + 1, none⟩ = some (.int .u64 x.2)

theorem open_ws {u : Value} {fuel : Nat} {x : DataW H × List MemPlace} (hf : DataW.trod enc Tryz.prog W 0 (fun _ => true) true fuel 27 [u] = some x) : ∃ sl n c, u = .slice sl n c ∧ WL W sl n c := by
  obtain ⟨sl, n, c, rfl, h1, h2, h3⟩ := open_cell (k := 1) (Q := fun cs => ∃ a : Int, cs = [.int .u64 a] ∧ U64 a) Tryz.underlying27 (by kernel_rfl) (by decide) (fun h => by
    obtain ⟨a, ea, _, wa⟩ := DataW.trod_int Tryz.underlying26 h
    exact ⟨a, ea, u64_of wa⟩) hf
  unfold maxLen at h2
  refine ⟨sl, n, c, rfl, h1, by omega, fun i hi => ?_⟩
  obtain ⟨b, o, e, cs, ⟨a, rfl, ha⟩, hc⟩ := h3 i hi
  exact ⟨a, b, o, ha, e, by simpa using hc 0 _ rfl⟩
theorem open_ns {u : Value} {fuel : Nat} {x : DataW H × List MemPlace} (hf : DataW.trod enc Tryz.prog W 0 (fun _ => true) true fuel 28 [u] = some x) : ∃ sl n c, u = .slice sl n c ∧ NL W sl n c := by
  obtain ⟨sl, n, c, rfl, h1, h2, h3⟩ := open_cell (k := 1) (Q := fun cs => ∃ a : Int, cs = [.int .i64 a] ∧ I64 a) Tryz.underlying28 (by kernel_rfl) (by decide) (fun h => by
    obtain ⟨a, ea, _, wa⟩ := DataW.trod_int Tryz.underlying3 h
    exact ⟨a, ea, i64_of wa⟩) hf
  unfold maxLen at h2
  refine ⟨sl, n, c, rfl, h1, by omega, fun i hi => ?_⟩
  obtain ⟨b, o, e, cs, ⟨a, rfl, ha⟩, hc⟩ := h3 i hi
  exact ⟨a, b, o, ha, e, by simpa using hc 0 _ rfl⟩
theorem open_rs (hv : Value.okWide Tryz.prog W .any base 33 v) (h : DataW.Trod enc Tryz.prog W 0 (fun _ => true) true 33 v d p) : ∃ sl n c, v = .slice sl n c ∧ RL W sl n c := by
  obtain ⟨a0, n0, c0, rfl⟩ := okWide_slice Tryz.underlying33 hv
  obtain ⟨fuel, hf⟩ := h
  obtain ⟨sl, n, c, hs, h1, h2, h3⟩ := open_cell (k := 2) (Q := fun cs => ∃ x : Rs, cs = [.int .i64 x.1, .int .u64 x.2] ∧ Ir x) Tryz.underlying33 (by kernel_rfl) (by decide) (fun {spare base held fuel cs x} h => by
    obtain ⟨y0, y1, n, _, hl, g0, g1⟩ := trod_struct2 Tryz.underlying51 h
    rw [show Tryz.prog.cellsOf 51 = 2 by kernel_rfl] at hl
    obtain ⟨c0, c1, rfl⟩ := list2 hl
    rw [show Tryz.prog.cellsOf 37 = 1 by kernel_rfl] at g0
    rw [show Tryz.prog.cellsOf 26 = 1 by kernel_rfl] at g1
    obtain ⟨a, ea, _, wa⟩ := DataW.trod_int Tryz.underlying37 g0
    obtain ⟨b, eb, _, wb⟩ := DataW.trod_int Tryz.underlying26 g1
    simp at ea eb
    subst ea; subst eb
    exact ⟨(a, b), rfl, i64_of wa, u64_of wb⟩) (by simpa [Value.cells] using hf)
  cases hs
  unfold maxLen at h2
  refine ⟨a0, n0, c0, rfl, h1, by omega, fun i hi => ?_⟩
  obtain ⟨b, o, e, cs, ⟨x, rfl, hx⟩, hc⟩ := h3 i hi
  exact ⟨x, b, o, hx, e, by simpa using hc 0 _ rfl, by simpa using hc 1 _ rfl⟩

theorem array5 {α : Type} {cs : Array α} (h : cs.size = 5) : ∃ c0 c1 c2 c3 c4, cs = #[c0, c1, c2, c3, c4] := by
  obtain ⟨l⟩ := cs
  match l, h with
  | [c0, c1, c2, c3, c4], _ => exact ⟨c0, c1, c2, c3, c4, rfl⟩
theorem open_state (hv : Value.okWide Tryz.prog W .any base 30 v) (h : DataW.Trod enc Tryz.prog W 0 (fun _ => true) true 30 v d p) :
    ∃ (r : Int) (a b t : Sl) (cl : Bool), v = sv r a b t cl ∧ U64 r ∧ WL W a.a a.n a.c ∧ WL W b.a b.n b.c ∧ NL W t.a t.n t.c := by
  obtain ⟨cs, rfl, hsz⟩ := okWide_struct Tryz.underlying30 hv
  rw [show Tryz.prog.cellsOf 30 = 5 by kernel_rfl] at hsz
  obtain ⟨c0, c1, c2, c3, c4, rfl⟩ := array5 hsz
  obtain ⟨fuel, hf⟩ := h
  obtain ⟨xs, n, _, hx, hl, hlen, hfs⟩ := DataW.trod_struct Tryz.underlying30 hf
  match xs, hlen with
  | [y0, y1, y2, y3, y4], _ =>
    have g0 := hfs 0 _ rfl
    have g1 := hfs 1 _ rfl
    have g2 := hfs 2 _ rfl
    have g3 := hfs 3 _ rfl
    have g4 := hfs 4 _ rfl
    have k0 : Tryz.prog.cellsOf 26 = 1 := by kernel_rfl
    have k1 : Tryz.prog.cellsOf 27 = 1 := by kernel_rfl
    have k2 : Tryz.prog.cellsOf 28 = 1 := by kernel_rfl
    have k3 : Tryz.prog.cellsOf 4 = 1 := by kernel_rfl
    simp [Value.cells, k0, k1, k2, k3] at g0 g1 g2 g3 g4
    obtain ⟨a, ea, _, wa⟩ := DataW.trod_int Tryz.underlying26 g0
    obtain ⟨s1, n1, c1', e1, h1⟩ := open_ws g1
    obtain ⟨s2, n2, c2', e2, h2⟩ := open_ws g2
    obtain ⟨s3, n3, c3', e3, h3⟩ := open_ns g3
    obtain ⟨b, eb, _⟩ := DataW.trod_bool Tryz.underlying4 g4
    cases ea; cases eb
    subst e1; subst e2; subst e3
    exact ⟨a, ⟨s1, n1, c1'⟩, ⟨s2, n2, c2'⟩, ⟨s3, n3, c3'⟩, b, rfl, u64_of wa, h1, h2, h3⟩
end

end Go.Proofs.YtdipddnnckfnmaaGreat.Law

/- AutProbe:
  The document's probed and Probe. Conditions: what was told are answers, at most so many.
-/
namespace Go.Proofs.YtdipddnnckfnmaaGreat.Lan
open Go.RowKit (Below intOf)
open Go.Proofs.YtdipddnnckfnmaaGreat.Aut
open Go.Proofs.YtdipddnnckfnmaaGreat.Reg (cf bx fits_any rfits_any)

theorem rfits_e (k p m : Int) (W : World) : Calls Tryz.prog 34 #[cf k p m] W fun e w' => e = .returned (.bool (Reg.fits k p m)) ∧ Ext W w' :=
  (rfits_any k p m W).mono fun _ _ h => ⟨h.1, h.2 ▸ Ext.new W _⟩
theorem over_yes {k : Int} {l : List Rs} {i : Nat} {r : Rs} (h : l[i]? = some r) (hi : i % everyK k = 0) (hr : r.1 ≠ 0) : probedS k l = (zeroC, false) := by
  unfold probedS; rw [if_pos ⟨i, r, hi, h, hr⟩]
theorem over_no {k : Int} {l : List Rs} {n : Nat} (hl : l.length = n) (h : ∀ (j : Nat) r, j < n → j % everyK k = 0 → l[j]? = some r → r.1 = 0) : ¬ overK k l := by
  rintro ⟨i, r, h1, h2, h3⟩
  exact h3 (h i r (by rw [← hl]; exact (List.getElem?_eq_some_iff.1 h2).1) h1 h2)
theorem box_c (w : World) (k p m : Int) (o : Obj) : ((w.alloc (bx k p m)).alloc o).cell? ⟨w.heap.size, 0, none⟩ = some (.int .i64 k) ∧ ((w.alloc (bx k p m)).alloc o).cell? ⟨w.heap.size, 1, none⟩ = some (.int .i64 p) ∧ ((w.alloc (bx k p m)).alloc o).cell? ⟨w.heap.size, 2, none⟩ = some (.int .i64 m) := by
  refine ⟨?_, ?_, ?_⟩ <;> exact box_alloc (by unfold World.cell?; rw [World.alloc_heap_new]; rfl)

set_option maxHeartbeats 4000000 in
set_option maxRecDepth 100000 in
theorem probed_any (k p m : Int) (sl : Option Addr) (n c : Nat) (l : List Rs) (w : World) (hl : RS w sl n c l) :
    Calls Tryz.prog 51 #[cf k p m, .slice sl n c] w (AE (probedS k l) w) := by
  obtain ⟨k0, k1, k2⟩ := box_c w k p m (ob 0 0 0)
  have OF : RowKit.Hid (∀ W, _) := Lib.hid fun W => @op_facts w W (bx k p m)
  have X0 := Lib.hid ((Ext.new w (bx k p m)).alloc (ob 0 0 0))
  have hn := hl.le
  have HR := Lib.hid hl
  have HEv := Lib.hid (fun W => every_any k p m W)
  have hE2 : everyK k = 1 ∨ everyK k = 2 := by unfold everyK; split <;> simp
  have HYes : RowKit.Hid (∀ {i : Nat} {r : Rs}, l[i]? = some r → i % everyK k = 0 → r.1 ≠ 0 → probedS k l = (zeroC, false)) := Lib.hid (fun h1 h2 h3 => over_yes h1 h2 h3)
  have HNo : RowKit.Hid ((∀ (j : Nat) r, j < n → j % everyK k = 0 → l[j]? = some r → r.1 = 0) → probedS k l = if l = [] then (⟨8, if k = 4 then 18442240474082181120 else 0, 0⟩, true) else if l.length % everyK k = 1 then (⟨10, (l.getD (l.length - 1) (0, 0)).2, 0⟩, true) else (⟨8, (l.getD (l.length - everyK k) (0, 0)).2, 1⟩, true)) := Lib.hid (fun h => by unfold probedS; rw [if_neg (over_no hl.len h)])
  generalize everyK k = E at *
  clear hl
  dsimp only [cf, bx, ob] at *
  go_enter Tryz.func51, Tryz.ntmps51
  go_wp2_with (fail)
  refine (HEv.out _).mono ?_
  rintro e w1 ⟨rfl, e1⟩
  replace k0 := e1.cell k0
  obtain ⟨⟨g0, g1, g2⟩, z0, z1, z2⟩ := OF.out w1 e1
  have X1 : RowKit.Hid (Ext w w1) := Lib.hid (X0.out.trans e1)
  clear OF X0 e1 HEv k1 k2
  go_wp2_with (fail)
  go_loopg [7] n (fun kx s7 wr => ∃ i : Nat, s7 = .int .i64 i ∧ i ≤ n + 1 ∧ n - i ≤ kx ∧ i % E = 0 ∧ wr = w1 ∧ RowKit.Hid (∀ (j : Nat) r, j < i → j % E = 0 → l[j]? = some r → r.1 = 0))
  case atStart => exact ⟨0, rfl, Nat.zero_le _, by omega, by simp, rfl, Lib.hid fun j y hj => absurd hj (Nat.not_lt_zero _)⟩
  case round =>
    obtain ⟨i, rfl, hi, hg, hiE, rfl, J⟩ := hrel
    have HiE := Lib.hid hiE
    clear hiE
    by_cases hlt : i < n
    · have hlt2 : (i : Int) < n := by omega
      obtain ⟨⟨e, v⟩, hy, hyu, b, o, rfl, hyc, hyd⟩ := HR.out.get hlt
      have cm := X1.out.cell hyc
      have cd := X1.out.cell hyd
      clear hyc hyd hyu
      have HY := Lib.hid hy
      clear hy
      dsimp only at cm cd
      by_cases he : e = 0
      · have he2 : (e != 0) = false := by simp [he]
        have HE := Lib.hid he
        have hw4 : IntKind.i64.wrap ((i : Int) + (E : Int)) = (i : Int) + (E : Int) := by simp only [IntKind.wrap_i64]; omega
        have HE2 := Lib.hid hE2
        clear he hE2
        go_wp2_with (fail)
        go_roundg (n - (i + 1))
        case measure => omega
        case rel =>
          refine ⟨i + E, by first | rfl | (congr 1), by have := HE2.out; omega, by have := HE2.out; omega, by rw [Nat.add_mod_right]; exact HiE.out, rfl, Lib.hid fun j r hj hjE hr => ?_⟩
          by_cases e2 : j < i
          · exact J.out j r e2 hjE hr
          · obtain rfl : j = i := by
              have h1 := HiE.out
              rcases HE2.out with h | h <;> subst h <;> omega
            rw [HY.out] at hr; cases hr; exact HE.out
      · have he2 : (e != 0) = true := by simpa using he
        have hq : RowKit.Hid (probedS k l = (zeroC, false)) := Lib.hid (HYes.out HY.out HiE.out he)
        clear he HYes HNo J HR
        go_wp2_with (fail)
        refine bodyPost_ret (v := .tuple #[ov 0 0 0, .bool false]) (by simp [results, Tryz.results51, go_sem, g0, g1, g2]) rfl ?_
        rw [hq.out]
        exact ⟨rfl, by repeat (first | exact X1.out | refine Ext.alloc ?_ _ | refine Ext.setCell ?_ (by simp) _)⟩
    · have hlt2 : ¬ (i : Int) < n := by omega
      have hq := HNo.out (fun j r hj => J.out j r (by omega))
      have hll := HR.out.len
      clear hi hg HiE J HYes HNo
      by_cases h0 : n = 0
      · subst h0
        rw [if_pos (List.eq_nil_of_length_eq_zero hll)] at hq
        by_cases hk4 : k = 4
        · subst hk4
          rw [if_pos rfl] at hq
          have HQ := Lib.hid hq
          clear hq HR hll hlt
          go_wp2_with (fail)
          refine bodyPost_ret (v := .tuple #[ov 8 18442240474082181120 0, .bool true]) (by simp [results, Tryz.results51, go_sem, g0, g1, g2]) rfl ?_
          rw [HQ.out]
          exact ⟨rfl, by repeat (first | exact X1.out | refine Ext.alloc ?_ _ | refine Ext.setCell ?_ (by simp) _)⟩
        · have hb : (k == 4) = false := by simpa using hk4
          rw [if_neg hk4] at hq
          have HQ := Lib.hid hq
          clear hq HR hk4 hll hlt
          go_wp2_with (fail)
          refine bodyPost_ret (v := .tuple #[ov 8 0 0, .bool true]) (by simp [results, Tryz.results51, go_sem, g0, g1, g2]) rfl ?_
          rw [HQ.out]
          exact ⟨rfl, by repeat (first | exact X1.out | refine Ext.alloc ?_ _ | refine Ext.setCell ?_ (by simp) _)⟩
      · rw [if_neg (fun c => by rw [c] at hll; simp at hll; omega), hll] at hq
        have hn0 : ((n : Int) == 0) = false := by simp; omega
        have ht : Int.tmod (n : Int) (E : Int) = ((n % E : Nat) : Int) := by rw [Int.tmod_eq_emod_of_nonneg (by omega)]; omega
        have hEz : ((E : Int) == 0) = false := by simp; omega
        have hEz2 : (E : Int) ≠ 0 := by omega
        by_cases hm : n % E = 1
        · rw [if_pos hm] at hq
          obtain ⟨d, rfl⟩ : ∃ d, n = d + 1 := ⟨n - 1, by omega⟩
          obtain ⟨⟨e, v⟩, hy, hyu, b, o, rfl, hyc, hyd⟩ := HR.out.get (k := d) (by omega)
          have cd := X1.out.cell hyd
          rw [Nat.add_sub_cancel, List.getD_eq_getElem?_getD, hy] at hq
          have HQ := Lib.hid hq
          rw [hm] at ht
          have hj7 : ((d + 1 : Nat) : Int) = (d : Int) + 1 := by omega
          rw [hj7] at ht hn0 hlt2
          have ht2 : (Int.tmod ((d : Int) + 1) (E : Int) == 1) = true := by rw [ht]; rfl
          have hj2 : ((d + 1 : Nat) : Int) - 1 = d := by omega
          have hj3 : RowKit.wrap64 (d : Int) = d := by simp only [RowKit.wrap64]; omega
          have hj4 : IntKind.i64.wrap (d : Int) = d := by simp only [IntKind.wrap_i64]; omega
          have hj5 : ((d : Int) + 1) - 1 = d := by omega
          have hj8 : IntKind.i64.wrap 1 = 1 := by simp only [IntKind.wrap_i64]; omega
          clear hq hy HR hyc hyd hyu hll hE2 hlt hm h0
          dsimp only at cd
          go_wp2_with (fail)
          refine bodyPost_ret (v := .tuple #[ov 10 v 0, .bool true]) (by simp [results, Tryz.results51, go_sem, g0, g1, g2]) rfl ?_
          rw [HQ.out]
          exact ⟨rfl, by repeat (first | exact X1.out | refine Ext.alloc ?_ _ | refine Ext.setCell ?_ (by simp) _)⟩
        · rw [if_neg hm] at hq
          have hEn : E ≤ n := by rcases hE2 with h | h <;> subst h <;> omega
          obtain ⟨d, rfl⟩ : ∃ d, n = d + E := ⟨n - E, by omega⟩
          obtain ⟨⟨e, v⟩, hy, hyu, b, o, rfl, hyc, hyd⟩ := HR.out.get (k := d) (by omega)
          have cd := X1.out.cell hyd
          rw [Nat.add_sub_cancel, List.getD_eq_getElem?_getD, hy] at hq
          have HQ := Lib.hid hq
          obtain ⟨q, hq2⟩ : ∃ q, (d + E) % E = q := ⟨_, rfl⟩
          rw [hq2] at ht hm
          have hj7 : ((d + E : Nat) : Int) = (d : Int) + (E : Int) := by omega
          have hqw : IntKind.i64.wrap (q : Int) = q := by have := Nat.mod_lt (d + E) (show 0 < E by omega); simp only [IntKind.wrap_i64]; omega
          have hqw2 : RowKit.wrap64 (q : Int) = q := by have := Nat.mod_lt (d + E) (show 0 < E by omega); simp only [RowKit.wrap64]; omega
          rw [hj7] at ht hn0 hlt2
          have ht2 : ((q : Int) == 1) = false := by simp; omega
          have hj2 : ((d + E : Nat) : Int) - (E : Int) = d := by omega
          have hj3 : RowKit.wrap64 (d : Int) = d := by simp only [RowKit.wrap64]; omega
          have hj4 : IntKind.i64.wrap (d : Int) = d := by simp only [IntKind.wrap_i64]; omega
          have hj5 : ((d : Int) + (E : Int)) - (E : Int) = d := by omega
          clear hq hy HR hyc hyd hyu hll hE2 hlt hm h0 hq2
          dsimp only at cd
          go_wp2_with (fail)
          refine bodyPost_ret (v := .tuple #[ov 8 v 1, .bool true]) (by simp [results, Tryz.results51, go_sem, g0, g1, g2]) rfl ?_
          rw [HQ.out]
          exact ⟨rfl, by repeat (first | exact X1.out | refine Ext.alloc ?_ _ | refine Ext.setCell ?_ (by simp) _)⟩

set_option maxHeartbeats 4000000 in
set_option maxRecDepth 100000 in
theorem rprobe_any (k p m : Int) (sl : Option Addr) (n c : Nat) (l : List Rs) (w : World) (hl : RS w sl n c l) :
    Calls Tryz.prog 24 #[cf k p m, .slice sl n c] w (AE (probeS k p m l) w) := by
  obtain ⟨k0, k1, k2⟩ := box_c w k p m (ob 0 0 0)
  have OF : RowKit.Hid (∀ W, _) := Lib.hid fun W => @op_facts w W (bx k p m)
  have X0 := Lib.hid ((Ext.new w (bx k p m)).alloc (ob 0 0 0))
  have hn := hl.le
  have hll := hl.len
  have HF := Lib.hid (fun W => rfits_e k p m W)
  have HKy := Lib.hid (fun W => keyed_any k p m W)
  by_cases hf : fits k p m = true
  · have hff : ¬ fits k p m = false := by rw [hf]; simp
    have hb := fits_of hf
    have hf' : Reg.fits k p m = true := hf
    rw [hf'] at HF
    by_cases hk : keyed k = true
    · have HP := Lib.hid (probed_any k p m sl n c l _ (hl.ext X0.out))
      have hpr : probeS k p m l = probedS k l := by unfold probeS; rw [if_neg hff, if_pos hk]
      rw [hpr]
      rw [hk] at HKy
      have HPs : RowKit.Hid (∀ W, Ext w W → _) := Lib.hid (fun W hE => probed_any k p m sl n c l W (hl.ext hE))
      generalize probedS k l = r at *
      obtain ⟨⟨rc, rk, rv'⟩, rm⟩ := r
      clear hl hf hf' hff hb hk hpr HP hll
      dsimp only [AE, cf, bx, ob, ov, opv] at *
      go_enter Tryz.func24, Tryz.ntmps24
      go_wp2_with (fail)
      refine (HF.out _).mono ?_
      rintro e w1 ⟨rfl, e1⟩
      replace k0 := e1.cell k0
      replace k1 := e1.cell k1
      replace k2 := e1.cell k2
      have Y1 := Lib.hid e1
      clear HF e1
      go_wp2_with (fail)
      refine (HKy.out _).mono ?_
      rintro e w2 ⟨rfl, e2⟩
      replace k0 := e2.cell k0
      replace k1 := e2.cell k1
      replace k2 := e2.cell k2
      have Y2 := Lib.hid (Y1.out.trans e2)
      clear HKy e2 Y1
      have HQ := Lib.hid (HPs.out w2 (X0.out.trans Y2.out))
      clear HPs
      go_wp2_with (fail)
      refine HQ.out.mono ?_
      rintro e w3 ⟨rfl, e3⟩
      have Y3 := Lib.hid (Y2.out.trans e3)
      obtain ⟨⟨g0, g1, g2⟩, z0, z1, z2⟩ := OF.out w3 Y3.out
      have X1 : RowKit.Hid (Ext w w3) := Lib.hid (X0.out.trans Y3.out)
      clear HQ e3 Y2 Y3 OF X0 k0 k1 k2
      go_wp2_with (fail)
      refine bodyPost_ret (v := .tuple #[ov rc rk rv', .bool rm]) (by simp [results, Tryz.results24, go_sem, g0, g1, g2]) rfl ?_
      exact ⟨rfl, by repeat (first | exact X1.out | refine Ext.alloc ?_ _ | refine Ext.setCell ?_ (by simp) _)⟩
    · have hk' : keyed k = false := Bool.eq_false_iff.2 hk
      have hpr : probeS k p m l = if k = 1 then (if 0 < n then (zeroC, false) else (⟨1, 0, 0⟩, true)) else if n = 0 then (⟨16, 0, 0⟩, true) else if n ≤ 8 then (⟨14, (n : Int), 0⟩, true) else if (n : Int) ≤ 8 + m then (⟨15, (n : Int) - 9, 0⟩, true) else (zeroC, false) := by unfold probeS; rw [if_neg hff, if_neg hk, hll]
      have HPr := Lib.hid hpr
      rw [hk'] at HKy
      obtain ⟨_, _, _, _, hm1, hm2⟩ := hb
      have hu := len_u64 hn
      have hw8 : IntKind.i64.wrap (8 + m) = 8 + m := by simp only [IntKind.wrap_i64]; omega
      have hw8' : RowKit.wrap64 (8 + m) = 8 + m := by simp only [RowKit.wrap64]; omega
      clear hl hf hf' hff hk hk' hpr hll
      dsimp only [cf, bx, ob] at *
      go_enter Tryz.func24, Tryz.ntmps24
      go_wp2_with (fail)
      refine (HF.out _).mono ?_
      rintro e w1 ⟨rfl, e1⟩
      replace k0 := e1.cell k0
      replace k1 := e1.cell k1
      replace k2 := e1.cell k2
      have Y1 := Lib.hid e1
      clear HF e1
      go_wp2_with (fail)
      refine (HKy.out _).mono ?_
      rintro e w2 ⟨rfl, e2⟩
      replace k0 := e2.cell k0
      replace k2 := e2.cell k2
      have Y2 := Lib.hid (Y1.out.trans e2)
      obtain ⟨⟨g0, g1, g2⟩, z0, z1, z2⟩ := OF.out w2 Y2.out
      have X1 : RowKit.Hid (Ext w w2) := Lib.hid (X0.out.trans Y2.out)
      clear HKy e2 Y1 Y2 OF X0 k1
      by_cases h1 : k = 1
      · subst h1
        by_cases h0 : 0 < n
        · have h2 : (0 : Int) < n := by omega
          have hq : RowKit.Hid (probeS 1 p m l = (zeroC, false)) := Lib.hid (by rw [HPr.out, if_pos rfl, if_pos h0])
          clear h0 HPr
          go_wp2_with (fail)
          refine bodyPost_ret (v := .tuple #[ov 0 0 0, .bool false]) (by simp [results, Tryz.results24, go_sem, g0, g1, g2]) rfl ?_
          rw [hq.out]
          exact ⟨rfl, by repeat (first | exact X1.out | refine Ext.alloc ?_ _ | refine Ext.setCell ?_ (by simp) _)⟩
        · have h2 : ¬ (0 : Int) < n := by omega
          have hq : RowKit.Hid (probeS 1 p m l = (⟨1, 0, 0⟩, true)) := Lib.hid (by rw [HPr.out, if_pos rfl, if_neg h0])
          clear h0 HPr
          go_wp2_with (fail)
          refine bodyPost_ret (v := .tuple #[ov 1 0 0, .bool true]) (by simp [results, Tryz.results24, go_sem, g0, g1, g2]) rfl ?_
          rw [hq.out]
          exact ⟨rfl, by repeat (first | exact X1.out | refine Ext.alloc ?_ _ | refine Ext.setCell ?_ (by simp) _)⟩
      · replace HPr := Lib.hid (HPr.out.trans (if_neg h1))
        have b1 : (k == 1) = false := by simpa using h1
        clear h1
        by_cases h0 : n = 0
        · subst h0
          have hq : RowKit.Hid (probeS k p m l = (⟨16, 0, 0⟩, true)) := Lib.hid (by rw [HPr.out, if_pos rfl])
          clear HPr
          go_wp2_with (fail)
          refine bodyPost_ret (v := .tuple #[ov 16 0 0, .bool true]) (by simp [results, Tryz.results24, go_sem, g0, g1, g2]) rfl ?_
          rw [hq.out]
          exact ⟨rfl, by repeat (first | exact X1.out | refine Ext.alloc ?_ _ | refine Ext.setCell ?_ (by simp) _)⟩
        · replace HPr := Lib.hid (HPr.out.trans (if_neg h0))
          have b0 : ((n : Int) == 0) = false := by simp; omega
          by_cases h8 : n ≤ 8
          · have hq : RowKit.Hid (probeS k p m l = (⟨14, (n : Int), 0⟩, true)) := Lib.hid (by rw [HPr.out, if_pos h8])
            have b8 : (n : Int) ≤ 8 := by omega
            clear h0 h8 HPr
            go_wp2_with (fail)
            refine bodyPost_ret (v := .tuple #[ov 14 n 0, .bool true]) (by simp [results, Tryz.results24, go_sem, g0, g1, g2]) rfl ?_
            rw [hq.out]
            exact ⟨rfl, by repeat (first | exact X1.out | refine Ext.alloc ?_ _ | refine Ext.setCell ?_ (by simp) _)⟩
          · replace HPr := Lib.hid (HPr.out.trans (if_neg h8))
            have b8 : ¬ (n : Int) ≤ 8 := by omega
            have v1 : IntKind.i64.wrap ((n : Int) - 8) = (n : Int) - 8 := by simp only [IntKind.wrap_i64]; omega
            have v2 : RowKit.wrap64 ((n : Int) - 8) = (n : Int) - 8 := by simp only [RowKit.wrap64]; omega
            have v3 : (n : Int) - 8 - 1 = (n : Int) - 9 := by omega
            have v4 : IntKind.i64.wrap ((n : Int) - 9) = (n : Int) - 9 := by simp only [IntKind.wrap_i64]; omega
            have v5 : RowKit.wrap64 ((n : Int) - 9) = (n : Int) - 9 := by simp only [RowKit.wrap64]; omega
            have v6 : IntKind.u64.wrap ((n : Int) - 9) = (n : Int) - 9 := by simp only [IntKind.wrap_u64]; omega
            by_cases hM : (n : Int) ≤ 8 + m
            · have hq : RowKit.Hid (probeS k p m l = (⟨15, (n : Int) - 9, 0⟩, true)) := Lib.hid (by rw [HPr.out, if_pos hM])
              clear h0 h8 HPr
              go_wp2_with (fail)
              refine bodyPost_ret (v := .tuple #[ov 15 ((n : Int) - 9) 0, .bool true]) (by simp [results, Tryz.results24, go_sem, g0, g1, g2]) rfl ?_
              rw [hq.out]
              exact ⟨rfl, by repeat (first | exact X1.out | refine Ext.alloc ?_ _ | refine Ext.setCell ?_ (by simp) _)⟩
            · have hq : RowKit.Hid (probeS k p m l = (zeroC, false)) := Lib.hid (by rw [HPr.out, if_neg hM])
              clear h0 h8 HPr
              go_wp2_with (fail)
              refine bodyPost_ret (v := .tuple #[ov 0 0 0, .bool false]) (by simp [results, Tryz.results24, go_sem, g0, g1, g2]) rfl ?_
              rw [hq.out]
              exact ⟨rfl, by repeat (first | exact X1.out | refine Ext.alloc ?_ _ | refine Ext.setCell ?_ (by simp) _)⟩
  · have hf' : Reg.fits k p m = false := Bool.eq_false_iff.2 hf
    rw [hf'] at HF
    have hN : RowKit.Hid (probeS k p m l = (zeroC, false)) := Lib.hid (by unfold probeS; rw [if_pos (Bool.eq_false_iff.2 hf)])
    clear hf hf' hl HKy hll
    dsimp only [cf, bx, ob] at *
    go_enter Tryz.func24, Tryz.ntmps24
    go_wp2_with (fail)
    refine (HF.out _).mono ?_
    rintro e w1 ⟨rfl, e1⟩
    obtain ⟨⟨g0, g1, g2⟩, z0, z1, z2⟩ := OF.out w1 e1
    have X1 : RowKit.Hid (Ext w w1) := Lib.hid (X0.out.trans e1)
    clear e1 OF X0 HF
    go_wp2_with (fail)
    refine bodyPost_ret (v := .tuple #[ov 0 0 0, .bool false]) (by simp [results, Tryz.results24, go_sem, g0, g1, g2]) rfl ?_
    rw [hN.out]
    exact ⟨rfl, by repeat (first | exact X1.out | refine Ext.alloc ?_ _ | refine Ext.setCell ?_ (by simp) _)⟩

end Go.Proofs.YtdipddnnckfnmaaGreat.Lan

/- AutOut:
  The document's Out. Conditions: the state's words are words.
-/
namespace Go.Proofs.YtdipddnnckfnmaaGreat.Lan
open Go.RowKit (Below intOf)
open Go.Proofs.YtdipddnnckfnmaaGreat.Aut
open Go.Proofs.YtdipddnnckfnmaaGreat.Reg (cf bx fits_any rfits_any)

/-- What lies there when the read-out's call i is asked for. -/
structure OuL (k p m r : Int) (a v t : Sl) (cl : Bool) (w wr : World) (B : Nat) (la : Option Addr) (i lc : Nat) (L : List Rs) (oc ok ov' : Int) : Prop where
  e : Ext w wr
  c : Cb wr w.heap.size [.int .i64 k, .int .i64 p, .int .i64 m]
  s : Cb wr (w.heap.size + 1) (sc r a v t cl)
  b : Cb wr B [.int .i64 oc, .int .u64 ok, .int .u64 ov']
  row : wr.ownsRow (B + 1) 51 2 (.slice la i lc) i (flatRS (L.take i))
  hB : w.heap.size + 2 ≤ B
  z : B + 1 ≤ wr.heap.size
/-- What lies there behind the call. -/
structure OuM (k p m r : Int) (a v t : Sl) (cl : Bool) (w wx : World) (B : Nat) (sx : Option Addr) (i cx : Nat) (L : List Rs) (oc ok ov' : Int) : Prop where
  e : Ext w wx
  c : Cb wx w.heap.size [.int .i64 k, .int .i64 p, .int .i64 m]
  s : Cb wx (w.heap.size + 1) (sc r a v t cl)
  b : Cb wx B [.int .i64 oc, .int .u64 ok, .int .u64 ov']
  row : wx.ownsRow (B + 1) 51 2 (.slice sx (i + 1) cx) (i + 1) (flatRS (L.take (i + 1)))
theorem OuL.put {k p m r : Int} {a v t : Sl} {cl : Bool} {w wr : World} {B : Nat} {la : Option Addr} {i lc : Nat} {L : List Rs} {oc ok ov' : Int} (h : OuL k p m r a v t cl w wr B la i lc L oc ok ov') {w5 : World} (e : Ext wr w5) (d : Rs) (hd : Ir d) (hi : L[i]? = some d) (hn : i < 600) (o : Obj) :
    ∃ sx cx wx, RowKit.Hid ((Builtin.append_ #[33, 33] 33 #[.slice la i lc, .slice (some ⟨((w5.alloc o).alloc (.cells #[.int .i64 d.1, .int .u64 d.2] 51)).heap.size, 0, none⟩) 1 1]).run Tryz.prog (((w5.alloc o).alloc (.cells #[.int .i64 d.1, .int .u64 d.2] 51)).alloc (.cells #[.int .i64 d.1, .int .u64 d.2] 51)) = .ok (.slice sx (i + 1) cx) wx) ∧ OuM k p m r a v t cl w wx B sx i cx L oc ok ov' := by
  have e2 : Ext wr ((w5.alloc o).alloc (.cells #[.int .i64 d.1, .int .u64 d.2] 51)) := (e.alloc _).alloc _
  have e3 := e2.alloc (.cells #[.int .i64 d.1, .int .u64 d.2] 51)
  have hz := h.z
  have hB := h.hB
  have hs := e3.size
  obtain ⟨sx, cx, wx, RX, OX, GX, AX⟩ := addRS (ys := L.take i) (own_ext2 h.row e3) (RS.lit ((w5.alloc o).alloc (.cells #[.int .i64 d.1, .int .u64 d.2] 51)) d hd) (by omega) (by omega)
  have hge := own_ge h.row
  have hx : ∀ X, X.heap.size ≤ B + 1 → Ext X (((w5.alloc o).alloc (.cells #[.int .i64 d.1, .int .u64 d.2] 51)).alloc (.cells #[.int .i64 d.1, .int .u64 d.2] 51)) → Ext X wx := fun X hX hE => hE.grown GX fun k hk => Nat.le_trans hX (hge k hk)
  have cb : ∀ b cs, b < B + 1 → Cb wr b cs → Cb wx b cs := fun b cs hb hc => by
    have hc3 := hc.ext e3
    refine ⟨?_, fun j u hu => ?_, fun j => ?_⟩
    · exact Nat.lt_of_lt_of_le hc3.lt GX.size
    · exact GX.cell (a := ⟨b, j, none⟩) (hc3.c j u hu) (fun hk => by have := hge b hk.symm; omega)
    · exact (GX.frozen_far ⟨b, j, none⟩ hc3.lt (fun hk => by have := hge b hk.symm; omega)).trans (hc3.f j)
  exact ⟨sx, cx, wx, RX, hx w (by omega) (h.e.trans e3), cb _ _ (by omega) h.c, cb _ _ (by omega) h.s, cb _ _ (by omega) h.b, by rw [take_snoc hi]; exact OX⟩
theorem OuM.next {k p m r : Int} {a v t : Sl} {cl : Bool} {w wx : World} {B : Nat} {sx : Option Addr} {i cx : Nat} {L : List Rs} {oc ok ov' : Int} (h : OuM k p m r a v t cl w wx B sx i cx L oc ok ov') (hB : w.heap.size + 2 ≤ B) {w7 : World} (e : Ext wx w7) (xc xk xv : Int) :
    OuL k p m r a v t cl w (((w7.setCell ⟨B, 0, none⟩ (.int .i64 xc)).setCell ⟨B, 1, none⟩ (.int .u64 xk)).setCell ⟨B, 2, none⟩ (.int .u64 xv)) B sx (i + 1) cx L xc xk xv := by
  have hb := h.b.ext e
  have hl := hb.lt
  refine ⟨(((h.e.trans e).setCell (by omega) _).setCell (by omega) _).setCell (by omega) _, (((h.c.ext e).far (by omega) _ _).far (by omega) _ _).far (by omega) _ _, (((h.s.ext e).far (by omega) _ _).far (by omega) _ _).far (by omega) _ _, ((hb.upd (i := 0) (by simp) _).upd (i := 1) (by simp) _).upd (i := 2) (by simp) _, ?_, hB, ?_⟩
  · exact RowKit.ownsRow_setCell_below (RowKit.ownsRow_setCell_below (RowKit.ownsRow_setCell_below (own_ext2 h.row e) (a := ⟨B, 0, none⟩) (Nat.lt_succ_self B) _) (a := ⟨B, 1, none⟩) (Nat.lt_succ_self B) _) (a := ⟨B, 2, none⟩) (Nat.lt_succ_self B) _
  · simp only [World.size_setCell]; omega

set_option maxHeartbeats 8000000 in
set_option maxRecDepth 100000 in
theorem rout_any (k p m : Int) (a v t : Sl) (s : St) (w : World) (hm : I64 m) (hS : SS w a v t s) : Calls Tryz.prog 11 #[cf k p m, sv s.reg a v t s.closed] w (OuE (outF k p m s) w) := by
  have X0' := (Ext.new w (bx k p m)).alloc (sb s.reg a v t s.closed)
  have HCb0 : Cb ((w.alloc (bx k p m)).alloc (sb s.reg a v t s.closed)) w.heap.size [.int .i64 k, .int .i64 p, .int .i64 m] := (Cb.new w _ _).alloc _
  have HSb0 : Cb ((w.alloc (bx k p m)).alloc (sb s.reg a v t s.closed)) (w.heap.size + 1) (sc s.reg a v t s.closed) := by
    have := Cb.new (w.alloc (bx k p m)) (sc s.reg a v t s.closed) 30
    rwa [World.size_alloc] at this
  have X0 := Lib.hid X0'
  have HC := Lib.hid HCb0
  have HSb := Lib.hid HSb0
  have HF := Lib.hid (fun W => rfits_e k p m W)
  have HRg : RowKit.Hid (∀ W, Ext w W → _) := Lib.hid (fun W hE => rright_any k p m a v t s W hm (hS.ext hE))
  obtain ⟨c0, c1, c2⟩ := HCb0.three
  by_cases hf : fits k p m = true
  · have hf' : Reg.fits k p m = true := hf
    rw [hf'] at HF
    by_cases hR : rightS k p m s = true
    · rw [hR] at HRg
      have hO : outF k p m s = (outS k s, 0) := by unfold outF; rw [if_pos hf, if_pos hR]
      rw [hO]
      have hW := hS.wd
      have hlen := out_len hR
      have HS2 : RowKit.Hid (∀ i, i ≤ (outS k s).length → ∃ oc ok ov', probeS k p m ((outS k s).take i) = (⟨oc, ok, ov'⟩, decide (i < (outS k s).length)) ∧ (i < (outS k s).length → Wc ⟨oc, ok, ov'⟩ ∧ (outS k s)[i]? = some (doS k m s ⟨oc, ok, ov'⟩).2)) := Lib.hid (fun i hi => by
        by_cases hlt : i < (outS k s).length
        · obtain ⟨⟨oc, ok, ov'⟩, ho, hp, hj⟩ := out_step hR hW i hlt
          exact ⟨oc, ok, ov', by rw [hp, decide_eq_true hlt], fun _ => ⟨ho, hj⟩⟩
        · refine ⟨0, 0, 0, ?_, fun h => absurd h hlt⟩
          rw [List.take_of_length_le (by omega), out_over hR, decide_eq_false hlt]; rfl)
      have HIr := Lib.hid (out_ir hR hW)
      have HPr := Lib.hid (fun sl n c l W h => rprobe_any k p m sl n c l W h)
      have HDo : RowKit.Hid (∀ W o, Ext w W → Wc o → Calls Tryz.prog 22 #[cf k p m, sv s.reg a v t s.closed, ov o.code o.key o.val] W (DoR ((doS k m s o).1, (doS k m s o).2, 0) W)) := Lib.hid (fun W o hE ho => by
        have := rdo_any k p m a v t s o W hm (hS.ext hE) ho
        rwa [show doF k p m s o = ((doS k m s o).1, (doS k m s o).2, 0) by unfold doF; rw [if_pos hf, if_pos hR]] at this)
      clear hf hf' hR hO hW hS X0' HCb0 HSb0
      generalize outS k s = L at *
      generalize hDS : doS k m s = DS at *
      clear hDS
      obtain ⟨sr, sk, sv', sw, scl⟩ := s
      dsimp only [cf, bx, sv, sb, sc, ov] at *
      go_enter Tryz.func11, Tryz.ntmps11
      go_wp2_with (fail)
      refine (HF.out _).mono ?_
      rintro e w1 ⟨rfl, e1⟩
      replace X0 := Lib.hid (X0.out.trans e1)
      replace HC := Lib.hid (HC.out.ext e1)
      replace HSb := Lib.hid (HSb.out.ext e1)
      clear HF e1 c0 c1 c2
      obtain ⟨c0, c1, c2⟩ := HC.out.three
      obtain ⟨s0, s1, s2, s3, s4⟩ := HSb.out.five
      have HRt := Lib.hid (HRg.out w1 X0.out)
      clear HRg
      go_wp2_with (fail)
      refine HRt.out.mono ?_
      rintro e w2 ⟨rfl, e2⟩
      replace X0 := Lib.hid (X0.out.trans e2)
      replace HC := Lib.hid (HC.out.ext e2)
      replace HSb := Lib.hid (HSb.out.ext e2)
      clear HRt e2 c0 c1 c2 s0 s1 s2 s3 s4
      obtain ⟨c0, c1, c2⟩ := HC.out.three
      obtain ⟨oc, ok, ov', hp, ho⟩ := HS2.out 0 (Nat.zero_le _)
      have HP := Lib.hid (HPr.out none 0 0 [] w2 (RS.empty _ _ _ (by decide)))
      rw [show L.take 0 = [] from rfl] at hp
      rw [hp] at HP
      obtain ⟨b, hb⟩ : ∃ b, b = decide (0 < L.length) := ⟨_, rfl⟩
      rw [← hb] at HP
      have HB := Lib.hid hb
      have HO := Lib.hid ho
      clear hp hb ho
      go_wp2_with (fail)
      refine HP.out.mono ?_
      rintro e w3 ⟨he, e3⟩
      dsimp only [opv, ov] at he
      subst he
      have HL : RowKit.Hid (OuL k p m sr a v t scl w (w3.alloc (.cells #[.int .i64 oc, .int .u64 ok, .int .u64 ov'] 32)) w3.heap.size none 0 0 L oc ok ov') := Lib.hid
        ⟨(X0.out.trans e3).alloc _, (HC.out.ext e3).alloc _, (HSb.out.ext e3).alloc _, Cb.new w3 _ _, World.ownsRow_nil _ _ _ _, by have := (HSb.out.ext e3).lt; omega, by simp⟩
      clear HP e3 X0 HC HSb c0 c1 c2
      go_wp2_with (fail)
      go_loopg [6, 8] L.length (fun kx s6 s8 wr => ∃ (i : Nat) (la : Option Addr) (lc : Nat) (oc ok ov' : Int) (b : Bool), s6 = .slice la i lc ∧ s8 = .bool b ∧ i ≤ L.length ∧ L.length - i ≤ kx ∧ RowKit.Hid (b = decide (i < L.length)) ∧ RowKit.Hid (i < L.length → Wc ⟨oc, ok, ov'⟩ ∧ L[i]? = some (DS ⟨oc, ok, ov'⟩).2) ∧ RowKit.Hid (OuL k p m sr a v t scl w wr w3.heap.size la i lc L oc ok ov'))
      case atStart => exact ⟨0, none, 0, oc, ok, ov', b, rfl, rfl, Nat.zero_le _, by omega, HB, HO, HL⟩
      case round =>
        clear HL HO HB
        obtain ⟨i, la, lc, xc, xk, xv, bb, rfl, rfl, hi, hg, HB, HO, HL⟩ := hrel
        by_cases hlt : i < L.length
        · have hb : bb = true := by rw [HB.out]; exact decide_eq_true hlt
          subst hb
          obtain ⟨ho, hj⟩ := HO.out hlt
          have HDc := Lib.hid (HDo.out wr ⟨xc, xk, xv⟩ HL.out.e ho)
          generalize DS ⟨xc, xk, xv⟩ = d at *
          obtain ⟨⟨dr, dk, dv, dw, dcl⟩, d2, d3⟩ := d
          have HJ := Lib.hid hj
          obtain ⟨c0, c1, c2⟩ := HL.out.c.three
          obtain ⟨s0, s1, s2, s3, s4⟩ := HL.out.s.five
          obtain ⟨o0, o1, o2⟩ := HL.out.b.three
          obtain ⟨yc, yk, yv, hp, hn⟩ := HS2.out (i + 1) (by omega)
          have HN := Lib.hid hn
          have HPn := Lib.hid hp
          have hdi := HIr.out _ (List.mem_of_getElem? hj)
          have Hdi := Lib.hid hdi
          clear ho hj hp hn hdi HB HO
          go_wp2_with (fail)
          refine HDc.out.mono ?_
          rintro e w5 ⟨e5, ⟨ka5, kn5, kc5⟩, ⟨va5, vn5, vc5⟩, ⟨ta5, tn5, tc5⟩, he, S5, O5⟩
          dsimp only [sv, rv] at he
          subst he
          obtain ⟨sx, cx, wx, RX, MX⟩ := HL.out.put e5 (d2, d3) Hdi.out HJ.out (by omega) (.cells #[.int .u64 dr, .slice ka5 kn5 kc5, .slice va5 vn5 vc5, .slice ta5 tn5 tc5, .bool dcl] 30)
          simp only [World.size_alloc] at RX
          have HM := Lib.hid MX
          have HhB := Lib.hid HL.out.hB
          obtain ⟨m0, m1, m2⟩ := MX.c.three
          have hlen2 : (L.take (i + 1)).length = i + 1 := by rw [List.length_take]; omega
          have HPx := Lib.hid (HPr.out sx (i + 1) cx (L.take (i + 1)) wx (RS.of_own MX.row hlen2 (by omega) (fun y hy => HIr.out y (List.mem_of_mem_take hy))))
          rw [HPn.out] at HPx
          obtain ⟨b2, hb2⟩ : ∃ b, b = decide (i + 1 < L.length) := ⟨_, rfl⟩
          rw [← hb2] at HPx
          have HB2 := Lib.hid hb2
          have r0 := e5.cell c0
          clear S5 O5 e5 HL MX hb2 hlen2 HPn HDc c0 c1 c2 s0 s1 s2 s3 s4 o0 o1 o2 r0
          go_wp2_with (first | (at_builtin; refine Lib.wpList_append_run _ rfl (.tmp 33) (.tmp 35) _ _ rfl _ _ rfl rfl _ _ RX.out ?_))
          refine HPx.out.mono ?_
          rintro e w7 ⟨he, e7⟩
          dsimp only [opv, ov] at he
          subst he
          have hB7 := HM.out.b.ext e7
          obtain ⟨u0, u1, u2⟩ := hB7.three
          have f0 := hB7.f 0
          have f1 := hB7.f 1
          have f2 := hB7.f 2
          have HL2 := Lib.hid (HM.out.next HhB.out e7 yc yk yv)
          clear hB7 HM HPx e7 m0 m1 m2 RX
          go_wp2_with (fail)
          go_roundg (L.length - (i + 1))
          case measure => omega
          case rel => exact ⟨i + 1, sx, cx, yc, yk, yv, b2, rfl, rfl, by omega, by omega, HB2, HN, HL2⟩
        · have hb : bb = false := by rw [HB.out]; exact decide_eq_false hlt
          subst hb
          obtain rfl : i = L.length := by omega
          have HF2 : RowKit.Hid (RS wr la L.length lc L ∧ Ext w wr) := Lib.hid ⟨RS.of_own (by have := HL.out.row; rwa [List.take_length] at this) rfl (by omega) HIr.out, HL.out.e⟩
          clear HS2 HIr HPr HDo HB HO HL
          go_wp2_with (fail)
          go_ret2
          exact ⟨⟨la, L.length, lc⟩, rfl, HF2.out.1, HF2.out.2⟩
    · have hO : outF k p m s = ([], 1) := by unfold outF; rw [if_pos hf, if_neg hR]
      rw [hO]
      have hR' : rightS k p m s = false := Bool.eq_false_iff.2 hR
      rw [hR'] at HRg
      clear hf hf' hR hR' hO hS X0' HCb0 HSb0
      obtain ⟨sr, sk, sv', sw, scl⟩ := s
      dsimp only [cf, bx, sv, sb, sc, ov] at *
      go_enter Tryz.func11, Tryz.ntmps11
      go_wp2_with (fail)
      refine (HF.out _).mono ?_
      rintro e w1 ⟨rfl, e1⟩
      replace X0 := Lib.hid (X0.out.trans e1)
      replace HC := Lib.hid (HC.out.ext e1)
      replace HSb := Lib.hid (HSb.out.ext e1)
      clear HF e1 c0 c1 c2
      obtain ⟨c0, c1, c2⟩ := HC.out.three
      obtain ⟨s0, s1, s2, s3, s4⟩ := HSb.out.five
      have HRt := Lib.hid (HRg.out w1 X0.out)
      clear HRg
      go_wp2_with (fail)
      refine HRt.out.mono ?_
      rintro e w2 ⟨rfl, e2⟩
      replace X0 := Lib.hid (X0.out.trans e2)
      clear HRt e2 HC HSb c0 c1 c2 s0 s1 s2 s3 s4
      go_wp2_with (fail)
      go_ret2
      exact ⟨nilSl, rfl, RS.empty _ _ _ (by decide), X0.out⟩
  · have hO : outF k p m s = ([], 5) := by unfold outF; rw [if_neg hf]
    rw [hO]
    have hf' : Reg.fits k p m = false := Bool.eq_false_iff.2 hf
    rw [hf'] at HF
    clear hf hf' hO hS X0' HCb0 HSb0 HRg
    obtain ⟨sr, sk, sv', sw, scl⟩ := s
    dsimp only [cf, bx, sv, sb, sc, ov] at *
    go_enter Tryz.func11, Tryz.ntmps11
    go_wp2_with (fail)
    refine (HF.out _).mono ?_
    rintro e w1 ⟨rfl, e1⟩
    replace X0 := Lib.hid (X0.out.trans e1)
    clear HF e1 HC HSb c0 c1 c2
    go_wp2_with (fail)
    go_ret2
    exact ⟨nilSl, rfl, RS.empty _ _ _ (by decide), X0.out⟩

end Go.Proofs.YtdipddnnckfnmaaGreat.Lan

/- AutRdA:
  The document's read: the lists that it makes, and what lies there meanwhile. No condition: definitions, and facts on them.
-/
namespace Go.Proofs.YtdipddnnckfnmaaGreat.Lan
open Go.RowKit (Below intOf)
open Go.Proofs.YtdipddnnckfnmaaGreat.Aut
open Go.Proofs.YtdipddnnckfnmaaGreat.Reg (cf bx fits_any rfits_any)

/-! The lists. -/
theorem evens_get : ∀ (l : List Rs) (j : Nat), (evens l)[j]? = if 2 * j + 2 < l.length then l[2 * j]?.map (·.2) else none
  | [], j => by simp [evens]
  | [_], j => by simp [evens]
  | [_, _], j => by simp [evens]; intro h; omega
  | a :: b :: c :: r, 0 => by simp [evens]
  | a :: b :: c :: r, j + 1 => by
    rw [evens, List.getElem?_cons_succ, evens_get (c :: r) j]
    simp only [List.length_cons, show 2 * (j + 1) = 2 * j + 1 + 1 by omega, List.getElem?_cons_succ]
    by_cases h : 2 * j + 2 < r.length + 1
    · rw [if_pos h, if_pos (by omega)]
    · rw [if_neg h, if_neg (by omega)]
theorem odds_get : ∀ (l : List Rs) (j : Nat), (odds l)[j]? = if 2 * j + 2 < l.length then l[2 * j + 1]?.map (·.2) else none
  | [], j => by simp [odds]
  | [_], j => by simp [odds]
  | [_, _], j => by simp [odds]; intro h; omega
  | a :: b :: c :: r, 0 => by simp [odds]
  | a :: b :: c :: r, j + 1 => by
    rw [odds, List.getElem?_cons_succ, odds_get (c :: r) j]
    simp only [List.length_cons, show 2 * (j + 1) + 1 = 2 * j + 1 + 1 + 1 by omega, List.getElem?_cons_succ]
    by_cases h : 2 * j + 2 < r.length + 1
    · rw [if_pos h, if_pos (by omega)]
    · rw [if_neg h, if_neg (by omega)]
theorem drop_get (l : List Rs) (j : Nat) : (l.dropLast.map (·.2))[j]? = if j + 1 < l.length then l[j]?.map (·.2) else none := by
  rw [List.getElem?_map, List.dropLast_eq_take, List.getElem?_take]
  by_cases h : j + 1 < l.length
  · rw [if_pos h, if_pos (by omega)]
  · rw [if_neg h, if_neg (by omega)]; rfl
theorem all_of {α : Type} {xs : List α} {j : Nat} (h : xs[j]? = none) : xs.take j = xs := List.take_of_length_le (List.getElem?_eq_none_iff.1 h)

/-! What lies there. -/
structure RdL (k p m : Int) (w wr : World) (ka : Option Addr) (kn kc : Nat) (va : Option Addr) (vn vc : Nat) (xs ys : List Int) : Prop where
  e : Ext w wr
  c : Cb wr w.heap.size [.int .i64 k, .int .i64 p, .int .i64 m]
  r : Cb wr (w.heap.size + 1) (sc 0 nilSl nilSl nilSl false)
  b : Cb wr (w.heap.size + 1 + 1) (sc 0 ⟨ka, kn, kc⟩ ⟨va, vn, vc⟩ nilSl false)
  k : wr.ownsRow (w.heap.size + 3) 26 1 (.slice ka kn kc) kn (flatWS xs)
  v : wr.ownsRow (w.heap.size + 3) 26 1 (.slice va vn vc) vn (flatWS ys)
  a : (Value.slice ka kn kc).ownBlock = none ∨ (Value.slice ka kn kc).ownBlock ≠ (Value.slice va vn vc).ownBlock
  lk : xs.length = kn
  lv : ys.length = vn
  uk : ∀ x ∈ xs, U64 x
  uv : ∀ x ∈ ys, U64 x
  z : w.heap.size + 3 ≤ wr.heap.size
theorem cb_grown {w w' : World} {row : Option Nat} {b base : Nat} {cs : List Value} (h : Cb w b cs) (g : w.grownBy w' row) (hr : ∀ k, row = some k → base ≤ k) (hb : b < base) : Cb w' b cs :=
  ⟨Nat.lt_of_lt_of_le h.lt g.size, fun j u hu => g.cell (a := ⟨b, j, none⟩) (h.c j u hu) (fun hk => by have := hr b hk.symm; omega), fun j => (g.frozen_far ⟨b, j, none⟩ h.lt (fun hk => by have := hr b hk.symm; omega)).trans (h.f j)⟩
theorem RdL.addK {k p m : Int} {w wr : World} {ka : Option Addr} {kn kc : Nat} {va : Option Addr} {vn vc : Nat} {xs ys : List Int} (h : RdL k p m w wr ka kn kc va vn vc xs ys) {z : Int} (hz : U64 z) (hn : kn ≤ 1048576) :
    ∃ sx cx wx, RowKit.Hid ((Builtin.append_ #[27, 27] 27 #[.slice ka kn kc, .slice (some ⟨wr.heap.size, 0, none⟩) 1 1]).run Tryz.prog (wr.alloc (.cells #[.int .u64 z] 26)) = .ok (.slice sx (kn + 1) cx) wx) ∧ Cb wx (w.heap.size + 1 + 1) (sc 0 ⟨ka, kn, kc⟩ ⟨va, vn, vc⟩ nilSl false) ∧
      RdL k p m w (wx.setCell ⟨w.heap.size + 1 + 1, 1, none⟩ (.slice sx (kn + 1) cx)) sx (kn + 1) cx va vn vc (xs ++ [z]) ys := by
  have e3 : Ext wr (wr.alloc (.cells #[.int .u64 z] 26)) := Ext.new wr _
  have hzz := h.z
  have hs := e3.size
  have hk3 := own_ext2 h.k e3
  have hv3 := own_ext2 h.v e3
  obtain ⟨sx, cx, wx, RX, OX, GX, AX⟩ := addWS (ys := xs) hk3 (WS.lit wr z hz) (by omega) (by omega)
  have hge := own_ge h.k
  have cb : ∀ b cs, b < w.heap.size + 3 → Cb wr b cs → Cb wx b cs := fun b cs hb hc => cb_grown (hc.ext e3) GX hge hb
  have hb := cb _ _ (by omega) h.b
  refine ⟨sx, cx, wx, RX, hb, ⟨((h.e.trans e3).grown GX fun k hk => Nat.le_trans (by omega) (hge k hk)).setCell (by omega) _, (cb _ _ (by omega) h.c).far (by omega) _ _, (cb _ _ (by omega) h.r).far (by omega) _ _, hb.upd (i := 1) (by simp) _, RowKit.ownsRow_setCell_below OX (a := ⟨w.heap.size + 1 + 1, 1, none⟩) (by simp) _, RowKit.ownsRow_setCell_below (hv3.kept GX ?_) (a := ⟨w.heap.size + 1 + 1, 1, none⟩) (by simp) _, ?_, by rw [List.length_append, h.lk]; rfl, h.lv, fun x hx => ?_, h.uv, ?_⟩⟩
  · rcases h.a with c | c
    · by_cases d : (Value.slice va vn vc).ownBlock = none
      · exact .inl d
      · exact .inr (by rw [c]; exact d)
    · exact .inr c.symm
  · rcases AX with c | c
    · rw [c]; exact h.a
    · right; rw [c]; intro d
      have := (hv3.lt _ d.symm).2
      omega
  · rcases List.mem_append.1 hx with hx | hx
    · exact h.uk x hx
    · rw [List.mem_singleton.1 hx]; exact hz
  · rw [World.size_setCell]; have := GX.size; omega
theorem RdL.addV {k p m : Int} {w wr : World} {ka : Option Addr} {kn kc : Nat} {va : Option Addr} {vn vc : Nat} {xs ys : List Int} (h : RdL k p m w wr ka kn kc va vn vc xs ys) {z : Int} (hz : U64 z) (hn : vn ≤ 1048576) :
    ∃ sx cx wx, RowKit.Hid ((Builtin.append_ #[27, 27] 27 #[.slice va vn vc, .slice (some ⟨wr.heap.size, 0, none⟩) 1 1]).run Tryz.prog (wr.alloc (.cells #[.int .u64 z] 26)) = .ok (.slice sx (vn + 1) cx) wx) ∧ Cb wx (w.heap.size + 1 + 1) (sc 0 ⟨ka, kn, kc⟩ ⟨va, vn, vc⟩ nilSl false) ∧
      RdL k p m w (wx.setCell ⟨w.heap.size + 1 + 1, 2, none⟩ (.slice sx (vn + 1) cx)) ka kn kc sx (vn + 1) cx xs (ys ++ [z]) := by
  have e3 : Ext wr (wr.alloc (.cells #[.int .u64 z] 26)) := Ext.new wr _
  have hzz := h.z
  have hs := e3.size
  have hk3 := own_ext2 h.k e3
  have hv3 := own_ext2 h.v e3
  obtain ⟨sx, cx, wx, RX, OX, GX, AX⟩ := addWS (ys := ys) hv3 (WS.lit wr z hz) (by omega) (by omega)
  have hge := own_ge h.v
  have cb : ∀ b cs, b < w.heap.size + 3 → Cb wr b cs → Cb wx b cs := fun b cs hb hc => cb_grown (hc.ext e3) GX hge hb
  have hb := cb _ _ (by omega) h.b
  refine ⟨sx, cx, wx, RX, hb, ⟨((h.e.trans e3).grown GX fun k hk => Nat.le_trans (by omega) (hge k hk)).setCell (by omega) _, (cb _ _ (by omega) h.c).far (by omega) _ _, (cb _ _ (by omega) h.r).far (by omega) _ _, hb.upd (i := 2) (by simp) _, RowKit.ownsRow_setCell_below (hk3.kept GX h.a) (a := ⟨w.heap.size + 1 + 1, 2, none⟩) (by simp) _, RowKit.ownsRow_setCell_below OX (a := ⟨w.heap.size + 1 + 1, 2, none⟩) (by simp) _, ?_, h.lk, by rw [List.length_append, h.lv]; rfl, h.uk, fun x hx => ?_, ?_⟩⟩
  · rcases AX with c | c
    · rw [c]; exact h.a
    · by_cases d : (Value.slice ka kn kc).ownBlock = none
      · exact .inl d
      · right; rw [c]; intro d
        have := (hk3.lt _ d).2
        omega
  · rcases List.mem_append.1 hx with hx | hx
    · exact h.uv x hx
    · rw [List.mem_singleton.1 hx]; exact hz
  · rw [World.size_setCell]; have := GX.size; omega
theorem RdL.fin {k p m : Int} {w wr : World} {ka : Option Addr} {kn kc : Nat} {va : Option Addr} {vn vc : Nat} {xs ys : List Int} (h : RdL k p m w wr ka kn kc va vn vc xs ys) (hk : kn ≤ 1048576) (hv : vn ≤ 1048576) :
    Ext w (put5 wr (w.heap.size + 1) 0 ⟨ka, kn, kc⟩ ⟨va, vn, vc⟩ nilSl false) ∧ SS (put5 wr (w.heap.size + 1) 0 ⟨ka, kn, kc⟩ ⟨va, vn, vc⟩ nilSl false) ⟨ka, kn, kc⟩ ⟨va, vn, vc⟩ nilSl ⟨0, xs, ys, [], false⟩ :=
  ⟨h.e.put5 (by omega) _ _ _ _ _, by unfold U64; simp, (WS.of_own h.k h.lk hk h.uk).far5 (off_own (own_ge h.k) (by omega)) _ _ _ _ _, (WS.of_own h.v h.lv hv h.uv).far5 (off_own (own_ge h.v) (by omega)) _ _ _ _ _, NS.empty _ _ _ (by decide)⟩
theorem RdL.off {k p m : Int} {w wr : World} {ka : Option Addr} {kn kc : Nat} {va : Option Addr} {vn vc : Nat} {xs ys : List Int} (h : RdL k p m w wr ka kn kc va vn vc xs ys) : ∀ B, B < w.heap.size → OffS ⟨ka, kn, kc⟩ ⟨va, vn, vc⟩ nilSl B :=
  fun B hB => ⟨fun _ => off_own (own_ge h.k) (by omega), fun _ => off_own (own_ge h.v) (by omega), fun h => absurd h (Nat.lt_irrefl 0)⟩

/-- append of one int onto a row of one's own. -/
theorem addNS {w : World} {base n c : Nat} {sl : Option Addr} {ys : List Int} (hown : w.ownsRow base 3 1 (.slice sl n c) n (flatNS ys)) {b : Nat} {z : Int} (hS : NS w (some ⟨b, 0, none⟩) 1 1 [z]) (hle : n + 1 ≤ 4194304) (hbase : base ≤ w.heap.size) :
    ∃ sl' c' w', RowKit.Hid ((Builtin.append_ #[28, 28] 28 #[.slice sl n c, .slice (some ⟨b, 0, none⟩) 1 1]).run Tryz.prog w = .ok (.slice sl' (n + 1) c') w') ∧ w'.ownsRow base 3 1 (.slice sl' (n + 1) c') (n + 1) (flatNS (ys ++ [z])) ∧ w.grownBy w' (Value.slice sl n c).ownBlock := by
  obtain ⟨i0, hi, hz0, hz1, hz2⟩ := info_parts infoNS
  obtain ⟨v', w', hrun, h2, h3, _, h5⟩ := run_append_own_at (P := Tryz.prog) w base 28 28 3 i0 _ 1 8 Tryz.underlying28 hi hz0 hz1 hz2 rfl (by decide) _ n (flatNS ys) hown ⟨b, 0, none⟩ 1 1 (flatNS [z]) (by rw [flatNS_len]; rfl) hS.news (flatNS_one [z]) (by unfold maxLen; omega) (by omega) hbase
  obtain ⟨sl', c', rfl⟩ := own_form h2
  exact ⟨sl', c', w', Lib.hid hrun, by rw [flatNS_append]; exact h2, h3⟩
structure BaL (k p m : Int) (w wr : World) (cl : Bool) (ta : Option Addr) (tn tc : Nat) (xs : List Int) : Prop where
  e : Ext w wr
  c : Cb wr w.heap.size [.int .i64 k, .int .i64 p, .int .i64 m]
  r : Cb wr (w.heap.size + 1) (sc 0 nilSl nilSl nilSl false)
  b : Cb wr (w.heap.size + 1 + 1) (sc 0 nilSl nilSl ⟨ta, tn, tc⟩ cl)
  k : wr.ownsRow (w.heap.size + 3) 3 1 (.slice ta tn tc) tn (flatNS xs)
  lk : xs.length = tn
  uk : ∀ x ∈ xs, I64 x
  z : w.heap.size + 3 ≤ wr.heap.size
theorem BaL.add {k p m : Int} {w wr : World} {cl : Bool} {ta : Option Addr} {tn tc : Nat} {xs : List Int} (h : BaL k p m w wr cl ta tn tc xs) {z : Int} (hz : I64 z) (hn : tn ≤ 1048576) :
    ∃ sx cx wx, RowKit.Hid ((Builtin.append_ #[28, 28] 28 #[.slice ta tn tc, .slice (some ⟨wr.heap.size, 0, none⟩) 1 1]).run Tryz.prog (wr.alloc (.cells #[.int .i64 z] 3)) = .ok (.slice sx (tn + 1) cx) wx) ∧ Cb wx (w.heap.size + 1 + 1) (sc 0 nilSl nilSl ⟨ta, tn, tc⟩ cl) ∧
      BaL k p m w (wx.setCell ⟨w.heap.size + 1 + 1, 3, none⟩ (.slice sx (tn + 1) cx)) cl sx (tn + 1) cx (xs ++ [z]) := by
  have e3 : Ext wr (wr.alloc (.cells #[.int .i64 z] 3)) := Ext.new wr _
  have hzz := h.z
  have hs := e3.size
  have hk3 := own_ext2 h.k e3
  obtain ⟨sx, cx, wx, RX, OX, GX⟩ := addNS (ys := xs) hk3 (NS.lit wr z hz) (by omega) (by omega)
  have hge := own_ge h.k
  have cb : ∀ b cs, b < w.heap.size + 3 → Cb wr b cs → Cb wx b cs := fun b cs hb hc => cb_grown (hc.ext e3) GX hge hb
  have hb := cb _ _ (by omega) h.b
  refine ⟨sx, cx, wx, RX, hb, ⟨((h.e.trans e3).grown GX fun k hk => Nat.le_trans (by omega) (hge k hk)).setCell (by omega) _, (cb _ _ (by omega) h.c).far (by omega) _ _, (cb _ _ (by omega) h.r).far (by omega) _ _, hb.upd (i := 3) (by simp) _, RowKit.ownsRow_setCell_below OX (a := ⟨w.heap.size + 1 + 1, 3, none⟩) (by simp) _, by rw [List.length_append, h.lk]; rfl, fun x hx => ?_, ?_⟩⟩
  · rcases List.mem_append.1 hx with hx | hx
    · exact h.uk x hx
    · rw [List.mem_singleton.1 hx]; exact hz
  · rw [World.size_setCell]; have := GX.size; omega
theorem BaL.fin {k p m : Int} {w wr : World} {cl : Bool} {ta : Option Addr} {tn tc : Nat} {xs : List Int} (h : BaL k p m w wr cl ta tn tc xs) (hk : tn ≤ 1048576) :
    Ext w (put5 wr (w.heap.size + 1) 0 nilSl nilSl ⟨ta, tn, tc⟩ cl) ∧ SS (put5 wr (w.heap.size + 1) 0 nilSl nilSl ⟨ta, tn, tc⟩ cl) nilSl nilSl ⟨ta, tn, tc⟩ ⟨0, [], [], xs, cl⟩ :=
  ⟨h.e.put5 (by omega) _ _ _ _ _, by unfold U64; simp, WS.empty _ _ _ (by decide), WS.empty _ _ _ (by decide), (NS.of_own h.k h.lk hk h.uk).far5 (off_own (own_ge h.k) (by omega)) _ _ _ _ _⟩
theorem BaL.off {k p m : Int} {w wr : World} {cl : Bool} {ta : Option Addr} {tn tc : Nat} {xs : List Int} (h : BaL k p m w wr cl ta tn tc xs) : ∀ B, B < w.heap.size → OffS nilSl nilSl ⟨ta, tn, tc⟩ B :=
  fun B hB => ⟨fun h => absurd h (Nat.lt_irrefl 0), fun h => absurd h (Nat.lt_irrefl 0), fun _ => off_own (own_ge h.k) (by omega)⟩

theorem RdL.ext {k p m : Int} {w wr w' : World} {ka : Option Addr} {kn kc : Nat} {va : Option Addr} {vn vc : Nat} {xs ys : List Int} (h : RdL k p m w wr ka kn kc va vn vc xs ys) (e : Ext wr w') : RdL k p m w w' ka kn kc va vn vc xs ys :=
  ⟨h.e.trans e, h.c.ext e, h.r.ext e, h.b.ext e, own_ext2 h.k e, own_ext2 h.v e, h.a, h.lk, h.lv, h.uk, h.uv, Nat.le_trans h.z e.size⟩
/-- The world in which read begins. -/
abbrev rW (w : World) (k p m : Int) : World := ((w.alloc (bx k p m)).alloc (sb 0 nilSl nilSl nilSl false)).alloc (sb 0 nilSl nilSl nilSl false)
theorem rw_c (w : World) (k p m : Int) : Cb (rW w k p m) w.heap.size [.int .i64 k, .int .i64 p, .int .i64 m] := ((Cb.new w _ _).alloc _).alloc _
theorem rw_r (w : World) (k p m : Int) : Cb (rW w k p m) (w.heap.size + 1) (sc 0 nilSl nilSl nilSl false) := by
  have h := Cb.new (w.alloc (bx k p m)) (sc 0 nilSl nilSl nilSl false) 30
  rw [World.size_alloc] at h
  exact h.alloc _
theorem rw_b (w : World) (k p m : Int) : Cb (rW w k p m) (w.heap.size + 1 + 1) (sc 0 nilSl nilSl nilSl false) := by
  have h := Cb.new ((w.alloc (bx k p m)).alloc (sb 0 nilSl nilSl nilSl false)) (sc 0 nilSl nilSl nilSl false) 30
  rwa [World.size_alloc, World.size_alloc] at h
theorem rw_e (w : World) (k p m : Int) : Ext w (rW w k p m) := ((Ext.new w _).alloc _).alloc _
theorem rw_z (w : World) (k p m : Int) : w.heap.size + 3 ≤ (rW w k p m).heap.size := by simp [rW]
theorem rd0 (w : World) (k p m : Int) : RdL k p m w (rW w k p m) none 0 0 none 0 0 [] [] :=
  ⟨rw_e w k p m, rw_c w k p m, rw_r w k p m, rw_b w k p m, World.ownsRow_nil _ _ _ _, World.ownsRow_nil _ _ _ _, .inl rfl, rfl, rfl, fun _ h => by simp at h, fun _ h => by simp at h, rw_z w k p m⟩
theorem ba0 (w : World) (k p m : Int) (cl : Bool) : BaL k p m w ((rW w k p m).setCell ⟨w.heap.size + 1 + 1, 4, none⟩ (.bool cl)) cl none 0 0 [] :=
  ⟨(rw_e w k p m).setCell (by omega) _, (rw_c w k p m).far (by omega) _ _, (rw_r w k p m).far (by omega) _ _, (rw_b w k p m).upd (i := 4) (by simp) _, World.ownsRow_nil _ _ _ _, rfl, fun _ h => by simp at h, by rw [World.size_setCell]; exact rw_z w k p m⟩

/-- What read finds of keys and of values. -/
theorem read_key {k m : Int} (l : List Rs) (hk : keyed k = true) : ∃ ks vs, readS k m l = ⟨0, ks, vs, [], false⟩ ∧ (∀ j, ks[j]? = if everyK k * j + everyK k < l.length then l[everyK k * j]?.map (·.2) else none) ∧ (everyK k = 1 → vs = []) ∧ (everyK k = 2 → ∀ j, vs[j]? = if 2 * j + 2 < l.length then l[2 * j + 1]?.map (·.2) else none) := by
  have h1 : ¬ k = 1 := by have := keyed_cases hk; omega
  unfold readS everyK
  rw [if_neg h1, if_pos hk]
  cases hv : valued k with
  | true =>
    simp only [if_true]
    exact ⟨evens l, odds l, rfl, evens_get l, fun h => by simp at h, fun _ => odds_get l⟩
  | false =>
    simp only [Bool.false_eq_true, if_false]
    exact ⟨_, [], rfl, fun j => by rw [drop_get]; simp, fun _ => rfl, fun h => by simp at h⟩

end Go.Proofs.YtdipddnnckfnmaaGreat.Lan

/- AutRead:
  The document's read, of objects with keys. Conditions: the answers are there.
-/
namespace Go.Proofs.YtdipddnnckfnmaaGreat.Lan
open Go.RowKit (Below intOf)
open Go.Proofs.YtdipddnnckfnmaaGreat.Aut
open Go.Proofs.YtdipddnnckfnmaaGreat.Reg (cf bx fits_any rfits_any)

set_option maxHeartbeats 16000000 in
set_option maxRecDepth 100000 in
theorem rread_key (k p m : Int) (sl : Option Addr) (n c : Nat) (l : List Rs) (w : World) (hl : RS w sl n c l) (hk : keyed k = true) :
    Calls Tryz.prog 53 #[cf k p m, .slice sl n c] w (NE (readS k m l) w) := by
  have hn := hl.le
  have hkc := keyed_cases hk
  have hb1 : (k == 1) = false := by simp; omega
  have hb5 : (k == 5) = false := by simp; omega
  obtain ⟨ks, vs, hrd, hK, hV1, hV2⟩ := read_key (m := m) l hk
  rw [hrd]
  have hE2 : everyK k = 1 ∨ everyK k = 2 := by unfold everyK; split <;> simp
  have HEv := Lib.hid (fun W => every_any k p m W)
  rw [hl.len] at hK hV2
  have D0 := Lib.hid (rd0 w k p m)
  obtain ⟨k0, k1, k2⟩ := (rw_c w k p m).three
  generalize everyK k = E at *
  have HR := Lib.hid hl
  have HK := Lib.hid hK
  have HV1 := Lib.hid hV1
  have HV2 := Lib.hid hV2
  clear hl hk hkc hrd hK hV1 hV2
  dsimp only [cf, bx, sb, rW, put5, nilSl] at *
  go_enter Tryz.func53, Tryz.ntmps53
  go_upto_region 2 with (fail)
  generalize ((w.alloc (.cells #[.int .i64 k, .int .i64 p, .int .i64 m] 24)).alloc (.cells #[.int .u64 0, .slice none 0 0, .slice none 0 0, .slice none 0 0, .bool false] 30)).alloc (.cells #[.int .u64 0, .slice none 0 0, .slice none 0 0, .slice none 0 0, .bool false] 30) = W at *
  go_wp2_with (fail)
  refine (HEv.out _).mono ?_
  rintro e w1 ⟨rfl, e1⟩
  replace D0 := Lib.hid (D0.out.ext e1)
  clear HEv e1 k0 k1 k2
  go_wp2_with (fail)
  go_loopg [9] n (fun kx s9 wr => ∃ (i j : Nat) (ka : Option Addr) (kn kc : Nat) (va : Option Addr) (vn vc : Nat), s9 = .int .i64 i ∧ i ≤ n ∧ n - i ≤ kx ∧ i = E * j ∧ RowKit.Hid (RdL k p m w wr ka kn kc va vn vc (ks.take j) (vs.take j)))
  case atStart => exact ⟨0, 0, none, 0, 0, none, 0, 0, rfl, Nat.zero_le _, by omega, by simp, Lib.hid (by simpa using D0.out)⟩
  case round =>
    obtain ⟨i, j, ka, kn, kc, va, vn, vc, rfl, hi, hg, hij, D⟩ := hrel
    clear D0
    obtain ⟨b0, b1, b2, b3, b4⟩ := D.out.b.five
    have hw4 : IntKind.i64.wrap ((i : Int) + (E : Int)) = (i : Int) + (E : Int) := by simp only [IntKind.wrap_i64]; omega
    have hw5 : RowKit.wrap64 ((i : Int) + (E : Int)) = (i : Int) + (E : Int) := by simp only [RowKit.wrap64]; omega
    have hji : j ≤ i := by rcases hE2 with h | h <;> subst h <;> omega
    have hkn : kn ≤ 1048576 := by have h1 := D.out.lk; rw [List.length_take] at h1; omega
    have hvn : vn ≤ 1048576 := by have h1 := D.out.lv; rw [List.length_take] at h1; omega
    have hkj := HK.out j
    rw [← hij] at hkj
    by_cases hlt : i + E < n
    · have hlt2 : (i : Int) + (E : Int) < n := by omega
      have hms : n - (i + 1) < gk := by omega
      have hi2 : (i : Int) < n := by omega
      rw [if_pos hlt] at hkj
      obtain ⟨⟨e, v⟩, hy, hyu, b, o, rfl, hyc, hyd⟩ := HR.out.get (k := i) (by omega)
      rw [hy] at hkj
      have cd := D.out.e.cell hyd
      dsimp only at cd
      obtain ⟨sx, cx, wx, RX0, BX, DX⟩ := (D.out.ext (Ext.drew (Ext.refl wr))).addK hyu.2 hkn
      have RX : RowKit.Hid ((Builtin.append_ #[27, 27] 27 #[.slice ka kn kc, .slice (some ⟨wr.heap.size, 0, none⟩) 1 1]).run Tryz.prog ((wr.alloc (.cells #[.int .u64 v] 26)).drew) = .ok (.slice sx (kn + 1) cx) wx) := RX0
      clear RX0
      have b1' := (Ext.new wr (.cells #[.int .u64 v] 26)).cell b1
      have y1 := BX.c 1 _ rfl
      have z1 := BX.f 1
      have hks : ks.take (j + 1) = ks.take j ++ [v] := take_snoc hkj
      replace DX := Lib.hid DX
      dsimp only at DX RX y1 b1 b1'
      rcases hE2 with h | h
      · subst h
        have hx1 : (i : Int) + 1 < n := by omega
        have hx2 : IntKind.i64.wrap ((i : Int) + 1) = (i : Int) + 1 := by simp only [IntKind.wrap_i64]; omega
        have hx3 : RowKit.wrap64 ((i : Int) + 1) = (i : Int) + 1 := by simp only [RowKit.wrap64]; omega
        clear hlt2 hw4 hw5
        have HE : RowKit.Hid (vs.take (j + 1) = vs.take j) := Lib.hid (by rw [HV1.out rfl]; simp)
        have Hks := Lib.hid hks
        have Hij := Lib.hid hij
        clear BX hy hyu hyc hyd hkj hks hij b0 b2 b3 b4
        go_wp2_with (fail)
        go_region_law (refine step_append_run _ rfl (.tmp 73) (.tmp 79) _ _ rfl _ _ rfl rfl _ _ RX.out ?_)
        all_goals
          go_wp2_with (fail)
          go_roundg (n - (i + 1))
          case measure => omega
          case rel => exact ⟨i + 1, j + 1, sx, kn + 1, cx, va, vn, vc, by first | rfl | (congr 1), by omega, by omega, by have := Hij.out; omega, Lib.hid (by rw [Hks.out, HE.out]; exact DX.out)⟩
      · subst h
        have hx1 : (i : Int) + 2 < n := by omega
        have hx2 : IntKind.i64.wrap ((i : Int) + 2) = (i : Int) + 2 := by simp only [IntKind.wrap_i64]; omega
        have hx3 : RowKit.wrap64 ((i : Int) + 2) = (i : Int) + 2 := by simp only [RowKit.wrap64]; omega
        clear hlt2 hw4 hw5
        have hr1 : i + 2 ≤ n := by omega
        have hr2 : n - (i + 2) ≤ n - (i + 1) := by omega
        have hi4 : (i : Int) + 1 < n := by omega
        have hi5 : (0 : Int) ≤ (i : Int) + 1 := by omega
        have hw6 : IntKind.i64.wrap ((i : Int) + 1) = (i : Int) + 1 := by simp only [IntKind.wrap_i64]; omega
        have hw7 : RowKit.wrap64 ((i : Int) + 1) = (i : Int) + 1 := by simp only [RowKit.wrap64]; omega
        have hvj := HV2.out rfl j
        rw [show 2 * j + 2 = i + 2 by omega, if_pos hlt, show 2 * j + 1 = i + 1 by omega] at hvj
        obtain ⟨⟨e', v'⟩, hy', hyu', b', o', hbe, hyc', hyd'⟩ := HR.out.get (k := i + 1) (by omega)
        cases hbe
        rw [hy'] at hvj
        have cd2 := DX.out.e.cell hyd'
        dsimp only at cd2
        obtain ⟨sx2, cx2, wx2, RX3, BX2, DX2⟩ := (DX.out.ext (Ext.drew (Ext.refl _))).addV hyu'.2 hvn
        have RX2 : RowKit.Hid ((Builtin.append_ #[27, 27] 27 #[.slice va vn vc, .slice (some ⟨(wx.setCell ⟨w.heap.size + 1 + 1, 1, none⟩ (.slice sx (kn + 1) cx)).heap.size, 0, none⟩) 1 1]).run Tryz.prog (((wx.setCell ⟨w.heap.size + 1 + 1, 1, none⟩ (.slice sx (kn + 1) cx)).alloc (.cells #[.int .u64 v'] 26)).drew) = .ok (.slice sx2 (vn + 1) cx2) wx2) := RX3
        clear RX3
        obtain ⟨_, _, u2, _, _⟩ := DX.out.b.five
        have u2' := (Ext.new (wx.setCell ⟨w.heap.size + 1 + 1, 1, none⟩ (.slice sx (kn + 1) cx)) (.cells #[.int .u64 v'] 26)).cell u2
        have y2 := BX2.c 2 _ rfl
        have z2 := BX2.f 2
        have hvs : vs.take (j + 1) = vs.take j ++ [v'] := take_snoc hvj
        replace DX2 := Lib.hid DX2
        dsimp only at DX2 RX2 y2 u2 u2'
        have Hks := Lib.hid hks
        have Hvs := Lib.hid hvs
        have Hij2 : RowKit.Hid (i + 2 = 2 * (j + 1)) := Lib.hid (by omega)
        clear hg hi
        clear BX BX2 hy hyu hyc hyd hkj hks hij b0 b2 b3 b4 hy' hyu' hyc' hyd' hvj hvs
        go_upto_region 19 with (fail)
        go_cut [81] from 72 to 81 (fun _ wy => wy = wx.setCell ⟨w.heap.size + 1 + 1, 1, none⟩ (.slice sx (kn + 1) cx))
        case first =>
          go_region_law (refine step_append_run _ rfl (.tmp 73) (.tmp 79) _ _ rfl _ _ rfl rfl _ _ RX.out ?_)
          all_goals
            go_wp2_with (fail)
            go_meet
            first | rfl | exact ⟨rfl⟩
        case rest =>
          obtain rfl := hcut
          clear RX b1 b1' y1 z1 cd
          generalize wx.setCell ⟨w.heap.size + 1 + 1, 1, none⟩ (.slice sx (kn + 1) cx) = W6 at *
          go_wp2_with (fail)
          go_region_law (refine step_append_run _ rfl (.tmp 85) (.tmp 92) _ _ rfl _ _ rfl rfl _ _ RX2.out ?_)
          all_goals
            go_wp2_with (fail)
            go_roundg (n - (i + 1))
            case measure => exact hms
            case rel => exact ⟨i + 2, j + 1, sx, kn + 1, cx, sx2, vn + 1, cx2, rfl, hr1, hr2, Hij2.out, Lib.hid (by rw [Hks.out, Hvs.out]; exact DX2.out)⟩
    · have hlt2 : ¬ (i : Int) + (E : Int) < n := by omega
      rw [if_neg hlt] at hkj
      have hke := all_of hkj
      have hve : vs.take j = vs := by
        rcases hE2 with h | h
        · rw [HV1.out h]; simp
        · have hvj := HV2.out h j
          subst h
          rw [if_neg (by omega)] at hvj
          exact all_of hvj
      have DF := Lib.hid (D.out.fin hkn hvn)
      have HOf := Lib.hid D.out.off
      rw [hke, hve] at DF
      obtain ⟨r0, r1, r2, r3, r4⟩ := D.out.r.five
      have z0 := D.out.r.f
      have HB := Lib.hid D.out.r
      dsimp only [put5] at DF
      clear hkj hke hve D hij hlt
      go_wp2_with (fail)
      obtain ⟨q0, q1, q2, q3, q4⟩ := (HB.out.st (.int .u64 0) (.slice ka kn kc) (.slice va vn vc) (.slice none 0 0) (.bool false)).five
      refine bodyPost_ret (v := sv 0 ⟨ka, kn, kc⟩ ⟨va, vn, vc⟩ nilSl false) (by simp [results, Tryz.results53, go_sem, q0, q1, q2, q3, q4]) rfl ?_
      exact ⟨DF.out.1, ⟨ka, kn, kc⟩, ⟨va, vn, vc⟩, nilSl, rfl, DF.out.2, HOf.out⟩

end Go.Proofs.YtdipddnnckfnmaaGreat.Lan

/- AutRdB:
  The document's read, of a register and of a ballot, and whole. Conditions: a configuration that fits; the answers are there, and at least one.
-/
namespace Go.Proofs.YtdipddnnckfnmaaGreat.Lan
open Go.RowKit (Below intOf)
open Go.Proofs.YtdipddnnckfnmaaGreat.Aut
open Go.Proofs.YtdipddnnckfnmaaGreat.Reg (cf bx fits_any rfits_any)

set_option maxHeartbeats 4000000 in
set_option maxRecDepth 100000 in
theorem rread_reg (p m : Int) (sl : Option Addr) (n c : Nat) (l : List Rs) (w : World) (hl : RS w sl n c l) (h0 : 0 < n) :
    Calls Tryz.prog 53 #[cf 1 p m, .slice sl n c] w (NE (readS 1 m l) w) := by
  have hn := hl.le
  obtain ⟨⟨e, v⟩, hy, hyu, b, o, rfl, hyc, hyd⟩ := hl.get h0
  have hrd : readS 1 m l = ⟨0 + v, [], [], [], false⟩ := by
    unfold readS; rw [if_pos rfl, List.getD_eq_getElem?_getD, hy]; simp [zeroS]
  rw [Int.zero_add] at hrd
  rw [hrd]
  have HU := Lib.hid hyu.2
  have cd := (rw_e w 1 p m).cell hyd
  obtain ⟨j0, j1, j2⟩ := (rw_c w 1 p m).three
  have hX := Lib.hid (((rw_e w 1 p m).setCell (b := w.heap.size + 1 + 1) (o := 0) (by omega) (.int .u64 v)).put5 (B := w.heap.size + 1) (by omega) v nilSl nilSl nilSl false)
  have h02 : (0 : Int) < n := by omega
  clear hl hy hyu hyc hyd hrd
  obtain ⟨b0, b1, b2, b3, b4⟩ := (rw_b w 1 p m).five
  have z0 := (rw_b w 1 p m).f
  obtain ⟨r0, r1, r2, r3, r4⟩ := (rw_r w 1 p m).five
  have y0 := (rw_r w 1 p m).f
  have hs := rw_z w 1 p m
  have HRr := Lib.hid (rw_r w 1 p m)
  dsimp only [cf, bx, sb, rW, put5, nilSl] at *
  go_enter Tryz.func53, Tryz.ntmps53
  go_upto_region 2 with (fail)
  generalize ((w.alloc (.cells #[.int .i64 1, .int .i64 p, .int .i64 m] 24)).alloc (.cells #[.int .u64 0, .slice none 0 0, .slice none 0 0, .slice none 0 0, .bool false] 30)).alloc (.cells #[.int .u64 0, .slice none 0 0, .slice none 0 0, .slice none 0 0, .bool false] 30) = W at *
  go_wp2_with (fail)
  obtain ⟨q0, q1, q2, q3, q4⟩ := ((HRr.out.far (B := w.heap.size + 1 + 1) (by omega) 0 (.int .u64 v)).st (.int .u64 v) (.slice none 0 0) (.slice none 0 0) (.slice none 0 0) (.bool false)).five
  refine bodyPost_ret (v := sv v nilSl nilSl nilSl false) (by simp [results, Tryz.results53, go_sem, q0, q1, q2, q3, q4]) rfl ?_
  exact ⟨hX.out, nilSl, nilSl, nilSl, rfl, ⟨HU.out, WS.empty _ _ _ (by decide), WS.empty _ _ _ (by decide), NS.empty _ _ _ (by decide)⟩, fun B _ => offS_nil B⟩

theorem bal_get (l : List Rs) (m : Nat) (j : Nat) : (((l.drop 9).take m).map fun r : Rs => voteOf r.2)[j]? = if 9 + j < l.length ∧ j < m then l[9 + j]?.map (fun r => voteOf r.2) else none := by
  rw [List.getElem?_map, List.getElem?_take]
  by_cases h : j < m
  · rw [if_pos h, List.getElem?_drop]
    by_cases h2 : 9 + j < l.length
    · rw [if_pos ⟨h2, h⟩]
    · rw [if_neg (fun c => h2 c.1), List.getElem?_eq_none (by omega)]; rfl
  · rw [if_neg h, if_neg (fun c => h c.2)]; rfl

set_option maxHeartbeats 8000000 in
set_option maxRecDepth 100000 in
theorem rread_bal (p m : Int) (hm : 1 ≤ m ∧ m ≤ 256) (sl : Option Addr) (n c : Nat) (l : List Rs) (w : World) (hl : RS w sl n c l) (h0 : 0 < n) :
    Calls Tryz.prog 53 #[cf 5 p m, .slice sl n c] w (NE (readS 5 m l) w) := by
  have hn := hl.le
  obtain ⟨⟨e, v⟩, hy, hyu, b, o, hsl, hyc, hyd⟩ := hl.get h0
  obtain ⟨V, hV⟩ : ∃ V, (((l.drop 9).take m.toNat).map fun r : Rs => voteOf r.2) = V := ⟨_, rfl⟩
  have hrd : readS 5 m l = ⟨0, [], [], V, v == 1⟩ := by
    unfold readS; rw [if_neg (by omega), if_neg (by decide), List.getD_eq_getElem?_getD, hy, hV]; rfl
  rw [hrd]
  have hVg : ∀ j, V[j]? = if 9 + j < n ∧ j < m.toNat then l[9 + j]?.map (fun r => voteOf r.2) else none := fun j => by rw [← hV, bal_get, hl.len]
  have HVg := Lib.hid hVg
  have cd := (rw_e w 5 p m).cell hyd
  obtain ⟨j0, j1, j2⟩ := (rw_c w 5 p m).three
  have D0 := Lib.hid (ba0 w 5 p m (v == 1))
  generalize hcl : (v == 1) = cl at *
  have HR := Lib.hid hl
  have h02 : (0 : Int) < n := by omega
  have hw8 : IntKind.i64.wrap (8 + m) = 8 + m := by simp only [IntKind.wrap_i64]; omega
  have hw8' : RowKit.wrap64 (8 + m) = 8 + m := by simp only [RowKit.wrap64]; omega
  clear hl hy hyu hyc hrd hV hVg hyd
  subst hsl
  obtain ⟨b0, b1, b2, b3, b4⟩ := (rw_b w 5 p m).five
  have z0 := (rw_b w 5 p m).f
  obtain ⟨r0, r1, r2, r3, r4⟩ := (rw_r w 5 p m).five
  have y0 := (rw_r w 5 p m).f
  have hs := rw_z w 5 p m
  dsimp only [cf, bx, sb, rW, put5, nilSl] at *
  go_enter Tryz.func53, Tryz.ntmps53
  go_upto_region 2 with (fail)
  generalize ((w.alloc (.cells #[.int .i64 5, .int .i64 p, .int .i64 m] 24)).alloc (.cells #[.int .u64 0, .slice none 0 0, .slice none 0 0, .slice none 0 0, .bool false] 30)).alloc (.cells #[.int .u64 0, .slice none 0 0, .slice none 0 0, .slice none 0 0, .bool false] 30) = W at *
  go_wp2_with (fail)
  go_loopg [6] n (fun kx s6 wr => ∃ (i j : Nat) (ta : Option Addr) (tn tc : Nat), s6 = .int .i64 i ∧ i = 9 + j ∧ n + 9 - i ≤ kx ∧ j ≤ m.toNat ∧ (9 + j ≤ n ∨ j = 0) ∧ RowKit.Hid (BaL 5 p m w wr cl ta tn tc (V.take j)))
  case atStart => exact ⟨9, 0, none, 0, 0, rfl, rfl, by omega, by omega, .inr rfl, Lib.hid (by simpa using D0.out)⟩
  case round =>
    obtain ⟨i, j, ta, tn, tc, rfl, hij, hg, hjm, hjn, D⟩ := hrel
    clear D0 cd b0 b1 b2 b3 b4 z0 r0 r1 r2 r3 r4 y0 hs j0 j1 j2
    obtain ⟨c0, c1, c2⟩ := D.out.c.three
    obtain ⟨b0, b1, b2, b3, b4⟩ := D.out.b.five
    have htn : tn ≤ 1048576 := by have h1 := D.out.lk; rw [List.length_take] at h1; omega
    have hvj := HVg.out j
    by_cases hlt : 9 + j < n ∧ j < m.toNat
    · have ha : (i : Int) < n := by omega
      have hb : (i : Int) ≤ 8 + m := by omega
      obtain ⟨⟨e, v⟩, hy, hyu, b, o, hbe, hyc, hyd⟩ := HR.out.get (k := i) (by omega)
      cases hbe
      rw [if_pos hlt, ← hij, hy] at hvj
      have cd := D.out.e.cell hyd
      dsimp only at cd
      by_cases h8 : v ≤ 8
      · have hvo : voteOf v = v := by unfold voteOf; rw [if_pos h8]
        have hw1 : IntKind.i64.wrap v = v := by have := hyu.2.1; simp only [IntKind.wrap_i64]; omega
        have hw2 : RowKit.wrap64 v = v := by have := hyu.2.1; simp only [RowKit.wrap64]; omega
        obtain ⟨sx, cx, wx, RX, BX, DX⟩ := D.out.add (z := v) (by have := hyu.2.1; unfold I64; omega) htn
        have y3 := BX.c 3 _ rfl
        have z3 := BX.f 3
        have hvs : V.take (j + 1) = V.take j ++ [v] := by
          have h := take_snoc hvj
          dsimp only at h
          rwa [hvo] at h
        have Hvs := Lib.hid hvs
        replace DX := Lib.hid DX
        dsimp only at DX RX y3
        have Hij := Lib.hid hij
        have hin : i < n := by omega
        have hjm2 : j + 1 ≤ m.toNat := by omega
        have hjn2 : 9 + (j + 1) ≤ n := by omega
        clear BX hy hyu hyc hyd hvj hvs hvo D hij hjm hjn hlt
        go_wp2_with (first | (at_builtin; refine Lib.wpList_append_run _ rfl (.tmp 55) (.tmp 57) _ _ rfl _ _ rfl rfl _ _ RX.out ?_))
        go_roundg (n + 9 - (i + 1))
        case measure => omega
        case rel => exact ⟨i + 1, j + 1, sx, tn + 1, cx, by first | rfl | (congr 1), by have := Hij.out; omega, by omega, hjm2, .inl hjn2, Lib.hid (by rw [Hvs.out]; exact DX.out)⟩
      · have hvo : voteOf v = 9 := by unfold voteOf; rw [if_neg h8]
        obtain ⟨sx, cx, wx, RX, BX, DX⟩ := D.out.add (z := 9) (by unfold I64; simp) htn
        have y3 := BX.c 3 _ rfl
        have z3 := BX.f 3
        have hvs : V.take (j + 1) = V.take j ++ [9] := by
          have h := take_snoc hvj
          dsimp only at h
          rwa [hvo] at h
        have Hvs := Lib.hid hvs
        replace DX := Lib.hid DX
        dsimp only at DX RX y3
        have Hij := Lib.hid hij
        have hin : i < n := by omega
        have hjm2 : j + 1 ≤ m.toNat := by omega
        have hjn2 : 9 + (j + 1) ≤ n := by omega
        clear BX hy hyu hyc hyd hvj hvs hvo D hij hjm hjn hlt
        go_wp2_with (first | (at_builtin; refine Lib.wpList_append_run _ rfl (.tmp 55) (.tmp 57) _ _ rfl _ _ rfl rfl _ _ RX.out ?_))
        go_roundg (n + 9 - (i + 1))
        case measure => omega
        case rel => exact ⟨i + 1, j + 1, sx, tn + 1, cx, by first | rfl | (congr 1), by have := Hij.out; omega, by omega, hjm2, .inl hjn2, Lib.hid (by rw [Hvs.out]; exact DX.out)⟩
    · rw [if_neg hlt] at hvj
      have hve := all_of hvj
      have HB := Lib.hid D.out.r
      have HOf := Lib.hid D.out.off
      have DF := Lib.hid (D.out.fin htn)
      rw [hve] at DF
      obtain ⟨r0, r1, r2, r3, r4⟩ := D.out.r.five
      have y0 := D.out.r.f
      dsimp only [put5] at DF
      by_cases ha : (i : Int) < n
      · have hb : ¬ (i : Int) ≤ 8 + m := by omega
        clear hvj hve D hij hjm hjn hlt
        go_wp2_with (fail)
        obtain ⟨q0, q1, q2, q3, q4⟩ := (HB.out.st (.int .u64 0) (.slice none 0 0) (.slice none 0 0) (.slice ta tn tc) (.bool cl)).five
        refine bodyPost_ret (v := sv 0 nilSl nilSl ⟨ta, tn, tc⟩ cl) (by simp [results, Tryz.results53, go_sem, q0, q1, q2, q3, q4]) rfl ?_
        exact ⟨DF.out.1, nilSl, nilSl, ⟨ta, tn, tc⟩, rfl, DF.out.2, HOf.out⟩
      · clear hvj hve D hij hjm hjn hlt
        go_wp2_with (fail)
        obtain ⟨q0, q1, q2, q3, q4⟩ := (HB.out.st (.int .u64 0) (.slice none 0 0) (.slice none 0 0) (.slice ta tn tc) (.bool cl)).five
        refine bodyPost_ret (v := sv 0 nilSl nilSl ⟨ta, tn, tc⟩ cl) (by simp [results, Tryz.results53, go_sem, q0, q1, q2, q3, q4]) rfl ?_
        exact ⟨DF.out.1, nilSl, nilSl, ⟨ta, tn, tc⟩, rfl, DF.out.2, HOf.out⟩

end Go.Proofs.YtdipddnnckfnmaaGreat.Lan

/- AutSeen:
  The document's read, whole, and its Seen. Conditions: what was told are answers, at most so many.
-/
namespace Go.Proofs.YtdipddnnckfnmaaGreat.Lan
open Go.RowKit (Below intOf)
open Go.Proofs.YtdipddnnckfnmaaGreat.Aut
open Go.Proofs.YtdipddnnckfnmaaGreat.Reg (cf bx fits_any rfits_any)

theorem rread_any {k p m : Int} (hf : fits k p m = true) (sl : Option Addr) (n c : Nat) (l : List Rs) (w : World) (hl : RS w sl n c l) (h0 : 0 < n) :
    Calls Tryz.prog 53 #[cf k p m, .slice sl n c] w (NE (readS k m l) w) := by
  have hb := fits_of hf
  rcases kinds hf with rfl | rfl | rfl | rfl | rfl
  · exact rread_reg p m sl n c l w hl h0
  · exact rread_key 2 p m sl n c l w hl rfl
  · exact rread_key 3 p m sl n c l w hl rfl
  · exact rread_key 4 p m sl n c l w hl rfl
  · exact rread_bal p m ⟨hb.2.2.2.2.1, hb.2.2.2.2.2⟩ sl n c l w hl h0

theorem ss_put5 {W : World} {k v t : Sl} {s : St} (h : SS W k v t s) {B : Nat} (hb : OffS k v t B) (r : Int) (a b c : Sl) (cl : Bool) : SS (put5 W B r a b c cl) k v t s :=
  ((((h.set hb _ _).set hb _ _).set hb _ _).set hb _ _).set hb _ _

set_option maxHeartbeats 8000000 in
set_option maxRecDepth 100000 in
theorem rseen_any (k p m : Int) (sl : Option Addr) (n c : Nat) (l : List Rs) (w : World) (hm : I64 m) (hl : RS w sl n c l) :
    Calls Tryz.prog 26 #[cf k p m, .slice sl n c] w (SE (seenF k p m l).1 w (fun v => .tuple #[v, .bool (seenF k p m l).2])) := by
  have hn := hl.le
  have hll := hl.len
  have HR := Lib.hid hl
  have X0 := Lib.hid ((Ext.new w (bx k p m)).alloc (sb 0 nilSl nilSl nilSl false))
  have HC : RowKit.Hid (Cb ((w.alloc (bx k p m)).alloc (sb 0 nilSl nilSl nilSl false)) w.heap.size [.int .i64 k, .int .i64 p, .int .i64 m]) := Lib.hid ((Cb.new w _ _).alloc _)
  have HB : RowKit.Hid (Cb ((w.alloc (bx k p m)).alloc (sb 0 nilSl nilSl nilSl false)) (w.heap.size + 1) (sc 0 nilSl nilSl nilSl false)) := Lib.hid (by
    have h := Cb.new (w.alloc (bx k p m)) (sc 0 nilSl nilSl nilSl false) 30
    rwa [World.size_alloc] at h)
  have HF := Lib.hid (fun W => rfits_e k p m W)
  obtain ⟨c0, c1, c2⟩ := HC.out.three
  by_cases hf : fits k p m = true
  · have hf' : Reg.fits k p m = true := hf
    rw [hf'] at HF
    by_cases h0 : 0 < n
    · have hn0 : ((n : Int) == 0) = false := by simp; omega
      have HRd : RowKit.Hid (∀ W, Ext w W → Calls Tryz.prog 53 #[cf k p m, .slice sl n c] W (NE (readS k m l) W)) := Lib.hid (fun W hE => rread_any hf sl n c l W (hl.ext hE) h0)
      have HOu : RowKit.Hid (∀ W a v t, SS W a v t (readS k m l) → Calls Tryz.prog 11 #[cf k p m, sv (readS k m l).reg a v t (readS k m l).closed] W (OuE (outF k p m (readS k m l)) W)) := Lib.hid (fun W a v t h => rout_any k p m a v t (readS k m l) W hm h)
      have hne : l ≠ [] := fun c => by rw [c] at hll; simp at hll; omega
      have hse : seenF k p m l = if rightS k p m (readS k m l) = true ∧ outS k (readS k m l) = l then (readS k m l, true) else (zeroS, false) := by
        unfold seenF
        by_cases h : rightS k p m (readS k m l) = true ∧ outS k (readS k m l) = l
        · rw [if_pos h, if_pos ⟨hf, hne, h⟩]
        · rw [if_neg h, if_neg (fun c => h ⟨c.2.2.1, c.2.2.2⟩)]
      have hou : outF k p m (readS k m l) = if rightS k p m (readS k m l) then (outS k (readS k m l), 0) else ([], 1) := by unfold outF; rw [if_pos hf]
      generalize seenF k p m l = sf at *
      generalize readS k m l = s at *
      have HSf := Lib.hid hse
      have HOf := Lib.hid hou
      obtain ⟨sr, sk, sv', sw, scl⟩ := s
      clear hf hf' hl hll h0 hne hse hou
      dsimp only [cf, bx, sb, sc, nilSl, sv] at *
      go_enter Tryz.func26, Tryz.ntmps26
      go_wp2_with (fail)
      refine (HF.out _).mono ?_
      rintro e w1 ⟨rfl, e1⟩
      replace X0 := Lib.hid (X0.out.trans e1)
      replace HC := Lib.hid (HC.out.ext e1)
      replace HB := Lib.hid (HB.out.ext e1)
      clear HF e1 c0 c1 c2
      obtain ⟨c0, c1, c2⟩ := HC.out.three
      have HQ := Lib.hid (HRd.out w1 X0.out)
      clear HRd
      go_wp2_with (fail)
      refine HQ.out.mono ?_
      rintro e w2 ⟨e2, ⟨ka, kn, kc⟩, ⟨va, vn, vc⟩, ⟨ta, tn, tc⟩, he, S2, O2⟩
      dsimp only [sv] at he
      subst he
      have e3 := e2.alloc (.cells #[.int .u64 sr, .slice ka kn kc, .slice va vn vc, .slice ta tn tc, .bool scl] 30)
      have HO := Lib.hid (O2 (w.heap.size + 1) HB.out.lt)
      replace X0 := Lib.hid (X0.out.trans e3)
      replace HC := Lib.hid (HC.out.ext e3)
      replace HB := Lib.hid (HB.out.ext e3)
      have HS := Lib.hid (S2.ext (Ext.new w2 (.cells #[.int .u64 sr, .slice ka kn kc, .slice va vn vc, .slice ta tn tc, .bool scl] 30)))
      have HT : RowKit.Hid (Cb (w2.alloc (.cells #[.int .u64 sr, .slice ka kn kc, .slice va vn vc, .slice ta tn tc, .bool scl] 30)) w2.heap.size [.int .u64 sr, .slice ka kn kc, .slice va vn vc, .slice ta tn tc, .bool scl]) := Lib.hid (Cb.new w2 _ _)
      clear HQ e2 e3 S2 O2 c0 c1 c2
      obtain ⟨c0, c1, c2⟩ := HC.out.three
      obtain ⟨s0, s1, s2, s3, s4⟩ := HT.out.five
      have HQ := Lib.hid (HOu.out _ ⟨ka, kn, kc⟩ ⟨va, vn, vc⟩ ⟨ta, tn, tc⟩ HS.out)
      clear HOu
      dsimp only at HQ
      go_wp2_with (fail)
      refine HQ.out.mono ?_
      rintro e w3 ⟨⟨la, ln, lc⟩, he, R3, e3⟩
      dsimp only at he
      subst he
      replace X0 := Lib.hid (X0.out.trans e3)
      replace HB := Lib.hid (HB.out.ext e3)
      replace HS := Lib.hid (HS.out.ext e3)
      replace HT := Lib.hid (HT.out.ext e3)
      have hR3 := Lib.hid R3
      clear HQ e3 R3 c0 c1 c2 s0 s1 s2 s3 s4 HC
      obtain ⟨s0, s1, s2, s3, s4⟩ := HT.out.five
      obtain ⟨r0, r1, r2, r3, r4⟩ := HB.out.five
      have z0 := HB.out.f
      by_cases hR : rightS k p m ⟨sr, sk, sv', sw, scl⟩ = true
      · have ho := HOf.out
        rw [if_pos hR] at ho
        rw [ho] at hR3 ⊢
        obtain ⟨r, hr⟩ : ∃ r, r = decide (outS k ⟨sr, sk, sv', sw, scl⟩ = l) := ⟨_, rfl⟩
        have HTo := Lib.hid (told_any la sl ln n lc c _ l r w3 hR3.out (HR.out.ext X0.out) (Lib.hid hr))
        have hsf : sf = if r = true then (⟨sr, sk, sv', sw, scl⟩, true) else (zeroS, false) := by
          rw [HSf.out, hr]
          by_cases h : outS k ⟨sr, sk, sv', sw, scl⟩ = l
          · rw [if_pos ⟨hR, h⟩, if_pos (decide_eq_true h)]
          · rw [if_neg (fun c => h c.2), if_neg (by rw [decide_eq_false h]; simp)]
        cases r with
        | true =>
          rw [if_pos rfl] at hsf
          subst hsf
          clear hR ho hr HOf HSf hR3
          dsimp only
          go_wp2_with (fail)
          refine HTo.out.mono ?_
          rintro e w4 ⟨rfl, q, rfl⟩
          clear HTo
          have HX := Lib.hid (X0.out.drewN q)
          replace HB := Lib.hid (HB.out.ext (Ext.draws w3 q))
          replace HS := Lib.hid (HS.out.ext (Ext.draws w3 q))
          replace HT := Lib.hid (HT.out.ext (Ext.draws w3 q))
          clear X0 s0 s1 s2 s3 s4 r0 r1 r2 r3 r4 z0
          generalize w3.drewN q = w5 at *
          obtain ⟨s0, s1, s2, s3, s4⟩ := HT.out.five
          obtain ⟨r0, r1, r2, r3, r4⟩ := HB.out.five
          have z0 := HB.out.f
          go_wp2_with (fail)
          obtain ⟨q0, q1, q2, q3, q4⟩ := (HB.out.st (.int .u64 sr) (.slice ka kn kc) (.slice va vn vc) (.slice ta tn tc) (.bool scl)).five
          refine bodyPost_ret (v := .tuple #[sv sr ⟨ka, kn, kc⟩ ⟨va, vn, vc⟩ ⟨ta, tn, tc⟩ scl, .bool true]) (by simp [results, Tryz.results26, go_sem, q0, q1, q2, q3, q4]) rfl ?_
          exact ⟨HX.out.put5 (by omega) sr ⟨ka, kn, kc⟩ ⟨va, vn, vc⟩ ⟨ta, tn, tc⟩ scl, ⟨ka, kn, kc⟩, ⟨va, vn, vc⟩, ⟨ta, tn, tc⟩, rfl, ss_put5 HS.out HO.out sr ⟨ka, kn, kc⟩ ⟨va, vn, vc⟩ ⟨ta, tn, tc⟩ scl⟩
        | false =>
          rw [if_neg (by simp)] at hsf
          subst hsf
          clear hR ho hr HOf HSf hR3 HS HO
          dsimp only
          go_wp2_with (fail)
          refine HTo.out.mono ?_
          rintro e w4 ⟨rfl, q, rfl⟩
          clear HTo
          have HX := Lib.hid (X0.out.drewN q)
          replace HB := Lib.hid (HB.out.ext (Ext.draws w3 q))
          clear X0 s0 s1 s2 s3 s4 r0 r1 r2 r3 r4 z0 HT
          generalize w3.drewN q = w5 at *
          obtain ⟨r0, r1, r2, r3, r4⟩ := HB.out.five
          have z0 := HB.out.f
          go_wp2_with (fail)
          obtain ⟨q0, q1, q2, q3, q4⟩ := (HB.out.st (.int .u64 0) (.slice none 0 0) (.slice none 0 0) (.slice none 0 0) (.bool false)).five
          refine bodyPost_ret (v := .tuple #[sv 0 nilSl nilSl nilSl false, .bool false]) (by simp [results, Tryz.results26, go_sem, q0, q1, q2, q3, q4]) rfl ?_
          exact ⟨HX.out.put5 (by omega) 0 nilSl nilSl nilSl false, nilSl, nilSl, nilSl, rfl, ss_zero _⟩
      · have ho := HOf.out
        rw [if_neg hR] at ho
        rw [ho] at hR3 ⊢
        have hsf := HSf.out
        rw [if_neg (fun c => hR c.1)] at hsf
        subst hsf
        clear hR ho HOf HSf hR3 HS HO HT
        dsimp only
        go_wp2_with (fail)
        obtain ⟨q0, q1, q2, q3, q4⟩ := (HB.out.st (.int .u64 0) (.slice none 0 0) (.slice none 0 0) (.slice none 0 0) (.bool false)).five
        refine bodyPost_ret (v := .tuple #[sv 0 nilSl nilSl nilSl false, .bool false]) (by simp [results, Tryz.results26, go_sem, q0, q1, q2, q3, q4]) rfl ?_
        exact ⟨X0.out.put5 (by omega) 0 nilSl nilSl nilSl false, nilSl, nilSl, nilSl, rfl, ss_zero _⟩
    · obtain rfl : n = 0 := by omega
      have hse : seenF k p m l = (zeroS, false) := by
        unfold seenF; rw [if_neg (fun c => c.2.1 (List.eq_nil_of_length_eq_zero hll))]
      generalize seenF k p m l = sf at *
      subst hse
      obtain ⟨r0, r1, r2, r3, r4⟩ := HB.out.five
      clear hf hf' hl hll h0 HR
      dsimp only [cf, bx, sb, sc, nilSl] at *
      go_enter Tryz.func26, Tryz.ntmps26
      go_wp2_with (fail)
      refine (HF.out _).mono ?_
      rintro e w1 ⟨rfl, e1⟩
      replace X0 := Lib.hid (X0.out.trans e1)
      replace HB := Lib.hid (HB.out.ext e1)
      clear HF e1 c0 c1 c2 HC r0 r1 r2 r3 r4
      obtain ⟨r0, r1, r2, r3, r4⟩ := HB.out.five
      have z0 := HB.out.f
      go_wp2_with (fail)
      obtain ⟨q0, q1, q2, q3, q4⟩ := (HB.out.st (.int .u64 0) (.slice none 0 0) (.slice none 0 0) (.slice none 0 0) (.bool false)).five
      refine bodyPost_ret (v := .tuple #[sv 0 nilSl nilSl nilSl false, .bool false]) (by simp [results, Tryz.results26, go_sem, q0, q1, q2, q3, q4]) rfl ?_
      exact ⟨X0.out.put5 (by omega) 0 nilSl nilSl nilSl false, nilSl, nilSl, nilSl, rfl, ss_zero _⟩
  · have hse : seenF k p m l = (zeroS, false) := by
      unfold seenF; rw [if_neg (fun c => hf c.1)]
    have hf' : Reg.fits k p m = false := Bool.eq_false_iff.2 hf
    rw [hf'] at HF
    generalize seenF k p m l = sf at *
    subst hse
    clear hf hf' hl hll HR
    dsimp only [cf, bx, sb, sc, nilSl] at *
    go_enter Tryz.func26, Tryz.ntmps26
    go_wp2_with (fail)
    refine (HF.out _).mono ?_
    rintro e w1 ⟨rfl, e1⟩
    replace X0 := Lib.hid (X0.out.trans e1)
    replace HB := Lib.hid (HB.out.ext e1)
    clear HF e1 c0 c1 c2 HC
    obtain ⟨r0, r1, r2, r3, r4⟩ := HB.out.five
    have z0 := HB.out.f
    go_wp2_with (fail)
    obtain ⟨q0, q1, q2, q3, q4⟩ := (HB.out.st (.int .u64 0) (.slice none 0 0) (.slice none 0 0) (.slice none 0 0) (.bool false)).five
    refine bodyPost_ret (v := .tuple #[sv 0 nilSl nilSl nilSl false, .bool false]) (by simp [results, Tryz.results26, go_sem, q0, q1, q2, q3, q4]) rfl ?_
    exact ⟨X0.out.put5 (by omega) 0 nilSl nilSl nilSl false, nilSl, nilSl, nilSl, rfl, ss_zero _⟩

end Go.Proofs.YtdipddnnckfnmaaGreat.Lan

/- LawTells:
  AutoTells: the walk. Conditions: integers' bounds; the raw calls, the state's lists and the answers can be read.
-/
namespace Go.Proofs.YtdipddnnckfnmaaGreat.Law
open Go.RowKit (Below intOf)
open Go.Proofs.YtdipddnnckfnmaaGreat.Aut
open Go.Proofs.YtdipddnnckfnmaaGreat.Lan (DoE DoE2 opv ov do_all do_all2 new_any right_any reads_is out_any seen_any probe_any rout_any rseen_any rprobe_any AE OuE)
open Go.Proofs.YtdipddnnckfnmaaGreat.Reg (cf bx fits_any)

theorem tconf_fits (a b c : Int) : fits (1 + pickZ a 5) (1 + pickZ b 16) (1 + pickZ c 12) = true := by
  have a0 := pick_ge a (n := 5) (by decide)
  have a1 := pick_lt a (n := 5) (by decide)
  have b0 := pick_ge b (n := 16) (by decide)
  have b1 := pick_lt b (n := 16) (by decide)
  have c0 := pick_ge c (n := 12) (by decide)
  have c1 := pick_lt c (n := 12) (by decide)
  unfold fits Reg.fits
  simp
  omega
/-- A short list out of what there is at each place. -/
theorem WL.short {w : World} {sl : Option Addr} {n c : Nat} (h : WL w sl n c) (hn : n ≤ 20) : ∃ xs, WS w sl n c xs := by
  obtain ⟨xs, hl, hx⟩ := list_of (fun i (x : Int) => U64 x ∧ ∃ b o, sl = some ⟨b, o, none⟩ ∧ w.cell? ⟨b, o + i, none⟩ = some (.int .u64 x)) n (fun i hi => by obtain ⟨x, b, o, h1, h2, h3⟩ := h.2.2 i hi; exact ⟨x, h1, b, o, h2, h3⟩)
  exact ⟨xs, hl, by omega, h.1, h.2.1, hx⟩
theorem NL.short {w : World} {sl : Option Addr} {n c : Nat} (h : NL w sl n c) (hn : n ≤ 20) : ∃ xs, NS w sl n c xs := by
  obtain ⟨xs, hl, hx⟩ := list_of (fun i (x : Int) => I64 x ∧ ∃ b o, sl = some ⟨b, o, none⟩ ∧ w.cell? ⟨b, o + i, none⟩ = some (.int .i64 x)) n (fun i hi => by obtain ⟨x, b, o, h1, h2, h3⟩ := h.2.2 i hi; exact ⟨x, h1, b, o, h2, h3⟩)
  exact ⟨xs, hl, by omega, h.1, h.2.1, hx⟩
theorem RL.short {w : World} {sl : Option Addr} {n c j : Nat} (h : RL w sl n c) (hj : j ≤ n) (h30 : j ≤ 30) : ∃ xs, RS w sl j c xs := by
  obtain ⟨xs, hl, hx⟩ := list_of (fun i (x : Rs) => Ir x ∧ ∃ b o, sl = some ⟨b, o, none⟩ ∧ w.cell? ⟨b, o + i * 2, none⟩ = some (.int .i64 x.1) ∧ w.cell? ⟨b, o + i * 2 + 1, none⟩ = some (.int .u64 x.2)) j (fun i hi => by obtain ⟨x, b, o, h1, h2, h3⟩ := h.2.2 i (by omega); exact ⟨x, h1, b, o, h2, h3⟩)
  exact ⟨xs, hl, by omega, by have := h.1; omega, h.2.1, hx⟩
theorem WL.ext {w w' : World} {sl : Option Addr} {n c : Nat} (h : WL w sl n c) (e : Ext w w') : WL w' sl n c := ⟨h.1, h.2.1, fun i hi => by obtain ⟨x, b, o, h1, h2, h3⟩ := h.2.2 i hi; exact ⟨x, b, o, h1, h2, e.cell h3⟩⟩
theorem NL.ext {w w' : World} {sl : Option Addr} {n c : Nat} (h : NL w sl n c) (e : Ext w w') : NL w' sl n c := ⟨h.1, h.2.1, fun i hi => by obtain ⟨x, b, o, h1, h2, h3⟩ := h.2.2 i hi; exact ⟨x, b, o, h1, h2, e.cell h3⟩⟩
theorem RL.ext {w w' : World} {sl : Option Addr} {n c : Nat} (h : RL w sl n c) (e : Ext w w') : RL w' sl n c := ⟨h.1, h.2.1, fun i hi => by obtain ⟨x, b, o, h1, h2, h3, h4⟩ := h.2.2 i hi; exact ⟨x, b, o, h1, h2, e.cell h3, e.cell h4⟩⟩
/-- One of two, of three. -/
theorem el_conf {W : World} {B : Nat} {k p m q1 q2 q3 : Int} (h : Cb W B [.int .i64 k, .int .i64 p, .int .i64 m, .int .i64 q1, .int .i64 q2, .int .i64 q3]) (hm : I64 m) (hq : I64 q3) {i : Nat} (hi : i < 2) :
    ∃ x y z : Int, I64 z ∧ W.cell? ⟨B, i * 3, none⟩ = some (.int .i64 x) ∧ W.cell? ⟨B, i * 3 + 1, none⟩ = some (.int .i64 y) ∧ W.cell? ⟨B, i * 3 + 2, none⟩ = some (.int .i64 z) := by
  rcases (by omega : i = 0 ∨ i = 1) with rfl | rfl
  · exact ⟨k, p, m, hm, h.c 0 _ rfl, h.c 1 _ rfl, h.c 2 _ rfl⟩
  · exact ⟨q1, q2, q3, hq, h.c 3 _ rfl, h.c 4 _ rfl, h.c 5 _ rfl⟩
theorem el_op {W : World} {B : Nat} {a b c x y z : Int} (h : Cb W B [.int .i64 a, .int .u64 b, .int .u64 c, .int .i64 x, .int .u64 y, .int .u64 z]) (hm : Wc ⟨a, b, c⟩) (hq : Wc ⟨x, y, z⟩) {i : Nat} (hi : i < 2) :
    ∃ xc xk xv : Int, Wc ⟨xc, xk, xv⟩ ∧ W.cell? ⟨B, i * 3, none⟩ = some (.int .i64 xc) ∧ W.cell? ⟨B, i * 3 + 1, none⟩ = some (.int .u64 xk) ∧ W.cell? ⟨B, i * 3 + 2, none⟩ = some (.int .u64 xv) := by
  rcases (by omega : i = 0 ∨ i = 1) with rfl | rfl
  · exact ⟨a, b, c, hm, h.c 0 _ rfl, h.c 1 _ rfl, h.c 2 _ rfl⟩
  · exact ⟨x, y, z, hq, h.c 3 _ rfl, h.c 4 _ rfl, h.c 5 _ rfl⟩
theorem el_state {W : World} {B : Nat} {r r' : Int} {a b t a' b' t' : Sl} {cl cl' : Bool} {s s' : St} (h : Cb W B (sc r a b t cl ++ sc r' a' b' t' cl')) (hs : SS W a b t s) (hs' : SS W a' b' t' s') (e1 : s.reg = r) (e2 : s.closed = cl) (e3 : s'.reg = r') (e4 : s'.closed = cl') {i : Nat} (hi : i < 2) :
    ∃ (d : St) (x y z : Sl), SS W x y z d ∧ W.cell? ⟨B, i * 5, none⟩ = some (.int .u64 d.reg) ∧ W.cell? ⟨B, i * 5 + 1, none⟩ = some (.slice x.a x.n x.c) ∧ W.cell? ⟨B, i * 5 + 2, none⟩ = some (.slice y.a y.n y.c) ∧ W.cell? ⟨B, i * 5 + 3, none⟩ = some (.slice z.a z.n z.c) ∧ W.cell? ⟨B, i * 5 + 4, none⟩ = some (.bool d.closed) := by
  subst e1; subst e2; subst e3; subst e4
  rcases (by omega : i = 0 ∨ i = 1) with rfl | rfl
  · exact ⟨s, a, b, t, hs, h.c 0 _ rfl, h.c 1 _ rfl, h.c 2 _ rfl, h.c 3 _ rfl, h.c 4 _ rfl⟩
  · exact ⟨s', a', b', t', hs', h.c 5 _ rfl, h.c 6 _ rfl, h.c 7 _ rfl, h.c 8 _ rfl, h.c 9 _ rfl⟩
theorem el_list {W : World} {B : Nat} {x1 x2 x3 : Option Addr} {m1 m2 m3 y1 y2 y3 : Nat} {L1 L2 L3 : List Rs} (h : Cb W B [.slice x1 m1 y1, .slice x2 m2 y2, .slice x3 m3 y3]) (h1 : RS W x1 m1 y1 L1) (h2 : RS W x2 m2 y2 L2) (h3 : RS W x3 m3 y3 L3) {i : Nat} (hi : i < 3) :
    ∃ (sl : Option Addr) (n c : Nat) (l : List Rs), RS W sl n c l ∧ W.cell? ⟨B, i, none⟩ = some (.slice sl n c) := by
  rcases (by omega : i = 0 ∨ i = 1 ∨ i = 2) with rfl | rfl | rfl
  · exact ⟨x1, m1, y1, L1, h1, h.c 0 _ rfl⟩
  · exact ⟨x2, m2, y2, L2, h2, h.c 1 _ rfl⟩
  · exact ⟨x3, m3, y3, L3, h3, h.c 2 _ rfl⟩
/-- Boxes that are apart. -/
structure TD (w : World) (B18 B19 B9 B11 B12 B14 : Nat) : Prop where
  a1 : B18 ≠ B11
  a2 : B18 ≠ B9
  a3 : B19 ≠ B11
  a4 : B19 ≠ B9
  a5 : B12 ≠ B11
  a6 : B12 ≠ B9
  a7 : B14 ≠ B11
  a8 : B14 ≠ B9
  a9 : B11 ≠ B9
  b1 : w.heap.size ≤ B11
  b2 : w.heap.size ≤ B9
/-- A state and a configuration are written over others. -/
abbrev putC (W : World) (B : Nat) (k p m : Int) : World := ((W.setCell ⟨B, 0, none⟩ (.int .i64 k)).setCell ⟨B, 1, none⟩ (.int .i64 p)).setCell ⟨B, 2, none⟩ (.int .i64 m)
theorem cb_far5 {W : World} {b B : Nat} {cs : List Value} (h : Cb W b cs) (hne : b ≠ B) (r : Int) (k v t : Sl) (cl : Bool) : Cb (put5 W B r k v t cl) b cs := ((((h.far hne _ _).far hne _ _).far hne _ _).far hne _ _).far hne _ _
theorem cb_far3 {W : World} {b B : Nat} {cs : List Value} (h : Cb W b cs) (hne : b ≠ B) (k p m : Int) : Cb (putC W B k p m) b cs := ((h.far hne _ _).far hne _ _).far hne _ _
theorem ss_put5 {W : World} {k v t : Sl} {s : St} (h : SS W k v t s) {B : Nat} (hb : OffS k v t B) (r : Int) (a b c : Sl) (cl : Bool) : SS (put5 W B r a b c cl) k v t s := ((((h.set hb _ _).set hb _ _).set hb _ _).set hb _ _).set hb _ _
theorem ss_put3 {W : World} {k v t : Sl} {s : St} (h : SS W k v t s) {B : Nat} (hb : OffS k v t B) (x y z : Int) : SS (putC W B x y z) k v t s := ((h.set hb _ _).set hb _ _).set hb _ _
theorem ext_put3 {a W : World} (h : Ext a W) {B : Nat} (hB : a.heap.size ≤ B) (x y z : Int) : Ext a (putC W B x y z) := ((h.setCell hB _).setCell hB _).setCell hB _
theorem cb_put3 {W : World} {B : Nat} {x y z : Value} (h : Cb W B [x, y, z]) (k p m : Int) : Cb (putC W B k p m) B [.int .i64 k, .int .i64 p, .int .i64 m] := ((h.upd (i := 0) (by simp) (.int .i64 k)).upd (i := 1) (by simp) (.int .i64 p)).upd (i := 2) (by simp) (.int .i64 m)
set_option maxHeartbeats 16000000 in
set_option maxRecDepth 100000 in
theorem tells_walk (a0 b0 c0' p1 p2 p3 ar0 a4 b4 c4' v oc ok ol : Int) (s1 : Option Addr) (n1 c1' : Nat) (ka0 : Option Addr) (kn0 kc0 : Nat) (va0 : Option Addr) (vn0 vc0 : Nat) (ta0 : Option Addr) (tn0 tc0 : Nat) (acl0 : Bool) (ls : Option Addr) (ln lc : Nat) (w : World)
    (ha : I64 a0) (hb : I64 b0) (hc : I64 c0') (hp3 : I64 p3) (hT : TS w s1 n1) (har : U64 ar0) (hk : WL w ka0 kn0 kc0) (hv0 : WL w va0 vn0 vc0) (ht : NL w ta0 tn0 tc0) (ha4 : I64 a4) (hb4 : I64 b4) (hc4 : I64 c4') (hv : U64 v) (hoc : I64 oc) (hok : U64 ok) (hol : U64 ol) (hl : RL w ls ln lc) :
    Calls Tryz.prog 3 #[.agg #[.int .i64 a0, .int .i64 b0, .int .i64 c0'], .agg #[.int .i64 p1, .int .i64 p2, .int .i64 p3], .slice s1 n1 c1', sv ar0 ⟨ka0, kn0, kc0⟩ ⟨va0, vn0, vc0⟩ ⟨ta0, tn0, tc0⟩ acl0, .agg #[.int .i64 a4, .int .i64 b4, .int .i64 c4'], .int .u64 v, .agg #[.int .i64 oc, .int .u64 ok, .int .u64 ol], .slice ls ln lc] w fun e w' => e = .returned (.bool true) ∧ Ext w w' := by
  have HAw := Lib.hid (fun W => awake_any do_all W)
  have HCo := Lib.hid (fun W => conf_any a0 b0 c0' W ha hb hc)
  have hfit := tconf_fits a0 b0 c0'
  generalize 1 + pickZ a0 5 = k at *
  generalize 1 + pickZ b0 16 = p at *
  generalize 1 + pickZ c0' 12 = m at *
  have HF := Lib.hid hfit
  have HT := Lib.hid hT
  have HU := Lib.hid hv
  have Hp3 := Lib.hid hp3
  have HAr := Lib.hid (And.intro har (And.intro hk (And.intro hv0 ht)))
  have H4 := Lib.hid (And.intro ha4 (And.intro hb4 hc4))
  have HWo := Lib.hid (show Wc ⟨oc, ok, ol⟩ from ⟨hoc, hok, hol⟩)
  have HL0 := Lib.hid hl
  obtain ⟨W0, hW0⟩ : ∃ W0, W0 = ((((w.alloc (.cells #[.int .i64 a0, .int .i64 b0, .int .i64 c0'] 22)).alloc (.cells #[.int .i64 p1, .int .i64 p2, .int .i64 p3] 24)).alloc (.cells #[.int .u64 ar0, .slice ka0 kn0 kc0, .slice va0 vn0 vc0, .slice ta0 tn0 tc0, .bool acl0] 30)).alloc (.cells #[.int .i64 a4, .int .i64 b4, .int .i64 c4'] 22)).alloc (.cells #[.int .i64 oc, .int .u64 ok, .int .u64 ol] 32) := ⟨_, rfl⟩
  have HN := Lib.hid (show Cb W0 w.heap.size [.int .i64 a0, .int .i64 b0, .int .i64 c0'] from hW0 ▸ (by repeat (first | ((with_reducible refine Cb.at _ rfl ?_); (simp; done)) | with_reducible refine Cb.alloc ?_ _)))
  have HQ := Lib.hid (show Cb W0 (w.heap.size + 1) [.int .i64 p1, .int .i64 p2, .int .i64 p3] from hW0 ▸ (by repeat (first | ((with_reducible refine Cb.at _ rfl ?_); (simp; done)) | with_reducible refine Cb.alloc ?_ _)))
  have HAb := Lib.hid (show Cb W0 (w.heap.size + 1 + 1) [.int .u64 ar0, .slice ka0 kn0 kc0, .slice va0 vn0 vc0, .slice ta0 tn0 tc0, .bool acl0] from hW0 ▸ (by repeat (first | ((with_reducible refine Cb.at _ rfl ?_); (simp; done)) | with_reducible refine Cb.alloc ?_ _)))
  have HK := Lib.hid (show Cb W0 (w.heap.size + 1 + 1 + 1) [.int .i64 a4, .int .i64 b4, .int .i64 c4'] from hW0 ▸ (by repeat (first | ((with_reducible refine Cb.at _ rfl ?_); (simp; done)) | with_reducible refine Cb.alloc ?_ _)))
  have HP := Lib.hid (show Cb W0 (w.heap.size + 1 + 1 + 1 + 1) [.int .i64 oc, .int .u64 ok, .int .u64 ol] from hW0 ▸ (by repeat (first | ((with_reducible refine Cb.at _ rfl ?_); (simp; done)) | with_reducible refine Cb.alloc ?_ _)))
  have HE := Lib.hid (show Ext w W0 from hW0 ▸ ((((Ext.new w _).alloc _).alloc _).alloc _).alloc _)
  subst hW0
  clear hfit hT hv hp3 har hk hv0 ht ha4 hb4 hc4 hoc hok hol hl ha hb hc
  dsimp only [sv] at *
  go_enter Tryz.func3, Tryz.ntmps3
  go_wp2_with (fail)
  refine (HAw.out _).mono ?_
  rintro e w1 ⟨rfl, e1⟩
  replace HN := Lib.hid (HN.out.ext e1)
  replace HE := Lib.hid (HE.out.trans e1)
  replace HQ := Lib.hid (HQ.out.ext e1)
  replace HK := Lib.hid (HK.out.ext e1)
  replace HP := Lib.hid (HP.out.ext e1)
  replace HAb := Lib.hid (HAb.out.ext e1)
  clear HAw e1
  generalize hB14 : w.heap.size + 1 + 1 + 1 + 1 = B14 at *
  generalize hB12 : w.heap.size + 1 + 1 + 1 = B12 at *
  generalize hB11 : w.heap.size + 1 + 1 = B11 at *
  generalize hB9 : w.heap.size + 1 = B9 at *
  have HBs := Lib.hid (And.intro hB14 (And.intro hB12 (And.intro hB11 hB9)))
  clear hB14 hB12 hB11 hB9
  obtain ⟨i0, i1, i2⟩ := HN.out.three
  have hz0 := HP.out.lt
  go_wp2_with (fail)
  refine (HCo.out _).mono ?_
  rintro e w20 ⟨rfl, e20⟩
  clear i0 i1 i2
  have hz1 : B14 < w20.heap.size := Nat.lt_of_lt_of_le hz0 e20.size
  have hx20 := e20.alloc (.cells #[.int .i64 k, .int .i64 p, .int .i64 m] 24)
  replace HE := Lib.hid (HE.out.trans hx20)
  replace HQ := Lib.hid (HQ.out.ext hx20)
  replace HK := Lib.hid (HK.out.ext hx20)
  replace HP := Lib.hid (HP.out.ext hx20)
  replace HAb := Lib.hid (HAb.out.ext hx20)
  clear hx20 e20 hz0
  clear HCo HN
  try dsimp only [cf] at *
  have HC : RowKit.Hid (Cb (w20.alloc (.cells #[.int .i64 k, .int .i64 p, .int .i64 m] 24)) w20.heap.size [.int .i64 k, .int .i64 p, .int .i64 m]) := Lib.hid (Cb.new w20 _ _)
  have HSt := Lib.hid (state_any2 s1 n1 c1' (w20.alloc (.cells #[.int .i64 k, .int .i64 p, .int .i64 m] 24)) HF.out (HT.out.ext HE.out))
  try dsimp only [cf] at HSt
  obtain ⟨c0, c1, c2⟩ := HC.out.three
  go_wp2_with (fail)
  refine HSt.out.mono ?_
  rintro e w21 ⟨⟨sr, sk, su, sw, scl⟩, hR, ⟨ka, kn, kc⟩, ⟨va, vn, vc⟩, ⟨ta, tn, tc⟩, he, hS, e21, hO⟩
  try dsimp only [sv] at he
  subst he
  clear HSt c0 c1 c2
  have HR := Lib.hid hR
  have h11 := HAb.out.lt
  have h9 := HQ.out.lt
  have HO11 := Lib.hid (hO B11 h11)
  have HO9 := Lib.hid (hO B9 h9)
  have hz2 : w20.heap.size + 1 ≤ w21.heap.size := by have := e21.size; simpa using this
  have hx21 := e21.alloc (.cells #[.int .u64 sr, .slice ka kn kc, .slice va vn vc, .slice ta tn tc, .bool scl] 30)
  replace HE := Lib.hid (HE.out.trans hx21)
  replace HQ := Lib.hid (HQ.out.ext hx21)
  replace HK := Lib.hid (HK.out.ext hx21)
  replace HP := Lib.hid (HP.out.ext hx21)
  replace HAb := Lib.hid (HAb.out.ext hx21)
  replace HC := Lib.hid (HC.out.ext hx21)
  have HSb : RowKit.Hid (Cb (w21.alloc (.cells #[.int .u64 sr, .slice ka kn kc, .slice va vn vc, .slice ta tn tc, .bool scl] 30)) w21.heap.size [.int .u64 sr, .slice ka kn kc, .slice va vn vc, .slice ta tn tc, .bool scl]) := Lib.hid (Cb.new w21 _ _)
  have HSs : RowKit.Hid (SS (w21.alloc (.cells #[.int .u64 sr, .slice ka kn kc, .slice va vn vc, .slice ta tn tc, .bool scl] 30)) ⟨ka, kn, kc⟩ ⟨va, vn, vc⟩ ⟨ta, tn, tc⟩ ⟨sr, sk, su, sw, scl⟩) := Lib.hid (hS.ext (Ext.new w21 _))
  clear hx21 e21 hR hS hO h11 h9
  have HD := Lib.hid (show TD w w20.heap.size w21.heap.size B9 B11 B12 B14 from by
    obtain ⟨h1, h2, h3, h4⟩ := HBs.out
    constructor <;> omega)
  clear hz1 hz2 HBs
  obtain ⟨j0, j1, j2⟩ := HQ.out.three
  obtain ⟨g0, g1, g2, g3, g4⟩ := HAb.out.five
  obtain ⟨s0, s1', s2', s3, s4⟩ := HSb.out.five
  obtain ⟨c0, c1, c2⟩ := HC.out.three
  have za := HAb.out.f
  have zq := HQ.out.f
  go_upto_region 4 with (fail)
  go_cut [85] from 60 to 85 (fun v85 wx => ∃ bb : Bool, v85 = .bool bb ∧ RowKit.Hid (bb = false → kn0 ≤ 20 ∧ vn0 ≤ 20 ∧ tn0 ≤ 20) ∧ wx = w21.alloc (.cells #[.int .u64 sr, .slice ka kn kc, .slice va vn vc, .slice ta tn tc, .bool scl] 30))
  case first =>
    by_cases h20 : (20 : Int) < p3
    · by_cases h256 : p3 ≤ 256
      · go_wp2_with (fail)
        go_meet
        exact ⟨true, rfl, Lib.hid (fun h => by cases h), rfl⟩
      · by_cases hkn0 : (20 : Int) < kn0
        · go_wp2_with (fail)
          go_meet
          exact ⟨true, rfl, Lib.hid (fun h => by cases h), rfl⟩
        · by_cases hvn0 : (20 : Int) < vn0
          · go_wp2_with (fail)
            go_meet
            exact ⟨true, rfl, Lib.hid (fun h => by cases h), rfl⟩
          · by_cases htn0 : (20 : Int) < tn0
            · go_wp2_with (fail)
              go_meet
              exact ⟨true, rfl, Lib.hid (fun h => by cases h), rfl⟩
            · have hle : kn0 ≤ 20 ∧ vn0 ≤ 20 ∧ tn0 ≤ 20 := by omega
              have Hle := Lib.hid hle
              clear hle
              go_wp2_with (fail)
              go_meet
              exact ⟨false, rfl, Lib.hid (fun _ => Hle.out), rfl⟩
    · by_cases hkn0 : (20 : Int) < kn0
      · go_wp2_with (fail)
        go_meet
        exact ⟨true, rfl, Lib.hid (fun h => by cases h), rfl⟩
      · by_cases hvn0 : (20 : Int) < vn0
        · go_wp2_with (fail)
          go_meet
          exact ⟨true, rfl, Lib.hid (fun h => by cases h), rfl⟩
        · by_cases htn0 : (20 : Int) < tn0
          · go_wp2_with (fail)
            go_meet
            exact ⟨true, rfl, Lib.hid (fun h => by cases h), rfl⟩
          · have hle : kn0 ≤ 20 ∧ vn0 ≤ 20 ∧ tn0 ≤ 20 := by omega
            have Hle := Lib.hid hle
            clear hle
            go_wp2_with (fail)
            go_meet
            exact ⟨false, rfl, Lib.hid (fun _ => Hle.out), rfl⟩
  case rest =>
    obtain ⟨bb, rfl, hbb, rfl⟩ := hcut
    go_upto_if 85 with (fail)
    go_cut [87] from 86 to 87 (fun _ wx => ∃ (q1 q2 q3 ar : Int) (ka2 : Option Addr) (kn2 kc2 : Nat) (va2 : Option Addr) (vn2 vc2 : Nat) (ta2 : Option Addr) (tn2 tc2 : Nat) (acl : Bool) (ak au aw : List Int) (w4 : World), w4 = wx ∧ I64 q3 ∧ (Ext w w4) ∧ (Cb w4 w20.heap.size [.int .i64 k, .int .i64 p, .int .i64 m]) ∧ (Cb w4 B9 [.int .i64 q1, .int .i64 q2, .int .i64 q3]) ∧ (Cb w4 B12 [.int .i64 a4, .int .i64 b4, .int .i64 c4']) ∧ (Cb w4 B14 [.int .i64 oc, .int .u64 ok, .int .u64 ol]) ∧ (Cb w4 w21.heap.size [.int .u64 sr, .slice ka kn kc, .slice va vn vc, .slice ta tn tc, .bool scl]) ∧ (SS w4 ⟨ka, kn, kc⟩ ⟨va, vn, vc⟩ ⟨ta, tn, tc⟩ ⟨sr, sk, su, sw, scl⟩) ∧ (Cb w4 B11 [.int .u64 ar, .slice ka2 kn2 kc2, .slice va2 vn2 vc2, .slice ta2 tn2 tc2, .bool acl]) ∧ (SS w4 ⟨ka2, kn2, kc2⟩ ⟨va2, vn2, vc2⟩ ⟨ta2, tn2, tc2⟩ ⟨ar, ak, au, aw, acl⟩))
    case first =>
      cases bb with
      | true =>
        go_upto_region 6 with (fail)
        have k0 := Lib.hid (HE.out.put5 HD.out.b1 sr ⟨ka, kn, kc⟩ ⟨va, vn, vc⟩ ⟨ta, tn, tc⟩ scl)
        have k1 := Lib.hid (cb_far5 HC.out HD.out.a1 sr ⟨ka, kn, kc⟩ ⟨va, vn, vc⟩ ⟨ta, tn, tc⟩ scl)
        have k2 := Lib.hid (cb_far5 HQ.out (Ne.symm HD.out.a9) sr ⟨ka, kn, kc⟩ ⟨va, vn, vc⟩ ⟨ta, tn, tc⟩ scl)
        have k3 := Lib.hid (cb_far5 HK.out HD.out.a5 sr ⟨ka, kn, kc⟩ ⟨va, vn, vc⟩ ⟨ta, tn, tc⟩ scl)
        have k4 := Lib.hid (cb_far5 HP.out HD.out.a7 sr ⟨ka, kn, kc⟩ ⟨va, vn, vc⟩ ⟨ta, tn, tc⟩ scl)
        have k5 := Lib.hid (cb_far5 HSb.out HD.out.a3 sr ⟨ka, kn, kc⟩ ⟨va, vn, vc⟩ ⟨ta, tn, tc⟩ scl)
        have k6 := Lib.hid (ss_put5 HSs.out HO11.out sr ⟨ka, kn, kc⟩ ⟨va, vn, vc⟩ ⟨ta, tn, tc⟩ scl)
        have k7 := Lib.hid (HAb.out.st (.int .u64 sr) (.slice ka kn kc) (.slice va vn vc) (.slice ta tn tc) (.bool scl))
        dsimp only [put5] at k0 k1 k2 k3 k4 k5 k6
        generalize (((((w21.alloc (.cells #[.int .u64 sr, .slice ka kn kc, .slice va vn vc, .slice ta tn tc, .bool scl] 30)).setCell ⟨B11, 0, none⟩ (.int .u64 sr)).setCell ⟨B11, 1, none⟩ (.slice ka kn kc)).setCell ⟨B11, 2, none⟩ (.slice va vn vc)).setCell ⟨B11, 3, none⟩ (.slice ta tn tc)).setCell ⟨B11, 4, none⟩ (.bool scl) = W5 at k0 k1 k2 k3 k4 k5 k6 k7 ⊢
        clear j0 j1 j2 g0 g1 g2 g3 g4 s0 s1' s2' s3 s4 c0 c1 c2 za zq
        obtain ⟨c0, c1, c2⟩ := k1.out.three
        obtain ⟨j0, j1, j2⟩ := k2.out.three
        have zq := k2.out.f
        go_wp2_with (fail)
        go_meet
        exact ⟨k, p, m, sr, ka, kn, kc, va, vn, vc, ta, tn, tc, scl, sk, su, sw, _, rfl, (by have := fits_of HF.out; unfold I64; omega), ext_put3 k0.out HD.out.b2 k p m, cb_far3 k1.out HD.out.a2 k p m, cb_put3 k2.out k p m, cb_far3 k3.out HD.out.a6 k p m, cb_far3 k4.out HD.out.a8 k p m, cb_far3 k5.out HD.out.a4 k p m, ss_put3 k6.out HO9.out k p m, cb_far3 k7.out HD.out.a9 k p m, ss_put3 k6.out HO9.out k p m⟩
      | false =>
        have hle := hbb.out rfl
        obtain ⟨ak, h1⟩ := WL.short (HAr.out.2.1.ext HE.out) hle.1
        obtain ⟨au, h2⟩ := WL.short (HAr.out.2.2.1.ext HE.out) hle.2.1
        obtain ⟨aw, h3⟩ := NL.short (HAr.out.2.2.2.ext HE.out) hle.2.2
        have HWs := Lib.hid (And.intro h1 (And.intro h2 h3))
        clear h1 h2 h3 hle
        go_wp2_with (fail)
        go_meet
        exact ⟨p1, p2, p3, ar0, ka0, kn0, kc0, va0, vn0, vc0, ta0, tn0, tc0, acl0, ak, au, aw, _, rfl, Hp3.out, HE.out, HC.out, HQ.out, HK.out, HP.out, HSb.out, HSs.out, HAb.out, ⟨HAr.out.1, HWs.out.1, HWs.out.2.1, HWs.out.2.2⟩⟩
    case rest =>
      obtain ⟨q1, q2, q3, ar, ka2, kn2, kc2, va2, vn2, vc2, ta2, tn2, tc2, acl, ak, au, aw, w4, rfl, hq3, f1, f2, f3, f4, f5, f6, f7, f8, f9⟩ := hcut
      clear hbb HE HC HQ HK HP HSb HSs HAb HO11 HO9 HD HAr Hp3 j0 j1 j2 g0 g1 g2 g3 g4 s0 s1' s2' s3 s4 c0 c1 c2 za zq
      have HE := Lib.hid f1
      have HC := Lib.hid f2
      have HQ := Lib.hid f3
      have HK := Lib.hid f4
      have HP := Lib.hid f5
      have HSb := Lib.hid f6
      have HSs := Lib.hid f7
      have HAb := Lib.hid f8
      have HAs := Lib.hid f9
      have Hq3 := Lib.hid hq3
      clear hq3 f1 f2 f3 f4 f5 f6 f7 f8 f9
      generalize w20.heap.size = B18 at *
      generalize w21.heap.size = B19 at *
      obtain ⟨L1, hL1⟩ := RL.short (j := min ln 30) (HL0.out.ext HE.out) (by omega) (by omega)
      have hlc := HL0.out.1
      have hlc2 := HL0.out.2.1
      have hmin : min (ln : Int) 30 = ((min ln 30 : Nat) : Int) := by omega
      have HL1 := Lib.hid hL1
      clear hL1
      obtain ⟨⟨L2, o2⟩, hof⟩ : ∃ q, outF k p m ⟨sr, sk, su, sw, scl⟩ = q := ⟨_, rfl⟩
      have HOut := Lib.hid (rout_any k p m ⟨ka, kn, kc⟩ ⟨va, vn, vc⟩ ⟨ta, tn, tc⟩ ⟨sr, sk, su, sw, scl⟩ w4 (by have := fits_of HF.out; unfold I64; omega) HSs.out)
      rw [hof] at HOut
      clear hof
      obtain ⟨c0, c1, c2⟩ := HC.out.three
      obtain ⟨s0, s1', s2', s3, s4⟩ := HSb.out.five
      try dsimp only [cf, sv] at HOut
      go_wp2_with (fail)
      refine HOut.out.mono ?_
      rintro e w5 ⟨⟨x2, m2, y2⟩, he, R2, e5⟩
      try dsimp only at he
      subst he
      clear HOut c0 c1 c2 s0 s1' s2' s3 s4
      replace HE := Lib.hid (HE.out.trans e5)
      replace HC := Lib.hid (HC.out.ext e5)
      replace HQ := Lib.hid (HQ.out.ext e5)
      replace HK := Lib.hid (HK.out.ext e5)
      replace HP := Lib.hid (HP.out.ext e5)
      replace HSb := Lib.hid (HSb.out.ext e5)
      replace HSs := Lib.hid (HSs.out.ext e5)
      replace HAb := Lib.hid (HAb.out.ext e5)
      replace HAs := Lib.hid (HAs.out.ext e5)
      replace HL1 := Lib.hid (HL1.out.ext e5)
      have HL2 : RowKit.Hid (RS w5 x2 m2 y2 L2) := Lib.hid R2
      clear e5 R2
      obtain ⟨k0, k1, k2⟩ := HK.out.three
      have hm2 := HL2.out.le
      have hy2 := HL2.out.lc
      have hpg := pick_ge a4 (n := (m2 : Int) + 1) (by omega)
      have hpl := pick_lt a4 (n := (m2 : Int) + 1) (by omega)
      have HPk := Lib.hid (fun W => pick_any a4 ((m2 : Int) + 1) W H4.out.1 (by omega))
      obtain ⟨m3, hm3⟩ : ∃ m3 : Nat, pickZ a4 ((m2 : Int) + 1) = (m3 : Int) := ⟨(pickZ a4 ((m2 : Int) + 1)).toNat, by omega⟩
      rw [hm3] at HPk hpl
      have hm3' : m3 ≤ m2 := by omega
      have hcap : (m3 : Int) ≤ y2 := by omega
      have hw1 : IntKind.i64.wrap ((m2 : Int) + 1) = (m2 : Int) + 1 := by simp only [IntKind.wrap_i64]; omega
      clear hm3 hpg hpl
      go_wp2_with (fail)
      refine (HPk.out _).mono ?_
      rintro e w6 ⟨rfl, rfl⟩
      have HL3 : RowKit.Hid (RS w5 x2 m3 y2 (L2.take m3)) := Lib.hid (HL2.out.take hm3')
      clear HPk k0 k1 k2
      obtain ⟨c0, c1, c2⟩ := HC.out.three
      obtain ⟨j0, j1, j2⟩ := HQ.out.three
      go_wp2_with (fail)
      clear c0 c1 c2 j0 j1 j2
      clear HQ
      have hxd := Ext.new w5 (.cells #[.int .i64 k, .int .i64 p, .int .i64 m, .int .i64 q1, .int .i64 q2, .int .i64 q3] 24)
      replace HE := Lib.hid (HE.out.trans hxd)
      replace HC := Lib.hid (HC.out.ext hxd)
      replace HK := Lib.hid (HK.out.ext hxd)
      replace HP := Lib.hid (HP.out.ext hxd)
      replace HSb := Lib.hid (HSb.out.ext hxd)
      replace HSs := Lib.hid (HSs.out.ext hxd)
      replace HAb := Lib.hid (HAb.out.ext hxd)
      replace HAs := Lib.hid (HAs.out.ext hxd)
      replace HL1 := Lib.hid (HL1.out.ext hxd)
      replace HL2 := Lib.hid (HL2.out.ext hxd)
      replace HL3 := Lib.hid (HL3.out.ext hxd)
      clear hxd
      have HDd := Lib.hid (show Cb (w5.alloc (.cells #[.int .i64 k, .int .i64 p, .int .i64 m, .int .i64 q1, .int .i64 q2, .int .i64 q3] 24)) w5.heap.size [.int .i64 k, .int .i64 p, .int .i64 m, .int .i64 q1, .int .i64 q2, .int .i64 q3] from Cb.new w5 _ _)
      generalize w5.heap.size = Bd at *
      go_loopw [111] (fun iv wr => ∃ i1 : Nat, iv = .int .i64 i1 ∧ i1 ≤ 2 ∧ (Ext w wr) ∧ (Cb wr B18 [.int .i64 k, .int .i64 p, .int .i64 m]) ∧ (Cb wr B12 [.int .i64 a4, .int .i64 b4, .int .i64 c4']) ∧ (Cb wr B14 [.int .i64 oc, .int .u64 ok, .int .u64 ol]) ∧ (Cb wr B19 [.int .u64 sr, .slice ka kn kc, .slice va vn vc, .slice ta tn tc, .bool scl]) ∧ (SS wr ⟨ka, kn, kc⟩ ⟨va, vn, vc⟩ ⟨ta, tn, tc⟩ ⟨sr, sk, su, sw, scl⟩) ∧ (Cb wr B11 [.int .u64 ar, .slice ka2 kn2 kc2, .slice va2 vn2 vc2, .slice ta2 tn2 tc2, .bool acl]) ∧ (SS wr ⟨ka2, kn2, kc2⟩ ⟨va2, vn2, vc2⟩ ⟨ta2, tn2, tc2⟩ ⟨ar, ak, au, aw, acl⟩) ∧ (RS wr ls (min ln 30) lc L1) ∧ (RS wr x2 m2 y2 L2) ∧ (RS wr x2 m3 y2 (L2.take m3)) ∧ (Cb wr Bd [.int .i64 k, .int .i64 p, .int .i64 m, .int .i64 q1, .int .i64 q2, .int .i64 q3])) (fun iv _ => 2 - (intOf iv).toNat)
      case atStart => exact ⟨0, rfl, by omega, HE.out, HC.out, HK.out, HP.out, HSb.out, HSs.out, HAb.out, HAs.out, HL1.out, HL2.out, HL3.out, HDd.out⟩
      case round =>
        obtain ⟨i1, rfl, hii1, g0, g1, g2, g3, g4, g5, g6, g7, g8, g9, g10, g11⟩ := hrel
        clear HE HC HK HP HSb HSs HAb HAs HL1 HL2 HL3 HDd
        have HE := Lib.hid g0
        have HC := Lib.hid g1
        have HK := Lib.hid g2
        have HP := Lib.hid g3
        have HSb := Lib.hid g4
        have HSs := Lib.hid g5
        have HAb := Lib.hid g6
        have HAs := Lib.hid g7
        have HL1 := Lib.hid g8
        have HL2 := Lib.hid g9
        have HL3 := Lib.hid g10
        have HDd := Lib.hid g11
        clear g0 g1 g2 g3 g4 g5 g6 g7 g8 g9 g10 g11
        by_cases hn1 : ¬ i1 < 2
        · have hlt : ¬ (i1 : Int) < 2 := by omega
          obtain ⟨k0, k1, k2⟩ := HK.out.three
          obtain ⟨o0, o1, o2'⟩ := HP.out.three
          have HR1 := Lib.hid (fun c W => Lan.reads_is c W)
          have HR2 := Lib.hid (fun c W => reads_any c W)
          have HPk := Lib.hid (fun W => pick_any a4 260 W H4.out.1 (by decide))
          go_wp2_with (fail)
          go_quiet (first
            | (go_at_call 27; exact (HR1.out _ _).mono fun _ _ h => ⟨h.1, _, h.2.symm⟩)
            | (go_at_call 28; exact (HR2.out _ _).mono fun _ _ h => ⟨h.1, _, h.2.symm⟩)
            | (go_at_call 12; exact (HPk.out _).mono fun _ _ h => ⟨h.1, _, h.2.symm⟩))
          go_wp2_with (fail)
          go_ret
          exact ⟨rfl, HE.out.drewN _⟩
        · have hlt1 : i1 < 2 := by omega
          have hlt2 : (i1 : Int) < 2 := by omega
          have hmm : I64 m := by have := fits_of HF.out; unfold I64; omega
          obtain ⟨x, y, z, hz, d0, d1, d2⟩ := el_conf HDd.out hmm Hq3.out hlt1
          have HZ := Lib.hid hz
          obtain ⟨⟨⟨nr, nk, nu, nw, ncl⟩, ne⟩, hns⟩ : ∃ q, newS x y z = q := ⟨_, rfl⟩
          have HNa := Lib.hid (fun W => new_any x y z W)
          have HNb := Lib.hid (fun W => rnew_any x y z W)
          rw [hns] at HNa HNb
          clear hz hmm hns hn1
          try dsimp only [cf] at HNa HNb
          have hxd := Ext.new wr (.cells #[.int .i64 x, .int .i64 y, .int .i64 z] 24)
          replace HE := Lib.hid (HE.out.trans hxd)
          replace HC := Lib.hid (HC.out.ext hxd)
          replace HK := Lib.hid (HK.out.ext hxd)
          replace HP := Lib.hid (HP.out.ext hxd)
          replace HSb := Lib.hid (HSb.out.ext hxd)
          replace HSs := Lib.hid (HSs.out.ext hxd)
          replace HAb := Lib.hid (HAb.out.ext hxd)
          replace HAs := Lib.hid (HAs.out.ext hxd)
          replace HL1 := Lib.hid (HL1.out.ext hxd)
          replace HL2 := Lib.hid (HL2.out.ext hxd)
          replace HL3 := Lib.hid (HL3.out.ext hxd)
          replace HDd := Lib.hid (HDd.out.ext hxd)
          clear hxd
          have HDb := Lib.hid (show Cb (wr.alloc (.cells #[.int .i64 x, .int .i64 y, .int .i64 z] 24)) wr.heap.size [.int .i64 x, .int .i64 y, .int .i64 z] from Cb.new wr _ _)
          go_wp2_with (fail)
          refine (HNa.out _).mono ?_
          rintro e w22 ⟨e22, ⟨ka5, kn5, kc5⟩, ⟨va5, vn5, vc5⟩, ⟨ta5, tn5, tc5⟩, he, S22⟩
          try dsimp only [sv, rv, opv, ov, cf] at he
          subst he
          clear d0 d1 d2
          have hx22 := (e22.alloc (.cells #[.int .u64 nr, .slice ka5 kn5 kc5, .slice va5 vn5 vc5, .slice ta5 tn5 tc5, .bool ncl] 30))
          replace HE := Lib.hid (HE.out.trans hx22)
          replace HC := Lib.hid (HC.out.ext hx22)
          replace HK := Lib.hid (HK.out.ext hx22)
          replace HP := Lib.hid (HP.out.ext hx22)
          replace HSb := Lib.hid (HSb.out.ext hx22)
          replace HSs := Lib.hid (HSs.out.ext hx22)
          replace HAb := Lib.hid (HAb.out.ext hx22)
          replace HAs := Lib.hid (HAs.out.ext hx22)
          replace HL1 := Lib.hid (HL1.out.ext hx22)
          replace HL2 := Lib.hid (HL2.out.ext hx22)
          replace HL3 := Lib.hid (HL3.out.ext hx22)
          replace HDd := Lib.hid (HDd.out.ext hx22)
          replace HDb := Lib.hid (HDb.out.ext hx22)
          clear hx22
          have HN1 := Lib.hid (show Cb (w22.alloc (.cells #[.int .u64 nr, .slice ka5 kn5 kc5, .slice va5 vn5 vc5, .slice ta5 tn5 tc5, .bool ncl] 30)) w22.heap.size [.int .u64 nr, .slice ka5 kn5 kc5, .slice va5 vn5 vc5, .slice ta5 tn5 tc5, .bool ncl] from Cb.new w22 _ _)
          have HN1s : RowKit.Hid (SS (w22.alloc (.cells #[.int .u64 nr, .slice ka5 kn5 kc5, .slice va5 vn5 vc5, .slice ta5 tn5 tc5, .bool ncl] 30)) ⟨ka5, kn5, kc5⟩ ⟨va5, vn5, vc5⟩ ⟨ta5, tn5, tc5⟩ ⟨nr, nk, nu, nw, ncl⟩) := Lib.hid (S22.ext (Ext.new w22 _))
          clear S22 e22
          obtain ⟨d0, d1, d2⟩ := HDb.out.three
          go_wp2_with (fail)
          refine (HNb.out _).mono ?_
          rintro e w23 ⟨e23, ⟨ka6, kn6, kc6⟩, ⟨va6, vn6, vc6⟩, ⟨ta6, tn6, tc6⟩, he, S23⟩
          try dsimp only [sv, rv, opv, ov, cf] at he
          subst he
          clear d0 d1 d2
          have hx23 := (e23.alloc (.cells #[.int .u64 nr, .slice ka6 kn6 kc6, .slice va6 vn6 vc6, .slice ta6 tn6 tc6, .bool ncl] 30))
          replace HE := Lib.hid (HE.out.trans hx23)
          replace HC := Lib.hid (HC.out.ext hx23)
          replace HK := Lib.hid (HK.out.ext hx23)
          replace HP := Lib.hid (HP.out.ext hx23)
          replace HSb := Lib.hid (HSb.out.ext hx23)
          replace HSs := Lib.hid (HSs.out.ext hx23)
          replace HAb := Lib.hid (HAb.out.ext hx23)
          replace HAs := Lib.hid (HAs.out.ext hx23)
          replace HL1 := Lib.hid (HL1.out.ext hx23)
          replace HL2 := Lib.hid (HL2.out.ext hx23)
          replace HL3 := Lib.hid (HL3.out.ext hx23)
          replace HDd := Lib.hid (HDd.out.ext hx23)
          replace HDb := Lib.hid (HDb.out.ext hx23)
          replace HN1 := Lib.hid (HN1.out.ext hx23)
          replace HN1s := Lib.hid (HN1s.out.ext hx23)
          clear hx23
          have HN2 := Lib.hid (show Cb (w23.alloc (.cells #[.int .u64 nr, .slice ka6 kn6 kc6, .slice va6 vn6 vc6, .slice ta6 tn6 tc6, .bool ncl] 30)) w23.heap.size [.int .u64 nr, .slice ka6 kn6 kc6, .slice va6 vn6 vc6, .slice ta6 tn6 tc6, .bool ncl] from Cb.new w23 _ _)
          have HN2s : RowKit.Hid (SS (w23.alloc (.cells #[.int .u64 nr, .slice ka6 kn6 kc6, .slice va6 vn6 vc6, .slice ta6 tn6 tc6, .bool ncl] 30)) ⟨ka6, kn6, kc6⟩ ⟨va6, vn6, vc6⟩ ⟨ta6, tn6, tc6⟩ ⟨nr, nk, nu, nw, ncl⟩) := Lib.hid (S23.ext (Ext.new w23 _))
          clear S23 e23 HNa HNb
          obtain ⟨s0, s1', s2', s3, s4⟩ := HN1.out.five
          obtain ⟨u0, u1, u2, u3, u4⟩ := HN2.out.five
          have HSa := Lib.hid (same_any ⟨ka5, kn5, kc5⟩ ⟨va5, vn5, vc5⟩ ⟨ta5, tn5, tc5⟩ ⟨ka6, kn6, kc6⟩ ⟨va6, vn6, vc6⟩ ⟨ta6, tn6, tc6⟩ ⟨nr, nk, nu, nw, ncl⟩ ⟨nr, nk, nu, nw, ncl⟩ true _ HN1s.out HN2s.out (Lib.hid (by simp)))
          try dsimp only [sv] at HSa
          go_wp2_with (fail)
          refine (HSa.out).mono ?_
          rintro e w24 ⟨rfl, e24⟩
          clear s0 s1' s2' s3 s4 u0 u1 u2 u3 u4 HSa
          have hx24 := e24
          replace HE := Lib.hid (HE.out.trans hx24)
          replace HC := Lib.hid (HC.out.ext hx24)
          replace HK := Lib.hid (HK.out.ext hx24)
          replace HP := Lib.hid (HP.out.ext hx24)
          replace HSb := Lib.hid (HSb.out.ext hx24)
          replace HSs := Lib.hid (HSs.out.ext hx24)
          replace HAb := Lib.hid (HAb.out.ext hx24)
          replace HAs := Lib.hid (HAs.out.ext hx24)
          replace HL1 := Lib.hid (HL1.out.ext hx24)
          replace HL2 := Lib.hid (HL2.out.ext hx24)
          replace HL3 := Lib.hid (HL3.out.ext hx24)
          replace HDd := Lib.hid (HDd.out.ext hx24)
          replace HDb := Lib.hid (HDb.out.ext hx24)
          replace HN1 := Lib.hid (HN1.out.ext hx24)
          replace HN1s := Lib.hid (HN1s.out.ext hx24)
          replace HN2 := Lib.hid (HN2.out.ext hx24)
          replace HN2s := Lib.hid (HN2s.out.ext hx24)
          clear hx24
          clear HN1 HN1s HN2 HN2s
          clear e24
          obtain ⟨s0, s1', s2', s3, s4⟩ := HSb.out.five
          obtain ⟨u0, u1, u2, u3, u4⟩ := HAb.out.five
          go_wp2_with (fail)
          clear s0 s1' s2' s3 s4 u0 u1 u2 u3 u4
          have hxd := Ext.new w24 (.cells #[.int .u64 sr, .slice ka kn kc, .slice va vn vc, .slice ta tn tc, .bool scl, .int .u64 ar, .slice ka2 kn2 kc2, .slice va2 vn2 vc2, .slice ta2 tn2 tc2, .bool acl] 30)
          replace HE := Lib.hid (HE.out.trans hxd)
          replace HC := Lib.hid (HC.out.ext hxd)
          replace HK := Lib.hid (HK.out.ext hxd)
          replace HP := Lib.hid (HP.out.ext hxd)
          replace HSb := Lib.hid (HSb.out.ext hxd)
          replace HSs := Lib.hid (HSs.out.ext hxd)
          replace HAb := Lib.hid (HAb.out.ext hxd)
          replace HAs := Lib.hid (HAs.out.ext hxd)
          replace HL1 := Lib.hid (HL1.out.ext hxd)
          replace HL2 := Lib.hid (HL2.out.ext hxd)
          replace HL3 := Lib.hid (HL3.out.ext hxd)
          replace HDd := Lib.hid (HDd.out.ext hxd)
          replace HDb := Lib.hid (HDb.out.ext hxd)
          clear hxd
          have HSl := Lib.hid (show Cb (w24.alloc (.cells #[.int .u64 sr, .slice ka kn kc, .slice va vn vc, .slice ta tn tc, .bool scl, .int .u64 ar, .slice ka2 kn2 kc2, .slice va2 vn2 vc2, .slice ta2 tn2 tc2, .bool acl] 30)) w24.heap.size [.int .u64 sr, .slice ka kn kc, .slice va vn vc, .slice ta tn tc, .bool scl, .int .u64 ar, .slice ka2 kn2 kc2, .slice va2 vn2 vc2, .slice ta2 tn2 tc2, .bool acl] from Cb.new w24 _ _)
          generalize w24.heap.size = Bl at *
          generalize wr.heap.size = B25 at *
          go_loopw [138] (fun iv wr => ∃ i2 : Nat, iv = .int .i64 i2 ∧ i2 ≤ 2 ∧ (Ext w wr) ∧ (Cb wr B18 [.int .i64 k, .int .i64 p, .int .i64 m]) ∧ (Cb wr B12 [.int .i64 a4, .int .i64 b4, .int .i64 c4']) ∧ (Cb wr B14 [.int .i64 oc, .int .u64 ok, .int .u64 ol]) ∧ (Cb wr B19 [.int .u64 sr, .slice ka kn kc, .slice va vn vc, .slice ta tn tc, .bool scl]) ∧ (SS wr ⟨ka, kn, kc⟩ ⟨va, vn, vc⟩ ⟨ta, tn, tc⟩ ⟨sr, sk, su, sw, scl⟩) ∧ (Cb wr B11 [.int .u64 ar, .slice ka2 kn2 kc2, .slice va2 vn2 vc2, .slice ta2 tn2 tc2, .bool acl]) ∧ (SS wr ⟨ka2, kn2, kc2⟩ ⟨va2, vn2, vc2⟩ ⟨ta2, tn2, tc2⟩ ⟨ar, ak, au, aw, acl⟩) ∧ (RS wr ls (min ln 30) lc L1) ∧ (RS wr x2 m2 y2 L2) ∧ (RS wr x2 m3 y2 (L2.take m3)) ∧ (Cb wr Bd [.int .i64 k, .int .i64 p, .int .i64 m, .int .i64 q1, .int .i64 q2, .int .i64 q3]) ∧ (Cb wr B25 [.int .i64 x, .int .i64 y, .int .i64 z]) ∧ (Cb wr Bl [.int .u64 sr, .slice ka kn kc, .slice va vn vc, .slice ta tn tc, .bool scl, .int .u64 ar, .slice ka2 kn2 kc2, .slice va2 vn2 vc2, .slice ta2 tn2 tc2, .bool acl])) (fun iv _ => 2 - (intOf iv).toNat)
          case atStart => exact ⟨0, rfl, by omega, HE.out, HC.out, HK.out, HP.out, HSb.out, HSs.out, HAb.out, HAs.out, HL1.out, HL2.out, HL3.out, HDd.out, HDb.out, HSl.out⟩
          case round =>
            obtain ⟨i2, rfl, hii2, g0, g1, g2, g3, g4, g5, g6, g7, g8, g9, g10, g11, g12, g13⟩ := hrel
            clear HE HC HK HP HSb HSs HAb HAs HL1 HL2 HL3 HDd HDb HSl
            have HE := Lib.hid g0
            have HC := Lib.hid g1
            have HK := Lib.hid g2
            have HP := Lib.hid g3
            have HSb := Lib.hid g4
            have HSs := Lib.hid g5
            have HAb := Lib.hid g6
            have HAs := Lib.hid g7
            have HL1 := Lib.hid g8
            have HL2 := Lib.hid g9
            have HL3 := Lib.hid g10
            have HDd := Lib.hid g11
            have HDb := Lib.hid g12
            have HSl := Lib.hid g13
            clear g0 g1 g2 g3 g4 g5 g6 g7 g8 g9 g10 g11 g12 g13
            by_cases hn2 : i2 < 2
            · have hlt3 : (i2 : Int) < 2 := by omega
              obtain ⟨⟨tr, tk, tu, tw, tcl⟩, ⟨xa, xn, xc⟩, ⟨ya, yn, yc⟩, ⟨za, zn, zc⟩, hts, s0, s1', s2', s3, s4⟩ := el_state (a := ⟨ka, kn, kc⟩) (b := ⟨va, vn, vc⟩) (t := ⟨ta, tn, tc⟩) (a' := ⟨ka2, kn2, kc2⟩) (b' := ⟨va2, vn2, vc2⟩) (t' := ⟨ta2, tn2, tc2⟩) HSl.out HSs.out HAs.out rfl rfl rfl rfl hn2
              dsimp only at s0 s1' s2' s3 s4
              obtain ⟨⟨L5, o5⟩, hof⟩ : ∃ q, outF x y z ⟨tr, tk, tu, tw, tcl⟩ = q := ⟨_, rfl⟩
              obtain ⟨rb, hrb⟩ : ∃ q, rightS x y z ⟨tr, tk, tu, tw, tcl⟩ = q := ⟨_, rfl⟩
              have HOa : RowKit.Hid (∀ W, Ext wr W → _) := Lib.hid (fun W hE => out_any x y z ⟨xa, xn, xc⟩ ⟨ya, yn, yc⟩ ⟨za, zn, zc⟩ ⟨tr, tk, tu, tw, tcl⟩ W (hts.ext hE))
              have HOb : RowKit.Hid (∀ W, Ext wr W → _) := Lib.hid (fun W hE => rout_any x y z ⟨xa, xn, xc⟩ ⟨ya, yn, yc⟩ ⟨za, zn, zc⟩ ⟨tr, tk, tu, tw, tcl⟩ W HZ.out (hts.ext hE))
              have HRa : RowKit.Hid (∀ W, Ext wr W → _) := Lib.hid (fun W hE => right_any x y z ⟨xa, xn, xc⟩ ⟨ya, yn, yc⟩ ⟨za, zn, zc⟩ ⟨tr, tk, tu, tw, tcl⟩ W (hts.ext hE))
              have HRb : RowKit.Hid (∀ W, Ext wr W → _) := Lib.hid (fun W hE => rright_any x y z ⟨xa, xn, xc⟩ ⟨ya, yn, yc⟩ ⟨za, zn, zc⟩ ⟨tr, tk, tu, tw, tcl⟩ W HZ.out (hts.ext hE))
              have HDa : RowKit.Hid (∀ o W, Ext wr W → Wc o → _) := Lib.hid (fun o W hE ho => do_all2 x y z ⟨xa, xn, xc⟩ ⟨ya, yn, yc⟩ ⟨za, zn, zc⟩ ⟨tr, tk, tu, tw, tcl⟩ o W (hts.ext hE) ho)
              have HDc : RowKit.Hid (∀ o W, Ext wr W → Wc o → _) := Lib.hid (fun o W hE ho => rdo_any x y z ⟨xa, xn, xc⟩ ⟨ya, yn, yc⟩ ⟨za, zn, zc⟩ ⟨tr, tk, tu, tw, tcl⟩ o W HZ.out (hts.ext hE) ho)
              rw [hof] at HOa HOb
              rw [hrb] at HRa HRb
              have HTs := Lib.hid hts
              have HXr := Lib.hid (Ext.refl wr)
              clear hts hof hrb hn2
              try dsimp only [cf, sv, opv, ov] at HOa HOb HRa HRb HDa HDc
              have hxd := Ext.new wr (.cells #[.int .u64 tr, .slice xa xn xc, .slice ya yn yc, .slice za zn zc, .bool tcl] 30)
              replace HE := Lib.hid (HE.out.trans hxd)
              replace HC := Lib.hid (HC.out.ext hxd)
              replace HK := Lib.hid (HK.out.ext hxd)
              replace HP := Lib.hid (HP.out.ext hxd)
              replace HSb := Lib.hid (HSb.out.ext hxd)
              replace HSs := Lib.hid (HSs.out.ext hxd)
              replace HAb := Lib.hid (HAb.out.ext hxd)
              replace HAs := Lib.hid (HAs.out.ext hxd)
              replace HL1 := Lib.hid (HL1.out.ext hxd)
              replace HL2 := Lib.hid (HL2.out.ext hxd)
              replace HL3 := Lib.hid (HL3.out.ext hxd)
              replace HDd := Lib.hid (HDd.out.ext hxd)
              replace HDb := Lib.hid (HDb.out.ext hxd)
              replace HSl := Lib.hid (HSl.out.ext hxd)
              replace HXr := Lib.hid (HXr.out.trans hxd)
              replace HTs := Lib.hid (HTs.out.ext hxd)
              clear hxd
              have HTb := Lib.hid (show Cb (wr.alloc (.cells #[.int .u64 tr, .slice xa xn xc, .slice ya yn yc, .slice za zn zc, .bool tcl] 30)) wr.heap.size [.int .u64 tr, .slice xa xn xc, .slice ya yn yc, .slice za zn zc, .bool tcl] from Cb.new wr _ _)
              obtain ⟨d0, d1, d2⟩ := HDb.out.three
              go_wp2_with (fail)
              refine (HOa.out _ HXr.out).mono ?_
              rintro e w25 ⟨⟨fa, fn, fc⟩, he, R25, e25⟩
              try dsimp only [sv, rv, opv, ov, cf] at he
              subst he
              clear d0 d1 d2 s0 s1' s2' s3 s4
              have hx25 := e25
              replace HE := Lib.hid (HE.out.trans hx25)
              replace HC := Lib.hid (HC.out.ext hx25)
              replace HK := Lib.hid (HK.out.ext hx25)
              replace HP := Lib.hid (HP.out.ext hx25)
              replace HSb := Lib.hid (HSb.out.ext hx25)
              replace HSs := Lib.hid (HSs.out.ext hx25)
              replace HAb := Lib.hid (HAb.out.ext hx25)
              replace HAs := Lib.hid (HAs.out.ext hx25)
              replace HL1 := Lib.hid (HL1.out.ext hx25)
              replace HL2 := Lib.hid (HL2.out.ext hx25)
              replace HL3 := Lib.hid (HL3.out.ext hx25)
              replace HDd := Lib.hid (HDd.out.ext hx25)
              replace HDb := Lib.hid (HDb.out.ext hx25)
              replace HSl := Lib.hid (HSl.out.ext hx25)
              replace HTb := Lib.hid (HTb.out.ext hx25)
              replace HTs := Lib.hid (HTs.out.ext hx25)
              clear hx25
              replace HXr := Lib.hid (HXr.out.trans e25)
              have HL5 : RowKit.Hid (RS w25 fa fn fc L5) := Lib.hid (R25)
              clear e25 R25 HOa
              obtain ⟨d0, d1, d2⟩ := HDb.out.three
              obtain ⟨s0, s1', s2', s3, s4⟩ := HTb.out.five
              go_wp2_with (fail)
              refine (HOb.out _ HXr.out).mono ?_
              rintro e w26 ⟨⟨fa2, fn2, fc2⟩, he, R26, e26⟩
              try dsimp only [sv, rv, opv, ov, cf] at he
              subst he
              clear d0 d1 d2 s0 s1' s2' s3 s4
              have hx26 := e26
              replace HE := Lib.hid (HE.out.trans hx26)
              replace HC := Lib.hid (HC.out.ext hx26)
              replace HK := Lib.hid (HK.out.ext hx26)
              replace HP := Lib.hid (HP.out.ext hx26)
              replace HSb := Lib.hid (HSb.out.ext hx26)
              replace HSs := Lib.hid (HSs.out.ext hx26)
              replace HAb := Lib.hid (HAb.out.ext hx26)
              replace HAs := Lib.hid (HAs.out.ext hx26)
              replace HL1 := Lib.hid (HL1.out.ext hx26)
              replace HL2 := Lib.hid (HL2.out.ext hx26)
              replace HL3 := Lib.hid (HL3.out.ext hx26)
              replace HDd := Lib.hid (HDd.out.ext hx26)
              replace HDb := Lib.hid (HDb.out.ext hx26)
              replace HSl := Lib.hid (HSl.out.ext hx26)
              replace HTb := Lib.hid (HTb.out.ext hx26)
              replace HTs := Lib.hid (HTs.out.ext hx26)
              replace HL5 := Lib.hid (HL5.out.ext hx26)
              clear hx26
              replace HXr := Lib.hid (HXr.out.trans e26)
              have HL6 : RowKit.Hid (RS w26 fa2 fn2 fc2 L5) := Lib.hid (R26)
              clear e26 R26 HOb
              obtain ⟨d0, d1, d2⟩ := HDb.out.three
              obtain ⟨s0, s1', s2', s3, s4⟩ := HTb.out.five
              have HTo : RowKit.Hid (∀ W, Ext w26 W → Calls Tryz.prog 17 #[.slice fa fn fc, .slice fa2 fn2 fc2] W fun e w' => e = .returned (.bool true) ∧ Ext W w') := Lib.hid (fun W hE => (told_any fa fa2 fn fn2 fc fc2 L5 L5 true W (HL5.out.ext hE) (HL6.out.ext hE) (Lib.hid (by simp))).mono fun _ _ h => ⟨h.1, by obtain ⟨q, hq⟩ := h.2; rw [hq]; exact Ext.draws _ _⟩)
              go_upto_region 22 with (fail)
              refine wp_region_held_drew (S := fun w' => Ext w26 w') (by kernel_rfl) (Ext.drew (Ext.refl w26)) (fun hHeld => ?_)
              refine wpAnyH_take (i := 0) (v := .int .i64 o5) rfl (by kernel_rfl) (by kernel_rfl) (by kernel_rfl) (fun _ _ _ h => h) (Or.inl ⟨by kernel_rfl, ?_⟩) (by assumption) ?_
              · intro w hE
                go_simp
              refine wpAnyH_take (i := 1) (v := .int .i64 o5) rfl (by kernel_rfl) (by kernel_rfl) (by kernel_rfl) (fun _ _ _ h => h) (Or.inl ⟨by kernel_rfl, ?_⟩) (by assumption) ?_
              · intro w hE
                go_simp
              refine wpAnyH_take (i := 2) (v := .bool false) rfl (by kernel_rfl) (by kernel_rfl) (by kernel_rfl) (fun _ _ _ h => h) (Or.inl ⟨by kernel_rfl, ?_⟩) (by assumption) ?_
              · intro w hE
                go_simp
              refine wpAnyH_take (i := 3) (v := .bool false) rfl (by kernel_rfl) (by kernel_rfl) (by kernel_rfl) (fun _ _ _ h => h) (Or.inl ⟨by kernel_rfl, ?_⟩) (by assumption) ?_
              · intro w hE
                go_simp
              refine wpAnyH_take (i := 4) (v := .slice fa fn fc) rfl (by kernel_rfl) (by kernel_rfl) (by kernel_rfl) (fun _ _ _ h => h) (Or.inl ⟨by kernel_rfl, ?_⟩) (by assumption) ?_
              · intro w hE
                go_simp
              refine wpAnyH_take (i := 5) (v := .slice fa2 fn2 fc2) rfl (by kernel_rfl) (by kernel_rfl) (by kernel_rfl) (fun _ _ _ h => h) (Or.inl ⟨by kernel_rfl, ?_⟩) (by assumption) ?_
              · intro w hE
                go_simp
              refine wpAnyH_ready (rs := [6]) (by kernel_rfl) (by simp) ?_
              refine AllReadyH.cons rfl (fun K hK => ?_) AllReadyH.nil
              go_simp
              refine (HTo.out _ (by assumption)).mono ?_
              rintro e w6 ⟨rfl, e6⟩
              refine hK.out _ _ (Ext.trans (by assumption) e6) (fun hHeld => ?_)
              clear hK K
              refine wpAnyH_take (i := 7) (v := .bool false) rfl (by kernel_rfl) (by kernel_rfl) (by kernel_rfl) (fun _ _ _ h => h) (Or.inl ⟨by kernel_rfl, ?_⟩) (by assumption) ?_
              · intro w hE
                go_simp
              refine wpAnyH_take (i := 8) (v := .bool false) rfl (by kernel_rfl) (by kernel_rfl) (by kernel_rfl) (fun _ _ _ h => h) (Or.inl ⟨by kernel_rfl, ?_⟩) (by assumption) ?_
              · intro w hE
                go_simp
              refine wpAnyH_take (i := 9) (v := .bool false) rfl (by kernel_rfl) (by kernel_rfl) (by kernel_rfl) (fun _ _ _ h => h) (Or.inl ⟨by kernel_rfl, ?_⟩) (by assumption) ?_
              · intro w hE
                go_simp
              refine wpAnyH_take (i := 10) (v := .agg #[.int .i64 x, .int .i64 y, .int .i64 z]) rfl (by kernel_rfl) (by kernel_rfl) (by kernel_rfl) (fun _ _ _ h => h) (Or.inl ⟨by kernel_rfl, ?_⟩) (by assumption) ?_
              · intro w hE
                have q0 := hE.cell d0
                have q1 := hE.cell d1
                have q2 := hE.cell d2
                go_simp
              refine wpAnyH_take (i := 11) (v := .agg #[.int .u64 tr, .slice xa xn xc, .slice ya yn yc, .slice za zn zc, .bool tcl]) rfl (by kernel_rfl) (by kernel_rfl) (by kernel_rfl) (fun _ _ _ h => h) (Or.inl ⟨by kernel_rfl, ?_⟩) (by assumption) ?_
              · intro w hE
                have q0 := hE.cell s0
                have q1 := hE.cell s1'
                have q2 := hE.cell s2'
                have q3 := hE.cell s3
                have q4 := hE.cell s4
                go_simp
              refine wpAnyH_take (i := 13) (v := .agg #[.int .i64 x, .int .i64 y, .int .i64 z]) rfl (by kernel_rfl) (by kernel_rfl) (by kernel_rfl) (fun _ _ _ h => h) (Or.inl ⟨by kernel_rfl, ?_⟩) (by assumption) ?_
              · intro w hE
                have q0 := hE.cell d0
                have q1 := hE.cell d1
                have q2 := hE.cell d2
                go_simp
              refine wpAnyH_take (i := 14) (v := .agg #[.int .u64 tr, .slice xa xn xc, .slice ya yn yc, .slice za zn zc, .bool tcl]) rfl (by kernel_rfl) (by kernel_rfl) (by kernel_rfl) (fun _ _ _ h => h) (Or.inl ⟨by kernel_rfl, ?_⟩) (by assumption) ?_
              · intro w hE
                have q0 := hE.cell s0
                have q1 := hE.cell s1'
                have q2 := hE.cell s2'
                have q3 := hE.cell s3
                have q4 := hE.cell s4
                go_simp
              refine wpAnyH_ready (rs := [12]) (by kernel_rfl) (by simp) ?_
              refine AllReadyH.cons rfl (fun K hK => ?_) AllReadyH.nil
              go_simp
              refine (HRa.out _ (HXr.out.trans (by assumption))).mono ?_
              rintro e w7 ⟨rfl, e7⟩
              refine hK.out _ _ (Ext.trans (by assumption) e7) (fun hHeld => ?_)
              clear hK K
              refine wpAnyH_ready (rs := [15]) (by kernel_rfl) (by simp) ?_
              refine AllReadyH.cons rfl (fun K hK => ?_) AllReadyH.nil
              go_simp
              refine (HRb.out _ (HXr.out.trans (by assumption))).mono ?_
              rintro e w8 ⟨rfl, e8⟩
              refine hK.out _ _ (Ext.trans (by assumption) e8) (fun hHeld => ?_)
              clear hK K
              refine wpAnyH_take (i := 16) (v := .bool false) rfl (by kernel_rfl) (by kernel_rfl) (by kernel_rfl) (fun _ _ _ h => h) (Or.inl ⟨by kernel_rfl, ?_⟩) (by assumption) ?_
              · intro w hE
                go_simp
              refine wpAnyH_take (i := 17) (v := .bool false) rfl (by kernel_rfl) (by kernel_rfl) (by kernel_rfl) (fun _ _ _ h => h) (Or.inl ⟨by kernel_rfl, ?_⟩) (by assumption) ?_
              · intro w hE
                go_simp
              refine wpAnyH_done (by kernel_rfl) ?_ _
              go_simp
              clear d0 d1 d2 s0 s1' s2' s3 s4 HTo HRa HRb e6 e7 e8
              replace HE := Lib.hid (HE.out.trans hHeld)
              replace HC := Lib.hid (HC.out.ext hHeld)
              replace HK := Lib.hid (HK.out.ext hHeld)
              replace HP := Lib.hid (HP.out.ext hHeld)
              replace HSb := Lib.hid (HSb.out.ext hHeld)
              replace HSs := Lib.hid (HSs.out.ext hHeld)
              replace HAb := Lib.hid (HAb.out.ext hHeld)
              replace HAs := Lib.hid (HAs.out.ext hHeld)
              replace HL1 := Lib.hid (HL1.out.ext hHeld)
              replace HL2 := Lib.hid (HL2.out.ext hHeld)
              replace HL3 := Lib.hid (HL3.out.ext hHeld)
              replace HDd := Lib.hid (HDd.out.ext hHeld)
              replace HDb := Lib.hid (HDb.out.ext hHeld)
              replace HSl := Lib.hid (HSl.out.ext hHeld)
              replace HTb := Lib.hid (HTb.out.ext hHeld)
              replace HTs := Lib.hid (HTs.out.ext hHeld)
              replace HL5 := Lib.hid (HL5.out.ext hHeld)
              replace HL6 := Lib.hid (HL6.out.ext hHeld)
              replace HXr := Lib.hid (HXr.out.trans hHeld)
              clear hHeld
              clear HL5 HL6
              obtain ⟨o0, o1, o2'⟩ := HP.out.three
              obtain ⟨c0, c1, c2⟩ := HC.out.three
              obtain ⟨k0, k1, k2⟩ := HK.out.three
              have HOp := Lib.hid (fun W => op_any a4 b4 c4' v W HF.out H4.out.1 H4.out.2.1 H4.out.2.2 HU.out)
              try dsimp only [cf] at HOp
              go_upto_region 24 with (fail)
              refine wp_region_held_drew (S := fun w' => Ext w8 w') (by kernel_rfl) (Ext.drew (Ext.refl w8)) (fun hHeld => ?_)
              refine wpAnyH_take (i := 0) (v := .agg #[.int .i64 oc, .int .u64 ok, .int .u64 ol]) rfl (by kernel_rfl) (by kernel_rfl) (by kernel_rfl) (fun _ _ _ h => h) (Or.inl ⟨by kernel_rfl, ?_⟩) (by assumption) ?_
              · intro w hE
                have q0 := hE.cell o0
                have q1 := hE.cell o1
                have q2 := hE.cell o2'
                go_simp
              refine wpAnyH_take (i := 1) (v := .agg #[.int .i64 k, .int .i64 p, .int .i64 m]) rfl (by kernel_rfl) (by kernel_rfl) (by kernel_rfl) (fun _ _ _ h => h) (Or.inl ⟨by kernel_rfl, ?_⟩) (by assumption) ?_
              · intro w hE
                have q0 := hE.cell c0
                have q1 := hE.cell c1
                have q2 := hE.cell c2
                go_simp
              refine wpAnyH_take (i := 2) (v := .agg #[.int .i64 a4, .int .i64 b4, .int .i64 c4']) rfl (by kernel_rfl) (by kernel_rfl) (by kernel_rfl) (fun _ _ _ h => h) (Or.inl ⟨by kernel_rfl, ?_⟩) (by assumption) ?_
              · intro w hE
                have q0 := hE.cell k0
                have q1 := hE.cell k1
                have q2 := hE.cell k2
                go_simp
              refine wpAnyH_take (i := 3) (v := .int .u64 v) rfl (by kernel_rfl) (by kernel_rfl) (by kernel_rfl) (fun _ _ _ h => h) (Or.inl ⟨by kernel_rfl, ?_⟩) (by assumption) ?_
              · intro w hE
                go_simp
              refine wpAnyH_take (i := 7) (v := .int .i64 0) rfl (by kernel_rfl) (by kernel_rfl) (by kernel_rfl) (fun _ _ _ h => h) (Or.inl ⟨by kernel_rfl, ?_⟩) (by assumption) ?_
              · intro w hE
                go_simp
              refine wpAnyH_ready (rs := [4]) (by kernel_rfl) (by simp) ?_
              refine AllReadyH.cons rfl (fun K hK => ?_) AllReadyH.nil
              go_simp
              refine (HOp.out _).mono ?_
              rintro e w9 ⟨⟨zc', zk, zv⟩, ho, rfl, e9⟩
              refine hK.out _ _ (Ext.trans (by assumption) e9) (fun hHeld => ?_)
              clear hK K
              have HWx := Lib.hid ho
              clear ho HOp
              refine wpAnyH_ready (rs := [5]) (by kernel_rfl) (by simp) ?_
              refine AllReadyH.cons rfl (fun K hK => ?_) AllReadyH.nil
              go_simp
              refine hK.out _ _ (Ext.alloc (by assumption) _) (fun hHeld => ?_)
              clear hK K
              refine wpAnyH_take (i := 6) (v := .int .i64 2) rfl (by kernel_rfl) (by kernel_rfl) (by kernel_rfl) (fun _ _ _ h => h) (Or.inl ⟨by kernel_rfl, ?_⟩) (by assumption) ?_
              · intro w hE
                go_simp
              refine wpAnyH_done (by kernel_rfl) ?_ _
              go_simp
              clear o0 o1 o2' c0 c1 c2 k0 k1 k2 e9
              replace HE := Lib.hid (HE.out.trans hHeld)
              replace HC := Lib.hid (HC.out.ext hHeld)
              replace HK := Lib.hid (HK.out.ext hHeld)
              replace HP := Lib.hid (HP.out.ext hHeld)
              replace HSb := Lib.hid (HSb.out.ext hHeld)
              replace HSs := Lib.hid (HSs.out.ext hHeld)
              replace HAb := Lib.hid (HAb.out.ext hHeld)
              replace HAs := Lib.hid (HAs.out.ext hHeld)
              replace HL1 := Lib.hid (HL1.out.ext hHeld)
              replace HL2 := Lib.hid (HL2.out.ext hHeld)
              replace HL3 := Lib.hid (HL3.out.ext hHeld)
              replace HDd := Lib.hid (HDd.out.ext hHeld)
              replace HDb := Lib.hid (HDb.out.ext hHeld)
              replace HSl := Lib.hid (HSl.out.ext hHeld)
              replace HTb := Lib.hid (HTb.out.ext hHeld)
              replace HTs := Lib.hid (HTs.out.ext hHeld)
              replace HXr := Lib.hid (HXr.out.trans hHeld)
              clear hHeld
              have HOs := Lib.hid (show Cb (w9.alloc (.cells #[.int .i64 oc, .int .u64 ok, .int .u64 ol, .int .i64 zc', .int .u64 zk, .int .u64 zv] 32)) w9.heap.size [.int .i64 oc, .int .u64 ok, .int .u64 ol, .int .i64 zc', .int .u64 zk, .int .u64 zv] from Cb.new w9 _ _)
              obtain ⟨wr0, hwr0⟩ : ∃ W, W = wr := ⟨_, rfl⟩
              generalize w9.heap.size = Bo at *
              generalize wr.heap.size = B31 at *
              clear hwr0 wr0
              have HDa2 : RowKit.Hid (∀ o W, Ext (w9.alloc (.cells #[.int .i64 oc, .int .u64 ok, .int .u64 ol, .int .i64 zc', .int .u64 zk, .int .u64 zv] 32)) W → Wc o → _) := Lib.hid (fun o W hE ho => HDa.out o W (HXr.out.trans hE) ho)
              have HDc2 : RowKit.Hid (∀ o W, Ext (w9.alloc (.cells #[.int .i64 oc, .int .u64 ok, .int .u64 ol, .int .i64 zc', .int .u64 zk, .int .u64 zv] 32)) W → Wc o → _) := Lib.hid (fun o W hE ho => HDc.out o W (HXr.out.trans hE) ho)
              clear HDa HDc HXr
              have HYr := Lib.hid (Ext.refl (w9.alloc (.cells #[.int .i64 oc, .int .u64 ok, .int .u64 ol, .int .i64 zc', .int .u64 zk, .int .u64 zv] 32)))
              generalize w9.alloc (.cells #[.int .i64 oc, .int .u64 ok, .int .u64 ol, .int .i64 zc', .int .u64 zk, .int .u64 zv] 32) = w10 at *
              go_wp2_with (fail)
              go_loopw [179] (fun iv wr => ∃ i3 : Nat, iv = .int .i64 i3 ∧ i3 ≤ 2 ∧ (Ext w wr) ∧ (Cb wr B18 [.int .i64 k, .int .i64 p, .int .i64 m]) ∧ (Cb wr B12 [.int .i64 a4, .int .i64 b4, .int .i64 c4']) ∧ (Cb wr B14 [.int .i64 oc, .int .u64 ok, .int .u64 ol]) ∧ (Cb wr B19 [.int .u64 sr, .slice ka kn kc, .slice va vn vc, .slice ta tn tc, .bool scl]) ∧ (SS wr ⟨ka, kn, kc⟩ ⟨va, vn, vc⟩ ⟨ta, tn, tc⟩ ⟨sr, sk, su, sw, scl⟩) ∧ (Cb wr B11 [.int .u64 ar, .slice ka2 kn2 kc2, .slice va2 vn2 vc2, .slice ta2 tn2 tc2, .bool acl]) ∧ (SS wr ⟨ka2, kn2, kc2⟩ ⟨va2, vn2, vc2⟩ ⟨ta2, tn2, tc2⟩ ⟨ar, ak, au, aw, acl⟩) ∧ (RS wr ls (min ln 30) lc L1) ∧ (RS wr x2 m2 y2 L2) ∧ (RS wr x2 m3 y2 (L2.take m3)) ∧ (Cb wr Bd [.int .i64 k, .int .i64 p, .int .i64 m, .int .i64 q1, .int .i64 q2, .int .i64 q3]) ∧ (Cb wr B25 [.int .i64 x, .int .i64 y, .int .i64 z]) ∧ (Cb wr Bl [.int .u64 sr, .slice ka kn kc, .slice va vn vc, .slice ta tn tc, .bool scl, .int .u64 ar, .slice ka2 kn2 kc2, .slice va2 vn2 vc2, .slice ta2 tn2 tc2, .bool acl]) ∧ (Cb wr B31 [.int .u64 tr, .slice xa xn xc, .slice ya yn yc, .slice za zn zc, .bool tcl]) ∧ (SS wr ⟨xa, xn, xc⟩ ⟨ya, yn, yc⟩ ⟨za, zn, zc⟩ ⟨tr, tk, tu, tw, tcl⟩) ∧ (Cb wr Bo [.int .i64 oc, .int .u64 ok, .int .u64 ol, .int .i64 zc', .int .u64 zk, .int .u64 zv]) ∧ (Ext w10 wr)) (fun iv _ => 2 - (intOf iv).toNat)
              case atStart => exact ⟨0, rfl, by omega, HE.out, HC.out, HK.out, HP.out, HSb.out, HSs.out, HAb.out, HAs.out, HL1.out, HL2.out, HL3.out, HDd.out, HDb.out, HSl.out, HTb.out, HTs.out, HOs.out, HYr.out⟩
              case round =>
                obtain ⟨i3, rfl, hii3, g0, g1, g2, g3, g4, g5, g6, g7, g8, g9, g10, g11, g12, g13, g14, g15, g16, g17⟩ := hrel
                clear HE HC HK HP HSb HSs HAb HAs HL1 HL2 HL3 HDd HDb HSl HTb HTs HOs HYr
                have HE := Lib.hid g0
                have HC := Lib.hid g1
                have HK := Lib.hid g2
                have HP := Lib.hid g3
                have HSb := Lib.hid g4
                have HSs := Lib.hid g5
                have HAb := Lib.hid g6
                have HAs := Lib.hid g7
                have HL1 := Lib.hid g8
                have HL2 := Lib.hid g9
                have HL3 := Lib.hid g10
                have HDd := Lib.hid g11
                have HDb := Lib.hid g12
                have HSl := Lib.hid g13
                have HTb := Lib.hid g14
                have HTs := Lib.hid g15
                have HOs := Lib.hid g16
                have HYr := Lib.hid g17
                clear g0 g1 g2 g3 g4 g5 g6 g7 g8 g9 g10 g11 g12 g13 g14 g15 g16 g17
                by_cases hn3 : i3 < 2
                · have hlt4 : (i3 : Int) < 2 := by omega
                  obtain ⟨uc, uk, uv, huc, q0, q1', q2'⟩ := el_op HOs.out HWo.out HWx.out hn3
                  obtain ⟨⟨⟨dr, dk, du, dw, dcl⟩, ⟨d2, d3⟩, d4⟩, hdo⟩ : ∃ q, doF x y z ⟨tr, tk, tu, tw, tcl⟩ ⟨uc, uk, uv⟩ = q := ⟨_, rfl⟩
                  have HD1 : RowKit.Hid (∀ W, Ext w10 W → _) := Lib.hid (fun W hE => HDa2.out ⟨uc, uk, uv⟩ W hE huc)
                  have HD2 : RowKit.Hid (∀ W, Ext w10 W → _) := Lib.hid (fun W hE => HDc2.out ⟨uc, uk, uv⟩ W hE huc)
                  rw [hdo] at HD1 HD2
                  clear huc hdo hn3
                  try dsimp only [cf, sv, opv, ov] at HD1 HD2
                  have hxd := Ext.new wr (.cells #[.int .i64 uc, .int .u64 uk, .int .u64 uv] 32)
                  replace HE := Lib.hid (HE.out.trans hxd)
                  replace HC := Lib.hid (HC.out.ext hxd)
                  replace HK := Lib.hid (HK.out.ext hxd)
                  replace HP := Lib.hid (HP.out.ext hxd)
                  replace HSb := Lib.hid (HSb.out.ext hxd)
                  replace HSs := Lib.hid (HSs.out.ext hxd)
                  replace HAb := Lib.hid (HAb.out.ext hxd)
                  replace HAs := Lib.hid (HAs.out.ext hxd)
                  replace HL1 := Lib.hid (HL1.out.ext hxd)
                  replace HL2 := Lib.hid (HL2.out.ext hxd)
                  replace HL3 := Lib.hid (HL3.out.ext hxd)
                  replace HDd := Lib.hid (HDd.out.ext hxd)
                  replace HDb := Lib.hid (HDb.out.ext hxd)
                  replace HSl := Lib.hid (HSl.out.ext hxd)
                  replace HTb := Lib.hid (HTb.out.ext hxd)
                  replace HTs := Lib.hid (HTs.out.ext hxd)
                  replace HOs := Lib.hid (HOs.out.ext hxd)
                  replace HYr := Lib.hid (HYr.out.trans hxd)
                  clear hxd
                  have HUb := Lib.hid (show Cb (wr.alloc (.cells #[.int .i64 uc, .int .u64 uk, .int .u64 uv] 32)) wr.heap.size [.int .i64 uc, .int .u64 uk, .int .u64 uv] from Cb.new wr _ _)
                  obtain ⟨d0, d1, d2'⟩ := HDb.out.three
                  obtain ⟨s0, s1', s2', s3, s4⟩ := HTb.out.five
                  go_wp2_with (fail)
                  refine (HD1.out _ HYr.out).mono ?_
                  rintro e w27 ⟨e27, ⟨ka7, kn7, kc7⟩, ⟨va7, vn7, vc7⟩, ⟨ta7, tn7, tc7⟩, he, S27, O27⟩
                  try dsimp only [sv, rv, opv, ov, cf] at he
                  subst he
                  clear d0 d1 d2' s0 s1' s2' s3 s4 q0 q1' q2' HD1
                  have hx27 := ((e27.alloc (.cells #[.int .u64 dr, .slice ka7 kn7 kc7, .slice va7 vn7 vc7, .slice ta7 tn7 tc7, .bool dcl] 30)).alloc (.cells #[.int .i64 d2, .int .u64 d3] 51))
                  replace HE := Lib.hid (HE.out.trans hx27)
                  replace HC := Lib.hid (HC.out.ext hx27)
                  replace HK := Lib.hid (HK.out.ext hx27)
                  replace HP := Lib.hid (HP.out.ext hx27)
                  replace HSb := Lib.hid (HSb.out.ext hx27)
                  replace HSs := Lib.hid (HSs.out.ext hx27)
                  replace HAb := Lib.hid (HAb.out.ext hx27)
                  replace HAs := Lib.hid (HAs.out.ext hx27)
                  replace HL1 := Lib.hid (HL1.out.ext hx27)
                  replace HL2 := Lib.hid (HL2.out.ext hx27)
                  replace HL3 := Lib.hid (HL3.out.ext hx27)
                  replace HDd := Lib.hid (HDd.out.ext hx27)
                  replace HDb := Lib.hid (HDb.out.ext hx27)
                  replace HSl := Lib.hid (HSl.out.ext hx27)
                  replace HTb := Lib.hid (HTb.out.ext hx27)
                  replace HTs := Lib.hid (HTs.out.ext hx27)
                  replace HOs := Lib.hid (HOs.out.ext hx27)
                  replace HYr := Lib.hid (HYr.out.trans hx27)
                  replace HUb := Lib.hid (HUb.out.ext hx27)
                  clear hx27
                  have HM1 := Lib.hid (show Cb ((w27.alloc (.cells #[.int .u64 dr, .slice ka7 kn7 kc7, .slice va7 vn7 vc7, .slice ta7 tn7 tc7, .bool dcl] 30)).alloc (.cells #[.int .i64 d2, .int .u64 d3] 51)) w27.heap.size [.int .u64 dr, .slice ka7 kn7 kc7, .slice va7 vn7 vc7, .slice ta7 tn7 tc7, .bool dcl] from (Cb.new w27 _ _).alloc _)
                  have HM2 := Lib.hid (show Cb ((w27.alloc (.cells #[.int .u64 dr, .slice ka7 kn7 kc7, .slice va7 vn7 vc7, .slice ta7 tn7 tc7, .bool dcl] 30)).alloc (.cells #[.int .i64 d2, .int .u64 d3] 51)) (w27.heap.size + 1) [.int .i64 d2, .int .u64 d3] from by have h := Cb.new (w27.alloc (.cells #[.int .u64 dr, .slice ka7 kn7 kc7, .slice va7 vn7 vc7, .slice ta7 tn7 tc7, .bool dcl] 30)) [.int .i64 d2, .int .u64 d3] 51; rwa [World.size_alloc] at h)
                  have HM3 : RowKit.Hid (SS ((w27.alloc (.cells #[.int .u64 dr, .slice ka7 kn7 kc7, .slice va7 vn7 vc7, .slice ta7 tn7 tc7, .bool dcl] 30)).alloc (.cells #[.int .i64 d2, .int .u64 d3] 51)) ⟨ka7, kn7, kc7⟩ ⟨va7, vn7, vc7⟩ ⟨ta7, tn7, tc7⟩ ⟨dr, dk, du, dw, dcl⟩) := Lib.hid (S27.ext ((Ext.new w27 _).alloc _))
                  clear S27 e27 O27
                  obtain ⟨d0, d1, d2'⟩ := HDb.out.three
                  obtain ⟨s0, s1', s2', s3, s4⟩ := HTb.out.five
                  obtain ⟨q0, q1', q2'⟩ := HUb.out.three
                  go_wp2_with (fail)
                  refine (HD2.out _ HYr.out).mono ?_
                  rintro e w28 ⟨e28, ⟨ka8, kn8, kc8⟩, ⟨va8, vn8, vc8⟩, ⟨ta8, tn8, tc8⟩, he, S28, O28⟩
                  try dsimp only [sv, rv, opv, ov, cf] at he
                  subst he
                  clear d0 d1 d2' s0 s1' s2' s3 s4 q0 q1' q2' HD2
                  have hx28 := ((e28.alloc (.cells #[.int .u64 dr, .slice ka8 kn8 kc8, .slice va8 vn8 vc8, .slice ta8 tn8 tc8, .bool dcl] 30)).alloc (.cells #[.int .i64 d2, .int .u64 d3] 51))
                  replace HE := Lib.hid (HE.out.trans hx28)
                  replace HC := Lib.hid (HC.out.ext hx28)
                  replace HK := Lib.hid (HK.out.ext hx28)
                  replace HP := Lib.hid (HP.out.ext hx28)
                  replace HSb := Lib.hid (HSb.out.ext hx28)
                  replace HSs := Lib.hid (HSs.out.ext hx28)
                  replace HAb := Lib.hid (HAb.out.ext hx28)
                  replace HAs := Lib.hid (HAs.out.ext hx28)
                  replace HL1 := Lib.hid (HL1.out.ext hx28)
                  replace HL2 := Lib.hid (HL2.out.ext hx28)
                  replace HL3 := Lib.hid (HL3.out.ext hx28)
                  replace HDd := Lib.hid (HDd.out.ext hx28)
                  replace HDb := Lib.hid (HDb.out.ext hx28)
                  replace HSl := Lib.hid (HSl.out.ext hx28)
                  replace HTb := Lib.hid (HTb.out.ext hx28)
                  replace HTs := Lib.hid (HTs.out.ext hx28)
                  replace HOs := Lib.hid (HOs.out.ext hx28)
                  replace HYr := Lib.hid (HYr.out.trans hx28)
                  replace HUb := Lib.hid (HUb.out.ext hx28)
                  replace HM1 := Lib.hid (HM1.out.ext hx28)
                  replace HM2 := Lib.hid (HM2.out.ext hx28)
                  replace HM3 := Lib.hid (HM3.out.ext hx28)
                  clear hx28
                  have HV1 := Lib.hid (show Cb ((w28.alloc (.cells #[.int .u64 dr, .slice ka8 kn8 kc8, .slice va8 vn8 vc8, .slice ta8 tn8 tc8, .bool dcl] 30)).alloc (.cells #[.int .i64 d2, .int .u64 d3] 51)) w28.heap.size [.int .u64 dr, .slice ka8 kn8 kc8, .slice va8 vn8 vc8, .slice ta8 tn8 tc8, .bool dcl] from (Cb.new w28 _ _).alloc _)
                  have HV2 := Lib.hid (show Cb ((w28.alloc (.cells #[.int .u64 dr, .slice ka8 kn8 kc8, .slice va8 vn8 vc8, .slice ta8 tn8 tc8, .bool dcl] 30)).alloc (.cells #[.int .i64 d2, .int .u64 d3] 51)) (w28.heap.size + 1) [.int .i64 d2, .int .u64 d3] from by have h := Cb.new (w28.alloc (.cells #[.int .u64 dr, .slice ka8 kn8 kc8, .slice va8 vn8 vc8, .slice ta8 tn8 tc8, .bool dcl] 30)) [.int .i64 d2, .int .u64 d3] 51; rwa [World.size_alloc] at h)
                  have HV3 : RowKit.Hid (SS ((w28.alloc (.cells #[.int .u64 dr, .slice ka8 kn8 kc8, .slice va8 vn8 vc8, .slice ta8 tn8 tc8, .bool dcl] 30)).alloc (.cells #[.int .i64 d2, .int .u64 d3] 51)) ⟨ka8, kn8, kc8⟩ ⟨va8, vn8, vc8⟩ ⟨ta8, tn8, tc8⟩ ⟨dr, dk, du, dw, dcl⟩) := Lib.hid (S28.ext ((Ext.new w28 _).alloc _))
                  clear S28 e28 O28
                  obtain ⟨s0, s1', s2', s3, s4⟩ := HM1.out.five
                  obtain ⟨u0, u1, u2, u3, u4⟩ := HV1.out.five
                  have HSa := Lib.hid (same_any ⟨ka7, kn7, kc7⟩ ⟨va7, vn7, vc7⟩ ⟨ta7, tn7, tc7⟩ ⟨ka8, kn8, kc8⟩ ⟨va8, vn8, vc8⟩ ⟨ta8, tn8, tc8⟩ ⟨dr, dk, du, dw, dcl⟩ ⟨dr, dk, du, dw, dcl⟩ true _ HM3.out HV3.out (Lib.hid (by simp)))
                  try dsimp only [sv] at HSa
                  go_wp2_with (fail)
                  refine (HSa.out).mono ?_
                  rintro e w29 ⟨rfl, e29⟩
                  clear s0 s1' s2' s3 s4 u0 u1 u2 u3 u4 HSa
                  have hx29 := e29
                  replace HE := Lib.hid (HE.out.trans hx29)
                  replace HC := Lib.hid (HC.out.ext hx29)
                  replace HK := Lib.hid (HK.out.ext hx29)
                  replace HP := Lib.hid (HP.out.ext hx29)
                  replace HSb := Lib.hid (HSb.out.ext hx29)
                  replace HSs := Lib.hid (HSs.out.ext hx29)
                  replace HAb := Lib.hid (HAb.out.ext hx29)
                  replace HAs := Lib.hid (HAs.out.ext hx29)
                  replace HL1 := Lib.hid (HL1.out.ext hx29)
                  replace HL2 := Lib.hid (HL2.out.ext hx29)
                  replace HL3 := Lib.hid (HL3.out.ext hx29)
                  replace HDd := Lib.hid (HDd.out.ext hx29)
                  replace HDb := Lib.hid (HDb.out.ext hx29)
                  replace HSl := Lib.hid (HSl.out.ext hx29)
                  replace HTb := Lib.hid (HTb.out.ext hx29)
                  replace HTs := Lib.hid (HTs.out.ext hx29)
                  replace HOs := Lib.hid (HOs.out.ext hx29)
                  replace HYr := Lib.hid (HYr.out.trans hx29)
                  replace HUb := Lib.hid (HUb.out.ext hx29)
                  replace HM1 := Lib.hid (HM1.out.ext hx29)
                  replace HM2 := Lib.hid (HM2.out.ext hx29)
                  replace HM3 := Lib.hid (HM3.out.ext hx29)
                  replace HV1 := Lib.hid (HV1.out.ext hx29)
                  replace HV2 := Lib.hid (HV2.out.ext hx29)
                  replace HV3 := Lib.hid (HV3.out.ext hx29)
                  clear hx29
                  clear e29
                  obtain ⟨r0, r1⟩ := HM2.out.two
                  obtain ⟨v0, v1⟩ := HV2.out.two
                  have q2 := eqR d2 d3 d2 d3
                  rw [beq_self_eq_true, beq_self_eq_true] at q2
                  clear HM1 HM3 HV1 HV3
                  go_wp2_with (fail)
                  clear r0 r1 v0 v1 q2 HM2 HV2
                  go_roundw
                  case rel => first | exact ⟨i3 + 1, by go_num, by omega, HE.out, HC.out, HK.out, HP.out, HSb.out, HSs.out, HAb.out, HAs.out, HL1.out, HL2.out, HL3.out, HDd.out, HDb.out, HSl.out, HTb.out, HTs.out, HOs.out, HYr.out⟩ | ((repeat apply Exists.intro); exact ⟨⟨i3 + 1, by go_num, by omega, HE.out, HC.out, HK.out, HP.out, HSb.out, HSs.out, HAb.out, HAs.out, HL1.out, HL2.out, HL3.out, HDd.out, HDb.out, HSl.out, HTb.out, HTs.out, HOs.out, HYr.out⟩, rfl⟩)
                  case measure => simp [intOf]; omega
                · have hlt4 : ¬ (i3 : Int) < 2 := by omega
                  go_wp2_with (fail)
                  go_roundw
                  case rel => first | exact ⟨i2 + 1, by go_num, by omega, HE.out, HC.out, HK.out, HP.out, HSb.out, HSs.out, HAb.out, HAs.out, HL1.out, HL2.out, HL3.out, HDd.out, HDb.out, HSl.out⟩ | ((repeat apply Exists.intro); exact ⟨⟨i2 + 1, by go_num, by omega, HE.out, HC.out, HK.out, HP.out, HSb.out, HSs.out, HAb.out, HAs.out, HL1.out, HL2.out, HL3.out, HDd.out, HDb.out, HSl.out⟩, rfl⟩)
                  case measure => simp [intOf]; omega
            · have hlt3 : ¬ (i2 : Int) < 2 := by omega
              go_wp2_with (fail)
              have hxd := Ext.new wr (.cells #[.slice ls (min ln 30) lc, .slice x2 m2 y2, .slice x2 m3 y2] 33)
              replace HE := Lib.hid (HE.out.trans hxd)
              replace HC := Lib.hid (HC.out.ext hxd)
              replace HK := Lib.hid (HK.out.ext hxd)
              replace HP := Lib.hid (HP.out.ext hxd)
              replace HSb := Lib.hid (HSb.out.ext hxd)
              replace HSs := Lib.hid (HSs.out.ext hxd)
              replace HAb := Lib.hid (HAb.out.ext hxd)
              replace HAs := Lib.hid (HAs.out.ext hxd)
              replace HL1 := Lib.hid (HL1.out.ext hxd)
              replace HL2 := Lib.hid (HL2.out.ext hxd)
              replace HL3 := Lib.hid (HL3.out.ext hxd)
              replace HDd := Lib.hid (HDd.out.ext hxd)
              replace HDb := Lib.hid (HDb.out.ext hxd)
              replace HSl := Lib.hid (HSl.out.ext hxd)
              clear hxd
              have HLs := Lib.hid (show Cb (wr.alloc (.cells #[.slice ls (min ln 30) lc, .slice x2 m2 y2, .slice x2 m3 y2] 33)) wr.heap.size [.slice ls (min ln 30) lc, .slice x2 m2 y2, .slice x2 m3 y2] from Cb.new wr _ _)
              generalize wr.heap.size = Bq at *
              go_loopw [220] (fun iv wr => ∃ i4 : Nat, iv = .int .i64 i4 ∧ i4 ≤ 3 ∧ (Ext w wr) ∧ (Cb wr B18 [.int .i64 k, .int .i64 p, .int .i64 m]) ∧ (Cb wr B12 [.int .i64 a4, .int .i64 b4, .int .i64 c4']) ∧ (Cb wr B14 [.int .i64 oc, .int .u64 ok, .int .u64 ol]) ∧ (Cb wr B19 [.int .u64 sr, .slice ka kn kc, .slice va vn vc, .slice ta tn tc, .bool scl]) ∧ (SS wr ⟨ka, kn, kc⟩ ⟨va, vn, vc⟩ ⟨ta, tn, tc⟩ ⟨sr, sk, su, sw, scl⟩) ∧ (Cb wr B11 [.int .u64 ar, .slice ka2 kn2 kc2, .slice va2 vn2 vc2, .slice ta2 tn2 tc2, .bool acl]) ∧ (SS wr ⟨ka2, kn2, kc2⟩ ⟨va2, vn2, vc2⟩ ⟨ta2, tn2, tc2⟩ ⟨ar, ak, au, aw, acl⟩) ∧ (RS wr ls (min ln 30) lc L1) ∧ (RS wr x2 m2 y2 L2) ∧ (RS wr x2 m3 y2 (L2.take m3)) ∧ (Cb wr Bd [.int .i64 k, .int .i64 p, .int .i64 m, .int .i64 q1, .int .i64 q2, .int .i64 q3]) ∧ (Cb wr B25 [.int .i64 x, .int .i64 y, .int .i64 z]) ∧ (Cb wr Bl [.int .u64 sr, .slice ka kn kc, .slice va vn vc, .slice ta tn tc, .bool scl, .int .u64 ar, .slice ka2 kn2 kc2, .slice va2 vn2 vc2, .slice ta2 tn2 tc2, .bool acl]) ∧ (Cb wr Bq [.slice ls (min ln 30) lc, .slice x2 m2 y2, .slice x2 m3 y2])) (fun iv _ => 3 - (intOf iv).toNat)
              case atStart => exact ⟨0, rfl, by omega, HE.out, HC.out, HK.out, HP.out, HSb.out, HSs.out, HAb.out, HAs.out, HL1.out, HL2.out, HL3.out, HDd.out, HDb.out, HSl.out, HLs.out⟩
              case round =>
                obtain ⟨i4, rfl, hii4, g0, g1, g2, g3, g4, g5, g6, g7, g8, g9, g10, g11, g12, g13, g14⟩ := hrel
                clear HE HC HK HP HSb HSs HAb HAs HL1 HL2 HL3 HDd HDb HSl HLs
                have HE := Lib.hid g0
                have HC := Lib.hid g1
                have HK := Lib.hid g2
                have HP := Lib.hid g3
                have HSb := Lib.hid g4
                have HSs := Lib.hid g5
                have HAb := Lib.hid g6
                have HAs := Lib.hid g7
                have HL1 := Lib.hid g8
                have HL2 := Lib.hid g9
                have HL3 := Lib.hid g10
                have HDd := Lib.hid g11
                have HDb := Lib.hid g12
                have HSl := Lib.hid g13
                have HLs := Lib.hid g14
                clear g0 g1 g2 g3 g4 g5 g6 g7 g8 g9 g10 g11 g12 g13 g14
                by_cases hn4 : i4 < 3
                · have hlt4 : (i4 : Int) < 3 := by omega
                  obtain ⟨lx, lm, ly, LL, hLL, q0⟩ := el_list HLs.out HL1.out HL2.out HL3.out hn4
                  obtain ⟨⟨⟨pc, pk, pv⟩, pb⟩, hpb⟩ : ∃ q, probeS x y z LL = q := ⟨_, rfl⟩
                  obtain ⟨⟨⟨er, ek, eu, ew, ecl⟩, eb⟩, heb⟩ : ∃ q, seenF x y z LL = q := ⟨_, rfl⟩
                  have HPa : RowKit.Hid (∀ W, Ext wr W → _) := Lib.hid (fun W hE => probe_any x y z lx lm ly LL W (hLL.ext hE))
                  have HPb : RowKit.Hid (∀ W, Ext wr W → _) := Lib.hid (fun W hE => rprobe_any x y z lx lm ly LL W (hLL.ext hE))
                  have HSa : RowKit.Hid (∀ W, Ext wr W → _) := Lib.hid (fun W hE => seen_any x y z lx lm ly LL W (hLL.ext hE))
                  have HSc : RowKit.Hid (∀ W, Ext wr W → _) := Lib.hid (fun W hE => rseen_any x y z lx lm ly LL W HZ.out (hLL.ext hE))
                  rw [hpb] at HPa HPb
                  rw [heb] at HSa HSc
                  clear hLL hpb heb hn4
                  try dsimp only [cf] at HPa HPb HSa HSc
                  have HYr := Lib.hid (Ext.refl wr)
                  obtain ⟨d0, d1, d2⟩ := HDb.out.three
                  go_wp2_with (fail)
                  refine (HPa.out _ HYr.out).mono ?_
                  rintro e w30 ⟨he, e30⟩
                  try dsimp only [sv, rv, opv, ov, cf] at he
                  subst he
                  clear d0 d1 d2 HPa q0
                  have hx30 := (e30.alloc (.cells #[.int .i64 pc, .int .u64 pk, .int .u64 pv] 32))
                  replace HE := Lib.hid (HE.out.trans hx30)
                  replace HC := Lib.hid (HC.out.ext hx30)
                  replace HK := Lib.hid (HK.out.ext hx30)
                  replace HP := Lib.hid (HP.out.ext hx30)
                  replace HSb := Lib.hid (HSb.out.ext hx30)
                  replace HSs := Lib.hid (HSs.out.ext hx30)
                  replace HAb := Lib.hid (HAb.out.ext hx30)
                  replace HAs := Lib.hid (HAs.out.ext hx30)
                  replace HL1 := Lib.hid (HL1.out.ext hx30)
                  replace HL2 := Lib.hid (HL2.out.ext hx30)
                  replace HL3 := Lib.hid (HL3.out.ext hx30)
                  replace HDd := Lib.hid (HDd.out.ext hx30)
                  replace HDb := Lib.hid (HDb.out.ext hx30)
                  replace HSl := Lib.hid (HSl.out.ext hx30)
                  replace HLs := Lib.hid (HLs.out.ext hx30)
                  replace HYr := Lib.hid (HYr.out.trans hx30)
                  clear hx30
                  have HG1 := Lib.hid (show Cb (w30.alloc (.cells #[.int .i64 pc, .int .u64 pk, .int .u64 pv] 32)) w30.heap.size [.int .i64 pc, .int .u64 pk, .int .u64 pv] from Cb.new w30 _ _)
                  clear e30
                  obtain ⟨d0, d1, d2⟩ := HDb.out.three
                  go_wp2_with (fail)
                  refine (HPb.out _ HYr.out).mono ?_
                  rintro e w31 ⟨he, e31⟩
                  try dsimp only [sv, rv, opv, ov, cf] at he
                  subst he
                  clear d0 d1 d2 HPb
                  have hx31 := (e31.alloc (.cells #[.int .i64 pc, .int .u64 pk, .int .u64 pv] 32))
                  replace HE := Lib.hid (HE.out.trans hx31)
                  replace HC := Lib.hid (HC.out.ext hx31)
                  replace HK := Lib.hid (HK.out.ext hx31)
                  replace HP := Lib.hid (HP.out.ext hx31)
                  replace HSb := Lib.hid (HSb.out.ext hx31)
                  replace HSs := Lib.hid (HSs.out.ext hx31)
                  replace HAb := Lib.hid (HAb.out.ext hx31)
                  replace HAs := Lib.hid (HAs.out.ext hx31)
                  replace HL1 := Lib.hid (HL1.out.ext hx31)
                  replace HL2 := Lib.hid (HL2.out.ext hx31)
                  replace HL3 := Lib.hid (HL3.out.ext hx31)
                  replace HDd := Lib.hid (HDd.out.ext hx31)
                  replace HDb := Lib.hid (HDb.out.ext hx31)
                  replace HSl := Lib.hid (HSl.out.ext hx31)
                  replace HLs := Lib.hid (HLs.out.ext hx31)
                  replace HYr := Lib.hid (HYr.out.trans hx31)
                  replace HG1 := Lib.hid (HG1.out.ext hx31)
                  clear hx31
                  have HG2 := Lib.hid (show Cb (w31.alloc (.cells #[.int .i64 pc, .int .u64 pk, .int .u64 pv] 32)) w31.heap.size [.int .i64 pc, .int .u64 pk, .int .u64 pv] from Cb.new w31 _ _)
                  clear e31
                  obtain ⟨d0, d1, d2⟩ := HDb.out.three
                  go_wp2_with (fail)
                  refine (HSa.out _ HYr.out).mono ?_
                  rintro e w32 ⟨e32, ⟨ka7, kn7, kc7⟩, ⟨va7, vn7, vc7⟩, ⟨ta7, tn7, tc7⟩, he, S32⟩
                  try dsimp only [sv, rv, opv, ov, cf] at he
                  subst he
                  clear d0 d1 d2 HSa
                  have hx32 := (e32.alloc (.cells #[.int .u64 er, .slice ka7 kn7 kc7, .slice va7 vn7 vc7, .slice ta7 tn7 tc7, .bool ecl] 30))
                  replace HE := Lib.hid (HE.out.trans hx32)
                  replace HC := Lib.hid (HC.out.ext hx32)
                  replace HK := Lib.hid (HK.out.ext hx32)
                  replace HP := Lib.hid (HP.out.ext hx32)
                  replace HSb := Lib.hid (HSb.out.ext hx32)
                  replace HSs := Lib.hid (HSs.out.ext hx32)
                  replace HAb := Lib.hid (HAb.out.ext hx32)
                  replace HAs := Lib.hid (HAs.out.ext hx32)
                  replace HL1 := Lib.hid (HL1.out.ext hx32)
                  replace HL2 := Lib.hid (HL2.out.ext hx32)
                  replace HL3 := Lib.hid (HL3.out.ext hx32)
                  replace HDd := Lib.hid (HDd.out.ext hx32)
                  replace HDb := Lib.hid (HDb.out.ext hx32)
                  replace HSl := Lib.hid (HSl.out.ext hx32)
                  replace HLs := Lib.hid (HLs.out.ext hx32)
                  replace HYr := Lib.hid (HYr.out.trans hx32)
                  replace HG1 := Lib.hid (HG1.out.ext hx32)
                  replace HG2 := Lib.hid (HG2.out.ext hx32)
                  clear hx32
                  have HG3 := Lib.hid (show Cb (w32.alloc (.cells #[.int .u64 er, .slice ka7 kn7 kc7, .slice va7 vn7 vc7, .slice ta7 tn7 tc7, .bool ecl] 30)) w32.heap.size [.int .u64 er, .slice ka7 kn7 kc7, .slice va7 vn7 vc7, .slice ta7 tn7 tc7, .bool ecl] from Cb.new w32 _ _)
                  have HG5 : RowKit.Hid (SS (w32.alloc (.cells #[.int .u64 er, .slice ka7 kn7 kc7, .slice va7 vn7 vc7, .slice ta7 tn7 tc7, .bool ecl] 30)) ⟨ka7, kn7, kc7⟩ ⟨va7, vn7, vc7⟩ ⟨ta7, tn7, tc7⟩ ⟨er, ek, eu, ew, ecl⟩) := Lib.hid (S32.ext (Ext.new w32 _))
                  clear S32 e32
                  obtain ⟨d0, d1, d2⟩ := HDb.out.three
                  go_wp2_with (fail)
                  refine (HSc.out _ HYr.out).mono ?_
                  rintro e w33 ⟨e33, ⟨ka8, kn8, kc8⟩, ⟨va8, vn8, vc8⟩, ⟨ta8, tn8, tc8⟩, he, S33⟩
                  try dsimp only [sv, rv, opv, ov, cf] at he
                  subst he
                  clear d0 d1 d2 HSc
                  have hx33 := (e33.alloc (.cells #[.int .u64 er, .slice ka8 kn8 kc8, .slice va8 vn8 vc8, .slice ta8 tn8 tc8, .bool ecl] 30))
                  replace HE := Lib.hid (HE.out.trans hx33)
                  replace HC := Lib.hid (HC.out.ext hx33)
                  replace HK := Lib.hid (HK.out.ext hx33)
                  replace HP := Lib.hid (HP.out.ext hx33)
                  replace HSb := Lib.hid (HSb.out.ext hx33)
                  replace HSs := Lib.hid (HSs.out.ext hx33)
                  replace HAb := Lib.hid (HAb.out.ext hx33)
                  replace HAs := Lib.hid (HAs.out.ext hx33)
                  replace HL1 := Lib.hid (HL1.out.ext hx33)
                  replace HL2 := Lib.hid (HL2.out.ext hx33)
                  replace HL3 := Lib.hid (HL3.out.ext hx33)
                  replace HDd := Lib.hid (HDd.out.ext hx33)
                  replace HDb := Lib.hid (HDb.out.ext hx33)
                  replace HSl := Lib.hid (HSl.out.ext hx33)
                  replace HLs := Lib.hid (HLs.out.ext hx33)
                  replace HYr := Lib.hid (HYr.out.trans hx33)
                  replace HG1 := Lib.hid (HG1.out.ext hx33)
                  replace HG2 := Lib.hid (HG2.out.ext hx33)
                  replace HG3 := Lib.hid (HG3.out.ext hx33)
                  replace HG5 := Lib.hid (HG5.out.ext hx33)
                  clear hx33
                  have HG4 := Lib.hid (show Cb (w33.alloc (.cells #[.int .u64 er, .slice ka8 kn8 kc8, .slice va8 vn8 vc8, .slice ta8 tn8 tc8, .bool ecl] 30)) w33.heap.size [.int .u64 er, .slice ka8 kn8 kc8, .slice va8 vn8 vc8, .slice ta8 tn8 tc8, .bool ecl] from Cb.new w33 _ _)
                  have HG6 : RowKit.Hid (SS (w33.alloc (.cells #[.int .u64 er, .slice ka8 kn8 kc8, .slice va8 vn8 vc8, .slice ta8 tn8 tc8, .bool ecl] 30)) ⟨ka8, kn8, kc8⟩ ⟨va8, vn8, vc8⟩ ⟨ta8, tn8, tc8⟩ ⟨er, ek, eu, ew, ecl⟩) := Lib.hid (S33.ext (Ext.new w33 _))
                  clear S33 e33
                  obtain ⟨p0, p1, p2⟩ := HG1.out.three
                  obtain ⟨r0, r1, r2⟩ := HG2.out.three
                  obtain ⟨s0, s1', s2', s3, s4⟩ := HG3.out.five
                  obtain ⟨u0, u1, u2, u3, u4⟩ := HG4.out.five
                  have HTl := Lib.hid (same_any ⟨ka7, kn7, kc7⟩ ⟨va7, vn7, vc7⟩ ⟨ta7, tn7, tc7⟩ ⟨ka8, kn8, kc8⟩ ⟨va8, vn8, vc8⟩ ⟨ta8, tn8, tc8⟩ ⟨er, ek, eu, ew, ecl⟩ ⟨er, ek, eu, ew, ecl⟩ true _ HG5.out HG6.out (Lib.hid (by simp)))
                  try dsimp only [sv] at HTl
                  have q2 := eqO pc pk pv pc pk pv
                  rw [beq_self_eq_true, beq_self_eq_true, beq_self_eq_true] at q2
                  go_wp2_with (fail)
                  refine (HTl.out).mono ?_
                  rintro e w34 ⟨rfl, e34⟩
                  clear p0 p1 p2 r0 r1 r2 s0 s1' s2' s3 s4 u0 u1 u2 u3 u4 HTl q2
                  have hx34 := e34
                  replace HE := Lib.hid (HE.out.trans hx34)
                  replace HC := Lib.hid (HC.out.ext hx34)
                  replace HK := Lib.hid (HK.out.ext hx34)
                  replace HP := Lib.hid (HP.out.ext hx34)
                  replace HSb := Lib.hid (HSb.out.ext hx34)
                  replace HSs := Lib.hid (HSs.out.ext hx34)
                  replace HAb := Lib.hid (HAb.out.ext hx34)
                  replace HAs := Lib.hid (HAs.out.ext hx34)
                  replace HL1 := Lib.hid (HL1.out.ext hx34)
                  replace HL2 := Lib.hid (HL2.out.ext hx34)
                  replace HL3 := Lib.hid (HL3.out.ext hx34)
                  replace HDd := Lib.hid (HDd.out.ext hx34)
                  replace HDb := Lib.hid (HDb.out.ext hx34)
                  replace HSl := Lib.hid (HSl.out.ext hx34)
                  replace HLs := Lib.hid (HLs.out.ext hx34)
                  replace HYr := Lib.hid (HYr.out.trans hx34)
                  replace HG1 := Lib.hid (HG1.out.ext hx34)
                  replace HG2 := Lib.hid (HG2.out.ext hx34)
                  replace HG3 := Lib.hid (HG3.out.ext hx34)
                  replace HG5 := Lib.hid (HG5.out.ext hx34)
                  replace HG4 := Lib.hid (HG4.out.ext hx34)
                  replace HG6 := Lib.hid (HG6.out.ext hx34)
                  clear hx34
                  clear e34 HG1 HG2 HG3 HG4 HG5 HG6
                  go_wp2_with (fail)
                  go_roundw
                  case rel => first | exact ⟨i4 + 1, by go_num, by omega, HE.out, HC.out, HK.out, HP.out, HSb.out, HSs.out, HAb.out, HAs.out, HL1.out, HL2.out, HL3.out, HDd.out, HDb.out, HSl.out, HLs.out⟩ | ((repeat apply Exists.intro); exact ⟨⟨i4 + 1, by go_num, by omega, HE.out, HC.out, HK.out, HP.out, HSb.out, HSs.out, HAb.out, HAs.out, HL1.out, HL2.out, HL3.out, HDd.out, HDb.out, HSl.out, HLs.out⟩, rfl⟩)
                  case measure => simp [intOf]; omega
                · have hlt4 : ¬ (i4 : Int) < 3 := by omega
                  go_wp2_with (fail)
                  go_roundw
                  case rel => first | exact ⟨i1 + 1, by go_num, by omega, HE.out, HC.out, HK.out, HP.out, HSb.out, HSs.out, HAb.out, HAs.out, HL1.out, HL2.out, HL3.out, HDd.out⟩ | ((repeat apply Exists.intro); exact ⟨⟨i1 + 1, by go_num, by omega, HE.out, HC.out, HK.out, HP.out, HSb.out, HSs.out, HAb.out, HAs.out, HL1.out, HL2.out, HL3.out, HDd.out⟩, rfl⟩)
                  case measure => simp [intOf]; omega

end Go.Proofs.YtdipddnnckfnmaaGreat.Law

/- AutoTells:
  AutoTells: for every input the law returns true, and each argument reads behind the call as it read before. No condition.
-/
namespace Go.Proofs.YtdipddnnckfnmaaGreat.autoTells
open Go.ChangeShapes Go.WideShapes Go.ChangeAt Go.RowKit Go.Joins Go.Deep

set_option maxHeartbeats 4000000 in
set_option maxRecDepth 100000 in
theorem lifted (os : Os) (started : os.Started) (H : Type) (enc : TypeId × Value → H) :
    ReturnsInHanded {} Tryz.checked os 3 .any (Rows.autoTellsSpec.pre6 enc Tryz.prog Tryz.f3 Rows.autoTellsRow.domain false) (Rows.autoTellsSpec.post enc Tryz.prog Tryz.f3 false true false false) := by
  refine returnsInHanded_of_change (C := Tryz.checked) Law.own started (by kernel_rfl) Tryz.func3
    (ChangeSpec.witness6 (enc := enc) (C := Tryz.checked) false ⟨#[], #[.agg #[.int .i64 0, .int .i64 0, .int .i64 0], .agg #[.int .i64 0, .int .i64 0, .int .i64 0], .slice none 0 0, .agg #[.int .u64 0, .slice none 0 0, .slice none 0 0, .slice none 0 0, .bool false], .agg #[.int .i64 0, .int .i64 0, .int .i64 0], .int .u64 0, .agg #[.int .i64 0, .int .u64 0, .int .u64 0], .slice none 0 0], []⟩ 8 (by kernel_rfl) (by kernel_rfl) (by kernel_rfl) (by kernel_rfl)) ?_
  intro W base args ds gs before hval0 hW hcnd _
  have hval : ∀ (j : Nat) t v, Tryz.f3.params[j]? = some t → args[j]? = some v → Value.okWide Tryz.prog W .any base t v := hval0
  have hW' := hW
  obtain ⟨p, q, hA0, hV, rfl, hfz, hnd⟩ := hW
  have hA : DataW.TrodAll enc Tryz.prog W 0 (fun _ => true) true Tryz.f3.params.toList args.toList ds p := hA0
  rw [Tryz.params3] at hA hval
  obtain ⟨v0, vs0, d0, ds0, p0, q0, hargs, rfl, rfl, h0, r0⟩ := trodAll_cons hA
  obtain ⟨v1, vs1, d1, ds1, p1, q1, rfl, rfl, rfl, h1, r1⟩ := trodAll_cons r0
  obtain ⟨v2, vs2, d2, ds2, p2, q2, rfl, rfl, rfl, h2, r2⟩ := trodAll_cons r1
  obtain ⟨v3, vs3, d3, ds3, p3, q3, rfl, rfl, rfl, h3, r3⟩ := trodAll_cons r2
  obtain ⟨v4, vs4, d4, ds4, p4, q4, rfl, rfl, rfl, h4, r4⟩ := trodAll_cons r3
  obtain ⟨v5, vs5, d5, ds5, p5, q5, rfl, rfl, rfl, h5, r5⟩ := trodAll_cons r4
  obtain ⟨v6, vs6, d6, ds6, p6, q6, rfl, rfl, rfl, h6, r6⟩ := trodAll_cons r5
  obtain ⟨v7, vs7, d7, ds7, p7, q7, rfl, rfl, rfl, h7, r7⟩ := trodAll_cons r6
  obtain ⟨rfl, rfl, rfl⟩ := trodAll_nil r7
  obtain rfl : args = #[v0, v1, v2, v3, v4, v5, v6, v7] := by cases args; simp_all
  obtain ⟨a0, b0, c0, rfl, x0, y0, z0⟩ := Law.open_trip (hval 0 22 v0 rfl rfl) h0
  obtain ⟨a1, b1, c1, rfl, x1, y1, z1⟩ := Law.open_conf (hval 1 24 v1 rfl rfl) h1
  obtain ⟨s2, n2, c2, rfl, k2⟩ := Law.open_ts (hval 2 25 v2 rfl rfl) h2
  obtain ⟨ur3, ⟨ua3, un3, uc3⟩, ⟨ud3, ue3, uf3⟩, ⟨ug3, um3, ul3⟩, uo3, rfl, x3, y3, z3, t3⟩ := Law.open_state (hval 3 30 v3 rfl rfl) h3
  obtain ⟨a4, b4, c4, rfl, x4, y4, z4⟩ := Law.open_trip (hval 4 22 v4 rfl rfl) h4
  obtain ⟨a5, rfl, _, _, w5⟩ := open_int Tryz.underlying26 (hval 5 26 v5 rfl rfl) h5
  obtain ⟨a6, b6, c6, rfl, x6, y6, z6⟩ := Law.open_op (hval 6 32 v6 rfl rfl) h6
  obtain ⟨s7, n7, c7, rfl, k7⟩ := Law.open_rs (hval 7 33 v7 rfl rfl) h7
  refine (Law.tells_walk a0 b0 c0 a1 b1 c1 ur3 a4 b4 c4 a5 a6 b6 c6 s2 n2 c2 ua3 un3 uc3 ud3 ue3 uf3 ug3 um3 ul3 uo3 s7 n7 c7 W x0 y0 z0 z1 k2 x3 y3 z3 t3 x4 y4 z4 (Law.u64_of w5) x6 y6 z6 k7).mono fun e W' ⟨he, hg⟩ => ?_
  subst he
  exact ⟨_, rfl, Law.told hW' rfl rfl rfl (by kernel_rfl) hg⟩

theorem over : Rows.autoTellsRow.holds Tryz.pinned (OpenSpec.ofChange Rows.autoTellsSpec) :=
  OpenClaim.holds_of_wide 3 Tryz.f3 rfl rfl rfl rfl rfl rfl rfl ⟨rfl, rfl, rfl, rfl, rfl⟩ rfl rfl rfl rfl rfl (by kernel_rfl) Tryz.func3 (by kernel_rfl)
    (of_decide_eq_true (by kernel_rfl)) (by unfold Func.isWrapper; first | (rw [if_pos (by decide +kernel)]; kernel_rfl) | (rw [if_neg (by decide +kernel)]; exact ⟨rfl, rfl⟩))
    (fun os started H enc _ => lifted os started H enc)

end Go.Proofs.YtdipddnnckfnmaaGreat.autoTells

namespace Go.Proofs.YtdipddnnckfnmaaGreat
theorem autoTells_holds : Rows.AutoTellsSaid := autoTells.over
end Go.Proofs.YtdipddnnckfnmaaGreat

