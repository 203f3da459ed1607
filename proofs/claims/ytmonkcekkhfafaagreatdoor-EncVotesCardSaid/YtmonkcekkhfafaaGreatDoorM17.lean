/-
  Parts of a proof, one behind the other: LawOp. Each says its own conditions.
-/
import Derived.Test.YtmonkcekkhfafaaGreatDoorM10
import Derived.Test.YtmonkcekkhfafaaGreatDoorM16

/- LawOp:
  What the laws of layer 9 make of raw numbers: a call. Conditions: integers' bounds; the configuration fits.
-/
namespace Go.Proofs.YtmonkcekkhfafaaGreatDoor.Law
open Go.RowKit (Below intOf)
open Go.Proofs.YtmonkcekkhfafaaGreatDoor.Aut
open Go.Proofs.YtmonkcekkhfafaaGreatDoor.Reg (cf bx fits_any)

/-- It answers a call. -/
def OpE (w : World) (e : Ending) (w' : World) : Prop := ∃ o : Cl, Wc o ∧ e = .returned (ov o) ∧ Ext w w'
set_option maxHeartbeats 8000000 in
set_option maxRecDepth 100000 in
theorem op_any {k p m : Int} (a b c x : Int) (w : World) (hf : fits k p m = true) (ha : I64 a) (hb : I64 b) (hc : I64 c) (hx : U64 x) :
    Calls Tryz.prog 29 #[cf k p m, .agg #[.int .i64 a, .int .i64 b, .int .i64 c], .int .u64 x] w (OpE w) := by
  have HC := Lib.hid (fun W => code_any a W hf ha)
  have HK := Lib.hid (fun W => key_any k p m b x W hb hx)
  have HW := Lib.hid (fun W => word_any c x W hc hx)
  have HP := Lib.hid (fun W => pick_any c 10 W hc (by decide))
  have p0 := pick_ge c (n := 10) (by decide)
  have p1 := pick_lt c (n := 10) (by decide)
  have hpu : RowKit.Hid (U64 (pickZ c 10)) := Lib.hid (by unfold U64; omega)
  have hpw : IntKind.u64.wrap (pickZ c 10) = pickZ c 10 := by simp only [IntKind.wrap_u64]; omega
  generalize pickZ c 10 = pz at *
  have b0 : Cb (((w.alloc (bx k p m)).alloc (.cells #[.int .i64 a, .int .i64 b, .int .i64 c] 22)).alloc (.cells #[.int .i64 0, .int .u64 0, .int .u64 0] 67)) w.heap.size [.int .i64 k, .int .i64 p, .int .i64 m] := by repeat (first | ((with_reducible refine Cb.at _ rfl ?_); (simp; done)) | with_reducible refine Cb.alloc ?_ _)
  have b1 : Cb (((w.alloc (bx k p m)).alloc (.cells #[.int .i64 a, .int .i64 b, .int .i64 c] 22)).alloc (.cells #[.int .i64 0, .int .u64 0, .int .u64 0] 67)) (w.heap.size + 1) [.int .i64 a, .int .i64 b, .int .i64 c] := by repeat (first | ((with_reducible refine Cb.at _ rfl ?_); (simp; done)) | with_reducible refine Cb.alloc ?_ _)
  have b2 : Cb (((w.alloc (bx k p m)).alloc (.cells #[.int .i64 a, .int .i64 b, .int .i64 c] 22)).alloc (.cells #[.int .i64 0, .int .u64 0, .int .u64 0] 67)) (w.heap.size + 1 + 1) [.int .i64 0, .int .u64 0, .int .u64 0] := by repeat (first | ((with_reducible refine Cb.at _ rfl ?_); (simp; done)) | with_reducible refine Cb.alloc ?_ _)
  have hX : Ext w (((w.alloc (bx k p m)).alloc (.cells #[.int .i64 a, .int .i64 b, .int .i64 c] 22)).alloc (.cells #[.int .i64 0, .int .u64 0, .int .u64 0] 67)) := ((Ext.new w _).alloc _).alloc _
  obtain ⟨c0, c1, c2⟩ := b0.three
  obtain ⟨n0, n1, n2⟩ := b1.three
  have k08 := And.intro (And.intro c0 (And.intro c1 c2)) (And.intro n0 (And.intro n1 n2))
  have HB0 := Lib.hid b0
  have HB1 := Lib.hid b1
  have HB2 := Lib.hid b2
  have HX := Lib.hid hX
  clear ha hb hc hx hf b0 b1 b2 hX
  dsimp only [cf, bx] at *
  go_enter Tryz.func29, Tryz.ntmps29
  go_wp2_with (fail)
  refine wp_region_held_drew (S := fun w' => (w'.cell? ⟨w.heap.size, 0, none⟩ = some (.int .i64 k) ∧ w'.cell? ⟨w.heap.size, 1, none⟩ = some (.int .i64 p) ∧ w'.cell? ⟨w.heap.size, 2, none⟩ = some (.int .i64 m)) ∧ w'.cell? ⟨w.heap.size + 1, 0, none⟩ = some (.int .i64 a) ∧ w'.cell? ⟨w.heap.size + 1, 1, none⟩ = some (.int .i64 b) ∧ w'.cell? ⟨w.heap.size + 1, 2, none⟩ = some (.int .i64 c)) (by kernel_rfl) k08 (fun hHeld => ?_)
  refine wpAnyH_take (i := 0) (v := .agg #[.int .i64 k, .int .i64 p, .int .i64 m]) rfl (by kernel_rfl) (by kernel_rfl) (by kernel_rfl) (fun _ _ _ h => h) (Or.inl ⟨by kernel_rfl, ?_⟩) (by assumption) ?_
  · rintro w ⟨⟨h1, h2, h3⟩, h4, h5, h6⟩
    go_simp
  refine wpAnyH_take (i := 1) (v := .pointer (some ⟨w.heap.size + 1, 0, none⟩)) rfl (by kernel_rfl) (by kernel_rfl) (by kernel_rfl) (fun _ _ _ h => h) (Or.inl ⟨by kernel_rfl, ?_⟩) (by assumption) ?_
  · rintro w ⟨⟨h1, h2, h3⟩, h4, h5, h6⟩
    go_simp
  refine wpAnyH_take (i := 2) (v := .int .i64 a) rfl (by kernel_rfl) (by kernel_rfl) (by kernel_rfl) (fun _ _ _ h => h) (Or.inl ⟨by kernel_rfl, ?_⟩) (by assumption) ?_
  · rintro w ⟨⟨h1, h2, h3⟩, h4, h5, h6⟩
    go_simp
  refine wpAnyH_take (i := 4) (v := .agg #[.int .i64 k, .int .i64 p, .int .i64 m]) rfl (by kernel_rfl) (by kernel_rfl) (by kernel_rfl) (fun _ _ _ h => h) (Or.inl ⟨by kernel_rfl, ?_⟩) (by assumption) ?_
  · rintro w ⟨⟨h1, h2, h3⟩, h4, h5, h6⟩
    go_simp
  refine wpAnyH_take (i := 5) (v := .pointer (some ⟨w.heap.size + 1, 1, none⟩)) rfl (by kernel_rfl) (by kernel_rfl) (by kernel_rfl) (fun _ _ _ h => h) (Or.inl ⟨by kernel_rfl, ?_⟩) (by assumption) ?_
  · rintro w ⟨⟨h1, h2, h3⟩, h4, h5, h6⟩
    go_simp
  refine wpAnyH_take (i := 6) (v := .int .i64 b) rfl (by kernel_rfl) (by kernel_rfl) (by kernel_rfl) (fun _ _ _ h => h) (Or.inl ⟨by kernel_rfl, ?_⟩) (by assumption) ?_
  · rintro w ⟨⟨h1, h2, h3⟩, h4, h5, h6⟩
    go_simp
  refine wpAnyH_take (i := 7) (v := .int .u64 x) rfl (by kernel_rfl) (by kernel_rfl) (by kernel_rfl) (fun _ _ _ h => h) (Or.inl ⟨by kernel_rfl, ?_⟩) (by assumption) ?_
  · rintro w ⟨⟨h1, h2, h3⟩, h4, h5, h6⟩
    go_simp
  refine wpAnyH_take (i := 9) (v := .pointer (some ⟨w.heap.size + 1, 2, none⟩)) rfl (by kernel_rfl) (by kernel_rfl) (by kernel_rfl) (fun _ _ _ h => h) (Or.inl ⟨by kernel_rfl, ?_⟩) (by assumption) ?_
  · rintro w ⟨⟨h1, h2, h3⟩, h4, h5, h6⟩
    go_simp
  refine wpAnyH_take (i := 10) (v := .int .i64 c) rfl (by kernel_rfl) (by kernel_rfl) (by kernel_rfl) (fun _ _ _ h => h) (Or.inl ⟨by kernel_rfl, ?_⟩) (by assumption) ?_
  · rintro w ⟨⟨h1, h2, h3⟩, h4, h5, h6⟩
    go_simp
  refine wpAnyH_take (i := 11) (v := .int .u64 x) rfl (by kernel_rfl) (by kernel_rfl) (by kernel_rfl) (fun _ _ _ h => h) (Or.inl ⟨by kernel_rfl, ?_⟩) (by assumption) ?_
  · rintro w ⟨⟨h1, h2, h3⟩, h4, h5, h6⟩
    go_simp
  refine wpAnyH_ready (rs := [3, 14]) (by kernel_rfl) (by simp) ?_
  refine AllReadyH.cons rfl (fun K hK => ?_) (AllReadyH.cons rfl (fun K hK => ?_) AllReadyH.nil)
  · go_simp
    refine (HC.out _).mono ?_
    rintro e w1 ⟨y1, ya, yb, rfl, e1⟩
    have zz0 := e1.size
    simp only [World.size_alloc, World.size_drew] at zz0
    refine hK.out _ _ ⟨⟨Ext.cell e1 hHeld.1.1, Ext.cell e1 hHeld.1.2.1, Ext.cell e1 hHeld.1.2.2⟩, Ext.cell e1 hHeld.2.1, Ext.cell e1 hHeld.2.2.1, Ext.cell e1 hHeld.2.2.2⟩ (fun hHeld => ?_)
    clear hK K
    refine wpAnyH_ready (rs := [8, 14]) (by kernel_rfl) (by simp) ?_
    refine AllReadyH.cons rfl (fun K hK => ?_) (AllReadyH.cons rfl (fun K hK => ?_) AllReadyH.nil)
    · go_simp
      refine (HK.out _).mono ?_
      rintro e w2 ⟨y2, u2, _, rfl, e2⟩
      have zz1 := e2.size
      refine hK.out _ _ ⟨⟨Ext.cell e2 hHeld.1.1, Ext.cell e2 hHeld.1.2.1, Ext.cell e2 hHeld.1.2.2⟩, Ext.cell e2 hHeld.2.1, Ext.cell e2 hHeld.2.2.1, Ext.cell e2 hHeld.2.2.2⟩ (fun hHeld => ?_)
      clear hK K
      refine wpAnyH_ready (rs := [12, 14]) (by kernel_rfl) (by simp) ?_
      refine AllReadyH.cons rfl (fun K hK => ?_) (AllReadyH.cons rfl (fun K hK => ?_) AllReadyH.nil)
      · go_simp
        refine (HW.out _).mono ?_
        rintro e w3 ⟨y3, u3, rfl, e3⟩
        have zz2 := e3.size
        refine hK.out _ _ ⟨⟨Ext.cell e3 hHeld.1.1, Ext.cell e3 hHeld.1.2.1, Ext.cell e3 hHeld.1.2.2⟩, Ext.cell e3 hHeld.2.1, Ext.cell e3 hHeld.2.2.1, Ext.cell e3 hHeld.2.2.2⟩ (fun hHeld => ?_)
        clear hK K
        refine wpAnyH_take (i := 13) (v := .agg #[.int .i64 y1, .int .u64 y2, .int .u64 y3]) rfl (by kernel_rfl) (by kernel_rfl) (by kernel_rfl) (fun _ _ _ h => h) (Or.inl ⟨by kernel_rfl, ?_⟩) (by assumption) ?_
        · rintro w ⟨⟨h1, h2, h3⟩, h4, h5, h6⟩
          go_simp
        refine wpAnyH_ready (rs := [14]) (by kernel_rfl) (by simp) ?_
        refine AllReadyH.cons rfl (fun K hK => ?_) AllReadyH.nil
        go_simp
        have ob0 := Cb.at (B := w3.heap.size) [.int .i64 0, .int .u64 0, .int .u64 0] rfl (by rfl) (X := w3) (t := 67)
        have hP := hHeld
        refine hK.out _ _ ⟨⟨Ext.cell (Ext.new _ _) hHeld.1.1, Ext.cell (Ext.new _ _) hHeld.1.2.1, Ext.cell (Ext.new _ _) hHeld.1.2.2⟩, Ext.cell (Ext.new _ _) hHeld.2.1, Ext.cell (Ext.new _ _) hHeld.2.2.1, Ext.cell (Ext.new _ _) hHeld.2.2.2⟩ (fun hHeld => ?_)
        clear hK K
        obtain ⟨g0, g1, g2⟩ := ob0.three
        have f0 := ob0.f 0
        have f1 := ob0.f 1
        have f2 := ob0.f 2
        refine wpAnyH_ready (rs := [15]) (by kernel_rfl) (by simp) ?_
        refine AllReadyH.cons rfl (fun K hK => ?_) AllReadyH.nil
        go_simp
        have OB := ((ob0.upd (i := 0) (by simp) (.int .i64 y1)).upd (i := 1) (by simp) (.int .u64 y2)).upd (i := 2) (by simp) (.int .u64 y3)
        refine hK.out _ _ (by refine ⟨⟨?_, ?_, ?_⟩, ?_, ?_, ?_⟩ <;> repeat (first | (with_reducible exact hHeld.1.1) | (with_reducible exact hHeld.1.2.1) | (with_reducible exact hHeld.1.2.2) | (with_reducible exact hHeld.2.1) | (with_reducible exact hHeld.2.2.1) | (with_reducible exact hHeld.2.2.2) | (with_reducible exact hP.1.1) | (with_reducible exact hP.1.2.1) | (with_reducible exact hP.1.2.2) | (with_reducible exact hP.2.1) | (with_reducible exact hP.2.2.1) | (with_reducible exact hP.2.2.2) | (with_reducible refine Ext.cell (Ext.new _ _) ?_) | (with_reducible refine (cell_far (by omega)).trans ?_))) (fun hHeld => ?_)
        clear hK K
        refine wpAnyH_done (by kernel_rfl) ?_ _
        have hbx : w.heap.size + 1 + 1 < w3.heap.size := by omega
        have EF : Ext (((w.alloc (.cells #[.int .i64 k, .int .i64 p, .int .i64 m] 24)).alloc (.cells #[.int .i64 a, .int .i64 b, .int .i64 c] 22)).alloc (.cells #[.int .i64 0, .int .u64 0, .int .u64 0] 67)) (w3.alloc (.cells #[.int .i64 y1, .int .u64 y2, .int .u64 y3] 67)) := ((((Ext.drew (Ext.refl _)).trans e1).trans e2).trans e3).alloc (.cells #[.int .i64 y1, .int .u64 y2, .int .u64 y3] 67)
        have OBf : Cb (w3.alloc (.cells #[.int .i64 y1, .int .u64 y2, .int .u64 y3] 67)) (w3.heap.size) [.int .i64 y1, .int .u64 y2, .int .u64 y3] := Cb.new w3 [.int .i64 y1, .int .u64 y2, .int .u64 y3] 67
        have HR := HB2.out.ext EF
        have EW := HX.out.trans EF
        clear EF HB0 HB1 HB2 HX g0 g1 g2 f0 f1 f2 OB c0 c1 c2 n0 n1 n2 k08
        have HOW := Lib.hid (And.intro u2 u3)
        have hy1 : I64 y1 := by unfold I64; omega
        have HY := Lib.hid hy1
        clear hy1
        generalize (w3.alloc (.cells #[.int .i64 y1, .int .u64 y2, .int .u64 y3] 67)) = wf at OBf HR EW hHeld ⊢
        obtain ⟨⟨c0, c1, c2⟩, n0, n1, n2⟩ := hHeld
        obtain ⟨v0, v1, v2⟩ := OBf.three
        by_cases h5 : k = 5
        · subst h5
          have OB2 : Cb _ _ [.int .i64 y1, .int .u64 y2, .int .u64 pz] := OBf.upd (i := 2) (by simp) (.int .u64 pz)
          have HR2 := HR.far (B := w3.heap.size) (by omega) 2 (.int .u64 pz)
          have ff := OBf.f 2
          obtain ⟨q0, q1, q2⟩ := OB2.three
          have r0 := HR2.f 0
          have r1 := HR2.f 1
          have r2 := HR2.f 2
          obtain ⟨s0, s1, s2⟩ := HR2.three
          have HRF := ((HR2.upd (i := 0) (by simp) (.int .i64 y1)).upd (i := 1) (by simp) (.int .u64 y2)).upd (i := 2) (by simp) (.int .u64 pz)
          obtain ⟨t0, t1, t2⟩ : _ ∧ _ ∧ _ := Cb.three (x := .int .i64 y1) (y := .int .u64 y2) (z := .int .u64 pz) HRF
          have HEW := Lib.hid EW
          clear OBf HR EW HRF OB2 HR2
          go_wp2_with (first | (go_at_call 28; (with_reducible refine (HP.out _).mono ?_); rintro e w9 ⟨rfl, rfl⟩))
          refine bodyPost_ret (v := ov ⟨y1, y2, pz⟩) (by simp [results, Tryz.results29, go_sem, t0, t1, t2]) rfl ⟨⟨y1, y2, pz⟩, ⟨HY.out, HOW.out.1, hpu.out⟩, rfl, ?_⟩
          repeat (first | (with_reducible exact HEW.out) | (with_reducible refine Ext.setCell ?_ (by omega) _))
        · have b5 : (k == 5) = false := by simpa using h5
          by_cases h8 : y1 = 8
          · subst h8
            have OB2 : Cb _ _ [.int .i64 8, .int .u64 y2, .int .u64 pz] := OBf.upd (i := 2) (by simp) (.int .u64 pz)
            have HR2 := HR.far (B := w3.heap.size) (by omega) 2 (.int .u64 pz)
            have ff := OBf.f 2
            obtain ⟨q0, q1, q2⟩ := OB2.three
            have r0 := HR2.f 0
            have r1 := HR2.f 1
            have r2 := HR2.f 2
            obtain ⟨s0, s1, s2⟩ := HR2.three
            have HRF := ((HR2.upd (i := 0) (by simp) (.int .i64 8)).upd (i := 1) (by simp) (.int .u64 y2)).upd (i := 2) (by simp) (.int .u64 pz)
            obtain ⟨t0, t1, t2⟩ : _ ∧ _ ∧ _ := Cb.three (x := .int .i64 8) (y := .int .u64 y2) (z := .int .u64 pz) HRF
            have HEW := Lib.hid EW
            clear OBf HR EW HRF OB2 HR2
            go_wp2_with (first | (go_at_call 28; (with_reducible refine (HP.out _).mono ?_); rintro e w9 ⟨rfl, rfl⟩))
            refine bodyPost_ret (v := ov ⟨8, y2, pz⟩) (by simp [results, Tryz.results29, go_sem, t0, t1, t2]) rfl ⟨⟨8, y2, pz⟩, ⟨HY.out, HOW.out.1, hpu.out⟩, rfl, ?_⟩
            repeat (first | (with_reducible exact HEW.out) | (with_reducible refine Ext.setCell ?_ (by omega) _))
          · have b8 : (y1 == 8) = false := by simpa using h8
            obtain ⟨q0, q1, q2⟩ := OBf.three
            have r0 := HR.f 0
            have r1 := HR.f 1
            have r2 := HR.f 2
            obtain ⟨s0, s1, s2⟩ := HR.three
            have HRF := ((HR.upd (i := 0) (by simp) (.int .i64 y1)).upd (i := 1) (by simp) (.int .u64 y2)).upd (i := 2) (by simp) (.int .u64 y3)
            obtain ⟨t0, t1, t2⟩ : _ ∧ _ ∧ _ := Cb.three (x := .int .i64 y1) (y := .int .u64 y2) (z := .int .u64 y3) HRF
            have HEW := Lib.hid EW
            clear OBf HR EW HRF 
            go_wp2_with (fail)
            refine bodyPost_ret (v := ov ⟨y1, y2, y3⟩) (by simp [results, Tryz.results29, go_sem, t0, t1, t2]) rfl ⟨⟨y1, y2, y3⟩, ⟨HY.out, HOW.out.1, HOW.out.2⟩, rfl, ?_⟩
            repeat (first | (with_reducible exact HEW.out) | (with_reducible refine Ext.setCell ?_ (by omega) _))
      · go_simp
        have ob0 := Cb.at (B := w2.heap.size) [.int .i64 0, .int .u64 0, .int .u64 0] rfl (by rfl) (X := w2) (t := 67)
        refine hK.out _ _ ⟨⟨Ext.cell (Ext.new _ _) hHeld.1.1, Ext.cell (Ext.new _ _) hHeld.1.2.1, Ext.cell (Ext.new _ _) hHeld.1.2.2⟩, Ext.cell (Ext.new _ _) hHeld.2.1, Ext.cell (Ext.new _ _) hHeld.2.2.1, Ext.cell (Ext.new _ _) hHeld.2.2.2⟩ (fun hHeld => ?_)
        clear hK K
        refine wpAnyH_ready (rs := [12]) (by kernel_rfl) (by simp) ?_
        refine AllReadyH.cons rfl (fun K hK => ?_) AllReadyH.nil
        go_simp
        refine (HW.out _).mono ?_
        rintro e w3 ⟨y3, u3, rfl, e3⟩
        have zz2 := e3.size
        simp only [World.size_alloc] at zz2
        have ob1 := ob0.ext e3
        refine hK.out _ _ ⟨⟨Ext.cell e3 hHeld.1.1, Ext.cell e3 hHeld.1.2.1, Ext.cell e3 hHeld.1.2.2⟩, Ext.cell e3 hHeld.2.1, Ext.cell e3 hHeld.2.2.1, Ext.cell e3 hHeld.2.2.2⟩ (fun hHeld => ?_)
        clear hK K
        refine wpAnyH_take (i := 13) (v := .agg #[.int .i64 y1, .int .u64 y2, .int .u64 y3]) rfl (by kernel_rfl) (by kernel_rfl) (by kernel_rfl) (fun _ _ _ h => h) (Or.inl ⟨by kernel_rfl, ?_⟩) (by assumption) ?_
        · rintro w ⟨⟨h1, h2, h3⟩, h4, h5, h6⟩
          go_simp
        obtain ⟨g0, g1, g2⟩ := ob1.three
        have f0 := ob1.f 0
        have f1 := ob1.f 1
        have f2 := ob1.f 2
        refine wpAnyH_ready (rs := [15]) (by kernel_rfl) (by simp) ?_
        refine AllReadyH.cons rfl (fun K hK => ?_) AllReadyH.nil
        go_simp
        have OB := ((ob1.upd (i := 0) (by simp) (.int .i64 y1)).upd (i := 1) (by simp) (.int .u64 y2)).upd (i := 2) (by simp) (.int .u64 y3)
        refine hK.out _ _ (by refine ⟨⟨?_, ?_, ?_⟩, ?_, ?_, ?_⟩ <;> repeat (first | (with_reducible exact hHeld.1.1) | (with_reducible exact hHeld.1.2.1) | (with_reducible exact hHeld.1.2.2) | (with_reducible exact hHeld.2.1) | (with_reducible exact hHeld.2.2.1) | (with_reducible exact hHeld.2.2.2) | (with_reducible refine (cell_far (by omega)).trans ?_))) (fun hHeld => ?_)
        clear hK K
        refine wpAnyH_done (by kernel_rfl) ?_ _
        have hbx : w.heap.size + 1 + 1 < w2.heap.size := by omega
        have hbx0 : (((w.alloc (.cells #[.int .i64 k, .int .i64 p, .int .i64 m] 24)).alloc (.cells #[.int .i64 a, .int .i64 b, .int .i64 c] 22)).alloc (.cells #[.int .i64 0, .int .u64 0, .int .u64 0] 67)).heap.size ≤ w2.heap.size := by simp only [World.size_alloc]; omega
        have EF : Ext (((w.alloc (.cells #[.int .i64 k, .int .i64 p, .int .i64 m] 24)).alloc (.cells #[.int .i64 a, .int .i64 b, .int .i64 c] 22)).alloc (.cells #[.int .i64 0, .int .u64 0, .int .u64 0] 67)) (((w3.setCell ⟨w2.heap.size, 0, none⟩ (.int .i64 y1)).setCell ⟨w2.heap.size, 1, none⟩ (.int .u64 y2)).setCell ⟨w2.heap.size, 2, none⟩ (.int .u64 y3)) := (((((((Ext.drew (Ext.refl _)).trans e1).trans e2).alloc _).trans e3).setCell hbx0 _).setCell hbx0 _).setCell hbx0 _
        have OBf : Cb (((w3.setCell ⟨w2.heap.size, 0, none⟩ (.int .i64 y1)).setCell ⟨w2.heap.size, 1, none⟩ (.int .u64 y2)).setCell ⟨w2.heap.size, 2, none⟩ (.int .u64 y3)) (w2.heap.size) [.int .i64 y1, .int .u64 y2, .int .u64 y3] := OB
        have HR := HB2.out.ext EF
        have EW := HX.out.trans EF
        clear EF HB0 HB1 HB2 HX g0 g1 g2 f0 f1 f2 OB c0 c1 c2 n0 n1 n2 k08
        have HOW := Lib.hid (And.intro u2 u3)
        have hy1 : I64 y1 := by unfold I64; omega
        have HY := Lib.hid hy1
        clear hy1
        generalize (((w3.setCell ⟨w2.heap.size, 0, none⟩ (.int .i64 y1)).setCell ⟨w2.heap.size, 1, none⟩ (.int .u64 y2)).setCell ⟨w2.heap.size, 2, none⟩ (.int .u64 y3)) = wf at OBf HR EW hHeld ⊢
        obtain ⟨⟨c0, c1, c2⟩, n0, n1, n2⟩ := hHeld
        obtain ⟨v0, v1, v2⟩ := OBf.three
        by_cases h5 : k = 5
        · subst h5
          have OB2 : Cb _ _ [.int .i64 y1, .int .u64 y2, .int .u64 pz] := OBf.upd (i := 2) (by simp) (.int .u64 pz)
          have HR2 := HR.far (B := w2.heap.size) (by omega) 2 (.int .u64 pz)
          have ff := OBf.f 2
          obtain ⟨q0, q1, q2⟩ := OB2.three
          have r0 := HR2.f 0
          have r1 := HR2.f 1
          have r2 := HR2.f 2
          obtain ⟨s0, s1, s2⟩ := HR2.three
          have HRF := ((HR2.upd (i := 0) (by simp) (.int .i64 y1)).upd (i := 1) (by simp) (.int .u64 y2)).upd (i := 2) (by simp) (.int .u64 pz)
          obtain ⟨t0, t1, t2⟩ : _ ∧ _ ∧ _ := Cb.three (x := .int .i64 y1) (y := .int .u64 y2) (z := .int .u64 pz) HRF
          have HEW := Lib.hid EW
          clear OBf HR EW HRF OB2 HR2
          go_wp2_with (first | (go_at_call 28; (with_reducible refine (HP.out _).mono ?_); rintro e w9 ⟨rfl, rfl⟩))
          refine bodyPost_ret (v := ov ⟨y1, y2, pz⟩) (by simp [results, Tryz.results29, go_sem, t0, t1, t2]) rfl ⟨⟨y1, y2, pz⟩, ⟨HY.out, HOW.out.1, hpu.out⟩, rfl, ?_⟩
          repeat (first | (with_reducible exact HEW.out) | (with_reducible refine Ext.setCell ?_ (by omega) _))
        · have b5 : (k == 5) = false := by simpa using h5
          by_cases h8 : y1 = 8
          · subst h8
            have OB2 : Cb _ _ [.int .i64 8, .int .u64 y2, .int .u64 pz] := OBf.upd (i := 2) (by simp) (.int .u64 pz)
            have HR2 := HR.far (B := w2.heap.size) (by omega) 2 (.int .u64 pz)
            have ff := OBf.f 2
            obtain ⟨q0, q1, q2⟩ := OB2.three
            have r0 := HR2.f 0
            have r1 := HR2.f 1
            have r2 := HR2.f 2
            obtain ⟨s0, s1, s2⟩ := HR2.three
            have HRF := ((HR2.upd (i := 0) (by simp) (.int .i64 8)).upd (i := 1) (by simp) (.int .u64 y2)).upd (i := 2) (by simp) (.int .u64 pz)
            obtain ⟨t0, t1, t2⟩ : _ ∧ _ ∧ _ := Cb.three (x := .int .i64 8) (y := .int .u64 y2) (z := .int .u64 pz) HRF
            have HEW := Lib.hid EW
            clear OBf HR EW HRF OB2 HR2
            go_wp2_with (first | (go_at_call 28; (with_reducible refine (HP.out _).mono ?_); rintro e w9 ⟨rfl, rfl⟩))
            refine bodyPost_ret (v := ov ⟨8, y2, pz⟩) (by simp [results, Tryz.results29, go_sem, t0, t1, t2]) rfl ⟨⟨8, y2, pz⟩, ⟨HY.out, HOW.out.1, hpu.out⟩, rfl, ?_⟩
            repeat (first | (with_reducible exact HEW.out) | (with_reducible refine Ext.setCell ?_ (by omega) _))
          · have b8 : (y1 == 8) = false := by simpa using h8
            obtain ⟨q0, q1, q2⟩ := OBf.three
            have r0 := HR.f 0
            have r1 := HR.f 1
            have r2 := HR.f 2
            obtain ⟨s0, s1, s2⟩ := HR.three
            have HRF := ((HR.upd (i := 0) (by simp) (.int .i64 y1)).upd (i := 1) (by simp) (.int .u64 y2)).upd (i := 2) (by simp) (.int .u64 y3)
            obtain ⟨t0, t1, t2⟩ : _ ∧ _ ∧ _ := Cb.three (x := .int .i64 y1) (y := .int .u64 y2) (z := .int .u64 y3) HRF
            have HEW := Lib.hid EW
            clear OBf HR EW HRF 
            go_wp2_with (fail)
            refine bodyPost_ret (v := ov ⟨y1, y2, y3⟩) (by simp [results, Tryz.results29, go_sem, t0, t1, t2]) rfl ⟨⟨y1, y2, y3⟩, ⟨HY.out, HOW.out.1, HOW.out.2⟩, rfl, ?_⟩
            repeat (first | (with_reducible exact HEW.out) | (with_reducible refine Ext.setCell ?_ (by omega) _))
    · go_simp
      have ob0 := Cb.at (B := w1.heap.size) [.int .i64 0, .int .u64 0, .int .u64 0] rfl (by rfl) (X := w1) (t := 67)
      refine hK.out _ _ ⟨⟨Ext.cell (Ext.new _ _) hHeld.1.1, Ext.cell (Ext.new _ _) hHeld.1.2.1, Ext.cell (Ext.new _ _) hHeld.1.2.2⟩, Ext.cell (Ext.new _ _) hHeld.2.1, Ext.cell (Ext.new _ _) hHeld.2.2.1, Ext.cell (Ext.new _ _) hHeld.2.2.2⟩ (fun hHeld => ?_)
      clear hK K
      refine wpAnyH_ready (rs := [8]) (by kernel_rfl) (by simp) ?_
      refine AllReadyH.cons rfl (fun K hK => ?_) AllReadyH.nil
      go_simp
      refine (HK.out _).mono ?_
      rintro e w2 ⟨y2, u2, _, rfl, e2⟩
      have zz1 := e2.size
      simp only [World.size_alloc] at zz1
      have ob1 := ob0.ext e2
      refine hK.out _ _ ⟨⟨Ext.cell e2 hHeld.1.1, Ext.cell e2 hHeld.1.2.1, Ext.cell e2 hHeld.1.2.2⟩, Ext.cell e2 hHeld.2.1, Ext.cell e2 hHeld.2.2.1, Ext.cell e2 hHeld.2.2.2⟩ (fun hHeld => ?_)
      clear hK K
      refine wpAnyH_ready (rs := [12]) (by kernel_rfl) (by simp) ?_
      refine AllReadyH.cons rfl (fun K hK => ?_) AllReadyH.nil
      go_simp
      refine (HW.out _).mono ?_
      rintro e w3 ⟨y3, u3, rfl, e3⟩
      have zz2 := e3.size
      have ob2 := ob1.ext e3
      refine hK.out _ _ ⟨⟨Ext.cell e3 hHeld.1.1, Ext.cell e3 hHeld.1.2.1, Ext.cell e3 hHeld.1.2.2⟩, Ext.cell e3 hHeld.2.1, Ext.cell e3 hHeld.2.2.1, Ext.cell e3 hHeld.2.2.2⟩ (fun hHeld => ?_)
      clear hK K
      refine wpAnyH_take (i := 13) (v := .agg #[.int .i64 y1, .int .u64 y2, .int .u64 y3]) rfl (by kernel_rfl) (by kernel_rfl) (by kernel_rfl) (fun _ _ _ h => h) (Or.inl ⟨by kernel_rfl, ?_⟩) (by assumption) ?_
      · rintro w ⟨⟨h1, h2, h3⟩, h4, h5, h6⟩
        go_simp
      obtain ⟨g0, g1, g2⟩ := ob2.three
      have f0 := ob2.f 0
      have f1 := ob2.f 1
      have f2 := ob2.f 2
      refine wpAnyH_ready (rs := [15]) (by kernel_rfl) (by simp) ?_
      refine AllReadyH.cons rfl (fun K hK => ?_) AllReadyH.nil
      go_simp
      have OB := ((ob2.upd (i := 0) (by simp) (.int .i64 y1)).upd (i := 1) (by simp) (.int .u64 y2)).upd (i := 2) (by simp) (.int .u64 y3)
      refine hK.out _ _ (by refine ⟨⟨?_, ?_, ?_⟩, ?_, ?_, ?_⟩ <;> repeat (first | (with_reducible exact hHeld.1.1) | (with_reducible exact hHeld.1.2.1) | (with_reducible exact hHeld.1.2.2) | (with_reducible exact hHeld.2.1) | (with_reducible exact hHeld.2.2.1) | (with_reducible exact hHeld.2.2.2) | (with_reducible refine (cell_far (by omega)).trans ?_))) (fun hHeld => ?_)
      clear hK K
      refine wpAnyH_done (by kernel_rfl) ?_ _
      have hbx : w.heap.size + 1 + 1 < w1.heap.size := by omega
      have hbx0 : (((w.alloc (.cells #[.int .i64 k, .int .i64 p, .int .i64 m] 24)).alloc (.cells #[.int .i64 a, .int .i64 b, .int .i64 c] 22)).alloc (.cells #[.int .i64 0, .int .u64 0, .int .u64 0] 67)).heap.size ≤ w1.heap.size := by simp only [World.size_alloc]; omega
      have EF : Ext (((w.alloc (.cells #[.int .i64 k, .int .i64 p, .int .i64 m] 24)).alloc (.cells #[.int .i64 a, .int .i64 b, .int .i64 c] 22)).alloc (.cells #[.int .i64 0, .int .u64 0, .int .u64 0] 67)) (((w3.setCell ⟨w1.heap.size, 0, none⟩ (.int .i64 y1)).setCell ⟨w1.heap.size, 1, none⟩ (.int .u64 y2)).setCell ⟨w1.heap.size, 2, none⟩ (.int .u64 y3)) := (((((((Ext.drew (Ext.refl _)).trans e1).alloc _).trans e2).trans e3).setCell hbx0 _).setCell hbx0 _).setCell hbx0 _
      have OBf : Cb (((w3.setCell ⟨w1.heap.size, 0, none⟩ (.int .i64 y1)).setCell ⟨w1.heap.size, 1, none⟩ (.int .u64 y2)).setCell ⟨w1.heap.size, 2, none⟩ (.int .u64 y3)) (w1.heap.size) [.int .i64 y1, .int .u64 y2, .int .u64 y3] := OB
      have HR := HB2.out.ext EF
      have EW := HX.out.trans EF
      clear EF HB0 HB1 HB2 HX g0 g1 g2 f0 f1 f2 OB c0 c1 c2 n0 n1 n2 k08
      have HOW := Lib.hid (And.intro u2 u3)
      have hy1 : I64 y1 := by unfold I64; omega
      have HY := Lib.hid hy1
      clear hy1
      generalize (((w3.setCell ⟨w1.heap.size, 0, none⟩ (.int .i64 y1)).setCell ⟨w1.heap.size, 1, none⟩ (.int .u64 y2)).setCell ⟨w1.heap.size, 2, none⟩ (.int .u64 y3)) = wf at OBf HR EW hHeld ⊢
      obtain ⟨⟨c0, c1, c2⟩, n0, n1, n2⟩ := hHeld
      obtain ⟨v0, v1, v2⟩ := OBf.three
      by_cases h5 : k = 5
      · subst h5
        have OB2 : Cb _ _ [.int .i64 y1, .int .u64 y2, .int .u64 pz] := OBf.upd (i := 2) (by simp) (.int .u64 pz)
        have HR2 := HR.far (B := w1.heap.size) (by omega) 2 (.int .u64 pz)
        have ff := OBf.f 2
        obtain ⟨q0, q1, q2⟩ := OB2.three
        have r0 := HR2.f 0
        have r1 := HR2.f 1
        have r2 := HR2.f 2
        obtain ⟨s0, s1, s2⟩ := HR2.three
        have HRF := ((HR2.upd (i := 0) (by simp) (.int .i64 y1)).upd (i := 1) (by simp) (.int .u64 y2)).upd (i := 2) (by simp) (.int .u64 pz)
        obtain ⟨t0, t1, t2⟩ : _ ∧ _ ∧ _ := Cb.three (x := .int .i64 y1) (y := .int .u64 y2) (z := .int .u64 pz) HRF
        have HEW := Lib.hid EW
        clear OBf HR EW HRF OB2 HR2
        go_wp2_with (first | (go_at_call 28; (with_reducible refine (HP.out _).mono ?_); rintro e w9 ⟨rfl, rfl⟩))
        refine bodyPost_ret (v := ov ⟨y1, y2, pz⟩) (by simp [results, Tryz.results29, go_sem, t0, t1, t2]) rfl ⟨⟨y1, y2, pz⟩, ⟨HY.out, HOW.out.1, hpu.out⟩, rfl, ?_⟩
        repeat (first | (with_reducible exact HEW.out) | (with_reducible refine Ext.setCell ?_ (by omega) _))
      · have b5 : (k == 5) = false := by simpa using h5
        by_cases h8 : y1 = 8
        · subst h8
          have OB2 : Cb _ _ [.int .i64 8, .int .u64 y2, .int .u64 pz] := OBf.upd (i := 2) (by simp) (.int .u64 pz)
          have HR2 := HR.far (B := w1.heap.size) (by omega) 2 (.int .u64 pz)
          have ff := OBf.f 2
          obtain ⟨q0, q1, q2⟩ := OB2.three
          have r0 := HR2.f 0
          have r1 := HR2.f 1
          have r2 := HR2.f 2
          obtain ⟨s0, s1, s2⟩ := HR2.three
          have HRF := ((HR2.upd (i := 0) (by simp) (.int .i64 8)).upd (i := 1) (by simp) (.int .u64 y2)).upd (i := 2) (by simp) (.int .u64 pz)
          obtain ⟨t0, t1, t2⟩ : _ ∧ _ ∧ _ := Cb.three (x := .int .i64 8) (y := .int .u64 y2) (z := .int .u64 pz) HRF
          have HEW := Lib.hid EW
          clear OBf HR EW HRF OB2 HR2
          go_wp2_with (first | (go_at_call 28; (with_reducible refine (HP.out _).mono ?_); rintro e w9 ⟨rfl, rfl⟩))
          refine bodyPost_ret (v := ov ⟨8, y2, pz⟩) (by simp [results, Tryz.results29, go_sem, t0, t1, t2]) rfl ⟨⟨8, y2, pz⟩, ⟨HY.out, HOW.out.1, hpu.out⟩, rfl, ?_⟩
          repeat (first | (with_reducible exact HEW.out) | (with_reducible refine Ext.setCell ?_ (by omega) _))
        · have b8 : (y1 == 8) = false := by simpa using h8
          obtain ⟨q0, q1, q2⟩ := OBf.three
          have r0 := HR.f 0
          have r1 := HR.f 1
          have r2 := HR.f 2
          obtain ⟨s0, s1, s2⟩ := HR.three
          have HRF := ((HR.upd (i := 0) (by simp) (.int .i64 y1)).upd (i := 1) (by simp) (.int .u64 y2)).upd (i := 2) (by simp) (.int .u64 y3)
          obtain ⟨t0, t1, t2⟩ : _ ∧ _ ∧ _ := Cb.three (x := .int .i64 y1) (y := .int .u64 y2) (z := .int .u64 y3) HRF
          have HEW := Lib.hid EW
          clear OBf HR EW HRF 
          go_wp2_with (fail)
          refine bodyPost_ret (v := ov ⟨y1, y2, y3⟩) (by simp [results, Tryz.results29, go_sem, t0, t1, t2]) rfl ⟨⟨y1, y2, y3⟩, ⟨HY.out, HOW.out.1, HOW.out.2⟩, rfl, ?_⟩
          repeat (first | (with_reducible exact HEW.out) | (with_reducible refine Ext.setCell ?_ (by omega) _))
  · go_simp
    have ob0 := Cb.at (B := w.heap.size + 1 + 1 + 1) [.int .i64 0, .int .u64 0, .int .u64 0] rfl (by simp) (X := ((((w.alloc (.cells #[.int .i64 k, .int .i64 p, .int .i64 m] 24)).alloc (.cells #[.int .i64 a, .int .i64 b, .int .i64 c] 22)).alloc (.cells #[.int .i64 0, .int .u64 0, .int .u64 0] 67)).drew)) (t := 67)
    refine hK.out _ _ ⟨⟨Ext.cell (Ext.new _ _) hHeld.1.1, Ext.cell (Ext.new _ _) hHeld.1.2.1, Ext.cell (Ext.new _ _) hHeld.1.2.2⟩, Ext.cell (Ext.new _ _) hHeld.2.1, Ext.cell (Ext.new _ _) hHeld.2.2.1, Ext.cell (Ext.new _ _) hHeld.2.2.2⟩ (fun hHeld => ?_)
    clear hK K
    refine wpAnyH_ready (rs := [3]) (by kernel_rfl) (by simp) ?_
    refine AllReadyH.cons rfl (fun K hK => ?_) AllReadyH.nil
    go_simp
    refine (HC.out _).mono ?_
    rintro e w1 ⟨y1, ya, yb, rfl, e1⟩
    have zz0 := e1.size
    simp only [World.size_alloc, World.size_drew] at zz0
    have ob1 := ob0.ext e1
    refine hK.out _ _ ⟨⟨Ext.cell e1 hHeld.1.1, Ext.cell e1 hHeld.1.2.1, Ext.cell e1 hHeld.1.2.2⟩, Ext.cell e1 hHeld.2.1, Ext.cell e1 hHeld.2.2.1, Ext.cell e1 hHeld.2.2.2⟩ (fun hHeld => ?_)
    clear hK K
    refine wpAnyH_ready (rs := [8]) (by kernel_rfl) (by simp) ?_
    refine AllReadyH.cons rfl (fun K hK => ?_) AllReadyH.nil
    go_simp
    refine (HK.out _).mono ?_
    rintro e w2 ⟨y2, u2, _, rfl, e2⟩
    have zz1 := e2.size
    have ob2 := ob1.ext e2
    refine hK.out _ _ ⟨⟨Ext.cell e2 hHeld.1.1, Ext.cell e2 hHeld.1.2.1, Ext.cell e2 hHeld.1.2.2⟩, Ext.cell e2 hHeld.2.1, Ext.cell e2 hHeld.2.2.1, Ext.cell e2 hHeld.2.2.2⟩ (fun hHeld => ?_)
    clear hK K
    refine wpAnyH_ready (rs := [12]) (by kernel_rfl) (by simp) ?_
    refine AllReadyH.cons rfl (fun K hK => ?_) AllReadyH.nil
    go_simp
    refine (HW.out _).mono ?_
    rintro e w3 ⟨y3, u3, rfl, e3⟩
    have zz2 := e3.size
    have ob3 := ob2.ext e3
    refine hK.out _ _ ⟨⟨Ext.cell e3 hHeld.1.1, Ext.cell e3 hHeld.1.2.1, Ext.cell e3 hHeld.1.2.2⟩, Ext.cell e3 hHeld.2.1, Ext.cell e3 hHeld.2.2.1, Ext.cell e3 hHeld.2.2.2⟩ (fun hHeld => ?_)
    clear hK K
    refine wpAnyH_take (i := 13) (v := .agg #[.int .i64 y1, .int .u64 y2, .int .u64 y3]) rfl (by kernel_rfl) (by kernel_rfl) (by kernel_rfl) (fun _ _ _ h => h) (Or.inl ⟨by kernel_rfl, ?_⟩) (by assumption) ?_
    · rintro w ⟨⟨h1, h2, h3⟩, h4, h5, h6⟩
      go_simp
    obtain ⟨g0, g1, g2⟩ := ob3.three
    have f0 := ob3.f 0
    have f1 := ob3.f 1
    have f2 := ob3.f 2
    refine wpAnyH_ready (rs := [15]) (by kernel_rfl) (by simp) ?_
    refine AllReadyH.cons rfl (fun K hK => ?_) AllReadyH.nil
    go_simp
    have OB := ((ob3.upd (i := 0) (by simp) (.int .i64 y1)).upd (i := 1) (by simp) (.int .u64 y2)).upd (i := 2) (by simp) (.int .u64 y3)
    refine hK.out _ _ (by refine ⟨⟨?_, ?_, ?_⟩, ?_, ?_, ?_⟩ <;> repeat (first | (with_reducible exact hHeld.1.1) | (with_reducible exact hHeld.1.2.1) | (with_reducible exact hHeld.1.2.2) | (with_reducible exact hHeld.2.1) | (with_reducible exact hHeld.2.2.1) | (with_reducible exact hHeld.2.2.2) | (with_reducible refine (cell_far (by omega)).trans ?_))) (fun hHeld => ?_)
    clear hK K
    refine wpAnyH_done (by kernel_rfl) ?_ _
    have hbx : w.heap.size + 1 + 1 < w.heap.size + 1 + 1 + 1 := by omega
    have hbx0 : (((w.alloc (.cells #[.int .i64 k, .int .i64 p, .int .i64 m] 24)).alloc (.cells #[.int .i64 a, .int .i64 b, .int .i64 c] 22)).alloc (.cells #[.int .i64 0, .int .u64 0, .int .u64 0] 67)).heap.size ≤ w.heap.size + 1 + 1 + 1 := by simp only [World.size_alloc]; omega
    have EF : Ext (((w.alloc (.cells #[.int .i64 k, .int .i64 p, .int .i64 m] 24)).alloc (.cells #[.int .i64 a, .int .i64 b, .int .i64 c] 22)).alloc (.cells #[.int .i64 0, .int .u64 0, .int .u64 0] 67)) (((w3.setCell ⟨w.heap.size + 1 + 1 + 1, 0, none⟩ (.int .i64 y1)).setCell ⟨w.heap.size + 1 + 1 + 1, 1, none⟩ (.int .u64 y2)).setCell ⟨w.heap.size + 1 + 1 + 1, 2, none⟩ (.int .u64 y3)) := ((((((Ext.drew (Ext.new _ _)).trans e1).trans e2).trans e3).setCell hbx0 _).setCell hbx0 _).setCell hbx0 _
    have OBf : Cb (((w3.setCell ⟨w.heap.size + 1 + 1 + 1, 0, none⟩ (.int .i64 y1)).setCell ⟨w.heap.size + 1 + 1 + 1, 1, none⟩ (.int .u64 y2)).setCell ⟨w.heap.size + 1 + 1 + 1, 2, none⟩ (.int .u64 y3)) (w.heap.size + 1 + 1 + 1) [.int .i64 y1, .int .u64 y2, .int .u64 y3] := OB
    have HR := HB2.out.ext EF
    have EW := HX.out.trans EF
    clear EF HB0 HB1 HB2 HX g0 g1 g2 f0 f1 f2 OB c0 c1 c2 n0 n1 n2 k08
    have HOW := Lib.hid (And.intro u2 u3)
    have hy1 : I64 y1 := by unfold I64; omega
    have HY := Lib.hid hy1
    clear hy1
    generalize (((w3.setCell ⟨w.heap.size + 1 + 1 + 1, 0, none⟩ (.int .i64 y1)).setCell ⟨w.heap.size + 1 + 1 + 1, 1, none⟩ (.int .u64 y2)).setCell ⟨w.heap.size + 1 + 1 + 1, 2, none⟩ (.int .u64 y3)) = wf at OBf HR EW hHeld ⊢
    obtain ⟨⟨c0, c1, c2⟩, n0, n1, n2⟩ := hHeld
    obtain ⟨v0, v1, v2⟩ := OBf.three
    by_cases h5 : k = 5
    · subst h5
      have OB2 : Cb _ _ [.int .i64 y1, .int .u64 y2, .int .u64 pz] := OBf.upd (i := 2) (by simp) (.int .u64 pz)
      have HR2 := HR.far (B := w.heap.size + 1 + 1 + 1) (by omega) 2 (.int .u64 pz)
      have ff := OBf.f 2
      obtain ⟨q0, q1, q2⟩ := OB2.three
      have r0 := HR2.f 0
      have r1 := HR2.f 1
      have r2 := HR2.f 2
      obtain ⟨s0, s1, s2⟩ := HR2.three
      have HRF := ((HR2.upd (i := 0) (by simp) (.int .i64 y1)).upd (i := 1) (by simp) (.int .u64 y2)).upd (i := 2) (by simp) (.int .u64 pz)
      obtain ⟨t0, t1, t2⟩ : _ ∧ _ ∧ _ := Cb.three (x := .int .i64 y1) (y := .int .u64 y2) (z := .int .u64 pz) HRF
      have HEW := Lib.hid EW
      clear OBf HR EW HRF OB2 HR2
      go_wp2_with (first | (go_at_call 28; (with_reducible refine (HP.out _).mono ?_); rintro e w9 ⟨rfl, rfl⟩))
      refine bodyPost_ret (v := ov ⟨y1, y2, pz⟩) (by simp [results, Tryz.results29, go_sem, t0, t1, t2]) rfl ⟨⟨y1, y2, pz⟩, ⟨HY.out, HOW.out.1, hpu.out⟩, rfl, ?_⟩
      repeat (first | (with_reducible exact HEW.out) | (with_reducible refine Ext.setCell ?_ (by omega) _))
    · have b5 : (k == 5) = false := by simpa using h5
      by_cases h8 : y1 = 8
      · subst h8
        have OB2 : Cb _ _ [.int .i64 8, .int .u64 y2, .int .u64 pz] := OBf.upd (i := 2) (by simp) (.int .u64 pz)
        have HR2 := HR.far (B := w.heap.size + 1 + 1 + 1) (by omega) 2 (.int .u64 pz)
        have ff := OBf.f 2
        obtain ⟨q0, q1, q2⟩ := OB2.three
        have r0 := HR2.f 0
        have r1 := HR2.f 1
        have r2 := HR2.f 2
        obtain ⟨s0, s1, s2⟩ := HR2.three
        have HRF := ((HR2.upd (i := 0) (by simp) (.int .i64 8)).upd (i := 1) (by simp) (.int .u64 y2)).upd (i := 2) (by simp) (.int .u64 pz)
        obtain ⟨t0, t1, t2⟩ : _ ∧ _ ∧ _ := Cb.three (x := .int .i64 8) (y := .int .u64 y2) (z := .int .u64 pz) HRF
        have HEW := Lib.hid EW
        clear OBf HR EW HRF OB2 HR2
        go_wp2_with (first | (go_at_call 28; (with_reducible refine (HP.out _).mono ?_); rintro e w9 ⟨rfl, rfl⟩))
        refine bodyPost_ret (v := ov ⟨8, y2, pz⟩) (by simp [results, Tryz.results29, go_sem, t0, t1, t2]) rfl ⟨⟨8, y2, pz⟩, ⟨HY.out, HOW.out.1, hpu.out⟩, rfl, ?_⟩
        repeat (first | (with_reducible exact HEW.out) | (with_reducible refine Ext.setCell ?_ (by omega) _))
      · have b8 : (y1 == 8) = false := by simpa using h8
        obtain ⟨q0, q1, q2⟩ := OBf.three
        have r0 := HR.f 0
        have r1 := HR.f 1
        have r2 := HR.f 2
        obtain ⟨s0, s1, s2⟩ := HR.three
        have HRF := ((HR.upd (i := 0) (by simp) (.int .i64 y1)).upd (i := 1) (by simp) (.int .u64 y2)).upd (i := 2) (by simp) (.int .u64 y3)
        obtain ⟨t0, t1, t2⟩ : _ ∧ _ ∧ _ := Cb.three (x := .int .i64 y1) (y := .int .u64 y2) (z := .int .u64 y3) HRF
        have HEW := Lib.hid EW
        clear OBf HR EW HRF 
        go_wp2_with (fail)
        refine bodyPost_ret (v := ov ⟨y1, y2, y3⟩) (by simp [results, Tryz.results29, go_sem, t0, t1, t2]) rfl ⟨⟨y1, y2, y3⟩, ⟨HY.out, HOW.out.1, HOW.out.2⟩, rfl, ?_⟩
        repeat (first | (with_reducible exact HEW.out) | (with_reducible refine Ext.setCell ?_ (by omega) _))

end Go.Proofs.YtmonkcekkhfafaaGreatDoor.Law

