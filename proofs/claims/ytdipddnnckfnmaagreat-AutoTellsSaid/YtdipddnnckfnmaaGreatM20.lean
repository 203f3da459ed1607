/-
  Parts of a proof, one behind the other: LanDo, LanRead, LanOut, LanTake. Each says its own conditions.
-/
import Derived.Test.YtdipddnnckfnmaaGreatM19

/- LanDo:
  Do: what a call does to a state, and tells. Conditions: the state's and the call's words are words, and what the object does to a state of its own.
-/
namespace Go.Proofs.YtdipddnnckfnmaaGreat.Lan
open Go.RowKit (Below intOf)
open Go.Proofs.YtdipddnnckfnmaaGreat.Aut
open Go.Proofs.YtdipddnnckfnmaaGreat.Reg (cf bx fits_any)

/-- A state in a box, whose rows are one's own. -/
structure WB (W : World) (M : Nat) (w : World) (B : Nat) (s : St) (a v t : Sl) : Prop where
  P : PB W M w B s a v t
  R : Rows W.heap.size w a v t s
  m : ∀ g, ((Value.slice a.a a.n a.c).ownBlock = some g ∨ (Value.slice v.a v.n v.c).ownBlock = some g ∨ (Value.slice t.a t.n t.c).ownBlock = some g) → g < M ∧ g ≠ B
theorem WB.ext {W : World} {M : Nat} {w w' : World} {B : Nat} {s : St} {a v t : Sl} (h : WB W M w B s a v t) (e : Ext w w') : WB W M w' B s a v t := ⟨h.P.ext e, h.R.ext e, h.m⟩
/-- What an object does to a state. -/
def CI (k m : Int) (s : St) (o : Cl) (T : TypeId) (V : Value) : Prop := ∃ f V',
  (∀ w, Sem.run Tryz.prog (method 267 T V "whitewash/auto.call") w = .ok (f, V') w) ∧ (∀ a b w, Sem.run Tryz.prog (callFunc f #[V', a, b]) w = .ok (.enter f #[V', a, b]) w) ∧
    ∀ W M w B a v t, WB W M w B s a v t → Calls Tryz.prog f #[V', .pointer (some ⟨B, 0, none⟩), opv o] w fun e w' => TE (doS k m s o).2 e ∧ QB W M w w' B (doS k m s o).1
/-- What Do answers. -/
def DoE (x : St × Rs × Int) (w : World) (e : Ending) (w' : World) : Prop := Ext w w' ∧ ∃ k v t, e = .returned (.tuple #[sv x.1.reg k v t x.1.closed, rv x.2.1.1 x.2.1.2, .int .i64 x.2.2]) ∧ SS w' k v t x.1

/-- And where its rows do not lie: in what there was. -/
def DoE2 (x : St × Rs × Int) (w : World) (e : Ending) (w' : World) : Prop := Ext w w' ∧ ∃ k v t, e = .returned (.tuple #[sv x.1.reg k v t x.1.closed, rv x.2.1.1 x.2.1.2, .int .i64 x.2.2]) ∧ SS w' k v t x.1 ∧ ∀ B, B < w.heap.size → OffS k v t B
theorem DoE2.one {x : St × Rs × Int} {w w' : World} {e : Ending} (h : DoE2 x w e w') : DoE x w e w' := by
  obtain ⟨h1, k, v, t, h2, h3, _⟩ := h
  exact ⟨h1, k, v, t, h2, h3⟩

/-- The boxes of Do. -/
abbrev doW (w : World) (k p m r : Int) (a v t : Sl) (cl : Bool) (oc ok ov' : Int) : World := ((((w.alloc (bx k p m)).alloc (sb r a v t cl)).alloc (ob oc ok ov')).alloc (sb 0 nilSl nilSl nilSl false)).alloc rb0
structure DB (w0 w : World) (k p m r : Int) (a v t : Sl) (cl : Bool) (oc ok ov' : Int) : Prop where
  c : Three w w0.heap.size k p m
  s : Five w (w0.heap.size + 1) r a v t cl
  o : w.cell? ⟨w0.heap.size + 1 + 1, 0, none⟩ = some (.int .i64 oc) ∧ w.cell? ⟨w0.heap.size + 1 + 1, 1, none⟩ = some (.int .u64 ok) ∧ w.cell? ⟨w0.heap.size + 1 + 1, 2, none⟩ = some (.int .u64 ov')
  x : Bx w (w0.heap.size + 1 + 1 + 1)
  y : w.cell? ⟨w0.heap.size + 1 + 1 + 1 + 1, 0, none⟩ = some (.int .i64 0) ∧ w.cell? ⟨w0.heap.size + 1 + 1 + 1 + 1, 1, none⟩ = some (.int .u64 0)
  z : w.frozen? ⟨w0.heap.size + 1 + 1 + 1 + 1, 0, none⟩ = false ∧ w.frozen? ⟨w0.heap.size + 1 + 1 + 1 + 1, 1, none⟩ = false
theorem DB.ext {w0 w w' : World} {k p m r : Int} {a v t : Sl} {cl : Bool} {oc ok ov' : Int} (h : DB w0 w k p m r a v t cl oc ok ov') (e : Ext w w') : DB w0 w' k p m r a v t cl oc ok ov' :=
  ⟨h.c.ext e, h.s.ext e, ⟨e.cell h.o.1, e.cell h.o.2.1, e.cell h.o.2.2⟩, h.x.ext e, ⟨e.cell h.y.1, e.cell h.y.2⟩, ⟨(e.frozen h.y.1).trans h.z.1, (e.frozen h.y.2).trans h.z.2⟩⟩
theorem db_new (w : World) (k p m r : Int) (a v t : Sl) (cl : Bool) (oc ok ov' : Int) : DB w (doW w k p m r a v t cl oc ok ov') k p m r a v t cl oc ok ov' := by
  obtain ⟨h1, h2, _⟩ := both_new w k p m r a v t cl
  have e1 : Ext ((w.alloc (bx k p m)).alloc (sb r a v t cl)) (doW w k p m r a v t cl oc ok ov') := ((Ext.new _ _).alloc _).alloc _
  have s2 : ((w.alloc (bx k p m)).alloc (sb r a v t cl)).heap.size = w.heap.size + 1 + 1 := by simp
  have s3 : (((w.alloc (bx k p m)).alloc (sb r a v t cl)).alloc (ob oc ok ov')).heap.size = w.heap.size + 1 + 1 + 1 := by simp
  have s4 : ((((w.alloc (bx k p m)).alloc (sb r a v t cl)).alloc (ob oc ok ov')).alloc (sb 0 nilSl nilSl nilSl false)).heap.size = w.heap.size + 1 + 1 + 1 + 1 := by simp
  have e2 : Ext (((w.alloc (bx k p m)).alloc (sb r a v t cl)).alloc (ob oc ok ov')) (doW w k p m r a v t cl oc ok ov') := (Ext.new _ _).alloc _
  have q : ∀ i (x : Value), #[Value.int .i64 oc, .int .u64 ok, .int .u64 ov'][i]? = some x → (((w.alloc (bx k p m)).alloc (sb r a v t cl)).alloc (ob oc ok ov')).cell? ⟨w.heap.size + 1 + 1, i, none⟩ = some x := fun i x h => by
    rw [← s2]; unfold World.cell?; rw [World.alloc_heap_new]; exact h
  refine ⟨h1.ext e1, h2.ext e1, ⟨e2.cell (q 0 _ rfl), e2.cell (q 1 _ rfl), e2.cell (q 2 _ rfl)⟩, ?_, ?_, ?_⟩
  · have h := bx_new (ob oc ok ov') 0 nilSl nilSl nilSl false ((w.alloc (bx k p m)).alloc (sb r a v t cl))
    rw [s2] at h
    exact h.ext (Ext.new _ _)
  · rw [← s4]; constructor <;> (unfold World.cell?; rw [World.alloc_heap_new]; rfl)
  · rw [← s4]; constructor <;> (unfold World.frozen?; rw [World.alloc_heap_new]; rfl)

theorem box_set {w : World} {b o B i : Nat} {v x : Value} (h : w.cell? ⟨b, o, none⟩ = some v) (hne : b ≠ B) : (w.setCell ⟨B, i, none⟩ x).cell? ⟨b, o, none⟩ = some v := (cell_far hne).trans h
theorem rb_first (o : Obj) (X : World) : (((X.alloc rb0).alloc o).cell? ⟨X.heap.size, 0, none⟩ = some (.int .i64 0) ∧ ((X.alloc rb0).alloc o).cell? ⟨X.heap.size, 1, none⟩ = some (.int .u64 0)) ∧ ((X.alloc rb0).alloc o).frozen? ⟨X.heap.size, 0, none⟩ = false ∧ ((X.alloc rb0).alloc o).frozen? ⟨X.heap.size, 1, none⟩ = false := by
  have h0 : (X.alloc rb0).cell? ⟨X.heap.size, 0, none⟩ = some (.int .i64 0) := by unfold World.cell?; rw [World.alloc_heap_new]; rfl
  have h1 : (X.alloc rb0).cell? ⟨X.heap.size, 1, none⟩ = some (.int .u64 0) := by unfold World.cell?; rw [World.alloc_heap_new]; rfl
  have z : ∀ i, (X.alloc rb0).frozen? ⟨X.heap.size, i, none⟩ = false := fun i => by unfold World.frozen?; rw [World.alloc_heap_new]; rfl
  exact ⟨⟨box_alloc h0, box_alloc h1⟩, fro_alloc h0 (z 0), fro_alloc h1 (z 1)⟩
theorem do_no {k p m : Int} {s : St} {o : Cl} (h : ¬ refusedS k p m s = 0) : doF k p m s o = (zeroS, (0, 0), refusedS k p m s) := by
  unfold refusedS at *; unfold doF
  by_cases h1 : fits k p m = true
  · rw [if_pos h1] at *
    by_cases h2 : rightS k p m s = true
    · rw [if_pos h2] at h; exact absurd rfl h
    · simp [h1, h2]
  · rw [if_neg h1, if_neg h1]
theorem do_yes {k p m : Int} {s : St} {o : Cl} (h : refusedS k p m s = 0) : fits k p m = true ∧ rightS k p m s = true ∧ doF k p m s o = ((doS k m s o).1, (doS k m s o).2, 0) := by
  unfold refusedS at h
  by_cases h1 : fits k p m = true
  · rw [if_pos h1] at h
    by_cases h2 : rightS k p m s = true
    · exact ⟨h1, h2, by unfold doF; rw [if_pos h1, if_pos h2]⟩
    · rw [if_neg h2] at h; cases h
  · rw [if_neg h1] at h; cases h

/-- What lies there behind the answer. -/
structure TL (w w6 : World) (B R : Nat) (d1 : St) (d2 d3 : Int) (a v t : Sl) : Prop where
  five : Five w6 B d1.reg a v t d1.closed
  ss : SS w6 a v t d1
  r0 : w6.cell? ⟨R, 0, none⟩ = some (.int .i64 d2)
  r1 : w6.cell? ⟨R, 1, none⟩ = some (.int .u64 d3)
  x : Bx w6 (w.heap.size + 1 + 1 + 1)
  y : w6.cell? ⟨w.heap.size + 1 + 1 + 1 + 1, 0, none⟩ = some (.int .i64 0) ∧ w6.cell? ⟨w.heap.size + 1 + 1 + 1 + 1, 1, none⟩ = some (.int .u64 0)
  z : w6.frozen? ⟨w.heap.size + 1 + 1 + 1 + 1, 0, none⟩ = false ∧ w6.frozen? ⟨w.heap.size + 1 + 1 + 1 + 1, 1, none⟩ = false
  o3 : OffS a v t (w.heap.size + 1 + 1 + 1)
  o4 : OffS a v t (w.heap.size + 1 + 1 + 1 + 1)
  e : Ext w w6
  oo : ∀ b, b < w.heap.size → OffS a v t b
theorem tl_new {w w1 W' w5 : World} {M B : Nat} {d1 : St} {d2 d3 k p m r : Int} {a0 v0 t0 : Sl} {cl : Bool} {oc ok ov' : Int} (hD : DB w w1 k p m r a0 v0 t0 cl oc ok ov') (hX : Ext w w1) (hQ : QB w1 M W' w5 B d1) (hs : w.heap.size + 5 ≤ w1.heap.size) (hW : w1.heap.size ≤ W'.heap.size) :
    ∃ a v t, TL w (w5.alloc (.cells #[.int .i64 d2, .int .u64 d3] 51)) B w5.heap.size d1 d2 d3 a v t := by
  obtain ⟨h1, a, v, t, h2, h3, h4⟩ := hQ
  have hE := h1.1
  have hN : Ext w5 (w5.alloc (.cells #[.int .i64 d2, .int .u64 d3] 51)) := Ext.new _ _
  have hd := (hD.ext hE).ext hN
  exact ⟨a, v, t, h2.ext hN, h3.ext hN, by unfold World.cell?; rw [World.alloc_heap_new]; rfl, by unfold World.cell?; rw [World.alloc_heap_new]; rfl, hd.x, hd.y, hd.z, h4 _ (.inl (by omega)) (by omega), h4 _ (.inl (by omega)) (by omega), (hX.trans hE).trans hN, fun b hb => h4 b (.inl (by omega)) (by omega)⟩
theorem tl_set {w w1 W' w5 : World} {M B R : Nat} {d1 : St} {d2 d3 k p m r : Int} {a0 v0 t0 : Sl} {cl : Bool} {oc ok ov' : Int} (hD : DB w w1 k p m r a0 v0 t0 cl oc ok ov') (hX : Ext w w1) (hQ : QB w1 M W' w5 B d1) (hs : w.heap.size + 5 ≤ w1.heap.size) (hW : w1.heap.size ≤ W'.heap.size)
    (hR : M ≤ R) (hR2 : R < W'.heap.size) (hB : B < M) (hM : w1.heap.size ≤ M) (r0 : w5.cell? ⟨R, 0, none⟩ = some (.int .i64 0)) (r1 : w5.cell? ⟨R, 1, none⟩ = some (.int .u64 0)) :
    ∃ a v t, TL w ((w5.setCell ⟨R, 0, none⟩ (.int .i64 d2)).setCell ⟨R, 1, none⟩ (.int .u64 d3)) B R d1 d2 d3 a v t := by
  obtain ⟨h1, a, v, t, h2, h3, h4⟩ := hQ
  have hE := h1.1
  have hd := hD.ext hE
  have hO := h4 R (.inr hR) hR2
  refine ⟨a, v, t, five_far (five_far h2 (by omega)) (by omega), (h3.set hO _ _).set hO _ _, ?_, ?_, (hd.x.set (by omega)).set (by omega), ⟨box_set (box_set hd.y.1 (by omega)) (by omega), box_set (box_set hd.y.2 (by omega)) (by omega)⟩, ⟨?_, ?_⟩, h4 _ (.inl (by omega)) (by omega), h4 _ (.inl (by omega)) (by omega), ((hX.trans hE).setCell (by omega) _).setCell (by omega) _, fun b hb => h4 b (.inl (by omega)) (by omega)⟩
  · exact set_five (set_same r0) (by decide)
  · exact set_same (by rw [set_far (by decide)]; exact r1)
  · rw [World.frozen?_setCell, World.frozen?_setCell]; exact hd.z.1
  · rw [World.frozen?_setCell, World.frozen?_setCell]; exact hd.z.2

set_option maxHeartbeats 4000000 in
set_option maxRecDepth 100000 in
theorem do_any2 (k p m : Int) (a v t : Sl) (s : St) (o : Cl) (w : World) (hS : SS w a v t s) (HCI : fits k p m = true → rightS k p m s = true → CI k m s o (oT k) (oV k m)) :
    Calls Tryz.prog 21 #[cf k p m, sv s.reg a v t s.closed, opv o] w (DoE2 (doF k p m s o) w) := by
  obtain ⟨oc, ok, ov'⟩ := o
  have X0' : Ext w (doW w k p m s.reg a v t s.closed oc ok ov') := ((((Ext.new w _).alloc _).alloc _).alloc _).alloc _
  have X0 := Lib.hid X0'
  have D0 := db_new w k p m s.reg a v t s.closed oc ok ov'
  have HRf := Lib.hid (refused_any k p m a v t s _ (hS.ext X0'))
  by_cases hr : refusedS k p m s = 0
  · obtain ⟨hf, hR, hd⟩ := do_yes (o := ⟨oc, ok, ov'⟩) hr
    rw [hd]
    rw [hr] at HRf
    obtain ⟨f, V', mc, ec, hc⟩ := HCI hf hR
    have HC := Lib.hid hc
    have HO := Lib.hid (fun W => object_any k p m W)
    have HCo : RowKit.Hid (∀ W, Ext w W → _) := Lib.hid fun W e => copied_any a v t s W (hS.ext e)
    have HD0 := Lib.hid D0
    generalize hds : doS k m s ⟨oc, ok, ov'⟩ = d at *
    obtain ⟨d1, d2, d3⟩ := d
    generalize oT k = OT at *
    generalize oV k m = OV at *
    obtain ⟨⟨c0, c1, c2⟩, ⟨s0, s1, s2, s3, s4⟩, ⟨o0, o1, o2⟩, _, _, _⟩ := D0
    clear hS hf hR hd hr hc hds X0' HCI
    dsimp only [doW, sv, sb, cf, bx, ob, ov, opv, rb0] at *
    go_enter Tryz.func21, Tryz.ntmps21
    go_wp2_with (first
      | (go_at_call 38; (with_reducible refine HRf.out.mono ?_); rintro e w1 ⟨rfl, e1⟩; replace s0 := e1.cell s0; replace s1 := e1.cell s1; replace s2 := e1.cell s2; replace s3 := e1.cell s3; replace s4 := e1.cell s4; have X1 : RowKit.Hid (Ext w w1) := Lib.hid (X0.out.trans e1); have HD1 := Lib.hid (HD0.out.ext e1); replace HD0 := HD1; replace HCo := Lib.hid (HCo.out w1 X1.out); have hsz1 : w.heap.size + 5 ≤ w1.heap.size := (by have := e1.size; simpa using this); clear e1 HRf X0 c0 c1 c2 o0 o1 o2)
      | (go_at_call 45; (with_reducible refine HCo.out.mono ?_); rintro e w2 ⟨e2, a2, v2, t2, rfl, hR2⟩; have hsz2 := e2.size; have E2 := Lib.hid e2; have R2 := Lib.hid hR2; replace HD0 := Lib.hid (HD0.out.ext e2); clear e2 hR2 HCo; obtain ⟨ka, kn, kc⟩ := a2; obtain ⟨va, vn, vc⟩ := v2; obtain ⟨ta, tn, tc⟩ := t2; dsimp only [sv] at *))
    obtain ⟨sr, sk, sv', sw, cl⟩ := s
    dsimp only at *
    have hD4 := HD0.out.ext (Ext.new w2 (.cells #[.int .u64 sr, .slice ka kn kc, .slice va vn vc, .slice ta tn tc, .bool cl] 30))
    obtain ⟨⟨c0, c1, c2⟩, _, ⟨o0, o1, o2⟩, _, _, _⟩ := hD4
    have hWB : RowKit.Hid (∀ W', Ext (w2.alloc (.cells #[.int .u64 sr, .slice ka kn kc, .slice va vn vc, .slice ta tn tc, .bool cl] 30)) W' → WB w1 (w2.heap.size + 1) W' w2.heap.size ⟨sr, sk, sv', sw, cl⟩ ⟨ka, kn, kc⟩ ⟨va, vn, vc⟩ ⟨ta, tn, tc⟩) := Lib.hid fun W' hE => by
      have hA : Ext w2 (w2.alloc (.cells #[.int .u64 sr, .slice ka kn kc, .slice va vn vc, .slice ta tn tc, .bool cl] 30)) := Ext.new _ _
      have hs2 := E2.out.size
      have hR := R2.out
      have h5 := five_new w2 sr ⟨ka, kn, kc⟩ ⟨va, vn, vc⟩ ⟨ta, tn, tc⟩ cl
      refine WB.ext ⟨⟨E2.out.trans hA, h5, hR.ss.ext hA, fun b hb => hR.off (by omega), hs2, Nat.lt_succ_self _, by simp, fun i => ?_, hR.off (.inr (Nat.le_refl _))⟩, hR.ext hA, fun g hg => ?_⟩ hE
      · unfold World.frozen?; rw [World.alloc_heap_new]; rfl
      · rcases hg with hg | hg | hg
        · have := hR.rk.lt _ hg; omega
        · have := hR.rv.lt _ hg; omega
        · have := hR.rt.lt _ hg; omega
    have HA : RowKit.Hid (∀ W', Ext (w2.alloc (.cells #[.int .u64 sr, .slice ka kn kc, .slice va vn vc, .slice ta tn tc, .bool cl] 30)) W' → Calls Tryz.prog 46 #[.iface OT OV, .pointer (some ⟨w2.heap.size, 0, none⟩), ov oc ok ov'] W' fun e w' => e = .returned (rv d2 d3) ∧ QB w1 (w2.heap.size + 1) W' w' w2.heap.size d1) := Lib.hid fun W' hE =>
      answer_any OT OV V' f w2.heap.size oc ok ov' (d2, d3) w1 (w2.heap.size + 1) W' d1 mc ec (by have := hE.size; simpa using this) (Nat.lt_succ_self _) (hWB.out W' hE).P.e (HC.out _ _ _ _ _ _ _ (hWB.out _ (hE.trans ((Ext.new W' _).alloc _))))
    clear HC hWB s0 s1 s2 s3 s4
    dsimp only [ov, rv] at *
    have XX := Lib.hid (Ext.refl (w2.alloc (.cells #[.int .u64 sr, .slice ka kn kc, .slice va vn vc, .slice ta tn tc, .bool cl] 30)))
    go_region_held3 (fun w' => (w'.cell? ⟨w.heap.size, 0, none⟩ = some (.int .i64 k) ∧ w'.cell? ⟨w.heap.size, 1, none⟩ = some (.int .i64 p) ∧ w'.cell? ⟨w.heap.size, 2, none⟩ = some (.int .i64 m)) ∧ w'.cell? ⟨w.heap.size + 1 + 1, 0, none⟩ = some (.int .i64 oc) ∧ w'.cell? ⟨w.heap.size + 1 + 1, 1, none⟩ = some (.int .u64 ok) ∧ w'.cell? ⟨w.heap.size + 1 + 1, 2, none⟩ = some (.int .u64 ov'))
      (repeat' (first | (with_reducible assumption) | (with_reducible refine And.intro ?_ ?_) | (with_reducible refine box_alloc ?_) | (with_reducible refine box_drew ?_) | (with_reducible refine box_set ?_ (by omega))))
      (first
        | (go_at_call 36; (with_reducible refine (HO.out _).mono ?_); rintro e w' ⟨rfl, rfl⟩)
        | (go_at_call 46; (with_reducible refine (HA.out _ (by repeat (first | exact XX.out | refine Ext.alloc ?_ _ | refine Ext.drew ?_))).mono ?_); rintro e w5 ⟨rfl, hQ⟩; have hD5 := HD1.out.ext hQ.1.1; obtain ⟨⟨c0', c1', c2'⟩, _, ⟨o0', o1', o2'⟩, _, _, _⟩ := hD5; obtain ⟨⟨r0, r1⟩, q0, q1⟩ := rb_first (.cells #[.int .i64 k, .int .i64 p, .int .i64 m] 24) (w2.alloc (.cells #[.int .u64 sr, .slice ka kn kc, .slice va vn vc, .slice ta tn tc, .bool cl] 30)).drew; have r0' := hQ.1.cell (by simp) r0; have r1' := hQ.1.cell (by simp) r1; have q0' := (hQ.1.frozen (by simp) r0).trans q0; have q1' := (hQ.1.frozen (by simp) r1).trans q1; simp only [World.size_alloc, World.size_drew] at r0' r1' q0' q1'; clear r0 r1 q0 q1; have HQ := Lib.hid hQ; clear hQ HA)
        | (go_at_call 46; (with_reducible refine (HA.out _ (by repeat (first | exact XX.out | refine Ext.alloc ?_ _ | refine Ext.drew ?_))).mono ?_); rintro e w5 ⟨rfl, hQ⟩; have hD5 := HD1.out.ext hQ.1.1; obtain ⟨⟨c0', c1', c2'⟩, _, ⟨o0', o1', o2'⟩, _, _, _⟩ := hD5; obtain ⟨⟨r0, r1⟩, q0, q1⟩ := ans_new (.cells #[.int .i64 k, .int .i64 p, .int .i64 m] 24) (w2.alloc (.cells #[.int .u64 sr, .slice ka kn kc, .slice va vn vc, .slice ta tn tc, .bool cl] 30)).drew; have r0' := hQ.1.cell (by simp) r0; have r1' := hQ.1.cell (by simp) r1; have q0' := (hQ.1.frozen (by simp) r0).trans q0; have q1' := (hQ.1.frozen (by simp) r1).trans q1; simp only [World.size_alloc, World.size_drew] at r0' r1' q0' q1'; clear r0 r1 q0 q1; have HQ := Lib.hid hQ; clear hQ HA)
        | (go_at_call 46; (with_reducible refine (HA.out _ (by repeat (first | exact XX.out | refine Ext.alloc ?_ _ | refine Ext.drew ?_))).mono ?_); rintro e w5 ⟨rfl, hQ⟩; have hD5 := HD1.out.ext hQ.1.1; obtain ⟨⟨c0', c1', c2'⟩, _, ⟨o0', o1', o2'⟩, _, _, _⟩ := hD5; have HQ := Lib.hid hQ; clear hQ HA))
    all_goals
      first
        | (obtain ⟨a6, v6, t6, TL6⟩ := tl_set (d2 := d2) (d3 := d3) HD1.out X1.out HQ.out hsz1 (by simp; omega) (by omega) (by simp) (Nat.lt_succ_self _) (by omega) r0' r1'; clear r0' r1' q0' q1')
        | (obtain ⟨a6, v6, t6, TL6⟩ := tl_new (d2 := d2) (d3 := d3) HD1.out X1.out HQ.out hsz1 (by simp; omega))
      obtain ⟨⟨g0, g1, g2, g3, g4⟩, hss, u0, u1, ⟨⟨r9, k9, v9, t9, cl9, x0, x1, x2, x3, x4⟩, xz⟩, ⟨y0, y1⟩, ⟨z5, z6⟩, o3, o4, e6, oo⟩ := TL6
      have z0 := xz 0
      have z1 := xz 1
      have z2 := xz 2
      have z3 := xz 3
      have z4 := xz 4
      have HSS := Lib.hid hss
      have HO3 := Lib.hid o3
      have HO4 := Lib.hid o4
      have HE6 := Lib.hid e6
      have HOO := Lib.hid oo
      have hs5 : w2.heap.size ≤ w5.heap.size := by have := HQ.out.1.2.1; simp at this; omega
      clear xz hss o3 o4 e6 oo HQ HD1 HD0 HO
      obtain ⟨ka6, kn6, kc6⟩ := a6
      obtain ⟨va6, vn6, vc6⟩ := v6
      obtain ⟨ta6, tn6, tc6⟩ := t6
      obtain ⟨e1, e2, e3, e4, e5⟩ := d1
      dsimp only at *
      go_wp2_with (fail)
      first
        | (go_region_held3 (fun w' => (w'.cell? ⟨w2.heap.size, 0, none⟩ = some (.int .u64 e1) ∧ w'.cell? ⟨w2.heap.size, 1, none⟩ = some (.slice ka6 kn6 kc6) ∧ w'.cell? ⟨w2.heap.size, 2, none⟩ = some (.slice va6 vn6 vc6) ∧ w'.cell? ⟨w2.heap.size, 3, none⟩ = some (.slice ta6 tn6 tc6) ∧ w'.cell? ⟨w2.heap.size, 4, none⟩ = some (.bool e5)) ∧ w'.cell? ⟨w5.heap.size, 0, none⟩ = some (.int .i64 d2) ∧ w'.cell? ⟨w5.heap.size, 1, none⟩ = some (.int .u64 d3)) (repeat' (first | (with_reducible assumption) | (with_reducible refine And.intro ?_ ?_) | (with_reducible refine box_alloc ?_) | (with_reducible refine box_drew ?_) | (with_reducible refine box_set ?_ (by omega)))) (fail))
        | (go_region_held3 (fun w' => (w'.cell? ⟨w2.heap.size, 0, none⟩ = some (.int .u64 e1) ∧ w'.cell? ⟨w2.heap.size, 1, none⟩ = some (.slice ka6 kn6 kc6) ∧ w'.cell? ⟨w2.heap.size, 2, none⟩ = some (.slice va6 vn6 vc6) ∧ w'.cell? ⟨w2.heap.size, 3, none⟩ = some (.slice ta6 tn6 tc6) ∧ w'.cell? ⟨w2.heap.size, 4, none⟩ = some (.bool e5)) ∧ w'.cell? ⟨w2.heap.size + 1, 0, none⟩ = some (.int .i64 d2) ∧ w'.cell? ⟨w2.heap.size + 1, 1, none⟩ = some (.int .u64 d3)) (repeat' (first | (with_reducible assumption) | (with_reducible refine And.intro ?_ ?_) | (with_reducible refine box_alloc ?_) | (with_reducible refine box_drew ?_) | (with_reducible refine box_set ?_ (by omega)))) (fail))
        | (go_region_held3 (fun w' => (w'.cell? ⟨w2.heap.size, 0, none⟩ = some (.int .u64 e1) ∧ w'.cell? ⟨w2.heap.size, 1, none⟩ = some (.slice ka6 kn6 kc6) ∧ w'.cell? ⟨w2.heap.size, 2, none⟩ = some (.slice va6 vn6 vc6) ∧ w'.cell? ⟨w2.heap.size, 3, none⟩ = some (.slice ta6 tn6 tc6) ∧ w'.cell? ⟨w2.heap.size, 4, none⟩ = some (.bool e5)) ∧ w'.cell? ⟨w2.heap.size + 1 + 1, 0, none⟩ = some (.int .i64 d2) ∧ w'.cell? ⟨w2.heap.size + 1 + 1, 1, none⟩ = some (.int .u64 d3)) (repeat' (first | (with_reducible assumption) | (with_reducible refine And.intro ?_ ?_) | (with_reducible refine box_alloc ?_) | (with_reducible refine box_drew ?_) | (with_reducible refine box_set ?_ (by omega)))) (fail))
      all_goals
        go_wp2_with (fail)
        refine bodyPost_ret (v := .tuple #[sv e1 ⟨ka6, kn6, kc6⟩ ⟨va6, vn6, vc6⟩ ⟨ta6, tn6, tc6⟩ e5, rv d2 d3, .int .i64 0]) (by simp [results, Tryz.results21, go_sem, x0, x1, x2, x3, x4, y0, y1]) rfl ?_
        refine ⟨?_, ⟨ka6, kn6, kc6⟩, ⟨va6, vn6, vc6⟩, ⟨ta6, tn6, tc6⟩, rfl, ?_, HOO.out⟩
        · repeat (first | (with_reducible exact HE6.out) | (with_reducible refine Ext.setCell ?_ (by omega) _) | (with_reducible refine Ext.drew ?_))
        · repeat (first | (with_reducible exact HSS.out) | (with_reducible refine SS.set ?_ HO3.out _ _) | (with_reducible refine SS.set ?_ HO4.out _ _) | (with_reducible refine SS.ext ?_ (Ext.drew (Ext.refl _))))
  · rw [do_no hr]
    have hr2 : (refusedS k p m s != 0) = true := by simpa using hr
    generalize refusedS k p m s = E at *
    have HX0 := Lib.hid D0
    obtain ⟨⟨c0, c1, c2⟩, ⟨s0, s1, s2, s3, s4⟩, ⟨o0, o1, o2⟩, _, _, _⟩ := D0
    clear hS hr X0' HCI
    dsimp only [doW, sv, sb, cf, bx, ob, ov, opv, rb0] at *
    go_enter Tryz.func21, Tryz.ntmps21
    go_wp2_with (first
      | (go_at_call 38; (with_reducible refine HRf.out.mono ?_); rintro e w1 ⟨rfl, e1⟩; obtain ⟨_, _, _, ⟨⟨r9, k9, v9, t9, cl9, g0, g1, g2, g3, g4⟩, z⟩, ⟨y0, y1⟩, ⟨z5, z6⟩⟩ := HX0.out.ext e1; have z0 := z 0; have z1 := z 1; have z2 := z 2; have z3 := z 3; have z4 := z 4; have X1 : RowKit.Hid (Ext w w1) := Lib.hid (X0.out.trans e1); clear e1 z HX0 c0 c1 c2 s0 s1 s2 s3 s4 o0 o1 o2 X0))
    refine bodyPost_ret (v := .tuple #[sv 0 nilSl nilSl nilSl false, rv 0 0, .int .i64 E]) (by simp [results, Tryz.results21, go_sem, g0, g1, g2, g3, g4, y0, y1]) rfl ?_
    refine ⟨?_, nilSl, nilSl, nilSl, rfl, ss_zero _, fun B _ => offS_nil B⟩
    repeat (first | (with_reducible exact X1.out) | (with_reducible refine Ext.setCell ?_ (by omega) _))
theorem do_any (k p m : Int) (a v t : Sl) (s : St) (o : Cl) (w : World) (hS : SS w a v t s) (HCI : fits k p m = true → rightS k p m s = true → CI k m s o (oT k) (oV k m)) :
    Calls Tryz.prog 21 #[cf k p m, sv s.reg a v t s.closed, opv o] w (DoE (doF k p m s o) w) := (do_any2 k p m a v t s o w hS HCI).mono fun _ _ h => h.one

end Go.Proofs.YtdipddnnckfnmaaGreat.Lan

/- LanRead:
  The calls that change nothing, told of whatever box: of a register, a ballot, and objects with keys. Conditions: the state is right, and its words are words.
-/
namespace Go.Proofs.YtdipddnnckfnmaaGreat.Lan
open Go.RowKit (Below intOf)
open Go.Proofs.YtdipddnnckfnmaaGreat.Aut
open Go.Proofs.YtdipddnnckfnmaaGreat.Reg (cf bx fits_any)

set_option maxHeartbeats 4000000 in
set_option maxRecDepth 100000 in
theorem ballot_read {w : World} {B : Nat} {s : St} {a v t : Sl} {m : Nat} {x y : Int} (h5 : Five w B s.reg a v t s.closed) (hS : SS w a v t s) (hV : VotesOk m s) (hm2 : m ≤ 256) (hx0 : U64 x) (o : Int) (ho : o = 14 ∨ o = 15 ∨ o = 16) :
    Calls Tryz.prog 145 #[.agg #[.int .i64 (m : Int)], .pointer (some ⟨B, 0, none⟩), ov o x y] w fun e w' => TE (ballotS m s ⟨o, x, y⟩).2 e ∧ Ext w w' := by
  have X0' := (Ext.new w (bbx m)).alloc (ob o x y)
  have X0 := Lib.hid X0'
  obtain ⟨k2, k3, k4⟩ := op_new (bbx m) o x y w
  have k1 : ((w.alloc (bbx m)).alloc (ob o x y)).cell? ⟨w.heap.size, 0, none⟩ = some (.int .i64 (m : Int)) := box_alloc (by unfold World.cell?; rw [World.alloc_heap_new]; rfl)
  have HQ : RowKit.Hid (∀ w1, Ext w w1 → Ext w w1) := Lib.hid fun w1 e => e
  obtain ⟨p0, p1, p2, p3, p4⟩ := h5.ext X0'
  have HN := Lib.hid (hS.ext X0').2.2.2
  by_cases h16 : o = 16
  · subst h16
    have e : ballotS m s ⟨16, x, y⟩ = (s, (0, bitZ s.closed)) := by unfold ballotS; rw [if_neg (by simp), if_neg (by simp), if_neg (by simp), if_neg (by simp), if_pos rfl]
    rw [e]
    clear X0' HN e hV hS h5 hx0 ho
    dsimp only [ov, ob, bbx] at *
    go_enter Tryz.func145, Tryz.ntmps145
    go_wp2_with (first | (go_at_call 115; (with_reducible refine (lbit_any _ _).mono ?_); rintro e w' ⟨rfl, rfl⟩))
    go_ret
    exact ⟨te_ret _, HQ.out _ X0.out⟩
  by_cases h15 : o = 15
  · subst h15
    by_cases hx : (m : Int) ≤ x
    · have e : ballotS m s ⟨15, x, y⟩ = (s, (10, 0)) := by unfold ballotS; rw [if_neg (by simp), if_neg (by simp), if_neg (by simp), if_pos rfl, if_pos hx]
      rw [e]
      have HV := Lib.hid (fun W => vote_no m hm2 B x W hx)
      clear X0' HN e hV hS h5 hx0 ho
      dsimp only [ov, ob, bbx] at *
      go_enter Tryz.func145, Tryz.ntmps145
      go_wp2_with (first | (go_at_call 151; (with_reducible refine (HV.out _).mono ?_); rintro e w' ⟨rfl, rfl⟩))
      exact ⟨rfl, te_no (by decide), HQ.out _ (X0.out.alloc _)⟩
    · obtain ⟨q, hq⟩ : ∃ q : Nat, x = q := ⟨x.toNat, by have := hx0.1; omega⟩
      subst hq
      have e : ballotS m s ⟨15, q, y⟩ = (s, (0, s.votes.getD q 0)) := by unfold ballotS; rw [if_neg (by simp), if_neg (by simp), if_neg (by simp), if_pos rfl, if_neg hx]; rfl
      rw [e]
      have hl := hV.1
      have hnn := HN.out.len
      obtain ⟨u, hu, _, g, o', hg, huc⟩ := HN.out.get (k := q) (by omega)
      have hgd : s.votes.getD q 0 = u := by rw [List.getD_eq_getElem?_getD, hu]; rfl
      have hu8 := hV.2 u (List.mem_of_getElem? hu)
      have hw := vote_u hu8.1 hu8.2
      rw [hgd]
      rw [hg] at p3
      have HV := Lib.hid (vote_yes m hm2 B g o' t.n t.c (q : Int) _ (by omega) (by omega) (by omega) p3)
      simp only [Int.toNat_natCast] at HV
      have huc2 : (((w.alloc (bbx m)).alloc (ob 15 q y)).alloc (bbx m)).cell? ⟨g, o' + q, none⟩ = some (.int .i64 u) := box_alloc huc
      clear X0' HN e hu hgd hu8 hg hl hnn huc hx hV hS h5 hx0 ho
      dsimp only [ov, ob, bbx] at *
      go_enter Tryz.func145, Tryz.ntmps145
      go_wp2_with (first | (go_at_call 151; (with_reducible refine HV.out.mono ?_); rintro e w' ⟨rfl, rfl⟩))
      go_ret
      refine ⟨?_, HQ.out _ (X0.out.alloc _)⟩
      first | exact te_ret _ | (rw [hw]; exact te_ret _)
  by_cases h14 : o = 14
  · subst h14
    by_cases hx : x < 1 ∨ 8 < x
    · have e : ballotS m s ⟨14, x, y⟩ = (s, (10, 0)) := by unfold ballotS; rw [if_neg (by simp), if_neg (by simp), if_pos rfl, if_pos hx]
      rw [e]
      have HV := Lib.hid (fun sl n c W => tally_no sl n c x W hx)
      have k01 := And.intro k1 (And.intro k2 (And.intro k3 (And.intro k4 p3)))
      clear X0' HN e hx hV hS h5 hx0 ho
      dsimp only [ov, ob, bbx] at *
      go_enter Tryz.func145, Tryz.ntmps145
      go_wp2_with (fail)
      refine wp_region_held_drew (S := fun w' => (w'.cell? ⟨w.heap.size, 0, none⟩ = some (.int .i64 (m : Int))) ∧ w'.cell? ⟨w.heap.size + 1, 0, none⟩ = some (.int .i64 14) ∧ w'.cell? ⟨w.heap.size + 1, 1, none⟩ = some (.int .u64 x) ∧ w'.cell? ⟨w.heap.size + 1, 2, none⟩ = some (.int .u64 y) ∧ w'.cell? ⟨B, 3, none⟩ = some (.slice t.a t.n t.c)) (by kernel_rfl) k01 (fun hHeld => ?_)
      refine wpAnyH_take (i := 0) (v := .pointer (some ⟨B, 0, none⟩)) rfl (by kernel_rfl) (by kernel_rfl) (by kernel_rfl) (fun _ _ _ h => h) (Or.inl ⟨by rfl, ?_⟩) (by assumption) ?_
      · rintro w ⟨h1, h2, h3, h4, h5⟩
        go_simp
      refine wpAnyH_take (i := 1) (v := .pointer (some ⟨B, 0, none⟩)) rfl (by kernel_rfl) (by kernel_rfl) (by kernel_rfl) (fun _ _ _ h => h) (Or.inl ⟨by rfl, ?_⟩) (by assumption) ?_
      · rintro w ⟨h1, h2, h3, h4, h5⟩
        go_simp
      refine wpAnyH_take (i := 2) (v := .pointer (some ⟨B, 3, none⟩)) rfl (by kernel_rfl) (by kernel_rfl) (by kernel_rfl) (fun _ _ _ h => h) (Or.inl ⟨by rfl, ?_⟩) (by assumption) ?_
      · rintro w ⟨h1, h2, h3, h4, h5⟩
        go_simp
      refine wpAnyH_take (i := 3) (v := .slice t.a t.n t.c) rfl (by kernel_rfl) (by kernel_rfl) (by kernel_rfl) (fun _ _ _ h => h) (Or.inl ⟨by rfl, ?_⟩) (by assumption) ?_
      · rintro w ⟨h1, h2, h3, h4, h5⟩
        go_simp
      refine wpAnyH_take (i := 4) (v := .pointer (some ⟨w.heap.size + 1, 1, none⟩)) rfl (by kernel_rfl) (by kernel_rfl) (by kernel_rfl) (fun _ _ _ h => h) (Or.inl ⟨by rfl, ?_⟩) (by assumption) ?_
      · rintro w ⟨h1, h2, h3, h4, h5⟩
        go_simp
      refine wpAnyH_take (i := 5) (v := .int .u64 x) rfl (by kernel_rfl) (by kernel_rfl) (by kernel_rfl) (fun _ _ _ h => h) (Or.inl ⟨by rfl, ?_⟩) (by assumption) ?_
      · rintro w ⟨h1, h2, h3, h4, h5⟩
        go_simp
      refine wpAnyH_ready (rs := [6]) (by kernel_rfl) (by simp) ?_
      refine AllReadyH.cons rfl (fun K hK => ?_) AllReadyH.nil
      go_simp
      refine (HV.out _ _ _ _).mono ?_
      rintro e w' ⟨rfl, rfl⟩
      exact ⟨rfl, te_no (by decide), HQ.out _ (by repeat (first | exact X0.out | refine Ext.alloc ?_ _ | refine Ext.drew ?_))⟩
    · have e : ballotS m s ⟨14, x, y⟩ = (s, (0, (tallyL s.votes x : Int))) := by unfold ballotS; rw [if_neg (by simp), if_neg (by simp), if_pos rfl, if_neg hx]
      rw [e]
      have HV : RowKit.Hid (∀ W, Ext ((w.alloc (bbx m)).alloc (ob 14 x y)) W → _) := Lib.hid fun W hE => tally_yes t.a t.n t.c s.votes x W (HN.out.ext hE) (by omega) (by omega)
      generalize tallyL s.votes x = q at *
      clear X0' HN e hx hV hS h5 hx0 ho
      dsimp only [ov, ob, bbx] at *
      go_enter Tryz.func145, Tryz.ntmps145
      go_wp2_with (fail)
      go_region_held3 (fun w' => (w'.cell? ⟨w.heap.size, 0, none⟩ = some (.int .i64 (m : Int))) ∧ w'.cell? ⟨w.heap.size + 1, 0, none⟩ = some (.int .i64 14) ∧ w'.cell? ⟨w.heap.size + 1, 1, none⟩ = some (.int .u64 x) ∧ w'.cell? ⟨w.heap.size + 1, 2, none⟩ = some (.int .u64 y) ∧ w'.cell? ⟨B, 3, none⟩ = some (.slice t.a t.n t.c))
        (repeat' (first | (with_reducible assumption) | (with_reducible refine And.intro ?_ ?_) | (with_reducible refine box_alloc ?_) | (with_reducible refine box_drew ?_)))
        (first | (go_at_call 150; (with_reducible refine (HV.out _ (Ext.drew (Ext.refl _))).mono ?_); rintro e w' ⟨rfl, rfl⟩))
      go_wp2_with (fail)
      go_ret
      exact ⟨te_ret _, HQ.out _ (by repeat (first | exact X0.out | refine Ext.alloc ?_ _ | refine Ext.drew ?_))⟩
  omega

set_option maxHeartbeats 2000000 in
set_option maxRecDepth 100000 in
theorem reg_read {w : World} {B : Nat} {s : St} {a v t : Sl} (h5 : Five w B s.reg a v t s.closed) (x y : Int) :
    Calls Tryz.prog 93 #[kE, .pointer (some ⟨B, 0, none⟩), ov 1 x y] w fun e w' => TE (regS s ⟨1, x, y⟩).2 e ∧ Ext w w' := by
  have X0' := (Ext.new w (.cells #[] 99)).alloc (ob 1 x y)
  obtain ⟨k2, k3, k4⟩ := op_new (.cells #[] 99) 1 x y w
  have g0 := (h5.ext X0').1
  have X0 := Lib.hid X0'
  have e : regS s ⟨1, x, y⟩ = (s, (0, s.reg)) := by unfold regS; rw [if_pos rfl]
  rw [e]
  clear X0' h5 e
  dsimp only [ov, ob] at *
  go_enter Tryz.func93, Tryz.ntmps93
  go_wp2_with (fail)
  go_ret
  exact ⟨te_ret _, X0.out⟩

/-- What a call tells that changes nothing. -/
def RdI (k p m : Int) (s : St) (T : TypeId) (V : Value) : Prop := ∃ f V',
  (∀ w, Sem.run Tryz.prog (method 267 T V "whitewash/auto.call") w = .ok (f, V') w) ∧ (∀ a b w, Sem.run Tryz.prog (callFunc f #[V', a, b]) w = .ok (.enter f #[V', a, b]) w) ∧
    ∀ w B a v t (l : List Rs) (o : Cl), Five w B s.reg a v t s.closed → SS w a v t s → probeS k p m l = (o, true) → Wc o → Calls Tryz.prog f #[V', .pointer (some ⟨B, 0, none⟩), opv o] w fun e w' => TE (doS k m s o).2 e ∧ Ext w w'
theorem table_8 {k m : Int} {s : St} {x v : Int} (hx : U64 x) (hu : ∀ y ∈ s.keys, U64 y ∧ meantK k y = y) : lookS k s ⟨8, x, v⟩ = (tableS k m s ⟨8, x, v⟩).2 := by
  unfold lookS tableS
  rw [if_pos rfl, if_neg (show ¬ (⟨8, x, v⟩ : Cl).code = 9 by simp)]
  by_cases hm : mayK k x = true
  · rw [if_pos hm, if_pos hm, hit_here (meant_u hx) (meant_meant k x) hu]
    unfold placedS
    rw [if_neg (show ¬ (⟨8, x, v⟩ : Cl).code = 7 by simp), if_pos rfl]
  · rw [if_neg hm, if_neg hm]
theorem table_10 {k m : Int} {s : St} {x v : Int} (hv : valued k = true) : (tableS k m s ⟨10, x, v⟩).2 = if mayK k x = true then (if hereK s.keys (posK k s.keys (meantK k x)) (meantK k x) = true then (0, s.vals.getD (posK k s.keys (meantK k x)) 0) else (12, 0)) else (10, 0) := by
  unfold tableS
  rw [if_neg (show ¬ (⟨10, x, v⟩ : Cl).code = 9 by simp)]
  by_cases hm : mayK k x = true
  · rw [if_pos hm, if_pos hm]
    unfold placedS
    rw [if_neg (show ¬ (⟨10, x, v⟩ : Cl).code = 7 by simp), if_neg (show ¬ (⟨10, x, v⟩ : Cl).code = 8 by simp), if_neg (show ¬ ((⟨10, x, v⟩ : Cl).code = 5 ∧ valued k = false) by simp), if_pos ⟨rfl, hv⟩]
    split <;> rfl
  · rw [if_neg hm, if_neg hm]
theorem probed_codes {k : Int} {l : List Rs} {o : Cl} (h : probedS k l = (o, true)) : o.code = 8 ∨ (o.code = 10 ∧ valued k = true) := by
  unfold probedS at h
  split at h
  · cases h
  · split at h
    · cases h; exact .inl rfl
    · split at h
      · rename_i h1
        cases h
        refine .inr ⟨rfl, ?_⟩
        unfold everyK at h1
        by_cases c : valued k = true
        · exact c
        · rw [if_neg c] at h1; omega
      · cases h; exact .inl rfl

theorem tab_read {k m : Int} {s : St} (hk : k = 3 ∨ k = 4) (hK : KeysOk k m s) (hW : Wd s) {w : World} {B : Nat} {a v t : Sl} (h5 : Five w B s.reg a v t s.closed) (hS : SS w a v t s) (o x y : Int) (ho : o = 8 ∨ o = 10) (hx : U64 x) :
    Calls Tryz.prog 136 #[kd (kT k) m, .pointer (some ⟨B, 0, none⟩), ov o x y] w fun e w' => TE (tableS k m s ⟨o, x, y⟩).2 e ∧ Ext w w' := by
  obtain ⟨fk, fr, fl, I⟩ := keys_is k
  have hu := keys_wd hK hW
  have hv : valued k = true := by unfold valued; exact decide_eq_true hk
  have hKy : Ky k (kT k) fk fr fl B a.a a.n a.c s x w := ⟨I, hS.2.1, hx, hK.2.2.2, h5.2.1⟩
  rcases ho with rfl | rfl
  · rw [← table_8 hx hu]; exact table_look hKy m 8 y (by decide) (by decide) (by decide)
  · rw [table_10 hv, ← hit_here (meant_u hx) (meant_meant k x) hu]
    by_cases hm : mayK k x = true
    · rw [if_pos hm]
      by_cases hh : hitK k s.keys (meantK k x) = true
      · rw [if_pos hh]
        have hpos : posK k s.keys (meantK k x) < s.keys.length := by
          rw [hit_here (meant_u hx) (meant_meant k x) hu] at hh; exact here_lt hh
        have hvl := hK.2.1
        rw [if_pos hv] at hvl
        have hvn := hS.2.2.1.len
        obtain ⟨z, hz, _, vb, vo, evb, hzc⟩ := hS.2.2.1.get (k := posK k s.keys (meantK k x)) (by omega)
        have e2 := h5.2.2.1
        rw [evb] at e2
        have hg : s.vals.getD (posK k s.keys (meantK k x)) 0 = z := by rw [List.getD_eq_getElem?_getD, hz]; rfl
        rw [hg]
        exact (table_get hKy m y hm hh vb vo v.n v.c z _ rfl e2 hzc (by omega)).mono fun e w' q => ⟨q.1 ▸ te_ret _, q.2⟩
      · rw [if_neg hh]
        exact (table_get_no hKy m y v.a v.n v.c h5.2.2.1 12 (.inl ⟨hm, by simpa using hh, rfl⟩)).mono fun e w' q => ⟨q.1 ▸ te_no (by decide), q.2⟩
    · rw [if_neg hm]
      exact (table_get_no hKy m y v.a v.n v.c h5.2.2.1 10 (.inr ⟨by simpa using hm, rfl⟩)).mono fun e w' q => ⟨q.1 ▸ te_no (by decide), q.2⟩

theorem rd_obj {k p m : Int} {s : St} (hR : rightS k p m s = true) (hW : Wd s) : RdI k p m s (oT k) (oV k m) := by
  have hf := right_fits hR
  have hb := fits_of hf
  have hff : ¬ fits k p m = false := by rw [hf]; simp
  have pk : ∀ l, keyed k = true → probeS k p m l = probedS k l := fun l h => by unfold probeS; rw [if_neg hff, if_pos h]
  rcases kinds hf with rfl | rfl | rfl | rfl | rfl
  · refine ⟨93, kE, fun w => by kernel_rfl, fun a b w => by kernel_rfl, fun w B a v t l o h5 hS hp ho => ?_⟩
    have : probeS 1 p m l = if 0 < l.length then (zeroC, false) else (⟨1, 0, 0⟩, true) := by unfold probeS; rw [if_neg hff, if_neg (by decide), if_pos rfl]
    rw [this] at hp
    split at hp
    · cases hp
    · cases hp
      exact reg_read h5 0 0
  · refine ⟨110, kd (kT 2) m, fun w => by kernel_rfl, fun a b w => by kernel_rfl, fun w B a v t l o h5 hS hp ho => ?_⟩
    rw [pk l rfl] at hp
    obtain ⟨c, x, y⟩ := o
    have hK := keys_of hR rfl
    obtain ⟨fk, fr, fl, I⟩ := keys_is 2
    have hKy : Ky 2 (kT 2) fk fr fl B a.a a.n a.c s x w := ⟨I, hS.2.1, ho.2.1, hK.2.2.2, h5.2.1⟩
    rcases probed_codes hp with h | ⟨_, h⟩
    · dsimp only at h
      subst h
      show Calls _ _ _ _ fun e w' => TE (tableS 2 m s ⟨8, x, y⟩).2 e ∧ Ext w w'
      rw [← table_8 ho.2.1 (keys_wd hK hW)]
      exact set_look hKy m 8 y (by decide) (by decide) (by decide)
    · cases h
  · refine ⟨136, kd (kT 3) m, fun w => by kernel_rfl, fun a b w => by kernel_rfl, fun w B a v t l o h5 hS hp ho => ?_⟩
    rw [pk l rfl] at hp
    obtain ⟨c, x, y⟩ := o
    exact tab_read (.inl rfl) (keys_of hR rfl) hW h5 hS c x y ((probed_codes hp).imp id (·.1)) ho.2.1
  · refine ⟨136, kd (kT 4) m, fun w => by kernel_rfl, fun a b w => by kernel_rfl, fun w B a v t l o h5 hS hp ho => ?_⟩
    rw [pk l rfl] at hp
    obtain ⟨c, x, y⟩ := o
    exact tab_read (.inr rfl) (keys_of hR rfl) hW h5 hS c x y ((probed_codes hp).imp id (·.1)) ho.2.1
  · refine ⟨145, .agg #[.int .i64 m], fun w => by kernel_rfl, fun a b w => by kernel_rfl, fun w B a v t l o h5 hS hp ho => ?_⟩
    have : probeS 5 p m l = if l.length = 0 then (⟨16, 0, 0⟩, true) else if l.length ≤ 8 then (⟨14, (l.length : Int), 0⟩, true) else if (l.length : Int) ≤ 8 + m then (⟨15, (l.length : Int) - 9, 0⟩, true) else (zeroC, false) := by unfold probeS; rw [if_neg hff, if_neg (by decide), if_neg (by decide)]
    rw [this] at hp
    obtain ⟨c, x, y⟩ := o
    have hc : c = 14 ∨ c = 15 ∨ c = 16 := by
      split at hp
      · cases hp; omega
      · split at hp
        · cases hp; omega
        · split at hp <;> cases hp; omega
    obtain ⟨n, rfl⟩ : ∃ n : Nat, m = n := ⟨m.toNat, by omega⟩
    exact ballot_read h5 hS ((right_iff.1 hR).2.2.2.2 rfl) (by omega) ho.2.1 c hc

end Go.Proofs.YtdipddnnckfnmaaGreat.Lan

/- LanOut:
  readOut and Out: what the read-out's calls tell. Conditions: the state's words are words.
-/
namespace Go.Proofs.YtdipddnnckfnmaaGreat.Lan
open Go.RowKit (Below intOf)
open Go.Proofs.YtdipddnnckfnmaaGreat.Aut
open Go.Proofs.YtdipddnnckfnmaaGreat.Reg (cf bx fits_any)

theorem own_ext2 {w w' : World} {base size : Nat} {e : TypeId} {v : Value} {n : Nat} {xs : List Value} (h : w.ownsRow base e size v n xs) (x : Ext w w') : w'.ownsRow base e size v n xs :=
  h.kept (Ext.gr x) (by cases v.ownBlock <;> simp)
theorem out_len {k p m : Int} {s : St} (h : rightS k p m s = true) : (outS k s).length ≤ 600 := by
  obtain ⟨hf, he, h1, h2, h5⟩ := right_iff.1 h
  have hb := fits_of hf
  by_cases c1 : k = 1
  · subst c1; simp [outS]
  · by_cases c2 : keyed k = true
    · have hK := h2 c2
      have hl := hK.1
      unfold outS
      rw [if_neg c1, if_pos c2, List.length_append]
      by_cases c3 : valued k = true
      · have hv := hK.2.1
        rw [if_pos c3] at hv
        rw [if_pos c3, pairs_len _ _ hv]; simp; omega
      · rw [if_neg c3, List.length_map]; simp; omega
    · have c5 : k = 5 := by
        rcases kinds hf with c | c | c | c | c
        · exact absurd c c1
        · subst c; exact absurd rfl c2
        · subst c; exact absurd rfl c2
        · subst c; exact absurd rfl c2
        · exact c
      have := ballot_len c1 (by simpa using c2) (h5 c5)
      omega
theorem pairs_mem : ∀ (ks vs : List Int) (r : Rs), r ∈ pairsL ks vs → r.1 = 0 ∧ (r.2 ∈ ks ∨ r.2 ∈ vs)
  | [], vs, r, h => by simp [pairsL] at h
  | _ :: _, [], r, h => by simp [pairsL] at h
  | k :: ks, v :: vs, r, h => by
    simp only [pairsL, List.mem_cons] at h
    rcases h with rfl | rfl | h
    · exact ⟨rfl, .inl (List.mem_cons_self ..)⟩
    · exact ⟨rfl, .inr (List.mem_cons_self ..)⟩
    · obtain ⟨h1, h2⟩ := pairs_mem ks vs r h
      exact ⟨h1, h2.imp (List.mem_cons_of_mem _) (List.mem_cons_of_mem _)⟩
theorem ir_zero {x : Int} (h : U64 x) : Ir (0, x) := ⟨by unfold I64; simp, h⟩
theorem out_ir {k p m : Int} {s : St} (h : rightS k p m s = true) (hw : Wd s) : ∀ r ∈ outS k s, Ir r := fun r hr => by
  obtain ⟨hf, he, h1, h2, h5⟩ := right_iff.1 h
  have hb := fits_of hf
  by_cases c1 : k = 1
  · subst c1
    simp only [outS, if_true, List.mem_singleton] at hr
    subst hr
    exact ir_zero hw.1
  · by_cases c2 : keyed k = true
    · unfold outS at hr
      rw [if_neg c1, if_pos c2, List.mem_append] at hr
      rcases hr with hr | hr
      · by_cases c3 : valued k = true
        · rw [if_pos c3] at hr
          obtain ⟨q1, q2⟩ := pairs_mem _ _ _ hr
          obtain ⟨e, x⟩ := r
          dsimp only at q1 q2
          subst q1
          exact ir_zero (q2.elim (hw.2.1 x) (hw.2.2.1 x))
        · rw [if_neg c3, List.mem_map] at hr
          obtain ⟨x, hx, rfl⟩ := hr
          exact ir_zero (hw.2.1 x hx)
      · rw [List.mem_singleton] at hr
        subst hr
        exact ⟨by unfold I64; simp, by unfold U64; simp⟩
    · have c5 : k = 5 := by
        rcases kinds hf with c | c | c | c | c
        · exact absurd c c1
        · subst c; exact absurd rfl c2
        · subst c; exact absurd rfl c2
        · subst c; exact absurd rfl c2
        · exact c
      have hV := h5 c5
      unfold outS at hr
      rw [if_neg c1, if_neg c2, List.mem_append, List.mem_cons, List.mem_map, List.mem_map] at hr
      rcases hr with (rfl | ⟨i, _, rfl⟩) | ⟨x, hx, rfl⟩
      · exact ir_zero (by cases s.closed <;> (unfold U64 bitZ; simp))
      · have := tally_le s.votes ((i : Int) + 1)
        have := hV.1
        exact ir_zero (by unfold U64; omega)
      · have := hV.2 x hx
        exact ir_zero (by unfold U64; omega)

set_option maxHeartbeats 4000000 in
set_option maxRecDepth 100000 in
theorem readout_any {k p m : Int} {s : St} (hR : rightS k p m s = true) (a v t : Sl) (w : World) (hS : SS w a v t s) :
    Calls Tryz.prog 39 #[.iface (oT k) (oV k m), sv s.reg a v t s.closed] w fun e w' => ∃ l : Sl, e = .returned (.slice l.a l.n l.c) ∧ RS w' l.a l.n l.c (outS k s) ∧ Ext w w' := by
  have hW := hS.wd
  obtain ⟨fa, Va, ma, ea, ca⟩ := as_obj (right_fits hR)
  obtain ⟨fc, Vc, mc, ec, cc⟩ := rd_obj hR hW
  have hlen := out_len hR
  have h5 := five_new w s.reg a v t s.closed
  have hX := Ext.new w (sb s.reg a v t s.closed)
  have HAsk : RowKit.Hid (∀ W sl n c i, RS W sl n c ((outS k s).take i) → Calls Tryz.prog fa #[Va, .slice sl n c] W (AE (probeS k p m ((outS k s).take i)) W)) := Lib.hid fun W sl n c i h => ca sl n c _ W h
  have HAns : RowKit.Hid (∀ W i o, Ext (w.alloc (sb s.reg a v t s.closed)) W → probeS k p m ((outS k s).take i) = (o, true) → Wc o → Calls Tryz.prog 46 #[.iface (oT k) (oV k m), .pointer (some ⟨w.heap.size, 0, none⟩), opv o] W fun e w' => e = .returned (rv (doS k m s o).2.1 (doS k m s o).2.2) ∧ Ext W w') := Lib.hid fun W i o hE hp ho =>
    answer_read (oT k) (oV k m) Vc fc w.heap.size o.code o.key o.val (doS k m s o).2 W mc ec (cc _ _ _ _ _ _ _ ((h5.ext hE).ext ((Ext.new W _).alloc _)) (((hS.ext hX).ext hE).ext ((Ext.new W _).alloc _)) hp ho)
  have HStep := Lib.hid (out_step hR hW)
  have HOver := Lib.hid (out_over hR)
  have HIr := Lib.hid (out_ir hR hW)
  have X0 := Lib.hid hX
  clear hS hW h5 hX ca cc mc ec hR
  generalize outS k s = L at *
  generalize hOT : oT k = OT at *
  generalize hOV : oV k m = OV at *
  clear hOT hOV
  dsimp only [sv, sb] at *
  go_enter Tryz.func39, Tryz.ntmps39
  go_wp2_with (fail)
  go_loopg [5] (L.length + 1) (fun kx s5 wr => ∃ (i : Nat) (la : Option Addr) (lc : Nat), s5 = .slice la i lc ∧ i ≤ L.length ∧ L.length + 1 - i ≤ kx ∧ RowKit.Hid (wr.ownsRow (w.heap.size + 1) 51 2 (.slice la i lc) i (flatRS (L.take i))) ∧ RowKit.Hid (Ext (w.alloc (.cells #[.int .u64 s.reg, .slice a.a a.n a.c, .slice v.a v.n v.c, .slice t.a t.n t.c, .bool s.closed] 30)) wr))
  case atStart => exact ⟨0, none, 0, rfl, Nat.zero_le _, by omega, Lib.hid (World.ownsRow_nil _ _ _ _), Lib.hid (Ext.refl _)⟩
  case round =>
    obtain ⟨i, la, lc, rfl, hi, hg, D, S1⟩ := hrel
    have hti : (L.take i).length = i := by rw [List.length_take]; omega
    have hRS := RS.of_own D.out hti (by omega) (fun y hy => HIr.out y (List.mem_of_mem_take hy))
    have HA := Lib.hid (HAsk.out _ _ _ _ i hRS)
    clear hRS
    by_cases hlt : i < L.length
    · obtain ⟨⟨oc, ok, ov'⟩, ho, hp, hj⟩ := HStep.out i hlt
      rw [hp] at HA
      have HB := Lib.hid (fun W hE => HAns.out W i ⟨oc, ok, ov'⟩ hE hp ho)
      generalize hd : (doS k m s ⟨oc, ok, ov'⟩).2 = d at *
      obtain ⟨d2, d3⟩ := d
      have HJ := Lib.hid hj
      have hIr := Lib.hid (HIr.out _ (List.mem_of_getElem? hj))
      clear hp ho hj hd HAsk HAns HStep HOver HIr
      dsimp only [AE, opv, ov, rv] at *
      go_wp2_with (first
        | (go_at_fn fa; (with_reducible refine HA.out.mono ?_); rintro e w1 ⟨rfl, e1⟩; have E1 : RowKit.Hid (Ext (w.alloc (.cells #[.int .u64 s.reg, .slice a.a a.n a.c, .slice v.a v.n v.c, .slice t.a t.n t.c, .bool s.closed] 30)) w1) := Lib.hid (S1.out.trans e1); have D1 := Lib.hid (own_ext2 D.out e1); clear e1 HA)
        | (go_at_call 46; (with_reducible refine (HB.out _ (by repeat (first | exact E1.out | refine Ext.alloc ?_ _ | refine Ext.drew ?_))).mono ?_); rintro e w3 ⟨rfl, e3⟩; have E3 : RowKit.Hid (Ext (w.alloc (.cells #[.int .u64 s.reg, .slice a.a a.n a.c, .slice v.a v.n v.c, .slice t.a t.n t.c, .bool s.closed] 30)) w3) := Lib.hid (Ext.trans (by repeat (first | exact E1.out | refine Ext.alloc ?_ _ | refine Ext.drew ?_)) e3); have D3 := own_ext2 (D1.out.alloc (.cells #[.int .i64 oc, .int .u64 ok, .int .u64 ov'] 32)) e3; obtain ⟨sx, cx, wx, RX, OX, GX, _⟩ := addRS (ys := L.take i) (D3.alloc (.cells #[.int .i64 d2, .int .u64 d3] 51)) (RS.lit w3 (d2, d3) hIr.out) (by omega) (by have := E3.out.size; simp at this; simp; omega); have HOX := Lib.hid OX; have HEX : RowKit.Hid (Ext (w.alloc (.cells #[.int .u64 s.reg, .slice a.a a.n a.c, .slice v.a v.n v.c, .slice t.a t.n t.c, .bool s.closed] 30)) wx) := Lib.hid ((E3.out.alloc _).grown GX (fun k e => by have := own_ge (D3.alloc (.cells #[.int .i64 d2, .int .u64 d3] 51)) k e; simpa using this)); clear e3 HB D3 OX GX)
        | (at_builtin; refine Lib.wpList_append_run _ rfl (.tmp 17) (.tmp 21) _ _ rfl _ _ rfl rfl _ _ RX.out ?_))
      go_roundg (L.length + 1 - (i + 1))
      case measure => omega
      case rel => exact ⟨i + 1, sx, cx, rfl, by omega, by omega, Lib.hid (by rw [take_snoc HJ.out]; exact HOX.out), HEX⟩
    · obtain rfl : i = L.length := by omega
      rw [List.take_length, HOver.out] at HA
      have hf : RowKit.Hid (RS wr la L.length lc L) := Lib.hid (RS.of_own (by have := D.out; rwa [List.take_length] at this) rfl (by omega) HIr.out)
      clear HAsk HAns HStep HOver HIr D
      dsimp only [AE, opv, ov, zeroC] at *
      go_wp2_with (first
        | (go_at_fn fa; (with_reducible refine HA.out.mono ?_); rintro e w1 ⟨rfl, e1⟩; have E1 : RowKit.Hid (Ext w w1) := Lib.hid (X0.out.trans (S1.out.trans e1)); have HF := Lib.hid (hf.out.ext e1); clear e1 HA))
      go_ret
      exact ⟨⟨la, L.length, lc⟩, rfl, HF.out.ext (Ext.new _ _), E1.out.alloc _⟩

/-- What Out answers. -/
def OuE (x : List Rs × Int) (w : World) (e : Ending) (w' : World) : Prop := ∃ l : Sl, e = .returned (.tuple #[.slice l.a l.n l.c, .int .i64 x.2]) ∧ RS w' l.a l.n l.c x.1 ∧ Ext w w'
theorem out_no {k p m : Int} {s : St} (h : ¬ refusedS k p m s = 0) : outF k p m s = ([], refusedS k p m s) := by
  unfold refusedS at *; unfold outF
  by_cases h1 : fits k p m = true
  · rw [if_pos h1] at *
    by_cases h2 : rightS k p m s = true
    · rw [if_pos h2] at h; exact absurd rfl h
    · simp [h1, h2]
  · rw [if_neg h1, if_neg h1]
theorem out_yes {k p m : Int} {s : St} (h : refusedS k p m s = 0) : rightS k p m s = true ∧ outF k p m s = (outS k s, 0) := by
  obtain ⟨h1, h2, _⟩ := do_yes (o := zeroC) h
  exact ⟨h2, by unfold outF; rw [if_pos h1, if_pos h2]⟩

set_option maxHeartbeats 4000000 in
set_option maxRecDepth 100000 in
theorem out_any (k p m : Int) (a v t : Sl) (s : St) (w : World) (hS : SS w a v t s) : Calls Tryz.prog 16 #[cf k p m, sv s.reg a v t s.closed] w (OuE (outF k p m s) w) := by
  obtain ⟨HT, HF, HX⟩ := both_new w k p m s.reg a v t s.closed
  have X0 := Lib.hid HX
  have HRf := Lib.hid (refused_any k p m a v t s _ (hS.ext HX))
  obtain ⟨t0, t1, t2⟩ := HT
  obtain ⟨f0, f1, f2, f3, f4⟩ := HF
  by_cases hr : refusedS k p m s = 0
  · obtain ⟨hR, hd⟩ := out_yes hr
    rw [hd]
    rw [hr] at HRf
    have HO := Lib.hid (fun W => object_any k p m W)
    have HRd : RowKit.Hid (∀ W, Ext w W → _) := Lib.hid fun W e => readout_any hR a v t W (hS.ext e)
    generalize outS k s = L at *
    generalize hOT : oT k = OT at *
    generalize hOV : oV k m = OV at *
    obtain ⟨sr, sk, sv', sw, cl⟩ := s
    clear hS hR hd hr HX hOT hOV
    dsimp only [sv, sb, cf, bx] at *
    go_enter Tryz.func16, Tryz.ntmps16
    go_wp2_with (first
      | (go_at_call 38; (with_reducible refine HRf.out.mono ?_); rintro e w1 ⟨rfl, e1⟩; replace t0 := e1.cell t0; replace t1 := e1.cell t1; replace t2 := e1.cell t2; replace f0 := e1.cell f0; replace f1 := e1.cell f1; replace f2 := e1.cell f2; replace f3 := e1.cell f3; replace f4 := e1.cell f4; have X1 : RowKit.Hid (Ext w w1) := Lib.hid (X0.out.trans e1); clear e1 HRf X0))
    go_region_held3 (fun w' => (w'.cell? ⟨w.heap.size, 0, none⟩ = some (.int .i64 k) ∧ w'.cell? ⟨w.heap.size, 1, none⟩ = some (.int .i64 p) ∧ w'.cell? ⟨w.heap.size, 2, none⟩ = some (.int .i64 m)) ∧ w'.cell? ⟨w.heap.size + 1, 0, none⟩ = some (.int .u64 sr) ∧ w'.cell? ⟨w.heap.size + 1, 1, none⟩ = some (.slice a.a a.n a.c) ∧ w'.cell? ⟨w.heap.size + 1, 2, none⟩ = some (.slice v.a v.n v.c) ∧ w'.cell? ⟨w.heap.size + 1, 3, none⟩ = some (.slice t.a t.n t.c) ∧ w'.cell? ⟨w.heap.size + 1, 4, none⟩ = some (.bool cl))
      (repeat' (first | (with_reducible assumption) | (with_reducible refine And.intro ?_ ?_) | (with_reducible refine box_alloc ?_) | (with_reducible refine box_drew ?_) | (with_reducible refine Ext.cell ‹_› ?_)))
      (first
        | (go_at_call 36; (with_reducible refine (HO.out _).mono ?_); rintro e w' ⟨rfl, rfl⟩)
        | (go_at_call 39; (with_reducible refine (HRd.out _ (by repeat (first | exact X1.out | refine Ext.alloc ?_ _ | refine Ext.drew ?_))).mono ?_); rintro e w3 ⟨⟨la, ln, lc⟩, rfl, hl, e3⟩))
    have E3 : RowKit.Hid (Ext w w3) := Lib.hid (Ext.trans (by repeat (first | exact X1.out | refine Ext.alloc ?_ _ | refine Ext.drew ?_)) e3)
    have HL := Lib.hid hl
    clear e3 hl
    go_wp2_with (fail)
    go_ret2
    exact ⟨⟨la, ln, lc⟩, rfl, HL.out, E3.out⟩
  · rw [out_no hr]
    have hr2 : (refusedS k p m s != 0) = true := by simpa using hr
    generalize refusedS k p m s = E at *
    obtain ⟨sr, sk, sv', sw, cl⟩ := s
    clear hS hr HX
    dsimp only [sv, sb, cf, bx] at *
    go_enter Tryz.func16, Tryz.ntmps16
    go_wp2_with (first
      | (go_at_call 38; (with_reducible refine HRf.out.mono ?_); rintro e w1 ⟨rfl, e1⟩; have X1 : RowKit.Hid (Ext w w1) := Lib.hid (X0.out.trans e1); clear e1))
    go_ret2
    exact ⟨nilSl, rfl, RS.empty _ _ _ (by decide), X1.out⟩

end Go.Proofs.YtdipddnnckfnmaaGreat.Lan

/- LanTake:
  values, and slices.Equal of answers. Conditions: what was told are answers, at most so many.
-/
namespace Go.Proofs.YtdipddnnckfnmaaGreat.Lan
open Go.RowKit (Below intOf)
open Go.Proofs.YtdipddnnckfnmaaGreat.Aut
open Go.Proofs.YtdipddnnckfnmaaGreat.Reg (cf bx fits_any)

set_option maxHeartbeats 1000000 in
set_option maxRecDepth 100000 in
theorem equal_any (s1 s2 : Option Addr) (n m c1 c2 : Nat) (xs ys : List Rs) (r : Bool) (w : World) (h1 : RS w s1 n c1 xs) (h2 : RS w s2 m c2 ys) (hr : RowKit.Hid (r = decide (xs = ys))) :
    Calls Tryz.prog 52 #[.slice s1 n c1, .slice s2 m c2] w fun e w' => e = .returned (.bool r) ∧ ∃ q, w' = w.drewN q := by
  have hn := h1.le
  have hm := h2.le
  have H1 := Lib.hid h1
  have H2 := Lib.hid h2
  clear h1 h2
  by_cases hnm : n = m
  · subst hnm
    go_enter Tryz.func52, Tryz.ntmps52
    go_wp2_with (fail)
    go_loopw [13] (fun i w' => ∃ k q : Nat, k ≤ n ∧ i = .int .i64 k ∧ w' = w.drewN q ∧ RowKit.Hid (∀ j, j < k → xs[j]? = ys[j]?)) (fun i _ => n - (intOf i).toNat)
    case atStart => exact ⟨0, 0, by omega, rfl, rfl, Lib.hid (fun j hj => by omega)⟩
    case round =>
      obtain ⟨k, q, hk, rfl, rfl, hz⟩ := hrel
      by_cases hlt : k < n
      · obtain ⟨⟨p, x⟩, hx, _, b, o, rfl, hc, hc'⟩ := H1.out.get hlt
        obtain ⟨⟨p', y⟩, hy, _, b2, o2, rfl, hd, hd'⟩ := H2.out.get hlt
        have HX := Lib.hid hx
        have HY := Lib.hid hy
        clear hx hy
        have q2 := eqR p x p' y
        by_cases hp : p = p' ∧ x = y
        · obtain ⟨rfl, rfl⟩ := hp
          have hb1 : (p == p) = true := by simp
          have hb2 : (x == x) = true := by simp
          rw [hb1, hb2] at q2
          go_wp2_with (fail)
          go_quiet (fail)
          go_wp2
          go_roundw
          case rel => exact ⟨k + 1, q + nq, by omega, by go_num, rfl, Lib.hid (fun j hj => by
            by_cases e : j = k
            · subst e; rw [HX.out, HY.out]
            · exact hz.out j (by omega))⟩
          case measure => simp [intOf]; omega
        · have hb : ((p == p') && (x == y)) = false := by
            rw [Bool.and_eq_false_iff]
            by_cases e : p = p'
            · exact .inr (by simpa using fun e2 => hp ⟨e, e2⟩)
            · exact .inl (by simpa using e)
          rw [hb] at q2
          have HN : RowKit.Hid ((p, x) ≠ (p', y)) := Lib.hid (fun e => hp (by cases e; exact ⟨rfl, rfl⟩))
          clear hp hb
          go_wp2_with (fail)
          go_quiet (fail)
          go_wp2
          go_ret
          exact ⟨ret_bool (by rw [hr.out, decide_eq_false (ne_at HX.out HY.out HN.out)]), q + nq, World.drewN_drewN _ _ _⟩
      · obtain rfl : k = n := by omega
        go_wp2
        go_ret
        exact ⟨ret_bool (by rw [hr.out, decide_eq_true (eq_all H1.out.len H2.out.len hz.out)]), _, rfl⟩
  · have hb : ((n : Int) != (m : Int)) = true := by simp; omega
    have hb2 : (n != m) = true := by simpa using hnm
    go_enter Tryz.func52, Tryz.ntmps52
    go_wp2
    go_ret
    exact ⟨ret_bool (by rw [hr.out, decide_eq_false (fun e => hnm (by rw [← H1.out.len, ← H2.out.len, e]))]), 0, rfl⟩

abbrev zerosW (n : Nat) : Array Value := madeCells #[.int .u64 0] n
theorem flatWS_map : ∀ l : List Int, flatWS l = l.map (Value.int .u64)
  | [] => rfl
  | x :: r => by rw [flatWS, flatWS_map r]; rfl
theorem zerosW_flat (n : Nat) : (zerosW n).toList = flatWS (List.replicate n 0) := by
  rw [toList_madeCells_one, flatWS_map, List.map_replicate]

end Go.Proofs.YtdipddnnckfnmaaGreat.Lan

