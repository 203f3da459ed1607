/-
  Parts of a proof, one behind the other: LawState. Each says its own conditions.
-/
import Derived.Test.YtmonkcekkhfafaaGreatDoorM06
import Derived.Test.YtmonkcekkhfafaaGreatDoorM15
import Derived.Test.YtmonkcekkhfafaaGreatDoorM16
import Derived.Test.YtmonkcekkhfafaaGreatDoorM17
import Derived.Deep.CutRange
import Derived.Deep.CutBlock

/- LawState:
  What the laws of layer 9 make of raw numbers: a state: what calls have made. Conditions: the configuration fits; the raw calls can be read.
-/
namespace Go.Proofs.YtmonkcekkhfafaaGreatDoor.Law
open Go.RowKit (Below intOf)
open Go.Proofs.YtmonkcekkhfafaaGreatDoor.Aut
open Go.Proofs.YtmonkcekkhfafaaGreatDoor.Reg (cf bx fits_any)

/-- It answers a state that is right. -/
def StE (k p m : Int) (w : World) (e : Ending) (w' : World) : Prop := ∃ s : St, rightS k p m s = true ∧ ∃ a v t : Sl, e = .returned (sv s.reg a v t s.closed) ∧ SS w' a v t s ∧ Ext w w'
/-- What a round finds. -/
def StL (k p m : Int) (w wr : World) (S : Nat) : Prop := ∃ (s : St) (a v t : Sl), rightS k p m s = true ∧ SS wr a v t s ∧ OffS a v t (w.heap.size + 1) ∧ Cb wr S (sc s.reg a v t s.closed) ∧ Cb wr w.heap.size [.int .i64 k, .int .i64 p, .int .i64 m] ∧ Cb wr (w.heap.size + 1) (sc 0 nilSl nilSl nilSl false) ∧ Ext w wr
theorem off_new {w1 : World} {a v t : Sl} {s : St} {b : Nat} {cs : List Value} (hk : s.keys = []) (hv : s.vals = []) (h : SS w1 a v t s) (_ : Cb w1 b cs) (hb : ∀ o x, w1.cell? ⟨b, o, none⟩ ≠ some (.int .i64 x)) : OffS a v t b := by
  obtain ⟨_, h1, h2, h3⟩ := h
  refine ⟨fun hn => ?_, fun hn => ?_, fun hn g o e q => ?_⟩
  · have := h1.len; rw [hk] at this; simp at this; omega
  · have := h2.len; rw [hv] at this; simp at this; omega
  · obtain ⟨x, _, _, b', o', e2, hc⟩ := h3.get (k := 0) hn
    rw [e] at e2; cases e2; subst q
    exact hb _ x hc
/-- What a round's call leaves. -/
def StC (k p m : Int) (w wx : World) (S : Nat) (v8 v10 : Value) : Prop := v10 = .int .i64 0 ∧ ∃ B : Nat, v8 = .pointer (some ⟨B, 0, none⟩) ∧ ∃ (d : St) (a v t : Sl), rightS k p m d = true ∧ SS wx a v t d ∧ OffS a v t S ∧ OffS a v t (w.heap.size + 1) ∧ Cb wx B (sc d.reg a v t d.closed) ∧ (∃ (s : St) (a v t : Sl), Cb wx S (sc s.reg a v t s.closed)) ∧ Cb wx w.heap.size [.int .i64 k, .int .i64 p, .int .i64 m] ∧ Cb wx (w.heap.size + 1) (sc 0 nilSl nilSl nilSl false) ∧ Ext w wx
theorem u64_i {i : Nat} (h : i ≤ 4096) : IntKind.u64.wrap (i : Int) = (i : Int) ∧ U64 (i : Int) := by
  refine ⟨?_, ?_⟩
  · simp only [IntKind.wrap_u64]; omega
  · unfold U64; omega
def stDeps : Nat → List Nat := fun i => match i with | 10 => [9] | 11 => [10] | 12 => [10, 11] | 13 => [10, 11] | 14 => [10, 11] | _ => []
def stSlots : Nat → Option Tmp := fun i => match i with | 9 => some 36 | 10 => some 37 | 11 => some 26 | 12 => some 38 | 13 => some 39 | 14 => some 40 | 15 => some 8 | 16 => some 9 | _ => none
/-- What each operation of the round's region leaves. -/
def StF (k p m : Int) (wr : World) : Nat → (Nat → Value) → World → Prop := fun i vs w' => match i with
  | 9 => ∃ oo, Wc oo ∧ vs 9 = ov oo
  | 10 => ∃ (d : St) (a v t : Sl) (d2 d3 : Int), rightS k p m d = true ∧ SS w' a v t d ∧ (∀ B, B < wr.heap.size → OffS a v t B) ∧ vs 10 = .tuple #[sv d.reg a v t d.closed, rv d2 d3, .int .i64 0]
  | 11 => vs 11 = vs 10
  | 12 => ∃ x y z, vs 10 = .tuple #[x, y, z] ∧ vs 12 = x
  | 13 => ∃ x y z, vs 10 = .tuple #[x, y, z] ∧ vs 13 = y
  | 14 => ∃ x y z, vs 10 = .tuple #[x, y, z] ∧ vs 14 = z
  | 15 => ∃ B : Nat, vs 15 = .pointer (some ⟨B, 0, none⟩) ∧ wr.heap.size ≤ B ∧ Cb w' B (sc 0 nilSl nilSl nilSl false)
  | 16 => ∃ B : Nat, vs 16 = .pointer (some ⟨B, 0, none⟩) ∧ wr.heap.size ≤ B ∧ Cb w' B [.int .i64 0, .int .u64 0]
  | _ => True
/-- What lies in a box is no state's row; two boxes are two. -/
def StX : Nat → Nat → (Nat → Value) → Prop := fun i j vs =>
  (i = 10 ∨ j = 10 → ∀ b : Nat, (b = 15 ∨ b = 16) → (i = b ∨ j = b) → ∀ (B : Nat) r a v t cl y z, vs b = .pointer (some ⟨B, 0, none⟩) → vs 10 = .tuple #[sv r a v t cl, y, z] → OffS a v t B) ∧
  (i = 15 ∨ j = 15 → i = 16 ∨ j = 16 → ∀ B B' : Nat, vs 15 = .pointer (some ⟨B, 0, none⟩) → vs 16 = .pointer (some ⟨B', 0, none⟩) → B ≠ B')
theorem stF_loc {k p m : Int} {wr : World} : ∀ i vs vs' w, (∀ j, j = i ∨ j ∈ stDeps i → vs j = vs' j) → StF k p m wr i vs w → StF k p m wr i vs' w := by
  intro i vs vs' w h hF
  unfold StF at hF ⊢
  split at hF
  · obtain ⟨oo, h1, h2⟩ := hF; exact ⟨oo, h1, (h 9 (.inl rfl)).symm.trans h2⟩
  · obtain ⟨d, a, v, t, d2, d3, h1, h2, h3, h4⟩ := hF; exact ⟨d, a, v, t, d2, d3, h1, h2, h3, (h 10 (.inl rfl)).symm.trans h4⟩
  · exact (h 11 (.inl rfl)).symm.trans (hF.trans (h 10 (.inr (by decide))))
  · obtain ⟨x, y, z, h1, h2⟩ := hF; exact ⟨x, y, z, (h 10 (.inr (by decide))).symm.trans h1, (h 12 (.inl rfl)).symm.trans h2⟩
  · obtain ⟨x, y, z, h1, h2⟩ := hF; exact ⟨x, y, z, (h 10 (.inr (by decide))).symm.trans h1, (h 13 (.inl rfl)).symm.trans h2⟩
  · obtain ⟨x, y, z, h1, h2⟩ := hF; exact ⟨x, y, z, (h 10 (.inr (by decide))).symm.trans h1, (h 14 (.inl rfl)).symm.trans h2⟩
  · obtain ⟨B, h1, h2⟩ := hF; exact ⟨B, (h 15 (.inl rfl)).symm.trans h1, h2⟩
  · obtain ⟨B, h1, h2⟩ := hF; exact ⟨B, (h 16 (.inl rfl)).symm.trans h1, h2⟩
  · trivial
theorem stF_stab {k p m : Int} {wr : World} : ∀ i vs w w', Ext w w' → StF k p m wr i vs w → StF k p m wr i vs w' := by
  intro i vs w w' h hF
  unfold StF at hF ⊢
  split at hF
  · exact hF
  · obtain ⟨d, a, v, t, d2, d3, h1, h2, h3⟩ := hF; exact ⟨d, a, v, t, d2, d3, h1, h2.ext h, h3⟩
  · exact hF
  · exact hF
  · exact hF
  · exact hF
  · obtain ⟨B, h1, h2, h3⟩ := hF; exact ⟨B, h1, h2, h3.ext h⟩
  · obtain ⟨B, h1, h2, h3⟩ := hF; exact ⟨B, h1, h2, h3.ext h⟩
  · trivial
theorem stX_loc : ∀ i j vs vs', vs i = vs' i → vs j = vs' j → StX i j vs → StX i j vs' := by
  intro i j vs vs' hi hj ⟨h1, h2⟩
  refine ⟨fun h10 b hb hbb B r a v t cl y z e1 e2 => h1 h10 b hb hbb B r a v t cl y z ?_ ?_, fun h15 h16 B B' e1 e2 => h2 h15 h16 B B' ?_ ?_⟩
  · rcases hbb with rfl | rfl
    · exact hi.trans e1
    · exact hj.trans e1
  · rcases h10 with rfl | rfl
    · exact hi.trans e2
    · exact hj.trans e2
  · rcases h15 with rfl | rfl
    · exact hi.trans e1
    · exact hj.trans e1
  · rcases h16 with rfl | rfl
    · exact hi.trans e2
    · exact hj.trans e2
theorem stX_no {i j : Nat} {vs : Nat → Value} (h0 : i ≠ 10) (h5 : i ≠ 15) (h6 : i ≠ 16) : StX i j vs := by
  refine ⟨fun h10 b hb hbb => ?_, fun h15 h16 => ?_⟩ <;> omega
theorem stX_do {k p m : Int} {wr w5 : World} {j : Nat} {vs : Nat → Value} {r : Int} {a v t : Sl} {cl : Bool} {y z : Value} (hF : StF k p m wr j vs w5) (hO : ∀ B, B < w5.heap.size → OffS a v t B) : StX 10 j (Par.upd vs 10 (.tuple #[sv r a v t cl, y, z])) := by
  obtain ⟨ka, kn, kc⟩ := a
  obtain ⟨va, vn, vc⟩ := v
  obtain ⟨ta, tn, tc⟩ := t
  refine ⟨fun _ b hb hbb B r' a' v' t' cl' y' z' e1 e2 => ?_, fun h15 h16 => by omega⟩
  obtain ⟨ka', kn', kc'⟩ := a'
  obtain ⟨va', vn', vc'⟩ := v'
  obtain ⟨ta', tn', tc'⟩ := t'
  have hj : j = b := by omega
  subst hj
  have e2' : (.tuple #[sv r ⟨ka, kn, kc⟩ ⟨va, vn, vc⟩ ⟨ta, tn, tc⟩ cl, y, z] : Value) = .tuple #[sv r' ⟨ka', kn', kc'⟩ ⟨va', vn', vc'⟩ ⟨ta', tn', tc'⟩ cl', y', z'] := e2
  cases e2'
  have e1' : vs j = .pointer (some ⟨B, 0, none⟩) := by
    have : Par.upd vs 10 (.tuple #[sv r ⟨ka, kn, kc⟩ ⟨va, vn, vc⟩ ⟨ta, tn, tc⟩ cl, y, z]) j = vs j := if_neg (by omega)
    rw [← this]; exact e1
  rcases hb with rfl | rfl
  · obtain ⟨B', e3, _, h⟩ := hF
    cases e3.symm.trans e1'
    exact hO _ h.lt
  · obtain ⟨B', e3, _, h⟩ := hF
    cases e3.symm.trans e1'
    exact hO _ h.lt
theorem stX_box {k p m : Int} {wr w5 : World} {i j : Nat} {vs : Nat → Value} (hi : i = 15 ∨ i = 16) (hij : j ≠ i) (hF : StF k p m wr j vs w5) : StX i j (Par.upd vs i (.pointer (some ⟨w5.heap.size, 0, none⟩))) := by
  have hup : ∀ x, x ≠ i → Par.upd vs i (.pointer (some ⟨w5.heap.size, 0, none⟩)) x = vs x := fun x h => if_neg h
  have hus : Par.upd vs i (.pointer (some ⟨w5.heap.size, 0, none⟩)) i = .pointer (some ⟨w5.heap.size, 0, none⟩) := if_pos rfl
  refine ⟨fun h10 b hb hbb B r a v t cl y z e1 e2 => ?_, fun h15 h16 B B' e1 e2 => ?_⟩
  · obtain ⟨ka, kn, kc⟩ := a
    obtain ⟨va, vn, vc⟩ := v
    obtain ⟨ta, tn, tc⟩ := t
    have hj : j = 10 := by omega
    subst hj
    have hb : b = i := by omega
    subst hb
    rw [hus] at e1
    cases e1
    rw [hup 10 (by omega)] at e2
    obtain ⟨d, ⟨ka', kn', kc'⟩, ⟨va', vn', vc'⟩, ⟨ta', tn', tc'⟩, d2, d3, _, h2, _, e3⟩ := hF
    cases e3.symm.trans e2
    exact h2.off (Nat.le_refl _)
  · rcases hi with rfl | rfl
    · rw [hus] at e1
      cases e1
      have hj : j = 16 := by omega
      subst hj
      rw [hup 16 (by omega)] at e2
      obtain ⟨B2, e3, _, h⟩ := hF
      cases e3.symm.trans e2
      have := h.lt
      omega
    · rw [hus] at e2
      cases e2
      have hj : j = 15 := by omega
      subst hj
      rw [hup 15 (by omega)] at e1
      obtain ⟨B2, e3, _, h⟩ := hF
      cases e3.symm.trans e1
      have := h.lt
      omega
theorem stX_off {vs : Nat → Value} {b : Nat} {B : Nat} {r : Int} {a v t : Sl} {cl : Bool} {y z : Value} (h : StX 10 b vs ∨ StX b 10 vs) (hb : b = 15 ∨ b = 16) (e1 : vs b = .pointer (some ⟨B, 0, none⟩)) (e2 : vs 10 = .tuple #[sv r a v t cl, y, z]) : OffS a v t B := by
  rcases h with h | h
  · exact h.1 (.inl rfl) b hb (.inr rfl) B r a v t cl y z e1 e2
  · exact h.1 (.inr rfl) b hb (.inl rfl) B r a v t cl y z e1 e2
theorem stX_ne {vs : Nat → Value} {B B' : Nat} (h : StX 15 16 vs ∨ StX 16 15 vs) (e1 : vs 15 = .pointer (some ⟨B, 0, none⟩)) (e2 : vs 16 = .pointer (some ⟨B', 0, none⟩)) : B ≠ B' := by
  rcases h with h | h
  · exact h.2 (.inl rfl) (.inr rfl) B B' e1 e2
  · exact h.2 (.inr rfl) (.inl rfl) B B' e1 e2
set_option maxHeartbeats 8000000 in
set_option maxRecDepth 100000 in
theorem state_any {k p m : Int} (sl : Option Addr) (n c : Nat) (w : World) (hf : fits k p m = true) (hT : TS w sl n) :
    Calls Tryz.prog 11 #[cf k p m, .slice sl n c] w (StE k p m w) := by
  have hm : I64 m := by have := fits_of hf; unfold I64; omega
  have hnew : newS k p m = ((newS k p m).1, 0) := by unfold newS; rw [if_pos hf]
  have HN : RowKit.Hid (∀ W, _) := Lib.hid (fun W => rnew_any k p m W)
  rw [hnew] at HN
  have HNR := Lib.hid (new_right hf)
  have HK0 : RowKit.Hid ((newS k p m).1.keys = [] ∧ (newS k p m).1.vals = []) := Lib.hid (by unfold newS; rw [if_pos hf]; exact ⟨rfl, rfl⟩)
  generalize (newS k p m).1 = s0 at *
  have HTS := Lib.hid hT
  have HF := Lib.hid hf
  have HM := Lib.hid hm
  have b0 : Cb ((w.alloc (.cells #[.int .i64 k, .int .i64 p, .int .i64 m] 24)).alloc (.cells #[.int .u64 0, .slice none 0 0, .slice none 0 0, .slice none 0 0, .bool false] 30)) w.heap.size [.int .i64 k, .int .i64 p, .int .i64 m] := (Cb.new w _ _).alloc _
  have b1 : Cb ((w.alloc (.cells #[.int .i64 k, .int .i64 p, .int .i64 m] 24)).alloc (.cells #[.int .u64 0, .slice none 0 0, .slice none 0 0, .slice none 0 0, .bool false] 30)) (w.heap.size + 1) (sc 0 nilSl nilSl nilSl false) := by repeat (first | ((with_reducible refine Cb.at _ rfl ?_); (simp; done)) | with_reducible refine Cb.alloc ?_ _)
  have hX : Ext w ((w.alloc (.cells #[.int .i64 k, .int .i64 p, .int .i64 m] 24)).alloc (.cells #[.int .u64 0, .slice none 0 0, .slice none 0 0, .slice none 0 0, .bool false] 30)) := (Ext.new w _).alloc _
  obtain ⟨c0, c1, c2⟩ := b0.three
  have HB0 := Lib.hid b0
  have HB1 := Lib.hid b1
  have HX := Lib.hid hX
  clear b0 b1 hX hT hf hnew hm
  dsimp only [cf, sv] at *
  go_enter Tryz.func11, Tryz.ntmps11
  go_wp2_with (first
    | (go_at_call 20; (with_reducible refine (HN.out _).mono ?_); rintro e w1 ⟨e1, ⟨ka, kn, kc⟩, ⟨va, vn, vc⟩, ⟨ta, tn, tc⟩, rfl, s1⟩; have E1 := Lib.hid e1; have S1 := Lib.hid s1; clear e1 s1 c0 c1 c2))
  have HBL : RowKit.Hid (∀ o x, w1.cell? ⟨w.heap.size + 1, o, none⟩ ≠ some (.int .i64 x)) := Lib.hid (fun o x h => by
    have hb := E1.out.block (w.heap.size + 1) (by simp)
    unfold World.cell? at h
    simp only [hb] at h
    have hn := World.alloc_heap_new (w.alloc (.cells #[.int .i64 k, .int .i64 p, .int .i64 m] 24)) (.cells #[.int .u64 0, .slice none 0 0, .slice none 0 0, .slice none 0 0, .bool false] 30)
    simp only [World.size_alloc] at hn
    rw [hn] at h
    rcases o with _ | _ | _ | _ | _ | o <;> simp at h)
  obtain ⟨r0, ks0, vs0, vt0, cl0⟩ := s0
  have HL0 : RowKit.Hid (StL k p m w (w1.alloc (.cells #[.int .u64 r0, .slice ka kn kc, .slice va vn vc, .slice ta tn tc, .bool cl0] 30)) w1.heap.size) := Lib.hid (by
    refine ⟨⟨r0, ks0, vs0, vt0, cl0⟩, ⟨ka, kn, kc⟩, ⟨va, vn, vc⟩, ⟨ta, tn, tc⟩, HNR.out, S1.out.ext (Ext.new _ _), off_new HK0.out.1 HK0.out.2 S1.out (HB1.out.ext E1.out) HBL.out, Cb.new w1 _ _, (HB0.out.ext E1.out).alloc _, (HB1.out.ext E1.out).alloc _, (HX.out.trans E1.out).alloc _⟩)
  have hz1 : w.heap.size + 1 + 1 ≤ w1.heap.size := by have := E1.out.size; simpa only [World.size_alloc] using this
  clear HB0 HB1 HX E1 S1 HNR HN HK0 HBL
  dsimp only at *
  go_loopw [7] (fun iv wr => ∃ i : Nat, iv = .int .i64 i ∧ i ≤ 30 ∧ StL k p m w wr w1.heap.size) (fun iv _ => 30 - (intOf iv).toNat)
  case atStart => exact ⟨0, rfl, by omega, HL0.out⟩
  case round =>
    obtain ⟨i, rfl, hi30, ⟨sr, sk, su, sw, scl⟩, ⟨ka4, kn4, kc4⟩, ⟨va4, vn4, vc4⟩, ⟨ta4, tn4, tc4⟩, hR, hS, hO, hB, hC, hD, hE⟩ := hrel
    clear HL0
    by_cases hin : i < n ∧ i < 30
    · obtain ⟨hin, hi3⟩ := hin
      obtain ⟨rx, ry, rz, ux, uy, uz, b, o, esl, cx, cy, cz⟩ := HTS.out.2 i hin
      subst esl
      have hii : (i : Int) < n := by omega
      have hi3i : (i : Int) < 30 := by omega
      have hui := Lib.hid (u64_i (i := i) (by omega))
      have HOp := Lib.hid (fun W => op_any rx ry rz (i : Int) W HF.out ux uy uz hui.out.2)
      have HDo := Lib.hid (fun W (h : SS W ⟨ka4, kn4, kc4⟩ ⟨va4, vn4, vc4⟩ ⟨ta4, tn4, tc4⟩ ⟨sr, sk, su, sw, scl⟩) o (ho : Wc o) => rdo_any k p m ⟨ka4, kn4, kc4⟩ ⟨va4, vn4, vc4⟩ ⟨ta4, tn4, tc4⟩ ⟨sr, sk, su, sw, scl⟩ o W HM.out h ho)
      have hdo : RowKit.Hid (∀ o, doF k p m ⟨sr, sk, su, sw, scl⟩ o = ((doS k m ⟨sr, sk, su, sw, scl⟩ o).1, (doS k m ⟨sr, sk, su, sw, scl⟩ o).2, 0)) := Lib.hid (fun o => by unfold doF; rw [if_pos HF.out, if_pos hR])
      have cx2 := hE.cell cx
      have cy2 := hE.cell cy
      have cz2 := hE.cell cz
      obtain ⟨c0, c1, c2⟩ := hC.three
      obtain ⟨s0, s1, s2, s3, s4⟩ := hB.five
      have HR := Lib.hid hR
      have HS := Lib.hid hS
      clear hO
      have HB := Lib.hid hB
      have HC := Lib.hid hC
      have HD := Lib.hid hD
      have HE := Lib.hid hE
      have hlt1 : w1.heap.size < wr.heap.size := hB.lt
      clear hR hS hB hC hD hE cx cy cz ux uy uz
      have hui1 := hui.out.1
      go_upto_region 5 with (fail)
      go_cut [8, 9, 10] from 26 to 40 (fun v8 v9 v10 wx => StC k p m w wx w1.heap.size v8 v10)
      case first =>
        refine wp_region_held_drew (S := fun w' => Ext wr w') (by kernel_rfl) (Ext.drew (Ext.refl wr)) (fun hHeld => ?_)
        refine wpAnyH_take (i := 0) (v := .agg #[.int .i64 k, .int .i64 p, .int .i64 m]) rfl (by kernel_rfl) (by kernel_rfl) (by kernel_rfl) (fun _ _ _ h => h) (Or.inl ⟨by kernel_rfl, ?_⟩) (by assumption) ?_
        · intro w hE
          have q0 := hE.cell c0
          have q1 := hE.cell c1
          have q2 := hE.cell c2
          go_simp
        refine wpAnyH_take (i := 1) (v := .agg #[.int .u64 sr, .slice ka4 kn4 kc4, .slice va4 vn4 vc4, .slice ta4 tn4 tc4, .bool scl]) rfl (by kernel_rfl) (by kernel_rfl) (by kernel_rfl) (fun _ _ _ h => h) (Or.inl ⟨by kernel_rfl, ?_⟩) (by assumption) ?_
        · intro w hE
          have q0 := hE.cell s0
          have q1 := hE.cell s1
          have q2 := hE.cell s2
          have q3 := hE.cell s3
          have q4 := hE.cell s4
          go_simp
        refine wpAnyH_take (i := 2) (v := .agg #[.int .i64 k, .int .i64 p, .int .i64 m]) rfl (by kernel_rfl) (by kernel_rfl) (by kernel_rfl) (fun _ _ _ h => h) (Or.inl ⟨by kernel_rfl, ?_⟩) (by assumption) ?_
        · intro w hE
          have q0 := hE.cell c0
          have q1 := hE.cell c1
          have q2 := hE.cell c2
          go_simp
        refine wpAnyH_take (i := 3) (v := .slice (some ⟨b, o, none⟩) n c) rfl (by kernel_rfl) (by kernel_rfl) (by kernel_rfl) (fun _ _ _ h => h) (Or.inl ⟨by kernel_rfl, ?_⟩) (by assumption) ?_
        · intro w hE
          go_simp
        refine wpAnyH_take (i := 4) (v := .int .i64 (i : Int)) rfl (by kernel_rfl) (by kernel_rfl) (by kernel_rfl) (fun _ _ _ h => h) (Or.inl ⟨by kernel_rfl, ?_⟩) (by assumption) ?_
        · intro w hE
          go_simp
        refine wpAnyH_take (i := 5) (v := .pointer (some ⟨b, o + i * 3, none⟩)) rfl (by kernel_rfl) (by kernel_rfl) (by kernel_rfl) (fun _ _ _ h => h) (Or.inl ⟨by kernel_rfl, ?_⟩) (by assumption) ?_
        · intro w hE
          go_simp
        refine wpAnyH_take (i := 6) (v := .agg #[.int .i64 rx, .int .i64 ry, .int .i64 rz]) rfl (by kernel_rfl) (by kernel_rfl) (by kernel_rfl) (fun _ _ _ h => h) (Or.inl ⟨by kernel_rfl, ?_⟩) (by assumption) ?_
        · intro w hE
          have q0 := hE.cell cx2
          have q1 := hE.cell cy2
          have q2 := hE.cell cz2
          go_simp
        refine wpAnyH_take (i := 7) (v := .int .i64 (i : Int)) rfl (by kernel_rfl) (by kernel_rfl) (by kernel_rfl) (fun _ _ _ h => h) (Or.inl ⟨by kernel_rfl, ?_⟩) (by assumption) ?_
        · intro w hE
          go_simp
        refine wpAnyH_take (i := 8) (v := .int .u64 (i : Int)) rfl (by kernel_rfl) (by kernel_rfl) (by kernel_rfl) (fun _ _ _ h => h) (Or.inl ⟨by kernel_rfl, ?_⟩) (by assumption) ?_
        · intro w hE
          go_simp
        clear c0 c1 c2 s0 s1 s2 s3 s4 cx2 cy2 cz2
        refine Par.wpAnyH_par (fuel := 3) [9, 10, 11, 12, 13, 14, 15, 16] [11, 12, 13, 14] stDeps stSlots (StF k p m wr) StX Ext rfl (by kernel_rfl) (by kernel_rfl) (by kernel_rfl) (fun _ _ _ _ _ h => h) Ext.refl (fun _ _ _ h g => Ext.trans h g) stF_loc stF_stab stX_loc (by assumption) ?_ ?_ ?_
        · refine List.forall_mem_cons.2 ⟨?_, List.forall_mem_cons.2 ⟨?_, List.forall_mem_cons.2 ⟨?_, List.forall_mem_cons.2 ⟨?_, fun _ h => by cases h⟩⟩⟩⟩
          · refine ⟨_, rfl, fun done vs w5 hn hS5 hR5 hd hF => ?_⟩
            obtain ⟨⟨dr, dk, dv, dt, dc⟩, ⟨k6, n6, c6⟩, ⟨p6, q6, r6⟩, ⟨x6, y6, u6⟩, d2, d3, _, _, _, e10⟩ := hF 10 (hd 10 (by decide))
            refine ⟨.tuple #[sv dr ⟨k6, n6, c6⟩ ⟨p6, q6, r6⟩ ⟨x6, y6, u6⟩ dc, rv d2 d3, .int .i64 0], Or.inl ⟨by kernel_rfl, ?_⟩, e10.symm, fun j _ => stX_no (by decide) (by decide) (by decide)⟩
            intro w hE
            simp only [stDeps, Par.putAll_nil, Par.putAll_some, stSlots]
            simp only [e10]
            go_simp
          · refine ⟨_, rfl, fun done vs w5 hn hS5 hR5 hd hF => ?_⟩
            obtain ⟨⟨dr, dk, dv, dt, dc⟩, ⟨k6, n6, c6⟩, ⟨p6, q6, r6⟩, ⟨x6, y6, u6⟩, d2, d3, _, _, _, e10⟩ := hF 10 (hd 10 (by decide))
            have e11 : vs 11 = vs 10 := hF 11 (hd 11 (by decide))
            refine ⟨sv dr ⟨k6, n6, c6⟩ ⟨p6, q6, r6⟩ ⟨x6, y6, u6⟩ dc, Or.inl ⟨by kernel_rfl, ?_⟩, ⟨_, _, _, e10, rfl⟩, fun j _ => stX_no (by decide) (by decide) (by decide)⟩
            intro w hE
            simp only [stDeps, Par.putAll_nil, Par.putAll_some, stSlots]
            simp only [e11, e10]
            go_simp
          · refine ⟨_, rfl, fun done vs w5 hn hS5 hR5 hd hF => ?_⟩
            obtain ⟨⟨dr, dk, dv, dt, dc⟩, ⟨k6, n6, c6⟩, ⟨p6, q6, r6⟩, ⟨x6, y6, u6⟩, d2, d3, _, _, _, e10⟩ := hF 10 (hd 10 (by decide))
            have e11 : vs 11 = vs 10 := hF 11 (hd 11 (by decide))
            refine ⟨rv d2 d3, Or.inl ⟨by kernel_rfl, ?_⟩, ⟨_, _, _, e10, rfl⟩, fun j _ => stX_no (by decide) (by decide) (by decide)⟩
            intro w hE
            simp only [stDeps, Par.putAll_nil, Par.putAll_some, stSlots]
            simp only [e11, e10]
            go_simp
          · refine ⟨_, rfl, fun done vs w5 hn hS5 hR5 hd hF => ?_⟩
            obtain ⟨⟨dr, dk, dv, dt, dc⟩, ⟨k6, n6, c6⟩, ⟨p6, q6, r6⟩, ⟨x6, y6, u6⟩, d2, d3, _, _, _, e10⟩ := hF 10 (hd 10 (by decide))
            have e11 : vs 11 = vs 10 := hF 11 (hd 11 (by decide))
            refine ⟨.int .i64 0, Or.inl ⟨by kernel_rfl, ?_⟩, ⟨_, _, _, e10, rfl⟩, fun j _ => stX_no (by decide) (by decide) (by decide)⟩
            intro w hE
            simp only [stDeps, Par.putAll_nil, Par.putAll_some, stSlots]
            simp only [e11, e10]
            go_simp
        · refine List.forall_mem_cons.2 ⟨?_, List.forall_mem_cons.2 ⟨?_, List.forall_mem_cons.2 ⟨?_, List.forall_mem_cons.2 ⟨?_, List.forall_mem_cons.2 ⟨?_, List.forall_mem_cons.2 ⟨?_, List.forall_mem_cons.2 ⟨?_, List.forall_mem_cons.2 ⟨?_, fun _ h => by cases h⟩⟩⟩⟩⟩⟩⟩⟩
          · intro _ done vs w5 hn hS5 hR5 hd hF
            simp only [stDeps, Par.putAll_nil]
            refine Par.step_of rfl (fun K hK => ?_)
            go_simp
            refine (HOp.out _).mono ?_
            rintro e w6 ⟨oo, ho, rfl, e6⟩
            exact hK.out _ _ ⟨ov oo, by kernel_rfl, hS5.trans e6, e6, ⟨oo, ho, rfl⟩, fun j _ => stX_no (by decide) (by decide) (by decide)⟩
          · intro _ done vs w5 hn hS5 hR5 hd hF
            obtain ⟨oo, ho, e9⟩ := hF 9 (hd 9 (by decide))
            simp only [stDeps, Par.putAll_nil, Par.putAll_some, stSlots]
            simp only [e9]
            refine Par.step_of rfl (fun K hK => ?_)
            have hD := HDo.out _ (HS.out.ext hS5) oo ho
            rw [hdo.out oo] at hD
            have hRd := (do_right HR.out HS.out.wd oo ho).1
            generalize doS k m ⟨sr, sk, su, sw, scl⟩ oo = d at hD hRd
            obtain ⟨⟨dr, dk, dv, dt, dc⟩, d2, d3⟩ := d
            go_simp
            refine hD.mono ?_
            rintro e w6 ⟨e6, ⟨k6, n6, c6⟩, ⟨p6, q6, r6⟩, ⟨x6, y6, u6⟩, rfl, S6, O6⟩
            exact hK.out _ _ ⟨.tuple #[sv dr ⟨k6, n6, c6⟩ ⟨p6, q6, r6⟩ ⟨x6, y6, u6⟩ dc, rv d2 d3, .int .i64 0], by kernel_rfl, hS5.trans e6, e6, ⟨⟨dr, dk, dv, dt, dc⟩, ⟨k6, n6, c6⟩, ⟨p6, q6, r6⟩, ⟨x6, y6, u6⟩, d2, d3, hRd, S6, fun B hB => O6 B (Nat.lt_of_lt_of_le hB hS5.size), rfl⟩, fun j hj => stX_do (hF j hj) O6⟩
          · exact fun h => absurd (by decide) h
          · exact fun h => absurd (by decide) h
          · exact fun h => absurd (by decide) h
          · exact fun h => absurd (by decide) h
          · intro _ done vs w5 hn hS5 hR5 hd hF
            simp only [stDeps, Par.putAll_nil]
            refine Par.step_of rfl (fun K hK => ?_)
            go_simp
            exact hK.out _ _ ⟨.pointer (some ⟨w5.heap.size, 0, none⟩), by kernel_rfl, hS5.alloc _, Ext.new _ _, ⟨w5.heap.size, rfl, hS5.size, Cb.new w5 _ _⟩, fun j hj => stX_box (.inl rfl) (fun e => hn (e ▸ hj)) (hF j hj)⟩
          · intro _ done vs w5 hn hS5 hR5 hd hF
            simp only [stDeps, Par.putAll_nil]
            refine Par.step_of rfl (fun K hK => ?_)
            go_simp
            exact hK.out _ _ ⟨.pointer (some ⟨w5.heap.size, 0, none⟩), by kernel_rfl, hS5.alloc _, Ext.new _ _, ⟨w5.heap.size, rfl, hS5.size, Cb.new w5 _ _⟩, fun j hj => stX_box (.inr rfl) (fun e => hn (e ▸ hj)) (hF j hj)⟩
        · intro vs w5 hS5 hR5 hF hXX
          obtain ⟨oo, ho, e9⟩ := hF 9 (by decide)
          obtain ⟨⟨dr, dk, dv, dt, dc⟩, ⟨k6, n6, c6⟩, ⟨p6, q6, r6⟩, ⟨x6, y6, u6⟩, d2, d3, hRd, S6, O6, e10⟩ := hF 10 (by decide)
          have e11 : vs 11 = vs 10 := hF 11 (by decide)
          obtain ⟨_, _, _, e, e12⟩ := hF 12 (by decide)
          cases e10.symm.trans e
          obtain ⟨_, _, _, e, e13⟩ := hF 13 (by decide)
          cases e10.symm.trans e
          obtain ⟨_, _, _, e, e14⟩ := hF 14 (by decide)
          cases e10.symm.trans e
          obtain ⟨B8, e15, g15, C8⟩ := hF 15 (by decide)
          obtain ⟨B9, e16, g16, C9⟩ := hF 16 (by decide)
          have x1 := stX_off (hXX 10 (by decide) 15 (by decide) (by decide)) (.inl rfl) e15 e10
          have x2 := stX_off (hXX 10 (by decide) 16 (by decide) (by decide)) (.inr rfl) e16 e10
          have x3 := stX_ne (hXX 15 (by decide) 16 (by decide) (by decide)) e15 e16
          simp only [Par.putAll_nil, Par.putAll_some, stSlots]
          simp only [e9, e10, e11, e12, e13, e14, e15, e16]
          clear hF hXX e9 e10 e11 e12 e13 e14 e15 e16 e
          obtain ⟨z0, z1, z2, z3, z4⟩ := C8.five
          have y0 := C8.f 0
          have y1 := C8.f 1
          have y2 := C8.f 2
          have y3 := C8.f 3
          have y4 := C8.f 4
          have hC8 := C8.st (.int .u64 dr) (.slice k6 n6 c6) (.slice p6 q6 r6) (.slice x6 y6 u6) (.bool dc)
          have hC9 := (((((C9.far (B := B8) (Ne.symm x3) 0 (.int .u64 dr)).far (B := B8) (Ne.symm x3) 1 (.slice k6 n6 c6)).far (B := B8) (Ne.symm x3) 2 (.slice p6 q6 r6)).far (B := B8) (Ne.symm x3) 3 (.slice x6 y6 u6)).far (B := B8) (Ne.symm x3) 4 (.bool dc))
          have hS6 := (((((SS.set S6 x1 0 (.int .u64 dr)).set x1 1 (.slice k6 n6 c6)).set x1 2 (.slice p6 q6 r6)).set x1 3 (.slice x6 y6 u6)).set x1 4 (.bool dc))
          have hE6 := (((((hS5.setCell g15 (.int .u64 dr) (o := 0)).setCell g15 (.slice k6 n6 c6) (o := 1)).setCell g15 (.slice p6 q6 r6) (o := 2)).setCell g15 (.slice x6 y6 u6) (o := 3)).setCell g15 (.bool dc) (o := 4))
          have HH := Lib.hid (And.intro hC8 (And.intro hC9 (And.intro hS6 hE6)))
          have HH2 := Lib.hid (And.intro hRd (And.intro O6 x2))
          clear hC8 hC9 hS6 hE6 C8 C9 S6 hS5 hRd O6 x1 x2 hR5 hHeld
          refine wpAnyH_ready (rs := [17]) (by kernel_rfl) (by simp) ?_
          refine AllReadyH.cons rfl (fun K hK => ?_) AllReadyH.nil
          go_simp
          refine hK.out _ _ HH.out.2.2.2 (fun hHeld => ?_)
          clear hK K z0 z1 z2 z3 z4 y0 y1 y2 y3 y4
          obtain ⟨hC8, hC9, hS6, hE6⟩ := HH.out
          clear HH hHeld
          generalize ((((w5.setCell ⟨B8, 0, none⟩ (.int .u64 dr)).setCell ⟨B8, 1, none⟩ (.slice k6 n6 c6)).setCell ⟨B8, 2, none⟩ (.slice p6 q6 r6)).setCell ⟨B8, 3, none⟩ (.slice x6 y6 u6)).setCell ⟨B8, 4, none⟩ (.bool dc) = w7 at hC8 hC9 hS6 hE6 ⊢
          obtain ⟨z0, z1⟩ := hC9.two
          have y0 := hC9.f 0
          have y1 := hC9.f 1
          have kC8 := ((hC8.far (B := B9) x3 0 (.int .i64 d2)).far (B := B9) x3 1 (.int .u64 d3))
          have kS6 := ((SS.set hS6 HH2.out.2.2 0 (.int .i64 d2)).set HH2.out.2.2 1 (.int .u64 d3))
          have kE6 := ((hE6.setCell g16 (.int .i64 d2) (o := 0)).setCell g16 (.int .u64 d3) (o := 1))
          have HH := Lib.hid (And.intro kC8 (And.intro kS6 kE6))
          clear kC8 kS6 kE6 hC8 hC9 hS6 hE6
          refine wpAnyH_ready (rs := [18]) (by kernel_rfl) (by simp) ?_
          refine AllReadyH.cons rfl (fun K hK => ?_) AllReadyH.nil
          go_simp
          refine hK.out _ _ HH.out.2.2 (fun hHeld => ?_)
          clear hK K z0 z1 y0 y1
          refine wpAnyH_take (i := 19) (v := .int .i64 0) rfl (by kernel_rfl) (by kernel_rfl) (by kernel_rfl) (fun _ _ _ h => h) (Or.inl ⟨by kernel_rfl, ?_⟩) (by assumption) ?_
          · intro w hE
            go_simp
          refine wpAnyH_done (by kernel_rfl) ?_ _
          obtain ⟨hC8, hS6, hE6⟩ := HH.out
          generalize (w7.setCell ⟨B9, 0, none⟩ (.int .i64 d2)).setCell ⟨B9, 1, none⟩ (.int .u64 d3) = w8 at hC8 hS6 hE6 ⊢
          clear HH hHeld
          go_wp2_with (fail)
          go_meet
          exact ⟨rfl, B8, rfl, ⟨dr, dk, dv, dt, dc⟩, ⟨k6, n6, c6⟩, ⟨p6, q6, r6⟩, ⟨x6, y6, u6⟩, HH2.out.1, hS6, HH2.out.2.1 _ hlt1, HH2.out.2.1 _ (by omega), hC8, ⟨⟨sr, sk, su, sw, scl⟩, ⟨ka4, kn4, kc4⟩, ⟨va4, vn4, vc4⟩, ⟨ta4, tn4, tc4⟩, HB.out.ext hE6⟩, HC.out.ext hE6, HD.out.ext hE6, HE.out.trans hE6⟩
      case rest =>
        clear c0 c1 c2 s0 s1 s2 s3 s4 cx2 cy2 cz2 HOp HDo hdo HS HB HC HD HE HR
        obtain ⟨rfl, B, rfl, ⟨dr, dk, dv, dt, dc⟩, ⟨k6, n6, c6⟩, ⟨p6, q6, r6⟩, ⟨x6, y6, u6⟩, hR, hS, hO, hO2, hb8, ⟨⟨er, ek, ev, et, ec⟩, ⟨k7, n7, c7⟩, ⟨p7, q7, r7⟩, ⟨x7, y7, u7⟩, hB⟩, hC, hD, hE⟩ := hcut
        obtain ⟨d0, d1, d2, d3, d4⟩ := hb8.five
        obtain ⟨s0, s1, s2, s3, s4⟩ := hB.five
        have f0 := hB.f 0
        have f1 := hB.f 1
        have f2 := hB.f 2
        have f3 := hB.f 3
        have f4 := hB.f 4
        have HN := Lib.hid (hB.st (.int .u64 dr) (.slice k6 n6 c6) (.slice p6 q6 r6) (.slice x6 y6 u6) (.bool dc))
        have HSx := Lib.hid (((((SS.set hS hO 0 (.int .u64 dr)).set hO 1 (.slice k6 n6 c6)).set hO 2 (.slice p6 q6 r6)).set hO 3 (.slice x6 y6 u6)).set hO 4 (.bool dc))
        have HCx := Lib.hid (((((hC.far (B := w1.heap.size) (by omega) 0 (.int .u64 dr)).far (B := w1.heap.size) (by omega) 1 (.slice k6 n6 c6)).far (B := w1.heap.size) (by omega) 2 (.slice p6 q6 r6)).far (B := w1.heap.size) (by omega) 3 (.slice x6 y6 u6)).far (B := w1.heap.size) (by omega) 4 (.bool dc))
        have HDx := Lib.hid (((((hD.far (B := w1.heap.size) (by omega) 0 (.int .u64 dr)).far (B := w1.heap.size) (by omega) 1 (.slice k6 n6 c6)).far (B := w1.heap.size) (by omega) 2 (.slice p6 q6 r6)).far (B := w1.heap.size) (by omega) 3 (.slice x6 y6 u6)).far (B := w1.heap.size) (by omega) 4 (.bool dc))
        have hw1 : w.heap.size ≤ w1.heap.size := by omega
        have HEx := Lib.hid (((((hE.setCell hw1 (.int .u64 dr) (o := 0)).setCell hw1 (.slice k6 n6 c6) (o := 1)).setCell hw1 (.slice p6 q6 r6) (o := 2)).setCell hw1 (.slice x6 y6 u6) (o := 3)).setCell hw1 (.bool dc) (o := 4))
        have HRx := Lib.hid hR
        have HO2 := Lib.hid hO2
        clear hS hO hO2 hb8 hB hC hD hE hR
        dsimp only [sc] at *
        go_wp2_with (fail)
        go_roundw
        case rel => first | exact ⟨i + 1, by go_num, by omega, ⟨dr, dk, dv, dt, dc⟩, ⟨k6, n6, c6⟩, ⟨p6, q6, r6⟩, ⟨x6, y6, u6⟩, HRx.out, HSx.out, HO2.out, HN.out, HCx.out, HDx.out, HEx.out⟩ | ((repeat apply Exists.intro); exact ⟨⟨i + 1, by go_num, by omega, ⟨dr, dk, dv, dt, dc⟩, ⟨k6, n6, c6⟩, ⟨p6, q6, r6⟩, ⟨x6, y6, u6⟩, HRx.out, HSx.out, HO2.out, HN.out, HCx.out, HDx.out, HEx.out⟩, rfl⟩)
        case measure => simp [intOf]; omega
    · have hBx := Lib.hid hB
      have hRx := Lib.hid (And.intro hR (And.intro hS hO))
      have hEx := Lib.hid hE
      have hDx := Lib.hid hD
      rcases (by omega : ¬ i < n ∨ (i < n ∧ ¬ i < 30)) with hx0 | ⟨hx0, hx1⟩
      all_goals
        obtain ⟨s0, s1, s2, s3, s4⟩ := hBx.out.five
        obtain ⟨d0, d1, d2, d3, d4⟩ : wr.cell? ⟨w.heap.size + 1, 0, none⟩ = some (.int .u64 0) ∧ wr.cell? ⟨w.heap.size + 1, 1, none⟩ = some (.slice none 0 0) ∧ wr.cell? ⟨w.heap.size + 1, 2, none⟩ = some (.slice none 0 0) ∧ wr.cell? ⟨w.heap.size + 1, 3, none⟩ = some (.slice none 0 0) ∧ wr.cell? ⟨w.heap.size + 1, 4, none⟩ = some (.bool false) := hDx.out.five
        have f0 := hDx.out.f 0
        have f1 := hDx.out.f 1
        have f2 := hDx.out.f 2
        have f3 := hDx.out.f 3
        have f4 := hDx.out.f 4
        clear hin hB hC hD hE hR hS hO
        dsimp only [sc] at *
        go_wp2_with (fail)
        obtain ⟨t0, t1, t2, t3, t4⟩ := (hDx.out.st (.int .u64 sr) (.slice ka4 kn4 kc4) (.slice va4 vn4 vc4) (.slice ta4 tn4 tc4) (.bool scl)).five
        refine bodyPost_ret (v := sv sr ⟨ka4, kn4, kc4⟩ ⟨va4, vn4, vc4⟩ ⟨ta4, tn4, tc4⟩ scl) (by simp [results, Tryz.results11, go_sem, t0, t1, t2, t3, t4]) rfl ?_
        refine ⟨⟨sr, sk, su, sw, scl⟩, hRx.out.1, ⟨ka4, kn4, kc4⟩, ⟨va4, vn4, vc4⟩, ⟨ta4, tn4, tc4⟩, rfl, ?_, ?_⟩
        · repeat (first | (with_reducible exact hRx.out.2.1) | (with_reducible refine SS.set ?_ hRx.out.2.2 _ _))
        · repeat (first | (with_reducible exact hEx.out) | (with_reducible refine Ext.setCell ?_ (by omega) _))

end Go.Proofs.YtmonkcekkhfafaaGreatDoor.Law

