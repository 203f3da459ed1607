/-
  EncZero: for every input the law returns true, and each argument reads behind the call as it read before; the package variables homes and rounds hold what their initialisers lay (the card ties them to the text).
-/
import Derived.Test.YtmonkcekkhfafaaGreatDoorM28
import Derived.Test.YtmonkcekkhfafaaGreatDoorM29
import Derived.Test.YtmonkcekkhfafaaGreatDoorCards
import Derived.Test.YtmonkcekkhfafaaGreatDoorTie
import Derived.WalkKit
import Derived.ProofKit
import Derived.OpenShut
import Derived.Deep.DeepHandedRow
/- LawZero:
  EncZero: the walk. Conditions: the packages' tables lie; integers' bounds.
-/
namespace Go.Proofs.YtmonkcekkhfafaaGreatDoor.Enc
open Go.RowKit (Below intOf)
open Go.Proofs.YtmonkcekkhfafaaGreatDoor.Aut
open Go.Proofs.YtmonkcekkhfafaaGreatDoor.Law (conf_any)
open Go.Proofs.YtmonkcekkhfafaaGreatDoor.Reg (cf bx fits_any)

theorem made_own2 {base : Nat} (n : Nat) (hn : n ≤ 1048576) (W : World) (hb : base ≤ W.heap.size) : (W.alloc (.cells (zerosW n) 26)).ownsRow base 26 1 (.slice (some ⟨W.heap.size, 0, none⟩) n n) n (flatWS (List.replicate n 0)) := by
  have := World.ownsRow_lit (base := base) (e := 26) (size := 1) W (zerosW n) n hb (by unfold maxLen; omega) (by simp [zerosW, madeCells])
  rw [zerosW_flat] at this
  exact this
def z5Deps : Nat → List Nat := fun i => match i with | 4 => [3] | 5 => [4] | 6 => [4, 5] | 7 => [4, 5] | _ => []
def z5Slots : Nat → Option Tmp := fun i => match i with | 3 => some 31 | 4 => some 32 | 5 => some 27 | 6 => some 33 | 7 => some 34 | 8 => some 9 | _ => none
def Z5F (d : St) (n : Nat) (wr : World) : Nat → (Nat → Value) → World → Prop := fun i vs w' => match i with
  | 3 => ∃ B : Nat, vs 3 = .slice (some ⟨B, 0, none⟩) n n ∧ WS w' (some ⟨B, 0, none⟩) n n (List.replicate n 0)
  | 4 => ∃ a v t : Sl, SS w' a v t d ∧ (∀ B, B < wr.heap.size → OffS a v t B) ∧ vs 4 = .tuple #[sv d.reg a v t d.closed, .int .i64 0]
  | 5 => vs 5 = vs 4
  | 6 => ∃ x y, vs 4 = .tuple #[x, y] ∧ vs 6 = x
  | 7 => ∃ x y, vs 4 = .tuple #[x, y] ∧ vs 7 = y
  | 8 => ∃ B : Nat, vs 8 = .pointer (some ⟨B, 0, none⟩) ∧ wr.heap.size ≤ B ∧ Cb w' B (sc 0 nilSl nilSl nilSl false)
  | _ => True
def Z5X : Nat → Nat → (Nat → Value) → Prop := fun i j vs => i = 4 ∨ j = 4 → i = 8 ∨ j = 8 → ∀ (B : Nat) r a v t cl y, vs 8 = .pointer (some ⟨B, 0, none⟩) → vs 4 = .tuple #[sv r a v t cl, y] → OffS a v t B
theorem z5F_loc {d : St} {n : Nat} {wr : World} : ∀ i vs vs' w, (∀ j, j = i ∨ j ∈ z5Deps i → vs j = vs' j) → Z5F d n wr i vs w → Z5F d n wr i vs' w := by
  intro i vs vs' w h hF
  unfold Z5F at hF ⊢
  split at hF
  · obtain ⟨B, h1, h2⟩ := hF; exact ⟨B, (h 3 (.inl rfl)).symm.trans h1, h2⟩
  · obtain ⟨a, v, t, h1, h2, h3⟩ := hF; exact ⟨a, v, t, h1, h2, (h 4 (.inl rfl)).symm.trans h3⟩
  · exact (h 5 (.inl rfl)).symm.trans (hF.trans (h 4 (.inr (by decide))))
  · obtain ⟨x, y, h1, h2⟩ := hF; exact ⟨x, y, (h 4 (.inr (by decide))).symm.trans h1, (h 6 (.inl rfl)).symm.trans h2⟩
  · obtain ⟨x, y, h1, h2⟩ := hF; exact ⟨x, y, (h 4 (.inr (by decide))).symm.trans h1, (h 7 (.inl rfl)).symm.trans h2⟩
  · obtain ⟨B, h1, h2⟩ := hF; exact ⟨B, (h 8 (.inl rfl)).symm.trans h1, h2⟩
  · trivial
theorem z5F_stab {d : St} {n : Nat} {wr : World} : ∀ i vs w w', Ext w w' → Z5F d n wr i vs w → Z5F d n wr i vs w' := by
  intro i vs w w' h hF
  unfold Z5F at hF ⊢
  split at hF
  · obtain ⟨B, h1, h2⟩ := hF; exact ⟨B, h1, h2.ext h⟩
  · obtain ⟨a, v, t, h1, h2, h3⟩ := hF; exact ⟨a, v, t, h1.ext h, h2, h3⟩
  · exact hF
  · exact hF
  · exact hF
  · obtain ⟨B, h1, h2, h3⟩ := hF; exact ⟨B, h1, h2, h3.ext h⟩
  · trivial
theorem z5X_loc : ∀ i j vs vs', vs i = vs' i → vs j = vs' j → Z5X i j vs → Z5X i j vs' := by
  intro i j vs vs' hi hj h1 h4 h8 B r a v t cl y e1 e2
  refine h1 h4 h8 B r a v t cl y ?_ ?_
  · rcases h8 with rfl | rfl
    · exact hi.trans e1
    · exact hj.trans e1
  · rcases h4 with rfl | rfl
    · exact hi.trans e2
    · exact hj.trans e2
theorem z5X_no {i j : Nat} {vs : Nat → Value} (h4 : i ≠ 4) (h8 : i ≠ 8) : Z5X i j vs := fun a b => by omega
theorem z5X_call {d : St} {n : Nat} {wr w5 : World} {j : Nat} {vs : Nat → Value} {r : Int} {a v t : Sl} {cl : Bool} {y : Value} (hF : Z5F d n wr j vs w5) (hO : ∀ B, B < w5.heap.size → OffS a v t B) : Z5X 4 j (Par.upd vs 4 (.tuple #[sv r a v t cl, y])) := by
  obtain ⟨ka, kn, kc⟩ := a
  obtain ⟨va, vn, vc⟩ := v
  obtain ⟨ta, tn, tc⟩ := t
  intro _ h8 B r' a' v' t' cl' y' e1 e2
  obtain ⟨ka', kn', kc'⟩ := a'
  obtain ⟨va', vn', vc'⟩ := v'
  obtain ⟨ta', tn', tc'⟩ := t'
  have hj : j = 8 := by omega
  subst hj
  have e2' : (.tuple #[sv r ⟨ka, kn, kc⟩ ⟨va, vn, vc⟩ ⟨ta, tn, tc⟩ cl, y] : Value) = .tuple #[sv r' ⟨ka', kn', kc'⟩ ⟨va', vn', vc'⟩ ⟨ta', tn', tc'⟩ cl', y'] := e2
  cases e2'
  obtain ⟨B', e3, _, h⟩ := hF
  cases e3.symm.trans e1
  exact hO _ h.lt
theorem z5X_box {d : St} {n : Nat} {wr w5 : World} {j : Nat} {vs : Nat → Value} (_ : j ≠ 8) (hF : Z5F d n wr j vs w5) : Z5X 8 j (Par.upd vs 8 (.pointer (some ⟨w5.heap.size, 0, none⟩))) := by
  intro h4 _ B r a v t cl y e1 e2
  obtain ⟨ka, kn, kc⟩ := a
  obtain ⟨va, vn, vc⟩ := v
  obtain ⟨ta, tn, tc⟩ := t
  have hj : j = 4 := by omega
  subst hj
  have e1' : (.pointer (some ⟨w5.heap.size, 0, none⟩) : Value) = .pointer (some ⟨B, 0, none⟩) := e1
  cases e1'
  obtain ⟨⟨ka', kn', kc'⟩, ⟨va', vn', vc'⟩, ⟨ta', tn', tc'⟩, hS, _, e3⟩ := hF
  have e4 : (.tuple #[sv d.reg ⟨ka', kn', kc'⟩ ⟨va', vn', vc'⟩ ⟨ta', tn', tc'⟩ d.closed, .int .i64 0] : Value) = .tuple #[sv r ⟨ka, kn, kc⟩ ⟨va, vn, vc⟩ ⟨ta, tn, tc⟩ cl, y] := e3.symm.trans e2
  cases e4
  exact hS.off (Nat.le_refl _)
def z6Deps : Nat → List Nat := fun i => match i with | 5 => [3, 4] | 6 => [5] | 7 => [6] | 8 => [6, 7] | 9 => [6, 7] | _ => []
def z6Slots : Nat → Option Tmp := fun i => match i with | 3 => some 39 | 4 => some 40 | 5 => some 41 | 6 => some 42 | 7 => some 35 | 8 => some 43 | 9 => some 44 | 10 => some 11 | _ => none
def Z6F (n : Nat) (wr : World) : Nat → (Nat → Value) → World → Prop := fun i vs w' => match i with
  | 3 => ∃ B : Nat, vs 3 = .slice (some ⟨B, 0, none⟩) n n ∧ w'.ownsRow wr.heap.size 26 1 (.slice (some ⟨B, 0, none⟩) n n) n (flatWS (List.replicate n 0))
  | 4 => ∃ B : Nat, vs 4 = .slice (some ⟨B, 0, none⟩) 1 1 ∧ WS w' (some ⟨B, 0, none⟩) 1 1 [0]
  | 5 => ∃ (sl : Option Addr) (c : Nat) (xs : List Int), vs 5 = .slice sl (n + 1) c ∧ WS w' sl (n + 1) c xs
  | 6 => ∃ a v t : Sl, vs 6 = .tuple #[sv 0 a v t false, .int .i64 2]
  | 7 => vs 7 = vs 6
  | 8 => ∃ x y, vs 6 = .tuple #[x, y] ∧ vs 8 = x
  | 9 => ∃ x y, vs 6 = .tuple #[x, y] ∧ vs 9 = y
  | 10 => ∃ B : Nat, vs 10 = .pointer (some ⟨B, 0, none⟩) ∧ wr.heap.size ≤ B ∧ Cb w' B (sc 0 nilSl nilSl nilSl false)
  | _ => True
theorem z6F_loc {n : Nat} {wr : World} : ∀ i vs vs' w, (∀ j, j = i ∨ j ∈ z6Deps i → vs j = vs' j) → Z6F n wr i vs w → Z6F n wr i vs' w := by
  intro i vs vs' w h hF
  unfold Z6F at hF ⊢
  split at hF
  · obtain ⟨B, h1, h2⟩ := hF; exact ⟨B, (h 3 (.inl rfl)).symm.trans h1, h2⟩
  · obtain ⟨B, h1, h2⟩ := hF; exact ⟨B, (h 4 (.inl rfl)).symm.trans h1, h2⟩
  · obtain ⟨a, v, t, h1, h2⟩ := hF; exact ⟨a, v, t, (h 5 (.inl rfl)).symm.trans h1, h2⟩
  · obtain ⟨a, v, t, h1⟩ := hF; exact ⟨a, v, t, (h 6 (.inl rfl)).symm.trans h1⟩
  · exact (h 7 (.inl rfl)).symm.trans (hF.trans (h 6 (.inr (by decide))))
  · obtain ⟨x, y, h1, h2⟩ := hF; exact ⟨x, y, (h 6 (.inr (by decide))).symm.trans h1, (h 8 (.inl rfl)).symm.trans h2⟩
  · obtain ⟨x, y, h1, h2⟩ := hF; exact ⟨x, y, (h 6 (.inr (by decide))).symm.trans h1, (h 9 (.inl rfl)).symm.trans h2⟩
  · obtain ⟨B, h1, h2⟩ := hF; exact ⟨B, (h 10 (.inl rfl)).symm.trans h1, h2⟩
  · trivial
theorem z6F_stab {n : Nat} {wr : World} : ∀ i vs w w', Ext w w' → Z6F n wr i vs w → Z6F n wr i vs w' := by
  intro i vs w w' h hF
  unfold Z6F at hF ⊢
  split at hF
  · obtain ⟨B, h1, h2⟩ := hF; exact ⟨B, h1, own_ext2 h2 h⟩
  · obtain ⟨B, h1, h2⟩ := hF; exact ⟨B, h1, h2.ext h⟩
  · obtain ⟨a, v, t, h1, h2⟩ := hF; exact ⟨a, v, t, h1, h2.ext h⟩
  · exact hF
  · exact hF
  · exact hF
  · exact hF
  · obtain ⟨B, h1, h2, h3⟩ := hF; exact ⟨B, h1, h2, h3.ext h⟩
  · trivial
set_option maxHeartbeats 16000000 in
set_option maxRecDepth 100000 in
theorem zero_walk (a0 b0 c0 : Int) (w : World) (hR : Reg.Tab w) (hM : Tab w) (ha : I64 a0) (hb : I64 b0) (hc : I64 c0) :
    Calls Tryz.prog 6 #[.agg #[.int .i64 a0, .int .i64 b0, .int .i64 c0]] w fun e w' => e = .returned (.bool true) ∧ Ext w w' := by
  have HR : RowKit.Hid (∀ W, Ext w W → Reg.Tab W ∧ Tab W) := Lib.hid fun W hE => ⟨hR.below hE, tab_ext hM hE⟩
  have HA := Lib.hid (fun W (hE : Ext w W) => awake_any W (HR.out W hE).1 (HR.out W hE).2)
  have HCo := Lib.hid (fun W => conf_any a0 b0 c0 W ha hb hc)
  obtain ⟨hfit, hm12⟩ := conf_fits a0 b0 c0
  generalize 1 + Law.pickZ a0 5 = k at *
  generalize 1 + Law.pickZ b0 16 = p at *
  generalize 1 + Law.pickZ c0 12 = m at *
  have HNw : RowKit.Hid (∀ W, _) := Lib.hid (fun W => rnew_any k p m W)
  have hnew : (newS k p m).2 = 0 := by unfold newS; rw [if_pos hfit]
  rw [hnew] at HNw
  have hright := new_right hfit
  have HWd := Lib.hid (new_wd k p m)
  obtain ⟨n, hn⟩ : ∃ n : Nat, (encW k m (newS k p m).1).length = n := ⟨_, rfl⟩
  have hlen := encW_len hright
  have hhom := hom_le hfit hm12
  have hn60 : n ≤ 60 := by omega
  have HW0 := Lib.hid (new_words hfit hn)
  have HZ := Lib.hid (new_zero hfit)
  have HD5 : RowKit.Hid (decS k p m (List.replicate n 0) = ((newS k p m).1, 0)) := Lib.hid (by rw [← HW0.out]; exact dec_enc hright HWd.out)
  have HD6 : RowKit.Hid (∀ xs : List Int, xs.length = n + 1 → decS k p m xs = (zeroS, 2)) := Lib.hid fun xs hx => by
    unfold decS
    rw [if_pos hfit, if_neg (by rw [hx]; omega)]
  have HEn : RowKit.Hid (∀ a v t W, Ext w W → SS W a v t (newS k p m).1 → Calls Tryz.prog 14 #[cf k p m, sv (newS k p m).1.reg a v t (newS k p m).1.closed] W (EnE (List.replicate n 0, 0) W)) := Lib.hid fun a v t W hE hS => by
    have := enc_any k p m a v t _ W (HR.out W hE).1 (HR.out W hE).2 hS
    rwa [encA_ok hright, HW0.out] at this
  have HDe : RowKit.Hid (∀ sl nn c xs W, Ext w W → WS W sl nn c xs → Calls Tryz.prog 16 #[cf k p m, .slice sl nn c] W (SO (decS k p m xs).1 W (fun v => .tuple #[v, .int .i64 (decS k p m xs).2]))) := Lib.hid fun sl nn c xs W hE hl => dec_all k p m sl nn c xs W (HR.out W hE).1 (HR.out W hE).2 hl
  have HBx : RowKit.Hid (Cb (w.alloc (.cells #[.int .i64 a0, .int .i64 b0, .int .i64 c0] 22)) w.heap.size [.int .i64 a0, .int .i64 b0, .int .i64 c0]) := Lib.hid (Cb.new w _ _)
  have HX := Lib.hid (Ext.new w (.cells #[.int .i64 a0, .int .i64 b0, .int .i64 c0] 22))
  have Hmk : RowKit.Hid (∀ W, _) := Lib.hid (fun W => make_words n (by omega) W)
  have hreg : (newS k p m).1.reg = 0 := by unfold newS; split <;> rfl
  have hcls : (newS k p m).1.closed = false := by unfold newS; split <;> rfl
  rw [hreg, hcls] at HEn
  have hregs : (newS k p m).1.reg = 0 ∧ (newS k p m).1.closed = false := ⟨hreg, hcls⟩
  generalize (newS k p m).1 = d at *
  obtain ⟨dr, dk, dv, dt, dc⟩ := d
  obtain ⟨h1, h2⟩ := hregs
  dsimp only at h1 h2
  subst h1
  subst h2
  clear hR hM ha hb hc hfit hm12 hnew hright hn hlen hhom HW0 HWd hreg hcls
  dsimp only [cf, sv] at *
  go_enter Tryz.func6, Tryz.ntmps6
  go_wp2_with (fail)
  refine (HA.out _ HX.out).mono ?_
  rintro e w1 ⟨rfl, e1⟩
  replace HX := Lib.hid (HX.out.trans e1)
  replace HBx := Lib.hid (HBx.out.ext e1)
  clear HA e1
  obtain ⟨i0, i1, i2⟩ := HBx.out.three
  go_wp2_with (fail)
  refine (HCo.out _).mono ?_
  rintro e w2 ⟨rfl, e2⟩
  have HC := Lib.hid (Cb.new w2 [.int .i64 k, .int .i64 p, .int .i64 m] 24)
  replace HX := Lib.hid ((HX.out.trans e2).alloc (bx k p m))
  clear HCo e2 i0 i1 i2 HBx
  dsimp only [bx, cf] at *
  obtain ⟨c0, c1, c2⟩ := HC.out.three
  go_wp2_with (fail)
  refine (HNw.out _).mono ?_
  rintro e w3 ⟨e3, ⟨ka, kn, kc⟩, ⟨va, vn, vc⟩, ⟨ta, tn, tc⟩, rfl, S3⟩
  dsimp only [sv] at *
  have E := e3.alloc (.cells #[.int .u64 0, .slice ka kn kc, .slice va vn vc, .slice ta tn tc, .bool false] 30)
  have HS := Lib.hid (S3.ext (Ext.new w3 (.cells #[.int .u64 0, .slice ka kn kc, .slice va vn vc, .slice ta tn tc, .bool false] 30)))
  have HB := Lib.hid (Cb.new w3 (sc 0 ⟨ka, kn, kc⟩ ⟨va, vn, vc⟩ ⟨ta, tn, tc⟩ false) 30)
  replace HX := Lib.hid (HX.out.trans E)
  replace HC := Lib.hid (HC.out.ext E)
  clear HNw E e3 S3 c0 c1 c2
  dsimp only [sc] at *
  obtain ⟨c0, c1, c2⟩ := HC.out.three
  obtain ⟨s0, s1, s2, s3, s4⟩ := HB.out.five
  go_wp2_with (fail)
  refine (HEn.out _ _ _ _ HX.out HS.out).mono ?_
  rintro e w4 ⟨⟨a4, n4, c4⟩, rfl, W4, e4⟩
  dsimp only at W4
  obtain rfl : n = n4 := by have := W4.len; simpa using this
  have HWa := Lib.hid W4
  replace HX := Lib.hid (HX.out.trans e4)
  replace HC := Lib.hid (HC.out.ext e4)
  replace HS := Lib.hid (HS.out.ext e4)
  replace HB := Lib.hid (HB.out.ext e4)
  clear HEn e4 W4 c0 c1 c2 s0 s1 s2 s3 s4
  obtain ⟨c0, c1, c2⟩ := HC.out.three
  go_wp2_with (fail)
  refine wp_region_held_drew (S := fun w' => Ext w4 w') (by kernel_rfl) (Ext.drew (Ext.refl w4)) (fun hHeld => ?_)
  refine wpAnyH_take (i := 0) (v := .agg #[.int .i64 k, .int .i64 p, .int .i64 m]) rfl (by kernel_rfl) (by kernel_rfl) (by kernel_rfl) (fun _ _ _ h => h) (Or.inl ⟨by kernel_rfl, ?_⟩) (by assumption) ?_
  · intro w hE
    have q0 := hE.cell c0
    have q1 := hE.cell c1
    have q2 := hE.cell c2
    go_simp
  refine wpAnyH_take (i := 1) (v := .slice a4 n c4) rfl (by kernel_rfl) (by kernel_rfl) (by kernel_rfl) (fun _ _ _ h => h) (Or.inl ⟨by kernel_rfl, ?_⟩) (by assumption) ?_
  · intro w hE
    go_simp
  refine wpAnyH_take (i := 2) (v := .int .i64 (n : Int)) rfl (by kernel_rfl) (by kernel_rfl) (by kernel_rfl) (fun _ _ _ h => h) (Or.inl ⟨by kernel_rfl, ?_⟩) (by assumption) ?_
  · intro w hE
    go_simp
  clear c0 c1 c2
  refine Par.wpAnyH_par (fuel := 2) [3, 4, 5, 6, 7, 8] [5, 6, 7] z5Deps z5Slots (Z5F ⟨0, dk, dv, dt, false⟩ n w4) Z5X Ext rfl (by kernel_rfl) (by kernel_rfl) (by kernel_rfl) (fun _ _ _ _ _ h => h) Ext.refl (fun _ _ _ h g => Ext.trans h g) z5F_loc z5F_stab z5X_loc (by assumption) ?_ ?_ ?_
  · refine List.forall_mem_cons.2 ⟨?_, List.forall_mem_cons.2 ⟨?_, List.forall_mem_cons.2 ⟨?_, fun _ h => by cases h⟩⟩⟩
    · refine ⟨_, rfl, fun done vs w5 hn hS5 hR5 hd hF => ?_⟩
      obtain ⟨⟨k6, n6, c6⟩, ⟨p6, q6, r6⟩, ⟨x6, y6, u6⟩, _, _, e4⟩ := hF 4 (hd 4 (by decide))
      refine ⟨.tuple #[.agg #[.int .u64 0, .slice k6 n6 c6, .slice p6 q6 r6, .slice x6 y6 u6, .bool false], .int .i64 0], Or.inl ⟨by kernel_rfl, ?_⟩, e4.symm, fun j _ => z5X_no (by decide) (by decide)⟩
      intro w hE
      simp only [z5Deps, Par.putAll_nil, Par.putAll_some, z5Slots]
      simp only [e4]
      go_simp
    · refine ⟨_, rfl, fun done vs w5 hn hS5 hR5 hd hF => ?_⟩
      obtain ⟨⟨k6, n6, c6⟩, ⟨p6, q6, r6⟩, ⟨x6, y6, u6⟩, _, _, e4⟩ := hF 4 (hd 4 (by decide))
      have e5 : vs 5 = vs 4 := hF 5 (hd 5 (by decide))
      refine ⟨.agg #[.int .u64 0, .slice k6 n6 c6, .slice p6 q6 r6, .slice x6 y6 u6, .bool false], Or.inl ⟨by kernel_rfl, ?_⟩, ⟨_, _, e4, rfl⟩, fun j _ => z5X_no (by decide) (by decide)⟩
      intro w hE
      simp only [z5Deps, Par.putAll_nil, Par.putAll_some, z5Slots]
      simp only [e5, e4]
      go_simp
    · refine ⟨_, rfl, fun done vs w5 hn hS5 hR5 hd hF => ?_⟩
      obtain ⟨⟨k6, n6, c6⟩, ⟨p6, q6, r6⟩, ⟨x6, y6, u6⟩, _, _, e4⟩ := hF 4 (hd 4 (by decide))
      have e5 : vs 5 = vs 4 := hF 5 (hd 5 (by decide))
      refine ⟨.int .i64 0, Or.inl ⟨by kernel_rfl, ?_⟩, ⟨_, _, e4, rfl⟩, fun j _ => z5X_no (by decide) (by decide)⟩
      intro w hE
      simp only [z5Deps, Par.putAll_nil, Par.putAll_some, z5Slots]
      simp only [e5, e4]
      go_simp
  · refine List.forall_mem_cons.2 ⟨?_, List.forall_mem_cons.2 ⟨?_, List.forall_mem_cons.2 ⟨?_, List.forall_mem_cons.2 ⟨?_, List.forall_mem_cons.2 ⟨?_, List.forall_mem_cons.2 ⟨?_, fun _ h => by cases h⟩⟩⟩⟩⟩⟩
    · intro _ done vs w5 hn hS5 hR5 hd hF
      simp only [z5Deps, Par.putAll_nil]
      refine Par.step_of rfl (fun K hK => ?_)
      have hmk := Hmk.out w5
      go_simp
      exact hK.out _ _ ⟨.slice (some ⟨w5.heap.size, 0, none⟩) n n, by kernel_rfl, hS5.alloc _, Ext.new _ _, ⟨w5.heap.size, rfl, by { have := WS.of_own (made_own n (by omega) w5) (by simp) (by omega) (fun y hy => by rw [List.eq_of_mem_replicate hy]; unfold U64; decide); exact this }⟩, fun j _ => z5X_no (by decide) (by decide)⟩
    · intro _ done vs w5 hn hS5 hR5 hd hF
      obtain ⟨B3, e3, W3⟩ := hF 3 (hd 3 (by decide))
      simp only [z5Deps, Par.putAll_nil, Par.putAll_some, z5Slots]
      simp only [e3]
      refine Par.step_of rfl (fun K hK => ?_)
      have hD := HDe.out _ _ _ _ w5 (HX.out.trans hS5) W3
      rw [HD5.out] at hD
      go_simp
      refine hD.mono ?_
      rintro e w6 ⟨e6, ⟨k6, n6, c6⟩, ⟨p6, q6, r6⟩, ⟨x6, y6, u6⟩, rfl, S6, O6⟩
      exact hK.out _ _ ⟨.tuple #[sv 0 ⟨k6, n6, c6⟩ ⟨p6, q6, r6⟩ ⟨x6, y6, u6⟩ false, .int .i64 0], by kernel_rfl, hS5.trans e6, e6, ⟨⟨k6, n6, c6⟩, ⟨p6, q6, r6⟩, ⟨x6, y6, u6⟩, S6, fun B hB => O6 B (Nat.lt_of_lt_of_le hB hS5.size), rfl⟩, fun j hj => z5X_call (hF j hj) O6⟩
    · exact fun h => absurd (by decide) h
    · exact fun h => absurd (by decide) h
    · exact fun h => absurd (by decide) h
    · intro _ done vs w5 hn hS5 hR5 hd hF
      simp only [z5Deps, Par.putAll_nil]
      refine Par.step_of rfl (fun K hK => ?_)
      go_simp
      exact hK.out _ _ ⟨.pointer (some ⟨w5.heap.size, 0, none⟩), by kernel_rfl, hS5.alloc _, Ext.new _ _, ⟨w5.heap.size, rfl, hS5.size, Cb.new w5 _ _⟩, fun j hj => z5X_box (fun e => hn (e ▸ hj)) (hF j hj)⟩
  intro vs w5 hS5 hR5 hF hXX
  obtain ⟨B3, e3, _⟩ := hF 3 (by decide)
  obtain ⟨⟨lk, ln, lc⟩, ⟨lp, lq, lr⟩, ⟨lx, ly, lu⟩, S6, O6, e4⟩ := hF 4 (by decide)
  have e5 : vs 5 = vs 4 := hF 5 (by decide)
  obtain ⟨_, _, e, e6⟩ := hF 6 (by decide)
  cases e4.symm.trans e
  obtain ⟨_, _, e, e7⟩ := hF 7 (by decide)
  cases e4.symm.trans e
  obtain ⟨B8, e8, g8, C8⟩ := hF 8 (by decide)
  have x1 : OffS ⟨lk, ln, lc⟩ ⟨lp, lq, lr⟩ ⟨lx, ly, lu⟩ B8 := by
    rcases hXX 4 (by decide) 8 (by decide) (by decide) with h | h
    · exact h (.inl rfl) (.inr rfl) _ _ _ _ _ _ _ e8 e4
    · exact h (.inr rfl) (.inl rfl) _ _ _ _ _ _ _ e8 e4
  simp only [Par.putAll_nil, Par.putAll_some, z5Slots]
  simp only [e3, e4, e5, e6, e7, e8]
  clear hF hXX e3 e4 e5 e6 e7 e8 e
  obtain ⟨z0, z1, z2, z3, z4⟩ := C8.five
  have y0 := C8.f 0
  have y1 := C8.f 1
  have y2 := C8.f 2
  have y3 := C8.f 3
  have y4 := C8.f 4
  have hC8 := C8.st (.int .u64 0) (.slice lk ln lc) (.slice lp lq lr) (.slice lx ly lu) (.bool false)
  have hS6 := ss_put5 S6 x1 0 ⟨lk, ln, lc⟩ ⟨lp, lq, lr⟩ ⟨lx, ly, lu⟩ false
  have hE6 := hS5.put5 g8 0 ⟨lk, ln, lc⟩ ⟨lp, lq, lr⟩ ⟨lx, ly, lu⟩ false
  have HH := Lib.hid (And.intro hC8 (And.intro hS6 hE6))
  clear hC8 hS6 hE6 C8 S6 hS5 hR5 hHeld x1 O6
  dsimp only [put5] at *
  refine wpAnyH_ready (rs := [9]) (by kernel_rfl) (by simp) ?_
  refine AllReadyH.cons rfl (fun K hK => ?_) AllReadyH.nil
  go_simp
  refine hK.out _ _ HH.out.2.2 (fun hHeld => ?_)
  clear hK K z0 z1 z2 z3 z4 y0 y1 y2 y3 y4
  obtain ⟨hC8, hS6, hE6⟩ := HH.out
  clear HH hHeld
  generalize (((((w5.setCell ⟨B8, 0, none⟩ (.int .u64 0)).setCell ⟨B8, 1, none⟩ (.slice lk ln lc)).setCell ⟨B8, 2, none⟩ (.slice lp lq lr)).setCell ⟨B8, 3, none⟩ (.slice lx ly lu)).setCell ⟨B8, 4, none⟩ (.bool false)) = w7 at hC8 hS6 hE6 ⊢
  refine wpAnyH_take (i := 10) (v := .int .i64 0) rfl (by kernel_rfl) (by kernel_rfl) (by kernel_rfl) (fun _ _ _ h => h) (Or.inl ⟨by kernel_rfl, ?_⟩) (by assumption) ?_
  · intro w hE
    go_simp
  refine wpAnyH_done (by kernel_rfl) ?_ _
  replace HX := Lib.hid (HX.out.trans hE6)
  replace HC := Lib.hid (HC.out.ext hE6)
  replace HS := Lib.hid (HS.out.ext hE6)
  replace HB := Lib.hid (HB.out.ext hE6)
  replace HWa := Lib.hid (HWa.out.ext hE6)
  have HT := Lib.hid hC8
  have HSt := Lib.hid hS6
  clear hC8 hS6 hE6 HD5
  obtain ⟨c0, c1, c2⟩ := HC.out.three
  go_wp2_with (fail)
  refine wp_region_held_drew (S := fun w' => Ext w7 w') (by kernel_rfl) (Ext.drew (Ext.refl w7)) (fun hHeld => ?_)
  refine wpAnyH_take (i := 0) (v := .agg #[.int .i64 k, .int .i64 p, .int .i64 m]) rfl (by kernel_rfl) (by kernel_rfl) (by kernel_rfl) (fun _ _ _ h => h) (Or.inl ⟨by kernel_rfl, ?_⟩) (by assumption) ?_
  · intro w hE
    have q0 := hE.cell c0
    have q1 := hE.cell c1
    have q2 := hE.cell c2
    go_simp
  refine wpAnyH_take (i := 1) (v := .slice a4 n c4) rfl (by kernel_rfl) (by kernel_rfl) (by kernel_rfl) (fun _ _ _ h => h) (Or.inl ⟨by kernel_rfl, ?_⟩) (by assumption) ?_
  · intro w hE
    go_simp
  refine wpAnyH_take (i := 2) (v := .int .i64 (n : Int)) rfl (by kernel_rfl) (by kernel_rfl) (by kernel_rfl) (fun _ _ _ h => h) (Or.inl ⟨by kernel_rfl, ?_⟩) (by assumption) ?_
  · intro w hE
    go_simp
  clear c0 c1 c2
  refine Par.wpAnyH_par (fuel := 2) [3, 4, 5, 6, 7, 8, 9, 10] [7, 8, 9] z6Deps z6Slots (Z6F n w7) (fun _ _ _ => True) Ext rfl (by kernel_rfl) (by kernel_rfl) (by kernel_rfl) (fun _ _ _ _ _ h => h) Ext.refl (fun _ _ _ h g => Ext.trans h g) z6F_loc z6F_stab (fun _ _ _ _ _ _ _ => trivial) (by assumption) ?_ ?_ ?_
  · refine List.forall_mem_cons.2 ⟨?_, List.forall_mem_cons.2 ⟨?_, List.forall_mem_cons.2 ⟨?_, fun _ h => by cases h⟩⟩⟩
    · refine ⟨_, rfl, fun done vs w5 hn hS5 hR5 hd hF => ?_⟩
      obtain ⟨⟨k6, n6, c6⟩, ⟨p6, q6, r6⟩, ⟨x6, y6, u6⟩, e6⟩ := hF 6 (hd 6 (by decide))
      refine ⟨.tuple #[.agg #[.int .u64 0, .slice k6 n6 c6, .slice p6 q6 r6, .slice x6 y6 u6, .bool false], .int .i64 2], Or.inl ⟨by kernel_rfl, ?_⟩, e6.symm, fun j _ => trivial⟩
      intro w hE
      simp only [z6Deps, Par.putAll_nil, Par.putAll_some, z6Slots]
      simp only [e6]
      go_simp
    · refine ⟨_, rfl, fun done vs w5 hn hS5 hR5 hd hF => ?_⟩
      obtain ⟨⟨k6, n6, c6⟩, ⟨p6, q6, r6⟩, ⟨x6, y6, u6⟩, e6⟩ := hF 6 (hd 6 (by decide))
      have e7 : vs 7 = vs 6 := hF 7 (hd 7 (by decide))
      refine ⟨.agg #[.int .u64 0, .slice k6 n6 c6, .slice p6 q6 r6, .slice x6 y6 u6, .bool false], Or.inl ⟨by kernel_rfl, ?_⟩, ⟨_, _, e6, rfl⟩, fun j _ => trivial⟩
      intro w hE
      simp only [z6Deps, Par.putAll_nil, Par.putAll_some, z6Slots]
      simp only [e7, e6]
      go_simp
    · refine ⟨_, rfl, fun done vs w5 hn hS5 hR5 hd hF => ?_⟩
      obtain ⟨⟨k6, n6, c6⟩, ⟨p6, q6, r6⟩, ⟨x6, y6, u6⟩, e6⟩ := hF 6 (hd 6 (by decide))
      have e7 : vs 7 = vs 6 := hF 7 (hd 7 (by decide))
      refine ⟨.int .i64 2, Or.inl ⟨by kernel_rfl, ?_⟩, ⟨_, _, e6, rfl⟩, fun j _ => trivial⟩
      intro w hE
      simp only [z6Deps, Par.putAll_nil, Par.putAll_some, z6Slots]
      simp only [e7, e6]
      go_simp
  · refine List.forall_mem_cons.2 ⟨?_, List.forall_mem_cons.2 ⟨?_, List.forall_mem_cons.2 ⟨?_, List.forall_mem_cons.2 ⟨?_, List.forall_mem_cons.2 ⟨?_, List.forall_mem_cons.2 ⟨?_, List.forall_mem_cons.2 ⟨?_, List.forall_mem_cons.2 ⟨?_, fun _ h => by cases h⟩⟩⟩⟩⟩⟩⟩⟩
    · intro _ done vs w5 hn hS5 hR5 hd hF
      simp only [z6Deps, Par.putAll_nil]
      refine Par.step_of rfl (fun K hK => ?_)
      have hmk := Hmk.out w5
      go_simp
      exact hK.out _ _ ⟨.slice (some ⟨w5.heap.size, 0, none⟩) n n, by kernel_rfl, hS5.alloc _, Ext.new _ _, ⟨w5.heap.size, rfl, made_own2 n (by omega) w5 hS5.size⟩, fun _ _ => trivial⟩
    · intro _ done vs w5 hn hS5 hR5 hd hF
      simp only [z6Deps, Par.putAll_nil]
      refine Par.step_of rfl (fun K hK => ?_)
      go_simp
      exact hK.out _ _ ⟨.slice (some ⟨w5.heap.size, 0, none⟩) 1 1, by kernel_rfl, hS5.alloc _, Ext.new _ _, ⟨w5.heap.size, rfl, WS.lit w5 0 (by unfold U64; decide)⟩, fun _ _ => trivial⟩
    · intro _ done vs w5 hn hS5 hR5 hd hF
      obtain ⟨B3, e3, W3⟩ := hF 3 (hd 3 (by decide))
      obtain ⟨B4, e4, W4⟩ := hF 4 (hd 4 (by decide))
      simp only [z6Deps, Par.putAll_nil, Par.putAll_some, z6Slots]
      simp only [e3, e4]
      obtain ⟨sl', c', wx, RX, WX, EX⟩ := grow_one W3 (by simp) (fun y hy => by rw [List.eq_of_mem_replicate hy]; unfold U64; decide) W4 (by omega) hS5.size
      refine Par.step_of rfl (fun K hK => ?_)
      refine step_append_run w5 rfl (.tmp 39) (.tmp 40) _ _ rfl _ _ rfl rfl _ _ RX.out ?_
      exact hK.out _ _ ⟨.slice sl' (n + 1) c', by kernel_rfl, hS5.trans EX, EX, ⟨sl', c', _, rfl, WX⟩, fun _ _ => trivial⟩
    · intro _ done vs w5 hn hS5 hR5 hd hF
      obtain ⟨sl', c', xs, e5, W5⟩ := hF 5 (hd 5 (by decide))
      simp only [z6Deps, Par.putAll_nil, Par.putAll_some, z6Slots]
      simp only [e5]
      refine Par.step_of rfl (fun K hK => ?_)
      have hD := HDe.out _ _ _ _ w5 (HX.out.trans hS5) W5
      rw [HD6.out xs W5.len] at hD
      go_simp
      refine hD.mono ?_
      rintro e w6 ⟨e6, ⟨k6, n6, c6⟩, ⟨p6, q6, r6⟩, ⟨x6, y6, u6⟩, rfl, _, _⟩
      exact hK.out _ _ ⟨.tuple #[sv 0 ⟨k6, n6, c6⟩ ⟨p6, q6, r6⟩ ⟨x6, y6, u6⟩ false, .int .i64 2], by kernel_rfl, hS5.trans e6, e6, ⟨⟨k6, n6, c6⟩, ⟨p6, q6, r6⟩, ⟨x6, y6, u6⟩, rfl⟩, fun _ _ => trivial⟩
    · exact fun h => absurd (by decide) h
    · exact fun h => absurd (by decide) h
    · exact fun h => absurd (by decide) h
    · intro _ done vs w5 hn hS5 hR5 hd hF
      simp only [z6Deps, Par.putAll_nil]
      refine Par.step_of rfl (fun K hK => ?_)
      go_simp
      exact hK.out _ _ ⟨.pointer (some ⟨w5.heap.size, 0, none⟩), by kernel_rfl, hS5.alloc _, Ext.new _ _, ⟨w5.heap.size, rfl, hS5.size, Cb.new w5 _ _⟩, fun _ _ => trivial⟩
  intro vs w5 hS5 hR5 hF hXX
  obtain ⟨B3, e3, _⟩ := hF 3 (by decide)
  obtain ⟨B4, e4, _⟩ := hF 4 (by decide)
  obtain ⟨sl', c', xs, e5, _⟩ := hF 5 (by decide)
  obtain ⟨⟨k6, n6, c6⟩, ⟨p6, q6, r6⟩, ⟨x6, y6, u6⟩, e6⟩ := hF 6 (by decide)
  have e7 : vs 7 = vs 6 := hF 7 (by decide)
  obtain ⟨_, _, e, e8⟩ := hF 8 (by decide)
  cases e6.symm.trans e
  obtain ⟨_, _, e, e9⟩ := hF 9 (by decide)
  cases e6.symm.trans e
  obtain ⟨B8, e10, g8, C8⟩ := hF 10 (by decide)
  simp only [Par.putAll_nil, Par.putAll_some, z6Slots]
  simp only [e3, e4, e5, e6, e7, e8, e9, e10]
  clear hF hXX e3 e4 e5 e6 e7 e8 e9 e10 e
  obtain ⟨z0, z1, z2, z3, z4⟩ := C8.five
  have y0 := C8.f 0
  have y1 := C8.f 1
  have y2 := C8.f 2
  have y3 := C8.f 3
  have y4 := C8.f 4
  have hE6 := hS5.put5 g8 0 ⟨k6, n6, c6⟩ ⟨p6, q6, r6⟩ ⟨x6, y6, u6⟩ false
  have HH := Lib.hid hE6
  clear hE6 C8 hS5 hR5 hHeld
  dsimp only [put5] at *
  refine wpAnyH_ready (rs := [11]) (by kernel_rfl) (by simp) ?_
  refine AllReadyH.cons rfl (fun K hK => ?_) AllReadyH.nil
  go_simp
  refine hK.out _ _ HH.out (fun hHeld => ?_)
  clear hK K z0 z1 z2 z3 z4 y0 y1 y2 y3 y4
  have hE6 := HH.out
  clear HH hHeld
  generalize (((((w5.setCell ⟨B8, 0, none⟩ (.int .u64 0)).setCell ⟨B8, 1, none⟩ (.slice k6 n6 c6)).setCell ⟨B8, 2, none⟩ (.slice p6 q6 r6)).setCell ⟨B8, 3, none⟩ (.slice x6 y6 u6)).setCell ⟨B8, 4, none⟩ (.bool false)) = w8 at hE6 ⊢
  refine wpAnyH_take (i := 12) (v := .int .i64 2) rfl (by kernel_rfl) (by kernel_rfl) (by kernel_rfl) (fun _ _ _ h => h) (Or.inl ⟨by kernel_rfl, ?_⟩) (by assumption) ?_
  · intro w hE
    go_simp
  refine wpAnyH_done (by kernel_rfl) ?_ _
  replace HX := Lib.hid (HX.out.trans hE6)
  replace HS := Lib.hid (HS.out.ext hE6)
  replace HB := Lib.hid (HB.out.ext hE6)
  replace HWa := Lib.hid (HWa.out.ext hE6)
  replace HT := Lib.hid (HT.out.ext hE6)
  replace HSt := Lib.hid (HSt.out.ext hE6)
  clear hE6 HD6 HDe HC Hmk
  go_wp2_with (fail)
  refine (zero_any _ _ _ _ true _ HWa.out (Lib.hid (by simp))).mono ?_
  rintro e w9 ⟨rfl, e9⟩
  replace HX := Lib.hid (HX.out.trans e9)
  replace HS := Lib.hid (HS.out.ext e9)
  replace HSt := Lib.hid (HSt.out.ext e9)
  replace HB := Lib.hid (HB.out.ext e9)
  replace HT := Lib.hid (HT.out.ext e9)
  clear e9 HWa
  obtain ⟨s0, s1, s2, s3, s4⟩ := HB.out.five
  obtain ⟨t0, t1, t2, t3, t4⟩ := HT.out.five
  go_wp2_with (fail)
  refine (same_any ⟨ka, kn, kc⟩ ⟨va, vn, vc⟩ ⟨ta, tn, tc⟩ ⟨lk, ln, lc⟩ ⟨lp, lq, lr⟩ ⟨lx, ly, lu⟩ ⟨0, dk, dv, dt, false⟩ ⟨0, dk, dv, dt, false⟩ true w9 HS.out HSt.out (Lib.hid (by simp))).mono ?_
  rintro e w10 ⟨rfl, e10⟩
  go_wp2_with (fail)
  go_ret
  exact ⟨rfl, HX.out.trans e10⟩

end Go.Proofs.YtmonkcekkhfafaaGreatDoor.Enc

/- EncZero:
  EncZero: for every input the law returns true, and each argument reads behind the call as it read before; the package variables homes and rounds hold what their initialisers lay (the card ties them to the text).
-/
namespace Go.Proofs.YtmonkcekkhfafaaGreatDoor.encZero
open Go.ChangeShapes Go.WideShapes Go.ChangeAt Go.RowKit

set_option maxHeartbeats 4000000 in
set_option maxRecDepth 100000 in
theorem contract (H : Type) (enc : TypeId × Value → H) (W : World) (base : Nat) (args : Array Value) (ds gs : List (DataW H)) (before : List MemPlace)
    (hval : ∀ (j : Nat) t v, Tryz.f6.params[j]? = some t → args[j]? = some v → Value.okWide Tryz.prog W .any base t v)
    (hW : DataW.Whole enc Tryz.prog Tryz.f6.params.toList Rows.encZeroSpec.vars false W args.toList ds gs before) (hL : laidMetH Tryz.prog Rows.encZeroRow.laid W) :
    Calls Tryz.prog 6 args W fun e W' => ∃ v, e = .returned v ∧ Rows.encZeroSpec.post enc Tryz.prog Tryz.f6 false true false false W args v W' := by
  have hR : Reg.Tab W := Reg.tab_of (L := Rows.encZeroRow.laid) hL (.tail _ (.head _))
  have hM : Tab W := tab_of (L := Rows.encZeroRow.laid) hL (.head _)
  have hW' := hW
  obtain ⟨p, q, hA0, hV, rfl, hfz, hnd⟩ := hW
  have hA : DataW.TrodAll enc Tryz.prog W 0 (fun _ => true) true Tryz.f6.params.toList args.toList ds p := hA0
  rw [Tryz.params6] at hA hval
  obtain ⟨v0, vs0, d0, ds0, p0, q0, hargs, rfl, rfl, h0, r0⟩ := trodAll_cons hA
  obtain ⟨rfl, rfl, rfl⟩ := trodAll_nil r0
  obtain rfl : args = #[v0] := by cases args; simp_all
  obtain ⟨a0, b0, c0, rfl, x0, y0, z0⟩ := Law.open_trip (hval 0 22 v0 rfl rfl) h0
  refine (Enc.zero_walk a0 b0 c0 W hR hM x0 y0 z0).mono fun e W' ⟨he, hg⟩ => ?_
  subst he
  exact ⟨_, rfl, Law.told hW' rfl rfl rfl (by kernel_rfl) hg⟩

def fill (cs : Array Value) : Obj → Obj
  | .cells _ t frozen => .cells cs t frozen
  | o => o
noncomputable def laidHeap (h : Array Obj) : Array Obj := Array.modify (Array.modify h 0 (fill #[.int .i64 0, .int .i64 0, .int .i64 1, .int .i64 0, .int .i64 1, .int .i64 2, .int .i64 1, .int .i64 4, .int .i64 2, .int .i64 4, .int .i64 9, .int .i64 1])) 1 (fill #[.int .u64 30, .int .u64 13787848793156543929, .int .u64 10871156337175269513, .int .u64 27, .int .u64 10723151780598845931, .int .u64 3573116690164977347, .int .u64 31, .int .u64 1, .int .u64 1])
noncomputable def laidWorld (os : Os) : World := { World.holding Tryz.prog os ⟨#[], #[], []⟩ with heap := laidHeap (World.holding Tryz.prog os ⟨#[], #[], []⟩).heap }
theorem laid_met (os : Os) : laidMet Tryz.prog Rows.encZeroRow.laid ((laidWorld os).forCall (fun _ _ => 0) ⟨#[], #[.agg #[.int .i64 0, .int .i64 0, .int .i64 0]], []⟩).memory :=
  laidMet_of_run' 8 (by kernel_rfl) (by kernel_rfl)
theorem reads (os : Os) {H : Type} (enc : TypeId × Value → H) : ∃ places, DataW.whole enc Tryz.prog ((laidWorld os).forCall (fun _ _ => 0) ⟨#[], #[.agg #[.int .i64 0, .int .i64 0, .int .i64 0]], []⟩).memory Tryz.f6.params.toList Rows.encZeroSpec.vars false (#[.agg #[.int .i64 0, .int .i64 0, .int .i64 0]] : Array Value).toList 8 = some ([.agg [.lit (.int .i64 0), .lit (.int .i64 0), .lit (.int .i64 0)]], [], places) :=
  ⟨[], by kernel_rfl⟩

set_option maxRecDepth 100000 in
theorem lifted (os : Os) (started : os.Started) (H : Type) (enc : TypeId × Value → H) (F : Stop.Interp) :
    ReturnsInHanded {} Tryz.checked os 6 .any ((OpenSpec.ofChange Rows.encZeroSpec).preRow enc Tryz.prog Tryz.f6 Rows.encZeroRow.domain false Rows.encZeroRow.laid) (((OpenSpec.ofChange Rows.encZeroSpec).at F).post enc Tryz.prog Tryz.f6 false true false false) := by
  obtain ⟨places, hx⟩ := reads os enc
  refine returnsInHanded_of_row (C := Tryz.checked) (s := OpenSpec.ofChange Rows.encZeroSpec) Law.own started (by kernel_rfl) Tryz.func6
    (witness_row_at (enc := enc) (C := Tryz.checked) false (laidWorld os) #[.agg #[.int .i64 0, .int .i64 0, .int .i64 0]] rfl (by kernel_rfl) (by kernel_rfl) (by kernel_rfl)
      (OpenSpec.preRow_of_cond 8 hx (by kernel_rfl) (fun k hk => by cases hk) (by kernel_rfl) (laid_met os))) ?_
  intro W base args ds gs before hval hW _ _ _ hL _ _
  exact contract H enc W base args ds gs before hval hW hL

theorem said : Rows.EncZeroSaid :=
  OpenClaim.holds_of_cond 6 Tryz.f6 rfl rfl rfl rfl rfl rfl rfl ⟨rfl, rfl, rfl, rfl, rfl⟩ rfl rfl rfl rfl rfl (by kernel_rfl) Tryz.func6 (by kernel_rfl)
    (of_decide_eq_true (by kernel_rfl)) (by unfold Func.isWrapper; first | (rw [if_pos (by decide +kernel)]; kernel_rfl) | (rw [if_neg (by decide +kernel)]; exact ⟨rfl, rfl⟩))
    (fun os started H enc _ F => by rw [OpenClaim.pre_eq_preRow]; exact lifted os started H enc F)

theorem plain (f : FuncId) (fn : Func) (hf : Tryz.pinned.checked.prog.funcNamed "whitewash/whitewashlaw10.EncZero" = some f) (hfn : Tryz.pinned.checked.prog.funcs[f]? = some fn) :
    false = Tryz.pinned.checked.prog.looks [] ∧ ∀ (j : Nat) t, fn.params[j]? = some t → Tryz.pinned.checked.prog.wantsStandIn t = false := by
  obtain rfl : f = 6 := Option.some.inj ((show Tryz.prog.funcNamed "whitewash/whitewashlaw10.EncZero" = some 6 by kernel_rfl).symm.trans hf) |>.symm
  obtain rfl : fn = Tryz.f6 := (Option.some.inj (Tryz.func6.symm.trans hfn)).symm
  refine ⟨by kernel_rfl, fun j t ht => ?_⟩
  rw [Tryz.params6] at ht
  have hm : t ∈ [22] := by simpa using Array.mem_of_getElem? ht
  have hall : ([22].all fun u => !Tryz.prog.wantsStandIn u) = true := by kernel_rfl
  exact (show Tryz.prog.wantsStandIn t = false by simpa using List.all_eq_true.1 hall t hm)

theorem card : Rows.EncZeroCardSaid :=
  Claim7.holds_tied_plain_at .later [] _ _ _ _ said (fun _ h => by cases h) (by kernel_rfl) (fun _ h => by cases h) encZero_row_tie rfl ⟨rfl, rfl⟩ (by kernel_rfl) rfl plain (by kernel_rfl)
end Go.Proofs.YtmonkcekkhfafaaGreatDoor.encZero

namespace Go.Proofs.YtmonkcekkhfafaaGreatDoor
theorem encZero_holds : Rows.EncZeroCardSaid := encZero.card
end Go.Proofs.YtmonkcekkhfafaaGreatDoor

