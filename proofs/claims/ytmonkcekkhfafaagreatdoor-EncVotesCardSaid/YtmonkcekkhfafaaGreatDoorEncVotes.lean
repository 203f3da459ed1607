/-
  EncVotes: for every input the law returns true, and each argument reads behind the call as it read before; the package variables homes and rounds hold what their initialisers lay (the card ties them to the text).
-/
import Derived.Test.YtmonkcekkhfafaaGreatDoorM18
import Derived.Test.YtmonkcekkhfafaaGreatDoorM28
import Derived.Test.YtmonkcekkhfafaaGreatDoorM29
import Derived.Test.YtmonkcekkhfafaaGreatDoorCards
import Derived.Test.YtmonkcekkhfafaaGreatDoorTie
import Derived.WalkKit
import Derived.ProofKit
import Derived.OpenShut
import Derived.Deep.DeepHandedRow
/- LawVotesE:
  EncVotes: the walk. Conditions: the packages' tables lie; integers' bounds; the raw calls can be read.
-/
namespace Go.Proofs.YtmonkcekkhfafaaGreatDoor.Enc
open Go.RowKit (Below intOf)
open Go.Proofs.YtmonkcekkhfafaaGreatDoor.Aut
open Go.Proofs.YtmonkcekkhfafaaGreatDoor.Law (state_any TS StE pickZ pick_ge pick_lt)
open Go.Proofs.YtmonkcekkhfafaaGreatDoor.Reg (cf bx fits_any)

theorem sum_bd {a : List Int} {m : Nat} {B : Int} (h : ∀ j, m < j → 0 ≤ a.getD j 0 ∧ a.getD j 0 ≤ B) (hB : 0 ≤ B) : ∀ i : Nat, 0 ≤ sumN a m i ∧ sumN a m i ≤ B * i
  | 0 => ⟨Int.le_refl _, by simp [sumN]⟩
  | i + 1 => by
    have h1 := sum_bd h hB i
    rw [sumN_step]
    have h2 : B * ((i + 1 : Nat) : Int) = B * (i : Int) + B := by rw [Int.natCast_add, Int.mul_add]; simp
    rw [h2]
    by_cases hm : m < i
    · rw [if_pos hm]; have := h i hm; omega
    · rw [if_neg hm]; omega
theorem encB_bd {s : St} {m : Nat} (hl : s.votes.length = m) (j : Nat) (hj : m < j) : 0 ≤ (encB s).getD j 0 ∧ (encB s).getD j 0 ≤ m := by
  rw [encB_get, if_neg (by omega), hl, if_neg (by omega)]
  split
  · have := tally_le s.votes ((j - m : Nat) : Int)
    omega
  · omega
/-- What a vote does: two words turned and no error, or an error and none. -/
theorem cast_two {p : Int} {m q : Nat} {v : Int} {s : St} (hR : rightS 5 p m s = true) (hq : q < m) (hv : 1 ≤ v ∧ v ≤ 8) :
    ((doS 5 m s ⟨12, q, v⟩).2.1 = 0 ∧ difN (encB s) (encB (doS 5 m s ⟨12, q, v⟩).1) (m + 9) = 2) ∨ ((doS 5 m s ⟨12, q, v⟩).2.1 ≠ 0 ∧ difN (encB s) (encB (doS 5 m s ⟨12, q, v⟩).1) (m + 9) = 0) := by
  have hl : s.votes.length = m := by have := (right_bal hR).2.1; omega
  have e : doS 5 (m : Int) s ⟨12, q, v⟩ = castS m s ⟨12, q, v⟩ := rfl
  rw [e]
  unfold castS
  dsimp only
  rw [if_neg (by omega), Int.toNat_natCast]
  by_cases h1 : s.closed = true
  · rw [if_pos h1]; exact .inr ⟨by show (14 : Int) ≠ 0; decide, difN_zero rfl _⟩
  rw [if_neg h1]
  by_cases h2 : s.votes.getD q 0 ≠ 0
  · rw [if_pos h2]; exact .inr ⟨by show (13 : Int) ≠ 0; decide, difN_zero rfl _⟩
  rw [if_neg h2]
  refine .inl ⟨rfl, ?_⟩
  refine dif_cast hl hq ?_ hv
  have h3 : s.votes.getD q 0 = 0 := by simpa using h2
  rw [List.getD_eq_getElem?_getD, List.getElem?_eq_getElem (by omega), Option.getD_some] at h3
  rw [List.getElem?_eq_getElem (by omega), h3]
theorem close_one {p : Int} {m : Nat} {s : St} (hR : rightS 5 p m s = true) : difN (encB s) (encB (doS 5 m s ⟨13, 0, 0⟩).1) (m + 9) = if s.closed then 0 else 1 := by
  have hl : s.votes.length = m := by have := (right_bal hR).2.1; omega
  exact dif_close hl

def vDeps : Nat → List Nat := fun i => match i with | 6 => [5] | 9 => [8] | 10 => [9] | 11 => [6, 10] | 12 => [11] | 13 => [12] | 14 => [12, 13] | 15 => [12, 13] | 16 => [12, 13] | _ => []
def vSlots : Nat → Option Tmp := fun i => match i with | 5 => some 43 | 6 => some 44 | 8 => some 46 | 9 => some 47 | 10 => some 48 | 11 => some 49 | 12 => some 50 | 13 => some 37 | 14 => some 51 | 15 => some 52 | 16 => some 53 | 17 => some 12 | 18 => some 13 | _ => none
def VF (K V : Int) (d : St × Rs) (wr : World) : Nat → (Nat → Value) → World → Prop := fun i vs w' => match i with
  | 5 => vs 5 = .int .i64 K
  | 6 => vs 6 = .int .u64 K
  | 8 => vs 8 = .int .i64 V
  | 9 => vs 9 = .int .i64 (1 + V)
  | 10 => vs 10 = .int .u64 (1 + V)
  | 11 => vs 11 = .agg #[.int .i64 12, .int .u64 K, .int .u64 (1 + V)]
  | 12 => ∃ (a v t : Sl), SS w' a v t d.1 ∧ (∀ B, B < wr.heap.size → OffS a v t B) ∧ vs 12 = .tuple #[sv d.1.reg a v t d.1.closed, rv d.2.1 d.2.2, .int .i64 0]
  | 13 => vs 13 = vs 12
  | 14 => ∃ x y z, vs 12 = .tuple #[x, y, z] ∧ vs 14 = x
  | 15 => ∃ x y z, vs 12 = .tuple #[x, y, z] ∧ vs 15 = y
  | 16 => ∃ x y z, vs 12 = .tuple #[x, y, z] ∧ vs 16 = z
  | 17 => ∃ B : Nat, vs 17 = .pointer (some ⟨B, 0, none⟩) ∧ wr.heap.size ≤ B ∧ Cb w' B (sc 0 nilSl nilSl nilSl false)
  | 18 => ∃ B : Nat, vs 18 = .pointer (some ⟨B, 0, none⟩) ∧ wr.heap.size ≤ B ∧ Cb w' B [.int .i64 0, .int .u64 0]
  | _ => True
/-- What lies in a box is no state's row; two boxes are two. -/
def VX : Nat → Nat → (Nat → Value) → Prop := fun i j vs =>
  (i = 12 ∨ j = 12 → ∀ b : Nat, (b = 17 ∨ b = 18) → (i = b ∨ j = b) → ∀ (B : Nat) r a v t cl y z, vs b = .pointer (some ⟨B, 0, none⟩) → vs 12 = .tuple #[sv r a v t cl, y, z] → OffS a v t B) ∧
  (i = 17 ∨ j = 17 → i = 18 ∨ j = 18 → ∀ B B' : Nat, vs 17 = .pointer (some ⟨B, 0, none⟩) → vs 18 = .pointer (some ⟨B', 0, none⟩) → B ≠ B')
theorem vF_loc {K V : Int} {d : St × Rs} {wr : World} : ∀ i vs vs' w, (∀ j, j = i ∨ j ∈ vDeps i → vs j = vs' j) → VF K V d wr i vs w → VF K V d wr i vs' w := by
  intro i vs vs' w h hF
  unfold VF at hF ⊢
  split at hF
  · exact (h 5 (.inl rfl)).symm.trans hF
  · exact (h 6 (.inl rfl)).symm.trans hF
  · exact (h 8 (.inl rfl)).symm.trans hF
  · exact (h 9 (.inl rfl)).symm.trans hF
  · exact (h 10 (.inl rfl)).symm.trans hF
  · exact (h 11 (.inl rfl)).symm.trans hF
  · obtain ⟨a, v, t, h1, h2, h3⟩ := hF; exact ⟨a, v, t, h1, h2, (h 12 (.inl rfl)).symm.trans h3⟩
  · exact (h 13 (.inl rfl)).symm.trans (hF.trans (h 12 (.inr (by decide))))
  · obtain ⟨x, y, z, h1, h2⟩ := hF; exact ⟨x, y, z, (h 12 (.inr (by decide))).symm.trans h1, (h 14 (.inl rfl)).symm.trans h2⟩
  · obtain ⟨x, y, z, h1, h2⟩ := hF; exact ⟨x, y, z, (h 12 (.inr (by decide))).symm.trans h1, (h 15 (.inl rfl)).symm.trans h2⟩
  · obtain ⟨x, y, z, h1, h2⟩ := hF; exact ⟨x, y, z, (h 12 (.inr (by decide))).symm.trans h1, (h 16 (.inl rfl)).symm.trans h2⟩
  · obtain ⟨B, h1, h2⟩ := hF; exact ⟨B, (h 17 (.inl rfl)).symm.trans h1, h2⟩
  · obtain ⟨B, h1, h2⟩ := hF; exact ⟨B, (h 18 (.inl rfl)).symm.trans h1, h2⟩
  · trivial
theorem vF_stab {K V : Int} {d : St × Rs} {wr : World} : ∀ i vs w w', Ext w w' → VF K V d wr i vs w → VF K V d wr i vs w' := by
  intro i vs w w' h hF
  unfold VF at hF ⊢
  split at hF
  · exact hF
  · exact hF
  · exact hF
  · exact hF
  · exact hF
  · exact hF
  · obtain ⟨a, v, t, h1, h2, h3⟩ := hF; exact ⟨a, v, t, h1.ext h, h2, h3⟩
  · exact hF
  · exact hF
  · exact hF
  · exact hF
  · obtain ⟨B, h1, h2, h3⟩ := hF; exact ⟨B, h1, h2, h3.ext h⟩
  · obtain ⟨B, h1, h2, h3⟩ := hF; exact ⟨B, h1, h2, h3.ext h⟩
  · trivial
theorem vX_loc : ∀ i j vs vs', vs i = vs' i → vs j = vs' j → VX i j vs → VX i j vs' := by
  intro i j vs vs' hi hj ⟨h1, h2⟩
  refine ⟨fun h12 b hb hbb B r a v t cl y z e1 e2 => h1 h12 b hb hbb B r a v t cl y z ?_ ?_, fun h15 h16 B B' e1 e2 => h2 h15 h16 B B' ?_ ?_⟩
  · rcases hbb with rfl | rfl
    · exact hi.trans e1
    · exact hj.trans e1
  · rcases h12 with rfl | rfl
    · exact hi.trans e2
    · exact hj.trans e2
  · rcases h15 with rfl | rfl
    · exact hi.trans e1
    · exact hj.trans e1
  · rcases h16 with rfl | rfl
    · exact hi.trans e2
    · exact hj.trans e2
theorem vX_no {i j : Nat} {vs : Nat → Value} (h0 : i ≠ 12) (h5 : i ≠ 17) (h6 : i ≠ 18) : VX i j vs := by
  refine ⟨fun h12 b hb hbb => ?_, fun h15 h16 => ?_⟩ <;> omega
theorem vX_do {K V : Int} {d0 : St × Rs} {wr w5 : World} {j : Nat} {vs : Nat → Value} {r : Int} {a v t : Sl} {cl : Bool} {y z : Value} (hF : VF K V d0 wr j vs w5) (hO : ∀ B, B < w5.heap.size → OffS a v t B) : VX 12 j (Par.upd vs 12 (.tuple #[sv r a v t cl, y, z])) := by
  obtain ⟨ka, kn, kc⟩ := a
  obtain ⟨va, vn, vc⟩ := v
  obtain ⟨ta, tn, tc⟩ := t
  refine ⟨fun _ b hb hbb B r' a' v' t' cl' y' z' e1 e2 => ?_, fun h15 h16 => by omega⟩
  obtain ⟨ka', kn', kc'⟩ := a'
  obtain ⟨va', vn', vc'⟩ := v'
  obtain ⟨ta', tn', tc'⟩ := t'
  have hj : j = b := by omega
  subst hj
  have e2' : (.tuple #[sv r ⟨ka, kn, kc⟩ ⟨va, vn, vc⟩ ⟨ta, tn, tc⟩ cl, y, z] : Value) = .tuple #[sv r' ⟨ka', kn', kc'⟩ ⟨va', vn', vc'⟩ ⟨ta', tn', tc'⟩ cl', y', z'] := e2
  cases e2'
  have e1' : vs j = .pointer (some ⟨B, 0, none⟩) := by
    have : Par.upd vs 12 (.tuple #[sv r ⟨ka, kn, kc⟩ ⟨va, vn, vc⟩ ⟨ta, tn, tc⟩ cl, y, z]) j = vs j := if_neg (by omega)
    rw [← this]; exact e1
  rcases hb with rfl | rfl
  · obtain ⟨B', e3, _, h⟩ := hF
    cases e3.symm.trans e1'
    exact hO _ h.lt
  · obtain ⟨B', e3, _, h⟩ := hF
    cases e3.symm.trans e1'
    exact hO _ h.lt
theorem vX_box {K V : Int} {d0 : St × Rs} {wr w5 : World} {i j : Nat} {vs : Nat → Value} (hi : i = 17 ∨ i = 18) (hij : j ≠ i) (hF : VF K V d0 wr j vs w5) : VX i j (Par.upd vs i (.pointer (some ⟨w5.heap.size, 0, none⟩))) := by
  have hup : ∀ x, x ≠ i → Par.upd vs i (.pointer (some ⟨w5.heap.size, 0, none⟩)) x = vs x := fun x h => if_neg h
  have hus : Par.upd vs i (.pointer (some ⟨w5.heap.size, 0, none⟩)) i = .pointer (some ⟨w5.heap.size, 0, none⟩) := if_pos rfl
  refine ⟨fun h12 b hb hbb B r a v t cl y z e1 e2 => ?_, fun h15 h16 B B' e1 e2 => ?_⟩
  · obtain ⟨ka, kn, kc⟩ := a
    obtain ⟨va, vn, vc⟩ := v
    obtain ⟨ta, tn, tc⟩ := t
    have hj : j = 12 := by omega
    subst hj
    have hb : b = i := by omega
    subst hb
    rw [hus] at e1
    cases e1
    rw [hup 12 (by omega)] at e2
    obtain ⟨⟨ka', kn', kc'⟩, ⟨va', vn', vc'⟩, ⟨ta', tn', tc'⟩, h2, _, e3⟩ := hF
    cases e3.symm.trans e2
    exact h2.off (Nat.le_refl _)
  · rcases hi with rfl | rfl
    · rw [hus] at e1
      cases e1
      have hj : j = 18 := by omega
      subst hj
      rw [hup 18 (by omega)] at e2
      obtain ⟨B2, e3, _, h⟩ := hF
      cases e3.symm.trans e2
      have := h.lt
      omega
    · rw [hus] at e2
      cases e2
      have hj : j = 17 := by omega
      subst hj
      rw [hup 17 (by omega)] at e1
      obtain ⟨B2, e3, _, h⟩ := hF
      cases e3.symm.trans e1
      have := h.lt
      omega
theorem vX_off {vs : Nat → Value} {b : Nat} {B : Nat} {r : Int} {a v t : Sl} {cl : Bool} {y z : Value} (h : VX 12 b vs ∨ VX b 12 vs) (hb : b = 17 ∨ b = 18) (e1 : vs b = .pointer (some ⟨B, 0, none⟩)) (e2 : vs 12 = .tuple #[sv r a v t cl, y, z]) : OffS a v t B := by
  rcases h with h | h
  · exact h.1 (.inl rfl) b hb (.inr rfl) B r a v t cl y z e1 e2
  · exact h.1 (.inr rfl) b hb (.inl rfl) B r a v t cl y z e1 e2
theorem vX_ne {vs : Nat → Value} {B B' : Nat} (h : VX 17 18 vs ∨ VX 18 17 vs) (e1 : vs 17 = .pointer (some ⟨B, 0, none⟩)) (e2 : vs 18 = .pointer (some ⟨B', 0, none⟩)) : B ≠ B' := by
  rcases h with h | h
  · exact h.2 (.inl rfl) (.inr rfl) B B' e1 e2
  · exact h.2 (.inr rfl) (.inl rfl) B B' e1 e2

set_option maxHeartbeats 16000000 in
set_option maxRecDepth 100000 in
theorem votes_walk (room voter choice : Int) (s1 : Option Addr) (n1 c1' : Nat) (w : World) (hR : Reg.Tab w) (hM : Tab w) (hr : I64 room) (hT1 : TS w s1 n1) (hv : I64 voter) (hch : I64 choice) :
    Calls Tryz.prog 8 #[.int .i64 room, .slice s1 n1 c1', .int .i64 voter, .int .i64 choice] w fun e w' => e = .returned (.bool true) ∧ Ext w w' := by
  have HR : RowKit.Hid (∀ W, Ext w W → Reg.Tab W ∧ Tab W) := Lib.hid fun W hE => ⟨hR.below hE, tab_ext hM hE⟩
  have HA := Lib.hid (fun W (hE : Ext w W) => awake_any W (HR.out W hE).1 (HR.out W hE).2)
  have HPr := Lib.hid (fun W => epick_any room 12 W hr (by decide))
  have hq0 := pick_ge room (n := 12) (by decide)
  have hq1 := pick_lt room (n := 12) (by decide)
  obtain ⟨q, hq⟩ : ∃ q : Nat, pickZ room 12 = q := ⟨(pickZ room 12).toNat, by omega⟩
  rw [hq] at HPr hq0 hq1
  obtain ⟨m, hm⟩ : ∃ m : Nat, m = q + 1 := ⟨_, rfl⟩
  have hqm : (q : Int) = (m : Int) - 1 := by omega
  rw [hqm] at HPr
  have hm1 : 1 ≤ m ∧ m ≤ 12 := by omega
  clear hq0 hq1 hq hm hqm q
  have hmw : IntKind.i64.wrap (1 + ((m : Int) - 1)) = (m : Int) := by simp only [IntKind.wrap_i64]; omega
  have hfit : fits 5 1 (m : Int) = true := by unfold fits Reg.fits; simp; omega
  have HF := Lib.hid hfit
  have HSt0 : RowKit.Hid (∀ W, Ext w W → _) := Lib.hid (fun W (hE : Ext w W) => state_any (k := 5) (p := 1) (m := m) s1 n1 c1' W hfit (hT1.ext hE))
  have HEn : RowKit.Hid (∀ a v t s W, Ext w W → SS W a v t s → rightS 5 1 m s = true → Calls Tryz.prog 14 #[cf 5 1 m, sv s.reg a v t s.closed] W (EnE (encB s, 0) W)) := Lib.hid fun a v t s W hE hS hr => by
    have := enc_any 5 1 m a v t s W (HR.out W hE).1 (HR.out W hE).2 hS
    rwa [encA_ok hr] at this
  have hvp0 := pick_ge voter (n := (m : Int)) (by omega)
  have hvp1 := pick_lt voter (n := (m : Int)) (by omega)
  have HPv := Lib.hid (fun W => epick_any voter (m : Int) W hv (by omega))
  obtain ⟨kq, hkq⟩ : ∃ q : Nat, pickZ voter (m : Int) = q := ⟨(pickZ voter (m : Int)).toNat, by omega⟩
  rw [hkq] at HPv hvp0 hvp1
  have hkm : kq < m := by omega
  have hcp0 := pick_ge choice (n := 8) (by decide)
  have hcp1 := pick_lt choice (n := 8) (by decide)
  have HPc := Lib.hid (fun W => epick_any choice 8 W hch (by decide))
  generalize pickZ choice 8 = V at *
  have HV := Lib.hid (And.intro hcp0 (And.intro hcp1 hkm))
  have HX := Lib.hid (Ext.refl w)
  have HM := Lib.hid hm1
  clear hR hM hr hT1 hv hch hvp0 hvp1 hkq hkm hcp0 hcp1 hfit
  dsimp only [cf, sv] at *
  go_enter Tryz.func8, Tryz.ntmps8
  go_wp2_with (fail)
  refine (HA.out _ HX.out).mono ?_
  rintro e w1 ⟨rfl, e1⟩
  replace HX := Lib.hid (HX.out.trans e1)
  clear HA e1
  go_wp2_with (fail)
  refine (HPr.out _).mono ?_
  rintro e w2 ⟨rfl, rfl⟩
  have HC := Lib.hid (Cb.new w1 [.int .i64 5, .int .i64 1, .int .i64 (m : Int)] 24)
  replace HX := Lib.hid (HX.out.alloc (bx 5 1 m))
  clear HPr
  dsimp only [bx, cf] at *
  obtain ⟨c0, c1, c2⟩ := HC.out.three
  go_wp2_with (fail)
  refine (HSt0.out _ HX.out).mono ?_
  rintro e w3 ⟨⟨r_a, x_a, y_a, z_a, l_a⟩, hR_a, ⟨ka_a, kn_a, kc_a⟩, ⟨va_a, vn_a, vc_a⟩, ⟨ta_a, tn_a, tc_a⟩, rfl, S_a, e3⟩
  dsimp only [sv] at *
  have E := e3.alloc (.cells #[.int .u64 r_a, .slice ka_a kn_a kc_a, .slice va_a vn_a vc_a, .slice ta_a tn_a tc_a, .bool l_a] 30)
  have HRt_a := Lib.hid hR_a
  replace HX := Lib.hid (HX.out.trans E)
  replace HC := Lib.hid (HC.out.ext E)
  have HS_a := Lib.hid (S_a.ext (Ext.new w3 (.cells #[.int .u64 r_a, .slice ka_a kn_a kc_a, .slice va_a vn_a vc_a, .slice ta_a tn_a tc_a, .bool l_a] 30)))
  have HB_a := Lib.hid (show Cb (w3.alloc (.cells #[.int .u64 r_a, .slice ka_a kn_a kc_a, .slice va_a vn_a vc_a, .slice ta_a tn_a tc_a, .bool l_a] 30)) w3.heap.size [.int .u64 r_a, .slice ka_a kn_a kc_a, .slice va_a vn_a vc_a, .slice ta_a tn_a tc_a, .bool l_a] from Cb.new w3 _ _)
  clear HSt0 E e3 S_a hR_a c0 c1 c2
  obtain ⟨c0, c1, c2⟩ := HC.out.three
  have hdoK : doF 5 1 m ⟨r_a, x_a, y_a, z_a, l_a⟩ ⟨12, kq, 1 + V⟩ = ((doS 5 m ⟨r_a, x_a, y_a, z_a, l_a⟩ ⟨12, kq, 1 + V⟩).1, (doS 5 m ⟨r_a, x_a, y_a, z_a, l_a⟩ ⟨12, kq, 1 + V⟩).2, 0) := by unfold doF; rw [if_pos HF.out, if_pos HRt_a.out]
  have hdoC : doF 5 1 m ⟨r_a, x_a, y_a, z_a, l_a⟩ ⟨13, 0, 0⟩ = ((doS 5 m ⟨r_a, x_a, y_a, z_a, l_a⟩ ⟨13, 0, 0⟩).1, (doS 5 m ⟨r_a, x_a, y_a, z_a, l_a⟩ ⟨13, 0, 0⟩).2, 0) := by unfold doF; rw [if_pos HF.out, if_pos HRt_a.out]
  have hwc : Wc ⟨12, kq, 1 + V⟩ := ⟨by unfold I64; dsimp only; omega, by have := HV.out; have := HM.out; unfold U64; dsimp only; omega, by have := HV.out; unfold U64; dsimp only; omega⟩
  have hwc2 : Wc ⟨13, 0, 0⟩ := ⟨by unfold I64; dsimp only; omega, by unfold U64; dsimp only; omega, by unfold U64; dsimp only; omega⟩
  have HDk := Lib.hid (fun W (h : SS W ⟨ka_a, kn_a, kc_a⟩ ⟨va_a, vn_a, vc_a⟩ ⟨ta_a, tn_a, tc_a⟩ ⟨r_a, x_a, y_a, z_a, l_a⟩) => rdo_any 5 1 m ⟨ka_a, kn_a, kc_a⟩ ⟨va_a, vn_a, vc_a⟩ ⟨ta_a, tn_a, tc_a⟩ ⟨r_a, x_a, y_a, z_a, l_a⟩ ⟨12, kq, 1 + V⟩ W (by have := HM.out; unfold I64; omega) h hwc)
  have HDc := Lib.hid (fun W (h : SS W ⟨ka_a, kn_a, kc_a⟩ ⟨va_a, vn_a, vc_a⟩ ⟨ta_a, tn_a, tc_a⟩ ⟨r_a, x_a, y_a, z_a, l_a⟩) => rdo_any 5 1 m ⟨ka_a, kn_a, kc_a⟩ ⟨va_a, vn_a, vc_a⟩ ⟨ta_a, tn_a, tc_a⟩ ⟨r_a, x_a, y_a, z_a, l_a⟩ ⟨13, 0, 0⟩ W (by have := HM.out; unfold I64; omega) h hwc2)
  rw [hdoK] at HDk
  rw [hdoC] at HDc
  have hck := cast_two HRt_a.out HV.out.2.2 (v := 1 + V) (by have := HV.out; omega)
  have hcc := close_one HRt_a.out
  have hrk := do_right HRt_a.out HS_a.out.wd _ hwc
  have hrc := do_right HRt_a.out HS_a.out.wd _ hwc2
  have hclr : ∀ o, (doS 5 (m : Int) ⟨r_a, x_a, y_a, z_a, l_a⟩ o).1.reg = r_a := fun o => by
    have e : doS 5 (m : Int) ⟨r_a, x_a, y_a, z_a, l_a⟩ o = ballotS m ⟨r_a, x_a, y_a, z_a, l_a⟩ o := rfl
    rw [e]; unfold ballotS castS
    repeat' split
    all_goals rfl
  generalize doS 5 (m : Int) ⟨r_a, x_a, y_a, z_a, l_a⟩ ⟨12, kq, 1 + V⟩ = dk at *
  generalize doS 5 (m : Int) ⟨r_a, x_a, y_a, z_a, l_a⟩ ⟨13, 0, 0⟩ = dc at *
  have HK := Lib.hid (And.intro hck (And.intro hcc (And.intro hrk hrc)))
  obtain ⟨s0, s1', s2', s3, s4⟩ := HB_a.out.five
  have hvw : IntKind.u64.wrap (kq : Int) = (kq : Int) := by have := HV.out; have := HM.out; simp only [IntKind.wrap_u64]; omega
  have hcw : IntKind.i64.wrap (1 + V) = 1 + V := by have := HV.out; simp only [IntKind.wrap_i64]; omega
  have hcw2 : IntKind.u64.wrap (1 + V) = 1 + V := by have := HV.out; simp only [IntKind.wrap_u64]; omega
  clear hdoK hdoC hwc hwc2 hck hcc hrk hrc hclr hm1
  dsimp only [ov, cf, sv] at HDk HDc
  go_wp2_with (fail)
  generalize hw4 : (w3.alloc (.cells #[.int .u64 r_a, .slice ka_a kn_a kc_a, .slice va_a vn_a vc_a, .slice ta_a tn_a tc_a, .bool l_a] 30)) = w4 at *
  refine wp_region_held_drew (S := fun w' => Ext w4 w') (by kernel_rfl) (Ext.drew (Ext.refl w4)) (fun hHeld => ?_)
  refine wpAnyH_take (i := 0) (v := .agg #[.int .i64 5, .int .i64 1, .int .i64 (m : Int)]) rfl (by kernel_rfl) (by kernel_rfl) (by kernel_rfl) (fun _ _ _ h => h) (Or.inl ⟨by kernel_rfl, ?_⟩) (by assumption) ?_
  · intro w hE
    have q0 := hE.cell c0
    have q1 := hE.cell c1
    have q2 := hE.cell c2
    go_simp
  refine wpAnyH_take (i := 1) (v := .agg #[.int .u64 r_a, .slice ka_a kn_a kc_a, .slice va_a vn_a vc_a, .slice ta_a tn_a tc_a, .bool l_a]) rfl (by kernel_rfl) (by kernel_rfl) (by kernel_rfl) (fun _ _ _ h => h) (Or.inl ⟨by kernel_rfl, ?_⟩) (by assumption) ?_
  · intro w hE
    have q0 := hE.cell s0
    have q1 := hE.cell s1'
    have q2 := hE.cell s2'
    have q3 := hE.cell s3
    have q4 := hE.cell s4
    go_simp
  refine wpAnyH_take (i := 2) (v := .int .i64 voter) rfl (by kernel_rfl) (by kernel_rfl) (by kernel_rfl) (fun _ _ _ h => h) (Or.inl ⟨by kernel_rfl, ?_⟩) (by assumption) ?_
  · intro w hE
    go_simp
  refine wpAnyH_take (i := 3) (v := .pointer (some ⟨w1.heap.size, 2, none⟩)) rfl (by kernel_rfl) (by kernel_rfl) (by kernel_rfl) (fun _ _ _ h => h) (Or.inl ⟨by kernel_rfl, ?_⟩) (by assumption) ?_
  · intro w hE
    go_simp
  refine wpAnyH_take (i := 4) (v := .int .i64 (m : Int)) rfl (by kernel_rfl) (by kernel_rfl) (by kernel_rfl) (fun _ _ _ h => h) (Or.inl ⟨by kernel_rfl, ?_⟩) (by assumption) ?_
  · intro w hE
    have q0 := hE.cell c2
    go_simp
  refine wpAnyH_take (i := 7) (v := .int .i64 choice) rfl (by kernel_rfl) (by kernel_rfl) (by kernel_rfl) (fun _ _ _ h => h) (Or.inl ⟨by kernel_rfl, ?_⟩) (by assumption) ?_
  · intro w hE
    go_simp
  clear c0 c1 c2 s0 s1' s2' s3 s4
  refine Par.wpAnyH_par (fuel := 3) [5, 6, 8, 9, 10, 11, 12, 13, 14, 15, 16, 17, 18] [6, 9, 10, 11, 13, 14, 15, 16] vDeps vSlots (VF (kq : Int) V dk w4) VX Ext rfl (by kernel_rfl) (by kernel_rfl) (by kernel_rfl) (fun _ _ _ _ _ h => h) Ext.refl (fun _ _ _ h g => Ext.trans h g) vF_loc vF_stab vX_loc (by assumption) ?_ ?_ ?_
  · refine List.forall_mem_cons.2 ⟨?_, List.forall_mem_cons.2 ⟨?_, List.forall_mem_cons.2 ⟨?_, List.forall_mem_cons.2 ⟨?_, List.forall_mem_cons.2 ⟨?_, List.forall_mem_cons.2 ⟨?_, List.forall_mem_cons.2 ⟨?_, List.forall_mem_cons.2 ⟨?_, fun _ h => by cases h⟩⟩⟩⟩⟩⟩⟩⟩
    · refine ⟨_, rfl, fun done vs w5 hn hS5 hR5 hd hF => ?_⟩
      have e5 : vs 5 = .int .i64 kq := hF 5 (hd 5 (by decide))
      refine ⟨.int .u64 (kq : Int), Or.inl ⟨by kernel_rfl, ?_⟩, rfl, fun j _ => vX_no (by decide) (by decide) (by decide)⟩
      intro w hE
      simp only [vDeps, Par.putAll_nil, Par.putAll_some, vSlots]
      simp only [e5]
      go_simp
    · refine ⟨_, rfl, fun done vs w5 hn hS5 hR5 hd hF => ?_⟩
      have e8 : vs 8 = .int .i64 V := hF 8 (hd 8 (by decide))
      refine ⟨.int .i64 (1 + V), Or.inl ⟨by kernel_rfl, ?_⟩, rfl, fun j _ => vX_no (by decide) (by decide) (by decide)⟩
      intro w hE
      simp only [vDeps, Par.putAll_nil, Par.putAll_some, vSlots]
      simp only [e8]
      go_simp
    · refine ⟨_, rfl, fun done vs w5 hn hS5 hR5 hd hF => ?_⟩
      have e9 : vs 9 = .int .i64 (1 + V) := hF 9 (hd 9 (by decide))
      refine ⟨.int .u64 (1 + V), Or.inl ⟨by kernel_rfl, ?_⟩, rfl, fun j _ => vX_no (by decide) (by decide) (by decide)⟩
      intro w hE
      simp only [vDeps, Par.putAll_nil, Par.putAll_some, vSlots]
      simp only [e9]
      go_simp
    · refine ⟨_, rfl, fun done vs w5 hn hS5 hR5 hd hF => ?_⟩
      have e6 : vs 6 = .int .u64 kq := hF 6 (hd 6 (by decide))
      have e10 : vs 10 = .int .u64 (1 + V) := hF 10 (hd 10 (by decide))
      refine ⟨.agg #[.int .i64 12, .int .u64 (kq : Int), .int .u64 (1 + V)], Or.inl ⟨by kernel_rfl, ?_⟩, rfl, fun j _ => vX_no (by decide) (by decide) (by decide)⟩
      intro w hE
      simp only [vDeps, Par.putAll_nil, Par.putAll_some, vSlots]
      simp only [e6, e10]
      go_simp
    · refine ⟨_, rfl, fun done vs w5 hn hS5 hR5 hd hF => ?_⟩
      obtain ⟨⟨k6, n6, c6⟩, ⟨p6, q6, r6⟩, ⟨x6, y6, u6⟩, _, _, e12⟩ := hF 12 (hd 12 (by decide))
      refine ⟨.tuple #[sv dk.1.reg ⟨k6, n6, c6⟩ ⟨p6, q6, r6⟩ ⟨x6, y6, u6⟩ dk.1.closed, rv dk.2.1 dk.2.2, .int .i64 0], Or.inl ⟨by kernel_rfl, ?_⟩, e12.symm, fun j _ => vX_no (by decide) (by decide) (by decide)⟩
      intro w hE
      simp only [vDeps, Par.putAll_nil, Par.putAll_some, vSlots]
      simp only [e12]
      go_simp
    · refine ⟨_, rfl, fun done vs w5 hn hS5 hR5 hd hF => ?_⟩
      obtain ⟨⟨k6, n6, c6⟩, ⟨p6, q6, r6⟩, ⟨x6, y6, u6⟩, _, _, e12⟩ := hF 12 (hd 12 (by decide))
      have e13 : vs 13 = vs 12 := hF 13 (hd 13 (by decide))
      refine ⟨sv dk.1.reg ⟨k6, n6, c6⟩ ⟨p6, q6, r6⟩ ⟨x6, y6, u6⟩ dk.1.closed, Or.inl ⟨by kernel_rfl, ?_⟩, ⟨_, _, _, e12, rfl⟩, fun j _ => vX_no (by decide) (by decide) (by decide)⟩
      intro w hE
      simp only [vDeps, Par.putAll_nil, Par.putAll_some, vSlots]
      simp only [e13, e12]
      go_simp
    · refine ⟨_, rfl, fun done vs w5 hn hS5 hR5 hd hF => ?_⟩
      obtain ⟨⟨k6, n6, c6⟩, ⟨p6, q6, r6⟩, ⟨x6, y6, u6⟩, _, _, e12⟩ := hF 12 (hd 12 (by decide))
      have e13 : vs 13 = vs 12 := hF 13 (hd 13 (by decide))
      refine ⟨rv dk.2.1 dk.2.2, Or.inl ⟨by kernel_rfl, ?_⟩, ⟨_, _, _, e12, rfl⟩, fun j _ => vX_no (by decide) (by decide) (by decide)⟩
      intro w hE
      simp only [vDeps, Par.putAll_nil, Par.putAll_some, vSlots]
      simp only [e13, e12]
      go_simp
    · refine ⟨_, rfl, fun done vs w5 hn hS5 hR5 hd hF => ?_⟩
      obtain ⟨⟨k6, n6, c6⟩, ⟨p6, q6, r6⟩, ⟨x6, y6, u6⟩, _, _, e12⟩ := hF 12 (hd 12 (by decide))
      have e13 : vs 13 = vs 12 := hF 13 (hd 13 (by decide))
      refine ⟨.int .i64 0, Or.inl ⟨by kernel_rfl, ?_⟩, ⟨_, _, _, e12, rfl⟩, fun j _ => vX_no (by decide) (by decide) (by decide)⟩
      intro w hE
      simp only [vDeps, Par.putAll_nil, Par.putAll_some, vSlots]
      simp only [e13, e12]
      go_simp
  · refine List.forall_mem_cons.2 ⟨?_, List.forall_mem_cons.2 ⟨?_, List.forall_mem_cons.2 ⟨?_, List.forall_mem_cons.2 ⟨?_, List.forall_mem_cons.2 ⟨?_, List.forall_mem_cons.2 ⟨?_, List.forall_mem_cons.2 ⟨?_, List.forall_mem_cons.2 ⟨?_, List.forall_mem_cons.2 ⟨?_, List.forall_mem_cons.2 ⟨?_, List.forall_mem_cons.2 ⟨?_, List.forall_mem_cons.2 ⟨?_, List.forall_mem_cons.2 ⟨?_, fun _ h => by cases h⟩⟩⟩⟩⟩⟩⟩⟩⟩⟩⟩⟩⟩
    · intro _ done vs w5 hn hS5 hR5 hd hF
      simp only [vDeps, Par.putAll_nil]
      refine Par.step_of rfl (fun K hK => ?_)
      go_simp
      refine (HPv.out _).mono ?_
      rintro e w6 ⟨rfl, rfl⟩
      exact hK.out _ _ ⟨.int .i64 (kq : Int), by kernel_rfl, hS5, Ext.refl _, rfl, fun j _ => vX_no (by decide) (by decide) (by decide)⟩
    · exact fun h => absurd (by decide) h
    · intro _ done vs w5 hn hS5 hR5 hd hF
      simp only [vDeps, Par.putAll_nil]
      refine Par.step_of rfl (fun K hK => ?_)
      go_simp
      refine (HPc.out _).mono ?_
      rintro e w6 ⟨rfl, rfl⟩
      exact hK.out _ _ ⟨.int .i64 V, by kernel_rfl, hS5, Ext.refl _, rfl, fun j _ => vX_no (by decide) (by decide) (by decide)⟩
    · exact fun h => absurd (by decide) h
    · exact fun h => absurd (by decide) h
    · exact fun h => absurd (by decide) h
    · intro _ done vs w5 hn hS5 hR5 hd hF
      have e11 : vs 11 = .agg #[.int .i64 12, .int .u64 (kq : Int), .int .u64 (1 + V)] := hF 11 (hd 11 (by decide))
      simp only [vDeps, Par.putAll_nil, Par.putAll_some, vSlots]
      simp only [e11]
      refine Par.step_of rfl (fun K hK => ?_)
      have hD := HDk.out _ (HS_a.out.ext hS5)
      go_simp
      refine hD.mono ?_
      rintro e w6 ⟨e6, ⟨k6, n6, c6⟩, ⟨p6, q6, r6⟩, ⟨x6, y6, u6⟩, rfl, S6, O6⟩
      exact hK.out _ _ ⟨.tuple #[sv dk.1.reg ⟨k6, n6, c6⟩ ⟨p6, q6, r6⟩ ⟨x6, y6, u6⟩ dk.1.closed, rv dk.2.1 dk.2.2, .int .i64 0], by kernel_rfl, hS5.trans e6, e6, ⟨⟨k6, n6, c6⟩, ⟨p6, q6, r6⟩, ⟨x6, y6, u6⟩, S6, fun B hB => O6 B (Nat.lt_of_lt_of_le hB hS5.size), rfl⟩, fun j hj => vX_do (hF j hj) O6⟩
    · exact fun h => absurd (by decide) h
    · exact fun h => absurd (by decide) h
    · exact fun h => absurd (by decide) h
    · exact fun h => absurd (by decide) h
    · intro _ done vs w5 hn hS5 hR5 hd hF
      simp only [vDeps, Par.putAll_nil]
      refine Par.step_of rfl (fun K hK => ?_)
      go_simp
      exact hK.out _ _ ⟨.pointer (some ⟨w5.heap.size, 0, none⟩), by kernel_rfl, hS5.alloc _, Ext.new _ _, ⟨w5.heap.size, rfl, hS5.size, Cb.new w5 _ _⟩, fun j hj => vX_box (.inl rfl) (fun e => hn (e ▸ hj)) (hF j hj)⟩
    · intro _ done vs w5 hn hS5 hR5 hd hF
      simp only [vDeps, Par.putAll_nil]
      refine Par.step_of rfl (fun K hK => ?_)
      go_simp
      exact hK.out _ _ ⟨.pointer (some ⟨w5.heap.size, 0, none⟩), by kernel_rfl, hS5.alloc _, Ext.new _ _, ⟨w5.heap.size, rfl, hS5.size, Cb.new w5 _ _⟩, fun j hj => vX_box (.inr rfl) (fun e => hn (e ▸ hj)) (hF j hj)⟩
  intro vs w5 hS5 hR5 hF hXX
  have e5 : vs 5 = .int .i64 kq := hF 5 (by decide)
  have e6 : vs 6 = .int .u64 kq := hF 6 (by decide)
  have e8 : vs 8 = .int .i64 V := hF 8 (by decide)
  have e9 : vs 9 = .int .i64 (1 + V) := hF 9 (by decide)
  have e10 : vs 10 = .int .u64 (1 + V) := hF 10 (by decide)
  have e11 : vs 11 = .agg #[.int .i64 12, .int .u64 (kq : Int), .int .u64 (1 + V)] := hF 11 (by decide)
  obtain ⟨⟨k6, n6, c6⟩, ⟨p6, q6, r6⟩, ⟨x6, y6, u6⟩, S6, O6, e12⟩ := hF 12 (by decide)
  have e13 : vs 13 = vs 12 := hF 13 (by decide)
  obtain ⟨_, _, _, e, e14⟩ := hF 14 (by decide)
  cases e12.symm.trans e
  obtain ⟨_, _, _, e, e15⟩ := hF 15 (by decide)
  cases e12.symm.trans e
  obtain ⟨_, _, _, e, e16⟩ := hF 16 (by decide)
  cases e12.symm.trans e
  obtain ⟨B8, e17, g15, C8⟩ := hF 17 (by decide)
  obtain ⟨B9, e18, g16, C9⟩ := hF 18 (by decide)
  have x1 := vX_off (hXX 12 (by decide) 17 (by decide) (by decide)) (.inl rfl) e17 e12
  have x2 := vX_off (hXX 12 (by decide) 18 (by decide) (by decide)) (.inr rfl) e18 e12
  have x3 := vX_ne (hXX 17 (by decide) 18 (by decide) (by decide)) e17 e18
  simp only [Par.putAll_nil, Par.putAll_some, vSlots]
  simp only [e5, e6, e8, e9, e10, e11, e12, e13, e14, e15, e16, e17, e18]
  clear hF hXX e5 e6 e8 e9 e10 e11 e12 e13 e14 e15 e16 e17 e18 e
  obtain ⟨⟨kr, kx, ky, kz, kl⟩, ⟨d2, d3⟩⟩ := dk
  dsimp only at S6 HK ⊢
  obtain ⟨z0, z1, z2, z3, z4⟩ := C8.five
  have y0 := C8.f 0
  have y1 := C8.f 1
  have y2 := C8.f 2
  have y3 := C8.f 3
  have y4 := C8.f 4
  have hC8 := C8.st (.int .u64 kr) (.slice k6 n6 c6) (.slice p6 q6 r6) (.slice x6 y6 u6) (.bool kl)
  have hC9 := (((((C9.far (B := B8) (Ne.symm x3) 0 (.int .u64 kr)).far (B := B8) (Ne.symm x3) 1 (.slice k6 n6 c6)).far (B := B8) (Ne.symm x3) 2 (.slice p6 q6 r6)).far (B := B8) (Ne.symm x3) 3 (.slice x6 y6 u6)).far (B := B8) (Ne.symm x3) 4 (.bool kl))
  have hS6 := (((((SS.set S6 x1 0 (.int .u64 kr)).set x1 1 (.slice k6 n6 c6)).set x1 2 (.slice p6 q6 r6)).set x1 3 (.slice x6 y6 u6)).set x1 4 (.bool kl))
  have hE6 := (((((hS5.setCell g15 (.int .u64 kr) (o := 0)).setCell g15 (.slice k6 n6 c6) (o := 1)).setCell g15 (.slice p6 q6 r6) (o := 2)).setCell g15 (.slice x6 y6 u6) (o := 3)).setCell g15 (.bool kl) (o := 4))
  have HH := Lib.hid (And.intro hC8 (And.intro hC9 (And.intro hS6 hE6)))
  clear hC8 hC9 hS6 hE6 C8 C9 S6 hS5 O6 x1 hR5 hHeld
  refine wpAnyH_ready (rs := [19]) (by kernel_rfl) (by simp) ?_
  refine AllReadyH.cons rfl (fun K hK => ?_) AllReadyH.nil
  go_simp
  refine hK.out _ _ HH.out.2.2.2 (fun hHeld => ?_)
  clear hK K z0 z1 z2 z3 z4 y0 y1 y2 y3 y4
  obtain ⟨hC8, hC9, hS6, hE6⟩ := HH.out
  clear HH hHeld
  generalize ((((w5.setCell ⟨B8, 0, none⟩ (.int .u64 kr)).setCell ⟨B8, 1, none⟩ (.slice k6 n6 c6)).setCell ⟨B8, 2, none⟩ (.slice p6 q6 r6)).setCell ⟨B8, 3, none⟩ (.slice x6 y6 u6)).setCell ⟨B8, 4, none⟩ (.bool kl) = w7 at hC8 hC9 hS6 hE6 ⊢
  obtain ⟨z0, z1⟩ := hC9.two
  have y0 := hC9.f 0
  have y1 := hC9.f 1
  have kC8 := ((hC8.far (B := B9) x3 0 (.int .i64 d2)).far (B := B9) x3 1 (.int .u64 d3))
  have kC9 : Cb _ B9 [.int .i64 d2, .int .u64 d3] := ((hC9.upd (i := 0) (by simp) (.int .i64 d2)).upd (i := 1) (by simp) (.int .u64 d3))
  have kS6 := ((SS.set hS6 x2 0 (.int .i64 d2)).set x2 1 (.int .u64 d3))
  have kE6 := ((hE6.setCell g16 (.int .i64 d2) (o := 0)).setCell g16 (.int .u64 d3) (o := 1))
  have HH := Lib.hid (And.intro kC8 (And.intro kC9 (And.intro kS6 kE6)))
  clear kC8 kC9 kS6 kE6 hC8 hC9 hS6 hE6 x2 x3
  refine wpAnyH_ready (rs := [20]) (by kernel_rfl) (by simp) ?_
  refine AllReadyH.cons rfl (fun K hK => ?_) AllReadyH.nil
  go_simp
  refine hK.out _ _ HH.out.2.2.2 (fun hHeld => ?_)
  clear hK K z0 z1 y0 y1
  refine wpAnyH_take (i := 21) (v := .int .i64 0) rfl (by kernel_rfl) (by kernel_rfl) (by kernel_rfl) (fun _ _ _ h => h) (Or.inl ⟨by kernel_rfl, ?_⟩) (by assumption) ?_
  · intro w hE
    go_simp
  refine wpAnyH_done (by kernel_rfl) ?_ _
  obtain ⟨hC8, hC9, hS6, hE6⟩ := HH.out
  generalize (w7.setCell ⟨B9, 0, none⟩ (.int .i64 d2)).setCell ⟨B9, 1, none⟩ (.int .u64 d3) = w8 at hC8 hC9 hS6 hE6 ⊢
  clear HH hHeld
  replace HX := Lib.hid (HX.out.trans hE6)
  replace HC := Lib.hid (HC.out.ext hE6)
  replace HS_a := Lib.hid (HS_a.out.ext hE6)
  replace HB_a := Lib.hid (HB_a.out.ext hE6)
  have HSk := Lib.hid hS6
  have HBk := Lib.hid hC8
  have HBr := Lib.hid hC9
  clear hC8 hC9 hS6 hE6 HDk HPv HPc hw4
  dsimp only [sc] at *
  obtain ⟨c0, c1, c2⟩ := HC.out.three
  obtain ⟨s0, s1', s2', s3, s4⟩ := HB_a.out.five
  go_wp2_with (fail)
  obtain ⟨⟨cr, cx, cy, cz, cl⟩, ⟨e2, e3⟩⟩ := dc
  dsimp only at HDc HK
  refine (HDc.out _ HS_a.out).mono ?_
  rintro e w9 ⟨e9, ⟨k7, n7, c7⟩, ⟨p7, q7, r7⟩, ⟨x7, y7, u7⟩, rfl, S9, _⟩
  dsimp only [sv] at *
  have E := (e9.alloc (.cells #[.int .u64 cr, .slice k7 n7 c7, .slice p7 q7 r7, .slice x7 y7 u7, .bool cl] 30)).alloc (.cells #[.int .i64 e2, .int .u64 e3] 63)
  replace HX := Lib.hid (HX.out.trans E)
  replace HC := Lib.hid (HC.out.ext E)
  replace HS_a := Lib.hid (HS_a.out.ext E)
  replace HB_a := Lib.hid (HB_a.out.ext E)
  replace HSk := Lib.hid (HSk.out.ext E)
  replace HBk := Lib.hid (HBk.out.ext E)
  replace HBr := Lib.hid (HBr.out.ext E)
  have HSc := Lib.hid (S9.ext ((Ext.new w9 (.cells #[.int .u64 cr, .slice k7 n7 c7, .slice p7 q7 r7, .slice x7 y7 u7, .bool cl] 30)).alloc (.cells #[.int .i64 e2, .int .u64 e3] 63)))
  have HBc := Lib.hid (show Cb ((w9.alloc (.cells #[.int .u64 cr, .slice k7 n7 c7, .slice p7 q7 r7, .slice x7 y7 u7, .bool cl] 30)).alloc (.cells #[.int .i64 e2, .int .u64 e3] 63)) w9.heap.size [.int .u64 cr, .slice k7 n7 c7, .slice p7 q7 r7, .slice x7 y7 u7, .bool cl] from (Cb.new w9 _ _).alloc _)
  clear HDc E e9 S9 c0 c1 c2 s0 s1' s2' s3 s4
  obtain ⟨c0, c1, c2⟩ := HC.out.three
  obtain ⟨s0, s1', s2', s3, s4⟩ := HB_a.out.five
  go_wp2_with (fail)
  refine (HEn.out ⟨ka_a, kn_a, kc_a⟩ ⟨va_a, vn_a, vc_a⟩ ⟨ta_a, tn_a, tc_a⟩ ⟨r_a, x_a, y_a, z_a, l_a⟩ _ HX.out HS_a.out HRt_a.out).mono ?_
  rintro e w10 ⟨⟨aA, nA, dA⟩, rfl, WA, e10⟩
  dsimp only at WA
  replace HX := Lib.hid (HX.out.trans e10)
  replace HC := Lib.hid (HC.out.ext e10)
  replace HS_a := Lib.hid (HS_a.out.ext e10)
  replace HB_a := Lib.hid (HB_a.out.ext e10)
  replace HSk := Lib.hid (HSk.out.ext e10)
  replace HBk := Lib.hid (HBk.out.ext e10)
  replace HBr := Lib.hid (HBr.out.ext e10)
  replace HSc := Lib.hid (HSc.out.ext e10)
  replace HBc := Lib.hid (HBc.out.ext e10)
  have HWA := Lib.hid WA
  clear e10 WA c0 c1 c2 s0 s1' s2' s3 s4
  obtain ⟨c0, c1, c2⟩ := HC.out.three
  obtain ⟨s0, s1', s2', s3, s4⟩ := HBk.out.five
  go_wp2_with (fail)
  refine (HEn.out ⟨k6, n6, c6⟩ ⟨p6, q6, r6⟩ ⟨x6, y6, u6⟩ ⟨kr, kx, ky, kz, kl⟩ _ HX.out HSk.out HK.out.2.2.1.1).mono ?_
  rintro e w11 ⟨⟨aB, nB, dB⟩, rfl, WB, e11⟩
  dsimp only at WB
  replace HX := Lib.hid (HX.out.trans e11)
  replace HC := Lib.hid (HC.out.ext e11)
  replace HS_a := Lib.hid (HS_a.out.ext e11)
  replace HB_a := Lib.hid (HB_a.out.ext e11)
  replace HSk := Lib.hid (HSk.out.ext e11)
  replace HBk := Lib.hid (HBk.out.ext e11)
  replace HBr := Lib.hid (HBr.out.ext e11)
  replace HSc := Lib.hid (HSc.out.ext e11)
  replace HBc := Lib.hid (HBc.out.ext e11)
  replace HWA := Lib.hid (HWA.out.ext e11)
  have HWB := Lib.hid WB
  clear e11 WB c0 c1 c2 s0 s1' s2' s3 s4
  obtain ⟨c0, c1, c2⟩ := HC.out.three
  obtain ⟨s0, s1', s2', s3, s4⟩ := HBc.out.five
  go_wp2_with (fail)
  refine (HEn.out ⟨k7, n7, c7⟩ ⟨p7, q7, r7⟩ ⟨x7, y7, u7⟩ ⟨cr, cx, cy, cz, cl⟩ _ HX.out HSc.out HK.out.2.2.2.1).mono ?_
  rintro e w12 ⟨⟨aD, nD, dD⟩, rfl, WD, e12⟩
  dsimp only at WD
  replace HX := Lib.hid (HX.out.trans e12)
  replace HC := Lib.hid (HC.out.ext e12)
  replace HS_a := Lib.hid (HS_a.out.ext e12)
  replace HB_a := Lib.hid (HB_a.out.ext e12)
  replace HSk := Lib.hid (HSk.out.ext e12)
  replace HBk := Lib.hid (HBk.out.ext e12)
  replace HBr := Lib.hid (HBr.out.ext e12)
  replace HSc := Lib.hid (HSc.out.ext e12)
  replace HBc := Lib.hid (HBc.out.ext e12)
  replace HWA := Lib.hid (HWA.out.ext e12)
  replace HWB := Lib.hid (HWB.out.ext e12)
  have HWD := Lib.hid WD
  clear e12 WD c0 c1 c2 s0 s1' s2' s3 s4
  obtain ⟨c0, c1, c2⟩ := HC.out.three
  have hlen : ∀ {s : St}, rightS 5 1 m s = true → (encB s).length = m + 9 := fun {s} h => by
    have h2 := encW_len h
    have h3 : Reg.hom 5 (m : Int) = 9 + (m : Int) := rfl
    rw [h3] at h2
    have h4 : encW 5 m s = encB s := rfl
    rw [h4] at h2
    omega
  have lA := hlen HRt_a.out
  have lB := hlen HK.out.2.2.1.1
  have lD := hlen HK.out.2.2.2.1
  obtain rfl : nA = m + 9 := by rw [← lA]; exact HWA.out.len.symm
  obtain rfl : nB = m + 9 := by rw [← lB]; exact HWB.out.len.symm
  obtain rfl : nD = m + 9 := by rw [← lD]; exact HWD.out.len.symm
  have hl : z_a.length = m := by have := (right_bal HRt_a.out).2.1; dsimp only at this; omega
  have h8 : ∀ v ∈ z_a, 0 ≤ v ∧ v ≤ 8 := (right_bal HRt_a.out).2.2
  have hms := (many_is (s := ⟨r_a, x_a, y_a, z_a, l_a⟩) hl)
  have hss := (sum_is (s := ⟨r_a, x_a, y_a, z_a, l_a⟩) hl h8)
  have hsb := sum_bd (a := encB ⟨r_a, x_a, y_a, z_a, l_a⟩) (m := m) (B := (m : Int)) (fun j hj => encB_bd (s := ⟨r_a, x_a, y_a, z_a, l_a⟩) hl j hj) (by omega)
  have hck := HK.out.1
  have hcc := HK.out.2.1
  try dsimp only at hck hcc
  generalize encB ⟨r_a, x_a, y_a, z_a, l_a⟩ = xs at *
  generalize encB ⟨kr, kx, ky, kz, kl⟩ = ys at *
  generalize encB ⟨cr, cx, cy, cz, cl⟩ = zs at *
  have HQ := Lib.hid (And.intro hms (And.intro hss (And.intro hsb (And.intro hck hcc))))
  have hw9 : IntKind.i64.wrap ((m : Int) + 9) = ((m + 9 : Nat) : Int) := by have := HM.out; simp only [IntKind.wrap_i64]; omega
  have hbn : (((m + 9 : Nat) : Int) != ((m + 9 : Nat) : Int)) = false := by simp
  generalize hN : m + 9 = N at *
  have HN := Lib.hid hN
  clear hN hlen lA lB lD hl h8 hms hss hsb hck hcc HK HEn HSk HSc HS_a HBk HBc
  go_wp2_with (fail)
  have HLx := Lib.hid (Ext.refl w12)
  go_loopg [24, 25, 26, 27, 28] N (fun kx s24 s25 s26 s27 s28 wr => ∃ i : Nat, s24 = .int .i64 (difN xs ys i : Nat) ∧ s25 = .int .i64 (difN xs zs i : Nat) ∧ s26 = .int .u64 (manyN xs m i : Nat) ∧ s27 = .int .u64 (sumN xs m i) ∧ s28 = .int .i64 i ∧ i ≤ N ∧ N - i ≤ kx ∧ RowKit.Hid (Ext w12 wr))
  case atStart => exact ⟨0, rfl, rfl, rfl, rfl, rfl, Nat.zero_le _, by omega, HLx.out⟩
  case round =>
    obtain ⟨i, rfl, rfl, rfl, rfl, rfl, hi, hg, S1⟩ := hrel
    by_cases hlt : i < N
    · have hlt2 : (i : Int) < N := by omega
      obtain ⟨ya, hxa, hua, ba, oa, rfl, hca⟩ := HWA.out.get hlt
      obtain ⟨yb, hxb, hub, bb, ob, rfl, hcb⟩ := HWB.out.get hlt
      obtain ⟨yd, hxd, hud, bd, od, rfl, hcd⟩ := HWD.out.get hlt
      have ca := S1.out.cell hca
      have cb := S1.out.cell hcb
      have cd := S1.out.cell hcd
      have cm := S1.out.cell c2
      have ga : xs.getD i 0 = ya := by rw [List.getD_eq_getElem?_getD, hxa]; rfl
      have gb : ys.getD i 0 = yb := by rw [List.getD_eq_getElem?_getD, hxb]; rfl
      have gd : zs.getD i 0 = yd := by rw [List.getD_eq_getElem?_getD, hxd]; rfl
      have E1 := difN_step xs ys i
      have E2 := difN_step xs zs i
      have E3 := manyN_step xs m i
      have E4 := sumN_step xs m i
      rw [ga, gb] at E1
      rw [ga, gd] at E2
      rw [ga] at E3 E4
      have B1 := difN_le xs ys i
      have B2 := difN_le xs zs i
      have B3 := manyN_le xs m i
      have B4 := HQ.out.2.2.1 i
      have B5 := HQ.out.2.2.1 (i + 1)
      have hm12 := HM.out
      have hNm := HN.out
      have B6 : (m : Int) * ((i + 1 : Nat) : Int) ≤ 12 * 21 := Int.mul_le_mul (by omega) (by omega) (by omega) (by omega)
      generalize difN xs ys i = q1 at *
      generalize hP1 : difN xs ys (i + 1) = p1 at *
      have HP1 := Lib.hid hP1
      clear hP1
      generalize difN xs zs i = q2 at *
      generalize hP2 : difN xs zs (i + 1) = p2 at *
      have HP2 := Lib.hid hP2
      clear hP2
      generalize manyN xs m i = q3 at *
      generalize hP3 : manyN xs m (i + 1) = p3 at *
      have HP3 := Lib.hid hP3
      clear hP3
      generalize sumN xs m i = q4 at *
      generalize hP4 : sumN xs m (i + 1) = p4 at *
      have HP4 := Lib.hid hP4
      clear hP4
      generalize (m : Int) * ((i + 1 : Nat) : Int) = mi at *
      have hw1 : IntKind.i64.wrap ((q1 : Int) + 1) = (q1 : Int) + 1 := by simp only [IntKind.wrap_i64]; omega
      have hw2 : IntKind.i64.wrap ((q2 : Int) + 1) = (q2 : Int) + 1 := by simp only [IntKind.wrap_i64]; omega
      have hw3 : IntKind.u64.wrap ((q3 : Int) + 1) = (q3 : Int) + 1 := by simp only [IntKind.wrap_u64]; omega
      have HS1 := S1
      clear hca hcb hcd ga gb gd hxa hxb hxd hua hub hud HQ HLx S1
      have hcase : (i = 0) ∨ (0 < i ∧ i ≤ m ∧ ya = 0) ∨ (0 < i ∧ i ≤ m ∧ ya ≠ 0) ∨ m < i := by omega
      rcases hcase with hc | hc | hc | hc
      · have k1 : ¬ (0 : Int) < (i : Int) := by omega
        have k3 : ¬ (m : Int) < (i : Int) := by omega
        rw [if_neg (by omega)] at E3 E4
        clear hc
        have F3 : RowKit.Hid ((p3 : Int) = q3) := Lib.hid (by omega)
        have F4 : RowKit.Hid (p4 = q4) := Lib.hid (by omega)
        clear E3 E4 B3 B4 B5 B6
        by_cases h1 : ya = yb
        · have hb1 : (ya != yb) = false := by simpa using h1
          rw [if_neg (by omega)] at E1
          have F1 : RowKit.Hid ((p1 : Int) = q1) := Lib.hid (by omega)
          by_cases h2 : ya = yd
          · have hb2 : (ya != yd) = false := by simpa using h2
            rw [if_neg (by omega)] at E2
            have F2 : RowKit.Hid ((p2 : Int) = q2) := Lib.hid (by omega)
            clear E1 E2 h1 h2 B1 B2
            go_wp2_with (fail)
            go_quiet (fail)
            go_wp2_with (fail)
            go_quiet (fail)
            go_wp2_with (fail)
            go_roundg (N - (i + 1))
            case measure => omega
            case rel => exact ⟨i + 1, by rw [HP1.out, F1.out], by rw [HP2.out, F2.out], by rw [HP3.out, F3.out], by rw [HP4.out, F4.out], by first | rfl | (congr 1), by omega, by omega, Lib.hid (HS1.out.drewN _)⟩
          · have hb2 : (ya != yd) = true := by simpa using h2
            rw [if_pos (by omega)] at E2
            have F2 : RowKit.Hid ((p2 : Int) = q2 + 1) := Lib.hid (by omega)
            clear E1 E2 h1 h2 B1 B2
            go_wp2_with (fail)
            go_quiet (fail)
            go_wp2_with (fail)
            go_quiet (fail)
            go_wp2_with (fail)
            go_roundg (N - (i + 1))
            case measure => omega
            case rel => exact ⟨i + 1, by rw [HP1.out, F1.out], by rw [HP2.out, F2.out], by rw [HP3.out, F3.out], by rw [HP4.out, F4.out], by first | rfl | (congr 1), by omega, by omega, Lib.hid (HS1.out.drewN _)⟩
        · have hb1 : (ya != yb) = true := by simpa using h1
          rw [if_pos (by omega)] at E1
          have F1 : RowKit.Hid ((p1 : Int) = q1 + 1) := Lib.hid (by omega)
          by_cases h2 : ya = yd
          · have hb2 : (ya != yd) = false := by simpa using h2
            rw [if_neg (by omega)] at E2
            have F2 : RowKit.Hid ((p2 : Int) = q2) := Lib.hid (by omega)
            clear E1 E2 h1 h2 B1 B2
            go_wp2_with (fail)
            go_quiet (fail)
            go_wp2_with (fail)
            go_quiet (fail)
            go_wp2_with (fail)
            go_roundg (N - (i + 1))
            case measure => omega
            case rel => exact ⟨i + 1, by rw [HP1.out, F1.out], by rw [HP2.out, F2.out], by rw [HP3.out, F3.out], by rw [HP4.out, F4.out], by first | rfl | (congr 1), by omega, by omega, Lib.hid (HS1.out.drewN _)⟩
          · have hb2 : (ya != yd) = true := by simpa using h2
            rw [if_pos (by omega)] at E2
            have F2 : RowKit.Hid ((p2 : Int) = q2 + 1) := Lib.hid (by omega)
            clear E1 E2 h1 h2 B1 B2
            go_wp2_with (fail)
            go_quiet (fail)
            go_wp2_with (fail)
            go_quiet (fail)
            go_wp2_with (fail)
            go_roundg (N - (i + 1))
            case measure => omega
            case rel => exact ⟨i + 1, by rw [HP1.out, F1.out], by rw [HP2.out, F2.out], by rw [HP3.out, F3.out], by rw [HP4.out, F4.out], by first | rfl | (congr 1), by omega, by omega, Lib.hid (HS1.out.drewN _)⟩
      · have k1 : (0 : Int) < (i : Int) := by omega
        have k2 : (i : Int) ≤ (m : Int) := by omega
        have k3 : ¬ (m : Int) < (i : Int) := by omega
        have k4 : (ya != 0) = false := by simp; omega
        rw [if_neg (by omega)] at E3 E4
        clear hc
        have F3 : RowKit.Hid ((p3 : Int) = q3) := Lib.hid (by omega)
        have F4 : RowKit.Hid (p4 = q4) := Lib.hid (by omega)
        clear E3 E4 B3 B4 B5 B6
        by_cases h1 : ya = yb
        · have hb1 : (ya != yb) = false := by simpa using h1
          rw [if_neg (by omega)] at E1
          have F1 : RowKit.Hid ((p1 : Int) = q1) := Lib.hid (by omega)
          by_cases h2 : ya = yd
          · have hb2 : (ya != yd) = false := by simpa using h2
            rw [if_neg (by omega)] at E2
            have F2 : RowKit.Hid ((p2 : Int) = q2) := Lib.hid (by omega)
            clear E1 E2 h1 h2 B1 B2
            go_wp2_with (fail)
            go_quiet (fail)
            go_wp2_with (fail)
            go_quiet (fail)
            go_wp2_with (fail)
            go_roundg (N - (i + 1))
            case measure => omega
            case rel => exact ⟨i + 1, by rw [HP1.out, F1.out], by rw [HP2.out, F2.out], by rw [HP3.out, F3.out], by rw [HP4.out, F4.out], by first | rfl | (congr 1), by omega, by omega, Lib.hid (HS1.out.drewN _)⟩
          · have hb2 : (ya != yd) = true := by simpa using h2
            rw [if_pos (by omega)] at E2
            have F2 : RowKit.Hid ((p2 : Int) = q2 + 1) := Lib.hid (by omega)
            clear E1 E2 h1 h2 B1 B2
            go_wp2_with (fail)
            go_quiet (fail)
            go_wp2_with (fail)
            go_quiet (fail)
            go_wp2_with (fail)
            go_roundg (N - (i + 1))
            case measure => omega
            case rel => exact ⟨i + 1, by rw [HP1.out, F1.out], by rw [HP2.out, F2.out], by rw [HP3.out, F3.out], by rw [HP4.out, F4.out], by first | rfl | (congr 1), by omega, by omega, Lib.hid (HS1.out.drewN _)⟩
        · have hb1 : (ya != yb) = true := by simpa using h1
          rw [if_pos (by omega)] at E1
          have F1 : RowKit.Hid ((p1 : Int) = q1 + 1) := Lib.hid (by omega)
          by_cases h2 : ya = yd
          · have hb2 : (ya != yd) = false := by simpa using h2
            rw [if_neg (by omega)] at E2
            have F2 : RowKit.Hid ((p2 : Int) = q2) := Lib.hid (by omega)
            clear E1 E2 h1 h2 B1 B2
            go_wp2_with (fail)
            go_quiet (fail)
            go_wp2_with (fail)
            go_quiet (fail)
            go_wp2_with (fail)
            go_roundg (N - (i + 1))
            case measure => omega
            case rel => exact ⟨i + 1, by rw [HP1.out, F1.out], by rw [HP2.out, F2.out], by rw [HP3.out, F3.out], by rw [HP4.out, F4.out], by first | rfl | (congr 1), by omega, by omega, Lib.hid (HS1.out.drewN _)⟩
          · have hb2 : (ya != yd) = true := by simpa using h2
            rw [if_pos (by omega)] at E2
            have F2 : RowKit.Hid ((p2 : Int) = q2 + 1) := Lib.hid (by omega)
            clear E1 E2 h1 h2 B1 B2
            go_wp2_with (fail)
            go_quiet (fail)
            go_wp2_with (fail)
            go_quiet (fail)
            go_wp2_with (fail)
            go_roundg (N - (i + 1))
            case measure => omega
            case rel => exact ⟨i + 1, by rw [HP1.out, F1.out], by rw [HP2.out, F2.out], by rw [HP3.out, F3.out], by rw [HP4.out, F4.out], by first | rfl | (congr 1), by omega, by omega, Lib.hid (HS1.out.drewN _)⟩
      · have k1 : (0 : Int) < (i : Int) := by omega
        have k2 : (i : Int) ≤ (m : Int) := by omega
        have k3 : ¬ (m : Int) < (i : Int) := by omega
        have k4 : (ya != 0) = true := by simp; omega
        rw [if_pos (by omega)] at E3
        rw [if_neg (by omega)] at E4
        clear hc
        have F3 : RowKit.Hid ((p3 : Int) = q3 + 1) := Lib.hid (by omega)
        have F4 : RowKit.Hid (p4 = q4) := Lib.hid (by omega)
        clear E3 E4 B3 B4 B5 B6
        by_cases h1 : ya = yb
        · have hb1 : (ya != yb) = false := by simpa using h1
          rw [if_neg (by omega)] at E1
          have F1 : RowKit.Hid ((p1 : Int) = q1) := Lib.hid (by omega)
          by_cases h2 : ya = yd
          · have hb2 : (ya != yd) = false := by simpa using h2
            rw [if_neg (by omega)] at E2
            have F2 : RowKit.Hid ((p2 : Int) = q2) := Lib.hid (by omega)
            clear E1 E2 h1 h2 B1 B2
            go_wp2_with (fail)
            go_quiet (fail)
            go_wp2_with (fail)
            go_quiet (fail)
            go_wp2_with (fail)
            go_roundg (N - (i + 1))
            case measure => omega
            case rel => exact ⟨i + 1, by rw [HP1.out, F1.out], by rw [HP2.out, F2.out], by rw [HP3.out, F3.out], by rw [HP4.out, F4.out], by first | rfl | (congr 1), by omega, by omega, Lib.hid (HS1.out.drewN _)⟩
          · have hb2 : (ya != yd) = true := by simpa using h2
            rw [if_pos (by omega)] at E2
            have F2 : RowKit.Hid ((p2 : Int) = q2 + 1) := Lib.hid (by omega)
            clear E1 E2 h1 h2 B1 B2
            go_wp2_with (fail)
            go_quiet (fail)
            go_wp2_with (fail)
            go_quiet (fail)
            go_wp2_with (fail)
            go_roundg (N - (i + 1))
            case measure => omega
            case rel => exact ⟨i + 1, by rw [HP1.out, F1.out], by rw [HP2.out, F2.out], by rw [HP3.out, F3.out], by rw [HP4.out, F4.out], by first | rfl | (congr 1), by omega, by omega, Lib.hid (HS1.out.drewN _)⟩
        · have hb1 : (ya != yb) = true := by simpa using h1
          rw [if_pos (by omega)] at E1
          have F1 : RowKit.Hid ((p1 : Int) = q1 + 1) := Lib.hid (by omega)
          by_cases h2 : ya = yd
          · have hb2 : (ya != yd) = false := by simpa using h2
            rw [if_neg (by omega)] at E2
            have F2 : RowKit.Hid ((p2 : Int) = q2) := Lib.hid (by omega)
            clear E1 E2 h1 h2 B1 B2
            go_wp2_with (fail)
            go_quiet (fail)
            go_wp2_with (fail)
            go_quiet (fail)
            go_wp2_with (fail)
            go_roundg (N - (i + 1))
            case measure => omega
            case rel => exact ⟨i + 1, by rw [HP1.out, F1.out], by rw [HP2.out, F2.out], by rw [HP3.out, F3.out], by rw [HP4.out, F4.out], by first | rfl | (congr 1), by omega, by omega, Lib.hid (HS1.out.drewN _)⟩
          · have hb2 : (ya != yd) = true := by simpa using h2
            rw [if_pos (by omega)] at E2
            have F2 : RowKit.Hid ((p2 : Int) = q2 + 1) := Lib.hid (by omega)
            clear E1 E2 h1 h2 B1 B2
            go_wp2_with (fail)
            go_quiet (fail)
            go_wp2_with (fail)
            go_quiet (fail)
            go_wp2_with (fail)
            go_roundg (N - (i + 1))
            case measure => omega
            case rel => exact ⟨i + 1, by rw [HP1.out, F1.out], by rw [HP2.out, F2.out], by rw [HP3.out, F3.out], by rw [HP4.out, F4.out], by first | rfl | (congr 1), by omega, by omega, Lib.hid (HS1.out.drewN _)⟩
      · have k1 : (0 : Int) < (i : Int) := by omega
        have k2 : ¬ (i : Int) ≤ (m : Int) := by omega
        have k3 : (m : Int) < (i : Int) := by omega
        rw [if_neg (by omega)] at E3
        rw [if_pos (by omega)] at E4
        have hw4 : IntKind.u64.wrap (q4 + ya) = q4 + ya := by simp only [IntKind.wrap_u64]; omega
        clear hc
        have F3 : RowKit.Hid ((p3 : Int) = q3) := Lib.hid (by omega)
        have F4 : RowKit.Hid (p4 = q4 + ya) := Lib.hid (by omega)
        clear E3 E4 B3 B4 B5 B6
        by_cases h1 : ya = yb
        · have hb1 : (ya != yb) = false := by simpa using h1
          rw [if_neg (by omega)] at E1
          have F1 : RowKit.Hid ((p1 : Int) = q1) := Lib.hid (by omega)
          by_cases h2 : ya = yd
          · have hb2 : (ya != yd) = false := by simpa using h2
            rw [if_neg (by omega)] at E2
            have F2 : RowKit.Hid ((p2 : Int) = q2) := Lib.hid (by omega)
            clear E1 E2 h1 h2 B1 B2
            go_wp2_with (fail)
            go_quiet (fail)
            go_wp2_with (fail)
            go_quiet (fail)
            go_wp2_with (fail)
            go_roundg (N - (i + 1))
            case measure => omega
            case rel => exact ⟨i + 1, by rw [HP1.out, F1.out], by rw [HP2.out, F2.out], by rw [HP3.out, F3.out], by rw [HP4.out, F4.out], by first | rfl | (congr 1), by omega, by omega, Lib.hid (HS1.out.drewN _)⟩
          · have hb2 : (ya != yd) = true := by simpa using h2
            rw [if_pos (by omega)] at E2
            have F2 : RowKit.Hid ((p2 : Int) = q2 + 1) := Lib.hid (by omega)
            clear E1 E2 h1 h2 B1 B2
            go_wp2_with (fail)
            go_quiet (fail)
            go_wp2_with (fail)
            go_quiet (fail)
            go_wp2_with (fail)
            go_roundg (N - (i + 1))
            case measure => omega
            case rel => exact ⟨i + 1, by rw [HP1.out, F1.out], by rw [HP2.out, F2.out], by rw [HP3.out, F3.out], by rw [HP4.out, F4.out], by first | rfl | (congr 1), by omega, by omega, Lib.hid (HS1.out.drewN _)⟩
        · have hb1 : (ya != yb) = true := by simpa using h1
          rw [if_pos (by omega)] at E1
          have F1 : RowKit.Hid ((p1 : Int) = q1 + 1) := Lib.hid (by omega)
          by_cases h2 : ya = yd
          · have hb2 : (ya != yd) = false := by simpa using h2
            rw [if_neg (by omega)] at E2
            have F2 : RowKit.Hid ((p2 : Int) = q2) := Lib.hid (by omega)
            clear E1 E2 h1 h2 B1 B2
            go_wp2_with (fail)
            go_quiet (fail)
            go_wp2_with (fail)
            go_quiet (fail)
            go_wp2_with (fail)
            go_roundg (N - (i + 1))
            case measure => omega
            case rel => exact ⟨i + 1, by rw [HP1.out, F1.out], by rw [HP2.out, F2.out], by rw [HP3.out, F3.out], by rw [HP4.out, F4.out], by first | rfl | (congr 1), by omega, by omega, Lib.hid (HS1.out.drewN _)⟩
          · have hb2 : (ya != yd) = true := by simpa using h2
            rw [if_pos (by omega)] at E2
            have F2 : RowKit.Hid ((p2 : Int) = q2 + 1) := Lib.hid (by omega)
            clear E1 E2 h1 h2 B1 B2
            go_wp2_with (fail)
            go_quiet (fail)
            go_wp2_with (fail)
            go_quiet (fail)
            go_wp2_with (fail)
            go_roundg (N - (i + 1))
            case measure => omega
            case rel => exact ⟨i + 1, by rw [HP1.out, F1.out], by rw [HP2.out, F2.out], by rw [HP3.out, F3.out], by rw [HP4.out, F4.out], by first | rfl | (congr 1), by omega, by omega, Lib.hid (HS1.out.drewN _)⟩
    · obtain rfl : i = N := by omega
      have hlt2 : ¬ (i : Int) < i := by omega
      have hr0 := HBr.out.ext S1.out
      obtain ⟨d0, d1⟩ := hr0.two
      have ha0 := HB_a.out.ext S1.out
      obtain ⟨t0, t1, t2, t3, t4⟩ := ha0.five
      have HE := Lib.hid (HX.out.trans S1.out)
      obtain ⟨hms, hss, hsb, hck, hcc⟩ := HQ.out
      rw [hms, hss, hcc]
      clear HQ hsb hms hss hr0 ha0 HN hcc HLx S1
      have hcn : (((List.countP (fun v => decide (v ≠ 0)) z_a : Nat) : Int) == ((List.countP (fun v => decide (v ≠ 0)) z_a : Nat) : Int)) = true := by simp
      rcases hck with ⟨h0, h1⟩ | ⟨h0, h1⟩
      · subst h0
        rw [h1]
        clear h1
        cases l_a
        · rw [if_neg (by decide)]
          go_wp2_with (fail)
          go_ret
          exact ⟨rfl, HE.out⟩
        · rw [if_pos rfl]
          go_wp2_with (fail)
          go_ret
          exact ⟨rfl, HE.out⟩
      · have hb : (d2 == 0) = false := by simpa using h0
        have hb2 : (d2 != 0) = true := by simpa using h0
        rw [h1]
        clear h1 h0
        cases l_a
        · rw [if_neg (by decide)]
          go_wp2_with (fail)
          go_ret
          exact ⟨rfl, HE.out⟩
        · rw [if_pos rfl]
          go_wp2_with (fail)
          go_ret
          exact ⟨rfl, HE.out⟩

end Go.Proofs.YtmonkcekkhfafaaGreatDoor.Enc

/- EncVotes:
  EncVotes: for every input the law returns true, and each argument reads behind the call as it read before; the package variables homes and rounds hold what their initialisers lay (the card ties them to the text).
-/
namespace Go.Proofs.YtmonkcekkhfafaaGreatDoor.encVotes
open Go.ChangeShapes Go.WideShapes Go.ChangeAt Go.RowKit

set_option maxHeartbeats 4000000 in
set_option maxRecDepth 100000 in
theorem contract (H : Type) (enc : TypeId × Value → H) (W : World) (base : Nat) (args : Array Value) (ds gs : List (DataW H)) (before : List MemPlace)
    (hval : ∀ (j : Nat) t v, Tryz.f8.params[j]? = some t → args[j]? = some v → Value.okWide Tryz.prog W .any base t v)
    (hW : DataW.Whole enc Tryz.prog Tryz.f8.params.toList Rows.encVotesSpec.vars false W args.toList ds gs before) (hL : laidMetH Tryz.prog Rows.encVotesRow.laid W) :
    Calls Tryz.prog 8 args W fun e W' => ∃ v, e = .returned v ∧ Rows.encVotesSpec.post enc Tryz.prog Tryz.f8 false true false false W args v W' := by
  have hR : Reg.Tab W := Reg.tab_of (L := Rows.encVotesRow.laid) hL (.tail _ (.head _))
  have hM : Tab W := tab_of (L := Rows.encVotesRow.laid) hL (.head _)
  have hW' := hW
  obtain ⟨p, q, hA0, hV, rfl, hfz, hnd⟩ := hW
  have hA : DataW.TrodAll enc Tryz.prog W 0 (fun _ => true) true Tryz.f8.params.toList args.toList ds p := hA0
  rw [Tryz.params8] at hA hval
  obtain ⟨v0, vs0, d0, ds0, p0, q0, hargs, rfl, rfl, h0, r0⟩ := trodAll_cons hA
  obtain ⟨v1, vs1, d1, ds1, p1, q1, rfl, rfl, rfl, h1, r1⟩ := trodAll_cons r0
  obtain ⟨v2, vs2, d2, ds2, p2, q2, rfl, rfl, rfl, h2, r2⟩ := trodAll_cons r1
  obtain ⟨v3, vs3, d3, ds3, p3, q3, rfl, rfl, rfl, h3, r3⟩ := trodAll_cons r2
  obtain ⟨rfl, rfl, rfl⟩ := trodAll_nil r3
  obtain rfl : args = #[v0, v1, v2, v3] := by cases args; simp_all
  obtain ⟨a0, rfl, _, _, w0⟩ := open_int Tryz.underlying3 (hval 0 3 v0 rfl rfl) h0
  obtain ⟨s1, n1, c1, rfl, k1⟩ := Law.open_ts (hval 1 25 v1 rfl rfl) h1
  obtain ⟨a2, rfl, _, _, w2⟩ := open_int Tryz.underlying3 (hval 2 3 v2 rfl rfl) h2
  obtain ⟨a3, rfl, _, _, w3⟩ := open_int Tryz.underlying3 (hval 3 3 v3 rfl rfl) h3
  refine (Enc.votes_walk a0 a2 a3 s1 n1 c1 W hR hM (Law.i64_of w0) k1 (Law.i64_of w2) (Law.i64_of w3)).mono fun e W' ⟨he, hg⟩ => ?_
  subst he
  exact ⟨_, rfl, Law.told hW' rfl rfl rfl (by kernel_rfl) hg⟩

def fill (cs : Array Value) : Obj → Obj
  | .cells _ t frozen => .cells cs t frozen
  | o => o
noncomputable def laidHeap (h : Array Obj) : Array Obj := Array.modify (Array.modify h 0 (fill #[.int .i64 0, .int .i64 0, .int .i64 1, .int .i64 0, .int .i64 1, .int .i64 2, .int .i64 1, .int .i64 4, .int .i64 2, .int .i64 4, .int .i64 9, .int .i64 1])) 1 (fill #[.int .u64 30, .int .u64 13787848793156543929, .int .u64 10871156337175269513, .int .u64 27, .int .u64 10723151780598845931, .int .u64 3573116690164977347, .int .u64 31, .int .u64 1, .int .u64 1])
noncomputable def laidWorld (os : Os) : World := { World.holding Tryz.prog os ⟨#[], #[], []⟩ with heap := laidHeap (World.holding Tryz.prog os ⟨#[], #[], []⟩).heap }
theorem laid_met (os : Os) : laidMet Tryz.prog Rows.encVotesRow.laid ((laidWorld os).forCall (fun _ _ => 0) ⟨#[], #[.int .i64 0, .slice none 0 0, .int .i64 0, .int .i64 0], []⟩).memory :=
  laidMet_of_run' 8 (by kernel_rfl) (by kernel_rfl)
theorem reads (os : Os) {H : Type} (enc : TypeId × Value → H) : ∃ places, DataW.whole enc Tryz.prog ((laidWorld os).forCall (fun _ _ => 0) ⟨#[], #[.int .i64 0, .slice none 0 0, .int .i64 0, .int .i64 0], []⟩).memory Tryz.f8.params.toList Rows.encVotesSpec.vars false (#[.int .i64 0, .slice none 0 0, .int .i64 0, .int .i64 0] : Array Value).toList 8 = some ([.lit (.int .i64 0), .nil, .lit (.int .i64 0), .lit (.int .i64 0)], [], places) :=
  ⟨[], by kernel_rfl⟩

set_option maxRecDepth 100000 in
theorem lifted (os : Os) (started : os.Started) (H : Type) (enc : TypeId × Value → H) (F : Stop.Interp) :
    ReturnsInHanded {} Tryz.checked os 8 .any ((OpenSpec.ofChange Rows.encVotesSpec).preRow enc Tryz.prog Tryz.f8 Rows.encVotesRow.domain false Rows.encVotesRow.laid) (((OpenSpec.ofChange Rows.encVotesSpec).at F).post enc Tryz.prog Tryz.f8 false true false false) := by
  obtain ⟨places, hx⟩ := reads os enc
  refine returnsInHanded_of_row (C := Tryz.checked) (s := OpenSpec.ofChange Rows.encVotesSpec) Law.own started (by kernel_rfl) Tryz.func8
    (witness_row_at (enc := enc) (C := Tryz.checked) false (laidWorld os) #[.int .i64 0, .slice none 0 0, .int .i64 0, .int .i64 0] rfl (by kernel_rfl) (by kernel_rfl) (by kernel_rfl)
      (OpenSpec.preRow_of_cond 8 hx (by kernel_rfl) (fun k hk => by cases hk) (by kernel_rfl) (laid_met os))) ?_
  intro W base args ds gs before hval hW _ _ _ hL _ _
  exact contract H enc W base args ds gs before hval hW hL

theorem said : Rows.EncVotesSaid :=
  OpenClaim.holds_of_cond 8 Tryz.f8 rfl rfl rfl rfl rfl rfl rfl ⟨rfl, rfl, rfl, rfl, rfl⟩ rfl rfl rfl rfl rfl (by kernel_rfl) Tryz.func8 (by kernel_rfl)
    (of_decide_eq_true (by kernel_rfl)) (by unfold Func.isWrapper; first | (rw [if_pos (by decide +kernel)]; kernel_rfl) | (rw [if_neg (by decide +kernel)]; exact ⟨rfl, rfl⟩))
    (fun os started H enc _ F => by rw [OpenClaim.pre_eq_preRow]; exact lifted os started H enc F)

theorem plain (f : FuncId) (fn : Func) (hf : Tryz.pinned.checked.prog.funcNamed "whitewash/whitewashlaw10.EncVotes" = some f) (hfn : Tryz.pinned.checked.prog.funcs[f]? = some fn) :
    false = Tryz.pinned.checked.prog.looks [] ∧ ∀ (j : Nat) t, fn.params[j]? = some t → Tryz.pinned.checked.prog.wantsStandIn t = false := by
  obtain rfl : f = 8 := Option.some.inj ((show Tryz.prog.funcNamed "whitewash/whitewashlaw10.EncVotes" = some 8 by kernel_rfl).symm.trans hf) |>.symm
  obtain rfl : fn = Tryz.f8 := (Option.some.inj (Tryz.func8.symm.trans hfn)).symm
  refine ⟨by kernel_rfl, fun j t ht => ?_⟩
  rw [Tryz.params8] at ht
  have hm : t ∈ [3, 25, 3, 3] := by simpa using Array.mem_of_getElem? ht
  have hall : ([3, 25, 3, 3].all fun u => !Tryz.prog.wantsStandIn u) = true := by kernel_rfl
  exact (show Tryz.prog.wantsStandIn t = false by simpa using List.all_eq_true.1 hall t hm)

theorem card : Rows.EncVotesCardSaid :=
  Claim7.holds_tied_plain_at .later [] _ _ _ _ said (fun _ h => by cases h) (by kernel_rfl) (fun _ h => by cases h) encVotes_row_tie rfl ⟨rfl, rfl⟩ (by kernel_rfl) rfl plain (by kernel_rfl)
end Go.Proofs.YtmonkcekkhfafaaGreatDoor.encVotes

namespace Go.Proofs.YtmonkcekkhfafaaGreatDoor
theorem encVotes_holds : Rows.EncVotesCardSaid := encVotes.card
end Go.Proofs.YtmonkcekkhfafaaGreatDoor

