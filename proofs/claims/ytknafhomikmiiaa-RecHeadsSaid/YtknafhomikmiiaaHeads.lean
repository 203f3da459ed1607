/-
  RecHeads, walked: it returns true for every two pairs of ints and every word, and leaves memory as it was, but for new blocks. Condition: the integers are of their kinds.
-/
import Derived.Test.YtknafhomikmiiaaBack
import Derived.Deep.CutRange
namespace Go.Proofs.Ytknafhomikmiiaa
open Go.RowKit (Below intOf)

/-- Head, by what it tells; Phase, of a head's word. -/
theorem head_to (ph p X E : Int) (w : World) (hX : RowKit.Hid (gate (okH ph p) (2 * p + ph) = X)) (hE : RowKit.Hid (fail (okH ph p) 1 = E)) : Calls Try.prog 19 #[.int .i64 ph, .int .i64 p] w fun e w' => e = .returned (.tuple #[.int .u64 X, .int .i64 E]) ∧ w = w' := by
  rw [← hX.out, ← hE.out]; exact head_any ph p w
theorem phase_in (x : Int) (w : World) (h0 : 0 ≤ x) (h1 : x ≤ 32) : Calls Try.prog 16 #[.int .u64 x] w fun e w' => ∃ ph o : Int, e = .returned (.tuple #[.int .i64 ph, .int .i64 o, .int .i64 0]) ∧ w = w' ∧ 0 ≤ o ∧ o ≤ 15 := by
  by_cases h : x = 0
  · subst h; exact (phase_home w).mono fun _ _ h => ⟨0, 0, h.1, h.2, by omega, by omega⟩
  · exact (phase_yes x w (by omega) h1).mono fun _ _ h => ⟨_, _, h.1, h.2, by omega, by omega⟩

/-- What the heads of two tell. -/
def Two (s p t q X Y E F : Int) : Prop :=
  gate (okH s p) (2 * p + s) = X ∧ fail (okH s p) 1 = E ∧ gate (okH t q) (2 * q + t) = Y ∧ fail (okH t q) 1 = F ∧ 0 ≤ X ∧ X ≤ 32 ∧ 0 ≤ Y ∧ Y ≤ 32 ∧
  ((E = 0 ∧ (s != 0) = true) ∨ (E = 0 ∧ s = 0 ∧ p = 0) ∨ (E = 1 ∧ s = 0 ∧ (p == 0) = false)) ∧
  ((F = 0 ∧ (t != 0) = true) ∨ (F = 0 ∧ t = 0 ∧ q = 0) ∨ (F = 1 ∧ t = 0 ∧ (q == 0) = false)) ∧
  (E = 0 → F = 0 → ((X == Y) = true ∧ s = t ∧ p = q) ∨ ((X == Y) = false ∧ (s == t) = false) ∨ ((X == Y) = false ∧ s = t ∧ (p == q) = false))
theorem one_head (s p : Int) (s0 : 0 ≤ s) (s1 : s < 3) (p0 : 0 ≤ p) (p1 : p < 16) : ∃ X E, gate (okH s p) (2 * p + s) = X ∧ fail (okH s p) 1 = E ∧ 0 ≤ X ∧ X ≤ 32 ∧ ((E = 0 ∧ (s != 0) = true ∧ X = 2 * p + s) ∨ (E = 0 ∧ s = 0 ∧ p = 0 ∧ X = 0) ∨ (E = 1 ∧ s = 0 ∧ (p == 0) = false)) := by
  by_cases h : s = 0
  · subst h
    by_cases k : p = 0
    · subst k; exact ⟨0, 0, rfl, rfl, by omega, by omega, Or.inr (Or.inl ⟨rfl, rfl, rfl, rfl⟩)⟩
    · have e : okH 0 p = false := by simp [okH, k]
      rw [e]
      exact ⟨0, 1, rfl, rfl, by omega, by omega, Or.inr (Or.inr ⟨rfl, rfl, by simpa using k⟩)⟩
  · have e : okH s p = true := by
      simp [okH, if_neg h, wi_yes (n := s) (a := 0) (b := 2) (by omega) (by omega), wi_yes (n := p) (a := 0) (b := 15) (by omega) (by omega)]
    rw [e]
    exact ⟨2 * p + s, 0, rfl, rfl, by omega, by omega, Or.inl ⟨rfl, by simpa using h, rfl⟩⟩
theorem two_heads (s p t q : Int) (s0 : 0 ≤ s) (s1 : s < 3) (p0 : 0 ≤ p) (p1 : p < 16) (t0 : 0 ≤ t) (t1 : t < 3) (q0 : 0 ≤ q) (q1 : q < 16) : ∃ X Y E F, Two s p t q X Y E F := by
  obtain ⟨X, E, a1, a2, a3, a4, a5⟩ := one_head s p s0 s1 p0 p1
  obtain ⟨Y, F, b1, b2, b3, b4, b5⟩ := one_head t q t0 t1 q0 q1
  refine ⟨X, Y, E, F, a1, a2, b1, b2, a3, a4, b3, b4, ?_, ?_, ?_⟩
  · rcases a5 with h | h | h
    · exact Or.inl ⟨h.1, h.2.1⟩
    · exact Or.inr (Or.inl ⟨h.1, h.2.1, h.2.2.1⟩)
    · exact Or.inr (Or.inr h)
  · rcases b5 with h | h | h
    · exact Or.inl ⟨h.1, h.2.1⟩
    · exact Or.inr (Or.inl ⟨h.1, h.2.1, h.2.2.1⟩)
    · exact Or.inr (Or.inr h)
  · intro hE hF
    have hX : X = 2 * p + s := by rcases a5 with h | h | h <;> omega
    have hY : Y = 2 * q + t := by rcases b5 with h | h | h <;> omega
    have hs : (s = 0 → p = 0) := by
      intro e
      rcases a5 with h | h | h
      · simp [e] at h
      · exact h.2.2.1
      · omega
    have ht : (t = 0 → q = 0) := by
      intro e
      rcases b5 with h | h | h
      · simp [e] at h
      · exact h.2.2.1
      · omega
    by_cases e : s = t
    · by_cases f : p = q
      · exact Or.inl ⟨by simp; omega, e, f⟩
      · exact Or.inr (Or.inr ⟨by simp; omega, e, by simpa using f⟩)
    · exact Or.inr (Or.inl ⟨by simp; by_cases s = 0 <;> by_cases t = 0 <;> omega, by simpa using e⟩)

set_option maxRecDepth 100000 in
set_option maxHeartbeats 8000000 in
theorem heads_walk (one0 one1 two0 two1 x : Int) (w : World) (hA : I64 one0) (hB : I64 one1) (hC : I64 two0) (hD : I64 two1) (hx : U64 x) :
    Calls Try.prog 6 #[.agg #[.int .i64 one0, .int .i64 one1], .agg #[.int .i64 two0, .int .i64 two1], .int .u64 x] w fun e w' => e = .returned (.bool true) ∧ Ext w w' := by
  obtain ⟨s, e1, s0, s1⟩ := pick_is one0 3 (by omega)
  obtain ⟨t, e2, t0, t1⟩ := pick_is two0 3 (by omega)
  obtain ⟨p, e3, p0, p1⟩ := pick_is one1 16 (by omega)
  obtain ⟨q, e4, q0, q1⟩ := pick_is two1 16 (by omega)
  obtain ⟨X, Y, E, F, k1, k2, k3, k4, X0, X1, Y0, Y1, c1, c2, c3⟩ := two_heads s p t q s0 s1 p0 p1 t0 t1 q0 q1
  replace k1 := Lib.hid k1
  replace k2 := Lib.hid k2
  replace k3 := Lib.hid k3
  replace k4 := Lib.hid k4
  unfold U64 at hx
  clear s0 s1 t0 t1 p0 p1 q0 q1
  go_enter Try.func6, Try.ntmps6
  go_wp2_with (fail)
  refine (awake_any _).mono ?_
  rintro e w1 ⟨rfl, hE⟩
  obtain ⟨l1, l2⟩ := lay hE
  have HE := Lib.hid ((((Ext.refl w).alloc _).alloc _).trans hE)
  clear hE l2
  replace c1 := Lib.hid c1
  replace c2 := Lib.hid c2
  replace c3 := Lib.hid c3
  go_upto_region 8 with (first
    | (go_at_call 18; with_reducible refine (pick_to _ _ _ _ hA (by omega) (by omega) e1).mono ?_; rintro e w' ⟨rfl, rfl⟩)
    | (go_at_call 18; with_reducible refine (pick_to _ _ _ _ hC (by omega) (by omega) e2).mono ?_; rintro e w' ⟨rfl, rfl⟩)
    | (go_at_call 18; with_reducible refine (pick_to _ _ _ _ hB (by omega) (by omega) e3).mono ?_; rintro e w' ⟨rfl, rfl⟩)
    | (go_at_call 18; with_reducible refine (pick_to _ _ _ _ hD (by omega) (by omega) e4).mono ?_; rintro e w' ⟨rfl, rfl⟩)
    | (go_at_call 19; with_reducible refine (head_to _ _ _ _ _ k1 k2).mono ?_; rintro e w' ⟨rfl, rfl⟩)
    | (go_at_call 19; with_reducible refine (head_to _ _ _ _ _ k3 k4).mono ?_; rintro e w' ⟨rfl, rfl⟩))
  clear l1 k1 k2 k3 k4 e1 e2 e3 e4
  go_cut [65] from 46 to 65 (fun b wx => b = .bool false ∧ w1 = wx)
  case first =>
    rcases c1.out with ⟨rfl, f1⟩ | ⟨rfl, rfl, rfl⟩ | ⟨rfl, rfl, f1⟩
    all_goals rcases c2.out with ⟨rfl, f2⟩ | ⟨rfl, rfl, rfl⟩ | ⟨rfl, rfl, f2⟩
    all_goals
      go_wp2
      go_meet
      exact ⟨rfl, rfl⟩
  case rest =>
    obtain ⟨rfl, rfl⟩ := hcut
    go_upto_region 10 with (fail)
    go_cut [85] from 66 to 85 (fun b wx => b = .bool false ∧ w1 = wx)
    case first =>
      have c4 : E = 1 ∨ (E = 0 ∧ F = 1) ∨ (E = 0 ∧ F = 0) := by
        have h1 := c1.out
        have h2 := c2.out
        omega
      rcases c4 with rfl | ⟨rfl, rfl⟩ | ⟨rfl, rfl⟩
      · go_wp2
        go_meet
        exact ⟨rfl, rfl⟩
      · go_wp2
        go_meet
        exact ⟨rfl, rfl⟩
      · rcases c3.out rfl rfl with ⟨f3, rfl, rfl⟩ | ⟨f3, f4⟩ | ⟨f3, rfl, f4⟩
        all_goals
          go_wp2
          go_meet
          exact ⟨rfl, rfl⟩
    case rest =>
      obtain ⟨rfl, rfl⟩ := hcut
      go_wp2_with (fail)
      go_loop [91] (fun i => ∃ z : Int, (z = 0 ∨ z = 1 ∨ z = 2) ∧ i = .int .i64 z) (fun i => (2 - intOf i).toNat)
      case atStart => exact ⟨0, Or.inl rfl, rfl⟩
      case round =>
        obtain ⟨z, hz, rfl⟩ := hrel
        rcases hz with rfl | rfl | rfl
        · rcases (by omega : x ≤ 32 ∨ 32 < x) with hx1 | hx1
          · have hd : decide (x ≤ 32) = true := by simpa using hx1
            go_wp2_with (go_at_call 16; with_reducible refine (phase_in _ _ (by omega) (by omega)).mono ?_; rintro e w' ⟨ph, o, rfl, rfl, o0, o1⟩)
            go_round
            case rel => exact ⟨1, Or.inr (Or.inl rfl), rfl⟩
            case measure => simp [intOf]
          · have hd : decide (x ≤ 32) = false := by simpa using hx1
            have hw := wi_no (n := x) (a := 0) (b := 32) (Or.inr hx1)
            go_wp2_with (go_at_call 16; with_reducible refine (phase_no _ _ (by assumption)).mono ?_; rintro e w' ⟨rfl, rfl⟩)
            go_round
            case rel => exact ⟨1, Or.inr (Or.inl rfl), rfl⟩
            case measure => simp [intOf]
        · rcases (by omega : x % 40 ≤ 32 ∨ 32 < x % 40) with hx1 | hx1
          · have hd : decide (x % 40 ≤ 32) = true := by simpa using hx1
            go_wp2_with (go_at_call 16; with_reducible refine (phase_in _ _ (by omega) (by omega)).mono ?_; rintro e w' ⟨ph, o, rfl, rfl, o0, o1⟩)
            go_round
            case rel => exact ⟨2, Or.inr (Or.inr rfl), rfl⟩
            case measure => simp [intOf]
          · have hd : decide (x % 40 ≤ 32) = false := by simpa using hx1
            have hw := wi_no (n := x % 40) (a := 0) (b := 32) (Or.inr hx1)
            go_wp2_with (go_at_call 16; with_reducible refine (phase_no _ _ (by assumption)).mono ?_; rintro e w' ⟨rfl, rfl⟩)
            go_round
            case rel => exact ⟨2, Or.inr (Or.inr rfl), rfl⟩
            case measure => simp [intOf]
        · go_wp2
          go_ret
          exact ⟨rfl, HE.out.alloc _⟩

end Go.Proofs.Ytknafhomikmiiaa
