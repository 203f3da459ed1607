/-
  Parts of a proof, one behind the other: AutSame, AutKeys, AutRight, FltRound, FltJam, FltMade, FltAdd, FltTwo. Each says its own conditions.
-/
import Derived.Test.YtojdhnecafkibaaM03
import Derived.Laws.StructEq
import Ieee.Arith
import Derived.Deep.Cut

/- AutSame:
  What the document's Same and Told return: whether two states, or two lists of answers, are the same. Condition: their slices are there.
-/
namespace Go.Proofs.Ytojdhnecafkibaa.Aut
open Go.RowKit (Below intOf)
open Reg (cf bx)

set_option maxHeartbeats 4000000 in
set_option maxRecDepth 100000 in
theorem same_any (a v t a' v' t' : Sl) (s s' : St) (r : Bool) (w : World) (hS : SS w a v t s) (hS' : SS w a' v' t' s') (hr : RowKit.Hid (r = decide (s = s'))) :
    Calls Try.prog 12 #[sv s.reg a v t s.closed, sv s'.reg a' v' t' s'.closed] w fun e w' => e = .returned (.bool r) ∧ Ext w w' := by
  obtain ⟨ka, kn, kc⟩ := a
  obtain ⟨va, vn, vc⟩ := v
  obtain ⟨ta, n, tc⟩ := t
  obtain ⟨rg, ks, vs, vt, cl⟩ := s
  obtain ⟨ka', kn', kc'⟩ := a'
  obtain ⟨va', vn', vc'⟩ := v'
  obtain ⟨ta', n', tc'⟩ := t'
  obtain ⟨rg', ks', vs', vt', cl'⟩ := s'
  obtain ⟨_, hK, hV, hT⟩ := hS
  obtain ⟨_, hK', hV', hT'⟩ := hS'
  dsimp only [sv] at *
  have hn := hT.le
  have hn' := hT'.le
  have hq : RowKit.Hid (r = (decide (vt = vt') && (decide (rg = rg') && (decide (cl = cl') && (decide (ks = ks') && decide (vs = vs')))))) := Lib.hid (by
    rw [hr.out]
    by_cases h1 : vt = vt' <;> by_cases h2 : rg = rg' <;> by_cases h3 : cl = cl' <;> by_cases h4 : ks = ks' <;> by_cases h5 : vs = vs' <;> simp [h1, h2, h3, h4, h5])
  have HK := Lib.hid hK
  have HV := Lib.hid hV
  have HT := Lib.hid hT
  have HK' := Lib.hid hK'
  have HV' := Lib.hid hV'
  have HT' := Lib.hid hT'
  clear hK hV hT hK' hV' hT' hr
  have HE0 : RowKit.Hid (Ext w ((w.alloc (.cells #[.int .u64 rg, .slice ka kn kc, .slice va vn vc, .slice ta n tc, .bool cl] 31)).alloc (.cells #[.int .u64 rg', .slice ka' kn' kc', .slice va' vn' vc', .slice ta' n' tc', .bool cl'] 31))) := Lib.hid ((Ext.new w _).alloc _)
  by_cases hnm : n = n'
  · subst hnm
    have hnn : (n != n) = false := by simp
    go_enter Try.func12, Try.ntmps12
    go_wp2_with (fail)
    go_loopw [5] (fun i w' => ∃ k q : Nat, k ≤ n ∧ i = .int .i64 k ∧ w' = ((w.alloc (.cells #[.int .u64 rg, .slice ka kn kc, .slice va vn vc, .slice ta n tc, .bool cl] 31)).alloc (.cells #[.int .u64 rg', .slice ka' kn' kc', .slice va' vn' vc', .slice ta' n tc', .bool cl'] 31)).drewN q ∧ RowKit.Hid (∀ j, j < k → vt[j]? = vt'[j]?)) (fun i _ => n - (intOf i).toNat)
    case atStart => exact ⟨0, 0, by omega, rfl, rfl, Lib.hid (fun j hj => by omega)⟩
    case round =>
      obtain ⟨k, q, hk, rfl, rfl, hz⟩ := hrel
      by_cases hlt : k < n
      · obtain ⟨p, hx, _, b, o, rfl, hc⟩ := HT.out.get hlt
        obtain ⟨p', hy, _, b2, o2, rfl, hd⟩ := HT'.out.get hlt
        have hc2 := HE0.out.cell hc
        have hd2 := HE0.out.cell hd
        have HX := Lib.hid hx
        have HY := Lib.hid hy
        clear hx hy hc hd
        by_cases hp : p = p'
        · subst hp
          have hb1 : (p != p) = false := by simp
          go_wp2_with (fail)
          go_quiet (fail)
          go_wp2
          go_roundw
          case rel => exact ⟨k + 1, q + nq, by omega, by go_num, rfl, Lib.hid (fun j hj => by
            by_cases e : j = k
            · subst e; rw [HX.out, HY.out]
            · exact hz.out j (by omega))⟩
          case measure => simp [intOf]; omega
        · have hb : (p != p') = true := by simpa using hp
          have HN : RowKit.Hid (r = false) := Lib.hid (by rw [hq.out, decide_eq_false (ne_at HX.out HY.out hp)]; rfl)
          clear hp
          go_wp2_with (fail)
          go_quiet (fail)
          go_wp2
          go_ret
          exact ⟨ret_bool HN.out.symm, (HE0.out.drewN q).drewN nq⟩
      · obtain rfl : k = n := by omega
        have hvt : vt = vt' := eq_all HT.out.len HT'.out.len hz.out
        have hq2 : RowKit.Hid (r = (decide (rg = rg') && (decide (cl = cl') && (decide (ks = ks') && decide (vs = vs'))))) := Lib.hid (by rw [hq.out, decide_eq_true hvt, Bool.true_and])
        clear hvt hq
        by_cases h2 : rg = rg'
        · have hq3 : RowKit.Hid (r = (decide (cl = cl') && (decide (ks = ks') && decide (vs = vs')))) := Lib.hid (by rw [hq2.out, decide_eq_true h2, Bool.true_and])
          subst h2
          have hb2 : (rg == rg) = true := by simp
          clear hq2
          by_cases h3 : cl = cl'
          · have hq4 : RowKit.Hid (r = (decide (ks = ks') && decide (vs = vs'))) := Lib.hid (by rw [hq3.out, decide_eq_true h3, Bool.true_and])
            subst h3
            have hb3 : (cl == cl) = true := by simp
            have hWq := HE0.out.drewN q
            have HWq := Lib.hid hWq
            have hW1 := fun rr W (hW : Ext w W) hr => words_any ka ka' kn kn' kc kc' ks ks' rr W (HK.out.ext hW) (HK'.out.ext hW) hr
            have hW2 := fun rr W (hW : Ext w W) hr => words_any va va' vn vn' vc vc' vs vs' rr W (HV.out.ext hW) (HV'.out.ext hW) hr
            clear hq3 hWq
            by_cases h4 : ks = ks'
            · have hq5 : RowKit.Hid (r = decide (vs = vs')) := Lib.hid (by rw [hq4.out, decide_eq_true h4, Bool.true_and])
              have H4 : RowKit.Hid (true = decide (ks = ks')) := Lib.hid (by rw [decide_eq_true h4])
              clear h4
              go_wp2_with (fail)
              refine (hW1 true _ HWq.out H4).mono ?_
              rintro e w1 ⟨rfl, hE1⟩
              obtain ⟨l1, l2⟩ := lay hE1
              have hs1 : w.heap.size + 1 < w1.heap.size := by have := hE1.size; simp at this; omega
              have hs0 : w.heap.size < w1.heap.size := by omega
              have HE1 := Lib.hid (HWq.out.trans hE1)
              clear hE1
              go_wp2_with (fail)
              refine (hW2 r _ HE1.out hq5).mono ?_
              rintro e w2 ⟨rfl, hE2⟩
              go_wp2_with (fail)
              go_ret
              exact ⟨rfl, HE1.out.trans hE2⟩
            · have hq5 : RowKit.Hid (r = false) := Lib.hid (by rw [hq4.out, decide_eq_false h4]; rfl)
              have H4 : RowKit.Hid (false = decide (ks = ks')) := Lib.hid (by rw [decide_eq_false h4])
              clear h4
              go_wp2_with (fail)
              refine (hW1 false _ HWq.out H4).mono ?_
              rintro e w1 ⟨rfl, hE1⟩
              go_wp2_with (fail)
              go_ret
              exact ⟨ret_bool hq5.out.symm, HWq.out.trans hE1⟩
          · have hb3 : (cl == cl') = false := by simpa using h3
            have hq4 : RowKit.Hid (r = false) := Lib.hid (by rw [hq3.out, decide_eq_false h3]; rfl)
            clear h3
            go_wp2_with (fail)
            go_ret
            exact ⟨ret_bool hq4.out.symm, HE0.out.drewN q⟩
        · have hb2 : (rg == rg') = false := by simpa using h2
          have hq4 : RowKit.Hid (r = false) := Lib.hid (by rw [hq2.out, decide_eq_false h2]; rfl)
          clear h2
          go_wp2_with (fail)
          go_ret
          exact ⟨ret_bool hq4.out.symm, HE0.out.drewN q⟩
  · have hb : ((n : Int) != (n' : Int)) = true := by simp; omega
    have hb2 : (n != n') = true := by simpa using hnm
    have hq4 : RowKit.Hid (r = false) := Lib.hid (by rw [hq.out, decide_eq_false (fun e => hnm (by rw [← HT.out.len, ← HT'.out.len, e]))]; rfl)
    go_enter Try.func12, Try.ntmps12
    go_wp2
    go_ret
    exact ⟨ret_bool hq4.out.symm, HE0.out⟩

theorem eqR (a b x y : Int) (w : World) : (Op.equalIn 10000 41 (.agg #[.int .i64 a, .int .u64 b]) (.agg #[.int .i64 x, .int .u64 y])).run Try.prog w = .ok ((a == x) && (b == y)) w := by
  by_cases h1 : a = x <;> by_cases h2 : b = y <;> simp [go_sem, h1, h2]
theorem eqO (a b c x y z : Int) (w : World) : (Op.equalIn 10000 39 (.agg #[.int .i64 a, .int .u64 b, .int .u64 c]) (.agg #[.int .i64 x, .int .u64 y, .int .u64 z])).run Try.prog w = .ok ((a == x) && (b == y) && (c == z)) w := by
  by_cases h1 : a = x <;> by_cases h2 : b = y <;> by_cases h3 : c = z <;> simp [go_sem, h1, h2, h3]

set_option maxHeartbeats 1000000 in
/-- The document's Told. -/
theorem told_any (s1 s2 : Option Addr) (n m c1 c2 : Nat) (xs ys : List Rs) (r : Bool) (w : World) (h1 : RS w s1 n c1 xs) (h2 : RS w s2 m c2 ys) (hr : RowKit.Hid (r = decide (xs = ys))) :
    Calls Try.prog 11 #[.slice s1 n c1, .slice s2 m c2] w fun e w' => e = .returned (.bool r) ∧ ∃ q, w' = w.drewN q := by
  have hn := h1.le
  have hm := h2.le
  have H1 := Lib.hid h1
  have H2 := Lib.hid h2
  clear h1 h2
  by_cases hnm : n = m
  · subst hnm
    go_enter Try.func11, Try.ntmps11
    go_wp2_with (fail)
    go_loopw [5] (fun i w' => ∃ k q : Nat, k ≤ n ∧ i = .int .i64 k ∧ w' = w.drewN q ∧ RowKit.Hid (∀ j, j < k → xs[j]? = ys[j]?)) (fun i _ => n - (intOf i).toNat)
    case atStart => exact ⟨0, 0, by omega, rfl, rfl, Lib.hid (fun j hj => by omega)⟩
    case round =>
      obtain ⟨k, q, hk, rfl, rfl, hz⟩ := hrel
      by_cases hlt : k < n
      · obtain ⟨⟨p, x⟩, hx, _, b, o, rfl, hc, hc'⟩ := H1.out.get hlt
        obtain ⟨⟨p', y⟩, hy, _, b2, o2, rfl, hd, hd'⟩ := H2.out.get hlt
        have HX := Lib.hid hx
        have HY := Lib.hid hy
        clear hx hy
        have q2 := eqR p x p' y
        by_cases hp : p = p' ∧ x = y
        · obtain ⟨rfl, rfl⟩ := hp
          have hb1 : (p == p) = true := by simp
          have hb2 : (x == x) = true := by simp
          rw [hb1, hb2] at q2
          go_wp2_with (fail)
          go_quiet (fail)
          go_wp2
          go_roundw
          case rel => exact ⟨k + 1, q + nq, by omega, by go_num, rfl, Lib.hid (fun j hj => by
            by_cases e : j = k
            · subst e; rw [HX.out, HY.out]
            · exact hz.out j (by omega))⟩
          case measure => simp [intOf]; omega
        · have hb : ((p == p') && (x == y)) = false := by
            rw [Bool.and_eq_false_iff]
            by_cases e : p = p'
            · exact .inr (by simpa using fun e2 => hp ⟨e, e2⟩)
            · exact .inl (by simpa using e)
          rw [hb] at q2
          have HN : RowKit.Hid ((p, x) ≠ (p', y)) := Lib.hid (fun e => hp (by cases e; exact ⟨rfl, rfl⟩))
          clear hp hb
          go_wp2_with (fail)
          go_quiet (fail)
          go_wp2
          go_ret
          exact ⟨ret_bool (by rw [hr.out, decide_eq_false (ne_at HX.out HY.out HN.out)]), q + nq, World.drewN_drewN _ _ _⟩
      · obtain rfl : k = n := by omega
        go_wp2
        go_ret
        exact ⟨ret_bool (by rw [hr.out, decide_eq_true (eq_all H1.out.len H2.out.len hz.out)]), _, rfl⟩
  · have hb : ((n : Int) != (m : Int)) = true := by simp; omega
    have hb2 : (n != m) = true := by simpa using hnm
    go_enter Try.func11, Try.ntmps11
    go_wp2
    go_ret
    exact ⟨ret_bool (by rw [hr.out, decide_eq_false (fun e => hnm (by rw [← H1.out.len, ← H2.out.len, e]))]), 0, rfl⟩

end Go.Proofs.Ytojdhnecafkibaa.Aut

/- AutKeys:
  What the document's keys returns: whether a state's keys are right. Conditions: integers' bounds; the state's slices are there.
-/
namespace Go.Proofs.Ytojdhnecafkibaa.Aut
open Go.RowKit (Below intOf)
open Reg (cf bx)

/-- The first i keys are right. -/
def UpTo (k : Int) (ks : List Int) (i : Nat) : Prop := (∀ (j : Nat) x, j < i → ks[j]? = some x → meantK k x = x ∧ mayK k x = true) ∧ ∀ (j : Nat) x y, j + 1 < i → ks[j]? = some x → ks[j + 1]? = some y → ordK k x < ordK k y
theorem upto_all {k : Int} {ks : List Int} (h : UpTo k ks ks.length) : (∀ x ∈ ks, meantK k x = x ∧ mayK k x = true) ∧ RisingK k ks := by
  refine ⟨fun x hx => ?_, ?_⟩
  · obtain ⟨j, hj⟩ := List.mem_iff_getElem?.1 hx
    exact h.1 j x (List.getElem?_eq_some_iff.1 hj).1 hj
  · have key : ∀ (d i : Nat) x y, ks[i]? = some x → ks[i + d + 1]? = some y → ordK k x < ordK k y := by
      intro d
      induction d with
      | zero => exact fun i x y hx hy => h.2 i x y (List.getElem?_eq_some_iff.1 hy).1 hx hy
      | succ d ih =>
        intro i x y hx hy
        have hl := (List.getElem?_eq_some_iff.1 hy).1
        have hm : ks[i + d + 1]? = some (ks[i + d + 1]'(by omega)) := List.getElem?_eq_getElem (by omega)
        have h1 := ih i x _ hx hm
        have h2 := h.2 (i + d + 1) _ y hl hm hy
        omega
    exact rising_iff.2 fun i j x y hij hi hj => key (j - i - 1) i x y hi (by rw [show i + (j - i - 1) + 1 = j by omega]; exact hj)
theorem upto_snoc {k : Int} {ks : List Int} {i : Nat} {x : Int} (h : UpTo k ks i) (hx : ks[i]? = some x) (h1 : meantK k x = x) (h2 : mayK k x = true) (h3 : ∀ y, 0 < i → ks[i - 1]? = some y → ordK k y < ordK k x) : UpTo k ks (i + 1) := by
  refine ⟨fun j y hj hy => ?_, fun j y z hj hy hz => ?_⟩
  · by_cases e : j = i
    · subst e; rw [hx] at hy; cases hy; exact ⟨h1, h2⟩
    · exact h.1 j y (by omega) hy
  · by_cases e : j + 1 = i
    · subst e; rw [hx] at hz; cases hz; exact h3 y (by omega) (by simpa using hy)
    · exact h.2 j y z (by omega) hy hz



end Go.Proofs.Ytojdhnecafkibaa.Aut

/- AutRight:
  What the document's Right returns: whether a state is right. Conditions: integers' bounds; the state's slices are there.
-/
namespace Go.Proofs.Ytojdhnecafkibaa.Aut
open Go.RowKit (Below intOf)
open Reg (cf bx)

theorem else_keys {k : Int} {s : St} (hk : keyed k = false) (h : s.keys.length + s.vals.length ≠ 0) : ¬ ElseOk k s := fun he => by
  rcases he.2.1 with h1 | ⟨h1, h2⟩
  · rw [hk] at h1; cases h1
  · rw [h1, h2] at h; exact h rfl
theorem else_reg {k : Int} {s : St} (hk : k ≠ 1) (h : s.reg ≠ 0) : ¬ ElseOk k s := fun he => by
  rcases he.1 with h1 | h1
  · exact hk h1
  · exact h h1
theorem else_votes {k : Int} {s : St} (hk : k ≠ 5) (h : s.votes.length ≠ 0 ∨ s.closed = true) : ¬ ElseOk k s := fun he => by
  rcases he.2.2 with h1 | ⟨h1, h2⟩
  · exact hk h1
  · rw [h1, h2] at h; simp at h
theorem else_yes {k : Int} {s : St} (h1 : k = 1 ∨ s.reg = 0) (h2 : keyed k = true ∨ s.keys.length + s.vals.length = 0) (h3 : k = 5 ∨ (s.votes.length = 0 ∧ s.closed = false)) : ElseOk k s := by
  refine ⟨h1, ?_, ?_⟩
  · rcases h2 with h | h
    · exact .inl h
    · exact .inr ⟨List.eq_nil_of_length_eq_zero (by omega), List.eq_nil_of_length_eq_zero (by omega)⟩
  · rcases h3 with h | ⟨h, h'⟩
    · exact .inl h
    · exact .inr ⟨List.eq_nil_of_length_eq_zero h, h'⟩


end Go.Proofs.Ytojdhnecafkibaa.Aut

/- FltRound:
  How the model rounds, over whole numbers: the rung of a number of least units, rounded to the nearest and to the even one of two; that it takes each rung's number back to the rung. No condition on sizes.
-/
namespace Go.Proofs.Ytojdhnecafkibaa

/-- V over 2 to the L, to the nearest, to the even one of two. -/
def rne (V L : Nat) : Nat := V / 2 ^ L + (if 2 ^ L < 2 * (V % 2 ^ L) ∨ (2 ^ L = 2 * (V % 2 ^ L) ∧ V / 2 ^ L % 2 = 1) then 1 else 0)

theorem cut_rne (neg : Bool) (n d : Nat) (h : d ≤ n.log2 + 2) : Ieee.Toward.even.cut neg n d = rne n d := by
  unfold Ieee.Toward.cut rne
  rw [Nat.min_eq_left h, Nat.one_shiftLeft]
  by_cases c : 2 ^ d < 2 * (n % 2 ^ d) ∨ (2 ^ d = 2 * (n % 2 ^ d) ∧ n / 2 ^ d % 2 = 1)
  · rw [if_pos c]
    rcases c with c | ⟨c, e⟩
    · simp [c]
    · simp [← c, e]
  · rw [if_neg c]
    have c1 : ¬ 2 ^ d < 2 * (n % 2 ^ d) := fun h => c (Or.inl h)
    have c2 : ¬ (2 ^ d = 2 * (n % 2 ^ d) ∧ n / 2 ^ d % 2 = 1) := fun h => c (Or.inr h)
    have c3 : ((2 ^ d == 2 * (n % 2 ^ d)) && (n / 2 ^ d % 2 == 1)) = false := by
      rw [Bool.eq_false_iff]; intro h; simp only [Bool.and_eq_true, beq_iff_eq] at h; exact c2 h
    simp only [c1, c3]; simp

theorem rne_zero (V : Nat) : rne V 0 = V := by simp [rne, Nat.mod_one]

theorem rne_scale (m L k : Nat) : rne (m * 2 ^ k) (L + k) = rne m L := by
  have hk : 0 < 2 ^ k := Nat.two_pow_pos k
  have e1 : m * 2 ^ k / 2 ^ (L + k) = m / 2 ^ L := by rw [Nat.pow_add, Nat.mul_div_mul_right _ _ hk]
  have e2 : m * 2 ^ k % 2 ^ (L + k) = m % 2 ^ L * 2 ^ k := by rw [Nat.pow_add, Nat.mul_mod_mul_right]
  unfold rne
  rw [e1, e2, Nat.pow_add]
  have a : (2 ^ L * 2 ^ k < 2 * (m % 2 ^ L * 2 ^ k)) ↔ (2 ^ L < 2 * (m % 2 ^ L)) := by
    rw [← Nat.mul_assoc]; exact Nat.mul_lt_mul_right hk
  have b : (2 ^ L * 2 ^ k = 2 * (m % 2 ^ L * 2 ^ k)) ↔ (2 ^ L = 2 * (m % 2 ^ L)) := by
    rw [← Nat.mul_assoc]; exact Nat.mul_left_inj (by omega)
  simp only [a, b]

theorem rne_exact (m L : Nat) : rne (m * 2 ^ L) L = m := by
  have := rne_scale m 0 L
  rw [Nat.zero_add, rne_zero] at this
  exact this

/-- The rung of a number of least units, without a greatest one. -/
def rungOf (V : Nat) : Nat := (V.log2 - 52) * 2 ^ 52 + rne V (V.log2 - 52)

theorem log2_mul_pow (m k : Nat) (h : m ≠ 0) : (m * 2 ^ k).log2 = m.log2 + k := by
  have h2 : m * 2 ^ k ≠ 0 := Nat.mul_ne_zero h (by have := Nat.two_pow_pos k; omega)
  rw [Nat.log2_eq_iff h2]
  have l := Nat.log2_self_le h
  have u := @Nat.lt_log2_self m
  constructor
  · rw [Nat.pow_add]; exact Nat.mul_le_mul_right _ l
  · rw [show m.log2 + k + 1 = (m.log2 + 1) + k from by omega, Nat.pow_add]
    exact Nat.mul_lt_mul_of_pos_right u (Nat.two_pow_pos k)

theorem leastPlace_double : Ieee.double.leastPlace = -1074 := by decide

theorem nearest_rung (neg : Bool) (m k : Nat) :
    Ieee.double.nearest neg m (-1074 + (k : Int)) = Ieee.double.word neg (min (rungOf (m * 2 ^ k)) 9218868437227405312) := by
  unfold Ieee.Format.nearest
  by_cases h : m = 0
  · subst h; simp [rungOf, rne]
  · rw [if_neg h, leastPlace_double]
    have hf : (Ieee.double.fractionBits : Int) = 52 := rfl
    have hb : Ieee.double.binade = 2 ^ 52 := rfl
    have hi : Ieee.double.infRung = 9218868437227405312 := by decide
    rw [hf, hb, hi]
    simp only
    have hl := log2_mul_pow m k h
    have e1 : (max ((-1074 : Int) + k + m.log2 - 52) (-1074) - -1074).toNat = m.log2 + k - 52 := by omega
    have e2 : ((-1074 : Int) + k - max ((-1074 : Int) + k + m.log2 - 52) (-1074)).toNat = k - (m.log2 + k - 52) := by omega
    have e3 : (max ((-1074 : Int) + k + m.log2 - 52) (-1074) - ((-1074 : Int) + k)).toNat = (m.log2 + k - 52) - k := by omega
    rw [e1, e2, e3, Nat.shiftLeft_eq]
    suffices key : Ieee.Toward.even.cut neg (m * 2 ^ (k - (m.log2 + k - 52))) (m.log2 + k - 52 - k) = rne (m * 2 ^ k) (m.log2 + k - 52) by
      rw [key]; unfold rungOf; rw [hl]
    by_cases c : m.log2 + k - 52 ≤ k
    · obtain ⟨d, hd⟩ : ∃ d, k = d + (m.log2 + k - 52) := ⟨k - (m.log2 + k - 52), by omega⟩
      generalize m.log2 + k - 52 = L at *
      rw [show L - k = 0 from by omega, cut_rne _ _ _ (by omega), rne_zero, hd, show d + L - L = d from by omega, Nat.pow_add, ← Nat.mul_assoc, rne_exact]
    · rw [show k - (m.log2 + k - 52) = 0 from by omega, Nat.pow_zero, Nat.mul_one]
      rw [cut_rne _ _ _ (by omega)]
      have s := rne_scale m (m.log2 + k - 52 - k) k
      rw [show m.log2 + k - 52 - k + k = m.log2 + k - 52 from by omega] at s
      exact s.symm

/-- The number of least units that a rung stands for. -/
def magOf (g : Nat) : Nat := if g < 2 ^ 52 then g else (2 ^ 52 + g % 2 ^ 52) * 2 ^ (g / 2 ^ 52 - 1)

theorem log2_small (m : Nat) (h1 : 2 ^ 52 ≤ m) (h2 : m < 2 ^ 53) : m.log2 = 52 := (Nat.log2_eq_iff (by omega)).2 ⟨h1, h2⟩

theorem log2_lt (m k : Nat) (h : m < 2 ^ (k + 1)) : m.log2 ≤ k := by
  by_cases z : m = 0
  · subst z; simp
  · have := (Nat.log2_lt z).2 h; omega

theorem rung_mag (g : Nat) : rungOf (magOf g) = g := by
  unfold magOf
  split
  · rename_i h
    have l : g.log2 ≤ 51 := log2_lt g 51 h
    unfold rungOf
    rw [show g.log2 - 52 = 0 from by omega, rne_zero]; omega
  · rename_i h
    have hm : 2 ^ 52 ≤ 2 ^ 52 + g % 2 ^ 52 := by omega
    have hm2 : 2 ^ 52 + g % 2 ^ 52 < 2 ^ 53 := by omega
    have l := log2_small _ hm hm2
    unfold rungOf
    rw [log2_mul_pow _ _ (by omega), l, show 52 + (g / 2 ^ 52 - 1) - 52 = g / 2 ^ 52 - 1 from by omega, rne_exact]
    omega

theorem rung_pos (V : Nat) (h : V ≠ 0) : rungOf V ≠ 0 := by
  unfold rungOf
  by_cases c : V.log2 ≤ 52
  · rw [show V.log2 - 52 = 0 from by omega, rne_zero]; omega
  · have : 1 ≤ V.log2 - 52 := by omega
    have : 2 ^ 52 ≤ (V.log2 - 52) * 2 ^ 52 := Nat.le_mul_of_pos_left _ this
    omega

theorem rung_zero : rungOf 0 = 0 := by decide

end Go.Proofs.Ytojdhnecafkibaa

/- FltJam:
  Numbers shifted to the right with the last bit kept: set if any bit is lost. Rounded in eighths they are rounded as the numbers themselves. No condition but those that each fact names.
-/
namespace Go.Proofs.Ytojdhnecafkibaa

/-- T, d bits lower, the last bit being set if any bit is lost. -/
def jam (T d : Nat) : Nat := 2 * (T / 2 ^ (d + 1)) + (if T % 2 ^ (d + 1) = 0 then 0 else 1)

def jam1 (s : Nat) : Nat := 2 * (s / 4) + (if s % 4 = 0 then 0 else 1)

theorem jam_zero (T : Nat) : jam T 0 = T := by
  unfold jam
  rw [show 2 ^ (0 + 1) = 2 from rfl]
  split <;> omega

/-- T over P times c, and what is left. -/
theorem div_more (T P c : Nat) : T / (P * c) = T / P / c := (Nat.div_div_eq_div_mul T P c).symm

theorem jam_succ (T d : Nat) : jam T (d + 1) = jam1 (jam T d) := by
  unfold jam jam1
  rw [show d + 1 + 1 = (d + 1) + 1 from rfl, Nat.pow_succ 2 (d + 1)]
  have hp := Nat.two_pow_pos (d + 1)
  generalize 2 ^ (d + 1) = P at hp ⊢
  rw [div_more, Nat.mod_mul]
  have hr := Nat.mod_lt T hp
  generalize T / P = q
  generalize T % P = r at hr ⊢
  have h2 : q % 2 = 0 ∨ q % 2 = 1 := by omega
  rcases h2 with h | h <;> rw [h] <;> by_cases z : r = 0
  · subst z; simp; split <;> omega
  · rw [if_neg (by omega), if_neg z, if_neg (by omega)]; omega
  · rw [if_neg (by omega), if_pos z, if_neg (by omega)]; omega
  · rw [if_neg (by omega), if_neg z, if_neg (by omega)]; omega

theorem jam_scale (T d k : Nat) : jam (T * 2 ^ k) (d + k) = jam T d := by
  have hk := Nat.two_pow_pos k
  unfold jam
  rw [show d + k + 1 = (d + 1) + k from by omega, Nat.pow_add, Nat.mul_div_mul_right _ _ hk, Nat.mul_mod_mul_right]
  congr 1
  by_cases z : T % 2 ^ (d + 1) = 0
  · rw [z]; simp
  · rw [if_neg z, if_neg (Nat.mul_ne_zero z (by omega))]

theorem jam_exact (T d : Nat) : jam (T * 2 ^ d) d = T := by
  have := jam_scale T 0 d
  rw [Nat.zero_add, jam_zero] at this; exact this

theorem jam_add (m T d : Nat) : jam (2 * m * 2 ^ d + T) d = 2 * m + jam T d := by
  unfold jam
  have e : 2 * m * 2 ^ d = 2 ^ (d + 1) * m := by rw [Nat.pow_succ, Nat.mul_comm 2 m, Nat.mul_assoc, Nat.mul_comm 2, Nat.mul_comm]
  rw [e]
  have hp := Nat.two_pow_pos (d + 1)
  generalize 2 ^ (d + 1) = P at hp ⊢
  rw [Nat.mul_add_div hp, Nat.mul_add_mod]
  omega

theorem jam_sub (m T d : Nat) (h : T ≤ 2 * m * 2 ^ d) : jam (2 * m * 2 ^ d - T) d = 2 * m - jam T d := by
  unfold jam
  have e : 2 * m * 2 ^ d = 2 ^ (d + 1) * m := by rw [Nat.pow_succ, Nat.mul_comm 2 m, Nat.mul_assoc, Nat.mul_comm 2, Nat.mul_comm]
  rw [e] at h ⊢
  have hp := Nat.two_pow_pos (d + 1)
  generalize 2 ^ (d + 1) = P at hp h ⊢
  have dm := Nat.div_add_mod T P
  have hr := Nat.mod_lt T hp
  generalize T / P = q at dm ⊢
  generalize T % P = r at dm hr ⊢
  subst dm
  by_cases z : r = 0
  · subst z
    rw [Nat.add_zero, ← Nat.mul_sub, Nat.mul_div_cancel_left _ hp, Nat.mul_mod_right]
    simp; omega
  · have hq : q < m := by
      rcases Nat.lt_or_ge q m with c | c
      · exact c
      · have := Nat.mul_le_mul_left P c; omega
    obtain ⟨t, ht⟩ : ∃ t, m = q + 1 + t := ⟨m - (q + 1), by omega⟩
    have e2 : P * m - (P * q + r) = P * t + (P - r) := by
      subst ht
      rw [Nat.mul_add, Nat.mul_add, Nat.mul_one]
      generalize P * q = A
      generalize P * t = B
      omega
    rw [e2, Nat.mul_add_div hp, Nat.mul_add_mod, Nat.div_eq_of_lt (by omega), Nat.mod_eq_of_lt (by omega), if_neg (by omega), if_neg z]
    omega

theorem jam_lt_iff (T d b : Nat) : jam T d < 2 * b ↔ T < 2 * b * 2 ^ d := by
  have e : 2 * b * 2 ^ d = b * 2 ^ (d + 1) := by rw [Nat.pow_succ, Nat.mul_comm 2 b, Nat.mul_assoc, Nat.mul_comm 2]
  rw [e, ← Nat.div_lt_iff_lt_mul (Nat.two_pow_pos (d + 1))]
  unfold jam
  split <;> omega

theorem jam_eq_zero (T d : Nat) : jam T d = 0 ↔ T = 0 := by
  constructor
  · intro h
    have a := jam_lt_iff T d 1
    unfold jam at h
    have dm := Nat.div_add_mod T (2 ^ (d + 1))
    split at h
    · rename_i z
      have q : T / 2 ^ (d + 1) = 0 := by omega
      rw [q, z] at dm; omega
    · omega
  · intro h; subst h; simp [jam]

theorem rne_jam (T d : Nat) : rne (jam T d) 3 = rne T (d + 3) := by
  unfold rne
  rw [show d + 3 = (d + 1) + 2 from by omega, Nat.pow_add 2 (d + 1) 2]
  unfold jam
  have hp := Nat.two_pow_pos (d + 1)
  generalize 2 ^ (d + 1) = P at hp ⊢
  rw [show 2 ^ 2 = 4 from rfl, show 2 ^ 3 = 8 from rfl, div_more, Nat.mod_mul]
  have hr := Nat.mod_lt T hp
  generalize T / P = q
  generalize T % P = r at hr ⊢
  by_cases z : r = 0
  · rw [if_pos z]
    have h4 : q % 4 = 0 ∨ q % 4 = 1 ∨ q % 4 = 2 ∨ q % 4 = 3 := by omega
    rcases h4 with h | h | h | h <;> rw [h] <;> split <;> split <;> omega
  · rw [if_neg z]
    have h4 : q % 4 = 0 ∨ q % 4 = 1 ∨ q % 4 = 2 ∨ q % 4 = 3 := by omega
    rcases h4 with h | h | h | h <;> rw [h] <;> split <;> split <;> omega

theorem rne_jam2 (T d : Nat) : rne (2 * jam T (d + 1)) 3 = rne T (d + 3) := by
  unfold rne
  rw [show d + 3 = (d + 1 + 1) + 1 from by omega, Nat.pow_add 2 (d + 1 + 1) 1]
  unfold jam
  have hp := Nat.two_pow_pos (d + 1 + 1)
  generalize 2 ^ (d + 1 + 1) = P at hp ⊢
  rw [show 2 ^ 1 = 2 from rfl, show 2 ^ 3 = 8 from rfl, div_more, Nat.mod_mul]
  have hr := Nat.mod_lt T hp
  generalize T / P = q
  generalize T % P = r at hr ⊢
  by_cases z : r = 0
  · rw [if_pos z]
    have h4 : q % 2 = 0 ∨ q % 2 = 1 := by omega
    rcases h4 with h | h <;> rw [h] <;> split <;> split <;> omega
  · rw [if_neg z]
    have h4 : q % 2 = 0 ∨ q % 2 = 1 := by omega
    rcases h4 with h | h <;> rw [h] <;> split <;> split <;> omega

/-- What is exact may be doubled. -/
theorem jam_double (U d : Nat) (h : U % 2 ^ (d + 1) = 0) : 2 * jam U (d + 1) = jam U d := by
  obtain ⟨T, rfl⟩ := Nat.dvd_of_mod_eq_zero h
  rw [Nat.mul_comm (2 ^ (d + 1)) T, jam_exact, Nat.pow_succ, Nat.mul_comm (2 ^ d) 2, ← Nat.mul_assoc, jam_exact]; omega

theorem mod_pow_le (U d : Nat) (h : U % 2 ^ (d + 1) = 0) : U % 2 ^ d = 0 := by
  rw [Nat.pow_succ] at h
  exact Nat.mod_eq_zero_of_dvd (Nat.dvd_trans (Nat.dvd_mul_right _ _) (Nat.dvd_of_mod_eq_zero h))

/-- What made leaves: a number in eighths, and its exponent, as normal as may be. -/
theorem made_rung (V s e : Nat) (he : 1 ≤ e) (hs : s = jam (8 * V) (e - 1) ∨ s = 2 * jam (8 * V) e) (hlt : s < 72057594037927936) (hn : 36028797018963968 ≤ s ∨ e = 1) :
    rungOf V = (e - 1) * 2 ^ 52 + rne s 3 := by
  obtain ⟨k, rfl⟩ : ∃ k, e = k + 1 := ⟨e - 1, by omega⟩
  rw [Nat.add_sub_cancel] at hs ⊢
  have r8 : rne V k = rne (8 * V) (k + 3) := by
    have := rne_scale V k 3
    rw [show V * 2 ^ 3 = 8 * V from by omega] at this
    exact this.symm
  have hr : rne s 3 = rne V k := by
    rw [r8]
    rcases hs with hs | hs
    · rw [hs, rne_jam]
    · rw [hs, rne_jam2]
  have up : V < 2 ^ (53 + k) := by
    rcases hs with hs | hs
    · have := (jam_lt_iff (8 * V) k 36028797018963968).1 (by omega)
      rw [Nat.pow_add]; omega
    · have := (jam_lt_iff (8 * V) (k + 1) 18014398509481984).1 (by omega)
      rw [Nat.pow_succ] at this
      rw [Nat.pow_add]; omega
  have lo : 36028797018963968 ≤ s → 2 ^ (52 + k) ≤ V := by
    intro h
    rcases hs with hs | hs
    · have := jam_lt_iff (8 * V) k 18014398509481984
      rw [Nat.pow_add]; omega
    · have := jam_lt_iff (8 * V) (k + 1) 9007199254740992
      rw [Nat.pow_succ] at this
      rw [Nat.pow_add]; omega
  have l : V.log2 - 52 = k := by
    rcases hn with hn | hn
    · have h2 := lo hn
      have := (Nat.log2_eq_iff (by have := Nat.two_pow_pos (52 + k); omega) (k := 52 + k)).2 ⟨h2, by rw [show 52 + k + 1 = 53 + k from by omega]; exact up⟩
      omega
    · have := log2_lt V (52 + k) (by rw [show 52 + k + 1 = 53 + k from by omega]; exact up)
      omega
  unfold rungOf
  rw [l, hr]

end Go.Proofs.Ytojdhnecafkibaa

/- FltMade:
  What the document's own steps of a sum return (less, whole, shifted, made), in whatever world. Their conditions: words from 0 to less than 2^64; of shifted a count from 0 to 2^62; of made a sign of 0 or 1, an exponent from 1 to 2100, and a fraction in eighths that is a number's, its last bit kept.
-/
namespace Go.Proofs.Ytojdhnecafkibaa
open Go.RowKit


def wholeE (x : Int) : Int := if x % 9223372036854775808 < 4503599627370496 then 1 else x % 9223372036854775808 / 4503599627370496

def wholeM (x : Int) : Int := if x % 9223372036854775808 < 4503599627370496 then x % 9223372036854775808 * 8 else (x % 4503599627370496 + 4503599627370496) * 8


theorem or_jam (s : Nat) (h : s < 18446744073709551616) : bits .or .u64 ((s : Int) / 2) ((s : Int) % 2) = ((jam1 s : Nat) : Int) := by
  have e1 : ((s : Int) / 2) = ((s / 2 : Nat) : Int) := by omega
  have e2 : ((s : Int) % 2) = ((s % 2 : Nat) : Int) := by omega
  rw [e1, e2, u64_or_nat _ _ (by omega) (by omega)]
  have c : s % 2 = 0 ∨ s % 2 = 1 := by omega
  unfold jam1
  rcases c with c | c <;> rw [c]
  · rw [Nat.or_zero]; split <;> omega
  · have o : s / 2 ||| 1 = 2 * (s / 2 / 2) + 1 := by
      have hm : (s / 2 ||| 1) % 2 = 1 := by rw [← Nat.pow_one 2, Nat.or_mod_two_pow]; have : s / 2 % 2 = 0 ∨ s / 2 % 2 = 1 := by omega
                                            rcases this with t | t <;> rw [Nat.pow_one, t] <;> rfl
      have hd : (s / 2 ||| 1) / 2 = s / 2 / 2 := by
        have := Nat.or_div_two_pow (a := s / 2) (b := 1) (n := 1)
        rw [Nat.pow_one] at this; rw [this]; simp
      omega
    rw [o, if_neg (by omega)]; omega

theorem jam1_le (s : Nat) : jam1 s ≤ s := by unfold jam1; split <;> omega

theorem jam_stay (T k : Nat) (h : jam T k ≤ 1) : ∀ j, jam T (k + j) = jam T k := by
  intro j
  induction j with
  | zero => rfl
  | succ n ih =>
    rw [← Nat.add_assoc, jam_succ, ih]
    generalize jam T k = t at h
    unfold jam1; split <;> omega

theorem jam_le (T : Nat) : ∀ k, jam T k ≤ T := by
  intro k
  induction k with
  | zero => rw [jam_zero]; exact Nat.le_refl _
  | succ n ih => rw [jam_succ]; exact Nat.le_trans (jam1_le _) ih


/-- The loop's state: a number's eighths, the last bit kept, and whether they may be doubled. -/
def Kept (V e s : Nat) : Prop := s = jam (8 * V) (e - 1) ∧ (8 * V % 2 ^ (e - 1) = 0 ∨ 18014398509481984 ≤ s)

def Normal (V e s : Nat) : Prop := Kept V e s ∨ (s = 2 * jam (8 * V) e ∧ 36028797018963968 ≤ s)

theorem kept_down (V e s : Nat) (he : 1 ≤ e) (h : Kept V e s) (hs : 72057594037927936 ≤ s) (hs2 : s < 144115188075855872) : Kept V (e + 1) (jam1 s) ∧ jam1 s < 72057594037927936 := by
  obtain ⟨h1, _⟩ := h
  have e1 : e + 1 - 1 = (e - 1) + 1 := by omega
  refine ⟨⟨by rw [e1, jam_succ, ← h1], Or.inr ?_⟩, ?_⟩
  · unfold jam1; split <;> omega
  · unfold jam1; split <;> omega

theorem kept_up (V e s : Nat) (he : 1 < e) (h : Kept V e s) : Normal V (e - 1) (s * 2) := by
  obtain ⟨h1, h2⟩ := h
  obtain ⟨k, rfl⟩ : ∃ k, e = k + 2 := ⟨e - 2, by omega⟩
  rw [show k + 2 - 1 = k + 1 from by omega] at h1 h2 ⊢
  by_cases z : 8 * V % 2 ^ (k + 1) = 0
  · refine Or.inl ⟨?_, Or.inl ?_⟩
    · rw [show k + 1 - 1 = k from by omega, Nat.mul_comm, h1, jam_double _ _ z]
    · rw [show k + 1 - 1 = k from by omega]; exact mod_pow_le _ _ z
  · refine Or.inr ⟨by rw [Nat.mul_comm, h1], ?_⟩
    rcases h2 with h2 | h2
    · exact absurd h2 z
    · omega

def madeOf (sg : Int) (V : Nat) : Int := if V = 0 then 0 else sg * 9223372036854775808 + ((min (rungOf V) 9218868437227405312 : Nat) : Int)

theorem made_end (sg : Int) (V e s : Nat) (hV : V ≠ 0) (he : 1 ≤ e) (hN : Normal V e s) (hlt : s < 72057594037927936) (hn : 36028797018963968 ≤ s ∨ e = 1) :
    madeOf sg V = sg * 9223372036854775808 + ((min ((e - 1) * 4503599627370496 + (s / 8 + (if 8 < 2 * (s % 8) ∨ (8 = 2 * (s % 8) ∧ s / 8 % 2 = 1) then 1 else 0))) 9218868437227405312 : Nat) : Int) := by
  unfold madeOf
  rw [if_neg hV, made_rung V s e he (by rcases hN with h | h; exact Or.inl h.1; exact Or.inr h.1) hlt hn]
  rfl


end Go.Proofs.Ytojdhnecafkibaa

/- FltAdd:
  Sums of words, over whole numbers: of two numbers' words the sum is the rounded rung of the whole numbers' sum; of a NaN, or of two unlike infinities, a NaN; of an infinite one and a number that one. For words from 0 to less than 2^64 (the one condition).
-/
namespace Go.Proofs.Ytojdhnecafkibaa

/-- The whole number of least units that a finite word stands for. -/
def sval (x : Int) : Int := if 9223372036854775808 ≤ x then -((magOf (x % 9223372036854775808).toNat : Nat) : Int) else ((magOf (x % 9223372036854775808).toNat : Nat) : Int)

theorem word_double (neg : Bool) (r : Nat) : Ieee.double.word neg r = if neg then 9223372036854775808 + r else r := by
  unfold Ieee.Format.word
  rw [show Ieee.double.signWeight = 9223372036854775808 from by decide]

theorem read_double (X : Nat) : Ieee.double.read X =
    if X % 9223372036854775808 < 2 ^ 52 then .number (X / 9223372036854775808 % 2 == 1) (X % 9223372036854775808) (-1074)
    else if X % 9223372036854775808 < 9218868437227405312 then .number (X / 9223372036854775808 % 2 == 1) (2 ^ 52 + X % 9223372036854775808 % 2 ^ 52) (-1074 + (X % 9223372036854775808 / 2 ^ 52 - 1 : Nat))
    else if X % 9223372036854775808 = 9218868437227405312 then .infinity (X / 9223372036854775808 % 2 == 1)
    else .nan (X / 9223372036854775808 % 2 == 1) (X % 9223372036854775808 - 9218868437227405312) := by
  unfold Ieee.Format.read
  rw [show Ieee.double.signWeight = 9223372036854775808 from by decide, show Ieee.double.binade = 2 ^ 52 from rfl, show Ieee.double.infRung = 9218868437227405312 from by decide, leastPlace_double]

theorem read_finite (X : Nat) (h : X % 9223372036854775808 < 9218868437227405312) :
    ∃ m k : Nat, Ieee.double.read X = .number (X / 9223372036854775808 % 2 == 1) m (-1074 + (k : Int)) ∧ m * 2 ^ k = magOf (X % 9223372036854775808) := by
  rw [read_double]
  by_cases c : X % 9223372036854775808 < 2 ^ 52
  · rw [if_pos c]
    exact ⟨X % 9223372036854775808, 0, by simp, by unfold magOf; rw [if_pos c]; omega⟩
  · rw [if_neg c, if_pos h]
    exact ⟨_, _, rfl, by unfold magOf; rw [if_neg c]⟩

theorem read_infinite (X : Nat) (h : X % 9223372036854775808 = 9218868437227405312) : Ieee.double.read X = .infinity (X / 9223372036854775808 % 2 == 1) := by
  rw [read_double, if_neg (by omega), if_neg (by omega), if_pos h]

theorem read_nan (X : Nat) (h : 9218868437227405312 < X % 9223372036854775808) : ∃ s f, Ieee.double.read X = .nan s f := by
  rw [read_double, if_neg (by omega), if_neg (by omega), if_neg (by omega)]; exact ⟨_, _, rfl⟩

theorem sum_comm (a b : Ieee.Datum) : a.sum b = b.sum a := by
  cases a <;> cases b <;> simp only [Ieee.Datum.sum]
  · rename_i s m i t n j
    rw [Int.min_comm j i, Int.add_comm (Ieee.signed t n _), Bool.and_comm t s]
  · rename_i s t
    by_cases h : s = t
    · subst h; rfl
    · rw [if_neg h, if_neg (fun e => h e.symm)]

theorem add_comm (x y : Nat) : Ieee.double.add x y = Ieee.double.add y x := by unfold Ieee.Format.add; rw [sum_comm]

theorem sumOf_comm (x y : Int) : sumOf x y = sumOf y x := by unfold sumOf addWord; rw [add_comm]

theorem add_nan_left (X Y : Nat) (h : 9218868437227405312 < X % 9223372036854775808) : Ieee.double.add X Y = none := by
  obtain ⟨s, f, e⟩ := read_nan X h
  unfold Ieee.Format.add; rw [e]; simp [Ieee.Datum.sum]

theorem canon_nan : canon 9221120237041090561 = 9221120237041090561 := by decide +kernel

theorem sumOf_nan_left (x y : Int) (h0 : 0 ≤ x) (h : 9218868437227405312 < x % 9223372036854775808) : sumOf x y = 9221120237041090561 := by
  unfold sumOf addWord
  rw [add_nan_left x.toNat y.toNat (by omega)]; exact canon_nan

theorem sumOf_nan_right (x y : Int) (h0 : 0 ≤ y) (h : 9218868437227405312 < y % 9223372036854775808) : sumOf x y = 9221120237041090561 := by
  rw [sumOf_comm]; exact sumOf_nan_left y x h0 h

theorem bit_sign (X : Nat) (h : X < 18446744073709551616) : (X / 9223372036854775808 % 2 == 1) = decide (9223372036854775808 ≤ X) := by
  rw [Bool.eq_iff_iff]; simp only [beq_iff_eq, decide_eq_true_eq]; omega

/-- An infinite word and a number's: that one. -/
theorem sumOf_inf_left (x y : Int) (h0 : 0 ≤ x) (h1 : x < 18446744073709551616) (hx : x % 9223372036854775808 = 9218868437227405312) (_g0 : 0 ≤ y) (_g1 : y < 18446744073709551616) (hy : y % 9223372036854775808 < 9218868437227405312) : sumOf x y = x := by
  obtain ⟨m, k, e, _⟩ := read_finite y.toNat (by omega)
  unfold sumOf addWord Ieee.Format.add
  rw [e, read_infinite x.toNat (by omega), bit_sign _ (by omega)]
  simp only [Ieee.Datum.sum, Option.map_some, Ieee.Format.write, word_double, show Ieee.double.infRung = 9218868437227405312 from by decide]
  by_cases c : 9223372036854775808 ≤ x
  · rw [decide_eq_true (by omega : 9223372036854775808 ≤ x.toNat)]
    have : x = 18442240474082181120 := by omega
    rw [this]; decide +kernel
  · rw [decide_eq_false (by omega : ¬ 9223372036854775808 ≤ x.toNat)]
    have : x = 9218868437227405312 := by omega
    rw [this]; decide +kernel

theorem sumOf_inf_right (x y : Int) (h0 : 0 ≤ x) (h1 : x < 18446744073709551616) (hx : x % 9223372036854775808 = 9218868437227405312) (g0 : 0 ≤ y) (g1 : y < 18446744073709551616) (hy : y % 9223372036854775808 < 9218868437227405312) : sumOf y x = x := by
  rw [sumOf_comm]; exact sumOf_inf_left x y h0 h1 hx g0 g1 hy

/-- Two infinite words. -/
theorem sumOf_inf_both (x y : Int) (h0 : 0 ≤ x) (h1 : x < 18446744073709551616) (hx : x % 9223372036854775808 = 9218868437227405312) (g0 : 0 ≤ y) (g1 : y < 18446744073709551616) (hy : y % 9223372036854775808 = 9218868437227405312) : sumOf x y = if x = y then x else 9221120237041090561 := by
  have a : x = 9218868437227405312 ∨ x = 18442240474082181120 := by omega
  have b : y = 9218868437227405312 ∨ y = 18442240474082181120 := by omega
  rcases a with rfl | rfl <;> rcases b with rfl | rfl <;> decide +kernel

theorem shl_signed (s : Bool) (m u : Nat) : Ieee.signed s m u = (if s then -1 else 1) * ((m * 2 ^ u : Nat) : Int) := by
  unfold Ieee.signed; rw [Nat.shiftLeft_eq]; cases s <;> simp

theorem sval_toNat (x : Int) (h0 : 0 ≤ x) (h1 : x < 18446744073709551616) : sval x = (if (x.toNat / 9223372036854775808 % 2 == 1) then -1 else 1) * ((magOf (x.toNat % 9223372036854775808) : Nat) : Int) := by
  unfold sval
  rw [bit_sign _ (by omega), show (x % 9223372036854775808).toNat = x.toNat % 9223372036854775808 from by omega]
  by_cases c : 9223372036854775808 ≤ x
  · rw [if_pos c, decide_eq_true (by omega : 9223372036854775808 ≤ x.toNat)]; simp
  · rw [if_neg c, decide_eq_false (by omega : ¬ 9223372036854775808 ≤ x.toNat)]; simp

theorem pow_split (k b : Nat) (h : b ≤ k) : 2 ^ k = 2 ^ (k - b) * 2 ^ b := by rw [← Nat.pow_add]; congr 1; omega

theorem total_scaled (s t : Bool) (m n i j : Nat) :
    (Ieee.signed s m (i - min i j) + Ieee.signed t n (j - min i j)) * (2 ^ (min i j) : Nat) = (if s then -1 else 1) * ((m * 2 ^ i : Nat) : Int) + (if t then -1 else 1) * ((n * 2 ^ j : Nat) : Int) := by
  rw [shl_signed, shl_signed, Int.add_mul]
  have a := pow_split i (min i j) (Nat.min_le_left _ _)
  have b := pow_split j (min i j) (Nat.min_le_right _ _)
  have a' : ((m * 2 ^ i : Nat) : Int) = ((m * 2 ^ (i - min i j) : Nat) : Int) * ((2 ^ (min i j) : Nat) : Int) := by
    rw [← Int.natCast_mul, Nat.mul_assoc, ← a]
  have b' : ((n * 2 ^ j : Nat) : Int) = ((n * 2 ^ (j - min i j) : Nat) : Int) * ((2 ^ (min i j) : Nat) : Int) := by
    rw [← Int.natCast_mul, Nat.mul_assoc, ← b]
  rw [a', b', Int.mul_assoc, Int.mul_assoc]

theorem sumOf_finite (x y : Int) (h0 : 0 ≤ x) (h1 : x < 18446744073709551616) (hx : x % 9223372036854775808 < 9218868437227405312) (g0 : 0 ≤ y) (g1 : y < 18446744073709551616) (hy : y % 9223372036854775808 < 9218868437227405312) :
    sumOf x y = (if sval x + sval y < 0 then 9223372036854775808 else 0) + ((min (rungOf (sval x + sval y).natAbs) 9218868437227405312 : Nat) : Int) := by
  obtain ⟨m, i, e, em⟩ := read_finite x.toNat (by omega)
  obtain ⟨n, j, f, fn⟩ := read_finite y.toNat (by omega)
  rw [sval_toNat x h0 h1, sval_toNat y g0 g1, ← em, ← fn]
  generalize (x.toNat / 9223372036854775808 % 2 == 1) = s at e ⊢
  generalize (y.toNat / 9223372036854775808 % 2 == 1) = t at f ⊢
  unfold sumOf addWord Ieee.Format.add
  rw [e, f]
  simp only [Ieee.Datum.sum, Option.map_some, Ieee.Format.write]
  have tb : (min (-1074 + (i : Int)) (-1074 + (j : Int))) = -1074 + ((min i j : Nat) : Int) := by omega
  have t1 : (-1074 + (i : Int) - min (-1074 + (i : Int)) (-1074 + (j : Int))).toNat = i - min i j := by omega
  have t2 : (-1074 + (j : Int) - min (-1074 + (i : Int)) (-1074 + (j : Int))).toNat = j - min i j := by omega
  rw [t1, t2, tb, nearest_rung, word_double]
  have ts := total_scaled s t m n i j
  have hp : (0 : Int) < ((2 ^ (min i j) : Nat) : Int) := by have := Nat.two_pow_pos (min i j); omega
  rw [← ts]
  generalize Ieee.signed s m (i - min i j) + Ieee.signed t n (j - min i j) = T at ts ⊢
  have na : (T * ((2 ^ (min i j) : Nat) : Int)).natAbs = T.natAbs * 2 ^ (min i j) := by rw [Int.natAbs_mul]; rfl
  have ng : T * ((2 ^ (min i j) : Nat) : Int) < 0 ↔ T < 0 := by
    constructor
    · intro h
      rcases Int.lt_or_le T 0 with c | c
      · exact c
      · have := Int.mul_nonneg c (Int.le_of_lt hp); omega
    · intro h; exact Int.mul_neg_of_neg_of_pos h hp
  rw [na]
  by_cases z : T = 0
  · subst z
    simp only [if_true, Int.natAbs_zero, Nat.zero_mul, rung_zero, Int.zero_mul]
    cases s <;> cases t <;> decide +kernel
  · rw [if_neg z]
    have rp : rungOf (T.natAbs * 2 ^ (min i j)) ≠ 0 := rung_pos _ (Nat.mul_ne_zero (by omega) (by have := Nat.two_pow_pos (min i j); omega))
    generalize rungOf (T.natAbs * 2 ^ (min i j)) = R at rp ⊢
    by_cases c : T < 0
    · rw [decide_eq_true c, if_pos (ng.2 c)]
      simp only [if_true]
      rw [canon_of (by omega)]; omega
    · rw [decide_eq_false c, if_neg (fun h => c (ng.1 h))]
      simp only [Bool.false_eq_true, if_false]
      rw [canon_of (by omega)]; omega

theorem max_lo (x y : Int) (h0 : 0 ≤ x) (g0 : 0 ≤ y) : 0 ≤ maxOf x y := by
  unfold maxOf; split
  · exact canon_lo y g0
  · exact canon_lo x h0

theorem max_hi (x y : Int) (h1 : x < 18446744073709551616) (g1 : y < 18446744073709551616) : maxOf x y < 18446744073709551616 := by
  unfold maxOf; split
  · exact canon_hi y g1
  · exact canon_hi x h1

theorem rank_canon (x : Int) : rank (canon x) = rank x := by unfold rank; rw [canon_canon]

theorem rank_max (x y : Int) : rank (maxOf x y) = if rank x < rank y then rank y else rank x := by
  unfold maxOf; split <;> rw [rank_canon]

theorem canon_max (x y : Int) : canon (maxOf x y) = maxOf x y := by
  unfold maxOf; split <;> rw [canon_canon]

/-- Two canonical words of one rank are one. -/
theorem eq_of_rank {x y : Int} (h0 : 0 ≤ x) (h1 : x < 18446744073709551616) (g0 : 0 ≤ y) (g1 : y < 18446744073709551616) (hx : canon x = x) (hy : canon y = y) (h : rank x = rank y) : x = y := by
  have := (rank_inj x y h0 h1 g0 g1).1 h
  rw [hx, hy] at this; exact this

theorem max_comm (x y : Int) (h0 : 0 ≤ x) (h1 : x < 18446744073709551616) (g0 : 0 ≤ y) (g1 : y < 18446744073709551616) : maxOf y x = maxOf x y := by
  refine eq_of_rank (max_lo _ _ g0 h0) (max_hi _ _ g1 h1) (max_lo _ _ h0 g0) (max_hi _ _ h1 g1) (canon_max _ _) (canon_max _ _) ?_
  rw [rank_max, rank_max]; split <;> split <;> omega

theorem max_assoc (x y z : Int) (h0 : 0 ≤ x) (h1 : x < 18446744073709551616) (g0 : 0 ≤ y) (g1 : y < 18446744073709551616) (k0 : 0 ≤ z) (k1 : z < 18446744073709551616) : maxOf (maxOf x y) z = maxOf x (maxOf y z) := by
  refine eq_of_rank (max_lo _ _ (max_lo _ _ h0 g0) k0) (max_hi _ _ (max_hi _ _ h1 g1) k1) (max_lo _ _ h0 (max_lo _ _ g0 k0)) (max_hi _ _ h1 (max_hi _ _ g1 k1)) (canon_max _ _) (canon_max _ _) ?_
  rw [rank_max, rank_max, rank_max, rank_max]
  split <;> split <;> (try split) <;> (try split) <;> omega

theorem max_not_less_left (x y : Int) : less (maxOf x y) x = false := by
  simp only [less, decide_eq_false_iff_not, rank_max]; split <;> omega

theorem max_not_less_right (x y : Int) : less (maxOf x y) y = false := by
  simp only [less, decide_eq_false_iff_not, rank_max]; split <;> omega

theorem max_self (x : Int) : maxOf x x = canon x := by unfold maxOf; split <;> rfl

theorem max_or (x y : Int) (h : (maxOf x y == canon x) = false) : (maxOf x y == canon y) = true := by
  unfold maxOf at *
  by_cases c : rank x < rank y
  · rw [if_pos c]; simp
  · rw [if_neg c] at h; simp at h

theorem max_negInf (x : Int) (h0 : 0 ≤ x) (h1 : x < 18446744073709551616) : maxOf x 18442240474082181120 = canon x := by
  have h := less_negInf x h0 h1
  by_cases c : rank x < rank 18442240474082181120
  · have := less_negInf x h0 h1
    unfold maxOf; rw [if_pos c]
    simp only [less, decide_eq_false_iff_not] at h; exact absurd c h
  · unfold maxOf; rw [if_neg c]

theorem max_nan (x : Int) (h0 : 0 ≤ x) (h1 : x < 18446744073709551616) : maxOf x 9221120237041090561 = 9221120237041090561 := by
  by_cases k : kind x = 3
  · have e := (kind_three x).1 k
    unfold maxOf; split
    · exact canon_nan
    · exact e
  · have h := less_nan_right x h0 h1 k
    simp only [less, decide_eq_true_eq] at h
    unfold maxOf; rw [if_pos h]; exact canon_nan

end Go.Proofs.Ytojdhnecafkibaa

/- FltTwo:
  Twice a float; floats' order and that of the whole numbers for which they stand; a float and its opposite. For words from 0 to less than 2^64 (the one condition).
-/
namespace Go.Proofs.Ytojdhnecafkibaa

theorem double_mag (g : Nat) (h : 2 ^ 52 ≤ g) : 2 * magOf g = magOf (g + 2 ^ 52) := by
  unfold magOf
  rw [if_neg (by omega), if_neg (by omega)]
  have e1 : (g + 2 ^ 52) % 2 ^ 52 = g % 2 ^ 52 := Nat.add_mod_right _ _
  have e2 : (g + 2 ^ 52) / 2 ^ 52 - 1 = (g / 2 ^ 52 - 1) + 1 := by omega
  rw [e1, e2, Nat.pow_succ 2 (g / 2 ^ 52 - 1)]
  generalize 2 ^ (g / 2 ^ 52 - 1) = P
  generalize 2 ^ 52 + g % 2 ^ 52 = M
  rw [Nat.mul_comm 2, Nat.mul_assoc]

theorem double_small (g : Nat) (h : g < 2 ^ 52) : 2 * magOf g = magOf (2 * g) := by
  unfold magOf
  rw [if_pos h]
  by_cases c : 2 * g < 2 ^ 52
  · rw [if_pos c]
  · rw [if_neg c]
    have e1 : (2 * g) / 2 ^ 52 - 1 = 0 := by omega
    rw [e1]; omega

theorem natAbs_sval (x : Int) : (sval x).natAbs = magOf (x % 9223372036854775808).toNat := by
  unfold sval; split <;> simp

theorem sval_neg (x : Int) (h0 : 0 ≤ x) (h1 : x < 18446744073709551616) (hp : 0 < magOf (x % 9223372036854775808).toNat) : sval x < 0 ↔ 9223372036854775808 ≤ x := by
  unfold sval; split <;> omega

theorem mag_zero : magOf 0 = 0 := by decide +kernel

theorem mag_pos (g : Nat) (h : 0 < g) : 0 < magOf g := by
  rcases Nat.eq_zero_or_pos (magOf g) with e | e
  · have := rung_mag g
    rw [e, rung_zero] at this; omega
  · exact e

theorem sum_self (a : Int) (a0 : 0 ≤ a) (a1 : a < 18446744073709551616) (h : a % 9223372036854775808 < 9218868437227405312) :
    sumOf a a = (if 9223372036854775808 ≤ a ∧ 0 < a % 9223372036854775808 then 9223372036854775808 else 0) + ((min (rungOf (2 * magOf (a % 9223372036854775808).toNat)) 9218868437227405312 : Nat) : Int) := by
  rw [sumOf_finite a a a0 a1 h a0 a1 h]
  have e : (sval a + sval a).natAbs = 2 * magOf (a % 9223372036854775808).toNat := by rw [← natAbs_sval]; omega
  rw [e]
  have c : (sval a + sval a < 0) ↔ (9223372036854775808 ≤ a ∧ 0 < a % 9223372036854775808) := by
    rcases Int.lt_or_le 0 (a % 9223372036854775808) with z | z
    · have hp := mag_pos (a % 9223372036854775808).toNat (by omega)
      have := sval_neg a a0 a1 hp
      omega
    · have z' : (a % 9223372036854775808).toNat = 0 := by omega
      unfold sval; rw [z', mag_zero]; constructor
      · intro hh; split at hh <;> simp at hh
      · intro hh; omega
  simp only [c]

theorem twice_all (a : Int) (a0 : 0 ≤ a) (a1 : a < 18446744073709551616) :
    (9218868437227405312 < a % 9223372036854775808 → sumOf a a = 9221120237041090561) ∧
    (a % 9223372036854775808 ≤ 9218868437227405312 → 9214364837600034816 ≤ a % 9223372036854775808 → sumOf a a = a / 9223372036854775808 * 9223372036854775808 + 9218868437227405312) ∧
    (a % 9223372036854775808 = 0 → sumOf a a = 0) ∧
    (0 < a % 9223372036854775808 → a % 9223372036854775808 < 4503599627370496 → sumOf a a = a / 9223372036854775808 * 9223372036854775808 + 2 * (a % 9223372036854775808)) ∧
    (4503599627370496 ≤ a % 9223372036854775808 → a % 9223372036854775808 < 9214364837600034816 → sumOf a a = a + 4503599627370496) := by
  refine ⟨fun h => sumOf_nan_left a a a0 h, fun h g => ?_, fun h => ?_, fun h g => ?_, fun h g => ?_⟩
  · by_cases c : a % 9223372036854775808 = 9218868437227405312
    · rw [sumOf_inf_both a a a0 a1 c a0 a1 c, if_pos rfl]; omega
    · rw [sum_self a a0 a1 (by omega), double_mag _ (by omega), rung_mag]
      split <;> omega
  · rw [sum_self a a0 a1 (by omega)]
    have z' : (a % 9223372036854775808).toNat = 0 := by omega
    rw [z', mag_zero, Nat.mul_zero, rung_zero, if_neg (by omega)]; rfl
  · rw [sum_self a a0 a1 (by omega), double_small _ (by omega), rung_mag]
    split <;> omega
  · rw [sum_self a a0 a1 (by omega), double_mag _ (by omega), rung_mag]
    split <;> omega

end Go.Proofs.Ytojdhnecafkibaa

