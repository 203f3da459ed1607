/-
  Parts of a proof, one behind the other: AutRight, FltRound, FltJam. Each says its own conditions.
-/
import Derived.Test.YtdipddnnckfnmaaGreatM04
import Ieee.Arith

/- AutRight:
  What the document's Right returns: whether a state is right. Conditions: integers' bounds; the state's slices are there.
-/
namespace Go.Proofs.YtdipddnnckfnmaaGreat.Aut
open Go.RowKit (Below intOf)
open Reg (cf bx)

theorem rcanon_quiet (x : Int) (w : World) (m : Nat) (hx : U64 x) : Calls Tryz.prog 30 #[.int .u64 x] (w.drewN m) fun e w'' => e = .returned (.int .u64 (canon x)) ∧ ∃ j, w'' = w.drewN j :=
  (rcanon_any x _ hx.1 hx.2).mono fun _ _ h => ⟨h.1, m, h.2.symm⟩
theorem else_keys {k : Int} {s : St} (hk : keyed k = false) (h : s.keys.length + s.vals.length ≠ 0) : ¬ ElseOk k s := fun he => by
  rcases he.2.1 with h1 | ⟨h1, h2⟩
  · rw [hk] at h1; cases h1
  · rw [h1, h2] at h; exact h rfl
theorem else_reg {k : Int} {s : St} (hk : k ≠ 1) (h : s.reg ≠ 0) : ¬ ElseOk k s := fun he => by
  rcases he.1 with h1 | h1
  · exact hk h1
  · exact h h1
theorem else_votes {k : Int} {s : St} (hk : k ≠ 5) (h : s.votes.length ≠ 0 ∨ s.closed = true) : ¬ ElseOk k s := fun he => by
  rcases he.2.2 with h1 | ⟨h1, h2⟩
  · exact hk h1
  · rw [h1, h2] at h; simp at h
theorem else_yes {k : Int} {s : St} (h1 : k = 1 ∨ s.reg = 0) (h2 : keyed k = true ∨ s.keys.length + s.vals.length = 0) (h3 : k = 5 ∨ (s.votes.length = 0 ∧ s.closed = false)) : ElseOk k s := by
  refine ⟨h1, ?_, ?_⟩
  · rcases h2 with h | h
    · exact .inl h
    · exact .inr ⟨List.eq_nil_of_length_eq_zero (by omega), List.eq_nil_of_length_eq_zero (by omega)⟩
  · rcases h3 with h | ⟨h, h'⟩
    · exact .inl h
    · exact .inr ⟨List.eq_nil_of_length_eq_zero h, h'⟩

set_option maxHeartbeats 8000000 in
set_option maxRecDepth 100000 in
theorem rright_any (k p m : Int) (a v t : Sl) (s : St) (w : World) (hm : I64 m) (hS : SS w a v t s) :
    Calls Tryz.prog 19 #[cf k p m, sv s.reg a v t s.closed] w fun e w' => e = .returned (.bool (rightS k p m s)) ∧ Ext w w' := by
  obtain ⟨HT0, HF0, HX0⟩ := both_new w k p m s.reg a v t s.closed
  have HVt := Lib.hid (fun W (hW : Ext w W) => votes_any k p m a v t s W hm (hS.ext hW))
  have HKy := Lib.hid (fun W (hW : Ext w W) => keys_any k p m a v t s W hm (hS.ext hW))
  have HFt := Lib.hid (fun W => Reg.rfits_any k p m W)
  have HKd := Lib.hid (fun W => keyed_any k p m W)
  obtain ⟨ka, kn, kc⟩ := a
  obtain ⟨va, vn, vc⟩ := v
  obtain ⟨ta, tn, tc⟩ := t
  obtain ⟨r, ks, vs, vt, cl⟩ := s
  obtain ⟨hr, hK, hV, hT⟩ := hS
  have hkl := Lib.hid hK.len
  have hvl := Lib.hid hV.len
  have htl := Lib.hid hT.len
  have hkn := hK.le
  have hvn := hV.le
  have htn := hT.le
  dsimp only [sv, sb] at *
  have HT := Lib.hid HT0
  have HF := Lib.hid HF0
  have HX := Lib.hid HX0
  clear HT0 HF0 HX0 hK hV hT
  by_cases hf : fits k p m = true
  · have hf' : Reg.fits k p m = true := hf
    rw [hf'] at HFt
    have hfk := fits_of hf
    have hrw : RowKit.Hid (rightS k p m ⟨r, ks, vs, vt, cl⟩ = (decide (ElseOk k ⟨r, ks, vs, vt, cl⟩) && (if k = 1 then decide (canon r = r) else if keyed k then decide (KeysOk k m ⟨r, ks, vs, vt, cl⟩) else decide (VotesOk m ⟨r, ks, vs, vt, cl⟩)))) := Lib.hid (by unfold rightS; rw [hf, Bool.true_and])
    clear hf hf'
    by_cases hk : k = 1
    · have hk1 : (k != 1) = false := by simpa using hk
      have hk1' : (k == 1) = true := by simpa using hk
      have hk5 : (k != 5) = true := by simp; omega
      have hk5n : k ≠ 5 := by omega
      have hkk : keyed k = false := by unfold keyed; exact decide_eq_false (by omega)
      rw [hkk] at HKd
      by_cases hl : kn + vn = 0
      · have hlb : decide ((0 : Int) < (kn : Int) + vn) = false := decide_eq_false (by omega)
        have hwb : IntKind.i64.wrap ((kn : Int) + vn) = kn + vn := IntWalk.i64_in _ (by omega)
        by_cases ht : tn = 0
        · have htb : decide ((0 : Int) < (tn : Int)) = false := decide_eq_false (by omega)
          have htb2 : decide (0 < tn) = false := decide_eq_false (by omega)
          by_cases hc : cl = true
          · subst hc
            have hz : RowKit.Hid (rightS k p m ⟨r, ks, vs, vt, true⟩ = false) := Lib.hid (by rw [hrw.out, decide_eq_false (else_votes hk5n (.inr rfl)), Bool.false_and])
            try clear hk
            try clear ht
            try clear hl
            try clear hr0
            try clear h5
            try clear hkk
            try clear hk5n
            go_enter Tryz.func19, Tryz.ntmps19
            go_wp2_with (first
                | (go_at_call 34; (with_reducible refine (HFt.out _).mono ?_); rintro e w1 ⟨rfl, hw1⟩; have hE : Ext _ w1 := hw1 ▸ Ext.new _ _; clear hw1; replace HX := Lib.hid (HX.out.trans hE); replace HT := Lib.hid (HT.out.ext hE); replace HF := Lib.hid (HF.out.ext hE); obtain ⟨c0, c1, c2⟩ := HT.out; obtain ⟨d0, d1, d2, d3, d4⟩ := HF.out)
                | (go_at_call 40; (with_reducible refine (HKd.out _).mono ?_); rintro e w1 ⟨rfl, hE⟩; replace HX := Lib.hid (HX.out.trans hE); replace HT := Lib.hid (HT.out.ext hE); replace HF := Lib.hid (HF.out.ext hE); obtain ⟨c0, c1, c2⟩ := HT.out; obtain ⟨d0, d1, d2, d3, d4⟩ := HF.out)
                | (go_at_call 41; (with_reducible refine (HKy.out _ HX.out).mono ?_); rintro e w1 ⟨rfl, hE⟩; replace HX := Lib.hid (HX.out.trans hE))
                | (go_at_call 42; (with_reducible refine (HVt.out _ HX.out).mono ?_); rintro e w1 ⟨rfl, hE⟩; replace HX := Lib.hid (HX.out.trans hE)))
            go_ret
            exact ⟨ret_bool hz.out.symm, HX.out⟩
          · obtain rfl : cl = false := by simpa using hc
            have hz : RowKit.Hid (rightS k p m ⟨r, ks, vs, vt, false⟩ = decide (canon r = r)) := Lib.hid (by rw [hrw.out, decide_eq_true (else_yes (s := ⟨r, ks, vs, vt, false⟩) (.inl hk) (.inr (by simp only; rw [hkl.out, hvl.out]; exact hl)) (.inr ⟨by simp only; rw [htl.out]; exact ht, rfl⟩)), Bool.true_and, if_pos hk])
            have hq : RowKit.Hid ((canon r == r) = decide (canon r = r)) := Lib.hid (by by_cases h : canon r = r <;> simp [h])
            try clear hk
            try clear ht
            try clear hl
            try clear hr0
            try clear h5
            try clear hkk
            try clear hk5n
            go_enter Tryz.func19, Tryz.ntmps19
            go_wp2_with (first
                | (go_at_call 34; (with_reducible refine (HFt.out _).mono ?_); rintro e w1 ⟨rfl, hw1⟩; have hE : Ext _ w1 := hw1 ▸ Ext.new _ _; clear hw1; replace HX := Lib.hid (HX.out.trans hE); replace HT := Lib.hid (HT.out.ext hE); replace HF := Lib.hid (HF.out.ext hE); obtain ⟨c0, c1, c2⟩ := HT.out; obtain ⟨d0, d1, d2, d3, d4⟩ := HF.out)
                | (go_at_call 40; (with_reducible refine (HKd.out _).mono ?_); rintro e w1 ⟨rfl, hE⟩; replace HX := Lib.hid (HX.out.trans hE); replace HT := Lib.hid (HT.out.ext hE); replace HF := Lib.hid (HF.out.ext hE); obtain ⟨c0, c1, c2⟩ := HT.out; obtain ⟨d0, d1, d2, d3, d4⟩ := HF.out)
                | (go_at_call 41; (with_reducible refine (HKy.out _ HX.out).mono ?_); rintro e w1 ⟨rfl, hE⟩; replace HX := Lib.hid (HX.out.trans hE))
                | (go_at_call 42; (with_reducible refine (HVt.out _ HX.out).mono ?_); rintro e w1 ⟨rfl, hE⟩; replace HX := Lib.hid (HX.out.trans hE)))
            go_quiet ((go_at_call 30; exact rcanon_quiet _ _ _ hr))
            go_wp2_with (fail)
            go_ret
            exact ⟨ret_bool (by rw [hz.out, hq.out]), HX.out.drewN nq⟩
        · have htb : decide ((0 : Int) < (tn : Int)) = true := decide_eq_true (by omega)
          have htb2 : decide (0 < tn) = true := decide_eq_true (by omega)
          have hz : RowKit.Hid (rightS k p m ⟨r, ks, vs, vt, cl⟩ = false) := Lib.hid (by rw [hrw.out, decide_eq_false (else_votes hk5n (.inl (by simp only; rw [htl.out]; exact ht))), Bool.false_and])
          try clear hk
          try clear ht
          try clear hl
          try clear hr0
          try clear h5
          try clear hkk
          try clear hk5n
          go_enter Tryz.func19, Tryz.ntmps19
          go_wp2_with (first
              | (go_at_call 34; (with_reducible refine (HFt.out _).mono ?_); rintro e w1 ⟨rfl, hw1⟩; have hE : Ext _ w1 := hw1 ▸ Ext.new _ _; clear hw1; replace HX := Lib.hid (HX.out.trans hE); replace HT := Lib.hid (HT.out.ext hE); replace HF := Lib.hid (HF.out.ext hE); obtain ⟨c0, c1, c2⟩ := HT.out; obtain ⟨d0, d1, d2, d3, d4⟩ := HF.out)
              | (go_at_call 40; (with_reducible refine (HKd.out _).mono ?_); rintro e w1 ⟨rfl, hE⟩; replace HX := Lib.hid (HX.out.trans hE); replace HT := Lib.hid (HT.out.ext hE); replace HF := Lib.hid (HF.out.ext hE); obtain ⟨c0, c1, c2⟩ := HT.out; obtain ⟨d0, d1, d2, d3, d4⟩ := HF.out)
              | (go_at_call 41; (with_reducible refine (HKy.out _ HX.out).mono ?_); rintro e w1 ⟨rfl, hE⟩; replace HX := Lib.hid (HX.out.trans hE))
              | (go_at_call 42; (with_reducible refine (HVt.out _ HX.out).mono ?_); rintro e w1 ⟨rfl, hE⟩; replace HX := Lib.hid (HX.out.trans hE)))
          go_ret
          exact ⟨ret_bool hz.out.symm, HX.out⟩
      · have hlb : decide ((0 : Int) < (kn : Int) + vn) = true := decide_eq_true (by omega)
        have hwb : IntKind.i64.wrap ((kn : Int) + vn) = kn + vn := IntWalk.i64_in _ (by omega)
        have hz : RowKit.Hid (rightS k p m ⟨r, ks, vs, vt, cl⟩ = false) := Lib.hid (by rw [hrw.out, decide_eq_false (else_keys hkk (by simp only; rw [hkl.out, hvl.out]; exact hl)), Bool.false_and])
        try clear hk
        try clear ht
        try clear hl
        try clear hr0
        try clear h5
        try clear hkk
        try clear hk5n
        go_enter Tryz.func19, Tryz.ntmps19
        go_wp2_with (first
            | (go_at_call 34; (with_reducible refine (HFt.out _).mono ?_); rintro e w1 ⟨rfl, hw1⟩; have hE : Ext _ w1 := hw1 ▸ Ext.new _ _; clear hw1; replace HX := Lib.hid (HX.out.trans hE); replace HT := Lib.hid (HT.out.ext hE); replace HF := Lib.hid (HF.out.ext hE); obtain ⟨c0, c1, c2⟩ := HT.out; obtain ⟨d0, d1, d2, d3, d4⟩ := HF.out)
            | (go_at_call 40; (with_reducible refine (HKd.out _).mono ?_); rintro e w1 ⟨rfl, hE⟩; replace HX := Lib.hid (HX.out.trans hE); replace HT := Lib.hid (HT.out.ext hE); replace HF := Lib.hid (HF.out.ext hE); obtain ⟨c0, c1, c2⟩ := HT.out; obtain ⟨d0, d1, d2, d3, d4⟩ := HF.out)
            | (go_at_call 41; (with_reducible refine (HKy.out _ HX.out).mono ?_); rintro e w1 ⟨rfl, hE⟩; replace HX := Lib.hid (HX.out.trans hE))
            | (go_at_call 42; (with_reducible refine (HVt.out _ HX.out).mono ?_); rintro e w1 ⟨rfl, hE⟩; replace HX := Lib.hid (HX.out.trans hE)))
        go_ret
        exact ⟨ret_bool hz.out.symm, HX.out⟩
    · have hk1 : (k != 1) = true := by simpa using hk
      have hk1' : (k == 1) = false := by simpa using hk
      by_cases hkk : keyed k = true
      · have hkc := keyed_cases hkk
        have hk5 : (k != 5) = true := by simp; omega
        have hk5n : k ≠ 5 := by omega
        rw [hkk] at HKd
        clear hkc
        by_cases hr0 : r = 0
        · have hrb : (r != 0) = false := by simpa using hr0
          by_cases ht : tn = 0
          · have htb : decide ((0 : Int) < (tn : Int)) = false := decide_eq_false (by omega)
            have htb2 : decide (0 < tn) = false := decide_eq_false (by omega)
            by_cases hc : cl = true
            · subst hc
              have hz : RowKit.Hid (rightS k p m ⟨r, ks, vs, vt, true⟩ = false) := Lib.hid (by rw [hrw.out, decide_eq_false (else_votes hk5n (.inr rfl)), Bool.false_and])
              try clear hk
              try clear ht
              try clear hl
              try clear hr0
              try clear h5
              try clear hkk
              try clear hk5n
              go_enter Tryz.func19, Tryz.ntmps19
              go_wp2_with (first
                  | (go_at_call 34; (with_reducible refine (HFt.out _).mono ?_); rintro e w1 ⟨rfl, hw1⟩; have hE : Ext _ w1 := hw1 ▸ Ext.new _ _; clear hw1; replace HX := Lib.hid (HX.out.trans hE); replace HT := Lib.hid (HT.out.ext hE); replace HF := Lib.hid (HF.out.ext hE); obtain ⟨c0, c1, c2⟩ := HT.out; obtain ⟨d0, d1, d2, d3, d4⟩ := HF.out)
                  | (go_at_call 40; (with_reducible refine (HKd.out _).mono ?_); rintro e w1 ⟨rfl, hE⟩; replace HX := Lib.hid (HX.out.trans hE); replace HT := Lib.hid (HT.out.ext hE); replace HF := Lib.hid (HF.out.ext hE); obtain ⟨c0, c1, c2⟩ := HT.out; obtain ⟨d0, d1, d2, d3, d4⟩ := HF.out)
                  | (go_at_call 41; (with_reducible refine (HKy.out _ HX.out).mono ?_); rintro e w1 ⟨rfl, hE⟩; replace HX := Lib.hid (HX.out.trans hE))
                  | (go_at_call 42; (with_reducible refine (HVt.out _ HX.out).mono ?_); rintro e w1 ⟨rfl, hE⟩; replace HX := Lib.hid (HX.out.trans hE)))
              go_ret
              exact ⟨ret_bool hz.out.symm, HX.out⟩
            · obtain rfl : cl = false := by simpa using hc
              have hz : RowKit.Hid (rightS k p m ⟨r, ks, vs, vt, false⟩ = decide (KeysOk k m ⟨r, ks, vs, vt, false⟩)) := Lib.hid (by rw [hrw.out, decide_eq_true (else_yes (s := ⟨r, ks, vs, vt, false⟩) (.inr hr0) (.inl hkk) (.inr ⟨by simp only; rw [htl.out]; exact ht, rfl⟩)), Bool.true_and, if_neg hk, if_pos hkk])
              try clear hk
              try clear ht
              try clear hl
              try clear hr0
              try clear h5
              try clear hkk
              try clear hk5n
              go_enter Tryz.func19, Tryz.ntmps19
              go_wp2_with (first
                  | (go_at_call 34; (with_reducible refine (HFt.out _).mono ?_); rintro e w1 ⟨rfl, hw1⟩; have hE : Ext _ w1 := hw1 ▸ Ext.new _ _; clear hw1; replace HX := Lib.hid (HX.out.trans hE); replace HT := Lib.hid (HT.out.ext hE); replace HF := Lib.hid (HF.out.ext hE); obtain ⟨c0, c1, c2⟩ := HT.out; obtain ⟨d0, d1, d2, d3, d4⟩ := HF.out)
                  | (go_at_call 40; (with_reducible refine (HKd.out _).mono ?_); rintro e w1 ⟨rfl, hE⟩; replace HX := Lib.hid (HX.out.trans hE); replace HT := Lib.hid (HT.out.ext hE); replace HF := Lib.hid (HF.out.ext hE); obtain ⟨c0, c1, c2⟩ := HT.out; obtain ⟨d0, d1, d2, d3, d4⟩ := HF.out)
                  | (go_at_call 41; (with_reducible refine (HKy.out _ HX.out).mono ?_); rintro e w1 ⟨rfl, hE⟩; replace HX := Lib.hid (HX.out.trans hE))
                  | (go_at_call 42; (with_reducible refine (HVt.out _ HX.out).mono ?_); rintro e w1 ⟨rfl, hE⟩; replace HX := Lib.hid (HX.out.trans hE)))
              go_ret
              exact ⟨ret_bool hz.out.symm, HX.out⟩
          · have htb : decide ((0 : Int) < (tn : Int)) = true := decide_eq_true (by omega)
            have htb2 : decide (0 < tn) = true := decide_eq_true (by omega)
            have hz : RowKit.Hid (rightS k p m ⟨r, ks, vs, vt, cl⟩ = false) := Lib.hid (by rw [hrw.out, decide_eq_false (else_votes hk5n (.inl (by simp only; rw [htl.out]; exact ht))), Bool.false_and])
            try clear hk
            try clear ht
            try clear hl
            try clear hr0
            try clear h5
            try clear hkk
            try clear hk5n
            go_enter Tryz.func19, Tryz.ntmps19
            go_wp2_with (first
                | (go_at_call 34; (with_reducible refine (HFt.out _).mono ?_); rintro e w1 ⟨rfl, hw1⟩; have hE : Ext _ w1 := hw1 ▸ Ext.new _ _; clear hw1; replace HX := Lib.hid (HX.out.trans hE); replace HT := Lib.hid (HT.out.ext hE); replace HF := Lib.hid (HF.out.ext hE); obtain ⟨c0, c1, c2⟩ := HT.out; obtain ⟨d0, d1, d2, d3, d4⟩ := HF.out)
                | (go_at_call 40; (with_reducible refine (HKd.out _).mono ?_); rintro e w1 ⟨rfl, hE⟩; replace HX := Lib.hid (HX.out.trans hE); replace HT := Lib.hid (HT.out.ext hE); replace HF := Lib.hid (HF.out.ext hE); obtain ⟨c0, c1, c2⟩ := HT.out; obtain ⟨d0, d1, d2, d3, d4⟩ := HF.out)
                | (go_at_call 41; (with_reducible refine (HKy.out _ HX.out).mono ?_); rintro e w1 ⟨rfl, hE⟩; replace HX := Lib.hid (HX.out.trans hE))
                | (go_at_call 42; (with_reducible refine (HVt.out _ HX.out).mono ?_); rintro e w1 ⟨rfl, hE⟩; replace HX := Lib.hid (HX.out.trans hE)))
            go_ret
            exact ⟨ret_bool hz.out.symm, HX.out⟩
        · have hrb : (r != 0) = true := by simpa using hr0
          have hz : RowKit.Hid (rightS k p m ⟨r, ks, vs, vt, cl⟩ = false) := Lib.hid (by rw [hrw.out, decide_eq_false (else_reg hk hr0), Bool.false_and])
          try clear hk
          try clear ht
          try clear hl
          try clear hr0
          try clear h5
          try clear hkk
          try clear hk5n
          go_enter Tryz.func19, Tryz.ntmps19
          go_wp2_with (first
              | (go_at_call 34; (with_reducible refine (HFt.out _).mono ?_); rintro e w1 ⟨rfl, hw1⟩; have hE : Ext _ w1 := hw1 ▸ Ext.new _ _; clear hw1; replace HX := Lib.hid (HX.out.trans hE); replace HT := Lib.hid (HT.out.ext hE); replace HF := Lib.hid (HF.out.ext hE); obtain ⟨c0, c1, c2⟩ := HT.out; obtain ⟨d0, d1, d2, d3, d4⟩ := HF.out)
              | (go_at_call 40; (with_reducible refine (HKd.out _).mono ?_); rintro e w1 ⟨rfl, hE⟩; replace HX := Lib.hid (HX.out.trans hE); replace HT := Lib.hid (HT.out.ext hE); replace HF := Lib.hid (HF.out.ext hE); obtain ⟨c0, c1, c2⟩ := HT.out; obtain ⟨d0, d1, d2, d3, d4⟩ := HF.out)
              | (go_at_call 41; (with_reducible refine (HKy.out _ HX.out).mono ?_); rintro e w1 ⟨rfl, hE⟩; replace HX := Lib.hid (HX.out.trans hE))
              | (go_at_call 42; (with_reducible refine (HVt.out _ HX.out).mono ?_); rintro e w1 ⟨rfl, hE⟩; replace HX := Lib.hid (HX.out.trans hE)))
          go_ret
          exact ⟨ret_bool hz.out.symm, HX.out⟩
      · have hkk : keyed k = false := by simpa using hkk
        have h5 : k = 5 := by
          have h2' : ¬ (k = 2 ∨ k = 3 ∨ k = 4) := fun h => by rw [keyed, decide_eq_true h] at hkk; cases hkk
          omega
        have hk5 : (k != 5) = false := by simpa using h5
        rw [hkk] at HKd
        by_cases hr0 : r = 0
        · have hrb : (r != 0) = false := by simpa using hr0
          by_cases hl : kn + vn = 0
          · have hlb : decide ((0 : Int) < (kn : Int) + vn) = false := decide_eq_false (by omega)
            have hwb : IntKind.i64.wrap ((kn : Int) + vn) = kn + vn := IntWalk.i64_in _ (by omega)
            have hz : RowKit.Hid (rightS k p m ⟨r, ks, vs, vt, cl⟩ = decide (VotesOk m ⟨r, ks, vs, vt, cl⟩)) := Lib.hid (by rw [hrw.out, decide_eq_true (else_yes (s := ⟨r, ks, vs, vt, cl⟩) (.inr hr0) (.inr (by simp only; rw [hkl.out, hvl.out]; exact hl)) (.inl h5)), Bool.true_and, if_neg hk, if_neg (by rw [hkk]; simp)])
            try clear hk
            try clear ht
            try clear hl
            try clear hr0
            try clear h5
            try clear hkk
            try clear hk5n
            go_enter Tryz.func19, Tryz.ntmps19
            go_wp2_with (first
                | (go_at_call 34; (with_reducible refine (HFt.out _).mono ?_); rintro e w1 ⟨rfl, hw1⟩; have hE : Ext _ w1 := hw1 ▸ Ext.new _ _; clear hw1; replace HX := Lib.hid (HX.out.trans hE); replace HT := Lib.hid (HT.out.ext hE); replace HF := Lib.hid (HF.out.ext hE); obtain ⟨c0, c1, c2⟩ := HT.out; obtain ⟨d0, d1, d2, d3, d4⟩ := HF.out)
                | (go_at_call 40; (with_reducible refine (HKd.out _).mono ?_); rintro e w1 ⟨rfl, hE⟩; replace HX := Lib.hid (HX.out.trans hE); replace HT := Lib.hid (HT.out.ext hE); replace HF := Lib.hid (HF.out.ext hE); obtain ⟨c0, c1, c2⟩ := HT.out; obtain ⟨d0, d1, d2, d3, d4⟩ := HF.out)
                | (go_at_call 41; (with_reducible refine (HKy.out _ HX.out).mono ?_); rintro e w1 ⟨rfl, hE⟩; replace HX := Lib.hid (HX.out.trans hE))
                | (go_at_call 42; (with_reducible refine (HVt.out _ HX.out).mono ?_); rintro e w1 ⟨rfl, hE⟩; replace HX := Lib.hid (HX.out.trans hE)))
            go_ret
            exact ⟨ret_bool hz.out.symm, HX.out⟩
          · have hlb : decide ((0 : Int) < (kn : Int) + vn) = true := decide_eq_true (by omega)
            have hwb : IntKind.i64.wrap ((kn : Int) + vn) = kn + vn := IntWalk.i64_in _ (by omega)
            have hz : RowKit.Hid (rightS k p m ⟨r, ks, vs, vt, cl⟩ = false) := Lib.hid (by rw [hrw.out, decide_eq_false (else_keys hkk (by simp only; rw [hkl.out, hvl.out]; exact hl)), Bool.false_and])
            try clear hk
            try clear ht
            try clear hl
            try clear hr0
            try clear h5
            try clear hkk
            try clear hk5n
            go_enter Tryz.func19, Tryz.ntmps19
            go_wp2_with (first
                | (go_at_call 34; (with_reducible refine (HFt.out _).mono ?_); rintro e w1 ⟨rfl, hw1⟩; have hE : Ext _ w1 := hw1 ▸ Ext.new _ _; clear hw1; replace HX := Lib.hid (HX.out.trans hE); replace HT := Lib.hid (HT.out.ext hE); replace HF := Lib.hid (HF.out.ext hE); obtain ⟨c0, c1, c2⟩ := HT.out; obtain ⟨d0, d1, d2, d3, d4⟩ := HF.out)
                | (go_at_call 40; (with_reducible refine (HKd.out _).mono ?_); rintro e w1 ⟨rfl, hE⟩; replace HX := Lib.hid (HX.out.trans hE); replace HT := Lib.hid (HT.out.ext hE); replace HF := Lib.hid (HF.out.ext hE); obtain ⟨c0, c1, c2⟩ := HT.out; obtain ⟨d0, d1, d2, d3, d4⟩ := HF.out)
                | (go_at_call 41; (with_reducible refine (HKy.out _ HX.out).mono ?_); rintro e w1 ⟨rfl, hE⟩; replace HX := Lib.hid (HX.out.trans hE))
                | (go_at_call 42; (with_reducible refine (HVt.out _ HX.out).mono ?_); rintro e w1 ⟨rfl, hE⟩; replace HX := Lib.hid (HX.out.trans hE)))
            go_ret
            exact ⟨ret_bool hz.out.symm, HX.out⟩
        · have hrb : (r != 0) = true := by simpa using hr0
          have hz : RowKit.Hid (rightS k p m ⟨r, ks, vs, vt, cl⟩ = false) := Lib.hid (by rw [hrw.out, decide_eq_false (else_reg hk hr0), Bool.false_and])
          try clear hk
          try clear ht
          try clear hl
          try clear hr0
          try clear h5
          try clear hkk
          try clear hk5n
          go_enter Tryz.func19, Tryz.ntmps19
          go_wp2_with (first
              | (go_at_call 34; (with_reducible refine (HFt.out _).mono ?_); rintro e w1 ⟨rfl, hw1⟩; have hE : Ext _ w1 := hw1 ▸ Ext.new _ _; clear hw1; replace HX := Lib.hid (HX.out.trans hE); replace HT := Lib.hid (HT.out.ext hE); replace HF := Lib.hid (HF.out.ext hE); obtain ⟨c0, c1, c2⟩ := HT.out; obtain ⟨d0, d1, d2, d3, d4⟩ := HF.out)
              | (go_at_call 40; (with_reducible refine (HKd.out _).mono ?_); rintro e w1 ⟨rfl, hE⟩; replace HX := Lib.hid (HX.out.trans hE); replace HT := Lib.hid (HT.out.ext hE); replace HF := Lib.hid (HF.out.ext hE); obtain ⟨c0, c1, c2⟩ := HT.out; obtain ⟨d0, d1, d2, d3, d4⟩ := HF.out)
              | (go_at_call 41; (with_reducible refine (HKy.out _ HX.out).mono ?_); rintro e w1 ⟨rfl, hE⟩; replace HX := Lib.hid (HX.out.trans hE))
              | (go_at_call 42; (with_reducible refine (HVt.out _ HX.out).mono ?_); rintro e w1 ⟨rfl, hE⟩; replace HX := Lib.hid (HX.out.trans hE)))
          go_ret
          exact ⟨ret_bool hz.out.symm, HX.out⟩
  · have hf' : Reg.fits k p m = false := by have : Reg.fits k p m = fits k p m := rfl; rw [this]; simpa using hf
    rw [hf'] at HFt
    have hz : RowKit.Hid (rightS k p m ⟨r, ks, vs, vt, cl⟩ = false) := Lib.hid (by
      have : fits k p m = false := by simpa using hf
      unfold rightS; rw [this, Bool.false_and])
    clear hf hf'
    try clear hk
    try clear ht
    try clear hl
    try clear hr0
    try clear h5
    try clear hkk
    try clear hk5n
    go_enter Tryz.func19, Tryz.ntmps19
    go_wp2_with (first
        | (go_at_call 34; (with_reducible refine (HFt.out _).mono ?_); rintro e w1 ⟨rfl, hw1⟩; have hE : Ext _ w1 := hw1 ▸ Ext.new _ _; clear hw1; replace HX := Lib.hid (HX.out.trans hE); replace HT := Lib.hid (HT.out.ext hE); replace HF := Lib.hid (HF.out.ext hE); obtain ⟨c0, c1, c2⟩ := HT.out; obtain ⟨d0, d1, d2, d3, d4⟩ := HF.out)
        | (go_at_call 40; (with_reducible refine (HKd.out _).mono ?_); rintro e w1 ⟨rfl, hE⟩; replace HX := Lib.hid (HX.out.trans hE); replace HT := Lib.hid (HT.out.ext hE); replace HF := Lib.hid (HF.out.ext hE); obtain ⟨c0, c1, c2⟩ := HT.out; obtain ⟨d0, d1, d2, d3, d4⟩ := HF.out)
        | (go_at_call 41; (with_reducible refine (HKy.out _ HX.out).mono ?_); rintro e w1 ⟨rfl, hE⟩; replace HX := Lib.hid (HX.out.trans hE))
        | (go_at_call 42; (with_reducible refine (HVt.out _ HX.out).mono ?_); rintro e w1 ⟨rfl, hE⟩; replace HX := Lib.hid (HX.out.trans hE)))
    go_ret
    exact ⟨ret_bool hz.out.symm, HX.out⟩

end Go.Proofs.YtdipddnnckfnmaaGreat.Aut

/- FltRound:
  How the model rounds, over whole numbers: the rung of a number of least units, rounded to the nearest and to the even one of two; that it takes each rung's number back to the rung. No condition on sizes.
-/
namespace Go.Proofs.YtdipddnnckfnmaaGreat

/-- V over 2 to the L, to the nearest, to the even one of two. -/
def rne (V L : Nat) : Nat := V / 2 ^ L + (if 2 ^ L < 2 * (V % 2 ^ L) ∨ (2 ^ L = 2 * (V % 2 ^ L) ∧ V / 2 ^ L % 2 = 1) then 1 else 0)

theorem cut_rne (neg : Bool) (n d : Nat) (h : d ≤ n.log2 + 2) : Ieee.Toward.even.cut neg n d = rne n d := by
  unfold Ieee.Toward.cut rne
  rw [Nat.min_eq_left h, Nat.one_shiftLeft]
  by_cases c : 2 ^ d < 2 * (n % 2 ^ d) ∨ (2 ^ d = 2 * (n % 2 ^ d) ∧ n / 2 ^ d % 2 = 1)
  · rw [if_pos c]
    rcases c with c | ⟨c, e⟩
    · simp [c]
    · simp [← c, e]
  · rw [if_neg c]
    have c1 : ¬ 2 ^ d < 2 * (n % 2 ^ d) := fun h => c (Or.inl h)
    have c2 : ¬ (2 ^ d = 2 * (n % 2 ^ d) ∧ n / 2 ^ d % 2 = 1) := fun h => c (Or.inr h)
    have c3 : ((2 ^ d == 2 * (n % 2 ^ d)) && (n / 2 ^ d % 2 == 1)) = false := by
      rw [Bool.eq_false_iff]; intro h; simp only [Bool.and_eq_true, beq_iff_eq] at h; exact c2 h
    simp only [c1, c3]; simp

theorem rne_zero (V : Nat) : rne V 0 = V := by simp [rne, Nat.mod_one]

theorem rne_scale (m L k : Nat) : rne (m * 2 ^ k) (L + k) = rne m L := by
  have hk : 0 < 2 ^ k := Nat.two_pow_pos k
  have e1 : m * 2 ^ k / 2 ^ (L + k) = m / 2 ^ L := by rw [Nat.pow_add, Nat.mul_div_mul_right _ _ hk]
  have e2 : m * 2 ^ k % 2 ^ (L + k) = m % 2 ^ L * 2 ^ k := by rw [Nat.pow_add, Nat.mul_mod_mul_right]
  unfold rne
  rw [e1, e2, Nat.pow_add]
  have a : (2 ^ L * 2 ^ k < 2 * (m % 2 ^ L * 2 ^ k)) ↔ (2 ^ L < 2 * (m % 2 ^ L)) := by
    rw [← Nat.mul_assoc]; exact Nat.mul_lt_mul_right hk
  have b : (2 ^ L * 2 ^ k = 2 * (m % 2 ^ L * 2 ^ k)) ↔ (2 ^ L = 2 * (m % 2 ^ L)) := by
    rw [← Nat.mul_assoc]; exact Nat.mul_left_inj (by omega)
  simp only [a, b]

theorem rne_exact (m L : Nat) : rne (m * 2 ^ L) L = m := by
  have := rne_scale m 0 L
  rw [Nat.zero_add, rne_zero] at this
  exact this

/-- The rung of a number of least units, without a greatest one. -/
def rungOf (V : Nat) : Nat := (V.log2 - 52) * 2 ^ 52 + rne V (V.log2 - 52)

theorem log2_mul_pow (m k : Nat) (h : m ≠ 0) : (m * 2 ^ k).log2 = m.log2 + k := by
  have h2 : m * 2 ^ k ≠ 0 := Nat.mul_ne_zero h (by have := Nat.two_pow_pos k; omega)
  rw [Nat.log2_eq_iff h2]
  have l := Nat.log2_self_le h
  have u := @Nat.lt_log2_self m
  constructor
  · rw [Nat.pow_add]; exact Nat.mul_le_mul_right _ l
  · rw [show m.log2 + k + 1 = (m.log2 + 1) + k from by omega, Nat.pow_add]
    exact Nat.mul_lt_mul_of_pos_right u (Nat.two_pow_pos k)

theorem leastPlace_double : Ieee.double.leastPlace = -1074 := by decide

theorem nearest_rung (neg : Bool) (m k : Nat) :
    Ieee.double.nearest neg m (-1074 + (k : Int)) = Ieee.double.word neg (min (rungOf (m * 2 ^ k)) 9218868437227405312) := by
  unfold Ieee.Format.nearest
  by_cases h : m = 0
  · subst h; simp [rungOf, rne]
  · rw [if_neg h, leastPlace_double]
    have hf : (Ieee.double.fractionBits : Int) = 52 := rfl
    have hb : Ieee.double.binade = 2 ^ 52 := rfl
    have hi : Ieee.double.infRung = 9218868437227405312 := by decide
    rw [hf, hb, hi]
    simp only
    have hl := log2_mul_pow m k h
    have e1 : (max ((-1074 : Int) + k + m.log2 - 52) (-1074) - -1074).toNat = m.log2 + k - 52 := by omega
    have e2 : ((-1074 : Int) + k - max ((-1074 : Int) + k + m.log2 - 52) (-1074)).toNat = k - (m.log2 + k - 52) := by omega
    have e3 : (max ((-1074 : Int) + k + m.log2 - 52) (-1074) - ((-1074 : Int) + k)).toNat = (m.log2 + k - 52) - k := by omega
    rw [e1, e2, e3, Nat.shiftLeft_eq]
    suffices key : Ieee.Toward.even.cut neg (m * 2 ^ (k - (m.log2 + k - 52))) (m.log2 + k - 52 - k) = rne (m * 2 ^ k) (m.log2 + k - 52) by
      rw [key]; unfold rungOf; rw [hl]
    by_cases c : m.log2 + k - 52 ≤ k
    · obtain ⟨d, hd⟩ : ∃ d, k = d + (m.log2 + k - 52) := ⟨k - (m.log2 + k - 52), by omega⟩
      generalize m.log2 + k - 52 = L at *
      rw [show L - k = 0 from by omega, cut_rne _ _ _ (by omega), rne_zero, hd, show d + L - L = d from by omega, Nat.pow_add, ← Nat.mul_assoc, rne_exact]
    · rw [show k - (m.log2 + k - 52) = 0 from by omega, Nat.pow_zero, Nat.mul_one]
      rw [cut_rne _ _ _ (by omega)]
      have s := rne_scale m (m.log2 + k - 52 - k) k
      rw [show m.log2 + k - 52 - k + k = m.log2 + k - 52 from by omega] at s
      exact s.symm

/-- The number of least units that a rung stands for. -/
def magOf (g : Nat) : Nat := if g < 2 ^ 52 then g else (2 ^ 52 + g % 2 ^ 52) * 2 ^ (g / 2 ^ 52 - 1)

theorem log2_small (m : Nat) (h1 : 2 ^ 52 ≤ m) (h2 : m < 2 ^ 53) : m.log2 = 52 := (Nat.log2_eq_iff (by omega)).2 ⟨h1, h2⟩

theorem log2_lt (m k : Nat) (h : m < 2 ^ (k + 1)) : m.log2 ≤ k := by
  by_cases z : m = 0
  · subst z; simp
  · have := (Nat.log2_lt z).2 h; omega

theorem rung_mag (g : Nat) : rungOf (magOf g) = g := by
  unfold magOf
  split
  · rename_i h
    have l : g.log2 ≤ 51 := log2_lt g 51 h
    unfold rungOf
    rw [show g.log2 - 52 = 0 from by omega, rne_zero]; omega
  · rename_i h
    have hm : 2 ^ 52 ≤ 2 ^ 52 + g % 2 ^ 52 := by omega
    have hm2 : 2 ^ 52 + g % 2 ^ 52 < 2 ^ 53 := by omega
    have l := log2_small _ hm hm2
    unfold rungOf
    rw [log2_mul_pow _ _ (by omega), l, show 52 + (g / 2 ^ 52 - 1) - 52 = g / 2 ^ 52 - 1 from by omega, rne_exact]
    omega

theorem rung_pos (V : Nat) (h : V ≠ 0) : rungOf V ≠ 0 := by
  unfold rungOf
  by_cases c : V.log2 ≤ 52
  · rw [show V.log2 - 52 = 0 from by omega, rne_zero]; omega
  · have : 1 ≤ V.log2 - 52 := by omega
    have : 2 ^ 52 ≤ (V.log2 - 52) * 2 ^ 52 := Nat.le_mul_of_pos_left _ this
    omega

theorem rung_zero : rungOf 0 = 0 := by decide

end Go.Proofs.YtdipddnnckfnmaaGreat

/- FltJam:
  Numbers shifted to the right with the last bit kept: set if any bit is lost. Rounded in eighths they are rounded as the numbers themselves. No condition but those that each fact names.
-/
namespace Go.Proofs.YtdipddnnckfnmaaGreat

/-- T, d bits lower, the last bit being set if any bit is lost. -/
def jam (T d : Nat) : Nat := 2 * (T / 2 ^ (d + 1)) + (if T % 2 ^ (d + 1) = 0 then 0 else 1)

def jam1 (s : Nat) : Nat := 2 * (s / 4) + (if s % 4 = 0 then 0 else 1)

theorem jam_zero (T : Nat) : jam T 0 = T := by
  unfold jam
  rw [show 2 ^ (0 + 1) = 2 from rfl]
  split <;> omega

/-- T over P times c, and what is left. -/
theorem div_more (T P c : Nat) : T / (P * c) = T / P / c := (Nat.div_div_eq_div_mul T P c).symm

theorem jam_succ (T d : Nat) : jam T (d + 1) = jam1 (jam T d) := by
  unfold jam jam1
  rw [show d + 1 + 1 = (d + 1) + 1 from rfl, Nat.pow_succ 2 (d + 1)]
  have hp := Nat.two_pow_pos (d + 1)
  generalize 2 ^ (d + 1) = P at hp ⊢
  rw [div_more, Nat.mod_mul]
  have hr := Nat.mod_lt T hp
  generalize T / P = q
  generalize T % P = r at hr ⊢
  have h2 : q % 2 = 0 ∨ q % 2 = 1 := by omega
  rcases h2 with h | h <;> rw [h] <;> by_cases z : r = 0
  · subst z; simp; split <;> omega
  · rw [if_neg (by omega), if_neg z, if_neg (by omega)]; omega
  · rw [if_neg (by omega), if_pos z, if_neg (by omega)]; omega
  · rw [if_neg (by omega), if_neg z, if_neg (by omega)]; omega

theorem jam_scale (T d k : Nat) : jam (T * 2 ^ k) (d + k) = jam T d := by
  have hk := Nat.two_pow_pos k
  unfold jam
  rw [show d + k + 1 = (d + 1) + k from by omega, Nat.pow_add, Nat.mul_div_mul_right _ _ hk, Nat.mul_mod_mul_right]
  congr 1
  by_cases z : T % 2 ^ (d + 1) = 0
  · rw [z]; simp
  · rw [if_neg z, if_neg (Nat.mul_ne_zero z (by omega))]

theorem jam_exact (T d : Nat) : jam (T * 2 ^ d) d = T := by
  have := jam_scale T 0 d
  rw [Nat.zero_add, jam_zero] at this; exact this

theorem jam_add (m T d : Nat) : jam (2 * m * 2 ^ d + T) d = 2 * m + jam T d := by
  unfold jam
  have e : 2 * m * 2 ^ d = 2 ^ (d + 1) * m := by rw [Nat.pow_succ, Nat.mul_comm 2 m, Nat.mul_assoc, Nat.mul_comm 2, Nat.mul_comm]
  rw [e]
  have hp := Nat.two_pow_pos (d + 1)
  generalize 2 ^ (d + 1) = P at hp ⊢
  rw [Nat.mul_add_div hp, Nat.mul_add_mod]
  omega

theorem jam_sub (m T d : Nat) (h : T ≤ 2 * m * 2 ^ d) : jam (2 * m * 2 ^ d - T) d = 2 * m - jam T d := by
  unfold jam
  have e : 2 * m * 2 ^ d = 2 ^ (d + 1) * m := by rw [Nat.pow_succ, Nat.mul_comm 2 m, Nat.mul_assoc, Nat.mul_comm 2, Nat.mul_comm]
  rw [e] at h ⊢
  have hp := Nat.two_pow_pos (d + 1)
  generalize 2 ^ (d + 1) = P at hp h ⊢
  have dm := Nat.div_add_mod T P
  have hr := Nat.mod_lt T hp
  generalize T / P = q at dm ⊢
  generalize T % P = r at dm hr ⊢
  subst dm
  by_cases z : r = 0
  · subst z
    rw [Nat.add_zero, ← Nat.mul_sub, Nat.mul_div_cancel_left _ hp, Nat.mul_mod_right]
    simp; omega
  · have hq : q < m := by
      rcases Nat.lt_or_ge q m with c | c
      · exact c
      · have := Nat.mul_le_mul_left P c; omega
    obtain ⟨t, ht⟩ : ∃ t, m = q + 1 + t := ⟨m - (q + 1), by omega⟩
    have e2 : P * m - (P * q + r) = P * t + (P - r) := by
      subst ht
      rw [Nat.mul_add, Nat.mul_add, Nat.mul_one]
      generalize P * q = A
      generalize P * t = B
      omega
    rw [e2, Nat.mul_add_div hp, Nat.mul_add_mod, Nat.div_eq_of_lt (by omega), Nat.mod_eq_of_lt (by omega), if_neg (by omega), if_neg z]
    omega

theorem jam_lt_iff (T d b : Nat) : jam T d < 2 * b ↔ T < 2 * b * 2 ^ d := by
  have e : 2 * b * 2 ^ d = b * 2 ^ (d + 1) := by rw [Nat.pow_succ, Nat.mul_comm 2 b, Nat.mul_assoc, Nat.mul_comm 2]
  rw [e, ← Nat.div_lt_iff_lt_mul (Nat.two_pow_pos (d + 1))]
  unfold jam
  split <;> omega

theorem jam_eq_zero (T d : Nat) : jam T d = 0 ↔ T = 0 := by
  constructor
  · intro h
    have a := jam_lt_iff T d 1
    unfold jam at h
    have dm := Nat.div_add_mod T (2 ^ (d + 1))
    split at h
    · rename_i z
      have q : T / 2 ^ (d + 1) = 0 := by omega
      rw [q, z] at dm; omega
    · omega
  · intro h; subst h; simp [jam]

theorem rne_jam (T d : Nat) : rne (jam T d) 3 = rne T (d + 3) := by
  unfold rne
  rw [show d + 3 = (d + 1) + 2 from by omega, Nat.pow_add 2 (d + 1) 2]
  unfold jam
  have hp := Nat.two_pow_pos (d + 1)
  generalize 2 ^ (d + 1) = P at hp ⊢
  rw [show 2 ^ 2 = 4 from rfl, show 2 ^ 3 = 8 from rfl, div_more, Nat.mod_mul]
  have hr := Nat.mod_lt T hp
  generalize T / P = q
  generalize T % P = r at hr ⊢
  by_cases z : r = 0
  · rw [if_pos z]
    have h4 : q % 4 = 0 ∨ q % 4 = 1 ∨ q % 4 = 2 ∨ q % 4 = 3 := by omega
    rcases h4 with h | h | h | h <;> rw [h] <;> split <;> split <;> omega
  · rw [if_neg z]
    have h4 : q % 4 = 0 ∨ q % 4 = 1 ∨ q % 4 = 2 ∨ q % 4 = 3 := by omega
    rcases h4 with h | h | h | h <;> rw [h] <;> split <;> split <;> omega

theorem rne_jam2 (T d : Nat) : rne (2 * jam T (d + 1)) 3 = rne T (d + 3) := by
  unfold rne
  rw [show d + 3 = (d + 1 + 1) + 1 from by omega, Nat.pow_add 2 (d + 1 + 1) 1]
  unfold jam
  have hp := Nat.two_pow_pos (d + 1 + 1)
  generalize 2 ^ (d + 1 + 1) = P at hp ⊢
  rw [show 2 ^ 1 = 2 from rfl, show 2 ^ 3 = 8 from rfl, div_more, Nat.mod_mul]
  have hr := Nat.mod_lt T hp
  generalize T / P = q
  generalize T % P = r at hr ⊢
  by_cases z : r = 0
  · rw [if_pos z]
    have h4 : q % 2 = 0 ∨ q % 2 = 1 := by omega
    rcases h4 with h | h <;> rw [h] <;> split <;> split <;> omega
  · rw [if_neg z]
    have h4 : q % 2 = 0 ∨ q % 2 = 1 := by omega
    rcases h4 with h | h <;> rw [h] <;> split <;> split <;> omega

/-- What is exact may be doubled. -/
theorem jam_double (U d : Nat) (h : U % 2 ^ (d + 1) = 0) : 2 * jam U (d + 1) = jam U d := by
  obtain ⟨T, rfl⟩ := Nat.dvd_of_mod_eq_zero h
  rw [Nat.mul_comm (2 ^ (d + 1)) T, jam_exact, Nat.pow_succ, Nat.mul_comm (2 ^ d) 2, ← Nat.mul_assoc, jam_exact]; omega

theorem mod_pow_le (U d : Nat) (h : U % 2 ^ (d + 1) = 0) : U % 2 ^ d = 0 := by
  rw [Nat.pow_succ] at h
  exact Nat.mod_eq_zero_of_dvd (Nat.dvd_trans (Nat.dvd_mul_right _ _) (Nat.dvd_of_mod_eq_zero h))

/-- What made leaves: a number in eighths, and its exponent, as normal as may be. -/
theorem made_rung (V s e : Nat) (he : 1 ≤ e) (hs : s = jam (8 * V) (e - 1) ∨ s = 2 * jam (8 * V) e) (hlt : s < 72057594037927936) (hn : 36028797018963968 ≤ s ∨ e = 1) :
    rungOf V = (e - 1) * 2 ^ 52 + rne s 3 := by
  obtain ⟨k, rfl⟩ : ∃ k, e = k + 1 := ⟨e - 1, by omega⟩
  rw [Nat.add_sub_cancel] at hs ⊢
  have r8 : rne V k = rne (8 * V) (k + 3) := by
    have := rne_scale V k 3
    rw [show V * 2 ^ 3 = 8 * V from by omega] at this
    exact this.symm
  have hr : rne s 3 = rne V k := by
    rw [r8]
    rcases hs with hs | hs
    · rw [hs, rne_jam]
    · rw [hs, rne_jam2]
  have up : V < 2 ^ (53 + k) := by
    rcases hs with hs | hs
    · have := (jam_lt_iff (8 * V) k 36028797018963968).1 (by omega)
      rw [Nat.pow_add]; omega
    · have := (jam_lt_iff (8 * V) (k + 1) 18014398509481984).1 (by omega)
      rw [Nat.pow_succ] at this
      rw [Nat.pow_add]; omega
  have lo : 36028797018963968 ≤ s → 2 ^ (52 + k) ≤ V := by
    intro h
    rcases hs with hs | hs
    · have := jam_lt_iff (8 * V) k 18014398509481984
      rw [Nat.pow_add]; omega
    · have := jam_lt_iff (8 * V) (k + 1) 9007199254740992
      rw [Nat.pow_succ] at this
      rw [Nat.pow_add]; omega
  have l : V.log2 - 52 = k := by
    rcases hn with hn | hn
    · have h2 := lo hn
      have := (Nat.log2_eq_iff (by have := Nat.two_pow_pos (52 + k); omega) (k := 52 + k)).2 ⟨h2, by rw [show 52 + k + 1 = 53 + k from by omega]; exact up⟩
      omega
    · have := log2_lt V (52 + k) (by rw [show 52 + k + 1 = 53 + k from by omega]; exact up)
      omega
  unfold rungOf
  rw [l, hr]

end Go.Proofs.YtdipddnnckfnmaaGreat

