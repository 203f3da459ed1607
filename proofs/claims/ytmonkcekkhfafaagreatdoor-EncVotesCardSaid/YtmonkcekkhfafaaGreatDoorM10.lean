/-
  Parts of a proof, one behind the other: AutRight, AutReg, AutCb, AutWith, AutPl. Each says its own conditions.
-/
import Derived.Test.YtmonkcekkhfafaaGreatDoorM03
import Derived.Test.YtmonkcekkhfafaaGreatDoorM09

/- AutRight:
  What the document's Right returns: whether a state is right. Conditions: integers' bounds; the state's slices are there.
-/
namespace Go.Proofs.YtmonkcekkhfafaaGreatDoor.Aut
open Go.RowKit (Below intOf)
open Reg (cf bx)

theorem rcanon_quiet (x : Int) (w : World) (m : Nat) (hx : U64 x) : Calls Tryz.prog 65 #[.int .u64 x] (w.drewN m) fun e w'' => e = .returned (.int .u64 (canon x)) ∧ ∃ j, w'' = w.drewN j :=
  (rcanon_any x _ hx.1 hx.2).mono fun _ _ h => ⟨h.1, m, h.2.symm⟩
theorem else_keys {k : Int} {s : St} (hk : keyed k = false) (h : s.keys.length + s.vals.length ≠ 0) : ¬ ElseOk k s := fun he => by
  rcases he.2.1 with h1 | ⟨h1, h2⟩
  · rw [hk] at h1; cases h1
  · rw [h1, h2] at h; exact h rfl
theorem else_reg {k : Int} {s : St} (hk : k ≠ 1) (h : s.reg ≠ 0) : ¬ ElseOk k s := fun he => by
  rcases he.1 with h1 | h1
  · exact hk h1
  · exact h h1
theorem else_votes {k : Int} {s : St} (hk : k ≠ 5) (h : s.votes.length ≠ 0 ∨ s.closed = true) : ¬ ElseOk k s := fun he => by
  rcases he.2.2 with h1 | ⟨h1, h2⟩
  · exact hk h1
  · rw [h1, h2] at h; simp at h
theorem else_yes {k : Int} {s : St} (h1 : k = 1 ∨ s.reg = 0) (h2 : keyed k = true ∨ s.keys.length + s.vals.length = 0) (h3 : k = 5 ∨ (s.votes.length = 0 ∧ s.closed = false)) : ElseOk k s := by
  refine ⟨h1, ?_, ?_⟩
  · rcases h2 with h | h
    · exact .inl h
    · exact .inr ⟨List.eq_nil_of_length_eq_zero (by omega), List.eq_nil_of_length_eq_zero (by omega)⟩
  · rcases h3 with h | ⟨h, h'⟩
    · exact .inl h
    · exact .inr ⟨List.eq_nil_of_length_eq_zero h, h'⟩

set_option maxHeartbeats 8000000 in
set_option maxRecDepth 100000 in
theorem rright_any (k p m : Int) (a v t : Sl) (s : St) (w : World) (hm : I64 m) (hS : SS w a v t s) :
    Calls Tryz.prog 31 #[cf k p m, sv s.reg a v t s.closed] w fun e w' => e = .returned (.bool (rightS k p m s)) ∧ Ext w w' := by
  obtain ⟨HT0, HF0, HX0⟩ := both_new w k p m s.reg a v t s.closed
  have HVt := Lib.hid (fun W (hW : Ext w W) => votes_any k p m a v t s W hm (hS.ext hW))
  have HKy := Lib.hid (fun W (hW : Ext w W) => keys_any k p m a v t s W hm (hS.ext hW))
  have HFt := Lib.hid (fun W => Reg.rfits_any k p m W)
  have HKd := Lib.hid (fun W => keyed_any k p m W)
  obtain ⟨ka, kn, kc⟩ := a
  obtain ⟨va, vn, vc⟩ := v
  obtain ⟨ta, tn, tc⟩ := t
  obtain ⟨r, ks, vs, vt, cl⟩ := s
  obtain ⟨hr, hK, hV, hT⟩ := hS
  have hkl := Lib.hid hK.len
  have hvl := Lib.hid hV.len
  have htl := Lib.hid hT.len
  have hkn := hK.le
  have hvn := hV.le
  have htn := hT.le
  dsimp only [sv, sb] at *
  have HT := Lib.hid HT0
  have HF := Lib.hid HF0
  have HX := Lib.hid HX0
  clear HT0 HF0 HX0 hK hV hT
  by_cases hf : fits k p m = true
  · have hf' : Reg.fits k p m = true := hf
    rw [hf'] at HFt
    have hfk := fits_of hf
    have hrw : RowKit.Hid (rightS k p m ⟨r, ks, vs, vt, cl⟩ = (decide (ElseOk k ⟨r, ks, vs, vt, cl⟩) && (if k = 1 then decide (canon r = r) else if keyed k then decide (KeysOk k m ⟨r, ks, vs, vt, cl⟩) else decide (VotesOk m ⟨r, ks, vs, vt, cl⟩)))) := Lib.hid (by unfold rightS; rw [hf, Bool.true_and])
    clear hf hf'
    by_cases hk : k = 1
    · have hk1 : (k != 1) = false := by simpa using hk
      have hk1' : (k == 1) = true := by simpa using hk
      have hk5 : (k != 5) = true := by simp; omega
      have hk5n : k ≠ 5 := by omega
      have hkk : keyed k = false := by unfold keyed; exact decide_eq_false (by omega)
      rw [hkk] at HKd
      by_cases hl : kn + vn = 0
      · have hlb : decide ((0 : Int) < (kn : Int) + vn) = false := decide_eq_false (by omega)
        have hwb : IntKind.i64.wrap ((kn : Int) + vn) = kn + vn := IntWalk.i64_in _ (by omega)
        by_cases ht : tn = 0
        · have htb : decide ((0 : Int) < (tn : Int)) = false := decide_eq_false (by omega)
          have htb2 : decide (0 < tn) = false := decide_eq_false (by omega)
          by_cases hc : cl = true
          · subst hc
            have hz : RowKit.Hid (rightS k p m ⟨r, ks, vs, vt, true⟩ = false) := Lib.hid (by rw [hrw.out, decide_eq_false (else_votes hk5n (.inr rfl)), Bool.false_and])
            try clear hk
            try clear ht
            try clear hl
            try clear hr0
            try clear h5
            try clear hkk
            try clear hk5n
            go_enter Tryz.func31, Tryz.ntmps31
            go_wp2_with (first
                | (go_at_call 30; (with_reducible refine (HFt.out _).mono ?_); rintro e w1 ⟨rfl, hw1⟩; have hE : Ext _ w1 := hw1 ▸ Ext.new _ _; clear hw1; replace HX := Lib.hid (HX.out.trans hE); replace HT := Lib.hid (HT.out.ext hE); replace HF := Lib.hid (HF.out.ext hE); obtain ⟨c0, c1, c2⟩ := HT.out; obtain ⟨d0, d1, d2, d3, d4⟩ := HF.out)
                | (go_at_call 58; (with_reducible refine (HKd.out _).mono ?_); rintro e w1 ⟨rfl, hE⟩; replace HX := Lib.hid (HX.out.trans hE); replace HT := Lib.hid (HT.out.ext hE); replace HF := Lib.hid (HF.out.ext hE); obtain ⟨c0, c1, c2⟩ := HT.out; obtain ⟨d0, d1, d2, d3, d4⟩ := HF.out)
                | (go_at_call 66; (with_reducible refine (HKy.out _ HX.out).mono ?_); rintro e w1 ⟨rfl, hE⟩; replace HX := Lib.hid (HX.out.trans hE))
                | (go_at_call 67; (with_reducible refine (HVt.out _ HX.out).mono ?_); rintro e w1 ⟨rfl, hE⟩; replace HX := Lib.hid (HX.out.trans hE)))
            go_ret
            exact ⟨ret_bool hz.out.symm, HX.out⟩
          · obtain rfl : cl = false := by simpa using hc
            have hz : RowKit.Hid (rightS k p m ⟨r, ks, vs, vt, false⟩ = decide (canon r = r)) := Lib.hid (by rw [hrw.out, decide_eq_true (else_yes (s := ⟨r, ks, vs, vt, false⟩) (.inl hk) (.inr (by simp only; rw [hkl.out, hvl.out]; exact hl)) (.inr ⟨by simp only; rw [htl.out]; exact ht, rfl⟩)), Bool.true_and, if_pos hk])
            have hq : RowKit.Hid ((canon r == r) = decide (canon r = r)) := Lib.hid (by by_cases h : canon r = r <;> simp [h])
            try clear hk
            try clear ht
            try clear hl
            try clear hr0
            try clear h5
            try clear hkk
            try clear hk5n
            go_enter Tryz.func31, Tryz.ntmps31
            go_wp2_with (first
                | (go_at_call 30; (with_reducible refine (HFt.out _).mono ?_); rintro e w1 ⟨rfl, hw1⟩; have hE : Ext _ w1 := hw1 ▸ Ext.new _ _; clear hw1; replace HX := Lib.hid (HX.out.trans hE); replace HT := Lib.hid (HT.out.ext hE); replace HF := Lib.hid (HF.out.ext hE); obtain ⟨c0, c1, c2⟩ := HT.out; obtain ⟨d0, d1, d2, d3, d4⟩ := HF.out)
                | (go_at_call 58; (with_reducible refine (HKd.out _).mono ?_); rintro e w1 ⟨rfl, hE⟩; replace HX := Lib.hid (HX.out.trans hE); replace HT := Lib.hid (HT.out.ext hE); replace HF := Lib.hid (HF.out.ext hE); obtain ⟨c0, c1, c2⟩ := HT.out; obtain ⟨d0, d1, d2, d3, d4⟩ := HF.out)
                | (go_at_call 66; (with_reducible refine (HKy.out _ HX.out).mono ?_); rintro e w1 ⟨rfl, hE⟩; replace HX := Lib.hid (HX.out.trans hE))
                | (go_at_call 67; (with_reducible refine (HVt.out _ HX.out).mono ?_); rintro e w1 ⟨rfl, hE⟩; replace HX := Lib.hid (HX.out.trans hE)))
            go_quiet ((go_at_call 65; exact rcanon_quiet _ _ _ hr))
            go_wp2_with (fail)
            go_ret
            exact ⟨ret_bool (by rw [hz.out, hq.out]), HX.out.drewN nq⟩
        · have htb : decide ((0 : Int) < (tn : Int)) = true := decide_eq_true (by omega)
          have htb2 : decide (0 < tn) = true := decide_eq_true (by omega)
          have hz : RowKit.Hid (rightS k p m ⟨r, ks, vs, vt, cl⟩ = false) := Lib.hid (by rw [hrw.out, decide_eq_false (else_votes hk5n (.inl (by simp only; rw [htl.out]; exact ht))), Bool.false_and])
          try clear hk
          try clear ht
          try clear hl
          try clear hr0
          try clear h5
          try clear hkk
          try clear hk5n
          go_enter Tryz.func31, Tryz.ntmps31
          go_wp2_with (first
              | (go_at_call 30; (with_reducible refine (HFt.out _).mono ?_); rintro e w1 ⟨rfl, hw1⟩; have hE : Ext _ w1 := hw1 ▸ Ext.new _ _; clear hw1; replace HX := Lib.hid (HX.out.trans hE); replace HT := Lib.hid (HT.out.ext hE); replace HF := Lib.hid (HF.out.ext hE); obtain ⟨c0, c1, c2⟩ := HT.out; obtain ⟨d0, d1, d2, d3, d4⟩ := HF.out)
              | (go_at_call 58; (with_reducible refine (HKd.out _).mono ?_); rintro e w1 ⟨rfl, hE⟩; replace HX := Lib.hid (HX.out.trans hE); replace HT := Lib.hid (HT.out.ext hE); replace HF := Lib.hid (HF.out.ext hE); obtain ⟨c0, c1, c2⟩ := HT.out; obtain ⟨d0, d1, d2, d3, d4⟩ := HF.out)
              | (go_at_call 66; (with_reducible refine (HKy.out _ HX.out).mono ?_); rintro e w1 ⟨rfl, hE⟩; replace HX := Lib.hid (HX.out.trans hE))
              | (go_at_call 67; (with_reducible refine (HVt.out _ HX.out).mono ?_); rintro e w1 ⟨rfl, hE⟩; replace HX := Lib.hid (HX.out.trans hE)))
          go_ret
          exact ⟨ret_bool hz.out.symm, HX.out⟩
      · have hlb : decide ((0 : Int) < (kn : Int) + vn) = true := decide_eq_true (by omega)
        have hwb : IntKind.i64.wrap ((kn : Int) + vn) = kn + vn := IntWalk.i64_in _ (by omega)
        have hz : RowKit.Hid (rightS k p m ⟨r, ks, vs, vt, cl⟩ = false) := Lib.hid (by rw [hrw.out, decide_eq_false (else_keys hkk (by simp only; rw [hkl.out, hvl.out]; exact hl)), Bool.false_and])
        try clear hk
        try clear ht
        try clear hl
        try clear hr0
        try clear h5
        try clear hkk
        try clear hk5n
        go_enter Tryz.func31, Tryz.ntmps31
        go_wp2_with (first
            | (go_at_call 30; (with_reducible refine (HFt.out _).mono ?_); rintro e w1 ⟨rfl, hw1⟩; have hE : Ext _ w1 := hw1 ▸ Ext.new _ _; clear hw1; replace HX := Lib.hid (HX.out.trans hE); replace HT := Lib.hid (HT.out.ext hE); replace HF := Lib.hid (HF.out.ext hE); obtain ⟨c0, c1, c2⟩ := HT.out; obtain ⟨d0, d1, d2, d3, d4⟩ := HF.out)
            | (go_at_call 58; (with_reducible refine (HKd.out _).mono ?_); rintro e w1 ⟨rfl, hE⟩; replace HX := Lib.hid (HX.out.trans hE); replace HT := Lib.hid (HT.out.ext hE); replace HF := Lib.hid (HF.out.ext hE); obtain ⟨c0, c1, c2⟩ := HT.out; obtain ⟨d0, d1, d2, d3, d4⟩ := HF.out)
            | (go_at_call 66; (with_reducible refine (HKy.out _ HX.out).mono ?_); rintro e w1 ⟨rfl, hE⟩; replace HX := Lib.hid (HX.out.trans hE))
            | (go_at_call 67; (with_reducible refine (HVt.out _ HX.out).mono ?_); rintro e w1 ⟨rfl, hE⟩; replace HX := Lib.hid (HX.out.trans hE)))
        go_ret
        exact ⟨ret_bool hz.out.symm, HX.out⟩
    · have hk1 : (k != 1) = true := by simpa using hk
      have hk1' : (k == 1) = false := by simpa using hk
      by_cases hkk : keyed k = true
      · have hkc := keyed_cases hkk
        have hk5 : (k != 5) = true := by simp; omega
        have hk5n : k ≠ 5 := by omega
        rw [hkk] at HKd
        clear hkc
        by_cases hr0 : r = 0
        · have hrb : (r != 0) = false := by simpa using hr0
          by_cases ht : tn = 0
          · have htb : decide ((0 : Int) < (tn : Int)) = false := decide_eq_false (by omega)
            have htb2 : decide (0 < tn) = false := decide_eq_false (by omega)
            by_cases hc : cl = true
            · subst hc
              have hz : RowKit.Hid (rightS k p m ⟨r, ks, vs, vt, true⟩ = false) := Lib.hid (by rw [hrw.out, decide_eq_false (else_votes hk5n (.inr rfl)), Bool.false_and])
              try clear hk
              try clear ht
              try clear hl
              try clear hr0
              try clear h5
              try clear hkk
              try clear hk5n
              go_enter Tryz.func31, Tryz.ntmps31
              go_wp2_with (first
                  | (go_at_call 30; (with_reducible refine (HFt.out _).mono ?_); rintro e w1 ⟨rfl, hw1⟩; have hE : Ext _ w1 := hw1 ▸ Ext.new _ _; clear hw1; replace HX := Lib.hid (HX.out.trans hE); replace HT := Lib.hid (HT.out.ext hE); replace HF := Lib.hid (HF.out.ext hE); obtain ⟨c0, c1, c2⟩ := HT.out; obtain ⟨d0, d1, d2, d3, d4⟩ := HF.out)
                  | (go_at_call 58; (with_reducible refine (HKd.out _).mono ?_); rintro e w1 ⟨rfl, hE⟩; replace HX := Lib.hid (HX.out.trans hE); replace HT := Lib.hid (HT.out.ext hE); replace HF := Lib.hid (HF.out.ext hE); obtain ⟨c0, c1, c2⟩ := HT.out; obtain ⟨d0, d1, d2, d3, d4⟩ := HF.out)
                  | (go_at_call 66; (with_reducible refine (HKy.out _ HX.out).mono ?_); rintro e w1 ⟨rfl, hE⟩; replace HX := Lib.hid (HX.out.trans hE))
                  | (go_at_call 67; (with_reducible refine (HVt.out _ HX.out).mono ?_); rintro e w1 ⟨rfl, hE⟩; replace HX := Lib.hid (HX.out.trans hE)))
              go_ret
              exact ⟨ret_bool hz.out.symm, HX.out⟩
            · obtain rfl : cl = false := by simpa using hc
              have hz : RowKit.Hid (rightS k p m ⟨r, ks, vs, vt, false⟩ = decide (KeysOk k m ⟨r, ks, vs, vt, false⟩)) := Lib.hid (by rw [hrw.out, decide_eq_true (else_yes (s := ⟨r, ks, vs, vt, false⟩) (.inr hr0) (.inl hkk) (.inr ⟨by simp only; rw [htl.out]; exact ht, rfl⟩)), Bool.true_and, if_neg hk, if_pos hkk])
              try clear hk
              try clear ht
              try clear hl
              try clear hr0
              try clear h5
              try clear hkk
              try clear hk5n
              go_enter Tryz.func31, Tryz.ntmps31
              go_wp2_with (first
                  | (go_at_call 30; (with_reducible refine (HFt.out _).mono ?_); rintro e w1 ⟨rfl, hw1⟩; have hE : Ext _ w1 := hw1 ▸ Ext.new _ _; clear hw1; replace HX := Lib.hid (HX.out.trans hE); replace HT := Lib.hid (HT.out.ext hE); replace HF := Lib.hid (HF.out.ext hE); obtain ⟨c0, c1, c2⟩ := HT.out; obtain ⟨d0, d1, d2, d3, d4⟩ := HF.out)
                  | (go_at_call 58; (with_reducible refine (HKd.out _).mono ?_); rintro e w1 ⟨rfl, hE⟩; replace HX := Lib.hid (HX.out.trans hE); replace HT := Lib.hid (HT.out.ext hE); replace HF := Lib.hid (HF.out.ext hE); obtain ⟨c0, c1, c2⟩ := HT.out; obtain ⟨d0, d1, d2, d3, d4⟩ := HF.out)
                  | (go_at_call 66; (with_reducible refine (HKy.out _ HX.out).mono ?_); rintro e w1 ⟨rfl, hE⟩; replace HX := Lib.hid (HX.out.trans hE))
                  | (go_at_call 67; (with_reducible refine (HVt.out _ HX.out).mono ?_); rintro e w1 ⟨rfl, hE⟩; replace HX := Lib.hid (HX.out.trans hE)))
              go_ret
              exact ⟨ret_bool hz.out.symm, HX.out⟩
          · have htb : decide ((0 : Int) < (tn : Int)) = true := decide_eq_true (by omega)
            have htb2 : decide (0 < tn) = true := decide_eq_true (by omega)
            have hz : RowKit.Hid (rightS k p m ⟨r, ks, vs, vt, cl⟩ = false) := Lib.hid (by rw [hrw.out, decide_eq_false (else_votes hk5n (.inl (by simp only; rw [htl.out]; exact ht))), Bool.false_and])
            try clear hk
            try clear ht
            try clear hl
            try clear hr0
            try clear h5
            try clear hkk
            try clear hk5n
            go_enter Tryz.func31, Tryz.ntmps31
            go_wp2_with (first
                | (go_at_call 30; (with_reducible refine (HFt.out _).mono ?_); rintro e w1 ⟨rfl, hw1⟩; have hE : Ext _ w1 := hw1 ▸ Ext.new _ _; clear hw1; replace HX := Lib.hid (HX.out.trans hE); replace HT := Lib.hid (HT.out.ext hE); replace HF := Lib.hid (HF.out.ext hE); obtain ⟨c0, c1, c2⟩ := HT.out; obtain ⟨d0, d1, d2, d3, d4⟩ := HF.out)
                | (go_at_call 58; (with_reducible refine (HKd.out _).mono ?_); rintro e w1 ⟨rfl, hE⟩; replace HX := Lib.hid (HX.out.trans hE); replace HT := Lib.hid (HT.out.ext hE); replace HF := Lib.hid (HF.out.ext hE); obtain ⟨c0, c1, c2⟩ := HT.out; obtain ⟨d0, d1, d2, d3, d4⟩ := HF.out)
                | (go_at_call 66; (with_reducible refine (HKy.out _ HX.out).mono ?_); rintro e w1 ⟨rfl, hE⟩; replace HX := Lib.hid (HX.out.trans hE))
                | (go_at_call 67; (with_reducible refine (HVt.out _ HX.out).mono ?_); rintro e w1 ⟨rfl, hE⟩; replace HX := Lib.hid (HX.out.trans hE)))
            go_ret
            exact ⟨ret_bool hz.out.symm, HX.out⟩
        · have hrb : (r != 0) = true := by simpa using hr0
          have hz : RowKit.Hid (rightS k p m ⟨r, ks, vs, vt, cl⟩ = false) := Lib.hid (by rw [hrw.out, decide_eq_false (else_reg hk hr0), Bool.false_and])
          try clear hk
          try clear ht
          try clear hl
          try clear hr0
          try clear h5
          try clear hkk
          try clear hk5n
          go_enter Tryz.func31, Tryz.ntmps31
          go_wp2_with (first
              | (go_at_call 30; (with_reducible refine (HFt.out _).mono ?_); rintro e w1 ⟨rfl, hw1⟩; have hE : Ext _ w1 := hw1 ▸ Ext.new _ _; clear hw1; replace HX := Lib.hid (HX.out.trans hE); replace HT := Lib.hid (HT.out.ext hE); replace HF := Lib.hid (HF.out.ext hE); obtain ⟨c0, c1, c2⟩ := HT.out; obtain ⟨d0, d1, d2, d3, d4⟩ := HF.out)
              | (go_at_call 58; (with_reducible refine (HKd.out _).mono ?_); rintro e w1 ⟨rfl, hE⟩; replace HX := Lib.hid (HX.out.trans hE); replace HT := Lib.hid (HT.out.ext hE); replace HF := Lib.hid (HF.out.ext hE); obtain ⟨c0, c1, c2⟩ := HT.out; obtain ⟨d0, d1, d2, d3, d4⟩ := HF.out)
              | (go_at_call 66; (with_reducible refine (HKy.out _ HX.out).mono ?_); rintro e w1 ⟨rfl, hE⟩; replace HX := Lib.hid (HX.out.trans hE))
              | (go_at_call 67; (with_reducible refine (HVt.out _ HX.out).mono ?_); rintro e w1 ⟨rfl, hE⟩; replace HX := Lib.hid (HX.out.trans hE)))
          go_ret
          exact ⟨ret_bool hz.out.symm, HX.out⟩
      · have hkk : keyed k = false := by simpa using hkk
        have h5 : k = 5 := by
          have h2' : ¬ (k = 2 ∨ k = 3 ∨ k = 4) := fun h => by rw [keyed, decide_eq_true h] at hkk; cases hkk
          omega
        have hk5 : (k != 5) = false := by simpa using h5
        rw [hkk] at HKd
        by_cases hr0 : r = 0
        · have hrb : (r != 0) = false := by simpa using hr0
          by_cases hl : kn + vn = 0
          · have hlb : decide ((0 : Int) < (kn : Int) + vn) = false := decide_eq_false (by omega)
            have hwb : IntKind.i64.wrap ((kn : Int) + vn) = kn + vn := IntWalk.i64_in _ (by omega)
            have hz : RowKit.Hid (rightS k p m ⟨r, ks, vs, vt, cl⟩ = decide (VotesOk m ⟨r, ks, vs, vt, cl⟩)) := Lib.hid (by rw [hrw.out, decide_eq_true (else_yes (s := ⟨r, ks, vs, vt, cl⟩) (.inr hr0) (.inr (by simp only; rw [hkl.out, hvl.out]; exact hl)) (.inl h5)), Bool.true_and, if_neg hk, if_neg (by rw [hkk]; simp)])
            try clear hk
            try clear ht
            try clear hl
            try clear hr0
            try clear h5
            try clear hkk
            try clear hk5n
            go_enter Tryz.func31, Tryz.ntmps31
            go_wp2_with (first
                | (go_at_call 30; (with_reducible refine (HFt.out _).mono ?_); rintro e w1 ⟨rfl, hw1⟩; have hE : Ext _ w1 := hw1 ▸ Ext.new _ _; clear hw1; replace HX := Lib.hid (HX.out.trans hE); replace HT := Lib.hid (HT.out.ext hE); replace HF := Lib.hid (HF.out.ext hE); obtain ⟨c0, c1, c2⟩ := HT.out; obtain ⟨d0, d1, d2, d3, d4⟩ := HF.out)
                | (go_at_call 58; (with_reducible refine (HKd.out _).mono ?_); rintro e w1 ⟨rfl, hE⟩; replace HX := Lib.hid (HX.out.trans hE); replace HT := Lib.hid (HT.out.ext hE); replace HF := Lib.hid (HF.out.ext hE); obtain ⟨c0, c1, c2⟩ := HT.out; obtain ⟨d0, d1, d2, d3, d4⟩ := HF.out)
                | (go_at_call 66; (with_reducible refine (HKy.out _ HX.out).mono ?_); rintro e w1 ⟨rfl, hE⟩; replace HX := Lib.hid (HX.out.trans hE))
                | (go_at_call 67; (with_reducible refine (HVt.out _ HX.out).mono ?_); rintro e w1 ⟨rfl, hE⟩; replace HX := Lib.hid (HX.out.trans hE)))
            go_ret
            exact ⟨ret_bool hz.out.symm, HX.out⟩
          · have hlb : decide ((0 : Int) < (kn : Int) + vn) = true := decide_eq_true (by omega)
            have hwb : IntKind.i64.wrap ((kn : Int) + vn) = kn + vn := IntWalk.i64_in _ (by omega)
            have hz : RowKit.Hid (rightS k p m ⟨r, ks, vs, vt, cl⟩ = false) := Lib.hid (by rw [hrw.out, decide_eq_false (else_keys hkk (by simp only; rw [hkl.out, hvl.out]; exact hl)), Bool.false_and])
            try clear hk
            try clear ht
            try clear hl
            try clear hr0
            try clear h5
            try clear hkk
            try clear hk5n
            go_enter Tryz.func31, Tryz.ntmps31
            go_wp2_with (first
                | (go_at_call 30; (with_reducible refine (HFt.out _).mono ?_); rintro e w1 ⟨rfl, hw1⟩; have hE : Ext _ w1 := hw1 ▸ Ext.new _ _; clear hw1; replace HX := Lib.hid (HX.out.trans hE); replace HT := Lib.hid (HT.out.ext hE); replace HF := Lib.hid (HF.out.ext hE); obtain ⟨c0, c1, c2⟩ := HT.out; obtain ⟨d0, d1, d2, d3, d4⟩ := HF.out)
                | (go_at_call 58; (with_reducible refine (HKd.out _).mono ?_); rintro e w1 ⟨rfl, hE⟩; replace HX := Lib.hid (HX.out.trans hE); replace HT := Lib.hid (HT.out.ext hE); replace HF := Lib.hid (HF.out.ext hE); obtain ⟨c0, c1, c2⟩ := HT.out; obtain ⟨d0, d1, d2, d3, d4⟩ := HF.out)
                | (go_at_call 66; (with_reducible refine (HKy.out _ HX.out).mono ?_); rintro e w1 ⟨rfl, hE⟩; replace HX := Lib.hid (HX.out.trans hE))
                | (go_at_call 67; (with_reducible refine (HVt.out _ HX.out).mono ?_); rintro e w1 ⟨rfl, hE⟩; replace HX := Lib.hid (HX.out.trans hE)))
            go_ret
            exact ⟨ret_bool hz.out.symm, HX.out⟩
        · have hrb : (r != 0) = true := by simpa using hr0
          have hz : RowKit.Hid (rightS k p m ⟨r, ks, vs, vt, cl⟩ = false) := Lib.hid (by rw [hrw.out, decide_eq_false (else_reg hk hr0), Bool.false_and])
          try clear hk
          try clear ht
          try clear hl
          try clear hr0
          try clear h5
          try clear hkk
          try clear hk5n
          go_enter Tryz.func31, Tryz.ntmps31
          go_wp2_with (first
              | (go_at_call 30; (with_reducible refine (HFt.out _).mono ?_); rintro e w1 ⟨rfl, hw1⟩; have hE : Ext _ w1 := hw1 ▸ Ext.new _ _; clear hw1; replace HX := Lib.hid (HX.out.trans hE); replace HT := Lib.hid (HT.out.ext hE); replace HF := Lib.hid (HF.out.ext hE); obtain ⟨c0, c1, c2⟩ := HT.out; obtain ⟨d0, d1, d2, d3, d4⟩ := HF.out)
              | (go_at_call 58; (with_reducible refine (HKd.out _).mono ?_); rintro e w1 ⟨rfl, hE⟩; replace HX := Lib.hid (HX.out.trans hE); replace HT := Lib.hid (HT.out.ext hE); replace HF := Lib.hid (HF.out.ext hE); obtain ⟨c0, c1, c2⟩ := HT.out; obtain ⟨d0, d1, d2, d3, d4⟩ := HF.out)
              | (go_at_call 66; (with_reducible refine (HKy.out _ HX.out).mono ?_); rintro e w1 ⟨rfl, hE⟩; replace HX := Lib.hid (HX.out.trans hE))
              | (go_at_call 67; (with_reducible refine (HVt.out _ HX.out).mono ?_); rintro e w1 ⟨rfl, hE⟩; replace HX := Lib.hid (HX.out.trans hE)))
          go_ret
          exact ⟨ret_bool hz.out.symm, HX.out⟩
  · have hf' : Reg.fits k p m = false := by have : Reg.fits k p m = fits k p m := rfl; rw [this]; simpa using hf
    rw [hf'] at HFt
    have hz : RowKit.Hid (rightS k p m ⟨r, ks, vs, vt, cl⟩ = false) := Lib.hid (by
      have : fits k p m = false := by simpa using hf
      unfold rightS; rw [this, Bool.false_and])
    clear hf hf'
    try clear hk
    try clear ht
    try clear hl
    try clear hr0
    try clear h5
    try clear hkk
    try clear hk5n
    go_enter Tryz.func31, Tryz.ntmps31
    go_wp2_with (first
        | (go_at_call 30; (with_reducible refine (HFt.out _).mono ?_); rintro e w1 ⟨rfl, hw1⟩; have hE : Ext _ w1 := hw1 ▸ Ext.new _ _; clear hw1; replace HX := Lib.hid (HX.out.trans hE); replace HT := Lib.hid (HT.out.ext hE); replace HF := Lib.hid (HF.out.ext hE); obtain ⟨c0, c1, c2⟩ := HT.out; obtain ⟨d0, d1, d2, d3, d4⟩ := HF.out)
        | (go_at_call 58; (with_reducible refine (HKd.out _).mono ?_); rintro e w1 ⟨rfl, hE⟩; replace HX := Lib.hid (HX.out.trans hE); replace HT := Lib.hid (HT.out.ext hE); replace HF := Lib.hid (HF.out.ext hE); obtain ⟨c0, c1, c2⟩ := HT.out; obtain ⟨d0, d1, d2, d3, d4⟩ := HF.out)
        | (go_at_call 66; (with_reducible refine (HKy.out _ HX.out).mono ?_); rintro e w1 ⟨rfl, hE⟩; replace HX := Lib.hid (HX.out.trans hE))
        | (go_at_call 67; (with_reducible refine (HVt.out _ HX.out).mono ?_); rintro e w1 ⟨rfl, hE⟩; replace HX := Lib.hid (HX.out.trans hE)))
    go_ret
    exact ⟨ret_bool hz.out.symm, HX.out⟩

end Go.Proofs.YtmonkcekkhfafaaGreatDoor.Aut

/- AutReg:
  What the document's register does and tells. Conditions: integers' bounds; the state's slices are there.
-/
namespace Go.Proofs.YtmonkcekkhfafaaGreatDoor.Aut
open Go.RowKit (Below intOf)
open Reg (cf bx)

theorem tells_is (v : Int) (w : World) : Calls Tryz.prog 97 #[.int .u64 v] w fun e w' => e = .returned (rv 0 v) ∧ w' = w.alloc (.cells #[.int .i64 0, .int .u64 v] 63) := by
  go_enter Tryz.func97, Tryz.ntmps97
  go_wp2
  exact bodyPost_ret (v := rv 0 v) (by simp [results, Tryz.results97, go_sem]) rfl ⟨rfl, rfl⟩
theorem refuses_is (x : Int) (w : World) : Calls Tryz.prog 100 #[.int .i64 x] w fun e w' => e = .returned (rv x 0) ∧ w' = w.alloc (.cells #[.int .i64 x, .int .u64 0] 63) := by
  go_enter Tryz.func100, Tryz.ntmps100
  go_wp2
  exact bodyPost_ret (v := rv x 0) (by simp [results, Tryz.results100, go_sem]) rfl ⟨rfl, rfl⟩

theorem Five.alloc {w : World} {b : Nat} {r : Int} {k v t : Sl} {cl : Bool} (h : Five w b r k v t cl) (o : Obj) : Five (w.alloc o) b r k v t cl := h.ext (Ext.new w o)
theorem Five.drew {w : World} {b : Nat} {r : Int} {k v t : Sl} {cl : Bool} (h : Five w b r k v t cl) : Five w.drew b r k v t cl := h.ext (Ext.drew (Ext.refl w))
theorem Five.set {w : World} {b : Nat} {r : Int} {k v t : Sl} {cl : Bool} (h : Five w b r k v t cl) {B : Nat} (hB : b ≠ B) (i : Nat) (x : Value) : Five (w.setCell ⟨B, i, none⟩ x) b r k v t cl :=
  ⟨(cell_far hB).trans h.1, (cell_far hB).trans h.2.1, (cell_far hB).trans h.2.2.1, (cell_far hB).trans h.2.2.2.1, (cell_far hB).trans h.2.2.2.2⟩

theorem and5 {a b c d e q : Prop} (h : a ∧ b ∧ c ∧ d ∧ e) (g : q) : a ∧ b ∧ c ∧ d ∧ e ∧ q := ⟨h.1, h.2.1, h.2.2.1, h.2.2.2.1, h.2.2.2.2, g⟩
theorem five_at {X : World} {B : Nat} {r : Int} {ka va ta : Option Addr} {kn kc vn vc tn tc : Nat} {cl : Bool} (h : X.heap.size = B) : Five (X.alloc (.cells #[.int .u64 r, .slice ka kn kc, .slice va vn vc, .slice ta tn tc, .bool cl] 30)) B r ⟨ka, kn, kc⟩ ⟨va, vn, vc⟩ ⟨ta, tn, tc⟩ cl := h ▸ five_new X r ⟨ka, kn, kc⟩ ⟨va, vn, vc⟩ ⟨ta, tn, tc⟩ cl
/-- A call's value. -/
abbrev ov (o : Cl) : Value := .agg #[.int .i64 o.code, .int .u64 o.key, .int .u64 o.val]
/-- The three slices of a state lie in other blocks, as far as there is anything. -/
def OffS (a v t : Sl) (B : Nat) : Prop := (0 < a.n → Off a.a B) ∧ (0 < v.n → Off v.a B) ∧ (0 < t.n → Off t.a B)
theorem WS.farN {w : World} {sl : Option Addr} {n c : Nat} {xs : List Int} (h : WS w sl n c xs) {B : Nat} (hb : 0 < n → Off sl B) (i : Nat) (v : Value) : WS (w.setCell ⟨B, i, none⟩ v) sl n c xs := by
  rcases Nat.eq_zero_or_pos n with h0 | h0
  · subst h0
    have : xs = [] := List.eq_nil_of_length_eq_zero h.len
    subst this
    exact WS.empty _ _ _ h.cle
  · exact h.far (hb h0) i v
theorem NS.farN {w : World} {sl : Option Addr} {n c : Nat} {xs : List Int} (h : NS w sl n c xs) {B : Nat} (hb : 0 < n → Off sl B) (i : Nat) (v : Value) : NS (w.setCell ⟨B, i, none⟩ v) sl n c xs := by
  rcases Nat.eq_zero_or_pos n with h0 | h0
  · subst h0
    have : xs = [] := List.eq_nil_of_length_eq_zero h.len
    subst this
    exact NS.empty _ _ _ h.cle
  · exact h.far (hb h0) i v
/-- What is written into another block leaves a state. -/
theorem SS.set {w : World} {k v t : Sl} {s : St} (h : SS w k v t s) {B : Nat} (hb : OffS k v t B) (i : Nat) (x : Value) : SS (w.setCell ⟨B, i, none⟩ x) k v t s :=
  ⟨h.1, h.2.1.farN hb.1 i x, h.2.2.1.farN hb.2.1 i x, h.2.2.2.farN hb.2.2 i x⟩
/-- A state's slices lie in what there is. -/
theorem SS.off {w : World} {k v t : Sl} {s : St} (h : SS w k v t s) {B : Nat} (hB : w.heap.size ≤ B) : OffS k v t B := by
  refine ⟨fun h0 g o e => ?_, fun h0 g o e => ?_, fun h0 g o e => ?_⟩
  · obtain ⟨x, _, _, b, o', e2, hc⟩ := h.2.1.get (k := 0) h0
    have h1 : b < w.heap.size := World.block_lt_of_cell? w _ hc
    rw [e] at e2; cases e2; omega
  · obtain ⟨x, _, _, b, o', e2, hc⟩ := h.2.2.1.get (k := 0) h0
    have h1 : b < w.heap.size := World.block_lt_of_cell? w _ hc
    rw [e] at e2; cases e2; omega
  · obtain ⟨x, _, _, b, o', e2, hc⟩ := h.2.2.2.get (k := 0) h0
    have h1 : b < w.heap.size := World.block_lt_of_cell? w _ hc
    rw [e] at e2; cases e2; omega
/-- A call that answers a state and an answer; where the state that came in did not lie, among what there was, nor does what comes out. -/
def DE (a b c : Sl) (x : St × Rs) (w : World) (e : Ending) (w' : World) : Prop := Ext w w' ∧ ∃ k v t, e = .returned (.tuple #[sv x.1.reg k v t x.1.closed, rv x.2.1 x.2.2]) ∧ SS w' k v t x.1 ∧ ∀ B, B < w.heap.size → OffS a b c B → OffS k v t B

set_option maxHeartbeats 8000000 in
set_option maxRecDepth 100000 in
theorem register_any (a v t : Sl) (s : St) (o : Cl) (w : World) (hS : SS w a v t s) (ho : Wc o) :
    Calls Tryz.prog 57 #[sv s.reg a v t s.closed, ov o] w (DE a v t (regS s o) w) := by
  obtain ⟨ka, kn, kc⟩ := a
  obtain ⟨va, vn, vc⟩ := v
  obtain ⟨ta, tn, tc⟩ := t
  obtain ⟨r, ks, vs, vt, cl⟩ := s
  obtain ⟨cd, ky, vl⟩ := o
  have hr := hS.1
  have HS := Lib.hid hS
  obtain ⟨_, hky, hvl⟩ := ho
  clear hS
  dsimp only [sv, ov] at *
  by_cases h1 : cd = 1
  · subst h1
    have hz : RowKit.Hid (regS ⟨r, ks, vs, vt, cl⟩ ⟨1, ky, vl⟩ = (⟨r, ks, vs, vt, cl⟩, (0, r))) := Lib.hid rfl
    have hu := hr
    have FW := five_new w r ⟨ka, kn, kc⟩ ⟨va, vn, vc⟩ ⟨ta, tn, tc⟩ cl
    go_enter Tryz.func57, Tryz.ntmps57
    go_wp2_with (fail)
    go_region_held3 (fun w' => (w'.cell? ⟨w.heap.size, 0, none⟩ = some (.int .u64 r) ∧ w'.cell? ⟨w.heap.size, 1, none⟩ = some (.slice ka kn kc) ∧ w'.cell? ⟨w.heap.size, 2, none⟩ = some (.slice va vn vc) ∧ w'.cell? ⟨w.heap.size, 3, none⟩ = some (.slice ta tn tc) ∧ w'.cell? ⟨w.heap.size, 4, none⟩ = some (.bool cl)))
      (first | ((show Five _ (w.heap.size) r ⟨ka, kn, kc⟩ ⟨va, vn, vc⟩ ⟨ta, tn, tc⟩ cl); repeat (first | with_reducible exact FW | ((with_reducible refine five_at ?_); (simp; done)) | with_reducible refine Five.alloc ?_ _ | with_reducible refine Five.drew ?_ | with_reducible refine Five.set ?_ (by omega) _ _)) | go_keep)
      ((go_at_call 97; (with_reducible refine (tells_is _ _).mono ?_); rintro e w1 ⟨rfl, rfl⟩))
    rename_i hh
    clear hh
    go_wp2_with (fail)
    refine bodyPost_ret (v := .tuple #[sv (r) ⟨ka, kn, kc⟩ ⟨va, vn, vc⟩ ⟨ta, tn, tc⟩ cl, rv 0 (r)]) (by simp [results, Tryz.results57, go_sem]) rfl ?_
    rw [hz.out]
    refine ⟨?_, _, _, _, rfl, ⟨hu, HS.out.2.1.ext ?_, HS.out.2.2.1.ext ?_, HS.out.2.2.2.ext ?_⟩, fun _ _ h => h⟩ <;> repeat (first | exact Ext.refl _ | refine Ext.alloc ?_ _ | refine Ext.drew ?_)
  · by_cases h2 : cd = 2
    · subst h2
      have hz : RowKit.Hid (regS ⟨r, ks, vs, vt, cl⟩ ⟨2, ky, vl⟩ = (⟨canon vl, ks, vs, vt, cl⟩, (0, r))) := Lib.hid rfl
      have hu : U64 (canon vl) := ⟨canon_lo _ hvl.1, canon_hi _ hvl.2⟩
      have hcall := fun W => rcanon_any vl W hvl.1 hvl.2
      obtain ⟨R, hR⟩ : ∃ R, canon vl = R := ⟨_, rfl⟩
      rw [hR] at hz hu hcall
      clear hR
      have FW := five_new w r ⟨ka, kn, kc⟩ ⟨va, vn, vc⟩ ⟨ta, tn, tc⟩ cl
      go_enter Tryz.func57, Tryz.ntmps57
      go_wp2_with (go_at_call 65; (with_reducible refine (hcall _).mono ?_); rintro e w1 ⟨rfl, rfl⟩)
      clear hcall
      go_region_held3 (fun w' => (w'.cell? ⟨w.heap.size, 0, none⟩ = some (.int .u64 r) ∧ w'.cell? ⟨w.heap.size, 1, none⟩ = some (.slice ka kn kc) ∧ w'.cell? ⟨w.heap.size, 2, none⟩ = some (.slice va vn vc) ∧ w'.cell? ⟨w.heap.size, 3, none⟩ = some (.slice ta tn tc) ∧ w'.cell? ⟨w.heap.size, 4, none⟩ = some (.bool cl) ∧ w'.cell? ⟨w.heap.size + 1 + 1 + 1 + 1, 0, none⟩ = some (.int .u64 R) ∧ w'.cell? ⟨w.heap.size + 1 + 1 + 1 + 1, 1, none⟩ = some (.slice ka kn kc) ∧ w'.cell? ⟨w.heap.size + 1 + 1 + 1 + 1, 2, none⟩ = some (.slice va vn vc) ∧ w'.cell? ⟨w.heap.size + 1 + 1 + 1 + 1, 3, none⟩ = some (.slice ta tn tc) ∧ w'.cell? ⟨w.heap.size + 1 + 1 + 1 + 1, 4, none⟩ = some (.bool cl)))
        (first | exact and5 (by ((show Five _ (w.heap.size) r ⟨ka, kn, kc⟩ ⟨va, vn, vc⟩ ⟨ta, tn, tc⟩ cl); repeat (first | with_reducible exact FW | ((with_reducible refine five_at ?_); (simp; done)) | with_reducible refine Five.alloc ?_ _ | with_reducible refine Five.drew ?_ | with_reducible refine Five.set ?_ (by omega) _ _))) (by ((show Five _ (w.heap.size + 1 + 1 + 1 + 1) R ⟨ka, kn, kc⟩ ⟨va, vn, vc⟩ ⟨ta, tn, tc⟩ cl); repeat (first | with_reducible exact FW | ((with_reducible refine five_at ?_); (simp; done)) | with_reducible refine Five.alloc ?_ _ | with_reducible refine Five.drew ?_ | with_reducible refine Five.set ?_ (by omega) _ _))) | go_keep)
        ((go_at_call 97; (with_reducible refine (tells_is _ _).mono ?_); rintro e w1 ⟨rfl, rfl⟩))
      rename_i hh
      clear hh
      go_wp2_with (fail)
      refine bodyPost_ret (v := .tuple #[sv (R) ⟨ka, kn, kc⟩ ⟨va, vn, vc⟩ ⟨ta, tn, tc⟩ cl, rv 0 (r)]) (by simp [results, Tryz.results57, go_sem]) rfl ?_
      rw [hz.out]
      refine ⟨?_, _, _, _, rfl, ⟨hu, HS.out.2.1.ext ?_, HS.out.2.2.1.ext ?_, HS.out.2.2.2.ext ?_⟩, fun _ _ h => h⟩ <;> repeat (first | exact Ext.refl _ | refine Ext.alloc ?_ _ | refine Ext.drew ?_)
    · by_cases h3 : cd = 3
      · subst h3
        have hz : RowKit.Hid (regS ⟨r, ks, vs, vt, cl⟩ ⟨3, ky, vl⟩ = (⟨maxOf r vl, ks, vs, vt, cl⟩, (0, maxOf r vl))) := Lib.hid rfl
        have hu : U64 (maxOf r vl) := maxOf_u hr hvl
        have hcall := fun W => rmax_any r vl W hr.1 hr.2 hvl.1 hvl.2
        obtain ⟨R, hR⟩ : ∃ R, maxOf r vl = R := ⟨_, rfl⟩
        rw [hR] at hz hu hcall
        clear hR
        have FW := five_new w r ⟨ka, kn, kc⟩ ⟨va, vn, vc⟩ ⟨ta, tn, tc⟩ cl
        go_enter Tryz.func57, Tryz.ntmps57
        go_wp2_with (go_at_call 98; (with_reducible refine (hcall _).mono ?_); rintro e w1 ⟨rfl, rfl⟩)
        clear hcall
        go_region_held3 (fun w' => (w'.cell? ⟨w.heap.size + 1 + 1 + 1 + 1, 0, none⟩ = some (.int .u64 R) ∧ w'.cell? ⟨w.heap.size + 1 + 1 + 1 + 1, 1, none⟩ = some (.slice ka kn kc) ∧ w'.cell? ⟨w.heap.size + 1 + 1 + 1 + 1, 2, none⟩ = some (.slice va vn vc) ∧ w'.cell? ⟨w.heap.size + 1 + 1 + 1 + 1, 3, none⟩ = some (.slice ta tn tc) ∧ w'.cell? ⟨w.heap.size + 1 + 1 + 1 + 1, 4, none⟩ = some (.bool cl)))
          (first | ((show Five _ (w.heap.size + 1 + 1 + 1 + 1) R ⟨ka, kn, kc⟩ ⟨va, vn, vc⟩ ⟨ta, tn, tc⟩ cl); repeat (first | with_reducible exact FW | ((with_reducible refine five_at ?_); (simp; done)) | with_reducible refine Five.alloc ?_ _ | with_reducible refine Five.drew ?_ | with_reducible refine Five.set ?_ (by omega) _ _)) | go_keep)
          ((go_at_call 97; (with_reducible refine (tells_is _ _).mono ?_); rintro e w1 ⟨rfl, rfl⟩))
        rename_i hh
        clear hh
        go_wp2_with (fail)
        refine bodyPost_ret (v := .tuple #[sv (R) ⟨ka, kn, kc⟩ ⟨va, vn, vc⟩ ⟨ta, tn, tc⟩ cl, rv 0 (R)]) (by simp [results, Tryz.results57, go_sem]) rfl ?_
        rw [hz.out]
        refine ⟨?_, _, _, _, rfl, ⟨hu, HS.out.2.1.ext ?_, HS.out.2.2.1.ext ?_, HS.out.2.2.2.ext ?_⟩, fun _ _ h => h⟩ <;> repeat (first | exact Ext.refl _ | refine Ext.alloc ?_ _ | refine Ext.drew ?_)
      · by_cases h4 : cd = 4
        · subst h4
          have hz : RowKit.Hid (regS ⟨r, ks, vs, vt, cl⟩ ⟨4, ky, vl⟩ = (⟨sumOf r vl, ks, vs, vt, cl⟩, (0, sumOf r vl))) := Lib.hid rfl
          have hu : U64 (sumOf r vl) := ⟨sum_lo _ _, sum_hi _ _⟩
          have hcall := fun W => rsum_any r vl W hr.1 hr.2 hvl.1 hvl.2
          obtain ⟨R, hR⟩ : ∃ R, sumOf r vl = R := ⟨_, rfl⟩
          rw [hR] at hz hu hcall
          clear hR
          have FW := five_new w r ⟨ka, kn, kc⟩ ⟨va, vn, vc⟩ ⟨ta, tn, tc⟩ cl
          go_enter Tryz.func57, Tryz.ntmps57
          go_wp2_with (go_at_call 99; (with_reducible refine (hcall _).mono ?_); rintro e w1 ⟨rfl, rfl⟩)
          clear hcall
          go_region_held3 (fun w' => (w'.cell? ⟨w.heap.size + 1 + 1 + 1 + 1, 0, none⟩ = some (.int .u64 R) ∧ w'.cell? ⟨w.heap.size + 1 + 1 + 1 + 1, 1, none⟩ = some (.slice ka kn kc) ∧ w'.cell? ⟨w.heap.size + 1 + 1 + 1 + 1, 2, none⟩ = some (.slice va vn vc) ∧ w'.cell? ⟨w.heap.size + 1 + 1 + 1 + 1, 3, none⟩ = some (.slice ta tn tc) ∧ w'.cell? ⟨w.heap.size + 1 + 1 + 1 + 1, 4, none⟩ = some (.bool cl)))
            (first | ((show Five _ (w.heap.size + 1 + 1 + 1 + 1) R ⟨ka, kn, kc⟩ ⟨va, vn, vc⟩ ⟨ta, tn, tc⟩ cl); repeat (first | with_reducible exact FW | ((with_reducible refine five_at ?_); (simp; done)) | with_reducible refine Five.alloc ?_ _ | with_reducible refine Five.drew ?_ | with_reducible refine Five.set ?_ (by omega) _ _)) | go_keep)
            ((go_at_call 97; (with_reducible refine (tells_is _ _).mono ?_); rintro e w1 ⟨rfl, rfl⟩))
          rename_i hh
          clear hh
          go_wp2_with (fail)
          refine bodyPost_ret (v := .tuple #[sv (R) ⟨ka, kn, kc⟩ ⟨va, vn, vc⟩ ⟨ta, tn, tc⟩ cl, rv 0 (R)]) (by simp [results, Tryz.results57, go_sem]) rfl ?_
          rw [hz.out]
          refine ⟨?_, _, _, _, rfl, ⟨hu, HS.out.2.1.ext ?_, HS.out.2.2.1.ext ?_, HS.out.2.2.2.ext ?_⟩, fun _ _ h => h⟩ <;> repeat (first | exact Ext.refl _ | refine Ext.alloc ?_ _ | refine Ext.drew ?_)
        · have hz : RowKit.Hid (regS ⟨r, ks, vs, vt, cl⟩ ⟨cd, ky, vl⟩ = (⟨r, ks, vs, vt, cl⟩, (10, 0))) := Lib.hid (by unfold regS; simp only; rw [if_neg h1, if_neg h2, if_neg h3, if_neg h4])
          have hu := hr
          have e1 : (cd == 1) = false := by simpa using h1
          have e2 : (cd == 2) = false := by simpa using h2
          have e3 : (cd == 3) = false := by simpa using h3
          have e4 : (cd == 4) = false := by simpa using h4
          clear h1 h2 h3 h4
          have FW := five_new w r ⟨ka, kn, kc⟩ ⟨va, vn, vc⟩ ⟨ta, tn, tc⟩ cl
          go_enter Tryz.func57, Tryz.ntmps57
          go_wp2_with (fail)
          go_region_held3 (fun w' => (w'.cell? ⟨w.heap.size, 0, none⟩ = some (.int .u64 r) ∧ w'.cell? ⟨w.heap.size, 1, none⟩ = some (.slice ka kn kc) ∧ w'.cell? ⟨w.heap.size, 2, none⟩ = some (.slice va vn vc) ∧ w'.cell? ⟨w.heap.size, 3, none⟩ = some (.slice ta tn tc) ∧ w'.cell? ⟨w.heap.size, 4, none⟩ = some (.bool cl)))
            (first | ((show Five _ (w.heap.size) r ⟨ka, kn, kc⟩ ⟨va, vn, vc⟩ ⟨ta, tn, tc⟩ cl); repeat (first | with_reducible exact FW | ((with_reducible refine five_at ?_); (simp; done)) | with_reducible refine Five.alloc ?_ _ | with_reducible refine Five.drew ?_ | with_reducible refine Five.set ?_ (by omega) _ _)) | go_keep)
            ((go_at_call 100; (with_reducible refine (refuses_is _ _).mono ?_); rintro e w1 ⟨rfl, rfl⟩))
          rename_i hh
          clear hh
          go_wp2_with (fail)
          refine bodyPost_ret (v := .tuple #[sv (r) ⟨ka, kn, kc⟩ ⟨va, vn, vc⟩ ⟨ta, tn, tc⟩ cl, rv 10 (0)]) (by simp [results, Tryz.results57, go_sem]) rfl ?_
          rw [hz.out]
          refine ⟨?_, _, _, _, rfl, ⟨hu, HS.out.2.1.ext ?_, HS.out.2.2.1.ext ?_, HS.out.2.2.2.ext ?_⟩, fun _ _ h => h⟩ <;> repeat (first | exact Ext.refl _ | refine Ext.alloc ?_ _ | refine Ext.drew ?_)

end Go.Proofs.YtmonkcekkhfafaaGreatDoor.Aut

/- AutCb:
  Blocks that are known by their first cells, and may be written. No condition.
-/
namespace Go.Proofs.YtmonkcekkhfafaaGreatDoor.Aut
open Go.RowKit (Below intOf)
open Reg (cf bx)

/-- A block's first cells, which may be written. -/
structure Cb (w : World) (b : Nat) (cs : List Value) : Prop where
  lt : b < w.heap.size
  c : ∀ i v, cs[i]? = some v → w.cell? ⟨b, i, none⟩ = some v
  f : ∀ i, w.frozen? ⟨b, i, none⟩ = false
theorem Cb.ext {w w' : World} {b : Nat} {cs : List Value} (h : Cb w b cs) (e : Ext w w') : Cb w' b cs :=
  ⟨Nat.lt_of_lt_of_le h.lt e.size, fun i v hv => e.cell (h.c i v hv), fun i => (Below.frozen (p := ⟨b, i, none⟩) e h.lt).trans (h.f i)⟩
theorem Cb.new (w : World) (cs : List Value) (t : TypeId) : Cb (w.alloc (.cells cs.toArray t)) w.heap.size cs :=
  ⟨by simp, fun i v hv => by
    unfold World.cell?; rw [World.alloc_heap_new]
    simpa using hv, fun i => by unfold World.frozen?; rw [World.alloc_heap_new]; simp⟩
theorem Cb.at {X : World} {B : Nat} {cs : Array Value} {t : TypeId} (l : List Value) (hc : cs = l.toArray) (h : X.heap.size = B) : Cb (X.alloc (.cells cs t)) B l := by
  subst hc; subst h; exact Cb.new X l t
theorem Cb.alloc {w : World} {b : Nat} {cs : List Value} (h : Cb w b cs) (o : Obj) : Cb (w.alloc o) b cs := h.ext (Ext.new w o)
theorem Cb.drew {w : World} {b : Nat} {cs : List Value} (h : Cb w b cs) : Cb w.drew b cs := h.ext (Ext.drew (Ext.refl w))
theorem Cb.far {w : World} {b B : Nat} {cs : List Value} (h : Cb w b cs) (hne : b ≠ B) (i : Nat) (v : Value) : Cb (w.setCell ⟨B, i, none⟩ v) b cs :=
  ⟨by rw [World.size_setCell]; exact h.lt, fun j u hu => (cell_far hne).trans (h.c j u hu), fun j => by rw [World.frozen?_setCell]; exact h.f j⟩
theorem Cb.upd {w : World} {b : Nat} {cs : List Value} (h : Cb w b cs) {i : Nat} (hi : i < cs.length) (v : Value) : Cb (w.setCell ⟨b, i, none⟩ v) b (cs.set i v) :=
  ⟨by rw [World.size_setCell]; exact h.lt, fun j u hu => by
    by_cases e : i = j
    · subst e
      rw [List.getElem?_set_self hi] at hu
      cases hu
      exact World.cell?_setCell_same' _ _ _ (by rw [h.c i _ (List.getElem?_eq_getElem hi)]; rfl)
    · rw [List.getElem?_set_ne e] at hu
      rw [set_far (Ne.symm e)]; exact h.c j u hu, fun j => by rw [World.frozen?_setCell]; exact h.f j⟩
theorem Cb.st {w : World} {b : Nat} {x0 x1 x2 x3 x4 : Value} (h : Cb w b [x0, x1, x2, x3, x4]) (y0 y1 y2 y3 y4 : Value) : Cb (((((w.setCell ⟨b, 0, none⟩ y0).setCell ⟨b, 1, none⟩ y1).setCell ⟨b, 2, none⟩ y2).setCell ⟨b, 3, none⟩ y3).setCell ⟨b, 4, none⟩ y4) b [y0, y1, y2, y3, y4] :=
  ((((h.upd (i := 0) (by simp) y0).upd (i := 1) (by simp) y1).upd (i := 2) (by simp) y2).upd (i := 3) (by simp) y3).upd (i := 4) (by simp) y4
theorem Cb.rs {w : World} {b : Nat} {x0 x1 : Value} (h : Cb w b [x0, x1]) (y0 y1 : Value) : Cb ((w.setCell ⟨b, 0, none⟩ y0).setCell ⟨b, 1, none⟩ y1) b [y0, y1] :=
  (h.upd (i := 0) (by simp) y0).upd (i := 1) (by simp) y1
theorem Cb.two {w : World} {b : Nat} {x y : Value} (h : Cb w b [x, y]) : w.cell? ⟨b, 0, none⟩ = some x ∧ w.cell? ⟨b, 1, none⟩ = some y := ⟨h.c 0 _ rfl, h.c 1 _ rfl⟩
theorem Cb.three {w : World} {b : Nat} {x y z : Value} (h : Cb w b [x, y, z]) : w.cell? ⟨b, 0, none⟩ = some x ∧ w.cell? ⟨b, 1, none⟩ = some y ∧ w.cell? ⟨b, 2, none⟩ = some z := ⟨h.c 0 _ rfl, h.c 1 _ rfl, h.c 2 _ rfl⟩
theorem Cb.five {w : World} {b : Nat} {x y z u v : Value} (h : Cb w b [x, y, z, u, v]) : w.cell? ⟨b, 0, none⟩ = some x ∧ w.cell? ⟨b, 1, none⟩ = some y ∧ w.cell? ⟨b, 2, none⟩ = some z ∧ w.cell? ⟨b, 3, none⟩ = some u ∧ w.cell? ⟨b, 4, none⟩ = some v := ⟨h.c 0 _ rfl, h.c 1 _ rfl, h.c 2 _ rfl, h.c 3 _ rfl, h.c 4 _ rfl⟩
theorem cell_drew {w : World} {p : Addr} {v : Value} (h : w.cell? p = some v) : w.drew.cell? p = some v := h
/-- A state's cells. -/
abbrev sc (r : Int) (k v t : Sl) (cl : Bool) : List Value := [.int .u64 r, .slice k.a k.n k.c, .slice v.a v.n v.c, .slice t.a t.n t.c, .bool cl]

end Go.Proofs.YtmonkcekkhfafaaGreatDoor.Aut

/- AutWith:
  What the document's with and without return: a list with one more, or one less, in new memory. Condition: the list is there, the place within it.
-/
namespace Go.Proofs.YtmonkcekkhfafaaGreatDoor.Aut
open Go.RowKit (Below intOf)
open Reg (cf bx)

theorem off_grown {sl : Option Addr} {n c base : Nat} (h : ∀ k, (Value.slice sl n c).ownBlock = some k → base ≤ k) : ∀ B, B < base → Off sl B := fun _ hB => off_own h hB

set_option maxHeartbeats 4000000 in
set_option maxRecDepth 100000 in
theorem with_any (s : Option Addr) (n c : Nat) (l : List Int) (i : Nat) (x : Int) (w : World) (hW : WS w s n c l) (hi : i ≤ n) (hn : n < 1000000) (hx : U64 x) :
    Calls Tryz.prog 126 #[.slice s n c, .int .i64 i, .int .u64 x] w fun e w' => ∃ sl c', e = .returned (.slice sl (n + 1) c') ∧ WS w' sl (n + 1) c' (withL l i x) ∧ Ext w w' ∧ ∀ B, B < w.heap.size → Off sl B := by
  have hnc := hW.lc
  obtain ⟨A1, eA, lA⟩ : ∃ A1, RowKit.Hid (i = A1) ∧ A1 ≤ n := ⟨i, Lib.hid rfl, hi⟩
  have q1 : ∀ W, (Instr.sliceAt 27 (.slice s n c) none (some (.int .i64 (i : Int))) none).run Tryz.prog W = .ok (.slice s A1 c) W := fun W => by rw [← eA.out]; exact slice_hiWS s n c i (by omega) W
  obtain ⟨s2', n2', c2', q2, hO5, en2⟩ : ∃ s2' n2' c2', (∀ W, (Instr.sliceAt 27 (.slice s n c) (some (.int .i64 (i : Int))) none none).run Tryz.prog W = .ok (.slice s2' n2' c2') W) ∧ WS w s2' n2' c2' (l.drop A1) ∧ n2' + A1 = n := ⟨_, _, _, fun W => slice_loWS s n c i (by omega) W, by rw [← eA.out]; exact hW.drop (by omega), by rw [← eA.out]; omega⟩
  have hO4 : WS w s A1 c (l.take A1) := hW.take lA
  obtain ⟨L2, eL2⟩ : ∃ L2, RowKit.Hid (A1 + 1 = L2) := ⟨_, Lib.hid rfl⟩
  obtain ⟨L3, eL3⟩ : ∃ L3, RowKit.Hid (L2 + n2' = L3) := ⟨_, Lib.hid rfl⟩
  have lL2 : L2 ≤ 1048577 := by have := eL2.out; omega
  have lL3 : RowKit.Hid (L3 = n + 1) := Lib.hid (by have := eL2.out; have := eL3.out; omega)
  have lL4 : L3 ≤ 1000000 := by have := lL3.out; omega
  have hfl : RowKit.Hid (l.take A1 ++ [x] ++ l.drop A1 = withL l i x) := Lib.hid (by rw [eA.out]; unfold withL; simp)
  clear en2 hi
  go_enter Tryz.func126, Tryz.ntmps126
  go_wp2_with (fail)
  go_region_held3 (fun _ => True)
    (first
      | trivial
      | go_keep)
    (first
      | (refine step_appendWS w.drew (by rfl) (.const (.slice none 0 0)) (.tmp 9) (by rfl) w.heap.size 0 (.slice none 0 0) [] (by rfl) (World.ownsRow_nil _ _ _ _) s A1 c (l.take A1) (by rfl) (hO4.ext (Ext.drew (Ext.refl w))) A1 (Nat.zero_add _) (by omega) (Nat.le_refl _) ?_; intro sx kx w1 hown1 hg1; have x1 : Ext w w1 := Ext.grown (Ext.drew (Ext.refl w)) hg1 (fun k e => by simp [Value.ownBlock] at e); have y1 : WS (w1.alloc (.cells #[.int .u64 x] 26)) (some ⟨w1.heap.size, 0, none⟩) 1 1 [x] := WS.lit w1 x hx; have o1 := hown1.alloc (.cells #[.int .u64 x] 26))
      | (refine step_appendWS (w.alloc (.cells #[.int .u64 x] 26)).drew (by rfl) (.const (.slice none 0 0)) (.tmp 9) (by rfl) w.heap.size 0 (.slice none 0 0) [] (by rfl) (World.ownsRow_nil _ _ _ _) s A1 c (l.take A1) (by rfl) (hO4.ext (Ext.drew (Ext.new w _))) A1 (Nat.zero_add _) (by omega) (by simp) ?_; intro sx kx w1 hown1 hg1; have x1 : Ext w w1 := Ext.grown (Ext.drew (Ext.new w _)) hg1 (fun k e => by simp [Value.ownBlock] at e); have y1 : WS w1 (some ⟨w.heap.size, 0, none⟩) 1 1 [x] := WS.ext (WS.lit w x hx) (Ext.grown (Ext.drew (Ext.refl _)) hg1 (fun k e => by simp [Value.ownBlock] at e)); have o1 := hown1)
      | (refine step_appendWS _ (by rfl) (.tmp 10) (.tmp 12) (by rfl) w.heap.size _ _ _ (by rfl) o1 _ 1 1 [x] (by rfl) y1 L2 eL2.out (by omega) (by have := x1.size; simp; omega) ?_; intro sy ky w2 hown2 hg2; have x2 : Ext w w2 := Ext.grown (by first | exact Ext.alloc x1 _ | exact x1) hg2 (own_ge hown1))
      | (refine step_appendWS w2 (by rfl) (.tmp 13) (.tmp 16) (by rfl) w.heap.size _ _ _ (by rfl) hown2 s2' n2' c2' (l.drop A1) (by rfl) (hO5.ext x2) L3 eL3.out (by omega) x2.size ?_; intro sz kz w3 hown3 hg3; have x3 : Ext w w3 := Ext.grown x2 hg3 (own_ge hown2)))
  all_goals
    have hfin : RowKit.Hid (WS w3 sz L3 kz (l.take A1 ++ [x] ++ l.drop A1)) := Lib.hid (by
      refine WS.of_own (by simpa using hown3) ?_ (by omega) (fun y hy => ?_)
      · have z1 := hO4.len
        have z2 := hO5.len
        rw [List.length_append, List.length_append, z2, z1, ← eL3.out, ← eL2.out]; rfl
      · simp only [List.mem_append, List.mem_cons, List.not_mem_nil, or_false] at hy
        rcases hy with (hy | rfl) | hy
        · exact hO4.range y hy
        · exact hx
        · exact hO5.range y hy)
    have hof := Lib.hid (off_grown (own_ge hown3))
    have HX3 := Lib.hid x3
    clear hown1 hown2 hown3 hg1 hg2 hg3 x1 x2 x3 y1 o1 q1 q2 hO4 hO5
    go_wp2_with (fail)
    go_ret
    rw [hfl.out, lL3.out] at hfin
    exact ⟨sz, kz, by rw [lL3.out]; rfl, hfin.out, HX3.out, hof.out⟩

set_option maxHeartbeats 4000000 in
set_option maxRecDepth 100000 in
theorem without_any (s : Option Addr) (n c : Nat) (l : List Int) (i : Nat) (w : World) (hW : WS w s n c l) (hi : i < n) (hn : n < 1000000) :
    Calls Tryz.prog 125 #[.slice s n c, .int .i64 i] w fun e w' => ∃ sl c', e = .returned (.slice sl (n - 1) c') ∧ WS w' sl (n - 1) c' (withoutL l i) ∧ Ext w w' ∧ ∀ B, B < w.heap.size → Off sl B := by
  have hnc := hW.lc
  obtain ⟨A1, eA, lA⟩ : ∃ A1, RowKit.Hid (i = A1) ∧ A1 ≤ n := ⟨i, Lib.hid rfl, by omega⟩
  have q1 : ∀ W, (Instr.sliceAt 27 (.slice s n c) none (some (.int .i64 (i : Int))) none).run Tryz.prog W = .ok (.slice s A1 c) W := fun W => by rw [← eA.out]; exact slice_hiWS s n c i (by omega) W
  obtain ⟨s2', n2', c2', q2, hO5, en2⟩ : ∃ s2' n2' c2', (∀ W, (Instr.sliceAt 27 (.slice s n c) (some (.int .i64 ((i : Int) + 1))) none none).run Tryz.prog W = .ok (.slice s2' n2' c2') W) ∧ WS w s2' n2' c2' (l.drop (A1 + 1)) ∧ n2' + (A1 + 1) = n := ⟨_, _, _, fun W => slice_loWS s n c (i + 1) (by omega) W, by rw [← eA.out]; exact hW.drop (by omega), by rw [← eA.out]; omega⟩
  have hw1 : IntKind.i64.wrap ((i : Int) + 1) = i + 1 := IntWalk.i64_in _ (by omega)
  have hO4 : WS w s A1 c (l.take A1) := hW.take lA
  obtain ⟨L3, eL3⟩ : ∃ L3, RowKit.Hid (A1 + n2' = L3) := ⟨_, Lib.hid rfl⟩
  have lL3 : RowKit.Hid (L3 = n - 1) := Lib.hid (by have := eL3.out; omega)
  have lL4 : L3 ≤ 1000000 := by have := lL3.out; omega
  have hfl : RowKit.Hid (l.take A1 ++ l.drop (A1 + 1) = withoutL l i) := Lib.hid (by rw [eA.out]; unfold withoutL; rfl)
  clear en2
  go_enter Tryz.func125, Tryz.ntmps125
  go_wp2_with (fail)
  go_region_held3 (fun _ => True)
    (first
      | trivial
      | go_keep)
    (first
      | (refine step_appendWS w.drew (by rfl) (.const (.slice none 0 0)) (.tmp 7) (by rfl) w.heap.size 0 (.slice none 0 0) [] (by rfl) (World.ownsRow_nil _ _ _ _) s A1 c (l.take A1) (by rfl) (hO4.ext (Ext.drew (Ext.refl w))) A1 (Nat.zero_add _) (by omega) (Nat.le_refl _) ?_; intro sx kx w1 hown1 hg1; have x1 : Ext w w1 := Ext.grown (Ext.drew (Ext.refl w)) hg1 (fun k e => by simp [Value.ownBlock] at e))
      | (refine step_appendWS w1 (by rfl) (.tmp 8) (.tmp 12) (by rfl) w.heap.size _ _ _ (by rfl) hown1 s2' n2' c2' (l.drop (A1 + 1)) (by rfl) (hO5.ext x1) L3 eL3.out (by omega) x1.size ?_; intro sz kz w3 hown3 hg3; have x3 : Ext w w3 := Ext.grown x1 hg3 (own_ge hown1)))
  all_goals
    have hfin : RowKit.Hid (WS w3 sz L3 kz (l.take A1 ++ l.drop (A1 + 1))) := Lib.hid (by
      refine WS.of_own (by simpa using hown3) ?_ (by omega) (fun y hy => ?_)
      · have z1 := hO4.len
        have z2 := hO5.len
        rw [List.length_append, z2, z1, ← eL3.out]
      · rw [List.mem_append] at hy
        rcases hy with hy | hy
        · exact hO4.range y hy
        · exact hO5.range y hy)
    have hof := Lib.hid (off_grown (own_ge hown3))
    have HX3 := Lib.hid x3
    clear hown1 hown3 hg1 hg3 x1 x3 q1 q2 hO4 hO5
    go_wp2_with (fail)
    go_ret
    rw [hfl.out, lL3.out] at hfin
    exact ⟨sz, kz, by rw [lL3.out]; rfl, hfin.out, HX3.out, hof.out⟩

end Go.Proofs.YtmonkcekkhfafaaGreatDoor.Aut

/- AutPl:
  What the document's placed does and tells: a call of what has keys, of a key that is at a place, or would be. Conditions: integers' bounds; the state's slices are there, as many values as keys where there are values, the place within them.
-/
namespace Go.Proofs.YtmonkcekkhfafaaGreatDoor.Aut
open Go.RowKit (Below intOf)
open Reg (cf bx)

theorem valued_is (k p m : Int) (w : World) : Calls Tryz.prog 107 #[cf k p m] w fun e w' => e = .returned (.bool (valued k)) ∧ w' = w.alloc (bx k p m) := by
  by_cases h3 : k = 3
  · subst h3
    go_enter Tryz.func107, Tryz.ntmps107
    go_wp2
    go_ret
    exact ⟨rfl, rfl⟩
  · have e3 : (k == 3) = false := by simpa using h3
    have e4 : RowKit.Hid ((k == 4) = valued k) := Lib.hid (by unfold valued; by_cases h4 : k = 4 <;> simp [h3, h4])
    clear h3
    go_enter Tryz.func107, Tryz.ntmps107
    go_wp2
    go_ret
    exact ⟨ret_bool e4.out, rfl⟩

theorem five_keys {w : World} {b : Nat} {r : Int} {k v t : Sl} {cl : Bool} (h : Five w b r k v t cl) (sl : Option Addr) (n c : Nat) : Five (w.setCell ⟨b, 1, none⟩ (.slice sl n c)) b r ⟨sl, n, c⟩ v t cl :=
  ⟨(set_far (by omega)).trans h.1, World.cell?_setCell_same' _ _ _ (by rw [h.2.1]; rfl), (set_far (by omega)).trans h.2.2.1, (set_far (by omega)).trans h.2.2.2.1, (set_far (by omega)).trans h.2.2.2.2⟩
theorem five_vals {w : World} {b : Nat} {r : Int} {k v t : Sl} {cl : Bool} (h : Five w b r k v t cl) (sl : Option Addr) (n c : Nat) : Five (w.setCell ⟨b, 2, none⟩ (.slice sl n c)) b r k ⟨sl, n, c⟩ t cl :=
  ⟨(set_far (by omega)).trans h.1, (set_far (by omega)).trans h.2.1, World.cell?_setCell_same' _ _ _ (by rw [h.2.2.1]; rfl), (set_far (by omega)).trans h.2.2.2.1, (set_far (by omega)).trans h.2.2.2.2⟩
/-- The world in which placed begins. -/
abbrev plW (w : World) (k p m : Int) (ka : Option Addr) (kn kc : Nat) (va : Option Addr) (vn vc : Nat) (ta : Option Addr) (tn tc : Nat) (r : Int) (cl : Bool) (cd ky vl : Int) : World :=
  (((((w.alloc (bx k p m)).alloc (.cells #[.int .u64 r, .slice ka kn kc, .slice va vn vc, .slice ta tn tc, .bool cl] 30)).alloc (.cells #[.int .i64 cd, .int .u64 ky, .int .u64 vl] 67)).alloc (.cells #[.int .u64 0, .slice none 0 0, .slice none 0 0, .slice none 0 0, .bool false] 30)).alloc (.cells #[.int .i64 0, .int .u64 0] 63)).alloc (.cells #[.int .u64 r, .slice ka kn kc, .slice va vn vc, .slice ta tn tc, .bool cl] 30)

theorem WS.alloc {w : World} {sl : Option Addr} {n c : Nat} {xs : List Int} (h : WS w sl n c xs) (o : Obj) : WS (w.alloc o) sl n c xs := h.ext (Ext.new w o)
theorem WS.drew {w : World} {sl : Option Addr} {n c : Nat} {xs : List Int} (h : WS w sl n c xs) : WS w.drew sl n c xs := h.ext (Ext.drew (Ext.refl w))
/-- One word of a slice anew. -/
theorem WS.upd {w : World} {g n c i : Nat} {x : Int} {xs : List Int} (h : WS w (some ⟨g, 0, none⟩) n c xs) (hi : i < n) (hx : U64 x) : WS (w.setCell ⟨g, i, none⟩ (.int .u64 x)) (some ⟨g, 0, none⟩) n c (xs.set i x) := by
  refine ⟨by rw [List.length_set]; exact h.1, h.2.1, h.2.2.1, h.2.2.2.1, fun j y hj => ?_⟩
  by_cases e : i = j
  · subst e
    rw [List.getElem?_set_self (by rw [h.1]; exact hi)] at hj
    cases hj
    obtain ⟨z, _, _, b, o, e0, hc⟩ := h.get hi
    cases e0
    rw [Nat.zero_add] at hc
    exact ⟨hx, g, 0, rfl, by rw [Nat.zero_add]; exact World.cell?_setCell_same' _ _ _ (by rw [hc]; rfl)⟩
  · rw [List.getElem?_set_ne e] at hj
    obtain ⟨hu, b, o, e0, hc⟩ := h.2.2.2.2 j y hj
    cases e0
    exact ⟨hu, g, 0, rfl, by rw [set_far (by omega)]; exact hc⟩
/-- An answer's cells. -/
def Two (w : World) (b : Nat) (e x : Int) : Prop := w.cell? ⟨b, 0, none⟩ = some (.int .i64 e) ∧ w.cell? ⟨b, 1, none⟩ = some (.int .u64 x)
theorem two_ext {w w' : World} {b : Nat} {e x : Int} (h : Ext w w') (g : Two w b e x) : Two w' b e x := ⟨h.cell g.1, h.cell g.2⟩
theorem two_alloc {w : World} {b : Nat} {e x : Int} (h : Two w b e x) (o : Obj) : Two (w.alloc o) b e x := two_ext (Ext.new w o) h
theorem two_at {X : World} {B : Nat} {e x : Int} (h : X.heap.size = B) : Two (X.alloc (.cells #[.int .i64 e, .int .u64 x] 63)) B e x := by
  subst h
  constructor <;> (unfold World.cell?; rw [World.alloc_heap_new]; rfl)
theorem Five.some {w : World} {b : Nat} {r : Int} {k v t : Sl} {cl : Bool} (h : Five w b r k v t cl) : ∀ i, i < 5 → (w.cell? ⟨b, i, none⟩).isSome = true := fun i hi => by
  obtain ⟨a0, a1, a2, a3, a4⟩ := h
  match i, hi with
  | 0, _ => rw [a0]; rfl
  | 1, _ => rw [a1]; rfl
  | 2, _ => rw [a2]; rfl
  | 3, _ => rw [a3]; rfl
  | 4, _ => rw [a4]; rfl
  | i + 5, hi => omega
theorem Two.some {w : World} {b : Nat} {e x : Int} (h : Two w b e x) : ∀ i, i < 2 → (w.cell? ⟨b, i, none⟩).isSome = true := fun i hi => by
  obtain ⟨a0, a1⟩ := h
  match i, hi with
  | 0, _ => rw [a0]; rfl
  | 1, _ => rw [a1]; rfl
  | i + 2, hi => omega
/-- What both results are, once they are written. -/
theorem fin_both {W W' : World} {B C : Nat} (hB : ∀ i, i < 5 → (W.cell? ⟨B, i, none⟩).isSome = true) (hC : ∀ i, i < 2 → (W.cell? ⟨C, i, none⟩).isSome = true) (hne : B ≠ C) (r : Int) (k v t : Sl) (cl : Bool) (e x : Int)
    (hE : Ext (((put5 W B r k v t cl).setCell ⟨C, 0, none⟩ (.int .i64 e)).setCell ⟨C, 1, none⟩ (.int .u64 x)) W') : Five W' B r k v t cl ∧ Two W' C e x := by
  refine ⟨(((five_put hB r k v t cl).set hne _ _).set hne _ _).ext hE, two_ext hE ⟨?_, ?_⟩⟩
  · rw [set_far (by omega)]
    exact World.cell?_setCell_same' _ _ _ (by rw [cell_far (Ne.symm hne), cell_far (Ne.symm hne), cell_far (Ne.symm hne), cell_far (Ne.symm hne), cell_far (Ne.symm hne)]; exact hC 0 (by omega))
  · exact World.cell?_setCell_same' _ _ _ (by rw [set_far (by omega), cell_far (Ne.symm hne), cell_far (Ne.symm hne), cell_far (Ne.symm hne), cell_far (Ne.symm hne), cell_far (Ne.symm hne)]; exact hC 1 (by omega))
theorem two_set {w : World} {b B i : Nat} {e x : Int} {v : Value} (h : Two w b e x) (hB : b ≠ B) : Two (w.setCell ⟨B, i, none⟩ v) b e x := ⟨(cell_far hB).trans h.1, (cell_far hB).trans h.2⟩

/-- What placed asks. -/
structure Pl (k p m : Int) (a v t : Sl) (s : St) (o : Cl) (x : Int) (i : Nat) (here : Bool) (w : World) : Prop where
  hm : I64 m
  hS : SS w a v t s
  ho : Wc o
  hx : U64 x
  hi : i ≤ s.keys.length
  hh : here = true → i < s.keys.length
  hv : valued k = true → s.vals.length = s.keys.length
  hl : s.keys.length ≤ 256

end Go.Proofs.YtmonkcekkhfafaaGreatDoor.Aut

