/-
  Parts of a proof, one behind the other: AutFacts, RegLeaf, FltRef. Each says its own conditions.
-/
import Derived.Test.YtdipddnnckfnmaaGreatM01
import Derived.WalkKit
import Derived.WalkLawsBesides
import Derived.Lib.Hide
import Derived.Below

/- AutFacts:
  What is right stays right; what tells an error, and what reads, changes nothing; the read-out, step by step, and back. Condition: the state's numbers are words.
-/
namespace Go.Proofs.YtdipddnnckfnmaaGreat.Aut

theorem keyed_cases {k : Int} (h : keyed k = true) : k = 2 ∨ k = 3 ∨ k = 4 := of_decide_eq_true h
theorem new_right {k p m : Int} (h : fits k p m = true) : rightS k p m (newS k p m).1 = true := by
  have hk := fits_of h
  unfold newS
  rw [if_pos h]
  refine right_iff.2 ⟨h, ⟨.inr rfl, .inr ⟨rfl, rfl⟩, ?_⟩, fun _ => rfl, fun hh => ?_, fun h5 => ?_⟩
  · by_cases h5 : k = 5
    · exact .inl h5
    · exact .inr ⟨by simp [h5], rfl⟩
  · refine ⟨by simp; omega, by simp, fun x hx => by simp at hx, List.Pairwise.nil⟩
  · unfold VotesOk
    simp only [if_pos h5]
    refine ⟨by simp; omega, fun v hv => ?_⟩
    have := List.eq_of_mem_replicate hv
    omega
theorem new_wd (k p m : Int) : Wd (newS k p m).1 := by
  unfold newS
  split
  · refine ⟨by unfold U64; simp, fun x hx => by simp at hx, fun x hx => by simp at hx, fun x hx => ?_⟩
    simp only at hx
    split at hx
    · have := List.eq_of_mem_replicate hx; subst this; unfold I64; omega
    · simp at hx
  · exact ⟨by unfold U64 zeroS; simp, fun x hx => by simp [zeroS] at hx, fun x hx => by simp [zeroS] at hx, fun x hx => by simp [zeroS] at hx⟩

theorem maxOf_canon (x y : Int) : canon (maxOf x y) = maxOf x y := by unfold maxOf; split <;> exact canon_canon _
theorem sumOf_canon (x y : Int) : canon (sumOf x y) = sumOf x y := canon_canon _
theorem maxOf_u {x y : Int} (hx : U64 x) (hy : U64 y) : U64 (maxOf x y) := by
  unfold maxOf
  split
  · exact ⟨canon_lo _ hy.1, canon_hi _ hy.2⟩
  · exact ⟨canon_lo _ hx.1, canon_hi _ hx.2⟩

theorem next_same (s : St) (i : Nat) : (nextS s i).1 = s := by unfold nextS; split <;> rfl

theorem keys_of {k p m : Int} {s : St} (h : rightS k p m s = true) (hk : keyed k = true) : KeysOk k m s := (right_iff.1 h).2.2.2.1 hk
theorem keys_wd {k m : Int} {s : St} (h : KeysOk k m s) (hw : Wd s) : ∀ y ∈ s.keys, U64 y ∧ meantK k y = y := fun y hy => ⟨hw.2.1 y hy, (h.2.2.1 y hy).1⟩

theorem valued_of {k : Int} (h : valued k = true) : keyed k = true := by
  unfold valued at h; unfold keyed; have := of_decide_eq_true h; exact decide_eq_true (by omega)

/-- One key more. -/
theorem keysOk_with {k m : Int} {s : St} (h : KeysOk k m s) (hw : Wd s) {x v : Int} (hx : U64 x) (mx : meantK k x = x) (may : mayK k x = true) (hn : hereK s.keys (posK k s.keys x) x = false) (hm : ¬ (s.keys.length : Int) = m) :
    KeysOk k m { s with keys := withL s.keys (posK k s.keys x) x, vals := if valued k then withL s.vals (posK k s.keys x) v else s.vals } := by
  have hp := pos_le k s.keys x
  have hv := h.2.1
  refine ⟨?_, ?_, fun y hy => ?_, rising_with h.2.2.2 (keys_wd h hw) hx mx hn⟩
  · simp only [with_len _ _ _ hp]; have := h.1; omega
  · simp only
    by_cases c : valued k = true
    · rw [if_pos c] at hv
      rw [if_pos c, if_pos c, with_len _ _ _ hp, with_len _ _ _ (by omega), hv]
    · rw [if_neg c] at hv
      rw [if_neg c, if_neg c]; exact hv
  · rcases mem_with.1 hy with rfl | hy
    · exact ⟨mx, may⟩
    · exact h.2.2.1 y hy
/-- One key less. -/
theorem keysOk_without {k m : Int} {s : St} (h : KeysOk k m s) {i : Nat} (hi : i < s.keys.length) :
    KeysOk k m { s with keys := withoutL s.keys i, vals := if valued k then withoutL s.vals i else s.vals } := by
  have hv := h.2.1
  refine ⟨?_, ?_, fun y hy => h.2.2.1 y (mem_without hy), rising_without h.2.2.2⟩
  · simp only [without_len _ _ hi]; have := h.1; omega
  · simp only
    by_cases c : valued k = true
    · rw [if_pos c] at hv
      rw [if_pos c, if_pos c, without_len _ _ hi, without_len _ _ (by omega), hv]
    · rw [if_neg c] at hv
      rw [if_neg c, if_neg c]; exact hv

theorem here_lt {l : List Int} {i : Nat} {x : Int} (h : hereK l i x = true) : i < l.length := by
  unfold hereK at h; have := of_decide_eq_true h; exact (List.getElem?_eq_some_iff.1 this).1

/-- What a call of keys leaves: keys that are right, and nothing else is turned. -/
theorem placed_ok {k m : Int} {s : St} (h : KeysOk k m s) (hw : Wd s) (o : Cl) (ho : Wc o) {x : Int} (hx : U64 x) (mx : meantK k x = x) (may : mayK k x = true) :
    KeysOk k m (placedS k m s o x (posK k s.keys x) (hereK s.keys (posK k s.keys x) x)).1 ∧ Wd (placedS k m s o x (posK k s.keys x) (hereK s.keys (posK k s.keys x) x)).1 ∧
    (placedS k m s o x (posK k s.keys x) (hereK s.keys (posK k s.keys x) x)).1.reg = s.reg ∧ (placedS k m s o x (posK k s.keys x) (hereK s.keys (posK k s.keys x) x)).1.votes = s.votes ∧ (placedS k m s o x (posK k s.keys x) (hereK s.keys (posK k s.keys x) x)).1.closed = s.closed := by
  have hp := pos_le k s.keys x
  have keep : KeysOk k m s ∧ Wd s ∧ s.reg = s.reg ∧ s.votes = s.votes ∧ s.closed = s.closed := ⟨h, hw, rfl, rfl, rfl⟩
  obtain ⟨here, hh⟩ : ∃ here, hereK s.keys (posK k s.keys x) x = here := ⟨_, rfl⟩
  rw [hh]
  unfold placedS
  split
  · cases here with
    | true =>
      have hi := here_lt hh
      have h1 := keysOk_without h hi
      simp only [if_pos]
      by_cases c : valued k = true
      · rw [if_pos c] at h1
        rw [if_pos c]
        exact ⟨h1, ⟨hw.1, fun y hy => hw.2.1 y (mem_without hy), fun y hy => hw.2.2.1 y (mem_without hy), hw.2.2.2⟩, rfl, rfl, rfl⟩
      · rw [if_neg c] at h1
        rw [if_neg c]
        exact ⟨h1, ⟨hw.1, fun y hy => hw.2.1 y (mem_without hy), hw.2.2.1, hw.2.2.2⟩, rfl, rfl, rfl⟩
    | false => exact keep
  · split
    · rw [next_same]; exact keep
    · split
      · exact keep
      · split
        · split <;> exact keep
        · split
          · rename_i c5
            split
            · exact keep
            · rename_i hn
              have hn' : here = false := by simpa using hn
              split
              · exact keep
              · rename_i hm
                have h1 := keysOk_with (v := 0) h hw hx mx may (hh.trans hn') hm
                rw [if_neg (by rw [c5.2]; simp)] at h1
                exact ⟨h1, ⟨hw.1, fun y hy => by rcases mem_with.1 hy with rfl | hy; exact hx; exact hw.2.1 y hy, hw.2.2.1, hw.2.2.2⟩, rfl, rfl, rfl⟩
          · split
            · rename_i c6
              split
              · refine ⟨⟨h.1, ?_, h.2.2.1, h.2.2.2⟩, ⟨hw.1, hw.2.1, fun y hy => ?_, hw.2.2.2⟩, rfl, rfl, rfl⟩
                · simp only [List.length_set]; exact h.2.1
                · rcases List.mem_or_eq_of_mem_set hy with hy | rfl
                  · exact hw.2.2.1 y hy
                  · exact ho.2.2
              · rename_i hn
                have hn' : here = false := by simpa using hn
                split
                · exact keep
                · rename_i hm
                  have h1 := keysOk_with (v := o.val) h hw hx mx may (hh.trans hn') hm
                  rw [if_pos c6.2] at h1
                  refine ⟨h1, ⟨hw.1, fun y hy => ?_, fun y hy => ?_, hw.2.2.2⟩, rfl, rfl, rfl⟩
                  · rcases mem_with.1 hy with rfl | hy
                    · exact hx
                    · exact hw.2.1 y hy
                  · rcases mem_with.1 hy with rfl | hy
                    · exact ho.2.2
                    · exact hw.2.2.1 y hy
            · exact keep

theorem meant_may {k x : Int} (h : mayK k x = true) : mayK k (meantK k x) = true := by
  unfold mayK meantK at *
  by_cases c : k = 4
  · rw [if_pos c]
  · rw [if_neg c] at h ⊢; rw [if_neg c]; exact h
theorem table_ok {k m : Int} {s : St} (h : KeysOk k m s) (hw : Wd s) (o : Cl) (ho : Wc o) :
    KeysOk k m (tableS k m s o).1 ∧ Wd (tableS k m s o).1 ∧ (tableS k m s o).1.reg = s.reg ∧ (tableS k m s o).1.votes = s.votes ∧ (tableS k m s o).1.closed = s.closed := by
  unfold tableS
  split
  · exact ⟨h, hw, rfl, rfl, rfl⟩
  · split
    · rename_i hm
      exact placed_ok h hw o ho (meant_u ho.2.1) (meant_meant k o.key) (meant_may hm)
    · exact ⟨h, hw, rfl, rfl, rfl⟩
theorem ballot_ok {m : Int} {s : St} (h : VotesOk m s) (hw : Wd s) (o : Cl) : VotesOk m (ballotS m s o).1 ∧ Wd (ballotS m s o).1 ∧ (ballotS m s o).1.reg = s.reg ∧ (ballotS m s o).1.keys = s.keys ∧ (ballotS m s o).1.vals = s.vals := by
  have keep : VotesOk m s ∧ Wd s ∧ s.reg = s.reg ∧ s.keys = s.keys ∧ s.vals = s.vals := ⟨h, hw, rfl, rfl, rfl⟩
  unfold ballotS
  split
  · unfold castS
    split
    · exact keep
    · rename_i c
      split
      · exact keep
      · split
        · exact keep
        · refine ⟨⟨by simp only [List.length_set]; exact h.1, fun v hv => ?_⟩, ⟨hw.1, hw.2.1, hw.2.2.1, fun v hv => ?_⟩, rfl, rfl, rfl⟩
          · rcases List.mem_or_eq_of_mem_set hv with hv | rfl
            · exact h.2 v hv
            · omega
          · rcases List.mem_or_eq_of_mem_set hv with hv | rfl
            · exact hw.2.2.2 v hv
            · unfold I64; omega
  · split
    · exact ⟨h, hw, rfl, rfl, rfl⟩
    · split
      · split <;> exact keep
      · split
        · split <;> exact keep
        · split <;> exact keep
theorem reg_ok {s : St} (h : canon s.reg = s.reg) (hw : Wd s) (o : Cl) (ho : Wc o) : canon (regS s o).1.reg = (regS s o).1.reg ∧ Wd (regS s o).1 ∧ (regS s o).1.keys = s.keys ∧ (regS s o).1.vals = s.vals ∧ (regS s o).1.votes = s.votes ∧ (regS s o).1.closed = s.closed := by
  unfold regS
  split
  · exact ⟨h, hw, rfl, rfl, rfl, rfl⟩
  · split
    · exact ⟨canon_canon _, ⟨⟨canon_lo _ ho.2.2.1, canon_hi _ ho.2.2.2⟩, hw.2⟩, rfl, rfl, rfl, rfl⟩
    · split
      · exact ⟨maxOf_canon _ _, ⟨maxOf_u hw.1 ho.2.2, hw.2⟩, rfl, rfl, rfl, rfl⟩
      · split
        · exact ⟨sumOf_canon _ _, ⟨⟨sum_lo _ _, sum_hi _ _⟩, hw.2⟩, rfl, rfl, rfl, rfl⟩
        · exact ⟨h, hw, rfl, rfl, rfl, rfl⟩

theorem do_right {k p m : Int} {s : St} (h : rightS k p m s = true) (hw : Wd s) (o : Cl) (ho : Wc o) : rightS k p m (doS k m s o).1 = true ∧ Wd (doS k m s o).1 := by
  obtain ⟨hf, he, h1, h2, h5⟩ := right_iff.1 h
  have hk := fits_of hf
  unfold doS
  by_cases c1 : k = 1
  · rw [if_pos c1]
    obtain ⟨r1, r2, r3, r4, r5, r6⟩ := reg_ok (h1 c1) hw o ho
    have hn : keyed k = false := by unfold keyed; exact decide_eq_false (by omega)
    refine ⟨right_iff.2 ⟨hf, ⟨.inl c1, ?_, ?_⟩, fun _ => r1, fun e => absurd (hn.symm.trans e) (by simp), fun e => absurd e (by omega)⟩, r2⟩
    · rw [r3, r4]; exact he.2.1
    · rw [r5, r6]; exact he.2.2
  · rw [if_neg c1]
    by_cases c2 : keyed k = true
    · rw [if_pos c2]
      obtain ⟨r1, r2, r3, r4, r5⟩ := table_ok (h2 c2) hw o ho
      have c5 : k ≠ 5 := by have := keyed_cases c2; omega
      refine ⟨right_iff.2 ⟨hf, ⟨?_, .inl c2, ?_⟩, fun e => absurd e c1, fun _ => r1, fun e => absurd e c5⟩, r2⟩
      · rw [r3]; exact he.1
      · rw [r4, r5]; exact he.2.2
    · rw [if_neg c2]
      have c5 : k = 5 := by
        have h2' : ¬ (k = 2 ∨ k = 3 ∨ k = 4) := fun h => c2 (decide_eq_true h)
        omega
      obtain ⟨r1, r2, r3, r4, r5⟩ := ballot_ok (h5 c5) hw o
      refine ⟨right_iff.2 ⟨hf, ⟨?_, ?_, .inl c5⟩, fun e => absurd e c1, fun e => absurd e c2, fun _ => r1⟩, r2⟩
      · rw [r3]; exact he.1
      · rw [r4, r5]; exact he.2.1

/-- An error tells nothing else, and changes nothing. -/
def Errs (s : St) (x : St × Rs) : Prop := x.2.1 ≠ 0 → x.1 = s ∧ x.2.2 = 0
theorem next_errs (s : St) (i : Nat) : Errs s (nextS s i) := by
  unfold nextS; split
  · exact fun h => absurd rfl h
  · exact fun _ => ⟨rfl, rfl⟩
theorem placed_errs (k m : Int) (s : St) (o : Cl) (x : Int) (i : Nat) (here : Bool) : Errs s (placedS k m s o x i here) := by
  have no : ∀ (t : St) (v : Int), Errs s (t, ((0, v) : Rs)) := fun t v h => absurd rfl h
  have er : ∀ (e : Int), Errs s (s, ((e, 0) : Rs)) := fun e _ => ⟨rfl, rfl⟩
  unfold placedS
  split
  · split
    · split <;> exact no _ _
    · exact er _
  · split
    · exact next_errs s _
    · split
      · exact no _ _
      · split
        · split
          · exact no _ _
          · exact er _
        · split
          · split
            · exact no _ _
            · split
              · exact er _
              · exact no _ _
          · split
            · split
              · exact no _ _
              · split
                · exact er _
                · exact no _ _
            · exact er _
theorem do_errs (k m : Int) (s : St) (o : Cl) : Errs s (doS k m s o) := by
  have no : ∀ (t : St) (v : Int), Errs s (t, ((0, v) : Rs)) := fun t v h => absurd rfl h
  have er : ∀ (e : Int), Errs s (s, ((e, 0) : Rs)) := fun e _ => ⟨rfl, rfl⟩
  unfold doS
  split
  · unfold regS
    repeat' (first | exact no _ _ | exact er _ | split)
  · split
    · unfold tableS
      split
      · exact no _ _
      · split
        · exact placed_errs k m s o _ _ _
        · exact er _
    · unfold ballotS castS
      repeat' (first | exact no _ _ | exact er _ | split)
/-- What reads changes nothing. -/
theorem do_reads {k m : Int} {s : St} {o : Cl} (h : readsS o.code = true) : (doS k m s o).1 = s := by
  have hc := of_decide_eq_true h
  unfold doS
  split
  · unfold regS
    rcases hc with e | e | e | e | e | e | e | e <;> simp [e]
  · split
    · unfold tableS
      split
      · rfl
      · split
        · unfold placedS
          rcases hc with e | e | e | e | e | e | e | e
          · simp [e]
          · simp [e]; split <;> rfl
          · simp [e, next_same]
          · simp [e]
          · simp only [e]; split
            · simp at *
            · split
              · simp at *
              · split
                · rfl
                · split
                  · split <;> rfl
                  · simp
          · simp [e]
          · simp [e]
          · simp [e]
        · rfl
    · unfold ballotS
      rcases hc with e | e | e | e | e | e | e | e <;> simp only [e] <;> simp
      · split <;> rfl
      · split <;> rfl

/-! The read-out, step by step. -/

theorem pairs_len : ∀ (ks vs : List Int), vs.length = ks.length → (pairsL ks vs).length = 2 * ks.length
  | [], [], _ => rfl
  | [], _ :: _, h => by simp at h
  | _ :: _, [], h => by simp at h
  | k :: ks, v :: vs, h => by simp only [pairsL, List.length_cons]; rw [pairs_len ks vs (by simpa using h)]; omega
theorem pairs_even : ∀ (ks vs : List Int), vs.length = ks.length → ∀ i, (pairsL ks vs)[2 * i]? = ks[i]?.map fun k => ((0, k) : Rs)
  | [], [], _, i => by simp [pairsL]
  | [], _ :: _, h, _ => by simp at h
  | _ :: _, [], h, _ => by simp at h
  | k :: ks, v :: vs, _, 0 => by simp [pairsL]
  | k :: ks, v :: vs, h, i + 1 => by
    rw [show 2 * (i + 1) = 2 * i + 1 + 1 by omega]
    simp only [pairsL, List.getElem?_cons_succ]
    exact pairs_even ks vs (by simpa using h) i
theorem pairs_odd : ∀ (ks vs : List Int), vs.length = ks.length → ∀ i, (pairsL ks vs)[2 * i + 1]? = vs[i]?.map fun v => ((0, v) : Rs)
  | [], [], _, i => by simp [pairsL]
  | [], _ :: _, h, _ => by simp at h
  | _ :: _, [], h, _ => by simp at h
  | k :: ks, v :: vs, _, 0 => by simp [pairsL]
  | k :: ks, v :: vs, h, i + 1 => by
    rw [show 2 * (i + 1) + 1 = 2 * i + 1 + 1 + 1 by omega]
    simp only [pairsL, List.getElem?_cons_succ]
    exact pairs_odd ks vs (by simpa using h) i

theorem ord_least {k : Int} {y : Int} (hy : U64 y) : ¬ ordK k y < ordK k (if k = 4 then 18442240474082181120 else 0) := by
  unfold ordK
  by_cases c : k = 4
  · rw [if_pos c, if_pos c, if_pos c]
    have := less_negInf y hy.1 hy.2
    unfold less at this
    exact of_decide_eq_false this
  · rw [if_neg c, if_neg c, if_neg c]; have := hy.1; omega
/-- The first call of keys. -/
theorem next_first {k m : Int} {s : St} (hw : Wd s) : (tableS k m s ⟨8, if k = 4 then 18442240474082181120 else 0, 0⟩).2 = (nextS s 0).2 := by
  have hm : meantK k (if k = 4 then 18442240474082181120 else 0) = if k = 4 then 18442240474082181120 else 0 := by
    unfold meantK
    by_cases c : k = 4
    · rw [if_pos c, if_pos c]; decide +kernel
    · rw [if_neg c]
  have hp : posK k s.keys (if k = 4 then 18442240474082181120 else 0) = 0 := pos_eq (Nat.zero_le _) (fun j y hj => absurd hj (Nat.not_lt_zero _)) (fun y hy => ord_least (hw.2.1 y (List.mem_of_getElem? hy)))
  have hy : mayK k (if k = 4 then 18442240474082181120 else 0) = true := by
    unfold mayK
    by_cases c : k = 4
    · rw [if_pos c]
    · rw [if_neg c, if_neg c]; decide
  unfold tableS
  simp only [hm, hp, hy]
  simp [placedS]
/-- The call behind a key. -/
theorem next_then {k m : Int} {s : St} (hK : KeysOk k m s) {i : Nat} {x : Int} (hx : s.keys[i]? = some x) : (tableS k m s ⟨8, x, 1⟩).2 = (nextS s (i + 1)).2 := by
  obtain ⟨hm, hy⟩ := hK.2.2.1 x (List.mem_of_getElem? hx)
  have hp := pos_here hK.2.2.2 hx
  have hh : hereK s.keys i x = true := decide_eq_true hx
  unfold tableS
  simp only [hm, hy, hp, hh]
  simp [placedS]
theorem get_key {k m : Int} {s : St} (hK : KeysOk k m s) (hv : valued k = true) {i : Nat} {x v : Int} (hx : s.keys[i]? = some x) (hvl : s.vals[i]? = some v) : (tableS k m s ⟨10, x, 0⟩).2 = (0, v) := by
  obtain ⟨hm, hy⟩ := hK.2.2.1 x (List.mem_of_getElem? hx)
  have hp := pos_here hK.2.2.2 hx
  have hh : hereK s.keys i x = true := decide_eq_true hx
  unfold tableS
  simp only [hm, hy, hp, hh]
  simp [placedS, hv, hvl]

theorem over_no {k : Int} {l : List Rs} (h : ∀ (i : Nat) r, i % everyK k = 0 → l[i]? = some r → r.1 = 0) : ¬ overK k l := fun ⟨i, r, h1, h2, h3⟩ => h3 (h i r h1 h2)
theorem next_some {s : St} {i : Nat} {x : Int} (h : s.keys[i]? = some x) : (nextS s i).2 = (0, x) := by unfold nextS; rw [h]
theorem next_none {s : St} {i : Nat} (h : s.keys[i]? = none) : (nextS s i).2 = (12, 0) := by unfold nextS; rw [h]
theorem take_app {α : Type} {l : List α} {x : α} {j : Nat} (h : j ≤ l.length) : (l ++ [x]).take j = l.take j := by rw [List.take_append_of_le_length h]

/-- Of keys alone. -/
theorem set_step {k m : Int} {s : St} (hK : KeysOk k m s) (hw : Wd s) (hk : keyed k = true) (hv : valued k = false) (j : Nat) (hj : j < (outS k s).length) :
    ∃ o, Wc o ∧ probedS k ((outS k s).take j) = (o, true) ∧ (outS k s)[j]? = some (tableS k m s o).2 := by
  have c1 : ¬ k = 1 := by have := keyed_cases hk; omega
  have he : outS k s = s.keys.map (fun x => ((0, x) : Rs)) ++ [(12, 0)] := by unfold outS; rw [if_neg c1, if_pos hk, if_neg (by rw [hv]; simp)]
  have hev : everyK k = 1 := by unfold everyK; rw [hv]; rfl
  rw [he] at hj ⊢
  have hj' : j ≤ s.keys.length := by simp at hj; omega
  rw [take_app (by simpa using hj'), List.map_take.symm]
  have hno : ¬ overK k (s.keys.take j |>.map fun x => ((0, x) : Rs)) := over_no (fun i r _ hr => by
    rw [List.getElem?_map] at hr
    obtain ⟨y, _, rfl⟩ := Option.map_eq_some_iff.1 hr
    rfl)
  have hout : (s.keys.map (fun x => ((0, x) : Rs)) ++ [(12, 0)])[j]? = some (nextS s j).2 := by
    by_cases c : j < s.keys.length
    · rw [List.getElem?_append_left (by simpa using c), List.getElem?_map, List.getElem?_eq_getElem c, next_some (List.getElem?_eq_getElem c)]; rfl
    · have : j = s.keys.length := by omega
      rw [next_none (List.getElem?_eq_none (by omega)), this]; simp
  rw [hout]
  unfold probedS
  rw [if_neg hno]
  rcases Nat.eq_zero_or_pos j with h0 | h0
  · subst h0
    refine ⟨⟨8, if k = 4 then 18442240474082181120 else 0, 0⟩, ⟨by unfold I64; simp, by unfold U64; simp only; split <;> omega, by unfold U64; simp⟩, by simp, ?_⟩
    rw [next_first hw]
  · have hlen : (s.keys.take j |>.map fun x => ((0, x) : Rs)).length = j := by simp; omega
    have hne : ¬ (s.keys.take j |>.map fun x => ((0, x) : Rs)) = [] := fun e => by
      rw [e] at hlen; simp at hlen; omega
    have hx : s.keys[j - 1]? = some (s.keys[j - 1]'(by omega)) := List.getElem?_eq_getElem (by omega)
    rw [if_neg hne, hlen, hev, if_neg (by omega)]
    refine ⟨⟨8, s.keys[j - 1]'(by omega), 1⟩, ⟨by unfold I64; simp, hw.2.1 _ (List.getElem_mem _), by unfold U64; simp⟩, ?_, ?_⟩
    · rw [List.getD_eq_getElem?_getD, List.getElem?_map, List.getElem?_take, if_pos (by omega), hx]; rfl
    · rw [next_then hK hx, show j - 1 + 1 = j by omega]
theorem set_over {k : Int} {s : St} (hk : keyed k = true) (hv : valued k = false) : probedS k (outS k s) = (zeroC, false) := by
  have c1 : ¬ k = 1 := by have := keyed_cases hk; omega
  have he : outS k s = s.keys.map (fun x => ((0, x) : Rs)) ++ [(12, 0)] := by unfold outS; rw [if_neg c1, if_pos hk, if_neg (by rw [hv]; simp)]
  have hev : everyK k = 1 := by unfold everyK; rw [hv]; rfl
  unfold probedS
  rw [if_pos ⟨s.keys.length, (12, 0), by rw [hev]; omega, by rw [he]; simp, by simp⟩]

/-- Of keys with values. -/
theorem dict_step {k m : Int} {s : St} (hK : KeysOk k m s) (hw : Wd s) (hk : keyed k = true) (hv : valued k = true) (j : Nat) (hj : j < (outS k s).length) :
    ∃ o, Wc o ∧ probedS k ((outS k s).take j) = (o, true) ∧ (outS k s)[j]? = some (tableS k m s o).2 := by
  have c1 : ¬ k = 1 := by have := keyed_cases hk; omega
  have he : outS k s = pairsL s.keys s.vals ++ [(12, 0)] := by unfold outS; rw [if_neg c1, if_pos hk, if_pos hv]
  have hev : everyK k = 2 := by unfold everyK; rw [hv]; rfl
  have hvl : s.vals.length = s.keys.length := by have := hK.2.1; rwa [if_pos hv] at this
  have hpl := pairs_len s.keys s.vals hvl
  rw [he] at hj ⊢
  have hj' : j ≤ 2 * s.keys.length := by simp [hpl] at hj; omega
  rw [take_app (by omega)]
  have hat : ∀ i, i < j → ((pairsL s.keys s.vals).take j)[i]? = (pairsL s.keys s.vals)[i]? := fun i hi => by rw [List.getElem?_take, if_pos hi]
  have hno : ¬ overK k ((pairsL s.keys s.vals).take j) := over_no (fun i r hi hr => by
    rw [hev] at hi
    have hil : i < j := by have := (List.getElem?_eq_some_iff.1 hr).1; simp at this; omega
    rw [hat i hil] at hr
    obtain ⟨i2, rfl⟩ : ∃ i2, i = 2 * i2 := ⟨i / 2, by omega⟩
    rw [pairs_even _ _ hvl] at hr
    obtain ⟨y, _, rfl⟩ := Option.map_eq_some_iff.1 hr
    rfl)
  have hlen : ((pairsL s.keys s.vals).take j).length = j := by simp; omega
  unfold probedS
  rw [if_neg hno]
  obtain ⟨i, hi⟩ : ∃ i, j = 2 * i ∨ j = 2 * i + 1 := ⟨j / 2, by omega⟩
  rcases hi with rfl | rfl
  · have hout : (pairsL s.keys s.vals ++ [(12, 0)])[2 * i]? = some (nextS s i).2 := by
      by_cases c : i < s.keys.length
      · rw [List.getElem?_append_left (by omega), pairs_even _ _ hvl, List.getElem?_eq_getElem c, next_some (List.getElem?_eq_getElem c)]; rfl
      · have : i = s.keys.length := by omega
        rw [next_none (List.getElem?_eq_none (by omega)), this, List.getElem?_append_right (by omega), hpl]; simp
    rw [hout]
    rcases Nat.eq_zero_or_pos i with h0 | h0
    · subst h0
      refine ⟨⟨8, if k = 4 then 18442240474082181120 else 0, 0⟩, ⟨by unfold I64; simp, by unfold U64; simp only; split <;> omega, by unfold U64; simp⟩, by simp, ?_⟩
      rw [next_first hw]
    · have hne : ¬ (pairsL s.keys s.vals).take (2 * i) = [] := fun e => by have := congrArg List.length e; rw [hlen] at this; simp at this; omega
      have hx : s.keys[i - 1]? = some (s.keys[i - 1]'(by omega)) := List.getElem?_eq_getElem (by omega)
      rw [if_neg hne, hlen, hev, if_neg (by omega)]
      refine ⟨⟨8, s.keys[i - 1]'(by omega), 1⟩, ⟨by unfold I64; simp, hw.2.1 _ (List.getElem_mem _), by unfold U64; simp⟩, ?_, ?_⟩
      · rw [List.getD_eq_getElem?_getD, hat _ (by omega), show 2 * i - 2 = 2 * (i - 1) by omega, pairs_even _ _ hvl, hx]; rfl
      · rw [next_then hK hx, show i - 1 + 1 = i by omega]
  · have hil : i < s.keys.length := by omega
    have hne : ¬ (pairsL s.keys s.vals).take (2 * i + 1) = [] := fun e => by have := congrArg List.length e; rw [hlen] at this; simp at this
    have hx : s.keys[i]? = some s.keys[i] := List.getElem?_eq_getElem hil
    have hvx : s.vals[i]? = some (s.vals[i]'(by omega)) := List.getElem?_eq_getElem (by omega)
    rw [if_neg hne, hlen, hev, if_pos (by omega)]
    refine ⟨⟨10, s.keys[i], 0⟩, ⟨by unfold I64; simp, hw.2.1 _ (List.getElem_mem _), by unfold U64; simp⟩, ?_, ?_⟩
    · rw [List.getD_eq_getElem?_getD, hat _ (by omega), show 2 * i + 1 - 1 = 2 * i by omega, pairs_even _ _ hvl, hx]; rfl
    · rw [get_key hK hv hx hvx, List.getElem?_append_left (by omega), pairs_odd _ _ hvl, hvx]; rfl
theorem dict_over {k m : Int} {s : St} (hK : KeysOk k m s) (hk : keyed k = true) (hv : valued k = true) : probedS k (outS k s) = (zeroC, false) := by
  have c1 : ¬ k = 1 := by have := keyed_cases hk; omega
  have he : outS k s = pairsL s.keys s.vals ++ [(12, 0)] := by unfold outS; rw [if_neg c1, if_pos hk, if_pos hv]
  have hev : everyK k = 2 := by unfold everyK; rw [hv]; rfl
  have hvl : s.vals.length = s.keys.length := by have := hK.2.1; rwa [if_pos hv] at this
  have hpl := pairs_len s.keys s.vals hvl
  unfold probedS
  rw [if_pos ⟨2 * s.keys.length, (12, 0), by rw [hev]; omega, by rw [he, List.getElem?_append_right (by omega), hpl]; simp, by simp⟩]

/-- Of a ballot. -/
theorem ballot_len {k m : Int} {s : St} (h1 : ¬ k = 1) (h2 : keyed k = false) (hV : VotesOk m s) : ((outS k s).length : Int) = 9 + m := by
  unfold outS
  rw [if_neg h1, if_neg (by rw [h2]; simp)]
  have := hV.1
  simp; omega
theorem ballot_get {k : Int} {s : St} (h1 : ¬ k = 1) (h2 : keyed k = false) : (outS k s)[0]? = some (0, bitZ s.closed) ∧ (∀ j : Nat, 1 ≤ j → j ≤ 8 → (outS k s)[j]? = some (0, (tallyL s.votes (j : Int) : Int))) ∧ ∀ j : Nat, (outS k s)[j + 9]? = s.votes[j]?.map fun v => ((0, v) : Rs) := by
  unfold outS
  rw [if_neg h1, if_neg (by rw [h2]; simp)]
  refine ⟨by simp, fun j h3 h4 => ?_, fun j => ?_⟩
  · rw [List.getElem?_append_left (by simp; omega)]
    obtain ⟨i, rfl⟩ : ∃ i, j = i + 1 := ⟨j - 1, by omega⟩
    rw [List.getElem?_cons_succ, List.getElem?_map, List.getElem?_range (by omega)]
    simp
  · rw [List.getElem?_append_right (by simp)]
    simp

/-- Each answer of a right state's read-out is what the next call tells. -/
theorem out_step {k p m : Int} {s : St} (h : rightS k p m s = true) (hw : Wd s) (j : Nat) (hj : j < (outS k s).length) :
    ∃ o, Wc o ∧ probeS k p m ((outS k s).take j) = (o, true) ∧ (outS k s)[j]? = some (doS k m s o).2 := by
  obtain ⟨hf, he, h1, h2, h5⟩ := right_iff.1 h
  have hk := fits_of hf
  have hlen : ((outS k s).take j).length = j := by simp; omega
  unfold probeS doS
  rw [if_neg (by rw [hf]; simp)]
  by_cases c2 : keyed k = true
  · have c1 : ¬ k = 1 := by have := keyed_cases c2; omega
    rw [if_pos c2]
    simp only [if_neg c1, if_pos c2]
    cases hv : valued k with
    | true => exact dict_step (h2 c2) hw c2 hv j hj
    | false => exact set_step (h2 c2) hw c2 hv j hj
  · have c2' : keyed k = false := by simpa using c2
    rw [if_neg c2, hlen]
    by_cases c1 : k = 1
    · have e : outS k s = [(0, s.reg)] := by unfold outS; rw [if_pos c1]
      rw [e] at hj ⊢
      have : j = 0 := by simp at hj; omega
      subst this
      rw [if_pos c1]
      simp only [if_pos c1]
      exact ⟨⟨1, 0, 0⟩, ⟨by unfold I64; simp, by unfold U64; simp, by unfold U64; simp⟩, by simp, by simp [regS]⟩
    · have c5 : k = 5 := by
        have h2' : ¬ (k = 2 ∨ k = 3 ∨ k = 4) := fun h => c2 (decide_eq_true h)
        omega
      have hl := ballot_len c1 c2' (h5 c5)
      obtain ⟨g0, g1, g2⟩ := ballot_get (s := s) c1 c2'
      rw [if_neg c1]
      simp only [if_neg c1, if_neg c2]
      by_cases j0 : j = 0
      · subst j0
        exact ⟨⟨16, 0, 0⟩, ⟨by unfold I64; simp, by unfold U64; simp, by unfold U64; simp⟩, by simp, by rw [g0]; simp [ballotS]⟩
      · rw [if_neg j0]
        by_cases j8 : j ≤ 8
        · rw [if_pos j8]
          refine ⟨⟨14, (j : Int), 0⟩, ⟨by unfold I64; simp, by unfold U64; simp only; omega, by unfold U64; simp⟩, rfl, ?_⟩
          rw [g1 j (by omega) j8]
          have : ¬ ((j : Int) < 1 ∨ 8 < (j : Int)) := by omega
          simp [ballotS, this]
        · rw [if_neg j8, if_pos (by omega)]
          refine ⟨⟨15, (j : Int) - 9, 0⟩, ⟨by unfold I64; simp, by unfold U64; simp only; omega, by unfold U64; simp⟩, rfl, ?_⟩
          obtain ⟨i, rfl⟩ : ∃ i, j = i + 9 := ⟨j - 9, by omega⟩
          have hi : i < s.votes.length := by have := (h5 c5).1; omega
          rw [g2, List.getElem?_eq_getElem hi]
          have : ¬ (m ≤ ((i + 9 : Nat) : Int) - 9) := by omega
          simp only [ballotS]
          rw [if_neg (by omega), if_neg (by omega), if_neg (by omega), if_pos trivial, if_neg this]
          have e : (((i + 9 : Nat) : Int) - 9).toNat = i := by omega
          simp only [e]
          rw [List.getD_eq_getElem?_getD, List.getElem?_eq_getElem hi]; rfl
theorem out_over {k p m : Int} {s : St} (h : rightS k p m s = true) : probeS k p m (outS k s) = (zeroC, false) := by
  obtain ⟨hf, he, h1, h2, h5⟩ := right_iff.1 h
  have hk := fits_of hf
  unfold probeS
  rw [if_neg (by rw [hf]; simp)]
  by_cases c2 : keyed k = true
  · rw [if_pos c2]
    cases hv : valued k with
    | true => exact dict_over (h2 c2) c2 hv
    | false => exact set_over c2 hv
  · have c2' : keyed k = false := by simpa using c2
    rw [if_neg c2]
    by_cases c1 : k = 1
    · have e : outS k s = [(0, s.reg)] := by unfold outS; rw [if_pos c1]
      rw [if_pos c1, e]; simp
    · have c5 : k = 5 := by
        have h2' : ¬ (k = 2 ∨ k = 3 ∨ k = 4) := fun h => c2 (decide_eq_true h)
        omega
      have hl := ballot_len c1 c2' (h5 c5)
      rw [if_neg c1, if_neg (by omega), if_neg (by omega), if_neg (by omega)]

theorem evens_pairs : ∀ (ks vs : List Int) (x : Rs), vs.length = ks.length → evens (pairsL ks vs ++ [x]) = ks ∧ odds (pairsL ks vs ++ [x]) = vs
  | [], [], x, _ => ⟨rfl, rfl⟩
  | [], _ :: _, _, h => by simp at h
  | _ :: _, [], _, h => by simp at h
  | k :: ks, v :: vs, x, h => by
    have ih := evens_pairs ks vs x (by simpa using h)
    obtain ⟨c, r, e⟩ : ∃ c r, pairsL ks vs ++ [x] = c :: r := by
      cases hp : pairsL ks vs with
      | nil => exact ⟨x, [], rfl⟩
      | cons c r => exact ⟨c, r ++ [x], rfl⟩
    simp only [pairsL, List.cons_append, e, evens, odds]
    rw [e] at ih
    exact ⟨by rw [ih.1], by rw [ih.2]⟩
/-- The read-out tells the state. -/
theorem read_out {k p m : Int} {s : St} (h : rightS k p m s = true) : readS k m (outS k s) = s := by
  obtain ⟨hf, he, h1, h2, h5⟩ := right_iff.1 h
  have hk := fits_of hf
  obtain ⟨r, ks, vs, vt, cl⟩ := s
  unfold readS
  by_cases c1 : k = 1
  · have hn : keyed k = false := by unfold keyed; exact decide_eq_false (by omega)
    rw [if_pos c1]
    unfold outS
    rw [if_pos c1]
    obtain ⟨_, he2, he3⟩ := he
    rcases he2 with e | ⟨e1, e2⟩
    · rw [hn] at e; cases e
    · rcases he3 with e | ⟨e3, e4⟩
      · omega
      · simp only at e1 e2 e3 e4
        subst e1; subst e2; subst e3; subst e4; rfl
  · rw [if_neg c1]
    by_cases c2 : keyed k = true
    · rw [if_pos c2]
      have c5 : k ≠ 5 := by have := keyed_cases c2; omega
      have e1 : r = 0 := by rcases he.1 with e | e; exact absurd e c1; exact e
      obtain ⟨e3, e4⟩ : vt = [] ∧ cl = false := by rcases he.2.2 with e | e; exact absurd e c5; exact e
      subst e1; subst e3; subst e4
      have hvl := (h2 c2).2.1
      unfold outS
      rw [if_neg c1, if_pos c2]
      cases hv : valued k with
      | true =>
        rw [hv] at hvl
        simp only [if_true] at hvl ⊢
        obtain ⟨a, b⟩ := evens_pairs ks vs (12, 0) hvl
        rw [a, b]; rfl
      | false =>
        rw [hv] at hvl
        simp only [Bool.false_eq_true, if_false] at hvl ⊢
        have : vs = [] := List.eq_nil_of_length_eq_zero hvl
        subst this
        have e : (ks.map fun x => ((0, x) : Rs)).map (fun x => x.2) = ks := by
          rw [List.map_map]; exact List.map_id ks
        rw [List.dropLast_concat, e]; rfl
    · rw [if_neg c2]
      have c2' : keyed k = false := by simpa using c2
      have c5 : k = 5 := by
        have h2' : ¬ (k = 2 ∨ k = 3 ∨ k = 4) := fun h => c2 (decide_eq_true h)
        omega
      have e1 : r = 0 := by rcases he.1 with e | e; exact absurd e c1; exact e
      obtain ⟨e3, e4⟩ : ks = [] ∧ vs = [] := by rcases he.2.1 with e | e; rw [c2'] at e; cases e; exact e
      subst e1; subst e3; subst e4
      have hV := h5 c5
      unfold outS
      rw [if_neg c1, if_neg c2]
      have hd : ((0, bitZ cl) :: ((List.range 8).map fun i : Nat => ((0, (tallyL vt ((i : Int) + 1) : Int)) : Rs)) ++ vt.map fun v => ((0, v) : Rs)).drop 9 = vt.map fun v => ((0, v) : Rs) := List.drop_left' (by simp)
      have ht : (vt.map fun v => ((0, v) : Rs)).take m.toNat = vt.map fun v => ((0, v) : Rs) := List.take_of_length_le (by have := hV.1; simp only at this; simp; omega)
      have hm : (vt.map fun v => ((0, v) : Rs)).map (fun r => voteOf r.2) = vt := by
        rw [List.map_map]
        have : ∀ v ∈ vt, ((fun r : Rs => voteOf r.2) ∘ fun v => ((0, v) : Rs)) v = id v := fun v hv => by
          have := hV.2 v hv
          simp only [Function.comp, voteOf, id]
          rw [if_pos (by omega)]
        rw [List.map_congr_left this, List.map_id]
      rw [hd, ht, hm]
      cases cl <;> simp [zeroS, bitZ]

theorem out_ne {k : Int} {s : St} : outS k s ≠ [] := by
  unfold outS
  split
  · simp
  · split <;> simp
theorem seen_out {k p m : Int} {s : St} (h : rightS k p m s = true) : seenF k p m (outS k s) = (s, true) := by
  have e := read_out h
  unfold seenF
  rw [e, if_pos ⟨right_fits h, out_ne, h, rfl⟩]
theorem seen_true {k p m : Int} {l : List Rs} (h : (seenF k p m l).2 = true) : rightS k p m (seenF k p m l).1 = true ∧ outS k (seenF k p m l).1 = l := by
  unfold seenF at h ⊢
  split at h
  · rename_i c
    rw [if_pos c]; exact c.2.2
  · cases h
theorem out_inj {k p m : Int} {s t : St} (hs : rightS k p m s = true) (ht : rightS k p m t = true) (h : outS k s = outS k t) : s = t := by
  have := read_out hs
  rw [h, read_out ht] at this; exact this.symm
theorem seen_cut {k p m : Int} {s : St} (h : rightS k p m s = true) (hw : Wd s) {j : Nat} (hj : j < (outS k s).length) : (seenF k p m ((outS k s).take j)).2 = false := by
  cases hc : (seenF k p m ((outS k s).take j)).2 with
  | false => rfl
  | true =>
    obtain ⟨h1, h2⟩ := seen_true hc
    obtain ⟨o, _, h3, _⟩ := out_step h hw j hj
    have h4 := out_over h1
    rw [h2, h3] at h4
    cases h4

end Go.Proofs.YtdipddnnckfnmaaGreat.Aut

/- RegLeaf:
  The small functions of package region and of the document's own answers: what within, Fits, cells and begin return in whatever world, for integers. Each leaves memory as it was, but for a box of its own.
-/
namespace Go.Proofs.YtdipddnnckfnmaaGreat.Reg
open Go.RowKit (intOf Below)

theorem ret_int {k : IntKind} {a b : Int} (h : a = b) : Ending.returned (.int k a) = .returned (.int k b) := by rw [h]
theorem ret_bool {a b : Bool} (h : a = b) : Ending.returned (.bool a) = .returned (.bool b) := by rw [h]

theorem within_yes (a lo hi : Int) (w : World) (h0 : lo ≤ a) (h1 : a ≤ hi) : Calls Tryz.prog 61 #[.int .i64 a, .int .i64 lo, .int .i64 hi] w fun e w' => e = .returned (.bool true) ∧ w = w' := by
  go_enter Tryz.func61, Tryz.ntmps61
  go_wp2
  go_ret
  exact ⟨rfl, rfl⟩
theorem within_no (a lo hi : Int) (w : World) (h : ¬ (lo ≤ a ∧ a ≤ hi)) : Calls Tryz.prog 61 #[.int .i64 a, .int .i64 lo, .int .i64 hi] w fun e w' => e = .returned (.bool false) ∧ w = w' := by
  by_cases h0 : lo ≤ a
  · have h1 : ¬ a ≤ hi := fun x => h ⟨h0, x⟩
    clear h
    go_enter Tryz.func61, Tryz.ntmps61
    go_wp2
    go_ret
    exact ⟨rfl, rfl⟩
  · clear h
    go_enter Tryz.func61, Tryz.ntmps61
    go_wp2
    go_ret
    exact ⟨rfl, rfl⟩
theorem within_any (a lo hi : Int) (w : World) : Calls Tryz.prog 61 #[.int .i64 a, .int .i64 lo, .int .i64 hi] w fun e w' => e = .returned (.bool (isIn a lo hi)) ∧ w = w' := by
  by_cases h : lo ≤ a ∧ a ≤ hi
  · rw [isIn_mk h]; exact within_yes a lo hi w h.1 h.2
  · rw [isIn_no h]; exact within_no a lo hi w h

theorem in_any (a lo hi : Int) (w : World) : Calls Tryz.prog 60 #[.int .i64 a, .int .i64 lo, .int .i64 hi] w fun e w' => e = .returned (.bool (isIn a lo hi)) ∧ w = w' := by
  by_cases h0 : lo ≤ a
  · by_cases h1 : a ≤ hi
    · rw [isIn_mk ⟨h0, h1⟩]
      go_enter Tryz.func60, Tryz.ntmps60
      go_wp2
      go_ret
      exact ⟨rfl, rfl⟩
    · rw [isIn_no (fun x => h1 x.2)]
      go_enter Tryz.func60, Tryz.ntmps60
      go_wp2
      go_ret
      exact ⟨rfl, rfl⟩
  · rw [isIn_no (fun x => h0 x.1)]
    go_enter Tryz.func60, Tryz.ntmps60
    go_wp2
    go_ret
    exact ⟨rfl, rfl⟩

/-- A configuration's value, and a stretch's. -/
abbrev cf (k p c : Int) : Value := .agg #[.int .i64 k, .int .i64 p, .int .i64 c]
abbrev bx (k p c : Int) : Obj := .cells #[.int .i64 k, .int .i64 p, .int .i64 c] 24

theorem fits_any (k p c : Int) (w : World) : Calls Tryz.prog 35 #[cf k p c] w fun e w' => e = .returned (.bool (fits k p c)) ∧ w' = w.alloc (bx k p c) := by
  by_cases h : 1 ≤ k ∧ k ≤ 5
  · have i1 := isIn_mk h
    by_cases h' : 1 ≤ p ∧ p ≤ 16
    · have i2 := isIn_mk h'
      by_cases h'' : 1 ≤ c ∧ c ≤ 256
      · have i3 := isIn_mk h''
        rw [fits_mk (by omega)]
        go_enter Tryz.func35, Tryz.ntmps35
        go_wp2_with (go_at_call 61; with_reducible refine (within_any _ _ _ _).mono ?_; rintro e w' ⟨rfl, rfl⟩)
        go_ret
        exact ⟨rfl, rfl⟩
      · have i3 := isIn_no h''
        rw [fits_no (by omega)]
        go_enter Tryz.func35, Tryz.ntmps35
        go_wp2_with (go_at_call 61; with_reducible refine (within_any _ _ _ _).mono ?_; rintro e w' ⟨rfl, rfl⟩)
        go_ret
        exact ⟨rfl, rfl⟩
    · have i2 := isIn_no h'
      rw [fits_no (by omega)]
      go_enter Tryz.func35, Tryz.ntmps35
      go_wp2_with (go_at_call 61; with_reducible refine (within_any _ _ _ _).mono ?_; rintro e w' ⟨rfl, rfl⟩)
      go_ret
      exact ⟨rfl, rfl⟩
  · have i1 := isIn_no h
    rw [fits_no (by omega)]
    go_enter Tryz.func35, Tryz.ntmps35
    go_wp2_with (go_at_call 61; with_reducible refine (within_any _ _ _ _).mono ?_; rintro e w' ⟨rfl, rfl⟩)
    go_ret
    exact ⟨rfl, rfl⟩

theorem rfits_any (k p c : Int) (w : World) : Calls Tryz.prog 34 #[cf k p c] w fun e w' => e = .returned (.bool (fits k p c)) ∧ w' = w.alloc (bx k p c) := by
  by_cases h : 1 ≤ k ∧ k ≤ 5
  · have i1 := isIn_mk h
    by_cases h' : 1 ≤ p ∧ p ≤ 16
    · have i2 := isIn_mk h'
      by_cases h'' : 1 ≤ c ∧ c ≤ 256
      · have i3 := isIn_mk h''
        rw [fits_mk (by omega)]
        go_enter Tryz.func34, Tryz.ntmps34
        go_wp2_with (go_at_call 60; with_reducible refine (in_any _ _ _ _).mono ?_; rintro e w' ⟨rfl, rfl⟩)
        go_ret
        exact ⟨rfl, rfl⟩
      · have i3 := isIn_no h''
        rw [fits_no (by omega)]
        go_enter Tryz.func34, Tryz.ntmps34
        go_wp2_with (go_at_call 60; with_reducible refine (in_any _ _ _ _).mono ?_; rintro e w' ⟨rfl, rfl⟩)
        go_ret
        exact ⟨rfl, rfl⟩
    · have i2 := isIn_no h'
      rw [fits_no (by omega)]
      go_enter Tryz.func34, Tryz.ntmps34
      go_wp2_with (go_at_call 60; with_reducible refine (in_any _ _ _ _).mono ?_; rintro e w' ⟨rfl, rfl⟩)
      go_ret
      exact ⟨rfl, rfl⟩
  · have i1 := isIn_no h
    rw [fits_no (by omega)]
    go_enter Tryz.func34, Tryz.ntmps34
    go_wp2_with (go_at_call 60; with_reducible refine (in_any _ _ _ _).mono ?_; rintro e w' ⟨rfl, rfl⟩)
    go_ret
    exact ⟨rfl, rfl⟩


abbrev sv (f o e : Int) : Value := .agg #[.int .i64 f, .int .i64 o, .int .i64 e]




end Go.Proofs.YtdipddnnckfnmaaGreat.Reg

/- FltRef:
  What the functions of the document's own answer for layer 1 return, but for Sum, in whatever world, for words: integers from 0 to less than 2^64 (the one condition). They tell what flt's tell.
-/
namespace Go.Proofs.YtdipddnnckfnmaaGreat

theorem ret_two {j k : IntKind} {a b c d : Int} (h : a = c) (g : b = d) : Ending.returned (.tuple #[.int j a, .int k b]) = .returned (.tuple #[.int j c, .int k d]) := by rw [h, g]

set_option maxHeartbeats 400000 in
theorem parts_any (x : Int) (w : World) (h0 : 0 ≤ x) (h1 : x < 18446744073709551616) :
    Calls Tryz.prog 74 #[.int .u64 x] w fun e w' => e = .returned (.tuple #[.int .i64 (x % 9223372036854775808 / 4503599627370496), .int .u64 (x % 4503599627370496)]) ∧ w = w' := by
  have d0 : 0 ≤ x / 4503599627370496 := by omega
  have d1 : x / 4503599627370496 < 4096 := by omega
  go_enter Tryz.func74, Tryz.ntmps74
  go_wp2
  go_ret2
  exact ⟨ret_two (by omega) (by omega), rfl⟩

theorem kind_is (x : Int) (h0 : 0 ≤ x) (h1 : x < 18446744073709551616) : kind x =
    if x % 9223372036854775808 / 4503599627370496 = 2047 ∧ x % 4503599627370496 ≠ 0 then 3 else if x % 9223372036854775808 / 4503599627370496 = 2047 then 2
    else if x % 9223372036854775808 / 4503599627370496 = 0 ∧ x % 4503599627370496 = 0 then 0 else 1 := by
  unfold kind canon
  by_cases c : 9218868437227405312 < x % 9223372036854775808
  · rw [if_pos c, if_neg (by omega), if_neg (by omega), if_neg (by omega), if_pos rfl, if_pos (by omega)]
  · rw [if_neg c, if_neg (by omega : ¬ (x % 9223372036854775808 / 4503599627370496 = 2047 ∧ x % 4503599627370496 ≠ 0))]
    by_cases d : x % 9223372036854775808 = 9218868437227405312
    · rw [if_neg (by omega : ¬ x = 9223372036854775808), if_pos (by omega : x % 9223372036854775808 / 4503599627370496 = 2047), if_neg (by omega)]
      by_cases e : x = 9218868437227405312
      · rw [if_pos e]
      · rw [if_neg e, if_pos (by omega)]
    · rw [if_neg (by omega : ¬ x % 9223372036854775808 / 4503599627370496 = 2047)]
      by_cases z : x % 9223372036854775808 = 0
      · rw [if_pos (by omega : x % 9223372036854775808 / 4503599627370496 = 0 ∧ x % 4503599627370496 = 0)]
        by_cases e : x = 9223372036854775808
        · rw [if_pos e, if_pos rfl]
        · rw [if_neg e, if_pos (by omega)]
      · rw [if_neg (by omega : ¬ x = 9223372036854775808), if_neg (by omega), if_neg (by omega), if_neg (by omega), if_neg (by omega), if_neg (by omega)]

set_option maxHeartbeats 400000 in
theorem rkind_any (x : Int) (w : World) (h0 : 0 ≤ x) (h1 : x < 18446744073709551616) :
    Calls Tryz.prog 54 #[.int .u64 x] w fun e w' => e = .returned (.int .i64 (kind x)) ∧ w = w' := by
  have H := Lib.hid (kind_is x h0 h1)
  have p0 : 0 ≤ x % 9223372036854775808 / 4503599627370496 := by omega
  have p1 : x % 9223372036854775808 / 4503599627370496 < 2048 := by omega
  have q0 : 0 ≤ x % 4503599627370496 := by omega
  have q1 : x % 4503599627370496 < 4503599627370496 := by omega
  have P := Lib.hid (parts_any x · h0 h1)
  generalize x % 9223372036854775808 / 4503599627370496 = p at *
  generalize x % 4503599627370496 = q at *
  rcases c1 : (p == 2047) with _ | _ <;> rcases c2 : (q == 0) with _ | _ <;> rcases c3 : (p == 0) with _ | _
  all_goals
    have c4 : (q != 0) = !(q == 0) := rfl
    rw [c2] at c4
    simp only [Bool.not_true, Bool.not_false] at c4
    have c1' : _ := Lib.hid c1
    have c2' : _ := Lib.hid c2
    have c3' : _ := Lib.hid c3
    go_enter Tryz.func54, Tryz.ntmps54
    go_wp2_with (go_at_call 74; with_reducible refine (P.out _).mono ?_; rintro e w' ⟨rfl, rfl⟩)
    go_ret
    refine ⟨ret_u64 ?_, rfl⟩
    have c1 := c1'.out
    have c2 := c2'.out
    have c3 := c3'.out
    simp only [beq_iff_eq, beq_eq_false_iff_ne, ne_eq] at c1 c2 c3
    rw [H.out]
    simp [*]

theorem kind_cases (x : Int) : kind x = 0 ∨ kind x = 1 ∨ kind x = 2 ∨ kind x = 3 := by
  unfold kind
  split <;> (try split) <;> (try split) <;> (try split) <;> omega

theorem canon_is (x : Int) (h0 : 0 ≤ x) (h1 : x < 18446744073709551616) : canon x = if kind x = 3 then 9221120237041090561 else if kind x = 0 then 0 else x := by
  rw [kind_is x h0 h1]
  unfold canon
  by_cases c : 9218868437227405312 < x % 9223372036854775808
  · rw [if_pos c, if_pos (by omega : x % 9223372036854775808 / 4503599627370496 = 2047 ∧ x % 4503599627370496 ≠ 0), if_pos rfl]
  · rw [if_neg c, if_neg (by omega : ¬ (x % 9223372036854775808 / 4503599627370496 = 2047 ∧ x % 4503599627370496 ≠ 0))]
    by_cases d : x % 9223372036854775808 = 9218868437227405312
    · rw [if_neg (by omega : ¬ x = 9223372036854775808), if_pos (by omega : x % 9223372036854775808 / 4503599627370496 = 2047), if_neg (by omega), if_neg (by omega)]
    · rw [if_neg (by omega : ¬ x % 9223372036854775808 / 4503599627370496 = 2047)]
      by_cases z : x % 9223372036854775808 = 0
      · rw [if_pos (by omega : x % 9223372036854775808 / 4503599627370496 = 0 ∧ x % 4503599627370496 = 0), if_neg (by omega : ¬ (0 : Int) = 3), if_pos rfl]
        split <;> omega
      · rw [if_neg (by omega : ¬ x = 9223372036854775808), if_neg (by omega : ¬ (x % 9223372036854775808 / 4503599627370496 = 0 ∧ x % 4503599627370496 = 0)), if_neg (by omega), if_neg (by omega)]

set_option maxHeartbeats 400000 in
theorem rcanon_any (x : Int) (w : World) (h0 : 0 ≤ x) (h1 : x < 18446744073709551616) :
    Calls Tryz.prog 30 #[.int .u64 x] w fun e w' => e = .returned (.int .u64 (canon x)) ∧ w = w' := by
  have H := Lib.hid (canon_is x h0 h1)
  rcases c1 : (kind x == 3) with _ | _ <;> rcases c2 : (kind x == 0) with _ | _
  all_goals
    have c1' : _ := Lib.hid c1
    have c2' : _ := Lib.hid c2
    go_enter Tryz.func30, Tryz.ntmps30
    go_wp2_with (go_at_call 54; with_reducible refine (rkind_any _ _ (by omega) (by omega)).mono ?_; rintro e w' ⟨rfl, rfl⟩)
    go_ret
    refine ⟨ret_u64 ?_, rfl⟩
    have c1 := c1'.out
    have c2 := c2'.out
    simp only [beq_iff_eq, beq_eq_false_iff_ne, ne_eq] at c1 c2
    rw [H.out]
    simp [*]

set_option maxHeartbeats 400000 in
theorem rrank_any (x : Int) (w : World) (h0 : 0 ≤ x) (h1 : x < 18446744073709551616) :
    Calls Tryz.prog 55 #[.int .u64 x] w fun e w' => e = .returned (.int .u64 (rank x)) ∧ w = w' := by
  have c0 := canon_lo x h0
  have c1 := canon_hi x h1
  have hn := not_word (canon x) c0 c1
  by_cases hs : 9223372036854775808 ≤ canon x
  · have hr : RowKit.Hid (rank x = 18446744073709551615 - canon x) := Lib.hid (by unfold rank; rw [if_pos hs])
    have hd : (canon x / 9223372036854775808 == 1) = true := by simp only [beq_iff_eq]; omega
    go_enter Tryz.func55, Tryz.ntmps55
    go_wp2_with (go_at_call 30; with_reducible refine (rcanon_any _ _ (by omega) (by omega)).mono ?_; rintro e w' ⟨rfl, rfl⟩)
    go_ret
    exact ⟨ret_u64 hr.out.symm, rfl⟩
  · have hr : RowKit.Hid (rank x = canon x + 9223372036854775808) := Lib.hid (by unfold rank; rw [if_neg hs])
    have hd : (canon x / 9223372036854775808 == 1) = false := by simp only [beq_eq_false_iff_ne, ne_eq]; omega
    go_enter Tryz.func55, Tryz.ntmps55
    go_wp2_with (go_at_call 30; with_reducible refine (rcanon_any _ _ (by omega) (by omega)).mono ?_; rintro e w' ⟨rfl, rfl⟩)
    go_ret
    exact ⟨ret_u64 hr.out.symm, rfl⟩

set_option maxHeartbeats 400000 in
theorem rless_any (x y : Int) (w : World) (h0 : 0 ≤ x) (h1 : x < 18446744073709551616) (g0 : 0 ≤ y) (g1 : y < 18446744073709551616) :
    Calls Tryz.prog 31 #[.int .u64 x, .int .u64 y] w fun e w' => e = .returned (.bool (less x y)) ∧ w = w' := by
  go_enter Tryz.func31, Tryz.ntmps31
  go_wp2_with (go_at_call 55; with_reducible refine (rrank_any _ _ (by omega) (by omega)).mono ?_; rintro e w' ⟨rfl, rfl⟩)
  go_ret
  exact ⟨rfl, rfl⟩

set_option maxHeartbeats 400000 in
theorem rmax_any (x y : Int) (w : World) (h0 : 0 ≤ x) (h1 : x < 18446744073709551616) (g0 : 0 ≤ y) (g1 : y < 18446744073709551616) :
    Calls Tryz.prog 33 #[.int .u64 x, .int .u64 y] w fun e w' => e = .returned (.int .u64 (maxOf x y)) ∧ w = w' := by
  by_cases hl : less x y = true
  · have hr : RowKit.Hid (maxOf x y = canon y) := Lib.hid (by simp only [less, decide_eq_true_eq] at hl; unfold maxOf; rw [if_pos hl])
    go_enter Tryz.func33, Tryz.ntmps33
    go_wp2_with (first | (go_at_call 31; with_reducible refine (rless_any _ _ _ (by omega) (by omega) (by omega) (by omega)).mono ?_; rintro e w' ⟨rfl, rfl⟩) | (go_at_call 30; with_reducible refine (rcanon_any _ _ (by omega) (by omega)).mono ?_; rintro e w' ⟨rfl, rfl⟩))
    go_ret
    exact ⟨ret_u64 hr.out.symm, rfl⟩
  · have hr : RowKit.Hid (maxOf x y = canon x) := Lib.hid (by simp only [less, decide_eq_true_eq] at hl; unfold maxOf; rw [if_neg hl])
    have hl' : less x y = false := by simpa using hl
    clear hl
    go_enter Tryz.func33, Tryz.ntmps33
    go_wp2_with (first | (go_at_call 31; with_reducible refine (rless_any _ _ _ (by omega) (by omega) (by omega) (by omega)).mono ?_; rintro e w' ⟨rfl, rfl⟩) | (go_at_call 30; with_reducible refine (rcanon_any _ _ (by omega) (by omega)).mono ?_; rintro e w' ⟨rfl, rfl⟩))
    go_ret
    exact ⟨ret_u64 hr.out.symm, rfl⟩

theorem rank_unrank (r : Int) (h0 : 0 ≤ r) (h1 : r < 18446744073709551616) (hc : canon (unrank r) = unrank r) : rank (unrank r) = r := by
  have h := canon_cases (unrank r) (unrank_lo r h1) (unrank_hi r h0 h1)
  unfold rank
  rw [hc] at h ⊢
  unfold unrank at *
  by_cases c : 9223372036854775808 ≤ r
  · rw [if_pos c] at h ⊢; rw [if_neg (by omega)]; omega
  · rw [if_neg c] at h ⊢; rw [if_pos (by omega)]; omega


end Go.Proofs.YtdipddnnckfnmaaGreat

