/-
  What the document's own Build returns. Condition: the records are there.
-/
import Derived.Test.YtbpgnnogpcppdaaDoorRefLaid
namespace Go.Proofs.YtbpgnnogpcppdaaDoor
open Go.RowKit (Below intOf)

theorem mayS_zero {v : Int} {l : List Rc} {i : Nat} {p x : Int} (h : l[i]? = some (p, x)) (hp : p = 0) : mayS v l = false := by
  have : valid l = false := by
    unfold valid
    rw [Bool.and_eq_false_iff]
    exact .inl (List.all_eq_false.2 ⟨(p, x), List.mem_of_getElem? h, by simpa using hp⟩)
  unfold mayS; rw [this]; rfl
theorem mayS_thick {l : List Rc} {i : Nat} {p x : Int} (h : l[i]? = some (p, x)) (hx : x ≠ 0) : mayS 1 l = false := by
  have : thinB 1 l = false := by
    unfold thinB
    rw [Bool.or_eq_false_iff]
    exact ⟨by simp, List.all_eq_false.2 ⟨(p, x), List.mem_of_getElem? h, by simpa using hx⟩⟩
  unfold mayS; rw [this, Bool.and_false]
theorem mayS_twice {v : Int} {l : List Rc} {i k : Nat} {a b : Rc} (hi : l[i]? = some a) (hk : l[k]? = some b) (hki : k < i) (e : b.1 = a.1) : mayS v l = false := by
  have : valid l = false := by
    unfold valid
    rw [Bool.and_eq_false_iff]
    refine .inr (decide_eq_false fun hN => ?_)
    obtain ⟨h1, e1⟩ := List.getElem?_eq_some_iff.1 hi
    obtain ⟨h2, e2⟩ := List.getElem?_eq_some_iff.1 hk
    have := List.pairwise_iff_getElem.1 hN k i (by simpa using h2) (by simpa using h1) hki
    simp [e1, e2] at this
    exact this e
  unfold mayS; rw [this]; rfl
/-- The first j may stand in one table. -/
def Fine (v : Int) (l : List Rc) (j : Nat) : Prop := ∀ i p x, i < j → l[i]? = some (p, x) → p ≠ 0 ∧ (v = 1 → x = 0) ∧ ∀ k y, k < i → l[k]? = some y → y.1 ≠ p
theorem fine_all {v : Int} {l : List Rc} {n : Nat} (hn : l.length = n) (h : Fine v l n) : mayS v l = true := by
  have g : ∀ {i : Nat} {r : Rc}, l[i]? = some r → r.1 ≠ 0 ∧ (v = 1 → r.2 = 0) ∧ ∀ k y, k < i → l[k]? = some y → y.1 ≠ r.1 := fun {i r} hi => h i r.1 r.2 (by rw [← hn]; exact (List.getElem?_eq_some_iff.1 hi).1) hi
  unfold mayS
  rw [Bool.and_eq_true]
  refine ⟨?_, ?_⟩
  · unfold valid
    rw [Bool.and_eq_true, List.all_eq_true, decide_eq_true_eq]
    refine ⟨fun r hr => ?_, ?_⟩
    · obtain ⟨i, hi⟩ := List.mem_iff_getElem?.1 hr
      simpa using (g hi).1
    · unfold List.Nodup
      rw [List.pairwise_iff_getElem]
      intro a b ha hb hab e
      simp at ha hb
      refine (g (List.getElem?_eq_getElem hb)).2.2 a l[a] hab (List.getElem?_eq_getElem ha) ?_
      simpa using e
  · unfold thinB
    rw [Bool.or_eq_true, decide_eq_true_eq, List.all_eq_true]
    by_cases e : v = 1
    · refine .inr fun r hr => ?_
      obtain ⟨i, hi⟩ := List.mem_iff_getElem?.1 hr
      simpa using (g hi).2.1 e
    · exact .inl e
theorem fine_step {v : Int} {l : List Rc} {j : Nat} {p x : Int} (h : Fine v l j) (hj : l[j]? = some (p, x)) (hp : p ≠ 0) (hx : v = 1 → x = 0) (hk : ∀ k y, k < j → l[k]? = some y → y.1 ≠ p) : Fine v l (j + 1) := fun i q z hi hq => by
  by_cases e : i = j
  · subst e; rw [hj] at hq; cases hq; exact ⟨hp, hx, hk⟩
  · exact h i q z (by omega) hq

theorem build_arg {n v : Int} {l : List Rc} (h : ¬ (1 ≤ n ∧ n ≤ 1024 ∧ (v = 1 ∨ v = 2)) ∨ mayS v l = false) : buildS n v l = ([], 1) := by
  unfold buildS
  rw [if_neg]
  rintro ⟨h1, h2, h3, h4⟩
  rcases h with h | h
  · exact h ⟨h1, h2, h3⟩
  · rw [h] at h4; cases h4
theorem build_full {n v : Int} {l : List Rc} (h1 : 1 ≤ n) (h2 : n ≤ 1024) (hv : v = 1 ∨ v = 2) (hm : mayS v l = true) (hf : n < l.length) : buildS n v l = ([], 11) := by
  unfold buildS; rw [if_pos ⟨h1, h2, hv, hm⟩, if_pos hf]
theorem build_ok {n v : Nat} {l : List Rc} (h1 : 1 ≤ n) (h2 : n ≤ 1024) (hv : Wd v) (hm : mayS v l = true) (hf : l.length ≤ n) : buildS n v l = (flatW v (tableOf n l), 0) := by
  unfold buildS; rw [if_pos ⟨by omega, by omega, by unfold Wd at hv; omega, hm⟩, if_neg (by omega)]; rfl
theorem WE.none {p : List Int × Int} {e : Int} (h : p = ([], e)) {w w' : World} (hE : Ext w w') : WE p w (.returned (.tuple #[.slice none 0 0, .int .i64 e])) w' := by
  subst h; exact ⟨hE, Option.none, 0, 0, rfl, WS.empty _ _ _ (by omega)⟩
theorem WE.some {p : List Int × Int} {e : Int} {xs : List Int} (h : p = (xs, e)) {w w' : World} {sl : Option Addr} {n c : Nat} (hE : Ext w w') (hS : WS w' sl n c xs) : WE p w (.returned (.tuple #[.slice sl n c, .int .i64 e])) w' := by
  subst h; exact ⟨hE, sl, n, c, rfl, hS⟩
theorem may_good {v : Nat} {l : List Rc} (hr : ∀ r ∈ l, Ur r) (h : mayS v l = true) : Good l ∧ Thin v l := by
  unfold mayS at h
  rw [Bool.and_eq_true, valid_good hr, thin_B] at h
  exact h

set_option maxHeartbeats 1000000 in
theorem rbuild_arg (n v : Int) (s : Option Addr) (m c : Nat) (l : List Rc) (w : World) (h : ¬ (1 ≤ n ∧ n ≤ 1024 ∧ (v = 1 ∨ v = 2))) :
    Calls Tryd.prog 25 #[.int .i64 n, .int .i64 v, .slice s m c] w (WE (buildS n v l) w) := by
  have hb := Lib.hid (build_arg (l := l) (.inl h))
  by_cases a1 : n < 1
  · clear h
    go_enter Tryd.func25, Tryd.ntmps25
    go_wp2_with (fail)
    go_ret2
    exact WE.none hb.out (Ext.refl w)
  by_cases a2 : 1024 < n
  · clear h
    go_enter Tryd.func25, Tryd.ntmps25
    go_wp2_with (fail)
    go_ret2
    exact WE.none hb.out (Ext.refl w)
  by_cases a3 : v < 1
  · clear h
    go_enter Tryd.func25, Tryd.ntmps25
    go_wp2_with (fail)
    go_ret2
    exact WE.none hb.out (Ext.refl w)
  have a4 : 2 < v := by omega
  clear h
  go_enter Tryd.func25, Tryd.ntmps25
  go_wp2_with (fail)
  go_ret2
  exact WE.none hb.out (Ext.refl w)

set_option maxRecDepth 100000 in
set_option maxHeartbeats 2000000 in
theorem rbuild_1 (n : Nat) (s : Option Addr) (m c : Nat) (l : List Rc) (w : World) (hL : QS w s m c l) (n1 : 1 ≤ n) (n2 : n ≤ 1024) :
    Calls Tryd.prog 25 #[.int .i64 n, .int .i64 1, .slice s m c] w (WE (buildS n 1 l) w) := by
  have hm := hL.le
  have HL := Lib.hid hL
  clear hL
  go_enter Tryd.func25, Tryd.ntmps25
  go_wp2_with (fail)
  go_loopw [8] (fun i wr => ∃ (j d : Nat), j ≤ m ∧ i = .int .i64 j ∧ wr = w.drewN d ∧ RowKit.Hid (Fine 1 l j)) (fun i _ => m - (intOf i).toNat)
  case atStart => exact ⟨0, 0, by omega, rfl, rfl, Lib.hid (fun i p x h => by omega)⟩
  case round =>
    obtain ⟨j, d, hj, rfl, rfl, hF⟩ := hrel
    by_cases hlt : j < m
    · obtain ⟨p, x, hx, up, ux, ba, oa, rfl, e0, e1⟩ := HL.out.get hlt
      have hjm : (j : Int) < m := by omega
      have HX := Lib.hid hx
      clear hx
      by_cases hp0 : p = 0
      · subst hp0
        have hb := Lib.hid (build_arg (n := n) (v := 1) (.inr (mayS_zero HX.out rfl)))
        go_wp2_with (fail)
        go_ret2
        exact WE.none hb.out (Ext.draws w d)
      have hpb : (p == 0) = false := by simpa using hp0
      have Hp := Lib.hid hp0
      clear hp0
      by_cases hx0 : x = 0
      rotate_left
      · have hxb : (x != 0) = true := by simpa using hx0
        have hb := Lib.hid (build_arg (n := n) (v := 1) (.inr (mayS_thick HX.out hx0)))
        clear hx0
        go_wp2_with (fail)
        go_ret2
        exact WE.none hb.out (Ext.draws w d)
      have hxb : (x != 0) = false := by simpa using hx0
      have hz := Lib.hid hx0
      clear hx0
      go_wp2_with (fail)
      go_loopw [9] (fun i ws => ∃ (k d2 : Nat), k ≤ j ∧ i = .int .i64 k ∧ ws = w.drewN d2 ∧ RowKit.Hid (∀ a y, a < k → l[a]? = some y → y.1 ≠ p)) (fun i _ => j - (intOf i).toNat)
      case atStart => exact ⟨0, d, by omega, rfl, rfl, Lib.hid (fun a y h => by omega)⟩
      case round =>
        obtain ⟨k, d2, hk, rfl, rfl, hN⟩ := hrel
        by_cases hkj : k < j
        · obtain ⟨p', x', hx', _, _, _, _, e', f0, _⟩ := HL.out.get (k := k) (by omega)
          cases e'
          have hkm : (k : Int) < m := by omega
          have hkj2 : (k : Int) < j := by omega
          have HX' := Lib.hid hx'
          clear hx'
          by_cases hpp : p' = p
          · subst hpp
            have hb := Lib.hid (build_arg (n := n) (v := 1) (.inr (mayS_twice HX.out HX'.out hkj rfl)))
            go_wp2_with (fail)
            go_quiet (fail)
            go_wp2_with (fail)
            go_ret2
            exact WE.none hb.out ((Ext.draws w d2).drewN nq)
          · have hb : (p' == p) = false := by simpa using hpp
            have HPP := Lib.hid hpp
            clear hpp
            go_wp2_with (fail)
            go_quiet (fail)
            go_wp2_with (fail)
            go_roundw
            case rel => exact ⟨k + 1, d2 + nq, by omega, by go_num, rfl, Lib.hid (fun a y h1 h2 => by
              by_cases e : a = k
              · subst e; rw [HX'.out] at h2; cases h2; exact HPP.out
              · exact hN.out a y (by omega) h2)⟩
            case measure => simp [intOf]; omega
        · obtain rfl : k = j := by omega
          go_wp2_with (fail)
          go_roundw
          case rel => exact ⟨k + 1, d2, by omega, by go_num, rfl, Lib.hid (fine_step hF.out HX.out Hp.out (fun _ => hz.out) hN.out)⟩
          case measure => simp [intOf]; omega
    · obtain rfl : j = m := by omega
      have hmay : RowKit.Hid (mayS (1 : Nat) l = true) := Lib.hid (fine_all HL.out.len hF.out)
      have hlen : RowKit.Hid (l.length = j) := Lib.hid HL.out.len
      by_cases hfull : n < j
      · have hb := Lib.hid (build_full (n := n) (v := 1) (l := l) (by omega) (by omega) (by omega) hmay.out (by rw [hlen.out]; omega))
        have hf2 : (n : Int) < j := by omega
        go_wp2_with (fail)
        go_ret2
        exact WE.none hb.out (Ext.draws w d)
      · have hb := Lib.hid (build_ok (n := n) (v := 1) (l := l) n1 n2 (by unfold Wd; omega) hmay.out (by rw [hlen.out]; omega))
        have hf2 : ¬ (n : Int) < j := by omega
        have hgt := Lib.hid (may_good HL.out.range hmay.out)
        go_wp2_with (fail)
        refine (laid_1 s j c n l _ (HL.out.ext (Ext.draws w d)) n1 n2 hgt.out.1 (by rw [hlen.out]; omega) hgt.out.2).mono ?_
        rintro e w2 ⟨sl, c', rfl, hS, hE⟩
        go_wp2_with (fail)
        go_ret2
        exact WE.some hb.out ((Ext.draws w d).trans hE) (by first | exact hS | simpa using hS)

set_option maxRecDepth 100000 in
set_option maxHeartbeats 2000000 in
theorem rbuild_2 (n : Nat) (s : Option Addr) (m c : Nat) (l : List Rc) (w : World) (hL : QS w s m c l) (n1 : 1 ≤ n) (n2 : n ≤ 1024) :
    Calls Tryd.prog 25 #[.int .i64 n, .int .i64 2, .slice s m c] w (WE (buildS n 2 l) w) := by
  have hm := hL.le
  have HL := Lib.hid hL
  clear hL
  go_enter Tryd.func25, Tryd.ntmps25
  go_wp2_with (fail)
  go_loopw [8] (fun i wr => ∃ (j d : Nat), j ≤ m ∧ i = .int .i64 j ∧ wr = w.drewN d ∧ RowKit.Hid (Fine 2 l j)) (fun i _ => m - (intOf i).toNat)
  case atStart => exact ⟨0, 0, by omega, rfl, rfl, Lib.hid (fun i p x h => by omega)⟩
  case round =>
    obtain ⟨j, d, hj, rfl, rfl, hF⟩ := hrel
    by_cases hlt : j < m
    · obtain ⟨p, x, hx, up, ux, ba, oa, rfl, e0, e1⟩ := HL.out.get hlt
      have hjm : (j : Int) < m := by omega
      have HX := Lib.hid hx
      clear hx
      by_cases hp0 : p = 0
      · subst hp0
        have hb := Lib.hid (build_arg (n := n) (v := 2) (.inr (mayS_zero HX.out rfl)))
        go_wp2_with (fail)
        go_ret2
        exact WE.none hb.out (Ext.draws w d)
      have hpb : (p == 0) = false := by simpa using hp0
      have Hp := Lib.hid hp0
      clear hp0
      go_wp2_with (fail)
      go_loopw [9] (fun i ws => ∃ (k d2 : Nat), k ≤ j ∧ i = .int .i64 k ∧ ws = w.drewN d2 ∧ RowKit.Hid (∀ a y, a < k → l[a]? = some y → y.1 ≠ p)) (fun i _ => j - (intOf i).toNat)
      case atStart => exact ⟨0, d, by omega, rfl, rfl, Lib.hid (fun a y h => by omega)⟩
      case round =>
        obtain ⟨k, d2, hk, rfl, rfl, hN⟩ := hrel
        by_cases hkj : k < j
        · obtain ⟨p', x', hx', _, _, _, _, e', f0, _⟩ := HL.out.get (k := k) (by omega)
          cases e'
          have hkm : (k : Int) < m := by omega
          have hkj2 : (k : Int) < j := by omega
          have HX' := Lib.hid hx'
          clear hx'
          by_cases hpp : p' = p
          · subst hpp
            have hb := Lib.hid (build_arg (n := n) (v := 2) (.inr (mayS_twice HX.out HX'.out hkj rfl)))
            go_wp2_with (fail)
            go_quiet (fail)
            go_wp2_with (fail)
            go_ret2
            exact WE.none hb.out ((Ext.draws w d2).drewN nq)
          · have hb : (p' == p) = false := by simpa using hpp
            have HPP := Lib.hid hpp
            clear hpp
            go_wp2_with (fail)
            go_quiet (fail)
            go_wp2_with (fail)
            go_roundw
            case rel => exact ⟨k + 1, d2 + nq, by omega, by go_num, rfl, Lib.hid (fun a y h1 h2 => by
              by_cases e : a = k
              · subst e; rw [HX'.out] at h2; cases h2; exact HPP.out
              · exact hN.out a y (by omega) h2)⟩
            case measure => simp [intOf]; omega
        · obtain rfl : k = j := by omega
          go_wp2_with (fail)
          go_roundw
          case rel => exact ⟨k + 1, d2, by omega, by go_num, rfl, Lib.hid (fine_step hF.out HX.out Hp.out (fun h => by omega) hN.out)⟩
          case measure => simp [intOf]; omega
    · obtain rfl : j = m := by omega
      have hmay : RowKit.Hid (mayS (2 : Nat) l = true) := Lib.hid (fine_all HL.out.len hF.out)
      have hlen : RowKit.Hid (l.length = j) := Lib.hid HL.out.len
      by_cases hfull : n < j
      · have hb := Lib.hid (build_full (n := n) (v := 2) (l := l) (by omega) (by omega) (by omega) hmay.out (by rw [hlen.out]; omega))
        have hf2 : (n : Int) < j := by omega
        go_wp2_with (fail)
        go_ret2
        exact WE.none hb.out (Ext.draws w d)
      · have hb := Lib.hid (build_ok (n := n) (v := 2) (l := l) n1 n2 (by unfold Wd; omega) hmay.out (by rw [hlen.out]; omega))
        have hf2 : ¬ (n : Int) < j := by omega
        have hgt := Lib.hid (may_good HL.out.range hmay.out)
        go_wp2_with (fail)
        refine (laid_2 s j c n l _ (HL.out.ext (Ext.draws w d)) n1 n2 hgt.out.1 (by rw [hlen.out]; omega) hgt.out.2).mono ?_
        rintro e w2 ⟨sl, c', rfl, hS, hE⟩
        go_wp2_with (fail)
        go_ret2
        exact WE.some hb.out ((Ext.draws w d).trans hE) (by first | exact hS | simpa using hS)

/-- The document's Build. -/
theorem rbuild_any (n v : Int) (s : Option Addr) (m c : Nat) (l : List Rc) (w : World) (hL : QS w s m c l) :
    Calls Tryd.prog 25 #[.int .i64 n, .int .i64 v, .slice s m c] w (WE (buildS n v l) w) := by
  by_cases h : 1 ≤ n ∧ n ≤ 1024 ∧ (v = 1 ∨ v = 2)
  · obtain ⟨h1, h2, rfl | rfl⟩ := h
    · obtain ⟨k, rfl⟩ : ∃ k : Nat, n = k := ⟨n.toNat, by omega⟩
      exact rbuild_1 k s m c l w hL (by omega) (by omega)
    · obtain ⟨k, rfl⟩ : ∃ k : Nat, n = k := ⟨n.toNat, by omega⟩
      exact rbuild_2 k s m c l w hL (by omega) (by omega)
  · exact rbuild_arg n v s m c l w h

end Go.Proofs.YtbpgnnogpcppdaaDoor
