/-
  The law ProbeOne, walked. Conditions: the package's table lies; the integers' bounds; the raw numbers are there.
-/
import Derived.Test.YtbpgnnogpcppdaaDoorBack
namespace Go.Proofs.YtbpgnnogpcppdaaDoor
open Go.RowKit (Below intOf)

theorem perm_of_mem : ∀ {l m : List Rc}, l.Nodup → m.Nodup → (∀ r, r ∈ l ↔ r ∈ m) → l.Perm m
  | [], m, _, _, h => by
    have : m = [] := List.eq_nil_iff_forall_not_mem.2 fun r hr => by simpa using (h r).2 hr
    rw [this]
  | a :: l, m, hl, hm, h => by
    have ha : a ∈ m := (h a).1 (by simp)
    rw [List.nodup_cons] at hl
    refine ((perm_of_mem hl.2 (hm.erase a) fun r => ?_).cons a).trans (List.perm_cons_erase ha).symm
    rw [hm.mem_erase_iff]
    constructor
    · intro hr; exact ⟨fun e => hl.1 (e ▸ hr), (h r).1 (by simp [hr])⟩
    · rintro ⟨hne, hr⟩
      have := (h r).2 hr
      simp at this
      exact this.resolve_left hne

/-- The record of a raw number: its key, and at width two the key as its word. -/
def rcOf (v : Nat) (z : Int) : Rc := (keyOf z, if v = 2 then keyOf z else 0)
/-- The records of some raw numbers. -/
def Holds (v : Nat) (f : Nat → Int) (j : Nat) (S : List Rc) : Prop := S.length ≤ j ∧ ∀ r, r ∈ S ↔ ∃ i, i < j ∧ r = rcOf v (f i)
theorem Holds.zero (v : Nat) (f : Nat → Int) : Holds v f 0 [] := ⟨Nat.le_refl _, fun r => by simp⟩
theorem withR_le (S : List Rc) (k y : Int) : (withR S k y).length ≤ S.length + 1 := by
  unfold withR; rw [List.length_append]; have := List.length_filter_le (fun r : Rc => decide (r.1 ≠ k)) S; simp only [List.length_singleton]; omega
theorem Holds.next {v : Nat} {f : Nat → Int} {j : Nat} {S : List Rc} (h : Holds v f j S) : Holds v f (j + 1) (withR S (keyOf (f j)) (rcOf v (f j)).2) := by
  refine ⟨by have := withR_le S (keyOf (f j)) (rcOf v (f j)).2; have := h.1; omega, fun r => ?_⟩
  unfold withR
  rw [List.mem_append, List.mem_filter, List.mem_singleton]
  constructor
  · rintro (⟨hr, _⟩ | rfl)
    · obtain ⟨i, hi, e⟩ := (h.2 r).1 hr
      exact ⟨i, by omega, e⟩
    · exact ⟨j, by omega, rfl⟩
  · rintro ⟨i, hi, rfl⟩
    by_cases e : keyOf (f i) = keyOf (f j)
    · right; unfold rcOf; rw [e]
    · left
      refine ⟨(h.2 _).2 ⟨i, ?_, rfl⟩, by unfold rcOf; simpa using e⟩
      have : i ≠ j := fun e2 => e (by rw [e2])
      omega
theorem Holds.same {v : Nat} {f g : Nat → Int} {m : Nat} {S M : List Rc} (h : Holds v f m S) (h' : Holds v g m M) (hS : S.Nodup) (hM : M.Nodup) (h1 : ∀ i, i < m → ∃ j, j < m ∧ f i = g j) (h2 : ∀ i, i < m → ∃ j, j < m ∧ g i = f j) : S.Perm M := by
  refine perm_of_mem hS hM fun r => ?_
  rw [h.2, h'.2]
  constructor
  · rintro ⟨i, hi, rfl⟩; obtain ⟨j, hj, e⟩ := h1 i hi; exact ⟨j, hj, by rw [e]⟩
  · rintro ⟨i, hi, rfl⟩; obtain ⟨j, hj, e⟩ := h2 i hi; exact ⟨j, hj, by rw [e]⟩
theorem keyOf_far (z y : Int) : keyOf z + 1099511627776 ≠ keyOf y := by
  have h1 := pick_bd (c := z) (n := 20) (by omega)
  have h2 := pick_bd (c := y) (n := 20) (by omega)
  unfold keyOf; split <;> split <;> omega
theorem keyOf_le (z : Int) : 0 < keyOf z ∧ keyOf z ≤ 2882303761517117440 := by
  have h1 := pick_bd (c := z) (n := 20) (by omega)
  unfold keyOf; split <;> omega
theorem Holds.far {v : Nat} {f : Nat → Int} {j : Nat} {S : List Rc} (h : Holds v f j S) (z : Int) : ∀ x, (keyOf z + 1099511627776, x) ∉ S := fun x hx => by
  obtain ⟨i, _, e⟩ := (h.2 _).1 hx
  exact keyOf_far z (f i) (congrArg Prod.fst e)
/-- One more put of a raw number's record. -/
theorem Holds.put {w n : Nat} {xs : List Int} {S : List Rc} {f : Nat → Int} {j : Nat} (hT : Tb w n xs S) (h : Holds w f j S) (hj : j < n) {z y : Int} (hz : f j = z) (hy : y = (rcOf w z).2) :
    ∃ ys, putS xs w (keyOf z) y = (ys, 0) ∧ Tb w n ys (withR S (keyOf z) y) ∧ Holds w f (j + 1) (withR S (keyOf z) y) := by
  subst hy hz
  have hu : U64 (rcOf w (f j)).2 := by
    have := keyOf_u (f j); unfold rcOf; dsimp only; split
    · exact this
    · unfold U64; omega
  have hz : ¬ (w = 1 ∧ (rcOf w (f j)).2 ≠ 0) := by
    rintro ⟨rfl, h⟩; exact h rfl
  obtain ⟨h1, h2⟩ := hT.put (keyOf_pos (f j)) (keyOf_u (f j)) hu hz (by have := withR_le S (keyOf (f j)) (rcOf w (f j)).2; have := h.1; omega)
  exact ⟨_, Prod.ext rfl h1, h2, h.next⟩
/-- Something else put and taken out. -/
theorem Holds.away {w n : Nat} {xs : List Int} {S : List Rc} {f : Nat → Int} {j : Nat} (hT : Tb w n xs S) (h : Holds w f j S) (z : Int) :
    putS xs w (keyOf z + 1099511627776) 0 = (xs, 11) ∨ ∃ ys, putS xs w (keyOf z + 1099511627776) 0 = (ys, 0) ∧ delS ys w (keyOf z + 1099511627776) = (xs, 0) := by
  have := keyOf_le z
  rcases back_no hT (k := keyOf z + 1099511627776) (y := 0) (by omega) (by unfold U64; omega) (by unfold U64; omega) (by omega) (h.far z) with ⟨_, h1⟩ | ⟨ys, p, h1, _, _, _, _, h2, _⟩
  · exact .inl h1
  · exact .inr ⟨ys, h1, h2⟩
theorem turned_to {m k : Nat} (hk : k ≤ m) (i : Nat) (hi : i < m) : ∃ j, j < m ∧ (j + k) % m = i := by
  by_cases h : k ≤ i
  · exact ⟨i - k, by omega, by rw [Nat.sub_add_cancel h]; exact Nat.mod_eq_of_lt hi⟩
  · refine ⟨i + m - k, by omega, ?_⟩
    rw [Nat.sub_add_cancel (by omega), Nat.add_mod_right]; exact Nat.mod_eq_of_lt hi

set_option maxRecDepth 100000 in
set_option maxHeartbeats 2000000 in
theorem one_1 (a b : Int) (sr : Option Addr) (nr cr : Nat) (rs : List Int) (t : Int) (so : Option Addr) (no co : Nat) (os : List Int) (w : World) (hT : Tab w) (ha : I64 a) (hb : I64 b) (hR : IS w sr nr rs) (ht : I64 t) (hO : IS w so no os) (hv : pick b 2 = 0) :
    Calls Tryd.prog 5 #[.int .i64 a, .int .i64 b, .slice sr nr cr, .int .i64 t, .slice so no co] w fun e w' => e = .returned (.bool true) ∧ Ext w w' := by
  have hp := pick_bd (c := a) (n := 20) (by omega)
  obtain ⟨N, hN⟩ : ∃ N : Nat, (N : Int) = pick a 20 := ⟨(pick a 20).toNat, by omega⟩
  have hN20 : N < 20 := by omega
  obtain ⟨M, hM⟩ : ∃ M : Nat, M = min nr 12 := ⟨_, rfl⟩
  have hM12 : M ≤ 12 := by omega
  have hMn : M ≤ nr := by omega
  have hmin : RowKit.Hid (min (nr : Int) 12 = M) := Lib.hid (by omega)
  have hp3 := pick_bd (c := t) (n := (M : Int) + 1) (by omega)
  obtain ⟨k, hk⟩ : ∃ k : Nat, (k : Int) = pick t (M + 1) := ⟨(pick t (M + 1)).toNat, by omega⟩
  have hkM : k ≤ M := by omega
  have k1 : RowKit.Hid (∀ W, Calls Tryd.prog 10 #[.int .i64 a, .int .i64 20] W fun e w' => e = .returned (.int .i64 N) ∧ W = w') := Lib.hid (fun W => by rw [hN]; exact pick_any a 20 W ha.1 ha.2 (by omega) (by omega))
  have k2 : RowKit.Hid (∀ W, Calls Tryd.prog 10 #[.int .i64 b, .int .i64 2] W fun e w' => e = .returned (.int .i64 0) ∧ W = w') := Lib.hid (fun W => by rw [← hv]; exact pick_any b 2 W hb.1 hb.2 (by omega) (by omega))
  have k3 : RowKit.Hid (∀ W, Calls Tryd.prog 10 #[.int .i64 t, .int .i64 ((M : Int) + 1)] W fun e w' => e = .returned (.int .i64 k) ∧ W = w') := Lib.hid (fun W => by rw [hk]; exact pick_any t (M + 1) W ht.1 ht.2 (by omega) (by omega))
  have hnr := hR.2.1
  have hno := hO.2.1
  have HR := Lib.hid hR
  have HO := Lib.hid hO
  have HT := Lib.hid hT
  obtain ⟨hb1, hb2⟩ := Tb.empty (w := 1) (n := 12 + N) (by unfold Wd; omega) (by omega) (by omega)
  have Hb1 : RowKit.Hid (buildS (12 + (N : Int)) 1 [] = (flatW 1 (tableOf (12 + N) []), 0)) := Lib.hid hb1
  have Hb2 := Lib.hid hb2
  obtain ⟨E0, eE0⟩ : ∃ E0, RowKit.Hid (flatW 1 (tableOf (12 + N) []) = E0) := ⟨_, Lib.hid rfl⟩
  rw [eE0.out] at Hb1 Hb2
  obtain ⟨f, hf⟩ : ∃ f : Nat → Int, RowKit.Hid (∀ i, f i = rs[i]?.getD 0) := ⟨_, Lib.hid (fun _ => rfl)⟩
  obtain ⟨g, hg⟩ : ∃ g : Nat → Int, RowKit.Hid (∀ i, g i = f ((i + k) % M)) := ⟨_, Lib.hid (fun _ => rfl)⟩
  have hsame : RowKit.Hid (∀ S L : List Rc, Holds 1 f M S → Holds 1 g M L → S.Nodup → L.Nodup → S.Perm L) := Lib.hid (fun S L h1 h2 h3 h4 => h1.same h2 h3 h4
    (fun i hi => by obtain ⟨j, hj, e⟩ := turned_to hkM i hi; exact ⟨j, hj, by rw [hg.out, e]⟩)
    (fun i hi => ⟨(i + k) % M, Nat.mod_lt _ (by omega), hg.out i⟩))
  clear hR hO hT hb1 hb2 hv hN hp ha hb ht hp3 hk hM
  go_enter Tryd.func5, Tryd.ntmps5
  go_wp2_with (fail)
  refine (awake_any w HT.out).mono ?_
  rintro e w1 ⟨rfl, hE1⟩
  have HE1 := Lib.hid hE1
  clear hE1
  go_wp2_with (first
    | (go_at_call 10; (with_reducible refine (k1.out _).mono ?_); rintro e w' ⟨rfl, rfl⟩)
    | (go_at_call 10; (with_reducible refine (k2.out _).mono ?_); rintro e w' ⟨rfl, rfl⟩))
  have q1 := build_any (12 + N) 1 none 0 0 [] w1 (HT.out.ext HE1.out) (QS.empty _ _ _ (by omega))
  rw [Hb1.out] at q1
  refine q1.mono ?_
  rintro e w2 ⟨hE2, s2, n2, c2, rfl, h2⟩
  clear q1
  dsimp only at h2 ⊢
  have HE2 := Lib.hid (HE1.out.trans hE2)
  clear hE2
  go_wp2_with (fail)
  have q1 := build_any (12 + N) 1 none 0 0 [] w2 (HT.out.ext HE2.out) (QS.empty _ _ _ (by omega))
  rw [Hb1.out] at q1
  refine q1.mono ?_
  rintro e w3 ⟨hE3, s3, n3, c3, rfl, h3⟩
  clear q1
  dsimp only at h3 ⊢
  have HS2 := Lib.hid (h2.ext hE3)
  have HS3 := Lib.hid h3
  have HE3 := Lib.hid (HE2.out.trans hE3)
  clear hE3 h2 h3
  have hmin2 : min (nr : Int) 12 = M := hmin.out
  go_wp2_with (first
    | (go_at_call 10; (with_reducible refine (k3.out _).mono ?_); rintro e w' ⟨rfl, rfl⟩))
  clear hmin2
  go_loopw [14, 16, 20] (fun ta tb i wr => ∃ (j : Nat) (sa : Option Addr) (na ca : Nat) (xa : List Int) (SA : List Rc) (sb : Option Addr) (nb cb : Nat) (xb : List Int) (SB : List Rc), j ≤ M ∧ i = .int .i64 j ∧ ta = .slice sa na ca ∧ tb = .slice sb nb cb ∧ RowKit.Hid (WS wr sa na ca xa) ∧ RowKit.Hid (WS wr sb nb cb xb) ∧ RowKit.Hid (Tb 1 (12 + N) xa SA) ∧ RowKit.Hid (Tb 1 (12 + N) xb SB) ∧ RowKit.Hid (Holds 1 f j SA) ∧ RowKit.Hid (Holds 1 g j SB) ∧ RowKit.Hid (Ext w wr)) (fun _ _ i _ => M - (intOf i).toNat)
  case atStart => exact ⟨0, s2, n2, c2, E0, [], s3, n3, c3, E0, [], by omega, rfl, rfl, rfl, HS2, HS3, Hb2, Hb2, Lib.hid (Holds.zero _ _), Lib.hid (Holds.zero _ _), HE3⟩
  case round =>
    obtain ⟨j, sa, na, ca, xa, SA, sb, nb, cb, xb, SB, hj, rfl, rfl, rfl, hSa, hSb, hTa, hTb, hHa, hHb, hE⟩ := hrel
    by_cases hlt : j < M
    · have hjM : (j : Int) < M := by omega
      have hjn : (j : Int) < nr := by omega
      obtain ⟨z, hz, uz, br, or, rfl, hc⟩ := (HR.out.ext hE.out).get (k := j) (by omega)
      obtain ⟨r, er⟩ : ∃ r : Nat, (j + k) % M = r := ⟨_, rfl⟩
      have hrM : r < M := by rw [← er]; exact Nat.mod_lt _ (by omega)
      obtain ⟨y, hy, uy, br2, or2, ebr, hd⟩ := (HR.out.ext hE.out).get (k := r) (by omega)
      cases ebr
      have hfj : f j = z := by rw [hf.out, hz]; rfl
      have hgj : g j = y := by rw [hg.out, er, hf.out, hy]; rfl
      obtain ⟨ya, pa, hTa2, hHa2⟩ := hHa.out.put hTa.out (by omega) hfj (y := 0) (by unfold rcOf; rfl)
      obtain ⟨yb, pb, hTb2, hHb2⟩ := hHb.out.put hTb.out (by omega) hgj (y := 0) (by unfold rcOf; rfl)
      have uKz := Lib.hid (keyOf_u z)
      have uKy := Lib.hid (keyOf_u y)
      have kKz : RowKit.Hid (∀ W, Calls Tryd.prog 16 #[.int .i64 z] W fun e w' => e = .returned (.int .u64 (keyOf z)) ∧ W = w') := Lib.hid (fun W => key_any z W uz.1 uz.2)
      have kKy : RowKit.Hid (∀ W, Calls Tryd.prog 16 #[.int .i64 y] W fun e w' => e = .returned (.int .u64 (keyOf y)) ∧ W = w') := Lib.hid (fun W => key_any y W uy.1 uy.2)
      obtain ⟨Kz, eKz⟩ : ∃ K, RowKit.Hid (keyOf z = K) := ⟨_, Lib.hid rfl⟩
      obtain ⟨Ky, eKy⟩ : ∃ K, RowKit.Hid (keyOf y = K) := ⟨_, Lib.hid rfl⟩
      rw [eKz.out] at pa hTa2 hHa2 uKz kKz
      rw [eKy.out] at pb hTb2 hHb2 uKy kKy
      have wz : RowKit.Hid (IntKind.u64.wrap (IntKind.u64.wrap (IntKind.i64.wrap 0) * Kz) = 0) := Lib.hid (by
        have := uKz.out; unfold U64 at this
        rw [IntWalk.i64_in 0 (by omega), IntWalk.u64_in 0 (by omega), IntWalk.u64_in _ (by omega)]; omega)
      have wy : RowKit.Hid (IntKind.u64.wrap (IntKind.u64.wrap (IntKind.i64.wrap 0) * Ky) = 0) := Lib.hid (by
        have := uKy.out; unfold U64 at this
        rw [IntWalk.i64_in 0 (by omega), IntWalk.u64_in 0 (by omega), IntWalk.u64_in _ (by omega)]; omega)
      have kPa : RowKit.Hid (∀ W, Ext wr W → Calls Tryd.prog 19 #[.slice sa na ca, .int .i64 1, .int .u64 Kz, .int .u64 (IntKind.u64.wrap (IntKind.u64.wrap (IntKind.i64.wrap 0) * Kz))] W (WE (ya, 0) W)) := Lib.hid (fun W hW => by
        rw [wz.out, ← pa]
        exact put_any sa na ca xa 1 Kz 0 W (HT.out.ext (hE.out.trans hW)) (hSa.out.ext hW) uKz.out (by first | exact uKz.out | (unfold U64; omega)))
      have wy2 : RowKit.Hid (IntKind.u64.wrap 0 = 0) := Lib.hid (by
        have := uKy.out; unfold U64 at this
        first | exact IntWalk.u64_in _ (by omega) | (rw [IntWalk.u64_in 1 (by omega), IntWalk.u64_in _ (by omega)]; omega))
      have kPb : RowKit.Hid (∀ W x, Ext wr W → x = 0 → Calls Tryd.prog 19 #[.slice sb nb cb, .int .i64 1, .int .u64 Ky, .int .u64 x] W (WE (yb, 0) W)) := Lib.hid (fun W x hW hx => by
        rw [hx, ← pb]
        exact put_any sb nb cb xb 1 Ky 0 W (HT.out.ext (hE.out.trans hW)) (hSb.out.ext hW) uKy.out (by first | exact uKy.out | (unfold U64; omega)))
      have HTa2 := Lib.hid hTa2
      have HTb2 := Lib.hid hTb2
      have HHa2 := Lib.hid hHa2
      have HHb2 := Lib.hid hHb2
      have Hd := Lib.hid hd
      have Er := Lib.hid er
      clear hTa2 hTb2 hHa2 hHb2 pa pb hfj hgj hz hy uz uy er hd
      go_wp2_with (fail)
      go_region_held3 (fun w' => (w'.cell? ⟨br, or + j, none⟩ = some (.int .i64 z)))
        (first
          | exact Ext.cell x1 hc
          | exact hc
          | go_keep)
        (first
          | (go_at_call 16; (with_reducible refine (kKz.out _).mono ?_); rintro e w' ⟨rfl, rfl⟩)
          | (go_at_call 19; (with_reducible refine (kPa.out _ (Ext.drew (Ext.refl wr))).mono ?_); rintro e w4 ⟨hE4, s4, n4, c4, rfl, h4⟩; have x1 : Ext wr w4 := (Ext.drew (Ext.refl wr)).trans hE4))
      rename_i hh
      try dsimp only at h4
      have hdd := x1.cell Hd.out
      have HS4 := Lib.hid h4
      have HX1 := Lib.hid x1
      clear hh h4 x1 hE4 kPa kKz hc
      have hjk : IntKind.i64.wrap ((j : Int) + k) = j + k := IntWalk.i64_in _ (by omega)
      have hrm : ((j : Int) + k).tmod M = r := by
        rw [Int.tmod_eq_emod_of_nonneg (by omega), ← Er.out]; push_cast; rfl
      have hrn : (r : Int) < nr := by omega
      have hM0 : (M : Int) ≠ 0 := by omega
      have hM1 : M ≠ 0 := by omega
      have hM2 : ((M : Int) == 0) = false := by simp; omega
      have hrw : IntKind.i64.wrap (r : Int) = r := IntWalk.i64_in _ (by omega)
      go_wp2_with (fail)
      go_region_held3 (fun w' => (w'.cell? ⟨br, or + r, none⟩ = some (.int .i64 y)))
        (first
          | exact Ext.cell x2 hdd
          | exact hdd
          | go_keep)
        (first
          | (go_at_call 16; (with_reducible refine (kKy.out _).mono ?_); rintro e w' ⟨rfl, rfl⟩)
          | (go_at_call 19; (with_reducible refine (kPb.out _ _ (Ext.drew HX1.out) (by first | exact wy.out | exact wy2.out)).mono ?_); rintro e w5 ⟨hE5, s5, n5, c5, rfl, h5⟩; have x2 : Ext w4 w5 := (Ext.drew (Ext.refl w4)).trans hE5))
      rename_i hh
      try dsimp only at h5
      have HS5 := Lib.hid h5
      have HX2 := Lib.hid x2
      clear hh h5 x2 hE5 kPb kKy hdd hjk hrm hrn hrw hM0 hM1 hM2
      have HE5 := Lib.hid ((hE.out.trans HX1.out).trans HX2.out)
      by_cases hjo : j < no
      · have hjo2 : (j : Int) < no := by omega
        have hjo3 : decide ((no : Int) ≤ j) = false := decide_eq_false (by omega)
        obtain ⟨q, _, uq, bo, oo, rfl, he⟩ := (HO.out.ext HE5.out).get (k := j) (by omega)
        have hql := keyOf_le q
        have kKq : RowKit.Hid (∀ W, Calls Tryd.prog 16 #[.int .i64 q] W fun e w' => e = .returned (.int .u64 (keyOf q)) ∧ W = w') := Lib.hid (fun W => key_any q W uq.1 uq.2)
        have haw := Lib.hid (HHb2.out.away HTb2.out q)
        obtain ⟨Q, eQ⟩ : ∃ K, RowKit.Hid (keyOf q = K) := ⟨_, Lib.hid rfl⟩
        rw [eQ.out] at kKq haw hql
        clear uq
        go_wp2_with (first
          | (go_at_call 16; (with_reducible refine (kKq.out _).mono ?_); rintro e w' ⟨rfl, rfl⟩))
        clear he kKq
        rcases haw.out with h11 | ⟨yc, h12, h13⟩
        · have q1 := put_any s5 n5 c5 yb 1 (Q + 1099511627776) 0 w5 (HT.out.ext HE5.out) HS5.out (by unfold U64; omega) (by unfold U64; omega)
          have e1 : putS yb 1 (Q + 1099511627776) 0 = _ := h11
          rw [e1] at q1
          refine q1.mono ?_
          rintro e w6 ⟨hE6, s6, n6, c6, rfl, h6⟩
          clear q1 e1 h11 haw h6
          dsimp only
          have HE6 := Lib.hid hE6
          clear hE6
          go_wp2_with (fail)
          go_roundw
          case rel => exact ⟨j + 1, s4, n4, c4, ya, _, s5, n5, c5, yb, _, by omega, by go_num, rfl, rfl, Lib.hid ((HS4.out.ext HX2.out).ext HE6.out), Lib.hid (HS5.out.ext HE6.out), HTa2, HTb2, HHa2, HHb2, Lib.hid (HE5.out.trans HE6.out)⟩
          case measure => simp [intOf]; omega
        · have q1 := put_any s5 n5 c5 yb 1 (Q + 1099511627776) 0 w5 (HT.out.ext HE5.out) HS5.out (by unfold U64; omega) (by unfold U64; omega)
          have e1 : putS yb 1 (Q + 1099511627776) 0 = _ := h12
          rw [e1] at q1
          refine q1.mono ?_
          rintro e w6 ⟨hE6, s6, n6, c6, rfl, h6⟩
          have H13 := Lib.hid h13
          clear q1 e1 h12 haw h13
          dsimp only at h6 ⊢
          have HE6 := Lib.hid hE6
          have HS6 := Lib.hid h6
          clear hE6 h6
          go_wp2_with (fail)
          have q1 := del_any s6 n6 c6 yc 1 (Q + 1099511627776) w6 (HT.out.ext (HE5.out.trans HE6.out)) HS6.out (by unfold U64; omega)
          have e1 : delS yc 1 (Q + 1099511627776) = _ := H13.out
          rw [e1] at q1
          refine q1.mono ?_
          rintro e w7 ⟨hE7, s7, n7, c7, rfl, h7⟩
          clear q1 e1
          dsimp only at h7 ⊢
          have HE7 := Lib.hid (HE6.out.trans hE7)
          have HS7 := Lib.hid h7
          clear hE7 h7
          go_wp2_with (fail)
          refine (same_any s7 s5 n7 n5 c7 c5 yb yb true w7 HS7.out (HS5.out.ext HE7.out) (Lib.hid (by simp))).mono ?_
          rintro e w8 ⟨rfl, q8, hq8⟩
          have HE8 := Lib.hid (show Ext w7 w8 by rw [hq8]; exact Ext.draws w7 q8)
          clear hq8
          go_wp2_with (fail)
          go_roundw
          case rel => exact ⟨j + 1, s4, n4, c4, ya, _, s7, n7, c7, yb, _, by omega, by go_num, rfl, rfl, Lib.hid (((HS4.out.ext HX2.out).ext HE7.out).ext HE8.out), Lib.hid (HS7.out.ext HE8.out), HTa2, HTb2, HHa2, HHb2, Lib.hid ((HE5.out.trans HE7.out).trans HE8.out)⟩
          case measure => simp [intOf]; omega
      · have hjo2 : (no : Int) ≤ j := by omega
        go_wp2_with (fail)
        go_roundw
        case rel => exact ⟨j + 1, s4, n4, c4, ya, _, s5, n5, c5, yb, _, by omega, by go_num, rfl, rfl, Lib.hid (HS4.out.ext HX2.out), HS5, HTa2, HTb2, HHa2, HHb2, HE5⟩
        case measure => simp [intOf]; omega
    · obtain rfl : M = j := by omega
      have hxx : RowKit.Hid (xa = xb) := Lib.hid (hTa.out.same hTb.out (hsame.out SA SB hHa.out hHb.out hTa.out.good.nodup hTb.out.good.nodup))
      go_wp2_with (fail)
      refine (same_any sa sb na nb ca cb xa xb true wr hSa.out hSb.out (Lib.hid (by simp [hxx.out]))).mono ?_
      rintro e w8 ⟨rfl, q8, hq8⟩
      have HE8 := Lib.hid (show Ext wr w8 by rw [hq8]; exact Ext.draws wr q8)
      clear hq8
      go_wp2_with (fail)
      refine (right_any sa na ca xa 1 true w8 (HT.out.ext (hE.out.trans HE8.out)) (hSa.out.ext HE8.out) (Lib.hid hTa.out.right.symm)).mono ?_
      rintro e w9 ⟨rfl, hE9⟩
      have hfin := Lib.hid ((hE.out.trans HE8.out).trans hE9)
      clear hE9
      go_wp2_with (fail)
      go_ret
      exact ⟨rfl, hfin.out⟩

set_option maxRecDepth 100000 in
set_option maxHeartbeats 2000000 in
theorem one_2 (a b : Int) (sr : Option Addr) (nr cr : Nat) (rs : List Int) (t : Int) (so : Option Addr) (no co : Nat) (os : List Int) (w : World) (hT : Tab w) (ha : I64 a) (hb : I64 b) (hR : IS w sr nr rs) (ht : I64 t) (hO : IS w so no os) (hv : pick b 2 = 1) :
    Calls Tryd.prog 5 #[.int .i64 a, .int .i64 b, .slice sr nr cr, .int .i64 t, .slice so no co] w fun e w' => e = .returned (.bool true) ∧ Ext w w' := by
  have hp := pick_bd (c := a) (n := 20) (by omega)
  obtain ⟨N, hN⟩ : ∃ N : Nat, (N : Int) = pick a 20 := ⟨(pick a 20).toNat, by omega⟩
  have hN20 : N < 20 := by omega
  obtain ⟨M, hM⟩ : ∃ M : Nat, M = min nr 12 := ⟨_, rfl⟩
  have hM12 : M ≤ 12 := by omega
  have hMn : M ≤ nr := by omega
  have hmin : RowKit.Hid (min (nr : Int) 12 = M) := Lib.hid (by omega)
  have hp3 := pick_bd (c := t) (n := (M : Int) + 1) (by omega)
  obtain ⟨k, hk⟩ : ∃ k : Nat, (k : Int) = pick t (M + 1) := ⟨(pick t (M + 1)).toNat, by omega⟩
  have hkM : k ≤ M := by omega
  have k1 : RowKit.Hid (∀ W, Calls Tryd.prog 10 #[.int .i64 a, .int .i64 20] W fun e w' => e = .returned (.int .i64 N) ∧ W = w') := Lib.hid (fun W => by rw [hN]; exact pick_any a 20 W ha.1 ha.2 (by omega) (by omega))
  have k2 : RowKit.Hid (∀ W, Calls Tryd.prog 10 #[.int .i64 b, .int .i64 2] W fun e w' => e = .returned (.int .i64 1) ∧ W = w') := Lib.hid (fun W => by rw [← hv]; exact pick_any b 2 W hb.1 hb.2 (by omega) (by omega))
  have k3 : RowKit.Hid (∀ W, Calls Tryd.prog 10 #[.int .i64 t, .int .i64 ((M : Int) + 1)] W fun e w' => e = .returned (.int .i64 k) ∧ W = w') := Lib.hid (fun W => by rw [hk]; exact pick_any t (M + 1) W ht.1 ht.2 (by omega) (by omega))
  have hnr := hR.2.1
  have hno := hO.2.1
  have HR := Lib.hid hR
  have HO := Lib.hid hO
  have HT := Lib.hid hT
  obtain ⟨hb1, hb2⟩ := Tb.empty (w := 2) (n := 12 + N) (by unfold Wd; omega) (by omega) (by omega)
  have Hb1 : RowKit.Hid (buildS (12 + (N : Int)) 2 [] = (flatW 2 (tableOf (12 + N) []), 0)) := Lib.hid hb1
  have Hb2 := Lib.hid hb2
  obtain ⟨E0, eE0⟩ : ∃ E0, RowKit.Hid (flatW 2 (tableOf (12 + N) []) = E0) := ⟨_, Lib.hid rfl⟩
  rw [eE0.out] at Hb1 Hb2
  obtain ⟨f, hf⟩ : ∃ f : Nat → Int, RowKit.Hid (∀ i, f i = rs[i]?.getD 0) := ⟨_, Lib.hid (fun _ => rfl)⟩
  obtain ⟨g, hg⟩ : ∃ g : Nat → Int, RowKit.Hid (∀ i, g i = f ((i + k) % M)) := ⟨_, Lib.hid (fun _ => rfl)⟩
  have hsame : RowKit.Hid (∀ S L : List Rc, Holds 2 f M S → Holds 2 g M L → S.Nodup → L.Nodup → S.Perm L) := Lib.hid (fun S L h1 h2 h3 h4 => h1.same h2 h3 h4
    (fun i hi => by obtain ⟨j, hj, e⟩ := turned_to hkM i hi; exact ⟨j, hj, by rw [hg.out, e]⟩)
    (fun i hi => ⟨(i + k) % M, Nat.mod_lt _ (by omega), hg.out i⟩))
  clear hR hO hT hb1 hb2 hv hN hp ha hb ht hp3 hk hM
  go_enter Tryd.func5, Tryd.ntmps5
  go_wp2_with (fail)
  refine (awake_any w HT.out).mono ?_
  rintro e w1 ⟨rfl, hE1⟩
  have HE1 := Lib.hid hE1
  clear hE1
  go_wp2_with (first
    | (go_at_call 10; (with_reducible refine (k1.out _).mono ?_); rintro e w' ⟨rfl, rfl⟩)
    | (go_at_call 10; (with_reducible refine (k2.out _).mono ?_); rintro e w' ⟨rfl, rfl⟩))
  have q1 := build_any (12 + N) 2 none 0 0 [] w1 (HT.out.ext HE1.out) (QS.empty _ _ _ (by omega))
  rw [Hb1.out] at q1
  refine q1.mono ?_
  rintro e w2 ⟨hE2, s2, n2, c2, rfl, h2⟩
  clear q1
  dsimp only at h2 ⊢
  have HE2 := Lib.hid (HE1.out.trans hE2)
  clear hE2
  go_wp2_with (fail)
  have q1 := build_any (12 + N) 2 none 0 0 [] w2 (HT.out.ext HE2.out) (QS.empty _ _ _ (by omega))
  rw [Hb1.out] at q1
  refine q1.mono ?_
  rintro e w3 ⟨hE3, s3, n3, c3, rfl, h3⟩
  clear q1
  dsimp only at h3 ⊢
  have HS2 := Lib.hid (h2.ext hE3)
  have HS3 := Lib.hid h3
  have HE3 := Lib.hid (HE2.out.trans hE3)
  clear hE3 h2 h3
  have hmin2 : min (nr : Int) 12 = M := hmin.out
  go_wp2_with (first
    | (go_at_call 10; (with_reducible refine (k3.out _).mono ?_); rintro e w' ⟨rfl, rfl⟩))
  clear hmin2
  go_loopw [14, 16, 20] (fun ta tb i wr => ∃ (j : Nat) (sa : Option Addr) (na ca : Nat) (xa : List Int) (SA : List Rc) (sb : Option Addr) (nb cb : Nat) (xb : List Int) (SB : List Rc), j ≤ M ∧ i = .int .i64 j ∧ ta = .slice sa na ca ∧ tb = .slice sb nb cb ∧ RowKit.Hid (WS wr sa na ca xa) ∧ RowKit.Hid (WS wr sb nb cb xb) ∧ RowKit.Hid (Tb 2 (12 + N) xa SA) ∧ RowKit.Hid (Tb 2 (12 + N) xb SB) ∧ RowKit.Hid (Holds 2 f j SA) ∧ RowKit.Hid (Holds 2 g j SB) ∧ RowKit.Hid (Ext w wr)) (fun _ _ i _ => M - (intOf i).toNat)
  case atStart => exact ⟨0, s2, n2, c2, E0, [], s3, n3, c3, E0, [], by omega, rfl, rfl, rfl, HS2, HS3, Hb2, Hb2, Lib.hid (Holds.zero _ _), Lib.hid (Holds.zero _ _), HE3⟩
  case round =>
    obtain ⟨j, sa, na, ca, xa, SA, sb, nb, cb, xb, SB, hj, rfl, rfl, rfl, hSa, hSb, hTa, hTb, hHa, hHb, hE⟩ := hrel
    by_cases hlt : j < M
    · have hjM : (j : Int) < M := by omega
      have hjn : (j : Int) < nr := by omega
      obtain ⟨z, hz, uz, br, or, rfl, hc⟩ := (HR.out.ext hE.out).get (k := j) (by omega)
      obtain ⟨r, er⟩ : ∃ r : Nat, (j + k) % M = r := ⟨_, rfl⟩
      have hrM : r < M := by rw [← er]; exact Nat.mod_lt _ (by omega)
      obtain ⟨y, hy, uy, br2, or2, ebr, hd⟩ := (HR.out.ext hE.out).get (k := r) (by omega)
      cases ebr
      have hfj : f j = z := by rw [hf.out, hz]; rfl
      have hgj : g j = y := by rw [hg.out, er, hf.out, hy]; rfl
      obtain ⟨ya, pa, hTa2, hHa2⟩ := hHa.out.put hTa.out (by omega) hfj (y := keyOf z) (by unfold rcOf; rfl)
      obtain ⟨yb, pb, hTb2, hHb2⟩ := hHb.out.put hTb.out (by omega) hgj (y := keyOf y) (by unfold rcOf; rfl)
      have uKz := Lib.hid (keyOf_u z)
      have uKy := Lib.hid (keyOf_u y)
      have kKz : RowKit.Hid (∀ W, Calls Tryd.prog 16 #[.int .i64 z] W fun e w' => e = .returned (.int .u64 (keyOf z)) ∧ W = w') := Lib.hid (fun W => key_any z W uz.1 uz.2)
      have kKy : RowKit.Hid (∀ W, Calls Tryd.prog 16 #[.int .i64 y] W fun e w' => e = .returned (.int .u64 (keyOf y)) ∧ W = w') := Lib.hid (fun W => key_any y W uy.1 uy.2)
      obtain ⟨Kz, eKz⟩ : ∃ K, RowKit.Hid (keyOf z = K) := ⟨_, Lib.hid rfl⟩
      obtain ⟨Ky, eKy⟩ : ∃ K, RowKit.Hid (keyOf y = K) := ⟨_, Lib.hid rfl⟩
      rw [eKz.out] at pa hTa2 hHa2 uKz kKz
      rw [eKy.out] at pb hTb2 hHb2 uKy kKy
      have wz : RowKit.Hid (IntKind.u64.wrap (IntKind.u64.wrap (IntKind.i64.wrap 1) * Kz) = Kz) := Lib.hid (by
        have := uKz.out; unfold U64 at this
        rw [IntWalk.i64_in 1 (by omega), IntWalk.u64_in 1 (by omega), IntWalk.u64_in _ (by omega)]; omega)
      have wy : RowKit.Hid (IntKind.u64.wrap (IntKind.u64.wrap (IntKind.i64.wrap 1) * Ky) = Ky) := Lib.hid (by
        have := uKy.out; unfold U64 at this
        rw [IntWalk.i64_in 1 (by omega), IntWalk.u64_in 1 (by omega), IntWalk.u64_in _ (by omega)]; omega)
      have kPa : RowKit.Hid (∀ W, Ext wr W → Calls Tryd.prog 19 #[.slice sa na ca, .int .i64 2, .int .u64 Kz, .int .u64 (IntKind.u64.wrap (IntKind.u64.wrap (IntKind.i64.wrap 1) * Kz))] W (WE (ya, 0) W)) := Lib.hid (fun W hW => by
        rw [wz.out, ← pa]
        exact put_any sa na ca xa 2 Kz Kz W (HT.out.ext (hE.out.trans hW)) (hSa.out.ext hW) uKz.out (by first | exact uKz.out | (unfold U64; omega)))
      have wy2 : RowKit.Hid (IntKind.u64.wrap (IntKind.u64.wrap 1 * Ky) = Ky) := Lib.hid (by
        have := uKy.out; unfold U64 at this
        first | exact IntWalk.u64_in _ (by omega) | (rw [IntWalk.u64_in 1 (by omega), IntWalk.u64_in _ (by omega)]; omega))
      have kPb : RowKit.Hid (∀ W x, Ext wr W → x = Ky → Calls Tryd.prog 19 #[.slice sb nb cb, .int .i64 2, .int .u64 Ky, .int .u64 x] W (WE (yb, 0) W)) := Lib.hid (fun W x hW hx => by
        rw [hx, ← pb]
        exact put_any sb nb cb xb 2 Ky Ky W (HT.out.ext (hE.out.trans hW)) (hSb.out.ext hW) uKy.out (by first | exact uKy.out | (unfold U64; omega)))
      have HTa2 := Lib.hid hTa2
      have HTb2 := Lib.hid hTb2
      have HHa2 := Lib.hid hHa2
      have HHb2 := Lib.hid hHb2
      have Hd := Lib.hid hd
      have Er := Lib.hid er
      clear hTa2 hTb2 hHa2 hHb2 pa pb hfj hgj hz hy uz uy er hd
      go_wp2_with (fail)
      go_region_held3 (fun w' => (w'.cell? ⟨br, or + j, none⟩ = some (.int .i64 z)))
        (first
          | exact Ext.cell x1 hc
          | exact hc
          | go_keep)
        (first
          | (go_at_call 16; (with_reducible refine (kKz.out _).mono ?_); rintro e w' ⟨rfl, rfl⟩)
          | (go_at_call 19; (with_reducible refine (kPa.out _ (Ext.drew (Ext.refl wr))).mono ?_); rintro e w4 ⟨hE4, s4, n4, c4, rfl, h4⟩; have x1 : Ext wr w4 := (Ext.drew (Ext.refl wr)).trans hE4))
      rename_i hh
      try dsimp only at h4
      have hdd := x1.cell Hd.out
      have HS4 := Lib.hid h4
      have HX1 := Lib.hid x1
      clear hh h4 x1 hE4 kPa kKz hc
      have hjk : IntKind.i64.wrap ((j : Int) + k) = j + k := IntWalk.i64_in _ (by omega)
      have hrm : ((j : Int) + k).tmod M = r := by
        rw [Int.tmod_eq_emod_of_nonneg (by omega), ← Er.out]; push_cast; rfl
      have hrn : (r : Int) < nr := by omega
      have hM0 : (M : Int) ≠ 0 := by omega
      have hM1 : M ≠ 0 := by omega
      have hM2 : ((M : Int) == 0) = false := by simp; omega
      have hrw : IntKind.i64.wrap (r : Int) = r := IntWalk.i64_in _ (by omega)
      go_wp2_with (fail)
      go_region_held3 (fun w' => (w'.cell? ⟨br, or + r, none⟩ = some (.int .i64 y)))
        (first
          | exact Ext.cell x2 hdd
          | exact hdd
          | go_keep)
        (first
          | (go_at_call 16; (with_reducible refine (kKy.out _).mono ?_); rintro e w' ⟨rfl, rfl⟩)
          | (go_at_call 19; (with_reducible refine (kPb.out _ _ (Ext.drew HX1.out) (by first | exact wy.out | exact wy2.out)).mono ?_); rintro e w5 ⟨hE5, s5, n5, c5, rfl, h5⟩; have x2 : Ext w4 w5 := (Ext.drew (Ext.refl w4)).trans hE5))
      rename_i hh
      try dsimp only at h5
      have HS5 := Lib.hid h5
      have HX2 := Lib.hid x2
      clear hh h5 x2 hE5 kPb kKy hdd hjk hrm hrn hrw hM0 hM1 hM2
      have HE5 := Lib.hid ((hE.out.trans HX1.out).trans HX2.out)
      by_cases hjo : j < no
      · have hjo2 : (j : Int) < no := by omega
        have hjo3 : decide ((no : Int) ≤ j) = false := decide_eq_false (by omega)
        obtain ⟨q, _, uq, bo, oo, rfl, he⟩ := (HO.out.ext HE5.out).get (k := j) (by omega)
        have hql := keyOf_le q
        have kKq : RowKit.Hid (∀ W, Calls Tryd.prog 16 #[.int .i64 q] W fun e w' => e = .returned (.int .u64 (keyOf q)) ∧ W = w') := Lib.hid (fun W => key_any q W uq.1 uq.2)
        have haw := Lib.hid (HHb2.out.away HTb2.out q)
        obtain ⟨Q, eQ⟩ : ∃ K, RowKit.Hid (keyOf q = K) := ⟨_, Lib.hid rfl⟩
        rw [eQ.out] at kKq haw hql
        clear uq
        go_wp2_with (first
          | (go_at_call 16; (with_reducible refine (kKq.out _).mono ?_); rintro e w' ⟨rfl, rfl⟩))
        clear he kKq
        rcases haw.out with h11 | ⟨yc, h12, h13⟩
        · have q1 := put_any s5 n5 c5 yb 2 (Q + 1099511627776) 0 w5 (HT.out.ext HE5.out) HS5.out (by unfold U64; omega) (by unfold U64; omega)
          have e1 : putS yb 2 (Q + 1099511627776) 0 = _ := h11
          rw [e1] at q1
          refine q1.mono ?_
          rintro e w6 ⟨hE6, s6, n6, c6, rfl, h6⟩
          clear q1 e1 h11 haw h6
          dsimp only
          have HE6 := Lib.hid hE6
          clear hE6
          go_wp2_with (fail)
          go_roundw
          case rel => exact ⟨j + 1, s4, n4, c4, ya, _, s5, n5, c5, yb, _, by omega, by go_num, rfl, rfl, Lib.hid ((HS4.out.ext HX2.out).ext HE6.out), Lib.hid (HS5.out.ext HE6.out), HTa2, HTb2, HHa2, HHb2, Lib.hid (HE5.out.trans HE6.out)⟩
          case measure => simp [intOf]; omega
        · have q1 := put_any s5 n5 c5 yb 2 (Q + 1099511627776) 0 w5 (HT.out.ext HE5.out) HS5.out (by unfold U64; omega) (by unfold U64; omega)
          have e1 : putS yb 2 (Q + 1099511627776) 0 = _ := h12
          rw [e1] at q1
          refine q1.mono ?_
          rintro e w6 ⟨hE6, s6, n6, c6, rfl, h6⟩
          have H13 := Lib.hid h13
          clear q1 e1 h12 haw h13
          dsimp only at h6 ⊢
          have HE6 := Lib.hid hE6
          have HS6 := Lib.hid h6
          clear hE6 h6
          go_wp2_with (fail)
          have q1 := del_any s6 n6 c6 yc 2 (Q + 1099511627776) w6 (HT.out.ext (HE5.out.trans HE6.out)) HS6.out (by unfold U64; omega)
          have e1 : delS yc 2 (Q + 1099511627776) = _ := H13.out
          rw [e1] at q1
          refine q1.mono ?_
          rintro e w7 ⟨hE7, s7, n7, c7, rfl, h7⟩
          clear q1 e1
          dsimp only at h7 ⊢
          have HE7 := Lib.hid (HE6.out.trans hE7)
          have HS7 := Lib.hid h7
          clear hE7 h7
          go_wp2_with (fail)
          refine (same_any s7 s5 n7 n5 c7 c5 yb yb true w7 HS7.out (HS5.out.ext HE7.out) (Lib.hid (by simp))).mono ?_
          rintro e w8 ⟨rfl, q8, hq8⟩
          have HE8 := Lib.hid (show Ext w7 w8 by rw [hq8]; exact Ext.draws w7 q8)
          clear hq8
          go_wp2_with (fail)
          go_roundw
          case rel => exact ⟨j + 1, s4, n4, c4, ya, _, s7, n7, c7, yb, _, by omega, by go_num, rfl, rfl, Lib.hid (((HS4.out.ext HX2.out).ext HE7.out).ext HE8.out), Lib.hid (HS7.out.ext HE8.out), HTa2, HTb2, HHa2, HHb2, Lib.hid ((HE5.out.trans HE7.out).trans HE8.out)⟩
          case measure => simp [intOf]; omega
      · have hjo2 : (no : Int) ≤ j := by omega
        go_wp2_with (fail)
        go_roundw
        case rel => exact ⟨j + 1, s4, n4, c4, ya, _, s5, n5, c5, yb, _, by omega, by go_num, rfl, rfl, Lib.hid (HS4.out.ext HX2.out), HS5, HTa2, HTb2, HHa2, HHb2, HE5⟩
        case measure => simp [intOf]; omega
    · obtain rfl : M = j := by omega
      have hxx : RowKit.Hid (xa = xb) := Lib.hid (hTa.out.same hTb.out (hsame.out SA SB hHa.out hHb.out hTa.out.good.nodup hTb.out.good.nodup))
      go_wp2_with (fail)
      refine (same_any sa sb na nb ca cb xa xb true wr hSa.out hSb.out (Lib.hid (by simp [hxx.out]))).mono ?_
      rintro e w8 ⟨rfl, q8, hq8⟩
      have HE8 := Lib.hid (show Ext wr w8 by rw [hq8]; exact Ext.draws wr q8)
      clear hq8
      go_wp2_with (fail)
      refine (right_any sa na ca xa 2 true w8 (HT.out.ext (hE.out.trans HE8.out)) (hSa.out.ext HE8.out) (Lib.hid hTa.out.right.symm)).mono ?_
      rintro e w9 ⟨rfl, hE9⟩
      have hfin := Lib.hid ((hE.out.trans HE8.out).trans hE9)
      clear hE9
      go_wp2_with (fail)
      go_ret
      exact ⟨rfl, hfin.out⟩

/-- The law, walked. -/
theorem one_walk (a b : Int) (sr : Option Addr) (nr cr : Nat) (rs : List Int) (t : Int) (so : Option Addr) (no co : Nat) (os : List Int) (w : World) (hT : Tab w) (ha : I64 a) (hb : I64 b) (hR : IS w sr nr rs) (ht : I64 t) (hO : IS w so no os) :
    Calls Tryd.prog 5 #[.int .i64 a, .int .i64 b, .slice sr nr cr, .int .i64 t, .slice so no co] w fun e w' => e = .returned (.bool true) ∧ Below w.heap.size w w' := by
  have h2 := pick_bd (c := b) (n := 2) (by omega)
  rcases (by omega : pick b 2 = 0 ∨ pick b 2 = 1) with h | h
  · exact one_1 a b sr nr cr rs t so no co os w hT ha hb hR ht hO h
  · exact one_2 a b sr nr cr rs t so no co os w hT ha hb hR ht hO h

end Go.Proofs.YtbpgnnogpcppdaaDoor
