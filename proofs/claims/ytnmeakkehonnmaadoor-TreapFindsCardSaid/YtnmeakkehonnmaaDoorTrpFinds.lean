/-
  The law TreapFinds, walked. Conditions: the package's table lies; the integers' bounds; the raw numbers are there.
-/
import Derived.Test.YtnmeakkehonnmaaDoorTrpAwake
import Derived.Test.YtnmeakkehonnmaaDoorTrpKeys
namespace Go.Proofs.YtnmeakkehonnmaaDoor.Trp
open Go.RowKit (Below intOf)

theorem build_right' {l : List Int} (h : ¬ 256 < l.length) (hr : Rising l) : rightS l (tree l 0).1 (tree l 0).2 = true := right_of.2 ⟨h, hr, rfl, rfl⟩
theorem path_ok {l : List Int} (h : ¬ 256 < l.length) (hr : Rising l) (q : Int) : pathS l (tree l 0).1 (tree l 0).2 q = path l 0 q := by
  unfold pathS; rw [build_right' h hr]; rfl
theorem find_ok {l : List Int} (h : ¬ 256 < l.length) (hr : Rising l) (q : Int) : findS l (tree l 0).1 (tree l 0).2 q = (((num (fun x => x == q) l : Nat) : Int), decide (num (fun x => x == q) l ≠ 0)) := by
  unfold findS; rw [build_right' h hr]; rfl
theorem next_ok {l : List Int} (h : ¬ 256 < l.length) (hr : Rising l) (q : Int) : nextS l (tree l 0).1 (tree l 0).2 q = (((num (fun x => decide (q ≤ x)) l : Nat) : Int), decide (num (fun x => decide (q ≤ x)) l ≠ 0)) := by
  unfold nextS; rw [build_right' h hr]; rfl
/-- Where q is, it is the first one that is not less. -/
theorem num_here {l : List Int} (hr : Rising l) {q : Int} {i : Nat} (hi : l[i]? = some q) : num (fun x => x == q) l = i + 1 ∧ num (fun x => decide (q ≤ x)) l = i + 1 :=
  ⟨num_hit (fun j y hj hy => by have := hr.lt hy hi hj; simp; omega) hi (by simp), num_hit (fun j y hj hy => by have := hr.lt hy hi hj; simp; omega) hi (by simp)⟩
theorem num_away {l : List Int} {q : Int} (h : ∀ x ∈ l, x ≠ q) : num (fun x => x == q) l = 0 := num_none (fun j y hy => by have := h y (List.mem_of_getElem? hy); simpa using this)

/-- The first one from i on that is not less. -/
def From (l : List Int) (q : Int) (i f : Nat) : Prop := (f = 0 ∧ ∀ (j : Nat) x, i ≤ j → l[j]? = some x → x < q) ∨ ∃ (j : Nat) (x : Int), f = j + 1 ∧ i ≤ j ∧ l[j]? = some x ∧ q ≤ x ∧ ∀ (j' : Nat) y, i ≤ j' → j' < j → l[j']? = some y → y < q
theorem from_num {l : List Int} {q : Int} {f : Nat} (h : From l q 0 f) : f = num (fun x => decide (q ≤ x)) l := by
  rcases h with ⟨rfl, h⟩ | ⟨j, x, rfl, _, hj, hx, hb⟩
  · exact (num_none (fun j y hy => by have := h j y (Nat.zero_le _) hy; simp; omega)).symm
  · exact (num_hit (fun j' y hj' hy => by have := hb j' y (Nat.zero_le _) hj' hy; simp; omega) hj (by simpa using hx)).symm
theorem from_hit {l : List Int} {q x : Int} {i : Nat} (hx : l[i]? = some x) (hq : q ≤ x) : From l q i (i + 1) := .inr ⟨i, x, rfl, Nat.le_refl _, hx, hq, fun j' y h1 h2 => by omega⟩
theorem from_less {l : List Int} {q x : Int} {i f : Nat} (h : From l q (i + 1) f) (hx : l[i]? = some x) (hq : ¬ q ≤ x) : From l q i f := by
  rcases h with ⟨rfl, h⟩ | ⟨j, y, rfl, hij, hj, hy, hb⟩
  · exact .inl ⟨rfl, fun j y hj hy => by
      by_cases e : j = i
      · subst e; rw [hx] at hy; cases hy; omega
      · exact h j y (by omega) hy⟩
  · exact .inr ⟨j, y, rfl, by omega, hj, hy, fun j' z h1 h2 hz => by
      by_cases e : j' = i
      · subst e; rw [hx] at hz; cases hz; omega
      · exact hb j' z (by omega) h2 hz⟩

theorem zero_same {a b : Nat} (h : a = 0 ↔ b = 0) : ∃ e0 : Bool, (a == 0) = e0 ∧ (b == 0) = e0 ∧ ((a : Int) == 0) = e0 ∧ ((b : Int) == 0) = e0 := by
  by_cases ha : a = 0
  · have hb := h.1 ha
    subst ha; subst hb
    exact ⟨true, rfl, rfl, rfl, rfl⟩
  · have hb : b ≠ 0 := fun e => ha (h.2 e)
    refine ⟨false, by simpa using ha, by simpa using hb, ?_, ?_⟩
    · rw [beq_eq_false_iff_ne]; omega
    · rw [beq_eq_false_iff_ne]; omega
/-- Where one stands on a way. -/
def On (l : List Int) (L : List Pr) (q : Int) (p : List Int) (i : Nat) (next : Int) : Prop :=
  Way l L q next (p.drop i) ∨ (i = p.length ∧ ∃ ix : Nat, next = ((ix + 1 : Nat) : Int) ∧ l[ix]? = some q)

set_option maxHeartbeats 8000000 in
set_option maxRecDepth 100000 in
theorem finds_walk (s : Option Addr) (n c : Nat) (raw : List Int) (key kk : Int) (W : World) (hTab : Tab W) (hR : NSL W s n c raw) (hkey : U64 key) (hk : I64 kk) :
    Calls Tryd.prog 5 #[.slice s n c, .int .u64 key, .int .i64 kk] W fun e w' => e = .returned (.bool true) ∧ Below W.heap.size W w' := by
  have HT := Lib.hid hTab
  have HR := Lib.hid hR
  clear hTab hR
  go_enter Tryd.func5, Tryd.ntmps5
  go_wp2_with (fail)
  refine (awake_any W HT.out).mono ?_
  rintro e w1 ⟨rfl, hE⟩
  go_wp2_with (fail)
  refine (keys_any s n c raw w1 (HR.out.ext hE)).mono ?_
  rintro e w2 ⟨sk, m, ck, rfl, l, hW, hm, hRi, hE2⟩
  replace hE := hE.trans hE2
  clear hE2 HR
  have HRi := Lib.hid hRi
  clear hRi
  go_wp2_with (fail)
  have c1 := build_any sk m ck l w2 (tab_ext HT.out hE) hW (by omega)
  rw [build_ok (by rw [hW.len]; omega) HRi.out] at c1
  refine c1.mono ?_
  clear c1
  rintro e w3 ⟨hE2, sM, mM, cM, rfl, hM⟩
  obtain rfl : mM = m := by rw [← hM.len]; simp only; rw [tree_len _ _ _ rfl, hW.len]
  replace hW := hW.ext hE2
  replace hE := hE.trans hE2
  clear hE2
  simp only at hM
  go_wp2_with (fail)
  refine (key_any kk w3 hk.1 hk.2).mono ?_
  rintro e w' ⟨rfl, rfl⟩
  obtain ⟨K2, hK2⟩ : ∃ K2, keyOf kk = K2 := ⟨_, rfl⟩
  have uK2 : U64 K2 := by rw [← hK2]; exact keyOf_u kk
  rw [hK2]
  clear hK2 hk
  have o1 : (w3.alloc (.cells #[.int .u64 key, .int .u64 K2] 25)).ownsRow w3.heap.size 25 1 (.slice (some ⟨w3.heap.size, 0, none⟩) 2 2) 2 (flatWS [key, K2]) := World.ownsRow_lit w3 #[.int .u64 key, .int .u64 K2] 2 (Nat.le_refl _) (by unfold maxLen; omega) rfl
  obtain ⟨Q, hQ⟩ : ∃ Q, RowKit.Hid (2 + mM = Q) := ⟨_, Lib.hid rfl⟩
  have hQ20 : Q ≤ 22 := by have := hQ.out; omega
  obtain ⟨sQ, cQ, w4, R1, o2, g1⟩ := appWS o1 (hW.ext (Ext.new w3 _)) Q hQ.out (by omega) (by simp)
  have x1 : Ext w3 w4 := Ext.grown (Ext.new w3 _) g1 (own_ge o1)
  have hQs : WS w4 sQ Q cQ ([key, K2] ++ l) := WS.of_own o2 (by rw [List.length_append, hW.len]; exact hQ.out) (by omega) (fun y hy => by
    rcases List.mem_append.1 hy with hy | hy
    · rcases List.mem_cons.1 hy with rfl | hy
      · exact hkey
      · rw [List.mem_singleton.1 hy]; exact uK2
    · exact hW.range y hy)
  have HW := Lib.hid (hW.ext x1)
  have HM := Lib.hid (hM.ext x1)
  have HQ := Lib.hid hQs
  replace hE := hE.trans x1
  clear hW hM hQs o1 o2 g1 x1
  go_wp2_with (at_builtin; refine Lib.wpList_append_run _ rfl _ _ _ _ rfl _ _ rfl rfl _ _ R1.out ?_)
  obtain ⟨r, hr⟩ : ∃ r, (tree l 0).1 = r := ⟨_, rfl⟩
  obtain ⟨T2, hT2⟩ : ∃ T2, (tree l 0).2 = T2 := ⟨_, rfl⟩
  have HF : RowKit.Hid (∀ q, findS l r T2 q = (((num (fun x => x == q) l : Nat) : Int), decide (num (fun x => x == q) l ≠ 0))) := Lib.hid (fun q => by rw [← hr, ← hT2]; exact find_ok (by rw [HW.out.len]; omega) HRi.out q)
  have HN : RowKit.Hid (∀ q, nextS l r T2 q = (((num (fun x => decide (q ≤ x)) l : Nat) : Int), decide (num (fun x => decide (q ≤ x)) l ≠ 0))) := Lib.hid (fun q => by rw [← hr, ← hT2]; exact next_ok (by rw [HW.out.len]; omega) HRi.out q)
  have HP : RowKit.Hid (∀ q, pathS l r T2 q = path l 0 q) := Lib.hid (fun q => by rw [← hr, ← hT2]; exact path_ok (by rw [HW.out.len]; omega) HRi.out q)
  have HY : RowKit.Hid (∀ q, Way l T2 q r (path l 0 q)) := Lib.hid (fun q => by rw [← hr, ← hT2]; exact way_of l q)
  have hrb : 0 ≤ r ∧ r ≤ 20 := by rw [← hr]; have := tree_root_bd l 0; rw [HW.out.len] at this; omega
  rw [hT2] at HM
  rw [hr]
  clear hr hT2
  go_loopw [49] (fun jv wr => ∃ jx : Nat, jx ≤ Q ∧ jv = .int .i64 jx ∧ Ext w4 wr) (fun jv _ => Q - (intOf jv).toNat)
  case atStart => exact ⟨0, by omega, rfl, Ext.refl w4⟩
  case round =>
    obtain ⟨jx, hjx, rfl, hE4⟩ := hrel
    by_cases hjQ : jx < Q
    · have hj1 : (jx : Int) < Q := by omega
      obtain ⟨q, hq, uq, bq, oq, rfl, cq⟩ := (HQ.out.ext hE4).get (k := jx) hjQ
      clear hq
      have hW4 := HW.out.ext hE4
      have HM4 := Lib.hid (HM.out.ext hE4)
      have hE5 := hE.trans hE4
      go_wp2_with (fail)
      go_loopw [14, 15] (fun fv iv ws => ∃ (i f d : Nat), i ≤ mM ∧ f ≤ mM ∧ fv = .int .i64 f ∧ iv = .int .i64 i ∧ ws = wr.drewN d ∧ RowKit.Hid (From l q i f)) (fun _ iv _ => (intOf iv).toNat)
      case atStart => exact ⟨mM, 0, 0, by omega, by omega, rfl, rfl, rfl, Lib.hid (.inl ⟨rfl, fun j x h hx => by have := (List.getElem?_eq_some_iff.1 hx).1; rw [hW4.len] at this; omega⟩)⟩
      case round =>
        obtain ⟨i, f, d, hi, hf, rfl, rfl, rfl, hFr⟩ := hrel
        by_cases hi0 : i = 0
        · subst hi0
          have hfn := Lib.hid (from_num hFr.out)
          have hqe := Ext.draws wr d
          replace hW4 := hW4.ext hqe
          have HM5 := Lib.hid (HM4.out.ext hqe)
          replace hE5 := hE5.trans hqe
          have hE6 := hE4.trans hqe
          clear HM4 cq
          generalize wr.drewN d = w5 at hqe hW4 HM5 hE5 hE6 ⊢
          by_cases hf0 : f = 0
          · subst hf0
            have hall : RowKit.Hid (∀ x ∈ l, x ≠ q) := Lib.hid (fun x hx => by
              obtain ⟨j, hj⟩ := List.mem_iff_getElem?.1 hx
              rcases hFr.out with ⟨_, h⟩ | ⟨j', _, h, _⟩
              · have := h j x (Nat.zero_le _) hj; omega
              · omega)
            clear hFr
            as_aux_lemma =>
              go_wp2_with (fail)
              have c1 := find_any sk mM ck l r sM mM cM T2 q w5 (tab_ext HT.out hE5) hW4 HM5.out uq
              rw [HF.out q, (num_away hall.out)] at c1
              refine c1.mono ?_
              clear c1
              rintro e w6 ⟨rfl, hE7⟩
              replace hW4 := hW4.ext hE7
              replace HM5 := Lib.hid (HM5.out.ext hE7)
              replace hE5 := hE5.trans hE7
              replace hE6 := hE6.trans hE7
              clear hE7
              go_wp2_with (fail)
              have c1 := next_any sk mM ck l r sM mM cM T2 q w6 (tab_ext HT.out hE5) hW4 HM5.out uq
              rw [HN.out q, ← hfn.out] at c1
              refine c1.mono ?_
              clear c1
              rintro e w7 ⟨rfl, hE7⟩
              replace hW4 := hW4.ext hE7
              replace HM5 := Lib.hid (HM5.out.ext hE7)
              replace hE5 := hE5.trans hE7
              replace hE6 := hE6.trans hE7
              clear hE7
              go_wp2_with (fail)
              have c1 := path_any sk mM ck l r sM mM cM T2 q w7 (tab_ext HT.out hE5) hW4 HM5.out uq
              rw [HP.out q] at c1
              refine c1.mono ?_
              clear c1
              rintro e w8 ⟨sp, pl, cp, rfl, hpp, hE7⟩
              replace hW4 := hW4.ext hE7
              replace HM5 := Lib.hid (HM5.out.ext hE7)
              replace hE5 := hE5.trans hE7
              replace hE6 := hE6.trans hE7
              clear hE7
              have hway := Lib.hid (HY.out q)
              have hpb := path_bd q l.length l 0 rfl
              rw [hpp.len, hW4.len] at hpb
              have hpl := hpb.1
              have hpne : RowKit.Hid (pl = 0 ↔ mM = 0) := Lib.hid (by
                rw [← hpp.len, ← hW4.len, List.length_eq_zero_iff, List.length_eq_zero_iff]
                constructor
                · intro h
                  by_cases e : l = []
                  · exact e
                  · exact absurd h (path_ne e 0 q)
                · intro h; rw [h, path_nil])
              clear hpb hfn
              obtain ⟨P, hP⟩ : ∃ P, path l 0 q = P := ⟨_, rfl⟩
              rw [hP] at hway hpp
              obtain ⟨e0, z1, z2, z3, z4⟩ := zero_same hpne.out
              go_wp2_with (fail)
              clear z1 z2 z3 z4
              have HlP := Lib.hid hpp.len
              go_loopw [22, 23] (fun nv iv ws => ∃ (a : Int) (i5 d5 : Nat), i5 ≤ pl ∧ nv = .int .i64 a ∧ iv = .int .i64 i5 ∧ ws = w8.drewN d5 ∧ RowKit.Hid (On l T2 q P i5 a) ∧ I64 a) (fun _ iv _ => pl - (intOf iv).toNat)
              case atStart => exact ⟨r, 0, 0, by omega, rfl, rfl, rfl, Lib.hid (.inl (by rw [List.drop_zero]; exact hway.out)), by unfold I64; omega⟩
              case round =>
                obtain ⟨a, i5, d5, hi5, rfl, rfl, rfl, hOn0, ua⟩ := hrel
                by_cases hlt5 : i5 < pl
                · obtain ⟨x, hx, ux, bp, op, rfl, cx⟩ := hpp.get (k := i5) hlt5
                  have hw5 : Way l T2 q a (x :: P.drop (i5 + 1)) := by
                    rcases hOn0.out with h | ⟨h, _⟩
                    · rw [drop_cons hx] at h; exact h
                    · have := HlP.out; omega
                  obtain ⟨ex, ix, k5, ⟨y1, y2⟩, ex2, hk5, hy5, hA1, hA2, hA3⟩ := hw5
                  subst ex
                  subst ex2
                  have hix : ix < mM := by rw [← hW4.len]; exact (List.getElem?_eq_some_iff.1 hk5).1
                  obtain ⟨k6, hk6, uk6, bb, ob, e6, ck6⟩ := hW4.get (k := ix) hix
                  rw [hk5] at hk6
                  cases hk6
                  cases e6
                  obtain ⟨y6, hy6, uy6, bM, oM, rfl, cy1, cy2⟩ := HM5.out.get (k := ix) hix
                  rw [hy5] at hy6
                  cases hy6
                  simp only at cy1 cy2 hA1 hA2
                  obtain ⟨X, hX⟩ : ∃ X : Nat, RowKit.Hid (X = ix + 1) := ⟨_, Lib.hid rfl⟩
                  have eX : ((ix + 1 : Nat) : Int) = (X : Int) := by rw [hX.out]
                  rw [eX] at hx cx ua ux hOn0 ⊢
                  clear eX
                  have i1 : (ix : Int) < mM := by omega
                  have i2 : (i5 : Int) < pl := by omega
                  have i3 : IntKind.i64.wrap ((X : Int) - 1) = ix := by have := hX.out; rw [IntWalk.i64_in _ (by omega)]; omega
                  have i6 : decide ((X : Int) < 1) = false := decide_eq_false (by have := hX.out; omega)
                  have i7 : decide ((mM : Int) < X) = false := decide_eq_false (by have := hX.out; omega)
                  have j6 : decide (X < 1) = false := decide_eq_false (by have := hX.out; omega)
                  have j7 : decide (mM < X) = false := decide_eq_false (by have := hX.out; omega)
                  have j8 : (X == 0) = false := by have := hX.out; simp; omega
                  have i8 : pl ≤ 1048576 := by omega
                  rcases Int.lt_trichotomy q k5 with hlt6 | hlt6 | hlt6
                  · have t1 : decide (q < k5) = true := decide_eq_true hlt6
                    have t2 : (k5 == q) = false := by rw [beq_eq_false_iff_ne]; omega
                    have hOn : RowKit.Hid (On l T2 q P (i5 + 1) y1) := Lib.hid (.inl (hA1 hlt6))
                    clear hA1 hA2 hA3 hx hlt6
                    go_wp2_with (fail)
                    go_roundw
                    case rel => exact ⟨y1, i5 + 1, d5, by omega, rfl, by go_num, rfl, hOn, uy6.1⟩
                    case measure => simp [intOf]; omega
                  · have t1 : decide (q < k5) = false := decide_eq_false (by omega)
                    have t3 : decide (k5 < q) = false := decide_eq_false (by omega)
                    have t2 : (k5 == q) = true := by rw [beq_iff_eq]; exact hlt6.symm
                    have hlast5 : i5 + 1 = pl := by
                      have h1 := congrArg List.length (hA3 hlt6.symm)
                      rw [List.length_drop, HlP.out] at h1; simp at h1; omega
                    have t4 : decide ((i5 : Int) + 1 < pl) = false := decide_eq_false (by omega)
                    have t5 : decide (i5 + 1 < pl) = false := decide_eq_false (by omega)
                    have hOn : RowKit.Hid (On l T2 q P (i5 + 1) (X : Int)) := Lib.hid (.inr ⟨by rw [HlP.out]; exact hlast5, ix, by rw [hX.out], by rw [hlt6]; exact hk5⟩)
                    clear hA1 hA2 hA3 hx hlt6 hk5
                    go_wp2_with (fail)
                    go_roundw
                    case rel => exact ⟨(X : Int), i5 + 1, d5, by omega, rfl, by go_num, rfl, hOn, ua⟩
                    case measure => simp [intOf]; omega
                  · have t1 : decide (q < k5) = false := decide_eq_false (by omega)
                    have t3 : decide (k5 < q) = true := decide_eq_true hlt6
                    have t2 : (k5 == q) = false := by rw [beq_eq_false_iff_ne]; omega
                    have hOn : RowKit.Hid (On l T2 q P (i5 + 1) y2) := Lib.hid (.inl (hA2 hlt6))
                    clear hA1 hA2 hA3 hx hlt6
                    go_wp2_with (fail)
                    go_roundw
                    case rel => exact ⟨y2, i5 + 1, d5, by omega, rfl, by go_num, rfl, hOn, uy6.2⟩
                    case measure => simp [intOf]; omega
                · obtain rfl : i5 = pl := by omega
                  have ha0 : a = 0 := by
                    rcases hOn0.out with h | ⟨_, ix, _, hix⟩
                    · rw [List.drop_eq_nil_of_le (by rw [HlP.out]; exact Nat.le_refl _)] at h; exact h
                    · exact absurd rfl (hall.out _ (List.mem_of_getElem? hix))
                  subst ha0
                  by_cases hp0 : i5 = 0
                  · have t1 : decide ((0 : Int) < i5) = false := decide_eq_false (by omega)
                    have t2 : decide (0 < i5) = false := decide_eq_false (by omega)
                    have t3 : ¬ 0 < i5 := by omega
                    clear hp0
                    go_wp2_with (fail)
                    go_roundw
                    case rel => exact ⟨jx + 1, by omega, by go_num, hE6.drewN d5⟩
                    case measure => simp [intOf]; omega
                  · have t1 : decide ((0 : Int) < i5) = true := decide_eq_true (by omega)
                    have t2 : decide (0 < i5) = true := decide_eq_true (by omega)
                    have t3 : 0 < i5 := by omega
                    clear hp0
                    go_wp2_with (fail)
                    go_roundw
                    case rel => exact ⟨jx + 1, by omega, by go_num, hE6.drewN d5⟩
                    case measure => simp [intOf]; omega
          · obtain ⟨f1, rfl⟩ : ∃ f1, f = f1 + 1 := ⟨f - 1, by omega⟩
            have hf1 : (f1 : Int) < mM := by omega
            obtain ⟨y, hy, uy, bk, ok, rfl, cy⟩ := hW4.get (k := f1) (by omega)
            have hw1 : IntKind.i64.wrap ((f1 : Int) + 1 - 1) = f1 := by rw [IntWalk.i64_in _ (by omega)]; omega
            have hw2 : IntKind.i64.wrap (f1 : Int) = f1 := IntWalk.i64_in _ (by omega)
            by_cases hyq : y = q
            · subst hyq
              have hnum := Lib.hid (num_here HRi.out hy)
              have hlast := Lib.hid (path_last y l.length l 0 f1 rfl HRi.out hy)
              clear hFr hy
              as_aux_lemma =>
                go_wp2_with (fail)
                have c1 := find_any (some ⟨bk, ok, none⟩) mM ck l r sM mM cM T2 y w5 (tab_ext HT.out hE5) hW4 HM5.out uq
                rw [HF.out y, hnum.out.1] at c1
                refine c1.mono ?_
                clear c1
                rintro e w6 ⟨rfl, hE7⟩
                replace hW4 := hW4.ext hE7
                replace HM5 := Lib.hid (HM5.out.ext hE7)
                replace hE5 := hE5.trans hE7
                replace hE6 := hE6.trans hE7
                clear hE7
                go_wp2_with (fail)
                have c1 := next_any (some ⟨bk, ok, none⟩) mM ck l r sM mM cM T2 y w6 (tab_ext HT.out hE5) hW4 HM5.out uq
                rw [HN.out y, ← hfn.out] at c1
                refine c1.mono ?_
                clear c1
                rintro e w7 ⟨rfl, hE7⟩
                replace hW4 := hW4.ext hE7
                replace HM5 := Lib.hid (HM5.out.ext hE7)
                replace hE5 := hE5.trans hE7
                replace hE6 := hE6.trans hE7
                clear hE7
                go_wp2_with (fail)
                have c1 := path_any (some ⟨bk, ok, none⟩) mM ck l r sM mM cM T2 y w7 (tab_ext HT.out hE5) hW4 HM5.out uq
                rw [HP.out y] at c1
                refine c1.mono ?_
                clear c1
                rintro e w8 ⟨sp, pl, cp, rfl, hpp, hE7⟩
                replace hW4 := hW4.ext hE7
                replace HM5 := Lib.hid (HM5.out.ext hE7)
                replace hE5 := hE5.trans hE7
                replace hE6 := hE6.trans hE7
                clear hE7
                have hway := Lib.hid (HY.out y)
                have hpb := path_bd y l.length l 0 rfl
                rw [hpp.len, hW4.len] at hpb
                have hpl := hpb.1
                have hpne : RowKit.Hid (pl = 0 ↔ mM = 0) := Lib.hid (by
                  rw [← hpp.len, ← hW4.len, List.length_eq_zero_iff, List.length_eq_zero_iff]
                  constructor
                  · intro h
                    by_cases e : l = []
                    · exact e
                    · exact absurd h (path_ne e 0 y)
                  · intro h; rw [h, path_nil])
                clear hpb hfn
                obtain ⟨P, hP⟩ : ∃ P, path l 0 y = P := ⟨_, rfl⟩
                rw [hP] at hway hpp
                obtain ⟨e0, z1, z2, z3, z4⟩ := zero_same hpne.out
                go_wp2_with (fail)
                clear z1 z2 z3 z4
                have HlP := Lib.hid hpp.len
                go_loopw [22, 23] (fun nv iv ws => ∃ (a : Int) (i5 d5 : Nat), i5 ≤ pl ∧ nv = .int .i64 a ∧ iv = .int .i64 i5 ∧ ws = w8.drewN d5 ∧ RowKit.Hid (On l T2 y P i5 a) ∧ I64 a) (fun _ iv _ => pl - (intOf iv).toNat)
                case atStart => exact ⟨r, 0, 0, by omega, rfl, rfl, rfl, Lib.hid (.inl (by rw [List.drop_zero]; exact hway.out)), by unfold I64; omega⟩
                case round =>
                  obtain ⟨a, i5, d5, hi5, rfl, rfl, rfl, hOn0, ua⟩ := hrel
                  by_cases hlt5 : i5 < pl
                  · obtain ⟨x, hx, ux, bp, op, rfl, cx⟩ := hpp.get (k := i5) hlt5
                    have hw5 : Way l T2 y a (x :: P.drop (i5 + 1)) := by
                      rcases hOn0.out with h | ⟨h, _⟩
                      · rw [drop_cons hx] at h; exact h
                      · have := HlP.out; omega
                    obtain ⟨ex, ix, k5, ⟨y1, y2⟩, ex2, hk5, hy5, hA1, hA2, hA3⟩ := hw5
                    subst ex
                    subst ex2
                    have hix : ix < mM := by rw [← hW4.len]; exact (List.getElem?_eq_some_iff.1 hk5).1
                    obtain ⟨k6, hk6, uk6, bb, ob, e6, ck6⟩ := hW4.get (k := ix) hix
                    rw [hk5] at hk6
                    cases hk6
                    cases e6
                    obtain ⟨y6, hy6, uy6, bM, oM, rfl, cy1, cy2⟩ := HM5.out.get (k := ix) hix
                    rw [hy5] at hy6
                    cases hy6
                    simp only at cy1 cy2 hA1 hA2
                    obtain ⟨X, hX⟩ : ∃ X : Nat, RowKit.Hid (X = ix + 1) := ⟨_, Lib.hid rfl⟩
                    have eX : ((ix + 1 : Nat) : Int) = (X : Int) := by rw [hX.out]
                    rw [eX] at hx cx ua ux hOn0 ⊢
                    clear eX
                    have i1 : (ix : Int) < mM := by omega
                    have i2 : (i5 : Int) < pl := by omega
                    have i3 : IntKind.i64.wrap ((X : Int) - 1) = ix := by have := hX.out; rw [IntWalk.i64_in _ (by omega)]; omega
                    have i6 : decide ((X : Int) < 1) = false := decide_eq_false (by have := hX.out; omega)
                    have i7 : decide ((mM : Int) < X) = false := decide_eq_false (by have := hX.out; omega)
                    have j6 : decide (X < 1) = false := decide_eq_false (by have := hX.out; omega)
                    have j7 : decide (mM < X) = false := decide_eq_false (by have := hX.out; omega)
                    have j8 : (X == 0) = false := by have := hX.out; simp; omega
                    have i8 : pl ≤ 1048576 := by omega
                    rcases Int.lt_trichotomy y k5 with hlt6 | hlt6 | hlt6
                    · have t1 : decide (y < k5) = true := decide_eq_true hlt6
                      have t2 : (k5 == y) = false := by rw [beq_eq_false_iff_ne]; omega
                      have hOn : RowKit.Hid (On l T2 y P (i5 + 1) y1) := Lib.hid (.inl (hA1 hlt6))
                      clear hA1 hA2 hA3 hx hlt6
                      go_wp2_with (fail)
                      go_roundw
                      case rel => exact ⟨y1, i5 + 1, d5, by omega, rfl, by go_num, rfl, hOn, uy6.1⟩
                      case measure => simp [intOf]; omega
                    · have t1 : decide (y < k5) = false := decide_eq_false (by omega)
                      have t3 : decide (k5 < y) = false := decide_eq_false (by omega)
                      have t2 : (k5 == y) = true := by rw [beq_iff_eq]; exact hlt6.symm
                      have hlast5 : i5 + 1 = pl := by
                        have h1 := congrArg List.length (hA3 hlt6.symm)
                        rw [List.length_drop, HlP.out] at h1; simp at h1; omega
                      have t4 : decide ((i5 : Int) + 1 < pl) = false := decide_eq_false (by omega)
                      have t5 : decide (i5 + 1 < pl) = false := decide_eq_false (by omega)
                      have hOn : RowKit.Hid (On l T2 y P (i5 + 1) (X : Int)) := Lib.hid (.inr ⟨by rw [HlP.out]; exact hlast5, ix, by rw [hX.out], by rw [hlt6]; exact hk5⟩)
                      clear hA1 hA2 hA3 hx hlt6 hk5
                      go_wp2_with (fail)
                      go_roundw
                      case rel => exact ⟨(X : Int), i5 + 1, d5, by omega, rfl, by go_num, rfl, hOn, ua⟩
                      case measure => simp [intOf]; omega
                    · have t1 : decide (y < k5) = false := decide_eq_false (by omega)
                      have t3 : decide (k5 < y) = true := decide_eq_true hlt6
                      have t2 : (k5 == y) = false := by rw [beq_eq_false_iff_ne]; omega
                      have hOn : RowKit.Hid (On l T2 y P (i5 + 1) y2) := Lib.hid (.inl (hA2 hlt6))
                      clear hA1 hA2 hA3 hx hlt6
                      go_wp2_with (fail)
                      go_roundw
                      case rel => exact ⟨y2, i5 + 1, d5, by omega, rfl, by go_num, rfl, hOn, uy6.2⟩
                      case measure => simp [intOf]; omega
                  · obtain rfl : i5 = pl := by omega
                    obtain ⟨p1, hp1⟩ : ∃ p1, RowKit.Hid (i5 = p1 + 1) := ⟨i5 - 1, Lib.hid (by
                      have := hpne.out
                      by_cases h : i5 = 0
                      · have := this.1 h; omega
                      · omega)⟩
                    obtain ⟨v, hv, uv, bp, op, rfl, cv⟩ := hpp.get (k := p1) (by have := hp1.out; omega)
                    have hvl : v = ((0 + f1 + 1 : Nat) : Int) := by
                      have h1 := hlast.out
                      rw [hP, List.getLast?_eq_getElem?, HlP.out, hp1.out, show p1 + 1 - 1 = p1 by omega, hv] at h1
                      exact Option.some.inj h1
                    rw [hvl, show ((0 + f1 + 1 : Nat) : Int) = (f1 : Int) + 1 by omega] at cv
                    clear hvl hv uv
                    have t1 : decide ((0 : Int) < i5) = true := decide_eq_true (by have := hp1.out; omega)
                    have t2 : decide (0 < i5) = true := decide_eq_true (by have := hp1.out; omega)
                    have t3 : (i5 == 0) = false := by have := hp1.out; simp; omega
                    have t4 : ((i5 : Int) == 0) = false := by have := hp1.out; rw [beq_eq_false_iff_ne]; omega
                    have t5 : IntKind.i64.wrap ((i5 : Int) - 1) = p1 := by have := hp1.out; rw [IntWalk.i64_in _ (by omega)]; omega
                    have t6 : (p1 : Int) < i5 := by have := hp1.out; omega
                    go_wp2_with (fail)
                    go_roundw
                    case rel => exact ⟨jx + 1, by omega, by go_num, hE6.drewN d5⟩
                    case measure => simp [intOf]; omega
            · have hall : RowKit.Hid (∀ x ∈ l, x ≠ q) := Lib.hid (fun x hx e => by
                obtain ⟨j, hj⟩ := List.mem_iff_getElem?.1 hx
                rcases hFr.out with ⟨h, _⟩ | ⟨j', y', h1, _, h2, h3, h4⟩
                · omega
                · obtain rfl : f1 = j' := by omega
                  rw [hy] at h2; cases h2
                  rcases Nat.lt_trichotomy j f1 with c | c | c
                  · have := h4 j x (Nat.zero_le _) c hj; omega
                  · subst c; rw [hy] at hj; cases hj; exact hyq e
                  · have := HRi.out.lt hy hj c; omega)
              have hb5 : (y == q) = false := by simpa using hyq
              clear hFr hy hyq
              as_aux_lemma =>
                go_wp2_with (fail)
                have c1 := find_any (some ⟨bk, ok, none⟩) mM ck l r sM mM cM T2 q w5 (tab_ext HT.out hE5) hW4 HM5.out uq
                rw [HF.out q, (num_away hall.out)] at c1
                refine c1.mono ?_
                clear c1
                rintro e w6 ⟨rfl, hE7⟩
                replace hW4 := hW4.ext hE7
                replace HM5 := Lib.hid (HM5.out.ext hE7)
                replace hE5 := hE5.trans hE7
                replace hE6 := hE6.trans hE7
                clear hE7
                go_wp2_with (fail)
                have c1 := next_any (some ⟨bk, ok, none⟩) mM ck l r sM mM cM T2 q w6 (tab_ext HT.out hE5) hW4 HM5.out uq
                rw [HN.out q, ← hfn.out] at c1
                refine c1.mono ?_
                clear c1
                rintro e w7 ⟨rfl, hE7⟩
                replace hW4 := hW4.ext hE7
                replace HM5 := Lib.hid (HM5.out.ext hE7)
                replace hE5 := hE5.trans hE7
                replace hE6 := hE6.trans hE7
                clear hE7
                go_wp2_with (fail)
                have c1 := path_any (some ⟨bk, ok, none⟩) mM ck l r sM mM cM T2 q w7 (tab_ext HT.out hE5) hW4 HM5.out uq
                rw [HP.out q] at c1
                refine c1.mono ?_
                clear c1
                rintro e w8 ⟨sp, pl, cp, rfl, hpp, hE7⟩
                replace hW4 := hW4.ext hE7
                replace HM5 := Lib.hid (HM5.out.ext hE7)
                replace hE5 := hE5.trans hE7
                replace hE6 := hE6.trans hE7
                clear hE7
                have hway := Lib.hid (HY.out q)
                have hpb := path_bd q l.length l 0 rfl
                rw [hpp.len, hW4.len] at hpb
                have hpl := hpb.1
                have hpne : RowKit.Hid (pl = 0 ↔ mM = 0) := Lib.hid (by
                  rw [← hpp.len, ← hW4.len, List.length_eq_zero_iff, List.length_eq_zero_iff]
                  constructor
                  · intro h
                    by_cases e : l = []
                    · exact e
                    · exact absurd h (path_ne e 0 q)
                  · intro h; rw [h, path_nil])
                clear hpb hfn
                obtain ⟨P, hP⟩ : ∃ P, path l 0 q = P := ⟨_, rfl⟩
                rw [hP] at hway hpp
                obtain ⟨e0, z1, z2, z3, z4⟩ := zero_same hpne.out
                go_wp2_with (fail)
                clear z1 z2 z3 z4
                have HlP := Lib.hid hpp.len
                go_loopw [22, 23] (fun nv iv ws => ∃ (a : Int) (i5 d5 : Nat), i5 ≤ pl ∧ nv = .int .i64 a ∧ iv = .int .i64 i5 ∧ ws = w8.drewN d5 ∧ RowKit.Hid (On l T2 q P i5 a) ∧ I64 a) (fun _ iv _ => pl - (intOf iv).toNat)
                case atStart => exact ⟨r, 0, 0, by omega, rfl, rfl, rfl, Lib.hid (.inl (by rw [List.drop_zero]; exact hway.out)), by unfold I64; omega⟩
                case round =>
                  obtain ⟨a, i5, d5, hi5, rfl, rfl, rfl, hOn0, ua⟩ := hrel
                  by_cases hlt5 : i5 < pl
                  · obtain ⟨x, hx, ux, bp, op, rfl, cx⟩ := hpp.get (k := i5) hlt5
                    have hw5 : Way l T2 q a (x :: P.drop (i5 + 1)) := by
                      rcases hOn0.out with h | ⟨h, _⟩
                      · rw [drop_cons hx] at h; exact h
                      · have := HlP.out; omega
                    obtain ⟨ex, ix, k5, ⟨y1, y2⟩, ex2, hk5, hy5, hA1, hA2, hA3⟩ := hw5
                    subst ex
                    subst ex2
                    have hix : ix < mM := by rw [← hW4.len]; exact (List.getElem?_eq_some_iff.1 hk5).1
                    obtain ⟨k6, hk6, uk6, bb, ob, e6, ck6⟩ := hW4.get (k := ix) hix
                    rw [hk5] at hk6
                    cases hk6
                    cases e6
                    obtain ⟨y6, hy6, uy6, bM, oM, rfl, cy1, cy2⟩ := HM5.out.get (k := ix) hix
                    rw [hy5] at hy6
                    cases hy6
                    simp only at cy1 cy2 hA1 hA2
                    obtain ⟨X, hX⟩ : ∃ X : Nat, RowKit.Hid (X = ix + 1) := ⟨_, Lib.hid rfl⟩
                    have eX : ((ix + 1 : Nat) : Int) = (X : Int) := by rw [hX.out]
                    rw [eX] at hx cx ua ux hOn0 ⊢
                    clear eX
                    have i1 : (ix : Int) < mM := by omega
                    have i2 : (i5 : Int) < pl := by omega
                    have i3 : IntKind.i64.wrap ((X : Int) - 1) = ix := by have := hX.out; rw [IntWalk.i64_in _ (by omega)]; omega
                    have i6 : decide ((X : Int) < 1) = false := decide_eq_false (by have := hX.out; omega)
                    have i7 : decide ((mM : Int) < X) = false := decide_eq_false (by have := hX.out; omega)
                    have j6 : decide (X < 1) = false := decide_eq_false (by have := hX.out; omega)
                    have j7 : decide (mM < X) = false := decide_eq_false (by have := hX.out; omega)
                    have j8 : (X == 0) = false := by have := hX.out; simp; omega
                    have i8 : pl ≤ 1048576 := by omega
                    rcases Int.lt_trichotomy q k5 with hlt6 | hlt6 | hlt6
                    · have t1 : decide (q < k5) = true := decide_eq_true hlt6
                      have t2 : (k5 == q) = false := by rw [beq_eq_false_iff_ne]; omega
                      have hOn : RowKit.Hid (On l T2 q P (i5 + 1) y1) := Lib.hid (.inl (hA1 hlt6))
                      clear hA1 hA2 hA3 hx hlt6
                      go_wp2_with (fail)
                      go_roundw
                      case rel => exact ⟨y1, i5 + 1, d5, by omega, rfl, by go_num, rfl, hOn, uy6.1⟩
                      case measure => simp [intOf]; omega
                    · have t1 : decide (q < k5) = false := decide_eq_false (by omega)
                      have t3 : decide (k5 < q) = false := decide_eq_false (by omega)
                      have t2 : (k5 == q) = true := by rw [beq_iff_eq]; exact hlt6.symm
                      have hlast5 : i5 + 1 = pl := by
                        have h1 := congrArg List.length (hA3 hlt6.symm)
                        rw [List.length_drop, HlP.out] at h1; simp at h1; omega
                      have t4 : decide ((i5 : Int) + 1 < pl) = false := decide_eq_false (by omega)
                      have t5 : decide (i5 + 1 < pl) = false := decide_eq_false (by omega)
                      have hOn : RowKit.Hid (On l T2 q P (i5 + 1) (X : Int)) := Lib.hid (.inr ⟨by rw [HlP.out]; exact hlast5, ix, by rw [hX.out], by rw [hlt6]; exact hk5⟩)
                      clear hA1 hA2 hA3 hx hlt6 hk5
                      go_wp2_with (fail)
                      go_roundw
                      case rel => exact ⟨(X : Int), i5 + 1, d5, by omega, rfl, by go_num, rfl, hOn, ua⟩
                      case measure => simp [intOf]; omega
                    · have t1 : decide (q < k5) = false := decide_eq_false (by omega)
                      have t3 : decide (k5 < q) = true := decide_eq_true hlt6
                      have t2 : (k5 == q) = false := by rw [beq_eq_false_iff_ne]; omega
                      have hOn : RowKit.Hid (On l T2 q P (i5 + 1) y2) := Lib.hid (.inl (hA2 hlt6))
                      clear hA1 hA2 hA3 hx hlt6
                      go_wp2_with (fail)
                      go_roundw
                      case rel => exact ⟨y2, i5 + 1, d5, by omega, rfl, by go_num, rfl, hOn, uy6.2⟩
                      case measure => simp [intOf]; omega
                  · obtain rfl : i5 = pl := by omega
                    have ha0 : a = 0 := by
                      rcases hOn0.out with h | ⟨_, ix, _, hix⟩
                      · rw [List.drop_eq_nil_of_le (by rw [HlP.out]; exact Nat.le_refl _)] at h; exact h
                      · exact absurd rfl (hall.out _ (List.mem_of_getElem? hix))
                    subst ha0
                    by_cases hp0 : i5 = 0
                    · have t1 : decide ((0 : Int) < i5) = false := decide_eq_false (by omega)
                      have t2 : decide (0 < i5) = false := decide_eq_false (by omega)
                      have t3 : ¬ 0 < i5 := by omega
                      clear hp0
                      go_wp2_with (fail)
                      go_roundw
                      case rel => exact ⟨jx + 1, by omega, by go_num, hE6.drewN d5⟩
                      case measure => simp [intOf]; omega
                    · have t1 : decide ((0 : Int) < i5) = true := decide_eq_true (by omega)
                      have t2 : decide (0 < i5) = true := decide_eq_true (by omega)
                      have t3 : 0 < i5 := by omega
                      clear hp0
                      go_wp2_with (fail)
                      go_roundw
                      case rel => exact ⟨jx + 1, by omega, by go_num, hE6.drewN d5⟩
                      case measure => simp [intOf]; omega
        · obtain ⟨i1, rfl⟩ : ∃ i1, i = i1 + 1 := ⟨i - 1, by omega⟩
          have hi1 : (i1 : Int) < mM := by omega
          obtain ⟨x, hx, ux, bk, ok, rfl, cx⟩ := hW4.get (k := i1) (by omega)
          have hw1 : IntKind.i64.wrap ((i1 : Int) + 1 - 1) = i1 := by rw [IntWalk.i64_in _ (by omega)]; omega
          have hw2 : IntKind.i64.wrap (i1 : Int) = i1 := IntWalk.i64_in _ (by omega)
          have hp1 : (0 : Int) < (i1 : Int) + 1 := by omega
          clear hi0
          by_cases hxq : q ≤ x
          · have hN1 := Lib.hid (from_hit hx hxq)
            have hd1 : decide (q ≤ x) = true := decide_eq_true hxq
            clear hx
            go_wp2_with (fail)
            go_roundw
            case rel => exact ⟨i1, i1 + 1, d, by omega, by omega, by go_num, by rfl, rfl, hN1⟩
            case measure => simp [intOf]
          · have hN1 := Lib.hid (from_less hFr.out hx hxq)
            have hd1 : decide (q ≤ x) = false := decide_eq_false hxq
            clear hx
            go_wp2_with (fail)
            go_roundw
            case rel => exact ⟨i1, f, d, by omega, by omega, rfl, by rfl, rfl, hN1⟩
            case measure => simp [intOf]
    · obtain rfl : jx = Q := by omega
      go_wp2_with (fail)
      go_ret
      exact ⟨rfl, hE.trans hE4⟩

end Go.Proofs.YtnmeakkehonnmaaDoor.Trp
