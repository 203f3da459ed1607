/-
  What the statements' own good returns: whether links are the tree. Condition: the keys and the links are there, as many, and no two keys go at once.
-/
import Derived.Test.YtnmeakkehonnmaaDoorTrpRef
namespace Go.Proofs.YtnmeakkehonnmaaDoor.Trp
open Go.RowKit (Below intOf)

/-- What a link names does not go before p. -/
def Okay (l : List Int) (p z : Int) : Prop := ∀ (j : Nat) m, z = ((j + 1 : Nat) : Int) → l[j]? = some m → ¬ mixed p < mixed m
theorem under_okay {l : List Int} {F T : Nat} {p z : Int} {M : List Pr} (hT : T ≤ l.length) (h : (z, M) = tree (seg l F T) F) : Under p (seg l F T) ↔ Okay l p z := by
  have hz : z = (tree (seg l F T) F).1 := congrArg Prod.fst h
  rcases tree_root (seg l F T) F with ⟨e, hr⟩ | ⟨hne, hr⟩
  · constructor
    · intro _ j m hj; omega
    · intro _ m hm hne; exact absurd e hne
  · have ht := top_lt hne
    rw [seg_len hT] at ht
    constructor
    · intro hu j m hj hm
      have : j = F + top (seg l F T) := by omega
      subst this
      have := hu m (by rw [seg_get (by omega)]; exact hm) hne
      omega
    · intro ho m hm _
      rw [seg_get (by omega)] at hm
      have := ho _ m (by rw [hz, hr]) hm
      omega
theorem seg_split {α : Type} {L : List α} {F T i : Nat} {y : α} (hi : F + i < T) (hy : L[F + i]? = some y) : seg L F T = seg L F (F + i) ++ y :: seg L (F + i + 1) T := by
  have hy2 : (seg L F T)[i]? = some y := by rw [seg_get hi]; exact hy
  have := split_at hy2
  rw [seg_take (by omega), seg_drop, show F + (i + 1) = F + i + 1 by omega] at this
  exact this
theorem good_all {l : List Int} {L : List Pr} {F T i : Nat} {p : Int} {y : Pr} (hA : Apart (seg l F T)) (hi : F + i < T) (hT : T ≤ l.length) (hTL : T ≤ L.length) (hp : l[F + i]? = some p) (hy : L[F + i]? = some y) :
    ((((F + i + 1 : Nat) : Int), seg L F T) = tree (seg l F T) F) ↔ (Okay l p y.1 ∧ Okay l p y.2 ∧ (y.1, seg L F (F + i)) = tree (seg l F (F + i)) F ∧ (y.2, seg L (F + i + 1) T) = tree (seg l (F + i + 1) T) (F + i + 1)) := by
  have hp2 : (seg l F T)[i]? = some p := by rw [seg_get hi]; exact hp
  have hs := good_step hA hp2 F (a := y.1) (b := y.2) (L := seg L F (F + i)) (M := seg L (F + i + 1) T) (by rw [seg_len (by omega)]; omega)
  rw [seg_take (by omega), seg_drop, show F + (i + 1) = F + i + 1 by omega] at hs
  have e : ((y.1, y.2) : Pr) = y := rfl
  rw [e, ← seg_split hi hy] at hs
  rw [hs]
  constructor
  · rintro ⟨h1, h2, h3, h4⟩
    exact ⟨(under_okay (by omega) h3).1 h1, (under_okay hT h4).1 h2, h3, h4⟩
  · rintro ⟨h1, h2, h3, h4⟩
    exact ⟨(under_okay (by omega) h3).2 h1, (under_okay hT h4).2 h2, h3, h4⟩

/-- Is what hangs at z the tree of the keys from one place to another one? -/
noncomputable def goodS (l : List Int) (L : List Pr) (z : Int) (F T : Nat) : Bool := decide ((z, seg L F T) = tree (seg l F T) F)
theorem good_out {l : List Int} {L : List Pr} {F T : Nat} {z : Int} (hlt : F < T) (hT : T ≤ l.length) (h : z < F + 1 ∨ (T : Int) < z) : goodS l L z F T = false := by
  unfold goodS
  refine decide_eq_false fun e => ?_
  have hz : z = (tree (seg l F T) F).1 := congrArg Prod.fst e
  rcases tree_root (seg l F T) F with ⟨e, hr⟩ | ⟨hne, hr⟩
  · have := seg_len (F := F) hT; rw [e] at this; simp at this; omega
  · have ht := top_lt hne
    rw [seg_len hT] at ht
    omega

set_option maxHeartbeats 8000000 in
set_option maxRecDepth 100000 in
theorem good_any : ∀ (d : Nat) (s : Option Addr) (n c : Nat) (l : List Int) (sl : Option Addr) (cl : Nat) (L : List Pr) (z : Int) (F T : Nat) (w : World), WS w s n c l → LS w sl n cl L → I64 z → T ≤ n → F ≤ T → T - F = d → Apart l →
    Calls Tryd.prog 23 #[.slice s n c, .slice sl n cl, .int .i64 z, .int .i64 ((F : Int) + 1), .int .i64 T] w fun e w' => e = .returned (.bool (goodS l L z F T)) ∧ Ext w w' := by
  intro d
  induction d using Nat.strongRecOn with
  | ind d ih =>
    intro s n c l sl cl L z F T w hW hL hz hT hF hd hA
    have hn := hW.le
    have HW := Lib.hid hW
    have HL := Lib.hid hL
    have HD := Lib.hid hd
    have HA := Lib.hid hA
    clear hW hL hd hA
    by_cases h0 : F = T
    · subst h0
      have hr : RowKit.Hid ((z == 0) = goodS l L z F F) := Lib.hid (by
        unfold goodS; rw [seg_nil (Nat.le_refl F), seg_nil (Nat.le_refl F), tree_nil]
        by_cases h : z = 0 <;> simp [h])
      go_enter Tryd.func23, Tryd.ntmps23
      go_wp2
      go_ret
      exact ⟨ret_bool hr.out, Ext.refl w⟩
    · have hlt : F < T := by omega
      have hft : ¬ (T : Int) < F + 1 := by omega
      have hdf : decide ((T : Int) < F + 1) = false := decide_eq_false hft
      clear h0
      by_cases h1 : z < (F : Int) + 1
      · have hf : RowKit.Hid (goodS l L z F T = false) := Lib.hid (good_out hlt (by rw [HW.out.len]; exact hT) (.inl h1))
        have hd1 : decide (z < (F : Int) + 1) = true := decide_eq_true h1
        go_enter Tryd.func23, Tryd.ntmps23
        go_wp2
        go_ret
        exact ⟨ret_bool hf.out.symm, Ext.refl w⟩
      · by_cases h2 : (T : Int) < z
        · have hf : RowKit.Hid (goodS l L z F T = false) := Lib.hid (good_out hlt (by rw [HW.out.len]; exact hT) (.inr h2))
          have hd1 : decide (z < (F : Int) + 1) = false := decide_eq_false h1
          have hd2 : decide ((T : Int) < z) = true := decide_eq_true h2
          go_enter Tryd.func23, Tryd.ntmps23
          go_wp2
          go_ret
          exact ⟨ret_bool hf.out.symm, Ext.refl w⟩
        · obtain ⟨Z, rfl⟩ : ∃ Z : Nat, z = (Z : Int) := ⟨z.toNat, by omega⟩
          obtain ⟨i, hiZ⟩ : ∃ i, RowKit.Hid (Z = F + i + 1) := ⟨Z - F - 1, Lib.hid (by omega)⟩
          obtain ⟨a0, ha0⟩ : ∃ a0, RowKit.Hid (F + i = a0) := ⟨_, Lib.hid rfl⟩
          have hi : a0 < T := by have := hiZ.out; have := ha0.out; omega
          have e1 : decide ((Z : Int) < (F : Int) + 1) = false := decide_eq_false h1
          have e2 : decide ((Z : Int) ≤ F) = false := decide_eq_false (by omega)
          have e3 : decide (Z ≤ F) = false := decide_eq_false (by omega)
          have e4 : decide ((T : Int) < Z) = false := decide_eq_false h2
          have e5 : decide (T < Z) = false := decide_eq_false (by omega)
          have hw1 : IntKind.i64.wrap ((Z : Int) - 1) = a0 := by have := hiZ.out; have := ha0.out; rw [IntWalk.i64_in _ (by omega)]; omega
          have han : (a0 : Int) < n := by omega
          obtain ⟨p, hp, up, b, o, rfl, cp⟩ := HW.out.get (k := a0) (by omega)
          obtain ⟨⟨y1, y2⟩, hy, uy, b2, o2, rfl, cy1, cy2⟩ := HL.out.get (k := a0) (by omega)
          have hall : RowKit.Hid (goodS l L Z F T = true ↔ (Okay l p y1 ∧ Okay l p y2 ∧ goodS l L y1 F a0 = true ∧ goodS l L y2 Z T = true)) := Lib.hid (by
            have hn1 := HW.out.len
            have hn2 := HL.out.len
            have hz := hiZ.out
            have ha := ha0.out
            subst ha
            unfold goodS
            rw [decide_eq_true_iff, decide_eq_true_iff, decide_eq_true_iff, hz]
            exact good_all (List.Pairwise.sublist ((List.drop_sublist _ _).trans (List.take_sublist _ _)) HA.out) hi (by omega) (by omega) hp hy)
          have hZn : Z ≤ 1048576 := by omega
          clear hp hy h1 h2
          go_enter Tryd.func23, Tryd.ntmps23
          go_wp2_with (fail)
          go_loopw [11] (fun iv wr => ∃ q : Nat, wr = w.drewN q ∧ (iv = .int .i64 0 ∨ (iv = .int .i64 1 ∧ RowKit.Hid (Okay l p y1)) ∨ (iv = .int .i64 2 ∧ RowKit.Hid (Okay l p y1) ∧ RowKit.Hid (Okay l p y2)))) (fun iv _ => (2 - intOf iv).toNat)
          case atStart => exact ⟨0, rfl, .inl rfl⟩
          case round =>
            obtain ⟨q, rfl, hrel⟩ := hrel
            rcases hrel with rfl | ⟨rfl, ok1⟩ | ⟨rfl, ok1, ok2⟩
            · by_cases v1 : y1 < 1
              · have okN : RowKit.Hid (Okay l p y1) := Lib.hid (fun j m hj => by omega)
                have f1 : decide (1 ≤ y1) = false := decide_eq_false (by omega)
                have f2 : ¬ 1 ≤ y1 := by omega
                go_wp2_with (fail)
                go_quiet (fail)
                go_wp2_with (fail)
                go_roundw
                case rel => exact ⟨_, rfl, .inr (.inl ⟨rfl, okN⟩)⟩
                case measure => simp [intOf]
              · by_cases v2 : (n : Int) < y1
                · have okN : RowKit.Hid (Okay l p y1) := Lib.hid (fun j m hj hm => by
                    have := (List.getElem?_eq_some_iff.1 hm).1; rw [HW.out.len] at this; omega)
                  have f1 : decide (1 ≤ y1) = true := decide_eq_true (by omega)
                  have f2 : decide (y1 ≤ (n : Int)) = false := decide_eq_false (by omega)
                  have f3 : ¬ y1 ≤ (n : Int) := by omega
                  go_wp2_with (fail)
                  go_quiet (fail)
                  go_wp2_with (fail)
                  go_roundw
                  case rel => exact ⟨_, rfl, .inr (.inl ⟨rfl, okN⟩)⟩
                  case measure => simp [intOf]
                · obtain ⟨V, hV⟩ : ∃ V : Nat, RowKit.Hid (y1 = ((V + 1 : Nat) : Int)) := ⟨(y1 - 1).toNat, Lib.hid (by omega)⟩
                  have hVn : (V : Int) < n := by have := hV.out; omega
                  have f1 : decide (1 ≤ y1) = true := decide_eq_true (by omega)
                  have f2 : decide (y1 ≤ (n : Int)) = true := decide_eq_true (by omega)
                  have f3 : y1 ≤ (n : Int) := by omega
                  have f4 : 1 ≤ y1 := by omega
                  have hw3 : IntKind.i64.wrap (y1 - 1) = V := by have := hV.out; rw [IntWalk.i64_in _ (by omega)]; omega
                  obtain ⟨m, hm, um, b3, o3, e3', cm⟩ := HW.out.get (k := V) (by omega)
                  cases e3'
                  by_cases hb : mixed p < mixed m
                  · have hf : RowKit.Hid (goodS l L Z F T = false) := Lib.hid (by
                      cases hg : goodS l L Z F T with
                      | false => rfl
                      | true => exact absurd hb ((hall.out.1 hg).1 V m hV.out hm))
                    clear hm v1 v2
                    go_wp2_with (fail)
                    go_quiet ((go_at_call 25; exact rbefore_quiet _ _ _ _ _ um up))
                    go_wp2_with (fail)
                    go_ret
                    exact ⟨ret_bool hf.out.symm, (Ext.draws w q).drewN nq⟩
                  · have okN : RowKit.Hid (Okay l p y1) := Lib.hid (fun j m' hj hm' => by
                      have : j = V := by have := hV.out; omega
                      subst this
                      rw [hm] at hm'; cases hm'; exact hb)
                    have hbi := Int.not_lt.1 hb
                    clear hm v1 v2
                    go_wp2_with (fail)
                    go_quiet ((go_at_call 25; exact rbefore_quiet _ _ _ _ _ um up))
                    go_wp2_with (fail)
                    go_roundw
                    case rel => exact ⟨_, rfl, .inr (.inl ⟨rfl, okN⟩)⟩
                    case measure => simp [intOf]
            · by_cases v1 : y2 < 1
              · have okN : RowKit.Hid (Okay l p y2) := Lib.hid (fun j m hj => by omega)
                have f1 : decide (1 ≤ y2) = false := decide_eq_false (by omega)
                have f2 : ¬ 1 ≤ y2 := by omega
                go_wp2_with (fail)
                go_quiet (fail)
                go_wp2_with (fail)
                go_roundw
                case rel => exact ⟨_, rfl, .inr (.inr ⟨rfl, ok1, okN⟩)⟩
                case measure => simp [intOf]
              · by_cases v2 : (n : Int) < y2
                · have okN : RowKit.Hid (Okay l p y2) := Lib.hid (fun j m hj hm => by
                    have := (List.getElem?_eq_some_iff.1 hm).1; rw [HW.out.len] at this; omega)
                  have f1 : decide (1 ≤ y2) = true := decide_eq_true (by omega)
                  have f2 : decide (y2 ≤ (n : Int)) = false := decide_eq_false (by omega)
                  have f3 : ¬ y2 ≤ (n : Int) := by omega
                  go_wp2_with (fail)
                  go_quiet (fail)
                  go_wp2_with (fail)
                  go_roundw
                  case rel => exact ⟨_, rfl, .inr (.inr ⟨rfl, ok1, okN⟩)⟩
                  case measure => simp [intOf]
                · obtain ⟨V, hV⟩ : ∃ V : Nat, RowKit.Hid (y2 = ((V + 1 : Nat) : Int)) := ⟨(y2 - 1).toNat, Lib.hid (by omega)⟩
                  have hVn : (V : Int) < n := by have := hV.out; omega
                  have f1 : decide (1 ≤ y2) = true := decide_eq_true (by omega)
                  have f2 : decide (y2 ≤ (n : Int)) = true := decide_eq_true (by omega)
                  have f3 : y2 ≤ (n : Int) := by omega
                  have f4 : 1 ≤ y2 := by omega
                  have hw3 : IntKind.i64.wrap (y2 - 1) = V := by have := hV.out; rw [IntWalk.i64_in _ (by omega)]; omega
                  obtain ⟨m, hm, um, b3, o3, e3', cm⟩ := HW.out.get (k := V) (by omega)
                  cases e3'
                  by_cases hb : mixed p < mixed m
                  · have hf : RowKit.Hid (goodS l L Z F T = false) := Lib.hid (by
                      cases hg : goodS l L Z F T with
                      | false => rfl
                      | true => exact absurd hb ((hall.out.1 hg).2.1 V m hV.out hm))
                    clear hm v1 v2
                    go_wp2_with (fail)
                    go_quiet ((go_at_call 25; exact rbefore_quiet _ _ _ _ _ um up))
                    go_wp2_with (fail)
                    go_ret
                    exact ⟨ret_bool hf.out.symm, (Ext.draws w q).drewN nq⟩
                  · have okN : RowKit.Hid (Okay l p y2) := Lib.hid (fun j m' hj hm' => by
                      have : j = V := by have := hV.out; omega
                      subst this
                      rw [hm] at hm'; cases hm'; exact hb)
                    have hbi := Int.not_lt.1 hb
                    clear hm v1 v2
                    go_wp2_with (fail)
                    go_quiet ((go_at_call 25; exact rbefore_quiet _ _ _ _ _ um up))
                    go_wp2_with (fail)
                    go_roundw
                    case rel => exact ⟨_, rfl, .inr (.inr ⟨rfl, ok1, okN⟩)⟩
                    case measure => simp [intOf]
            · have hqe := Ext.draws w q
              have HW2 := Lib.hid (HW.out.ext hqe)
              have HL2 := Lib.hid (HL.out.ext hqe)
              have d1 := hqe.cell cy1
              have d2 := hqe.cell cy2
              clear HW HL cy1 cy2 cp
              generalize w.drewN q = wq at hqe HW2 HL2 d1 d2 ⊢
              have c1 := ih (a0 - F) (by have := HD.out; have := hiZ.out; have := ha0.out; omega) (some ⟨b, o, none⟩) n c l (some ⟨b2, o2, none⟩) cl L y1 F a0 wq HW2.out HL2.out uy.1 (by omega) (by have := ha0.out; omega) rfl HA.out
              have hf1 : RowKit.Hid (goodS l L y1 F a0 = false → goodS l L Z F T = false) := Lib.hid (fun h => by
                cases hg : goodS l L Z F T with
                | false => rfl
                | true => have := (hall.out.1 hg).2.2.1; rw [h] at this; cases this)
              have hf2 : RowKit.Hid (goodS l L y1 F a0 = true → goodS l L y2 Z T = goodS l L Z F T) := Lib.hid (fun h => by
                cases hg : goodS l L Z F T with
                | false =>
                  cases hg2 : goodS l L y2 Z T with
                  | false => rfl
                  | true => have := hall.out.2 ⟨ok1.out, ok2.out, h, hg2⟩; rw [hg] at this; cases this
                | true => exact (hall.out.1 hg).2.2.2)
              obtain ⟨g1, hg1⟩ : ∃ g1, RowKit.Hid (goodS l L y1 F a0 = g1) := ⟨_, Lib.hid rfl⟩
              rw [hg1.out] at c1
              cases g1 with
              | false =>
                have hz := Lib.hid (hf1.out hg1.out)
                go_wp2_with (fail)
                refine c1.mono ?_
                rintro e w1 ⟨rfl, hE1⟩
                go_wp2_with (fail)
                go_ret
                exact ⟨ret_bool hz.out.symm, hqe.trans hE1⟩
              | true =>
                have hz := Lib.hid (hf2.out hg1.out)
                go_wp2_with (fail)
                refine c1.mono ?_
                rintro e w1 ⟨rfl, hE1⟩
                have HW3 := HW2.out.ext hE1
                have HL3 := HL2.out.ext hE1
                replace d2 := hE1.cell d2
                clear d1 c1
                go_wp2_with (fail)
                refine (ih (T - Z) (by have := HD.out; have := hiZ.out; omega) (some ⟨b, o, none⟩) n c l (some ⟨b2, o2, none⟩) cl L y2 Z T w1 HW3 HL3 uy.2 hT (by have := hiZ.out; have := ha0.out; omega) rfl HA.out).mono ?_
                rintro e w2 ⟨rfl, hE2⟩
                go_wp2_with (fail)
                go_ret
                exact ⟨ret_bool hz.out, hqe.trans (hE1.trans hE2)⟩

end Go.Proofs.YtnmeakkehonnmaaDoor.Trp
