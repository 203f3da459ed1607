/-
  Parts of a proof, one behind the other: LawKey, AutCb, LawOp, LawTs. Each says its own conditions.
-/
import Derived.Test.YtdipddnnckfnmaaGreatM10

/- LawKey:
  What the laws of layer 9 make of raw numbers: a key, a code, a call. Conditions: integers' bounds.
-/
namespace Go.Proofs.YtdipddnnckfnmaaGreat.Law
open Go.RowKit (Below intOf)
open Go.Proofs.YtdipddnnckfnmaaGreat.Aut
open Go.Proofs.YtdipddnnckfnmaaGreat.Reg (cf bx fits_any)

/-- It answers a key: of a raw number from 0 to 12 one that may be. -/
def KeyE (k n : Int) (w : World) (e : Ending) (w' : World) : Prop := ∃ y, U64 y ∧ (k ≠ 5 → 0 ≤ n → n < 13 → mayK k y = true) ∧ e = .returned (.int .u64 y) ∧ Ext w w'
set_option maxHeartbeats 4000000 in
set_option maxRecDepth 100000 in
theorem key_any (k p m n x : Int) (w : World) (hn : I64 n) (hx : U64 x) :
    Calls Tryz.prog 29 #[cf k p m, .int .i64 n, .int .u64 x] w (KeyE k n w) := by
  have X0 := Lib.hid (Ext.new w (bx k p m))
  by_cases h4 : k = 4
  · subst h4
    have HW := Lib.hid (word_any n x (w.alloc (bx 4 p m)) hn hx)
    clear hn hx
    dsimp only [cf, bx] at *
    go_enter Tryz.func29, Tryz.ntmps29
    go_wp2_with (first | (go_at_call 44; (with_reducible refine HW.out.mono ?_); rintro e w1 ⟨y, uy, rfl, hE⟩; replace hE := Lib.hid hE; replace uy := Lib.hid uy))
    go_ret
    exact ⟨y, uy.out, fun _ _ _ => rfl, rfl, X0.out.trans hE.out⟩
  · have b4 : (k == 4) = false := by simpa using h4
    have HP := Lib.hid (fun W => pick_any n 14 W hn (by decide))
    obtain ⟨K, hK, eK⟩ := pick_nat n 14 (by decide)
    rw [show ((14 : Nat) : Int) = 14 from rfl] at eK
    have hself : RowKit.Hid (0 ≤ n → n < 13 → K < 13) := Lib.hid fun h0 h1 => by
      have := pick_self h0 (show n < 14 by omega)
      omega
    rw [eK] at HP
    have hux := Lib.hid hx
    have hmay : ∀ y : Int, y ≤ 4611686018427387904 → mayK k y = true := fun y hy => by unfold mayK; rw [if_neg h4]; exact decide_eq_true hy
    have HM := Lib.hid hmay
    clear eK hn hx hmay h4
    by_cases h13 : K = 13
    · subst h13
      dsimp only [cf, bx] at *
      go_enter Tryz.func29, Tryz.ntmps29
      go_wp2_with (first | (go_at_call 12; (with_reducible refine (HP.out _).mono ?_); rintro e w1 ⟨rfl, rfl⟩))
      go_ret
      exact ⟨x, hux.out, fun _ h0 h1 => absurd (hself.out h0 h1) (by omega), rfl, X0.out⟩
    · have b13 : ((K : Int) == 13) = false := by simp; omega
      have hk : RowKit.Hid (U64 4611686018427387904 ∧ U64 (K : Int)) := Lib.hid (by unfold U64; omega)
      have hwk : IntKind.u64.wrap (K : Int) = (K : Int) := by simp only [IntKind.wrap_u64]; omega
      by_cases h12 : K = 12
      · subst h12
        by_cases h5 : k = 5
        · subst h5
          dsimp only [cf, bx] at *
          go_enter Tryz.func29, Tryz.ntmps29
          go_wp2_with (first | (go_at_call 12; (with_reducible refine (HP.out _).mono ?_); rintro e w1 ⟨rfl, rfl⟩))
          go_ret
          exact ⟨12, hk.out.2, fun h => absurd rfl h, rfl, X0.out⟩
        · have b5 : (k != 5) = true := by simpa using h5
          clear h5
          dsimp only [cf, bx] at *
          go_enter Tryz.func29, Tryz.ntmps29
          go_wp2_with (first | (go_at_call 12; (with_reducible refine (HP.out _).mono ?_); rintro e w1 ⟨rfl, rfl⟩))
          go_ret
          exact ⟨4611686018427387904, hk.out.1, fun _ _ _ => HM.out _ (Int.le_refl _), rfl, X0.out⟩
      · have b12 : ((K : Int) == 12) = false := by simp; omega
        clear h13 h12
        dsimp only [cf, bx] at *
        go_enter Tryz.func29, Tryz.ntmps29
        go_wp2_with (first | (go_at_call 12; (with_reducible refine (HP.out _).mono ?_); rintro e w1 ⟨rfl, rfl⟩))
        go_ret
        exact ⟨(K : Int), hk.out.2, fun _ _ _ => HM.out _ (by omega), rfl, X0.out⟩

/-- It answers a code. -/
def CodeE (w : World) (e : Ending) (w' : World) : Prop := ∃ c : Int, 0 ≤ c ∧ c < 260 ∧ e = .returned (.int .i64 c) ∧ Ext w w'
set_option maxHeartbeats 4000000 in
set_option maxRecDepth 100000 in
theorem code_1 (p m n : Int) (w : World) (hn : I64 n) : Calls Tryz.prog 43 #[cf 1 p m, .int .i64 n] w (CodeE w) := by
  have HP := Lib.hid (fun W => pick_any n 16 W hn (by decide))
  have HQ := Lib.hid (fun W => pick_any n 260 W hn (by decide))
  have q0 := pick_ge n (n := 260) (by decide)
  have q1 := pick_lt n (n := 260) (by decide)
  generalize pickZ n 260 = q at *
  obtain ⟨K, hK, eK⟩ := pick_nat n 16 (by decide)
  rw [show ((16 : Nat) : Int) = 16 from rfl] at eK
  rw [eK] at HP
  clear eK hn
  by_cases hc : K = 15
  · subst hc
    clear hK
    dsimp only [cf, bx] at *
    go_enter Tryz.func43, Tryz.ntmps43
    go_wp2_with (first
      | (go_at_call 12; (with_reducible refine (HP.out _).mono ?_); rintro e w1 ⟨rfl, rfl⟩)
      | (go_at_call 12; (with_reducible refine (HQ.out _).mono ?_); rintro e w1 ⟨rfl, rfl⟩))
    go_ret
    exact ⟨q, q0, q1, rfl, by repeat (first | with_reducible exact Ext.refl _ | with_reducible refine Ext.alloc ?_ _)⟩
  · have bc : ((K : Int) == 15) = false := by simp; omega
    obtain ⟨J, hJ⟩ : ∃ J : Nat, K % 5 = J := ⟨_, rfl⟩
    have hJl : J < 5 := by omega
    have hmod : (K : Int) % 5 = (J : Int) := by omega
    have hrow := NS.row (w.alloc (bx 1 p m)) [1, 2, 3, 4, 4] 5 rfl (by decide) (by intro x hx; unfold I64; simp only [List.mem_cons, List.not_mem_nil, or_false] at hx; omega) #[.int .i64 1, .int .i64 2, .int .i64 3, .int .i64 4, .int .i64 4] rfl
    obtain ⟨y, hy, _, b, o, e0, hcell⟩ := hrow.get hJl
    cases e0
    rw [Nat.zero_add] at hcell
    have hy2 : RowKit.Hid (0 ≤ y ∧ y < 260) := Lib.hid (by
      have := List.mem_of_getElem? hy
      simp only [List.mem_cons, List.not_mem_nil, or_false] at this
      omega)
    simp only [World.size_alloc] at hcell
    clear hrow hy hc hJ q0 q1 HQ
    dsimp only [cf, bx] at *
    go_enter Tryz.func43, Tryz.ntmps43
    go_wp2_with (first
      | (go_at_call 12; (with_reducible refine (HP.out _).mono ?_); rintro e w1 ⟨rfl, rfl⟩))
    go_ret
    exact ⟨y, hy2.out.1, hy2.out.2, rfl, by repeat (first | with_reducible exact Ext.refl _ | with_reducible refine Ext.alloc ?_ _)⟩
set_option maxHeartbeats 4000000 in
set_option maxRecDepth 100000 in
theorem code_2 (p m n : Int) (w : World) (hn : I64 n) : Calls Tryz.prog 43 #[cf 2 p m, .int .i64 n] w (CodeE w) := by
  have HP := Lib.hid (fun W => pick_any n 19 W hn (by decide))
  have HQ := Lib.hid (fun W => pick_any n 260 W hn (by decide))
  have q0 := pick_ge n (n := 260) (by decide)
  have q1 := pick_lt n (n := 260) (by decide)
  generalize pickZ n 260 = q at *
  obtain ⟨K, hK, eK⟩ := pick_nat n 19 (by decide)
  rw [show ((19 : Nat) : Int) = 19 from rfl] at eK
  rw [eK] at HP
  clear eK hn
  by_cases hc : K = 18
  · subst hc
    clear hK
    dsimp only [cf, bx] at *
    go_enter Tryz.func43, Tryz.ntmps43
    go_wp2_with (first
      | (go_at_call 12; (with_reducible refine (HP.out _).mono ?_); rintro e w1 ⟨rfl, rfl⟩)
      | (go_at_call 12; (with_reducible refine (HQ.out _).mono ?_); rintro e w1 ⟨rfl, rfl⟩))
    go_ret
    exact ⟨q, q0, q1, rfl, by repeat (first | with_reducible exact Ext.refl _ | with_reducible refine Ext.alloc ?_ _)⟩
  · have bc : ((K : Int) == 18) = false := by simp; omega
    obtain ⟨J, hJ⟩ : ∃ J : Nat, K % 6 = J := ⟨_, rfl⟩
    have hJl : J < 6 := by omega
    have hmod : (K : Int) % 6 = (J : Int) := by omega
    have hrow := NS.row ((w.alloc (bx 2 p m)).alloc (.cells #[.int .i64 1, .int .i64 2, .int .i64 3, .int .i64 4, .int .i64 4] 3)) [6, 6, 5, 7, 8, 9] 6 rfl (by decide) (by intro x hx; unfold I64; simp only [List.mem_cons, List.not_mem_nil, or_false] at hx; omega) #[.int .i64 6, .int .i64 6, .int .i64 5, .int .i64 7, .int .i64 8, .int .i64 9] rfl
    obtain ⟨y, hy, _, b, o, e0, hcell⟩ := hrow.get hJl
    cases e0
    rw [Nat.zero_add] at hcell
    have hy2 : RowKit.Hid (0 ≤ y ∧ y < 260) := Lib.hid (by
      have := List.mem_of_getElem? hy
      simp only [List.mem_cons, List.not_mem_nil, or_false] at this
      omega)
    simp only [World.size_alloc] at hcell
    clear hrow hy hc hJ q0 q1 HQ
    dsimp only [cf, bx] at *
    go_enter Tryz.func43, Tryz.ntmps43
    go_wp2_with (first
      | (go_at_call 12; (with_reducible refine (HP.out _).mono ?_); rintro e w1 ⟨rfl, rfl⟩))
    go_ret
    exact ⟨y, hy2.out.1, hy2.out.2, rfl, by repeat (first | with_reducible exact Ext.refl _ | with_reducible refine Ext.alloc ?_ _)⟩
set_option maxHeartbeats 4000000 in
set_option maxRecDepth 100000 in
theorem code_3 (p m n : Int) (w : World) (hn : I64 n) : Calls Tryz.prog 43 #[cf 3 p m, .int .i64 n] w (CodeE w) := by
  have HP := Lib.hid (fun W => pick_any n 19 W hn (by decide))
  have HQ := Lib.hid (fun W => pick_any n 260 W hn (by decide))
  have q0 := pick_ge n (n := 260) (by decide)
  have q1 := pick_lt n (n := 260) (by decide)
  generalize pickZ n 260 = q at *
  obtain ⟨K, hK, eK⟩ := pick_nat n 19 (by decide)
  rw [show ((19 : Nat) : Int) = 19 from rfl] at eK
  rw [eK] at HP
  clear eK hn
  by_cases hc : K = 18
  · subst hc
    clear hK
    dsimp only [cf, bx] at *
    go_enter Tryz.func43, Tryz.ntmps43
    go_wp2_with (first
      | (go_at_call 12; (with_reducible refine (HP.out _).mono ?_); rintro e w1 ⟨rfl, rfl⟩)
      | (go_at_call 12; (with_reducible refine (HQ.out _).mono ?_); rintro e w1 ⟨rfl, rfl⟩))
    go_ret
    exact ⟨q, q0, q1, rfl, by repeat (first | with_reducible exact Ext.refl _ | with_reducible refine Ext.alloc ?_ _)⟩
  · have bc : ((K : Int) == 18) = false := by simp; omega
    obtain ⟨J, hJ⟩ : ∃ J : Nat, K % 6 = J := ⟨_, rfl⟩
    have hJl : J < 6 := by omega
    have hmod : (K : Int) % 6 = (J : Int) := by omega
    have hrow := NS.row ((w.alloc (bx 3 p m)).alloc (.cells #[.int .i64 1, .int .i64 2, .int .i64 3, .int .i64 4, .int .i64 4] 3)) [11, 11, 10, 7, 8, 9] 6 rfl (by decide) (by intro x hx; unfold I64; simp only [List.mem_cons, List.not_mem_nil, or_false] at hx; omega) #[.int .i64 11, .int .i64 11, .int .i64 10, .int .i64 7, .int .i64 8, .int .i64 9] rfl
    obtain ⟨y, hy, _, b, o, e0, hcell⟩ := hrow.get hJl
    cases e0
    rw [Nat.zero_add] at hcell
    have hy2 : RowKit.Hid (0 ≤ y ∧ y < 260) := Lib.hid (by
      have := List.mem_of_getElem? hy
      simp only [List.mem_cons, List.not_mem_nil, or_false] at this
      omega)
    simp only [World.size_alloc] at hcell
    clear hrow hy hc hJ q0 q1 HQ
    dsimp only [cf, bx] at *
    go_enter Tryz.func43, Tryz.ntmps43
    go_wp2_with (first
      | (go_at_call 12; (with_reducible refine (HP.out _).mono ?_); rintro e w1 ⟨rfl, rfl⟩))
    go_ret
    exact ⟨y, hy2.out.1, hy2.out.2, rfl, by repeat (first | with_reducible exact Ext.refl _ | with_reducible refine Ext.alloc ?_ _)⟩
set_option maxHeartbeats 4000000 in
set_option maxRecDepth 100000 in
theorem code_4 (p m n : Int) (w : World) (hn : I64 n) : Calls Tryz.prog 43 #[cf 4 p m, .int .i64 n] w (CodeE w) := by
  have HP := Lib.hid (fun W => pick_any n 19 W hn (by decide))
  have HQ := Lib.hid (fun W => pick_any n 260 W hn (by decide))
  have q0 := pick_ge n (n := 260) (by decide)
  have q1 := pick_lt n (n := 260) (by decide)
  generalize pickZ n 260 = q at *
  obtain ⟨K, hK, eK⟩ := pick_nat n 19 (by decide)
  rw [show ((19 : Nat) : Int) = 19 from rfl] at eK
  rw [eK] at HP
  clear eK hn
  by_cases hc : K = 18
  · subst hc
    clear hK
    dsimp only [cf, bx] at *
    go_enter Tryz.func43, Tryz.ntmps43
    go_wp2_with (first
      | (go_at_call 12; (with_reducible refine (HP.out _).mono ?_); rintro e w1 ⟨rfl, rfl⟩)
      | (go_at_call 12; (with_reducible refine (HQ.out _).mono ?_); rintro e w1 ⟨rfl, rfl⟩))
    go_ret
    exact ⟨q, q0, q1, rfl, by repeat (first | with_reducible exact Ext.refl _ | with_reducible refine Ext.alloc ?_ _)⟩
  · have bc : ((K : Int) == 18) = false := by simp; omega
    obtain ⟨J, hJ⟩ : ∃ J : Nat, K % 6 = J := ⟨_, rfl⟩
    have hJl : J < 6 := by omega
    have hmod : (K : Int) % 6 = (J : Int) := by omega
    have hrow := NS.row ((w.alloc (bx 4 p m)).alloc (.cells #[.int .i64 1, .int .i64 2, .int .i64 3, .int .i64 4, .int .i64 4] 3)) [11, 11, 10, 7, 8, 9] 6 rfl (by decide) (by intro x hx; unfold I64; simp only [List.mem_cons, List.not_mem_nil, or_false] at hx; omega) #[.int .i64 11, .int .i64 11, .int .i64 10, .int .i64 7, .int .i64 8, .int .i64 9] rfl
    obtain ⟨y, hy, _, b, o, e0, hcell⟩ := hrow.get hJl
    cases e0
    rw [Nat.zero_add] at hcell
    have hy2 : RowKit.Hid (0 ≤ y ∧ y < 260) := Lib.hid (by
      have := List.mem_of_getElem? hy
      simp only [List.mem_cons, List.not_mem_nil, or_false] at this
      omega)
    simp only [World.size_alloc] at hcell
    clear hrow hy hc hJ q0 q1 HQ
    dsimp only [cf, bx] at *
    go_enter Tryz.func43, Tryz.ntmps43
    go_wp2_with (first
      | (go_at_call 12; (with_reducible refine (HP.out _).mono ?_); rintro e w1 ⟨rfl, rfl⟩))
    go_ret
    exact ⟨y, hy2.out.1, hy2.out.2, rfl, by repeat (first | with_reducible exact Ext.refl _ | with_reducible refine Ext.alloc ?_ _)⟩
set_option maxHeartbeats 4000000 in
set_option maxRecDepth 100000 in
theorem code_5 (p m n : Int) (w : World) (hn : I64 n) : Calls Tryz.prog 43 #[cf 5 p m, .int .i64 n] w (CodeE w) := by
  have HP := Lib.hid (fun W => pick_any n 22 W hn (by decide))
  have HQ := Lib.hid (fun W => pick_any n 260 W hn (by decide))
  have q0 := pick_ge n (n := 260) (by decide)
  have q1 := pick_lt n (n := 260) (by decide)
  generalize pickZ n 260 = q at *
  obtain ⟨K, hK, eK⟩ := pick_nat n 22 (by decide)
  rw [show ((22 : Nat) : Int) = 22 from rfl] at eK
  rw [eK] at HP
  clear eK hn
  by_cases hc : K = 21
  · subst hc
    clear hK
    dsimp only [cf, bx] at *
    go_enter Tryz.func43, Tryz.ntmps43
    go_wp2_with (first
      | (go_at_call 12; (with_reducible refine (HP.out _).mono ?_); rintro e w1 ⟨rfl, rfl⟩)
      | (go_at_call 12; (with_reducible refine (HQ.out _).mono ?_); rintro e w1 ⟨rfl, rfl⟩))
    go_ret
    exact ⟨q, q0, q1, rfl, by repeat (first | with_reducible exact Ext.refl _ | with_reducible refine Ext.alloc ?_ _)⟩
  · have bc : ((K : Int) == 21) = false := by simp; omega
    obtain ⟨J, hJ⟩ : ∃ J : Nat, K % 7 = J := ⟨_, rfl⟩
    have hJl : J < 7 := by omega
    have hmod : (K : Int) % 7 = (J : Int) := by omega
    have hrow := NS.row ((w.alloc (bx 5 p m)).alloc (.cells #[.int .i64 1, .int .i64 2, .int .i64 3, .int .i64 4, .int .i64 4] 3)) [12, 12, 12, 14, 15, 16, 13] 7 rfl (by decide) (by intro x hx; unfold I64; simp only [List.mem_cons, List.not_mem_nil, or_false] at hx; omega) #[.int .i64 12, .int .i64 12, .int .i64 12, .int .i64 14, .int .i64 15, .int .i64 16, .int .i64 13] rfl
    obtain ⟨y, hy, _, b, o, e0, hcell⟩ := hrow.get hJl
    cases e0
    rw [Nat.zero_add] at hcell
    have hy2 : RowKit.Hid (0 ≤ y ∧ y < 260) := Lib.hid (by
      have := List.mem_of_getElem? hy
      simp only [List.mem_cons, List.not_mem_nil, or_false] at this
      omega)
    simp only [World.size_alloc] at hcell
    clear hrow hy hc hJ q0 q1 HQ
    dsimp only [cf, bx] at *
    go_enter Tryz.func43, Tryz.ntmps43
    go_wp2_with (first
      | (go_at_call 12; (with_reducible refine (HP.out _).mono ?_); rintro e w1 ⟨rfl, rfl⟩))
    go_ret
    exact ⟨y, hy2.out.1, hy2.out.2, rfl, by repeat (first | with_reducible exact Ext.refl _ | with_reducible refine Ext.alloc ?_ _)⟩

theorem code_any {k p m : Int} (n : Int) (w : World) (hf : fits k p m = true) (hn : I64 n) : Calls Tryz.prog 43 #[cf k p m, .int .i64 n] w (CodeE w) := by
  have := fits_of hf
  have hk : k = 1 ∨ k = 2 ∨ k = 3 ∨ k = 4 ∨ k = 5 := by omega
  rcases hk with rfl | rfl | rfl | rfl | rfl
  · exact code_1 p m n w hn
  · exact code_2 p m n w hn
  · exact code_3 p m n w hn
  · exact code_4 p m n w hn
  · exact code_5 p m n w hn

end Go.Proofs.YtdipddnnckfnmaaGreat.Law

/- AutCb:
  Blocks that are known by their first cells, and may be written. No condition.
-/
namespace Go.Proofs.YtdipddnnckfnmaaGreat.Aut
open Go.RowKit (Below intOf)
open Reg (cf bx)

/-- A block's first cells, which may be written. -/
structure Cb (w : World) (b : Nat) (cs : List Value) : Prop where
  lt : b < w.heap.size
  c : ∀ i v, cs[i]? = some v → w.cell? ⟨b, i, none⟩ = some v
  f : ∀ i, w.frozen? ⟨b, i, none⟩ = false
theorem Cb.ext {w w' : World} {b : Nat} {cs : List Value} (h : Cb w b cs) (e : Ext w w') : Cb w' b cs :=
  ⟨Nat.lt_of_lt_of_le h.lt e.size, fun i v hv => e.cell (h.c i v hv), fun i => (Below.frozen (p := ⟨b, i, none⟩) e h.lt).trans (h.f i)⟩
theorem Cb.new (w : World) (cs : List Value) (t : TypeId) : Cb (w.alloc (.cells cs.toArray t)) w.heap.size cs :=
  ⟨by simp, fun i v hv => by
    unfold World.cell?; rw [World.alloc_heap_new]
    simpa using hv, fun i => by unfold World.frozen?; rw [World.alloc_heap_new]; simp⟩
theorem Cb.at {X : World} {B : Nat} {cs : Array Value} {t : TypeId} (l : List Value) (hc : cs = l.toArray) (h : X.heap.size = B) : Cb (X.alloc (.cells cs t)) B l := by
  subst hc; subst h; exact Cb.new X l t
theorem Cb.alloc {w : World} {b : Nat} {cs : List Value} (h : Cb w b cs) (o : Obj) : Cb (w.alloc o) b cs := h.ext (Ext.new w o)
theorem Cb.drew {w : World} {b : Nat} {cs : List Value} (h : Cb w b cs) : Cb w.drew b cs := h.ext (Ext.drew (Ext.refl w))
theorem Cb.far {w : World} {b B : Nat} {cs : List Value} (h : Cb w b cs) (hne : b ≠ B) (i : Nat) (v : Value) : Cb (w.setCell ⟨B, i, none⟩ v) b cs :=
  ⟨by rw [World.size_setCell]; exact h.lt, fun j u hu => (cell_far hne).trans (h.c j u hu), fun j => by rw [World.frozen?_setCell]; exact h.f j⟩
theorem Cb.upd {w : World} {b : Nat} {cs : List Value} (h : Cb w b cs) {i : Nat} (hi : i < cs.length) (v : Value) : Cb (w.setCell ⟨b, i, none⟩ v) b (cs.set i v) :=
  ⟨by rw [World.size_setCell]; exact h.lt, fun j u hu => by
    by_cases e : i = j
    · subst e
      rw [List.getElem?_set_self hi] at hu
      cases hu
      exact World.cell?_setCell_same' _ _ _ (by rw [h.c i _ (List.getElem?_eq_getElem hi)]; rfl)
    · rw [List.getElem?_set_ne e] at hu
      rw [set_far (Ne.symm e)]; exact h.c j u hu, fun j => by rw [World.frozen?_setCell]; exact h.f j⟩
theorem Cb.st {w : World} {b : Nat} {x0 x1 x2 x3 x4 : Value} (h : Cb w b [x0, x1, x2, x3, x4]) (y0 y1 y2 y3 y4 : Value) : Cb (((((w.setCell ⟨b, 0, none⟩ y0).setCell ⟨b, 1, none⟩ y1).setCell ⟨b, 2, none⟩ y2).setCell ⟨b, 3, none⟩ y3).setCell ⟨b, 4, none⟩ y4) b [y0, y1, y2, y3, y4] :=
  ((((h.upd (i := 0) (by simp) y0).upd (i := 1) (by simp) y1).upd (i := 2) (by simp) y2).upd (i := 3) (by simp) y3).upd (i := 4) (by simp) y4
theorem Cb.rs {w : World} {b : Nat} {x0 x1 : Value} (h : Cb w b [x0, x1]) (y0 y1 : Value) : Cb ((w.setCell ⟨b, 0, none⟩ y0).setCell ⟨b, 1, none⟩ y1) b [y0, y1] :=
  (h.upd (i := 0) (by simp) y0).upd (i := 1) (by simp) y1
theorem Cb.two {w : World} {b : Nat} {x y : Value} (h : Cb w b [x, y]) : w.cell? ⟨b, 0, none⟩ = some x ∧ w.cell? ⟨b, 1, none⟩ = some y := ⟨h.c 0 _ rfl, h.c 1 _ rfl⟩
theorem Cb.three {w : World} {b : Nat} {x y z : Value} (h : Cb w b [x, y, z]) : w.cell? ⟨b, 0, none⟩ = some x ∧ w.cell? ⟨b, 1, none⟩ = some y ∧ w.cell? ⟨b, 2, none⟩ = some z := ⟨h.c 0 _ rfl, h.c 1 _ rfl, h.c 2 _ rfl⟩
theorem Cb.five {w : World} {b : Nat} {x y z u v : Value} (h : Cb w b [x, y, z, u, v]) : w.cell? ⟨b, 0, none⟩ = some x ∧ w.cell? ⟨b, 1, none⟩ = some y ∧ w.cell? ⟨b, 2, none⟩ = some z ∧ w.cell? ⟨b, 3, none⟩ = some u ∧ w.cell? ⟨b, 4, none⟩ = some v := ⟨h.c 0 _ rfl, h.c 1 _ rfl, h.c 2 _ rfl, h.c 3 _ rfl, h.c 4 _ rfl⟩
theorem cell_drew {w : World} {p : Addr} {v : Value} (h : w.cell? p = some v) : w.drew.cell? p = some v := h
/-- A state's cells. -/
abbrev sc (r : Int) (k v t : Sl) (cl : Bool) : List Value := [.int .u64 r, .slice k.a k.n k.c, .slice v.a v.n v.c, .slice t.a t.n t.c, .bool cl]

/-- What is written where there was no int leaves ints, what is written where there was no word leaves words. -/
theorem NS.keep {w : World} {sl : Option Addr} {n c : Nat} {xs : List Int} (h : NS w sl n c xs) {B i : Nat} (hb : ∀ x, w.cell? ⟨B, i, none⟩ ≠ some (.int .i64 x)) (v : Value) : NS (w.setCell ⟨B, i, none⟩ v) sl n c xs :=
  ⟨h.1, h.2.1, h.2.2.1, h.2.2.2.1, fun j x hj => by
    obtain ⟨u, b, o, e, hc⟩ := h.2.2.2.2 j x hj
    refine ⟨u, b, o, e, ?_⟩
    rw [World.cell?_setCell_other _ _ _ _ (fun q => by cases q; exact hb x hc)]
    exact hc⟩
theorem WS.nil_any {w w' : World} {sl : Option Addr} {n c : Nat} (h : WS w sl n c []) : WS w' sl n c [] := by
  have e : n = 0 := h.len.symm
  subst e
  exact WS.empty _ _ _ h.cle

end Go.Proofs.YtdipddnnckfnmaaGreat.Aut

/- LawOp:
  What the laws of layer 9 make of raw numbers: a call. Conditions: integers' bounds; the configuration fits.
-/
namespace Go.Proofs.YtdipddnnckfnmaaGreat.Law
open Go.RowKit (Below intOf)
open Go.Proofs.YtdipddnnckfnmaaGreat.Aut
open Go.Proofs.YtdipddnnckfnmaaGreat.Reg (cf bx fits_any)

/-- It answers a call. -/
def OpE (w : World) (e : Ending) (w' : World) : Prop := ∃ o : Cl, Wc o ∧ e = .returned (ov o) ∧ Ext w w'
set_option maxHeartbeats 8000000 in
set_option maxRecDepth 100000 in
theorem op_any {k p m : Int} (a b c x : Int) (w : World) (hf : fits k p m = true) (ha : I64 a) (hb : I64 b) (hc : I64 c) (hx : U64 x) :
    Calls Tryz.prog 20 #[cf k p m, .agg #[.int .i64 a, .int .i64 b, .int .i64 c], .int .u64 x] w (OpE w) := by
  have HC := Lib.hid (fun W => code_any a W hf ha)
  have HK := Lib.hid (fun W => key_any k p m b x W hb hx)
  have HW := Lib.hid (fun W => word_any c x W hc hx)
  have HP := Lib.hid (fun W => pick_any c 10 W hc (by decide))
  have p0 := pick_ge c (n := 10) (by decide)
  have p1 := pick_lt c (n := 10) (by decide)
  have hpu : RowKit.Hid (U64 (pickZ c 10)) := Lib.hid (by unfold U64; omega)
  have hpw : IntKind.u64.wrap (pickZ c 10) = pickZ c 10 := by simp only [IntKind.wrap_u64]; omega
  generalize pickZ c 10 = pz at *
  have b0 : Cb (((w.alloc (bx k p m)).alloc (.cells #[.int .i64 a, .int .i64 b, .int .i64 c] 22)).alloc (.cells #[.int .i64 0, .int .u64 0, .int .u64 0] 32)) w.heap.size [.int .i64 k, .int .i64 p, .int .i64 m] := by repeat (first | ((with_reducible refine Cb.at _ rfl ?_); (simp; done)) | with_reducible refine Cb.alloc ?_ _)
  have b1 : Cb (((w.alloc (bx k p m)).alloc (.cells #[.int .i64 a, .int .i64 b, .int .i64 c] 22)).alloc (.cells #[.int .i64 0, .int .u64 0, .int .u64 0] 32)) (w.heap.size + 1) [.int .i64 a, .int .i64 b, .int .i64 c] := by repeat (first | ((with_reducible refine Cb.at _ rfl ?_); (simp; done)) | with_reducible refine Cb.alloc ?_ _)
  have b2 : Cb (((w.alloc (bx k p m)).alloc (.cells #[.int .i64 a, .int .i64 b, .int .i64 c] 22)).alloc (.cells #[.int .i64 0, .int .u64 0, .int .u64 0] 32)) (w.heap.size + 1 + 1) [.int .i64 0, .int .u64 0, .int .u64 0] := by repeat (first | ((with_reducible refine Cb.at _ rfl ?_); (simp; done)) | with_reducible refine Cb.alloc ?_ _)
  have hX : Ext w (((w.alloc (bx k p m)).alloc (.cells #[.int .i64 a, .int .i64 b, .int .i64 c] 22)).alloc (.cells #[.int .i64 0, .int .u64 0, .int .u64 0] 32)) := ((Ext.new w _).alloc _).alloc _
  obtain ⟨c0, c1, c2⟩ := b0.three
  obtain ⟨n0, n1, n2⟩ := b1.three
  have k08 := And.intro (And.intro c0 (And.intro c1 c2)) (And.intro n0 (And.intro n1 n2))
  have HB0 := Lib.hid b0
  have HB1 := Lib.hid b1
  have HB2 := Lib.hid b2
  have HX := Lib.hid hX
  clear ha hb hc hx hf b0 b1 b2 hX
  dsimp only [cf, bx] at *
  go_enter Tryz.func20, Tryz.ntmps20
  go_wp2_with (fail)
  refine wp_region_held_drew (S := fun w' => (w'.cell? ⟨w.heap.size, 0, none⟩ = some (.int .i64 k) ∧ w'.cell? ⟨w.heap.size, 1, none⟩ = some (.int .i64 p) ∧ w'.cell? ⟨w.heap.size, 2, none⟩ = some (.int .i64 m)) ∧ w'.cell? ⟨w.heap.size + 1, 0, none⟩ = some (.int .i64 a) ∧ w'.cell? ⟨w.heap.size + 1, 1, none⟩ = some (.int .i64 b) ∧ w'.cell? ⟨w.heap.size + 1, 2, none⟩ = some (.int .i64 c)) (by kernel_rfl) k08 (fun hHeld => ?_)
  refine wpAnyH_take (i := 0) (v := .agg #[.int .i64 k, .int .i64 p, .int .i64 m]) rfl (by kernel_rfl) (by kernel_rfl) (by kernel_rfl) (fun _ _ _ h => h) (Or.inl ⟨by kernel_rfl, ?_⟩) (by assumption) ?_
  · rintro w ⟨⟨h1, h2, h3⟩, h4, h5, h6⟩
    go_simp
  refine wpAnyH_take (i := 1) (v := .pointer (some ⟨w.heap.size + 1, 0, none⟩)) rfl (by kernel_rfl) (by kernel_rfl) (by kernel_rfl) (fun _ _ _ h => h) (Or.inl ⟨by kernel_rfl, ?_⟩) (by assumption) ?_
  · rintro w ⟨⟨h1, h2, h3⟩, h4, h5, h6⟩
    go_simp
  refine wpAnyH_take (i := 2) (v := .int .i64 a) rfl (by kernel_rfl) (by kernel_rfl) (by kernel_rfl) (fun _ _ _ h => h) (Or.inl ⟨by kernel_rfl, ?_⟩) (by assumption) ?_
  · rintro w ⟨⟨h1, h2, h3⟩, h4, h5, h6⟩
    go_simp
  refine wpAnyH_take (i := 4) (v := .agg #[.int .i64 k, .int .i64 p, .int .i64 m]) rfl (by kernel_rfl) (by kernel_rfl) (by kernel_rfl) (fun _ _ _ h => h) (Or.inl ⟨by kernel_rfl, ?_⟩) (by assumption) ?_
  · rintro w ⟨⟨h1, h2, h3⟩, h4, h5, h6⟩
    go_simp
  refine wpAnyH_take (i := 5) (v := .pointer (some ⟨w.heap.size + 1, 1, none⟩)) rfl (by kernel_rfl) (by kernel_rfl) (by kernel_rfl) (fun _ _ _ h => h) (Or.inl ⟨by kernel_rfl, ?_⟩) (by assumption) ?_
  · rintro w ⟨⟨h1, h2, h3⟩, h4, h5, h6⟩
    go_simp
  refine wpAnyH_take (i := 6) (v := .int .i64 b) rfl (by kernel_rfl) (by kernel_rfl) (by kernel_rfl) (fun _ _ _ h => h) (Or.inl ⟨by kernel_rfl, ?_⟩) (by assumption) ?_
  · rintro w ⟨⟨h1, h2, h3⟩, h4, h5, h6⟩
    go_simp
  refine wpAnyH_take (i := 7) (v := .int .u64 x) rfl (by kernel_rfl) (by kernel_rfl) (by kernel_rfl) (fun _ _ _ h => h) (Or.inl ⟨by kernel_rfl, ?_⟩) (by assumption) ?_
  · rintro w ⟨⟨h1, h2, h3⟩, h4, h5, h6⟩
    go_simp
  refine wpAnyH_take (i := 9) (v := .pointer (some ⟨w.heap.size + 1, 2, none⟩)) rfl (by kernel_rfl) (by kernel_rfl) (by kernel_rfl) (fun _ _ _ h => h) (Or.inl ⟨by kernel_rfl, ?_⟩) (by assumption) ?_
  · rintro w ⟨⟨h1, h2, h3⟩, h4, h5, h6⟩
    go_simp
  refine wpAnyH_take (i := 10) (v := .int .i64 c) rfl (by kernel_rfl) (by kernel_rfl) (by kernel_rfl) (fun _ _ _ h => h) (Or.inl ⟨by kernel_rfl, ?_⟩) (by assumption) ?_
  · rintro w ⟨⟨h1, h2, h3⟩, h4, h5, h6⟩
    go_simp
  refine wpAnyH_take (i := 11) (v := .int .u64 x) rfl (by kernel_rfl) (by kernel_rfl) (by kernel_rfl) (fun _ _ _ h => h) (Or.inl ⟨by kernel_rfl, ?_⟩) (by assumption) ?_
  · rintro w ⟨⟨h1, h2, h3⟩, h4, h5, h6⟩
    go_simp
  refine wpAnyH_ready (rs := [3, 14]) (by kernel_rfl) (by simp) ?_
  refine AllReadyH.cons rfl (fun K hK => ?_) (AllReadyH.cons rfl (fun K hK => ?_) AllReadyH.nil)
  · go_simp
    refine (HC.out _).mono ?_
    rintro e w1 ⟨y1, ya, yb, rfl, e1⟩
    have zz0 := e1.size
    simp only [World.size_alloc, World.size_drew] at zz0
    refine hK.out _ _ ⟨⟨Ext.cell e1 hHeld.1.1, Ext.cell e1 hHeld.1.2.1, Ext.cell e1 hHeld.1.2.2⟩, Ext.cell e1 hHeld.2.1, Ext.cell e1 hHeld.2.2.1, Ext.cell e1 hHeld.2.2.2⟩ (fun hHeld => ?_)
    clear hK K
    refine wpAnyH_ready (rs := [8, 14]) (by kernel_rfl) (by simp) ?_
    refine AllReadyH.cons rfl (fun K hK => ?_) (AllReadyH.cons rfl (fun K hK => ?_) AllReadyH.nil)
    · go_simp
      refine (HK.out _).mono ?_
      rintro e w2 ⟨y2, u2, _, rfl, e2⟩
      have zz1 := e2.size
      refine hK.out _ _ ⟨⟨Ext.cell e2 hHeld.1.1, Ext.cell e2 hHeld.1.2.1, Ext.cell e2 hHeld.1.2.2⟩, Ext.cell e2 hHeld.2.1, Ext.cell e2 hHeld.2.2.1, Ext.cell e2 hHeld.2.2.2⟩ (fun hHeld => ?_)
      clear hK K
      refine wpAnyH_ready (rs := [12, 14]) (by kernel_rfl) (by simp) ?_
      refine AllReadyH.cons rfl (fun K hK => ?_) (AllReadyH.cons rfl (fun K hK => ?_) AllReadyH.nil)
      · go_simp
        refine (HW.out _).mono ?_
        rintro e w3 ⟨y3, u3, rfl, e3⟩
        have zz2 := e3.size
        refine hK.out _ _ ⟨⟨Ext.cell e3 hHeld.1.1, Ext.cell e3 hHeld.1.2.1, Ext.cell e3 hHeld.1.2.2⟩, Ext.cell e3 hHeld.2.1, Ext.cell e3 hHeld.2.2.1, Ext.cell e3 hHeld.2.2.2⟩ (fun hHeld => ?_)
        clear hK K
        refine wpAnyH_take (i := 13) (v := .agg #[.int .i64 y1, .int .u64 y2, .int .u64 y3]) rfl (by kernel_rfl) (by kernel_rfl) (by kernel_rfl) (fun _ _ _ h => h) (Or.inl ⟨by kernel_rfl, ?_⟩) (by assumption) ?_
        · rintro w ⟨⟨h1, h2, h3⟩, h4, h5, h6⟩
          go_simp
        refine wpAnyH_ready (rs := [14]) (by kernel_rfl) (by simp) ?_
        refine AllReadyH.cons rfl (fun K hK => ?_) AllReadyH.nil
        go_simp
        have ob0 := Cb.at (B := w3.heap.size) [.int .i64 0, .int .u64 0, .int .u64 0] rfl (by rfl) (X := w3) (t := 32)
        have hP := hHeld
        refine hK.out _ _ ⟨⟨Ext.cell (Ext.new _ _) hHeld.1.1, Ext.cell (Ext.new _ _) hHeld.1.2.1, Ext.cell (Ext.new _ _) hHeld.1.2.2⟩, Ext.cell (Ext.new _ _) hHeld.2.1, Ext.cell (Ext.new _ _) hHeld.2.2.1, Ext.cell (Ext.new _ _) hHeld.2.2.2⟩ (fun hHeld => ?_)
        clear hK K
        obtain ⟨g0, g1, g2⟩ := ob0.three
        have f0 := ob0.f 0
        have f1 := ob0.f 1
        have f2 := ob0.f 2
        refine wpAnyH_ready (rs := [15]) (by kernel_rfl) (by simp) ?_
        refine AllReadyH.cons rfl (fun K hK => ?_) AllReadyH.nil
        go_simp
        have OB := ((ob0.upd (i := 0) (by simp) (.int .i64 y1)).upd (i := 1) (by simp) (.int .u64 y2)).upd (i := 2) (by simp) (.int .u64 y3)
        refine hK.out _ _ (by refine ⟨⟨?_, ?_, ?_⟩, ?_, ?_, ?_⟩ <;> repeat (first | (with_reducible exact hHeld.1.1) | (with_reducible exact hHeld.1.2.1) | (with_reducible exact hHeld.1.2.2) | (with_reducible exact hHeld.2.1) | (with_reducible exact hHeld.2.2.1) | (with_reducible exact hHeld.2.2.2) | (with_reducible exact hP.1.1) | (with_reducible exact hP.1.2.1) | (with_reducible exact hP.1.2.2) | (with_reducible exact hP.2.1) | (with_reducible exact hP.2.2.1) | (with_reducible exact hP.2.2.2) | (with_reducible refine Ext.cell (Ext.new _ _) ?_) | (with_reducible refine (cell_far (by omega)).trans ?_))) (fun hHeld => ?_)
        clear hK K
        refine wpAnyH_done (by kernel_rfl) ?_ _
        have hbx : w.heap.size + 1 + 1 < w3.heap.size := by omega
        have EF : Ext (((w.alloc (.cells #[.int .i64 k, .int .i64 p, .int .i64 m] 24)).alloc (.cells #[.int .i64 a, .int .i64 b, .int .i64 c] 22)).alloc (.cells #[.int .i64 0, .int .u64 0, .int .u64 0] 32)) (w3.alloc (.cells #[.int .i64 y1, .int .u64 y2, .int .u64 y3] 32)) := ((((Ext.drew (Ext.refl _)).trans e1).trans e2).trans e3).alloc (.cells #[.int .i64 y1, .int .u64 y2, .int .u64 y3] 32)
        have OBf : Cb (w3.alloc (.cells #[.int .i64 y1, .int .u64 y2, .int .u64 y3] 32)) (w3.heap.size) [.int .i64 y1, .int .u64 y2, .int .u64 y3] := Cb.new w3 [.int .i64 y1, .int .u64 y2, .int .u64 y3] 32
        have HR := HB2.out.ext EF
        have EW := HX.out.trans EF
        clear EF HB0 HB1 HB2 HX g0 g1 g2 f0 f1 f2 OB c0 c1 c2 n0 n1 n2 k08
        have HOW := Lib.hid (And.intro u2 u3)
        have hy1 : I64 y1 := by unfold I64; omega
        have HY := Lib.hid hy1
        clear hy1
        generalize (w3.alloc (.cells #[.int .i64 y1, .int .u64 y2, .int .u64 y3] 32)) = wf at OBf HR EW hHeld ⊢
        obtain ⟨⟨c0, c1, c2⟩, n0, n1, n2⟩ := hHeld
        obtain ⟨v0, v1, v2⟩ := OBf.three
        by_cases h5 : k = 5
        · subst h5
          have OB2 : Cb _ _ [.int .i64 y1, .int .u64 y2, .int .u64 pz] := OBf.upd (i := 2) (by simp) (.int .u64 pz)
          have HR2 := HR.far (B := w3.heap.size) (by omega) 2 (.int .u64 pz)
          have ff := OBf.f 2
          obtain ⟨q0, q1, q2⟩ := OB2.three
          have r0 := HR2.f 0
          have r1 := HR2.f 1
          have r2 := HR2.f 2
          obtain ⟨s0, s1, s2⟩ := HR2.three
          have HRF := ((HR2.upd (i := 0) (by simp) (.int .i64 y1)).upd (i := 1) (by simp) (.int .u64 y2)).upd (i := 2) (by simp) (.int .u64 pz)
          obtain ⟨t0, t1, t2⟩ : _ ∧ _ ∧ _ := Cb.three (x := .int .i64 y1) (y := .int .u64 y2) (z := .int .u64 pz) HRF
          have HEW := Lib.hid EW
          clear OBf HR EW HRF OB2 HR2
          go_wp2_with (first | (go_at_call 12; (with_reducible refine (HP.out _).mono ?_); rintro e w9 ⟨rfl, rfl⟩))
          refine bodyPost_ret (v := ov ⟨y1, y2, pz⟩) (by simp [results, Tryz.results20, go_sem, t0, t1, t2]) rfl ⟨⟨y1, y2, pz⟩, ⟨HY.out, HOW.out.1, hpu.out⟩, rfl, ?_⟩
          repeat (first | (with_reducible exact HEW.out) | (with_reducible refine Ext.setCell ?_ (by omega) _))
        · have b5 : (k == 5) = false := by simpa using h5
          by_cases h8 : y1 = 8
          · subst h8
            have OB2 : Cb _ _ [.int .i64 8, .int .u64 y2, .int .u64 pz] := OBf.upd (i := 2) (by simp) (.int .u64 pz)
            have HR2 := HR.far (B := w3.heap.size) (by omega) 2 (.int .u64 pz)
            have ff := OBf.f 2
            obtain ⟨q0, q1, q2⟩ := OB2.three
            have r0 := HR2.f 0
            have r1 := HR2.f 1
            have r2 := HR2.f 2
            obtain ⟨s0, s1, s2⟩ := HR2.three
            have HRF := ((HR2.upd (i := 0) (by simp) (.int .i64 8)).upd (i := 1) (by simp) (.int .u64 y2)).upd (i := 2) (by simp) (.int .u64 pz)
            obtain ⟨t0, t1, t2⟩ : _ ∧ _ ∧ _ := Cb.three (x := .int .i64 8) (y := .int .u64 y2) (z := .int .u64 pz) HRF
            have HEW := Lib.hid EW
            clear OBf HR EW HRF OB2 HR2
            go_wp2_with (first | (go_at_call 12; (with_reducible refine (HP.out _).mono ?_); rintro e w9 ⟨rfl, rfl⟩))
            refine bodyPost_ret (v := ov ⟨8, y2, pz⟩) (by simp [results, Tryz.results20, go_sem, t0, t1, t2]) rfl ⟨⟨8, y2, pz⟩, ⟨HY.out, HOW.out.1, hpu.out⟩, rfl, ?_⟩
            repeat (first | (with_reducible exact HEW.out) | (with_reducible refine Ext.setCell ?_ (by omega) _))
          · have b8 : (y1 == 8) = false := by simpa using h8
            obtain ⟨q0, q1, q2⟩ := OBf.three
            have r0 := HR.f 0
            have r1 := HR.f 1
            have r2 := HR.f 2
            obtain ⟨s0, s1, s2⟩ := HR.three
            have HRF := ((HR.upd (i := 0) (by simp) (.int .i64 y1)).upd (i := 1) (by simp) (.int .u64 y2)).upd (i := 2) (by simp) (.int .u64 y3)
            obtain ⟨t0, t1, t2⟩ : _ ∧ _ ∧ _ := Cb.three (x := .int .i64 y1) (y := .int .u64 y2) (z := .int .u64 y3) HRF
            have HEW := Lib.hid EW
            clear OBf HR EW HRF 
            go_wp2_with (fail)
            refine bodyPost_ret (v := ov ⟨y1, y2, y3⟩) (by simp [results, Tryz.results20, go_sem, t0, t1, t2]) rfl ⟨⟨y1, y2, y3⟩, ⟨HY.out, HOW.out.1, HOW.out.2⟩, rfl, ?_⟩
            repeat (first | (with_reducible exact HEW.out) | (with_reducible refine Ext.setCell ?_ (by omega) _))
      · go_simp
        have ob0 := Cb.at (B := w2.heap.size) [.int .i64 0, .int .u64 0, .int .u64 0] rfl (by rfl) (X := w2) (t := 32)
        refine hK.out _ _ ⟨⟨Ext.cell (Ext.new _ _) hHeld.1.1, Ext.cell (Ext.new _ _) hHeld.1.2.1, Ext.cell (Ext.new _ _) hHeld.1.2.2⟩, Ext.cell (Ext.new _ _) hHeld.2.1, Ext.cell (Ext.new _ _) hHeld.2.2.1, Ext.cell (Ext.new _ _) hHeld.2.2.2⟩ (fun hHeld => ?_)
        clear hK K
        refine wpAnyH_ready (rs := [12]) (by kernel_rfl) (by simp) ?_
        refine AllReadyH.cons rfl (fun K hK => ?_) AllReadyH.nil
        go_simp
        refine (HW.out _).mono ?_
        rintro e w3 ⟨y3, u3, rfl, e3⟩
        have zz2 := e3.size
        simp only [World.size_alloc] at zz2
        have ob1 := ob0.ext e3
        refine hK.out _ _ ⟨⟨Ext.cell e3 hHeld.1.1, Ext.cell e3 hHeld.1.2.1, Ext.cell e3 hHeld.1.2.2⟩, Ext.cell e3 hHeld.2.1, Ext.cell e3 hHeld.2.2.1, Ext.cell e3 hHeld.2.2.2⟩ (fun hHeld => ?_)
        clear hK K
        refine wpAnyH_take (i := 13) (v := .agg #[.int .i64 y1, .int .u64 y2, .int .u64 y3]) rfl (by kernel_rfl) (by kernel_rfl) (by kernel_rfl) (fun _ _ _ h => h) (Or.inl ⟨by kernel_rfl, ?_⟩) (by assumption) ?_
        · rintro w ⟨⟨h1, h2, h3⟩, h4, h5, h6⟩
          go_simp
        obtain ⟨g0, g1, g2⟩ := ob1.three
        have f0 := ob1.f 0
        have f1 := ob1.f 1
        have f2 := ob1.f 2
        refine wpAnyH_ready (rs := [15]) (by kernel_rfl) (by simp) ?_
        refine AllReadyH.cons rfl (fun K hK => ?_) AllReadyH.nil
        go_simp
        have OB := ((ob1.upd (i := 0) (by simp) (.int .i64 y1)).upd (i := 1) (by simp) (.int .u64 y2)).upd (i := 2) (by simp) (.int .u64 y3)
        refine hK.out _ _ (by refine ⟨⟨?_, ?_, ?_⟩, ?_, ?_, ?_⟩ <;> repeat (first | (with_reducible exact hHeld.1.1) | (with_reducible exact hHeld.1.2.1) | (with_reducible exact hHeld.1.2.2) | (with_reducible exact hHeld.2.1) | (with_reducible exact hHeld.2.2.1) | (with_reducible exact hHeld.2.2.2) | (with_reducible refine (cell_far (by omega)).trans ?_))) (fun hHeld => ?_)
        clear hK K
        refine wpAnyH_done (by kernel_rfl) ?_ _
        have hbx : w.heap.size + 1 + 1 < w2.heap.size := by omega
        have hbx0 : (((w.alloc (.cells #[.int .i64 k, .int .i64 p, .int .i64 m] 24)).alloc (.cells #[.int .i64 a, .int .i64 b, .int .i64 c] 22)).alloc (.cells #[.int .i64 0, .int .u64 0, .int .u64 0] 32)).heap.size ≤ w2.heap.size := by simp only [World.size_alloc]; omega
        have EF : Ext (((w.alloc (.cells #[.int .i64 k, .int .i64 p, .int .i64 m] 24)).alloc (.cells #[.int .i64 a, .int .i64 b, .int .i64 c] 22)).alloc (.cells #[.int .i64 0, .int .u64 0, .int .u64 0] 32)) (((w3.setCell ⟨w2.heap.size, 0, none⟩ (.int .i64 y1)).setCell ⟨w2.heap.size, 1, none⟩ (.int .u64 y2)).setCell ⟨w2.heap.size, 2, none⟩ (.int .u64 y3)) := (((((((Ext.drew (Ext.refl _)).trans e1).trans e2).alloc _).trans e3).setCell hbx0 _).setCell hbx0 _).setCell hbx0 _
        have OBf : Cb (((w3.setCell ⟨w2.heap.size, 0, none⟩ (.int .i64 y1)).setCell ⟨w2.heap.size, 1, none⟩ (.int .u64 y2)).setCell ⟨w2.heap.size, 2, none⟩ (.int .u64 y3)) (w2.heap.size) [.int .i64 y1, .int .u64 y2, .int .u64 y3] := OB
        have HR := HB2.out.ext EF
        have EW := HX.out.trans EF
        clear EF HB0 HB1 HB2 HX g0 g1 g2 f0 f1 f2 OB c0 c1 c2 n0 n1 n2 k08
        have HOW := Lib.hid (And.intro u2 u3)
        have hy1 : I64 y1 := by unfold I64; omega
        have HY := Lib.hid hy1
        clear hy1
        generalize (((w3.setCell ⟨w2.heap.size, 0, none⟩ (.int .i64 y1)).setCell ⟨w2.heap.size, 1, none⟩ (.int .u64 y2)).setCell ⟨w2.heap.size, 2, none⟩ (.int .u64 y3)) = wf at OBf HR EW hHeld ⊢
        obtain ⟨⟨c0, c1, c2⟩, n0, n1, n2⟩ := hHeld
        obtain ⟨v0, v1, v2⟩ := OBf.three
        by_cases h5 : k = 5
        · subst h5
          have OB2 : Cb _ _ [.int .i64 y1, .int .u64 y2, .int .u64 pz] := OBf.upd (i := 2) (by simp) (.int .u64 pz)
          have HR2 := HR.far (B := w2.heap.size) (by omega) 2 (.int .u64 pz)
          have ff := OBf.f 2
          obtain ⟨q0, q1, q2⟩ := OB2.three
          have r0 := HR2.f 0
          have r1 := HR2.f 1
          have r2 := HR2.f 2
          obtain ⟨s0, s1, s2⟩ := HR2.three
          have HRF := ((HR2.upd (i := 0) (by simp) (.int .i64 y1)).upd (i := 1) (by simp) (.int .u64 y2)).upd (i := 2) (by simp) (.int .u64 pz)
          obtain ⟨t0, t1, t2⟩ : _ ∧ _ ∧ _ := Cb.three (x := .int .i64 y1) (y := .int .u64 y2) (z := .int .u64 pz) HRF
          have HEW := Lib.hid EW
          clear OBf HR EW HRF OB2 HR2
          go_wp2_with (first | (go_at_call 12; (with_reducible refine (HP.out _).mono ?_); rintro e w9 ⟨rfl, rfl⟩))
          refine bodyPost_ret (v := ov ⟨y1, y2, pz⟩) (by simp [results, Tryz.results20, go_sem, t0, t1, t2]) rfl ⟨⟨y1, y2, pz⟩, ⟨HY.out, HOW.out.1, hpu.out⟩, rfl, ?_⟩
          repeat (first | (with_reducible exact HEW.out) | (with_reducible refine Ext.setCell ?_ (by omega) _))
        · have b5 : (k == 5) = false := by simpa using h5
          by_cases h8 : y1 = 8
          · subst h8
            have OB2 : Cb _ _ [.int .i64 8, .int .u64 y2, .int .u64 pz] := OBf.upd (i := 2) (by simp) (.int .u64 pz)
            have HR2 := HR.far (B := w2.heap.size) (by omega) 2 (.int .u64 pz)
            have ff := OBf.f 2
            obtain ⟨q0, q1, q2⟩ := OB2.three
            have r0 := HR2.f 0
            have r1 := HR2.f 1
            have r2 := HR2.f 2
            obtain ⟨s0, s1, s2⟩ := HR2.three
            have HRF := ((HR2.upd (i := 0) (by simp) (.int .i64 8)).upd (i := 1) (by simp) (.int .u64 y2)).upd (i := 2) (by simp) (.int .u64 pz)
            obtain ⟨t0, t1, t2⟩ : _ ∧ _ ∧ _ := Cb.three (x := .int .i64 8) (y := .int .u64 y2) (z := .int .u64 pz) HRF
            have HEW := Lib.hid EW
            clear OBf HR EW HRF OB2 HR2
            go_wp2_with (first | (go_at_call 12; (with_reducible refine (HP.out _).mono ?_); rintro e w9 ⟨rfl, rfl⟩))
            refine bodyPost_ret (v := ov ⟨8, y2, pz⟩) (by simp [results, Tryz.results20, go_sem, t0, t1, t2]) rfl ⟨⟨8, y2, pz⟩, ⟨HY.out, HOW.out.1, hpu.out⟩, rfl, ?_⟩
            repeat (first | (with_reducible exact HEW.out) | (with_reducible refine Ext.setCell ?_ (by omega) _))
          · have b8 : (y1 == 8) = false := by simpa using h8
            obtain ⟨q0, q1, q2⟩ := OBf.three
            have r0 := HR.f 0
            have r1 := HR.f 1
            have r2 := HR.f 2
            obtain ⟨s0, s1, s2⟩ := HR.three
            have HRF := ((HR.upd (i := 0) (by simp) (.int .i64 y1)).upd (i := 1) (by simp) (.int .u64 y2)).upd (i := 2) (by simp) (.int .u64 y3)
            obtain ⟨t0, t1, t2⟩ : _ ∧ _ ∧ _ := Cb.three (x := .int .i64 y1) (y := .int .u64 y2) (z := .int .u64 y3) HRF
            have HEW := Lib.hid EW
            clear OBf HR EW HRF 
            go_wp2_with (fail)
            refine bodyPost_ret (v := ov ⟨y1, y2, y3⟩) (by simp [results, Tryz.results20, go_sem, t0, t1, t2]) rfl ⟨⟨y1, y2, y3⟩, ⟨HY.out, HOW.out.1, HOW.out.2⟩, rfl, ?_⟩
            repeat (first | (with_reducible exact HEW.out) | (with_reducible refine Ext.setCell ?_ (by omega) _))
    · go_simp
      have ob0 := Cb.at (B := w1.heap.size) [.int .i64 0, .int .u64 0, .int .u64 0] rfl (by rfl) (X := w1) (t := 32)
      refine hK.out _ _ ⟨⟨Ext.cell (Ext.new _ _) hHeld.1.1, Ext.cell (Ext.new _ _) hHeld.1.2.1, Ext.cell (Ext.new _ _) hHeld.1.2.2⟩, Ext.cell (Ext.new _ _) hHeld.2.1, Ext.cell (Ext.new _ _) hHeld.2.2.1, Ext.cell (Ext.new _ _) hHeld.2.2.2⟩ (fun hHeld => ?_)
      clear hK K
      refine wpAnyH_ready (rs := [8]) (by kernel_rfl) (by simp) ?_
      refine AllReadyH.cons rfl (fun K hK => ?_) AllReadyH.nil
      go_simp
      refine (HK.out _).mono ?_
      rintro e w2 ⟨y2, u2, _, rfl, e2⟩
      have zz1 := e2.size
      simp only [World.size_alloc] at zz1
      have ob1 := ob0.ext e2
      refine hK.out _ _ ⟨⟨Ext.cell e2 hHeld.1.1, Ext.cell e2 hHeld.1.2.1, Ext.cell e2 hHeld.1.2.2⟩, Ext.cell e2 hHeld.2.1, Ext.cell e2 hHeld.2.2.1, Ext.cell e2 hHeld.2.2.2⟩ (fun hHeld => ?_)
      clear hK K
      refine wpAnyH_ready (rs := [12]) (by kernel_rfl) (by simp) ?_
      refine AllReadyH.cons rfl (fun K hK => ?_) AllReadyH.nil
      go_simp
      refine (HW.out _).mono ?_
      rintro e w3 ⟨y3, u3, rfl, e3⟩
      have zz2 := e3.size
      have ob2 := ob1.ext e3
      refine hK.out _ _ ⟨⟨Ext.cell e3 hHeld.1.1, Ext.cell e3 hHeld.1.2.1, Ext.cell e3 hHeld.1.2.2⟩, Ext.cell e3 hHeld.2.1, Ext.cell e3 hHeld.2.2.1, Ext.cell e3 hHeld.2.2.2⟩ (fun hHeld => ?_)
      clear hK K
      refine wpAnyH_take (i := 13) (v := .agg #[.int .i64 y1, .int .u64 y2, .int .u64 y3]) rfl (by kernel_rfl) (by kernel_rfl) (by kernel_rfl) (fun _ _ _ h => h) (Or.inl ⟨by kernel_rfl, ?_⟩) (by assumption) ?_
      · rintro w ⟨⟨h1, h2, h3⟩, h4, h5, h6⟩
        go_simp
      obtain ⟨g0, g1, g2⟩ := ob2.three
      have f0 := ob2.f 0
      have f1 := ob2.f 1
      have f2 := ob2.f 2
      refine wpAnyH_ready (rs := [15]) (by kernel_rfl) (by simp) ?_
      refine AllReadyH.cons rfl (fun K hK => ?_) AllReadyH.nil
      go_simp
      have OB := ((ob2.upd (i := 0) (by simp) (.int .i64 y1)).upd (i := 1) (by simp) (.int .u64 y2)).upd (i := 2) (by simp) (.int .u64 y3)
      refine hK.out _ _ (by refine ⟨⟨?_, ?_, ?_⟩, ?_, ?_, ?_⟩ <;> repeat (first | (with_reducible exact hHeld.1.1) | (with_reducible exact hHeld.1.2.1) | (with_reducible exact hHeld.1.2.2) | (with_reducible exact hHeld.2.1) | (with_reducible exact hHeld.2.2.1) | (with_reducible exact hHeld.2.2.2) | (with_reducible refine (cell_far (by omega)).trans ?_))) (fun hHeld => ?_)
      clear hK K
      refine wpAnyH_done (by kernel_rfl) ?_ _
      have hbx : w.heap.size + 1 + 1 < w1.heap.size := by omega
      have hbx0 : (((w.alloc (.cells #[.int .i64 k, .int .i64 p, .int .i64 m] 24)).alloc (.cells #[.int .i64 a, .int .i64 b, .int .i64 c] 22)).alloc (.cells #[.int .i64 0, .int .u64 0, .int .u64 0] 32)).heap.size ≤ w1.heap.size := by simp only [World.size_alloc]; omega
      have EF : Ext (((w.alloc (.cells #[.int .i64 k, .int .i64 p, .int .i64 m] 24)).alloc (.cells #[.int .i64 a, .int .i64 b, .int .i64 c] 22)).alloc (.cells #[.int .i64 0, .int .u64 0, .int .u64 0] 32)) (((w3.setCell ⟨w1.heap.size, 0, none⟩ (.int .i64 y1)).setCell ⟨w1.heap.size, 1, none⟩ (.int .u64 y2)).setCell ⟨w1.heap.size, 2, none⟩ (.int .u64 y3)) := (((((((Ext.drew (Ext.refl _)).trans e1).alloc _).trans e2).trans e3).setCell hbx0 _).setCell hbx0 _).setCell hbx0 _
      have OBf : Cb (((w3.setCell ⟨w1.heap.size, 0, none⟩ (.int .i64 y1)).setCell ⟨w1.heap.size, 1, none⟩ (.int .u64 y2)).setCell ⟨w1.heap.size, 2, none⟩ (.int .u64 y3)) (w1.heap.size) [.int .i64 y1, .int .u64 y2, .int .u64 y3] := OB
      have HR := HB2.out.ext EF
      have EW := HX.out.trans EF
      clear EF HB0 HB1 HB2 HX g0 g1 g2 f0 f1 f2 OB c0 c1 c2 n0 n1 n2 k08
      have HOW := Lib.hid (And.intro u2 u3)
      have hy1 : I64 y1 := by unfold I64; omega
      have HY := Lib.hid hy1
      clear hy1
      generalize (((w3.setCell ⟨w1.heap.size, 0, none⟩ (.int .i64 y1)).setCell ⟨w1.heap.size, 1, none⟩ (.int .u64 y2)).setCell ⟨w1.heap.size, 2, none⟩ (.int .u64 y3)) = wf at OBf HR EW hHeld ⊢
      obtain ⟨⟨c0, c1, c2⟩, n0, n1, n2⟩ := hHeld
      obtain ⟨v0, v1, v2⟩ := OBf.three
      by_cases h5 : k = 5
      · subst h5
        have OB2 : Cb _ _ [.int .i64 y1, .int .u64 y2, .int .u64 pz] := OBf.upd (i := 2) (by simp) (.int .u64 pz)
        have HR2 := HR.far (B := w1.heap.size) (by omega) 2 (.int .u64 pz)
        have ff := OBf.f 2
        obtain ⟨q0, q1, q2⟩ := OB2.three
        have r0 := HR2.f 0
        have r1 := HR2.f 1
        have r2 := HR2.f 2
        obtain ⟨s0, s1, s2⟩ := HR2.three
        have HRF := ((HR2.upd (i := 0) (by simp) (.int .i64 y1)).upd (i := 1) (by simp) (.int .u64 y2)).upd (i := 2) (by simp) (.int .u64 pz)
        obtain ⟨t0, t1, t2⟩ : _ ∧ _ ∧ _ := Cb.three (x := .int .i64 y1) (y := .int .u64 y2) (z := .int .u64 pz) HRF
        have HEW := Lib.hid EW
        clear OBf HR EW HRF OB2 HR2
        go_wp2_with (first | (go_at_call 12; (with_reducible refine (HP.out _).mono ?_); rintro e w9 ⟨rfl, rfl⟩))
        refine bodyPost_ret (v := ov ⟨y1, y2, pz⟩) (by simp [results, Tryz.results20, go_sem, t0, t1, t2]) rfl ⟨⟨y1, y2, pz⟩, ⟨HY.out, HOW.out.1, hpu.out⟩, rfl, ?_⟩
        repeat (first | (with_reducible exact HEW.out) | (with_reducible refine Ext.setCell ?_ (by omega) _))
      · have b5 : (k == 5) = false := by simpa using h5
        by_cases h8 : y1 = 8
        · subst h8
          have OB2 : Cb _ _ [.int .i64 8, .int .u64 y2, .int .u64 pz] := OBf.upd (i := 2) (by simp) (.int .u64 pz)
          have HR2 := HR.far (B := w1.heap.size) (by omega) 2 (.int .u64 pz)
          have ff := OBf.f 2
          obtain ⟨q0, q1, q2⟩ := OB2.three
          have r0 := HR2.f 0
          have r1 := HR2.f 1
          have r2 := HR2.f 2
          obtain ⟨s0, s1, s2⟩ := HR2.three
          have HRF := ((HR2.upd (i := 0) (by simp) (.int .i64 8)).upd (i := 1) (by simp) (.int .u64 y2)).upd (i := 2) (by simp) (.int .u64 pz)
          obtain ⟨t0, t1, t2⟩ : _ ∧ _ ∧ _ := Cb.three (x := .int .i64 8) (y := .int .u64 y2) (z := .int .u64 pz) HRF
          have HEW := Lib.hid EW
          clear OBf HR EW HRF OB2 HR2
          go_wp2_with (first | (go_at_call 12; (with_reducible refine (HP.out _).mono ?_); rintro e w9 ⟨rfl, rfl⟩))
          refine bodyPost_ret (v := ov ⟨8, y2, pz⟩) (by simp [results, Tryz.results20, go_sem, t0, t1, t2]) rfl ⟨⟨8, y2, pz⟩, ⟨HY.out, HOW.out.1, hpu.out⟩, rfl, ?_⟩
          repeat (first | (with_reducible exact HEW.out) | (with_reducible refine Ext.setCell ?_ (by omega) _))
        · have b8 : (y1 == 8) = false := by simpa using h8
          obtain ⟨q0, q1, q2⟩ := OBf.three
          have r0 := HR.f 0
          have r1 := HR.f 1
          have r2 := HR.f 2
          obtain ⟨s0, s1, s2⟩ := HR.three
          have HRF := ((HR.upd (i := 0) (by simp) (.int .i64 y1)).upd (i := 1) (by simp) (.int .u64 y2)).upd (i := 2) (by simp) (.int .u64 y3)
          obtain ⟨t0, t1, t2⟩ : _ ∧ _ ∧ _ := Cb.three (x := .int .i64 y1) (y := .int .u64 y2) (z := .int .u64 y3) HRF
          have HEW := Lib.hid EW
          clear OBf HR EW HRF 
          go_wp2_with (fail)
          refine bodyPost_ret (v := ov ⟨y1, y2, y3⟩) (by simp [results, Tryz.results20, go_sem, t0, t1, t2]) rfl ⟨⟨y1, y2, y3⟩, ⟨HY.out, HOW.out.1, HOW.out.2⟩, rfl, ?_⟩
          repeat (first | (with_reducible exact HEW.out) | (with_reducible refine Ext.setCell ?_ (by omega) _))
  · go_simp
    have ob0 := Cb.at (B := w.heap.size + 1 + 1 + 1) [.int .i64 0, .int .u64 0, .int .u64 0] rfl (by simp) (X := ((((w.alloc (.cells #[.int .i64 k, .int .i64 p, .int .i64 m] 24)).alloc (.cells #[.int .i64 a, .int .i64 b, .int .i64 c] 22)).alloc (.cells #[.int .i64 0, .int .u64 0, .int .u64 0] 32)).drew)) (t := 32)
    refine hK.out _ _ ⟨⟨Ext.cell (Ext.new _ _) hHeld.1.1, Ext.cell (Ext.new _ _) hHeld.1.2.1, Ext.cell (Ext.new _ _) hHeld.1.2.2⟩, Ext.cell (Ext.new _ _) hHeld.2.1, Ext.cell (Ext.new _ _) hHeld.2.2.1, Ext.cell (Ext.new _ _) hHeld.2.2.2⟩ (fun hHeld => ?_)
    clear hK K
    refine wpAnyH_ready (rs := [3]) (by kernel_rfl) (by simp) ?_
    refine AllReadyH.cons rfl (fun K hK => ?_) AllReadyH.nil
    go_simp
    refine (HC.out _).mono ?_
    rintro e w1 ⟨y1, ya, yb, rfl, e1⟩
    have zz0 := e1.size
    simp only [World.size_alloc, World.size_drew] at zz0
    have ob1 := ob0.ext e1
    refine hK.out _ _ ⟨⟨Ext.cell e1 hHeld.1.1, Ext.cell e1 hHeld.1.2.1, Ext.cell e1 hHeld.1.2.2⟩, Ext.cell e1 hHeld.2.1, Ext.cell e1 hHeld.2.2.1, Ext.cell e1 hHeld.2.2.2⟩ (fun hHeld => ?_)
    clear hK K
    refine wpAnyH_ready (rs := [8]) (by kernel_rfl) (by simp) ?_
    refine AllReadyH.cons rfl (fun K hK => ?_) AllReadyH.nil
    go_simp
    refine (HK.out _).mono ?_
    rintro e w2 ⟨y2, u2, _, rfl, e2⟩
    have zz1 := e2.size
    have ob2 := ob1.ext e2
    refine hK.out _ _ ⟨⟨Ext.cell e2 hHeld.1.1, Ext.cell e2 hHeld.1.2.1, Ext.cell e2 hHeld.1.2.2⟩, Ext.cell e2 hHeld.2.1, Ext.cell e2 hHeld.2.2.1, Ext.cell e2 hHeld.2.2.2⟩ (fun hHeld => ?_)
    clear hK K
    refine wpAnyH_ready (rs := [12]) (by kernel_rfl) (by simp) ?_
    refine AllReadyH.cons rfl (fun K hK => ?_) AllReadyH.nil
    go_simp
    refine (HW.out _).mono ?_
    rintro e w3 ⟨y3, u3, rfl, e3⟩
    have zz2 := e3.size
    have ob3 := ob2.ext e3
    refine hK.out _ _ ⟨⟨Ext.cell e3 hHeld.1.1, Ext.cell e3 hHeld.1.2.1, Ext.cell e3 hHeld.1.2.2⟩, Ext.cell e3 hHeld.2.1, Ext.cell e3 hHeld.2.2.1, Ext.cell e3 hHeld.2.2.2⟩ (fun hHeld => ?_)
    clear hK K
    refine wpAnyH_take (i := 13) (v := .agg #[.int .i64 y1, .int .u64 y2, .int .u64 y3]) rfl (by kernel_rfl) (by kernel_rfl) (by kernel_rfl) (fun _ _ _ h => h) (Or.inl ⟨by kernel_rfl, ?_⟩) (by assumption) ?_
    · rintro w ⟨⟨h1, h2, h3⟩, h4, h5, h6⟩
      go_simp
    obtain ⟨g0, g1, g2⟩ := ob3.three
    have f0 := ob3.f 0
    have f1 := ob3.f 1
    have f2 := ob3.f 2
    refine wpAnyH_ready (rs := [15]) (by kernel_rfl) (by simp) ?_
    refine AllReadyH.cons rfl (fun K hK => ?_) AllReadyH.nil
    go_simp
    have OB := ((ob3.upd (i := 0) (by simp) (.int .i64 y1)).upd (i := 1) (by simp) (.int .u64 y2)).upd (i := 2) (by simp) (.int .u64 y3)
    refine hK.out _ _ (by refine ⟨⟨?_, ?_, ?_⟩, ?_, ?_, ?_⟩ <;> repeat (first | (with_reducible exact hHeld.1.1) | (with_reducible exact hHeld.1.2.1) | (with_reducible exact hHeld.1.2.2) | (with_reducible exact hHeld.2.1) | (with_reducible exact hHeld.2.2.1) | (with_reducible exact hHeld.2.2.2) | (with_reducible refine (cell_far (by omega)).trans ?_))) (fun hHeld => ?_)
    clear hK K
    refine wpAnyH_done (by kernel_rfl) ?_ _
    have hbx : w.heap.size + 1 + 1 < w.heap.size + 1 + 1 + 1 := by omega
    have hbx0 : (((w.alloc (.cells #[.int .i64 k, .int .i64 p, .int .i64 m] 24)).alloc (.cells #[.int .i64 a, .int .i64 b, .int .i64 c] 22)).alloc (.cells #[.int .i64 0, .int .u64 0, .int .u64 0] 32)).heap.size ≤ w.heap.size + 1 + 1 + 1 := by simp only [World.size_alloc]; omega
    have EF : Ext (((w.alloc (.cells #[.int .i64 k, .int .i64 p, .int .i64 m] 24)).alloc (.cells #[.int .i64 a, .int .i64 b, .int .i64 c] 22)).alloc (.cells #[.int .i64 0, .int .u64 0, .int .u64 0] 32)) (((w3.setCell ⟨w.heap.size + 1 + 1 + 1, 0, none⟩ (.int .i64 y1)).setCell ⟨w.heap.size + 1 + 1 + 1, 1, none⟩ (.int .u64 y2)).setCell ⟨w.heap.size + 1 + 1 + 1, 2, none⟩ (.int .u64 y3)) := ((((((Ext.drew (Ext.new _ _)).trans e1).trans e2).trans e3).setCell hbx0 _).setCell hbx0 _).setCell hbx0 _
    have OBf : Cb (((w3.setCell ⟨w.heap.size + 1 + 1 + 1, 0, none⟩ (.int .i64 y1)).setCell ⟨w.heap.size + 1 + 1 + 1, 1, none⟩ (.int .u64 y2)).setCell ⟨w.heap.size + 1 + 1 + 1, 2, none⟩ (.int .u64 y3)) (w.heap.size + 1 + 1 + 1) [.int .i64 y1, .int .u64 y2, .int .u64 y3] := OB
    have HR := HB2.out.ext EF
    have EW := HX.out.trans EF
    clear EF HB0 HB1 HB2 HX g0 g1 g2 f0 f1 f2 OB c0 c1 c2 n0 n1 n2 k08
    have HOW := Lib.hid (And.intro u2 u3)
    have hy1 : I64 y1 := by unfold I64; omega
    have HY := Lib.hid hy1
    clear hy1
    generalize (((w3.setCell ⟨w.heap.size + 1 + 1 + 1, 0, none⟩ (.int .i64 y1)).setCell ⟨w.heap.size + 1 + 1 + 1, 1, none⟩ (.int .u64 y2)).setCell ⟨w.heap.size + 1 + 1 + 1, 2, none⟩ (.int .u64 y3)) = wf at OBf HR EW hHeld ⊢
    obtain ⟨⟨c0, c1, c2⟩, n0, n1, n2⟩ := hHeld
    obtain ⟨v0, v1, v2⟩ := OBf.three
    by_cases h5 : k = 5
    · subst h5
      have OB2 : Cb _ _ [.int .i64 y1, .int .u64 y2, .int .u64 pz] := OBf.upd (i := 2) (by simp) (.int .u64 pz)
      have HR2 := HR.far (B := w.heap.size + 1 + 1 + 1) (by omega) 2 (.int .u64 pz)
      have ff := OBf.f 2
      obtain ⟨q0, q1, q2⟩ := OB2.three
      have r0 := HR2.f 0
      have r1 := HR2.f 1
      have r2 := HR2.f 2
      obtain ⟨s0, s1, s2⟩ := HR2.three
      have HRF := ((HR2.upd (i := 0) (by simp) (.int .i64 y1)).upd (i := 1) (by simp) (.int .u64 y2)).upd (i := 2) (by simp) (.int .u64 pz)
      obtain ⟨t0, t1, t2⟩ : _ ∧ _ ∧ _ := Cb.three (x := .int .i64 y1) (y := .int .u64 y2) (z := .int .u64 pz) HRF
      have HEW := Lib.hid EW
      clear OBf HR EW HRF OB2 HR2
      go_wp2_with (first | (go_at_call 12; (with_reducible refine (HP.out _).mono ?_); rintro e w9 ⟨rfl, rfl⟩))
      refine bodyPost_ret (v := ov ⟨y1, y2, pz⟩) (by simp [results, Tryz.results20, go_sem, t0, t1, t2]) rfl ⟨⟨y1, y2, pz⟩, ⟨HY.out, HOW.out.1, hpu.out⟩, rfl, ?_⟩
      repeat (first | (with_reducible exact HEW.out) | (with_reducible refine Ext.setCell ?_ (by omega) _))
    · have b5 : (k == 5) = false := by simpa using h5
      by_cases h8 : y1 = 8
      · subst h8
        have OB2 : Cb _ _ [.int .i64 8, .int .u64 y2, .int .u64 pz] := OBf.upd (i := 2) (by simp) (.int .u64 pz)
        have HR2 := HR.far (B := w.heap.size + 1 + 1 + 1) (by omega) 2 (.int .u64 pz)
        have ff := OBf.f 2
        obtain ⟨q0, q1, q2⟩ := OB2.three
        have r0 := HR2.f 0
        have r1 := HR2.f 1
        have r2 := HR2.f 2
        obtain ⟨s0, s1, s2⟩ := HR2.three
        have HRF := ((HR2.upd (i := 0) (by simp) (.int .i64 8)).upd (i := 1) (by simp) (.int .u64 y2)).upd (i := 2) (by simp) (.int .u64 pz)
        obtain ⟨t0, t1, t2⟩ : _ ∧ _ ∧ _ := Cb.three (x := .int .i64 8) (y := .int .u64 y2) (z := .int .u64 pz) HRF
        have HEW := Lib.hid EW
        clear OBf HR EW HRF OB2 HR2
        go_wp2_with (first | (go_at_call 12; (with_reducible refine (HP.out _).mono ?_); rintro e w9 ⟨rfl, rfl⟩))
        refine bodyPost_ret (v := ov ⟨8, y2, pz⟩) (by simp [results, Tryz.results20, go_sem, t0, t1, t2]) rfl ⟨⟨8, y2, pz⟩, ⟨HY.out, HOW.out.1, hpu.out⟩, rfl, ?_⟩
        repeat (first | (with_reducible exact HEW.out) | (with_reducible refine Ext.setCell ?_ (by omega) _))
      · have b8 : (y1 == 8) = false := by simpa using h8
        obtain ⟨q0, q1, q2⟩ := OBf.three
        have r0 := HR.f 0
        have r1 := HR.f 1
        have r2 := HR.f 2
        obtain ⟨s0, s1, s2⟩ := HR.three
        have HRF := ((HR.upd (i := 0) (by simp) (.int .i64 y1)).upd (i := 1) (by simp) (.int .u64 y2)).upd (i := 2) (by simp) (.int .u64 y3)
        obtain ⟨t0, t1, t2⟩ : _ ∧ _ ∧ _ := Cb.three (x := .int .i64 y1) (y := .int .u64 y2) (z := .int .u64 y3) HRF
        have HEW := Lib.hid EW
        clear OBf HR EW HRF 
        go_wp2_with (fail)
        refine bodyPost_ret (v := ov ⟨y1, y2, y3⟩) (by simp [results, Tryz.results20, go_sem, t0, t1, t2]) rfl ⟨⟨y1, y2, y3⟩, ⟨HY.out, HOW.out.1, HOW.out.2⟩, rfl, ?_⟩
        repeat (first | (with_reducible exact HEW.out) | (with_reducible refine Ext.setCell ?_ (by omega) _))

end Go.Proofs.YtdipddnnckfnmaaGreat.Law

/- LawTs:
  Slices of triples of ints. No condition.
-/
namespace Go.Proofs.YtdipddnnckfnmaaGreat.Law
open Go.Proofs.YtdipddnnckfnmaaGreat.Aut

/-- A slice of triples of ints. -/
def TS (w : World) (sl : Option Addr) (n : Nat) : Prop := n ≤ 9223372036854775807 ∧ ∀ i, i < n → ∃ x y z : Int, I64 x ∧ I64 y ∧ I64 z ∧ ∃ b o, sl = some ⟨b, o, none⟩ ∧ w.cell? ⟨b, o + i * 3, none⟩ = some (.int .i64 x) ∧ w.cell? ⟨b, o + i * 3 + 1, none⟩ = some (.int .i64 y) ∧ w.cell? ⟨b, o + i * 3 + 2, none⟩ = some (.int .i64 z)
theorem TS.ext {w w' : World} {sl : Option Addr} {n : Nat} (h : TS w sl n) (e : Ext w w') : TS w' sl n := ⟨h.1, fun i hi => by
  obtain ⟨x, y, z, hx, hy, hz, b, o, es, c0, c1, c2⟩ := h.2 i hi
  exact ⟨x, y, z, hx, hy, hz, b, o, es, e.cell c0, e.cell c1, e.cell c2⟩⟩

end Go.Proofs.YtdipddnnckfnmaaGreat.Law

