/-
  Parts of a proof, one behind the other: LawPick, LawRaw, LawTs, LawKey. Each says its own conditions.
-/
import Derived.Test.YtmonkcekkhfafaaGreatDoorM08
import Derived.Test.YtmonkcekkhfafaaGreatDoorM13

/- LawPick:
  What the laws of layer 9 make of a raw number: which of n things it speaks of. Conditions: integers' bounds.
-/
namespace Go.Proofs.YtmonkcekkhfafaaGreatDoor.Law
open Go.RowKit (Below intOf)
open Go.Proofs.YtmonkcekkhfafaaGreatDoor.Aut

/-- Which of n things a raw number speaks of. -/
def pickZ (c n : Int) : Int := (if c < 0 then -(c + 1) else c) % n
theorem pick_ge (c : Int) {n : Int} (h : 0 < n) : 0 ≤ pickZ c n := Int.emod_nonneg _ (by omega)
theorem pick_lt (c : Int) {n : Int} (h : 0 < n) : pickZ c n < n := Int.emod_lt_of_pos _ h
theorem pick_nat (c : Int) (n : Nat) (h : 0 < n) : ∃ k : Nat, k < n ∧ pickZ c n = k := by
  have h1 := pick_ge c (n := n) (by omega)
  have h2 := pick_lt c (n := n) (by omega)
  exact ⟨(pickZ c n).toNat, by omega, by omega⟩
/-- A number that is one of them is itself. -/
theorem pick_self {c n : Int} (h0 : 0 ≤ c) (h : c < n) : pickZ c n = c := by
  unfold pickZ; rw [if_neg (by omega), Int.emod_eq_of_lt h0 h]

theorem pick_any (c n : Int) (w : World) (hc : I64 c) (h0 : 0 < n) :
    Calls Tryz.prog 28 #[.int .i64 c, .int .i64 n] w fun e w' => e = .returned (.int .i64 (pickZ c n)) ∧ w = w' := by
  have hn0 : n ≠ 0 := by omega
  unfold pickZ
  by_cases hneg : c < 0
  · rw [if_pos hneg]
    have e1 : RowKit.Hid (RowKit.wrap64 (-(RowKit.wrap64 (c + 1))) = -(c + 1)) := Lib.hid (by unfold I64 at hc; simp only [RowKit.wrap64]; omega)
    have hd : 0 ≤ -(c + 1) := by omega
    have hb : decide (c < 0) = true := decide_eq_true hneg
    have e3 : RowKit.Hid ((-(c + 1)).tmod n = (-(c + 1)) % n) := Lib.hid (Int.tmod_eq_emod_of_nonneg hd)
    clear hneg hd h0
    go_enter Tryz.func28, Tryz.ntmps28
    go_wp2
    go_ret
    refine ⟨?_, rfl⟩
    show Ending.returned (.int .i64 ((RowKit.wrap64 (-RowKit.wrap64 (c + 1))).tmod n)) = _
    rw [e1.out, e3.out]
  · rw [if_neg hneg]
    have hb : decide (c < 0) = false := decide_eq_false hneg
    have hd : 0 ≤ c := by omega
    clear hneg
    go_enter Tryz.func28, Tryz.ntmps28
    go_wp2
    go_ret
    exact ⟨rfl, rfl⟩

end Go.Proofs.YtmonkcekkhfafaaGreatDoor.Law

/- LawRaw:
  What the laws of layer 9 make of raw numbers: a configuration, a word. Conditions: integers' bounds.
-/
namespace Go.Proofs.YtmonkcekkhfafaaGreatDoor.Law
open Go.RowKit (Below intOf)
open Go.Proofs.YtmonkcekkhfafaaGreatDoor.Aut
open Go.Proofs.YtmonkcekkhfafaaGreatDoor.Reg (cf bx fits_any)

set_option maxHeartbeats 4000000 in
set_option maxRecDepth 100000 in
theorem conf_any (a b c : Int) (w : World) (ha : I64 a) (hb : I64 b) (hc : I64 c) :
    Calls Tryz.prog 10 #[.agg #[.int .i64 a, .int .i64 b, .int .i64 c]] w fun e w' => e = .returned (cf (1 + pickZ a 5) (1 + pickZ b 16) (1 + pickZ c 12)) ∧ Ext w w' := by
  have HA := Lib.hid (fun W => pick_any a 5 W ha (by decide))
  have HB := Lib.hid (fun W => pick_any b 16 W hb (by decide))
  have HC := Lib.hid (fun W => pick_any c 12 W hc (by decide))
  have a0 := pick_ge a (n := 5) (by decide)
  have a1 := pick_lt a (n := 5) (by decide)
  have b0 := pick_ge b (n := 16) (by decide)
  have b1 := pick_lt b (n := 16) (by decide)
  have c0 := pick_ge c (n := 12) (by decide)
  have c1 := pick_lt c (n := 12) (by decide)
  generalize pickZ a 5 = x at *
  generalize pickZ b 16 = y at *
  generalize pickZ c 12 = z at *
  have ex : IntKind.i64.wrap (1 + x) = 1 + x := by simp only [IntKind.wrap_i64]; omega
  have ey : IntKind.i64.wrap (1 + y) = 1 + y := by simp only [IntKind.wrap_i64]; omega
  have ez : IntKind.i64.wrap (1 + z) = 1 + z := by simp only [IntKind.wrap_i64]; omega
  clear ha hb hc
  dsimp only [cf] at *
  go_enter Tryz.func10, Tryz.ntmps10
  go_wp2_with (fail)
  go_region_held3 (fun w' => w'.cell? ⟨w.heap.size, 0, none⟩ = some (.int .i64 a) ∧ w'.cell? ⟨w.heap.size, 1, none⟩ = some (.int .i64 b) ∧ w'.cell? ⟨w.heap.size, 2, none⟩ = some (.int .i64 c))
    (first | go_keep)
    (first
      | (go_at_call 28; (with_reducible refine (HA.out _).mono ?_); rintro e w1 ⟨rfl, rfl⟩)
      | (go_at_call 28; (with_reducible refine (HB.out _).mono ?_); rintro e w1 ⟨rfl, rfl⟩)
      | (go_at_call 28; (with_reducible refine (HC.out _).mono ?_); rintro e w1 ⟨rfl, rfl⟩))
  rename_i hq
  clear hq
  go_wp2_with (fail)
  exact bodyPost_ret (v := .agg #[.int .i64 (1 + x), .int .i64 (1 + y), .int .i64 (1 + z)]) (by simp [results, Tryz.results10, go_sem]) rfl ⟨rfl, by repeat (first | with_reducible exact Ext.refl _ | with_reducible refine Ext.alloc ?_ _ | with_reducible refine Ext.drew ?_)⟩

/-- A word that Word may answer. -/
def wordL (w : Int) : List Int := [0, 9223372036854775808, 9221120237041090561, 9221120237041090566, 18446744073709551615, 9218868437227405312, 18442240474082181120, 4607182418800017408, 13830554455654793216, 4609434218613702656, 1, 9223372036854775809, 9218868437227405311, w]
theorem wordL_u (w : Int) (h : U64 w) : ∀ x ∈ wordL w, U64 x := by
  intro x hx
  unfold wordL at hx
  simp only [List.mem_cons, List.not_mem_nil, or_false] at hx
  unfold U64 at *
  omega
/-- It answers a word. -/
def WordE (w : World) (e : Ending) (w' : World) : Prop := ∃ x, U64 x ∧ e = .returned (.int .u64 x) ∧ Ext w w'
set_option maxHeartbeats 4000000 in
set_option maxRecDepth 100000 in
theorem word_any (n x : Int) (w : World) (hn : I64 n) (hx : U64 x) :
    Calls Tryz.prog 63 #[.int .i64 n, .int .u64 x] w (WordE w) := by
  have HP := Lib.hid (fun W => pick_any n 14 W hn (by decide))
  obtain ⟨k, hk, ek⟩ := pick_nat n 14 (by decide)
  rw [show ((14 : Nat) : Int) = 14 from rfl] at ek
  rw [ek] at HP
  have hL := WS.row w (wordL x) 14 rfl (by decide) (wordL_u x hx) #[.int .u64 0, .int .u64 9223372036854775808, .int .u64 9221120237041090561, .int .u64 9221120237041090566, .int .u64 18446744073709551615, .int .u64 9218868437227405312, .int .u64 18442240474082181120, .int .u64 4607182418800017408, .int .u64 13830554455654793216, .int .u64 4609434218613702656, .int .u64 1, .int .u64 9223372036854775809, .int .u64 9218868437227405311, .int .u64 x] rfl
  obtain ⟨y, hy, uy, b, o, e0, hc⟩ := hL.get hk
  cases e0
  rw [Nat.zero_add] at hc
  have UY := Lib.hid uy
  clear hL hy uy hn hx ek
  go_enter Tryz.func63, Tryz.ntmps63
  go_wp2_with (first | (go_at_call 28; (with_reducible refine (HP.out _).mono ?_); rintro e w1 ⟨rfl, rfl⟩))
  go_ret
  exact ⟨y, UY.out, rfl, Ext.new _ _⟩

end Go.Proofs.YtmonkcekkhfafaaGreatDoor.Law

/- LawTs:
  Slices of triples of ints. No condition.
-/
namespace Go.Proofs.YtmonkcekkhfafaaGreatDoor.Law
open Go.Proofs.YtmonkcekkhfafaaGreatDoor.Aut

/-- A slice of triples of ints. -/
def TS (w : World) (sl : Option Addr) (n : Nat) : Prop := n ≤ 9223372036854775807 ∧ ∀ i, i < n → ∃ x y z : Int, I64 x ∧ I64 y ∧ I64 z ∧ ∃ b o, sl = some ⟨b, o, none⟩ ∧ w.cell? ⟨b, o + i * 3, none⟩ = some (.int .i64 x) ∧ w.cell? ⟨b, o + i * 3 + 1, none⟩ = some (.int .i64 y) ∧ w.cell? ⟨b, o + i * 3 + 2, none⟩ = some (.int .i64 z)
theorem TS.ext {w w' : World} {sl : Option Addr} {n : Nat} (h : TS w sl n) (e : Ext w w') : TS w' sl n := ⟨h.1, fun i hi => by
  obtain ⟨x, y, z, hx, hy, hz, b, o, es, c0, c1, c2⟩ := h.2 i hi
  exact ⟨x, y, z, hx, hy, hz, b, o, es, e.cell c0, e.cell c1, e.cell c2⟩⟩

end Go.Proofs.YtmonkcekkhfafaaGreatDoor.Law

/- LawKey:
  What the laws of layer 9 make of raw numbers: a key, a code, a call. Conditions: integers' bounds.
-/
namespace Go.Proofs.YtmonkcekkhfafaaGreatDoor.Law
open Go.RowKit (Below intOf)
open Go.Proofs.YtmonkcekkhfafaaGreatDoor.Aut
open Go.Proofs.YtmonkcekkhfafaaGreatDoor.Reg (cf bx fits_any)

/-- It answers a key: of a raw number from 0 to 12 one that may be. -/
def KeyE (k n : Int) (w : World) (e : Ending) (w' : World) : Prop := ∃ y, U64 y ∧ (k ≠ 5 → 0 ≤ n → n < 13 → mayK k y = true) ∧ e = .returned (.int .u64 y) ∧ Ext w w'
set_option maxHeartbeats 4000000 in
set_option maxRecDepth 100000 in
theorem key_any (k p m n x : Int) (w : World) (hn : I64 n) (hx : U64 x) :
    Calls Tryz.prog 62 #[cf k p m, .int .i64 n, .int .u64 x] w (KeyE k n w) := by
  have X0 := Lib.hid (Ext.new w (bx k p m))
  by_cases h4 : k = 4
  · subst h4
    have HW := Lib.hid (word_any n x (w.alloc (bx 4 p m)) hn hx)
    clear hn hx
    dsimp only [cf, bx] at *
    go_enter Tryz.func62, Tryz.ntmps62
    go_wp2_with (first | (go_at_call 63; (with_reducible refine HW.out.mono ?_); rintro e w1 ⟨y, uy, rfl, hE⟩; replace hE := Lib.hid hE; replace uy := Lib.hid uy))
    go_ret
    exact ⟨y, uy.out, fun _ _ _ => rfl, rfl, X0.out.trans hE.out⟩
  · have b4 : (k == 4) = false := by simpa using h4
    have HP := Lib.hid (fun W => pick_any n 14 W hn (by decide))
    obtain ⟨K, hK, eK⟩ := pick_nat n 14 (by decide)
    rw [show ((14 : Nat) : Int) = 14 from rfl] at eK
    have hself : RowKit.Hid (0 ≤ n → n < 13 → K < 13) := Lib.hid fun h0 h1 => by
      have := pick_self h0 (show n < 14 by omega)
      omega
    rw [eK] at HP
    have hux := Lib.hid hx
    have hmay : ∀ y : Int, y ≤ 4611686018427387904 → mayK k y = true := fun y hy => by unfold mayK; rw [if_neg h4]; exact decide_eq_true hy
    have HM := Lib.hid hmay
    clear eK hn hx hmay h4
    by_cases h13 : K = 13
    · subst h13
      dsimp only [cf, bx] at *
      go_enter Tryz.func62, Tryz.ntmps62
      go_wp2_with (first | (go_at_call 28; (with_reducible refine (HP.out _).mono ?_); rintro e w1 ⟨rfl, rfl⟩))
      go_ret
      exact ⟨x, hux.out, fun _ h0 h1 => absurd (hself.out h0 h1) (by omega), rfl, X0.out⟩
    · have b13 : ((K : Int) == 13) = false := by simp; omega
      have hk : RowKit.Hid (U64 4611686018427387904 ∧ U64 (K : Int)) := Lib.hid (by unfold U64; omega)
      have hwk : IntKind.u64.wrap (K : Int) = (K : Int) := by simp only [IntKind.wrap_u64]; omega
      by_cases h12 : K = 12
      · subst h12
        by_cases h5 : k = 5
        · subst h5
          dsimp only [cf, bx] at *
          go_enter Tryz.func62, Tryz.ntmps62
          go_wp2_with (first | (go_at_call 28; (with_reducible refine (HP.out _).mono ?_); rintro e w1 ⟨rfl, rfl⟩))
          go_ret
          exact ⟨12, hk.out.2, fun h => absurd rfl h, rfl, X0.out⟩
        · have b5 : (k != 5) = true := by simpa using h5
          clear h5
          dsimp only [cf, bx] at *
          go_enter Tryz.func62, Tryz.ntmps62
          go_wp2_with (first | (go_at_call 28; (with_reducible refine (HP.out _).mono ?_); rintro e w1 ⟨rfl, rfl⟩))
          go_ret
          exact ⟨4611686018427387904, hk.out.1, fun _ _ _ => HM.out _ (Int.le_refl _), rfl, X0.out⟩
      · have b12 : ((K : Int) == 12) = false := by simp; omega
        clear h13 h12
        dsimp only [cf, bx] at *
        go_enter Tryz.func62, Tryz.ntmps62
        go_wp2_with (first | (go_at_call 28; (with_reducible refine (HP.out _).mono ?_); rintro e w1 ⟨rfl, rfl⟩))
        go_ret
        exact ⟨(K : Int), hk.out.2, fun _ _ _ => HM.out _ (by omega), rfl, X0.out⟩

/-- It answers a code. -/
def CodeE (w : World) (e : Ending) (w' : World) : Prop := ∃ c : Int, 0 ≤ c ∧ c < 260 ∧ e = .returned (.int .i64 c) ∧ Ext w w'
set_option maxHeartbeats 4000000 in
set_option maxRecDepth 100000 in
theorem code_1 (p m n : Int) (w : World) (hn : I64 n) : Calls Tryz.prog 61 #[cf 1 p m, .int .i64 n] w (CodeE w) := by
  have HP := Lib.hid (fun W => pick_any n 16 W hn (by decide))
  have HQ := Lib.hid (fun W => pick_any n 260 W hn (by decide))
  have q0 := pick_ge n (n := 260) (by decide)
  have q1 := pick_lt n (n := 260) (by decide)
  generalize pickZ n 260 = q at *
  obtain ⟨K, hK, eK⟩ := pick_nat n 16 (by decide)
  rw [show ((16 : Nat) : Int) = 16 from rfl] at eK
  rw [eK] at HP
  clear eK hn
  by_cases hc : K = 15
  · subst hc
    clear hK
    dsimp only [cf, bx] at *
    go_enter Tryz.func61, Tryz.ntmps61
    go_wp2_with (first
      | (go_at_call 28; (with_reducible refine (HP.out _).mono ?_); rintro e w1 ⟨rfl, rfl⟩)
      | (go_at_call 28; (with_reducible refine (HQ.out _).mono ?_); rintro e w1 ⟨rfl, rfl⟩))
    go_ret
    exact ⟨q, q0, q1, rfl, by repeat (first | with_reducible exact Ext.refl _ | with_reducible refine Ext.alloc ?_ _)⟩
  · have bc : ((K : Int) == 15) = false := by simp; omega
    obtain ⟨J, hJ⟩ : ∃ J : Nat, K % 5 = J := ⟨_, rfl⟩
    have hJl : J < 5 := by omega
    have hmod : (K : Int) % 5 = (J : Int) := by omega
    have hrow := NS.row (w.alloc (bx 1 p m)) [1, 2, 3, 4, 4] 5 rfl (by decide) (by intro x hx; unfold I64; simp only [List.mem_cons, List.not_mem_nil, or_false] at hx; omega) #[.int .i64 1, .int .i64 2, .int .i64 3, .int .i64 4, .int .i64 4] rfl
    obtain ⟨y, hy, _, b, o, e0, hcell⟩ := hrow.get hJl
    cases e0
    rw [Nat.zero_add] at hcell
    have hy2 : RowKit.Hid (0 ≤ y ∧ y < 260) := Lib.hid (by
      have := List.mem_of_getElem? hy
      simp only [List.mem_cons, List.not_mem_nil, or_false] at this
      omega)
    simp only [World.size_alloc] at hcell
    clear hrow hy hc hJ q0 q1 HQ
    dsimp only [cf, bx] at *
    go_enter Tryz.func61, Tryz.ntmps61
    go_wp2_with (first
      | (go_at_call 28; (with_reducible refine (HP.out _).mono ?_); rintro e w1 ⟨rfl, rfl⟩))
    go_ret
    exact ⟨y, hy2.out.1, hy2.out.2, rfl, by repeat (first | with_reducible exact Ext.refl _ | with_reducible refine Ext.alloc ?_ _)⟩
set_option maxHeartbeats 4000000 in
set_option maxRecDepth 100000 in
theorem code_2 (p m n : Int) (w : World) (hn : I64 n) : Calls Tryz.prog 61 #[cf 2 p m, .int .i64 n] w (CodeE w) := by
  have HP := Lib.hid (fun W => pick_any n 19 W hn (by decide))
  have HQ := Lib.hid (fun W => pick_any n 260 W hn (by decide))
  have q0 := pick_ge n (n := 260) (by decide)
  have q1 := pick_lt n (n := 260) (by decide)
  generalize pickZ n 260 = q at *
  obtain ⟨K, hK, eK⟩ := pick_nat n 19 (by decide)
  rw [show ((19 : Nat) : Int) = 19 from rfl] at eK
  rw [eK] at HP
  clear eK hn
  by_cases hc : K = 18
  · subst hc
    clear hK
    dsimp only [cf, bx] at *
    go_enter Tryz.func61, Tryz.ntmps61
    go_wp2_with (first
      | (go_at_call 28; (with_reducible refine (HP.out _).mono ?_); rintro e w1 ⟨rfl, rfl⟩)
      | (go_at_call 28; (with_reducible refine (HQ.out _).mono ?_); rintro e w1 ⟨rfl, rfl⟩))
    go_ret
    exact ⟨q, q0, q1, rfl, by repeat (first | with_reducible exact Ext.refl _ | with_reducible refine Ext.alloc ?_ _)⟩
  · have bc : ((K : Int) == 18) = false := by simp; omega
    obtain ⟨J, hJ⟩ : ∃ J : Nat, K % 6 = J := ⟨_, rfl⟩
    have hJl : J < 6 := by omega
    have hmod : (K : Int) % 6 = (J : Int) := by omega
    have hrow := NS.row ((w.alloc (bx 2 p m)).alloc (.cells #[.int .i64 1, .int .i64 2, .int .i64 3, .int .i64 4, .int .i64 4] 3)) [6, 6, 5, 7, 8, 9] 6 rfl (by decide) (by intro x hx; unfold I64; simp only [List.mem_cons, List.not_mem_nil, or_false] at hx; omega) #[.int .i64 6, .int .i64 6, .int .i64 5, .int .i64 7, .int .i64 8, .int .i64 9] rfl
    obtain ⟨y, hy, _, b, o, e0, hcell⟩ := hrow.get hJl
    cases e0
    rw [Nat.zero_add] at hcell
    have hy2 : RowKit.Hid (0 ≤ y ∧ y < 260) := Lib.hid (by
      have := List.mem_of_getElem? hy
      simp only [List.mem_cons, List.not_mem_nil, or_false] at this
      omega)
    simp only [World.size_alloc] at hcell
    clear hrow hy hc hJ q0 q1 HQ
    dsimp only [cf, bx] at *
    go_enter Tryz.func61, Tryz.ntmps61
    go_wp2_with (first
      | (go_at_call 28; (with_reducible refine (HP.out _).mono ?_); rintro e w1 ⟨rfl, rfl⟩))
    go_ret
    exact ⟨y, hy2.out.1, hy2.out.2, rfl, by repeat (first | with_reducible exact Ext.refl _ | with_reducible refine Ext.alloc ?_ _)⟩
set_option maxHeartbeats 4000000 in
set_option maxRecDepth 100000 in
theorem code_3 (p m n : Int) (w : World) (hn : I64 n) : Calls Tryz.prog 61 #[cf 3 p m, .int .i64 n] w (CodeE w) := by
  have HP := Lib.hid (fun W => pick_any n 19 W hn (by decide))
  have HQ := Lib.hid (fun W => pick_any n 260 W hn (by decide))
  have q0 := pick_ge n (n := 260) (by decide)
  have q1 := pick_lt n (n := 260) (by decide)
  generalize pickZ n 260 = q at *
  obtain ⟨K, hK, eK⟩ := pick_nat n 19 (by decide)
  rw [show ((19 : Nat) : Int) = 19 from rfl] at eK
  rw [eK] at HP
  clear eK hn
  by_cases hc : K = 18
  · subst hc
    clear hK
    dsimp only [cf, bx] at *
    go_enter Tryz.func61, Tryz.ntmps61
    go_wp2_with (first
      | (go_at_call 28; (with_reducible refine (HP.out _).mono ?_); rintro e w1 ⟨rfl, rfl⟩)
      | (go_at_call 28; (with_reducible refine (HQ.out _).mono ?_); rintro e w1 ⟨rfl, rfl⟩))
    go_ret
    exact ⟨q, q0, q1, rfl, by repeat (first | with_reducible exact Ext.refl _ | with_reducible refine Ext.alloc ?_ _)⟩
  · have bc : ((K : Int) == 18) = false := by simp; omega
    obtain ⟨J, hJ⟩ : ∃ J : Nat, K % 6 = J := ⟨_, rfl⟩
    have hJl : J < 6 := by omega
    have hmod : (K : Int) % 6 = (J : Int) := by omega
    have hrow := NS.row ((w.alloc (bx 3 p m)).alloc (.cells #[.int .i64 1, .int .i64 2, .int .i64 3, .int .i64 4, .int .i64 4] 3)) [11, 11, 10, 7, 8, 9] 6 rfl (by decide) (by intro x hx; unfold I64; simp only [List.mem_cons, List.not_mem_nil, or_false] at hx; omega) #[.int .i64 11, .int .i64 11, .int .i64 10, .int .i64 7, .int .i64 8, .int .i64 9] rfl
    obtain ⟨y, hy, _, b, o, e0, hcell⟩ := hrow.get hJl
    cases e0
    rw [Nat.zero_add] at hcell
    have hy2 : RowKit.Hid (0 ≤ y ∧ y < 260) := Lib.hid (by
      have := List.mem_of_getElem? hy
      simp only [List.mem_cons, List.not_mem_nil, or_false] at this
      omega)
    simp only [World.size_alloc] at hcell
    clear hrow hy hc hJ q0 q1 HQ
    dsimp only [cf, bx] at *
    go_enter Tryz.func61, Tryz.ntmps61
    go_wp2_with (first
      | (go_at_call 28; (with_reducible refine (HP.out _).mono ?_); rintro e w1 ⟨rfl, rfl⟩))
    go_ret
    exact ⟨y, hy2.out.1, hy2.out.2, rfl, by repeat (first | with_reducible exact Ext.refl _ | with_reducible refine Ext.alloc ?_ _)⟩
set_option maxHeartbeats 4000000 in
set_option maxRecDepth 100000 in
theorem code_4 (p m n : Int) (w : World) (hn : I64 n) : Calls Tryz.prog 61 #[cf 4 p m, .int .i64 n] w (CodeE w) := by
  have HP := Lib.hid (fun W => pick_any n 19 W hn (by decide))
  have HQ := Lib.hid (fun W => pick_any n 260 W hn (by decide))
  have q0 := pick_ge n (n := 260) (by decide)
  have q1 := pick_lt n (n := 260) (by decide)
  generalize pickZ n 260 = q at *
  obtain ⟨K, hK, eK⟩ := pick_nat n 19 (by decide)
  rw [show ((19 : Nat) : Int) = 19 from rfl] at eK
  rw [eK] at HP
  clear eK hn
  by_cases hc : K = 18
  · subst hc
    clear hK
    dsimp only [cf, bx] at *
    go_enter Tryz.func61, Tryz.ntmps61
    go_wp2_with (first
      | (go_at_call 28; (with_reducible refine (HP.out _).mono ?_); rintro e w1 ⟨rfl, rfl⟩)
      | (go_at_call 28; (with_reducible refine (HQ.out _).mono ?_); rintro e w1 ⟨rfl, rfl⟩))
    go_ret
    exact ⟨q, q0, q1, rfl, by repeat (first | with_reducible exact Ext.refl _ | with_reducible refine Ext.alloc ?_ _)⟩
  · have bc : ((K : Int) == 18) = false := by simp; omega
    obtain ⟨J, hJ⟩ : ∃ J : Nat, K % 6 = J := ⟨_, rfl⟩
    have hJl : J < 6 := by omega
    have hmod : (K : Int) % 6 = (J : Int) := by omega
    have hrow := NS.row ((w.alloc (bx 4 p m)).alloc (.cells #[.int .i64 1, .int .i64 2, .int .i64 3, .int .i64 4, .int .i64 4] 3)) [11, 11, 10, 7, 8, 9] 6 rfl (by decide) (by intro x hx; unfold I64; simp only [List.mem_cons, List.not_mem_nil, or_false] at hx; omega) #[.int .i64 11, .int .i64 11, .int .i64 10, .int .i64 7, .int .i64 8, .int .i64 9] rfl
    obtain ⟨y, hy, _, b, o, e0, hcell⟩ := hrow.get hJl
    cases e0
    rw [Nat.zero_add] at hcell
    have hy2 : RowKit.Hid (0 ≤ y ∧ y < 260) := Lib.hid (by
      have := List.mem_of_getElem? hy
      simp only [List.mem_cons, List.not_mem_nil, or_false] at this
      omega)
    simp only [World.size_alloc] at hcell
    clear hrow hy hc hJ q0 q1 HQ
    dsimp only [cf, bx] at *
    go_enter Tryz.func61, Tryz.ntmps61
    go_wp2_with (first
      | (go_at_call 28; (with_reducible refine (HP.out _).mono ?_); rintro e w1 ⟨rfl, rfl⟩))
    go_ret
    exact ⟨y, hy2.out.1, hy2.out.2, rfl, by repeat (first | with_reducible exact Ext.refl _ | with_reducible refine Ext.alloc ?_ _)⟩
set_option maxHeartbeats 4000000 in
set_option maxRecDepth 100000 in
theorem code_5 (p m n : Int) (w : World) (hn : I64 n) : Calls Tryz.prog 61 #[cf 5 p m, .int .i64 n] w (CodeE w) := by
  have HP := Lib.hid (fun W => pick_any n 22 W hn (by decide))
  have HQ := Lib.hid (fun W => pick_any n 260 W hn (by decide))
  have q0 := pick_ge n (n := 260) (by decide)
  have q1 := pick_lt n (n := 260) (by decide)
  generalize pickZ n 260 = q at *
  obtain ⟨K, hK, eK⟩ := pick_nat n 22 (by decide)
  rw [show ((22 : Nat) : Int) = 22 from rfl] at eK
  rw [eK] at HP
  clear eK hn
  by_cases hc : K = 21
  · subst hc
    clear hK
    dsimp only [cf, bx] at *
    go_enter Tryz.func61, Tryz.ntmps61
    go_wp2_with (first
      | (go_at_call 28; (with_reducible refine (HP.out _).mono ?_); rintro e w1 ⟨rfl, rfl⟩)
      | (go_at_call 28; (with_reducible refine (HQ.out _).mono ?_); rintro e w1 ⟨rfl, rfl⟩))
    go_ret
    exact ⟨q, q0, q1, rfl, by repeat (first | with_reducible exact Ext.refl _ | with_reducible refine Ext.alloc ?_ _)⟩
  · have bc : ((K : Int) == 21) = false := by simp; omega
    obtain ⟨J, hJ⟩ : ∃ J : Nat, K % 7 = J := ⟨_, rfl⟩
    have hJl : J < 7 := by omega
    have hmod : (K : Int) % 7 = (J : Int) := by omega
    have hrow := NS.row ((w.alloc (bx 5 p m)).alloc (.cells #[.int .i64 1, .int .i64 2, .int .i64 3, .int .i64 4, .int .i64 4] 3)) [12, 12, 12, 14, 15, 16, 13] 7 rfl (by decide) (by intro x hx; unfold I64; simp only [List.mem_cons, List.not_mem_nil, or_false] at hx; omega) #[.int .i64 12, .int .i64 12, .int .i64 12, .int .i64 14, .int .i64 15, .int .i64 16, .int .i64 13] rfl
    obtain ⟨y, hy, _, b, o, e0, hcell⟩ := hrow.get hJl
    cases e0
    rw [Nat.zero_add] at hcell
    have hy2 : RowKit.Hid (0 ≤ y ∧ y < 260) := Lib.hid (by
      have := List.mem_of_getElem? hy
      simp only [List.mem_cons, List.not_mem_nil, or_false] at this
      omega)
    simp only [World.size_alloc] at hcell
    clear hrow hy hc hJ q0 q1 HQ
    dsimp only [cf, bx] at *
    go_enter Tryz.func61, Tryz.ntmps61
    go_wp2_with (first
      | (go_at_call 28; (with_reducible refine (HP.out _).mono ?_); rintro e w1 ⟨rfl, rfl⟩))
    go_ret
    exact ⟨y, hy2.out.1, hy2.out.2, rfl, by repeat (first | with_reducible exact Ext.refl _ | with_reducible refine Ext.alloc ?_ _)⟩

theorem code_any {k p m : Int} (n : Int) (w : World) (hf : fits k p m = true) (hn : I64 n) : Calls Tryz.prog 61 #[cf k p m, .int .i64 n] w (CodeE w) := by
  have := fits_of hf
  have hk : k = 1 ∨ k = 2 ∨ k = 3 ∨ k = 4 ∨ k = 5 := by omega
  rcases hk with rfl | rfl | rfl | rfl | rfl
  · exact code_1 p m n w hn
  · exact code_2 p m n w hn
  · exact code_3 p m n w hn
  · exact code_4 p m n w hn
  · exact code_5 p m n w hn

end Go.Proofs.YtmonkcekkhfafaaGreatDoor.Law

