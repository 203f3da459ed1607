/-
  The law MixOrder is true for every input: any three words, any int; the package variable rounds holds what its initialiser lays (the card ties it to the text).
-/
import Derived.Test.YthgjmimniibmlaaDoorCards
import Derived.Test.YthgjmimniibmlaaDoorTie
import Derived.WalkKit
import Derived.ProofKit
import Derived.OpenShut
import Derived.Deep.DeepHandedRow
import Derived.Test.YthgjmimniibmlaaDoorLaid
namespace Go.Proofs.YthgjmimniibmlaaDoor.mixOrder
open Go.ChangeShapes Go.WideShapes Go.ChangeAt Go.RowKit

theorem slot_one (x : Int) : slot x 1 = 0 := by
  unfold slot; rw [if_neg (by omega)]; omega
theorem slot_twice (x m : Int) (h : 1 ≤ m) : slot x (2 * m) % m = slot x m := by
  unfold slot
  rw [if_neg (by omega), if_neg (by omega)]
  exact Int.emod_emod_of_dvd _ ⟨2, by omega⟩

set_option maxHeartbeats 4000000 in
theorem core (a b c m : Int) (W : World) (hK : Kept W W) (a0 : 0 ≤ a) (a1 : a < 18446744073709551616) (b0 : 0 ≤ b) (b1 : b < 18446744073709551616) (c0 : 0 ≤ c) (c1 : c < 18446744073709551616)
    (m0 : -9223372036854775808 ≤ m) (m1 : m < 9223372036854775808)
    (h : decide (mixed b < mixed a) = false ∨ (decide (mixed b < mixed a) = true ∧ decide (mixed c < mixed b) = false) ∨ (decide (mixed b < mixed a) = true ∧ decide (mixed c < mixed b) = true ∧ decide (mixed c < mixed a) = true)) :
    Calls Tryd.prog 5 #[.int .u64 a, .int .u64 b, .int .u64 c, .int .i64 m] W fun e w' => e = .returned (.bool true) ∧ Grown W w' := by
  have s1 := slot_one a
  by_cases hm : m < 1
  · have s0 : slot a m = 0 := by unfold slot; rw [if_pos hm]
    rcases h with h | ⟨h, h'⟩ | ⟨h, h', h''⟩
    all_goals go_enter Tryd.func5, Tryd.ntmps5
    all_goals go_wp2_with (first
        | (go_at_call 7; with_reducible refine (awake_kept W _ (by assumption)).mono ?_; rintro e w' ⟨rfl, hK⟩)
        | (go_at_call 8; with_reducible refine (mix_kept _ W _ (by assumption) (by omega) (by omega)).mono ?_; rintro e w' ⟨rfl, hK⟩)
        | (go_at_call 10; with_reducible refine (unmix_kept _ W _ (by assumption) (by omega) (by omega)).mono ?_; rintro e w' ⟨rfl, hK⟩)
        | (go_at_call 12; with_reducible refine (slot_kept _ _ W _ (by assumption) (by omega) (by omega) (by omega) (by omega)).mono ?_; rintro e w' ⟨rfl, hK⟩)
        | (go_at_call 14; with_reducible refine (before_kept _ _ W _ (by assumption) (by omega) (by omega) (by omega) (by omega)).mono ?_; rintro e w' ⟨rfl, hK⟩))
    all_goals go_ret
    all_goals exact ⟨rfl, Kept.grown (by assumption)⟩
  · have hm' : 1 ≤ m := by omega
    have sb := slot_bd a m hm'
    by_cases hb : 2305843009213693952 < m
    · rcases h with h | ⟨h, h'⟩ | ⟨h, h', h''⟩
      all_goals go_enter Tryd.func5, Tryd.ntmps5
      all_goals go_wp2_with (first
        | (go_at_call 7; with_reducible refine (awake_kept W _ (by assumption)).mono ?_; rintro e w' ⟨rfl, hK⟩)
        | (go_at_call 8; with_reducible refine (mix_kept _ W _ (by assumption) (by omega) (by omega)).mono ?_; rintro e w' ⟨rfl, hK⟩)
        | (go_at_call 10; with_reducible refine (unmix_kept _ W _ (by assumption) (by omega) (by omega)).mono ?_; rintro e w' ⟨rfl, hK⟩)
        | (go_at_call 12; with_reducible refine (slot_kept _ _ W _ (by assumption) (by omega) (by omega) (by omega) (by omega)).mono ?_; rintro e w' ⟨rfl, hK⟩)
        | (go_at_call 14; with_reducible refine (before_kept _ _ W _ (by assumption) (by omega) (by omega) (by omega) (by omega)).mono ?_; rintro e w' ⟨rfl, hK⟩))
      all_goals go_ret
      all_goals exact ⟨rfl, Kept.grown (by assumption)⟩
    · have sb2 := slot_bd a (2 * m) (by omega)
      have s2 := slot_twice a m hm'
      rcases h with h | ⟨h, h'⟩ | ⟨h, h', h''⟩
      all_goals go_enter Tryd.func5, Tryd.ntmps5
      all_goals go_wp2_with (first
        | (go_at_call 7; with_reducible refine (awake_kept W _ (by assumption)).mono ?_; rintro e w' ⟨rfl, hK⟩)
        | (go_at_call 8; with_reducible refine (mix_kept _ W _ (by assumption) (by omega) (by omega)).mono ?_; rintro e w' ⟨rfl, hK⟩)
        | (go_at_call 10; with_reducible refine (unmix_kept _ W _ (by assumption) (by omega) (by omega)).mono ?_; rintro e w' ⟨rfl, hK⟩)
        | (go_at_call 12; with_reducible refine (slot_kept _ _ W _ (by assumption) (by omega) (by omega) (by omega) (by omega)).mono ?_; rintro e w' ⟨rfl, hK⟩)
        | (go_at_call 14; with_reducible refine (before_kept _ _ W _ (by assumption) (by omega) (by omega) (by omega) (by omega)).mono ?_; rintro e w' ⟨rfl, hK⟩))
      all_goals go_ret
      all_goals exact ⟨rfl, Kept.grown (by assumption)⟩
theorem walk (a : Int) (b : Int) (c : Int) (m : Int) (W : World) (hTab : Tab W) (_a0 : 0 ≤ a) (_a1 : a < 18446744073709551616) (_b0 : 0 ≤ b) (_b1 : b < 18446744073709551616) (_c0 : 0 ≤ c) (_c1 : c < 18446744073709551616) (_m0 : -9223372036854775808 ≤ m) (_m1 : m < 9223372036854775808) :
    Calls Tryd.prog 5 #[.int .u64 a, .int .u64 b, .int .u64 c, .int .i64 m] W fun e w' => e = .returned (.bool true) ∧ Grown W w' := by
  refine core a b c m W (.start hTab) _a0 _a1 _b0 _b1 _c0 _c1 _m0 _m1 ?_
  by_cases h1 : mixed b < mixed a
  · by_cases h2 : mixed c < mixed b
    · exact .inr (.inr ⟨by simpa using h1, by simpa using h2, by simp; omega⟩)
    · exact .inr (.inl ⟨by simpa using h1, by simpa using h2⟩)
  · exact .inl (by simpa using h1)

theorem own : ownKnob Tryd.prog.godebug = none := by kernel_rfl

set_option maxRecDepth 100000 in
theorem contract (H : Type) (enc : TypeId × Value → H) (W : World) (base : Nat) (args : Array Value) (ds gs : List (DataW H)) (before : List MemPlace)
    (hval : ∀ (j : Nat) t v, Tryd.f5.params[j]? = some t → args[j]? = some v → Value.okWide Tryd.prog W .any base t v)
    (hW : DataW.Whole enc Tryd.prog Tryd.f5.params.toList Rows.mixOrderSpec.vars false W args.toList ds gs before) (hL : laidMetH Tryd.prog Rows.mixOrderRow.laid W) :
    Calls Tryd.prog 5 args W fun e W' => ∃ v, e = .returned v ∧ Rows.mixOrderSpec.post enc Tryd.prog Tryd.f5 false true false false W args v W' := by
  have hW' := hW
  obtain ⟨p, q, hA0, hV, rfl, hfz, hnd⟩ := hW
  have hA : DataW.TrodAll enc Tryd.prog W 0 (fun _ => true) true Tryd.f5.params.toList args.toList ds p := hA0
  rw [Tryd.params5] at hA hval
  obtain ⟨v0, vs0, d0, ds0, p0, q0, hargs0, rfl, rfl, h0, r0⟩ := trodAll_cons hA
  obtain ⟨v1, vs1, d1, ds1, p1, q1, hargs1, rfl, rfl, h1, r1⟩ := trodAll_cons r0
  obtain ⟨v2, vs2, d2, ds2, p2, q2, hargs2, rfl, rfl, h2, r2⟩ := trodAll_cons r1
  obtain ⟨v3, vs3, d3, ds3, p3, q3, hargs3, rfl, rfl, h3, r3⟩ := trodAll_cons r2
  obtain ⟨rfl, rfl, rfl⟩ := trodAll_nil r3
  obtain rfl : args = #[v0, v1, v2, v3] := by cases args; simp_all
  obtain ⟨rfl, rfl⟩ := trodVars_none hV
  obtain ⟨a, rfl, rfl, rfl, w0⟩ := open_int Tryd.underlying22 (hval 0 22 v0 rfl rfl) h0
  obtain ⟨b, rfl, rfl, rfl, w1⟩ := open_int Tryd.underlying22 (hval 1 22 v1 rfl rfl) h1
  obtain ⟨c, rfl, rfl, rfl, w2⟩ := open_int Tryd.underlying22 (hval 2 22 v2 rfl rfl) h2
  obtain ⟨m, rfl, rfl, rfl, w3⟩ := open_int Tryd.underlying3 (hval 3 3 v3 rfl rfl) h3
  clear hA0
  simp only [List.append_nil] at hW'
  have b0 := bounds_u64 w0
  have b1 := bounds_u64 w1
  have b2 := bounds_u64 w2
  have b3 := bounds_i64 w3
  refine (walk a b c m W (tab_of_laid hL) (by omega) (by omega) (by omega) (by omega) (by omega) (by omega) (by omega) (by omega)).mono fun e W' ⟨he, hg⟩ => ?_
  subst he
  exact ⟨_, rfl, post_of_same (pa := []) (pv := []) hW' (fun _ _ _ => trodAll_cons_mk (shut_bool Tryd.underlying4 _) trodAll_mk0) (fun _ _ => trodAll_cons_mk (shut_int Tryd.underlying22 w0) (trodAll_cons_mk (shut_int Tryd.underlying22 w1) (trodAll_cons_mk (shut_int Tryd.underlying22 w2) (trodAll_cons_mk (shut_int Tryd.underlying3 w3) trodAll_mk0)))) (fun _ _ => rfl) rfl
    (hg.frame _) hg.2.1 (ok_one (by kernel_rfl) rfl (okWide_bool_mk Tryd.underlying4 _))⟩

noncomputable def laidWorld (os : Os) : World :=
  { World.holding Tryd.prog os ⟨#[], #[], []⟩ with heap := (World.holding Tryd.prog os ⟨#[], #[], []⟩).heap.modify 0 fun
      | .cells _ t frozen => .cells #[.int .u64 30, .int .u64 13787848793156543929, .int .u64 10871156337175269513, .int .u64 27, .int .u64 10723151780598845931, .int .u64 3573116690164977347, .int .u64 31, .int .u64 1, .int .u64 1] t frozen
      | o => o }
theorem laid_met (os : Os) : laidMet Tryd.prog Rows.mixOrderRow.laid ((laidWorld os).forCall (fun _ _ => 0) ⟨#[], #[.int .u64 0, .int .u64 0, .int .u64 0, .int .i64 0], []⟩).memory :=
  laidMet_of_run' 8 (by kernel_rfl) (by kernel_rfl)
theorem reads (os : Os) {H : Type} (enc : TypeId × Value → H) : ∃ places, DataW.whole enc Tryd.prog ((laidWorld os).forCall (fun _ _ => 0) ⟨#[], #[.int .u64 0, .int .u64 0, .int .u64 0, .int .i64 0], []⟩).memory Tryd.f5.params.toList Rows.mixOrderSpec.vars false (#[.int .u64 0, .int .u64 0, .int .u64 0, .int .i64 0] : Array Value).toList 8 = some ([.lit (.int .u64 0), .lit (.int .u64 0), .lit (.int .u64 0), .lit (.int .i64 0)], [], places) :=
  ⟨[], by kernel_rfl⟩

set_option maxRecDepth 100000 in
theorem lifted (os : Os) (started : os.Started) (H : Type) (enc : TypeId × Value → H) (F : Stop.Interp) :
    ReturnsInHanded {} Tryd.checked os 5 .any ((OpenSpec.ofChange Rows.mixOrderSpec).preRow enc Tryd.prog Tryd.f5 Rows.mixOrderRow.domain false Rows.mixOrderRow.laid) (((OpenSpec.ofChange Rows.mixOrderSpec).at F).post enc Tryd.prog Tryd.f5 false true false false) := by
  obtain ⟨places, hx⟩ := reads os enc
  refine returnsInHanded_of_row (C := Tryd.checked) (s := OpenSpec.ofChange Rows.mixOrderSpec) own started (by kernel_rfl) Tryd.func5
    (witness_row_at (enc := enc) (C := Tryd.checked) false (laidWorld os) #[.int .u64 0, .int .u64 0, .int .u64 0, .int .i64 0] rfl (by kernel_rfl) (by kernel_rfl) (by kernel_rfl)
      (OpenSpec.preRow_of_cond 8 hx (by kernel_rfl) (fun k hk => by cases hk) (by kernel_rfl) (laid_met os))) ?_
  intro W base args ds gs before hval hW _ _ _ hL _ _
  exact contract H enc W base args ds gs before hval hW hL

theorem said : Rows.MixOrderSaid :=
  OpenClaim.holds_of_cond 5 Tryd.f5 rfl rfl rfl rfl rfl rfl rfl ⟨rfl, rfl, rfl, rfl, rfl⟩ rfl rfl rfl rfl rfl (by kernel_rfl) Tryd.func5 (by kernel_rfl)
    (of_decide_eq_true (by kernel_rfl)) (by unfold Func.isWrapper; first | (rw [if_pos (by decide +kernel)]; kernel_rfl) | (rw [if_neg (by decide +kernel)]; exact ⟨rfl, rfl⟩))
    (fun os started H enc _ F => by rw [OpenClaim.pre_eq_preRow]; exact lifted os started H enc F)

theorem plain (f : FuncId) (fn : Func) (hf : Tryd.pinned.checked.prog.funcNamed "whitewash/whitewashlaw02.MixOrder" = some f) (hfn : Tryd.pinned.checked.prog.funcs[f]? = some fn) :
    false = Tryd.pinned.checked.prog.looks [] ∧ ∀ (j : Nat) t, fn.params[j]? = some t → Tryd.pinned.checked.prog.wantsStandIn t = false := by
  obtain rfl : f = 5 := Option.some.inj ((show Tryd.prog.funcNamed "whitewash/whitewashlaw02.MixOrder" = some 5 by kernel_rfl).symm.trans hf) |>.symm
  obtain rfl : fn = Tryd.f5 := (Option.some.inj (Tryd.func5.symm.trans hfn)).symm
  refine ⟨by kernel_rfl, fun j t ht => ?_⟩
  rw [Tryd.params5] at ht
  have hm : t ∈ [22, 22, 22, 3] := by simpa using Array.mem_of_getElem? ht
  have hall : ([22, 22, 22, 3].all fun u => !Tryd.prog.wantsStandIn u) = true := by kernel_rfl
  exact (show Tryd.prog.wantsStandIn t = false by simpa using List.all_eq_true.1 hall t hm)

theorem card : Rows.MixOrderCardSaid :=
  Claim7.holds_tied_plain_at .later [] _ _ _ _ said (fun _ h => by cases h) (by kernel_rfl) (fun _ h => by cases h) mixOrder_row_tie rfl ⟨rfl, rfl⟩ (by kernel_rfl) rfl plain (by kernel_rfl)
end Go.Proofs.YthgjmimniibmlaaDoor.mixOrder

namespace Go.Proofs.YthgjmimniibmlaaDoor
theorem mixOrder_holds : Rows.MixOrderCardSaid := mixOrder.card
end Go.Proofs.YthgjmimniibmlaaDoor
