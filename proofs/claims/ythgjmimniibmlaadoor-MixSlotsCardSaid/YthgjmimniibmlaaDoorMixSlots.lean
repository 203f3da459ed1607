/-
  The law MixSlots is true for every input: any word, any int; the package variable rounds holds what its initialiser lays (the card ties it to the text).
-/
import Derived.Test.YthgjmimniibmlaaDoorCards
import Derived.Test.YthgjmimniibmlaaDoorTie
import Derived.WalkKit
import Derived.ProofKit
import Derived.OpenShut
import Derived.Deep.DeepHandedRow
import Derived.Test.YthgjmimniibmlaaDoorLaid
namespace Go.Proofs.YthgjmimniibmlaaDoor.mixSlots
open Go.ChangeShapes Go.WideShapes Go.ChangeAt Go.RowKit

set_option maxHeartbeats 4000000 in
theorem core (x m : Int) (W : World) (hK : Kept W W) (a0 : 0 ≤ x) (a1 : x < 18446744073709551616) (m0 : -9223372036854775808 ≤ m) (m1 : m < 9223372036854775808) :
    Calls Tryd.prog 6 #[.int .u64 x, .int .i64 m] W fun e w' => e = .returned (.bool true) ∧ Grown W w' := by
  by_cases hm : m < 1
  · have s0 : slot x m = 0 := by unfold slot; rw [if_pos hm]
    go_enter Tryd.func6, Tryd.ntmps6
    go_wp2_with (first
      | (go_at_call 7; with_reducible refine (awake_kept W _ (by assumption)).mono ?_; rintro e w' ⟨rfl, hK⟩)
      | (go_at_call 8; with_reducible refine (mix_kept _ W _ (by assumption) (by omega) (by omega)).mono ?_; rintro e w' ⟨rfl, hK⟩)
      | (go_at_call 10; with_reducible refine (unmix_kept _ W _ (by assumption) (by omega) (by omega)).mono ?_; rintro e w' ⟨rfl, hK⟩)
      | (go_at_call 12; with_reducible refine (slot_kept _ _ W _ (by assumption) (by omega) (by omega) (by omega) (by omega)).mono ?_; rintro e w' ⟨rfl, hK⟩)
      | (go_at_call 14; with_reducible refine (before_kept _ _ W _ (by assumption) (by omega) (by omega) (by omega) (by omega)).mono ?_; rintro e w' ⟨rfl, hK⟩))
    go_ret
    exact ⟨rfl, Kept.grown (by assumption)⟩
  · have hm' : 1 ≤ m := by omega
    have hr0 : 0 ≤ x % m := Int.emod_nonneg _ (by omega)
    have hr1 : x % m < m := Int.emod_lt_of_pos _ (by omega)
    have hu := unmixed_bd (x % m) (by omega)
    have hb := mixed_bd x a1
    have hq0 : 0 ≤ mixed x % m := Int.emod_nonneg _ (by omega)
    have hq1 : mixed x % m < m := Int.emod_lt_of_pos _ (by omega)
    have s1 : slot (unmixed (x % m)) m = x % m := by
      unfold slot
      rw [if_neg hm, mixed_unmixed _ hr0 (by omega), Int.emod_emod_of_dvd _ (Int.dvd_refl _)]
    have s2 : slot x m = mixed x % m := by unfold slot; rw [if_neg hm]
    go_enter Tryd.func6, Tryd.ntmps6
    go_wp2_with (first
      | (go_at_call 7; with_reducible refine (awake_kept W _ (by assumption)).mono ?_; rintro e w' ⟨rfl, hK⟩)
      | (go_at_call 8; with_reducible refine (mix_kept _ W _ (by assumption) (by omega) (by omega)).mono ?_; rintro e w' ⟨rfl, hK⟩)
      | (go_at_call 10; with_reducible refine (unmix_kept _ W _ (by assumption) (by omega) (by omega)).mono ?_; rintro e w' ⟨rfl, hK⟩)
      | (go_at_call 12; with_reducible refine (slot_kept _ _ W _ (by assumption) (by omega) (by omega) (by omega) (by omega)).mono ?_; rintro e w' ⟨rfl, hK⟩)
      | (go_at_call 14; with_reducible refine (before_kept _ _ W _ (by assumption) (by omega) (by omega) (by omega) (by omega)).mono ?_; rintro e w' ⟨rfl, hK⟩))
    go_ret
    exact ⟨rfl, Kept.grown (by assumption)⟩
theorem walk (w : Int) (m : Int) (W : World) (hTab : Tab W) (_w0 : 0 ≤ w) (_w1 : w < 18446744073709551616) (_m0 : -9223372036854775808 ≤ m) (_m1 : m < 9223372036854775808) :
    Calls Tryd.prog 6 #[.int .u64 w, .int .i64 m] W fun e w' => e = .returned (.bool true) ∧ Grown W w' := by
  exact core w m W (.start hTab) _w0 _w1 _m0 _m1

theorem own : ownKnob Tryd.prog.godebug = none := by kernel_rfl

set_option maxRecDepth 100000 in
theorem contract (H : Type) (enc : TypeId × Value → H) (W : World) (base : Nat) (args : Array Value) (ds gs : List (DataW H)) (before : List MemPlace)
    (hval : ∀ (j : Nat) t v, Tryd.f6.params[j]? = some t → args[j]? = some v → Value.okWide Tryd.prog W .any base t v)
    (hW : DataW.Whole enc Tryd.prog Tryd.f6.params.toList Rows.mixSlotsSpec.vars false W args.toList ds gs before) (hL : laidMetH Tryd.prog Rows.mixSlotsRow.laid W) :
    Calls Tryd.prog 6 args W fun e W' => ∃ v, e = .returned v ∧ Rows.mixSlotsSpec.post enc Tryd.prog Tryd.f6 false true false false W args v W' := by
  have hW' := hW
  obtain ⟨p, q, hA0, hV, rfl, hfz, hnd⟩ := hW
  have hA : DataW.TrodAll enc Tryd.prog W 0 (fun _ => true) true Tryd.f6.params.toList args.toList ds p := hA0
  rw [Tryd.params6] at hA hval
  obtain ⟨v0, vs0, d0, ds0, p0, q0, hargs0, rfl, rfl, h0, r0⟩ := trodAll_cons hA
  obtain ⟨v1, vs1, d1, ds1, p1, q1, hargs1, rfl, rfl, h1, r1⟩ := trodAll_cons r0
  obtain ⟨rfl, rfl, rfl⟩ := trodAll_nil r1
  obtain rfl : args = #[v0, v1] := by cases args; simp_all
  obtain ⟨rfl, rfl⟩ := trodVars_none hV
  obtain ⟨w, rfl, rfl, rfl, w0⟩ := open_int Tryd.underlying22 (hval 0 22 v0 rfl rfl) h0
  obtain ⟨m, rfl, rfl, rfl, w1⟩ := open_int Tryd.underlying3 (hval 1 3 v1 rfl rfl) h1
  clear hA0
  simp only [List.append_nil] at hW'
  have b0 := bounds_u64 w0
  have b1 := bounds_i64 w1
  refine (walk w m W (tab_of_laid hL) (by omega) (by omega) (by omega) (by omega)).mono fun e W' ⟨he, hg⟩ => ?_
  subst he
  exact ⟨_, rfl, post_of_same (pa := []) (pv := []) hW' (fun _ _ _ => trodAll_cons_mk (shut_bool Tryd.underlying4 _) trodAll_mk0) (fun _ _ => trodAll_cons_mk (shut_int Tryd.underlying22 w0) (trodAll_cons_mk (shut_int Tryd.underlying3 w1) trodAll_mk0)) (fun _ _ => rfl) rfl
    (hg.frame _) hg.2.1 (ok_one (by kernel_rfl) rfl (okWide_bool_mk Tryd.underlying4 _))⟩

noncomputable def laidWorld (os : Os) : World :=
  { World.holding Tryd.prog os ⟨#[], #[], []⟩ with heap := (World.holding Tryd.prog os ⟨#[], #[], []⟩).heap.modify 0 fun
      | .cells _ t frozen => .cells #[.int .u64 30, .int .u64 13787848793156543929, .int .u64 10871156337175269513, .int .u64 27, .int .u64 10723151780598845931, .int .u64 3573116690164977347, .int .u64 31, .int .u64 1, .int .u64 1] t frozen
      | o => o }
theorem laid_met (os : Os) : laidMet Tryd.prog Rows.mixSlotsRow.laid ((laidWorld os).forCall (fun _ _ => 0) ⟨#[], #[.int .u64 0, .int .i64 0], []⟩).memory :=
  laidMet_of_run' 8 (by kernel_rfl) (by kernel_rfl)
theorem reads (os : Os) {H : Type} (enc : TypeId × Value → H) : ∃ places, DataW.whole enc Tryd.prog ((laidWorld os).forCall (fun _ _ => 0) ⟨#[], #[.int .u64 0, .int .i64 0], []⟩).memory Tryd.f6.params.toList Rows.mixSlotsSpec.vars false (#[.int .u64 0, .int .i64 0] : Array Value).toList 8 = some ([.lit (.int .u64 0), .lit (.int .i64 0)], [], places) :=
  ⟨[], by kernel_rfl⟩

set_option maxRecDepth 100000 in
theorem lifted (os : Os) (started : os.Started) (H : Type) (enc : TypeId × Value → H) (F : Stop.Interp) :
    ReturnsInHanded {} Tryd.checked os 6 .any ((OpenSpec.ofChange Rows.mixSlotsSpec).preRow enc Tryd.prog Tryd.f6 Rows.mixSlotsRow.domain false Rows.mixSlotsRow.laid) (((OpenSpec.ofChange Rows.mixSlotsSpec).at F).post enc Tryd.prog Tryd.f6 false true false false) := by
  obtain ⟨places, hx⟩ := reads os enc
  refine returnsInHanded_of_row (C := Tryd.checked) (s := OpenSpec.ofChange Rows.mixSlotsSpec) own started (by kernel_rfl) Tryd.func6
    (witness_row_at (enc := enc) (C := Tryd.checked) false (laidWorld os) #[.int .u64 0, .int .i64 0] rfl (by kernel_rfl) (by kernel_rfl) (by kernel_rfl)
      (OpenSpec.preRow_of_cond 8 hx (by kernel_rfl) (fun k hk => by cases hk) (by kernel_rfl) (laid_met os))) ?_
  intro W base args ds gs before hval hW _ _ _ hL _ _
  exact contract H enc W base args ds gs before hval hW hL

theorem said : Rows.MixSlotsSaid :=
  OpenClaim.holds_of_cond 6 Tryd.f6 rfl rfl rfl rfl rfl rfl rfl ⟨rfl, rfl, rfl, rfl, rfl⟩ rfl rfl rfl rfl rfl (by kernel_rfl) Tryd.func6 (by kernel_rfl)
    (of_decide_eq_true (by kernel_rfl)) (by unfold Func.isWrapper; first | (rw [if_pos (by decide +kernel)]; kernel_rfl) | (rw [if_neg (by decide +kernel)]; exact ⟨rfl, rfl⟩))
    (fun os started H enc _ F => by rw [OpenClaim.pre_eq_preRow]; exact lifted os started H enc F)

theorem plain (f : FuncId) (fn : Func) (hf : Tryd.pinned.checked.prog.funcNamed "whitewash/whitewashlaw02.MixSlots" = some f) (hfn : Tryd.pinned.checked.prog.funcs[f]? = some fn) :
    false = Tryd.pinned.checked.prog.looks [] ∧ ∀ (j : Nat) t, fn.params[j]? = some t → Tryd.pinned.checked.prog.wantsStandIn t = false := by
  obtain rfl : f = 6 := Option.some.inj ((show Tryd.prog.funcNamed "whitewash/whitewashlaw02.MixSlots" = some 6 by kernel_rfl).symm.trans hf) |>.symm
  obtain rfl : fn = Tryd.f6 := (Option.some.inj (Tryd.func6.symm.trans hfn)).symm
  refine ⟨by kernel_rfl, fun j t ht => ?_⟩
  rw [Tryd.params6] at ht
  have hm : t ∈ [22, 3] := by simpa using Array.mem_of_getElem? ht
  have hall : ([22, 3].all fun u => !Tryd.prog.wantsStandIn u) = true := by kernel_rfl
  exact (show Tryd.prog.wantsStandIn t = false by simpa using List.all_eq_true.1 hall t hm)

theorem card : Rows.MixSlotsCardSaid :=
  Claim7.holds_tied_plain_at .later [] _ _ _ _ said (fun _ h => by cases h) (by kernel_rfl) (fun _ h => by cases h) mixSlots_row_tie rfl ⟨rfl, rfl⟩ (by kernel_rfl) rfl plain (by kernel_rfl)
end Go.Proofs.YthgjmimniibmlaaDoor.mixSlots

namespace Go.Proofs.YthgjmimniibmlaaDoor
theorem mixSlots_holds : Rows.MixSlotsCardSaid := mixSlots.card
end Go.Proofs.YthgjmimniibmlaaDoor
