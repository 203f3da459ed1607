/-
  What Of, Patch, Same and Zero, and the document's own ones, return of whatever words and writes there are: the same, of both. Conditions: the words and the writes are there, as they were in a world of which this one is a later one.
-/
import Derived.Test.YtdofplmoiljkjaaRefWalk
import Derived.Test.YtdofplmoiljkjaaBack
namespace Go.Proofs.Ytdofplmoiljkjaa
open Go.RowKit (Below intOf)

/-- What Of tells: writes, and whether they are refused. -/
def ofY (a b : List Int) (n m : Nat) (base : Int) : List Wr := if n = m ∧ 0 ≤ base ∧ base ≤ 1048576 then ofK a b base n else []
def ofE (n m : Nat) (base : Int) : Int := if n = m ∧ 0 ≤ base ∧ base ≤ 1048576 then 0 else 1

theorem of_all (sa sb : Option Addr) (n m ca cb : Nat) (a b : List Int) (base E : Int) (W w : World) (hW : Ext W w) (hA : WS W sa n ca a) (hB : WS W sb m cb b) (hE : RowKit.Hid (ofE n m base = E)) :
    Calls Try.prog 11 #[.slice sa n ca, .slice sb m cb, .int .i64 base] w fun e w' => ∃ sl k c, e = .returned (.tuple #[.slice sl k c, .int .i64 E]) ∧ RS w' sl k c (ofY a b n m base) ∧ Ext W w' := by
  rw [← hE.out]
  by_cases h : n = m ∧ 0 ≤ base ∧ base ≤ 1048576
  · unfold ofY ofE
    rw [if_pos h, if_pos h]
    obtain ⟨rfl, h0, h1⟩ := h
    exact (of_yes sa sb n ca cb a b base w (hA.ext hW) (hB.ext hW) h0 h1).mono fun _ _ ⟨sl, k, c, he, hr, hx⟩ => ⟨sl, k, c, he, hr, hW.trans hx⟩
  · unfold ofY ofE
    rw [if_neg h, if_neg h]
    exact (of_no sa sb n m ca cb base w (by omega)).mono fun _ _ ⟨he, hx⟩ => ⟨_, _, _, he, RS.empty _ _ _ (by omega), hW.trans hx⟩
theorem rof_all (sa sb : Option Addr) (n m ca cb : Nat) (a b : List Int) (base E : Int) (W w : World) (hW : Ext W w) (hA : WS W sa n ca a) (hB : WS W sb m cb b) (hE : RowKit.Hid (ofE n m base = E)) :
    Calls Try.prog 12 #[.slice sa n ca, .slice sb m cb, .int .i64 base] w fun e w' => ∃ sl k c, e = .returned (.tuple #[.slice sl k c, .int .i64 E]) ∧ RS w' sl k c (ofY a b n m base) ∧ Ext W w' := by
  rw [← hE.out]
  by_cases h : n = m ∧ 0 ≤ base ∧ base ≤ 1048576
  · unfold ofY ofE
    rw [if_pos h, if_pos h]
    obtain ⟨rfl, h0, h1⟩ := h
    exact (rof_yes sa sb n ca cb a b base w (hA.ext hW) (hB.ext hW) h0 h1).mono fun _ _ ⟨sl, k, c, he, hr, hx⟩ => ⟨sl, k, c, he, hr, hW.trans hx⟩
  · unfold ofY ofE
    rw [if_neg h, if_neg h]
    exact (rof_no sa sb n m ca cb base w (by omega)).mono fun _ _ ⟨he, hx⟩ => ⟨_, _, _, he, RS.empty _ _ _ (by omega), hW.trans hx⟩

/-- What Patch tells. -/
def paR (a : List Int) (l : List Wr) (base : Int) : Option (List Int) := if 0 ≤ base ∧ base ≤ 1048576 then patchL base a l else none
def paY (a : List Int) (l : List Wr) (base : Int) : List Int := (paR a l base).getD []
def paE (a : List Int) (l : List Wr) (base : Int) : Int := match paR a l base with | some _ => 0 | none => 1

theorem pa_post {a : List Int} {l : List Wr} {base : Int} {W w : World} {n : Nat} (hW : Ext W w) {e : Ending} {w' : World} (h : PatchPost (paR a l base) w n e w') :
    ∃ sl k c, e = .returned (.tuple #[.slice sl k c, .int .i64 (paE a l base)]) ∧ WS w' sl k c (paY a l base) ∧ Ext W w' := by
  unfold paE paY
  cases hr : paR a l base with
  | some xs =>
    obtain ⟨sl, c, he, hw⟩ := h.2.1 xs hr
    exact ⟨sl, n, c, he, hw, hW.trans h.1⟩
  | none => exact ⟨_, _, _, h.2.2 hr, WS.empty _ _ _ (by omega), hW.trans h.1⟩
theorem patch_all (sa sl : Option Addr) (n ca m cl : Nat) (a : List Int) (l : List Wr) (base E : Int) (W w : World) (hW : Ext W w) (hA : WS W sa n ca a) (hL : RS W sl m cl l) (hE : RowKit.Hid (paE a l base = E)) :
    Calls Try.prog 18 #[.slice sa n ca, .int .i64 base, .slice sl m cl] w fun e w' => ∃ so k c, e = .returned (.tuple #[.slice so k c, .int .i64 E]) ∧ WS w' so k c (paY a l base) ∧ Ext W w' := by
  rw [← hE.out]
  by_cases h : 0 ≤ base ∧ base ≤ 1048576
  · refine (patch_any sa sl n ca m cl a l base w (hA.ext hW) (hL.ext hW) h.1 h.2).mono fun _ _ hp => pa_post (n := n) hW ?_
    unfold paR; rw [if_pos h]; exact hp
  · refine (patch_base sa sl n ca m cl base w (by omega)).mono fun e w' hp => pa_post (n := n) hW ?_
    obtain ⟨rfl, hx⟩ := hp
    exact patch_refused (by unfold paR; rw [if_neg h]) hx
theorem rpatch_all (sa sl : Option Addr) (n ca m cl : Nat) (a : List Int) (l : List Wr) (base E : Int) (W w : World) (hW : Ext W w) (hA : WS W sa n ca a) (hL : RS W sl m cl l) (hE : RowKit.Hid (paE a l base = E)) :
    Calls Try.prog 19 #[.slice sa n ca, .int .i64 base, .slice sl m cl] w fun e w' => ∃ so k c, e = .returned (.tuple #[.slice so k c, .int .i64 E]) ∧ WS w' so k c (paY a l base) ∧ Ext W w' := by
  rw [← hE.out]
  by_cases h : 0 ≤ base ∧ base ≤ 1048576
  · refine (rpatch_any sa sl n ca m cl a l base w (hA.ext hW) (hL.ext hW) h.1 h.2).mono fun _ _ hp => pa_post (n := n) hW ?_
    unfold paR; rw [if_pos h]; exact hp
  · refine (rpatch_base sa sl n ca m cl base w (by omega)).mono fun e w' hp => pa_post (n := n) hW ?_
    obtain ⟨rfl, hx⟩ := hp
    exact patch_refused (by unfold paR; rw [if_neg h]) hx

theorem same_ext (sa sb : Option Addr) (n m ca cb : Nat) (a b : List Int) (r : Bool) (W w : World) (hW : Ext W w) (hA : WS W sa n ca a) (hB : WS W sb m cb b) (hr : RowKit.Hid (r = decide (a = b))) :
    Calls Try.prog 14 #[.slice sa n ca, .slice sb m cb] w fun e w' => e = .returned (.bool r) ∧ Ext W w' :=
  (same_any sa sb n m ca cb a b r w (hA.ext hW) (hB.ext hW) hr).mono fun _ _ h => ⟨h.1, hW.trans h.2⟩
theorem rsame_ext (sa sb : Option Addr) (n m ca cb : Nat) (a b : List Int) (r : Bool) (W w : World) (hW : Ext W w) (hA : WS W sa n ca a) (hB : WS W sb m cb b) (hr : RowKit.Hid (r = decide (a = b))) :
    Calls Try.prog 15 #[.slice sa n ca, .slice sb m cb] w fun e w' => e = .returned (.bool r) ∧ Ext W w' :=
  (rsame_is sa sb n m ca cb a b r w (hA.ext hW) (hB.ext hW) hr).mono fun _ _ h => ⟨h.1, hW.trans h.2⟩
theorem rwrites_ext (sa sb : Option Addr) (n m ca cb : Nat) (a b : List Wr) (r : Bool) (W w : World) (hW : Ext W w) (hA : RS W sa n ca a) (hB : RS W sb m cb b) (hr : RowKit.Hid (r = decide (a = b))) :
    Calls Try.prog 13 #[.slice sa n ca, .slice sb m cb] w fun e w' => e = .returned (.bool r) ∧ Ext W w' :=
  (rwrites_is sa sb n m ca cb a b r w (hA.ext hW) (hB.ext hW) hr).mono fun _ _ h => ⟨h.1, hW.trans h.2⟩
theorem zero_ext (sa : Option Addr) (n ca : Nat) (a : List Int) (r : Bool) (W w : World) (hW : Ext W w) (hA : WS W sa n ca a) (hr : RowKit.Hid (r = zeroB a)) :
    Calls Try.prog 16 #[.slice sa n ca] w fun e w' => e = .returned (.bool r) ∧ Ext W w' :=
  (zero_any sa n ca a r w (hA.ext hW) hr).mono fun _ _ h => ⟨h.1, by rw [← h.2]; exact hW⟩
theorem rzero_ext (sa : Option Addr) (n ca : Nat) (a : List Int) (r : Bool) (W w : World) (hW : Ext W w) (hA : WS W sa n ca a) (hr : RowKit.Hid (r = zeroB a)) :
    Calls Try.prog 17 #[.slice sa n ca] w fun e w' => e = .returned (.bool r) ∧ Ext W w' :=
  (rzero_any sa n ca a r w (hA.ext hW) hr).mono fun _ _ h => ⟨h.1, by rw [← h.2]; exact hW⟩

theorem size46 (w : World) : (sizeOf 46).run Try.prog w = .ok 1 w := Try.sizeOf46 w
theorem elem22 : Try.prog.underlying 22 = some (.slice (Try.prog.elem 22)) := by kernel_rfl
theorem elem22_is : Try.prog.elem 22 = 46 := by kernel_rfl
theorem slice_hi22 (sl : Option Addr) (m c i : Nat) (h : i ≤ c) (w : World) : (Instr.sliceAt 22 (.slice sl m c) none (some (.int .i64 (i : Int))) none).run Try.prog w = .ok (.slice sl i c) w := by
  rw [run_sliceAt_slice _ _ _ _ _ _ elem22, run_slice_h _ _ _ _ _ elem22 _ _ (by omega) (by omega), elem22_is, size46]
  have e : sl.map (fun x => x.add (0 * 1)) = sl := by
    cases sl with
    | none => rfl
    | some a => obtain ⟨b, o, sp⟩ := a; simp [Addr.add]
  simp only [Result.andThen, sliced, Int.toNat_natCast, e, ite_self, Nat.sub_zero]

end Go.Proofs.Ytdofplmoiljkjaa
