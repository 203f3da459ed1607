/-
  The statements' first calls (awake) return true, in whatever world; they leave memory as it was, but for new blocks and draws. No condition.
-/
import Derived.Test.YtdofplmoiljkjaaThen
namespace Go.Proofs.Ytdofplmoiljkjaa
open Go.RowKit (Below intOf)

theorem patch_yes (sa sl : Option Addr) (n ca m cl : Nat) (a xs : List Int) (l : List Wr) (base : Int) (w : World) (hA : WS w sa n ca a) (hL : RS w sl m cl l) (g0 : 0 ≤ base) (g1 : base ≤ 1048576) (h : patchL base a l = some xs) :
    Calls Try.prog 18 #[.slice sa n ca, .int .i64 base, .slice sl m cl] w fun e w' => ∃ so c, e = .returned (.tuple #[.slice so n c, .int .i64 0]) ∧ WS w' so n c xs ∧ Ext w w' :=
  (patch_any sa sl n ca m cl a l base w hA hL g0 g1).mono fun e w' hp => by
    obtain ⟨so, c, he, hw⟩ := hp.2.1 xs h; exact ⟨so, c, he, hw, hp.1⟩
theorem patch_not (sa sl : Option Addr) (n ca m cl : Nat) (a : List Int) (l : List Wr) (base : Int) (w : World) (hA : WS w sa n ca a) (hL : RS w sl m cl l) (g0 : 0 ≤ base) (g1 : base ≤ 1048576) (h : patchL base a l = none) :
    Calls Try.prog 18 #[.slice sa n ca, .int .i64 base, .slice sl m cl] w fun e w' => e = .returned (.tuple #[.slice none 0 0, .int .i64 1]) ∧ Ext w w' :=
  (patch_any sa sl n ca m cl a l base w hA hL g0 g1).mono fun _ _ hp => ⟨hp.2.2 h, hp.1⟩

theorem u64_all {xs : List Int} (h : xs.all (fun x => decide (0 ≤ x ∧ x < 18446744073709551616)) = true) : ∀ x ∈ xs, U64 x := fun x hx => by
  have := List.all_eq_true.1 h x hx; unfold U64; simpa using this
theorem wr_all {ys : List Wr} (h : ys.all (fun y => decide ((-9223372036854775808 ≤ y.1 ∧ y.1 < 9223372036854775808) ∧ (0 ≤ y.2 ∧ y.2 < 18446744073709551616))) = true) : ∀ y ∈ ys, I64 y.1 ∧ U64 y.2 := fun y hy => by
  have := List.all_eq_true.1 h y hy; unfold I64 U64; simpa using this

/-- Words, and writes, that a literal lays. -/
theorem ws_lit (w : World) (xs : List Int) (hu : ∀ x ∈ xs, U64 x) (hn : xs.length ≤ 1048576) : WS (w.alloc (.cells (xs.map (Value.int .u64)).toArray 46)) (some ⟨w.heap.size, 0, none⟩) xs.length xs.length xs :=
  (rowW_of_block (World.alloc_heap_new w _) (fun j x hx => ⟨hu x (List.mem_of_getElem? hx), by simp [hx]⟩) : RowW _ _ _).ws rfl hn (Nat.le_refl _) (by omega)
theorem rs_lit (w : World) (ys : List Wr) (hr : ∀ y ∈ ys, I64 y.1 ∧ U64 y.2) (hn : ys.length ≤ 1048576) : RS (w.alloc (.cells (flat ys).toArray 48)) (some ⟨w.heap.size, 0, none⟩) ys.length ys.length ys := by
  have hb : (w.alloc (.cells (flat ys).toArray 48)).heap[w.heap.size]? = some (.cells (flat ys).toArray 48 (0, 0)) := World.alloc_heap_new w _
  refine ⟨rfl, hn, Nat.le_refl _, by omega, fun j y hy => ⟨(hr y (List.mem_of_getElem? hy)).1, (hr y (List.mem_of_getElem? hy)).2, w.heap.size, 0, rfl, ?_, ?_⟩⟩
  · simp only [World.cell?, hb]
    have := flat_0 ys j
    rw [hy] at this
    simpa using this
  · simp only [World.cell?, hb]
    have := flat_1 ys j
    rw [hy] at this
    simpa using this

theorem drew_ext {w w' : World} (h : ∃ q, w' = w.drewN q) : Ext w w' := by obtain ⟨q, rfl⟩ := h; exact Ext.draws w q

/-- Same and Writes of the document, by what is known. -/
theorem rsame_is (s1 s2 : Option Addr) (n m c1 c2 : Nat) (xs ys : List Int) (r : Bool) (w : World) (h1 : WS w s1 n c1 xs) (h2 : WS w s2 m c2 ys) (hr : RowKit.Hid (r = decide (xs = ys))) :
    Calls Try.prog 15 #[.slice s1 n c1, .slice s2 m c2] w fun e w' => e = .returned (.bool r) ∧ Ext w w' :=
  (rsame_any s1 s2 n m c1 c2 xs ys r w h1 h2 hr).mono fun _ _ h => ⟨h.1, drew_ext h.2⟩
theorem rwrites_is (s1 s2 : Option Addr) (n m c1 c2 : Nat) (xs ys : List Wr) (r : Bool) (w : World) (h1 : RS w s1 n c1 xs) (h2 : RS w s2 m c2 ys) (hr : RowKit.Hid (r = decide (xs = ys))) :
    Calls Try.prog 13 #[.slice s1 n c1, .slice s2 m c2] w fun e w' => e = .returned (.bool r) ∧ Ext w w' :=
  (rwrites_any s1 s2 n m c1 c2 xs ys r w h1 h2 hr).mono fun _ _ h => ⟨h.1, drew_ext h.2⟩

def la : List Int := [5, 6, 7]
def lb : List Int := [5, 8, 9]
def ll : List Wr := [(11, 8), (12, 9)]
def lt : List Wr := [(11, 4), (12, 9)]
theorem l_is : ofK la lb 10 3 = ll := by decide
theorem p_is : patchL 10 la ll = some lb := by decide
theorem p_no : patchL 10 la [(13, 0)] = none := by decide
theorem t_is : IsThen (ll ++ [(11, 4)]) lt := by
  refine ⟨by decide, fun p x => ?_⟩
  simp only [ll, lt, lastW, List.cons_append, List.nil_append, List.mem_cons, List.not_mem_nil, Prod.mk.injEq, or_false]
  by_cases h1 : p = 11
  · subst h1; simp; exact ⟨fun h => h.symm, fun h => h.symm⟩
  · by_cases h2 : p = 12
    · subst h2; simp; exact ⟨fun h => h.symm, fun h => h.symm⟩
    · have e1 : ¬ (11 : Int) = p := fun e => h1 e.symm
      have e2 : ¬ (12 : Int) = p := fun e => h2 e.symm
      simp [h1, h2, e1, e2]

set_option maxRecDepth 100000 in
set_option maxHeartbeats 8000000 in
theorem awake_any (w : World) : Calls Try.prog 7 #[] w fun e w' => e = .returned (.bool true) ∧ Ext w w' := by
  go_enter Try.func7, Try.ntmps7
  go_wp2_with (fail)
  have hA : WS ((w.alloc (.cells #[.int .u64 5, .int .u64 6, .int .u64 7] 46)).alloc (.cells #[.int .u64 5, .int .u64 8, .int .u64 9] 46)) (some ⟨w.heap.size, 0, none⟩) 3 3 la := WS.ext (ws_lit w la (u64_all (by decide)) (by decide)) (Ext.new _ _)
  have hB : WS ((w.alloc (.cells #[.int .u64 5, .int .u64 6, .int .u64 7] 46)).alloc (.cells #[.int .u64 5, .int .u64 8, .int .u64 9] 46)) (some ⟨w.heap.size + 1, 0, none⟩) 3 3 lb := by
    have h := ws_lit (w.alloc (.cells #[.int .u64 5, .int .u64 6, .int .u64 7] 46)) lb (u64_all (by decide)) (by decide)
    rw [World.size_alloc] at h; exact h
  have hE : Ext w ((w.alloc (.cells #[.int .u64 5, .int .u64 6, .int .u64 7] 46)).alloc (.cells #[.int .u64 5, .int .u64 8, .int .u64 9] 46)) := ((Ext.refl w).alloc _).alloc _
  refine (of_yes _ _ 3 3 3 la lb 10 _ hA hB (by omega) (by omega)).mono ?_
  rintro e w1 ⟨sl, m, cm, rfl, hL, hE1⟩
  rw [l_is] at hL
  replace hA := hA.ext hE1
  replace hB := hB.ext hE1
  replace hE := hE.trans hE1
  clear hE1
  go_wp2_with (fail)
  refine (patch_yes _ _ 3 3 m cm la lb ll 10 _ hA hL (by omega) (by omega) p_is).mono ?_
  rintro e w2 ⟨sc, cc, rfl, hC, hE1⟩
  replace hA := hA.ext hE1
  replace hB := hB.ext hE1
  replace hL := hL.ext hE1
  replace hE := hE.trans hE1
  clear hE1
  go_wp2_with (fail)
  have hF := rs_lit w2 [(13, 0)] (wr_all (by decide)) (by decide)
  refine (patch_not _ _ 3 3 1 1 la [(13, 0)] 10 _ (hA.ext (Ext.new _ _)) hF (by omega) (by omega) p_no).mono ?_
  rintro e w3 ⟨rfl, hE1⟩
  replace hE1 := (Ext.new w2 (.cells #[.int .i64 13, .int .u64 0] 48)).trans hE1
  replace hA := hA.ext hE1
  replace hB := hB.ext hE1
  replace hL := hL.ext hE1
  replace hC := hC.ext hE1
  replace hE := hE.trans hE1
  clear hE1 hF
  go_wp2_with (fail)
  refine (of_no _ _ 3 2 3 3 10 _ (by omega)).mono ?_
  rintro e w4 ⟨rfl, hE1⟩
  replace hA := hA.ext hE1
  replace hB := hB.ext hE1
  replace hL := hL.ext hE1
  replace hC := hC.ext hE1
  replace hE := hE.trans hE1
  clear hE1
  go_wp2_with (fail)
  have hF := rs_lit w4 [(11, 4)] (wr_all (by decide)) (by decide)
  have hm : m = 2 := hL.len.symm
  refine (then_any _ _ m 1 cm 1 ll [(11, 4)] _ (hL.ext (Ext.new _ _)) hF (by omega)).mono ?_
  rintro e w5 ⟨st, nt, ct, t, rfl, hT, hI, hE1⟩
  obtain rfl : lt = t := t_is.unique hI
  replace hE1 := (Ext.new w4 (.cells #[.int .i64 11, .int .u64 4] 48)).trans hE1
  replace hA := hA.ext hE1
  replace hB := hB.ext hE1
  replace hL := hL.ext hE1
  replace hC := hC.ext hE1
  replace hE := hE.trans hE1
  clear hE1 hF hm hI
  go_wp2_with (fail)
  have hF := rs_lit w5 ll (wr_all (by decide)) (by decide)
  refine (rwrites_is _ _ m 2 cm 2 ll ll true _ (hL.ext (Ext.new _ _)) hF (Lib.hid (by decide))).mono ?_
  rintro e w6 ⟨rfl, hE1⟩
  replace hE1 := (Ext.new w5 (.cells #[.int .i64 11, .int .u64 8, .int .i64 12, .int .u64 9] 48)).trans hE1
  replace hA := hA.ext hE1
  replace hB := hB.ext hE1
  replace hC := hC.ext hE1
  replace hT := hT.ext hE1
  replace hE := hE.trans hE1
  clear hE1 hF hL
  go_wp2_with (fail)
  refine (rsame_is _ _ 3 3 cc 3 lb lb true _ hC hB (Lib.hid (by decide))).mono ?_
  rintro e w7 ⟨rfl, hE1⟩
  replace hA := hA.ext hE1
  replace hB := hB.ext hE1
  replace hC := hC.ext hE1
  replace hT := hT.ext hE1
  replace hE := hE.trans hE1
  clear hE1
  go_wp2_with (fail)
  have hF := rs_lit w7 lt (wr_all (by decide)) (by decide)
  refine (rwrites_is _ _ nt 2 ct 2 lt lt true _ (hT.ext (Ext.new _ _)) hF (Lib.hid (by decide))).mono ?_
  rintro e w8 ⟨rfl, hE1⟩
  replace hE1 := (Ext.new w7 (.cells #[.int .i64 11, .int .u64 4, .int .i64 12, .int .u64 9] 48)).trans hE1
  replace hA := hA.ext hE1
  replace hB := hB.ext hE1
  replace hC := hC.ext hE1
  replace hE := hE.trans hE1
  clear hE1 hF hT
  go_wp2_with (fail)
  refine (same_any _ _ 3 3 cc 3 lb lb true _ hC hB (Lib.hid (by decide))).mono ?_
  rintro e w9 ⟨rfl, hE1⟩
  replace hA := hA.ext hE1
  replace hB := hB.ext hE1
  replace hE := hE.trans hE1
  clear hE1 hC
  go_wp2_with (fail)
  refine (same_any _ _ 3 3 3 3 la lb false _ hA hB (Lib.hid (by decide))).mono ?_
  rintro e w10 ⟨rfl, hE1⟩
  replace hA := hA.ext hE1
  replace hE := hE.trans hE1
  clear hE1 hB
  go_wp2_with (fail)
  have hF := ws_lit w10 [0, 0] (u64_all (by decide)) (by decide)
  refine (zero_any _ 2 2 [0, 0] true _ hF (Lib.hid (by decide))).mono ?_
  rintro e w11 ⟨rfl, rfl⟩
  replace hA := hA.ext (Ext.new w10 (.cells #[.int .u64 0, .int .u64 0] 46))
  replace hE := hE.trans (Ext.new w10 (.cells #[.int .u64 0, .int .u64 0] 46))
  clear hF
  go_wp2_with (fail)
  refine (zero_any _ 3 3 la false _ hA (Lib.hid (by decide))).mono ?_
  rintro e w12 ⟨rfl, rfl⟩
  go_wp2_with (fail)
  go_ret
  exact ⟨rfl, hE⟩

end Go.Proofs.Ytdofplmoiljkjaa
