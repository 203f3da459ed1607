/-
  Parts of a proof, one behind the other: AutOwn, AutSame, AutKeys. Each says its own conditions.
-/
import Derived.Test.YtmonkcekkhfafaaGreatDoorM08
import Derived.Laws.StructEq

/- AutOwn:
  What the document's New, Own and Same return. Conditions: integers' bounds; the states' slices are there.
-/
namespace Go.Proofs.YtmonkcekkhfafaaGreatDoor.Aut
open Go.RowKit (Below intOf)
open Reg (cf bx)

abbrev nilSl : Sl := ⟨none, 0, 0⟩
theorem ss_zero (w : World) : SS w nilSl nilSl nilSl zeroS := ⟨by unfold U64 zeroS; simp, WS.empty _ _ _ (by decide), WS.empty _ _ _ (by decide), NS.empty _ _ _ (by decide)⟩
abbrev zerosN (n : Nat) : Array Value := madeCells #[.int .i64 0] n
theorem make_ints (n : Nat) (hn : n ≤ 1048576) (W : World) : (Instr.makeSlice 28 (.int .i64 (n : Int)) (.int .i64 (n : Int))).run Tryz.prog W = .ok (.slice (some ⟨W.heap.size, 0, none⟩) n n) (W.alloc (.cells (zerosN n) 3)) := by
  obtain ⟨i0, hi, hz0, hz1, hz2⟩ := info_parts infoNS
  have h := run_make (P := Tryz.prog) W 28 3 i0 _ Tryz.underlying28 hi hz0 .i64 .i64 n n (by omega) (by omega) (by rw [hz2]; omega) (by omega)
  simp only [Int.toNat_natCast, hz1, Nat.mul_one] at h
  exact h
theorem made_ns (n : Nat) (hn : n ≤ 1048576) (W : World) : NS (W.alloc (.cells (zerosN n) 3)) (some ⟨W.heap.size, 0, none⟩) n n (List.replicate n 0) := by
  refine NS.row W (List.replicate n 0) n (by simp) hn (fun x hx => by have := List.eq_of_mem_replicate hx; subst this; unfold I64; omega) (zerosN n) ?_
  apply Array.ext'
  rw [show (zerosN n).toList = List.replicate n (.int .i64 0) from toList_madeCells_one _ n]
  simp only
  induction n with
  | zero => rfl
  | succ n ih => rw [List.replicate_succ, List.replicate_succ, flatNS, ih (by omega)]

set_option maxHeartbeats 4000000 in
set_option maxRecDepth 100000 in
theorem rnew_any (k p m : Int) (w : World) : Calls Tryz.prog 20 #[cf k p m] w (SE (newS k p m).1 w (fun v => .tuple #[v, .int .i64 (newS k p m).2])) := by
  have hF := fun w => Reg.rfits_any k p m w
  by_cases hf : fits k p m = true
  · have hf' : Reg.fits k p m = true := hf
    rw [hf'] at hF
    have hb := fits_of hf
    by_cases h5 : k = 5
    · subst h5
      obtain ⟨n, rfl⟩ : ∃ n : Nat, m = n := ⟨m.toNat, by omega⟩
      have hN : RowKit.Hid (newS 5 p n = (⟨0, [], [], List.replicate n 0, false⟩, 0)) := Lib.hid (by unfold newS; rw [if_pos hf]; simp)
      have hmk := fun W => make_ints n (by omega) W
      clear hf hf'
      go_enter Tryz.func20, Tryz.ntmps20
      go_wp2_with (fail)
      refine (hF _).mono ?_
      rintro e w1 ⟨rfl, rfl⟩
      go_wp2_with (fail)
      refine bodyPost_ret (v := .tuple #[sv 0 nilSl nilSl ⟨some ⟨w.heap.size + 1 + 1 + 1 + 1, 0, none⟩, n, n⟩ false, .int .i64 0]) (by simp [results, Tryz.results20, go_sem]) rfl ?_
      rw [hN.out]
      refine ⟨((((Ext.new w _).alloc _).alloc _).alloc _).alloc _, nilSl, nilSl, _, rfl, by unfold U64; simp, WS.empty _ _ _ (by decide), WS.empty _ _ _ (by decide), ?_⟩
      have h := made_ns n (by omega) ((((w.alloc (.cells #[.int .i64 5, .int .i64 p, .int .i64 n] 24)).alloc (.cells #[.int .u64 0, .slice none 0 0, .slice none 0 0, .slice (some ⟨w.heap.size + 1 + 1 + 1 + 1, 0, none⟩) n n, .bool false] 30)).alloc (bx 5 p n)).alloc (.cells #[.int .u64 0, .slice none 0 0, .slice none 0 0, .slice (some ⟨w.heap.size + 1 + 1 + 1 + 1, 0, none⟩) n n, .bool false] 30))
      simpa only [World.size_alloc] using h
    · have hN : RowKit.Hid (newS k p m = (zeroS, 0)) := Lib.hid (by unfold newS; rw [if_pos hf, if_neg h5]; rfl)
      have h5b : (k == 5) = false := by simpa using h5
      clear hf hf' h5
      go_enter Tryz.func20, Tryz.ntmps20
      go_wp2_with (fail)
      refine (hF _).mono ?_
      rintro e w1 ⟨rfl, rfl⟩
      go_wp2_with (fail)
      refine bodyPost_ret (v := .tuple #[sv 0 nilSl nilSl nilSl false, .int .i64 0]) (by simp [results, Tryz.results20, go_sem]) rfl ?_
      rw [hN.out]
      exact ⟨(((Ext.new w _).alloc _).alloc _).alloc _, nilSl, nilSl, nilSl, rfl, ss_zero _⟩
  · have hf' : Reg.fits k p m = false := by have : Reg.fits k p m = fits k p m := rfl; rw [this]; simpa using hf
    rw [hf'] at hF
    have hN : RowKit.Hid (newS k p m = (zeroS, 5)) := Lib.hid (by unfold newS; rw [if_neg hf])
    clear hf hf'
    go_enter Tryz.func20, Tryz.ntmps20
    go_wp2_with (fail)
    refine (hF _).mono ?_
    rintro e w1 ⟨rfl, rfl⟩
    go_wp2_with (fail)
    refine bodyPost_ret (v := .tuple #[sv 0 nilSl nilSl nilSl false, .int .i64 5]) (by simp [results, Tryz.results20, go_sem]) rfl ?_
    rw [hN.out]
    exact ⟨((Ext.new w _).alloc _).alloc _, nilSl, nilSl, nilSl, rfl, ss_zero _⟩

/-- What is written into another block. -/
theorem cell_far {w : World} {b g i o : Nat} {v : Value} (h : b ≠ g) : (w.setCell ⟨g, i, none⟩ v).cell? ⟨b, o, none⟩ = w.cell? ⟨b, o, none⟩ :=
  World.cell?_setCell_other _ _ _ _ (fun e => by have := congrArg Addr.block e; simp at this; exact h (by first | exact this | exact this.symm))
def Off (sl : Option Addr) (B : Nat) : Prop := ∀ g o, sl = some ⟨g, o, none⟩ → g ≠ B
theorem WS.far {w : World} {sl : Option Addr} {n c : Nat} {xs : List Int} (h : WS w sl n c xs) {B : Nat} (hb : Off sl B) (i : Nat) (v : Value) : WS (w.setCell ⟨B, i, none⟩ v) sl n c xs :=
  ⟨h.1, h.2.1, h.2.2.1, h.2.2.2.1, fun j x hx => by obtain ⟨hu, b, o, hs, hc⟩ := h.2.2.2.2 j x hx; exact ⟨hu, b, o, hs, by rw [cell_far (hb b o hs)]; exact hc⟩⟩
theorem NS.far {w : World} {sl : Option Addr} {n c : Nat} {xs : List Int} (h : NS w sl n c xs) {B : Nat} (hb : Off sl B) (i : Nat) (v : Value) : NS (w.setCell ⟨B, i, none⟩ v) sl n c xs :=
  ⟨h.1, h.2.1, h.2.2.1, h.2.2.2.1, fun j x hx => by obtain ⟨hu, b, o, hs, hc⟩ := h.2.2.2.2 j x hx; exact ⟨hu, b, o, hs, by rw [cell_far (hb b o hs)]; exact hc⟩⟩
theorem off_own {sl : Option Addr} {n c base B : Nat} (h : ∀ k, (Value.slice sl n c).ownBlock = some k → base ≤ k) (hB : B < base) : Off sl B := fun g o e => by
  subst e
  have := h g (by simp [Value.ownBlock])
  omega
/-- A state that is written whole. -/
abbrev put5 (W : World) (B : Nat) (r : Int) (k v t : Sl) (cl : Bool) : World := ((((W.setCell ⟨B, 0, none⟩ (.int .u64 r)).setCell ⟨B, 1, none⟩ (.slice k.a k.n k.c)).setCell ⟨B, 2, none⟩ (.slice v.a v.n v.c)).setCell ⟨B, 3, none⟩ (.slice t.a t.n t.c)).setCell ⟨B, 4, none⟩ (.bool cl)
theorem set_far {w : World} {b i j : Nat} {v : Value} (h : j ≠ i) : (w.setCell ⟨b, i, none⟩ v).cell? ⟨b, j, none⟩ = w.cell? ⟨b, j, none⟩ := World.cell?_setCell_other _ _ _ _ (fun e => h (by cases e; rfl))
theorem five_put {W : World} {B : Nat} (h : ∀ i, i < 5 → (W.cell? ⟨B, i, none⟩).isSome = true) (r : Int) (k v t : Sl) (cl : Bool) : Five (put5 W B r k v t cl) B r k v t cl := by
  have h0 := h 0 (by omega); have h1 := h 1 (by omega); have h2 := h 2 (by omega); have h3 := h 3 (by omega); have h4 := h 4 (by omega)
  refine ⟨?_, ?_, ?_, ?_, ?_⟩
  · rw [set_far (by omega), set_far (by omega), set_far (by omega), set_far (by omega)]; exact World.cell?_setCell_same' _ _ _ h0
  · rw [set_far (by omega), set_far (by omega), set_far (by omega)]; exact World.cell?_setCell_same' _ _ _ (by rw [set_far (by omega)]; exact h1)
  · rw [set_far (by omega), set_far (by omega)]; exact World.cell?_setCell_same' _ _ _ (by rw [set_far (by omega), set_far (by omega)]; exact h2)
  · rw [set_far (by omega)]; exact World.cell?_setCell_same' _ _ _ (by rw [set_far (by omega), set_far (by omega), set_far (by omega)]; exact h3)
  · exact World.cell?_setCell_same' _ _ _ (by rw [set_far (by omega), set_far (by omega), set_far (by omega), set_far (by omega)]; exact h4)
theorem WS.far5 {W : World} {sl : Option Addr} {n c : Nat} {xs : List Int} (h : WS W sl n c xs) {B : Nat} (hb : Off sl B) (r : Int) (k v t : Sl) (cl : Bool) : WS (put5 W B r k v t cl) sl n c xs := ((((h.far hb _ _).far hb _ _).far hb _ _).far hb _ _).far hb _ _
theorem NS.far5 {W : World} {sl : Option Addr} {n c : Nat} {xs : List Int} (h : NS W sl n c xs) {B : Nat} (hb : Off sl B) (r : Int) (k v t : Sl) (cl : Bool) : NS (put5 W B r k v t cl) sl n c xs := ((((h.far hb _ _).far hb _ _).far hb _ _).far hb _ _).far hb _ _
theorem Ext.put5 {a W : World} (h : Ext a W) {B : Nat} (hB : a.heap.size ≤ B) (r : Int) (k v t : Sl) (cl : Bool) : Ext a (put5 W B r k v t cl) := ((((h.setCell hB _).setCell hB _).setCell hB _).setCell hB _).setCell hB _

abbrev ownW (w : World) (r : Int) (ka : Option Addr) (kn kc : Nat) (va : Option Addr) (vn vc : Nat) (ta : Option Addr) (tn tc : Nat) (cl : Bool) : World :=
  (w.alloc (.cells #[.int .u64 r, .slice ka kn kc, .slice va vn vc, .slice ta tn tc, .bool cl] 30)).alloc (.cells #[.int .u64 0, .slice none 0 0, .slice none 0 0, .slice none 0 0, .bool false] 30)

/-- A state in memory of its own: its votes may be written, and nothing else of it lies there. -/
def OE (s : St) (w : World) (e : Ending) (w' : World) : Prop := Ext w w' ∧ ∃ k v t, e = .returned (sv s.reg k v t s.closed) ∧ SS w' k v t s ∧ (∀ B, B < w.heap.size → Off k.a B ∧ Off v.a B ∧ Off t.a B) ∧
  (0 < t.n → ∃ g, t.a = some ⟨g, 0, none⟩ ∧ w.heap.size ≤ g ∧ (∀ i, w'.frozen? ⟨g, i, none⟩ = false) ∧ (0 < k.n → Off k.a g) ∧ (0 < v.n → Off v.a g))

set_option maxHeartbeats 4000000 in
set_option maxRecDepth 100000 in
theorem own_any (a v t : Sl) (s : St) (w : World) (hS : SS w a v t s) : Calls Tryz.prog 56 #[sv s.reg a v t s.closed] w (OE s w) := by
  obtain ⟨ka, kn, kc⟩ := a
  obtain ⟨va, vn, vc⟩ := v
  obtain ⟨ta, tn, tc⟩ := t
  obtain ⟨r, ks, vs, vt, cl⟩ := s
  obtain ⟨hr, hK, hV, hT⟩ := hS
  dsimp only [sv] at *
  have hkn := hK.le
  have hvn := hV.le
  have htn := hT.le
  have hE0 : Ext w (ownW w r ka kn kc va vn vc ta tn tc cl) := (Ext.new w _).alloc _
  have hz0 : (ownW w r ka kn kc va vn vc ta tn tc cl).heap.size = w.heap.size + 1 + 1 := by simp
  obtain ⟨sA, cA, wA, RA, oA, gA⟩ := appWS (ys := []) (World.ownsRow_nil (ownW w r ka kn kc va vn vc ta tn tc cl) (w.heap.size + 1 + 1) _ _) (hK.ext hE0) kn (Nat.zero_add _) (by omega) (by omega)
  have xA : Ext (ownW w r ka kn kc va vn vc ta tn tc cl) wA := Ext.grown (Ext.refl _) gA (fun k e => by simp [Value.ownBlock] at e)
  have hEA : Ext w (wA.setCell ⟨w.heap.size, 1, none⟩ (.slice sA kn cA)) := (hE0.trans xA).setCell (Nat.le_refl _) _
  have hzA : w.heap.size + 1 < wA.heap.size := by have := xA.size; omega
  obtain ⟨sB, cB, wB, RB, oB, gB⟩ := appWS (ys := []) (World.ownsRow_nil (wA.setCell ⟨w.heap.size, 1, none⟩ (.slice sA kn cA)) (w.heap.size + 1 + 1) _ _) (hV.ext hEA) vn (Nat.zero_add _) (by omega) (by simp; omega)
  have xB : Ext (wA.setCell ⟨w.heap.size, 1, none⟩ (.slice sA kn cA)) wB := Ext.grown (Ext.refl _) gB (fun k e => by simp [Value.ownBlock] at e)
  have hEB : Ext w (wB.setCell ⟨w.heap.size, 2, none⟩ (.slice sB vn cB)) := (hEA.trans xB).setCell (Nat.le_refl _) _
  have hzB : w.heap.size + 1 < wB.heap.size := by have := xB.size; simp at this; omega
  obtain ⟨sC, cC, wC, RC, oC, gC⟩ := appNS (ys := []) (World.ownsRow_nil (wB.setCell ⟨w.heap.size, 2, none⟩ (.slice sB vn cB)) wB.heap.size _ _) (hT.ext hEB) tn (Nat.zero_add _) (by omega) (by simp)
  have xC : Ext (wB.setCell ⟨w.heap.size, 2, none⟩ (.slice sB vn cB)) wC := Ext.grown (Ext.refl _) gC (fun k e => by simp [Value.ownBlock] at e)
  have hEC : Ext w (wC.setCell ⟨w.heap.size, 3, none⟩ (.slice sC tn cC)) := (hEB.trans xC).setCell (Nat.le_refl _) _
  have hzC : w.heap.size + 1 < wC.heap.size := by have := xC.size; simp at this; omega
  obtain ⟨lA1, lA2⟩ := lay xA
  obtain ⟨lB1, lB2⟩ := lay xB
  obtain ⟨lC1, lC2⟩ := lay xC
  have hsA : w.heap.size < wA.heap.size := by omega
  have hsB : w.heap.size < wB.heap.size := by omega
  have hsC : w.heap.size < wC.heap.size := by omega
  have HK := Lib.hid (WS.of_own (by simpa using oA) (by rw [hK.len]) hkn hK.range)
  have HV := Lib.hid (WS.of_own (by simpa using oB) (by rw [hV.len]) hvn hV.range)
  have HT := Lib.hid (NS.of_own (by simpa using oC) (by rw [hT.len]) htn hT.range)
  have HgA := Lib.hid (own_ge oA)
  have HgB := Lib.hid (own_ge oB)
  have HgC := Lib.hid (own_ge oC)
  have HFr : RowKit.Hid (0 < tn → ∃ g, sC = some ⟨g, 0, none⟩ ∧ ∀ i, wC.frozen? ⟨g, i, none⟩ = false) := Lib.hid (fun h0 => by
    rcases oC.2 with ⟨e, hz9⟩ | ⟨g, cap, cur, e, _, hb, _⟩
    · cases e; omega
    · cases e; exact ⟨g, rfl, fun j => by simp [World.frozen?, hb]⟩)
  have HwAB : RowKit.Hid (wA.heap.size ≤ wB.heap.size) := Lib.hid (by have := xB.size; simpa using this)
  have HxB := Lib.hid xB
  have HxC := Lib.hid xC
  have HEC := Lib.hid hEC
  clear oA oB oC gA gB gC xA xB xC hEA hEB hEC hK hV hT hE0
  simp only [World.size_alloc, World.size_setCell] at lA1 lA2 lB1 lB2 lC1 lC2
  have e1 : (wA.setCell ⟨w.heap.size, 1, none⟩ (.slice sA kn cA)).cell? ⟨w.heap.size, 1, none⟩ = some (.slice sA kn cA) := World.cell?_setCell_same' _ _ _ (by rw [lA1 _ _ (by omega)]; simp)
  have e2 : (wB.setCell ⟨w.heap.size, 2, none⟩ (.slice sB vn cB)).cell? ⟨w.heap.size, 2, none⟩ = some (.slice sB vn cB) := World.cell?_setCell_same' _ _ _ (by rw [lB1 _ _ hsA, World.cell?_setCell_other _ _ _ _ (by simp), lA1 _ _ (by omega)]; simp)
  have e3 : (wC.setCell ⟨w.heap.size, 3, none⟩ (.slice sC tn cC)).cell? ⟨w.heap.size, 3, none⟩ = some (.slice sC tn cC) := World.cell?_setCell_same' _ _ _ (by rw [lC1 _ _ hsB, World.cell?_setCell_other _ _ _ _ (by simp), lB1 _ _ hsA, World.cell?_setCell_other _ _ _ _ (by simp), lA1 _ _ (by omega)]; simp)
  go_enter Tryz.func56, Tryz.ntmps56
  go_wp2_with (first
    | (at_builtin; refine Lib.wpList_append_run _ rfl (.const (.slice none 0 0)) (.tmp 4) _ _ rfl _ _ rfl rfl _ _ RA.out ?_)
    | (at_builtin; refine Lib.wpList_append_run _ rfl (.const (.slice none 0 0)) (.tmp 8) _ _ rfl _ _ rfl rfl _ _ RB.out ?_)
    | (at_builtin; refine Lib.wpList_append_run _ rfl (.const (.slice none 0 0)) (.tmp 12) _ _ rfl _ _ rfl rfl _ _ RC.out ?_))
  have h5 := five_put (W := wC.setCell ⟨w.heap.size, 3, none⟩ (.slice sC tn cC)) (B := w.heap.size + 1) (fun i hi => by
    rw [cell_far (by omega), lC1 _ _ hzB, cell_far (by omega), lB1 _ _ hzA, cell_far (by omega), lA1 _ _ (by omega)]
    rcases (by omega : i = 0 ∨ i = 1 ∨ i = 2 ∨ i = 3 ∨ i = 4) with rfl | rfl | rfl | rfl | rfl <;> simp) r ⟨sA, kn, cA⟩ ⟨sB, vn, cB⟩ ⟨sC, tn, cC⟩ cl
  obtain ⟨q0, q1, q2, q3, q4⟩ := h5
  refine bodyPost_ret (v := sv r ⟨sA, kn, cA⟩ ⟨sB, vn, cB⟩ ⟨sC, tn, cC⟩ cl) (by simp [results, Tryz.results56, go_sem, q0, q1, q2, q3, q4]) rfl ?_
  have oA0 := off_own HgA.out (B := w.heap.size) (by omega)
  have oA1 := off_own HgA.out (B := w.heap.size + 1) (by omega)
  have oB0 := off_own HgB.out (B := w.heap.size) (by omega)
  have oB1 := off_own HgB.out (B := w.heap.size + 1) (by omega)
  have oC0 := off_own HgC.out (B := w.heap.size) (by omega)
  have oC1 := off_own HgC.out (B := w.heap.size + 1) (by omega)
  refine ⟨HEC.out.put5 (by omega) r ⟨sA, kn, cA⟩ ⟨sB, vn, cB⟩ ⟨sC, tn, cC⟩ cl, _, _, _, rfl, ⟨hr, ?_, ?_, ?_⟩, fun B hB => ⟨off_own HgA.out (by omega), off_own HgB.out (by omega), off_own HgC.out (by omega)⟩, fun h0 => ?_⟩
  · exact ((((((HK.out.far oA0 _ _).ext HxB.out).far oA0 _ _).ext HxC.out).far oA0 _ _)).far5 oA1 r ⟨sA, kn, cA⟩ ⟨sB, vn, cB⟩ ⟨sC, tn, cC⟩ cl
  · exact ((((HV.out.far oB0 _ _).ext HxC.out).far oB0 _ _)).far5 oB1 r ⟨sA, kn, cA⟩ ⟨sB, vn, cB⟩ ⟨sC, tn, cC⟩ cl
  · exact (HT.out.far oC0 _ _).far5 oC1 r ⟨sA, kn, cA⟩ ⟨sB, vn, cB⟩ ⟨sC, tn, cC⟩ cl
  · obtain ⟨g, hg, hfr⟩ := HFr.out h0
    have hgb : wB.heap.size ≤ g := HgC.out g (by rw [hg]; simp [Value.ownBlock])
    refine ⟨g, hg, by omega, fun i => ?_, fun hk g' o' e => ?_, fun hv g' o' e => ?_⟩
    · rw [World.frozen?_setCell, World.frozen?_setCell, World.frozen?_setCell, World.frozen?_setCell, World.frozen?_setCell, World.frozen?_setCell]; exact hfr i
    · obtain ⟨x, _, _, b, o, e2, hc⟩ := HK.out.get (k := 0) hk
      have h1 : b < wA.heap.size := World.block_lt_of_cell? wA _ hc
      dsimp only at e
      rw [e] at e2
      cases e2
      have := HwAB.out
      omega
    · obtain ⟨x, _, _, b, o, e2, hc⟩ := HV.out.get (k := 0) hv
      have h1 : b < wB.heap.size := World.block_lt_of_cell? wB _ hc
      dsimp only at e
      rw [e] at e2
      cases e2
      omega

end Go.Proofs.YtmonkcekkhfafaaGreatDoor.Aut

/- AutSame:
  What the document's Same and Told return: whether two states, or two lists of answers, are the same. Condition: their slices are there.
-/
namespace Go.Proofs.YtmonkcekkhfafaaGreatDoor.Aut
open Go.RowKit (Below intOf)
open Reg (cf bx)

set_option maxHeartbeats 4000000 in
set_option maxRecDepth 100000 in
theorem same_any (a v t a' v' t' : Sl) (s s' : St) (r : Bool) (w : World) (hS : SS w a v t s) (hS' : SS w a' v' t' s') (hr : RowKit.Hid (r = decide (s = s'))) :
    Calls Tryz.prog 18 #[sv s.reg a v t s.closed, sv s'.reg a' v' t' s'.closed] w fun e w' => e = .returned (.bool r) ∧ Ext w w' := by
  obtain ⟨ka, kn, kc⟩ := a
  obtain ⟨va, vn, vc⟩ := v
  obtain ⟨ta, n, tc⟩ := t
  obtain ⟨rg, ks, vs, vt, cl⟩ := s
  obtain ⟨ka', kn', kc'⟩ := a'
  obtain ⟨va', vn', vc'⟩ := v'
  obtain ⟨ta', n', tc'⟩ := t'
  obtain ⟨rg', ks', vs', vt', cl'⟩ := s'
  obtain ⟨_, hK, hV, hT⟩ := hS
  obtain ⟨_, hK', hV', hT'⟩ := hS'
  dsimp only [sv] at *
  have hn := hT.le
  have hn' := hT'.le
  have hq : RowKit.Hid (r = (decide (vt = vt') && (decide (rg = rg') && (decide (cl = cl') && (decide (ks = ks') && decide (vs = vs')))))) := Lib.hid (by
    rw [hr.out]
    by_cases h1 : vt = vt' <;> by_cases h2 : rg = rg' <;> by_cases h3 : cl = cl' <;> by_cases h4 : ks = ks' <;> by_cases h5 : vs = vs' <;> simp [h1, h2, h3, h4, h5])
  have HK := Lib.hid hK
  have HV := Lib.hid hV
  have HT := Lib.hid hT
  have HK' := Lib.hid hK'
  have HV' := Lib.hid hV'
  have HT' := Lib.hid hT'
  clear hK hV hT hK' hV' hT' hr
  have HE0 : RowKit.Hid (Ext w ((w.alloc (.cells #[.int .u64 rg, .slice ka kn kc, .slice va vn vc, .slice ta n tc, .bool cl] 30)).alloc (.cells #[.int .u64 rg', .slice ka' kn' kc', .slice va' vn' vc', .slice ta' n' tc', .bool cl'] 30))) := Lib.hid ((Ext.new w _).alloc _)
  by_cases hnm : n = n'
  · subst hnm
    have hnn : (n != n) = false := by simp
    go_enter Tryz.func18, Tryz.ntmps18
    go_wp2_with (fail)
    go_loopw [5] (fun i w' => ∃ k q : Nat, k ≤ n ∧ i = .int .i64 k ∧ w' = ((w.alloc (.cells #[.int .u64 rg, .slice ka kn kc, .slice va vn vc, .slice ta n tc, .bool cl] 30)).alloc (.cells #[.int .u64 rg', .slice ka' kn' kc', .slice va' vn' vc', .slice ta' n tc', .bool cl'] 30)).drewN q ∧ RowKit.Hid (∀ j, j < k → vt[j]? = vt'[j]?)) (fun i _ => n - (intOf i).toNat)
    case atStart => exact ⟨0, 0, by omega, rfl, rfl, Lib.hid (fun j hj => by omega)⟩
    case round =>
      obtain ⟨k, q, hk, rfl, rfl, hz⟩ := hrel
      by_cases hlt : k < n
      · obtain ⟨p, hx, _, b, o, rfl, hc⟩ := HT.out.get hlt
        obtain ⟨p', hy, _, b2, o2, rfl, hd⟩ := HT'.out.get hlt
        have hc2 := HE0.out.cell hc
        have hd2 := HE0.out.cell hd
        have HX := Lib.hid hx
        have HY := Lib.hid hy
        clear hx hy hc hd
        by_cases hp : p = p'
        · subst hp
          have hb1 : (p != p) = false := by simp
          go_wp2_with (fail)
          go_quiet (fail)
          go_wp2
          go_roundw
          case rel => exact ⟨k + 1, q + nq, by omega, by go_num, rfl, Lib.hid (fun j hj => by
            by_cases e : j = k
            · subst e; rw [HX.out, HY.out]
            · exact hz.out j (by omega))⟩
          case measure => simp [intOf]; omega
        · have hb : (p != p') = true := by simpa using hp
          have HN : RowKit.Hid (r = false) := Lib.hid (by rw [hq.out, decide_eq_false (ne_at HX.out HY.out hp)]; rfl)
          clear hp
          go_wp2_with (fail)
          go_quiet (fail)
          go_wp2
          go_ret
          exact ⟨ret_bool HN.out.symm, (HE0.out.drewN q).drewN nq⟩
      · obtain rfl : k = n := by omega
        have hvt : vt = vt' := eq_all HT.out.len HT'.out.len hz.out
        have hq2 : RowKit.Hid (r = (decide (rg = rg') && (decide (cl = cl') && (decide (ks = ks') && decide (vs = vs'))))) := Lib.hid (by rw [hq.out, decide_eq_true hvt, Bool.true_and])
        clear hvt hq
        by_cases h2 : rg = rg'
        · have hq3 : RowKit.Hid (r = (decide (cl = cl') && (decide (ks = ks') && decide (vs = vs')))) := Lib.hid (by rw [hq2.out, decide_eq_true h2, Bool.true_and])
          subst h2
          have hb2 : (rg == rg) = true := by simp
          clear hq2
          by_cases h3 : cl = cl'
          · have hq4 : RowKit.Hid (r = (decide (ks = ks') && decide (vs = vs'))) := Lib.hid (by rw [hq3.out, decide_eq_true h3, Bool.true_and])
            subst h3
            have hb3 : (cl == cl) = true := by simp
            have hWq := HE0.out.drewN q
            have HWq := Lib.hid hWq
            have hW1 := fun rr W (hW : Ext w W) hr => words_any ka ka' kn kn' kc kc' ks ks' rr W (HK.out.ext hW) (HK'.out.ext hW) hr
            have hW2 := fun rr W (hW : Ext w W) hr => words_any va va' vn vn' vc vc' vs vs' rr W (HV.out.ext hW) (HV'.out.ext hW) hr
            clear hq3 hWq
            by_cases h4 : ks = ks'
            · have hq5 : RowKit.Hid (r = decide (vs = vs')) := Lib.hid (by rw [hq4.out, decide_eq_true h4, Bool.true_and])
              have H4 : RowKit.Hid (true = decide (ks = ks')) := Lib.hid (by rw [decide_eq_true h4])
              clear h4
              go_wp2_with (fail)
              refine (hW1 true _ HWq.out H4).mono ?_
              rintro e w1 ⟨rfl, hE1⟩
              obtain ⟨l1, l2⟩ := lay hE1
              have hs1 : w.heap.size + 1 < w1.heap.size := by have := hE1.size; simp at this; omega
              have hs0 : w.heap.size < w1.heap.size := by omega
              have HE1 := Lib.hid (HWq.out.trans hE1)
              clear hE1
              go_wp2_with (fail)
              refine (hW2 r _ HE1.out hq5).mono ?_
              rintro e w2 ⟨rfl, hE2⟩
              go_wp2_with (fail)
              go_ret
              exact ⟨rfl, HE1.out.trans hE2⟩
            · have hq5 : RowKit.Hid (r = false) := Lib.hid (by rw [hq4.out, decide_eq_false h4]; rfl)
              have H4 : RowKit.Hid (false = decide (ks = ks')) := Lib.hid (by rw [decide_eq_false h4])
              clear h4
              go_wp2_with (fail)
              refine (hW1 false _ HWq.out H4).mono ?_
              rintro e w1 ⟨rfl, hE1⟩
              go_wp2_with (fail)
              go_ret
              exact ⟨ret_bool hq5.out.symm, HWq.out.trans hE1⟩
          · have hb3 : (cl == cl') = false := by simpa using h3
            have hq4 : RowKit.Hid (r = false) := Lib.hid (by rw [hq3.out, decide_eq_false h3]; rfl)
            clear h3
            go_wp2_with (fail)
            go_ret
            exact ⟨ret_bool hq4.out.symm, HE0.out.drewN q⟩
        · have hb2 : (rg == rg') = false := by simpa using h2
          have hq4 : RowKit.Hid (r = false) := Lib.hid (by rw [hq2.out, decide_eq_false h2]; rfl)
          clear h2
          go_wp2_with (fail)
          go_ret
          exact ⟨ret_bool hq4.out.symm, HE0.out.drewN q⟩
  · have hb : ((n : Int) != (n' : Int)) = true := by simp; omega
    have hb2 : (n != n') = true := by simpa using hnm
    have hq4 : RowKit.Hid (r = false) := Lib.hid (by rw [hq.out, decide_eq_false (fun e => hnm (by rw [← HT.out.len, ← HT'.out.len, e]))]; rfl)
    go_enter Tryz.func18, Tryz.ntmps18
    go_wp2
    go_ret
    exact ⟨ret_bool hq4.out.symm, HE0.out⟩

end Go.Proofs.YtmonkcekkhfafaaGreatDoor.Aut

/- AutKeys:
  What the document's keys returns: whether a state's keys are right. Conditions: integers' bounds; the state's slices are there.
-/
namespace Go.Proofs.YtmonkcekkhfafaaGreatDoor.Aut
open Go.RowKit (Below intOf)
open Reg (cf bx)

/-- The first i keys are right. -/
def UpTo (k : Int) (ks : List Int) (i : Nat) : Prop := (∀ (j : Nat) x, j < i → ks[j]? = some x → meantK k x = x ∧ mayK k x = true) ∧ ∀ (j : Nat) x y, j + 1 < i → ks[j]? = some x → ks[j + 1]? = some y → ordK k x < ordK k y
theorem upto_all {k : Int} {ks : List Int} (h : UpTo k ks ks.length) : (∀ x ∈ ks, meantK k x = x ∧ mayK k x = true) ∧ RisingK k ks := by
  refine ⟨fun x hx => ?_, ?_⟩
  · obtain ⟨j, hj⟩ := List.mem_iff_getElem?.1 hx
    exact h.1 j x (List.getElem?_eq_some_iff.1 hj).1 hj
  · have key : ∀ (d i : Nat) x y, ks[i]? = some x → ks[i + d + 1]? = some y → ordK k x < ordK k y := by
      intro d
      induction d with
      | zero => exact fun i x y hx hy => h.2 i x y (List.getElem?_eq_some_iff.1 hy).1 hx hy
      | succ d ih =>
        intro i x y hx hy
        have hl := (List.getElem?_eq_some_iff.1 hy).1
        have hm : ks[i + d + 1]? = some (ks[i + d + 1]'(by omega)) := List.getElem?_eq_getElem (by omega)
        have h1 := ih i x _ hx hm
        have h2 := h.2 (i + d + 1) _ y hl hm hy
        omega
    exact rising_iff.2 fun i j x y hij hi hj => key (j - i - 1) i x y hi (by rw [show i + (j - i - 1) + 1 = j by omega]; exact hj)
theorem upto_snoc {k : Int} {ks : List Int} {i : Nat} {x : Int} (h : UpTo k ks i) (hx : ks[i]? = some x) (h1 : meantK k x = x) (h2 : mayK k x = true) (h3 : ∀ y, 0 < i → ks[i - 1]? = some y → ordK k y < ordK k x) : UpTo k ks (i + 1) := by
  refine ⟨fun j y hj hy => ?_, fun j y z hj hy hz => ?_⟩
  · by_cases e : j = i
    · subst e; rw [hx] at hy; cases hy; exact ⟨h1, h2⟩
    · exact h.1 j y (by omega) hy
  · by_cases e : j + 1 = i
    · subst e; rw [hx] at hz; cases hz; exact h3 y (by omega) (by simpa using hy)
    · exact h.2 j y z (by omega) hy hz

set_option maxHeartbeats 8000000 in
set_option maxRecDepth 100000 in
/-- The loop over the keys. -/
theorem keys_ok (k p m : Int) (ka : Option Addr) (n kc : Nat) (va : Option Addr) (vn vc : Nat) (ta : Option Addr) (tn tc : Nat) (r : Int) (ks vs vt : List Int) (cl : Bool) (w : World) (_hm : I64 m) (hK : WS w ka n kc ks) (hlen : vs.length = vn) (_hvn : vn ≤ 1048576) (hA : (n : Int) ≤ m) (hV : vn = if valued k then n else 0) :
    Calls Tryz.prog 66 #[cf k p m, sv r ⟨ka, n, kc⟩ ⟨va, vn, vc⟩ ⟨ta, tn, tc⟩ cl] w fun e w' => e = .returned (.bool (decide (KeysOk k m ⟨r, ks, vs, vt, cl⟩))) ∧ Ext w w' := by
  have hn := hK.le
  have HK := Lib.hid hK
  have hokx : RowKit.Hid (KeysOk k m ⟨r, ks, vs, vt, cl⟩ ↔ (∀ x ∈ ks, meantK k x = x ∧ mayK k x = true) ∧ RisingK k ks) := Lib.hid (by
    unfold KeysOk
    simp only
    rw [hK.len, hlen, hV]
    exact ⟨fun h => h.2.2, fun h => ⟨hA, rfl, h⟩⟩)
  have hA' : decide (m < (n : Int)) = false := decide_eq_false (by omega)
  obtain ⟨HT0, HF0, HX0⟩ := both_new w k p m r ⟨ka, n, kc⟩ ⟨va, vn, vc⟩ ⟨ta, tn, tc⟩ cl
  have HT := Lib.hid HT0
  have HF := Lib.hid HF0
  have HX := Lib.hid HX0
  have HVd := Lib.hid (fun W => valued_any k p m W)
  obtain ⟨vd, hvd⟩ : ∃ vd, valued k = vd := ⟨_, rfl⟩
  rw [hvd] at HVd hV
  clear HT0 HF0 HX0 hK hlen
  dsimp only [sv, sb] at *
  have hvv : (vd = true ∧ vn = n) ∨ (vd = false ∧ vn = 0) := by cases vd <;> simp at hV <;> simp [hV]
  have hvw : (vd = true ∧ (vn != n) = false ∧ ((vn : Int) != (n : Int)) = false) ∨ (vd = false ∧ decide (0 < vn) = false ∧ decide ((0 : Int) < vn) = false) := by
    rcases hvv with ⟨h1, h2⟩ | ⟨h1, h2⟩
    · exact .inl ⟨h1, by simp [h2], by simp [h2]⟩
    · exact .inr ⟨h1, by simp [h2], by simp [h2]⟩
  clear hV hvd hvv
  rcases hvw with ⟨rfl, hq1, hq2⟩ | ⟨rfl, hq1, hq2⟩
  all_goals
    go_enter Tryz.func66, Tryz.ntmps66
    go_wp2_with (go_at_call 107; (with_reducible refine (HVd.out _).mono ?_); rintro e w1 ⟨rfl, hE⟩; replace HX := Lib.hid (HX.out.trans hE); replace HT := Lib.hid (HT.out.ext hE); replace HF := Lib.hid (HF.out.ext hE); obtain ⟨c0, c1, c2⟩ := HT.out; obtain ⟨d0, d1, d2, d3, d4⟩ := HF.out)
    clear c0 c1 c2 d0 d1 d2 d3 d4 hE
    clear HVd
    go_loopw [5] (fun iv wr => ∃ i : Nat, i ≤ n ∧ iv = .int .i64 i ∧ RowKit.Hid (Ext w wr) ∧ RowKit.Hid (Three wr w.heap.size k p m) ∧ RowKit.Hid (Five wr (w.heap.size + 1) r ⟨ka, n, kc⟩ ⟨va, vn, vc⟩ ⟨ta, tn, tc⟩ cl) ∧ RowKit.Hid (UpTo k ks i)) (fun i _ => n - (intOf i).toNat)
    case atStart => exact ⟨0, by omega, rfl, HX, HT, HF, Lib.hid ⟨fun j x hj => by omega, fun j x y hj => by omega⟩⟩
    case round =>
      clear HX HT HF
      obtain ⟨i, hi, rfl, HX, HT, HF, hP⟩ := hrel
      obtain ⟨c0, c1, c2⟩ := HT.out
      obtain ⟨d0, d1, d2, d3, d4⟩ := HF.out
      by_cases hin : i < n
      · have hii : (i : Int) < n := by omega
        obtain ⟨x, hx, ux, b, o, rfl, cx⟩ := (HK.out.ext HX.out).get (k := i) hin
        have HXi := Lib.hid hx
        have HM := Lib.hid (fun W => meant_any k p m x W ux)
        clear hx
        go_wp2_with (fail)
        go_region_held3 (fun w' => (w'.cell? ⟨w.heap.size, 0, none⟩ = some (.int .i64 k) ∧ w'.cell? ⟨w.heap.size, 1, none⟩ = some (.int .i64 p) ∧ w'.cell? ⟨w.heap.size, 2, none⟩ = some (.int .i64 m) ∧ w'.cell? ⟨w.heap.size + 1, 1, none⟩ = some (.slice (some ⟨b, o, none⟩) n kc) ∧ w'.cell? ⟨b, o + i, none⟩ = some (.int .u64 x)))
          (first
            | exact ⟨Ext.cell x1 c0, Ext.cell x1 c1, Ext.cell x1 c2, Ext.cell x1 d1, Ext.cell x1 cx⟩
            | exact ⟨c0, c1, c2, d1, cx⟩
            | go_keep)
          ((go_at_call 101; (with_reducible refine (HM.out _).mono ?_); rintro e w2 ⟨rfl, x1⟩))
        rename_i hh
        clear hh c0 c1 c2 d0 d1 d2 d3 d4 cx
        replace HX := Lib.hid (HX.out.trans (Ext.trans (Ext.drew (Ext.refl wr)) x1))
        replace HT := Lib.hid (HT.out.ext (Ext.trans (Ext.drew (Ext.refl wr)) x1))
        replace HF := Lib.hid (HF.out.ext (Ext.trans (Ext.drew (Ext.refl wr)) x1))
        clear x1
        obtain ⟨c0, c1, c2⟩ := HT.out
        obtain ⟨d0, d1, d2, d3, d4⟩ := HF.out
        obtain ⟨x', hx', _, b', o', e', cx⟩ := (HK.out.ext HX.out).get (k := i) hin
        cases e'
        rw [HXi.out] at hx'
        cases hx'
        have no : ∀ (_ : ¬ (meantK k x = x ∧ mayK k x = true)), decide (KeysOk k m ⟨r, ks, vs, vt, cl⟩) = false := fun h => decide_eq_false (fun hk => h ((hokx.out.1 hk).1 x (List.mem_of_getElem? HXi.out)))
        by_cases hmay : mayK k x = true
        · by_cases hmx : meantK k x = x
          · have hb : (x != x) = false := by simp
            rw [hmx]
            by_cases h0 : i = 0
            · subst h0
              have hN2 : RowKit.Hid (UpTo k ks (0 + 1)) := Lib.hid (upto_snoc hP.out HXi.out hmx hmay (fun y h => absurd h (by omega)))
              have hii0 : (0 : Int) < n := by omega
              rw [Nat.add_zero] at cx
              rw [hmay]
              clear no hmx
              go_wp2_with (fail)
              go_quiet (fail)
              go_wp2_with (fail)
              go_roundw
              case rel => exact ⟨0 + 1, by omega, by go_num, Lib.hid (HX.out.drewN nq), Lib.hid (HT.out.ext (Ext.draws w2 nq)), Lib.hid (HF.out.ext (Ext.draws w2 nq)), hN2⟩
              case measure => simp [intOf]; omega
            · obtain ⟨i', rfl⟩ : ∃ i', i = i' + 1 := ⟨i - 1, by omega⟩
              have h0p : decide (0 < ((i' : Int) + 1)) = true := decide_eq_true (by omega)
              have hw1 : IntKind.i64.wrap ((i' : Int) + 1 - 1) = i' := by rw [IntWalk.i64_in _ (by omega)]; omega
              have hw2 : IntKind.i64.wrap (i' : Int) = i' := IntWalk.i64_in _ (by omega)
              have hi1 : (i' : Int) < n := by omega
              have hi2 : (i' : Int) + 1 < n := by omega
              have hi3 : (0 : Int) ≤ (i' : Int) + 1 := by omega
              obtain ⟨y, hy, uy, b', o', e', cy⟩ := (HK.out.ext HX.out).get (k := i') (by omega)
              cases e'
              have HYi := Lib.hid hy
              have HL := Lib.hid (fun W => less_any' k p m y x W uy ux)
              clear hy
              by_cases hlt : ordK k y < ordK k x
              · have hN2 : RowKit.Hid (UpTo k ks (i' + 1 + 1)) := Lib.hid (upto_snoc hP.out HXi.out hmx hmay (fun z _ hz => by rw [Nat.add_sub_cancel, HYi.out] at hz; cases hz; exact hlt))
                rw [decide_eq_true hlt] at HL
                rw [hmay]
                clear no hmx
                go_wp2_with (fail)
                go_region_held3 (fun w' => (w'.cell? ⟨w.heap.size, 0, none⟩ = some (.int .i64 k) ∧ w'.cell? ⟨w.heap.size, 1, none⟩ = some (.int .i64 p) ∧ w'.cell? ⟨w.heap.size, 2, none⟩ = some (.int .i64 m) ∧ w'.cell? ⟨w.heap.size + 1, 1, none⟩ = some (.slice (some ⟨b, o, none⟩) n kc) ∧ w'.cell? ⟨b, o + (i' + 1), none⟩ = some (.int .u64 x) ∧ w'.cell? ⟨b, o + i', none⟩ = some (.int .u64 y)))
                  (first
                    | exact ⟨Ext.cell x3 c0, Ext.cell x3 c1, Ext.cell x3 c2, Ext.cell x3 d1, Ext.cell x3 cx, Ext.cell x3 cy⟩
                    | exact ⟨c0, c1, c2, d1, cx, cy⟩
                    | go_keep)
                  ((go_at_call 102; (with_reducible refine (HL.out _).mono ?_); rintro e w3 ⟨rfl, x3⟩))
                rename_i hh
                clear hh
                have xx := Ext.trans (Ext.drew (Ext.refl w2)) x3
                go_wp2_with (fail)
                go_roundw
                case rel => exact ⟨i' + 1 + 1, by omega, by go_num, Lib.hid (HX.out.trans xx), Lib.hid (HT.out.ext xx), Lib.hid (HF.out.ext xx), hN2⟩
                case measure => simp [intOf]; omega
              · have hz : RowKit.Hid (decide (KeysOk k m ⟨r, ks, vs, vt, cl⟩) = false) := Lib.hid (decide_eq_false (fun hk => hlt ((hokx.out.1 hk).2.lt HYi.out HXi.out (by omega))))
                rw [decide_eq_false hlt] at HL
                rw [hmay]
                clear no hmx
                go_wp2_with (fail)
                go_region_held3 (fun w' => (w'.cell? ⟨w.heap.size, 0, none⟩ = some (.int .i64 k) ∧ w'.cell? ⟨w.heap.size, 1, none⟩ = some (.int .i64 p) ∧ w'.cell? ⟨w.heap.size, 2, none⟩ = some (.int .i64 m) ∧ w'.cell? ⟨w.heap.size + 1, 1, none⟩ = some (.slice (some ⟨b, o, none⟩) n kc) ∧ w'.cell? ⟨b, o + (i' + 1), none⟩ = some (.int .u64 x) ∧ w'.cell? ⟨b, o + i', none⟩ = some (.int .u64 y)))
                  (first
                    | exact ⟨Ext.cell x3 c0, Ext.cell x3 c1, Ext.cell x3 c2, Ext.cell x3 d1, Ext.cell x3 cx, Ext.cell x3 cy⟩
                    | exact ⟨c0, c1, c2, d1, cx, cy⟩
                    | go_keep)
                  ((go_at_call 102; (with_reducible refine (HL.out _).mono ?_); rintro e w3 ⟨rfl, x3⟩))
                rename_i hh
                clear hh
                have xx := Ext.trans (Ext.drew (Ext.refl w2)) x3
                go_wp2_with (fail)
                go_ret
                exact ⟨ret_bool hz.out.symm, HX.out.trans xx⟩
          · have hb : (meantK k x != x) = true := by simpa using hmx
            have hz : RowKit.Hid (decide (KeysOk k m ⟨r, ks, vs, vt, cl⟩) = false) := Lib.hid (no (fun h => hmx h.1))
            clear no hmx
            go_wp2_with (fail)
            go_quiet (fail)
            go_wp2_with (fail)
            go_ret
            exact ⟨ret_bool hz.out.symm, HX.out.drewN nq⟩
        · have hmay' : mayK k x = false := by simpa using hmay
          have hz : RowKit.Hid (decide (KeysOk k m ⟨r, ks, vs, vt, cl⟩) = false) := Lib.hid (no (fun h => hmay h.2))
          clear no hmay
          go_wp2_with (fail)
          go_quiet (fail)
          go_wp2_with (fail)
          go_ret
          exact ⟨ret_bool hz.out.symm, HX.out.drewN nq⟩
      · obtain rfl : i = n := by omega
        have hz : RowKit.Hid (decide (KeysOk k m ⟨r, ks, vs, vt, cl⟩) = true) := Lib.hid (decide_eq_true (hokx.out.2 (upto_all (by rw [HK.out.len]; exact hP.out))))
        go_wp2_with (fail)
        go_ret
        exact ⟨ret_bool hz.out.symm, HX.out⟩

set_option maxHeartbeats 4000000 in
set_option maxRecDepth 100000 in
theorem keys_any (k p m : Int) (a v t : Sl) (s : St) (w : World) (hm : I64 m) (hS : SS w a v t s) :
    Calls Tryz.prog 66 #[cf k p m, sv s.reg a v t s.closed] w fun e w' => e = .returned (.bool (decide (KeysOk k m s))) ∧ Ext w w' := by
  obtain ⟨ka, n, kc⟩ := a
  obtain ⟨va, vn, vc⟩ := v
  obtain ⟨ta, tn, tc⟩ := t
  obtain ⟨r, ks, vs, vt, cl⟩ := s
  obtain ⟨_, hK, hV, hT⟩ := hS
  dsimp only at *
  by_cases hA : (n : Int) ≤ m
  · by_cases hE : vn = if valued k then n else 0
    · exact keys_ok k p m ka n kc va vn vc ta tn tc r ks vs vt cl w hm hK hV.len hV.le hA hE
    · have hz : RowKit.Hid (decide (KeysOk k m ⟨r, ks, vs, vt, cl⟩) = false) := Lib.hid (decide_eq_false (fun h => hE (by have := h.2.1; simp only at this; rw [hV.len, hK.len] at this; exact this)))
      have hn := hK.le
      have hvn := hV.le
      have hA' : decide (m < (n : Int)) = false := decide_eq_false (by omega)
      obtain ⟨HT0, HF0, HX0⟩ := both_new w k p m r ⟨ka, n, kc⟩ ⟨va, vn, vc⟩ ⟨ta, tn, tc⟩ cl
      have HT := Lib.hid HT0
      have HF := Lib.hid HF0
      have HX := Lib.hid HX0
      have HVd := Lib.hid (fun W => valued_any k p m W)
      clear HT0 HF0 HX0 hK hV hT
      dsimp only [sv, sb] at *
      cases hvd : valued k with
      | true =>
        rw [hvd] at HVd hE
        simp only [if_true] at hE
        have hq1 : (vn != n) = true := by simpa using hE
        have hq2 : ((vn : Int) != (n : Int)) = true := by simp; omega
        clear hvd hE
        go_enter Tryz.func66, Tryz.ntmps66
        go_wp2_with (go_at_call 107; (with_reducible refine (HVd.out _).mono ?_); rintro e w1 ⟨rfl, hE⟩; replace HX := Lib.hid (HX.out.trans hE); replace HT := Lib.hid (HT.out.ext hE); replace HF := Lib.hid (HF.out.ext hE); obtain ⟨c0, c1, c2⟩ := HT.out; obtain ⟨d0, d1, d2, d3, d4⟩ := HF.out)
        go_ret
        exact ⟨ret_bool hz.out.symm, HX.out⟩
      | false =>
        rw [hvd] at HVd hE
        simp only [Bool.false_eq_true, if_false] at hE
        have hq1 : decide (0 < vn) = true := decide_eq_true (by omega)
        have hq2 : decide ((0 : Int) < vn) = true := decide_eq_true (by omega)
        clear hvd hE
        go_enter Tryz.func66, Tryz.ntmps66
        go_wp2_with (go_at_call 107; (with_reducible refine (HVd.out _).mono ?_); rintro e w1 ⟨rfl, hE⟩; replace HX := Lib.hid (HX.out.trans hE); replace HT := Lib.hid (HT.out.ext hE); replace HF := Lib.hid (HF.out.ext hE); obtain ⟨c0, c1, c2⟩ := HT.out; obtain ⟨d0, d1, d2, d3, d4⟩ := HF.out)
        go_ret
        exact ⟨ret_bool hz.out.symm, HX.out⟩
  · have hz : RowKit.Hid (decide (KeysOk k m ⟨r, ks, vs, vt, cl⟩) = false) := Lib.hid (decide_eq_false (fun h => hA (by have := h.1; simp only at this; rw [hK.len] at this; exact this)))
    have hn := hK.le
    have hA' : decide (m < (n : Int)) = true := decide_eq_true (by omega)
    clear hK hV hT hA
    go_enter Tryz.func66, Tryz.ntmps66
    go_wp2_with (fail)
    go_ret
    exact ⟨ret_bool hz.out.symm, (Ext.new w _).alloc _⟩

end Go.Proofs.YtmonkcekkhfafaaGreatDoor.Aut

