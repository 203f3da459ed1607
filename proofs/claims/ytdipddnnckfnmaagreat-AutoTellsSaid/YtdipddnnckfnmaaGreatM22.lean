/-
  Parts of a proof, one behind the other: LanRoom, LanFull, LanPut, LanGrow, LanMut, LanAdd. Each says its own conditions.
-/
import Derived.Test.YtdipddnnckfnmaaGreatM21
import Derived.Lib.Overlaps
import Derived.Laws.IdiomCopy
import Derived.Lib.AppendZerosOnto

/- LanRoom:
  slices.Insert of one word into a row of one's own that has room. Conditions: the words are words.
-/
namespace Go.Proofs.YtdipddnnckfnmaaGreat.Lan
open Go.RowKit (Below intOf)
open Go.Proofs.YtdipddnnckfnmaaGreat.Aut
open Go.Proofs.YtdipddnnckfnmaaGreat.Reg (cf bx fits_any)

theorem cut_lo (g o n c i : Nat) (h : i ≤ n) (hc : c ≠ i) (w : World) : (Instr.sliceAt 27 (.slice (some ⟨g, o, none⟩) n c) (some (.int .i64 (i : Int))) none none).run Tryz.prog w = .ok (.slice (some ⟨g, o + i, none⟩) (n - i) (c - i)) w := by
  rw [slice_loWS _ _ _ _ h]; unfold cutAt; rw [if_neg hc, Option.map_some, add_is, Nat.mul_one]
theorem setCells_get {w : World} {g o : Nat} {cs : List Value} (h : ∀ j, j < cs.length → (w.cell? ⟨g, o + j, none⟩).isSome = true) (k : Nat) : (w.setCells g o cs).cell? ⟨g, k, none⟩ = if o ≤ k ∧ k < o + cs.length then cs[k - o]? else w.cell? ⟨g, k, none⟩ := by
  by_cases c : o ≤ k ∧ k < o + cs.length
  · rw [if_pos c]
    have := World.cell?_setCells_in g cs o w h (k - o) (by omega)
    rw [show o + (k - o) = k by omega] at this
    rw [this, List.getElem?_eq_getElem]
  · rw [if_neg c]
    exact World.cell?_setCells_out g cs o w ⟨g, k, none⟩ (fun _ _ => by show k < o ∨ o + cs.length ≤ k; omega)
theorem heap_sets (g : Nat) : ∀ (cs : List Value) (o : Nat) (w : World) {b : Nat}, b ≠ g → (w.setCells g o cs).heap[b]? = w.heap[b]?
  | [], _, _, _, _ => rfl
  | v :: r, o, w, b, h => by rw [World.setCells, heap_sets g r _ _ h]; exact heap_set w g o v h
theorem size_sets (g : Nat) : ∀ (cs : List Value) (o : Nat) (w : World), (w.setCells g o cs).heap.size = w.heap.size
  | [], _, _ => rfl
  | v :: r, o, w => by rw [World.setCells, size_sets g r]; simp
theorem grown_sets (g : Nat) : ∀ (cs : List Value) (o : Nat) (w : World), w.grownBy (w.setCells g o cs) (some g)
  | [], _, w => World.grownBy.refl w _
  | v :: r, o, w => by rw [World.setCells]; exact (gr_set w g o v).trans (grown_sets g r _ _)

theorem step_copied {P : Program} (w : World) {ops : Array Oper} {o : Oper} {a : Act} {K : Act → World → Prop} {Q : Exit → Act → World → Prop} {E : Prop} (hgd : o.guard = none) (d x : Operand) (t t2 : TypeId)
    (ho : o.op = .call { callee := .builtin .copy, args := #[d, x], argTypes := #[t, t2] }) (vd vx : Value) (hd : a.eval d = vd) (hx : a.eval x = vx) (v' : Value) (w' : World) (hr : (Builtin.copy_ #[t, t2] o.type #[vd, vx]).run P w = .ok v' w') (h : K (a.put o.dst v') w') :
    if Region.wanted o (yielded ops a.tmps) = true then Oper.wp P o a w K Q else E := by
  have hw : Region.wanted o (yielded ops a.tmps) = true := by simp [Region.wanted, hgd]
  rw [if_pos hw]
  unfold Oper.wp
  simp [execOp, ho, resolve, invoke, builtin, hd, hx, hr, Result.andThen]
  exact h
set_option maxHeartbeats 2000000 in
set_option maxRecDepth 100000 in
theorem insert_room {w : World} {base n c b g i : Nat} {ys : List Int} {z : Int} (hown : w.ownsRow base 26 1 (.slice (some ⟨g, 0, none⟩) n c) n (flatWS ys)) (hl : ys.length = n) (hb : w.heap[b]? = some (.cells #[.int .u64 z] 26 (0, 0))) (hne : b ≠ g) (hle : n ≤ 1000000) (hi : i < n) (hc : n + 1 ≤ c) (hu : ∀ y ∈ ys, U64 y) (hz : U64 z) :
    Calls Tryz.prog 130 #[.slice (some ⟨g, 0, none⟩) n c, .int .i64 (i : Int), .slice (some ⟨b, 0, none⟩) 1 1] w (InE w (some ⟨g, 0, none⟩) n c (withL ys i z)) := by
  obtain ⟨cur, hheap, hcm, hcs, ht⟩ : ∃ cur, w.heap[g]? = some (.cells cur 26 (0, 0)) ∧ c ≤ maxLen ∧ cur.size = c * 1 ∧ cur.toList.take (n * 1) = flatWS ys := by
    rcases hown.2 with ⟨e, _⟩ | ⟨g', cap, cur, e, _, h2, _, h4, h5, h6⟩
    · cases e
    · cases e; exact ⟨cur, h2, h4, h5, h6⟩
  have hcm' : c ≤ 9223372036854775807 := by have := hcm; unfold maxLen at this; omega
  have hsome : ∀ (W : World), W.heap[g]? = w.heap[g]? → ∀ j, j < c → (W.cell? ⟨g, j, none⟩).isSome = true := fun W e j hj => by
    unfold World.cell?; simp only [e, hheap]; simp [hcs]; omega
  have hfr : ∀ j, w.frozen? ⟨g, j, none⟩ = false := fun j => hown.frozenAt j
  have hcell : ∀ j y, ys[j]? = some y → w.cell? ⟨g, j, none⟩ = some (.int .u64 y) := fun j y hy => by
    have hj := (List.getElem?_eq_some_iff.1 hy).1
    rw [hown.cellAt j (by omega), flatWS_0, hy]; rfl
  have hzc : w.cell? ⟨b, 0, none⟩ = some (.int .u64 z) := by unfold World.cell?; simp only [hb]; rfl
  have k1 := fun W => cut_lo g 0 n c i (by omega) (by omega) W
  have k2 : ∀ W, (Instr.sliceAt 27 (.slice (some ⟨g, 0, none⟩) n c) none (some (.int .i64 ((n : Int) + 1))) none).run Tryz.prog W = .ok (.slice (some ⟨g, 0, none⟩) (n + 1) c) W := fun W => by
    have := slice_hiWS (some ⟨g, 0, none⟩) n c (n + 1) hc W; rw [show ((n + 1 : Nat) : Int) = (n : Int) + 1 by omega] at this; exact this
  have k3 : ∀ W, (Instr.sliceAt 27 (.slice (some ⟨g, 0, none⟩) (n + 1) c) (some (.int .i64 ((i : Int) + 1))) none none).run Tryz.prog W = .ok (.slice (some ⟨g, i + 1, none⟩) (n - i) (c - (i + 1))) W := fun W => by
    have := cut_lo g 0 (n + 1) c (i + 1) (by omega) (by omega) W
    rw [show ((i + 1 : Nat) : Int) = (i : Int) + 1 by omega, show 0 + (i + 1) = i + 1 by omega, show n + 1 - (i + 1) = n - i by omega] at this; exact this
  have k4 : ∀ W, (Instr.sliceAt 27 (.slice (some ⟨g, 0, none⟩) (n + 1) c) (some (.int .i64 (i : Int))) none none).run Tryz.prog W = .ok (.slice (some ⟨g, i, none⟩) (n + 1 - i) (c - i)) W := fun W => by
    have := cut_lo g 0 (n + 1) c i (by omega) (by omega) W
    rw [Nat.zero_add] at this; exact this
  simp only [Nat.zero_add] at k1
  have hsz : (Tryz.prog.info? 26).map (·.size) = some 1 := by kernel_rfl
  have hov : (callFunc 131 #[.slice (some ⟨b, 0, none⟩) 1 1, .slice (some ⟨g, i + 1, none⟩) (n - i) (c - (i + 1))]).run Tryz.prog w = .ok (.value (.bool false)) w := by
    rw [run_callFunc_extern Tryz.func131 (by kernel_rfl) (by kernel_rfl) (by kernel_rfl) (e := Extern.SlicesOverlaps.overlaps #[27, 27] #[4]) (by kernel_rfl),
      Lib.run_overlaps_apart w 27 4 26 Tryz.underlying27 1 Tryz.sizeOf26 ⟨b, 0, none⟩ ⟨g, i + 1, none⟩ 1 1 (n - i) (c - (i + 1)) hne 26 26 1 c (by simp [World.shape?, hb]) (by simp [World.shape?, hheap, hcs]) (by omega) (by simp [World.frozen?, hb]) (by simp [World.frozen?, hb])]
    rfl
  have hdl : (flatWS (ys.drop i)).length = n - i := by rw [flatWS_len, List.length_drop, hl]; omega
  have c1 : RowKit.Hid (∀ ty, (Builtin.copy_ #[27, 27] ty #[.slice (some ⟨g, i + 1, none⟩) (n - i) (c - (i + 1)), .slice (some ⟨g, i, none⟩) (n + 1 - i) (c - i)]).run Tryz.prog w.drew = .ok (goInt (flatWS (ys.drop i)).length) (w.drew.setCells g (i + 1) (flatWS (ys.drop i)))) := Lib.hid fun ty =>
    run_copy_cells w.drew 27 27 ty 26 g (i + 1) (n - i) (c - (i + 1)) ⟨g, i, none⟩ (n + 1 - i) (c - i) (flatWS (ys.drop i)) Tryz.underlying27 hsz (by rw [hdl]; exact (Nat.min_eq_right (by omega)).symm) (fun j u hj => by
      rw [flatWS_0] at hj
      obtain ⟨y, hy, rfl⟩ := Option.map_eq_some_iff.1 hj
      rw [List.getElem?_drop] at hy
      rw [add_is]; exact hcell _ _ hy) (fun j hj => hsome w.drew rfl _ (by omega)) (fun j _ => hfr _) (flatWS_one _)
  have hz2 : (w.drew.setCells g (i + 1) (flatWS (ys.drop i))).cell? ⟨b, 0, none⟩ = some (.int .u64 z) := by
    rw [World.cell?_setCells_out g _ _ _ ⟨b, 0, none⟩ (fun e => absurd e hne)]; exact hzc
  have hs2 : ∀ j, j < c → ((w.drew.setCells g (i + 1) (flatWS (ys.drop i))).cell? ⟨g, j, none⟩).isSome = true := fun j hj => by
    rw [setCells_get (fun q hq => hsome w.drew rfl _ (by omega))]
    split
    · rename_i h; rw [List.getElem?_eq_getElem (by omega)]; rfl
    · exact hsome w.drew rfl j hj
  have c2 : RowKit.Hid (∀ ty, (Builtin.copy_ #[27, 27] ty #[.slice (some ⟨g, i, none⟩) (n + 1 - i) (c - i), .slice (some ⟨b, 0, none⟩) 1 1]).run Tryz.prog (w.drew.setCells g (i + 1) (flatWS (ys.drop i))) = .ok (goInt 1) ((w.drew.setCells g (i + 1) (flatWS (ys.drop i))).setCells g i [.int .u64 z])) := Lib.hid fun ty =>
    run_copy_cells _ 27 27 ty 26 g i (n + 1 - i) (c - i) ⟨b, 0, none⟩ 1 1 [.int .u64 z] Tryz.underlying27 hsz (by show 1 = Nat.min 1 (n + 1 - i); exact (Nat.min_eq_left (by omega)).symm) (fun j u hj => by
      rcases j with _ | j
      · simp at hj; subst hj; rw [add_is]; exact hz2
      · simp at hj) (fun j hj => hs2 _ (by simp at hj; omega)) (fun j _ => by rw [World.frozen?_setCells]; exact hfr _) (fun u hu' => by rw [List.mem_singleton.1 hu']; rfl)
  have HF : RowKit.Hid (InE w (some ⟨g, 0, none⟩) n c (withL ys i z) (.returned (.slice (some ⟨g, 0, none⟩) (n + 1) c)) ((w.drew.setCells g (i + 1) (flatWS (ys.drop i))).setCells g i [.int .u64 z])) := Lib.hid (by
    refine ⟨some ⟨g, 0, none⟩, c, rfl, ⟨by rw [with_len _ _ _ (by omega), hl], by omega, hc, hcm', fun j y hj => ?_⟩, ?_, fun q hq => .inl hq⟩
    · refine ⟨?_, g, 0, rfl, ?_⟩
      · rcases mem_with.1 (List.mem_of_getElem? hj) with h | h
        · rw [h]; exact hz
        · exact hu y h
      · rw [Nat.zero_add, setCells_get (fun q hq => hs2 _ (by simp at hq; omega)), setCells_get (fun q hq => hsome w.drew rfl _ (by omega))]
        rw [with_get _ _ _ (by omega)] at hj
        simp only [List.length_singleton, hdl]
        by_cases e1 : j < i
        · rw [if_pos e1] at hj
          rw [if_neg (by omega), if_neg (by omega)]; exact hcell j y hj
        · rw [if_neg e1] at hj
          by_cases e2 : j = i
          · rw [if_pos e2] at hj; cases hj
            rw [if_pos (by omega), e2, Nat.sub_self]; rfl
          · rw [if_neg e2] at hj
            have hjl := (List.getElem?_eq_some_iff.1 hj).1
            rw [if_neg (by omega), if_pos (by omega), flatWS_0, List.getElem?_drop, show i + (j - (i + 1)) = j - 1 by omega, hj]; rfl
    · have := (grown_sets g (flatWS (ys.drop i)) (i + 1) w.drew).trans (grown_sets g [.int .u64 z] i _)
      exact ⟨this.os, this.tape, this.output, this.size, fun q hq hn => this.block q hq hn⟩)
  have w1 : RowKit.wrap64 ((i : Int) + 1) = (i : Int) + 1 := by simp only [RowKit.wrap64]; omega
  have w2 : IntKind.i64.wrap ((i : Int) + 1) = (i : Int) + 1 := by simp only [IntKind.wrap_i64]; omega
  have b1 : ((i : Int) == (n : Int)) = false := beq_eq_false_iff_ne.2 (by omega)
  have b2 : decide ((c : Int) < (n : Int) + 1) = false := decide_eq_false (by omega)
  generalize flatWS (ys.drop i) = cs1 at *
  clear hown hl hb hu hz hheap hcs ht hsome hfr hcell hzc hsz hz2 hs2 hcm
  go_enter Tryz.func130, Tryz.ntmps130
  go_wp2_with (fail)
  have hne2 : ¬ c = i + 1 := by omega
  have hne3 : ¬ c = i := by omega
  have hle3 : (i : Int) + 1 ≤ (n : Int) + 1 := by omega
  go_region_held3 (fun _ => True)
    (first | trivial | go_keep)
    (first
      | (refine step_copied w.drew (by rfl) (.tmp 73) (.tmp 76) 27 27 (by rfl) _ _ (by rfl) (by rfl) _ _ (c1.out _) ?_))
  have c2x := c2.out 3
  go_wp2_with (fail)
  go_ret
  exact HF.out

end Go.Proofs.YtdipddnnckfnmaaGreat.Lan

/- LanFull:
  insert of a key where there is no room. Conditions: the state lies where it is said to.
-/
namespace Go.Proofs.YtdipddnnckfnmaaGreat.Lan
open Go.RowKit (Below intOf)
open Go.Proofs.YtdipddnnckfnmaaGreat.Aut
open Go.Proofs.YtdipddnnckfnmaaGreat.Reg (cf bx fits_any)

set_option maxHeartbeats 1000000 in
set_option maxRecDepth 100000 in
theorem insert_full {T : TypeId} {B : Nat} {sl : Option Addr} {n c : Nat} {w : World} (hb : w.cell? ⟨B, 1, none⟩ = some (.slice sl n c)) (m : Int) (i x : Int) (hm : m ≤ (n : Int)) :
    Calls Tryz.prog 125 #[kd T m, .pointer (some ⟨B, 0, none⟩), .int .i64 i, .int .u64 x] w fun e w' => e = .panicked (noE 11) ∧ Ext w w' := by
  have X0 := Lib.hid (Ext.new w (kb T m))
  obtain ⟨k0, k1⟩ := kb_new T m w
  have hb1 : (w.alloc (kb T m)).cell? ⟨B, 1, none⟩ = some (.slice sl n c) := box_alloc hb
  have hge : decide (m ≤ (n : Int)) = true := decide_eq_true hm
  have k01 := And.intro k0 (And.intro k1 hb1)
  clear hb
  dsimp only [kd, kb] at *
  go_enter Tryz.func125, Tryz.ntmps125
  go_wp2_with (fail)
  refine wp_region_held_drew (S := fun w' => w'.cell? ⟨w.heap.size, 0, none⟩ = some (.iface T kE) ∧ w'.cell? ⟨w.heap.size, 1, none⟩ = some (.int .i64 m) ∧ w'.cell? ⟨B, 1, none⟩ = some (.slice sl n c)) (by kernel_rfl) k01 (fun hHeld => ?_)
  refine wpAnyH_take (i := 0) (v := .pointer (some ⟨B, 0, none⟩)) rfl (by kernel_rfl) (by kernel_rfl) (by kernel_rfl) (fun _ _ _ h => h) (Or.inl ⟨by rfl, ?_⟩) (by assumption) ?_
  · rintro w ⟨h1, h2, h3⟩
    go_simp
  refine wpAnyH_take (i := 1) (v := .pointer (some ⟨B, 0, none⟩)) rfl (by kernel_rfl) (by kernel_rfl) (by kernel_rfl) (fun _ _ _ h => h) (Or.inl ⟨by rfl, ?_⟩) (by assumption) ?_
  · rintro w ⟨h1, h2, h3⟩
    go_simp
  refine wpAnyH_take (i := 2) (v := .pointer (some ⟨B, 1, none⟩)) rfl (by kernel_rfl) (by kernel_rfl) (by kernel_rfl) (fun _ _ _ h => h) (Or.inl ⟨by rfl, ?_⟩) (by assumption) ?_
  · rintro w ⟨h1, h2, h3⟩
    go_simp
  refine wpAnyH_take (i := 3) (v := .slice sl n c) rfl (by kernel_rfl) (by kernel_rfl) (by kernel_rfl) (fun _ _ _ h => h) (Or.inl ⟨by rfl, ?_⟩) (by assumption) ?_
  · rintro w ⟨h1, h2, h3⟩
    go_simp
  refine wpAnyH_take (i := 4) (v := .int .i64 (n : Int)) rfl (by kernel_rfl) (by kernel_rfl) (by kernel_rfl) (fun _ _ _ h => h) (Or.inl ⟨by rfl, ?_⟩) (by assumption) ?_
  · rintro w ⟨h1, h2, h3⟩
    go_simp
  refine wpAnyH_take (i := 5) (v := .pointer (some ⟨w.heap.size, 1, none⟩)) rfl (by kernel_rfl) (by kernel_rfl) (by kernel_rfl) (fun _ _ _ h => h) (Or.inl ⟨by rfl, ?_⟩) (by assumption) ?_
  · rintro w ⟨h1, h2, h3⟩
    go_simp
  refine wpAnyH_take (i := 6) (v := .int .i64 m) rfl (by kernel_rfl) (by kernel_rfl) (by kernel_rfl) (fun _ _ _ h => h) (Or.inl ⟨by rfl, ?_⟩) (by assumption) ?_
  · rintro w ⟨h1, h2, h3⟩
    go_simp
  refine wpAnyH_take (i := 7) (v := .bool true) rfl (by kernel_rfl) (by kernel_rfl) (by kernel_rfl) (fun _ _ _ h => h) (Or.inl ⟨by rfl, ?_⟩) (by assumption) ?_
  · rintro w ⟨h1, h2, h3⟩
    go_simp
  refine wpAnyH_ready (rs := [8]) (by kernel_rfl) (by simp) ?_
  refine AllReadyH.cons rfl (fun K hK => ?_) AllReadyH.nil
  go_simp
  refine (refuse_yes _ _).mono ?_
  rintro e w' ⟨rfl, rfl⟩
  exact ⟨rfl, rfl, by repeat (first | exact X0.out | refine Ext.alloc ?_ _ | refine Ext.drew ?_)⟩

end Go.Proofs.YtdipddnnckfnmaaGreat.Lan

/- LanPut:
  insert of a key where there is room. Conditions: the state lies in a box that may be written, apart from its keys, and what slices.Insert answers.
-/
namespace Go.Proofs.YtdipddnnckfnmaaGreat.Lan
open Go.RowKit (Below intOf)
open Go.Proofs.YtdipddnnckfnmaaGreat.Aut
open Go.Proofs.YtdipddnnckfnmaaGreat.Reg (cf bx fits_any)

theorem refuse_q (x : Int) (w : World) (m : Nat) : Calls Tryz.prog 119 #[.bool false, .int .i64 x] (w.drewN m) fun e w' => e = .returned (.tuple #[]) ∧ ∃ j, w' = w.drewN j :=
  (refuse_no x (w.drewN m)).mono fun _ _ h => ⟨h.1, m, h.2.symm⟩
/-- The world in which Insert is called. -/
abbrev insW (w : World) (T : TypeId) (m x : Int) (q : Nat) : World := ((w.alloc (kb T m)).drewN q).alloc (.cells #[.int .u64 x] 26)

set_option maxHeartbeats 1000000 in
set_option maxRecDepth 100000 in
theorem insert_ok {T : TypeId} {B : Nat} {sl : Option Addr} {n c : Nat} {w : World} (hb : w.cell? ⟨B, 1, none⟩ = some (.slice sl n c)) (hfz : w.frozen? ⟨B, 1, none⟩ = false) (hB : (Value.slice sl n c).ownBlock ≠ some B) (m : Int) (i : Nat) (x : Int) (ys : List Int) (hm : (n : Int) < m)
    (HI : ∀ q, Calls Tryz.prog 130 #[.slice sl n c, .int .i64 (i : Int), .slice (some ⟨w.heap.size + 1, 0, none⟩) 1 1] (insW w T m x q) (InE (insW w T m x q) sl n c ys)) :
    Calls Tryz.prog 125 #[kd T m, .pointer (some ⟨B, 0, none⟩), .int .i64 (i : Int), .int .u64 x] w fun e w' => e = .returned (.tuple #[]) ∧ ∃ q w2 sl' c', WS w2 sl' (n + 1) c' ys ∧ (insW w T m x q).grownBy w2 (Value.slice sl n c).ownBlock ∧ (∀ g, (Value.slice sl' (n + 1) c').ownBlock = some g → (Value.slice sl n c).ownBlock = some g ∨ (insW w T m x q).heap.size ≤ g) ∧ w' = w2.setCell ⟨B, 1, none⟩ (.slice sl' (n + 1) c') := by
  obtain ⟨k0, k1⟩ := kb_new T m w
  have hb1 : (w.alloc (kb T m)).cell? ⟨B, 1, none⟩ = some (.slice sl n c) := box_alloc hb
  have hb2 : RowKit.Hid (∀ q, (insW w T m x q).cell? ⟨B, 1, none⟩ = some (.slice sl n c)) := Lib.hid fun q => box_alloc hb1
  have hf2 : RowKit.Hid (∀ q, (insW w T m x q).frozen? ⟨B, 1, none⟩ = false) := Lib.hid fun q => fro_alloc hb1 (fro_alloc hb hfz)
  have hge : decide (m ≤ (n : Int)) = false := decide_eq_false (by omega)
  have H := Lib.hid HI
  have HB := Lib.hid hB
  clear hb hfz HI hB
  dsimp only [kd, kb, insW] at *
  go_enter Tryz.func125, Tryz.ntmps125
  go_wp2_with (fail)
  go_quiet (first | (go_at_call 119; exact refuse_q _ _ _))
  go_wp2_with (first
    | (go_at_call 130; (with_reducible refine (H.out _).mono ?_); rintro e w2 ⟨sl', c', rfl, hws, hg, hx⟩; have d1 := hg.cell (hb2.out _) (fun e => HB.out e.symm); have d2 := (hg.frozen_far ⟨B, 1, none⟩ (World.block_lt_of_cell? _ _ (hb2.out _)) (fun e => HB.out e.symm)).trans (hf2.out _); have HWS := Lib.hid hws; have HG := Lib.hid hg; have HX := Lib.hid hx; clear hws hg hx H hb2 hf2))
  go_end0
  exact ⟨rfl, _, w2, sl', c', HWS.out, HG.out, HX.out, rfl⟩

end Go.Proofs.YtdipddnnckfnmaaGreat.Lan

/- LanGrow:
  slices.Insert of one word into a row of one's own that has no room. Conditions: the words are words.
-/
namespace Go.Proofs.YtdipddnnckfnmaaGreat.Lan
open Go.RowKit (Below intOf)
open Go.Proofs.YtdipddnnckfnmaaGreat.Aut
open Go.Proofs.YtdipddnnckfnmaaGreat.Reg (cf bx fits_any)

set_option maxHeartbeats 2000000 in
set_option maxRecDepth 100000 in
theorem insert_grow {w : World} {base n b g i : Nat} {ys : List Int} {z : Int} (hown : w.ownsRow base 26 1 (.slice (some ⟨g, 0, none⟩) n n) n (flatWS ys)) (hl : ys.length = n) (hb : w.heap[b]? = some (.cells #[.int .u64 z] 26 (0, 0))) (hle : n ≤ 1000000) (hi : i < n) (hu : ∀ y ∈ ys, U64 y) (hz : U64 z) :
    Calls Tryz.prog 130 #[.slice (some ⟨g, 0, none⟩) n n, .int .i64 (i : Int), .slice (some ⟨b, 0, none⟩) 1 1] w (InE w (some ⟨g, 0, none⟩) n n (withL ys i z)) := by
  have w1 : RowKit.wrap64 ((i : Int) + 1) = (i : Int) + 1 := by simp only [RowKit.wrap64]; omega
  have w2 : IntKind.i64.wrap ((i : Int) + 1) = (i : Int) + 1 := by simp only [IntKind.wrap_i64]; omega
  have b1 : ((i : Int) == (n : Int)) = false := beq_eq_false_iff_ne.2 (by omega)
  have b2 : decide ((n : Int) < (n : Int) + 1) = true := decide_eq_true (by omega)
  have hg : g < w.heap.size := (hown.lt g rfl).2
  have hbl : b < w.heap.size := (Array.getElem?_eq_some_iff.1 hb).1
  have hcell : ∀ j y, ys[j]? = some y → w.cell? ⟨g, j, none⟩ = some (.int .u64 y) := fun j y hy => by
    have hj := (List.getElem?_eq_some_iff.1 hy).1
    rw [hown.cellAt j (by omega), flatWS_0, hy]; rfl
  have hzc : w.cell? ⟨b, 0, none⟩ = some (.int .u64 z) := by unfold World.cell?; simp only [hb]; rfl
  obtain ⟨i0, hi0, hz0, hz1, hz2⟩ := info_parts infoWS
  have htl : (flatWS (ys.take i)).length = i := by rw [flatWS_len, List.length_take, hl]; omega
  have hf : (Builtin.firstCells i0.size i (.slice (some ⟨g, 0, none⟩) i n)).run Tryz.prog w.drew = .ok (flatWS (ys.take i)).toArray w.drew := run_firstCells_some w.drew i0.size i ⟨g, 0, none⟩ i n _ (by rw [hz1, htl, Nat.mul_one]) (fun j v hj => by
    rw [flatWS_0] at hj
    obtain ⟨y, hy, rfl⟩ := Option.map_eq_some_iff.1 hj
    rw [List.getElem?_take] at hy
    split at hy
    · rw [add_is, Nat.zero_add]; exact hcell _ _ hy
    · cases hy)
  have hrz := Lib.run_append_grow_zeros (P := Tryz.prog) w 27 3 27 26 i0 _ .i64 .i64 Tryz.underlying27 Tryz.underlying3 hi0 hz0 (some ⟨g, 0, none⟩) i n (flatWS (ys.take i)) hf (n + 1 - i) (by omega) (by omega) (by omega) (by omega) (by rw [hz2]; omega) (by rw [hz2]; exact growslice_fits (by omega) (by omega))
  have hin : i + (n + 1 - i) = n + 1 := by omega
  rw [hin, show ((n + 1 - i : Nat) : Int) = (n : Int) + 1 - (i : Int) by omega] at hrz
  have hG := grownCap_ge w (n + 1) n 26
  have hGm := grownCap_le_maxLen w (n + 1) n 26 (by unfold maxLen; omega)
  obtain ⟨C, eC⟩ : ∃ C, grownCap w (n + 1) n 26 = C := ⟨_, rfl⟩
  rw [eC] at hrz hG hGm
  have hcm' : C ≤ 9223372036854775807 := by have := hGm; unfold maxLen at this; omega
  clear hGm eC
  obtain ⟨cs0, ecs0⟩ : ∃ cs0, (flatWS (ys.take i)).toArray ++ Builtin.zeroCells (Value.int .u64 0).cells (n + 1 - i) ++ Builtin.zeroCells (Value.int .u64 0).cells (C - (n + 1)) = cs0 := ⟨_, rfl⟩
  rw [ecs0] at hrz
  have hcs : cs0.size = C := by
    rw [← ecs0, Array.size_append, Array.size_append, size_zeroCells, size_zeroCells, List.size_toArray, htl]
    simp [Value.cells]; omega
  have hlow : ∀ j y, j < i → ys[j]? = some y → cs0[j]? = some (.int .u64 y) := fun j y hj hy => by
    rw [← ecs0, Array.getElem?_append_left (by rw [Array.size_append, List.size_toArray, htl]; omega), Array.getElem?_append_left (by rw [List.size_toArray, htl]; omega), List.getElem?_toArray, flatWS_0, List.getElem?_take, if_pos hj, hy]; rfl
  clear ecs0 hf
  have hH : ((w.alloc (.cells cs0 26)).drew).heap[w.heap.size]? = some (.cells cs0 26 (0, 0)) := World.alloc_heap_new w _
  have hE : Ext w ((w.alloc (.cells cs0 26)).drew) := Ext.drew (Ext.new w _)
  have hc1 : ∀ j, ((w.alloc (.cells cs0 26)).drew).cell? ⟨w.heap.size, j, none⟩ = cs0[j]? := fun j => by unfold World.cell?; simp only [hH]; rfl
  have hsome : ∀ j, j < C → (((w.alloc (.cells cs0 26)).drew).cell? ⟨w.heap.size, j, none⟩).isSome = true := fun j hj => by
    rw [hc1, Array.getElem?_eq_getElem (by omega)]; rfl
  have hfr : ∀ j, ((w.alloc (.cells cs0 26)).drew).frozen? ⟨w.heap.size, j, none⟩ = false := fun j => by unfold World.frozen?; simp only [hH]; rfl
  have k0 : ∀ W, (Instr.sliceAt 27 (.slice (some ⟨g, 0, none⟩) n n) none (some (.int .i64 (i : Int))) none).run Tryz.prog W = .ok (.slice (some ⟨g, 0, none⟩) i n) W := fun W => slice_hiWS (some ⟨g, 0, none⟩) n n i (by omega) W
  have k1 : ∀ W, (Instr.sliceAt 27 (.slice (some ⟨g, 0, none⟩) n n) (some (.int .i64 (i : Int))) none none).run Tryz.prog W = .ok (.slice (some ⟨g, i, none⟩) (n - i) (n - i)) W := fun W => by
    have := cut_lo g 0 n n i (by omega) (by omega) W; rw [Nat.zero_add] at this; exact this
  have k3 : ∀ W, (Instr.sliceAt 27 (.slice (some ⟨w.heap.size, 0, none⟩) (n + 1) C) (some (.int .i64 ((i : Int) + 1))) none none).run Tryz.prog W = .ok (.slice (some ⟨w.heap.size, i + 1, none⟩) (n - i) (C - (i + 1))) W := fun W => by
    have := cut_lo w.heap.size 0 (n + 1) C (i + 1) (by omega) (by omega) W
    rw [show ((i + 1 : Nat) : Int) = (i : Int) + 1 by omega, show 0 + (i + 1) = i + 1 by omega, show n + 1 - (i + 1) = n - i by omega] at this; exact this
  have k4 : ∀ W, (Instr.sliceAt 27 (.slice (some ⟨w.heap.size, 0, none⟩) (n + 1) C) (some (.int .i64 (i : Int))) none none).run Tryz.prog W = .ok (.slice (some ⟨w.heap.size, i, none⟩) (n + 1 - i) (C - i)) W := fun W => by
    have := cut_lo w.heap.size 0 (n + 1) C i (by omega) (by omega) W
    rw [Nat.zero_add] at this; exact this
  have hsz : (Tryz.prog.info? 26).map (·.size) = some 1 := by kernel_rfl
  have c1 : RowKit.Hid (∀ ty, (Builtin.copy_ #[27, 27] ty #[.slice (some ⟨w.heap.size, i, none⟩) (n + 1 - i) (C - i), .slice (some ⟨b, 0, none⟩) 1 1]).run Tryz.prog ((w.alloc (.cells cs0 26)).drew) = .ok (goInt 1) (((w.alloc (.cells cs0 26)).drew).setCells w.heap.size i [.int .u64 z])) := Lib.hid fun ty =>
    run_copy_cells _ 27 27 ty 26 w.heap.size i (n + 1 - i) (C - i) ⟨b, 0, none⟩ 1 1 [.int .u64 z] Tryz.underlying27 hsz (by show 1 = Nat.min 1 (n + 1 - i); exact (Nat.min_eq_left (by omega)).symm) (fun j u hj => by
      rcases j with _ | j
      · simp at hj; subst hj; rw [add_is]; exact hE.cell hzc
      · simp at hj) (fun j hj => hsome _ (by simp at hj; omega)) (fun j _ => hfr _) (fun u hu' => by rw [List.mem_singleton.1 hu']; rfl)
  have hs2 : ∀ j, j < C → ((((w.alloc (.cells cs0 26)).drew).setCells w.heap.size i [.int .u64 z]).drew.cell? ⟨w.heap.size, j, none⟩).isSome = true := fun j hj => by
    show ((((w.alloc (.cells cs0 26)).drew).setCells w.heap.size i [.int .u64 z]).cell? ⟨w.heap.size, j, none⟩).isSome = true
    rw [setCells_get (fun q hq => hsome _ (by simp at hq; omega))]
    split
    · rename_i h; rw [List.getElem?_eq_getElem (by omega)]; rfl
    · exact hsome j hj
  have hdl : (flatWS (ys.drop i)).length = n - i := by rw [flatWS_len, List.length_drop, hl]; omega
  have c2 : RowKit.Hid (∀ ty, (Builtin.copy_ #[27, 27] ty #[.slice (some ⟨w.heap.size, i + 1, none⟩) (n - i) (C - (i + 1)), .slice (some ⟨g, i, none⟩) (n - i) (n - i)]).run Tryz.prog (((w.alloc (.cells cs0 26)).drew).setCells w.heap.size i [.int .u64 z]).drew = .ok (goInt (flatWS (ys.drop i)).length) ((((w.alloc (.cells cs0 26)).drew).setCells w.heap.size i [.int .u64 z]).drew.setCells w.heap.size (i + 1) (flatWS (ys.drop i)))) := Lib.hid fun ty =>
    run_copy_cells _ 27 27 ty 26 w.heap.size (i + 1) (n - i) (C - (i + 1)) ⟨g, i, none⟩ (n - i) (n - i) (flatWS (ys.drop i)) Tryz.underlying27 hsz (by rw [hdl]; exact (Nat.min_self _).symm) (fun j u hj => by
      rw [flatWS_0] at hj
      obtain ⟨y, hy, rfl⟩ := Option.map_eq_some_iff.1 hj
      rw [List.getElem?_drop] at hy
      rw [add_is]
      show (((w.alloc (.cells cs0 26)).drew).setCells w.heap.size i [.int .u64 z]).cell? _ = _
      rw [World.cell?_setCells_out _ _ _ _ ⟨g, i + j, none⟩ (fun e => absurd e (by show g ≠ w.heap.size; omega))]
      exact hE.cell (hcell _ _ hy)) (fun j hj => hs2 _ (by omega)) (fun j _ => by
        show (((w.alloc (.cells cs0 26)).drew).setCells w.heap.size i [.int .u64 z]).frozen? _ = _
        rw [World.frozen?_setCells]; exact hfr _) (flatWS_one _)
  have HF : RowKit.Hid (InE w (some ⟨g, 0, none⟩) n n (withL ys i z) (.returned (.slice (some ⟨w.heap.size, 0, none⟩) (n + 1) C)) ((((w.alloc (.cells cs0 26)).drew).setCells w.heap.size i [.int .u64 z]).drew.setCells w.heap.size (i + 1) (flatWS (ys.drop i)))) := Lib.hid (by
    refine ⟨some ⟨w.heap.size, 0, none⟩, C, rfl, ⟨by rw [with_len _ _ _ (by omega), hl], by omega, hG, hcm', fun j y hj => ?_⟩, ?_, fun q hq => .inr (by cases hq; exact Nat.le_refl _)⟩
    · refine ⟨?_, w.heap.size, 0, rfl, ?_⟩
      · rcases mem_with.1 (List.mem_of_getElem? hj) with h | h
        · rw [h]; exact hz
        · exact hu y h
      · have hjl := (List.getElem?_eq_some_iff.1 hj).1
        rw [with_len _ _ _ (by omega), hl] at hjl
        rw [Nat.zero_add, setCells_get (fun q hq => hs2 _ (by omega))]
        rw [with_get _ _ _ (by omega)] at hj
        simp only [hdl]
        by_cases e1 : j < i
        · rw [if_pos e1] at hj
          rw [if_neg (by omega)]
          show (((w.alloc (.cells cs0 26)).drew).setCells w.heap.size i [.int .u64 z]).cell? _ = _
          rw [setCells_get (fun q hq => hsome _ (by simp at hq; omega)), if_neg (by omega), hc1]; exact hlow j y e1 hj
        · rw [if_neg e1] at hj
          by_cases e2 : j = i
          · rw [if_pos e2] at hj; cases hj
            rw [if_neg (by omega)]
            show (((w.alloc (.cells cs0 26)).drew).setCells w.heap.size i [.int .u64 z]).cell? _ = _
            rw [setCells_get (fun q hq => hsome _ (by simp at hq; omega)), if_pos (by simp; omega), e2, Nat.sub_self]; rfl
          · rw [if_neg e2] at hj
            rw [if_pos (by omega), flatWS_0, List.getElem?_drop, show i + (j - (i + 1)) = j - 1 by omega, hj]; rfl
    · have t1 := grown_sets w.heap.size [.int .u64 z] i ((w.alloc (.cells cs0 26)).drew)
      have t2 := grown_sets w.heap.size (flatWS (ys.drop i)) (i + 1) (((w.alloc (.cells cs0 26)).drew).setCells w.heap.size i [.int .u64 z]).drew
      refine ⟨t2.os.trans t1.os, t2.tape.trans t1.tape, t2.output.trans t1.output, Nat.le_trans hE.size (Nat.le_trans t1.size t2.size), fun q hq _ => ?_⟩
      rw [heap_sets _ _ _ _ (by omega)]
      show (((w.alloc (.cells cs0 26)).drew).setCells w.heap.size i [.int .u64 z]).heap[q]? = _
      rw [heap_sets _ _ _ _ (by omega)]
      exact hE.block q hq)
  have c1x := c1.out 3
  have HZ := Lib.hid hrz
  generalize flatWS (ys.drop i) = cs1 at *
  clear hown hl hb hu hz hcell hzc hrz hsz hs2 hcs hlow hH hE hc1 hsome hfr c1 htl hz0 hz1 hz2 hi0 hdl
  go_enter Tryz.func130, Tryz.ntmps130
  go_wp2_with (first
    | (at_builtin; refine Lib.wpList_append_run _ rfl (.tmp 34) (.tmp 39) _ _ rfl _ _ rfl rfl _ _ HZ.out ?_))
  have hne2 : ¬ C = i + 1 := by omega
  have hne3 : ¬ C = i := by omega
  have hle3 : (i : Int) + 1 ≤ (n : Int) + 1 := by omega
  go_region_held3 (fun _ => True)
    (first | trivial | go_keep)
    (first
      | (refine step_copied _ (by rfl) (.tmp 50) (.tmp 53) 27 27 (by rfl) _ _ (by rfl) (by rfl) _ _ (c2.out _) ?_))
  go_wp2_with (fail)
  go_ret
  exact HF.out

end Go.Proofs.YtdipddnnckfnmaaGreat.Lan

/- LanMut:
  What is left behind a row of a state was made anew. Conditions: the state lies in a box that may be written, and its rows are one's own.
-/
namespace Go.Proofs.YtdipddnnckfnmaaGreat.Lan
open Go.RowKit (Below intOf)
open Go.Proofs.YtdipddnnckfnmaaGreat.Aut
open Go.Proofs.YtdipddnnckfnmaaGreat.Reg (cf bx fits_any)

/-- The block in which a slice lies. -/
abbrev _root_.Go.Proofs.YtdipddnnckfnmaaGreat.Aut.Sl.ob (k : Sl) : Option Nat := (Value.slice k.a k.n k.c).ownBlock
theorem ws_gr {w w' : World} {row : Option Nat} {k : Sl} {xs : List Int} (h : WS w k.a k.n k.c xs) (g : w.grownBy w' row) (hr : k.ob = none ∨ k.ob ≠ row) : WS w' k.a k.n k.c xs :=
  ⟨h.1, h.2.1, h.2.2.1, h.2.2.2.1, fun j x hj => by
    obtain ⟨u, b, o, e, c⟩ := h.2.2.2.2 j x hj
    refine ⟨u, b, o, e, g.cell c (fun q => ?_)⟩
    have hb : k.ob = some b := by unfold Sl.ob; rw [e]; rfl
    rcases hr with hr | hr
    · rw [hb] at hr; cases hr
    · exact hr (hb.trans q)⟩
theorem ns_gr {w w' : World} {row : Option Nat} {k : Sl} {xs : List Int} (h : NS w k.a k.n k.c xs) (g : w.grownBy w' row) (hr : k.ob = none ∨ k.ob ≠ row) : NS w' k.a k.n k.c xs :=
  ⟨h.1, h.2.1, h.2.2.1, h.2.2.2.1, fun j x hj => by
    obtain ⟨u, b, o, e, c⟩ := h.2.2.2.2 j x hj
    refine ⟨u, b, o, e, g.cell c (fun q => ?_)⟩
    have hb : k.ob = some b := by unfold Sl.ob; rw [e]; rfl
    rcases hr with hr | hr
    · rw [hb] at hr; cases hr
    · exact hr (hb.trans q)⟩
theorem five_gr {w w' : World} {b : Nat} {r : Int} {k v t : Sl} {cl : Bool} {row : Option Nat} (h : Five w b r k v t cl) (g : w.grownBy w' row) (hr : row ≠ some b) : Five w' b r k v t cl :=
  ⟨g.cell h.1 (fun q => hr q.symm), g.cell h.2.1 (fun q => hr q.symm), g.cell h.2.2.1 (fun q => hr q.symm), g.cell h.2.2.2.1 (fun q => hr q.symm), g.cell h.2.2.2.2 (fun q => hr q.symm)⟩
theorem five_1 {w : World} {b : Nat} {r : Int} {k v t : Sl} {cl : Bool} (h : Five w b r k v t cl) (k' : Sl) : Five (w.setCell ⟨b, 1, none⟩ (.slice k'.a k'.n k'.c)) b r k' v t cl :=
  ⟨set_five h.1 (by decide), set_same h.2.1, set_five h.2.2.1 (by decide), set_five h.2.2.2.1 (by decide), set_five h.2.2.2.2 (by decide)⟩
theorem five_2 {w : World} {b : Nat} {r : Int} {k v t : Sl} {cl : Bool} (h : Five w b r k v t cl) (v' : Sl) : Five (w.setCell ⟨b, 2, none⟩ (.slice v'.a v'.n v'.c)) b r k v' t cl :=
  ⟨set_five h.1 (by decide), set_five h.2.1 (by decide), set_same h.2.2.1, set_five h.2.2.2.1 (by decide), set_five h.2.2.2.2 (by decide)⟩

/-- What lies there behind a new row of keys. -/
structure KB (W : World) (M : Nat) (w w' : World) (B : Nat) (s : St) (xs : List Int) (a v t : Sl) : Prop where
  kp : Kp W M w w'
  five : Five w' B s.reg a v t s.closed
  r : U64 s.reg
  ws : WS w' a.a a.n a.c xs
  rv : w'.ownsRow W.heap.size 26 1 (.slice v.a v.n v.c) v.n (flatWS s.vals)
  vv : WS w' v.a v.n v.c s.vals
  ns : NS w' t.a t.n t.c s.votes
  ka : ∀ g, a.ob = some g → W.heap.size ≤ g ∧ (g < M ∨ w.heap.size ≤ g) ∧ g ≠ B ∧ v.ob ≠ some g
  kv : ∀ g, v.ob = some g → W.heap.size ≤ g ∧ g < M ∧ g ≠ B
  kt : ∀ g, t.ob = some g → W.heap.size ≤ g ∧ g < M ∧ g ≠ B ∧ v.ob ≠ some g
  fro : ∀ i, w'.frozen? ⟨B, i, none⟩ = false
  hB : W.heap.size ≤ B ∧ B < M ∧ M ≤ w.heap.size
theorem apart {a b : Option Nat} (h : a = none ∨ a ≠ b) : b = none ∨ b ≠ a := by
  by_cases c : b = none
  · exact .inl c
  · refine .inr (fun e => ?_)
    rcases h with h | h
    · exact c (e.trans h)
    · exact h e.symm
theorem kb_of {W : World} {M : Nat} {w w1 w2 : World} {B : Nat} {s : St} {a v t : Sl} {xs : List Int} (hW : WB W M w B s a v t) (e : Ext w w1) (hg : w1.grownBy w2 a.ob) (k : Sl) (hws : WS w2 k.a k.n k.c xs) (hx : ∀ g, k.ob = some g → a.ob = some g ∨ w1.heap.size ≤ g) :
    KB W M w (w2.setCell ⟨B, 1, none⟩ (.slice k.a k.n k.c)) B s xs k v t := by
  have h1 := hW.ext e
  have hs := e.size
  have hM := hW.P.hM
  have hw := hW.P.hw
  have gB := gr_set w2 B 1 (.slice k.a k.n k.c)
  have ha : ∀ g, a.ob = some g → W.heap.size ≤ g ∧ g < M ∧ g ≠ B := fun g q => ⟨(hW.R.rk.lt _ q).1, hW.m g (.inl q)⟩
  have hv : ∀ g, v.ob = some g → W.heap.size ≤ g ∧ g < M ∧ g ≠ B := fun g q => ⟨(hW.R.rv.lt _ q).1, hW.m g (.inr (.inl q))⟩
  have ht : ∀ g, t.ob = some g → W.heap.size ≤ g ∧ g < M ∧ g ≠ B := fun g q => ⟨(hW.R.rt.lt _ q).1, hW.m g (.inr (.inr q))⟩
  have haB : a.ob ≠ some B := fun q => (ha B q).2.2 rfl
  have hvB : v.ob ≠ some B := fun q => (hv B q).2.2 rfl
  have htB : t.ob ≠ some B := fun q => (ht B q).2.2 rfl
  have hkB : k.ob ≠ some B := fun q => by
    rcases hx B q with c | c
    · exact haB c
    · omega
  refine ⟨((((Kp.refl hW.P.e).ext e).grown hg (fun q c => ⟨(ha q c).1, .inl (ha q c).2.1⟩)).setCell _ hW.P.hB (.inl hM)), five_1 (five_gr h1.P.five hg haB) k, hW.P.ss.1, ws_gr hws gB (.inr hkB), own_set (h1.R.rv.kept hg (apart h1.R.kv)) hvB,
    ws_gr (ws_gr h1.P.ss.2.2.1 hg (apart h1.R.kv)) gB (.inr hvB), ns_gr (ns_gr h1.P.ss.2.2.2 hg (apart h1.R.kt)) gB (.inr htB), fun g q => ?_, hv, fun g q => ⟨(ht g q).1, (ht g q).2.1, (ht g q).2.2, fun c => ?_⟩, fun i => ?_, hW.P.hB, hM, hw⟩
  · rcases hx g q with c | c
    · refine ⟨(ha g c).1, .inl (ha g c).2.1, (ha g c).2.2, fun d => ?_⟩
      rcases hW.R.kv with u | u
      · exact absurd (c.symm.trans u) (by simp)
      · exact u (c.trans d.symm)
    · have := hW.P.e.size
      exact ⟨by omega, .inr (by omega), by omega, fun d => by have := hv g d; omega⟩
  · rcases hW.R.vt with u | u
    · exact absurd (c.symm.trans u) (by simp)
    · exact u (c.trans q.symm)
  · rw [World.frozen?_setCell]
    exact (hg.frozen_far ⟨B, i, none⟩ (by show B < w1.heap.size; omega) (fun q => haB q.symm)).trans (h1.P.fro i)
theorem ob_off {k : Sl} {B : Nat} (h : k.ob ≠ some B) : Off k.a B := off_block h
theorem KB.qb {W : World} {M : Nat} {w w' : World} {B : Nat} {s : St} {a v t : Sl} {xs : List Int} (h : KB W M w w' B s xs a v t) : QB W M w w' B { s with keys := xs } :=
  ⟨h.kp, a, v, t, h.five, ⟨h.r, h.ws, h.vv, h.ns⟩, fun b hb hl => ⟨fun _ => ob_off fun q => by have := h.ka b q; omega, fun _ => ob_off fun q => by have := h.kv b q; have := h.hB; omega, fun _ => ob_off fun q => by have := h.kt b q; have := h.hB; omega⟩⟩
theorem KB.fin {W : World} {M : Nat} {w w' w1 w3 : World} {B : Nat} {s : St} {a v t : Sl} {xs ys : List Int} (h : KB W M w w' B s xs a v t) (e : Ext w' w1) (hg : w1.grownBy w3 v.ob) (k : Sl) (hws : WS w3 k.a k.n k.c ys) (hx : ∀ g, k.ob = some g → v.ob = some g ∨ w1.heap.size ≤ g) :
    QB W M w (w3.setCell ⟨B, 2, none⟩ (.slice k.a k.n k.c)) B { s with keys := xs, vals := ys } := by
  have hs := e.size
  have hs' := h.kp.2.1
  have hB := h.hB
  have gB := gr_set w3 B 2 (.slice k.a k.n k.c)
  have haB : a.ob ≠ some B := fun q => (h.ka B q).2.2.1 rfl
  have hvB : v.ob ≠ some B := fun q => (h.kv B q).2.2 rfl
  have htB : t.ob ≠ some B := fun q => (h.kt B q).2.2.1 rfl
  have hkB : k.ob ≠ some B := fun q => by
    rcases hx B q with c | c
    · exact hvB c
    · omega
  have hav : a.ob = none ∨ a.ob ≠ v.ob := by
    by_cases c : a.ob = none
    · exact .inl c
    · obtain ⟨g, q⟩ := Option.ne_none_iff_exists'.1 c
      exact .inr (fun d => (h.ka g q).2.2.2 (d.symm.trans q))
  have htv : t.ob = none ∨ t.ob ≠ v.ob := by
    by_cases c : t.ob = none
    · exact .inl c
    · obtain ⟨g, q⟩ := Option.ne_none_iff_exists'.1 c
      exact .inr (fun d => (h.kt g q).2.2.2 (d.symm.trans q))
  refine ⟨(((h.kp.ext e).grown hg (fun q c => ⟨(h.kv q c).1, .inl (h.kv q c).2.1⟩)).setCell _ hB.1 (.inl hB.2.1)), a, k, t, five_2 (five_gr (h.five.ext e) hg hvB) k, ⟨h.r, ws_gr (ws_gr (h.ws.ext e) hg hav) gB (.inr haB), ws_gr hws gB (.inr hkB), ns_gr (ns_gr (h.ns.ext e) hg htv) gB (.inr htB)⟩,
    fun b hb hl => ⟨fun _ => ob_off fun q => by have := h.ka b q; omega, fun _ => ob_off fun q => ?_, fun _ => ob_off fun q => by have := h.kt b q; omega⟩⟩
  rcases hx b q with c | c
  · have := h.kv b c; omega
  · omega
theorem WB.put {W : World} {M : Nat} {w w1 : World} {B : Nat} {s : St} {a v t : Sl} (hW : WB W M w B s a v t) (e : Ext w w1) {g : Nat} (hg : v.a = some ⟨g, 0, none⟩) (i : Nat) {x : Int} (hx : U64 x) : QB W M w (w1.setCell ⟨g, i, none⟩ (.int .u64 x)) B { s with vals := s.vals.set i x } := by
  have h1 := hW.ext e
  have hv : v.ob = some g := by unfold Sl.ob; rw [hg]; rfl
  obtain ⟨q1, q2⟩ := hW.m g (.inr (.inl hv))
  have q0 := (hW.R.rv.lt _ hv).1
  have gB := gr_set w1 g i (.int .u64 x)
  have hav : a.ob = none ∨ a.ob ≠ some g := by have := h1.R.kv; rwa [show (Value.slice v.a v.n v.c).ownBlock = some g from hv] at this
  have htv : t.ob = none ∨ t.ob ≠ some g := by have := apart h1.R.vt; rwa [show (Value.slice v.a v.n v.c).ownBlock = some g from hv] at this
  have hown : (w1.setCell ⟨g, i, none⟩ (.int .u64 x)).ownsRow W.heap.size 26 1 (.slice v.a v.n v.c) v.n (flatWS (s.vals.set i x)) := by
    have := h1.R.rv
    rw [hg] at this ⊢
    exact own_put this i x
  refine ⟨((Kp.refl hW.P.e).ext e).setCell _ q0 (.inl q1), a, v, t, five_gr h1.P.five gB (fun q => q2 (by injection q)), ⟨h1.P.ss.1, ws_gr h1.P.ss.2.1 gB hav, WS.of_own hown (by rw [List.length_set]; exact h1.P.ss.2.2.1.len) h1.P.ss.2.2.1.le (fun y hy => ?_), ns_gr h1.P.ss.2.2.2 gB htv⟩, fun b hb _ => hW.P.off b hb⟩
  rcases List.mem_or_eq_of_mem_set hy with c | c
  · exact h1.P.ss.2.2.1.range y c
  · rw [c]; exact hx

end Go.Proofs.YtdipddnnckfnmaaGreat.Lan

/- LanAdd:
  slices.Insert of one word into a row of one's own, insert of a key into a state, and add and Del of a set. Conditions: the state lies in a box that may be written, its rows are one's own, and its keys rise.
-/
namespace Go.Proofs.YtdipddnnckfnmaaGreat.Lan
open Go.RowKit (Below intOf)
open Go.Proofs.YtdipddnnckfnmaaGreat.Aut
open Go.Proofs.YtdipddnnckfnmaaGreat.Reg (cf bx fits_any)

theorem insert_all {w : World} {base n c b i : Nat} {sl : Option Addr} {ys : List Int} {z : Int} (hown : w.ownsRow base 26 1 (.slice sl n c) n (flatWS ys)) (hl : ys.length = n) (hb : w.heap[b]? = some (.cells #[.int .u64 z] 26 (0, 0))) (hne : ∀ g, (Value.slice sl n c).ownBlock = some g → b ≠ g) (hle : n ≤ 1000000) (hi : i ≤ n) (hbase : base ≤ w.heap.size) (hu : ∀ y ∈ ys, U64 y) (hz : U64 z) :
    Calls Tryz.prog 130 #[.slice sl n c, .int .i64 (i : Int), .slice (some ⟨b, 0, none⟩) 1 1] w (InE w sl n c (withL ys i z)) := by
  by_cases e : i = n
  · subst e
    have : withL ys i z = ys ++ [z] := by unfold withL; rw [List.take_of_length_le (by omega), List.drop_of_length_le (by omega)]
    rw [this]
    refine insert_end hown hl ⟨rfl, by omega, by omega, by omega, fun j x hj => ?_⟩ hle hbase hu
    rcases j with _ | j
    · simp at hj; subst hj
      refine ⟨hz, b, 0, rfl, ?_⟩
      unfold World.cell?; simp only [hb]; rfl
    · simp at hj
  · rcases hown.2 with ⟨_, h0⟩ | ⟨g, cap, cur, e2, _, _, hnc, _⟩
    · omega
    · cases e2
      by_cases hc : n + 1 ≤ c
      · exact insert_room hown hl hb (hne g rfl) hle (by omega) hc hu hz
      · obtain rfl : c = n := by omega
        exact insert_grow hown hl hb hle (by omega) hu hz
theorem ins_ok {W : World} {M : Nat} {w : World} {B : Nat} {s : St} {a v t : Sl} (hW : WB W M w B s a v t) (T : TypeId) (m : Int) (i : Nat) (x : Int) (hm : (a.n : Int) < m) (hi : i ≤ a.n) (hn : a.n ≤ 1000000) (hx : U64 x) :
    Calls Tryz.prog 125 #[kd T m, .pointer (some ⟨B, 0, none⟩), .int .i64 (i : Int), .int .u64 x] w fun e w' => e = .returned (.tuple #[]) ∧ ∃ a', KB W M w w' B s (withL s.keys i x) a' v t := by
  have E : ∀ q, Ext w (insW w T m x q) := fun q => ((Ext.new w _).drewN q).alloc _
  refine (insert_ok hW.P.five.2.1 (hW.P.fro 1) (fun q => (hW.m B (.inl q)).2 rfl) m i x (withL s.keys i x) hm (fun q => ?_)).mono ?_
  · refine insert_all (own_ext hW.R.rk (E q)) hW.P.ss.2.1.len ?_ (fun g hg => ?_) hn hi (Nat.le_trans hW.P.e.size (E q).size) hW.P.ss.2.1.range hx
    · have := World.alloc_heap_new ((w.alloc (kb T m)).drewN q) (.cells #[.int .u64 x] 26)
      have hs : ((w.alloc (kb T m)).drewN q).heap.size = w.heap.size + 1 := by simp
      rw [hs] at this; exact this
    · have h1 := (hW.m g (.inl hg)).1
      have h2 := hW.P.hw
      omega
  · rintro e w' ⟨rfl, q, w2, sl', c', h1, h2, h3, rfl⟩
    exact ⟨rfl, ⟨sl', a.n + 1, c'⟩, kb_of hW (E q) h2 ⟨sl', a.n + 1, c'⟩ h1 h3⟩

theorem kbt_new (ty T : TypeId) (m : Int) (w : World) : (w.alloc (kbt ty T m)).cell? ⟨w.heap.size, 0, none⟩ = some (.iface T kE) ∧ (w.alloc (kbt ty T m)).cell? ⟨w.heap.size, 1, none⟩ = some (.int .i64 m) := by
  constructor <;> (unfold World.cell?; rw [World.alloc_heap_new]; rfl)

/-- What add does. -/
def addS (k m : Int) (s : St) (x : Int) : St × Rs :=
  if mayK k x = true then (if hitK k s.keys (meantK k x) = true then (s, (0, 0)) else if m ≤ (s.keys.length : Int) then (s, (11, 0)) else ({ s with keys := withL s.keys (posK k s.keys (meantK k x)) (meantK k x) }, (0, 1))) else (s, (10, 0))

set_option maxHeartbeats 1000000 in
set_option maxRecDepth 100000 in
theorem set_add {W : World} {M : Nat} {w : World} {B : Nat} {s : St} {a v t : Sl} (hW : WB W M w B s a v t) {k : Int} {T : TypeId} {fk fr fl : Nat} {x : Int} (h : Ky k T fk fr fl B a.a a.n a.c s x w) (m : Int) (hm : m ≤ 1000000) :
    Calls Tryz.prog 116 #[kd T m, .pointer (some ⟨B, 0, none⟩), .int .u64 x] w fun e w' => TE (addS k m s x).2 e ∧ QB W M w w' B (addS k m s x).1 := by
  have X0 := Lib.hid (Ext.new w (kbt 106 T m))
  obtain ⟨k1, k1b⟩ := kbt_new 106 T m w
  have HR : RowKit.Hid (∀ w1, Ext w w1 → QB W M w w1 B s) := Lib.hid fun w1 e => hW.P.read e
  by_cases hmay : mayK k x = true
  · have HK := Lib.hid (fun W => keyOf_yes h.I m x W h.x hmay)
    have HF : RowKit.Hid (∀ W, Ext w W → Calls Tryz.prog 114 #[kd T m, .pointer (some ⟨B, 0, none⟩), .int .u64 (meantK k x)] W fun e w' => e = .returned (.tuple #[.int .i64 (posK k s.keys (meantK k x) : Nat), .bool (hitK k s.keys (meantK k x))]) ∧ Ext W w') :=
      Lib.hid fun W hE => find_any h.I m (meantK k x) B a.a a.n a.c s.keys W (h.W.ext hE) (meant_u h.x) h.r (hE.cell h.b)
    by_cases hh : hitK k s.keys (meantK k x) = true
    · have e : addS k m s x = (s, (0, 0)) := by unfold addS; rw [if_pos hmay, if_pos hh]
      rw [e]
      rw [hh] at HF
      generalize posK k s.keys (meantK k x) = P at *
      generalize meantK k x = X at *
      clear h hh hmay hW e hm
      dsimp only [kd, kb, kbt] at *
      go_enter Tryz.func116, Tryz.ntmps116
      go_wp2_with (first
        | (go_at_call 108; (with_reducible refine (HK.out _).mono ?_); rintro e w' ⟨rfl, rfl⟩; replace k1 := box_alloc (x := (.cells #[] T)) (box_alloc (x := (.cells #[.iface T kE, .int .i64 m] 104)) k1); replace k1b := box_alloc (x := (.cells #[] T)) (box_alloc (x := (.cells #[.iface T kE, .int .i64 m] 104)) k1b))
        | (go_at_call 114; (with_reducible refine (HF.out _ (by repeat (first | exact X0.out | refine Ext.alloc ?_ _ | refine Ext.drew ?_))).mono ?_); rintro e w1 ⟨rfl, hE⟩; have E1 : RowKit.Hid (Ext w w1) := Lib.hid (Ext.trans (by repeat (first | exact X0.out | refine Ext.alloc ?_ _ | refine Ext.drew ?_)) hE); replace k1 := hE.cell k1; replace k1b := hE.cell k1b; clear hE))
      go_ret
      exact ⟨te_ret _, HR.out _ E1.out⟩
    · have hh' : hitK k s.keys (meantK k x) = false := by simpa using hh
      rw [hh'] at HF
      have hlen := h.W.len
      by_cases hfull : m ≤ (s.keys.length : Int)
      · have e : addS k m s x = (s, (11, 0)) := by unfold addS; rw [if_pos hmay, if_neg hh, if_pos hfull]
        rw [e]
        have HI : RowKit.Hid (∀ W i x, Ext w W → Calls Tryz.prog 125 #[kd T m, .pointer (some ⟨B, 0, none⟩), .int .i64 i, .int .u64 x] W fun e w' => e = .panicked (noE 11) ∧ Ext W w') := Lib.hid fun W i x e => insert_full (e.cell h.b) m i x (by omega)
        generalize posK k s.keys (meantK k x) = P at *
        generalize meantK k x = X at *
        clear h hh hh' hmay hW e hm hlen hfull
        dsimp only [kd, kb, kbt] at *
        go_enter Tryz.func116, Tryz.ntmps116
        go_wp2_with (first
          | (go_at_call 108; (with_reducible refine (HK.out _).mono ?_); rintro e w' ⟨rfl, rfl⟩; replace k1 := box_alloc (x := (.cells #[] T)) (box_alloc (x := (.cells #[.iface T kE, .int .i64 m] 104)) k1); replace k1b := box_alloc (x := (.cells #[] T)) (box_alloc (x := (.cells #[.iface T kE, .int .i64 m] 104)) k1b))
          | (go_at_call 114; (with_reducible refine (HF.out _ (by repeat (first | exact X0.out | refine Ext.alloc ?_ _ | refine Ext.drew ?_))).mono ?_); rintro e w1 ⟨rfl, hE⟩; have E1 : RowKit.Hid (Ext w w1) := Lib.hid (Ext.trans (by repeat (first | exact X0.out | refine Ext.alloc ?_ _ | refine Ext.drew ?_)) hE); replace k1 := hE.cell k1; replace k1b := hE.cell k1b; clear hE)
          | (go_at_call 125; (with_reducible refine (HI.out _ _ _ E1.out).mono ?_); rintro e w2 ⟨rfl, hE2⟩))
        exact ⟨rfl, te_no (by decide), HR.out _ (E1.out.trans hE2)⟩
      · have e : addS k m s x = ({ s with keys := withL s.keys (posK k s.keys (meantK k x)) (meantK k x) }, (0, 1)) := by unfold addS; rw [if_pos hmay, if_neg hh, if_neg hfull]
        rw [e]
        have hpl := pos_le k s.keys (meantK k x)
        have HI : RowKit.Hid (∀ W', Ext w W' → Calls Tryz.prog 125 #[kd T m, .pointer (some ⟨B, 0, none⟩), .int .i64 (posK k s.keys (meantK k x) : Nat), .int .u64 (meantK k x)] W' fun e w' => e = .returned (.tuple #[]) ∧ QB W M w w' B { s with keys := withL s.keys (posK k s.keys (meantK k x)) (meantK k x) }) := Lib.hid fun W' e =>
          (ins_ok (hW.ext e) T m _ _ (by omega) (by omega) (by omega) (meant_u h.x)).mono fun e' w' q => by
            obtain ⟨q1, a', q2⟩ := q
            exact ⟨q1, q2.qb.from e⟩
        generalize ({ s with keys := withL s.keys (posK k s.keys (meantK k x)) (meantK k x) } : St) = s' at *
        generalize posK k s.keys (meantK k x) = P at *
        generalize meantK k x = X at *
        clear h hh hh' hmay hW e hm hlen hfull hpl
        dsimp only [kd, kb, kbt] at *
        go_enter Tryz.func116, Tryz.ntmps116
        go_wp2_with (first
          | (go_at_call 108; (with_reducible refine (HK.out _).mono ?_); rintro e w' ⟨rfl, rfl⟩; replace k1 := box_alloc (x := (.cells #[] T)) (box_alloc (x := (.cells #[.iface T kE, .int .i64 m] 104)) k1); replace k1b := box_alloc (x := (.cells #[] T)) (box_alloc (x := (.cells #[.iface T kE, .int .i64 m] 104)) k1b))
          | (go_at_call 114; (with_reducible refine (HF.out _ (by repeat (first | exact X0.out | refine Ext.alloc ?_ _ | refine Ext.drew ?_))).mono ?_); rintro e w1 ⟨rfl, hE⟩; have E1 : RowKit.Hid (Ext w w1) := Lib.hid (Ext.trans (by repeat (first | exact X0.out | refine Ext.alloc ?_ _ | refine Ext.drew ?_)) hE); replace k1 := hE.cell k1; replace k1b := hE.cell k1b; clear hE)
          | (go_at_call 125; (with_reducible refine (HI.out _ E1.out).mono ?_); rintro e w2 ⟨rfl, hQ⟩))
        go_ret
        exact ⟨te_ret _, hQ⟩
  · have hmay' : mayK k x = false := by simpa using hmay
    have e : addS k m s x = (s, (10, 0)) := by unfold addS; rw [if_neg hmay]
    rw [e]
    have HK := Lib.hid (fun W => keyOf_no h.I m x W h.x hmay')
    clear h hmay hmay' hW e hm
    dsimp only [kd, kb, kbt] at *
    go_enter Tryz.func116, Tryz.ntmps116
    go_wp2_with (first
      | (go_at_call 108; (with_reducible refine (HK.out _).mono ?_); rintro e w' ⟨rfl, rfl⟩))
    exact ⟨rfl, te_no (by decide), HR.out _ ((X0.out.alloc _).alloc _)⟩

set_option maxHeartbeats 1000000 in
set_option maxRecDepth 100000 in
theorem set_6 {W : World} {M : Nat} {w : World} {B : Nat} {s : St} {a v t : Sl} (hW : WB W M w B s a v t) {k : Int} {T : TypeId} {fk fr fl : Nat} {x : Int} (h : Ky k T fk fr fl B a.a a.n a.c s x w) (m y : Int) (hm : m ≤ 1000000) :
    Calls Tryz.prog 110 #[kd T m, .pointer (some ⟨B, 0, none⟩), ov 6 x y] w fun e w' => TE (addS k m s x).2 e ∧ QB W M w w' B (addS k m s x).1 := by
  have X0 := Lib.hid ((Ext.new w (kbt 106 T m)).alloc (ob 6 x y))
  have HA := Lib.hid ((set_add (hW.ext X0.out) (h.ext X0.out) m hm).mono fun e w' q => (⟨q.1, q.2.from X0.out⟩ : TE (addS k m s x).2 e ∧ QB W M w w' B (addS k m s x).1))
  obtain ⟨⟨k1, k1b⟩, k2, k3, k4⟩ := two_newT 106 T m 6 x y w
  clear h hW hm
  generalize addS k m s x = d at *
  dsimp only [kd, kb, kbt, ov, ob] at *
  go_enter Tryz.func110, Tryz.ntmps110
  go_wp2_with (first | (go_at_call 116; (with_reducible refine HA.out.mono ?_); rintro e w' ⟨hT, hQ⟩; rcases hT with ⟨h0, rfl⟩ | ⟨h0, h1, rfl⟩))
  · go_ret
    exact ⟨.inl ⟨h0, rfl⟩, hQ⟩
  · exact ⟨rfl, .inr ⟨h0, h1, rfl⟩, hQ⟩

/-- What Del of a set does. -/
def delS (k : Int) (s : St) (x : Int) : St × Rs :=
  if mayK k x = true then (if hitK k s.keys (meantK k x) = true then ({ s with keys := withoutL s.keys (posK k s.keys (meantK k x)) }, (0, 0)) else (s, (12, 0))) else (s, (10, 0))
theorem hit_lt {k : Int} {xs : List Int} {x : Int} (h : hitK k xs x = true) : posK k xs x < xs.length := by
  unfold hitK at h
  split at h
  · rename_i y e; exact (List.getElem?_eq_some_iff.1 e).1
  · cases h
set_option maxHeartbeats 1000000 in
set_option maxRecDepth 100000 in
theorem set_7 {W : World} {M : Nat} {w : World} {B : Nat} {s : St} {a v t : Sl} (hW : WB W M w B s a v t) {k : Int} {T : TypeId} {fk fr fl : Nat} {x : Int} (h : Ky k T fk fr fl B a.a a.n a.c s x w) (m y : Int) :
    Calls Tryz.prog 110 #[kd T m, .pointer (some ⟨B, 0, none⟩), ov 7 x y] w fun e w' => TE (delS k s x).2 e ∧ QB W M w w' B (delS k s x).1 := by
  have X0 := Lib.hid ((Ext.new w (kbt 106 T m)).alloc (ob 7 x y))
  obtain ⟨⟨k1, k1b⟩, k2, k3, k4⟩ := two_newT 106 T m 7 x y w
  have HR : RowKit.Hid (∀ w1, Ext w w1 → QB W M w w1 B s) := Lib.hid fun w1 e => hW.P.read e
  by_cases hmay : mayK k x = true
  · by_cases hh : hitK k s.keys (meantK k x) = true
    · have e : delS k s x = ({ s with keys := withoutL s.keys (posK k s.keys (meantK k x)) }, (0, 0)) := by unfold delS; rw [if_pos hmay, if_pos hh]
      rw [e]
      have hlt := hit_lt hh
      have hlen := h.W.len
      have HD := Lib.hid ((drop_yes (hW.ext X0.out) (h.ext X0.out) m hmay hh _ rfl (by omega)).mono fun e w' q => (by
        obtain ⟨q1, w1, w2, g, e1, hg, ea, _, _, hws, rfl⟩ := q
        have hob : a.ob = some g := by unfold Sl.ob; rw [ea]; rfl
        exact ⟨⟨_, q1⟩, (kb_of hW (X0.out.trans e1) (by rw [hob]; exact hg) ⟨a.a, a.n - 1, a.c⟩ hws (fun g' hg' => .inl (by unfold Sl.ob at hg' ⊢; rw [ea] at hg' ⊢; exact hg'))).qb⟩ : (∃ P : Nat, e = .returned (.int .i64 (P : Nat))) ∧ QB W M w w' B { s with keys := withoutL s.keys (posK k s.keys (meantK k x)) }))
      generalize ({ s with keys := withoutL s.keys (posK k s.keys (meantK k x)) } : St) = s' at *
      clear h hh hmay hW e hlt hlen
      dsimp only [kd, kb, kbt, ov, ob] at *
      go_enter Tryz.func110, Tryz.ntmps110
      go_wp2_with (first | (go_at_call 117; (with_reducible refine HD.out.mono ?_); rintro e w' ⟨⟨P, rfl⟩, hQ⟩))
      go_ret
      exact ⟨te_ret _, hQ⟩
    · have e : delS k s x = (s, (12, 0)) := by unfold delS; rw [if_pos hmay, if_neg hh]
      rw [e]
      have HD := Lib.hid (drop_no (h.ext X0.out) m 12 (.inl ⟨hmay, by simpa using hh, rfl⟩))
      clear h hh hmay hW e
      dsimp only [kd, kb, kbt, ov, ob] at *
      go_enter Tryz.func110, Tryz.ntmps110
      go_wp2_with (first | (go_at_call 117; (with_reducible refine HD.out.mono ?_); rintro e w' ⟨rfl, hE⟩))
      exact ⟨rfl, te_no (by decide), HR.out _ (X0.out.trans hE)⟩
  · have e : delS k s x = (s, (10, 0)) := by unfold delS; rw [if_neg hmay]
    rw [e]
    have HD := Lib.hid (drop_no (h.ext X0.out) m 10 (.inr ⟨by simpa using hmay, rfl⟩))
    clear h hmay hW e
    dsimp only [kd, kb, kbt, ov, ob] at *
    go_enter Tryz.func110, Tryz.ntmps110
    go_wp2_with (first | (go_at_call 117; (with_reducible refine HD.out.mono ?_); rintro e w' ⟨rfl, hE⟩))
    exact ⟨rfl, te_no (by decide), HR.out _ (X0.out.trans hE)⟩

end Go.Proofs.YtdipddnnckfnmaaGreat.Lan

