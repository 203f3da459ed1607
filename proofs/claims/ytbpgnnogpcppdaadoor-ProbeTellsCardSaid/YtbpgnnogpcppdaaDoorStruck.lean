/-
  What slices.DeleteFunc does with records of a key, and what others returns: a table's records but that of the key. Conditions: the records are there, in a row of the call's own; the words are there.
-/
import Derived.Test.YtbpgnnogpcppdaaDoorRight
namespace Go.Proofs.YtbpgnnogpcppdaaDoor
open Go.RowKit (Below intOf)

theorem others1_any (a b k : Int) (Bk : Nat) (W : World) (hc : W.cell? ⟨Bk, 0, none⟩ = some (.int .u64 k)) : Calls Tryd.prog 52 #[.agg #[.int .u64 a, .int .u64 b], .pointer (some ⟨Bk, 0, none⟩)] W fun e w' => e = .returned (.bool (a == k)) ∧ w' = W.alloc (Rec2 a b) := by
  have hc2 : (W.alloc (Rec2 a b)).cell? ⟨Bk, 0, none⟩ = some (.int .u64 k) := (Ext.new W _).cell hc
  clear hc
  go_enter Tryd.func52, Tryd.ntmps52
  go_wp2
  go_ret
  exact ⟨rfl, rfl⟩

theorem flat_set : ∀ (L : List Rc) (i : Nat) (a b : Int), flat (L.set i (a, b)) = ((flat L).set (i * 2) (.int .u64 a)).set (i * 2 + 1) (.int .u64 b)
  | [], i, a, b => by simp [flat]
  | x :: r, 0, a, b => by simp [flat]
  | x :: r, i + 1, a, b => by
    have e : (i + 1) * 2 = i * 2 + 1 + 1 := by omega
    rw [List.set_cons_succ, flat, flat, flat_set r i a b, e]
    simp
theorem heap_set {w : World} {g j : Nat} {cs : Array Value} {t : TypeId} {fr : Nat × Nat} {v : Value} (h : w.heap[g]? = some (.cells cs t fr)) : (w.setCell ⟨g, j, none⟩ v).heap[g]? = some (.cells (cs.setIfInBounds j v) t fr) := by
  obtain ⟨hl, e⟩ := Array.getElem?_eq_some_iff.1 h
  show (w.heap.modify g _)[g]? = _
  rw [Array.getElem?_eq_getElem (by simpa using hl), Array.getElem_modify_self, e]
  rfl
theorem own_set {w : World} {base g n cap : Nat} {cur : List Rc} (h : w.ownsRow base 34 2 (.slice (some ⟨g, 0, none⟩) n cap) n (flat cur)) {i : Nat} (hi : i < n) (a b : Int) :
    ((w.setCell ⟨g, i * 2, none⟩ (.int .u64 a)).setCell ⟨g, i * 2 + 1, none⟩ (.int .u64 b)).ownsRow base 34 2 (.slice (some ⟨g, 0, none⟩) n cap) n (flat (cur.set i (a, b))) := by
  have hlen := h.1
  rcases h.2 with ⟨e, _⟩ | ⟨g', cap', cs, e, hb, hg, hnc, hcm, hsz, ht⟩
  · cases e
  · cases e
    refine ⟨by rw [flat_len, List.length_set, ← flat_len]; exact hlen, .inr ⟨g, cap, _, rfl, hb, heap_set (heap_set hg), hnc, hcm, by simp [hsz], ?_⟩⟩
    rw [flat_set, ← ht]
    apply List.ext_getElem?
    intro q
    simp only [List.getElem?_take, List.getElem?_set, Array.toList_setIfInBounds, List.length_take, List.length_set]
    by_cases hq : q < n * 2
    · have h1 : i * 2 < cs.toList.length := by simp [hsz]; omega
      have h2 : i * 2 + 1 < cs.toList.length := by simp [hsz]; omega
      simp only [hq, if_true]
      by_cases e1 : i * 2 + 1 = q
      · simp only [e1, if_true]; rw [if_pos (by omega), if_pos (by simp at h2 ⊢; omega)]
      · simp only [e1, if_false]
        by_cases e2 : i * 2 = q
        · simp only [e2, if_true]; rw [if_pos (by omega), if_pos (by simp at h1 ⊢; omega)]
        · simp only [e2, if_false]
    · simp only [hq, if_false]
      rw [if_neg (by omega), if_neg (by omega)]
theorem own_frozen {w : World} {base g n cap : Nat} {xs : List Value} (h : w.ownsRow base 34 2 (.slice (some ⟨g, 0, none⟩) n cap) n xs) (j : Nat) : w.frozen? ⟨g, j, none⟩ = false := by
  rcases h.2 with ⟨e, _⟩ | ⟨g', cap', cs, e, hb, hg, _⟩
  · cases e
  · cases e; simp [World.frozen?, hg]
theorem own_cap {w : World} {base g n cap : Nat} {xs : List Value} (h : w.ownsRow base 34 2 (.slice (some ⟨g, 0, none⟩) n cap) n xs) : n ≤ cap ∧ cap ≤ 9223372036854775807 ∧ base ≤ g := by
  rcases h.2 with ⟨e, _⟩ | ⟨g', cap', cs, e, hb, hg, hnc, hcm, _⟩
  · cases e
  · cases e; unfold maxLen at hcm; exact ⟨hnc, by omega, hb⟩
/-- clear of what stands behind place i. -/
theorem clear_own {w : World} {base g n cap i : Nat} {cur : List Rc} (h : w.ownsRow base 34 2 (.slice (some ⟨g, 0, none⟩) n cap) n (flat cur)) (hl : cur.length = n) (hi : i < n) :
    ∃ w', (∀ ty, (Builtin.clear_ #[32] ty #[.slice (some ⟨g, i * 2, none⟩) (n - i) (cap - i)]).run Tryd.prog w = .ok (.tuple #[]) w') ∧ w'.ownsRow base 34 2 (.slice (some ⟨g, 0, none⟩) i cap) i (flat (cur.take i)) ∧ w.grownBy w' (some g) := by
  rcases h.2 with ⟨e, _⟩ | ⟨g', cap', cs, e, hb, hg, hnc, hcm, hsz, ht⟩
  · cases e
  · cases e
    obtain ⟨zs, hzs⟩ : ∃ zs, (Builtin.zeroCells (Value.agg #[.int .u64 0, .int .u64 0]).cells (n - i)).toList = zs := ⟨_, rfl⟩
    have hzl : zs.length = (n - i) * 2 := by rw [← hzs]; simp [size_zeroCells, Value.cells]
    have hz1 : ∀ v ∈ zs, v.oneCell' = true := by
      rw [← hzs]
      intro v hv
      simp [Builtin.zeroCells, Value.cells] at hv
      obtain ⟨q, hq, rfl⟩ := hv
      rcases Nat.mod_two_eq_zero_or_one q with e | e <;> simp [e, Value.oneCell']
    have hst := run_storeCells_at Tryd.prog g (i * 2) 34 zs 0 cs w hg (by rw [hzl, hsz]; omega) hz1
    have hni : n - i ≠ 0 := by omega
    refine ⟨w.setRow g (cs.toList.take (i * 2 + 0) ++ zs ++ cs.toList.drop (i * 2 + 0 + zs.length)).toArray, ?_, ⟨by rw [flat_len, List.length_take, hl]; omega, .inr ⟨g, cap, (cs.toList.take (i * 2 + 0) ++ zs ++ cs.toList.drop (i * 2 + 0 + zs.length)).toArray, rfl, hb, setRow_heap _ _ _ _ 34 _ hg, by omega, hcm, ?_, ?_⟩⟩, ⟨rfl, rfl, rfl, by simp [World.setRow], fun q hq hne => setRow_other w g q _ (fun e => hne (by rw [e]))⟩⟩
    · intro ty
      obtain ⟨d, hd⟩ : ∃ d, n - i = d + 1 := ⟨n - i - 1, by omega⟩
      rw [hd] at hzs ⊢
      simp [Builtin.clear_, run_underlying Tryd.underlying32, Tryd.zeroValue34, hzs, hst]
    · simp [hsz, hzl]; omega
    · have hf : flat (cur.take i) = (flat cur).take (i * 2) := by
        have : flat cur = flat (cur.take i) ++ flat (cur.drop i) := by rw [← flat_append, List.take_append_drop]
        rw [this, List.take_left' (by rw [flat_len, List.length_take, hl]; omega)]
      rw [hf, ← ht, List.take_take]
      simp
      rw [List.take_append_of_le_length (by simp [hsz]; omega), List.take_take]
      congr 1
      omega

set_option maxHeartbeats 1000000 in
/-- slices.IndexFunc: the first record of the key. -/
theorem index_any (u : Value) (base n Bk : Nat) (l : List Rc) (k : Int) (w : World) (hown : w.ownsRow base 34 2 u n (flat l)) (hl : l.length = n) (hn : n ≤ 1024) (hr : ∀ r ∈ l, Ur r) (bk : Boxed w Bk 24 (.int .u64 k)) :
    Calls Tryd.prog 61 #[u, .func (.func 52) #[] #[.pointer (some ⟨Bk, 0, none⟩)]] w fun e w' => (∃ i : Int, e = .returned (.int .i64 i) ∧ ((i = -1 ∧ ∀ r ∈ l, r.1 ≠ k) ∨ (∃ j x, i = ((j : Nat) : Int) ∧ l[j]? = some (k, x) ∧ ∀ q r, q < j → l[q]? = some r → r.1 ≠ k))) ∧ Ext w w' := by
  obtain ⟨sl, c, rfl⟩ := own_form hown
  have HQ := Lib.hid (qs_of_own hown hl (by omega) hr)
  have bc := bk.cell
  have Hl := Lib.hid hl
  clear hown hl hr
  go_enter Tryd.func61, Tryd.ntmps61
  go_wp2_with (fail)
  go_loopw [8] (fun i wr => ∃ (j : Nat), j ≤ n ∧ i = .int .i64 j ∧ Below w.heap.size w wr ∧ RowKit.Hid (∀ q r, q < j → l[q]? = some r → r.1 ≠ k)) (fun i _ => n - (intOf i).toNat)
  case atStart => exact ⟨0, by omega, rfl, Ext.refl w, Lib.hid (fun q r h => by omega)⟩
  case round =>
    obtain ⟨j, hj, rfl, hE, hN⟩ := hrel
    by_cases hlt : j < n
    · obtain ⟨p, x, hx, up, ux, ba, oa, rfl, e0, e1⟩ := (HQ.out.ext hE).get hlt
      have hjn : (j : Int) < n := by omega
      have HX := Lib.hid hx
      clear hx
      go_wp2_with (fail)
      refine (others1_any p x k Bk _ (Ext.cell hE bc)).mono ?_
      rintro e w1 ⟨rfl, rfl⟩
      by_cases hpk : p = k
      · subst hpk
        have hfin : RowKit.Hid (∃ x, l[j]? = some (p, x)) := Lib.hid ⟨x, HX.out⟩
        go_wp2_with (fail)
        go_ret
        exact ⟨⟨_, rfl, .inr ⟨j, x, rfl, HX.out, hN.out⟩⟩, Ext.alloc hE _⟩
      · have hb : (p == k) = false := by simpa using hpk
        have HK := Lib.hid hpk
        clear hpk
        go_wp2_with (fail)
        go_roundw
        case rel => exact ⟨j + 1, by omega, by go_num, Ext.alloc hE _, Lib.hid (fun q r h1 h2 => by
          by_cases e : q = j
          · subst e; rw [HX.out] at h2; cases h2; exact HK.out
          · exact hN.out q r (by omega) h2)⟩
        case measure => simp [intOf]; omega
    · obtain rfl : j = n := by omega
      go_wp2_with (fail)
      go_ret
      refine ⟨⟨_, rfl, .inl ⟨rfl, fun r hr => ?_⟩⟩, hE⟩
      obtain ⟨q, hq⟩ := List.mem_iff_getElem?.1 hr
      exact hN.out q r (by rw [← Hl.out]; exact (List.getElem?_eq_some_iff.1 hq).1) hq


theorem own_ext {w w' : World} {base : Nat} {e : TypeId} {size n : Nat} {v : Value} {xs : List Value} (h : w.ownsRow base e size v n xs) (E : Ext w w') : w'.ownsRow base e size v n xs := by
  refine ⟨h.1, ?_⟩
  rcases h.2 with h2 | ⟨g, cap, cur, e, hb, hg, r⟩
  · exact .inl h2
  · exact .inr ⟨g, cap, cur, e, hb, (E.block g (Array.getElem?_eq_some_iff.1 hg).1).trans hg, r⟩

def ne1 (k : Int) (r : Rc) : Bool := decide (r.1 ≠ k)
/-- How far the striking has come. -/
structure Strike (k : Int) (l cur : List Rc) (n i j : Nat) : Prop where
  len : cur.length = n
  done : cur.take i = (l.take j).filter (ne1 k)
  rest : cur.drop j = l.drop j
  rng : ∀ r ∈ cur, Ur r
theorem strike_start {k : Int} {l : List Rc} {n j : Nat} {x : Int} (hl : l.length = n) (hr : ∀ r ∈ l, Ur r) (hj : l[j]? = some (k, x)) (hb : ∀ q r, q < j → l[q]? = some r → r.1 ≠ k) : Strike k l l n j (j + 1) := by
  refine ⟨hl, ?_, rfl, hr⟩
  rw [take_snoc hj, List.filter_append, List.filter_cons_of_neg (by simp [ne1]), List.filter_nil, List.append_nil, List.filter_eq_self.2]
  intro r hr
  obtain ⟨q, hq⟩ := List.mem_iff_getElem?.1 hr
  rw [List.getElem?_take] at hq
  split at hq
  · exact decide_eq_true (hb q r (by assumption) hq)
  · cases hq
theorem Strike.at {k : Int} {l cur : List Rc} {n i j : Nat} (h : Strike k l cur n i j) : cur[j]? = l[j]? := by
  have e := congrArg (fun L : List Rc => L[0]?) h.rest
  simpa [List.getElem?_drop] using e
theorem Strike.skip {k : Int} {l cur : List Rc} {n i j : Nat} {x : Int} (h : Strike k l cur n i j) (hj : l[j]? = some (k, x)) : Strike k l cur n i (j + 1) := by
  refine ⟨h.len, ?_, ?_, h.rng⟩
  · rw [take_snoc hj, List.filter_append, List.filter_cons_of_neg (by simp [ne1]), List.filter_nil, List.append_nil]; exact h.done
  · have e := congrArg (List.drop 1) h.rest
    simpa [List.drop_drop, Nat.add_comm] using e
theorem Strike.keep {k : Int} {l cur : List Rc} {n i j : Nat} {p x : Int} (h : Strike k l cur n i j) (hij : i < j) (hjn : j < n) (hj : l[j]? = some (p, x)) (hp : p ≠ k) (hu : Ur (p, x)) : Strike k l (cur.set i (p, x)) n (i + 1) (j + 1) := by
  refine ⟨by rw [List.length_set]; exact h.len, ?_, ?_, fun r hr => ?_⟩
  · have hi : i < cur.length := by rw [h.len]; omega
    rw [take_snoc hj, List.filter_append, List.filter_cons_of_pos (by simp [ne1, hp]), List.filter_nil, ← h.done]
    rw [take_snoc (y := (p, x)) (by rw [List.getElem?_set_self hi]), List.take_set_of_le (Nat.le_refl _)]
  · rw [List.drop_set_of_lt (by omega)]
    have e := congrArg (List.drop 1) h.rest
    simpa [List.drop_drop, Nat.add_comm] using e
  · rcases List.mem_or_eq_of_mem_set hr with hr | rfl
    · exact h.rng r hr
    · exact hu
theorem Strike.end {k : Int} {l cur : List Rc} {n i : Nat} (h : Strike k l cur n i n) (hl : l.length = n) : cur.take i = l.filter (ne1 k) := by
  rw [h.done, List.take_of_length_le (by omega)]
theorem Strike.ilen {k : Int} {l cur : List Rc} {n i : Nat} (h : Strike k l cur n i n) (hl : l.length = n) (hi : i ≤ n) : (l.filter (ne1 k)).length = i := by
  rw [← h.end hl, List.length_take, h.len]; omega

set_option maxRecDepth 100000 in
set_option maxHeartbeats 2000000 in
/-- slices.DeleteFunc, of the records of a key. -/
theorem delete_any (u : Value) (base n Bk : Nat) (l : List Rc) (k : Int) (w : World) (hown : w.ownsRow base 34 2 u n (flat l)) (hl : l.length = n) (hn : n ≤ 1024) (hr : ∀ r ∈ l, Ur r) (bk : Boxed w Bk 24 (.int .u64 k)) :
    Calls Tryd.prog 51 #[u, .func (.func 52) #[] #[.pointer (some ⟨Bk, 0, none⟩)]] w fun e w' => ∃ u', e = .returned u' ∧ w'.ownsRow base 34 2 u' (l.filter (ne1 k)).length (flat (l.filter (ne1 k))) ∧ w.grownBy w' u.ownBlock := by
  have HI := Lib.hid (index_any u base n Bk l k w hown hl hn hr bk)
  have hown0 := Lib.hid hown
  have Hl := Lib.hid hl
  have Hr := Lib.hid hr
  obtain ⟨sl, cap, rfl⟩ := own_form hown
  have bkr := bk.not_row (by decide) hown
  have Hbk := Lib.hid bk
  clear hown hl hr bk
  go_enter Tryd.func51, Tryd.ntmps51
  go_wp2_with (fail)
  refine HI.out.mono ?_
  rintro e w1 ⟨⟨i, rfl, hi⟩, hE1⟩
  have hgr1 : w.grownBy w1 (Value.slice sl n cap).ownBlock := ⟨hE1.os, hE1.tape, hE1.output, hE1.size, fun q hq _ => hE1.block q hq⟩
  have hown1 := own_ext hown0.out hE1
  rcases hi with ⟨rfl, hno⟩ | ⟨j, x, rfl, hj, hb⟩
  · have hfl : RowKit.Hid (l.filter (ne1 k) = l) := Lib.hid (List.filter_eq_self.2 fun r hr => decide_eq_true (hno r hr))
    clear hno
    go_wp2_with (fail)
    go_ret
    refine ⟨_, rfl, ?_, hgr1⟩
    rw [hfl.out, Hl.out]; exact hown1
  · have hjn : j < n := by rw [← Hl.out]; exact (List.getElem?_eq_some_iff.1 hj).1
    have hst := Lib.hid (strike_start Hl.out Hr.out hj hb)
    have hjb : ((j : Int) == -1) = false := by simp
    rcases hown1.2 with ⟨e, hz⟩ | ⟨g, cap', cs, e, _, _⟩
    · omega
    cases e
    have hbg : Bk ≠ g := fun e => bkr (by rw [e]; rfl)
    have bk1 : Boxed w1 Bk 24 (.int .u64 k) := (hE1.block _ Hbk.out.lt).trans Hbk.out
    obtain ⟨hnc, hcm, hbg2⟩ := own_cap hown1
    clear hj hb HI bkr
    go_wp2_with (fail)
    go_loopw [5, 6] (fun a b wr => ∃ (i j : Nat) (cur : List Rc), i < j ∧ j ≤ n ∧ a = .int .i64 i ∧ b = .int .i64 j ∧ RowKit.Hid (Strike k l cur n i j) ∧ wr.ownsRow base 34 2 (.slice (some ⟨g, 0, none⟩) n cap) n (flat cur) ∧ w.grownBy wr (some g) ∧ Boxed wr Bk 24 (.int .u64 k)) (fun _ b _ => n - (intOf b).toNat)
    case atStart => exact ⟨j, j + 1, l, by omega, by omega, rfl, by go_num, hst, hown1, hgr1, bk1⟩
    case round =>
      clear hown1 hgr1 bk1 hst
      obtain ⟨i, j, cur, hij, hj, rfl, rfl, hst, hrow, hgr, kB⟩ := hrel
      by_cases hlt : j < n
      · have HQ := qs_of_own hrow hst.out.len (by omega) hst.out.rng
        obtain ⟨p, x, hx, up, ux, _, _, eg, e0, e1⟩ := HQ.get hlt
        cases eg
        have hxl : RowKit.Hid (l[j]? = some (p, x)) := Lib.hid (by rw [← hst.out.at]; exact hx)
        have hjm : (j : Int) < n := by omega
        have him : (i : Int) < n := by omega
        have cB := kB.cell
        rw [Nat.zero_add] at e0 e1
        obtain ⟨p2, x2, hx2, _, _, _, _, eg, f0, f1⟩ := HQ.get (k := i) (by omega)
        cases eg
        rw [Nat.zero_add] at f0 f1
        have z0 := own_frozen hrow (i * 2)
        have z1 := own_frozen hrow (i * 2 + 1)
        clear hx hx2 HQ
        go_wp2_with (fail)
        refine (others1_any p x k Bk _ (Ext.cell (Ext.new wr _) cB)).mono ?_
        rintro e w3 ⟨rfl, rfl⟩
        have hrow3 := (hrow.alloc (Rec2 p x)).alloc (Rec2 p x)
        have hE3 : Ext wr ((wr.alloc (Rec2 p x)).alloc (Rec2 p x)) := (Ext.new _ _).alloc _
        have hgr3 : w.grownBy ((wr.alloc (Rec2 p x)).alloc (Rec2 p x)) (some g) := grown_then hgr ⟨hE3.os, hE3.tape, hE3.output, hE3.size, fun q hq _ => hE3.block q hq⟩ (row := none) (fun q e => by cases e)
        have kB3 := (kB.alloc (Rec2 p x)).alloc (Rec2 p x)
        have d0 : ((wr.alloc (Rec2 p x)).alloc (Rec2 p x)).cell? ⟨wr.heap.size, 0, none⟩ = some (.int .u64 p) := (Ext.new _ _).cell (rec2_cells (World.alloc_heap_new wr (Rec2 p x))).1
        have d1 : ((wr.alloc (Rec2 p x)).alloc (Rec2 p x)).cell? ⟨wr.heap.size, 1, none⟩ = some (.int .u64 x) := (Ext.new _ _).cell (rec2_cells (World.alloc_heap_new wr (Rec2 p x))).2
        have f0' := hE3.cell f0
        have f1' := hE3.cell f1
        have z0' := (hE3.frozen f0).trans z0
        have z1' := (hE3.frozen f1).trans z1
        obtain ⟨Bv, hBv⟩ : ∃ Bv, wr.heap.size = Bv := ⟨_, rfl⟩
        have hgB : g ≠ Bv := by have := World.block_lt_of_cell? wr _ f0; simp at this; omega
        rw [hBv] at d0 d1 ⊢
        clear f0 f1 z0 z1 e0 e1 cB hBv hE3 hrow hgr kB
        generalize (wr.alloc (Rec2 p x)).alloc (Rec2 p x) = w3 at hrow3 hgr3 kB3 d0 d1 f0' f1' z0' z1' ⊢
        by_cases hpk : p = k
        · subst hpk
          have hst2 : RowKit.Hid (Strike p l cur n i (j + 1)) := Lib.hid (hst.out.skip hxl.out)
          go_wp2_with (fail)
          go_roundw
          case rel => exact ⟨i, j + 1, cur, by omega, by omega, rfl, by go_num, hst2, hrow3, hgr3, kB3⟩
          case measure => simp [intOf]; omega
        · have hb : (p == k) = false := by simpa using hpk
          have hst2 : RowKit.Hid (Strike k l (cur.set i (p, x)) n (i + 1) (j + 1)) := Lib.hid (hst.out.keep hij hlt hxl.out hpk ⟨up, ux⟩)
          have hrow4 := Lib.hid (own_set hrow3 (i := i) (by omega) p x)
          have hgr4 := Lib.hid (grown_then (grown_then hgr3 (grown_set g (i * 2) (.int .u64 p)) (fun q e => by cases e; exact .inr rfl)) (grown_set g (i * 2 + 1) (.int .u64 x)) (fun q e => by cases e; exact .inr rfl))
          have kB4 : RowKit.Hid (Boxed ((w3.setCell ⟨g, i * 2, none⟩ (.int .u64 p)).setCell ⟨g, i * 2 + 1, none⟩ (.int .u64 x)) Bk 24 (.int .u64 k)) := Lib.hid ((kB3.kept (grown_set g _ _) (fun e => hbg (by cases e; rfl))).kept (grown_set g _ _) (fun e => hbg (by cases e; rfl)))
          clear hpk
          go_wp2_with (fail)
          go_roundw
          case rel => exact ⟨i + 1, j + 1, cur.set i (p, x), by omega, by omega, by go_num, by go_num, hst2, hrow4.out, hgr4.out, kB4.out⟩
          case measure => simp [intOf]; omega
      · obtain rfl : j = n := by omega
        obtain ⟨w5, hcl, hrow5, hgr5⟩ := clear_own hrow hst.out.len hij
        have hsl1 : ∀ W, (Instr.sliceAt 32 (.slice (some ⟨g, 0, none⟩) j cap) (some (.int .i64 (i : Int))) none none).run Tryd.prog W = .ok (.slice (some ⟨g, i * 2, none⟩) (j - i) (cap - i)) W := fun W => by
          rw [slice_lo (some ⟨g, 0, none⟩) j cap i (by omega) W]
          unfold cutAt
          rw [if_neg (by omega), Option.map_some, add_is, Nat.zero_add]
        have hsl2 := slice_hi (some ⟨g, 0, none⟩) j cap i (by omega)
        have hfin : RowKit.Hid (w5.ownsRow base 34 2 (.slice (some ⟨g, 0, none⟩) i cap) (l.filter (ne1 k)).length (flat (l.filter (ne1 k)))) := Lib.hid (by rw [hst.out.ilen Hl.out (by omega), ← hst.out.end Hl.out]; exact hrow5)
        have hgf := Lib.hid (grown_then hgr hgr5 (fun q e => by cases e; exact .inr rfl))
        obtain ⟨M1, eM1⟩ : ∃ M1, RowKit.Hid (j - i = M1) := ⟨_, Lib.hid rfl⟩
        obtain ⟨C1, eC1⟩ : ∃ C1, RowKit.Hid (cap - i = C1) := ⟨_, Lib.hid rfl⟩
        rw [eM1.out, eC1.out] at hsl1
        rw [eM1.out, eC1.out] at hcl
        clear hrow5 hgr5 hrow hgr kB
        have Hsl1 := Lib.hid hsl1
        have Hsl2 := Lib.hid hsl2
        have Hcl := Lib.hid hcl
        go_wp2_with (fail)
        go_ret
        exact ⟨_, rfl, hfin.out, hgf.out⟩

end Go.Proofs.YtbpgnnogpcppdaaDoor
