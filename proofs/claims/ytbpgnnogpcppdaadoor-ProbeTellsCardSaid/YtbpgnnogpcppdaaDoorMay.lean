/-
  What mayStand returns: whether records may stand in one table of that width. Condition: the records are there.
-/
import Derived.Test.YtbpgnnogpcppdaaDoorRefBuild
import Derived.Maps.Own
import Derived.Maps.OwnOps
import Derived.WalkArith
namespace Go.Proofs.YtbpgnnogpcppdaaDoor
open Go.RowKit (Below intOf)
open Go.Maps (IsMap isMap_empty atKey_put_same atKey_put_other)

theorem u64_wf {x : Int} (h : U64 x) : (Lit.int .u64 x).wf = true := WalkArith.wf_u64 (by unfold U64 at h; omega)
/-- The map of the keys so far. -/
def seenD {H : Type} (ks : List Int) : DataW H := ks.foldl (fun D k => D.put (.int .u64 k) (.lit (.bool true))) (.map [])
theorem seenD_snoc {H : Type} (ks : List Int) (k : Int) : seenD (H := H) (ks ++ [k]) = (seenD ks).put (.int .u64 k) (.lit (.bool true)) := by simp [seenD]
theorem seenD_is {H : Type} (ks : List Int) : IsMap (seenD (H := H) ks) := by
  unfold seenD
  have : ∀ (ks : List Int) (D : DataW H), IsMap D → IsMap (ks.foldl (fun D k => D.put (.int .u64 k) (.lit (.bool true))) D) := fun ks => by
    induction ks with
    | nil => intro D h; exact h
    | cons y r ih => intro D h; exact ih _ (h.put _ _)
  exact this ks _ isMap_empty
theorem key_lit (x : Int) : WideAt.IsKeyLit (.int .u64 x) := by simp [WideAt.IsKeyLit]
theorem seenD_at {H : Type} (p : Int) : ∀ (n : Nat) (ks : List Int), ks.length = n → (seenD (H := H) ks).atKey (.int .u64 p) (.lit (.bool false)) = .lit (.bool (decide (p ∈ ks)))
  | 0, ks, h => by
    have : ks = [] := List.eq_nil_of_length_eq_zero h
    subst this; rfl
  | n + 1, ks, h => by
    obtain ⟨r, y, rfl⟩ : ∃ r y, ks = r ++ [y] := ⟨ks.dropLast, ks.getLast (by intro e; rw [e] at h; cases h), (List.dropLast_concat_getLast _).symm⟩
    have ih := seenD_at (H := H) p n r (by simpa using h)
    rw [seenD_snoc]
    by_cases e : y = p
    · subst e
      rw [atKey_put_same (seenD_is r) (key_lit _)]; simp
    · have hne : Lit.int .u64 p ≠ Lit.int .u64 y := fun he => e (by injection he with _ he; exact he.symm)
      rw [atKey_put_other hne, ih]
      have e' : p ≠ y := fun h => e h.symm
      simp [e']
theorem plainElem_bool_inv {H : Type} {P : Program} {e : TypeId} (he : P.underlying e = some .bool) {v : Value} {b : Bool} {ps : List MemPlace} (h : plainElem (H := H) P e v = some (.lit (.bool b), ps)) : v = .bool b := by
  unfold plainElem at h
  rw [he] at h
  cases v <;> simp at h
  rw [h.1]
theorem map_ext {H : Type} {w w' : World} {b n : Nat} {R : Value → Option (DataW H × List MemPlace)} {D : DataW H} (h : w.ownsMap Tryd.prog 24 R b n D) (e : Ext w w') : w'.ownsMap Tryd.prog 24 R b n D := by
  have hl := h.lt
  obtain ⟨es, clock, hb, Ft, hs, hD⟩ := h
  exact ⟨es, clock, (Below.block e b hl).trans hb, Ft, hs, hD⟩
theorem seen_look {w : World} {b n : Nat} {ks : List Int} (h : w.ownsMap Tryd.prog 24 (plainElem (H := Unit) Tryd.prog 4) b n (seenD ks)) {p : Int} (hp : U64 p) :
    (Instr.lookup 78 (.map (some b)) (.int .u64 p) false).run Tryd.prog w = .ok (.bool (decide (p ∈ ks))) w := by
  obtain ⟨v, ps, hr, hv⟩ := h.lookup (t := 78) (Maps.int_keyed Tryd.underlying24) Tryd.underlying78 (Tryd.zeroValue4 w) (plainElem_bool Tryd.underlying4 false) (Maps.keyOf_int_mk Tryd.underlying24 (u64_wf hp))
  rw [seenD_at p _ ks rfl] at hv
  rw [hr, plainElem_bool_inv Tryd.underlying4 hv]

theorem mem_keys {l : List Rc} {j : Nat} {p : Int} : p ∈ (l.take j).map (·.1) ↔ ∃ k y, k < j ∧ l[k]? = some y ∧ y.1 = p := by
  rw [List.mem_map]
  constructor
  · rintro ⟨y, hy, rfl⟩
    obtain ⟨k, hk⟩ := List.mem_iff_getElem?.1 hy
    rw [List.getElem?_take] at hk
    split at hk
    · exact ⟨k, y, by assumption, hk, rfl⟩
    · cases hk
  · rintro ⟨k, y, hk, hy, rfl⟩
    exact ⟨y, List.mem_iff_getElem?.2 ⟨k, by rw [List.getElem?_take, if_pos hk]; exact hy⟩, rfl⟩
theorem QS.grown {w w' : World} {sl : Option Addr} {n c : Nat} {ys : List Rc} {b : Nat} (h : QS w sl n c ys) (g : w.grownBy w' (some b)) (hne : ∀ g o, sl = some ⟨g, o, none⟩ → g ≠ b) : QS w' sl n c ys :=
  ⟨h.1, h.2.1, h.2.2.1, h.2.2.2.1, fun j y hy => by
    obtain ⟨hu, b', o, hs, hc, hd⟩ := h.2.2.2.2 j y hy
    have hn : some b' ≠ some b := fun e => hne b' o hs (by cases e; rfl)
    exact ⟨hu, b', o, hs, g.cell hc hn, g.cell hd hn⟩⟩

set_option maxRecDepth 100000 in
set_option maxHeartbeats 2000000 in
theorem may_any (v : Int) (s : Option Addr) (m c : Nat) (l : List Rc) (r : Bool) (w : World) (hQ : QS w s m c l) (hr : RowKit.Hid (r = mayS v l)) :
    Calls Tryd.prog 41 #[.int .i64 v, .slice s m c] w fun e w' => e = .returned (.bool r) ∧ Ext w w' := by
  have hm := hQ.le
  have hmm := @RowKit.run_makeMap Tryd.prog
  have hm0 : RowKit.Hid ((w.alloc (.map #[] 0)).ownsMap Tryd.prog 24 (plainElem (H := Unit) Tryd.prog 4) w.heap.size 0 (seenD [])) := Lib.hid (World.ownsMap_made w Tryd.prog 24 (plainElem (H := Unit) Tryd.prog 4))
  have HQ := Lib.hid hQ
  clear hQ
  go_enter Tryd.func41, Tryd.ntmps41
  go_wp2_with (fail)
  clear hmm
  go_loopw [11] (fun i wr => ∃ (j : Nat), j ≤ m ∧ i = .int .i64 j ∧ RowKit.Hid (wr.ownsMap Tryd.prog 24 (plainElem (H := Unit) Tryd.prog 4) w.heap.size j (seenD ((l.take j).map (·.1)))) ∧ RowKit.Hid (Fine v l j) ∧ Below w.heap.size w wr) (fun i _ => m - (intOf i).toNat)
  case atStart => exact ⟨0, by omega, rfl, hm0, Lib.hid (fun i p x h => by omega), Ext.new w _⟩
  case round =>
    obtain ⟨j, hj, rfl, hmap, hF, hE⟩ := hrel
    by_cases hlt : j < m
    · obtain ⟨p, x, hx, up, ux, ba, oa, rfl, e0, e1⟩ := (HQ.out.ext hE).get hlt
      have hjm : (j : Int) < m := by omega
      have HX := Lib.hid hx
      have hma := map_ext hmap.out (Ext.new wr (.cells #[.int .u64 p, .int .u64 x] 34))
      have hlk := seen_look hma up
      have Hma := Lib.hid hma
      clear hx hma
      by_cases hp0 : p = 0
      · subst hp0
        have hfin : RowKit.Hid (r = false) := Lib.hid (by rw [hr.out, mayS_zero HX.out rfl])
        go_wp2_with (fail)
        go_ret
        exact ⟨ret_bool hfin.out.symm, Ext.alloc hE _⟩
      have hpb : (p == 0) = false := by simpa using hp0
      have Hp := Lib.hid hp0
      clear hp0
      by_cases hin : p ∈ (l.take j).map (·.1)
      · rw [decide_eq_true hin] at hlk
        have hfin : RowKit.Hid (r = false) := Lib.hid (by
          obtain ⟨k, y, hk, hy, e⟩ := mem_keys.1 hin
          rw [hr.out, mayS_twice HX.out hy hk e])
        clear hin
        go_wp2_with (fail)
        go_ret
        exact ⟨ret_bool hfin.out.symm, Ext.alloc hE _⟩
      rw [decide_eq_false hin] at hlk
      have hnot : RowKit.Hid (∀ k y, k < j → l[k]? = some y → y.1 ≠ p) := Lib.hid (fun k y h1 h2 e => hin (mem_keys.2 ⟨k, y, h1, h2, e⟩))
      clear hin
      by_cases hthick : v = 1 ∧ x ≠ 0
      · obtain ⟨rfl, hx0⟩ := hthick
        have hxb : (x != 0) = true := by simpa using hx0
        have hfin : RowKit.Hid (r = false) := Lib.hid (by rw [hr.out, mayS_thick HX.out hx0])
        clear hx0
        go_wp2_with (fail)
        go_ret
        exact ⟨ret_bool hfin.out.symm, Ext.alloc hE _⟩
      have hth : RowKit.Hid (v = 1 → x = 0) := Lib.hid (fun e => Classical.byContradiction fun h => hthick ⟨e, h⟩)
      have hst : RowKit.Hid (seenD (H := Unit) ((l.take (j + 1)).map (·.1)) = (seenD ((l.take j).map (·.1))).put (.int .u64 p) (.lit (.bool true))) := Lib.hid (by rw [take_snoc HX.out, List.map_append, List.map_singleton, seenD_snoc])
      have hwf := u64_wf up
      have hF2 : RowKit.Hid (Fine v l (j + 1)) := Lib.hid (fine_step hF.out HX.out Hp.out hth.out hnot.out)
      have hm2 := Hma.out
      have hbw : RowKit.Hid (ba ≠ w.heap.size) := Lib.hid (by
        obtain ⟨_, _, _, _, _, b', o', e', hc', _⟩ := HQ.out.get (k := j) (by omega)
        cases e'
        have := World.block_lt_of_cell? w _ hc'
        simp at this; omega)
      by_cases hv1 : v = 1
      · subst hv1
        obtain rfl : x = 0 := hth.out rfl
        clear hthick
        go_wp2_with (at_mapUpdate; refine wpList_mapUpdate_own _ rfl _ _ _ 78 rfl 24 4 (Maps.int_keyed Tryd.underlying24) Tryd.underlying78 _ w.heap.size j _ rfl hm2 (by unfold maxLen; omega) _ _ _ rfl rfl (Maps.keyOf_int_mk Tryd.underlying24 hwf) _ [] (plainElem_bool Tryd.underlying4 true) ?_; intro w1 hown1 hgrow1)
        go_roundw
        case rel => exact ⟨j + 1, by omega, by go_num, Lib.hid (by rw [hst.out]; exact hown1), hF2, Ext.grown (Ext.alloc hE _) hgrow1 (fun j e => by cases e; exact Nat.le_refl _)⟩
        case measure => simp [intOf]; omega
      · have hvb : (v == 1) = false := by simpa using hv1
        clear hthick hv1
        go_wp2_with (at_mapUpdate; refine wpList_mapUpdate_own _ rfl _ _ _ 78 rfl 24 4 (Maps.int_keyed Tryd.underlying24) Tryd.underlying78 _ w.heap.size j _ rfl hm2 (by unfold maxLen; omega) _ _ _ rfl rfl (Maps.keyOf_int_mk Tryd.underlying24 hwf) _ [] (plainElem_bool Tryd.underlying4 true) ?_; intro w1 hown1 hgrow1)
        go_roundw
        case rel => exact ⟨j + 1, by omega, by go_num, Lib.hid (by rw [hst.out]; exact hown1), hF2, Ext.grown (Ext.alloc hE _) hgrow1 (fun j e => by cases e; exact Nat.le_refl _)⟩
        case measure => simp [intOf]; omega
    · obtain rfl : j = m := by omega
      have hfin : RowKit.Hid (r = true) := Lib.hid (by rw [hr.out, fine_all HQ.out.len hF.out])
      go_wp2_with (fail)
      go_ret
      exact ⟨ret_bool hfin.out.symm, hE⟩

end Go.Proofs.YtbpgnnogpcppdaaDoor
