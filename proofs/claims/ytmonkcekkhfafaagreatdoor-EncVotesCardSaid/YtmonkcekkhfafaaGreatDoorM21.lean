/-
  Parts of a proof, one behind the other: PrbRefAhead, PrbShape, PrbRefRecs, PrbRefLaid, PrbRefBuild, PrbRefCalls, PrbRefFind, PrbIter, PrbRecs, PrbColl. Each says its own conditions.
-/
import Derived.Test.YtmonkcekkhfafaaGreatDoorM20
import Derived.RangeFuncNested
import Derived.RangeFuncBound
import Derived.RangeFuncCalls
import Derived.RangeFuncLeaves
import Derived.Shelf.Abstract
import Derived.Shelf.RegionOpen
import Derived.WalkKit
import Derived.OwnWalkIn
import Derived.TacticsInMore
import Derived.LoopNIn
import Derived.LoopIn
import Derived.Laws.IdiomCopy

/- PrbRefAhead:
  What the document's own ahead returns: the records, in order. Condition: the records are there.
-/
namespace Go.Proofs.YtmonkcekkhfafaaGreatDoor.Prb
open Go.RowKit (Below intOf)

/-- A slice that was laid since. -/
def Fresh (base : Nat) (sl : Option Addr) : Prop := ∀ b o, sl = some ⟨b, o, none⟩ → base ≤ b
theorem Fresh.mono {b1 b2 : Nat} {sl : Option Addr} (h : Fresh b2 sl) (hb : b1 ≤ b2) : Fresh b1 sl := fun b o e => Nat.le_trans hb (h b o e)
theorem own_fresh {W : World} {base n c : Nat} {e : TypeId} {size : Nat} {sl : Option Addr} {xs : List Value} (h : W.ownsRow base e size (.slice sl n c) n xs) : Fresh base sl := fun b o hs => by
  rcases h.2 with ⟨e1, _⟩ | ⟨g, cap, cur, e1, hb, _⟩
  · cases e1; cases hs
  · cases e1; cases hs; exact hb
end Go.Proofs.YtmonkcekkhfafaaGreatDoor.Prb

/- PrbShape:
  What the document's own shape returns: how many slots words have; 0, if they are no table's. Condition: the words' number.
-/
namespace Go.Proofs.YtmonkcekkhfafaaGreatDoor.Prb
open Go.RowKit (Below intOf)

def shapeN (m : Nat) (v : Int) : Int := if (v = 1 ∨ v = 2) ∧ m % v.toNat = 0 ∧ 1 ≤ m / v.toNat ∧ m / v.toNat ≤ 1024 then ((m / v.toNat : Nat) : Int) else 0

theorem quo_2 (m : Nat) : (m : Int).tdiv 2 = ((m / 2 : Nat) : Int) := by rw [Int.tdiv_eq_ediv_of_nonneg (by omega)]; omega
theorem rem_2 (m : Nat) : (m : Int).tmod 2 = ((m % 2 : Nat) : Int) := by rw [Int.tmod_eq_emod_of_nonneg (by omega)]; omega

end Go.Proofs.YtmonkcekkhfafaaGreatDoor.Prb

/- PrbRefRecs:
  What the document's own records returns: those that have a key, by their keys, rising. Condition: the words are there, those of a table's slots.
-/
namespace Go.Proofs.YtmonkcekkhfafaaGreatDoor.Prb
open Go.RowKit (Below intOf)

/-- What has been put in order of the first j slots. -/
structure SomeF (t : List Rc) (j : Nat) (ys : List Rc) : Prop where
  perm : ys.Perm ((t.take j).filter isK)
  pair : ys.Pairwise fun a b => leK a b = true
theorem slot_1 {t : List Rc} (ht : Thin 1 t) {j : Nat} {p : Int} (h : (flatW 1 t)[j]? = some p) : t[j]? = some (p, 0) := by
  rw [flat_1, List.getElem?_map] at h
  obtain ⟨r, hr, rfl⟩ := Option.map_eq_some_iff.1 h
  rw [hr, ← ht rfl r (List.mem_of_getElem? hr)]
theorem slot_2 {t : List Rc} {j : Nat} {p x : Int} (h : (flatW 2 t)[j * 2]? = some p) (g : (flatW 2 t)[j * 2 + 1]? = some x) : t[j]? = some (p, x) := by
  rw [flat_20] at h
  obtain ⟨r, hr, rfl⟩ := Option.map_eq_some_iff.1 h
  rw [flat_21, hr] at g
  rw [hr]; cases g; rfl

end Go.Proofs.YtmonkcekkhfafaaGreatDoor.Prb

/- PrbRefLaid:
  What the document's own laid returns: the table of records. Conditions: the records are there, they may stand in one table, and it has room.
-/
namespace Go.Proofs.YtmonkcekkhfafaaGreatDoor.Prb
open Go.RowKit (Below intOf)

theorem slot_is (k : Int) (n : Nat) (hn : 1 ≤ n) : slot k (n : Int) = ((slotN k n : Nat) : Int) := by
  have h := slot_bd k n (by omega)
  unfold slotN slot at *
  rw [if_neg (by omega)] at h ⊢
  omega
theorem flat_zeros1 (n : Nat) : flatW 1 (List.replicate n (0, 0)) = List.replicate (n * 1) 0 := by
  rw [flat_1, List.map_replicate, Nat.mul_one]
theorem flat_zeros2 (n : Nat) : flatW 2 (List.replicate n (0, 0)) = List.replicate (n * 2) 0 := by
  induction n with
  | zero => rfl
  | succ n ih =>
    rw [List.replicate_succ, flatW_cons, ih, show (n + 1) * 2 = n * 2 + 1 + 1 by omega, List.replicate_succ, List.replicate_succ]; rfl
/-- How far a slot is from the first one. -/
def offs (S n : Nat) (a : Int) : Nat := if S ≤ a.toNat then a.toNat - S else a.toNat + n - S
end Go.Proofs.YtmonkcekkhfafaaGreatDoor.Prb

/- PrbRefBuild:
  What the document's own Build returns. Condition: the records are there.
-/
namespace Go.Proofs.YtmonkcekkhfafaaGreatDoor.Prb
open Go.RowKit (Below intOf)

theorem mayS_zero {v : Int} {l : List Rc} {i : Nat} {p x : Int} (h : l[i]? = some (p, x)) (hp : p = 0) : mayS v l = false := by
  have : valid l = false := by
    unfold valid
    rw [Bool.and_eq_false_iff]
    exact .inl (List.all_eq_false.2 ⟨(p, x), List.mem_of_getElem? h, by simpa using hp⟩)
  unfold mayS; rw [this]; rfl
theorem mayS_thick {l : List Rc} {i : Nat} {p x : Int} (h : l[i]? = some (p, x)) (hx : x ≠ 0) : mayS 1 l = false := by
  have : thinB 1 l = false := by
    unfold thinB
    rw [Bool.or_eq_false_iff]
    exact ⟨by simp, List.all_eq_false.2 ⟨(p, x), List.mem_of_getElem? h, by simpa using hx⟩⟩
  unfold mayS; rw [this, Bool.and_false]
theorem mayS_twice {v : Int} {l : List Rc} {i k : Nat} {a b : Rc} (hi : l[i]? = some a) (hk : l[k]? = some b) (hki : k < i) (e : b.1 = a.1) : mayS v l = false := by
  have : valid l = false := by
    unfold valid
    rw [Bool.and_eq_false_iff]
    refine .inr (decide_eq_false fun hN => ?_)
    obtain ⟨h1, e1⟩ := List.getElem?_eq_some_iff.1 hi
    obtain ⟨h2, e2⟩ := List.getElem?_eq_some_iff.1 hk
    have := List.pairwise_iff_getElem.1 hN k i (by simpa using h2) (by simpa using h1) hki
    simp [e1, e2] at this
    exact this e
  unfold mayS; rw [this]; rfl
/-- The first j may stand in one table. -/
def Fine (v : Int) (l : List Rc) (j : Nat) : Prop := ∀ i p x, i < j → l[i]? = some (p, x) → p ≠ 0 ∧ (v = 1 → x = 0) ∧ ∀ k y, k < i → l[k]? = some y → y.1 ≠ p
theorem fine_all {v : Int} {l : List Rc} {n : Nat} (hn : l.length = n) (h : Fine v l n) : mayS v l = true := by
  have g : ∀ {i : Nat} {r : Rc}, l[i]? = some r → r.1 ≠ 0 ∧ (v = 1 → r.2 = 0) ∧ ∀ k y, k < i → l[k]? = some y → y.1 ≠ r.1 := fun {i r} hi => h i r.1 r.2 (by rw [← hn]; exact (List.getElem?_eq_some_iff.1 hi).1) hi
  unfold mayS
  rw [Bool.and_eq_true]
  refine ⟨?_, ?_⟩
  · unfold valid
    rw [Bool.and_eq_true, List.all_eq_true, decide_eq_true_eq]
    refine ⟨fun r hr => ?_, ?_⟩
    · obtain ⟨i, hi⟩ := List.mem_iff_getElem?.1 hr
      simpa using (g hi).1
    · unfold List.Nodup
      rw [List.pairwise_iff_getElem]
      intro a b ha hb hab e
      simp at ha hb
      refine (g (List.getElem?_eq_getElem hb)).2.2 a l[a] hab (List.getElem?_eq_getElem ha) ?_
      simpa using e
  · unfold thinB
    rw [Bool.or_eq_true, decide_eq_true_eq, List.all_eq_true]
    by_cases e : v = 1
    · refine .inr fun r hr => ?_
      obtain ⟨i, hi⟩ := List.mem_iff_getElem?.1 hr
      simpa using (g hi).2.1 e
    · exact .inl e
theorem fine_step {v : Int} {l : List Rc} {j : Nat} {p x : Int} (h : Fine v l j) (hj : l[j]? = some (p, x)) (hp : p ≠ 0) (hx : v = 1 → x = 0) (hk : ∀ k y, k < j → l[k]? = some y → y.1 ≠ p) : Fine v l (j + 1) := fun i q z hi hq => by
  by_cases e : i = j
  · subst e; rw [hj] at hq; cases hq; exact ⟨hp, hx, hk⟩
  · exact h i q z (by omega) hq

theorem build_arg {n v : Int} {l : List Rc} (h : ¬ (1 ≤ n ∧ n ≤ 1024 ∧ (v = 1 ∨ v = 2)) ∨ mayS v l = false) : buildS n v l = ([], 1) := by
  unfold buildS
  rw [if_neg]
  rintro ⟨h1, h2, h3, h4⟩
  rcases h with h | h
  · exact h ⟨h1, h2, h3⟩
  · rw [h] at h4; cases h4
theorem build_full {n v : Int} {l : List Rc} (h1 : 1 ≤ n) (h2 : n ≤ 1024) (hv : v = 1 ∨ v = 2) (hm : mayS v l = true) (hf : n < l.length) : buildS n v l = ([], 11) := by
  unfold buildS; rw [if_pos ⟨h1, h2, hv, hm⟩, if_pos hf]
theorem build_ok {n v : Nat} {l : List Rc} (h1 : 1 ≤ n) (h2 : n ≤ 1024) (hv : Wd v) (hm : mayS v l = true) (hf : l.length ≤ n) : buildS n v l = (flatW v (tableOf n l), 0) := by
  unfold buildS; rw [if_pos ⟨by omega, by omega, by unfold Wd at hv; omega, hm⟩, if_neg (by omega)]; rfl
theorem WE.none {p : List Int × Int} {e : Int} (h : p = ([], e)) {w w' : World} (hE : Ext w w') : WE p w (.returned (.tuple #[.slice none 0 0, .int .i64 e])) w' := by
  subst h; exact ⟨hE, Option.none, 0, 0, rfl, WS.empty _ _ _ (by omega)⟩
theorem WE.some {p : List Int × Int} {e : Int} {xs : List Int} (h : p = (xs, e)) {w w' : World} {sl : Option Addr} {n c : Nat} (hE : Ext w w') (hS : WS w' sl n c xs) : WE p w (.returned (.tuple #[.slice sl n c, .int .i64 e])) w' := by
  subst h; exact ⟨hE, sl, n, c, rfl, hS⟩
theorem may_good {v : Nat} {l : List Rc} (hr : ∀ r ∈ l, Ur r) (h : mayS v l = true) : Good l ∧ Thin v l := by
  unfold mayS at h
  rw [Bool.and_eq_true, valid_good hr, thin_B] at h
  exact h

end Go.Proofs.YtmonkcekkhfafaaGreatDoor.Prb

/- PrbRefCalls:
  What the document's own Right, Find, List, Put and Del return. Conditions: the words are there; the integers' bounds.
-/
namespace Go.Proofs.YtmonkcekkhfafaaGreatDoor.Prb
open Go.RowKit (Below intOf)

/-- The words are a table's, or they are none. -/
theorem right_or {s : Option Addr} {m c : Nat} {xs : List Int} {v : Int} {w : World} (hS : WS w s m c xs) : (¬ Shape xs v ∧ rightS xs v = false) ∨ (∃ u : Nat, v = u ∧ Wd u ∧ Shape xs u ∧ xs = flatW u (slotsW u xs) ∧ Thin u (slotsW u xs) ∧ (slotsW u xs).length = m / u ∧ 1 ≤ m / u ∧ m / u ≤ 1024 ∧ (∀ r ∈ slotsW u xs, Ur r) ∧ rightS xs u = rightT (slotsW u xs)) := by
  by_cases h : Shape xs v
  · obtain ⟨u, rfl, hu, hx, ht, hl, hl2, h1, h2⟩ := shape_parts h
    rw [hS.len] at hl
    refine .inr ⟨u, rfl, hu, h, hx, ht, hl, by omega, by omega, slotsW_rng hS.u64, ?_⟩
    unfold rightS
    rw [decide_eq_true h]; rfl
  · exact .inl ⟨h, by unfold rightS; rw [decide_eq_false h]; rfl⟩

end Go.Proofs.YtmonkcekkhfafaaGreatDoor.Prb

/- PrbRefFind:
  What the document's own Find, others, Put and Del return. Conditions: the words and the records are there; the integers' bounds.
-/
namespace Go.Proofs.YtmonkcekkhfafaaGreatDoor.Prb
open Go.RowKit (Below intOf)

/-- A call that answers an int and a bool. -/
def NB (p : Int × Bool) (w : World) (e : Ending) (w' : World) : Prop := Ext w w' ∧ e = .returned (.tuple #[.int .i64 p.1, .bool p.2])
theorem NB.mk {p : Int × Bool} {a : Int} {b : Bool} (h : p = (a, b)) {w w' : World} (hE : Ext w w') : NB p w (.returned (.tuple #[.int .i64 a, .bool b])) w' := by subst h; exact ⟨hE, rfl⟩






end Go.Proofs.YtmonkcekkhfafaaGreatDoor.Prb

/- PrbIter:
  What the iterator that round makes hands to whatever loop body: each slot once, from the first one on, round and round, and what stands there. Conditions: the words are there; a round that goes on leaves them, and the iterator's own boxes, as they were.
-/
namespace Go.Proofs.YtmonkcekkhfafaaGreatDoor.Prb
open Go.RowKit Go.Shelf

/-- What a round keeps: what lay, and the iterator's boxes. -/
structure Keeps (n₀ B0 B1 B2 : Nat) (v0 v1 v2 : Value) (W W' : World) : Prop where
  below : Below n₀ W W'
  k0 : Boxed W B0 27 v0 → Boxed W' B0 27 v0
  k1 : Boxed W B1 3 v1 → Boxed W' B1 3 v1
  k2 : Boxed W B2 3 v2 → Boxed W' B2 3 v2
theorem Keeps.trans {n₀ B0 B1 B2 : Nat} {v0 v1 v2 : Value} {A B C : World} (h : Keeps n₀ B0 B1 B2 v0 v1 v2 A B) (g : Keeps n₀ B0 B1 B2 v0 v1 v2 B C) : Keeps n₀ B0 B1 B2 v0 v1 v2 A C :=
  ⟨h.below.trans g.below, fun x => g.k0 (h.k0 x), fun x => g.k1 (h.k1 x), fun x => g.k2 (h.k2 x)⟩
theorem Keeps.put {n₀ B0 B1 B2 : Nat} {v0 v1 v2 : Value} {w : World} (hn : n₀ ≤ w.heap.size) (W : World) (l : Nat) (o o' : Obj) (hl : w.heap.size ≤ l) (h : W.heap[l]? = some o) (hc : o.isCells = false) (hw : o.isWalk = false) : Keeps n₀ B0 B1 B2 v0 v1 v2 W (W.putObj l o') :=
  have k : ∀ {B : Nat} {t : TypeId} {v : Value}, Boxed W B t v → Boxed (W.putObj l o') B t v := fun {B t v} hb => hb.kept (grownBy_putObj' W l o') (fun e => by
    injection e with e; subst e; unfold Boxed at hb; rw [h] at hb; cases hb; cases hc)
  ⟨belowK_b hn W l o o' hl h hc hw, k, k, k⟩

/-- A slot of n. -/
abbrev At (n : Nat) := { i : Nat // i < n }
abbrev plc {n : Nat} (l : List (At n)) : List Nat := l.map (·.1)
def encs (t : List Rc) (n : Nat) (x : At n) : Array Value := #[.int .i64 x.1, .agg #[.int .u64 (at' t x.1).1, .int .u64 (at' t x.1).2]]
/-- The first k slots of the way. -/
def way (f n k : Nat) : List Nat := (List.range k).map fun i => (f + i) % n
theorem way_succ (f n k : Nat) : way f n (k + 1) = way f n k ++ [(f + k) % n] := by unfold way; rw [List.range_succ, List.map_append]; rfl
theorem way_len (f n k : Nat) : (way f n k).length = k := by unfold way; simp

theorem round_any (s : Option Addr) (m c : Nat) (v f : Int) (w : World) : Calls Tryz.prog 84 #[.slice s m c, .int .i64 v, .int .i64 f] w fun e w' =>
    e = .returned (.func (.func 113) #[] #[.pointer (some ⟨w.heap.size, 0, none⟩), .pointer (some ⟨w.heap.size + 1, 0, none⟩), .pointer (some ⟨w.heap.size + 1 + 1, 0, none⟩)]) ∧
    w' = ((w.alloc (.cells #[.slice s m c] 27)).alloc (.cells #[.int .i64 v] 3)).alloc (.cells #[.int .i64 f] 3) := by
  go_enter Tryz.func84, Tryz.ntmps84
  go_wp2
  go_ret
  exact ⟨rfl, rfl⟩

theorem arr34 : Tryz.prog.underlying 80 = some (.array (Tryz.prog.arrayLen 80) (Tryz.prog.elem 80)) := by kernel_rfl
theorem slice_arr (b : Nat) (W : World) : (Instr.sliceAt 80 (.pointer (some ⟨b, 0, none⟩)) none none none).run Tryz.prog W = .ok (.slice (some ⟨b, 0, none⟩) 2 2) W := by
  have h1 : Tryz.prog.arrayLen 80 = 2 := by kernel_rfl
  have h2 : Tryz.prog.elem 80 = 26 := by kernel_rfl
  rw [run_sliceAt_array_all _ _ _ arr34, h1, h2, Tryz.sizeOf26]
  simp [Result.andThen, slicedAt, Addr.add]
theorem slice_lo1 (b o m c i : Nat) (h : i ≤ m) (hc : i < c) (w : World) : (Instr.sliceAt 27 (.slice (some ⟨b, o, none⟩) m c) (some (.int .i64 (i : Int))) none none).run Tryz.prog w = .ok (.slice (some ⟨b, o + i, none⟩) (m - i) (c - i)) w := by
  rw [run_sliceAt_slice _ _ _ _ _ _ elem23, run_slice_l _ _ _ _ _ elem23 _ _ (by omega) (by omega), elem23_is, Tryz.sizeOf26]
  simp only [Result.andThen, sliced, Int.toNat_natCast]
  rw [if_neg (by omega)]
  simp [Addr.add]
theorem slice_hi1 (sl : Option Addr) (m c i : Nat) (h : i ≤ c) (w : World) : (Instr.sliceAt 27 (.slice sl m c) none (some (.int .i64 (i : Int))) none).run Tryz.prog w = .ok (.slice sl i c) w := by
  rw [run_sliceAt_slice _ _ _ _ _ _ elem23, run_slice_h _ _ _ _ _ elem23 _ _ (by omega) (by omega), elem23_is, Tryz.sizeOf26]
  have e : sl.map (fun x => x.add (0 * 1)) = sl := by
    cases sl with
    | none => rfl
    | some a => obtain ⟨b, o, sp⟩ := a; simp [Addr.add]
  simp only [Result.andThen, sliced, Int.toNat_natCast, e, ite_self, Nat.sub_zero]
theorem size24 : (Tryz.prog.info? 26).map (·.size) = some 1 := by kernel_rfl

/-- A record's two cells. -/
def Boxed2 (W : World) (b : Nat) (p x : Int) : Prop := W.cell? ⟨b, 0, none⟩ = some (.int .u64 p) ∧ W.cell? ⟨b, 1, none⟩ = some (.int .u64 x)

/-- What stands in a slot, copied into a record of one's own. -/
theorem copy_out1 {w : World} {b o P c1 : Nat} {p : Int} (h0 : w.cell? ⟨b, o + P, none⟩ = some (.int .u64 p)) :
    ∃ W6, (Builtin.copy_ #[27, 27] 3 #[.slice (some ⟨w.heap.size, 0, none⟩) 2 2, .slice (some ⟨b, o + P, none⟩) 1 c1]).run Tryz.prog (w.alloc (.cells #[.int .u64 0, .int .u64 0] 80)).drew = .ok (.int .i64 1) W6 ∧ Boxed2 W6 w.heap.size p 0 ∧ Ext w W6 := by
  have hc0 : (w.alloc (.cells #[.int .u64 0, .int .u64 0] 80)).drew.cell? ⟨w.heap.size, 0, none⟩ = some (.int .u64 0) := by unfold World.cell?; show (match (w.alloc _).heap[w.heap.size]? with | some (Obj.cells c _ _) => _ | _ => _) = _; rw [World.alloc_heap_new]; rfl
  have hc1 : (w.alloc (.cells #[.int .u64 0, .int .u64 0] 80)).drew.cell? ⟨w.heap.size, 1, none⟩ = some (.int .u64 0) := by unfold World.cell?; show (match (w.alloc _).heap[w.heap.size]? with | some (Obj.cells c _ _) => _ | _ => _) = _; rw [World.alloc_heap_new]; rfl
  have hf0 : ∀ i, (w.alloc (.cells #[.int .u64 0, .int .u64 0] 80)).drew.frozen? ⟨w.heap.size, i, none⟩ = false := fun i => by
    show (w.alloc (.cells #[.int .u64 0, .int .u64 0] 80)).frozen? ⟨w.heap.size, i, none⟩ = false
    unfold World.frozen?; rw [World.alloc_heap_new]; simp
  have hE : Ext w (w.alloc (.cells #[.int .u64 0, .int .u64 0] 80)).drew := (Ext.new w _).drew
  have h := run_copy_cells (P := Tryz.prog) (w.alloc (.cells #[.int .u64 0, .int .u64 0] 80)).drew 27 27 3 26 w.heap.size 0 2 2 ⟨b, o + P, none⟩ 1 c1 [.int .u64 p] Tryz.underlying27 size24 rfl
    (fun j v hv => by
      match j, hv with
      | 0, hv => simp at hv; subst hv; rw [add_is]; exact hE.cell h0
      | j + 1, hv => simp at hv)
    (fun j hj => by simp at hj; subst hj; rw [Nat.add_zero, hc0]; rfl) (fun j hj => hf0 _) (by intro v hv; simp at hv; subst hv; rfl)
  refine ⟨_, h, ⟨?_, ?_⟩, ?_⟩
  · exact World.cell?_setCell_same' _ _ _ (by rw [hc0]; rfl)
  · show (World.setCell _ _ _).cell? _ = _; rw [World.cell?_setCell_other _ _ _ _ (fun e => by cases e)]; exact hc1
  · exact hE.setCell (Nat.le_refl _) _
theorem copy_out2 {w : World} {b o P c1 : Nat} {p x : Int} (h0 : w.cell? ⟨b, o + P, none⟩ = some (.int .u64 p)) (h1 : w.cell? ⟨b, o + P + 1, none⟩ = some (.int .u64 x)) :
    ∃ W6, (Builtin.copy_ #[27, 27] 3 #[.slice (some ⟨w.heap.size, 0, none⟩) 2 2, .slice (some ⟨b, o + P, none⟩) 2 c1]).run Tryz.prog (w.alloc (.cells #[.int .u64 0, .int .u64 0] 80)).drew = .ok (.int .i64 2) W6 ∧ Boxed2 W6 w.heap.size p x ∧ Ext w W6 := by
  have hc0 : (w.alloc (.cells #[.int .u64 0, .int .u64 0] 80)).drew.cell? ⟨w.heap.size, 0, none⟩ = some (.int .u64 0) := by unfold World.cell?; show (match (w.alloc _).heap[w.heap.size]? with | some (Obj.cells c _ _) => _ | _ => _) = _; rw [World.alloc_heap_new]; rfl
  have hc1 : (w.alloc (.cells #[.int .u64 0, .int .u64 0] 80)).drew.cell? ⟨w.heap.size, 1, none⟩ = some (.int .u64 0) := by unfold World.cell?; show (match (w.alloc _).heap[w.heap.size]? with | some (Obj.cells c _ _) => _ | _ => _) = _; rw [World.alloc_heap_new]; rfl
  have hf0 : ∀ i, (w.alloc (.cells #[.int .u64 0, .int .u64 0] 80)).drew.frozen? ⟨w.heap.size, i, none⟩ = false := fun i => by
    show (w.alloc (.cells #[.int .u64 0, .int .u64 0] 80)).frozen? ⟨w.heap.size, i, none⟩ = false
    unfold World.frozen?; rw [World.alloc_heap_new]; simp
  have hE : Ext w (w.alloc (.cells #[.int .u64 0, .int .u64 0] 80)).drew := (Ext.new w _).drew
  have h := run_copy_cells (P := Tryz.prog) (w.alloc (.cells #[.int .u64 0, .int .u64 0] 80)).drew 27 27 3 26 w.heap.size 0 2 2 ⟨b, o + P, none⟩ 2 c1 [.int .u64 p, .int .u64 x] Tryz.underlying27 size24 rfl
    (fun j v hv => by
      match j, hv with
      | 0, hv => simp at hv; subst hv; rw [add_is]; exact hE.cell h0
      | 1, hv => simp at hv; subst hv; rw [add_is]; exact hE.cell h1
      | j + 2, hv => simp at hv)
    (fun j hj => by
      match j, hj with
      | 0, _ => rw [Nat.add_zero, hc0]; rfl
      | 1, _ => rw [Nat.zero_add, hc1]; rfl
      | j + 2, hj => exact absurd (show j + 2 < 2 from hj) (by omega)) (fun j hj => hf0 _) (by intro v hv; simp at hv; rcases hv with rfl | rfl <;> rfl)
  refine ⟨_, h, ⟨?_, ?_⟩, ?_⟩
  · show ((World.setCell _ _ _).setCell _ _).cell? _ = _
    rw [World.cell?_setCell_other _ _ _ _ (fun e => by cases e)]; exact World.cell?_setCell_same' _ _ _ (by rw [hc0]; rfl)
  · exact World.cell?_setCell_same' _ _ _ (by rw [World.cell?_setCell_other _ _ _ _ (fun e => by cases e), hc1]; rfl)
  · exact (hE.setCell (Nat.le_refl _) _).setCell (Nat.le_refl _) _

set_option maxRecDepth 100000 in
set_option maxHeartbeats 4000000 in
theorem round1_1 (mm : Nat) (s : Option Addr) (N c f B0 B1 B2 l : Nat) (t : List Rc) (w0 : World) (J Jx : List (At N) → World → Prop) (W : World) (hS : WS w0 s N c (flatW 1 t)) (hN : t.length = N) (ht : Thin 1 t) (hf : f < N) (hE : Ext w0 W) (hJ : AbidesFrom W.heap.size J)
    (b0 : Boxed W B0 27 (.slice s N c)) (b1 : Boxed W B1 3 (.int .i64 1)) (b2 : Boxed W B2 3 (.int .i64 f))
    (hY : ∀ pre x W1, J pre W1 → pre.length < N → YieldAt Fence.wide (mm - 1) Tryz.prog l (encs t N x) W1 fun e W' =>
      (e = .returned (.bool true) ∧ J (pre ++ [x]) W' ∧ Keeps w0.heap.size B0 B1 B2 (.slice s N c) (.int .i64 1) (.int .i64 f) W1 W') ∨ (e = .returned (.bool false) ∧ Jx (pre ++ [x]) W'))
    (h0 : J [] W) :
    CallsIn Fence.wide mm Tryz.prog 113 #[.func (.yield l) #[] #[], .pointer (some ⟨B0, 0, none⟩), .pointer (some ⟨B1, 0, none⟩), .pointer (some ⟨B2, 0, none⟩)] W fun e W' => (∃ v, e = .returned v) ∧
      ((∃ xs : List (At N), plc xs = way f N N ∧ J xs W') ∨ (∃ pre : List (At N), (∃ k, k < N ∧ plc pre = way f N (k + 1)) ∧ Jx pre W')) := by
  have hc0 := b0.cell
  have hc1 := b1.cell
  have hn := hS.le
  have hnc := hS.lc
  have hfn : ∀ f, Fence.wide.fn f := fun _ => trivial
  have hdep : Fence.wide.depth = none := rfl
  have HS := Lib.hid hS
  have HT := Lib.hid ht
  have HN := Lib.hid hN
  clear hS ht hN
  refine callsIn_of_wp Tryz.func113 rfl trivial ?_ rfl
  simp only [Tryz.ntmps113, List.size_toArray, List.length_cons, List.length_nil, Nat.reduceAdd, Nat.reduceSub, Array.replicate_succ, Array.replicate_zero, List.push_toArray, List.append_toArray, List.nil_append, List.cons_append]
  gi_wp2
  clear hc0 hc1
  gi_loopw [14] (fun i wr => ∃ (k : Nat) (pre : List (At N)), k ≤ N ∧ i = .int .i64 k ∧ RowKit.Hid (plc pre = way f N k) ∧ J pre wr ∧ Ext w0 wr ∧ Boxed wr B0 27 (.slice s N c) ∧ Boxed wr B1 3 (.int .i64 1) ∧ Boxed wr B2 3 (.int .i64 f)) (fun i _ => N - (RowKit.intOf i).toNat)
  case atStart => exact ⟨0, [], by omega, rfl, Lib.hid rfl, h0, hE, b0, b1, b2⟩
  case round =>
    obtain ⟨k, pre, hk, rfl, hp, hJs, hEs, a0, a1, a2⟩ := hrel
    by_cases hlt : k < N
    · have hkN : (k : Int) < N := by omega
      obtain ⟨P, hPe⟩ : ∃ P, P = (f + k) % N := ⟨_, rfl⟩
      have hP : P < N := by rw [hPe]; exact Nat.mod_lt _ (by omega)
      have hq1 : ((f : Int) + k) % N = P := by rw [hPe, Int.natCast_emod, Int.natCast_add]
      have hq2 : ((f : Int) + k).tmod N = P := by rw [Int.tmod_eq_emod_of_nonneg (by omega)]; exact hq1
      have HP := Lib.hid hPe
      clear hPe
      obtain ⟨p, hx, up, b, o, rfl, e0⟩ := (HS.out.ext hEs).get (k := P) hP
      have hu : RowKit.Hid (at' t P = (p, 0)) := Lib.hid (by have := slot_1 HT.out hx; unfold at'; rw [this]; rfl)
      obtain ⟨W6, hcp, hb6, hE6⟩ := copy_out1 (c1 := c - P) e0
      have hsl1 := slice_lo1 b o N c P (by omega) (by omega)
      have hsl2 : ∀ W, (Instr.sliceAt 27 (.slice (some ⟨b, o + P, none⟩) (N - P) (c - P)) none (some (.int .i64 1)) none).run Tryz.prog W = .ok (.slice (some ⟨b, o + P, none⟩) 1 (c - P)) W := slice_hi1 (some ⟨b, o + P, none⟩) (N - P) (c - P) 1 (by omega)
      have hsl0 := slice_arr wr.heap.size
      have r0 := Boxed.lt a0
      have d0 : W6.cell? ⟨B0, 0, none⟩ = some (.slice (some ⟨b, o, none⟩) N c) := hE6.cell a0.cell
      have d1 : W6.cell? ⟨B1, 0, none⟩ = some (.int .i64 1) := hE6.cell a1.cell
      have c0 := a0.cell
      have c1 := a1.cell
      have c2 := a2.cell
      have k0 : (wr.alloc (.cells #[.int .u64 0, .int .u64 0] 80)).cell? ⟨B0, 0, none⟩ = some (.slice (some ⟨b, o, none⟩) N c) := (Ext.new wr _).cell c0
      have k1 : (wr.alloc (.cells #[.int .u64 0, .int .u64 0] 80)).cell? ⟨B1, 0, none⟩ = some (.int .i64 1) := (Ext.new wr _).cell c1
      obtain ⟨M1, eM1⟩ : ∃ M1, RowKit.Hid (N - P = M1) := ⟨_, Lib.hid rfl⟩
      obtain ⟨C1, eC1⟩ : ∃ C1, RowKit.Hid (c - P = C1) := ⟨_, Lib.hid rfl⟩
      rw [eM1.out, eC1.out] at hsl1
      rw [eM1.out, eC1.out] at hsl2
      rw [eC1.out] at hcp
      have hJ6 := hJ pre wr W6 none hJs ⟨hE6.os, hE6.tape, hE6.output, hE6.size, fun i hi _ => hE6.block i hi⟩ (fun r e => by cases e)
      have hlen : pre.length < N := by
        have h1 : (plc pre).length = (way f N k).length := by rw [hp.out]
        rw [way_len] at h1
        simp at h1; omega
      obtain ⟨fn, tmps, assign, body, hy, hR⟩ := hY pre ⟨P, hP⟩ W6 hJ6 hlen
      dsimp only [encs] at hy
      rw [hu.out] at hy
      dsimp only at hy
      have A0 := Lib.hid (show Boxed W6 B0 27 _ from (hE6.block _ a0.lt).trans a0)
      have A1 := Lib.hid (show Boxed W6 B1 3 _ from (hE6.block _ a1.lt).trans a1)
      have A2 := Lib.hid (show Boxed W6 B2 3 _ from (hE6.block _ a2.lt).trans a2)
      obtain ⟨f0, f1⟩ := hb6
      have H6 := Lib.hid (Ext.trans hEs hE6)
      have Hsl0 := Lib.hid hsl0
      have Hsl1 := Lib.hid hsl1
      have Hsl2 := Lib.hid hsl2
      have Hcp := Lib.hid hcp
      clear hx e0 a0 a1 a2 hE6 hJ6 hEs hsl0 hsl1 hsl2 hcp
      gi_wp2
      have hwP : IntKind.i64.wrap (P : Int) = P := IntWalk.i64_in _ (by omega)
      have hwP2 : IntKind.i64.wrap ((P : Int) * 2) = (P : Int) * 2 := IntWalk.i64_in _ (by omega)
      have hwP3 : RowKit.wrap64 (P : Int) = P := by rw [← hwP]; first | rfl | (unfold RowKit.wrap64; omega)
      have hsl0 := Hsl0.out
      have hsl1 := Hsl1.out
      have hsl2 := Hsl2.out
      have hcp := Hcp.out
      refine wpIn_wide.2 ?_
      go_region_held3 (fun w' => (w'.cell? ⟨B0, 0, none⟩ = some (.slice (some ⟨b, o, none⟩) N c) ∧ w'.cell? ⟨B1, 0, none⟩ = some (.int .i64 1)))
        (first
          | exact ⟨d0, d1⟩
          | exact ⟨k0, k1⟩
          | go_keep)
        (fail)
      rename_i hh
      clear hh hsl0 hsl1 hsl2 hcp k0 k1 c0 c1 c2
      gi_wp2
      refine hR.mono ?_
      rintro e W3 (⟨rfl, hJ3, hk3⟩ | ⟨rfl, hJx3⟩)
      · gi_wp2
        go_roundw
        case rel => exact ⟨k + 1, pre ++ [⟨P, hP⟩], by omega, by go_num, Lib.hid (by rw [way_succ, ← hp.out, ← HP.out]; simp), hJ3, Below.trans H6.out hk3.below, hk3.k0 A0.out, hk3.k1 A1.out, hk3.k2 A2.out⟩
        case measure => simp [RowKit.intOf]; omega
      · gi_wp2
        refine bodyPost_ret (results_none rfl _ _ _) rfl ?_
        exact ⟨⟨_, rfl⟩, .inr ⟨_, ⟨k, hlt, by rw [way_succ, ← hp.out, ← HP.out]; simp⟩, hJx3⟩⟩
    · obtain rfl : k = N := by omega
      gi_wp2
      go_end0
      exact ⟨⟨_, rfl⟩, .inl ⟨pre, hp.out, hJs⟩⟩

set_option maxRecDepth 100000 in
set_option maxHeartbeats 4000000 in
theorem round1_2 (mm : Nat) (s : Option Addr) (N m c f B0 B1 B2 l : Nat) (t : List Rc) (w0 : World) (J Jx : List (At N) → World → Prop) (W : World) (hS : WS w0 s m c (flatW 2 t)) (hN : t.length = N) (hM : m = N * 2) (ht : Thin 2 t) (hf : f < N) (hE : Ext w0 W) (hJ : AbidesFrom W.heap.size J)
    (b0 : Boxed W B0 27 (.slice s m c)) (b1 : Boxed W B1 3 (.int .i64 2)) (b2 : Boxed W B2 3 (.int .i64 f))
    (hY : ∀ pre x W1, J pre W1 → pre.length < N → YieldAt Fence.wide (mm - 1) Tryz.prog l (encs t N x) W1 fun e W' =>
      (e = .returned (.bool true) ∧ J (pre ++ [x]) W' ∧ Keeps w0.heap.size B0 B1 B2 (.slice s m c) (.int .i64 2) (.int .i64 f) W1 W') ∨ (e = .returned (.bool false) ∧ Jx (pre ++ [x]) W'))
    (h0 : J [] W) :
    CallsIn Fence.wide mm Tryz.prog 113 #[.func (.yield l) #[] #[], .pointer (some ⟨B0, 0, none⟩), .pointer (some ⟨B1, 0, none⟩), .pointer (some ⟨B2, 0, none⟩)] W fun e W' => (∃ v, e = .returned v) ∧
      ((∃ xs : List (At N), plc xs = way f N N ∧ J xs W') ∨ (∃ pre : List (At N), (∃ k, k < N ∧ plc pre = way f N (k + 1)) ∧ Jx pre W')) := by
  have hc0 := b0.cell
  have hc1 := b1.cell
  have hn := hS.le
  have hnc := hS.lc
  have hdv : (m : Int).tdiv 2 = N := by rw [quo_2]; omega
  have hNb : N ≤ 1048576 := by omega
  have HM := Lib.hid hM
  clear hM
  have hfn : ∀ f, Fence.wide.fn f := fun _ => trivial
  have hdep : Fence.wide.depth = none := rfl
  have HS := Lib.hid hS
  have HT := Lib.hid ht
  have HN := Lib.hid hN
  clear hS ht hN
  refine callsIn_of_wp Tryz.func113 rfl trivial ?_ rfl
  simp only [Tryz.ntmps113, List.size_toArray, List.length_cons, List.length_nil, Nat.reduceAdd, Nat.reduceSub, Array.replicate_succ, Array.replicate_zero, List.push_toArray, List.append_toArray, List.nil_append, List.cons_append]
  gi_wp2
  clear hc0 hc1
  gi_loopw [14] (fun i wr => ∃ (k : Nat) (pre : List (At N)), k ≤ N ∧ i = .int .i64 k ∧ RowKit.Hid (plc pre = way f N k) ∧ J pre wr ∧ Ext w0 wr ∧ Boxed wr B0 27 (.slice s m c) ∧ Boxed wr B1 3 (.int .i64 2) ∧ Boxed wr B2 3 (.int .i64 f)) (fun i _ => N - (RowKit.intOf i).toNat)
  case atStart => exact ⟨0, [], by omega, rfl, Lib.hid rfl, h0, hE, b0, b1, b2⟩
  case round =>
    obtain ⟨k, pre, hk, rfl, hp, hJs, hEs, a0, a1, a2⟩ := hrel
    by_cases hlt : k < N
    · have hkN : (k : Int) < N := by omega
      obtain ⟨P, hPe⟩ : ∃ P, P = (f + k) % N := ⟨_, rfl⟩
      have hP : P < N := by rw [hPe]; exact Nat.mod_lt _ (by omega)
      have hq1 : ((f : Int) + k) % N = P := by rw [hPe, Int.natCast_emod, Int.natCast_add]
      have hq2 : ((f : Int) + k).tmod N = P := by rw [Int.tmod_eq_emod_of_nonneg (by omega)]; exact hq1
      have HP := Lib.hid hPe
      clear hPe
      have hP2 : P * 2 + 1 < m := by have := HM.out; omega
      have hP3 : P * 2 < m := by omega
      obtain ⟨p, hx, up, b, o, rfl, e0⟩ := (HS.out.ext hEs).get (k := P * 2) hP3
      obtain ⟨x, hx1, ux, _, _, e', e1⟩ := (HS.out.ext hEs).get (k := P * 2 + 1) hP2
      cases e'
      have hu : RowKit.Hid (at' t P = (p, x)) := Lib.hid (by have := slot_2 hx hx1; unfold at'; rw [this]; rfl)
      obtain ⟨W6, hcp, hb6, hE6⟩ := copy_out2 (c1 := c - P * 2) e0 e1
      have hmulP : ((P : Int) * 2) = ((P * 2 : Nat) : Int) := by omega
      have hsl1 := slice_lo1 b o m c (P * 2) (by omega) (by omega)
      have hsl2 : ∀ W, (Instr.sliceAt 27 (.slice (some ⟨b, o + P * 2, none⟩) (m - P * 2) (c - P * 2)) none (some (.int .i64 2)) none).run Tryz.prog W = .ok (.slice (some ⟨b, o + P * 2, none⟩) 2 (c - P * 2)) W := slice_hi1 (some ⟨b, o + P * 2, none⟩) (m - P * 2) (c - P * 2) 2 (by omega)
      rw [← hmulP] at hsl1
      clear hmulP hx1 e1
      have hsl0 := slice_arr wr.heap.size
      have r0 := Boxed.lt a0
      have d0 : W6.cell? ⟨B0, 0, none⟩ = some (.slice (some ⟨b, o, none⟩) m c) := hE6.cell a0.cell
      have d1 : W6.cell? ⟨B1, 0, none⟩ = some (.int .i64 2) := hE6.cell a1.cell
      have c0 := a0.cell
      have c1 := a1.cell
      have c2 := a2.cell
      have k0 : (wr.alloc (.cells #[.int .u64 0, .int .u64 0] 80)).cell? ⟨B0, 0, none⟩ = some (.slice (some ⟨b, o, none⟩) m c) := (Ext.new wr _).cell c0
      have k1 : (wr.alloc (.cells #[.int .u64 0, .int .u64 0] 80)).cell? ⟨B1, 0, none⟩ = some (.int .i64 2) := (Ext.new wr _).cell c1
      obtain ⟨M1, eM1⟩ : ∃ M1, RowKit.Hid (m - P * 2 = M1) := ⟨_, Lib.hid rfl⟩
      obtain ⟨C1, eC1⟩ : ∃ C1, RowKit.Hid (c - P * 2 = C1) := ⟨_, Lib.hid rfl⟩
      rw [eM1.out, eC1.out] at hsl1
      rw [eM1.out, eC1.out] at hsl2
      rw [eC1.out] at hcp
      have hJ6 := hJ pre wr W6 none hJs ⟨hE6.os, hE6.tape, hE6.output, hE6.size, fun i hi _ => hE6.block i hi⟩ (fun r e => by cases e)
      have hlen : pre.length < N := by
        have h1 : (plc pre).length = (way f N k).length := by rw [hp.out]
        rw [way_len] at h1
        simp at h1; omega
      obtain ⟨fn, tmps, assign, body, hy, hR⟩ := hY pre ⟨P, hP⟩ W6 hJ6 hlen
      dsimp only [encs] at hy
      rw [hu.out] at hy
      dsimp only at hy
      have A0 := Lib.hid (show Boxed W6 B0 27 _ from (hE6.block _ a0.lt).trans a0)
      have A1 := Lib.hid (show Boxed W6 B1 3 _ from (hE6.block _ a1.lt).trans a1)
      have A2 := Lib.hid (show Boxed W6 B2 3 _ from (hE6.block _ a2.lt).trans a2)
      obtain ⟨f0, f1⟩ := hb6
      have H6 := Lib.hid (Ext.trans hEs hE6)
      have Hsl0 := Lib.hid hsl0
      have Hsl1 := Lib.hid hsl1
      have Hsl2 := Lib.hid hsl2
      have Hcp := Lib.hid hcp
      clear hx e0 a0 a1 a2 hE6 hJ6 hEs hsl0 hsl1 hsl2 hcp
      gi_wp2
      have hwP : IntKind.i64.wrap (P : Int) = P := IntWalk.i64_in _ (by omega)
      have hwP2 : IntKind.i64.wrap ((P : Int) * 2) = (P : Int) * 2 := IntWalk.i64_in _ (by omega)
      have hwP3 : RowKit.wrap64 (P : Int) = P := by rw [← hwP]; first | rfl | (unfold RowKit.wrap64; omega)
      have hsl0 := Hsl0.out
      have hsl1 := Hsl1.out
      have hsl2 := Hsl2.out
      have hcp := Hcp.out
      refine wpIn_wide.2 ?_
      go_region_held3 (fun w' => (w'.cell? ⟨B0, 0, none⟩ = some (.slice (some ⟨b, o, none⟩) m c) ∧ w'.cell? ⟨B1, 0, none⟩ = some (.int .i64 2)))
        (first
          | exact ⟨d0, d1⟩
          | exact ⟨k0, k1⟩
          | go_keep)
        (fail)
      rename_i hh
      clear hh hsl0 hsl1 hsl2 hcp k0 k1 c0 c1 c2
      gi_wp2
      refine hR.mono ?_
      rintro e W3 (⟨rfl, hJ3, hk3⟩ | ⟨rfl, hJx3⟩)
      · gi_wp2
        go_roundw
        case rel => exact ⟨k + 1, pre ++ [⟨P, hP⟩], by omega, by go_num, Lib.hid (by rw [way_succ, ← hp.out, ← HP.out]; simp), hJ3, Below.trans H6.out hk3.below, hk3.k0 A0.out, hk3.k1 A1.out, hk3.k2 A2.out⟩
        case measure => simp [RowKit.intOf]; omega
      · gi_wp2
        refine bodyPost_ret (results_none rfl _ _ _) rfl ?_
        exact ⟨⟨_, rfl⟩, .inr ⟨_, ⟨k, hlt, by rw [way_succ, ← hp.out, ← HP.out]; simp⟩, hJx3⟩⟩
    · obtain rfl : k = N := by omega
      gi_wp2
      go_end0
      exact ⟨⟨_, rfl⟩, .inl ⟨pre, hp.out, hJs⟩⟩

/-- What round's iterator hands over. -/
theorem round_stops (mm : Nat) (s : Option Addr) (N m c v f B0 B1 B2 : Nat) (t : List Rc) (w0 w : World) (hv : Wd v) (hS : WS w0 s m c (flatW v t)) (hN : t.length = N) (ht : Thin v t) (hf : f < N) (hE : Ext w0 w)
    (b0 : Boxed w B0 27 (.slice s m c)) (b1 : Boxed w B1 3 (.int .i64 v)) (b2 : Boxed w B2 3 (.int .i64 f)) :
    SeqStopsK Fence.wide mm Tryz.prog 113 #[.pointer (some ⟨B0, 0, none⟩), .pointer (some ⟨B1, 0, none⟩), .pointer (some ⟨B2, 0, none⟩)] (encs t N) (Keeps w0.heap.size B0 B1 B2 (.slice s m c) (.int .i64 v) (.int .i64 f))
      (fun xs => plc xs = way f N N) (fun pre => ∃ k, k < N ∧ plc pre = way f N (k + 1)) N w := fun l J Jx W hW hJ _ hY h0 => by
  have hm := hS.len
  rw [flatW_len hv, hN] at hm
  rcases hv with rfl | rfl
  · obtain rfl : N = m := by omega
    exact round1_1 mm s N c f B0 B1 B2 l t w0 J Jx W hS hN ht hf (Ext.trans hE hW) hJ ((hW.block _ b0.lt).trans b0) ((hW.block _ b1.lt).trans b1) ((hW.block _ b2.lt).trans b2) hY h0
  · exact round1_2 mm s N m c f B0 B1 B2 l t w0 J Jx W hS hN hm.symm ht hf (Ext.trans hE hW) hJ ((hW.block _ b0.lt).trans b0) ((hW.block _ b1.lt).trans b1) ((hW.block _ b2.lt).trans b2) hY h0

end Go.Proofs.YtmonkcekkhfafaaGreatDoor.Prb

/- PrbRecs:
  What records returns: what stands in the slots that are not empty, slot by slot. Conditions: the words are there, those of a table's slots.
-/
namespace Go.Proofs.YtmonkcekkhfafaaGreatDoor.Prb
open Go.RowKit Go.Shelf

theorem boxed_obj {β : Type} (B : Nat) (o : Obj) (ho : o.isCells = true) : Own (fun (_ : β) W => W.heap[B]? = some o) := fun _ X Y row hs hg hrow => by
  refine (hg.block B (Array.getElem?_eq_some_iff.1 hs).1 (fun e' => ?_)).trans hs
  obtain ⟨o', ho', hc⟩ := hrow B e'.symm
  rw [hs] at ho'; cases ho'; rw [ho] at hc; cases hc

theorem Keeps.alloc {n₀ B0 B1 B2 : Nat} {v0 v1 v2 : Value} {W : World} (hn : n₀ ≤ W.heap.size) (o : Obj) : Keeps n₀ B0 B1 B2 v0 v1 v2 W (W.alloc o) :=
  ⟨(Below.refl n₀ W).alloc hn o, fun h => h.alloc o, fun h => h.alloc o, fun h => h.alloc o⟩

abbrev Rec2 (p x : Int) : Obj := .cells #[.int .u64 p, .int .u64 x] 80
theorem rec2_cells {W : World} {B : Nat} {p x : Int} (h : W.heap[B]? = some (Rec2 p x)) : W.cell? ⟨B, 0, none⟩ = some (.int .u64 p) ∧ W.cell? ⟨B, 1, none⟩ = some (.int .u64 x) := by
  constructor
  · unfold World.cell?; rw [h]; rfl
  · unfold World.cell?; rw [h]; rfl

/-- What has come, without what is empty. -/
def rs (t : List Rc) {n : Nat} (pre : List (At n)) : List Rc := (pre.map fun x => at' t x.1).filter fun r => decide (r ≠ (0, 0))
theorem rs_yes {t : List Rc} {n : Nat} {pre : List (At n)} {x : At n} (h : at' t x.1 ≠ (0, 0)) : rs t (pre ++ [x]) = rs t pre ++ [at' t x.1] := by
  unfold rs; rw [List.map_append, List.filter_append, List.map_singleton, List.filter_cons_of_pos (by simpa using h), List.filter_nil]
theorem rs_no {t : List Rc} {n : Nat} {pre : List (At n)} {x : At n} (h : at' t x.1 = (0, 0)) : rs t (pre ++ [x]) = rs t pre := by
  unfold rs; rw [List.map_append, List.filter_append, List.map_singleton, List.filter_cons_of_neg (by simpa using h), List.filter_nil, List.append_nil]
theorem rs_len (t : List Rc) {n : Nat} (pre : List (At n)) : (rs t pre).length ≤ pre.length := by
  unfold rs; have := List.length_filter_le (fun r : Rc => decide (r ≠ (0, 0))) (pre.map fun x => at' t x.1); simpa using this
theorem way_0 {n k : Nat} (h : k ≤ n) : way 0 n k = List.range k := by
  unfold way
  apply List.ext_getElem?
  intro i
  by_cases hi : i < k
  · rw [List.getElem?_map, List.getElem?_range hi]; simp; exact Nat.mod_eq_of_lt (by omega)
  · rw [List.getElem?_eq_none (by simp; omega), List.getElem?_eq_none (by simp; omega)]
theorem at_range {t : List Rc} {n : Nat} (h : t.length = n) : (List.range n).map (at' t) = t := by
  apply List.ext_getElem?
  intro i
  by_cases hi : i < n
  · rw [List.getElem?_map, List.getElem?_range hi, at_some (by omega)]; rfl
  · rw [List.getElem?_eq_none (by simp; omega), List.getElem?_eq_none (by omega)]
theorem rs_all {t : List Rc} {n : Nat} (hn : t.length = n) {xs : List (At n)} (h : plc xs = way 0 n n) : rs t xs = recs t := by
  have e : xs.map (fun x => at' t x.1) = t := by
    have e1 : xs.map (fun x => at' t x.1) = (plc xs).map (at' t) := by simp [plc]
    rw [e1, h, way_0 (Nat.le_refl n), at_range hn]
  unfold rs recs; rw [e]

set_option maxRecDepth 100000 in
set_option maxHeartbeats 4000000 in
theorem recs_any (s : Option Addr) (m c v : Nat) (t : List Rc) (w : World) (hv : Wd v) (hS : WS w s m c (flatW v t)) (ht : Thin v t) (h1 : 1 ≤ t.length) (h2 : t.length ≤ 1024) :
    Calls Tryz.prog 48 #[.slice s m c, .int .i64 v] w fun e w' => ∃ u, e = .returned u ∧ w'.ownsRow w.heap.size 80 2 u (recs t).length (flat (recs t)) ∧ Ext w w' := by
  have hfn : ∀ f, Fence.wide.fn f := fun _ => trivial
  have hsa := Oper.semAt_some
  have hdep : Fence.wide.depth = none := rfl
  obtain ⟨N, hN⟩ : ∃ N, t.length = N := ⟨_, rfl⟩
  rw [hN] at h1 h2
  have hrr : RowKit.Hid (∀ r ∈ t, Ur r) := Lib.hid (by
    have h := slotsW_rng (w := v) hS.u64
    rwa [slots_flat hv ht] at h)
  obtain ⟨i0, hi, hz0, hz1, hz2⟩ := info_parts info34
  refine (callsIn_wide (n := 9)).1 ?_
  refine callsIn_of_wp_marks Tryz.func48 rfl trivial ?_ rfl
  simp only [Tryz.ntmps48, List.size_toArray, List.length_cons, List.length_nil, Nat.reduceAdd, Nat.reduceSub, Array.replicate_succ, Array.replicate_zero, List.push_toArray, List.append_toArray, List.nil_append, List.cons_append]
  gi_wp2_with (gi_at_call 84; refine (callsIn_wide.2 (round_any _ _ _ _ _ _)).mono ?_; rintro e w' ⟨rfl, rfl⟩)
  obtain ⟨W0, hW0⟩ : ∃ W0, (((w.alloc (.cells #[.slice none 0 0] 55)).alloc (.cells #[.slice s m c] 27)).alloc (.cells #[.int .i64 v] 3)).alloc (.cells #[.int .i64 0] 3) = W0 := ⟨_, rfl⟩
  have bO : Boxed W0 w.heap.size 55 (.slice none 0 0) := by rw [← hW0]; exact (((Boxed.new w 55 (.slice none 0 0)).alloc _).alloc _).alloc _
  have b0 : Boxed W0 (w.heap.size + 1) 27 (.slice s m c) := by rw [← hW0]; have h := ((Boxed.new (w.alloc (.cells #[.slice none 0 0] 55)) 27 (.slice s m c)).alloc (.cells #[.int .i64 v] 3)).alloc (.cells #[.int .i64 0] 3); simpa only [World.size_alloc] using h
  have b1 : Boxed W0 (w.heap.size + 1 + 1) 3 (.int .i64 v) := by rw [← hW0]; have h := (Boxed.new ((w.alloc (.cells #[.slice none 0 0] 55)).alloc (.cells #[.slice s m c] 27)) 3 (.int .i64 v)).alloc (.cells #[.int .i64 0] 3); simpa only [World.size_alloc] using h
  have b2 : Boxed W0 (w.heap.size + 1 + 1 + 1) 3 (.int .i64 ((0 : Nat) : Int)) := by rw [← hW0]; have h := Boxed.new (((w.alloc (.cells #[.slice none 0 0] 55)).alloc (.cells #[.slice s m c] 27)).alloc (.cells #[.int .i64 v] 3)) 3 (.int .i64 0); exact (by simpa only [World.size_alloc] using h : Boxed _ (w.heap.size + 1 + 1 + 1) 3 (.int .i64 0))
  have hE : Ext w W0 := by rw [← hW0]; exact ((((Ext.refl w).alloc _).alloc _).alloc _).alloc _
  have hsz : W0.heap.size = w.heap.size + 4 := by rw [← hW0]; simp
  rw [hW0]
  clear hW0
  refine wpIn_rangeFunc_ownH rfl (by omega) (gf := 113) (lb := #[.pointer (some ⟨w.heap.size + 1, 0, none⟩), .pointer (some ⟨w.heap.size + 1 + 1, 0, none⟩), .pointer (some ⟨w.heap.size + 1 + 1 + 1, 0, none⟩)]) rfl trivial (enters_of Tryz.func113 (by kernel_rfl) rfl)
    (round_stops _ s N m c v 0 (w.heap.size + 1) (w.heap.size + 1 + 1) (w.heap.size + 1 + 1 + 1) t w W0 hv hS hN ht (by omega) hE b0 b1 b2) Keeps.trans (Keeps.put (w := W0) (by omega)) (Below.refl _ _) (fun _ => rfl)
    (fun pre W => ((∃ u, Boxed W w.heap.size 55 u ∧ W.ownsRow w.heap.size 80 2 u (rs t pre).length (flat (rs t pre)) ∧ True) ∧ Boxed W (w.heap.size + 1 + 1 + 1) 3 (.int .i64 ((0 : Nat) : Int))) ∧ Below w.heap.size w W)
    (fun _ _ _ => False)
    (OwnFrom.and (OwnFrom.and (Own.from (holdsRow_own w.heap.size w.heap.size 55 80 2 (fun pre => (rs t pre).length) (fun pre => flat (rs t pre)) (fun _ _ => True)) _) (Own.from (boxed_own _ _ _) _)) (ownFrom_below (Nat.le_refl _) (by omega)))
    (fun _ _ _ _ _ hs _ _ => hs)
    ⟨⟨⟨_, bO, World.ownsRow_nil _ _ _ _, trivial⟩, b2⟩, hE⟩
    (fun x a' W => ∃ Bx, w.heap.size + 1 + 1 + 1 < Bx ∧ W.heap[Bx]? = some (Rec2 (at' t x.1).1 (at' t x.1).2) ∧ a' = { tmps := #[.slice s m c, .int .i64 v, undef, undef, .slice none 0 0, .pointer (some ⟨w.heap.size, 0, none⟩), undef, .pointer (some ⟨Bx, 0, none⟩), .slice s m c, .int .i64 v,
      .func (.func 113) #[] #[.pointer (some ⟨w.heap.size + 1, 0, none⟩), .pointer (some ⟨w.heap.size + 1 + 1, 0, none⟩), .pointer (some ⟨w.heap.size + 1 + 1 + 1, 0, none⟩)], .int .i64 x.1, .agg #[.int .u64 (at' t x.1).1, .int .u64 (at' t x.1).2], undef, undef, undef, undef, undef, undef, undef, undef], defers := [] })
    (fun x a' _ X Y row hs hg hr => by obtain ⟨Bx, h1, h2, h3⟩ := hs; exact ⟨Bx, h1, boxed_obj Bx _ rfl () X Y row h2 hg (fun r e => (hr r e).2), h3⟩)
    ?assign ?body ?done ?stop
  case assign =>
    rintro l pre x W K ⟨⟨⟨u, hu, hrow, _⟩, bF⟩, hB1⟩ hK
    have hle : w.heap.size ≤ W.heap.size := hB1.size
    unfold encs
    gi_wp2
    exact hK _ _ ((KeepsOthers.alloc _ _).from _) (Keeps.alloc hle _) ⟨⟨⟨u, hu.alloc _, hrow.alloc _, trivial⟩, bF.alloc _⟩, hB1.alloc hB1.size _⟩ ⟨W.heap.size, bF.lt, World.alloc_heap_new W _, rfl⟩
  case body =>
    rintro l pre x a' W hl ⟨r, hr⟩ ⟨⟨⟨u, hu, hrow, _⟩, bF⟩, hB1⟩ ⟨Bx, hBx, bX, rfl⟩ hlt
    obtain ⟨p, q, hpq⟩ : ∃ p q, at' t x.1 = (p, q) := ⟨_, _, rfl⟩
    have hur : Ur (p, q) := by rw [← hpq]; exact hrr.out _ (at_mem (by rw [hN]; exact x.2))
    rw [hpq] at bX ⊢
    dsimp only at bX ⊢
    obtain ⟨c0, c1⟩ := rec2_cells bX
    have hfd : (Fence.wide.inRound l).depth = none := rfl
    have hff : ∀ f, (Fence.wide.inRound l).fn f := fun _ => trivial
    have hle := hB1.size
    have hBl := (Array.getElem?_eq_some_iff.1 bX).1
    by_cases h0 : p = 0 ∧ q = 0
    · obtain ⟨rfl, rfl⟩ := h0
      have hno := Lib.hid (rs_no (pre := pre) hpq)
      gi_wp2_with (gi_at_call 86; refine (CallsIn.inRound l (callsIn_wide.2 (empty_any _ _ _))).mono ?_; rintro e w' ⟨rfl, rfl⟩)
      exact ⟨(KeepsOthers.alloc _ _).from _, Keeps.alloc hle _, ⟨⟨u, hu.alloc _, by rw [hno.out]; exact hrow.alloc _, trivial⟩, bF.alloc _⟩, hB1.alloc hB1.size _⟩
    · have hyes := Lib.hid (rs_yes (pre := pre) (x := x) (t := t) (by rw [hpq]; intro e; cases e; exact h0 ⟨rfl, rfl⟩))
      rw [hpq] at hyes
      have hb : ((p == 0) && (q == 0)) = false := by
        rw [Bool.and_eq_false_iff]
        by_cases e : p = 0
        · exact .inr (by simpa using fun e2 => h0 ⟨e, e2⟩)
        · exact .inl (by simpa using e)
      have hlen := rs_len t pre
      have hE2 := fun W => empty_any p q W
      rw [hb] at hE2
      have HE2 := Lib.hid hE2
      clear h0 hE2 hb
      have hvA : Boxed (W.alloc (Rec2 p q)) w.heap.size 55 u := hu.alloc _
      have hrowA := hrow.alloc (Rec2 p q)
      have hcA := hvA.cell
      have hBA : Below w.heap.size w (W.alloc (Rec2 p q)) := hB1.alloc hB1.size _
      have two := two_cells (W.alloc (Rec2 p q)) (.int .u64 p) (.int .u64 q)
      rw [World.size_alloc] at two
      have Two := Lib.hid two
      have g0 : (W.alloc (Rec2 p q)).cell? ⟨Bx, 0, none⟩ = some (.int .u64 p) := (Ext.new W _).cell c0
      have g1 : (W.alloc (Rec2 p q)).cell? ⟨Bx, 1, none⟩ = some (.int .u64 q) := (Ext.new W _).cell c1
      have hlA : W.heap.size + 1 = (W.alloc (Rec2 p q)).heap.size := by simp
      have HLA := Lib.hid hlA
      clear two hlA
      gi_wp2_with (first
        | (gi_at_call 86; refine (CallsIn.inRound l (callsIn_wide.2 (HE2.out _))).mono ?_; rintro e w' ⟨rfl, rfl⟩)
        | (gi_at_builtin; refine wpListIn_append_own _ rfl _ _ 55 rfl w.heap.size 80 i0 (.agg #[.int .u64 0, .int .u64 0]) 2 16 Tryz.underlying55 hi hz0 hz1 hz2 rfl (by decide) _ _ _ rfl (hrowA.alloc _) ⟨W.heap.size + 1, 0, none⟩ 1 1 [.int .u64 p, .int .u64 q] rfl rfl Two.out (by simp [Value.oneCell']) (by unfold maxLen; omega) (by omega) (by simp; omega) ?_; intro v' w1 hown' hgrow _; obtain ⟨g', cap', rfl⟩ := ownsRow_succ hown'; obtain ⟨hv1, hv2, hr2, hk2, hb2⟩ := hvA.appended (by decide) hrowA hBA.size (Nat.le_refl _) hown' hgrow; have hc1 := hv1.cell; have hf1 := hv1.frozen))
      have kk : ∀ {B : Nat} {ty : TypeId} {vv un : Value}, ty ≠ 80 → w.heap.size ≠ B → Boxed W B ty vv → Boxed (w1.setCell ⟨w.heap.size, 0, none⟩ un) B ty vv := fun {B ty vv un} h1 h2 hb => (((hb.alloc (Rec2 p q)).alloc _).kept hgrow ((hb.alloc (Rec2 p q)).not_row h1 hrowA)).other (fun e => h2 e.symm) _
      exact ⟨((KeepsOthers.alloc W (Rec2 p q)).trans hk2).from _, ⟨((Below.refl _ W).alloc hle _).trans hb2, kk (by decide) (by omega), kk (by decide) (by omega), kk (by decide) (by omega)⟩,
        ⟨⟨_, hv2, by rw [hyes.out, flat_append, List.length_append]; exact hr2, trivial⟩, kk (by decide) (by omega) bF⟩, hBA.trans hb2⟩
  case done =>
    rintro D ys W hD hxs ⟨⟨⟨u, hu, hrow, _⟩, bF⟩, hB1⟩ hK
    obtain ⟨sl, c', rfl⟩ := own_form hrow
    have hc := hu.cell
    have hsum := Lib.hid (rs_all hN hxs)
    gi_wp2
    refine ⟨by simp, .inl ⟨_, _, rfl, run_takeDeferred hK, ?_⟩⟩
    have hr3 := ownsRow_putObj hrow (.deferred none) hK rfl
    rw [hsum.out] at hr3
    refine ⟨_, results_tmp rfl _ _ _, _, rfl, ?_, hB1.trans (belowK_b (w := w) (Nat.le_refl _) W D _ _ (by omega) hK rfl rfl)⟩
    rw [← hsum.out]; rw [← hsum.out] at hr3; exact hr3
  case stop =>
    rintro D c pre W _ _ h _
    exact h.elim

end Go.Proofs.YtmonkcekkhfafaaGreatDoor.Prb

/- PrbColl:
  What slices.Collect of slices.Values returns: the records, in new memory. Condition: the records are there.
-/
namespace Go.Proofs.YtmonkcekkhfafaaGreatDoor.Prb
open Go.RowKit Go.Shelf

def encl (l : List Rc) (n : Nat) (x : At n) : Array Value := #[.agg #[.int .u64 (at' l x.1).1, .int .u64 (at' l x.1).2]]

theorem values_any (s : Option Addr) (m c : Nat) (w : World) : Calls Tryz.prog 50 #[.slice s m c] w fun e w' =>
    e = .returned (.func (.func 92) #[] #[.pointer (some ⟨w.heap.size, 0, none⟩)]) ∧ w' = w.alloc (.cells #[.slice s m c] 55) := by
  go_enter Tryz.func50, Tryz.ntmps50
  go_wp2
  go_ret
  exact ⟨rfl, rfl⟩

set_option maxRecDepth 100000 in
set_option maxHeartbeats 4000000 in
theorem values1_in (mm : Nat) (s : Option Addr) (n c B lp : Nat) (l : List Rc) (w0 : World) (J Jx : List (At n) → World → Prop) (W : World) (hQ : QS w0 s n c l) (hE : Ext w0 W) (hJ : AbidesFrom W.heap.size J)
    (b0 : Boxed W B 55 (.slice s n c))
    (hY : ∀ pre x W1, J pre W1 → pre.length < n → YieldAt Fence.wide (mm - 1) Tryz.prog lp (encl l n x) W1 fun e W' =>
      (e = .returned (.bool true) ∧ J (pre ++ [x]) W' ∧ Below w0.heap.size W1 W') ∨ (e = .returned (.bool false) ∧ Jx (pre ++ [x]) W'))
    (h0 : J [] W) :
    CallsIn Fence.wide mm Tryz.prog 92 #[.func (.yield lp) #[] #[], .pointer (some ⟨B, 0, none⟩)] W fun e W' => (∃ v, e = .returned v) ∧
      ((∃ xs : List (At n), plc xs = List.range n ∧ J xs W') ∨ (∃ pre : List (At n), True ∧ Jx pre W')) := by
  have hc0 := b0.cell
  have hn := hQ.le
  have hfn : ∀ f, Fence.wide.fn f := fun _ => trivial
  have hdep : Fence.wide.depth = none := rfl
  have HQ := Lib.hid hQ
  clear hQ
  refine callsIn_of_wp Tryz.func92 rfl trivial ?_ rfl
  simp only [Tryz.ntmps92, List.size_toArray, List.length_cons, List.length_nil, Nat.reduceAdd, Nat.reduceSub, Array.replicate_succ, Array.replicate_zero, List.push_toArray, List.append_toArray, List.nil_append, List.cons_append]
  gi_wp2
  clear hc0
  gi_loopw [7] (fun i wr => ∃ (k : Nat) (pre : List (At n)), k ≤ n ∧ i = .int .i64 k ∧ RowKit.Hid (plc pre = List.range k) ∧ J pre wr ∧ Ext w0 wr) (fun i _ => n - (RowKit.intOf i).toNat)
  case atStart => exact ⟨0, [], by omega, rfl, Lib.hid rfl, h0, hE⟩
  case round =>
    obtain ⟨k, pre, hk, rfl, hp, hJs, hEs⟩ := hrel
    by_cases hlt : k < n
    · obtain ⟨p, x, hx, up, ux, b, o, rfl, e0, e1⟩ := (HQ.out.ext hEs).get hlt
      have hu : RowKit.Hid (at' l k = (p, x)) := Lib.hid (by unfold at'; rw [hx]; rfl)
      have hJ6 := hJ pre wr (wr.alloc (Rec2 p x)) none hJs (World.grownBy_alloc _ _ _) (fun r e => by cases e)
      have hlen : pre.length < n := by
        have h1 : (plc pre).length = (List.range k).length := by rw [hp.out]
        simp at h1; omega
      obtain ⟨fn, tmps, assign, body, hy, hR⟩ := hY pre ⟨k, hlt⟩ _ hJ6 hlen
      dsimp only [encl] at hy
      rw [hu.out] at hy
      dsimp only at hy
      have hkn : (k : Int) < n := by omega
      clear hx hJ6
      gi_wp2
      refine hR.mono ?_
      rintro e W3 (⟨rfl, hJ3, hk3⟩ | ⟨rfl, hJx3⟩)
      · gi_wp2
        go_roundw
        case rel => exact ⟨k + 1, pre ++ [⟨k, hlt⟩], by omega, by go_num, Lib.hid (by rw [List.range_succ, ← hp.out]; simp), hJ3, Below.trans (Ext.alloc hEs _) hk3⟩
        case measure => simp [RowKit.intOf]; omega
      · gi_wp2
        refine bodyPost_ret (results_none rfl _ _ _) rfl ?_
        exact ⟨⟨_, rfl⟩, .inr ⟨_, trivial, hJx3⟩⟩
    · obtain rfl : k = n := by omega
      gi_wp2
      go_end0
      exact ⟨⟨_, rfl⟩, .inl ⟨pre, hp.out, hJs⟩⟩

theorem values_stops (mm : Nat) (s : Option Addr) (n c B : Nat) (l : List Rc) (w0 w : World) (hQ : QS w0 s n c l) (hE : Ext w0 w) (b0 : Boxed w B 55 (.slice s n c)) :
    SeqStopsK Fence.wide mm Tryz.prog 92 #[.pointer (some ⟨B, 0, none⟩)] (encl l n) (Below w0.heap.size) (fun xs => plc xs = List.range n) (fun _ => True) n w := fun lp J Jx W hW hJ _ hY h0 =>
  values1_in mm s n c B lp l w0 J Jx W hQ (Ext.trans hE hW) hJ ((hW.block _ b0.lt).trans b0) hY h0

/-- What has come. -/
def cs (l : List Rc) {n : Nat} (pre : List (At n)) : List Rc := pre.map fun x => at' l x.1
theorem cs_snoc (l : List Rc) {n : Nat} (pre : List (At n)) (x : At n) : cs l (pre ++ [x]) = cs l pre ++ [at' l x.1] := by unfold cs; simp
theorem cs_all {l : List Rc} {n : Nat} (hn : l.length = n) {xs : List (At n)} (h : plc xs = List.range n) : cs l xs = l := by
  have e1 : xs.map (fun x => at' l x.1) = (plc xs).map (at' l) := by simp [plc]
  unfold cs; rw [e1, h, at_range hn]

set_option maxRecDepth 100000 in
set_option maxHeartbeats 4000000 in
theorem appendSeq_any (s : Option Addr) (n c B : Nat) (l : List Rc) (w : World) (hQ : QS w s n c l) (b0 : Boxed w B 55 (.slice s n c)) :
    Calls Tryz.prog 116 #[.slice none 0 0, .func (.func 92) #[] #[.pointer (some ⟨B, 0, none⟩)]] w fun e w' => ∃ u, e = .returned u ∧ w'.ownsRow w.heap.size 80 2 u l.length (flat l) ∧ Ext w w' := by
  have hfn : ∀ f, Fence.wide.fn f := fun _ => trivial
  have hsa := Oper.semAt_some
  have hdep : Fence.wide.depth = none := rfl
  have hn := hQ.le
  have hr : RowKit.Hid (∀ r ∈ l, Ur r) := Lib.hid hQ.range
  have hln := Lib.hid hQ.len
  obtain ⟨i0, hi, hz0, hz1, hz2⟩ := info_parts info34
  refine (callsIn_wide (n := 9)).1 ?_
  refine callsIn_of_wp_marks Tryz.func116 rfl trivial ?_ rfl
  simp only [Tryz.ntmps116, List.size_toArray, List.length_cons, List.length_nil, Nat.reduceAdd, Nat.reduceSub, Array.replicate_succ, Array.replicate_zero, List.push_toArray, List.append_toArray, List.nil_append, List.cons_append]
  gi_wp2
  obtain ⟨W0, hW0⟩ : ∃ W0, w.alloc (.cells #[.slice none 0 0] 55) = W0 := ⟨_, rfl⟩
  have bO : Boxed W0 w.heap.size 55 (.slice none 0 0) := by rw [← hW0]; exact Boxed.new w 55 (.slice none 0 0)
  have hE : Ext w W0 := by rw [← hW0]; exact (Ext.refl w).alloc _
  have hsz : W0.heap.size = w.heap.size + 1 := by rw [← hW0]; simp
  have b1 : Boxed W0 B 55 (.slice s n c) := (hE.block _ b0.lt).trans b0
  rw [hW0]
  clear hW0
  refine wpIn_rangeFunc_ownH rfl (by omega) (gf := 92) (lb := #[.pointer (some ⟨B, 0, none⟩)]) rfl trivial (enters_of Tryz.func92 (by kernel_rfl) rfl)
    (values_stops _ s n c B l w W0 hQ hE b1) belowK_t (belowK_b (by omega)) (Below.refl _ _) (fun _ => rfl)
    (fun pre W => (∃ u, Boxed W w.heap.size 55 u ∧ W.ownsRow w.heap.size 80 2 u (cs l pre).length (flat (cs l pre)) ∧ True) ∧ Below w.heap.size w W)
    (fun _ _ _ => False)
    (OwnFrom.and (Own.from (holdsRow_own w.heap.size w.heap.size 55 80 2 (fun pre => (cs l pre).length) (fun pre => flat (cs l pre)) (fun _ _ => True)) _) (ownFrom_below (Nat.le_refl _) (by omega)))
    (fun _ _ _ _ _ hs _ _ => hs)
    ⟨⟨_, bO, World.ownsRow_nil _ _ _ _, trivial⟩, hE⟩
    (fun x a' W => ∃ Bx, w.heap.size < Bx ∧ W.heap[Bx]? = some (Rec2 (at' l x.1).1 (at' l x.1).2) ∧ a' = { tmps := #[.slice none 0 0, .func (.func 92) #[] #[.pointer (some ⟨B, 0, none⟩)], .pointer (some ⟨w.heap.size, 0, none⟩), undef, .slice none 0 0, .pointer (some ⟨Bx, 0, none⟩),
      .func (.func 92) #[] #[.pointer (some ⟨B, 0, none⟩)], .agg #[.int .u64 (at' l x.1).1, .int .u64 (at' l x.1).2], undef, undef, undef, undef, undef], defers := [] })
    (fun x a' _ X Y row hs hg hr => by obtain ⟨Bx, h1, h2, h3⟩ := hs; exact ⟨Bx, h1, boxed_obj Bx _ rfl () X Y row h2 hg (fun r e => (hr r e).2), h3⟩)
    ?assign ?body ?done ?stop
  case assign =>
    rintro lp pre x W K ⟨⟨u, hu, hrow, _⟩, hB1⟩ hK
    have hle : w.heap.size ≤ W.heap.size := hB1.size
    unfold encl
    gi_wp2
    exact hK _ _ ((KeepsOthers.alloc _ _).from _) ((Below.refl _ W).alloc hle _) ⟨⟨u, hu.alloc _, hrow.alloc _, trivial⟩, hB1.alloc hB1.size _⟩ ⟨W.heap.size, hu.lt, World.alloc_heap_new W _, rfl⟩
  case body =>
    rintro lp pre x a' W hl ⟨r, hrr⟩ ⟨⟨u, hu, hrow, _⟩, hB1⟩ ⟨Bx, hBx, bX, rfl⟩ hlt
    obtain ⟨p, q, hpq⟩ : ∃ p q, at' l x.1 = (p, q) := ⟨_, _, rfl⟩
    have hyes := Lib.hid (cs_snoc l pre x)
    rw [hpq] at bX hyes ⊢
    dsimp only at bX ⊢
    obtain ⟨c0, c1⟩ := rec2_cells bX
    have hfd : (Fence.wide.inRound lp).depth = none := rfl
    have hff : ∀ f, (Fence.wide.inRound lp).fn f := fun _ => trivial
    have hle := hB1.size
    have hlen : (cs l pre).length = pre.length := by unfold cs; simp
    have hlen2 : (cs l pre).length < n := by omega
    have hc := hu.cell
    have Two := Lib.hid (two_cells W (.int .u64 p) (.int .u64 q))
    clear hlen hpq
    gi_wp2_with (gi_at_builtin; refine wpListIn_append_own _ rfl _ _ 55 rfl w.heap.size 80 i0 (.agg #[.int .u64 0, .int .u64 0]) 2 16 Tryz.underlying55 hi hz0 hz1 hz2 rfl (by decide) _ _ _ rfl (hrow.alloc _) ⟨W.heap.size, 0, none⟩ 1 1 [.int .u64 p, .int .u64 q] rfl rfl Two.out (by simp [Value.oneCell']) (by unfold maxLen; omega) (by omega) (by simp; omega) ?_; intro v' w1 hown' hgrow _; obtain ⟨g', cap', rfl⟩ := ownsRow_succ hown'; obtain ⟨hv1, hv2, hr2, hk2, hb2⟩ := hu.appended (by decide) hrow hB1.size (Nat.le_refl _) hown' hgrow; have hc1 := hv1.cell; have hf1 := hv1.frozen)
    exact ⟨hk2.from _, hb2, ⟨_, hv2, by rw [hyes.out, flat_append, List.length_append]; exact hr2, trivial⟩, hB1.trans hb2⟩
  case done =>
    rintro D ys W hD hxs ⟨⟨u, hu, hrow, _⟩, hB1⟩ hK
    obtain ⟨sl, c', rfl⟩ := own_form hrow
    have hc := hu.cell
    have hsum := Lib.hid (cs_all hln.out hxs)
    gi_wp2
    refine ⟨by simp, .inl ⟨_, _, rfl, run_takeDeferred hK, ?_⟩⟩
    have hr3 := ownsRow_putObj hrow (.deferred none) hK rfl
    refine ⟨_, results_tmp rfl _ _ _, _, rfl, ?_, hB1.trans (belowK_b (w := w) (Nat.le_refl _) W D _ _ (by omega) hK rfl rfl)⟩
    have e1 : l.length = (cs l ys).length := by rw [hsum.out]
    have e2 : flat l = flat (cs l ys) := by rw [hsum.out]
    rw [e1, e2]; exact hr3
  case stop =>
    rintro D c pre W _ _ h _
    exact h.elim

theorem collect_any (s : Option Addr) (n c B : Nat) (l : List Rc) (w : World) (hQ : QS w s n c l) (b0 : Boxed w B 55 (.slice s n c)) :
    Calls Tryz.prog 90 #[.func (.func 92) #[] #[.pointer (some ⟨B, 0, none⟩)]] w fun e w' => ∃ u, e = .returned u ∧ w'.ownsRow w.heap.size 80 2 u l.length (flat l) ∧ Ext w w' := by
  have hA := Lib.hid (appendSeq_any s n c B l w hQ b0)
  clear hQ b0
  go_enter Tryz.func90, Tryz.ntmps90
  go_wp2_with (fail)
  refine hA.out.mono ?_
  rintro e w1 ⟨u, rfl, hrow, hE⟩
  obtain ⟨sl, c', rfl⟩ := own_form hrow
  go_wp2_with (fail)
  go_ret
  exact ⟨_, rfl, hrow, hE⟩

end Go.Proofs.YtmonkcekkhfafaaGreatDoor.Prb

