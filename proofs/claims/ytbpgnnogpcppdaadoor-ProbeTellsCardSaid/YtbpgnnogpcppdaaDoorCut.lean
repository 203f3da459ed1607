/-
  Slices of records that are cut, records appended onto rows of one's own, and records put into a list in order. Conditions: the slices are there, the cuts within them.
-/
import Derived.Test.YtbpgnnogpcppdaaDoorLeaf
import Derived.Lib.AppendZeros
import Derived.Deep.RegionHeld3
namespace Go.Proofs.YtbpgnnogpcppdaaDoor
open Go.RowKit (Below intOf)

theorem QS.take {w : World} {sl : Option Addr} {n c k : Nat} {ys : List Rc} (h : QS w sl n c ys) (hk : k ≤ n) : QS w sl k c (ys.take k) := by
  refine ⟨by rw [List.length_take, h.len]; omega, by have := h.le; omega, by have := h.lc; omega, h.cle, fun j y hy => ?_⟩
  rw [List.getElem?_take] at hy
  split at hy
  · exact h.2.2.2.2 j y hy
  · cases hy
theorem WS.take {w : World} {sl : Option Addr} {n c k : Nat} {xs : List Int} (h : WS w sl n c xs) (hk : k ≤ n) : WS w sl k c (xs.take k) := by
  refine ⟨by rw [List.length_take, h.len]; omega, by have := h.le; omega, by have := h.lc; omega, h.cle, fun j y hy => ?_⟩
  rw [List.getElem?_take] at hy
  split at hy
  · exact h.2.2.2.2 j y hy
  · cases hy

/-- Where a cut begins. -/
def cutAt (sl : Option Addr) (c k : Nat) : Option Addr := if c = k then sl else sl.map (·.add (k * 2))
theorem QS.drop {w : World} {sl : Option Addr} {n c k : Nat} {ys : List Rc} (h : QS w sl n c ys) (hk : k ≤ n) : QS w (cutAt sl c k) (n - k) (c - k) (ys.drop k) := by
  refine ⟨by rw [List.length_drop, h.len], by have := h.le; omega, by have := h.lc; omega, by have := h.cle; omega, fun j y hy => ?_⟩
  rw [List.getElem?_drop] at hy
  obtain ⟨h1, b, o, rfl, hc, hd⟩ := h.2.2.2.2 (k + j) y hy
  have hl : k + j < n := by rw [← h.len]; exact (List.getElem?_eq_some_iff.1 hy).1
  refine ⟨h1, b, o + k * 2, ?_, ?_, ?_⟩
  · unfold cutAt
    rw [if_neg (by have := h.lc; omega), Option.map_some, add_is]
  · rw [show o + k * 2 + j * 2 = o + (k + j) * 2 by omega]; exact hc
  · rw [show o + k * 2 + j * 2 + 1 = o + (k + j) * 2 + 1 by omega]; exact hd

theorem elem32 : Tryd.prog.underlying 32 = some (.slice (Tryd.prog.elem 32)) := by kernel_rfl
theorem elem32_is : Tryd.prog.elem 32 = 34 := by kernel_rfl
theorem elem23 : Tryd.prog.underlying 23 = some (.slice (Tryd.prog.elem 23)) := by kernel_rfl
theorem elem23_is : Tryd.prog.elem 23 = 24 := by kernel_rfl

theorem slice_hi (sl : Option Addr) (m c i : Nat) (h : i ≤ c) (w : World) : (Instr.sliceAt 32 (.slice sl m c) none (some (.int .i64 (i : Int))) none).run Tryd.prog w = .ok (.slice sl i c) w := by
  rw [run_sliceAt_slice _ _ _ _ _ _ elem32, run_slice_h _ _ _ _ _ elem32 _ _ (by omega) (by omega), elem32_is, Tryd.sizeOf34]
  have e : sl.map (fun x => x.add (0 * 2)) = sl := by
    cases sl with
    | none => rfl
    | some a => obtain ⟨b, o, sp⟩ := a; simp [Addr.add]
  simp only [Result.andThen, sliced, Int.toNat_natCast, e, ite_self, Nat.sub_zero]
theorem slice_lo (sl : Option Addr) (m c i : Nat) (h : i ≤ m) (w : World) : (Instr.sliceAt 32 (.slice sl m c) (some (.int .i64 (i : Int))) none none).run Tryd.prog w = .ok (.slice (cutAt sl c i) (m - i) (c - i)) w := by
  rw [run_sliceAt_slice _ _ _ _ _ _ elem32, run_slice_l _ _ _ _ _ elem32 _ _ (by omega) (by omega), elem32_is, Tryd.sizeOf34]
  simp only [Result.andThen, sliced, Int.toNat_natCast, cutAt]

theorem step_append_run {P : Program} (w : World) {ops : Array Oper} {o : Oper} {a : Act} {K : Act → World → Prop} {Q : Exit → Act → World → Prop} {E : Prop} (hgd : o.guard = none) (s x : Operand) (t tn : TypeId)
    (ho : o.op = .call { callee := .builtin .append, args := #[s, x], argTypes := #[t, tn] }) (vs vx : Value) (hs : a.eval s = vs) (hx : a.eval x = vx)
    (v' : Value) (w' : World) (hr : (Builtin.append_ #[t, tn] o.type #[vs, vx]).run P w = .ok v' w') (h : K (a.put o.dst v') w') :
    if Region.wanted o (yielded ops a.tmps) = true then Oper.wp P o a w K Q else E := by
  have hw : Region.wanted o (yielded ops a.tmps) = true := by simp [Region.wanted, hgd]
  rw [if_pos hw]
  exact Lib.wp_append_run w s x t tn ho vs vx hs hx v' w' hr h

theorem step_append_recs (w : World) {ops : Array Oper} {o : Oper} {a : Act} {K : Act → World → Prop} {Q : Exit → Act → World → Prop} {E : Prop} (hgd : o.guard = none) (s x : Operand)
    (ho : o.op = .call { callee := .builtin .append, args := #[s, x], argTypes := #[32, 32] }) (base n : Nat) (v : Value) (ys : List Rc) (hs : a.eval s = v) (hown : w.ownsRow base 34 2 v n (flat ys))
    (sl : Option Addr) (m c : Nat) (zs : List Rc) (hx : a.eval x = .slice sl m c) (hS : QS w sl m c zs) (L : Nat) (hL : n + m = L) (hle : L ≤ 4194304) (hbase : base ≤ w.heap.size)
    (h : ∀ sl' c' w', w'.ownsRow base 34 2 (.slice sl' L c') L (flat (ys ++ zs)) → w.grownBy w' v.ownBlock → K (a.put o.dst (.slice sl' L c')) w') :
    if Region.wanted o (yielded ops a.tmps) = true then Oper.wp Tryd.prog o a w K Q else E := by
  subst hL
  obtain ⟨v', w', hr, ho2, hg⟩ := append_recs hown hS hle hbase o.type
  obtain ⟨sl', c', rfl⟩ := own_form ho2
  exact step_append_run w hgd s x 32 32 ho _ _ hs hx _ _ hr (h sl' c' w' ho2 hg)

/-- A slice of one record that was just built. -/
theorem qs_lit (w : World) (p x : Int) (hp : U64 p) (hx : U64 x) : QS (w.alloc (.cells #[.int .u64 p, .int .u64 x] 34)) (some ⟨w.heap.size, 0, none⟩) 1 1 [(p, x)] := by
  refine ⟨rfl, by omega, by omega, by omega, fun j y hj => ?_⟩
  have hj0 : j = 0 := by have := (List.getElem?_eq_some_iff.1 hj).1; simp at this; omega
  subst hj0
  simp at hj
  subst hj
  refine ⟨⟨hp, hx⟩, w.heap.size, 0, rfl, ?_, ?_⟩
  · unfold World.cell?; rw [World.alloc_heap_new]; rfl
  · unfold World.cell?; rw [World.alloc_heap_new]; rfl

/-- A record put into a list in order. -/
theorem ins_perm (ys : List Rc) (a : Nat) (r : Rc) : (ys.take a ++ [r] ++ ys.drop a).Perm (ys ++ [r]) := by
  conv => rhs; rw [← List.take_append_drop a ys]
  rw [List.append_assoc, List.append_assoc]
  exact (List.Perm.refl _).append List.perm_append_comm
theorem ins_pair {le : Rc → Rc → Bool} (ht : ∀ a b c, le a b = true → le b c = true → le a c = true) {ys : List Rc} (h : ys.Pairwise fun a b => le a b = true) {a : Nat} {r : Rc}
    (hlo : a = 0 ∨ ∃ q, ys[a - 1]? = some q ∧ le q r = true) (hhi : ∀ (i : Nat) (y : Rc), a ≤ i → ys[i]? = some y → le r y = true) : (ys.take a ++ [r] ++ ys.drop a).Pairwise fun a b => le a b = true := by
  have hlo2 : ∀ y ∈ ys.take a, le y r = true := fun y hy => by
    obtain ⟨i, hi⟩ := List.mem_iff_getElem?.1 hy
    rw [List.getElem?_take] at hi
    split at hi
    · rename_i hia
      rcases hlo with rfl | ⟨q, hq, hqp⟩
      · omega
      · obtain ⟨l1, e1⟩ := List.getElem?_eq_some_iff.1 hi
        obtain ⟨l2, e2⟩ := List.getElem?_eq_some_iff.1 hq
        by_cases e : i = a - 1
        · subst e; rw [hi] at hq; cases hq; exact hqp
        · have := List.pairwise_iff_getElem.1 h i (a - 1) l1 l2 (by omega)
          rw [e1, e2] at this
          exact ht _ _ _ this hqp
    · cases hi
  have hhi2 : ∀ y ∈ ys.drop a, le r y = true := fun y hy => by
    obtain ⟨i, hi⟩ := List.mem_iff_getElem?.1 hy
    rw [List.getElem?_drop] at hi
    exact hhi (a + i) y (by omega) hi
  have h1 := h
  rw [← List.take_append_drop a ys, List.pairwise_append] at h1
  rw [List.append_assoc, List.pairwise_append]
  refine ⟨h1.1, ?_, fun y hy z hz => ?_⟩
  · rw [List.cons_append, List.nil_append, List.pairwise_cons]
    exact ⟨hhi2, h1.2.1⟩
  · rcases List.mem_cons.1 (by simpa using hz) with rfl | hz
    · exact hlo2 y hy
    · exact h1.2.2 y hy z hz

/-- What has been put in order of the first j. -/
structure Some' (le : Rc → Rc → Bool) (all : List Rc) (j : Nat) (ys : List Rc) : Prop where
  perm : ys.Perm (all.take j)
  pair : ys.Pairwise fun a b => le a b = true
theorem some_zero (le : Rc → Rc → Bool) (all : List Rc) : Some' le all 0 [] := ⟨by simp, List.Pairwise.nil⟩
theorem some_put {le : Rc → Rc → Bool} (ht : ∀ a b c, le a b = true → le b c = true → le a c = true) {all ys : List Rc} {j a : Nat} {r : Rc} (h : Some' le all j ys) (hj : all[j]? = some r)
    (hlo : a = 0 ∨ ∃ q, ys[a - 1]? = some q ∧ le q r = true) (hhi : ∀ (i : Nat) (y : Rc), a ≤ i → ys[i]? = some y → le r y = true) : Some' le all (j + 1) (ys.take a ++ [r] ++ ys.drop a) :=
  ⟨by rw [take_snoc hj]; exact (ins_perm ys a r).trans (h.perm.append_right _), ins_pair ht h.pair hlo hhi⟩
theorem some_done {le : Rc → Rc → Bool} {all ys : List Rc} {n : Nat} (hn : all.length = n) (h : Some' le all n ys) : ys.Perm all ∧ ys.Pairwise fun a b => le a b = true :=
  ⟨by have := h.perm; rwa [List.take_of_length_le (by omega)] at this, h.pair⟩
theorem some_len {le : Rc → Rc → Bool} {all ys : List Rc} {j : Nat} (h : Some' le all j ys) : ys.length ≤ j := by
  rw [h.perm.length_eq, List.length_take]; omega

end Go.Proofs.YtbpgnnogpcppdaaDoor
