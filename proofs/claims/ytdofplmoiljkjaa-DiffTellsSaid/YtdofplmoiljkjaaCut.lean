/-
  Slices of writes and of words that are cut, and writes appended onto nil, one slice after another. Conditions: the slices are there, the cuts within them.
-/
import Derived.Test.YtdofplmoiljkjaaAwake
namespace Go.Proofs.Ytdofplmoiljkjaa
open Go.RowKit (Below intOf)

theorem RS.take {w : World} {sl : Option Addr} {n c k : Nat} {ys : List Wr} (h : RS w sl n c ys) (hk : k ≤ n) : RS w sl k c (ys.take k) := by
  refine ⟨by rw [List.length_take, h.len]; omega, by have := h.le; omega, by have := h.lc; omega, h.cle, fun j y hy => ?_⟩
  rw [List.getElem?_take] at hy
  split at hy
  · exact h.2.2.2.2 j y hy
  · cases hy
theorem WS.take {w : World} {sl : Option Addr} {n c k : Nat} {xs : List Int} (h : WS w sl n c xs) (hk : k ≤ n) : WS w sl k c (xs.take k) := by
  refine ⟨by rw [List.length_take, h.len]; omega, by have := h.le; omega, by have := h.lc; omega, h.cle, fun j y hy => ?_⟩
  rw [List.getElem?_take] at hy
  split at hy
  · exact h.2.2.2.2 j y hy
  · cases hy

/-- Where a cut begins. -/
def cutAt (sl : Option Addr) (c k : Nat) : Option Addr := if c = k then sl else sl.map (·.add (k * 2))
theorem RS.drop {w : World} {sl : Option Addr} {n c k : Nat} {ys : List Wr} (h : RS w sl n c ys) (hk : k ≤ n) : RS w (cutAt sl c k) (n - k) (c - k) (ys.drop k) := by
  refine ⟨by rw [List.length_drop, h.len], by have := h.le; omega, by have := h.lc; omega, by have := h.cle; omega, fun j y hy => ?_⟩
  rw [List.getElem?_drop] at hy
  obtain ⟨h1, h2, b, o, rfl, hc, hd⟩ := h.2.2.2.2 (k + j) y hy
  have hl : k + j < n := by rw [← h.len]; exact (List.getElem?_eq_some_iff.1 hy).1
  refine ⟨h1, h2, b, o + k * 2, ?_, ?_, ?_⟩
  · unfold cutAt
    rw [if_neg (by have := h.lc; omega), Option.map_some, add_is]
  · rw [show o + k * 2 + j * 2 = o + (k + j) * 2 by omega]; exact hc
  · rw [show o + k * 2 + j * 2 + 1 = o + (k + j) * 2 + 1 by omega]; exact hd

theorem size48 (w : World) : (sizeOf 48).run Try.prog w = .ok 2 w := Try.sizeOf48 w
theorem elem23 : Try.prog.underlying 23 = some (.slice (Try.prog.elem 23)) := by kernel_rfl
theorem elem23_is : Try.prog.elem 23 = 48 := by kernel_rfl

theorem slice_hi (sl : Option Addr) (m c i : Nat) (h : i ≤ c) (w : World) : (Instr.sliceAt 23 (.slice sl m c) none (some (.int .i64 (i : Int))) none).run Try.prog w = .ok (.slice sl i c) w := by
  rw [run_sliceAt_slice _ _ _ _ _ _ elem23, run_slice_h _ _ _ _ _ elem23 _ _ (by omega) (by omega), elem23_is, size48]
  have e : sl.map (fun x => x.add (0 * 2)) = sl := by
    cases sl with
    | none => rfl
    | some a => obtain ⟨b, o, sp⟩ := a; simp [Addr.add]
  simp only [Result.andThen, sliced, Int.toNat_natCast, e, ite_self, Nat.sub_zero]
theorem slice_lo (sl : Option Addr) (m c i : Nat) (h : i ≤ m) (w : World) : (Instr.sliceAt 23 (.slice sl m c) (some (.int .i64 (i : Int))) none none).run Try.prog w = .ok (.slice (cutAt sl c i) (m - i) (c - i)) w := by
  rw [run_sliceAt_slice _ _ _ _ _ _ elem23, run_slice_l _ _ _ _ _ elem23 _ _ (by omega) (by omega), elem23_is, size48]
  simp only [Result.andThen, sliced, Int.toNat_natCast, cutAt]

theorem step_append_run {P : Program} (w : World) {ops : Array Oper} {o : Oper} {a : Act} {K : Act → World → Prop} {Q : Exit → Act → World → Prop} {E : Prop} (hgd : o.guard = none) (s x : Operand) (t tn : TypeId)
    (ho : o.op = .call { callee := .builtin .append, args := #[s, x], argTypes := #[t, tn] }) (vs vx : Value) (hs : a.eval s = vs) (hx : a.eval x = vx)
    (v' : Value) (w' : World) (hr : (Builtin.append_ #[t, tn] o.type #[vs, vx]).run P w = .ok v' w') (h : K (a.put o.dst v') w') :
    if Region.wanted o (yielded ops a.tmps) = true then Oper.wp P o a w K Q else E := by
  have hw : Region.wanted o (yielded ops a.tmps) = true := by simp [Region.wanted, hgd]
  rw [if_pos hw]
  exact Lib.wp_append_run w s x t tn ho vs vx hs hx v' w' hr h

/-- append(append(nil, one...), two...). -/
theorem append_two {w : World} {s1 s2 : Option Addr} {n1 n2 c1 c2 : Nat} {ys zs : List Wr} (h1 : RS w s1 n1 c1 ys) (h2 : RS w s2 n2 c2 zs) (hle : n1 + n2 ≤ 1048576) :
    ∃ sa ca wa sb cb wb, (Builtin.append_ #[23, 23] 23 #[.slice none 0 0, .slice s1 n1 c1]).run Try.prog w = .ok (.slice sa n1 ca) wa ∧ (Builtin.append_ #[23, 23] 23 #[.slice sa n1 ca, .slice s2 n2 c2]).run Try.prog wa = .ok (.slice sb (n1 + n2 : Nat) cb) wb ∧ RS wb sb (n1 + n2) cb (ys ++ zs) ∧ Ext w wb := by
  obtain ⟨va, wa, ra, oa, ga⟩ := append_writes (n := 0) (m := n1) (ys := []) (World.ownsRow_nil w w.heap.size 48 2 : w.ownsRow w.heap.size 48 2 _ 0 (flat [])) h1 (by omega) (Nat.le_refl _) 23
  rw [Nat.zero_add, List.nil_append] at oa
  have ea : Ext w wa := Ext.grown (Ext.refl w) ga (fun k e => by simp [Value.ownBlock] at e)
  obtain ⟨sa, ca, rfl⟩ := own_form oa
  obtain ⟨vb, wb, rb, ob, gb⟩ := append_writes (m := n2) oa (h2.ext ea) (by omega) ea.size 23
  obtain ⟨sb, cb, rfl⟩ := own_form ob
  exact ⟨sa, ca, wa, sb, cb, wb, ra, rb, rs_of_own ob (by rw [List.length_append, h1.len, h2.len]) hle (fun y hy => (List.mem_append.1 hy).elim (h1.range y) (h2.range y)), Ext.grown ea gb (own_ge oa)⟩

/-- append(append(nil, l[:i]...), l[i+1:]...), in a region that draws its order. -/
theorem cut_less {w : World} {sl : Option Addr} {m c i : Nat} {ys : List Wr} (h : RS w sl m c ys) (hi : i < m) :
    ∃ s2 n2 c2 sa ca wa sb N cb wb, (∀ W, (Instr.sliceAt 23 (.slice sl m c) none (some (.int .i64 (i : Int))) none).run Try.prog W = .ok (.slice sl i c) W) ∧
      (∀ W, (Instr.sliceAt 23 (.slice sl m c) (some (.int .i64 ((i : Int) + 1))) none none).run Try.prog W = .ok (.slice s2 n2 c2) W) ∧
      (Builtin.append_ #[23, 23] 23 #[.slice none 0 0, .slice sl i c]).run Try.prog w.drew = .ok (.slice sa i ca) wa ∧ (Builtin.append_ #[23, 23] 23 #[.slice sa i ca, .slice s2 n2 c2]).run Try.prog wa = .ok (.slice sb N cb) wb ∧
      RS wb sb N cb (ys.take i ++ ys.drop (i + 1)) ∧ Ext w wb := by
  have hd := h.ext (Ext.drew (Ext.refl w))
  have hl := h.le
  have hc := h.lc
  obtain ⟨sa, ca, wa, sb, cb, wb, ra, rb, hR, hE⟩ := append_two (hd.take (k := i) (by omega)) (hd.drop (k := i + 1) (by omega)) (by omega)
  exact ⟨_, _, _, sa, ca, wa, sb, _, cb, wb, fun W => slice_hi sl m c i (by omega) W, fun W => slice_lo sl m c (i + 1) (by omega) W, ra, rb, hR, Ext.trans (Ext.drew (Ext.refl w)) hE⟩

/-- append(append(nil, l[i:]...), l[:i]...). -/
theorem cut_turn {w : World} {sl : Option Addr} {m c i : Nat} {ys : List Wr} (h : RS w sl m c ys) (hi : i ≤ m) :
    ∃ s2 n2 c2 sa ca wa sb N cb wb, (∀ W, (Instr.sliceAt 23 (.slice sl m c) none (some (.int .i64 (i : Int))) none).run Try.prog W = .ok (.slice sl i c) W) ∧
      (∀ W, (Instr.sliceAt 23 (.slice sl m c) (some (.int .i64 (i : Int))) none none).run Try.prog W = .ok (.slice s2 n2 c2) W) ∧
      (Builtin.append_ #[23, 23] 23 #[.slice none 0 0, .slice s2 n2 c2]).run Try.prog w.drew = .ok (.slice sa n2 ca) wa ∧ (Builtin.append_ #[23, 23] 23 #[.slice sa n2 ca, .slice sl i c]).run Try.prog wa = .ok (.slice sb N cb) wb ∧
      RS wb sb N cb (ys.drop i ++ ys.take i) ∧ Ext w wb := by
  have hd := h.ext (Ext.drew (Ext.refl w))
  have hl := h.le
  have hc := h.lc
  obtain ⟨sa, ca, wa, sb, cb, wb, ra, rb, hR, hE⟩ := append_two (hd.drop (k := i) (by omega)) (hd.take (k := i) (by omega)) (by omega)
  exact ⟨_, _, _, sa, ca, wa, sb, _, cb, wb, fun W => slice_hi sl m c i (by omega) W, fun W => slice_lo sl m c i (by omega) W, ra, rb, hR, Ext.trans (Ext.drew (Ext.refl w)) hE⟩

end Go.Proofs.Ytdofplmoiljkjaa
