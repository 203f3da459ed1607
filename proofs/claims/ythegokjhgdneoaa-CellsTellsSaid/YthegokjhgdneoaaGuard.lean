/-
  What guarded does with whatever closure it is handed: one that returns, one that is refused. Conditions: the closure's own contract, and that it leaves guarded's result variable alone.
-/
import Derived.Test.YthegokjhgdneoaaLeaf
import Derived.Defers
import Derived.Recover
import Derived.Deep.AppendLies
namespace Go.Proofs.Ythegokjhgdneoaa

theorem assert1 (w : World) : (Instr.typeAssert (.iface 30 (.int .i64 1)) 20 30 false).run Try.prog w = .ok (.int .i64 1) w := by kernel_rfl

theorem catch_no (p : Addr) (x : Int) (w : World) (hc : w.cell? p = some (.int .i64 x)) (hz : w.frozen? p = false) :
    CallsD Try.prog 40 #[.pointer (some p)] (.panicking no1) w fun e u' w' =>
      e = .returned (.tuple #[]) ∧ u' = .panicking [{ v := .iface 30 (.int .i64 1), recovered := true }] ∧ w' = w.setCell p (.int .i64 1) := by
  refine callsD_of_wpS Try.func40 rfl fun c₀ cs hu => ?_
  apply wpS_seq
  apply wpS_region
  simp [wpOpsS, go_sem, recoverD, hu, Try.ntmps40, Exit.thenS, no1]
  apply wpS_seq
  apply wpS_region
  simp [wpOpsS, go_sem, Exit.thenS]
  refine wpS_cond (t := true) (by simp [Act.eval, Array.replicate]) ?_
  simp only [if_true]
  apply wpS_region
  simp [wpOpsS, go_sem, assert1, hc, hz, bodyPostS, results, Try.results40]

theorem catch_idle (p : Addr) (w : World) :
    CallsD Try.prog 40 #[.pointer (some p)] .returning w fun e u' w' => e = .returned (.tuple #[]) ∧ u' = .returning ∧ w' = w := by
  refine callsD_of_wpS Try.func40 rfl fun c₀ cs hu => ?_
  apply wpS_seq
  apply wpS_region
  simp [wpOpsS, go_sem, recoverD, hu, Try.ntmps40, Exit.thenS]
  apply wpS_seq
  apply wpS_region
  simp [wpOpsS, go_sem, Exit.thenS]
  refine wpS_cond (t := false) (by simp [Act.eval, Array.replicate]) ?_
  simp only [Bool.false_eq_true, if_false]
  refine wpS_of_wp (wp_skip ?_)
  cases c₀
  simp_all [bodyPostS, results, Try.results40]

/-- guarded's result variable. -/
def res0 : Obj := .cells #[.int .i64 0] 30

theorem guarded_yes (K : Nat) (caps : Array Value) (w : World) (R : World → Prop)
    (hK : ∀ w, (callFunc K caps).run Try.prog w = .ok (.enter K caps) w)
    (h : Calls Try.prog K caps (w.alloc res0) fun e w' => e = .returned (.tuple #[]) ∧ w'.cell? ⟨w.heap.size, 0, none⟩ = some (.int .i64 0) ∧ w'.frozen? ⟨w.heap.size, 0, none⟩ = false ∧ R w') :
    Calls Try.prog 22 #[.func (.func K) #[] caps] w fun e w' => e = .returned (.int .i64 0) ∧ ∃ w1, w' = w1.setCell ⟨w.heap.size, 0, none⟩ (.int .i64 0) ∧ R w1 := by
  have hmf : ∀ (fn : Fn) (first cap : Array Value) (w : World), (Instr.makeFunc fn first cap).run Try.prog w = .ok (.func fn first cap) w := fun _ _ _ _ => rfl
  have H := Lib.hid h
  clear h
  unfold res0 at H
  go_enter_defers Try.func22, Try.ntmps22
  go_wp2
  refine H.out.mono ?_
  rintro e w1 ⟨rfl, hc, hf, hR⟩
  go_wp2
  refine leaves_cons (f := 40) (args := #[.pointer (some ⟨w.heap.size, 0, none⟩)]) (by simp) (by simp [go_sem]) ?_
  refine (catch_idle ⟨w.heap.size, 0, none⟩ _).mono ?_
  rintro e u' w'' ⟨rfl, rfl, rfl⟩
  simp [Leaves, settle, results, Try.results22, go_sem, hc]
  exact ⟨w1, rfl, hR⟩

theorem guarded_no (K : Nat) (caps : Array Value) (w : World) (R : World → Prop)
    (hK : ∀ w, (callFunc K caps).run Try.prog w = .ok (.enter K caps) w)
    (h : Calls Try.prog K caps (w.alloc res0) fun e w' => e = .panicked no1 ∧ w'.cell? ⟨w.heap.size, 0, none⟩ = some (.int .i64 0) ∧ w'.frozen? ⟨w.heap.size, 0, none⟩ = false ∧ R w') :
    Calls Try.prog 22 #[.func (.func K) #[] caps] w fun e w' => e = .returned (.int .i64 1) ∧ ∃ w1, w' = w1.setCell ⟨w.heap.size, 0, none⟩ (.int .i64 1) ∧ R w1 := by
  have hmf : ∀ (fn : Fn) (first cap : Array Value) (w : World), (Instr.makeFunc fn first cap).run Try.prog w = .ok (.func fn first cap) w := fun _ _ _ _ => rfl
  have H := Lib.hid h
  clear h
  unfold res0 at H
  go_enter_defers Try.func22, Try.ntmps22
  go_wp2
  refine H.out.mono ?_
  rintro e w1 ⟨rfl, hc, hf, hR⟩
  refine leaves_cons (f := 40) (args := #[.pointer (some ⟨w.heap.size, 0, none⟩)]) (by simp) (by simp [go_sem]) ?_
  refine (catch_no ⟨w.heap.size, 0, none⟩ 0 _ hc hf).mono ?_
  rintro e u' w'' ⟨rfl, rfl, rfl⟩
  simp [Leaves, settle, results, Try.results22, go_sem, hc]
  exact ⟨w1, rfl, hR⟩

end Go.Proofs.Ythegokjhgdneoaa
