/-
  What New returns: memory of so many cells, all 0, or ErrArg. Condition: the integer that is said.
-/
import Derived.Test.YthegokjhgdneoaaNo
namespace Go.Proofs.Ythegokjhgdneoaa

set_option maxHeartbeats 1000000 in
theorem new_yes_mid (n : Int) (w : World) (h0 : 0 ≤ n) (h1 : n ≤ 1048576) :
    Calls Try.prog 22 #[.func (.func 23) #[] #[.pointer (some ⟨w.heap.size, 0, none⟩), .pointer (some ⟨w.heap.size + 1, 0, none⟩)]] ((w.alloc (.cells #[.int .i64 n] 3)).alloc (.cells #[.slice none 0 0] 29))
      fun e w' => e = .returned (.int .i64 0) ∧ w'.cell? ⟨w.heap.size + 1, 0, none⟩ = some (.slice (some ⟨w.heap.size + 3, 0, none⟩) n.toNat n.toNat) ∧ w'.frozen? ⟨w.heap.size + 1, 0, none⟩ = false ∧
        Row w' (w.heap.size + 3) (List.replicate n.toNat (0, 0)) ∧ w.grownBy w' none ∧ w.heap.size + 3 < w'.heap.size := by
  have gB : w.grownBy (((w.alloc (.cells #[.int .i64 n] 3)).alloc (.cells #[.slice none 0 0] 29)).alloc res0) none := grown_trans (grown_trans (World.grownBy_alloc _ _ none) (World.grownBy_alloc _ _ none)) (World.grownBy_alloc _ _ none)
  have hzB : (((w.alloc (.cells #[.int .i64 n] 3)).alloc (.cells #[.slice none 0 0] 29)).alloc res0).heap.size = w.heap.size + 3 := by simp
  generalize hWB : ((w.alloc (.cells #[.int .i64 n] 3)).alloc (.cells #[.slice none 0 0] 29)).alloc res0 = WB at gB hzB
  have c0 : WB.cell? ⟨w.heap.size, 0, none⟩ = some (.int .i64 n) := by rw [← hWB]; simp [go_sem, res0]
  have c1 : WB.cell? ⟨w.heap.size + 1, 0, none⟩ = some (.slice none 0 0) := by rw [← hWB]; simp [go_sem, res0]
  have f1 : WB.frozen? ⟨w.heap.size + 1, 0, none⟩ = false := by rw [← hWB]; simp [go_sem, res0]
  have cr : WB.cell? ⟨w.heap.size + 2, 0, none⟩ = some (.int .i64 0) := by rw [← hWB]; simp [go_sem, res0]
  have fr : WB.frozen? ⟨w.heap.size + 2, 0, none⟩ = false := by rw [← hWB]; simp [go_sem, res0]
  have hin : Calls Try.prog 23 #[.pointer (some ⟨w.heap.size, 0, none⟩), .pointer (some ⟨w.heap.size + 1, 0, none⟩)] WB fun e w1 => e = .returned (.tuple #[]) ∧ w1.cell? ⟨w.heap.size + 2, 0, none⟩ = some (.int .i64 0) ∧ w1.frozen? ⟨w.heap.size + 2, 0, none⟩ = false ∧
      (w1.cell? ⟨w.heap.size + 1, 0, none⟩ = some (.slice (some ⟨w.heap.size + 3, 0, none⟩) n.toNat n.toNat) ∧ w1.frozen? ⟨w.heap.size + 1, 0, none⟩ = false ∧ Row w1 (w.heap.size + 3) (List.replicate n.toNat (0, 0)) ∧ w.grownBy w1 none ∧ w.heap.size + 3 < w1.heap.size) := by
    refine (new_in _ _ n _ _ c0 c1 f1 h0 h1).mono ?_
    rintro e w1 ⟨rfl, rfl⟩
    have hrow := row_made WB n.toNat
    rw [hzB] at hrow ⊢
    refine ⟨rfl, ?_, ?_, World.cell?_setCell_same _ _ _ (alloc_cell _ c1), ?_, hrow.far (grown_set _ _ _ _) (by simp), grown_new (grown_trans gB (World.grownBy_alloc _ _ none)) (grown_set _ _ _ _) (by omega), by simp; omega⟩
    · rw [cell_set_far _ (by omega)]; exact alloc_cell _ cr
    · rw [frozen_set, alloc_frozen _ cr]; exact fr
    · rw [frozen_set, alloc_frozen _ c1]; exact f1
  subst hWB
  have hz : ((w.alloc (.cells #[.int .i64 n] 3)).alloc (.cells #[.slice none 0 0] 29)).heap.size = w.heap.size + 2 := by simp
  have hG := guarded_yes 23 _ ((w.alloc (.cells #[.int .i64 n] 3)).alloc (.cells #[.slice none 0 0] 29)) (fun w1 => w1.cell? ⟨w.heap.size + 1, 0, none⟩ = some (.slice (some ⟨w.heap.size + 3, 0, none⟩) n.toNat n.toNat) ∧ w1.frozen? ⟨w.heap.size + 1, 0, none⟩ = false ∧ Row w1 (w.heap.size + 3) (List.replicate n.toNat (0, 0)) ∧ w.grownBy w1 none ∧ w.heap.size + 3 < w1.heap.size) (enters 23 (by omega) _) (by rw [hz]; exact hin)
  rw [hz] at hG
  refine hG.mono ?_
  rintro e w2 ⟨rfl, w1, rfl, hc, hf, hr, hg1, hl⟩
  refine ⟨rfl, ?_, ?_, hr.far (grown_set _ _ _ _) (by simp), grown_new hg1 (grown_set _ _ _ _) (by omega), by simp; omega⟩
  · rw [cell_set_far _ (by omega)]; exact hc
  · simpa using hf

set_option maxHeartbeats 1000000 in
theorem new_yes_any (n : Int) (w : World) (h0 : 0 ≤ n) (h1 : n ≤ 1048576) :
    Calls Try.prog 10 #[.int .i64 n] w fun e w' => e = .returned (.tuple #[.agg #[.slice (some ⟨w.heap.size + 3, 0, none⟩) n.toNat n.toNat], .int .i64 0]) ∧ Row w' (w.heap.size + 3) (List.replicate n.toNat (0, 0)) ∧ w.grownBy w' none ∧ w.heap.size + 3 < w'.heap.size := by
  have hmf : ∀ (fn : Fn) (first cap : Array Value) (w : World), (Instr.makeFunc fn first cap).run Try.prog w = .ok (.func fn first cap) w := fun _ _ _ _ => rfl
  go_enter Try.func10, Try.ntmps10
  go_wp2_with (first
    | (go_at_call 22; with_reducible refine (new_yes_mid _ _ h0 h1).mono ?_; rintro e w' ⟨rfl, hc, hf, hr, hg, hl⟩))
  refine bodyPost_ret (v := .tuple #[.agg #[.slice (some ⟨w.heap.size + 3, 0, none⟩) n.toNat n.toNat], .int .i64 0]) (by simp [results, Try.results10, go_sem, hc]) rfl ⟨rfl, ?_, ?_, ?_⟩
  · exact hr.far (grown_set _ _ _ _) (by simp)
  · exact grown_new hg (grown_set _ _ _ _) (by omega)
  · simpa using hl

set_option maxHeartbeats 1000000 in
theorem new_no_mid (n : Int) (w : World) (hb : n < 0 ∨ 1048576 < n) :
    Calls Try.prog 22 #[.func (.func 23) #[] #[.pointer (some ⟨w.heap.size, 0, none⟩), .pointer (some ⟨w.heap.size + 1, 0, none⟩)]] ((w.alloc (.cells #[.int .i64 n] 3)).alloc (.cells #[.slice none 0 0] 29))
      fun e w' => e = .returned (.int .i64 1) ∧ w'.cell? ⟨w.heap.size + 1, 0, none⟩ = some (.slice none 0 0) ∧ w'.frozen? ⟨w.heap.size + 1, 0, none⟩ = false ∧ w.grownBy w' none := by
  have gB : w.grownBy (((w.alloc (.cells #[.int .i64 n] 3)).alloc (.cells #[.slice none 0 0] 29)).alloc res0) none := grown_trans (grown_trans (World.grownBy_alloc _ _ none) (World.grownBy_alloc _ _ none)) (World.grownBy_alloc _ _ none)
  generalize hWB : ((w.alloc (.cells #[.int .i64 n] 3)).alloc (.cells #[.slice none 0 0] 29)).alloc res0 = WB at gB
  have c0 : WB.cell? ⟨w.heap.size, 0, none⟩ = some (.int .i64 n) := by rw [← hWB]; simp [go_sem, res0]
  have c1 : WB.cell? ⟨w.heap.size + 1, 0, none⟩ = some (.slice none 0 0) := by rw [← hWB]; simp [go_sem, res0]
  have f1 : WB.frozen? ⟨w.heap.size + 1, 0, none⟩ = false := by rw [← hWB]; simp [go_sem, res0]
  have cr : WB.cell? ⟨w.heap.size + 2, 0, none⟩ = some (.int .i64 0) := by rw [← hWB]; simp [go_sem, res0]
  have fr : WB.frozen? ⟨w.heap.size + 2, 0, none⟩ = false := by rw [← hWB]; simp [go_sem, res0]
  have hin : Calls Try.prog 23 #[.pointer (some ⟨w.heap.size, 0, none⟩), .pointer (some ⟨w.heap.size + 1, 0, none⟩)] WB fun e w1 => e = .panicked no1 ∧ w1.cell? ⟨w.heap.size + 2, 0, none⟩ = some (.int .i64 0) ∧ w1.frozen? ⟨w.heap.size + 2, 0, none⟩ = false ∧
      (w1.cell? ⟨w.heap.size + 1, 0, none⟩ = some (.slice none 0 0) ∧ w1.frozen? ⟨w.heap.size + 1, 0, none⟩ = false ∧ w.grownBy w1 none) := by
    refine (new_bad _ _ n _ c0 hb).mono ?_
    rintro e w1 ⟨rfl, m, rfl⟩
    exact ⟨rfl, cr, fr, c1, f1, grown_trans gB (grown_drewN _ m _)⟩
  subst hWB
  have hz : ((w.alloc (.cells #[.int .i64 n] 3)).alloc (.cells #[.slice none 0 0] 29)).heap.size = w.heap.size + 2 := by simp
  have hG := guarded_no 23 _ ((w.alloc (.cells #[.int .i64 n] 3)).alloc (.cells #[.slice none 0 0] 29)) (fun w1 => w1.cell? ⟨w.heap.size + 1, 0, none⟩ = some (.slice none 0 0) ∧ w1.frozen? ⟨w.heap.size + 1, 0, none⟩ = false ∧ w.grownBy w1 none) (enters 23 (by omega) _) (by rw [hz]; exact hin)
  rw [hz] at hG
  refine hG.mono ?_
  rintro e w2 ⟨rfl, w1, rfl, hc, hf, hg1⟩
  refine ⟨rfl, ?_, ?_, grown_new hg1 (grown_set _ _ _ _) (by omega)⟩
  · rw [cell_set_far _ (by omega)]; exact hc
  · simpa using hf

set_option maxHeartbeats 1000000 in
theorem new_no_any (n : Int) (w : World) (hb : n < 0 ∨ 1048576 < n) :
    Calls Try.prog 10 #[.int .i64 n] w fun e w' => e = .returned (.tuple #[.agg #[.slice none 0 0], .int .i64 1]) ∧ w.grownBy w' none := by
  have hmf : ∀ (fn : Fn) (first cap : Array Value) (w : World), (Instr.makeFunc fn first cap).run Try.prog w = .ok (.func fn first cap) w := fun _ _ _ _ => rfl
  have hb' := Lib.hid hb
  clear hb
  go_enter Try.func10, Try.ntmps10
  go_wp2_with (first
    | (go_at_call 22; with_reducible refine (new_no_mid _ _ hb'.out).mono ?_; rintro e w' ⟨rfl, hc, hf, hg⟩))
  refine bodyPost_ret (v := .tuple #[.agg #[.slice none 0 0], .int .i64 1]) (by simp [results, Try.results10, go_sem, hc]) rfl ⟨rfl, ?_⟩
  exact grown_new hg (grown_set _ _ _ _) (by omega)

end Go.Proofs.Ythegokjhgdneoaa
