/-
  What the calls of package cells return where something is refused: ErrArg, nothing else, and memory as it was; and what New returns. Conditions: the arguments that are said.
-/
import Derived.Test.YthegokjhgdneoaaApi
namespace Go.Proofs.Ythegokjhgdneoaa

set_option maxHeartbeats 1000000 in
theorem load_bad_m_mid (i : Int) (mq : Option Addr) (w : World) (hb : Bad w mq i) :
    Calls Try.prog 22 #[.func (.func 31) #[] #[.pointer (some ⟨w.heap.size, 0, none⟩), .pointer (some ⟨w.heap.size + 1, 0, none⟩), .pointer (some ⟨w.heap.size + 2, 0, none⟩)]] (((w.alloc (.cells #[.pointer mq] 36)).alloc (.cells #[.int .i64 i] 3)).alloc (.cells #[.int .u64 0] 23))
      fun e w' => e = .returned (.int .i64 1) ∧ w'.cell? ⟨w.heap.size + 2, 0, none⟩ = some (.int .u64 0) ∧ w'.frozen? ⟨w.heap.size + 2, 0, none⟩ = false ∧ w.grownBy w' none := by
  have gB : w.grownBy ((((w.alloc (.cells #[.pointer mq] 36)).alloc (.cells #[.int .i64 i] 3)).alloc (.cells #[.int .u64 0] 23)).alloc res0) none := grown_trans (grown_trans (grown_trans (World.grownBy_alloc _ _ none) (World.grownBy_alloc _ _ none)) (World.grownBy_alloc _ _ none)) (World.grownBy_alloc _ _ none)
  generalize hWB : (((w.alloc (.cells #[.pointer mq] 36)).alloc (.cells #[.int .i64 i] 3)).alloc (.cells #[.int .u64 0] 23)).alloc res0 = WB at gB
  have c0 : WB.cell? ⟨w.heap.size, 0, none⟩ = some (.pointer mq) := by rw [← hWB]; simp [go_sem, res0]
  have c1 : WB.cell? ⟨w.heap.size + 1, 0, none⟩ = some (.int .i64 i) := by rw [← hWB]; simp [go_sem, res0]
  have c2 : WB.cell? ⟨w.heap.size + 2, 0, none⟩ = some (.int .u64 0) := by rw [← hWB]; simp [go_sem, res0]
  have f2 : WB.frozen? ⟨w.heap.size + 2, 0, none⟩ = false := by rw [← hWB]; simp [go_sem, res0]
  have cr : WB.cell? ⟨w.heap.size + 3, 0, none⟩ = some (.int .i64 0) := by rw [← hWB]; simp [go_sem, res0]
  have fr : WB.frozen? ⟨w.heap.size + 3, 0, none⟩ = false := by rw [← hWB]; simp [go_sem, res0]
  have hin : Calls Try.prog 31 #[.pointer (some ⟨w.heap.size, 0, none⟩), .pointer (some ⟨w.heap.size + 1, 0, none⟩), .pointer (some ⟨w.heap.size + 2, 0, none⟩)] WB fun e w1 => e = .panicked no1 ∧ w1.cell? ⟨w.heap.size + 3, 0, none⟩ = some (.int .i64 0) ∧ w1.frozen? ⟨w.heap.size + 3, 0, none⟩ = false ∧ (w1.cell? ⟨w.heap.size + 2, 0, none⟩ = some (.int .u64 0) ∧ w1.frozen? ⟨w.heap.size + 2, 0, none⟩ = false ∧ w.grownBy w1 none) := by
    refine (load_bad _ _ _ i mq _ c0 c1 (hb.far gB)).mono ?_
    rintro e w1 ⟨rfl, m, rfl⟩
    exact ⟨rfl, cr, fr, c2, f2, grown_trans gB (grown_drewN _ m _)⟩
  subst hWB
  have hz : (((w.alloc (.cells #[.pointer mq] 36)).alloc (.cells #[.int .i64 i] 3)).alloc (.cells #[.int .u64 0] 23)).heap.size = w.heap.size + 3 := by simp
  have hG := guarded_no 31 #[.pointer (some ⟨w.heap.size, 0, none⟩), .pointer (some ⟨w.heap.size + 1, 0, none⟩), .pointer (some ⟨w.heap.size + 2, 0, none⟩)] (((w.alloc (.cells #[.pointer mq] 36)).alloc (.cells #[.int .i64 i] 3)).alloc (.cells #[.int .u64 0] 23)) (fun w1 => w1.cell? ⟨w.heap.size + 2, 0, none⟩ = some (.int .u64 0) ∧ w1.frozen? ⟨w.heap.size + 2, 0, none⟩ = false ∧ w.grownBy w1 none) (enters 31 (by omega) _) (by rw [hz]; exact hin)
  rw [hz] at hG
  refine hG.mono ?_
  rintro e w2 ⟨rfl, w1, rfl, hc, hf, hg1⟩
  refine ⟨rfl, ?_, ?_, grown_new hg1 (grown_set _ _ _ _) (by omega)⟩
  · rw [cell_set_far _ (by omega)]; exact hc
  · simpa using hf

set_option maxHeartbeats 1000000 in
theorem load_bad_m_any (i : Int) (mq : Option Addr) (w : World) (hb : Bad w mq i) :
    Calls Try.prog 15 #[.pointer mq, .int .i64 i] w fun e w' => e = .returned (.tuple #[.int .u64 0, .int .i64 1]) ∧ w.grownBy w' none := by
  have hmf : ∀ (fn : Fn) (first cap : Array Value) (w : World), (Instr.makeFunc fn first cap).run Try.prog w = .ok (.func fn first cap) w := fun _ _ _ _ => rfl
  have hb' := Lib.hid hb
  clear hb
  go_enter Try.func15, Try.ntmps15
  go_wp2_with (first
    | (go_at_call 22; with_reducible refine (load_bad_m_mid _ _ _ hb'.out).mono ?_; rintro e w' ⟨rfl, hc, hf, hg⟩))
  refine bodyPost_ret (v := .tuple #[.int .u64 0, .int .i64 1]) (by simp [results, Try.results15, go_sem, hc]) rfl ⟨rfl, ?_⟩
  exact grown_new hg (grown_set _ _ _ _) (by omega)

set_option maxHeartbeats 1000000 in
theorem store_bad_m_mid (i z : Int) (mq : Option Addr) (w : World) (hb : Bad w mq i) :
    Calls Try.prog 22 #[.func (.func 33) #[] #[.pointer (some ⟨w.heap.size, 0, none⟩), .pointer (some ⟨w.heap.size + 1, 0, none⟩), .pointer (some ⟨w.heap.size + 2, 0, none⟩)]] (((w.alloc (.cells #[.pointer mq] 36)).alloc (.cells #[.int .i64 i] 3)).alloc (.cells #[.int .u64 z] 23))
      fun e w' => e = .returned (.int .i64 1) ∧ w.grownBy w' none := by
  have gB : w.grownBy ((((w.alloc (.cells #[.pointer mq] 36)).alloc (.cells #[.int .i64 i] 3)).alloc (.cells #[.int .u64 z] 23)).alloc res0) none := grown_trans (grown_trans (grown_trans (World.grownBy_alloc _ _ none) (World.grownBy_alloc _ _ none)) (World.grownBy_alloc _ _ none)) (World.grownBy_alloc _ _ none)
  generalize hWB : (((w.alloc (.cells #[.pointer mq] 36)).alloc (.cells #[.int .i64 i] 3)).alloc (.cells #[.int .u64 z] 23)).alloc res0 = WB at gB
  have c0 : WB.cell? ⟨w.heap.size, 0, none⟩ = some (.pointer mq) := by rw [← hWB]; simp [go_sem, res0]
  have c1 : WB.cell? ⟨w.heap.size + 1, 0, none⟩ = some (.int .i64 i) := by rw [← hWB]; simp [go_sem, res0]
  have c2 : WB.cell? ⟨w.heap.size + 2, 0, none⟩ = some (.int .u64 z) := by rw [← hWB]; simp [go_sem, res0]
  have cr : WB.cell? ⟨w.heap.size + 3, 0, none⟩ = some (.int .i64 0) := by rw [← hWB]; simp [go_sem, res0]
  have fr : WB.frozen? ⟨w.heap.size + 3, 0, none⟩ = false := by rw [← hWB]; simp [go_sem, res0]
  have hin : Calls Try.prog 33 #[.pointer (some ⟨w.heap.size, 0, none⟩), .pointer (some ⟨w.heap.size + 1, 0, none⟩), .pointer (some ⟨w.heap.size + 2, 0, none⟩)] WB fun e w1 => e = .panicked no1 ∧ w1.cell? ⟨w.heap.size + 3, 0, none⟩ = some (.int .i64 0) ∧ w1.frozen? ⟨w.heap.size + 3, 0, none⟩ = false ∧ (w.grownBy w1 none) := by
    refine (store_bad _ _ _ i z mq _ c0 c1 c2 (hb.far gB)).mono ?_
    rintro e w1 ⟨rfl, m, rfl⟩
    exact ⟨rfl, cr, fr, grown_trans gB (grown_drewN _ m _)⟩
  subst hWB
  have hz : (((w.alloc (.cells #[.pointer mq] 36)).alloc (.cells #[.int .i64 i] 3)).alloc (.cells #[.int .u64 z] 23)).heap.size = w.heap.size + 3 := by simp
  have hG := guarded_no 33 #[.pointer (some ⟨w.heap.size, 0, none⟩), .pointer (some ⟨w.heap.size + 1, 0, none⟩), .pointer (some ⟨w.heap.size + 2, 0, none⟩)] (((w.alloc (.cells #[.pointer mq] 36)).alloc (.cells #[.int .i64 i] 3)).alloc (.cells #[.int .u64 z] 23)) (fun w1 => w.grownBy w1 none) (enters 33 (by omega) _) (by rw [hz]; exact hin)
  rw [hz] at hG
  refine hG.mono ?_
  rintro e w2 ⟨rfl, w1, rfl, hg1⟩
  refine ⟨rfl, grown_new hg1 (grown_set _ _ _ _) (by omega)⟩

set_option maxHeartbeats 1000000 in
theorem store_bad_m_any (i z : Int) (mq : Option Addr) (w : World) (hb : Bad w mq i) :
    Calls Try.prog 16 #[.pointer mq, .int .i64 i, .int .u64 z] w fun e w' => e = .returned (.int .i64 1) ∧ w.grownBy w' none := by
  have hmf : ∀ (fn : Fn) (first cap : Array Value) (w : World), (Instr.makeFunc fn first cap).run Try.prog w = .ok (.func fn first cap) w := fun _ _ _ _ => rfl
  have hb' := Lib.hid hb
  clear hb
  go_enter Try.func16, Try.ntmps16
  go_wp2_with (first
    | (go_at_call 22; with_reducible refine (store_bad_m_mid _ _ _ _ hb'.out).mono ?_; rintro e w' ⟨rfl, hg⟩))
  go_ret
  exact ⟨rfl, hg⟩

set_option maxHeartbeats 1000000 in
theorem ll_bad_m_mid (p i : Int) (mq : Option Addr) (w : World) (p0 : 0 ≤ p) (p1 : p < 16) (hb : Bad w mq i) :
    Calls Try.prog 22 #[.func (.func 35) #[] #[.pointer (some ⟨w.heap.size + 1, 0, none⟩), .pointer (some ⟨w.heap.size, 0, none⟩), .pointer (some ⟨w.heap.size + 2, 0, none⟩), .pointer (some ⟨w.heap.size + 3, 0, none⟩)]] ((((w.alloc (.cells #[.pointer mq] 36)).alloc (.cells #[.int .i64 p] 3)).alloc (.cells #[.int .i64 i] 3)).alloc (.cells #[.int .u64 0] 23))
      fun e w' => e = .returned (.int .i64 1) ∧ w'.cell? ⟨w.heap.size + 3, 0, none⟩ = some (.int .u64 0) ∧ w'.frozen? ⟨w.heap.size + 3, 0, none⟩ = false ∧ w.grownBy w' none := by
  have gB : w.grownBy (((((w.alloc (.cells #[.pointer mq] 36)).alloc (.cells #[.int .i64 p] 3)).alloc (.cells #[.int .i64 i] 3)).alloc (.cells #[.int .u64 0] 23)).alloc res0) none := grown_trans (grown_trans (grown_trans (grown_trans (World.grownBy_alloc _ _ none) (World.grownBy_alloc _ _ none)) (World.grownBy_alloc _ _ none)) (World.grownBy_alloc _ _ none)) (World.grownBy_alloc _ _ none)
  generalize hWB : ((((w.alloc (.cells #[.pointer mq] 36)).alloc (.cells #[.int .i64 p] 3)).alloc (.cells #[.int .i64 i] 3)).alloc (.cells #[.int .u64 0] 23)).alloc res0 = WB at gB
  have c0 : WB.cell? ⟨w.heap.size, 0, none⟩ = some (.pointer mq) := by rw [← hWB]; simp [go_sem, res0]
  have c1 : WB.cell? ⟨w.heap.size + 1, 0, none⟩ = some (.int .i64 p) := by rw [← hWB]; simp [go_sem, res0]
  have c2 : WB.cell? ⟨w.heap.size + 2, 0, none⟩ = some (.int .i64 i) := by rw [← hWB]; simp [go_sem, res0]
  have c3 : WB.cell? ⟨w.heap.size + 3, 0, none⟩ = some (.int .u64 0) := by rw [← hWB]; simp [go_sem, res0]
  have f3 : WB.frozen? ⟨w.heap.size + 3, 0, none⟩ = false := by rw [← hWB]; simp [go_sem, res0]
  have cr : WB.cell? ⟨w.heap.size + 4, 0, none⟩ = some (.int .i64 0) := by rw [← hWB]; simp [go_sem, res0]
  have fr : WB.frozen? ⟨w.heap.size + 4, 0, none⟩ = false := by rw [← hWB]; simp [go_sem, res0]
  have hin : Calls Try.prog 35 #[.pointer (some ⟨w.heap.size + 1, 0, none⟩), .pointer (some ⟨w.heap.size, 0, none⟩), .pointer (some ⟨w.heap.size + 2, 0, none⟩), .pointer (some ⟨w.heap.size + 3, 0, none⟩)] WB fun e w1 => e = .panicked no1 ∧ w1.cell? ⟨w.heap.size + 4, 0, none⟩ = some (.int .i64 0) ∧ w1.frozen? ⟨w.heap.size + 4, 0, none⟩ = false ∧ (w1.cell? ⟨w.heap.size + 3, 0, none⟩ = some (.int .u64 0) ∧ w1.frozen? ⟨w.heap.size + 3, 0, none⟩ = false ∧ w.grownBy w1 none) := by
    refine (ll_bad_m _ _ _ _ p i mq _ c1 c0 c2 p0 p1 (hb.far gB)).mono ?_
    rintro e w1 ⟨rfl, m, rfl⟩
    exact ⟨rfl, cr, fr, c3, f3, grown_trans gB (grown_drewN _ m _)⟩
  subst hWB
  have hz : ((((w.alloc (.cells #[.pointer mq] 36)).alloc (.cells #[.int .i64 p] 3)).alloc (.cells #[.int .i64 i] 3)).alloc (.cells #[.int .u64 0] 23)).heap.size = w.heap.size + 4 := by simp
  have hG := guarded_no 35 #[.pointer (some ⟨w.heap.size + 1, 0, none⟩), .pointer (some ⟨w.heap.size, 0, none⟩), .pointer (some ⟨w.heap.size + 2, 0, none⟩), .pointer (some ⟨w.heap.size + 3, 0, none⟩)] ((((w.alloc (.cells #[.pointer mq] 36)).alloc (.cells #[.int .i64 p] 3)).alloc (.cells #[.int .i64 i] 3)).alloc (.cells #[.int .u64 0] 23)) (fun w1 => w1.cell? ⟨w.heap.size + 3, 0, none⟩ = some (.int .u64 0) ∧ w1.frozen? ⟨w.heap.size + 3, 0, none⟩ = false ∧ w.grownBy w1 none) (enters 35 (by omega) _) (by rw [hz]; exact hin)
  rw [hz] at hG
  refine hG.mono ?_
  rintro e w2 ⟨rfl, w1, rfl, hc, hf, hg1⟩
  refine ⟨rfl, ?_, ?_, grown_new hg1 (grown_set _ _ _ _) (by omega)⟩
  · rw [cell_set_far _ (by omega)]; exact hc
  · simpa using hf

set_option maxHeartbeats 1000000 in
theorem ll_bad_m_any (p i : Int) (mq : Option Addr) (w : World) (p0 : 0 ≤ p) (p1 : p < 16) (hb : Bad w mq i) :
    Calls Try.prog 17 #[.pointer mq, .int .i64 p, .int .i64 i] w fun e w' => e = .returned (.tuple #[.int .u64 0, .int .i64 1]) ∧ w.grownBy w' none := by
  have hmf : ∀ (fn : Fn) (first cap : Array Value) (w : World), (Instr.makeFunc fn first cap).run Try.prog w = .ok (.func fn first cap) w := fun _ _ _ _ => rfl
  have hb' := Lib.hid hb
  clear hb
  go_enter Try.func17, Try.ntmps17
  go_wp2_with (first
    | (go_at_call 22; with_reducible refine (ll_bad_m_mid _ _ _ _ p0 p1 hb'.out).mono ?_; rintro e w' ⟨rfl, hc, hf, hg⟩))
  refine bodyPost_ret (v := .tuple #[.int .u64 0, .int .i64 1]) (by simp [results, Try.results17, go_sem, hc]) rfl ⟨rfl, ?_⟩
  exact grown_new hg (grown_set _ _ _ _) (by omega)

set_option maxHeartbeats 1000000 in
theorem ll_bad_p_mid (p i : Int) (mq : Option Addr) (w : World) (hb : p < 0 ∨ 16 ≤ p) :
    Calls Try.prog 22 #[.func (.func 35) #[] #[.pointer (some ⟨w.heap.size + 1, 0, none⟩), .pointer (some ⟨w.heap.size, 0, none⟩), .pointer (some ⟨w.heap.size + 2, 0, none⟩), .pointer (some ⟨w.heap.size + 3, 0, none⟩)]] ((((w.alloc (.cells #[.pointer mq] 36)).alloc (.cells #[.int .i64 p] 3)).alloc (.cells #[.int .i64 i] 3)).alloc (.cells #[.int .u64 0] 23))
      fun e w' => e = .returned (.int .i64 1) ∧ w'.cell? ⟨w.heap.size + 3, 0, none⟩ = some (.int .u64 0) ∧ w'.frozen? ⟨w.heap.size + 3, 0, none⟩ = false ∧ w.grownBy w' none := by
  have gB : w.grownBy (((((w.alloc (.cells #[.pointer mq] 36)).alloc (.cells #[.int .i64 p] 3)).alloc (.cells #[.int .i64 i] 3)).alloc (.cells #[.int .u64 0] 23)).alloc res0) none := grown_trans (grown_trans (grown_trans (grown_trans (World.grownBy_alloc _ _ none) (World.grownBy_alloc _ _ none)) (World.grownBy_alloc _ _ none)) (World.grownBy_alloc _ _ none)) (World.grownBy_alloc _ _ none)
  generalize hWB : ((((w.alloc (.cells #[.pointer mq] 36)).alloc (.cells #[.int .i64 p] 3)).alloc (.cells #[.int .i64 i] 3)).alloc (.cells #[.int .u64 0] 23)).alloc res0 = WB at gB
  have c0 : WB.cell? ⟨w.heap.size, 0, none⟩ = some (.pointer mq) := by rw [← hWB]; simp [go_sem, res0]
  have c1 : WB.cell? ⟨w.heap.size + 1, 0, none⟩ = some (.int .i64 p) := by rw [← hWB]; simp [go_sem, res0]
  have c2 : WB.cell? ⟨w.heap.size + 2, 0, none⟩ = some (.int .i64 i) := by rw [← hWB]; simp [go_sem, res0]
  have c3 : WB.cell? ⟨w.heap.size + 3, 0, none⟩ = some (.int .u64 0) := by rw [← hWB]; simp [go_sem, res0]
  have f3 : WB.frozen? ⟨w.heap.size + 3, 0, none⟩ = false := by rw [← hWB]; simp [go_sem, res0]
  have cr : WB.cell? ⟨w.heap.size + 4, 0, none⟩ = some (.int .i64 0) := by rw [← hWB]; simp [go_sem, res0]
  have fr : WB.frozen? ⟨w.heap.size + 4, 0, none⟩ = false := by rw [← hWB]; simp [go_sem, res0]
  have hin : Calls Try.prog 35 #[.pointer (some ⟨w.heap.size + 1, 0, none⟩), .pointer (some ⟨w.heap.size, 0, none⟩), .pointer (some ⟨w.heap.size + 2, 0, none⟩), .pointer (some ⟨w.heap.size + 3, 0, none⟩)] WB fun e w1 => e = .panicked no1 ∧ w1.cell? ⟨w.heap.size + 4, 0, none⟩ = some (.int .i64 0) ∧ w1.frozen? ⟨w.heap.size + 4, 0, none⟩ = false ∧ (w1.cell? ⟨w.heap.size + 3, 0, none⟩ = some (.int .u64 0) ∧ w1.frozen? ⟨w.heap.size + 3, 0, none⟩ = false ∧ w.grownBy w1 none) := by
    refine (ll_bad_p _ _ _ _ p i mq _ c1 c0 c2 hb).mono ?_
    rintro e w1 ⟨rfl, m, rfl⟩
    exact ⟨rfl, cr, fr, c3, f3, grown_trans gB (grown_drewN _ m _)⟩
  subst hWB
  have hz : ((((w.alloc (.cells #[.pointer mq] 36)).alloc (.cells #[.int .i64 p] 3)).alloc (.cells #[.int .i64 i] 3)).alloc (.cells #[.int .u64 0] 23)).heap.size = w.heap.size + 4 := by simp
  have hG := guarded_no 35 #[.pointer (some ⟨w.heap.size + 1, 0, none⟩), .pointer (some ⟨w.heap.size, 0, none⟩), .pointer (some ⟨w.heap.size + 2, 0, none⟩), .pointer (some ⟨w.heap.size + 3, 0, none⟩)] ((((w.alloc (.cells #[.pointer mq] 36)).alloc (.cells #[.int .i64 p] 3)).alloc (.cells #[.int .i64 i] 3)).alloc (.cells #[.int .u64 0] 23)) (fun w1 => w1.cell? ⟨w.heap.size + 3, 0, none⟩ = some (.int .u64 0) ∧ w1.frozen? ⟨w.heap.size + 3, 0, none⟩ = false ∧ w.grownBy w1 none) (enters 35 (by omega) _) (by rw [hz]; exact hin)
  rw [hz] at hG
  refine hG.mono ?_
  rintro e w2 ⟨rfl, w1, rfl, hc, hf, hg1⟩
  refine ⟨rfl, ?_, ?_, grown_new hg1 (grown_set _ _ _ _) (by omega)⟩
  · rw [cell_set_far _ (by omega)]; exact hc
  · simpa using hf

set_option maxHeartbeats 1000000 in
theorem ll_bad_p_any (p i : Int) (mq : Option Addr) (w : World) (hb : p < 0 ∨ 16 ≤ p) :
    Calls Try.prog 17 #[.pointer mq, .int .i64 p, .int .i64 i] w fun e w' => e = .returned (.tuple #[.int .u64 0, .int .i64 1]) ∧ w.grownBy w' none := by
  have hmf : ∀ (fn : Fn) (first cap : Array Value) (w : World), (Instr.makeFunc fn first cap).run Try.prog w = .ok (.func fn first cap) w := fun _ _ _ _ => rfl
  have hb' := Lib.hid hb
  clear hb
  go_enter Try.func17, Try.ntmps17
  go_wp2_with (first
    | (go_at_call 22; with_reducible refine (ll_bad_p_mid _ _ _ _ hb'.out).mono ?_; rintro e w' ⟨rfl, hc, hf, hg⟩))
  refine bodyPost_ret (v := .tuple #[.int .u64 0, .int .i64 1]) (by simp [results, Try.results17, go_sem, hc]) rfl ⟨rfl, ?_⟩
  exact grown_new hg (grown_set _ _ _ _) (by omega)

set_option maxHeartbeats 1000000 in
theorem vl_bad_m_mid (p i : Int) (mq : Option Addr) (w : World) (hb : Bad w mq i) :
    Calls Try.prog 22 #[.func (.func 37) #[] #[.pointer (some ⟨w.heap.size, 0, none⟩), .pointer (some ⟨w.heap.size + 2, 0, none⟩), .pointer (some ⟨w.heap.size + 1, 0, none⟩), .pointer (some ⟨w.heap.size + 3, 0, none⟩)]] ((((w.alloc (.cells #[.pointer mq] 36)).alloc (.cells #[.int .i64 p] 3)).alloc (.cells #[.int .i64 i] 3)).alloc (.cells #[.bool false] 4))
      fun e w' => e = .returned (.int .i64 1) ∧ w'.cell? ⟨w.heap.size + 3, 0, none⟩ = some (.bool false) ∧ w'.frozen? ⟨w.heap.size + 3, 0, none⟩ = false ∧ w.grownBy w' none := by
  have gB : w.grownBy (((((w.alloc (.cells #[.pointer mq] 36)).alloc (.cells #[.int .i64 p] 3)).alloc (.cells #[.int .i64 i] 3)).alloc (.cells #[.bool false] 4)).alloc res0) none := grown_trans (grown_trans (grown_trans (grown_trans (World.grownBy_alloc _ _ none) (World.grownBy_alloc _ _ none)) (World.grownBy_alloc _ _ none)) (World.grownBy_alloc _ _ none)) (World.grownBy_alloc _ _ none)
  generalize hWB : ((((w.alloc (.cells #[.pointer mq] 36)).alloc (.cells #[.int .i64 p] 3)).alloc (.cells #[.int .i64 i] 3)).alloc (.cells #[.bool false] 4)).alloc res0 = WB at gB
  have c0 : WB.cell? ⟨w.heap.size, 0, none⟩ = some (.pointer mq) := by rw [← hWB]; simp [go_sem, res0]
  have c1 : WB.cell? ⟨w.heap.size + 1, 0, none⟩ = some (.int .i64 p) := by rw [← hWB]; simp [go_sem, res0]
  have c2 : WB.cell? ⟨w.heap.size + 2, 0, none⟩ = some (.int .i64 i) := by rw [← hWB]; simp [go_sem, res0]
  have c3 : WB.cell? ⟨w.heap.size + 3, 0, none⟩ = some (.bool false) := by rw [← hWB]; simp [go_sem, res0]
  have f3 : WB.frozen? ⟨w.heap.size + 3, 0, none⟩ = false := by rw [← hWB]; simp [go_sem, res0]
  have cr : WB.cell? ⟨w.heap.size + 4, 0, none⟩ = some (.int .i64 0) := by rw [← hWB]; simp [go_sem, res0]
  have fr : WB.frozen? ⟨w.heap.size + 4, 0, none⟩ = false := by rw [← hWB]; simp [go_sem, res0]
  have hin : Calls Try.prog 37 #[.pointer (some ⟨w.heap.size, 0, none⟩), .pointer (some ⟨w.heap.size + 2, 0, none⟩), .pointer (some ⟨w.heap.size + 1, 0, none⟩), .pointer (some ⟨w.heap.size + 3, 0, none⟩)] WB fun e w1 => e = .panicked no1 ∧ w1.cell? ⟨w.heap.size + 4, 0, none⟩ = some (.int .i64 0) ∧ w1.frozen? ⟨w.heap.size + 4, 0, none⟩ = false ∧ (w1.cell? ⟨w.heap.size + 3, 0, none⟩ = some (.bool false) ∧ w1.frozen? ⟨w.heap.size + 3, 0, none⟩ = false ∧ w.grownBy w1 none) := by
    refine (vl_bad_m _ _ _ _ p i mq _ c0 c2 c1 (hb.far gB)).mono ?_
    rintro e w1 ⟨rfl, m, rfl⟩
    exact ⟨rfl, cr, fr, c3, f3, grown_trans gB (grown_drewN _ m _)⟩
  subst hWB
  have hz : ((((w.alloc (.cells #[.pointer mq] 36)).alloc (.cells #[.int .i64 p] 3)).alloc (.cells #[.int .i64 i] 3)).alloc (.cells #[.bool false] 4)).heap.size = w.heap.size + 4 := by simp
  have hG := guarded_no 37 #[.pointer (some ⟨w.heap.size, 0, none⟩), .pointer (some ⟨w.heap.size + 2, 0, none⟩), .pointer (some ⟨w.heap.size + 1, 0, none⟩), .pointer (some ⟨w.heap.size + 3, 0, none⟩)] ((((w.alloc (.cells #[.pointer mq] 36)).alloc (.cells #[.int .i64 p] 3)).alloc (.cells #[.int .i64 i] 3)).alloc (.cells #[.bool false] 4)) (fun w1 => w1.cell? ⟨w.heap.size + 3, 0, none⟩ = some (.bool false) ∧ w1.frozen? ⟨w.heap.size + 3, 0, none⟩ = false ∧ w.grownBy w1 none) (enters 37 (by omega) _) (by rw [hz]; exact hin)
  rw [hz] at hG
  refine hG.mono ?_
  rintro e w2 ⟨rfl, w1, rfl, hc, hf, hg1⟩
  refine ⟨rfl, ?_, ?_, grown_new hg1 (grown_set _ _ _ _) (by omega)⟩
  · rw [cell_set_far _ (by omega)]; exact hc
  · simpa using hf

set_option maxHeartbeats 1000000 in
theorem vl_bad_m_any (p i : Int) (mq : Option Addr) (w : World) (hb : Bad w mq i) :
    Calls Try.prog 18 #[.pointer mq, .int .i64 p, .int .i64 i] w fun e w' => e = .returned (.tuple #[.bool false, .int .i64 1]) ∧ w.grownBy w' none := by
  have hmf : ∀ (fn : Fn) (first cap : Array Value) (w : World), (Instr.makeFunc fn first cap).run Try.prog w = .ok (.func fn first cap) w := fun _ _ _ _ => rfl
  have hb' := Lib.hid hb
  clear hb
  go_enter Try.func18, Try.ntmps18
  go_wp2_with (first
    | (go_at_call 22; with_reducible refine (vl_bad_m_mid _ _ _ _ hb'.out).mono ?_; rintro e w' ⟨rfl, hc, hf, hg⟩))
  refine bodyPost_ret (v := .tuple #[.bool false, .int .i64 1]) (by simp [results, Try.results18, go_sem, hc]) rfl ⟨rfl, ?_⟩
  exact grown_new hg (grown_set _ _ _ _) (by omega)

set_option maxHeartbeats 1000000 in
theorem vl_bad_p_mid (mb ab : Nat) (s : Value) (L : List (Int × Int)) (p i x l : Int) (w : World) (hM : Mem w mb ab s L) (hk : L[i.toNat]? = some (x, l)) (h0 : 0 ≤ i) (hb : p < 0 ∨ 16 ≤ p) :
    Calls Try.prog 22 #[.func (.func 37) #[] #[.pointer (some ⟨w.heap.size, 0, none⟩), .pointer (some ⟨w.heap.size + 2, 0, none⟩), .pointer (some ⟨w.heap.size + 1, 0, none⟩), .pointer (some ⟨w.heap.size + 3, 0, none⟩)]] ((((w.alloc (.cells #[.pointer (some ⟨mb, 0, none⟩)] 36)).alloc (.cells #[.int .i64 p] 3)).alloc (.cells #[.int .i64 i] 3)).alloc (.cells #[.bool false] 4))
      fun e w' => e = .returned (.int .i64 1) ∧ w'.cell? ⟨w.heap.size + 3, 0, none⟩ = some (.bool false) ∧ w'.frozen? ⟨w.heap.size + 3, 0, none⟩ = false ∧ w.grownBy w' none := by
  obtain ⟨⟨c, hsl⟩, hlt⟩ := hM.slice hk h0
  have gB : w.grownBy (((((w.alloc (.cells #[.pointer (some ⟨mb, 0, none⟩)] 36)).alloc (.cells #[.int .i64 p] 3)).alloc (.cells #[.int .i64 i] 3)).alloc (.cells #[.bool false] 4)).alloc res0) none := grown_trans (grown_trans (grown_trans (grown_trans (World.grownBy_alloc _ _ none) (World.grownBy_alloc _ _ none)) (World.grownBy_alloc _ _ none)) (World.grownBy_alloc _ _ none)) (World.grownBy_alloc _ _ none)
  have hB := hM.far gB (by simp) (by simp)
  generalize hWB : ((((w.alloc (.cells #[.pointer (some ⟨mb, 0, none⟩)] 36)).alloc (.cells #[.int .i64 p] 3)).alloc (.cells #[.int .i64 i] 3)).alloc (.cells #[.bool false] 4)).alloc res0 = WB at gB hB
  obtain ⟨hx, hl, fx, fl⟩ := hB.row _ _ hk
  have hs : WB.cell? ⟨mb, 0, none⟩ = some (.slice (some ⟨ab, 0, none⟩) L.length c) := by rw [hB.m, hsl]
  have c0 : WB.cell? ⟨w.heap.size, 0, none⟩ = some (.pointer (some ⟨mb, 0, none⟩)) := by rw [← hWB]; simp [go_sem, res0]
  have c1 : WB.cell? ⟨w.heap.size + 1, 0, none⟩ = some (.int .i64 p) := by rw [← hWB]; simp [go_sem, res0]
  have c2 : WB.cell? ⟨w.heap.size + 2, 0, none⟩ = some (.int .i64 i) := by rw [← hWB]; simp [go_sem, res0]
  have c3 : WB.cell? ⟨w.heap.size + 3, 0, none⟩ = some (.bool false) := by rw [← hWB]; simp [go_sem, res0]
  have f3 : WB.frozen? ⟨w.heap.size + 3, 0, none⟩ = false := by rw [← hWB]; simp [go_sem, res0]
  have cr : WB.cell? ⟨w.heap.size + 4, 0, none⟩ = some (.int .i64 0) := by rw [← hWB]; simp [go_sem, res0]
  have fr : WB.frozen? ⟨w.heap.size + 4, 0, none⟩ = false := by rw [← hWB]; simp [go_sem, res0]
  have hin : Calls Try.prog 37 #[.pointer (some ⟨w.heap.size, 0, none⟩), .pointer (some ⟨w.heap.size + 2, 0, none⟩), .pointer (some ⟨w.heap.size + 1, 0, none⟩), .pointer (some ⟨w.heap.size + 3, 0, none⟩)] WB fun e w1 => e = .panicked no1 ∧ w1.cell? ⟨w.heap.size + 4, 0, none⟩ = some (.int .i64 0) ∧ w1.frozen? ⟨w.heap.size + 4, 0, none⟩ = false ∧ (w1.cell? ⟨w.heap.size + 3, 0, none⟩ = some (.bool false) ∧ w1.frozen? ⟨w.heap.size + 3, 0, none⟩ = false ∧ w.grownBy w1 none) := by
    refine (vl_bad_p _ _ _ _ _ _ _ _ p i l _ c0 c2 c1 hs hl h0 hlt hb).mono ?_
    rintro e w1 ⟨rfl, m, rfl⟩
    exact ⟨rfl, cr, fr, c3, f3, grown_trans gB (grown_drewN _ m _)⟩
  subst hWB
  have hz : ((((w.alloc (.cells #[.pointer (some ⟨mb, 0, none⟩)] 36)).alloc (.cells #[.int .i64 p] 3)).alloc (.cells #[.int .i64 i] 3)).alloc (.cells #[.bool false] 4)).heap.size = w.heap.size + 4 := by simp
  have hG := guarded_no 37 #[.pointer (some ⟨w.heap.size, 0, none⟩), .pointer (some ⟨w.heap.size + 2, 0, none⟩), .pointer (some ⟨w.heap.size + 1, 0, none⟩), .pointer (some ⟨w.heap.size + 3, 0, none⟩)] ((((w.alloc (.cells #[.pointer (some ⟨mb, 0, none⟩)] 36)).alloc (.cells #[.int .i64 p] 3)).alloc (.cells #[.int .i64 i] 3)).alloc (.cells #[.bool false] 4)) (fun w1 => w1.cell? ⟨w.heap.size + 3, 0, none⟩ = some (.bool false) ∧ w1.frozen? ⟨w.heap.size + 3, 0, none⟩ = false ∧ w.grownBy w1 none) (enters 37 (by omega) _) (by rw [hz]; exact hin)
  rw [hz] at hG
  refine hG.mono ?_
  rintro e w2 ⟨rfl, w1, rfl, hc, hf, hg1⟩
  refine ⟨rfl, ?_, ?_, grown_new hg1 (grown_set _ _ _ _) (by omega)⟩
  · rw [cell_set_far _ (by omega)]; exact hc
  · simpa using hf

set_option maxHeartbeats 1000000 in
theorem vl_bad_p_any (mb ab : Nat) (s : Value) (L : List (Int × Int)) (p i x l : Int) (w : World) (hM : Mem w mb ab s L) (hk : L[i.toNat]? = some (x, l)) (h0 : 0 ≤ i) (hb : p < 0 ∨ 16 ≤ p) :
    Calls Try.prog 18 #[.pointer (some ⟨mb, 0, none⟩), .int .i64 p, .int .i64 i] w fun e w' => e = .returned (.tuple #[.bool false, .int .i64 1]) ∧ w.grownBy w' none := by
  have hmf : ∀ (fn : Fn) (first cap : Array Value) (w : World), (Instr.makeFunc fn first cap).run Try.prog w = .ok (.func fn first cap) w := fun _ _ _ _ => rfl
  have hb' := Lib.hid hb
  clear hb
  have hk' := Lib.hid hk
  clear hk
  go_enter Try.func18, Try.ntmps18
  go_wp2_with (first
    | (go_at_call 22; with_reducible refine (vl_bad_p_mid _ _ _ _ _ _ _ _ _ hM hk'.out h0 hb'.out).mono ?_; rintro e w' ⟨rfl, hc, hf, hg⟩))
  refine bodyPost_ret (v := .tuple #[.bool false, .int .i64 1]) (by simp [results, Try.results18, go_sem, hc]) rfl ⟨rfl, ?_⟩
  exact grown_new hg (grown_set _ _ _ _) (by omega)

set_option maxHeartbeats 1000000 in
theorem sc_bad_m_mid (p i z : Int) (mq : Option Addr) (w : World) (p0 : 0 ≤ p) (p1 : p < 16) (hb : Bad w mq i) :
    Calls Try.prog 22 #[.func (.func 38) #[] #[.pointer (some ⟨w.heap.size + 1, 0, none⟩), .pointer (some ⟨w.heap.size, 0, none⟩), .pointer (some ⟨w.heap.size + 2, 0, none⟩), .pointer (some ⟨w.heap.size + 3, 0, none⟩), .pointer (some ⟨w.heap.size + 4, 0, none⟩)]] (((((w.alloc (.cells #[.pointer mq] 36)).alloc (.cells #[.int .i64 p] 3)).alloc (.cells #[.int .i64 i] 3)).alloc (.cells #[.int .u64 z] 23)).alloc (.cells #[.bool false] 4))
      fun e w' => e = .returned (.int .i64 1) ∧ w'.cell? ⟨w.heap.size + 4, 0, none⟩ = some (.bool false) ∧ w'.frozen? ⟨w.heap.size + 4, 0, none⟩ = false ∧ w.grownBy w' none := by
  have gB : w.grownBy ((((((w.alloc (.cells #[.pointer mq] 36)).alloc (.cells #[.int .i64 p] 3)).alloc (.cells #[.int .i64 i] 3)).alloc (.cells #[.int .u64 z] 23)).alloc (.cells #[.bool false] 4)).alloc res0) none := grown_trans (grown_trans (grown_trans (grown_trans (grown_trans (World.grownBy_alloc _ _ none) (World.grownBy_alloc _ _ none)) (World.grownBy_alloc _ _ none)) (World.grownBy_alloc _ _ none)) (World.grownBy_alloc _ _ none)) (World.grownBy_alloc _ _ none)
  generalize hWB : (((((w.alloc (.cells #[.pointer mq] 36)).alloc (.cells #[.int .i64 p] 3)).alloc (.cells #[.int .i64 i] 3)).alloc (.cells #[.int .u64 z] 23)).alloc (.cells #[.bool false] 4)).alloc res0 = WB at gB
  have c0 : WB.cell? ⟨w.heap.size, 0, none⟩ = some (.pointer mq) := by rw [← hWB]; simp [go_sem, res0]
  have c1 : WB.cell? ⟨w.heap.size + 1, 0, none⟩ = some (.int .i64 p) := by rw [← hWB]; simp [go_sem, res0]
  have c2 : WB.cell? ⟨w.heap.size + 2, 0, none⟩ = some (.int .i64 i) := by rw [← hWB]; simp [go_sem, res0]
  have c3 : WB.cell? ⟨w.heap.size + 3, 0, none⟩ = some (.int .u64 z) := by rw [← hWB]; simp [go_sem, res0]
  have c4 : WB.cell? ⟨w.heap.size + 4, 0, none⟩ = some (.bool false) := by rw [← hWB]; simp [go_sem, res0]
  have f4 : WB.frozen? ⟨w.heap.size + 4, 0, none⟩ = false := by rw [← hWB]; simp [go_sem, res0]
  have cr : WB.cell? ⟨w.heap.size + 5, 0, none⟩ = some (.int .i64 0) := by rw [← hWB]; simp [go_sem, res0]
  have fr : WB.frozen? ⟨w.heap.size + 5, 0, none⟩ = false := by rw [← hWB]; simp [go_sem, res0]
  have hin : Calls Try.prog 38 #[.pointer (some ⟨w.heap.size + 1, 0, none⟩), .pointer (some ⟨w.heap.size, 0, none⟩), .pointer (some ⟨w.heap.size + 2, 0, none⟩), .pointer (some ⟨w.heap.size + 3, 0, none⟩), .pointer (some ⟨w.heap.size + 4, 0, none⟩)] WB fun e w1 => e = .panicked no1 ∧ w1.cell? ⟨w.heap.size + 5, 0, none⟩ = some (.int .i64 0) ∧ w1.frozen? ⟨w.heap.size + 5, 0, none⟩ = false ∧ (w1.cell? ⟨w.heap.size + 4, 0, none⟩ = some (.bool false) ∧ w1.frozen? ⟨w.heap.size + 4, 0, none⟩ = false ∧ w.grownBy w1 none) := by
    refine (sc_bad_m _ _ _ _ _ p i mq _ c1 c0 c2 p0 p1 (hb.far gB)).mono ?_
    rintro e w1 ⟨rfl, m, rfl⟩
    exact ⟨rfl, cr, fr, c4, f4, grown_trans gB (grown_drewN _ m _)⟩
  subst hWB
  have hz : (((((w.alloc (.cells #[.pointer mq] 36)).alloc (.cells #[.int .i64 p] 3)).alloc (.cells #[.int .i64 i] 3)).alloc (.cells #[.int .u64 z] 23)).alloc (.cells #[.bool false] 4)).heap.size = w.heap.size + 5 := by simp
  have hG := guarded_no 38 #[.pointer (some ⟨w.heap.size + 1, 0, none⟩), .pointer (some ⟨w.heap.size, 0, none⟩), .pointer (some ⟨w.heap.size + 2, 0, none⟩), .pointer (some ⟨w.heap.size + 3, 0, none⟩), .pointer (some ⟨w.heap.size + 4, 0, none⟩)] (((((w.alloc (.cells #[.pointer mq] 36)).alloc (.cells #[.int .i64 p] 3)).alloc (.cells #[.int .i64 i] 3)).alloc (.cells #[.int .u64 z] 23)).alloc (.cells #[.bool false] 4)) (fun w1 => w1.cell? ⟨w.heap.size + 4, 0, none⟩ = some (.bool false) ∧ w1.frozen? ⟨w.heap.size + 4, 0, none⟩ = false ∧ w.grownBy w1 none) (enters 38 (by omega) _) (by rw [hz]; exact hin)
  rw [hz] at hG
  refine hG.mono ?_
  rintro e w2 ⟨rfl, w1, rfl, hc, hf, hg1⟩
  refine ⟨rfl, ?_, ?_, grown_new hg1 (grown_set _ _ _ _) (by omega)⟩
  · rw [cell_set_far _ (by omega)]; exact hc
  · simpa using hf

set_option maxHeartbeats 1000000 in
theorem sc_bad_m_any (p i z : Int) (mq : Option Addr) (w : World) (p0 : 0 ≤ p) (p1 : p < 16) (hb : Bad w mq i) :
    Calls Try.prog 19 #[.pointer mq, .int .i64 p, .int .i64 i, .int .u64 z] w fun e w' => e = .returned (.tuple #[.bool false, .int .i64 1]) ∧ w.grownBy w' none := by
  have hmf : ∀ (fn : Fn) (first cap : Array Value) (w : World), (Instr.makeFunc fn first cap).run Try.prog w = .ok (.func fn first cap) w := fun _ _ _ _ => rfl
  have hb' := Lib.hid hb
  clear hb
  go_enter Try.func19, Try.ntmps19
  go_wp2_with (first
    | (go_at_call 22; with_reducible refine (sc_bad_m_mid _ _ _ _ _ p0 p1 hb'.out).mono ?_; rintro e w' ⟨rfl, hc, hf, hg⟩))
  refine bodyPost_ret (v := .tuple #[.bool false, .int .i64 1]) (by simp [results, Try.results19, go_sem, hc]) rfl ⟨rfl, ?_⟩
  exact grown_new hg (grown_set _ _ _ _) (by omega)

set_option maxHeartbeats 1000000 in
theorem sc_bad_p_mid (p i z : Int) (mq : Option Addr) (w : World) (hb : p < 0 ∨ 16 ≤ p) :
    Calls Try.prog 22 #[.func (.func 38) #[] #[.pointer (some ⟨w.heap.size + 1, 0, none⟩), .pointer (some ⟨w.heap.size, 0, none⟩), .pointer (some ⟨w.heap.size + 2, 0, none⟩), .pointer (some ⟨w.heap.size + 3, 0, none⟩), .pointer (some ⟨w.heap.size + 4, 0, none⟩)]] (((((w.alloc (.cells #[.pointer mq] 36)).alloc (.cells #[.int .i64 p] 3)).alloc (.cells #[.int .i64 i] 3)).alloc (.cells #[.int .u64 z] 23)).alloc (.cells #[.bool false] 4))
      fun e w' => e = .returned (.int .i64 1) ∧ w'.cell? ⟨w.heap.size + 4, 0, none⟩ = some (.bool false) ∧ w'.frozen? ⟨w.heap.size + 4, 0, none⟩ = false ∧ w.grownBy w' none := by
  have gB : w.grownBy ((((((w.alloc (.cells #[.pointer mq] 36)).alloc (.cells #[.int .i64 p] 3)).alloc (.cells #[.int .i64 i] 3)).alloc (.cells #[.int .u64 z] 23)).alloc (.cells #[.bool false] 4)).alloc res0) none := grown_trans (grown_trans (grown_trans (grown_trans (grown_trans (World.grownBy_alloc _ _ none) (World.grownBy_alloc _ _ none)) (World.grownBy_alloc _ _ none)) (World.grownBy_alloc _ _ none)) (World.grownBy_alloc _ _ none)) (World.grownBy_alloc _ _ none)
  generalize hWB : (((((w.alloc (.cells #[.pointer mq] 36)).alloc (.cells #[.int .i64 p] 3)).alloc (.cells #[.int .i64 i] 3)).alloc (.cells #[.int .u64 z] 23)).alloc (.cells #[.bool false] 4)).alloc res0 = WB at gB
  have c0 : WB.cell? ⟨w.heap.size, 0, none⟩ = some (.pointer mq) := by rw [← hWB]; simp [go_sem, res0]
  have c1 : WB.cell? ⟨w.heap.size + 1, 0, none⟩ = some (.int .i64 p) := by rw [← hWB]; simp [go_sem, res0]
  have c2 : WB.cell? ⟨w.heap.size + 2, 0, none⟩ = some (.int .i64 i) := by rw [← hWB]; simp [go_sem, res0]
  have c3 : WB.cell? ⟨w.heap.size + 3, 0, none⟩ = some (.int .u64 z) := by rw [← hWB]; simp [go_sem, res0]
  have c4 : WB.cell? ⟨w.heap.size + 4, 0, none⟩ = some (.bool false) := by rw [← hWB]; simp [go_sem, res0]
  have f4 : WB.frozen? ⟨w.heap.size + 4, 0, none⟩ = false := by rw [← hWB]; simp [go_sem, res0]
  have cr : WB.cell? ⟨w.heap.size + 5, 0, none⟩ = some (.int .i64 0) := by rw [← hWB]; simp [go_sem, res0]
  have fr : WB.frozen? ⟨w.heap.size + 5, 0, none⟩ = false := by rw [← hWB]; simp [go_sem, res0]
  have hin : Calls Try.prog 38 #[.pointer (some ⟨w.heap.size + 1, 0, none⟩), .pointer (some ⟨w.heap.size, 0, none⟩), .pointer (some ⟨w.heap.size + 2, 0, none⟩), .pointer (some ⟨w.heap.size + 3, 0, none⟩), .pointer (some ⟨w.heap.size + 4, 0, none⟩)] WB fun e w1 => e = .panicked no1 ∧ w1.cell? ⟨w.heap.size + 5, 0, none⟩ = some (.int .i64 0) ∧ w1.frozen? ⟨w.heap.size + 5, 0, none⟩ = false ∧ (w1.cell? ⟨w.heap.size + 4, 0, none⟩ = some (.bool false) ∧ w1.frozen? ⟨w.heap.size + 4, 0, none⟩ = false ∧ w.grownBy w1 none) := by
    refine (sc_bad_p _ _ _ _ _ p i mq _ c1 c0 c2 hb).mono ?_
    rintro e w1 ⟨rfl, m, rfl⟩
    exact ⟨rfl, cr, fr, c4, f4, grown_trans gB (grown_drewN _ m _)⟩
  subst hWB
  have hz : (((((w.alloc (.cells #[.pointer mq] 36)).alloc (.cells #[.int .i64 p] 3)).alloc (.cells #[.int .i64 i] 3)).alloc (.cells #[.int .u64 z] 23)).alloc (.cells #[.bool false] 4)).heap.size = w.heap.size + 5 := by simp
  have hG := guarded_no 38 #[.pointer (some ⟨w.heap.size + 1, 0, none⟩), .pointer (some ⟨w.heap.size, 0, none⟩), .pointer (some ⟨w.heap.size + 2, 0, none⟩), .pointer (some ⟨w.heap.size + 3, 0, none⟩), .pointer (some ⟨w.heap.size + 4, 0, none⟩)] (((((w.alloc (.cells #[.pointer mq] 36)).alloc (.cells #[.int .i64 p] 3)).alloc (.cells #[.int .i64 i] 3)).alloc (.cells #[.int .u64 z] 23)).alloc (.cells #[.bool false] 4)) (fun w1 => w1.cell? ⟨w.heap.size + 4, 0, none⟩ = some (.bool false) ∧ w1.frozen? ⟨w.heap.size + 4, 0, none⟩ = false ∧ w.grownBy w1 none) (enters 38 (by omega) _) (by rw [hz]; exact hin)
  rw [hz] at hG
  refine hG.mono ?_
  rintro e w2 ⟨rfl, w1, rfl, hc, hf, hg1⟩
  refine ⟨rfl, ?_, ?_, grown_new hg1 (grown_set _ _ _ _) (by omega)⟩
  · rw [cell_set_far _ (by omega)]; exact hc
  · simpa using hf

set_option maxHeartbeats 1000000 in
theorem sc_bad_p_any (p i z : Int) (mq : Option Addr) (w : World) (hb : p < 0 ∨ 16 ≤ p) :
    Calls Try.prog 19 #[.pointer mq, .int .i64 p, .int .i64 i, .int .u64 z] w fun e w' => e = .returned (.tuple #[.bool false, .int .i64 1]) ∧ w.grownBy w' none := by
  have hmf : ∀ (fn : Fn) (first cap : Array Value) (w : World), (Instr.makeFunc fn first cap).run Try.prog w = .ok (.func fn first cap) w := fun _ _ _ _ => rfl
  have hb' := Lib.hid hb
  clear hb
  go_enter Try.func19, Try.ntmps19
  go_wp2_with (first
    | (go_at_call 22; with_reducible refine (sc_bad_p_mid _ _ _ _ _ hb'.out).mono ?_; rintro e w' ⟨rfl, hc, hf, hg⟩))
  refine bodyPost_ret (v := .tuple #[.bool false, .int .i64 1]) (by simp [results, Try.results19, go_sem, hc]) rfl ⟨rfl, ?_⟩
  exact grown_new hg (grown_set _ _ _ _) (by omega)

set_option maxHeartbeats 1000000 in
theorem rl_bad_m_mid (p i : Int) (mq : Option Addr) (w : World) (p0 : 0 ≤ p) (p1 : p < 16) (hb : Bad w mq i) :
    Calls Try.prog 22 #[.func (.func 39) #[] #[.pointer (some ⟨w.heap.size + 1, 0, none⟩), .pointer (some ⟨w.heap.size, 0, none⟩), .pointer (some ⟨w.heap.size + 2, 0, none⟩)]] (((w.alloc (.cells #[.pointer mq] 36)).alloc (.cells #[.int .i64 p] 3)).alloc (.cells #[.int .i64 i] 3))
      fun e w' => e = .returned (.int .i64 1) ∧ w.grownBy w' none := by
  have gB : w.grownBy ((((w.alloc (.cells #[.pointer mq] 36)).alloc (.cells #[.int .i64 p] 3)).alloc (.cells #[.int .i64 i] 3)).alloc res0) none := grown_trans (grown_trans (grown_trans (World.grownBy_alloc _ _ none) (World.grownBy_alloc _ _ none)) (World.grownBy_alloc _ _ none)) (World.grownBy_alloc _ _ none)
  generalize hWB : (((w.alloc (.cells #[.pointer mq] 36)).alloc (.cells #[.int .i64 p] 3)).alloc (.cells #[.int .i64 i] 3)).alloc res0 = WB at gB
  have c0 : WB.cell? ⟨w.heap.size, 0, none⟩ = some (.pointer mq) := by rw [← hWB]; simp [go_sem, res0]
  have c1 : WB.cell? ⟨w.heap.size + 1, 0, none⟩ = some (.int .i64 p) := by rw [← hWB]; simp [go_sem, res0]
  have c2 : WB.cell? ⟨w.heap.size + 2, 0, none⟩ = some (.int .i64 i) := by rw [← hWB]; simp [go_sem, res0]
  have cr : WB.cell? ⟨w.heap.size + 3, 0, none⟩ = some (.int .i64 0) := by rw [← hWB]; simp [go_sem, res0]
  have fr : WB.frozen? ⟨w.heap.size + 3, 0, none⟩ = false := by rw [← hWB]; simp [go_sem, res0]
  have hin : Calls Try.prog 39 #[.pointer (some ⟨w.heap.size + 1, 0, none⟩), .pointer (some ⟨w.heap.size, 0, none⟩), .pointer (some ⟨w.heap.size + 2, 0, none⟩)] WB fun e w1 => e = .panicked no1 ∧ w1.cell? ⟨w.heap.size + 3, 0, none⟩ = some (.int .i64 0) ∧ w1.frozen? ⟨w.heap.size + 3, 0, none⟩ = false ∧ (w.grownBy w1 none) := by
    refine (rl_bad_m _ _ _ p i mq _ c1 c0 c2 p0 p1 (hb.far gB)).mono ?_
    rintro e w1 ⟨rfl, m, rfl⟩
    exact ⟨rfl, cr, fr, grown_trans gB (grown_drewN _ m _)⟩
  subst hWB
  have hz : (((w.alloc (.cells #[.pointer mq] 36)).alloc (.cells #[.int .i64 p] 3)).alloc (.cells #[.int .i64 i] 3)).heap.size = w.heap.size + 3 := by simp
  have hG := guarded_no 39 #[.pointer (some ⟨w.heap.size + 1, 0, none⟩), .pointer (some ⟨w.heap.size, 0, none⟩), .pointer (some ⟨w.heap.size + 2, 0, none⟩)] (((w.alloc (.cells #[.pointer mq] 36)).alloc (.cells #[.int .i64 p] 3)).alloc (.cells #[.int .i64 i] 3)) (fun w1 => w.grownBy w1 none) (enters 39 (by omega) _) (by rw [hz]; exact hin)
  rw [hz] at hG
  refine hG.mono ?_
  rintro e w2 ⟨rfl, w1, rfl, hg1⟩
  refine ⟨rfl, grown_new hg1 (grown_set _ _ _ _) (by omega)⟩

set_option maxHeartbeats 1000000 in
theorem rl_bad_m_any (p i : Int) (mq : Option Addr) (w : World) (p0 : 0 ≤ p) (p1 : p < 16) (hb : Bad w mq i) :
    Calls Try.prog 20 #[.pointer mq, .int .i64 p, .int .i64 i] w fun e w' => e = .returned (.int .i64 1) ∧ w.grownBy w' none := by
  have hmf : ∀ (fn : Fn) (first cap : Array Value) (w : World), (Instr.makeFunc fn first cap).run Try.prog w = .ok (.func fn first cap) w := fun _ _ _ _ => rfl
  have hb' := Lib.hid hb
  clear hb
  go_enter Try.func20, Try.ntmps20
  go_wp2_with (first
    | (go_at_call 22; with_reducible refine (rl_bad_m_mid _ _ _ _ p0 p1 hb'.out).mono ?_; rintro e w' ⟨rfl, hg⟩))
  go_ret
  exact ⟨rfl, hg⟩

set_option maxHeartbeats 1000000 in
theorem rl_bad_p_mid (p i : Int) (mq : Option Addr) (w : World) (hb : p < 0 ∨ 16 ≤ p) :
    Calls Try.prog 22 #[.func (.func 39) #[] #[.pointer (some ⟨w.heap.size + 1, 0, none⟩), .pointer (some ⟨w.heap.size, 0, none⟩), .pointer (some ⟨w.heap.size + 2, 0, none⟩)]] (((w.alloc (.cells #[.pointer mq] 36)).alloc (.cells #[.int .i64 p] 3)).alloc (.cells #[.int .i64 i] 3))
      fun e w' => e = .returned (.int .i64 1) ∧ w.grownBy w' none := by
  have gB : w.grownBy ((((w.alloc (.cells #[.pointer mq] 36)).alloc (.cells #[.int .i64 p] 3)).alloc (.cells #[.int .i64 i] 3)).alloc res0) none := grown_trans (grown_trans (grown_trans (World.grownBy_alloc _ _ none) (World.grownBy_alloc _ _ none)) (World.grownBy_alloc _ _ none)) (World.grownBy_alloc _ _ none)
  generalize hWB : (((w.alloc (.cells #[.pointer mq] 36)).alloc (.cells #[.int .i64 p] 3)).alloc (.cells #[.int .i64 i] 3)).alloc res0 = WB at gB
  have c0 : WB.cell? ⟨w.heap.size, 0, none⟩ = some (.pointer mq) := by rw [← hWB]; simp [go_sem, res0]
  have c1 : WB.cell? ⟨w.heap.size + 1, 0, none⟩ = some (.int .i64 p) := by rw [← hWB]; simp [go_sem, res0]
  have c2 : WB.cell? ⟨w.heap.size + 2, 0, none⟩ = some (.int .i64 i) := by rw [← hWB]; simp [go_sem, res0]
  have cr : WB.cell? ⟨w.heap.size + 3, 0, none⟩ = some (.int .i64 0) := by rw [← hWB]; simp [go_sem, res0]
  have fr : WB.frozen? ⟨w.heap.size + 3, 0, none⟩ = false := by rw [← hWB]; simp [go_sem, res0]
  have hin : Calls Try.prog 39 #[.pointer (some ⟨w.heap.size + 1, 0, none⟩), .pointer (some ⟨w.heap.size, 0, none⟩), .pointer (some ⟨w.heap.size + 2, 0, none⟩)] WB fun e w1 => e = .panicked no1 ∧ w1.cell? ⟨w.heap.size + 3, 0, none⟩ = some (.int .i64 0) ∧ w1.frozen? ⟨w.heap.size + 3, 0, none⟩ = false ∧ (w.grownBy w1 none) := by
    refine (rl_bad_p _ _ _ p i mq _ c1 c0 c2 hb).mono ?_
    rintro e w1 ⟨rfl, m, rfl⟩
    exact ⟨rfl, cr, fr, grown_trans gB (grown_drewN _ m _)⟩
  subst hWB
  have hz : (((w.alloc (.cells #[.pointer mq] 36)).alloc (.cells #[.int .i64 p] 3)).alloc (.cells #[.int .i64 i] 3)).heap.size = w.heap.size + 3 := by simp
  have hG := guarded_no 39 #[.pointer (some ⟨w.heap.size + 1, 0, none⟩), .pointer (some ⟨w.heap.size, 0, none⟩), .pointer (some ⟨w.heap.size + 2, 0, none⟩)] (((w.alloc (.cells #[.pointer mq] 36)).alloc (.cells #[.int .i64 p] 3)).alloc (.cells #[.int .i64 i] 3)) (fun w1 => w.grownBy w1 none) (enters 39 (by omega) _) (by rw [hz]; exact hin)
  rw [hz] at hG
  refine hG.mono ?_
  rintro e w2 ⟨rfl, w1, rfl, hg1⟩
  refine ⟨rfl, grown_new hg1 (grown_set _ _ _ _) (by omega)⟩

set_option maxHeartbeats 1000000 in
theorem rl_bad_p_any (p i : Int) (mq : Option Addr) (w : World) (hb : p < 0 ∨ 16 ≤ p) :
    Calls Try.prog 20 #[.pointer mq, .int .i64 p, .int .i64 i] w fun e w' => e = .returned (.int .i64 1) ∧ w.grownBy w' none := by
  have hmf : ∀ (fn : Fn) (first cap : Array Value) (w : World), (Instr.makeFunc fn first cap).run Try.prog w = .ok (.func fn first cap) w := fun _ _ _ _ => rfl
  have hb' := Lib.hid hb
  clear hb
  go_enter Try.func20, Try.ntmps20
  go_wp2_with (first
    | (go_at_call 22; with_reducible refine (rl_bad_p_mid _ _ _ _ hb'.out).mono ?_; rintro e w' ⟨rfl, hg⟩))
  go_ret
  exact ⟨rfl, hg⟩

end Go.Proofs.Ythegokjhgdneoaa
