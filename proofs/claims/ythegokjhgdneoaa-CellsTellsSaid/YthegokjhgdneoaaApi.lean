/-
  What the calls of package cells return, and what they leave in memory. Conditions: the memory is there, as a list of words and links.
-/
import Derived.Test.YthegokjhgdneoaaMem
namespace Go.Proofs.Ythegokjhgdneoaa

/-- The links with p's. -/
def withP (l p : Int) : Int := bits .or .i64 l (bit p)
/-- The links without p's. -/
def lessP (l p : Int) : Int := bits .andNot .i64 l (bit p)
/-- Has p the cell linked? -/
def hasP (l p : Int) : Bool := bits .and .i64 l (bit p) != 0

theorem enters (K : Nat) (hK : K = 23 ∨ K = 31 ∨ K = 33 ∨ K = 35 ∨ K = 37 ∨ K = 38 ∨ K = 39) (caps : Array Value) (w : World) : (callFunc K caps).run Try.prog w = .ok (.enter K caps) w := by
  rcases hK with rfl | rfl | rfl | rfl | rfl | rfl | rfl <;> simp [go_sem]

theorem cell_set_far (w : World) {b o b' o' : Nat} {v : Value} (h : b ≠ b') : (w.setCell ⟨b, o, none⟩ v).cell? ⟨b', o', none⟩ = w.cell? ⟨b', o', none⟩ :=
  World.cell?_setCell_other _ _ _ _ (fun e => h (by cases e; rfl))

theorem Mem.set {w : World} {mb ab : Nat} {s : Value} {L : List (Int × Int)} (h : Mem w mb ab s L) {b o : Nat} {v : Value} (h1 : mb ≠ b) (h2 : ab ≠ b) : Mem (w.setCell ⟨b, o, none⟩ v) mb ab s L :=
  h.far (grown_set w b o v) (by simpa using h1) (by simpa using h2)

theorem Mem.drewN {w : World} {mb ab : Nat} {s : Value} {L : List (Int × Int)} (h : Mem w mb ab s L) (n : Nat) : Mem (w.drewN n) mb ab s L :=
  h.far (grown_drewN w n none) (by simp) (by simp)

theorem Mem.put2 {w : World} {mb ab : Nat} {s : Value} {L : List (Int × Int)} (h : Mem w mb ab s L) {i : Nat} {x : Int × Int} (hi : L[i]? = some x) (z l : Int) :
    Mem ((w.setCell ⟨ab, i * 2, none⟩ (.int .u64 z)).setCell ⟨ab, i * 2 + 1, none⟩ (.int .i64 l)) mb ab s (L.set i (z, l)) := by
  refine ⟨?_, ?_, h.ne, h.row.put2 hi z l⟩
  · rw [cell_set_far _ (Ne.symm h.ne), cell_set_far _ (Ne.symm h.ne)]
    exact h.m
  · rcases h.form with ⟨_, e⟩ | ⟨c, e⟩
    · rw [e] at hi; cases hi
    · exact .inr ⟨c, by simpa using e⟩

theorem Mem.putL {w : World} {mb ab : Nat} {s : Value} {L : List (Int × Int)} (h : Mem w mb ab s L) {i : Nat} {x : Int × Int} (hi : L[i]? = some x) (l : Int) :
    Mem (w.setCell ⟨ab, i * 2 + 1, none⟩ (.int .i64 l)) mb ab s (L.set i (x.1, l)) := by
  refine ⟨?_, ?_, h.ne, h.row.putL hi l⟩
  · rw [cell_set_far _ (Ne.symm h.ne)]
    exact h.m
  · rcases h.form with ⟨_, e⟩ | ⟨c, e⟩
    · rw [e] at hi; cases hi
    · exact .inr ⟨c, by simpa using e⟩

/-- Where there is a cell, the slice is no nil. -/
theorem Mem.slice {w : World} {mb ab : Nat} {s : Value} {L : List (Int × Int)} (h : Mem w mb ab s L) {i : Int} {x : Int × Int} (hi : L[i.toNat]? = some x) (h0 : 0 ≤ i) : (∃ c, s = .slice (some ⟨ab, 0, none⟩) L.length c) ∧ i < L.length := by
  have hl := (List.getElem?_eq_some_iff.1 hi).1
  refine ⟨?_, by omega⟩
  rcases h.form with ⟨_, e⟩ | e
  · rw [e] at hi; cases hi
  · exact e

/-- A place that is none of the memory's. -/
theorem Mem.bad {w : World} {mb ab : Nat} {s : Value} {L : List (Int × Int)} (h : Mem w mb ab s L) {i : Int} (hi : i < 0 ∨ (L.length : Int) ≤ i) : Bad w (some ⟨mb, 0, none⟩) i := by
  rcases h.form with ⟨e1, e2⟩ | ⟨c, e⟩
  · refine .inr ⟨mb, 0, 0, none, rfl, by rw [h.m, e1], ?_⟩
    rw [e2] at hi
    simpa using hi
  · exact .inr ⟨mb, L.length, c, some ⟨ab, 0, none⟩, rfl, by rw [h.m, e], hi⟩

theorem Bad.far {w w' : World} {mq : Option Addr} {i : Int} (h : Bad w mq i) (g : w.grownBy w' none) : Bad w' mq i := by
  rcases h with h | ⟨mb, n, c, a, h1, h2, h3⟩
  · exact .inl h
  · exact .inr ⟨mb, n, c, a, h1, g.cell h2 (by simp), h3⟩

set_option maxHeartbeats 1000000 in
theorem load_yes_mid (mb ab : Nat) (s : Value) (L : List (Int × Int)) (i x l : Int) (w : World) (hM : Mem w mb ab s L) (hk : L[i.toNat]? = some (x, l)) (h0 : 0 ≤ i) :
    Calls Try.prog 22 #[.func (.func 31) #[] #[.pointer (some ⟨w.heap.size, 0, none⟩), .pointer (some ⟨w.heap.size + 1, 0, none⟩), .pointer (some ⟨w.heap.size + 2, 0, none⟩)]] (((w.alloc (.cells #[.pointer (some ⟨mb, 0, none⟩)] 36)).alloc (.cells #[.int .i64 i] 3)).alloc (.cells #[.int .u64 0] 23))
      fun e w' => e = .returned (.int .i64 0) ∧ w'.cell? ⟨w.heap.size + 2, 0, none⟩ = some (.int .u64 x) ∧ w'.frozen? ⟨w.heap.size + 2, 0, none⟩ = false ∧ Mem w' mb ab s L ∧ w.grownBy w' none := by
  obtain ⟨⟨c, hsl⟩, hlt⟩ := hM.slice hk h0
  have hml := hM.lt
  have hal := hM.row.lt hk
  have gB : w.grownBy ((((w.alloc (.cells #[.pointer (some ⟨mb, 0, none⟩)] 36)).alloc (.cells #[.int .i64 i] 3)).alloc (.cells #[.int .u64 0] 23)).alloc res0) none := grown_trans (grown_trans (grown_trans (World.grownBy_alloc _ _ none) (World.grownBy_alloc _ _ none)) (World.grownBy_alloc _ _ none)) (World.grownBy_alloc _ _ none)
  have hB := hM.far gB (by simp) (by simp)
  generalize hWB : (((w.alloc (.cells #[.pointer (some ⟨mb, 0, none⟩)] 36)).alloc (.cells #[.int .i64 i] 3)).alloc (.cells #[.int .u64 0] 23)).alloc res0 = WB at gB hB
  obtain ⟨hx, hl, fx, fl⟩ := hB.row _ _ hk
  have hs : WB.cell? ⟨mb, 0, none⟩ = some (.slice (some ⟨ab, 0, none⟩) L.length c) := by rw [hB.m, hsl]
  have c0 : WB.cell? ⟨w.heap.size, 0, none⟩ = some (.pointer (some ⟨mb, 0, none⟩)) := by rw [← hWB]; simp [go_sem, res0]
  have c1 : WB.cell? ⟨w.heap.size + 1, 0, none⟩ = some (.int .i64 i) := by rw [← hWB]; simp [go_sem, res0]
  have c2 : WB.cell? ⟨w.heap.size + 2, 0, none⟩ = some (.int .u64 0) := by rw [← hWB]; simp [go_sem, res0]
  have f2 : WB.frozen? ⟨w.heap.size + 2, 0, none⟩ = false := by rw [← hWB]; simp [go_sem, res0]
  have cr : WB.cell? ⟨w.heap.size + 3, 0, none⟩ = some (.int .i64 0) := by rw [← hWB]; simp [go_sem, res0]
  have fr : WB.frozen? ⟨w.heap.size + 3, 0, none⟩ = false := by rw [← hWB]; simp [go_sem, res0]
  have hin : Calls Try.prog 31 #[.pointer (some ⟨w.heap.size, 0, none⟩), .pointer (some ⟨w.heap.size + 1, 0, none⟩), .pointer (some ⟨w.heap.size + 2, 0, none⟩)] WB fun e w1 => e = .returned (.tuple #[]) ∧ w1.cell? ⟨w.heap.size + 3, 0, none⟩ = some (.int .i64 0) ∧ w1.frozen? ⟨w.heap.size + 3, 0, none⟩ = false ∧ (w1.cell? ⟨w.heap.size + 2, 0, none⟩ = some (.int .u64 x) ∧ w1.frozen? ⟨w.heap.size + 2, 0, none⟩ = false ∧ Mem w1 mb ab s L ∧ w.grownBy w1 none) := by
    refine (load_in _ _ _ _ _ _ _ i x 0 _ c0 c1 c2 f2 hs hx h0 hlt).mono ?_
    rintro e w1 ⟨rfl, rfl⟩
    refine ⟨rfl, ?_, ?_, ?_, ?_, (hB.set (by omega) (by omega)), (grown_new (grown_wide gB : w.grownBy WB none) (grown_set _ _ _ _) (by omega))⟩
    · rw [cell_set_far _ (by omega)]; exact cr
    · simpa using fr
    · refine World.cell?_setCell_same _ _ _ (u := .int .u64 0) ?_; exact c2
    · simpa using f2
  subst hWB
  have hz : (((w.alloc (.cells #[.pointer (some ⟨mb, 0, none⟩)] 36)).alloc (.cells #[.int .i64 i] 3)).alloc (.cells #[.int .u64 0] 23)).heap.size = w.heap.size + 3 := by simp
  have hG := guarded_yes 31 #[.pointer (some ⟨w.heap.size, 0, none⟩), .pointer (some ⟨w.heap.size + 1, 0, none⟩), .pointer (some ⟨w.heap.size + 2, 0, none⟩)] (((w.alloc (.cells #[.pointer (some ⟨mb, 0, none⟩)] 36)).alloc (.cells #[.int .i64 i] 3)).alloc (.cells #[.int .u64 0] 23)) (fun w1 => w1.cell? ⟨w.heap.size + 2, 0, none⟩ = some (.int .u64 x) ∧ w1.frozen? ⟨w.heap.size + 2, 0, none⟩ = false ∧ Mem w1 mb ab s L ∧ w.grownBy w1 none) (enters 31 (by omega) _) (by rw [hz]; exact hin)
  rw [hz] at hG
  refine hG.mono ?_
  rintro e w2 ⟨rfl, w1, rfl, hc, hf, hM1, hg1⟩
  refine ⟨rfl, ?_, ?_, hM1.set (by omega) (by omega), grown_new hg1 (grown_set _ _ _ _) (by omega)⟩
  · rw [cell_set_far _ (by omega)]; exact hc
  · simpa using hf

set_option maxHeartbeats 1000000 in
theorem load_yes_any (mb ab : Nat) (s : Value) (L : List (Int × Int)) (i x l : Int) (w : World) (hM : Mem w mb ab s L) (hk : L[i.toNat]? = some (x, l)) (h0 : 0 ≤ i) :
    Calls Try.prog 15 #[.pointer (some ⟨mb, 0, none⟩), .int .i64 i] w fun e w' => e = .returned (.tuple #[.int .u64 x, .int .i64 0]) ∧ Mem w' mb ab s L ∧ w.grownBy w' none := by
  have hmf : ∀ (fn : Fn) (first cap : Array Value) (w : World), (Instr.makeFunc fn first cap).run Try.prog w = .ok (.func fn first cap) w := fun _ _ _ _ => rfl
  have hml := hM.lt
  have hal := hM.row.lt hk
  have hk' := Lib.hid hk
  clear hk
  go_enter Try.func15, Try.ntmps15
  go_wp2_with (first
    | (go_at_call 22; with_reducible refine (load_yes_mid _ _ _ _ _ _ _ _ hM hk'.out h0).mono ?_; rintro e w' ⟨rfl, hc, hf, hM', hg⟩))
  refine bodyPost_ret (v := .tuple #[.int .u64 x, .int .i64 0]) (by simp [results, Try.results15, go_sem, hc]) rfl ⟨rfl, ?_, ?_⟩
  · exact hM'.set (by omega) (by omega)
  · exact grown_new hg (grown_set _ _ _ _) (by omega)

set_option maxHeartbeats 1000000 in
theorem store_yes_mid (mb ab : Nat) (s : Value) (L : List (Int × Int)) (i z x l : Int) (w : World) (hM : Mem w mb ab s L) (hk : L[i.toNat]? = some (x, l)) (h0 : 0 ≤ i) :
    Calls Try.prog 22 #[.func (.func 33) #[] #[.pointer (some ⟨w.heap.size, 0, none⟩), .pointer (some ⟨w.heap.size + 1, 0, none⟩), .pointer (some ⟨w.heap.size + 2, 0, none⟩)]] (((w.alloc (.cells #[.pointer (some ⟨mb, 0, none⟩)] 36)).alloc (.cells #[.int .i64 i] 3)).alloc (.cells #[.int .u64 z] 23))
      fun e w' => e = .returned (.int .i64 0) ∧ Mem w' mb ab s (L.set i.toNat (z, 0)) ∧ w.grownBy w' (some ab) := by
  obtain ⟨⟨c, hsl⟩, hlt⟩ := hM.slice hk h0
  have hml := hM.lt
  have hal := hM.row.lt hk
  have gB : w.grownBy ((((w.alloc (.cells #[.pointer (some ⟨mb, 0, none⟩)] 36)).alloc (.cells #[.int .i64 i] 3)).alloc (.cells #[.int .u64 z] 23)).alloc res0) none := grown_trans (grown_trans (grown_trans (World.grownBy_alloc _ _ none) (World.grownBy_alloc _ _ none)) (World.grownBy_alloc _ _ none)) (World.grownBy_alloc _ _ none)
  have hB := hM.far gB (by simp) (by simp)
  generalize hWB : (((w.alloc (.cells #[.pointer (some ⟨mb, 0, none⟩)] 36)).alloc (.cells #[.int .i64 i] 3)).alloc (.cells #[.int .u64 z] 23)).alloc res0 = WB at gB hB
  obtain ⟨hx, hl, fx, fl⟩ := hB.row _ _ hk
  have hs : WB.cell? ⟨mb, 0, none⟩ = some (.slice (some ⟨ab, 0, none⟩) L.length c) := by rw [hB.m, hsl]
  have c0 : WB.cell? ⟨w.heap.size, 0, none⟩ = some (.pointer (some ⟨mb, 0, none⟩)) := by rw [← hWB]; simp [go_sem, res0]
  have c1 : WB.cell? ⟨w.heap.size + 1, 0, none⟩ = some (.int .i64 i) := by rw [← hWB]; simp [go_sem, res0]
  have c2 : WB.cell? ⟨w.heap.size + 2, 0, none⟩ = some (.int .u64 z) := by rw [← hWB]; simp [go_sem, res0]
  have cr : WB.cell? ⟨w.heap.size + 3, 0, none⟩ = some (.int .i64 0) := by rw [← hWB]; simp [go_sem, res0]
  have fr : WB.frozen? ⟨w.heap.size + 3, 0, none⟩ = false := by rw [← hWB]; simp [go_sem, res0]
  have hin : Calls Try.prog 33 #[.pointer (some ⟨w.heap.size, 0, none⟩), .pointer (some ⟨w.heap.size + 1, 0, none⟩), .pointer (some ⟨w.heap.size + 2, 0, none⟩)] WB fun e w1 => e = .returned (.tuple #[]) ∧ w1.cell? ⟨w.heap.size + 3, 0, none⟩ = some (.int .i64 0) ∧ w1.frozen? ⟨w.heap.size + 3, 0, none⟩ = false ∧ (Mem w1 mb ab s (L.set i.toNat (z, 0)) ∧ w.grownBy w1 (some ab)) := by
    refine (store_in _ _ _ _ _ _ _ i l x z _ c0 c1 c2 hs hx fx hl fl (by omega) (by omega) (by omega) h0 hlt).mono ?_
    rintro e w1 ⟨rfl, m, rfl⟩
    refine ⟨rfl, ?_, ?_, ((hB.put2 hk z 0).drewN m), (grown_trans (grown_trans (grown_trans (grown_wide gB : w.grownBy WB (some ab)) (grown_set _ _ _ _)) (grown_set _ _ _ _)) (grown_drewN _ m _))⟩
    · rw [World.cell?_drewN]; rw [cell_set_far _ (by omega), cell_set_far _ (by omega)]; exact cr
    · rw [World.frozen?_drewN]; simpa using fr
  subst hWB
  have hz : (((w.alloc (.cells #[.pointer (some ⟨mb, 0, none⟩)] 36)).alloc (.cells #[.int .i64 i] 3)).alloc (.cells #[.int .u64 z] 23)).heap.size = w.heap.size + 3 := by simp
  have hG := guarded_yes 33 #[.pointer (some ⟨w.heap.size, 0, none⟩), .pointer (some ⟨w.heap.size + 1, 0, none⟩), .pointer (some ⟨w.heap.size + 2, 0, none⟩)] (((w.alloc (.cells #[.pointer (some ⟨mb, 0, none⟩)] 36)).alloc (.cells #[.int .i64 i] 3)).alloc (.cells #[.int .u64 z] 23)) (fun w1 => Mem w1 mb ab s (L.set i.toNat (z, 0)) ∧ w.grownBy w1 (some ab)) (enters 33 (by omega) _) (by rw [hz]; exact hin)
  rw [hz] at hG
  refine hG.mono ?_
  rintro e w2 ⟨rfl, w1, rfl, hM1, hg1⟩
  refine ⟨rfl, hM1.set (by omega) (by omega), grown_new hg1 (grown_set _ _ _ _) (by omega)⟩

set_option maxHeartbeats 1000000 in
theorem store_yes_any (mb ab : Nat) (s : Value) (L : List (Int × Int)) (i z x l : Int) (w : World) (hM : Mem w mb ab s L) (hk : L[i.toNat]? = some (x, l)) (h0 : 0 ≤ i) :
    Calls Try.prog 16 #[.pointer (some ⟨mb, 0, none⟩), .int .i64 i, .int .u64 z] w fun e w' => e = .returned (.int .i64 0) ∧ Mem w' mb ab s (L.set i.toNat (z, 0)) ∧ w.grownBy w' (some ab) := by
  have hmf : ∀ (fn : Fn) (first cap : Array Value) (w : World), (Instr.makeFunc fn first cap).run Try.prog w = .ok (.func fn first cap) w := fun _ _ _ _ => rfl
  have hml := hM.lt
  have hal := hM.row.lt hk
  have hk' := Lib.hid hk
  clear hk
  go_enter Try.func16, Try.ntmps16
  go_wp2_with (first
    | (go_at_call 22; with_reducible refine (store_yes_mid _ _ _ _ _ _ _ _ _ hM hk'.out h0).mono ?_; rintro e w' ⟨rfl, hM', hg⟩))
  go_ret
  exact ⟨rfl, hM', hg⟩

set_option maxHeartbeats 1000000 in
theorem ll_yes_mid (mb ab : Nat) (s : Value) (L : List (Int × Int)) (p i x l : Int) (w : World) (hM : Mem w mb ab s L) (hk : L[i.toNat]? = some (x, l)) (h0 : 0 ≤ i) (p0 : 0 ≤ p) (p1 : p < 16) :
    Calls Try.prog 22 #[.func (.func 35) #[] #[.pointer (some ⟨w.heap.size + 1, 0, none⟩), .pointer (some ⟨w.heap.size, 0, none⟩), .pointer (some ⟨w.heap.size + 2, 0, none⟩), .pointer (some ⟨w.heap.size + 3, 0, none⟩)]] ((((w.alloc (.cells #[.pointer (some ⟨mb, 0, none⟩)] 36)).alloc (.cells #[.int .i64 p] 3)).alloc (.cells #[.int .i64 i] 3)).alloc (.cells #[.int .u64 0] 23))
      fun e w' => e = .returned (.int .i64 0) ∧ w'.cell? ⟨w.heap.size + 3, 0, none⟩ = some (.int .u64 x) ∧ w'.frozen? ⟨w.heap.size + 3, 0, none⟩ = false ∧ Mem w' mb ab s (L.set i.toNat (x, withP l p)) ∧ w.grownBy w' (some ab) := by
  obtain ⟨⟨c, hsl⟩, hlt⟩ := hM.slice hk h0
  have hml := hM.lt
  have hal := hM.row.lt hk
  have gB : w.grownBy (((((w.alloc (.cells #[.pointer (some ⟨mb, 0, none⟩)] 36)).alloc (.cells #[.int .i64 p] 3)).alloc (.cells #[.int .i64 i] 3)).alloc (.cells #[.int .u64 0] 23)).alloc res0) none := grown_trans (grown_trans (grown_trans (grown_trans (World.grownBy_alloc _ _ none) (World.grownBy_alloc _ _ none)) (World.grownBy_alloc _ _ none)) (World.grownBy_alloc _ _ none)) (World.grownBy_alloc _ _ none)
  have hB := hM.far gB (by simp) (by simp)
  generalize hWB : ((((w.alloc (.cells #[.pointer (some ⟨mb, 0, none⟩)] 36)).alloc (.cells #[.int .i64 p] 3)).alloc (.cells #[.int .i64 i] 3)).alloc (.cells #[.int .u64 0] 23)).alloc res0 = WB at gB hB
  obtain ⟨hx, hl, fx, fl⟩ := hB.row _ _ hk
  have hs : WB.cell? ⟨mb, 0, none⟩ = some (.slice (some ⟨ab, 0, none⟩) L.length c) := by rw [hB.m, hsl]
  have c0 : WB.cell? ⟨w.heap.size, 0, none⟩ = some (.pointer (some ⟨mb, 0, none⟩)) := by rw [← hWB]; simp [go_sem, res0]
  have c1 : WB.cell? ⟨w.heap.size + 1, 0, none⟩ = some (.int .i64 p) := by rw [← hWB]; simp [go_sem, res0]
  have c2 : WB.cell? ⟨w.heap.size + 2, 0, none⟩ = some (.int .i64 i) := by rw [← hWB]; simp [go_sem, res0]
  have c3 : WB.cell? ⟨w.heap.size + 3, 0, none⟩ = some (.int .u64 0) := by rw [← hWB]; simp [go_sem, res0]
  have f3 : WB.frozen? ⟨w.heap.size + 3, 0, none⟩ = false := by rw [← hWB]; simp [go_sem, res0]
  have cr : WB.cell? ⟨w.heap.size + 4, 0, none⟩ = some (.int .i64 0) := by rw [← hWB]; simp [go_sem, res0]
  have fr : WB.frozen? ⟨w.heap.size + 4, 0, none⟩ = false := by rw [← hWB]; simp [go_sem, res0]
  have hin : Calls Try.prog 35 #[.pointer (some ⟨w.heap.size + 1, 0, none⟩), .pointer (some ⟨w.heap.size, 0, none⟩), .pointer (some ⟨w.heap.size + 2, 0, none⟩), .pointer (some ⟨w.heap.size + 3, 0, none⟩)] WB fun e w1 => e = .returned (.tuple #[]) ∧ w1.cell? ⟨w.heap.size + 4, 0, none⟩ = some (.int .i64 0) ∧ w1.frozen? ⟨w.heap.size + 4, 0, none⟩ = false ∧ (w1.cell? ⟨w.heap.size + 3, 0, none⟩ = some (.int .u64 x) ∧ w1.frozen? ⟨w.heap.size + 3, 0, none⟩ = false ∧ Mem w1 mb ab s (L.set i.toNat (x, withP l p)) ∧ w.grownBy w1 (some ab)) := by
    refine (ll_in _ _ _ _ _ _ _ _ p i x l 0 _ c1 c0 c2 c3 f3 hs hx hl fl h0 hlt p0 p1).mono ?_
    rintro e w1 ⟨rfl, m, rfl⟩
    refine ⟨rfl, ?_, ?_, ?_, ?_, (((hB.putL hk _).set (by omega) (by omega)).drewN m), (grown_trans (grown_new (grown_trans (grown_wide gB : w.grownBy WB (some ab)) (grown_set _ _ _ _)) (grown_set _ _ _ _) (by omega)) (grown_drewN _ m _))⟩
    · rw [World.cell?_drewN]; rw [cell_set_far _ (by omega)]; rw [cell_set_far _ (by omega)]; exact cr
    · rw [World.frozen?_drewN]; simpa using fr
    · rw [World.cell?_drewN]; refine World.cell?_setCell_same _ _ _ (u := .int .u64 0) ?_; rw [cell_set_far _ (by omega)]; exact c3
    · rw [World.frozen?_drewN]; simpa using f3
  subst hWB
  have hz : ((((w.alloc (.cells #[.pointer (some ⟨mb, 0, none⟩)] 36)).alloc (.cells #[.int .i64 p] 3)).alloc (.cells #[.int .i64 i] 3)).alloc (.cells #[.int .u64 0] 23)).heap.size = w.heap.size + 4 := by simp
  have hG := guarded_yes 35 #[.pointer (some ⟨w.heap.size + 1, 0, none⟩), .pointer (some ⟨w.heap.size, 0, none⟩), .pointer (some ⟨w.heap.size + 2, 0, none⟩), .pointer (some ⟨w.heap.size + 3, 0, none⟩)] ((((w.alloc (.cells #[.pointer (some ⟨mb, 0, none⟩)] 36)).alloc (.cells #[.int .i64 p] 3)).alloc (.cells #[.int .i64 i] 3)).alloc (.cells #[.int .u64 0] 23)) (fun w1 => w1.cell? ⟨w.heap.size + 3, 0, none⟩ = some (.int .u64 x) ∧ w1.frozen? ⟨w.heap.size + 3, 0, none⟩ = false ∧ Mem w1 mb ab s (L.set i.toNat (x, withP l p)) ∧ w.grownBy w1 (some ab)) (enters 35 (by omega) _) (by rw [hz]; exact hin)
  rw [hz] at hG
  refine hG.mono ?_
  rintro e w2 ⟨rfl, w1, rfl, hc, hf, hM1, hg1⟩
  refine ⟨rfl, ?_, ?_, hM1.set (by omega) (by omega), grown_new hg1 (grown_set _ _ _ _) (by omega)⟩
  · rw [cell_set_far _ (by omega)]; exact hc
  · simpa using hf

set_option maxHeartbeats 1000000 in
theorem ll_yes_any (mb ab : Nat) (s : Value) (L : List (Int × Int)) (p i x l : Int) (w : World) (hM : Mem w mb ab s L) (hk : L[i.toNat]? = some (x, l)) (h0 : 0 ≤ i) (p0 : 0 ≤ p) (p1 : p < 16) :
    Calls Try.prog 17 #[.pointer (some ⟨mb, 0, none⟩), .int .i64 p, .int .i64 i] w fun e w' => e = .returned (.tuple #[.int .u64 x, .int .i64 0]) ∧ Mem w' mb ab s (L.set i.toNat (x, withP l p)) ∧ w.grownBy w' (some ab) := by
  have hmf : ∀ (fn : Fn) (first cap : Array Value) (w : World), (Instr.makeFunc fn first cap).run Try.prog w = .ok (.func fn first cap) w := fun _ _ _ _ => rfl
  have hml := hM.lt
  have hal := hM.row.lt hk
  have hk' := Lib.hid hk
  clear hk
  go_enter Try.func17, Try.ntmps17
  go_wp2_with (first
    | (go_at_call 22; with_reducible refine (ll_yes_mid _ _ _ _ _ _ _ _ _ hM hk'.out h0 p0 p1).mono ?_; rintro e w' ⟨rfl, hc, hf, hM', hg⟩))
  refine bodyPost_ret (v := .tuple #[.int .u64 x, .int .i64 0]) (by simp [results, Try.results17, go_sem, hc]) rfl ⟨rfl, ?_, ?_⟩
  · exact hM'.set (by omega) (by omega)
  · exact grown_new hg (grown_set _ _ _ _) (by omega)

set_option maxHeartbeats 1000000 in
theorem vl_yes_mid (mb ab : Nat) (s : Value) (L : List (Int × Int)) (p i x l : Int) (w : World) (hM : Mem w mb ab s L) (hk : L[i.toNat]? = some (x, l)) (h0 : 0 ≤ i) (p0 : 0 ≤ p) (p1 : p < 16) :
    Calls Try.prog 22 #[.func (.func 37) #[] #[.pointer (some ⟨w.heap.size, 0, none⟩), .pointer (some ⟨w.heap.size + 2, 0, none⟩), .pointer (some ⟨w.heap.size + 1, 0, none⟩), .pointer (some ⟨w.heap.size + 3, 0, none⟩)]] ((((w.alloc (.cells #[.pointer (some ⟨mb, 0, none⟩)] 36)).alloc (.cells #[.int .i64 p] 3)).alloc (.cells #[.int .i64 i] 3)).alloc (.cells #[.bool false] 4))
      fun e w' => e = .returned (.int .i64 0) ∧ w'.cell? ⟨w.heap.size + 3, 0, none⟩ = some (.bool (hasP l p)) ∧ w'.frozen? ⟨w.heap.size + 3, 0, none⟩ = false ∧ Mem w' mb ab s L ∧ w.grownBy w' none := by
  obtain ⟨⟨c, hsl⟩, hlt⟩ := hM.slice hk h0
  have hml := hM.lt
  have hal := hM.row.lt hk
  have gB : w.grownBy (((((w.alloc (.cells #[.pointer (some ⟨mb, 0, none⟩)] 36)).alloc (.cells #[.int .i64 p] 3)).alloc (.cells #[.int .i64 i] 3)).alloc (.cells #[.bool false] 4)).alloc res0) none := grown_trans (grown_trans (grown_trans (grown_trans (World.grownBy_alloc _ _ none) (World.grownBy_alloc _ _ none)) (World.grownBy_alloc _ _ none)) (World.grownBy_alloc _ _ none)) (World.grownBy_alloc _ _ none)
  have hB := hM.far gB (by simp) (by simp)
  generalize hWB : ((((w.alloc (.cells #[.pointer (some ⟨mb, 0, none⟩)] 36)).alloc (.cells #[.int .i64 p] 3)).alloc (.cells #[.int .i64 i] 3)).alloc (.cells #[.bool false] 4)).alloc res0 = WB at gB hB
  obtain ⟨hx, hl, fx, fl⟩ := hB.row _ _ hk
  have hs : WB.cell? ⟨mb, 0, none⟩ = some (.slice (some ⟨ab, 0, none⟩) L.length c) := by rw [hB.m, hsl]
  have c0 : WB.cell? ⟨w.heap.size, 0, none⟩ = some (.pointer (some ⟨mb, 0, none⟩)) := by rw [← hWB]; simp [go_sem, res0]
  have c1 : WB.cell? ⟨w.heap.size + 1, 0, none⟩ = some (.int .i64 p) := by rw [← hWB]; simp [go_sem, res0]
  have c2 : WB.cell? ⟨w.heap.size + 2, 0, none⟩ = some (.int .i64 i) := by rw [← hWB]; simp [go_sem, res0]
  have c3 : WB.cell? ⟨w.heap.size + 3, 0, none⟩ = some (.bool false) := by rw [← hWB]; simp [go_sem, res0]
  have f3 : WB.frozen? ⟨w.heap.size + 3, 0, none⟩ = false := by rw [← hWB]; simp [go_sem, res0]
  have cr : WB.cell? ⟨w.heap.size + 4, 0, none⟩ = some (.int .i64 0) := by rw [← hWB]; simp [go_sem, res0]
  have fr : WB.frozen? ⟨w.heap.size + 4, 0, none⟩ = false := by rw [← hWB]; simp [go_sem, res0]
  have hin : Calls Try.prog 37 #[.pointer (some ⟨w.heap.size, 0, none⟩), .pointer (some ⟨w.heap.size + 2, 0, none⟩), .pointer (some ⟨w.heap.size + 1, 0, none⟩), .pointer (some ⟨w.heap.size + 3, 0, none⟩)] WB fun e w1 => e = .returned (.tuple #[]) ∧ w1.cell? ⟨w.heap.size + 4, 0, none⟩ = some (.int .i64 0) ∧ w1.frozen? ⟨w.heap.size + 4, 0, none⟩ = false ∧ (w1.cell? ⟨w.heap.size + 3, 0, none⟩ = some (.bool (hasP l p)) ∧ w1.frozen? ⟨w.heap.size + 3, 0, none⟩ = false ∧ Mem w1 mb ab s L ∧ w.grownBy w1 none) := by
    refine (vl_in _ _ _ _ _ _ _ _ p i l false _ c0 c2 c1 c3 f3 hs hl (by omega) (by omega) (by omega) (by omega) h0 hlt p0 p1).mono ?_
    rintro e w1 ⟨rfl, m, rfl⟩
    refine ⟨rfl, ?_, ?_, ?_, ?_, ((hB.set (by omega) (by omega)).drewN m), (grown_trans (grown_new (grown_wide gB : w.grownBy WB none) (grown_set _ _ _ _) (by omega)) (grown_drewN _ m _))⟩
    · rw [World.cell?_drewN]; rw [cell_set_far _ (by omega)]; exact cr
    · rw [World.frozen?_drewN]; simpa using fr
    · rw [World.cell?_drewN]; refine World.cell?_setCell_same _ _ _ (u := .bool false) ?_; exact c3
    · rw [World.frozen?_drewN]; simpa using f3
  subst hWB
  have hz : ((((w.alloc (.cells #[.pointer (some ⟨mb, 0, none⟩)] 36)).alloc (.cells #[.int .i64 p] 3)).alloc (.cells #[.int .i64 i] 3)).alloc (.cells #[.bool false] 4)).heap.size = w.heap.size + 4 := by simp
  have hG := guarded_yes 37 #[.pointer (some ⟨w.heap.size, 0, none⟩), .pointer (some ⟨w.heap.size + 2, 0, none⟩), .pointer (some ⟨w.heap.size + 1, 0, none⟩), .pointer (some ⟨w.heap.size + 3, 0, none⟩)] ((((w.alloc (.cells #[.pointer (some ⟨mb, 0, none⟩)] 36)).alloc (.cells #[.int .i64 p] 3)).alloc (.cells #[.int .i64 i] 3)).alloc (.cells #[.bool false] 4)) (fun w1 => w1.cell? ⟨w.heap.size + 3, 0, none⟩ = some (.bool (hasP l p)) ∧ w1.frozen? ⟨w.heap.size + 3, 0, none⟩ = false ∧ Mem w1 mb ab s L ∧ w.grownBy w1 none) (enters 37 (by omega) _) (by rw [hz]; exact hin)
  rw [hz] at hG
  refine hG.mono ?_
  rintro e w2 ⟨rfl, w1, rfl, hc, hf, hM1, hg1⟩
  refine ⟨rfl, ?_, ?_, hM1.set (by omega) (by omega), grown_new hg1 (grown_set _ _ _ _) (by omega)⟩
  · rw [cell_set_far _ (by omega)]; exact hc
  · simpa using hf

set_option maxHeartbeats 1000000 in
theorem vl_yes_any (mb ab : Nat) (s : Value) (L : List (Int × Int)) (p i x l : Int) (w : World) (hM : Mem w mb ab s L) (hk : L[i.toNat]? = some (x, l)) (h0 : 0 ≤ i) (p0 : 0 ≤ p) (p1 : p < 16) :
    Calls Try.prog 18 #[.pointer (some ⟨mb, 0, none⟩), .int .i64 p, .int .i64 i] w fun e w' => e = .returned (.tuple #[.bool (hasP l p), .int .i64 0]) ∧ Mem w' mb ab s L ∧ w.grownBy w' none := by
  have hmf : ∀ (fn : Fn) (first cap : Array Value) (w : World), (Instr.makeFunc fn first cap).run Try.prog w = .ok (.func fn first cap) w := fun _ _ _ _ => rfl
  have hml := hM.lt
  have hal := hM.row.lt hk
  have hk' := Lib.hid hk
  clear hk
  go_enter Try.func18, Try.ntmps18
  go_wp2_with (first
    | (go_at_call 22; with_reducible refine (vl_yes_mid _ _ _ _ _ _ _ _ _ hM hk'.out h0 p0 p1).mono ?_; rintro e w' ⟨rfl, hc, hf, hM', hg⟩))
  refine bodyPost_ret (v := .tuple #[.bool (hasP l p), .int .i64 0]) (by simp [results, Try.results18, go_sem, hc]) rfl ⟨rfl, ?_, ?_⟩
  · exact hM'.set (by omega) (by omega)
  · exact grown_new hg (grown_set _ _ _ _) (by omega)

set_option maxHeartbeats 1000000 in
theorem sc_yes_mid (mb ab : Nat) (s : Value) (L : List (Int × Int)) (p i z x l : Int) (w : World) (hM : Mem w mb ab s L) (hk : L[i.toNat]? = some (x, l)) (h0 : 0 ≤ i) (p0 : 0 ≤ p) (p1 : p < 16) (hq : hasP l p = true) :
    Calls Try.prog 22 #[.func (.func 38) #[] #[.pointer (some ⟨w.heap.size + 1, 0, none⟩), .pointer (some ⟨w.heap.size, 0, none⟩), .pointer (some ⟨w.heap.size + 2, 0, none⟩), .pointer (some ⟨w.heap.size + 3, 0, none⟩), .pointer (some ⟨w.heap.size + 4, 0, none⟩)]] (((((w.alloc (.cells #[.pointer (some ⟨mb, 0, none⟩)] 36)).alloc (.cells #[.int .i64 p] 3)).alloc (.cells #[.int .i64 i] 3)).alloc (.cells #[.int .u64 z] 23)).alloc (.cells #[.bool false] 4))
      fun e w' => e = .returned (.int .i64 0) ∧ w'.cell? ⟨w.heap.size + 4, 0, none⟩ = some (.bool true) ∧ w'.frozen? ⟨w.heap.size + 4, 0, none⟩ = false ∧ Mem w' mb ab s (L.set i.toNat (z, 0)) ∧ w.grownBy w' (some ab) := by
  obtain ⟨⟨c, hsl⟩, hlt⟩ := hM.slice hk h0
  have hml := hM.lt
  have hal := hM.row.lt hk
  have gB : w.grownBy ((((((w.alloc (.cells #[.pointer (some ⟨mb, 0, none⟩)] 36)).alloc (.cells #[.int .i64 p] 3)).alloc (.cells #[.int .i64 i] 3)).alloc (.cells #[.int .u64 z] 23)).alloc (.cells #[.bool false] 4)).alloc res0) none := grown_trans (grown_trans (grown_trans (grown_trans (grown_trans (World.grownBy_alloc _ _ none) (World.grownBy_alloc _ _ none)) (World.grownBy_alloc _ _ none)) (World.grownBy_alloc _ _ none)) (World.grownBy_alloc _ _ none)) (World.grownBy_alloc _ _ none)
  have hB := hM.far gB (by simp) (by simp)
  generalize hWB : (((((w.alloc (.cells #[.pointer (some ⟨mb, 0, none⟩)] 36)).alloc (.cells #[.int .i64 p] 3)).alloc (.cells #[.int .i64 i] 3)).alloc (.cells #[.int .u64 z] 23)).alloc (.cells #[.bool false] 4)).alloc res0 = WB at gB hB
  obtain ⟨hx, hl, fx, fl⟩ := hB.row _ _ hk
  have hs : WB.cell? ⟨mb, 0, none⟩ = some (.slice (some ⟨ab, 0, none⟩) L.length c) := by rw [hB.m, hsl]
  have c0 : WB.cell? ⟨w.heap.size, 0, none⟩ = some (.pointer (some ⟨mb, 0, none⟩)) := by rw [← hWB]; simp [go_sem, res0]
  have c1 : WB.cell? ⟨w.heap.size + 1, 0, none⟩ = some (.int .i64 p) := by rw [← hWB]; simp [go_sem, res0]
  have c2 : WB.cell? ⟨w.heap.size + 2, 0, none⟩ = some (.int .i64 i) := by rw [← hWB]; simp [go_sem, res0]
  have c3 : WB.cell? ⟨w.heap.size + 3, 0, none⟩ = some (.int .u64 z) := by rw [← hWB]; simp [go_sem, res0]
  have c4 : WB.cell? ⟨w.heap.size + 4, 0, none⟩ = some (.bool false) := by rw [← hWB]; simp [go_sem, res0]
  have f4 : WB.frozen? ⟨w.heap.size + 4, 0, none⟩ = false := by rw [← hWB]; simp [go_sem, res0]
  have cr : WB.cell? ⟨w.heap.size + 5, 0, none⟩ = some (.int .i64 0) := by rw [← hWB]; simp [go_sem, res0]
  have fr : WB.frozen? ⟨w.heap.size + 5, 0, none⟩ = false := by rw [← hWB]; simp [go_sem, res0]
  have hin : Calls Try.prog 38 #[.pointer (some ⟨w.heap.size + 1, 0, none⟩), .pointer (some ⟨w.heap.size, 0, none⟩), .pointer (some ⟨w.heap.size + 2, 0, none⟩), .pointer (some ⟨w.heap.size + 3, 0, none⟩), .pointer (some ⟨w.heap.size + 4, 0, none⟩)] WB fun e w1 => e = .returned (.tuple #[]) ∧ w1.cell? ⟨w.heap.size + 5, 0, none⟩ = some (.int .i64 0) ∧ w1.frozen? ⟨w.heap.size + 5, 0, none⟩ = false ∧ (w1.cell? ⟨w.heap.size + 4, 0, none⟩ = some (.bool true) ∧ w1.frozen? ⟨w.heap.size + 4, 0, none⟩ = false ∧ Mem w1 mb ab s (L.set i.toNat (z, 0)) ∧ w.grownBy w1 (some ab)) := by
    refine (sc_yes _ _ _ _ _ _ _ _ _ p i l x z false _ c1 c0 c2 c3 c4 f4 hs hx fx hl fl (by omega) (by simpa [hasP] using hq) h0 hlt p0 p1).mono ?_
    rintro e w1 ⟨rfl, m, rfl⟩
    refine ⟨rfl, ?_, ?_, ?_, ?_, (((hB.put2 hk z 0).set (by omega) (by omega)).drewN m), (grown_trans (grown_new (grown_trans (grown_trans (grown_wide gB : w.grownBy WB (some ab)) (grown_set _ _ _ _)) (grown_set _ _ _ _)) (grown_set _ _ _ _) (by omega)) (grown_drewN _ m _))⟩
    · rw [World.cell?_drewN]; rw [cell_set_far _ (by omega)]; rw [cell_set_far _ (by omega), cell_set_far _ (by omega)]; exact cr
    · rw [World.frozen?_drewN]; simpa using fr
    · rw [World.cell?_drewN]; refine World.cell?_setCell_same _ _ _ (u := .bool false) ?_; rw [cell_set_far _ (by omega), cell_set_far _ (by omega)]; exact c4
    · rw [World.frozen?_drewN]; simpa using f4
  subst hWB
  have hz : (((((w.alloc (.cells #[.pointer (some ⟨mb, 0, none⟩)] 36)).alloc (.cells #[.int .i64 p] 3)).alloc (.cells #[.int .i64 i] 3)).alloc (.cells #[.int .u64 z] 23)).alloc (.cells #[.bool false] 4)).heap.size = w.heap.size + 5 := by simp
  have hG := guarded_yes 38 #[.pointer (some ⟨w.heap.size + 1, 0, none⟩), .pointer (some ⟨w.heap.size, 0, none⟩), .pointer (some ⟨w.heap.size + 2, 0, none⟩), .pointer (some ⟨w.heap.size + 3, 0, none⟩), .pointer (some ⟨w.heap.size + 4, 0, none⟩)] (((((w.alloc (.cells #[.pointer (some ⟨mb, 0, none⟩)] 36)).alloc (.cells #[.int .i64 p] 3)).alloc (.cells #[.int .i64 i] 3)).alloc (.cells #[.int .u64 z] 23)).alloc (.cells #[.bool false] 4)) (fun w1 => w1.cell? ⟨w.heap.size + 4, 0, none⟩ = some (.bool true) ∧ w1.frozen? ⟨w.heap.size + 4, 0, none⟩ = false ∧ Mem w1 mb ab s (L.set i.toNat (z, 0)) ∧ w.grownBy w1 (some ab)) (enters 38 (by omega) _) (by rw [hz]; exact hin)
  rw [hz] at hG
  refine hG.mono ?_
  rintro e w2 ⟨rfl, w1, rfl, hc, hf, hM1, hg1⟩
  refine ⟨rfl, ?_, ?_, hM1.set (by omega) (by omega), grown_new hg1 (grown_set _ _ _ _) (by omega)⟩
  · rw [cell_set_far _ (by omega)]; exact hc
  · simpa using hf

set_option maxHeartbeats 1000000 in
theorem sc_yes_any (mb ab : Nat) (s : Value) (L : List (Int × Int)) (p i z x l : Int) (w : World) (hM : Mem w mb ab s L) (hk : L[i.toNat]? = some (x, l)) (h0 : 0 ≤ i) (p0 : 0 ≤ p) (p1 : p < 16) (hq : hasP l p = true) :
    Calls Try.prog 19 #[.pointer (some ⟨mb, 0, none⟩), .int .i64 p, .int .i64 i, .int .u64 z] w fun e w' => e = .returned (.tuple #[.bool true, .int .i64 0]) ∧ Mem w' mb ab s (L.set i.toNat (z, 0)) ∧ w.grownBy w' (some ab) := by
  have hmf : ∀ (fn : Fn) (first cap : Array Value) (w : World), (Instr.makeFunc fn first cap).run Try.prog w = .ok (.func fn first cap) w := fun _ _ _ _ => rfl
  have hml := hM.lt
  have hal := hM.row.lt hk
  have hk' := Lib.hid hk
  clear hk
  have hq0 := Lib.hid hq
  clear hq
  go_enter Try.func19, Try.ntmps19
  go_wp2_with (first
    | (go_at_call 22; with_reducible refine (sc_yes_mid _ _ _ _ _ _ _ _ _ _ hM hk'.out h0 p0 p1 hq0.out).mono ?_; rintro e w' ⟨rfl, hc, hf, hM', hg⟩))
  refine bodyPost_ret (v := .tuple #[.bool true, .int .i64 0]) (by simp [results, Try.results19, go_sem, hc]) rfl ⟨rfl, ?_, ?_⟩
  · exact hM'.set (by omega) (by omega)
  · exact grown_new hg (grown_set _ _ _ _) (by omega)

set_option maxHeartbeats 1000000 in
theorem sc_not_mid (mb ab : Nat) (s : Value) (L : List (Int × Int)) (p i z x l : Int) (w : World) (hM : Mem w mb ab s L) (hk : L[i.toNat]? = some (x, l)) (h0 : 0 ≤ i) (p0 : 0 ≤ p) (p1 : p < 16) (hq : hasP l p = false) :
    Calls Try.prog 22 #[.func (.func 38) #[] #[.pointer (some ⟨w.heap.size + 1, 0, none⟩), .pointer (some ⟨w.heap.size, 0, none⟩), .pointer (some ⟨w.heap.size + 2, 0, none⟩), .pointer (some ⟨w.heap.size + 3, 0, none⟩), .pointer (some ⟨w.heap.size + 4, 0, none⟩)]] (((((w.alloc (.cells #[.pointer (some ⟨mb, 0, none⟩)] 36)).alloc (.cells #[.int .i64 p] 3)).alloc (.cells #[.int .i64 i] 3)).alloc (.cells #[.int .u64 z] 23)).alloc (.cells #[.bool false] 4))
      fun e w' => e = .returned (.int .i64 0) ∧ w'.cell? ⟨w.heap.size + 4, 0, none⟩ = some (.bool false) ∧ w'.frozen? ⟨w.heap.size + 4, 0, none⟩ = false ∧ Mem w' mb ab s L ∧ w.grownBy w' none := by
  obtain ⟨⟨c, hsl⟩, hlt⟩ := hM.slice hk h0
  have hml := hM.lt
  have hal := hM.row.lt hk
  have gB : w.grownBy ((((((w.alloc (.cells #[.pointer (some ⟨mb, 0, none⟩)] 36)).alloc (.cells #[.int .i64 p] 3)).alloc (.cells #[.int .i64 i] 3)).alloc (.cells #[.int .u64 z] 23)).alloc (.cells #[.bool false] 4)).alloc res0) none := grown_trans (grown_trans (grown_trans (grown_trans (grown_trans (World.grownBy_alloc _ _ none) (World.grownBy_alloc _ _ none)) (World.grownBy_alloc _ _ none)) (World.grownBy_alloc _ _ none)) (World.grownBy_alloc _ _ none)) (World.grownBy_alloc _ _ none)
  have hB := hM.far gB (by simp) (by simp)
  generalize hWB : (((((w.alloc (.cells #[.pointer (some ⟨mb, 0, none⟩)] 36)).alloc (.cells #[.int .i64 p] 3)).alloc (.cells #[.int .i64 i] 3)).alloc (.cells #[.int .u64 z] 23)).alloc (.cells #[.bool false] 4)).alloc res0 = WB at gB hB
  obtain ⟨hx, hl, fx, fl⟩ := hB.row _ _ hk
  have hs : WB.cell? ⟨mb, 0, none⟩ = some (.slice (some ⟨ab, 0, none⟩) L.length c) := by rw [hB.m, hsl]
  have c0 : WB.cell? ⟨w.heap.size, 0, none⟩ = some (.pointer (some ⟨mb, 0, none⟩)) := by rw [← hWB]; simp [go_sem, res0]
  have c1 : WB.cell? ⟨w.heap.size + 1, 0, none⟩ = some (.int .i64 p) := by rw [← hWB]; simp [go_sem, res0]
  have c2 : WB.cell? ⟨w.heap.size + 2, 0, none⟩ = some (.int .i64 i) := by rw [← hWB]; simp [go_sem, res0]
  have c3 : WB.cell? ⟨w.heap.size + 3, 0, none⟩ = some (.int .u64 z) := by rw [← hWB]; simp [go_sem, res0]
  have c4 : WB.cell? ⟨w.heap.size + 4, 0, none⟩ = some (.bool false) := by rw [← hWB]; simp [go_sem, res0]
  have f4 : WB.frozen? ⟨w.heap.size + 4, 0, none⟩ = false := by rw [← hWB]; simp [go_sem, res0]
  have cr : WB.cell? ⟨w.heap.size + 5, 0, none⟩ = some (.int .i64 0) := by rw [← hWB]; simp [go_sem, res0]
  have fr : WB.frozen? ⟨w.heap.size + 5, 0, none⟩ = false := by rw [← hWB]; simp [go_sem, res0]
  have hin : Calls Try.prog 38 #[.pointer (some ⟨w.heap.size + 1, 0, none⟩), .pointer (some ⟨w.heap.size, 0, none⟩), .pointer (some ⟨w.heap.size + 2, 0, none⟩), .pointer (some ⟨w.heap.size + 3, 0, none⟩), .pointer (some ⟨w.heap.size + 4, 0, none⟩)] WB fun e w1 => e = .returned (.tuple #[]) ∧ w1.cell? ⟨w.heap.size + 5, 0, none⟩ = some (.int .i64 0) ∧ w1.frozen? ⟨w.heap.size + 5, 0, none⟩ = false ∧ (w1.cell? ⟨w.heap.size + 4, 0, none⟩ = some (.bool false) ∧ w1.frozen? ⟨w.heap.size + 4, 0, none⟩ = false ∧ Mem w1 mb ab s L ∧ w.grownBy w1 none) := by
    refine (sc_not _ _ _ _ _ _ _ _ _ p i l _ c1 c0 c2 hs hl (by simpa [hasP] using hq) h0 hlt p0 p1).mono ?_
    rintro e w1 ⟨rfl, m, rfl⟩
    refine ⟨rfl, ?_, ?_, ?_, ?_, (hB.drewN m), (grown_trans (grown_wide gB : w.grownBy WB none) (grown_drewN _ m _))⟩
    · rw [World.cell?_drewN]; exact cr
    · rw [World.frozen?_drewN]; simpa using fr
    · rw [World.cell?_drewN]; exact c4
    · rw [World.frozen?_drewN]; simpa using f4
  subst hWB
  have hz : (((((w.alloc (.cells #[.pointer (some ⟨mb, 0, none⟩)] 36)).alloc (.cells #[.int .i64 p] 3)).alloc (.cells #[.int .i64 i] 3)).alloc (.cells #[.int .u64 z] 23)).alloc (.cells #[.bool false] 4)).heap.size = w.heap.size + 5 := by simp
  have hG := guarded_yes 38 #[.pointer (some ⟨w.heap.size + 1, 0, none⟩), .pointer (some ⟨w.heap.size, 0, none⟩), .pointer (some ⟨w.heap.size + 2, 0, none⟩), .pointer (some ⟨w.heap.size + 3, 0, none⟩), .pointer (some ⟨w.heap.size + 4, 0, none⟩)] (((((w.alloc (.cells #[.pointer (some ⟨mb, 0, none⟩)] 36)).alloc (.cells #[.int .i64 p] 3)).alloc (.cells #[.int .i64 i] 3)).alloc (.cells #[.int .u64 z] 23)).alloc (.cells #[.bool false] 4)) (fun w1 => w1.cell? ⟨w.heap.size + 4, 0, none⟩ = some (.bool false) ∧ w1.frozen? ⟨w.heap.size + 4, 0, none⟩ = false ∧ Mem w1 mb ab s L ∧ w.grownBy w1 none) (enters 38 (by omega) _) (by rw [hz]; exact hin)
  rw [hz] at hG
  refine hG.mono ?_
  rintro e w2 ⟨rfl, w1, rfl, hc, hf, hM1, hg1⟩
  refine ⟨rfl, ?_, ?_, hM1.set (by omega) (by omega), grown_new hg1 (grown_set _ _ _ _) (by omega)⟩
  · rw [cell_set_far _ (by omega)]; exact hc
  · simpa using hf

set_option maxHeartbeats 1000000 in
theorem sc_not_any (mb ab : Nat) (s : Value) (L : List (Int × Int)) (p i z x l : Int) (w : World) (hM : Mem w mb ab s L) (hk : L[i.toNat]? = some (x, l)) (h0 : 0 ≤ i) (p0 : 0 ≤ p) (p1 : p < 16) (hq : hasP l p = false) :
    Calls Try.prog 19 #[.pointer (some ⟨mb, 0, none⟩), .int .i64 p, .int .i64 i, .int .u64 z] w fun e w' => e = .returned (.tuple #[.bool false, .int .i64 0]) ∧ Mem w' mb ab s L ∧ w.grownBy w' none := by
  have hmf : ∀ (fn : Fn) (first cap : Array Value) (w : World), (Instr.makeFunc fn first cap).run Try.prog w = .ok (.func fn first cap) w := fun _ _ _ _ => rfl
  have hml := hM.lt
  have hal := hM.row.lt hk
  have hk' := Lib.hid hk
  clear hk
  have hq0 := Lib.hid hq
  clear hq
  go_enter Try.func19, Try.ntmps19
  go_wp2_with (first
    | (go_at_call 22; with_reducible refine (sc_not_mid _ _ _ _ _ _ _ _ _ _ hM hk'.out h0 p0 p1 hq0.out).mono ?_; rintro e w' ⟨rfl, hc, hf, hM', hg⟩))
  refine bodyPost_ret (v := .tuple #[.bool false, .int .i64 0]) (by simp [results, Try.results19, go_sem, hc]) rfl ⟨rfl, ?_, ?_⟩
  · exact hM'.set (by omega) (by omega)
  · exact grown_new hg (grown_set _ _ _ _) (by omega)

set_option maxHeartbeats 1000000 in
theorem rl_yes_mid (mb ab : Nat) (s : Value) (L : List (Int × Int)) (p i x l : Int) (w : World) (hM : Mem w mb ab s L) (hk : L[i.toNat]? = some (x, l)) (h0 : 0 ≤ i) (p0 : 0 ≤ p) (p1 : p < 16) :
    Calls Try.prog 22 #[.func (.func 39) #[] #[.pointer (some ⟨w.heap.size + 1, 0, none⟩), .pointer (some ⟨w.heap.size, 0, none⟩), .pointer (some ⟨w.heap.size + 2, 0, none⟩)]] (((w.alloc (.cells #[.pointer (some ⟨mb, 0, none⟩)] 36)).alloc (.cells #[.int .i64 p] 3)).alloc (.cells #[.int .i64 i] 3))
      fun e w' => e = .returned (.int .i64 0) ∧ Mem w' mb ab s (L.set i.toNat (x, lessP l p)) ∧ w.grownBy w' (some ab) := by
  obtain ⟨⟨c, hsl⟩, hlt⟩ := hM.slice hk h0
  have hml := hM.lt
  have hal := hM.row.lt hk
  have gB : w.grownBy ((((w.alloc (.cells #[.pointer (some ⟨mb, 0, none⟩)] 36)).alloc (.cells #[.int .i64 p] 3)).alloc (.cells #[.int .i64 i] 3)).alloc res0) none := grown_trans (grown_trans (grown_trans (World.grownBy_alloc _ _ none) (World.grownBy_alloc _ _ none)) (World.grownBy_alloc _ _ none)) (World.grownBy_alloc _ _ none)
  have hB := hM.far gB (by simp) (by simp)
  generalize hWB : (((w.alloc (.cells #[.pointer (some ⟨mb, 0, none⟩)] 36)).alloc (.cells #[.int .i64 p] 3)).alloc (.cells #[.int .i64 i] 3)).alloc res0 = WB at gB hB
  obtain ⟨hx, hl, fx, fl⟩ := hB.row _ _ hk
  have hs : WB.cell? ⟨mb, 0, none⟩ = some (.slice (some ⟨ab, 0, none⟩) L.length c) := by rw [hB.m, hsl]
  have c0 : WB.cell? ⟨w.heap.size, 0, none⟩ = some (.pointer (some ⟨mb, 0, none⟩)) := by rw [← hWB]; simp [go_sem, res0]
  have c1 : WB.cell? ⟨w.heap.size + 1, 0, none⟩ = some (.int .i64 p) := by rw [← hWB]; simp [go_sem, res0]
  have c2 : WB.cell? ⟨w.heap.size + 2, 0, none⟩ = some (.int .i64 i) := by rw [← hWB]; simp [go_sem, res0]
  have cr : WB.cell? ⟨w.heap.size + 3, 0, none⟩ = some (.int .i64 0) := by rw [← hWB]; simp [go_sem, res0]
  have fr : WB.frozen? ⟨w.heap.size + 3, 0, none⟩ = false := by rw [← hWB]; simp [go_sem, res0]
  have hin : Calls Try.prog 39 #[.pointer (some ⟨w.heap.size + 1, 0, none⟩), .pointer (some ⟨w.heap.size, 0, none⟩), .pointer (some ⟨w.heap.size + 2, 0, none⟩)] WB fun e w1 => e = .returned (.tuple #[]) ∧ w1.cell? ⟨w.heap.size + 3, 0, none⟩ = some (.int .i64 0) ∧ w1.frozen? ⟨w.heap.size + 3, 0, none⟩ = false ∧ (Mem w1 mb ab s (L.set i.toNat (x, lessP l p)) ∧ w.grownBy w1 (some ab)) := by
    refine (rl_in _ _ _ _ _ _ _ p i l _ c1 c0 c2 hs hl fl h0 hlt p0 p1).mono ?_
    rintro e w1 ⟨rfl, m, rfl⟩
    refine ⟨rfl, ?_, ?_, ((hB.putL hk _).drewN m), (grown_trans (grown_trans (grown_wide gB : w.grownBy WB (some ab)) (grown_set _ _ _ _)) (grown_drewN _ m _))⟩
    · rw [World.cell?_drewN]; rw [cell_set_far _ (by omega)]; exact cr
    · rw [World.frozen?_drewN]; simpa using fr
  subst hWB
  have hz : (((w.alloc (.cells #[.pointer (some ⟨mb, 0, none⟩)] 36)).alloc (.cells #[.int .i64 p] 3)).alloc (.cells #[.int .i64 i] 3)).heap.size = w.heap.size + 3 := by simp
  have hG := guarded_yes 39 #[.pointer (some ⟨w.heap.size + 1, 0, none⟩), .pointer (some ⟨w.heap.size, 0, none⟩), .pointer (some ⟨w.heap.size + 2, 0, none⟩)] (((w.alloc (.cells #[.pointer (some ⟨mb, 0, none⟩)] 36)).alloc (.cells #[.int .i64 p] 3)).alloc (.cells #[.int .i64 i] 3)) (fun w1 => Mem w1 mb ab s (L.set i.toNat (x, lessP l p)) ∧ w.grownBy w1 (some ab)) (enters 39 (by omega) _) (by rw [hz]; exact hin)
  rw [hz] at hG
  refine hG.mono ?_
  rintro e w2 ⟨rfl, w1, rfl, hM1, hg1⟩
  refine ⟨rfl, hM1.set (by omega) (by omega), grown_new hg1 (grown_set _ _ _ _) (by omega)⟩

set_option maxHeartbeats 1000000 in
theorem rl_yes_any (mb ab : Nat) (s : Value) (L : List (Int × Int)) (p i x l : Int) (w : World) (hM : Mem w mb ab s L) (hk : L[i.toNat]? = some (x, l)) (h0 : 0 ≤ i) (p0 : 0 ≤ p) (p1 : p < 16) :
    Calls Try.prog 20 #[.pointer (some ⟨mb, 0, none⟩), .int .i64 p, .int .i64 i] w fun e w' => e = .returned (.int .i64 0) ∧ Mem w' mb ab s (L.set i.toNat (x, lessP l p)) ∧ w.grownBy w' (some ab) := by
  have hmf : ∀ (fn : Fn) (first cap : Array Value) (w : World), (Instr.makeFunc fn first cap).run Try.prog w = .ok (.func fn first cap) w := fun _ _ _ _ => rfl
  have hml := hM.lt
  have hal := hM.row.lt hk
  have hk' := Lib.hid hk
  clear hk
  go_enter Try.func20, Try.ntmps20
  go_wp2_with (first
    | (go_at_call 22; with_reducible refine (rl_yes_mid _ _ _ _ _ _ _ _ _ hM hk'.out h0 p0 p1).mono ?_; rintro e w' ⟨rfl, hM', hg⟩))
  go_ret
  exact ⟨rfl, hM', hg⟩

end Go.Proofs.Ythegokjhgdneoaa
