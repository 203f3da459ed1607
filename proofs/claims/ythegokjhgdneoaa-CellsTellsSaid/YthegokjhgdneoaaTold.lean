/-
  The document's New; a copy of memory that has no cells. Conditions: the integer that is said.
-/
import Derived.Test.YthegokjhgdneoaaDo
namespace Go.Proofs.Ythegokjhgdneoaa
open Go.RowKit (intOf)

set_option maxHeartbeats 1000000 in
theorem rnew_yes (n : Int) (w : World) (h0 : 0 ≤ n) (h1 : n ≤ 1048576) :
    Calls Try.prog 11 #[.int .i64 n] w fun e w' => e = .returned (.tuple #[.agg #[.slice (some ⟨w.heap.size + 1, 0, none⟩) n.toNat n.toNat], .int .i64 0]) ∧ Row w' (w.heap.size + 1) (List.replicate n.toNat (0, 0)) ∧ w.grownBy w' none ∧ w.heap.size + 1 < w'.heap.size := by
  have hmk := make_cells n h0 h1
  have e1 : ¬ n < 0 := by omega
  have e2 : ¬ 1048576 < n := by omega
  go_enter Try.func11, Try.ntmps11
  go_wp2
  refine bodyPost_ret (v := .tuple #[.agg #[.slice (some ⟨w.heap.size + 1, 0, none⟩) n.toNat n.toNat], .int .i64 0]) (by simp [results, Try.results11, go_sem]) rfl ⟨rfl, ?_, grown_trans (World.grownBy_alloc _ _ none) (World.grownBy_alloc _ _ none), by simp⟩
  have := row_made (w.alloc (.cells #[.slice (some ⟨w.heap.size + 1, 0, none⟩) n.toNat n.toNat] 29)) n.toNat
  rwa [World.size_alloc] at this

set_option maxHeartbeats 1000000 in
theorem rnew_no (n : Int) (w : World) (h : n < 0 ∨ 1048576 < n) :
    Calls Try.prog 11 #[.int .i64 n] w fun e w' => e = .returned (.tuple #[.agg #[.slice none 0 0], .int .i64 1]) ∧ w.grownBy w' none := by
  have h' : n < 0 ∨ (¬ n < 0 ∧ 1048576 < n) := by omega
  clear h
  rcases h' with h | ⟨h, h2⟩
  all_goals
    go_enter Try.func11, Try.ntmps11
    go_wp2
    exact bodyPost_ret (v := .tuple #[.agg #[.slice none 0 0], .int .i64 1]) (by simp [results, Try.results11, go_sem]) rfl ⟨rfl, World.grownBy_alloc _ _ _⟩

set_option maxHeartbeats 1000000 in
theorem own_none (w : World) :
    Calls Try.prog 13 #[.agg #[.slice none 0 0]] w fun e w' => e = .returned (.agg #[.slice none 0 0]) ∧ w.grownBy w' none ∧ w.heap.size < w'.heap.size := by
  go_enter Try.func13, Try.ntmps13
  go_wp2
  exact bodyPost_ret (v := .agg #[.slice none 0 0]) (by simp [results, Try.results13, go_sem]) rfl ⟨rfl, grown_trans (World.grownBy_alloc _ _ none) (World.grownBy_alloc _ _ none), by simp; omega⟩

/-- Own, of whatever memory. -/
theorem own_mem (mb ab n c : Nat) (sa : Option Addr) (L : List (Int × Int)) (w : World) (hM : Mem w mb ab (.slice sa n c) L) (hn : n ≤ 1048576) (hz : n = 0 → sa = none) :
    Calls Try.prog 13 #[.agg #[.slice sa n c]] w fun e w' => ∃ ta c2 bb, e = .returned (.agg #[.slice ta n c2]) ∧ ((Value.slice ta n c2 = .slice none 0 0 ∧ L = []) ∨ ∃ c', Value.slice ta n c2 = .slice (some ⟨bb, 0, none⟩) L.length c') ∧ Row w' bb L ∧ w.grownBy w' none ∧ w.heap.size ≤ bb ∧ bb < w'.heap.size := by
  have nil : L = [] → Value.slice sa n c = .slice none 0 0 → Calls Try.prog 13 #[.agg #[.slice sa n c]] w fun e w' => ∃ ta c2 bb, e = .returned (.agg #[.slice ta n c2]) ∧ ((Value.slice ta n c2 = .slice none 0 0 ∧ L = []) ∨ ∃ c', Value.slice ta n c2 = .slice (some ⟨bb, 0, none⟩) L.length c') ∧ Row w' bb L ∧ w.grownBy w' none ∧ w.heap.size ≤ bb ∧ bb < w'.heap.size := fun hL e => by
    cases e
    subst hL
    exact (own_none w).mono fun e w' ⟨h1, h2, h3⟩ => ⟨none, 0, w.heap.size, h1, .inl ⟨rfl, rfl⟩, fun k x hk => by simp at hk, h2, Nat.le_refl _, h3⟩
  rcases hM.form with ⟨e, hL⟩ | ⟨c', e⟩
  · exact nil hL e
  · cases e
    by_cases h0 : 0 < L.length
    · exact (own_some ab 0 _ _ L w rfl hM.row.src h0 hn).mono fun e w' ⟨cap, h1, h2, h3, h4⟩ => ⟨_, cap, _, h1, .inr ⟨cap, rfl⟩, h2, h3, by omega, h4⟩
    · have := hz (by omega)
      cases this

/-- Same, of two memories with the same cells. -/
theorem same_mem (mb ab nb bb n c1 c2 : Nat) (sa ta : Option Addr) (L : List (Int × Int)) (w : World) (hx : Mem w mb ab (.slice sa n c1) L) (hy : Mem w nb bb (.slice ta n c2) L) (hn : n ≤ 1048576) :
    Calls Try.prog 12 #[.agg #[.slice sa n c1], .agg #[.slice ta n c2]] w fun e w' => e = .returned (.bool true) ∧ w.grownBy w' none := by
  have look : ∀ {mb ab n c : Nat} {sa : Option Addr}, Mem w mb ab (.slice sa n c) L → L.length = n ∧ ∀ k x, L[k]? = some x → ∃ b, sa = some ⟨b, 0, none⟩ ∧ w.cell? ⟨b, k * 2, none⟩ = some (.int .u64 x.1) ∧ w.cell? ⟨b, k * 2 + 1, none⟩ = some (.int .i64 x.2) := fun h => by
    rcases h.form with ⟨e, hL⟩ | ⟨c', e⟩
    · cases e
      subst hL
      exact ⟨rfl, fun k x hk => by simp at hk⟩
    · cases e
      exact ⟨rfl, h.row.look⟩
  obtain ⟨l1, h1⟩ := look hx
  obtain ⟨_, h2⟩ := look hy
  exact same_yes sa ta n c1 c2 L w l1 hn h1 h2

end Go.Proofs.Ythegokjhgdneoaa
