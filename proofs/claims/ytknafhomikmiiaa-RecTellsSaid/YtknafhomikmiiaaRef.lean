/-
  What the document's own Ask, Asked, Answer, Told, Head and Phase, and those of package rec, return, in one form, in whatever world, for integers of their kinds; they leave memory as it was, but for new blocks. Conditions: as each says.
-/
import Derived.Test.YtknafhomikmiiaaLeaf
namespace Go.Proofs.Ytknafhomikmiiaa
open Go.RowKit (Below intOf)

set_option maxHeartbeats 400000 in
theorem rask_low (c k v : Int) (w : World) (h0 : c < 1) : Calls Try.prog 9 #[.agg #[.int .i64 c, .int .u64 k, .int .u64 v]] w fun e w' => e = .returned (.tuple #[.agg #[.int .u64 0, .int .u64 0, .int .u64 0], .int .i64 1]) ∧ Ext w w' := by
  go_enter Try.func9, Try.ntmps9
  go_wp2
  exact bodyPost_ret (v := .tuple #[.agg #[.int .u64 0, .int .u64 0, .int .u64 0], .int .i64 1]) (by simp [results, Try.results9, go_sem]) rfl ⟨rfl, ((Ext.refl w).alloc _).alloc _⟩
set_option maxHeartbeats 400000 in
theorem rask_far (c k v : Int) (w : World) (h0 : 255 < c) : Calls Try.prog 9 #[.agg #[.int .i64 c, .int .u64 k, .int .u64 v]] w fun e w' => e = .returned (.tuple #[.agg #[.int .u64 0, .int .u64 0, .int .u64 0], .int .i64 1]) ∧ Ext w w' := by
  have hl : ¬ c < 1 := by omega
  go_enter Try.func9, Try.ntmps9
  go_wp2
  exact bodyPost_ret (v := .tuple #[.agg #[.int .u64 0, .int .u64 0, .int .u64 0], .int .i64 1]) (by simp [results, Try.results9, go_sem]) rfl ⟨rfl, ((Ext.refl w).alloc _).alloc _⟩
set_option maxHeartbeats 400000 in
theorem rask_yes (c k v : Int) (w : World) (h0 : 1 ≤ c) (h1 : c ≤ 255) : Calls Try.prog 9 #[.agg #[.int .i64 c, .int .u64 k, .int .u64 v]] w fun e w' => e = .returned (.tuple #[.agg #[.int .u64 c, .int .u64 k, .int .u64 v], .int .i64 0]) ∧ Ext w w' := by
  have hl : ¬ c < 1 := by omega
  have hf : ¬ 255 < c := by omega
  go_enter Try.func9, Try.ntmps9
  go_wp2
  exact bodyPost_ret (v := .tuple #[.agg #[.int .u64 c, .int .u64 k, .int .u64 v], .int .i64 0]) (by simp [results, Try.results9, go_sem]) rfl ⟨rfl, ((Ext.refl w).alloc _).alloc _⟩
set_option maxHeartbeats 400000 in
theorem rasked_low (c k v : Int) (w : World) (h0 : c < 1) : Calls Try.prog 13 #[.agg #[.int .u64 c, .int .u64 k, .int .u64 v]] w fun e w' => e = .returned (.tuple #[.agg #[.int .i64 0, .int .u64 0, .int .u64 0], .int .i64 2]) ∧ Ext w w' := by
  go_enter Try.func13, Try.ntmps13
  go_wp2
  exact bodyPost_ret (v := .tuple #[.agg #[.int .i64 0, .int .u64 0, .int .u64 0], .int .i64 2]) (by simp [results, Try.results13, go_sem]) rfl ⟨rfl, ((Ext.refl w).alloc _).alloc _⟩
set_option maxHeartbeats 400000 in
theorem rasked_far (c k v : Int) (w : World) (h0 : 255 < c) : Calls Try.prog 13 #[.agg #[.int .u64 c, .int .u64 k, .int .u64 v]] w fun e w' => e = .returned (.tuple #[.agg #[.int .i64 0, .int .u64 0, .int .u64 0], .int .i64 2]) ∧ Ext w w' := by
  have hl : ¬ c < 1 := by omega
  go_enter Try.func13, Try.ntmps13
  go_wp2
  exact bodyPost_ret (v := .tuple #[.agg #[.int .i64 0, .int .u64 0, .int .u64 0], .int .i64 2]) (by simp [results, Try.results13, go_sem]) rfl ⟨rfl, ((Ext.refl w).alloc _).alloc _⟩
set_option maxHeartbeats 400000 in
theorem rasked_yes (c k v : Int) (w : World) (h0 : 1 ≤ c) (h1 : c ≤ 255) : Calls Try.prog 13 #[.agg #[.int .u64 c, .int .u64 k, .int .u64 v]] w fun e w' => e = .returned (.tuple #[.agg #[.int .i64 c, .int .u64 k, .int .u64 v], .int .i64 0]) ∧ Ext w w' := by
  have hl : ¬ c < 1 := by omega
  have hf : ¬ 255 < c := by omega
  go_enter Try.func13, Try.ntmps13
  go_wp2
  exact bodyPost_ret (v := .tuple #[.agg #[.int .i64 c, .int .u64 k, .int .u64 v], .int .i64 0]) (by simp [results, Try.results13, go_sem]) rfl ⟨rfl, ((Ext.refl w).alloc _).alloc _⟩
set_option maxHeartbeats 400000 in
theorem ranswer_low (c v : Int) (w : World) (h0 : c < 0) : Calls Try.prog 11 #[.agg #[.int .i64 c, .int .u64 v]] w fun e w' => e = .returned (.tuple #[.agg #[.int .u64 0, .int .u64 0], .int .i64 1]) ∧ Ext w w' := by
  go_enter Try.func11, Try.ntmps11
  go_wp2
  exact bodyPost_ret (v := .tuple #[.agg #[.int .u64 0, .int .u64 0], .int .i64 1]) (by simp [results, Try.results11, go_sem]) rfl ⟨rfl, ((Ext.refl w).alloc _).alloc _⟩
set_option maxHeartbeats 400000 in
theorem ranswer_far (c v : Int) (w : World) (h0 : 255 < c) : Calls Try.prog 11 #[.agg #[.int .i64 c, .int .u64 v]] w fun e w' => e = .returned (.tuple #[.agg #[.int .u64 0, .int .u64 0], .int .i64 1]) ∧ Ext w w' := by
  have hl : ¬ c < 0 := by omega
  go_enter Try.func11, Try.ntmps11
  go_wp2
  exact bodyPost_ret (v := .tuple #[.agg #[.int .u64 0, .int .u64 0], .int .i64 1]) (by simp [results, Try.results11, go_sem]) rfl ⟨rfl, ((Ext.refl w).alloc _).alloc _⟩
set_option maxHeartbeats 400000 in
theorem ranswer_yes (c v : Int) (w : World) (h0 : 0 ≤ c) (h1 : c ≤ 255) : Calls Try.prog 11 #[.agg #[.int .i64 c, .int .u64 v]] w fun e w' => e = .returned (.tuple #[.agg #[.int .u64 (c + 1), .int .u64 v], .int .i64 0]) ∧ Ext w w' := by
  have hl : ¬ c < 0 := by omega
  have hf : ¬ 255 < c := by omega
  go_enter Try.func11, Try.ntmps11
  go_wp2
  exact bodyPost_ret (v := .tuple #[.agg #[.int .u64 (c + 1), .int .u64 v], .int .i64 0]) (by simp [results, Try.results11, go_sem]) rfl ⟨rfl, ((Ext.refl w).alloc _).alloc _⟩
set_option maxHeartbeats 400000 in
theorem rtold_low (c v : Int) (w : World) (h0 : c < 1) : Calls Try.prog 15 #[.agg #[.int .u64 c, .int .u64 v]] w fun e w' => e = .returned (.tuple #[.agg #[.int .i64 0, .int .u64 0], .int .i64 2]) ∧ Ext w w' := by
  go_enter Try.func15, Try.ntmps15
  go_wp2
  exact bodyPost_ret (v := .tuple #[.agg #[.int .i64 0, .int .u64 0], .int .i64 2]) (by simp [results, Try.results15, go_sem]) rfl ⟨rfl, ((Ext.refl w).alloc _).alloc _⟩
set_option maxHeartbeats 400000 in
theorem rtold_far (c v : Int) (w : World) (h0 : 256 < c) : Calls Try.prog 15 #[.agg #[.int .u64 c, .int .u64 v]] w fun e w' => e = .returned (.tuple #[.agg #[.int .i64 0, .int .u64 0], .int .i64 2]) ∧ Ext w w' := by
  have hl : ¬ c < 1 := by omega
  go_enter Try.func15, Try.ntmps15
  go_wp2
  exact bodyPost_ret (v := .tuple #[.agg #[.int .i64 0, .int .u64 0], .int .i64 2]) (by simp [results, Try.results15, go_sem]) rfl ⟨rfl, ((Ext.refl w).alloc _).alloc _⟩
set_option maxHeartbeats 400000 in
theorem rtold_yes (c v : Int) (w : World) (h0 : 1 ≤ c) (h1 : c ≤ 256) : Calls Try.prog 15 #[.agg #[.int .u64 c, .int .u64 v]] w fun e w' => e = .returned (.tuple #[.agg #[.int .i64 (c - 1), .int .u64 v], .int .i64 0]) ∧ Ext w w' := by
  have hl : ¬ c < 1 := by omega
  have hf : ¬ 256 < c := by omega
  go_enter Try.func15, Try.ntmps15
  go_wp2
  exact bodyPost_ret (v := .tuple #[.agg #[.int .i64 (c - 1), .int .u64 v], .int .i64 0]) (by simp [results, Try.results15, go_sem]) rfl ⟨rfl, ((Ext.refl w).alloc _).alloc _⟩

set_option maxHeartbeats 400000 in
theorem rphase_no (x : Int) (w : World) (h : 32 < x) : Calls Try.prog 17 #[.int .u64 x] w fun e w' => e = .returned (.tuple #[.int .i64 0, .int .i64 0, .int .i64 2]) ∧ w = w' := by
  go_enter Try.func17, Try.ntmps17
  go_wp2
  exact bodyPost_ret (v := .tuple #[.int .i64 0, .int .i64 0, .int .i64 2]) (by simp [results, Try.results17, go_sem]) rfl ⟨rfl, rfl⟩
set_option maxHeartbeats 400000 in
theorem rphase_home (w : World) : Calls Try.prog 17 #[.int .u64 0] w fun e w' => e = .returned (.tuple #[.int .i64 0, .int .i64 0, .int .i64 0]) ∧ w = w' := by
  go_enter Try.func17, Try.ntmps17
  go_wp2
  exact bodyPost_ret (v := .tuple #[.int .i64 0, .int .i64 0, .int .i64 0]) (by simp [results, Try.results17, go_sem]) rfl ⟨rfl, rfl⟩
theorem tup3 {a b c x y z : Int} (h : a = x) (k : b = y) (l : c = z) : Ending.returned (.tuple #[.int .i64 a, .int .i64 b, .int .i64 c]) = .returned (.tuple #[.int .i64 x, .int .i64 y, .int .i64 z]) := by rw [h, k, l]
set_option maxHeartbeats 400000 in
theorem rphase_yes (x : Int) (w : World) (h0 : 1 ≤ x) (h1 : x ≤ 32) : Calls Try.prog 17 #[.int .u64 x] w fun e w' => e = .returned (.tuple #[.int .i64 (1 + (x - 1) % 2), .int .i64 ((x - 1) / 2), .int .i64 0]) ∧ w = w' := by
  have hl : ¬ 32 < x := by omega
  have e0 : (x == 0) = false := by simp; omega
  rcases (by omega : x % 2 = 1 ∨ x % 2 = 0) with hm | hm
  · have e1 : (x % 2 == 1) = true := by simpa using hm
    have H := Lib.hid hm
    clear hm
    go_enter Try.func17, Try.ntmps17
    go_wp2
    exact bodyPost_ret (v := .tuple #[.int .i64 1, .int .i64 (x / 2), .int .i64 0]) (by simp [results, Try.results17, go_sem]) rfl ⟨tup3 (by have := H.out; omega) (by have := H.out; omega) rfl, rfl⟩
  · have e1 : (x % 2 == 1) = false := by simp [hm]
    have H := Lib.hid hm
    clear hm
    go_enter Try.func17, Try.ntmps17
    go_wp2
    exact bodyPost_ret (v := .tuple #[.int .i64 2, .int .i64 (x / 2 - 1), .int .i64 0]) (by simp [results, Try.results17, go_sem]) rfl ⟨tup3 (by have := H.out; omega) (by have := H.out; omega) rfl, rfl⟩

set_option maxHeartbeats 400000 in
theorem rhead_home (w : World) : Calls Try.prog 20 #[.int .i64 0, .int .i64 0] w fun e w' => e = .returned (.tuple #[.int .u64 0, .int .i64 0]) ∧ w = w' := by
  go_enter Try.func20, Try.ntmps20
  go_wp2
  go_ret2
  exact ⟨rfl, rfl⟩
set_option maxHeartbeats 400000 in
theorem rhead_yes (ph p : Int) (w : World) (h0 : 1 ≤ ph) (h1 : ph ≤ 2) (g0 : 0 ≤ p) (g1 : p ≤ 15) : Calls Try.prog 20 #[.int .i64 ph, .int .i64 p] w fun e w' => e = .returned (.tuple #[.int .u64 (2 * p + ph), .int .i64 0]) ∧ w = w' := by
  have a1 : ¬ ph < 0 := by omega
  have a2 : ¬ 2 < ph := by omega
  have a3 : ¬ p < 0 := by omega
  have a4 : ¬ 15 < p := by omega
  have e3 : (ph == 0) = false := by simp; omega
  go_enter Try.func20, Try.ntmps20
  go_wp2
  go_ret2
  exact ⟨rfl, rfl⟩

end Go.Proofs.Ytknafhomikmiiaa
