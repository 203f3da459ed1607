/-
  The small functions of package cells: what refuse, bitOf, placeIn, cellAt and write do in whatever world. Conditions: the cells of which they read are there.
-/
import Derived.Test.YthegokjhgdneoaaRows
import Derived.WalkKit
import Derived.Lib.Hide
namespace Go.Proofs.Ythegokjhgdneoaa
open Go.RowKit (intOf)

theorem ret_int {k : IntKind} {a b : Int} (h : a = b) : Ending.returned (.int k a) = .returned (.int k b) := by rw [h]

/-- The panic of a refusal. -/
def no1 : List PanicEntry := [{ v := .iface 30 (.int .i64 1), recovered := false }]

theorem refuse_no (w : World) : Calls Try.prog 24 #[.bool false] w fun e w' => e = .returned (.tuple #[]) ∧ w = w' := by
  go_enter Try.func24, Try.ntmps24
  go_wp2
  go_end0
  exact ⟨rfl, rfl⟩

theorem refuse_yes (w : World) : Calls Try.prog 24 #[.bool true] w fun e w' => e = .panicked no1 ∧ w = w' := by
  go_enter Try.func24, Try.ntmps24
  go_wp2
  exact ⟨rfl, rfl, rfl⟩

def bit (p : Int) : Int := 2 ^ p.toNat

theorem bit_bd (p : Int) (h0 : 0 ≤ p) (h1 : p < 16) : 1 ≤ bit p ∧ bit p ≤ 32768 := by
  obtain ⟨k, rfl⟩ := Int.eq_ofNat_of_zero_le h0
  unfold bit
  simp only [Int.toNat_natCast]
  have a : (2 : Nat) ^ k ≤ 2 ^ 15 := Nat.pow_le_pow_right (by omega) (by omega)
  have b : 0 < (2 : Nat) ^ k := Nat.pow_pos (by omega)
  have c : ((2 : Int) ^ k) = ((2 ^ k : Nat) : Int) := by simp
  rw [c]
  omega

theorem bitOf_yes (p : Int) (w : World) (h0 : 0 ≤ p) (h1 : p < 16) : Calls Try.prog 36 #[.int .i64 p] w fun e w' => e = .returned (.int .i64 (bit p)) ∧ w = w' := by
  have e1 : ¬ p < 0 := by omega
  have e2 : ¬ 16 ≤ p := by omega
  go_enter Try.func36, Try.ntmps36
  go_wp2_with (first | (go_at_call 24; with_reducible refine (refuse_no _).mono ?_; rintro e w' ⟨rfl, rfl⟩))
  go_ret
  exact ⟨ret_int (by have := bit_bd p h0 h1; unfold bit at *; simp only [RowKit.wrap64]; omega), rfl⟩

theorem bitOf_no (p : Int) (w : World) (h : p < 0 ∨ 16 ≤ p) : Calls Try.prog 36 #[.int .i64 p] w fun e w' => e = .panicked no1 ∧ w = w' := by
  rcases h with h | h
  · go_enter Try.func36, Try.ntmps36
    go_wp2_with (first | (go_at_call 24; with_reducible refine (refuse_yes _).mono ?_; rintro e w' ⟨rfl, rfl⟩))
    exact ⟨rfl, rfl, rfl⟩
  · have e1 : ¬ p < 0 := by omega
    go_enter Try.func36, Try.ntmps36
    go_wp2_with (first | (go_at_call 24; with_reducible refine (refuse_yes _).mono ?_; rintro e w' ⟨rfl, rfl⟩))
    exact ⟨rfl, rfl, rfl⟩

theorem place_yes (ab o n c : Nat) (i : Int) (w : World) (h0 : 0 ≤ i) (h1 : i < n) : Calls Try.prog 43 #[.slice (some ⟨ab, o, none⟩) n c, .int .i64 i] w fun e w' => e = .returned (.pointer (some ⟨ab, o + i.toNat * 2, none⟩)) ∧ w = w' := by
  have e1 : ¬ i < 0 := by omega
  have e2 : ¬ (n : Int) ≤ i := by omega
  go_enter Try.func43, Try.ntmps43
  go_wp2_with (first | (go_at_call 24; with_reducible refine (refuse_no _).mono ?_; rintro e w' ⟨rfl, rfl⟩))
  go_ret
  exact ⟨rfl, rfl⟩

theorem place_no (a : Option Addr) (n c : Nat) (i : Int) (w : World) (h : i < 0 ∨ (n : Int) ≤ i) : Calls Try.prog 43 #[.slice a n c, .int .i64 i] w fun e w' => e = .panicked no1 ∧ w = w' := by
  rcases h with h | h
  · go_enter Try.func43, Try.ntmps43
    go_wp2_with (first | (go_at_call 24; with_reducible refine (refuse_yes _).mono ?_; rintro e w' ⟨rfl, rfl⟩))
    exact ⟨rfl, rfl, rfl⟩
  · have e1 : ¬ i < 0 := by omega
    go_enter Try.func43, Try.ntmps43
    go_wp2_with (first | (go_at_call 24; with_reducible refine (refuse_yes _).mono ?_; rintro e w' ⟨rfl, rfl⟩))
    exact ⟨rfl, rfl, rfl⟩

theorem cell_nil (i : Int) (w : World) : Calls Try.prog 32 #[.pointer none, .int .i64 i] w fun e w' => e = .panicked no1 ∧ w = w' := by
  go_enter Try.func32, Try.ntmps32
  go_wp2_with (first | (go_at_call 24; with_reducible refine (refuse_yes _).mono ?_; rintro e w' ⟨rfl, rfl⟩))
  exact ⟨rfl, rfl, rfl⟩

theorem cell_yes (mb mo ab o n c : Nat) (i : Int) (w : World) (hc : w.cell? ⟨mb, mo, none⟩ = some (.slice (some ⟨ab, o, none⟩) n c)) (h0 : 0 ≤ i) (h1 : i < n) :
    Calls Try.prog 32 #[.pointer (some ⟨mb, mo, none⟩), .int .i64 i] w fun e w' => e = .returned (.pointer (some ⟨ab, o + i.toNat * 2, none⟩)) ∧ w = w' := by
  go_enter Try.func32, Try.ntmps32
  go_wp2_with (first
    | (go_at_call 24; with_reducible refine (refuse_no _).mono ?_; rintro e w' ⟨rfl, rfl⟩)
    | (go_at_call 43; with_reducible refine (place_yes _ _ _ _ _ _ h0 h1).mono ?_; rintro e w' ⟨rfl, rfl⟩))
  go_ret
  exact ⟨rfl, rfl⟩

theorem cell_no (mb mo n c : Nat) (a : Option Addr) (i : Int) (w : World) (hc : w.cell? ⟨mb, mo, none⟩ = some (.slice a n c)) (h : i < 0 ∨ (n : Int) ≤ i) :
    Calls Try.prog 32 #[.pointer (some ⟨mb, mo, none⟩), .int .i64 i] w fun e w' => e = .panicked no1 ∧ w = w' := by
  have h' := Lib.hid h
  clear h
  go_enter Try.func32, Try.ntmps32
  go_wp2_with (first
    | (go_at_call 24; with_reducible refine (refuse_no _).mono ?_; rintro e w' ⟨rfl, rfl⟩)
    | (go_at_call 43; with_reducible refine (place_no _ _ _ _ _ h'.out).mono ?_; rintro e w' ⟨rfl, rfl⟩))
  exact ⟨rfl, rfl, rfl⟩

theorem write_any (b o : Nat) (x y : Value) (z : Int) (w : World) (h0 : w.cell? ⟨b, o, none⟩ = some x) (h1 : w.cell? ⟨b, o + 1, none⟩ = some y) (f0 : w.frozen? ⟨b, o, none⟩ = false) (f1 : w.frozen? ⟨b, o + 1, none⟩ = false) :
    Calls Try.prog 34 #[.pointer (some ⟨b, o, none⟩), .int .u64 z] w fun e w' => e = .returned (.tuple #[]) ∧ w' = (w.setCell ⟨b, o, none⟩ (.int .u64 z)).setCell ⟨b, o + 1, none⟩ (.int .i64 0) := by
  go_enter Try.func34, Try.ntmps34
  go_wp2
  go_end0
  exact ⟨rfl, rfl⟩

end Go.Proofs.Ythegokjhgdneoaa
