/-
  The closures that the calls of package cells hand to guarded, where nothing is refused: what they leave in memory. Conditions: their captured variables and the memory are there, and lie apart.
-/
import Derived.Test.YthegokjhgdneoaaGuard
import Derived.Deep.QuietTactic
import Derived.BigQuiet
import Derived.Deep.RegionHeld3
namespace Go.Proofs.Ythegokjhgdneoaa

/-- A store into another block turns no cell of this one. -/
theorem cell_other {w : World} {b o b' o' : Nat} {v : Value} (h : b' ≠ b) : (w.setCell ⟨b, o, none⟩ v).drew.cell? ⟨b', o', none⟩ = w.cell? ⟨b', o', none⟩ := by
  show (w.setCell ⟨b, o, none⟩ v).cell? ⟨b', o', none⟩ = _
  exact World.cell?_setCell_other _ _ _ _ (fun e => h (by cases e; rfl))

theorem cell_other' {w : World} {b o o2 b' o' : Nat} {v v2 : Value} (h : b' ≠ b) : ((w.setCell ⟨b, o, none⟩ v).setCell ⟨b, o2, none⟩ v2).drew.cell? ⟨b', o', none⟩ = w.cell? ⟨b', o', none⟩ := by
  show ((w.setCell ⟨b, o, none⟩ v).setCell ⟨b, o2, none⟩ v2).cell? ⟨b', o', none⟩ = _
  rw [World.cell?_setCell_other _ _ _ _ (fun e => h (by cases e; rfl)), World.cell?_setCell_other _ _ _ _ (fun e => h (by cases e; rfl))]

theorem cell_at (mb ab n c : Nat) (i : Int) (w : World) (hc : w.cell? ⟨mb, 0, none⟩ = some (.slice (some ⟨ab, 0, none⟩) n c)) (h0 : 0 ≤ i) (h1 : i < n) :
    Calls Try.prog 32 #[.pointer (some ⟨mb, 0, none⟩), .int .i64 i] w fun e w' => e = .returned (.pointer (some ⟨ab, i.toNat * 2, none⟩)) ∧ w = w' := by
  have := cell_yes mb 0 ab 0 n c i w hc h0 h1
  simpa using this

theorem cell_q (mb ab n c : Nat) (i : Int) (w : World) (m : Nat) (hc : w.cell? ⟨mb, 0, none⟩ = some (.slice (some ⟨ab, 0, none⟩) n c)) (h0 : 0 ≤ i) (h1 : i < n) :
    Calls Try.prog 32 #[.pointer (some ⟨mb, 0, none⟩), .int .i64 i] (w.drewN m) fun e w' => e = .returned (.pointer (some ⟨ab, i.toNat * 2, none⟩)) ∧ ∃ j, w' = w.drewN j :=
  (cell_at mb ab n c i (w.drewN m) (by simpa using hc) h0 h1).mono fun _ _ h => ⟨h.1, m, h.2.symm⟩

theorem bitOf_q (p : Int) (w : World) (m : Nat) (h0 : 0 ≤ p) (h1 : p < 16) : Calls Try.prog 36 #[.int .i64 p] (w.drewN m) fun e w' => e = .returned (.int .i64 (bit p)) ∧ ∃ j, w' = w.drewN j :=
  (bitOf_yes p (w.drewN m) h0 h1).mono fun _ _ h => ⟨h.1, m, h.2.symm⟩

set_option maxHeartbeats 1000000 in
theorem load_in (b0 b1 b2 mb ab n c : Nat) (i x r : Int) (w : World) (hm : w.cell? ⟨b0, 0, none⟩ = some (.pointer (some ⟨mb, 0, none⟩))) (hi : w.cell? ⟨b1, 0, none⟩ = some (.int .i64 i))
    (hr : w.cell? ⟨b2, 0, none⟩ = some (.int .u64 r)) (fr : w.frozen? ⟨b2, 0, none⟩ = false) (hs : w.cell? ⟨mb, 0, none⟩ = some (.slice (some ⟨ab, 0, none⟩) n c))
    (hx : w.cell? ⟨ab, i.toNat * 2, none⟩ = some (.int .u64 x)) (h0 : 0 ≤ i) (h1 : i < n) :
    Calls Try.prog 31 #[.pointer (some ⟨b0, 0, none⟩), .pointer (some ⟨b1, 0, none⟩), .pointer (some ⟨b2, 0, none⟩)] w fun e w' => e = .returned (.tuple #[]) ∧ w' = w.setCell ⟨b2, 0, none⟩ (.int .u64 x) := by
  go_enter Try.func31, Try.ntmps31
  go_wp2_with (first
    | (go_at_call 32; with_reducible refine (cell_at _ _ _ _ _ _ hs h0 h1).mono ?_; rintro e w' ⟨rfl, rfl⟩))
  go_end0
  exact ⟨rfl, rfl⟩

set_option maxHeartbeats 1000000 in
theorem ll_in (b0 b1 b2 b3 mb ab n c : Nat) (p i x l r : Int) (w : World) (hp : w.cell? ⟨b0, 0, none⟩ = some (.int .i64 p)) (hm : w.cell? ⟨b1, 0, none⟩ = some (.pointer (some ⟨mb, 0, none⟩))) (hi : w.cell? ⟨b2, 0, none⟩ = some (.int .i64 i))
    (hr : w.cell? ⟨b3, 0, none⟩ = some (.int .u64 r)) (fr : w.frozen? ⟨b3, 0, none⟩ = false) (hs : w.cell? ⟨mb, 0, none⟩ = some (.slice (some ⟨ab, 0, none⟩) n c))
    (hx : w.cell? ⟨ab, i.toNat * 2, none⟩ = some (.int .u64 x)) (hl : w.cell? ⟨ab, i.toNat * 2 + 1, none⟩ = some (.int .i64 l)) (fl : w.frozen? ⟨ab, i.toNat * 2 + 1, none⟩ = false)
    (h0 : 0 ≤ i) (h1 : i < n) (p0 : 0 ≤ p) (p1 : p < 16) :
    Calls Try.prog 35 #[.pointer (some ⟨b0, 0, none⟩), .pointer (some ⟨b1, 0, none⟩), .pointer (some ⟨b2, 0, none⟩), .pointer (some ⟨b3, 0, none⟩)] w fun e w' => e = .returned (.tuple #[]) ∧
      ∃ m, w' = ((w.setCell ⟨ab, i.toNat * 2 + 1, none⟩ (.int .i64 (bits .or .i64 l (bit p)))).setCell ⟨b3, 0, none⟩ (.int .u64 x)).drewN m := by
  go_enter Try.func35, Try.ntmps35
  go_wp2_with (fail)
  go_quiet (first
    | (go_at_call 36; exact bitOf_q _ _ _ p0 p1)
    | (go_at_call 32; exact cell_q _ _ _ _ _ _ _ hs h0 h1))
  go_wp2
  go_end0
  exact ⟨rfl, _, rfl⟩

set_option maxHeartbeats 1000000 in
theorem rl_in (b0 b1 b2 mb ab n c : Nat) (p i l : Int) (w : World) (hp : w.cell? ⟨b0, 0, none⟩ = some (.int .i64 p)) (hm : w.cell? ⟨b1, 0, none⟩ = some (.pointer (some ⟨mb, 0, none⟩))) (hi : w.cell? ⟨b2, 0, none⟩ = some (.int .i64 i))
    (hs : w.cell? ⟨mb, 0, none⟩ = some (.slice (some ⟨ab, 0, none⟩) n c))
    (hl : w.cell? ⟨ab, i.toNat * 2 + 1, none⟩ = some (.int .i64 l)) (fl : w.frozen? ⟨ab, i.toNat * 2 + 1, none⟩ = false)
    (h0 : 0 ≤ i) (h1 : i < n) (p0 : 0 ≤ p) (p1 : p < 16) :
    Calls Try.prog 39 #[.pointer (some ⟨b0, 0, none⟩), .pointer (some ⟨b1, 0, none⟩), .pointer (some ⟨b2, 0, none⟩)] w fun e w' => e = .returned (.tuple #[]) ∧
      ∃ m, w' = (w.setCell ⟨ab, i.toNat * 2 + 1, none⟩ (.int .i64 (bits .andNot .i64 l (bit p)))).drewN m := by
  go_enter Try.func39, Try.ntmps39
  go_wp2_with (fail)
  go_quiet (first
    | (go_at_call 36; exact bitOf_q _ _ _ p0 p1)
    | (go_at_call 32; exact cell_q _ _ _ _ _ _ _ hs h0 h1))
  go_wp2
  go_end0
  exact ⟨rfl, _, rfl⟩

set_option maxHeartbeats 1000000 in
theorem sc_not (b0 b1 b2 b3 b4 mb ab n c : Nat) (p i l : Int) (w : World) (hp : w.cell? ⟨b0, 0, none⟩ = some (.int .i64 p)) (hm : w.cell? ⟨b1, 0, none⟩ = some (.pointer (some ⟨mb, 0, none⟩))) (hi : w.cell? ⟨b2, 0, none⟩ = some (.int .i64 i))
    (hs : w.cell? ⟨mb, 0, none⟩ = some (.slice (some ⟨ab, 0, none⟩) n c))
    (hl : w.cell? ⟨ab, i.toNat * 2 + 1, none⟩ = some (.int .i64 l)) (hno : bits .and .i64 l (bit p) = 0)
    (h0 : 0 ≤ i) (h1 : i < n) (p0 : 0 ≤ p) (p1 : p < 16) :
    Calls Try.prog 38 #[.pointer (some ⟨b0, 0, none⟩), .pointer (some ⟨b1, 0, none⟩), .pointer (some ⟨b2, 0, none⟩), .pointer (some ⟨b3, 0, none⟩), .pointer (some ⟨b4, 0, none⟩)] w fun e w' => e = .returned (.tuple #[]) ∧
      ∃ m, w' = w.drewN m := by
  go_enter Try.func38, Try.ntmps38
  go_wp2_with (fail)
  go_quiet (first
    | (go_at_call 36; exact bitOf_q _ _ _ p0 p1)
    | (go_at_call 32; exact cell_q _ _ _ _ _ _ _ hs h0 h1))
  go_wp2
  go_end0
  exact ⟨rfl, _, rfl⟩

set_option maxHeartbeats 1000000 in
theorem sc_yes (b0 b1 b2 b3 b4 mb ab n c : Nat) (p i l x z : Int) (r : Bool) (w : World) (hp : w.cell? ⟨b0, 0, none⟩ = some (.int .i64 p)) (hm : w.cell? ⟨b1, 0, none⟩ = some (.pointer (some ⟨mb, 0, none⟩))) (hi : w.cell? ⟨b2, 0, none⟩ = some (.int .i64 i))
    (hz : w.cell? ⟨b3, 0, none⟩ = some (.int .u64 z)) (hr : w.cell? ⟨b4, 0, none⟩ = some (.bool r)) (fr : w.frozen? ⟨b4, 0, none⟩ = false)
    (hs : w.cell? ⟨mb, 0, none⟩ = some (.slice (some ⟨ab, 0, none⟩) n c))
    (hx : w.cell? ⟨ab, i.toNat * 2, none⟩ = some (.int .u64 x)) (fx : w.frozen? ⟨ab, i.toNat * 2, none⟩ = false)
    (hl : w.cell? ⟨ab, i.toNat * 2 + 1, none⟩ = some (.int .i64 l)) (fl : w.frozen? ⟨ab, i.toNat * 2 + 1, none⟩ = false) (hne : b4 ≠ ab) (hyes : ¬ bits .and .i64 l (bit p) = 0)
    (h0 : 0 ≤ i) (h1 : i < n) (p0 : 0 ≤ p) (p1 : p < 16) :
    Calls Try.prog 38 #[.pointer (some ⟨b0, 0, none⟩), .pointer (some ⟨b1, 0, none⟩), .pointer (some ⟨b2, 0, none⟩), .pointer (some ⟨b3, 0, none⟩), .pointer (some ⟨b4, 0, none⟩)] w fun e w' => e = .returned (.tuple #[]) ∧
      ∃ m, w' = (((w.setCell ⟨ab, i.toNat * 2, none⟩ (.int .u64 z)).setCell ⟨ab, i.toNat * 2 + 1, none⟩ (.int .i64 0)).setCell ⟨b4, 0, none⟩ (.bool true)).drewN m := by
  have hne' : (bits .and .i64 l (bit p) != 0) = true := by simpa using hyes
  go_enter Try.func38, Try.ntmps38
  go_wp2_with (fail)
  go_quiet (first
    | (go_at_call 36; exact bitOf_q _ _ _ p0 p1)
    | (go_at_call 32; exact cell_q _ _ _ _ _ _ _ hs h0 h1))
  go_wp2_with (first
    | (go_at_call 34; with_reducible refine (write_any _ _ (.int .u64 x) (.int .i64 l) _ _ (by simpa using hx) (by simpa using hl) (by simpa using fx) (by simpa using fl)).mono ?_; rintro e w' ⟨rfl, rfl⟩))
  go_end0
  exact ⟨rfl, _, rfl⟩

set_option maxHeartbeats 1000000 in
theorem vl_in (b0 b1 b2 b3 mb ab n c : Nat) (p i l : Int) (r : Bool) (w : World) (hm : w.cell? ⟨b0, 0, none⟩ = some (.pointer (some ⟨mb, 0, none⟩))) (hi : w.cell? ⟨b1, 0, none⟩ = some (.int .i64 i)) (hp : w.cell? ⟨b2, 0, none⟩ = some (.int .i64 p))
    (hr : w.cell? ⟨b3, 0, none⟩ = some (.bool r)) (fr : w.frozen? ⟨b3, 0, none⟩ = false)
    (hs : w.cell? ⟨mb, 0, none⟩ = some (.slice (some ⟨ab, 0, none⟩) n c))
    (hl : w.cell? ⟨ab, i.toNat * 2 + 1, none⟩ = some (.int .i64 l))
    (d0 : b0 ≠ b3) (d1 : b1 ≠ b3) (d2 : b2 ≠ b3) (d3 : ab ≠ b3) (h0 : 0 ≤ i) (h1 : i < n) (p0 : 0 ≤ p) (p1 : p < 16) :
    Calls Try.prog 37 #[.pointer (some ⟨b0, 0, none⟩), .pointer (some ⟨b1, 0, none⟩), .pointer (some ⟨b2, 0, none⟩), .pointer (some ⟨b3, 0, none⟩)] w fun e w' => e = .returned (.tuple #[]) ∧
      ∃ m, w' = (w.setCell ⟨b3, 0, none⟩ (.bool (bits .and .i64 l (bit p) != 0))).drewN m := by
  go_enter Try.func37, Try.ntmps37
  go_wp2_with (fail)
  go_region_held3 (fun w' => (w'.cell? ⟨b0, 0, none⟩ = some (.pointer (some ⟨mb, 0, none⟩)) ∧ w'.cell? ⟨b1, 0, none⟩ = some (.int .i64 i) ∧ w'.cell? ⟨b2, 0, none⟩ = some (.int .i64 p) ∧ w'.cell? ⟨ab, i.toNat * 2 + 1, none⟩ = some (.int .i64 l)))
    (first | exact ⟨(cell_other d0).trans hm, (cell_other d1).trans hi, (cell_other d2).trans hp, (cell_other d3).trans hl⟩ | go_keep)
    (first
    | (go_at_call 36; with_reducible refine (bitOf_yes _ _ p0 p1).mono ?_; rintro e w' ⟨rfl, rfl⟩)
    | (go_at_call 32; with_reducible refine (cell_at _ _ _ _ _ _ (by simpa using hs) h0 h1).mono ?_; rintro e w' ⟨rfl, rfl⟩))
  go_end0
  exact ⟨rfl, 1, rfl⟩

set_option maxHeartbeats 1000000 in
theorem store_in (b0 b1 b2 mb ab n c : Nat) (i l x z : Int) (w : World) (hm : w.cell? ⟨b0, 0, none⟩ = some (.pointer (some ⟨mb, 0, none⟩))) (hi : w.cell? ⟨b1, 0, none⟩ = some (.int .i64 i)) (hz : w.cell? ⟨b2, 0, none⟩ = some (.int .u64 z))
    (hs : w.cell? ⟨mb, 0, none⟩ = some (.slice (some ⟨ab, 0, none⟩) n c))
    (hx : w.cell? ⟨ab, i.toNat * 2, none⟩ = some (.int .u64 x)) (fx : w.frozen? ⟨ab, i.toNat * 2, none⟩ = false)
    (hl : w.cell? ⟨ab, i.toNat * 2 + 1, none⟩ = some (.int .i64 l)) (fl : w.frozen? ⟨ab, i.toNat * 2 + 1, none⟩ = false)
    (d0 : b0 ≠ ab) (d1 : b1 ≠ ab) (d2 : b2 ≠ ab) (h0 : 0 ≤ i) (h1 : i < n) :
    Calls Try.prog 33 #[.pointer (some ⟨b0, 0, none⟩), .pointer (some ⟨b1, 0, none⟩), .pointer (some ⟨b2, 0, none⟩)] w fun e w' => e = .returned (.tuple #[]) ∧
      ∃ m, w' = ((w.setCell ⟨ab, i.toNat * 2, none⟩ (.int .u64 z)).setCell ⟨ab, i.toNat * 2 + 1, none⟩ (.int .i64 0)).drewN m := by
  go_enter Try.func33, Try.ntmps33
  go_wp2_with (fail)
  go_region_held3 (fun w' => (w'.cell? ⟨b0, 0, none⟩ = some (.pointer (some ⟨mb, 0, none⟩)) ∧ w'.cell? ⟨b1, 0, none⟩ = some (.int .i64 i) ∧ w'.cell? ⟨b2, 0, none⟩ = some (.int .u64 z)))
    (first | exact ⟨(cell_other' d0).trans hm, (cell_other' d1).trans hi, (cell_other' d2).trans hz⟩ | go_keep)
    (first
    | (go_at_call 34; with_reducible refine (write_any _ _ (.int .u64 x) (.int .i64 l) _ _ (by simpa using hx) (by simpa using hl) (by simpa using fx) (by simpa using fl)).mono ?_; rintro e w' ⟨rfl, rfl⟩)
    | (go_at_call 32; with_reducible refine (cell_at _ _ _ _ _ _ (by simpa using hs) h0 h1).mono ?_; rintro e w' ⟨rfl, rfl⟩))
  go_end0
  exact ⟨rfl, 1, rfl⟩

end Go.Proofs.Ythegokjhgdneoaa
