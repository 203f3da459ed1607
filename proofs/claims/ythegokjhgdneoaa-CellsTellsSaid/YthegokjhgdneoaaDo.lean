/-
  A thing done to memory by the program and by the document, side by side: both tell the same, and leave the same. Conditions: the two memories have the same cells, and lie apart; or there is none.
-/
import Derived.Test.YthegokjhgdneoaaRef
import Derived.Test.YthegokjhgdneoaaCellsApart
namespace Go.Proofs.Ythegokjhgdneoaa
open Go.RowKit (intOf)

/-- Cells of other blocks are as they were. -/
def Keep2 (w w' : World) (ab bb : Nat) : Prop := ∀ (a : Addr) (v : Value), w.cell? a = some v → a.block ≠ ab → a.block ≠ bb → w'.cell? a = some v

theorem keep2_none {w w' : World} {ab bb : Nat} (g : w.grownBy w' none) : Keep2 w w' ab bb := fun _ _ h _ _ => g.cell h (by simp)
theorem keep2_a {w w' : World} {ab bb : Nat} (g : w.grownBy w' (some ab)) : Keep2 w w' ab bb := fun _ _ h h1 _ => g.cell h (by simpa using h1)
theorem keep2_b {w w' : World} {ab bb : Nat} (g : w.grownBy w' (some bb)) : Keep2 w w' ab bb := fun _ _ h _ h2 => g.cell h (by simpa using h2)
theorem Keep2.trans {w w1 w2 : World} {ab bb : Nat} (h : Keep2 w w1 ab bb) (k : Keep2 w1 w2 ab bb) : Keep2 w w2 ab bb := fun a v e h1 h2 => k a v (h a v e h1 h2) h1 h2

def OkL (L : List (Int × Int)) : Prop := ∀ x ∈ L, I64 x.2

theorem OkL.put {L : List (Int × Int)} (h : OkL L) (a : Nat) (x l : Int) (hl : I64 l) : OkL (L.set a (x, l)) := fun y hy => by
  rcases List.mem_or_eq_of_mem_set hy with h1 | rfl
  · exact h y h1
  · exact hl

theorem i64_zero : I64 0 := by unfold I64; omega
theorem i64_bits (op : BinOp) (x y : Int) : I64 (bits op .i64 x y) := i64_of (wf_bits op .i64 x y)

/-- Behind a thing that was done to both. -/
structure Done (W w w' : World) (mb ab : Nat) (s : Value) (nb bb : Nat) (t : Value) (L L' : List (Int × Int)) : Prop where
  two : Two W w' mb ab s L' nb bb t L'
  ok : OkL L'
  keep : Keep2 w w' ab bb
  len : L'.length = L.length

set_option maxRecDepth 100000 in
set_option maxHeartbeats 2000000 in
theorem do_err_load (p i z : Int) (mq1 mq2 : Option Addr) (w : World) (h1 : Err w mq1 0 i) (h2 : Err w mq2 0 i) :
    Calls Try.prog 14 #[.pointer mq1, .pointer mq2, .int .i64 0, .int .i64 p, .int .i64 i, .int .u64 z] w fun e w' => e = .returned (.bool true) ∧ w.grownBy w' none := by
  have H1 := Lib.hid h1
  have H2 := Lib.hid h2
  clear h1 h2
  go_enter Try.func14, Try.ntmps14
  go_wp2_with (first
    | (go_at_call 15; (with_reducible refine (load_no i _ _ H1.out).mono ?_); rintro e w1 ⟨rfl, g1⟩)
    | (go_at_call 25; (with_reducible refine (rload_no i _ _ (H2.out.far g1)).mono ?_); rintro e w2 ⟨rfl, g2⟩))
  go_ret
  exact ⟨rfl, grown_trans g1 g2⟩

set_option maxRecDepth 100000 in
set_option maxHeartbeats 2000000 in
theorem do_err_store (p i z : Int) (mq1 mq2 : Option Addr) (w : World) (h1 : Err w mq1 0 i) (h2 : Err w mq2 0 i) :
    Calls Try.prog 14 #[.pointer mq1, .pointer mq2, .int .i64 1, .int .i64 p, .int .i64 i, .int .u64 z] w fun e w' => e = .returned (.bool true) ∧ w.grownBy w' none := by
  have H1 := Lib.hid h1
  have H2 := Lib.hid h2
  clear h1 h2
  go_enter Try.func14, Try.ntmps14
  go_wp2_with (first
    | (go_at_call 16; (with_reducible refine (store_no i _ _ _ H1.out).mono ?_); rintro e w1 ⟨rfl, g1⟩)
    | (go_at_call 26; (with_reducible refine (rstore_no i _ _ _ (H2.out.far g1)).mono ?_); rintro e w2 ⟨rfl, g2⟩))
  go_ret
  exact ⟨rfl, grown_trans g1 g2⟩

set_option maxRecDepth 100000 in
set_option maxHeartbeats 2000000 in
theorem do_err_ll (p i z : Int) (mq1 mq2 : Option Addr) (w : World) (h1 : Err w mq1 p i) (h2 : Err w mq2 p i) :
    Calls Try.prog 14 #[.pointer mq1, .pointer mq2, .int .i64 2, .int .i64 p, .int .i64 i, .int .u64 z] w fun e w' => e = .returned (.bool true) ∧ w.grownBy w' none := by
  have H1 := Lib.hid h1
  have H2 := Lib.hid h2
  clear h1 h2
  go_enter Try.func14, Try.ntmps14
  go_wp2_with (first
    | (go_at_call 17; (with_reducible refine (ll_no p i _ _ H1.out).mono ?_); rintro e w1 ⟨rfl, g1⟩)
    | (go_at_call 27; (with_reducible refine (rll_no p i _ _ (H2.out.far g1)).mono ?_); rintro e w2 ⟨rfl, g2⟩))
  go_ret
  exact ⟨rfl, grown_trans g1 g2⟩

set_option maxRecDepth 100000 in
set_option maxHeartbeats 2000000 in
theorem do_err_vl (p i z : Int) (mq1 mq2 : Option Addr) (w : World) (h1 : Err w mq1 p i) (h2 : Err w mq2 p i) :
    Calls Try.prog 14 #[.pointer mq1, .pointer mq2, .int .i64 3, .int .i64 p, .int .i64 i, .int .u64 z] w fun e w' => e = .returned (.bool true) ∧ w.grownBy w' none := by
  have H1 := Lib.hid h1
  have H2 := Lib.hid h2
  clear h1 h2
  go_enter Try.func14, Try.ntmps14
  go_wp2_with (first
    | (go_at_call 18; (with_reducible refine (vl_no p i _ _ H1.out).mono ?_); rintro e w1 ⟨rfl, g1⟩)
    | (go_at_call 28; (with_reducible refine (rvl_no p i _ _ (H2.out.far g1)).mono ?_); rintro e w2 ⟨rfl, g2⟩))
  go_ret
  exact ⟨rfl, grown_trans g1 g2⟩

set_option maxRecDepth 100000 in
set_option maxHeartbeats 2000000 in
theorem do_err_sc (p i z : Int) (mq1 mq2 : Option Addr) (w : World) (h1 : Err w mq1 p i) (h2 : Err w mq2 p i) :
    Calls Try.prog 14 #[.pointer mq1, .pointer mq2, .int .i64 4, .int .i64 p, .int .i64 i, .int .u64 z] w fun e w' => e = .returned (.bool true) ∧ w.grownBy w' none := by
  have H1 := Lib.hid h1
  have H2 := Lib.hid h2
  clear h1 h2
  go_enter Try.func14, Try.ntmps14
  go_wp2_with (first
    | (go_at_call 19; (with_reducible refine (sc_no p i _ _ _ H1.out).mono ?_); rintro e w1 ⟨rfl, g1⟩)
    | (go_at_call 29; (with_reducible refine (rsc_no p i _ _ _ (H2.out.far g1)).mono ?_); rintro e w2 ⟨rfl, g2⟩))
  go_ret
  exact ⟨rfl, grown_trans g1 g2⟩

set_option maxRecDepth 100000 in
set_option maxHeartbeats 2000000 in
theorem do_err_rl (p i z : Int) (mq1 mq2 : Option Addr) (w : World) (h1 : Err w mq1 p i) (h2 : Err w mq2 p i) :
    Calls Try.prog 14 #[.pointer mq1, .pointer mq2, .int .i64 5, .int .i64 p, .int .i64 i, .int .u64 z] w fun e w' => e = .returned (.bool true) ∧ w.grownBy w' none := by
  have H1 := Lib.hid h1
  have H2 := Lib.hid h2
  clear h1 h2
  go_enter Try.func14, Try.ntmps14
  go_wp2_with (first
    | (go_at_call 20; (with_reducible refine (rl_no p i _ _ H1.out).mono ?_); rintro e w1 ⟨rfl, g1⟩)
    | (go_at_call 30; (with_reducible refine (rrl_no p i _ _ (H2.out.far g1)).mono ?_); rintro e w2 ⟨rfl, g2⟩))
  go_ret
  exact ⟨rfl, grown_trans g1 g2⟩

set_option maxRecDepth 100000 in
set_option maxHeartbeats 2000000 in
theorem do_load {W w : World} {mb ab nb bb : Nat} {s t : Value} {L : List (Int × Int)} (p i z x l : Int) (hD : Two W w mb ab s L nb bb t L) (hok : OkL L) (hk : L[i.toNat]? = some (x, l)) (h0 : 0 ≤ i) :
    Calls Try.prog 14 #[.pointer (some ⟨mb, 0, none⟩), .pointer (some ⟨nb, 0, none⟩), .int .i64 0, .int .i64 p, .int .i64 i, .int .u64 z] w fun e w' => e = .returned (.bool true) ∧ ∃ L', Done W w w' mb ab s nb bb t L L' := by
  have HK := Lib.hid hk
  have HD := Lib.hid hD
  clear hk hD
  go_enter Try.func14, Try.ntmps14
  go_wp2_with (first
    | (go_at_call 15; (with_reducible refine (load_yes_any _ _ _ _ _ _ _ _ HD.out.x.mem HK.out h0).mono ?_); rintro e w1 ⟨rfl, m1, g1⟩; have HD1 := Lib.hid (HD.out.keep g1))
    | (go_at_call 25; (with_reducible refine (rload_yes _ _ _ _ _ _ _ _ HD1.out.y.mem HK.out h0).mono ?_); rintro e w2 ⟨rfl, m2, g2⟩))
  go_ret
  exact ⟨rfl, L, HD1.out.keep g2, hok, (keep2_none g1).trans (keep2_none g2), rfl⟩

set_option maxRecDepth 100000 in
set_option maxHeartbeats 2000000 in
theorem do_store {W w : World} {mb ab nb bb : Nat} {s t : Value} {L : List (Int × Int)} (p i z x l : Int) (hD : Two W w mb ab s L nb bb t L) (hok : OkL L) (hk : L[i.toNat]? = some (x, l)) (h0 : 0 ≤ i) :
    Calls Try.prog 14 #[.pointer (some ⟨mb, 0, none⟩), .pointer (some ⟨nb, 0, none⟩), .int .i64 1, .int .i64 p, .int .i64 i, .int .u64 z] w fun e w' => e = .returned (.bool true) ∧ ∃ L', Done W w w' mb ab s nb bb t L L' := by
  have HK := Lib.hid hk
  have HD := Lib.hid hD
  clear hk hD
  go_enter Try.func14, Try.ntmps14
  go_wp2_with (first
    | (go_at_call 16; (with_reducible refine (store_yes_any _ _ _ _ _ _ _ _ _ HD.out.x.mem HK.out h0).mono ?_); rintro e w1 ⟨rfl, m1, g1⟩; have HD1 := Lib.hid (HD.out.step1 m1 g1))
    | (go_at_call 26; (with_reducible refine (rstore_yes _ _ _ _ _ _ _ _ _ HD1.out.y.mem HK.out h0).mono ?_); rintro e w2 ⟨rfl, m2, g2⟩))
  go_ret
  exact ⟨rfl, (L.set i.toNat (z, 0)), HD1.out.step2 m2 g2, hok.put _ _ _ i64_zero, (keep2_a g1).trans (keep2_b g2), by simp⟩

set_option maxRecDepth 100000 in
set_option maxHeartbeats 2000000 in
theorem do_ll {W w : World} {mb ab nb bb : Nat} {s t : Value} {L : List (Int × Int)} (p i z x l : Int) (hD : Two W w mb ab s L nb bb t L) (hok : OkL L) (hk : L[i.toNat]? = some (x, l)) (h0 : 0 ≤ i) (p0 : 0 ≤ p) (p1 : p < 16) :
    Calls Try.prog 14 #[.pointer (some ⟨mb, 0, none⟩), .pointer (some ⟨nb, 0, none⟩), .int .i64 2, .int .i64 p, .int .i64 i, .int .u64 z] w fun e w' => e = .returned (.bool true) ∧ ∃ L', Done W w w' mb ab s nb bb t L L' := by
  have HK := Lib.hid hk
  have HD := Lib.hid hD
  clear hk hD
  go_enter Try.func14, Try.ntmps14
  go_wp2_with (first
    | (go_at_call 17; (with_reducible refine (ll_yes_any _ _ _ _ p i x l _ HD.out.x.mem HK.out h0 p0 p1).mono ?_); rintro e w1 ⟨rfl, m1, g1⟩; have HD1 := Lib.hid (HD.out.step1 m1 g1))
    | (go_at_call 27; (with_reducible refine (rll_yes _ _ _ _ p i x l _ HD1.out.y.mem HK.out h0 p0 p1).mono ?_); rintro e w2 ⟨rfl, m2, g2⟩))
  go_ret
  exact ⟨rfl, (L.set i.toNat (x, withP l p)), HD1.out.step2 m2 g2, hok.put _ _ _ (i64_bits _ _ _), (keep2_a g1).trans (keep2_b g2), by simp⟩

set_option maxRecDepth 100000 in
set_option maxHeartbeats 2000000 in
theorem do_vl {W w : World} {mb ab nb bb : Nat} {s t : Value} {L : List (Int × Int)} (p i z x l : Int) (hD : Two W w mb ab s L nb bb t L) (hok : OkL L) (hk : L[i.toNat]? = some (x, l)) (h0 : 0 ≤ i) (p0 : 0 ≤ p) (p1 : p < 16) :
    Calls Try.prog 14 #[.pointer (some ⟨mb, 0, none⟩), .pointer (some ⟨nb, 0, none⟩), .int .i64 3, .int .i64 p, .int .i64 i, .int .u64 z] w fun e w' => e = .returned (.bool true) ∧ ∃ L', Done W w w' mb ab s nb bb t L L' := by
  have rl : I64 l := hok _ (List.mem_of_getElem? hk)
  have HK := Lib.hid hk
  have HD := Lib.hid hD
  clear hk hD
  go_enter Try.func14, Try.ntmps14
  go_wp2_with (first
    | (go_at_call 18; (with_reducible refine (vl_yes_any _ _ _ _ _ _ _ _ _ HD.out.x.mem HK.out h0 p0 p1).mono ?_); rintro e w1 ⟨rfl, m1, g1⟩; have HD1 := Lib.hid (HD.out.keep g1))
    | (go_at_call 28; (with_reducible refine (rvl_yes _ _ _ _ _ _ _ _ _ HD1.out.y.mem HK.out h0 p0 p1 rl).mono ?_); rintro e w2 ⟨rfl, m2, g2⟩))
  go_ret
  exact ⟨rfl, L, HD1.out.keep g2, hok, (keep2_none g1).trans (keep2_none g2), rfl⟩

set_option maxRecDepth 100000 in
set_option maxHeartbeats 2000000 in
theorem do_sc_yes {W w : World} {mb ab nb bb : Nat} {s t : Value} {L : List (Int × Int)} (p i z x l : Int) (hD : Two W w mb ab s L nb bb t L) (hok : OkL L) (hk : L[i.toNat]? = some (x, l)) (h0 : 0 ≤ i) (p0 : 0 ≤ p) (p1 : p < 16) (hq : hasP l p = true) :
    Calls Try.prog 14 #[.pointer (some ⟨mb, 0, none⟩), .pointer (some ⟨nb, 0, none⟩), .int .i64 4, .int .i64 p, .int .i64 i, .int .u64 z] w fun e w' => e = .returned (.bool true) ∧ ∃ L', Done W w w' mb ab s nb bb t L L' := by
  have rl : I64 l := hok _ (List.mem_of_getElem? hk)
  have HK := Lib.hid hk
  have HD := Lib.hid hD
  clear hk hD
  have HQ := Lib.hid hq
  clear hq
  go_enter Try.func14, Try.ntmps14
  go_wp2_with (first
    | (go_at_call 19; (with_reducible refine (sc_yes_any _ _ _ _ _ _ _ _ _ _ HD.out.x.mem HK.out h0 p0 p1 HQ.out).mono ?_); rintro e w1 ⟨rfl, m1, g1⟩; have HD1 := Lib.hid (HD.out.step1 m1 g1))
    | (go_at_call 29; (with_reducible refine (rsc_yes _ _ _ _ _ _ _ _ _ _ HD1.out.y.mem HK.out h0 p0 p1 rl HQ.out).mono ?_); rintro e w2 ⟨rfl, m2, g2⟩))
  go_ret
  exact ⟨rfl, (L.set i.toNat (z, 0)), HD1.out.step2 m2 g2, hok.put _ _ _ i64_zero, (keep2_a g1).trans (keep2_b g2), by simp⟩

set_option maxRecDepth 100000 in
set_option maxHeartbeats 2000000 in
theorem do_sc_not {W w : World} {mb ab nb bb : Nat} {s t : Value} {L : List (Int × Int)} (p i z x l : Int) (hD : Two W w mb ab s L nb bb t L) (hok : OkL L) (hk : L[i.toNat]? = some (x, l)) (h0 : 0 ≤ i) (p0 : 0 ≤ p) (p1 : p < 16) (hq : hasP l p = false) :
    Calls Try.prog 14 #[.pointer (some ⟨mb, 0, none⟩), .pointer (some ⟨nb, 0, none⟩), .int .i64 4, .int .i64 p, .int .i64 i, .int .u64 z] w fun e w' => e = .returned (.bool true) ∧ ∃ L', Done W w w' mb ab s nb bb t L L' := by
  have rl : I64 l := hok _ (List.mem_of_getElem? hk)
  have HK := Lib.hid hk
  have HD := Lib.hid hD
  clear hk hD
  have HQ := Lib.hid hq
  clear hq
  go_enter Try.func14, Try.ntmps14
  go_wp2_with (first
    | (go_at_call 19; (with_reducible refine (sc_not_any _ _ _ _ _ _ _ _ _ _ HD.out.x.mem HK.out h0 p0 p1 HQ.out).mono ?_); rintro e w1 ⟨rfl, m1, g1⟩; have HD1 := Lib.hid (HD.out.keep g1))
    | (go_at_call 29; (with_reducible refine (rsc_not _ _ _ _ _ _ _ _ _ _ HD1.out.y.mem HK.out h0 p0 p1 rl HQ.out).mono ?_); rintro e w2 ⟨rfl, m2, g2⟩))
  go_ret
  exact ⟨rfl, L, HD1.out.keep g2, hok, (keep2_none g1).trans (keep2_none g2), rfl⟩

set_option maxRecDepth 100000 in
set_option maxHeartbeats 2000000 in
theorem do_rl {W w : World} {mb ab nb bb : Nat} {s t : Value} {L : List (Int × Int)} (p i z x l : Int) (hD : Two W w mb ab s L nb bb t L) (hok : OkL L) (hk : L[i.toNat]? = some (x, l)) (h0 : 0 ≤ i) (p0 : 0 ≤ p) (p1 : p < 16) :
    Calls Try.prog 14 #[.pointer (some ⟨mb, 0, none⟩), .pointer (some ⟨nb, 0, none⟩), .int .i64 5, .int .i64 p, .int .i64 i, .int .u64 z] w fun e w' => e = .returned (.bool true) ∧ ∃ L', Done W w w' mb ab s nb bb t L L' := by
  have HK := Lib.hid hk
  have HD := Lib.hid hD
  clear hk hD
  go_enter Try.func14, Try.ntmps14
  go_wp2_with (first
    | (go_at_call 20; (with_reducible refine (rl_yes_any _ _ _ _ p i x l _ HD.out.x.mem HK.out h0 p0 p1).mono ?_); rintro e w1 ⟨rfl, m1, g1⟩; have HD1 := Lib.hid (HD.out.step1 m1 g1))
    | (go_at_call 30; (with_reducible refine (rrl_yes _ _ _ _ p i x l _ HD1.out.y.mem HK.out h0 p0 p1).mono ?_); rintro e w2 ⟨rfl, m2, g2⟩))
  go_ret
  exact ⟨rfl, (L.set i.toNat (x, lessP l p)), HD1.out.step2 m2 g2, hok.put _ _ _ (i64_bits _ _ _), (keep2_a g1).trans (keep2_b g2), by simp⟩

/-- Whatever is done, by whomever, wherever. -/
theorem do_any {W w : World} {mb ab nb bb : Nat} {s t : Value} {L : List (Int × Int)} (OP p i z : Int) (hop : OP = 0 ∨ OP = 1 ∨ OP = 2 ∨ OP = 3 ∨ OP = 4 ∨ OP = 5) (hD : Two W w mb ab s L nb bb t L) (hok : OkL L) :
    Calls Try.prog 14 #[.pointer (some ⟨mb, 0, none⟩), .pointer (some ⟨nb, 0, none⟩), .int .i64 OP, .int .i64 p, .int .i64 i, .int .u64 z] w fun e w' => e = .returned (.bool true) ∧ ∃ L', Done W w w' mb ab s nb bb t L L' := by
  have bad : ∀ q, (i < 0 ∨ (L.length : Int) ≤ i ∨ q < 0 ∨ 16 ≤ q) → Err w (some ⟨mb, 0, none⟩) q i ∧ Err w (some ⟨nb, 0, none⟩) q i := fun q h =>
    ⟨.inr ⟨mb, ab, s, L, rfl, hD.x.mem, h⟩, .inr ⟨nb, bb, t, L, rfl, hD.y.mem, h⟩⟩
  have fin : ∀ (e : Ending) (w' : World), (e = .returned (.bool true) ∧ w.grownBy w' none) → e = .returned (.bool true) ∧ ∃ L', Done W w w' mb ab s nb bb t L L' := fun e w' ⟨h, g⟩ => ⟨h, L, hD.keep g, hok, keep2_none g, rfl⟩
  by_cases hi : 0 ≤ i ∧ i < L.length
  · have hl : i.toNat < L.length := by omega
    have hk : L[i.toNat]? = some (L[i.toNat].1, L[i.toNat].2) := List.getElem?_eq_getElem hl
    by_cases hp : 0 ≤ p ∧ p < 16
    · rcases hop with rfl | rfl | rfl | rfl | rfl | rfl
      · exact do_load p i z _ _ hD hok hk hi.1
      · exact do_store p i z _ _ hD hok hk hi.1
      · exact do_ll p i z _ _ hD hok hk hi.1 hp.1 hp.2
      · exact do_vl p i z _ _ hD hok hk hi.1 hp.1 hp.2
      · cases hq : hasP L[i.toNat].2 p
        · exact do_sc_not p i z _ _ hD hok hk hi.1 hp.1 hp.2 hq
        · exact do_sc_yes p i z _ _ hD hok hk hi.1 hp.1 hp.2 hq
      · exact do_rl p i z _ _ hD hok hk hi.1 hp.1 hp.2
    · obtain ⟨e1, e2⟩ := bad p (by omega)
      rcases hop with rfl | rfl | rfl | rfl | rfl | rfl
      · exact do_load p i z _ _ hD hok hk hi.1
      · exact do_store p i z _ _ hD hok hk hi.1
      · exact (do_err_ll p i z _ _ w e1 e2).mono fin
      · exact (do_err_vl p i z _ _ w e1 e2).mono fin
      · exact (do_err_sc p i z _ _ w e1 e2).mono fin
      · exact (do_err_rl p i z _ _ w e1 e2).mono fin
  · obtain ⟨e1, e2⟩ := bad p (by omega)
    obtain ⟨f1, f2⟩ := bad 0 (by omega)
    rcases hop with rfl | rfl | rfl | rfl | rfl | rfl
    · exact (do_err_load p i z _ _ w f1 f2).mono fin
    · exact (do_err_store p i z _ _ w f1 f2).mono fin
    · exact (do_err_ll p i z _ _ w e1 e2).mono fin
    · exact (do_err_vl p i z _ _ w e1 e2).mono fin
    · exact (do_err_sc p i z _ _ w e1 e2).mono fin
    · exact (do_err_rl p i z _ _ w e1 e2).mono fin

/-- .. where there is no memory. -/
theorem do_nil (OP p i z : Int) (w : World) (hop : OP = 0 ∨ OP = 1 ∨ OP = 2 ∨ OP = 3 ∨ OP = 4 ∨ OP = 5) :
    Calls Try.prog 14 #[.pointer none, .pointer none, .int .i64 OP, .int .i64 p, .int .i64 i, .int .u64 z] w fun e w' => e = .returned (.bool true) ∧ w.grownBy w' none := by
  rcases hop with rfl | rfl | rfl | rfl | rfl | rfl
  · exact do_err_load p i z _ _ w (.inl rfl) (.inl rfl)
  · exact do_err_store p i z _ _ w (.inl rfl) (.inl rfl)
  · exact do_err_ll p i z _ _ w (.inl rfl) (.inl rfl)
  · exact do_err_vl p i z _ _ w (.inl rfl) (.inl rfl)
  · exact do_err_sc p i z _ _ w (.inl rfl) (.inl rfl)
  · exact do_err_rl p i z _ _ w (.inl rfl) (.inl rfl)

end Go.Proofs.Ythegokjhgdneoaa
