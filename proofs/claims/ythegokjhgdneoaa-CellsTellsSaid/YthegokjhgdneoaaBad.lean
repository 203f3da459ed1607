/-
  The closures that the calls of package cells hand to guarded, where something is refused: a panic, and memory as it was. Conditions: their captured variables are there.
-/
import Derived.Test.YthegokjhgdneoaaClos
namespace Go.Proofs.Ythegokjhgdneoaa

/-- There is no such place: no memory, or a place that is none of its. -/
def Bad (w : World) (mq : Option Addr) (i : Int) : Prop :=
  mq = none ∨ ∃ (mb n c : Nat) (a : Option Addr), mq = some ⟨mb, 0, none⟩ ∧ w.cell? ⟨mb, 0, none⟩ = some (.slice a n c) ∧ (i < 0 ∨ (n : Int) ≤ i)

theorem Bad.drew {w : World} {mq : Option Addr} {i : Int} (h : Bad w mq i) : Bad w.drew mq i := h

theorem cell_bad (mq : Option Addr) (i : Int) (w : World) (h : Bad w mq i) : Calls Try.prog 32 #[.pointer mq, .int .i64 i] w fun e w' => e = .panicked no1 ∧ w = w' := by
  rcases h with rfl | ⟨mb, n, c, a, rfl, hc, hi⟩
  · exact cell_nil i w
  · exact cell_no mb 0 n c a i w hc hi

set_option maxHeartbeats 1000000 in
theorem ll_bad_p (b0 b1 b2 b3 : Nat) (p i : Int) (mq : Option Addr) (w : World) (hp : w.cell? ⟨b0, 0, none⟩ = some (.int .i64 p)) (hm : w.cell? ⟨b1, 0, none⟩ = some (.pointer mq)) (hi : w.cell? ⟨b2, 0, none⟩ = some (.int .i64 i)) (hbad : p < 0 ∨ 16 ≤ p) :
    Calls Try.prog 35 #[.pointer (some ⟨b0, 0, none⟩), .pointer (some ⟨b1, 0, none⟩), .pointer (some ⟨b2, 0, none⟩), .pointer (some ⟨b3, 0, none⟩)] w fun e w' => e = .panicked no1 ∧ ∃ m, w' = w.drewN m := by
  have hb := Lib.hid hbad
  clear hbad
  go_enter Try.func35, Try.ntmps35
  go_wp2_with (fail)
  refine wp_region_held_drew (S := fun w' => w'.cell? ⟨b0, 0, none⟩ = some (.int .i64 p) ∧ w'.cell? ⟨b1, 0, none⟩ = some (.pointer mq) ∧ w'.cell? ⟨b2, 0, none⟩ = some (.int .i64 i)) (by kernel_rfl) ⟨hp, hm, hi⟩ (fun hHeld => ?_)
  refine wpAnyH_take (i := 0) (v := .int .i64 p) rfl (by kernel_rfl) (by kernel_rfl) (by kernel_rfl) (fun _ _ _ h => h) (Or.inl ⟨by rfl, ?_⟩) (by assumption) ?_
  · rintro w ⟨h1, h2, h3⟩
    go_simp
  refine wpAnyH_take (i := 2) (v := .pointer mq) rfl (by kernel_rfl) (by kernel_rfl) (by kernel_rfl) (fun _ _ _ h => h) (Or.inl ⟨by rfl, ?_⟩) (by assumption) ?_
  · rintro w ⟨h1, h2, h3⟩
    go_simp
  refine wpAnyH_take (i := 3) (v := .int .i64 i) rfl (by kernel_rfl) (by kernel_rfl) (by kernel_rfl) (fun _ _ _ h => h) (Or.inl ⟨by rfl, ?_⟩) (by assumption) ?_
  · rintro w ⟨h1, h2, h3⟩
    go_simp
  refine wpAnyH_ready (rs := [1]) (by kernel_rfl) (by simp) ?_
  refine AllReadyH.cons rfl (fun K hK => ?_) AllReadyH.nil
  go_simp
  refine (bitOf_no _ _ hb.out).mono ?_
  rintro e w' ⟨rfl, rfl⟩
  exact ⟨rfl, rfl, 1, rfl⟩

set_option maxHeartbeats 1000000 in
theorem ll_bad_m (b0 b1 b2 b3 : Nat) (p i : Int) (mq : Option Addr) (w : World) (hp : w.cell? ⟨b0, 0, none⟩ = some (.int .i64 p)) (hm : w.cell? ⟨b1, 0, none⟩ = some (.pointer mq)) (hi : w.cell? ⟨b2, 0, none⟩ = some (.int .i64 i)) (p0 : 0 ≤ p) (p1 : p < 16) (hbad : Bad w mq i) :
    Calls Try.prog 35 #[.pointer (some ⟨b0, 0, none⟩), .pointer (some ⟨b1, 0, none⟩), .pointer (some ⟨b2, 0, none⟩), .pointer (some ⟨b3, 0, none⟩)] w fun e w' => e = .panicked no1 ∧ ∃ m, w' = w.drewN m := by
  have hb := Lib.hid hbad
  clear hbad
  go_enter Try.func35, Try.ntmps35
  go_wp2_with (fail)
  refine wp_region_held_drew (S := fun w' => w'.cell? ⟨b0, 0, none⟩ = some (.int .i64 p) ∧ w'.cell? ⟨b1, 0, none⟩ = some (.pointer mq) ∧ w'.cell? ⟨b2, 0, none⟩ = some (.int .i64 i)) (by kernel_rfl) ⟨hp, hm, hi⟩ (fun hHeld => ?_)
  refine wpAnyH_take (i := 0) (v := .int .i64 p) rfl (by kernel_rfl) (by kernel_rfl) (by kernel_rfl) (fun _ _ _ h => h) (Or.inl ⟨by rfl, ?_⟩) (by assumption) ?_
  · rintro w ⟨h1, h2, h3⟩
    go_simp
  refine wpAnyH_take (i := 2) (v := .pointer mq) rfl (by kernel_rfl) (by kernel_rfl) (by kernel_rfl) (fun _ _ _ h => h) (Or.inl ⟨by rfl, ?_⟩) (by assumption) ?_
  · rintro w ⟨h1, h2, h3⟩
    go_simp
  refine wpAnyH_take (i := 3) (v := .int .i64 i) rfl (by kernel_rfl) (by kernel_rfl) (by kernel_rfl) (fun _ _ _ h => h) (Or.inl ⟨by rfl, ?_⟩) (by assumption) ?_
  · rintro w ⟨h1, h2, h3⟩
    go_simp
  refine wpAnyH_ready (rs := [1]) (by kernel_rfl) (by simp) ?_
  refine AllReadyH.cons rfl (fun K hK => ?_) AllReadyH.nil
  go_simp
  refine (bitOf_yes _ _ p0 p1).mono ?_
  rintro e w' ⟨rfl, rfl⟩
  refine hK.out _ _ ⟨hp, hm, hi⟩ (fun hHeld => ?_)
  clear hK K
  refine wpAnyH_ready (rs := [4]) (by kernel_rfl) (by simp) ?_
  refine AllReadyH.cons rfl (fun K hK => ?_) AllReadyH.nil
  go_simp
  refine (cell_bad _ _ _ hb.out.drew).mono ?_
  rintro e w' ⟨rfl, rfl⟩
  exact ⟨rfl, rfl, 1, rfl⟩

set_option maxHeartbeats 1000000 in
theorem sc_bad_p (b0 b1 b2 b3 b4 : Nat) (p i : Int) (mq : Option Addr) (w : World) (hp : w.cell? ⟨b0, 0, none⟩ = some (.int .i64 p)) (hm : w.cell? ⟨b1, 0, none⟩ = some (.pointer mq)) (hi : w.cell? ⟨b2, 0, none⟩ = some (.int .i64 i)) (hbad : p < 0 ∨ 16 ≤ p) :
    Calls Try.prog 38 #[.pointer (some ⟨b0, 0, none⟩), .pointer (some ⟨b1, 0, none⟩), .pointer (some ⟨b2, 0, none⟩), .pointer (some ⟨b3, 0, none⟩), .pointer (some ⟨b4, 0, none⟩)] w fun e w' => e = .panicked no1 ∧ ∃ m, w' = w.drewN m := by
  have hb := Lib.hid hbad
  clear hbad
  go_enter Try.func38, Try.ntmps38
  go_wp2_with (fail)
  refine wp_region_held_drew (S := fun w' => w'.cell? ⟨b0, 0, none⟩ = some (.int .i64 p) ∧ w'.cell? ⟨b1, 0, none⟩ = some (.pointer mq) ∧ w'.cell? ⟨b2, 0, none⟩ = some (.int .i64 i)) (by kernel_rfl) ⟨hp, hm, hi⟩ (fun hHeld => ?_)
  refine wpAnyH_take (i := 0) (v := .int .i64 p) rfl (by kernel_rfl) (by kernel_rfl) (by kernel_rfl) (fun _ _ _ h => h) (Or.inl ⟨by rfl, ?_⟩) (by assumption) ?_
  · rintro w ⟨h1, h2, h3⟩
    go_simp
  refine wpAnyH_take (i := 2) (v := .pointer mq) rfl (by kernel_rfl) (by kernel_rfl) (by kernel_rfl) (fun _ _ _ h => h) (Or.inl ⟨by rfl, ?_⟩) (by assumption) ?_
  · rintro w ⟨h1, h2, h3⟩
    go_simp
  refine wpAnyH_take (i := 3) (v := .int .i64 i) rfl (by kernel_rfl) (by kernel_rfl) (by kernel_rfl) (fun _ _ _ h => h) (Or.inl ⟨by rfl, ?_⟩) (by assumption) ?_
  · rintro w ⟨h1, h2, h3⟩
    go_simp
  refine wpAnyH_ready (rs := [1]) (by kernel_rfl) (by simp) ?_
  refine AllReadyH.cons rfl (fun K hK => ?_) AllReadyH.nil
  go_simp
  refine (bitOf_no _ _ hb.out).mono ?_
  rintro e w' ⟨rfl, rfl⟩
  exact ⟨rfl, rfl, 1, rfl⟩

set_option maxHeartbeats 1000000 in
theorem sc_bad_m (b0 b1 b2 b3 b4 : Nat) (p i : Int) (mq : Option Addr) (w : World) (hp : w.cell? ⟨b0, 0, none⟩ = some (.int .i64 p)) (hm : w.cell? ⟨b1, 0, none⟩ = some (.pointer mq)) (hi : w.cell? ⟨b2, 0, none⟩ = some (.int .i64 i)) (p0 : 0 ≤ p) (p1 : p < 16) (hbad : Bad w mq i) :
    Calls Try.prog 38 #[.pointer (some ⟨b0, 0, none⟩), .pointer (some ⟨b1, 0, none⟩), .pointer (some ⟨b2, 0, none⟩), .pointer (some ⟨b3, 0, none⟩), .pointer (some ⟨b4, 0, none⟩)] w fun e w' => e = .panicked no1 ∧ ∃ m, w' = w.drewN m := by
  have hb := Lib.hid hbad
  clear hbad
  go_enter Try.func38, Try.ntmps38
  go_wp2_with (fail)
  refine wp_region_held_drew (S := fun w' => w'.cell? ⟨b0, 0, none⟩ = some (.int .i64 p) ∧ w'.cell? ⟨b1, 0, none⟩ = some (.pointer mq) ∧ w'.cell? ⟨b2, 0, none⟩ = some (.int .i64 i)) (by kernel_rfl) ⟨hp, hm, hi⟩ (fun hHeld => ?_)
  refine wpAnyH_take (i := 0) (v := .int .i64 p) rfl (by kernel_rfl) (by kernel_rfl) (by kernel_rfl) (fun _ _ _ h => h) (Or.inl ⟨by rfl, ?_⟩) (by assumption) ?_
  · rintro w ⟨h1, h2, h3⟩
    go_simp
  refine wpAnyH_take (i := 2) (v := .pointer mq) rfl (by kernel_rfl) (by kernel_rfl) (by kernel_rfl) (fun _ _ _ h => h) (Or.inl ⟨by rfl, ?_⟩) (by assumption) ?_
  · rintro w ⟨h1, h2, h3⟩
    go_simp
  refine wpAnyH_take (i := 3) (v := .int .i64 i) rfl (by kernel_rfl) (by kernel_rfl) (by kernel_rfl) (fun _ _ _ h => h) (Or.inl ⟨by rfl, ?_⟩) (by assumption) ?_
  · rintro w ⟨h1, h2, h3⟩
    go_simp
  refine wpAnyH_ready (rs := [1]) (by kernel_rfl) (by simp) ?_
  refine AllReadyH.cons rfl (fun K hK => ?_) AllReadyH.nil
  go_simp
  refine (bitOf_yes _ _ p0 p1).mono ?_
  rintro e w' ⟨rfl, rfl⟩
  refine hK.out _ _ ⟨hp, hm, hi⟩ (fun hHeld => ?_)
  clear hK K
  refine wpAnyH_ready (rs := [4]) (by kernel_rfl) (by simp) ?_
  refine AllReadyH.cons rfl (fun K hK => ?_) AllReadyH.nil
  go_simp
  refine (cell_bad _ _ _ hb.out.drew).mono ?_
  rintro e w' ⟨rfl, rfl⟩
  exact ⟨rfl, rfl, 1, rfl⟩

set_option maxHeartbeats 1000000 in
theorem rl_bad_p (b0 b1 b2 : Nat) (p i : Int) (mq : Option Addr) (w : World) (hp : w.cell? ⟨b0, 0, none⟩ = some (.int .i64 p)) (hm : w.cell? ⟨b1, 0, none⟩ = some (.pointer mq)) (hi : w.cell? ⟨b2, 0, none⟩ = some (.int .i64 i)) (hbad : p < 0 ∨ 16 ≤ p) :
    Calls Try.prog 39 #[.pointer (some ⟨b0, 0, none⟩), .pointer (some ⟨b1, 0, none⟩), .pointer (some ⟨b2, 0, none⟩)] w fun e w' => e = .panicked no1 ∧ ∃ m, w' = w.drewN m := by
  have hb := Lib.hid hbad
  clear hbad
  go_enter Try.func39, Try.ntmps39
  go_wp2_with (fail)
  refine wp_region_held_drew (S := fun w' => w'.cell? ⟨b0, 0, none⟩ = some (.int .i64 p) ∧ w'.cell? ⟨b1, 0, none⟩ = some (.pointer mq) ∧ w'.cell? ⟨b2, 0, none⟩ = some (.int .i64 i)) (by kernel_rfl) ⟨hp, hm, hi⟩ (fun hHeld => ?_)
  refine wpAnyH_take (i := 0) (v := .int .i64 p) rfl (by kernel_rfl) (by kernel_rfl) (by kernel_rfl) (fun _ _ _ h => h) (Or.inl ⟨by rfl, ?_⟩) (by assumption) ?_
  · rintro w ⟨h1, h2, h3⟩
    go_simp
  refine wpAnyH_take (i := 2) (v := .pointer mq) rfl (by kernel_rfl) (by kernel_rfl) (by kernel_rfl) (fun _ _ _ h => h) (Or.inl ⟨by rfl, ?_⟩) (by assumption) ?_
  · rintro w ⟨h1, h2, h3⟩
    go_simp
  refine wpAnyH_take (i := 3) (v := .int .i64 i) rfl (by kernel_rfl) (by kernel_rfl) (by kernel_rfl) (fun _ _ _ h => h) (Or.inl ⟨by rfl, ?_⟩) (by assumption) ?_
  · rintro w ⟨h1, h2, h3⟩
    go_simp
  refine wpAnyH_ready (rs := [1]) (by kernel_rfl) (by simp) ?_
  refine AllReadyH.cons rfl (fun K hK => ?_) AllReadyH.nil
  go_simp
  refine (bitOf_no _ _ hb.out).mono ?_
  rintro e w' ⟨rfl, rfl⟩
  exact ⟨rfl, rfl, 1, rfl⟩

set_option maxHeartbeats 1000000 in
theorem rl_bad_m (b0 b1 b2 : Nat) (p i : Int) (mq : Option Addr) (w : World) (hp : w.cell? ⟨b0, 0, none⟩ = some (.int .i64 p)) (hm : w.cell? ⟨b1, 0, none⟩ = some (.pointer mq)) (hi : w.cell? ⟨b2, 0, none⟩ = some (.int .i64 i)) (p0 : 0 ≤ p) (p1 : p < 16) (hbad : Bad w mq i) :
    Calls Try.prog 39 #[.pointer (some ⟨b0, 0, none⟩), .pointer (some ⟨b1, 0, none⟩), .pointer (some ⟨b2, 0, none⟩)] w fun e w' => e = .panicked no1 ∧ ∃ m, w' = w.drewN m := by
  have hb := Lib.hid hbad
  clear hbad
  go_enter Try.func39, Try.ntmps39
  go_wp2_with (fail)
  refine wp_region_held_drew (S := fun w' => w'.cell? ⟨b0, 0, none⟩ = some (.int .i64 p) ∧ w'.cell? ⟨b1, 0, none⟩ = some (.pointer mq) ∧ w'.cell? ⟨b2, 0, none⟩ = some (.int .i64 i)) (by kernel_rfl) ⟨hp, hm, hi⟩ (fun hHeld => ?_)
  refine wpAnyH_take (i := 0) (v := .int .i64 p) rfl (by kernel_rfl) (by kernel_rfl) (by kernel_rfl) (fun _ _ _ h => h) (Or.inl ⟨by rfl, ?_⟩) (by assumption) ?_
  · rintro w ⟨h1, h2, h3⟩
    go_simp
  refine wpAnyH_take (i := 2) (v := .pointer mq) rfl (by kernel_rfl) (by kernel_rfl) (by kernel_rfl) (fun _ _ _ h => h) (Or.inl ⟨by rfl, ?_⟩) (by assumption) ?_
  · rintro w ⟨h1, h2, h3⟩
    go_simp
  refine wpAnyH_take (i := 3) (v := .int .i64 i) rfl (by kernel_rfl) (by kernel_rfl) (by kernel_rfl) (fun _ _ _ h => h) (Or.inl ⟨by rfl, ?_⟩) (by assumption) ?_
  · rintro w ⟨h1, h2, h3⟩
    go_simp
  refine wpAnyH_ready (rs := [1]) (by kernel_rfl) (by simp) ?_
  refine AllReadyH.cons rfl (fun K hK => ?_) AllReadyH.nil
  go_simp
  refine (bitOf_yes _ _ p0 p1).mono ?_
  rintro e w' ⟨rfl, rfl⟩
  refine hK.out _ _ ⟨hp, hm, hi⟩ (fun hHeld => ?_)
  clear hK K
  refine wpAnyH_ready (rs := [4]) (by kernel_rfl) (by simp) ?_
  refine AllReadyH.cons rfl (fun K hK => ?_) AllReadyH.nil
  go_simp
  refine (cell_bad _ _ _ hb.out.drew).mono ?_
  rintro e w' ⟨rfl, rfl⟩
  exact ⟨rfl, rfl, 1, rfl⟩

set_option maxHeartbeats 1000000 in
theorem vl_bad_m (b0 b1 b2 b3 : Nat) (p i : Int) (mq : Option Addr) (w : World) (hm : w.cell? ⟨b0, 0, none⟩ = some (.pointer mq)) (hi : w.cell? ⟨b1, 0, none⟩ = some (.int .i64 i)) (hp : w.cell? ⟨b2, 0, none⟩ = some (.int .i64 p)) (hbad : Bad w mq i) :
    Calls Try.prog 37 #[.pointer (some ⟨b0, 0, none⟩), .pointer (some ⟨b1, 0, none⟩), .pointer (some ⟨b2, 0, none⟩), .pointer (some ⟨b3, 0, none⟩)] w fun e w' => e = .panicked no1 ∧ ∃ m, w' = w.drewN m := by
  have hb := Lib.hid hbad
  clear hbad
  go_enter Try.func37, Try.ntmps37
  go_wp2_with (fail)
  refine wp_region_held_drew (S := fun w' => w'.cell? ⟨b0, 0, none⟩ = some (.pointer mq) ∧ w'.cell? ⟨b1, 0, none⟩ = some (.int .i64 i) ∧ w'.cell? ⟨b2, 0, none⟩ = some (.int .i64 p)) (by kernel_rfl) ⟨hm, hi, hp⟩ (fun hHeld => ?_)
  refine wpAnyH_take (i := 0) (v := .pointer mq) rfl (by kernel_rfl) (by kernel_rfl) (by kernel_rfl) (fun _ _ _ h => h) (Or.inl ⟨by rfl, ?_⟩) (by assumption) ?_
  · rintro w ⟨h1, h2, h3⟩
    go_simp
  refine wpAnyH_take (i := 1) (v := .int .i64 i) rfl (by kernel_rfl) (by kernel_rfl) (by kernel_rfl) (fun _ _ _ h => h) (Or.inl ⟨by rfl, ?_⟩) (by assumption) ?_
  · rintro w ⟨h1, h2, h3⟩
    go_simp
  refine wpAnyH_take (i := 6) (v := .int .i64 p) rfl (by kernel_rfl) (by kernel_rfl) (by kernel_rfl) (fun _ _ _ h => h) (Or.inl ⟨by rfl, ?_⟩) (by assumption) ?_
  · rintro w ⟨h1, h2, h3⟩
    go_simp
  refine wpAnyH_ready (rs := [2]) (by kernel_rfl) (by simp) ?_
  refine AllReadyH.cons rfl (fun K hK => ?_) AllReadyH.nil
  go_simp
  refine (cell_bad _ _ _ hb.out.drew).mono ?_
  rintro e w' ⟨rfl, rfl⟩
  exact ⟨rfl, rfl, 1, rfl⟩

set_option maxHeartbeats 1000000 in
theorem vl_bad_p (b0 b1 b2 b3 mb ab n c : Nat) (p i l : Int) (w : World) (hm : w.cell? ⟨b0, 0, none⟩ = some (.pointer (some ⟨mb, 0, none⟩))) (hi : w.cell? ⟨b1, 0, none⟩ = some (.int .i64 i)) (hp : w.cell? ⟨b2, 0, none⟩ = some (.int .i64 p))
    (hs : w.cell? ⟨mb, 0, none⟩ = some (.slice (some ⟨ab, 0, none⟩) n c)) (hl : w.cell? ⟨ab, i.toNat * 2 + 1, none⟩ = some (.int .i64 l)) (h0 : 0 ≤ i) (h1 : i < n) (hbad : p < 0 ∨ 16 ≤ p) :
    Calls Try.prog 37 #[.pointer (some ⟨b0, 0, none⟩), .pointer (some ⟨b1, 0, none⟩), .pointer (some ⟨b2, 0, none⟩), .pointer (some ⟨b3, 0, none⟩)] w fun e w' => e = .panicked no1 ∧ ∃ m, w' = w.drewN m := by
  have hb := Lib.hid hbad
  clear hbad
  go_enter Try.func37, Try.ntmps37
  go_wp2_with (fail)
  refine wp_region_held_drew (S := fun w' => w'.cell? ⟨b0, 0, none⟩ = some (.pointer (some ⟨mb, 0, none⟩)) ∧ w'.cell? ⟨b1, 0, none⟩ = some (.int .i64 i) ∧ w'.cell? ⟨b2, 0, none⟩ = some (.int .i64 p) ∧ w'.cell? ⟨ab, i.toNat * 2 + 1, none⟩ = some (.int .i64 l)) (by kernel_rfl) ⟨hm, hi, hp, hl⟩ (fun hHeld => ?_)
  refine wpAnyH_take (i := 0) (v := .pointer (some ⟨mb, 0, none⟩)) rfl (by kernel_rfl) (by kernel_rfl) (by kernel_rfl) (fun _ _ _ h => h) (Or.inl ⟨by rfl, ?_⟩) (by assumption) ?_
  · rintro w ⟨h1, h2, h3, h4⟩
    go_simp
  refine wpAnyH_take (i := 1) (v := .int .i64 i) rfl (by kernel_rfl) (by kernel_rfl) (by kernel_rfl) (fun _ _ _ h => h) (Or.inl ⟨by rfl, ?_⟩) (by assumption) ?_
  · rintro w ⟨h1, h2, h3, h4⟩
    go_simp
  refine wpAnyH_take (i := 6) (v := .int .i64 p) rfl (by kernel_rfl) (by kernel_rfl) (by kernel_rfl) (fun _ _ _ h => h) (Or.inl ⟨by rfl, ?_⟩) (by assumption) ?_
  · rintro w ⟨h1, h2, h3, h4⟩
    go_simp
  refine wpAnyH_ready (rs := [2]) (by kernel_rfl) (by simp) ?_
  refine AllReadyH.cons rfl (fun K hK => ?_) AllReadyH.nil
  go_simp
  refine (cell_at _ _ _ _ _ _ (by simpa using hs) h0 h1).mono ?_
  rintro e w' ⟨rfl, rfl⟩
  refine hK.out _ _ ⟨hm, hi, hp, hl⟩ (fun hHeld => ?_)
  clear hK K
  refine wpAnyH_take (i := 3) (v := .pointer (some ⟨ab, i.toNat * 2, none⟩)) rfl (by kernel_rfl) (by kernel_rfl) (by kernel_rfl) (fun _ _ _ h => h) (Or.inl ⟨by rfl, ?_⟩) (by assumption) ?_
  · rintro w ⟨h1, h2, h3, h4⟩
    go_simp
  refine wpAnyH_take (i := 4) (v := .pointer (some ⟨ab, i.toNat * 2 + 1, none⟩)) rfl (by kernel_rfl) (by kernel_rfl) (by kernel_rfl) (fun _ _ _ h => h) (Or.inl ⟨by rfl, ?_⟩) (by assumption) ?_
  · rintro w ⟨h1, h2, h3, h4⟩
    go_simp
  refine wpAnyH_take (i := 5) (v := .int .i64 l) rfl (by kernel_rfl) (by kernel_rfl) (by kernel_rfl) (fun _ _ _ h => h) (Or.inl ⟨by rfl, ?_⟩) (by assumption) ?_
  · rintro w ⟨h1, h2, h3, h4⟩
    go_simp
  refine wpAnyH_ready (rs := [7]) (by kernel_rfl) (by simp) ?_
  refine AllReadyH.cons rfl (fun K hK => ?_) AllReadyH.nil
  go_simp
  refine (bitOf_no _ _ hb.out).mono ?_
  rintro e w' ⟨rfl, rfl⟩
  exact ⟨rfl, rfl, 1, rfl⟩

set_option maxHeartbeats 1000000 in
theorem store_bad (b0 b1 b2 : Nat) (i z : Int) (mq : Option Addr) (w : World) (hm : w.cell? ⟨b0, 0, none⟩ = some (.pointer mq)) (hi : w.cell? ⟨b1, 0, none⟩ = some (.int .i64 i)) (hz : w.cell? ⟨b2, 0, none⟩ = some (.int .u64 z)) (hbad : Bad w mq i) :
    Calls Try.prog 33 #[.pointer (some ⟨b0, 0, none⟩), .pointer (some ⟨b1, 0, none⟩), .pointer (some ⟨b2, 0, none⟩)] w fun e w' => e = .panicked no1 ∧ ∃ m, w' = w.drewN m := by
  have hb := Lib.hid hbad
  clear hbad
  go_enter Try.func33, Try.ntmps33
  go_wp2_with (fail)
  refine wp_region_held_drew (S := fun w' => w'.cell? ⟨b0, 0, none⟩ = some (.pointer mq) ∧ w'.cell? ⟨b1, 0, none⟩ = some (.int .i64 i) ∧ w'.cell? ⟨b2, 0, none⟩ = some (.int .u64 z)) (by kernel_rfl) ⟨hm, hi, hz⟩ (fun hHeld => ?_)
  refine wpAnyH_take (i := 0) (v := .pointer mq) rfl (by kernel_rfl) (by kernel_rfl) (by kernel_rfl) (fun _ _ _ h => h) (Or.inl ⟨by rfl, ?_⟩) (by assumption) ?_
  · rintro w ⟨h1, h2, h3⟩
    go_simp
  refine wpAnyH_take (i := 1) (v := .int .i64 i) rfl (by kernel_rfl) (by kernel_rfl) (by kernel_rfl) (fun _ _ _ h => h) (Or.inl ⟨by rfl, ?_⟩) (by assumption) ?_
  · rintro w ⟨h1, h2, h3⟩
    go_simp
  refine wpAnyH_take (i := 3) (v := .int .u64 z) rfl (by kernel_rfl) (by kernel_rfl) (by kernel_rfl) (fun _ _ _ h => h) (Or.inl ⟨by rfl, ?_⟩) (by assumption) ?_
  · rintro w ⟨h1, h2, h3⟩
    go_simp
  refine wpAnyH_ready (rs := [2]) (by kernel_rfl) (by simp) ?_
  refine AllReadyH.cons rfl (fun K hK => ?_) AllReadyH.nil
  go_simp
  refine (cell_bad _ _ _ hb.out.drew).mono ?_
  rintro e w' ⟨rfl, rfl⟩
  exact ⟨rfl, rfl, 1, rfl⟩

set_option maxHeartbeats 1000000 in
theorem load_bad (b0 b1 b2 : Nat) (i : Int) (mq : Option Addr) (w : World) (hm : w.cell? ⟨b0, 0, none⟩ = some (.pointer mq)) (hi : w.cell? ⟨b1, 0, none⟩ = some (.int .i64 i)) (hbad : Bad w mq i) :
    Calls Try.prog 31 #[.pointer (some ⟨b0, 0, none⟩), .pointer (some ⟨b1, 0, none⟩), .pointer (some ⟨b2, 0, none⟩)] w fun e w' => e = .panicked no1 ∧ ∃ m, w' = w.drewN m := by
  have hb := Lib.hid hbad
  clear hbad
  go_enter Try.func31, Try.ntmps31
  go_wp2_with (first
    | (go_at_call 32; with_reducible refine (cell_bad _ _ _ hb.out).mono ?_; rintro e w' ⟨rfl, rfl⟩))
  exact ⟨rfl, rfl, 0, rfl⟩

/-- The cells of memory that New makes. -/
def cells0 (k : Nat) : Array Value := madeCells #[.int .u64 0, .int .i64 0] (k * 2)

theorem make_cells (n : Int) (h0 : 0 ≤ n) (h1 : n ≤ 1048576) (w : World) : (Instr.makeSlice 22 (.int .i64 n) (.int .i64 n)).run Try.prog w = .ok (.slice (some ⟨w.heap.size, 0, none⟩) n.toNat n.toNat) (w.alloc (.cells (cells0 n.toNat) 53)) := by
  have hinf : (Try.prog.info? 53).map (fun i => (i.zero, i.size, i.bytes)) = some (some (.agg #[.int .u64 0, .int .i64 0]), 2, 16) := by kernel_rfl
  obtain ⟨i, hi, hx⟩ := Option.map_eq_some_iff.1 hinf
  simp only [Prod.mk.injEq] at hx
  obtain ⟨hz, hsz, hb⟩ := hx
  have := run_make (P := Try.prog) w 22 53 i _ Try.underlying22 hi hz .i64 .i64 n n h0 (Int.le_refl _) (by rw [hb]; omega) (by omega)
  rw [this, hsz]
  rfl

theorem alloc_cell {w : World} (o : Obj) {a : Addr} {v : Value} (h : w.cell? a = some v) : (w.alloc o).cell? a = some v :=
  (World.grownBy_alloc w o none).cell h (by simp)

theorem lt_of_cell {w : World} {a : Addr} {v : Value} (h : w.cell? a = some v) : a.block < w.heap.size := by
  unfold World.cell? at h
  split at h
  · rename_i hb
    exact (Array.getElem?_eq_some_iff.1 hb).1
  · cases h

theorem alloc_frozen {w : World} (o : Obj) {a : Addr} {v : Value} (h : w.cell? a = some v) : (w.alloc o).frozen? a = w.frozen? a :=
  (World.grownBy_alloc w o none).frozen_far a (lt_of_cell h) (by simp)

set_option maxHeartbeats 1000000 in
theorem new_in (b0 b1 : Nat) (n : Int) (s : Value) (w : World) (hn : w.cell? ⟨b0, 0, none⟩ = some (.int .i64 n)) (hs : w.cell? ⟨b1, 0, none⟩ = some s) (fs : w.frozen? ⟨b1, 0, none⟩ = false) (h0 : 0 ≤ n) (h1 : n ≤ 1048576) :
    Calls Try.prog 23 #[.pointer (some ⟨b0, 0, none⟩), .pointer (some ⟨b1, 0, none⟩)] w fun e w' => e = .returned (.tuple #[]) ∧ w' = (w.alloc (.cells (cells0 n.toNat) 53)).setCell ⟨b1, 0, none⟩ (.slice (some ⟨w.heap.size, 0, none⟩) n.toNat n.toNat) := by
  have hmk := make_cells n h0 h1
  have hs' := alloc_cell (.cells (cells0 n.toNat) 53) hs
  have fs' : (w.alloc (.cells (cells0 n.toNat) 53)).frozen? ⟨b1, 0, none⟩ = false := (alloc_frozen _ hs).trans fs
  have e1 : ¬ n < 0 := by omega
  have e2 : ¬ 1048576 < n := by omega
  go_enter Try.func23, Try.ntmps23
  go_wp2_with (first
    | (go_at_call 24; with_reducible refine (refuse_no _).mono ?_; rintro e w' ⟨rfl, rfl⟩))
  go_end0
  exact ⟨rfl, rfl⟩

set_option maxHeartbeats 1000000 in
theorem new_bad (b0 b1 : Nat) (n : Int) (w : World) (hn : w.cell? ⟨b0, 0, none⟩ = some (.int .i64 n)) (hbad : n < 0 ∨ 1048576 < n) :
    Calls Try.prog 23 #[.pointer (some ⟨b0, 0, none⟩), .pointer (some ⟨b1, 0, none⟩)] w fun e w' => e = .panicked no1 ∧ ∃ m, w' = w.drewN m := by
  rcases hbad with h | h
  · go_enter Try.func23, Try.ntmps23
    go_wp2_with (first
      | (go_at_call 24; with_reducible refine (refuse_yes _).mono ?_; rintro e w' ⟨rfl, rfl⟩))
    exact ⟨rfl, rfl, 0, rfl⟩
  · have e1 : ¬ n < 0 := by omega
    go_enter Try.func23, Try.ntmps23
    go_wp2_with (first
      | (go_at_call 24; with_reducible refine (refuse_yes _).mono ?_; rintro e w' ⟨rfl, rfl⟩))
    exact ⟨rfl, rfl, 0, rfl⟩

end Go.Proofs.Ythegokjhgdneoaa
