/-
  Memory of a call's own: what the calls of package cells do to it, and that nothing that was there before has turned; and pick. Conditions: the places and the processes that are said.
-/
import Derived.Test.YthegokjhgdneoaaNew
namespace Go.Proofs.Ythegokjhgdneoaa

/-- Memory that was laid since W; of what was there in W nothing has turned. -/
structure Own (W w : World) (mb ab : Nat) (s : Value) (L : List (Int × Int)) : Prop where
  mem : Mem w mb ab s L
  grown : W.grownBy w none
  hm : W.heap.size ≤ mb
  ha : W.heap.size ≤ ab

theorem Own.next {W w w' : World} {mb ab : Nat} {s : Value} {L L' : List (Int × Int)} (h : Own W w mb ab s L) (h1 : Mem w' mb ab s L') (g : w.grownBy w' (some ab)) : Own W w' mb ab s L' :=
  ⟨h1, grown_new h.grown g h.ha, h.hm, h.ha⟩

theorem Own.keep {W w w' : World} {mb ab : Nat} {s : Value} {L : List (Int × Int)} (h : Own W w mb ab s L) (g : w.grownBy w' none) : Own W w' mb ab s L :=
  ⟨h.mem.far g (by simp) (by simp), grown_trans h.grown g, h.hm, h.ha⟩

theorem Own.alloc {W w : World} {mb ab : Nat} {s : Value} {L : List (Int × Int)} (h : Own W w mb ab s L) (o : Obj) : Own W (w.alloc o) mb ab s L := h.keep (World.grownBy_alloc _ _ _)

/-- A store into another block that was laid since W. -/
theorem Own.put {W w : World} {mb ab : Nat} {s : Value} {L : List (Int × Int)} (h : Own W w mb ab s L) {b o : Nat} {v : Value} (h1 : mb ≠ b) (h2 : ab ≠ b) (h3 : W.heap.size ≤ b) : Own W (w.setCell ⟨b, o, none⟩ v) mb ab s L :=
  ⟨h.mem.set h1 h2, grown_new h.grown (grown_set _ _ _ _) h3, h.hm, h.ha⟩

/-- Behind New, where its memory is laid into a variable. -/
theorem Own.start {W w : World} {g n : Nat} {L : List (Int × Int)} (hr : Row w g L) (hg : W.grownBy w none) (h1 : W.heap.size ≤ g) (h2 : g < w.heap.size) (h3 : n = L.length) : Own W (w.alloc (.cells #[.slice (some ⟨g, 0, none⟩) n n] 29)) w.heap.size g (.slice (some ⟨g, 0, none⟩) n n) L :=
  ⟨⟨by simp [go_sem], .inr ⟨n, by rw [h3]⟩, by omega, hr.far (World.grownBy_alloc _ _ none) (by simp)⟩, grown_trans hg (World.grownBy_alloc _ _ _), hg.size, h1⟩

section
variable {W w : World} {mb ab : Nat} {s : Value} {L : List (Int × Int)} {p i z x l : Int}
theorem load_own (h : Own W w mb ab s L) (hk : L[i.toNat]? = some (x, l)) (h0 : 0 ≤ i) :
    Calls Try.prog 15 #[.pointer (some ⟨mb, 0, none⟩), .int .i64 i] w fun e w' => e = .returned (.tuple #[.int .u64 x, .int .i64 0]) ∧ Own W w' mb ab s L :=
  (load_yes_any _ _ _ _ _ _ _ _ h.mem hk h0).mono fun _ _ ⟨e, _, g⟩ => ⟨e, h.keep g⟩
theorem store_own (h : Own W w mb ab s L) (hk : L[i.toNat]? = some (x, l)) (h0 : 0 ≤ i) :
    Calls Try.prog 16 #[.pointer (some ⟨mb, 0, none⟩), .int .i64 i, .int .u64 z] w fun e w' => e = .returned (.int .i64 0) ∧ Own W w' mb ab s (L.set i.toNat (z, 0)) :=
  (store_yes_any _ _ _ _ _ _ _ _ _ h.mem hk h0).mono fun _ _ ⟨e, m, g⟩ => ⟨e, h.next m g⟩
theorem ll_own (h : Own W w mb ab s L) (hk : L[i.toNat]? = some (x, l)) (h0 : 0 ≤ i) (p0 : 0 ≤ p) (p1 : p < 16) :
    Calls Try.prog 17 #[.pointer (some ⟨mb, 0, none⟩), .int .i64 p, .int .i64 i] w fun e w' => e = .returned (.tuple #[.int .u64 x, .int .i64 0]) ∧ Own W w' mb ab s (L.set i.toNat (x, withP l p)) :=
  (ll_yes_any _ _ _ _ _ _ _ _ _ h.mem hk h0 p0 p1).mono fun _ _ ⟨e, m, g⟩ => ⟨e, h.next m g⟩
theorem vl_own (h : Own W w mb ab s L) (hk : L[i.toNat]? = some (x, l)) (h0 : 0 ≤ i) (p0 : 0 ≤ p) (p1 : p < 16) :
    Calls Try.prog 18 #[.pointer (some ⟨mb, 0, none⟩), .int .i64 p, .int .i64 i] w fun e w' => e = .returned (.tuple #[.bool (hasP l p), .int .i64 0]) ∧ Own W w' mb ab s L :=
  (vl_yes_any _ _ _ _ _ _ _ _ _ h.mem hk h0 p0 p1).mono fun _ _ ⟨e, _, g⟩ => ⟨e, h.keep g⟩
theorem rl_own (h : Own W w mb ab s L) (hk : L[i.toNat]? = some (x, l)) (h0 : 0 ≤ i) (p0 : 0 ≤ p) (p1 : p < 16) :
    Calls Try.prog 20 #[.pointer (some ⟨mb, 0, none⟩), .int .i64 p, .int .i64 i] w fun e w' => e = .returned (.int .i64 0) ∧ Own W w' mb ab s (L.set i.toNat (x, lessP l p)) :=
  (rl_yes_any _ _ _ _ _ _ _ _ _ h.mem hk h0 p0 p1).mono fun _ _ ⟨e, m, g⟩ => ⟨e, h.next m g⟩
theorem sc_own_yes (h : Own W w mb ab s L) (hk : L[i.toNat]? = some (x, l)) (h0 : 0 ≤ i) (p0 : 0 ≤ p) (p1 : p < 16) (hq : hasP l p = true) :
    Calls Try.prog 19 #[.pointer (some ⟨mb, 0, none⟩), .int .i64 p, .int .i64 i, .int .u64 z] w fun e w' => e = .returned (.tuple #[.bool true, .int .i64 0]) ∧ Own W w' mb ab s (L.set i.toNat (z, 0)) :=
  (sc_yes_any _ _ _ _ _ _ _ _ _ _ h.mem hk h0 p0 p1 hq).mono fun _ _ ⟨e, m, g⟩ => ⟨e, h.next m g⟩
theorem sc_own_not (h : Own W w mb ab s L) (hk : L[i.toNat]? = some (x, l)) (h0 : 0 ≤ i) (p0 : 0 ≤ p) (p1 : p < 16) (hq : hasP l p = false) :
    Calls Try.prog 19 #[.pointer (some ⟨mb, 0, none⟩), .int .i64 p, .int .i64 i, .int .u64 z] w fun e w' => e = .returned (.tuple #[.bool false, .int .i64 0]) ∧ Own W w' mb ab s L :=
  (sc_not_any _ _ _ _ _ _ _ _ _ _ h.mem hk h0 p0 p1 hq).mono fun _ _ ⟨e, _, g⟩ => ⟨e, h.keep g⟩
theorem vl_own_no (h : Own W w mb ab s L) (hk : L[i.toNat]? = some (x, l)) (h0 : 0 ≤ i) (hb : p < 0 ∨ 16 ≤ p) :
    Calls Try.prog 18 #[.pointer (some ⟨mb, 0, none⟩), .int .i64 p, .int .i64 i] w fun e w' => e = .returned (.tuple #[.bool false, .int .i64 1]) ∧ Own W w' mb ab s L :=
  (vl_bad_p_any _ _ _ _ _ _ _ _ _ h.mem hk h0 hb).mono fun _ _ ⟨e, g⟩ => ⟨e, h.keep g⟩
theorem rl_own_no (h : Own W w mb ab s L) (hb : i < 0 ∨ (L.length : Int) ≤ i) (p0 : 0 ≤ p) (p1 : p < 16) :
    Calls Try.prog 20 #[.pointer (some ⟨mb, 0, none⟩), .int .i64 p, .int .i64 i] w fun e w' => e = .returned (.int .i64 1) ∧ Own W w' mb ab s L :=
  (rl_bad_m_any _ _ _ _ p0 p1 (h.mem.bad hb)).mono fun _ _ ⟨e, g⟩ => ⟨e, h.keep g⟩
theorem load_own_nil (h : Own W w mb ab s L) :
    Calls Try.prog 15 #[.pointer none, .int .i64 i] w fun e w' => e = .returned (.tuple #[.int .u64 0, .int .i64 1]) ∧ Own W w' mb ab s L :=
  (load_bad_m_any _ _ _ (.inl rfl)).mono fun _ _ ⟨e, g⟩ => ⟨e, h.keep g⟩
theorem new_own_no (h : Own W w mb ab s L) (hb : i < 0 ∨ 1048576 < i) :
    Calls Try.prog 10 #[.int .i64 i] w fun e w' => e = .returned (.tuple #[.agg #[.slice none 0 0], .int .i64 1]) ∧ Own W w' mb ab s L :=
  (new_no_any _ _ hb).mono fun _ _ ⟨e, g⟩ => ⟨e, h.keep g⟩
end

/-- pick. -/
def pick (c n : Int) : Int := (if c < 0 then -(c + 1) else c) % n

theorem pick_bd (c n : Int) (h : 0 < n) : 0 ≤ pick c n ∧ pick c n < n := ⟨Int.emod_nonneg _ (by omega), Int.emod_lt_of_pos _ h⟩

set_option maxHeartbeats 1000000 in
theorem pick_any (c n : Int) (w : World) (h0 : -9223372036854775808 ≤ c) (h1 : c < 9223372036854775808) (g0 : 0 < n) (g1 : n < 9223372036854775808) :
    Calls Try.prog 9 #[.int .i64 c, .int .i64 n] w fun e w' => e = .returned (.int .i64 (pick c n)) ∧ w = w' := by
  have hb := pick_bd c n g0
  by_cases h : c < 0
  · have hp : pick c n = -(c + 1) % n := by unfold pick; rw [if_pos h]
    rw [hp] at hb
    have hp' := Lib.hid hp
    clear hp
    go_enter Try.func9, Try.ntmps9
    go_wp2
    go_ret
    exact ⟨ret_int (by rw [hp'.out]; rw [← Int.neg_tmod, Int.tmod_eq_emod_of_nonneg (by omega)]), rfl⟩
  · have hp : pick c n = c % n := by unfold pick; rw [if_neg h]
    rw [hp] at hb
    have hp' := Lib.hid hp
    clear hp
    go_enter Try.func9, Try.ntmps9
    go_wp2
    go_ret
    exact ⟨ret_int (by rw [hp'.out]), rfl⟩

end Go.Proofs.Ythegokjhgdneoaa
