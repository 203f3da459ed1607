/-
  Six cells beside what was done to them so far, as a list of words and a table of who has linked what: what stays and what a call, or a store into either, makes of them. Conditions: places below 6, processes below 16.
-/
import Derived.Test.YthegokjhgdneoaaRaws
import Derived.Test.YthegokjhgdneoaaSets
import Derived.Deep.MidRow
namespace Go.Proofs.Ythegokjhgdneoaa

/-- Links: the bits of f below k. -/
def LinksTo (f : Nat → Bool) (k l : Int) : Prop := ∃ v : BitVec 64, l = v.toInt ∧ ∀ j, v.getLsbD j = (decide (j < k.toNat) && f j)

theorem links0 (f : Nat → Bool) : LinksTo f 0 0 := ⟨0#64, by decide, fun j => by simp⟩
theorem links_none (k : Int) : LinksTo (fun _ => false) k 0 := ⟨0#64, by decide, fun j => by simp⟩

theorem links_one {f : Nat → Bool} {k l l' : Int} (h : LinksTo f k l) (h' : LinksTo f k l') : l = l' := by
  obtain ⟨v, rfl, hv⟩ := h
  obtain ⟨v', rfl, hv'⟩ := h'
  congr 1
  apply BitVec.eq_of_getLsbD_eq
  intro j _
  rw [hv, hv']

theorem links_yes {f : Nat → Bool} {k l : Int} (h : LinksTo f k l) (k0 : 0 ≤ k) (k1 : k < 16) (hb : f k.toNat = true) : LinksTo f (k + 1) (withP l k) := by
  obtain ⟨v, rfl, hv⟩ := h
  refine ⟨v ||| BitVec.twoPow 64 k.toNat, by unfold withP; rw [bits_or, bv_toInt, bv_bit], fun j => ?_⟩
  rw [BitVec.getLsbD_or, hv, BitVec.getLsbD_twoPow]
  have e : (k + 1).toNat = k.toNat + 1 := by omega
  rw [e]
  by_cases hj : j = k.toNat
  · subst hj
    have : k.toNat < 64 := by omega
    simp [hb, this]
  · have e1 : ¬ k.toNat = j := fun h => hj h.symm
    have e2 : (j < k.toNat + 1) = (j < k.toNat) := propext ⟨fun _ => by omega, fun _ => by omega⟩
    simp [e1, e2]

theorem links_no {f : Nat → Bool} {k l : Int} (h : LinksTo f k l) (k0 : 0 ≤ k) (hb : f k.toNat = false) : LinksTo f (k + 1) l := by
  obtain ⟨v, rfl, hv⟩ := h
  refine ⟨v, rfl, fun j => ?_⟩
  rw [hv]
  have e : (k + 1).toNat = k.toNat + 1 := by omega
  rw [e]
  by_cases hj : j = k.toNat
  · subst hj
    simp [hb]
  · have e2 : (j < k.toNat + 1) = (j < k.toNat) := propext ⟨fun _ => by omega, fun _ => by omega⟩
    simp [e2]

theorem links_has {f : Nat → Bool} {l : Int} (h : LinksTo f 16 l) (p : Nat) (hp : p < 16) : hasP l p = f p := by
  obtain ⟨v, rfl, hv⟩ := h
  rw [hasP_eq _ _ (by omega) (by omega), bv_toInt, hv]
  simp [hp]

def upd {α : Type} (f : Nat → α) (a : Nat) (v : α) : Nat → α := fun k => if k = a then v else f k
theorem upd_same {α : Type} (f : Nat → α) (a : Nat) (v : α) : upd f a v a = v := by simp [upd]
theorem upd_other {α : Type} (f : Nat → α) {a k : Nat} (v : α) (h : k ≠ a) : upd f a v k = f k := by simp [upd, h]

theorem links_with {f : Nat → Bool} {l : Int} (h : LinksTo f 16 l) (p : Nat) (hp : p < 16) : LinksTo (upd f p true) 16 (withP l p) := by
  obtain ⟨v, rfl, hv⟩ := h
  refine ⟨v ||| BitVec.twoPow 64 p, by unfold withP; rw [bits_or, bv_toInt, bv_bit]; simp, fun j => ?_⟩
  rw [BitVec.getLsbD_or, hv, BitVec.getLsbD_twoPow]
  by_cases hj : j = p
  · subst hj
    have h64 : j < 64 := by omega
    rw [upd_same]
    simp [hp, h64]
  · have e1 : ¬ p = j := fun h => hj h.symm
    rw [upd_other _ _ hj]
    simp [e1]

theorem links_less {f : Nat → Bool} {l : Int} (h : LinksTo f 16 l) (p : Nat) : LinksTo (upd f p false) 16 (lessP l p) := by
  obtain ⟨v, rfl, hv⟩ := h
  refine ⟨v &&& ~~~ BitVec.twoPow 64 p, by unfold lessP; rw [bits_andNot, bv_toInt, bv_bit]; simp, fun j => ?_⟩
  rw [BitVec.getLsbD_and, hv, BitVec.getLsbD_not, BitVec.getLsbD_twoPow]
  by_cases hj : j = p
  · subst hj
    rw [upd_same]
    simp
  · have e1 : ¬ p = j := fun h => hj h.symm
    rw [upd_other _ _ hj]
    by_cases h64 : j < 64
    · simp [e1, h64]
    · have : ¬ j < 16 := by omega
      simp [this]

/-- The cells are what the words and the table say. -/
def Rel (L : List (Int × Int)) (ws : Nat → Int) (ln : Nat → Nat → Bool) : Prop := L.length = 6 ∧ ∀ k, k < 6 → ∃ l, L[k]? = some (ws k, l) ∧ LinksTo (ln k) 16 l

theorem Rel.put {L : List (Int × Int)} {ws : Nat → Int} {ln : Nat → Nat → Bool} (h : Rel L ws ln) (a : Nat) (ha : a < 6) (x l : Int) (f : Nat → Bool) (hf : LinksTo f 16 l) : Rel (L.set a (x, l)) (upd ws a x) (upd ln a f) := by
  refine ⟨by simpa using h.1, fun k hk => ?_⟩
  by_cases e : k = a
  · subst e
    rw [List.getElem?_set_self (by rw [h.1]; exact hk), upd_same, upd_same]
    exact ⟨l, rfl, hf⟩
  · rw [List.getElem?_set_ne (fun h => e h.symm), upd_other _ _ e, upd_other _ _ e]
    exact h.2 k hk

theorem upd_id {α : Type} (f : Nat → α) (a : Nat) : upd f a (f a) = f := by funext k; unfold upd; split <;> simp_all

theorem Rel.link {L : List (Int × Int)} {ws : Nat → Int} {ln : Nat → Nat → Bool} (h : Rel L ws ln) (a : Nat) (ha : a < 6) (l : Int) (f : Nat → Bool) (hf : LinksTo f 16 l) : Rel (L.set a (ws a, l)) ws (upd ln a f) := by
  have := h.put a ha (ws a) l f hf
  rwa [upd_id] at this

/-- The words' variable. -/
def Wd (w : World) (wb : Nat) (ws : Nat → Int) : Prop := ∀ k, k < 6 → w.cell? ⟨wb, k, none⟩ = some (.int .u64 (ws k)) ∧ w.frozen? ⟨wb, k, none⟩ = false
/-- The table's variable. -/
def Ln (w : World) (lb : Nat) (ln : Nat → Nat → Bool) : Prop := ∀ k j, k < 6 → j < 16 → w.cell? ⟨lb, k * 16 + j, none⟩ = some (.bool (ln k j)) ∧ w.frozen? ⟨lb, k * 16 + j, none⟩ = false

theorem Wd.far {w w' : World} {wb : Nat} {ws : Nat → Int} {row : Option Nat} (h : Wd w wb ws) (g : w.grownBy w' row) (hne : some wb ≠ row) : Wd w' wb ws := fun k hk => by
  obtain ⟨h1, h2⟩ := h k hk
  exact ⟨g.cell h1 hne, (g.frozen_far _ (lt_of_cell h1) hne).trans h2⟩
theorem Ln.far {w w' : World} {lb : Nat} {ln : Nat → Nat → Bool} {row : Option Nat} (h : Ln w lb ln) (g : w.grownBy w' row) (hne : some lb ≠ row) : Ln w' lb ln := fun k j hk hj => by
  obtain ⟨h1, h2⟩ := h k j hk hj
  exact ⟨g.cell h1 hne, (g.frozen_far _ (lt_of_cell h1) hne).trans h2⟩

theorem Wd.put {w : World} {wb : Nat} {ws : Nat → Int} (h : Wd w wb ws) (a : Nat) (ha : a < 6) (x : Int) : Wd (w.setCell ⟨wb, a, none⟩ (.int .u64 x)) wb (upd ws a x) := fun k hk => by
  refine ⟨?_, by rw [frozen_set]; exact (h k hk).2⟩
  by_cases e : k = a
  · subst e
    rw [upd_same]
    exact World.cell?_setCell_same _ _ _ (h k hk).1
  · rw [World.cell?_setCell_other _ _ _ _ (by simp <;> omega), upd_other _ _ e]
    exact (h k hk).1
theorem Ln.put {w : World} {lb : Nat} {ln : Nat → Nat → Bool} (h : Ln w lb ln) (a p : Nat) (ha : a < 6) (hp : p < 16) (b : Bool) : Ln (w.setCell ⟨lb, a * 16 + p, none⟩ (.bool b)) lb (upd ln a (upd (ln a) p b)) := fun k j hk hj => by
  refine ⟨?_, by rw [frozen_set]; exact (h k j hk hj).2⟩
  by_cases e : k = a
  · subst e
    rw [upd_same]
    by_cases e2 : j = p
    · subst e2
      rw [upd_same]
      exact World.cell?_setCell_same _ _ _ (h k j hk hj).1
    · rw [World.cell?_setCell_other _ _ _ _ (by simp <;> omega), upd_other _ _ e2]
      exact (h k j hk hj).1
  · rw [World.cell?_setCell_other _ _ _ _ (by simp <;> omega), upd_other _ _ e]
    exact (h k j hk hj).1

/-- Sixteen times false. -/
def fls : Array Value := Array.replicate 16 (.bool false)
theorem fls_len : fls.toList.length = 16 := by decide
theorem fls_get (j : Nat) (h : j < 16) : fls.toList[j]? = some (.bool false) := by
  unfold fls
  rw [Array.toList_replicate, List.getElem?_replicate, if_pos h]

theorem Ln.there {w : World} {lb : Nat} {ln : Nat → Nat → Bool} (h : Ln w lb ln) (a : Nat) (ha : a < 6) : w.there lb (a * 16) 16 := fun j hj => by
  obtain ⟨h1, h2⟩ := h a j ha hj
  exact ⟨by rw [h1]; rfl, h2⟩
theorem Ln.clear {w : World} {lb : Nat} {ln : Nat → Nat → Bool} (h : Ln w lb ln) (a : Nat) (ha : a < 6) : Ln (w.setCells lb (a * 16) fls.toList) lb (upd ln a (fun _ => false)) := fun k j hk hj => by
  refine ⟨?_, by rw [World.frozen?_setCells]; exact (h k j hk hj).2⟩
  by_cases e : k = a
  · subst e
    rw [upd_same]
    exact World.rangeAt_setCells_same w lb (k * 16) fls.toList (by rw [fls_len]; exact h.there k ha) j _ (fls_get j hj)
  · rw [upd_other _ _ e, World.cell?_setCells_out lb fls.toList (a * 16) w _ (fun _ _ => by rw [fls_len]; show k * 16 + j < a * 16 ∨ a * 16 + 16 ≤ k * 16 + j; omega)]
    exact (h k j hk hj).1

/-- A row of the table, place by place. -/
theorem Ln.row {w : World} {lb : Nat} {ln : Nat → Nat → Bool} (h : Ln w lb ln) (a : Nat) (ha : a < 6) :
    w.cell? ⟨lb, a * 16, none⟩ = some (.bool (ln a 0)) ∧ w.frozen? ⟨lb, a * 16, none⟩ = false ∧ (∀ j, j < 16 → w.cell? ⟨lb, a * 16 + j, none⟩ = some (.bool (ln a j))) ∧ (∀ j, j < 16 → w.frozen? ⟨lb, a * 16 + j, none⟩ = false) :=
  ⟨by simpa using (h a 0 ha (by omega)).1, by simpa using (h a 0 ha (by omega)).2, fun j hj => (h a j ha hj).1, fun j hj => (h a j ha hj).2⟩

theorem grown_sets (b : Nat) : ∀ (vs : List Value) (o : Nat) (w : World), w.grownBy (w.setCells b o vs) (some b)
  | [], _, w => grown_refl w _
  | v :: r, o, w => grown_trans (grown_set w b o v) (grown_sets b r (o + 1) _)

/-- All that the round holds, but for what the cells have to do with the words and the table. -/
structure Bare (W w : World) (mb ab wb lb : Nat) (s : Value) (L : List (Int × Int)) (ws : Nat → Int) (ln : Nat → Nat → Bool) : Prop where
  own : Own W w mb ab s L
  wd : Wd w wb ws
  ln : Ln w lb ln
  hw : W.heap.size ≤ wb
  hl : W.heap.size ≤ lb
  d1 : wb ≠ lb
  d2 : mb ≠ wb
  d3 : ab ≠ wb
  d4 : mb ≠ lb
  d5 : ab ≠ lb

section
variable {W w w' : World} {mb ab wb lb : Nat} {s : Value} {L L' : List (Int × Int)} {ws : Nat → Int} {ln : Nat → Nat → Bool} {x l z : Int} {a p : Nat}

theorem Bare.next (h : Bare W w mb ab wb lb s L ws ln) (m : Mem w' mb ab s L') (g : w.grownBy w' (some ab)) : Bare W w' mb ab wb lb s L' ws ln :=
  ⟨h.own.next m g, h.wd.far g (by have := h.d3; simp; omega), h.ln.far g (by have := h.d5; simp; omega), h.hw, h.hl, h.d1, h.d2, h.d3, h.d4, h.d5⟩
theorem Bare.keep (h : Bare W w mb ab wb lb s L ws ln) (g : w.grownBy w' none) : Bare W w' mb ab wb lb s L ws ln :=
  ⟨h.own.keep g, h.wd.far g (by simp), h.ln.far g (by simp), h.hw, h.hl, h.d1, h.d2, h.d3, h.d4, h.d5⟩
theorem Bare.drewN (h : Bare W w mb ab wb lb s L ws ln) (n : Nat) : Bare W (w.drewN n) mb ab wb lb s L ws ln := h.keep (grown_drewN _ _ _)
theorem Bare.putW (h : Bare W w mb ab wb lb s L ws ln) (ha : a < 6) (x : Int) : Bare W (w.setCell ⟨wb, a, none⟩ (.int .u64 x)) mb ab wb lb s L (upd ws a x) ln :=
  ⟨h.own.put h.d2 h.d3 h.hw, h.wd.put a ha x, h.ln.far (grown_set _ _ _ _) (by have := h.d1; simp; omega), h.hw, h.hl, h.d1, h.d2, h.d3, h.d4, h.d5⟩
theorem Bare.putL (h : Bare W w mb ab wb lb s L ws ln) (ha : a < 6) (hp : p < 16) (b : Bool) : Bare W (w.setCell ⟨lb, a * 16 + p, none⟩ (.bool b)) mb ab wb lb s L ws (upd ln a (upd (ln a) p b)) :=
  ⟨h.own.put h.d4 h.d5 h.hl, h.wd.far (grown_set _ _ _ _) (by have := h.d1; simp; omega), h.ln.put a p ha hp b, h.hw, h.hl, h.d1, h.d2, h.d3, h.d4, h.d5⟩
theorem Bare.clear (h : Bare W w mb ab wb lb s L ws ln) (ha : a < 6) : Bare W (w.setCells lb (a * 16) fls.toList) mb ab wb lb s L ws (upd ln a (fun _ => false)) :=
  ⟨⟨h.own.mem.far (grown_sets lb _ _ _) (by have := h.d4; simp; omega) (by have := h.d5; simp; omega), grown_new h.own.grown (grown_sets lb _ _ _) h.hl, h.own.hm, h.own.ha⟩,
    h.wd.far (grown_sets lb _ _ _) (by have := h.d1; simp; omega), h.ln.clear a ha, h.hw, h.hl, h.d1, h.d2, h.d3, h.d4, h.d5⟩

theorem load_b (h : Bare W w mb ab wb lb s L ws ln) (hk : L[a]? = some (x, l)) :
    Calls Try.prog 15 #[.pointer (some ⟨mb, 0, none⟩), .int .i64 a] w fun e w' => e = .returned (.tuple #[.int .u64 x, .int .i64 0]) ∧ Bare W w' mb ab wb lb s L ws ln :=
  (load_yes_any _ _ _ _ _ _ _ _ h.own.mem (by simpa using hk) (by omega)).mono fun _ _ ⟨e, _, g⟩ => ⟨e, h.keep g⟩
theorem store_b (h : Bare W w mb ab wb lb s L ws ln) (hk : L[a]? = some (x, l)) :
    Calls Try.prog 16 #[.pointer (some ⟨mb, 0, none⟩), .int .i64 a, .int .u64 z] w fun e w' => e = .returned (.int .i64 0) ∧ Bare W w' mb ab wb lb s (L.set a (z, 0)) ws ln :=
  (store_yes_any _ _ _ _ _ _ _ _ _ h.own.mem (by simpa using hk) (by omega)).mono fun _ _ ⟨e, m, g⟩ => ⟨e, by simpa using h.next m g⟩
theorem ll_b (h : Bare W w mb ab wb lb s L ws ln) (hk : L[a]? = some (x, l)) (hp : p < 16) :
    Calls Try.prog 17 #[.pointer (some ⟨mb, 0, none⟩), .int .i64 p, .int .i64 a] w fun e w' => e = .returned (.tuple #[.int .u64 x, .int .i64 0]) ∧ Bare W w' mb ab wb lb s (L.set a (x, withP l p)) ws ln :=
  (ll_yes_any mb ab s L p a x l w h.own.mem (by simpa using hk) (by omega) (by omega) (by omega)).mono fun _ _ ⟨e, m, g⟩ => ⟨e, by simpa using h.next m g⟩
theorem vl_b (h : Bare W w mb ab wb lb s L ws ln) (hk : L[a]? = some (x, l)) (hp : p < 16) :
    Calls Try.prog 18 #[.pointer (some ⟨mb, 0, none⟩), .int .i64 p, .int .i64 a] w fun e w' => e = .returned (.tuple #[.bool (hasP l p), .int .i64 0]) ∧ Bare W w' mb ab wb lb s L ws ln :=
  (vl_yes_any _ _ _ _ _ _ _ _ _ h.own.mem (by simpa using hk) (by omega) (by omega) (by omega)).mono fun _ _ ⟨e, _, g⟩ => ⟨e, h.keep g⟩
theorem rl_b (h : Bare W w mb ab wb lb s L ws ln) (hk : L[a]? = some (x, l)) (hp : p < 16) :
    Calls Try.prog 20 #[.pointer (some ⟨mb, 0, none⟩), .int .i64 p, .int .i64 a] w fun e w' => e = .returned (.int .i64 0) ∧ Bare W w' mb ab wb lb s (L.set a (x, lessP l p)) ws ln :=
  (rl_yes_any mb ab s L p a x l w h.own.mem (by simpa using hk) (by omega) (by omega) (by omega)).mono fun _ _ ⟨e, m, g⟩ => ⟨e, by simpa using h.next m g⟩
theorem sc_b_yes (h : Bare W w mb ab wb lb s L ws ln) (hk : L[a]? = some (x, l)) (hp : p < 16) (hq : hasP l p = true) :
    Calls Try.prog 19 #[.pointer (some ⟨mb, 0, none⟩), .int .i64 p, .int .i64 a, .int .u64 z] w fun e w' => e = .returned (.tuple #[.bool true, .int .i64 0]) ∧ Bare W w' mb ab wb lb s (L.set a (z, 0)) ws ln :=
  (sc_yes_any _ _ _ _ _ _ _ _ _ _ h.own.mem (by simpa using hk) (by omega) (by omega) (by omega) hq).mono fun _ _ ⟨e, m, g⟩ => ⟨e, by simpa using h.next m g⟩
theorem sc_b_not (h : Bare W w mb ab wb lb s L ws ln) (hk : L[a]? = some (x, l)) (hp : p < 16) (hq : hasP l p = false) :
    Calls Try.prog 19 #[.pointer (some ⟨mb, 0, none⟩), .int .i64 p, .int .i64 a, .int .u64 z] w fun e w' => e = .returned (.tuple #[.bool false, .int .i64 0]) ∧ Bare W w' mb ab wb lb s L ws ln :=
  (sc_not_any _ _ _ _ _ _ _ _ _ _ h.own.mem (by simpa using hk) (by omega) (by omega) (by omega) hq).mono fun _ _ ⟨e, _, g⟩ => ⟨e, h.keep g⟩
end

theorem pick_is (c n v : Int) (w : World) (h : pick c n = v) (h0 : -9223372036854775808 ≤ c) (h1 : c < 9223372036854775808) (g0 : 0 < n) (g1 : n < 9223372036854775808) :
    Calls Try.prog 9 #[.int .i64 c, .int .i64 n] w fun e w' => e = .returned (.int .i64 v) ∧ w = w' := by
  have := pick_any c n w h0 h1 g0 g1
  rwa [h] at this

end Go.Proofs.Ythegokjhgdneoaa
