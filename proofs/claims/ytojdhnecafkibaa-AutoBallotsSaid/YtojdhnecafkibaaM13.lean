/-
  Parts of a proof, one behind the other: LawPick, LawVotes, AutCb, LanCi, LanIns, LanDrop, LanRoom, LanFull, LanPut, LanGrow. Each says its own conditions.
-/
import Derived.Test.YtojdhnecafkibaaM12
import Derived.Lib.Overlaps
import Derived.Laws.IdiomCopy
import Derived.Lib.AppendZerosOnto

/- LawPick:
  What the laws of layer 9 make of a raw number: which of n things it speaks of. Conditions: integers' bounds.
-/
namespace Go.Proofs.Ytojdhnecafkibaa.Law
open Go.RowKit (Below intOf)
open Go.Proofs.Ytojdhnecafkibaa.Aut

/-- Which of n things a raw number speaks of. -/
def pickZ (c n : Int) : Int := (if c < 0 then -(c + 1) else c) % n
theorem pick_ge (c : Int) {n : Int} (h : 0 < n) : 0 ≤ pickZ c n := Int.emod_nonneg _ (by omega)
theorem pick_lt (c : Int) {n : Int} (h : 0 < n) : pickZ c n < n := Int.emod_lt_of_pos _ h
theorem pick_nat (c : Int) (n : Nat) (h : 0 < n) : ∃ k : Nat, k < n ∧ pickZ c n = k := by
  have h1 := pick_ge c (n := n) (by omega)
  have h2 := pick_lt c (n := n) (by omega)
  exact ⟨(pickZ c n).toNat, by omega, by omega⟩
/-- A number that is one of them is itself. -/
theorem pick_self {c n : Int} (h0 : 0 ≤ c) (h : c < n) : pickZ c n = c := by
  unfold pickZ; rw [if_neg (by omega), Int.emod_eq_of_lt h0 h]

theorem pick_any (c n : Int) (w : World) (hc : I64 c) (h0 : 0 < n) :
    Calls Try.prog 5 #[.int .i64 c, .int .i64 n] w fun e w' => e = .returned (.int .i64 (pickZ c n)) ∧ w = w' := by
  have hn0 : n ≠ 0 := by omega
  unfold pickZ
  by_cases hneg : c < 0
  · rw [if_pos hneg]
    have e1 : RowKit.Hid (RowKit.wrap64 (-(RowKit.wrap64 (c + 1))) = -(c + 1)) := Lib.hid (by unfold I64 at hc; simp only [RowKit.wrap64]; omega)
    have hd : 0 ≤ -(c + 1) := by omega
    have hb : decide (c < 0) = true := decide_eq_true hneg
    have e3 : RowKit.Hid ((-(c + 1)).tmod n = (-(c + 1)) % n) := Lib.hid (Int.tmod_eq_emod_of_nonneg hd)
    clear hneg hd h0
    go_enter Try.func5, Try.ntmps5
    go_wp2
    go_ret
    refine ⟨?_, rfl⟩
    show Ending.returned (.int .i64 ((RowKit.wrap64 (-RowKit.wrap64 (c + 1))).tmod n)) = _
    rw [e1.out, e3.out]
  · rw [if_neg hneg]
    have hb : decide (c < 0) = false := decide_eq_false hneg
    have hd : 0 ≤ c := by omega
    clear hneg
    go_enter Try.func5, Try.ntmps5
    go_wp2
    go_ret
    exact ⟨rfl, rfl⟩

end Go.Proofs.Ytojdhnecafkibaa.Law

/- LawVotes:
  What a ballot's calls make of votes, tallies and marks. No condition: facts on lists.
-/
namespace Go.Proofs.Ytojdhnecafkibaa.Law
open Go.Proofs.Ytojdhnecafkibaa.Aut

/-- Tallies, by choices, and who has voted. -/
structure Tal (s : St) (m : Nat) (cnt : List Int) (vt : List Bool) : Prop where
  lc : cnt.length = 9
  lv : vt.length = 12
  c : ∀ x : Nat, 1 ≤ x → x ≤ 8 → cnt[x]? = some (tallyL s.votes (x : Int) : Int)
  v : ∀ i : Nat, i < m → vt[i]? = some (decide (s.votes.getD i 0 ≠ 0))

theorem right_bal {m : Int} {s : St} (h : rightS 5 1 m s = true) : s.reg = 0 ∧ s.keys = [] ∧ s.vals = [] ∧ VotesOk m s := by
  obtain ⟨_, he, _, _, h5⟩ := right_iff.1 h
  have e2 := he.2.1.resolve_left (by decide)
  exact ⟨he.1.resolve_left (by decide), e2.1, e2.2, h5 rfl⟩
theorem do_bal {m : Int} {s : St} (h : rightS 5 1 m s = true) (o : Cl) : doF 5 1 m s o = ((ballotS m s o).1, (ballotS m s o).2, 0) := by
  unfold doF
  rw [if_pos (right_fits h), if_pos h]
  unfold doS
  rw [if_neg (by decide), if_neg (show ¬ keyed 5 = true by decide)]
theorem do_close {m : Int} {s : St} (h : rightS 5 1 m s = true) : doF 5 1 m s ⟨13, 0, 0⟩ = ({ s with closed := true }, (0, bitZ (!s.closed)), 0) := by
  rw [do_bal h]; unfold ballotS; rw [if_neg (by simp), if_pos rfl]
theorem do_shut0 {m : Int} {s : St} (h : rightS 5 1 m s = true) (hc : s.closed = false) : doF 5 1 m s ⟨13, 0, 0⟩ = ({ s with closed := true }, (0, 1), 0) := by
  rw [do_close h, hc]; rfl
theorem do_shut1 {m : Int} {s : St} (h : rightS 5 1 m s = true) (hc : s.closed = true) : doF 5 1 m s ⟨13, 0, 0⟩ = (s, (0, 0), 0) := by
  obtain ⟨r, k, v, t, c⟩ := s
  rw [do_close h]; simp only at hc; subst hc; rfl
theorem do_late {m : Int} {s : St} (h : rightS 5 1 m s = true) {V X : Nat} (hV : (V : Int) < m) (h1 : 1 ≤ X) (h8 : X ≤ 8) (hc : s.closed = true) : doF 5 1 m s ⟨12, V, X⟩ = (s, (14, 0), 0) := by
  rw [do_bal h]; unfold ballotS castS; rw [if_pos rfl, if_neg (by simp only; omega), if_pos hc]
theorem do_twice {m : Int} {s : St} (h : rightS 5 1 m s = true) {V X : Nat} (hV : (V : Int) < m) (h1 : 1 ≤ X) (h8 : X ≤ 8) (hc : s.closed = false) (hv : s.votes.getD V 0 ≠ 0) : doF 5 1 m s ⟨12, V, X⟩ = (s, (13, 0), 0) := by
  rw [do_bal h]; unfold ballotS castS; rw [if_pos rfl, if_neg (by simp only; omega), if_neg (by simp [hc]), if_pos (by simpa using hv)]
theorem do_vote {m : Int} {s : St} (h : rightS 5 1 m s = true) {V X : Nat} (hV : (V : Int) < m) (h1 : 1 ≤ X) (h8 : X ≤ 8) (hc : s.closed = false) (hv : s.votes.getD V 0 = 0) : doF 5 1 m s ⟨12, V, X⟩ = ({ s with votes := s.votes.set V X }, (0, 0), 0) := by
  rw [do_bal h]; unfold ballotS castS; rw [if_pos rfl, if_neg (by simp only; omega), if_neg (by simp [hc]), if_neg (by simpa using hv)]; simp
theorem do_tally {m : Int} {s : St} (h : rightS 5 1 m s = true) {X : Nat} (h1 : 1 ≤ X) (h8 : X ≤ 8) : doF 5 1 m s ⟨14, X, 0⟩ = (s, (0, (tallyL s.votes (X : Int) : Int)), 0) := by
  rw [do_bal h]; unfold ballotS; rw [if_neg (by simp), if_neg (by simp), if_pos rfl, if_neg (by simp only; omega)]
theorem tally_set {vs : List Int} {V : Nat} (h : vs[V]? = some 0) (x y : Int) (hy : 1 ≤ y) : tallyL (vs.set V x) y = tallyL vs y + if x = y then 1 else 0 := by
  induction vs generalizing V with
  | nil => simp at h
  | cons a r ih =>
    cases V with
    | zero =>
      simp at h; subst h
      unfold tallyL
      rw [List.set_cons_zero, List.countP_cons, List.countP_cons]
      simp only [decide_eq_true_eq]
      rw [if_neg (show ¬ (0 : Int) = y by omega)]; omega
    | succ V =>
      rw [List.getElem?_cons_succ] at h
      have := ih h
      unfold tallyL at *
      rw [List.set_cons_succ, List.countP_cons, List.countP_cons, this]; omega
theorem Tal.vote {s : St} {m V X : Nat} {cnt : List Int} {vt : List Bool} (h : Tal s m cnt vt) (hm : s.votes.length = m) (hm12 : m ≤ 12) (hV : V < m) (h1 : 1 ≤ X) (h8 : X ≤ 8) (hv : s.votes.getD V 0 = 0) :
    Tal { s with votes := s.votes.set V X } m (cnt.set X ((tallyL s.votes (X : Int) : Int) + 1)) (vt.set V true) := by
  have h0 : s.votes[V]? = some 0 := by
    rw [List.getD_eq_getElem?_getD, List.getElem?_eq_getElem (by omega)] at hv
    rw [List.getElem?_eq_getElem (by omega)]; simpa using hv
  refine ⟨by rw [List.length_set]; exact h.lc, by rw [List.length_set]; exact h.lv, fun x hx1 hx8 => ?_, fun i hi => ?_⟩
  · rw [tally_set h0 _ _ (by omega)]
    by_cases e : X = x
    · subst e
      rw [List.getElem?_set_self (by rw [h.lc]; omega), if_pos rfl]; rfl
    · rw [List.getElem?_set_ne e, h.c x hx1 hx8, if_neg (by omega), Nat.add_zero]
  · by_cases e : V = i
    · subst e
      rw [List.getElem?_set_self (by rw [h.lv]; omega)]
      simp only [List.getD_eq_getElem?_getD, List.getElem?_set_self (show V < s.votes.length by omega), Option.getD_some]
      rw [decide_eq_true (show (X : Int) ≠ 0 by omega)]
    · rw [List.getElem?_set_ne e, h.v i hi]
      simp only [List.getD_eq_getElem?_getD, List.getElem?_set_ne e]
theorem Tal.close {s : St} {m : Nat} {cnt : List Int} {vt : List Bool} (h : Tal s m cnt vt) : Tal { s with closed := true } m cnt vt := ⟨h.lc, h.lv, h.c, h.v⟩
theorem tal_new (m : Nat) (hm : m ≤ 12) : Tal ⟨0, [], [], List.replicate m 0, false⟩ m (List.replicate 9 0) (List.replicate 12 false) := by
  refine ⟨by simp, by simp, fun x h1 h8 => ?_, fun i hi => ?_⟩
  · have : tallyL (List.replicate m 0) (x : Int) = 0 := by
      unfold tallyL
      rw [List.countP_eq_zero]
      intro a ha
      rw [List.eq_of_mem_replicate ha]
      simp only [decide_eq_true_eq]; omega
    rw [this, List.getElem?_replicate, if_pos (by omega)]; rfl
  · rw [List.getElem?_replicate, if_pos (by omega)]
    simp [List.getD_eq_getElem?_getD, hi]
theorem tal_bound (vs : List Int) (x : Int) : tallyL vs x ≤ vs.length := by unfold tallyL; exact List.countP_le_length

end Go.Proofs.Ytojdhnecafkibaa.Law

/- AutCb:
  Blocks that are known by their first cells, and may be written. No condition.
-/
namespace Go.Proofs.Ytojdhnecafkibaa.Aut
open Go.RowKit (Below intOf)
open Reg (cf bx)

/-- A block's first cells, which may be written. -/
structure Cb (w : World) (b : Nat) (cs : List Value) : Prop where
  lt : b < w.heap.size
  c : ∀ i v, cs[i]? = some v → w.cell? ⟨b, i, none⟩ = some v
  f : ∀ i, w.frozen? ⟨b, i, none⟩ = false
theorem Cb.ext {w w' : World} {b : Nat} {cs : List Value} (h : Cb w b cs) (e : Ext w w') : Cb w' b cs :=
  ⟨Nat.lt_of_lt_of_le h.lt e.size, fun i v hv => e.cell (h.c i v hv), fun i => (Below.frozen (p := ⟨b, i, none⟩) e h.lt).trans (h.f i)⟩
theorem Cb.new (w : World) (cs : List Value) (t : TypeId) : Cb (w.alloc (.cells cs.toArray t)) w.heap.size cs :=
  ⟨by simp, fun i v hv => by
    unfold World.cell?; rw [World.alloc_heap_new]
    simpa using hv, fun i => by unfold World.frozen?; rw [World.alloc_heap_new]; simp⟩
theorem Cb.at {X : World} {B : Nat} {cs : Array Value} {t : TypeId} (l : List Value) (hc : cs = l.toArray) (h : X.heap.size = B) : Cb (X.alloc (.cells cs t)) B l := by
  subst hc; subst h; exact Cb.new X l t
theorem Cb.alloc {w : World} {b : Nat} {cs : List Value} (h : Cb w b cs) (o : Obj) : Cb (w.alloc o) b cs := h.ext (Ext.new w o)
theorem Cb.drew {w : World} {b : Nat} {cs : List Value} (h : Cb w b cs) : Cb w.drew b cs := h.ext (Ext.drew (Ext.refl w))
theorem Cb.far {w : World} {b B : Nat} {cs : List Value} (h : Cb w b cs) (hne : b ≠ B) (i : Nat) (v : Value) : Cb (w.setCell ⟨B, i, none⟩ v) b cs :=
  ⟨by rw [World.size_setCell]; exact h.lt, fun j u hu => (cell_far hne).trans (h.c j u hu), fun j => by rw [World.frozen?_setCell]; exact h.f j⟩
theorem Cb.upd {w : World} {b : Nat} {cs : List Value} (h : Cb w b cs) {i : Nat} (hi : i < cs.length) (v : Value) : Cb (w.setCell ⟨b, i, none⟩ v) b (cs.set i v) :=
  ⟨by rw [World.size_setCell]; exact h.lt, fun j u hu => by
    by_cases e : i = j
    · subst e
      rw [List.getElem?_set_self hi] at hu
      cases hu
      exact World.cell?_setCell_same' _ _ _ (by rw [h.c i _ (List.getElem?_eq_getElem hi)]; rfl)
    · rw [List.getElem?_set_ne e] at hu
      rw [set_far (Ne.symm e)]; exact h.c j u hu, fun j => by rw [World.frozen?_setCell]; exact h.f j⟩
theorem Cb.st {w : World} {b : Nat} {x0 x1 x2 x3 x4 : Value} (h : Cb w b [x0, x1, x2, x3, x4]) (y0 y1 y2 y3 y4 : Value) : Cb (((((w.setCell ⟨b, 0, none⟩ y0).setCell ⟨b, 1, none⟩ y1).setCell ⟨b, 2, none⟩ y2).setCell ⟨b, 3, none⟩ y3).setCell ⟨b, 4, none⟩ y4) b [y0, y1, y2, y3, y4] :=
  ((((h.upd (i := 0) (by simp) y0).upd (i := 1) (by simp) y1).upd (i := 2) (by simp) y2).upd (i := 3) (by simp) y3).upd (i := 4) (by simp) y4
theorem Cb.rs {w : World} {b : Nat} {x0 x1 : Value} (h : Cb w b [x0, x1]) (y0 y1 : Value) : Cb ((w.setCell ⟨b, 0, none⟩ y0).setCell ⟨b, 1, none⟩ y1) b [y0, y1] :=
  (h.upd (i := 0) (by simp) y0).upd (i := 1) (by simp) y1
theorem Cb.two {w : World} {b : Nat} {x y : Value} (h : Cb w b [x, y]) : w.cell? ⟨b, 0, none⟩ = some x ∧ w.cell? ⟨b, 1, none⟩ = some y := ⟨h.c 0 _ rfl, h.c 1 _ rfl⟩
theorem Cb.three {w : World} {b : Nat} {x y z : Value} (h : Cb w b [x, y, z]) : w.cell? ⟨b, 0, none⟩ = some x ∧ w.cell? ⟨b, 1, none⟩ = some y ∧ w.cell? ⟨b, 2, none⟩ = some z := ⟨h.c 0 _ rfl, h.c 1 _ rfl, h.c 2 _ rfl⟩
theorem Cb.five {w : World} {b : Nat} {x y z u v : Value} (h : Cb w b [x, y, z, u, v]) : w.cell? ⟨b, 0, none⟩ = some x ∧ w.cell? ⟨b, 1, none⟩ = some y ∧ w.cell? ⟨b, 2, none⟩ = some z ∧ w.cell? ⟨b, 3, none⟩ = some u ∧ w.cell? ⟨b, 4, none⟩ = some v := ⟨h.c 0 _ rfl, h.c 1 _ rfl, h.c 2 _ rfl, h.c 3 _ rfl, h.c 4 _ rfl⟩
theorem cell_drew {w : World} {p : Addr} {v : Value} (h : w.cell? p = some v) : w.drew.cell? p = some v := h
/-- A state's cells. -/
abbrev sc (r : Int) (k v t : Sl) (cl : Bool) : List Value := [.int .u64 r, .slice k.a k.n k.c, .slice v.a v.n v.c, .slice t.a t.n t.c, .bool cl]

/-- What is written where there was no int leaves ints, what is written where there was no word leaves words. -/
theorem NS.keep {w : World} {sl : Option Addr} {n c : Nat} {xs : List Int} (h : NS w sl n c xs) {B i : Nat} (hb : ∀ x, w.cell? ⟨B, i, none⟩ ≠ some (.int .i64 x)) (v : Value) : NS (w.setCell ⟨B, i, none⟩ v) sl n c xs :=
  ⟨h.1, h.2.1, h.2.2.1, h.2.2.2.1, fun j x hj => by
    obtain ⟨u, b, o, e, hc⟩ := h.2.2.2.2 j x hj
    refine ⟨u, b, o, e, ?_⟩
    rw [World.cell?_setCell_other _ _ _ _ (fun q => by cases q; exact hb x hc)]
    exact hc⟩
theorem WS.nil_any {w w' : World} {sl : Option Addr} {n c : Nat} (h : WS w sl n c []) : WS w' sl n c [] := by
  have e : n = 0 := h.len.symm
  subst e
  exact WS.empty _ _ _ h.cle

end Go.Proofs.Ytojdhnecafkibaa.Aut

/- LanCi:
  What a register and a ballot do to a state of their own. Conditions: the state is right, and the call's words are words.
-/
namespace Go.Proofs.Ytojdhnecafkibaa.Lan
open Go.RowKit (Below intOf)
open Go.Proofs.Ytojdhnecafkibaa.Aut
open Go.Proofs.Ytojdhnecafkibaa.Reg (cf bx fits_any)

theorem ci_reg {m : Int} {s : St} {o : Cl} (ho : Wc o) : CI 1 m s o (oT 1) (oV 1 m) := by
  refine ⟨43, kE, fun w => by kernel_rfl, fun a b w => by kernel_rfl, fun W M w B a v t h => ?_⟩
  have e : doS 1 m s o = regS s o := by unfold doS; rw [if_pos rfl]
  rw [e]
  obtain ⟨c, x, y⟩ := o
  exact reg_call h.P c x y ho.2.2
theorem ci_bal {p m : Int} {s : St} {o : Cl} (hR : rightS 5 p m s = true) (ho : Wc o) : CI 5 m s o (oT 5) (oV 5 m) := by
  obtain ⟨hf, he, _, _, h5⟩ := right_iff.1 hR
  have hb := fits_of hf
  have hV := h5 rfl
  obtain ⟨n, rfl⟩ : ∃ n : Nat, m = n := ⟨m.toNat, by omega⟩
  refine ⟨95, .agg #[.int .i64 (n : Int)], fun w => by kernel_rfl, fun a b w => by kernel_rfl, fun W M w B a v t h => ?_⟩
  have e : doS 5 n s o = ballotS n s o := by unfold doS; rw [if_neg (by decide), if_neg (show ¬ keyed 5 = true by decide)]
  rw [e]
  obtain ⟨c, x, y⟩ := o
  have e2 := he.2.1.resolve_left (by decide)
  have hl := hV.1
  have hn := h.P.ss.2.2.2.len
  have hg : ∃ g, t.a = some ⟨g, 0, none⟩ ∧ W.heap.size ≤ g ∧ g < M ∧ g ≠ B ∧ ∀ i, w.frozen? ⟨g, i, none⟩ = false := by
    have hrt := h.R.rt
    rcases hrt.2 with ⟨_, hz⟩ | ⟨g, cap, cur, e, hb2, _⟩
    · omega
    · have ea : t.a = some ⟨g, 0, none⟩ := by injection e
      have hob : (Value.slice t.a t.n t.c).ownBlock = some g := by rw [ea]; rfl
      obtain ⟨m1, m2⟩ := h.m g (.inr (.inr hob))
      rw [ea] at hrt
      exact ⟨g, ea, hb2, m1, m2, fun i => hrt.frozenAt i⟩
  exact ballot_call ⟨h.P, hV, by omega, by omega, e2.1, e2.2, ho.2.1, ho.2.2, hg⟩ c

end Go.Proofs.Ytojdhnecafkibaa.Lan

/- LanIns:
  slices.Insert of one word, at the end of a row of one's own. Conditions: the words are words.
-/
namespace Go.Proofs.Ytojdhnecafkibaa.Lan
open Go.RowKit (Below intOf)
open Go.Proofs.Ytojdhnecafkibaa.Aut
open Go.Proofs.Ytojdhnecafkibaa.Reg (cf bx fits_any)

/-- append of one word onto a row of one's own. -/
theorem addWS {w : World} {base n c : Nat} {sl : Option Addr} {ys : List Int} (hown : w.ownsRow base 27 1 (.slice sl n c) n (flatWS ys)) {b : Nat} {z : Int} (hS : WS w (some ⟨b, 0, none⟩) 1 1 [z]) (hle : n + 1 ≤ 4194304) (hbase : base ≤ w.heap.size) :
    ∃ sl' c' w', RowKit.Hid ((Builtin.append_ #[28, 28] 28 #[.slice sl n c, .slice (some ⟨b, 0, none⟩) 1 1]).run Try.prog w = .ok (.slice sl' (n + 1) c') w') ∧ w'.ownsRow base 27 1 (.slice sl' (n + 1) c') (n + 1) (flatWS (ys ++ [z])) ∧ w.grownBy w' (Value.slice sl n c).ownBlock ∧
      ((Value.slice sl' (n + 1) c').ownBlock = (Value.slice sl n c).ownBlock ∨ (Value.slice sl' (n + 1) c').ownBlock = some w.heap.size) := by
  obtain ⟨i0, hi, hz0, hz1, hz2⟩ := info_parts infoWS
  obtain ⟨v', w', hrun, h2, h3, _, h5⟩ := run_append_own_at (P := Try.prog) w base 28 28 27 i0 _ 1 8 Try.underlying28 hi hz0 hz1 hz2 rfl (by decide) _ n (flatWS ys) hown ⟨b, 0, none⟩ 1 1 (flatWS [z]) (by rw [flatWS_len]; rfl) hS.news (flatWS_one [z]) (by unfold maxLen; omega) (by omega) hbase
  obtain ⟨sl', c', rfl⟩ := own_form h2
  exact ⟨sl', c', w', Lib.hid hrun, by rw [flatWS_append]; exact h2, h3, h5⟩
/-- What Insert answers. -/
def InE (w : World) (sl : Option Addr) (n c : Nat) (ys : List Int) (e : Ending) (w' : World) : Prop :=
  ∃ sl' c', e = .returned (.slice sl' (n + 1) c') ∧ WS w' sl' (n + 1) c' ys ∧ w.grownBy w' (Value.slice sl n c).ownBlock ∧ ∀ g, (Value.slice sl' (n + 1) c').ownBlock = some g → (Value.slice sl n c).ownBlock = some g ∨ w.heap.size ≤ g

set_option maxHeartbeats 1000000 in
set_option maxRecDepth 100000 in
theorem insert_end {w : World} {base n c b : Nat} {sl : Option Addr} {ys : List Int} {z : Int} (hown : w.ownsRow base 27 1 (.slice sl n c) n (flatWS ys)) (hl : ys.length = n) (hS : WS w (some ⟨b, 0, none⟩) 1 1 [z]) (hle : n ≤ 1000000) (hbase : base ≤ w.heap.size) (hu : ∀ y ∈ ys, U64 y) :
    Calls Try.prog 80 #[.slice sl n c, .int .i64 (n : Int), .slice (some ⟨b, 0, none⟩) 1 1] w (InE w sl n c (ys ++ [z])) := by
  obtain ⟨sx, cx, wx, RX, OX, GX, AX⟩ := addWS hown hS (by omega) hbase
  have hcut := fun W => slice_loWS sl n c n (Nat.le_refl _) W
  have hz : U64 z := hS.range z (List.mem_singleton.2 rfl)
  have HF : RowKit.Hid (InE w sl n c (ys ++ [z]) (.returned (.slice sx (n + 1) cx)) wx) := Lib.hid ⟨sx, cx, rfl, WS.of_own OX (by rw [List.length_append, hl]; rfl) (by omega) (fun y hy => by
    rcases List.mem_append.1 hy with h | h
    · exact hu y h
    · rw [List.mem_singleton.1 h]; exact hz), GX, fun g hg => by
      rcases AX with a | a
      · exact .inl (a ▸ hg)
      · rw [a] at hg; cases hg; exact .inr (Nat.le_refl _)⟩
  generalize cutAt 1 sl c n = ct at *
  clear hown hl hS hbase hu OX GX AX hz
  go_enter Try.func80, Try.ntmps80
  go_wp2_with (first
    | (at_builtin; refine Lib.wpList_append_run _ rfl (.tmp 23) (.tmp 24) _ _ rfl _ _ rfl rfl _ _ RX.out ?_))
  go_ret
  exact HF.out

end Go.Proofs.Ytojdhnecafkibaa.Lan

/- LanDrop:
  drop: a key is taken away. Conditions: the state lies in a box that may be written, its rows are one's own, and its keys rise.
-/
namespace Go.Proofs.Ytojdhnecafkibaa.Lan
open Go.RowKit (Below intOf)
open Go.Proofs.Ytojdhnecafkibaa.Aut
open Go.Proofs.Ytojdhnecafkibaa.Reg (cf bx fits_any)

set_option maxHeartbeats 1000000 in
set_option maxRecDepth 100000 in
theorem drop_no {k : Int} {T : TypeId} {fk fr fl B : Nat} {sl : Option Addr} {n c : Nat} {s : St} {x : Int} {w : World} (h : Ky k T fk fr fl B sl n c s x w) (m : Int) (E : Int) (hE : (mayK k x = true ∧ hitK k s.keys (meantK k x) = false ∧ E = 12) ∨ (mayK k x = false ∧ E = 10)) :
    Calls Try.prog 67 #[kd T m, .pointer (some ⟨B, 0, none⟩), .int .u64 x] w fun e w' => e = .panicked (noE E) ∧ Ext w w' := by
  have X0 := Lib.hid (Ext.new w (kb T m))
  obtain ⟨k0, k1⟩ := kb_new T m w
  have HF : RowKit.Hid (Calls Try.prog 76 #[kd T m, .pointer (some ⟨B, 0, none⟩), .int .u64 x] (w.alloc (kb T m)) fun e w' => e = .panicked (noE E) ∧ Ext (w.alloc (kb T m)) w') := Lib.hid (by
      have h' := h.ext X0.out
      rcases hE with ⟨h1, h2, rfl⟩ | ⟨h1, rfl⟩
      · exact (place_may h'.I m x B sl n c s.keys _ h'.W h'.x h'.r h'.b h1 false h2).mono fun e w' q => ⟨by have := q.1; rw [if_neg (by simp)] at this; exact this, q.2⟩
      · exact place_bad h'.I m x B _ h'.x h1)
  clear h hE
  dsimp only [kd, kb] at *
  go_enter Try.func67, Try.ntmps67
  go_wp2_with (first | (go_at_call 76; (with_reducible refine HF.out.mono ?_); rintro e w' ⟨rfl, hE⟩))
  exact ⟨rfl, rfl, X0.out.trans hE⟩

/-- What drop leaves. -/
def DrE (W : World) (M : Nat) (w : World) (B : Nat) (s : St) (a : Sl) (P : Nat) (e : Ending) (w' : World) : Prop :=
  e = .returned (.int .i64 (P : Nat)) ∧ ∃ w1 w2 g, Ext w w1 ∧ w1.grownBy w2 (some g) ∧ a.a = some ⟨g, 0, none⟩ ∧ W.heap.size ≤ g ∧ g < M ∧ WS w2 a.a (a.n - 1) a.c (withoutL s.keys P) ∧ w' = w2.setCell ⟨B, 1, none⟩ (.slice a.a (a.n - 1) a.c)

set_option maxHeartbeats 1000000 in
set_option maxRecDepth 100000 in
theorem drop_yes {W : World} {M : Nat} {w : World} {B : Nat} {s : St} {a v t : Sl} {k : Int} {T : TypeId} {fk fr fl : Nat} {x : Int} (hW : WB W M w B s a v t) (h : Ky k T fk fr fl B a.a a.n a.c s x w) (m : Int) (hm : mayK k x = true) (hh : hitK k s.keys (meantK k x) = true) (P : Nat) (hP : posK k s.keys (meantK k x) = P) (hPn : P < a.n) :
    Calls Try.prog 67 #[kd T m, .pointer (some ⟨B, 0, none⟩), .int .u64 x] w (DrE W M w B s a P) := by
  have X0 := Lib.hid (Ext.new w (kb T m))
  obtain ⟨k0, k1⟩ := kb_new T m w
  have HF : RowKit.Hid (Calls Try.prog 76 #[kd T m, .pointer (some ⟨B, 0, none⟩), .int .u64 x] (w.alloc (kb T m)) fun e w' => e = .returned (.int .i64 (P : Nat)) ∧ Ext (w.alloc (kb T m)) w') := Lib.hid (by
      have h' := h.ext X0.out
      exact (place_may h'.I m x B a.a a.n a.c s.keys _ h'.W h'.x h'.r h'.b hm true hh).mono fun e w' q => ⟨by have := q.1; rw [if_pos rfl, hP] at this; exact this, q.2⟩)
  have HD : RowKit.Hid (∀ w1, Ext w w1 → _) := Lib.hid fun w1 e => delete_any W.heap.size a.a a.n a.c s.keys P w1 (own_ext hW.R.rk e) hW.P.ss.2.1.len hW.P.ss.2.1.le hPn hW.P.ss.2.1.range
  have HB : RowKit.Hid (∀ w1, Ext w w1 → w1.cell? ⟨B, 1, none⟩ = some (.slice a.a a.n a.c) ∧ w1.frozen? ⟨B, 1, none⟩ = false) := Lib.hid fun w1 e => ⟨(hW.P.ext e).five.2.1, (hW.P.ext e).fro 1⟩
  have HG : RowKit.Hid (∀ g, a.a = some ⟨g, 0, none⟩ → W.heap.size ≤ g ∧ g < M ∧ g ≠ B) := Lib.hid fun g e => by
    have ho : (Value.slice a.a a.n a.c).ownBlock = some g := by rw [e]; rfl
    exact ⟨(hW.R.rk.lt _ ho).1, hW.m g (.inl ho)⟩
  have hPb := hW.P.ss.2.1.le
  clear hW h hm hh hP
  obtain ⟨ka, kn, kc⟩ := a
  dsimp only [kd, kb] at *
  go_enter Try.func67, Try.ntmps67
  go_wp2_with (first
    | (go_at_call 76; (with_reducible refine HF.out.mono ?_); rintro e w1 ⟨rfl, e1⟩; have E1 : RowKit.Hid (Ext w w1) := Lib.hid (X0.out.trans e1); obtain ⟨c1, c2⟩ := HB.out w1 E1.out; have HD1 := Lib.hid (HD.out w1 E1.out); clear e1 HF HD X0)
    | (go_at_call 77; (with_reducible refine HD1.out.mono ?_); rintro e w2 ⟨rfl, hws, g, rfl, hg⟩; obtain ⟨q1, q2, q3⟩ := HG.out g rfl; have d1 := hg.cell c1 (by simp; omega); have d2 := (hg.frozen_far ⟨B, 1, none⟩ (World.block_lt_of_cell? w1 _ c1) (by simp; omega)).trans c2; have HWS := Lib.hid hws; have HGr := Lib.hid hg; clear hws hg HD1 HG HB))
  go_ret
  exact ⟨rfl, w1, w2, g, E1.out, HGr.out, rfl, q1, q2, HWS.out, rfl⟩

end Go.Proofs.Ytojdhnecafkibaa.Lan

/- LanRoom:
  slices.Insert of one word into a row of one's own that has room. Conditions: the words are words.
-/
namespace Go.Proofs.Ytojdhnecafkibaa.Lan
open Go.RowKit (Below intOf)
open Go.Proofs.Ytojdhnecafkibaa.Aut
open Go.Proofs.Ytojdhnecafkibaa.Reg (cf bx fits_any)

theorem cut_lo (g o n c i : Nat) (h : i ≤ n) (hc : c ≠ i) (w : World) : (Instr.sliceAt 28 (.slice (some ⟨g, o, none⟩) n c) (some (.int .i64 (i : Int))) none none).run Try.prog w = .ok (.slice (some ⟨g, o + i, none⟩) (n - i) (c - i)) w := by
  rw [slice_loWS _ _ _ _ h]; unfold cutAt; rw [if_neg hc, Option.map_some, add_is, Nat.mul_one]
theorem setCells_get {w : World} {g o : Nat} {cs : List Value} (h : ∀ j, j < cs.length → (w.cell? ⟨g, o + j, none⟩).isSome = true) (k : Nat) : (w.setCells g o cs).cell? ⟨g, k, none⟩ = if o ≤ k ∧ k < o + cs.length then cs[k - o]? else w.cell? ⟨g, k, none⟩ := by
  by_cases c : o ≤ k ∧ k < o + cs.length
  · rw [if_pos c]
    have := World.cell?_setCells_in g cs o w h (k - o) (by omega)
    rw [show o + (k - o) = k by omega] at this
    rw [this, List.getElem?_eq_getElem]
  · rw [if_neg c]
    exact World.cell?_setCells_out g cs o w ⟨g, k, none⟩ (fun _ _ => by show k < o ∨ o + cs.length ≤ k; omega)
theorem heap_sets (g : Nat) : ∀ (cs : List Value) (o : Nat) (w : World) {b : Nat}, b ≠ g → (w.setCells g o cs).heap[b]? = w.heap[b]?
  | [], _, _, _, _ => rfl
  | v :: r, o, w, b, h => by rw [World.setCells, heap_sets g r _ _ h]; exact heap_set w g o v h
theorem size_sets (g : Nat) : ∀ (cs : List Value) (o : Nat) (w : World), (w.setCells g o cs).heap.size = w.heap.size
  | [], _, _ => rfl
  | v :: r, o, w => by rw [World.setCells, size_sets g r]; simp
theorem grown_sets (g : Nat) : ∀ (cs : List Value) (o : Nat) (w : World), w.grownBy (w.setCells g o cs) (some g)
  | [], _, w => World.grownBy.refl w _
  | v :: r, o, w => by rw [World.setCells]; exact (gr_set w g o v).trans (grown_sets g r _ _)

theorem step_copied {P : Program} (w : World) {ops : Array Oper} {o : Oper} {a : Act} {K : Act → World → Prop} {Q : Exit → Act → World → Prop} {E : Prop} (hgd : o.guard = none) (d x : Operand) (t t2 : TypeId)
    (ho : o.op = .call { callee := .builtin .copy, args := #[d, x], argTypes := #[t, t2] }) (vd vx : Value) (hd : a.eval d = vd) (hx : a.eval x = vx) (v' : Value) (w' : World) (hr : (Builtin.copy_ #[t, t2] o.type #[vd, vx]).run P w = .ok v' w') (h : K (a.put o.dst v') w') :
    if Region.wanted o (yielded ops a.tmps) = true then Oper.wp P o a w K Q else E := by
  have hw : Region.wanted o (yielded ops a.tmps) = true := by simp [Region.wanted, hgd]
  rw [if_pos hw]
  unfold Oper.wp
  simp [execOp, ho, resolve, invoke, builtin, hd, hx, hr, Result.andThen]
  exact h
set_option maxHeartbeats 2000000 in
set_option maxRecDepth 100000 in
theorem insert_room {w : World} {base n c b g i : Nat} {ys : List Int} {z : Int} (hown : w.ownsRow base 27 1 (.slice (some ⟨g, 0, none⟩) n c) n (flatWS ys)) (hl : ys.length = n) (hb : w.heap[b]? = some (.cells #[.int .u64 z] 27 (0, 0))) (hne : b ≠ g) (hle : n ≤ 1000000) (hi : i < n) (hc : n + 1 ≤ c) (hu : ∀ y ∈ ys, U64 y) (hz : U64 z) :
    Calls Try.prog 80 #[.slice (some ⟨g, 0, none⟩) n c, .int .i64 (i : Int), .slice (some ⟨b, 0, none⟩) 1 1] w (InE w (some ⟨g, 0, none⟩) n c (withL ys i z)) := by
  obtain ⟨cur, hheap, hcm, hcs, ht⟩ : ∃ cur, w.heap[g]? = some (.cells cur 27 (0, 0)) ∧ c ≤ maxLen ∧ cur.size = c * 1 ∧ cur.toList.take (n * 1) = flatWS ys := by
    rcases hown.2 with ⟨e, _⟩ | ⟨g', cap, cur, e, _, h2, _, h4, h5, h6⟩
    · cases e
    · cases e; exact ⟨cur, h2, h4, h5, h6⟩
  have hcm' : c ≤ 9223372036854775807 := by have := hcm; unfold maxLen at this; omega
  have hsome : ∀ (W : World), W.heap[g]? = w.heap[g]? → ∀ j, j < c → (W.cell? ⟨g, j, none⟩).isSome = true := fun W e j hj => by
    unfold World.cell?; simp only [e, hheap]; simp [hcs]; omega
  have hfr : ∀ j, w.frozen? ⟨g, j, none⟩ = false := fun j => hown.frozenAt j
  have hcell : ∀ j y, ys[j]? = some y → w.cell? ⟨g, j, none⟩ = some (.int .u64 y) := fun j y hy => by
    have hj := (List.getElem?_eq_some_iff.1 hy).1
    rw [hown.cellAt j (by omega), flatWS_0, hy]; rfl
  have hzc : w.cell? ⟨b, 0, none⟩ = some (.int .u64 z) := by unfold World.cell?; simp only [hb]; rfl
  have k1 := fun W => cut_lo g 0 n c i (by omega) (by omega) W
  have k2 : ∀ W, (Instr.sliceAt 28 (.slice (some ⟨g, 0, none⟩) n c) none (some (.int .i64 ((n : Int) + 1))) none).run Try.prog W = .ok (.slice (some ⟨g, 0, none⟩) (n + 1) c) W := fun W => by
    have := slice_hiWS (some ⟨g, 0, none⟩) n c (n + 1) hc W; rw [show ((n + 1 : Nat) : Int) = (n : Int) + 1 by omega] at this; exact this
  have k3 : ∀ W, (Instr.sliceAt 28 (.slice (some ⟨g, 0, none⟩) (n + 1) c) (some (.int .i64 ((i : Int) + 1))) none none).run Try.prog W = .ok (.slice (some ⟨g, i + 1, none⟩) (n - i) (c - (i + 1))) W := fun W => by
    have := cut_lo g 0 (n + 1) c (i + 1) (by omega) (by omega) W
    rw [show ((i + 1 : Nat) : Int) = (i : Int) + 1 by omega, show 0 + (i + 1) = i + 1 by omega, show n + 1 - (i + 1) = n - i by omega] at this; exact this
  have k4 : ∀ W, (Instr.sliceAt 28 (.slice (some ⟨g, 0, none⟩) (n + 1) c) (some (.int .i64 (i : Int))) none none).run Try.prog W = .ok (.slice (some ⟨g, i, none⟩) (n + 1 - i) (c - i)) W := fun W => by
    have := cut_lo g 0 (n + 1) c i (by omega) (by omega) W
    rw [Nat.zero_add] at this; exact this
  simp only [Nat.zero_add] at k1
  have hsz : (Try.prog.info? 27).map (·.size) = some 1 := by kernel_rfl
  have hov : (callFunc 81 #[.slice (some ⟨b, 0, none⟩) 1 1, .slice (some ⟨g, i + 1, none⟩) (n - i) (c - (i + 1))]).run Try.prog w = .ok (.value (.bool false)) w := by
    rw [run_callFunc_extern Try.func81 (by kernel_rfl) (by kernel_rfl) (by kernel_rfl) (e := Extern.SlicesOverlaps.overlaps #[28, 28] #[4]) (by kernel_rfl),
      Lib.run_overlaps_apart w 28 4 27 Try.underlying28 1 Try.sizeOf27 ⟨b, 0, none⟩ ⟨g, i + 1, none⟩ 1 1 (n - i) (c - (i + 1)) hne 27 27 1 c (by simp [World.shape?, hb]) (by simp [World.shape?, hheap, hcs]) (by omega) (by simp [World.frozen?, hb]) (by simp [World.frozen?, hb])]
    rfl
  have hdl : (flatWS (ys.drop i)).length = n - i := by rw [flatWS_len, List.length_drop, hl]; omega
  have c1 : RowKit.Hid (∀ ty, (Builtin.copy_ #[28, 28] ty #[.slice (some ⟨g, i + 1, none⟩) (n - i) (c - (i + 1)), .slice (some ⟨g, i, none⟩) (n + 1 - i) (c - i)]).run Try.prog w.drew = .ok (goInt (flatWS (ys.drop i)).length) (w.drew.setCells g (i + 1) (flatWS (ys.drop i)))) := Lib.hid fun ty =>
    run_copy_cells w.drew 28 28 ty 27 g (i + 1) (n - i) (c - (i + 1)) ⟨g, i, none⟩ (n + 1 - i) (c - i) (flatWS (ys.drop i)) Try.underlying28 hsz (by rw [hdl]; exact (Nat.min_eq_right (by omega)).symm) (fun j u hj => by
      rw [flatWS_0] at hj
      obtain ⟨y, hy, rfl⟩ := Option.map_eq_some_iff.1 hj
      rw [List.getElem?_drop] at hy
      rw [add_is]; exact hcell _ _ hy) (fun j hj => hsome w.drew rfl _ (by omega)) (fun j _ => hfr _) (flatWS_one _)
  have hz2 : (w.drew.setCells g (i + 1) (flatWS (ys.drop i))).cell? ⟨b, 0, none⟩ = some (.int .u64 z) := by
    rw [World.cell?_setCells_out g _ _ _ ⟨b, 0, none⟩ (fun e => absurd e hne)]; exact hzc
  have hs2 : ∀ j, j < c → ((w.drew.setCells g (i + 1) (flatWS (ys.drop i))).cell? ⟨g, j, none⟩).isSome = true := fun j hj => by
    rw [setCells_get (fun q hq => hsome w.drew rfl _ (by omega))]
    split
    · rename_i h; rw [List.getElem?_eq_getElem (by omega)]; rfl
    · exact hsome w.drew rfl j hj
  have c2 : RowKit.Hid (∀ ty, (Builtin.copy_ #[28, 28] ty #[.slice (some ⟨g, i, none⟩) (n + 1 - i) (c - i), .slice (some ⟨b, 0, none⟩) 1 1]).run Try.prog (w.drew.setCells g (i + 1) (flatWS (ys.drop i))) = .ok (goInt 1) ((w.drew.setCells g (i + 1) (flatWS (ys.drop i))).setCells g i [.int .u64 z])) := Lib.hid fun ty =>
    run_copy_cells _ 28 28 ty 27 g i (n + 1 - i) (c - i) ⟨b, 0, none⟩ 1 1 [.int .u64 z] Try.underlying28 hsz (by show 1 = Nat.min 1 (n + 1 - i); exact (Nat.min_eq_left (by omega)).symm) (fun j u hj => by
      rcases j with _ | j
      · simp at hj; subst hj; rw [add_is]; exact hz2
      · simp at hj) (fun j hj => hs2 _ (by simp at hj; omega)) (fun j _ => by rw [World.frozen?_setCells]; exact hfr _) (fun u hu' => by rw [List.mem_singleton.1 hu']; rfl)
  have HF : RowKit.Hid (InE w (some ⟨g, 0, none⟩) n c (withL ys i z) (.returned (.slice (some ⟨g, 0, none⟩) (n + 1) c)) ((w.drew.setCells g (i + 1) (flatWS (ys.drop i))).setCells g i [.int .u64 z])) := Lib.hid (by
    refine ⟨some ⟨g, 0, none⟩, c, rfl, ⟨by rw [with_len _ _ _ (by omega), hl], by omega, hc, hcm', fun j y hj => ?_⟩, ?_, fun q hq => .inl hq⟩
    · refine ⟨?_, g, 0, rfl, ?_⟩
      · rcases mem_with.1 (List.mem_of_getElem? hj) with h | h
        · rw [h]; exact hz
        · exact hu y h
      · rw [Nat.zero_add, setCells_get (fun q hq => hs2 _ (by simp at hq; omega)), setCells_get (fun q hq => hsome w.drew rfl _ (by omega))]
        rw [with_get _ _ _ (by omega)] at hj
        simp only [List.length_singleton, hdl]
        by_cases e1 : j < i
        · rw [if_pos e1] at hj
          rw [if_neg (by omega), if_neg (by omega)]; exact hcell j y hj
        · rw [if_neg e1] at hj
          by_cases e2 : j = i
          · rw [if_pos e2] at hj; cases hj
            rw [if_pos (by omega), e2, Nat.sub_self]; rfl
          · rw [if_neg e2] at hj
            have hjl := (List.getElem?_eq_some_iff.1 hj).1
            rw [if_neg (by omega), if_pos (by omega), flatWS_0, List.getElem?_drop, show i + (j - (i + 1)) = j - 1 by omega, hj]; rfl
    · have := (grown_sets g (flatWS (ys.drop i)) (i + 1) w.drew).trans (grown_sets g [.int .u64 z] i _)
      exact ⟨this.os, this.tape, this.output, this.size, fun q hq hn => this.block q hq hn⟩)
  have w1 : RowKit.wrap64 ((i : Int) + 1) = (i : Int) + 1 := by simp only [RowKit.wrap64]; omega
  have w2 : IntKind.i64.wrap ((i : Int) + 1) = (i : Int) + 1 := by simp only [IntKind.wrap_i64]; omega
  have b1 : ((i : Int) == (n : Int)) = false := beq_eq_false_iff_ne.2 (by omega)
  have b2 : decide ((c : Int) < (n : Int) + 1) = false := decide_eq_false (by omega)
  generalize flatWS (ys.drop i) = cs1 at *
  clear hown hl hb hu hz hheap hcs ht hsome hfr hcell hzc hsz hz2 hs2 hcm
  go_enter Try.func80, Try.ntmps80
  go_wp2_with (fail)
  have hne2 : ¬ c = i + 1 := by omega
  have hne3 : ¬ c = i := by omega
  have hle3 : (i : Int) + 1 ≤ (n : Int) + 1 := by omega
  go_region_held3 (fun _ => True)
    (first | trivial | go_keep)
    (first
      | (refine step_copied w.drew (by rfl) (.tmp 73) (.tmp 76) 28 28 (by rfl) _ _ (by rfl) (by rfl) _ _ (c1.out _) ?_))
  have c2x := c2.out 3
  go_wp2_with (fail)
  go_ret
  exact HF.out

end Go.Proofs.Ytojdhnecafkibaa.Lan

/- LanFull:
  insert of a key where there is no room. Conditions: the state lies where it is said to.
-/
namespace Go.Proofs.Ytojdhnecafkibaa.Lan
open Go.RowKit (Below intOf)
open Go.Proofs.Ytojdhnecafkibaa.Aut
open Go.Proofs.Ytojdhnecafkibaa.Reg (cf bx fits_any)

set_option maxHeartbeats 1000000 in
set_option maxRecDepth 100000 in
theorem insert_full {T : TypeId} {B : Nat} {sl : Option Addr} {n c : Nat} {w : World} (hb : w.cell? ⟨B, 1, none⟩ = some (.slice sl n c)) (m : Int) (i x : Int) (hm : m ≤ (n : Int)) :
    Calls Try.prog 75 #[kd T m, .pointer (some ⟨B, 0, none⟩), .int .i64 i, .int .u64 x] w fun e w' => e = .panicked (noE 11) ∧ Ext w w' := by
  have X0 := Lib.hid (Ext.new w (kb T m))
  obtain ⟨k0, k1⟩ := kb_new T m w
  have hb1 : (w.alloc (kb T m)).cell? ⟨B, 1, none⟩ = some (.slice sl n c) := box_alloc hb
  have hge : decide (m ≤ (n : Int)) = true := decide_eq_true hm
  have k01 := And.intro k0 (And.intro k1 hb1)
  clear hb
  dsimp only [kd, kb] at *
  go_enter Try.func75, Try.ntmps75
  go_wp2_with (fail)
  refine wp_region_held_drew (S := fun w' => w'.cell? ⟨w.heap.size, 0, none⟩ = some (.iface T kE) ∧ w'.cell? ⟨w.heap.size, 1, none⟩ = some (.int .i64 m) ∧ w'.cell? ⟨B, 1, none⟩ = some (.slice sl n c)) (by kernel_rfl) k01 (fun hHeld => ?_)
  refine wpAnyH_take (i := 0) (v := .pointer (some ⟨B, 0, none⟩)) rfl (by kernel_rfl) (by kernel_rfl) (by kernel_rfl) (fun _ _ _ h => h) (Or.inl ⟨by rfl, ?_⟩) (by assumption) ?_
  · rintro w ⟨h1, h2, h3⟩
    go_simp
  refine wpAnyH_take (i := 1) (v := .pointer (some ⟨B, 0, none⟩)) rfl (by kernel_rfl) (by kernel_rfl) (by kernel_rfl) (fun _ _ _ h => h) (Or.inl ⟨by rfl, ?_⟩) (by assumption) ?_
  · rintro w ⟨h1, h2, h3⟩
    go_simp
  refine wpAnyH_take (i := 2) (v := .pointer (some ⟨B, 1, none⟩)) rfl (by kernel_rfl) (by kernel_rfl) (by kernel_rfl) (fun _ _ _ h => h) (Or.inl ⟨by rfl, ?_⟩) (by assumption) ?_
  · rintro w ⟨h1, h2, h3⟩
    go_simp
  refine wpAnyH_take (i := 3) (v := .slice sl n c) rfl (by kernel_rfl) (by kernel_rfl) (by kernel_rfl) (fun _ _ _ h => h) (Or.inl ⟨by rfl, ?_⟩) (by assumption) ?_
  · rintro w ⟨h1, h2, h3⟩
    go_simp
  refine wpAnyH_take (i := 4) (v := .int .i64 (n : Int)) rfl (by kernel_rfl) (by kernel_rfl) (by kernel_rfl) (fun _ _ _ h => h) (Or.inl ⟨by rfl, ?_⟩) (by assumption) ?_
  · rintro w ⟨h1, h2, h3⟩
    go_simp
  refine wpAnyH_take (i := 5) (v := .pointer (some ⟨w.heap.size, 1, none⟩)) rfl (by kernel_rfl) (by kernel_rfl) (by kernel_rfl) (fun _ _ _ h => h) (Or.inl ⟨by rfl, ?_⟩) (by assumption) ?_
  · rintro w ⟨h1, h2, h3⟩
    go_simp
  refine wpAnyH_take (i := 6) (v := .int .i64 m) rfl (by kernel_rfl) (by kernel_rfl) (by kernel_rfl) (fun _ _ _ h => h) (Or.inl ⟨by rfl, ?_⟩) (by assumption) ?_
  · rintro w ⟨h1, h2, h3⟩
    go_simp
  refine wpAnyH_take (i := 7) (v := .bool true) rfl (by kernel_rfl) (by kernel_rfl) (by kernel_rfl) (fun _ _ _ h => h) (Or.inl ⟨by rfl, ?_⟩) (by assumption) ?_
  · rintro w ⟨h1, h2, h3⟩
    go_simp
  refine wpAnyH_ready (rs := [8]) (by kernel_rfl) (by simp) ?_
  refine AllReadyH.cons rfl (fun K hK => ?_) AllReadyH.nil
  go_simp
  refine (refuse_yes _ _).mono ?_
  rintro e w' ⟨rfl, rfl⟩
  exact ⟨rfl, rfl, by repeat (first | exact X0.out | refine Ext.alloc ?_ _ | refine Ext.drew ?_)⟩

end Go.Proofs.Ytojdhnecafkibaa.Lan

/- LanPut:
  insert of a key where there is room. Conditions: the state lies in a box that may be written, apart from its keys, and what slices.Insert answers.
-/
namespace Go.Proofs.Ytojdhnecafkibaa.Lan
open Go.RowKit (Below intOf)
open Go.Proofs.Ytojdhnecafkibaa.Aut
open Go.Proofs.Ytojdhnecafkibaa.Reg (cf bx fits_any)

theorem refuse_q (x : Int) (w : World) (m : Nat) : Calls Try.prog 69 #[.bool false, .int .i64 x] (w.drewN m) fun e w' => e = .returned (.tuple #[]) ∧ ∃ j, w' = w.drewN j :=
  (refuse_no x (w.drewN m)).mono fun _ _ h => ⟨h.1, m, h.2.symm⟩
/-- The world in which Insert is called. -/
abbrev insW (w : World) (T : TypeId) (m x : Int) (q : Nat) : World := ((w.alloc (kb T m)).drewN q).alloc (.cells #[.int .u64 x] 27)

set_option maxHeartbeats 1000000 in
set_option maxRecDepth 100000 in
theorem insert_ok {T : TypeId} {B : Nat} {sl : Option Addr} {n c : Nat} {w : World} (hb : w.cell? ⟨B, 1, none⟩ = some (.slice sl n c)) (hfz : w.frozen? ⟨B, 1, none⟩ = false) (hB : (Value.slice sl n c).ownBlock ≠ some B) (m : Int) (i : Nat) (x : Int) (ys : List Int) (hm : (n : Int) < m)
    (HI : ∀ q, Calls Try.prog 80 #[.slice sl n c, .int .i64 (i : Int), .slice (some ⟨w.heap.size + 1, 0, none⟩) 1 1] (insW w T m x q) (InE (insW w T m x q) sl n c ys)) :
    Calls Try.prog 75 #[kd T m, .pointer (some ⟨B, 0, none⟩), .int .i64 (i : Int), .int .u64 x] w fun e w' => e = .returned (.tuple #[]) ∧ ∃ q w2 sl' c', WS w2 sl' (n + 1) c' ys ∧ (insW w T m x q).grownBy w2 (Value.slice sl n c).ownBlock ∧ (∀ g, (Value.slice sl' (n + 1) c').ownBlock = some g → (Value.slice sl n c).ownBlock = some g ∨ (insW w T m x q).heap.size ≤ g) ∧ w' = w2.setCell ⟨B, 1, none⟩ (.slice sl' (n + 1) c') := by
  obtain ⟨k0, k1⟩ := kb_new T m w
  have hb1 : (w.alloc (kb T m)).cell? ⟨B, 1, none⟩ = some (.slice sl n c) := box_alloc hb
  have hb2 : RowKit.Hid (∀ q, (insW w T m x q).cell? ⟨B, 1, none⟩ = some (.slice sl n c)) := Lib.hid fun q => box_alloc hb1
  have hf2 : RowKit.Hid (∀ q, (insW w T m x q).frozen? ⟨B, 1, none⟩ = false) := Lib.hid fun q => fro_alloc hb1 (fro_alloc hb hfz)
  have hge : decide (m ≤ (n : Int)) = false := decide_eq_false (by omega)
  have H := Lib.hid HI
  have HB := Lib.hid hB
  clear hb hfz HI hB
  dsimp only [kd, kb, insW] at *
  go_enter Try.func75, Try.ntmps75
  go_wp2_with (fail)
  go_quiet (first | (go_at_call 69; exact refuse_q _ _ _))
  go_wp2_with (first
    | (go_at_call 80; (with_reducible refine (H.out _).mono ?_); rintro e w2 ⟨sl', c', rfl, hws, hg, hx⟩; have d1 := hg.cell (hb2.out _) (fun e => HB.out e.symm); have d2 := (hg.frozen_far ⟨B, 1, none⟩ (World.block_lt_of_cell? _ _ (hb2.out _)) (fun e => HB.out e.symm)).trans (hf2.out _); have HWS := Lib.hid hws; have HG := Lib.hid hg; have HX := Lib.hid hx; clear hws hg hx H hb2 hf2))
  go_end0
  exact ⟨rfl, _, w2, sl', c', HWS.out, HG.out, HX.out, rfl⟩

end Go.Proofs.Ytojdhnecafkibaa.Lan

/- LanGrow:
  slices.Insert of one word into a row of one's own that has no room. Conditions: the words are words.
-/
namespace Go.Proofs.Ytojdhnecafkibaa.Lan
open Go.RowKit (Below intOf)
open Go.Proofs.Ytojdhnecafkibaa.Aut
open Go.Proofs.Ytojdhnecafkibaa.Reg (cf bx fits_any)

set_option maxHeartbeats 2000000 in
set_option maxRecDepth 100000 in
theorem insert_grow {w : World} {base n b g i : Nat} {ys : List Int} {z : Int} (hown : w.ownsRow base 27 1 (.slice (some ⟨g, 0, none⟩) n n) n (flatWS ys)) (hl : ys.length = n) (hb : w.heap[b]? = some (.cells #[.int .u64 z] 27 (0, 0))) (hle : n ≤ 1000000) (hi : i < n) (hu : ∀ y ∈ ys, U64 y) (hz : U64 z) :
    Calls Try.prog 80 #[.slice (some ⟨g, 0, none⟩) n n, .int .i64 (i : Int), .slice (some ⟨b, 0, none⟩) 1 1] w (InE w (some ⟨g, 0, none⟩) n n (withL ys i z)) := by
  have w1 : RowKit.wrap64 ((i : Int) + 1) = (i : Int) + 1 := by simp only [RowKit.wrap64]; omega
  have w2 : IntKind.i64.wrap ((i : Int) + 1) = (i : Int) + 1 := by simp only [IntKind.wrap_i64]; omega
  have b1 : ((i : Int) == (n : Int)) = false := beq_eq_false_iff_ne.2 (by omega)
  have b2 : decide ((n : Int) < (n : Int) + 1) = true := decide_eq_true (by omega)
  have hg : g < w.heap.size := (hown.lt g rfl).2
  have hbl : b < w.heap.size := (Array.getElem?_eq_some_iff.1 hb).1
  have hcell : ∀ j y, ys[j]? = some y → w.cell? ⟨g, j, none⟩ = some (.int .u64 y) := fun j y hy => by
    have hj := (List.getElem?_eq_some_iff.1 hy).1
    rw [hown.cellAt j (by omega), flatWS_0, hy]; rfl
  have hzc : w.cell? ⟨b, 0, none⟩ = some (.int .u64 z) := by unfold World.cell?; simp only [hb]; rfl
  obtain ⟨i0, hi0, hz0, hz1, hz2⟩ := info_parts infoWS
  have htl : (flatWS (ys.take i)).length = i := by rw [flatWS_len, List.length_take, hl]; omega
  have hf : (Builtin.firstCells i0.size i (.slice (some ⟨g, 0, none⟩) i n)).run Try.prog w.drew = .ok (flatWS (ys.take i)).toArray w.drew := run_firstCells_some w.drew i0.size i ⟨g, 0, none⟩ i n _ (by rw [hz1, htl, Nat.mul_one]) (fun j v hj => by
    rw [flatWS_0] at hj
    obtain ⟨y, hy, rfl⟩ := Option.map_eq_some_iff.1 hj
    rw [List.getElem?_take] at hy
    split at hy
    · rw [add_is, Nat.zero_add]; exact hcell _ _ hy
    · cases hy)
  have hrz := Lib.run_append_grow_zeros (P := Try.prog) w 28 3 28 27 i0 _ .i64 .i64 Try.underlying28 Try.underlying3 hi0 hz0 (some ⟨g, 0, none⟩) i n (flatWS (ys.take i)) hf (n + 1 - i) (by omega) (by omega) (by omega) (by omega) (by rw [hz2]; omega) (by rw [hz2]; exact growslice_fits (by omega) (by omega))
  have hin : i + (n + 1 - i) = n + 1 := by omega
  rw [hin, show ((n + 1 - i : Nat) : Int) = (n : Int) + 1 - (i : Int) by omega] at hrz
  have hG := grownCap_ge w (n + 1) n 27
  have hGm := grownCap_le_maxLen w (n + 1) n 27 (by unfold maxLen; omega)
  obtain ⟨C, eC⟩ : ∃ C, grownCap w (n + 1) n 27 = C := ⟨_, rfl⟩
  rw [eC] at hrz hG hGm
  have hcm' : C ≤ 9223372036854775807 := by have := hGm; unfold maxLen at this; omega
  clear hGm eC
  obtain ⟨cs0, ecs0⟩ : ∃ cs0, (flatWS (ys.take i)).toArray ++ Builtin.zeroCells (Value.int .u64 0).cells (n + 1 - i) ++ Builtin.zeroCells (Value.int .u64 0).cells (C - (n + 1)) = cs0 := ⟨_, rfl⟩
  rw [ecs0] at hrz
  have hcs : cs0.size = C := by
    rw [← ecs0, Array.size_append, Array.size_append, size_zeroCells, size_zeroCells, List.size_toArray, htl]
    simp [Value.cells]; omega
  have hlow : ∀ j y, j < i → ys[j]? = some y → cs0[j]? = some (.int .u64 y) := fun j y hj hy => by
    rw [← ecs0, Array.getElem?_append_left (by rw [Array.size_append, List.size_toArray, htl]; omega), Array.getElem?_append_left (by rw [List.size_toArray, htl]; omega), List.getElem?_toArray, flatWS_0, List.getElem?_take, if_pos hj, hy]; rfl
  clear ecs0 hf
  have hH : ((w.alloc (.cells cs0 27)).drew).heap[w.heap.size]? = some (.cells cs0 27 (0, 0)) := World.alloc_heap_new w _
  have hE : Ext w ((w.alloc (.cells cs0 27)).drew) := Ext.drew (Ext.new w _)
  have hc1 : ∀ j, ((w.alloc (.cells cs0 27)).drew).cell? ⟨w.heap.size, j, none⟩ = cs0[j]? := fun j => by unfold World.cell?; simp only [hH]; rfl
  have hsome : ∀ j, j < C → (((w.alloc (.cells cs0 27)).drew).cell? ⟨w.heap.size, j, none⟩).isSome = true := fun j hj => by
    rw [hc1, Array.getElem?_eq_getElem (by omega)]; rfl
  have hfr : ∀ j, ((w.alloc (.cells cs0 27)).drew).frozen? ⟨w.heap.size, j, none⟩ = false := fun j => by unfold World.frozen?; simp only [hH]; rfl
  have k0 : ∀ W, (Instr.sliceAt 28 (.slice (some ⟨g, 0, none⟩) n n) none (some (.int .i64 (i : Int))) none).run Try.prog W = .ok (.slice (some ⟨g, 0, none⟩) i n) W := fun W => slice_hiWS (some ⟨g, 0, none⟩) n n i (by omega) W
  have k1 : ∀ W, (Instr.sliceAt 28 (.slice (some ⟨g, 0, none⟩) n n) (some (.int .i64 (i : Int))) none none).run Try.prog W = .ok (.slice (some ⟨g, i, none⟩) (n - i) (n - i)) W := fun W => by
    have := cut_lo g 0 n n i (by omega) (by omega) W; rw [Nat.zero_add] at this; exact this
  have k3 : ∀ W, (Instr.sliceAt 28 (.slice (some ⟨w.heap.size, 0, none⟩) (n + 1) C) (some (.int .i64 ((i : Int) + 1))) none none).run Try.prog W = .ok (.slice (some ⟨w.heap.size, i + 1, none⟩) (n - i) (C - (i + 1))) W := fun W => by
    have := cut_lo w.heap.size 0 (n + 1) C (i + 1) (by omega) (by omega) W
    rw [show ((i + 1 : Nat) : Int) = (i : Int) + 1 by omega, show 0 + (i + 1) = i + 1 by omega, show n + 1 - (i + 1) = n - i by omega] at this; exact this
  have k4 : ∀ W, (Instr.sliceAt 28 (.slice (some ⟨w.heap.size, 0, none⟩) (n + 1) C) (some (.int .i64 (i : Int))) none none).run Try.prog W = .ok (.slice (some ⟨w.heap.size, i, none⟩) (n + 1 - i) (C - i)) W := fun W => by
    have := cut_lo w.heap.size 0 (n + 1) C i (by omega) (by omega) W
    rw [Nat.zero_add] at this; exact this
  have hsz : (Try.prog.info? 27).map (·.size) = some 1 := by kernel_rfl
  have c1 : RowKit.Hid (∀ ty, (Builtin.copy_ #[28, 28] ty #[.slice (some ⟨w.heap.size, i, none⟩) (n + 1 - i) (C - i), .slice (some ⟨b, 0, none⟩) 1 1]).run Try.prog ((w.alloc (.cells cs0 27)).drew) = .ok (goInt 1) (((w.alloc (.cells cs0 27)).drew).setCells w.heap.size i [.int .u64 z])) := Lib.hid fun ty =>
    run_copy_cells _ 28 28 ty 27 w.heap.size i (n + 1 - i) (C - i) ⟨b, 0, none⟩ 1 1 [.int .u64 z] Try.underlying28 hsz (by show 1 = Nat.min 1 (n + 1 - i); exact (Nat.min_eq_left (by omega)).symm) (fun j u hj => by
      rcases j with _ | j
      · simp at hj; subst hj; rw [add_is]; exact hE.cell hzc
      · simp at hj) (fun j hj => hsome _ (by simp at hj; omega)) (fun j _ => hfr _) (fun u hu' => by rw [List.mem_singleton.1 hu']; rfl)
  have hs2 : ∀ j, j < C → ((((w.alloc (.cells cs0 27)).drew).setCells w.heap.size i [.int .u64 z]).drew.cell? ⟨w.heap.size, j, none⟩).isSome = true := fun j hj => by
    show ((((w.alloc (.cells cs0 27)).drew).setCells w.heap.size i [.int .u64 z]).cell? ⟨w.heap.size, j, none⟩).isSome = true
    rw [setCells_get (fun q hq => hsome _ (by simp at hq; omega))]
    split
    · rename_i h; rw [List.getElem?_eq_getElem (by omega)]; rfl
    · exact hsome j hj
  have hdl : (flatWS (ys.drop i)).length = n - i := by rw [flatWS_len, List.length_drop, hl]; omega
  have c2 : RowKit.Hid (∀ ty, (Builtin.copy_ #[28, 28] ty #[.slice (some ⟨w.heap.size, i + 1, none⟩) (n - i) (C - (i + 1)), .slice (some ⟨g, i, none⟩) (n - i) (n - i)]).run Try.prog (((w.alloc (.cells cs0 27)).drew).setCells w.heap.size i [.int .u64 z]).drew = .ok (goInt (flatWS (ys.drop i)).length) ((((w.alloc (.cells cs0 27)).drew).setCells w.heap.size i [.int .u64 z]).drew.setCells w.heap.size (i + 1) (flatWS (ys.drop i)))) := Lib.hid fun ty =>
    run_copy_cells _ 28 28 ty 27 w.heap.size (i + 1) (n - i) (C - (i + 1)) ⟨g, i, none⟩ (n - i) (n - i) (flatWS (ys.drop i)) Try.underlying28 hsz (by rw [hdl]; exact (Nat.min_self _).symm) (fun j u hj => by
      rw [flatWS_0] at hj
      obtain ⟨y, hy, rfl⟩ := Option.map_eq_some_iff.1 hj
      rw [List.getElem?_drop] at hy
      rw [add_is]
      show (((w.alloc (.cells cs0 27)).drew).setCells w.heap.size i [.int .u64 z]).cell? _ = _
      rw [World.cell?_setCells_out _ _ _ _ ⟨g, i + j, none⟩ (fun e => absurd e (by show g ≠ w.heap.size; omega))]
      exact hE.cell (hcell _ _ hy)) (fun j hj => hs2 _ (by omega)) (fun j _ => by
        show (((w.alloc (.cells cs0 27)).drew).setCells w.heap.size i [.int .u64 z]).frozen? _ = _
        rw [World.frozen?_setCells]; exact hfr _) (flatWS_one _)
  have HF : RowKit.Hid (InE w (some ⟨g, 0, none⟩) n n (withL ys i z) (.returned (.slice (some ⟨w.heap.size, 0, none⟩) (n + 1) C)) ((((w.alloc (.cells cs0 27)).drew).setCells w.heap.size i [.int .u64 z]).drew.setCells w.heap.size (i + 1) (flatWS (ys.drop i)))) := Lib.hid (by
    refine ⟨some ⟨w.heap.size, 0, none⟩, C, rfl, ⟨by rw [with_len _ _ _ (by omega), hl], by omega, hG, hcm', fun j y hj => ?_⟩, ?_, fun q hq => .inr (by cases hq; exact Nat.le_refl _)⟩
    · refine ⟨?_, w.heap.size, 0, rfl, ?_⟩
      · rcases mem_with.1 (List.mem_of_getElem? hj) with h | h
        · rw [h]; exact hz
        · exact hu y h
      · have hjl := (List.getElem?_eq_some_iff.1 hj).1
        rw [with_len _ _ _ (by omega), hl] at hjl
        rw [Nat.zero_add, setCells_get (fun q hq => hs2 _ (by omega))]
        rw [with_get _ _ _ (by omega)] at hj
        simp only [hdl]
        by_cases e1 : j < i
        · rw [if_pos e1] at hj
          rw [if_neg (by omega)]
          show (((w.alloc (.cells cs0 27)).drew).setCells w.heap.size i [.int .u64 z]).cell? _ = _
          rw [setCells_get (fun q hq => hsome _ (by simp at hq; omega)), if_neg (by omega), hc1]; exact hlow j y e1 hj
        · rw [if_neg e1] at hj
          by_cases e2 : j = i
          · rw [if_pos e2] at hj; cases hj
            rw [if_neg (by omega)]
            show (((w.alloc (.cells cs0 27)).drew).setCells w.heap.size i [.int .u64 z]).cell? _ = _
            rw [setCells_get (fun q hq => hsome _ (by simp at hq; omega)), if_pos (by simp; omega), e2, Nat.sub_self]; rfl
          · rw [if_neg e2] at hj
            rw [if_pos (by omega), flatWS_0, List.getElem?_drop, show i + (j - (i + 1)) = j - 1 by omega, hj]; rfl
    · have t1 := grown_sets w.heap.size [.int .u64 z] i ((w.alloc (.cells cs0 27)).drew)
      have t2 := grown_sets w.heap.size (flatWS (ys.drop i)) (i + 1) (((w.alloc (.cells cs0 27)).drew).setCells w.heap.size i [.int .u64 z]).drew
      refine ⟨t2.os.trans t1.os, t2.tape.trans t1.tape, t2.output.trans t1.output, Nat.le_trans hE.size (Nat.le_trans t1.size t2.size), fun q hq _ => ?_⟩
      rw [heap_sets _ _ _ _ (by omega)]
      show (((w.alloc (.cells cs0 27)).drew).setCells w.heap.size i [.int .u64 z]).heap[q]? = _
      rw [heap_sets _ _ _ _ (by omega)]
      exact hE.block q hq)
  have c1x := c1.out 3
  have HZ := Lib.hid hrz
  generalize flatWS (ys.drop i) = cs1 at *
  clear hown hl hb hu hz hcell hzc hrz hsz hs2 hcs hlow hH hE hc1 hsome hfr c1 htl hz0 hz1 hz2 hi0 hdl
  go_enter Try.func80, Try.ntmps80
  go_wp2_with (first
    | (at_builtin; refine Lib.wpList_append_run _ rfl (.tmp 34) (.tmp 39) _ _ rfl _ _ rfl rfl _ _ HZ.out ?_))
  have hne2 : ¬ C = i + 1 := by omega
  have hne3 : ¬ C = i := by omega
  have hle3 : (i : Int) + 1 ≤ (n : Int) + 1 := by omega
  go_region_held3 (fun _ => True)
    (first | trivial | go_keep)
    (first
      | (refine step_copied _ (by rfl) (.tmp 50) (.tmp 53) 28 28 (by rfl) _ _ (by rfl) (by rfl) _ _ (c2.out _) ?_))
  go_wp2_with (fail)
  go_ret
  exact HF.out

end Go.Proofs.Ytojdhnecafkibaa.Lan

