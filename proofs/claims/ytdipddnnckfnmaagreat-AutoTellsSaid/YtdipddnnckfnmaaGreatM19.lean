/-
  Parts of a proof, one behind the other: LanBal, LanBall, LanShelf, LanOwn, LanCopy. Each says its own conditions.
-/
import Derived.Test.YtdipddnnckfnmaaGreatM18
import Derived.Shelf.SlCmpFuncs.BinarySearchFunc
import Derived.Shelf.SlCmpFuncs.None
import Derived.Shelf.SlicesE.Delete
import Derived.Shelf.SlicesE.Clone
import Derived.Shelf.SlicesQ.Equal
import Derived.Ground.SlsgProg
import Derived.Ground.SlgnProg
import Derived.Ground.SlgqProg
import Derived.Shelf.SlGeneric
import Derived.Test.YtdipddnnckfnmaaGreatProg

/- LanBal:
  What a call does to a ballot, and tells. Conditions: the state lies in a box that may be written, and so do its votes.
-/
namespace Go.Proofs.YtdipddnnckfnmaaGreat.Lan
open Go.RowKit (Below intOf)
open Go.Proofs.YtdipddnnckfnmaaGreat.Aut
open Go.Proofs.YtdipddnnckfnmaaGreat.Reg (cf bx fits_any)

theorem ns_upd {w : World} {g n c i : Nat} {x : Int} {xs : List Int} (h : NS w (some ⟨g, 0, none⟩) n c xs) (hi : i < n) (hx : I64 x) : NS (w.setCell ⟨g, i, none⟩ (.int .i64 x)) (some ⟨g, 0, none⟩) n c (xs.set i x) := by
  refine ⟨by rw [List.length_set]; exact h.1, h.2.1, h.2.2.1, h.2.2.2.1, fun j y hj => ?_⟩
  by_cases e : i = j
  · subst e
    rw [List.getElem?_set_self (by rw [h.1]; exact hi)] at hj
    cases hj
    obtain ⟨z, _, _, b, o, e0, hc⟩ := h.get hi
    cases e0
    rw [Nat.zero_add] at hc
    exact ⟨hx, g, 0, rfl, by rw [Nat.zero_add]; exact World.cell?_setCell_same' _ _ _ (by rw [hc]; rfl)⟩
  · rw [List.getElem?_set_ne e] at hj
    obtain ⟨hu, b, o, e0, hc⟩ := h.2.2.2.2 j y hj
    cases e0
    exact ⟨hu, g, 0, rfl, by rw [set_far (by omega)]; exact hc⟩
theorem choice_yes (x : Int) (w : World) (h1 : 1 ≤ x) (h8 : x ≤ 8) : Calls Tryz.prog 152 #[.int .u64 x] w fun e w' => e = .returned (.int .i64 x) ∧ w = w' := by
  have b1 : ¬ x < 1 := by omega
  have b2 : ¬ 8 < x := by omega
  have b3 : decide (x < 1) = false := decide_eq_false b1
  have b4 : decide (8 < x) = false := decide_eq_false b2
  have b5 : IntKind.i64.wrap x = x := by simp only [IntKind.wrap_i64]; omega
  go_enter Tryz.func152, Tryz.ntmps152
  go_wp2_with (first | (go_at_call 119; with_reducible refine (refuse_no _ _).mono ?_; rintro e w' ⟨rfl, rfl⟩))
  go_ret
  first | exact ⟨rfl, rfl⟩ | (rw [b5]; exact ⟨rfl, rfl⟩)
theorem choice_no (x : Int) (w : World) (h : x < 1 ∨ 8 < x) : Calls Tryz.prog 152 #[.int .u64 x] w fun e w' => e = .panicked (noE 10) ∧ w = w' := by
  by_cases c : x < 1
  · have b3 : decide (x < 1) = true := decide_eq_true c
    clear h
    go_enter Tryz.func152, Tryz.ntmps152
    go_wp2_with (first | (go_at_call 119; with_reducible refine (refuse_yes _ _).mono ?_; rintro e w' ⟨rfl, rfl⟩))
    exact ⟨rfl, rfl, rfl⟩
  · have c2 : 8 < x := by omega
    have b3 : decide (x < 1) = false := decide_eq_false c
    have b4 : decide (8 < x) = true := decide_eq_true c2
    clear h
    go_enter Tryz.func152, Tryz.ntmps152
    go_wp2_with (first | (go_at_call 119; with_reducible refine (refuse_yes _ _).mono ?_; rintro e w' ⟨rfl, rfl⟩))
    exact ⟨rfl, rfl, rfl⟩

theorem tally_take {vs : List Int} {i : Nat} {y : Int} (h : vs[i]? = some y) (x : Int) : tallyL (vs.take (i + 1)) x = tallyL (vs.take i) x + (if y = x then 1 else 0) := by
  unfold tallyL
  rw [take_snoc h, List.countP_append]
  congr 1
  by_cases c : y = x <;> simp [c]
theorem tally_le (vs : List Int) (x : Int) : tallyL vs x ≤ vs.length := by unfold tallyL; exact List.countP_le_length

set_option maxHeartbeats 1000000 in
theorem tally_yes (sl : Option Addr) (n c : Nat) (vs : List Int) (x : Int) (w : World) (hN : NS w sl n c vs) (h1 : 1 ≤ x) (h8 : x ≤ 8) : Calls Tryz.prog 150 #[.slice sl n c, .int .u64 x] w fun e w' => e = .returned (.int .u64 (tallyL vs x : Nat)) ∧ w = w' := by
  have HC := Lib.hid (fun w => choice_yes x w h1 h8)
  have hn := hN.le
  have HN := Lib.hid hN
  clear hN
  go_enter Tryz.func150, Tryz.ntmps150
  go_wp2_with (first | (go_at_call 152; with_reducible refine (HC.out _).mono ?_; rintro e w' ⟨rfl, rfl⟩))
  go_loopg [6, 13] n (fun kx s6 s13 wr => wr = w ∧ ∃ i : Nat, s13 = .int .i64 i ∧ i ≤ n ∧ n - i ≤ kx ∧ s6 = .int .u64 (tallyL (vs.take i) x : Nat))
  case atStart => exact ⟨rfl, 0, rfl, Nat.zero_le _, by omega, by simp [tallyL]⟩
  case round =>
    obtain ⟨rfl, i, rfl, hi, hg, rfl⟩ := hrel
    by_cases hlt : i < n
    · have hlt2 : (i : Int) < n := by omega
      obtain ⟨y, hy, hyu, b, o, rfl, hyc⟩ := HN.out.get hlt
      have ht := Lib.hid (tally_take hy x)
      have hle : tallyL (vs.take i) x ≤ i := Nat.le_trans (tally_le _ _) (by rw [List.length_take]; omega)
      clear hy hyu
      generalize hq : tallyL (vs.take i) x = q at *
      clear hq
      by_cases he : y = x
      · have hb : (y == x) = true := by simpa using he
        have hw : IntKind.u64.wrap ((q : Int) + 1) = (q : Int) + 1 := by simp only [IntKind.wrap_u64]; omega
        rw [if_pos he] at ht
        clear he
        go_wp2_with (first | (go_at_call 115; with_reducible refine (lbit_any _ _).mono ?_; rintro e w' ⟨rfl, rfl⟩; simp only [bitZ, if_true]))
        go_roundg (n - (i + 1))
        case measure => omega
        case rel => exact ⟨rfl, i + 1, by first | rfl | (congr 1; omega), by omega, by omega, by rw [ht.out]; first | rfl | (congr 1; simp only [bitZ, if_true, IntKind.wrap_u64]; omega)⟩
      · have hb : (y == x) = false := by simpa using he
        have hw : IntKind.u64.wrap ((q : Int) + 0) = (q : Int) := by simp only [IntKind.wrap_u64]; omega
        rw [if_neg he] at ht
        clear he
        go_wp2_with (first | (go_at_call 115; with_reducible refine (lbit_any _ _).mono ?_; rintro e w' ⟨rfl, rfl⟩; simp only [bitZ, Bool.false_eq_true, if_false]))
        go_roundg (n - (i + 1))
        case measure => omega
        case rel => exact ⟨rfl, i + 1, by first | rfl | (congr 1; omega), by omega, by omega, by rw [ht.out]; first | rfl | (congr 1; simp only [bitZ, Bool.false_eq_true, if_false, IntKind.wrap_u64]; omega)⟩
    · obtain rfl : i = n := by omega
      have hlt2 : ¬ (i : Int) < i := by omega
      have ht : vs.take i = vs := by rw [← HN.out.len]; exact List.take_length
      have hq : RowKit.Hid (tallyL (vs.take i) x = tallyL vs x) := Lib.hid (by rw [ht])
      clear ht
      go_wp2_with (fail)
      go_ret
      exact ⟨by rw [← hq.out]; rfl, rfl⟩
theorem tally_no (sl : Option Addr) (n c : Nat) (x : Int) (w : World) (h : x < 1 ∨ 8 < x) : Calls Tryz.prog 150 #[.slice sl n c, .int .u64 x] w fun e w' => e = .panicked (noE 10) ∧ w = w' := by
  have HC := Lib.hid (fun w => choice_no x w h)
  clear h
  go_enter Tryz.func150, Tryz.ntmps150
  go_wp2_with (first | (go_at_call 152; with_reducible refine (HC.out _).mono ?_; rintro e w' ⟨rfl, rfl⟩))
  exact ⟨rfl, rfl, rfl⟩

theorem vote_yes (m : Nat) (hm : m ≤ 256) (B g o n c : Nat) (x : Int) (w : World) (h0 : 0 ≤ x) (hx : x < m) (hn : n = m) (hc : w.cell? ⟨B, 3, none⟩ = some (.slice (some ⟨g, o, none⟩) n c)) :
    Calls Tryz.prog 151 #[.agg #[.int .i64 (m : Int)], .pointer (some ⟨B, 0, none⟩), .int .u64 x] w fun e w' => e = .returned (.pointer (some ⟨g, o + x.toNat, none⟩)) ∧ w' = w.alloc (bbx m) := by
  subst hn
  have hc1 : (w.alloc (bbx n)).cell? ⟨B, 3, none⟩ = some (.slice (some ⟨g, o, none⟩) n c) := box_alloc hc
  have hu := len_u64 (n := n) (by omega)
  have b1 : ¬ (n : Int) ≤ x := by omega
  have b2 : decide ((n : Int) ≤ x) = false := decide_eq_false b1
  clear hc
  dsimp only [bbx] at *
  go_enter Tryz.func151, Tryz.ntmps151
  go_wp2_with (first | (go_at_call 119; with_reducible refine (refuse_no _ _).mono ?_; rintro e w' ⟨rfl, rfl⟩))
  go_ret
  first | exact ⟨rfl, rfl⟩ | simp
theorem vote_no (m : Nat) (hm : m ≤ 256) (B : Nat) (x : Int) (w : World) (hx : (m : Int) ≤ x) :
    Calls Tryz.prog 151 #[.agg #[.int .i64 (m : Int)], .pointer (some ⟨B, 0, none⟩), .int .u64 x] w fun e w' => e = .panicked (noE 10) ∧ w' = w.alloc (bbx m) := by
  have hu := len_u64 (n := m) (by omega)
  have b2 : decide ((m : Int) ≤ x) = true := decide_eq_true hx
  dsimp only [bbx] at *
  go_enter Tryz.func151, Tryz.ntmps151
  go_wp2_with (first | (go_at_call 119; with_reducible refine (refuse_yes _ _).mono ?_; rintro e w' ⟨rfl, rfl⟩))
  exact ⟨rfl, rfl, rfl⟩

/-- What is asked of a ballot that is called: its state, its votes' row, and the call. -/
structure Bl (W : World) (M : Nat) (w : World) (B : Nat) (s : St) (a v t : Sl) (m : Nat) (x y : Int) : Prop where
  P : PB W M w B s a v t
  V : VotesOk m s
  m1 : 1 ≤ m
  m2 : m ≤ 256
  k : s.keys = []
  l : s.vals = []
  x : U64 x
  y : U64 y
  g : ∃ g, t.a = some ⟨g, 0, none⟩ ∧ W.heap.size ≤ g ∧ g < M ∧ g ≠ B ∧ ∀ i, w.frozen? ⟨g, i, none⟩ = false
theorem Bl.ext {W : World} {M : Nat} {w w' : World} {B : Nat} {s : St} {a v t : Sl} {m : Nat} {x y : Int} (h : Bl W M w B s a v t m x y) (e : Ext w w') : Bl W M w' B s a v t m x y := by
  obtain ⟨g, h1, h2, h3, h4, h5⟩ := h.g
  exact ⟨h.P.ext e, h.V, h.m1, h.m2, h.k, h.l, h.x, h.y, g, h1, h2, h3, h4, fun i => (Below.frozen (p := ⟨g, i, none⟩) e (Nat.lt_of_lt_of_le h3 h.P.hw)).trans (h5 i)⟩
theorem ws_none {w w' : World} {sl : Option Addr} {n c : Nat} {xs : List Int} (h : WS w sl n c xs) (hx : xs = []) : WS w' sl n c xs := by
  subst hx; exact ⟨h.1, h.2.1, h.2.2.1, h.2.2.2.1, fun j x hj => by simp at hj⟩
/-- A vote that is cast. -/
theorem Bl.vote {W : World} {M : Nat} {w w1 : World} {B : Nat} {s : St} {a v t : Sl} {m : Nat} {x y : Int} (h : Bl W M w B s a v t m x y) (e : Ext w w1) (i : Nat) (hi : i < m) (z : Int) (hz : I64 z) (g : Nat) (hg : t.a = some ⟨g, 0, none⟩) : QB W M w (w1.setCell ⟨g, i, none⟩ (.int .i64 z)) B { s with votes := s.votes.set i z } := by
  obtain ⟨g', h1, h2, h3, h4, h5⟩ := h.g
  rw [hg] at h1
  cases h1
  have hss := h.P.ss.ext e
  have hl := h.V.1
  have hn := hss.2.2.2.len
  refine ⟨((Kp.refl h.P.e).ext e).setCell _ h2 (.inl h3), a, v, t, five_far (h.P.five.ext e) (Ne.symm h4), ⟨hss.1, ws_none hss.2.1 h.k, ws_none hss.2.2.1 h.l, ?_⟩, fun b hb _ => h.P.off b hb⟩
  have := hss.2.2.2
  rw [hg] at this ⊢
  exact ns_upd this (by omega) hz

set_option maxHeartbeats 2000000 in
set_option maxRecDepth 100000 in
theorem cast_yes {W : World} {M : Nat} {w : World} {B : Nat} {s : St} {a v t : Sl} {m : Nat} {x y : Int} (h : Bl W M w B s a v t m x y) (hx : x < m) (h1 : 1 ≤ y) (h8 : y ≤ 8) :
    Calls Tryz.prog 149 #[.agg #[.int .i64 (m : Int)], .pointer (some ⟨B, 0, none⟩), ov 12 x y] w fun e w' => TE (castS m s ⟨12, x, y⟩).2 e ∧ QB W M w w' B (castS m s ⟨12, x, y⟩).1 := by
  have X0 := Lib.hid ((Ext.new w (bbx m)).alloc (ob 12 x y))
  obtain ⟨k2, k3, k4⟩ := op_new (bbx m) 12 x y w
  have k1 : ((w.alloc (bbx m)).alloc (ob 12 x y)).cell? ⟨w.heap.size, 0, none⟩ = some (.int .i64 (m : Int)) := box_alloc (by unfold World.cell?; rw [World.alloc_heap_new]; rfl)
  have hm2 := h.m2
  have hl := h.V.1
  have hss := h.P.ss
  have hn := hss.2.2.2.len
  have hP := h.P
  obtain ⟨g, hg, hg1, hg2, hg3, hg4⟩ := h.g
  obtain ⟨q, hq⟩ : ∃ q : Nat, x = q := ⟨x.toNat, by have := h.x.1; omega⟩
  subst hq
  have hqm : q < m := by omega
  obtain ⟨u, hu, huI, b', o', eb, huc⟩ := hss.2.2.2.get (k := q) (by omega)
  rw [hg] at eb
  cases eb
  have hgd : s.votes.getD q 0 = u := by rw [List.getD_eq_getElem?_getD, hu]; rfl
  have HV : RowKit.Hid (∀ W, Ext w W → Calls Tryz.prog 151 #[.agg #[.int .i64 (m : Int)], .pointer (some ⟨B, 0, none⟩), .int .u64 (q : Int)] W fun e w' => e = .returned (.pointer (some ⟨g, q, none⟩)) ∧ w' = W.alloc (bbx m)) := Lib.hid fun W hE => by
    have h9 := (hP.ext hE).five.2.2.2.1
    rw [hg] at h9
    have := vote_yes m hm2 B g 0 t.n t.c (q : Int) W (by omega) (by omega) (by omega) h9
    simpa only [Nat.zero_add, Int.toNat_natCast] using this
  have HC := Lib.hid (fun w => choice_yes y w h1 h8)
  have HW : RowKit.Hid (∀ w1, Ext w w1 → QB W M w (w1.setCell ⟨g, q, none⟩ (.int .i64 y)) B { s with votes := s.votes.set q y }) := Lib.hid fun w1 e => h.vote e q hqm y (by unfold I64; omega) g hg
  have HQ : RowKit.Hid (∀ w1, Ext w w1 → QB W M w w1 B s) := Lib.hid fun w1 e => hP.read e
  have HF : RowKit.Hid (∀ w1, Ext w w1 → w1.cell? ⟨B, 4, none⟩ = some (.bool s.closed) ∧ w1.cell? ⟨g, q, none⟩ = some (.int .i64 u) ∧ w1.frozen? ⟨g, q, none⟩ = false) := Lib.hid fun w1 e => ⟨(hP.five.ext e).2.2.2.2, e.cell (by simpa using huc), by
    obtain ⟨g', a1, _, _, _, a5⟩ := (h.ext e).g
    rw [hg] at a1; cases a1; exact a5 q⟩
  have hcs : RowKit.Hid (castS m s ⟨12, q, y⟩ = if s.closed = true then (s, (14, 0)) else if u ≠ 0 then (s, (13, 0)) else ({ s with votes := s.votes.set q y }, (0, 0))) := Lib.hid (by
    unfold castS; rw [if_neg (by dsimp only; omega)]; simp only [Int.toNat_natCast, hgd])
  clear h hl hss hn hP hg hg4 hu huI huc hgd hqm h1 h8 hx
  obtain ⟨sr, sk, sl', sw, cl⟩ := s
  dsimp only [ov, ob, bbx] at *
  go_enter Tryz.func149, Tryz.ntmps149
  go_wp2_with (fail)
  go_region_held3 (fun w' => (w'.cell? ⟨w.heap.size, 0, none⟩ = some (.int .i64 (m : Int))) ∧ w'.cell? ⟨w.heap.size + 1, 0, none⟩ = some (.int .i64 12) ∧ w'.cell? ⟨w.heap.size + 1, 1, none⟩ = some (.int .u64 (q : Int)) ∧ w'.cell? ⟨w.heap.size + 1, 2, none⟩ = some (.int .u64 y))
    (repeat' (first | (with_reducible assumption) | (with_reducible refine And.intro ?_ ?_) | (with_reducible refine box_alloc ?_) | (with_reducible refine box_drew ?_) | (with_reducible refine Ext.cell ‹_› ?_)))
    (first
      | (go_at_call 151; (with_reducible refine (HV.out _ (by repeat (first | exact X0.out | refine Ext.alloc ?_ _ | refine Ext.drew ?_))).mono ?_); rintro e w' ⟨rfl, rfl⟩)
      | (go_at_call 152; (with_reducible refine (HC.out _).mono ?_); rintro e w' ⟨rfl, rfl⟩))
  all_goals
    have X1 : RowKit.Hid (Ext w (((w.alloc (.cells #[.int .i64 (m : Int)] 110)).alloc (.cells #[.int .i64 12, .int .u64 (q : Int), .int .u64 y] 32)).alloc (.cells #[.int .i64 (m : Int)] 110)).drew) := Lib.hid (by repeat (first | exact X0.out | refine Ext.alloc ?_ _ | refine Ext.drew ?_))
    obtain ⟨f1, f2, f3⟩ := HF.out _ X1.out
    cases cl
    · by_cases hu0 : u = 0
      · have b0 : (u != 0) = false := by simp [hu0]
        have hz := hcs.out
        rw [if_neg (by simp), if_neg (by simp [hu0])] at hz
        replace hz := Lib.hid hz
        clear hu0 hcs
        go_wp2_with (first
          | (go_at_call 119; (with_reducible refine (refuse_no _ _).mono ?_); rintro e w' ⟨rfl, rfl⟩))
        go_ret
        exact ⟨by rw [hz.out]; exact te_ret _, by rw [hz.out]; exact HW.out _ X1.out⟩
      · have b0 : (u != 0) = true := by simpa using hu0
        have hz := hcs.out
        rw [if_neg (by simp), if_pos hu0] at hz
        replace hz := Lib.hid hz
        clear hu0 hcs
        go_wp2_with (first
          | (go_at_call 119; (with_reducible refine (refuse_no _ _).mono ?_); rintro e w' ⟨rfl, rfl⟩)
          | (go_at_call 119; (with_reducible refine (refuse_yes _ _).mono ?_); rintro e w' ⟨rfl, rfl⟩))
        exact ⟨rfl, by rw [hz.out]; exact te_no (by decide), by rw [hz.out]; exact HQ.out _ X1.out⟩
    · have hz := hcs.out
      rw [if_pos rfl] at hz
      replace hz := Lib.hid hz
      clear hcs
      go_wp2_with (first
        | (go_at_call 119; (with_reducible refine (refuse_yes _ _).mono ?_); rintro e w' ⟨rfl, rfl⟩))
      exact ⟨rfl, by rw [hz.out]; exact te_no (by decide), by rw [hz.out]; exact HQ.out _ X1.out⟩

end Go.Proofs.YtdipddnnckfnmaaGreat.Lan

/- LanBall:
  What a call does to a ballot, and tells: a vote that may not be cast, and the other calls. Conditions: the state lies in a box that may be written, and so do its votes.
-/
namespace Go.Proofs.YtdipddnnckfnmaaGreat.Lan
open Go.RowKit (Below intOf)
open Go.Proofs.YtdipddnnckfnmaaGreat.Aut
open Go.Proofs.YtdipddnnckfnmaaGreat.Reg (cf bx fits_any)

set_option maxHeartbeats 2000000 in
set_option maxRecDepth 100000 in
theorem cast_no {W : World} {M : Nat} {w : World} {B : Nat} {s : St} {a v t : Sl} {m : Nat} {x y : Int} (h : Bl W M w B s a v t m x y) (hbad : (m : Int) ≤ x ∨ y < 1 ∨ 8 < y) :
    Calls Tryz.prog 149 #[.agg #[.int .i64 (m : Int)], .pointer (some ⟨B, 0, none⟩), ov 12 x y] w fun e w' => e = .panicked (noE 10) ∧ QB W M w w' B s := by
  have X0 := Lib.hid ((Ext.new w (bbx m)).alloc (ob 12 x y))
  obtain ⟨k2, k3, k4⟩ := op_new (bbx m) 12 x y w
  have k1 : ((w.alloc (bbx m)).alloc (ob 12 x y)).cell? ⟨w.heap.size, 0, none⟩ = some (.int .i64 (m : Int)) := box_alloc (by unfold World.cell?; rw [World.alloc_heap_new]; rfl)
  have hm2 := h.m2
  have hss := h.P.ss
  have hn := hss.2.2.2.len
  have hl := h.V.1
  have hP := h.P
  have hx := h.x
  obtain ⟨g, hg, hg1, hg2, hg3, hg4⟩ := h.g
  have HQ : RowKit.Hid (∀ w1, Ext w w1 → QB W M w w1 B s) := Lib.hid fun w1 e => hP.read e
  have HVY : RowKit.Hid (x < m → ∀ W, Ext w W → Calls Tryz.prog 151 #[.agg #[.int .i64 (m : Int)], .pointer (some ⟨B, 0, none⟩), .int .u64 x] W fun e w' => e = .returned (.pointer (some ⟨g, x.toNat, none⟩)) ∧ w' = W.alloc (bbx m)) := Lib.hid fun hxm W hE => by
    have h9 := (hP.ext hE).five.2.2.2.1
    rw [hg] at h9
    have := vote_yes m hm2 B g 0 t.n t.c x W hx.1 hxm (by omega) h9
    simpa only [Nat.zero_add] using this
  have HVN : RowKit.Hid ((m : Int) ≤ x → ∀ W, _) := Lib.hid fun hxm W => vote_no m hm2 B x W hxm
  have HCN : RowKit.Hid ((y < 1 ∨ 8 < y) → ∀ W, _) := Lib.hid fun h1 W => choice_no y W h1
  have k01 := And.intro k1 (And.intro k2 (And.intro k3 k4))
  clear h hl hss hn hP hg hg4 hx
  dsimp only [ov, ob, bbx] at *
  by_cases hv : (m : Int) ≤ x
  · have V := Lib.hid (HVN.out hv)
    clear HVY HVN HCN hbad hv
    go_enter Tryz.func149, Tryz.ntmps149
    go_wp2_with (fail)
    refine wp_region_held_drew (S := fun w' => (w'.cell? ⟨w.heap.size, 0, none⟩ = some (.int .i64 (m : Int))) ∧ w'.cell? ⟨w.heap.size + 1, 0, none⟩ = some (.int .i64 12) ∧ w'.cell? ⟨w.heap.size + 1, 1, none⟩ = some (.int .u64 x) ∧ w'.cell? ⟨w.heap.size + 1, 2, none⟩ = some (.int .u64 y)) (by kernel_rfl) k01 (fun hHeld => ?_)
    refine wpAnyH_take (i := 0) (v := .agg #[.int .i64 (m : Int)]) rfl (by kernel_rfl) (by kernel_rfl) (by kernel_rfl) (fun _ _ _ h => h) (Or.inl ⟨by rfl, ?_⟩) (by assumption) ?_
    · rintro w ⟨h1, h2, h3, h4⟩
      go_simp
    refine wpAnyH_take (i := 1) (v := .pointer (some ⟨B, 0, none⟩)) rfl (by kernel_rfl) (by kernel_rfl) (by kernel_rfl) (fun _ _ _ h => h) (Or.inl ⟨by rfl, ?_⟩) (by assumption) ?_
    · rintro w ⟨h1, h2, h3, h4⟩
      go_simp
    refine wpAnyH_take (i := 2) (v := .pointer (some ⟨w.heap.size + 1, 1, none⟩)) rfl (by kernel_rfl) (by kernel_rfl) (by kernel_rfl) (fun _ _ _ h => h) (Or.inl ⟨by rfl, ?_⟩) (by assumption) ?_
    · rintro w ⟨h1, h2, h3, h4⟩
      go_simp
    refine wpAnyH_take (i := 3) (v := .int .u64 x) rfl (by kernel_rfl) (by kernel_rfl) (by kernel_rfl) (fun _ _ _ h => h) (Or.inl ⟨by rfl, ?_⟩) (by assumption) ?_
    · rintro w ⟨h1, h2, h3, h4⟩
      go_simp
    refine wpAnyH_take (i := 5) (v := .pointer (some ⟨w.heap.size + 1, 2, none⟩)) rfl (by kernel_rfl) (by kernel_rfl) (by kernel_rfl) (fun _ _ _ h => h) (Or.inl ⟨by rfl, ?_⟩) (by assumption) ?_
    · rintro w ⟨h1, h2, h3, h4⟩
      go_simp
    refine wpAnyH_take (i := 6) (v := .int .u64 y) rfl (by kernel_rfl) (by kernel_rfl) (by kernel_rfl) (fun _ _ _ h => h) (Or.inl ⟨by rfl, ?_⟩) (by assumption) ?_
    · rintro w ⟨h1, h2, h3, h4⟩
      go_simp
    refine wpAnyH_ready (rs := [4]) (by kernel_rfl) (by simp) ?_
    refine AllReadyH.cons rfl (fun K hK => ?_) AllReadyH.nil
    go_simp
    refine (V.out _).mono ?_
    rintro e w' ⟨rfl, rfl⟩
    exact ⟨rfl, rfl, HQ.out _ (by repeat (first | exact X0.out | refine Ext.alloc ?_ _ | refine Ext.drew ?_))⟩
  · have V := Lib.hid (HVY.out (by omega))
    have C := Lib.hid (HCN.out (by omega))
    clear HVY HVN HCN hbad hv
    go_enter Tryz.func149, Tryz.ntmps149
    go_wp2_with (fail)
    refine wp_region_held_drew (S := fun w' => (w'.cell? ⟨w.heap.size, 0, none⟩ = some (.int .i64 (m : Int))) ∧ w'.cell? ⟨w.heap.size + 1, 0, none⟩ = some (.int .i64 12) ∧ w'.cell? ⟨w.heap.size + 1, 1, none⟩ = some (.int .u64 x) ∧ w'.cell? ⟨w.heap.size + 1, 2, none⟩ = some (.int .u64 y)) (by kernel_rfl) k01 (fun hHeld => ?_)
    refine wpAnyH_take (i := 0) (v := .agg #[.int .i64 (m : Int)]) rfl (by kernel_rfl) (by kernel_rfl) (by kernel_rfl) (fun _ _ _ h => h) (Or.inl ⟨by rfl, ?_⟩) (by assumption) ?_
    · rintro w ⟨h1, h2, h3, h4⟩
      go_simp
    refine wpAnyH_take (i := 1) (v := .pointer (some ⟨B, 0, none⟩)) rfl (by kernel_rfl) (by kernel_rfl) (by kernel_rfl) (fun _ _ _ h => h) (Or.inl ⟨by rfl, ?_⟩) (by assumption) ?_
    · rintro w ⟨h1, h2, h3, h4⟩
      go_simp
    refine wpAnyH_take (i := 2) (v := .pointer (some ⟨w.heap.size + 1, 1, none⟩)) rfl (by kernel_rfl) (by kernel_rfl) (by kernel_rfl) (fun _ _ _ h => h) (Or.inl ⟨by rfl, ?_⟩) (by assumption) ?_
    · rintro w ⟨h1, h2, h3, h4⟩
      go_simp
    refine wpAnyH_take (i := 3) (v := .int .u64 x) rfl (by kernel_rfl) (by kernel_rfl) (by kernel_rfl) (fun _ _ _ h => h) (Or.inl ⟨by rfl, ?_⟩) (by assumption) ?_
    · rintro w ⟨h1, h2, h3, h4⟩
      go_simp
    refine wpAnyH_take (i := 5) (v := .pointer (some ⟨w.heap.size + 1, 2, none⟩)) rfl (by kernel_rfl) (by kernel_rfl) (by kernel_rfl) (fun _ _ _ h => h) (Or.inl ⟨by rfl, ?_⟩) (by assumption) ?_
    · rintro w ⟨h1, h2, h3, h4⟩
      go_simp
    refine wpAnyH_take (i := 6) (v := .int .u64 y) rfl (by kernel_rfl) (by kernel_rfl) (by kernel_rfl) (fun _ _ _ h => h) (Or.inl ⟨by rfl, ?_⟩) (by assumption) ?_
    · rintro w ⟨h1, h2, h3, h4⟩
      go_simp
    refine wpAnyH_ready (rs := [4]) (by kernel_rfl) (by simp) ?_
    refine AllReadyH.cons rfl (fun K hK => ?_) AllReadyH.nil
    go_simp
    refine (V.out _ (by repeat (first | exact X0.out | refine Ext.alloc ?_ _ | refine Ext.drew ?_))).mono ?_
    rintro e w' ⟨rfl, rfl⟩
    refine hK.out _ _ (by repeat' (first | (with_reducible assumption) | (with_reducible refine And.intro ?_ ?_) | (with_reducible refine box_alloc ?_) | (with_reducible refine box_drew ?_))) (fun hHeld => ?_)
    clear hK K
    refine wpAnyH_ready (rs := [7]) (by kernel_rfl) (by simp) ?_
    refine AllReadyH.cons rfl (fun K hK => ?_) AllReadyH.nil
    go_simp
    refine (C.out _).mono ?_
    rintro e w' ⟨rfl, rfl⟩
    exact ⟨rfl, rfl, HQ.out _ (by repeat (first | exact X0.out | refine Ext.alloc ?_ _ | refine Ext.drew ?_))⟩

theorem cast_is {W : World} {M : Nat} {w : World} {B : Nat} {s : St} {a v t : Sl} {m : Nat} {x y : Int} (h : Bl W M w B s a v t m x y) :
    Calls Tryz.prog 149 #[.agg #[.int .i64 (m : Int)], .pointer (some ⟨B, 0, none⟩), ov 12 x y] w fun e w' => TE (castS m s ⟨12, x, y⟩).2 e ∧ QB W M w w' B (castS m s ⟨12, x, y⟩).1 := by
  by_cases hb : (m : Int) ≤ x ∨ y < 1 ∨ 8 < y
  · have e : castS m s ⟨12, x, y⟩ = (s, (10, 0)) := by unfold castS; rw [if_pos hb]
    rw [e]
    exact (cast_no h hb).mono fun e w' q => ⟨q.1 ▸ te_no (by decide), q.2⟩
  · exact cast_yes h (by omega) (by omega) (by omega)

theorem vote_u {x : Int} (h0 : 0 ≤ x) (h8 : x ≤ 8) : IntKind.u64.wrap x = x := by simp only [IntKind.wrap_u64]; omega

set_option maxHeartbeats 4000000 in
set_option maxRecDepth 100000 in
theorem ballot_call {W : World} {M : Nat} {w : World} {B : Nat} {s : St} {a v t : Sl} {m : Nat} {x y : Int} (h : Bl W M w B s a v t m x y) (o : Int) :
    Calls Tryz.prog 145 #[.agg #[.int .i64 (m : Int)], .pointer (some ⟨B, 0, none⟩), ov o x y] w fun e w' => TE (ballotS m s ⟨o, x, y⟩).2 e ∧ QB W M w w' B (ballotS m s ⟨o, x, y⟩).1 := by
  have X0' := (Ext.new w (bbx m)).alloc (ob o x y)
  have X0 := Lib.hid X0'
  obtain ⟨k2, k3, k4⟩ := op_new (bbx m) o x y w
  have k1 : ((w.alloc (bbx m)).alloc (ob o x y)).cell? ⟨w.heap.size, 0, none⟩ = some (.int .i64 (m : Int)) := box_alloc (by unfold World.cell?; rw [World.alloc_heap_new]; rfl)
  have h' := h.ext X0'
  have HB := Lib.hid h'
  have HQ : RowKit.Hid (∀ w1, Ext w w1 → QB W M w w1 B s) := Lib.hid fun w1 e => h.P.read e
  have HQF : RowKit.Hid (∀ w1 s', QB W M ((w.alloc (bbx m)).alloc (ob o x y)) w1 B s' → QB W M w w1 B s') := Lib.hid fun w1 s' q => q.from X0'
  obtain ⟨p0, p1, p2, p3, p4⟩ := h'.P.five
  have z4 := h'.P.fro 4
  have hs : ∀ c : Int, o ≠ c → (o == c) = false := fun c h => by simpa using h
  have HN := Lib.hid h'.P.ss.2.2.2
  have HCl : RowKit.Hid (QB W M w (((w.alloc (bbx m)).alloc (ob o x y)).setCell ⟨B, 4, none⟩ (.bool true)) B { s with closed := true }) := Lib.hid (by
    have h5 := h'.P.five
    refine ⟨((Kp.refl h.P.e).ext X0').setCell _ h.P.hB (.inl h.P.hM), a, v, t, ⟨set_five h5.1 (by decide), set_five h5.2.1 (by decide), set_five h5.2.2.1 (by decide), set_five h5.2.2.2.1 (by decide), set_same h5.2.2.2.2⟩, ?_, fun b hb _ => h.P.off b hb⟩
    exact h'.P.ss.set h.P.offB 4 (.bool true))
  by_cases h12 : o = 12
  · subst h12
    have HC := Lib.hid (cast_is h')
    have e : ballotS m s ⟨12, x, y⟩ = castS m s ⟨12, x, y⟩ := by unfold ballotS; rw [if_pos rfl]
    rw [e]
    clear h h' X0' HB HN HCl HQ hs e
    dsimp only [ov, ob, bbx] at *
    go_enter Tryz.func145, Tryz.ntmps145
    go_wp2_with (first | (go_at_call 149; (with_reducible refine HC.out.mono ?_); rintro e w' ⟨hT, hE⟩; rcases hT with ⟨h0, rfl⟩ | ⟨h0, h1, rfl⟩))
    · go_ret
      exact ⟨.inl ⟨h0, rfl⟩, HQF.out _ _ hE⟩
    · exact ⟨rfl, .inr ⟨h0, h1, rfl⟩, HQF.out _ _ hE⟩
  by_cases h13 : o = 13
  · subst h13
    have e : ballotS m s ⟨13, x, y⟩ = ({ s with closed := true }, (0, bitZ (!s.closed))) := by unfold ballotS; rw [if_neg (by simp), if_pos rfl]
    rw [e]
    clear h h' X0' HB HN HQ hs e
    dsimp only [ov, ob, bbx] at *
    go_enter Tryz.func145, Tryz.ntmps145
    go_wp2_with (first | (go_at_call 115; (with_reducible refine (lbit_any _ _).mono ?_); rintro e w' ⟨rfl, rfl⟩))
    go_ret
    exact ⟨te_ret _, HCl.out⟩
  by_cases h16 : o = 16
  · subst h16
    have e : ballotS m s ⟨16, x, y⟩ = (s, (0, bitZ s.closed)) := by unfold ballotS; rw [if_neg (by simp), if_neg (by simp), if_neg (by simp), if_neg (by simp), if_pos rfl]
    rw [e]
    clear h h' X0' HB HN HCl hs e
    dsimp only [ov, ob, bbx] at *
    go_enter Tryz.func145, Tryz.ntmps145
    go_wp2_with (first | (go_at_call 115; (with_reducible refine (lbit_any _ _).mono ?_); rintro e w' ⟨rfl, rfl⟩))
    go_ret
    exact ⟨te_ret _, HQ.out _ X0.out⟩
  by_cases h15 : o = 15
  · subst h15
    by_cases hx : (m : Int) ≤ x
    · have e : ballotS m s ⟨15, x, y⟩ = (s, (10, 0)) := by unfold ballotS; rw [if_neg (by simp), if_neg (by simp), if_neg (by simp), if_pos rfl, if_pos hx]
      rw [e]
      have HV := Lib.hid (fun W => vote_no m h.m2 B x W hx)
      clear h h' X0' HB HN HCl hs e
      dsimp only [ov, ob, bbx] at *
      go_enter Tryz.func145, Tryz.ntmps145
      go_wp2_with (first | (go_at_call 151; (with_reducible refine (HV.out _).mono ?_); rintro e w' ⟨rfl, rfl⟩))
      exact ⟨rfl, te_no (by decide), HQ.out _ (X0.out.alloc _)⟩
    · obtain ⟨q, hq⟩ : ∃ q : Nat, x = q := ⟨x.toNat, by have := h.x.1; omega⟩
      subst hq
      have e : ballotS m s ⟨15, q, y⟩ = (s, (0, s.votes.getD q 0)) := by unfold ballotS; rw [if_neg (by simp), if_neg (by simp), if_neg (by simp), if_pos rfl, if_neg hx]; rfl
      rw [e]
      obtain ⟨g, hg, _⟩ := h.g
      have hl := h.V.1
      have hnn := HN.out.len
      obtain ⟨u, hu, _, b', o', eb, huc⟩ := HN.out.get (k := q) (by omega)
      rw [hg] at eb
      cases eb
      have hgd : s.votes.getD q 0 = u := by rw [List.getD_eq_getElem?_getD, hu]; rfl
      have hu8 := h.V.2 u (List.mem_of_getElem? hu)
      have hw := vote_u hu8.1 hu8.2
      rw [hgd]
      rw [hg] at p3
      have HV := Lib.hid (vote_yes m h.m2 B g 0 t.n t.c (q : Int) _ (by omega) (by omega) (by omega) p3)
      simp only [Nat.zero_add, Int.toNat_natCast] at HV huc
      have huc2 : (((w.alloc (bbx m)).alloc (ob 15 q y)).alloc (bbx m)).cell? ⟨g, q, none⟩ = some (.int .i64 u) := box_alloc huc
      clear h h' X0' HB HN HCl hs e hu hgd hu8 hg hl hnn huc hx
      dsimp only [ov, ob, bbx] at *
      go_enter Tryz.func145, Tryz.ntmps145
      go_wp2_with (first | (go_at_call 151; (with_reducible refine HV.out.mono ?_); rintro e w' ⟨rfl, rfl⟩))
      go_ret
      refine ⟨?_, HQ.out _ (X0.out.alloc _)⟩
      first | exact te_ret _ | (rw [hw]; exact te_ret _)
  by_cases h14 : o = 14
  · subst h14
    by_cases hx : x < 1 ∨ 8 < x
    · have e : ballotS m s ⟨14, x, y⟩ = (s, (10, 0)) := by unfold ballotS; rw [if_neg (by simp), if_neg (by simp), if_pos rfl, if_pos hx]
      rw [e]
      have HV := Lib.hid (fun sl n c W => tally_no sl n c x W hx)
      have k01 := And.intro k1 (And.intro k2 (And.intro k3 (And.intro k4 p3)))
      clear h h' X0' HB HN HCl hs e hx
      dsimp only [ov, ob, bbx] at *
      go_enter Tryz.func145, Tryz.ntmps145
      go_wp2_with (fail)
      refine wp_region_held_drew (S := fun w' => (w'.cell? ⟨w.heap.size, 0, none⟩ = some (.int .i64 (m : Int))) ∧ w'.cell? ⟨w.heap.size + 1, 0, none⟩ = some (.int .i64 14) ∧ w'.cell? ⟨w.heap.size + 1, 1, none⟩ = some (.int .u64 x) ∧ w'.cell? ⟨w.heap.size + 1, 2, none⟩ = some (.int .u64 y) ∧ w'.cell? ⟨B, 3, none⟩ = some (.slice t.a t.n t.c)) (by kernel_rfl) k01 (fun hHeld => ?_)
      refine wpAnyH_take (i := 0) (v := .pointer (some ⟨B, 0, none⟩)) rfl (by kernel_rfl) (by kernel_rfl) (by kernel_rfl) (fun _ _ _ h => h) (Or.inl ⟨by rfl, ?_⟩) (by assumption) ?_
      · rintro w ⟨h1, h2, h3, h4, h5⟩
        go_simp
      refine wpAnyH_take (i := 1) (v := .pointer (some ⟨B, 0, none⟩)) rfl (by kernel_rfl) (by kernel_rfl) (by kernel_rfl) (fun _ _ _ h => h) (Or.inl ⟨by rfl, ?_⟩) (by assumption) ?_
      · rintro w ⟨h1, h2, h3, h4, h5⟩
        go_simp
      refine wpAnyH_take (i := 2) (v := .pointer (some ⟨B, 3, none⟩)) rfl (by kernel_rfl) (by kernel_rfl) (by kernel_rfl) (fun _ _ _ h => h) (Or.inl ⟨by rfl, ?_⟩) (by assumption) ?_
      · rintro w ⟨h1, h2, h3, h4, h5⟩
        go_simp
      refine wpAnyH_take (i := 3) (v := .slice t.a t.n t.c) rfl (by kernel_rfl) (by kernel_rfl) (by kernel_rfl) (fun _ _ _ h => h) (Or.inl ⟨by rfl, ?_⟩) (by assumption) ?_
      · rintro w ⟨h1, h2, h3, h4, h5⟩
        go_simp
      refine wpAnyH_take (i := 4) (v := .pointer (some ⟨w.heap.size + 1, 1, none⟩)) rfl (by kernel_rfl) (by kernel_rfl) (by kernel_rfl) (fun _ _ _ h => h) (Or.inl ⟨by rfl, ?_⟩) (by assumption) ?_
      · rintro w ⟨h1, h2, h3, h4, h5⟩
        go_simp
      refine wpAnyH_take (i := 5) (v := .int .u64 x) rfl (by kernel_rfl) (by kernel_rfl) (by kernel_rfl) (fun _ _ _ h => h) (Or.inl ⟨by rfl, ?_⟩) (by assumption) ?_
      · rintro w ⟨h1, h2, h3, h4, h5⟩
        go_simp
      refine wpAnyH_ready (rs := [6]) (by kernel_rfl) (by simp) ?_
      refine AllReadyH.cons rfl (fun K hK => ?_) AllReadyH.nil
      go_simp
      refine (HV.out _ _ _ _).mono ?_
      rintro e w' ⟨rfl, rfl⟩
      exact ⟨rfl, te_no (by decide), HQ.out _ (by repeat (first | exact X0.out | refine Ext.alloc ?_ _ | refine Ext.drew ?_))⟩
    · have e : ballotS m s ⟨14, x, y⟩ = (s, (0, (tallyL s.votes x : Int))) := by unfold ballotS; rw [if_neg (by simp), if_neg (by simp), if_pos rfl, if_neg hx]
      rw [e]
      have HV : RowKit.Hid (∀ W, Ext ((w.alloc (bbx m)).alloc (ob 14 x y)) W → _) := Lib.hid fun W hE => tally_yes t.a t.n t.c s.votes x W (HN.out.ext hE) (by omega) (by omega)
      generalize tallyL s.votes x = q at *
      clear h h' X0' HB HN HCl hs e hx
      dsimp only [ov, ob, bbx] at *
      go_enter Tryz.func145, Tryz.ntmps145
      go_wp2_with (fail)
      go_region_held3 (fun w' => (w'.cell? ⟨w.heap.size, 0, none⟩ = some (.int .i64 (m : Int))) ∧ w'.cell? ⟨w.heap.size + 1, 0, none⟩ = some (.int .i64 14) ∧ w'.cell? ⟨w.heap.size + 1, 1, none⟩ = some (.int .u64 x) ∧ w'.cell? ⟨w.heap.size + 1, 2, none⟩ = some (.int .u64 y) ∧ w'.cell? ⟨B, 3, none⟩ = some (.slice t.a t.n t.c))
        (repeat' (first | (with_reducible assumption) | (with_reducible refine And.intro ?_ ?_) | (with_reducible refine box_alloc ?_) | (with_reducible refine box_drew ?_)))
        (first | (go_at_call 150; (with_reducible refine (HV.out _ (Ext.drew (Ext.refl _))).mono ?_); rintro e w' ⟨rfl, rfl⟩))
      go_wp2_with (fail)
      go_ret
      exact ⟨te_ret _, HQ.out _ (by repeat (first | exact X0.out | refine Ext.alloc ?_ _ | refine Ext.drew ?_))⟩
  have e : ballotS m s ⟨o, x, y⟩ = (s, (10, 0)) := by unfold ballotS; rw [if_neg h12, if_neg h13, if_neg h14, if_neg h15, if_neg h16]
  rw [e]
  have b1 := hs 12 h12
  have b2 := hs 13 h13
  have b3 := hs 14 h14
  have b4 := hs 15 h15
  have b5 := hs 16 h16
  clear h h' X0' HB HN HCl hs e h12 h13 h14 h15 h16
  dsimp only [ov, ob, bbx] at *
  go_enter Tryz.func145, Tryz.ntmps145
  go_wp2_with (fail)
  exact ⟨rfl, te_no (by decide), HQ.out _ X0.out⟩

end Go.Proofs.YtdipddnnckfnmaaGreat.Lan

/- LanShelf:
  Where the library's own contracts of slices.BinarySearchFunc, Delete, Clone and Equal lie in this program: the numbers of their functions and types. No condition.
-/
namespace Go.Proofs
open Go.Shelf
def Tryz.searchL_ren : Go.Shelf.Ren := ⟨fun | 14 => 122 | n => n, fun | 22 => 27 | 24 => 26 | 29 => 26 | 32 => 154 | 3 => 3 | 4 => 4 | 35 => 95 | 0 => 0 | n => n, fun | n => n⟩
theorem Tryz.searchL : Go.Proofs.SlLaysG2.n14 Tryz.prog Tryz.searchL_ren := {
  mixed := by kernel_rfl
  f14 := ⟨Tryz.f122.name, by decide, Tryz.func122.trans (congrArg some (by kernel_rfl))⟩
  t0 := Tryz.underlying0
  a0 := Tryz.isAgg0
  z0 := Tryz.sizeOf0
  v0 := Tryz.zeroValue0
  t3 := Tryz.underlying3
  a3 := Tryz.isAgg3
  z3 := Tryz.sizeOf3
  v3 := Tryz.zeroValue3
  t4 := Tryz.underlying4
  a4 := Tryz.isAgg4
  z4 := Tryz.sizeOf4
  v4 := Tryz.zeroValue4
  t22 := Tryz.underlying27
  a22 := Tryz.isAgg27
  z22 := Tryz.sizeOf27
  v22 := Tryz.zeroValue27
  a24 := Tryz.isAgg26
  z24 := Tryz.sizeOf26
  a29 := Tryz.isAgg26
  z29 := Tryz.sizeOf26
  t32 := Tryz.underlying154
  a32 := Tryz.isAgg154
  z32 := Tryz.sizeOf154
  v32 := Tryz.zeroValue154
  t35 := Tryz.underlying95
  a35 := Tryz.isAgg95
  z35 := Tryz.sizeOf95
  v35 := Tryz.zeroValue95 }
def Tryz.deleteL_ren : Go.Shelf.Ren := ⟨fun | 45 => 127 | n => n, fun | 22 => 27 | 23 => 26 | 3 => 3 | 4 => 4 | 0 => 0 | n => n, fun | n => n⟩
theorem Tryz.deleteL : Go.Proofs.SlLaysE.n45 Tryz.prog Tryz.deleteL_ren := {
  mixed := by kernel_rfl
  f45 := ⟨Tryz.f127.name, by decide, Tryz.func127.trans (congrArg some (by kernel_rfl))⟩
  t0 := Tryz.underlying0
  a0 := Tryz.isAgg0
  z0 := Tryz.sizeOf0
  v0 := Tryz.zeroValue0
  t3 := Tryz.underlying3
  a3 := Tryz.isAgg3
  z3 := Tryz.sizeOf3
  v3 := Tryz.zeroValue3
  t4 := Tryz.underlying4
  a4 := Tryz.isAgg4
  z4 := Tryz.sizeOf4
  v4 := Tryz.zeroValue4
  t22 := Tryz.underlying27
  a22 := Tryz.isAgg27
  z22 := Tryz.sizeOf27
  v22 := Tryz.zeroValue27
  a23 := Tryz.isAgg26
  z23 := Tryz.sizeOf26 }
def Tryz.cloneL_ren : Go.Shelf.Ren := ⟨fun | 41 => 65 | n => n, fun | 22 => 27 | 23 => 26 | 4 => 4 | n => n, fun | n => n⟩
theorem Tryz.cloneL : Go.Proofs.SlLaysE0.n41 Tryz.prog Tryz.cloneL_ren := {
  mixed := by kernel_rfl
  f41 := ⟨Tryz.f65.name, by decide, Tryz.func65.trans (congrArg some (by kernel_rfl))⟩
  t4 := Tryz.underlying4
  a4 := Tryz.isAgg4
  z4 := Tryz.sizeOf4
  v4 := Tryz.zeroValue4
  t22 := Tryz.underlying27
  a22 := Tryz.isAgg27
  z22 := Tryz.sizeOf27
  v22 := Tryz.zeroValue27 }
def Tryz.cloneIL_ren : Go.Shelf.Ren := ⟨fun | 41 => 66 | n => n, fun | 22 => 28 | 23 => 3 | 4 => 4 | n => n, fun | n => n⟩
theorem Tryz.cloneIL : Go.Proofs.SlLaysE0.n41 Tryz.prog Tryz.cloneIL_ren := {
  mixed := by kernel_rfl
  f41 := ⟨Tryz.f66.name, by decide, Tryz.func66.trans (congrArg some (by kernel_rfl))⟩
  t4 := Tryz.underlying4
  a4 := Tryz.isAgg4
  z4 := Tryz.sizeOf4
  v4 := Tryz.zeroValue4
  t22 := Tryz.underlying28
  a22 := Tryz.isAgg28
  z22 := Tryz.sizeOf28
  v22 := Tryz.zeroValue28 }
end Go.Proofs

/- LanOwn:
  Rows of one's own: Clone, Delete and what stays. Conditions: the words are words.
-/
namespace Go.Proofs.YtdipddnnckfnmaaGreat.Lan
open Go.RowKit (Below intOf)
open Go.Proofs.YtdipddnnckfnmaaGreat.Aut
open Go.Proofs.YtdipddnnckfnmaaGreat.Reg (cf bx fits_any)

/-- A row of words of one's own. -/
abbrev OwW (w : World) (base : Nat) (k : Sl) (xs : List Int) : Prop := w.ownsRow base 26 1 (.slice k.a k.n k.c) k.n (flatWS xs)
abbrev OwN (w : World) (base : Nat) (k : Sl) (xs : List Int) : Prop := w.ownsRow base 3 1 (.slice k.a k.n k.c) k.n (flatNS xs)

theorem heap_put (w : World) (g o : Nat) (d : Array Int) {b : Nat} (h : b ≠ g) : (Go.Sort.putRow (Value.int .u64) w g o d).heap[b]? = w.heap[b]? := by
  unfold Go.Sort.putRow Go.Sort.mapBlock
  simp only [Array.getElem?_modify]; rw [if_neg (Ne.symm h)]

set_option maxHeartbeats 1000000 in
set_option maxRecDepth 100000 in
theorem delete_any (base : Nat) (sl : Option Addr) (n c : Nat) (xs : List Int) (i : Nat) (w : World) (h : w.ownsRow base 26 1 (.slice sl n c) n (flatWS xs)) (hl : xs.length = n) (hn : n ≤ 1048576) (hi : i < n) (hx : ∀ x ∈ xs, U64 x) :
    Calls Tryz.prog 127 #[.slice sl n c, .int .i64 (i : Int), .int .i64 ((i : Int) + 1)] w fun e w' => e = .returned (.slice sl (n - 1) c) ∧ WS w' sl (n - 1) c (withoutL xs i) ∧ ∃ g, sl = some ⟨g, 0, none⟩ ∧ w.grownBy w' (some g) := by
  rcases h.2 with ⟨e, hz⟩ | ⟨g, cap, cur, e, hb, hheap, hnc, hcm, hcs, ht⟩
  · omega
  cases e
  obtain ⟨i0, hi0, hz0, hz1, hz2⟩ := info_parts infoWS
  have hcell : ∀ j : Nat, j < n → w.cell? ⟨g, 0 + j, none⟩ = some (.int .u64 (xs.toArray[j]!)) := fun j hj => by
    have := h.cellAt j (by omega)
    rw [flatWS_0] at this
    rw [Nat.zero_add, this]
    have hjl : j < xs.length := by omega
    simp [hjl]
  have hH : Go.Sort.Holds (Value.int .u64) w g 0 xs.toArray := fun j hj => ⟨hcell j (by simpa [hl] using hj), by rw [Nat.zero_add]; exact h.frozenAt j⟩
  have hcap : c ≤ 9223372036854775807 := by have := hcm; unfold maxLen at this; omega
  have hD := AnyE.slices_Delete Tryz.deleteL (Value.int .u64) (fun _ => rfl) 0 (fun w => Tryz.zeroValue26 w) i0 hi0 hz1 g 0 c i (i + 1) xs.toArray w hH (by simpa [hl] using hnc) hcap (by omega) (by simp; omega)
  have hsz : xs.toArray.size = n := by simpa using hl
  have hc1 : ((i + 1 : Nat) : Int) = (i : Int) + 1 := by omega
  rw [hsz, hc1] at hD
  change Calls Tryz.prog 127 _ _ _ at hD
  refine hD.mono ?_
  rintro e w' ⟨rfl, q, rfl⟩
  rw [show i + 1 - i = 1 by omega]
  refine ⟨rfl, ?_, g, rfl, ⟨rfl, rfl, rfl, by simp [Go.Sort.ahead], fun b _ hne => ?_⟩⟩
  · have hlen : ((xs.take i ++ xs.drop (i + 1) ++ List.replicate 1 (0 : Int)).toArray).size = xs.toArray.size := by simp; omega
    have hw : (withoutL xs i).length = n - 1 := by rw [without_len _ _ (by omega), hl]
    refine ⟨hw, by omega, by omega, hcap, fun j x hj => ⟨hx x (mem_without (List.mem_of_getElem? hj)), g, 0, rfl, ?_⟩⟩
    have hjl := (List.getElem?_eq_some_iff.1 hj).1
    have := Go.Sort.cell?_putRow (Value.int .u64) (Go.Sort.ahead w q) g 0 xs.toArray (xs.take i ++ xs.drop (i + 1) ++ List.replicate 1 (0 : Int)).toArray hH hlen j (by simp; omega)
    simp only at *
    rw [this]
    unfold withoutL at hj
    have e1 : (xs.take i ++ xs.drop (i + 1) ++ List.replicate 1 (0 : Int))[j]? = some x := by rw [List.getElem?_append_left (by unfold withoutL at hjl; exact hjl)]; exact hj
    have e2 : ((xs.take i ++ xs.drop (i + 1) ++ List.replicate 1 (0 : Int)).toArray)[j]! = x := by
      obtain ⟨q1, q2⟩ := List.getElem?_eq_some_iff.1 e1
      rw [getElem!_pos _ j (by simpa using q1)]
      simpa using q2
    rw [e2]
  · exact (heap_put _ _ _ _ (fun e => hne (by rw [e]))).trans rfl

set_option maxHeartbeats 1000000 in
set_option maxRecDepth 100000 in
theorem clone_words (sl : Option Addr) (n c : Nat) (xs : List Int) (w : World) (h : WS w sl n c xs) : Calls Tryz.prog 65 #[.slice sl n c] w fun e w' => ∃ k : Sl, e = .returned (.slice k.a k.n k.c) ∧ k.n = n ∧ w'.ownsRow w.heap.size 26 1 (.slice k.a k.n k.c) k.n (flatWS xs) ∧ Ext w w' := by
  cases sl with
  | none =>
    have hn : n = 0 := by
      rcases Nat.eq_zero_or_pos n with q | q
      · exact q
      · obtain ⟨b, o, e⟩ := h.addr q; cases e
    subst hn
    have hx : xs = [] := List.eq_nil_of_length_eq_zero h.len
    subst hx
    have hc := h.cle
    have hun : ∀ (w : World) (a : Option Addr) (n c n' c' : Nat), (binOp .eql 27 (.slice a n c) (.slice none n' c')).run Tryz.prog w = .ok (.bool a.isNone) w := fun w a n c n' c' => Lib.run_eql_slice_nil w _ _ a n c n' c' Tryz.underlying27
    go_enter Tryz.func65, Tryz.ntmps65
    go_wp2_with (fail)
    go_ret
    exact ⟨nilSl, rfl, rfl, World.ownsRow_nil _ _ _ _, Ext.refl _⟩
  | some ad =>
    have hle := h.le
    have hun : ∀ (w : World) (a : Option Addr) (n c n' c' : Nat), (binOp .eql 27 (.slice a n c) (.slice none n' c')).run Tryz.prog w = .ok (.bool a.isNone) w := fun w a n c n' c' => Lib.run_eql_slice_nil w _ _ a n c n' c' Tryz.underlying27
    have ho : (w.alloc (.cells #[] 26)).ownsRow w.heap.size 26 1 (.slice (some ⟨w.heap.size, 0, none⟩) 0 0) 0 (flatWS []) := by
      have := World.ownsRow_lit (base := w.heap.size) (e := 26) (size := 1) w #[] 0 (Nat.le_refl _) (by unfold maxLen; omega) rfl
      exact this
    obtain ⟨sA, cA, wA, RA, oA, gA⟩ := appWS ho (h.ext (Ext.new w _)) n (Nat.zero_add _) (by omega) (by simp)
    have HE : RowKit.Hid (Ext w wA) := Lib.hid ((Ext.new w _).grown gA (fun k e => by simp [Value.ownBlock] at e; omega))
    have HO := Lib.hid oA
    clear oA gA ho h
    go_enter Tryz.func65, Tryz.ntmps65
    go_wp2_with (first
      | (at_builtin; refine Lib.wpList_append_run _ rfl (.tmp 5) (.tmp 6) _ _ rfl _ _ rfl rfl _ _ RA.out ?_))
    go_ret
    exact ⟨⟨sA, n, cA⟩, rfl, rfl, by simpa using HO.out, HE.out⟩

set_option maxHeartbeats 1000000 in
set_option maxRecDepth 100000 in
theorem clone_ints (sl : Option Addr) (n c : Nat) (xs : List Int) (w : World) (h : NS w sl n c xs) : Calls Tryz.prog 66 #[.slice sl n c] w fun e w' => ∃ k : Sl, e = .returned (.slice k.a k.n k.c) ∧ k.n = n ∧ w'.ownsRow w.heap.size 3 1 (.slice k.a k.n k.c) k.n (flatNS xs) ∧ Ext w w' := by
  cases sl with
  | none =>
    have hn : n = 0 := by
      rcases Nat.eq_zero_or_pos n with q | q
      · exact q
      · obtain ⟨b, o, e⟩ := h.addr q; cases e
    subst hn
    have hx : xs = [] := List.eq_nil_of_length_eq_zero h.len
    subst hx
    have hc := h.cle
    have hun : ∀ (w : World) (a : Option Addr) (n c n' c' : Nat), (binOp .eql 28 (.slice a n c) (.slice none n' c')).run Tryz.prog w = .ok (.bool a.isNone) w := fun w a n c n' c' => Lib.run_eql_slice_nil w _ _ a n c n' c' Tryz.underlying28
    go_enter Tryz.func66, Tryz.ntmps66
    go_wp2_with (fail)
    go_ret
    exact ⟨nilSl, rfl, rfl, World.ownsRow_nil _ _ _ _, Ext.refl _⟩
  | some ad =>
    have hle := h.le
    have hun : ∀ (w : World) (a : Option Addr) (n c n' c' : Nat), (binOp .eql 28 (.slice a n c) (.slice none n' c')).run Tryz.prog w = .ok (.bool a.isNone) w := fun w a n c n' c' => Lib.run_eql_slice_nil w _ _ a n c n' c' Tryz.underlying28
    have ho : (w.alloc (.cells #[] 3)).ownsRow w.heap.size 3 1 (.slice (some ⟨w.heap.size, 0, none⟩) 0 0) 0 (flatNS []) := by
      have := World.ownsRow_lit (base := w.heap.size) (e := 3) (size := 1) w #[] 0 (Nat.le_refl _) (by unfold maxLen; omega) rfl
      exact this
    obtain ⟨sA, cA, wA, RA, oA, gA⟩ := appNS ho (h.ext (Ext.new w _)) n (Nat.zero_add _) (by omega) (by simp)
    have HE : RowKit.Hid (Ext w wA) := Lib.hid ((Ext.new w _).grown gA (fun k e => by simp [Value.ownBlock] at e; omega))
    have HO := Lib.hid oA
    clear oA gA ho h
    go_enter Tryz.func66, Tryz.ntmps66
    go_wp2_with (first
      | (at_builtin; refine Lib.wpList_append_run _ rfl (.tmp 5) (.tmp 6) _ _ rfl _ _ rfl rfl _ _ RA.out ?_))
    go_ret
    exact ⟨⟨sA, n, cA⟩, rfl, rfl, by simpa using HO.out, HE.out⟩

end Go.Proofs.YtdipddnnckfnmaaGreat.Lan

/- LanCopy:
  copied: a state whose slices are new. Conditions: the state's words are words.
-/
namespace Go.Proofs.YtdipddnnckfnmaaGreat.Lan
open Go.RowKit (Below intOf)
open Go.Proofs.YtdipddnnckfnmaaGreat.Aut
open Go.Proofs.YtdipddnnckfnmaaGreat.Reg (cf bx fits_any)

abbrev Sl.val (k : Sl) : Value := .slice k.a k.n k.c
theorem Ext.gr {w w' : World} (e : Ext w w') : w.grownBy w' none := ⟨e.os, e.tape, e.output, e.size, fun i hi _ => e.block i hi⟩
theorem gr_set (w : World) (B i : Nat) (v : Value) : w.grownBy (w.setCell ⟨B, i, none⟩ v) (some B) := ⟨rfl, rfl, rfl, by simp, fun b _ hne => heap_set w B i v (fun e => hne (by rw [e]))⟩
theorem own_ext {w w' : World} {base : Nat} {e : TypeId} {v : Value} {n : Nat} {xs : List Value} (h : w.ownsRow base e 1 v n xs) (x : Ext w w') : w'.ownsRow base e 1 v n xs :=
  h.kept (Ext.gr x) (by cases v.ownBlock <;> simp)
theorem own_set {w : World} {base B i : Nat} {e : TypeId} {v y : Value} {n : Nat} {xs : List Value} (h : w.ownsRow base e 1 v n xs) (hb : v.ownBlock ≠ some B) : (w.setCell ⟨B, i, none⟩ y).ownsRow base e 1 v n xs :=
  h.kept (gr_set w B i y) (.inr hb)
theorem own_mono {w : World} {base base' : Nat} {e : TypeId} {v : Value} {n : Nat} {xs : List Value} (h : w.ownsRow base e 1 v n xs) (hb : base' ≤ base) : w.ownsRow base' e 1 v n xs :=
  ⟨h.1, h.2.imp id fun ⟨g, cap, cur, e, h1, h2⟩ => ⟨g, cap, cur, e, Nat.le_trans hb h1, h2⟩⟩
theorem Bx.set {w : World} {B N i : Nat} {x : Value} (h : Bx w B) (hne : B ≠ N) : Bx (w.setCell ⟨N, i, none⟩ x) B := by
  obtain ⟨r, k, v, t, cl, h5⟩ := h.c
  exact ⟨⟨r, k, v, t, cl, five_far h5 hne⟩, fun j => (World.frozen?_setCell _ _ _ _).trans (h.f j)⟩
/-- The rows of a state, of one's own, and apart. -/
structure Rows (base : Nat) (w : World) (a v t : Sl) (s : St) : Prop where
  rk : w.ownsRow base 26 1 (.slice a.a a.n a.c) a.n (flatWS s.keys)
  rv : w.ownsRow base 26 1 (.slice v.a v.n v.c) v.n (flatWS s.vals)
  rt : w.ownsRow base 3 1 (.slice t.a t.n t.c) t.n (flatNS s.votes)
  kv : (Value.slice a.a a.n a.c).ownBlock = none ∨ (Value.slice a.a a.n a.c).ownBlock ≠ (Value.slice v.a v.n v.c).ownBlock
  kt : (Value.slice a.a a.n a.c).ownBlock = none ∨ (Value.slice a.a a.n a.c).ownBlock ≠ (Value.slice t.a t.n t.c).ownBlock
  vt : (Value.slice v.a v.n v.c).ownBlock = none ∨ (Value.slice v.a v.n v.c).ownBlock ≠ (Value.slice t.a t.n t.c).ownBlock
  ss : SS w a v t s
theorem Rows.ext {base : Nat} {w w' : World} {a v t : Sl} {s : St} (h : Rows base w a v t s) (e : Ext w w') : Rows base w' a v t s := ⟨own_ext h.rk e, own_ext h.rv e, own_ext h.rt e, h.kv, h.kt, h.vt, h.ss.ext e⟩
theorem Rows.lt {base : Nat} {w : World} {a v t : Sl} {s : St} (h : Rows base w a v t s) {B : Nat} (hB : B < base ∨ w.heap.size ≤ B) : (Value.slice a.a a.n a.c).ownBlock ≠ some B ∧ (Value.slice v.a v.n v.c).ownBlock ≠ some B ∧ (Value.slice t.a t.n t.c).ownBlock ≠ some B :=
  ⟨fun e => by have := h.rk.lt _ e; omega, fun e => by have := h.rv.lt _ e; omega, fun e => by have := h.rt.lt _ e; omega⟩
theorem off_block {k : Sl} {B : Nat} (h : (Value.slice k.a k.n k.c).ownBlock ≠ some B) : Off k.a B := fun g o e hg => h (by rw [e, hg]; rfl)
theorem Rows.off {base : Nat} {w : World} {a v t : Sl} {s : St} (h : Rows base w a v t s) {B : Nat} (hB : B < base ∨ w.heap.size ≤ B) : OffS a v t B := by
  obtain ⟨h1, h2, h3⟩ := h.lt hB
  exact ⟨fun _ => off_block h1, fun _ => off_block h2, fun _ => off_block h3⟩
theorem Rows.setB {base : Nat} {w : World} {a v t : Sl} {s : St} (h : Rows base w a v t s) {B : Nat} (h1 : (Value.slice a.a a.n a.c).ownBlock ≠ some B) (h2 : (Value.slice v.a v.n v.c).ownBlock ≠ some B) (h3 : (Value.slice t.a t.n t.c).ownBlock ≠ some B) (i : Nat) (x : Value) : Rows base (w.setCell ⟨B, i, none⟩ x) a v t s :=
  ⟨own_set h.rk h1, own_set h.rv h2, own_set h.rt h3, h.kv, h.kt, h.vt, h.ss.set ⟨fun _ => off_block h1, fun _ => off_block h2, fun _ => off_block h3⟩ i x⟩
theorem Rows.set {base : Nat} {w : World} {a v t : Sl} {s : St} (h : Rows base w a v t s) {B : Nat} (hB : B < base ∨ w.heap.size ≤ B) (i : Nat) (x : Value) : Rows base (w.setCell ⟨B, i, none⟩ x) a v t s := by
  obtain ⟨h1, h2, h3⟩ := h.lt hB
  exact ⟨own_set h.rk h1, own_set h.rv h2, own_set h.rt h3, h.kv, h.kt, h.vt, h.ss.set (h.off hB) i x⟩

set_option maxHeartbeats 4000000 in
set_option maxRecDepth 100000 in
theorem copied_any (a v t : Sl) (s : St) (w : World) (hS : SS w a v t s) : Calls Tryz.prog 45 #[sv s.reg a v t s.closed] w fun e w' => Ext w w' ∧ ∃ a v t, e = .returned (sv s.reg a v t s.closed) ∧ Rows w.heap.size w' a v t s := by
  obtain ⟨ka, kn, kc⟩ := a
  obtain ⟨va, vn, vc⟩ := v
  obtain ⟨ta, tn, tc⟩ := t
  obtain ⟨r, ks, vs, vt, cl⟩ := s
  obtain ⟨hr, hK, hV, hT⟩ := hS
  dsimp only at *
  -- the box of the argument, and the result's
  have hE0 : Ext w ((w.alloc (sb r ⟨ka, kn, kc⟩ ⟨va, vn, vc⟩ ⟨ta, tn, tc⟩ cl)).alloc (sb 0 nilSl nilSl nilSl false)) := (Ext.new w _).alloc _
  have h5 : Five ((w.alloc (sb r ⟨ka, kn, kc⟩ ⟨va, vn, vc⟩ ⟨ta, tn, tc⟩ cl)).alloc (sb 0 nilSl nilSl nilSl false)) w.heap.size r ⟨ka, kn, kc⟩ ⟨va, vn, vc⟩ ⟨ta, tn, tc⟩ cl := (five_new w r ⟨ka, kn, kc⟩ ⟨va, vn, vc⟩ ⟨ta, tn, tc⟩ cl).ext (Ext.new _ _)
  have hf5 : ∀ i, ((w.alloc (sb r ⟨ka, kn, kc⟩ ⟨va, vn, vc⟩ ⟨ta, tn, tc⟩ cl)).alloc (sb 0 nilSl nilSl nilSl false)).frozen? ⟨w.heap.size, i, none⟩ = false := fun i => by
    have h1 : (w.alloc (sb r ⟨ka, kn, kc⟩ ⟨va, vn, vc⟩ ⟨ta, tn, tc⟩ cl)).frozen? ⟨w.heap.size, i, none⟩ = false := by unfold World.frozen?; rw [World.alloc_heap_new]; rfl
    exact (Below.frozen (p := ⟨w.heap.size, i, none⟩) (Ext.new (w.alloc (sb r ⟨ka, kn, kc⟩ ⟨va, vn, vc⟩ ⟨ta, tn, tc⟩ cl)) (sb 0 nilSl nilSl nilSl false)) (by simp)).trans h1
  have hB := bx_new (sb r ⟨ka, kn, kc⟩ ⟨va, vn, vc⟩ ⟨ta, tn, tc⟩ cl) 0 nilSl nilSl nilSl false w
  have H5 := Lib.hid h5
  have HF5 := Lib.hid hf5
  have HB := Lib.hid hB
  have HE0 := Lib.hid hE0
  have HK : RowKit.Hid (∀ W, Ext w W → _) := Lib.hid fun W e => clone_words ka kn kc ks W (hK.ext e)
  have HV : RowKit.Hid (∀ W, Ext w W → _) := Lib.hid fun W e => clone_words va vn vc vs W (hV.ext e)
  have HT : RowKit.Hid (∀ W, Ext w W → _) := Lib.hid fun W e => clone_ints ta tn tc vt W (hT.ext e)
  have hk1 := hK.le
  have hv1 := hV.le
  have ht1 := hT.le
  have LK := Lib.hid hK.len
  have LV := Lib.hid hV.len
  have LT := Lib.hid hT.len
  have RK := Lib.hid hK.range
  have RV := Lib.hid hV.range
  have RT := Lib.hid hT.range
  have HR := Lib.hid hr
  obtain ⟨p0, p1, p2, p3, p4⟩ := h5
  have f1 := hf5 1
  clear hK hV hT hr hB hE0 hf5
  dsimp only [sv, sb] at *
  go_enter Tryz.func45, Tryz.ntmps45
  go_wp2_with (fail)
  refine (HK.out _ HE0.out).mono ?_
  rintro e w1 ⟨⟨ka2, kn2, kc2⟩, rfl, hq1, oK, e1⟩
  dsimp only at hq1 oK
  subst hq1
  have f1' := (e1.frozen p1).trans f1
  have f2 := (e1.frozen p2).trans (HF5.out 2)
  have f3 := (e1.frozen p3).trans (HF5.out 3)
  replace p0 := e1.cell p0
  replace p1 := e1.cell p1
  replace p2 := e1.cell p2
  replace p3 := e1.cell p3
  replace p4 := e1.cell p4
  have hsz : w.heap.size + 2 ≤ w1.heap.size := by have := e1.size; simpa using this
  have E1 := Lib.hid ((HE0.out.trans e1).setCell (b := w.heap.size) (o := 1) (Nat.le_refl _) (.slice ka2 kn2 kc2))
  have B1 := Lib.hid (HB.out.ext e1)
  have q0 := set_five (y := .slice ka2 kn2 kc2) p0 (show 0 ≠ 1 by decide)
  have q1 := set_same (y := .slice ka2 kn2 kc2) p1
  have q2 := set_five (y := .slice ka2 kn2 kc2) p2 (show 2 ≠ 1 by decide)
  have q3 := set_five (y := .slice ka2 kn2 kc2) p3 (show 3 ≠ 1 by decide)
  have q4 := set_five (y := .slice ka2 kn2 kc2) p4 (show 4 ≠ 1 by decide)
  have OK1 := Lib.hid oK
  clear oK e1 HB HE0 H5 HF5 HK f1
  go_wp2_with (fail)
  refine (HV.out _ E1.out).mono ?_
  rintro e w2 ⟨⟨va2, vn2, vc2⟩, rfl, hq2, oV, e2⟩
  dsimp only at hq2 oV
  subst hq2
  have f2' := (e2.frozen q2).trans ((World.frozen?_setCell _ _ _ _).trans f2)
  have f3' := (e2.frozen q3).trans ((World.frozen?_setCell _ _ _ _).trans f3)
  replace q0 := e2.cell q0
  replace q1 := e2.cell q1
  replace q2 := e2.cell q2
  replace q3 := e2.cell q3
  replace q4 := e2.cell q4
  have E2 := Lib.hid ((E1.out.trans e2).setCell (b := w.heap.size) (o := 2) (Nat.le_refl _) (.slice va2 vn2 vc2))
  have hsz2 : w1.heap.size ≤ w2.heap.size := by have := e2.size; simpa using this
  have X2 := Lib.hid e2
  have s0 := set_five (y := .slice va2 vn2 vc2) q0 (show 0 ≠ 2 by decide)
  have s1 := set_five (y := .slice va2 vn2 vc2) q1 (show 1 ≠ 2 by decide)
  have s2 := set_same (y := .slice va2 vn2 vc2) q2
  have s3 := set_five (y := .slice va2 vn2 vc2) q3 (show 3 ≠ 2 by decide)
  have s4 := set_five (y := .slice va2 vn2 vc2) q4 (show 4 ≠ 2 by decide)
  have OV1 := Lib.hid oV
  clear oV e2 HV f2 f3 f1' p0 p1 p2 p3 p4
  go_wp2_with (fail)
  refine (HT.out _ E2.out).mono ?_
  rintro e w3 ⟨⟨ta2, tn2, tc2⟩, rfl, hq3, oT, e3⟩
  dsimp only at hq3 oT
  subst hq3
  have f3'' := (e3.frozen s3).trans ((World.frozen?_setCell _ _ _ _).trans f3')
  replace s0 := e3.cell s0
  replace s1 := e3.cell s1
  replace s2 := e3.cell s2
  replace s3 := e3.cell s3
  replace s4 := e3.cell s4
  have E3 := Lib.hid ((E2.out.trans e3).setCell (b := w.heap.size) (o := 3) (Nat.le_refl _) (.slice ta2 tn2 tc2))
  have hsz3 : w2.heap.size ≤ w3.heap.size := by have := e3.size; simpa using this
  have X3 := Lib.hid e3
  have u0 := set_five (y := .slice ta2 tn2 tc2) s0 (show 0 ≠ 3 by decide)
  have u1 := set_five (y := .slice ta2 tn2 tc2) s1 (show 1 ≠ 3 by decide)
  have u2 := set_five (y := .slice ta2 tn2 tc2) s2 (show 2 ≠ 3 by decide)
  have u3 := set_same (y := .slice ta2 tn2 tc2) s3
  have u4 := set_five (y := .slice ta2 tn2 tc2) s4 (show 4 ≠ 3 by decide)
  have OT1 := Lib.hid oT
  clear oT e3 HT f2' f3' q0 q1 q2 q3 q4
  have B3 := ((((((B1.out.set (N := w.heap.size) (i := 1) (x := .slice ka2 kn2 kc2) (by omega)).ext X2.out).set (N := w.heap.size) (i := 2) (x := .slice va2 vn2 vc2) (by omega)).ext X3.out).set (N := w.heap.size) (i := 3) (x := .slice ta2 tn2 tc2) (by omega)))
  obtain ⟨⟨r9, k9, v9, t9, cl9, g0, g1, g2, g3, g4⟩, z⟩ := B3
  have z0 := z 0
  have z1 := z 1
  have z2 := z 2
  have z3 := z 3
  have z4 := z 4
  clear z B1 s0 s1 s2 s4
  go_wp2_with (fail)
  refine bodyPost_ret (v := sv r ⟨ka2, kn2, kc2⟩ ⟨va2, vn2, vc2⟩ ⟨ta2, tn2, tc2⟩ cl) (by simp [results, Tryz.results45, go_sem, g0, g1, g2, g3, g4]) rfl ?_
  have bK := OK1.out.lt
  have bV := OV1.out.lt
  have bT := OT1.out.lt
  simp only [World.size_setCell, World.size_alloc] at bK bV bT
  have nK : ∀ {B : Nat}, B ≤ w.heap.size + 1 → (Value.slice ka2 kn2 kc2).ownBlock ≠ some B := fun hB e => by have := bK _ e; omega
  have nV : ∀ {B : Nat}, B ≤ w.heap.size + 1 → (Value.slice va2 vn2 vc2).ownBlock ≠ some B := fun hB e => by have := bV _ e; omega
  have nT : ∀ {B : Nat}, B ≤ w.heap.size + 1 → (Value.slice ta2 tn2 tc2).ownBlock ≠ some B := fun hB e => by have := bT _ e; omega
  have rK := own_set (i := 3) (y := .slice ta2 tn2 tc2) (own_ext (own_set (i := 2) (y := .slice va2 vn2 vc2) (own_ext (own_set (i := 1) (y := .slice ka2 kn2 kc2) (own_mono (base' := w.heap.size) OK1.out (by simp; omega)) (nK (B := w.heap.size) (by omega))) X2.out) (nK (B := w.heap.size) (by omega))) X3.out) (nK (B := w.heap.size) (by omega))
  have rV := own_set (i := 3) (y := .slice ta2 tn2 tc2) (own_ext (own_set (i := 2) (y := .slice va2 vn2 vc2) (own_mono (base' := w.heap.size) OV1.out (by simp; omega)) (nV (B := w.heap.size) (by omega))) X3.out) (nV (B := w.heap.size) (by omega))
  have rT := own_set (i := 3) (y := .slice ta2 tn2 tc2) (own_mono (base' := w.heap.size) OT1.out (by simp; omega)) (nT (B := w.heap.size) (by omega))
  refine ⟨?_, ⟨ka2, kn2, kc2⟩, ⟨va2, vn2, vc2⟩, ⟨ta2, tn2, tc2⟩, rfl, ?_⟩
  · repeat (first | (with_reducible exact E3.out) | (with_reducible refine Ext.setCell ?_ (Nat.le_succ _) _))
  · have R0 : Rows w.heap.size (w3.setCell ⟨w.heap.size, 3, none⟩ (.slice ta2 tn2 tc2)) ⟨ka2, kn2, kc2⟩ ⟨va2, vn2, vc2⟩ ⟨ta2, tn2, tc2⟩ ⟨r, ks, vs, vt, cl⟩ := by
      refine ⟨rK, rV, rT, ?_, ?_, ?_, HR.out, WS.of_own rK LK.out hk1 RK.out, WS.of_own rV LV.out hv1 RV.out, NS.of_own rT LT.out ht1 RT.out⟩
      · by_cases c : (Value.slice ka2 kn2 kc2).ownBlock = none
        · exact .inl c
        · obtain ⟨g, hg⟩ := Option.ne_none_iff_exists'.1 c
          exact .inr (fun e => by have h1 := bK _ hg; rw [hg] at e; have h2 := bV _ e.symm; omega)
      · by_cases c : (Value.slice ka2 kn2 kc2).ownBlock = none
        · exact .inl c
        · obtain ⟨g, hg⟩ := Option.ne_none_iff_exists'.1 c
          exact .inr (fun e => by have h1 := bK _ hg; rw [hg] at e; have h2 := bT _ e.symm; omega)
      · by_cases c : (Value.slice va2 vn2 vc2).ownBlock = none
        · exact .inl c
        · obtain ⟨g, hg⟩ := Option.ne_none_iff_exists'.1 c
          exact .inr (fun e => by have h1 := bV _ hg; rw [hg] at e; have h2 := bT _ e.symm; omega)
    repeat (first | (with_reducible exact R0) | (with_reducible refine Rows.setB ?_ (nK (Nat.le_refl _)) (nV (Nat.le_refl _)) (nT (Nat.le_refl _)) _ _))

end Go.Proofs.YtdipddnnckfnmaaGreat.Lan

